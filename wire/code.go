package wire

import "chronicle/api"

// CodeOf tells the code that tells an error.
func CodeOf(e api.Errno) int {
	switch e {
	case api.OK:
		return api.CodeOK
	case api.ErrNoTopic, api.ErrGone:
		return api.CodeNoTopic
	case api.ErrTopicExists:
		return api.CodeExists
	case api.ErrSpace, api.ErrFiles, api.ErrSegs, api.ErrLive:
		return api.CodeFull
	case api.ErrOffsets:
		return api.CodeOffsets
	case api.ErrHorizon:
		return api.CodeHorizonPassed
	case api.ErrSeq, api.ErrStale, api.ErrPid, api.ErrFenced:
		return api.CodeSequence
	case api.ErrProds, api.ErrTopics, api.ErrSubs, api.ErrSnaps, api.ErrOwed, api.ErrInbox, api.ErrConns:
		return api.CodeTooMany
	case api.ErrNoSub, api.ErrNoGroup:
		return api.CodeNoSuch
	case api.ErrPos, api.ErrPlaceless:
		return api.CodeBeyond
	}
	return api.CodeBadRequest
}
