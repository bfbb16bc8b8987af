package wire_test

import (
	"fmt"
	"math"
	"testing"

	"chronicle/api"
	"chronicle/wire"
)

// codes is the chapter's table, by the numbers that the errors have.
func codes() map[api.Errno]int {
	return map[api.Errno]int{
		0: 0, 141: 2, 105: 2, 142: 3,
		33: 4, 35: 4, 102: 4, 103: 4,
		101: 5, 120: 6,
		90: 8, 91: 8, 93: 8, 151: 8,
		92: 9, 143: 9, 182: 9, 183: 9, 184: 9, 180: 9, 200: 9,
		185: 10, 152: 10,
		122: 11, 153: 11,
	}
}

// 16.7
func TestCodes(t *testing.T) {
	for e := api.Errno(-400); e < 1200; e++ {
		code, ok := codes()[e]
		if !ok {
			code = 1
		}
		want(t, fmt.Sprintf("CodeOf(%d)", e), wire.CodeOf(e), code)
	}
	for _, e := range []api.Errno{math.MinInt, math.MaxInt, 1 << 32, 1<<32 + 141, 256 + 33, -141} {
		want(t, fmt.Sprintf("CodeOf(%d)", e), wire.CodeOf(e), 1)
	}
}

func TestCodesByName(t *testing.T) {
	for code, list := range map[int][]api.Errno{
		api.CodeOK:            {api.OK},
		api.CodeNoTopic:       {api.ErrNoTopic, api.ErrGone},
		api.CodeExists:        {api.ErrTopicExists},
		api.CodeFull:          {api.ErrSpace, api.ErrFiles, api.ErrSegs, api.ErrLive},
		api.CodeOffsets:       {api.ErrOffsets},
		api.CodeHorizonPassed: {api.ErrHorizon},
		api.CodeSequence:      {api.ErrSeq, api.ErrStale, api.ErrPid, api.ErrFenced},
		api.CodeTooMany:       {api.ErrProds, api.ErrTopics, api.ErrSubs, api.ErrSnaps, api.ErrOwed, api.ErrInbox, api.ErrConns},
		api.CodeNoSuch:        {api.ErrNoSub, api.ErrNoGroup},
		api.CodeBeyond:        {api.ErrPos, api.ErrPlaceless},
		api.CodeBadRequest:    {api.ErrNil, api.ErrArg, api.ErrKey, api.ErrDead, api.ErrExists, api.ErrGroup, api.ErrFrame, api.ErrHuge, api.ErrNoConn, -5},
	} {
		for _, e := range list {
			want(t, fmt.Sprintf("CodeOf(%d)", e), wire.CodeOf(e), code)
		}
	}
}

// Every code that is told travels in a response.
func TestCodesTravel(t *testing.T) {
	for e := range codes() {
		want(t, fmt.Sprint("the code of ", e), wire.CheckResponse(api.Response{Op: 1, Code: wire.CodeOf(e)}), api.OK)
	}
}
