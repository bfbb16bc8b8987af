package cursor

import "chronicle/api"

// reader is what a cursor and a snapshot share: it stands somewhere, can be closed, and refuses then.
type reader struct {
	begun bool // a zero value was never begun, and is as good as nil
	state int
}

// refusal tells what stands against a piece of such a size.
func (r *reader) refusal(most, bytes int) api.Errno {
	switch {
	case !r.begun:
		return api.ErrNil
	case r.state == api.CurClosed:
		return api.ErrClosed
	case most < 1 || bytes < 1:
		return api.ErrArg
	}
	return api.OK
}

// shut closes it.
func (r *reader) shut() api.Errno {
	e := r.refusal(1, 1)
	if e == api.OK {
		r.state = api.CurClosed
	}
	return e
}
