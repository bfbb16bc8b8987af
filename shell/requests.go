package shell

import (
	"slices"

	"chronicle/api"
	"chronicle/wire"
)

func writeSay(w *writer, c api.Command) {
	writeConn(w, c)
	w.number(int64(c.Request.Id))
	w.word(operationWords()[c.Request.Op]) // a request that may be has one
	for _, at := range usedOf(&c.Request, textsOf, "x") {
		w.text(*at)
	}
	for _, at := range usedOf(&c.Request, numbersOf, 1) {
		w.number(*at)
	}
}

func readSay(r *reader, c *api.Command) {
	readConn(r, c)
	c.Request.Id = uint32(r.number())
	c.Request.Op = slices.Index(operationWords(), r.word())
	for _, at := range usedOf(&c.Request, textsOf, "x") {
		*at = r.text()
	}
	for _, at := range usedOf(&c.Request, numbersOf, 1) {
		*at = r.number()
	}
}

// textsOf is the texts of a request, in the order in which they are written.
func textsOf(r *api.Request) []*string { return []*string{&r.Topic, &r.Key, &r.Value} }

// numbersOf is the numbers of a request, in the order in which they are written, behind the texts.
func numbersOf(r *api.Request) []*int64 { return []*int64{&r.Offset, &r.Number, &r.Pid, &r.Seq} }

// usedOf is those of a request's fields that its operation uses. Wire says which these are: with something in one field alone a request is right just if that one is used.
func usedOf[T any](r *api.Request, fieldsOf func(*api.Request) []*T, something T) []*T {
	var used []*T
	for i, at := range fieldsOf(r) {
		sample := api.Request{Op: r.Op}
		*fieldsOf(&sample)[i] = something
		if wire.CheckRequest(sample) == api.OK {
			used = append(used, at)
		}
	}
	return used
}
