package simfs

import "bytes"

// change is what an operation does to a state. It may build on the memory of the state that it is given, which is of no use behind that.
type change[S any] interface {
	onto(state S) S
}

// twice keeps a state both as the program sees it and as it is durable, and the changes that lead from the one to the other.
// The two share no memory, so that a change may be done in place.
type twice[S any, C change[S]] struct {
	seen, durable S
	changes       []C
}

// do lets the program see a change.
func (t *twice[S, C]) do(c C) {
	t.seen = c.onto(t.seen)
	t.changes = append(t.changes, c)
}

// settle makes durable what is seen. Only what has changed is gone through: a file is synced far more often than it is read whole.
func (t *twice[S, C]) settle() {
	t.durable = after(t.durable, t.changes)
	t.changes = nil
}

// past is the state that was seen n changes behind the durable one, in new memory.
func (t *twice[S, C]) past(n int, clone func(S) S) S {
	return after(clone(t.durable), t.changes[:n])
}

// after is a state with changes done to it, in their order.
func after[S any, C change[S]](state S, changes []C) S {
	for _, c := range changes {
		state = c.onto(state)
	}
	return state
}

// file is the bytes of a file, whatever it is called.
type file struct {
	twice[[]byte, fileChange]
}

// fileChange is a change of a file's bytes.
type fileChange interface {
	change[[]byte]
	// torn is what stands behind the file's bytes, if the power goes in the midst of the change.
	torn(c *choice) []byte
}

// loaded is a file that has these bytes, all of them durable.
func loaded(b []byte) *file {
	f := &file{}
	f.seen, f.durable = bytes.Clone(b), bytes.Clone(b)
	return f
}

// addition puts bytes behind those of a file.
type addition struct{ b []byte }

func (a addition) onto(state []byte) []byte { return append(state, a.b...) }

func (a addition) torn(c *choice) []byte { return a.b[:c.upTo(len(a.b))] }

// truncation leaves the first bytes of a file.
type truncation struct{ n int }

func (t truncation) onto(state []byte) []byte { return state[:t.n] }

func (t truncation) torn(*choice) []byte { return nil }

// directory says which name leads to which file.
type directory map[string]*file

// creation lets a name lead to a file.
type creation struct {
	name string
	f    *file
}

func (c creation) onto(dir directory) directory {
	if dir == nil {
		dir = directory{}
	}
	dir[c.name] = c.f
	return dir
}

// renaming lets another name lead to a file, in the place of what it led to.
type renaming struct{ from, to string }

func (r renaming) onto(dir directory) directory {
	dir[r.to] = dir[r.from]
	delete(dir, r.from)
	return dir
}

// removal lets a name lead to no file.
type removal struct{ name string }

func (r removal) onto(dir directory) directory {
	delete(dir, r.name)
	return dir
}
