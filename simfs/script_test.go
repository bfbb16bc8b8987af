package simfs_test

import (
	"strconv"
	"strings"
	"testing"

	"chronicle/api"
	"chronicle/simfs"
)

// op is a changing operation. Which of its parts are used hangs on the verb.
type op struct {
	verb, name, to, data string
	n                    int
}

// on does an operation on a disk.
func (o op) on(d *simfs.Disk) api.Errno {
	switch o.verb {
	case "create":
		return d.Create(o.name)
	case "append":
		return d.Append(o.name, []byte(o.data))
	case "truncate":
		return d.Truncate(o.name, o.n)
	case "sync":
		return d.Sync(o.name)
	case "syncdir":
		return d.SyncDir()
	case "rename":
		return d.Rename(o.name, o.to)
	case "remove":
		return d.Remove(o.name)
	}
	panic("no such operation: " + o.verb)
}

// parse reads an operation such as "append a xy"; "append a" is one of no bytes.
func parse(line string) op {
	w := append(strings.Fields(line), "", "", "")
	o := op{verb: w[0], name: w[1]}
	switch o.verb {
	case "append":
		o.data = w[2]
	case "truncate":
		o.n, _ = strconv.Atoi(w[2])
	case "rename":
		o.to = w[2]
	}
	return o
}

// do does the operations of a text, with semicolons between them; all of them must be done.
func do(t *testing.T, d *simfs.Disk, text string) {
	t.Helper()
	for line := range strings.SplitSeq(text, ";") {
		if strings.TrimSpace(line) == "" {
			continue
		}
		if e := parse(line).on(d); e != api.OK {
			t.Fatalf("%s: %s = %d", text, line, e)
		}
	}
}

// fresh is a new disk of 100 bytes on which the operations of a text have been done.
func fresh(t *testing.T, text string) *simfs.Disk {
	t.Helper()
	d, e := simfs.New(100)
	if d == nil || e != api.OK {
		t.Fatalf("New(100) = %v, %d", d, e)
	}
	do(t, d, text)
	return d
}

// load is a disk of 100 bytes with an image such as "a:xy b:".
func load(t *testing.T, text string) *simfs.Disk {
	t.Helper()
	d, e := simfs.Load(image(text), 100)
	if d == nil || e != api.OK {
		t.Fatalf("Load(%s) = %v, %d", text, d, e)
	}
	return d
}

// image reads an image such as "a:xy b:".
func image(text string) []api.File {
	var list []api.File
	for _, w := range strings.Fields(text) {
		name, data, _ := strings.Cut(w, ":")
		list = append(list, api.File{Name: name, Data: []byte(data)})
	}
	return list
}

// shown is an image as a text: "a:xy b:".
func shown(list []api.File) string {
	var words []string
	for _, f := range list {
		words = append(words, f.Name+":"+string(f.Data))
	}
	return strings.Join(words, " ")
}

// want fails if an answer is another one than is wanted.
func want[T comparable](t *testing.T, what string, got, wanted T) {
	t.Helper()
	if got != wanted {
		t.Errorf("%s: %v, want %v", what, got, wanted)
	}
}

// looks is all that can be asked of a disk without changing it, with what some picks leave of it.
func looks(d *simfs.Disk) string {
	names, e := d.List()
	all := []string{
		"list", strings.Join(names, ","), strconv.Itoa(int(e)),
		"used", strconv.Itoa(d.Used()), "quota", strconv.Itoa(d.Quota()), "ops", strconv.Itoa(d.Ops()), "dead", strconv.FormatBool(d.Dead()),
		"image", shown(d.Image()),
	}
	for _, f := range d.Image() {
		size, e := d.Size(f.Name)
		data, e2 := d.Read(f.Name, 0, 1<<40)
		all = append(all, f.Name, strconv.Itoa(size), strconv.Itoa(int(e)), string(data), strconv.Itoa(int(e2)))
	}
	for dir := range 5 {
		for _, rest := range [][]int{nil, {1}, {0, 1}, {2}, {1, 1}, {3}, {-1, -1, -1}, {0, -1, 0, -1}} {
			all = append(all, "crash", shown(d.Crash(append([]int{dir}, rest...))))
		}
	}
	return strings.Join(all, " ")
}
