package simfs_test

import (
	"slices"
	"testing"

	"chronicle/api"
	"chronicle/probe"
	"chronicle/simfs"
)

// scribble writes over all that a list has, and behind it.
func scribble(b []byte) {
	b = b[:cap(b)]
	for i := range b {
		b[i] = '#'
	}
}

// scribbleImage does so to an image and to the bytes in it.
func scribbleImage(list []api.File) {
	list = list[:cap(list)]
	for i := range list {
		scribble(list[i].Data)
		list[i] = api.File{Name: "#"}
	}
}

// 3.15
func TestBytesAppended(t *testing.T) {
	for _, text := range []string{"", "x", "some bytes"} {
		d := fresh(t, "create a; append a 1")
		b, same := probe.Roomy(text)
		want(t, "Append", d.Append("a", b), api.OK)
		before := looks(d)
		if !same() {
			t.Errorf("Append changes %q, or what is behind it", text)
		}
		scribble(b)
		want(t, "the disk behind a write into what was handed in", looks(d), before)
		do(t, d, "append a 2")
		want(t, "Image", shown(d.Image()), "a:1"+text+"2")
		want(t, "Crash", shown(d.Crash([]int{1, 1, 1})), "a:1"+text[:min(1, len(text))])
		do(t, d, "sync a; syncdir")
		want(t, "Crash", shown(d.Crash(nil)), "a:1"+text+"2")
	}
}

func TestImageLoaded(t *testing.T) {
	first, sameFirst := probe.Roomy("xy")
	second, sameSecond := probe.Roomy("")
	whole := []api.File{{Name: "a", Data: first}, {Name: "b", Data: second}, {Name: "c", Data: []byte("behind")}}
	d, e := simfs.Load(whole[:2], 100)
	want(t, "Load", e, api.OK)
	do(t, d, "append a 12345; truncate a 1; append a 6; append b 7; sync b; rename a c; create a; remove b; syncdir")
	if !sameFirst() || !sameSecond() || shown(whole) != "a:xy b: c:behind" {
		t.Errorf("the image is changed, or what is behind it")
	}
	again, _ := simfs.Load(whole[:2], 100)
	do(t, again, "append b 1")
	before := looks(again)
	scribbleImage(whole)
	want(t, "the disk behind a write into the image", looks(again), before)
	simfs.Load(whole, -1)
	simfs.Load(whole, 1)
	want(t, "what is refused", shown(whole), "#: #: #:")
}

func TestPicksHandedIn(t *testing.T) {
	d := fresh(t, "create a; append a xy; create b")
	whole := []int{-1, 7, -9, 4, 5, 6}
	d.Crash(whole[:3])
	d.Crash(whole[:1])
	if !slices.Equal(whole, []int{-1, 7, -9, 4, 5, 6}) {
		t.Errorf("Crash changes the picks: %v", whole)
	}
}

func TestWhatIsHandedOut(t *testing.T) {
	for name, use := range map[string]func(d *simfs.Disk){
		"Read":             func(d *simfs.Disk) { b, _ := d.Read("a", 1, 2); scribble(b) },
		"Read of all":      func(d *simfs.Disk) { b, _ := d.Read("a", 0, 9); scribble(b) },
		"Read of none":     func(d *simfs.Disk) { b, _ := d.Read("a", 1, 0); scribble(append(b, "zz"...)) },
		"Read and append":  func(d *simfs.Disk) { b, _ := d.Read("a", 0, 1); scribble(append(b, "zz"...)) },
		"List":             func(d *simfs.Disk) { l, _ := d.List(); l = l[:cap(l)]; clear(l) },
		"Image":            func(d *simfs.Disk) { scribbleImage(d.Image()) },
		"Crash":            func(d *simfs.Disk) { scribbleImage(d.Crash(nil)) },
		"Crash of all":     func(d *simfs.Disk) { scribbleImage(d.Crash([]int{-1, -1, -1, -1})) },
		"Crash torn":       func(d *simfs.Disk) { scribbleImage(d.Crash([]int{0, 0, 1, 0, 1})) },
		"Crash in between": func(d *simfs.Disk) { scribbleImage(d.Crash([]int{1, 1, 1, 1, 1})) },
	} {
		d := fresh(t, "create a; append a xyz; sync a; create b; append b 12; syncdir; append a 4; truncate a 2; append a 567; create c; append c k; rename c d")
		before := looks(d)
		use(d)
		want(t, "the disk behind a write into what "+name+" answered", looks(d), before)
		do(t, d, "append a; append b; sync a; sync b; sync d; syncdir")
		want(t, "and behind more of it", shown(d.Crash(nil)), "a:xy567 b:12 d:k")
	}
}

// R3: no two lists of one answer share memory, nor does one answer with another.
func TestAnswersShareNothing(t *testing.T) {
	d := load(t, "a:xy b: c:12")
	do(t, d, "append b 3; append a z")
	for _, ask := range []func() []api.File{d.Image, func() []api.File { return d.Crash(nil) }, func() []api.File { return d.Crash([]int{0, 1, 0, 1}) }} {
		one, two := ask(), ask()
		wanted := shown(two)
		for i := range one {
			before := shown(one[i+1:])
			scribble(append(one[i].Data, "0123456789"...))
			scribble(one[i].Data)
			want(t, "the files behind", shown(one[i+1:]), before)
		}
		scribbleImage(one)
		want(t, "the other answer", shown(two), wanted)
	}
}
