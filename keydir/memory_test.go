package keydir_test

import (
	"math"
	"strings"
	"testing"
	"unsafe"

	"chronicle/api"
	"chronicle/keydir"
	"chronicle/probe"
)

// 8.10

func TestListsAreNewMemory(t *testing.T) {
	d, s := filled(five())
	for _, limit := range []int{1, 4, 5, 6, math.MaxInt} {
		first, second := d.Range("", "", limit), d.Range("", "", limit)
		wanted := s.all("", "")[:min(5, limit)]
		probe.Scribble(append(first, api.KeyEntry{Key: "more"}))
		probe.Scribble(first)
		wantList(t, "a second list", second, wanted)
		wantList(t, "a third list", d.Range("", "", limit), wanted)
		wantKeys(t, "the dir behind what was done to its lists", d, s)
	}
}

// A list stays as it is, whatever is done to the dir.
func TestListsOutliveChanges(t *testing.T) {
	d, s := filled(five())
	list, wanted := d.Range("", "", 9), s.all("", "")
	x, _ := d.Nth(2)
	for _, k := range five() {
		d.Point(k, 0, 1, 2)
		d.Put(k, full(99))
		d.Remove(k)
	}
	wantList(t, "a list of what was there", list, wanted)
	want(t, "a key of what was there", x, wanted[2])
}

// A key that is a piece of a long text does not keep that text.
func TestKeysAreNotKept(t *testing.T) {
	text := strings.Repeat("some long text ", 1000)
	d := keydir.New()
	d.Put(text[5:9], full(1))
	d.Note(text[6:10], full(2))
	d.Put(text[20:24], full(3))
	d.Point(text[21:25], 2, 3, 4)
	from := uintptr(unsafe.Pointer(unsafe.StringData(text)))
	for k := range d.All("", "") {
		if at := uintptr(unsafe.Pointer(unsafe.StringData(k))); from <= at && at < from+uintptr(len(text)) {
			t.Errorf("the key %q is a piece of what was handed in", k)
		}
	}
	want(t, "Len", d.Len(), 2)
}
