package chronicle_test

import (
	"strings"
	"testing"
	"unsafe"

	"chronicle/probe"
)

// The files that are answered are new memory: who writes into them, and behind their ends, changes no later answer.
func TestFilesAreNew(t *testing.T) {
	text := texts(merging(9)...)
	first := run(text, wide, usual())
	key := probe.Key(first.files)
	second := run(text, wide, usual())
	for i, f := range second.files {
		probe.Scribble(f.Data)
		second.files[i].Name = "x"
		for _, other := range second.files[i+1:] {
			want(t, "no two files share bytes", len(f.Data) > 0 && len(other.Data) > 0 && &f.Data[0] == &other.Data[0], false)
		}
	}
	_ = append(second.files, second.files...)
	probe.Scribble(second.files)
	want(t, "the files of another run", probe.Key(first.files), key)
	want(t, "the files of a later run", probe.Key(run(text, wide, usual()).files), key)
}

// No bytes of one file are those of another, with the room behind their ends.
func TestFilesApart(t *testing.T) {
	got := run(texts(merging(9)...), wide, usual())
	var whole []string
	for _, f := range got.files {
		whole = append(whole, string(f.Data))
	}
	for i, f := range got.files {
		probe.Scribble(f.Data)
		for j := i + 1; j < len(got.files); j++ {
			want(t, "another file", string(got.files[j].Data), whole[j])
		}
	}
}

// The text is neither changed nor kept.
func TestTextIsNotKept(t *testing.T) {
	script := texts(append(merging(9), "open 1", "say 1 1 create some-name 0", "say 1 2 put some-name key value 0 0", "steps 0 0 1", "raw 1 c5c5c5", "state", "take 1 9999")...)
	wanted := run(script, wide, usual())
	b := []byte(script)
	got := run(unsafe.String(&b[0], len(b)), wide, usual())
	want(t, "the text is as it was", string(b), script)
	clear(b)
	got.want(t, "what was answered is of its own memory", wanted)
	want(t, "it tells the name", strings.Contains(got.told, "topic some-name "), true)
}
