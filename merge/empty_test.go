package merge_test

import (
	"fmt"
	"slices"
	"strings"
	"testing"

	"chronicle/api"
	"chronicle/merge"
	"chronicle/simfs"
	"chronicle/topic"
)

// layouts is old segments with records (r: two that are needed; s: one that is superseded; o: an old tombstone) and without (-), in all ways that few of them can stand.
func layouts() []string {
	list := []string{"-", "--", "---", "r", "s", "o"}
	for _, with := range strings.Fields("r s o rr rs sr or ro ss so os oo") {
		for _, empties := range strings.Fields("100 010 001 110 011 101 111 002 200 020 212") {
			layout := ""
			for i, n := range []byte(empties) {
				layout += strings.Repeat("-", int(n-'0'))
				if i < len(with) {
					layout += with[i : i+1]
				}
			}
			list = append(list, layout)
		}
	}
	return list
}

// laidOut is a topic with such sealed segments, from 1 on, at the time 10.
func laidOut(t *testing.T, layout string) (*simfs.Disk, *topic.Topic) {
	t.Helper()
	var shelves []shelf
	var later []api.Record
	off := int64(0)
	for i, c := range layout {
		one := shelf{number: i + 1}
		key := fmt.Sprint("k", i)
		switch c {
		case 'r':
			one.recs = []api.Record{put(off, key, "1"), put(off+1, key+"b", "2")}
		case 's':
			one.recs = []api.Record{put(off, key, "1")}
			later = append(later, put(0, key, "2"))
		case 'o':
			one.recs = []api.Record{gone(off, key)}
		}
		off += int64(len(one.recs))
		shelves = append(shelves, one)
	}
	for i := range later {
		later[i].Offset = off + int64(i)
	}
	d := stored(t, api.Manifest{}, append(shelves, shelf{len(layout) + 1, later})...)
	p := opened(t, d)
	p.Tick(10)
	want(t, layout+": sealed", len(p.Sealed()), len(layout))
	for i, s := range p.Stats() {
		want(t, layout+": a segment has no record", s.Count == 0, layout[i] == '-')
	}
	return d, p
}

// deals tells whether a step deals with a record for good.
func deals(s api.MergeStep) bool {
	return s.Kind == api.MgKeep || s.Kind == api.MgDrop || s.Kind == api.MgTomb
}

// looksAhead tells whether the step behind the first n ones of a merge asks the topic for a record: some are left, or old segments without records are, which no step has come to yet.
func looksAhead(layout string, steps []api.MergeStep, n int) bool {
	if slices.ContainsFunc(steps[n:], deals) {
		return steps[n].Kind != api.MgHint
	}
	return strings.HasSuffix(layout, "-") && (n == 0 || deals(steps[n-1]))
}

// inDropped is what a step comes to that is the first one in a dropped topic.
func inDropped(s api.MergeStep, ahead bool) (api.MergeStep, api.Errno) {
	give := does(api.MgGive, 0, 0)
	switch {
	case ahead || s.Kind == api.MgCommit:
		return give, api.ErrGone
	case s.Kind == api.MgSeal:
		return give, api.ErrNoFile // the file went with the topic's others
	case s.Kind == api.MgRemove:
		return s, api.ErrNoFile
	}
	return s, api.OK
}

// 11.5: old segments without records are no steps of their own, wherever they stand.
func TestOldsWithoutRecordsAnywhere(t *testing.T) {
	for _, layout := range layouts() {
		_, p := laidOut(t, layout)
		recs, _ := p.Records()
		var kept []api.Record
		for _, r := range recs {
			if p.Needed(10, r) {
				kept = append(kept, r)
			}
		}
		steps := run(t, begun(t, p), 10)
		dealt, removed := 0, 0
		for _, s := range steps {
			if deals(s) {
				dealt++
			}
			if s.Kind == api.MgRemove {
				removed++
			}
		}
		want(t, layout+": records", dealt, len(layout)-strings.Count(layout, "-")+strings.Count(layout, "r"))
		want(t, layout+": removals", removed, len(layout))
		want(t, layout+": steps enough", len(steps) <= merge.Steps(len(layout), dealt), true)
		wantRecords(t, layout, p, kept...)
	}
}

// 11.5, 11.6: the topic is dropped between two steps. A step asks it for the next record first of all, of segments without records too.
func TestDropsAmongOldsWithoutRecords(t *testing.T) {
	count := map[string]int{}
	for _, layout := range layouts() {
		_, p := laidOut(t, layout)
		steps := run(t, begun(t, p), 10)
		for n, step := range steps {
			d, p := laidOut(t, layout)
			m := begun(t, p)
			wantSteps(t, m, 10, steps[:n]...)
			want(t, "Drop", p.Drop(), api.OK)
			ahead := looksAhead(layout, steps, n)
			did, errno := inDropped(step, ahead)
			what := fmt.Sprintf("%s, dropped behind %d steps", layout, n)
			wantStep(t, what, m, 10, did, errno)
			if did.Kind == api.MgGive {
				want(t, what+": Over", m.Over(), true)
				wantStep(t, what+", again", m, 10, api.MergeStep{}, api.ErrOver)
			}
			for range 20 {
				m.Step(10)
			}
			want(t, what+": Over in the end", m.Over(), true)
			wantList(t, what+": files", names(d.Image()), nil)
			if ahead && !slices.ContainsFunc(steps[n:], deals) {
				count[fmt.Sprint("only segments without records are left, instead of ", step.Kind)]++
			}
		}
	}
	want(t, "a new segment was open", count[fmt.Sprint("only segments without records are left, instead of ", api.MgSeal)] > 10, true)
	want(t, "none was made", count[fmt.Sprint("only segments without records are left, instead of ", api.MgDir)] > 10, true)
}

// 11.6: an old segment that is none of the sealed any more, because somebody has released the topic and merged it, is not one without records: what the topic answers is a refusal.
func TestOldsThatAreGone(t *testing.T) {
	for _, layout := range strings.Fields("- r s -r r- -r- rr") {
		d, p := laidOut(t, layout)
		m := begun(t, p)
		p.Release()
		run(t, begun(t, p), 10)
		files := names(d.Image())
		recs, _ := p.Records()
		wantStep(t, layout, m, 10, does(api.MgGive, 0, 0), api.ErrPlace)
		wantOver(t, layout, m, p)
		wantList(t, layout+": files", names(d.Image()), files)
		wantRecords(t, layout, p, recs...)
	}
}
