package broker

import (
	"testing"

	"chronicle/api"
	"chronicle/simfs"
	"chronicle/topic"
)

// 20.14: a merge that can't be started. No call of a broker leads there: so its topics are held here, as another merge would hold them.
func TestMergeThatCannotBegin(t *testing.T) {
	d, _ := simfs.New(1 << 20)
	cfg := api.Config{Limit: 256, Share: 50}
	if e := Format(d, cfg, 0); e != api.OK {
		t.Fatal(e)
	}
	b, e := Open(d, cfg, 0)
	if e != api.OK {
		t.Fatal(e)
	}
	for _, name := range []string{"a", "b", "c"} {
		id, e := b.catalog.Create(name, 0, 0)
		if e != api.OK {
			t.Fatal(e)
		}
		b.topics[id], _ = b.catalog.ById(id)
		grow(t, b.topics[id])
	}
	b.topics[2].Hold()
	for i, wanted := range []api.Did{
		{What: api.DidMerge, Topic: 1, Kind: api.MgDrop},
		{What: api.DidMerge, Topic: 2, Kind: api.MgGive},
		{What: api.DidMerge, Topic: 3, Kind: api.MgDrop},
		{What: api.DidMerge, Topic: 1, Kind: api.MgDrop},
		{What: api.DidMerge, Topic: 2, Kind: api.MgGive},
	} {
		if did, e := b.Step(0, api.ClMerge); did != wanted || e != api.OK {
			t.Errorf("step %d: %+v, %d, want %+v", i, did, e, wanted)
		}
		if got := b.State().Merges; got != min(i/2+1, 2) {
			t.Errorf("step %d: %d open merges", i, got)
		}
	}
	b.topics[2].Release()
	b.Step(0, api.ClMerge)
	b.Step(0, api.ClMerge)
	if did, _ := b.Step(0, api.ClMerge); did != (api.Did{What: api.DidMerge, Topic: 2, Kind: api.MgDrop}) {
		t.Errorf("when it is released: %+v", did)
	}
}

// What is no loss of power is not taken for one: a fault in the program stays to be seen.
func TestOtherPanicsGoOn(t *testing.T) {
	d, _ := simfs.New(1 << 20)
	cfg := api.Config{Limit: 256, Share: 50}
	Format(d, cfg, 0)
	b, _ := Open(d, cfg, 0)
	b.clients[1] = nil // no call does this
	defer func() {
		if recover() == nil || b.State().Dead {
			t.Errorf("a fault was taken for a loss of power")
		}
	}()
	b.Step(0, 0)
}

// grow writes one key to a topic until four of its records lie in sealed segments.
func grow(t *testing.T, p *topic.Topic) {
	t.Helper()
	for range 5 {
		if _, _, e := p.Append(0, api.Write{Key: "k", Value: string(make([]byte, 90))}); e != api.OK {
			t.Fatal(e)
		}
		if e := p.Roll(); e != api.OK {
			t.Fatal(e)
		}
	}
}
