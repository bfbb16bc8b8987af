package broker

import (
	"slices"

	"chronicle/api"
	"chronicle/catalog"
	"chronicle/manifest"
	"chronicle/quota"
	"chronicle/simfs"
	"chronicle/topic"
)

// Format lays an empty store on a disk that has none.
func Format(d *simfs.Disk, cfg api.Config, now int64) api.Errno {
	if e := check(d, cfg, now); e != api.OK {
		return e
	}
	names, there, e := look(d)
	if e != api.OK {
		return e
	}
	if there {
		return api.ErrStore
	}
	if e := sweep(d, names); e != api.OK {
		return e
	}
	if _, e := topic.Create(d, groupsId, api.MaxSeg, 0, now); e != api.OK {
		return e
	}
	// The catalogue comes last: without it there is no store, and Format can be done again.
	_, e = catalog.Format(d, cfg)
	return e
}

// check tells whether a store may be on such a disk, run in such a way, at such a time.
func check(d *simfs.Disk, cfg api.Config, now int64) api.Errno {
	switch {
	case d == nil:
		return api.ErrNil
	case !mayBe(cfg):
		return api.ErrConfig
	case !isTime(now):
		return api.ErrArg
	}
	return api.OK
}

// mayBe tells whether a store may be run so.
func mayBe(cfg api.Config) bool {
	if cfg.Limit < api.MinSeg || cfg.Limit > api.MaxSeg {
		return false
	}
	if cfg.Horizon < 0 || cfg.Horizon > api.MaxHorizon || cfg.Share < 1 || cfg.Share > 100 {
		return false
	}
	if !throttles(cfg) {
		return true
	}
	_, e := quota.New(cfg.Num, cfg.Den, cfg.Burst, 0)
	return e == api.OK
}

// throttles tells whether connections have buckets.
func throttles(cfg api.Config) bool { return cfg.Num != 0 || cfg.Den != 0 || cfg.Burst != 0 }

func isTime(now int64) bool { return 0 <= now && now < api.MaxTime }

// look tells which files a disk has, and whether a catalogue, of whatever bytes, is among them.
func look(d *simfs.Disk) ([]string, bool, api.Errno) {
	names, e := d.List()
	return names, slices.Contains(names, manifest.Name(api.FileName{Kind: api.NCatalogue})), e
}

// sweep takes away what an unfinished Format has left.
func sweep(d *simfs.Disk, names []string) api.Errno {
	swept := 0
	for _, name := range names {
		if manifest.Parse(name).Kind == api.NOther {
			continue
		}
		if e := d.Remove(name); e != api.OK {
			return e
		}
		swept++
	}
	if swept == 0 {
		return api.OK
	}
	return d.SyncDir()
}
