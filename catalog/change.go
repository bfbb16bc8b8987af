package catalog

import (
	"maps"
	"strings"

	"chronicle/api"
	"chronicle/manifest"
	"chronicle/topic"
)

// Create makes a topic and tells its number.
func (c *Catalog) Create(name string, horizon, now int64) (int, api.Errno) {
	if e := c.refusal(name, horizon, now); e != api.OK {
		return 0, e
	}
	if horizon == 0 {
		horizon = c.horizon
	}
	id := c.nextId
	if e := c.establish(id, name, horizon, now); e != api.OK {
		return 0, e
	}
	return id, api.OK
}

// refusal tells what stands against a Create, whatever the disk says.
func (c *Catalog) refusal(name string, horizon, now int64) api.Errno {
	if c.isNone() {
		return api.ErrNil
	}
	if e := manifest.CheckName(name); e != api.OK {
		return e
	}
	_, there := c.topics[name]
	switch {
	case there:
		return api.ErrTopicExists
	case len(c.topics) == api.MaxTopics || c.nextId == api.MaxId:
		return api.ErrTopics
	case !isHorizon(horizon):
		return api.ErrConfig
	case !isTime(now):
		return api.ErrArg
	}
	return api.OK
}

// establish makes a topic's files, and then lets it be one of the topics. If that is refused, the files are taken away.
func (c *Catalog) establish(id int, name string, horizon, now int64) (e api.Errno) {
	defer func() {
		if e != api.OK {
			c.sweep(id)
		}
	}()
	t, e := topic.Create(c.disk, id, c.limit, horizon, now)
	if e != api.OK {
		return e
	}
	topics := maps.Clone(c.topics)
	topics[strings.Clone(name)] = t // the name may be a piece of a long text, which is not to be kept
	return c.commit(id+1, topics)
}

// Drop takes a topic away.
func (c *Catalog) Drop(name string) api.Errno {
	t, e := c.Topic(name)
	if e != api.OK {
		return e
	}
	topics := maps.Clone(c.topics)
	delete(topics, name)
	if e := c.commit(c.nextId, topics); e != api.OK {
		return e
	}
	t.Drop() // ErrGone, if whoever holds it has dropped it already
	c.sweep(t.Id())
	return c.disk.SyncDir() // if the power went ahead of it, this says so too
}

// commit lets these be the topics. The saving of the catalogue is the moment: if it is refused, nothing is changed.
func (c *Catalog) commit(nextId int, topics byName) api.Errno {
	if e := manifest.SaveCatalogue(c.disk, topics.catalogue(nextId)); e != api.OK {
		return e
	}
	c.nextId, c.topics = nextId, topics
	return api.OK
}

// catalogue is what the file says of these topics.
func (b byName) catalogue(nextId int) api.Catalogue {
	all := api.Catalogue{NextId: nextId}
	for _, name := range b.rising() {
		t := b[name]
		all.Topics = append(all.Topics, api.TopicEntry{Id: t.Id(), Name: name, Limit: t.Limit(), Horizon: t.Horizon()})
	}
	return all
}

// sweep takes the files of a topic's number away, as far as the disk lets it: what is left belongs to no topic, and the next Open takes it away.
func (c *Catalog) sweep(id int) {
	names, _ := c.disk.List()
	for _, name := range names {
		if manifest.Parse(name).Id == id { // names that are no topic's say 0: no topic of a catalogue has that
			c.disk.Remove(name)
		}
	}
}
