package broker

import (
	"chronicle/api"
	"chronicle/merge"
	"chronicle/sched"
)

// Step does one thing.
func (b *Broker) Step(now int64, pick int) (did api.Did, errno api.Errno) {
	if e := b.refusal(); e != api.OK {
		return api.Did{}, e
	}
	if !isTime(now) {
		return api.Did{}, api.ErrArg
	}
	b.clock = max(b.clock, now)
	defer func() {
		switch lost := recover(); lost {
		case nil:
		case api.ErrDead:
			b.dead = true
			did, errno = api.Did{}, api.ErrDead
		default:
			panic(lost)
		}
	}()
	return b.step(pick), api.OK
}

// survived is an error that the store goes on behind. A loss of power it does not: whatever is being done, however deep inside, is given up, up to Step.
func survived(e api.Errno) api.Errno {
	if e == api.ErrDead {
		panic(e)
	}
	return e
}

// step does the one thing, and lets those know who wait for what has been committed by it.
func (b *Broker) step(pick int) api.Did {
	before := b.ends()
	deeds := [api.NumClasses]func(*Broker) api.Did{
		api.ClRequest: (*Broker).request,
		api.ClCommit:  (*Broker).commit,
		api.ClDeliver: (*Broker).deliver,
		api.ClMerge:   (*Broker).mergeOn,
	}
	classes, class := sched.Class(b.classes, b.work(), pick)
	b.classes = classes
	if class < 0 {
		return api.Did{What: api.DidNothing}
	}
	did := deeds[class](b)
	b.settle(before)
	return did
}

// work tells which classes have something to do.
func (b *Broker) work() [api.NumClasses]bool {
	return [api.NumClasses]bool{
		api.ClRequest: b.isAsked(),
		api.ClCommit:  len(b.uncommitted()) > 0,
		api.ClDeliver: len(b.ready()) > 0,
		api.ClMerge:   len(b.mergeable()) > 0,
	}
}

// isAsked tells whether a request waits.
func (b *Broker) isAsked() bool {
	for _, c := range b.clients {
		if c.session.State().Inbox > 0 {
			return true
		}
	}
	return false
}

// uncommitted is the topics that have pending records.
func (b *Broker) uncommitted() []int {
	return b.topicsThat(func(id int) bool { return b.topics[id].State().Pending > 0 })
}

// mergeable is the topics that have an open merge, or one that is due.
func (b *Broker) mergeable() []int {
	return b.topicsThat(func(id int) bool {
		return b.merges[id] != nil || merge.Due(b.topics[id].Stats(), b.cfg.Share)
	})
}

// topicsThat is the topics of which something is true, numbers rising.
func (b *Broker) topicsThat(is func(id int) bool) []int { return those(rising(b.topics), is) }

// ready is the connections to which something can be delivered.
func (b *Broker) ready() []int {
	return those(rising(b.clients), func(conn int) bool { return b.clients[conn].session.Ready() })
}

// those is the numbers of which something is true.
func those(numbers []int, is func(int) bool) []int {
	var list []int
	for _, n := range numbers {
		if is(n) {
			list = append(list, n)
		}
	}
	return list
}

// ends is the committed end of each topic.
func (b *Broker) ends() map[int]int64 {
	ends := map[int]int64{}
	for id, t := range b.topics {
		ends[id] = t.State().Committed
	}
	return ends
}

// settle sends what was owed until a topic's committed end rose. Not commits alone raise it: a roll in the midst of an append does.
func (b *Broker) settle(before map[int]int64) {
	after := b.ends()
	risen := b.topicsThat(func(id int) bool { return after[id] > before[id] })
	for _, conn := range rising(b.clients) {
		for _, id := range risen {
			b.clients[conn].session.Settle(id, after[id])
		}
	}
}

// commit makes durable what was appended, to the groups' own topic first, which has the lowest number.
func (b *Broker) commit() api.Did {
	did := api.Did{What: api.DidCommit}
	for _, id := range b.uncommitted() {
		if survived(b.commitOne(id)) == api.OK {
			did.Count++
		}
	}
	return did
}

// commitOne commits one topic.
func (b *Broker) commitOne(id int) api.Errno {
	if id == groupsId {
		return b.groups.Commit()
	}
	return b.topics[id].Commit()
}

// deliver gives the next connection a piece of what it reads.
func (b *Broker) deliver() api.Did {
	b.delivered = inTurn(b.ready(), b.delivered)
	count := b.clients[b.delivered].session.Deliver()
	return api.Did{What: api.DidDeliver, Conn: b.delivered, Count: count}
}

// inTurn is the first number above the last one whose turn it was, or the first one at all.
func inTurn(numbers []int, last int) int {
	for _, n := range numbers {
		if n > last {
			return n
		}
	}
	return numbers[0]
}

// mergeOn goes on with the merge of the next topic that has work for it.
func (b *Broker) mergeOn() api.Did {
	b.merged = inTurn(b.mergeable(), b.merged)
	did := api.Did{What: api.DidMerge, Topic: b.merged, Kind: api.MgGive}
	m, e := b.mergeOf(b.merged)
	if survived(e) != api.OK {
		return did
	}
	done, e := m.Step(b.clock)
	if m.Over() {
		delete(b.merges, b.merged)
	}
	survived(e) // every other error is the merge's own affair: it has given up, or goes on
	did.Kind = done.Kind
	return did
}

// mergeOf is a topic's open merge; if there is none, it is begun.
func (b *Broker) mergeOf(id int) (*merge.Merge, api.Errno) {
	if m := b.merges[id]; m != nil {
		return m, api.OK
	}
	m, e := merge.Start(b.topics[id])
	if e == api.OK {
		b.merges[id] = m
	}
	return m, e
}
