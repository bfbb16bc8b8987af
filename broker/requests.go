package broker

import (
	"math"
	"slices"

	"chronicle/api"
	"chronicle/cursor"
	"chronicle/quota"
	"chronicle/sched"
	"chronicle/topic"
	"chronicle/wire"
)

// call is a request that is served: of whom it is, and, if its operation is about one, its topic.
type call struct {
	api.Request
	client *client
	topic  *topic.Topic
}

// answer is what a request is answered, but for its Id and Op: at once, or when what it tells of is committed.
type answer struct {
	api.Owed
	isOwed bool
	about  int // the number of the request's topic; 0: it has none
}

// told is an answer that is sent at once.
func told(r api.Response) answer { return answer{Owed: api.Owed{R: r}} }

// owed is an answer that waits until a topic's record is committed.
func owed(topic int, offset int64, r api.Response) answer {
	return answer{Owed: api.Owed{Topic: topic, Offset: offset, R: r}, isOwed: true}
}

// refused is the answer to what an error stands against.
func refused(e api.Errno) answer { return told(api.Response{Code: wire.CodeOf(survived(e))}) }

// request serves the request whose turn it is.
func (b *Broker) request() api.Did {
	turns, conn, _, _ := sched.Next(b.turns)
	b.turns = turns
	c := b.clients[conn]
	r, _ := c.session.Next() // a cost waits in the queue for each request of the inbox
	a := b.answerTo(c, r)
	a.R.Id, a.R.Op = r.Id, r.Op
	did := api.Did{What: api.DidRequest, Conn: conn, Topic: a.about, Kind: r.Op, Code: a.R.Code}
	if a.isOwed {
		did.Code = -1
		c.session.Owe(a.Owed) // there is room: that was asked ahead of what it is owed for
	} else {
		c.session.Send(a.R)
	}
	return did
}

// answerTo is what a client is answered, if it does not ask too much.
func (b *Broker) answerTo(c *client, r api.Request) answer {
	if throttles(b.cfg) {
		bucket, wait := quota.Take(c.bucket, b.clock, 1)
		c.bucket = bucket
		if wait != 0 {
			return told(api.Response{Code: api.CodeThrottled, Number: wait})
		}
	}
	return b.serve(c, r)
}

// deed is how an operation is served: whether it is about a topic that has to be there, and what is done.
type deed struct {
	onTopic bool
	do      func(*Broker, call) answer
}

// serve does what a request asks for.
func (b *Broker) serve(c *client, r api.Request) answer {
	deeds := [...]deed{
		api.OpPing:        {false, (*Broker).ping},
		api.OpCreate:      {false, (*Broker).create},
		api.OpDrop:        {true, (*Broker).drop},
		api.OpList:        {false, (*Broker).list},
		api.OpPut:         {true, (*Broker).put},
		api.OpDelete:      {true, (*Broker).remove},
		api.OpGet:         {true, (*Broker).get},
		api.OpReplay:      {true, (*Broker).replay},
		api.OpSnapshot:    {true, (*Broker).snapshot},
		api.OpSubscribe:   {true, (*Broker).subscribe},
		api.OpUnsubscribe: {false, (*Broker).unsubscribe},
		api.OpJoin:        {false, (*Broker).join},
		api.OpCommit:      {true, (*Broker).setPosition},
		api.OpPosition:    {true, (*Broker).position},
		api.OpStat:        {true, (*Broker).stat},
	}
	asked := deeds[r.Op] // a session hands on requests that have one of these
	if !asked.onTopic {
		return asked.do(b, call{Request: r, client: c})
	}
	t, e := b.catalog.Topic(r.Topic)
	if e != api.OK {
		return refused(e)
	}
	a := asked.do(b, call{r, c, t})
	a.about = t.Id()
	return a
}

func (b *Broker) ping(call) answer { return told(api.Response{}) }

func (b *Broker) create(c call) answer {
	id, e := b.catalog.Create(c.Topic, c.Number, b.clock)
	if e != api.OK {
		return refused(e)
	}
	b.topics[id], _ = b.catalog.ById(id) // it has just been made
	a := told(api.Response{Number: int64(id)})
	a.about = id
	return a
}

func (b *Broker) drop(c call) answer {
	if e := b.catalog.Drop(c.Topic); e != api.OK {
		return refused(e)
	}
	id := c.topic.Id()
	delete(b.topics, id)
	delete(b.merges, id)
	for _, conn := range rising(b.clients) {
		s := b.clients[conn].session
		s.Refuse(id, api.CodeNoTopic)
		s.Gone(id)
	}
	_, e := b.groups.Forget(b.clock, id)
	survived(e) // positions that are not forgotten are of a number that is never given again
	return told(api.Response{})
}

func (b *Broker) list(c call) answer {
	return told(api.Response{Names: slices.Collect(b.catalog.Names(c.Key))})
}

func (b *Broker) put(c call) answer {
	return b.write(c, api.Write{Key: c.Key, Value: c.Value, Pid: c.Pid, Seq: c.Seq})
}

func (b *Broker) remove(c call) answer {
	return b.write(c, api.Write{Key: c.Key, Tombstone: true, Pid: c.Pid, Seq: c.Seq})
}

// write appends a record. What was there already may be committed: then nobody has to wait for it.
func (b *Broker) write(c call, w api.Write) answer {
	if c.owesMost() {
		return refused(api.ErrOwed)
	}
	offset, again, e := c.topic.Append(b.clock, w)
	if e != api.OK {
		return refused(e)
	}
	r := api.Response{Offset: offset}
	if again && offset < c.topic.State().Committed {
		return told(r)
	}
	return owed(c.topic.Id(), offset, r)
}

// owesMost tells whether the client is owed as many answers as may be. It is asked ahead of what is appended: that could not be taken back.
func (c call) owesMost() bool { return c.client.session.State().Owed >= api.MaxOwed }

func (b *Broker) get(c call) answer {
	record, lives, e := c.topic.Get(c.Key)
	if e != api.OK {
		return refused(e)
	}
	if !lives {
		return told(api.Response{})
	}
	return told(api.Response{Records: []api.Record{record}})
}

func (b *Broker) replay(c call) answer { return b.read(c, cursor.Replay) }

func (b *Broker) subscribe(c call) answer { return b.read(c, cursor.Tail) }

// read begins a reader that goes from offset to offset.
func (b *Broker) read(c call, begin func(*topic.Topic, int64) (*cursor.Cursor, api.Errno)) answer {
	reader, e := begin(c.topic, c.Offset)
	if e != api.OK {
		return refused(e)
	}
	if e := c.client.session.Subscribe(c.Id, c.topic.Id(), reader); e != api.OK {
		return refused(e)
	}
	return told(api.Response{Offset: reader.Position(), Number: int64(c.topic.Id())})
}

func (b *Broker) snapshot(c call) answer {
	snap, e := cursor.Prefix(c.topic, c.Key)
	if e != api.OK {
		return refused(e)
	}
	if e := c.client.session.Hold(c.Id, c.topic.Id(), snap); e != api.OK {
		return refused(e)
	}
	return told(api.Response{Offset: snap.Moment(), Number: int64(c.topic.Id())})
}

func (b *Broker) unsubscribe(c call) answer {
	if c.Number > math.MaxUint32 {
		return refused(api.ErrNoSub) // no request has such an Id
	}
	if e := c.client.session.Unsubscribe(uint32(c.Number)); e != api.OK {
		return refused(e)
	}
	return told(api.Response{})
}

func (b *Broker) join(c call) answer {
	if c.owesMost() {
		return refused(api.ErrOwed)
	}
	gen, e := b.groups.Join(b.clock, c.Key)
	if e != api.OK {
		return refused(e)
	}
	return b.owedByGroups(api.Response{Number: gen})
}

func (b *Broker) setPosition(c call) answer {
	if c.Offset > c.topic.State().Committed {
		return refused(api.ErrPos)
	}
	if c.owesMost() {
		return refused(api.ErrOwed)
	}
	if e := b.groups.Set(b.clock, c.Key, c.Number, c.topic.Id(), c.Offset); e != api.OK {
		return refused(e)
	}
	return b.owedByGroups(api.Response{})
}

// owedByGroups is an answer that waits for what was appended last to the groups' own topic.
func (b *Broker) owedByGroups(r api.Response) answer {
	return owed(groupsId, b.topics[groupsId].State().Next-1, r)
}

func (b *Broker) position(c call) answer {
	at, there, e := b.groups.At(c.Key, c.topic.Id())
	if e != api.OK {
		return refused(e)
	}
	if !there {
		return told(api.Response{Code: api.CodeNoSuch})
	}
	return told(api.Response{Offset: at})
}

func (b *Broker) stat(c call) answer {
	now := c.topic.State()
	return told(api.Response{Offset: now.Committed, Number: now.Mark})
}
