package broker

import (
	"chronicle/api"
	"chronicle/quota"
	"chronicle/sched"
	"chronicle/session"
)

const (
	quantum     = 4 // how many requests of a connection are served in one turn
	requestCost = 1
)

// client is who is at the other end of a connection.
type client struct {
	session *session.Session
	bucket  api.Bucket
}

// Connect makes a connection and tells its number.
func (b *Broker) Connect() (int, api.Errno) {
	if e := b.refusal(); e != api.OK {
		return 0, e
	}
	if len(b.clients) >= api.MaxConns {
		return 0, api.ErrConns
	}
	b.given++
	bucket, _ := quota.New(b.cfg.Num, b.cfg.Den, b.cfg.Burst, b.clock) // an empty one, where connections are not throttled
	b.clients[b.given] = &client{session.New(b.given), bucket}
	b.turns, _ = sched.Enter(b.turns, b.given, quantum) // the number is new, and there may be more queues than connections
	return b.given, api.OK
}

// clientOf is who is at the other end of an open connection.
func (b *Broker) clientOf(conn int) (*client, api.Errno) {
	c, there := b.clients[conn]
	if !there {
		return nil, api.ErrNoConn
	}
	return c, api.OK
}

// liveClient is the same, as long as anybody is served.
func (b *Broker) liveClient(conn int) (*client, api.Errno) {
	if e := b.refusal(); e != api.OK {
		return nil, e
	}
	return b.clientOf(conn)
}

// Shut ends a connection.
func (b *Broker) Shut(conn int) api.Errno {
	if b.isNone() {
		return api.ErrNil
	}
	c, e := b.clientOf(conn)
	if e != api.OK {
		return e
	}
	c.session.Close()
	delete(b.clients, conn)
	b.turns, e = sched.Leave(b.turns, conn)
	return e
}

// Feed takes bytes of a client, and tells how many requests wait by it.
func (b *Broker) Feed(conn int, chunk []byte) (int, api.Errno) {
	c, e := b.liveClient(conn)
	if e != api.OK {
		return 0, e
	}
	joined := c.session.Feed(chunk)
	for range joined {
		b.turns, _ = sched.Ask(b.turns, conn, requestCost) // an open connection has a queue
	}
	return joined, api.OK
}

// Out takes at most n bytes for a client.
func (b *Broker) Out(conn, n int) ([]byte, api.Errno) {
	c, e := b.liveClient(conn)
	if e != api.OK {
		return nil, e
	}
	if n < 0 {
		return nil, api.ErrArg
	}
	return c.session.Out(n), api.OK
}
