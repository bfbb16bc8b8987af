package session_test

import (
	"fmt"
	"math"
	"slices"
	"testing"

	"chronicle/api"
	"chronicle/session"
)

// 18.4
func TestSend(t *testing.T) {
	s := session.New(1)
	list := []api.Response{
		full(1), {Op: 1}, {Id: lastId, Op: 15, Code: 11, Offset: math.MinInt64, Number: math.MaxInt64},
		{Op: 64, More: true}, full(2),
	}
	sum := 0
	for _, r := range list {
		want(t, "Send", s.Send(r), api.OK)
		sum += len(frames(t, r))
		want(t, "State", s.State(), api.SessState{Outbox: sum})
	}
	wantOut(t, "in their order", s, list...)
}

func TestSendRefuses(t *testing.T) {
	s := session.New(1)
	want(t, "Send", s.Send(full(1)), api.OK)
	for errno, list := range wrongResponses() {
		for i, r := range list {
			want(t, fmt.Sprint("wrong one ", i), s.Send(r), errno)
		}
	}
	want(t, "Send", s.Send(full(2)), api.OK)
	wantOut(t, "the right ones alone", s, full(1), full(2))
	want(t, "State", s.State(), api.SessState{})
}

// However many bytes wait.
func TestSendBehindMuch(t *testing.T) {
	s := session.New(1)
	for _, n := range []int{maxOutbox - 1, maxOutbox, maxOutbox + 1, 3 * maxOutbox} {
		fill(t, s, n)
		want(t, "Send", s.Send(full(9)), api.OK)
		want(t, "bytes that wait", s.State().Outbox, n+len(frames(t, full(9))))
		s.Out(n)
		wantOut(t, "the last one", s, full(9))
	}
	fill(t, s, 2*maxOutbox)
	want(t, "Feed", s.Feed(frameOf(t, "\x00")), 0)
	s.Out(2 * maxOutbox)
	wantOut(t, "a complaint", s, complaint())
}

// owe owes an answer, which has to be taken.
func owe(t *testing.T, s *session.Session, topic int, offset int64, r api.Response) {
	t.Helper()
	ahead := s.State()
	want(t, fmt.Sprintf("Owe of %d at %d", topic, offset), s.Owe(api.Owed{Topic: topic, Offset: offset, R: r}), api.OK)
	ahead.Owed++
	want(t, "State behind Owe", s.State(), ahead)
}

// taken is the answer to a record that was taken.
func taken(id uint32, offset int64) api.Response {
	return api.Response{Id: id, Op: api.OpPut, Offset: offset}
}

// wantSettled fails unless these answers are settled, and no others.
func wantSettled(t *testing.T, what string, s *session.Session, topic int, committed int64, list ...api.Response) {
	t.Helper()
	owed := s.State().Owed
	want(t, fmt.Sprintf("%s: Settle(%d, %d)", what, topic, committed), s.Settle(topic, committed), len(list))
	want(t, what+": answers owed", s.State().Owed, owed-len(list))
	wantOut(t, what, s, list...)
}

// wantRefused fails unless just the answers of these are refused with a code.
func wantRefused(t *testing.T, what string, s *session.Session, topic, code int, list ...api.Response) {
	t.Helper()
	owed := s.State().Owed
	for i, r := range list {
		list[i] = api.Response{Id: r.Id, Op: r.Op, Code: code}
	}
	want(t, fmt.Sprintf("%s: Refuse(%d, %d)", what, topic, code), s.Refuse(topic, code), len(list))
	want(t, what+": answers owed", s.State().Owed, owed-len(list))
	wantOut(t, what, s, list...)
}

// 18.5
func TestOwe(t *testing.T) {
	s := session.New(1)
	for i := range maxOwed {
		owe(t, s, i%5, int64(i), full(uint32(i)))
	}
	want(t, "nothing is sent", s.State(), api.SessState{Owed: maxOwed})
	for range 2 {
		want(t, "one more", s.Owe(api.Owed{Topic: 3, Offset: 5, R: full(1)}), api.ErrOwed)
		want(t, "one more, of another topic", s.Owe(api.Owed{Topic: 77, R: full(1)}), api.ErrOwed)
		want(t, "a wrong one", s.Owe(api.Owed{Topic: 3, Offset: 5}), api.ErrOwed)
		want(t, "nothing has changed", s.State(), api.SessState{Owed: maxOwed})
	}
	wantSettled(t, "one", s, 3, 4, full(3))
	owe(t, s, 3, 1000, full(1000))
	want(t, "one more", s.Owe(api.Owed{Topic: 3, Offset: 5, R: full(1)}), api.ErrOwed)
	want(t, "all of a topic", s.Refuse(3, 2), 51)
	for i := range 51 {
		owe(t, s, 3, int64(i), full(uint32(i)))
	}
	want(t, "one more", s.Owe(api.Owed{Topic: 3, Offset: 5, R: full(1)}), api.ErrOwed)
}

func TestOweRefuses(t *testing.T) {
	s := session.New(1)
	for errno, list := range wrongResponses() {
		for i, r := range list {
			want(t, fmt.Sprint("wrong one ", i), s.Owe(api.Owed{Topic: 3, Offset: 5, R: r}), errno)
			want(t, "State", s.State(), api.SessState{})
		}
	}
	owe(t, s, 3, 5, full(1))
	want(t, "a wrong one", s.Owe(api.Owed{Topic: 3, Offset: 5}), api.ErrResponse)
	wantSettled(t, "the right one alone", s, 3, 6, full(1))
}

// 18.6

// Example 2.
func TestSettle(t *testing.T) {
	s := session.New(1)
	wantSettled(t, "nothing is owed", s, 3, 6)
	owe(t, s, 3, 5, taken(7, 5))
	wantSettled(t, "at its offset", s, 3, 5)
	wantSettled(t, "below it", s, 3, 4)
	wantSettled(t, "far below it", s, 3, math.MinInt64)
	wantSettled(t, "another topic", s, 4, 9)
	wantSettled(t, "another topic", s, 2, math.MaxInt64)
	wantSettled(t, "above it", s, 3, 6, taken(7, 5))
	wantSettled(t, "once more", s, 3, 6)
	wantSettled(t, "once more", s, 3, math.MaxInt64)
	owe(t, s, 3, 5, full(8))
	wantSettled(t, "an answer with all that one may have", s, 3, math.MaxInt64, full(8))
}

func TestSettleAtTheEnds(t *testing.T) {
	s := session.New(1)
	owe(t, s, math.MinInt, math.MaxInt64, taken(1, 1))
	owe(t, s, -1, math.MinInt64, taken(2, 2))
	owe(t, s, math.MaxInt, -5, taken(3, 3))
	owe(t, s, 0, 0, taken(4, 4))
	wantSettled(t, "none is above it", s, math.MinInt, math.MaxInt64)
	wantSettled(t, "not below it", s, -1, math.MinInt64)
	wantSettled(t, "above it", s, -1, math.MinInt64+1, taken(2, 2))
	wantSettled(t, "at it", s, math.MaxInt, -5)
	wantSettled(t, "above it", s, math.MaxInt, -4, taken(3, 3))
	wantSettled(t, "at it", s, 0, 0)
	wantSettled(t, "above it", s, 0, 1, taken(4, 4))
	wantRefused(t, "what no Settle reaches", s, math.MinInt, 2, taken(1, 1))
}

// Two topics that are owed in turns, and offsets that rise, fall and are alike.
func TestSettleInOrder(t *testing.T) {
	s := session.New(1)
	for i := range 8 {
		owe(t, s, 3+i%2, int64(i), taken(uint32(i), int64(i)))
	}
	wantSettled(t, "the first of 3", s, 3, 3, taken(0, 0), taken(2, 2))
	wantSettled(t, "of 4", s, 4, 6, taken(1, 1), taken(3, 3), taken(5, 5))
	owe(t, s, 3, 1, taken(20, 1))
	owe(t, s, 3, 9, taken(21, 9))
	owe(t, s, 3, 4, taken(22, 4))
	owe(t, s, 4, 7, taken(23, 7))
	wantSettled(t, "those that are below, as they came", s, 3, 5, taken(4, 4), taken(20, 1), taken(22, 4))
	wantSettled(t, "the others", s, 3, 10, taken(6, 6), taken(21, 9))
	wantSettled(t, "two at one offset", s, 4, 8, taken(7, 7), taken(23, 7))
	want(t, "State", s.State(), api.SessState{})
}

// Example 3.
func TestRefuse(t *testing.T) {
	s := session.New(1)
	wantRefused(t, "nothing is owed", s, 3, 2)
	owe(t, s, 3, 5, taken(7, 5))
	wantRefused(t, "another topic", s, 4, 2)
	wantRefused(t, "its topic", s, 3, 2, taken(7, 5))
	wantRefused(t, "once more", s, 3, 2)
	wantSettled(t, "it is owed no more", s, 3, 9)
}

func TestRefuseWithEachCode(t *testing.T) {
	s := session.New(1)
	for _, code := range []int{0, -1, 12, 13, -2, 255, 256, 257, 1 << 32, 1<<32 + 2, math.MaxInt, math.MinInt} {
		owe(t, s, 3, 5, full(7))
		wantRefused(t, "no code of a refusal", s, 3, code)
	}
	owed := s.State().Owed
	for code := 1; code <= 11; code++ {
		wantRefused(t, "a code", s, 3, code, slices.Repeat([]api.Response{full(7)}, owed)...)
		owe(t, s, 3, 5, full(7))
		owed = 1
	}
}

// All of a topic, whatever their offsets, as they came; and none of another one.
func TestRefuseInOrder(t *testing.T) {
	s := session.New(1)
	var three, four []api.Response
	for i := range 10 {
		r := full(uint32(i))
		r.Op = 1 + i
		offset := []int64{5, -5, math.MaxInt64, 5, math.MinInt64}[i%5]
		if i%3 == 0 {
			owe(t, s, 4, offset, r)
			four = append(four, r)
		} else {
			owe(t, s, 3, offset, r)
			three = append(three, r)
		}
	}
	wantRefused(t, "the one", s, 3, 2, three...)
	wantRefused(t, "the other", s, 4, 11, four...)
	want(t, "State", s.State(), api.SessState{})
}

// What is sent stands behind what waits already.
func TestSettleBehindTheOutbox(t *testing.T) {
	s := session.New(1)
	owe(t, s, 3, 5, taken(1, 5))
	owe(t, s, 3, 6, taken(2, 6))
	want(t, "Send", s.Send(full(3)), api.OK)
	want(t, "Settle", s.Settle(3, 6), 1)
	want(t, "Send", s.Send(full(4)), api.OK)
	want(t, "Refuse", s.Refuse(3, 4), 1)
	wantOut(t, "in their order", s, full(3), taken(1, 5), full(4), api.Response{Id: 2, Op: api.OpPut, Code: 4})
	fill(t, s, 2*maxOutbox)
	owe(t, s, 3, 5, taken(1, 5))
	want(t, "Settle, with many bytes waiting", s.Settle(3, 6), 1)
	owe(t, s, 3, 5, taken(2, 5))
	want(t, "Refuse, with many bytes waiting", s.Refuse(3, 4), 1)
	s.Out(2 * maxOutbox)
	wantOut(t, "both", s, taken(1, 5), api.Response{Id: 2, Op: api.OpPut, Code: 4})
}
