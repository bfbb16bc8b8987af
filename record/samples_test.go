package record_test

import (
	"encoding/binary"
	"fmt"
	"hash/crc32"
	"strings"
	"testing"

	"chronicle/api"
	"chronicle/probe"
	"chronicle/record"
	"chronicle/squeeze"
)

// The greatest numbers that a record may have.
const (
	lastOffset = 1<<40 - 1
	lastTime   = 1<<50 - 1
	lastPid    = 1<<32 - 1
	lastSeq    = 1<<40 - 1
)

func value(off, time int64, key, v string) api.Record {
	return api.Record{Kind: api.KValue, Offset: off, Time: time, Key: key, Value: v}
}

func tomb(off, time int64, key string) api.Record {
	return api.Record{Kind: api.KTombstone, Offset: off, Time: time, Key: key}
}

// by is the record with a producer.
func by(pid, seq int64, r api.Record) api.Record {
	r.Pid, r.Seq = pid, seq
	return r
}

// asMany is a text whose block has just as many bytes as it.
const asMany = "abcdeXabcdeY"

// right is records that may be, the edges of all their parts among them.
func right() []api.Record {
	every := strings.Repeat("k", 64)
	return []api.Record{
		value(0, 0, "k", ""),
		value(5, 300, "k", "v"),
		by(9, 1, value(5, 300, "k", "v")),
		tomb(5, 300, "k"),
		by(9, 1, tomb(5, 300, "k")),
		tomb(0, 0, "\x00"),
		value(127, 128, "\xff\x00\xa9", "\x00"),
		value(lastOffset, lastTime, every, probe.Text(1, 1024)),
		by(lastPid, lastSeq, value(lastOffset, lastTime, every, probe.Text(2, 1024))),
		by(lastPid, lastSeq, value(lastOffset, lastTime, every, strings.Repeat("v", 1024))),
		by(lastPid, lastSeq, tomb(lastOffset, lastTime, every)),
		by(1, 1, value(1, 1, "k", asMany)),
		value(1, 1, "k", asMany[:11]),
		value(1, 1, "k", asMany+"Y"),
		value(1, 1, "k", "aaaaa"),
		value(1, 1, "k", "aaaaaa"),
		value(1, 1, "k", strings.Repeat("abc", 10)),
		value(1, 1, probe.Text(3, 64), probe.Text(4, 700)+probe.Text(4, 300)),
		by(128, 16384, value(1<<35, 1<<49, "日本", "\xa9\x00\x00\x00\x05")),
	}
}

// slowBody writes a body as the chapter tells it.
func slowBody(r api.Record) []byte {
	text := []byte(r.Value)
	block, _ := squeeze.Encode(text)
	flags := byte(0)
	if r.Kind == api.KTombstone {
		flags += 1
	}
	if len(block) < len(text) {
		flags += 2
		text = block
	}
	if r.Pid != 0 {
		flags += 4
	}
	b := binary.AppendUvarint(binary.AppendUvarint([]byte{flags}, uint64(r.Offset)), uint64(r.Time))
	if r.Pid != 0 {
		b = binary.AppendUvarint(binary.AppendUvarint(b, uint64(r.Pid)), uint64(r.Seq))
	}
	b = append(binary.AppendUvarint(b, uint64(len(r.Key))), r.Key...)
	return append(b, text...)
}

// framed lays the head of a record ahead of any body, with the right sum.
func framed(body []byte) []byte {
	summed := append(binary.BigEndian.AppendUint32(nil, uint32(len(body))), body...)
	sum := crc32.Checksum(summed, crc32.MakeTable(crc32.Castagnoli))
	b := append([]byte{api.RecordMark}, summed[:4]...)
	return append(binary.BigEndian.AppendUint32(b, sum), body...)
}

func slowEncode(r api.Record) []byte { return framed(slowBody(r)) }

// row is the bytes of records, one behind the other.
func row(l ...api.Record) []byte {
	var b []byte
	for _, r := range l {
		b = append(b, slowEncode(r)...)
	}
	return b
}

// brief tells a record, its texts cut short.
func brief(r api.Record) string {
	return fmt.Sprintf("{kind %d at %d, time %d, by %d %d, %.10q: %.20q}", r.Kind, r.Offset, r.Time, r.Pid, r.Seq, r.Key, r.Value)
}

func wantNoRecord(t *testing.T, name string, b []byte, want api.Errno) {
	t.Helper()
	if r, n, e := record.Decode(b); r != (api.Record{}) || n != 0 || e != want {
		t.Errorf("%s: Decode(%.40x) = %s, %d, %d, want %d", name, b, brief(r), n, e, want)
	}
}
