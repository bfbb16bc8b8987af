package record_test

import (
	"bytes"
	"slices"
	"testing"

	"chronicle/api"
	"chronicle/probe"
	"chronicle/record"
)

func wantScan(t *testing.T, name string, b []byte, l []api.Record, n int, want api.Errno) {
	t.Helper()
	if got, at, e := record.Scan(b); !slices.Equal(got, l) || at != n || e != want {
		t.Errorf("%s: Scan = %d records, %d, %d, want %d, %d, %d", name, len(got), at, e, len(l), n, want)
	}
}

// rising is the records of right, with offsets that rise by steps of several sizes.
func rising() []api.Record {
	l := right()
	for i := range l {
		l[i].Offset = int64(i * i * i)
	}
	l[len(l)-1].Offset = lastOffset
	return l
}

// 4.4
func TestScan(t *testing.T) {
	wantScan(t, "nil", nil, nil, 0, api.OK)
	wantScan(t, "no bytes", []byte{}, nil, 0, api.OK)
	l := rising()
	for n := range len(l) + 1 {
		b := row(l[:n]...)
		wantScan(t, "records", b, l[:n], len(b), api.OK)
	}
	for from := range l { // the first offset may be any
		b := row(l[from:]...)
		wantScan(t, "later records", b, l[from:], len(b), api.OK)
	}
}

func TestScanOfEveryFirstPart(t *testing.T) {
	l := rising()
	b := row(l...)
	end, n := 0, 0 // of the records that are whole, and how many they are
	for cut := range len(b) + 1 {
		if n < len(l) && cut == end+len(slowEncode(l[n])) {
			end = cut
			n++
		}
		want := api.ErrTorn
		if cut == end {
			want = api.OK
		}
		wantScan(t, "a first part", b[:cut], l[:n], end, want)
	}
}

func TestScanWantsRisingOffsets(t *testing.T) {
	for _, c := range []struct {
		offsets []int64
		n       int
	}{
		{[]int64{0, 0}, 1},
		{[]int64{7, 7, 8}, 1},
		{[]int64{1, 0}, 1},
		{[]int64{0, 1, 2, 1, 3}, 3},
		{[]int64{0, 1, 1}, 2},
		{[]int64{5, 9, 6, 10}, 2}, // above an earlier one is not enough
		{[]int64{lastOffset, 0}, 1},
		{[]int64{lastOffset - 1, lastOffset, lastOffset}, 2},
	} {
		var l []api.Record
		for _, off := range c.offsets {
			l = append(l, value(off, 9, "k", "v"))
		}
		wantScan(t, "offsets", row(l...), l[:c.n], len(row(l[:c.n]...)), api.ErrBroken)
	}
	// A record that does not rise and is cut is told as cut.
	b := row(value(3, 0, "k", ""), value(3, 0, "k", ""))
	wantScan(t, "cut and not rising", b[:len(b)-1], []api.Record{value(3, 0, "k", "")}, len(b)/2, api.ErrTorn)
}

func TestScanEndsAtWhatIsBroken(t *testing.T) {
	l := rising()[:5]
	for n := range l {
		ahead, behind := row(l[:n]...), row(l[n:]...)
		at := len(ahead)
		for _, junk := range []string{"\x00", "junk", "\xa9\x00\x00\x00\x04", "\xa9\x00\x00\x04\x5c", "\xad"} {
			wantScan(t, "junk between", slices.Concat(ahead, []byte(junk), behind), l[:n], at, api.ErrBroken)
			wantScan(t, "junk behind", slices.Concat(ahead, []byte(junk)), l[:n], at, api.ErrBroken)
		}
		wantScan(t, "a mark behind", slices.Concat(ahead, []byte{0xa9}), l[:n], at, api.ErrTorn)
		wantScan(t, "a mark and a length", slices.Concat(ahead, []byte{0xa9, 0, 0, 4, 0x5b}), l[:n], at, api.ErrTorn)
		damaged := slices.Concat(ahead, behind)
		damaged[at+9] ^= 1
		wantScan(t, "a damaged record", damaged, l[:n], at, api.ErrBroken)
		wantScan(t, "a forged record", slices.Concat(ahead, framed([]byte("\x08\x05\x05\x01kv")), behind), l[:n], at, api.ErrBroken)
	}
}

// slowSalvage asks of every place that no record covers.
func slowSalvage(b []byte) []api.Found {
	var list []api.Found
	free := 0
	for at := range b {
		if r, n, e := record.Decode(b[at:]); at >= free && e == api.OK {
			list = append(list, api.Found{At: at, Rec: r})
			free = at + n
		}
	}
	return list
}

func wantSalvaged(t *testing.T, name string, b []byte, want []api.Found) {
	t.Helper()
	if got := record.Salvage(b); !slices.Equal(got, want) {
		t.Errorf("%s: Salvage tells %d records, want %d", name, len(got), len(want))
	}
}

// 4.5
func TestSalvage(t *testing.T) {
	wantSalvaged(t, "nil", nil, nil)
	wantSalvaged(t, "no record", []byte("no record \xa9 anywhere \xa9\x00\x00\x00\x05"), nil)
	l := right() // whose offsets do not rise
	var b []byte
	var want []api.Found
	for i, r := range l {
		want = append(want, api.Found{At: len(b), Rec: r})
		b = append(b, slowEncode(r)...)
		wantSalvaged(t, "a row", b, want[:i+1])
	}
}

func TestSalvageAmongOtherBytes(t *testing.T) {
	l := right()
	for _, junk := range []string{"\x00", "\xa9", "\xa9\xa9\xa9", "\xa9\x00\x00\x00\x05", "\xa9\x00\x00\x04\x5b", "some bytes", string(row(l[1])[:10]), string(row(l[8])[:500])} {
		b := []byte(junk)
		var want []api.Found
		for _, r := range l {
			want = append(want, api.Found{At: len(b), Rec: r})
			b = append(append(b, slowEncode(r)...), junk...)
		}
		wantSalvaged(t, "other bytes ahead, between and behind", b, want)
		wantSalvaged(t, "and by a slow look", b, slowSalvage(b))
	}
}

func TestSalvageOfEqualAndFallingOffsets(t *testing.T) {
	var b []byte
	var want []api.Found
	for _, off := range []int64{9, 9, 3, 3, 8, 0, 0} {
		want = append(want, api.Found{At: len(b), Rec: tomb(off, 0, "k")})
		b = append(b, slowEncode(tomb(off, 0, "k"))...)
	}
	wantSalvaged(t, "offsets", b, want)
}

// A record that lies in another one's value is told only where the outer one is none.
func TestSalvageOfRecordsInValues(t *testing.T) {
	inner := value(7, 8, "inner", "v")
	outer := value(1, 2, "k", "ahead"+string(slowEncode(inner))+"behind")
	b := row(outer, tomb(3, 4, "k"))
	n := len(slowEncode(outer))
	wantSalvaged(t, "whole", b, []api.Found{{At: 0, Rec: outer}, {At: n, Rec: tomb(3, 4, "k")}})
	at := bytes.Index(b, []byte("ahead")) + 5
	for _, place := range []int{0, 4, 8, 9, at - 1, n - 1} {
		damaged := bytes.Clone(b)
		damaged[place] ^= 0x10
		wantSalvaged(t, "damaged", damaged, []api.Found{{At: at, Rec: inner}, {At: n, Rec: tomb(3, 4, "k")}})
	}
}

func TestSalvageOfDamage(t *testing.T) {
	l := rising()
	b := row(l...)
	for i, x := range probe.Noise(11, 300) {
		damaged := bytes.Clone(b)
		for k := range 1 + i%5 {
			damaged[(x>>(9*k))%uint64(len(b))] = byte(x >> 50)
		}
		got, want := record.Salvage(damaged), slowSalvage(damaged)
		if !slices.Equal(got, want) {
			t.Fatalf("damage %d: %d records, want %d", i, len(got), len(want))
		}
	}
}
