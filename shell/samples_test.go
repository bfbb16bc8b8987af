package shell_test

import (
	"fmt"
	"math"
	"reflect"
	"slices"
	"strings"
	"testing"

	"chronicle/api"
	"chronicle/probe"
	"chronicle/shell"
)

// sameCommand tells whether two commands are the same: an empty list and none are.
func sameCommand(a, b api.Command) bool {
	raw, other := a.Raw, b.Raw
	picks, others := a.Picks, b.Picks
	a.Raw, b.Raw, a.Picks, b.Picks = nil, nil, nil, nil
	return reflect.DeepEqual(a, b) && string(raw) == string(other) && slices.Equal(picks, others)
}

func sameResponse(a, b api.Response) bool {
	named, other := a.Names, b.Names
	recs, others := a.Records, b.Records
	a.Names, b.Names, a.Records, b.Records = nil, nil, nil, nil
	return reflect.DeepEqual(a, b) && slices.Equal(named, other) && slices.Equal(recs, others)
}

// brief tells a thing, cut short.
func brief(thing any) string { return fmt.Sprintf("%.200q", fmt.Sprintf("%+v", thing)) }

// wantVisible fails if a line has a byte below 32 or above 126.
func wantVisible(t *testing.T, line string) {
	t.Helper()
	for i := range len(line) {
		if line[i] < 32 || line[i] > 126 {
			t.Errorf("the line %s has the byte %d at %d", brief(line), line[i], i)
			return
		}
	}
}

// wantLine fails unless this is the command's line, and that line's command.
func wantLine(t *testing.T, c api.Command, line string) {
	t.Helper()
	got, e := shell.Print(c)
	if got != line || e != api.OK {
		t.Errorf("Print of %s: %s, %d, want %s", brief(c), brief(got), e, brief(line))
	}
	wantVisible(t, got)
	if back, e := shell.Parse(line); !sameCommand(back, c) || e != api.OK {
		t.Errorf("Parse of %s: %s, %d, want %s", brief(line), brief(back), e, brief(c))
	}
}

// wantNoLine fails unless Print refuses the command.
func wantNoLine(t *testing.T, c api.Command) {
	t.Helper()
	if got, e := shell.Print(c); got != "" || e != api.ErrLine {
		t.Errorf("Print of %s: %s, %d, want no line", brief(c), brief(got), e)
	}
}

// wantNoCommand fails unless Parse refuses the line.
func wantNoCommand(t *testing.T, line string) {
	t.Helper()
	if got, e := shell.Parse(line); !sameCommand(got, api.Command{}) || e != api.ErrLine {
		t.Errorf("Parse of %s: %s, %d, want no command", brief(line), brief(got), e)
	}
}

// wantPrinted fails unless the command has the line that the chapter tells, or none; it tells whether it has one.
func wantPrinted(t *testing.T, c api.Command) bool {
	t.Helper()
	line, there := slowPrint(c)
	if there {
		wantLine(t, c, line)
	} else {
		wantNoLine(t, c)
	}
	return there
}

// wantParsed fails unless the line is of the command that the chapter tells, or of none; it tells whether it is of one.
func wantParsed(t *testing.T, line string) bool {
	t.Helper()
	c, there := slowParse(line)
	if there {
		wantLine(t, c, line)
	} else {
		wantNoCommand(t, line)
	}
	return there
}

// wantShown fails unless the response's line is the one that the chapter tells, and tells all of the response.
func wantShown(t *testing.T, r api.Response) string {
	t.Helper()
	got, wanted := shell.Show(r), slowShow(r)
	if got != wanted {
		t.Errorf("Show of %s: %s, want %s", brief(r), brief(got), brief(wanted))
	}
	wantVisible(t, got)
	if back := readShown(got); !sameResponse(back, r) {
		t.Errorf("the line %s tells %s, not %s", brief(got), brief(back), brief(r))
	}
	return got
}

// with is a copy of a command or a request with another field.
func with[T any](thing T, field string, v any) T {
	f := reflect.ValueOf(&thing).Elem().FieldByName(field)
	f.Set(reflect.ValueOf(v).Convert(f.Type()))
	return thing
}

func say(conn int, r api.Request) api.Command {
	return api.Command{Verb: api.VSay, Conn: conn, Request: r}
}

// least is the command of a verb that has nothing in its fields but what it must.
func least(verb int) api.Command {
	if verb == api.VSay {
		return say(0, api.Request{Op: api.OpPing})
	}
	return api.Command{Verb: verb}
}

// texts is texts of all sorts, of at most some 20 bytes.
func texts() []string {
	return []string{
		"", "a", "Z", "0", ".", "_", "-", "a b", " ", "  ", " a", "a ", "topic-1_x.y", "0x41", "-1", "+1",
		`"`, `""`, `a"b`, `"a"`, `\`, `\\`, `\"`, `"\`, `a\b`, `\x41`, `\n`, "\\x", "x\\",
		"\x00", "\n", "\t", "\r", "\x1f", "\x7f", "\x80", "\xff", "\xff\xfe", "a\xffb", "\xc3", "\xa9\xc3", "\xed\xa0\x80", "\xf4\x90\x80\x80",
		"é", "日本", "\U0001F600", "\u00a0", "\u2003", "\ufeff", "\ufffd", "a,b", "a/b", "a:b", "a=b", "~", "!", "#", "'", "`", "{}", "[]", "@", "^", "(", "*", "%d", "$x",
		"a\"b c\\d\ne\xff", "name", "value", "more", "last",
	}
}

// greatest is the request of an operation whose fields are all as great as they may be.
func greatest(op int) api.Request {
	r := api.Request{Id: lastId, Op: op}
	for _, field := range strings.Fields(operationUsage()[op]) {
		if n := most(field); n > 0 {
			r = with(r, field, strings.Repeat("9", n))
		} else {
			r = with(r, field, int64(math.MaxInt64))
		}
	}
	return r
}

// samples is commands that may be, of each verb and of each operation.
func samples() []api.Command {
	list := []api.Command{
		{Verb: api.VOpen}, {Verb: api.VOpen, Conn: 1}, {Verb: api.VOpen, Conn: lastConn},
		{Verb: api.VShut}, {Verb: api.VShut, Conn: 42}, {Verb: api.VShut, Conn: lastConn},
		{Verb: api.VRaw}, {Verb: api.VRaw, Conn: 1, Raw: []byte{0xc5, 0}}, {Verb: api.VRaw, Conn: lastConn, Raw: []byte(probe.Text(3, 40))},
		{Verb: api.VTick}, {Verb: api.VTick, N: 5}, {Verb: api.VTick, N: maxTime},
		{Verb: api.VSteps}, {Verb: api.VSteps, Picks: []int{0, -1, 7}}, {Verb: api.VSteps, Picks: []int{math.MinInt, math.MaxInt}},
		{Verb: api.VTake}, {Verb: api.VTake, Conn: 1, N: 99}, {Verb: api.VTake, Conn: lastConn, N: maxQuota},
		{Verb: api.VFuse, N: -1}, {Verb: api.VFuse}, {Verb: api.VFuse, N: maxQuota},
		{Verb: api.VCrash}, {Verb: api.VCrash, Picks: []int{1}}, {Verb: api.VCrash, Picks: []int{3, 0, 0, -12}},
		{Verb: api.VCheck}, {Verb: api.VState},
	}
	for op := 1; op < 16; op++ {
		list = append(list, say(op, api.Request{Op: op}), say(lastConn, greatest(op)))
		for i, s := range texts() {
			r := api.Request{Id: uint32(i), Op: op}
			for _, field := range strings.Fields(operationUsage()[op]) {
				if most(field) > 0 {
					r = with(r, field, s)
				} else {
					r = with(r, field, i)
				}
			}
			list = append(list, say(i, r))
		}
	}
	return list
}

// want fails if an answer is another one than is wanted.
func want[T comparable](t *testing.T, what string, got, wanted T) {
	t.Helper()
	if got != wanted {
		t.Errorf("%s: %v, want %v", what, got, wanted)
	}
}
