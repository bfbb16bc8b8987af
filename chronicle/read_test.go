package chronicle_test

import (
	"fmt"
	"strings"
	"testing"

	"chronicle/api"
)

// 24.1

// What stands between line feeds is a line; what stands behind the last one is one too, unless it is empty.
func TestLines(t *testing.T) {
	for script, wanted := range map[string]string{
		"":                                 "",
		"\n":                               "",
		"\n\n\n":                           "",
		"#":                                "",
		"# a remark":                       "",
		"#\n":                              "",
		"#tick 1\n\n# tick 1\n":            "",
		"tick 1":                           "1 tick 1\n",
		"tick 1\n":                         "1 tick 1\n",
		"tick 1\n\n":                       "1 tick 1\n",
		"tick 1\n#":                        "1 tick 1\n",
		"\ntick 1":                         "2 tick 1\n",
		"\n\n\ntick 1\n":                   "4 tick 1\n",
		"#\ntick 1":                        "2 tick 1\n",
		"tick 1\ntick 2":                   "1 tick 1\n2 tick 3\n",
		"tick 1\ntick 2\n":                 "1 tick 1\n2 tick 3\n",
		"tick 1\n\ntick 2\n\n# \n\ntick 4": "1 tick 1\n3 tick 3\n7 tick 7\n",
		"#\x00\xff\r\ntick 1":              "2 tick 1\n",
		"##\n#\ttick 1\n#\"\ntick 1":       "4 tick 1\n",
	} {
		got := ran(t, script, wide, usual())
		want(t, brief(script), got.told, wanted)
		want(t, brief(script), got.spot, api.Spot{})
		want(t, brief(script)+": files", len(got.files), 3)
	}
}

// As many lines as may be, and one more, of any kind.
func TestManyLines(t *testing.T) {
	full := func(line string, n int) string { return strings.Repeat(line+"\n", n) }
	for _, line := range []string{"", "#", "# tick", "tick 1"} {
		for _, n := range []int{1, 2, maxLines - 1, maxLines} {
			got := ran(t, full(line, n), wide, usual())
			want(t, line, got.spot, api.Spot{})
			wanted := 0
			if line == "tick 1" {
				wanted = n
			}
			want(t, line, strings.Count(got.told, "\n"), wanted)
		}
		for _, n := range []int{maxLines + 1, maxLines + 2, 3 * maxLines} {
			wantWrong(t, full(line, n), api.ErrLong, 0)
		}
	}
	// A line more, with no end, is one too.
	want(t, "no line more", ran(t, full("tick 1", maxLines-1)+"tick 1", wide, usual()).spot, api.Spot{})
	wantWrong(t, full("", maxLines)+"#", api.ErrLong, 0)
	wantWrong(t, full("", maxLines)+" ", api.ErrLong, 0)
	wantWrong(t, full("tick 1", maxLines)+"tick 1", api.ErrLong, 0)
	// It comes ahead of what is wrong with a line, wherever that stands.
	long := strings.Repeat("x", maxLine+1)
	wantWrong(t, "nothing\n"+full("tick 1", maxLines), api.ErrLong, 0)
	wantWrong(t, long+"\n"+full("tick 1", maxLines), api.ErrLong, 0)
	wantWrong(t, full("tick 1", maxLines)+long, api.ErrLong, 0)
	wantWrong(t, full("nothing", maxLines+1), api.ErrLong, 0)
	wantWrong(t, full("tick 1", maxLines-1)+"nothing", api.ErrLine, maxLines)
	wantWrong(t, full("tick 1", maxLines-1)+long+"\n", api.ErrLong, maxLines)
	wantWrong(t, full("nothing", maxLines), api.ErrLine, 1)
	wantWrong(t, full("", maxLines-2)+"nothing\nnothing\n", api.ErrLine, maxLines-1)
	mixed := strings.Repeat("\n#\ntick 1\n\n", maxLines/4)
	want(t, "mixed", strings.Count(ran(t, mixed, wide, usual()).told, "\n"), maxLines/4)
	wantWrong(t, mixed+"\n", api.ErrLong, 0)
}

// A line of as many bytes as may be, and of one more.
func TestLongLines(t *testing.T) {
	remark := func(n int) string { return "#" + strings.Repeat("x", n-1) }
	wrong := func(n int) string { return strings.Repeat("x", n) }
	steps := func(n int) string { return "steps 10" + strings.Repeat(" 0", (n-8)/2) }
	digits := func(n int) string { return "raw 1 " + strings.Repeat("0", n-6) }
	for what, line := range map[string]string{
		"a remark":       remark(maxLine),
		"a remark, less": remark(maxLine - 1),
		"bytes":          digits(maxLine),
		"steps":          steps(maxLine),
	} {
		want(t, what, len(line), maxLine-strings.Count(what, "less"))
		want(t, what, ran(t, line, wide, usual()).spot, api.Spot{})
		want(t, what, ran(t, "tick 1\n"+line+"\ntick 1\n", wide, usual()).spot, api.Spot{})
	}
	for what, line := range map[string]string{
		"a remark":              remark(maxLine + 1),
		"a longer remark":       remark(3 * maxLine),
		"wrong":                 wrong(maxLine + 1),
		"blanks":                strings.Repeat(" ", maxLine+1),
		"steps":                 steps(maxLine + 2),
		"steps, and a blank":    steps(maxLine) + " ",
		"bytes":                 digits(maxLine + 2),
		"half a byte":           digits(maxLine + 1),
		"a zero":                strings.Repeat("\x00", maxLine+1),
		"a byte 13 at its end":  remark(maxLine) + "\r",
		"a blank ahead of a #":  " " + remark(maxLine),
		"a quote without end":   `say 1 1 put t k "` + strings.Repeat("v", maxLine),
		"a value that is right": "say 1 1 put t k " + strings.Repeat("v", maxLine) + " 0 0",
	} {
		want(t, what+" is too long", len(line) > maxLine, true)
		wantWrong(t, line, api.ErrLong, 1)
		wantWrong(t, line+"\n", api.ErrLong, 1)
		wantWrong(t, "tick 1\n\n"+line+"\ntick 1", api.ErrLong, 3)
		// Ahead of and behind a line that is wrong otherwise.
		wantWrong(t, line+"\nnothing", api.ErrLong, 1)
		wantWrong(t, "nothing\n"+line, api.ErrLine, 1)
		wantWrong(t, "#\n"+line+"\n"+line, api.ErrLong, 2)
	}
	wantWrong(t, wrong(maxLine), api.ErrLine, 1)
	wantWrong(t, strings.Repeat(" ", maxLine), api.ErrLine, 1)
	wantWrong(t, " "+remark(maxLine-1), api.ErrLine, 1)
	wantWrong(t, remark(maxLine-1)+"\r\n"+"nothing", api.ErrLine, 2)
}

// Lines that are none, each alone and among others.
func TestWrongLines(t *testing.T) {
	for _, line := range []string{
		" ", "  ", "\t", "\r", "\x00", "\xff", "x", "nothing", " #", " # remark", "\t#", "\r#", "open", "open 01", "open  1", "open 1 ", " open 1", "open 1000", "open -1", "open x", "Open 1", "open 1 1",
		"open 1\r", "steps\r", "check\r", "state\r", "tick 1\r", "open 1 # remark", "open 1#", "open 1\x00", "open 1\v", "open\t1",
		"shut", "shut 1 2", "say", "say 1", "say 1 1", "say 1 1 nothing", "say 1 1 ping 1", "say 1 -1 ping", "say 1 4294967296 ping", "say 1 01 ping", "say 1 1 deliver",
		"say 1 1 put t k", "say 1 1 put t k v 0", "say 1 1 put t k v 0 0 0", "say 1 1 put t k v -1 0", "say 1 1 put t k v 0 -1", "say 1 1 replay t -1", "say 1 1 create t -1",
		"say 1 1 get t " + strings.Repeat("k", 65), "say 1 1 get " + strings.Repeat("t", 25) + " k", "say 1 1 put t k " + strings.Repeat("v", 1025) + " 0 0", `say 1 1 get t "k"`, `say 1 1 get t "k`, `say 1 1 get t k"`, "say 1 1 get t é", "say 1000 1 ping",
		"raw", "raw 1", "raw 1 ", "raw 1 c", "raw 1 C5", "raw 1 c5 00", "raw 1 0x", "raw 1 --", "raw 1000 -",
		"tick", "tick -1", "tick 1125899906842625", "tick 01", "tick x", "tick 1 1", "tick 9223372036854775808",
		"steps ", "steps  0", "steps 0 ", "steps x", "steps 00", "steps -0", "steps +1", "steps 9223372036854775808", "steps 1,2",
		"take", "take 1", "take 1 -1", "take 1 1073741825", "take 1 1 1", "fuse", "fuse -2", "fuse 1073741825", "fuse 1 1", "crash x", "crash ", "check 1", "check ", "state 0", "state ", "Check",
		"run", "#\n#x\nopen", "tick 1\ntick",
	} {
		number := strings.Count(line, "\n") + 1
		wantWrong(t, line, api.ErrLine, number)
		wantWrong(t, line+"\n", api.ErrLine, number)
		wantWrong(t, "open 1\n\n#\n"+line+"\nopen 2\n", api.ErrLine, number+3)
	}
}

// Of several wrong lines the first one is told; lines ahead of it are not played.
func TestFirstWrongLine(t *testing.T) {
	for _, at := range []int{1, 2, 3, 17, 100, 4095, 4096} {
		lines := make([]string, maxLines)
		for i := range lines {
			lines[i] = []string{"tick 1", "", "# remark", "open 1", "steps 0 1 2 3", "check"}[i%6]
		}
		lines[at-1] = "nothing"
		wantWrong(t, texts(lines...), api.ErrLine, at)
		for _, second := range []string{"nothing", strings.Repeat("#", maxLine+1), "open"} {
			lines[maxLines-1] = second
			lines[at-1] = "open"
			wantRefused(t, texts(lines...), wide, usual(), api.Spot{Err: api.ErrLine, At: at})
			lines[at-1] = strings.Repeat("#", maxLine+1)
			wantRefused(t, texts(lines...), wide, usual(), api.Spot{Err: api.ErrLong, At: at})
		}
	}
}

// All short texts out of some bytes.
func TestShortTexts(t *testing.T) {
	pieces := []string{"\n", "#", " ", "tick 1", "\r", "state", "0"}
	wrong := 0
	for n := range 5 {
		for x := range pow(len(pieces), n) {
			script := ""
			for range n {
				script += pieces[x%len(pieces)]
				x /= len(pieces)
			}
			if ran(t, script, wide, usual()).spot != (api.Spot{}) {
				wrong++
			}
		}
	}
	want(t, "some are wrong", fmt.Sprint(wrong > 1000, wrong < 2700), "true true")
}

func pow(x, n int) int {
	all := 1
	for range n {
		all *= x
	}
	return all
}
