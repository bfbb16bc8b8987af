package shell_test

import (
	"fmt"
	"math"
	"slices"
	"strconv"
	"strings"
	"testing"

	"chronicle/api"
	"chronicle/probe"
	"chronicle/shell"
)

// 23.2

// sampleLines is the lines of the samples.
func sampleLines() []string {
	var lines []string
	for _, c := range samples() {
		line, _ := slowPrint(c)
		lines = append(lines, line)
	}
	return lines
}

func TestBlanks(t *testing.T) {
	for _, line := range []string{"", " ", "  ", "   ", "\t", "\n", "\x00", "\u2003"} {
		wantNoCommand(t, line)
	}
	for _, line := range sampleLines() {
		for _, blank := range []string{" ", "  ", "\t", "\n", "\r", "\x00", "\u00a0", "\u2003"} {
			wantNoCommand(t, blank+line)
			wantNoCommand(t, line+blank)
			for at, c := range line {
				if c == ' ' && blank != " " {
					wantParsed(t, line[:at]+blank+line[at+1:])
				}
			}
		}
	}
	for _, line := range []string{"open  1", "open\t1", "open\n1", "open\u00a01", "open\u20031", "open\v1", "say 1  7 ping", "say 1 7\tping", "steps 1  2", "steps  1", "steps ", "crash ", "check ", " check", "open1", "say 17ping", "say 1 7 get t k", "say 1 7 get  k", "say 1 7 get  "} {
		want(t, brief(line), wantParsed(t, line), line == "say 1 7 get t k")
	}
	wantLine(t, say(1, api.Request{Id: 7, Op: api.OpGet, Topic: " ", Key: "  "}), `say 1 7 get " " "  "`)
}

func TestQuotes(t *testing.T) {
	for part, s := range map[string]string{
		`""`: "", `" "`: " ", `"a b"`: "a b", `"a  b"`: "a  b", `"\""`: `"`, `"\\"`: `\`, `"\\\""`: `\"`, `"\" \""`: `" "`, `"\\ "`: `\ `,
		`"\x00"`: "\x00", `"\x1f"`: "\x1f", `"\x7f"`: "\x7f", `"\xff"`: "\xff", `"a\x0ab"`: "a\nb", `"'"`: "'", "\"`\"": "`", `"\xc3\xa9"`: "é",
		"a": "a", "-": "-", "-1": "-1", ".": ".", "01": "01", "name": "name", "A.b_C-9": "A.b_C-9",
	} {
		wantLine(t, say(1, api.Request{Id: 7, Op: api.OpList, Key: s}), "say 1 7 list "+part)
		wantLine(t, say(1, api.Request{Id: 7, Op: api.OpGet, Topic: s, Key: s}), "say 1 7 get "+part+" "+part)
		wantLine(t, say(1, api.Request{Id: 7, Op: api.OpPut, Key: s, Value: s}), `say 1 7 put "" `+part+" "+part+" 0 0")
	}
	for _, part := range []string{
		`"a"`, `"-"`, `"a.b"`, `"A_9"`, // needless quotes
		`"`, `"a b`, `a b"`, `" `, ` "`, `"""`, `""""`, `"a b"c`, `"a b""`, `"a b""c d"`, `c"a b"`, `a"`, `"a`, `a"b`, `a"b c"d`, `"\"`, `"\\\"`,
		`"a"b"`, `"a b" `, ` "a b"`, `"a b"x y"`, `'a'`, "'a b'", "`a b`", "`a`", `'"'`, `'`,
		`a,b`, `a/b`, `é`, `"é"`, "\"\u2003\"", "\"\xff\"", "\xff", "a\x00", "\"a\x00\"", "\"\n\"", "\"\t\"", "\"\x7f\"", "\x7f", "~", "!", "a\\", `\x41`, `\`, `\\`, `\"`, `\"a\"`,
	} {
		wantNoCommand(t, "say 1 7 list "+part)
		wantNoCommand(t, "say 1 7 get "+part+" k")
		wantNoCommand(t, "say 1 7 get t "+part)
		wantNoCommand(t, "say 1 7 put t "+part+" v 0 0")
		wantNoCommand(t, "say 1 7 put t k "+part+" 0 0")
	}
	for _, line := range []string{`"open" 1`, `open "1"`, `"open 1"`, `say "1" 7 ping`, `say 1 "7" ping`, `say 1 7 "ping"`, `raw 1 "c5"`, `raw 1 "-"`, `tick "5"`, `steps "1"`, `say 1 7 create t "5"`, `o"pen" 1`, `say 1 7 replay "t" 5`, `check "`, `check ""`} {
		wantNoCommand(t, line)
	}
}

func TestEscapes(t *testing.T) {
	for c := range 256 {
		hex, great, itself := fmt.Sprintf("%02x", c), fmt.Sprintf("%02X", c), string([]byte{byte(c)})
		unseen, special := c < 32 || c > 126, c == '"' || c == '\\'
		for told, right := range map[string]bool{
			itself:                  !unseen && !special,
			`\` + itself:            special,
			`\X` + hex:              false,
			`\u00` + hex:            false,
			`\U000000` + hex:        false,
			fmt.Sprintf(`\%03o`, c): false,
			`\x` + hex[1:] + `g`:    false,
			`\x` + hex:              unseen,
			`\x` + great:            unseen && great == hex,
		} {
			want(t, brief(told), wantParsed(t, `say 1 7 list "a `+told+`"`), right)
			want(t, brief(told)+" ahead", wantParsed(t, `say 1 7 get t "`+told+` a"`), right)
		}
	}
	for _, escape := range []string{`\`, `\x`, `\x0`, `\x0g`, `\xg0`, `\x 0`, `\x-1`, `\x+1`, `\xFF`, `\xfF`, `\n`, `\t`, `\r`, `\a`, `\0`, `\000`, `\377`, `\u0000`, `\U00000000`, `\'`, `\q`, `\ `, `\x41`, `\x20`, `\x22`, `\x5c`, `\x7e`} {
		for _, line := range []string{`say 1 7 list "` + escape + `"`, `say 1 7 list "a b` + escape + `"`, `say 1 7 list "` + escape + ` b"`, "say 1 7 list " + escape, "say 1 7 list a" + escape, `say 1 7 list "a b` + escape} {
			wantNoCommand(t, line)
		}
	}
}

// wrongNumbers is what no number looks like, or what is beyond all numbers.
func wrongNumbers() []string {
	return []string{"", "00", "01", "007", "-", "-0", "-00", "-01", "--1", "+0", "+1", "+", "1-", "1+", "1 ", "0x1", "0b1", "0o7", "1_0", "_1", "1e3", "1.0", ".5", "x", "1x", "x1", "a", "٣", "１", "½", "\"1\"", "1\x00", "NaN", "inf", "true", "9223372036854775808", "-9223372036854775809", "18446744073709551615", "18446744073709551616", "-18446744073709551616", "340282366920938463463374607431768211456", strings.Repeat("9", 1000), strings.Repeat("0", 1000), "-" + strings.Repeat("9", 1000), strings.Repeat("0", 999) + "1"}
}

func TestNumbersRead(t *testing.T) {
	places := []string{"open %", "shut %", "say % 7 ping", "say 1 % ping", "say 1 7 create t %", "say 1 7 put t k v % 0", "say 1 7 put t k v 0 %", "say 1 7 delete t k % 0", "say 1 7 delete t k 0 %", "say 1 7 replay t %", "say 1 7 subscribe t %", "say 1 7 unsubscribe %", "say 1 7 commit t g % 0", "say 1 7 commit t g 0 %", "raw % -", "tick %", "steps %", "steps 1 %", "steps % 1", "take % 0", "take 0 %", "fuse %", "crash %", "crash 0 0 %"}
	for _, place := range places {
		for _, number := range wrongNumbers() {
			wantNoCommand(t, strings.Replace(place, "%", number, 1))
		}
		for _, n := range []int64{math.MinInt64, -1 << 32, -2, -1, 0, 1, 9, 10, 999, 1000, maxQuota, maxQuota + 1, 1<<32 - 1, 1 << 32, 1<<32 + 1, maxTime, maxTime + 1, math.MaxInt64 - 1, math.MaxInt64} {
			wantParsed(t, strings.Replace(place, "%", strconv.FormatInt(n, 10), 1))
		}
	}
	for line, right := range map[string]bool{
		"say 1 4294967295 ping": true, "say 1 4294967296 ping": false, "say 1 4294967297 ping": false, "say 1 -1 ping": false, "say 1 18446744073709551615 ping": false,
		"steps 9223372036854775807": true, "steps -9223372036854775808": true, "steps -9223372036854775809": false, "steps 9223372036854775808": false,
		"open 999": true, "open 1000": false, "open -1": false, "open 18446744073709551617": false, "fuse -1": true, "fuse -2": false, "tick -1": false, "take 1 -1": false,
		"say 1 7 replay t 9223372036854775807": true, "say 1 7 replay t -1": false, "say 1 7 unsubscribe -9223372036854775808": false,
	} {
		want(t, line, wantParsed(t, line), right)
	}
}

// changedWords is a word with one byte more, one less, another one, in great letters, and with blanks.
func changedWords(word string) []string {
	list := []string{strings.ToUpper(word), strings.ToUpper(word[:1]) + word[1:], word[:len(word)-1] + strings.ToUpper(word[len(word)-1:]), word + word, ""}
	for at := range len(word) + 1 {
		for _, c := range "aest-0 \x00é" {
			list = append(list, word[:at]+string(c)+word[at:])
		}
		if at < len(word) {
			list = append(list, word[:at]+word[at+1:], word[:at]+"q"+word[at+1:])
		}
	}
	return list
}

func TestWords(t *testing.T) {
	tried := 0
	for _, line := range sampleLines() {
		if len(line) > 200 {
			continue
		}
		parts := strings.SplitN(line, " ", 5)
		for i := range min(4, len(parts)) {
			if i != 0 && (i != 3 || parts[0] != "say") {
				continue
			}
			for _, word := range changedWords(parts[i]) {
				other := slices.Clone(parts)
				other[i] = word
				if got := strings.Join(other, " "); got != line {
					wantParsed(t, got)
					tried++
				}
			}
		}
	}
	want(t, "some are tried", tried > 10000, true)
	for _, word := range append(verbWords(), "nothing", "VOpen", "0", "-1") {
		for _, rest := range []string{"", " 1", " 1 2", " 1 2 ping", " 1 c5", " -1"} {
			wantParsed(t, word+rest)
		}
		wantNoCommand(t, "x"+word)
		wantNoCommand(t, strings.ToUpper(word)+" 1")
	}
	for _, word := range []string{"", "deliver", "op1", "op5", "64", "1", "Ping", "PING", "pin", "pings", "-", `"ping"`, `""`} {
		wantNoCommand(t, "say 1 7 "+word)
		wantNoCommand(t, "say 1 7 "+word+" t")
		wantNoCommand(t, "say 1 7 "+word+" t k")
	}
}

// A part too many, and one too few, at each place.
func TestPartsTooManyAndTooFew(t *testing.T) {
	for _, line := range sampleLines() {
		parts := shownPart.FindAllString(line, -1)
		if len(parts) > 20 {
			continue
		}
		for at := range len(parts) + 1 {
			for _, part := range []string{"0", "1", "-", "a", `""`, `"a b"`, "ping", "open", "-1", "c5"} {
				wantParsed(t, strings.Join(slices.Insert(slices.Clone(parts), at, part), " "))
			}
			if at < len(parts) {
				wantParsed(t, strings.Join(slices.Delete(slices.Clone(parts), at, at+1), " "))
				wantParsed(t, strings.Join(parts[:at], " "))
			}
		}
		if parts[0] != "steps" && parts[0] != "crash" {
			wantNoCommand(t, line+" 0")
			wantNoCommand(t, strings.Join(parts[:len(parts)-1], " "))
		}
		wantNoCommand(t, line+" x")
	}
}

func TestRawRead(t *testing.T) {
	for part, b := range map[string]string{"-": "", "00": "\x00", "ff": "\xff", "c500": "\xc5\x00", "0a0B": "no", "0a0b": "\n\x0b", "": "no", "c": "no", "c50": "no", "C5": "no", "cG": "no", "c5-": "no", "-c5": "no", "--": "no", "-0": "no", "0-": "no", "+1": "no", "0x": "no", "0xc5": "no", "c5 00": "no", "c 5": "no", `""`: "no", "é": "no", "\xc5": "no", "1_0": "no", "c5\n": "no"} {
		if b == "no" {
			wantNoCommand(t, "raw 1 "+part)
			continue
		}
		wantLine(t, api.Command{Verb: api.VRaw, Conn: 1, Raw: []byte(b)}, "raw 1 "+part)
	}
	wantNoCommand(t, "raw 1")
	wantNoCommand(t, "raw 1 c5 -")
	wantNoCommand(t, "raw -")
	for a := range 256 {
		for _, part := range []string{string([]byte{byte(a), '0'}), string([]byte{'0', byte(a)}), string([]byte{'a', 'b', byte(a), 'c'}), string([]byte{byte(a)})} {
			wantParsed(t, "raw 1 "+part)
		}
	}
}

func TestLinesThatAreTooLong(t *testing.T) {
	for _, line := range []string{"open ", "steps", "check", "", "say 1 7 list ", `say 1 7 list "`, "raw 1 "} {
		for _, more := range []string{"0", " ", " 0", `"`, `\`, "x", "\xff", "é", "-"} {
			for _, n := range []int{maxLine - 1, maxLine, maxLine + 1, 1 << 18} {
				wantParsed(t, (line + strings.Repeat(more, n/len(more)+1))[:n])
			}
		}
	}
	steps := "steps 10" + strings.Repeat(" 0", 2044)
	want(t, "the longest line", len(steps), maxLine)
	want(t, "the longest line", wantParsed(t, steps), true)
	want(t, "one more", wantParsed(t, steps+"0"), false)
	want(t, "the longest bytes", wantParsed(t, "raw 0 "+strings.Repeat("0f", 2045)), true)
	want(t, "one more", wantParsed(t, "raw 10 "+strings.Repeat("0f", 2045)), false)
	// The text itself is not too long, its line is.
	want(t, "a text's line", wantParsed(t, `say 1 7 put t k "`+strings.Repeat(`\x00`, 1018)+`" 0 0`), true)
	want(t, "a text's line", wantParsed(t, `say 1 7 put t k "`+strings.Repeat(`\x00`, 1020)+`" 0 0`), false)
	wantNoCommand(t, strings.Repeat("open 1 ", 1<<22))
}

func TestTextsThatAreTooLong(t *testing.T) {
	for line, n := range map[string]int{"say 1 7 stat %": 24, "say 1 7 list %": 64, "say 1 7 get % k": 24, "say 1 7 get t %": 64, "say 1 7 put t k % 0 0": 1024, "say 1 7 put t % v 0 0": 64} {
		for _, length := range []int{n - 1, n, n + 1} {
			want(t, fmt.Sprint(line, length), wantParsed(t, strings.Replace(line, "%", strings.Repeat("x", length), 1)), length <= n)
			want(t, fmt.Sprint(line, length), wantParsed(t, strings.Replace(line, "%", `"`+strings.Repeat(" ", length)+`"`, 1)), length <= n)
		}
	}
}

// All short lines of some bytes, behind what makes them lines.
func TestAllShortEnds(t *testing.T) {
	for ahead, signs := range map[string]string{
		"":                     "ope 1s",
		"steps":                " 019-",
		"raw 1 ":               "0fFg- ",
		"tick ":                "019-+ ",
		"say 1 7 list ":        `"\x4a `,
		`say 1 7 list "`:       "\"\\x07\xff",
		`say 1 7 get "\x00`:    `"\ xf0`,
		"say 1 7 commit a b 0": " 19-\"",
	} {
		taken, all := 0, 0
		ends := []string{""}
		for range 5 {
			var longer []string
			for _, end := range ends {
				for i := range len(signs) {
					longer = append(longer, end+signs[i:i+1])
				}
			}
			for _, end := range longer {
				all++
				if wantParsed(t, ahead+end) {
					taken++
				}
			}
			ends = longer
		}
		if ahead != "" && (taken < 10 || taken == all) {
			t.Errorf("behind %q %d of %d are taken", ahead, taken, all)
		}
	}
}

// R1: any bytes are answered.
func TestAnyBytes(t *testing.T) {
	for seed := range uint64(4000) {
		b := probe.Text(seed, int(seed%97))
		wantParsed(t, b)
		wantParsed(t, "say 1 7 list "+b)
		wantParsed(t, "raw 1 "+b)
		wantParsed(t, `say 1 7 get t "`+b+`"`)
	}
}

// R2: what a call answers hangs on what it is handed alone.
func TestCallsLeaveNothingBehind(t *testing.T) {
	for range 3 {
		for _, c := range samples() {
			shell.Parse("no line")
			shell.Parse(`say 1 7 list "`)
			shell.Print(api.Command{Verb: 11})
			wantPrinted(t, c)
		}
	}
}
