package shell_test

import (
	"encoding/hex"
	"fmt"
	"math/big"
	"reflect"
	"regexp"
	"slices"
	"strconv"
	"strings"
	"sync"

	"chronicle/api"
)

// The document's numbers.
const (
	maxLine   = 4096
	lastConn  = 999
	maxTime   = 1 << 50
	maxQuota  = 1 << 30
	lastId    = 1<<32 - 1
	deliverOp = 64
)

// verbWords is the verbs' words, as the chapter's table tells them.
func verbWords() []string {
	return []string{"open", "shut", "say", "raw", "tick", "steps", "take", "fuse", "crash", "check", "state"}
}

// usage is which fields of a command each verb uses.
func usage() map[int]string {
	return map[int]string{
		0: "Conn", 1: "Conn", 2: "Conn Request", 3: "Conn Raw", 4: "N", 5: "Picks",
		6: "Conn N", 7: "N", 8: "Picks", 9: "", 10: "",
	}
}

// bounds is from where to where N may be, of the verbs that use it.
func bounds() map[int][2]int64 {
	return map[int][2]int64{4: {0, maxTime}, 6: {0, maxQuota}, 7: {-1, maxQuota}}
}

// operationWords is the operations' words, as the chapter 16's table tells them.
func operationWords() map[int]string {
	return map[int]string{
		1: "ping", 2: "create", 3: "drop", 4: "list", 5: "put", 6: "delete", 7: "get", 8: "replay", 9: "snapshot",
		10: "subscribe", 11: "unsubscribe", 12: "join", 13: "commit", 14: "position", 15: "stat",
	}
}

// operationUsage is which fields of a request each operation uses.
func operationUsage() map[int]string {
	return map[int]string{
		1: "", 2: "Topic Number", 3: "Topic", 4: "Key", 5: "Topic Key Value Pid Seq", 6: "Topic Key Pid Seq",
		7: "Topic Key", 8: "Topic Offset", 9: "Topic Key", 10: "Topic Offset", 11: "Number", 12: "Key",
		13: "Topic Key Offset Number", 14: "Topic Key", 15: "Topic",
	}
}

func commandFields() []string { return []string{"Conn", "Request", "Raw", "N", "Picks"} }

func requestFields() []string {
	return []string{"Topic", "Key", "Value", "Offset", "Number", "Pid", "Seq"}
}

// most is how many bytes a request's text may have; 0 of a number.
func most(field string) int {
	return map[string]int{"Topic": 24, "Key": 64, "Value": 1024}[field]
}

func has(list, field string) bool { return slices.Contains(strings.Fields(list), field) }

var plainForm = regexp.MustCompile(`^[a-zA-Z0-9._-]+$`)

func isPlain(s string) bool { return plainForm.MatchString(s) }

// slowText is a text as the chapter tells it.
func slowText(s string) string {
	if isPlain(s) {
		return s
	}
	var told strings.Builder
	told.WriteByte('"')
	for _, c := range []byte(s) {
		switch {
		case c == '"':
			told.WriteString(`\"`)
		case c == '\\':
			told.WriteString(`\\`)
		case c >= 32 && c <= 126:
			told.WriteByte(c)
		default:
			fmt.Fprintf(&told, `\x%02x`, c)
		}
	}
	return told.String() + `"`
}

// slowUntext is the text that is written so, and whether one is.
func slowUntext(part string) (string, bool) {
	if !strings.HasPrefix(part, `"`) {
		return part, isPlain(part)
	}
	var s []byte
	for rest := part[1 : len(part)-1]; rest != ""; {
		n := 1
		switch {
		case strings.HasPrefix(rest, `\x`):
			b, _ := strconv.ParseUint(rest[2:4], 16, 8)
			s = append(s, byte(b))
			n = 4
		case rest[0] == '\\':
			s = append(s, rest[1])
			n = 2
		default:
			s = append(s, rest[0])
		}
		rest = rest[n:]
	}
	return string(s), slowText(string(s)) == part
}

func slowBytes(b []byte) string {
	if len(b) == 0 {
		return "-"
	}
	return hex.EncodeToString(b)
}

// slowRight tells whether a request may be said.
func slowRight(r api.Request) bool {
	uses, right := operationUsage()[r.Op]
	v := reflect.ValueOf(r)
	for _, field := range requestFields() {
		f := v.FieldByName(field)
		if !has(uses, field) {
			right = right && f.IsZero()
		} else if n := most(field); n > 0 {
			right = right && f.Len() <= n
		} else {
			right = right && f.Int() >= 0
		}
	}
	return right
}

func slowRequest(r api.Request) string {
	told := fmt.Sprintf(" %d %s", r.Id, operationWords()[r.Op])
	v := reflect.ValueOf(r)
	for _, field := range strings.Fields(operationUsage()[r.Op]) {
		if most(field) > 0 {
			told += " " + slowText(v.FieldByName(field).String())
		} else {
			told += fmt.Sprintf(" %d", v.FieldByName(field).Int())
		}
	}
	return told
}

// slowFits tells whether the fields of a command may be as they are.
func slowFits(c api.Command) bool {
	uses, right := usage()[c.Verb]
	v := reflect.ValueOf(c)
	for _, field := range commandFields() {
		f := v.FieldByName(field)
		if !has(uses, field) {
			right = right && (f.IsZero() || f.Kind() == reflect.Slice && f.Len() == 0)
		}
	}
	if b, ok := bounds()[c.Verb]; ok {
		right = right && b[0] <= c.N && c.N <= b[1]
	}
	return right && 0 <= c.Conn && c.Conn <= lastConn && (c.Verb != 2 || slowRight(c.Request))
}

// slowPrint is a command's line, however long it is, and whether there is one.
func slowPrint(c api.Command) (string, bool) {
	if !slowFits(c) {
		return "", false
	}
	line := verbWords()[c.Verb]
	for _, field := range strings.Fields(usage()[c.Verb]) {
		switch field {
		case "Conn":
			line += fmt.Sprintf(" %d", c.Conn)
		case "Request":
			line += slowRequest(c.Request)
		case "Raw":
			line += " " + slowBytes(c.Raw)
		case "N":
			line += fmt.Sprintf(" %d", c.N)
		case "Picks":
			for _, pick := range c.Picks {
				line += fmt.Sprintf(" %d", pick)
			}
		}
	}
	return line, len(line) <= maxLine
}

// form is how a line may look, by a pattern: what it leaves open is whether a number is in its bounds, a text too long, a quote or an escape needless.
type form struct {
	verb, op int
	pattern  *regexp.Regexp
}

const (
	numberForm = ` (0|-?[1-9][0-9]*)`
	textForm   = ` ([a-zA-Z0-9._-]+|"(?:[ !#-\[\]-~]|\\["\\]|\\x[0-9a-f][0-9a-f])*")`
	bytesForm  = ` (-|(?:[0-9a-f][0-9a-f])+)`
	picksForm  = `((?: (?:0|-?[1-9][0-9]*))*)`
)

var forms = sync.OnceValue(func() []form {
	var list []form
	for verb, word := range verbWords() {
		pattern := word
		for _, field := range strings.Fields(usage()[verb]) {
			pattern += map[string]string{"Conn": numberForm, "N": numberForm, "Raw": bytesForm, "Picks": picksForm}[field]
		}
		if !has(usage()[verb], "Request") {
			list = append(list, form{verb, 0, regexp.MustCompile("^" + pattern + "$")})
			continue
		}
		for op, word := range operationWords() {
			said := pattern + numberForm + " " + word
			for _, field := range strings.Fields(operationUsage()[op]) {
				if most(field) > 0 {
					said += textForm
				} else {
					said += numberForm
				}
			}
			list = append(list, form{verb, op, regexp.MustCompile("^" + said + "$")})
		}
	}
	return list
})

// slowNumber is a number, and whether it is from least to most.
func slowNumber(part string, least, most int64) (int64, bool) {
	n, ok := new(big.Int).SetString(part, 10)
	if !ok || n.Cmp(big.NewInt(least)) < 0 || n.Cmp(big.NewInt(most)) > 0 {
		return 0, false
	}
	return n.Int64(), true
}

// slowParse is the command of a line, and whether there is one.
func slowParse(line string) (api.Command, bool) {
	if len(line) > maxLine {
		return api.Command{}, false
	}
	for _, f := range forms() {
		if parts := f.pattern.FindStringSubmatch(line); parts != nil {
			return slowCommand(f, parts[1:])
		}
	}
	return api.Command{}, false
}

func slowCommand(f form, parts []string) (api.Command, bool) {
	c := api.Command{Verb: f.verb}
	right := true
	number := func(least, most int64) int64 {
		n, ok := slowNumber(parts[0], least, most)
		right = right && ok
		parts = parts[1:]
		return n
	}
	for _, field := range strings.Fields(usage()[f.verb]) {
		switch field {
		case "Conn":
			c.Conn = int(number(0, lastConn))
		case "N":
			c.N = number(bounds()[f.verb][0], bounds()[f.verb][1])
		case "Raw":
			c.Raw, _ = hex.DecodeString(strings.TrimPrefix(parts[0], "-"))
		case "Picks":
			parts = strings.Fields(parts[0])
			for len(parts) > 0 {
				c.Picks = append(c.Picks, int(number(-1<<63, 1<<63-1)))
			}
		case "Request":
			c.Request.Id = uint32(number(0, lastId))
			c.Request.Op = f.op
			v := reflect.ValueOf(&c.Request).Elem()
			for _, field := range strings.Fields(operationUsage()[f.op]) {
				n := most(field)
				if n == 0 {
					v.FieldByName(field).SetInt(number(0, 1<<63-1))
					continue
				}
				s, ok := slowUntext(parts[0])
				right = right && ok && len(s) <= n
				v.FieldByName(field).SetString(s)
				parts = parts[1:]
			}
		}
	}
	if !right {
		return api.Command{}, false
	}
	return c, true
}

func codeWords() []string {
	return []string{"ok", "bad-request", "no-topic", "exists", "full", "offsets", "horizon-passed", "throttled", "sequence", "too-many", "no-such", "beyond"}
}

// slowWord is the word of a number, or, where there is none, what it is with the number behind.
func slowWord(words map[int]string, n int, what string) string {
	if word, ok := words[n]; ok {
		return word
	}
	return fmt.Sprintf("%s%d", what, n)
}

func shownOperations() map[int]string {
	words := operationWords()
	words[deliverOp] = "deliver"
	return words
}

func shownCodes() map[int]string {
	words := map[int]string{}
	for code, word := range codeWords() {
		words[code] = word
	}
	return words
}

func shownKinds() map[int]string { return map[int]string{1: "value", 2: "tombstone"} }

// slowShow is a response's line.
func slowShow(r api.Response) string {
	more := map[bool]string{true: "more", false: "last"}[r.More]
	line := fmt.Sprintf("%d %s %s %d %d %s", r.Id, slowWord(shownOperations(), r.Op, "op"), slowWord(shownCodes(), r.Code, "code"), r.Offset, r.Number, more)
	for _, name := range r.Names {
		line += " name " + slowText(name)
	}
	for _, rec := range r.Records {
		line += fmt.Sprintf(" %s %d %d %d %d %s %s", slowWord(shownKinds(), rec.Kind, "kind"), rec.Offset, rec.Time, rec.Pid, rec.Seq, slowText(rec.Key), slowText(rec.Value))
	}
	return line
}

// shown reads a response back from its line. Of any other line it may panic.
type shown struct{ parts []string }

func (s *shown) next() string {
	part := s.parts[0]
	s.parts = s.parts[1:]
	return part
}

func (s *shown) number() int64 {
	n, e := strconv.ParseInt(s.next(), 10, 64)
	if e != nil {
		panic(e)
	}
	return n
}

func (s *shown) text() string {
	told, ok := slowUntext(s.next())
	if !ok {
		panic("no text")
	}
	return told
}

func (s *shown) word(words map[int]string, what string) int {
	part := s.next()
	for n, word := range words {
		if word == part {
			return n
		}
	}
	n, e := strconv.Atoi(strings.TrimPrefix(part, what))
	if e != nil {
		panic(e)
	}
	return n
}

var shownPart = regexp.MustCompile(`"(?:[^"\\]|\\.)*"|[^ ]+`)

func readShown(line string) api.Response {
	s := &shown{shownPart.FindAllString(line, -1)}
	r := api.Response{Id: uint32(s.number()), Op: s.word(shownOperations(), "op"), Code: s.word(shownCodes(), "code"), Offset: s.number(), Number: s.number(), More: s.next() == "more"}
	for len(s.parts) > 0 && s.parts[0] == "name" {
		s.next()
		r.Names = append(r.Names, s.text())
	}
	for len(s.parts) > 0 {
		r.Records = append(r.Records, api.Record{Kind: s.word(shownKinds(), "kind"), Offset: s.number(), Time: s.number(), Pid: s.number(), Seq: s.number(), Key: s.text(), Value: s.text()})
	}
	return r
}
