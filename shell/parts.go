package shell

import (
	"strconv"
	"strings"

	"chronicle/api"
)

// plain is the bytes of which a text may be written as itself.
const plain = "abcdefghijklmnopqrstuvwxyzABCDEFGHIJKLMNOPQRSTUVWXYZ0123456789._-"

// digits is those in which a byte is written.
const digits = "0123456789abcdef"

// noBytes is how it is written that there are no bytes.
const noBytes = "-"

// writer gathers the parts of a line.
type writer struct {
	parts []string
}

func (w *writer) word(s string) { w.parts = append(w.parts, s) }

func (w *writer) number(n int64) { w.word(strconv.FormatInt(n, 10)) }

func (w *writer) text(s string) {
	if s != "" && strings.Trim(s, plain) == "" {
		w.word(s)
		return
	}
	w.word(quoted(s))
}

func (w *writer) bytes(b []byte) {
	if len(b) == 0 {
		w.word(noBytes)
		return
	}
	var part []byte
	for _, c := range b {
		part = appendByte(part, c)
	}
	w.word(string(part))
}

// line is all parts that were written.
func (w *writer) line() string { return strings.Join(w.parts, " ") }

// quoted is a text between two quotes.
func quoted(s string) string {
	part := []byte{'"'}
	for i := range len(s) {
		switch c := s[i]; {
		case c == '"' || c == '\\':
			part = append(part, '\\', c)
		case ' ' <= c && c <= '~':
			part = append(part, c)
		default:
			part = appendByte(append(part, '\\', 'x'), c)
		}
	}
	return string(append(part, '"'))
}

// appendByte writes a byte in two digits.
func appendByte(part []byte, c byte) []byte { return append(part, digits[c>>4], digits[c&15]) }

// reader goes through the parts of a line, and gives up where there is none of the kind that is wanted. It takes more than a writer writes (needless zeros and quotes, great digits); that is for Parse to find.
type reader struct {
	parts []string
}

// giveUp ends the reading of what is no line, from however deep inside, up to Parse.
func giveUp() { panic(api.ErrLine) }

func (r *reader) word() string {
	if len(r.parts) == 0 {
		giveUp()
	}
	first := r.parts[0]
	r.parts = r.parts[1:]
	return first
}

func (r *reader) number() int64 {
	n, e := strconv.ParseInt(r.word(), 10, 64)
	if e != nil {
		giveUp()
	}
	return n
}

// text is a copy: no command shares the line's memory.
func (r *reader) text() string {
	part := r.word()
	if !strings.HasPrefix(part, `"`) {
		return strings.Clone(part)
	}
	s, e := strconv.Unquote(part)
	if e != nil {
		giveUp()
	}
	return strings.Clone(s)
}

func (r *reader) bytes() []byte {
	part := r.word()
	if part == noBytes {
		return nil
	}
	b := make([]byte, len(part)/2)
	for i := range b {
		c, e := strconv.ParseUint(part[2*i:2*i+2], 16, 8)
		if e != nil {
			giveUp()
		}
		b[i] = byte(c)
	}
	return b
}

// cut is the parts of a line: what stands between those blanks that are not within quotes.
func cut(line string) []string {
	var parts []string
	from, within, escaped := 0, false, false
	for at, c := range line {
		switch {
		case escaped:
			escaped = false
		case c == '\\':
			escaped = true
		case c == '"':
			within = !within
		case c == ' ' && !within:
			parts = append(parts, line[from:at])
			from = at + 1
		}
	}
	return append(parts, line[from:])
}
