package chronicle

import (
	"strings"

	"chronicle/api"
	"chronicle/shell"
)

const (
	lineEnd = "\n"
	remark  = "#" // what a line begins with that says nothing
)

// line is a command, and the number of the line on which it stands.
type line struct {
	number int
	api.Command
}

// read is the commands of a text, or what is wrong with its first wrong line.
func read(text string) ([]line, api.Spot) {
	body := strings.TrimSuffix(text, lineEnd) // what it ends is a line already
	if strings.Count(body, lineEnd) >= api.MaxLines {
		return nil, api.Spot{Err: api.ErrLong}
	}
	var script []line
	for i, s := range strings.Split(body, lineEnd) {
		c, says, e := readLine(s)
		if e != api.OK {
			return nil, api.Spot{Err: e, At: i + 1}
		}
		if says {
			script = append(script, line{i + 1, c})
		}
	}
	return script, api.Spot{}
}

// readLine is a line's command, and tells whether it says one.
func readLine(s string) (api.Command, bool, api.Errno) {
	switch {
	case len(s) > api.MaxLine:
		return api.Command{}, false, api.ErrLong
	case s == "" || strings.HasPrefix(s, remark):
		return api.Command{}, false, api.OK
	}
	c, e := shell.Parse(s)
	return c, e == api.OK, e
}
