package chronicle_test

import (
	"fmt"
	"strings"
	"testing"

	"chronicle/api"
	"chronicle/chronicle"
	"chronicle/probe"
	"chronicle/shell"
	"chronicle/wire"
)

// The document's numbers.
const (
	maxLines = 4096
	maxLine  = 4096
	maxConns = 16
	maxQuota = 1 << 30
	maxTime  = 1 << 50
	wide     = 1 << 20 // bytes of a disk that has room
)

// usual is the config of the chapter's examples.
func usual() api.Config { return api.Config{Limit: 256, Horizon: 100, Share: 50} }

// outcome is what a script comes to.
type outcome struct {
	told  string
	files []api.File
	spot  api.Spot
}

func run(text string, quota int, cfg api.Config) outcome {
	told, files, spot := chronicle.Run(text, quota, cfg)
	return outcome{told, files, spot}
}

// ran is what a script comes to, held against the slow one, and against a second time.
func ran(t *testing.T, text string, quota int, cfg api.Config) outcome {
	t.Helper()
	got := run(text, quota, cfg)
	wanted, _ := slowly(text, quota, cfg)
	got.want(t, brief(text), wanted)
	run(text, quota, cfg).want(t, "24.5: a second time: "+brief(text), got)
	got.wellFormed(t, text)
	return got
}

// want fails unless two scripts have come to the same.
func (o outcome) want(t *testing.T, what string, wanted outcome) {
	t.Helper()
	if o.told != wanted.told {
		t.Errorf("%s: told\n%s\nwant\n%s", what, o.told, wanted.told)
	}
	if probe.Key(o.files) != probe.Key(wanted.files) {
		t.Errorf("%s: the files %v, want %v", what, sizes(o.files), sizes(wanted.files))
	}
	if o.spot != wanted.spot {
		t.Errorf("%s: %v, want %v", what, o.spot, wanted.spot)
	}
}

// wellFormed fails unless each line that is told ends, and begins with the number of a command's line, the numbers rising.
func (o outcome) wellFormed(t *testing.T, text string) {
	t.Helper()
	if o.told == "" {
		return
	}
	lines := strings.Split(text, "\n")
	last := 0
	for _, told := range slowLines(o.told) {
		var n int
		var word string
		if got, _ := fmt.Sscanf(told, "%d %s", &n, &word); got < 2 || n < last || n > len(lines) {
			t.Errorf("told of %s: %q", brief(text), told)
			return
		}
		if !strings.HasPrefix(told, fmt.Sprint(n, " ", word)) {
			t.Errorf("told of %s: %q", brief(text), told)
		}
		if _, e := shell.Parse(lines[n-1]); e != api.OK {
			t.Errorf("told of the line %q: %q", lines[n-1], told)
		}
		last = n
	}
	want(t, "the last line ends", strings.HasSuffix(o.told, "\n"), true)
	want(t, "no other bytes", strings.ContainsFunc(o.told, func(r rune) bool { return r != '\n' && (r < 32 || r > 126) }), false)
}

// unnumbered is what was told, without the numbers ahead.
func unnumbered(told string) string {
	all := ""
	for _, line := range slowLines(told) {
		_, said, _ := strings.Cut(line, " ")
		all += said + "\n"
	}
	return all
}

// sizes tells files in short.
func sizes(files []api.File) []string {
	var list []string
	for _, f := range files {
		list = append(list, fmt.Sprint(f.Name, " ", len(f.Data)))
	}
	return list
}

// wantTold fails unless a script tells just that. (Both are written with a line feed ahead.)
func wantTold(t *testing.T, script, wanted string) outcome {
	t.Helper()
	return wantToldBy(t, wide, usual(), script, wanted)
}

// wantToldBy is the same with another quota and another config.
func wantToldBy(t *testing.T, quota int, cfg api.Config, script, wanted string) outcome {
	t.Helper()
	script, wanted = strings.TrimPrefix(script, "\n"), strings.TrimPrefix(wanted, "\n")
	got := ran(t, script, quota, cfg)
	if got.told != wanted {
		t.Errorf("the script\n%s\ntells\n%s\nwant\n%s", script, got.told, wanted)
	}
	want(t, "the spot", got.spot, api.Spot{})
	return got
}

// wantRefused fails unless a text is refused, and nothing is told of it.
func wantRefused(t *testing.T, text string, quota int, cfg api.Config, wanted api.Spot) {
	t.Helper()
	if got := ran(t, text, quota, cfg); got.told != "" || len(got.files) != 0 || got.spot != wanted {
		t.Errorf("%s with %d, %+v: %q, %v, %v, want %v", brief(text), quota, cfg, got.told, sizes(got.files), got.spot, wanted)
	}
}

// wantWrong fails unless a text has a wrong line, whatever the disk and the config.
func wantWrong(t *testing.T, text string, errno api.Errno, number int) {
	t.Helper()
	for _, cfg := range []api.Config{usual(), {}} {
		for _, quota := range []int{wide, 0, -1} {
			wantRefused(t, text, quota, cfg, api.Spot{Err: errno, At: number})
		}
	}
}

// texts is lines as one text.
func texts(lines ...string) string { return strings.Join(lines, "\n") + "\n" }

// brief tells a text, cut short.
func brief(text string) string { return fmt.Sprintf("%.120q", text) }

// raw is the line of a VRaw.
func raw(conn int, b []byte) string {
	line, _ := shell.Print(api.Command{Verb: api.VRaw, Conn: conn, Raw: b})
	return line
}

// say is the line of a VSay.
func say(conn int, r api.Request) string {
	line, _ := shell.Print(api.Command{Verb: api.VSay, Conn: conn, Request: r})
	return line
}

// picked is the line of a verb with picks.
func picked(verb int, picks ...int) string {
	line, _ := shell.Print(api.Command{Verb: verb, Picks: picks})
	return line
}

// bulk is a text of n letters that squeezing does not make much shorter.
func bulk(seed, n int) string {
	b := make([]byte, n)
	for i, x := range probe.Noise(uint64(seed), n) {
		b[i] = 'a' + byte(x>>20%26)
	}
	return string(b)
}

// frame is a request's bytes.
func frame(r api.Request) []byte {
	b, _ := wire.EncodeRequest(r)
	return b
}

// want fails if an answer is another one than is wanted.
func want[T comparable](t *testing.T, what string, got, wanted T) {
	t.Helper()
	if got != wanted {
		t.Errorf("%s: %v, want %v", what, got, wanted)
	}
}
