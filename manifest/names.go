package manifest

import (
	"strconv"
	"strings"

	"chronicle/api"
)

const (
	catalogue = "catalog"
	behind    = ".tmp" // what a file's name ends in that is not to count yet
)

// Name tells a file's name.
func Name(n api.FileName) string {
	name := stem(n)
	if n.Tmp && name != "" {
		return name + behind
	}
	return name
}

// stem is a file's name without what stands behind it; none, if the fields are not right for the kind.
func stem(n api.FileName) string {
	topic := "t" + strconv.Itoa(n.Id) + "."
	switch {
	case n.Kind == api.NSegment && isTopic(n.Id) && isSeg(n.Seg):
		return topic + strconv.Itoa(n.Seg) + ".seg"
	case n.Kind == api.NHint && isTopic(n.Id) && isSeg(n.Seg):
		return topic + strconv.Itoa(n.Seg) + ".hint"
	case n.Kind == api.NManifest && isTopic(n.Id) && n.Seg == 0:
		return topic + "man"
	case n.Kind == api.NCatalogue && n.Id == 0 && n.Seg == 0:
		return catalogue
	}
	return ""
}

// Parse tells what a file's name says.
func Parse(name string) api.FileName {
	n := readName(name)
	// What was read is told anew, so that needless zeros, signs and numbers out of their range are seen.
	if Name(n) != name {
		return api.FileName{}
	}
	return n
}

// readName is what a right name says, and of any other name anything.
func readName(name string) api.FileName {
	name, tmp := strings.CutSuffix(name, behind)
	if name == catalogue {
		return api.FileName{Kind: api.NCatalogue, Tmp: tmp}
	}
	parts := strings.SplitN(strings.TrimPrefix(name, "t"), ".", 3)
	n := api.FileName{Kind: kindOf(parts[len(parts)-1]), Id: number(parts[0]), Tmp: tmp}
	if len(parts) == 3 {
		n.Seg = number(parts[1])
	}
	return n
}

// kindOf is the kind of a topic's files that end so.
func kindOf(end string) int {
	switch end {
	case "seg":
		return api.NSegment
	case "hint":
		return api.NHint
	case "man":
		return api.NManifest
	}
	return api.NOther
}

// number is the number that digits tell, and of any other text some number that is not written so.
func number(s string) int {
	n, _ := strconv.Atoi(s)
	return n
}

// Orphans tells the files of a topic that its manifest does not name.
func Orphans(names []string, m api.Manifest) []string {
	segs := map[int]struct{}{}
	last := 0 // no file's number
	for _, seg := range m.Segs {
		segs[seg] = struct{}{}
		last = seg
	}
	return those(names, func(n api.FileName) bool {
		_, named := segs[n.Seg]
		left := n.Tmp || n.Kind != api.NManifest && !named || n.Kind == api.NHint && n.Seg == last
		return isOfTopic(n) && n.Id == m.Id && left
	})
}

// Strangers tells the files of topics that the catalogue does not name.
func Strangers(names []string, c api.Catalogue) []string {
	ids := map[int]struct{}{}
	for _, t := range c.Topics {
		ids[t.Id] = struct{}{}
	}
	return those(names, func(n api.FileName) bool {
		_, named := ids[n.Id]
		return n.Id > 0 && !named || n.Kind == api.NCatalogue && n.Tmp
	})
}

// those is the names, in their order, of which what they say is asked for.
func those(names []string, asked func(api.FileName) bool) []string {
	var list []string
	for _, name := range names {
		if asked(Parse(name)) {
			list = append(list, name)
		}
	}
	return list
}

// isOfTopic tells whether a file is a topic's: others have the Id 0 as well, and are not of the topic 0.
func isOfTopic(n api.FileName) bool {
	return n.Kind == api.NSegment || n.Kind == api.NHint || n.Kind == api.NManifest
}
