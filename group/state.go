package group

import (
	"cmp"
	"maps"
	"slices"

	"chronicle/api"
)

// state is what some first part of the topic's records tells.
type state struct {
	gens      map[string]int64 // by groups
	positions map[place]int64
}

// place is what a position is of: a group, and the number of a topic that it reads.
type place struct {
	group string
	id    int
}

func emptyState() state { return state{map[string]int64{}, map[place]int64{}} }

func (s state) clone() state { return state{maps.Clone(s.gens), maps.Clone(s.positions)} }

// readersOf is the groups that have a position in a topic, rising.
func (s state) readersOf(id int) []string {
	var names []string
	for p := range s.positions {
		if p.id == id {
			names = append(names, p.group)
		}
	}
	slices.Sort(names)
	return names
}

// positionsOf is a group's positions, by rising numbers of topics.
func (s state) positionsOf(group string) []api.GroupPos {
	var list []api.GroupPos
	for p, pos := range s.positions {
		if p.group == group {
			list = append(list, api.GroupPos{Group: p.group, Topic: p.id, Pos: pos})
		}
	}
	slices.SortFunc(list, func(a, b api.GroupPos) int { return cmp.Compare(a.Topic, b.Topic) })
	return list
}
