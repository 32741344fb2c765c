package move

import (
	"arbour/api"
	"iter"
	"maps"
	"slices"
)

// Get is a thing.
func (t *Tree) Get(id uint64) (api.Thing, bool) {
	if t == nil {
		return api.Thing{}, false
	}
	x, ok := t.things[id]
	return x, ok
}

// Kids is the things below one, rising by their numbers.
func (t *Tree) Kids(id uint64) []uint64 {
	if t == nil {
		return nil
	}
	var l []uint64
	for kid, x := range t.things {
		if x.Parent == id {
			l = append(l, kid)
		}
	}
	slices.Sort(l)
	return l
}

// Below tells whether a thing is another one, or stands below it.
func (t *Tree) Below(id, other uint64) bool {
	if t == nil {
		return false
	}
	for at := range t.up(id) {
		if at == other {
			return true
		}
	}
	return false
}

// All is all things, rising by their numbers. It goes by those that are there when it is called: operations may come on the way.
func (t *Tree) All() iter.Seq[api.Thing] {
	var l []api.Thing
	if t != nil {
		for _, id := range slices.Sorted(maps.Keys(t.things)) {
			l = append(l, t.things[id])
		}
	}
	return slices.Values(l)
}

// Log is all operations, in their order.
func (t *Tree) Log() []api.Entry {
	if t == nil {
		return nil
	}
	var l []api.Entry
	for _, s := range t.log {
		l = append(l, s.Entry)
	}
	return l
}

// Len is how many operations there are.
func (t *Tree) Len() int {
	if t == nil {
		return 0
	}
	return len(t.log)
}

// Undone is how many operations were taken back, in all.
func (t *Tree) Undone() int {
	if t == nil {
		return 0
	}
	return t.undone
}

// Deep is how many steps there are up to the root, or the trash; -1: there is no such thing.
func (t *Tree) Deep(id uint64) int {
	if t == nil {
		return -1
	}
	steps := 0
	for at := range t.up(id) {
		if top(at) {
			return steps
		}
		steps++
	}
	return -1
}

// up is the way from a number: itself, and then, if it is that of a thing, one above the other up to the root, or the trash.
func (t *Tree) up(id uint64) iter.Seq[uint64] {
	return func(yield func(uint64) bool) {
		for at := id; yield(at); {
			x, there := t.things[at]
			if !there {
				return
			}
			at = x.Parent
		}
	}
}
