package dag

import (
	"arbour/api"
	"errors"
	"maps"
	"slices"
)

// Has tells whether a node is there.
func (d *Dag) Has(h string) bool {
	if d == nil {
		return false
	}
	_, ok := d.nodes[h]
	return ok
}

// Get is a node.
func (d *Dag) Get(h string) (api.Node, bool) {
	if d == nil {
		return api.Node{}, false
	}
	n, ok := d.nodes[h]
	n.Parents = slices.Clone(n.Parents)
	return n, ok
}

// Order is the digests of all nodes, in the order in which they were taken.
func (d *Dag) Order() []string {
	if d == nil {
		return nil
	}
	return slices.Clone(d.order)
}

// Len is how many nodes there are.
func (d *Dag) Len() int {
	if d == nil {
		return 0
	}
	return len(d.nodes)
}

// Heads is the digests of nodes that no other stands behind, rising.
func (d *Dag) Heads() []string {
	if d == nil {
		return nil
	}
	return slices.Sorted(maps.Keys(d.heads))
}

// Waits is how many nodes wait.
func (d *Dag) Waits() int {
	if d == nil {
		return 0
	}
	return len(d.waiting)
}

// Missing is the digests that those that wait are waiting for, and that do not wait themselves, rising.
func (d *Dag) Missing() []string {
	if d == nil {
		return nil
	}
	var l []string
	for _, n := range d.waiting {
		for _, digest := range d.lacks(n) {
			if !d.waits(digest) {
				l = append(l, digest)
			}
		}
	}
	slices.Sort(l)
	return slices.Compact(l)
}

// lacks is the digests of a node's parents that are not there.
func (d *Dag) lacks(n api.Node) []string {
	var l *lack
	if errors.As(d.unfit(n), &l) {
		return l.of
	}
	return nil
}

// Drop lets all go that wait: how many.
func (d *Dag) Drop() int {
	if d == nil {
		return 0
	}
	many := len(d.waiting)
	clear(d.waiting)
	d.came = nil
	return many
}

// Greatest is the greatest count of all nodes. It is that of a head: each other node has one behind it with a greater count.
func (d *Dag) Greatest() uint64 {
	if d == nil {
		return 0
	}
	var greatest uint64
	for _, count := range d.heads {
		greatest = max(greatest, count)
	}
	return greatest
}
