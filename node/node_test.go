package node_test

import (
	"arbour/api"
	"arbour/node"
	"arbour/op"
	"fmt"
	"math"
	"slices"
	"strings"
	"testing"
)

// 11.1: the example of the chapter.
func TestExample(t *testing.T) {
	n := api.Node{Author: 3, Op: api.Op{Kind: api.OpDelete, At: api.Stamp{Count: 1, Who: 2}, Thing: 20}, Tag: digest('t')}
	checked(t, n, api.ErrForm)
	n.Author = 2
	checked(t, n, api.OK)
}

// 11.1: nodes that may be.
func TestCheckMayBe(t *testing.T) {
	for _, n := range goodNodes() {
		checked(t, n, api.OK)
	}
}

// 11.1: as many parents as may be, and one more.
func TestCheckManyParents(t *testing.T) {
	for n := range 40 {
		want := api.OK
		if n > parentsMost {
			want = api.ErrForm
		}
		checked(t, api.Node{Author: 1, Parents: rise(n), Op: kinds(1)[2], Tag: digest('t')}, want)
	}
}

// 11.1: parents that are the same twice, that fall, that have too few or too many bytes.
func TestCheckParents(t *testing.T) {
	for _, parents := range badParents() {
		for _, o := range kinds(7) {
			checked(t, api.Node{Author: 7, Parents: parents, Op: o, Tag: digest('t')}, api.ErrForm)
		}
	}
}

// 11.1: all orders of four parents: the one that rises may be, and no other.
func TestCheckOrders(t *testing.T) {
	all, may := rise(4), 0
	for i := range 256 {
		parents := []string{all[i&3], all[i>>2&3], all[i>>4&3], all[i>>6&3]}
		want := api.ErrForm
		if slices.Equal(parents, all) {
			want = api.OK
			may++
		}
		checked(t, with(some(), func(n *api.Node) { n.Parents = parents }), want)
	}
	if may != 1 {
		t.Errorf("%d orders may be", may)
	}
}

// 11.1: each two digests that are unlike in one byte may stand in one order only, the lesser byte ahead.
func TestCheckOrderByBytes(t *testing.T) {
	for place := range digested {
		for c := range 255 {
			low, high := []byte(digest('m')), []byte(digest('m'))
			low[place], high[place] = byte(c), byte(c+1)
			checked(t, with(some(), func(n *api.Node) { n.Parents = []string{string(low), string(high)} }), api.OK)
			checked(t, with(some(), func(n *api.Node) { n.Parents = []string{string(high), string(low)} }), api.ErrForm)
		}
	}
}

// 11.1: a tag has just 32 bytes, whatever they are.
func TestCheckTag(t *testing.T) {
	for bytes := range 100 {
		want := api.ErrForm
		if bytes == digested {
			want = api.OK
		}
		for _, c := range []string{"t", "\x00", "\xff", "0"} {
			checked(t, with(some(), func(n *api.Node) { n.Tag = strings.Repeat(c, bytes) }), want)
		}
	}
	for _, tag := range badTags() {
		checked(t, with(some(), func(n *api.Node) { n.Tag = tag }), api.ErrForm)
	}
}

// 11.1: an operation that may not be is op.Check's error.
func TestCheckOperation(t *testing.T) {
	for who := range keysMost {
		for _, c := range badOps(who) {
			if e := op.Check(c.o); e != c.e {
				t.Fatalf("op.Check(%.200q): %d, not %d", fmt.Sprint(c.o), int(e), int(c.e))
			}
			checked(t, api.Node{Author: who, Parents: rise(who % 9), Op: c.o, Tag: digest('t')}, c.e)
		}
	}
}

// 11.1: a time of another one, whoever that is.
func TestCheckAnothersTime(t *testing.T) {
	for who := range keysMost {
		for _, o := range kinds(who) {
			for _, author := range badAuthors(who) {
				checked(t, api.Node{Author: author, Op: o, Tag: digest('t')}, api.ErrForm)
			}
			checked(t, api.Node{Author: who, Op: o, Tag: digest('t')}, api.OK)
		}
	}
}

// 11.1: the author's own time that nobody may have.
func TestCheckNobodysTime(t *testing.T) {
	for _, who := range []int{-1, 16, 17, 255, 256, 258, math.MinInt, math.MaxInt} {
		for _, o := range kinds(2) {
			o.At.Who = who
			checked(t, api.Node{Author: who, Op: o, Tag: digest('t')}, api.ErrStamp)
			checked(t, api.Node{Author: 2, Op: o, Tag: digest('t')}, api.ErrStamp)
		}
	}
}

// 11.1: which error it is where several apply: that of parents and tag, op.Check's, that of another one's time.
func TestCheckFirst(t *testing.T) {
	checked(t, api.Node{}, api.ErrForm)
	for _, c := range badOps(2) {
		for _, parents := range badParents() {
			checked(t, api.Node{Author: 2, Parents: parents, Op: c.o, Tag: digest('t')}, api.ErrForm)
			checked(t, api.Node{Author: 3, Parents: parents, Op: c.o}, api.ErrForm)
		}
		for _, tag := range badTags() {
			checked(t, api.Node{Author: 2, Parents: rise(1), Op: c.o, Tag: tag}, api.ErrForm)
			checked(t, api.Node{Author: 3, Op: c.o, Tag: tag}, api.ErrForm)
		}
		for _, author := range badAuthors(2) {
			checked(t, api.Node{Author: author, Parents: rise(3), Op: c.o, Tag: digest('t')}, c.e)
		}
	}
}

// drawn is a node of anything, with the error that the chapter's words tell of it.
func drawn(draw func(int) int) (api.Node, api.Errno) {
	who := draw(keysMost)
	n, e := api.Node{Author: who, Op: moreOps(who)[draw(11)], Tag: goodTags()[draw(5)]}, api.OK
	if draw(8) == 0 {
		l := badAuthors(who)
		n.Author, e = l[draw(len(l))], api.ErrForm
	}
	if draw(4) == 0 {
		l := badOps(who)
		c := l[draw(len(l))]
		n.Op, e = c.o, c.e
	}
	if draw(8) == 0 {
		l := badTags()
		n.Tag, e = l[draw(len(l))], api.ErrForm
	}
	l := goodParents()
	if draw(8) == 0 {
		l, e = badParents(), api.ErrForm
	}
	n.Parents = l[draw(len(l))]
	return n, e
}

// 11.1: many nodes of all that they may have, and may not.
func TestCheckDrawn(t *testing.T) {
	draw, many := drawer(3), map[api.Errno]int{}
	for range 4000 {
		n, want := drawn(draw)
		many[want]++
		checked(t, n, want)
	}
	for _, e := range []api.Errno{api.OK, api.ErrForm, api.ErrOp, api.ErrStamp} {
		if many[e] < 100 {
			t.Errorf("only %d nodes were drawn of error %d", many[e], int(e))
		}
	}
}

// alike wants what Same answers, both ways round.
func alike(t *testing.T, a, b api.Node, want bool) {
	t.Helper()
	if node.Same(a, b) != want || node.Same(b, a) != want {
		t.Fatalf("Same(%s, %s) is not %t", tell(a), tell(b), want)
	}
}

// otherOps is an operation with one thing other than it was.
func otherOps(o api.Op) []api.Op {
	l := make([]api.Op, 9)
	for i := range l {
		l[i] = o
	}
	l[0].Kind++
	l[1].At.Count++
	l[2].At.Who++
	l[3].Thing++
	l[4].Parent++
	l[5].Name += "n"
	l[6].Dir = !o.Dir
	l[7].Digest += "d"
	l[8].Size++
	return l
}

// otherParents is a list with something other than it was.
func otherParents(l []string) [][]string {
	all := [][]string{append(slices.Clone(l), digest('z')), append([]string{""}, l...), append(slices.Clone(l), "")}
	for i := range l {
		all = append(all, slices.Delete(slices.Clone(l), i, i+1))
		for _, s := range []string{"", digest(1), l[i] + "\x00", l[i][:len(l[i])-1], l[i][:len(l[i])-1] + "?"} {
			one := slices.Clone(l)
			one[i] = s
			all = append(all, one)
		}
		for j := range i {
			one := slices.Clone(l)
			one[i], one[j] = one[j], one[i]
			all = append(all, one)
		}
	}
	if len(l) > 0 {
		all = append(all, nil)
	}
	return all
}

// 11.1: the same, and unlike ones in each of the four things; whether they may be or not.
func TestSame(t *testing.T) {
	all := goodNodes()
	for _, c := range badNodes() {
		all = append(all, c.n)
	}
	for _, n := range append(all, api.Node{}) {
		alike(t, n, n, true)
		alike(t, n, copyOf(n), true)
		for _, author := range []int{n.Author + 1, n.Author - 1, n.Author + 256, n.Author ^ math.MinInt} {
			alike(t, n, with(n, func(n *api.Node) { n.Author = author }), false)
		}
		for _, o := range otherOps(n.Op) {
			alike(t, n, with(n, func(n *api.Node) { n.Op = o }), false)
		}
		for _, tag := range []string{n.Tag + "t", n.Tag + "\x00", "t" + n.Tag, strings.ToUpper(n.Tag) + "T", digest('o')} {
			alike(t, n, with(n, func(n *api.Node) { n.Tag = tag }), false)
		}
	}
}

// 11.1: unlike in their parents alone.
func TestSameParents(t *testing.T) {
	for many := range parentsMost + 2 {
		n := with(some(), func(n *api.Node) { n.Parents = rise(many) })
		for _, parents := range otherParents(n.Parents) {
			alike(t, n, with(n, func(n *api.Node) { n.Parents = parents }), false)
		}
	}
}

// R3: a list of no parents and none at all are the same.
func TestSameNoParents(t *testing.T) {
	a, b := some(), some()
	a.Parents, b.Parents = nil, []string{}
	alike(t, a, b, true)
	alike(t, api.Node{}, api.Node{Parents: []string{}}, true)
	if node.Hash(a) != node.Hash(b) {
		t.Error("a list that is nil and one that is empty have unlike digests")
	}
}

// 11.1: nodes in pairs.
func TestSamePairs(t *testing.T) {
	all := goodNodes()
	for i, a := range all {
		for j, b := range all {
			if node.Same(a, b) != (i == j || equal(a, b)) {
				t.Fatalf("Same(%s, %s): %t", tell(a), tell(b), node.Same(a, b))
			}
		}
	}
}
