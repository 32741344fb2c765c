package op_test

import (
	"arbour/api"
	"arbour/op"
	"fmt"
	"math"
	"slices"
	"strings"
	"testing"
)

// The document's numbers, as its words and limits say them.
const (
	greatest = 1<<48 - 1
	last     = greatest*16 + 15 // the last thing that may be made
	nameMost = 32
	fileMost = 8192
	digested = 32
)

// at is the time of most operations here; its thing is 50.
func at() api.Stamp { return api.Stamp{Count: 3, Who: 2} }

// digest is bytes as long as a digest, all of them c.
func digest(c byte) string { return strings.Repeat(string([]byte{c}), digested) }

// anyBytes is a text of n bytes, each one another, from c on.
func anyBytes(c byte, n int) string {
	b := make([]byte, n)
	for i := range b {
		b[i] = c + byte(i)
	}
	return string(b)
}

// create, move, away and content are an operation of each kind that may be.
func create() api.Op {
	return api.Op{Kind: api.OpCreate, At: at(), Thing: 50, Parent: 33, Name: "a", Dir: true}
}

func move() api.Op {
	return api.Op{Kind: api.OpMove, At: at(), Thing: 20, Parent: 33, Name: "b"}
}

func away() api.Op {
	return api.Op{Kind: api.OpDelete, At: at(), Thing: 20}
}

func content() api.Op {
	return api.Op{Kind: api.OpContent, At: at(), Thing: 20, Digest: digest('d'), Size: 7}
}

// kinds is an operation of each kind.
func kinds() []api.Op { return []api.Op{create(), move(), away(), content()} }

// with is an operation in which something is another thing.
func with(o api.Op, change func(o *api.Op)) api.Op {
	change(&o)
	return o
}

// goodTimes is times at both ends of what may be, and between, with the things that are made then.
func goodTimes() map[api.Stamp]uint64 {
	return map[api.Stamp]uint64{
		{Count: 1}:                        16,
		{Count: 1, Who: 15}:               31,
		{Count: 3, Who: 2}:                50,
		{Count: 1 << 32, Who: 7}:          1<<36 + 7,
		{Count: greatest}:                 last - 15,
		{Count: greatest, Who: 15}:        last,
		{Count: 0x123456789abc, Who: 0xd}: 0x123456789abcd,
	}
}

// badTimes is times that may not be.
func badTimes() []api.Stamp {
	return []api.Stamp{
		{}, {Who: 15}, {Count: greatest + 1}, {Count: math.MaxUint64, Who: 3}, {Count: 1 << 63},
		{Count: 3, Who: -1}, {Count: 3, Who: 16}, {Count: 3, Who: 258}, {Count: 3, Who: math.MinInt}, {Count: 3, Who: math.MaxInt},
		{Count: greatest + 1, Who: 16},
	}
}

// goodThings is the numbers of things that may be.
func goodThings() []uint64 {
	return []uint64{16, 17, 31, 32, 50, 1 << 32, 1 << 51, last - 1, last}
}

// badThings is numbers of nothing, and those of the root and the trash, which nobody made.
func badThings() []uint64 {
	return []uint64{api.Root, api.Trash, 2, 14, 15, last + 1, last + 2, 1<<52 + 16, 1<<56 + 16, 1 << 63, math.MaxUint64}
}

// goodNames is names of any bytes, at both ends of their lengths.
func goodNames() []string {
	return []string{
		"a", "ab", "\x00", "\xff", "/", ".", "..", "\n", " ", "y", "n", "00000001", "\u00e9\u65e5",
		anyBytes(0, nameMost-1), anyBytes(0, nameMost), anyBytes(224, nameMost), strings.Repeat("\x00", nameMost), strings.Repeat("f", nameMost),
	}
}

// badNames is names that are too short or too long.
func badNames() []string {
	return []string{"", strings.Repeat("a", nameMost+1), anyBytes(0, nameMost+1), strings.Repeat("\x00", 256+1), strings.Repeat("b", 1<<16)}
}

// goodDigests is any bytes as long as a digest.
func goodDigests() []string {
	return []string{digest(0), digest('0'), digest('z'), digest(255), anyBytes(0, digested), anyBytes(224, digested)}
}

// badDigests is bytes that are too few or too many for one.
func badDigests() []string {
	return []string{"", "d", anyBytes(1, digested-1), anyBytes(1, digested+1), anyBytes(1, 2*digested), strings.Repeat("e", 256+digested)}
}

func goodSizes() []int { return []int{0, 1, 255, 256, fileMost - 1, fileMost} }

func badSizes() []int {
	return []int{-1, -2, math.MinInt, math.MinInt32, fileMost + 1, 2 * fileMost, 1 << 32, 1<<32 + 7, math.MaxInt32, math.MaxInt}
}

// badKinds is kinds that are none, some with the lowest byte of one.
func badKinds() []int {
	return []int{0, 5, 6, -1, -2, -255, 255, 256, 257, 258, 259, 260, 1<<32 + 1, math.MinInt, math.MinInt + 1, math.MaxInt32, math.MaxInt}
}

// goodOps is operations of each kind with all that they may have.
func goodOps() []api.Op {
	all := kinds()
	for s, thing := range goodTimes() {
		for _, parent := range append([]uint64{api.Root}, goodThings()...) {
			if parent == thing {
				continue
			}
			for _, dir := range []bool{false, true} {
				all = append(all, api.Op{Kind: api.OpCreate, At: s, Thing: thing, Parent: parent, Name: "new", Dir: dir})
			}
		}
		all = append(all, api.Op{Kind: api.OpDelete, At: s, Thing: 77}, with(move(), func(o *api.Op) { o.At = s }), with(content(), func(o *api.Op) { o.At = s }))
	}
	for _, thing := range goodThings() {
		for _, parent := range append([]uint64{api.Root}, goodThings()...) {
			if parent != thing {
				all = append(all, api.Op{Kind: api.OpMove, At: at(), Thing: thing, Parent: parent, Name: "c"})
			}
		}
		all = append(all, api.Op{Kind: api.OpDelete, At: at(), Thing: thing})
		all = append(all, with(content(), func(o *api.Op) { o.Thing = thing }))
	}
	for _, name := range goodNames() {
		all = append(all, with(create(), func(o *api.Op) { o.Name = name }), with(move(), func(o *api.Op) { o.Name = name }))
	}
	for _, d := range goodDigests() {
		for _, size := range goodSizes() {
			all = append(all, with(content(), func(o *api.Op) { o.Digest, o.Size = d, size }))
		}
	}
	// In an order of their own, however the map of times was gone over.
	slices.SortFunc(all, func(a, b api.Op) int { return strings.Compare(bytesOf(a), bytesOf(b)) })
	return all
}

// oneWrong is operations with one thing that may not be, each at a time that may be.
func oneWrong() []api.Op {
	var all []api.Op
	for _, o := range kinds() {
		for _, kind := range badKinds() {
			all = append(all, with(o, func(o *api.Op) { o.Kind = kind }))
		}
		for _, thing := range badThings() {
			all = append(all, with(o, func(o *api.Op) { o.Thing = thing }))
		}
	}
	for _, thing := range []uint64{16, 34, 49, 51, 66, 50 + 1<<32, last} {
		all = append(all, with(create(), func(o *api.Op) { o.Thing = thing }))
	}
	all = append(all, with(create(), func(o *api.Op) { o.At.Who = 3 }), with(create(), func(o *api.Op) { o.At.Count = 4 }))
	for _, o := range []api.Op{create(), move()} {
		all = append(all, with(o, func(o *api.Op) { o.Parent = o.Thing }))
		for _, parent := range badThings()[1:] {
			all = append(all, with(o, func(o *api.Op) { o.Parent = parent }))
		}
		for _, name := range badNames() {
			all = append(all, with(o, func(o *api.Op) { o.Name = name }))
		}
	}
	for _, d := range badDigests() {
		all = append(all, with(content(), func(o *api.Op) { o.Digest = d }))
	}
	for _, size := range badSizes() {
		all = append(all, with(content(), func(o *api.Op) { o.Size = size }))
	}
	return append(all, tooMuch()...)
}

// tooMuch is operations of each kind with one thing that it does not have.
func tooMuch() []api.Op {
	var all []api.Op
	for _, o := range []api.Op{away(), content()} {
		for _, parent := range []uint64{api.Trash, 16, 33, last, math.MaxUint64, o.Thing} {
			all = append(all, with(o, func(o *api.Op) { o.Parent = parent }))
		}
		for _, name := range []string{"a", "\x00", strings.Repeat("a", nameMost), strings.Repeat("a", nameMost+1)} {
			all = append(all, with(o, func(o *api.Op) { o.Name = name }))
		}
	}
	for _, o := range []api.Op{move(), away(), content()} {
		all = append(all, with(o, func(o *api.Op) { o.Dir = true }))
	}
	for _, o := range []api.Op{create(), with(create(), func(o *api.Op) { o.Dir = false }), move(), away()} {
		for _, d := range []string{"d", "\x00", digest('d'), digest(0), digest(1) + "1"} {
			all = append(all, with(o, func(o *api.Op) { o.Digest = d }))
		}
		for _, size := range []int{1, -1, fileMost, fileMost + 1, 1 << 32, math.MinInt, math.MaxInt} {
			all = append(all, with(o, func(o *api.Op) { o.Size = size }))
		}
	}
	return all
}

// checked wants what Check answers, and Encode with it.
func checked(t *testing.T, o api.Op, want api.Errno) {
	t.Helper()
	if e := op.Check(o); e != want {
		t.Errorf("Check(%.200q): %d, not %d", fmt.Sprint(o), int(e), int(want))
	}
	s, e := op.Encode(o)
	if e != want || want == api.OK && s != bytesOf(o) || want != api.OK && s != "" {
		t.Errorf("Encode(%.200q): %.200q, %d; not %d", fmt.Sprint(o), s, int(e), int(want))
	}
}

// The limits that the chapter's numbers hang on.
func TestLimits(t *testing.T) {
	if api.ErrOp != 50 || api.OpCreate != 1 || api.OpMove != 2 || api.OpDelete != 3 || api.OpContent != 4 {
		t.Error("package api has other numbers of operations")
	}
	if api.MaxName != nameMost || api.MaxFile != fileMost || api.HashBytes != digested || api.MaxCount != greatest {
		t.Error("package api has other limits")
	}
}

// 5.1: the example of the chapter.
func TestExample(t *testing.T) {
	o := api.Op{Kind: api.OpCreate, At: api.Stamp{Count: 3, Who: 2}, Thing: 50, Name: "a"}
	checked(t, o, api.OK)
	for thing := range uint64(200) {
		o.Thing = thing
		want := api.ErrOp
		if thing == 50 {
			want = api.OK
		}
		checked(t, o, want)
	}
}

// 5.1: each kind as it may be, at the edges of all that it has.
func TestCheckMayBe(t *testing.T) {
	for _, o := range goodOps() {
		checked(t, o, api.OK)
	}
}

// 5.1: each kind with one thing that may not be, or that it does not have.
func TestCheckMayNotBe(t *testing.T) {
	for _, o := range oneWrong() {
		checked(t, o, api.ErrOp)
	}
	checked(t, api.Op{At: at()}, api.ErrOp)
}

// 5.1: a time that may not be goes ahead of all else.
func TestCheckTime(t *testing.T) {
	checked(t, api.Op{}, api.ErrStamp)
	for _, s := range badTimes() {
		for _, o := range append(kinds(), oneWrong()...) {
			o.At = s
			checked(t, o, api.ErrStamp)
		}
		// No thing is that of such a time, not even the number that its formula comes to.
		o := create()
		o.At, o.Thing = s, s.Count*16+uint64(s.Who)
		checked(t, o, api.ErrStamp)
	}
}

// 5.1: a parent may be any number that may have been made, one behind the time of the operation, too.
func TestCheckParents(t *testing.T) {
	for _, parent := range []uint64{api.Root, 16, 49, 51, 66, last} {
		checked(t, with(create(), func(o *api.Op) { o.Parent = parent }), api.OK)
		checked(t, with(move(), func(o *api.Op) { o.Parent, o.Thing = parent, 1<<20 }), api.OK)
	}
}

// mayBe is whether an operation may be, kind by kind, by the words of the document alone.
func mayBe(o api.Op) bool {
	made := func(n uint64) bool { return n >= 16 && n <= last }
	placed := (o.Parent == 0 || made(o.Parent)) && o.Parent != o.Thing && o.Name != "" && len(o.Name) <= nameMost
	filled := len(o.Digest) == digested && o.Size >= 0 && o.Size <= fileMost
	unplaced, unfilled := o.Parent == 0 && o.Name == "", o.Digest == "" && o.Size == 0
	return made(o.Thing) && (o.Kind == 1 && o.Thing == o.At.Count*16+uint64(o.At.Who) && placed && unfilled ||
		o.Kind == 2 && placed && unfilled && !o.Dir ||
		o.Kind == 3 && unplaced && unfilled && !o.Dir ||
		o.Kind == 4 && unplaced && filled && !o.Dir)
}

// drawer draws numbers below others, the same ones each time.
func drawer(seed uint32) func(n int) int {
	return func(n int) int {
		seed = seed*1664525 + 1013904223
		return int(seed>>8) % n
	}
}

// pick is one of a list: mostly one of its first two, so that what is drawn may often be.
func pick[T any](draw func(int) int, l []T) T {
	if draw(4) > 0 {
		return l[draw(2)]
	}
	return l[draw(len(l))]
}

// drawn is an operation of anything.
func drawn(draw func(int) int) api.Op {
	o := api.Op{
		Kind:   pick(draw, append([]int{1 + draw(4), 1 + draw(4)}, badKinds()...)),
		At:     pick(draw, append([]api.Stamp{at(), {Count: 1}}, badTimes()...)),
		Thing:  pick(draw, slices.Concat([]uint64{50, 16}, goodThings(), badThings())),
		Parent: pick(draw, slices.Concat([]uint64{0, 0, 33, 50, 16}, goodThings(), badThings())),
		Name:   pick(draw, slices.Concat([]string{"", "a"}, goodNames(), badNames())),
		Dir:    draw(4) == 0,
		Digest: pick(draw, slices.Concat([]string{"", digest('d')}, goodDigests(), badDigests())),
		Size:   pick(draw, slices.Concat([]int{0, 0, 7}, goodSizes(), badSizes())),
	}
	return o
}

// 5.1: many operations of all that they may have, and may not.
func TestCheckModel(t *testing.T) {
	draw, many := drawer(9), map[api.Errno]int{}
	for range 60000 {
		o := drawn(draw)
		want := api.OK
		switch {
		case slices.Contains(badTimes(), o.At):
			want = api.ErrStamp
		case !mayBe(o):
			want = api.ErrOp
		}
		many[want]++
		checked(t, o, want)
	}
	for _, e := range []api.Errno{api.OK, api.ErrStamp, api.ErrOp} {
		if many[e] < 1000 {
			t.Errorf("only %d operations were drawn of error %d", many[e], int(e))
		}
	}
}
