package chunk_test

import (
	"arbour/api"
	"arbour/chunk"
	"slices"
	"strings"
	"testing"
)

// Chunks put together are the bytes.
func TestJoinOfList(t *testing.T) {
	draw := drawer(21)
	sizes := []int{0, 1, api.MinChunk - 1, api.MinChunk, api.MinChunk + 1, 40, api.MaxChunk - 1, api.MaxChunk, api.MaxChunk + 1, api.MaxFile - 1, api.MaxFile}
	for range 200 {
		sizes = append(sizes, draw(api.MaxFile+1))
	}
	for _, n := range sizes {
		for _, s := range likeTexts(draw, n) {
			joins(t, chunk.List(s), s, true)
		}
	}
	for _, s := range likeTexts(draw, api.MaxFile+1) {
		joins(t, chunk.List(s), "", false)
		if strings.Join(chunk.List(s), "") != s {
			t.Error("the chunks are not the bytes")
		}
	}
}

// Example 1 of the chapter.
func TestForty(t *testing.T) {
	draw := drawer(22)
	seen := map[int]int{}
	for range 2000 {
		l := chunk.List(drawn(draw, 40, 256))
		seen[len(l)]++
	}
	if seen[1] == 0 || seen[2] == 0 || seen[1]+seen[2] != 2000 {
		t.Errorf("chunks of 40 bytes: %v", seen)
	}
	one, two := endless(t, draw, 40), endsAt(t, draw, 35)+"01234"
	lists(t, one, one)
	lists(t, two, two[:35], two[35:])
}

// What is left behind a chunk has the chunks that stood there.
func TestListOfRest(t *testing.T) {
	draw := drawer(23)
	for range 40 {
		for _, s := range likeTexts(draw, draw(api.MaxFile)) {
			l := chunk.List(s)
			for i := range l {
				if got := chunk.List(strings.Join(l[i:], "")); !slices.Equal(got, l[i:]) {
					t.Fatalf("from chunk %d on: %d chunks, not %d", i, len(got), len(l)-i)
				}
			}
		}
	}
}

// Whatever else comes ahead of a chunk that begins there: it has the chunks that it has alone.
func TestListBehindOthers(t *testing.T) {
	draw := drawer(24)
	for range 200 {
		s := drawn(draw, draw(2000), 256)
		head := endsAt(t, draw, api.MinChunk+draw(100))
		other := endless(t, draw, api.MaxChunk)
		for _, ahead := range [][]string{{head}, {other}, {head, other}, {other, head}, {head, head}} {
			lists(t, strings.Join(ahead, "")+s, slices.Concat(ahead, chunk.List(s))...)
		}
	}
}

// sameEnd is how many bytes two texts have in common at their ends.
func sameEnd(a, b string) int {
	n := 0
	for n < len(a) && n < len(b) && a[len(a)-1-n] == b[len(b)-1-n] {
		n++
	}
	return n
}

// sameHead is how many bytes two texts have in common at their beginnings.
func sameHead(a, b string) int {
	n := 0
	for n < len(a) && n < len(b) && a[n] == b[n] {
		n++
	}
	return n
}

// lefts is how many bytes are left where each chunk begins.
func lefts(l []string) []int {
	left, all := 0, make([]int, len(l))
	for i := len(l) - 1; i >= 0; i-- {
		left += len(l[i])
		all[i] = left
	}
	return all
}

// meet wants that two texts have the same chunks from the first place on at which one begins in both, within what is the same at their ends: how many bytes these are.
func meet(t *testing.T, a, b string) int {
	t.Helper()
	same := sameEnd(a, b)
	la, lb := chunk.List(a), chunk.List(b)
	starts := lefts(lb)
	for i, left := range lefts(la) {
		j := slices.Index(starts, left)
		if left > same || j < 0 {
			continue
		}
		if !slices.Equal(la[i:], lb[j:]) {
			t.Fatalf("where %d bytes are left: %d chunks and %d, not the same", left, len(la)-i, len(lb)-j)
		}
		return left
	}
	return 0
}

// stay wants that the chunks that end ahead of what is unlike in two texts are the same.
func stay(t *testing.T, a, b string) {
	t.Helper()
	same, at := sameHead(a, b), 0
	la, lb := chunk.List(a), chunk.List(b)
	for i := range min(len(la), len(lb)) {
		at += len(la[i])
		// The last chunk ends because the bytes do, and may go on in the other text.
		if at > same || i+1 == len(la) || i+1 == len(lb) {
			return
		}
		if la[i] != lb[i] {
			t.Fatalf("chunk %d ends at %d, ahead of %d, and is not the same", i, at, same)
		}
	}
}

// changes is a text with bytes put in, taken out and changed at a place.
func changes(draw func(int) int, s string, at int) []string {
	head, tail := s[:at], s[at:]
	few := min(len(tail), 1+draw(50))
	return []string{
		head + "-" + tail,
		head + drawn(draw, 1+draw(100), 256) + tail,
		head + drawn(draw, 1000, 256) + tail,
		head + tail[min(1, len(tail)):],
		head + tail[few:],
		head + drawn(draw, min(1, len(tail)), 256) + tail[min(1, len(tail)):],
		head + drawn(draw, few, 256) + tail[few:],
		head + tail[few:] + tail[:few],
	}
}

func TestChanges(t *testing.T) {
	draw := drawer(25)
	texts, met := 0, 0
	for range 20 {
		for _, s := range likeTexts(draw, 1+draw(api.MaxFile)) {
			for _, at := range []int{0, 1, api.MinChunk, len(s) / 3, len(s) / 2, draw(len(s)), len(s) - 1, len(s)} {
				at = min(at, len(s))
				for _, other := range changes(draw, s, at) {
					texts++
					if meet(t, s, other) > 0 {
						met++
					}
					if meet(t, other, s) != meet(t, s, other) {
						t.Fatal("they meet at one place, and at another one")
					}
					stay(t, s, other)
					stay(t, other, s)
				}
			}
		}
	}
	if met < texts/10 {
		t.Errorf("of %d changes %d had chunks behind them that are the same", texts, met)
	}
}

// Behind a change at the beginning of bytes of many kinds nearly all chunks are the same.
func TestChangesAtBeginning(t *testing.T) {
	draw := drawer(26)
	bytes, met := 0, 0
	for range 100 {
		s := drawn(draw, api.MaxFile, 256)
		for _, other := range changes(draw, s, 0)[:7] {
			bytes += len(s)
			met += meet(t, s, other)
		}
	}
	if met < bytes*3/4 {
		t.Errorf("of %d bytes %d are in chunks that are the same", bytes, met)
	}
}

// A change at the end leaves all chunks but the last ones.
func TestChangesAtEnd(t *testing.T) {
	draw := drawer(27)
	for range 100 {
		s := drawn(draw, 1+draw(api.MaxFile), 256)
		l := chunk.List(s)
		for _, other := range []string{s + "-", s[:len(s)-1], s[:len(s)-1] + string([]byte{s[len(s)-1] + 1}), s + drawn(draw, 700, 256)} {
			o := chunk.List(other)
			if n := len(l) - 1; len(o) < n || !slices.Equal(o[:n], l[:n]) {
				t.Fatalf("%d chunks, then %d: not the same ahead of the last one", len(l), len(o))
			}
		}
	}
}
