package chunk_test

import (
	"arbour/api"
	"arbour/chunk"
	"strings"
	"testing"
)

// cuts wants how many bytes the first chunk of a text has.
func cuts(t *testing.T, what, s string, want int) {
	t.Helper()
	if got := chunk.Cut(s); got != want {
		t.Fatalf("%s: Cut of %d bytes: %d, not %d", what, len(s), got, want)
	}
}

func TestGearKnown(t *testing.T) {
	// The numbers of a well-known row, as they are told elsewhere.
	known := []uint64{0xe220a8397b1dcdaf, 0x6e789e6aa1b965f4, 0x06c45d188009454f, 0xf88bb8a8724c81ec, 0x1b39896a51a8749b}
	for b, want := range known {
		if got := chunk.Gear(byte(b)); got != want {
			t.Errorf("Gear(%d): %x, not %x", b, got, want)
		}
	}
}

func TestGearAllBytes(t *testing.T) {
	seen := map[uint64]int{}
	for b := range 256 {
		got := chunk.Gear(byte(b))
		if want := gearOf(byte(b)); got != want {
			t.Errorf("Gear(%d): %x, not %x", b, got, want)
		}
		if other, ok := seen[got]; ok {
			t.Errorf("Gear(%d) is Gear(%d)", b, other)
		}
		seen[got] = b
		if chunk.Gear(byte(b)) != got {
			t.Errorf("Gear(%d): other than before", b)
		}
	}
}

func TestCutNothing(t *testing.T) {
	cuts(t, "nothing", "", 0)
}

// Where nothing ends a chunk, it has all bytes, or MaxChunk.
func TestCutNowhere(t *testing.T) {
	draw := drawer(1)
	for range 5 {
		s := endless(t, draw, api.MaxChunk+100)
		for n := range len(s) + 1 {
			cuts(t, "endless", s[:n], min(n, api.MaxChunk))
		}
		cuts(t, "endless, and much more", s+drawn(draw, 5000, 256), api.MaxChunk)
	}
}

// A chunk ends at the first place from MinChunk on, whatever is behind it; fewer bytes are one chunk.
func TestCutEnds(t *testing.T) {
	draw := drawer(2)
	places := []int{api.MaxChunk - 2, api.MaxChunk - 1, api.MaxChunk}
	for n := api.MinChunk; n < 120; n++ {
		places = append(places, n)
	}
	for _, n := range places {
		s := endsAt(t, draw, n)
		cuts(t, "ends", s, n)
		cuts(t, "one fewer", s[:n-1], n-1)
		for b := range 256 {
			cuts(t, "one more", s+string([]byte{byte(b)}), n)
		}
		for _, more := range likeTexts(draw, 1000) {
			cuts(t, "many more", s+more, n)
		}
		cuts(t, "twice", s+s, n)
	}
}

// Of several places the first one counts.
func TestCutFirst(t *testing.T) {
	draw := drawer(3)
	for _, first := range []int{api.MinChunk, api.MinChunk + 1, 100, api.MaxChunk - 1} {
		s := made(t, draw, first+40, func(place int, h uint64) bool {
			return nought(h) == (place == first || place == first+1 || place == first+40)
		})
		cuts(t, "several places", s, first)
	}
}

// An end behind MaxChunk bytes comes too late, and one just there tells nothing new.
func TestCutLate(t *testing.T) {
	draw := drawer(4)
	cuts(t, "just one behind", endsAt(t, draw, api.MaxChunk+1), api.MaxChunk)
	cuts(t, "two behind", endsAt(t, draw, api.MaxChunk+2), api.MaxChunk)
	cuts(t, "just there", endsAt(t, draw, api.MaxChunk)+"more", api.MaxChunk)
}

func TestCutAheadOfMin(t *testing.T) {
	draw := drawer(5)
	for early := 1; early < api.MinChunk; early++ {
		for _, n := range []int{api.MinChunk, api.MinChunk + 1, 77} {
			s := made(t, draw, n, func(place int, h uint64) bool { return nought(h) == (place == early || place == n) })
			cuts(t, "an end ahead of MinChunk", s+"more", n)
			cuts(t, "that end alone", s[:early], early)
			cuts(t, "fewer than MinChunk", s[:api.MinChunk-1], api.MinChunk-1)
		}
	}
}

// Of h the bits 32 to 38 count, each of them, and no other one.
func TestCutBits(t *testing.T) {
	draw := drawer(7)
	for bit := range 64 {
		for _, n := range []int{api.MinChunk, api.MinChunk + 1, 70, 300} {
			if bit >= 32 && bit <= 38 {
				s := made(t, draw, n, func(place int, h uint64) bool {
					return place < n && !nought(h) || place == n && h>>32&127 == 1<<(bit-32)
				})
				more := made(t, draw, 1, func(_ int, h uint64) bool { return !nought(2*sumOf(s) + h) })
				cuts(t, "one bit of them is set", s+more, n+1)
				continue
			}
			for set := range uint64(2) {
				s := made(t, draw, n, func(place int, h uint64) bool {
					return nought(h) == (place == n) && (place < n || h>>bit&1 == set)
				})
				cuts(t, "another bit is set or not", s+"more", n)
			}
		}
	}
}

// The bytes of a chunk count from its first one on, those ahead of MinChunk, too.
func TestCutFromFirstByte(t *testing.T) {
	draw := drawer(8)
	for at := range api.MinChunk {
		changed := 0
		for range 2000 {
			s := []byte(drawn(draw, api.MaxChunk, 256))
			n := chunk.Cut(string(s))
			s[at]++
			cuts(t, "an early byte", string(s), cutOf(string(s)))
			if chunk.Cut(string(s)) != n {
				changed++
			}
		}
		if changed == 0 {
			t.Errorf("byte %d never told anything", at)
		}
	}
}

// Bytes of one kind: from the 64th on h stays the same.
func TestCutOneKind(t *testing.T) {
	for b := range 256 {
		s := strings.Repeat(string([]byte{byte(b)}), 2*api.MaxChunk)
		for _, n := range []int{1, api.MinChunk - 1, api.MinChunk, api.MinChunk + 1, 64, 65, api.MaxChunk - 1, api.MaxChunk, api.MaxChunk + 1, len(s)} {
			cuts(t, "one kind", s[:n], cutOf(s[:n]))
		}
	}
}

func TestCutDrawn(t *testing.T) {
	draw := drawer(9)
	for range 400 {
		for _, s := range likeTexts(draw, draw(3*api.MaxChunk)) {
			cuts(t, "drawn", s, cutOf(s))
			cuts(t, "again", s, cutOf(s))
			cuts(t, "what is behind MaxChunk", s[:min(len(s), api.MaxChunk)], cutOf(s))
		}
	}
}

// Of texts whose last two letters may be any, one of 128 ends just at MinChunk: that is what seven bits mean.
func TestCutLastLetters(t *testing.T) {
	draw := drawer(10)
	ends := map[int]int{}
	for range 10 {
		head := drawn(draw, api.MinChunk-2, 256)
		for a := range 256 {
			for b := range 256 {
				s := head + string([]byte{byte(a), byte(b)})
				n := api.MinChunk + 1
				if nought(sumOf(s)) {
					n = api.MinChunk
				}
				cuts(t, "last letters", s+"-", n)
				ends[n]++
			}
		}
	}
	if all := 10 * 256 * 256; ends[api.MinChunk] < all/160 || ends[api.MinChunk] > all/100 {
		t.Errorf("ends: %v", ends)
	}
}
