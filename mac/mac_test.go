package mac_test

import (
	"arbour/api"
	"arbour/mac"
	"crypto/hmac"
	"crypto/sha512"
	"encoding/binary"
	"encoding/hex"
	"hash"
	"math"
	"strings"
	"testing"
)

// text is so many bytes, of all values, that do not repeat block by block.
func text(n int) string {
	b := make([]byte, n)
	for i := range b {
		b[i] = byte(i*7 + i/128*13 + i/251)
	}
	return string(b)
}

// cut is the language's own SHA-512, of which the first 32 bytes are the digest.
type cut struct{ hash.Hash }

func (c *cut) Size() int { return api.HashBytes }

func (c *cut) Sum(b []byte) []byte {
	return append(b, c.Hash.Sum(nil)[:api.HashBytes]...)
}

// wanted is the tag as the language's own library has it.
func wanted(key, s string) string {
	h := hmac.New(func() hash.Hash { return &cut{sha512.New()} }, []byte(key))
	h.Write([]byte(s))
	return string(h.Sum(nil))
}

// wantedKey is a key of a ring, by the words of the document alone.
func wantedKey(seed string, i int) string {
	b := binary.BigEndian.AppendUint32([]byte{'R'}, 2)
	b = binary.BigEndian.AppendUint32(b, uint32(len(seed)))
	b = binary.BigEndian.AppendUint32(b, 1)
	b = append(append(b, seed...), byte(i))
	d := sha512.Sum512(b)
	return string(d[:api.HashBytes])
}

func ring(t *testing.T, seed string, n int) *mac.Ring {
	t.Helper()
	r, e := mac.NewRing(seed, n)
	if e != api.OK || r == nil {
		t.Fatalf("NewRing(%q, %d): %v, %d", seed, n, r, int(e))
	}
	return r
}

func tag(t *testing.T, r *mac.Ring, i int, s string) string {
	t.Helper()
	got, e := r.Tag(i, s)
	if e != api.OK {
		t.Fatalf("Tag(%d, %q): %d", i, s, int(e))
	}
	return got
}

// numbers is numbers of no key in a ring of so many.
func numbers(n int) []int {
	return []int{-1, -2, -256, math.MinInt, n, n + 1, n + 256, api.MaxReplicas, 256, math.MaxInt}
}

// 2.1: tags that are known.
func TestOfKnown(t *testing.T) {
	for _, c := range []struct{ key, s, want string }{
		{"", "", "47657d3ab9f0268ae67e4e73df8229da6b195cb63d7d501e9b29bd3d14bae45a"},
		{"Jefe", "what do ya want for nothing?", "f653293f5e11d1601f7f6ce66f1de170a49d11feb5e3d96a659f90e32516306e"},
		{strings.Repeat("\x0b", 20), "Hi There", "f3441d4f944ebb7e1af43ab04c85ea2faf6d30d3b653d2966ca5e856f1fb670f"},
		{strings.Repeat("\xaa", 131), "Test Using Larger Than Block-Size Key - Hash Key First", "040254301ffb22ea062d1f041b146bf441e3fa39733fe42bcb24d2f732351130"},
	} {
		if got := hex.EncodeToString([]byte(mac.Of(c.key, c.s))); got != c.want {
			t.Errorf("Of(%q, %q): %s, want %s", c.key, c.s, got, c.want)
		}
	}
}

// 2.1: keys of all lengths about a block's, and texts of all lengths about one.
func TestOfLengths(t *testing.T) {
	keys := []int{0, 1, 2, 31, 32, 33, 63, 64, 65, 126, 127, 128, 129, 130, 255, 256, 257, 1000, 8192}
	texts := []int{0, 1, 2, 31, 32, 110, 111, 112, 113, 127, 128, 129, 255, 256, 257, 8192, 70001}
	for _, k := range keys {
		for _, n := range texts {
			got := mac.Of(text(k), text(n))
			if want := wanted(text(k), text(n)); got != want {
				t.Errorf("Of(%d bytes, %d bytes): %x, want %x", k, n, got, want)
			}
			if len(got) != api.HashBytes {
				t.Errorf("Of(%d bytes, %d bytes) has %d bytes, want %d", k, n, len(got), api.HashBytes)
			}
		}
	}
}

// 2.1: bytes of all values, in a key and in a text, none of them taken for runes.
func TestOfBytes(t *testing.T) {
	for i := range 256 {
		b := string([]byte{byte(i)})
		for _, c := range [][2]string{{b, "text"}, {"key", b}, {b, b}, {strings.Repeat(b, 128), "text"}, {strings.Repeat(b, 129), "text"}} {
			if got, want := mac.Of(c[0], c[1]), wanted(c[0], c[1]); got != want {
				t.Errorf("Of(%q, %q): %x, want %x", c[0], c[1], got, want)
			}
		}
	}
}

// 2.1: a key is filled up with noughts up to a block, and a longer one is its digest.
func TestOfFilled(t *testing.T) {
	if mac.Of("key", "text") != mac.Of("key"+strings.Repeat("\x00", 125), "text") {
		t.Error("a key that is filled up by hand has another tag")
	}
	if mac.Of("key", "text") == mac.Of("key"+strings.Repeat("\x00", 126), "text") {
		t.Error("a key of more than a block has the tag of a shorter one")
	}
	for _, n := range []int{129, 130, 256, 1000} {
		d := sha512.Sum512([]byte(text(n)))
		if mac.Of(text(n), "text") != mac.Of(string(d[:api.HashBytes]), "text") {
			t.Errorf("a key of %d bytes has not the tag of its digest", n)
		}
	}
	d := sha512.Sum512([]byte(text(128)))
	if mac.Of(text(128), "text") == mac.Of(string(d[:api.HashBytes]), "text") {
		t.Error("a key of a block has the tag of its digest")
	}
}

// 2.1: unlike keys and unlike texts have unlike tags; each byte of them counts.
func TestOfUnlike(t *testing.T) {
	seen := map[string][2]string{}
	add := func(key, s string) {
		t.Helper()
		got := mac.Of(key, s)
		if c, ok := seen[got]; ok {
			t.Errorf("Of(%q, %q) is Of(%q, %q)", key, s, c[0], c[1])
		}
		seen[got] = [2]string{key, s}
	}
	for _, n := range []int{1, 127, 128, 129} {
		s := text(n)
		add("key", s)
		add(s, "text")
		for i := range n {
			b := []byte(s)
			b[i] ^= 1
			add("key", string(b))
			add(string(b), "text")
		}
	}
	add("", "")
	add("ab", "c")
	add("a", "bc")
	add("", "abc")
	add("abc", "")
	add("key", "text\x00")
}

// 2.1: the same key and text have the same tag, whatever was asked between.
func TestOfAgain(t *testing.T) {
	first := mac.Of("key", "text")
	mac.Of(text(300), text(1000))
	if mac.Of("key", "text") != first {
		t.Error("the tag is another one the second time")
	}
}

// 2.1: as many keys as are asked for, from none to MaxReplicas.
func TestNewRing(t *testing.T) {
	for n := range api.MaxReplicas + 1 {
		r := ring(t, "seed", n)
		if r.Len() != n {
			t.Errorf("Len of a ring of %d: %d", n, r.Len())
		}
		for i := range n {
			got, ok := r.Key(i)
			if want := wantedKey("seed", i); !ok || got != want {
				t.Errorf("Key(%d) of %d: %x, %t, want %x", i, n, got, ok, want)
			}
		}
	}
}

// 2.1: keys that are known.
func TestKeyKnown(t *testing.T) {
	for _, c := range []struct {
		seed string
		i    int
		want string
	}{
		{"seed", 0, "d1538be42c4db00051b67763d9eab748b1845bef0c1eb66d2f649d45224a3225"},
		{"seed", 1, "b44a8cd10c06f7dc499983ac2dc5e73a66564729f81ab6e1043ee2b65243097e"},
		{"seed", 15, "296f2c6d163c9f730a0fbd1d93157aef1a0f7520793674514e1b041789b69c18"},
		{"", 0, "b5f29cad21d930ff4f37060c128a667d908a693f7f42d35f5e68151a1b8191aa"},
	} {
		got, ok := ring(t, c.seed, api.MaxReplicas).Key(c.i)
		if !ok || hex.EncodeToString([]byte(got)) != c.want {
			t.Errorf("Key(%d) of the seed %q: %x, %t, want %s", c.i, c.seed, got, ok, c.want)
		}
	}
}

// 2.1: fewer keys than none, and more than MaxReplicas: no ring.
func TestNewRingWrong(t *testing.T) {
	for _, n := range []int{-1, -2, -16, -256, math.MinInt, api.MaxReplicas + 1, api.MaxReplicas + 2, 256, 257, math.MaxInt} {
		for _, seed := range []string{"", "seed"} {
			r, e := mac.NewRing(seed, n)
			if e != api.ErrArg || r != nil {
				t.Errorf("NewRing(%q, %d): %v, %d, want none and %d", seed, n, r, int(e), int(api.ErrArg))
			}
		}
	}
}

// 2.1: the same seed has the same keys; unlike seeds and unlike numbers have unlike ones.
func TestNewRingSeeds(t *testing.T) {
	seeds := []string{"", "\x00", "\x00\x00", "seed", "Seed", "seed\x00", "see", text(127), text(128), text(1000)}
	seen := map[string]string{}
	for _, seed := range seeds {
		one, two := ring(t, seed, api.MaxReplicas), ring(t, seed, 3)
		for i := range api.MaxReplicas {
			k, ok := one.Key(i)
			if want := wantedKey(seed, i); !ok || k != want {
				t.Errorf("Key(%d) of the seed %q: %x, %t, want %x", i, seed, k, ok, want)
			}
			if other, there := seen[k]; there {
				t.Errorf("Key(%d) of the seed %q is one of the seed %q", i, seed, other)
			}
			seen[k] = seed
		}
		for i := range 3 {
			a, _ := one.Key(i)
			if b, ok := two.Key(i); !ok || a != b {
				t.Errorf("Key(%d) of the seed %q is %x, and %x in a shorter ring", i, seed, a, b)
			}
		}
	}
}

// 2.1: a number of no key has none.
func TestKeyNone(t *testing.T) {
	for n := range api.MaxReplicas + 1 {
		r := ring(t, "seed", n)
		for _, i := range numbers(n) {
			if i >= 0 && i < n {
				continue
			}
			if k, ok := r.Key(i); k != "" || ok {
				t.Errorf("Key(%d) of %d: %x, %t, want none", i, n, k, ok)
			}
		}
	}
}

// 2.1: a tag is that under the key of its number.
func TestTag(t *testing.T) {
	r := ring(t, "seed", api.MaxReplicas)
	for i := range api.MaxReplicas {
		for _, s := range []string{"", "text", "\xff\x00\x80", text(128), text(8192)} {
			got := tag(t, r, i, s)
			if want := wanted(wantedKey("seed", i), s); got != want {
				t.Errorf("Tag(%d, %d bytes): %x, want %x", i, len(s), got, want)
			}
			if key, _ := r.Key(i); got != mac.Of(key, s) {
				t.Errorf("Tag(%d, %d bytes) is not that of the key", i, len(s))
			}
		}
	}
}

// 2.1: no tag under a key that there is not, and no check is true there.
func TestTagNone(t *testing.T) {
	for _, n := range []int{0, 1, 2, api.MaxReplicas - 1, api.MaxReplicas} {
		r := ring(t, "seed", n)
		for _, i := range numbers(n) {
			if i >= 0 && i < n {
				continue
			}
			for _, s := range []string{"", "text"} {
				if got, e := r.Tag(i, s); got != "" || e != api.ErrNone {
					t.Errorf("Tag(%d, %q) of %d: %x, %d, want none and %d", i, s, n, got, int(e), int(api.ErrNone))
				}
				for _, forged := range []string{"", mac.Of("", s), wanted(wantedKey("seed", i&255), s)} {
					if r.Check(i, s, forged) {
						t.Errorf("Check(%d, %q, %x) of %d is true", i, s, forged, n)
					}
				}
			}
		}
	}
}

// 2.1: the right tag alone is told to be it.
func TestCheck(t *testing.T) {
	r := ring(t, "seed", api.MaxReplicas)
	for i := range api.MaxReplicas {
		for _, s := range []string{"", "text", text(129)} {
			right := tag(t, r, i, s)
			if !r.Check(i, s, right) {
				t.Errorf("Check(%d, %d bytes) of the right tag is false", i, len(s))
			}
			for _, wrong := range []string{
				"", right[:1], right[:31], right[1:], right + "\x00", "\x00" + right, right + right,
				strings.Repeat("\x00", 32), strings.Repeat("\xff", 32), strings.Repeat("\x00", 33),
				tag(t, r, (i+1)%api.MaxReplicas, s), tag(t, r, i, s+"\x00"), tag(t, r, i, s+s+"x"),
				mac.Of("", s), s,
			} {
				if r.Check(i, s, wrong) {
					t.Errorf("Check(%d, %d bytes, %x) is true, the tag is %x", i, len(s), wrong, right)
				}
			}
		}
	}
}

// 2.1: a tag with any one bit turned is not the right one, nor one with two that are turned alike.
func TestCheckTurned(t *testing.T) {
	r := ring(t, "seed", 2)
	right := tag(t, r, 1, "text")
	for i := range len(right) {
		for bit := range 8 {
			b := []byte(right)
			b[i] ^= 1 << bit
			if r.Check(1, "text", string(b)) {
				t.Errorf("Check of a tag with bit %d of byte %d turned is true", bit, i)
			}
			b[(i+5)%len(b)] ^= 1 << bit
			if r.Check(1, "text", string(b)) {
				t.Errorf("Check of a tag with bit %d of bytes %d and %d turned is true", bit, i, (i+5)%len(b))
			}
		}
	}
	// The same bytes in another order.
	b := []byte(right)
	for i := range b {
		b[i] = right[len(right)-1-i]
	}
	if r.Check(1, "text", string(b)) {
		t.Error("Check of a tag turned round is true")
	}
}

// 2.1: another ring's tag is not the right one, nor another key's or another text's.
func TestCheckOthers(t *testing.T) {
	r, other := ring(t, "seed", 3), ring(t, "seeds", 3)
	texts := []string{"", "text", "test", "texts", text(1000)}
	for i := range 3 {
		for _, s := range texts {
			if r.Check(i, s, tag(t, other, i, s)) {
				t.Errorf("Check(%d, %d bytes) of another ring's tag is true", i, len(s))
			}
			for j := range 3 {
				for _, u := range texts {
					if got, want := r.Check(i, s, tag(t, r, j, u)), i == j && s == u; got != want {
						t.Errorf("Check(%d, %d bytes) of the tag of key %d and %d bytes: %t", i, len(s), j, len(u), got)
					}
				}
			}
		}
	}
}

// 2.1: a ring of another length with the same seed takes the same tags, as far as it has the keys.
func TestCheckShorter(t *testing.T) {
	long, short := ring(t, "seed", 4), ring(t, "seed", 2)
	for i := range 4 {
		if got, want := short.Check(i, "text", tag(t, long, i, "text")), i < 2; got != want {
			t.Errorf("Check(%d) of a ring of 2: %t", i, got)
		}
	}
}

// 2.1: a nil ring has no keys, as the ring of none, and one that nobody made.
func TestNoKeys(t *testing.T) {
	for name, r := range map[string]*mac.Ring{"nil": nil, "of none": ring(t, "seed", 0), "not made": {}} {
		if n := r.Len(); n != 0 {
			t.Errorf("a ring %s: Len %d", name, n)
		}
		for _, i := range []int{math.MinInt, -1, 0, 1, 15, 16, math.MaxInt} {
			if k, ok := r.Key(i); k != "" || ok {
				t.Errorf("a ring %s: Key(%d): %x, %t", name, i, k, ok)
			}
			if got, e := r.Tag(i, "text"); got != "" || e != api.ErrNone {
				t.Errorf("a ring %s: Tag(%d): %x, %d", name, i, got, int(e))
			}
			for _, forged := range []string{"", mac.Of("", "text"), wanted(wantedKey("seed", i&255), "text"), strings.Repeat("\x00", 32)} {
				if r.Check(i, "text", forged) {
					t.Errorf("a ring %s: Check(%d, %x) is true", name, i, forged)
				}
			}
		}
	}
}

// 2.1, R4: what is asked changes nothing of a ring.
func TestRingStays(t *testing.T) {
	r := ring(t, "seed", 2)
	key, _ := r.Key(0)
	first := tag(t, r, 0, "text")
	r.Check(0, "text", "")
	r.Tag(7, "text")
	r.Key(-1)
	again, ok := r.Key(0)
	if r.Len() != 2 || !ok || again != key || tag(t, r, 0, "text") != first || !r.Check(0, "text", first) {
		t.Error("the ring is another one behind some questions")
	}
}
