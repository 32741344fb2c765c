package chunk_test

import (
	"arbour/api"
	"math/big"
	"strings"
	"testing"
)

// drawer draws numbers below n, the same ones at each run.
func drawer(seed uint64) func(n int) int {
	return func(n int) int {
		seed = seed*6364136223846793005 + 1442695040888963407
		return int(seed >> 33 % uint64(n))
	}
}

// drawn is n bytes of so many kinds.
func drawn(draw func(int) int, n, kinds int) string {
	s := make([]byte, n)
	for i := range s {
		s[i] = byte(draw(kinds))
	}
	return string(s)
}

// gearOf is a byte's number by the chapter's words, in whole numbers of any length: what is beyond 64 bits is taken off behind each product.
func gearOf(b byte) uint64 {
	number := func(digits string) *big.Int {
		n, _ := new(big.Int).SetString(digits, 16)
		return n
	}
	times := func(x *big.Int, digits string) *big.Int {
		p := new(big.Int).Mul(x, number(digits))
		return p.Mod(p, number("10000000000000000"))
	}
	xorPart := func(x *big.Int, power int64) *big.Int {
		by := new(big.Int).Exp(big.NewInt(2), big.NewInt(power), nil)
		return new(big.Int).Xor(x, new(big.Int).Quo(x, by))
	}
	x := times(big.NewInt(int64(b)+1), "9e3779b97f4a7c15")
	x = times(xorPart(x, 30), "bf58476d1ce4e5b9")
	x = times(xorPart(x, 27), "94d049bb133111eb")
	return xorPart(x, 31).Uint64()
}

// gears is the numbers of all bytes.
var gears = func() (all [256]uint64) {
	for b := range all {
		all[b] = gearOf(byte(b))
	}
	return all
}()

// sumOf is h behind all bytes of a text, taken at once: each byte's number was doubled by each byte behind it.
func sumOf(s string) uint64 {
	var h uint64
	for i := range len(s) {
		h += gears[s[i]] << (len(s) - 1 - i)
	}
	return h
}

// nought is whether the bits of h from 32 to 38 are.
func nought(h uint64) bool { return h/4294967296%128 == 0 }

// cutOf is how many bytes the first chunk has by the chapter's words.
func cutOf(s string) int {
	for n := api.MinChunk; n <= min(len(s), api.MaxChunk); n++ {
		if nought(sumOf(s[:n])) {
			return n
		}
	}
	return min(len(s), api.MaxChunk)
}

// listOf is the chunks by the chapter's words.
func listOf(s string) []string {
	var l []string
	for at := 0; at < len(s); {
		n := cutOf(s[at:])
		l = append(l, s[at:at+n])
		at += n
	}
	return l
}

// made is n bytes at which h is, behind each of them, as it should be there.
func made(t *testing.T, draw func(int) int, n int, right func(place int, h uint64) bool) string {
	t.Helper()
	for range 10000 {
		var h uint64
		s := make([]byte, 0, n)
		for tries := 0; len(s) < n && tries < 256; tries++ {
			b := byte(draw(256))
			if next := 2*h + gears[b]; right(len(s)+1, next) {
				s, h, tries = append(s, b), next, -1
			}
		}
		if len(s) == n {
			return string(s)
		}
	}
	t.Fatal("no such bytes were found")
	return ""
}

// endless is n bytes at which the bits are nought nowhere.
func endless(t *testing.T, draw func(int) int, n int) string {
	t.Helper()
	return made(t, draw, n, func(_ int, h uint64) bool { return !nought(h) })
}

// endsAt is n bytes at which the bits are nought behind the last one alone.
func endsAt(t *testing.T, draw func(int) int, n int) string {
	t.Helper()
	return made(t, draw, n, func(place int, h uint64) bool { return nought(h) == (place == n) })
}

// likeTexts is texts of n bytes, of many kinds and of few.
func likeTexts(draw func(int) int, n int) []string {
	line := "the file " + string(rune('a'+draw(26))) + " is below the root\n"
	return []string{
		drawn(draw, n, 256),
		drawn(draw, n, 2),
		drawn(draw, n, 10),
		strings.Repeat(line, n/len(line)+1)[:n],
		strings.Repeat(string([]byte{byte(draw(256))}), n),
	}
}
