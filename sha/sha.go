// Package sha is layer 1: see shared/doc/01-sha.md.
package sha

import (
	"arbour/api"
	"math/bits"
)

const (
	blockBytes = 128
	countBytes = 16 // of the count of bits that ends the last block
)

// State is what a digest is while it is made: eight numbers of 64 bits.
type State = [8]uint64

// Start is the numbers ahead of all bytes.
func Start() State {
	return State{
		0x6a09e667f3bcc908, 0xbb67ae8584caa73b, 0x3c6ef372fe94f82b, 0xa54ff53a5f1d36f1,
		0x510e527fade682d1, 0x9b05688c2b3e6c1f, 0x1f83d9abfb41bd6b, 0x5be0cd19137e2179,
	}
}

// Mix is the numbers behind a block of 128 bytes; others change nothing.
func Mix(h State, s string) State {
	if len(s) != blockBytes {
		return h
	}
	w := spread(s)
	// Numbers of their own, not an array: these can stay in registers through all steps.
	a, b, c, d, e, f, g, last := h[0], h[1], h[2], h[3], h[4], h[5], h[6], h[7]
	for i := range steps {
		first := last + turn(e, 14, 18, 41) + (e&f ^ ^e&g) + steps[i] + w[i]
		second := turn(a, 28, 34, 39) + (a&b ^ a&c ^ b&c)
		a, b, c, d, e, f, g, last = first+second, a, b, c, d+first, e, f, g
	}
	return State{h[0] + a, h[1] + b, h[2] + c, h[3] + d, h[4] + e, h[5] + f, h[6] + g, h[7] + last}
}

// spread makes of a block's 16 words one for each step.
func spread(s string) [80]uint64 {
	var w [80]uint64
	for i := range 16 {
		w[i] = word(s[8*i : 8*i+8])
	}
	for i := 16; i < len(w); i++ {
		w[i] = w[i-16] + shift(w[i-15], 1, 8, 7) + w[i-7] + shift(w[i-2], 19, 61, 6)
	}
	return w
}

// word is the number that bytes are, the highest first.
func word(s string) uint64 {
	var n uint64
	for i := range len(s) {
		n = n<<8 | uint64(s[i])
	}
	return n
}

// turn is a number turned to the right by three counts of bits, put together.
func turn(n uint64, i, j, k int) uint64 {
	return bits.RotateLeft64(n, -i) ^ bits.RotateLeft64(n, -j) ^ bits.RotateLeft64(n, -k)
}

// shift is as turn, but by the last count the bits fall off.
func shift(n uint64, i, j, k int) uint64 {
	return bits.RotateLeft64(n, -i) ^ bits.RotateLeft64(n, -j) ^ n>>k
}

// Sum is the digest of bytes: the first 32 of SHA-512.
func Sum(s string) string {
	whole := len(s) - len(s)%blockBytes
	h := mixAll(Start(), s[:whole])
	h = mixAll(h, ending(s[whole:], len(s)))
	var b []byte
	for _, n := range h {
		b = number(b, n, 8)
	}
	return string(b[:api.HashBytes])
}

// mixAll mixes in bytes that are whole blocks.
func mixAll(h State, s string) State {
	for len(s) >= blockBytes {
		h = Mix(h, s[:blockBytes])
		s = s[blockBytes:]
	}
	return h
}

// ending fills up what is left behind the whole blocks of a text of so many bytes.
func ending(rest string, bytes int) string {
	b := append([]byte(rest), 0x80)
	for len(b)%blockBytes != blockBytes-countBytes {
		b = append(b, 0)
	}
	high, low := bits.Mul64(uint64(bytes), 8)
	return string(number(number(b, high, 8), low, 8))
}

// number puts the lowest bytes of a number behind others, the highest first.
func number(b []byte, n uint64, bytes int) []byte {
	for i := bytes - 1; i >= 0; i-- {
		b = append(b, byte(n>>(8*i)))
	}
	return b
}

// Tagged is the digest of parts for a purpose: the purpose, how many there are, their lengths, and then they.
func Tagged(purpose byte, l ...string) string {
	b := number([]byte{purpose}, uint64(len(l)), 4)
	for _, s := range l {
		b = number(b, uint64(len(s)), 4)
	}
	for _, s := range l {
		b = append(b, s...)
	}
	return Sum(string(b))
}

// Collide tells whether two texts are unlike, and have one digest.
func Collide(w api.Witness) bool {
	return w.A != w.B && Sum(w.A) == Sum(w.B)
}
