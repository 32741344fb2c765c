package frame_test

import (
	"arbour/api"
	"arbour/frame"
	"fmt"
	"math"
	"slices"
	"strings"
	"testing"
)

// 19.1: none, a kind alone, and bytes that end too early at each place.
func TestDecodeCut(t *testing.T) {
	refused(t, "", api.ErrCut)
	for _, s := range []string{"0", "1", "5", "9", "z", "\x00"} {
		refused(t, s, api.ErrCut)
	}
	for _, x := range says(t) {
		s := bytesOf(x)
		for n := range len(s) {
			refused(t, s[:n], api.ErrCut)
		}
	}
	// A count that says more than there are.
	for there := range hashesMost {
		for _, kind := range []int{1, 3} {
			refused(t, fmt.Sprintf("%02x%08x", kind, there+1)+strings.Join(hashes(there), ""), api.ErrCut)
		}
	}
	for there := range givesMost {
		refused(t, fmt.Sprintf("02%08x", there+1)+listed(nodes(there), texted)[8:], api.ErrCut)
	}
}

// 19.1: bytes behind the end.
func TestDecodeMore(t *testing.T) {
	for _, x := range says(t) {
		for _, more := range []string{"0", "\x00", "x", "00000000", filled("h"), bytesOf(x)} {
			if s := bytesOf(x) + more; len(s) <= bytesMost {
				refused(t, s, api.ErrMore)
			}
		}
	}
}

// 19.1: counts that are too great, with all that they count, and with nothing.
func TestDecodeMany(t *testing.T) {
	for _, n := range []uint32{hashesMost + 1, 64, 255, 256, 1 << 16, math.MaxInt32, 1 << 31, math.MaxUint32} {
		for _, kind := range []int{1, 3} {
			for _, behind := range []string{"", "z", strings.Join(hashes(hashesMost+1), "")} {
				refused(t, fmt.Sprintf("%02x%08x", kind, n)+behind, api.ErrMany)
			}
		}
	}
	for _, n := range []uint32{givesMost + 1, 32, 255, 256, 1 << 16, math.MaxInt32, 1 << 31, math.MaxUint32} {
		for _, behind := range []string{"", "z", listed(nodes(givesMost+1), texted)[8:]} {
			refused(t, fmt.Sprintf("02%08x", n)+behind, api.ErrMany)
		}
	}
	for _, n := range []uint32{nodeMost + 1, 1000, 1 << 16, math.MaxInt32, 1 << 31, math.MaxUint32} {
		for _, behind := range []string{"", "z", text(nodeMost + 1)} {
			refused(t, fmt.Sprintf("0200000001%08x", n)+behind, api.ErrMany)
			refused(t, fmt.Sprintf("020000000200000001a%08x", n)+behind, api.ErrMany)
		}
	}
	for _, n := range []uint32{placeMost + 1, 1 << 17, math.MaxInt32, 1 << 31, math.MaxUint32} {
		for _, behind := range []string{"", "z", filled("")} {
			refused(t, "04"+filled("f")+fmt.Sprintf("%08x", n)+behind, api.ErrMany)
		}
	}
}

// 19.1: letters that are no digits, at each place of the kind and of the counts.
func TestDecodeLetters(t *testing.T) {
	for _, x := range []api.Say{{Kind: 1, Hashes: hashes(2)}, {Kind: 2, Nodes: []string{"abc"}}, {Kind: 3, Hashes: hashes(1)}, {Kind: 4, File: hashes(1)[0], At: 300}, {Kind: 5, Share: shares(t)[0]}} {
		s := bytesOf(x)
		counts := [][]int{1: {0, 10}, 2: {0, 18}, 3: {0, 10}, 4: {0, 2, 34, 42}, 5: {0, 2, 34, 66}}[x.Kind]
		for k := 0; k < len(counts); k += 2 {
			for i := counts[k]; i < counts[k+1]; i++ {
				for c := range 256 {
					if strings.IndexByte("0123456789abcdef", byte(c)) < 0 {
						refused(t, s[:i]+string([]byte{byte(c)})+s[i+1:], api.ErrForm)
					}
				}
			}
		}
	}
}

// long is a share of so many bytes as a whole.
func long(n int) string {
	x := api.Say{Kind: api.SayShare, Share: api.Share{Digest: filled("f")}}
	x.Share.Chunk = text(n - len(bytesOf(x)))
	return bytesOf(x)
}

// 19.1: more than MaxBytes bytes, just as many and one fewer, whatever they say.
func TestDecodeBytes(t *testing.T) {
	for _, n := range []int{bytesMost - 1, bytesMost} {
		x, e := sayOf(long(n))
		if e != api.OK || len(long(n)) != n {
			t.Fatalf("%d bytes, %d", len(long(n)), int(e))
		}
		both(t, x, long(n))
		refused(t, strings.Repeat("z", n), api.ErrForm)
		refused(t, "0100000000"+strings.Repeat("z", n-10), api.ErrMore)
		refused(t, "09"+strings.Repeat("0", n-2), api.ErrForm)
		refused(t, "0100000021"+strings.Repeat("h", n-10), api.ErrMany)
		refused(t, long(n + 1)[:n], api.ErrCut)
	}
	for _, n := range []int{bytesMost + 1, bytesMost + 2, 2 * bytesMost, 1 << 20} {
		refused(t, long(n), api.ErrMany)
		refused(t, strings.Repeat("z", n), api.ErrMany)
		refused(t, "0100000000"+strings.Repeat("z", n-10), api.ErrMany)
		refused(t, "09"+strings.Repeat("0", n-2), api.ErrMany)
		x, _ := sayOf(long(bytesMost))
		x.Share.Chunk += text(n - bytesMost)
		encoded(t, x, bytesOf(x))
	}
}

// 19.1: which error it is where several apply: too many bytes, the reader's first, no such kind, bytes behind the end.
func TestDecodeFirst(t *testing.T) {
	h := filled("h")
	for _, c := range []struct {
		s    string
		want api.Errno
	}{
		// the kind's own bytes ahead of what it is
		{"0z", api.ErrForm}, {"z", api.ErrCut}, {"0Azzzz", api.ErrForm},
		// no such kind ahead of bytes behind the end
		{"0000000000", api.ErrForm}, {"06" + h, api.ErrForm}, {"ffff", api.ErrForm},
		// among the reader's: the one that stands first
		{"01zzzzzzz", api.ErrCut}, {"01zzzzzzzz", api.ErrForm}, {"010000002", api.ErrCut}, {"0100000021", api.ErrMany}, {"0100000001" + h[1:], api.ErrCut},
		{"020000000100000201", api.ErrMany}, {"0200000011zzzzzzzz", api.ErrMany}, {"0200000001zzzzzzzz", api.ErrForm}, {"020000000100000005abcd", api.ErrCut},
		{"020000000200000201" + "zzzzzzzz", api.ErrMany}, {"0200000002" + "zzzzzzzz" + "00000201", api.ErrForm}, {"0200000002" + "00000001az", api.ErrCut},
		{"04" + h[1:], api.ErrCut}, {"04" + h + "0001000", api.ErrCut}, {"04" + h + "00010001", api.ErrMany}, {"04" + h + "zzzzzzzz" + "z", api.ErrForm},
		{"05" + h + "zzzzzzzz", api.ErrForm}, {"05" + h + "0000000", api.ErrCut}, {"05" + h + strings.Repeat("0", 32) + "01", api.ErrCut}, {"05" + h + strings.Repeat("0", 32) + "0z" + h, api.ErrForm},
		// the reader's ahead of bytes behind the end
		{"0100000021" + strings.Repeat(h, 40), api.ErrMany}, {"04" + h + "00010001" + "more", api.ErrMany}, {"04" + h + "0000000Z" + "more", api.ErrForm},
		// and these where nothing else is wrong
		{"0100000000z", api.ErrMore}, {"0300000001" + h + h, api.ErrMore}, {"020000000000000000", api.ErrMore}, {"04" + h + "000100000", api.ErrMore}, {"05" + h + strings.Repeat("0", 34) + h, api.ErrMore},
	} {
		refused(t, c.s, c.want)
	}
}

// changed is bytes with something changed, most of it where the counts are.
func changed(draw func(int) int, s string) string {
	b := []byte(s)
	for range 1 + draw(2) {
		if len(b) == 0 {
			break
		}
		i := draw(len(b))
		if draw(2) == 0 {
			i = draw(min(20, len(b)))
		}
		switch draw(8) {
		case 0:
			b = slices.Delete(b, i, i+1)
		case 1:
			b = slices.Insert(b, i, byte(draw(256)))
		case 2:
			b = b[:i]
		default:
			b[i] = "0123456789abcdef\x00z"[draw(18)]
		}
	}
	return string(b)
}

// 19.1: bytes with something changed say what the chapter's words say; what was read, told again, is the same bytes.
func TestDecodeDrawn(t *testing.T) {
	draw, all, of := drawer(19), says(t), map[api.Errno]int{}
	for range 60000 {
		s := changed(draw, bytesOf(all[draw(len(all))]))
		want, wantError := sayOf(s)
		x, e := frame.Decode(s)
		if !same(x, want) || e != wantError {
			t.Fatalf("Decode(%.90q): %s, %d; not %s, %d", s, short(x), int(e), short(want), int(wantError))
		}
		if of[e]++; e == api.OK {
			encoded(t, x, s)
		}
	}
	for _, e := range []api.Errno{api.OK, api.ErrCut, api.ErrForm, api.ErrMany, api.ErrMore} {
		if of[e] < 500 {
			t.Errorf("the answer %d only %d times", int(e), of[e])
		}
	}
}

// 19.1: what is drawn is told as the chapter's words say, and read again if there is no more than there may be.
func TestEncodeDrawn(t *testing.T) {
	draw, read := drawer(91), 0
	for range 5000 {
		x := api.Say{Kind: draw(8) - 1, Hashes: hashes(draw(40)), Nodes: nodes(draw(20)), File: text(30 + draw(4)), At: draw(3) * (draw(40000) - 500)}
		x.Share = api.Share{Digest: text(31 + draw(3)), Size: draw(9000) - 3, Many: draw(20) - 1, At: draw(20) - 1, Chunk: text(draw(600)), Path: hashes(draw(9))}
		if draw(4) == 0 && len(x.Nodes) > 0 {
			x.Nodes[draw(len(x.Nodes))] = text(510 + draw(5))
		}
		s := bytesOf(x)
		encoded(t, x, s)
		want, e := sayOf(s)
		if e != api.OK {
			refused(t, s, e)
			continue
		}
		decoded(t, s, want)
		read++
	}
	if read < 1000 || read > 4500 {
		t.Errorf("%d were read", read)
	}
}
