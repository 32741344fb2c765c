package book_test

import (
	"arbour/api"
	"arbour/merkle"
	"math"
	"slices"
	"strings"
	"testing"
)

// 18.3: a file without a digest, one of no bytes, one whose bytes are there, and one whose are not; a folder, and what is not there.
func TestRead(t *testing.T) {
	x := paths(t)
	s := text(1, 400)
	x.write(t, "d/e/f", s, api.OK)
	x.wants(t, "b", digest(text(2, 400)), 400)
	x.wants(t, "c", digest(""), 0)
	x.wants(t, "g", digest(s), 0)
	x.wants(t, "h", strings.Repeat("h", 32), 0)
	for _, y := range []struct {
		path, s string
		want    api.Errno
	}{
		{"a", "", api.OK},
		{"d/e/f", s, api.OK},
		{"b", "", api.ErrBytes},
		{"c", "", api.OK},
		{"g", s, api.OK},
		{"h", "", api.ErrBytes},
		{"d", "", api.ErrNone},
		{"d/e", "", api.ErrNone},
		{"", "", api.ErrNone},
		{"none", "", api.ErrNone},
		{"A", "", api.ErrNone},
		{"a/x", "", api.ErrNone},
		{"d/", "", api.ErrNone},
	} {
		got, e := x.b.Read(y.path)
		answer(t, "Read "+y.path, got, e, y.s, y.want)
	}
	x.same(t)
}

// 18.3: the bytes of digests, whether things have them or not.
func TestBytes(t *testing.T) {
	x := paths(t)
	x.write(t, "a", "text", api.OK)
	x.write(t, "a", "other", api.OK)
	x.wants(t, "b", digest(text(2, 400)), 400)
	for _, y := range []struct {
		digest, s string
		is        bool
	}{
		{"", "", true},
		{digest(""), "", true},
		{digest("text"), "text", true},
		{digest("other"), "other", true},
		{digest("none"), "", false},
		{digest(text(2, 400)), "", false},
		{merkle.Digest("text"), "", false},
		{"text", "", false},
		{digest("text")[:31], "", false},
		{digest("text") + "x", "", false},
	} {
		if s, is := x.b.Bytes(y.digest); s != y.s || is != y.is {
			t.Errorf("%q: %q, %v", y.digest, s, is)
		}
	}
}

// 18.3, Words: the digests of wanted files alone: of those that things have, in the trash, too, each once, rising.
func TestLacks(t *testing.T) {
	x := begun(t, keys(4), 0, quota)
	var want []string
	for i := range 6 {
		s := text(i, 300)
		x.wants(t, string(rune('a'+i)), digest(s), len(s))
		x.wants(t, string(rune('g'+i)), digest(s), len(s))
		want = append(want, digest(s))
	}
	slices.Sort(want)
	x.create(t, "x", false, api.OK)
	x.create(t, "y", true, api.OK)
	x.wants(t, "z", digest(""), 0)
	if l := x.b.Lacks(); !slices.Equal(l, want) || x.b.Status().Lacks != 6 {
		t.Errorf("%q, not %q", l, want)
	}
	x.same(t)
	// In the trash.
	x.delete(t, "a", api.OK)
	x.delete(t, "g", api.OK)
	if l := x.b.Lacks(); !slices.Equal(l, want) {
		t.Errorf("%q, not %q", l, want)
	}
	// Other bytes, of one and then of the other one that has the digest.
	x.write(t, "b", "text", api.OK)
	if l := x.b.Lacks(); !slices.Equal(l, want) {
		t.Errorf("%q, not %q", l, want)
	}
	x.write(t, "h", "", api.OK)
	gone := digest(text(1, 300))
	want = slices.DeleteFunc(want, func(f string) bool { return f == gone })
	if l := x.b.Lacks(); !slices.Equal(l, want) {
		t.Errorf("%q, not %q", l, want)
	}
	// The bytes come.
	x.write(t, "x", text(2, 300), api.OK)
	for _, y := range shares(text(0, 300)) {
		x.share(t, y, true, api.OK)
	}
	there := []string{digest(text(0, 300)), digest(text(2, 300))}
	want = slices.DeleteFunc(want, func(f string) bool { return slices.Contains(there, f) })
	if l := x.b.Lacks(); len(l) != 3 || !slices.Equal(l, want) {
		t.Errorf("%q, not %q", l, want)
	}
	x.same(t)
}

// 18.3: the errors of a share, in their order: of a file that is not wanted, of what it shows, of the quota; nothing is kept of one.
func TestShareErrors(t *testing.T) {
	s := text(1, 700)
	y := shares(s)
	x := begun(t, keys(4), 0, 600)
	forged, unfit, stump, far := y[0], y[0], y[0], y[0]
	forged.Chunk = "forged" + y[0].Chunk[6:]
	unfit.Size = 8193
	stump.Path = stump.Path[1:]
	far.At = far.Many
	for _, z := range append(y, api.Share{}, forged, unfit, stump, far) {
		x.share(t, z, false, api.ErrNone)
	}
	x.create(t, "d", true, api.OK)
	x.create(t, "a", false, api.OK)
	x.share(t, api.Share{}, false, api.ErrNone)
	x.wants(t, "b", digest(s), len(s))
	x.wants(t, "c", digest(""), 0)
	x.share(t, forged, false, api.ErrProof)
	x.share(t, stump, false, api.ErrProof)
	x.share(t, unfit, false, api.ErrArg)
	x.share(t, far, false, api.ErrArg)
	x.share(t, api.Share{Digest: digest("")}, false, api.ErrArg)
	x.share(t, api.Share{Digest: digest(s)}, false, api.ErrArg)
	for _, z := range shares(text(2, 700)) {
		x.share(t, z, false, api.ErrNone)
		z.Digest = digest(s)
		x.share(t, z, false, api.ErrProof)
	}
	x.same(t)
	x.write(t, "a", text(3, 600), api.OK)
	was := x.d.Changes()
	for _, z := range y {
		x.share(t, z, false, api.ErrQuota)
		z.Chunk += "x"
		x.share(t, z, false, api.ErrProof)
	}
	if x.d.Changes() != was {
		t.Error("something was kept")
	}
	x.same(t)
	x.write(t, "a", "", api.OK)
	x.compact(t)
	sum := 0
	for _, z := range y {
		want := api.OK
		if sum+len(z.Chunk) > 600 {
			want = api.ErrQuota
		} else {
			sum += len(z.Chunk)
		}
		x.share(t, z, want == api.OK, want)
		x.same(t)
	}
	if sum == 700 {
		t.Error("no share was beyond the quota")
	}
}

// orders goes over all orders of so many numbers.
func orders(n int, do func([]int)) {
	var next func(l, left []int)
	next = func(l, left []int) {
		if len(left) == 0 {
			do(l)
		}
		for i := range left {
			next(append(slices.Clone(l), left[i]), slices.Delete(slices.Clone(left), i, i+1))
		}
	}
	var all []int
	for i := range n {
		all = append(all, i)
	}
	next(nil, all)
}

// Words, 18.3: shares come in whatever order: with the last one the file's manifest is known, and its bytes are there; Next tells the first place that lacks on the way.
func TestShareOrders(t *testing.T) {
	seed := 1
	for len(shares(text(seed, 500))) != 4 {
		seed++
	}
	s := text(seed, 500)
	y := shares(s)
	orders(len(y), func(order []int) {
		x := begun(t, keys(4), 0, quota)
		x.wants(t, "a", digest(s), len(s))
		there := map[int]bool{}
		for i, at := range order {
			if _, is := x.b.Store().Manifest(digest(s)); is {
				t.Fatal("a manifest")
			}
			if _, e := x.b.Read("a"); e != api.ErrBytes {
				t.Fatal(int(e))
			}
			x.share(t, y[at], true, api.OK)
			x.share(t, y[at], false, api.OK)
			there[at] = true
			next := 0
			for there[next] {
				next++
			}
			if n := x.b.Next(digest(s)); n != next%len(y) {
				t.Fatalf("%v: %d, not %d", order[:i+1], n, next)
			}
			if i%2 == 0 {
				x.fall(t)
			}
			x.same(t)
		}
		got, e := x.b.Read("a")
		answer(t, "Read", got, e, s, api.OK)
		want, _ := merkle.Of(s)
		if m, is := x.b.Store().Manifest(digest(s)); !is || m.Size != len(s) || !slices.Equal(m.Chunks, want.Chunks) {
			t.Errorf("%+v, %v", m, is)
		}
		for _, z := range y {
			x.share(t, z, false, api.OK)
		}
		x.same(t)
	})
}

// Words: files whose shares come by turns, and have chunks that are the same, within one and among them: each place is news, whether its chunk is there or not.
func TestShareSameChunks(t *testing.T) {
	s := text(1, 900)
	zeros := strings.Repeat("z", 2000)
	files := []string{s, s[:600], "x" + s, zeros, zeros[:1200]}
	x := begun(t, keys(4), 0, quota)
	for i, f := range files {
		x.wants(t, string(rune('a'+i)), digest(f), len(f))
	}
	for at := 20; at >= 0; at-- {
		for _, f := range files {
			if l := shares(f); at < len(l) {
				x.share(t, l[at], true, api.OK)
				x.share(t, l[at], false, api.OK)
			}
		}
		x.same(t)
	}
	for i, f := range files {
		got, e := x.b.Read(string(rune('a' + i)))
		answer(t, "Read", got, e, f, api.OK)
	}
	if n := x.b.Store().Used(); n >= 4000 {
		t.Errorf("%d bytes", n)
	}
}

// Words: bytes that are written while shares of them were gathered are there whole, and shares that come later tell nothing.
func TestShareThenWrite(t *testing.T) {
	x := begun(t, keys(4), 0, quota)
	s := text(1, 900)
	y := shares(s)
	x.wants(t, "a", digest(s), len(s))
	x.share(t, y[1], true, api.OK)
	x.create(t, "b", false, api.OK)
	x.write(t, "b", s, api.OK)
	if x.b.Next(digest(s)) != 0 || len(x.b.Lacks()) != 0 {
		t.Errorf("%d, %q", x.b.Next(digest(s)), x.b.Lacks())
	}
	for _, z := range y {
		x.share(t, z, false, api.OK)
	}
	x.same(t)
	x.fall(t)
	x.same(t)
}

// Words: shares of a file that was wanted, and is not any more.
func TestShareNotWanted(t *testing.T) {
	x := begun(t, keys(4), 0, quota)
	s := text(1, 900)
	y := shares(s)
	x.wants(t, "a", digest(s), len(s))
	x.share(t, y[0], true, api.OK)
	x.delete(t, "a", api.OK)
	x.share(t, y[1], true, api.OK)
	x.wants(t, "b", digest(s), len(s))
	x.write(t, "b", "text", api.OK)
	x.share(t, y[2], true, api.OK)
	// The thing in the trash has other bytes now, too.
	id := x.b.Tree().Kids(api.Trash)[0]
	x.accept(t, signed(2, 99, content(id, digest("none"), 4)).s, api.OK)
	x.share(t, y[3], false, api.ErrNone)
	x.share(t, y[0], false, api.ErrNone)
	x.same(t)
	x.fall(t)
	x.same(t)
	if n := x.b.Next(digest(s)); n != 3 {
		t.Errorf("%d", n)
	}
}

// cutAs is a file that is cut as its author likes, with its size as he likes: its digest, and its shares.
func cutAs(size int, chunks ...string) (string, []api.Share) {
	var l []string
	for _, c := range chunks {
		l = append(l, merkle.Digest(c))
	}
	file := merkle.File(api.Manifest{Size: size, Chunks: l})
	var all []api.Share
	for at, c := range chunks {
		all = append(all, api.Share{Digest: file, Size: size, Many: len(l), At: at, Chunk: c, Path: wayUp(l, at)})
	}
	return file, all
}

// wayUp is the digests beside the way up from a place, the lowest first.
func wayUp(l []string, at int) []string {
	if len(l) == 1 {
		return nil
	}
	k := 1
	for k*2 < len(l) {
		k *= 2
	}
	if at < k {
		return append(wayUp(l[:k], at), merkle.Root(l[k:]))
	}
	return append(wayUp(l[k:], at-k), merkle.Root(l[:k]))
}

// T3, T5: files' bytes are those of their digests: one that somebody cut otherwise, or whose size is another one, is never there, and everything else goes on.
func TestShareLies(t *testing.T) {
	for _, y := range []struct {
		size   int
		chunks []string
	}{
		{8, []string{"text", "more"}},
		{5, []string{"text"}},
		{3, []string{"text"}},
		{9, []string{"a", "text", "text"}},
		{600, []string{text(1, 300), text(2, 300)}},
		{512 * 2, []string{text(1, 300), text(2, 300)}},
		{8192, slices.Repeat([]string{text(1, 512)}, 20)},
		{fileMost, slices.Repeat([]string{text(1, 32)}, 256)},
	} {
		x := begun(t, keys(4), 0, quota)
		x.create(t, "a", false, api.OK)
		x.write(t, "a", "text", api.OK)
		f, all := cutAs(y.size, y.chunks...)
		x.wants(t, "b", f, y.size)
		for _, z := range all {
			x.share(t, z, true, api.OK)
		}
		for range 2 {
			x.same(t)
			for _, z := range all {
				x.share(t, z, false, api.OK)
			}
			if _, is := x.b.Bytes(f); is || x.b.Next(f) != 0 || x.b.Shares(f, 0, 9) != nil || !slices.Equal(x.b.Lacks(), []string{f}) {
				t.Errorf("%v: its bytes are there", y)
			}
			if _, e := x.b.Read("b"); e != api.ErrBytes {
				t.Errorf("%v: %d", y, int(e))
			}
			if _, is := x.b.Store().Manifest(f); !is {
				t.Errorf("%v: no manifest", y)
			}
			x.fall(t)
		}
		if !x.run(t, 9) || !x.b.Status().Done {
			t.Errorf("%v: it does not stand", y)
		}
		x.compact(t)
		x.same(t)
		if _, is := x.b.Store().Manifest(f); is {
			t.Errorf("%v: a manifest", y)
		}
		x.share(t, all[0], true, api.OK)
		x.same(t)
	}
}

// 18.3: Next of files of which nothing is known, nor asked for.
func TestNext(t *testing.T) {
	x := begun(t, keys(4), 0, quota)
	s := text(1, 2000)
	y := shares(s)
	x.wants(t, "a", digest(s), len(s))
	x.create(t, "b", false, api.OK)
	x.write(t, "b", text(2, 2000), api.OK)
	for _, f := range []string{"", digest(""), digest(s), digest("none"), digest(text(2, 2000)), "none"} {
		if n := x.b.Next(f); n != 0 {
			t.Errorf("%q: %d", f, n)
		}
	}
	for at, z := range y[:len(y)-1] {
		x.share(t, z, true, api.OK)
		if n := x.b.Next(digest(s)); n != at+1 {
			t.Errorf("%d, not %d", n, at+1)
		}
	}
	x.share(t, y[len(y)-1], true, api.OK)
	if n := x.b.Next(digest(s)); n != 0 {
		t.Errorf("%d", n)
	}
}

// 18.3: Shares of files that are there whole, from each place on, so many.
func TestShares(t *testing.T) {
	x := begun(t, keys(4), 0, quota)
	s := text(1, 1500)
	y := shares(s)
	x.wants(t, "a", digest(s), len(s))
	for i, z := range y {
		if l := x.b.Shares(digest(s), 0, 99); len(l) != 0 {
			t.Fatalf("%d shares, %d of all are there", len(l), i)
		}
		x.share(t, z, true, api.OK)
	}
	n := len(y)
	for _, from := range []int{math.MinInt, -2, -1, 0, 1, 2, n - 2, n - 1, n, n + 1, math.MaxInt - 1, math.MaxInt} {
		for _, most := range []int{math.MinInt, -1, 0, 1, 2, 3, n - 1, n, n + 1, math.MaxInt} {
			first := min(max(from, 0), n)
			want := y[first:min(n, first+min(max(most, 0), n))]
			got := x.b.Shares(digest(s), from, most)
			if len(got) != len(want) {
				t.Fatalf("%d, %d: %d shares, not %d", from, most, len(got), len(want))
			}
			for i := range got {
				if put(got[i]) != put(want[i]) || merkle.Verify(got[i]) != api.OK {
					t.Errorf("%d, %d: share %d", from, most, i)
				}
			}
		}
	}
	for _, f := range []string{"", digest(""), digest("none"), "none"} {
		if l := x.b.Shares(f, 0, 9); len(l) != 0 {
			t.Errorf("%q: %d shares", f, len(l))
		}
	}
	// Bytes that were written, and that nothing wants any more.
	x.create(t, "b", false, api.OK)
	x.write(t, "b", "text", api.OK)
	x.write(t, "b", "", api.OK)
	if l := x.b.Shares(digest("text"), 0, 9); len(l) != 1 || l[0].Chunk != "text" {
		t.Errorf("%+v", l)
	}
}

// 18.3, T5: what one book shares comes to another one.
func TestSharesCome(t *testing.T) {
	a := begun(t, keys(4), 0, quota)
	b := begun(t, keys(4), 1, quota)
	for i, s := range []string{"text", text(1, 3000), "", text(2, fileMost), strings.Repeat("z", 5000)} {
		name := string(rune('a' + i))
		a.create(t, name, false, api.OK)
		a.write(t, name, s, api.OK)
	}
	for _, h := range a.b.Dag().Order() {
		n, _ := a.b.Dag().Get(h)
		b.accept(t, encoded(n), api.OK)
	}
	for rounds := 0; len(b.b.Lacks()) > 0; rounds++ {
		if rounds > 200 {
			t.Fatal("it does not end")
		}
		for _, f := range b.b.Lacks() {
			for i, z := range a.b.Shares(f, b.b.Next(f), 2) {
				is, e := b.b.Share(z)
				b.m.share(z)
				if e != api.OK || i == 0 && !is {
					t.Fatalf("%v, %d", is, int(e))
				}
			}
		}
	}
	b.same(t)
	for _, f := range a.b.Image() {
		s, _ := a.b.Read(f.Path)
		got, e := b.b.Read(f.Path)
		answer(t, "Read", got, e, s, api.OK)
	}
	a.run(t, 99)
	b.run(t, 99)
	if !a.b.Status().Done || !b.b.Status().Done {
		t.Error("they do not stand")
	}
}
