package chunk_test

import (
	"arbour/api"
	"arbour/chunk"
	"slices"
	"strings"
	"testing"
)

// lists wants a text's chunks, of List and of All, and that the second time is as the first one.
func lists(t *testing.T, s string, want ...string) {
	t.Helper()
	all := chunk.All(s)
	if all == nil {
		t.Fatal("All: nil")
	}
	for range 2 {
		if got := chunk.List(s); !slices.Equal(got, want) {
			t.Fatalf("List of %d bytes: %q, not %q", len(s), got, want)
		}
		if got := slices.Collect(all); !slices.Equal(got, want) {
			t.Fatalf("All of %d bytes: %q, not %q", len(s), got, want)
		}
	}
}

// joins wants what Join answers, twice, and that it leaves what it was given.
func joins(t *testing.T, l []string, want string, wantOK bool) {
	t.Helper()
	given := slices.Clone(l)
	for range 2 {
		if s, ok := chunk.Join(l); s != want || ok != wantOK {
			t.Fatalf("Join of %d chunks: %d bytes and %v, not %d and %v", len(l), len(s), ok, len(want), wantOK)
		}
	}
	if !slices.Equal(l, given) {
		t.Fatal("Join changed its list")
	}
}

func TestListNothing(t *testing.T) {
	lists(t, "")
	for c := range chunk.All("") {
		t.Fatalf("a chunk of nothing: %q", c)
	}
}

func TestListOneChunk(t *testing.T) {
	draw := drawer(11)
	for n := 1; n <= api.MinChunk; n++ {
		for _, s := range likeTexts(draw, n) {
			lists(t, s, s)
		}
	}
	for _, n := range []int{api.MinChunk, api.MinChunk + 1, 100, api.MaxChunk} {
		s := endsAt(t, draw, n)
		lists(t, s, s)
		s = endless(t, draw, n)
		lists(t, s, s)
	}
}

// Each chunk begins at nothing: it ends as if it stood alone, by its bits or behind MaxChunk bytes, whatever is ahead of it.
func TestListSeveral(t *testing.T) {
	draw := drawer(12)
	for range 50 {
		var want []string
		for range draw(10) {
			switch draw(3) {
			case 0:
				want = append(want, endsAt(t, draw, api.MinChunk))
			case 1:
				want = append(want, endsAt(t, draw, api.MinChunk+draw(200)))
			default:
				want = append(want, endless(t, draw, api.MaxChunk))
			}
		}
		s := strings.Join(want, "")
		lists(t, s, want...)
		for _, n := range []int{1, api.MinChunk - 1, api.MinChunk, api.MinChunk + 1, api.MaxChunk} {
			last := endless(t, draw, n)
			lists(t, s+last, slices.Concat(want, []string{last})...)
		}
	}
}

// Texts whose chunks would be others, if h went on from one chunk to the next one.
func TestListBeginsAnew(t *testing.T) {
	draw := drawer(13)
	unlike := 0
	for range 500 {
		first, second := endsAt(t, draw, api.MinChunk), endsAt(t, draw, api.MinChunk)
		more := drawn(draw, 100, 256)
		lists(t, first+second+more, append([]string{first, second}, listOf(more)...)...)
		if !nought(sumOf(first + second)) {
			unlike++
		}
	}
	if unlike < 100 {
		t.Errorf("%d texts would be others", unlike)
	}
}

// fits wants that chunks have as many bytes as they may, and are the bytes.
func fits(t *testing.T, s string, l []string) {
	t.Helper()
	for i, c := range l {
		if len(c) > api.MaxChunk || len(c) == 0 || i+1 < len(l) && len(c) < api.MinChunk {
			t.Fatalf("chunk %d of %d: %d bytes", i, len(l), len(c))
		}
	}
	if strings.Join(l, "") != s {
		t.Fatalf("the chunks of %d bytes are not these", len(s))
	}
}

func TestListDrawn(t *testing.T) {
	draw := drawer(14)
	for range 60 {
		for _, s := range likeTexts(draw, draw(api.MaxFile+1)) {
			want := listOf(s)
			lists(t, s, want...)
			fits(t, s, want)
		}
	}
}

// A text may have more bytes than a file.
func TestListLong(t *testing.T) {
	draw := drawer(15)
	for _, n := range []int{api.MaxFile - 1, api.MaxFile, api.MaxFile + 1, 200000} {
		for _, s := range likeTexts(draw, n) {
			lists(t, s, listOf(s)...)
			fits(t, s, chunk.List(s))
		}
	}
	for _, s := range likeTexts(draw, 1<<24) {
		fits(t, s, chunk.List(s))
	}
}

// Who goes over the chunks and stops has seen the first ones, and nothing comes any more.
func TestAllStops(t *testing.T) {
	draw := drawer(16)
	s := drawn(draw, 3000, 256)
	all, want := chunk.All(s), chunk.List(s)
	if len(want) < 5 {
		t.Fatalf("%d chunks", len(want))
	}
	for stop := range len(want) {
		var got []string
		for c := range all {
			got = append(got, c)
			if len(got) == stop+1 {
				break
			}
		}
		if !slices.Equal(got, want[:stop+1]) {
			t.Fatalf("stopped behind %d: %d chunks", stop+1, len(got))
		}
		calls := 0
		all(func(c string) bool {
			calls++
			return calls <= stop
		})
		if calls != stop+1 {
			t.Fatalf("refused at %d: %d calls", stop+1, calls)
		}
	}
	if got := slices.Collect(all); !slices.Equal(got, want) {
		t.Fatalf("behind all that: %d chunks", len(got))
	}
}

// One that goes over the chunks while another one does takes nothing from it.
func TestAllWithin(t *testing.T) {
	s := drawn(drawer(17), 2000, 256)
	all, want := chunk.All(s), chunk.List(s)
	var got []string
	for c := range all {
		got = append(got, c)
		if inner := slices.Collect(all); !slices.Equal(inner, want) {
			t.Fatalf("within: %d chunks, not %d", len(inner), len(want))
		}
	}
	if !slices.Equal(got, want) {
		t.Fatalf("without: %d chunks, not %d", len(got), len(want))
	}
}

// What List answers is the caller's.
func TestListIsTheCallers(t *testing.T) {
	s := drawn(drawer(18), 2000, 256)
	all, first := chunk.All(s), chunk.List(s)
	want := slices.Clone(first)
	second := chunk.List(s)
	for i := range first {
		first[i] = "other"
	}
	_ = append(first[:1], "other")
	if !slices.Equal(second, want) {
		t.Error("one list's change is seen in another one")
	}
	lists(t, s, want...)
	if got := slices.Collect(all); !slices.Equal(got, want) {
		t.Error("All: other than before")
	}
}

func TestJoinFew(t *testing.T) {
	joins(t, nil, "", true)
	joins(t, []string{}, "", true)
	joins(t, []string{""}, "", true)
	joins(t, []string{"", "", ""}, "", true)
	joins(t, []string{"a"}, "a", true)
	joins(t, []string{"b", "a"}, "ba", true)
	joins(t, []string{"", "b", "", "", "a", ""}, "ba", true)
	joins(t, []string{"\x00", "\xff\xfe", "\x00", "\xc3", "\xa9"}, "\x00\xff\xfe\x00\xc3\xa9", true)
}

// Join puts together any texts: they need not be as long as chunks are, nor end where these do.
func TestJoinAnyTexts(t *testing.T) {
	draw := drawer(19)
	for range 300 {
		var l []string
		want := ""
		for range draw(40) {
			s := drawn(draw, draw(600), 256)
			l, want = append(l, s), want+s
		}
		if len(want) > api.MaxFile {
			joins(t, l, "", false)
		} else {
			joins(t, l, want, true)
		}
	}
}

func TestJoinMost(t *testing.T) {
	s := drawn(drawer(20), api.MaxFile, 256)
	more := s + "-"
	singles := strings.Split(strings.Repeat("a", api.MaxFile), "")
	for _, l := range [][]string{
		{s}, {s, ""}, {"", s}, {"", s, "", ""},
		{s[:1], s[1:]}, {s[:api.MaxFile-1], s[api.MaxFile-1:]}, {s[:api.MaxChunk], s[api.MaxChunk:]},
		chunk.List(s), singles, append(slices.Clone(singles), "", ""),
	} {
		joins(t, l, strings.Join(l, ""), true)
		joins(t, append(slices.Clone(l), "-"), "", false)
		joins(t, append([]string{"-"}, l...), "", false)
		joins(t, append(slices.Clone(l), "-", ""), "", false)
		joins(t, append(slices.Clone(l), l...), "", false)
	}
	for _, l := range [][]string{
		{more}, {more, ""}, {"", more}, {more[:1], more[1:]}, {s, more}, {more, s}, {more, "a"}, chunk.List(more),
		{s[:5000], s[:5000]}, {s[1:], "ab"},
	} {
		joins(t, l, "", false)
	}
	joins(t, []string{s[1:], "a"}, s[1:]+"a", true)
}

// Texts that have so many bytes in all that a number of 31, 32 or 33 bits would not hold them.
func TestJoinManyBytes(t *testing.T) {
	long := strings.Repeat("a", 1<<20)
	for _, many := range []int{1, 2, 1 << 11, 1<<11 + 1, 1 << 12, 1<<12 + 1, 1 << 13} {
		l := slices.Repeat([]string{long}, many)
		joins(t, l, "", false)
		joins(t, append(l, "b"), "", false)
		joins(t, append([]string{"b"}, l...), "", false)
	}
	none := make([]string, 1<<20)
	joins(t, none, "", true)
	none[1<<19] = "a"
	joins(t, none, "a", true)
}

// What was handed in may be changed later.
func TestJoinKeepsNothing(t *testing.T) {
	l := []string{"ab", "c"}
	s, ok := chunk.Join(l)
	l[0], l[1] = "xy", "z"
	if s != "abc" || !ok {
		t.Errorf("Join: %q, %v", s, ok)
	}
}
