package name_test

import (
	"arbour/api"
	"arbour/name"
	"fmt"
	"slices"
	"strings"
	"testing"
)

// apart wants that names may be, and no two are the same, small.
func apart(t *testing.T, names []string) {
	t.Helper()
	seen := make(map[string]bool)
	for _, s := range names {
		if !legalOf(s) || !name.Legal(s) {
			t.Fatalf("%q may not be", s)
		}
		if seen[smallOf(s)] {
			t.Fatalf("%q, small, is there twice", s)
		}
		seen[smallOf(s)] = true
	}
}

// assigned wants the names of texts, and of the tests' own model, twice: what was told is the caller's, and is changed by him.
func assigned(t *testing.T, texts, want []string) {
	t.Helper()
	if !slices.Equal(assignedOf(texts), want) {
		t.Fatalf("the model tells %q of %q", assignedOf(texts), texts)
	}
	l := given(texts)
	for range 2 {
		got := name.Assign(l)
		if !slices.Equal(got, want) {
			t.Fatalf("Assign(%q): %q, not %q", texts, got, want)
		}
		apart(t, got)
		for i := range got {
			got[i] = "spoilt"
		}
		if !slices.Equal(l, given(texts)) {
			t.Fatalf("Assign(%q) changed the list: %v", texts, l)
		}
	}
}

// times is a text so many times.
func times(s string, n int) []string { return slices.Repeat([]string{s}, n) }

// counted is a name, and then cuts of it with ~ and numbers, up to n names in all.
func counted(own string, n int) []string {
	l := []string{own}
	for i := 1; i < n; i++ {
		end := fmt.Sprint("~", i)
		l = append(l, own[:min(len(own), nameMost-len(end))]+end)
	}
	return l
}

// 14.1: no things, and one.
func TestAssignFew(t *testing.T) {
	if l := name.Assign(nil); len(l) != 0 {
		t.Errorf("Assign(nil): %q", l)
	}
	if l := name.Assign([]api.Given{}); len(l) != 0 {
		t.Errorf("Assign of an empty list: %q", l)
	}
	if l := name.Assign([]api.Given{{}}); !slices.Equal(l, []string{"_"}) {
		t.Errorf("Assign of a thing without a name: %q", l)
	}
	assigned(t, []string{"a"}, []string{"a"})
	assigned(t, []string{"A.txt"}, []string{"A.txt"})
	assigned(t, []string{"a~1"}, []string{"a~1"})
	assigned(t, []string{"a/b."}, []string{"a_b_"})
	assigned(t, []string{strings.Repeat("a", 40)}, []string{strings.Repeat("a", 32)})
}

// 14.1: names that are unlike stay, in the order of the list.
func TestAssignUnlike(t *testing.T) {
	l := []string{"b", "a", "c", "B~1", "aa", "ab", "0", "a.b", "~1", "a~", "~", "a~01", "a~0"}
	assigned(t, l, l)
	slices.Reverse(l)
	assigned(t, l, l)
}

// 14.1: names that are the same, and the same but for great and small letters: each keeps its own letters.
func TestAssignSame(t *testing.T) {
	assigned(t, []string{"a", "a"}, []string{"a", "a~1"})
	assigned(t, []string{"a", "A"}, []string{"a", "A~1"})
	assigned(t, []string{"A", "a"}, []string{"A", "a~1"})
	assigned(t, []string{"Ab", "aB", "AB", "ab", "Ab"}, []string{"Ab", "aB~1", "AB~2", "ab~3", "Ab~4"})
	assigned(t, []string{"a", "b", "a", "b", "c", "A", "B"}, []string{"a", "b", "a~1", "b~1", "c", "A~2", "B~2"})
	assigned(t, []string{"a.txt", "a.txt"}, []string{"a.txt", "a.txt~1"})
	for _, s := range []string{"a", "A", "~", "_", ".a", "a~1"} {
		assigned(t, times(s, 250), counted(s, 250))
	}
}

// 14.1: names that have a ~ and a number already, ahead of those that would get it, and behind them.
func TestAssignNumbered(t *testing.T) {
	assigned(t, []string{"a", "A", "a~1"}, []string{"a", "A~1", "a~1~1"})
	assigned(t, []string{"a~1", "a", "A"}, []string{"a~1", "a", "A~2"})
	assigned(t, []string{"A~1", "a", "a", "a"}, []string{"A~1", "a", "a~2", "a~3"})
	assigned(t, []string{"a", "a~1", "a"}, []string{"a", "a~1", "a~2"})
	assigned(t, []string{"a~2", "a", "a", "a", "a"}, []string{"a~2", "a", "a~1", "a~3", "a~4"})
	assigned(t, []string{"a", "a", "a~2", "a", "a~3", "a"}, []string{"a", "a~1", "a~2", "a~3", "a~3~1", "a~4"})
	assigned(t, []string{"a~1", "a~1", "a", "a", "a~1~1"}, []string{"a~1", "a~1~1", "a", "a~2", "a~1~1~1"})
	assigned(t, []string{"a~01", "a", "a"}, []string{"a~01", "a", "a~1"})
	assigned(t, []string{"a~10", "a~9", "a", "a", "a~1", "a~9"}, []string{"a~10", "a~9", "a", "a~1", "a~1~1", "a~9~1"})
}

// 14.1: numbers that are taken on both sides of one more digit are left out.
func TestAssignGaps(t *testing.T) {
	texts := []string{"a~8", "A~9", "a~10", "a~12", "a~99", "a~101"}
	want := slices.Clone(texts)
	for _, s := range counted("a", 110) {
		if !slices.Contains(texts, strings.ToLower(s)) && s != "a~9" {
			want = append(want, s)
		}
	}
	texts = append(texts, times("a", len(want)-len(texts))...)
	assigned(t, texts, want)
}

// 14.1: names that are the same once they are fixed.
func TestAssignFixed(t *testing.T) {
	assigned(t, []string{"a/b", "a:b", "a_b", "A\\B", "a b"}, []string{"a_b", "a_b~1", "a_b~2", "A_B~3", "a_b~4"})
	assigned(t, []string{"", ".", "_", "/", "\x00"}, []string{"_", "_~1", "_~2", "_~3", "_~4"})
	assigned(t, []string{"a.", "a_", "a/"}, []string{"a_", "a_~1", "a_~2"})
	assigned(t, []string{"..", "._"}, []string{"._", "._~1"})
	long := strings.Repeat("a", 32)
	assigned(t, []string{long + "b", long + "c", long}, []string{long, long[:30] + "~1", long[:30] + "~2"})
}

// 14.1: a long name is cut, so that ~1, ~9, ~10, ~99, ~100, ~999 and ~1000 fit; a short one is not.
func TestAssignCut(t *testing.T) {
	long := "abcdefghijklmnopqrstuvwxyz012345"
	for n := 24; n <= 32; n++ {
		own := long[:n]
		want := counted(own, 1002)
		for _, i := range []int{1, 9, 10, 99, 100, 999, 1000, 1001} {
			s, end := want[i], fmt.Sprint("~", i)
			if s != own[:min(n, 32-len(end))]+end || len(s) != min(32, n+len(end)) {
				t.Fatalf("the tests' own list is wrong: %q", s)
			}
		}
		assigned(t, times(own, 1002), want)
	}
	assigned(t, times(long, 11)[9:], []string{long, "abcdefghijklmnopqrstuvwxyz0123~1"})
	if l := name.Assign(given(times(long, 101))); l[9] != "abcdefghijklmnopqrstuvwxyz0123~9" || l[10] != "abcdefghijklmnopqrstuvwxyz012~10" || l[99] != "abcdefghijklmnopqrstuvwxyz012~99" || l[100] != "abcdefghijklmnopqrstuvwxyz01~100" {
		t.Errorf("%q", l)
	}
}

// 14.1: the name that is cut is the thing's own, not one that had a number already; points and ~ that come ahead of the ~ stay.
func TestAssignCutEnds(t *testing.T) {
	points := strings.Repeat("a", 28) + "...b"
	assigned(t, []string{points, points}, []string{points, strings.Repeat("a", 28) + "..~1"})
	tildes := strings.Repeat("a", 28) + "~~~~"
	assigned(t, []string{tildes, tildes}, []string{tildes, strings.Repeat("a", 28) + "~~~1"})
	numbered := strings.Repeat("a", 30) + "~1"
	assigned(t, []string{numbered, numbered}, []string{numbered, strings.Repeat("a", 30) + "~2"})
}

// 14.1: long names that are unlike at their ends alone take numbers from one another, once they are cut.
func TestAssignCutShared(t *testing.T) {
	stem := strings.Repeat("a", 31)
	b, c := stem+"b", stem+"C"
	assigned(t, []string{b, c, b, c, b}, []string{b, c, stem[:30] + "~1", stem[:30] + "~2", stem[:30] + "~3"})
	// One of 29 bytes gets ~1 to ~9 as it is, though longer ones had ~10 and ~11 behind the same bytes.
	texts := append(times(b, 12), times(strings.ToUpper(stem[:29]), 12)...)
	want := counted(b, 12)
	for _, s := range counted(stem[:29], 10) {
		want = append(want, strings.ReplaceAll(s, "a", "A"))
	}
	want = append(want, strings.ToUpper(stem[:29])+"~12", strings.ToUpper(stem[:29])+"~13")
	assigned(t, texts, want)
}

// 14.1: the order of the list decides, whatever the numbers of the things are.
func TestAssignOrder(t *testing.T) {
	for _, ids := range [][]uint64{{1, 2, 3}, {3, 2, 1}, {0, 0, 0}, {1<<64 - 1, 5, 1 << 63}} {
		l := []api.Given{{ID: ids[0], Name: "x"}, {ID: ids[1], Name: "X"}, {ID: ids[2], Name: "x"}}
		if got := name.Assign(l); !slices.Equal(got, []string{"x", "X~1", "x~2"}) {
			t.Errorf("Assign(%v): %q", l, got)
		}
	}
}

// R2: what is handed in may be changed later, and no call hangs on another one.
func TestAssignApart(t *testing.T) {
	l := given([]string{"a", "a", "b"})
	first := name.Assign(l)
	l[0].Name, l[2].Name = "c", "a"
	if !slices.Equal(first, []string{"a", "a~1", "b"}) {
		t.Errorf("told %q", first)
	}
	if second := name.Assign(l); !slices.Equal(second, []string{"c", "a", "a~1"}) {
		t.Errorf("then %q", second)
	}
}

// R1: many names that are the same, short and long, and many that are the same once they are cut.
func TestAssignMany(t *testing.T) {
	const many = 100000
	for _, s := range []string{"a", strings.Repeat("a", 32)} {
		got := name.Assign(given(times(s, many)))
		if !slices.Equal(got, counted(s, many)) {
			t.Errorf("%d times %q: other names", many, s)
		}
	}
	var texts []string
	for i := range many {
		texts = append(texts, fmt.Sprintf("%s%05d", strings.Repeat("a", 27), i%(many/2)))
	}
	got := name.Assign(given(texts))
	apart(t, got)
	if !slices.Equal(got[:many/2], texts[:many/2]) || len(got) != many {
		t.Errorf("%d names, or other ones", len(got))
	}
}

// drawnText is a name of few, some of them long, some with a number.
func drawnText(draw func(int) int) string {
	s := []string{"a", "A", "b", "a.", "a/", "", "aB", "\xff"}[draw(8)]
	if draw(2) == 0 {
		s = strings.Repeat("a", 25+draw(9)) + s
	}
	if draw(4) == 0 {
		s += fmt.Sprint("~", draw(14))
	}
	if draw(3) == 0 {
		s = strings.ToUpper(s)
	}
	return s
}

// 14.1, 14.2: drawn lists of few unlike names, against the chapter's words.
func TestAssignDrawn(t *testing.T) {
	digits := make(map[int]int)
	for seed := range 400 {
		draw := drawer(uint64(seed) + 1)
		var few, texts []string
		for range 1 + draw(20) {
			few = append(few, drawnText(draw))
		}
		for range draw(400) {
			texts = append(texts, few[draw(len(few))])
		}
		want := assignedOf(texts)
		assigned(t, texts, want)
		for i, s := range want {
			if s != fixedOf(texts[i]) {
				digits[len(s)-strings.LastIndex(s, "~")-1]++
			}
		}
	}
	if digits[1] < 1000 || digits[2] < 1000 || digits[3] < 100 {
		t.Errorf("numbers of so many digits: %v", digits)
	}
}

// R4: the same list answers the same.
func TestAssignAgain(t *testing.T) {
	draw := drawer(9)
	var texts []string
	for range 500 {
		texts = append(texts, drawnText(draw))
	}
	first := name.Assign(given(texts))
	for range 20 {
		if !slices.Equal(name.Assign(given(texts)), first) {
			t.Fatal("other names")
		}
	}
}
