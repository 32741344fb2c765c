package mater_test

import (
	"arbour/api"
	"arbour/disk"
	"arbour/mater"
	"errors"
	"fmt"
	"math"
	"slices"
	"strings"
	"testing"
)

// refused wants an error of Run, with nothing else, and that all does not stand as it should.
func refused(t *testing.T, d *disk.Disk, g goal, most int, want api.Errno) {
	t.Helper()
	n, none, e := mater.Run(d, g.want, g.get, most)
	if n != 0 || none || e != want {
		t.Fatalf("Run: %d, %t, %d; not 0, false, %d", n, none, int(e), int(want))
	}
}

// 17.1, Run: no disk, nobody to ask, no power; what is named first goes ahead.
func TestRunWrong(t *testing.T) {
	g := to("a=text")
	for _, most := range []int{-1, 0, 1, 9} {
		refused(t, nil, g, most, api.ErrArg)
		refused(t, nil, goal{}, most, api.ErrArg)
		refused(t, disk.New(), goal{want: g.want}, most, api.ErrArg)
		refused(t, disk.New(), goal{}, most, api.ErrArg)
		refused(t, dead(t), goal{want: g.want}, most, api.ErrArg)
		refused(t, dead(t), g, most, api.ErrDead)
		refused(t, dead(t, "f/a", "text"), g, most, api.ErrDead)
		refused(t, dead(t), goal{get: nobody}, most, api.ErrDead)
	}
}

// 17.1, Stands: false without power, without a disk, with nobody to ask.
func TestStandsWrong(t *testing.T) {
	g := to("a=text")
	d := with(t, "f/a", "text")
	standing(t, d, g, true)
	d.Crash(0, 0)
	for _, x := range []*disk.Disk{d, dead(t), nil} {
		if mater.Stands(x, g.want, g.get) || mater.Stands(x, nil, nobody) || mater.Stands(x, nil, nil) {
			t.Error("it stands as it should")
		}
	}
	d.Up()
	standing(t, d, g, true)
	if mater.Stands(d, g.want, nil) {
		t.Error("nobody tells the bytes, and it stands as it should")
	}
}

// 17.1, Run: nothing is there, and nothing is wanted.
func TestRunNothing(t *testing.T) {
	for _, want := range [][]api.File{nil, {}} {
		d := disk.New()
		arrives(t, d, goal{want, nobody}, 0)
		has(t, d)
	}
}

// 17.1, Run: steps of each kind, alone.
func TestRunKinds(t *testing.T) {
	for _, x := range []struct {
		there []string
		want  []string
		has   []string
	}{
		{nil, []string{"a=text"}, []string{"f/a", "text"}},
		{nil, []string{"a"}, []string{"f/a", ""}},
		{nil, []string{"a/"}, []string{"d/a", ""}},
		{[]string{"f/a", "text"}, nil, nil},
		{[]string{"f/a", ""}, nil, nil},
		{[]string{"d/a", ""}, nil, nil},
		{[]string{"f/a", "text"}, []string{"a=other"}, []string{"f/a", "other"}},
		{[]string{"f/a", "text"}, []string{"a"}, []string{"f/a", ""}},
		{[]string{"f/a", ""}, []string{"a=text"}, []string{"f/a", "text"}},
		{[]string{"d/a", ""}, []string{"a/", "a/b=text"}, []string{"d/a", "", "f/a/b", "text"}},
		{[]string{"d/a", ""}, []string{"a/", "a/b/"}, []string{"d/a", "", "d/a/b", ""}},
		{[]string{"d/a", "", "d/a/b", ""}, []string{"a/"}, []string{"d/a", ""}},
		{[]string{"d/a", "", "f/a/b", ""}, []string{"a/"}, []string{"d/a", ""}},
	} {
		d := with(t, x.there...)
		arrives(t, d, to(x.want...), 1)
		kept(t, d, x.has...)
	}
}

// 17, Words: behind a step of any kind all files are sure, others, too.
func TestRunSettles(t *testing.T) {
	for _, x := range []struct{ there, want string }{{"", "a=text"}, {"", "a/"}, {"f/a", ""}, {"d/a", ""}} {
		d, g := disk.New(), to()
		if x.there != "" {
			told(t, "Write", d.Write(x.there, ""), api.OK)
		}
		if x.want != "" {
			g = to(x.want)
		}
		told(t, "Write", d.Write("log.1", "records"), api.OK)
		arrives(t, d, g, 1)
		if s, _ := d.Read("log.1"); d.Loose() != 0 || s != "records" {
			t.Errorf("from %q to %q: %d changes are loose", x.there, x.want, d.Loose())
		}
		d.Crash(0, 0)
		d.Up()
		if s, e := d.Read("log.1"); s != "records" || e != api.OK {
			t.Errorf("from %q to %q: %q, %d", x.there, x.want, s, int(e))
		}
	}
}

// 17.1, Run: what stands there as it is wanted stays, whatever numbers and sizes it has; what is beside the folder stays, too.
func TestRunStays(t *testing.T) {
	files := []string{"f/a", "text", "f/b", "", "d/c", "", "f/c/d", "other", "t/1", "x", "log.1", "records"}
	d := with(t, files...)
	g := to("a=text", "b", "c/", "c/d=other")
	for i := range g.want {
		g.want[i].ID, g.want[i].Size = 7, 9
	}
	before := d.Changes()
	arrives(t, d, g, 0)
	has(t, d, files...)
	if d.Changes() != before {
		t.Error("a change")
	}
	arrives(t, d, to(), 4)
	has(t, d, "t/1", "x", "log.1", "records")
}

// 17.1, Run: the digest of no bytes counts as none, so that nobody is asked for it.
func TestRunNoBytes(t *testing.T) {
	g := goal{[]api.File{{Path: "a", Digest: digest("")}, {Path: "b"}}, func(string) (string, bool) { return "something", true }}
	d := disk.New()
	arrives(t, d, g, 2)
	has(t, d, "f/a", "", "f/b", "")
	g.get = nobody
	arrives(t, d, g, 0)
	d = with(t, "f/a", "x", "f/b", "y")
	arrives(t, d, g, 2)
	has(t, d, "f/a", "", "f/b", "")
}

// 17.1, Run: files become folders, folders become files.
func TestRunOtherKinds(t *testing.T) {
	a, b := to("a/", "a/b=1", "a/c/", "a/c/d=2", "e=3"), to("a=4", "e/", "e/f=5")
	d := disk.New()
	arrives(t, d, a, 5)
	arrives(t, d, b, 4+1+1+2)
	has(t, d, "f/a", "4", "d/e", "", "f/e/f", "5")
	arrives(t, d, a, 3+2+3)
	has(t, d, "d/a", "", "f/a/b", "1", "d/a/c", "", "f/a/c/d", "2", "f/e", "3")
}

// 17.1, Run: most is 0, below 0, less than the steps, just as many, more.
func TestRunMost(t *testing.T) {
	g := to("a=1", "b/", "b/c=2", "d/", "d/e/", "d/e/f=3", "g")
	const steps = 2 + 7
	for _, most := range []int{math.MinInt, -9, -1, 0, 1, 2, 3, 4, 5, 6, 7, 8, 9, 10, 100, math.MaxInt} {
		d := with(t, "d/a", "", "f/a/x", "4")
		n, none := run(t, d, g, most)
		if n != min(max(most, 0), steps) || none != (most >= steps) {
			t.Errorf("most %d: %d, %t", most, n, none)
		}
		arrives(t, d, g, steps-n)
	}
}

// 17.1, Run: a few steps again and again come to what is wanted.
func TestRunAgain(t *testing.T) {
	for most := 1; most <= 10; most++ {
		d, g := with(t, "d/a", "", "f/a/x", "4"), to("a=1", "b/", "b/c=2", "d/", "d/e/", "d/e/f=3", "g")
		for left := 9; left > 0; left -= most {
			n, none := run(t, d, g, most)
			if n != min(most, left) || none != (left <= most) {
				t.Fatalf("most %d, %d are left: %d, %t", most, left, n, none)
			}
		}
		has(t, d, "f/a", "1", "d/b", "", "f/b/c", "2", "d/d", "", "d/d/e", "", "f/d/e/f", "3", "f/g", "")
	}
}

// 17.1, Run: files whose bytes are not there are passed over, and others behind them are not; most counts those alone that are done.
func TestRunLacks(t *testing.T) {
	whole := to("a=1", "b=2", "c/", "c/d=3", "e=4", "f")
	for _, x := range []struct {
		lacks []string
		most  int
		n     int
		none  bool
		has   []string
	}{
		{[]string{"1"}, 9, 5, true, []string{"f/b", "2", "d/c", "", "f/c/d", "3", "f/e", "4", "f/f", ""}},
		{[]string{"1"}, 5, 5, true, []string{"f/b", "2", "d/c", "", "f/c/d", "3", "f/e", "4", "f/f", ""}},
		{[]string{"1"}, 4, 4, false, []string{"f/b", "2", "d/c", "", "f/c/d", "3", "f/e", "4"}},
		{[]string{"1", "2", "3"}, 2, 2, false, []string{"d/c", "", "f/e", "4"}},
		{[]string{"2", "4"}, 9, 4, true, []string{"f/a", "1", "d/c", "", "f/c/d", "3", "f/f", ""}},
		{[]string{"4"}, 1, 1, false, []string{"d/c", ""}},
		{[]string{"1", "2", "3", "4"}, 9, 2, true, []string{"d/c", "", "f/f", ""}},
		{[]string{"1", "2", "3", "4"}, 1, 1, false, []string{"d/c", ""}},
	} {
		d, g := disk.New(), whole.lacking(x.lacks...)
		if n, none := run(t, d, g, x.most); n != x.n || none != x.none {
			t.Errorf("without %q: %d, %t", x.lacks, n, none)
		}
		has(t, d, x.has...)
		// The bytes come later.
		arrives(t, d, whole, 6-x.n)
	}
}

// 17.1, Run: bytes that are not there, of a file that stands there with others, or as a folder.
func TestRunLacksWhereOthersStand(t *testing.T) {
	d := with(t, "f/a", "old", "d/b", "", "f/b/c", "old")
	g := to("a=new", "b=new")
	arrives(t, d, g.lacking("new"), 2)
	has(t, d, "f/a", "old")
	arrives(t, d, g, 2)
	has(t, d, "f/a", "new", "f/b", "new")
}

// 17.1, Stands: where only steps are left whose bytes are not there, it stands as it should.
func TestStandsLacks(t *testing.T) {
	d, g := disk.New(), to("a=1", "b=2", "c=3")
	standing(t, d, g.lacking("1", "2", "3"), true)
	standing(t, d, g.lacking("1", "3"), false)
	standing(t, d, g, false)
	told(t, "Edit", mater.Edit(d, "b", "2"), api.OK)
	standing(t, d, g.lacking("1", "3"), true)
	standing(t, d, goal{g.want, nobody}, true)
	told(t, "Edit", mater.Edit(d, "x", ""), api.OK)
	standing(t, d, goal{g.want, nobody}, false)
}

// 17.1, Run: who has bytes is asked for digests that are wanted alone.
func TestRunAsks(t *testing.T) {
	g := to("a=1", "b/", "b/c=2", "d", "e=3")
	asked := make(map[string]int)
	get := func(digest string) (string, bool) {
		asked[digest]++
		return g.get(digest)
	}
	d := with(t, "f/a", "1", "f/x", "4")
	run(t, d, goal{g.want, get}, 9)
	if len(asked) != 2 || asked[digest("2")] == 0 || asked[digest("3")] == 0 {
		t.Errorf("%d digests were asked for", len(asked))
	}
}

// 17.1, Run: a step that may not be done on what stands there is passed over, and others behind it are not.
func TestRunUnfit(t *testing.T) {
	// A path that may not be stays, and the folder above it, which may only go behind it.
	d := with(t, "d/a", "", "f/a/x.", "1", "f/b", "2")
	arrives(t, d, to("c=3"), 2)
	has(t, d, "d/a", "", "f/a/x.", "1", "f/c", "3")
	// What is wanted with such a path, or in no folder, does not come.
	d = disk.New()
	arrives(t, d, to("a b", "b.=1", "c/d=2", "e/f/", "g=3", strings.Repeat("n", 33), strings.Repeat("n/", 119)+"n"), 1)
	has(t, d, "f/g", "3")
	// A folder that is wanted where a file is wanted, too.
	d = disk.New()
	arrives(t, d, goal{wanted("a", "a/", "a/b"), nobody}, 2)
	has(t, d, "d/a", "", "f/a/b", "")
}

// 17.1, Run: a step that was passed over, and may be done behind another one, is done then.
func TestRunPassedOverFirst(t *testing.T) {
	d := with(t, "f/a/b", "1", "f/a/c", "2")
	g := to("a/", "a/c=2", "d=3")
	for i, want := range []string{"d/a", "f/a/b", "f/d"} {
		if n, none := run(t, d, g, 1); n != 1 || none != (i == 2) {
			t.Fatal(n, none)
		}
		if _, is := contents(t, d)[want]; is != (i != 1) {
			t.Fatalf("step %d: %q is there: %t", i, want, is)
		}
	}
	d = with(t, "f/a/b", "1", "f/a/c", "2")
	arrives(t, d, g, 3)
	has(t, d, "d/a", "", "f/a/c", "2", "f/d", "3")
}

// 17.1, Run: a file and a folder of one path: the one that is not wanted goes.
func TestRunBothKinds(t *testing.T) {
	for want, rest := range map[string][]string{"a=1": {"f/a", "1"}, "a/": {"d/a", ""}} {
		d := with(t, "f/a", "1", "d/a", "")
		arrives(t, d, to(want), 1)
		has(t, d, rest...)
	}
	d := with(t, "f/a", "1", "d/a", "", "f/a/b", "2")
	arrives(t, d, to(), 3)
	has(t, d)
}

// R1: a list that is no image, with one path twice: the call ends.
func TestRunTwice(t *testing.T) {
	d := disk.New()
	g := goal{wanted("a=1", "a=2", "b/", "b/"), bytesOf("1", "2")}
	n, _, e := mater.Run(d, g.want, g.get, math.MaxInt)
	told(t, "Run", e, api.OK)
	if l := mater.Now(d); n < 2 || len(l) != 2 || l[0].Path != "a" || l[1].Path != "b" || !l[1].Dir {
		t.Error(n, l)
	}
}

// R1: who is asked and panics has nothing.
func TestRunPanics(t *testing.T) {
	for _, with := range []any{"no", errors.New("no"), nil, 7} {
		g := to("a=1", "b=2", "c/", "d")
		get := func(s string) (string, bool) {
			if s == digest("1") {
				panic(with)
			}
			return g.get(s)
		}
		d := disk.New()
		if n, none, e := mater.Run(d, g.want, get, 9); n != 3 || !none || e != api.OK || !mater.Stands(d, g.want, get) {
			t.Error(n, none, int(e))
		}
		has(t, d, "d/c", "", "f/b", "2", "f/d", "")
	}
}

// 17.1, Run: bytes beside a false are none.
func TestRunFalse(t *testing.T) {
	d := disk.New()
	arrives(t, d, goal{wanted("a=1"), func(string) (string, bool) { return "1", false }}, 0)
	has(t, d)
}

// 17.1, Run: bytes that wait at t/0 from long ago give way.
func TestRunAside(t *testing.T) {
	d := with(t, "t/0", "from long ago, and more than these")
	arrives(t, d, to("a/", "b"), 2)
	has(t, d, "d/a", "", "f/b", "")
	d = with(t, "t/0", "from long ago", "f/a", "x")
	arrives(t, d, to(), 1)
	has(t, d, "t/0", "from long ago")
	arrives(t, d, to("a=y"), 1)
	has(t, d, "f/a", "y")
}

// 17.1, Run: no room for a file's bytes beside those that are there: the disk's error ends it, and what was done stays.
func TestRunFull(t *testing.T) {
	texts := []string{"a/", "a/b=123", "c=4567", "d", "e=89"}
	g := to(texts...)
	steps := []string{"d/a", "f/a/b", "f/c", "f/d", "f/e"}
	for room := range 10 {
		d := disk.New()
		d.Room(room)
		fits := 5
		switch {
		case room < 3:
			fits = 1
		case room < 7:
			fits = 2
		case room < 9:
			fits = 4
		}
		for most := range 7 {
			c := d.Clone()
			if most > fits && fits < 5 {
				refused(t, c, g, most, api.ErrFull)
			} else if n, none := run(t, c, g, most); n != min(most, 5) || none != (most >= 5) {
				t.Fatalf("room %d, most %d: %d, %t", room, most, n, none)
			}
			names := slices.Sorted(slices.Values(steps[:min(most, fits)]))
			if !slices.Equal(c.Names(), names) {
				t.Fatalf("room %d, most %d: %q", room, most, c.Names())
			}
			c.Room(-1)
			arrives(t, c, g, 5-min(most, fits))
		}
	}
}

// 17.1, Run: a file's new bytes need room beside its old ones, as these go last.
func TestRunFullAgain(t *testing.T) {
	d := with(t, "f/a", "1234")
	d.Room(7)
	refused(t, d, to("a=5678"), 1, api.ErrFull)
	has(t, d, "f/a", "1234")
	d.Room(8)
	arrives(t, d, to("a=5678"), 1)
	has(t, d, "f/a", "5678")
	d.Room(0)
	arrives(t, d, to("a", "b/"), 2)
	arrives(t, d, to(), 2)
	has(t, d)
}

// 17.1: many files in many folders come, are others, and go.
func TestRunMany(t *testing.T) {
	var one, two, texts []string
	for i := range 20 {
		one, two = append(one, fmt.Sprintf("d%02d/", i)), append(two, fmt.Sprintf("e%02d/", i))
		for j := range 10 {
			texts = append(texts, fmt.Sprint("one ", i, j), fmt.Sprint("two ", i, j))
			one = append(one, fmt.Sprintf("d%02d/f%02d=%s", i, j, texts[len(texts)-2]))
			two = append(two, fmt.Sprintf("e%02d/f%02d=%s", i, j, texts[len(texts)-1]))
		}
	}
	d := disk.New()
	for _, l := range [][]string{one, two, nil} {
		want := wanted(l...)
		steps := len(want) + len(mater.Now(d))
		n, none, e := mater.Run(d, want, bytesOf(texts...), math.MaxInt)
		if n != steps || !none || e != api.OK {
			t.Fatal(n, none, int(e))
		}
		stands(t, d, l...)
	}
	has(t, d)
}
