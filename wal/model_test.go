package wal_test

import (
	"arbour/api"
	"arbour/disk"
	"arbour/wal"
	"arbour/wire"
	"hash/fnv"
	"maps"
	"regexp"
	"slices"
	"strconv"
	"testing"
)

// drawer draws numbers below n, the same ones at each run.
func drawer(seed uint64) func(n int) int {
	return func(n int) int {
		seed = seed*6364136223846793005 + 1442695040888963407
		return int(seed >> 33 % uint64(n))
	}
}

var (
	segmentName = regexp.MustCompile(`^log\.([1-9][0-9]*)$`)
	frameHead   = regexp.MustCompile(`^[0-9a-f]{16}`)
)

// split is bytes as the texts of the whole frames at their beginning, and where each of these ends.
func split(s string) (texts []string, ends []int) {
	at := 0
	for frameHead.MatchString(s[at:]) {
		n, _ := strconv.ParseInt(s[at:at+8], 16, 64)
		check, _ := strconv.ParseUint(s[at+8:at+16], 16, 64)
		if n > int64(len(s)-at-16) {
			break
		}
		text := s[at+16 : at+16+int(n)]
		h := fnv.New32a()
		h.Write([]byte(s[at:at+8] + text))
		if uint64(h.Sum32()) != check {
			break
		}
		at += 16 + int(n)
		texts, ends = append(texts, text), append(ends, at)
	}
	return texts, ends
}

// model is what a disk's files come to by the chapter's words: the files that stay, what counts, and how many bytes did not.
type model struct {
	files    map[string]string
	records  []string
	segments []int
	cut      int
}

func modelOf(files map[string]string) model {
	m := model{files: maps.Clone(files)}
	last := 0
	behind := 0 // bytes of the segments from the last head B on
	for name, s := range files {
		if texts, _ := split(s); segmentName.MatchString(name) && len(texts) > 0 && texts[0] == "B" {
			n, _ := strconv.Atoi(name[4:])
			last = max(last, n)
		}
	}
	for name, s := range files {
		if segmentName.MatchString(name) || name == "log.new" {
			delete(m.files, name)
		}
		if n, e := strconv.Atoi(name[4:]); e == nil && last > 0 && n >= last {
			behind += len(s)
		}
	}
	count := 0
	for n, whole := last, last > 0; whole; n++ {
		name := "log." + strconv.Itoa(n)
		texts, ends := split(files[name])
		if len(texts) == 0 || texts[0] != "B" && texts[0] != "G" {
			break
		}
		k := 1
		for k < len(texts) && len(texts[k]) > 0 && texts[k][0] == 'r' {
			m.records = append(m.records, texts[k][1:])
			k++
		}
		m.segments = append(m.segments, n)
		m.files[name] = files[name][:ends[k-1]]
		count += ends[k-1]
		whole = ends[k-1] == len(files[name])
	}
	m.cut = behind - count
	return m
}

// list is a model's files, names and bytes by turns.
func (m model) list() []string {
	var l []string
	for _, name := range slices.Sorted(maps.Keys(m.files)) {
		l = append(l, name, m.files[name])
	}
	return l
}

// drawFile draws bytes of a segment, whole or not.
func drawFile(draw func(n int) int) string {
	heads := []string{headB, headG, headG, headG, headG, headG, "", headB[:9], wire.Frame("x"), "torn"}
	s := heads[draw(len(heads))]
	for range draw(5) {
		s += rec("record"[:draw(7)])
		if draw(12) == 0 {
			s += []string{"torn", headB, headG, wire.Frame(""), wire.Frame("Rx"), recA[:5], recA[:17]}[draw(7)]
		}
	}
	if draw(8) == 0 {
		s = s[:draw(len(s)+1)]
	}
	return s
}

// drawDisk draws a disk's files: most of them segments behind one another.
func drawDisk(draw func(n int) int) map[string]string {
	files := map[string]string{}
	n := []int{1, 1, 2, 7, 8, 9, 97, 998}[draw(8)]
	for range draw(8) {
		files["log."+strconv.Itoa(n)] = drawFile(draw)
		n++
		if draw(10) == 0 {
			n++
		}
	}
	if len(files) > 0 && draw(3) > 0 {
		files["log."+strconv.Itoa(n-len(files)/2-1)] = headB + recs("a")
	}
	for _, name := range []string{"log.new", "log.0", "log.x", "log.1.2", "log."} {
		if draw(4) == 0 {
			files[name] = drawFile(draw)
		}
	}
	return files
}

// 7.1, 7.3: whatever stands on a disk, Open tells what the chapter's words tell, through a fall at any of its changes, too.
func TestOpenModel(t *testing.T) {
	counted, cut := 0, 0
	for seed := range 4000 {
		draw := drawer(uint64(seed))
		files := drawDisk(draw)
		want := modelOf(files)
		var l []string
		for _, name := range slices.Sorted(maps.Keys(files)) {
			l = append(l, name, files[name])
		}
		d := with(t, l...)
		fallen := d.Clone()
		fallen.Plan([]api.Fall{{At: d.Changes() + draw(6), Keep: draw(3), Torn: draw(3)}})
		holds(t, opened(t, d, 1, want.cut), want.segments, want.records...)
		has(t, d, want.list()...)
		if _, _, e := wal.Open(fallen, 1); e != api.OK {
			told(t, "Open", e, api.ErrDead)
			fallen.Up()
		}
		holds(t, openedAnew(t, fallen, 1), want.segments, want.records...)
		has(t, fallen, want.list()...)
		counted += len(want.records)
		cut += want.cut
	}
	if counted < 4000 || cut < 4000 {
		t.Errorf("too little was drawn: %d records, %d bytes", counted, cut)
	}
}

// walk is a log in use, and what was told of it.
type walk struct {
	d    *disk.Disk
	l    *wal.Log
	most int
	told []string
}

// up gives the disk power, and opens it through whatever falls there are: what it holds must be one of these.
func (w *walk) up(t *testing.T, may ...[]string) {
	t.Helper()
	for {
		w.d.Up()
		l, _, e := wal.Open(w.d, w.most)
		if e == api.OK {
			w.l = l
			break
		}
		told(t, "Open", e, api.ErrDead)
	}
	if !slices.ContainsFunc(may, func(l []string) bool { return slices.Equal(l, w.l.All()) }) {
		t.Fatalf("%q, not one of %q", w.l.All(), may)
	}
	w.told = w.l.All()
}

// behind is what may be there behind a call that was answered with an error: what was there, or what it laid.
func (w *walk) behind(t *testing.T, draw func(n int) int, e api.Errno, now []string) {
	t.Helper()
	switch {
	case e == api.OK:
		w.told = now
	case e == api.ErrFull:
	case draw(2) == 0:
		told(t, "the call", e, api.ErrDead)
		w.d.Up()
		// It is used on as it stands; what it holds now must be there later.
		if l := w.l.All(); !slices.Equal(l, w.told) && !slices.Equal(l, now) {
			t.Fatalf("%q, not %q or %q", l, w.told, now)
		}
		w.told = w.l.All()
	default:
		told(t, "the call", e, api.ErrDead)
		w.up(t, w.told, now)
	}
}

// step does something.
func (w *walk) step(t *testing.T, draw func(n int) int) {
	t.Helper()
	var records []string
	for range draw(4) {
		records = append(records, "0123456789abcdef"[draw(8):][:draw(9)])
	}
	switch k := draw(20); {
	case k < 10:
		w.behind(t, draw, w.l.Add(records...), slices.Concat(w.told, records))
	case k < 13:
		w.behind(t, draw, w.l.Reset(records), records)
	case k < 15:
		w.d.Crash(draw(3), draw(3))
		w.up(t, w.told)
	case k < 18:
		var falls []api.Fall
		for range draw(5) {
			falls = append(falls, api.Fall{At: w.d.Changes() + draw(8), Keep: draw(3) - 1, Torn: draw(4) - 1})
		}
		w.d.Plan(falls)
	case k == 18:
		w.d.Room(w.d.Used() + draw(200) - 20)
	case k == 19:
		w.d.Room(-1)
		w.up(t, w.told)
	}
	if !slices.Equal(w.l.All(), w.told) || w.l.Len() != len(w.told) {
		t.Fatalf("%q, not %q", w.l.All(), w.told)
	}
}

// 7.2, 7.3: whatever is done, in whatever order, and wherever the power fails: all is there that was told.
func TestWalk(t *testing.T) {
	for seed := range 400 {
		draw := drawer(uint64(seed))
		w := &walk{d: disk.New(), most: []int{1, 18, 60, 100, 1000}[draw(5)]}
		w.up(t, nil)
		for range 200 {
			w.step(t, draw)
		}
		w.d.Plan(nil)
		w.up(t, w.told)
		holds(t, opened(t, w.d, w.most, 0), w.l.Segments(), w.told...)
	}
}
