package mater_test

import (
	"arbour/api"
	"arbour/disk"
	"arbour/image"
	"arbour/mater"
	"arbour/merkle"
	"arbour/plan"
	"maps"
	"slices"
	"strings"
	"testing"
)

const fileMost = 8192 // bytes of a file

// drawer draws numbers below n, the same ones at each run.
func drawer(seed uint64) func(n int) int {
	return func(n int) int {
		seed = seed*6364136223846793005 + 1442695040888963407
		return int(seed >> 33 % uint64(n))
	}
}

// digest is a file's digest, of no bytes that of no bytes.
func digest(s string) string {
	m, e := merkle.Of(s)
	if e != api.OK {
		panic("too many bytes")
	}
	return merkle.File(m)
}

// told wants the error that a call was answered with.
func told(t *testing.T, what string, got, want api.Errno) {
	t.Helper()
	if got != want {
		t.Fatalf("%s: %d, not %d", what, int(got), int(want))
	}
}

// contents is a disk's files by their names.
func contents(t *testing.T, d *disk.Disk) map[string]string {
	t.Helper()
	all := make(map[string]string)
	for _, name := range d.Names() {
		s, e := d.Read(name)
		told(t, "Read "+name, e, api.OK)
		all[name] = s
	}
	return all
}

// with is a disk that has files (names and bytes by turns), all of them settled.
func with(t *testing.T, files ...string) *disk.Disk {
	t.Helper()
	d := disk.New()
	for i := 0; i < len(files); i += 2 {
		told(t, "Write", d.Write(files[i], files[i+1]), api.OK)
	}
	told(t, "Sync", d.Sync(), api.OK)
	return d
}

// has wants that a disk has just these files (names and bytes by turns), and all of them settled.
func has(t *testing.T, d *disk.Disk, files ...string) {
	t.Helper()
	want := make(map[string]string)
	for i := 0; i < len(files); i += 2 {
		want[files[i]] = files[i+1]
	}
	if got := contents(t, d); !maps.Equal(got, want) {
		t.Fatalf("files: %q, not %q", got, want)
	}
	if d.Loose() != 0 {
		t.Fatalf("%d changes are loose", d.Loose())
	}
}

// stood is what stands there, by the chapter's words, of a disk's files.
func stood(files map[string]string) []api.File {
	var l []api.File
	for name, s := range files {
		kind, path, _ := strings.Cut(name, "/")
		switch {
		case kind == "f" && s == "":
			l = append(l, api.File{Path: path})
		case kind == "f":
			l = append(l, api.File{Path: path, Digest: digest(s), Size: len(s)})
		case kind == "d":
			l = append(l, api.File{Path: path, Dir: true})
		}
	}
	slices.SortFunc(l, image.Compare)
	return l
}

// stands wants that just this stands there: paths with a / behind a folder's, and = and its bytes behind a file's. What is told is the caller's own.
func stands(t *testing.T, d *disk.Disk, want ...string) {
	t.Helper()
	files := make(map[string]string)
	for _, s := range want {
		path, bytes, _ := strings.Cut(s, "=")
		if folder, is := strings.CutSuffix(path, "/"); is {
			files["d/"+folder] = ""
		} else {
			files["f/"+path] = bytes
		}
	}
	now(t, d, stood(files))
}

// now wants that just this stands there. It is asked for twice: what was told is the caller's, and is changed by him.
func now(t *testing.T, d *disk.Disk, want []api.File) {
	t.Helper()
	for range 2 {
		l := mater.Now(d)
		if !slices.Equal(l, want) {
			t.Fatalf("stands there: %v, not %v", l, want)
		}
		clear(l)
		_ = append(l, api.File{Path: "spoilt"})
	}
}

// wanted is an image of short texts: paths with a / behind a folder's, and = and its bytes behind a file's; each has a number of its own.
func wanted(texts ...string) []api.File {
	var l []api.File
	for i, s := range texts {
		path, bytes, _ := strings.Cut(s, "=")
		f := api.File{Path: path, ID: uint64(16 * (i + 1))}
		if folder, is := strings.CutSuffix(path, "/"); is {
			f.Path, f.Dir = folder, true
		} else if bytes != "" {
			f.Digest, f.Size = digest(bytes), len(bytes)
		}
		l = append(l, f)
	}
	return l
}

// bytesOf tells the bytes of digests, of these texts alone.
func bytesOf(texts ...string) func(string) (string, bool) {
	all := make(map[string]string)
	for _, s := range texts {
		all[digest(s)] = s
	}
	return func(digest string) (string, bool) {
		s, ok := all[digest]
		return s, ok
	}
}

// goal is what is wanted, and who has which bytes.
type goal struct {
	want []api.File
	get  func(string) (string, bool)
}

// to is a goal: an image of short texts, with all of its bytes.
func to(texts ...string) goal {
	var bytes []string
	for _, s := range texts {
		_, b, _ := strings.Cut(s, "=")
		bytes = append(bytes, b)
	}
	return goal{wanted(texts...), bytesOf(bytes...)}
}

// lacking is the same goal, where nobody has the bytes of these texts.
func (g goal) lacking(texts ...string) goal {
	away := make(map[string]struct{})
	for _, s := range texts {
		away[digest(s)] = struct{}{}
	}
	return goal{g.want, func(digest string) (string, bool) {
		if _, is := away[digest]; is {
			return "", false
		}
		return g.get(digest)
	}}
}

// model is a folder by the chapter's words, slowly: what is there is looked up anew ahead of each step.
type model struct {
	files map[string]string
	left  []api.Step
	goal  goal
}

// modelOf is a disk's folder on its way to a goal.
func modelOf(files map[string]string, g goal) *model {
	want := slices.Clone(g.want)
	for i := range want {
		if want[i].Digest == digest("") {
			want[i].Digest = ""
		}
	}
	return &model{files: maps.Clone(files), left: plan.Between(stood(files), want), goal: g}
}

// can tells whether a step can be done now, and the bytes that it puts.
func (m *model) can(s api.Step) (string, bool) {
	_, may := plan.Do(stood(m.files), s)
	if s.Kind != 4 || s.Digest == "" {
		return "", may
	}
	bytes, ok := m.goal.get(s.Digest)
	return bytes, may && ok
}

// next is where the first step is that can be done; -1: there is none.
func (m *model) next() int {
	return slices.IndexFunc(m.left, func(s api.Step) bool { _, ok := m.can(s); return ok })
}

// step does the first step that can be done: how many changes of the disk that takes; 0: there is none.
func (m *model) step() int {
	i := m.next()
	if i < 0 {
		return 0
	}
	s := m.left[i]
	bytes, _ := m.can(s)
	m.left = slices.Delete(m.left, i, i+1)
	switch s.Kind {
	case 1:
		delete(m.files, "f/"+s.Path)
	case 2:
		delete(m.files, "d/"+s.Path)
	case 3:
		m.files["d/"+s.Path] = ""
	case 4:
		m.files["f/"+s.Path] = bytes
		// What was not in its place yet came there.
		delete(m.files, "t/0")
		return 2
	}
	return 1
}

// run lets a disk come nearer to a goal by so many steps at most, and wants what the model does; nothing that is handed in is changed.
func run(t *testing.T, d *disk.Disk, g goal, most int) (int, bool) {
	t.Helper()
	m := modelOf(contents(t, d), g)
	steps, changes := 0, 0
	for steps < most {
		n := m.step()
		if n == 0 {
			break
		}
		steps++
		changes += n
	}
	before, was := d.Changes(), slices.Clone(g.want)
	whole := append(slices.Clone(g.want), api.File{Path: "behind"})
	n, none, e := mater.Run(d, whole[:len(was)], g.get, most)
	told(t, "Run", e, api.OK)
	if n != steps || none != (m.next() < 0) {
		t.Fatalf("Run: %d, %t; not %d, %t", n, none, steps, m.next() < 0)
	}
	if got := contents(t, d); !maps.Equal(got, m.files) {
		t.Fatalf("behind %d steps: %q, not %q", n, got, m.files)
	}
	if d.Changes()-before != changes || n > 0 && d.Loose() != 0 {
		t.Fatalf("%d changes, %d of them loose; not %d", d.Changes()-before, d.Loose(), changes)
	}
	if !slices.Equal(whole[:len(was)], was) || whole[len(was)].Path != "behind" {
		t.Fatal("what is wanted was changed")
	}
	now(t, d, stood(m.files))
	standing(t, d, g, modelOf(m.files, g).next() < 0)
	return n, none
}

// standing wants to be told whether all stands there as it is wanted; to ask it changes nothing.
func standing(t *testing.T, d *disk.Disk, g goal, want bool) {
	t.Helper()
	before, files := d.Changes(), contents(t, d)
	for range 2 {
		if mater.Stands(d, g.want, g.get) != want {
			t.Fatalf("Stands: %t", !want)
		}
		n, none, e := mater.Run(d, g.want, g.get, 0)
		if n != 0 || none != want || e != api.OK {
			t.Fatalf("Run of no steps: %d, %t, %d", n, none, int(e))
		}
	}
	if d.Changes() != before || !maps.Equal(contents(t, d), files) {
		t.Fatal("the disk was changed")
	}
}

// arrives wants that a disk comes to a goal by just so many steps, and that no others are left then.
func arrives(t *testing.T, d *disk.Disk, g goal, steps int) {
	t.Helper()
	standing(t, d, g, steps == 0)
	if n, none := run(t, d, g, 1000); n != steps || !none {
		t.Fatalf("Run: %d, %t; not %d", n, none, steps)
	}
	if n, none := run(t, d, g, 1000); n != 0 || !none {
		t.Fatalf("Run again: %d, %t", n, none)
	}
}
