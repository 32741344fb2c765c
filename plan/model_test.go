package plan_test

import (
	"arbour/api"
	"arbour/plan"
	"slices"
	"strings"
	"testing"
)

const (
	nameMost = 32  // bytes of a name
	pathMost = 238 // bytes of a path
)

// drawer draws numbers below n, the same ones at each run.
func drawer(seed uint64) func(n int) int {
	return func(n int) int {
		seed = seed*6364136223846793005 + 1442695040888963407
		return int(seed >> 33 % uint64(n))
	}
}

// files is files and folders of short texts: a folder's has a / behind it; a file's may have a digest, behind a =. Each has a number and a size of its own, a folder none of these.
func files(texts ...string) []api.File {
	var l []api.File
	for i, s := range texts {
		path, digest, _ := strings.Cut(s, "=")
		f := api.File{Path: path, ID: uint64(16 * (i + 1)), Digest: digest, Size: 100 + i}
		if folder, is := strings.CutSuffix(path, "/"); is {
			f.Path, f.Dir, f.Size = folder, true, 0
		}
		l = append(l, f)
	}
	return l
}

// texts is the short texts of files and folders.
func texts(l []api.File) []string {
	var all []string
	for _, f := range l {
		s := f.Path
		if f.Dir {
			s += "/"
		}
		if f.Digest != "" {
			s += "=" + f.Digest
		}
		all = append(all, s)
	}
	return all
}

// remove, rmdir, mkdir and put are steps of the numbers that the chapter tells.
func remove(path string) api.Step      { return api.Step{Kind: 1, Path: path} }
func rmdir(path string) api.Step       { return api.Step{Kind: 2, Path: path} }
func mkdir(path string) api.Step       { return api.Step{Kind: 3, Path: path} }
func put(path, digest string) api.Step { return api.Step{Kind: 4, Path: path, Digest: digest} }

// pathsOf orders paths by the chapter of the layer below: name by name, between their /.
func pathsOf(a, b string) int {
	return slices.Compare(strings.Split(a, "/"), strings.Split(b, "/"))
}

// allPaths is the paths of some lists, each once, in order.
func allPaths(lists ...[]api.File) []string {
	var all []string
	for _, l := range lists {
		for _, f := range l {
			all = append(all, f.Path)
		}
	}
	slices.SortFunc(all, pathsOf)
	return slices.Compact(all)
}

// at is the one with a path; nil: there is none.
func at(l []api.File, path string) *api.File {
	for i := range l {
		if l[i].Path == path {
			return &l[i]
		}
	}
	return nil
}

// stepsOf is the steps between two images, by the chapter's words: path by path, one kind behind the other.
func stepsOf(now, want []api.File) []api.Step {
	var l []api.Step
	all := allPaths(now, want)
	for i := len(all) - 1; i >= 0; i-- {
		n, w := at(now, all[i]), at(want, all[i])
		if n != nil && (w == nil || w.Dir != n.Dir) {
			if n.Dir {
				l = append(l, rmdir(n.Path))
			} else {
				l = append(l, remove(n.Path))
			}
		}
	}
	for _, path := range all {
		n, w := at(now, path), at(want, path)
		if w != nil && w.Dir && (n == nil || !n.Dir) {
			l = append(l, mkdir(path))
		}
	}
	for _, path := range all {
		n, w := at(now, path), at(want, path)
		if w != nil && !w.Dir && (n == nil || n.Dir || n.Digest != w.Digest) {
			l = append(l, put(path, w.Digest))
		}
	}
	return l
}

// legalPath tells whether a path may be, by the words of the layer of names.
func legalPath(path string) bool {
	for _, part := range strings.Split(path, "/") {
		if part == "" || len(part) > nameMost || strings.HasSuffix(part, ".") {
			return false
		}
		for _, c := range []byte(part) {
			if c < '!' || c > '~' || strings.IndexByte("\\:*?\"<>|", c) >= 0 {
				return false
			}
		}
	}
	return len(path) <= pathMost
}

// allowed tells whether a step may be done on an image, by the chapter's words, each one asked for itself.
func allowed(l []api.File, s api.Step) bool {
	x := at(l, s.Path)
	below := slices.ContainsFunc(l, func(f api.File) bool { return strings.HasPrefix(f.Path, s.Path+"/") })
	folder := true
	if i := strings.LastIndex(s.Path, "/"); i >= 0 {
		above := at(l, s.Path[:i])
		folder = above != nil && above.Dir
	}
	refused := s.Kind < 1 || s.Kind > 4 ||
		s.Kind == 1 && (x == nil || x.Dir) ||
		s.Kind == 2 && (x == nil || !x.Dir || below) ||
		s.Kind == 3 && x != nil ||
		s.Kind == 4 && x != nil && x.Dir ||
		!legalPath(s.Path) || !folder
	return !refused
}

// doneOf is an image behind a step, by the chapter's words.
func doneOf(l []api.File, s api.Step) ([]api.File, bool) {
	if !allowed(l, s) {
		return l, false
	}
	var all []api.File
	for _, f := range l {
		if f.Path != s.Path {
			all = append(all, f)
		}
	}
	switch s.Kind {
	case 3:
		all = append(all, api.File{Path: s.Path, Dir: true, Digest: s.Digest})
	case 4:
		all = append(all, api.File{Path: s.Path, Digest: s.Digest})
	}
	slices.SortFunc(all, func(a, b api.File) int { return pathsOf(a.Path, b.Path) })
	return all, true
}

// roomy is a list with room behind it, so that what is laid behind its end would be seen there.
func roomy(l []api.File) (list, whole []api.File) {
	whole = append(slices.Clone(l), api.File{Path: "behind"}, api.File{Path: "behind that"})
	return whole[:len(l)], whole
}

// between is the steps, those of the model; neither list is changed. They are asked for twice: what was told is the caller's, and is changed by him.
func between(t *testing.T, now, want []api.File) []api.Step {
	t.Helper()
	n, wholeN := roomy(now)
	w, wholeW := roomy(want)
	beforeN, beforeW, model := slices.Clone(wholeN), slices.Clone(wholeW), stepsOf(now, want)
	for range 2 {
		l := plan.Between(n, w)
		if !slices.Equal(l, model) {
			t.Fatalf("from %q to %q: %v, not %v", texts(now), texts(want), l, model)
		}
		if !slices.Equal(wholeN, beforeN) || !slices.Equal(wholeW, beforeW) {
			t.Fatalf("from %q to %q: a list was changed", texts(now), texts(want))
		}
		clear(l)
		_ = append(l, api.Step{Kind: 5})
	}
	return plan.Between(n, w)
}

// done is what stands there behind a step, that of the model; the list is not changed, by what is done to the answer neither.
func done(t *testing.T, l []api.File, s api.Step) ([]api.File, bool) {
	t.Helper()
	own, whole := roomy(l)
	before := slices.Clone(whole)
	model, wanted := doneOf(l, s)
	for range 2 {
		got, is := plan.Do(own, s)
		if is != wanted || !slices.Equal(got, model) {
			t.Fatalf("%v on %v: %v, %t; not %v, %t", s, l, got, is, model, wanted)
		}
		for i := range got {
			got[i] = api.File{Path: "spoilt"}
		}
		_ = append(got, api.File{Path: "spoilt"})
		if !slices.Equal(whole, before) {
			t.Fatalf("%v on %v: the list was changed", s, l)
		}
	}
	return plan.Do(own, s)
}
