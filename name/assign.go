package name

import (
	"arbour/api"
	"strconv"
)

// Assign is the names of things below one folder: in the order of the list, each its own, as far as it may be, and no other one's.
func Assign(l []api.Given) []string {
	f := folder{taken: make(map[string]struct{}), next: make(map[row]int)}
	var names []string
	for _, g := range l {
		names = append(names, f.assign(Fix(g.Name)))
	}
	return names
}

// folder is what was assigned in one.
type folder struct {
	taken map[string]struct{} // names, small
	next  map[row]int         // the numbers of a row ahead of this one are taken: without that, many names that are the same would take steps by their square
}

// row is the names that are the same, small, ahead of their ~, with numbers of so many digits behind it. Numbers of other digits are apart: a longer name is cut otherwise for them, and comes to them in the midst.
type row struct {
	small  string
	digits int
}

// assign is a name that may be, or the first one with ~ and a number that is nobody's yet.
func (f *folder) assign(own string) string {
	if f.take(own) {
		return own
	}
	first := 1
	for digits := 1; ; digits++ {
		if s, ok := f.numbered(own, digits, first); ok {
			return s
		}
		first *= 10
	}
}

// numbered is a name with ~ and a number of so many digits, of which first is the least; false: all are taken.
func (f *folder) numbered(own string, digits, first int) (string, bool) {
	cut := own[:min(len(own), api.MaxName-1-digits)]
	r := row{Fold(cut), digits}
	for n := max(f.next[r], first); n < 10*first; n++ {
		f.next[r] = n + 1
		s := cut + "~" + strconv.Itoa(n)
		if f.take(s) {
			return s, true
		}
	}
	return "", false
}

// take takes a name, if it is nobody's yet.
func (f *folder) take(s string) bool {
	small := Fold(s)
	if _, is := f.taken[small]; is {
		return false
	}
	f.taken[small] = struct{}{}
	return true
}
