package name_test

import (
	"arbour/api"
	"fmt"
	"strings"
)

const (
	nameMost = 32  // bytes of a name
	pathMost = 238 // bytes of a path

	// standing is all bytes that may stand in a name.
	standing = "!#$%&'()+,-.0123456789;=@ABCDEFGHIJKLMNOPQRSTUVWXYZ[]^_`abcdefghijklmnopqrstuvwxyz{}~"
	great    = "ABCDEFGHIJKLMNOPQRSTUVWXYZ"
	little   = "abcdefghijklmnopqrstuvwxyz"
)

// drawer draws numbers below n, the same ones at each run.
func drawer(seed uint64) func(n int) int {
	return func(n int) int {
		seed = seed*6364136223846793005 + 1442695040888963407
		return int(seed >> 33 % uint64(n))
	}
}

// letter is a byte as a text.
func letter(c int) string { return string([]byte{byte(c)}) }

// may tells whether a byte may stand in a name.
func may(c byte) bool { return strings.IndexByte(standing, c) >= 0 }

// legalOf tells whether a name may be, by the chapter's words.
func legalOf(s string) bool {
	for _, c := range []byte(s) {
		if !may(c) {
			return false
		}
	}
	return len(s) >= 1 && len(s) <= nameMost && !strings.HasSuffix(s, ".")
}

// smallOf is a text with small letters, byte by byte.
func smallOf(s string) string {
	small := []byte(s)
	for i, c := range small {
		if at := strings.IndexByte(great, c); at >= 0 {
			small[i] = little[at]
		}
	}
	return string(small)
}

// fixedOf is a text that was fixed, by the chapter's words.
func fixedOf(s string) string {
	fixed := ""
	for i := 0; i < len(s) && i < nameMost; i++ {
		if may(s[i]) {
			fixed += letter(int(s[i]))
		} else {
			fixed += "_"
		}
	}
	switch {
	case fixed == "":
		return "_"
	case strings.HasSuffix(fixed, "."):
		return strings.TrimSuffix(fixed, ".") + "_"
	}
	return fixed
}

// assignedOf is the names that are assigned, by the chapter's words, without any haste: each number is tried from 1 on.
func assignedOf(texts []string) []string {
	var names []string
	there := make(map[string]bool)
	for _, s := range texts {
		own := fixedOf(s)
		name := own
		for n := 1; there[smallOf(name)]; n++ {
			end := fmt.Sprintf("~%d", n)
			cut := own
			for len(cut)+len(end) > nameMost {
				cut = cut[:len(cut)-1]
			}
			name = cut + end
		}
		there[smallOf(name)] = true
		names = append(names, name)
	}
	return names
}

// given is things with names, with numbers that do not rise.
func given(texts []string) []api.Given {
	var l []api.Given
	for i, s := range texts {
		l = append(l, api.Given{ID: uint64(1000-7*i) % 64, Name: s})
	}
	return l
}
