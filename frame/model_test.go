package frame_test

import (
	"arbour/api"
	"fmt"
	"regexp"
	"slices"
	"strconv"
	"strings"
	"testing"
)

// The document's numbers, as its words and limits say them.
const (
	hashesMost = 32
	givesMost  = 16
	nodeMost   = 512
	placeMost  = 65536
	bytesMost  = 65536
	digested   = 32
)

// The limits and kinds that the chapter's bytes hang on.
func TestLimits(t *testing.T) {
	if api.MaxHashes != hashesMost || api.MaxGive != givesMost || api.MaxBytes != bytesMost || api.HashBytes != digested {
		t.Error("package api has other limits")
	}
	if api.SayHeads != 1 || api.SayGive != 2 || api.SayWant != 3 || api.SayAsk != 4 || api.SayShare != 5 {
		t.Error("package api has other kinds")
	}
}

// drawer draws numbers below n, the same ones at each run.
func drawer(seed uint64) func(n int) int {
	return func(n int) int {
		seed = seed*6364136223846793005 + 1442695040888963407
		return int(seed >> 33 % uint64(n))
	}
}

// hashes is n digests, no two alike.
func hashes(n int) []string {
	l := make([]string, n)
	for i := range l {
		l[i] = fmt.Sprintf("digest %025d", i)
	}
	return l
}

// nodes is n texts, the first one of no bytes, each a byte longer than the one ahead of it.
func nodes(n int) []string {
	l := make([]string, n)
	for i := range l {
		l[i] = text(i)
	}
	return l
}

// text is n bytes, of all kinds.
func text(n int) string {
	b := make([]byte, n)
	for i := range b {
		b[i] = byte(i*i + 7*n)
	}
	return string(b)
}

// filled is a digest's bytes: cut, or filled up with noughts.
func filled(s string) string { return (s + strings.Repeat("\x00", digested))[:digested] }

// counted is a count.
func counted(n int) string { return fmt.Sprintf("%08x", uint32(max(n, 0))) }

// texted is a text behind its count.
func texted(s string) string { return counted(len(s)) + s }

// listed is how many there are, and each of them.
func listed(l []string, one func(string) string) string {
	s := counted(len(l))
	for _, x := range l {
		s += one(x)
	}
	return s
}

// shared is a share's bytes, by the words of layer 9.
func shared(x api.Share) string {
	s := filled(x.Digest) + counted(x.Size) + counted(x.Many) + counted(x.At) + texted(x.Chunk) + fmt.Sprintf("%02x", byte(len(x.Path)))
	for _, h := range x.Path {
		s += filled(h)
	}
	return s
}

// bytesOf is what is said as bytes, by the words of the chapter alone.
func bytesOf(x api.Say) string {
	kind := fmt.Sprintf("%02x", byte(x.Kind))
	switch x.Kind {
	case 1, 3:
		return kind + listed(x.Hashes, filled)
	case 2:
		return kind + listed(x.Nodes, texted)
	case 4:
		return kind + filled(x.File) + counted(x.At)
	case 5:
		return kind + shared(x.Share)
	}
	return kind
}

// model goes through bytes by the words of layer 3, digits found by a pattern; it keeps its first error.
type model struct {
	left string
	e    api.Errno
}

var number = regexp.MustCompile(`^[0-9a-f]*$`)

// bytes is so many bytes, if there are as many.
func (m *model) bytes(n int) string {
	if m.e == api.OK && len(m.left) < n {
		m.e = api.ErrCut
	}
	if m.e != api.OK {
		return ""
	}
	s := m.left[:n]
	m.left = m.left[n:]
	return s
}

// number is a number of so many bytes.
func (m *model) number(bytes int) int {
	s := m.bytes(2 * bytes)
	if m.e == api.OK && !number.MatchString(s) {
		m.e = api.ErrForm
	}
	if m.e != api.OK {
		return 0
	}
	n, _ := strconv.ParseUint(s, 16, 64)
	return int(n)
}

// count is a count of at most so much.
func (m *model) count(most int) int {
	n := m.number(4)
	if m.e == api.OK && n > most {
		m.e = api.ErrMany
	}
	if m.e != api.OK {
		return 0
	}
	return n
}

// text is a text of at most so many bytes.
func (m *model) text(most int) string { return m.bytes(m.count(most)) }

// all is so many of a kind.
func (m *model) all(n int, one func() string) []string {
	var l []string
	for range n {
		l = append(l, one())
	}
	return l
}

// digest is a digest.
func (m *model) digest() string { return m.bytes(digested) }

// share is a share, whatever it says.
func (m *model) share() api.Share {
	const most = 1 << 32
	x := api.Share{Digest: m.digest()}
	x.Size = m.count(most)
	x.Many = m.count(most)
	x.At = m.count(most)
	x.Chunk = m.text(most)
	x.Path = m.all(m.number(1), m.digest)
	return x
}

// sayOf is what bytes say, by the words of the chapter alone.
func sayOf(s string) (api.Say, api.Errno) {
	if len(s) > bytesMost {
		return api.Say{}, api.ErrMany
	}
	m := &model{left: s}
	x := api.Say{Kind: m.number(1)}
	known := true
	switch x.Kind {
	case 1, 3:
		x.Hashes = m.all(m.count(hashesMost), m.digest)
	case 2:
		x.Nodes = m.all(m.count(givesMost), func() string { return m.text(nodeMost) })
	case 4:
		x.File = m.digest()
		x.At = m.count(placeMost)
	case 5:
		x.Share = m.share()
	default:
		known = false
	}
	switch {
	case m.e != api.OK:
		return api.Say{}, m.e
	case !known:
		return api.Say{}, api.ErrForm
	case m.left != "":
		return api.Say{}, api.ErrMore
	}
	return x, api.OK
}

// same is whether the same is said; lists that are empty and nil are the same.
func same(a, b api.Say) bool {
	x, y := a.Share, b.Share
	return a.Kind == b.Kind && slices.Equal(a.Hashes, b.Hashes) && slices.Equal(a.Nodes, b.Nodes) && a.File == b.File && a.At == b.At &&
		x.Digest == y.Digest && x.Size == y.Size && x.Many == y.Many && x.At == y.At && x.Chunk == y.Chunk && slices.Equal(x.Path, y.Path)
}

// copied is the same with lists of its own.
func copied(x api.Say) api.Say {
	x.Hashes, x.Nodes, x.Share.Path = slices.Clone(x.Hashes), slices.Clone(x.Nodes), slices.Clone(x.Share.Path)
	return x
}

// short is what is said as it may stand in a line.
func short(x api.Say) string {
	return fmt.Sprintf("kind %d, %d digests, %d nodes, file %.8q, place %d, share of %.8q", x.Kind, len(x.Hashes), len(x.Nodes), x.File, x.At, x.Share.Digest)
}
