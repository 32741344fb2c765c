package wal

import (
	"arbour/api"
	"arbour/disk"
	"arbour/wire"
	"iter"
	"slices"
	"strconv"
	"strings"
)

const (
	ahead      = "log." // of a segment's number
	unfinished = "log.new"

	begins = "B" // a head: nothing ahead of it counts
	goesOn = "G" // a head: it goes on
	record = "r" // ahead of each record
)

// fileName is the name of a segment's file.
func fileName(n int) string { return ahead + strconv.Itoa(n) }

// number is the number of the segment whose file has a name; 0, if it is none's.
func number(name string) int {
	n, err := strconv.Atoi(strings.TrimPrefix(name, ahead))
	// A number has one form only: log.01 and log.+1 are other names than log.1.
	if err != nil || n < 1 || fileName(n) != name {
		return 0
	}
	return n
}

// fromLast goes over the numbers of a disk's segments, the greatest one first. It goes by the names at its beginning: files may go on the way.
func fromLast(d *disk.Disk) iter.Seq[int] {
	return func(yield func(int) bool) {
		var numbers []int
		for _, name := range d.Names() {
			if n := number(name); n > 0 {
				numbers = append(numbers, n)
			}
		}
		slices.Sort(numbers)
		for i := len(numbers) - 1; i >= 0; i-- {
			if !yield(numbers[i]) {
				return
			}
		}
	}
}

// frames is records as they stand in a segment.
func frames(records []string) string {
	w := wire.NewWriter()
	for _, r := range records {
		w.Bytes(wire.Frame(record + r))
	}
	return w.All()
}

// takeHead is a segment's head, and the place behind it; none, if it has none.
func takeHead(s string) (string, int) {
	head, at, e := wire.Unframe(s, 0)
	if e != api.OK || head != begins && head != goesOn {
		return "", 0
	}
	return head, at
}

// takeRecords is the records from a place on, up to the first frame that is not whole, or no record, and the place behind them.
func takeRecords(s string, at int) ([]string, int) {
	var records []string
	for {
		text, next, e := wire.Unframe(s, at)
		r, ok := strings.CutPrefix(text, record)
		if e != api.OK || !ok {
			return records, at
		}
		records, at = append(records, r), next
	}
}

// beginning is the greatest number of a segment with a head B; 0, if there is none.
func beginning(d *disk.Disk) (int, api.Errno) {
	for n := range fromLast(d) {
		s, e := d.Read(fileName(n))
		if e != api.OK {
			return 0, e
		}
		if head, _ := takeHead(s); head == begins {
			return n, api.OK
		}
	}
	return 0, api.OK
}

// gather takes what counts.
func (l *Log) gather() api.Errno {
	var e api.Errno
	l.first, e = beginning(l.disk)
	if e != api.OK {
		return e
	}
	// Where nothing begins n is 0; behind the greatest of all numbers it is below that.
	for n := l.first; n > 0; n++ {
		s, e := l.disk.Read(fileName(n))
		if e == api.ErrNone {
			return api.OK
		}
		if e != api.OK {
			return e
		}
		if !l.takeSegment(n, s) || l.size < len(s) {
			return api.OK
		}
	}
	return api.OK
}

// takeSegment takes what counts of the next segment: whether it has a head.
func (l *Log) takeSegment(n int, s string) bool {
	head, at := takeHead(s)
	if head == "" {
		return false
	}
	records, size := takeRecords(s, at)
	l.records = append(l.records, records...)
	l.last, l.size = n, size
	return true
}

// sweep lets go all that does not count: how many bytes of it stood behind the beginning. It goes from the last segment on: if the power fails on the way, none of those that are left begins to count.
func (l *Log) sweep() (int, api.Errno) {
	cut := 0
	for n := range fromLast(l.disk) {
		s, e := l.disk.Read(fileName(n))
		if e != api.OK {
			return 0, e
		}
		off, e := l.trim(n, len(s))
		if e != api.OK {
			return 0, e
		}
		if l.first > 0 && n >= l.first {
			cut += off
		}
	}
	return cut, api.OK
}

// trim lets go what does not count of a segment with so many bytes: how many went. Of those that count the last one alone may have others.
func (l *Log) trim(n, size int) (int, api.Errno) {
	switch {
	case n < l.first || n > l.last:
		return size, l.disk.Remove(fileName(n))
	case n == l.last && size > l.size:
		return size - l.size, l.disk.Truncate(fileName(n), l.size)
	}
	return 0, api.OK
}

// dropUnfinished lets go a segment that never came to its number.
func (l *Log) dropUnfinished() api.Errno {
	e := l.disk.Remove(unfinished)
	if e == api.ErrNone {
		return api.OK
	}
	return e
}
