package wal

import (
	"slices"
	"strconv"
	"strings"

	"corbel/api"
)

const (
	prefix    = "wal-"    // of a segment's name; its number follows
	fresh     = "wal.new" // what is to be a segment, until all of it is sure
	maxNumber = 999999999 // of a segment
)

// Name: a segment's.
func Name(n int) string {
	if n < 1 || n > maxNumber {
		return ""
	}
	return prefix + strconv.Itoa(n)
}

// Number: of a name.
func Number(name string) (int, bool) {
	n, err := strconv.Atoi(strings.TrimPrefix(name, prefix))
	if err != nil || Name(n) != name { // Atoi takes signs and leading zeros, too
		return 0, false
	}
	return n, true
}

// numbers: those of the segments that are on the disk.
func (l *log) numbers() []int {
	var found []int
	for _, name := range l.List() {
		if n, is := Number(name); is {
			found = append(found, n)
		}
	}
	slices.Sort(found) // they come by the bytes of their names
	return found
}

// begin: an empty segment is the last one.
func (l *log) begin(n int) api.Errno {
	if err := l.Create(Name(n)); err != api.OK {
		return err
	}
	if err := l.Sync(); err != api.OK {
		return err
	}
	l.last = n
	return api.OK
}

// replace: a segment has these bytes, at once: a new name is sure when it is given, so the bytes must be sure by then.
func (l *log) replace(n int, b []byte) api.Errno {
	if err := l.Create(fresh); err != api.OK {
		return err
	}
	if len(b) > 0 {
		if err := l.Append(fresh, b); err != api.OK {
			return err
		}
	}
	if err := l.Sync(); err != api.OK {
		return err
	}
	return l.Rename(fresh, Name(n))
}

// next: a segment with too many bytes is followed by an empty one. If there is no room for that, this one is written on. Others may write to the file, so its bytes are counted where they are.
func (l *log) next() api.Errno {
	if l.last == maxNumber {
		return api.OK
	}
	b, err := l.Read(Name(l.last))
	if err != api.OK || len(b) <= l.segment {
		return powerAlone(err)
	}
	return powerAlone(l.begin(l.last + 1))
}

// removeOthers: all segments but the last one, from the greatest number down.
func (l *log) removeOthers() api.Errno {
	for _, n := range slices.Backward(l.numbers()) {
		if n == l.last {
			continue
		}
		if err := powerAlone(l.Remove(Name(n))); err != api.OK {
			return err
		}
	}
	return api.OK
}

// powerAlone: an error that is told only if it is ErrPower.
func powerAlone(err api.Errno) api.Errno {
	if err == api.ErrPower {
		return err
	}
	return api.OK
}
