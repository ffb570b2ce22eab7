package snap

import (
	"strconv"
	"strings"
)

const (
	prefix    = "snap-"    // of a snapshot's file; its Index follows
	fresh     = "snap.new" // what is to be a snapshot's file, until all of it is sure
	maxNumber = 999999999  // of a file
)

// Name: a snapshot's file.
func Name(index int) string {
	if index < 1 || index > maxNumber {
		return ""
	}
	return prefix + strconv.Itoa(index)
}

// Index: of a file's name.
func Index(name string) (int, bool) {
	n, err := strconv.Atoi(strings.TrimPrefix(name, prefix))
	if err != nil || Name(n) != name { // Atoi takes signs and leading zeros, too
		return 0, false
	}
	return n, true
}
