// Package codec is layer 1: see shared/doc/01-codec.md.
package codec

import (
	"math/bits"
)

// maxNumber is the most bytes that a number takes.
const maxNumber = 9

// The bytes of yes and no.
const (
	yes = 'T'
	no  = 'F'
)

// Zig: an int without a sign. Turning the bits puts the sign lowest, so that small counts stay short.
func Zig(n int) uint64 { return bits.RotateLeft64(uint64(n), 1) }

// Zag: the other way round.
func Zag(u uint64) int { return int(bits.RotateLeft64(u, -1)) }

// Put: a number behind bytes.
func Put(b []byte, u uint64) []byte {
	return appendNumber(withRoom(b, maxNumber), u)
}

// Get: the number that bytes begin with.
func Get(b []byte) (uint64, int) {
	if len(b) == 0 {
		return 0, 0
	}
	k := bits.LeadingZeros8(^b[0])
	if len(b) <= k {
		return 0, 0
	}
	u := uint64(b[0] & (0x7f >> k))
	for _, x := range b[1 : k+1] {
		u = u<<8 | uint64(x)
	}
	if k != tailBytes(u) {
		return 0, 0
	}
	return u, k + 1
}

// PutText: a text behind bytes.
func PutText(b []byte, s string) []byte {
	b = appendNumber(withRoom(b, maxNumber+len(s)), uint64(len(s)))
	return append(b, s...)
}

// GetText: the text that bytes begin with.
func GetText(b []byte) (string, int) {
	count, n := Get(b)
	if n == 0 || count > uint64(len(b)-n) {
		return "", 0
	}
	end := n + int(count)
	return string(b[n:end]), end
}

// PutBool: a byte behind bytes.
func PutBool(b []byte, is bool) []byte {
	b = withRoom(b, 1)
	if is {
		return append(b, yes)
	}
	return append(b, no)
}

// GetBool: the byte that bytes begin with.
func GetBool(b []byte) (bool, int) {
	if len(b) == 0 || b[0] != yes && b[0] != no {
		return false, 0
	}
	return b[0] == yes, 1
}

// withRoom copies b: appending to b itself could write into the caller's memory behind its end.
func withRoom(b []byte, more int) []byte {
	return append(make([]byte, 0, len(b)+more), b...)
}

// tailBytes: how many bytes a number has behind its first one. A first byte without a nought has no bit of the number, so the longest form goes up to 64 bits.
func tailBytes(u uint64) int {
	return min((bits.Len64(u|1)-1)/7, maxNumber-1)
}

// appendNumber writes into b's own room: only for memory that withRoom made.
func appendNumber(b []byte, u uint64) []byte {
	k := tailBytes(u)
	ones := ^(byte(0xff) >> k)
	b = append(b, ones|byte(u>>(8*k)))
	for i := range k {
		b = append(b, byte(u>>(8*(k-1-i))))
	}
	return b
}
