package codec

import (
	"corbel/api"
)

// A frame is a head (the mark and the count), the content, and the sum.
const (
	mark       = 0xc5
	countBytes = 3
	sumBytes   = 4
	headBytes  = 1 + countBytes
)

// nibbles: what four bits that leave the sum do to it, by the polynomial 0x82f63b78.
var nibbles = [16]uint32{
	0x00000000, 0x105ec76f, 0x20bd8ede, 0x30e349b1,
	0x417b1dbc, 0x5125dad3, 0x61c69362, 0x7198540d,
	0x82f63b78, 0x92a8fc17, 0xa24bb5a6, 0xb21572c9,
	0xc38d26c4, 0xd3d3e1ab, 0xe330a81a, 0xf36e6f75,
}

// Sum: CRC-32C.
func Sum(b []byte) uint32 {
	c := ^uint32(0)
	for i := range len(b) {
		c ^= uint32(b[i])
		c = c>>4 ^ nibbles[c&15]
		c = c>>4 ^ nibbles[c&15]
	}
	return ^c
}

// Frame: bytes with their count ahead and a sum behind.
func Frame(b []byte) []byte {
	if len(b) > api.MaxFrame {
		return nil
	}
	f := make([]byte, 0, headBytes+len(b)+sumBytes)
	f = append(f, mark)
	f = appendLow(f, uint32(len(b)), countBytes)
	f = append(f, b...)
	return appendLow(f, Sum(f), sumBytes)
}

// Unframe: the content of the frame that bytes begin with.
func Unframe(b []byte) ([]byte, int, api.Errno) {
	switch {
	case len(b) == 0:
		return nil, 0, api.ErrAgain
	case b[0] != mark:
		return nil, 0, api.ErrCorrupt
	case len(b) < headBytes:
		return nil, 0, api.ErrAgain
	}
	count := low(b[1:headBytes])
	if count > api.MaxFrame {
		return nil, 0, api.ErrRange
	}
	end := headBytes + int(count)
	if len(b) < end+sumBytes {
		return nil, 0, api.ErrAgain
	}
	if Sum(b[:end]) != low(b[end:end+sumBytes]) {
		return nil, 0, api.ErrCorrupt
	}
	content := append(make([]byte, 0, count), b[headBytes:end]...)
	return content, end + sumBytes, api.OK
}

// appendLow: the n lowest bytes of u, the lowest first.
func appendLow(b []byte, u uint32, n int) []byte {
	for i := range n {
		b = append(b, byte(u>>(8*i)))
	}
	return b
}

// low: the number of up to four bytes, the lowest first.
func low(b []byte) uint32 {
	u := uint32(0)
	for i, x := range b {
		u |= uint32(x) << (8 * i)
	}
	return u
}
