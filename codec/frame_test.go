package codec_test

import (
	"bytes"
	"hash/crc32"
	"testing"

	"corbel/api"
	"corbel/codec"
)

// rising: n bytes that are not all alike.
func rising(n int) []byte {
	b := make([]byte, n)
	for i := range b {
		b[i] = byte(i*7 + i>>8)
	}
	return b
}

// lowest: the n lowest bytes of u, the lowest first.
func lowest(u uint32, n int) []byte {
	return []byte{byte(u), byte(u >> 8), byte(u >> 16), byte(u >> 24)}[:n]
}

func join(parts ...[]byte) []byte {
	return bytes.Join(parts, nil)
}

func TestSumKnown(t *testing.T) {
	down := rising(0)
	up := rising(0)
	for i := range 32 {
		up = append(up, byte(i))
		down = append(down, byte(31-i))
	}
	for _, c := range []struct {
		name string
		b    []byte
		want uint32
	}{
		{"nil", nil, 0},
		{"empty", []byte{}, 0},
		{"digits", []byte("123456789"), 0xe3069283},
		{"noughts", make([]byte, 32), 0x8a9136aa},
		{"ones", bytes.Repeat([]byte{0xff}, 32), 0x62a8ab43},
		{"up", up, 0x46dd794e},
		{"down", down, 0x113fdb5c},
	} {
		if got := codec.Sum(c.b); got != c.want {
			t.Errorf("Sum(%s) = %#x, want %#x", c.name, got, c.want)
		}
	}
}

func TestSumAgainstLibrary(t *testing.T) {
	table := crc32.MakeTable(crc32.Castagnoli)
	for i := range 256 {
		b := []byte{byte(i)}
		if got, want := codec.Sum(b), crc32.Checksum(b, table); got != want {
			t.Fatalf("Sum of byte %d = %#x, want %#x", i, got, want)
		}
	}
	long := rising(3000)
	for n := range len(long) {
		if got, want := codec.Sum(long[:n]), crc32.Checksum(long[:n], table); got != want {
			t.Fatalf("Sum of %d bytes = %#x, want %#x", n, got, want)
		}
	}
}

func TestFrameIsMarkCountContentSum(t *testing.T) {
	for _, n := range []int{0, 1, 2, 255, 256, 257, 65535, 65536, 65537, api.MaxFrame - 1, api.MaxFrame} {
		b := rising(n)
		body := join([]byte{0xc5}, lowest(uint32(n), 3), b)
		want := join(body, lowest(codec.Sum(body), 4))
		if !bytes.Equal(codec.Frame(b), want) {
			t.Errorf("Frame of %d bytes is not mark, count, content and sum", n)
		}
	}
	if f := codec.Frame(nil); len(f) != 8 || !bytes.Equal(f[:4], []byte{197, 0, 0, 0}) {
		t.Errorf("Frame(nil) = %v", f)
	}
}

func TestFrameTooGreat(t *testing.T) {
	for _, n := range []int{api.MaxFrame + 1, 2 * api.MaxFrame, 16 * api.MaxFrame} {
		if f := codec.Frame(make([]byte, n)); len(f) != 0 {
			t.Errorf("Frame of %d bytes has %d bytes, want none", n, len(f))
		}
	}
}

func TestUnframeUndoesFrame(t *testing.T) {
	for _, n := range []int{0, 1, 255, 256, 65535, 65536, api.MaxFrame - 1, api.MaxFrame} {
		b := rising(n)
		f := codec.Frame(b)
		for _, behind := range [][]byte{nil, {0}, {0xc5}, rising(9)} {
			got, size, err := codec.Unframe(join(f, behind))
			if err != api.OK || size != n+8 || !bytes.Equal(got, b) {
				t.Errorf("Unframe of %d bytes, %d behind: %d bytes, %d, %v", n, len(behind), len(got), size, err)
			}
		}
	}
}

func TestUnframeFirstOfTwo(t *testing.T) {
	both := join(codec.Frame([]byte("one")), codec.Frame([]byte("second")))
	a, n, err := codec.Unframe(both)
	if string(a) != "one" || n != 11 || err != api.OK {
		t.Fatalf("first: %q %d %v", a, n, err)
	}
	b, m, err := codec.Unframe(both[n:])
	if string(b) != "second" || n+m != len(both) || err != api.OK {
		t.Fatalf("second: %q %d %v", b, m, err)
	}
}

func TestUnframeOrderOfErrors(t *testing.T) {
	good := codec.Frame([]byte("abc"))
	badSum := bytes.Clone(good)
	badSum[len(badSum)-1] ^= 1
	greatest := join([]byte{0xc5}, lowest(api.MaxFrame, 3))
	above := join([]byte{0xc5}, lowest(api.MaxFrame+1, 3))
	for _, c := range []struct {
		name string
		b    []byte
		want api.Errno
	}{
		{"nil", nil, api.ErrAgain},
		{"empty", []byte{}, api.ErrAgain},
		{"no mark, short", []byte{0xc4}, api.ErrCorrupt},
		{"no mark, count above", []byte{0, 0xff, 0xff, 0xff}, api.ErrCorrupt},
		{"no mark, whole", append([]byte{0xc6}, good[1:]...), api.ErrCorrupt},
		{"mark behind another byte", join([]byte{0}, good), api.ErrCorrupt},
		{"mark alone", []byte{0xc5}, api.ErrAgain},
		{"two bytes", []byte{0xc5, 0xff}, api.ErrAgain},
		{"three bytes", []byte{0xc5, 0xff, 0xff}, api.ErrAgain},
		{"count at the end", []byte{0xc5, 0xff, 0xff, 0xff}, api.ErrRange},
		{"count one above, no content", above, api.ErrRange},
		{"count one above, all there", join(above, make([]byte, api.MaxFrame+5)), api.ErrRange},
		{"greatest count, no content", greatest, api.ErrAgain},
		{"greatest count, one byte short", join(greatest, make([]byte, api.MaxFrame+3)), api.ErrAgain},
		{"greatest count, wrong sum", join(greatest, make([]byte, api.MaxFrame+4)), api.ErrCorrupt},
		{"count without sum", []byte{0xc5, 0, 0, 0}, api.ErrAgain},
		{"wrong sum, one byte short", []byte{0xc5, 0, 0, 0, 1, 2, 3}, api.ErrAgain},
		{"wrong sum of nothing", []byte{0xc5, 0, 0, 0, 1, 2, 3, 4}, api.ErrCorrupt},
		{"wrong sum", badSum, api.ErrCorrupt},
		{"wrong sum, more behind", join(badSum, good), api.ErrCorrupt},
	} {
		got, n, err := codec.Unframe(c.b)
		if err != c.want || n != 0 || len(got) != 0 {
			t.Errorf("%s: %d bytes, %d, %v, want none, 0, %v", c.name, len(got), n, err, c.want)
		}
	}
}

func TestTurnedBitIsCorrupt(t *testing.T) {
	for _, n := range []int{0, 1, 3, 40, 300} {
		f := codec.Frame(rising(n))
		for i := 4 * 8; i < len(f)*8; i++ {
			f[i/8] ^= 1 << (i % 8)
			got, size, err := codec.Unframe(f)
			if err != api.ErrCorrupt || size != 0 || len(got) != 0 {
				t.Errorf("frame of %d bytes, bit %d: %v %d %v", n, i, got, size, err)
			}
			f[i/8] ^= 1 << (i % 8)
		}
	}
}

func TestBeginningsOfFrameWantMore(t *testing.T) {
	for _, n := range []int{0, 1, 3, 300} {
		f := codec.Frame(rising(n))
		for i := range f {
			got, size, err := codec.Unframe(f[:i])
			if err != api.ErrAgain || size != 0 || len(got) != 0 {
				t.Errorf("%d bytes of the frame of %d: %v %d %v", i, n, got, size, err)
			}
		}
	}
}

func TestFrameMemory(t *testing.T) {
	whole := rising(20)
	before := bytes.Clone(whole)
	f := codec.Frame(whole[:5])
	for i := range f {
		f[i]++
	}
	_ = append(f, 1, 2, 3)
	if !bytes.Equal(whole, before) {
		t.Errorf("Frame's argument or the room behind it was changed")
	}

	whole = append(codec.Frame([]byte("abcde")), 9, 9, 9)
	before = bytes.Clone(whole)
	got, _, _ := codec.Unframe(whole)
	got[0]++
	_ = append(got, 1, 2, 3, 4, 5)
	if !bytes.Equal(whole, before) {
		t.Errorf("Unframe's answer shares its argument's memory")
	}
}
