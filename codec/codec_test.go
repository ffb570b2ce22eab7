package codec_test

import (
	"bytes"
	"math"
	"strconv"
	"strings"
	"testing"

	"corbel/codec"
)

// edges: numbers at and beside the ends of each count of bytes, and of uint64.
func edges() []uint64 {
	out := []uint64{0, 1, 2, 126, 127, 300, 1 << 63, math.MaxInt64, math.MaxUint64 - 1, math.MaxUint64}
	for k := 1; k < 64; k++ {
		p := uint64(1) << k
		out = append(out, p-1, p, p+1)
	}
	return out
}

// shape: a number in k + 1 bytes, whether or not it could stand in fewer, spelt out bit by bit as the chapter tells it.
func shape(u uint64, k int) []byte {
	digits := strconv.FormatUint(u, 2)
	head := strings.Repeat("1", k)
	width := 64
	if k < 8 {
		head += "0"
		width = 7 * (k + 1)
	}
	text := head + strings.Repeat("0", width-len(digits)) + digits
	var out []byte
	for i := 0; i < len(text); i += 8 {
		x, _ := strconv.ParseUint(text[i:i+8], 2, 8)
		out = append(out, byte(x))
	}
	return out
}

// bytesBehind: how many bytes a number has behind its first one.
func bytesBehind(u uint64) int {
	for k := range 8 {
		if u < 1<<(7*(k+1)) {
			return k
		}
	}
	return 8
}

func TestZigTurnsLeft(t *testing.T) {
	for _, c := range []struct {
		n    int
		want uint64
	}{
		{0, 0},
		{1, 2},
		{2, 4},
		{300, 600},
		{-1, math.MaxUint64},
		{-2, math.MaxUint64 - 2},
		{math.MaxInt, math.MaxUint64 - 1},
		{math.MinInt, 1},
		{math.MinInt + 1, 3},
	} {
		if got := codec.Zig(c.n); got != c.want {
			t.Errorf("Zig(%d) = %d, want %d", c.n, got, c.want)
		}
	}
}

func TestZagUndoesZig(t *testing.T) {
	for _, u := range edges() {
		if got := codec.Zag(codec.Zig(int(u))); got != int(u) {
			t.Errorf("Zag(Zig(%d)) = %d", int(u), got)
		}
		if got := codec.Zig(codec.Zag(u)); got != u {
			t.Errorf("Zig(Zag(%d)) = %d", u, got)
		}
	}
}

func TestPutKnown(t *testing.T) {
	for _, c := range []struct {
		u    uint64
		want []byte
	}{
		{0, []byte{0}},
		{127, []byte{127}},
		{128, []byte{0x80, 0x80}},
		{300, []byte{129, 44}},
		{1<<14 - 1, []byte{0xbf, 0xff}},
		{1 << 14, []byte{0xc0, 0x40, 0x00}},
		{1<<49 - 1, []byte{0xfd, 0xff, 0xff, 0xff, 0xff, 0xff, 0xff}},
		{1 << 49, []byte{0xfe, 0x02, 0, 0, 0, 0, 0, 0}},
		{1<<56 - 1, []byte{0xfe, 0xff, 0xff, 0xff, 0xff, 0xff, 0xff, 0xff}},
		{1 << 56, []byte{0xff, 0x01, 0, 0, 0, 0, 0, 0, 0}},
		{math.MaxUint64, bytes.Repeat([]byte{0xff}, 9)},
	} {
		if got := codec.Put(nil, c.u); !bytes.Equal(got, c.want) {
			t.Errorf("Put(nil, %d) = %v, want %v", c.u, got, c.want)
		}
	}
}

func TestPutStandsBehindBytes(t *testing.T) {
	for _, u := range edges() {
		want := shape(u, bytesBehind(u))
		for _, ahead := range [][]byte{nil, {}, {0xff}, {1, 2, 3}} {
			if got := codec.Put(ahead, u); !bytes.Equal(got, join(ahead, want)) {
				t.Errorf("Put(%v, %d) = %v, want %v behind", ahead, u, got, want)
			}
		}
	}
}

func TestGetUndoesPut(t *testing.T) {
	for _, u := range edges() {
		b := codec.Put(nil, u)
		for _, behind := range [][]byte{nil, {0}, {0xff, 0xff}, rising(12)} {
			if got, n := codec.Get(join(b, behind)); got != u || n != len(b) {
				t.Errorf("Get of Put(%d) = %d, %d", u, got, n)
			}
		}
		for i := range b {
			if got, n := codec.Get(b[:i]); got != 0 || n != 0 {
				t.Errorf("Get of %d bytes of Put(%d) = %d, %d", i, u, got, n)
			}
		}
	}
}

func TestGetRefusesLongForms(t *testing.T) {
	for _, u := range edges() {
		for k := bytesBehind(u) + 1; k <= 8; k++ {
			b := shape(u, k)
			if got, n := codec.Get(append(b, 0, 0)); got != 0 || n != 0 {
				t.Errorf("Get(%v) = %d, %d: %d could stand in fewer", b, got, n, u)
			}
		}
	}
}

func TestGetOfAllShortBytes(t *testing.T) {
	if u, n := codec.Get(nil); u != 0 || n != 0 {
		t.Errorf("Get(nil) = %d, %d", u, n)
	}
	forms := map[string]uint64{}
	for u := range uint64(1 << 14) {
		forms[string(codec.Put(nil, u))] = u
	}
	for i := range 1 << 16 {
		b := []byte{byte(i >> 8), byte(i)}
		for size := 1; size <= 2; size++ {
			want, wide := forms[string(b[:1])], 1
			if _, ok := forms[string(b[:1])]; !ok {
				want, wide = forms[string(b[:size])], size
				if _, ok := forms[string(b[:size])]; !ok {
					wide = 0
				}
			}
			if u, n := codec.Get(b[:size]); u != want || n != wide {
				t.Fatalf("Get(%v) = %d, %d, want %d, %d", b[:size], u, n, want, wide)
			}
		}
	}
}

func TestTexts(t *testing.T) {
	if got := codec.PutText(nil, "ab"); !bytes.Equal(got, []byte{2, 'a', 'b'}) {
		t.Errorf("PutText(nil, ab) = %v", got)
	}
	texts := []string{"", "a", "ab", "\x00", "\xff\xfe", "grüße", "T"}
	for _, n := range []int{126, 127, 128, 129, 1<<14 - 1, 1 << 14, 1 << 20} {
		texts = append(texts, string(rising(n)))
	}
	for _, s := range texts {
		want := join(codec.Put(nil, uint64(len(s))), []byte(s))
		for _, ahead := range [][]byte{nil, {}, {0xff}, {1, 2, 3}} {
			if got := codec.PutText(ahead, s); !bytes.Equal(got, join(ahead, want)) {
				t.Errorf("PutText of %d bytes behind %v is not its count and its bytes", len(s), ahead)
			}
		}
		for _, behind := range [][]byte{nil, {0}, rising(12)} {
			if got, n := codec.GetText(join(want, behind)); got != s || n != len(want) {
				t.Errorf("GetText of %d bytes: %d bytes, %d", len(s), len(got), n)
			}
		}
	}
}

func TestTextsThatEndTooEarly(t *testing.T) {
	for _, s := range []string{"", "a", "abc", string(rising(128)), string(rising(300))} {
		b := codec.PutText(nil, s)
		for i := range b {
			if got, n := codec.GetText(b[:i]); got != "" || n != 0 {
				t.Errorf("GetText of %d bytes of %d = %q, %d", i, len(b), got, n)
			}
		}
	}
	for _, u := range []uint64{4, 1 << 31, 1 << 32, 1 << 62, math.MaxInt64 - 1, math.MaxInt64, 1 << 63, math.MaxUint64 - 8, math.MaxUint64} {
		if got, n := codec.GetText(append(codec.Put(nil, u), "abc"...)); got != "" || n != 0 {
			t.Errorf("GetText with count %d = %q, %d", u, got, n)
		}
	}
}

func TestTextWithLongCount(t *testing.T) {
	for k := 1; k <= 8; k++ {
		if got, n := codec.GetText(append(shape(2, k), "abcdef"...)); got != "" || n != 0 {
			t.Errorf("GetText with a count of %d bytes = %q, %d", k+1, got, n)
		}
	}
}

func TestBools(t *testing.T) {
	for _, ahead := range [][]byte{nil, {}, {0xff}, {1, 2, 3}} {
		if got := codec.PutBool(ahead, true); !bytes.Equal(got, join(ahead, []byte{84})) {
			t.Errorf("PutBool(%v, true) = %v", ahead, got)
		}
		if got := codec.PutBool(ahead, false); !bytes.Equal(got, join(ahead, []byte{70})) {
			t.Errorf("PutBool(%v, false) = %v", ahead, got)
		}
	}
	if is, n := codec.GetBool(nil); is || n != 0 {
		t.Errorf("GetBool(nil) = %v, %d", is, n)
	}
	for i := range 256 {
		want := 0
		if i == 84 || i == 70 {
			want = 1
		}
		for _, b := range [][]byte{{byte(i)}, {byte(i), 84}, {byte(i), 70}} {
			if is, n := codec.GetBool(b); is != (i == 84) || n != want {
				t.Errorf("GetBool(%v) = %v, %d", b, is, n)
			}
		}
	}
}

func TestPutMemory(t *testing.T) {
	for name, put := range map[string]func([]byte) []byte{
		"Put":     func(b []byte) []byte { return codec.Put(b, math.MaxUint64) },
		"PutText": func(b []byte) []byte { return codec.PutText(b, "abc") },
		"PutBool": func(b []byte) []byte { return codec.PutBool(b, true) },
	} {
		whole := rising(40)
		before := bytes.Clone(whole)
		first := put(whole[:5])
		want := bytes.Clone(first)
		second := put(whole[:5])
		for i := range second {
			second[i]++
		}
		_ = append(second, rising(20)...)
		if !bytes.Equal(whole, before) {
			t.Errorf("%s: the argument or the room behind it was changed", name)
		}
		if !bytes.Equal(first, want) {
			t.Errorf("%s: two answers share memory", name)
		}
		whole[0]++
		if !bytes.Equal(first, want) {
			t.Errorf("%s: the answer shares the argument's memory", name)
		}
	}
}

func TestGetTextMemory(t *testing.T) {
	b := []byte{2, 'a', 'b'}
	s, _ := codec.GetText(b)
	b[1] = 'x'
	if s != "ab" {
		t.Errorf("GetText's answer changed with its argument: %q", s)
	}
}
