package codec_test

import (
	"bytes"
	"math"
	"testing"

	"corbel/codec"
)

// calls: those of a reader that take something, each telling whether it answered the zero value.
func calls(r *codec.Reader) map[string]func() bool {
	return map[string]func() bool{
		"Num":   isZero(r.Num),
		"Int":   isZero(r.Int),
		"Text":  isZero(r.Text),
		"Bool":  isZero(r.Bool),
		"Count": isZero(func() int { return r.Count(math.MaxInt) }),
	}
}

func isZero[T comparable](call func() T) func() bool {
	return func() bool {
		var zero T
		return call() == zero
	}
}

func TestReaderReadsInOrder(t *testing.T) {
	b := codec.Put(nil, 300)
	b = codec.PutText(b, "abc")
	b = codec.PutBool(b, true)
	b = codec.Put(b, codec.Zig(-70000))
	b = codec.PutBool(b, false)
	b = codec.Put(b, 5)
	b = codec.PutText(b, "")
	b = codec.Put(b, math.MaxUint64)
	before := bytes.Clone(b)
	r := &codec.Reader{B: b}
	num, text, is := r.Num, r.Text, r.Bool
	if num() != 300 || text() != "abc" || !is() || r.Int() != -70000 || is() || r.Count(5) != 5 || text() != "" {
		t.Errorf("something else was read")
	}
	if r.End() || len(r.B) != 9 {
		t.Errorf("ahead of the last number: End is %v, %d bytes are left", r.End(), len(r.B))
	}
	if num() != math.MaxUint64 || !r.End() || r.Wrong {
		t.Errorf("the last number: left %v, wrong %v", r.B, r.Wrong)
	}
	if !bytes.Equal(b, before) {
		t.Errorf("the bytes were changed")
	}
}

func TestReaderLosesWhatItTells(t *testing.T) {
	for _, c := range []struct {
		name string
		b    []byte
		left int
	}{
		{"Num", []byte{129, 44, 7, 8}, 2},
		{"Int", []byte{6, 7, 8}, 2},
		{"Text", []byte{2, 'a', 'b', 7}, 1},
		{"Bool", []byte{84, 7, 8, 9}, 3},
		{"Count", []byte{129, 44}, 0},
	} {
		r := &codec.Reader{B: c.b}
		if calls(r)[c.name]() || r.Wrong || !bytes.Equal(r.B, c.b[len(c.b)-c.left:]) {
			t.Errorf("%s of %v: left %v, wrong %v", c.name, c.b, r.B, r.Wrong)
		}
	}
}

func TestReaderInts(t *testing.T) {
	for _, n := range []int{0, 1, -1, 63, 64, -64, -65, math.MaxInt, math.MinInt} {
		r := &codec.Reader{B: codec.Put(nil, codec.Zig(n))}
		if got := r.Int(); got != n || !r.End() {
			t.Errorf("Int = %d, want %d; wrong %v", got, n, r.Wrong)
		}
	}
}

func TestReaderCount(t *testing.T) {
	for _, c := range []struct {
		u    uint64
		most int
		good bool
	}{
		{0, 0, true},
		{1, 0, false},
		{5, 5, true},
		{5, 6, true},
		{6, 5, false},
		{300, 299, false},
		{300, 300, true},
		{0, -1, false},
		{5, -1, false},
		{0, math.MinInt, false},
		{math.MaxUint64, -1, false},
		{1 << 63, math.MinInt, false},
		{math.MaxInt64 - 1, math.MaxInt, true},
		{math.MaxInt64, math.MaxInt, true},
		{1 << 63, math.MaxInt, false},
		{math.MaxUint64, math.MaxInt, false},
	} {
		r := &codec.Reader{B: append(codec.Put(nil, c.u), 1, 2, 3)}
		want, left := int(c.u), 3
		if !c.good {
			want, left = 0, 0
		}
		if got := r.Count(c.most); got != want || r.Wrong == c.good || len(r.B) != left {
			t.Errorf("Count(%d) of %d = %d; wrong %v, left %v", c.most, c.u, got, r.Wrong, r.B)
		}
	}
}

func TestReaderFindsNoSuchThing(t *testing.T) {
	for _, c := range []struct {
		name string
		b    []byte
	}{
		{"Num", nil},
		{"Num", []byte{129}},
		{"Num", []byte{0x80, 5, 1}},
		{"Int", nil},
		{"Int", []byte{0xff, 0, 0, 0, 0, 0, 0, 0, 1, 2}},
		{"Text", nil},
		{"Text", []byte{3, 'a', 'b'}},
		{"Text", []byte{0x80, 1, 'a'}},
		{"Bool", nil},
		{"Bool", []byte{'t', 'T'}},
		{"Bool", []byte{1, 'F'}},
		{"Count", nil},
		{"Count", []byte{0xc0, 1, 2}},
	} {
		r := &codec.Reader{B: c.b}
		if !calls(r)[c.name]() || !r.Wrong || len(r.B) != 0 || r.End() {
			t.Errorf("%s of %v: left %v, wrong %v", c.name, c.b, r.B, r.Wrong)
		}
	}
}

func TestReaderStaysWrong(t *testing.T) {
	good := map[string][]byte{
		"Num":   {5, 6},
		"Int":   {5, 6},
		"Text":  {1, 'a', 'b'},
		"Bool":  {'T', 'T'},
		"Count": {5, 6},
	}
	for name, b := range good {
		before := bytes.Clone(b)
		r := &codec.Reader{B: b, Wrong: true}
		if r.End() || len(r.B) != len(b) {
			t.Errorf("%s: End told or changed something behind a fault", name)
		}
		for range 2 {
			if !calls(r)[name]() || !r.Wrong || len(r.B) != 0 || r.End() {
				t.Errorf("%s behind a fault: left %v, wrong %v", name, r.B, r.Wrong)
			}
		}
		if !bytes.Equal(b, before) {
			t.Errorf("%s behind a fault changed the bytes", name)
		}
		r = &codec.Reader{B: []byte{0xff}}
		r.Num()
		r.B = b
		if !calls(r)[name]() || len(r.B) != 0 {
			t.Errorf("%s of other bytes behind a fault: left %v", name, r.B)
		}
	}
}

func TestReaderEnd(t *testing.T) {
	for _, c := range []struct {
		r    codec.Reader
		want bool
	}{
		{codec.Reader{}, true},
		{codec.Reader{B: []byte{}}, true},
		{codec.Reader{B: []byte{0}}, false},
		{codec.Reader{Wrong: true}, false},
		{codec.Reader{B: []byte{0}, Wrong: true}, false},
	} {
		r := c.r
		if r.End() != c.want || r.End() != c.want || r.Wrong != c.r.Wrong || len(r.B) != len(c.r.B) {
			t.Errorf("End of %v is %v, then it is %v", c.r, !c.want, r)
		}
	}
}

func TestNilReader(t *testing.T) {
	var r *codec.Reader
	for range 2 {
		for name, call := range calls(r) {
			if !call() {
				t.Errorf("%s of a nil Reader is not zero", name)
			}
		}
		if r.Count(0) != 0 || r.Count(-1) != 0 {
			t.Errorf("Count of a nil Reader is not zero")
		}
		if r.End() {
			t.Errorf("End of a nil Reader is true")
		}
	}
}

func TestEveryReadOfAnyBytesEnds(t *testing.T) {
	some := []byte{0, 1, 2, 70, 84, 127, 128, 129, 191, 192, 254, 255}
	for _, a := range some {
		for _, b := range some {
			for _, c := range some {
				for name := range calls(nil) {
					r := &codec.Reader{B: []byte{a, b, c}}
					call := calls(r)[name]
					steps := 0
					for ; !r.Wrong && steps < 5; steps++ {
						call()
					}
					if !r.Wrong || len(r.B) != 0 {
						t.Fatalf("%s of %v goes on behind its end: left %v", name, []byte{a, b, c}, r.B)
					}
				}
			}
		}
	}
}
