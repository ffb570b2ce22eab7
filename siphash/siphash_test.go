package siphash_test

import (
	"math"
	"math/bits"
	"strings"
	"testing"

	"corbel/siphash"
)

const allOnes = math.MaxUint64

// paperKey: the key of the chapter's example.
var paperKey = siphash.Key{K0: 0x0706050403020100, K1: 0x0f0e0d0c0b0a0908}

// rising: the bytes from first on, n of them.
func rising(first, n int) string {
	b := make([]byte, n)
	for i := range b {
		b[i] = byte(first + i)
	}
	return string(b)
}

// known: what SipHash-2-4 makes of the bytes 0 to n - 1 with paperKey, by an implementation that is not this one.
var known = [64]uint64{
	0x726fdb47dd0e0e31, 0x74f839c593dc67fd, 0x0d6c8009d9a94f5a, 0x85676696d7fb7e2d,
	0xcf2794e0277187b7, 0x18765564cd99a68d, 0xcbc9466e58fee3ce, 0xab0200f58b01d137,
	0x93f5f5799a932462, 0x9e0082df0ba9e4b0, 0x7a5dbbc594ddb9f3, 0xf4b32f46226bada7,
	0x751e8fbc860ee5fb, 0x14ea5627c0843d90, 0xf723ca908e7af2ee, 0xa129ca6149be45e5,
	0x3f2acc7f57c29bdb, 0x699ae9f52cbe4794, 0x4bc1b3f0968dd39c, 0xbb6dc91da77961bd,
	0xbed65cf21aa2ee98, 0xd0f2cbb02e3b67c7, 0x93536795e3a33e88, 0xa80c038ccd5ccec8,
	0xb8ad50c6f649af94, 0xbce192de8a85b8ea, 0x17d835b85bbb15f3, 0x2f2e6163076bcfad,
	0xde4daaaca71dc9a5, 0xa6a2506687956571, 0xad87a3535c49ef28, 0x32d892fad841c342,
	0x7127512f72f27cce, 0xa7f32346f95978e3, 0x12e0b01abb051238, 0x15e034d40fa197ae,
	0x314dffbe0815a3b4, 0x027990f029623981, 0xcadcd4e59ef40c4d, 0x9abfd8766a33735c,
	0x0e3ea96b5304a7d0, 0xad0c42d6fc585992, 0x187306c89bc215a9, 0xd4a60abcf3792b95,
	0xf935451de4f21df2, 0xa9538f0419755787, 0xdb9acddff56ca510, 0xd06c98cd5c0975eb,
	0xe612a3cb9ecba951, 0xc766e62cfcadaf96, 0xee64435a9752fe72, 0xa192d576b245165a,
	0x0a8787bf8ecb74b2, 0x81b3e73d20b49b6f, 0x7fa8220ba3b2ecea, 0x245731c13ca42499,
	0xb78dbfaf3a8d83bd, 0xea1ad565322a1a0b, 0x60e61c23a3795013, 0x6606d7e446282b93,
	0x6ca4ecb15c5f91e1, 0x9f626da15c9625f3, 0xe51b38608ef25f57, 0x958a324ceb064572,
}

func TestSumOfRisingBytes(t *testing.T) {
	for n, want := range known {
		if got := siphash.Sum(paperKey, rising(0, n)); got != want {
			t.Errorf("%d bytes: %016x, want %016x", n, got, want)
		}
	}
}

func TestSumOfExample(t *testing.T) {
	if got := siphash.Sum(paperKey, rising(0, 15)); got != 0xa129ca6149be45e5 {
		t.Errorf("%016x", got)
	}
}

// TestSumOfEdges: keys at their ends, bytes above 127, counts at and beside a block's end, and counts that do not fit in a byte.
func TestSumOfEdges(t *testing.T) {
	high := func(n int) string { return strings.Repeat("\xff", n) }
	as := func(n int) string { return strings.Repeat("a", n) }
	for _, c := range []struct {
		key  siphash.Key
		text string
		want uint64
	}{
		{siphash.Key{}, "", 0x1e924b9d737700d7},
		{siphash.Key{}, "key", 0x6a3ab4165861bf49},
		{siphash.Key{}, "\x00\x00\x00\x00\x00\x00\x00\x00", 0xe849e8bb6ffe2567},
		{siphash.Key{}, high(7), 0x2e029c0a4c8f48e3},
		{siphash.Key{}, high(8), 0x8050c18b6ac9d15e},
		{siphash.Key{}, high(9), 0xbe29d70ddcf7e35d},
		{siphash.Key{}, high(16), 0x76ce753d660f2d94},
		{siphash.Key{}, as(256), 0xa6c9b9ba3f5b0672},

		{siphash.Key{K0: allOnes, K1: allOnes}, "", 0x35dd279ee86ce565},
		{siphash.Key{K0: allOnes, K1: allOnes}, "key", 0xa70edb29e3e2c5c5},
		{siphash.Key{K0: allOnes, K1: allOnes}, high(7), 0x7008818ecf918e11},
		{siphash.Key{K0: allOnes, K1: allOnes}, high(8), 0xf13e77491777f9d0},
		{siphash.Key{K0: allOnes, K1: allOnes}, high(9), 0x1b8d0792b6620321},
		{siphash.Key{K0: allOnes, K1: allOnes}, high(16), 0x1a27dd859ed29a2e},
		{siphash.Key{K0: allOnes, K1: allOnes}, as(512), 0x047ef6480f8ac4ec},

		{siphash.Key{K0: allOnes}, "", 0xa4e3fdab06a40925},
		{siphash.Key{K1: allOnes}, "", 0x4d0617e48cf8737b},
		{siphash.Key{K0: 1 << 63, K1: 1}, "key", 0x98f414ed404e3cff},

		{paperKey, high(7), 0x00ac323c9a55b1dc},
		{paperKey, high(8), 0x2a68ff30a3d9da34},
		{paperKey, high(9), 0x30f4333b0ba8a712},
		{paperKey, high(16), 0xa06ef3ea6d6b622e},
		{paperKey, rising(128, 16), 0x56454613a3f0f8ce},
		{paperKey, "\u00e9\u20ac", 0x8ccc2427dda9030f},
		{paperKey, as(255), 0xe987ca4ff9f8404d},
		{paperKey, as(256), 0x03413138de48340e},
		{paperKey, as(257), 0xa5d0d8d2d9378001},
		{paperKey, as(263), 0x7b15637e5e7bff01},
		{paperKey, as(264), 0xfb41136afaa1c586},
		{paperKey, as(512), 0x9cb7322fb06c14a2},
		{paperKey, as(100000), 0xc007f59a8f598a58},
	} {
		if got := siphash.Sum(c.key, c.text); got != c.want {
			t.Errorf("key %x, %d bytes: %016x, want %016x", c.key, len(c.text), got, c.want)
		}
	}
}

// sumByWords: the chapter's P2.2 on a padded list of blocks, so that the last one is no case of its own.
func sumByWords(k siphash.Key, s string) uint64 {
	padded := s + strings.Repeat("\x00", 7-len(s)%8) + string([]byte{byte(len(s) % 256)})
	v0, v1 := k.K0^0x736f6d6570736575, k.K1^0x646f72616e646f6d
	v2, v3 := k.K0^0x6c7967656e657261, k.K1^0x7465646279746573
	round := func() { v0, v1, v2, v3 = roundByWords(v0, v1, v2, v3) }
	for i := 0; i < len(padded); i += 8 {
		m := uint64(0)
		for j := 7; j >= 0; j-- {
			m = m*256 + uint64(padded[i+j])
		}
		v3 ^= m
		round()
		round()
		v0 ^= m
	}
	v2 ^= 255
	round()
	round()
	round()
	round()
	return v0 ^ v1 ^ v2 ^ v3
}

// roundByWords: the chapter's P2.1, word by word.
func roundByWords(v0, v1, v2, v3 uint64) (uint64, uint64, uint64, uint64) {
	v0 = v0 + v1
	v1 = v1<<13 | v1>>51
	v1 = v1 ^ v0
	v0 = v0<<32 | v0>>32
	v2 = v2 + v3
	v3 = v3<<16 | v3>>48
	v3 = v3 ^ v2
	v0 = v0 + v3
	v3 = v3<<21 | v3>>43
	v3 = v3 ^ v0
	v2 = v2 + v1
	v1 = v1<<17 | v1>>47
	v1 = v1 ^ v2
	v2 = v2<<32 | v2>>32
	return v0, v1, v2, v3
}

// dice: a row of numbers that looks like chance and is the same each time.
func dice() func() uint64 {
	x := uint64(1)
	return func() uint64 {
		x ^= x << 13
		x ^= x >> 7
		x ^= x << 17
		return x
	}
}

func TestSumByWords(t *testing.T) {
	next := dice()
	for n := range 600 {
		b := make([]byte, n)
		for i := range b {
			b[i] = byte(next() >> 32)
		}
		key, text := siphash.Key{K0: next(), K1: next()}, string(b)
		got, want := siphash.Sum(key, text), sumByWords(key, text)
		if got != want {
			t.Fatalf("key %x, %q: %016x, want %016x", key, text, got, want)
		}
		if again := siphash.Sum(key, text); again != got {
			t.Fatalf("key %x, %q: %016x, then %016x", key, text, got, again)
		}
	}
}

// states: some at their ends, one bit each, and many of chance.
func states() [][4]uint64 {
	out := [][4]uint64{
		{},
		{allOnes, allOnes, allOnes, allOnes},
		{1, 2, 3, 4},
		{1 << 63, 1 << 63, 1 << 63, 1 << 63},
		{0x8000000080000000, 0x7fffffff7fffffff, 1, allOnes},
	}
	for i := range 256 {
		var bit, gap [4]uint64
		bit[i/64] = 1 << (i % 64)
		for j := range gap {
			gap[j] = ^bit[j]
		}
		out = append(out, bit, gap)
	}
	next := dice()
	for range 3000 {
		out = append(out, [4]uint64{next(), next(), next(), next()})
	}
	return out
}

func TestRoundByWords(t *testing.T) {
	for _, v := range states() {
		var want [4]uint64
		want[0], want[1], want[2], want[3] = roundByWords(v[0], v[1], v[2], v[3])
		if got := siphash.Round(v); got != want {
			t.Fatalf("Round(%x): %x, want %x", v, got, want)
		}
	}
}

// TestRoundTwice: the state behind the first block of the chapter's example, as SipHash's authors tell it.
func TestRoundTwice(t *testing.T) {
	v := [4]uint64{0x7469686173716475, 0x6b617f6d656e6665, 0x6b7f62616d677361, 0x7c6d6c6a717c6d7b}
	want := [4]uint64{0x4d07749cdd0858e0, 0x0d52f6f62a4f59a4, 0x634cb3577b01fd3d, 0xa5224d6f55c7d9c8}
	if got := siphash.Round(siphash.Round(v)); got != want {
		t.Errorf("%x, want %x", got, want)
	}
}

func TestRoundLeavesItsArgument(t *testing.T) {
	v := [4]uint64{1, 2, 3, 4}
	siphash.Round(v)
	if v != [4]uint64{1, 2, 3, 4} {
		t.Errorf("%x", v)
	}
}

// back: the state ahead of a round, its steps undone from the last to the first.
func back(v [4]uint64) [4]uint64 {
	v[2] = bits.RotateLeft64(v[2], -32)
	v[1] = bits.RotateLeft64(v[1]^v[2], -17)
	v[2] -= v[1]
	v[3] = bits.RotateLeft64(v[3]^v[0], -21)
	v[0] -= v[3]
	v[3] = bits.RotateLeft64(v[3]^v[2], -16)
	v[2] -= v[3]
	v[0] = bits.RotateLeft64(v[0], -32)
	v[1] = bits.RotateLeft64(v[1]^v[0], -13)
	v[0] -= v[1]
	return v
}

// TestRoundCanBeUndone: what can be undone took no two states to one.
func TestRoundCanBeUndone(t *testing.T) {
	for _, v := range states() {
		if got := back(siphash.Round(v)); got != v {
			t.Fatalf("Round(%x) undone: %x", v, got)
		}
		if got := siphash.Round(back(v)); got != v {
			t.Fatalf("Round of %x undone: %x", v, got)
		}
	}
}

func TestUnlikeStatesStayUnlike(t *testing.T) {
	from := map[[4]uint64][4]uint64{}
	for _, v := range states() {
		w := siphash.Round(v)
		if other, ok := from[w]; ok && other != v {
			t.Fatalf("%x and %x both come to %x", other, v, w)
		}
		from[w] = v
	}
}

func TestSplit(t *testing.T) {
	for _, c := range []struct {
		h, where uint64
		what     byte
	}{
		{0, 0, 0},
		{1, 0, 1},
		{127, 0, 127},
		{128, 1, 0},
		{255, 1, 127},
		{256, 2, 0},
		{0x0123456789abcdef, 0x0002468acf13579b, 0x6f},
		{1 << 63, 1 << 56, 0},
		{math.MaxInt64, 1<<56 - 1, 127},
		{allOnes, 1<<57 - 1, 127},
	} {
		where, what := siphash.Split(c.h)
		if where != c.where || what != c.what {
			t.Errorf("Split(%#x): %#x, %d, want %#x, %d", c.h, where, what, c.where, c.what)
		}
	}
}

// TestSplitLosesNothing: the two parts hold the whole hash.
func TestSplitLosesNothing(t *testing.T) {
	next := dice()
	for range 2000 {
		h := next()
		where, what := siphash.Split(h)
		if what > 127 || where > allOnes>>7 || where<<7|uint64(what) != h {
			t.Fatalf("Split(%#x): %#x, %d", h, where, what)
		}
	}
}
