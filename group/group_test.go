package group_test

import (
	"math"
	"testing"

	"corbel/group"
)

const allOnes = math.MaxUint64

// word: eight bytes, slot 0's first.
type word [8]byte

// packed: the word of these bytes, by arithmetic alone.
func packed(b word) uint64 {
	w := uint64(0)
	for i := 7; i >= 0; i-- {
		w = w*256 + uint64(b[i])
	}
	return w
}

// where: the set of slots whose byte is so.
func where(b word, so func(byte) bool) uint8 {
	set, bit := 0, 1
	for _, c := range b {
		if so(c) {
			set += bit
		}
		bit *= 2
	}
	return uint8(set)
}

func isEmpty(c byte) bool { return c == 128 }
func isFree(c byte) bool  { return c == 128 || c == 254 }
func isFull(c byte) bool  { return c < 128 }

// rows: words at their ends, and words whose bytes lie close to one another.
func rows() []word {
	return []word{
		{},
		{255, 255, 255, 255, 255, 255, 255, 255},
		{128, 128, 128, 128, 128, 128, 128, 128},
		{254, 254, 254, 254, 254, 254, 254, 254},
		{127, 127, 127, 127, 127, 127, 127, 127},
		{0, 1, 2, 3, 4, 5, 6, 7},
		{0, 1, 0, 1, 1, 0, 0, 1},
		{1, 0, 0, 0, 0, 0, 0, 0},
		{0, 0, 0, 0, 0, 0, 0, 1},
		{127, 128, 129, 253, 254, 255, 0, 1},
		{128, 129, 128, 129, 127, 128, 126, 128},
		{254, 255, 254, 253, 254, 126, 254, 222},
		{129, 130, 192, 208, 250, 252, 253, 255},
		{5, 4, 5, 6, 5, 133, 5, 37},
		{128, 0, 128, 0, 254, 127, 254, 127},
		{255, 0, 255, 0, 255, 0, 255, 0},
		{1, 128, 255, 127, 254, 64, 2, 253},
	}
}

// many: rows, and words of bytes by a rule.
func many() []word {
	all := rows()
	x := uint64(88172645463325252)
	for range 2000 {
		var b word
		for i := range b {
			x ^= x << 13
			x ^= x >> 7
			x ^= x << 17
			b[i] = byte(x >> 32)
			if x>>50%3 == 0 { // so that bytes meet bytes that are close to them
				b[i] = []byte{0, 1, 127, 128, 129, 253, 254, 255}[x>>40%8]
			}
		}
		all = append(all, b)
	}
	return all
}

// slots: numbers of slots, below 0 and above 7 too, and the slot of 0 to 7 that each one is.
var slots = []struct{ i, slot int }{
	{0, 0}, {1, 1}, {2, 2}, {3, 3}, {4, 4}, {5, 5}, {6, 6}, {7, 7},
	{8, 0}, {9, 1}, {15, 7}, {16, 0}, {64, 0}, {67, 3}, {1000003, 3},
	{-1, 7}, {-2, 6}, {-7, 1}, {-8, 0}, {-9, 7}, {-13, 3}, {-64, 0}, {-65, 7},
	{math.MaxInt, 7}, {math.MaxInt - 1, 6}, {math.MinInt, 0}, {math.MinInt + 1, 1},
	{math.MaxInt32, 7}, {math.MinInt32, 0}, {1 << 32, 0}, {1<<32 + 5, 5}, {-1 << 33, 0}, {-1<<33 - 1, 7},
}

func TestNames(t *testing.T) {
	if group.Empty != 128 || group.Deleted != 254 {
		t.Errorf("Empty %d, Deleted %d", group.Empty, group.Deleted)
	}
	if want := packed(word{128, 128, 128, 128, 128, 128, 128, 128}); uint64(group.None) != want {
		t.Errorf("None %x, want %x", uint64(group.None), want)
	}
}

func TestExample(t *testing.T) {
	w := group.Set(group.None, 2, 5)
	if got := group.Match(w, 5); got != 1<<2 {
		t.Errorf("Match %08b", got)
	}
	if got := group.Empties(w); got != 255-1<<2 {
		t.Errorf("Empties %08b", got)
	}
	if got := group.First(12); got != 2 {
		t.Errorf("First %d", got)
	}
	if got := group.Next(12); got != 8 {
		t.Errorf("Next %d", got)
	}
}

func TestGet(t *testing.T) {
	for _, b := range many() {
		w := packed(b)
		for _, s := range slots {
			if got := group.Get(w, s.i); got != b[s.slot] {
				t.Errorf("Get(%016x, %d): %d, want %d", w, s.i, got, b[s.slot])
			}
		}
	}
}

func TestSet(t *testing.T) {
	for _, b := range rows() {
		for _, s := range slots {
			for c := range 256 {
				changed := b
				changed[s.slot] = byte(c)
				if got := group.Set(packed(b), s.i, byte(c)); got != packed(changed) {
					t.Errorf("Set(%016x, %d, %d): %016x, want %016x", packed(b), s.i, c, got, packed(changed))
				}
			}
		}
	}
}

func TestMatch(t *testing.T) {
	for _, b := range many() {
		for h := range 256 {
			want := where(b, func(c byte) bool { return int(c) == h })
			if got := group.Match(packed(b), byte(h)); got != want {
				t.Errorf("Match(%016x, %d): %08b, want %08b", packed(b), h, got, want)
			}
		}
	}
}

// TestMatchBesideOthers: the byte that is looked for stands in each set of slots, and all other slots have one that is close to it.
func TestMatchBesideOthers(t *testing.T) {
	for h := range 256 {
		close := []byte{byte(h + 1), byte(h - 1)}
		for bit := range 8 {
			close = append(close, byte(h^1<<bit))
		}
		for _, other := range close {
			for set := range 256 {
				var b word
				for i := range b {
					b[i] = other
					if set>>i&1 == 1 {
						b[i] = byte(h)
					}
				}
				if got := group.Match(packed(b), byte(h)); int(got) != set {
					t.Fatalf("Match(%016x, %d): %08b, want %08b", packed(b), h, got, set)
				}
			}
		}
	}
}

func TestKindsOfSlots(t *testing.T) {
	for _, b := range many() {
		w := packed(b)
		if got, want := group.Empties(w), where(b, isEmpty); got != want {
			t.Errorf("Empties(%016x): %08b, want %08b", w, got, want)
		}
		if got, want := group.Free(w), where(b, isFree); got != want {
			t.Errorf("Free(%016x): %08b, want %08b", w, got, want)
		}
		if got, want := group.Full(w), where(b, isFull); got != want {
			t.Errorf("Full(%016x): %08b, want %08b", w, got, want)
		}
	}
}

// TestKindOfEachByte: every byte in every slot, among empty slots, deleted ones, full ones, and such as are neither.
func TestKindOfEachByte(t *testing.T) {
	for _, other := range []byte{128, 254, 0, 127, 129, 255} {
		for i := range 8 {
			for c := range 256 {
				b := word{other, other, other, other, other, other, other, other}
				b[i] = byte(c)
				w := packed(b)
				if group.Empties(w) != where(b, isEmpty) || group.Free(w) != where(b, isFree) || group.Full(w) != where(b, isFull) {
					t.Errorf("%016x: Empties %08b, Free %08b, Full %08b", w, group.Empties(w), group.Free(w), group.Full(w))
				}
			}
		}
	}
}

// TestWordsAtTheirEnds: words of all noughts, of all ones, and None.
func TestWordsAtTheirEnds(t *testing.T) {
	for _, row := range []struct {
		w                    uint64
		nought, ones         uint8
		empties, free, fulls uint8
	}{
		{0, 255, 0, 0, 0, 255},
		{allOnes, 0, 255, 0, 0, 0},
		{group.None, 0, 0, 255, 255, 0},
	} {
		got := []uint8{group.Match(row.w, 0), group.Match(row.w, 255), group.Empties(row.w), group.Free(row.w), group.Full(row.w)}
		want := []uint8{row.nought, row.ones, row.empties, row.free, row.fulls}
		if string(got) != string(want) {
			t.Errorf("%016x: %d, want %d", row.w, got, want)
		}
	}
}

// TestSets: all 256 of them, the empty one and the full one too.
func TestSets(t *testing.T) {
	for set := range 256 {
		first, count, rest := 8, 0, 0
		for i := range 8 {
			if set>>i&1 == 0 {
				continue
			}
			count++
			if count == 1 {
				first = i
			} else {
				rest |= 1 << i
			}
		}
		s := uint8(set)
		if group.First(s) != first || int(group.Next(s)) != rest || group.Count(s) != count {
			t.Errorf("%08b: First %d, Next %08b, Count %d, want %d, %08b, %d", set, group.First(s), group.Next(s), group.Count(s), first, rest, count)
		}
	}
}

func TestEmptyAndFullSet(t *testing.T) {
	if group.First(0) != 8 || group.Next(0) != 0 || group.Count(0) != 0 {
		t.Errorf("empty: %d %d %d", group.First(0), group.Next(0), group.Count(0))
	}
	if group.First(255) != 0 || group.Next(255) != 254 || group.Count(255) != 8 {
		t.Errorf("full: %d %d %d", group.First(255), group.Next(255), group.Count(255))
	}
}

// TestGoingThroughASet: First and Next tell every slot, rising, and then no more.
func TestGoingThroughASet(t *testing.T) {
	for set := range 256 {
		again, last, steps := 0, -1, 0
		for s := uint8(set); group.First(s) != 8; s = group.Next(s) {
			slot := group.First(s)
			if slot <= last {
				t.Fatalf("%08b: slot %d behind %d", set, slot, last)
			}
			last = slot
			again |= 1 << slot
			steps++
		}
		if again != set || steps != group.Count(uint8(set)) {
			t.Errorf("%08b: %08b in %d steps", set, again, steps)
		}
	}
}

// TestSetSlotIsMatched: what P3.3 says of every slot, byte and kind of word.
func TestSetSlotIsMatched(t *testing.T) {
	for _, b := range rows() {
		before := packed(b)
		for _, s := range slots {
			for c := range 256 {
				w := group.Set(before, s.i, byte(c))
				if group.Match(w, byte(c))>>s.slot&1 != 1 || group.Get(w, s.i) != byte(c) {
					t.Errorf("Set(%016x, %d, %d) is not matched: %016x", before, s.i, c, w)
				}
				for i := range 8 {
					if i != s.slot && group.Get(w, i) != b[i] {
						t.Errorf("Set(%016x, %d, %d) changed slot %d: %016x", before, s.i, c, i, w)
					}
				}
				others := ^(uint8(1) << s.slot)
				for h := range 256 {
					if (group.Match(w, byte(h))^group.Match(before, byte(h)))&others != 0 {
						t.Errorf("Set(%016x, %d, %d) changed what %d matches: %016x", before, s.i, c, h, w)
					}
				}
			}
		}
	}
}
