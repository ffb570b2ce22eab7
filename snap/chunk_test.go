package snap_test

import (
	"bytes"
	"math/rand"
	"slices"
	"testing"

	"corbel/api"
	"corbel/entry"
	"corbel/snap"
)

// joins: of these bytes; and it is as the chapter's words tell.
func joins(t *testing.T, what string, b []byte) bool {
	t.Helper()
	s, err := snap.Join(b)
	want, right := plainJoin(b)
	if right != (err == api.OK) || !right && err != api.ErrCorrupt || !same(s, want) {
		t.Fatalf("%s: Join: %s, %v, want %s, %t", what, show(s), err, show(want), right)
	}
	return right
}

// none: these bytes are no snapshot's.
func none(t *testing.T, what string, b []byte) {
	t.Helper()
	is(t, what, joins(t, what, b), false)
}

// TestChunksOfOne: byte by byte; the sums were worked out by another program.
func TestChunksOfOne(t *testing.T) {
	l := snap.Chunks(api.Snapshot{Index: 5, Term: 1, Conf: api.Conf{Voters: []int{1}}, Data: []byte("abc")})
	want := [][]byte{
		{197, 8, 0, 0, 10, 2, 9, 240, 251, 253, 35, 228, 75, 159, 134, 126},
		{197, 9, 0, 0, 10, 2, 1, 2, 0, 3, 97, 98, 99, 7, 171, 46, 164},
	}
	if !slices.EqualFunc(l, want, bytes.Equal) {
		t.Fatalf("Chunks: %d, want %d", l, want)
	}
}

// TestChunks: of good ones, with the count of chunks at the edges of their size; Join undoes it.
func TestChunks(t *testing.T) {
	for _, s := range goodSnaps(t) {
		l := snap.Chunks(s)
		if want := plainChunks(s); !slices.EqualFunc(l, want, bytes.Equal) {
			t.Fatalf("Chunks of %s: %s, want %s", show(s), show(l), show(want))
		}
		back, err := snap.Join(slices.Concat(l...))
		if err != api.OK || !same(back, s) {
			t.Fatalf("Join: %s, %v, want %s", show(back), err, show(s))
		}
	}
	for count, want := range map[int]int{4095: 2, 4096: 2, 4097: 3, 8192: 3, 8193: 4} {
		is(t, "how many chunks", len(snap.Chunks(ofBytes(t, 1, count))), want)
	}
}

// TestChunksOfNone: what is not good has none, and no bytes of such are joined.
func TestChunksOfNone(t *testing.T) {
	for _, s := range badSnaps() {
		if l := snap.Chunks(s); len(l) > 0 {
			t.Errorf("Chunks of %s: %s", show(s), show(l))
		}
		none(t, show(s), file(s))
	}
}

func TestJoinOfNothing(t *testing.T) {
	none(t, "nil", nil)
	none(t, "empty", []byte{})
	none(t, "an empty frame", framed(nil))
	none(t, "two empty frames", slices.Concat(framed(nil), framed(nil)))
	for x := range 256 {
		none(t, "a byte", []byte{byte(x)})
		none(t, "many bytes", bytes.Repeat([]byte{byte(x)}, 5000))
	}
}

// TestJoinOfBeginnings: and of what has more behind it, or ahead.
func TestJoinOfBeginnings(t *testing.T) {
	for _, s := range []api.Snapshot{of(5, 30), of(6, 5000)} {
		b := file(s)
		is(t, "whole", joins(t, "whole", b), true)
		for i := 0; i < len(b); i += 1 + i/200 {
			none(t, "a beginning", b[:i])
		}
		none(t, "without its last byte", b[:len(b)-1])
		for _, more := range [][]byte{{0}, {0xc5}, framed(nil), framed([]byte("x")), b, plainChunks(s)[0], plainChunks(s)[1]} {
			none(t, "more behind", slices.Concat(b, more))
			none(t, "more ahead", slices.Concat(more, b))
		}
	}
}

// TestJoinOfTurnedBits: each bit of a small one; of a greater one those beside the edges of chunks, and some others.
func TestJoinOfTurnedBits(t *testing.T) {
	for _, s := range []api.Snapshot{of(5, 0), of(5, 30)} {
		b := file(s)
		for i := range 8 * len(b) {
			turned(t, b, i)
		}
	}
	s := of(6, 9000)
	b, at := file(s), 0
	for _, chunk := range plainChunks(s) {
		for i := range 8 * min(20, len(chunk)) {
			turned(t, b, 8*at+i)
			turned(t, b, 8*(at+len(chunk))-1-i)
		}
		at += len(chunk)
	}
	for i := 0; i < 8*len(b); i += 101 {
		turned(t, b, i)
	}
}

// turned: with that bit of bytes turned they are none.
func turned(t *testing.T, b []byte, bit int) {
	t.Helper()
	b = slices.Clone(b)
	b[bit/8] ^= 1 << (bit % 8)
	none(t, "a bit is turned", b)
}

// TestJoinOfOtherHeads: frames that are whole, with a head that is not that of what follows.
func TestJoinOfOtherHeads(t *testing.T) {
	for _, s := range []api.Snapshot{of(5, 30), of(6, 9000)} {
		all := entry.SnapBytes(s)
		rest := slices.Concat(plainChunks(s)[1:]...)
		n, x := len(all), sum(all)
		with := func(parts ...[]byte) []byte { return slices.Concat(framed(slices.Concat(parts...)), rest) }
		is(t, "the right head", joins(t, "the right head", with(headed(s.Index, s.Term, n, x))), true)
		for what, head := range map[string][]byte{
			"no head":          nil,
			"another Index":    headed(s.Index+1, s.Term, n, x),
			"the Index's sign": headed(-s.Index, s.Term, n, x),
			"another Term":     headed(s.Index, s.Term-1, n, x),
			"Index and Term":   headed(s.Term, s.Index, n, x),
			"one more byte":    headed(s.Index, s.Term, n+1, x),
			"one byte less":    headed(s.Index, s.Term, n-1, x),
			"twice the count":  headed(s.Index, s.Term, 2*n, x),
			"another sum":      headed(s.Index, s.Term, n, x+1),
			"no sum's bits":    headed(s.Index, s.Term, n, ^x),
			"a sum of 0":       headed(s.Index, s.Term, n, 0),
			"a greater sum":    slices.Concat(signed(s.Index), signed(s.Term), unsigned(uint64(n)), unsigned(uint64(x)+1<<32)),
			"twice the sum":    slices.Concat(signed(s.Index), signed(s.Term), unsigned(uint64(n)), unsigned(2*uint64(x))),
			"no sum":           slices.Concat(signed(s.Index), signed(s.Term), unsigned(uint64(n))),
			"more in it":       slices.Concat(headed(s.Index, s.Term, n, x), []byte{0}),
			"a longer Index":   slices.Concat(inBytes(uint64(2*s.Index), 1), signed(s.Term), unsigned(uint64(n)), unsigned(uint64(x))),
			"a longer Term":    slices.Concat(signed(s.Index), inBytes(uint64(2*s.Term), 2), unsigned(uint64(n)), unsigned(uint64(x))),
			"a longer count":   slices.Concat(signed(s.Index), signed(s.Term), inBytes(uint64(n), 4), unsigned(uint64(x))),
			"a longer sum":     slices.Concat(signed(s.Index), signed(s.Term), unsigned(uint64(n)), inBytes(uint64(x), 8)),
		} {
			none(t, what, with(head))
		}
		none(t, "without a head", rest)
		none(t, "the head behind", slices.Concat(rest, plainChunks(s)[0]))
	}
}

// TestJoinOfOtherPieces: the right bytes behind the right head, in other pieces; and frames in another order.
func TestJoinOfOtherPieces(t *testing.T) {
	s := of(6, 9000)
	all, l := entry.SnapBytes(s), plainChunks(s)
	cut := func(sizes ...int) []byte {
		b, rest := slices.Clone(l[0]), all
		for _, size := range sizes {
			size = min(size, len(rest))
			b, rest = append(b, framed(rest[:size])...), rest[size:]
		}
		if len(rest) > 0 {
			b = append(b, framed(rest)...)
		}
		return b
	}
	is(t, "as it must be", joins(t, "as it must be", cut(4096, 4096)), true)
	none(t, "in one", cut())
	none(t, "one more", cut(4097, 4096))
	none(t, "one less", cut(4095, 4096))
	none(t, "the second one more", cut(4096, 4097))
	none(t, "the second one less", cut(4096, 4095))
	none(t, "the last one cut", cut(4096, 4096, 1))
	none(t, "an empty one first", cut(0, 4096, 4096))
	none(t, "an empty one between", cut(4096, 0, 4096))
	none(t, "an empty one last", append(cut(4096, 4096), framed(nil)...))
	none(t, "two in one", cut(8192))
	none(t, "in turn", slices.Concat(l[0], l[2], l[1], l[3]))
	none(t, "without one", slices.Concat(l[0], l[1], l[3]))
	none(t, "one twice", slices.Concat(l[0], l[1], l[1], l[2], l[3]))
	none(t, "without the last", slices.Concat(l[:3]...))
	even := ofBytes(t, 6, 8192)
	none(t, "an empty rest", append(file(even), framed(nil)...))
	other := plainChunks(of(8, 9000))
	none(t, "one of another", slices.Concat(l[0], l[1], other[2], l[3]))
	none(t, "all but the head", slices.Concat(l[0], other[1], other[2], other[3]))
}

// TestJoinOfWrongContents: a head and frames that are right, of bytes that are no good snapshot's.
func TestJoinOfWrongContents(t *testing.T) {
	s := of(5, 30)
	right := entry.SnapBytes(s)
	for _, all := range [][]byte{nil, {0}, right[:len(right)-1], append(slices.Clone(right), 0), right[1:], slices.Concat(inBytes(10, 1), right[1:])} {
		none(t, "wrong contents", slices.Concat(framed(headed(5, 3, len(all), sum(all))), framed(all)))
	}
	for i := range 8 * len(right) { // behind a turned bit there may be other members, and other data; another Index or Term is not the head's
		all := slices.Clone(right)
		all[i/8] ^= 1 << (i % 8)
		taken := joins(t, "a bit", slices.Concat(framed(headed(5, 3, len(all), sum(all))), framed(all)))
		if i/8 < 2 || i/8 >= len(right)-30 {
			is(t, "a bit of the data", taken, i/8 >= 2)
		}
	}
}

// TestJoinDrawn: bytes made by chance out of right ones, held against the chapter's words.
func TestJoinDrawn(t *testing.T) {
	r := rand.New(rand.NewSource(12))
	taken := 0
	for range 3000 {
		s := of(1+r.Intn(3), max(0, r.Intn(3)*4096+r.Intn(40)-20))
		l := plainChunks(s)
		switch r.Intn(6) {
		case 0:
			i := r.Intn(len(l))
			l = slices.Delete(l, i, i+1)
		case 1:
			i, j := r.Intn(len(l)), r.Intn(len(l))
			l[i], l[j] = l[j], l[i]
		case 2:
			l[r.Intn(len(l))] = plainChunks(of(1+r.Intn(3), len(s.Data)))[r.Intn(len(l))]
		case 3:
			i := r.Intn(len(l))
			l[i][r.Intn(len(l[i]))] ^= 1 << r.Intn(8)
		case 4:
			i := r.Intn(len(l))
			l[i] = l[i][:r.Intn(len(l[i])+1)]
		}
		if joins(t, "drawn", slices.Concat(l...)) {
			taken++
		}
	}
	if taken < 500 || taken > 2500 {
		t.Errorf("%d of 3000 were taken", taken)
	}
}
