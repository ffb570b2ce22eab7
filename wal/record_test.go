package wal_test

import (
	"math"
	"math/rand"
	"slices"
	"testing"

	"corbel/api"
	"corbel/wal"
)

// scans: these records are told of bytes, and so many bytes.
func scans(t *testing.T, what string, b []byte, size int, want ...wal.Record) {
	t.Helper()
	got, n := wal.Scan(b)
	if n != size || !slices.EqualFunc(got, want, sameRecord) {
		t.Fatalf("%s: Scan(%s): %s, %d, want %s, %d", what, show(b), show(got), n, show(want), size)
	}
}

// scansPlainly: as the chapter says.
func scansPlainly(t *testing.T, what string, b []byte) {
	t.Helper()
	want, size := plainScan(b)
	scans(t, what, b, size, want...)
}

// bytesAre: a record's; they are told as that record, if it has any. What its kind does not name does not come back.
func bytesAre(t *testing.T, r wal.Record, want []byte) {
	t.Helper()
	got := wal.Bytes(r)
	if !slices.Equal(got, want) {
		t.Fatalf("Bytes(%s): %d, want %d", show(r), got, want)
	}
	if len(want) == 0 {
		return
	}
	bare := wal.Record{Kind: r.Kind}
	switch r.Kind {
	case wal.KindEntry:
		bare.Entry = r.Entry
	case wal.KindHard:
		bare.Hard = r.Hard
	case wal.KindBase:
		bare.Index, bare.Term = r.Index, r.Term
	}
	scans(t, "there and back", got, len(got), bare)
}

func TestKinds(t *testing.T) {
	is(t, "KindEntry", wal.KindEntry, 1)
	is(t, "KindHard", wal.KindHard, 2)
	is(t, "KindBase", wal.KindBase, 3)
}

// TestBytesWrittenOut: down to the frame's mark, count and sum.
func TestBytesWrittenOut(t *testing.T) {
	bytesAre(t, ofEntry(noop(1, 1)), []byte{0xc5, 4, 0, 0, 2, 2, 2, 2, 0xd2, 0xe4, 0x9e, 0x59})
	bytesAre(t, ofHard(1, 2, 3), []byte{0xc5, 4, 0, 0, 4, 2, 4, 6, 0x8d, 0x30, 0x8e, 0x33})
	bytesAre(t, ofBase(64, 150), []byte{0xc5, 5, 0, 0, 6, 128, 128, 129, 44, 0xe0, 0x43, 0xe0, 0x42})
	bytesAre(t, ofBase(5, 2), framed([]byte{6, 10, 4}))
	bytesAre(t, ofBase(0, 0), framed([]byte{6, 0, 0}))
	bytesAre(t, ofHard(0, 0, 0), framed([]byte{4, 0, 0, 0}))
	bytesAre(t, ofEntry(members(3, 2)), framed([]byte{2, 6, 4, 6, 3, 2, 4, 6, 2, 8, 10}))
	bytesAre(t, ofEntry(put(3, 2, "v")), framed([]byte{2, 6, 4, 4, 10, 6, 2, 2, 0, 1, 'k', 0, 1, 'v', 0}))
}

func TestBytesOfGood(t *testing.T) {
	for _, r := range goodRecords() {
		bytesAre(t, r, framed(inside(r)))
	}
}

// TestBytesOfOtherParts: what a kind does not name is not looked at, however wrong.
func TestBytesOfOtherParts(t *testing.T) {
	for _, r := range goodRecords() {
		want := framed(inside(r))
		if r.Kind != wal.KindEntry {
			r.Entry = api.Entry{Index: -1, Kind: 7, Conf: api.Conf{Voters: []int{3, 3}}}
		}
		if r.Kind != wal.KindHard {
			r.Hard = api.Hard{Term: -1, Vote: math.MinInt, Commit: -7}
		}
		if r.Kind != wal.KindBase {
			r.Index, r.Term = math.MinInt, -1
		}
		bytesAre(t, r, want)
	}
}

func TestBytesOfNoKind(t *testing.T) {
	for _, kind := range append(ends(), 6, 255, 256, 257, 1<<32+1, 1<<62+2, math.MinInt+3) {
		r := wal.Record{Kind: kind, Entry: noop(1, 1), Hard: api.Hard{Term: 1}, Index: 1, Term: 1}
		if kind < 1 || kind > 3 {
			bytesAre(t, r, nil)
		} else {
			bytesAre(t, r, framed(inside(r)))
		}
	}
}

func TestBytesOfNotGood(t *testing.T) {
	for _, e := range []api.Entry{
		{}, noop(0, 1), noop(1, 0), noop(-1, 1), noop(1, -1), noop(math.MinInt, 1), noop(1, math.MinInt),
		{Index: 1, Term: 1}, {Index: 1, Term: 1, Kind: 4}, {Index: 1, Term: 1, Kind: -1},
		{Index: 1, Term: 1, Kind: api.EntryNoop, Command: put(1, 1, "v").Command},
		{Index: 1, Term: 1, Kind: api.EntryNoop, Conf: members(1, 1).Conf},
		{Index: 1, Term: 1, Kind: api.EntryCommand}, {Index: 1, Term: 1, Kind: api.EntryConf},
		{Index: 1, Term: 1, Kind: api.EntryConf, Conf: api.Conf{Voters: []int{2, 1}}},
		put(1, 1, string(make([]byte, api.MaxValue+1))), put(1, 1, string(make([]byte, api.MaxFrame))),
	} {
		bytesAre(t, ofEntry(e), nil)
	}
	for _, n := range ends() {
		for at := range 3 {
			numbers := []int{1, 2, 3}
			numbers[at] = n
			hard := ofHard(numbers[0], numbers[1], numbers[2])
			base := ofBase(numbers[0], numbers[1])
			if n < 0 {
				bytesAre(t, hard, nil)
			} else {
				bytesAre(t, hard, framed(inside(hard)))
			}
			if n < 0 && at < 2 {
				bytesAre(t, base, nil)
			} else {
				bytesAre(t, base, framed(inside(base)))
			}
		}
	}
}

func TestScanOfNothing(t *testing.T) {
	scans(t, "nil", nil, 0)
	scans(t, "empty", []byte{}, 0)
	for x := range 256 {
		scans(t, "one byte", []byte{byte(x)}, 0)
	}
	scans(t, "noughts", make([]byte, 5000), 0)
	scans(t, "marks", slices.Repeat([]byte{0xc5}, 5000), 0)
}

// TestScanCut: at every byte: those that are whole are told, and where they end.
func TestScanCut(t *testing.T) {
	some := []wal.Record{ofEntry(noop(1, 1)), ofHard(1, 2, 3), ofEntry(members(2, 1)), ofBase(2, 1), ofEntry(put(3, 1, "v")), ofHard(1, 2, 3), ofBase(0, 0), ofEntry(noop(3, 2))}
	all := allBytes(some...)
	for n := range len(all) + 1 {
		size, count := 0, 0
		for _, r := range some {
			if size+len(plainBytes(r)) > n {
				break
			}
			size += len(plainBytes(r))
			count++
		}
		scans(t, "cut", all[:n], size, some[:count]...)
	}
}

func TestScanOfMany(t *testing.T) {
	var some []wal.Record
	for range 3 {
		some = append(some, goodRecords()...)
	}
	all := allBytes(some...)
	scans(t, "many", all, len(all), some...)
	for _, behind := range [][]byte{{0}, {0xc5}, {0xc5, 0}, {0xc5, 0, 0, 0}, all[:5], make([]byte, 100), framed(nil), {0xc5, 0xff, 0xff, 0xff, 0, 0, 0, 0}, []byte("text")} {
		b := slices.Concat(all, behind)
		scans(t, "bytes behind", b, len(all), some...)
		scans(t, "bytes ahead", slices.Concat(behind, all), 0)
		b = slices.Concat(b, all) // what follows those is not told
		scans(t, "bytes between", b, len(all), some...)
	}
}

// TestScanTurned: a bit of each byte is turned: the records ahead of it are told, no other one.
func TestScanTurned(t *testing.T) {
	some := []wal.Record{ofHard(1, 2, 3), ofEntry(members(2, 1)), ofBase(2, 1), ofEntry(put(3, 1, "v"))}
	all := allBytes(some...)
	for i := range 8 * len(all) {
		b := slices.Clone(all)
		b[i/8] ^= 1 << (i % 8)
		size, count := 0, 0
		for size+len(plainBytes(some[count])) <= i/8 {
			size += len(plainBytes(some[count]))
			count++
		}
		scans(t, "turned", b, size, some[:count]...)
	}
}

// TestScanOfOtherFrames: their sums are right, and what is inside is no record's.
func TestScanOfOtherFrames(t *testing.T) {
	first := plainBytes(ofHard(1, 0, 0))
	none := func(what string, content []byte) {
		t.Helper()
		scans(t, what, framed(content), 0)
		b := slices.Concat(first, framed(content), first)
		scans(t, what, b, len(first), ofHard(1, 0, 0))
	}
	none("nothing", nil)
	for x := range 256 {
		none("one byte", []byte{byte(x)})
	}
	for _, r := range goodRecords() {
		content := inside(r)
		for n := range content {
			none("fewer", content[:n])
		}
		for more := range 256 {
			none("more", append(slices.Clone(content), byte(more)))
		}
		none("twice", slices.Concat(content, content))
		none("another frame inside", framed(content))
		for _, kind := range []int{-1, 0, 4, 5, math.MinInt, math.MaxInt} {
			none("of no kind", slices.Concat(signed(kind), content[1:]))
		}
		for tail := 1; tail <= 8; tail++ {
			none("a long kind", slices.Concat(inBytes(uint64(content[0]), tail), content[1:]))
		}
	}
	for tail := 1; tail <= 8; tail++ {
		none("a long number", slices.Concat([]byte{6}, inBytes(4, tail), []byte{2}))
		none("a long number", slices.Concat([]byte{6, 4}, inBytes(2, tail)))
		none("a long number", slices.Concat([]byte{4, 4}, inBytes(2, tail), []byte{2}))
	}
	for _, n := range ends() {
		if n < 0 {
			for _, r := range []wal.Record{ofHard(n, 0, 0), ofHard(0, n, 0), ofHard(0, 0, n), ofBase(n, 1), ofBase(1, n), ofEntry(noop(n, 1)), ofEntry(noop(1, n))} {
				none("below 0", inside(r))
			}
		}
	}
	none("an entry without an index", inside(ofEntry(noop(0, 1))))
	none("an entry without a term", inside(ofEntry(noop(1, 0))))
	none("an entry of no kind", inside(ofEntry(api.Entry{Index: 1, Term: 1})))
	none("members without voters", inside(ofEntry(api.Entry{Index: 1, Term: 1, Kind: api.EntryConf})))
	none("a command that is none", inside(ofEntry(api.Entry{Index: 1, Term: 1, Kind: api.EntryCommand})))
	none("much", make([]byte, api.MaxFrame))
}

// TestScanOfShort: all short contents over some bytes, as a plain reader tells them.
func TestScanOfShort(t *testing.T) {
	some := []byte{0, 1, 2, 4, 6, 128, 255}
	told := 0
	var grow func(content []byte)
	grow = func(content []byte) {
		b := framed(content)
		scansPlainly(t, "short", b)
		if l, _ := wal.Scan(b); len(l) > 0 {
			told++
		}
		if len(content) == 5 {
			return
		}
		for _, x := range some {
			grow(append(slices.Clone(content), x))
		}
	}
	grow(nil)
	if told < 100 {
		t.Errorf("only %d of them are records", told)
	}
}

// TestScanDrawn: records with a byte of them changed, gone or doubled, their sum put right at times.
func TestScanDrawn(t *testing.T) {
	records := goodRecords()
	for seed := range 3000 {
		r := rand.New(rand.NewSource(int64(seed)))
		var b []byte
		for range r.Intn(6) {
			content := inside(records[r.Intn(len(records))])
			at := r.Intn(len(content))
			switch r.Intn(8) {
			case 0:
				content[at] ^= 1 << r.Intn(8)
			case 1:
				content = slices.Delete(content, at, at+1)
			case 2:
				content = slices.Insert(content, at, content[at])
			}
			b = append(b, framed(content)...)
		}
		if len(b) > 0 && r.Intn(3) == 0 {
			b[r.Intn(len(b))] ^= 1 << r.Intn(8)
		}
		scansPlainly(t, "drawn", b[:len(b)-min(len(b), r.Intn(3))])
	}
}

// TestRecordMemory: what is told shares no memory with what was handed in, nor with what is told again.
func TestRecordMemory(t *testing.T) {
	r := ofEntry(members(1, 1))
	want := plainBytes(r)
	b := wal.Bytes(r)
	other := wal.Bytes(r)
	clear(b[:cap(b)])
	r.Entry.Conf.Voters[0] = 7
	if !slices.Equal(other, want) {
		t.Errorf("Bytes share memory: %d, want %d", other, want)
	}
	room := slices.Concat(want, want, []byte("behind"))
	was := slices.Clone(room)
	l, _ := wal.Scan(room[:2*len(want)])
	again, _ := wal.Scan(room[:2*len(want)])
	if !slices.Equal(room, was) {
		t.Errorf("Scan changed its bytes: %d, want %d", room, was)
	}
	clear(room)
	spoil(again[0].Entry.Conf)
	spoil(l[1].Entry.Conf)
	if !sameRecord(l[0], ofEntry(members(1, 1))) {
		t.Errorf("Scan shares memory: %+v", l[0])
	}
	clear(again[:cap(again)])
	if l[0].Kind != wal.KindEntry {
		t.Errorf("Scan shares memory: %+v", l[0])
	}
}

// spoil writes over members, and over the room behind them.
func spoil(c api.Conf) {
	for _, l := range [][]int{c.Voters, c.Learners} {
		l = l[:cap(l)]
		for i := range l {
			l[i] = -7
		}
	}
}
