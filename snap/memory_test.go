package snap_test

import (
	"bytes"
	"slices"
	"testing"

	"corbel/api"
	"corbel/disk"
	"corbel/snap"
)

// fill writes over a list, and over the room behind it.
func fill[T any](l []T, x T) {
	l = l[:cap(l)]
	for i := range l {
		l[i] = x
	}
}

func spoil(s api.Snapshot) {
	fill(s.Conf.Voters, -7)
	fill(s.Conf.Learners, -7)
	fill(s.Data, 0xee)
}

// withRoom: a list with room behind its end, and what stands there.
func withRoom[T any](l []T, behind T) []T { return append(slices.Clone(l), behind)[:len(l)] }

// roomy: a snapshot whose lists have room behind them.
func roomy(size int) api.Snapshot {
	s := of(5, size)
	s.Conf.Voters, s.Conf.Learners, s.Data = withRoom(s.Conf.Voters, 77), withRoom(s.Conf.Learners, 78), withRoom(s.Data, 79)
	return s
}

// untouched: such a snapshot is as it was, with the room.
func untouched(t *testing.T, s api.Snapshot, size int) {
	t.Helper()
	v, l, b := s.Conf.Voters, s.Conf.Learners, s.Data
	if !same(s, of(5, size)) || v[:len(v)+1][len(v)] != 77 || l[:len(l)+1][len(l)] != 78 || b[:len(b)+1][len(b)] != 79 {
		t.Fatalf("changed: %s", show(s))
	}
}

// TestMemoryOfChunks: each is memory of its own, and nothing that was handed in.
func TestMemoryOfChunks(t *testing.T) {
	for _, size := range []int{0, 3, 5000, 9000} {
		s := roomy(size)
		l, again, want := snap.Chunks(s), snap.Chunks(s), plainChunks(s)
		untouched(t, s, size)
		spoil(s)
		for i := range l {
			fill(l[i], 0xee)
			for j := i + 1; j < len(l); j++ {
				if !bytes.Equal(l[j], want[j]) {
					t.Fatalf("chunk %d changed with chunk %d", j, i)
				}
			}
		}
		fill(l, nil)
		if !slices.EqualFunc(again, want, bytes.Equal) {
			t.Fatalf("changed with another answer, or with what was handed in: %s", show(again))
		}
	}
}

// TestMemoryOfJoin: it neither changes nor keeps the bytes, nor the room behind them, and each answer is new.
func TestMemoryOfJoin(t *testing.T) {
	for _, size := range []int{0, 3, 5000} {
		b := file(of(5, size))
		room := append(slices.Clone(b), file(of(6, 3))...)
		was := slices.Clone(room)
		one, err := snap.Join(room[:len(b)])
		ok(t, err)
		other, err := snap.Join(room[:len(b)])
		ok(t, err)
		is(t, "as it was", bytes.Equal(room, was), true)
		fill(room, 0xee)
		spoil(other)
		is(t, "its own memory", same(one, of(5, size)), true)
		apart(t, one, of(5, size))
	}
}

// apart: no two lists of a snapshot share memory.
func apart(t *testing.T, s, want api.Snapshot) {
	t.Helper()
	fill(s.Conf.Voters, -7)
	is(t, "Learners", slices.Equal(s.Conf.Learners, want.Conf.Learners), true)
	fill(s.Conf.Learners, -7)
	is(t, "Data", bytes.Equal(s.Data, want.Data), true)
}

// TestMemoryOfFiles: what was saved is not changed with what was handed in, nor by what Load told.
func TestMemoryOfFiles(t *testing.T) {
	for _, size := range []int{0, 3, 5000} {
		d := disk.New(999)
		s := roomy(size)
		ok(t, snap.Save(d, s))
		untouched(t, s, size)
		spoil(s)
		one, _, _ := snap.Load(d)
		other, _, _ := snap.Load(d)
		spoil(other)
		is(t, "its own memory", same(one, of(5, size)), true)
		apart(t, one, of(5, size))
		loads(t, d, of(5, size))
		holds(t, d, "snap-5", file(of(5, size)))
	}
}

// TestNilIsEmpty: as lists of a snapshot.
func TestNilIsEmpty(t *testing.T) {
	a := api.Snapshot{Index: 5, Term: 1, Conf: api.Conf{Voters: []int{1}}}
	b := api.Snapshot{Index: 5, Term: 1, Conf: api.Conf{Voters: []int{1}, Learners: []int{}}, Data: []byte{}}
	is(t, "alike", slices.EqualFunc(snap.Chunks(a), snap.Chunks(b), bytes.Equal), true)
	c, err := snap.Join(slices.Concat(snap.Chunks(b)...))
	ok(t, err)
	is(t, "alike", same(a, c), true)
}
