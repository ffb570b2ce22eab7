package wal_test

import (
	"math"
	"math/rand"
	"slices"
	"testing"

	"corbel/api"
	"corbel/wal"
)

// folds: a state behind a record, and is it right? It is held against the chapter's words, too; and what was handed in is as it was.
func folds(t *testing.T, what string, s wal.State, r wal.Record, want wal.State, right bool) {
	t.Helper()
	was, entry := deep(s), deepEntry(r.Entry)
	got, is := wal.Fold(s, r)
	if is != right || !sameState(got, want) {
		t.Fatalf("%s: Fold(%s, %s): %s, %t, want %s, %t", what, show(s), show(r), show(got), is, show(want), right)
	}
	plain, is := plainFold(s, r)
	if is != right || !sameState(plain, want) {
		t.Fatalf("%s: the chapter's fold of %s, %s: %s, %t, want %s, %t", what, show(s), show(r), show(plain), is, show(want), right)
	}
	spoilState(got)
	if !sameState(s, was) || !sameRecord(r, wal.Record{Kind: r.Kind, Entry: entry, Hard: r.Hard, Index: r.Index, Term: r.Term}) {
		t.Fatalf("%s: Fold changed what it was handed, %s, to %s, %s", what, show(was), show(s), show(r))
	}
}

func goesOn(t *testing.T, what string, s wal.State, r wal.Record, want wal.State) {
	t.Helper()
	folds(t, what, s, r, want, true)
}

// notRight: the state is told as it was.
func notRight(t *testing.T, what string, s wal.State, r wal.Record) {
	t.Helper()
	folds(t, what, s, r, s, false)
}

func deepEntry(e api.Entry) api.Entry {
	e.Conf.Voters, e.Conf.Learners = slices.Clone(e.Conf.Voters), slices.Clone(e.Conf.Learners)
	return e
}

func deep(s wal.State) wal.State {
	s.Entries = slices.Clone(s.Entries)
	for i, e := range s.Entries {
		s.Entries[i] = deepEntry(e)
	}
	return s
}

// spoilState writes over all memory of a state.
func spoilState(s wal.State) {
	for _, e := range s.Entries {
		spoil(e.Conf)
	}
	l := s.Entries[:cap(s.Entries)]
	for i := range l {
		l[i] = api.Entry{Index: -7}
	}
}

// three: a base at 5, and entries 6, 7 and 8 of the terms 2, 2 and 3.
func three() wal.State {
	return wal.State{Index: 5, Term: 1, Hard: api.Hard{Term: 3, Vote: 1, Commit: 6}, Entries: []api.Entry{noop(6, 2), members(7, 2), put(8, 3, "v")}}
}

// with: that state with another base and other entries.
func with(s wal.State, index, term int, l ...api.Entry) wal.State {
	s.Index, s.Term, s.Entries = index, term, l
	return s
}

func TestFoldHard(t *testing.T) {
	goesOn(t, "empty", wal.State{}, ofHard(1, 2, 3), wal.State{Hard: api.Hard{Term: 1, Vote: 2, Commit: 3}})
	s := three()
	s.Hard = api.Hard{Term: 9, Vote: 8, Commit: 7}
	goesOn(t, "with entries", three(), ofHard(9, 8, 7), s)
	s.Hard = api.Hard{}
	goesOn(t, "back to nothing", three(), ofHard(0, 0, 0), s)
	goesOn(t, "the same", three(), ofHard(3, 1, 6), three())
	s.Hard = api.Hard{Term: math.MinInt, Vote: -1, Commit: math.MaxInt}
	goesOn(t, "a fold does not ask whether it is good", three(), ofHard(math.MinInt, -1, math.MaxInt), s)
}

func TestFoldBase(t *testing.T) {
	s := three()
	l := s.Entries
	goesOn(t, "empty, at 0", wal.State{}, ofBase(0, 0), wal.State{})
	goesOn(t, "empty, at 0 with a term", wal.State{}, ofBase(0, 4), wal.State{Term: 4})
	goesOn(t, "empty, above", wal.State{}, ofBase(9, 4), wal.State{Index: 9, Term: 4})
	notRight(t, "empty, below", wal.State{}, ofBase(-1, 4))
	notRight(t, "below", s, ofBase(4, 1))
	notRight(t, "far below", s, ofBase(0, 0))
	notRight(t, "at the least int", s, ofBase(math.MinInt, 1))
	goesOn(t, "at the base", s, ofBase(5, 1), s)
	goesOn(t, "at the base, of another term", s, ofBase(5, 7), with(s, 5, 7, l...))
	goesOn(t, "at the base, of no term", s, ofBase(5, 0), with(s, 5, 0, l...))
	goesOn(t, "at the first", s, ofBase(6, 2), with(s, 6, 2, l[1:]...))
	goesOn(t, "at the second", s, ofBase(7, 2), with(s, 7, 2, l[2:]...))
	goesOn(t, "at the last", s, ofBase(8, 3), with(s, 8, 3))
	goesOn(t, "at the first, of another term", s, ofBase(6, 1), with(s, 6, 1))
	goesOn(t, "at the second, of the third one's term", s, ofBase(7, 3), with(s, 7, 3))
	goesOn(t, "at the last, of the second one's term", s, ofBase(8, 2), with(s, 8, 2))
	goesOn(t, "one behind the last", s, ofBase(9, 3), with(s, 9, 3))
	goesOn(t, "far behind the last", s, ofBase(100, 3), with(s, 100, 3))
	goesOn(t, "at the greatest int", s, ofBase(math.MaxInt, 3), with(s, math.MaxInt, 3))
	goesOn(t, "a base alone, of another term", with(s, 5, 1), ofBase(5, 2), with(s, 5, 2))
}

func TestFoldEntry(t *testing.T) {
	s := three()
	l := s.Entries
	goesOn(t, "empty, the first", wal.State{}, ofEntry(noop(1, 1)), wal.State{Entries: noops(0, 1, 1)})
	notRight(t, "empty, at 0", wal.State{}, ofEntry(noop(0, 1)))
	notRight(t, "empty, below 0", wal.State{}, ofEntry(noop(-1, 1)))
	notRight(t, "empty, two behind", wal.State{}, ofEntry(noop(2, 1)))
	notRight(t, "below the base", s, ofEntry(noop(4, 9)))
	notRight(t, "at the base", s, ofEntry(noop(5, 9)))
	goesOn(t, "at the first", s, ofEntry(noop(6, 9)), with(s, 5, 1, noop(6, 9)))
	goesOn(t, "at the second", s, ofEntry(noop(7, 9)), with(s, 5, 1, l[0], noop(7, 9)))
	goesOn(t, "at the third", s, ofEntry(members(8, 9)), with(s, 5, 1, l[0], l[1], members(8, 9)))
	goesOn(t, "at the second, the same", s, ofEntry(l[1]), with(s, 5, 1, l[0], l[1]))
	goesOn(t, "behind the last", s, ofEntry(noop(9, 9)), with(s, 5, 1, l[0], l[1], l[2], noop(9, 9)))
	goesOn(t, "of a lesser term", s, ofEntry(noop(9, 1)), with(s, 5, 1, l[0], l[1], l[2], noop(9, 1)))
	notRight(t, "two behind the last", s, ofEntry(noop(10, 9)))
	notRight(t, "far behind the last", s, ofEntry(noop(math.MaxInt, 9)))
	notRight(t, "at the least int", s, ofEntry(noop(math.MinInt, 9)))
	goesOn(t, "behind a base alone", with(s, 5, 1), ofEntry(noop(6, 2)), with(s, 5, 1, noop(6, 2)))
	notRight(t, "two behind a base alone", with(s, 5, 1), ofEntry(noop(7, 2)))
	bad := api.Entry{Index: 9, Term: -1, Kind: 7, Command: api.Command{Kind: -1}}
	goesOn(t, "a fold does not ask whether it is good", s, ofEntry(bad), with(s, 5, 1, l[0], l[1], l[2], bad))
}

// TestFoldAtTheEnds: where a sum or a difference of the two would wrap.
func TestFoldAtTheEnds(t *testing.T) {
	low, high := math.MinInt, math.MaxInt
	at := func(index int, l ...api.Entry) wal.State { return wal.State{Index: index, Term: 1, Entries: l} }
	notRight(t, "low base, high entry", at(low), ofEntry(noop(high, 1)))
	notRight(t, "low base, entry at -1", at(low), ofEntry(noop(-1, 1)))
	notRight(t, "low base, entry at 0", at(low), ofEntry(noop(0, 1)))
	notRight(t, "low base, the same entry", at(low), ofEntry(noop(low, 1)))
	goesOn(t, "low base, the next entry", at(low), ofEntry(noop(low+1, 1)), at(low, noop(low+1, 1)))
	notRight(t, "high base, low entry", at(high), ofEntry(noop(low, 1)))
	notRight(t, "high base, the entry behind the low one", at(high), ofEntry(noop(low+1, 1)))
	notRight(t, "high base, high entry", at(high), ofEntry(noop(high, 1)))
	goesOn(t, "one below the high base", at(high-1), ofEntry(noop(high, 1)), at(high-1, noop(high, 1)))
	full := at(high-2, noop(high-1, 1), noop(high, 1))
	notRight(t, "behind the high entry", full, ofEntry(noop(low, 1)))
	goesOn(t, "at the high entry", full, ofEntry(noop(high, 2)), at(high-2, noop(high-1, 1), noop(high, 2)))
	goesOn(t, "below the high entry", full, ofEntry(noop(high-1, 2)), at(high-2, noop(high-1, 2)))
	goesOn(t, "a base at the high entry", full, ofBase(high, 1), at(high))
	goesOn(t, "a base below the high entry", full, ofBase(high-1, 1), at(high-1, noop(high, 1)))
	notRight(t, "a low base", full, ofBase(low, 1))
	goesOn(t, "low base, high base", at(low, noop(low+1, 1)), ofBase(high, 1), at(high))
	goesOn(t, "low base, the same base", at(low, noop(low+1, 1)), ofBase(low, 1), at(low, noop(low+1, 1)))
	notRight(t, "high base, low base", at(high), ofBase(low, 1))
}

func TestFoldOfNoKind(t *testing.T) {
	for _, kind := range append(ends(), 6, 257) {
		if kind < 1 || kind > 3 {
			r := wal.Record{Kind: kind, Entry: noop(9, 9), Hard: api.Hard{Term: 9}, Index: 9, Term: 9}
			notRight(t, "of no kind", three(), r)
			notRight(t, "of no kind", wal.State{}, wal.Record{Kind: kind, Entry: noop(1, 1)})
		}
	}
}

// TestFoldOfOtherParts: what a kind does not name is not looked at.
func TestFoldOfOtherParts(t *testing.T) {
	s := three()
	all := wal.Record{Entry: noop(9, 4), Hard: api.Hard{Term: 9, Vote: 9, Commit: 9}, Index: 7, Term: 2}
	all.Kind = wal.KindEntry
	goesOn(t, "an entry", s, all, with(s, 5, 1, append(slices.Clone(s.Entries), noop(9, 4))...))
	all.Kind = wal.KindBase
	goesOn(t, "a base", s, all, with(s, 7, 2, s.Entries[2]))
	all.Kind = wal.KindHard
	want := three()
	want.Hard = all.Hard
	goesOn(t, "a hard", s, all, want)
}

// TestFoldAnyState: whatever the state's entries are, a fold ends.
func TestFoldAnyState(t *testing.T) {
	for seed := range 3000 {
		r := rand.New(rand.NewSource(int64(seed)))
		end := func() int { return ends()[r.Intn(len(ends()))] }
		s := wal.State{Index: end(), Term: end()}
		for range r.Intn(5) {
			s.Entries = append(s.Entries, noop(end(), end()))
		}
		was := deep(s)
		rec := wal.Record{Kind: r.Intn(6) - 1, Entry: noop(end(), end()), Index: end(), Term: end()}
		if got, right := wal.Fold(s, rec); !right && !sameState(got, s) {
			t.Fatalf("Fold(%s, %s): %s", show(s), show(rec), show(got))
		}
		if !sameState(s, was) {
			t.Fatalf("Fold changed %s to %s", show(was), show(s))
		}
	}
}

// TestFoldDrawn: records of all kinds around a state's Indexes, one behind the other, held against the chapter's words.
func TestFoldDrawn(t *testing.T) {
	for seed := range 300 {
		r := rand.New(rand.NewSource(int64(seed)))
		var s wal.State
		for range 100 {
			index, term := s.Index+r.Intn(len(s.Entries)+5)-1, 1+r.Intn(3)
			rec := ofEntry(noop(index, term))
			switch {
			case r.Intn(8) == 0:
				rec = ofBase(index, term)
			case r.Intn(8) == 0:
				rec = ofHard(term, term, index)
			case r.Intn(4) == 0:
				rec = ofEntry(members(index, term))
			}
			want, right := plainFold(s, rec)
			folds(t, "drawn", s, rec, want, right)
			s = want
			for i, e := range s.Entries {
				is(t, "an entry's Index", e.Index, s.Index+1+i)
			}
		}
	}
}

// TestFoldMemory: an answer shares no memory with what was handed in, nor do two lists of it.
func TestFoldMemory(t *testing.T) {
	list := []int{1, 2, 3, 4}
	shared := api.Entry{Index: 1, Term: 1, Kind: api.EntryConf, Conf: api.Conf{Voters: list[:2], Learners: list[2:]}}
	second, third := shared, shared
	second.Index, third.Index = 2, 3
	room := []api.Entry{shared, second, noop(77, 77)}
	s := wal.State{Entries: room[:2]}
	for _, r := range []wal.Record{ofEntry(third), ofHard(1, 1, 1), ofBase(0, 1), ofBase(1, 1), {Kind: 9}, ofEntry(noop(9, 9)), ofEntry(second)} {
		got, _ := wal.Fold(s, r)
		for i := range got.Entries {
			spoil(api.Conf{Voters: got.Entries[i].Conf.Voters})
			for j, e := range got.Entries {
				if !slices.Equal(e.Conf.Learners, list[2:]) || j > i && !slices.Equal(e.Conf.Voters, list[:2]) {
					t.Fatalf("behind a change of %d: %+v", i, got)
				}
			}
		}
		spoilState(got)
		if !slices.Equal(list, []int{1, 2, 3, 4}) || room[0].Index != 1 || room[1].Index != 2 || room[2].Index != 77 {
			t.Fatalf("%s changed what it was handed: %d, %s", show(r), list, show(room))
		}
	}
}
