package walk_test

import (
	"math/rand"
	"slices"
	"strconv"
	"testing"

	"corbel/api"
	"corbel/siphash"
	"corbel/swiss"
	"corbel/walk"
)

// story is a walk, a map of Go's that has what the program's map has, and what the chapter says of each key of New.
type story struct {
	t     *testing.T
	dice  *rand.Rand
	m     *swiss.Map[int]
	last  map[string]int
	w     *walk.Walk[int]
	keys  []string       // at New
	at    int            // how many of them are not ahead any more
	gone  map[string]int // how often each was deleted ahead of being told
	count map[string]int // how often each was told
	span  int            // of the names that are drawn
}

func begin(t *testing.T, seed siphash.Key, draw int64, n, span int) *story {
	t.Helper()
	s := &story{
		t: t, dice: rand.New(rand.NewSource(draw)), m: swiss.New[int](seed, 0), span: span,
		last: map[string]int{}, gone: map[string]int{}, count: map[string]int{},
	}
	for range n {
		s.put()
	}
	for range n / 4 {
		s.delete() // so that a walk begins among Deleted slots too
	}
	s.keys = s.m.Keys()
	clear(s.gone)
	s.w = walk.New(s.m)
	return s
}

func (s *story) name() string { return "k" + strconv.Itoa(s.dice.Intn(s.span)) }

func (s *story) put() {
	s.t.Helper()
	key, v := s.name(), s.dice.Int()
	if _, err := s.m.Put(key, v); err != api.OK {
		s.t.Fatalf("Put(%q): %v", key, err)
	}
	s.last[key] = v
}

func (s *story) delete() {
	s.t.Helper()
	key := s.name()
	_, there := s.last[key]
	if s.m.Delete(key) != there {
		s.t.Fatalf("Delete(%q): it was there: %t", key, there)
	}
	if there && s.count[key] == 0 {
		s.gone[key]++
	}
	delete(s.last, key)
}

// next: the chapter's words, one by one, and what Next tells.
func (s *story) next() bool {
	s.t.Helper()
	wantKey, wantV, want := "", 0, false
	for !want && s.at < len(s.keys) {
		wantKey = s.keys[s.at]
		wantV, want = s.last[wantKey]
		s.at++
	}
	if !want {
		wantKey = ""
	}
	key, v, ok := s.w.Next()
	if key != wantKey || v != wantV || ok != want {
		s.t.Fatalf("Next: %q, %d, %t, want %q, %d, %t", key, v, ok, wantKey, wantV, want)
	}
	if got := s.w.Left(); got != len(s.keys)-s.at {
		s.t.Fatalf("Left: %d, want %d", got, len(s.keys)-s.at)
	}
	if ok {
		s.count[key]++
	}
	return ok
}

// judge: each key that was there all the time was told once, none twice, none that was not there at New.
func (s *story) judge() {
	s.t.Helper()
	for _, key := range s.keys {
		if n := s.count[key]; n > 1 || s.gone[key] == 0 && n != 1 {
			s.t.Fatalf("%q was told %d times, and deleted %d times ahead of that", key, n, s.gone[key])
		}
	}
	for key := range s.count {
		if !slices.Contains(s.keys, key) {
			s.t.Fatalf("%q was told, but was not there at New", key)
		}
	}
}

// TestWhateverIsDoneInBetween: many puts and deletes between the calls, more of the one or more of the other, over few names and over many.
func TestWhateverIsDoneInBetween(t *testing.T) {
	moved, kept := 0, 0
	for i, seed := range seeds {
		for draw := range int64(60) {
			span := []int{10, 60, 400}[draw%3]
			s := begin(t, seed, 1000*int64(i)+draw, span, span)
			puts := 1 + int(draw)%9 // of ten steps
			groups := len(s.m.Controls())
			for s.next() {
				for range s.dice.Intn(12) {
					if s.dice.Intn(10) < puts {
						s.put()
					} else {
						s.delete()
					}
				}
			}
			s.judge()
			for range 20 { // for good, whatever comes back
				s.put()
				if s.next() {
					t.Fatal("told behind the end")
				}
			}
			if len(s.m.Controls()) != groups {
				moved++
			}
			for key := range s.count {
				if s.gone[key] > 0 {
					kept++
				}
			}
		}
	}
	if moved == 0 || kept == 0 {
		t.Errorf("%d rehashes into more groups, %d keys told that had been away: the draw shows too little", moved, kept)
	}
}

// TestThoseThatStay: some keys are never touched, the others come and go all the time; the untouched are told once each, in their order.
func TestThoseThatStay(t *testing.T) {
	for _, seed := range seeds {
		stay, others := names("stay", 40), names("other", 300)
		m := filled(t, seed, slices.Concat(stay, others[:150])...)
		var order []string
		for _, key := range m.Keys() {
			if slices.Contains(stay, key) {
				order = append(order, key)
			}
		}
		dice := rand.New(rand.NewSource(5))
		var got []string
		for key, v := range walk.All(m) {
			if i := slices.Index(stay, key); i >= 0 {
				got = append(got, key)
				if v != i {
					t.Fatalf("%q: %d", key, v)
				}
			}
			for range 40 {
				if other := others[dice.Intn(300)]; dice.Intn(2) == 0 {
					m.Delete(other)
				} else {
					put(t, m, other, -1)
				}
			}
		}
		if !slices.Equal(got, order) {
			t.Fatalf("%q, want %q", got, order)
		}
	}
}
