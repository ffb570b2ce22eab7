package walk_test

import (
	"iter"
	"math"
	"slices"
	"testing"

	"corbel/siphash"
	"corbel/swiss"
	"corbel/walk"
)

func TestAllInTheOrderOfSlots(t *testing.T) {
	for _, seed := range seeds {
		for _, n := range []int{0, 1, 7, 8, 100} {
			m := filled(t, seed, names("k", n)...)
			keys, i := m.Keys(), 0
			for key, v := range walk.All(m) {
				if i == n {
					t.Fatalf("%q behind the last one", key)
				}
				if want, _ := m.Get(keys[i]); key != keys[i] || v != want {
					t.Fatalf("%d: %q, %d, want %q, %d", i, key, v, keys[i], want)
				}
				i++
			}
			if i != n {
				t.Errorf("%d keys told, want %d", i, n)
			}
		}
	}
}

// TestAllGoneOverTwice: it is begun anew each time: what was changed in between is seen, keys that were put too.
func TestAllGoneOverTwice(t *testing.T) {
	for _, seed := range seeds {
		m := swiss.New[int](seed, 0)
		all := walk.All(m)
		over := func() (keys []string) {
			for key, v := range all {
				if want, _ := m.Get(key); v != want {
					t.Fatalf("%q: %d, want %d", key, v, want)
				}
				keys = append(keys, key)
			}
			return keys
		}
		check := func(n int) {
			t.Helper()
			if got, want := over(), m.Keys(); len(got) != n || !slices.Equal(got, want) {
				t.Fatalf("%q, want %q", got, want)
			}
		}
		check(0)
		for i, key := range names("k", 20) { // put behind All
			put(t, m, key, i)
		}
		check(20)
		check(20)
		remove(t, m, names("k", 3)...)
		put(t, m, "k5", 500)
		put(t, m, "new", 501)
		check(18)
		remove(t, m, m.Keys()...)
		check(0)
		put(t, m, "k0", 502)
		check(1)
	}
}

// TestAllLeftEarly: at each step; the next time it is begun at the first key again.
func TestAllLeftEarly(t *testing.T) {
	m := filled(t, seeds[1], names("k", 9)...)
	keys := m.Keys()
	all := walk.All(m)
	for steps := 1; steps <= 9; steps++ {
		var got []string
		for key := range all {
			got = append(got, key)
			if len(got) == steps {
				break
			}
		}
		if !slices.Equal(got, keys[:steps]) {
			t.Errorf("%d steps: %q, want %q", steps, got, keys[:steps])
		}
	}
	calls := 0
	all(func(string, int) bool { calls++; return false })
	if calls != 1 {
		t.Errorf("told %d times behind a false", calls)
	}
}

func TestAllNested(t *testing.T) {
	m := filled(t, seeds[2], names("k", 8)...)
	keys := m.Keys()
	all := walk.All(m)
	var outer, inner, want []string
	for a := range all {
		outer = append(outer, a)
		for b := range all {
			inner = append(inner, b)
		}
		want = append(want, keys...)
	}
	if !slices.Equal(outer, keys) || !slices.Equal(inner, want) {
		t.Errorf("outer %q, inner %q", outer, inner)
	}
}

// TestAllWhileTheMapIsChanged: as a walk: keys that go are not told, those that come neither, values are those of now, whatever is rehashed.
func TestAllWhileTheMapIsChanged(t *testing.T) {
	for _, seed := range seeds {
		m := filled(t, seed, names("k", 11)...)
		keys, i := m.Keys(), 0 // every second one is told: the others are deleted just ahead of that
		for key, v := range walk.All(m) {
			if i > 10 {
				t.Fatalf("%q behind the last one", key)
			}
			want := 100 * i
			if i == 0 {
				want, _ = m.Get(key)
			}
			if key != keys[i] || v != want {
				t.Fatalf("%d: %q, %d, want %q, %d", i, key, v, keys[i], want)
			}
			remove(t, m, key)
			for _, fresh := range names("new"+key, 9) {
				put(t, m, fresh, -1)
			}
			if i < 10 {
				remove(t, m, keys[i+1])
				put(t, m, keys[i+2], 100*(i+2))
			}
			i += 2
		}
		if i != 12 || m.Len() != 6*9 {
			t.Errorf("step %d, %d keys", i, m.Len())
		}
	}
}

// TestAllOfAMapThatLosesItsKeys: the keys of the beginning count, though none is left.
func TestAllOfAMapThatLosesItsKeys(t *testing.T) {
	m := filled(t, seeds[3], names("k", 30)...)
	n := 0
	for range walk.All(m) {
		n++
		remove(t, m, m.Keys()...)
	}
	if n != 1 {
		t.Errorf("%d told", n)
	}
}

// TestWalksThatNoCallMade: nothing ahead, nothing told, no panic.
func TestWalksThatNoCallMade(t *testing.T) {
	var none *walk.Walk[int]
	var zero walk.Walk[int]
	for _, w := range []*walk.Walk[int]{none, &zero, new(walk.Walk[int])} {
		leaves(t, w, 0)
		ends(t, w)
	}
	var texts *walk.Walk[[]string]
	if k, v, ok := texts.Next(); k != "" || v != nil || ok || texts.Left() != 0 {
		t.Errorf("%q, %q, %t, %d", k, v, ok, texts.Left())
	}
}

func TestMapsThatNoCallMade(t *testing.T) {
	var none *swiss.Map[int]
	var zero swiss.Map[int]
	for _, m := range []*swiss.Map[int]{none, &zero, swiss.New[int](siphash.Key{}, math.MaxInt)} {
		w := walk.New(m)
		leaves(t, w, 0)
		ends(t, w)
		m.Put("a", 1) // ErrMade
		leaves(t, w, 0)
		ends(t, w)
		var all iter.Seq2[string, int] = walk.All(m)
		if all == nil {
			t.Fatal("All: nil cannot be gone over")
		}
		for range 2 {
			for key, v := range all {
				t.Errorf("All: %q, %d", key, v)
			}
		}
		if got := told(m); len(got) != 0 {
			t.Errorf("All: %q", got)
		}
	}
}
