package walk_test

import (
	"math"
	"slices"
	"strconv"
	"testing"

	"corbel/api"
	"corbel/siphash"
	"corbel/swiss"
	"corbel/walk"
)

// seeds: several keys of hashing.
var seeds = []siphash.Key{
	{},
	{K0: 1, K1: 2},
	{K0: 0x0706050403020100, K1: 0x0f0e0d0c0b0a0908},
	{K0: 1<<64 - 1, K1: 1<<64 - 1},
	{K0: 1 << 63},
}

// filled: a map of these keys, whose values are 0, 1, 2 ..
func filled(t *testing.T, seed siphash.Key, keys ...string) *swiss.Map[int] {
	t.Helper()
	m := swiss.New[int](seed, 0)
	for i, key := range keys {
		put(t, m, key, i)
	}
	return m
}

func put(t *testing.T, m *swiss.Map[int], key string, v int) {
	t.Helper()
	if _, err := m.Put(key, v); err != api.OK {
		t.Fatalf("Put(%q): %v", key, err)
	}
}

func remove(t *testing.T, m *swiss.Map[int], keys ...string) {
	t.Helper()
	for _, key := range keys {
		if !m.Delete(key) {
			t.Fatalf("Delete(%q): it was not there", key)
		}
	}
}

// names: a prefix with 0, 1, 2 ..
func names(prefix string, n int) []string {
	var all []string
	for i := range n {
		all = append(all, prefix+strconv.Itoa(i))
	}
	return all
}

// firstIn: n texts whose first group, of so many, is that one.
func firstIn(seed siphash.Key, prefix string, n, g, groups int) []string {
	var all []string
	for i := 0; len(all) < n; i++ {
		key := prefix + strconv.Itoa(i)
		where, _ := siphash.Split(siphash.Sum(seed, key))
		if where%uint64(groups) == uint64(g) {
			all = append(all, key)
		}
	}
	return all
}

// tells: Next tells that key and that value, and then so many are ahead.
func tells(t *testing.T, w *walk.Walk[int], key string, v, left int) {
	t.Helper()
	if k, got, ok := w.Next(); k != key || got != v || !ok {
		t.Fatalf("Next: %q, %d, %t, want %q, %d, true", k, got, ok, key, v)
	}
	leaves(t, w, left)
}

func leaves(t *testing.T, w *walk.Walk[int], left int) {
	t.Helper()
	if got := w.Left(); got != left {
		t.Fatalf("Left: %d, want %d", got, left)
	}
}

// ends: there is none, however often it is asked.
func ends(t *testing.T, w *walk.Walk[int]) {
	t.Helper()
	for range 3 {
		if k, v, ok := w.Next(); k != "" || v != 0 || ok {
			t.Fatalf("Next behind the end: %q, %d, %t", k, v, ok)
		}
		leaves(t, w, 0)
	}
}

// rest: the keys that Next still tells.
func rest(w *walk.Walk[int]) []string {
	var all []string
	for key, _, ok := w.Next(); ok; key, _, ok = w.Next() {
		all = append(all, key)
	}
	return all
}

// told: the keys that a sequence tells.
func told(m *swiss.Map[int]) []string {
	var all []string
	for key := range walk.All(m) {
		all = append(all, key)
	}
	return all
}

func TestExample(t *testing.T) {
	for _, seed := range seeds {
		m := filled(t, seed, "a", "b", "c")
		w := walk.New(m)
		first, _, ok := w.Next()
		if first != m.Keys()[0] || !ok {
			t.Errorf("Next: %q, %t", first, ok)
		}
		for _, key := range []string{"a", "b", "c"} {
			if key != first {
				remove(t, m, key)
			}
		}
		leaves(t, w, 2)
		ends(t, w)
		if _, ok := m.Get(first); !ok {
			t.Errorf("%q is there no more", first)
		}
	}
}

// TestOrderWrittenOut: keys whose hashes are known, put in another order than that of their slots.
func TestOrderWrittenOut(t *testing.T) {
	m := swiss.New[int](siphash.Key{K0: 0x0706050403020100, K1: 0x0f0e0d0c0b0a0908}, 14)
	put(t, m, "\x00", 1)             // group 1
	put(t, m, "\x00\x01", 2)         // group 0
	put(t, m, "\x00\x01\x02\x03", 4) // group 1
	put(t, m, "", 0)                 // group 0
	w := walk.New(m)
	leaves(t, w, 4)
	tells(t, w, "\x00\x01", 2, 3)
	tells(t, w, "", 0, 2) // the empty text is a key like others
	tells(t, w, "\x00", 1, 1)
	tells(t, w, "\x00\x01\x02\x03", 4, 0)
	ends(t, w)
}

func TestOrderOfSlots(t *testing.T) {
	for _, seed := range seeds {
		for _, n := range []int{1, 2, 7, 8, 14, 15, 100, 900} {
			m := filled(t, seed, names("k", n)...)
			keys := m.Keys()
			w := walk.New(m)
			leaves(t, w, n)
			for i, key := range keys {
				v, _ := m.Get(key)
				tells(t, w, key, v, n-1-i)
			}
			ends(t, w)
			if !slices.Equal(m.Keys(), keys) || m.Len() != n {
				t.Errorf("%d keys: the walk changed the map", n)
			}
		}
	}
}

func TestTheMostKeys(t *testing.T) {
	m := filled(t, seeds[1], names("k", api.MaxMap)...)
	keys := m.Keys()
	w := walk.New(m)
	if _, err := m.Put("one more", 1); err != api.ErrFull {
		t.Fatalf("one more: %v", err)
	}
	leaves(t, w, api.MaxMap)
	for i, key := range keys {
		v, _ := m.Get(key)
		tells(t, w, key, v, api.MaxMap-1-i)
	}
	ends(t, w)
}

func TestMapWithoutKeys(t *testing.T) {
	for _, hint := range []int{math.MinInt, 0, 8, api.MaxMap, 7 * api.MaxGroups} {
		m := swiss.New[int](seeds[2], hint)
		w := walk.New(m)
		leaves(t, w, 0)
		ends(t, w)
		put(t, m, "a", 1)
		leaves(t, w, 0)
		ends(t, w)
		remove(t, m, "a")
		ends(t, walk.New(m))
		for key := range walk.All(m) {
			t.Errorf("All: %q", key)
		}
	}
}

// TestKeysPutBehindNew: those are not told, in a map that was empty, and in one that was not, which grows or does not.
func TestKeysPutBehindNew(t *testing.T) {
	for _, seed := range seeds {
		empty := swiss.New[int](seed, 0)
		none := walk.New(empty)
		put(t, empty, "new", 1)
		leaves(t, none, 0)
		ends(t, none)

		for _, more := range []int{1, 4, 5, 100} {
			m := filled(t, seed, "a", "b", "c")
			keys := m.Keys()
			w := walk.New(m)
			for _, key := range names("new", more) {
				put(t, m, key, -1)
			}
			leaves(t, w, 3)
			if got := rest(w); !slices.Equal(got, keys) {
				t.Errorf("%d more: %q, want %q", more, got, keys)
			}
			for _, key := range names("late", more) {
				put(t, m, key, -1)
			}
			ends(t, w)
		}
	}
}

// TestDeletedAheadOfBeingTold: each subset of five keys is deleted, at each step of the walk.
func TestDeletedAheadOfBeingTold(t *testing.T) {
	all := names("k", 5)
	for _, seed := range seeds {
		for gone := range 1 << len(all) {
			for steps := range len(all) + 1 {
				m := filled(t, seed, all...)
				keys := m.Keys()
				w := walk.New(m)
				for i, key := range keys[:steps] {
					v, _ := m.Get(key)
					tells(t, w, key, v, 4-i)
				}
				var want []string
				for i, key := range keys {
					if gone>>i&1 == 1 {
						remove(t, m, key)
					} else if i >= steps {
						want = append(want, key)
					}
				}
				leaves(t, w, 5-steps) // there or not
				for _, key := range want {
					v, _ := m.Get(key)
					tells(t, w, key, v, 4-slices.Index(keys, key)) // those passed over are ahead no more
				}
				ends(t, w)
			}
		}
	}
}

// TestDeletedAndPutAgain: it is there now, with the value that it has now, at the place that it had at New.
func TestDeletedAndPutAgain(t *testing.T) {
	for _, seed := range seeds {
		m := filled(t, seed, names("k", 6)...)
		keys := m.Keys()
		w := walk.New(m)
		v, _ := m.Get(keys[0])
		tells(t, w, keys[0], v, 5)
		remove(t, m, keys...)
		for i := range keys { // other slots than those at New
			put(t, m, keys[5-i], 100+i)
		}
		if slices.Equal(m.Keys(), keys) {
			t.Fatal("all keys have their old slots")
		}
		leaves(t, w, 5)
		for i, key := range keys[1:] {
			tells(t, w, key, 104-i, 4-i)
		}
		ends(t, w)
	}
}

// TestToldOnce: a key that was told is not told again, wherever it comes to stand.
func TestToldOnce(t *testing.T) {
	for _, seed := range seeds {
		m := filled(t, seed, names("k", 7)...)
		keys := m.Keys()
		w := walk.New(m)
		for i, key := range keys {
			v, _ := m.Get(key)
			tells(t, w, key, v, 6-i)
			remove(t, m, key)
			put(t, m, "new"+key, 1) // takes its slot
			put(t, m, key, 200)     // behind the place of the walk
		}
		ends(t, w)
	}
}

func TestValueNow(t *testing.T) {
	for _, seed := range seeds {
		m := filled(t, seed, names("k", 20)...)
		keys := m.Keys()
		w := walk.New(m)
		for i, key := range keys {
			put(t, m, key, 1000+i) // just ahead of being told
			if i > 0 {
				put(t, m, keys[i-1], -1) // that was told
			}
			if i < 19 {
				put(t, m, keys[i+1], -2) // changed again ahead of being told
			}
			tells(t, w, key, 1000+i, 19-i)
		}
		ends(t, w)
	}
}

// TestRehashIntoMoreGroups: the walk's order stays that of New, whatever the map's has become.
func TestRehashIntoMoreGroups(t *testing.T) {
	for _, seed := range seeds {
		for steps := range 8 {
			m := filled(t, seed, names("k", 7)...)
			keys := m.Keys()
			w := walk.New(m)
			for i, key := range keys[:steps] {
				v, _ := m.Get(key)
				tells(t, w, key, v, 6-i)
			}
			for _, key := range names("new", 60) {
				put(t, m, key, -1)
			}
			if got := len(m.Controls()); got != 16 {
				t.Fatalf("%d groups", got)
			}
			for i := steps; i < 7; i++ {
				v, _ := m.Get(keys[i])
				tells(t, w, keys[i], v, 6-i)
			}
			ends(t, w)
		}
	}
}

// TestRehashIntoAsManyGroups: Deleted slots of one group make room there, and keys move up.
func TestRehashIntoAsManyGroups(t *testing.T) {
	for _, seed := range seeds {
		first, second := firstIn(seed, "f", 8, 0, 2), firstIn(seed, "s", 6, 1, 2)
		m := swiss.New[int](seed, 14)
		for i, key := range slices.Concat(first, second) {
			put(t, m, key, i)
		}
		w := walk.New(m)
		tells(t, w, first[0], 0, 13)
		remove(t, m, first[:7]...)
		if m.Tombs() != 7 || len(m.Controls()) != 2 {
			t.Fatalf("%d Deleted slots, %d groups", m.Tombs(), len(m.Controls()))
		}
		put(t, m, "new", -1)
		if m.Tombs() != 0 || len(m.Controls()) != 2 {
			t.Fatalf("%d Deleted slots, %d groups", m.Tombs(), len(m.Controls()))
		}
		put(t, m, first[3], 103)
		tells(t, w, first[3], 103, 10)
		tells(t, w, first[7], 7, 6)
		for i, key := range second {
			tells(t, w, key, 8+i, 5-i)
		}
		ends(t, w)
	}
}

// TestForGood: behind the end nothing is told, neither a key that comes back nor a new one.
func TestForGood(t *testing.T) {
	for _, seed := range seeds {
		m := filled(t, seed, "a", "b", "c")
		keys := m.Keys()
		w := walk.New(m)
		v, _ := m.Get(keys[0])
		tells(t, w, keys[0], v, 2)
		remove(t, m, keys[1:]...)
		leaves(t, w, 2)
		ends(t, w)
		put(t, m, keys[2], 7)
		put(t, m, keys[1], 8)
		put(t, m, "d", 9)
		leaves(t, w, 0)
		ends(t, w)
		if got, want := rest(walk.New(m)), m.Keys(); !slices.Equal(got, want) {
			t.Errorf("a new walk: %q, want %q", got, want)
		}
	}
}

// TestPassedOver: a key that was gone when the walk came to it is not told when it comes back, though the walk goes on.
func TestPassedOver(t *testing.T) {
	for _, seed := range seeds {
		m := filled(t, seed, names("k", 5)...)
		keys := m.Keys()
		w := walk.New(m)
		remove(t, m, keys[0], keys[1])
		v, _ := m.Get(keys[2])
		tells(t, w, keys[2], v, 2)
		put(t, m, keys[0], 50)
		put(t, m, keys[1], 51)
		leaves(t, w, 2)
		if got := rest(w); !slices.Equal(got, keys[3:]) {
			t.Errorf("%q, want %q", got, keys[3:])
		}
		ends(t, w)
	}
}

// TestLeftHangsOnTheWalkAlone: whatever becomes of the map, Left is as it was, and asking changes nothing.
func TestLeftHangsOnTheWalkAlone(t *testing.T) {
	m := filled(t, seeds[1], names("k", 10)...)
	keys := m.Keys()
	w := walk.New(m)
	for range 3 {
		leaves(t, w, 10)
	}
	for _, key := range names("new", 30) {
		put(t, m, key, 1)
		leaves(t, w, 10)
	}
	for _, key := range keys {
		remove(t, m, key)
		leaves(t, w, 10)
	}
	put(t, m, keys[8], 88)
	tells(t, w, keys[8], 88, 1)
	leaves(t, w, 1)
	ends(t, w)
}

// TestWalksApart: two walks over one map, and walks over a map and its copy, do not know of each other.
func TestWalksApart(t *testing.T) {
	m := filled(t, seeds[2], names("k", 9)...)
	keys := m.Keys()
	early := walk.New(m)
	if got := rest(walk.New(m)); !slices.Equal(got, keys) {
		t.Errorf("%q, want %q", got, keys)
	}
	leaves(t, early, 9)
	other := m.Copy()
	copied := walk.New(other)
	put(t, other, keys[0], 70)
	remove(t, m, keys[1:]...)
	v, _ := m.Get(keys[0])
	tells(t, early, keys[0], v, 8)
	ends(t, early)
	tells(t, copied, keys[0], 70, 8)
	if got := rest(copied); !slices.Equal(got, keys[1:]) {
		t.Errorf("%q, want %q", got, keys[1:])
	}
}

// TestValuesOfAnyKind: beside a false the value is its kind's zero.
func TestValuesOfAnyKind(t *testing.T) {
	five := 5
	pointers := swiss.New[*int](seeds[0], 0)
	pointers.Put("a", &five)
	w := walk.New(pointers)
	if k, v, ok := w.Next(); k != "a" || v != &five || !ok {
		t.Errorf("%q, %v, %t", k, v, ok)
	}
	if k, v, ok := w.Next(); k != "" || v != nil || ok {
		t.Errorf("%q, %v, %t", k, v, ok)
	}
	pairs := swiss.New[api.Pair](seeds[0], 0)
	pairs.Put("a", api.Pair{Key: "k", Value: "v"})
	for k, v := range walk.All(pairs) {
		if k != "a" || v != (api.Pair{Key: "k", Value: "v"}) {
			t.Errorf("%q, %v", k, v)
		}
	}
	x := walk.New(pairs)
	pairs.Delete("a")
	if k, v, ok := x.Next(); k != "" || v != (api.Pair{}) || ok {
		t.Errorf("%q, %v, %t", k, v, ok)
	}
}
