package swiss_test

import (
	"math"
	"runtime"
	"slices"
	"strconv"
	"strings"
	"testing"
	"weak"

	"corbel/api"
	"corbel/group"
	"corbel/probe"
	"corbel/siphash"
	"corbel/swiss"
)

// TestExample: one group holds seven keys, the eighth asks for two groups.
func TestExample(t *testing.T) {
	for _, seed := range seeds {
		m := swiss.New[string](seed, 0)
		for i := range 8 {
			want := 1
			if i == 7 {
				want = 2
			}
			if is, err := m.Put(strconv.Itoa(i), "v"); is || err != api.OK {
				t.Errorf("Put %d: %t, %v", i, is, err)
			}
			if got := len(m.Controls()); got != want {
				t.Errorf("%d keys: %d groups, want %d", i+1, got, want)
			}
		}
		if is, err := m.Put("3", "w"); !is || err != api.OK {
			t.Errorf("Put of a key that is there: %t, %v", is, err)
		}
		if v, ok := m.Get("3"); v != "w" || !ok {
			t.Errorf("Get: %q, %t", v, ok)
		}
	}
}

func TestNew(t *testing.T) {
	for _, c := range []struct{ hint, groups int }{
		{math.MinInt, 1}, {-8, 1}, {-1, 1}, {0, 1}, {1, 1}, {7, 1}, {8, 2}, {14, 2}, {15, 4}, {56, 8}, {57, 16},
		{api.MaxMap, 512}, {3584, 512}, {3585, 1024}, {7*api.MaxGroups - 1, 1024}, {7 * api.MaxGroups, 1024},
	} {
		for _, seed := range seeds {
			m := swiss.New[int](seed, c.hint)
			if m == nil {
				t.Fatalf("New(%d): nil", c.hint)
			}
			words := m.Controls()
			if len(words) != c.groups || len(words) != probe.Need(c.hint) {
				t.Errorf("New(%d): %d groups, want %d", c.hint, len(words), c.groups)
			}
			for g, w := range words {
				if w != 0x8080808080808080 {
					t.Errorf("New(%d): group %d is %x", c.hint, g, w)
				}
			}
			if m.Len() != 0 || m.Tombs() != 0 || len(m.Keys()) != 0 {
				t.Errorf("New(%d): %d keys, %d Deleted, %q", c.hint, m.Len(), m.Tombs(), m.Keys())
			}
			if v, ok := m.Get(""); v != 0 || ok {
				t.Errorf("New(%d): Get %d, %t", c.hint, v, ok)
			}
			if m.Delete("") || m.Delete("a") {
				t.Errorf("New(%d): Delete of what is not there", c.hint)
			}
		}
	}
}

func TestNewPastTheMostGroups(t *testing.T) {
	for _, hint := range []int{7*api.MaxGroups + 1, 8 * api.MaxGroups, math.MaxInt32, 1<<32 + 1, math.MaxInt} {
		if m := swiss.New[int](siphash.Key{}, hint); m != nil {
			t.Errorf("New(%d): %d groups", hint, len(m.Controls()))
		}
	}
}

// TestPlaceWrittenOut: where keys go whose hashes are known: the groups by WHERE, the slots from the lowest on, the bytes by WHAT.
func TestPlaceWrittenOut(t *testing.T) {
	seed := siphash.Key{K0: 0x0706050403020100, K1: 0x0f0e0d0c0b0a0908}
	empty := ""                    // 726fdb47dd0e0e31: group 0, WHAT 31
	one := "\x00"                  // 74f839c593dc67fd: group 1, WHAT 7d
	two := "\x00\x01"              // 0d6c8009d9a94f5a: group 0, WHAT 5a
	four := "\x00\x01\x02\x03"     // cf2794e0277187b7: group 1, WHAT 37
	five := "\x00\x01\x02\x03\x04" // 18765564cd99a68d: group 1, WHAT 0d
	m := swiss.New[int](seed, 14)  // two groups: WHERE's lowest bit tells which
	for i, key := range []string{empty, one, two, four, five} {
		m.Put(key, i)
	}
	want := []uint64{0x8080808080805a31, 0x80808080800d377d}
	if got := m.Controls(); !slices.Equal(got, want) {
		t.Errorf("words %x, want %x", got, want)
	}
	if got := m.Keys(); !slices.Equal(got, []string{empty, two, one, four, five}) {
		t.Errorf("keys %q", got)
	}
}

func TestEmptyTextIsAKey(t *testing.T) {
	for _, seed := range seeds {
		a := start(t, seed, 1)
		if _, ok := a.m.Get(""); ok {
			t.Error("the empty text is there at first: an Empty slot was taken for it")
		}
		a.put("", 1)
		a.values("a", "\x00")
		a.put("", 2)
		a.put("\x00", 3)
		a.values("a")
		a.delete("")
		a.values("", "a")
		a.delete("")
		a.put("", 4)
		a.shape(1, 2, 0)
		a.values("a")
	}
}

// TestLongAndOddKeys: a map holds any text, whatever the limits of commands' keys.
func TestLongAndOddKeys(t *testing.T) {
	a := start(t, siphash.Key{K0: 9}, 1)
	odd := []string{"a", "A", "a\x00", "\xff\xfe", "é", "e\u0301", strings.Repeat("k", api.MaxKey), strings.Repeat("k", api.MaxKey+1), strings.Repeat("k", 100000)}
	for i, key := range odd {
		a.put(key, i)
	}
	a.values("", "b", strings.Repeat("k", 99999))
	for _, key := range odd {
		a.delete(key)
	}
	a.values(odd...)
}

// TestPutOfAKeyThatIsThere: it changes the value alone, also where a new key would have the map rehashed.
func TestPutOfAKeyThatIsThere(t *testing.T) {
	for _, seed := range seeds {
		a := start(t, seed, 2)
		keys := append(firstIn(seed, "a", 7, 0, 2), firstIn(seed, "b", 7, 1, 2)...)
		for i, key := range keys {
			a.put(key, i)
		}
		a.shape(2, 14, 0)
		for i, key := range keys {
			a.put(key, 100+i)
		}
		a.shape(2, 14, 0)
		a.values()
	}
}

// TestSharedBytes: keys that have WHAT in common are told from each other, within one group and over several.
func TestSharedBytes(t *testing.T) {
	for _, seed := range seeds[:3] {
		a := start(t, seed, 1)
		keys := picked(seed, "s", 40, func(h uint64) bool { return h&127 == 127 })
		for i, key := range keys {
			a.put(key, i)
			a.values(keys...)
		}
		for i, key := range keys {
			if i%3 != 0 {
				a.delete(key)
				a.values(keys...)
			}
		}
	}
}

// TestByteNoughtIsFull: WHAT may be 0, which no slot without a key has.
func TestByteNoughtIsFull(t *testing.T) {
	seed := siphash.Key{K1: 5}
	a := start(t, seed, 1)
	keys := picked(seed, "n", 7, func(h uint64) bool { return h&127 == 0 })
	for i, key := range keys {
		a.put(key, i)
	}
	if got := a.m.Controls()[0]; got != 0x8000000000000000 {
		t.Errorf("%x", got)
	}
	a.values()
}

// TestSharedWhole: keys that have their group, of all groups, and WHAT in common: the lowest 10 + 7 bits.
func TestSharedWhole(t *testing.T) {
	seed := siphash.Key{K0: 77}
	a := start(t, seed, api.MaxGroups)
	keys := picked(seed, "w", 18, func(h uint64) bool { return h&(1<<17-1) == 1<<17-1 })
	for i, key := range keys {
		a.put(key, i)
	}
	words := a.m.Controls()
	for g, want := range map[int]uint64{1023: 0x7f7f7f7f7f7f7f7f, 0: 0x7f7f7f7f7f7f7f7f, 2: 0x8080808080807f7f} {
		if words[g] != want {
			t.Errorf("group %d: %x, want %x", g, words[g], want)
		}
	}
	a.values()
	for _, key := range keys {
		a.delete(key)
		a.values(keys...)
	}
	a.shape(api.MaxGroups, 0, 16)
}

// crowd: two groups, the first of eight keys and so without an Empty slot, the second of six.
func crowd(t *testing.T, seed siphash.Key) (a *trio, first, second []string) {
	t.Helper()
	a = start(t, seed, 2)
	first, second = firstIn(seed, "f", 8, 0, 2), firstIn(seed, "s", 6, 1, 2)
	for i, key := range slices.Concat(first, second) {
		a.put(key, i)
	}
	a.shape(2, 14, 0)
	if words := a.m.Controls(); group.Full(words[0]) != 0xff || group.Full(words[1]) != 0x3f {
		t.Fatalf("words %x", words)
	}
	return a, first, second
}

func TestDeleteWhereASlotIsEmpty(t *testing.T) {
	for _, seed := range seeds {
		a, _, second := crowd(t, seed)
		for i, key := range second {
			a.delete(key)
			a.shape(2, 13-i, 0)
			if got := group.Get(a.m.Controls()[1], i); got != group.Empty {
				t.Errorf("slot %d: %x", i, got)
			}
			a.values(second...)
			a.delete(key) // it is not there any more
		}
	}
}

// TestDeleteWhereNoSlotIsEmpty: Deleted slots do not become Empty ones, so all eight stay Deleted.
func TestDeleteWhereNoSlotIsEmpty(t *testing.T) {
	for _, seed := range seeds {
		a, first, second := crowd(t, seed)
		for i, key := range first {
			a.delete(key)
			a.shape(2, 13-i, i+1)
			if got := group.Get(a.m.Controls()[0], i); got != group.Deleted {
				t.Errorf("slot %d: %x", i, got)
			}
			a.values(first...)
			a.delete(key)
		}
		for _, key := range second {
			a.delete(key)
		}
		a.shape(2, 0, 8)
		a.values(slices.Concat(first, second)...)
	}
}

// TestBehindDeleted: a key whose first group was full stands in the next one, and is found there behind Deleted slots.
func TestBehindDeleted(t *testing.T) {
	for _, seed := range seeds {
		a := start(t, seed, 2)
		keys := firstIn(seed, "f", 10, 0, 2)
		for i, key := range keys {
			a.put(key, i)
		}
		if words := a.m.Controls(); group.Full(words[1]) != 3 {
			t.Fatalf("words %x", words)
		}
		for _, key := range keys[:8] {
			a.delete(key)
			a.values(keys...)
		}
		a.shape(2, 2, 8)
		a.put(keys[9], 90) // there, behind eight Deleted slots: it must not come twice
		a.shape(2, 2, 8)
		a.put(keys[3], 30) // a Deleted slot is taken, the lowest one, and is one no more
		a.shape(2, 3, 7)
		if got, want := a.m.Keys(), []string{keys[3], keys[8], keys[9]}; !slices.Equal(got, want) {
			t.Errorf("keys %q, want %q", got, want)
		}
		a.delete(keys[9])
		a.put(keys[9], 91)
		a.shape(2, 3, 6)
		a.values(keys...)
	}
}

// TestRehashWithoutDeleted: twice as many groups, at each count on the way.
func TestRehashWithoutDeleted(t *testing.T) {
	for _, seed := range seeds[:3] {
		a := start(t, seed, 1)
		groups := 1
		for n := range 450 {
			if n == 7*groups {
				groups *= 2
			}
			a.put("k"+strconv.Itoa(n), n)
			a.shape(groups, n+1, 0)
		}
		a.values("k450", "k")
	}
}

// TestRehashWithDeleted: into as many groups as long as twice the keys are at most 7 for each, else into twice as many.
func TestRehashWithDeleted(t *testing.T) {
	for _, seed := range seeds {
		for deleted := range 9 {
			a, first, second := crowd(t, seed)
			for _, key := range first[:deleted] {
				a.delete(key)
			}
			groups := 2
			if deleted < 7 { // 14 - deleted keys of 14 slots: seven are the most that are few
				groups = 4
			}
			a.shape(2, 14-deleted, deleted)
			a.put(second[0], 50)
			a.delete("new")
			a.shape(2, 14-deleted, deleted)
			a.put("new", 60)
			a.shape(groups, 15-deleted, 0)
			a.values(slices.Concat(first, second)...)
		}
	}
}

// TestDeletedBelowTheBound: one less than 7 for each group, and nothing is rehashed.
func TestDeletedBelowTheBound(t *testing.T) {
	for _, seed := range seeds {
		a, first, second := crowd(t, seed)
		for _, key := range first {
			a.delete(key)
		}
		a.delete(second[5]) // an Empty slot more
		a.shape(2, 5, 8)
		a.put(first[7], 1) // takes a Deleted one
		a.shape(2, 6, 7)
		a.put(second[5], 2) // takes the Empty one: the bound
		a.shape(2, 7, 7)
		a.put("new", 3)
		a.shape(2, 8, 0)
		a.values(slices.Concat(first, second)...)
	}
}

func TestTheMostKeys(t *testing.T) {
	for _, hint := range []int{0, api.MaxMap, 7 * api.MaxGroups} {
		m := swiss.New[int](siphash.Key{K0: 3}, hint)
		for i := range api.MaxMap {
			if is, err := m.Put(strconv.Itoa(i), i); is || err != api.OK {
				t.Fatalf("Put %d: %t, %v", i, is, err)
			}
		}
		words, keys := m.Controls(), m.Keys()
		if len(words) != max(512, probe.Need(hint)) {
			t.Errorf("hint %d: %d groups", hint, len(words))
		}
		for range 3 {
			if is, err := m.Put("one more", 5); is || err != api.ErrFull {
				t.Errorf("one more: %t, %v", is, err)
			}
		}
		if !slices.Equal(m.Controls(), words) || !slices.Equal(m.Keys(), keys) || m.Len() != api.MaxMap {
			t.Error("one more changed something")
		}
		if _, ok := m.Get("one more"); ok {
			t.Error("one more is there")
		}
		if is, err := m.Put("1999", -1); !is || err != api.OK {
			t.Errorf("a key that is there: %t, %v", is, err)
		}
		if !m.Delete("0") {
			t.Error("Delete")
		}
		if is, err := m.Put("one more", 5); is || err != api.OK || m.Len() != api.MaxMap {
			t.Errorf("behind a Delete: %t, %v, %d keys", is, err, m.Len())
		}
		for i := 1; i < api.MaxMap-1; i++ {
			if v, ok := m.Get(strconv.Itoa(i)); v != i || !ok {
				t.Fatalf("Get %d: %d, %t", i, v, ok)
			}
		}
	}
}

// bury: puts texts in and takes them out again, eight for each of these groups, so that all slots there are Deleted.
func bury(a *trio, texts [][]string) {
	a.t.Helper()
	for _, keys := range texts {
		for _, key := range keys[:8] {
			a.put(key, 1)
		}
	}
	for _, keys := range texts {
		for _, key := range keys[:8] {
			a.delete(key)
		}
	}
}

// TestFullIsNotRehashed: MaxMap keys beside so many Deleted slots that a new key would have it rehashed, were there room for one. With one key less it is, into twice as many groups: the most.
func TestFullIsNotRehashed(t *testing.T) {
	seed := siphash.Key{K0: 4, K1: 4}
	a := start(t, seed, 512)
	texts := byGroup(seed, "t", 8, 512)
	bury(a, texts[:198])
	a.shape(512, 0, 1584)
	for i, keys := range texts[198:448] {
		for _, key := range keys {
			a.put(key, i)
		}
	}
	a.shape(512, api.MaxMap, 1584)
	a.put("new", 1) // ErrFull
	a.shape(512, api.MaxMap, 1584)
	a.put(texts[198][0], 2)
	a.shape(512, api.MaxMap, 1584)
	a.delete(texts[198][0])
	a.shape(512, api.MaxMap-1, 1585)
	a.values("new", texts[0][0])
	a.put("new", 3)
	a.shape(api.MaxGroups, api.MaxMap, 0)
	a.values(texts[0][0], texts[198][0])
	a.put("newer", 1) // ErrFull
}

// TestTheMostGroupsAreRehashed: into as many, since MaxMap keys are few there.
func TestTheMostGroupsAreRehashed(t *testing.T) {
	seed := siphash.Key{K1: 6}
	a := start(t, seed, api.MaxGroups)
	texts := byGroup(seed, "t", 8, api.MaxGroups)
	for from := 0; from < 656; from += 164 { // at most MaxMap keys at a time
		bury(a, texts[from:from+164])
	}
	for _, keys := range texts[656:896] {
		for _, key := range keys {
			a.put(key, 2)
		}
	}
	a.shape(api.MaxGroups, 1920, 5248)
	a.put("new", 3)
	a.shape(api.MaxGroups, 1921, 0)
	a.values(texts[0][0], texts[655][7], texts[900][0])
}

// TestPlaceBehindFullGroups: a key goes on to the next of its groups, by their order, not to a neighbour.
func TestPlaceBehindFullGroups(t *testing.T) {
	for _, seed := range seeds {
		a := start(t, seed, 8)
		keys := firstIn(seed, "p", 56, 6, 8) // groups 6, 7, 1, 4, 0, 5, 3, 2
		for i, key := range keys {
			a.put(key, i)
		}
		a.shape(8, 56, 0)
		for g, want := range []int{8, 8, 0, 8, 8, 8, 8, 8} {
			if got := group.Count(group.Full(a.m.Controls()[g])); got != want {
				t.Errorf("group %d: %d keys, want %d", g, got, want)
			}
		}
		a.values("p", "")
		for _, key := range keys {
			a.delete(key)
		}
		a.shape(8, 0, 56)
		a.values(keys...)
		a.put(keys[55], 1)
		a.shape(8, 1, 0)
	}
}

// unmade: maps that no call made.
func unmade() map[string]*swiss.Map[string] {
	return map[string]*swiss.Map[string]{"nil": nil, "zero": {}}
}

func TestMapThatNoCallMade(t *testing.T) {
	for name, m := range unmade() {
		for _, key := range []string{"", "a", strings.Repeat("k", 1000)} {
			for range 2 { // whatever is asked, it stays so
				if is, err := m.Put(key, "v"); is || err != api.ErrMade {
					t.Errorf("%s: Put(%q): %t, %v", name, key, is, err)
				}
				if v, ok := m.Get(key); v != "" || ok {
					t.Errorf("%s: Get(%q): %q, %t", name, key, v, ok)
				}
				if m.Delete(key) {
					t.Errorf("%s: Delete(%q)", name, key)
				}
			}
		}
		if m.Len() != 0 || m.Tombs() != 0 || len(m.Controls()) != 0 || len(m.Keys()) != 0 {
			t.Errorf("%s: %d, %d, %x, %q", name, m.Len(), m.Tombs(), m.Controls(), m.Keys())
		}
		if m.Copy() != nil {
			t.Errorf("%s: Copy", name)
		}
	}
}

func TestCopyIsAlike(t *testing.T) {
	for _, seed := range seeds {
		a, first, _ := crowd(t, seed)
		for _, key := range first[:3] {
			a.delete(key)
		}
		b := *a
		b.m = a.m.Copy()
		if b.m == a.m {
			t.Fatal("the same one")
		}
		b.same("Copy")
		b.values(first...)
		b.put("new", 1) // the same seed, counts and Deleted slots: it is rehashed likewise
	}
}

// TestCopyIsChangedAlone: whichever of the two is changed, by a new value, a key more, a key less or a rehash, the other one stays.
func TestCopyIsChangedAlone(t *testing.T) {
	changes := map[string]func(m *swiss.Map[int], keys []string){
		"value":  func(m *swiss.Map[int], keys []string) { m.Put(keys[0], -1) },
		"delete": func(m *swiss.Map[int], keys []string) { m.Delete(keys[0]) },
		"all go": func(m *swiss.Map[int], keys []string) {
			for _, key := range keys {
				m.Delete(key)
			}
		},
		"rehash": func(m *swiss.Map[int], keys []string) { m.Put("new", 1) },
		"reuse": func(m *swiss.Map[int], keys []string) {
			m.Delete(keys[13])
			m.Put("new", 1)
		},
	}
	for name, change := range changes {
		for _, seed := range seeds {
			a, first, second := crowd(t, seed)
			keys := slices.Concat(first, second)
			other := a.m.Copy()
			change(other, keys)
			a.same(name + " of the copy")
			a.values("new")
			if slices.Equal(other.Keys(), a.m.Keys()) && name != "value" {
				t.Errorf("%s: the copy has not changed", name)
			}

			change(a.m, keys)
			changed := a.m
			a.m = a.m.Copy()
			if !slices.Equal(a.m.Controls(), other.Controls()) || !slices.Equal(a.m.Keys(), other.Keys()) {
				t.Errorf("%s: the same change led to unlike maps", name)
			}
			changed.Put("newer", 2)
			if !slices.Equal(a.m.Controls(), other.Controls()) || !slices.Equal(a.m.Keys(), other.Keys()) {
				t.Errorf("%s: a copy is changed with the first one", name)
			}
		}
	}
}

// TestCopySharesValues: what a value points at is not copied.
func TestCopySharesValues(t *testing.T) {
	m := swiss.New[[]int](siphash.Key{}, 0)
	list := []int{1, 2}
	m.Put("a", list)
	c := m.Copy()
	list[0] = 9
	if v, ok := c.Get("a"); !ok || v[0] != 9 {
		t.Errorf("%d, %t", v, ok)
	}
}

// TestAnswersAreNew: who changes what was answered changes nothing else, not in the room behind its end either.
func TestAnswersAreNew(t *testing.T) {
	a, _, _ := crowd(t, siphash.Key{})
	words, keys := a.m.Controls(), a.m.Keys()
	for i := range words {
		words[i] = group.None
	}
	for i := range keys {
		keys[i] = "x"
	}
	_ = append(words[:0], 1, 2)
	_ = append(keys[:0], "y", "z")
	a.same("changed answers")
	a.values()
	wide, wider := a.m.Controls(), a.m.Controls()
	wide, wider = wide[:cap(wide)], wider[:cap(wider)]
	for i := range wide {
		wide[i] = 1
	}
	if slices.Contains(wider, 1) {
		t.Error("two answers share memory")
	}
	a.same("changed room")
}

// TestDeletedValueIsLetGo: a slot without a key keeps no value.
func TestDeletedValueIsLetGo(t *testing.T) {
	m := swiss.New[*[64]int](siphash.Key{}, 0)
	put := func(key string) weak.Pointer[[64]int] {
		v := new([64]int)
		m.Put(key, v)
		return weak.Make(v)
	}
	kept, gone := put("a"), put("b")
	m.Delete("b")
	runtime.GC()
	if kept.Value() == nil || gone.Value() != nil {
		t.Errorf("a is kept: %t, b is kept: %t", kept.Value() != nil, gone.Value() != nil)
	}
	runtime.KeepAlive(m)
}

// TestKindsOfValues: values of any kind, none of them compared.
func TestKindsOfValues(t *testing.T) {
	f := swiss.New[func() int](siphash.Key{}, 0)
	f.Put("a", func() int { return 4 })
	f.Put("b", nil)
	if v, ok := f.Get("a"); !ok || v() != 4 {
		t.Error("a function")
	}
	if v, ok := f.Get("b"); !ok || v != nil {
		t.Error("a nil function")
	}
	if v, ok := f.Get("c"); ok || v != nil {
		t.Error("no function")
	}
	s := swiss.New[struct{}](siphash.Key{}, 0)
	s.Put("a", struct{}{})
	if _, ok := s.Get("a"); !ok {
		t.Error("a set")
	}
	n := swiss.New[any](siphash.Key{}, 0)
	n.Put("a", math.NaN())
	n.Put("a", []int{1})
	if v, ok := n.Get("a"); !ok || v.([]int)[0] != 1 {
		t.Error("an interface")
	}
	p := swiss.New[api.Pair](siphash.Key{}, 0)
	p.Put("a", api.Pair{Key: "k", Value: "v"})
	p.Delete("a")
	p.Put("b", api.Pair{})
	if v, ok := p.Get("b"); !ok || v != (api.Pair{}) {
		t.Errorf("a struct: %v", v)
	}
}

// dice: a row of numbers that looks like chance and is the same each time.
func dice(x uint64) func(n int) int {
	return func(n int) int {
		x ^= x << 13
		x ^= x >> 7
		x ^= x << 17
		return int((x >> 33) % uint64(n))
	}
}

// TestWhateverIsDone: Puts and Deletes by chance, of few keys that crowd a few groups and of many that do not, with several keys of hashing; held against the chapter and a map of Go's behind each step.
func TestWhateverIsDone(t *testing.T) {
	for n, seed := range seeds {
		pools := [][]string{
			picked(seed, "c", 24, func(h uint64) bool { return h>>7&7 == 3 }),
			picked(seed, "d", 60, func(h uint64) bool { return h>>7&3 == 1 && h&120 == 8 }),
			picked(seed, "e", 300, func(h uint64) bool { return h>>7&31 < 4 }),
			picked(seed, "", 700, func(uint64) bool { return true }),
		}
		for i, pool := range pools {
			next := dice(uint64(1000*n + i + 1))
			a := start(t, seed, 1<<next(4))
			for step := range 1500 {
				key := pool[next(len(pool))]
				if next(100) < 45+20*(step/300%2) { // more keys for a while, then fewer
					a.put(key, next(1000))
				} else {
					a.delete(key)
				}
				if step%20 == 0 {
					a.values(pool...)
				}
			}
			a.values(pool...)
		}
	}
}

// TestTheSameAgain: the same calls lead to the same map, slot by slot; another key of hashing to other slots and the same pairs.
func TestTheSameAgain(t *testing.T) {
	build := func(seed siphash.Key) *swiss.Map[int] {
		m := swiss.New[int](seed, 20)
		next := dice(42)
		for range 900 {
			key := strconv.Itoa(next(150))
			if next(3) == 0 {
				m.Delete(key)
			} else {
				m.Put(key, next(9))
			}
		}
		return m
	}
	a, b, c := build(seeds[1]), build(seeds[1]), build(seeds[2])
	if !slices.Equal(a.Controls(), b.Controls()) || !slices.Equal(a.Keys(), b.Keys()) {
		t.Error("the same calls, unlike maps")
	}
	if slices.Equal(a.Keys(), c.Keys()) {
		t.Error("the key of hashing is not looked at")
	}
	if a.Len() != c.Len() {
		t.Errorf("%d keys, and %d", a.Len(), c.Len())
	}
	for _, key := range a.Keys() {
		v, _ := a.Get(key)
		if w, ok := c.Get(key); !ok || v != w {
			t.Errorf("%q: %d, and %d, %t", key, v, w, ok)
		}
	}
}
