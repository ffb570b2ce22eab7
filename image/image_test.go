package image_test

import (
	"math"
	"slices"
	"strconv"
	"testing"

	"corbel/api"
	"corbel/image"
	"corbel/siphash"
	"corbel/swiss"
)

// seeds: several keys of hashing.
var seeds = []siphash.Key{
	{},
	{K0: 1, K1: 2},
	{K0: 0x0706050403020100, K1: 0x0f0e0d0c0b0a0908},
	{K0: 1<<64 - 1, K1: 1<<64 - 1},
	{K0: 1 << 63},
}

// pairs: of texts, a key and its value by turns.
func pairs(texts ...string) []api.Pair {
	var all []api.Pair
	for i := 0; i+1 < len(texts); i += 2 {
		all = append(all, api.Pair{Key: texts[i], Value: texts[i+1]})
	}
	return all
}

// filled: a map into which these were put, one behind the other.
func filled(t *testing.T, seed siphash.Key, all []api.Pair) *swiss.Map[string] {
	t.Helper()
	m := swiss.New[string](seed, 0)
	for _, p := range all {
		put(t, m, p.Key, p.Value)
	}
	return m
}

func put(t *testing.T, m *swiss.Map[string], key, value string) {
	t.Helper()
	if _, err := m.Put(key, value); err != api.OK {
		t.Fatalf("Put(%q): %v", key, err)
	}
}

func remove(t *testing.T, m *swiss.Map[string], keys ...string) {
	t.Helper()
	for _, key := range keys {
		if !m.Delete(key) {
			t.Fatalf("Delete(%q): it was not there", key)
		}
	}
}

// numbered: n pairs, k10000 v0 first, their keys rising.
func numbered(n int) []api.Pair {
	var all []api.Pair
	for i := range n {
		all = append(all, api.Pair{Key: "k" + strconv.Itoa(10000+i), Value: "v" + strconv.Itoa(i)})
	}
	return all
}

// backwards: the last one first.
func backwards(all []api.Pair) []api.Pair {
	all = slices.Clone(all)
	slices.Reverse(all)
	return all
}

// are: the pairs are those.
func are(t *testing.T, what string, got, want []api.Pair) {
	t.Helper()
	if !slices.Equal(got, want) {
		t.Fatalf("%s: %q, want %q", what, got, want)
	}
}

// unmade: maps that no call made.
func unmade() map[string]*swiss.Map[string] {
	return map[string]*swiss.Map[string]{
		"nil":       nil,
		"zero":      {},
		"too great": swiss.New[string](siphash.Key{}, math.MaxInt),
	}
}

// firstIn: n texts whose first group, of so many, is that one.
func firstIn(seed siphash.Key, prefix string, n, g, groups int) []string {
	var all []string
	for i := 0; len(all) < n; i++ {
		key := prefix + strconv.Itoa(i)
		where, _ := siphash.Split(siphash.Sum(seed, key))
		if where%uint64(groups) == uint64(g) {
			all = append(all, key)
		}
	}
	return all
}

// crowded: a map of 2 groups with 7 Deleted slots and 7 keys; and the keys that it has, and has no more.
func crowded(t *testing.T, seed siphash.Key) (m *swiss.Map[string], there, gone []string) {
	t.Helper()
	first, second := firstIn(seed, "f", 8, 0, 2), firstIn(seed, "s", 6, 1, 2)
	m = swiss.New[string](seed, 14)
	for _, key := range slices.Concat(first, second) {
		put(t, m, key, "of "+key)
	}
	remove(t, m, first[:7]...)
	if m.Tombs() != 7 || m.Len() != 7 || len(m.Controls()) != 2 {
		t.Fatalf("%d Deleted slots, %d keys, %d groups", m.Tombs(), m.Len(), len(m.Controls()))
	}
	there = slices.Concat(first[7:], second)
	slices.Sort(there)
	return m, there, first[:7]
}

// ofKeys: the pairs of crowded's keys.
func ofKeys(keys []string) []api.Pair {
	var all []api.Pair
	for _, key := range keys {
		all = append(all, api.Pair{Key: key, Value: "of " + key})
	}
	return all
}

func TestPairsByKeys(t *testing.T) {
	for _, seed := range seeds {
		for _, n := range []int{0, 1, 2, 7, 8, 100, api.MaxMap} {
			want := numbered(n)
			are(t, "put rising", image.Pairs(filled(t, seed, want)), want)
			are(t, "put falling", image.Pairs(filled(t, seed, backwards(want))), want)
		}
	}
}

// odd: keys in the order of bytes: the empty one, beginnings of others, bytes above 127, those that are no text of runes; with values of any kind.
func odd() []api.Pair {
	return pairs(
		"", "the empty key",
		"\x00", "",
		"\x00\x00", "\x00",
		"\x01", "1",
		"9", "a",
		"A", "capital",
		"B", "B",
		"a", "",
		"a\x00", "a",
		"aa", "",
		"ab", "b",
		"a\x7f", "del",
		"a\x80", "\x80",
		"b", "\xff\xff",
		"z", "z",
		"\x7f", "ascii's last",
		"\x80", "",
		"\xc3", "half of a rune",
		"\xc3\xa4", "a rune",
		"\xc3\xa4b", "and more",
		"\xe2\x82\xac", "",
		"\xf0\x9f\x98\x80", "four bytes",
		"\xff", "",
		"\xff\x00", "0",
		"\xff\xff", "",
	)
}

func TestPairsByBytes(t *testing.T) {
	want := odd()
	for _, seed := range seeds {
		are(t, "rising", image.Pairs(filled(t, seed, want)), want)
		are(t, "falling", image.Pairs(filled(t, seed, backwards(want))), want)
	}
}

func TestPairsOfNow(t *testing.T) {
	for _, seed := range seeds {
		m := filled(t, seed, pairs("b", "1", "a", "2", "c", "3"))
		put(t, m, "b", "4")
		are(t, "a new value", image.Pairs(m), pairs("a", "2", "b", "4", "c", "3"))
		remove(t, m, "a")
		are(t, "a key less", image.Pairs(m), pairs("b", "4", "c", "3"))
		put(t, m, "a", "5")
		are(t, "put again", image.Pairs(m), pairs("a", "5", "b", "4", "c", "3"))
		remove(t, m, "a", "b", "c")
		are(t, "none left", image.Pairs(m), nil)
	}
}

// TestDeletedSlotsAndRehash: neither is seen, in any of the calls.
func TestDeletedSlotsAndRehash(t *testing.T) {
	for _, seed := range seeds {
		m, there, gone := crowded(t, seed)
		check := func(what string, want []api.Pair) {
			t.Helper()
			are(t, what, image.Pairs(m), want)
			are(t, what, image.Range(m, "", "", 100), want)
			are(t, what, image.Range(m, gone[0], "", 100), image.Range(filled(t, siphash.Key{}, want), gone[0], "", 100))
			if got := image.Export(m); !slices.Equal(got, plainly(want)) {
				t.Fatalf("%s: Export %d", what, got)
			}
			if !image.Same(m, filled(t, siphash.Key{K0: 77}, want)) {
				t.Fatalf("%s: not the Same", what)
			}
		}
		check("Deleted slots", ofKeys(there))
		put(t, m, "new", "n") // into as many groups
		if m.Tombs() != 0 || len(m.Controls()) != 2 {
			t.Fatalf("%d Deleted slots, %d groups", m.Tombs(), len(m.Controls()))
		}
		want := slices.Concat(ofKeys(there), pairs("new", "n"))
		slices.SortFunc(want, func(a, b api.Pair) int { return slices.Compare([]byte(a.Key), []byte(b.Key)) })
		check("rehashed", want)
		more := numbered(30) // into more groups
		for _, p := range more {
			put(t, m, p.Key, p.Value)
		}
		if len(m.Controls()) != 8 {
			t.Fatalf("%d groups", len(m.Controls()))
		}
		for _, p := range more {
			remove(t, m, p.Key)
		}
		check("grown", want)
	}
}

// TestNothingIsChanged: whatever is asked, the map is as it was, slot by slot.
func TestNothingIsChanged(t *testing.T) {
	m, there, _ := crowded(t, seeds[1])
	words, keys := m.Controls(), m.Keys()
	image.Pairs(m)
	image.Range(m, "f", "s", 3)
	image.Export(m)
	image.Same(m, m)
	image.Same(m, filled(t, seeds[2], ofKeys(there)))
	if !slices.Equal(m.Controls(), words) || !slices.Equal(m.Keys(), keys) || m.Tombs() != 7 {
		t.Error("a slot has changed")
	}
	are(t, "behind all calls", image.Pairs(m), ofKeys(there))
}

func TestAnswersAreNew(t *testing.T) {
	m := filled(t, seeds[1], numbered(20))
	spoil := func(all []api.Pair) {
		all = all[:cap(all)]
		for i := range all {
			all[i] = api.Pair{Key: "x", Value: "y"}
		}
	}
	first, second := image.Pairs(m), image.Range(m, "", "", 20)
	spoil(image.Pairs(m))
	spoil(image.Range(m, "", "", 20))
	spoil(image.Range(m, "k10003", "", 2))
	b, other := image.Export(m), image.Export(m)
	clear(b[:cap(b)])
	if !slices.Equal(other, plainly(numbered(20))) {
		t.Errorf("Export: %d", other)
	}
	are(t, "Pairs", first, numbered(20))
	are(t, "Range", second, numbered(20))
	are(t, "the map", image.Pairs(m), numbered(20))
	put(t, m, "k10000", "changed")
	remove(t, m, "k10001")
	are(t, "Pairs of before", first, numbered(20))
	are(t, "Range of before", second, numbered(20))
}

func TestRangeBounds(t *testing.T) {
	all := pairs("b", "1", "d", "2", "da", "3", "f", "", "\x80", "5")
	for _, seed := range seeds {
		m := filled(t, seed, backwards(all))
		for _, c := range []struct {
			from, until string
			first, end  int
		}{
			{"", "", 0, 5},
			{"a", "", 0, 5},        // ahead of all
			{"b", "", 0, 5},        // a key
			{"b\x00", "", 1, 5},    // just behind one
			{"c", "", 1, 5},        // between two
			{"d", "", 1, 5},        // a key, the beginning of the next one
			{"d\x00", "", 2, 5},    // between these
			{"da", "", 2, 5},       //
			{"f", "", 3, 5},        //
			{"g", "", 4, 5},        //
			{"\x7f", "", 4, 5},     // bytes, not signed ones
			{"\x80", "", 4, 5},     // the last key
			{"\x80\x00", "", 5, 5}, // beyond all keys
			{"\xff", "", 5, 5},     //
			{"", "a", 0, 0},        // an until ahead of all
			{"", "b", 0, 0},        // the first key is not ahead of itself
			{"", "b\x00", 0, 1},    //
			{"", "d", 0, 1},        //
			{"", "da", 0, 2},       //
			{"", "e", 0, 3},        // between two
			{"", "\x80", 0, 4},     // the last key
			{"", "\x81", 0, 5},     // beyond all
			{"c", "e", 1, 3},       //
			{"b", "f", 0, 3},       //
			{"d", "da", 1, 2},      //
			{"c", "d", 1, 1},       // none in between
			{"d", "d", 1, 1},       // from itself
			{"f", "d", 3, 3},       // an until ahead of from
			{"\xff", "a", 5, 5},    //
			{"\xff", "b", 5, 5},    //
			{"da", "d", 2, 2},      //
		} {
			want := all[c.first:c.end]
			for _, limit := range []int{math.MinInt, -1, 0, 1, 2, 3, 4, 5, 6, math.MaxInt} {
				what := strconv.Quote(c.from) + " " + strconv.Quote(c.until) + " " + strconv.Itoa(limit)
				are(t, what, image.Range(m, c.from, c.until, limit), want[:max(0, min(limit, len(want)))])
			}
		}
	}
}

// TestRangeLimit: below 1, 1, as many as there are, one less and one more.
func TestRangeLimit(t *testing.T) {
	all := numbered(10)
	m := filled(t, seeds[4], all)
	for limit, want := range map[int]int{math.MinInt: 0, -10: 0, -1: 0, 0: 0, 1: 1, 9: 9, 10: 10, 11: 10, math.MaxInt: 10} {
		are(t, "limit "+strconv.Itoa(limit), image.Range(m, "", "", limit), all[:want])
	}
	for limit, want := range map[int]int{0: 0, 1: 1, 4: 4, 5: 5, 6: 5, math.MaxInt: 5} {
		are(t, "limit "+strconv.Itoa(limit), image.Range(m, "k10002", "k10007", limit), all[2:2+want])
	}
	most := numbered(api.MaxMap)
	m = filled(t, seeds[4], most)
	are(t, "more than a scan's", image.Range(m, "", "", api.MaxMap), most)
	are(t, "more than a scan's", image.Range(m, "k10001", "", api.MaxScan+1), most[1:api.MaxScan+2])
}

// TestRangeOfOdd: the empty key is the first one, and an empty until no key.
func TestRangeOfOdd(t *testing.T) {
	all := odd()
	for _, seed := range seeds {
		m := filled(t, seed, backwards(all))
		are(t, "the empty key", image.Range(m, "", "\x00", 9), all[:1])
		for i, p := range all {
			are(t, "from "+strconv.Quote(p.Key), image.Range(m, p.Key, "", 100), all[i:])
			are(t, "one from "+strconv.Quote(p.Key), image.Range(m, p.Key, "", 1), all[i:i+1])
			if i > 0 {
				are(t, "until "+strconv.Quote(p.Key), image.Range(m, "", p.Key, 100), all[:i])
			}
		}
	}
}

func TestSameWhateverSeedAndPast(t *testing.T) {
	all := numbered(7)
	for _, a := range seeds {
		for _, b := range seeds {
			x, y := filled(t, a, all), filled(t, b, numbered(300))
			for _, p := range numbered(300)[7:] {
				remove(t, y, p.Key)
			}
			if !image.Same(x, y) || !image.Same(y, x) || !image.Same(x, x) {
				t.Errorf("%v, %v: not the Same", a, b)
			}
			put(t, y, all[3].Key, "another value")
			if image.Same(x, y) || image.Same(y, x) {
				t.Errorf("%v, %v: the Same though a value is another", a, b)
			}
			put(t, y, all[3].Key, all[3].Value)
			if !image.Same(x, y) {
				t.Errorf("%v, %v: not the Same again", a, b)
			}
		}
	}
}

func TestNotTheSame(t *testing.T) {
	for _, c := range []struct {
		what string
		a, b []api.Pair
	}{
		{"one more", pairs("a", "1"), pairs("a", "1", "b", "2")},
		{"one ahead", pairs("b", "2"), pairs("a", "1", "b", "2")},
		{"another key", pairs("a", "1"), pairs("b", "1")},
		{"another value", pairs("a", "1"), pairs("a", "2")},
		{"values changed over", pairs("a", "1", "b", "2"), pairs("a", "2", "b", "1")},
		{"key and value changed over", pairs("a", "1"), pairs("1", "a")},
		{"the empty key, and none", pairs("", ""), nil},
		{"an empty value, and none", pairs("a", ""), nil},
		{"other places of what is alike", pairs("ab", "c"), pairs("a", "bc")},
		{"the last value", numbered(50), append(numbered(49), api.Pair{Key: "k10049", Value: "v"})},
	} {
		for _, seed := range seeds {
			x, y := filled(t, seed, c.a), filled(t, seeds[1], c.b)
			if image.Same(x, y) || image.Same(y, x) {
				t.Errorf("%s: the Same", c.what)
			}
		}
	}
}

func TestMapsWithoutPairs(t *testing.T) {
	emptied := filled(t, seeds[2], numbered(100))
	for _, p := range numbered(100) {
		remove(t, emptied, p.Key)
	}
	all := unmade()
	all["one group"] = swiss.New[string](seeds[1], 0)
	all["many groups"] = swiss.New[string](seeds[1], api.MaxMap)
	all["emptied"] = emptied
	some := filled(t, seeds[1], pairs("", ""))
	for name, m := range all {
		if got := image.Pairs(m); len(got) != 0 {
			t.Errorf("%s: Pairs %q", name, got)
		}
		for _, limit := range []int{math.MinInt, 0, 1, math.MaxInt} {
			for _, bounds := range [][2]string{{"", ""}, {"a", ""}, {"", "a"}, {"a", "b"}, {"b", "a"}} {
				if got := image.Range(m, bounds[0], bounds[1], limit); len(got) != 0 {
					t.Errorf("%s: Range %q", name, got)
				}
			}
		}
		if got := image.Export(m); !slices.Equal(got, []byte{0}) {
			t.Errorf("%s: Export %d", name, got)
		}
		for other, o := range all {
			if !image.Same(m, o) {
				t.Errorf("%s, %s: not the Same", name, other)
			}
		}
		if image.Same(m, some) || image.Same(some, m) {
			t.Errorf("%s: the Same as one pair", name)
		}
	}
}
