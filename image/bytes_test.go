package image_test

import (
	"bytes"
	"slices"
	"strconv"
	"strings"
	"testing"

	"corbel/api"
	"corbel/image"
	"corbel/siphash"
	"corbel/swiss"
)

// number: a count in one, two or three bytes, as chapter 1 says, written out.
func number(n int) []byte {
	switch {
	case n < 128:
		return []byte{byte(n)}
	case n < 128*128:
		return []byte{128 + byte(n/256), byte(n)}
	}
	return []byte{192 + byte(n/65536), byte(n / 256), byte(n)}
}

// plainly: what Export is to tell of these pairs.
func plainly(all []api.Pair) []byte {
	b := number(len(all))
	for _, p := range all {
		b = append(append(b, number(len(p.Key))...), p.Key...)
		b = append(append(b, number(len(p.Value))...), p.Value...)
	}
	return b
}

// asImported: a map as the chapter says that Import makes it.
func asImported(t *testing.T, seed siphash.Key, all []api.Pair) *swiss.Map[string] {
	t.Helper()
	m := swiss.New[string](seed, len(all))
	for _, p := range all {
		put(t, m, p.Key, p.Value)
	}
	return m
}

// imports: b is taken, and leads to a map that is, slot by slot, the one that the chapter says.
func imports(t *testing.T, b []byte, seed siphash.Key, want []api.Pair) {
	t.Helper()
	m, err := image.Import(b, seed)
	if m == nil || err != api.OK {
		t.Fatalf("Import(%d): %v, %v", b, m, err)
	}
	plain := asImported(t, seed, want)
	if !slices.Equal(m.Controls(), plain.Controls()) || !slices.Equal(m.Keys(), plain.Keys()) {
		t.Fatalf("Import(%d): words %x, keys %q, want %x, %q", b, m.Controls(), m.Keys(), plain.Controls(), plain.Keys())
	}
	if m.Len() != len(want) || m.Tombs() != 0 {
		t.Fatalf("Import(%d): %d keys, %d Deleted slots", b, m.Len(), m.Tombs())
	}
	for _, p := range want {
		if v, ok := m.Get(p.Key); v != p.Value || !ok {
			t.Fatalf("Get(%q): %q, %t, want %q", p.Key, v, ok, p.Value)
		}
	}
	are(t, "Pairs behind Import", image.Pairs(m), want)
}

// refuses: ErrCorrupt, and no map.
func refuses(t *testing.T, what string, b []byte) {
	t.Helper()
	for _, seed := range seeds[:2] {
		if m, err := image.Import(b, seed); m != nil || err != api.ErrCorrupt {
			t.Errorf("%s: %v, %v, want nil, %v", what, m, err, api.ErrCorrupt)
		}
	}
}

func TestExample(t *testing.T) {
	want := []byte{2, 1, 'a', 1, '1', 1, 'b', 1, '2'}
	for _, seed := range seeds {
		m := filled(t, seed, pairs("b", "2", "a", "1"))
		if got := image.Export(m); !slices.Equal(got, want) {
			t.Errorf("Export: %d, want %d", got, want)
		}
		are(t, "Range", image.Range(m, "a", "", 1), pairs("a", "1"))
		imports(t, want, seed, pairs("a", "1", "b", "2"))
	}
}

func TestExportWrittenOut(t *testing.T) {
	for _, c := range []struct {
		all  []api.Pair
		want []byte
	}{
		{nil, []byte{0}},
		{pairs("", ""), []byte{1, 0, 0}},
		{pairs("a", ""), []byte{1, 1, 'a', 0}},
		{pairs("", "a"), []byte{1, 0, 1, 'a'}},
		{pairs("b", "", "", "a"), []byte{2, 0, 1, 'a', 1, 'b', 0}},
		{pairs("ab", "1", "a", "2"), []byte{2, 1, 'a', 1, '2', 2, 'a', 'b', 1, '1'}},
		{pairs("\x80", "x", "z", "y"), []byte{2, 1, 'z', 1, 'y', 1, 128, 1, 'x'}},
		{pairs("k", strings.Repeat("v", 300)), append([]byte{1, 1, 'k', 129, 44}, strings.Repeat("v", 300)...)},
	} {
		for _, seed := range seeds {
			if got := image.Export(filled(t, seed, c.all)); !slices.Equal(got, c.want) {
				t.Errorf("%q: %d, want %d", c.all, got, c.want)
			}
			if m, err := image.Import(c.want, seed); err != api.OK || m.Len() != len(c.all) {
				t.Errorf("%q: Import %v", c.all, err)
			}
		}
	}
}

// TestThereAndBack: for as many pairs as fill some groups, and one more or less; rising and falling puts.
func TestThereAndBack(t *testing.T) {
	for _, n := range []int{0, 1, 6, 7, 8, 13, 14, 15, 28, 29, 127, 128, 129, 896, 897, api.MaxMap - 1, api.MaxMap} {
		all := numbered(n)
		for i, seed := range seeds {
			b := image.Export(filled(t, seed, backwards(all)))
			if !slices.Equal(b, plainly(all)) {
				t.Fatalf("%d pairs: another Export", n)
			}
			imports(t, b, seed, all)
			imports(t, b, seeds[(i+1)%len(seeds)], all)
		}
	}
}

func TestThereAndBackOfOdd(t *testing.T) {
	all := odd()
	for _, seed := range seeds {
		b := image.Export(filled(t, seed, backwards(all)))
		if !slices.Equal(b, plainly(all)) {
			t.Fatalf("Export: %d", b)
		}
		for _, other := range seeds {
			imports(t, b, other, all)
		}
	}
}

// TestLongTexts: counts of one byte, two and three; keys and values longer than a command's may be are a map's too.
func TestLongTexts(t *testing.T) {
	var all []api.Pair
	for i, n := range []int{0, 1, api.MaxKey, api.MaxKey + 1, 127, 128, api.MaxValue, api.MaxValue + 1, 16383, 16384, 100000} {
		key := string(rune('a' + i))
		all = append(all, api.Pair{Key: key, Value: strings.Repeat("v", n)})
		all = append(all, api.Pair{Key: key + strings.Repeat("k", n), Value: key})
	}
	all = slices.Delete(all, 1, 2) // the key a twice
	for _, seed := range seeds {
		b := image.Export(filled(t, seed, backwards(all)))
		if !slices.Equal(b, plainly(all)) {
			t.Fatal("another Export")
		}
		imports(t, b, seed, all)
	}
}

// TestManyLongValues: it takes no longer than its bytes are many.
func TestManyLongValues(t *testing.T) {
	all := numbered(api.MaxMap)
	for i := range all {
		all[i].Value = strings.Repeat(all[i].Value, 2000)
	}
	b := image.Export(filled(t, seeds[3], all))
	if !slices.Equal(b, plainly(all)) {
		t.Fatal("another Export")
	}
	m, err := image.Import(b, seeds[2])
	if err != api.OK || !slices.Equal(image.Export(m), b) {
		t.Fatalf("Import: %v", err)
	}
}

// TestExportOfUnlikePasts: the bytes are the same, whatever the seed, the room and what was deleted.
func TestExportOfUnlikePasts(t *testing.T) {
	all := numbered(20)
	want := plainly(all)
	for _, seed := range seeds {
		m := swiss.New[string](seed, api.MaxMap)
		for _, p := range numbered(1500) {
			put(t, m, p.Key, "first")
		}
		for _, p := range numbered(1500)[20:] {
			remove(t, m, p.Key)
		}
		for _, p := range all {
			put(t, m, p.Key, p.Value)
		}
		if got := image.Export(m); !slices.Equal(got, want) {
			t.Errorf("many groups: %d", got)
		}
		if got := image.Export(m.Copy()); !slices.Equal(got, want) {
			t.Errorf("a copy: %d", got)
		}
		if got := image.Export(filled(t, seed, backwards(all))); !slices.Equal(got, want) {
			t.Errorf("few groups: %d", got)
		}
	}
}

func TestWrongBytes(t *testing.T) {
	twoThousand := plainly(numbered(api.MaxMap))
	oneMore := plainly(numbered(api.MaxMap + 1))
	for what, b := range map[string][]byte{
		"none at all":                         nil,
		"an empty list":                       {},
		"a count that is cut":                 {128},
		"a count of nine bytes that is cut":   {255, 0, 0, 0, 0, 0, 0, 7},
		"a count of 2^64 - 1":                 {255, 255, 255, 255, 255, 255, 255, 255, 255},
		"a count of 2^63":                     {255, 128, 0, 0, 0, 0, 0, 0, 0},
		"a count of nought in two bytes":      {128, 0},
		"a count of one in two bytes":         {128, 1, 1, 'a', 1, '1'},
		"a count of 127 in two bytes":         append([]byte{128, 127}, plainly(numbered(127))[1:]...),
		"a count of one in nine bytes":        {255, 0, 0, 0, 0, 0, 0, 0, 1, 1, 'a', 1, '1'},
		"one pair, but there is none":         {1},
		"one pair, but there is a key alone":  {1, 1, 'a'},
		"two pairs, but there is one":         {2, 1, 'a', 1, '1'},
		"three, but there are two":            {3, 1, 'a', 1, '1', 1, 'b', 1, '2'},
		"MaxMap pairs, but there are none":    number(api.MaxMap),
		"MaxMap, the last value is cut":       twoThousand[:len(twoThousand)-1],
		"MaxMap, and a byte more":             append(slices.Clone(twoThousand), 0),
		"none, but there is one":              {0, 1, 'a', 1, '1'},
		"one, but there are two":              {1, 1, 'a', 1, '1', 1, 'b', 1, '2'},
		"MaxMap, but there is one more":       append(number(api.MaxMap), oneMore[2:]...),
		"above MaxMap":                        oneMore,
		"above MaxMap, and none":              number(api.MaxMap + 1),
		"a key's count in two bytes":          {1, 128, 1, 'a', 1, '1'},
		"a value's count in two bytes":        {1, 1, 'a', 128, 1, '1'},
		"an empty value's count in two bytes": {1, 1, 'a', 128, 0},
		"a count of 63 in three bytes":        append([]byte{1, 1, 'a', 192, 0, 63}, strings.Repeat("v", 63)...),
		"a key that is cut":                   {1, 2, 'a'},
		"a value that is cut":                 {1, 1, 'a', 2, '1'},
		"a value without its count":           {1, 1, 'a'},
		"a count of a text that is cut":       {1, 1, 'a', 129},
		"a text of 2^64 - 1 bytes":            {1, 255, 255, 255, 255, 255, 255, 255, 255, 255, 'a'},
		"a text of 2^63 bytes":                {1, 1, 'a', 255, 128, 0, 0, 0, 0, 0, 0, 0, '1'},
		"keys that fall":                      {2, 1, 'b', 1, '2', 1, 'a', 1, '1'},
		"keys that fall at the end":           {3, 1, 'a', 0, 1, 'c', 0, 1, 'b', 0},
		"keys that fall at the beginning":     {3, 1, 'b', 0, 1, 'a', 0, 1, 'c', 0},
		"a key ahead of its beginning":        {2, 2, 'a', 'b', 0, 1, 'a', 0},
		"by signed bytes":                     {2, 1, 128, 0, 1, 'a', 0},
		"the empty key behind another":        {2, 1, 'a', 0, 0, 0},
		"a key twice":                         {2, 1, 'a', 1, '1', 1, 'a', 1, '2'},
		"a pair twice":                        {2, 1, 'a', 1, '1', 1, 'a', 1, '1'},
		"the empty key twice":                 {2, 0, 1, '1', 0, 1, '2'},
		"a key twice, later":                  {3, 1, 'a', 0, 1, 'b', 0, 1, 'b', 0},
		"more behind the last pair":           {1, 1, 'a', 1, '1', 0},
		"more behind no pair":                 {0, 0},
		"another one behind it":               {1, 1, 'a', 1, '1', 1, 1, 'b', 1, '2'},
	} {
		refuses(t, what, b)
	}
	imports(t, twoThousand, seeds[1], numbered(api.MaxMap))
}

// TestBytesAreNotChangedNorKept: those handed in stay, with the room behind their end, and a map does not hang on them any more.
func TestBytesAreNotChangedNorKept(t *testing.T) {
	all := numbered(9)
	room := append(plainly(all), 7, 7, 7)
	was := slices.Clone(room)
	b := room[:len(room)-3]
	m, err := image.Import(b, seeds[1])
	if err != api.OK || !slices.Equal(room, was) {
		t.Fatalf("%v, bytes %d, want %d", err, room, was)
	}
	for i := range room {
		room[i] = 'x'
	}
	are(t, "behind a change of the bytes", image.Pairs(m), all)
	for _, wrong := range [][]byte{{2, 1, 'b', 0, 1, 'a', 0}, {1, 2, 'a'}, {0, 1, 2}, {128, 0}} {
		was := slices.Clone(wrong)
		refuses(t, "wrong bytes", wrong)
		if !slices.Equal(wrong, was) {
			t.Errorf("wrong bytes %d were changed: %d", was, wrong)
		}
	}
}

// parse: what the bytes tell, read plainly; false, if Export tells no such bytes.
func parse(b []byte) ([]api.Pair, bool) {
	take := func() (int, bool) { // counts up to 2^14, in the fewest bytes
		switch {
		case len(b) > 0 && b[0] < 128:
			n := int(b[0])
			b = b[1:]
			return n, true
		case len(b) > 1 && b[0] < 192 && 256*int(b[0]-128)+int(b[1]) > 127:
			n := 256*int(b[0]-128) + int(b[1])
			b = b[2:]
			return n, true
		}
		return 0, false
	}
	count, ok := take()
	if !ok || count > 2000 {
		return nil, false
	}
	var texts []string
	for range 2 * count {
		n, ok := take()
		if !ok || n > len(b) {
			return nil, false
		}
		texts = append(texts, string(b[:n]))
		b = b[n:]
	}
	all := pairs(texts...)
	for i := range all {
		if i > 0 && bytes.Compare([]byte(all[i-1].Key), []byte(all[i].Key)) >= 0 {
			return nil, false
		}
	}
	return all, len(b) == 0
}

// judge: Import takes just the bytes that Export tells, and tells ErrCorrupt of all others.
func judge(t *testing.T, b []byte) bool {
	t.Helper()
	want, right := parse(b)
	m, err := image.Import(b, seeds[1])
	if !right {
		if m != nil || err != api.ErrCorrupt {
			t.Fatalf("Import(%d): %v, %v, want ErrCorrupt", b, m, err)
		}
		return false
	}
	if err != api.OK {
		t.Fatalf("Import(%d): %v", b, err)
	}
	are(t, "Import", image.Pairs(m), want)
	if got := image.Export(m); !slices.Equal(got, b) {
		t.Fatalf("Export behind Import: %d, want %d", got, b)
	}
	return true
}

// TestAllShortBytes: all of up to two bytes, and of up to seven of some bytes.
func TestAllShortBytes(t *testing.T) {
	for x := range 256 {
		judge(t, []byte{byte(x)})
		for y := range 256 {
			judge(t, []byte{byte(x), byte(y)})
		}
	}
	some := []byte{0, 1, 2, 3, 'a', 128, 255}
	right := 0
	var grow func(b []byte)
	grow = func(b []byte) {
		if judge(t, b) {
			right++
		}
		if len(b) == 7 {
			return
		}
		for _, x := range some {
			grow(append(b[:len(b):len(b)], x))
		}
	}
	grow(nil)
	if right < 100 {
		t.Errorf("only %d were right", right)
	}
}

// TestOneByteOff: cut at each place, a byte more at each place, a byte less, each bit turned.
func TestOneByteOff(t *testing.T) {
	long := strings.Repeat("l", 130)
	for _, all := range [][]api.Pair{nil, pairs("", ""), pairs("a", "1", "b", "2"), pairs("", "1", "a", "", "a"+long, long), odd()} {
		b := plainly(all)
		if !judge(t, b) {
			t.Fatalf("%d: not taken", b)
		}
		for i := range b {
			if judge(t, b[:i]) {
				t.Fatalf("%d cut at %d is taken", b, i)
			}
			judge(t, slices.Delete(slices.Clone(b), i, i+1))
			for bit := range 8 {
				other := slices.Clone(b)
				other[i] ^= 1 << bit
				judge(t, other)
			}
		}
		for i := range len(b) + 1 {
			for _, x := range []byte{0, 1, 'a', 128, 255} {
				judge(t, slices.Insert(slices.Clone(b), i, x))
			}
		}
	}
}

// TestImportOfTheSameAgain: the same bytes lead to the same map, and each to one of its own.
func TestImportOfTheSameAgain(t *testing.T) {
	b := plainly(numbered(40))
	x, _ := image.Import(b, seeds[1])
	y, _ := image.Import(b, seeds[1])
	z, _ := image.Import(b, seeds[2])
	if !slices.Equal(x.Controls(), y.Controls()) || !slices.Equal(x.Keys(), y.Keys()) {
		t.Error("the same bytes, unlike maps")
	}
	if slices.Equal(x.Keys(), z.Keys()) {
		t.Error("the key of hashing is not looked at")
	}
	if !image.Same(x, y) || !image.Same(x, z) {
		t.Error("not the Same")
	}
	remove(t, x, "k10000")
	put(t, x, "new", "")
	if image.Same(x, y) || y.Len() != 40 {
		t.Error("two maps are changed at once")
	}
	for i := range 2000 - 40 { // it grows as others do
		put(t, y, "more"+strconv.Itoa(i), "")
	}
	if _, err := y.Put("one more", ""); err != api.ErrFull {
		t.Errorf("one more: %v", err)
	}
}
