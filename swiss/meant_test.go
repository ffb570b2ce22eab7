package swiss_test

import (
	"maps"
	"slices"
	"strconv"
	"testing"

	"corbel/api"
	"corbel/siphash"
	"corbel/swiss"
)

// seeds: several keys of hashing.
var seeds = []siphash.Key{
	{},
	{K0: 1, K1: 2},
	{K0: 0x0706050403020100, K1: 0x0f0e0d0c0b0a0908},
	{K0: 1<<64 - 1, K1: 1<<64 - 1},
	{K0: 1 << 63},
}

// Bytes of slots that are not full, written out.
const (
	emptyByte   = 0x80
	deletedByte = 0xfe
)

// cell is one slot, told plainly.
type cell struct {
	control byte
	key     string
	value   int
}

// plain is the chapter's map, word by word: rows of eight cells that are looked at one by one, and what is counted is counted anew.
type plain struct {
	seed siphash.Key
	rows [][8]cell
}

func newPlain(seed siphash.Key, groups int) *plain {
	p := &plain{seed: seed, rows: make([][8]cell, groups)}
	for g := range p.rows {
		for i := range p.rows[g] {
			p.rows[g][i].control = emptyByte
		}
	}
	return p
}

// order: the groups of a key, in their order, and its slot's byte.
func (p *plain) order(key string) ([]int, byte) {
	h := siphash.Sum(p.seed, key)
	n := uint64(len(p.rows))
	var all []int
	at := h / 128 % n
	for i := range n {
		at = (at + i) % n
		all = append(all, int(at))
	}
	return all, byte(h % 128)
}

// count: how many slots have a byte from low up to high.
func (p *plain) count(low, high byte) int {
	n := 0
	for _, row := range p.rows {
		n += countIn(row, low, high)
	}
	return n
}

func countIn(row [8]cell, low, high byte) int {
	n := 0
	for _, c := range row {
		if low <= c.control && c.control <= high {
			n++
		}
	}
	return n
}

func (p *plain) keys() int  { return p.count(0, 127) }
func (p *plain) tombs() int { return p.count(deletedByte, deletedByte) }

// find: the cell of a key, and its group; nil, if it is not there.
func (p *plain) find(key string) (*cell, int) {
	groups, what := p.order(key)
	for _, g := range groups {
		for i := range p.rows[g] {
			if c := &p.rows[g][i]; c.control == what && c.key == key {
				return c, g
			}
		}
		if countIn(p.rows[g], emptyByte, emptyByte) > 0 {
			return nil, 0
		}
	}
	return nil, 0
}

func (p *plain) put(key string, v int) (bool, api.Errno) {
	if c, _ := p.find(key); c != nil {
		c.value = v
		return true, api.OK
	}
	if p.keys() == 2000 {
		return false, api.ErrFull
	}
	if room := 7 * len(p.rows); p.keys()+p.tombs() == room {
		if p.tombs() > 0 && p.keys()+p.keys() <= room {
			p.rehash(len(p.rows))
		} else {
			p.rehash(2 * len(p.rows))
		}
	}
	p.place(key, v)
	return false, api.OK
}

func (p *plain) place(key string, v int) {
	groups, what := p.order(key)
	for _, g := range groups {
		for i := range p.rows[g] {
			if c := &p.rows[g][i]; c.control == emptyByte || c.control == deletedByte {
				*c = cell{what, key, v}
				return
			}
		}
	}
}

func (p *plain) rehash(groups int) {
	next := newPlain(p.seed, groups)
	for _, row := range p.rows {
		for _, c := range row {
			if c.control < 128 {
				next.place(c.key, c.value)
			}
		}
	}
	p.rows = next.rows
}

func (p *plain) delete(key string) bool {
	c, g := p.find(key)
	if c == nil {
		return false
	}
	mark := byte(deletedByte)
	if countIn(p.rows[g], emptyByte, emptyByte) > 0 {
		mark = emptyByte
	}
	*c = cell{control: mark}
	return true
}

func (p *plain) controls() []uint64 {
	var all []uint64
	for _, row := range p.rows {
		w := uint64(0)
		for i := 7; i >= 0; i-- {
			w = w*256 + uint64(row[i].control)
		}
		all = append(all, w)
	}
	return all
}

func (p *plain) names() []string {
	var all []string
	for _, row := range p.rows {
		for _, c := range row {
			if c.control < 128 {
				all = append(all, c.key)
			}
		}
	}
	return all
}

// trio is a map of the program's, the chapter's told plainly, and a map of Go's: whatever is done is done to all three, and held against each other.
type trio struct {
	t    *testing.T
	m    *swiss.Map[int]
	p    *plain
	last map[string]int
}

func start(t *testing.T, seed siphash.Key, groups int) *trio {
	t.Helper()
	a := &trio{t, swiss.New[int](seed, 7*groups), newPlain(seed, groups), map[string]int{}}
	if a.m == nil {
		t.Fatalf("New for %d groups: nil", groups)
	}
	a.same("New")
	return a
}

func (a *trio) put(key string, v int) {
	a.t.Helper()
	_, there := a.last[key]
	wantIs, wantErr := a.p.put(key, v)
	if wantErr == api.OK {
		if wantIs != there {
			a.t.Fatalf("the plain map lost %q", key)
		}
		a.last[key] = v
	}
	if is, err := a.m.Put(key, v); is != wantIs || err != wantErr {
		a.t.Fatalf("Put(%q): %t, %v, want %t, %v", key, is, err, wantIs, wantErr)
	}
	a.same("Put " + strconv.Quote(key))
}

func (a *trio) delete(key string) {
	a.t.Helper()
	_, there := a.last[key]
	want := a.p.delete(key)
	if want != there {
		a.t.Fatalf("the plain map lost %q", key)
	}
	delete(a.last, key)
	if is := a.m.Delete(key); is != want {
		a.t.Fatalf("Delete(%q): %t", key, is)
	}
	a.same("Delete " + strconv.Quote(key))
}

// same: do the words, the keys and the counts agree?
func (a *trio) same(what string) {
	a.t.Helper()
	if got, want := a.m.Controls(), a.p.controls(); !slices.Equal(got, want) {
		a.t.Fatalf("%s: words\n%x, want\n%x", what, got, want)
	}
	if got, want := a.m.Keys(), a.p.names(); !slices.Equal(got, want) {
		a.t.Fatalf("%s: keys %q, want %q", what, got, want)
	}
	if got := a.m.Len(); got != len(a.last) {
		a.t.Fatalf("%s: Len %d, want %d", what, got, len(a.last))
	}
	if got, want := a.m.Tombs(), a.p.tombs(); got != want {
		a.t.Fatalf("%s: Tombs %d, want %d", what, got, want)
	}
	if got := a.m.Len() + a.m.Tombs(); got > 7*len(a.m.Controls()) {
		a.t.Fatalf("%s: %d keys and Deleted slots in %d groups", what, got, len(a.m.Controls()))
	}
}

// values: has each key the value that it was Put last, and have the others none?
func (a *trio) values(others ...string) {
	a.t.Helper()
	for key, want := range a.last {
		if v, ok := a.m.Get(key); !ok || v != want {
			a.t.Fatalf("Get(%q): %d, %t, want %d", key, v, ok, want)
		}
	}
	for _, key := range others {
		if _, there := a.last[key]; there {
			continue
		}
		if v, ok := a.m.Get(key); ok || v != 0 {
			a.t.Fatalf("Get(%q): %d, %t, but it is not there", key, v, ok)
		}
	}
	if got, want := slices.Sorted(slices.Values(a.m.Keys())), slices.Sorted(maps.Keys(a.last)); !slices.Equal(got, want) {
		a.t.Fatalf("keys %q, want %q", got, want)
	}
}

// shape: how many groups, keys and Deleted slots there are.
func (a *trio) shape(groups, keys, tombs int) {
	a.t.Helper()
	if g, k, d := len(a.m.Controls()), a.m.Len(), a.m.Tombs(); g != groups || k != keys || d != tombs {
		a.t.Fatalf("%d groups, %d keys, %d Deleted, want %d, %d, %d", g, k, d, groups, keys, tombs)
	}
}

// picked: n texts whose hash is asked for.
func picked(seed siphash.Key, prefix string, n int, fits func(h uint64) bool) []string {
	var all []string
	for i := 0; len(all) < n; i++ {
		if key := prefix + strconv.Itoa(i); fits(siphash.Sum(seed, key)) {
			all = append(all, key)
		}
	}
	return all
}

// firstIn: n texts whose first group, of so many, is that one.
func firstIn(seed siphash.Key, prefix string, n, g, groups int) []string {
	return picked(seed, prefix, n, func(h uint64) bool { return int(h>>7)&(groups-1) == g })
}

// byGroup: for each group, of so many, n texts whose first group it is.
func byGroup(seed siphash.Key, prefix string, n, groups int) [][]string {
	all := make([][]string, groups)
	missing := groups
	for i := 0; missing > 0; i++ {
		key := prefix + strconv.Itoa(i)
		g := int(siphash.Sum(seed, key)>>7) & (groups - 1)
		if len(all[g]) < n {
			all[g] = append(all[g], key)
			if len(all[g]) == n {
				missing--
			}
		}
	}
	return all
}
