package swiss

import (
	"corbel/group"
	"corbel/probe"
	"corbel/siphash"
)

// perGroup: how many slots a control word has.
const perGroup = 8

// load: how many slots for each group may be other than Empty. It holds over all groups: a single one may have no Empty slot.
const load = 7

// nowhere: the place of a key that is not there.
const nowhere = -1

// slot holds a key. Its place is its number over all groups.
type slot[V any] struct {
	key   string
	value V
}

// empty: a map of so many groups, all of their slots Empty.
func empty[V any](k siphash.Key, groups int) *Map[V] {
	m := &Map[V]{
		seed:  k,
		words: make([]uint64, groups),
		slots: make([]slot[V], perGroup*groups),
	}
	for g := range m.words {
		m.words[g] = group.None
	}
	return m
}

// made: did a call make it?
func (m *Map[V]) made() bool {
	return m != nil && len(m.words) > 0
}

// hash: where a key's search begins, and what its slot's byte is.
func (m *Map[V]) hash(key string) (uint64, byte) {
	return siphash.Split(siphash.Sum(m.seed, key))
}

// find: a key's place, or nowhere.
func (m *Map[V]) find(key string) int {
	if !m.made() {
		return nowhere
	}
	where, what := m.hash(key)
	found := nowhere
search:
	for g := range probe.Seq(where, len(m.words)) {
		w := m.words[g]
		for set := group.Match(w, what); set != 0; set = group.Next(set) {
			at := perGroup*g + group.First(set)
			if m.slots[at].key == key { // unlike keys may have the same byte
				found = at
				break search
			}
		}
		if group.Empties(w) != 0 {
			break search
		}
	}
	return found
}

// place: a key that is not there goes into the first slot that it may have.
func (m *Map[V]) place(key string, v V) {
	where, what := m.hash(key)
	for g := range probe.Seq(where, len(m.words)) {
		w := m.words[g]
		free := group.Free(w)
		if free == 0 {
			continue
		}
		i := group.First(free)
		if group.Get(w, i) == group.Deleted {
			m.tombs--
		}
		m.words[g] = group.Set(w, i, what)
		m.slots[perGroup*g+i] = slot[V]{key, v}
		m.keys++
		return
	}
}

// rehash: all keys are placed anew, which leaves no Deleted slots. It is never asked for more than MaxGroups groups: with that many, MaxMap keys are few.
func (m *Map[V]) rehash() {
	groups := len(m.words)
	few := 2*m.keys <= load*groups
	if m.tombs == 0 || !few {
		groups *= 2
	}
	next := empty[V](m.seed, groups)
	for at := range m.full {
		next.place(m.slots[at].key, m.slots[at].value)
	}
	*m = *next
}

// full: tells the places of all keys, in the order of slots.
func (m *Map[V]) full(yield func(int) bool) {
	for g, w := range m.words {
		for set := group.Full(w); set != 0; set = group.Next(set) {
			if !yield(perGroup*g + group.First(set)) {
				return
			}
		}
	}
}
