package wal

import (
	"corbel/api"
	"corbel/disk"
)

// log is a Wal's inside: what the records in a disk's segments come to, and which segment is written on.
type log struct {
	*disk.Disk
	segment int // with more bytes than these a segment is followed by the next one
	state   State
	last    int  // the number of the segment that is written on
	size    int  // how many bytes that has
	dead    bool // a call has answered ErrPower
}

// open: the state of what is on the disk, whose last segment can be written on.
func (l *log) open() api.Errno {
	numbers := l.numbers()
	if len(numbers) == 0 {
		return l.begin(1)
	}
	whole, err := l.load(numbers)
	if err != api.OK || whole {
		return err
	}
	return l.mend()
}

// load: the state of all segments, and whether the last one has nothing but records. What was wrong is forgotten at a segment that begins with a base: such a one holds all that counts, and what is ahead of it was on its way to be removed.
func (l *log) load(numbers []int) (bool, api.Errno) {
	right, whole := true, true
	for _, n := range numbers {
		b, err := l.Read(Name(n))
		if err != api.OK {
			return false, err
		}
		right = right && whole // the one ahead of this one is not the last
		l.last, l.size = n, 0
		for r, end := range records(b) {
			if l.size == 0 && r.Kind == KindBase {
				l.state, right = State{}, true
			}
			right = right && l.state.fold(r)
			l.size = end
		}
		whole = l.size == len(b)
	}
	if !right {
		return false, api.ErrCorrupt
	}
	return whole, api.OK
}

// mend: the last segment has its records alone.
func (l *log) mend() api.Errno {
	b, err := l.Read(Name(l.last))
	if err != api.OK {
		return err
	}
	return l.replace(l.last, b[:l.size])
}

// save: the records of entries and, if it is another one, of a hard are sure.
func (l *log) save(h api.Hard, entries []api.Entry) api.Errno {
	news := l.news(h, entries)
	b, right := l.bytes(news)
	if !right {
		return api.ErrArg
	}
	if len(news) == 0 {
		return api.OK
	}
	if err := l.Append(Name(l.last), b); err != api.OK {
		return err
	}
	if err := l.Sync(); err != api.OK {
		return err
	}
	for _, r := range news {
		l.state.fold(r)
	}
	l.size += len(b)
	return l.next()
}

// news: the records of what is to be saved. The state will keep their entries, so these are copies.
func (l *log) news(h api.Hard, entries []api.Entry) []Record {
	var news []Record
	for _, e := range entries {
		news = append(news, Record{Kind: KindEntry, Entry: copyEntry(e)})
	}
	if h != l.state.Hard {
		news = append(news, Record{Kind: KindHard, Hard: h})
	}
	return news
}

// bytes: those of entries and hards, one behind the other; false, if one has none, or its fold would not be right. The state stays as it is: the disk may still refuse them.
func (l *log) bytes(news []Record) ([]byte, bool) {
	var b []byte
	last := l.state.last()
	for _, r := range news {
		if !good(r) || !takes(l.state.Index, last, r) {
			return nil, false
		}
		if r.Kind == KindEntry {
			last = r.Entry.Index
		}
		b = append(b, Bytes(r)...)
	}
	return b, true
}

// compact: another base, and a segment that holds all that counts.
func (l *log) compact(index, term int) api.Errno {
	base := Record{Kind: KindBase, Index: index, Term: term}
	state := l.state // a fold of a base changes nothing in the list of entries, which both have
	if !good(base) || !state.fold(base) || l.last == maxNumber {
		return api.ErrArg
	}
	state.Entries = append([]api.Entry(nil), state.Entries...) // without the room of those that go
	b := allOf(state)
	if err := l.replace(l.last+1, b); err != api.OK {
		return err
	}
	l.state, l.last, l.size = state, l.last+1, len(b)
	return l.removeOthers()
}

// allOf: the bytes of the records that come to a state, from an empty one on.
func allOf(s State) []byte {
	b := Bytes(Record{Kind: KindBase, Index: s.Index, Term: s.Term})
	b = append(b, Bytes(Record{Kind: KindHard, Hard: s.Hard})...)
	for _, e := range s.Entries {
		b = append(b, Bytes(Record{Kind: KindEntry, Entry: e})...)
	}
	return b
}
