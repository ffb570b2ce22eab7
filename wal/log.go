package wal

import (
	"corbel/api"
	"corbel/disk"
)

// log is a Wal's inside: what the records in a disk's segments come to, and which segment is written on.
type log struct {
	*disk.Disk
	segment int // with more bytes than these a segment is followed by the next one
	state   State
	last    int  // the number of the segment that is written on
	dead    bool // a call has answered ErrPower
}

// open: the state of what is on the disk, whose last segment can be written on.
func (l *log) open() api.Errno {
	numbers := l.numbers()
	if len(numbers) == 0 {
		return l.begin(1)
	}
	l.last = numbers[len(numbers)-1]
	for _, n := range numbers {
		if err := l.load(n); err != api.OK {
			return err
		}
	}
	return api.OK
}

// load: the state goes on behind a segment. A write is torn in the last one alone, so it is only there that bytes which are no record's are mended.
func (l *log) load(n int) api.Errno {
	b, err := l.Read(Name(n))
	if err != api.OK {
		return err
	}
	size, right := l.foldAll(b)
	torn := size < len(b)
	if !right || torn && n != l.last {
		return api.ErrCorrupt
	}
	if torn {
		return l.replace(n, b[:size])
	}
	return api.OK
}

// foldAll: the state goes on behind the records of a segment, which are so many bytes; false, if one's fold is not right. A base at the beginning holds all that counts, but what is ahead of it had to be right, too.
func (l *log) foldAll(b []byte) (int, bool) {
	size := 0
	for r, end := range records(b) {
		if size == 0 && r.Kind == KindBase {
			l.state = State{}
		}
		if !l.state.fold(r) {
			return 0, false
		}
		size = end
	}
	return size, true
}

// save: the records of entries and, if it is another one, of a hard are sure.
func (l *log) save(h api.Hard, entries []api.Entry) api.Errno {
	news := l.news(h, entries)
	b, right := l.bytes(news)
	if !right {
		return api.ErrArg
	}
	if len(news) == 0 {
		return api.OK
	}
	if err := l.Append(Name(l.last), b); err != api.OK {
		return err
	}
	if err := l.Sync(); err != api.OK {
		return err
	}
	for _, r := range news {
		l.state.fold(r)
	}
	return l.next()
}

// news: the records of what is to be saved. The state will keep their entries, so these are copies.
func (l *log) news(h api.Hard, entries []api.Entry) []Record {
	var news []Record
	for _, e := range entries {
		news = append(news, Record{Kind: KindEntry, Entry: copyEntry(e)})
	}
	if h != l.state.Hard {
		news = append(news, Record{Kind: KindHard, Hard: h})
	}
	return news
}

// bytes: those of entries and hards, one behind the other; false, if one has none, or its fold would not be right. The state stays as it is: the disk may still refuse them.
func (l *log) bytes(news []Record) ([]byte, bool) {
	var b []byte
	last := l.state.last()
	for _, r := range news {
		if !good(r) || !takes(l.state.Index, last, r) {
			return nil, false
		}
		if r.Kind == KindEntry {
			last = r.Entry.Index
		}
		b = append(b, Bytes(r)...)
	}
	return b, true
}

// compact: another base, and a segment that holds all that counts.
func (l *log) compact(index, term int) api.Errno {
	base := Record{Kind: KindBase, Index: index, Term: term}
	state := l.state // a fold of a base changes nothing in the list of entries, which both have
	if !good(base) || !state.fold(base) || l.last == maxNumber {
		return api.ErrArg
	}
	state.Entries = append([]api.Entry(nil), state.Entries...) // without the room of those that go
	if err := l.replace(l.last+1, allOf(state)); err != api.OK {
		return err
	}
	l.state, l.last = state, l.last+1
	return l.removeOthers()
}

// allOf: the bytes of the records that come to a state, from an empty one on.
func allOf(s State) []byte {
	b := Bytes(Record{Kind: KindBase, Index: s.Index, Term: s.Term})
	b = append(b, Bytes(Record{Kind: KindHard, Hard: s.Hard})...)
	for _, e := range s.Entries {
		b = append(b, Bytes(Record{Kind: KindEntry, Entry: e})...)
	}
	return b
}
