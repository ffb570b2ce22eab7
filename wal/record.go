package wal

import (
	"iter"

	"corbel/api"
	"corbel/codec"
	"corbel/entry"
)

// The kinds of records.
const (
	KindEntry = 1
	KindHard  = 2
	KindBase  = 3
)

// Record is one of the log's.
type Record struct {
	Kind  int
	Entry api.Entry
	Hard  api.Hard
	Index int
	Term  int
}

// Bytes: a record's.
func Bytes(r Record) []byte {
	if !good(r) {
		return nil
	}
	return codec.Frame(content(r))
}

// Scan: the records that bytes begin with, and how many bytes they are.
func Scan(b []byte) ([]Record, int) {
	var l []Record
	size := 0
	for r, end := range records(b) {
		l, size = append(l, r), end
	}
	return l, size
}

// records: those that bytes begin with, each with the place where it ends.
func records(b []byte) iter.Seq2[Record, int] {
	return func(yield func(Record, int) bool) {
		end := 0
		for {
			inside, size, err := codec.Unframe(b[end:])
			if err != api.OK {
				return
			}
			r, right := read(inside)
			if !right {
				return
			}
			end += size
			if !yield(r, end) {
				return
			}
		}
	}
}

// good: is it of a kind, and the part good that its kind names?
func good(r Record) bool {
	switch r.Kind {
	case KindEntry:
		return entry.Good(r.Entry)
	case KindHard:
		return min(r.Hard.Term, r.Hard.Vote, r.Hard.Commit) >= 0
	case KindBase:
		return min(r.Index, r.Term) >= 0
	}
	return false
}

// content: what stands in the frame of a good record.
func content(r Record) []byte {
	b := codec.Put(nil, codec.Zig(r.Kind))
	switch r.Kind {
	case KindEntry:
		return append(b, entry.Bytes(r.Entry)...)
	case KindHard:
		return append(b, entry.HardBytes(r.Hard)...)
	}
	b = codec.Put(b, codec.Zig(r.Index))
	return codec.Put(b, codec.Zig(r.Term))
}

// read: the good record of which that is the content.
func read(inside []byte) (Record, bool) {
	in := &codec.Reader{B: inside}
	number := in.Int
	r, err := Record{Kind: number()}, api.OK
	switch r.Kind {
	case KindEntry:
		r.Entry, err = entry.Read(in.B)
	case KindHard:
		r.Hard, err = entry.ReadHard(in.B)
	case KindBase:
		r.Index, r.Term = number(), number()
		if !in.End() {
			err = api.ErrCorrupt
		}
	}
	return r, err == api.OK && good(r)
}
