package entry

import (
	"corbel/api"
	"corbel/codec"
	"corbel/command"
)

// Read: of bytes.
func Read(b []byte) (api.Entry, api.Errno) {
	r := readerOf(b)
	return whole(r, r.entry, Good)
}

// ReadHard: of bytes.
func ReadHard(b []byte) (api.Hard, api.Errno) {
	r := readerOf(b)
	return whole(r, r.hard, goodHard)
}

// ReadSnap: of bytes.
func ReadSnap(b []byte) (api.Snapshot, api.Errno) {
	r := readerOf(b)
	return whole(r, r.snap, GoodSnap)
}

// ReadMsg: of bytes.
func ReadMsg(b []byte) (api.Msg, api.Errno) {
	r := readerOf(b)
	return whole(r, r.msg, GoodMsg)
}

// reader goes through bytes by codec's parts and by this package's. What it tells of bytes that are none is asked for at the end, by whole.
type reader struct {
	codec.Reader
}

func readerOf(b []byte) *reader { return &reader{codec.Reader{B: b}} }

// whole: the part, if it takes all of the bytes and is good.
func whole[T any](r *reader, part func() T, good func(T) bool) (T, api.Errno) {
	x := part()
	if !r.End() || !good(x) {
		var none T
		return none, api.ErrCorrupt
	}
	return x, api.OK
}

func (r *reader) entry() api.Entry {
	number := r.Int
	var e api.Entry
	e.Index, e.Term, e.Kind = number(), number(), number()
	switch e.Kind {
	case api.EntryCommand:
		e.Command = r.command()
	case api.EntryConf:
		e.Conf = r.conf()
	}
	return e
}

// command: that of an entry. Of bytes that are none it is the zero command, with which no entry of that kind is good: so the error need not be told.
func (r *reader) command() api.Command {
	c, _ := command.Read([]byte(r.Text()))
	return c
}

func (r *reader) conf() api.Conf {
	voters := list(r, api.MaxNodes, r.Int)
	learners := list(r, api.MaxNodes, r.Int)
	return api.Conf{Voters: voters, Learners: learners}
}

func (r *reader) hard() api.Hard {
	number := r.Int
	var h api.Hard
	h.Term, h.Vote, h.Commit = number(), number(), number()
	return h
}

func (r *reader) snap() api.Snapshot {
	number := r.Int
	var s api.Snapshot
	s.Index, s.Term = number(), number()
	s.Conf = r.conf()
	s.Data = append(s.Data, r.Text()...)
	return s
}

func (r *reader) msg() api.Msg {
	number := r.Int
	var m api.Msg
	m.Kind, m.From, m.To, m.Term = number(), number(), number(), number()
	m.Index, m.LogTerm, m.Commit, m.Round = number(), number(), number(), number()
	m.Reject = r.Bool()
	m.Hint = number()
	switch m.Kind {
	case api.MsgApp:
		m.Entries = list(r, api.MaxEntries, r.entry)
	case api.MsgSnap:
		m.Snap = r.snap()
	}
	return m
}

// list: a count, and so many items. No good list has more than most, so that a greater count is wrong ahead of any work.
func list[T any](r *reader, most int, item func() T) []T {
	var l []T
	for range r.Count(most) {
		l = append(l, item())
	}
	return l
}
