package entry

import (
	"corbel/api"
	"corbel/codec"
	"corbel/command"
)

// Bytes: an entry in bytes.
func Bytes(e api.Entry) []byte { return putEntry(nil, e) }

// HardBytes: in bytes.
func HardBytes(h api.Hard) []byte { return putNumbers(nil, h.Term, h.Vote, h.Commit) }

// SnapBytes: in bytes.
func SnapBytes(s api.Snapshot) []byte { return putSnap(nil, s) }

// MsgBytes: in bytes.
func MsgBytes(m api.Msg) []byte {
	b := putNumbers(nil, m.Kind, m.From, m.To, m.Term, m.Index, m.LogTerm, m.Commit, m.Round)
	b = codec.PutBool(b, m.Reject)
	b = putNumber(b, m.Hint)
	switch m.Kind {
	case api.MsgApp:
		return putList(b, m.Entries, putEntry)
	case api.MsgSnap:
		return putSnap(b, m.Snap)
	}
	return b
}

// The parts: each is given the bytes ahead of it, and tells them with its own behind. These bytes are always this package's own memory, so that they grow in place; codec, which can't know that, would copy them for each part.

func putEntry(b []byte, e api.Entry) []byte {
	b = putNumbers(b, e.Index, e.Term, e.Kind)
	switch e.Kind {
	case api.EntryCommand:
		return putText(b, command.Bytes(e.Command))
	case api.EntryConf:
		return putConf(b, e.Conf)
	}
	return b
}

func putSnap(b []byte, s api.Snapshot) []byte {
	b = putNumbers(b, s.Index, s.Term)
	b = putConf(b, s.Conf)
	return putText(b, s.Data)
}

func putConf(b []byte, c api.Conf) []byte {
	b = putList(b, c.Voters, putNumber)
	return putList(b, c.Learners, putNumber)
}

// putList: how many there are, and each of them as put tells it.
func putList[T any](b []byte, l []T, put func([]byte, T) []byte) []byte {
	b = append(b, codec.Put(nil, uint64(len(l)))...)
	for _, x := range l {
		b = put(b, x)
	}
	return b
}

func putNumbers(b []byte, l ...int) []byte {
	for _, n := range l {
		b = putNumber(b, n)
	}
	return b
}

func putNumber(b []byte, n int) []byte { return append(b, codec.Put(nil, codec.Zig(n))...) }

func putText(b, text []byte) []byte { return append(b, codec.PutText(nil, string(text))...) }
