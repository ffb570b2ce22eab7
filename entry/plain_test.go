package entry_test

import (
	"bytes"
	"encoding/binary"
	"fmt"
	"math"
	"slices"
	"strings"

	"corbel/api"
	"corbel/command"
	"corbel/entry"
)

// What chapters 1 and 10 say, told once more without the packages that are tried. Commands are what their own package says.

// thing: what is told in bytes; bytes and read are the program's words, the others this file's.
type thing[T any] struct {
	name  string
	good  func(T) bool
	plain func(T) []byte
	bare  func(T) T // without what is not written
	same  func(a, b T) bool
	bytes func(T) []byte
	read  func([]byte) (T, api.Errno)
}

func entries() thing[api.Entry] {
	return thing[api.Entry]{"an entry", plainlyGood, entryBytes, bareEntry, sameEntry, entry.Bytes, entry.Read}
}

func hards() thing[api.Hard] {
	same := func(a, b api.Hard) bool { return a == b }
	return thing[api.Hard]{"a hard", plainlyHard, hardBytes, itself[api.Hard], same, entry.HardBytes, entry.ReadHard}
}

func snaps() thing[api.Snapshot] {
	return thing[api.Snapshot]{"a snapshot", plainlySnap, snapBytes, itself[api.Snapshot], sameSnap, entry.SnapBytes, entry.ReadSnap}
}

func msgs() thing[api.Msg] {
	return thing[api.Msg]{"a message", plainlyMsg, msgBytes, bareMsg, sameMsg, entry.MsgBytes, entry.ReadMsg}
}

// unsigned: a number in as few bytes as hold it.
func unsigned(u uint64) []byte {
	for k := range 8 {
		if u>>(7*(k+1)) == 0 {
			return inBytes(u, k)
		}
	}
	return inBytes(u, 8)
}

// inBytes: a number with k bytes behind its first one, though fewer might hold it.
func inBytes(u uint64, k int) []byte {
	whole := binary.BigEndian.AppendUint64(nil, u)
	if k == 8 {
		return append([]byte{0xff}, whole...)
	}
	b := whole[7-k:]
	b[0] |= []byte{0, 0x80, 0xc0, 0xe0, 0xf0, 0xf8, 0xfc, 0xfe}[k]
	return b
}

// signed: twice the number, and one more if it is below 0; the highest bit falls off.
func signed(numbers ...int) []byte {
	var b []byte
	for _, n := range numbers {
		u := uint64(n) * 2
		if n < 0 {
			u++
		}
		b = append(b, unsigned(u)...)
	}
	return b
}

func count(n int) []byte { return unsigned(uint64(n)) }

func text(b []byte) []byte { return join(count(len(b)), b) }

func join(parts ...[]byte) []byte { return bytes.Join(parts, nil) }

func confBytes(c api.Conf) []byte {
	return join(count(len(c.Voters)), signed(c.Voters...), count(len(c.Learners)), signed(c.Learners...))
}

func entryBytes(e api.Entry) []byte {
	head := signed(e.Index, e.Term, e.Kind)
	switch e.Kind {
	case 2:
		return join(head, text(command.Bytes(e.Command)))
	case 3:
		return join(head, confBytes(e.Conf))
	default:
		return head
	}
}

func hardBytes(h api.Hard) []byte { return signed(h.Term, h.Vote, h.Commit) }

func snapBytes(s api.Snapshot) []byte {
	return join(signed(s.Index, s.Term), confBytes(s.Conf), text(s.Data))
}

func msgBytes(m api.Msg) []byte {
	reject := map[bool]string{false: "F", true: "T"}[m.Reject]
	parts := [][]byte{signed(m.Kind, m.From, m.To, m.Term, m.Index, m.LogTerm, m.Commit, m.Round), []byte(reject), signed(m.Hint)}
	if m.Kind == 7 {
		parts = append(parts, snapBytes(m.Snap))
	}
	if m.Kind == 5 {
		parts = append(parts, count(len(m.Entries)))
		for _, e := range m.Entries {
			parts = append(parts, entryBytes(e))
		}
	}
	return join(parts...)
}

func itself[T any](x T) T { return x }

func bareEntry(e api.Entry) api.Entry {
	if e.Kind != 2 {
		e.Command = api.Command{}
	}
	if e.Kind != 3 {
		e.Conf = api.Conf{}
	}
	return e
}

func bareMsg(m api.Msg) api.Msg {
	given := m.Entries
	m.Entries = nil
	for _, e := range given {
		if m.Kind == 5 {
			m.Entries = append(m.Entries, bareEntry(e))
		}
	}
	if m.Kind != 7 {
		m.Snap = api.Snapshot{}
	}
	return m
}

// plainlyConf: would the same lists come of going through all nodes there are, and asking for each of them where it is?
func plainlyConf(c api.Conf) bool {
	var again api.Conf
	for n := 1; n <= 9; n++ {
		votes, learns := slices.Contains(c.Voters, n), slices.Contains(c.Learners, n)
		switch {
		case votes && learns:
			return false
		case votes:
			again.Voters = append(again.Voters, n)
		case learns:
			again.Learners = append(again.Learners, n)
		}
	}
	return len(again.Voters) != 0 && sameConf(c, again)
}

func noConf(c api.Conf) bool { return len(c.Voters)+len(c.Learners) == 0 }

func plainlyGood(e api.Entry) bool {
	is := map[int]bool{
		1: e.Command == (api.Command{}) && noConf(e.Conf),
		2: command.Good(e.Command) && noConf(e.Conf),
		3: e.Command == (api.Command{}) && plainlyConf(e.Conf),
	}
	return e.Index > 0 && e.Term > 0 && is[e.Kind]
}

func plainlyHard(h api.Hard) bool { return h.Term >= 0 && h.Vote >= 0 && h.Commit >= 0 }

func plainlySnap(s api.Snapshot) bool {
	return s.Index > 0 && s.Term > 0 && plainlyConf(s.Conf) && len(s.Data) <= 1048576
}

func plainlyMsg(m api.Msg) bool {
	for _, n := range []int{m.Index, m.LogTerm, m.Commit, m.Round, m.Hint} {
		if n < 0 {
			return false
		}
	}
	for _, node := range []int{m.From, m.To} {
		if node < 1 || node > 9 {
			return false
		}
	}
	at := uint64(m.Index)
	for _, e := range m.Entries {
		at++
		if m.Kind != 5 || !plainlyGood(e) || uint64(e.Index) != at || e.Term > m.Term {
			return false
		}
	}
	snap := sameSnap(m.Snap, api.Snapshot{})
	if m.Kind == 7 {
		snap = plainlySnap(m.Snap)
	}
	return m.Kind >= 1 && m.Kind <= 10 && m.Term > 0 && len(m.Entries) <= 16 && snap
}

func sameConf(a, b api.Conf) bool {
	return slices.Equal(a.Voters, b.Voters) && slices.Equal(a.Learners, b.Learners)
}

func sameEntry(a, b api.Entry) bool {
	return a.Index == b.Index && a.Term == b.Term && a.Kind == b.Kind && a.Command == b.Command && sameConf(a.Conf, b.Conf)
}

func sameSnap(a, b api.Snapshot) bool {
	return a.Index == b.Index && a.Term == b.Term && sameConf(a.Conf, b.Conf) && bytes.Equal(a.Data, b.Data)
}

func sameMsg(a, b api.Msg) bool {
	numbers := func(m api.Msg) [9]int {
		return [9]int{m.Kind, m.From, m.To, m.Term, m.Index, m.LogTerm, m.Commit, m.Round, m.Hint}
	}
	return numbers(a) == numbers(b) && a.Reject == b.Reject && slices.EqualFunc(a.Entries, b.Entries, sameEntry) && sameSnap(a.Snap, b.Snap)
}

// show: in a line that can be read, though it may have a lot of data.
func show(x any) string {
	s := fmt.Sprintf("%+v", x)
	return s[:min(len(s), 1000)]
}

// ends: numbers at and beside the edges, and the ends of int.
func ends() []int {
	return []int{math.MinInt, math.MinInt + 1, -2, -1, 0, 1, 2, 9, 10, 63, 64, 8191, 8192, 1 << 31, 1 << 32, math.MaxInt - 1, math.MaxInt}
}

// of: so many bytes.
func of(n int) []byte { return bytes.Repeat([]byte("x"), n) }

func noop(index, term int) api.Entry { return api.Entry{Index: index, Term: term, Kind: api.EntryNoop} }

func conf(voters ...int) api.Conf { return api.Conf{Voters: voters} }

// run: so many noops of a term behind an index.
func run(index, term, n int) []api.Entry {
	var l []api.Entry
	for i := range n {
		l = append(l, noop(index+1+i, term))
	}
	return l
}

// goodCommands: one of each kind, and the greatest there is.
func goodCommands() []api.Command {
	key, value := strings.Repeat("k", api.MaxKey), strings.Repeat("v", api.MaxValue)
	return []api.Command{
		{Kind: api.CmdOpen},
		{Kind: api.CmdExpire, Session: 1},
		{Kind: api.CmdPut, Session: 1, Seq: 1, Key: "k", Value: "v"},
		{Kind: api.CmdGet, Session: 2, Seq: 3, Key: "\xff\x00"},
		{Kind: api.CmdDelete, Session: 64, Seq: 8192, Key: "k"},
		{Kind: api.CmdCas, Session: math.MaxInt, Seq: math.MaxInt, Key: key, Old: value, Value: value},
		{Kind: api.CmdScan, Session: 1, Seq: 1, Key: "a", Until: "b", Limit: api.MaxScan},
	}
}

// allConfs: each node votes, learns, or is no member, and somebody votes.
func allConfs() []api.Conf {
	confs := []api.Conf{{}}
	for n := 1; n <= api.MaxNodes; n++ {
		for _, c := range confs {
			confs = append(confs,
				api.Conf{Voters: append(slices.Clone(c.Voters), n), Learners: c.Learners},
				api.Conf{Voters: c.Voters, Learners: append(slices.Clone(c.Learners), n)})
		}
	}
	return slices.DeleteFunc(confs, func(c api.Conf) bool { return len(c.Voters) == 0 })
}

func someConfs() []api.Conf {
	return []api.Conf{
		conf(1), conf(9), conf(1, 2, 3), conf(1, 2, 3, 4, 5, 6, 7, 8, 9),
		{Voters: []int{2}, Learners: []int{1}},
		{Voters: []int{1, 9}, Learners: []int{}},
		{Voters: []int{5}, Learners: []int{1, 2, 3, 4, 6, 7, 8, 9}},
	}
}

func goodEntries() []api.Entry {
	l := []api.Entry{noop(1, 1), noop(64, 8192), noop(math.MaxInt, math.MaxInt)}
	for i, c := range goodCommands() {
		l = append(l, api.Entry{Index: 1 + i*100, Term: 1 + i, Kind: api.EntryCommand, Command: c})
	}
	for i, c := range someConfs() {
		l = append(l, api.Entry{Index: 1 + i*100, Term: 1 + i, Kind: api.EntryConf, Conf: c})
	}
	return l
}

func goodHards() []api.Hard {
	var l []api.Hard
	for _, n := range ends() {
		if n >= 0 {
			l = append(l, api.Hard{Term: n}, api.Hard{Vote: n}, api.Hard{Commit: n}, api.Hard{Term: n, Vote: n, Commit: n})
		}
	}
	return append(l, api.Hard{Term: 1, Vote: 2, Commit: 3})
}

func goodSnaps() []api.Snapshot {
	l := []api.Snapshot{
		{Index: math.MaxInt, Term: math.MaxInt, Conf: conf(1)},
		{Index: 1, Term: 1, Conf: conf(1), Data: []byte{}},
		{Index: 1, Term: 1, Conf: conf(1), Data: []byte{0, 255, 128, 197}},
		{Index: 1, Term: 1, Conf: conf(1), Data: of(127)},
		{Index: 1, Term: 1, Conf: conf(1), Data: of(128)},
	}
	for i, c := range someConfs() {
		l = append(l, api.Snapshot{Index: 1 + i*100, Term: 1 + i, Conf: c, Data: of(i)})
	}
	return l
}

// goodMsg: one of a kind, with all that the kind has.
func goodMsg(kind int) api.Msg {
	m := api.Msg{Kind: kind, From: 1, To: 2, Term: 6, Index: 3, LogTerm: 4, Commit: 5, Round: 7, Reject: true, Hint: 8}
	switch kind {
	case api.MsgApp:
		m.Entries = []api.Entry{
			noop(4, 4),
			{Index: 5, Term: 5, Kind: api.EntryCommand, Command: goodCommands()[2]},
			{Index: 6, Term: 6, Kind: api.EntryConf, Conf: api.Conf{Voters: []int{1, 2}, Learners: []int{3}}},
		}
	case api.MsgSnap:
		m.Snap = api.Snapshot{Index: 3, Term: 2, Conf: api.Conf{Voters: []int{1, 2}, Learners: []int{3}}, Data: []byte("data")}
	}
	return m
}

func goodMsgs() []api.Msg {
	var l []api.Msg
	for kind := 1; kind <= 10; kind++ {
		l = append(l, goodMsg(kind))
		if kind != api.MsgSnap {
			l = append(l, api.Msg{Kind: kind, From: 9, To: 9, Term: 1})
		}
	}
	for _, s := range goodSnaps() {
		l = append(l, api.Msg{Kind: api.MsgSnap, From: 1, To: 1, Term: 1, Snap: s})
	}
	for _, e := range goodEntries() {
		l = append(l, api.Msg{Kind: api.MsgApp, From: 1, To: 9, Term: math.MaxInt, Index: e.Index - 1, Entries: []api.Entry{e}})
	}
	most := math.MaxInt
	return append(l,
		api.Msg{Kind: api.MsgApp, From: 1, To: 2, Term: 1, Entries: run(0, 1, api.MaxEntries)},
		api.Msg{Kind: api.MsgApp, From: 1, To: 2, Term: 1, Index: most - 16, Entries: run(most-16, 1, api.MaxEntries)},
		api.Msg{Kind: api.MsgApp, From: 1, To: 2, Term: most, Index: most, LogTerm: most, Commit: most, Round: most, Hint: most},
	)
}
