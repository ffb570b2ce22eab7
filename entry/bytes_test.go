package entry_test

import (
	"math"
	"math/rand"
	"slices"
	"testing"

	"corbel/api"
	"corbel/command"
	"corbel/entry"
)

// thereAndBack: the bytes are those of the chapter, and reading them tells what was written, if that is good. (What is not written does not come back.)
func thereAndBack[T any](t *testing.T, k thing[T], x T) {
	t.Helper()
	b := k.bytes(x)
	if plain := k.plain(x); !slices.Equal(b, plain) {
		t.Errorf("the bytes of %s %s: %s, want %s", k.name, show(x), show(b), show(plain))
	}
	want := k.bare(x)
	if !k.good(want) {
		corrupt(t, k, "not good", b)
		return
	}
	got, err := k.read(b)
	if err != api.OK || !k.same(got, want) {
		t.Errorf("%s of %s: %s, %v, want %s", k.name, show(b), show(got), err, show(want))
	}
	if k.same(got, x) != k.good(x) {
		t.Errorf("%s of %s: %s came back as %s", k.name, show(b), show(x), show(got))
	}
}

// comesBack: it is good, and comes back as it was.
func comesBack[T any](t *testing.T, k thing[T], x T) {
	t.Helper()
	if got, err := k.read(k.bytes(x)); err != api.OK || !k.same(got, x) {
		t.Errorf("%s %s: came back as %s, %v", k.name, show(x), show(got), err)
	}
}

// corrupt: ErrCorrupt, and nothing beside it.
func corrupt[T any](t *testing.T, k thing[T], what string, b []byte) {
	t.Helper()
	var none T
	if got, err := k.read(b); err != api.ErrCorrupt || !k.same(got, none) {
		t.Errorf("%s: %s of %s: %s, %v", what, k.name, show(b), show(got), err)
	}
}

// sound: what comes back of any bytes is good, and these are its bytes; else there is nothing. It tells which of both.
func sound[T any](t *testing.T, k thing[T], b []byte) bool {
	t.Helper()
	got, err := k.read(b)
	if err != api.OK {
		corrupt(t, k, "neither", b)
		return false
	}
	if !k.good(got) || !slices.Equal(k.plain(got), b) {
		t.Errorf("%s of %s: %s", k.name, show(b), show(got))
	}
	return true
}

// written: these are the bytes, and they come back if what has them is good.
func written[T any](t *testing.T, k thing[T], x T, want ...byte) {
	t.Helper()
	if got := k.bytes(x); !slices.Equal(got, want) {
		t.Errorf("the bytes of %s %s: %d, want %d", k.name, show(x), got, want)
	}
	thereAndBack(t, k, x)
}

func TestEntryBytesWrittenOut(t *testing.T) {
	k := entries()
	written(t, k, api.Entry{}, 0, 0, 0)
	written(t, k, api.Entry{Index: 1, Term: 1, Kind: api.EntryNoop}, 2, 2, 2)
	written(t, k, api.Entry{Index: 64, Term: 150, Kind: api.EntryNoop}, 128, 128, 129, 44, 2)
	written(t, k, api.Entry{Index: 3, Term: 2, Kind: api.EntryCommand, Command: api.Command{Kind: api.CmdOpen}}, 6, 4, 4, 8, 2, 0, 0, 0, 0, 0, 0, 0)
	written(t, k, api.Entry{Index: 3, Term: 2, Kind: api.EntryCommand, Command: api.Command{Kind: api.CmdPut, Session: 1, Seq: 1, Key: "k", Value: "v"}}, 6, 4, 4, 10, 6, 2, 2, 0, 1, 'k', 0, 1, 'v', 0)
	written(t, k, api.Entry{Index: 3, Term: 2, Kind: api.EntryConf, Conf: conf(1)}, 6, 4, 6, 1, 2, 0)
	written(t, k, api.Entry{Index: 3, Term: 2, Kind: api.EntryConf, Conf: api.Conf{Voters: []int{1, 3}, Learners: []int{2, 9}}}, 6, 4, 6, 2, 2, 6, 2, 4, 18)
}

// TestEntryBytesOfNotGood: what a kind has is written, right or wrong, and what it has not is left out.
func TestEntryBytesOfNotGood(t *testing.T) {
	k := entries()
	put, members := goodCommands()[2], api.Conf{Voters: []int{1}, Learners: []int{2}}
	all := api.Entry{Index: 1, Term: 1, Command: put, Conf: members}
	for kind, want := range map[int][]byte{
		-1: {2, 2, 255, 255, 255, 255, 255, 255, 255, 255, 255},
		0:  {2, 2, 0},
		1:  {2, 2, 2},
		2:  {2, 2, 4, 10, 6, 2, 2, 0, 1, 'k', 0, 1, 'v', 0},
		3:  {2, 2, 6, 1, 2, 1, 4},
		4:  {2, 2, 8},
	} {
		all.Kind = kind
		if got := entry.Bytes(all); !slices.Equal(got, want) {
			t.Errorf("Bytes(%+v): %d, want %d", all, got, want)
		}
	}
	written(t, k, api.Entry{Index: 1, Term: 1, Kind: api.EntryConf}, 2, 2, 6, 0, 0)
	written(t, k, api.Entry{Index: 1, Term: 1, Kind: api.EntryConf, Conf: api.Conf{Voters: []int{}, Learners: []int{}}}, 2, 2, 6, 0, 0)
	written(t, k, api.Entry{Index: 1, Term: 1, Kind: api.EntryConf, Conf: conf(-1, 10, 0)}, 2, 2, 6, 3, 255, 255, 255, 255, 255, 255, 255, 255, 255, 20, 0, 0)
	written(t, k, api.Entry{Index: 1, Term: 1, Kind: api.EntryCommand}, 2, 2, 4, 8, 0, 0, 0, 0, 0, 0, 0, 0)
	written(t, k, api.Entry{Index: 1, Term: 1, Kind: api.EntryCommand, Command: api.Command{Kind: api.CmdGet, Key: "k"}}, 2, 2, 4, 9, 8, 0, 0, 0, 1, 'k', 0, 0, 0)
	written(t, k, api.Entry{Index: -1, Term: math.MinInt, Kind: api.EntryNoop}, 255, 255, 255, 255, 255, 255, 255, 255, 255, 1, 2)
	thereAndBack(t, k, api.Entry{Index: 1, Term: 1, Kind: api.EntryConf, Conf: api.Conf{Voters: make([]int, 200000), Learners: make([]int, 200000)}})
	thereAndBack(t, k, api.Entry{Index: 1, Term: 1, Kind: api.EntryCommand, Command: api.Command{Key: string(of(200000))}})
}

func TestHardBytes(t *testing.T) {
	k := hards()
	written(t, k, api.Hard{}, 0, 0, 0)
	written(t, k, api.Hard{Term: 1, Vote: 2, Commit: 3}, 2, 4, 6)
	written(t, k, api.Hard{Term: 64, Vote: 10, Commit: math.MaxInt}, 128, 128, 20, 255, 255, 255, 255, 255, 255, 255, 255, 254)
	written(t, k, api.Hard{Vote: -1}, 0, 255, 255, 255, 255, 255, 255, 255, 255, 255, 0)
	for _, h := range goodHards() {
		comesBack(t, k, h)
		for _, n := range ends() {
			term, vote, commit := h, h, h
			term.Term, vote.Vote, commit.Commit = n, n, n
			for _, x := range []api.Hard{term, vote, commit} {
				thereAndBack(t, k, x)
				if n < 0 {
					corrupt(t, k, "below 0", entry.HardBytes(x))
				} else {
					comesBack(t, k, x)
				}
			}
		}
	}
}

func TestSnapBytesWrittenOut(t *testing.T) {
	k := snaps()
	written(t, k, api.Snapshot{}, 0, 0, 0, 0, 0)
	written(t, k, api.Snapshot{Index: 1, Term: 1, Conf: conf(1)}, 2, 2, 1, 2, 0, 0)
	written(t, k, api.Snapshot{Index: 5, Term: 2, Conf: api.Conf{Voters: []int{1, 2, 3}, Learners: []int{4}}, Data: []byte("ab")}, 10, 4, 3, 2, 4, 6, 1, 8, 2, 'a', 'b')
	written(t, k, api.Snapshot{Index: 5, Data: []byte{0, 255}}, 10, 0, 0, 0, 2, 0, 255)
	written(t, k, api.Snapshot{Term: -1, Conf: api.Conf{Learners: []int{1, 1}}}, 0, 255, 255, 255, 255, 255, 255, 255, 255, 255, 0, 2, 2, 2, 0)
}

// TestDataLimit: as much as may be comes back, and one byte more is told and taken by nobody.
func TestDataLimit(t *testing.T) {
	s := api.Snapshot{Index: 1, Term: 1, Conf: conf(1)}
	for _, n := range []int{0, 1, api.MaxFrame - 1, api.MaxFrame} {
		s.Data = of(n)
		comesBack(t, snaps(), s)
		comesBack(t, msgs(), api.Msg{Kind: api.MsgSnap, From: 1, To: 2, Term: 1, Snap: s})
	}
	for _, n := range []int{api.MaxFrame + 1, 2 * api.MaxFrame} {
		s.Data = of(n)
		thereAndBack(t, snaps(), s)
		corrupt(t, snaps(), "too much", entry.SnapBytes(s))
		corrupt(t, msgs(), "too much", entry.MsgBytes(api.Msg{Kind: api.MsgSnap, From: 1, To: 2, Term: 1, Snap: s}))
	}
}

func TestMsgBytesWrittenOut(t *testing.T) {
	k := msgs()
	written(t, k, api.Msg{}, 0, 0, 0, 0, 0, 0, 0, 0, 'F', 0)
	for kind := 1; kind <= 10; kind++ {
		m := api.Msg{Kind: kind, From: 1, To: 2, Term: 3, Index: 4, LogTerm: 5, Commit: 6, Round: 7, Reject: true, Hint: 8}
		head := []byte{byte(2 * kind), 2, 4, 6, 8, 10, 12, 14, 'T', 16}
		switch kind {
		case api.MsgApp:
			written(t, k, m, append(head, 0)...)
			m.Entries = []api.Entry{noop(5, 3), {Index: 6, Term: 3, Kind: api.EntryConf, Conf: conf(9)}, {Index: 7, Term: 1, Kind: api.EntryCommand, Command: api.Command{Kind: api.CmdOpen}}}
			written(t, k, m, append(head, 3, 10, 6, 2, 12, 6, 6, 1, 18, 0, 14, 2, 4, 8, 2, 0, 0, 0, 0, 0, 0, 0)...)
		case api.MsgSnap:
			written(t, k, m, append(head, 0, 0, 0, 0, 0)...)
			m.Snap = api.Snapshot{Index: 4, Term: 5, Conf: api.Conf{Voters: []int{1}, Learners: []int{2}}, Data: []byte("d")}
			written(t, k, m, append(head, 8, 10, 1, 2, 1, 4, 1, 'd')...)
		default:
			written(t, k, m, head...)
		}
	}
	written(t, k, api.Msg{Kind: api.MsgBeat, From: 9, To: 1, Term: 64, Hint: 64}, 18, 18, 2, 128, 128, 0, 0, 0, 0, 'F', 128, 128)
}

// TestMsgBytesOfNotGood: entries and a snapshot are written where the kind has them, and there alone.
func TestMsgBytesOfNotGood(t *testing.T) {
	k := msgs()
	for _, kind := range []int{math.MinInt, -1, 0, 1, 2, 3, 4, 5, 6, 7, 8, 9, 10, 11, math.MaxInt} {
		m := goodMsg(kind)
		want := entry.MsgBytes(m)
		m.Entries, m.Snap = goodMsg(api.MsgApp).Entries, goodMsg(api.MsgSnap).Snap
		if got := entry.MsgBytes(m); !slices.Equal(got, want) {
			t.Errorf("MsgBytes(%+v): %d, want %d", m, got, want)
		}
		thereAndBack(t, k, m)
	}
	app := goodMsg(api.MsgApp)
	for _, n := range []int{17, 127, 128, 20000} {
		app.Entries = run(3, 4, n)
		thereAndBack(t, k, app)
		corrupt(t, k, "too many", entry.MsgBytes(app))
	}
	app.Entries = make([]api.Entry, 2)
	thereAndBack(t, k, app)
}

func TestThereAndBack(t *testing.T) {
	for _, e := range goodEntries() {
		comesBack(t, entries(), e)
		thereAndBack(t, entries(), e)
	}
	for _, s := range goodSnaps() {
		comesBack(t, snaps(), s)
		thereAndBack(t, snaps(), s)
	}
	for _, m := range goodMsgs() {
		comesBack(t, msgs(), m)
		thereAndBack(t, msgs(), m)
	}
	for _, c := range allConfs() {
		comesBack(t, entries(), api.Entry{Index: 1, Term: 1, Kind: api.EntryConf, Conf: c})
		comesBack(t, snaps(), api.Snapshot{Index: 1, Term: 1, Conf: c})
	}
}

// TestNotGoodStaysAway: each number of what is good set to another one, and one more member. What is not good then has bytes, and does not come back.
func TestNotGoodStaysAway(t *testing.T) {
	for _, e := range goodEntries() {
		for _, n := range ends() {
			index, term, kind := e, e, e
			index.Index, term.Term, kind.Kind = n, n, n
			thereAndBack(t, entries(), index)
			thereAndBack(t, entries(), term)
			thereAndBack(t, entries(), kind)
		}
	}
	for _, s := range goodSnaps() {
		for _, n := range ends() {
			index, term, voter, learner := s, s, s, s
			index.Index, term.Term = n, n
			voter.Conf = api.Conf{Voters: append(slices.Clone(s.Conf.Voters), n), Learners: s.Conf.Learners}
			learner.Conf = api.Conf{Voters: s.Conf.Voters, Learners: append(slices.Clone(s.Conf.Learners), n)}
			for _, x := range []api.Snapshot{index, term, voter, learner} {
				thereAndBack(t, snaps(), x)
				thereAndBack(t, msgs(), api.Msg{Kind: api.MsgSnap, From: 1, To: 2, Term: 1, Snap: x})
				thereAndBack(t, entries(), api.Entry{Index: 1, Term: 1, Kind: api.EntryConf, Conf: x.Conf})
			}
		}
	}
	for _, m := range goodMsgs() {
		for _, n := range ends() {
			for at := range 8 {
				x := m
				*[]*int{&x.From, &x.To, &x.Term, &x.Index, &x.LogTerm, &x.Commit, &x.Round, &x.Hint}[at] = n
				thereAndBack(t, msgs(), x)
			}
			x := m
			x.Kind = n
			thereAndBack(t, msgs(), x)
		}
	}
}

// TestEntriesThatDoNotFollow: their bytes are told, and no message's.
func TestEntriesThatDoNotFollow(t *testing.T) {
	most := math.MaxInt
	for _, x := range []struct {
		index, term int
		l           []api.Entry
	}{
		{0, 1, []api.Entry{noop(2, 1)}},
		{5, 1, []api.Entry{noop(5, 1)}},
		{5, 1, []api.Entry{noop(6, 1), noop(8, 1)}},
		{5, 1, []api.Entry{noop(6, 2)}},
		{5, 1, []api.Entry{noop(6, 0)}},
		{most, 1, []api.Entry{noop(math.MinInt, 1)}},
		{most, 1, []api.Entry{noop(1, 1)}},
		{most - 1, 1, []api.Entry{noop(most, 1), noop(math.MinInt, 1)}},
		{5, 1, []api.Entry{{Index: 6, Term: 1, Kind: api.EntryConf}}},
		{5, 1, []api.Entry{{Index: 6, Term: 1, Kind: api.EntryCommand}}},
		{5, 1, []api.Entry{noop(6, 1), {Index: 7, Term: 1, Kind: 4}}},
	} {
		m := api.Msg{Kind: api.MsgApp, From: 1, To: 2, Term: x.term, Index: x.index, Entries: x.l}
		thereAndBack(t, msgs(), m)
		corrupt(t, msgs(), "they do not follow", entry.MsgBytes(m))
	}
}

// fewerAndMore: no beginning of the bytes of what is good is another one's, and nothing may stand behind them.
func fewerAndMore[T any](t *testing.T, k thing[T], x T) {
	t.Helper()
	b := k.bytes(x)
	for n := range b {
		corrupt(t, k, "fewer", b[:n])
	}
	for more := range 256 {
		corrupt(t, k, "more", append(slices.Clone(b), byte(more)))
	}
	corrupt(t, k, "twice", join(b, b))
	corrupt(t, k, "a byte ahead", append([]byte{0}, b...))
}

func none[T any](t *testing.T, k thing[T]) {
	t.Helper()
	corrupt(t, k, "nil", nil)
	corrupt(t, k, "empty", []byte{})
	for x := range 256 {
		corrupt(t, k, "one byte", []byte{byte(x)})
	}
	corrupt(t, k, "many noughts", make([]byte, 5000))
	corrupt(t, k, "many ones", slices.Repeat([]byte{255}, 5000))
}

func TestFewerAndMore(t *testing.T) {
	none(t, entries())
	none(t, hards())
	none(t, snaps())
	none(t, msgs())
	for _, e := range goodEntries() {
		fewerAndMore(t, entries(), e)
	}
	for _, h := range goodHards() {
		fewerAndMore(t, hards(), h)
	}
	for _, s := range goodSnaps() {
		fewerAndMore(t, snaps(), s)
	}
	for _, m := range goodMsgs() {
		fewerAndMore(t, msgs(), m)
	}
}

// piece: a number as it stands in bytes, or other bytes if that is below 0.
type piece struct {
	number int
	other  string
}

// longNumbers: the pieces come back as want, but with none of their numbers in more bytes than it needs.
func longNumbers[T any](t *testing.T, k thing[T], want T, pieces ...piece) {
	t.Helper()
	whole := func(at, tail int) []byte {
		var b []byte
		for i, p := range pieces {
			switch {
			case p.number < 0:
				b = append(b, p.other...)
			case i == at:
				b = append(b, inBytes(uint64(p.number), tail)...)
			default:
				b = append(b, byte(p.number))
			}
		}
		return b
	}
	if got, err := k.read(whole(-1, 0)); err != api.OK || !k.same(got, want) {
		t.Fatalf("%s of %d: %s, %v, want %s", k.name, whole(-1, 0), show(got), err, show(want))
	}
	for i, p := range pieces {
		for tail := 1; tail <= 8 && p.number >= 0; tail++ {
			corrupt(t, k, "a long number", whole(i, tail))
		}
	}
}

// num: pieces that are numbers.
func num(numbers ...int) []piece {
	var l []piece
	for _, n := range numbers {
		l = append(l, piece{number: n})
	}
	return l
}

func TestLongNumbers(t *testing.T) {
	members := api.Conf{Voters: []int{1, 2}, Learners: []int{3}}
	longNumbers(t, hards(), api.Hard{Term: 1, Vote: 2, Commit: 3}, num(2, 4, 6)...)
	longNumbers(t, entries(), noop(1, 1), num(2, 2, 2)...)
	longNumbers(t, entries(), api.Entry{Index: 1, Term: 2, Kind: api.EntryConf, Conf: members}, num(2, 4, 6, 2, 2, 4, 1, 6)...)
	longNumbers(t, entries(), api.Entry{Index: 1, Term: 2, Kind: api.EntryCommand, Command: api.Command{Kind: api.CmdOpen}}, num(2, 4, 4, 8, 2, 0, 0, 0, 0, 0, 0, 0)...)
	longNumbers(t, snaps(), api.Snapshot{Index: 1, Term: 2, Conf: members, Data: []byte("d")}, append(num(2, 4, 2, 2, 4, 1, 6, 1), piece{-1, "d"})...)
	head := slices.Concat(num(10, 2, 4, 6, 8, 10, 12, 14), []piece{{-1, "F"}}, num(16))
	m := api.Msg{Kind: api.MsgApp, From: 1, To: 2, Term: 3, Index: 4, LogTerm: 5, Commit: 6, Round: 7, Hint: 8, Entries: run(4, 1, 2)}
	longNumbers(t, msgs(), m, append(head, num(2, 10, 2, 2, 12, 2, 2)...)...)
	m.Kind, m.Entries, m.Snap = api.MsgSnap, nil, api.Snapshot{Index: 1, Term: 2, Conf: members}
	head[0].number = 14
	longNumbers(t, msgs(), m, append(head, num(2, 4, 2, 2, 4, 1, 6, 0)...)...)
}

// TestLongCommandInside: a command's bytes with a number that stands in more than it needs, counted rightly.
func TestLongCommandInside(t *testing.T) {
	for at := range 8 {
		for tail := 1; tail <= 8; tail++ {
			inside := []byte{2, 0, 0, 0, 0, 0, 0, 0}
			inside = slices.Replace(inside, at, at+1, inBytes(uint64(inside[at]), tail)...)
			corrupt(t, entries(), "inside", join([]byte{2, 2, 4}, text(inside)))
		}
	}
}

func TestCommandsThatAreNone(t *testing.T) {
	inside := func(what string, b []byte) {
		t.Helper()
		corrupt(t, entries(), what, join([]byte{2, 2, 4}, text(b)))
		head := []byte{10, 2, 4, 2, 0, 0, 0, 0, 'F', 0}
		corrupt(t, msgs(), what, join(head, []byte{1, 2, 2, 4}, text(b)))
		corrupt(t, msgs(), what+", with one behind it", join(head, []byte{2, 2, 2, 4}, text(b), []byte{4, 2, 2}))
	}
	inside("none", nil)
	for _, c := range goodCommands() {
		b := command.Bytes(c)
		for n := range b {
			inside("fewer", b[:n])
		}
		inside("more", append(b, 0))
		inside("twice", join(b, b))
		comesBack(t, entries(), api.Entry{Index: 1, Term: 1, Kind: api.EntryCommand, Command: c})
		whole := join([]byte{2, 2, 4}, text(b))
		corrupt(t, entries(), "not counted", join([]byte{2, 2, 4}, b))
		for _, kind := range []byte{0, 2, 6, 8} {
			whole[2] = kind
			corrupt(t, entries(), "in another kind", whole)
		}
	}
	for _, c := range []api.Command{{}, {Kind: api.CmdGet, Key: "k"}, {Kind: api.CmdScan, Limit: 1}, {Kind: api.CmdOpen, Session: 1}, {Kind: 8}} {
		inside("not good", command.Bytes(c))
	}
	inside("noughts", make([]byte, 8))
	inside("many noughts", make([]byte, 1<<20))
}

// greater: counts that are more than n bytes are, up to the greatest number there is.
func greater(n int) []uint64 {
	u := uint64(n)
	return []uint64{u + 1, u + 2, 2*u + 9, u + 127, u + 128, 1 << 20, 1 << 31, 1 << 32, 1 << 62, 1<<63 - 1, 1 << 63, 1<<64 - 2, 1<<64 - 1}
}

func TestCountsAboveWhatFollows(t *testing.T) {
	app := []byte{10, 2, 4, 2, 0, 0, 0, 0, 'F', 0}
	snap := []byte{14, 2, 4, 2, 0, 0, 0, 0, 'F', 0}
	tails := [][]byte{nil, {2}, {2, 4}, {0, 0}, {2, 4, 6, 8, 10, 12, 14, 16, 18}, {2, 2, 2, 4, 2, 2}, make([]byte, 100)}
	for _, tail := range tails {
		for _, u := range greater(len(tail)) {
			c := unsigned(u)
			corrupt(t, entries(), "voters", join([]byte{2, 2, 6}, c, tail))
			corrupt(t, entries(), "learners", join([]byte{2, 2, 6, 1, 18}, c, tail))
			corrupt(t, entries(), "a command", join([]byte{2, 2, 4}, c, tail))
			corrupt(t, snaps(), "voters", join([]byte{2, 2}, c, tail))
			corrupt(t, snaps(), "learners", join([]byte{2, 2, 1, 18}, c, tail))
			corrupt(t, snaps(), "data", join([]byte{2, 2, 1, 2, 0}, c, tail))
			corrupt(t, msgs(), "entries", join(app, c, tail))
			corrupt(t, msgs(), "an entry's voters", join(app, []byte{1, 2, 2, 6}, c, tail))
			corrupt(t, msgs(), "an entry's command", join(app, []byte{1, 2, 2, 4}, c, tail))
			corrupt(t, msgs(), "a snapshot's learners", join(snap, []byte{2, 2, 1, 18}, c, tail))
			corrupt(t, msgs(), "a snapshot's data", join(snap, []byte{2, 2, 1, 2, 0}, c, tail))
		}
	}
	corrupt(t, entries(), "a command's text", []byte{2, 2, 4, 8, 8, 2, 2, 0, 2, 'k', 0, 0})
	corrupt(t, entries(), "a command's text, beyond the command", []byte{2, 2, 4, 9, 8, 2, 2, 0, 5, 'k', 0, 0, 0, 'b', 'c'})
}

// TestCountsBelowWhatFollows: what is not counted belongs to nobody.
func TestCountsBelowWhatFollows(t *testing.T) {
	corrupt(t, entries(), "voters", []byte{2, 2, 6, 1, 2, 4, 0})
	corrupt(t, entries(), "learners", []byte{2, 2, 6, 1, 2, 1, 4, 6})
	corrupt(t, entries(), "ten voters", []byte{2, 2, 6, 10, 2, 4, 6, 8, 10, 12, 14, 16, 18, 20, 0})
	corrupt(t, entries(), "no learners", []byte{2, 2, 6, 1, 2})
	corrupt(t, snaps(), "data", []byte{2, 2, 1, 2, 0, 1, 'a', 'b'})
	corrupt(t, msgs(), "entries", []byte{10, 2, 4, 2, 0, 0, 0, 0, 'F', 0, 1, 2, 2, 2, 4, 2, 2})
	corrupt(t, msgs(), "entries, counted 0", []byte{10, 2, 4, 2, 0, 0, 0, 0, 'F', 0, 0, 2, 2, 2})
	corrupt(t, msgs(), "entries, not counted", []byte{10, 2, 4, 2, 0, 0, 0, 0, 'F', 0, 2, 2, 2})
	corrupt(t, msgs(), "entries in another kind", []byte{12, 2, 4, 2, 0, 0, 0, 0, 'F', 0, 1, 2, 2, 2})
	corrupt(t, msgs(), "none of them in another kind", []byte{12, 2, 4, 2, 0, 0, 0, 0, 'F', 0, 0})
	corrupt(t, msgs(), "a snapshot in another kind", []byte{16, 2, 4, 2, 0, 0, 0, 0, 'F', 0, 2, 2, 1, 2, 0, 0})
	corrupt(t, msgs(), "no snapshot", []byte{14, 2, 4, 2, 0, 0, 0, 0, 'F', 0})
}

// TestRejectOfOtherBytes: T and F alone are bools.
func TestRejectOfOtherBytes(t *testing.T) {
	for x := range 256 {
		b := []byte{18, 2, 4, 2, 0, 0, 0, 0, byte(x), 0}
		if is := sound(t, msgs(), b); is != (x == 'T' || x == 'F') {
			t.Errorf("%d: %t", x, is)
		}
		if m, _ := entry.ReadMsg(b); m.Reject != (x == 'T') {
			t.Errorf("%d: %+v", x, m)
		}
	}
}

// turned: behind any turned bit, and with any byte another one of a few, what comes back has those bytes, or nothing does.
func turned[T any](t *testing.T, k thing[T], x T) {
	t.Helper()
	b := k.bytes(x)
	for i := range 8 * len(b) {
		b[i/8] ^= 1 << (i % 8)
		sound(t, k, b)
		b[i/8] ^= 1 << (i % 8)
	}
	for i, was := range b {
		for _, other := range []byte{0, 1, 2, 17, 18, 19, 20, 127, 128, 254, 255} {
			b[i] = other
			sound(t, k, b)
		}
		b[i] = was
		sound(t, k, slices.Delete(slices.Clone(b), i, i+1))
		sound(t, k, slices.Insert(slices.Clone(b), i, was))
	}
}

func TestBytesOnceTurned(t *testing.T) {
	for _, e := range goodEntries() {
		turned(t, entries(), e)
	}
	for _, h := range goodHards() {
		turned(t, hards(), h)
	}
	for _, s := range goodSnaps() {
		turned(t, snaps(), s)
	}
	for _, m := range goodMsgs() {
		turned(t, msgs(), m)
	}
}

// short: of all bytes over some, up to so many, behind a beginning: how many come back.
func short[T any](t *testing.T, k thing[T], head, some []byte, most int) int {
	t.Helper()
	found := 0
	b := slices.Clone(head)
	var fill func(int)
	fill = func(left int) {
		if sound(t, k, b) {
			found++
		}
		for _, x := range some {
			if left > 0 {
				b = append(b, x)
				fill(left - 1)
				b = b[:len(b)-1]
			}
		}
	}
	fill(most)
	return found
}

// TestShortBytes: how many come back was counted by hand.
func TestShortBytes(t *testing.T) {
	some := []byte{0, 1, 2, 4, 6}
	for _, x := range []struct {
		what      string
		got, want int
	}{
		{"hards of 0, 1, 2, 3 and one that is below 0", short(t, hards(), nil, some, 4), 4 * 4 * 4},
		// Index and Term of 3 each; a noop; voters 1, 2 or 3 with no learner or with one of the other two; two voters, and no learner.
		{"entries", short(t, entries(), nil, some, 7), 3 * 3 * (1 + 3*(1+2) + 3)},
		// CmdOpen; CmdExpire with sessions 1 and 2.
		{"commands", short(t, entries(), []byte{2, 2, 4, 8}, []byte{0, 1, 2, 4}, 8), 3},
		// A voter (1 or 2) with a learner (the other one) or none, and no data; no learner, and one byte of data: each for four Indexes and Terms; two voters, too.
		{"snapshots", short(t, snaps(), nil, []byte{0, 1, 2, 4}, 7), 4 * (2*(1+1+4) + 1)},
		// Each of the last four numbers is 0, 1, 35 or 42 (F and T are numbers, too), with either bool.
		{"beats", short(t, msgs(), []byte{18, 2, 4, 2, 0}, []byte{0, 2, 'F', 'T'}, 6), 256 * 2},
		{"no entries", short(t, msgs(), []byte{10, 2, 4, 2, 0, 0, 0, 0, 'F', 0}, []byte{0}, 3), 1},
		// None; one: a noop, or members as above; two noops.
		{"entries of a message", short(t, msgs(), []byte{10, 2, 4, 2, 0, 0, 0, 0, 'F', 0}, some, 8), 1 + 1 + 3*(1+2) + 3 + 1},
	} {
		if x.got != x.want {
			t.Errorf("%s: %d came back, want %d", x.what, x.got, x.want)
		}
	}
}

// TestManyByChance: made by chance of edges, good or not, and spoilt.
func TestManyByChance(t *testing.T) {
	r := rand.New(rand.NewSource(10))
	number := func() int {
		if r.Intn(12) == 0 {
			return ends()[r.Intn(len(ends()))]
		}
		return 1 + r.Intn(9)
	}
	nodes := func() []int {
		var l []int
		for n := r.Intn(4); n <= 9; n += 1 + r.Intn(6) {
			l = append(l, n)
		}
		return l
	}
	members := func() api.Conf { return api.Conf{Voters: nodes(), Learners: nodes()[:r.Intn(2)]} }
	one := func(index int) api.Entry {
		e := api.Entry{Index: index, Term: 1 + r.Intn(3), Kind: r.Intn(5)}
		if e.Kind == api.EntryCommand || r.Intn(20) == 0 {
			e.Command = goodCommands()[r.Intn(7)]
		}
		if e.Kind == api.EntryConf || r.Intn(20) == 0 {
			e.Conf = members()
		}
		return e
	}
	good := map[string]int{}
	for range 20000 {
		m := api.Msg{Kind: r.Intn(12), From: number(), To: number(), Term: number(), Index: number(), LogTerm: number(), Commit: number(), Round: number(), Reject: r.Intn(2) == 0, Hint: number()}
		if m.Kind == api.MsgApp || r.Intn(20) == 0 {
			for i := range r.Intn(4) {
				m.Entries = append(m.Entries, one(int(uint(m.Index)+1+uint(i))))
			}
		}
		if m.Kind == api.MsgSnap || r.Intn(20) == 0 {
			m.Snap = api.Snapshot{Index: number(), Term: number(), Conf: members(), Data: of(r.Intn(300))}
		}
		e, h := one(number()), api.Hard{Term: number(), Vote: number(), Commit: number()}
		chance(t, r, msgs(), m, entry.GoodMsg, good)
		chance(t, r, snaps(), m.Snap, entry.GoodSnap, good)
		chance(t, r, entries(), e, entry.Good, good)
		chance(t, r, hards(), h, plainlyHard, good)
	}
	for name, n := range good {
		if n < 500 || n > 19500 {
			t.Errorf("%d of %s are good", n, name)
		}
	}
}

// chance: good or not as the chapter says; there and back; and with a byte changed.
func chance[T any](t *testing.T, r *rand.Rand, k thing[T], x T, is func(T) bool, good map[string]int) {
	t.Helper()
	want := k.good(x)
	if is(x) != want {
		t.Errorf("%s %s: %t, want %t", k.name, show(x), is(x), want)
	}
	if want {
		good[k.name]++
	}
	thereAndBack(t, k, x)
	b := k.bytes(x)
	b[r.Intn(len(b))] = byte(r.Intn(256))
	sound(t, k, b)
}
