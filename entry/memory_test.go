package entry_test

import (
	"slices"
	"testing"

	"corbel/api"
	"corbel/entry"
)

// keeps: reading neither changes nor keeps the bytes, nor the room behind them; writing tells new bytes each time, their spare room too; and what is told twice shares nothing. spoil writes over all memory of one.
func keeps[T any](t *testing.T, k thing[T], x T, spoil func(T)) {
	t.Helper()
	want := k.plain(x)
	room := append(slices.Clone(want), "behind"...)
	was := slices.Clone(room)
	one, err := k.read(room[:len(want)])
	other, _ := k.read(room[:len(want)])
	if err != api.OK || !slices.Equal(room, was) {
		t.Fatalf("%s: %v, %d, want %d", k.name, err, room, was)
	}
	for i := range room {
		room[i] = 0xee
	}
	if !k.same(one, x) {
		t.Errorf("%s changed with its bytes: %s, want %s", k.name, show(one), show(x))
	}
	spoil(other)
	if !k.same(one, x) {
		t.Errorf("%s changed with another one: %s, want %s", k.name, show(one), show(x))
	}
	if again, err := k.read(want); err != api.OK || !k.same(again, x) {
		t.Errorf("%s: told as %s, %v, want %s", k.name, show(again), err, show(x))
	}

	b, c := k.bytes(x), k.bytes(x)
	clear(b[:cap(b)])
	if !slices.Equal(c, want) || !slices.Equal(k.bytes(x), want) {
		t.Errorf("%s: its bytes share memory: %d, want %d", k.name, c, want)
	}
	spoil(x)
	if !slices.Equal(c, want) {
		t.Errorf("%s: its bytes changed with it: %d, want %d", k.name, c, want)
	}
}

// fill writes over a list, and over the room behind it.
func fill[T any](l []T, x T) {
	l = l[:cap(l)]
	for i := range l {
		l[i] = x
	}
}

func spoilConf(c api.Conf) {
	fill(c.Voters, -7)
	fill(c.Learners, -7)
}

func spoilEntry(e api.Entry) { spoilConf(e.Conf) }

func spoilSnap(s api.Snapshot) {
	spoilConf(s.Conf)
	fill(s.Data, 0xee)
}

func spoilMsg(m api.Msg) {
	for _, e := range m.Entries {
		spoilEntry(e)
	}
	fill(m.Entries, api.Entry{Index: -7})
	spoilSnap(m.Snap)
}

func TestMemory(t *testing.T) {
	for _, e := range goodEntries() {
		keeps(t, entries(), e, spoilEntry)
	}
	for _, h := range goodHards() {
		keeps(t, hards(), h, func(api.Hard) {})
	}
	for _, s := range goodSnaps() {
		keeps(t, snaps(), s, spoilSnap)
	}
	for _, m := range goodMsgs() {
		keeps(t, msgs(), m, spoilMsg)
	}
}

// TestListsOfOneAnswer: writing over one of them, with the room behind it, leaves the others as they are.
func TestListsOfOneAnswer(t *testing.T) {
	full := api.Conf{Voters: []int{1, 2, 3, 5}, Learners: []int{4, 6, 7}}
	var l []api.Entry
	for i := range api.MaxEntries {
		l = append(l, api.Entry{Index: 1 + i, Term: 1, Kind: api.EntryConf, Conf: full})
	}
	b := entry.MsgBytes(api.Msg{Kind: api.MsgApp, From: 1, To: 2, Term: 1, Entries: l})
	for i := range l {
		m, err := entry.ReadMsg(b)
		if err != api.OK || len(m.Entries) != len(l) {
			t.Fatalf("%v: %+v", err, m)
		}
		fill(m.Entries[i].Conf.Voters, -7)
		for j, e := range m.Entries {
			if voters := slices.Equal(e.Conf.Voters, full.Voters); voters != (i != j) || !slices.Equal(e.Conf.Learners, full.Learners) {
				t.Errorf("entry %d, behind a change of %d: %+v", j, i, e)
			}
		}
		fill(m.Entries[i].Conf.Learners, -7)
		for j, e := range m.Entries {
			if i != j && !sameConf(e.Conf, full) {
				t.Errorf("entry %d, behind a change of %d: %+v", j, i, e)
			}
		}
	}
	s, _ := entry.ReadSnap(entry.SnapBytes(api.Snapshot{Index: 1, Term: 1, Conf: full, Data: []byte("data")}))
	fill(s.Data, 0xee)
	fill(s.Conf.Learners, -7)
	if !slices.Equal(s.Conf.Voters, full.Voters) {
		t.Errorf("%+v", s)
	}
}

// TestArgumentsStay: no call changes what it is handed, nor the room behind a list's end.
func TestArgumentsStay(t *testing.T) {
	nodes := func() []int { return []int{1, 2, 3, 77, 78} }
	lists := func(l, m []int) api.Conf { return api.Conf{Voters: l[:1:5], Learners: m[1:3:5]} }
	voters, learners, data := nodes(), nodes(), []byte("data and more")
	members := lists(voters, learners)
	room := []api.Entry{{Index: 1, Term: 1, Kind: api.EntryConf, Conf: members}, noop(2, 1), noop(77, 77)}
	snap := api.Snapshot{Index: 1, Term: 1, Conf: members, Data: data[:4]}
	app := api.Msg{Kind: api.MsgApp, From: 1, To: 2, Term: 1, Entries: room[:2]}
	send := api.Msg{Kind: api.MsgSnap, From: 1, To: 2, Term: 1, Snap: snap}
	if !entry.GoodConf(members) || !entry.Good(room[0]) || !entry.GoodSnap(snap) || !entry.GoodMsg(app) || !entry.GoodMsg(send) {
		t.Error("not good")
	}
	entry.Bytes(room[0])
	entry.SnapBytes(snap)
	entry.MsgBytes(app)
	entry.MsgBytes(send)
	if !entry.Same(room[0], room[0]) || !entry.SameConf(members, members) {
		t.Error("not alike")
	}
	entry.GoodConf(api.Conf{Voters: members.Learners, Learners: members.Voters})
	if !slices.Equal(voters, nodes()) || !slices.Equal(learners, nodes()) || string(data) != "data and more" {
		t.Errorf("%d, %d, %s", voters, learners, data)
	}
	if !sameEntry(room[1], noop(2, 1)) || !sameEntry(room[2], noop(77, 77)) || !sameConf(room[0].Conf, lists(nodes(), nodes())) {
		t.Errorf("%+v", room)
	}
}
