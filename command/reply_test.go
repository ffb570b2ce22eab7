package command_test

import (
	"math"
	"slices"
	"strconv"
	"testing"

	"corbel/api"
	"corbel/command"
)

// same: alike in all fields, nil and empty lists too.
func same(a, b api.Reply) bool {
	if len(a.Pairs) != len(b.Pairs) {
		return false
	}
	for i, p := range a.Pairs {
		if p.Key != b.Pairs[i].Key || p.Value != b.Pairs[i].Value {
			return false
		}
	}
	return a.Err == b.Err && a.Found == b.Found && a.Value == b.Value && a.Session == b.Session
}

// replies: the ordinary ones, and odd ones.
func replies() []api.Reply {
	var many []api.Pair
	for i := range 1000 {
		many = append(many, api.Pair{Key: "k" + strconv.Itoa(i), Value: of(i)})
	}
	out := []api.Reply{
		{},
		{Pairs: []api.Pair{}},
		{Session: 1},
		{Found: true},
		{Found: true, Value: "v"},
		{Value: "v"},
		{Value: "\xff\xfe\x00\x80"},
		{Value: of(127)}, {Value: of(128)}, {Value: of(api.MaxValue)}, {Value: of(api.MaxValue + 1)}, {Value: of(100000)},
		{Pairs: []api.Pair{{}}},
		{Pairs: []api.Pair{{}, {}, {}}},
		{Pairs: []api.Pair{{Key: "k"}}},
		{Pairs: []api.Pair{{Value: "v"}}},
		{Pairs: []api.Pair{{Key: "b", Value: "1"}, {Key: "a", Value: "2"}, {Key: "b", Value: "1"}}},
		{Pairs: []api.Pair{{Key: "\xc3", Value: "\x80\x80"}, {Key: "\x00", Value: "\xf8"}}},
		{Pairs: []api.Pair{{Key: of(api.MaxKey + 1), Value: of(api.MaxValue + 1)}}},
		{Pairs: many[:api.MaxScan]}, {Pairs: many[:api.MaxScan+1]}, {Pairs: many[:127]}, {Pairs: many[:128]}, {Pairs: many},
		{Err: api.ErrOld, Found: true, Value: "v", Session: 16, Pairs: many[:2]},
	}
	for _, n := range ends(18, 19, 63, 64, -64, 1<<32) {
		out = append(out, api.Reply{Err: api.Errno(n)}, api.Reply{Session: n}, api.Reply{Err: api.Errno(n), Session: ^n, Found: true, Pairs: many[:1]})
	}
	return out
}

// corruptReply: ErrCorrupt, and nothing beside it.
func corruptReply(t *testing.T, what string, b []byte) {
	t.Helper()
	if r, err := command.ReadReply(b); !same(r, api.Reply{}) || err != api.ErrCorrupt {
		t.Errorf("%s: ReadReply(%d): %#v, %v", what, b, r, err)
	}
}

func TestReplyBytesWrittenOut(t *testing.T) {
	for _, x := range []struct {
		r    api.Reply
		want []byte
	}{
		{api.Reply{}, []byte{0, 0, 'F', 0, 0}},
		{api.Reply{Pairs: []api.Pair{}}, []byte{0, 0, 'F', 0, 0}},
		{api.Reply{Err: api.ErrSession}, []byte{28, 0, 'F', 0, 0}},
		{api.Reply{Session: 1}, []byte{0, 2, 'F', 0, 0}},
		{api.Reply{Err: 1, Session: 2, Found: true, Value: "v"}, []byte{2, 4, 'T', 1, 'v', 0}},
		{api.Reply{Err: -1, Session: math.MinInt}, []byte{255, 255, 255, 255, 255, 255, 255, 255, 255, 1, 'F', 0, 0}},
		{api.Reply{Pairs: []api.Pair{{Key: "k", Value: "vw"}, {}}}, []byte{0, 0, 'F', 0, 2, 1, 'k', 2, 'v', 'w', 0, 0}},
	} {
		if got := command.ReplyBytes(x.r); !slices.Equal(got, x.want) {
			t.Errorf("ReplyBytes(%#v): %d, want %d", x.r, got, x.want)
		}
		if got, err := command.ReadReply(x.want); !same(got, x.r) || err != api.OK {
			t.Errorf("ReadReply(%d): %#v, %v", x.want, got, err)
		}
	}
}

func TestReplyThereAndBack(t *testing.T) {
	for _, r := range replies() {
		b := command.ReplyBytes(r)
		if !slices.Equal(b, replyBytes(r)) {
			t.Errorf("ReplyBytes(%#v): %d, want %d", r, b, replyBytes(r))
		}
		if got, err := command.ReadReply(b); !same(got, r) || err != api.OK || !command.Same(got, r) {
			t.Errorf("ReadReply(%d): %#v, %v, want %#v", b, got, err, r)
		}
	}
}

// TestManyPairs: it takes no longer than its bytes are many.
func TestManyPairs(t *testing.T) {
	r := api.Reply{Pairs: make([]api.Pair, 200000)}
	for i := range r.Pairs {
		r.Pairs[i] = api.Pair{Key: strconv.Itoa(i), Value: of(i % 300)}
	}
	got, err := command.ReadReply(command.ReplyBytes(r))
	if err != api.OK || !same(got, r) || !command.Same(got, r) {
		t.Errorf("%d pairs came back, %v", len(got.Pairs), err)
	}
}

func TestReplyFewerAndMore(t *testing.T) {
	corruptReply(t, "nil", nil)
	corruptReply(t, "no bytes", []byte{})
	for _, r := range replies() {
		b := command.ReplyBytes(r)
		for n := range min(len(b), 300) {
			corruptReply(t, "fewer", b[:n])
			corruptReply(t, "a few fewer", b[:len(b)-1-n])
		}
		for _, x := range []byte{0, 1, 2, 'F', 'T', 128, 255} {
			corruptReply(t, "more", append(slices.Clone(b), x))
		}
		corruptReply(t, "twice", join(b, b))
	}
}

// TestFoundOfOtherBytes: T and F alone are bools.
func TestFoundOfOtherBytes(t *testing.T) {
	for x := range 256 {
		b := []byte{0, 0, byte(x), 0, 0}
		if x != 'T' && x != 'F' {
			corruptReply(t, "Found", b)
			continue
		}
		if r, err := command.ReadReply(b); !same(r, api.Reply{Found: x == 'T'}) || err != api.OK {
			t.Errorf("ReadReply(%d): %#v, %v", b, r, err)
		}
	}
}

func TestReplyLongNumbers(t *testing.T) {
	numbers := []uint64{2, 4, 1, 1, 1, 1}
	tails := []string{"", "F", "v", "", "k", "w"}
	whole := func(at, k int) []byte {
		var b []byte
		for i, u := range numbers {
			tail := 0
			if i == at {
				tail = k
			}
			b = join(b, inBytes(u, tail), []byte(tails[i]))
		}
		return b
	}
	want := api.Reply{Err: 1, Session: 2, Value: "v", Pairs: []api.Pair{{Key: "k", Value: "w"}}}
	for at := range numbers {
		if r, err := command.ReadReply(whole(at, 0)); !same(r, want) || err != api.OK {
			t.Fatalf("ReadReply(%d): %#v, %v", whole(at, 0), r, err)
		}
		for k := 1; k <= 8; k++ {
			corruptReply(t, "a long number", whole(at, k))
		}
	}
}

// TestManyMorePairsThanFollow: a count that is more than what follows is refused, without room made for so many.
func TestManyMorePairsThanFollow(t *testing.T) {
	counts := []uint64{3, 4, 5, 6, 7, 8, 64, 127, 128, 1 << 20, 1 << 31, 1 << 32, 1 << 62, 1<<63 - 1, 1 << 63, 1<<64 - 2, 1<<64 - 1}
	for _, u := range counts {
		corruptReply(t, "two pairs follow", join([]byte{0, 0, 'F', 0}, unsigned(u), []byte{0, 0, 0, 0}))
		corruptReply(t, "nothing follows", join([]byte{0, 0, 'F', 0}, unsigned(u)))
		corruptReply(t, "half a pair follows", join([]byte{0, 0, 'T', 1, 'v'}, unsigned(u), []byte{0, 0, 0, 0, 0}))
		corruptReply(t, "a long Value", join([]byte{0, 0, 'F'}, unsigned(u), []byte{0, 0}))
		corruptReply(t, "a long key", join([]byte{0, 0, 'F', 0, 1}, unsigned(u), []byte{0, 0}))
		corruptReply(t, "a long value of a pair", join([]byte{0, 0, 'F', 0, 1, 0}, unsigned(u), []byte{0, 0}))
	}
	corruptReply(t, "no count", []byte{0, 0, 'F', 0})
	corruptReply(t, "fewer pairs counted than follow", []byte{0, 0, 'F', 0, 1, 0, 0, 0, 0})
	long := join([]byte{0, 0, 'F', 0}, unsigned(1<<20), make([]byte, 1<<21-1))
	if r, err := command.ReadReply(long); !same(r, api.Reply{}) || err != api.ErrCorrupt {
		t.Errorf("one byte fewer than many pairs: %d, %v", len(r.Pairs), err)
	}
	if r, err := command.ReadReply(append(long, 0)); len(r.Pairs) != 1<<20 || err != api.OK {
		t.Errorf("many pairs of nothing: %d, %v", len(r.Pairs), err)
	}
}

// TestReplyShortBytes: of all short bytes over some, those that come back are just those of replies.
func TestReplyShortBytes(t *testing.T) {
	some := []byte{0, 1, 2, 'F', 'T', 255}
	want := map[string]api.Reply{}
	for r := range fewReplies(some) {
		want[string(replyBytes(r))] = r
	}
	found := 0
	for b := range allOver(some, 7) {
		r, err := command.ReadReply(b)
		if w, ok := want[string(b)]; ok {
			found++
			if !same(r, w) || err != api.OK {
				t.Fatalf("ReadReply(%d): %#v, %v, want %#v", b, r, err, w)
			}
		} else if !same(r, api.Reply{}) || err != api.ErrCorrupt {
			t.Fatalf("ReadReply(%d): %#v, %v", b, r, err)
		}
	}
	if found < 1000 || found != len(want) {
		t.Errorf("%d came back, of %d", found, len(want))
	}
}

// fewReplies: those that have at most seven bytes, all of these. Seven bytes hold a value of two bytes, or one pair without any.
func fewReplies(some []byte) func(func(api.Reply) bool) {
	var numbers []int
	for _, x := range some {
		if x < 128 {
			numbers = append(numbers, int(uint64(x)>>1|uint64(x)<<63))
		}
	}
	var texts []string
	for b := range allOver(some, 2) {
		texts = append(texts, string(b))
	}
	return func(yield func(api.Reply) bool) {
		for _, err := range numbers {
			for _, session := range numbers {
				for _, value := range texts {
					for i, pairs := range [][]api.Pair{nil, {{}}} {
						for _, found := range []bool{false, true} {
							if i > 0 && len(value) > 0 {
								continue
							}
							r := api.Reply{Err: api.Errno(err), Session: session, Found: found, Value: value, Pairs: pairs}
							if !yield(r) {
								return
							}
						}
					}
				}
			}
		}
	}
}

func TestSame(t *testing.T) {
	one := func() api.Reply {
		return api.Reply{Err: 1, Found: true, Value: "v", Session: 2, Pairs: []api.Pair{{Key: "a", Value: "1"}, {Key: "b", Value: "2"}}}
	}
	alike := func(what string, a, b api.Reply, want bool) {
		t.Helper()
		if command.Same(a, b) != want || command.Same(b, a) != want {
			t.Errorf("%s: %t, %t, want %t", what, command.Same(a, b), command.Same(b, a), want)
		}
	}
	alike("alike", one(), one(), true)
	for what, part := range map[string]func(*api.Reply){
		"Err":                 func(r *api.Reply) { r.Err = -1 },
		"Err 0":               func(r *api.Reply) { r.Err = 0 },
		"Found":               func(r *api.Reply) { r.Found = false },
		"Value":               func(r *api.Reply) { r.Value = "w" },
		"a longer Value":      func(r *api.Reply) { r.Value = "v\x00" },
		"no Value":            func(r *api.Reply) { r.Value = "" },
		"Session":             func(r *api.Reply) { r.Session = -2 },
		"the first key":       func(r *api.Reply) { r.Pairs[0].Key = "" },
		"the last key":        func(r *api.Reply) { r.Pairs[1].Key = "c" },
		"the first value":     func(r *api.Reply) { r.Pairs[0].Value = "2" },
		"the last value":      func(r *api.Reply) { r.Pairs[1].Value = "" },
		"one pair fewer":      func(r *api.Reply) { r.Pairs = r.Pairs[:1] },
		"another pair fewer":  func(r *api.Reply) { r.Pairs = r.Pairs[1:] },
		"an empty pair more":  func(r *api.Reply) { r.Pairs = append(r.Pairs, api.Pair{}) },
		"the last pair twice": func(r *api.Reply) { r.Pairs = append(r.Pairs, r.Pairs[1]) },
		"no pairs":            func(r *api.Reply) { r.Pairs = nil },
		"another order":       func(r *api.Reply) { slices.Reverse(r.Pairs) },
	} {
		r := one()
		part(&r)
		alike(what, one(), r, false)
		alike(what+", itself", r, r, true)
	}
	alike("zero", api.Reply{}, api.Reply{}, true)
	alike("no pairs and an empty list", api.Reply{}, api.Reply{Pairs: []api.Pair{}}, true)
	alike("no pairs and room for some", api.Reply{}, api.Reply{Pairs: make([]api.Pair, 0, 3)}, true)
	alike("no pairs and an empty one", api.Reply{}, api.Reply{Pairs: []api.Pair{{}}}, false)
	alike("a key and a value", api.Reply{Pairs: []api.Pair{{Key: "x"}}}, api.Reply{Pairs: []api.Pair{{Value: "x"}}}, false)
}

// TestSameOfAll: replies are alike where their bytes are.
func TestSameOfAll(t *testing.T) {
	all := replies()
	for _, a := range all {
		for _, b := range all {
			if got := command.Same(a, b); got != same(a, b) || got != slices.Equal(command.ReplyBytes(a), command.ReplyBytes(b)) {
				t.Errorf("Same(%#v, %#v): %t", a, b, got)
			}
		}
	}
}

// TestReplyMemory: what is handed in is neither changed nor kept, with the room behind it, and answers share nothing.
func TestReplyMemory(t *testing.T) {
	room := []api.Pair{{Key: "a", Value: "1"}, {Key: "b", Value: "2"}, {Key: "behind", Value: "3"}}
	r := api.Reply{Found: true, Value: "v", Pairs: room[:2]}
	want := replyBytes(r)
	b := command.ReplyBytes(r)
	got, err := command.ReadReply(b)
	other, _ := command.ReadReply(b)
	if !command.Same(got, r) || err != api.OK || room[2].Key != "behind" || room[0].Key != "a" {
		t.Fatalf("%#v, %v, %v", got, err, room)
	}
	clear(room)
	if !slices.Equal(b, want) {
		t.Errorf("ReplyBytes changed with the pairs: %d", b)
	}
	clear(b[:cap(b)])
	clear(other.Pairs[:cap(other.Pairs)])
	if !slices.Equal(replyBytes(got), want) {
		t.Errorf("ReadReply changed with the bytes: %#v", got)
	}
	behind := append(slices.Clone(want), "behind"...)
	whole := slices.Clone(behind)
	back, err := command.ReadReply(behind[:len(want)])
	if err != api.OK || !slices.Equal(behind, whole) {
		t.Errorf("%v: %d", err, behind)
	}
	clear(behind)
	if !slices.Equal(replyBytes(back), want) {
		t.Errorf("ReadReply changed with the bytes: %#v", back)
	}
}
