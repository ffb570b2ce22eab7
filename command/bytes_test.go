package command_test

import (
	"math"
	"slices"
	"testing"

	"corbel/api"
	"corbel/command"
)

// thereAndBack: Bytes as the chapter says, and Read of them undoes it if the command is good.
func thereAndBack(t *testing.T, all map[int]row, c api.Command) {
	t.Helper()
	b := command.Bytes(c)
	if !slices.Equal(b, commandBytes(c)) {
		t.Errorf("Bytes(%#v): %d, want %d", c, b, commandBytes(c))
	}
	want, wrong := c, api.OK
	if !plainlyGood(all, c) {
		want, wrong = api.Command{}, api.ErrCorrupt
	}
	if got, err := command.Read(b); got != want || err != wrong {
		t.Errorf("Read(%d): %#v, %v, want %#v, %v", b, got, err, want, wrong)
	}
}

// corrupt: ErrCorrupt, and nothing beside it.
func corrupt(t *testing.T, what string, b []byte) {
	t.Helper()
	if c, err := command.Read(b); c != (api.Command{}) || err != api.ErrCorrupt {
		t.Errorf("%s: Read(%d): %#v, %v", what, b, c, err)
	}
}

func TestBytesWrittenOut(t *testing.T) {
	for _, x := range []struct {
		c    api.Command
		want []byte
	}{
		{api.Command{}, []byte{0, 0, 0, 0, 0, 0, 0, 0}},
		{api.Command{Kind: api.CmdOpen}, []byte{2, 0, 0, 0, 0, 0, 0, 0}},
		{api.Command{Kind: api.CmdExpire, Session: 63}, []byte{4, 126, 0, 0, 0, 0, 0, 0}},
		{api.Command{Kind: api.CmdExpire, Session: 64}, []byte{4, 128, 128, 0, 0, 0, 0, 0, 0}},
		{api.Command{Kind: api.CmdPut, Session: 1, Seq: 1, Key: "k", Value: "v"}, []byte{6, 2, 2, 0, 1, 'k', 0, 1, 'v', 0}},
		{api.Command{Kind: api.CmdGet, Session: 1, Seq: 150, Key: "\xff"}, []byte{8, 2, 129, 44, 0, 1, 255, 0, 0, 0}},
		{api.Command{Kind: api.CmdDelete, Session: 3, Seq: 4, Key: "ab"}, []byte{10, 6, 8, 0, 2, 'a', 'b', 0, 0, 0}},
		{api.Command{Kind: api.CmdCas, Session: 5, Seq: 6, Key: "k", Old: "o", Value: "vw"}, []byte{12, 10, 12, 0, 1, 'k', 1, 'o', 2, 'v', 'w', 0}},
		{api.Command{Kind: api.CmdScan, Session: 7, Seq: 8, Key: "a", Until: "u", Limit: 64}, []byte{14, 14, 16, 128, 128, 1, 'a', 0, 0, 1, 'u'}},
		{api.Command{Kind: -1, Session: math.MaxInt, Seq: math.MinInt, Key: "k"}, []byte{255, 255, 255, 255, 255, 255, 255, 255, 255, 255, 255, 255, 255, 255, 255, 255, 255, 254, 1, 0, 1, 'k', 0, 0, 0}},
	} {
		if got := command.Bytes(x.c); !slices.Equal(got, x.want) {
			t.Errorf("Bytes(%#v): %d, want %d", x.c, got, x.want)
		}
		thereAndBack(t, rows(), x.c)
	}
}

func TestThereAndBack(t *testing.T) {
	all := rows()
	for _, c := range good() {
		thereAndBack(t, all, c)
		if got, err := command.Read(command.Bytes(c)); got != c || err != api.OK {
			t.Errorf("%#v: came back as %#v, %v", c, got, err)
		}
	}
}

// TestNotGoodStaysAway: its bytes are told, and taken by nobody.
func TestNotGoodStaysAway(t *testing.T) {
	for _, c := range good() {
		for name, set := range fields() {
			for _, n := range []int{0, 1, 2, 64, 65, 66, 256, 257, 258} {
				d := c
				set(&d, n)
				thereAndBack(t, rows(), d)
				if !slices.Contains(names(c.Kind), name) && n > 0 {
					corrupt(t, name, command.Bytes(d))
				}
			}
		}
		for _, kind := range []int{math.MinInt, -1, 0, 8, math.MaxInt} {
			d := c
			d.Kind = kind
			corrupt(t, "another kind", command.Bytes(d))
		}
	}
	long := api.Command{Kind: api.CmdPut, Session: 1, Seq: 1, Key: of(300000), Value: of(200000)}
	thereAndBack(t, rows(), long)
	corrupt(t, "a read without a session", command.Bytes(api.Command{Kind: api.CmdGet, Key: "k"}))
}

// TestFewerAndMore: no beginning of a command's bytes is another one's, and nothing may stand behind them.
func TestFewerAndMore(t *testing.T) {
	corrupt(t, "nil", nil)
	corrupt(t, "no bytes", []byte{})
	for _, c := range good() {
		b := command.Bytes(c)
		for n := range b {
			corrupt(t, "fewer", b[:n])
		}
		for _, x := range []byte{0, 1, 2, 'k', 128, 255} {
			corrupt(t, "more", append(slices.Clone(b), x))
		}
		corrupt(t, "twice", join(b, b))
	}
	for x := range 256 {
		corrupt(t, "one byte", []byte{byte(x)})
	}
}

// TestLongNumbers: what would come back, if its numbers stood in as few bytes as hold them.
func TestLongNumbers(t *testing.T) {
	parts := [][]byte{{14}, {2}, {4}, {6}, {1}, {0}, {0}, {1}}
	tails := []string{"", "", "", "", "k", "", "", "u"}
	whole := func(at, k int) []byte {
		var b []byte
		for i, p := range parts {
			if i == at {
				p = inBytes(uint64(p[0]), k)
			}
			b = join(b, p, []byte(tails[i]))
		}
		return b
	}
	want := api.Command{Kind: api.CmdScan, Session: 1, Seq: 2, Limit: 3, Key: "k", Until: "u"}
	for at := range parts {
		if c, err := command.Read(whole(at, 0)); c != want || err != api.OK {
			t.Fatalf("Read(%d): %#v, %v", whole(at, 0), c, err)
		}
		for k := 1; k <= 8; k++ {
			corrupt(t, "a long number", whole(at, k))
		}
	}
}

// TestLongTexts: a text's count is more than what follows it, up to the greatest there is.
func TestLongTexts(t *testing.T) {
	head := []byte{14, 2, 2, 2}
	for _, u := range []uint64{1, 2, 64, 65, 127, 128, 1 << 20, 1 << 31, 1 << 32, 1<<63 - 1, 1 << 63, 1<<64 - 2, 1<<64 - 1} {
		count := unsigned(u)
		corrupt(t, "Key", join(head, count))
		corrupt(t, "Until", join(head, []byte{0, 0, 0}, count))
		if u > 1 {
			corrupt(t, "Until with one byte", join(head, []byte{0, 0, 0}, count, []byte("u")))
		}
	}
	corrupt(t, "Key takes all", join(head, []byte{4, 0, 0, 0}))
	corrupt(t, "Value", []byte{6, 2, 2, 0, 1, 'k', 0, 2, 'v', 0})
	corrupt(t, "Old", []byte{12, 2, 2, 0, 1, 'k', 9, 'o', 0, 0})
	corrupt(t, "a number that ends early", []byte{14, 2, 255, 1, 2, 3})
}

// TestBytesOnceTurned: behind any turned bit what comes back has those bytes, or nothing does.
func TestBytesOnceTurned(t *testing.T) {
	all := rows()
	for _, c := range good() {
		b := command.Bytes(c)
		for i := range 8 * len(b) {
			b[i/8] ^= 1 << (i % 8)
			got, err := command.Read(b)
			switch {
			case err == api.OK && (!plainlyGood(all, got) || !slices.Equal(commandBytes(got), b)):
				t.Errorf("Read(%d): %#v", b, got)
			case err != api.OK && (err != api.ErrCorrupt || got != api.Command{}):
				t.Errorf("Read(%d): %#v, %v", b, got, err)
			}
			b[i/8] ^= 1 << (i % 8)
		}
	}
}

// TestShortBytes: of all short bytes over some, those that come back are just those of good commands.
func TestShortBytes(t *testing.T) {
	some := []byte{0, 1, 2, 4, 8, 14}
	want := map[string]api.Command{}
	for c := range fewBytes(some) {
		if b := commandBytes(c); len(b) <= 8 && plainlyGood(rows(), c) {
			want[string(b)] = c
		}
	}
	found := 0
	for b := range allOver(some, 8) {
		c, err := command.Read(b)
		w, ok := want[string(b)]
		if c != w || ok != (err == api.OK) || !ok && err != api.ErrCorrupt {
			t.Fatalf("Read(%d): %#v, %v, want %#v, %t", b, c, err, w, ok)
		}
		if ok {
			found++
		}
	}
	if found == 0 || found != len(want) {
		t.Errorf("%d came back, of %d", found, len(want))
	}
}

// fewBytes: the commands whose numbers are among these bytes, and whose texts have at most one byte, one of these.
func fewBytes(some []byte) func(func(api.Command) bool) {
	var numbers []int
	texts := []string{""}
	for _, x := range some {
		if x%2 == 0 {
			numbers = append(numbers, int(x)/2)
		}
		texts = append(texts, string([]byte{x}))
	}
	return func(yield func(api.Command) bool) {
		for _, kind := range numbers {
			for _, session := range numbers {
				for _, seq := range numbers {
					for _, limit := range numbers {
						for _, key := range texts {
							for _, until := range texts {
								if !yield(api.Command{Kind: kind, Session: session, Seq: seq, Limit: limit, Key: key, Until: until}) {
									return
								}
							}
						}
					}
				}
			}
		}
	}
}

// allOver: all bytes of that length and shorter ones over some, the same memory each time.
func allOver(some []byte, length int) func(func([]byte) bool) {
	return func(yield func([]byte) bool) {
		b := make([]byte, length)
		var fill func(n, at int) bool
		fill = func(n, at int) bool {
			if at == n {
				return yield(b[:n])
			}
			for _, x := range some {
				b[at] = x
				if !fill(n, at+1) {
					return false
				}
			}
			return true
		}
		for n := range length + 1 {
			if !fill(n, 0) {
				return
			}
		}
	}
}

// TestCommandMemory: what Read is given may be changed behind it, and is not changed by it; Bytes are new each time, their spare room too.
func TestCommandMemory(t *testing.T) {
	c := api.Command{Kind: api.CmdCas, Session: 1, Seq: 2, Key: "key", Old: "old", Value: "value"}
	room := append(command.Bytes(c), "behind"...)
	b := room[:len(room)-len("behind")]
	was := slices.Clone(room)
	got, err := command.Read(b)
	if got != c || err != api.OK || !slices.Equal(room, was) {
		t.Fatalf("Read: %#v, %v, %d", got, err, room)
	}
	clear(room)
	if got != c {
		t.Errorf("%#v, want %#v", got, c)
	}
	one, two := command.Bytes(c), command.Bytes(c)
	clear(one[:cap(one)])
	if !slices.Equal(two, commandBytes(c)) || !slices.Equal(command.Bytes(c), two) {
		t.Errorf("Bytes: %d", two)
	}
}
