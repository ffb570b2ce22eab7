package command_test

import (
	"math"
	"slices"
	"testing"

	"corbel/api"
	"corbel/command"
)

func isGood(t *testing.T, c api.Command, want bool) {
	t.Helper()
	if got := command.Good(c); got != want {
		t.Errorf("Good(%#v): %t, want %t", c, got, want)
	}
}

func reads(t *testing.T, c api.Command, want bool) {
	t.Helper()
	if got := command.Reads(c); got != want {
		t.Errorf("Reads(%#v): %t, want %t", c, got, want)
	}
}

func TestExamples(t *testing.T) {
	isGood(t, api.Command{Kind: api.CmdPut, Session: 1, Seq: 1, Key: "k", Value: "v"}, true)
	isGood(t, api.Command{Kind: api.CmdOpen, Session: 1}, false)
}

func TestGoodOfEachKind(t *testing.T) {
	for _, c := range good() {
		isGood(t, c, true)
	}
}

// TestKinds: with the fields of every good command, a kind that there is not.
func TestKinds(t *testing.T) {
	isGood(t, api.Command{}, false)
	for _, c := range good() {
		for _, kind := range []int{math.MinInt, math.MinInt + 1, -7, -3, -1, 0, 8, 9, 256 + api.CmdPut, 1<<32 + api.CmdPut, math.MaxInt - 1, math.MaxInt} {
			c.Kind = kind
			isGood(t, c, false)
			reads(t, c, false)
			c.Session, c.Seq = 0, 0
			isGood(t, c, false)
			reads(t, c, false)
		}
	}
}

func TestSessionAndSeq(t *testing.T) {
	for _, c := range good() {
		if c.Kind == api.CmdOpen {
			continue
		}
		for _, n := range ends() {
			session, seq, both := c, c, c
			session.Session, seq.Seq, both.Session, both.Seq = n, n, n, n
			isGood(t, session, n >= 1)
			if c.Kind == api.CmdExpire {
				isGood(t, seq, n == 0)
				isGood(t, both, false)
				continue
			}
			isGood(t, seq, n >= 1)
			isGood(t, both, n >= 1)
		}
	}
}

// TestNotNamed: each field that a kind does not name, set alone.
func TestNotNamed(t *testing.T) {
	tried := 0
	for _, c := range good() {
		for name, set := range fields() {
			if slices.Contains(names(c.Kind), name) {
				continue
			}
			for _, n := range []int{1, 2, 64} {
				d := c
				set(&d, n)
				isGood(t, d, false)
				tried++
			}
		}
		for _, n := range []int{math.MinInt, -1, math.MaxInt} {
			d, e, f := c, c, c
			d.Limit, e.Seq, f.Session = n, n, n
			isGood(t, d, false)
			isGood(t, e, n > 0 && c.Kind > api.CmdExpire)
			isGood(t, f, n > 0 && c.Kind > api.CmdOpen)
		}
	}
	if tried < 100 {
		t.Errorf("only %d tried", tried)
	}
}

func TestKeys(t *testing.T) {
	for _, kind := range []int{api.CmdPut, api.CmdGet, api.CmdDelete, api.CmdCas} {
		for n, want := range map[int]bool{0: false, 1: true, 2: true, 63: true, 64: true, 65: false, 256: false, 100000: false} {
			isGood(t, api.Command{Kind: kind, Session: 1, Seq: 1, Key: of(n)}, want)
		}
	}
}

func TestValues(t *testing.T) {
	for n, want := range map[int]bool{0: true, 1: true, 65: true, 255: true, 256: true, 257: false, 100000: false} {
		isGood(t, api.Command{Kind: api.CmdPut, Session: 1, Seq: 1, Key: "k", Value: of(n)}, want)
		isGood(t, api.Command{Kind: api.CmdCas, Session: 1, Seq: 1, Key: "k", Value: of(n)}, want)
		isGood(t, api.Command{Kind: api.CmdCas, Session: 1, Seq: 1, Key: "k", Old: of(n)}, want)
		isGood(t, api.Command{Kind: api.CmdCas, Session: 1, Seq: 1, Key: "k", Old: of(n), Value: of(256)}, want)
	}
}

// TestScans: both bounds may be empty, and until may be ahead of key.
func TestScans(t *testing.T) {
	for n, want := range map[int]bool{0: true, 1: true, 63: true, 64: true, 65: false, 256: false, 100000: false} {
		isGood(t, api.Command{Kind: api.CmdScan, Session: 1, Seq: 1, Key: of(n), Limit: 1}, want)
		isGood(t, api.Command{Kind: api.CmdScan, Session: 1, Seq: 1, Until: of(n), Limit: 1}, want)
		isGood(t, api.Command{Kind: api.CmdScan, Session: 1, Seq: 1, Key: of(n), Until: of(n), Limit: 64}, want)
	}
	for _, n := range ends(63, 64, 65, 256, 257) {
		isGood(t, api.Command{Kind: api.CmdScan, Session: 1, Seq: 1, Limit: n}, n >= 1 && n <= 64)
		isGood(t, api.Command{Kind: api.CmdScan, Session: 1, Seq: 1, Key: "b", Until: "a", Limit: n}, n >= 1 && n <= 64)
		reads(t, api.Command{Kind: api.CmdScan, Limit: n}, n >= 1 && n <= 64)
	}
}

// TestBytesAreCounted: a text is as long as it has bytes, not runes, and any bytes will do.
func TestBytesAreCounted(t *testing.T) {
	twoEach := func(n int) string { return string(slices.Repeat([]rune{0xe4}, n)) }
	isGood(t, api.Command{Kind: api.CmdGet, Session: 1, Seq: 1, Key: twoEach(32)}, true)
	isGood(t, api.Command{Kind: api.CmdGet, Session: 1, Seq: 1, Key: twoEach(33)}, false)
	isGood(t, api.Command{Kind: api.CmdPut, Session: 1, Seq: 1, Key: "k", Value: twoEach(128)}, true)
	isGood(t, api.Command{Kind: api.CmdPut, Session: 1, Seq: 1, Key: "k", Value: twoEach(129)}, false)
	isGood(t, api.Command{Kind: api.CmdPut, Session: 1, Seq: 1, Key: "\x00", Value: "\xff\xfe\x80"}, true)
	reads(t, api.Command{Kind: api.CmdGet, Key: "\x80"}, true)
}

func TestReads(t *testing.T) {
	for _, c := range good() {
		reads(t, c, false)
		isRead := c.Kind == api.CmdGet || c.Kind == api.CmdScan
		bare := c
		bare.Session, bare.Seq = 0, 0
		reads(t, bare, isRead)
		for _, n := range ends() {
			session, seq, both := bare, bare, bare
			session.Session, seq.Seq, both.Session, both.Seq = n, n, n, n
			reads(t, session, isRead && n == 0)
			reads(t, seq, isRead && n == 0)
			reads(t, both, isRead && n == 0)
		}
	}
}

func TestReadsOfWrong(t *testing.T) {
	for _, c := range []api.Command{
		{},
		{Kind: api.CmdGet},
		{Kind: api.CmdGet, Key: of(65)},
		{Kind: api.CmdGet, Key: "k", Old: "o"},
		{Kind: api.CmdGet, Key: "k", Value: "v"},
		{Kind: api.CmdGet, Key: "k", Until: "u"},
		{Kind: api.CmdGet, Key: "k", Limit: 1},
		{Kind: api.CmdGet, Key: "k", Limit: -1},
		{Kind: api.CmdScan},
		{Kind: api.CmdScan, Limit: -1},
		{Kind: api.CmdScan, Limit: 65},
		{Kind: api.CmdScan, Limit: 1, Key: of(65)},
		{Kind: api.CmdScan, Limit: 1, Until: of(65)},
		{Kind: api.CmdScan, Limit: 1, Old: "o"},
		{Kind: api.CmdScan, Limit: 1, Value: "v"},
		{Kind: api.CmdDelete, Key: "k"},
		{Kind: api.CmdPut, Key: "k", Value: "v"},
		{Kind: api.CmdCas, Key: "k"},
		{Kind: api.CmdOpen},
		{Kind: api.CmdExpire},
	} {
		reads(t, c, false)
	}
	for n, want := range map[int]bool{0: false, 1: true, 64: true, 65: false} {
		reads(t, api.Command{Kind: api.CmdGet, Key: of(n)}, want)
	}
	for n, want := range map[int]bool{0: true, 1: true, 64: true, 65: false} {
		reads(t, api.Command{Kind: api.CmdScan, Key: of(n), Until: of(n), Limit: 64}, want)
	}
}

func TestChanges(t *testing.T) {
	for kind, want := range map[int]bool{api.CmdOpen: false, api.CmdExpire: false, api.CmdPut: true, api.CmdGet: false, api.CmdDelete: true, api.CmdCas: true, api.CmdScan: false} {
		if got := command.Changes(kind); got != want {
			t.Errorf("Changes(%d): %t", kind, got)
		}
	}
	for _, kind := range []int{math.MinInt, math.MinInt + 3, -6, -5, -3, -1, 0, 8, 9, 10, 11, 256 + 3, 1<<32 + 5, math.MaxInt} {
		if command.Changes(kind) {
			t.Errorf("Changes(%d)", kind)
		}
	}
}

// TestEdgesOfAllFields: each edge of each field with each edge of all others, held against the chapter's words in a table; what is good comes back, and what is not does not.
func TestEdgesOfAllFields(t *testing.T) {
	all := rows()
	count, wrong := 0, 0
	for c := range edges() {
		if command.Good(c) != plainlyGood(all, c) || command.Reads(c) != plainlyReads(all, c) {
			t.Errorf("%#v: Good %t, Reads %t", c, command.Good(c), command.Reads(c))
			wrong++
		}
		if count++; count%17 == 0 || command.Good(c) {
			thereAndBack(t, all, c)
		}
		if wrong > 20 {
			t.FailNow()
		}
	}
	if count < 300000 {
		t.Errorf("only %d tried", count)
	}
}

// edges: commands of all edges.
func edges() func(func(api.Command) bool) {
	numbers := []int{math.MinInt, -1, 0, 1, math.MaxInt}
	bounds, values := []string{"", "k", of(64), of(65)}, []string{"", "v", of(256), of(257)}
	return func(yield func(api.Command) bool) {
		var c api.Command
		turns := []func(on func() bool) bool{
			over(&c.Kind, []int{math.MinInt, -1, 0, 1, 2, 3, 4, 5, 6, 7, 8, math.MaxInt}),
			over(&c.Session, numbers),
			over(&c.Seq, numbers),
			over(&c.Limit, []int{math.MinInt, -1, 0, 1, 64, 65, math.MaxInt}),
			over(&c.Key, bounds),
			over(&c.Old, values),
			over(&c.Value, values),
			over(&c.Until, bounds),
		}
		all := func() bool { return yield(c) }
		for _, turn := range turns {
			inner := all
			all = func() bool { return turn(inner) }
		}
		all()
	}
}

// over: sets a field to each of them, and goes on each time.
func over[T any](field *T, these []T) func(on func() bool) bool {
	return func(on func() bool) bool {
		for _, *field = range these {
			if !on() {
				return false
			}
		}
		return true
	}
}
