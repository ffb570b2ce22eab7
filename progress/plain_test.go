package progress_test

import (
	"fmt"
	"math"
	"math/big"
	"testing"

	"corbel/progress"
)

// What chapter 16 says, told once more, sentence by sentence and in numbers of any size.

var (
	ends = []int{math.MinInt, math.MinInt + 1, -1<<50 - 1, -2, -1, 0, 1, 2, 3, 1<<32 + 1, 1<<50 - 2, 1<<50 - 1, 1 << 50, 1<<50 + 1, 1<<50 + 2, math.MaxInt - 1, math.MaxInt}
	top  = big.NewInt(1 << 50)
)

type number = *big.Int

func num(n int) number { return big.NewInt(int64(n)) }

// count: numbers below 0 count as 0, above 2^50 as that.
func count(n int) number {
	switch x := num(n); {
	case x.Sign() < 0:
		return num(0)
	case x.Cmp(top) > 0:
		return top
	default:
		return x
	}
}

func plus(x number, n int) number { return new(big.Int).Add(x, num(n)) }

func least(x, y number) number {
	if x.Cmp(y) < 0 {
		return x
	}
	return y
}

func greatest(x, y number) number {
	if x.Cmp(y) > 0 {
		return x
	}
	return y
}

type plain struct {
	next, match, snap number
	mode              string
	busy              bool
}

func plainNew(next int) *plain {
	return &plain{next: greatest(count(next), num(1)), match: num(0), snap: num(0), mode: "probe"}
}

func (p *plain) may() bool { return p.mode == "stream" || p.mode == "probe" && !p.busy }

func (p *plain) sent(n int) {
	if p.mode == "probe" {
		p.busy = true
	}
	if p.mode == "stream" && p.next.Cmp(top) < 0 {
		p.next = least(new(big.Int).Add(p.next, count(n)), top)
	}
}

func (p *plain) said(i int) bool {
	is := count(i)
	if is.Cmp(p.match) < 0 {
		return false
	}
	more := is.Cmp(p.match) != 0
	p.match = is
	p.next = greatest(p.next, plus(is, 1))
	if p.mode == "probe" || p.mode == "wait" && is.Cmp(p.snap) >= 0 {
		p.mode, p.next = "stream", plus(is, 1)
	}
	p.busy = false
	return more
}

func (p *plain) refused(index, hint int) bool {
	x, h := count(index), count(hint)
	if x.Cmp(p.match) <= 0 {
		return false
	}
	if p.mode != "stream" && plus(x, 1).Cmp(p.next) != 0 {
		return false
	}
	p.next = greatest(least(x, plus(h, 1)), plus(p.match, 1))
	p.mode, p.busy = "probe", false
	return true
}

func (p *plain) snapped(i int) { p.mode, p.snap, p.busy = "wait", count(i), false }

func (p *plain) beat() {
	p.busy = false
	if p.mode == "wait" {
		p.mode, p.next = "probe", plus(p.match, 1)
	}
}

// state: what may be asked of it.
func (p *plain) state() string {
	mode := map[string]int{"probe": 1, "stream": 2, "wait": 3}[p.mode]
	return fmt.Sprint(p.next, p.match, mode, p.may())
}

// hidden: what hangs on it too, later.
func (p *plain) hidden() string { return fmt.Sprint(p.state(), p.mode == "wait", p.snap, p.busy) }

func (p *plain) copied() *plain { q := *p; return &q }

func state(p *progress.Progress) string { return fmt.Sprint(p.Next(), p.Match(), p.Mode(), p.May()) }

// call is one that changes, with its numbers.
type call struct {
	name string
	a, b int
}

// do: in both; what they answered.
func (c call) do(p *progress.Progress, q *plain) (got, want bool) {
	switch c.name {
	case "Sent":
		p.Sent(c.a)
		q.sent(c.a)
	case "Said":
		return p.Said(c.a), q.said(c.a)
	case "Refused":
		return p.Refused(c.a, c.b), q.refused(c.a, c.b)
	case "Snap":
		p.Snap(c.a)
		q.snapped(c.a)
	case "Beat":
		p.Beat()
		q.beat()
	}
	return false, false
}

// calls: all of them, with those numbers.
func calls(numbers []int) []call {
	l := []call{{name: "Beat"}}
	for _, a := range numbers {
		for _, name := range []string{"Sent", "Said", "Snap"} {
			l = append(l, call{name, a, 0})
		}
		for _, b := range numbers {
			l = append(l, call{"Refused", a, b})
		}
	}
	return l
}

// way is how one came to be as it is.
type way struct {
	next  int
	calls []call
}

// made: a new one that came that way.
func (w way) made() (*progress.Progress, *plain) {
	p, q := progress.New(w.next), plainNew(w.next)
	for _, c := range w.calls {
		c.do(p, q)
	}
	return p, q
}

// hold: the package against the plain telling, in every state that the calls lead to, at most so many.
func hold(t *testing.T, begins, numbers []int, most int) int {
	t.Helper()
	seen := map[string]bool{}
	var work []way
	look := func(w way) {
		p, q := w.made()
		if state(p) != q.state() {
			t.Fatalf("New %d, %v: %s, want %s", w.next, w.calls, state(p), q.state())
		}
		if !seen[q.hidden()] && len(seen) < most {
			seen[q.hidden()] = true
			work = append(work, w)
		}
	}
	for _, n := range begins {
		look(way{next: n})
	}
	all := calls(numbers)
	for ; len(work) > 0; work = work[1:] {
		w := work[0]
		for _, c := range all {
			p, q := w.made()
			was, _ := w.made()
			got, want := c.do(p, q)
			if got != want {
				t.Fatalf("New %d, %v, %v: %v, want %v", w.next, w.calls, c, got, want)
			}
			above(t, w, c, was, p)
			look(way{w.next, append(w.calls[:len(w.calls):len(w.calls)], c)})
		}
	}
	return len(seen)
}

// above: P16.3.
func above(t *testing.T, w way, c call, was, p *progress.Progress) {
	t.Helper()
	if p.Match() < was.Match() {
		t.Fatalf("New %d, %v, %v: Match falls from %d to %d", w.next, w.calls, c, was.Match(), p.Match())
	}
	if p.Next() <= p.Match() {
		t.Fatalf("New %d, %v, %v: Next %d, Match %d", w.next, w.calls, c, p.Next(), p.Match())
	}
}
