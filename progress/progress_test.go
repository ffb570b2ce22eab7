package progress_test

import (
	"math"
	"math/rand"
	"testing"

	"corbel/progress"
)

func is[T comparable](t *testing.T, got, want T, what ...any) {
	t.Helper()
	if got != want {
		t.Errorf("%v: %v, want %v", what, got, want)
	}
}

// isState: Next, Match, Mode and May.
func isState(t *testing.T, p *progress.Progress, next, match, mode int, may bool, what ...any) {
	t.Helper()
	is(t, p.Next(), next, append(what, "Next")...)
	is(t, p.Match(), match, append(what, "Match")...)
	is(t, p.Mode(), mode, append(what, "Mode")...)
	is(t, p.May(), may, append(what, "May")...)
}

// streaming: one in Stream, up to match, of which entries ahead of next were sent.
func streaming(match, next int) *progress.Progress {
	p := progress.New(1)
	p.Said(match)
	p.Sent(next - match - 1)
	return p
}

// waiting: one for a snapshot of index snap.
func waiting(match, next, snap int) *progress.Progress {
	p := streaming(match, next)
	p.Snap(snap)
	return p
}

// probing: one in Probe.
func probing(match, next int) *progress.Progress {
	p := streaming(match, next)
	p.Refused(next, next)
	return p
}

func TestMade(t *testing.T) {
	isState(t, streaming(3, 8), 8, 3, progress.Stream, true, "streaming")
	isState(t, waiting(3, 8, 6), 8, 3, progress.Wait, false, "waiting")
	isState(t, probing(3, 8), 8, 3, progress.Probe, true, "probing")
}

func TestExample(t *testing.T) {
	p := progress.New(5)
	is(t, p.May(), true, "New")
	p.Sent(1)
	is(t, p.May(), false, "Sent")
	is(t, p.Refused(4, 2), true, "Refused")
	isState(t, p, 3, 0, progress.Probe, true, "Refused")
	is(t, p.Said(2), true, "Said")
	isState(t, p, 3, 2, progress.Stream, true, "Said")
}

func TestModes(t *testing.T) {
	is(t, [...]int{progress.Probe, progress.Stream, progress.Wait}, [...]int{1, 2, 3}, "modes")
}

func TestNew(t *testing.T) {
	for _, x := range []struct{ next, want int }{
		{math.MinInt, 1}, {-1, 1}, {0, 1}, {1, 1}, {2, 2}, {1000, 1000},
		{1<<50 - 1, 1<<50 - 1}, {1 << 50, 1 << 50}, {1<<50 + 1, 1 << 50}, {math.MaxInt, 1 << 50},
	} {
		isState(t, progress.New(x.next), x.want, 0, progress.Probe, true, "New", x.next)
	}
}

func TestSent(t *testing.T) {
	for _, n := range ends { // in Probe something is under way, be they as many as they will
		p := progress.New(7)
		p.Sent(n)
		isState(t, p, 7, 0, progress.Probe, false, "Probe", n)
		p.Sent(n)
		isState(t, p, 7, 0, progress.Probe, false, "Probe, twice", n)
	}
	for _, x := range []struct{ next, n, want int }{
		{4, 0, 4}, {4, -1, 4}, {4, math.MinInt, 4}, {4, 1, 5}, {4, 16, 20},
		{4, 1<<50 - 5, 1<<50 - 1}, {4, 1<<50 - 4, 1 << 50}, {4, 1<<50 - 3, 1 << 50}, {4, 1 << 50, 1 << 50}, {4, math.MaxInt, 1 << 50},
		{1 << 50, 0, 1 << 50}, {1 << 50, 1, 1 << 50},
	} {
		p := streaming(3, x.next)
		p.Sent(x.n)
		isState(t, p, x.want, 3, progress.Stream, true, "Stream", x)
	}
	for _, n := range ends {
		p := waiting(3, 8, 6)
		p.Sent(n)
		isState(t, p, 8, 3, progress.Wait, false, "Wait", n)
		is(t, p.Said(6), true, "Wait", n)
		isState(t, p, 7, 6, progress.Stream, true, "Wait", n)
	}
}

// TestSentBehindAll: Next stays above a Match that is the greatest.
func TestSentBehindAll(t *testing.T) {
	for _, n := range ends {
		p := progress.New(1)
		is(t, p.Said(math.MaxInt), true, "Said")
		isState(t, p, 1<<50+1, 1<<50, progress.Stream, true, "Said")
		p.Sent(n)
		isState(t, p, 1<<50+1, 1<<50, progress.Stream, true, "Sent", n)
	}
}

func TestSaid(t *testing.T) {
	for _, x := range []struct {
		what        string
		p           *progress.Progress
		i           int
		is          bool
		next, match int
		mode        int
	}{
		{"Probe: above Match", probing(3, 8), 5, true, 6, 5, progress.Stream},
		{"Probe: above Next", probing(3, 8), 20, true, 21, 20, progress.Stream},
		{"Probe: Match", probing(3, 8), 3, false, 4, 3, progress.Stream},
		{"Probe: below Match", probing(3, 8), 2, false, 8, 3, progress.Probe},
		{"Probe: below 0", probing(3, 8), -1, false, 8, 3, progress.Probe},
		{"Probe: 0", progress.New(9), 0, false, 1, 0, progress.Stream},
		{"Probe: below 0 is 0", progress.New(9), math.MinInt, false, 1, 0, progress.Stream},
		{"Stream: above Match", streaming(3, 8), 5, true, 8, 5, progress.Stream},
		{"Stream: Next - 1", streaming(3, 8), 7, true, 8, 7, progress.Stream},
		{"Stream: Next", streaming(3, 8), 8, true, 9, 8, progress.Stream},
		{"Stream: Match", streaming(3, 8), 3, false, 8, 3, progress.Stream},
		{"Stream: below Match", streaming(3, 8), 2, false, 8, 3, progress.Stream},
		{"Stream: above 2^50", streaming(3, 8), 1<<50 + 1, true, 1<<50 + 1, 1 << 50, progress.Stream},
		{"Wait: below the snapshot", waiting(3, 8, 6), 5, true, 8, 5, progress.Wait},
		{"Wait: below the snapshot, above Next", waiting(3, 8, 20), 10, true, 11, 10, progress.Wait},
		{"Wait: the snapshot", waiting(3, 8, 6), 6, true, 7, 6, progress.Stream},
		{"Wait: above the snapshot", waiting(3, 8, 6), 12, true, 13, 12, progress.Stream},
		{"Wait: Match", waiting(3, 8, 6), 3, false, 8, 3, progress.Wait},
		{"Wait: below Match", waiting(3, 8, 1), 2, false, 8, 3, progress.Wait},
		{"Wait: Match, at the snapshot", waiting(3, 8, 3), 3, false, 4, 3, progress.Stream},
		{"Wait: Match, above the snapshot", waiting(3, 8, -5), 3, false, 4, 3, progress.Stream},
		{"Wait: a snapshot above 2^50", waiting(3, 8, math.MaxInt), 1 << 50, true, 1<<50 + 1, 1 << 50, progress.Stream},
		{"Wait: almost that", waiting(3, 8, math.MaxInt), 1<<50 - 1, true, 1 << 50, 1<<50 - 1, progress.Wait},
	} {
		is(t, x.p.Said(x.i), x.is, x.what)
		isState(t, x.p, x.next, x.match, x.mode, x.mode != progress.Wait, x.what)
	}
}

func TestSaidWhileUnderWay(t *testing.T) {
	p := probing(3, 8)
	p.Sent(1)
	is(t, p.Said(2), false, "an old one")
	is(t, p.May(), false, "an old one: still under way")
	is(t, p.Said(3), false, "no more")
	isState(t, p, 4, 3, progress.Stream, true, "no more")
}

func TestRefused(t *testing.T) {
	for _, x := range []struct {
		what        string
		p           *progress.Progress
		index, hint int
		is          bool
		next        int
		mode        int
	}{
		{"Probe: Next - 1, a lower hint", probing(3, 8), 7, 4, true, 5, progress.Probe},
		{"Probe: a hint ahead of Match", probing(3, 8), 7, 1, true, 4, progress.Probe},
		{"Probe: a hint below 0", probing(3, 8), 7, -9, true, 4, progress.Probe},
		{"Probe: the greatest hint", probing(3, 8), 7, math.MaxInt, true, 7, progress.Probe},
		{"Probe: hint + 1 is index", probing(3, 8), 7, 6, true, 7, progress.Probe},
		{"Probe: hint is index", probing(3, 8), 7, 7, true, 7, progress.Probe},
		{"Probe: Next - 2", probing(3, 8), 6, 4, false, 8, progress.Probe},
		{"Probe: Next", probing(3, 8), 8, 4, false, 8, progress.Probe},
		{"Probe: Match", probing(3, 8), 3, 1, false, 8, progress.Probe},
		{"Probe: Match is Next - 1", probing(3, 4), 3, 1, false, 4, progress.Probe},
		{"Probe: below 0", probing(3, 8), math.MinInt, 1, false, 8, progress.Probe},
		{"Stream: Next - 1", streaming(3, 8), 7, 4, true, 5, progress.Probe},
		{"Stream: any above Match", streaming(3, 8), 4, 9, true, 4, progress.Probe},
		{"Stream: above Next", streaming(3, 8), 20, 30, true, 20, progress.Probe},
		{"Stream: the greatest", streaming(3, 8), math.MaxInt, math.MaxInt, true, 1 << 50, progress.Probe},
		{"Stream: a hint of 0", streaming(3, 8), 5, 0, true, 4, progress.Probe},
		{"Stream: Match", streaming(3, 8), 3, 1, false, 8, progress.Stream},
		{"Stream: below Match", streaming(3, 8), 2, 1, false, 8, progress.Stream},
		{"Stream: below 0", streaming(3, 8), -1, -1, false, 8, progress.Stream},
		{"Wait: Next - 1", waiting(3, 8, 6), 7, 4, true, 5, progress.Probe},
		{"Wait: another", waiting(3, 8, 6), 6, 4, false, 8, progress.Wait},
		{"Wait: Next", waiting(3, 8, 6), 8, 4, false, 8, progress.Wait},
		{"Wait: Match is Next - 1", waiting(3, 4, 6), 3, 1, false, 4, progress.Wait},
	} {
		is(t, x.p.Refused(x.index, x.hint), x.is, x.what)
		isState(t, x.p, x.next, 3, x.mode, x.mode != progress.Wait, x.what)
	}
}

func TestRefusedWhileUnderWay(t *testing.T) {
	p := probing(3, 8)
	p.Sent(1)
	is(t, p.Refused(6, 4), false, "an old answer")
	is(t, p.May(), false, "an old answer: still under way")
	is(t, p.Refused(7, 4), true, "the answer")
	isState(t, p, 5, 3, progress.Probe, true, "the answer")
	is(t, p.Refused(7, 4), false, "the answer, doubled")
	isState(t, p, 5, 3, progress.Probe, true, "the answer, doubled")
}

func TestSnap(t *testing.T) {
	for _, p := range []*progress.Progress{probing(3, 8), streaming(3, 8), waiting(3, 8, 100)} {
		p.Snap(6)
		isState(t, p, 8, 3, progress.Wait, false, "Snap")
		is(t, p.Said(6), true, "Said")
		isState(t, p, 7, 6, progress.Stream, true, "Said")
	}
	p := probing(3, 8) // nothing is under way in what follows
	p.Sent(1)
	p.Snap(6)
	isState(t, p, 8, 3, progress.Wait, false, "under way, Snap")
	is(t, p.Refused(7, 5), true, "under way, Snap, Refused")
	isState(t, p, 6, 3, progress.Probe, true, "under way, Snap, Refused")
}

func TestBeat(t *testing.T) {
	p := probing(3, 8)
	p.Beat()
	isState(t, p, 8, 3, progress.Probe, true, "Probe")
	p.Sent(1)
	is(t, p.May(), false, "Probe, Sent")
	p.Beat()
	isState(t, p, 8, 3, progress.Probe, true, "Probe, under way")

	p = streaming(3, 8)
	p.Beat()
	isState(t, p, 8, 3, progress.Stream, true, "Stream")

	p = waiting(3, 8, 6)
	p.Beat()
	isState(t, p, 4, 3, progress.Probe, true, "Wait")
	p.Sent(1)
	isState(t, p, 4, 3, progress.Probe, false, "Wait, Sent")
	p.Snap(2) // the one that was waited for is not, any more
	is(t, p.Said(4), true, "Wait, another snapshot")
	isState(t, p, 5, 4, progress.Stream, true, "Wait, another snapshot")
}

// TestAllSmall: the states that small numbers lead to first, and every call in each of them.
func TestAllSmall(t *testing.T) {
	small := []int{-1, 0, 1, 2, 3, 4}
	if n := hold(t, small, small, 1500); n < 1500 { // Sent alone leads on without end
		t.Errorf("only %d states", n)
	}
}

// TestAllEnds: the same with numbers at their ends.
func TestAllEnds(t *testing.T) {
	if n := hold(t, ends, ends, 150); n < 150 {
		t.Errorf("only %d states", n)
	}
}

func TestDrawn(t *testing.T) {
	r := rand.New(rand.NewSource(16))
	for range 2000 {
		begin := r.Intn(40)
		p, q := progress.New(begin), plainNew(begin)
		w := way{next: begin}
		for range 60 {
			was := p.Match()
			c := drawn(r, p)
			got, want := c.do(p, q)
			w.calls = append(w.calls, c)
			if got != want || state(p) != q.state() {
				t.Fatalf("New %d, %v: %v %s, want %v %s", begin, w.calls, got, state(p), want, q.state())
			}
			if p.Match() < was || p.Next() <= p.Match() {
				t.Fatalf("New %d, %v: Match from %d to %d, Next %d", begin, w.calls, was, p.Match(), p.Next())
			}
		}
	}
}

// drawn: a call whose numbers lie beside what is known.
func drawn(r *rand.Rand, p *progress.Progress) call {
	beside := func() int {
		switch r.Intn(8) {
		case 0:
			return ends[r.Intn(len(ends))]
		case 1, 2, 3:
			return p.Match() + r.Intn(7) - 3
		}
		return p.Next() + r.Intn(5) - 2
	}
	name := []string{"Sent", "Said", "Refused", "Snap", "Beat"}[r.Intn(5)]
	if name == "Sent" {
		return call{name, r.Intn(17), 0}
	}
	if name == "Said" && r.Intn(4) > 0 {
		return call{name, p.Match() + r.Intn(3), 0}
	}
	return call{name, beside(), beside()}
}

// TestApart: two have nothing in common.
func TestApart(t *testing.T) {
	p, q := progress.New(5), progress.New(5)
	p.Sent(1)
	p.Said(9)
	p.Snap(12)
	isState(t, q, 5, 0, progress.Probe, true, "the other one")
}

func TestNoneMade(t *testing.T) {
	for what, p := range map[string]*progress.Progress{"nil": nil, "zero": {}, "new": new(progress.Progress)} {
		isState(t, p, 0, 0, 0, false, what)
		for _, c := range calls(ends) {
			got, _ := c.do(p, plainNew(1))
			is(t, got, false, what, c)
			isState(t, p, 0, 0, 0, false, what, c)
		}
	}
}
