package wal_test

import (
	"fmt"
	"math/rand"
	"slices"
	"strconv"
	"testing"

	"corbel/api"
	"corbel/disk"
	"corbel/wal"
)

// plainWal is the chapter's log, told plainly: it remembers the state, which segment is the last one, and that the power failed. All else is asked of the disk, to which others may write.
type plainWal struct {
	d       *disk.Disk
	segment int
	state   wal.State
	last    int
	dead    bool
}

func segmentName(n int) string { return "wal-" + strconv.Itoa(n) }

// steps: one behind the other, up to the first error.
func steps(l ...func() api.Errno) api.Errno {
	for _, step := range l {
		if err := step(); err != api.OK {
			return err
		}
	}
	return api.OK
}

// written: wal.new with bytes, sure, under another name.
func written(d *disk.Disk, b []byte, n int) api.Errno {
	return steps(
		func() api.Errno { return d.Create("wal.new") },
		func() api.Errno {
			if len(b) == 0 {
				return api.OK
			}
			return d.Append("wal.new", b)
		},
		d.Sync,
		func() api.Errno { return d.Rename("wal.new", segmentName(n)) })
}

func plainOpen(d *disk.Disk, segment int) (*plainWal, api.Errno) {
	switch {
	case !d.On():
		return nil, api.ErrPower
	case segment < 1 || segment > 1048576:
		return nil, api.ErrArg
	}
	s, last, told, rest, right := plainLoad(d)
	err := api.OK
	switch {
	case !right:
		err = api.ErrCorrupt
	case last == 0:
		err = steps(func() api.Errno { return d.Create("wal-1") }, d.Sync)
	case len(rest) > 0:
		err = written(d, told, last)
	}
	if err != api.OK {
		return nil, err
	}
	return &plainWal{d: d, segment: segment, state: s, last: max(last, 1)}, api.OK
}

// may: a call that writes may go on; it remembers ErrPower.
func (p *plainWal) may(call func(s wal.State, last int) api.Errno) api.Errno {
	if p.dead || !p.d.On() {
		p.dead = true
		return api.ErrPower
	}
	err := call(p.state, p.last)
	p.dead = err == api.ErrPower
	return err
}

func (p *plainWal) save(h api.Hard, l []api.Entry) api.Errno {
	return p.may(func(s wal.State, last int) api.Errno {
		var b []byte
		var records []wal.Record
		for _, e := range l {
			records = append(records, ofEntry(e))
		}
		if h != s.Hard {
			records = append(records, wal.Record{Kind: wal.KindHard, Hard: h})
		}
		for _, r := range records {
			next, right := plainFold(s, r)
			if !right || !plainlyGood(r) {
				return api.ErrArg
			}
			s, b = next, append(b, plainBytes(r)...)
		}
		if len(records) == 0 {
			return api.OK
		}
		if err := steps(func() api.Errno { return p.d.Append(segmentName(last), b) }, p.d.Sync); err != api.OK {
			return err
		}
		p.state = s
		if all, _ := p.d.Read(segmentName(last)); len(all) <= p.segment || last == 999999999 {
			return api.OK
		}
		err := steps(func() api.Errno { return p.d.Create(segmentName(last + 1)) }, p.d.Sync)
		if err == api.OK {
			p.last++
		}
		return onlyPower(err)
	})
}

func onlyPower(err api.Errno) api.Errno {
	if err == api.ErrPower {
		return err
	}
	return api.OK
}

func (p *plainWal) compact(index, term int) api.Errno {
	return p.may(func(s wal.State, last int) api.Errno {
		s, right := plainFold(s, ofBase(index, term))
		if !right || index < 0 || term < 0 || last == 999999999 {
			return api.ErrArg
		}
		records := []wal.Record{ofBase(index, term), {Kind: wal.KindHard, Hard: s.Hard}}
		for _, e := range s.Entries {
			records = append(records, ofEntry(e))
		}
		if err := written(p.d, allBytes(records...), last+1); err != api.OK {
			return err
		}
		p.state, p.last = s, last+1
		for _, n := range slices.Backward(plainNumbers(p.d.List())) {
			if n != p.last && p.d.Remove(segmentName(n)) == api.ErrPower {
				return api.ErrPower
			}
		}
		return api.OK
	})
}

// two: the program's log and the plain one, each on a disk of its own, to which the same is done.
type two struct {
	t       *testing.T
	w       *wal.Wal
	p       *plainWal
	a, b    *disk.Disk
	segment int
	touched bool // others have written to the segments
}

// same: they tell the same, and their disks have the same in them, by as many operations.
func (x *two) same(what string) {
	x.t.Helper()
	is(x.t, what+": On", x.a.On(), x.b.On())
	is(x.t, what+": Ops", x.a.Ops(), x.b.Ops())
	is(x.t, what+": files", contents(x.a), contents(x.b))
	is(x.t, what+": Pending", x.a.Pending(), x.b.Pending())
	if x.p == nil {
		stateIs(x.t, what, x.w.State(), wal.State{})
		segments(x.t, x.w)
		return
	}
	stateIs(x.t, what, x.w.State(), x.p.state)
	segments(x.t, x.w, plainNumbers(x.b.List())...)
	if !x.touched && !x.p.dead && x.a.On() {
		s, last, _, rest, right := plainLoad(x.a)
		stateIs(x.t, what+": on the disk", s, x.p.state)
		is(x.t, what+": the last one", last, x.p.last)
		is(x.t, what+": whole", right && len(rest) == 0, true)
	}
}

func contents(d *disk.Disk) string {
	all := ""
	for _, name := range d.List() {
		b, _ := d.Read(name)
		all += fmt.Sprintf("%s %q\n", name, b)
	}
	return all
}

// both: an operation on each disk.
func (x *two) both(what string, do func(d *disk.Disk)) {
	x.t.Helper()
	do(x.a)
	do(x.b)
	x.same(what)
}

func (x *two) open() {
	x.t.Helper()
	w, s, err := wal.Open(x.a, x.segment)
	p, want := plainOpen(x.b, x.segment)
	is(x.t, "Open", err, want)
	if !x.touched {
		is(x.t, "corrupt by itself", err == api.ErrCorrupt, false)
	}
	x.w, x.p = w, p
	x.touched = x.touched && (p == nil || x.a.Pending() > 0) // what is in the buffer may still be lost
	if p != nil {
		stateIs(x.t, "Open", s, p.state)
	}
	x.same("Open")
}

// entries: some that mostly go on from the log's, and at times do not, or are not good.
func (x *two) entries(r *rand.Rand) []api.Entry {
	s := x.w.State()
	var l []api.Entry
	at := s.Index + 1 + len(s.Entries) - r.Intn(2)*r.Intn(3)
	for range r.Intn(5) {
		e := noop(at, 1+r.Intn(3))
		switch r.Intn(12) {
		case 0:
			e = members(at, 1+r.Intn(3))
		case 1, 2:
			e = put(at, 1+r.Intn(3), string(make([]byte, r.Intn(100))))
		case 3:
			e.Term = r.Intn(12) - 1
		case 4:
			at += r.Intn(4) - 2
		}
		l = append(l, e)
		at++
	}
	return l
}

func (x *two) save(r *rand.Rand) {
	x.t.Helper()
	h := x.w.State().Hard
	switch r.Intn(6) {
	case 0:
		h = hard(r.Intn(30)-1, r.Intn(9), r.Intn(9))
	case 1:
		h.Commit++
	}
	l := x.entries(r)
	want := api.ErrMade
	if x.p != nil {
		want = x.p.save(h, l)
	}
	is(x.t, "Save", x.w.Save(h, l), want)
	x.same("Save")
}

func (x *two) compact(r *rand.Rand) {
	x.t.Helper()
	s := x.w.State()
	index, term := s.Index-1+r.Intn(len(s.Entries)+4), 1+r.Intn(3)
	for _, e := range s.Entries {
		if e.Index == index && r.Intn(4) > 0 {
			term = e.Term
		}
	}
	want := api.ErrMade
	if x.p != nil {
		want = x.p.compact(index, term)
	}
	is(x.t, "Compact", x.w.Compact(index, term), want)
	x.same("Compact")
}

// spoil: a bit of a file is turned; a log that is open does not see it.
func (x *two) spoil(r *rand.Rand) {
	x.t.Helper()
	names := x.a.List()
	if len(names) == 0 {
		return
	}
	name, at, bit := names[r.Intn(len(names))], r.Intn(100), r.Intn(8)
	x.touched = true
	x.both("Spoil", func(d *disk.Disk) { d.Spoil(name, at, bit) })
	x.open()
}

// others: somebody else writes to a segment that is there, or was, or to a file of his own.
func (x *two) others(r *rand.Rand) {
	x.t.Helper()
	last := 1
	if x.p != nil {
		last = x.p.last
	}
	name := segmentName(last - r.Intn(2)*r.Intn(min(last, 4)))
	b := [][]byte{make([]byte, r.Intn(200)), allBytes(ofEntry(noop(1+r.Intn(9), 1))), allBytes(ofHard(r.Intn(9), 1, 1)), allBytes(ofBase(r.Intn(9), 1))}[r.Intn(4)]
	x.touched = true
	switch r.Intn(6) {
	case 0, 1:
		x.both("Append", func(d *disk.Disk) { d.Append(name, b) })
	case 2:
		x.both("Create", func(d *disk.Disk) { d.Create(name) })
	case 3:
		x.both("Sync", func(d *disk.Disk) { d.Sync() })
	case 4:
		x.both("a file", func(d *disk.Disk) {
			steps(func() api.Errno { return d.Create("a") }, func() api.Errno { return d.Append("a", b) })
		})
	case 5:
		x.both("Remove", func(d *disk.Disk) { d.Remove("a") })
	}
}

// anew: what is corrupt stays so; new disks go on.
func (x *two) anew(blocks int) {
	x.t.Helper()
	x.a, x.b, x.touched = disk.New(blocks), disk.New(blocks), false
	x.open()
}

// step: one call that is drawn.
func (x *two) step(r *rand.Rand) {
	x.t.Helper()
	n, keep := 1+r.Intn(8), r.Intn(60)-1
	switch k := r.Intn(99); {
	case k < 60:
		x.save(r)
	case k < 70:
		x.compact(r)
	case k < 80:
		x.both("Arm", func(d *disk.Disk) { d.Arm(n, keep) })
	case k < 82:
		x.both("Crash", func(d *disk.Disk) { d.Crash(keep) })
	case k < 92:
		x.both("Start", (*disk.Disk).Start)
	default:
		x.both("Start", (*disk.Disk).Start)
		x.open()
	}
}

// TestDrawn: drawn calls, on disks that are soon full and on some that are not, with power that fails; at times with bits that are turned, at times with others who write, too.
func TestDrawn(t *testing.T) {
	for seed := range 200 {
		r := rand.New(rand.NewSource(int64(seed)))
		blocks := []int{0, 1, 2, 3, 5, 8, 12, 20, 50, 5000}[seed%10]
		segment := []int{1, 20, 60, 100, 300, 1 << 20}[r.Intn(6)]
		x := &two{t: t, segment: segment}
		x.anew(blocks)
		for range 300 {
			switch mode := seed / 10 % 3; {
			case mode == 1 && r.Intn(100) == 0:
				x.spoil(r)
			case mode == 2 && r.Intn(6) == 0:
				x.others(r)
			default:
				x.step(r)
			}
			if x.p == nil && x.touched && r.Intn(10) == 0 {
				x.anew(blocks)
			}
		}
	}
}
