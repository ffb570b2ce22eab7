package disk_test

import (
	"math"
	"math/rand"
	"slices"
	"strconv"
	"testing"

	"corbel/api"
	"corbel/disk"
)

// plainFile is a file of the chapter's disk, told plainly: its number stays, whatever its name.
type plainFile struct {
	number int
	name   string
	sure   []byte
}

// plainByte is one of the buffer: which file it is of.
type plainByte struct {
	number int
	value  byte
}

// plain is the chapter's disk, told plainly: a list of files, and a buffer of single bytes; what is counted is counted anew.
type plain struct {
	blocks  int
	files   []plainFile
	buffer  []plainByte
	numbers int
	off     bool
	ops     int
	armed   int
	keep    int
}

// at: where a file stands; -1, if there is none.
func (p *plain) at(name string) int {
	return slices.IndexFunc(p.files, func(f plainFile) bool { return f.name == name })
}

// whole: a file's bytes, in the buffer or not.
func (p *plain) whole(f plainFile) []byte {
	all := slices.Clone(f.sure)
	for _, b := range p.buffer {
		if b.number == f.number {
			all = append(all, b.value)
		}
	}
	return all
}

func (p *plain) used() int {
	n := 0
	for _, f := range p.files {
		n += len(p.whole(f))/64 + 1
	}
	return n
}

// gone: the file at a place, and what the buffer has of it.
func (p *plain) gone(at int) {
	number := p.files[at].number
	p.files = slices.Delete(p.files, at, at+1)
	p.buffer = slices.DeleteFunc(p.buffer, func(b plainByte) bool { return b.number == number })
}

// sure: the buffer's first bytes are, one by one; the others are lost.
func (p *plain) sure(keep int) {
	for i, b := range p.buffer {
		if i >= keep {
			break
		}
		for j := range p.files {
			if p.files[j].number == b.number {
				p.files[j].sure = append(p.files[j].sure, b.value)
			}
		}
	}
	p.buffer = nil
}

// fails: is the operation that begins the one that is armed?
func (p *plain) fails() bool {
	p.ops++
	p.armed--
	if p.armed != 0 {
		return false
	}
	p.crash(p.keep)
	return true
}

func (p *plain) crash(keep int) {
	p.sure(keep)
	p.off = true
}

func (p *plain) create(name string) api.Errno {
	at := p.at(name)
	switch {
	case p.off:
		return api.ErrPower
	case !disk.Good(name):
		return api.ErrName
	case p.fails():
		return api.ErrPower
	case at < 0 && p.used() >= p.blocks:
		return api.ErrFull
	case at >= 0:
		p.gone(at)
	}
	p.numbers++
	p.files = append(p.files, plainFile{number: p.numbers, name: name})
	return api.OK
}

func (p *plain) append(name string, b []byte) api.Errno {
	at := p.at(name)
	switch {
	case p.off:
		return api.ErrPower
	case at < 0:
		return api.ErrNone
	case p.fails():
		return api.ErrPower
	}
	size := len(p.whole(p.files[at]))
	if p.used()-(size/64+1)+(size+len(b))/64+1 > p.blocks {
		return api.ErrFull
	}
	for _, value := range b {
		p.buffer = append(p.buffer, plainByte{p.files[at].number, value})
	}
	return api.OK
}

func (p *plain) sync() api.Errno {
	if p.off || p.fails() {
		return api.ErrPower
	}
	p.sure(len(p.buffer))
	return api.OK
}

func (p *plain) rename(from, to string) api.Errno {
	switch {
	case p.off:
		return api.ErrPower
	case !disk.Good(to):
		return api.ErrName
	case p.at(from) < 0:
		return api.ErrNone
	case p.fails():
		return api.ErrPower
	case from == to:
		return api.OK
	}
	if at := p.at(to); at >= 0 {
		p.gone(at)
	}
	p.files[p.at(from)].name = to
	return api.OK
}

func (p *plain) remove(name string) api.Errno {
	at := p.at(name)
	switch {
	case p.off:
		return api.ErrPower
	case at < 0:
		return api.ErrNone
	case p.fails():
		return api.ErrPower
	}
	p.gone(at)
	return api.OK
}

func (p *plain) spoil(name string, at, bit int) api.Errno {
	i := p.at(name)
	switch {
	case p.off:
		return api.ErrPower
	case i < 0:
		return api.ErrNone
	case at < 0 || at >= len(p.whole(p.files[i])) || bit < 0 || bit > 7:
		return api.ErrRange
	}
	f := &p.files[i]
	if at < len(f.sure) {
		f.sure[at] ^= []byte{1, 2, 4, 8, 16, 32, 64, 128}[bit]
		return api.OK
	}
	at -= len(f.sure)
	for j := range p.buffer {
		if p.buffer[j].number != f.number {
			continue
		}
		if at == 0 {
			p.buffer[j].value ^= []byte{1, 2, 4, 8, 16, 32, 64, 128}[bit]
		}
		at--
	}
	return api.OK
}

// two is a disk of the program's and the chapter's: whatever is done is done to both, and held against each other.
type two struct {
	t *testing.T
	d *disk.Disk
	p *plain
}

func (a *two) same(what string) {
	a.t.Helper()
	d, p := a.d, a.p
	is(a.t, what+": On", d.On(), !p.off)
	is(a.t, what+": Ops", d.Ops(), p.ops)
	if p.off {
		is(a.t, what+": List, Used, Pending", len(d.List())+d.Used()+d.Pending(), 0)
		return
	}
	names := []string{}
	for _, f := range p.files {
		names = append(names, f.name)
		if got, err := d.Read(f.name); err != api.OK || !slices.Equal(got, p.whole(f)) {
			a.t.Fatalf("%s: Read(%s) %q, %v, want %q", what, f.name, got, err, p.whole(f))
		}
	}
	slices.Sort(names)
	if got := d.List(); !slices.Equal(got, names) {
		a.t.Fatalf("%s: List %q, want %q", what, got, names)
	}
	is(a.t, what+": Used", d.Used(), p.used())
	is(a.t, what+": Pending", d.Pending(), len(p.buffer))
}

// drawnName: of few, so that they meet; now and then one that may not be.
func drawnName(r *rand.Rand) string {
	if r.Intn(20) == 0 {
		return []string{"", "A", "1", "a\x80", "abcdefghijklmnopqrstuvwxy"}[r.Intn(5)]
	}
	return []string{"a", "b", "c", "d.1", "e-2", "abcdefghijklmnopqrstuvwx"}[r.Intn(6)]
}

// step: one drawn call.
func (a *two) step(r *rand.Rand) {
	a.t.Helper()
	d, p := a.d, a.p
	name, other := drawnName(r), drawnName(r)
	var what string
	var got, want api.Errno
	switch n := r.Intn(100); {
	case n < 15:
		what, got, want = "Create "+name, d.Create(name), p.create(name)
	case n < 55:
		b := make([]byte, []int{0, 1, 2, 5, 20, 63, 64, 65, 130}[r.Intn(9)])
		r.Read(b)
		what, got, want = "Append "+name+" "+strconv.Itoa(len(b)), d.Append(name, b), p.append(name, b)
	case n < 65:
		what, got, want = "Sync", d.Sync(), p.sync()
	case n < 75:
		what, got, want = "Rename "+name+" "+other, d.Rename(name, other), p.rename(name, other)
	case n < 80:
		what, got, want = "Remove "+name, d.Remove(name), p.remove(name)
	case n < 86:
		at, bit := r.Intn(150)-3, r.Intn(12)-2
		what, got, want = "Spoil "+name, d.Spoil(name, at, bit), p.spoil(name, at, bit)
	case n < 90:
		n, keep := r.Intn(12)-2, a.drawnKeep(r)
		what, got = "Arm", d.Arm(n, keep)
		if p.off {
			want = api.ErrPower
		} else {
			p.armed, p.keep = max(n, 0), keep
		}
	case n < 93:
		keep := a.drawnKeep(r)
		what = "Crash " + strconv.Itoa(keep)
		d.Crash(keep)
		p.crash(keep)
	default:
		what = "Start"
		d.Start()
		p.off, p.armed = false, 0
	}
	is(a.t, what, got, want)
	a.same(what)
}

func (a *two) drawnKeep(r *rand.Rand) int {
	if r.Intn(8) == 0 {
		return []int{math.MinInt, -1, math.MaxInt}[r.Intn(3)]
	}
	return r.Intn(len(a.p.buffer) + 3)
}

// TestDrawn: drawn calls, on disks that are soon full and on some that are not.
func TestDrawn(t *testing.T) {
	for seed := range 60 {
		r := rand.New(rand.NewSource(int64(seed)))
		blocks := []int{0, 1, 2, 3, 5, 8, 20, 100}[seed%8]
		a := &two{t, made(t, blocks), &plain{blocks: blocks}}
		a.same("New")
		for range 1500 {
			a.step(r)
		}
	}
}

// files: what a disk tells of all of its files.
func files(t *testing.T, d *disk.Disk) map[string]string {
	t.Helper()
	all := map[string]string{}
	for _, name := range d.List() {
		all[name] = read(t, d, name)
	}
	return all
}

// TestBehindACrash: each file begins as it was at the last Sync, and what is left of the buffer is a beginning of it: of all its bytes, in their order, none is there without those ahead of it.
func TestBehindACrash(t *testing.T) {
	for seed := range 200 {
		r := rand.New(rand.NewSource(int64(seed)))
		names := []string{"a", "b", "c"}
		d := with(t, 1000, "a", long(r.Intn(100)), "b", long(r.Intn(100)), "c", "")
		sure := files(t, d)
		type one struct {
			name string
			c    byte
		}
		var buffer []one
		for range r.Intn(12) {
			name, b := names[r.Intn(3)], make([]byte, r.Intn(9))
			r.Read(b)
			ok(t, d.Append(name, b))
			for _, c := range b {
				buffer = append(buffer, one{name, c})
			}
		}
		is(t, "Pending", d.Pending(), len(buffer))
		keep := r.Intn(len(buffer)+4) - 2
		if r.Intn(2) == 0 {
			ok(t, d.Arm(1, keep))
			is(t, "armed", d.Append("a", []byte("not done")), api.ErrPower)
		} else {
			d.Crash(keep)
		}
		d.Start()
		want := map[string]string{"a": sure["a"], "b": sure["b"], "c": sure["c"]}
		for _, x := range buffer[:max(0, min(keep, len(buffer)))] {
			want[x.name] += string([]byte{x.c})
		}
		holds(t, d, 0, "a", want["a"], "b", want["b"], "c", want["c"])
	}
}

// TestSameAgain: what is answered hangs on what was done alone: the same calls on another disk lead to the same.
func TestSameAgain(t *testing.T) {
	play := func() string {
		d := made(t, 500)
		all := ""
		r := rand.New(rand.NewSource(5))
		for i := range 300 {
			name := "f" + strconv.Itoa(r.Intn(80))
			all += d.Create(name).Error() + d.Append(name, []byte(strconv.Itoa(i))).Error()
			all += d.Rename("f"+strconv.Itoa(r.Intn(80)), "g"+strconv.Itoa(r.Intn(80))).Error()
			if i%40 == 39 {
				d.Crash(30)
				d.Start()
			}
		}
		for _, name := range d.List() {
			all += name + " " + read(t, d, name) + ", "
		}
		return all + strconv.Itoa(d.Used()) + " " + strconv.Itoa(d.Ops())
	}
	first := play()
	for range 5 {
		if play() != first {
			t.Fatal("another answer")
		}
	}
}
