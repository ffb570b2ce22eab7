package queue_test

import (
	"fmt"
	"math"
	"math/rand"
	"slices"
	"testing"
	"time"

	"corbel/api"
	"corbel/queue"
)

var ends = []int{math.MinInt, math.MinInt + 1, -2, -1, 0, 1, 2, 3, math.MaxInt - 1, math.MaxInt}

func is[T comparable](t *testing.T, got, want T, what ...any) {
	t.Helper()
	if got != want {
		t.Errorf("%v: %v, want %v", what, got, want)
	}
}

func isReads(t *testing.T, got, want []queue.Read, what ...any) {
	t.Helper()
	if !slices.Equal(got, want) {
		t.Errorf("%v: %v, want %v", what, got, want)
	}
}

// pops: the next ones are these.
func pops[T comparable](t *testing.T, q *queue.Queue[T], want ...T) {
	t.Helper()
	for _, w := range want {
		n := q.Len()
		got, ok := q.Pop()
		is(t, got, w, "Pop")
		is(t, ok, true, "Pop")
		is(t, q.Len(), n-1, "Len behind Pop")
	}
}

// isEmpty: there is none.
func isEmpty[T comparable](t *testing.T, q *queue.Queue[T], what ...any) {
	t.Helper()
	var zero T
	got, ok := q.Pop()
	is(t, got, zero, what...)
	is(t, ok, false, what...)
	is(t, q.Len(), 0, what...)
}

func TestExampleQueue(t *testing.T) {
	q := queue.New[int](1)
	is(t, q.Push(1), true, "Push 1")
	is(t, q.Push(2), false, "Push 2")
	pops(t, q, 1)
	isEmpty(t, q, "behind it")
}

func TestNew(t *testing.T) {
	for _, most := range []int{math.MinInt, -10000, -1, 0, 10001, 10002, 1 << 32, 1<<32 + 1, 1 << 50, math.MaxInt} {
		is(t, queue.New[int](most), nil, "New", most)
	}
	for _, most := range []int{1, 2, 3, 7, 64, 999, 1000, 1001, 9999, 10000} {
		q := queue.New[int](most)
		if q == nil {
			t.Fatalf("New %d: nil", most)
		}
		isEmpty(t, q, "New", most)
		for i := range most {
			is(t, q.Push(i), true, "New", most, "Push", i)
			is(t, q.Len(), i+1, "New", most, "Len")
		}
		is(t, q.Push(-1), false, "New", most, "no room")
		is(t, q.Len(), most, "New", most, "no room")
		pops(t, q, 0)
		is(t, q.Push(most), true, "New", most, "room for one")
		is(t, q.Push(-1), false, "New", most, "no room again")
		for i := range most {
			pops(t, q, i+1)
		}
		isEmpty(t, q, "New", most, "behind all")
	}
}

// TestOrder: P17.3, of queues of few and of many.
func TestOrder(t *testing.T) {
	r := rand.New(rand.NewSource(17))
	for range 300 {
		most := 1 + r.Intn(12)
		if r.Intn(20) == 0 {
			most = 10000
		}
		q := queue.New[string](most)
		var in []string
		toPush := 1 + r.Intn(3)
		for i := range 400 {
			if r.Intn(4) < toPush {
				x := fmt.Sprint("item", i)
				is(t, q.Push(x), len(in) < most, "Push")
				if len(in) < most {
					in = append(in, x)
				}
			} else if len(in) == 0 {
				isEmpty(t, q, "Pop of none")
			} else {
				pops(t, q, in[0])
				in = in[1:]
			}
			is(t, q.Len(), len(in), "Len")
		}
		pops(t, q, in...)
		isEmpty(t, q, "at the end")
	}
}

// TestZeroItems: an item that is zero is one all the same.
func TestZeroItems(t *testing.T) {
	q := queue.New[int](2)
	q.Push(0)
	q.Push(0)
	pops(t, q, 0, 0)
	isEmpty(t, q, "numbers")
	p := queue.New[*int](1)
	is(t, p.Push(nil), true, "Push nil")
	pops(t, p, nil)
	isEmpty(t, p, "pointers")
	e := queue.New[struct{}](2)
	is(t, e.Push(struct{}{}), true, "Push nothing")
	is(t, e.Len(), 1, "nothing")
	pops(t, e, struct{}{})
	isEmpty(t, e, "nothings")
}

type long struct{ b [1 << 17]byte }

// TestKinds: items of any kind, and of any size.
func TestKinds(t *testing.T) {
	l := queue.New[long](10000)
	var x long
	x.b[1<<17-1] = 5
	is(t, l.Push(x), true, "Push of a long one")
	x.b[1<<17-1] = 6
	got, ok := l.Pop()
	is(t, got.b[1<<17-1], 5, "Pop of a long one")
	is(t, ok, true, "Pop of a long one")
	f := queue.New[func() int](1)
	f.Push(func() int { return 7 })
	seven, _ := f.Pop()
	is(t, seven(), 7, "a function")
	a := queue.New[any](2)
	a.Push(nil)
	a.Push("x")
	pops(t, a, nil, any("x"))
	r := queue.New[queue.Read](1)
	r.Push(queue.Read{Id: 1, Index: 2})
	pops(t, r, queue.Read{Id: 1, Index: 2})
}

// TestQueuesApart: two have nothing in common.
func TestQueuesApart(t *testing.T) {
	p, q := queue.New[int](1), queue.New[int](1)
	is(t, p.Push(1), true, "one")
	isEmpty(t, q, "the other one")
	is(t, q.Push(2), true, "the other one")
	pops(t, p, 1)
	pops(t, q, 2)
}

func TestNoQueueMade(t *testing.T) {
	for what, q := range map[string]*queue.Queue[string]{"nil": nil, "zero": {}, "new": new(queue.Queue[string])} {
		isEmpty(t, q, what)
		is(t, q.Push("x"), false, what)
		isEmpty(t, q, what, "behind Push")
	}
	is(t, (*queue.Queue[long])(nil).Push(long{}), false, "nil, long")
}

var three = api.Conf{Voters: []int{1, 2, 3}}

func TestExampleReads(t *testing.T) {
	r := queue.NewReads()
	is(t, r.Add(7, 5, 3), true, "Add")
	isReads(t, r.Ready(three, 1), nil, "nobody has said it")
	r.Said(2, 3)
	isReads(t, r.Ready(three, 1), []queue.Read{{Id: 7, Index: 5}}, "Ready")
	isReads(t, r.Ready(three, 1), nil, "they are gone")
	is(t, r.Len(), 0, "Len")
}

func TestAddMost(t *testing.T) {
	r := queue.NewReads()
	for i := range 1000 {
		is(t, r.Add(i, 2*i, 5), true, "Add", i)
		is(t, r.Len(), i+1, "Len")
	}
	is(t, r.Add(1000, 1, 5), false, "one too many")
	is(t, r.Add(1000, 1, 9), false, "one too many, of a later round")
	is(t, r.Len(), 1000, "Len")
	r.Said(2, 5)
	l := r.Ready(three, 1)
	is(t, len(l), 1000, "Ready")
	for i, x := range l {
		is(t, x, queue.Read{Id: i, Index: 2 * i}, "Ready", i)
	}
	is(t, r.Add(1000, 1, 5), true, "room again")
	isReads(t, r.Ready(three, 1), []queue.Read{{Id: 1000, Index: 1}}, "Ready again")
}

// TestAddMostBehindSome: those that went leave room, no more.
func TestAddMostBehindSome(t *testing.T) {
	r := queue.NewReads()
	for i := range 1000 {
		r.Add(i, 0, i/400)
	}
	r.Said(2, 0)
	is(t, len(r.Ready(three, 1)), 400, "round 0")
	for i := range 400 {
		is(t, r.Add(1000+i, 0, 2), true, "room", i)
	}
	is(t, r.Add(0, 0, 2), false, "no room")
	for i, x := range r.Drop() {
		is(t, x.Id, 400+i, "Drop")
	}
}

func TestAddRounds(t *testing.T) {
	for _, last := range ends {
		for _, round := range ends {
			r := queue.NewReads()
			is(t, r.Add(1, 1, last), true, "the first one", last)
			want := []queue.Read{{Id: 1, Index: 1}}
			is(t, r.Add(2, 2, round), round >= last, "round", round, "behind", last)
			if round >= last {
				want = append(want, queue.Read{Id: 2, Index: 2})
			}
			is(t, r.Len(), len(want), "round", round, "behind", last)
			isReads(t, r.Drop(), want, "round", round, "behind", last)
		}
	}
}

// TestAddAnyNumbers: id and index may be any, and the same twice.
func TestAddAnyNumbers(t *testing.T) {
	r := queue.NewReads()
	var want []queue.Read
	for _, id := range ends {
		for _, index := range ends {
			for range 2 {
				is(t, r.Add(id, index, 1), true, "Add", id, index)
				want = append(want, queue.Read{Id: id, Index: index})
			}
		}
	}
	r.Said(3, 1)
	isReads(t, r.Ready(three, 1), want, "Ready")
}

// TestAddBehindReady: those that went do not count as the last one.
func TestAddBehindReady(t *testing.T) {
	r := queue.NewReads()
	r.Add(1, 1, 9)
	r.Said(2, 9)
	r.Ready(three, 1)
	is(t, r.Add(2, 2, 4), true, "Add of an earlier round")
	isReads(t, r.Ready(three, 1), []queue.Read{{Id: 2, Index: 2}}, "which was said")
}

func TestReady(t *testing.T) {
	waits := [][3]int{{1, 10, 1}, {2, 20, 2}, {3, 30, 2}, {4, 40, 4}}
	five := []int{1, 2, 3, 4, 5}
	for _, x := range []struct {
		what     string
		said     []said
		voters   []int
		learners []int
		self     int
		want     int // the first so many
	}{
		{"nobody", nil, []int{1, 2, 3}, nil, 1, 0},
		{"self alone", nil, []int{1}, nil, 1, 4},
		{"self of two", nil, []int{1, 2}, nil, 1, 0},
		{"both of two", []said{{2, 2}}, []int{1, 2}, nil, 1, 3},
		{"none votes", []said{{1, 9}, {2, 9}}, nil, nil, 1, 0},
		{"learners alone", []said{{1, 9}, {2, 9}}, nil, []int{1, 2}, 1, 0},
		{"learners do not count", []said{{4, 9}}, []int{1, 2, 3}, []int{4}, 1, 0},
		{"others do not count", []said{{4, 9}, {5, 9}, {-1, 9}, {0, 9}}, []int{1, 2, 3}, nil, 1, 0},
		{"that round", []said{{2, 1}}, []int{1, 2, 3}, nil, 1, 1},
		{"the next round", []said{{2, 2}}, []int{1, 2, 3}, nil, 1, 3},
		{"one in between", []said{{2, 3}}, []int{1, 2, 3}, nil, 1, 3},
		{"the last round", []said{{2, 4}}, []int{1, 2, 3}, nil, 1, 4},
		{"a later round", []said{{3, math.MaxInt}}, []int{1, 2, 3}, nil, 1, 4},
		{"an elder round", []said{{2, 0}, {3, -5}}, []int{1, 2, 3}, nil, 1, 0},
		{"an elder one behind it", []said{{2, 2}, {2, 1}}, []int{1, 2, 3}, nil, 1, 3},
		{"a later one behind it", []said{{2, 1}, {2, 2}}, []int{1, 2, 3}, nil, 1, 3},
		{"self has said it too", []said{{1, 9}}, []int{1, 2, 3}, nil, 1, 0},
		{"self is no voter", []said{{2, 9}}, []int{1, 2, 3}, nil, 4, 0},
		{"self is no voter, two are", []said{{2, 4}, {3, 2}}, []int{1, 2, 3}, nil, 4, 3},
		{"self is a learner", []said{{2, 9}}, []int{1, 2, 3}, []int{4}, 4, 0},
		{"self is 0", []said{{2, 9}}, []int{1, 2, 3}, nil, 0, 0},
		{"three of five", []said{{2, 4}, {3, 2}, {4, 1}}, five, nil, 1, 3},
		{"three of five, unlike", []said{{5, 4}, {3, 1}}, five, nil, 1, 1},
		{"two of five", []said{{2, 4}}, five, nil, 1, 0},
		{"two of four", []said{{2, 4}}, []int{1, 2, 3, 4}, nil, 1, 0},
		{"three of four", []said{{2, 4}, {4, 4}}, []int{1, 2, 3, 4}, nil, 1, 4},
		{"one voter twice", []said{{2, 4}}, []int{1, 2, 2}, nil, 1, 4},
		{"voters who fall", []said{{2, 4}}, []int{3, 2, 1}, nil, 1, 4},
		{"self at an end", []said{{math.MinInt, 4}}, []int{math.MaxInt, math.MinInt, 0}, nil, math.MaxInt, 4},
	} {
		r := queue.NewReads()
		var all []queue.Read
		for _, w := range waits {
			r.Add(w[0], w[1], w[2])
			all = append(all, queue.Read{Id: w[0], Index: w[1]})
		}
		for _, s := range x.said {
			r.Said(s.from, s.round)
		}
		isReads(t, r.Ready(api.Conf{Voters: x.voters, Learners: x.learners}, x.self), all[:x.want], x.what)
		is(t, r.Len(), 4-x.want, x.what)
		isReads(t, r.Drop(), all[x.want:], x.what)
	}
}

// TestReadyRounds: who has said nothing has said no round, be it ever so small.
func TestReadyRounds(t *testing.T) {
	for _, round := range ends {
		for _, said := range ends {
			r := queue.NewReads()
			r.Add(1, 1, round)
			isReads(t, r.Ready(three, 1), nil, "round", round, "unsaid")
			r.Said(2, said)
			n := len(r.Ready(three, 1))
			is(t, n == 1, said >= round, "round", round, "said", said)
		}
	}
}

// TestReadyOtherConf: what was said counts under members that come later, too.
func TestReadyOtherConf(t *testing.T) {
	r := queue.NewReads()
	r.Said(4, 3)
	r.Add(1, 1, 3)
	isReads(t, r.Ready(three, 1), nil, "4 is none")
	isReads(t, r.Ready(api.Conf{Voters: []int{1, 2, 4}}, 1), []queue.Read{{Id: 1, Index: 1}}, "4 is one")
}

func TestDrop(t *testing.T) {
	r := queue.NewReads()
	isReads(t, r.Drop(), nil, "none")
	r.Add(1, 10, 5)
	r.Add(2, 20, 5)
	r.Said(2, 9)
	isReads(t, r.Drop(), []queue.Read{{Id: 1, Index: 10}, {Id: 2, Index: 20}}, "Drop")
	is(t, r.Len(), 0, "Len")
	isReads(t, r.Drop(), nil, "they are gone")
	is(t, r.Add(3, 30, 1), true, "an earlier round")
	isReads(t, r.Ready(three, 1), nil, "what was said is forgotten")
	r.Said(2, 0)
	isReads(t, r.Ready(three, 1), nil, "and an earlier round counts anew")
	r.Said(2, 1)
	isReads(t, r.Ready(three, 1), []queue.Read{{Id: 3, Index: 30}}, "Ready")
}

// TestDropOfNone: what was said is forgotten, though none waits.
func TestDropOfNone(t *testing.T) {
	r := queue.NewReads()
	r.Said(2, 9)
	r.Drop()
	r.Add(1, 1, 1)
	isReads(t, r.Ready(three, 1), nil, "Ready")
}

// roomy: the list with spare room, which is filled.
func roomy(l []int) []int {
	long := append(slices.Clone(l), 77, 78, 79)
	return long[:len(l)]
}

// TestMemory: arguments stay as they are, and answers are the caller's.
func TestMemory(t *testing.T) {
	r := queue.NewReads()
	for i := range 8 {
		r.Add(i, i, i/4)
	}
	r.Said(2, 0)
	c := api.Conf{Voters: roomy([]int{3, 1, 2, 3}), Learners: roomy([]int{5, 4})}
	first := r.Ready(c, 1)
	is(t, fmt.Sprint(c.Voters[:7], c.Learners[:5]), "[3 1 2 3 77 78 79] [5 4 77 78 79]", "arguments")
	is(t, len(first), 4, "Ready")
	spoil(first)
	r.Add(8, 8, 1)
	r.Said(2, 1)
	c.Voters[0] = 9
	second := r.Ready(three, 1)
	want := []queue.Read{{Id: 4, Index: 4}, {Id: 5, Index: 5}, {Id: 6, Index: 6}, {Id: 7, Index: 7}, {Id: 8, Index: 8}}
	isReads(t, second, want, "Ready again")
	r.Add(9, 9, 1)
	third := r.Drop()
	spoil(third)
	r.Add(10, 10, 1)
	isReads(t, second, want, "an answer stays")
	isReads(t, r.Drop(), []queue.Read{{Id: 10, Index: 10}}, "Drop again")
}

// spoil: a list and its spare room.
func spoil(l []queue.Read) {
	l = l[:cap(l)]
	for i := range l {
		l[i] = queue.Read{Id: -7, Index: -7}
	}
}

// TestReadsApart: two have nothing in common.
func TestReadsApart(t *testing.T) {
	r, s := queue.NewReads(), queue.NewReads()
	r.Add(1, 1, 1)
	r.Said(2, 1)
	is(t, s.Len(), 0, "the other one")
	s.Add(2, 2, 1)
	isReads(t, s.Ready(three, 1), nil, "the other one")
	isReads(t, r.Ready(three, 1), []queue.Read{{Id: 1, Index: 1}}, "the one")
}

func TestNoReadsMade(t *testing.T) {
	for what, r := range map[string]*queue.Reads{"nil": nil, "zero": {}, "new": new(queue.Reads)} {
		for range 2 {
			is(t, r.Add(1, 1, 1), false, what)
			r.Said(1, 1)
			isReads(t, r.Ready(api.Conf{Voters: []int{1}}, 1), nil, what)
			isReads(t, r.Drop(), nil, what)
			is(t, r.Len(), 0, what)
		}
	}
}

// confs: which members there may be.
func confs() []api.Conf {
	return []api.Conf{
		three,
		{},
		{Voters: []int{2}},
		{Voters: []int{1, 4}, Learners: []int{2}},
		{Voters: []int{1, 2, 3, 4}},
		{Voters: []int{5, 5, 1}},
		{Learners: []int{1, 2, 3}},
	}
}

// TestAllSmall: all that a few calls with small numbers come to.
func TestAllSmall(t *testing.T) {
	var all []call
	for _, round := range []int{-1, 0, 1} {
		all = append(all, call{name: "Add", a: round + 5, b: round, c: round})
		for _, from := range []int{1, 2, 3} {
			all = append(all, call{name: "Said", a: from, b: round})
		}
	}
	for _, c := range []api.Conf{three, {Voters: []int{2}}, {Voters: []int{1, 2}}} {
		all = append(all, call{name: "Ready", a: 1, conf: c})
	}
	all = append(all, call{name: "Drop"})
	var way []call
	var tryAll func(left int)
	tryAll = func(left int) {
		if left == 0 {
			hold(t, way)
			return
		}
		for _, c := range all {
			way = append(way, c)
			tryAll(left - 1)
			way = way[:len(way)-1]
		}
	}
	tryAll(4)
}

// hold: the package against the plain telling.
func hold(t *testing.T, way []call) {
	t.Helper()
	r, p := queue.NewReads(), new(plain)
	for _, c := range way {
		if got, want := c.do(r, p); got != want {
			t.Fatalf("%v: %s, want %s", way, got, want)
		}
	}
	got, want := r.Drop(), p.drop()
	isReads(t, got, want, way)
}

func TestDrawn(t *testing.T) {
	r := rand.New(rand.NewSource(1717))
	for range 1500 {
		var way []call
		round := r.Intn(5) - 2
		for range 80 {
			if r.Intn(3) == 0 {
				round++
			}
			way = append(way, drawn(r, round))
		}
		hold(t, way)
	}
}

// drawn: a call whose rounds lie beside that one.
func drawn(r *rand.Rand, round int) call {
	switch n := r.Intn(20); {
	case n < 8:
		return call{name: "Add", a: r.Intn(100), b: r.Intn(100), c: round - r.Intn(2)*r.Intn(3)}
	case n < 14:
		return call{name: "Said", a: r.Intn(6), b: round - r.Intn(4)}
	case n < 19:
		l := confs()
		return call{name: "Ready", a: r.Intn(6), conf: l[r.Intn(len(l))]}
	}
	return call{name: "Drop"}
}

// TestLong: many reads, many members, many who have said something.
func TestLong(t *testing.T) {
	begin := time.Now()
	const many = 200000
	r := queue.NewReads()
	var c api.Conf
	for i := range many {
		c.Voters = append(c.Voters, i)
		r.Said(i, i*1000/many) // of the rounds 0 to 999 each is the last of 200
	}
	for i := range 1000 {
		r.Add(i, 0, i)
	}
	is(t, len(r.Ready(c, 0)), 501, "Ready") // of round 500 one half and self have said it
	q := queue.New[int](10000)
	for i := range 1000000 {
		q.Push(i)
		if i >= 5000 {
			q.Pop()
		}
	}
	is(t, q.Len(), 5000, "Len")
	if d := time.Since(begin); d > 10*time.Second {
		t.Errorf("too slow: %v", d)
	}
}
