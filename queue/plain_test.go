package queue_test

import (
	"fmt"

	"corbel/api"
	"corbel/queue"
)

// What chapter 17 says of reads, told once more, sentence by sentence.

type plainRead struct{ id, index, round int }

type said struct{ from, round int }

type plain struct {
	waits []plainRead
	said  []said
}

func (p *plain) add(id, index, round int) bool {
	if len(p.waits) == 1000 {
		return false
	}
	if len(p.waits) > 0 && p.waits[len(p.waits)-1].round > round {
		return false
	}
	p.waits = append(p.waits, plainRead{id, index, round})
	return true
}

// hasSaid: that round, or a later one.
func (p *plain) hasSaid(node, round int) bool {
	for _, s := range p.said {
		if s.from == node && s.round >= round {
			return true
		}
	}
	return false
}

func (p *plain) byMajority(c api.Conf, self, round int) bool {
	voters := map[int]bool{}
	yes := 0
	for _, v := range c.Voters {
		if voters[v] {
			continue
		}
		voters[v] = true
		if v == self || p.hasSaid(v, round) {
			yes++
		}
	}
	return 2*yes > len(voters)
}

func (p *plain) ready(c api.Conf, self int) []queue.Read {
	var l []queue.Read
	for len(p.waits) > 0 && p.byMajority(c, self, p.waits[0].round) {
		l = append(l, queue.Read{Id: p.waits[0].id, Index: p.waits[0].index})
		p.waits = p.waits[1:]
	}
	return l
}

func (p *plain) drop() []queue.Read {
	var l []queue.Read
	for _, w := range p.waits {
		l = append(l, queue.Read{Id: w.id, Index: w.index})
	}
	p.waits, p.said = nil, nil
	return l
}

// call is one of Reads, with its numbers.
type call struct {
	name    string
	a, b, c int
	conf    api.Conf
}

// do: in both; what they answered, and how many wait.
func (c call) do(r *queue.Reads, p *plain) (got, want string) {
	var a, b any
	switch c.name {
	case "Add":
		a, b = r.Add(c.a, c.b, c.c), p.add(c.a, c.b, c.c)
	case "Said":
		r.Said(c.a, c.b)
		p.said = append(p.said, said{c.a, c.b})
	case "Ready":
		a, b = r.Ready(c.conf, c.a), p.ready(c.conf, c.a)
	case "Drop":
		a, b = r.Drop(), p.drop()
	}
	return fmt.Sprint(a, r.Len()), fmt.Sprint(b, len(p.waits))
}
