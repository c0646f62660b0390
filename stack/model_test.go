package stack_test

import (
	"math/rand/v2"
	"testing"

	"lightship/api"
	"lightship/stack"
)

// model is the chapter's Terms: each cell knows the one below it, and the i-th one is reached step by step from the top.
type model struct {
	top  *below
	most int
}

type below struct {
	x    uint32
	next *below
}

func (m *model) count() int {
	n := 0
	for c := m.top; c != nil; c = c.next {
		n++
	}
	return n
}

// link returns what leads to the i-th cell, or nil if there is none.
func (m *model) link(i int) **below {
	if i < 0 {
		return nil
	}
	l := &m.top
	for ; *l != nil; l = &(*l).next {
		if i == 0 {
			return l
		}
		i--
	}
	return nil
}

func (m *model) takeOut(i int) popped {
	l := m.link(i)
	if l == nil {
		return popped{0, under}
	}
	x := (*l).x
	*l = (*l).next
	return popped{x, api.ThrowNone}
}

func (m *model) push(cells []uint32) api.Throw {
	if len(cells) > m.most-m.count() {
		return over
	}
	for _, x := range cells {
		m.top = &below{x, m.top}
	}
	return api.ThrowNone
}

func (m *model) roll(i int) api.Throw {
	p := m.takeOut(i)
	if p.t == api.ThrowNone {
		m.top = &below{p.x, m.top}
	}
	return p.t
}

func (m *model) cut(n int) api.Throw {
	if n < 0 || n > m.count() {
		return under
	}
	for m.count() > n {
		m.top = m.top.next
	}
	return api.ThrowNone
}

func (m *model) peek(i int) popped {
	l := m.link(i)
	if l == nil {
		return popped{0, under}
	}
	return popped{(*l).x, api.ThrowNone}
}

// cells are those of the model, from the lowest one to the top.
func (m *model) cells() []uint32 {
	l := make([]uint32, m.count())
	at := len(l)
	for c := m.top; c != nil; c = c.next {
		at--
		l[at] = c.x
	}
	return l
}

// step does one thing to both, whose results have to be the same, and tells what was thrown.
func step(t *testing.T, s *stack.Stack, m *model, next func() uint32) api.Throw {
	t.Helper()
	i := int(next()%uint32(m.most+4)) - 2
	var a, b popped
	switch next() % 7 {
	case 0, 1:
		x := rising(next(), max(i, 0)/2)
		a, b = popped{t: s.Push(x...)}, popped{t: m.push(x)}
	case 2:
		x := next()
		a, b = popped{t: s.Push(x)}, popped{t: m.push([]uint32{x})}
	case 3:
		a, b = got(s.Pop()), m.takeOut(0)
	case 4:
		a, b = got(s.Peek(i)), m.peek(i)
	case 5:
		a, b = popped{t: s.Roll(i)}, popped{t: m.roll(i)}
	case 6:
		a, b = popped{t: s.Cut(i)}, popped{t: m.cut(i)}
	}
	want(t, "as the model", a, b)
	return b.t
}

// P8.1 to P8.4: long rows of calls, held against the model, in stacks with room for few cells.
func TestLongRowsOfCalls(t *testing.T) {
	next := rand.New(rand.NewPCG(8, 8)).Uint32 // the same row each time
	thrown := map[api.Throw]int{}
	for _, most := range []int{1, 2, 3, 5, 12, 40} {
		s, m := made(t, most), &model{most: most}
		for range 2000 {
			before := m.cells()
			throw := step(t, s, m, next)
			thrown[throw]++
			wantCells(t, "as the model", s, m.cells()...)
			if throw != api.ThrowNone {
				wantCells(t, "with a throw nothing changes", s, before...)
			}
			if t.Failed() {
				t.Fatalf("room for %d", most)
			}
		}
	}
	for _, throw := range []api.Throw{api.ThrowNone, over, under} {
		if thrown[throw] < 500 {
			t.Errorf("no more than %d calls threw %d", thrown[throw], throw)
		}
	}
}

// P8.4: what is pushed is popped, the last one first.
func TestPoppedTheLastOneFirst(t *testing.T) {
	for _, n := range []int{1, 2, 3, 100, 4096} {
		for _, piece := range []int{1, 2, 7, n} {
			s := made(t, n)
			for at := 0; at < n; at += piece {
				push(t, s, rising(uint32(at), min(piece, n-at))...)
			}
			for x := n - 1; x >= 0; x-- {
				want(t, "Pop", got(s.Pop()), popped{uint32(x), api.ThrowNone})
			}
			want(t, "Pop of no cells", got(s.Pop()), popped{0, under})
		}
	}
}

// P8.4: as many cells as there is room for, and not one more, in each room.
func TestRoomIsUsedUp(t *testing.T) {
	for most := 1; most <= api.MaxStack; most++ {
		s := made(t, most)
		pushed := 0
		for pushed <= most && s.Push(uint32(pushed)) == api.ThrowNone {
			pushed++
		}
		want(t, "cells that were pushed", pushed, most)
		want(t, "Push of one more", s.Push(1), over)
		want(t, "May(0, 1)", s.May(0, 1), over)
		want(t, "May(1, 1)", s.May(1, 1), api.ThrowNone)
		want(t, "Len", s.Len(), most)
	}
}
