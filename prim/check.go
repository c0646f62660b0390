package prim

import (
	"lightship/api"
	"lightship/image"
)

// The primitives that words are asked for by number.
const (
	exit = 101 // EXIT
	goes = 139 // (GO)
)

// Check returns the index of the first word that is not right in the list: -1 if all are.
func Check(l []api.Word) int {
	c := checker{primitives(), l, map[int]places{}}
	for i := range l {
		if !c.right(i) {
			return i
		}
	}
	return -1
}

// checker has a list, and the places of those words whose code others were seen to go on in.
type checker struct {
	table
	list   []api.Word
	others map[int]places
}

// right reports whether a word is, if all ahead of it are.
func (c *checker) right(i int) bool {
	w := c.list[i]
	if !image.Right(w) {
		return false
	}
	starts, whole := c.starts(w.Code)
	if !whole || len(starts) == 0 || w.Code[starts[len(starts)-1]] != exit {
		return false
	}
	mine := placesOf(starts)
	for _, at := range starts {
		if !c.allowed(i, w.Code[at:], mine) {
			return false
		}
	}
	return true
}

// allowed reports whether the instruction with which code of a word begins calls, and goes to, what it may.
func (c *checker) allowed(i int, code []uint32, mine places) bool {
	if code[0] >= api.FirstCall {
		return before(code[0]-api.FirstCall, i+1) // it may call itself
	}
	if code[0] == goes {
		return before(code[1], i) && c.placesIn(int(code[1])).has(code[2])
	}
	p, _ := c.get(code[0])
	return !p.Jump || mine.has(code[1])
}

// placesIn returns the places of a word that is right. They are kept, as many words may ask for them.
func (c *checker) placesIn(i int) places {
	p, ok := c.others[i]
	if !ok {
		starts, _ := c.starts(c.list[i].Code)
		p = placesOf(starts)
		c.others[i] = p
	}
	return p
}

// before reports whether a word's index, which a cell tells, is less than i.
func before(n uint32, i int) bool {
	return uint64(n) < uint64(i)
}

// places are the starts of a word's code, each with the number of those ahead of it.
type places map[uint32]int

func placesOf(starts []int) places {
	p := make(places, len(starts))
	for i, at := range starts {
		p[uint32(at)] = i
	}
	return p
}

func (p places) has(at uint32) bool {
	_, ok := p[at]
	return ok
}
