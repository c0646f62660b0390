package stack_test

import (
	"math"
	"slices"
	"testing"

	"lightship/api"
	"lightship/stack"
)

// codes are what a stack of the tests throws, unless a test says otherwise; no other code of api is one of them.
const (
	over  api.Throw = -103
	under api.Throw = -104
)

// farBelow and farBeyond are indexes and counts that no stack has.
var (
	farBelow  = []int{-1, -2, -4096, math.MinInt32, math.MinInt + 1, math.MinInt}
	farBeyond = []int{4097, 1 << 16, math.MaxInt32, 1 << 32, math.MaxInt - 1, math.MaxInt}
)

func made(t *testing.T, most int, cells ...uint32) *stack.Stack {
	t.Helper()
	return madeOf(t, most, over, under, cells)
}

func madeOf(t *testing.T, most int, over, under api.Throw, cells []uint32) *stack.Stack {
	t.Helper()
	s, e := stack.New(most, over, under)
	if e != api.OK || s == nil {
		t.Fatalf("New(%d, %d, %d): error %d", most, over, under, e)
	}
	for _, x := range cells {
		push(t, s, x)
	}
	return s
}

func push(t *testing.T, s *stack.Stack, x ...uint32) {
	t.Helper()
	want(t, "Push", s.Push(x...), api.ThrowNone)
}

func want[T comparable](t *testing.T, what string, got, wanted T) {
	t.Helper()
	if got != wanted {
		t.Errorf("%s: %v, want %v", what, got, wanted)
	}
}

// wantCells fails unless these are the cells of s, from the lowest one to the top, by each call that tells of them.
func wantCells(t *testing.T, what string, s *stack.Stack, cells ...uint32) {
	t.Helper()
	if all := s.All(); !slices.Equal(all, cells) {
		t.Errorf("%s: All: %d, want %d", what, all, cells)
	}
	want(t, what+": Len", s.Len(), len(cells))
	for i := range cells {
		want(t, what+": Peek", got(s.Peek(i)), popped{cells[len(cells)-1-i], api.ThrowNone})
	}
}

// popped is what Pop and Peek return.
type popped struct {
	x uint32
	t api.Throw
}

func got(x uint32, t api.Throw) popped {
	return popped{x, t}
}

// rising returns the cells first, first + 1, and so on.
func rising(first uint32, n int) []uint32 {
	l := make([]uint32, n)
	for i := range l {
		l[i] = first + uint32(i)
	}
	return l
}

// The chapter's examples, number by number.
func TestExamples(t *testing.T) {
	s, e := stack.New(3, -3, -4)
	want(t, "New(3, -3, -4)", e, api.OK)
	want(t, "Push of 7, 8", s.Push(7, 8), 0)
	wantCells(t, "7, 8", s, 7, 8)
	want(t, "Push of 9, 9", s.Push(9, 9), -3)
	wantCells(t, "still 7, 8", s, 7, 8)
	want(t, "Push of 9", s.Push(9), 0)
	want(t, "Peek(2)", got(s.Peek(2)), popped{7, 0})
	want(t, "Roll(2)", s.Roll(2), 0)
	wantCells(t, "Roll(2)", s, 8, 9, 7)
	want(t, "Pop", got(s.Pop()), popped{7, 0})
	want(t, "May(1, 2)", s.May(1, 2), 0)
	want(t, "May(3, 0)", s.May(3, 0), -4)
	want(t, "May(0, 2)", s.May(0, 2), -3)
	want(t, "Cut(0)", s.Cut(0), 0)
	wantCells(t, "Cut(0)", s)
	want(t, "Pop of no cells", got(s.Pop()), popped{0, -4})
}

// P8.1: room for 1 and for 4096 cells, and codes that just are below 0.
func TestNew(t *testing.T) {
	for _, most := range []int{1, 2, 64, 1000, 4095, 4096} {
		for _, codes := range [][2]api.Throw{{-3, -4}, {-5, -6}, {-1, -1}, {-1, math.MinInt32}, {math.MinInt32, -1}} {
			s := madeOf(t, most, codes[0], codes[1], nil)
			wantCells(t, "new", s)
			want(t, "Pop of a new stack", got(s.Pop()), popped{0, codes[1]})
			push(t, s, rising(1, most)...)
			wantCells(t, "full", s, rising(1, most)...)
			want(t, "Push to a full stack", s.Push(0), codes[0])
		}
	}
}

// P8.1: no room, or too much; codes that are 0, or above.
func TestNewOfWrongArguments(t *testing.T) {
	for _, k := range []struct {
		most        int
		over, under api.Throw
	}{
		{0, -3, -4},
		{-1, -3, -4},
		{-4096, -3, -4},
		{math.MinInt, -3, -4},
		{4097, -3, -4},
		{1<<32 + 1, -3, -4},
		{math.MaxInt, -3, -4},
		{5, 0, -4},
		{5, -3, 0},
		{5, 0, 0},
		{5, 1, -4},
		{5, -3, 1},
		{5, math.MaxInt32, -4},
		{5, -3, math.MaxInt32},
		{1, 0, -4},
		{4096, -3, 0},
		{0, 0, 0},
		{4097, 1, 1},
	} {
		s, e := stack.New(k.most, k.over, k.under)
		if s != nil || e != api.ErrArg {
			t.Errorf("New(%d, %d, %d): %v, error %d, want none, and ErrArg", k.most, k.over, k.under, s, e)
		}
	}
}

// nones are stacks that New did not return.
func nones(t *testing.T) map[string]*stack.Stack {
	byValue := *made(t, 8, 1, 2, 3)
	return map[string]*stack.Stack{"nil": nil, "zero": {}, "new": new(stack.Stack), "by value": &byValue}
}

// P8.1 (R5): a stack that is none has no cells, and no code of its own.
func TestNones(t *testing.T) {
	for name, s := range nones(t) {
		for range 2 { // the second time tells whether the first one changed anything
			wantCells(t, name, s)
			for _, n := range []int{-1, 0, 1, 3, math.MaxInt, math.MinInt} {
				want(t, name+": May", s.May(n, 0), api.ThrowUnder)
				want(t, name+": May", s.May(0, n), api.ThrowUnder)
				want(t, name+": Peek", got(s.Peek(n)), popped{0, api.ThrowUnder})
				want(t, name+": Roll", s.Roll(n), api.ThrowUnder)
				want(t, name+": Cut", s.Cut(n), api.ThrowUnder)
			}
			want(t, name+": Push of none", s.Push(), api.ThrowUnder)
			want(t, name+": Push", s.Push(1), api.ThrowUnder)
			want(t, name+": Push of 5000", s.Push(rising(1, 5000)...), api.ThrowUnder)
			want(t, name+": Pop", got(s.Pop()), popped{0, api.ThrowUnder})
		}
	}
}

// P8.1: a stack does not become another one by an assignment, nor does it lose anything by it.
func TestAssignedByValue(t *testing.T) {
	s := made(t, 4, 1, 2, 3)
	other := *s
	want(t, "Cut of the other one", other.Cut(0), api.ThrowUnder)
	want(t, "Push to the other one", other.Push(9), api.ThrowUnder)
	wantCells(t, "original", s, 1, 2, 3)
	push(t, s, 4)
	wantCells(t, "original, and more", s, 1, 2, 3, 4)
}

// P8.1 (R3): what All told stays as it is, and is not the stack's.
func TestAllHasMemoryOfItsOwn(t *testing.T) {
	s := made(t, 8, 1, 2, 3, 4, 5)
	want(t, "Cut(3)", s.Cut(3), api.ThrowNone) // so that there is memory behind the cells
	one, two := s.All(), s.All()
	one[0] = 9
	_ = append(one, 99)
	wantCells(t, "with the list changed", s, 1, 2, 3)
	push(t, s, 6)
	_ = append(one, 99)
	wantCells(t, "with the list appended to", s, 1, 2, 3, 6)
	want(t, "Roll(3)", s.Roll(3), api.ThrowNone)
	want(t, "Cut(1)", s.Cut(1), api.ThrowNone)
	push(t, s, 7, 8)
	if !slices.Equal(one, []uint32{9, 2, 3}) || !slices.Equal(two, []uint32{1, 2, 3}) {
		t.Errorf("lists: %d and %d, want 9 2 3 and 1 2 3", one, two)
	}
}

// P8.1: stacks have nothing in common.
func TestStacksAreSeparate(t *testing.T) {
	one, two := made(t, 3, 1, 2), madeOf(t, 4, -5, -6, rising(5, 4))
	want(t, "Roll of one", one.Roll(1), api.ThrowNone)
	want(t, "Cut of two", two.Cut(3), api.ThrowNone)
	push(t, one, 3)
	want(t, "Push to one", one.Push(4), over)
	push(t, two, 9)
	want(t, "Push to two", two.Push(4), -5)
	want(t, "Peek of two", got(two.Peek(4)), popped{0, -6})
	wantCells(t, "one", one, 2, 1, 3)
	wantCells(t, "two", two, 5, 6, 7, 9)
	wantCells(t, "a new one", made(t, 3))
}
