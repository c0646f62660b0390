package stack_test

import (
	"math"
	"slices"
	"testing"

	"lightship/api"
)

// P8.2: with 3 cells, and room for 2 more.
func TestMay(t *testing.T) {
	s := made(t, 5, 7, 8, 9)
	for _, k := range []struct {
		takes, gives int
		want         api.Throw
	}{
		{0, 0, 0},
		{0, 1, 0},
		{0, 2, 0},
		{0, 3, over},
		{1, 3, 0},
		{1, 4, over},
		{2, 4, 0},
		{3, 0, 0},
		{3, 5, 0},
		{3, 6, over},
		{4, 0, under},
		{4, 4, under},
		{4, 6, under},
		{4, 7, under},
		{0, -1, 0},
		{3, -1, 0},
		{4, -1, under},
		{-1, 0, 0},
		{-1, 1, 0},
		{-1, 2, 0},
		{-1, 3, over},
		{-3, 2, 0},
		{-3, 3, over},
		{-1, -1, 0},
		{-9, -4, 0},
		{-4, -9, 0},
		{math.MinInt, 2, 0},
		{math.MinInt, 3, over},
		{3, math.MinInt, 0},
		{4, math.MinInt, under},
		{math.MinInt, math.MinInt, 0},
		{0, math.MaxInt, over},
		{3, math.MaxInt, over},
		{4, math.MaxInt, under},
		{math.MinInt, math.MaxInt, over},
		{math.MaxInt, 0, under},
		{math.MaxInt, math.MaxInt, under},
		{math.MaxInt, math.MinInt, under},
	} {
		if got := s.May(k.takes, k.gives); got != k.want {
			t.Errorf("May(%d, %d): %d, want %d", k.takes, k.gives, got, k.want)
		}
	}
	wantCells(t, "asked", s, 7, 8, 9)
}

// P8.2: what May says of any numbers is what pops and pushes do.
func TestMayIsWhatHappens(t *testing.T) {
	for n := range 5 {
		for takes := -2; takes <= 6; takes++ {
			for gives := -2; gives <= 6; gives++ {
				s := made(t, 4, rising(1, n)...)
				may, does := s.May(takes, gives), api.ThrowNone
				for i := 0; i < takes && does == api.ThrowNone; i++ {
					_, does = s.Pop()
				}
				for i := 0; i < gives && does == api.ThrowNone; i++ {
					does = s.Push(0)
				}
				if may != does {
					t.Errorf("%d cells: May(%d, %d): %d, but it throws %d", n, takes, gives, may, does)
				}
			}
		}
	}
}

// P8.2: so many cells, pushed at once to so many: all of them, or none.
func TestPush(t *testing.T) {
	for _, most := range []int{1, 2, 5, 4095, 4096} {
		for _, before := range []int{0, 1, 2, most / 2, most - 1, most} {
			for _, n := range []int{0, 1, 2, most/2 + 1, most - before - 1, most - before, most - before + 1, most, most + 1, 5000} {
				if before > most || n < 0 {
					continue
				}
				s := made(t, most, rising(1, before)...)
				x := rising(90000, n)
				if n <= most-before {
					want(t, "Push with room", s.Push(x...), api.ThrowNone)
					wantCells(t, "pushed", s, append(rising(1, before), x...)...)
				} else {
					want(t, "Push without room", s.Push(x...), over)
					wantCells(t, "not pushed", s, rising(1, before)...)
				}
			}
		}
	}
}

// P8.2: no cells, given or missing, are always pushed.
func TestPushOfNone(t *testing.T) {
	for n := range 3 {
		s := made(t, 2, rising(1, n)...)
		push(t, s)
		push(t, s, nil...)
		push(t, s, []uint32{}...)
		wantCells(t, "no cells pushed", s, rising(1, n)...)
	}
}

// P8.2: cells are any numbers.
func TestAnyCells(t *testing.T) {
	cells := []uint32{0, math.MaxUint32, 0, 1 << 31, 1<<31 - 1, 0, math.MaxUint32 - 1, 1, 0}
	s := made(t, 9)
	push(t, s, cells...)
	wantCells(t, "pushed", s, cells...)
	for i := range cells {
		want(t, "Pop", got(s.Pop()), popped{cells[8-i], api.ThrowNone})
	}
}

// P8.2 (R3): pushed cells are neither changed nor kept, nor is what is behind them.
func TestPushedListStaysTheCallers(t *testing.T) {
	whole := rising(1, 20)
	s := made(t, 30)
	push(t, s, whole[:5]...)
	push(t, s, 21, 22)
	want(t, "Roll(6)", s.Roll(6), api.ThrowNone)
	if !slices.Equal(whole, rising(1, 20)) {
		t.Errorf("the list: %d", whole)
	}
	clear(whole)
	wantCells(t, "with the list cleared", s, 2, 3, 4, 5, 21, 22, 1)
	push(t, s, s.All()...)
	wantCells(t, "its own cells", s, 2, 3, 4, 5, 21, 22, 1, 2, 3, 4, 5, 21, 22, 1)
}

// P8.2: one by one, till there are none; a Pop of none takes nothing from later ones.
func TestPop(t *testing.T) {
	s := made(t, 3, 4, 5, 6)
	want(t, "Pop", got(s.Pop()), popped{6, api.ThrowNone})
	wantCells(t, "two remain", s, 4, 5)
	want(t, "Pop", got(s.Pop()), popped{5, api.ThrowNone})
	want(t, "Pop", got(s.Pop()), popped{4, api.ThrowNone})
	for range 3 {
		want(t, "Pop of no cells", got(s.Pop()), popped{0, under})
		wantCells(t, "none remain", s)
	}
	push(t, s, 7, 8, 9)
	wantCells(t, "pushed then", s, 7, 8, 9)
	want(t, "Push to a full stack", s.Push(1), over)
}

// P8.2: a cell that was popped makes room for just one.
func TestPopMakesRoom(t *testing.T) {
	for _, most := range []int{1, 2, 4096} {
		s := made(t, most, rising(1, most)...)
		for i := range uint32(3) {
			want(t, "Push to a full stack", s.Push(9), over)
			_, e := s.Pop()
			want(t, "Pop", e, api.ThrowNone)
			want(t, "Push of two", s.Push(9, 9), over)
			push(t, s, i)
			wantCells(t, "full again", s, append(rising(1, most-1), i)...)
		}
	}
}
