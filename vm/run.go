package vm

import (
	"lightship/api"
	"lightship/plain"
	"lightship/prim"
	"lightship/stack"
)

// state is what becomes of a run.
type state uint8

const (
	over state = iota
	running
	stopped
)

// handler is where a throw is caught, and how many cells both stacks have then.
type handler struct {
	data, back int
	at         place
}

// instruction is the number of a primitive, or a call, with the operands behind it.
type instruction struct {
	number   uint32
	operands []uint32
}

// Run executes a word. It returns what is thrown at last, and how much fuel is left.
func (v *Machine) Run(word, fuel int) (api.Throw, int) {
	if !v.made() || word < 0 || word >= len(v.words) {
		return api.ThrowWord, fuel
	}
	v.end()
	v.back.Push(api.Ended)
	v.at = place{word, 0}
	return v.proceed(fuel)
}

// Stopped reports whether a run is stopped at a CREATE.
func (v *Machine) Stopped() bool {
	return v.made() && v.run == stopped
}

// Resume goes on with the run that is stopped.
func (v *Machine) Resume(fuel int) (api.Throw, int) {
	if !v.Stopped() {
		return api.ThrowWord, fuel
	}
	return v.proceed(fuel)
}

// proceed executes one instruction after the other, until the run is over, or stops.
func (v *Machine) proceed(fuel int) (api.Throw, int) {
	v.run = running
	for v.run == running {
		if fuel < 1 {
			v.end()
			return api.ThrowFuel, 0
		}
		fuel--
		if t := v.step(); t != api.ThrowNone && !v.handled(t) {
			v.end()
			return t, fuel
		}
	}
	return api.ThrowNone, fuel
}

// end leaves nothing of a run, but what it did.
func (v *Machine) end() {
	v.back.Cut(0)
	v.handlers = nil
	v.run = over
}

// step executes an instruction. Whatever it throws, it has changed nothing, but where the chapter says that a cell is taken, or a word is changed.
func (v *Machine) step() api.Throw {
	in := v.fetch()
	if in.number >= api.FirstCall {
		return v.call(in.number - api.FirstCall)
	}
	if in.number <= numPlain {
		return plain.Do(in.number, v.data, v.back, v.memory)
	}
	p, _ := prim.Get(in.number)
	if t := v.data.May(p.Takes, p.Gives); t != api.ThrowNone {
		return t
	}
	taken := v.take(p.Takes)
	t := v.execute(in, taken)
	if t != api.ThrowNone && in.number != numThrow {
		v.data.Push(taken...)
	}
	return t
}

// fetch returns the instruction that is executed now; what is executed next is the one behind it.
func (v *Machine) fetch() instruction {
	e, at := v.words[v.at.word], v.at.start
	v.at.start += e.long[at]
	return instruction{e.Code[at], e.Code[at+1 : v.at.start]}
}

// take takes n cells from the data stack, which have to be there: the uppermost one is the last.
func (v *Machine) take(n int) []uint32 {
	l := make([]uint32, n)
	for i := range l {
		l[n-1-i], _ = v.data.Pop()
	}
	return l
}

// execute does what a primitive does that is not plain, with the cells that were taken for it. It throws before it changes anything.
func (v *Machine) execute(in instruction, taken []uint32) api.Throw {
	switch n := in.number; {
	case n <= numThrow:
		return v.control(in, taken)
	case n <= numSpaces:
		return v.tell(in, taken)
	case n <= numState:
		return v.keep(n, taken)
	case n <= numUnsignedDot:
		return v.picture(n, taken)
	}
	return v.define(in)
}

// handled reports whether there is a handler for what is thrown: then the run goes on there.
func (v *Machine) handled(t api.Throw) bool {
	h, ok := v.removed()
	if !ok {
		return false
	}
	resize(v.data, h.data)
	resize(v.back, h.back)
	v.data.Push(uint32(t)) // there is room, as CATCH took a cell from there
	v.at = h.at
	return true
}

// removed returns the last handler, which is there no more; false if there is none.
func (v *Machine) removed() (handler, bool) {
	last := len(v.handlers) - 1
	if last < 0 {
		return handler{}, false
	}
	h := v.handlers[last]
	v.handlers = v.handlers[:last]
	return h, true
}

// resize removes the cells above the n lowest ones, or puts 0 on top until there are n.
func resize(s *stack.Stack, n int) {
	if s.Len() < n {
		s.Push(make([]uint32, n-s.Len())...)
		return
	}
	s.Cut(n)
}
