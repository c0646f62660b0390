package vm

import "lightship/api"

// control does those that tell where code continues, and those that work on the return stack.
func (v *Machine) control(in instruction, taken []uint32) api.Throw {
	switch in.number {
	case numExit:
		return v.comeBack()
	case numLit:
		return v.data.Push(in.operands[0])
	case numBranch:
		v.at.start = int(in.operands[0])
	case numZeroBranch:
		if taken[0] == 0 {
			v.at.start = int(in.operands[0])
		}
	case numDo:
		return v.back.Push(taken...)
	case numQuestionDo:
		return v.beginUnlessSame(taken, in.operands[0])
	case numLoop:
		return v.loop(1, in.operands[0])
	case numPlusLoop:
		return v.loop(int32(taken[0]), in.operands[0])
	case numI:
		return v.give(v.back.Peek(0))
	case numJ:
		return v.give(v.back.Peek(2))
	case numUnloop:
		return v.back.Cut(v.back.Len() - 2) // which throws if there are fewer
	case numExecute:
		return v.executeWord(taken[0])
	case numCatch:
		return v.catch(taken[0])
	case numThrow:
		return api.Throw(taken[0])
	}
	return api.ThrowNone
}

// give puts a cell on the data stack, unless getting it threw.
func (v *Machine) give(x uint32, t api.Throw) api.Throw {
	if t != api.ThrowNone {
		return t
	}
	return v.data.Push(x)
}

// call executes the beginning of a word next, and notes where it returns to.
func (v *Machine) call(word uint32) api.Throw {
	return v.enter(word, v.at.cell())
}

// enter executes the beginning of a word next, which returns to what this cell tells.
func (v *Machine) enter(word, back uint32) api.Throw {
	if t := v.back.Push(back); t != api.ThrowNone {
		return t
	}
	v.at = place{int(word), 0}
	return api.ThrowNone
}

// called returns the index of the word that a cell calls, and whether it calls one.
func (v *Machine) called(x uint32) (uint32, bool) {
	if x < api.FirstCall || x-api.FirstCall >= uint32(len(v.words)) {
		return 0, false
	}
	return x - api.FirstCall, true
}

func (v *Machine) executeWord(x uint32) api.Throw {
	word, ok := v.called(x)
	if !ok {
		return api.ThrowWord
	}
	return v.call(word)
}

func (v *Machine) catch(x uint32) api.Throw {
	word, ok := v.called(x)
	if !ok {
		return api.ThrowWord
	}
	h := handler{v.data.Len(), v.back.Len(), v.at}
	if t := v.enter(word, api.Caught); t != api.ThrowNone {
		return t
	}
	v.handlers = append(v.handlers, h)
	return api.ThrowNone
}

// comeBack goes where the uppermost cell of the return stack tells. Whatever is thrown, that cell is taken.
func (v *Machine) comeBack() api.Throw {
	x, t := v.back.Pop()
	if t != api.ThrowNone {
		return t
	}
	switch x {
	case api.Ended:
		v.end()
		return api.ThrowNone
	case api.Caught:
		return v.release()
	}
	p, ok := v.placeOf(x)
	if !ok {
		return api.ThrowReturn
	}
	v.at = p
	return api.ThrowNone
}

// release goes on behind the last CATCH, where nothing was thrown.
func (v *Machine) release() api.Throw {
	if len(v.handlers) == 0 {
		return api.ThrowReturn
	}
	if t := v.data.Push(0); t != api.ThrowNone { // what throws here changes nothing: the handler is there still, and catches it
		return t
	}
	h, _ := v.removed()
	v.at = h.at
	return api.ThrowNone
}

// beginUnlessSame begins a loop, or goes to a place if it has nothing to do; the room that it needs is asked for in both cases.
func (v *Machine) beginUnlessSame(taken []uint32, behind uint32) api.Throw {
	if t := v.back.May(0, 2); t != api.ThrowNone {
		return t
	}
	if taken[0] == taken[1] {
		v.at.start = int(behind)
		return api.ThrowNone
	}
	return v.back.Push(taken...)
}

// loop increases the index: it ends the loop, or goes to a place.
func (v *Machine) loop(by int32, again uint32) api.Throw {
	if t := v.back.May(2, 2); t != api.ThrowNone {
		return t
	}
	index, _ := v.back.Pop()
	limit, _ := v.back.Pop()
	if crosses(index, limit, by) {
		return api.ThrowNone
	}
	v.at.start = int(again)
	return v.back.Push(limit, index+uint32(by))
}

// crosses reports whether so many steps, up or down, lead across the border between limit - 1 and limit.
func crosses(index, limit uint32, by int32) bool {
	if by < 0 {
		return index-limit < -uint32(by) // so many steps down are ahead of the one to limit - 1
	}
	return limit-1-index < uint32(by)
}
