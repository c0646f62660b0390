package vm

import "lightship/api"

// define does those that have to do with words that are made, and what is thrown whatever there is.
func (v *Machine) define(in instruction) api.Throw {
	switch in.number {
	case numAbort:
		return api.ThrowAbort
	case numDoes:
		return v.does(in.operands[0])
	case numGo:
		v.at = place{int(in.operands[0]), int(in.operands[1])}
	case numCreate:
		v.run = stopped
	}
	return api.ThrowNone
}

// does makes the last word, behind its datum, go to a start of the word that is executed now; then it returns.
func (v *Machine) does(start uint32) api.Throw {
	last := len(v.words) - 1
	if !created(v.words[last].Code) || last == v.at.word || last < v.fixed {
		return api.ThrowBody
	}
	l := v.Words()
	l[last].Code = []uint32{numLit, l[last].Code[1], numGo, uint32(v.at.word), start, numExit}
	if !v.put(l) {
		return api.ThrowDict
	}
	return v.comeBack()
}

// created reports whether code is that of a word that was created: a literal, and EXIT, with nothing but (GO) between.
func created(code []uint32) bool {
	switch len(code) {
	case 3:
		return code[0] == numLit && code[2] == numExit
	case 6:
		return code[0] == numLit && code[2] == numGo && code[5] == numExit
	}
	return false
}
