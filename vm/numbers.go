package vm

// numPlain is the number of the last plain primitive.
const numPlain = 73

// The numbers of all primitives that are not plain.
const (
	numExit uint32 = 101 + iota
	numLit
	numBranch
	numZeroBranch
	numDo
	numQuestionDo
	numLoop
	numPlusLoop
	numI
	numJ
	numUnloop
	numExecute
	numCatch
	numThrow
	numText     // (S")
	numTellText // (.")
	numEmit
	numType
	numCr
	numSpace
	numSpaces
	numHere
	numAllot
	numComma
	numByteComma
	numAlign
	numBase
	numState
	numPicture  // <#
	numDigit    // #
	numDigits   // #S
	numPictured // #>
	numHold
	numSign
	numDot
	numUnsignedDot
	numAbort
	numDoes
	numGo
	numCreate
)
