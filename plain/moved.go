package plain

import "lightship/api"

// moved returns the effect of those that give cells again: in another order, some of them twice, or not all.
func moved(name string) effect {
	switch name {
	case "DUP":
		return those(0, 0)
	case "DROP", "2DROP":
		return those()
	case "SWAP":
		return those(1, 0)
	case "OVER":
		return those(0, 1, 0)
	case "ROT":
		return those(1, 2, 0)
	case "NIP":
		return those(1)
	case "TUCK":
		return those(1, 0, 1)
	case "2DUP":
		return those(0, 1, 0, 1)
	case "2SWAP":
		return those(2, 3, 0, 1)
	case "2OVER":
		return those(0, 1, 2, 3, 0, 1)
	}
	return nil
}

// those gives the taken cells with these numbers, from 0 on.
func those(numbers ...int) effect {
	return func(taken []uint32) ([]uint32, api.Throw) {
		given := make([]uint32, len(numbers))
		for i, n := range numbers {
			given[i] = taken[n]
		}
		return given, api.ThrowNone
	}
}
