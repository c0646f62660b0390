package flash

// power's zero value is on and not armed.
type power struct {
	down, armed bool
	left        int
	mask        []byte
}

// spend counts an operation, and reports whether it may be done as a whole.
func (p *power) spend() bool {
	if !p.armed {
		return true
	}
	if p.left == 0 {
		return false
	}
	p.left--
	return true
}

func (p *power) torn(i int) byte {
	if i >= len(p.mask) {
		return 0
	}
	return p.mask[i]
}

// whole is the mask of an operation that isn't torn: a mask of ones holds nothing back (P1.5), so both kinds are done alike.
func whole(int) byte {
	return 255
}
