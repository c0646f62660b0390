package flash_test

import (
	"bytes"
	"testing"

	"lightship/api"
	"lightship/flash"
)

// model is the chapter's words bit by bit, with an operation's number in place of a countdown.
type model struct {
	bits        [8 * api.Sector][8]bool
	wear        [8]int
	down, armed bool
	done, fails int
	mask        []byte
}

func newModel() *model {
	m := &model{}
	for i := range m.bits {
		m.bits[i] = [8]bool{true, true, true, true, true, true, true, true}
	}
	return m
}

func bit(b byte, k int) bool { return b>>k&1 == 1 }

// torn counts an operation that is let through.
func (m *model) torn() bool {
	m.done++
	return m.armed && m.done > m.fails
}

func (m *model) maskBit(i, k int) bool { return i < len(m.mask) && bit(m.mask[i], k) }

func (m *model) end(torn bool) api.Errno {
	if !torn {
		return api.OK
	}
	m.down, m.armed = true, false
	return api.ErrDown
}

func (m *model) program(at int, b []byte) api.Errno {
	switch {
	case m.down:
		return api.ErrDown
	case at < 0 || at+len(b) > len(m.bits):
		return api.ErrBounds
	case at%4 != 0 || len(b)%4 != 0:
		return api.ErrAlign
	case len(b) == 0:
		return api.OK
	}
	torn := m.torn()
	for i := range b {
		for k := range 8 {
			if !bit(b[i], k) && (!torn || m.maskBit(i, k)) {
				m.bits[at+i][k] = false
			}
		}
	}
	return m.end(torn)
}

func (m *model) erase(sector int) api.Errno {
	switch {
	case m.down:
		return api.ErrDown
	case sector < 0 || sector >= len(m.wear):
		return api.ErrBounds
	}
	torn := m.torn()
	m.wear[sector]++
	for i := range api.Sector {
		for k := range 8 {
			m.bits[sector*api.Sector+i][k] = !torn || m.maskBit(i, k)
		}
	}
	return m.end(torn)
}

func (m *model) arm(n int, mask []byte) api.Errno {
	switch {
	case m.down:
		return api.ErrDown
	case n < 0:
		return api.ErrArg
	}
	m.armed, m.done, m.fails, m.mask = true, 0, n, bytes.Clone(mask)
	return api.OK
}

func (m *model) up() api.Errno {
	m.down, m.armed = false, false
	return api.OK
}

func (m *model) contents() []byte {
	b := make([]byte, len(m.bits))
	for i := range b {
		for k := range 8 {
			if m.bits[i][k] {
				b[i] |= 1 << k
			}
		}
	}
	return b
}

// dice is a row of numbers that is the same in every run.
type dice uint32

func (d *dice) below(n int) int {
	*d = *d*1664525 + 1013904223
	return int(*d>>8) % n
}

func (d *dice) bytes(most int) []byte {
	b := make([]byte, d.below(most+1))
	for i := range b {
		b[i] = byte(d.below(256))
	}
	return b
}

// step does one thing to both, and answers both errors.
func step(d *dice, f *flash.Flash, m *model) (api.Errno, api.Errno) {
	switch kind := d.below(20); {
	case kind < 9:
		at, b := 4*d.below(530)-8, d.bytes(80)
		if d.below(8) != 0 {
			b = b[:len(b)&^3]
		}
		at += d.below(8) / 7
		return f.Program(at, b), m.program(at, b)
	case kind < 13:
		sector := d.below(11) - 1
		return f.Erase(sector), m.erase(sector)
	case kind < 16:
		n, mask := d.below(8)-1, d.bytes(300)
		return f.Arm(n, mask), m.arm(n, mask)
	default:
		return f.Up(), m.up()
	}
}

func TestFlashDoesWhatAModelDoes(t *testing.T) {
	for seed := range 40 {
		d := dice(seed)
		f, m := newFlash(t, 8), newModel()
		for n := range 400 {
			if d.below(16) == 0 { // whatever a flash may be, its copy goes on as it would
				f = f.Copy()
			}
			if got, wanted := step(&d, f, m); got != wanted {
				t.Fatalf("row %d, step %d: error %d, want %d", seed, n, got, wanted)
			}
			if f.Down() != m.down {
				t.Fatalf("row %d, step %d: down %v", seed, n, f.Down())
			}
		}
		want(t, "Up", f.Up(), api.OK)
		if !bytes.Equal(contents(t, f), m.contents()) {
			t.Errorf("row %d: other bytes than the model's", seed)
		}
		for s, n := range m.wear {
			wantWear(t, f, s, n)
		}
	}
}
