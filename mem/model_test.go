package mem_test

import (
	"math"
	"math/rand/v2"
	"testing"

	"lightship/api"
	"lightship/mem"
)

// model is the chapter's Terms: bytes by their addresses, which are looked for one by one.
type model struct{ window, ram span }

type span struct {
	at    uint64
	bytes []byte
}

func modelOf(size int, window []byte) *model {
	return &model{span{uint64(win), window}, span{uint64(ram), make([]byte, size)}}
}

// where returns the place of the byte at an address, or nil if there is none.
func (s span) where(at uint64) *byte {
	for i := range s.bytes {
		if s.at+uint64(i) == at {
			return &s.bytes[i]
		}
	}
	return nil
}

// all returns the places of n bytes from an address on, and whether they are there.
func (s span) all(at, n uint32) ([]*byte, bool) {
	if n == 0 {
		behind := uint64(at) == s.at+uint64(len(s.bytes))
		return nil, behind || s.where(uint64(at)) != nil
	}
	var l []*byte
	for i := range uint64(n) {
		b := s.where(uint64(at) + i)
		if b == nil {
			return nil, false
		}
		l = append(l, b)
	}
	return l, true
}

func (m *model) there(at, n uint32) ([]*byte, api.Throw) {
	if l, ok := m.window.all(at, n); ok {
		return l, api.ThrowNone
	}
	if l, ok := m.ram.all(at, n); ok {
		return l, api.ThrowNone
	}
	return nil, memory
}

// row returns n bytes from an address on.
func (m *model) row(at, n uint32) ([]byte, api.Throw) {
	l, t := m.there(at, n)
	var b []byte
	for _, x := range l {
		b = append(b, *x)
	}
	return b, t
}

// put makes the bytes from an address on these.
func (m *model) put(at uint32, b []byte) api.Throw {
	l, t := m.there(at, uint32(len(b)))
	if t != api.ThrowNone {
		return t
	}
	if _, ok := m.window.all(at, uint32(len(b))); ok && len(b) > 0 {
		return read
	}
	for i, x := range l {
		*x = b[i]
	}
	return api.ThrowNone
}

func (m *model) load(at uint32) told {
	if at%4 != 0 {
		return told{0, align}
	}
	b, t := m.row(at, 4)
	var x uint32
	for i := len(b) - 1; i >= 0; i-- {
		x = 256*x + uint32(b[i])
	}
	return told{x, t}
}

func (m *model) store(at, x uint32) told {
	if at%4 != 0 {
		return told{0, align}
	}
	return told{t: m.put(at, []byte{byte(x % 256), byte(x >> 8 % 256), byte(x >> 16 % 256), byte(x >> 24)})}
}

func (m *model) byteAt(at uint32) told {
	b, t := m.row(at, 1)
	if t != api.ThrowNone {
		return told{0, t}
	}
	return told{uint32(b[0]), t}
}

func (m *model) move(from, to, n uint32) told {
	b, t := m.row(from, n)
	if t == api.ThrowNone {
		t = m.put(to, b)
	}
	return told{t: t}
}

// fill makes no list of more bytes than RAM and the window may have together: so many are not there.
func (m *model) fill(at, n uint32, x byte) told {
	if n > 1<<17 {
		return told{t: memory}
	}
	b := make([]byte, n)
	for i := range b {
		b[i] = x
	}
	return told{t: m.put(at, b)}
}

// call is one that both are given.
type call struct {
	which, at, to, n uint32
	x                uint32
}

// do makes a call to both, whose results have to be the same, and tells what was thrown.
func (m *model) do(t *testing.T, real *mem.Memory, c call) api.Throw {
	t.Helper()
	var a, b told
	switch c.which {
	case 0:
		a, b = cell(real.Load(c.at)), m.load(c.at)
	case 1:
		a, b = told{t: real.Store(c.at, c.x)}, m.store(c.at, c.x)
	case 2:
		a, b = one(real.Byte(c.at)), m.byteAt(c.at)
	case 3:
		a, b = told{t: real.SetByte(c.at, byte(c.x))}, told{t: m.put(c.at, []byte{byte(c.x)})}
	case 4:
		p, s := real.Bytes(c.at, c.n)
		q, r := m.row(c.at, c.n)
		wantBytes(t, "as the model: Bytes", p, q)
		a, b = told{t: s}, told{t: r}
	case 5:
		a, b = told{t: real.Move(c.at, c.to, c.n)}, m.move(c.at, c.to, c.n)
	case 6:
		a, b = told{t: real.Fill(c.at, c.n, byte(c.x))}, m.fill(c.at, c.n, byte(c.x))
	}
	want(t, "as the model", a, b)
	return b.t
}

// near returns addresses from some before both parts to some behind them.
func (m *model) near() []uint32 {
	var l []uint32
	for _, s := range []span{m.window, m.ram} {
		for at := s.at - 5; at <= s.at+uint64(len(s.bytes))+5; at++ {
			l = append(l, uint32(at))
		}
	}
	return append(l, 0, 1, math.MaxUint32-3, math.MaxUint32)
}

// P9.2, P9.3: all calls, at all addresses in and near small parts, with all numbers of bytes.
func TestEachCallAtEachAddress(t *testing.T) {
	for _, size := range []int{4, 8} {
		for _, n := range []int{0, 1, 3, 4, 5, 8} {
			m, real := modelOf(size, rising(1, n)), fresh(t, size, rising(1, n))
			want(t, "begun", m.do(t, real, call{which: 5, at: win, to: ram, n: uint32(min(n, size))}), api.ThrowNone)
			for _, at := range m.near() {
				for which := range uint32(5) {
					m.do(t, real, call{which: which, at: at, n: 1, x: 0x89abcdef - at})
				}
				for _, k := range []uint32{0, 1, 2, 3, 4, 5, 8, 9, 13, 65536, 1 << 31, -at, 1 - at, ram - at, math.MaxUint32} {
					m.do(t, real, call{which: 4, at: at, n: k})
					m.do(t, real, call{which: 6, at: at, n: k, x: at + k})
					for _, to := range m.near() {
						m.do(t, real, call{which: 5, at: at, to: to, n: k})
					}
				}
				wantAll(t, "as the model", real, m.ram.bytes, m.window.bytes)
				if t.Failed() {
					t.Fatalf("RAM of %d bytes, window of %d, address %d", size, n, at)
				}
			}
		}
	}
}

// P9.1 to P9.4: long rows of calls, held against the model, with windows that become others.
func TestLongRowsOfCalls(t *testing.T) {
	next := rand.New(rand.NewPCG(9, 9)).Uint32 // the same row each time
	thrown := map[api.Throw]int{}
	for _, size := range []int{4, 8, 32, 100} {
		m, real := modelOf(size, nil), fresh(t, size, nil)
		for range 4000 {
			if next()%50 == 0 {
				window := rising(byte(next()), int(next()%40))
				want(t, "Show", real.Show(window), api.OK)
				m.window.bytes = window
			}
			before, shown := real.Ram(), m.window.bytes
			addresses := m.near()
			pick := func() uint32 { return addresses[next()%uint32(len(addresses))] }
			throw := m.do(t, real, call{which: next() % 7, at: pick(), to: pick(), n: next() % 12, x: next()})
			thrown[throw]++
			wantAll(t, "as the model", real, m.ram.bytes, shown)
			if throw != api.ThrowNone {
				wantAll(t, "with a throw nothing changes", real, before, shown)
			}
			if t.Failed() {
				t.Fatalf("RAM of %d bytes", size)
			}
		}
	}
	for _, throw := range []api.Throw{api.ThrowNone, memory, read, align} {
		if thrown[throw] < 500 {
			t.Errorf("no more than %d calls threw %d", thrown[throw], throw)
		}
	}
}
