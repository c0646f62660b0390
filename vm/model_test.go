package vm_test

import (
	"fmt"
	"slices"
	"strconv"
	"strings"
	"testing"

	"lightship/api"
	"lightship/image"
	"lightship/mem"
	"lightship/plain"
	"lightship/prim"
	"lightship/stack"
	"lightship/vm"
)

// caught is where a handler goes on, and how many cells it noted.
type caught struct{ data, back, word, start int }

// model is a machine by the chapter's terms. An instruction is executed on a copy, which is thrown away with a throw.
type model struct {
	words      []api.Word
	data, back []uint32
	room       int
	ram        []byte
	here       uint32
	picture    int
	handlers   []caught
	out        string
	fixed      int
	word, at   int // what is executed next
	run        string
}

func (m model) copy() *model {
	m.words, m.data, m.back, m.ram, m.handlers = slices.Clone(m.words), slices.Clone(m.data), slices.Clone(m.back), slices.Clone(m.ram), slices.Clone(m.handlers)
	return &m
}

// begin begins a run of a word.
func (m *model) begin(word, fuel int) (api.Throw, int) {
	if word < 0 || word >= len(m.words) {
		return api.ThrowWord, fuel
	}
	m.back, m.handlers, m.word, m.at = []uint32{1<<32 - 1}, nil, word, 0
	return m.goOn(fuel)
}

func (m *model) goOn(fuel int) (api.Throw, int) {
	m.run = "runs"
	for ; fuel > 0; fuel-- {
		throw := m.step()
		if throw != 0 && len(m.handlers) > 0 {
			h := m.handlers[len(m.handlers)-1]
			m.handlers = m.handlers[:len(m.handlers)-1]
			m.data = append(m.data, make([]uint32, 9999)...)[:h.data]
			m.back = append(m.back, make([]uint32, 9999)...)[:h.back]
			m.data = append(m.data, uint32(throw))
			m.word, m.at = h.word, h.start
			throw = 0
		}
		if throw != 0 || m.run == "over" {
			m.over()
			return throw, fuel - 1
		}
		if m.run == "stopped" {
			return 0, fuel - 1
		}
	}
	m.over()
	return api.ThrowFuel, 0
}

func (m *model) over() {
	m.run, m.back, m.handlers = "over", nil, nil
}

// done counts the instructions that threw nothing, by name, and thrown those that threw, by what.
var done, thrown = map[string]int{}, map[string]int{}

func (m *model) step() api.Throw {
	c := m.words[m.word].Code[m.at:]
	name := "call"
	if c[0] < 256 {
		p, _ := prim.Get(c[0])
		name = p.Name
	}
	next := m.copy()
	next.at += prim.Long(c, 0)
	throw := next.do(name, c)
	if throw == 0 {
		done[name]++
		*m = *next
		return 0
	}
	thrown[fmt.Sprint(throw)]++
	switch {
	case name == "THROW" && len(m.data) > 0:
		m.data = m.data[:len(m.data)-1]
	case name == "EXIT" && len(m.back) > 0:
		m.back = m.back[:len(m.back)-1]
	case name == "(DOES)" && throw != api.ThrowBody && throw != api.ThrowDict:
		m.words = next.words
		if len(m.back) > 0 {
			m.back = m.back[:len(m.back)-1]
		}
	}
	return throw
}

// take takes cells, and reports whether they are there, and whether as many as are given have room then.
func (m *model) take(name string) ([]uint32, api.Throw) {
	p, _ := prim.Named(name)
	if len(m.data) < p.Takes {
		return nil, api.ThrowUnder
	}
	if len(m.data)-p.Takes+p.Gives > m.room {
		return nil, api.ThrowOver
	}
	c := slices.Clone(m.data[len(m.data)-p.Takes:])
	m.data = m.data[:len(m.data)-p.Takes]
	return c, 0
}

func (m *model) do(name string, code []uint32) api.Throw {
	if name == "call" {
		return m.call(code[0])
	}
	if code[0] <= 73 {
		return m.plain(code[0])
	}
	c, throw := m.take(name)
	if throw != 0 {
		return throw
	}
	switch {
	case strings.Contains(" EXIT (LIT) (BRANCH) (0BRANCH) (DO) (?DO) (LOOP) (+LOOP) I J UNLOOP ", " "+name+" "):
		return m.flow(name, code, c)
	case strings.Contains(" EXECUTE CATCH THROW ABORT (DOES) (GO) CREATE ", " "+name+" "):
		return m.special(name, code, c)
	case strings.Contains(" HERE ALLOT , C, ALIGN BASE STATE ", " "+name+" "):
		return m.store(name, c)
	case strings.Contains(" <# # #S #> HOLD SIGN ", " "+name+" "):
		return m.pictured(name, c)
	}
	return m.tell(name, code, c)
}

func (m *model) plain(n uint32) api.Throw {
	s, _ := stack.New(m.room, api.ThrowOver, api.ThrowUnder)
	r, _ := stack.New(m.room, api.ThrowROver, api.ThrowRUnder)
	s.Push(m.data...)
	r.Push(m.back...)
	window, _ := image.Encode(m.words)
	memory, _ := mem.New(len(m.ram), window)
	for i, b := range m.ram {
		memory.SetByte(uint32(api.RamAt+i), b)
	}
	throw := plain.Do(n, s, r, memory)
	m.data, m.back, m.ram = s.All(), r.All(), memory.Ram()
	return throw
}

func (m *model) toBack(x ...uint32) api.Throw {
	if len(m.back)+len(x) > m.room {
		return api.ThrowROver
	}
	m.back = append(m.back, x...)
	return 0
}

func (m *model) call(x uint32) api.Throw {
	throw := m.toBack(uint32(1024*m.word + m.at))
	m.word, m.at = int(x-256), 0
	return throw
}

// back1 returns the i-th cell of the return stack, from the top.
func (m *model) back1(i int) (uint32, bool) {
	if len(m.back) <= i {
		return 0, false
	}
	return m.back[len(m.back)-1-i], true
}

func (m *model) exit() api.Throw {
	x, ok := m.back1(0)
	if !ok {
		return api.ThrowRUnder
	}
	m.back = m.back[:len(m.back)-1]
	if x == 1<<32-1 {
		m.run = "over"
		return 0
	}
	if x == 1<<32-2 {
		if len(m.handlers) == 0 {
			return api.ThrowReturn
		}
		if len(m.data) == m.room {
			return api.ThrowOver
		}
		h := m.handlers[len(m.handlers)-1]
		m.handlers = m.handlers[:len(m.handlers)-1]
		m.word, m.at = h.word, h.start
		m.data = append(m.data, 0)
		return 0
	}
	for i, w := range m.words {
		starts, _ := prim.Starts(w.Code)
		for _, at := range starts {
			if uint64(x) == uint64(1024*i+at) {
				m.word, m.at = i, at
				return 0
			}
		}
	}
	return api.ThrowReturn
}

func (m *model) flow(name string, code, c []uint32) api.Throw {
	switch name {
	case "EXIT":
		return m.exit()
	case "(LIT)":
		m.data = append(m.data, code[1])
	case "(BRANCH)":
		m.at = int(code[1])
	case "(0BRANCH)":
		if c[0] == 0 {
			m.at = int(code[1])
		}
	case "(DO)":
		return m.toBack(c[0], c[1])
	case "(?DO)":
		throw := m.toBack(c[0], c[1])
		if c[0] == c[1] && throw == 0 {
			m.back = m.back[:len(m.back)-2]
			m.at = int(code[1])
		}
		return throw
	case "I", "J":
		x, ok := m.back1(map[string]int{"J": 2}[name])
		if !ok {
			return api.ThrowRUnder
		}
		m.data = append(m.data, x)
	default: // (LOOP) (+LOOP) UNLOOP
		index, _ := m.back1(0)
		limit, ok := m.back1(1)
		if !ok {
			return api.ThrowRUnder
		}
		by := append(c, 1)[0]
		m.back = m.back[:len(m.back)-2]
		if name != "UNLOOP" && !crossed(int64(limit), int64(index), int64(int32(by))) {
			m.back = append(m.back, limit, index+by)
			m.at = int(code[1])
		}
	}
	return 0
}

func (m *model) special(name string, code, c []uint32) api.Throw {
	switch name {
	case "EXECUTE", "CATCH":
		if c[0] < 256 || int(c[0])-256 >= len(m.words) {
			return api.ThrowWord
		}
		if name == "EXECUTE" {
			return m.call(c[0])
		}
		m.handlers = append(m.handlers, caught{len(m.data), len(m.back), m.word, m.at})
		m.word, m.at = int(c[0]-256), 0
		return m.toBack(1<<32 - 2)
	case "THROW":
		return api.Throw(c[0])
	case "ABORT":
		return -1
	case "(GO)":
		m.word, m.at = int(code[1]), int(code[2])
	case "CREATE":
		m.run = "stopped"
	case "(DOES)":
		last := len(m.words) - 1
		old := m.words[last].Code
		literal := len(old) == 3 && old[0] == 102
		going := len(old) == 6 && old[0] == 102 && old[2] == 139
		if !literal && !going || last == m.word || last < m.fixed {
			return api.ThrowBody
		}
		m.words[last].Code = []uint32{102, old[1], 139, uint32(m.word), code[1], 101}
		if b, _ := image.Encode(m.words); len(b) > 65536 {
			return api.ThrowDict
		}
		return m.exit()
	}
	return 0
}

func (m *model) store(name string, c []uint32) api.Throw {
	to := m.here
	switch name {
	case "HERE":
		m.data = append(m.data, m.here)
	case "BASE":
		m.data = append(m.data, 1<<20)
	case "STATE":
		m.data = append(m.data, 1<<20+4)
	case "ALLOT":
		to += c[0]
	case "ALIGN":
		to += (4 - to%4) % 4
	case ",":
		if to%4 != 0 {
			return api.ThrowAlign
		}
		to += 4
	case "C,":
		to++
	}
	if to < 1<<20+80 || int64(to) > 1<<20+int64(len(m.ram)) {
		return api.ThrowDict
	}
	if name == "," || name == "C," {
		for i := range int(to - m.here) {
			m.ram[int(m.here)-1<<20+i] = byte(c[0] >> (8 * i))
		}
	}
	m.here = to
	return 0
}

func (m *model) base() (int, bool) {
	b := m.ram[:4]
	return int(b[0]), b[1]|b[2]|b[3] == 0 && 2 <= b[0] && b[0] <= 36
}

func (m *model) pictured(name string, c []uint32) api.Throw {
	base, ok := m.base()
	add := ""
	switch name {
	case "<#":
		m.picture = 0
	case "#>":
		m.data = append(m.data, uint32(1<<20+80-m.picture), uint32(m.picture))
	case "HOLD":
		add = string([]byte{byte(c[0])})
	case "SIGN":
		if int32(c[0]) < 0 {
			add = "-"
		}
	default:
		if !ok {
			return api.ThrowNumber
		}
		d := uint64(c[1])<<32 + uint64(c[0])
		add = strings.ToUpper(strconv.FormatUint(d, base))
		if name == "#" {
			add = add[len(add)-1:]
			d /= uint64(base)
		} else {
			d = 0
		}
		m.data = append(m.data, uint32(d), uint32(d>>32))
	}
	if m.picture+len(add) > 72 {
		return api.ThrowPic
	}
	m.picture += len(add)
	copy(m.ram[80-m.picture:80], add)
	return 0
}

func (m *model) tell(name string, code, c []uint32) api.Throw {
	text := ""
	base, ok := m.base()
	switch name {
	case "(S\")", "(.\")":
		at := 4096
		for _, w := range m.words[:m.word] {
			at += 4 + len(w.Name) + 4*len(w.Code)
		}
		w := m.words[m.word]
		at += 4 + len(w.Name) + 4*(len(w.Code)-len(code)+2)
		if name == "(S\")" {
			m.data = append(m.data, uint32(at), code[1])
			return 0
		}
		for i := range code[1] {
			text += string([]byte{byte(code[2+i/4] >> (i % 4 * 8))})
		}
	case "EMIT":
		text = string([]byte{byte(c[0])})
	case "TYPE":
		window, _ := image.Encode(m.words)
		at, n := int64(c[0]), int64(c[1])
		switch {
		case at >= 4096 && at+n <= 4096+int64(len(window)):
			text = string(window[at-4096 : at-4096+n])
		case at >= 1<<20 && at+n <= 1<<20+int64(len(m.ram)):
			text = string(m.ram[at-1<<20 : at-1<<20+n])
		default:
			return api.ThrowMemory
		}
	case "CR":
		text = "\n"
	case "SPACE":
		text = " "
	case "SPACES":
		text = strings.Repeat(" ", min(max(int(int32(c[0])), 0), 9999))
	case ".", "U.":
		if !ok {
			return api.ThrowNumber
		}
		n := int64(c[0])
		if name == "." {
			n = int64(int32(c[0]))
		}
		text = strings.ToUpper(strconv.FormatInt(n, base)) + " "
	}
	if len(m.out)+len(text) > 4096 {
		return api.ThrowOut
	}
	m.out += text
	return 0
}

// dice gives numbers that look random, the same ones each time.
type dice uint64

func (d *dice) of(n int) int {
	*d = *d*6364136223846793005 + 1442695040888963407
	return int(uint64(*d)>>33) % n
}

func one[T any](d *dice, l []T) T {
	return l[d.of(len(l))]
}

// literal returns a cell that is of use to some primitive.
func (d *dice) literal(words int) uint32 {
	switch d.of(8) {
	case 0:
		return uint32(256 + d.of(words+1))
	case 1:
		return uint32(1024*d.of(words+1) + d.of(9))
	case 2:
		return uint32(api.RamAt + 4*d.of(33))
	case 3:
		return uint32(api.RamAt + d.of(140))
	case 4:
		return one(d, []uint32{1<<32 - 1, 1<<32 - 2, 1 << 31, 1<<31 - 1, 36, 16, 4095, 4096, 72, 1<<32 - 5})
	case 5:
		return uint32(api.WindowAt + d.of(60))
	}
	return uint32(d.of(12)) - 3
}

// fit returns instructions that give cells of the kinds that a primitive takes, as a rule.
func (d *dice) fit(p api.Prim, words int) [][]uint32 {
	var l [][]uint32
	for i := range p.Takes {
		x := d.literal(words)
		switch {
		case strings.Contains(" @ ! +! 2@ 2! ", " "+p.Name+" ") && i == p.Takes-1:
			x = uint32(api.RamAt + 4*d.of(33))
		case strings.Contains(" C@ C! COUNT ", " "+p.Name+" ") && i == p.Takes-1, p.Name == "MOVE" && i < 2, p.Name == "FILL" && i == 0, p.Name == "TYPE" && i == 0:
			x = one(d, []uint32{api.RamAt, api.WindowAt}) + uint32(d.of(90))
		case strings.Contains(" MOVE FILL TYPE PICK ROLL SPACES ALLOT ", " "+p.Name+" "), p.Name == "#" && i == 1, p.Name == "#S" && i == 1:
			x = uint32(d.of(20))
		case p.Name == "THROW" && d.of(2) == 0:
			x = 0
		case strings.Contains(" EXECUTE CATCH ", " "+p.Name+" "):
			x = uint32(256 + d.of(words))
		}
		l = append(l, []uint32{102, x})
	}
	return l
}

// instructions returns one, perhaps with others ahead of it that give what it takes; places are not told yet.
func (d *dice) instructions(all []api.Prim, i, words int) [][]uint32 {
	switch d.of(9) {
	case 0, 1:
		return [][]uint32{{102, d.literal(words)}}
	case 2:
		return [][]uint32{{uint32(256 + d.of(i+1))}}
	}
	p := one(d, all)
	if d.of(3) == 0 {
		p = one(d, all[73:])
	}
	if p.Number == 101 && d.of(3) > 0 || p.Number == 139 && i == 0 {
		p = all[0]
	}
	var l [][]uint32
	if d.of(4) > 0 {
		l = d.fit(p, words)
	}
	if p.Text {
		return append(l, append([]uint32{p.Number}, cells("some text"[d.of(9):])...))
	}
	return append(l, append([]uint32{p.Number}, make([]uint32, p.Operands)...))
}

// code returns whole code of the i-th of some words.
func (d *dice) code(all []api.Prim, l []api.Word, words int) []uint32 {
	var c []uint32
	var at []int
	add := func(in []uint32) {
		at = append(at, len(c))
		c = append(c, in...)
	}
	for range 1 + d.of(8) {
		for _, in := range d.instructions(all, len(l), words) {
			add(in)
		}
	}
	add([]uint32{101})
	for _, i := range at {
		p, _ := prim.Get(c[i])
		switch {
		case p.Jump:
			c[i+1] = uint32(one(d, at))
		case p.Number == 139:
			to := d.of(len(l))
			starts, _ := prim.Starts(l[to].Code)
			c[i+1], c[i+2] = uint32(to), uint32(one(d, starts))
		}
	}
	return c
}

// words returns words that are right.
func (d *dice) words(all []api.Prim) []api.Word {
	n := 1 + d.of(5)
	var l []api.Word
	for i := range n {
		w := api.Word{Name: "abcdefgh"[:1+d.of(8)], Flags: uint8(d.of(4)), Code: d.code(all, l, n)}
		if i == n-1 && i > 0 && d.of(2) == 0 {
			w.Code = []uint32{102, d.literal(n), 101}
			if d.of(2) == 0 {
				w.Code = []uint32{102, d.literal(n), 139, 0, 0, 101}
			}
		}
		l = append(l, w)
	}
	return l
}

// pair is a machine, and what it should be.
type pair struct {
	v *vm.Machine
	m *model
}

func (p pair) wantSame(t *testing.T, what string) {
	t.Helper()
	wantAll(t, what+": data", p.v.Data(), p.m.data)
	wantAll(t, what+": RAM", p.v.Ram(), p.m.ram)
	want(t, what+": here", p.v.Here(), p.m.here)
	want(t, what+": stopped", p.v.Stopped(), p.m.run == "stopped")
	wantWords(t, what, p.v.Words(), p.m.words)
	want(t, what+": the first wrong word", prim.Check(p.v.Words()), -1)
	if t.Failed() {
		t.Fatalf("%+v", *p.m)
	}
}

// does does something with both.
func (p pair) does(t *testing.T, d *dice, all []api.Prim) {
	t.Helper()
	v, m := p.v, p.m
	switch d.of(16) {
	case 0, 1:
		x := d.literal(len(m.words))
		if len(m.data) < m.room {
			m.data = append(m.data, x)
			want(t, "Push", v.Push(x), api.ThrowNone)
		} else {
			want(t, "Push", v.Push(x), api.ThrowOver)
		}
	case 2:
		v.Clear()
		m.data, m.picture = nil, 0
	case 3:
		want(t, "Out", v.Out(), m.out)
		m.out = ""
	case 4:
		m.fixed = d.of(5)
		v.Fix(m.fixed)
	case 5:
		p.setWords(t, d, all)
	case 6:
		m.ram[0] = one(d, []byte{10, 10, 16, 2, 2, 36, 1, 0})
		copy(m.ram[1:4], []byte{0, 0, 0})
		want(t, "Store", v.Store(api.RamAt, uint32(m.ram[0])), api.ThrowNone)
	case 7:
		m.here = uint32(api.DataAt + d.of(len(m.ram)-79))
		want(t, "SetHere", v.SetHere(m.here), api.ThrowNone)
	case 8, 9, 10:
		n := d.of(60) - 1
		wanted, wantedLeft := api.ThrowWord, n
		if m.run == "stopped" {
			wanted, wantedLeft = m.goOn(n)
		}
		throw, left := v.Resume(n)
		want(t, "Resume: throw", throw, wanted)
		want(t, "Resume: fuel", left, wantedLeft)
	default:
		word, n := d.of(len(m.words)+1)-d.of(2), d.of(150)-1
		wanted, wantedLeft := m.begin(word, n)
		throw, left := v.Run(word, n)
		want(t, "Run: throw", throw, wanted)
		want(t, "Run: fuel", left, wantedLeft)
	}
}

func (p pair) setWords(t *testing.T, d *dice, all []api.Prim) {
	t.Helper()
	l := d.words(all)
	stays := false
	switch d.of(3) {
	case 0: // one word more
		w := api.Word{Name: "more", Code: []uint32{102, p.m.here, 101}}
		l, stays = append(slices.Clone(p.m.words), w), true
	case 1:
		l, stays = p.m.words, true
	}
	want(t, "SetWords", p.v.SetWords(l), api.OK)
	p.m.words = slices.Clone(l)
	if !stays {
		p.m.over()
	}
}

// P14.1 to P14.4: machines with words that look random, of all primitives, held against the model behind each call.
func TestAsTheModel(t *testing.T) {
	clear(done)
	clear(thrown)
	all := prim.All()
	d := dice(4711)
	for range 12000 {
		room, ram := one(&d, []int{1, 2, 3, 6, 12, 30, 30}), one(&d, []int{128, 132, 160})
		v, e := vm.New(ram, room)
		want(t, "New", e, api.OK)
		m := &model{room: room, ram: make([]byte, ram), here: api.DataAt, run: "over"}
		m.ram[0] = 10
		p := pair{v, m}
		m.words = d.words(all)
		want(t, "SetWords", v.SetWords(m.words), api.OK)
		for range 25 {
			p.does(t, &d, all)
			p.wantSame(t, "then")
		}
	}
	for _, p := range all {
		if done[p.Name] < 20 && p.Name != "ABORT" {
			t.Errorf("%s was done %d times", p.Name, done[p.Name])
		}
	}
	for _, throw := range []api.Throw{api.ThrowOver, api.ThrowUnder, api.ThrowROver, api.ThrowRUnder, api.ThrowDict, api.ThrowMemory, api.ThrowDivide, api.ThrowWord, api.ThrowRead, api.ThrowAlign, api.ThrowNumber, api.ThrowPic, api.ThrowReturn, api.ThrowBody, api.ThrowOut, api.ThrowAbort} {
		if thrown[fmt.Sprint(throw)] < 20 {
			t.Errorf("%d was thrown %d times", throw, thrown[fmt.Sprint(throw)])
		}
	}
}
