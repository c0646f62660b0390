package dict_test

import (
	"fmt"
	"slices"
	"strings"
	"testing"

	"lightship/api"
	"lightship/dict"
)

// P15.1: without records there are no words, and the end is 0.
func TestNothing(t *testing.T) {
	wantWords(t, "nil", nil, nil, 0)
	for _, n := range []int{0, 1, 2, 3, 4, 5, 24, 1000, 5888} {
		wantWords(t, "nothing", ones(n), nil, 0)
	}
}

// P15.1: words in order, whatever follows, and the end behind them.
func TestWords(t *testing.T) {
	l := three()
	b := rows(l...)
	for n := range 4 {
		part := rows(l[:n]...)
		wantWords(t, "words", part, l[:n], len(part))
		for _, more := range []int{1, 2, 3, 4, 5, 100} {
			wantWords(t, "words, and nothing", append(rows(l[:n]...), ones(more)...), l[:n], len(part))
		}
	}
	wantWords(t, "words, and garbage", append(slices.Clone(b), 0, 0, 0, 0), l, len(b)+4)
	wantWords(t, "words, nothing, and a bit", append(slices.Clone(b), 255, 255, 255, 255, 255, 255, 255, 254), l, len(b)+8)
	again := append(three(), three()...)
	wantWords(t, "words of the same names", rows(again...), again, 2*len(b))
}

// P15.1: the longest word, and the shortest one.
func TestLongAndShortWords(t *testing.T) {
	code := slices.Repeat([]uint32{1}, 999)
	long := api.Word{Name: strings.Repeat("n", 31), Flags: api.FlagOnly, Code: append(code, 101)}
	l := []api.Word{named("x", 101), long, named("!", 101), long}
	b := rows(l...)
	if len(b) != 2*24+2*4048 {
		t.Errorf("%d bytes", len(b))
	}
	wantWords(t, "long and short", b, l, len(b))
	wantAsDefined(t, "long and short", b)
}

// leftOut are pieces that are no word behind the three, each a multiple of four bytes.
func leftOut() map[string][]byte {
	x := definedBytes(named("x", 101))
	torn := of(named("x", 101))
	copy(torn[20:], ones(4))
	spoilt := of(named("x", 101))
	spoilt[9] ^= 1
	m := map[string][]byte{
		"torn":               torn,
		"a wrong sum":        spoilt,
		"garbage":            {1, 2, 3, 4, 255, 255, 255, 255, 0, 255, 0, 255},
		"a head beyond":      {15, 241, 240, 14}, // of 4081 bytes
		"no payload":         definedRecord(nil),
		"other bytes":        definedRecord([]byte("other bytes")),
		"a byte less":        definedRecord(x[:len(x)-1]),
		"a byte more":        definedRecord(append(slices.Clone(x), 0)),
		"two words":          definedRecord(append(slices.Clone(x), x...)),
		"three words":        definedRecord(slices.Repeat(x, 3)),
		"a word, and a part": definedRecord(append(slices.Clone(x), x[:5]...)),
	}
	for what, w := range wrongWords() {
		m[what] = of(w)
	}
	return m
}

// wrongWords are words that are not right behind the three.
func wrongWords() map[string]api.Word {
	return map[string]api.Word{
		"no name":              named("", 101),
		"a long name":          named(strings.Repeat("x", 32), 101),
		"a blank in a name":    named("x y", 101),
		"a byte beyond":        named("x\x7f", 101),
		"flags of 4":           {Name: "x", Flags: 4, Code: []uint32{101}},
		"long code":            named("x", slices.Repeat([]uint32{101}, 1001)...),
		"no code":              named("x"),
		"no EXIT":              named("x", 1),
		"a literal at the end": named("x", 102, 101),
		"no primitive":         named("x", 74, 101),
		"a branch within":      named("x", 103, 1, 101),
		"a branch beyond":      named("x", 103, 3, 101),
		"a call of the next":   named("x", 260, 101),
		"a call of no word":    named("x", 1<<32-1, 101),
		"a (GO) to itself":     named("x", 139, 3, 0, 101),
		"a (GO) within":        named("x", 139, 0, 1, 101),
		"a (GO) beyond":        named("x", 139, 2, 4, 101),
	}
}

// P15.1: everything else is left out, wherever it stands, but the end is behind it.
func TestWhatIsLeftOut(t *testing.T) {
	l := three()
	last := named("last", 256, 257, 258, 259, 101)
	with := append(three(), last)
	for what, b := range leftOut() {
		if len(b)%4 != 0 {
			t.Fatalf("%s: %d bytes", what, len(b))
		}
		wantWords(t, what, append(rows(l...), b...), l, len(rows(l...))+len(b))
		wantWords(t, what+", and a word", slices.Concat(rows(l...), b, of(last)), with, len(rows(with...))+len(b))
		wantWords(t, what+" twice, and a word", slices.Concat(rows(l...), b, b, of(last)), with, len(rows(with...))+2*len(b))
		wantAsDefined(t, what+" first", slices.Concat(b, rows(with...)))
		wantAsDefined(t, what+" everywhere", slices.Concat(b, of(l[0]), b, b, of(l[1]), b, of(l[2]), b, of(last), b, of(last)))
	}
}

// P15.1: a right head whose record is not whole takes what is behind it, if there are as many bytes: else it is garbage.
func TestHeadsAlone(t *testing.T) {
	x := named("x", 101)
	wantWords(t, "a head of 16 bytes, and 24", append([]byte{0, 16, 255, 239}, of(x)...), nil, 28)
	wantWords(t, "a head of 17 bytes, and 24", append([]byte{0, 17, 255, 238}, of(x)...), []api.Word{x}, 28)
	wantWords(t, "a head of 16 bytes, 24, and a word", slices.Concat([]byte{0, 16, 255, 239}, ones(24), of(x)), []api.Word{x}, 52)
}

// P15.1: a word is held against those that are kept, not against those that stand ahead of it.
func TestRightBehindThoseThatAreKept(t *testing.T) {
	a, wrong, b := named("a", 102, 7, 101), named("wrong", 1), named("b", 256, 257, 101)
	wantWords(t, "a call of itself", rows(a, wrong, b), []api.Word{a, b}, len(rows(a, wrong, b)))
	next := named("next", 258, 101)
	wantWords(t, "a call of the next", rows(a, wrong, next, b), []api.Word{a, b}, len(rows(a, wrong, next, b)))
	goes := named("goes", 139, 1, 2, 101)
	wantWords(t, "a (GO) to what is left out", rows(a, wrong, goes), []api.Word{a}, len(rows(a, wrong, goes)))
	wantWords(t, "a (GO) to what moved up", rows(a, wrong, b, goes), []api.Word{a, b, goes}, len(rows(a, wrong, b, goes)))
	within := named("within", 139, 0, 1, 101)
	wantWords(t, "a (GO) within what moved up", rows(wrong, a, b, within, b), []api.Word{a, b, b}, len(rows(wrong, a, b, within, b)))
	chain := rows(wrong, named("c", 257, 101), named("d", 258, 101), named("e", 257, 101), named("f", 101), named("g", 257, 101), named("h", 258, 101))
	wantWords(t, "a chain", chain, []api.Word{named("f", 101), named("g", 257, 101), named("h", 258, 101)}, len(chain))
}

// P15.1: the end is a multiple of four, but at most the number of bytes.
func TestEnd(t *testing.T) {
	x := of(named("x", 101))
	for _, ahead := range [][]byte{nil, x, {0, 0, 0, 0}} {
		for n := 1; n <= 9; n++ {
			for i := range n {
				piece := ones(n)
				piece[i] = 0
				wanted := len(ahead) + min(i/4*4+4, n)
				if _, end := dict.Words(append(slices.Clone(ahead), piece...)); end != wanted {
					t.Errorf("%d bytes, 0 at %d, behind %d: end %d, want %d", n, i, len(ahead), end, wanted)
				}
				wantAsDefined(t, "a piece", append(slices.Clone(ahead), piece...))
			}
		}
	}
	for n := range len(x) {
		wantWords(t, "a part of a record", x[:n], nil, n)
	}
}

// P15.1: there are at most 2048 words, and those behind them are left out, right or not.
func TestMaxWords(t *testing.T) {
	var l []api.Word
	for i := range 2050 {
		l = append(l, named(fmt.Sprint("w", i), uint32(256+i), 101))
	}
	for _, n := range []int{2047, 2048, 2049, 2050} {
		b := rows(l[:n]...)
		wantWords(t, "many words", b, l[:min(n, 2048)], len(b))
		wantWords(t, "many words, and nothing", append(b, ones(40)...), l[:min(n, 2048)], len(b))
	}
	wrong := of(named("wrong", 1))
	b := slices.Concat(wrong, rows(l[:1000]...), wrong, wrong, rows(l[1000:2047]...), wrong, of(l[2048]), wrong, rows(l[2047:]...), wrong)
	wantWords(t, "many words, and wrong ones", b, l[:2048], len(b))
	b = slices.Concat(rows(l[:2047]...), of(l[2049]), wrong, of(l[2048]))
	wantWords(t, "a word less, and wrong ones", b, l[:2047], len(b))
	b = slices.Concat(rows(l[:2048]...), of(l[0]), wrong, of(l[0]))
	wantWords(t, "others that would be right behind them", b, l[:2048], len(b))
}

// P15.1: many wrong words ahead of, between, and behind right ones are gone through as fast as few.
func TestManyWrongWords(t *testing.T) {
	wrong := of(named("wrong", 102, 101))
	l := make([]api.Word, 1000)
	b := slices.Repeat(wrong, 20000)
	for i := range l {
		l[i] = named("x", uint32(256+i), 101)
		b = append(b, of(l[i])...)
		if i%4 == 0 {
			b = append(b, wrong...)
		}
	}
	wantWords(t, "many wrong words", b, l, len(b))
}

// P15.1: rows of pieces of all kinds, by the chapter's Terms.
func TestSomePieces(t *testing.T) {
	words := 0
	for seed := range 400 {
		d := dice(seed)
		var b []byte
		for i := range d.below(30) {
			switch d.below(8) {
			case 0:
				b = append(b, d.bytes(4*d.below(5))...)
			case 1:
				b = append(b, definedRecord(d.bytes(d.below(12)))...)
			case 2:
				torn := of(named("torn", d.code(i)...))
				copy(torn[4*d.below(len(torn)/4):], ones(4))
				b = append(b, torn...)
			default:
				b = append(b, of(api.Word{Name: string(rune('a' + d.below(26))), Flags: uint8(d.below(9) / 2), Code: d.code(i)})...)
			}
		}
		b = append(b, ones(d.below(9))...)
		words += wantAsDefined(t, "pieces", b[d.below(len(b)+1)/8*4:])
	}
	if words < 400 {
		t.Errorf("only %d words", words)
	}
}

// P15.1: one changed bit anywhere makes no other word.
func TestEachChangedBit(t *testing.T) {
	l := three()
	b := rows(l...)
	for i := range 8 * len(b) {
		changed := slices.Clone(b)
		changed[i/8] ^= 1 << (i % 8)
		wantAsDefined(t, "a changed bit", changed)
		got, _ := dict.Words(changed)
		for _, w := range got {
			if !slices.ContainsFunc(l, func(x api.Word) bool { return same([]api.Word{x}, []api.Word{w}) }) {
				t.Errorf("bit %d: the word %v", i, w)
			}
		}
	}
}

// R3: results are new, and share nothing with the bytes.
func TestResultsAreNew(t *testing.T) {
	b := rows(three()...)
	one, _ := dict.Words(b)
	two, _ := dict.Words(b)
	for i := range one {
		clear(one[i].Code)
	}
	clear(one)
	if !same(two, three()) {
		t.Errorf("another result was changed: %v", two)
	}
	clear(b)
	if !same(two, three()) {
		t.Errorf("a result was changed by the bytes: %v", two)
	}
	for i := range two {
		_ = append(two[i].Code, 7, 7, 7, 7)
	}
	if !same(two, three()) {
		t.Errorf("codes of one result share memory: %v", two)
	}
}
