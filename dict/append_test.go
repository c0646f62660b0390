package dict_test

import (
	"fmt"
	"slices"
	"strings"
	"testing"

	"lightship/api"
	"lightship/dict"
)

// The chapter's examples.
func TestExamples(t *testing.T) {
	f := newFlash(t, 8)
	x := named("x", 101)
	wantLoad(t, "a region without anything", f, region{256, 1024}, nil, 0)
	if n := len(definedBytes(x)); n != 9 {
		t.Errorf("the payload of x has %d bytes", n)
	}
	wantAppend(t, "first", f, region{256, 1024}, x, []api.Word{x})
	wantLoad(t, "one word", f, region{256, 1024}, []api.Word{x}, 24)
	wantNoAppend(t, "the second next word", f, region{256, 1024}, named("y", 258, 101), api.ErrWord)
	f = newFlash(t, 8)
	wantAppend(t, "first", f, region{0, 40}, x, []api.Word{x})
	wantKept(t, "no room", f, func() { wantNoAppend(t, "48 bytes", f, region{0, 40}, x, api.ErrDict) })
}

// P15.2: a word is one record at the end of the region, and nothing else is programmed.
func TestAppend(t *testing.T) {
	for _, r := range regions {
		f := newFlash(t, 8)
		wanted := ones(2048)
		var l []api.Word
		at := r.at
		for i := range 6 {
			w := three()[i%3]
			l = append(l, w)
			wantAppend(t, "next", f, r, w, l)
			at += copy(wanted[at:], of(w))
			wantBytes(t, "what was appended", contents(t, f), wanted)
			wantLoad(t, "what was appended", f, r, l, at-r.at)
		}
	}
}

// P15.2: a word is appended behind everything that stands there, also what is left out.
func TestAppendBehindAnything(t *testing.T) {
	last := named("last", 258, 259, 139, 0, 2, 101)
	with := append(three(), last)
	for what, b := range leftOut() {
		for _, ahead := range [][]byte{slices.Concat(rows(three()...), b), slices.Concat(of(three()[0]), b, rows(three()[1:]...), b, b)} {
			f := newFlash(t, 80)
			wanted := ones(80 * api.Sector)
			copy(wanted[508:], ahead)
			want(t, "Program", f.Program(508, ahead), api.OK)
			l, _ := definedWords(ahead)
			if !same(l, three()) {
				t.Fatalf("%s: it is not left out: %s", what, told(l))
			}
			wantAppend(t, what, f, region{508, 19000}, last, with)
			copy(wanted[508+len(ahead):], of(last))
			wantBytes(t, what, contents(t, f), wanted)
			wantLoad(t, what, f, region{508, 19000}, with, len(ahead)+len(of(last)))
		}
	}
}

// P15.2: ErrWord for what is not right behind the words, whether there is room or not; nothing is done.
func TestAppendOfWrongWords(t *testing.T) {
	f := laid(t, 256, rows(three()...))
	for what, w := range wrongWords() {
		wantKept(t, what, f, func() {
			wantNoAppend(t, what, f, region{256, 1024}, w, api.ErrWord)
			wantNoAppend(t, what+" without room", f, region{256, len(rows(three()...))}, w, api.ErrWord)
		})
	}
	wantKept(t, "none", f, func() { wantNoAppend(t, "none", f, region{256, 1024}, api.Word{}, api.ErrWord) })
	empty := newFlash(t, 8)
	for _, w := range []api.Word{named("x", 257, 101), named("x", 139, 0, 0, 101), named("x", 1), {Name: "x", Flags: 255, Code: []uint32{101}}} {
		wantKept(t, "first", empty, func() {
			wantNoAppend(t, "first", empty, region{256, 1024}, w, api.ErrWord)
			wantNoAppend(t, "first, without room", empty, region{256, 0}, w, api.ErrWord)
		})
	}
}

// P15.2: all that is right behind the words is appended: calls of each of them and of itself, and (GO) to each start.
func TestAppendOfRightWords(t *testing.T) {
	for _, w := range []api.Word{
		named("x", 101), named("x", 256, 101), named("x", 258, 101), named("x", 259, 101), named("x", 103, 2, 101), named("x", 102, 1<<32-1, 101),
		named("x", 139, 0, 2, 101), named("x", 139, 1, 3, 101), named("x", 139, 2, 3, 101), named("one", 101), named("~", 116, 3, 7, 101),
		{Name: "x", Flags: api.FlagNow, Code: []uint32{101}}, {Name: "x", Flags: api.FlagOnly, Code: []uint32{101}}, {Name: "x", Flags: api.FlagAll, Code: []uint32{101}},
	} {
		f := laid(t, 256, rows(three()...))
		wantAppend(t, "right", f, region{256, 1024}, w, append(three(), w))
		wantLoad(t, "right", f, region{256, 1024}, append(three(), w), len(rows(three()...))+len(of(w)))
	}
}

// P15.2: a record that just fits is written; one for which there are four bytes less is not, and nothing is done.
func TestRoom(t *testing.T) {
	for cells := 1; cells <= 9; cells++ {
		for letters := 1; letters <= 5; letters++ {
			w := named(strings.Repeat("x", letters), append(slices.Repeat([]uint32{1}, cells-1), 101)...)
			for _, ahead := range [][]byte{nil, rows(three()...), {1, 2, 3, 4}} {
				l, _ := definedWords(ahead)
				just := len(ahead) + len(of(w))
				f := laid(t, 300, ahead)
				wantKept(t, "four bytes less", f, func() { wantNoAppend(t, "four bytes less", f, region{300, just - 4}, w, api.ErrDict) })
				wantKept(t, "no bytes", f, func() { wantNoAppend(t, "no bytes", f, region{300, len(ahead)}, w, api.ErrDict) })
				wantAppend(t, "just fits", f, region{300, just}, w, append(l, w))
				wantNoAppend(t, "full", f, region{300, just}, w, api.ErrDict)
			}
		}
	}
	f := newFlash(t, 8)
	wantAppend(t, "the last bytes of the flash", f, region{2024, 24}, named("x", 101), []api.Word{named("x", 101)})
	wantNoAppend(t, "no bytes at all", f, region{2048, 0}, named("x", 101), api.ErrDict)
}

// P15.2: the longest word of all.
func TestAppendOfALongWord(t *testing.T) {
	long := named(strings.Repeat("~", 31), append(slices.Repeat([]uint32{256}, 999), 101)...)
	f := newFlash(t, 40)
	wantNoAppend(t, "four bytes less", f, region{4, 2*4048 - 4 - 4048}, long, api.ErrDict)
	wantAppend(t, "long", f, region{4, 2 * 4048}, long, []api.Word{long})
	wantAppend(t, "long", f, region{4, 2 * 4048}, long, []api.Word{long, long})
	wantNoAppend(t, "no room", f, region{4, 2 * 4048}, long, api.ErrDict)
	long.Code = append(long.Code, 101)
	wantNoAppend(t, "too long", f, region{4, 40 * 250}, long, api.ErrWord)
}

// P15.2: behind 2047 words one is appended, behind 2048 none, whether there is room or not.
func TestAppendBehindMaxWords(t *testing.T) {
	f := newFlash(t, 256)
	var l []api.Word
	for i := range 2047 {
		l = append(l, named(string(rune('a'+i%26)), 101))
	}
	want(t, "Program", f.Program(0, rows(l...)), api.OK)
	last := named("z", 256+2047, 101)
	l = append(l, last)
	all := region{0, 65536}
	wantAppend(t, "the last one", f, all, last, l)
	wantLoad(t, "2048 words", f, all, l, len(rows(l...)))
	wantKept(t, "2048 words", f, func() {
		wantNoAppend(t, "one more", f, all, named("x", 101), api.ErrWord)
		wantNoAppend(t, "one more, without room", f, region{0, len(rows(l...))}, named("x", 101), api.ErrWord)
		wantNoAppend(t, "a wrong one", f, all, named("x", 1), api.ErrWord)
	})
	want(t, "Program", f.Program(len(rows(l...)), of(last)), api.OK)
	wantLoad(t, "2049 words", f, all, l, len(rows(l...))+len(of(last)))
	wantNoAppend(t, "behind 2049 records", f, all, named("x", 101), api.ErrWord)
}

// R3: arguments are neither changed nor kept, nor is their spare capacity, and results are new.
func TestArgumentsStay(t *testing.T) {
	f := newFlash(t, 8)
	r := region{256, 1024}
	var l []api.Word
	for i := range 8 {
		spare := []uint32{102, uint32(i), 101, 77, 78, 79}
		w := api.Word{Name: fmt.Sprint("w", i), Code: spare[:3]}
		l = append(l, named(w.Name, 102, uint32(i), 101))
		got, e := dict.Append(f, r.at, r.size, w)
		want(t, "Append", e, api.OK)
		if !slices.Equal(spare, []uint32{102, uint32(i), 101, 77, 78, 79}) {
			t.Errorf("the argument was changed: %d", spare)
		}
		clear(spare)
		if !same(got, l) {
			t.Errorf("the argument was kept: %v", got)
		}
		for _, w := range got {
			_ = append(w.Code, 1, 2, 3)
		}
		if !same(got, l) {
			t.Errorf("codes share memory: %v", got)
		}
		for _, w := range got {
			clear(w.Code)
		}
		clear(got)
		wantLoad(t, "a result that was changed", f, r, l, len(rows(l...)))
	}
}

// P15.2, P15.3: rows of words of all kinds, right and wrong, until there is no room, as the chapter's Terms have it.
func TestSomeWords(t *testing.T) {
	wrong, full, right := 0, 0, 0
	for seed := range 60 {
		d := dice(seed)
		r := regions[d.below(len(regions))]
		f := newFlash(t, 8)
		for range 100 {
			before := contents(t, f)
			l, end := definedWords(before[r.at : r.at+r.size])
			w := api.Word{Name: string(rune('a' + d.below(26))), Flags: uint8(d.below(9) / 2), Code: d.code(len(l))}
			then, _ := definedWords(append(rows(l...), of(w)...))
			switch {
			case len(then) == len(l):
				wrong++
				wantNoAppend(t, "wrong", f, r, w, api.ErrWord)
			case end+len(of(w)) > r.size:
				full++
				wantNoAppend(t, "no room", f, r, w, api.ErrDict)
			default:
				right++
				wantAppend(t, "right", f, r, w, then)
				copy(before[r.at+end:], of(w))
			}
			wantBytes(t, "Append", contents(t, f), before)
			if d.below(8) == 0 && end+4 <= r.size {
				l, end = definedWords(before[r.at : r.at+r.size])
				want(t, "Program", f.Program(r.at+min(end, r.size-4), d.bytes(4)), api.OK)
			}
		}
	}
	if min(wrong, full, right) < 500 {
		t.Errorf("%d wrong words, %d without room, %d right ones", wrong, full, right)
	}
}
