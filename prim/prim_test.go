package prim_test

import (
	"math"
	"slices"
	"strconv"
	"strings"
	"testing"

	"lightship/api"
	"lightship/prim"
)

// written is the chapter's table of all primitives: number, name, takes, gives, operands (if there are any).
const written = `
1 DUP 1 2; 2 DROP 1 0; 3 SWAP 2 2; 4 OVER 2 3; 5 ROT 3 3; 6 ?DUP 1 1
7 NIP 2 1; 8 TUCK 2 3; 9 2DUP 2 4; 10 2DROP 2 0; 11 2SWAP 4 4; 12 2OVER 4 6
13 DEPTH 0 1; 14 PICK 1 1; 15 ROLL 1 0; 16 + 2 1; 17 - 2 1; 18 * 2 1
19 / 2 1; 20 MOD 2 1; 21 /MOD 2 2; 22 */ 3 1; 23 */MOD 3 2; 24 NEGATE 1 1
25 ABS 1 1; 26 MIN 2 1; 27 MAX 2 1; 28 1+ 1 1; 29 1- 1 1; 30 2* 1 1
31 2/ 1 1; 32 UM* 2 2; 33 M* 2 2; 34 UM/MOD 3 2; 35 FM/MOD 3 2; 36 SM/REM 3 2
37 S>D 1 2; 38 D+ 4 2; 39 DNEGATE 2 2; 40 AND 2 1; 41 OR 2 1; 42 XOR 2 1
43 INVERT 1 1; 44 LSHIFT 2 1; 45 RSHIFT 2 1; 46 = 2 1; 47 <> 2 1; 48 < 2 1
49 > 2 1; 50 U< 2 1; 51 U> 2 1; 52 0= 1 1; 53 0< 1 1; 54 0> 1 1
55 WITHIN 3 1; 56 @ 1 1; 57 ! 2 0; 58 C@ 1 1; 59 C! 2 0; 60 +! 2 0
61 2@ 1 2; 62 2! 3 0; 63 MOVE 3 0; 64 FILL 3 0; 65 CELL+ 1 1; 66 CELLS 1 1
67 CHAR+ 1 1; 68 CHARS 1 1; 69 ALIGNED 1 1; 70 COUNT 1 2; 71 >R 1 0; 72 R> 0 1
73 R@ 0 1; 101 EXIT 0 0; 102 (LIT) 0 1 1; 103 (BRANCH) 0 0 1 place; 104 (0BRANCH) 1 0 1 place; 105 (DO) 2 0
106 (?DO) 2 0 1 place; 107 (LOOP) 0 0 1 place; 108 (+LOOP) 1 0 1 place; 109 I 0 1; 110 J 0 1; 111 UNLOOP 0 0
112 EXECUTE 1 0; 113 CATCH 1 1; 114 THROW 1 0; 115 (S") 0 2 text; 116 (.") 0 0 text; 117 EMIT 1 0
118 TYPE 2 0; 119 CR 0 0; 120 SPACE 0 0; 121 SPACES 1 0; 122 HERE 0 1; 123 ALLOT 1 0
124 , 1 0; 125 C, 1 0; 126 ALIGN 0 0; 127 BASE 0 1; 128 STATE 0 1; 129 <# 0 0
130 # 2 2; 131 #S 2 2; 132 #> 2 2; 133 HOLD 1 0; 134 SIGN 1 0; 135 . 1 0
136 U. 1 0; 137 ABORT 0 0; 138 (DOES) 0 0 1 place; 139 (GO) 0 0 2; 140 CREATE 0 0
`

// defined are the primitives of the chapter's table.
func defined() []api.Prim {
	var l []api.Prim
	for row := range strings.FieldsFuncSeq(written, func(r rune) bool { return r == ';' || r == '\n' }) {
		f := strings.Fields(row)
		p := api.Prim{Number: uint32(number(f[0])), Name: f[1], Takes: number(f[2]), Gives: number(f[3])}
		switch strings.Join(f[4:], " ") {
		case "":
		case "1":
			p.Operands = 1
		case "2":
			p.Operands = 2
		case "1 place":
			p.Operands, p.Jump = 1, true
		case "text":
			p.Operands, p.Text = 1, true
		default:
			panic(row)
		}
		l = append(l, p)
	}
	return l
}

func number(s string) int {
	n, err := strconv.Atoi(s)
	if err != nil {
		panic(err)
	}
	return n
}

func want[T comparable](t *testing.T, what string, got, wanted T) {
	t.Helper()
	if got != wanted {
		t.Errorf("%s: %v, want %v", what, got, wanted)
	}
}

func wantAll[T comparable](t *testing.T, what string, got, wanted []T) {
	t.Helper()
	if !slices.Equal(got, wanted) {
		t.Errorf("%s: %v, want %v", what, got, wanted)
	}
}

// wantPrim fails unless Get and Named tell this one, by its number and by all ways to write its name.
func wantPrim(t *testing.T, wanted api.Prim) {
	t.Helper()
	p, ok := prim.Get(wanted.Number)
	want(t, "Get of "+wanted.Name, p, wanted)
	want(t, "Get of "+wanted.Name, ok, true)
	name := []byte(wanted.Name)
	for i := range name {
		name[i] = strings.ToLower(wanted.Name)[i]
		wantNamed(t, string(name), wanted)
		wantNamed(t, strings.ToLower(string(name[:i]))+wanted.Name[i:], wanted)
	}
	wantNamed(t, wanted.Name, wanted)
	wantNamed(t, strings.ToLower(wanted.Name), wanted)
	wantNamed(t, strings.ToLower(wanted.Name[:1])+wanted.Name[1:], wanted)
	wantNamed(t, wanted.Name[:1]+strings.ToLower(wanted.Name[1:]), wanted)
}

func wantNamed(t *testing.T, name string, wanted api.Prim) {
	t.Helper()
	p, ok := prim.Named(name)
	want(t, "Named of "+name, p, wanted)
	want(t, "Named of "+name, ok, true)
}

// The chapter's examples.
func TestExamples(t *testing.T) {
	dup := api.Prim{Number: 1, Name: "DUP", Takes: 1, Gives: 2}
	p, ok := prim.Get(1)
	want(t, "Get of 1", p, dup)
	want(t, "Get of 1", ok, true)
	wantNamed(t, "dup", dup)
	wantNoNumber(t, 74)
	wantWhole(t, []uint32{102, 7, 1, 18, 101}, 0, 2, 3, 4)
	want(t, "Long of 102 at its end", prim.Long([]uint32{102}, 0), 0)
	want(t, "a branch to 2", prim.Check([]api.Word{{Name: "x", Code: []uint32{103, 2, 101}}}), -1)
	want(t, "a branch to 1", prim.Check([]api.Word{{Name: "x", Code: []uint32{103, 1, 101}}}), 0)
	want(t, "a call of itself", prim.Check([]api.Word{{Name: "x", Code: []uint32{256, 101}}}), -1)
	want(t, "a call of a later word", prim.Check([]api.Word{{Name: "x", Code: []uint32{257, 101}}}), 0)
}

// P11.1: all primitives, each with what the chapter's table tells of it.
func TestAll(t *testing.T) {
	l := defined()
	want(t, "rows of the table", len(l), 113)
	wantAll(t, "All", prim.All(), l)
	for _, p := range l {
		wantPrim(t, p)
	}
}

// P11.1: those with operands, one by one: places and texts are told from other cells.
func TestOperands(t *testing.T) {
	jumps := []string{"(BRANCH)", "(0BRANCH)", "(?DO)", "(LOOP)", "(+LOOP)", "(DOES)"}
	texts := []string{"(S\")", "(.\")"}
	operands := map[string]int{"(LIT)": 1, "(GO)": 2}
	for _, name := range slices.Concat(jumps, texts) {
		operands[name] = 1
	}
	for _, p := range prim.All() {
		want(t, p.Name+": operands", p.Operands, operands[p.Name])
		want(t, p.Name+": a place", p.Jump, slices.Contains(jumps, p.Name))
		want(t, p.Name+": a text", p.Text, slices.Contains(texts, p.Name))
	}
}

// P11.1: numbers rise, from 1 to 73 and from 101 to 140, all of them below those of calls.
func TestNumbers(t *testing.T) {
	var l []uint32
	for n := uint32(1); n <= 140; n++ {
		if n <= 73 || n >= 101 {
			l = append(l, n)
		}
	}
	for i, p := range prim.All() {
		want(t, "number of "+p.Name, p.Number, l[i])
		want(t, p.Name+" is no call", p.Number < api.FirstCall, true)
	}
}

// P11.4: different primitives have different numbers and names, also where capitals are as small letters.
func TestAllDiffer(t *testing.T) {
	numbers, names := map[uint32]int{}, map[string]int{}
	for _, p := range prim.All() {
		numbers[p.Number]++
		names[strings.ToLower(p.Name)]++
	}
	want(t, "numbers", len(numbers), 113)
	want(t, "names", len(names), 113)
}

// P11.1 (R3): who asked for the list may change it: neither what is asked for again does, nor what others have.
func TestAllHasMemoryOfItsOwn(t *testing.T) {
	l, other := prim.All(), prim.All()
	for i := range l {
		l[i] = api.Prim{Number: 7, Name: "X", Takes: 9, Gives: 9, Operands: 9, Text: true, Jump: true}
	}
	_ = append(l[:50], api.Prim{})
	wantAll(t, "the other one", other, defined())
	wantAll(t, "asked for again", prim.All(), defined())
	for _, p := range defined() {
		wantPrim(t, p)
	}
	want(t, "Long of a literal", prim.Long([]uint32{102, 5}, 0), 2)
}

func wantNoNumber(t *testing.T, n uint32) {
	t.Helper()
	p, ok := prim.Get(n)
	if ok || p != (api.Prim{}) {
		t.Errorf("Get of %d: %v %v, want none", n, p, ok)
	}
}

// P11.1 (R2): numbers that no primitive has: around both rows, from calls on, and those whose lowest byte is a primitive's.
func TestNoNumber(t *testing.T) {
	for n := range uint32(70000) {
		if n == 0 || 74 <= n && n <= 100 || n > 140 {
			wantNoNumber(t, n)
		}
	}
	for i := range 32 {
		for _, d := range []uint32{0, 1, 101, math.MaxUint32} {
			if n := uint32(1)<<i + d; n > 140 {
				wantNoNumber(t, n)
			}
		}
	}
	wantNoNumber(t, math.MaxUint32)
}

// P11.1 (R2): names that no primitive has: nearly one's, none at all, numbers, and other bytes.
func TestNoName(t *testing.T) {
	names := []string{"", " ", "x", "(", ")", "1", "0", "74", "2", "(JUMP)", "(.)", "LIT", "GO", "(S)", "S\"", ".\"", "IF", ":", ";", "K", "DUPE", "DU", "\x00", "D\xdap", "du\u00b5", "\u0131", "\u212a", "{lit)", "`", "\x1a"}
	for _, p := range defined() {
		names = append(names, p.Name+" ", " "+p.Name, p.Name+"\x00", p.Name+p.Name, p.Name+"x", "("+p.Name, strings.Repeat(p.Name, 1000))
	}
	for _, name := range names {
		p, ok := prim.Named(name)
		if ok || p != (api.Prim{}) {
			t.Errorf("Named of %q: %v %v, want none", name, p, ok)
		}
	}
}
