package image_test

import (
	"slices"
	"strings"
	"testing"

	"lightship/api"
	"lightship/image"
)

const (
	capitals = "ABCDEFGHIJKLMNOPQRSTUVWXYZ"
	smalls   = "abcdefghijklmnopqrstuvwxyz"
)

// alike is whether two bytes are, by the chapter's Terms.
func alike(a, b byte) bool {
	c, s := strings.IndexByte(capitals, a), strings.IndexByte(smalls, b)
	d, r := strings.IndexByte(capitals, b), strings.IndexByte(smalls, a)
	return a == b || c >= 0 && c == s || d >= 0 && d == r
}

// P10.2: all pairs of bytes, alone, and at all places of a name.
func TestAlikeBytes(t *testing.T) {
	for a := range 256 {
		for b := range 256 {
			one, two := string([]byte{byte(a)}), string([]byte{byte(b)})
			wanted := alike(byte(a), byte(b))
			if image.Alike(one, two) != wanted || image.Alike("aB"+one, "Ab"+two) != wanted || image.Alike(one+"zZ", two+"ZZ") != wanted || image.Alike("x"+one+"y", "X"+two+"y") != wanted {
				t.Errorf("Alike of bytes %d and %d: want %v", a, b, wanted)
			}
		}
	}
}

// P10.2: names that are alike, and those that nearly are, either way round.
func TestAlike(t *testing.T) {
	for _, k := range []struct {
		a, b   string
		wanted bool
	}{
		{"", "", true}, {"", "a", false}, {"", "\x00", false}, {"dup", "DUP", true}, {"DuP", "dUp", true}, {"dup", "dup", true}, {"dup", "du", false}, {"dup", "dupe", false}, {"dup", "dup ", false},
		{"dup", "dub", false}, {"2dup", "2DUP", true}, {"2dup", "1dup", false}, {"[", "{", false}, {"@", "`", false}, {"]", "}", false}, {"^", "~", false}, {"_", "\x7f", false}, {"\\", "|", false}, {"!", "\x01", false},
		{"azAZ", "AZaz", true}, {"a", "b", false}, {"A", "B", false}, {"a", "B", false}, {"z", "A", false}, {"1", "\x11", false}, {"ab", "ba", false},
		{"é", "É", false}, {"é", "é", true}, {"k", "\u212a", false}, {"s", "\u017f", false}, {"\xe9", "\xc9", false}, {"\xff", "\xff", true}, {"\xff", "\xfe", false},
		{capitals, smalls, true}, {capitals + "[", smalls + "{", false}, {"@" + capitals, "`" + smalls, false},
		{strings.Repeat("x", 70000), strings.Repeat("X", 70000), true}, {strings.Repeat("x", 70000) + "y", strings.Repeat("X", 70000) + "z", false},
	} {
		if image.Alike(k.a, k.b) != k.wanted || image.Alike(k.b, k.a) != k.wanted || !image.Alike(k.a, k.a) || !image.Alike(k.b, k.b) {
			t.Errorf("Alike of %.40q and %.40q: %v and %v, want %v", k.a, k.b, image.Alike(k.a, k.b), image.Alike(k.b, k.a), k.wanted)
		}
	}
}

// named are words with these names.
func named(names ...string) []api.Word {
	l := make([]api.Word, len(names))
	for i, name := range names {
		l[i] = api.Word{Name: name, Code: codeOf(i % 5)}
	}
	return l
}

// P10.2: the last one of several, the first word, the last word, and none.
func TestFind(t *testing.T) {
	l := named("DUP", "swap", "Dup", "[", "SWAP2", "{", "a", "B", "`", "@", "b", "last")
	for name, wanted := range map[string]int{
		"dup": 2, "DUP": 2, "dUp": 2, "swap": 1, "SWAP": 1, "Swap2": 4, "[": 3, "{": 5, "a": 6, "A": 6, "b": 10, "B": 10, "`": 8, "@": 9, "LAST": 11,
		"": -1, "du": -1, "dup ": -1, "x": -1, "swap3": -1, "]": -1, "\x00": -1, "dup\x00": -1, "last but one": -1,
	} {
		want(t, "Find of "+name, image.Find(l, name), wanted)
	}
	want(t, "Find among no words", image.Find(nil, "dup"), -1)
	want(t, "Find of nothing among no words", image.Find([]api.Word{}, ""), -1)
}

// P10.2: words of one name only: the last one, whatever its letters are.
func TestFindTheLast(t *testing.T) {
	l := named(slices.Repeat([]string{"dup", "DUP", "dUp", "Dup"}, 500)...)
	for n := range len(l) + 1 {
		want(t, "Find among those of one name", image.Find(l[:n], "duP"), n-1)
		want(t, "Find of another one", image.Find(l[:n], "dut"), -1)
	}
}

// P10.2: each word alone among many others, from the first one to the last one.
func TestFindEach(t *testing.T) {
	for i := range 300 {
		l := named(slices.Repeat([]string{"other"}, 300)...)
		l[i].Name = "This"
		want(t, "Find", image.Find(l, "tHIS"), i)
	}
}

// P10.2: whether words are right does not count, nor do their flags and code.
func TestFindWrongWords(t *testing.T) {
	long := strings.Repeat("Long ", 100)
	l := []api.Word{{Name: "x", Flags: 255}, {}, {Name: long, Code: make([]uint32, 2000)}, {Name: "\xff\x00"}}
	want(t, "Find of x", image.Find(l, "X"), 0)
	want(t, "Find of nothing", image.Find(l, ""), 1)
	want(t, "Find of a long name", image.Find(l, strings.ToUpper(long)), 2)
	want(t, "Find of other bytes", image.Find(l, "\xff\x00"), 3)
}

// P10.2 (R3, R4): words stay as they are, and what was found once does not count.
func TestFindAgain(t *testing.T) {
	l := named("a", "b", "A", "c")
	before := copied(l)
	want(t, "Find", image.Find(l, "a"), 2)
	want(t, "Find again", image.Find(l, "a"), 2)
	wantWords(t, "found", l, before)
	l[2].Name = "d"
	want(t, "Find with another name", image.Find(l, "a"), 0)
	l[0].Name = "d"
	want(t, "Find with no such name", image.Find(l, "a"), -1)
}
