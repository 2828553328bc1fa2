package class

import (
	"bytes"
	"math"
	"math/rand"
	"strings"
	"testing"
	"unicode/utf8"
)

// P8.1, P8.2
func TestExamplesOfTheDocument(t *testing.T) {
	if !Punct('«') {
		t.Error("Punct of «")
	}
	if !Blank(0x2003) {
		t.Error("Blank of 2003")
	}
	if got := Last("aé"); got != 'é' {
		t.Errorf("Last of aé: %x", got)
	}
}

// P8.1
func TestEachRuneAgainstTheLists(t *testing.T) {
	blank, punct := mark(t, blanks), mark(t, puncts)
	for r := rune(0); r < above; r++ {
		if got := Blank(r); got != blank[r] {
			t.Errorf("Blank of %x: %v", r, got)
		}
		if got := Punct(r); got != punct[r] {
			t.Errorf("Punct of %x: %v", r, got)
		}
	}
}

// P8.1
func TestNumbersThatAreNoRunes(t *testing.T) {
	neither := func(r rune) {
		if Blank(r) || Punct(r) {
			t.Errorf("%d", r)
		}
	}
	for n := rune(0); n < above; n++ {
		neither(-1 - n)
		neither(above + n)
		neither(math.MinInt32 + n)
		neither(math.MaxInt32 - n)
	}
}

// P8.1
func TestEndsOfEachRange(t *testing.T) {
	for _, x := range []struct {
		name string
		list string
		call func(rune) bool
	}{
		{"Blank", blanks, Blank},
		{"Punct", puncts, Punct},
		{"Sign", signs, func(r rune) bool { return Sign(byte(r)) }},
	} {
		listed := mark(t, x.list)
		for _, ends := range read(t, x.list) {
			if !x.call(ends[0]) || !x.call(ends[1]) {
				t.Errorf("%s: an end of %x is none", x.name, ends)
			}
			// One range may stand right behind another.
			if x.call(ends[0]-1) != listed[ends[0]-1] || x.call(ends[1]+1) != listed[ends[1]+1] {
				t.Errorf("%s: beside %x", x.name, ends)
			}
		}
	}
}

// P8.1
func TestEachByte(t *testing.T) {
	sign, n := mark(t, signs), 0
	for c := range 256 {
		got := Sign(byte(c))
		if got != sign[c] {
			t.Errorf("Sign of %x: %v", c, got)
		}
		if got && !Punct(rune(c)) {
			t.Errorf("%x is a Sign, and no Punct", c)
		}
		if got {
			n++
		}
	}
	if n != 32 || strings.ContainsFunc("!\"#$%&'()*+,-./:;<=>?@[\\]^_`{|}~", func(r rune) bool { return !Sign(byte(r)) }) {
		t.Errorf("%d signs", n)
	}
}

// ask holds First and Last of a text against what is wanted.
func ask(t *testing.T, s string, first, last rune) {
	t.Helper()
	if got := First(s); got != first {
		t.Errorf("First of % x: %x, want %x", s, got, first)
	}
	if got := Last(s); got != last {
		t.Errorf("Last of % x: %x, want %x", s, got, last)
	}
}

// askTold holds them against a range over the text.
func askTold(t *testing.T, s string) {
	t.Helper()
	first, last := told(s)
	ask(t, s, first, last)
}

// P8.2
func TestFirstAndLast(t *testing.T) {
	for _, x := range []struct {
		name        string
		s           string
		first, last rune
	}{
		{"no rune", "", 0xa, 0xa},
		{"one byte", "a", 'a', 'a'},
		{"one byte, the last", "\x7f", 0x7f, 0x7f},
		{"two bytes, the first", "\u0080", 0x80, 0x80},
		{"two bytes, the last", "\u07ff", 0x7ff, 0x7ff},
		{"three bytes, the first", "\u0800", 0x800, 0x800},
		{"three bytes, the last", "\uffff", 0xffff, 0xffff},
		{"four bytes, the first", "\U00010000", 0x10000, 0x10000},
		{"four bytes, the last", "\U0010ffff", 0x10ffff, 0x10ffff},
		{"a line's end", "\n", 0xa, 0xa},
		{"ends of lines", "\r\n", 0xd, 0xa},
		{"the rune 0", "\x00", 0, 0},
		{"the rune 0 at the beginning", "\x00a", 0, 'a'},
		{"the rune 0 at the end", "a\x00", 'a', 0},
		{"U+FFFD itself", "\ufffda\ufffd", 0xfffd, 0xfffd},
		{"a mark of the order of bytes", "\ufeffa", 0xfeff, 'a'},
		{"one and two bytes", "aé", 'a', 'é'},
		{"two bytes and one", "«b", '«', 'b'},
		{"three and four bytes", "\u20ac\U0001f600", 0x20ac, 0x1f600},
		{"four and three bytes", "\U0001f600\u20ac", 0x1f600, 0x20ac},
		{"four bytes twice", "\U0001f600\U0001f601", 0x1f600, 0x1f601},
		{"several", "a few \u20ac, \u00e9 \U0001f600 words", 'a', 's'},
		{"no part of a rune", "\xff", 0xfffd, 0xfffd},
		{"two of them", "\xff\xfe", 0xfffd, 0xfffd},
		{"at the beginning", "\xffab", 0xfffd, 'b'},
		{"at the end", "ab\x80", 'a', 0xfffd},
		{"behind two bytes", "\u00e9\x80", 0xe9, 0xfffd},
		{"behind three bytes", "\u20ac\x80", 0x20ac, 0xfffd},
		{"behind four bytes", "\U0001f600\x80", 0x1f600, 0xfffd},
		{"ahead of four bytes", "\xf0\U0001f600", 0xfffd, 0x1f600},
		{"more bytes than any rune has", "\xf0\x80\x80\x80\x80\x80\x80", 0xfffd, 0xfffd},
		{"a space in two bytes", "\xc0\xa0", 0xfffd, 0xfffd},
		{"the rune 0 in two bytes", "\xc0\x80", 0xfffd, 0xfffd},
		{"7f in two bytes", "\xc1\xbf", 0xfffd, 0xfffd},
		{"a letter in three bytes", "\xe0\x81\xa1", 0xfffd, 0xfffd},
		{"7ff in three bytes", "\xe0\x9f\xbf", 0xfffd, 0xfffd},
		{"the rune 0 in four bytes", "\xf0\x80\x80\x80", 0xfffd, 0xfffd},
		{"ffff in four bytes", "\xf0\x8f\xbf\xbf", 0xfffd, 0xfffd},
		{"five bytes", "\xf8\x88\x80\x80\x80", 0xfffd, 0xfffd},
		{"six bytes", "\xfc\x84\x80\x80\x80\x80", 0xfffd, 0xfffd},
		{"too long between letters", "a\xe0\x81\xa1b", 'a', 'b'},
		{"the first part of a pair", "\xed\xa0\x80", 0xfffd, 0xfffd},
		{"the last part of a pair", "\xed\xbf\xbf", 0xfffd, 0xfffd},
		{"a whole pair", "\xed\xa0\xbd\xed\xb8\x80", 0xfffd, 0xfffd},
		{"parts of a pair around a letter", "\xed\xa0\xbda\xed\xb8\x80", 0xfffd, 0xfffd},
		{"parts of a pair within letters", "a\xed\xa0\xbd\xed\xb8\x80b", 'a', 'b'},
		{"ahead of the pairs, and behind", "\ud7ff\ue000", 0xd7ff, 0xe000},
		{"just above 10ffff", "\xf4\x90\x80\x80", 0xfffd, 0xfffd},
	} {
		t.Run(x.name, func(t *testing.T) {
			ask(t, x.s, x.first, x.last)
			askTold(t, x.s)
		})
	}
}

// P8.2
func TestRunesThatAreCutOff(t *testing.T) {
	for _, v := range []rune{0x80, 0xe9, 0x7ff, 0x800, 0x20ac, 0xd7ff, 0xe000, 0xfffd, 0xffff, 0x10000, 0x1f600, 0x10ffff} {
		whole := string(v)
		for cut := 1; cut < len(whole); cut++ {
			for _, part := range []string{whole[:cut], whole[cut:]} {
				ask(t, part, 0xfffd, 0xfffd)
				ask(t, part+"a", 0xfffd, 'a')
				ask(t, "a"+part, 'a', 0xfffd)
				ask(t, whole[:cut]+whole, 0xfffd, v)
				ask(t, whole+whole[cut:], v, 0xfffd)
				ask(t, part+"text\u20ac"+part, 0xfffd, 0xfffd)
				ask(t, "\u20ac"+part+"\u00e9", 0x20ac, 0xe9)
			}
		}
	}
}

// P8.2
func TestEachRuneIsFirstAndLast(t *testing.T) {
	for r := rune(0); r < above; r++ {
		s := string(r)
		want, _ := utf8.DecodeRuneInString(s)
		if First(s) != want || Last(s) != want || First(s+"\u20ac\xff") != want || Last("\xf4\u20ac"+s) != want {
			t.Fatalf("%x", r)
		}
	}
}

// P8.2
func TestAnyTwoBytes(t *testing.T) {
	for a := range 256 {
		askTold(t, string([]byte{byte(a)}))
		for b := range 256 {
			two := string([]byte{byte(a), byte(b)})
			askTold(t, two)
			askTold(t, two+"\x80")
			askTold(t, two+"\x80\x80")
			askTold(t, "\U0001f600"+two+"\u20ac")
		}
	}
}

// P8.2
func TestFourBytesOfTheEnds(t *testing.T) {
	b := make([]byte, 4)
	for n := range len(ends) * len(ends) * len(ends) * len(ends) {
		for i := range b {
			b[i] = ends[n%len(ends)]
			n /= len(ends)
		}
		askTold(t, string(b))
		askTold(t, "\xf1"+string(b))
		askTold(t, string(b)+"\x80")
	}
}

// P8.2
func TestDrawnBytes(t *testing.T) {
	r := rand.New(rand.NewSource(8))
	for range 200000 {
		s := draw(r)
		askTold(t, s)
		if s == "" {
			continue
		}
		first, _ := utf8.DecodeRuneInString(s)
		last, _ := utf8.DecodeLastRuneInString(s)
		ask(t, s, first, last)
	}
}

// P8.2
func TestLongTexts(t *testing.T) {
	const many = 1 << 20
	for _, piece := range []string{"a", "\u00e9", "\u20ac", "\U0001f600", "\x80", "\xf0", "\xf0\x9f\x98", "\x00"} {
		long := strings.Repeat(piece, many)
		askTold(t, long)
		askTold(t, long+"\U0001f600")
		askTold(t, "\u20ac"+long+"\x80")
	}
}

// P8.3
func TestNoRuneIsBoth(t *testing.T) {
	for r := rune(-above); r < 2*above; r++ {
		if Blank(r) && Punct(r) {
			t.Errorf("%x", r)
		}
	}
}

// P8.3
func TestKindsHangOnTheRuneAlone(t *testing.T) {
	r := rand.New(rand.NewSource(9))
	blank, punct, sign := mark(t, blanks), mark(t, puncts), mark(t, signs)
	for range 200000 {
		v, other := rune(r.Intn(0x3100)), rune(r.Intn(0x3100))
		for range 2 {
			if Blank(v) != blank[v] || Punct(v) != punct[v] || Sign(byte(v)) != sign[byte(v)] {
				t.Fatalf("%x", v)
			}
			Blank(other)
			Punct(other)
			Sign(byte(other))
		}
	}
}

// P8.3
func TestEndsHangOnTheTextAlone(t *testing.T) {
	r := rand.New(rand.NewSource(10))
	for range 20000 {
		s, other := draw(r), draw(r)
		first, last := told(s)
		for range 2 {
			ask(t, strings.Clone(s), first, last)
			First(other)
			Last(other)
		}
		// What stands around a text is no part of it.
		around := string(bytes.Join([][]byte{[]byte("\xf0"), []byte(s), []byte("\x80")}, nil))
		ask(t, around[1:len(around)-1], first, last)
	}
}
