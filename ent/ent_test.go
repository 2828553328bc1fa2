package ent

import (
	"fmt"
	"math/rand"
	"strconv"
	"strings"
	"testing"
	"unicode/utf8"
	"unsafe"
)

// askAt holds At of a text against what is wanted, and against the second reader.
func askAt(t *testing.T, s, want string, n int) {
	t.Helper()
	if got, m := At(s); got != want || m != n {
		t.Errorf("At of %q: %q, %d; want %q, %d", s, got, m, want, n)
	}
	if got, m := modelAt(s); got != want || m != n {
		t.Errorf("the second reader's At of %q: %q, %d; want %q, %d", s, got, m, want, n)
	}
}

func askNone(t *testing.T, s string) {
	t.Helper()
	askAt(t, s, "", 0)
}

// same holds one of the calls on a text against what is wanted.
func same(t *testing.T, name string, call func(string) string, s, want string) {
	t.Helper()
	if got := call(s); got != want {
		t.Errorf("%s of %q: %q, want %q", name, s, got, want)
	}
}

// byModel holds all calls on a text against the second reader.
func byModel(t *testing.T, s string) {
	t.Helper()
	want, n := modelAt(s)
	askAt(t, s, want, n)
	for _, x := range calls {
		same(t, x.name, x.call, s, x.model(s))
	}
}

var calls = []struct {
	name        string
	call, model func(string) string
}{
	{"Unescape", Unescape, modelUnescape},
	{"URI", URI, modelURI},
	{"Spell", Spell, modelSpell},
	{"HTML", HTML, modelHTML},
}

// behind is what may stand behind a whole thing and changes nothing of it.
var behind = []string{"", ";", "x", "&", "&amp;", "0;", "\x00", "\xff", "\u20ac", strings.Repeat("a", 40)}

// P9.1
func TestEachName(t *testing.T) {
	for _, x := range names {
		for _, more := range behind {
			askAt(t, x[0]+more, x[1], len(x[0]))
		}
		for cut := range len(x[0]) {
			askNone(t, x[0][:cut])
			askNone(t, x[0][:cut]+" "+x[0][cut:])
			askNone(t, x[0][:cut]+"\x00"+x[0][cut:])
		}
		for i := 1; i < len(x[0])-1; i++ {
			askNone(t, x[0][:i]+strings.ToUpper(x[0][i:i+1])+x[0][i+1:])
			askNone(t, x[0][:i]+x[0][i+1:])
			askNone(t, x[0][:i+1]+x[0][i:])
		}
		askNone(t, strings.ToUpper(x[0]))
		askNone(t, strings.TrimSuffix(x[0], ";")+" ;")
		askNone(t, strings.TrimSuffix(x[0], ";")+":")
		askNone(t, x[0][1:])
		askNone(t, " "+x[0])
		askNone(t, "&"+x[0])
		askNone(t, "\\"+x[0])
	}
}

// P9.1
func TestNumbersOfEachLength(t *testing.T) {
	for _, x := range []struct {
		ahead  string
		digits []string
		base   int
		most   int
	}{
		{"&#", []string{"0", "1", "7", "9"}, 10, 7},
		{"&#x", []string{"0", "1", "9", "a", "f", "A", "F"}, 16, 6},
		{"&#X", []string{"0", "1", "9", "a", "f", "A", "F"}, 16, 6},
	} {
		askNone(t, x.ahead)
		askNone(t, x.ahead+";")
		for _, d := range x.digits {
			for n := 1; n <= x.most+3; n++ {
				v, err := strconv.ParseInt(strings.Repeat(d, n), x.base, 64)
				if err != nil {
					t.Fatal(err)
				}
				s := x.ahead + strings.Repeat(d, n)
				askNone(t, s)
				if n > x.most {
					askNone(t, s+";")
					continue
				}
				for _, more := range behind {
					askAt(t, s+";"+more, modelRune(v), len(s)+1)
				}
				askNone(t, s+" ;")
				askNone(t, s+":")
			}
		}
	}
}

// P9.1
func TestNoughtsAhead(t *testing.T) {
	for _, v := range []int{0, 1, 9, 0x21, 'A', 0x7f, 0xe9, 0x20ac, 0x1f600} {
		for n := 1; n <= 9; n++ {
			for _, x := range []struct {
				s    string
				most int
			}{
				{fmt.Sprintf("%0*d", n, v), 7},
				{fmt.Sprintf("x%0*x", n, v), 7},
				{fmt.Sprintf("X%0*X", n, v), 7},
			} {
				whole := "&#" + x.s + ";"
				if len(x.s) > x.most {
					askNone(t, whole)
				} else {
					askAt(t, whole, modelRune(int64(v)), len(whole))
				}
			}
		}
	}
}

// P9.1
func TestNumbersAtTheEdges(t *testing.T) {
	for _, x := range []struct {
		v    int
		want string
	}{
		{0, "\ufffd"}, {1, "\x01"}, {0x7f, "\x7f"}, {0x80, "\u0080"}, {0x7ff, "\u07ff"}, {0x800, "\u0800"},
		{0xd7ff, "\ud7ff"}, {0xd800, "\ufffd"}, {0xdbff, "\ufffd"}, {0xdc00, "\ufffd"}, {0xdfff, "\ufffd"}, {0xe000, "\ue000"},
		{0xfffd, "\ufffd"}, {0xffff, "\uffff"}, {0x10000, "\U00010000"}, {0x10ffff, "\U0010ffff"}, {0x110000, "\ufffd"},
		{9999999, "\ufffd"}, {0xffffff, "\ufffd"},
	} {
		for _, form := range []string{"&#%d;", "&#x%x;", "&#x%X;", "&#X%x;", "&#X%X;"} {
			s := fmt.Sprintf(form, x.v)
			if x.v == 0xffffff && form == "&#%d;" {
				askNone(t, s)
			} else {
				askAt(t, s, x.want, len(s))
			}
		}
	}
}

// P9.1
func TestSignsThatAreNoDigits(t *testing.T) {
	for c := range 256 {
		sign := string([]byte{byte(c)})
		if !strings.Contains("0123456789", sign) {
			for _, s := range []string{sign + "12", "1" + sign + "2", "12" + sign} {
				// An x ahead makes the digits hexadecimal ones, and the last sign may come early.
				if sign != ";" && !strings.HasPrefix(strings.ToLower(s), "x") {
					askNone(t, "&#"+s+";")
				}
			}
		}
		if !strings.Contains("0123456789abcdefABCDEF", sign) && sign != ";" {
			for _, s := range []string{sign + "a2", "a" + sign + "2", "a2" + sign} {
				askNone(t, "&#x"+s+";")
				askNone(t, "&#X"+s+";")
			}
		}
		if sign != "#" {
			byModel(t, "&"+sign+"12;")
			byModel(t, "&"+sign+"x12;")
		}
		if sign != "&" {
			askNone(t, sign+"amp;")
			askNone(t, sign+"#12;")
		}
	}
}

// P9.1
func TestAtOfWhatIsNotSpelt(t *testing.T) {
	for _, s := range []string{
		"", "&", "&;", ";", "#", "&#", "&#;", "&#x", "&#x;", "&#X;", "&##1;", "& #1;", "&# 1;", "&#1 ;", "&#xx1;", "&#Xx1;", "&#0x1;", "&#1x;",
		"&#-1;", "&#+1;", "&#x-1;", "&#x+1;", "&#1_0;", "&#x1_0;", "&#0b1;", "&#0o7;", "&#1.;", "&#1e1;", "&#a;", "&#xg;", "&#x1g;",
		"&#\u0661;", "&#\uff11;", "&amp", "&amp ;", "&amp\n;", "&am;", "&ampx;", "&aamp;", "&amp&amp;", "&auml;", "&Amp;", "&NBSP;", "&nbsp\u00a0;",
		"&hellips;", "&hellip:;", "&\xff;", "\xff", "text", "text &amp;", " &amp;", "\\&amp;", "&&amp;", "&\\amp;", "&#&#1;", "&#x&#1;",
		"&" + strings.Repeat("a", 1000) + ";", "&#" + strings.Repeat("0", 1000) + "1;", "&#x" + strings.Repeat("0", 1000) + "1;",
		"&#18446744073709551681;", "&#4294967361;", "&#x100000041;", "&#x10000000000000041;",
	} {
		askNone(t, s)
	}
}

// P9.1
func TestTheFirstEndCounts(t *testing.T) {
	askAt(t, "&#1;2;", "\x01", 4)
	askAt(t, "&amp;amp;", "&", 5)
	askAt(t, "&lt;;", "<", 4)
	askAt(t, "&#x41;#x42;", "A", 6)
	askNone(t, "&;amp;")
	askNone(t, "&#;1;")
	askNone(t, "&#x;1;")
}

// P9.2
func TestExampleOfTheDocument(t *testing.T) {
	same(t, "Unescape", Unescape, "a\\*&#33;&x;", "a*!&x;")
}

// P9.2
func TestStrokeAheadOfEachByte(t *testing.T) {
	for c := range 256 {
		b := string([]byte{byte(c)})
		one, want := "\\"+b, "\\"+b
		if strings.Contains(signs, b) {
			want = b
		}
		same(t, "Unescape", Unescape, one, want)
		same(t, "Unescape", Unescape, "a"+one+"b", "a"+want+"b")
		same(t, "Unescape", Unescape, one+one, want+want)
		same(t, "Unescape", Unescape, "\\\\"+b, "\\"+b)
		same(t, "Unescape", Unescape, "\\\\"+one, "\\"+want)
		same(t, "Unescape", Unescape, b, b)
	}
}

// P9.2
func TestUnescape(t *testing.T) {
	for _, x := range []struct{ name, s, want string }{
		{"nothing", "", ""},
		{"a text without signs", "a text", "a text"},
		{"a stroke alone", `\`, `\`},
		{"a stroke at the end", `a\`, `a\`},
		{"two strokes", `\\`, `\`},
		{"three strokes", `\\\`, `\\`},
		{"four strokes", `\\\\`, `\\`},
		{"three strokes ahead of a sign", `\\\*`, `\*`},
		{"two strokes ahead of a sign", `\\*`, `\*`},
		{"a stroke ahead of a letter", `\a`, `\a`},
		{"a stroke ahead of a blank", `\ a`, `\ a`},
		{"a stroke ahead of a line's end", "\\\na", "\\\na"},
		{"a stroke ahead of a rune that is a sign, but none of ASCII", "\\\u00ab", "\\\u00ab"},
		{"a stroke ahead of a name", `\&amp;`, `&amp;`},
		{"a stroke ahead of a number", `\&#65;`, `&#65;`},
		{"two strokes ahead of a name", `\\&amp;`, `\&`},
		{"three strokes ahead of a name", `\\\&amp;`, `\&amp;`},
		{"a stroke within a name", `&am\p;`, `&am\p;`},
		{"a stroke ahead of a name's end", `&amp\;`, `&amp;`},
		{"a stroke within a number", `&\#65;`, `&#65;`},
		{"a stroke that is spelt", `&#92;*`, `\*`},
		{"a stroke that is spelt, ahead of a name", `&#92;&amp;`, `\&`},
		{"a spelt sign", "&lt;", "<"},
		{"each name", "&amp;&lt;&gt;&quot;&apos;&nbsp;&copy;&hellip;&mdash;", "&<>\"'\u00a0\u00a9\u2026\u2014"},
		{"numbers one behind the other", "&#65;&#x42;&#X43;", "ABC"},
		{"spelt signs in a text", "a&lt;b&#62;c", "a<b>c"},
		{"the same sign thrice", "&amp;&amp;&amp;", "&&&"},
		{"what is spelt twice", "&amp;lt;", "&lt;"},
		{"what is spelt twice by a number", "&#38;#65;", "&#65;"},
		{"what is spelt thrice", "&amp;amp;lt;", "&amp;lt;"},
		{"a sign and a spelt one", "&&lt;", "&<"},
		{"a name without its end and one with it", "&amp&amp;", "&amp&"},
		{"a name that is none", "&x;&lt;", "&x;<"},
		{"a number too long", "&#12345678;", "&#12345678;"},
		{"the rune 0 spelt", "&#0;", "\ufffd"},
		{"half a pair spelt", "&#xd83d;&#xde00;", "\ufffd\ufffd"},
		{"the rune 0 itself", "\x00", "\x00"},
		{"bytes that are no text", "\xff\xfe", "\xff\xfe"},
		{"bytes that are no text around what is spelt", "\xff&lt;\x80\\*\xe2\x82", "\xff<\x80*\xe2\x82"},
		{"a stroke ahead of a byte that is no text", "\\\xff", "\\\xff"},
		{"runes of all lengths", "a\u00e9\u20ac\U0001f600", "a\u00e9\u20ac\U0001f600"},
	} {
		t.Run(x.name, func(t *testing.T) {
			same(t, "Unescape", Unescape, x.s, x.want)
			same(t, "the second reader's Unescape", modelUnescape, x.s, x.want)
		})
	}
}

// P9.3
func TestURIOfEachByte(t *testing.T) {
	for c := range 256 {
		b := string([]byte{byte(c)})
		want := fmt.Sprintf("%%%02X", c)
		if strings.Contains(asTheyAre, b) {
			want = b
		}
		same(t, "URI", URI, b, want)
		same(t, "URI", URI, "a"+b+"b"+b, "a"+want+"b"+want)
	}
}

// P9.3
func TestURIOfPercents(t *testing.T) {
	const digits = "0123456789abcdefABCDEF"
	for a := range 256 {
		one := string([]byte{byte(a)})
		same(t, "URI", URI, "%"+one, "%25"+modelURI(one))
		for b := range 256 {
			other := string([]byte{byte(b)})
			want := "%" + one + other
			if !strings.Contains(digits, one) || !strings.Contains(digits, other) {
				want = modelURI(want)
				if !strings.HasPrefix(want, "%25") {
					t.Fatalf("the second reader's %q", want)
				}
			}
			same(t, "URI", URI, "%"+one+other, want)
			same(t, "URI", URI, "a%"+one+other+"a", modelURI("a%"+one+other+"a"))
		}
	}
}

// P9.3
func TestURI(t *testing.T) {
	for _, x := range []struct{ name, s, want string }{
		{"nothing", "", ""},
		{"an address", "https://a.b/c?d=e&f=g#h", "https://a.b/c?d=e&f=g#h"},
		{"all that stays", asTheyAre, asTheyAre},
		{"a blank", "a b", "a%20b"},
		{"signs that do not stay", "\"<>[\\]^`{|}", "%22%3C%3E%5B%5C%5D%5E%60%7B%7C%7D"},
		{"ends of lines", "\r\n\t", "%0D%0A%09"},
		{"a percent alone", "%", "%25"},
		{"a percent at the end", "a%", "a%25"},
		{"one digit at the end", "%4", "%254"},
		{"two digits", "%41", "%41"},
		{"two digits in small letters", "%ab", "%ab"},
		{"two digits in capitals", "%AB", "%AB"},
		{"two digits of either size", "%aB%Ab", "%aB%Ab"},
		{"one digit and a letter", "%4g", "%254g"},
		{"a letter and one digit", "%g4", "%25g4"},
		{"no digit", "%zz", "%25zz"},
		{"two percents", "%%", "%25%25"},
		{"two percents ahead of two digits", "%%41", "%25%41"},
		{"a percent behind one digit", "%4%41", "%254%41"},
		{"three digits", "%411", "%411"},
		{"a percent that is spelt", "%2541", "%2541"},
		{"a rune of two bytes", "\u00e9", "%C3%A9"},
		{"a rune of three bytes", "\u20ac", "%E2%82%AC"},
		{"a rune of four bytes", "\U0001f600", "%F0%9F%98%80"},
		{"letters and digits of others", "\u0661\uff21", "%D9%A1%EF%BC%A1"},
		{"bytes that are no text", "\xff\x80", "%FF%80"},
		{"the rune 0", "\x00", "%00"},
	} {
		t.Run(x.name, func(t *testing.T) {
			same(t, "URI", URI, x.s, x.want)
			same(t, "the second reader's URI", modelURI, x.s, x.want)
			same(t, "URI", URI, x.want, x.want)
		})
	}
}

// P9.3
func TestSpellOfEachRune(t *testing.T) {
	for r := rune(0); r <= utf8.MaxRune; r++ {
		if !utf8.ValidRune(r) {
			continue
		}
		same(t, "Spell", Spell, string(r), fmt.Sprintf("&#%d;", r))
	}
}

// P9.3
func TestSpell(t *testing.T) {
	const no = "&#65533;"
	for _, x := range []struct{ name, s, want string }{
		{"nothing", "", ""},
		{"letters", "aZ", "&#97;&#90;"},
		{"the rune 0", "\x00", "&#0;"},
		{"a digit, a blank, a line's end", "1 \n", "&#49;&#32;&#10;"},
		{"the signs that it is spelt with", "&#;", "&#38;&#35;&#59;"},
		{"runes of all lengths", "a\u00e9\u20ac\U0001f600", "&#97;&#233;&#8364;&#128512;"},
		{"the last rune", "\U0010ffff", "&#1114111;"},
		{"U+FFFD itself", "\ufffd", no},
		{"no part of a rune", "\xff", no},
		{"two of them", "\xff\xfe", no + no},
		{"between letters", "a\x80b", "&#97;" + no + "&#98;"},
		{"a rune cut off", "\xe2\x82", no + no},
		{"a rune cut off ahead of a letter", "\xf0\x9f\x98a", no + no + no + "&#97;"},
		{"half a pair", "\xed\xa0\x80", no + no + no},
		{"longer than need be", "\xc0\x80", no + no},
		{"above the last rune", "\xf4\x90\x80\x80", no + no + no + no},
	} {
		t.Run(x.name, func(t *testing.T) {
			same(t, "Spell", Spell, x.s, x.want)
			same(t, "the second reader's Spell", modelSpell, x.s, x.want)
		})
	}
}

// P9.3
func TestHTMLOfEachByte(t *testing.T) {
	for c := range 256 {
		b := string([]byte{byte(c)})
		want := b
		switch b {
		case "&":
			want = "&amp;"
		case "<":
			want = "&lt;"
		case ">":
			want = "&gt;"
		case "\"":
			want = "&quot;"
		}
		same(t, "HTML", HTML, b, want)
		same(t, "HTML", HTML, "a"+b+b+"\xff", "a"+want+want+"\xff")
	}
}

// P9.3
func TestHTML(t *testing.T) {
	for _, x := range []struct{ name, s, want string }{
		{"nothing", "", ""},
		{"a text", "a text", "a text"},
		{"the four one behind the other", "&<>\"", "&amp;&lt;&gt;&quot;"},
		{"the four backwards", "\"><&", "&quot;&gt;&lt;&amp;"},
		{"one of them thrice", "&&&", "&amp;&amp;&amp;"},
		{"what is spelt already", "&amp;&lt;", "&amp;amp;&amp;lt;"},
		{"signs that stay", "'\\/;#\u00a0\u00a9", "'\\/;#\u00a0\u00a9"},
		{"bytes that are no text", "\xff<\x80", "\xff&lt;\x80"},
		{"the rune 0", "\x00", "\x00"},
		{"ends of lines", "a\r\n<b\n", "a\r\n&lt;b\n"},
	} {
		t.Run(x.name, func(t *testing.T) {
			same(t, "HTML", HTML, x.s, x.want)
			same(t, "the second reader's HTML", modelHTML, x.s, x.want)
		})
	}
}

// P9.1, P9.2, P9.3
func TestAnyFewPieces(t *testing.T) {
	for _, a := range pieces {
		byModel(t, a)
		for _, b := range pieces {
			byModel(t, a+b)
			byModel(t, a+b+";")
			for _, c := range []string{";", "\\", "%", "4", "amp;", "x41;"} {
				byModel(t, c+a+b)
			}
		}
	}
}

// P9.1, P9.2, P9.3
func TestDrawnTexts(t *testing.T) {
	r := rand.New(rand.NewSource(9))
	for range 100000 {
		byModel(t, draw(r))
	}
}

// P9.2, P9.3
func TestLongTexts(t *testing.T) {
	const many = 1 << 18
	for _, x := range []struct {
		name    string
		call    func(string) string
		s, want string
	}{
		{"Unescape", Unescape, "&", "&"},
		{"Unescape", Unescape, "&#", "&#"},
		{"Unescape", Unescape, "\\\\", "\\"},
		{"Unescape", Unescape, "&#x41;", "A"},
		{"Unescape", Unescape, "&hellip;", "\u2026"},
		{"URI", URI, "%", "%25"},
		{"URI", URI, "%4", "%254"},
		{"Spell", Spell, "\U0010ffff", "&#1114111;"},
		{"HTML", HTML, "\"", "&quot;"},
	} {
		if got := x.call(strings.Repeat(x.s, many)); got != strings.Repeat(x.want, many) {
			t.Errorf("%s of many %q", x.name, x.s)
		}
	}
	askNone(t, "&"+strings.Repeat("a", many)+";")
}

// P9.4
func TestUnescapeOfSpellIsTheText(t *testing.T) {
	back := func(s string) {
		t.Helper()
		if got := Unescape(Spell(s)); got != s {
			t.Errorf("Unescape of Spell of %q: %q", s, got)
		}
	}
	back("")
	for v := rune(1); v <= utf8.MaxRune; v++ {
		if utf8.ValidRune(v) {
			back(string(v))
		}
	}
	r := rand.New(rand.NewSource(10))
	for range 50000 {
		back(drawRunes(r))
	}
}

// P9.4
func TestURIOfURIIsURI(t *testing.T) {
	r := rand.New(rand.NewSource(11))
	const some = "%%%%%%04aFgG \xff&"
	for i := range 100000 {
		b := make([]byte, r.Intn(12))
		for j := range b {
			b[j] = some[r.Intn(len(some))]
			if i%2 == 0 {
				b[j] = byte(r.Intn(256))
			}
		}
		once := URI(string(b))
		same(t, "URI", URI, once, once)
		for j := range len(once) {
			if !strings.Contains(asTheyAre+"%", once[j:j+1]) {
				t.Fatalf("URI of %q: %q", b, once)
			}
		}
	}
}

// P9.4, W7
func TestAnswersHangOnArgumentsAlone(t *testing.T) {
	r := rand.New(rand.NewSource(12))
	for range 20000 {
		s, other := draw(r), draw(r)
		want, n := At(s)
		first := [4]string{}
		for i, x := range calls {
			first[i] = x.call(s)
		}
		At(other)
		for i, x := range calls {
			x.call(other)
			// What stands around a text is no part of it.
			around := "&#%\\" + s + ";41"
			same(t, x.name, x.call, around[4:len(around)-3], first[i])
			same(t, x.name, x.call, strings.Clone(s), first[i])
		}
		askAt(t, strings.Clone(s), want, n)
	}
}

// inside tells whether a text's memory is a piece of another one's.
func inside(part, whole string) bool {
	from := uintptr(unsafe.Pointer(unsafe.StringData(whole)))
	at := uintptr(unsafe.Pointer(unsafe.StringData(part)))
	return part != "" && at >= from && at < from+uintptr(len(whole))
}

// P9.4, W6
func TestAnswersAreNewMemory(t *testing.T) {
	for _, s := range []string{"a text", "a&lt;b\\*c", "&#8364;", "&amp;", "%41", "\\", "a b<c>"} {
		s = strings.Clone(s)
		if told, _ := At(s); inside(told, s) {
			t.Errorf("At of %q shares its memory", s)
		}
		for _, x := range calls {
			if inside(x.call(s), s) || len(s) > 1 && inside(x.call(s), x.call(s)) {
				t.Errorf("%s of %q shares memory", x.name, s)
			}
		}
	}
}

// P9.4, W6
func TestNothingIsChangedOrKept(t *testing.T) {
	for _, s := range []string{"a text", "a&lt;b\\*c", "&#8364;\xff", "%4%41", "\\&amp;"} {
		b := []byte(s)
		// A text made of bytes that change behind the call's back tells what is kept.
		lent := unsafe.String(&b[0], len(b))
		answers := [4]string{}
		for i, x := range calls {
			answers[i] = x.call(lent)
		}
		told, _ := At(lent)
		if string(b) != s {
			t.Fatalf("%q was changed", s)
		}
		for i := range b {
			b[i] = 'X'
		}
		for i, x := range calls {
			if want := x.model(s); answers[i] != want {
				t.Errorf("%s of %q kept it: %q", x.name, s, answers[i])
			}
		}
		if want, _ := modelAt(s); told != want {
			t.Errorf("At of %q kept it: %q", s, told)
		}
	}
}
