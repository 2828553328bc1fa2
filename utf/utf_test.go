package utf

import (
	"bytes"
	"math/rand"
	"slices"
	"strings"
	"testing"
	"unsafe"
)

// ask holds what is answered of bytes against what is wanted.
func ask(t *testing.T, b []byte, valid bool, repaired string, count int) {
	t.Helper()
	if got := Valid(b); got != valid {
		t.Errorf("Valid of % x: %v, want %v", b, got, valid)
	}
	if got := Repair(b); got != repaired {
		t.Errorf("Repair of % x: % x, want % x", b, got, repaired)
	}
	if got := Count(string(b)); got != count {
		t.Errorf("Count of % x: %d, want %d", b, got, count)
	}
	if got := Count(Repair(b)); got != count {
		t.Errorf("Count of % x repaired: %d, want %d", b, got, count)
	}
	if !Valid([]byte(Repair(b))) || Repair([]byte(Repair(b))) != Repair(b) {
		t.Errorf("% x repaired is not yet whole", b)
	}
}

func askModel(t *testing.T, b []byte) {
	t.Helper()
	valid, repaired, count := model(b)
	ask(t, b, valid, repaired, count)
}

// P7.1
func TestWhatIsKnown(t *testing.T) {
	for _, x := range []struct {
		name     string
		b        string
		valid    bool
		repaired string
		count    int
	}{
		{"the document's example", "\x61\xff\x00\x62", false, "a\ufffd\ufffdb", 4},
		{"no byte", "", true, "", 0},
		{"a letter", "a", true, "a", 1},
		{"one byte, the first but 0", "\x01", true, "\x01", 1},
		{"one byte, the last", "\x7f", true, "\x7f", 1},
		{"two bytes, the first", "\xc2\x80", true, "\u0080", 1},
		{"two bytes, the last", "\xdf\xbf", true, "\u07ff", 1},
		{"three bytes, the first", "\xe0\xa0\x80", true, "\u0800", 1},
		{"ahead of the pairs", "\xed\x9f\xbf", true, "\ud7ff", 1},
		{"behind the pairs", "\xee\x80\x80", true, "\ue000", 1},
		{"three bytes, the last", "\xef\xbf\xbf", true, "\uffff", 1},
		{"four bytes, the first", "\xf0\x90\x80\x80", true, "\U00010000", 1},
		{"four bytes, the last", "\xf4\x8f\xbf\xbf", true, "\U0010ffff", 1},
		{"a mark of the order of bytes", "\xef\xbb\xbfa", true, "\ufeffa", 2},
		{"of each kind", "a\u00e9\u20ac\U0001f600", true, "a\u00e9\u20ac\U0001f600", 4},
		{"the rune 0", "\x00", true, "\ufffd", 1},
		{"the rune 0 thrice, one between", "\x00\x00a\x00", true, "\ufffd\ufffda\ufffd", 4},
		{"U+FFFD itself", "\xef\xbf\xbd", true, "\ufffd", 1},
		{"U+FFFD and a byte behind", "\xef\xbf\xbd\xbd", false, "\ufffd\ufffd", 2},
		{"no part of a rune, at the beginning", "\xffab", false, "\ufffdab", 3},
		{"between runes", "\u00e9\xfe\u20ac", false, "\u00e9\ufffd\u20ac", 3},
		{"at the end", "ab\x80", false, "ab\ufffd", 3},
		{"several", "\x80\xbf\xfe\xff", false, "\ufffd\ufffd\ufffd\ufffd", 4},
		{"cut off, and another begins", "\xe2\x82\xe2\x82\xac", false, "\ufffd\ufffd\u20ac", 3},
		{"cut off, and a letter", "\xf0\x9f\x98a", false, "\ufffd\ufffd\ufffda", 4},
		{"cut off, and a line's end", "\xc3\r\n", false, "\ufffd\r\n", 3},
		{"the rune 0 in two bytes", "\xc0\x80", false, "\ufffd\ufffd", 2},
		{"a stroke in two bytes", "\xc0\xaf", false, "\ufffd\ufffd", 2},
		{"a stroke in three bytes", "\xe0\x80\xaf", false, "\ufffd\ufffd\ufffd", 3},
		{"the first half of a pair", "\xed\xa0\x80", false, "\ufffd\ufffd\ufffd", 3},
		{"the last half of a pair", "\xed\xbf\xbf", false, "\ufffd\ufffd\ufffd", 3},
		{"a whole pair", "\xed\xa0\xbd\xed\xb8\x80", false, strings.Repeat("\ufffd", 6), 6},
		{"just above 10ffff", "\xf4\x90\x80\x80", false, "\ufffd\ufffd\ufffd\ufffd", 4},
		{"far above", "\xf7\xbf\xbf\xbf", false, "\ufffd\ufffd\ufffd\ufffd", 4},
		{"five bytes", "\xf8\x88\x80\x80\x80", false, strings.Repeat("\ufffd", 5), 5},
		{"six bytes", "\xfd\xbf\xbf\xbf\xbf\xbf", false, strings.Repeat("\ufffd", 6), 6},
		{"ends of lines stay", "\r\n\r\n\n", true, "\r\n\r\n\n", 5},
	} {
		t.Run(x.name, func(t *testing.T) { ask(t, []byte(x.b), x.valid, x.repaired, x.count) })
	}
}

// P7.1, W5
func TestNilIsNoByte(t *testing.T) {
	ask(t, nil, true, "", 0)
	ask(t, []byte{}, true, "", 0)
}

// P7.1
func TestEachRune(t *testing.T) {
	for v := 1; v <= 0x10ffff; v++ {
		b := spell(v, sizeOf(v))
		s, valid := string(b), !isHalf(v)
		want, count := s, 1
		if !valid {
			want, count = strings.Repeat(badBytes, 3), 3
		}
		if Valid(b) != valid || Repair(b) != want || Count(s) != count {
			t.Fatalf("%x", v)
		}
	}
}

// P7.1
func TestRunesThatAreCutOff(t *testing.T) {
	for _, v := range []int{0x80, 0xe9, 0x7ff, 0x800, 0x20ac, 0xd7ff, 0xe000, bad, 0xffff, 0x10000, 0x1f600, 0x10ffff} {
		whole := spell(v, sizeOf(v))
		for cut := 1; cut < len(whole); cut++ {
			part, bads := string(whole[:cut]), strings.Repeat(badBytes, cut)
			ask(t, []byte(part), false, bads, cut)
			ask(t, []byte("a"+part), false, "a"+bads, 1+cut)
			ask(t, []byte(part+"a"), false, bads+"a", cut+1)
			ask(t, []byte(part+string(whole)), false, bads+string(whole), cut+1)
			ask(t, []byte(string(whole)+part), false, string(whole)+bads, 1+cut)
			behind := string(whole[cut:])
			ask(t, []byte(behind), false, strings.Repeat(badBytes, len(behind)), len(behind))
		}
	}
}

// P7.1
func TestRunesLongerThanNeedBe(t *testing.T) {
	for size := 2; size <= 6; size++ {
		for v := 0; v <= 0x10ffff; v++ {
			if v >= 1<<(5*size+1) || sizeOf(v) >= size {
				break
			}
			b := spell(v, size)
			if Valid(b) || Repair(b) != strings.Repeat(badBytes, size) || Count(string(b)) != size {
				t.Fatalf("%x in %d bytes", v, size)
			}
		}
	}
}

// P7.1
func TestAboveTheLastRune(t *testing.T) {
	bads := strings.Repeat(badBytes, 4)
	for v := 0x110000; v < 1<<21; v++ {
		b := spell(v, 4)
		if Valid(b) || Repair(b) != bads || Count(string(b)) != 4 {
			t.Fatalf("%x", v)
		}
	}
}

// P7.1
func TestAnyTwoBytes(t *testing.T) {
	for a := range 256 {
		askModel(t, []byte{byte(a)})
		for b := range 256 {
			askModel(t, []byte{byte(a), byte(b)})
		}
	}
}

// P7.1
func TestFourBytesOfTheEdges(t *testing.T) {
	b := make([]byte, 4)
	for n := range len(edges) * len(edges) * len(edges) * len(edges) {
		for i := range b {
			b[i] = edges[n%len(edges)]
			n /= len(edges)
		}
		valid, repaired, count := model(b)
		if Valid(b) != valid || Repair(b) != repaired || Count(string(b)) != count {
			t.Fatalf("% x", b)
		}
	}
}

// P7.1, P7.2, P7.3
func TestDrawnBytes(t *testing.T) {
	r := rand.New(rand.NewSource(7))
	for range 50000 {
		b := draw(r)
		askModel(t, b)
		askLines(t, string(b))
		askLines(t, Repair(b))
	}
}

// P7.1
func TestManyBytes(t *testing.T) {
	const many = 1 << 20
	ask(t, bytes.Repeat([]byte{0}, many), true, strings.Repeat(badBytes, many), many)
	ask(t, bytes.Repeat([]byte{0x80}, many), false, strings.Repeat(badBytes, many), many)
	ask(t, bytes.Repeat([]byte("\u20ac"), many), true, strings.Repeat("\u20ac", many), many)
	ask(t, append(bytes.Repeat([]byte("a"), many), 0xff), false, strings.Repeat("a", many)+badBytes, many+1)
}

func askLines(t *testing.T, s string) {
	t.Helper()
	if got, want := Lines(s), modelLines(s); !slices.Equal(got, want) {
		t.Errorf("Lines of %q: %q, want %q", s, got, want)
	}
}

// P7.2
func TestLines(t *testing.T) {
	for _, x := range []struct {
		s    string
		want []string
	}{
		{"", nil},
		{"a", []string{"a"}},
		{"a\r\n", []string{"a"}},
		{"a\r", []string{"a"}},
		{"a\n", []string{"a"}},
		{"a\r\nb", []string{"a", "b"}},
		{"a\rb", []string{"a", "b"}},
		{"a\nb", []string{"a", "b"}},
		{"\r\n", []string{""}},
		{"\r", []string{""}},
		{"\n", []string{""}},
		{"\n\r", []string{"", ""}},
		{"\n\n", []string{"", ""}},
		{"\r\r", []string{"", ""}},
		{"\r\n\r\n", []string{"", ""}},
		{"\r\r\n", []string{"", ""}},
		{"\r\n\n", []string{"", ""}},
		{"\r\n\r", []string{"", ""}},
		{"\n\r\n", []string{"", ""}},
		{"\r\r\n\n", []string{"", "", ""}},
		{"\n\r\n\r", []string{"", "", ""}},
		{"\ra\n", []string{"", "a"}},
		{"a\r b\n", []string{"a", " b"}},
		{"a\n\nb", []string{"a", "", "b"}},
		{"a\n\r\nb\r", []string{"a", "", "b"}},
		{"a\n ", []string{"a", " "}},
		{" a \n\tb\t\n", []string{" a ", "\tb\t"}},
		{"\u00e9\r\n\u20ac\r\U0001f600\nz", []string{"\u00e9", "\u20ac", "\U0001f600", "z"}},
		{"\xff\n\xe2\x82\r\n\xc3", []string{"\xff", "\xe2\x82", "\xc3"}},
		{"a\x00b\n\x00", []string{"a\x00b", "\x00"}},
	} {
		if got := Lines(x.s); !slices.Equal(got, x.want) {
			t.Errorf("Lines of %q: %q, want %q", x.s, got, x.want)
		}
	}
}

// P7.2
func TestOtherSignsEndNoLine(t *testing.T) {
	for c := range 256 {
		s := "a" + string([]byte{byte(c)}) + "b"
		want := []string{s}
		if c == 0x0d || c == 0x0a {
			want = []string{"a", "b"}
		}
		if got := Lines(s); !slices.Equal(got, want) {
			t.Errorf("%q: %q", s, got)
		}
	}
	for _, sign := range []string{"\u0085", "\u2028", "\u2029", "\u240a", "\u240d", "\u010a", "\u010d", "\u0a0d", "\ufffd", `\n`, `\r\n`} {
		if got := Lines(sign); !slices.Equal(got, []string{sign}) {
			t.Errorf("%q: %q", sign, got)
		}
	}
}

// P7.2
func TestEndsInEveryOrder(t *testing.T) {
	everyText([]string{"\r", "\n", "a", "\u20ac", "\xe2"}, 7, func(s string) { askLines(t, s) })
	everyText([]string{"\r\n", "\r", "\n", "b"}, 6, func(s string) { askLines(t, s) })
}

// P7.2
func TestManyLines(t *testing.T) {
	const many = 1 << 19
	for _, end := range []string{"\r\n", "\r", "\n"} {
		got := Lines(strings.Repeat("x"+end, many))
		if len(got) != many || slices.ContainsFunc(got, func(l string) bool { return l != "x" }) {
			t.Errorf("of %q: %d lines", end, len(got))
		}
	}
	long := strings.Repeat("x", many)
	if got := Lines(long + "\r\n" + long); !slices.Equal(got, []string{long, long}) {
		t.Error("two long ones")
	}
}

// P7.3
func TestAnswersHangOnArgumentsAlone(t *testing.T) {
	r := rand.New(rand.NewSource(8))
	for range 2000 {
		b, other := draw(r), draw(r)
		s := string(b)
		repaired, valid, lines, count := Repair(b), Valid(b), Lines(s), Count(s)
		for range 2 {
			Repair(other)
			Valid(other)
			Lines(string(other))
			Count(string(other))
			again := bytes.Clone(b)
			if Repair(again) != repaired || Valid(again) != valid || Count(string(again)) != count || !slices.Equal(Lines(string(again)), lines) {
				t.Fatalf("% x: asked again it is another answer", b)
			}
		}
	}
}

// P7.3, W6
func TestNothingIsChangedOrKept(t *testing.T) {
	room := []byte("a\xff\x00b\u20ac\r\nand what is behind")
	was := bytes.Clone(room)
	for n := range len(room) + 1 {
		b := room[:n]
		Valid(b)
		got := Repair(b)
		if !bytes.Equal(room, was) {
			t.Fatalf("of %d bytes: an argument is changed", n)
		}
		clear(room)
		if _, want, _ := model(was[:n]); got != want {
			t.Errorf("of %d bytes: what is answered changes with the argument", n)
		}
		copy(room, was)
	}
}

// inside tells whether a text's memory is a piece of another one's.
func inside(part, whole string) bool {
	from := uintptr(unsafe.Pointer(unsafe.StringData(whole)))
	at := uintptr(unsafe.Pointer(unsafe.StringData(part)))
	return part != "" && at >= from && at < from+uintptr(len(whole))
}

// P7.3, W6
func TestLinesAreNewMemory(t *testing.T) {
	for _, s := range []string{"one line", "one line\n", "three\r\nlong\rlines", "\n\nlast"} {
		s = strings.Clone(s)
		a, b := Lines(s), Lines(s)
		for i, line := range a {
			if inside(line, s) || inside(line, b[i]) {
				t.Errorf("%q: line %d shares memory", s, i)
			}
		}
		all := a[:cap(a)]
		for i := range all {
			all[i] = "another"
		}
		if !slices.Equal(b, modelLines(s)) || !slices.Equal(Lines(s), b) {
			t.Errorf("%q: two answers share memory", s)
		}
	}
}

func BenchmarkRepair(b *testing.B) {
	p := bytes.Repeat([]byte("text, \u20ac and \xff\n"), 1<<16)
	b.SetBytes(int64(len(p)))
	for b.Loop() {
		Repair(p)
	}
}
