package xml

import (
	"reflect"
	"slices"
	"strings"
	"testing"
	"unicode/utf8"
	"unsafe"

	"rubricator/api"
)

// P10.2
func TestIsNameOfEachByte(t *testing.T) {
	const first = "abcdefghijklmnopqrstuvwxyzABCDEFGHIJKLMNOPQRSTUVWXYZ_"
	const later = first + "0123456789.-"
	for c := range 256 {
		s := string([]byte{byte(c)})
		begins := strings.Contains(first, s) || c >= 0x80
		goesOn := strings.Contains(later, s) || c >= 0x80
		for in, want := range map[string]bool{s: begins, "a" + s: goesOn, "_" + s: goesOn, "\x80" + s: goesOn, "a9.-" + s: goesOn, s + "a": begins, "a" + s + "b": goesOn, "9" + s: false, "-" + s: false, "." + s: false, s + s: begins, s + " ": false} {
			if IsName(in) != want {
				t.Errorf("%q: %v", in, !want)
			}
		}
	}
}

// P10.2
func TestIsName(t *testing.T) {
	for in, want := range map[string]bool{
		"": false, "a": true, "xml": true, "XML": true, "xmlns": true, "a:b": false, ":": false, "a:": false, ":a": false, "a b": false, " a": false, "a ": false, "a\n": false,
		"_.-9": true, "é": true, "\xff": true, "\xc3": true, "\u00a0": true, "\ufffe": true, "a\x00": false, "\x00": false, "-a": false, "9a": false, ".a": false, "a/": false, "a=": false, "a@": false, "a[": false, "a`": false, "a{": false, "@": false, "[": false, "`": false, "{": false, "a/b": false, "a,b": false, "a;b": false,
		strings.Repeat("a", 1<<20): true, strings.Repeat("a", 1<<20) + " ": false,
	} {
		if IsName(in) != want {
			t.Errorf("%s: %v", asked(in), !want)
		}
		if utf8.ValidString(in) && wholeName.MatchString(in) != want {
			t.Errorf("the second reader of %s: %v", asked(in), !want)
		}
	}
}

// P10.2
func TestIsTextOfEachByte(t *testing.T) {
	for c := range 256 {
		s := string([]byte{byte(c)})
		want := c == 9 || c == 0xa || c == 0xd || c >= 0x20 && c < 0x80
		for _, in := range []string{s, "a" + s, s + "a", "\u20ac" + s, s + "\u20ac", s + s} {
			if IsText(in) != want {
				t.Errorf("%q: %v", in, !want)
			}
		}
	}
}

// P10.2
func TestIsTextOfEachRune(t *testing.T) {
	for v := rune(0); v <= utf8.MaxRune; v++ {
		if v >= 0xd800 && v <= 0xdfff {
			continue
		}
		if s := string(v); IsText(s) != mayStandIn(v) || IsText("a"+s) != mayStandIn(v) {
			t.Fatalf("%x", v)
		}
	}
}

// P10.2
func TestIsText(t *testing.T) {
	for in, want := range map[string]bool{
		"": true, "a": true, "\t\n\r ~\u0085": true, "<&>]]>\"'": true, "\ud7ff\ue000\ufffd": true, "\U00010000\U0010ffff": true, "\ufeff": true,
		"\x00": false, "\x08": false, "\x0b": false, "\x0c": false, "\x0e": false, "\x1f": false, "\x7f": true, "\ufffe": false, "\uffff": false, "\U0001fffe": true, "\U0010fffe": true,
		"\xff": false, "\xed\xa0\x80": false, "\xed\xa0\xbd\xed\xb8\x80": false, "\xc0\x80": false, "\xc1\xbf": false, "\xe0\x80\x80": false, "\xf0\x80\x80\x80": false, "\xf4\x90\x80\x80": false, "\xe2\x82": false, "\xf0\x9f\x98": false, "a\xe2\x82": false, "\xe2\x82a": false,
		strings.Repeat("\u20ac", 1<<18): true, strings.Repeat("\u20ac", 1<<18) + "\x00": false, strings.Repeat("\u20ac", 1<<18) + "\x80": false,
	} {
		if IsText(in) != want {
			t.Errorf("%s: %v", asked(in), !want)
		}
	}
}

// some is an element of which several kids and attributes fit.
func some() api.Elem {
	return api.Elem{Name: "a", Space: "s", Attrs: []api.Attr{
		{Name: "y", Value: "0"}, {Space: "u", Name: "x", Value: "1"}, {Name: "x", Value: "2"}, {Space: "u", Name: "x", Value: "3"}, {Name: "x", Value: "4"}, {Space: "v", Name: "z"},
	}, Kids: []api.Elem{
		{Text: "t"}, {Name: "c", Text: "0"}, {Space: "u", Name: "b", Text: "1", Attrs: []api.Attr{{Space: "w", Name: "k", Value: "l"}}, Kids: []api.Elem{{Text: "m"}, {Name: "d", Kids: []api.Elem{{Name: "e", Attrs: []api.Attr{{Name: "f"}}}}}}},
		{Name: "b", Text: "2"}, {Space: "u", Name: "b", Text: "3"}, {Name: "b", Text: "4", Kids: []api.Elem{{Space: "x", Name: "deeper"}}}, {Text: "t2"}, {Space: "v", Name: "e"},
	}}
}

// P10.2
func TestFind(t *testing.T) {
	for _, x := range []struct {
		space, name string
		at          int
	}{
		{"u", "b", 2}, {"", "b", 3}, {"", "c", 1}, {"v", "e", 7}, {"", "", 0},
		{"u", "c", -1}, {"v", "b", -1}, {"", "e", -1}, {"u", "e", -1}, {"u", "", -1}, {"v", "", -1}, {"", "d", -1}, {"", "B", -1}, {"U", "b", -1}, {"b", "u", -1}, {"", "u:b", -1}, {"", "ub", -1}, {"s", "a", -1}, {"x", "deeper", -1}, {"", "t", -1}, {"u", "bb", -1},
	} {
		e := some()
		got, ok := Find(e, x.space, x.name)
		want := api.Elem{}
		if x.at >= 0 {
			want = e.Kids[x.at]
		}
		if ok != (x.at >= 0) || !like(got, want) {
			t.Errorf("%q %q: %s, %v", x.space, x.name, show(got), ok)
		}
		if !like(e, some()) {
			t.Errorf("%q %q: the argument is changed", x.space, x.name)
		}
	}
	for _, e := range []api.Elem{{}, {Name: "b"}, {Kids: []api.Elem{}}, {Attrs: []api.Attr{{Name: "b"}}}} {
		if got, ok := Find(e, "", "b"); ok || !like(got, api.Elem{}) {
			t.Error(show(got))
		}
	}
}

// P10.2
func TestGet(t *testing.T) {
	for _, x := range []struct {
		space, name, want string
		ok                bool
	}{
		{"u", "x", "1", true}, {"", "x", "2", true}, {"", "y", "0", true}, {"v", "z", "", true},
		{"u", "y", "", false}, {"v", "x", "", false}, {"", "z", "", false}, {"", "", "", false}, {"u", "", "", false}, {"", "X", "", false}, {"U", "x", "", false}, {"x", "u", "", false}, {"", "u:x", "", false}, {"", "ux", "", false}, {"w", "k", "", false}, {"", "1", "", false}, {"", "a", "", false},
	} {
		e := some()
		if got, ok := Get(e, x.space, x.name); got != x.want || ok != x.ok {
			t.Errorf("%q %q: %q, %v", x.space, x.name, got, ok)
		}
		if !like(e, some()) {
			t.Errorf("%q %q: the argument is changed", x.space, x.name)
		}
	}
	for _, e := range []api.Elem{{}, {Name: "b"}, {Attrs: []api.Attr{}}, {Kids: []api.Elem{{Name: "b", Attrs: []api.Attr{{Name: "b", Value: "1"}}}}}} {
		if got, ok := Get(e, "", "b"); ok || got != "" {
			t.Error(got)
		}
	}
	if got, ok := Get(api.Elem{Attrs: []api.Attr{{Value: "1"}}}, "", ""); !ok || got != "1" {
		t.Error(got, ok)
	}
}

// flat is all fields of an element, one by one.
func flat(e api.Elem) []string {
	out := []string{"(", e.Space, e.Name, e.Text}
	for _, a := range e.Attrs {
		out = append(out, "@", a.Space, a.Name, a.Value)
	}
	for _, k := range e.Kids {
		out = append(out, flat(k)...)
	}
	return append(out, ")")
}

// like is the second word on whether two elements are one.
func like(a, b api.Elem) bool { return slices.Equal(flat(a), flat(b)) }

// turned is all elements that one turn makes of another, each of its fields at any depth, and its lists.
func turned(e api.Elem) []api.Elem {
	out := []api.Elem{}
	turn := func(by func(*api.Elem)) {
		c := deepCopy(e)
		by(&c)
		out = append(out, c)
	}
	turn(func(c *api.Elem) { c.Space += "x" })
	turn(func(c *api.Elem) { c.Name += "x" })
	turn(func(c *api.Elem) { c.Text += "x" })
	turn(func(c *api.Elem) { c.Attrs = append(c.Attrs, api.Attr{}) })
	turn(func(c *api.Elem) { c.Kids = append(c.Kids, api.Elem{}) })
	for i := range e.Attrs {
		turn(func(c *api.Elem) { c.Attrs[i].Space += "x" })
		turn(func(c *api.Elem) { c.Attrs[i].Name += "x" })
		turn(func(c *api.Elem) { c.Attrs[i].Value += "x" })
		turn(func(c *api.Elem) { c.Attrs = slices.Delete(c.Attrs, i, i+1) })
		if i > 0 {
			turn(func(c *api.Elem) { c.Attrs[i], c.Attrs[i-1] = c.Attrs[i-1], c.Attrs[i] })
		}
	}
	for i := range e.Kids {
		turn(func(c *api.Elem) { c.Kids = slices.Delete(c.Kids, i, i+1) })
		if i > 0 {
			turn(func(c *api.Elem) { c.Kids[i], c.Kids[i-1] = c.Kids[i-1], c.Kids[i] })
		}
		for _, kid := range turned(e.Kids[i]) {
			turn(func(c *api.Elem) { c.Kids[i] = kid })
		}
	}
	return out
}

// deepCopy is an element as new memory, with empty lists where the other has none and the other way round.
func deepCopy(e api.Elem) api.Elem {
	attrs, kids := e.Attrs, e.Kids
	e.Attrs, e.Kids = nil, nil
	if attrs == nil {
		e.Attrs = []api.Attr{}
	}
	if kids == nil {
		e.Kids = []api.Elem{}
	}
	e.Attrs = append(e.Attrs, attrs...)
	for _, k := range kids {
		e.Kids = append(e.Kids, deepCopy(k))
	}
	return e
}

// P10.2, W5
func TestSame(t *testing.T) {
	for _, e := range []api.Elem{{}, {Name: "a"}, {Text: "t"}, some(), {Kids: []api.Elem{some(), {}, some()}}} {
		if !Same(e, e) || !Same(e, deepCopy(e)) || !Same(deepCopy(e), e) {
			t.Errorf("%s is not itself", show(e))
		}
		for _, c := range turned(e) {
			if Same(e, c) || Same(c, e) || !Same(c, deepCopy(c)) {
				t.Errorf("%s and %s", show(e), show(c))
			}
		}
	}
	for _, x := range [][2]api.Elem{
		{{Space: "a", Name: "b"}, {Space: "b", Name: "a"}}, {{Space: "ab"}, {Space: "a", Name: "b"}}, {{Name: "a"}, {Text: "a"}}, {{Attrs: []api.Attr{{Name: "a"}}}, {Attrs: []api.Attr{{Space: "a"}}}}, {{Attrs: []api.Attr{{Name: "a"}}}, {Attrs: []api.Attr{{Value: "a"}}}}, {{Kids: []api.Elem{{}}}, {Kids: []api.Elem{{}, {}}}}, {{Kids: []api.Elem{{Text: "ab"}}}, {Kids: []api.Elem{{Text: "a"}, {Text: "b"}}}},
	} {
		if Same(x[0], x[1]) || Same(x[1], x[0]) {
			t.Errorf("%s and %s", show(x[0]), show(x[1]))
		}
	}
}

// P10.2, W1: as deep as anything may be.
func TestDeepElements(t *testing.T) {
	const most = 1 << 16
	line := func(end string) api.Elem {
		e := api.Elem{Text: end}
		for range most {
			e = api.Elem{Name: "a", Kids: []api.Elem{e}}
		}
		return e
	}
	a, b, other := line("t"), line("t"), line("o")
	if !Same(a, b) || Same(a, other) {
		t.Error("two that are deep")
	}
	got, ok := Find(a, "", "a")
	if !ok || !Same(got, a.Kids[0]) {
		t.Error("one that is deep is not found")
	}
}

// P10.3, W6
func TestReadChangesAndKeepsNothing(t *testing.T) {
	const in = mark + "<?xml?>\r\n<p:a xmlns:p='u' p:x='1\r\n&lt;' y=\"\">t\r<b><c/></b>&#65;<![CDATA[d]]></p:a>\r"
	const want = "(u:a u:x=\"1 <\" :y=\"\" \"t\\n\" (:b (:c)) \"Ad\")"
	room := append([]byte(in), "and what stands behind"...)
	was := slices.Clone(room)
	got, err := Read(room[:len(in)])
	if told(got, err) != want || !slices.Equal(room, was) {
		t.Fatal(told(got, err))
	}
	for i := range room {
		room[i] = 'z'
	}
	if show(got) != want {
		t.Error("what is answered changes with what was handed in: " + show(got))
	}
	for _, in := range []string{"<a>\xff</a>\r\n", "<a\r\n", "<a\rb='' b=''/>", "<!DOCTYPE\r", "", "<p:a/>\r"} {
		b := []byte(in + "behind")
		Read(b[:len(in)])
		if string(b) != in+"behind" {
			t.Errorf("%q is changed", in)
		}
	}
}

// spoil changes all that an element has, and the spare room of its lists.
func spoil(e *api.Elem) {
	for i := range e.Kids {
		spoil(&e.Kids[i])
	}
	for i := range e.Attrs[:cap(e.Attrs)] {
		e.Attrs[:cap(e.Attrs)][i] = api.Attr{Space: "z", Name: "z", Value: "z"}
	}
	for i := range e.Kids[:cap(e.Kids)] {
		e.Kids[:cap(e.Kids)][i] = api.Elem{Name: "z"}
	}
	*e = api.Elem{Name: "z"}
}

const many = "<a xmlns='u' b='1' c='2' d='3'>1<b e='4' f='5'><c g='6'>2</c><d/><e/></b>3<b h='7'/>4<c><d i='8'/></c></a>"

// P10.3, W6, W7
func TestTwoAnswersShareNothing(t *testing.T) {
	b := []byte(many)
	one, _ := Read(b)
	two, _ := Read(b)
	want := show(one)
	spoil(&one)
	if show(two) != want {
		t.Error("two answers of Read share memory")
	}
	for range 2 {
		e := some()
		found, _ := Find(e, "u", "b")
		again, _ := Find(e, "u", "b")
		was := show(found)
		spoil(&found)
		if !like(e, some()) || show(again) != was {
			t.Error("what Find answers shares memory")
		}
		spoil(&e)
		if show(again) != was {
			t.Error("what Find answers is a piece of its argument")
		}
	}
}

// lists tells where each list of an element begins, and how many bytes it has with its spare room.
func lists(e api.Elem, told func(from, size uintptr)) {
	if cap(e.Attrs) > 0 {
		told(uintptr(unsafe.Pointer(unsafe.SliceData(e.Attrs))), uintptr(cap(e.Attrs))*unsafe.Sizeof(api.Attr{}))
	}
	if cap(e.Kids) > 0 {
		told(uintptr(unsafe.Pointer(unsafe.SliceData(e.Kids))), uintptr(cap(e.Kids))*unsafe.Sizeof(api.Elem{}))
	}
	for _, k := range e.Kids {
		lists(k, told)
	}
}

// P10.3, W6
func TestNoTwoListsOfOneAnswerShareMemory(t *testing.T) {
	read, _ := Read([]byte(many))
	found, _ := Find(api.Elem{Kids: []api.Elem{read}}, "u", "a")
	for _, e := range []api.Elem{read, found} {
		var from, to []uintptr
		lists(e, func(begin, size uintptr) {
			for i := range from {
				if begin < to[i] && from[i] < begin+size {
					t.Error("two lists share memory")
				}
			}
			from, to = append(from, begin), append(to, begin+size)
		})
		if len(from) < 8 {
			t.Error(len(from))
		}
	}
}

// inside tells whether a text's memory is a piece of another one's.
func inside(part, whole string) bool {
	from := uintptr(unsafe.Pointer(unsafe.StringData(whole)))
	at := uintptr(unsafe.Pointer(unsafe.StringData(part)))
	return part != "" && at >= from && at < from+uintptr(len(whole))
}

// P10.3, W6
func TestTextsAreNewMemory(t *testing.T) {
	s := strings.Clone("spacenametextvalue")
	e := api.Elem{Space: s[:5], Name: s[5:9], Text: s[9:13], Attrs: []api.Attr{{Space: s[:5], Name: s[5:9], Value: s[13:]}}, Kids: []api.Elem{{Text: s[9:13]}}}
	value, _ := Get(e, "space", "name")
	found, _ := Find(api.Elem{Kids: []api.Elem{e}}, "space", "name")
	if !like(found, e) || value != "value" || inside(value, s) {
		t.Error("Get")
	}
	for _, piece := range flat(found) {
		if inside(piece, s) {
			t.Error("Find: " + piece)
		}
	}
}

// P10.3, W2
func TestAnswersHangOnArgumentsAlone(t *testing.T) {
	inputs := []string{many, "<a", "<a b='' b=''/>", "<p:a/>", "<p:a xmlns:p='u'/>", deep(257), deep(258), "<!DOCTYPE", "\xff", "<a>t</a>", wide(100)}
	first := map[string]string{}
	for range 3 {
		for _, in := range inputs {
			got := told(Read([]byte(in)))
			if was, asked := first[in]; asked && was != got {
				t.Errorf("%s: %s, and then %s", in, was, got)
			}
			first[in] = got
		}
		slices.Reverse(inputs)
	}
	e, again := some(), some()
	a, aOK := Find(e, "u", "b")
	b, bOK := Find(again, "u", "b")
	if aOK != bOK || !like(a, b) || !reflect.DeepEqual(e, again) {
		t.Error("Find")
	}
}

// W3: the fields that an answer does not name are empty.
func TestTextsHaveTextsAlone(t *testing.T) {
	e, _ := Read([]byte(many))
	var walk func(api.Elem)
	walk = func(e api.Elem) {
		isText := e.Name == ""
		if isText && (e.Text == "" || e.Space != "" || len(e.Attrs)+len(e.Kids) > 0) || !isText && e.Text != "" {
			t.Errorf("%s", show(e))
		}
		for _, k := range e.Kids {
			walk(k)
		}
	}
	walk(e)
}
