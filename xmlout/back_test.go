package xmlout

import (
	"bytes"
	library "encoding/xml"
	"fmt"
	"io"
	"slices"
	"strconv"
	"strings"
	"testing"
	"unicode/utf8"

	"rubricator/api"
	"rubricator/xml"
)

// ahead is the row with which all that is written begins.
const ahead = "<?xml version=\"1.0\" encoding=\"UTF-8\" standalone=\"yes\"?>\x0a"

// show is an element in short: (space:name space:attribute="value" kid "text").
func show(e api.Elem) string {
	var out strings.Builder
	showTo(&out, e)
	return out.String()
}

func showTo(out *strings.Builder, e api.Elem) {
	fmt.Fprintf(out, "(%q:%q", e.Space, e.Name)
	if e.Text != "" {
		fmt.Fprintf(out, " %q", e.Text)
	}
	for _, a := range e.Attrs {
		fmt.Fprintf(out, " %q:%q=%q", a.Space, a.Name, a.Value)
	}
	for _, k := range e.Kids {
		out.WriteByte(' ')
		showTo(out, k)
	}
	out.WriteByte(')')
}

// cut is a message that is not too long.
func cut(s string) string {
	if len(s) > 600 {
		return s[:300] + " .. " + s[len(s)-300:]
	}
	return s
}

// flat is all fields of an element, one by one.
func flat(e api.Elem) []string {
	out := []string{"(", e.Space, e.Name, e.Text}
	for _, a := range e.Attrs {
		out = append(out, "@", a.Space, a.Name, a.Value)
	}
	for _, k := range e.Kids {
		out = append(out, flat(k)...)
	}
	return append(out, ")")
}

func like(a, b api.Elem) bool { return slices.Equal(flat(a), flat(b)) }

// back holds that an element is written, and read again as it is.
func back(t *testing.T, e api.Elem) {
	t.Helper()
	b, err := Write(e)
	if err != api.OK {
		t.Errorf("%s: error %d", cut(show(e)), err)
		return
	}
	if !bytes.HasPrefix(b, []byte(ahead)) {
		t.Errorf("%s: begins with %q", cut(show(e)), cut(string(b)))
	}
	got, err := xml.Read(b)
	if err != api.OK || !like(got, e) || !xml.Same(got, e) {
		t.Errorf("%s: error %d, %s of %q", cut(show(e)), err, cut(show(got)), cut(string(b)))
	}
}

// backBoth holds that the library, too, reads the element out of what is written.
func backBoth(t *testing.T, e api.Elem) {
	t.Helper()
	back(t, e)
	b, _ := Write(e)
	got, err := byLibrary(b)
	if err != nil || !like(got, e) {
		t.Errorf("%s: by the library %v, %s of %q", cut(show(e)), err, cut(show(got)), cut(string(b)))
	}
}

// byLibrary is the element that bytes tell, as the library has it.
func byLibrary(b []byte) (api.Elem, error) {
	stack := []api.Elem{{}}
	d := library.NewDecoder(bytes.NewReader(b))
	for {
		token, err := d.Token()
		if err == io.EOF {
			break
		}
		if err != nil {
			return api.Elem{}, err
		}
		top := &stack[len(stack)-1]
		switch x := token.(type) {
		case library.StartElement:
			e := api.Elem{Space: x.Name.Space, Name: x.Name.Local}
			for _, a := range x.Attr {
				if a.Name.Space != "xmlns" && (a.Name.Space != "" || a.Name.Local != "xmlns") {
					e.Attrs = append(e.Attrs, api.Attr{Space: a.Name.Space, Name: a.Name.Local, Value: a.Value})
				}
			}
			stack = append(stack, e)
		case library.EndElement:
			done := *top
			stack = stack[:len(stack)-1]
			top = &stack[len(stack)-1]
			top.Kids = append(top.Kids, done)
		case library.CharData:
			if len(stack) > 1 {
				top.Kids = append(top.Kids, text(string(x)))
			}
		}
	}
	if len(stack) != 1 || len(stack[0].Kids) != 1 {
		return api.Elem{}, io.ErrUnexpectedEOF
	}
	return stack[0].Kids[0], nil
}

func text(s string) api.Elem { return api.Elem{Text: s} }

func in(kids ...api.Elem) api.Elem { return api.Elem{Name: "a", Kids: kids} }

func at(attrs ...api.Attr) api.Elem { return api.Elem{Name: "a", Attrs: attrs} }

// told is an answer in short.
func told(b []byte, err api.Errno) string {
	if err == api.OK {
		return string(b)
	}
	if len(b) > 0 {
		return fmt.Sprintf("error %d and %q", err, b)
	}
	return "error " + strconv.Itoa(int(err))
}

// refuse holds that an element is not written, and nothing is answered beside the error.
func refuse(t *testing.T, e api.Elem, want api.Errno) {
	t.Helper()
	if got := told(Write(e)); got != told(nil, want) {
		t.Errorf("%s: %s, want %d", cut(show(e)), cut(got), want)
	}
}

// P11.1
func TestTheDocumentsExample(t *testing.T) { backBoth(t, in(text("<&"))) }

// P11.1
func TestTheFirstRow(t *testing.T) {
	for _, e := range []api.Elem{in(), in(in()), in(text("b")), {Space: "u", Name: "a", Attrs: []api.Attr{{Space: "v", Name: "b"}}}, {Space: api.NsXML, Name: "a"}} {
		b, _ := Write(e)
		rest, is := strings.CutPrefix(string(b), ahead)
		if !is || !strings.HasPrefix(rest, "<") || strings.HasPrefix(rest, "<?") {
			t.Errorf("%q", b)
		}
	}
}

// P11.1
func TestWhatComesBack(t *testing.T) {
	for _, e := range []api.Elem{
		in(), {Name: "a", Attrs: []api.Attr{}, Kids: []api.Elem{}}, {Space: "u", Name: "a"},
		at(api.Attr{Name: "b"}), at(api.Attr{Name: "b", Value: "1"}, api.Attr{Name: "a", Value: "2"}),
		at(api.Attr{Space: "u", Name: "b", Value: "1"}), at(api.Attr{Space: "u", Name: "b"}, api.Attr{Name: "b"}, api.Attr{Space: "v", Name: "b"}),
		in(text("b")), in(in()), in(in(in())), in(in(), in()), in(text("1"), in(), text("2"), in(text("3")), text("4")),
		{Space: "u", Name: "a", Attrs: []api.Attr{{Space: "u", Name: "b", Value: "1"}}},
		{Space: "u", Name: "a", Attrs: []api.Attr{{Name: "b", Value: "1"}}},
		{Space: "u", Name: "a", Attrs: []api.Attr{{Space: "v", Name: "b", Value: "1"}, {Space: "u", Name: "b", Value: "2"}, {Name: "b", Value: "3"}}},
		{Space: "u", Name: "u", Attrs: []api.Attr{{Space: "u", Name: "u", Value: "u"}, {Name: "u", Value: "u"}}, Kids: []api.Elem{text("u"), {Space: "u", Name: "u"}, {Name: "u"}}},
		{Space: "u", Name: "a", Kids: []api.Elem{{Name: "b"}}},
		{Space: "u", Name: "a", Kids: []api.Elem{{Name: "b", Kids: []api.Elem{{Space: "u", Name: "c", Kids: []api.Elem{{Name: "d"}}}}}, {Space: "u", Name: "e"}}},
		{Space: "u", Name: "a", Kids: []api.Elem{{Space: "v", Name: "b", Kids: []api.Elem{{Space: "u", Name: "c"}}}, {Space: "u", Name: "b"}, {Space: "v", Name: "b"}}},
		{Name: "a", Kids: []api.Elem{{Space: "u", Name: "b", Kids: []api.Elem{{Name: "c"}}}, {Name: "d"}}},
		{Name: "a", Kids: []api.Elem{{Name: "b", Attrs: []api.Attr{{Space: "u", Name: "c"}}}, {Space: "u", Name: "d"}}},
		{Space: api.NsXML, Name: "a"}, {Space: api.NsXML, Name: "xml", Kids: []api.Elem{{Space: api.NsXML, Name: "xmlns"}, {Name: "b"}}},
		at(api.Attr{Space: api.NsXML, Name: "space", Value: "preserve"}, api.Attr{Name: "space"}),
		at(api.Attr{Name: "b", Value: api.NsXML}, api.Attr{Space: api.NsXML, Name: "b", Value: api.NsXML}),
		{Space: "u", Name: "a", Attrs: []api.Attr{{Space: api.NsXML, Name: "lang"}}, Kids: []api.Elem{{Space: api.NsXML, Name: "b"}, {Name: "c"}}},
		{Space: "u", Name: "a", Attrs: []api.Attr{{Space: "u", Name: "xmlns", Value: "v"}, {Space: api.NsXML, Name: "xmlns", Value: ""}}, Kids: []api.Elem{{Name: "b"}, {Space: "v", Name: "c"}}},
		{Name: "xml"}, {Name: "XMLNS"}, at(api.Attr{Name: "xml", Value: "v"}, api.Attr{Name: "xmlnsx"}, api.Attr{Name: "xmln"}, api.Attr{Name: "Xmlns"}),
		{Space: "http://www.w3.org/2000/xmlns/x", Name: "a"}, {Space: "xml", Name: "a", Attrs: []api.Attr{{Space: "xml:", Name: "b"}, {Space: ":", Name: "b"}, {Space: "n1", Name: "n1"}, {Space: "n2", Name: "n1"}}},
		{Name: "n1", Kids: []api.Elem{{Space: "n2", Name: "n2"}, {Space: "n1", Name: "n2"}, {Name: "n2"}}},
		{Space: "u", Name: "_a.-9", Attrs: []api.Attr{{Name: "é-"}, {Space: "v", Name: "_"}}},
		{Space: "u", Name: "a", Kids: []api.Elem{{Space: "U", Name: "a"}, {Space: "u ", Name: "a"}, {Space: " u", Name: "a"}, {Space: "u/", Name: "a"}}},
		{Space: " ", Name: "a", Kids: []api.Elem{{Space: "  ", Name: "a"}, {Space: "\n", Name: "a"}, {Space: "\t", Name: "a"}, {Space: "\r", Name: "a"}, {Space: "\r\n", Name: "a"}}},
		{Space: "a&b", Name: "a", Kids: []api.Elem{{Space: "a&amp;b", Name: "a"}, {Space: "<\"'>", Name: "a", Attrs: []api.Attr{{Space: "&#65;", Name: "b"}, {Space: "A", Name: "b"}}}}},
	} {
		backBoth(t, e)
	}
	// Of these the library has its own thoughts.
	back(t, api.Elem{Space: "u", Name: "xmlns", Kids: []api.Elem{{Space: "u", Name: "xmlns"}, {Space: "v", Name: "xmlns"}}})
	back(t, api.Elem{Space: "xmlns", Name: "a", Attrs: []api.Attr{{Space: "xmlns", Name: "b"}, {Space: "http://www.w3.org/2000/xmlns/", Name: "c"}}})
	back(t, api.Elem{Space: "http://www.w3.org/2000/xmlns/", Name: "a"})
}

// Ours: few bytes, as all parts of a package share those that may come out; and what other readers than chapter 10's take.
func TestFewBytes(t *testing.T) {
	for _, x := range []struct {
		e    api.Elem
		want string
	}{
		{in(), "<a/>"},
		{in(text("\"'\t\n&<>\r")), "<a>\"'\t\n&amp;&lt;&gt;&#13;</a>"},
		{at(api.Attr{Name: "b", Value: "\"'\t\n&<>\r"}), `<a b="&quot;'&#9;&#10;&amp;&lt;&gt;&#13;"/>`},
		{api.Elem{Space: "u", Name: "a", Kids: []api.Elem{{Space: "u", Name: "b", Attrs: []api.Attr{{Name: "c"}}}, text("t")}}, `<a xmlns="u"><b c=""/>t</a>`},
		{api.Elem{Space: "u", Name: "a", Kids: []api.Elem{{Space: "v", Name: "b", Attrs: []api.Attr{{Space: "u", Name: "c"}}}, {Space: "v", Name: "b", Kids: []api.Elem{{Space: "u", Name: "d"}}}}}, `<a xmlns="u" xmlns:n0="v" xmlns:n1="u"><n0:b n1:c=""/><n0:b><d/></n0:b></a>`},
		{api.Elem{Space: "u", Name: "a", Kids: []api.Elem{{Space: "u", Name: "b", Kids: []api.Elem{in()}}, {Space: "u", Name: "b"}}}, `<n0:a xmlns:n0="u"><n0:b><a/></n0:b><n0:b/></n0:a>`},
		{in(api.Elem{Space: "u", Name: "b"}, api.Elem{Space: "u", Name: "b"}), `<a xmlns:n0="u"><n0:b/><n0:b/></a>`},
		{api.Elem{Space: api.NsXML, Name: "a", Attrs: []api.Attr{{Space: api.NsXML, Name: "b"}}, Kids: []api.Elem{{Space: "u", Name: "c"}}}, `<xml:a xmlns:n0="u" xml:b=""><n0:c/></xml:a>`},
	} {
		if b, err := Write(x.e); err != api.OK || string(b) != ahead+x.want {
			t.Errorf("%s: error %d, %q", show(x.e), err, b)
		}
		backBoth(t, x.e)
	}
}

// P11.1: each of seven places in which a space may stand has any of them.
func TestSpacesWithinOneAnother(t *testing.T) {
	spaces := []string{"", "u", "v", api.NsXML}
	many := len(spaces)
	for n := range many * many * many * many * many * many * many {
		s := func() string {
			space := spaces[n%many]
			n /= many
			return space
		}
		e := api.Elem{Space: s(), Name: "a", Attrs: []api.Attr{{Space: s(), Name: "x"}}}
		deeper := api.Elem{Space: s(), Name: "c", Kids: []api.Elem{text("t")}}
		e.Kids = []api.Elem{{Space: s(), Name: "b", Attrs: []api.Attr{{Space: s(), Name: "x", Value: "1"}}, Kids: []api.Elem{deeper}}, {Space: s(), Name: "b"}, text("t"), {Space: s(), Name: "b"}}
		backBoth(t, e)
		if t.Failed() {
			return
		}
	}
}

// P11.1: texts as content and as values, and as spaces.
func TestTexts(t *testing.T) {
	pieces := []string{
		" ", "\t", "\n", "\r", "\r\n", "]]>", "]", ">", "]]", "<", "&", "\"", "'", "<!--", "-->", "--", "<?", "?>", "<![CDATA[", "<!DOCTYPE", "</a>", "/>", "<b/>",
		"&amp;", "&lt;", "&#60;", "&#x3c;", "&#13;", "&;", "&a", ";", "&#", "&#0;", "&quot;", "&apos;", "=", "xmlns=''", "é", "\u20ac", "\U0001f600", "\u0085", "\u2028", "\ufeff", "\ufffd", "\x7f", "\u00a0", ahead, "a",
	}
	for _, p := range pieces {
		for _, q := range append(pieces, "") {
			for _, s := range []string{p + q, "a" + p + q, p + q + "a", "a" + p + "b" + q + "c", p + q + p} {
				backBoth(t, in(text(s)))
				backBoth(t, in(in(), text(s), in()))
				backBoth(t, api.Elem{Space: s, Name: "a", Attrs: []api.Attr{{Name: "b", Value: s}, {Space: s, Name: "b", Value: s + "1"}}})
			}
			if t.Failed() {
				return
			}
		}
	}
}

// mayStand is the document's list of runes of a text.
func mayStand(v rune) bool {
	return v == 9 || v == 0xa || v == 0xd || v >= 0x20 && v <= 0xd7ff || v >= 0xe000 && v <= 0xfffd || v >= 0x10000 && v <= 0x10ffff
}

// runed is an element that has runes in all places in which they may stand.
func runed(s string, isName bool) api.Elem {
	e := api.Elem{Space: s, Name: "b", Attrs: []api.Attr{{Name: "x", Value: s}, {Space: s, Name: "y", Value: "1" + s + "2"}}, Kids: []api.Elem{text(s), in(), text("1" + s + "2")}}
	if isName {
		e.Name, e.Attrs[0].Name = s, "x"+s
	}
	return e
}

// P11.1: each rune that may stand there, as text, value and space, and in names; those of few bytes alone.
func TestEachRune(t *testing.T) {
	all, row := in(), ""
	for v := rune(0); v <= utf8.MaxRune; v++ {
		if mayStand(v) {
			row += string(v)
		}
		if v < 0x1000 || v%128 == 127 {
			if row != "" {
				all.Kids = append(all.Kids, runed(row, v >= 0x80))
			}
			row = ""
		}
		if len(all.Kids) > 2000 || v == utf8.MaxRune {
			back(t, all)
			all.Kids = nil
		}
	}
}

// P11.1: each byte is a text, a value and a space, or is refused.
func TestEachByte(t *testing.T) {
	for c := range 256 {
		s := string([]byte{byte(c)})
		for _, s := range []string{s, "a" + s, s + "a", "a" + s + "b", "\u20ac" + s, s + "\u20ac", s + s} {
			for _, e := range []api.Elem{in(text(s)), at(api.Attr{Name: "b", Value: s}), {Space: s, Name: "a"}, at(api.Attr{Space: s, Name: "b"})} {
				if c < 0x80 && mayStand(rune(c)) {
					backBoth(t, e)
				} else {
					refuse(t, e, api.ErrText)
				}
			}
		}
	}
}

// P11.1, W1: long texts, long names, and many of all.
func TestMany(t *testing.T) {
	const many = 1 << 18
	for _, s := range []string{"a", "&", "<", ">", "]]>", "\"", "'", "\r", "\n", "\t", " ", "é", "\U0001f600", "&amp;"} {
		s = strings.Repeat(s, many/len(s))
		back(t, in(text(s)))
		back(t, api.Elem{Space: s, Name: "a", Attrs: []api.Attr{{Space: s, Name: "b", Value: s}}, Kids: []api.Elem{{Space: s, Name: "b"}, {Name: "c"}}})
	}
	long := strings.Repeat("é", many)
	back(t, api.Elem{Space: "u", Name: long, Attrs: []api.Attr{{Name: long}, {Space: "u", Name: long}}})
	e := api.Elem{Name: "a"}
	for i := range 60000 {
		n := strconv.Itoa(i)
		e.Attrs = append(e.Attrs, api.Attr{Name: "b" + n, Value: n}, api.Attr{Space: "u" + n, Name: "b", Value: n})
	}
	for i := range api.MaxElems - 1 {
		e.Kids = append(e.Kids, api.Elem{Space: "v" + strconv.Itoa(i), Name: "a"})
	}
	back(t, e)
	e.Attrs = append(e.Attrs, api.Attr{Space: "u0", Name: "b"})
	refuse(t, e, api.ErrHas)
}
