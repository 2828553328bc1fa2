package xml

import (
	"fmt"
	"maps"
	"math/rand"
	"slices"
	"strings"
	"testing"

	"rubricator/api"
)

// everyRow tells all rows of at most so many pieces.
func everyRow(pieces []string, most int, told func(string)) {
	var more func(string, int)
	more = func(s string, left int) {
		told(s)
		if left == 0 {
			return
		}
		for _, p := range pieces {
			more(s+p, left-1)
		}
	}
	more("", most)
}

// P10.1
func TestEveryRowOfFewPieces(t *testing.T) {
	for _, x := range []struct {
		ahead, behind string
		most          int
		pieces        []string
	}{
		{"", "", 4, []string{"<a>", "</a>", "<b/>", " ", "x", "<!---->", "<?p?>", "<!DOCTYPE", "&lt;", "<?xml?>", "<", ">"}},
		{"<a>", "</a>", 4, []string{"<b>", "</b>", "<b/>", "</a>", "x", "]]>", "&#65;", "<![CDATA[", "<!--", "-->", "<?p", "?>"}},
		{"<a", "/>", 5, []string{" ", "b", "=", "'1'", ":", "\"&lt;\"", ">", "/", "xmlns"}},
		{"<a xmlns='u' xmlns:p='v'>", "</a>", 4, []string{"<p:b", "<b", " p:c=''", " c=''", " xmlns=''", " xmlns:p='w'", " xmlns:q='v'", " q:c=''", ">", "/>", "</b>", "</p:b>"}},
		{"<!--", "-->", 6, []string{"-", ">", " ", "<a/>", "<!--"}},
		{"<?", "?><a/>", 5, []string{"p", "xml", "XML", "?", ">", " ", "<a/>"}},
		{"<a><![CDATA[", "]]></a>", 6, []string{"]", ">", "x", "<", "&"}},
		{"<a>&", ";</a>", 5, []string{"#", "x", "0", "4", "a", "1", ";", "lt"}},
	} {
		everyRow(x.pieces, x.most, func(s string) {
			if in := x.ahead + s; !t.Failed() {
				byModel(t, in)
				byModel(t, in+x.behind)
			}
		})
	}
}

// drawer draws elements together with the bytes that tell them.
type drawer struct {
	*rand.Rand
	left int // how many elements may still be drawn
}

func (r drawer) one(of ...string) string { return of[r.Intn(len(of))] }

func (r drawer) blanks(least int) string {
	s := ""
	for range least + r.Intn(3)*r.Intn(2) {
		s += r.one(" ", "\t", "\n", "\r", "\r\n")
	}
	return s
}

var (
	drawnNames  = []string{"a", "b", "xml", "xmlns", "é", "_.-1"}
	drawnSpaces = []string{"u", "v", "u&", "http://w"}
	drawnRunes  = []rune("ab<>&\"' \t\n]\r;#é€\U0001f600")
)

// text is a text, and some bytes that tell it; quote is 0 in content.
func (r drawer) text(quote rune) (told, in string) {
	for range r.Intn(6) {
		v := drawnRunes[r.Intn(len(drawnRunes))]
		told += string(v)
		in += r.spelt(v, quote)
	}
	return told, in
}

// spelt is one rune in some way in which it may be written.
func (r drawer) spelt(v, quote rune) string {
	named := map[rune]string{'&': "&amp;", '<': "&lt;", '>': "&gt;", '"': "&quot;", '\'': "&apos;"}[v]
	asItIs := v != '<' && v != '&' && v != '\r' && v != quote && (quote != 0 || v != ']') && (quote == 0 || v != '\t' && v != '\n')
	switch {
	case asItIs && v == '\n' && r.Intn(2) == 0:
		return "\r\n"
	case asItIs && v == ' ' && quote != 0 && r.Intn(2) == 0:
		return r.one("\t", "\n", "\r\n")
	case asItIs && r.Intn(4) > 0:
		return string(v)
	case named != "" && r.Intn(2) == 0:
		return named
	case quote == 0 && v != '\r' && r.Intn(3) == 0:
		return "<![CDATA[" + string(v) + "]]>"
	}
	return fmt.Sprintf(r.one("&#%d;", "&#x%x;", "&#x%X;", "&#%07d;", "&#x%08x;"), v)
}

func (r drawer) aside() string {
	if r.Intn(3) > 0 {
		return ""
	}
	return r.one("<!---->", "<!--<a>&-->", "<?p?>", "<?xmlx <a ?>", "<!-- - ]]>-->", "<![CDATA[]]>")
}

func (r drawer) attr(name, told, in string, quote rune) string {
	return r.blanks(1) + name + r.blanks(0) + "=" + r.blanks(0) + string(quote) + in + string(quote)
}

// tellings is what a tag tells of spaces, which is told from here on.
func (r drawer) tellings(spaces map[string]string) string {
	in := ""
	for _, prefix := range []string{"", "p", "q"} {
		if r.Intn(4) > 0 {
			continue
		}
		space := drawnSpaces[r.Intn(len(drawnSpaces))]
		name := "xmlns:" + prefix
		if prefix == "" {
			name = "xmlns"
			space = r.one(space, "")
		}
		spaces[prefix] = space
		in += r.attr(name, space, strings.ReplaceAll(space, "&", "&amp;"), '\'')
	}
	return in
}

// qualified is a name of one of the prefixes that are told.
func (r drawer) qualified(spaces map[string]string) (prefix, name, in string) {
	prefixes := slices.Sorted(maps.Keys(spaces))
	prefix, name = r.one(prefixes...), r.one(drawnNames...)
	if prefix == "" {
		return prefix, name, name
	}
	return prefix, name, prefix + ":" + name
}

// elem is an element and bytes that tell it, all within some others that tell spaces.
func (r *drawer) elem(about int, outside map[string]string) (api.Elem, string) {
	r.left--
	spaces := maps.Clone(outside)
	tells := r.tellings(spaces)
	prefix, name, tag := r.qualified(spaces)
	e := api.Elem{Space: spaces[prefix], Name: name}
	attrs := ""
	for range r.Intn(4) {
		prefix, name, in := r.qualified(spaces)
		space := spaces[prefix]
		if prefix == "" {
			space = ""
		}
		if slices.ContainsFunc(e.Attrs, func(a api.Attr) bool { return a.Space == space && a.Name == name }) || in == "xmlns" {
			continue
		}
		quote := []rune(`"'`)[r.Intn(2)]
		value, spelt := r.text(quote)
		e.Attrs = append(e.Attrs, api.Attr{Space: space, Name: name, Value: value})
		attrs += r.attr(in, value, spelt, quote)
	}
	if r.Intn(2) == 0 {
		attrs, tells = tells, attrs
	}
	in := "<" + tag + attrs + tells + r.blanks(0)
	if r.Intn(4) == 0 {
		return e, in + "/>"
	}
	kids, content := r.content(about, spaces)
	e.Kids = kids
	return e, in + ">" + content + "</" + tag + r.blanks(0) + ">"
}

func (r *drawer) content(about int, spaces map[string]string) ([]api.Elem, string) {
	told, in := r.text(0)
	var kids []api.Elem
	add := func() {
		if told != "" {
			kids = append(kids, api.Elem{Text: told})
		}
	}
	in = r.aside() + in + r.aside()
	for range r.Intn(5) {
		if about > 6 || r.left <= 0 {
			break
		}
		add()
		kid, bytes := r.elem(about+1, spaces)
		kids = append(kids, kid)
		more := ""
		told, more = r.text(0)
		in += bytes + r.aside() + more + r.aside()
	}
	add()
	return kids, in
}

// whole is an element with what may stand about it.
func (r *drawer) whole() (api.Elem, string) {
	e, in := r.elem(0, map[string]string{"": "", "xml": xmlSpace})
	misc := func() string {
		return r.blanks(0) + strings.ReplaceAll(r.aside()+r.blanks(0)+r.aside(), "<![CDATA[]]>", "")
	}
	return e, r.one("", mark) + r.one("", "<?xml?>", "<?xml version='1.0'?>\r\n") + misc() + in + misc()
}

// P10.1: elements that are known ahead, told in any way in which they may be.
func TestDrawnElements(t *testing.T) {
	for seed := range 3000 {
		r := &drawer{rand.New(rand.NewSource(int64(seed))), 40}
		e, in := r.whole()
		got, err := Read([]byte(in))
		if err != api.OK || !like(got, e) || !Same(got, e) {
			t.Fatalf("%q: %s, want %s", in, told(got, err), show(e))
		}
		if seed%5 == 0 {
			byModel(t, in)
		}
	}
}

// turn is a text with some of its bytes gone, others, there twice, or strange ones between.
func (r drawer) turn(in string) string {
	for range 1 + r.Intn(2) {
		i := r.Intn(len(in) + 1)
		j := min(len(in), i+1+r.Intn(4))
		switch r.Intn(6) {
		case 0:
			in = in[:i] + in[j:]
		case 1:
			in = in[:i] + in[i:j] + in[i:]
		case 2:
			in = in[:i]
		case 3:
			in = in[:i] + string([]byte{byte(r.Intn(256))}) + in[j:]
		case 4:
			in = in[:i] + string(rune(r.Intn(128))) + in[i:]
		default:
			in = in[:i] + r.one("<", ">", "/", "&", ";", "'", "\"", " ", "<a", "</a>", "]]>", "--", "<!--", "?>", "<!DOCTYPE", "xmlns:p=''", " a='' a=''", "p:", ":", "<p:a", "xml") + in[i:]
		}
	}
	return in
}

// P10.1
func TestDrawnElementsThatAreTurned(t *testing.T) {
	fine := 0
	for seed := range 2000 {
		r := &drawer{rand.New(rand.NewSource(int64(seed))), 6}
		_, in := r.whole()
		for range 10 {
			turned := r.turn(in)
			byModel(t, turned)
			if _, e := Read([]byte(turned)); e == api.OK {
				fine++
			}
		}
		if t.Failed() {
			return
		}
	}
	if fine < 1000 {
		t.Errorf("only %d are still elements", fine)
	}
}

// P10.1: any pieces one behind the other.
func TestDrawnPieces(t *testing.T) {
	pieces := []string{"<", ">", "/", "</", "/>", "<a", "<a>", "</a>", "<b/>", " ", "\n", "\r", "\t", "a", "b", "xml", "xmlns", ":", "=", "'", "\"", "''", "'u'", "&", ";", "&lt;", "&#65;", "#", "x", "1", "<!--", "-->", "--", "-", "<?", "?>", "?", "<![CDATA[", "]]>", "]", "<!DOCTYPE", "!", "é", "\u0085", "\xff", "\x00", mark}
	r := drawer{rand.New(rand.NewSource(10)), 0}
	for range 60000 {
		in := r.one("", "<a>", "<a ", "<a>", "<a x='", "<!--", "<?p")
		for range r.Intn(9) {
			in += r.one(pieces...)
		}
		byModel(t, in+r.one("", "</a>", "'/>", "/>"))
		if t.Failed() {
			return
		}
	}
}

// P10.1, W1: bytes of any kind, and many of one.
func TestManyBytes(t *testing.T) {
	const many = 1 << 20
	for _, s := range []string{"<", "<!", "<!--", "<!-->", "<?", "<?p ", "<?p?>", "<![CDATA[", "<a ", "<a>", "<a x='", "&", "&#", "&lt;", "]", "]]>", "-", "\n", "\r", "\xff", "\x00", "é", "a", "'", "</a>", " x=''", mark} {
		row := strings.Repeat(s, many/len(s))
		for _, ahead := range []string{"", "<a>", "<a", "<a x='", "<!--", "<?p "} {
			if e, err := Read([]byte(ahead + row)); err == api.OK || !like(e, api.Elem{}) {
				t.Errorf("%q and many %q: %s", ahead, s, asked(told(e, err)))
			}
		}
	}
	long := strings.Repeat("a", many)
	alone(t, "<"+long+"/>", "(:"+long+")")
	alone(t, "<a>"+long+"&lt;"+long+"</a>", texted(long+"<"+long))
	alone(t, "<a x='"+long+"'/>", valued(long))
	alone(t, "<a>"+strings.Repeat("&lt;", many/4)+"</a>", texted(strings.Repeat("<", many/4)))
	alone(t, "<a>"+strings.Repeat("<!---->", many/8)+"</a>", "(:a)")
	alone(t, "<a>"+strings.Repeat("<![CDATA[b]]>", many/16)+"</a>", texted(strings.Repeat("b", many/16)))
	alone(t, strings.Repeat("<?p?>\n", many/8)+"<a/>"+strings.Repeat(" ", many), "(:a)")
}

func BenchmarkRead(b *testing.B) {
	in := []byte("<a xmlns='u' xmlns:p='v'>" + strings.Repeat("<p:b p:c='1' d=\"2\">text &amp; more<e/></p:b>\n", 8000) + "</a>")
	b.SetBytes(int64(len(in)))
	for b.Loop() {
		Read(in)
	}
}
