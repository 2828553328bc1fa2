package xml

import (
	"strings"
	"testing"

	"rubricator/api"
)

// fault is a piece of content that has an error.
type fault struct {
	in  string
	err api.Errno
}

// faults are in content of an element a that tells the prefixes p and q of one space, and of no other.
var faults = []fault{
	{"&b;", api.ErrSyntax},
	{"]]>", api.ErrSyntax},
	{"<1>", api.ErrSyntax},
	{"<!DOCTYPE a>", api.ErrSyntax},
	{"<!---- ", api.ErrSyntax},
	{"<?xml?>", api.ErrSyntax},
	{"</b>", api.ErrSyntax},
	{"<b c='<'/>", api.ErrSyntax},
	{"<b c='' c='' ]>", api.ErrSyntax},
	{"<n:b n:c='' c>", api.ErrSyntax},
	{"<b xmlns:n=''>", api.ErrSyntax},
	{"<b xmlns:xml='u'/>", api.ErrSyntax},
	{"<b c='' c=''>", api.ErrHas},
	{"<b p:c='' q:c=''/>", api.ErrHas},
	{"<b xmlns='u' xmlns='u'/>", api.ErrHas},
	{"<n:b>", api.ErrSpace},
	{"<b n:c=''/>", api.ErrSpace},
	{strings.Repeat("<b>", 257), api.ErrFull},
	{strings.Repeat("<b/>", api.MaxElems), api.ErrFull},
}

const opened = `<a xmlns:p="u" xmlns:q="u">`

// P10.1: of every two errors the one that comes first, and none is hidden by what is in order ahead of it.
func TestTheFirstErrorFromLeftToRight(t *testing.T) {
	const fine = "1<c/><d p:e=''>2</d><!----><?f?><![CDATA[]]>"
	for _, x := range faults {
		refuse(t, opened+x.in, x.err)
		refuse(t, opened+fine+x.in+fine+"</a>", x.err)
		refuse(t, opened+x.in+"\x00", api.ErrText)
		refuse(t, opened+x.in+"</a>\xff", api.ErrText)
		refuse(t, "\ufffe"+opened+x.in, api.ErrText)
		refuse(t, "<!DOCTYPE a>"+opened+x.in, api.ErrDoctype)
		refuse(t, "<!--b--> <?c?>\n<!DOCTYPE a>"+opened+x.in, api.ErrDoctype)
		refuse(t, "b"+opened+x.in, api.ErrSyntax)
		refuse(t, "<b/>"+opened+x.in, api.ErrSyntax)
		for _, y := range faults {
			alone(t, opened+x.in+y.in, told(api.Elem{}, x.err))
		}
	}
	for _, x := range faults {
		for _, y := range faults {
			if len(x.in)+len(y.in) < 100 {
				byModel(t, opened+x.in+y.in+"</a>")
			}
		}
	}
}

// P10.1: errors at one tag's end have an order of their own, whatever the order of the attributes.
func TestTheOrderAtATagsEnd(t *testing.T) {
	groups := []struct {
		attrs string
		err   api.Errno
	}{
		{"b='' b=''", api.ErrHas},
		{"xmlns:n=''", api.ErrSyntax},
		{"m:b=''", api.ErrSpace},
		{"p:c='' q:c=''", api.ErrHas},
	}
	for first := range groups {
		for set := range 1 << (len(groups) - first - 1) {
			ahead, behind := "", ""
			for i := first; i < len(groups); i++ {
				if i == first || set>>(i-first-1)&1 == 1 {
					ahead, behind = ahead+" "+groups[i].attrs, " "+groups[i].attrs+behind
				}
			}
			for _, attrs := range []string{ahead, behind} {
				for _, end := range []string{"/>", ">", " />", " >"} {
					refuse(t, opened+"<d"+attrs+end, groups[first].err)
					refuse(t, opened+"<d"+attrs+end+"<1", groups[first].err)
				}
				for _, end := range []string{"", " ", "/", " /", "]>", "x>", "/ >", "<"} {
					refuse(t, opened+"<d"+attrs+end, api.ErrSyntax)
				}
			}
		}
	}
	for _, x := range []fault{
		{"<p:a b='' b=''/>", api.ErrHas}, {"<p:a xmlns:n=''/>", api.ErrSyntax}, {"<p:a m:b=''/>", api.ErrSpace}, {"<p:a><", api.ErrSpace}, {"<p:a/><", api.ErrSpace}, {"<p:a", api.ErrSyntax}, {"<p:a ", api.ErrSyntax}, {"<p:a/", api.ErrSyntax}, {"<p:a></b>", api.ErrSpace}, {"<a b='' b='' ", api.ErrSyntax}, {"<a b='' b='&'/>", api.ErrSyntax}, {"<a b='' b=''/>x", api.ErrHas},
	} {
		refuse(t, x.in, x.err)
	}
}

// P10.1
func TestTypesOfDocuments(t *testing.T) {
	const sign = "<!DOCTYPE"
	for _, ahead := range []string{"", " ", "\r\n", "<!---->", "<?p?>", "<?xml?>", "<?xml version='1.0'?>\n<!--b--> ", mark, mark + "<?xml?>", "<!--<!DOCTYPE a>-->"} {
		for _, behind := range []string{"", " a>", " a><a/>", "a", ">", "<", "\n", " a SYSTEM 'b' [<!ENTITY c 'd'>]><a/>"} {
			refuse(t, ahead+sign+behind, api.ErrDoctype)
		}
		for i := range sign {
			if i > 0 {
				refuse(t, ahead+sign[:i], api.ErrSyntax)
				refuse(t, ahead+sign[:i]+" a><a/>", api.ErrSyntax)
			}
			refuse(t, ahead+sign[:i]+"b"+sign[i:]+" a><a/>", api.ErrSyntax)
		}
		refuse(t, ahead+strings.ToLower(sign)+" a><a/>", api.ErrSyntax)
		refuse(t, ahead+"<!Doctype a><a/>", api.ErrSyntax)
		refuse(t, ahead+"< !DOCTYPE a><a/>", api.ErrSyntax)
		refuse(t, ahead+"<! DOCTYPE a><a/>", api.ErrSyntax)
		refuse(t, ahead+"x<!DOCTYPE a><a/>", api.ErrSyntax)
		refuse(t, ahead+"<!--<!DOCTYPE a><a/>", api.ErrSyntax)
	}
	for _, in := range []string{"<a/><!DOCTYPE a>", "<a></a>\n<!DOCTYPE a>", "<a><!DOCTYPE a></a>", "<a>b<!DOCTYPE", "<a <!DOCTYPE a>", "<a/><!---->" + sign, " <?xml?>" + sign, "<!-- -- -->" + sign, "<?1?>" + sign, "<?XML?>" + sign} {
		refuse(t, in, api.ErrSyntax)
	}
}

// P10.1
func TestBytesThatAreNoText(t *testing.T) {
	for c := range 256 {
		s, err := string([]byte{byte(c)}), api.OK
		if c < 0x20 && c != 9 && c != 0xa && c != 0xd || c >= 0x80 {
			err = api.ErrText
		}
		for _, in := range []string{"<a>" + s + "</a>", "<a x='" + s + "'/>", "<!--" + s + "--><a/>", "<a><?p " + s + "?></a>", "<a><![CDATA[" + s + "]]></a>", s, s + "<a/>", "<a/>" + s, "<a" + s, "<1" + s, "<!DOCTYPE" + s, "<" + s + "a/>", mark + s} {
			byModel(t, in)
			if _, e := Read([]byte(in)); err == api.ErrText && e != err {
				t.Errorf("%q: error %d", in, e)
			}
		}
	}
	for _, s := range []string{"\ufffe", "\uffff", "\xed\xa0\x80", "\xed\xbf\xbf", "\xc0\x80", "\xe0\x80\xaf", "\xf4\x90\x80\x80", "\xe2\x82", "\xf0\x9f\x98", "\x80", "a\x00"} {
		for _, in := range []string{s, "<a>" + s + "</a>", "<a/>" + s, "<" + s, "<!DOCTYPE" + s, strings.Repeat("<a>", 300) + s} {
			refuse(t, in, api.ErrText)
		}
	}
	for _, v := range []rune{0x7f, 0x80, 0x85, 0x9f, 0xd7ff, 0xe000, 0xfeff, 0xfffd, 0x10000, 0x1fffe, 0x1ffff, 0x10ffff} {
		ask(t, "<a>"+string(v)+"</a>", texted(string(v)))
	}
}

// P10.1
func TestAWholeElementCutOff(t *testing.T) {
	for _, in := range []string{
		"<a/>", "<a></a >", `<a x = "1" />`, "<p:a xmlns:p='u' p:x='&lt;&#65;&#x41;'>t<b/>&amp;<![CDATA[]]]]>]]&gt;<!--c--><?d e?></p:a\n>", "<?xml version='1.0'?>\n<!--b-->\n<a><b><c></c></b></a>", mark + "<?xml?><a>\r\n</a>",
	} {
		if _, e := Read([]byte(in)); e != api.OK {
			t.Fatalf("%q: error %d", in, e)
		}
		byModel(t, in)
		for i := range len(in) {
			want := api.ErrSyntax
			if strings.HasPrefix(in, mark) && (i == 1 || i == 2) {
				want = api.ErrText
			}
			refuse(t, in[:i], want)
			byModel(t, in[i:])
		}
		for i := range len(in) {
			byModel(t, in[:i]+in[i+1:])
			byModel(t, in[:i]+in[i:i+1]+in[i:])
		}
	}
}

func deep(n int) string { return strings.Repeat("<a>", n) + strings.Repeat("</a>", n) }

func wide(n int) string { return "<a>" + strings.Repeat("<b/>", n-1) + "</a>" }

func depth(e api.Elem) int {
	most := 0
	for _, k := range e.Kids {
		most = max(most, depth(k))
	}
	return most + 1
}

// P10.1
func TestElementsWithinOneAnother(t *testing.T) {
	for _, n := range []int{1, 2, 255, 256, 257} {
		e, err := Read([]byte(deep(n)))
		if err != api.OK || depth(e) != n {
			t.Errorf("%d: error %d, deep %d", n, err, depth(e))
		}
		byModel(t, deep(n))
	}
	most := strings.Repeat("<a>", 257)
	ends := strings.Repeat("</a>", 257)
	for _, x := range []fault{
		{deep(258), api.ErrFull}, {deep(259), api.ErrFull}, {deep(60000), api.ErrFull}, {strings.Repeat("<a>", 1<<20), api.ErrFull},
		{most + "<a", api.ErrFull}, {most + "<a a", api.ErrFull}, {most + "<é", api.ErrFull}, {most + "<_", api.ErrFull}, {most + "<a:1", api.ErrFull}, {most + "<p:a/>" + ends, api.ErrFull}, {most + "<b/>" + ends, api.ErrFull}, {most + "<b x='' x=''/>" + ends, api.ErrFull}, {most + "x&lt;<!----><?p?><b", api.ErrFull},
		{most + "<", api.ErrSyntax}, {most + "<1", api.ErrSyntax}, {most + "<:a", api.ErrSyntax}, {most + "<-", api.ErrSyntax}, {most + "< a", api.ErrSyntax}, {most + "<>", api.ErrSyntax}, {most + "</b>", api.ErrSyntax}, {most + "<!a", api.ErrSyntax}, {most + "<?1", api.ErrSyntax}, {most + "&b;<a>", api.ErrSyntax}, {most, api.ErrSyntax}, {most + "</a", api.ErrSyntax}, {most + ends + "<a", api.ErrSyntax},
	} {
		refuse(t, x.in, x.err)
	}
	for _, in := range []string{
		most + "x<!--b--><?p?><![CDATA[c]]>&lt;" + ends,
		strings.Repeat("<a>", 256) + "<b/><b></b><b/>" + strings.Repeat("</a>", 256),
		"<a>" + strings.Repeat(deep(256), 3) + "</a>",
		strings.Repeat("<a><b/>", 256) + "<c/>" + strings.Repeat("<b/></a>", 256),
	} {
		if _, e := Read([]byte(in)); e != api.OK {
			t.Errorf("%s: error %d", asked(in), e)
		}
		byModel(t, in)
	}
}

func count(e api.Elem) int {
	n := 1
	for _, k := range e.Kids {
		if k.Name != "" {
			n += count(k)
		}
	}
	return n
}

// P10.1
func TestAsManyElementsAsMayBe(t *testing.T) {
	const most = api.MaxElems
	more := func(in string) string { return strings.TrimSuffix(in, "</a>") }
	for _, in := range []string{
		wide(most),
		"<a>" + strings.Repeat("x<b y=''>&lt;</b><!--c--><?d?><![CDATA[<e/>]]>", most-1) + "</a>",
		"<a>" + strings.Repeat("<b><c/></b>", (most-2)/2) + "<d/></a>",
		"<a>" + strings.Repeat(deep(255), 64) + strings.Repeat("<b></b>", most-1-255*64) + "</a>",
		"<!--<a/>--><a>" + strings.Repeat("<b/>\r\n", most-1) + "</a>",
	} {
		e, err := Read([]byte(in))
		if err != api.OK || count(e) != most {
			t.Errorf("%s: error %d, %d", asked(in), err, count(e))
		}
		for _, x := range []fault{
			{"<b/></a>", api.ErrFull}, {"<b", api.ErrFull}, {"<b c='' c=''/></a>", api.ErrFull}, {"<p:b/></a>", api.ErrFull}, {"<b =", api.ErrFull},
			{"<1", api.ErrSyntax}, {"</b>", api.ErrSyntax}, {"", api.ErrSyntax}, {"</a><b/>", api.ErrSyntax}, {"</a><!DOCTYPE b>", api.ErrSyntax},
		} {
			alone(t, more(in)+x.in, told(api.Elem{}, x.err))
		}
	}
	byModel(t, wide(most))
	byModel(t, wide(most+1))
	if e, err := Read([]byte(wide(most - 1))); err != api.OK || count(e) != most-1 {
		t.Error(err, count(e))
	}
	refuse(t, wide(1<<18), api.ErrFull)
}
