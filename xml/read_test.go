package xml

import (
	"fmt"
	"strconv"
	"strings"
	"testing"
	"unicode/utf8"

	"rubricator/api"
)

// show is an element in short: (space:name space:attribute="value" kid "text").
func show(e api.Elem) string {
	var out strings.Builder
	showTo(&out, e)
	return out.String()
}

func showTo(out *strings.Builder, e api.Elem) {
	if e.Name == "" && e.Space == "" && len(e.Attrs)+len(e.Kids) == 0 {
		out.WriteString(strconv.Quote(e.Text))
		return
	}
	out.WriteString("(" + e.Space + ":" + e.Name)
	if e.Text != "" {
		out.WriteString(" TEXT " + strconv.Quote(e.Text))
	}
	for _, a := range e.Attrs {
		out.WriteString(" " + a.Space + ":" + a.Name + "=" + strconv.Quote(a.Value))
	}
	for _, k := range e.Kids {
		out.WriteByte(' ')
		showTo(out, k)
	}
	out.WriteByte(')')
}

// told is an answer in short.
func told(e api.Elem, err api.Errno) string {
	if err == api.OK {
		return show(e)
	}
	if s := show(e); s != `""` {
		return "error " + strconv.Itoa(int(err)) + " and " + s
	}
	return "error " + strconv.Itoa(int(err))
}

// asked is an input as a message has it.
func asked(s string) string {
	if len(s) > 300 {
		return fmt.Sprintf("%q .. %q", s[:100], s[len(s)-100:])
	}
	return strconv.Quote(s)
}

// alone holds what bytes tell against what is wanted.
func alone(t *testing.T, in, want string) {
	t.Helper()
	if got := told(Read([]byte(in))); got != want {
		t.Errorf("%s: %s, want %s", asked(in), asked(got), asked(want))
	}
}

// ask holds what bytes tell against what is wanted, and that against the second reader.
func ask(t *testing.T, in, want string) {
	t.Helper()
	alone(t, in, want)
	if got := told(model([]byte(in))); got != want {
		t.Errorf("the second reader of %s: %s, want %s", asked(in), asked(got), asked(want))
	}
}

func refuse(t *testing.T, in string, want api.Errno) {
	t.Helper()
	ask(t, in, told(api.Elem{}, want))
}

// byModel holds what bytes tell against the second reader alone.
func byModel(t *testing.T, in string) {
	t.Helper()
	alone(t, in, told(model([]byte(in))))
}

// texted is an element a with a text.
func texted(s string) string {
	if s == "" {
		return "(:a)"
	}
	return "(:a " + strconv.Quote(s) + ")"
}

// valued is an element a with an attribute x.
func valued(s string) string { return "(:a :x=" + strconv.Quote(s) + ")" }

// P10.1
func TestWhatIsKnown(t *testing.T) {
	for _, x := range []struct{ name, in, want string }{
		{"the document's example", `<a x="1&#10;2"> b</a>`, `(:a :x="1\n2" " b")`},
		{"alone", `<a/>`, `(:a)`},
		{"with no content", `<a></a>`, `(:a)`},
		{"with a text", `<a>b</a>`, `(:a "b")`},
		{"with one within", `<a><b/></a>`, `(:a (:b))`},
		{"with one within that has content", `<a><b>c</b></a>`, `(:a (:b "c"))`},
		{"with several and texts between", `<a>1<b/>2<c>3</c>4<b/></a>`, `(:a "1" (:b) "2" (:c "3") "4" (:b))`},
		{"of one name within one another", `<a><a><a/></a></a>`, `(:a (:a (:a)))`},
		{"quotes of one kind", `<a x="1" y="2"/>`, `(:a :x="1" :y="2")`},
		{"quotes of the other", `<a x='1' y='2'/>`, `(:a :x="1" :y="2")`},
		{"quotes of both", `<a x="1" y='2'></a>`, `(:a :x="1" :y="2")`},
		{"a quote between the others", `<a x="it's" y='"'/>`, `(:a :x="it's" :y="\"")`},
		{"empty values", `<a x="" y=''/>`, `(:a :x="" :y="")`},
		{"attributes in their order", `<a z="1" b="2" y="3" c="4"/>`, `(:a :z="1" :b="2" :y="3" :c="4")`},
		{"what a value may have", `<a x="/> ]]> =&gt; -- ?>"/>`, `(:a :x="/> ]]> => -- ?>")`},
		{"what a text may have", `<a>" ' > /> = -- ?> --> ] ]] ]></a>`, `(:a "\" ' > /> = -- ?> --> ] ]] ]>")`},
		{"names of every kind of byte", `<_a.-9é_ _="" é='' Z-="" z.='' a9=""/>`, `(:_a.-9é_ :_="" :é="" :Z-="" :z.="" :a9="")`},
		{"names that are other ones by size", `<a><A a="1" A="2"></A></a>`, `(:a (:A :a="1" :A="2"))`},
		{"signs above ASCII", "<a x='\u00a0\u20ac'>\U0001f600\ufffd\u0085\u2028</a>", "(:a :x=" + strconv.Quote("\u00a0\u20ac") + " " + strconv.Quote("\U0001f600\ufffd\u0085\u2028") + ")"},
		{"a mark within is a sign as others are", "<a>\ufeff</a>", texted("\ufeff")},
		{"named xmlns", `<xmlns/>`, `(:xmlns)`},
		{"named xml", `<xml><XML/></xml>`, `(:xml (:XML))`},
		{"nothing of an element's beginning within a value", `<a x="!DOCTYPE"/>`, valued("!DOCTYPE")},
	} {
		t.Run(x.name, func(t *testing.T) { ask(t, x.in, x.want) })
	}
}

// P10.1
func TestWhatIsNone(t *testing.T) {
	for _, in := range []string{
		"", " ", "\n", "x", ">", "/", "&", "&amp;", "]]>", "=", "\"", "'",
		"<", "<a", "<a>", "<a/", "</a>", "</", "<>", "</>", "< a/>", "<a//>", "<a/ >", "<a / >", "<a></a", "<a></", "<a><", "<a><b>", "<a><b></b>",
		"<a></b>", "<a></A>", "<a></ab>", "<ab></a>", "<a><b></a></b>", "<a></a/>", "<a></a x=''>", "<a></ a>", "<a>< /a>", "<a></a></a>",
		"x<a/>", "<a/>x", "<a/>&amp;", "&#32;<a/>", "<a/>&#32;", "<a/><b/>", "<a/><a/>", "<a></a><", "<a/><b", "<a/><![CDATA[]]>", "<![CDATA[]]><a/>", "<a/></a>",
		"<1/>", "<-/>", "<./>", "<=/>", "<a=/>", "<a+b/>", "<a,/>", "<!a/>", "<!/>", "<?/>", "<a><1/></a>", "<a><!b/></a>", "<\u0020/>",
		"<a x/>", "<a x=/>", "<a x=''x=''/>", "<a x=1/>", "<a x=x/>", "<a =''/>", "<a ''/>", "<a 'x'/>", "<a x=''''/>", "<a x='' ''/>", "<a x==''/>",
		"<a x=\"'/>", "<a x='\"/>", "<a x='/>", "<a x=\"/>", "<a x='", "<a x=", "<a x", "<a ", "<a x=''", "<a x='' ", "<a x=`1`/>",
		"<a x='<'/>", "<a x='<b/>'/>", "<a x='&'/>", "<a x='&amp'/>", "<a x='& '/>", "<a x='&;'/>", "<a x='&b;'/>", "<a x='&#38'/>",
		"<a 1=''/>", "<a -x=''/>", "<a .x=''/>", "<a x y=''/>", "<a x+=''/>", "<a/x=''>", "<a / x=''>",
		"<a>&</a>", "<a>&;</a>", "<a>& </a>", "<a>&b;</a>", "<a>&amp</a>", "<a>&amp ;</a>", "<a>& amp;</a>", "<a>&nbsp;</a>", "<a>&AMP;</a>", "<a>&Lt;</a>",
		"<a>]]></a>", "<a>b]]>c</a>", "<a>]]]></a>", "<a><b/>]]></a>", "<a>&lt;]]></a>",
		"<a:/>", "<:a/>", "<:/>", "<a::b/>", "<a:b:c/>", "<a:1/>", "<a: b/>", "<a :b/>", "<a></a:>", "<a></:a>", "<a b:=''/>", "<a :b=''/>", "<a b:c:d=''/>", "<a b:1=''/>", "<a b: c=''/>",
	} {
		refuse(t, in, api.ErrSyntax)
	}
}

// every tells each of a text's pieces between which something may be laid: the part ahead and the part behind.
func every(s string, told func(ahead, behind string)) {
	for i := range len(s) + 1 {
		told(s[:i], s[i:])
	}
}

var someBlanks = []string{" ", "\t", "\n", "\r", "\r\n", " \t \n\r\n", strings.Repeat(" ", 300)}

// P10.1: blanks may stand where the sign ~ does, and must where it is +.
func TestBlanksWhereTheyMayStand(t *testing.T) {
	const form, want = `~<a+x~=~"1"+y~=~'2'~><b~/><c+z~=~"3"~/></c~></a~>~`, `(:a :x="1" :y="2" (:b) (:c :z="3"))`
	laid := strings.Replace(form, "<c+z~=~\"3\"~/>", "<c+z~=~\"3\"~>", 1)
	least := strings.NewReplacer("~", "", "+", " ").Replace(laid)
	ask(t, least, want)
	for _, blank := range someBlanks {
		ask(t, strings.NewReplacer("~", blank, "+", blank).Replace(laid), want)
		for i := range len(laid) {
			if laid[i] != '~' && laid[i] != '+' {
				continue
			}
			one := laid[:i] + blank + laid[i+1:]
			ask(t, strings.NewReplacer("~", "", "+", " ").Replace(one), want)
		}
	}
	for i := range len(laid) {
		if laid[i] == '+' {
			refuse(t, strings.NewReplacer("~", "", "+", " ").Replace(laid[:i]+laid[i+1:]), api.ErrSyntax)
		}
	}
}

// P10.1: what blanks at each place of an element make of it, and what no other byte stands for.
func TestBytesLaidIntoEachPlace(t *testing.T) {
	const whole = `<?xml a?><!--b--><p:a xmlns:p="u" p:x='&lt;1'>t&#65;<b/><![CDATA[c]]><?d e?></p:a ><!--f-->`
	for c := range 128 {
		every(whole, func(ahead, behind string) {
			byModel(t, ahead+string(rune(c))+behind)
			if behind != "" {
				byModel(t, ahead+string(rune(c))+behind[1:])
			}
		})
	}
	for _, more := range []string{"\u0085", "\u00a0", "\u2028", "\ufeff", "\ufffe", "\xff", "--", "?>", "<!--", "-->", "<?", "]]>", "<![CDATA[", "<a/>", "</a>", "&amp;", "<!DOCTYPE", " p:x=''", " xmlns:p='u'"} {
		every(whole, func(ahead, behind string) { byModel(t, ahead+more+behind) })
	}
}

// P10.1
func TestOtherSignsAreNoBlanks(t *testing.T) {
	for _, blank := range []string{"\u0085", "\u00a0", "\u2028", "\u2003", "\u3000", "\u180e"} {
		refuse(t, blank+"<a/>", api.ErrSyntax)
		refuse(t, "<a/>"+blank, api.ErrSyntax)
		refuse(t, "<a"+blank+"x=''/>", api.ErrSyntax)
		ask(t, "<a"+blank+"/>", "(:a"+blank+")")
	}
}

// refs are the five named references and what they stand for.
var refs = [][2]string{{"&amp;", "&"}, {"&lt;", "<"}, {"&gt;", ">"}, {"&quot;", `"`}, {"&apos;", "'"}}

// refer holds what a reference stands for, in a text and in values of both kinds, against what is wanted.
func refer(t *testing.T, s, want string) {
	t.Helper()
	ask(t, "<a>"+s+"</a>", texted(want))
	ask(t, "<a>;"+s+";"+s+"</a>", texted(";"+want+";"+want))
	ask(t, `<a x="`+s+`"/>`, valued(want))
	ask(t, `<a x='1`+s+s+`2'/>`, valued("1"+want+want+"2"))
}

// noRef refuses what begins as a reference and is none.
func noRef(t *testing.T, s string) {
	t.Helper()
	refuse(t, "<a>"+s+"</a>", api.ErrSyntax)
	refuse(t, "<a>b"+s+";</a>", api.ErrSyntax)
	refuse(t, `<a x="`+s+`"/>`, api.ErrSyntax)
	refuse(t, `<a x='`+s+`;'/>`, api.ErrSyntax)
}

// P10.1
func TestNamedReferences(t *testing.T) {
	for _, x := range refs {
		refer(t, x[0], x[1])
		name := x[0][1 : len(x[0])-1]
		for i := range len(name) {
			noRef(t, "&"+name[:i]+";")
			noRef(t, "&"+name[:i]+strings.ToUpper(name[i:i+1])+name[i+1:]+";")
			noRef(t, "&"+name[:i]+name[i:i+1]+name[i:]+";")
			noRef(t, "&"+name[:i]+" "+name[i:]+";")
		}
		noRef(t, "&"+name+" ;")
		noRef(t, "&#"+name+";")
		noRef(t, "&"+name+"b;")
	}
	ask(t, "<a>&amp;&lt;&gt;&quot;&apos;</a>", texted(`&<>"'`))
	for _, name := range []string{"", "nbsp", "copy", "hellip", "mdash", "a", "x", "x41", "65", "#", "#x", "#;"} {
		noRef(t, "&"+name+";")
	}
}

// P10.1
func TestReferencesByDigits(t *testing.T) {
	for size := 1; size <= 12; size++ {
		decimal, hex := "&#"+strings.Repeat("0", max(size-2, 0))+"65"[max(2-size, 0):]+";", "&#x"+strings.Repeat("0", max(size-2, 0))+"4a"[max(2-size, 0):]+";"
		switch {
		case size == 1: // 5 and a: the first may not stand
			noRef(t, decimal)
			refer(t, hex, "\n")
			refer(t, "&#9;", "\t")
		case size <= 8:
			refer(t, decimal, "A")
			refer(t, hex, "J")
		default:
			noRef(t, decimal)
			noRef(t, hex)
		}
		nines, effs := strings.Repeat("9", size), strings.Repeat("f", size)
		if n, _ := strconv.ParseUint(nines, 10, 64); size <= 6 && mayStandIn(rune(n)) {
			refer(t, "&#"+nines+";", string(rune(n)))
		} else {
			noRef(t, "&#"+nines+";")
		}
		if n, _ := strconv.ParseUint(effs, 16, 64); size <= 5 && mayStandIn(rune(n)) {
			refer(t, "&#x"+effs+";", string(rune(n)))
		} else {
			noRef(t, "&#x"+effs+";")
		}
	}
	refer(t, "&#x1F600;&#x1f600;&#128512;", "\U0001f600\U0001f600\U0001f600")
	refer(t, "&#xaBcD;", "\uabcd")
	for _, s := range []string{"&#X41;", "&#x;", "&#;", "&#4a;", "&#x4g;", "&#-65;", "&#+65;", "&# 65;", "&#65 ;", "&#6 5;", "&#6_5;", "&#x4_1;", "&#0x41;", "&#x0x41;", "&#xx41;", "&##65;", "&65;", "&x41;", "&#65.;", "&#6\u0665;", "&#x\uff11;", "&#1e2;"} {
		noRef(t, s)
	}
}

// mayStandIn is the chapter's list of the runes of a text.
func mayStandIn(r rune) bool {
	return r == 9 || r == 0xa || r == 0xd || r >= 0x20 && r <= 0xd7ff || r >= 0xe000 && r <= 0xfffd || r >= 0x10000 && r <= 0x10ffff
}

// edges are the runes at which what may stand changes, and their neighbours.
var edges = []int64{0, 1, 8, 9, 0xa, 0xb, 0xc, 0xd, 0xe, 0x1f, 0x20, 0x7e, 0x7f, 0x80, 0x84, 0x85, 0x9f, 0xa0, 0xff, 0x7ff, 0x800, 0xd7fe, 0xd7ff, 0xd800, 0xdbff, 0xdc00, 0xdfff, 0xe000, 0xe001, 0xfeff, 0xfffc, 0xfffd, 0xfffe, 0xffff, 0x10000, 0x1fffe, 0x1ffff, 0x10fffe, 0x10ffff, 0x110000, 0x110041, 0x1000041, 0x4000041, 0xffffffff, 0x80000041, 0x7fffffff, 99999999}

// P10.1
func TestReferencesToRunesAtTheEdges(t *testing.T) {
	for _, v := range edges {
		decimal, hex := fmt.Sprintf("&#%d;", v), fmt.Sprintf("&#x%x;", v)
		if v <= 0x10ffff && mayStandIn(rune(v)) {
			refer(t, decimal, string(rune(v)))
			refer(t, hex, string(rune(v)))
			refer(t, "&#x"+strings.ToUpper(hex[3:]), string(rune(v)))
		} else {
			noRef(t, decimal)
			noRef(t, hex)
		}
	}
	for v := range int64(0x3000) {
		byModel(t, fmt.Sprintf("<a x='&#%d;'>&#x%X;</a>", v, v))
	}
}

// P10.1
func TestWhatAReferenceStandsForIsNotLookedAtAgain(t *testing.T) {
	for _, x := range [][2]string{
		{"&amp;lt;", "&lt;"}, {"&#38;lt;", "&lt;"}, {"&#x26;#65;", "&#65;"}, {"&amp;amp;amp;", "&amp;amp;"}, {"&lt;b/>", "<b/>"}, {"&#60;/a>", "</a>"}, {"&#x3c;!--", "<!--"}, {"&lt;?b?>", "<?b?>"}, {"&lt;![CDATA[b]]&gt;", "<![CDATA[b]]>"},
		{"]]&gt;", "]]>"}, {"&#93;]>", "]]>"}, {"]&#93;>", "]]>"}, {"]&#x5d;&#x3e;", "]]>"}, {"&#34;&#39;", `"'`}, {"&quot; y=&quot;", `" y="`},
		{"&#9;", "\t"}, {"&#10;", "\n"}, {"&#13;", "\r"}, {"&#13;&#10;", "\r\n"}, {"&#xD;&#xA;&#x9;&#x20;", "\r\n\t "},
	} {
		refer(t, x[0], x[1])
	}
	ask(t, "<a>&#13;\n</a>", texted("\r\n"))
	ask(t, "<a>\r&#10;</a>", texted("\n\n"))
	ask(t, "<a x='&#13;\n&#10;\r&#9;\t'/>", valued("\r \n \t "))
	ask(t, "<a>&#60;b&#62;</a>", texted("<b>"))
}

// P10.1
func TestTextsWithTheSignThatMayNotStand(t *testing.T) {
	for _, s := range []string{"]", "]]", "]>", "] ]>", "]] >", ">", ">]]", "]>]]", "]]]", "[[<!---->", "]]&gt;", "&#93;]>", "]]<!---->>", "]<!---->]>", "]]<?p?>>", "]<?p ]]>?>]>", "]]<![CDATA[]]>>", "<![CDATA[]]]]>>", "<![CDATA[]]]]><![CDATA[>]]>", "]<![CDATA[]>]]>", "]]<b/>>", "]<b/>]>", "<b x=']]>'/>", "<!--]]>-->", "<?p ]]>?>"} {
		in := "<a>" + s + "</a>"
		if _, e := Read([]byte(in)); e != api.OK {
			t.Errorf("%s: error %d", asked(in), e)
		}
		byModel(t, in)
		byModel(t, "<a>x"+s+"y</a>")
	}
	for _, s := range []string{"]]>", "]]]>", "]]]]]>", "x]]>", "]]>x", " ]]> ", "<b/>]]>", "]]><b/>", "<b>]]></b>", "<!---->]]>", "<?p?>]]>", "<![CDATA[]]>]]>", "<![CDATA[]]]]>]]>", "&lt;]]>", "]]>&lt;", "]]>]]>", "\u20ac]]>", "\r\n]]>", strings.Repeat("x", 5000) + "]]>", "]]>" + strings.Repeat("x", 5000)} {
		refuse(t, "<a>"+s+"</a>", api.ErrSyntax)
	}
	ask(t, "<a>]]&gt;]] ></a>", texted("]]>]] >"))
	ask(t, "<a>]]<!----></a>", texted("]]"))
	ask(t, "<a>]]<!---->></a>", texted("]]>"))
	ask(t, "<a>]]<![CDATA[>]]></a>", texted("]]>"))
	ask(t, "<a>]]<b/>></a>", `(:a "]]" (:b) ">")`)
}

// remarksThatAre and the like are what may be passed over, and what looks so and is none.
var (
	remarksThatAre          = []string{"<!---->", "<!-- -->", "<!--a-->", "<!-- a - b -->", "<!---a-->", "<!-->-->", "<!--->-->", "<!--<a>&b;]]><![CDATA[<?xml-->", "<!--<!-->", "<!--\n\t\r\n-->", "<!--\u20ac\U0001f600-->", "<!--a-b-c-->", "<!--<!DOCTYPE a>-->", "<!-- ?> /> > -->", "<!--\"'-->"}
	remarksThatAreNone      = []string{"<!--", "<!---", "<!-->", "<!--->", "<!-- --", "<!-- -- -->", "<!--a--b-->", "<!-- --a>", "<!------>", "<!-- ---->", "<!-- -- >", "<!- - -->", "<! -- -->", "< !-- -->", "<!--- ->", "<!- -->", "<!-a-->", "<!-->->", "<!--a--!>", "<!--<!---->-- -->"}
	instructionsThatAre     = []string{"<?p?>", "<?p ?>", "<?p q?>", "<?p  q r ?>", "<?p\tq?>", "<?p\nq?>", "<?p\rq?>", "<?p\r\n?>", "<?p ??>", "<?p ?? ?>", "<?p ? >?>", "<?p > ?>", "<?_.-9 x?>", "<?\u20ac?>", "<?xmlx?>", "<?xm?>", "<?ml?>", "<?axml?>", "<?xml-stylesheet href='x'?>", "<?xml_?>", "<?xml. ?>", "<?XMLL?>", "<?XM?>", "<?p <?q?>", "<?p <a>&b;]]>--<!--?>", "<?p xml?>", "<?p <!DOCTYPE a>?>", "<?p \"?>", "<?p \u20ac?>", "<?\u212aml?>", "<?p /?>"}
	instructionsThatAreNone = []string{"<?", "<??>", "<? ?>", "<? p?>", "<?1?>", "<?-p?>", "<?.?>", "<?p", "<?p ", "<?p?", "<?p ?", "<?p ? >", "<?p??>", "<?p/?>", "<?p>", "<?p/>", "<?p:q?>", "<?p:?>", "<?:p?>", "<?p=q?>", "<?p\"q\"?>", "<?p&amp;?>", "<?p<?>", "<?XML?>", "<?Xml?>", "<?xML?>", "<?xMl?>", "<?XMl x?>", "<?XML version='1.0'?>", "<?xml:a?>", "<?xml/?>", "<?xml??>", "<?xml", "<?xml ", "<?xml ?", "< ?p?>", "<?p? >"}
	itselves                = [][2]string{{"<![CDATA[]]>", ""}, {"<![CDATA[b]]>", "b"}, {"<![CDATA[ ]]>", " "}, {"<![CDATA[<b/>&amp;&c;]]>", "<b/>&amp;&c;"}, {"<![CDATA[]]]>", "]"}, {"<![CDATA[]]]]>", "]]"}, {"<![CDATA[]>]]>", "]>"}, {"<![CDATA[] ]>]]>", "] ]>"}, {"<![CDATA[]] >]]>", "]] >"}, {"<![CDATA[>]]>", ">"}, {"<![CDATA[</a>]]>", "</a>"}, {"<![CDATA[<!-- -- --><?xml?>]]>", "<!-- -- --><?xml?>"}, {"<![CDATA[<![CDATA[]]>", "<![CDATA["}, {"<![CDATA[\u20ac\U0001f600]]>", "\u20ac\U0001f600"}, {"<![CDATA[\t\r\n\r\n\n\r]]>", "\t\n\n\n\n"}, {"<![CDATA[[]]>", "["}}
	noItselves              = []string{"<![CDATA[", "<![CDATA[]", "<![CDATA[]]", "<![CDATA[]] >", "<![CDATA[] ]>", "<![CDATA[]>", "<![cdata[]]>", "<![CDATA []]>", "<![ CDATA[]]>", "<! [CDATA[]]>", "< ![CDATA[]]>", "<!CDATA[]]>", "<![CDAT[]]>", "<![CDATA]]>", "<![CDATA[]]>]]>", "<![CDATA[]]]]>]]>", "<![]]>", "<![CData[]]>"}
)

// P10.1
func TestWhatIsPassedOver(t *testing.T) {
	for _, s := range append(append([]string{}, remarksThatAre...), instructionsThatAre...) {
		ask(t, s+"<a/>", "(:a)")
		ask(t, " \n"+s+"\t<a/>", "(:a)")
		ask(t, "<a/>"+s, "(:a)")
		ask(t, "<a></a>\r\n"+s+" ", "(:a)")
		ask(t, s+s+"<a/>"+s+s, "(:a)")
		ask(t, "<a>"+s+"</a>", "(:a)")
		ask(t, "<a>"+s+s+"</a>", "(:a)")
		ask(t, "<a>1"+s+"2"+s+"3</a>", texted("123"))
		ask(t, "<a>1"+s+"<b/>"+s+"2</a>", `(:a "1" (:b) "2")`)
		ask(t, "<a><b>"+s+"</b>"+s+"</a>", `(:a (:b))`)
		ask(t, "<a>"+s+" "+s+"</a>", texted(" "))
		for _, cut := range []string{"", "x"} {
			for i := 1; i < len(s); i++ {
				byModel(t, s[:i]+cut+"<a/>")
				byModel(t, s[:i]+cut)
				byModel(t, "<a/>"+s[:i]+cut)
				byModel(t, "<a>"+s[:i]+cut+"</a>")
				byModel(t, "<a>"+s[:i]+cut)
			}
		}
	}
	ask(t, "<!--a--><?b?>\n<!--c--><?d e?> <a/> <?f?><!--g-->\r<?h i?>", "(:a)")
	ask(t, "<a><!-- <b> --><?c </a>?></a>", "(:a)")
}

// P10.1
func TestWhatIsNotPassedOver(t *testing.T) {
	for _, s := range append(append([]string{}, remarksThatAreNone...), instructionsThatAreNone...) {
		refuse(t, s, api.ErrSyntax)
		refuse(t, s+"<a/>", api.ErrSyntax)
		refuse(t, "<!---->"+s+"<a/>", api.ErrSyntax)
		refuse(t, "<a/>"+s, api.ErrSyntax)
		refuse(t, "<a/> "+s+" ", api.ErrSyntax)
		refuse(t, "<a>"+s+"</a>", api.ErrSyntax)
		refuse(t, "<a>b"+s+"c</a>", api.ErrSyntax)
	}
}

// P10.1: the words say what has no -- ahead of -->, and one - alone has none.
func TestARemarkMayEndInThreeStrokes(t *testing.T) {
	for _, s := range []string{"<!----->", "<!-- --->", "<!--a--->", "<!--a- --->"} {
		ask(t, s+"<a>"+s+"</a>"+s, "(:a)")
	}
	refuse(t, "<!--a----><a/>", api.ErrSyntax)
}

// P10.1
func TestCutOffAfterEachByte(t *testing.T) {
	for _, s := range append(append([]string{}, remarksThatAre[:4]...), "<?p?>", "<?p q?>", "<?xmlx ?>") {
		for i := 1; i < len(s); i++ {
			refuse(t, s[:i], api.ErrSyntax)
			refuse(t, "<a/>"+s[:i], api.ErrSyntax)
			refuse(t, "<a>"+s[:i], api.ErrSyntax)
		}
	}
	for _, x := range itselves {
		for i := 1; i < len(x[0]); i++ {
			if utf8.ValidString(x[0][:i]) {
				refuse(t, "<a>"+x[0][:i], api.ErrSyntax)
			} else {
				refuse(t, "<a>"+x[0][:i], api.ErrText)
			}
		}
	}
}

// P10.1
func TestWhatStandsForItself(t *testing.T) {
	for _, x := range itselves {
		s, v := x[0], x[1]
		ask(t, "<a>"+s+"</a>", texted(v))
		ask(t, "<a>1"+s+"2</a>", texted("1"+v+"2"))
		ask(t, "<a>"+s+s+"</a>", texted(v+v))
		ask(t, "<a>&lt;"+s+"&gt;<!---->"+s+"</a>", texted("<"+v+">"+v))
		if v == "" {
			ask(t, "<a>"+s+"<b/>"+s+"</a>", "(:a (:b))")
		} else {
			ask(t, "<a>"+s+"<b/>"+s+"</a>", "(:a "+strconv.Quote(v)+" (:b) "+strconv.Quote(v)+")")
		}
		refuse(t, s+"<a/>", api.ErrSyntax)
		refuse(t, "<a/>"+s, api.ErrSyntax)
		refuse(t, `<a x="`+s+`"/>`, api.ErrSyntax)
		for i := 1; i < len(s); i++ {
			byModel(t, "<a>"+s[:i]+"</a>")
			byModel(t, "<a>"+s[:i]+"<b/>"+s[i:]+"</a>")
		}
	}
	for _, s := range noItselves {
		refuse(t, "<a>"+s+"</a>", api.ErrSyntax)
		refuse(t, "<a>b"+s, api.ErrSyntax)
	}
}

// P10.1
func TestTheInstructionAtTheVeryBeginning(t *testing.T) {
	for _, s := range []string{"<?xml?>", "<?xml ?>", "<?xml version=\"1.0\" encoding=\"UTF-8\" standalone=\"yes\"?>", "<?xml\n?>", "<?xml\r\nversion?>", "<?xml encoding='latin1'?>", "<?xml ??>"} {
		ask(t, s+"<a/>", "(:a)")
		ask(t, mark+s+"<a/>", "(:a)")
		ask(t, s+"\n<!--b--><?c?> <a/>", "(:a)")
		for _, ahead := range []string{" ", "\n", "\r\n", "<!---->", "<?p?>", s, "<?xmlx?>"} {
			refuse(t, ahead+s+"<a/>", api.ErrSyntax)
			refuse(t, mark+ahead+s+"<a/>", api.ErrSyntax)
		}
		refuse(t, "<a>"+s+"</a>", api.ErrSyntax)
		refuse(t, "<a/>"+s, api.ErrSyntax)
		refuse(t, "<a/>\n"+s, api.ErrSyntax)
		refuse(t, strings.Replace(s, "xml", "XML", 1)+"<a/>", api.ErrSyntax)
		refuse(t, strings.Replace(s, "xml", "xMl", 1)+"<a/>", api.ErrSyntax)
		refuse(t, strings.Replace(s, "xml", " xml", 1)+"<a/>", api.ErrSyntax)
		refuse(t, s, api.ErrSyntax)
		for i := range len(s) {
			refuse(t, s[:i], api.ErrSyntax)
		}
	}
}

// P10.1
func TestTheMarkAtTheBeginning(t *testing.T) {
	ask(t, mark+"<a/>", "(:a)")
	ask(t, mark+" \n<a/>", "(:a)")
	ask(t, mark+"<!---->\n<a/>"+" ", "(:a)")
	refuse(t, mark, api.ErrSyntax)
	refuse(t, mark+mark+"<a/>", api.ErrSyntax)
	refuse(t, " "+mark+"<a/>", api.ErrSyntax)
	refuse(t, "<a/>"+mark, api.ErrSyntax)
	refuse(t, "<!---->"+mark+"<a/>", api.ErrSyntax)
	refuse(t, mark[:1]+"<a/>", api.ErrText)
	refuse(t, mark[:2]+"<a/>", api.ErrText)
	refuse(t, mark[1:]+"<a/>", api.ErrText)
	refuse(t, mark[:2], api.ErrText)
	refuse(t, "\xfe\xff<a/>", api.ErrText)
	refuse(t, "\xff\xfe<\x00a\x00/\x00>\x00", api.ErrText)
	ask(t, "<"+mark+"/>", "(:"+mark+")")
}

// P10.1
func TestEndsOfLines(t *testing.T) {
	ends := []string{"\r\n", "\r", "\n"}
	for _, a := range ends {
		for _, b := range ends {
			for _, c := range append(ends, "", "x", "\t", " ") {
				s := a + b + c
				plain := strings.ReplaceAll(strings.ReplaceAll(s, "\r\n", "\n"), "\r", "\n")
				flat := strings.NewReplacer("\n", " ", "\t", " ").Replace(plain)
				ask(t, "<a>"+s+"</a>", texted(plain))
				ask(t, "<a><![CDATA["+s+"]]></a>", texted(plain))
				ask(t, "<a x='"+s+"'/>", valued(flat))
				ask(t, "<a x=\"1"+s+"2\"></a>", valued("1"+flat+"2"))
				ask(t, s[:len(s)-len(c)]+"<a"+a+"/>"+b, "(:a)")
			}
		}
	}
	ask(t, "<a>\r\n1\r2\n3\n\r4\r\r\n5</a>", texted("\n1\n2\n3\n\n4\n\n5"))
	ask(t, "<a x='\t\r\n\r'/>", valued("   "))
	ask(t, "<a x=' \t1\n2\r3\r\n4 '/>", valued("  1 2 3 4 "))
	ask(t, "<a>\t</a>", texted("\t"))
	ask(t, "<a>\u0085\u2028</a>", texted("\u0085\u2028"))
}

// P10.1
func TestAllBetweenTwoElementsIsOneText(t *testing.T) {
	const s = "1<!--2-->3<?q 4?>&lt;<![CDATA[5]]>&#54;<![CDATA[]]>\r\n7"
	const v = "13<56\n7"
	q := strconv.Quote(v)
	ask(t, "<a>"+s+"</a>", texted(v))
	ask(t, "<a>"+s+"<b/>"+s+"</a>", "(:a "+q+" (:b) "+q+")")
	ask(t, "<a><b/>"+s+"<c>"+s+"</c></a>", "(:a (:b) "+q+" (:c "+q+"))")
	ask(t, "<a><b/>"+s+"<c/>"+s+s+"</a>", "(:a (:b) "+q+" (:c) "+strconv.Quote(v+v)+")")
	for _, none := range []string{"", "<!---->", "<?p?>", "<![CDATA[]]>", "<![CDATA[]]><!----><![CDATA[]]><?p?>"} {
		ask(t, "<a>"+none+"</a>", "(:a)")
		ask(t, "<a>"+none+"<b/>"+none+"<c>"+none+"</c>"+none+"</a>", "(:a (:b) (:c))")
		ask(t, "<a>"+none+" "+none+"<b/>"+none+"</a>", `(:a " " (:b))`)
	}
	ask(t, "<a> <b> </b> </a>", `(:a " " (:b " ") " ")`)
	ask(t, "<a>\n  <b/>\n</a>", `(:a "\n  " (:b) "\n")`)
}
