package xml

import (
	"strconv"
	"strings"
	"testing"

	"rubricator/api"
)

const xmlSpace = "http://www.w3.org/XML/1998/namespace"

// P10.1
func TestSpaces(t *testing.T) {
	for _, x := range []struct{ name, in, want string }{
		{"none", `<a b="1"><c/></a>`, `(:a :b="1" (:c))`},
		{"by itself, without a prefix", `<a xmlns="u"/>`, `(u:a)`},
		{"by itself, with a prefix", `<p:a xmlns:p="u"/>`, `(u:a)`},
		{"told of a prefix that it has not", `<a xmlns:p="u"/>`, `(:a)`},
		{"told without a prefix, of one with it", `<p:a xmlns="u" xmlns:p="v"/>`, `(v:a)`},
		{"by one about it", `<a xmlns="u" xmlns:p="v"><b/><p:c/></a>`, `(u:a (u:b) (v:c))`},
		{"by one far about it", `<a xmlns="u" xmlns:p="v"><b><c><p:d/><d/></c></b></a>`, `(u:a (u:b (u:c (v:d) (u:d))))`},
		{"attributes without a prefix have none", `<a xmlns="u" b="1"/>`, `(u:a :b="1")`},
		{"attributes with a prefix", `<a xmlns:p="u" p:b="1" b="2"/>`, `(:a u:b="1" :b="2")`},
		{"attributes by one about it", `<a xmlns:p="u"><b p:c="1"/></a>`, `(:a (:b u:c="1"))`},
		{"told behind where it is needed", `<p:a p:b="1" xmlns:p="u" p:c="2"/>`, `(u:a u:b="1" u:c="2")`},
		{"told anew within", `<a xmlns="u"><b xmlns="v"><c/></b><d/></a>`, `(u:a (v:b (v:c)) (u:d))`},
		{"a prefix told anew within", `<p:a xmlns:p="u"><p:b xmlns:p="v" p:x=""><p:c/></p:b><p:d p:x=""/></p:a>`, `(u:a (v:b v:x="" (v:c)) (u:d u:x=""))`},
		{"told anew as it was", `<a xmlns="u"><b xmlns="u"/><c/></a>`, `(u:a (u:b) (u:c))`},
		{"told anew by one without content", `<a xmlns="u" xmlns:p="v"><b xmlns="w" xmlns:p="x"/><c/><p:d/></a>`, `(u:a (w:b) (u:c) (v:d))`},
		{"told anew thrice within one another", `<p:a xmlns:p="1"><p:a xmlns:p="2"><p:a xmlns:p="3"/><p:b/></p:a><p:b/></p:a>`, `(1:a (2:a (3:a) (2:b)) (1:b))`},
		{"taken back within", `<a xmlns="u"><b xmlns=""><c/></b><d/></a>`, `(u:a (:b (:c)) (u:d))`},
		{"taken back where nothing is told", `<a xmlns=""><b/></a>`, `(:a (:b))`},
		{"taken back and told again", `<a xmlns="u"><b xmlns=""><c xmlns="v"/><d/></b></a>`, `(u:a (:b (v:c) (:d)))`},
		{"taking back leaves prefixes", `<a xmlns="u" xmlns:p="u"><b xmlns=""><p:c/></b></a>`, `(u:a (:b (u:c)))`},
		{"two prefixes of one space", `<p:a xmlns:p="u" xmlns:q="u"><q:b p:x="1" q:y="2"/></p:a>`, `(u:a (u:b u:x="1" u:y="2"))`},
		{"xml is told", `<a xml:lang="b"/>`, `(:a ` + xmlSpace + `:lang="b")`},
		{"an element of xml", `<xml:a><xml:b/></xml:a>`, `(` + xmlSpace + `:a (` + xmlSpace + `:b))`},
		{"the space of xml by another prefix", `<p:a xmlns:p="` + xmlSpace + `"/>`, `(` + xmlSpace + `:a)`},
		{"the space of xml without a prefix", `<a xmlns="` + xmlSpace + `" xml:b=""/>`, `(` + xmlSpace + `:a ` + xmlSpace + `:b="")`},
		{"one name in several spaces", `<a xmlns:p="u" xmlns:q="v" p:b="1" q:b="2" b="3" xml:b="4"/>`, `(:a u:b="1" v:b="2" :b="3" ` + xmlSpace + `:b="4")`},
		{"one name without a space, the element's own has one", `<a xmlns="u" xmlns:p="u" b="1" p:b="2"/>`, `(u:a :b="1" u:b="2")`},
		{"what tells is no attribute", `<a b="1" xmlns="u" c="2" xmlns:p="v" d="3"/>`, `(u:a :b="1" :c="2" :d="3")`},
		{"xmlns behind a prefix is an attribute", `<a xmlns:p="u" p:xmlns="v"><b/></a>`, `(:a u:xmlns="v" (:b))`},
		{"xml behind a prefix is one", `<a xmlns:p="u" p:xml="v"/>`, `(:a u:xml="v")`},
		{"xml as a name", `<a xml="v"/>`, `(:a :xml="v")`},
		{"names that begin as those do", `<a xmlnsx="1" xmln="2" XMLNS="3" xml="4"><b/></a>`, `(:a :xmlnsx="1" :xmln="2" :XMLNS="3" :xml="4" (:b))`},
		{"prefixes that begin as those do", `<a xmlns:xmlnsx="u" xmlns:xm="v" xmlns:XML="w" xmlns:xmlns.="x" XML:a="" xmlnsx:b="" xm:c="" xmlns.:d=""/>`, `(:a w:a="" u:b="" v:c="" x:d="")`},
		{"prefixes of other size are others", `<p:a xmlns:p="u" xmlns:P="v"><P:b/></p:a>`, `(u:a (v:b))`},
		{"spaces of other size are others", `<a xmlns:p="u" xmlns:q="U" p:b="" q:b=""/>`, `(:a u:b="" U:b="")`},
		{"a space by references", `<a xmlns="&#117;&amp;&lt;"/>`, `(u&<:a)`},
		{"a space that is blank", "<a xmlns='\n' xmlns:p='&#32;'><p:b/></a>", `( :a ( :b))`},
		{"a prefix of signs", `<é:a xmlns:é="u" é:_="1"/>`, `(u:a u:_="1")`},
		{"one name as prefix and as name", `<a:a xmlns:a="a" a:a="a" a="b"/>`, `(a:a a:a="a" :a="b")`},
		{"texts have none", `<a xmlns="u">b</a>`, `(u:a "b")`},
		{"the last tag has the prefix", `<p:a xmlns:p="u"></p:a>`, `(u:a)`},
	} {
		t.Run(x.name, func(t *testing.T) { ask(t, x.in, x.want) })
	}
}

// P10.1
func TestTheLastTagHasTheSameQualifiedName(t *testing.T) {
	for _, in := range []string{
		`<p:a xmlns:p="u" xmlns:q="u"></q:a>`, `<p:a xmlns:p="u"></a>`, `<a xmlns="u" xmlns:p="u"></p:a>`, `<p:a xmlns:p="u"></p:b>`, `<p:a xmlns:p="u"></p>`, `<p:a xmlns:p="u"></p:>`, `<p:a xmlns:p="u"></:a>`, `<p:a xmlns:p="u"></p :a>`, `<p:a xmlns:p="u"></p: a>`, `<p:a xmlns:p="u"></P:a>`, `<p:a xmlns:p="u"></a:p>`,
	} {
		refuse(t, in, api.ErrSyntax)
	}
}

// P10.1
func TestPrefixesWithoutASpace(t *testing.T) {
	for _, in := range []string{
		`<p:a/>`, `<p:a></p:a>`, `<a p:b=""/>`, `<a b="" p:b=""/>`, `<a xmlns="u" p:b=""/>`, `<p:a xmlns="u"/>`, `<p:a xmlns:q="u"/>`, `<p:a xmlns:P="u"/>`, `<p:a xmlns:pp="u"/>`, `<a p:xmlns="u"/>`, `<p:a xmlns="p"/>`,
		`<a><p:b/></a>`, `<a><b p:c=""/></a>`, `<a><b xmlns:p="u"/><p:c/></a>`, `<a><b xmlns:p="u"></b><c p:d=""/></a>`, `<a><b xmlns:p="u"><p:c/></b><p:d/></a>`, `<a><p:b/><c xmlns:p="u"/></a>`,
		`<xmlns:a/>`, `<xmlns:xmlns/>`, `<xmlns:a xmlns="u"/>`, `<a xmlns:p="u"><xmlns:b/></a>`, `<XML:a/>`, `<a XMLNS:b=""/>`, `<a Xml:b=""/>`, `<xmlnsx:a/>`,
	} {
		refuse(t, in, api.ErrSpace)
	}
	refuse(t, `<a xmlns:p="u"/><p:b/>`, api.ErrSyntax)
}

// P10.1
func TestSpacesThatMayNotBeToldSo(t *testing.T) {
	for _, in := range []string{
		`<a xmlns:p=""/>`, `<a xmlns:p=''></a>`, `<p:a xmlns:p=""/>`, `<a xmlns:p="u"><b xmlns:p=""/></a>`, `<a xmlns:p="" xmlns:q="u"/>`, `<a xmlns:q="u" xmlns:p=""/>`,
		`<a xmlns:xml="u"/>`, `<a xmlns:xml=""/>`, `<a xmlns:xml="` + xmlSpace + `"/>`, `<a><b xmlns:xml="` + xmlSpace + `"/></a>`,
		`<a xmlns:xmlns="u"/>`, `<a xmlns:xmlns=""/>`, `<a xmlns:xmlns="http://www.w3.org/2000/xmlns/"/>`, `<xmlns:a xmlns:xmlns="u"/>`, `<a b="" xmlns:xmlns="u" c=""/>`,
	} {
		refuse(t, in, api.ErrSyntax)
	}
	ask(t, `<a xmlns:p="http://www.w3.org/2000/xmlns/" xmlns="http://www.w3.org/2000/xmlns/"/>`, `(http://www.w3.org/2000/xmlns/:a)`)
}

// P10.1
func TestAttributesThatAreThereTwice(t *testing.T) {
	for _, in := range []string{
		`<a b="" b=""/>`, `<a b='1' b="2"></a>`, `<a b="" c="" b=""/>`, `<a c="" b="" d="" b="" e=""/>`, `<a><b c="" c=""/></a>`, `<a xmlns="u" xmlns="u"/>`, `<a xmlns="u" xmlns=""/>`, `<a xmlns:p="u" xmlns:p="v"/>`, `<a xmlns:p="u" xmlns:p="u"/>`,
		`<a xmlns:p="u" p:b="" p:b=""/>`, `<a p:b="" p:b=""/>`, `<a xmlns:p="u" xmlns:q="u" p:b="" q:b=""/>`, `<a xmlns:p="u" xmlns:q="u" q:b="" c="" p:b=""/>`, `<a xmlns:p="u"><b xmlns:q="u" p:c="" q:c=""/></a>`, `<a xmlns:p="u" xmlns:q="v"><b xmlns:q="u" p:c="" q:c=""/></a>`,
		`<a xmlns:p="` + xmlSpace + `" p:b="" xml:b=""/>`, `<a xmlns:p="u" xmlns:q="u" p:xmlns="" q:xmlns=""/>`, `<a xmlns:p="u" xmlns:q="&#117;" p:b="" q:b=""/>`,
	} {
		refuse(t, in, api.ErrHas)
	}
	for _, in := range []string{
		`<a b="" B=""/>`, `<a><b c=""/><b c=""/></a>`, `<a b=""><b b=""/></a>`, `<a xmlns="u"><b xmlns="u"/></a>`, `<a xmlns:p="u"><b xmlns:p="u"/></a>`, `<a xmlns:p="u" b="" p:b=""/>`, `<a xmlns:p="u" xmlns:q="v" p:b="" q:b=""/>`, `<a xmlns:p="u" xmlns="u" p:b="" b=""/>`, `<a xmlns:p="u" xmlns:q="u" p:b="" q:c=""/>`, `<a xmlns:p="u" xmlns:q="u"><b xmlns:q="v" p:c="" q:c=""/></a>`, `<a xmlns="" xmlns:xmlnsx="u"/>`, `<a xmlns="u" xmlns:u="v" u:xmlns=""/>`, `<a xmlns:ab="u" xmlns:a="v" ab:c="" a:bc=""/>`, `<a xmlns:p="ab" xmlns:q="a" p:c="" q:bc=""/>`,
	} {
		byModel(t, in)
		if _, e := Read([]byte(in)); e != api.OK {
			t.Errorf("%s: error %d", in, e)
		}
	}
}

// P10.1: however many prefixes are told, each is found, and what is hidden comes back.
func TestManySpaces(t *testing.T) {
	const many = 60000
	var in, want strings.Builder
	in.WriteString("<a")
	want.WriteString("(:a")
	for i := range many {
		n := strconv.Itoa(i)
		in.WriteString(" xmlns:p" + n + "='u" + n + "'")
	}
	for i := range many {
		n := strconv.Itoa(i)
		in.WriteString(" p" + n + ":x=''")
		want.WriteString(" u" + n + ":x=\"\"")
	}
	in.WriteString(">")
	for i := range 16000 {
		n := strconv.Itoa(i)
		in.WriteString("<p" + n + ":b xmlns:p" + n + "='v'/>")
		want.WriteString(" (v:b)")
	}
	in.WriteString("<p7:c/></a>")
	want.WriteString(" (u7:c))")
	alone(t, in.String(), want.String())
	twice := strings.Replace(in.String(), " p59999:x=''", " p59999:x='' p0:x='1'", 1)
	alone(t, twice, told(api.Elem{}, api.ErrHas))
	alike := strings.Replace(in.String(), "'u59999'", "'u0'", 1)
	alone(t, alike, told(api.Elem{}, api.ErrHas))
}
