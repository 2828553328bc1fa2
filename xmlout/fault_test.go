package xmlout

import (
	"slices"
	"testing"

	"rubricator/api"
)

// wrong is a way in which an element, or a text, is made one that may not be.
type wrong struct {
	of  func(api.Elem) api.Elem
	err api.Errno
}

func withAttrs(attrs ...api.Attr) func(api.Elem) api.Elem {
	return func(e api.Elem) api.Elem {
		e.Attrs = append(slices.Clone(e.Attrs), attrs...)
		return e
	}
}

func withName(name string) func(api.Elem) api.Elem {
	return func(e api.Elem) api.Elem {
		e.Name = name
		return e
	}
}

func withText(s string) func(api.Elem) api.Elem {
	return func(e api.Elem) api.Elem {
		e.Text = s
		return e
	}
}

func withSpace(space string) func(api.Elem) api.Elem {
	return func(e api.Elem) api.Elem {
		e.Space = space
		return e
	}
}

func withKids(kids ...api.Elem) func(api.Elem) api.Elem {
	return func(e api.Elem) api.Elem {
		e.Kids = append(slices.Clone(e.Kids), kids...)
		return e
	}
}

// faults are of what has a name.
var faults = []wrong{
	{withText("t"), api.ErrName}, {withText(" "), api.ErrName}, {withText("\xff"), api.ErrName},
	{withName("a b"), api.ErrName}, {withName("a:b"), api.ErrName}, {withName(":a"), api.ErrName}, {withName("a:"), api.ErrName}, {withName("9"), api.ErrName}, {withName("-a"), api.ErrName}, {withName(" "), api.ErrName}, {withName("a\x00"), api.ErrName}, {withName("\xff"), api.ErrName}, {withName("a\xc3"), api.ErrName}, {withName("\ufffe"), api.ErrName}, {withName("a\uffff"), api.ErrName}, {withName("\xed\xa0\x80"), api.ErrName},
	{withAttrs(api.Attr{}), api.ErrName}, {withAttrs(api.Attr{Space: "u"}), api.ErrName}, {withAttrs(api.Attr{Name: "a b"}), api.ErrName}, {withAttrs(api.Attr{Space: "u", Name: "a:b"}), api.ErrName}, {withAttrs(api.Attr{Name: "9"}), api.ErrName}, {withAttrs(api.Attr{Name: "a="}), api.ErrName}, {withAttrs(api.Attr{Name: "\xff"}), api.ErrName}, {withAttrs(api.Attr{Space: "u", Name: "a\ufffe"}), api.ErrName}, {withAttrs(api.Attr{Name: "\xed\xb0\x80"}), api.ErrName},
	{withAttrs(api.Attr{Name: "xmlns"}), api.ErrName}, {withAttrs(api.Attr{Name: "xmlns", Value: "u"}), api.ErrName}, {withAttrs(api.Attr{Name: "xmlns:p", Value: "u"}), api.ErrName}, {withAttrs(api.Attr{Space: "xmlns", Name: "xmlns"}, api.Attr{Name: "xmlns"}), api.ErrName},
	{withSpace("\x00"), api.ErrText}, {withSpace("u\xff"), api.ErrText}, {withSpace("\ufffe"), api.ErrText}, {withSpace(api.NsXML + "\x0b"), api.ErrText}, {withSpace("\xed\xa0\x80"), api.ErrText},
	{withAttrs(api.Attr{Space: "\x00", Name: "q"}), api.ErrText}, {withAttrs(api.Attr{Space: "\uffff", Name: "q"}), api.ErrText}, {withAttrs(api.Attr{Space: "\xff", Name: "xmlns"}), api.ErrText}, {withAttrs(api.Attr{Space: "u", Name: "q"}, api.Attr{Space: "\x80", Name: "q"}), api.ErrText},
	{withAttrs(api.Attr{Name: "q", Value: "\x01"}), api.ErrText}, {withAttrs(api.Attr{Space: "u", Name: "q", Value: "a\xffb"}), api.ErrText}, {withAttrs(api.Attr{Space: api.NsXML, Name: "q", Value: "\ufffe"}), api.ErrText},
	{withAttrs(api.Attr{Name: "q"}, api.Attr{Name: "q"}), api.ErrHas}, {withAttrs(api.Attr{Name: "q", Value: "1"}, api.Attr{Name: "r"}, api.Attr{Name: "q", Value: "2"}), api.ErrHas}, {withAttrs(api.Attr{Space: "u", Name: "q"}, api.Attr{Name: "q"}, api.Attr{Space: "u", Name: "q"}), api.ErrHas}, {withAttrs(api.Attr{Space: api.NsXML, Name: "q"}, api.Attr{Space: api.NsXML, Name: "q"}), api.ErrHas}, {withAttrs(api.Attr{Space: "u", Name: "xmlns"}, api.Attr{Space: "u", Name: "xmlns"}), api.ErrHas},
}

// textFaults are of what has none.
var textFaults = []wrong{
	{withSpace("u"), api.ErrName}, {withSpace("\xff"), api.ErrName}, {withAttrs(api.Attr{Name: "b"}), api.ErrName}, {withAttrs(api.Attr{}), api.ErrName}, {withKids(in()), api.ErrName}, {withKids(text("t")), api.ErrName}, {withKids(api.Elem{}), api.ErrName},
	{withText(""), api.ErrText}, {withText("\x00"), api.ErrText}, {withText("t\xff"), api.ErrText}, {withText("\ufffe"), api.ErrText}, {withText("\xed\xa0\x80"), api.ErrText}, {withText("\x0ct"), api.ErrText},
}

// ofOne is which of two errors comes first, if one element has both.
func ofOne(a, b api.Errno) api.Errno {
	order := []api.Errno{api.ErrFull, api.ErrName, api.ErrText, api.ErrHas}
	return order[min(slices.Index(order, a), slices.Index(order, b))]
}

// P11.1
func TestEveryFaultAloneAndEveryTwo(t *testing.T) {
	for _, e := range []api.Elem{in(), some(), at(api.Attr{Name: "b"}), in(text("t"))} {
		for _, x := range faults {
			refuseBoth(t, x.of(e), x.err)
			for _, y := range faults {
				refuseBoth(t, y.of(x.of(e)), ofOne(x.err, y.err))
			}
		}
	}
	for _, x := range textFaults {
		refuseBoth(t, in(x.of(text("t"))), x.err)
		for _, y := range textFaults {
			e := y.of(x.of(text("t")))
			refuseBoth(t, in(e), ofOne(x.err, y.err))
			refuseBoth(t, in(text("t"), e), ofOne(x.err, y.err))
			refuseBoth(t, in(text("t"), in(), e), ofOne(x.err, y.err))
			refuseBoth(t, e, api.ErrName)
		}
	}
}

// refuseBoth holds an element's error against what is wanted, and the second reader's too.
func refuseBoth(t *testing.T, e api.Elem, want api.Errno) {
	t.Helper()
	refuse(t, e, want)
	if got := model(e); got != want {
		t.Errorf("the second reader of %s: %d, want %d", cut(show(e)), got, want)
	}
}

// P11.1
func TestWhatIsToBeWrittenHasAName(t *testing.T) {
	for _, e := range []api.Elem{{}, text("t"), text("\xff"), {Space: "u"}, {Attrs: []api.Attr{{Name: "b"}}}, {Kids: []api.Elem{in()}}, {Kids: []api.Elem{text("\x00")}}, {Text: "t", Kids: []api.Elem{{}}}} {
		refuseBoth(t, e, api.ErrName)
	}
}

// P11.1
func TestNamedXmlns(t *testing.T) {
	for _, e := range []api.Elem{{Name: "xmlns"}, {Name: "xmlns", Kids: []api.Elem{text("t")}}, in(api.Elem{Name: "xmlns"}), at(api.Attr{Name: "xmlns"}), at(api.Attr{Space: "u", Name: "xmlns"}, api.Attr{Name: "xmlns"}), {Space: "u", Name: "a", Attrs: []api.Attr{{Name: "xmlns", Value: "u"}}}} {
		refuseBoth(t, e, api.ErrName)
	}
	for _, x := range faults {
		refuse(t, withAttrs(api.Attr{Name: "xmlns"})(x.of(some())), api.ErrName)
	}
	for _, e := range []api.Elem{{Space: "u", Name: "xmlns"}, {Space: "xmlns", Name: "xmlns"}, {Space: api.NsXML, Name: "xmlns"}, at(api.Attr{Space: "u", Name: "xmlns"}), at(api.Attr{Space: "u", Name: "xmlns", Value: "v"}, api.Attr{Space: "v", Name: "xmlns"}), {Name: "Xmlns", Attrs: []api.Attr{{Name: "xmlnS"}, {Name: "xmlns."}}}} {
		back(t, e)
	}
}

// P11.1
func TestAttributesThatAreThereTwice(t *testing.T) {
	b, c := api.Attr{Space: "u", Name: "b", Value: "1"}, api.Attr{Name: "c"}
	for _, e := range []api.Elem{
		at(b, b), at(b, c, b), at(c, b, b), at(c, c), at(b, c, c), at(b, api.Attr{Space: "u", Name: "b", Value: "2"}), at(c, b, c, b), in(at(b, b)), in(at(b), at(c, c)),
	} {
		refuseBoth(t, e, api.ErrHas)
	}
	for _, e := range []api.Elem{
		at(b, api.Attr{Name: "b", Value: "1"}), at(b, api.Attr{Space: "v", Name: "b", Value: "1"}), at(b, api.Attr{Space: "u", Name: "B", Value: "1"}), at(b, api.Attr{Space: "U", Name: "b", Value: "1"}), at(b, api.Attr{Space: "u", Name: "c", Value: "1"}), at(b, api.Attr{Space: "b", Name: "u", Value: "1"}), at(api.Attr{Space: "ab", Name: "c"}, api.Attr{Space: "a", Name: "bc"}), in(at(b), at(b)), {Name: "a", Attrs: []api.Attr{b}, Kids: []api.Elem{at(b, c)}}, {Name: "c", Attrs: []api.Attr{c}},
	} {
		backBoth(t, e)
	}
}

// P11.1
func TestTextsBehindTexts(t *testing.T) {
	one, two := text("1"), text("2")
	for _, e := range []api.Elem{
		in(one, two), in(one, one), in(in(), one, two), in(one, two, in()), in(one, in(), one, two), in(in(one, two)), in(one, in(one, two)), in(in(one, two), one), in(text(" "), text("\n")), in(one, text("")), in(one, text("\x00")), in(text(""), one), in(text("")), in(in(), text("")), in(text(""), in()), in(text(""), text("")), in(one, text(""), one), in(one, api.Elem{}, two),
	} {
		refuseBoth(t, e, api.ErrText)
	}
	for _, e := range []api.Elem{
		in(one), in(one, in()), in(in(), one), in(one, in(), two), in(one, in(one), two), in(in(one), one), in(one, in(one)), in(in(one), in(one)), in(one, in(one, in(one), one), one),
	} {
		backBoth(t, e)
	}
	for _, x := range textFaults {
		refuseBoth(t, in(one, x.of(two)), x.err)
		refuseBoth(t, in(x.of(one), two), x.err)
	}
	for _, x := range faults {
		refuseBoth(t, in(one, two, x.of(in())), api.ErrText)
		refuseBoth(t, in(x.of(in()), one, two), x.err)
		refuseBoth(t, in(one, x.of(in()), two), x.err)
		refuseBoth(t, in(one, in(x.of(in()), one, two), two), x.err)
		refuseBoth(t, x.of(in(one, two)), x.err)
	}
}

// P11.1: of any two faults at any two places the one that is walked to first.
func TestFaultsInTheOrderOfWalking(t *testing.T) {
	e := in(text("1"), in(in(text("2"), in()), text("3")), in(), text("4"), in(in()))
	many := len(places(e))
	for i := range many {
		for _, x := range faultsAt(e, i) {
			one := put(e, i, x.of)
			refuseBoth(t, one, x.err)
			for j := i + 1; j < many; j++ {
				for _, y := range faultsAt(e, j) {
					refuse(t, put(put(e, j, y.of), i, x.of), x.err)
				}
			}
		}
	}
}

// faultsAt are those that what stands at a place may have.
func faultsAt(e api.Elem, place int) []wrong {
	if places(e)[place].e.Name == "" {
		return textFaults
	}
	return faults
}

// put is an element in which what stands at a place is another one.
func put(e api.Elem, place int, of func(api.Elem) api.Elem) api.Elem {
	if place == 0 {
		return of(e)
	}
	place--
	kids := slices.Clone(e.Kids)
	for i, k := range kids {
		many := len(places(k))
		if place < many {
			kids[i] = put(k, place, of)
			break
		}
		place -= many
	}
	e.Kids = kids
	return e
}

// deep is so many elements within one another.
func deep(n int) api.Elem {
	e := in()
	for range n - 1 {
		e = in(e)
	}
	return e
}

// holding is so many elements within one another, and a text in the innermost one.
func holding(n int) api.Elem {
	e := in(text("t"))
	for range n - 1 {
		e = in(e)
	}
	return e
}

// P11.1
func TestAsDeepAsMayBe(t *testing.T) {
	for _, e := range []api.Elem{
		deep(1), deep(2), deep(255), deep(256), deep(257), holding(1), holding(255), holding(256), in(deep(256), deep(256)), in(in(), deep(256), text("t"), holding(255)), in(text("t"), holding(255), in()),
	} {
		back(t, e)
		if model(e) != api.OK {
			t.Error("the second reader of", cut(show(e)))
		}
	}
	for _, e := range []api.Elem{
		deep(258), deep(259), deep(1 << 16), deep(1 << 20), holding(257), holding(258), in(deep(257)), in(in(), deep(257)), in(deep(257), in()), in(text("t"), holding(256)), in(deep(255), in(deep(255), deep(256))), in(api.Elem{Text: "t", Kids: []api.Elem{deep(256)}}), {Kids: []api.Elem{deep(257)}}, in(api.Elem{Kids: []api.Elem{deep(256)}}),
	} {
		refuse(t, e, api.ErrFull)
	}
	refuse(t, in(api.Elem{Kids: []api.Elem{deep(255)}}), api.ErrName)
	refuse(t, api.Elem{Kids: []api.Elem{deep(256)}}, api.ErrName)
}

// P11.1: what has no name counts as what has one.
func TestAsManyAsMayBe(t *testing.T) {
	const most = api.MaxElems
	elems := slices.Repeat([]api.Elem{{Name: "b"}}, most-1)
	mixed := slices.Repeat([]api.Elem{text("t"), {Name: "b"}}, most/2)[:most-1]
	nested := slices.Repeat([]api.Elem{{Name: "b", Kids: []api.Elem{text("t")}}}, (most-2)/2)
	nested = append(nested, in())
	deepest := append(slices.Repeat([]api.Elem{deep(256)}, most/256-1), elems[:255]...)
	for _, kids := range [][]api.Elem{elems, mixed, nested, deepest} {
		e := in(kids...)
		if many := len(places(e)); many != most {
			t.Fatal(many)
		}
		back(t, e)
		back(t, in(kids[1:]...))
		for _, more := range []api.Elem{{Name: "c"}, text("t"), text(""), {}, {Name: "1"}} {
			refuse(t, in(append([]api.Elem{more}, kids...)...), api.ErrFull)
			refuse(t, in(append(slices.Clone(kids), more)...), api.ErrFull)
			within := slices.Clone(kids)
			within[1].Kids = append(slices.Clone(within[1].Kids), more)
			refuse(t, in(within...), api.ErrFull)
		}
	}
	refuse(t, in(make([]api.Elem, most)...), api.ErrFull)
	refuse(t, in(make([]api.Elem, most-1)...), api.ErrText)
	refuse(t, api.Elem{Kids: make([]api.Elem, most)}, api.ErrFull)
	refuse(t, api.Elem{Kids: make([]api.Elem, most-1)}, api.ErrName)
	refuse(t, in(api.Elem{Text: "t", Kids: make([]api.Elem, most-1)}), api.ErrFull)
	refuse(t, in(api.Elem{Text: "t", Kids: make([]api.Elem, most-2)}), api.ErrName)
	refuse(t, in(make([]api.Elem, 1<<20)...), api.ErrFull)
}

// P11.1: ahead of all other errors, wherever either stands.
func TestTooManyComesFirst(t *testing.T) {
	wide := in(slices.Repeat([]api.Elem{{Name: "b"}}, api.MaxElems-2)...)
	for _, x := range faults {
		refuse(t, x.of(deep(258)), api.ErrFull)
		refuse(t, in(x.of(in()), deep(257)), api.ErrFull)
		refuse(t, in(deep(257), x.of(in())), api.ErrFull)
		refuse(t, put(deep(258), 257, x.of), api.ErrFull)
		refuse(t, put(deep(257), 256, x.of), x.err)
		refuse(t, in(x.of(in()), wide), api.ErrFull)
		refuse(t, in(wide, x.of(in())), api.ErrFull)
		refuse(t, x.of(in(in(), wide)), api.ErrFull)
		refuse(t, x.of(in(wide)), x.err)
	}
	for _, x := range textFaults {
		refuse(t, in(x.of(text("t")), deep(257)), api.ErrFull)
		refuse(t, in(deep(257), x.of(text("t"))), api.ErrFull)
		refuse(t, in(wide, x.of(text("t"))), api.ErrFull)
		refuse(t, in(x.of(text("t")), wide), api.ErrFull)
	}
	refuse(t, in(text("1"), text("2"), deep(257)), api.ErrFull)
	refuse(t, in(text("1"), text("2"), wide), api.ErrFull)
}

// W1: an element within itself, and one that is there more often than can be walked.
func TestElementsWithoutEnd(t *testing.T) {
	for _, name := range []string{"a", ""} {
		kids := make([]api.Elem, 2)
		kids[0] = api.Elem{Name: name, Kids: kids[:1]}
		kids[1] = api.Elem{Name: name, Kids: kids}
		refuseUnshown(t, kids[0])
		refuseUnshown(t, kids[1])
		e := api.Elem{Name: name}
		for range 200 {
			e = api.Elem{Name: name, Kids: []api.Elem{e, e}}
		}
		refuseUnshown(t, e)
	}
}

// refuseUnshown holds that there is too much of an element that can't even be shown.
func refuseUnshown(t *testing.T, e api.Elem) {
	t.Helper()
	if got := told(Write(e)); got != told(nil, api.ErrFull) {
		t.Error(cut(got))
	}
}
