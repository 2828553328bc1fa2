package xmlout

import (
	"reflect"
	"slices"
	"strings"
	"testing"
	"unsafe"

	"rubricator/api"
	"rubricator/xml"
)

// P11.2
func TestNewOfEachPart(t *testing.T) {
	attrLists := [][]api.Attr{nil, {}, {{Name: "x", Value: "1"}}, {{Space: "u", Name: "y", Value: "2"}, {}, {Space: "v", Name: "x"}, {Name: "x", Value: "1"}, {Name: "x", Value: "1"}}}
	kidLists := [][]api.Elem{
		nil, {}, {{Name: "b"}}, {text("t")}, {{}}, {some()},
		{text("1"), text("2"), {Space: "u", Name: "b", Text: "3", Attrs: attrLists[3], Kids: []api.Elem{text("4"), in(in()), {Text: "5", Kids: []api.Elem{{}}}}}, some(), {}},
	}
	for _, space := range []string{"", "u", api.NsXML, "\x00\xff"} {
		for _, name := range []string{"", "a", "xmlns", "a b", "\xff"} {
			for _, attrs := range attrLists {
				for _, kids := range kidLists {
					want := api.Elem{Space: space, Name: name, Attrs: attrs, Kids: kids}
					if got := New(space, name, attrs, kids...); !like(got, want) || !xml.Same(got, want) {
						t.Errorf("%s, want %s", show(got), show(want))
					}
				}
			}
		}
	}
}

// P11.2
func TestNewOfKidsOneByOne(t *testing.T) {
	attrs := []api.Attr{{Name: "x", Value: "1"}}
	for _, x := range []struct {
		got  api.Elem
		want string
	}{
		{New("", "a", nil), `("":"a")`},
		{New("u", "a", attrs), `("u":"a" "":"x"="1")`},
		{New("u", "a", attrs, text("t")), `("u":"a" "":"x"="1" ("":"" "t"))`},
		{New("", "a", nil, New("u", "b", nil), text("t"), New("", "c", attrs, New("", "d", nil))), `("":"a" ("u":"b") ("":"" "t") ("":"c" "":"x"="1" ("":"d")))`},
		{New("", "", nil), `("":"")`},
	} {
		if show(x.got) != x.want {
			t.Errorf("%s, want %s", show(x.got), x.want)
		}
	}
	backBoth(t, New("u", "a", attrs, New("v", "b", attrs, text("t")), text("t"), New("", "c", nil)))
}

// some is an element with several lists; each call makes it anew.
func some() api.Elem {
	return api.Elem{Space: "s", Name: "a", Attrs: []api.Attr{{Name: "y", Value: "0"}, {Space: "u", Name: "x", Value: "1"}, {Space: api.NsXML, Name: "z"}}, Kids: []api.Elem{
		text("t"), {Space: "u", Name: "b", Attrs: []api.Attr{{Space: "w", Name: "k", Value: "l"}}, Kids: []api.Elem{text("m"), {Name: "d", Kids: []api.Elem{{Name: "e", Attrs: []api.Attr{{Name: "f"}}}}}}},
		{Name: "b"}, text("t2"), {Space: "u", Name: "b", Kids: []api.Elem{in(text("n"))}},
	}}
}

// roomy is an element as new memory, with filled spare room behind each of its lists.
func roomy(e api.Elem) api.Elem {
	attrs := append(slices.Clone(e.Attrs), api.Attr{Name: "spare"}, api.Attr{Name: "spare"})
	kids := []api.Elem{}
	for _, k := range e.Kids {
		kids = append(kids, roomy(k))
	}
	kids = append(kids, api.Elem{Name: "spare"}, api.Elem{Name: "spare"})
	e.Attrs, e.Kids = attrs[:len(e.Attrs)], kids[:len(e.Kids)]
	return e
}

// rooms is an element with all that stands in its lists' spare room.
func rooms(e api.Elem) api.Elem {
	attrs, kids := slices.Clone(e.Attrs[:cap(e.Attrs)]), []api.Elem{}
	for _, k := range e.Kids[:cap(e.Kids)] {
		kids = append(kids, rooms(k))
	}
	e.Attrs, e.Kids = attrs, kids
	return e
}

// spoil changes all that an element has, and the spare room of its lists.
func spoil(e *api.Elem) {
	for i := range e.Kids {
		spoil(&e.Kids[i])
	}
	for i := range e.Attrs[:cap(e.Attrs)] {
		e.Attrs[:cap(e.Attrs)][i] = api.Attr{Space: "z", Name: "z", Value: "z"}
	}
	for i := range e.Kids[:cap(e.Kids)] {
		e.Kids[:cap(e.Kids)][i] = api.Elem{Name: "z"}
	}
	*e = api.Elem{Name: "z"}
}

// P11.3, W6, W7
func TestWriteChangesAndKeepsNothing(t *testing.T) {
	e, behind := roomy(some()), rooms(roomy(some()))
	one, err := Write(e)
	if err != api.OK || !reflect.DeepEqual(rooms(e), behind) {
		t.Fatalf("error %d, %s", err, show(rooms(e)))
	}
	was := string(one)
	two, _ := Write(e)
	spoil(&e)
	if string(one) != was {
		t.Error("what is answered changes with what was handed in")
	}
	for i := range one[:cap(one)] {
		one[:cap(one)][i] = 'z'
	}
	if string(two) != was {
		t.Error("two answers share memory")
	}
	if again, _ := Write(some()); string(again) != was {
		t.Error("an answer that is changed changes what is answered later")
	}
	for _, x := range faults {
		e := roomy(x.of(some()))
		behind := rooms(roomy(x.of(some())))
		Write(e)
		if !reflect.DeepEqual(rooms(e), behind) {
			t.Errorf("%s is changed", show(e))
		}
	}
}

// P11.3: a piece of the document's bytes is new memory each time, the first row too.
func TestTheFirstRowIsNewEachTime(t *testing.T) {
	for range 3 {
		b, _ := Write(in())
		if !strings.HasPrefix(string(b), ahead) {
			t.Errorf("%q", b)
		}
		for i := range b {
			b[i] = 'z'
		}
	}
}

// P11.3, W6, W7
func TestNewChangesAndKeepsNothing(t *testing.T) {
	e, behind := roomy(some()), rooms(roomy(some()))
	one := New(e.Space, e.Name, e.Attrs, e.Kids...)
	two := New(e.Space, e.Name, e.Attrs, e.Kids...)
	want := show(some())
	if show(one) != want || !reflect.DeepEqual(rooms(e), behind) {
		t.Fatal(show(one), show(rooms(e)))
	}
	spoil(&one)
	if show(two) != want || !reflect.DeepEqual(rooms(e), behind) {
		t.Error("what is answered shares memory with what was handed in, or with another answer")
	}
	spoil(&e)
	if show(two) != want {
		t.Error("what is answered changes with what was handed in")
	}
	three := New("", "a", nil, two, two)
	spoil(&three.Kids[0])
	if show(three.Kids[1]) != want || show(two) != want {
		t.Error("a kid that is handed in twice is one")
	}
}

// P11.3, W6: what an answer of New is grown by does not come into another one.
func TestAppendingToWhatNewAnswers(t *testing.T) {
	attrs := make([]api.Attr, 1, 8)
	kids := make([]api.Elem, 1, 8)
	one, two := New("", "a", attrs, kids...), New("", "b", attrs, kids...)
	one.Attrs, one.Kids = append(one.Attrs, api.Attr{Name: "1"}), append(one.Kids, text("1"))
	two.Attrs, two.Kids = append(two.Attrs, api.Attr{Name: "2"}), append(two.Kids, text("2"))
	if one.Attrs[1].Name != "1" || one.Kids[1].Text != "1" || attrs[:2][1] != (api.Attr{}) || kids[:2][1].Text != "" {
		t.Error(show(one), show(two))
	}
}

// lists tells where each list of an element begins, and how many bytes it has with its spare room.
func lists(e api.Elem, told func(from, size uintptr)) {
	if cap(e.Attrs) > 0 {
		told(uintptr(unsafe.Pointer(unsafe.SliceData(e.Attrs))), uintptr(cap(e.Attrs))*unsafe.Sizeof(api.Attr{}))
	}
	if cap(e.Kids) > 0 {
		told(uintptr(unsafe.Pointer(unsafe.SliceData(e.Kids))), uintptr(cap(e.Kids))*unsafe.Sizeof(api.Elem{}))
	}
	for _, k := range e.Kids {
		lists(k, told)
	}
}

// P11.3, W6
func TestNoTwoListsShareMemory(t *testing.T) {
	shared := roomy(some())
	e := New("u", "a", shared.Attrs, shared, shared, api.Elem{Name: "b", Attrs: shared.Attrs, Kids: shared.Kids}, api.Elem{Name: "c", Attrs: shared.Attrs[:1], Kids: shared.Kids[:2]})
	var from, to []uintptr
	look := func(begin, size uintptr) {
		for i := range from {
			if begin < to[i] && from[i] < begin+size {
				t.Error("two lists share memory")
			}
		}
		from, to = append(from, begin), append(to, begin+size)
	}
	lists(shared, look)
	lists(e, look)
	if len(from) < 30 {
		t.Error(len(from))
	}
}

// inside tells whether a text's memory is a piece of another one's.
func inside(part, whole string) bool {
	from := uintptr(unsafe.Pointer(unsafe.StringData(whole)))
	at := uintptr(unsafe.Pointer(unsafe.StringData(part)))
	return part != "" && at >= from && at < from+uintptr(len(whole))
}

// P11.3, W6
func TestTextsOfNewAreNewMemory(t *testing.T) {
	s := strings.Clone("spacenametextvalue")
	attrs := []api.Attr{{Space: s[:5], Name: s[5:9], Value: s[13:]}}
	e := api.Elem{Space: s[:5], Name: s[5:9], Attrs: attrs, Kids: []api.Elem{{Text: s[9:13]}, {Space: s[:5], Name: s[5:9], Attrs: attrs}}}
	got := New(e.Space, e.Name, e.Attrs, e.Kids...)
	if !like(got, e) {
		t.Error(show(got))
	}
	for _, piece := range flat(got) {
		if inside(piece, s) {
			t.Error(piece)
		}
	}
}

// P11.3, W2, W5
func TestAnswersHangOnTheArgumentAlone(t *testing.T) {
	many := in()
	for _, space := range strings.Fields("u v w x y z s t r q p o n m l k j i h g f e d c b a") {
		many.Kids = append(many.Kids, api.Elem{Space: space, Name: "b", Attrs: []api.Attr{{Space: space + space, Name: "c"}}}, text(space))
	}
	inputs := []api.Elem{some(), many, in(), in(text("t")), text("t"), {}, in(text("\xff")), deep(257), deep(258), at(api.Attr{Name: "b"}, api.Attr{Name: "b"})}
	first := map[string]string{}
	for range 8 {
		for _, e := range inputs {
			for _, e := range []api.Elem{e, roomy(e)} {
				got := told(Write(e))
				if was, asked := first[show(e)]; asked && was != got {
					t.Errorf("%s: %s, and then %s", cut(show(e)), cut(was), cut(got))
				}
				first[show(e)] = got
			}
		}
		slices.Reverse(inputs)
	}
}

// P11.2, W1: as deep as anything may be.
func TestNewOfDeepKids(t *testing.T) {
	const most = 1 << 16
	kid := deep(most)
	e := New("", "a", nil, kid)
	if !xml.Same(e.Kids[0], kid) {
		t.Error("a kid that is deep is another one")
	}
	refuseUnshown(t, e)
}
