package xmlout

import (
	"regexp"
	"testing"
	"unicode/utf8"

	"rubricator/api"
)

var (
	anyName = regexp.MustCompile(`^[A-Za-z_\x{80}-\x{10ffff}][A-Za-z_\x{80}-\x{10ffff}0-9.\-]*$`)
	anyText = regexp.MustCompile(`^[\t\n\r\x20-\x{d7ff}\x{e000}-\x{fffd}\x{10000}-\x{10ffff}]*$`)
)

func noText(s string) bool { return !utf8.ValidString(s) || !anyText.MatchString(s) }

func noName(space, name string) bool {
	return !anyName.MatchString(name) || noText(name) || space == "" && name == "xmlns"
}

// place is an element, and where it stands.
type place struct {
	e            api.Elem
	about        int
	isBehindText bool
}

// places is an element and all within it, in the order of walking.
func places(e api.Elem) []place {
	var out []place
	var walk func(place)
	walk = func(p place) {
		out = append(out, p)
		for i, k := range p.e.Kids {
			walk(place{k, p.about + 1, i > 0 && p.e.Kids[i-1].Name == ""})
		}
	}
	walk(place{e: e})
	return out
}

// model is a second reader of the chapter's errors: all of all, in a row.
func model(e api.Elem) api.Errno {
	all := places(e)
	if len(all) > api.MaxElems {
		return api.ErrFull
	}
	for _, p := range all {
		if p.about > 256 {
			return api.ErrFull
		}
	}
	for _, p := range all {
		if err := p.fault(); err != api.OK {
			return err
		}
	}
	return api.OK
}

func (p place) fault() api.Errno {
	e := p.e
	if e.Name == "" {
		if e.Space != "" || len(e.Attrs) != 0 || len(e.Kids) != 0 || p.about == 0 {
			return api.ErrName
		}
		if e.Text == "" || noText(e.Text) || p.isBehindText {
			return api.ErrText
		}
		return api.OK
	}
	isName, isText, isHas := e.Text != "" || noName(e.Space, e.Name), noText(e.Space), false
	for i, a := range e.Attrs {
		isName = isName || noName(a.Space, a.Name)
		isText = isText || noText(a.Space) || noText(a.Value)
		for _, b := range e.Attrs[:i] {
			isHas = isHas || a.Space == b.Space && a.Name == b.Name
		}
	}
	switch {
	case isName:
		return api.ErrName
	case isText:
		return api.ErrText
	case isHas:
		return api.ErrHas
	}
	return api.OK
}

// byModel holds an element's error against the second reader's; one without an error comes back.
func byModel(t *testing.T, e api.Elem) api.Errno {
	t.Helper()
	want := model(e)
	if want == api.OK {
		back(t, e)
	} else {
		refuse(t, e, want)
	}
	return want
}

// P11.1: every element of few pieces.
func TestEveryElementOfFewPieces(t *testing.T) {
	attrLists := [][]api.Attr{nil, {{Name: "b"}}, {{Space: "u", Name: "b"}, {Name: "b"}}, {{Name: "b"}, {Name: "b", Value: "1"}}, {{Name: "xmlns"}}, {{Space: "u", Name: "xmlns"}}, {{Name: "b", Value: "\x00"}}, {{Name: "1"}}}
	pieces := []api.Elem{
		{}, text("t"), text("\x00"), text("\n"), in(), in(text("t")), in(text("t"), text("t")), {Space: "u", Name: "a"}, {Name: "1"}, {Name: "xmlns"}, {Space: "u", Text: "t"}, {Name: "a", Text: "t"}, {Space: "\xff", Name: "a"}, at(api.Attr{Space: "u", Name: "b"}), at(api.Attr{Name: "b"}, api.Attr{Name: "b"}), {Kids: []api.Elem{in()}},
	}
	found := map[api.Errno]int{}
	ask := func(kids ...api.Elem) {
		for _, space := range []string{"", "u"} {
			for _, name := range []string{"a", "", "xmlns"} {
				for _, attrs := range attrLists {
					if !t.Failed() {
						found[byModel(t, api.Elem{Space: space, Name: name, Attrs: attrs, Kids: kids})]++
					}
				}
			}
		}
	}
	ask()
	for _, x := range pieces {
		ask(x)
		for _, y := range pieces {
			ask(x, y)
			for _, z := range pieces {
				ask(x, y, z)
			}
		}
	}
	for _, err := range []api.Errno{api.OK, api.ErrName, api.ErrText, api.ErrHas} {
		if found[err] < 1000 {
			t.Errorf("error %d: only %d", err, found[err])
		}
	}
}
