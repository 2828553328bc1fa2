package xmlout

import (
	"math/rand"
	"slices"
	"testing"

	"rubricator/api"
)

// drawer draws elements.
type drawer struct {
	*rand.Rand
	left int // how many elements may still be drawn
}

func (r *drawer) one(of ...string) string { return of[r.Intn(len(of))] }

var (
	drawnNames  = []string{"a", "b", "xml", "n1", "é", "_.-1"}
	drawnSpaces = []string{"", "", "u", "v", "u&<\"'>", "http://w", " \n", api.NsXML}
	drawnRunes  = []rune("ab<>&\"' \t\n]\r;#é€\U0001f600\ufeff")
)

func (r *drawer) text(least int) string {
	s := ""
	for range least + r.Intn(6) {
		s += string(drawnRunes[r.Intn(len(drawnRunes))])
	}
	return s
}

// elem is an element that may be written.
func (r *drawer) elem(about int) api.Elem {
	r.left--
	e := api.Elem{Space: r.one(drawnSpaces...), Name: r.one(drawnNames...)}
	for range r.Intn(4) {
		a := api.Attr{Space: r.one(drawnSpaces...), Name: r.one(drawnNames...), Value: r.text(0)}
		if !slices.ContainsFunc(e.Attrs, func(b api.Attr) bool { return a.Space == b.Space && a.Name == b.Name }) {
			e.Attrs = append(e.Attrs, a)
		}
	}
	isBehindText := false
	for range r.Intn(6) {
		if about > 8 || r.left <= 0 {
			break
		}
		if !isBehindText && r.Intn(2) == 0 {
			e.Kids = append(e.Kids, text(r.text(1)))
			isBehindText = true
			continue
		}
		e.Kids = append(e.Kids, r.elem(about+1))
		isBehindText = false
	}
	return e
}

// P11.1
func TestDrawnElements(t *testing.T) {
	for seed := range 2000 {
		r := &drawer{rand.New(rand.NewSource(int64(seed))), 60}
		e := r.elem(0)
		if model(e) != api.OK {
			t.Fatal(show(e))
		}
		backBoth(t, e)
		if t.Failed() {
			return
		}
	}
}

// turn is an element with one of its fields, or of its lists, another one.
func (r *drawer) turn(e api.Elem) api.Elem {
	name := r.one("", "a", "b", "1", "a:b", "xmlns", "\xff", "é", "\ufffe", "c")
	s := r.one("", "t", "u", "\x00", "\xff", "\ufffd", " ", api.NsXML)
	attrs, kids := slices.Clone(e.Attrs), slices.Clone(e.Kids)
	i, j := r.Intn(len(attrs)+1), r.Intn(len(kids)+1)
	switch r.Intn(9) {
	case 0:
		e.Name = name
	case 1:
		e.Space = s
	case 2:
		e.Text = s
	case 3:
		attrs = slices.Insert(attrs, i, api.Attr{Space: r.one("", s, "u"), Name: name, Value: r.one("", s)})
	case 4:
		attrs = slices.Delete(attrs, 0, i)
	case 5:
		kids = slices.Insert(kids, j, text(r.one("t", s)))
	case 6:
		kids = slices.Delete(kids, 0, j)
	case 7:
		if i < len(attrs) {
			attrs = append(attrs, api.Attr{Space: attrs[i].Space, Name: attrs[i].Name, Value: s})
		}
	default:
		if j < len(kids) {
			kids = slices.Insert(kids, j, kids[j])
		}
	}
	e.Attrs, e.Kids = attrs, kids
	return e
}

// P11.1
func TestDrawnElementsThatAreTurned(t *testing.T) {
	found := map[api.Errno]int{}
	for seed := range 3000 {
		r := &drawer{rand.New(rand.NewSource(int64(seed))), 12}
		e := r.elem(0)
		for range 10 {
			turned := e
			for range 1 + r.Intn(3) {
				turned = put(turned, r.Intn(len(places(turned))), r.turn)
			}
			found[byModel(t, turned)]++
			if t.Failed() {
				return
			}
		}
	}
	for _, err := range []api.Errno{api.OK, api.ErrName, api.ErrText, api.ErrHas} {
		if found[err] < 100 {
			t.Errorf("error %d: only %d", err, found[err])
		}
	}
}

func BenchmarkWrite(b *testing.B) {
	kid := api.Elem{Space: "v", Name: "b", Attrs: []api.Attr{{Space: "v", Name: "c", Value: "1"}, {Name: "d", Value: "2"}}, Kids: []api.Elem{text("text & more"), {Space: "u", Name: "e"}}}
	e := api.Elem{Space: "u", Name: "a", Kids: slices.Repeat([]api.Elem{kid}, 5000)}
	for b.Loop() {
		out, err := Write(e)
		if err != api.OK {
			b.Fatal(err)
		}
		b.SetBytes(int64(len(out)))
	}
}
