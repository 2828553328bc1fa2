package xmlout

import (
	"strconv"

	"rubricator/api"
)

const heading = `<?xml version="1.0" encoding="UTF-8" standalone="yes"?>` + "\n"

// writer lays an element down whose first tag tells all spaces, each once, as all bytes of a package's parts are counted.
type writer struct {
	out    []byte
	plain  string         // the space of elements that have no prefix
	spaces []string       // those that have one, in the order in which they are needed
	places map[string]int // where in that order a space stands
}

// bytesOf is an element, which may be written, as bytes.
func bytesOf(e api.Elem) []byte {
	w := &writer{out: []byte(heading), places: map[string]int{}}
	if e.Space != api.NsXML && allHaveSpaces(e) {
		w.plain = e.Space
	}
	w.findSpaces(e)
	w.elem(e, true)
	return w.out
}

// allHaveSpaces tells whether there is no element without a space, to which that of one about it may not come.
func allHaveSpaces(e api.Elem) bool {
	if isText(e) {
		return true
	}
	if e.Space == "" {
		return false
	}
	for _, kid := range e.Kids {
		if !allHaveSpaces(kid) {
			return false
		}
	}
	return true
}

// findSpaces finds the spaces that need a prefix in an element and in all within it.
func (w *writer) findSpaces(e api.Elem) {
	if e.Space != w.plain {
		w.need(e.Space)
	}
	for _, a := range e.Attrs {
		w.need(a.Space)
	}
	for _, kid := range e.Kids {
		w.findSpaces(kid)
	}
}

// need gives a prefix to a space, but to that of xml, whose prefix nobody may tell.
func (w *writer) need(space string) {
	if space == "" || space == api.NsXML {
		return
	}
	if _, is := w.places[space]; is {
		return
	}
	w.places[space] = len(w.spaces)
	w.spaces = append(w.spaces, space)
}

// prefix is that of the space at a place.
func prefix(place int) string { return "n" + strconv.Itoa(place) }

// prefixed is a name with the prefix of its space.
func (w *writer) prefixed(space, name string) string {
	if space == api.NsXML {
		return "xml:" + name
	}
	return prefix(w.places[space]) + ":" + name
}

func (w *writer) elemName(e api.Elem) string {
	if e.Space == w.plain {
		return e.Name
	}
	return w.prefixed(e.Space, e.Name)
}

func (w *writer) attrName(a api.Attr) string {
	if a.Space == "" {
		return a.Name
	}
	return w.prefixed(a.Space, a.Name)
}

// put lays pieces down as they are.
func (w *writer) put(pieces ...string) {
	for _, p := range pieces {
		w.out = append(w.out, p...)
	}
}

// elem lays an element down; the first tag of the one about all others tells the spaces.
func (w *writer) elem(e api.Elem, isFirst bool) {
	if isText(e) {
		w.spell(e.Text, false)
		return
	}
	name := w.elemName(e)
	w.put("<", name)
	if isFirst {
		w.tellSpaces()
	}
	for _, a := range e.Attrs {
		w.attr(w.attrName(a), a.Value)
	}
	if len(e.Kids) == 0 {
		w.put("/>")
		return
	}
	w.put(">")
	for _, kid := range e.Kids {
		w.elem(kid, false)
	}
	w.put("</", name, ">")
}

func (w *writer) tellSpaces() {
	if w.plain != "" {
		w.attr("xmlns", w.plain)
	}
	for place, space := range w.spaces {
		w.attr("xmlns:"+prefix(place), space)
	}
}

// attr lays an attribute down by its name as it is written.
func (w *writer) attr(name, value string) {
	w.put(" ", name, `="`)
	w.spell(value, true)
	w.put(`"`)
}

// spell lays a text down so that it is read as it is; in a value 9 and a would be read as 20.
func (w *writer) spell(s string, isValue bool) {
	for i := range len(s) {
		switch c := s[i]; {
		case c == '&':
			w.put("&amp;")
		case c == '<':
			w.put("&lt;")
		case c == '>':
			w.put("&gt;")
		case c == '\r':
			w.put("&#13;")
		case isValue && c == '"':
			w.put("&quot;")
		case isValue && c == '\t':
			w.put("&#9;")
		case isValue && c == '\n':
			w.put("&#10;")
		default:
			w.out = append(w.out, c)
		}
	}
}
