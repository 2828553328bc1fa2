package xmlout

import (
	"rubricator/api"
	"rubricator/xml"
)

// mostAbout is how many elements an element may have about it.
const mostAbout = 256

// room is how many elements may still come.
type room int

// fits tells whether there are no more elements, and none deeper, than may be.
func fits(e api.Elem) bool {
	left := room(api.MaxElems)
	return left.take(e, 0)
}

// take counts an element and all within it; it stops at the first without room, as there may be any number behind it.
func (left *room) take(e api.Elem, about int) bool {
	if *left == 0 || about > mostAbout {
		return false
	}
	*left--
	for _, kid := range e.Kids {
		if !left.take(kid, about+1) {
			return false
		}
	}
	return true
}

// isText tells whether an element is none but a text.
func isText(e api.Elem) bool { return e.Name == "" }

// fault is the first error of what is to be an element, and of all within it; a text alone is none, as it has no name.
func fault(e api.Elem) api.Errno {
	switch {
	case !hasNames(e):
		return api.ErrName
	case !hasTexts(e):
		return api.ErrText
	case hasTwice(e.Attrs):
		return api.ErrHas
	}
	return kidsFault(e.Kids)
}

func kidsFault(kids []api.Elem) api.Errno {
	isBehindText := false
	for _, kid := range kids {
		err := api.OK
		if isText(kid) {
			err = textFault(kid, isBehindText)
		} else {
			err = fault(kid)
		}
		if err != api.OK {
			return err
		}
		isBehindText = isText(kid)
	}
	return api.OK
}

func textFault(e api.Elem, isBehindText bool) api.Errno {
	switch {
	case e.Space != "" || len(e.Attrs) > 0 || len(e.Kids) > 0:
		return api.ErrName
	case e.Text == "" || !xml.IsText(e.Text) || isBehindText:
		return api.ErrText
	}
	return api.OK
}

// hasNames tells whether an element has no text of its own, and names that it and its attributes may have.
func hasNames(e api.Elem) bool {
	if e.Text != "" || !mayBeNamed(e.Space, e.Name) {
		return false
	}
	for _, a := range e.Attrs {
		if !mayBeNamed(a.Space, a.Name) {
			return false
		}
	}
	return true
}

func mayBeNamed(space, name string) bool {
	if space == "" && name == "xmlns" {
		return false
	}
	return xml.IsName(name) && xml.IsText(name)
}

// hasTexts tells whether an element's space, and its attributes' spaces and values, are texts.
func hasTexts(e api.Elem) bool {
	if !xml.IsText(e.Space) {
		return false
	}
	for _, a := range e.Attrs {
		if !xml.IsText(a.Space) || !xml.IsText(a.Value) {
			return false
		}
	}
	return true
}

// hasTwice tells whether two attributes are of one space and name.
func hasTwice(attrs []api.Attr) bool {
	seen := map[api.Attr]struct{}{}
	for _, a := range attrs {
		seen[api.Attr{Space: a.Space, Name: a.Name}] = struct{}{}
	}
	return len(seen) < len(attrs)
}
