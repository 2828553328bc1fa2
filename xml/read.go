package xml

import (
	"strings"

	"rubricator/api"
)

// mark may stand ahead of a text and is none of it.
const mark = "\xef\xbb\xbf"

// mostAbout is how many elements an element may have about it.
const mostAbout = 256

// reader goes through a text in which each line ends with 0a alone.
type reader struct {
	s      string
	at     int
	elems  int // how many have begun
	spaces spaces
}

// Read is the element that bytes tell.
func Read(b []byte) (api.Elem, api.Errno) {
	s := strings.TrimPrefix(string(b), mark)
	if !IsText(s) {
		return api.Elem{}, api.ErrText
	}
	s = strings.ReplaceAll(s, "\r\n", "\n")
	s = strings.ReplaceAll(s, "\r", "\n")
	r := &reader{s: s, spaces: firstSpaces()}
	return r.whole()
}

// whole reads the element and what may stand about it.
func (r *reader) whole() (api.Elem, api.Errno) {
	switch {
	case !r.misc():
		return api.Elem{}, api.ErrSyntax
	case r.takes("<!DOCTYPE"):
		return api.Elem{}, api.ErrDoctype
	case !r.takes("<"):
		return api.Elem{}, api.ErrSyntax
	}
	e, err := r.element(0)
	if err != api.OK {
		return api.Elem{}, err
	}
	if !r.misc() || r.at < len(r.s) {
		return api.Elem{}, api.ErrSyntax
	}
	return e, api.OK
}

// rest is what is still to be read.
func (r *reader) rest() string { return r.s[r.at:] }

// takes goes on behind a sign, if it stands here.
func (r *reader) takes(sign string) bool {
	if !strings.HasPrefix(r.rest(), sign) {
		return false
	}
	r.at += len(sign)
	return true
}

// upTo is what stands ahead of the next such sign; it goes on behind that.
func (r *reader) upTo(sign string) (string, bool) {
	part, _, is := strings.Cut(r.rest(), sign)
	if !is {
		return "", false
	}
	r.at += len(part) + len(sign)
	return part, true
}

// blanks passes over blanks and tells whether there were any.
func (r *reader) blanks() bool {
	left := strings.TrimLeft(r.rest(), " \t\n")
	begin := r.at
	r.at = len(r.s) - len(left)
	return r.at > begin
}

// name reads a name without a colon; it is empty where none begins.
func (r *reader) name() string {
	begin := r.at
	r.at += nameSize(r.rest())
	return r.s[begin:r.at]
}

// misc passes over what may stand about the element; false: some of it has no end or may not be so.
func (r *reader) misc() bool {
	for {
		r.blanks()
		switch {
		case r.takes("<!--"):
			if !r.remark() {
				return false
			}
		case r.takes("<?"):
			if !r.instruction() {
				return false
			}
		default:
			return true
		}
	}
}

// remark reads on behind a remark's first sign.
func (r *reader) remark() bool {
	part, ok := r.upTo("-->")
	return ok && !strings.Contains(part, "--")
}

// instruction reads on behind an instruction's first sign.
func (r *reader) instruction() bool {
	isFirst := r.at == len("<?")
	name := r.name()
	if name == "" || strings.EqualFold(name, "xml") && !(isFirst && name == "xml") {
		return false
	}
	if r.takes("?>") {
		return true
	}
	if !r.blanks() {
		return false
	}
	_, ok := r.upTo("?>")
	return ok
}

// element reads on behind an element's first sign; about: how many elements are about it.
func (r *reader) element(about int) (api.Elem, api.Errno) {
	switch {
	case nameSize(r.rest()) == 0:
		return api.Elem{}, api.ErrSyntax
	case r.elems == api.MaxElems || about > mostAbout:
		return api.Elem{}, api.ErrFull
	}
	r.elems++
	t, ok := r.firstTag()
	if !ok {
		return api.Elem{}, api.ErrSyntax
	}
	outside := len(r.spaces.told)
	e, err := r.spaces.enter(t)
	if err == api.OK && !t.isWhole {
		e.Kids, err = r.content(t.name, about+1)
	}
	if err != api.OK {
		return api.Elem{}, err
	}
	r.spaces.leave(outside)
	return e, api.OK
}

// content reads on behind the first tag of an element of that name, through its last tag.
func (r *reader) content(name written, about int) ([]api.Elem, api.Errno) {
	var kids []api.Elem
	var text strings.Builder
	for !r.takes("</") {
		ok := true
		switch {
		case r.takes("<!--"):
			ok = r.remark()
		case r.takes("<?"):
			ok = r.instruction()
		case r.takes("<![CDATA["):
			ok = r.asItIs(&text)
		case r.takes("<"):
			kid, err := r.element(about)
			if err != api.OK {
				return nil, err
			}
			kids = append(withText(kids, &text), kid)
		case r.takes("&"):
			ok = r.reference(&text)
		default:
			ok = r.plain(&text)
		}
		if !ok {
			return nil, api.ErrSyntax
		}
	}
	if !r.lastTag(name) {
		return nil, api.ErrSyntax
	}
	return withText(kids, &text), api.OK
}

// withText is a list with the text that has come together behind it, if there is any; the next one begins.
func withText(kids []api.Elem, text *strings.Builder) []api.Elem {
	if text.Len() > 0 {
		kids = append(kids, api.Elem{Text: text.String()})
		text.Reset()
	}
	return kids
}

// asItIs reads on behind the sign ahead of what stands for itself.
func (r *reader) asItIs(out *strings.Builder) bool {
	part, ok := r.upTo("]]>")
	out.WriteString(part)
	return ok
}

// plain reads a text up to what is none.
func (r *reader) plain(out *strings.Builder) bool {
	n := strings.IndexAny(r.rest(), "<&")
	if n < 0 {
		return false
	}
	part := r.rest()[:n]
	r.at += n
	out.WriteString(part)
	return !strings.Contains(part, "]]>")
}
