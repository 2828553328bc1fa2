package xml

import (
	"strconv"
	"strings"
)

// mostDigits is how many digits a reference by a number has at most.
const mostDigits = 8

// written is a qualified name as it is written; its prefix is empty if it has none.
type written struct{ prefix, name string }

// attr is an attribute as it is written.
type attr struct {
	written
	value string
}

// tag is an element's first tag as it is written.
type tag struct {
	name    written
	attrs   []attr
	isWhole bool // no content and no last tag stand behind it
}

// firstTag reads on behind the first sign of an element.
func (r *reader) firstTag() (tag, bool) {
	name, ok := r.qualified()
	t := tag{name: name}
	for ok {
		parted := r.blanks()
		switch {
		case r.takes("/>"):
			t.isWhole = true
			return t, true
		case r.takes(">"):
			return t, true
		case !parted:
			return tag{}, false
		}
		var a attr
		a, ok = r.attr()
		t.attrs = append(t.attrs, a)
	}
	return tag{}, false
}

// lastTag reads on behind the first sign of the last tag of an element of that name.
func (r *reader) lastTag(name written) bool {
	again, ok := r.qualified()
	r.blanks()
	return ok && again == name && r.takes(">")
}

// qualified reads a qualified name.
func (r *reader) qualified() (written, bool) {
	first := r.name()
	if !r.takes(":") {
		return written{name: first}, first != ""
	}
	second := r.name()
	return written{first, second}, first != "" && second != ""
}

func (r *reader) attr() (attr, bool) {
	name, ok := r.qualified()
	r.blanks()
	if !ok || !r.takes("=") {
		return attr{}, false
	}
	r.blanks()
	value, ok := r.value()
	return attr{name, value}, ok
}

func (r *reader) value() (string, bool) {
	switch {
	case r.takes(`"`):
		return r.quoted('"')
	case r.takes(`'`):
		return r.quoted('\'')
	}
	return "", false
}

// quoted reads on behind the first of two quotes.
func (r *reader) quoted(quote byte) (string, bool) {
	var out strings.Builder
	for r.at < len(r.s) {
		c := r.s[r.at]
		r.at++
		switch c {
		case quote:
			return out.String(), true
		case '<':
			return "", false
		case '&':
			if !r.reference(&out) {
				return "", false
			}
		case '\t', '\n':
			out.WriteByte(' ')
		default:
			out.WriteByte(c)
		}
	}
	return "", false
}

// reference reads on behind a reference's first sign.
func (r *reader) reference(out *strings.Builder) bool {
	word, ok := r.upTo(";")
	if !ok {
		return false
	}
	stands, ok := meant(word)
	if ok {
		out.WriteRune(stands)
	}
	return ok
}

// meant is what the word of a reference stands for.
func meant(word string) (rune, bool) {
	switch word {
	case "amp":
		return '&', true
	case "lt":
		return '<', true
	case "gt":
		return '>', true
	case "quot":
		return '"', true
	case "apos":
		return '\'', true
	}
	digits, is := strings.CutPrefix(word, "#")
	if !is {
		return 0, false
	}
	if hexDigits, is := strings.CutPrefix(digits, "x"); is {
		return numbered(hexDigits, 16)
	}
	return numbered(digits, 10)
}

func numbered(digits string, base int) (rune, bool) {
	if len(digits) > mostDigits {
		return 0, false
	}
	n, e := strconv.ParseUint(digits, base, 31)
	if e != nil || !mayStand(rune(n)) {
		return 0, false
	}
	return rune(n), true
}
