package xml

import (
	"maps"
	"regexp"
	"slices"
	"strconv"
	"strings"
	"unicode/utf8"

	"rubricator/api"
)

// The chapter's words as forms of their own.
const (
	blankForm     = `[ \t\n]`
	nameForm      = `[A-Za-z_\x{80}-\x{10ffff}][A-Za-z_\x{80}-\x{10ffff}0-9.\-]*`
	qualifiedForm = nameForm + `(?::` + nameForm + `)?`
	refForm       = `&(?:amp|lt|gt|quot|apos|#[0-9]{1,8}|#x[0-9A-Fa-f]{1,8});`
	valueForm     = `(?:"(?:[^<&"]|` + refForm + `)*"|'(?:[^<&']|` + refForm + `)*')`
	attrForm      = blankForm + `+(` + qualifiedForm + `)` + blankForm + `*=` + blankForm + `*(` + valueForm + `)`
)

var (
	anyText     = regexp.MustCompile(`^[\t\n\r\x20-\x{d7ff}\x{e000}-\x{fffd}\x{10000}-\x{10ffff}]*$`)
	lineEnd     = regexp.MustCompile(`\r\n?`)
	wholeName   = regexp.MustCompile(`^(?:` + nameForm + `)$`)
	beginning   = regexp.MustCompile(`^<[A-Za-z_\x{80}-\x{10ffff}]`)
	blanksOnly  = regexp.MustCompile(`^` + blankForm + `+`)
	remark      = regexp.MustCompile(`^<!--(?:-?[^-])*-?-->`)
	instruction = regexp.MustCompile(`(?s)^<\?(` + nameForm + `)(?:` + blankForm + `.*?)?\?>`)
	itself      = regexp.MustCompile(`(?s)^<!\[CDATA\[(.*?)\]\]>`)
	ref         = regexp.MustCompile(`^` + refForm)
	anyRef      = regexp.MustCompile(refForm)
	raw         = regexp.MustCompile(`^[^<&]+`)
	oneAttr     = regexp.MustCompile(attrForm)
	firstTag    = regexp.MustCompile(`^<(` + qualifiedForm + `)((?:` + attrForm + `)*)` + blankForm + `*(/?)>`)
	lastTag     = regexp.MustCompile(`^</(` + qualifiedForm + `)` + blankForm + `*>`)
)

var namedRefs = map[string]string{"&amp;": "&", "&lt;": "<", "&gt;": ">", "&quot;": `"`, "&apos;": "'"}

// open is an element of which the last tag has not come yet.
type open struct {
	name   string
	e      *api.Elem
	spaces map[string]string
}

// second is a second reader of the chapter's words: forms for all that may come next, and a stack.
type second struct {
	s       string
	atBegin bool
	count   int
	stack   []open
	root    *api.Elem
}

// model is what Read is to answer.
func model(b []byte) (api.Elem, api.Errno) {
	s := strings.TrimPrefix(string(b), "\ufeff")
	if !utf8.ValidString(s) || !anyText.MatchString(s) {
		return api.Elem{}, api.ErrText
	}
	m := &second{s: lineEnd.ReplaceAllString(s, "\n"), atBegin: true}
	for m.s != "" {
		if e := m.step(); e != api.OK {
			return api.Elem{}, e
		}
		m.atBegin = false
	}
	if m.root == nil || len(m.stack) > 0 {
		return api.Elem{}, api.ErrSyntax
	}
	return *m.root, api.OK
}

// cut is what a form finds here, and goes on behind it.
func (m *second) cut(form *regexp.Regexp) []string {
	found := form.FindStringSubmatch(m.s)
	if found != nil {
		m.s = m.s[len(found[0]):]
	}
	return found
}

func (m *second) step() api.Errno {
	ahead, within := m.root == nil && len(m.stack) == 0, len(m.stack) > 0
	if ahead && strings.HasPrefix(m.s, "<!DOCTYPE") {
		return api.ErrDoctype
	}
	if found := m.cut(remark); found != nil {
		return api.OK
	}
	if found := m.cut(instruction); found != nil {
		if strings.ToLower(found[1]) == "xml" && (found[1] != "xml" || !m.atBegin) {
			return api.ErrSyntax
		}
		return api.OK
	}
	if (ahead || within) && beginning.MatchString(m.s) {
		return m.element()
	}
	if !within {
		if m.cut(blanksOnly) == nil {
			return api.ErrSyntax
		}
		return api.OK
	}
	return m.inContent()
}

func (m *second) inContent() api.Errno {
	top := m.stack[len(m.stack)-1]
	if found := m.cut(itself); found != nil {
		addText(top.e, found[1])
		return api.OK
	}
	if found := m.cut(lastTag); found != nil {
		if found[1] != top.name {
			return api.ErrSyntax
		}
		m.stack = m.stack[:len(m.stack)-1]
		m.hand(top.e)
		return api.OK
	}
	if found := m.cut(ref); found != nil {
		v, ok := decoded(found[0])
		if !ok {
			return api.ErrSyntax
		}
		addText(top.e, v)
		return api.OK
	}
	if found := m.cut(raw); found != nil && !strings.Contains(found[0], "]]>") {
		addText(top.e, found[0])
		return api.OK
	}
	return api.ErrSyntax
}

// hand gives an element that is whole to the one about it.
func (m *second) hand(e *api.Elem) {
	if len(m.stack) == 0 {
		m.root = e
		return
	}
	about := m.stack[len(m.stack)-1].e
	about.Kids = append(about.Kids, *e)
}

func addText(e *api.Elem, s string) {
	if s == "" {
		return
	}
	if n := len(e.Kids); n > 0 && e.Kids[n-1].Name == "" {
		e.Kids[n-1].Text += s
		return
	}
	e.Kids = append(e.Kids, api.Elem{Text: s})
}

// decoded is what a reference stands for.
func decoded(s string) (string, bool) {
	if v, is := namedRefs[s]; is {
		return v, true
	}
	base, digits := 10, s[2:len(s)-1]
	if digits[0] == 'x' {
		base, digits = 16, digits[1:]
	}
	n, err := strconv.ParseInt(digits, base, 64)
	if err != nil {
		panic(err)
	}
	if n > utf8.MaxRune || n >= 0xd800 && n <= 0xdfff {
		return "", false
	}
	v := string(rune(n))
	return v, anyText.MatchString(v)
}

// valueOf is what a value in its quotes tells.
func valueOf(s string) (string, bool) {
	all := true
	s = strings.Map(func(r rune) rune {
		if r == '\t' || r == '\n' {
			return ' '
		}
		return r
	}, s[1:len(s)-1])
	s = anyRef.ReplaceAllStringFunc(s, func(one string) string {
		v, ok := decoded(one)
		all = all && ok
		return v
	})
	return s, all
}

func (m *second) element() api.Errno {
	if m.count == 1<<14 || len(m.stack) > 256 {
		return api.ErrFull
	}
	m.count++
	found := m.cut(firstTag)
	if found == nil {
		return api.ErrSyntax
	}
	spaces := map[string]string{"": "", "xml": "http://www.w3.org/XML/1998/namespace"}
	if len(m.stack) > 0 {
		spaces = maps.Clone(m.stack[len(m.stack)-1].spaces)
	}
	var names, values []string
	for _, a := range oneAttr.FindAllStringSubmatch(found[2], -1) {
		v, ok := valueOf(a[2])
		if !ok {
			return api.ErrSyntax
		}
		names, values = append(names, a[1]), append(values, v)
	}
	e, err := resolve(found[1], names, values, spaces)
	if err != api.OK {
		return err
	}
	if found[len(found)-1] == "/" {
		m.hand(&e)
		return api.OK
	}
	m.stack = append(m.stack, open{found[1], &e, spaces})
	return api.OK
}

// resolve is a tag's end: what the tag tells, and spaces with what it tells of them.
func resolve(name string, names, values []string, spaces map[string]string) (api.Elem, api.Errno) {
	for i, n := range names {
		if slices.Contains(names[:i], n) {
			return api.Elem{}, api.ErrHas
		}
	}
	for i, n := range names {
		prefix, is := strings.CutPrefix(n, "xmlns:")
		if is && (prefix == "xml" || prefix == "xmlns" || values[i] == "") {
			return api.Elem{}, api.ErrSyntax
		}
		if is {
			spaces[prefix] = values[i]
		}
		if n == "xmlns" {
			spaces[""] = values[i]
		}
	}
	prefix, local := parted(name)
	space, is := spaces[prefix]
	if !is {
		return api.Elem{}, api.ErrSpace
	}
	e := api.Elem{Space: space, Name: local}
	for i, n := range names {
		prefix, local := parted(n)
		if n == "xmlns" || prefix == "xmlns" {
			continue
		}
		space, is := spaces[prefix]
		if !is {
			return api.Elem{}, api.ErrSpace
		}
		if prefix == "" {
			space = ""
		}
		e.Attrs = append(e.Attrs, api.Attr{Space: space, Name: local, Value: values[i]})
	}
	for i, a := range e.Attrs {
		for _, b := range e.Attrs[:i] {
			if a.Space == b.Space && a.Name == b.Name {
				return api.Elem{}, api.ErrHas
			}
		}
	}
	return e, api.OK
}

// parted is a qualified name's prefix and what stands behind it.
func parted(name string) (string, string) {
	if prefix, local, is := strings.Cut(name, ":"); is {
		return prefix, local
	}
	return "", name
}
