package xml

import "rubricator/api"

// telling is that a prefix has a space.
type telling struct {
	prefix, space string
	before        int // how many tellings there were with the one that it hides; 0: it hides none
}

// spaces is which prefix has which space where a reader is.
type spaces struct {
	told []telling
	last map[string]int // by prefix: how many tellings there were with its last one
}

// firstSpaces is what stands about every element.
func firstSpaces() spaces {
	s := spaces{last: map[string]int{}}
	s.tell("", "")
	s.tell("xml", api.NsXML)
	return s
}

func (s *spaces) tell(prefix, space string) {
	s.told = append(s.told, telling{prefix, space, s.last[prefix]})
	s.last[prefix] = len(s.told)
}

// of is the space of a prefix; false: it has none.
func (s *spaces) of(prefix string) (string, bool) {
	many := s.last[prefix]
	if many == 0 {
		return "", false
	}
	return s.told[many-1].space, true
}

// leave takes back all tellings but so many first ones.
func (s *spaces) leave(many int) {
	for len(s.told) > many {
		last := s.told[len(s.told)-1]
		s.last[last.prefix] = last.before
		s.told = s.told[:len(s.told)-1]
	}
}

// enter is the element of a first tag, without its kids; what the tag tells of spaces is told until it is left.
func (s *spaces) enter(t tag) (api.Elem, api.Errno) {
	if hasTwice(t.attrs, func(a attr) written { return a.written }) {
		return api.Elem{}, api.ErrHas
	}
	if !s.tellAll(t.attrs) {
		return api.Elem{}, api.ErrSyntax
	}
	space, ok := s.of(t.name.prefix)
	if !ok {
		return api.Elem{}, api.ErrSpace
	}
	attrs, ok := s.attrs(t.attrs)
	if !ok {
		return api.Elem{}, api.ErrSpace
	}
	if hasTwice(attrs, func(a api.Attr) api.Attr { return api.Attr{Space: a.Space, Name: a.Name} }) {
		return api.Elem{}, api.ErrHas
	}
	return api.Elem{Space: space, Name: t.name.name, Attrs: attrs}, api.OK
}

// hasTwice tells whether two of a list have the same key.
func hasTwice[T any, K comparable](list []T, key func(T) K) bool {
	seen := map[K]struct{}{}
	for _, x := range list {
		seen[key(x)] = struct{}{}
	}
	return len(seen) < len(list)
}

// tellsOf is the prefix whose space an attribute tells; false: it tells none.
func (a attr) tellsOf() (string, bool) {
	switch {
	case a.written == written{name: "xmlns"}:
		return "", true
	case a.prefix == "xmlns":
		return a.name, true
	}
	return "", false
}

// tellAll tells what attributes tell of spaces; false: one of them may not be told so.
func (s *spaces) tellAll(attrs []attr) bool {
	for _, a := range attrs {
		prefix, tells := a.tellsOf()
		if !tells {
			continue
		}
		if prefix == "xml" || prefix == "xmlns" || prefix != "" && a.value == "" {
			return false
		}
		s.tell(prefix, a.value)
	}
	return true
}

// attrs is the attributes that tell nothing of spaces; false: one's prefix has none.
func (s *spaces) attrs(list []attr) ([]api.Attr, bool) {
	var out []api.Attr
	for _, a := range list {
		if _, tells := a.tellsOf(); tells {
			continue
		}
		space := ""
		if a.prefix != "" {
			told, ok := s.of(a.prefix)
			if !ok {
				return nil, false
			}
			space = told
		}
		out = append(out, api.Attr{Space: space, Name: a.name, Value: a.value})
	}
	return out, true
}
