package utf

import "math/rand"

const (
	bad      = 0xfffd
	badBytes = "\xef\xbf\xbd"
)

// form is how many bytes a rune has by its first one, the bits of it in that first byte, and the least rune that needs
// so many; no bytes: such a byte begins none.
func form(first byte) (size int, bits byte, least int) {
	switch {
	case first < 0x80:
		return 1, 0x7f, 0
	case first&0xe0 == 0xc0:
		return 2, 0x1f, 0x80
	case first&0xf0 == 0xe0:
		return 3, 0x0f, 0x800
	case first&0xf8 == 0xf0:
		return 4, 0x07, 0x10000
	}
	return 0, 0, 0
}

func isHalf(v int) bool { return v >= 0xd800 && v <= 0xdfff }

// first is P7.1's words made bits: the rune that bytes begin with, and how many it has; without one it has none.
func first(b []byte) (v, size int) {
	size, bits, least := form(b[0])
	if size == 0 || size > len(b) {
		return 0, 0
	}
	v = int(b[0] & bits)
	for _, c := range b[1:size] {
		if c&0xc0 != 0x80 {
			return 0, 0
		}
		v = v<<6 | int(c&0x3f)
	}
	if v < least || v > 0x10ffff || isHalf(v) {
		return 0, 0
	}
	return v, size
}

// model is whether bytes are text, what they are repaired, and how many runes they have.
func model(b []byte) (valid bool, repaired string, count int) {
	var out []byte
	valid = true
	for len(b) > 0 {
		v, size := first(b)
		if size == 0 || v == 0 {
			out = append(out, badBytes...)
		} else {
			out = append(out, b[:size]...)
		}
		valid = valid && size > 0
		b = b[max(size, 1):]
		count++
	}
	return valid, string(out), count
}

// spell is a number in so many bytes, whether or not it needs them or may be a rune.
func spell(v, size int) []byte {
	if size == 1 {
		return []byte{byte(v)}
	}
	out := make([]byte, size)
	for i := size - 1; i > 0; i-- {
		out[i] = 0x80 | byte(v&0x3f)
		v >>= 6
	}
	out[0] = ^byte(0xff>>size) | byte(v)
	return out
}

// sizeOf is how many bytes a rune needs.
func sizeOf(v int) int {
	switch {
	case v < 0x80:
		return 1
	case v < 0x800:
		return 2
	case v < 0x10000:
		return 3
	}
	return 4
}

// modelLines takes a text's lines one by one from its beginning.
func modelLines(s string) []string {
	var lines []string
	var line []byte
	for len(s) > 0 {
		switch {
		case len(s) > 1 && s[0] == 0x0d && s[1] == 0x0a:
			lines, line, s = append(lines, string(line)), nil, s[2:]
		case s[0] == 0x0d || s[0] == 0x0a:
			lines, line, s = append(lines, string(line)), nil, s[1:]
		default:
			line, s = append(line, s[0]), s[1:]
		}
	}
	if len(line) > 0 {
		lines = append(lines, string(line))
	}
	return lines
}

// edges are bytes at which what a byte may be changes, and both ends of a line.
var edges = []byte{
	0x00, 0x01, 0x0a, 0x0d, 0x61, 0x7f, 0x80, 0x8f, 0x90, 0x9f, 0xa0, 0xbf, 0xc0, 0xc1, 0xc2, 0xdf,
	0xe0, 0xe1, 0xec, 0xed, 0xee, 0xef, 0xf0, 0xf1, 0xf3, 0xf4, 0xf5, 0xf7, 0xf8, 0xfc, 0xfe, 0xff,
}

// draw is runes, pieces of runes, bytes of the edges and ends of lines, one behind the other.
func draw(r *rand.Rand) []byte {
	var b []byte
	for range r.Intn(12) {
		switch r.Intn(6) {
		case 0:
			b = append(b, edges[r.Intn(len(edges))])
		case 1:
			b = append(b, byte(r.Intn(256)))
		case 2:
			b = append(b, []string{"\r", "\n", "\r\n", "\n\r", "\x00"}[r.Intn(5)]...)
		case 3:
			size := 1 + r.Intn(6)
			p := spell(r.Intn(1<<21), size)
			b = append(b, p[:1+r.Intn(size)]...)
		default:
			v := r.Intn([]int{0x80, 0x800, 0x10000, 0x110000}[r.Intn(4)])
			b = append(b, spell(v, sizeOf(v))...)
		}
	}
	return b
}

// everyText tells all texts that have at most so many of some pieces.
func everyText(pieces []string, most int, told func(string)) {
	var more func(string, int)
	more = func(s string, left int) {
		told(s)
		if left == 0 {
			return
		}
		for _, p := range pieces {
			more(s+p, left-1)
		}
	}
	more("", most)
}
