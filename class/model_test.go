package class

import (
	"math/rand"
	"strconv"
	"strings"
	"testing"
)

// The chapter's lists, in its own words.
const (
	blanks = "9, a, c, d, 20, a0, 1680, 2000 to 200a, 202f, 205f, 3000"
	signs  = "21 to 2f, 3a to 40, 5b to 60, 7b to 7e"
	puncts = signs + ", a1 to a9, ab, ac, ae to b1, b4, b6 to b8, bb, bf, d7, f7, " +
		"2010 to 2027, 2030 to 205e, 20a0 to 20c0, 2190 to 2bff, 3001 to 3003, 3008 to 3020"
)

const above = 0x10ffff + 1

// read makes one of the chapter's lists into ranges, both ends among them.
func read(t *testing.T, list string) [][2]rune {
	t.Helper()
	var ranges [][2]rune
	for _, piece := range strings.Split(list, ", ") {
		from, to, is := strings.Cut(piece, " to ")
		if !is {
			to = from
		}
		ranges = append(ranges, [2]rune{number(t, from), number(t, to)})
	}
	return ranges
}

func number(t *testing.T, s string) rune {
	t.Helper()
	v, err := strconv.ParseInt(s, 16, 32)
	if err != nil {
		t.Fatal(err)
	}
	return rune(v)
}

// mark makes one of the chapter's lists into a yes or no for each rune.
func mark(t *testing.T, list string) []bool {
	t.Helper()
	is := make([]bool, above)
	for _, ends := range read(t, list) {
		for r := ends[0]; r <= ends[1]; r++ {
			is[r] = true
		}
	}
	return is
}

// told is the first and the last rune that a range over the whole text tells.
func told(s string) (first, last rune) {
	n := 0
	for _, r := range s {
		if n == 0 {
			first = r
		}
		last = r
		n++
	}
	if n == 0 {
		return 0xa, 0xa
	}
	return first, last
}

// ends are bytes at which what a byte may be changes.
const ends = "\x00\x0a\x61\x7f\x80\x8f\x90\x9f\xa0\xbf\xc1\xc2\xdf\xe0\xe1\xec\xed\xee\xef\xf0\xf1\xf3\xf4\xf5\xf8\xff"

// draw is runes, whole or cut off at either end, and bytes, one behind the other.
func draw(r *rand.Rand) string {
	var b []byte
	for range r.Intn(8) {
		whole := string(rune(r.Intn([]int{0x80, 0x800, 0x10000, above}[r.Intn(4)])))
		switch r.Intn(5) {
		case 0:
			b = append(b, whole[:r.Intn(len(whole)+1)]...)
		case 1:
			b = append(b, whole[r.Intn(len(whole)+1):]...)
		case 2:
			b = append(b, ends[r.Intn(len(ends))], byte(r.Intn(256)))
		default:
			b = append(b, whole...)
		}
	}
	return string(b)
}
