package ent

import (
	"fmt"
	"math/rand"
	"regexp"
	"strconv"
	"strings"
	"unicode/utf8"
)

// The chapter's names and what they stand for, in its own words.
var names = [][2]string{
	{"&amp;", "&"}, {"&lt;", "<"}, {"&gt;", ">"}, {"&quot;", "\""}, {"&apos;", "'"},
	{"&nbsp;", "\u00a0"}, {"&copy;", "\u00a9"}, {"&hellip;", "\u2026"}, {"&mdash;", "\u2014"},
}

// signs are the bytes that chapter 8 names Signs.
const signs = "!\"#$%&'()*+,-./:;<=>?@[\\]^_`{|}~"

// asTheyAre are the bytes that an address has as they are.
const asTheyAre = "abcdefghijklmnopqrstuvwxyzABCDEFGHIJKLMNOPQRSTUVWXYZ0123456789;/?:@&=+$,-_.!~*'()#"

var (
	decimal   = regexp.MustCompile(`^&#([0-9]{1,7});`)
	hex       = regexp.MustCompile(`^&#[xX]([0-9a-fA-F]{1,6});`)
	speltByte = regexp.MustCompile(`^%[0-9a-fA-F]{2}`)
)

// modelAt reads the chapter's words of At a second time.
func modelAt(s string) (string, int) {
	for _, x := range names {
		if strings.HasPrefix(s, x[0]) {
			return x[1], len(x[0])
		}
	}
	for base, form := range map[int]*regexp.Regexp{10: decimal, 16: hex} {
		if m := form.FindStringSubmatch(s); m != nil {
			v, err := strconv.ParseInt(m[1], base, 64)
			if err != nil {
				panic(err)
			}
			return modelRune(v), len(m[0])
		}
	}
	return "", 0
}

func modelRune(v int64) string {
	if v == 0 || v >= 0xd800 && v <= 0xdfff || v > 0x10ffff {
		return "\ufffd"
	}
	return string(rune(v))
}

func modelUnescape(s string) string {
	got := ""
	for s != "" {
		if len(s) > 1 && s[0] == '\\' && strings.Contains(signs, s[1:2]) {
			got, s = got+s[1:2], s[2:]
		} else if v, n := modelAt(s); n > 0 {
			got, s = got+v, s[n:]
		} else {
			got, s = got+s[:1], s[1:]
		}
	}
	return got
}

func modelURI(s string) string {
	got := ""
	for i := range len(s) {
		if strings.Contains(asTheyAre, s[i:i+1]) || speltByte.MatchString(s[i:]) {
			got += s[i : i+1]
		} else {
			got += fmt.Sprintf("%%%02X", s[i])
		}
	}
	return got
}

func modelSpell(s string) string {
	got := ""
	for s != "" {
		r, n := utf8.DecodeRuneInString(s)
		got, s = got+fmt.Sprintf("&#%d;", r), s[n:]
	}
	return got
}

func modelHTML(s string) string {
	// The first one first: what the others are spelt with has that sign.
	for _, x := range [][2]string{{"&", "&amp;"}, {"<", "&lt;"}, {">", "&gt;"}, {"\"", "&quot;"}} {
		s = strings.ReplaceAll(s, x[0], x[1])
	}
	return s
}

// pieces are what a drawn text is made of.
var pieces = []string{
	"&", "#", ";", "x", "X", "&#", "&#x", "&#X", "0", "00", "1", "65", "d800", "55296", "110000", "1114112", "a", "F", "g", "_", "+", "-",
	"\\", "\\\\", "%", "%%", "%4", "%41", "%e", "%aF", "<", ">", "\"", "'", " ", "\n", "\x00", "\x7f", "\x80", "\xff", "\u00e9", "\u20ac", "\U0001f600",
	"amp", "AMP", "lt;", "hellip", "&amp", "&lt", "&amp;", "&lt;", "&gt;", "&quot;", "&apos;", "&nbsp;", "&copy;", "&hellip;", "&mdash;",
	"&#38;", "&#92;", "&#x26;", "&#0;", "&#1234567;", "&#12345678;", "&#x10ffff;", "&#x1234567;",
}

func draw(r *rand.Rand) string {
	s := ""
	for range r.Intn(9) {
		p := pieces[r.Intn(len(pieces))]
		switch r.Intn(8) {
		case 0:
			p = p[:r.Intn(len(p)+1)]
		case 1:
			p = string([]byte{byte(r.Intn(256))})
		}
		s += p
	}
	return s
}

// drawRunes is a text that is UTF-8 and has no rune 0.
func drawRunes(r *rand.Rand) string {
	return strings.ReplaceAll(strings.ToValidUTF8(draw(r), "\ufffd"), "\x00", string(rune(1+r.Intn(0xd000))))
}
