package inflate

import (
	"bytes"
	"math/rand"
	"strings"
	"sync"
	"testing"

	"rubricator/api"
)

// model reads a stream by the chapter's words, with bits and codes as texts; it panics with an error.
type model struct {
	bits string
	at   int
	out  []byte
	most int
}

// modelBytes is Bytes by the model.
func modelBytes(b []byte, most int) (p []byte, used int, e api.Errno) {
	defer func() {
		if x := recover(); x != nil {
			p, used, e = nil, 0, x.(api.Errno)
		}
	}()
	if most < 0 {
		panic(api.ErrArg)
	}
	var text strings.Builder
	for _, x := range b {
		for k := range 8 {
			text.WriteByte('0' + x>>k&1)
		}
	}
	m := &model{bits: text.String(), most: most}
	for last := 0; last == 0; {
		last = m.get(1)
		m.block(m.get(2))
	}
	for m.at%8 != 0 {
		m.at++
	}
	return m.out, m.at / 8, api.OK
}

func (m *model) ask(bad bool, e api.Errno) {
	if bad {
		panic(e)
	}
}

func (m *model) get(n int) int {
	m.ask(m.at+n > len(m.bits), api.ErrShort)
	v := 0
	for k := range n {
		v += int(m.bits[m.at+k]-'0') << k
	}
	m.at += n
	return v
}

func (m *model) tell(b byte) {
	m.ask(len(m.out) == m.most, api.ErrLong)
	m.out = append(m.out, b)
}

func (m *model) block(kind int) {
	switch kind {
	case 0:
		for m.at%8 != 0 {
			m.at++
		}
		length, turned := m.get(16), m.get(16)
		m.ask(length+turned != 65535 || length&turned != 0, api.ErrForm)
		m.ask(len(m.out)+length > m.most, api.ErrLong)
		m.ask(m.at+8*length > len(m.bits), api.ErrShort)
		for range length {
			m.tell(byte(m.get(8)))
		}
	case 1:
		m.symbols(modelFixed())
	case 2:
		m.symbols(m.own())
	default:
		panic(api.ErrForm)
	}
}

// codes has of each code's text its symbol, and -1 for what codes begin with.
func (m *model) codes(lengths []int) map[string]int {
	fill, many, ones := 0, 0, 0
	for _, n := range lengths {
		if n > 0 {
			fill += 1 << (15 - n)
			many++
		}
		if n == 1 {
			ones++
		}
	}
	m.ask(fill > 1<<15 || fill < 1<<15 && many > 0 && !(many == 1 && ones == 1), api.ErrLinked)
	codes := map[string]int{}
	free := 0
	for n := 1; n < 16; n++ {
		free *= 2
		for symbol, length := range lengths {
			if length == n {
				text := ""
				for k := range n {
					text = string(rune('0'+free>>k&1)) + text
				}
				for k := 1; k < n; k++ {
					codes[text[:k]] = -1
				}
				codes[text] = symbol
				free++
			}
		}
	}
	return codes
}

// modelFixed is made once, since it takes long.
var modelFixed = sync.OnceValues(func() (map[string]int, map[string]int) {
	lits, dists := fixedBooks()
	m := &model{}
	return m.codes(lits.lengths), m.codes(dists.lengths)
})

func (m *model) symbol(codes map[string]int) int {
	for begun := m.at; ; {
		m.get(1)
		symbol, has := codes[m.bits[begun:m.at]]
		m.ask(!has, api.ErrForm)
		if symbol >= 0 {
			return symbol
		}
	}
}

func (m *model) own() (map[string]int, map[string]int) {
	lits, dists, many := m.get(5)+257, m.get(5)+1, m.get(4)+4
	m.ask(lits > 286 || dists > 30, api.ErrForm)
	first := make([]int, 19)
	for _, symbol := range order[:many] {
		first[symbol] = m.get(3)
	}
	codes := m.codes(first)
	var lengths []int
	for len(lengths) < lits+dists {
		symbol := m.symbol(codes)
		length, times := symbol, 1
		switch symbol {
		case 16:
			m.ask(len(lengths) == 0, api.ErrForm)
			length, times = lengths[len(lengths)-1], 3+m.get(2)
		case 17:
			length, times = 0, 3+m.get(3)
		case 18:
			length, times = 0, 11+m.get(7)
		}
		for range times {
			m.ask(len(lengths) == lits+dists, api.ErrForm)
			lengths = append(lengths, length)
		}
	}
	m.ask(lengths[256] == 0, api.ErrForm)
	return m.codes(lengths[:lits]), m.codes(lengths[lits:])
}

func (m *model) symbols(lits, dists map[string]int) {
	for {
		symbol := m.symbol(lits)
		if symbol == 256 {
			return
		}
		if symbol < 256 {
			m.tell(byte(symbol))
			continue
		}
		m.ask(symbol > 285, api.ErrForm)
		length := lengthLeast[symbol-257] + m.get(lengthBits[symbol-257])
		k := m.symbol(dists)
		m.ask(k > 29, api.ErrForm)
		distance := distanceLeast[k] + m.get(distanceBits[k])
		m.ask(distance > len(m.out), api.ErrDistance)
		for range length {
			m.tell(m.out[len(m.out)-distance])
		}
	}
}

// same asks both, and tells which error it was.
func same(t *testing.T, b []byte, most int) api.Errno {
	t.Helper()
	want, used, wantE := modelBytes(b, most)
	p, n, e := Bytes(b, most)
	if !bytes.Equal(p, want) || n != used || e != wantE {
		t.Fatalf("most %d of %x: %d bytes, %d used, error %d, want %d bytes, %d used, error %d",
			most, b, len(p), n, e, len(want), used, wantE)
	}
	return e
}

// spoil draws a stream that is nearly b.
func spoil(r *rand.Rand, b []byte) []byte {
	b = bytes.Clone(b)
	for range 1 + r.Intn(3) {
		switch r.Intn(4) {
		case 0:
			b = b[:r.Intn(len(b)+1)]
		case 1:
			b = append(b, byte(r.Int()))
		default:
			if len(b) > 0 {
				b[r.Intn(min(len(b), 1+r.Intn(100)))] ^= 1 << r.Intn(8)
			}
		}
	}
	return b
}

func TestAsTheModel(t *testing.T) {
	r := rand.New(rand.NewSource(41))
	seen := map[api.Errno]int{}
	for range 3000 {
		s := drawSheet(r)
		most := len(s.want) + r.Intn(3) - 1
		if r.Intn(3) == 0 {
			most = r.Intn(2*len(s.want) + 2)
		}
		seen[same(t, s.Bytes(), most)]++
		for range 4 {
			seen[same(t, spoil(r, s.Bytes()), most)]++
		}
		p := make([]byte, r.Intn(60))
		r.Read(p)
		seen[same(t, p, most)]++
	}
	for _, e := range []api.Errno{api.OK, api.ErrArg, api.ErrShort, api.ErrForm, api.ErrLinked, api.ErrDistance, api.ErrLong} {
		if seen[e] < 20 {
			t.Errorf("error %d came %d times", e, seen[e])
		}
	}
}

func TestAllShortStreams(t *testing.T) {
	for v := range 1 << 16 {
		b := []byte{byte(v), byte(v >> 8)}
		same(t, b[:1], v%3)
		same(t, b, v%3)
	}
}
