package deflate

import (
	"bytes"
	"compress/flate"
	"io"
	"slices"
	"testing"

	"rubricator/api"
	"rubricator/bits"
	"rubricator/huff"
	"rubricator/inflate"
)

// The tables of RFC 1951, 3.2.5, as they stand there.
var (
	lengthLeast = []int{3, 4, 5, 6, 7, 8, 9, 10, 11, 13, 15, 17, 19, 23, 27, 31,
		35, 43, 51, 59, 67, 83, 99, 115, 131, 163, 195, 227, 258}
	lengthBits = []int{0, 0, 0, 0, 0, 0, 0, 0, 1, 1, 1, 1, 2, 2, 2, 2,
		3, 3, 3, 3, 4, 4, 4, 4, 5, 5, 5, 5, 0}
	distanceLeast = []int{1, 2, 3, 4, 5, 7, 9, 13, 17, 25, 33, 49, 65, 97, 129, 193,
		257, 385, 513, 769, 1025, 1537, 2049, 3073, 4097, 6145, 8193, 12289, 16385, 24577}
	distanceBits = []int{0, 0, 0, 0, 1, 1, 2, 2, 3, 3, 4, 4, 5, 5, 6, 6,
		7, 7, 8, 8, 9, 9, 10, 10, 11, 11, 12, 12, 13, 13}
	order = []int{16, 17, 18, 0, 8, 7, 9, 6, 10, 5, 11, 4, 12, 3, 13, 2, 14, 1, 15}
)

// seen is what a block of a stream has.
type seen struct {
	kind, last int
	bytes      int // that it tells
	matches    []token
	longest    int // bits of a code of its own
}

// reading takes a stream apart. It is made for streams without a fault.
type reading struct {
	t  *testing.T
	in *bits.Reader
}

// blocksOf is the blocks of a stream; one that has bytes or bits beyond them is at fault.
func blocksOf(t *testing.T, b []byte) []seen {
	t.Helper()
	r := &reading{t: t, in: bits.Of(b)}
	var blocks []seen
	for {
		k := r.block()
		blocks = append(blocks, k)
		if k.last == 1 {
			break
		}
	}
	if r.in.Left() >= 8 || r.get(r.in.Left()) != 0 {
		t.Fatalf("behind the last block there is more")
	}
	return blocks
}

func (r *reading) get(n int) int {
	r.t.Helper()
	v, e := r.in.Get(n)
	if e != api.OK {
		r.t.Fatalf("the stream ends within a block")
	}
	return v
}

func (r *reading) block() seen {
	k := seen{last: r.get(1), kind: r.get(2)}
	switch k.kind {
	case 0:
		if r.get(r.in.Left()%8) != 0 {
			r.t.Fatalf("bits up to an edge that are not noughts")
		}
		n := r.get(16)
		if r.get(16) != 65535-n {
			r.t.Fatalf("%d has not its bits turned behind it", n)
		}
		r.in.Raw(n)
		k.bytes = n
	case 1:
		lits := slices.Concat(repeat(8, 144), repeat(9, 112), repeat(7, 24), repeat(8, 8))
		r.symbols(&k, lits, repeat(5, 32))
	case 2:
		lits, dists := r.own(&k)
		r.symbols(&k, lits, dists)
	default:
		r.t.Fatalf("a block of kind 3")
	}
	return k
}

func (r *reading) decoder(lengths []int) *huff.Decoder {
	d, e := huff.New(lengths)
	if e != api.OK {
		r.t.Fatalf("no codes have the lengths %v", lengths)
	}
	return d
}

func (r *reading) symbol(d *huff.Decoder) int {
	for {
		switch s := d.Next(r.get(1)); s {
		case -1:
		case -2:
			r.t.Fatalf("a code that is none")
		default:
			return s
		}
	}
}

func (r *reading) own(k *seen) ([]int, []int) {
	lits, dists, many := r.get(5)+257, r.get(5)+1, r.get(4)+4
	codes := make([]int, 19)
	for i := range many {
		codes[order[i]] = r.get(3)
	}
	d := r.decoder(codes)
	var lengths []int
	for len(lengths) < lits+dists {
		switch s := r.symbol(d); s {
		case 16:
			lengths = append(lengths, repeat(lengths[len(lengths)-1], 3+r.get(2))...)
		case 17:
			lengths = append(lengths, make([]int, 3+r.get(3))...)
		case 18:
			lengths = append(lengths, make([]int, 11+r.get(7))...)
		default:
			lengths = append(lengths, s)
		}
	}
	// Noughts at the end need not be told.
	if lits > 257 && lengths[lits-1] == 0 || dists > 1 && lengths[lits+dists-1] == 0 || many > 4 && codes[order[many-1]] == 0 {
		r.t.Errorf("more lengths are told than there are: %d, %d, %d", lits, dists, many)
	}
	k.longest = slices.Max(lengths)
	return lengths[:lits], lengths[lits:]
}

func (r *reading) symbols(k *seen, lits, dists []int) {
	l, d := r.decoder(lits), r.decoder(dists)
	for {
		s := r.symbol(l)
		switch {
		case s == 256:
			return
		case s < 256:
			k.bytes++
			continue
		}
		length := lengthLeast[s-257] + r.get(lengthBits[s-257])
		s = r.symbol(d)
		distance := distanceLeast[s] + r.get(distanceBits[s])
		k.bytes += length
		k.matches = append(k.matches, token{length: length, distance: distance})
	}
}

// goesBack holds p against what is told of a stream of it, by chapter 4 and by the library.
func goesBack(t *testing.T, name string, p, b []byte) {
	t.Helper()
	q, n, e := inflate.Bytes(b, len(p))
	if e != api.OK || n != len(b) || !bytes.Equal(q, p) {
		t.Fatalf("%s: %d bytes are told as %d, %d of %d bytes were read, error %d",
			name, len(p), len(q), n, len(b), e)
	}
	in := bytes.NewReader(b)
	q, err := io.ReadAll(flate.NewReader(in))
	if err != nil || in.Len() > 0 || !bytes.Equal(q, p) {
		t.Fatalf("%s: the library tells %d bytes as %d, %d are left, error %v",
			name, len(p), len(q), in.Len(), err)
	}
}

// made is Bytes(p), held against what it has to be of any p.
func made(t *testing.T, name string, p []byte) []byte {
	t.Helper()
	b := Bytes(p)
	goesBack(t, name, p, b)
	if most := len(Stored(p)); len(b) > most {
		t.Fatalf("%s: %d bytes come to %d, as they are they need %d", name, len(p), len(b), most)
	}
	return b
}
