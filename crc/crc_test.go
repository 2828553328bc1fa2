package crc

import (
	"bytes"
	"hash/crc32"
	"math"
	"math/rand"
	"slices"
	"testing"
)

// slow is P2.1 word by word: a register, and one bit at a time.
func slow(p ...[]byte) uint32 {
	register := uint32(0xffffffff)
	for _, b := range bytes.Join(p, nil) {
		register ^= uint32(b)
		for range 8 {
			out := register & 1
			register >>= 1
			if out == 1 {
				register ^= 0xedb88320
			}
		}
	}
	return register ^ 0xffffffff
}

// slowMore goes on bit by bit from any sum.
func slowMore(sum uint32, p []byte) uint32 {
	register := sum ^ 0xffffffff
	for _, b := range p {
		for k := range 8 {
			out := register&1 ^ uint32(b>>k)&1
			register >>= 1
			if out == 1 {
				register ^= 0xedb88320
			}
		}
	}
	return register ^ 0xffffffff
}

func rows(r *rand.Rand) [][]byte {
	p := make([][]byte, r.Intn(6))
	for i := range p {
		switch r.Intn(4) {
		case 0:
		case 1:
			p[i] = []byte{}
		default:
			p[i] = make([]byte, r.Intn(70))
			r.Read(p[i])
		}
	}
	return p
}

// P2.1
func TestSumOfWhatIsKnown(t *testing.T) {
	for _, x := range []struct {
		name string
		p    [][]byte
		want uint32
	}{
		{"the document's example", [][]byte{[]byte("123456789")}, 0xcbf43926},
		{"in three", [][]byte{[]byte("12"), []byte("345"), []byte("6789")}, 0xcbf43926},
		{"in nine", bytes.SplitAfter([]byte("123456789"), nil), 0xcbf43926},
		{"with nil and empty rows", [][]byte{nil, []byte("1234"), {}, nil, []byte("56789"), {}}, 0xcbf43926},
		{"no row", nil, 0},
		{"a list of no row", [][]byte{}, 0},
		{"an empty row", [][]byte{{}}, 0},
		{"nil rows", [][]byte{nil, nil}, 0},
		{"one nought", [][]byte{{0}}, 0xd202ef8d},
		{"four noughts", [][]byte{{0, 0, 0, 0}}, 0x2144df1c},
		{"four of all ones", [][]byte{{255, 255, 255, 255}}, 0xffffffff},
		{"a letter", [][]byte{[]byte("a")}, 0xe8b7be43},
	} {
		if got := Sum(x.p...); got != x.want {
			t.Errorf("%s: %08x, want %08x", x.name, got, x.want)
		}
	}
}

// P2.1
func TestSumOfEachByteAndPair(t *testing.T) {
	for a := range 256 {
		one := []byte{byte(a)}
		if got, want := Sum(one), slow(one); got != want {
			t.Fatalf("%d: %08x, want %08x", a, got, want)
		}
		for b := range 256 {
			two := []byte{byte(a), byte(b)}
			if got, want := Sum(two), slow(two); got != want {
				t.Fatalf("%v: %08x, want %08x", two, got, want)
			}
		}
	}
}

// P2.1
func TestSumBitByBit(t *testing.T) {
	r := rand.New(rand.NewSource(1))
	for range 2000 {
		p := rows(r)
		got := Sum(p...)
		if want := slow(p...); got != want {
			t.Fatalf("%v: %08x, want %08x", p, got, want)
		}
		if want := crc32.ChecksumIEEE(bytes.Join(p, nil)); got != want {
			t.Fatalf("%v: %08x, want %08x", p, got, want)
		}
	}
}

// P2.1
func TestMoreFromAnySum(t *testing.T) {
	sums := []uint32{0, 1, 5, 0x7fffffff, 0x80000000, 0xcbf43926, 0xedb88320, 0xfffffffe, 0xffffffff}
	r := rand.New(rand.NewSource(2))
	for range 200 {
		sums = append(sums, r.Uint32())
	}
	for _, sum := range sums {
		if got := More(sum, nil); got != sum {
			t.Errorf("%08x by nil: %08x", sum, got)
		}
		if got := More(sum, []byte{}); got != sum {
			t.Errorf("%08x by nothing: %08x", sum, got)
		}
		p := make([]byte, r.Intn(40))
		r.Read(p)
		if got, want := More(sum, p), slowMore(sum, p); got != want {
			t.Errorf("%08x by %v: %08x, want %08x", sum, p, got, want)
		}
	}
}

// P2.2
func TestLittle(t *testing.T) {
	for _, x := range []struct {
		v, n int
		want []byte
	}{
		{0x0102, math.MinInt, nil},
		{0x0102, -1, nil},
		{0x0102, 0, nil},
		{0x0102, 1, []byte{2}},
		{0x0102, 2, []byte{2, 1}},
		{0x0102, 3, []byte{2, 1, 0}},
		{0x010203, 2, []byte{3, 2}},
		{0x04034b50, 4, []byte("PK\x03\x04")},
		{0, 5, make([]byte, 5)},
		{255, 1, []byte{255}},
		{256, 1, []byte{0}},
		{0x0807060504030201, 7, []byte{1, 2, 3, 4, 5, 6, 7}},
		{0x0807060504030201, 8, []byte{1, 2, 3, 4, 5, 6, 7, 8}},
		{0x0807060504030201, 9, []byte{1, 2, 3, 4, 5, 6, 7, 8}},
		{0x0807060504030201, math.MaxInt, []byte{1, 2, 3, 4, 5, 6, 7, 8}},
		{math.MaxInt, 8, []byte{255, 255, 255, 255, 255, 255, 255, 127}},
		{math.MaxInt, 2, []byte{255, 255}},
		{math.MinInt, 8, make([]byte, 8)},
		{math.MinInt, 99, make([]byte, 8)},
		{-1, 3, make([]byte, 3)},
		{-5, 0, nil},
		{-5, -5, nil},
	} {
		if got := Little(x.v, x.n); !bytes.Equal(got, x.want) {
			t.Errorf("Little(%d, %d): %v, want %v", x.v, x.n, got, x.want)
		}
	}
}

// P2.2
func TestNumber(t *testing.T) {
	all := []byte{1, 2, 3, 4, 5, 6, 7, 8, 9}
	want := []int{0, 1, 0x0201, 0x030201, 0x04030201, 0x0504030201, 0x060504030201, 0x07060504030201, 0x07060504030201, 0x07060504030201}
	for n, w := range want {
		if got := Number(all[:n]); got != w {
			t.Errorf("of %d bytes: %x, want %x", n, got, w)
		}
	}
	if got := Number(nil); got != 0 {
		t.Errorf("of nil: %d", got)
	}
	if got := Number([]byte{0, 0, 0, 128}); got != 1<<31 {
		t.Errorf("of the highest bit of four bytes: %d", got)
	}
	if got := Number(bytes.Repeat([]byte{255}, 7)); got != 1<<56-1 {
		t.Errorf("of seven bytes of ones: %x", got)
	}
	if got := Number(bytes.Repeat([]byte{255}, 1000)); got != 1<<56-1 {
		t.Errorf("of a thousand bytes of ones: %x", got)
	}
}

// P2.2
func TestNumberIsTheWayBack(t *testing.T) {
	r := rand.New(rand.NewSource(3))
	for n := -1; n <= 9; n++ {
		bits := 8 * min(max(n, 0), 7)
		edge := 1<<bits - 1
		for _, v := range []int{0, edge / 3, edge, r.Intn(edge + 1), r.Intn(edge + 1)} {
			if got := Number(Little(v, n)); got != v {
				t.Errorf("%d in %d bytes: %d", v, n, got)
			}
		}
		if got := Number(Little(-7, n)); got != 0 {
			t.Errorf("-7 in %d bytes: %d", n, got)
		}
		// What does not fit loses what is above.
		if got, want := Number(Little(math.MaxInt, n)), edge; got != want {
			t.Errorf("the greatest in %d bytes: %x, want %x", n, got, want)
		}
	}
}

// P2.3
func TestSumOfTwoIsMoreOfTheFirst(t *testing.T) {
	r := rand.New(rand.NewSource(4))
	for range 500 {
		a, b := make([]byte, r.Intn(50)), make([]byte, r.Intn(50))
		r.Read(a)
		r.Read(b)
		want := Sum(slices.Concat(a, b))
		if got := Sum(a, b); got != want {
			t.Fatalf("%v and %v: %08x, want %08x", a, b, got, want)
		}
		if got := More(Sum(a), b); got != want {
			t.Fatalf("%v, more %v: %08x, want %08x", a, b, got, want)
		}
	}
}

// P2.3
func TestAnotherByteIsAnotherSum(t *testing.T) {
	r := rand.New(rand.NewSource(5))
	for _, n := range []int{1, 2, 7, 64} {
		p := make([]byte, n)
		r.Read(p)
		was := Sum(p)
		for i := range p {
			for k := 1; k < 256; k++ {
				p[i] ^= byte(k)
				if Sum(p) == was {
					t.Errorf("of %d bytes, byte %d xored with %d: the same sum", n, i, k)
				}
				p[i] ^= byte(k)
			}
		}
	}
}

// P2.3
func TestAnswersHangOnArgumentsAlone(t *testing.T) {
	p := []byte("the same row")
	sum, more := Sum(p, p), More(77, p)
	little, number := Little(0x1234, 3), Number(p)
	for range 3 {
		Sum([]byte("another"))
		More(9, []byte("another"))
		Little(99, 8)
		Number([]byte("another"))
		if Sum(p, p) != sum || More(77, p) != more || !bytes.Equal(Little(0x1234, 3), little) || Number(p) != number {
			t.Error("asked again it is another answer")
		}
	}
}

// P2.3, W6
func TestNothingIsChangedOrShared(t *testing.T) {
	room := []byte("some bytes and what is behind")
	was := bytes.Clone(room)
	p := [][]byte{room[:4], room[5:10], nil}
	Sum(p[:2]...)
	More(3, room[:4])
	Number(room[:3])
	if !bytes.Equal(room, was) || len(p[0]) != 4 || len(p[1]) != 5 || p[2] != nil {
		t.Error("an argument is changed")
	}
	for _, n := range []int{0, 1, 4, 8, 20} {
		a, b := Little(0x0102030405060708, n), Little(0x0102030405060708, n)
		for i := range a[:cap(a)] {
			a[:cap(a)][i] = 99
		}
		if !bytes.Equal(b, Little(0x0102030405060708, n)) {
			t.Errorf("two answers of %d bytes share memory", n)
		}
	}
}

func BenchmarkSum(b *testing.B) {
	p := make([]byte, 1<<20)
	b.SetBytes(1 << 20)
	for b.Loop() {
		Sum(p)
	}
}
