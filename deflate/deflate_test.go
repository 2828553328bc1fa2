package deflate

import (
	"bytes"
	"fmt"
	"math/rand"
	"slices"
	"strings"
	"sync"
	"testing"

	"rubricator/api"
	"rubricator/bits"
	"rubricator/inflate"
)

func draw(r *rand.Rand, n, kinds int) []byte {
	p := make([]byte, n)
	for i := range p {
		p[i] = byte(r.Intn(kinds))
	}
	return p
}

func TestStoredExample(t *testing.T) {
	want := []byte{0x01, 0x02, 0x00, 0xfd, 0xff, 0x61, 0x62}
	if b := Stored([]byte("ab")); !bytes.Equal(b, want) {
		t.Errorf("% x, want % x", b, want)
	}
}

func TestStoredOfNoByte(t *testing.T) {
	want := []byte{0x01, 0x00, 0x00, 0xff, 0xff}
	for _, p := range [][]byte{nil, {}, make([]byte, 0, 9)} {
		if b := Stored(p); !bytes.Equal(b, want) {
			t.Errorf("% x, want % x", b, want)
		}
	}
}

// The stream is written down byte by byte here, block by block.
func TestStoredBlocks(t *testing.T) {
	r := rand.New(rand.NewSource(1))
	for _, row := range []struct {
		n      int
		blocks []int
	}{
		{0, []int{0}},
		{1, []int{1}},
		{2, []int{2}},
		{255, []int{255}},
		{256, []int{256}},
		{65534, []int{65534}},
		{65535, []int{65535}},
		{65536, []int{65535, 1}},
		{131069, []int{65535, 65534}},
		{131070, []int{65535, 65535}},
		{131071, []int{65535, 65535, 1}},
		{200000, []int{65535, 65535, 65535, 3395}},
	} {
		p := draw(r, row.n, 256)
		var want []byte
		left := p
		for i, n := range row.blocks {
			last := byte(0)
			if i == len(row.blocks)-1 {
				last = 1
			}
			want = append(want, last, byte(n%256), byte(n/256), byte(255-n%256), byte(255-n/256))
			want = append(want, left[:n]...)
			left = left[n:]
		}
		b := Stored(p)
		if !bytes.Equal(b, want) {
			t.Errorf("%d bytes: not the blocks %v", row.n, row.blocks)
		}
		goesBack(t, fmt.Sprint(row.n), p, b)
	}
}

func TestShortRows(t *testing.T) {
	made(t, "none", nil)
	made(t, "none", []byte{})
	for v := range 256 {
		made(t, fmt.Sprint("alone ", v), []byte{byte(v)})
		made(t, fmt.Sprint("twice ", v), []byte{byte(v), byte(v)})
		made(t, fmt.Sprint("thrice ", v), []byte{byte(v), byte(v), byte(v)})
		made(t, fmt.Sprint("four times ", v), bytes.Repeat([]byte{byte(v)}, 4))
	}
	made(t, "all bytes", everyByte())
	made(t, "all bytes twice", append(everyByte(), everyByte()...))
}

func everyByte() []byte {
	p := make([]byte, 256)
	for i := range p {
		p[i] = byte(i)
	}
	return p
}

// All rows there are of two kinds up to ten bytes, and of three up to six.
func TestAllRowsOfFewBytes(t *testing.T) {
	for _, row := range []struct{ kinds, most int }{{2, 10}, {3, 6}} {
		rows := [][]byte{{}}
		for range row.most {
			var longer [][]byte
			for _, p := range rows {
				for v := range row.kinds {
					longer = append(longer, append(slices.Clone(p), byte(v*130)))
				}
			}
			for _, p := range longer {
				made(t, fmt.Sprint(p), p)
			}
			rows = longer
		}
	}
}

func TestDrawnRows(t *testing.T) {
	r := rand.New(rand.NewSource(2))
	for _, kinds := range []int{1, 2, 3, 5, 17, 64, 143, 144, 145, 255, 256} {
		for range 40 {
			n := r.Intn(1 << r.Intn(14))
			made(t, fmt.Sprint(kinds, " kinds, ", n), draw(r, n, kinds))
		}
	}
}

// Rows whose pieces came already, from near and far, with other bytes between.
func TestDrawnPieces(t *testing.T) {
	r := rand.New(rand.NewSource(3))
	for i := range 120 {
		kinds := 1 + r.Intn(256)
		want := 1 + r.Intn(1<<(6+r.Intn(12)))
		p := draw(r, 1+r.Intn(20), kinds)
		for len(p) < want {
			if r.Intn(3) == 0 {
				p = append(p, draw(r, 1+r.Intn(30), kinds)...)
				continue
			}
			back := 1 + r.Intn(min(len(p), 1<<(1+r.Intn(16))))
			for range 1 + r.Intn(1<<r.Intn(10)) {
				p = append(p, p[len(p)-back])
			}
		}
		made(t, fmt.Sprint("row ", i), p)
	}
}

func TestRunsOfAnyLength(t *testing.T) {
	var lengths []int
	for n := range 530 {
		lengths = append(lengths, n)
	}
	lengths = append(lengths, 773, 774, 775, 776, 1000, 4096, 32766, 32767, 32768, 32769, 65534, 65535, 65536, 200000)
	for _, n := range lengths {
		p := bytes.Repeat([]byte{'a'}, n)
		b := made(t, fmt.Sprint(n), p)
		if most := 20 + n/500; len(b) > most {
			t.Errorf("%d times the same byte needs %d bytes, want at most %d", n, len(b), most)
		}
		made(t, fmt.Sprint(n, " between"), slices.Concat([]byte("b"), p, []byte("c"), p, []byte("b")))
	}
}

// By 258 a match is whole: what is left behind whole ones is 0 to 257 bytes, and up to 2 are no match.
func TestMatchesAreWhole(t *testing.T) {
	for _, row := range []struct {
		n    int
		want []int
	}{
		{1 + 256, []int{256}}, {1 + 257, []int{257}}, {1 + 258, []int{258}},
		{1 + 259, []int{258}}, {1 + 260, []int{258}}, {1 + 261, []int{258, 3}},
		{1 + 516, []int{258, 258}}, {1 + 519, []int{258, 258, 3}},
	} {
		var got []int
		for _, k := range blocksOf(t, Bytes(bytes.Repeat([]byte{'x'}, row.n))) {
			for _, m := range k.matches {
				got = append(got, m.length)
				if m.distance != 1 {
					t.Errorf("%d: %d bytes back", row.n, m.distance)
				}
			}
		}
		if !slices.Equal(got, row.want) {
			t.Errorf("%d times the same byte: matches of %v, want %v", row.n, got, row.want)
		}
	}
}

// A row of which no three bytes come twice, so that a match can only be what is put in.
func unlike(n int) []byte {
	var p []byte
	for a := 0; len(p) < n; a++ {
		for b := a + 1; b < 128 && len(p) < n; b++ {
			p = append(p, byte(128+a), byte(b))
		}
	}
	return p[:n]
}

func TestUnlikeIsUnlike(t *testing.T) {
	had := map[[3]byte]bool{}
	p := unlike(8000)
	for i := range len(p) - 2 {
		key := [3]byte(p[i:])
		if had[key] {
			t.Fatalf("%v comes twice", key)
		}
		had[key] = true
	}
}

// Every length of a match, each from just behind its own row.
func TestEveryLength(t *testing.T) {
	for length := 3; length <= 258; length++ {
		row := unlike(length)
		p := slices.Concat(row, []byte{0}, row)
		want := token{length: length, distance: length + 1}
		if got := onlyMatches(t, made(t, fmt.Sprint(length), p)); !slices.Equal(got, []token{want}) {
			t.Errorf("a row of %d once more: matches %v", length, got)
		}
	}
}

func onlyMatches(t *testing.T, b []byte) []token {
	var all []token
	for _, k := range blocksOf(t, b) {
		all = append(all, k.matches...)
	}
	return all
}

// A row comes again so far back, behind bytes that come nowhere else: it is found up to 2^15 bytes back.
func TestEveryDistance(t *testing.T) {
	r := rand.New(rand.NewSource(4))
	row := everyByte()[:90]
	var distances []int
	for _, least := range distanceLeast {
		distances = append(distances, least-1, least, least+1)
	}
	distances = append(distances, 32766, 32767, 32768, 32769, 32770)
	for _, d := range distances {
		if d <= len(row) {
			continue
		}
		between := draw(r, d-len(row), 156)
		for i := range between {
			between[i] += 100
		}
		p := slices.Concat(row, between, row)
		b := made(t, fmt.Sprint(d), p)
		found := slices.ContainsFunc(onlyMatches(t, b), func(m token) bool {
			return m.distance == d && m.length == len(row)
		})
		if found != (d <= 32768) {
			t.Errorf("a row from %d bytes back: %v", d, found)
		}
	}
	for d := 1; d <= 300; d++ {
		made(t, fmt.Sprint(d, " again and again"), slices.Repeat(draw(r, d, 256), 5))
	}
}

// As far back as it reaches, once more and once more: the chains go on behind the first 2^15 bytes.
func TestFarAndFarther(t *testing.T) {
	r := rand.New(rand.NewSource(5))
	for _, n := range []int{32766, 32767, 32768, 32769, 32770} {
		p := slices.Repeat(draw(r, n, 256), 4)
		b := made(t, fmt.Sprint(n), p)
		if small := len(b) < 34000; small != (n <= 32768) {
			t.Errorf("%d bytes four times: %d bytes", n, len(b))
		}
	}
}

func TestRowAndTheSameOnceMore(t *testing.T) {
	r := rand.New(rand.NewSource(6))
	for _, n := range []int{1, 2, 3, 4, 5, 10, 100, 257, 258, 259, 260, 261, 500, 1000, 5000, 20000, 32767, 32768} {
		row := draw(r, n, 256)
		b := made(t, fmt.Sprint(n), append(slices.Clone(row), row...))
		if most := n + n/8 + 32; len(b) > most {
			t.Errorf("%d bytes twice: %d bytes, want at most %d", n, len(b), most)
		}
	}
}

func TestRowsAroundTheEdges(t *testing.T) {
	r := rand.New(rand.NewSource(7))
	for _, edge := range []int{1 << 14, 1 << 15, 65535, 65536, 2 * 65535, 3 * 65535} {
		for _, by := range []int{-3, -2, -1, 0, 1, 2, 3} {
			for _, kinds := range []int{1, 2, 20, 256} {
				made(t, fmt.Sprint(edge, by, kinds), draw(r, edge+by, kinds))
			}
		}
	}
}

// Bytes that come as often as the numbers of Fibonacci would have codes of one length more each.
func TestVeryUnlikeOften(t *testing.T) {
	r := rand.New(rand.NewSource(8))
	longest := 0
	for _, kinds := range []int{5, 10, 15, 16, 17, 18, 19, 20} {
		var p []byte
		a, b := 1, 1
		for v := range kinds {
			p = append(p, bytes.Repeat([]byte{byte(v * 11)}, a)...)
			a, b = b, a+b
		}
		for range 3 {
			made(t, fmt.Sprint(kinds), p)
			r.Shuffle(len(p), func(i, j int) { p[i], p[j] = p[j], p[i] })
			for _, k := range blocksOf(t, made(t, fmt.Sprint(kinds, " mixed"), p)) {
				longest = max(longest, k.longest)
			}
		}
	}
	if longest < 10 {
		t.Errorf("no code of its own is longer than %d", longest)
	}
}

// lone is tokens without a match, each byte as often as told.
func lone(often []int) *block {
	b := &block{literals: make([]int, mostLiterals), distances: make([]int, mostDistances)}
	for v, n := range often {
		for range n {
			b.take(token{literal: byte(v)})
			b.raw = append(b.raw, byte(v))
		}
	}
	b.literals[endOfBlock]++
	b.last = true
	return b
}

// Without matches between, so that codes would be longer than fifteen: they are not.
func TestCodesThatWouldBeTooLong(t *testing.T) {
	var often []int
	for a, b := 1, 2; len(often) < 18; a, b = b, a+b {
		often = append(often, a)
	}
	b := lone(often)
	k := b.ownBook()
	if n := slices.Max(k.literals.lengths); n != 15 {
		t.Errorf("the longest code has %d bits, want 15", n)
	}
	w := bits.New()
	b.lay(w)
	stream := w.Bytes()
	goesBack(t, "alone", b.raw, stream)
	if blocks := blocksOf(t, stream); blocks[0].kind != 2 || blocks[0].longest != 15 {
		t.Errorf("kind %d, codes up to %d", blocks[0].kind, blocks[0].longest)
	}
}

func TestNothingComesAgain(t *testing.T) {
	r := rand.New(rand.NewSource(9))
	for _, n := range []int{0, 1, 2, 3, 10, 100, 1000, 8000} {
		made(t, fmt.Sprint("unlike ", n), unlike(n))
	}
	for n := range 300 {
		made(t, fmt.Sprint("drawn ", n), draw(r, n, 256))
	}
	for _, n := range []int{16383, 16384, 16385, 32768, 65533, 65534, 65535, 65536, 65537, 131069, 131070, 131071, 131072, 300000} {
		p := make([]byte, n)
		r.Read(p)
		b := made(t, fmt.Sprint("drawn ", n), p)
		if len(b) < n {
			t.Errorf("%d drawn bytes come to %d", n, len(b))
		}
	}
}

// periods is rows of k bytes, of many kinds, to be told again and again.
func periods(r *rand.Rand, k int) map[string][]byte {
	high := draw(r, k, 112)
	for i := range high {
		high[i] += 144
	}
	apart := make([]byte, k)
	down := make([]byte, k)
	for i := range apart {
		apart[i] = byte(255 - i)
		down[i] = byte(200 + i%3)
	}
	onlyLast := bytes.Repeat([]byte{0xf0}, k)
	onlyLast[k-1] = 0xff
	return map[string][]byte{
		"drawn":     draw(r, k, 256),
		"of two":    draw(r, k, 2),
		"of seven":  draw(r, k, 7),
		"high":      high,
		"apart":     apart,
		"by threes": down,
		"only last": onlyLast,
	}
}

func TestPeriods(t *testing.T) {
	r := rand.New(rand.NewSource(10))
	for k := 1; k <= 64; k++ {
		for name, one := range periods(r, k) {
			for _, n := range []int{200, 201, 202, 255, 300, 322, 323, 324, 399, 400, 777, 1000, 4099, 10000, 32768, 65535, 65536, 100000} {
				p := slices.Repeat(one, n/k+1)[:n]
				b := made(t, fmt.Sprint(name, " ", k, " ", n), p)
				if most := 64 + k + n/100; len(b) > most {
					t.Errorf("%s, each %d bytes, %d in all: %d bytes, want at most %d", name, k, n, len(b), most)
				}
			}
		}
	}
}

func TestLongPeriods(t *testing.T) {
	r := rand.New(rand.NewSource(11))
	for _, k := range []int{1, 2, 3, 31, 63, 64} {
		n := 5_000_000 + k
		p := slices.Repeat(draw(r, k, 256), n/k+1)[:n]
		if b := made(t, fmt.Sprint(k), p); len(b) > 64+k+n/100 {
			t.Errorf("each %d bytes, %d in all: %d bytes", k, n, len(b))
		}
	}
}

// A piece that comes again only behind others with its first three bytes is found.
func TestChainsAreGoneAlong(t *testing.T) {
	for _, others := range []int{0, 1, 10, 63, 100} {
		long := "abcdefghijklmnopqrstuvwxyz"
		p := long
		for i := range others {
			p += fmt.Sprintf("abc%c%c", 130+i, 'A'+i%26)
		}
		p += "." + long
		found := slices.ContainsFunc(onlyMatches(t, made(t, "others", []byte(p))), func(m token) bool {
			return m.length == len(long)
		})
		if !found {
			t.Errorf("behind %d others that begin so, it is not found", others)
		}
	}
}

// Of two as long, the nearer one needs fewer bits; of two unlike, the longer one; the next place only for a longer one.
func TestWhichMatch(t *testing.T) {
	for _, row := range []struct {
		text string
		want []token
	}{
		{"abcd1abcd2abcd", []token{{length: 4, distance: 5}, {length: 4, distance: 5}}},
		{"abcde1abcd2abcde", []token{{length: 4, distance: 6}, {length: 5, distance: 11}}},
		{"abc1bcdefg2abcdefg", []token{{length: 6, distance: 8}}},
		{"abc1bcd2abcd", []token{{length: 3, distance: 8}}},
		{"aaab1aaaaaaaa", []token{{length: 7, distance: 1}}},
		{"abcdef", nil},
		{"ababab", []token{{length: 4, distance: 2}}},
		{"aaaa", []token{{length: 3, distance: 1}}},
		{"aaa", nil},
	} {
		f := newFinder([]byte(row.text))
		var got []token
		for !f.done() {
			if m := f.next(); m.length > 0 {
				got = append(got, m)
			}
		}
		if !slices.Equal(got, row.want) {
			t.Errorf("%q: %v, want %v", row.text, got, row.want)
		}
	}
}

func TestTokensTellTheBytes(t *testing.T) {
	r := rand.New(rand.NewSource(12))
	for range 300 {
		p := draw(r, r.Intn(2000), 1+r.Intn(5))
		f := newFinder(p)
		var told []byte
		for !f.done() {
			m := f.next()
			if m.length == 0 {
				told = append(told, m.literal)
			}
			for range m.length {
				told = append(told, told[len(told)-m.distance])
			}
			if f.at != len(told) {
				t.Fatalf("%d bytes told, at %d", len(told), f.at)
			}
		}
		if !bytes.Equal(told, p) {
			t.Fatalf("%v told as %v", p, told)
		}
	}
}

func TestSteps(t *testing.T) {
	for length := 3; length <= 258; length++ {
		s := lengthStep(length)
		k := s.symbol - 257
		if k < 0 || k > 28 || lengthLeast[k]+s.more != length || lengthBits[k] != s.bits || s.more>>s.bits != 0 {
			t.Errorf("a length of %d: %v", length, s)
		}
	}
	for distance := 1; distance <= 32768; distance++ {
		s := distanceStep(distance)
		if s.symbol > 29 || distanceLeast[s.symbol]+s.more != distance || distanceBits[s.symbol] != s.bits || s.more>>s.bits != 0 {
			t.Fatalf("a distance of %d: %v", distance, s)
		}
	}
}

func TestLengthsSteps(t *testing.T) {
	for _, row := range []struct {
		lengths []int
		want    []step
	}{
		{[]int{5}, []step{{5, 0, 0}}},
		{repeat(0, 2), []step{{0, 0, 0}, {0, 0, 0}}},
		{repeat(0, 3), []step{{17, 0, 3}}},
		{repeat(0, 10), []step{{17, 7, 3}}},
		{repeat(0, 11), []step{{18, 0, 7}}},
		{repeat(0, 138), []step{{18, 127, 7}}},
		{repeat(0, 139), []step{{18, 127, 7}, {0, 0, 0}}},
		{repeat(0, 141), []step{{18, 127, 7}, {17, 0, 3}}},
		{repeat(0, 276), []step{{18, 127, 7}, {18, 127, 7}}},
		{repeat(4, 3), []step{{4, 0, 0}, {4, 0, 0}, {4, 0, 0}}},
		{repeat(4, 4), []step{{4, 0, 0}, {16, 0, 2}}},
		{repeat(4, 7), []step{{4, 0, 0}, {16, 3, 2}}},
		{repeat(4, 8), []step{{4, 0, 0}, {16, 3, 2}, {4, 0, 0}}},
		{repeat(4, 10), []step{{4, 0, 0}, {16, 3, 2}, {16, 0, 2}}},
		{[]int{3, 0, 0, 0, 3, 3, 3, 3}, []step{{3, 0, 0}, {17, 0, 3}, {3, 0, 0}, {16, 0, 2}}},
	} {
		if got := lengthsSteps(row.lengths); !slices.Equal(got, row.want) {
			t.Errorf("%v: %v, want %v", row.lengths, got, row.want)
		}
	}
}

func TestKinds(t *testing.T) {
	r := rand.New(rand.NewSource(13))
	text := []byte(strings.Repeat("what comes often needs few bits; ", 3) + "and what does not comes with more of them, as it is rare")
	for _, row := range []struct {
		name string
		p    []byte
		want int
	}{
		{"none", nil, 1},
		{"a byte", []byte("a"), 1},
		{"a word", []byte("word"), 1},
		{"few kinds", draw(r, 3000, 4), 2},
		{"text", bytes.Repeat(text, 3), 2},
		{"drawn", draw(r, 3000, 256), 0},
	} {
		blocks := blocksOf(t, made(t, row.name, row.p))
		if len(blocks) != 1 || blocks[0].kind != row.want || blocks[0].bytes != len(row.p) {
			t.Errorf("%s: %+v, want one of kind %d", row.name, blocks, row.want)
		}
	}
	if b := Bytes(nil); !bytes.Equal(b, []byte{3, 0}) {
		t.Errorf("no byte: % x", b)
	}
}

// Just so many bits as are reckoned are laid, by each kind; so the least is taken.
func TestCostsAreTheBitsThatAreLaid(t *testing.T) {
	r := rand.New(rand.NewSource(14))
	for range 300 {
		p := draw(r, r.Intn(3000), 1+r.Intn(256))
		if r.Intn(2) == 0 {
			p = append(p, p[:r.Intn(len(p)+1)]...)
		}
		b := nextBlock(newFinder(p))
		fixed, own := fixedBook(), b.ownBook()
		h := newHeading(own)
		w := bits.New()
		begin(w, true, 1)
		b.symbols(w, fixed)
		byFixed := w.Bytes()
		goesBack(t, "kind 1", p, byFixed)
		if want := 3 + b.cost(fixed); len(byFixed) != (want+7)/8 {
			t.Fatalf("kind 1: %d bytes, reckoned %d bits", len(byFixed), want)
		}
		w = bits.New()
		begin(w, true, 2)
		h.lay(w)
		b.symbols(w, own)
		byOwn := w.Bytes()
		goesBack(t, "kind 2", p, byOwn)
		if want := 3 + h.cost() + b.cost(own); len(byOwn) != (want+7)/8 {
			t.Fatalf("kind 2: %d bytes, reckoned %d bits", len(byOwn), want)
		}
		stored := Stored(p)
		// Off an edge it may be two bits more.
		if want := 3 + b.storedCost(); len(stored)*8 != want-2 {
			t.Fatalf("kind 0: %d bytes, reckoned %d bits", len(stored), want)
		}
		if got := len(Bytes(p)); got != min(len(byFixed), len(byOwn), len(stored)) {
			t.Fatalf("%d bytes, of %d, %d, %d", got, len(byFixed), len(byOwn), len(stored))
		}
	}
}

// What does not come again stands as it is, between what does.
func TestKindsOfEachPiece(t *testing.T) {
	r := rand.New(rand.NewSource(15))
	random := draw(r, 100_000, 256)
	p := slices.Concat(draw(r, 100_000, 4), random, draw(r, 100_000, 4))
	b := made(t, "pieces", p)
	kinds := map[int]bool{}
	sum := 0
	blocks := blocksOf(t, b)
	for i, k := range blocks {
		kinds[k.kind] = true
		sum += k.bytes
		if (k.last == 1) != (i == len(blocks)-1) {
			t.Errorf("block %d of %d: last %d", i, len(blocks), k.last)
		}
	}
	if !kinds[0] || !kinds[2] || sum != len(p) {
		t.Errorf("kinds %v, %d bytes", kinds, sum)
	}
	if most := 100_000 + 2*33_000; len(b) > most {
		t.Errorf("%d bytes, want at most %d", len(b), most)
	}
}

func rowsOfAllSorts(r *rand.Rand) [][]byte {
	return [][]byte{
		nil,
		[]byte("a"),
		[]byte("abcabcabcabc"),
		draw(r, 400, 256),
		draw(r, 5000, 3),
		draw(r, 70000, 256),
		slices.Repeat(draw(r, 40, 256), 2000),
		bytes.Repeat([]byte{0}, 40000),
	}
}

func TestTheSameAnswerAgain(t *testing.T) {
	r := rand.New(rand.NewSource(16))
	rows := rowsOfAllSorts(r)
	var first, stored [][]byte
	for _, p := range rows {
		first = append(first, Bytes(p))
		stored = append(stored, Stored(p))
	}
	for range 60 {
		i := r.Intn(len(rows))
		p := append(make([]byte, 0, len(rows[i])+r.Intn(100)), rows[i]...)
		if !bytes.Equal(Bytes(p), first[i]) || !bytes.Equal(Stored(p), stored[i]) {
			t.Fatalf("row %d has another answer", i)
		}
	}
	var wg sync.WaitGroup
	for i := range 4 * len(rows) {
		wg.Go(func() {
			if k := i % len(rows); !bytes.Equal(Bytes(rows[k]), first[k]) {
				t.Errorf("row %d has another answer, beside others", k)
			}
		})
	}
	wg.Wait()
}

func TestNothingIsShared(t *testing.T) {
	r := rand.New(rand.NewSource(17))
	for name, call := range map[string]func([]byte) []byte{"Bytes": Bytes, "Stored": Stored} {
		for i, p := range rowsOfAllSorts(r) {
			whole := append(slices.Clone(p), "spare room"...)
			was := slices.Clone(whole)
			in := whole[:len(p)]
			b := call(in)
			if !bytes.Equal(whole, was) {
				t.Fatalf("%s, row %d: what was handed in is another one", name, i)
			}
			told := slices.Clone(b)
			scribble(whole)
			if !bytes.Equal(b, told) {
				t.Fatalf("%s, row %d: the answer hangs on what was handed in", name, i)
			}
			copy(whole, was)
			other := call(in)
			scribble(b)
			if !bytes.Equal(other, told) || !bytes.Equal(whole, was) || !bytes.Equal(call(in), told) {
				t.Fatalf("%s, row %d: an answer is no new memory", name, i)
			}
		}
	}
}

// scribble writes over bytes and over the room behind them.
func scribble(p []byte) {
	p = p[:cap(p)]
	for i := range p {
		p[i] ^= 0xa5
	}
}

func FuzzBytes(f *testing.F) {
	for _, p := range rowsOfAllSorts(rand.New(rand.NewSource(18))) {
		f.Add(p)
	}
	f.Fuzz(func(t *testing.T, p []byte) {
		made(t, "fuzz", p)
		q, n, e := inflate.Bytes(Stored(p), len(p))
		if e != api.OK || n != len(Stored(p)) || !bytes.Equal(p, q) {
			t.Errorf("stored: %d, %d", n, e)
		}
	})
}
