package inflate

import (
	"math/rand"
	"slices"
	"testing"

	"rubricator/api"
	"rubricator/bits"
	"rubricator/huff"
)

// The tables of RFC 1951, 3.2.5, as they stand there.
var (
	lengthLeast = []int{3, 4, 5, 6, 7, 8, 9, 10, 11, 13, 15, 17, 19, 23, 27, 31,
		35, 43, 51, 59, 67, 83, 99, 115, 131, 163, 195, 227, 258}
	lengthBits = []int{0, 0, 0, 0, 0, 0, 0, 0, 1, 1, 1, 1, 2, 2, 2, 2,
		3, 3, 3, 3, 4, 4, 4, 4, 5, 5, 5, 5, 0}
	distanceLeast = []int{1, 2, 3, 4, 5, 7, 9, 13, 17, 25, 33, 49, 65, 97, 129, 193,
		257, 385, 513, 769, 1025, 1537, 2049, 3073, 4097, 6145, 8193, 12289, 16385, 24577}
	distanceBits = []int{0, 0, 0, 0, 1, 1, 2, 2, 3, 3, 4, 4, 5, 5, 6, 6,
		7, 7, 8, 8, 9, 9, 10, 10, 11, 11, 12, 12, 13, 13}
	order = []int{16, 17, 18, 0, 8, 7, 9, 6, 10, 5, 11, 4, 12, 3, 13, 2, 14, 1, 15}
)

// sheet is a stream that is laid piece by piece, and what it should tell.
type sheet struct {
	w    *bits.Writer
	bits int // so many are laid
	want []byte
}

func newSheet() *sheet { return &sheet{w: bits.New()} }

// Put lays the lowest bit first.
func (s *sheet) Put(v, n int) { s.laid(s.w.Put(v, n), n) }

// Code lays the highest bit first.
func (s *sheet) Code(v, n int) { s.laid(s.w.Code(v, n), n) }

// Raw lays bytes.
func (s *sheet) Raw(p []byte) { s.laid(s.w.Raw(p), 8*len(p)) }

// Align lays noughts up to an edge.
func (s *sheet) Align() {
	s.w.Align()
	s.bits = (s.bits + 7) / 8 * 8
}

// Bytes is the stream so far.
func (s *sheet) Bytes() []byte { return s.w.Bytes() }

func (s *sheet) laid(e api.Errno, n int) {
	if e != api.OK {
		panic("these bits can't be laid")
	}
	s.bits += n
}

// lay is a stream laid by hand.
func lay(f func(s *sheet)) []byte {
	s := newSheet()
	f(s)
	return s.Bytes()
}

func (s *sheet) head(last, kind int) {
	s.Put(last, 1)
	s.Put(kind, 2)
}

// stored lays a block of kind 0.
func (s *sheet) stored(last int, p []byte) {
	s.head(last, 0)
	s.Align()
	s.Put(len(p), 16)
	s.Put(len(p)^0xffff, 16)
	s.Raw(p)
	s.want = append(s.want, p...)
}

// storedAs lays what a block of kind 0 begins with, whatever the numbers are.
func (s *sheet) storedAs(length, turned int) {
	s.head(1, 0)
	s.Align()
	s.Put(length, 16)
	s.Put(turned, 16)
}

// book is lengths of codes and the codes.
type book struct {
	lengths, codes []int
}

func bookOf(lengths []int) book {
	codes, e := huff.Codes(lengths)
	if e != api.OK {
		panic("these lengths have no codes")
	}
	return book{lengths, codes}
}

// has is the symbols with a code.
func (b book) has() []int {
	var symbols []int
	for symbol, n := range b.lengths {
		if n > 0 {
			symbols = append(symbols, symbol)
		}
	}
	return symbols
}

func (s *sheet) symbol(b book, symbol int) { s.Code(b.codes[symbol], b.lengths[symbol]) }

// fixedBooks is the codes of kind 1 by the numbers of RFC 1951, 3.2.6.
func fixedBooks() (book, book) {
	lits := book{make([]int, 288), make([]int, 288)}
	for _, row := range []struct{ from, to, length, code int }{
		{0, 143, 8, 0b00110000}, {144, 255, 9, 0b110010000}, {256, 279, 7, 0}, {280, 287, 8, 0b11000000},
	} {
		for symbol := row.from; symbol <= row.to; symbol++ {
			lits.lengths[symbol] = row.length
			lits.codes[symbol] = row.code + symbol - row.from
		}
	}
	dists := book{make([]int, 32), make([]int, 32)}
	for symbol := range 32 {
		dists.lengths[symbol] = 5
		dists.codes[symbol] = symbol
	}
	return lits, dists
}

// item is a byte (a symbol below 256) or a match, as symbols with the bits behind them.
type item struct {
	symbol, more, distance, distanceMore int
}

func literals(text string) []item {
	var items []item
	for i := range len(text) {
		items = append(items, item{symbol: int(text[i])})
	}
	return items
}

// match is a length and a distance as symbols.
func match(length, distance int) item {
	var x item
	for k, least := range lengthLeast {
		if length >= least {
			x.symbol, x.more = 257+k, length-least
		}
	}
	for k, least := range distanceLeast {
		if distance >= least {
			x.distance, x.distanceMore = k, distance-least
		}
	}
	return x
}

// told is the length and the distance of a match.
func (x item) told() (int, int) {
	return lengthLeast[x.symbol-257] + x.more, distanceLeast[x.distance] + x.distanceMore
}

// items lays symbols, without the end of the block.
func (s *sheet) items(lits, dists book, items []item) {
	for _, x := range items {
		s.symbol(lits, x.symbol)
		if x.symbol < 256 {
			s.want = append(s.want, byte(x.symbol))
			continue
		}
		s.Put(x.more, lengthBits[x.symbol-257])
		s.symbol(dists, x.distance)
		s.Put(x.distanceMore, distanceBits[x.distance])
		length, distance := x.told()
		for range length {
			if distance > len(s.want) {
				break
			}
			s.want = append(s.want, s.want[len(s.want)-distance])
		}
	}
}

// fixed lays a block of kind 1.
func (s *sheet) fixed(last int, items []item) {
	lits, dists := fixedBooks()
	s.head(last, 1)
	s.items(lits, dists, items)
	s.symbol(lits, 256)
}

// fixedOpen lays a block of kind 1 without its end.
func (s *sheet) fixedOpen(items []item) {
	lits, dists := fixedBooks()
	s.head(1, 1)
	s.items(lits, dists, items)
}

// run is a symbol of lengths and the number of the bits behind it.
type run struct {
	symbol, more int
}

// plain is each length by itself.
func plain(lengths []int) []run {
	var runs []run
	for _, n := range lengths {
		runs = append(runs, run{n, 0})
	}
	return runs
}

// flat is lengths by which each of the nineteen symbols of lengths has a code.
func flat() []int {
	return slices.Concat(slices.Repeat([]int{4}, 13), slices.Repeat([]int{5}, 6))
}

// ownHead lays what a block of kind 2 begins with, up to the lengths' codes.
func (s *sheet) ownHead(last, lits, dists, codes int, lengths []int) {
	s.head(last, 2)
	s.Put(lits-257, 5)
	s.Put(dists-1, 5)
	s.Put(codes-4, 4)
	for _, symbol := range order[:codes] {
		s.Put(lengths[symbol], 3)
	}
}

// runs lays lengths by symbols of lengths.
func (s *sheet) runs(b book, runs []run) {
	for _, x := range runs {
		s.symbol(b, x.symbol)
		s.Put(x.more, map[int]int{16: 2, 17: 3, 18: 7}[x.symbol])
	}
}

// byRuns lays what a block of kind 2 begins with, up to some lengths.
func (s *sheet) byRuns(lits, dists int, runs ...run) {
	s.ownHead(1, lits, dists, 19, flat())
	s.runs(bookOf(flat()), runs)
}

// ownLengths lays what a block of kind 2 begins with, whether these lengths can be or not.
func (s *sheet) ownLengths(lits, dists []int) {
	s.byRuns(len(lits), len(dists), plain(slices.Concat(lits, dists))...)
}

// bookFor is codes for just the symbols of lengths that come in runs.
func bookFor(runs []run) book {
	often := make([]int, 19)
	for _, x := range runs {
		often[x.symbol]++
	}
	lengths, e := huff.Lengths(often, 7)
	if e != api.OK {
		panic("these have no lengths")
	}
	return bookOf(lengths)
}

// own lays a block of kind 2, each length by itself.
func (s *sheet) own(last int, lits, dists book, items []item) {
	s.ownHead(last, len(lits.lengths), len(dists.lengths), 19, flat())
	s.runs(bookOf(flat()), plain(slices.Concat(lits.lengths, dists.lengths)))
	s.items(lits, dists, items)
	s.symbol(lits, 256)
}

// some is lengths of so many symbols, all 0 but for these.
func some(many int, lengths map[int]int) []int {
	row := make([]int, many)
	for symbol, n := range lengths {
		row[symbol] = n
	}
	return row
}

// drawBook draws codes for these symbols and perhaps for others, at most so long ones.
func drawBook(r *rand.Rand, many, longest int, symbols ...int) book {
	often := make([]int, many)
	for range r.Intn(40) {
		often[r.Intn(many)] = 1 << r.Intn(20)
	}
	for _, symbol := range symbols {
		often[symbol] = 1 << r.Intn(20)
	}
	lengths, e := huff.Lengths(often, longest)
	if e != api.OK {
		panic("no lengths are drawn")
	}
	return bookOf(lengths)
}

// drawItems draws what these codes can tell behind so many bytes.
func drawItems(r *rand.Rand, lits, dists book, have int) []item {
	var items []item
	symbols, distances := lits.has(), dists.has()
	for range r.Intn(30) {
		x := item{symbol: symbols[r.Intn(len(symbols))]}
		if x.symbol == 256 || x.symbol > 285 {
			continue
		}
		if x.symbol > 256 {
			if len(distances) == 0 {
				continue
			}
			x.distance = distances[r.Intn(len(distances))]
			if x.distance > 29 {
				continue
			}
			x.more = r.Intn(1 << lengthBits[x.symbol-257])
			x.distanceMore = r.Intn(1 << distanceBits[x.distance])
			length, distance := x.told()
			if distance > have {
				continue
			}
			have += length - 1
		}
		have++
		items = append(items, x)
	}
	return items
}

// drawRuns tells lengths by symbols of lengths, several at once where it may be.
func drawRuns(r *rand.Rand, lengths []int) []run {
	var runs []run
	for i := 0; i < len(lengths); {
		same := 1
		for i+same < len(lengths) && lengths[i+same] == lengths[i] {
			same++
		}
		x, n := run{lengths[i], 0}, 1
		switch pick := r.Intn(4); {
		case pick == 0:
		case i > 0 && lengths[i] == lengths[i-1] && same >= 3 && (pick == 1 || lengths[i] > 0):
			n = 3 + r.Intn(min(same, 6)-2)
			x = run{16, n - 3}
		case lengths[i] == 0 && same >= 11:
			n = 11 + r.Intn(min(same, 138)-10)
			x = run{18, n - 11}
		case lengths[i] == 0 && same >= 3:
			n = 3 + r.Intn(min(same, 10)-2)
			x = run{17, n - 3}
		}
		runs = append(runs, x)
		i += n
	}
	return runs
}

// drawOwn lays a block of kind 2 with codes of lengths that are drawn too.
func (s *sheet) drawOwn(r *rand.Rand, last int) {
	lits := drawBook(r, 257+r.Intn(30), 9+r.Intn(7), 256, r.Intn(257))
	dists := drawBook(r, 1+r.Intn(30), 5+r.Intn(11))
	if r.Intn(4) == 0 {
		dists = bookOf(some(1+r.Intn(30), map[int]int{0: r.Intn(2)}))
	}
	runs := drawRuns(r, slices.Concat(lits.lengths, dists.lengths))
	first := bookFor(runs)
	codes := 19
	for codes > 4 && first.lengths[order[codes-1]] == 0 && r.Intn(8) > 0 {
		codes--
	}
	s.ownHead(last, len(lits.lengths), len(dists.lengths), codes, first.lengths)
	s.runs(first, runs)
	s.items(lits, dists, drawItems(r, lits, dists, len(s.want)))
	s.symbol(lits, 256)
}

// drawBlock lays a block of any kind.
func (s *sheet) drawBlock(r *rand.Rand, last int) {
	switch r.Intn(3) {
	case 0:
		p := make([]byte, r.Intn(40))
		r.Read(p)
		s.stored(last, p)
	case 1:
		lits, dists := fixedBooks()
		s.fixed(last, drawItems(r, lits, dists, len(s.want)))
	default:
		s.drawOwn(r, last)
	}
}

// drawSheet is a stream of some blocks.
func drawSheet(r *rand.Rand) *sheet {
	s := newSheet()
	for range r.Intn(4) {
		s.drawBlock(r, 0)
	}
	s.drawBlock(r, 1)
	return s
}

// tells asks for just this answer.
func tells(t *testing.T, name string, b []byte, most int, want []byte, used int) {
	t.Helper()
	p, n, e := Bytes(b, most)
	if string(p) != string(want) || n != used || e != api.OK {
		t.Errorf("%s: %d bytes, %d used, error %d, want %d bytes, %d used", name, len(p), n, e, len(want), used)
	}
}

// refuses asks for just this error, and nothing beside it.
func refuses(t *testing.T, name string, b []byte, most int, want api.Errno) {
	t.Helper()
	if p, n, e := Bytes(b, most); p != nil || n != 0 || e != want {
		t.Errorf("%s: %d bytes, %d used, error %d, want error %d", name, len(p), n, e, want)
	}
}
