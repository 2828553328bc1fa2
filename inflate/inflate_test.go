package inflate

import (
	"bytes"
	"compress/flate"
	"math"
	"math/rand"
	"runtime"
	"slices"
	"strconv"
	"strings"
	"testing"

	"rubricator/api"
)

const plenty = 1 << 20

var example = []byte{0x01, 0x02, 0x00, 0xfd, 0xff, 0x61, 0x62}

// letters is codes for a few letters, the end, three lengths and two distances.
func letters() (book, book) {
	return bookOf(some(286, map[int]int{'a': 2, 'b': 3, 'c': 3, 256: 3, 257: 3, 265: 3, 285: 3})),
		bookOf(some(30, map[int]int{0: 1, 4: 1}))
}

func TestExample(t *testing.T) {
	tells(t, "the document's example", example, 2, []byte("ab"), 7)
	tells(t, "with any number of bytes", example, math.MaxInt, []byte("ab"), 7)
}

func TestStored(t *testing.T) {
	r := rand.New(rand.NewSource(1))
	for _, n := range []int{0, 1, 2, 255, 256, 257, 65534, 65535} {
		p := make([]byte, n)
		r.Read(p)
		s := newSheet()
		s.stored(1, p)
		tells(t, strconv.Itoa(n)+" bytes", s.Bytes(), n, p, n+5)
	}
}

// Ahead of a block of kind 0 stand 1 to 8 bits that are not on an edge; those up to the edge count for nothing.
func TestStoredBehindBits(t *testing.T) {
	lits, _ := fixedBooks()
	for nines := range 8 {
		for _, filling := range []int{0, 1} {
			s := newSheet()
			s.fixed(0, literals(strings.Repeat("\xff", nines)))
			s.head(1, 0)
			bits := 10 + nines*lits.lengths[255] + 3
			for ; bits%8 != 0; bits++ {
				s.Put(filling, 1)
			}
			s.Put(2, 16)
			s.Put(0xfffd, 16)
			s.Raw([]byte("ab"))
			tells(t, strconv.Itoa(nines), s.Bytes(), plenty, append(s.want, "ab"...), bits/8+6)
		}
	}
}

func TestEveryLiteral(t *testing.T) {
	var all []byte
	for v := range 256 {
		all = append(all, byte(v))
	}
	s := newSheet()
	s.fixed(1, literals(string(all)))
	tells(t, "kind 1", s.Bytes(), 256, all, len(s.Bytes()))
	lengths := slices.Concat(slices.Repeat([]int{8}, 255), []int{9, 9})
	s = newSheet()
	s.own(1, bookOf(lengths), bookOf([]int{0}), literals(string(all)))
	tells(t, "kind 2", s.Bytes(), 256, all, len(s.Bytes()))
}

// The kinds in all orders, each block but the first reaching back into those ahead.
func TestKindsInAllOrders(t *testing.T) {
	lits, dists := letters()
	for v := range 3 * 3 * 3 * 3 {
		s, name := newSheet(), ""
		for k := range 4 {
			kind := v / []int{1, 3, 9, 27}[k] % 3
			name += strconv.Itoa(kind)
			last := k / 3
			items := literals("abcab")
			if len(s.want) > 5 {
				items = append([]item{match(11, 6), match(3, 5)}, items...)
			}
			switch kind {
			case 0:
				s.stored(last, []byte("cabab"+name))
			case 1:
				s.fixed(last, append(items, match(4, len(s.want)+1)))
			default:
				s.own(last, lits, dists, append(items, match(258, 5)))
			}
		}
		tells(t, name, s.Bytes(), len(s.want), s.want, len(s.Bytes()))
		refuses(t, name, s.Bytes(), len(s.want)-1, api.ErrLong)
	}
}

func TestBlocksWithoutBytes(t *testing.T) {
	lits, dists := letters()
	s := newSheet()
	for range 5 {
		s.fixed(0, nil)
		s.stored(0, nil)
		s.own(0, lits, dists, nil)
	}
	s.own(0, bookOf(some(257, map[int]int{256: 1})), bookOf([]int{0}), nil)
	s.fixed(1, nil)
	tells(t, "nothing", s.Bytes(), 0, nil, len(s.Bytes()))
}

// lengthBook has a code for each symbol from 256 on, and for the byte x.
func lengthBook() book {
	often := map[int]int{'x': 4}
	for symbol := 256; symbol <= 285; symbol++ {
		often[symbol] = 5
	}
	return bookOf(some(286, often))
}

func TestEveryLength(t *testing.T) {
	for k, least := range lengthLeast {
		for _, more := range []int{0, 1<<lengthBits[k] - 1} {
			x := item{symbol: 257 + k, more: more}
			length := least + more
			want := bytes.Repeat([]byte("x"), length+1)
			s := newSheet()
			s.fixed(1, append(literals("x"), x))
			tells(t, strconv.Itoa(x.symbol)+" of kind 1", s.Bytes(), length+1, want, len(s.Bytes()))
			refuses(t, strconv.Itoa(x.symbol)+" of kind 1", s.Bytes(), length, api.ErrLong)
			s = newSheet()
			s.own(1, lengthBook(), bookOf([]int{1}), append(literals("x"), x))
			tells(t, strconv.Itoa(x.symbol)+" of kind 2", s.Bytes(), length+1, want, len(s.Bytes()))
		}
	}
	s := newSheet()
	s.fixed(1, append(literals("x"), item{symbol: 285}, item{symbol: 284, more: 31}))
	tells(t, "258 by 285 and by 284", s.Bytes(), 517, bytes.Repeat([]byte("x"), 517), len(s.Bytes()))
}

func TestEveryDistance(t *testing.T) {
	r := rand.New(rand.NewSource(2))
	ahead := make([]byte, 32768)
	r.Read(ahead)
	dists := bookOf(slices.Concat(slices.Repeat([]int{5}, 28), []int{4, 4}))
	for k, least := range distanceLeast {
		for _, more := range []int{0, 1<<distanceBits[k] - 1} {
			x := item{symbol: 257, distance: k, distanceMore: more}
			distance := least + more
			for _, kind := range []int{1, 2} {
				name := "the distance " + strconv.Itoa(distance) + " of kind " + strconv.Itoa(kind)
				laid := func(bytes int) *sheet {
					s := newSheet()
					s.stored(0, ahead[:bytes])
					if kind == 1 {
						s.fixed(1, []item{x})
					} else {
						s.own(1, lengthBook(), dists, []item{x})
					}
					return s
				}
				s := laid(32768)
				if distance >= 3 && !bytes.Equal(s.want[32768:], ahead[32768-distance:][:3]) {
					t.Error(name, "is laid wrong")
				}
				tells(t, name, s.Bytes(), plenty, s.want, len(s.Bytes()))
				s = laid(distance)
				tells(t, name+", as far as there are bytes", s.Bytes(), plenty, s.want, len(s.Bytes()))
				refuses(t, name+", one farther", laid(distance-1).Bytes(), plenty, api.ErrDistance)
				refuses(t, name+", one farther, and too many", laid(distance-1).Bytes(), distance-1, api.ErrDistance)
			}
		}
	}
}

func TestMatchThatOverlapsItself(t *testing.T) {
	s := newSheet()
	s.fixed(1, append(literals("abc"), match(7, 3), match(5, 2)))
	tells(t, "by three and two", s.Bytes(), plenty, []byte("abcabcabcacacac"), len(s.Bytes()))
	s = newSheet()
	s.fixed(1, append(literals("ab"), match(258, 1), match(258, 260)))
	tells(t, "by one", s.Bytes(), plenty, []byte("a"+strings.Repeat("b", 259)+"a"+strings.Repeat("b", 257)), len(s.Bytes()))
}

// lengthsByRuns lays a block of kind 2 whose lengths stand as runs, with bytes by them.
func lengthsByRuns(lits, dists []int, runs []run, items []item) *sheet {
	s := newSheet()
	s.ownHead(1, len(lits), len(dists), 19, flat())
	s.runs(bookOf(flat()), runs)
	s.items(bookOf(lits), bookOf(dists), items)
	s.symbol(bookOf(lits), 256)
	return s
}

// From nought up to 138 times the symbols 17 and 18 tell noughts: the least and the most of each.
func TestNoughtsAtOnce(t *testing.T) {
	for _, x := range []struct{ symbol, more, noughts int }{
		{17, 0, 3}, {17, 1, 4}, {17, 7, 10}, {18, 0, 11}, {18, 1, 12}, {18, 126, 137}, {18, 127, 138},
	} {
		lits := some(257, map[int]int{x.noughts: 1, 256: 1})
		runs := append([]run{{x.symbol, x.more}}, plain(append(slices.Clone(lits[x.noughts:]), 0))...)
		s := lengthsByRuns(lits, []int{0}, runs, literals(string([]byte{byte(x.noughts)})))
		tells(t, strconv.Itoa(x.noughts)+" noughts", s.Bytes(), 1, []byte{byte(x.noughts)}, len(s.Bytes()))
	}
}

func TestSameAgain(t *testing.T) {
	for more := range 4 {
		// One length and 3 to 6 more of it are 4 to 7 codes of length 3; the end has what they leave.
		many := 4 + more
		lits := some(257, nil)
		for symbol := range many {
			lits[symbol] = 3
		}
		rest := map[int][]int{4: {1}, 5: {2, 3}, 6: {2}, 7: {3}}[many]
		copy(lits[257-len(rest):], rest)
		runs := append([]run{{3, 0}, {16, more}}, plain(append(slices.Clone(lits[many:]), 0))...)
		bytes := []byte{0, 1, 2, 3, byte(many - 1)}
		s := lengthsByRuns(lits, []int{0}, runs, literals(string(bytes)))
		tells(t, strconv.Itoa(3+more)+" times more", s.Bytes(), 5, bytes, len(s.Bytes()))
	}
}

// A nought is a length too, whether it came alone or by 17 or 18.
func TestNoughtsAgain(t *testing.T) {
	lits := some(257, map[int]int{20: 1, 256: 1})
	for i, runs := range [][]run{
		{{0, 0}, {16, 3}, {16, 3}, {16, 3}, {0, 0}},
		{{17, 7}, {16, 0}, {16, 3}, {0, 0}},
		{{18, 0}, {16, 3}, {16, 0}},
	} {
		runs = append(runs, plain(append(slices.Clone(lits[20:]), 0))...)
		s := lengthsByRuns(lits, []int{0}, runs, literals("\x14"))
		tells(t, strconv.Itoa(i), s.Bytes(), 1, []byte{20}, len(s.Bytes()))
	}
}

// One run has the last lengths of literals and the first ones of distances.
func TestRunFromLiteralsIntoDistances(t *testing.T) {
	lits := some(258, map[int]int{'a': 2, 'b': 2, 256: 2, 257: 2})
	dists := []int{2, 2, 2, 2}
	runs := append(plain(lits[:257]), run{16, 2})
	s := lengthsByRuns(lits, dists, runs, append(literals("abbb"), match(3, 4), match(3, 1)))
	tells(t, "16", s.Bytes(), plenty, []byte("abbbabbbbb"), len(s.Bytes()))
	for _, x := range []run{{17, 4}, {18, 1}} {
		noughts := x.more + map[int]int{17: 3, 18: 11}[x.symbol]
		lits := some(258+3, map[int]int{'a': 2, 'b': 2, 256: 2, 257: 2})
		dists := some(noughts-3+1, map[int]int{noughts - 3: 1})
		runs := append(plain(lits[:258]), x, run{1, 0})
		least := distanceLeast[noughts-3]
		text := strings.Repeat("ab", least)
		s := lengthsByRuns(lits, dists, runs, append(literals(text), match(3, least)))
		tells(t, strconv.Itoa(x.symbol), s.Bytes(), plenty, []byte(text+text[least:least+3]), len(s.Bytes()))
	}
}

func TestHowManyLengths(t *testing.T) {
	lits, dists := make([]int, 286), make([]int, 30)
	lits[255], lits[256], lits[285] = 1, 2, 2
	dists[0], dists[29] = 1, 1
	s := newSheet()
	s.own(1, bookOf(lits), bookOf(dists), append(literals("\xff"), match(258, 1)))
	tells(t, "286 and 30", s.Bytes(), plenty, s.want, len(s.Bytes()))
	s = newSheet()
	s.own(1, bookOf(some(257, map[int]int{0: 1, 256: 1})), bookOf([]int{0}), literals("\x00"))
	tells(t, "257 and 1", s.Bytes(), plenty, s.want, len(s.Bytes()))
}

// The lengths of lengths' codes come in an order of their own, as many of them as there are told.
func TestOrderOfLengthsCodes(t *testing.T) {
	for n := 1; n <= 15; n++ {
		// Codes of all lengths up to n, two of the longest: full.
		lits := some(257, nil)
		for k := 1; k <= n; k++ {
			lits[k] = k
		}
		lits[256] = n
		runs := plain(append(slices.Clone(lits), 0))
		b := bookFor(runs)
		need := 4
		for i, symbol := range order {
			if b.lengths[symbol] > 0 {
				need = max(need, i+1)
			}
		}
		for codes := need; codes <= 19; codes++ {
			s := newSheet()
			s.ownHead(1, 257, 1, codes, b.lengths)
			s.runs(b, runs)
			text := string([]byte{1, byte(n), 1})
			s.items(bookOf(lits), book{}, literals(text))
			s.symbol(bookOf(lits), 256)
			tells(t, strconv.Itoa(n)+" by "+strconv.Itoa(codes), s.Bytes(), 3, []byte(text), len(s.Bytes()))
		}
	}
}

// Behind the blocks may stand more bytes; the last one begun counts as theirs.
func TestUsed(t *testing.T) {
	r := rand.New(rand.NewSource(3))
	for i := range 300 {
		s := drawSheet(r)
		n := len(s.Bytes())
		tells(t, strconv.Itoa(i)+", none behind", s.Bytes(), len(s.want), s.want, n)
		behind := make([]byte, 1+r.Intn(20))
		r.Read(behind)
		tells(t, strconv.Itoa(i)+", some behind", append(s.Bytes(), behind...), len(s.want), s.want, n)
	}
	for bits := range 20 {
		s := newSheet()
		for range bits {
			s.fixed(0, nil)
		}
		s.fixed(1, nil)
		used := (10*(bits+1) + 7) / 8
		tells(t, strconv.Itoa(bits), append(s.Bytes(), 0xff, 0xff), 0, nil, used)
	}
}

// Streams of the library's writer, at each of its levels.
func TestStreamsOfOthers(t *testing.T) {
	r := rand.New(rand.NewSource(4))
	for level := flate.HuffmanOnly; level <= flate.BestCompression; level++ {
		for _, many := range []int{0, 1, 10, 1000, 100000} {
			text := make([]byte, many)
			for i := range text {
				text[i] = byte('a' + r.Intn(1+r.Intn(20)))
				if i > 500 && r.Intn(50) > 0 {
					text[i] = text[i-1-r.Intn(3)*200]
				}
			}
			var out bytes.Buffer
			w, err := flate.NewWriter(&out, level)
			if err != nil {
				t.Fatal(err)
			}
			w.Write(text)
			w.Flush()
			w.Write(text)
			w.Close()
			want := slices.Concat(text, text)
			name := strconv.Itoa(many) + " at level " + strconv.Itoa(level)
			tells(t, name, out.Bytes(), len(want), want, out.Len())
			if many > 0 {
				refuses(t, name, out.Bytes(), len(want)-1, api.ErrLong)
			}
		}
	}
}

func TestMostBelowNought(t *testing.T) {
	for _, most := range []int{-1, -2, math.MinInt} {
		for _, b := range [][]byte{nil, {}, example, {7}, {0xff, 0xff}, example[:3]} {
			refuses(t, strconv.Itoa(most), b, most, api.ErrArg)
		}
	}
}

// Wherever a stream is cut off, bits are wanted that are not left.
func TestShort(t *testing.T) {
	refuses(t, "nil", nil, plenty, api.ErrShort)
	refuses(t, "empty", []byte{}, 0, api.ErrShort)
	r := rand.New(rand.NewSource(5))
	for i := range 300 {
		s := drawSheet(r)
		b := s.Bytes()
		for n := range b {
			refuses(t, strconv.Itoa(i)+" cut at "+strconv.Itoa(n), b[:n], plenty, api.ErrShort)
		}
	}
}

// A block that isn't the last one wants another one.
func TestNoLastBlock(t *testing.T) {
	lits, dists := letters()
	for kind, b := range [][]byte{
		lay(func(s *sheet) { s.stored(0, []byte("ab")) }),
		lay(func(s *sheet) { s.fixed(0, literals("ab")) }),
		lay(func(s *sheet) { s.own(0, lits, dists, literals("ab")) }),
	} {
		refuses(t, strconv.Itoa(kind), b, plenty, api.ErrShort)
	}
}

// Just behind these bits the stream ends: ahead of them stand bytes of nine bits each, until that is an edge.
func TestShortByOneBit(t *testing.T) {
	lits, dists := fixedBooks()
	for _, x := range []struct {
		name string
		lay  func(s *sheet)
	}{
		{"the last bit", func(s *sheet) {}},
		{"the kind", func(s *sheet) { s.Put(1, 1) }},
		{"half the kind", func(s *sheet) { s.Put(1, 1); s.Put(1, 1) }},
		{"how many literals", func(s *sheet) { s.head(1, 2); s.Put(0, 4) }},
		{"more literals than may be, how many distances", func(s *sheet) { s.head(1, 2); s.Put(31, 5); s.Put(15, 4) }},
		{"more of both than may be, how many codes", func(s *sheet) { s.head(1, 2); s.Put(31, 5); s.Put(31, 5); s.Put(7, 3) }},
		{"the last bit of the lengths' codes, which would link", func(s *sheet) {
			s.head(1, 2)
			s.Put(15<<10, 14)
			for range 18 {
				s.Put(1, 3)
			}
			s.Put(1, 2)
		}},
		{"a symbol of lengths", func(s *sheet) { s.ownHead(1, 257, 1, 19, flat()); s.Code(15, 4) }},
		{"no symbol of lengths", func(s *sheet) { s.ownHead(1, 257, 1, 19, some(19, nil)) }},
		{"bits of 16", func(s *sheet) { s.byRuns(257, 1, run{1, 0}); s.symbol(bookOf(flat()), 16); s.Put(1, 1) }},
		{"bits of 17", func(s *sheet) { s.byRuns(257, 1); s.symbol(bookOf(flat()), 17); s.Put(3, 2) }},
		{"bits of 18", func(s *sheet) { s.byRuns(257, 1); s.symbol(bookOf(flat()), 18); s.Put(63, 6) }},
		{"bits of 18, too many", func(s *sheet) {
			s.byRuns(257, 1, run{18, 127}, run{18, 107})
			s.symbol(bookOf(flat()), 18)
			s.Put(63, 6)
		}},
		{"the last length", func(s *sheet) { s.byRuns(257, 1, run{18, 127}, run{18, 108}) }},
		{"a literal", func(s *sheet) { s.head(1, 1); s.Code(0x30>>1, 7) }},
		{"a length's bits", func(s *sheet) { s.fixedOpen(literals("a")); s.symbol(lits, 284); s.Put(15, 4) }},
		{"a distance", func(s *sheet) { s.fixedOpen(literals("a")); s.symbol(lits, 257); s.Code(15, 4) }},
		{"a distance behind 285", func(s *sheet) { s.fixedOpen(literals("a")); s.symbol(lits, 285) }},
		{"a distance's bits", func(s *sheet) {
			s.fixedOpen(literals("a"))
			s.symbol(lits, 257)
			s.symbol(dists, 29)
			s.Put(0xfff, 12)
		}},
		{"the end", func(s *sheet) { s.fixedOpen(literals("a")) }},
	} {
		seen := 0
		for ahead := range 8 {
			s := newSheet()
			s.fixed(0, literals(strings.Repeat("\xff", ahead)))
			x.lay(s)
			if s.bits%8 == 0 {
				seen++
				refuses(t, x.name, s.Bytes(), plenty, api.ErrShort)
			}
		}
		if seen != 1 {
			t.Errorf("%s ends on an edge %d times", x.name, seen)
		}
	}
}

// A few bytes of all kinds of symbols, cut off at each bit.
func TestShortAtEachBit(t *testing.T) {
	lits, dists := letters()
	for ahead := range 8 {
		s := newSheet()
		s.fixed(0, literals(strings.Repeat("\xff", ahead)))
		s.fixed(0, append(literals("abc"), match(40, 1), match(258, 30), match(3, 70)))
		s.drawOwn(rand.New(rand.NewSource(6)), 0)
		s.own(1, lits, dists, append(literals("ab"), match(12, 6)))
		b := s.Bytes()
		tells(t, "whole", b, plenty, s.want, len(b))
		for n := range b {
			refuses(t, strconv.Itoa(ahead)+" ahead, cut at "+strconv.Itoa(n), b[:n], plenty, api.ErrShort)
		}
	}
}

// Each stream is refused as it stands and with bytes behind it: no error waits for bits that aren't there.
func TestForm(t *testing.T) {
	lits, dists := fixedBooks()
	ends := map[int]int{'a': 1, 256: 2, 257: 2}
	twoCodes := []run{{18, 127}, {18, 106}, {1, 0}, {1, 0}} // of 255 and 256
	for _, x := range []struct {
		name string
		lay  func(s *sheet)
	}{
		{"kind 3, the last one", func(s *sheet) { s.head(1, 3) }},
		{"kind 3, not the last one", func(s *sheet) { s.head(0, 3) }},
		{"kind 3 behind a block", func(s *sheet) { s.stored(0, []byte("ab")); s.head(1, 3) }},
		{"the same length again", func(s *sheet) { s.storedAs(2, 2) }},
		{"noughts", func(s *sheet) { s.storedAs(0, 0) }},
		{"the lowest bit not turned", func(s *sheet) { s.storedAs(2, 0xfffd^1) }},
		{"the highest bit not turned", func(s *sheet) { s.storedAs(2, 0xfffd^0x8000) }},
		{"all turned but in another order", func(s *sheet) { s.storedAs(2, 0xfdff) }},
		{"287 literals", func(s *sheet) { s.ownHead(1, 287, 1, 4, make([]int, 19)) }},
		{"288 literals", func(s *sheet) { s.ownHead(1, 288, 30, 4, make([]int, 19)) }},
		{"31 distances", func(s *sheet) { s.ownHead(1, 286, 31, 4, make([]int, 19)) }},
		{"32 distances", func(s *sheet) { s.ownHead(1, 257, 32, 4, make([]int, 19)) }},
		{"287 literals, all else fine", func(s *sheet) { s.ownLengths(some(287, map[int]int{0: 1, 256: 1}), []int{1}) }},
		{"31 distances, all else fine", func(s *sheet) { s.ownLengths(some(257, map[int]int{0: 1, 256: 1}), some(31, nil)) }},
		{"287 literals, codes that link", func(s *sheet) { s.ownHead(1, 287, 1, 19, slices.Repeat([]int{1}, 19)) }},
		{"31 distances, codes that link", func(s *sheet) { s.ownHead(1, 257, 31, 19, slices.Repeat([]int{1}, 19)) }},
		{"16 at once", func(s *sheet) { s.byRuns(257, 1); s.symbol(bookOf(flat()), 16) }},
		{"17 by one too many", func(s *sheet) { s.byRuns(257, 1, run{18, 127}, run{18, 104}, run{17, 3}) }},
		{"18 by one too many", func(s *sheet) { s.byRuns(257, 1, run{18, 127}, run{18, 110}) }},
		{"18 by many too many", func(s *sheet) { s.byRuns(257, 1, run{18, 127}, run{18, 127}) }},
		{"16 by one too many", func(s *sheet) { s.byRuns(257, 1, run{18, 127}, run{18, 106}, run{1, 0}, run{16, 0}) }},
		{"16 by two too many, all else fine", func(s *sheet) { s.byRuns(257, 1, slices.Concat(twoCodes, []run{{16, 0}})...) }},
		{"17 by two too many, all else fine", func(s *sheet) { s.byRuns(257, 1, slices.Concat(twoCodes, []run{{17, 0}})...) }},
		{"18 by ten too many, all else fine", func(s *sheet) { s.byRuns(257, 1, slices.Concat(twoCodes, []run{{18, 0}})...) }},
		{"17 by one too many, all else fine", func(s *sheet) { s.byRuns(257, 2, slices.Concat(twoCodes, []run{{17, 0}})...) }},
		{"no symbol of lengths at all", func(s *sheet) { s.ownHead(1, 257, 1, 19, make([]int, 19)); s.Put(0, 1) }},
		{"no such symbol of lengths", func(s *sheet) { s.ownHead(1, 257, 1, 19, some(19, map[int]int{8: 1})); s.Put(1, 1) }},
		{"no such literal", func(s *sheet) { s.ownLengths(some(257, map[int]int{256: 1}), []int{0}); s.Put(1, 1) }},
		{"no distance at all", func(s *sheet) { s.ownLengths(some(258, ends), []int{0}); s.Code(0b011, 3); s.Put(0, 1) }},
		{"no such distance", func(s *sheet) { s.ownLengths(some(258, ends), []int{1}); s.Code(0b011, 3); s.Put(1, 1) }},
		{"the symbol 286", func(s *sheet) { s.fixedOpen(literals("a")); s.symbol(lits, 286) }},
		{"the symbol 287", func(s *sheet) { s.fixedOpen(literals("a")); s.symbol(lits, 287) }},
		{"the symbol 286 at once", func(s *sheet) { s.fixedOpen(nil); s.symbol(lits, 286) }},
		{"the distance 30", func(s *sheet) { s.fixedOpen(literals("a")); s.symbol(lits, 257); s.symbol(dists, 30) }},
		{"the distance 31", func(s *sheet) { s.fixedOpen(literals("a")); s.symbol(lits, 257); s.symbol(dists, 31) }},
		{"the distance 30 at once", func(s *sheet) { s.fixedOpen(nil); s.symbol(lits, 285); s.symbol(dists, 30) }},
		{"no end", func(s *sheet) { s.ownLengths(some(257, map[int]int{'a': 1, 'b': 1}), []int{0}) }},
		{"no end, and no other symbol", func(s *sheet) { s.ownLengths(make([]int, 286), make([]int, 30)) }},
		{"no end, by four codes of lengths", func(s *sheet) {
			lengths := some(19, map[int]int{18: 1, 0: 1})
			s.ownHead(1, 257, 1, 4, lengths)
			s.runs(bookOf(lengths), []run{{18, 127}, {18, 107}, {0, 0}, {0, 0}})
		}},
		{"no end, ahead of literals that link", func(s *sheet) { s.ownLengths(some(257, map[int]int{1: 1, 2: 1, 3: 1}), []int{0}) }},
		{"no end, ahead of literals too few", func(s *sheet) { s.ownLengths(some(257, map[int]int{1: 2}), []int{0}) }},
		{"no end, ahead of distances that link", func(s *sheet) { s.ownLengths(some(257, map[int]int{1: 1, 2: 1}), []int{1, 1, 1}) }},
		{"a length of 256 that is a distance's", func(s *sheet) { s.ownLengths(some(257, map[int]int{1: 1, 2: 1}), []int{1}) }},
	} {
		// Whatever may come out: only what would be told ahead of the error could be too long.
		b := lay(x.lay)
		refuses(t, x.name, b, plenty, api.ErrForm)
		refuses(t, x.name+", more behind", append(b, make([]byte, 400)...), plenty, api.ErrForm)
		b = lay(x.lay)
		refuses(t, x.name+", more behind", append(b, bytes.Repeat([]byte{0xff}, 400)...), 2, api.ErrForm)
	}
}

func TestLinked(t *testing.T) {
	fine := some(257, map[int]int{'a': 1, 256: 1})
	for _, x := range []struct {
		name string
		lay  func(s *sheet)
	}{
		{"lengths' codes, too many", func(s *sheet) { s.ownHead(1, 257, 1, 19, some(19, map[int]int{1: 1, 2: 1, 3: 1})) }},
		{"lengths' codes, too few", func(s *sheet) { s.ownHead(1, 257, 1, 19, some(19, map[int]int{1: 1, 2: 2})) }},
		{"lengths' codes, one alone of length 2", func(s *sheet) { s.ownHead(1, 257, 1, 19, some(19, map[int]int{18: 2})) }},
		{"lengths' codes, by four", func(s *sheet) { s.ownHead(1, 257, 1, 4, some(19, map[int]int{16: 1, 17: 1, 18: 1})) }},
		{"literals, too many", func(s *sheet) { s.ownLengths(some(257, map[int]int{1: 1, 2: 1, 256: 1}), []int{0}) }},
		{"literals, too few", func(s *sheet) { s.ownLengths(some(257, map[int]int{1: 1, 256: 2}), []int{0}) }},
		{"literals, the end alone of length 2", func(s *sheet) { s.ownLengths(some(257, map[int]int{256: 2}), []int{0}) }},
		{"distances, too many", func(s *sheet) { s.ownLengths(fine, []int{1, 1, 1}) }},
		{"distances, too few", func(s *sheet) { s.ownLengths(fine, []int{1, 2}) }},
		{"distances, one alone of length 2", func(s *sheet) { s.ownLengths(fine, []int{0, 2}) }},
		{"both", func(s *sheet) { s.ownLengths(some(257, map[int]int{256: 2}), []int{1, 1, 1}) }},
	} {
		refuses(t, x.name, lay(x.lay), plenty, api.ErrLinked)
		refuses(t, x.name+", more behind", append(lay(x.lay), make([]byte, 400)...), 0, api.ErrLinked)
		refuses(t, x.name+", more behind", append(lay(x.lay), bytes.Repeat([]byte{0xff}, 400)...), 0, api.ErrLinked)
	}
}

// No distance, or one alone of length 1, is fine while no other one is asked for.
func TestFewDistances(t *testing.T) {
	lits := bookOf(some(258, map[int]int{'a': 1, 256: 2, 257: 2}))
	s := newSheet()
	s.own(1, lits, bookOf([]int{0}), literals("aaa"))
	tells(t, "none", s.Bytes(), 3, []byte("aaa"), len(s.Bytes()))
	s = newSheet()
	s.own(1, lits, bookOf([]int{0, 0, 1}), append(literals("aaa"), match(3, 3)))
	tells(t, "one", s.Bytes(), 6, []byte("aaaaaa"), len(s.Bytes()))
}

func TestDistanceAtTheFirstByte(t *testing.T) {
	for _, distance := range []int{1, 2, 3, 5, 32768} {
		b := lay(func(s *sheet) { s.fixed(1, []item{match(3, distance)}) })
		for _, most := range []int{0, 1, 3, plenty} {
			refuses(t, strconv.Itoa(distance), b, most, api.ErrDistance)
		}
	}
	b := lay(func(s *sheet) { s.fixed(0, literals("ab")); s.stored(0, []byte("c")); s.fixed(1, []item{match(3, 4)}) })
	refuses(t, "one ahead of the first block", b, plenty, api.ErrDistance)
	refuses(t, "one ahead of the first block, and too many", b, 3, api.ErrDistance)
}

func TestLong(t *testing.T) {
	lits, dists := letters()
	for _, x := range []struct {
		name string
		lay  func(s *sheet)
		want string
	}{
		{"a literal", func(s *sheet) { s.fixed(1, literals("a")) }, "a"},
		{"kind 0", func(s *sheet) { s.stored(1, []byte("abc")) }, "abc"},
		{"kind 0 behind another", func(s *sheet) { s.stored(0, []byte("abc")); s.stored(1, []byte("de")) }, "abcde"},
		{"a match", func(s *sheet) { s.fixed(1, append(literals("ab"), match(5, 2))) }, "abababa"},
		{"kind 2", func(s *sheet) { s.own(1, lits, dists, append(literals("ab"), match(3, 1), match(3, 5))) }, "abbbbabb"},
	} {
		b := lay(x.lay)
		tells(t, x.name, b, len(x.want), []byte(x.want), len(b))
		tells(t, x.name, b, len(x.want)+1, []byte(x.want), len(b))
		for most := range len(x.want) {
			refuses(t, x.name+" with "+strconv.Itoa(most), b, most, api.ErrLong)
		}
	}
}

// ErrLong is told where the byte is that is one too many, ahead of all that stands behind it.
func TestWhichErrorIsFirst(t *testing.T) {
	fixedLits, fixedDists := fixedBooks()
	for _, x := range []struct {
		name string
		most int
		want api.Errno
		lay  func(s *sheet)
	}{
		{"a byte too many, then the kind 3", 1, api.ErrLong, func(s *sheet) { s.fixed(0, literals("ab")); s.head(1, 3) }},
		{"a byte too many, then nothing", 1, api.ErrLong, func(s *sheet) { s.fixedOpen(literals("ab")) }},
		{"a match too long, then the symbol 286", 3, api.ErrLong, func(s *sheet) {
			s.fixedOpen(append(literals("a"), match(3, 1)))
			s.symbol(fixedLits, 286)
		}},
		{"a match too long, then nothing", 3, api.ErrLong, func(s *sheet) { s.fixedOpen(append(literals("a"), match(3, 1))) }},
		{"a match too long, a distance that is none", 0, api.ErrForm, func(s *sheet) {
			s.fixedOpen(nil)
			s.symbol(fixedLits, 285)
			s.symbol(fixedDists, 31)
		}},
		{"a match too long, a distance not there yet", 1, api.ErrShort, func(s *sheet) { s.fixedOpen(literals("\xff")); s.symbol(fixedLits, 285) }},
		{"a match too long and too far", 1, api.ErrDistance, func(s *sheet) { s.fixedOpen(append(literals("a"), match(3, 2))) }},
		{"kind 0, no turned length, too many", 0, api.ErrShort, func(s *sheet) { s.head(1, 0); s.Align(); s.Put(9, 16); s.Put(0xf6, 8) }},
		{"kind 0, another turned length, too many", 0, api.ErrForm, func(s *sheet) { s.storedAs(9, 9) }},
		{"kind 0, too many and not there", 1, api.ErrLong, func(s *sheet) { s.storedAs(2, 0xfffd) }},
		{"kind 0, just as many and not there", 2, api.ErrShort, func(s *sheet) { s.storedAs(2, 0xfffd); s.Put('a', 8) }},
		{"lengths' codes that link, ahead of codes that are none", plenty, api.ErrLinked, func(s *sheet) {
			s.ownHead(1, 257, 1, 19, slices.Repeat([]int{7}, 19))
		}},
		{"literals that link ahead of distances that link", plenty, api.ErrLinked, func(s *sheet) {
			s.ownLengths(some(257, map[int]int{256: 3}), []int{3})
		}},
		{"too many literals ahead of codes that link", plenty, api.ErrForm, func(s *sheet) { s.ownHead(1, 288, 1, 19, slices.Repeat([]int{1}, 19)) }},
	} {
		refuses(t, x.name, lay(x.lay), x.most, x.want)
	}
}

// These are told though the stream has no bit more; ahead of them stand bytes of nine bits each,
// until their end is an edge.
func TestToldAtTheEnd(t *testing.T) {
	lits, dists := fixedBooks()
	beyond := []run{{18, 127}, {18, 108}} // one less than there are to be
	for _, x := range []struct {
		name string
		want api.Errno
		lay  func(s *sheet)
	}{
		{"kind 3", api.ErrForm, func(s *sheet) { s.head(0, 3) }},
		{"287 literals", api.ErrForm, func(s *sheet) { s.head(1, 2); s.Put(30, 14) }},
		{"31 distances", api.ErrForm, func(s *sheet) { s.head(1, 2); s.Put(30<<5, 14) }},
		{"lengths' codes", api.ErrLinked, func(s *sheet) { s.ownHead(1, 257, 1, 4, some(19, map[int]int{0: 2})) }},
		{"lengths' codes that are fine", api.ErrShort, func(s *sheet) { s.ownHead(1, 257, 1, 4, some(19, map[int]int{0: 1})) }},
		{"16 at once", api.ErrForm, func(s *sheet) { s.byRuns(257, 1); s.symbol(bookOf(flat()), 16) }},
		{"17 at once", api.ErrShort, func(s *sheet) { s.byRuns(257, 1); s.symbol(bookOf(flat()), 17) }},
		{"18 at once", api.ErrShort, func(s *sheet) { s.byRuns(257, 1); s.symbol(bookOf(flat()), 18) }},
		{"16 behind a length", api.ErrShort, func(s *sheet) { s.byRuns(257, 1, run{1, 0}); s.symbol(bookOf(flat()), 16) }},
		{"16 that goes beyond", api.ErrShort, func(s *sheet) { s.byRuns(257, 1, beyond...); s.symbol(bookOf(flat()), 16) }},
		{"17 that goes beyond", api.ErrShort, func(s *sheet) { s.byRuns(257, 1, beyond...); s.symbol(bookOf(flat()), 17) }},
		{"18 that goes beyond", api.ErrShort, func(s *sheet) { s.byRuns(257, 1, beyond...); s.symbol(bookOf(flat()), 18) }},
		{"17 beyond", api.ErrForm, func(s *sheet) { s.byRuns(257, 1, append(beyond, run{17, 0})...) }},
		{"no end", api.ErrForm, func(s *sheet) { s.byRuns(257, 1, append(beyond, run{1, 0})...) }},
		{"literals", api.ErrLinked, func(s *sheet) { s.ownLengths(some(257, map[int]int{256: 2}), []int{1}) }},
		{"distances", api.ErrLinked, func(s *sheet) { s.ownLengths(some(257, map[int]int{256: 1}), []int{2}) }},
		{"lengths that are fine", api.ErrShort, func(s *sheet) { s.ownLengths(some(257, map[int]int{256: 1}), []int{1}) }},
		{"no such literal", api.ErrForm, func(s *sheet) { s.ownLengths(some(257, map[int]int{256: 1}), []int{1}); s.Put(1, 1) }},
		{"the symbol 287", api.ErrForm, func(s *sheet) { s.fixedOpen(nil); s.symbol(lits, 287) }},
		{"the distance 31", api.ErrForm, func(s *sheet) { s.fixedOpen(nil); s.symbol(lits, 257); s.symbol(dists, 31) }},
		{"too far", api.ErrDistance, func(s *sheet) { s.fixedOpen([]item{match(3, 9)}) }},
		{"too long", api.ErrLong, func(s *sheet) { s.fixedOpen(literals("12345678")) }},
	} {
		seen := 0
		for ahead := range 8 {
			s := newSheet()
			s.fixed(0, literals(strings.Repeat("\xff", ahead)))
			x.lay(s)
			if s.bits%8 == 0 {
				seen++
				refuses(t, x.name, s.Bytes(), 7, x.want)
			}
		}
		if seen != 1 {
			t.Errorf("%s ends on an edge %d times", x.name, seen)
		}
	}
}

// W6 and P4.2: b and the room behind it stay, and what is answered has nothing in common with it.
func TestNothingShared(t *testing.T) {
	lits, dists := letters()
	s := newSheet()
	s.stored(0, []byte("abcabc"))
	s.fixed(0, append(literals("xyz"), match(9, 4)))
	s.own(1, lits, dists, append(literals("ab"), match(258, 1)))
	for _, b := range [][]byte{s.Bytes(), example} {
		wide := append(bytes.Clone(b), bytes.Repeat([]byte{0xa5}, 50)...)
		was := bytes.Clone(wide)
		first, n, e := Bytes(wide[:len(b)], plenty)
		second, _, _ := Bytes(wide[:len(b)], plenty)
		if e != api.OK || n != len(b) || !bytes.Equal(wide, was) {
			t.Fatal("what was handed in is another one", e, n)
		}
		want := bytes.Clone(first)
		scribble(wide)
		if !bytes.Equal(first, want) || !bytes.Equal(second, want) {
			t.Error("what was answered hangs on what was handed in")
		}
		copy(wide, was)
		scribble(first)
		if !bytes.Equal(wide, was) || !bytes.Equal(second, want) {
			t.Error("what was answered is shared")
		}
		if third, _, _ := Bytes(wide[:len(b)], plenty); !bytes.Equal(third, want) {
			t.Error("what was answered was kept")
		}
	}
}

// scribble writes over all that a slice can reach.
func scribble(p []byte) {
	p = p[:cap(p)]
	for i := range p {
		p[i] ^= 0x5a
	}
}

func TestErrorsChangeNothing(t *testing.T) {
	for _, b := range [][]byte{{7, 1, 2}, example[:6], nil} {
		wide := append(bytes.Clone(b), 9, 9, 9, 9)
		was := bytes.Clone(wide)
		for range 2 {
			if _, _, e := Bytes(wide[:len(b)], 9); e == api.OK || !bytes.Equal(wide, was) {
				t.Error(b, e, wide)
			}
		}
	}
}

// P4.2: neither the answer nor what is made on the way to an error goes beyond most.
func TestNoMoreThanMost(t *testing.T) {
	r := rand.New(rand.NewSource(7))
	for range 300 {
		s := drawSheet(r)
		for _, most := range []int{len(s.want), len(s.want) + 1, len(s.want) + 3} {
			if p, _, e := Bytes(s.Bytes(), most); e != api.OK || cap(p) > most {
				t.Errorf("error %d, %d bytes with room for %d, at most %d", e, len(p), cap(p), most)
			}
		}
	}
	items := literals("a")
	for range 4000 {
		items = append(items, match(258, 1))
	}
	bomb := lay(func(s *sheet) { s.fixed(1, items) })
	large := lay(func(s *sheet) { s.storedAs(0xffff, 0) })
	for _, x := range []struct {
		name string
		b    []byte
		most int
	}{{"matches", bomb, 100}, {"matches", bomb, 0}, {"bytes as they stand", large, 0xfffe}, {"bytes as they stand", large, 0}} {
		var before, after runtime.MemStats
		runtime.ReadMemStats(&before)
		refuses(t, x.name, x.b, x.most, api.ErrLong)
		runtime.ReadMemStats(&after)
		if made := after.TotalAlloc - before.TotalAlloc; made > 60000 {
			t.Errorf("%s: %d bytes were made, where %d may come out", x.name, made, x.most)
		}
	}
	tells(t, "all of it", bomb, 1+4000*258, bytes.Repeat([]byte("a"), 1+4000*258), len(bomb))
}

// W1 and W2: any bytes have an answer, and always the same one.
func TestAnyBytes(t *testing.T) {
	r := rand.New(rand.NewSource(8))
	for range 5000 {
		b := make([]byte, r.Intn(300))
		r.Read(b)
		if len(b) > 0 {
			b[0] = b[0]&^6 | byte(r.Intn(3)<<1)
		}
		p, n, e := Bytes(b, 1000)
		q, m, f := Bytes(b, 1000)
		if !bytes.Equal(p, q) || n != m || e != f {
			t.Fatalf("%x tells two things", b)
		}
		if e != api.OK && (p != nil || n != 0) || n > len(b) || len(p) > 1000 {
			t.Fatalf("%x: %d bytes, %d used, error %d", b, len(p), n, e)
		}
	}
}
