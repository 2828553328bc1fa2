package deflate

import (
	mathbits "math/bits"
	"slices"

	"rubricator/bits"
	"rubricator/huff"
)

const (
	endOfBlock    = 256 // the symbol of it; those below are bytes, those above lengths
	mostLiterals  = 286 // symbols of literals that mean something
	mostDistances = 30  // symbols of distances that mean something
	longestCode   = 15

	// mostTokens is how many tokens share their codes. More would need fewer headings,
	// fewer would follow closer how often each symbol comes.
	mostTokens = 1 << 14
)

// block is some tokens, what they tell, and how often they need each symbol.
type block struct {
	tokens              []token
	raw                 []byte
	last                bool
	literals, distances []int
	more                int // bits behind symbols
}

// nextBlock takes tokens, as many as are left for one block.
func nextBlock(f *finder) *block {
	b := &block{literals: make([]int, mostLiterals), distances: make([]int, mostDistances)}
	from := f.at
	for len(b.tokens) < mostTokens && !f.done() {
		b.take(f.next())
	}
	b.literals[endOfBlock]++
	b.raw = f.p[from:f.at]
	b.last = f.done()
	return b
}

func (b *block) take(t token) {
	b.tokens = append(b.tokens, t)
	if t.length == 0 {
		b.literals[t.literal]++
		return
	}
	length, distance := lengthStep(t.length), distanceStep(t.distance)
	b.literals[length.symbol]++
	b.distances[distance.symbol]++
	b.more += length.bits + distance.bits
}

// lay lays the block in the kind that needs the fewest bits.
func (b *block) lay(w *bits.Writer) {
	fixed, own := fixedBook(), b.ownBook()
	h := newHeading(own)
	stored, byFixed, byOwn := b.storedCost(), b.cost(fixed), h.cost()+b.cost(own)
	switch min(stored, byFixed, byOwn) {
	case byFixed:
		begin(w, b.last, 1)
		b.symbols(w, fixed)
	case byOwn:
		begin(w, b.last, 2)
		h.lay(w)
		b.symbols(w, own)
	default:
		store(w, b.raw, b.last)
	}
}

// storedCost is how many bits, behind the first three, kind 0 needs at most: on an edge five
// follow up to the next one, elsewhere it may be seven.
func (b *block) storedCost() int {
	return 8*storedSize(len(b.raw)) - 3 - 5 + 7
}

// cost is how many bits the symbols need.
func (b *block) cost(k *book) int {
	return huff.Cost(b.literals, k.literals.lengths) + huff.Cost(b.distances, k.distances.lengths) + b.more
}

// symbols lays the tokens and the end of the block.
func (b *block) symbols(w *bits.Writer, k *book) {
	for _, t := range b.tokens {
		if t.length == 0 {
			k.literals.lay(w, step{symbol: int(t.literal)})
			continue
		}
		k.literals.lay(w, lengthStep(t.length))
		k.distances.lay(w, distanceStep(t.distance))
	}
	k.literals.lay(w, step{symbol: endOfBlock})
}

// step is a symbol and the bits behind it, as a number and how many.
type step struct{ symbol, more, bits int }

// lengthStep tells how long a match is; the greatest length has a symbol out of step.
func lengthStep(length int) step {
	if length == longest {
		return step{symbol: mostLiterals - 1}
	}
	s := split(length-shortest, 3)
	s.symbol += endOfBlock + 1
	return s
}

// distanceStep tells how far back a match begins.
func distanceStep(distance int) step { return split(distance-1, 2) }

// split has the highest keep bits of v, and how many follow, in the symbol, the others behind it.
func split(v, keep int) step {
	n := max(0, mathbits.Len(uint(v))-keep)
	return step{symbol: n<<(keep-1) + v>>n, more: v & (1<<n - 1), bits: n}
}

// codes is the codes of some symbols.
type codes struct{ lengths, numbers []int }

// newCodes takes lengths that fill no more than full, so that Codes has nothing against them.
func newCodes(lengths []int) codes {
	numbers, _ := huff.Codes(lengths)
	return codes{lengths: lengths, numbers: numbers}
}

// bestCodes needs symbols few enough for codes up to most, and none too often, so that Lengths
// has nothing against them.
func bestCodes(often []int, most int) codes {
	lengths, _ := huff.Lengths(often, most)
	return newCodes(lengths)
}

func (c codes) lay(w *bits.Writer, s step) {
	w.Code(c.numbers[s.symbol], c.lengths[s.symbol])
	w.Put(s.more, s.bits)
}

// book is the codes of a block.
type book struct{ literals, distances codes }

// fixedBook is the codes of kind 1.
func fixedBook() *book {
	literals := slices.Concat(repeat(8, 144), repeat(9, 112), repeat(7, 24), repeat(8, 8))
	return &book{literals: newCodes(literals), distances: newCodes(repeat(5, mostDistances))}
}

func repeat(length, times int) []int { return slices.Repeat([]int{length}, times) }

// ownBook is the codes that need the fewest bits for just these symbols.
func (b *block) ownBook() *book {
	return &book{
		literals:  bestCodes(b.literals, longestCode),
		distances: bestCodes(b.distances, longestCode),
	}
}
