package deflate

import (
	mathbits "math/bits"
	"slices"
)

const (
	shortest = 3 // bytes of a match
	longest  = 258
	farthest = 1 << 15 // bytes that a match reaches back

	// nowhere is farther back than a match reaches, from any place.
	nowhere = -farthest - 1

	// mostSteps bounds how long one looks for a match. Of bytes that come again k bytes
	// behind, up to 64, it is enough to come to them: a chain has no place twice.
	mostSteps = 128
)

// token is a match, or, where its length is 0, one byte as it is.
type token struct {
	literal          byte
	length, distance int
}

// size is how many bytes a token tells.
func (t token) size() int { return max(1, t.length) }

// finder goes through bytes and finds what came already. Places whose first three bytes are
// the same stand in one chain, the last one first.
type finder struct {
	p     []byte
	at    int   // what is ahead was told
	known int   // what is ahead stands in chains
	heads []int // of each chain its last place
	ahead []int // of a place the one ahead of it in its chain; only as far as a match reaches
	shift int   // by which a key becomes the number of a chain
}

// newFinder has no more chains and places than there are bytes to keep.
func newFinder(p []byte) *finder {
	n := mathbits.Len(uint(min(len(p), farthest-1)))
	return &finder{
		p:     p,
		heads: slices.Repeat([]int{nowhere}, 1<<n),
		ahead: make([]int, 1<<n),
		shift: 32 - n,
	}
}

// done tells whether all bytes were told.
func (f *finder) done() bool { return f.at == len(f.p) }

// next is what is told next. A match waits, if the next place has a longer one.
func (f *finder) next() token {
	t := f.match(f.at)
	f.learn(f.at + 1)
	if t.length > 0 && t.length < longest && f.match(f.at+1).length > t.length {
		t = f.single(f.at)
	}
	f.at += t.size()
	f.learn(f.at)
	return t
}

func (f *finder) single(at int) token { return token{literal: f.p[at]} }

// match is the longest match at a place, the nearest of these; or the byte there, if none is.
// All that is ahead of the place, and nothing else, stands in chains.
func (f *finder) match(at int) token {
	most := min(longest, len(f.p)-at)
	if most < shortest {
		return f.single(at)
	}
	length, distance := shortest-1, 0
	from := f.heads[f.chain(at)]
	for steps := 0; steps < mostSteps && at-from <= farthest && length < most; steps++ {
		if n := f.same(from, at, most); n > length {
			length, distance = n, at-from
		}
		from = f.ahead[f.slot(from)]
	}
	if distance == 0 {
		return f.single(at)
	}
	return token{length: length, distance: distance}
}

// same is how many bytes from two places on are the same, at most so many.
func (f *finder) same(from, at, most int) int {
	n := 0
	for n < most && f.p[from+n] == f.p[at+n] {
		n++
	}
	return n
}

// learn puts the places ahead of end into chains; the last two have no three bytes.
func (f *finder) learn(end int) {
	for end = min(end, len(f.p)-shortest+1); f.known < end; f.known++ {
		chain := f.chain(f.known)
		f.ahead[f.slot(f.known)] = f.heads[chain]
		f.heads[chain] = f.known
	}
}

// chain is the number of the chain of a place's first three bytes. Others may share it.
func (f *finder) chain(at int) int {
	b := f.p[at : at+shortest]
	key := uint32(b[0]) | uint32(b[1])<<8 | uint32(b[2])<<16
	// By 2^32 and the golden ratio: keys that are near each other come to lie far apart.
	return int(key * 0x9e3779b1 >> f.shift)
}

// slot is where the place ahead of one is kept; a later place takes it over when it is
// farther back than a match reaches.
func (f *finder) slot(at int) int { return at & (len(f.ahead) - 1) }
