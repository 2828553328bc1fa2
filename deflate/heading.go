package deflate

import (
	"slices"

	"rubricator/bits"
	"rubricator/huff"
)

const (
	leastLiterals  = 257 // lengths that are told at least
	leastDistances = 1
	leastOrder     = 4

	longestLengthsCode = 7
)

// The symbols by which several lengths of codes are told at once; those below tell one.
const (
	sameAgain   = 16
	noughts     = 17
	manyNoughts = 18
)

// lengthsOrder is the symbols of lengths in the order in which the lengths of their codes come.
var lengthsOrder = [19]int{sameAgain, noughts, manyNoughts, 0, 8, 7, 9, 6, 10, 5, 11, 4, 12, 3, 13, 2, 14, 1, 15}

// heading is what a block of kind 2 tells of its codes, ahead of its symbols.
type heading struct {
	literals, distances int // how many lengths there are of each
	order               int // how many of lengthsOrder are told
	steps               []step
	often               []int // how often the steps need each symbol
	codes               codes // of the steps
}

func newHeading(k *book) *heading {
	literals := told(k.literals.lengths, leastLiterals)
	distances := told(k.distances.lengths, leastDistances)
	h := &heading{literals: len(literals), distances: len(distances)}
	h.steps = lengthsSteps(slices.Concat(literals, distances))
	h.often = make([]int, len(lengthsOrder))
	for _, s := range h.steps {
		h.often[s.symbol]++
	}
	h.codes = bestCodes(h.often, longestLengthsCode)
	h.order = len(lengthsOrder)
	for h.order > leastOrder && h.codes.lengths[lengthsOrder[h.order-1]] == 0 {
		h.order--
	}
	return h
}

// told is lengths without the noughts at their end, but at least so many.
func told(lengths []int, least int) []int {
	n := len(lengths)
	for n > least && lengths[n-1] == 0 {
		n--
	}
	return lengths[:n]
}

// lengthsSteps tells lengths, each step as many as it can.
func lengthsSteps(lengths []int) []step {
	var steps []step
	for at := 0; at < len(lengths); {
		times := 1
		for at+times < len(lengths) && lengths[at+times] == lengths[at] {
			times++
		}
		again := at > 0 && lengths[at-1] == lengths[at]
		s, many := lengthsStep(lengths[at], times, again)
		steps = append(steps, s)
		at += many
	}
	return steps
}

// lengthsStep is the step that tells the most of a length that comes so many times, and how
// many it tells; again: the one ahead was the same.
func lengthsStep(length, times int, again bool) (step, int) {
	switch {
	case length == 0 && times >= 11:
		n := min(times, 138)
		return step{symbol: manyNoughts, more: n - 11, bits: 7}, n
	case length == 0 && times >= 3:
		n := min(times, 10)
		return step{symbol: noughts, more: n - 3, bits: 3}, n
	case again && times >= 3:
		n := min(times, 6)
		return step{symbol: sameAgain, more: n - 3, bits: 2}, n
	}
	return step{symbol: length}, 1
}

// cost is how many bits the heading needs.
func (h *heading) cost() int {
	sum := 14 + 3*h.order + huff.Cost(h.often, h.codes.lengths)
	for _, s := range h.steps {
		sum += s.bits
	}
	return sum
}

func (h *heading) lay(w *bits.Writer) {
	w.Put(h.literals-leastLiterals, 5)
	w.Put(h.distances-leastDistances, 5)
	w.Put(h.order-leastOrder, 4)
	for i := range h.order {
		w.Put(h.codes.lengths[lengthsOrder[i]], 3)
	}
	for _, s := range h.steps {
		h.codes.lay(w, s)
	}
}
