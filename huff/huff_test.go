package huff

import (
	"container/heap"
	"math"
	"math/rand"
	"slices"
	"sort"
	"strconv"
	"strings"
	"testing"

	"rubricator/api"
)

// filled is how much lengths fill, by the chapter's words.
func filled(lengths []int) int {
	sum := 0
	for _, n := range lengths {
		if n > 0 {
			sum += int(math.Pow(2, float64(15-n)))
		}
	}
	return sum
}

// given is P3.1 word by word: symbols in order, each the next number, doubled from length to length.
func given(lengths []int) []int {
	codes := make([]int, len(lengths))
	free := 0
	for n := 1; n <= 15; n++ {
		free *= 2
		for symbol, m := range lengths {
			if m == n {
				codes[symbol] = free
				free++
			}
		}
	}
	return codes
}

// spelt is a code as its bits, the highest first.
func spelt(code, length int) string {
	text := strconv.FormatInt(int64(code), 2)
	if length == 0 {
		return ""
	}
	return strings.Repeat("0", length-len(text)) + text
}

// fullLengths draws lengths that fill just full: a code is parted in two, again and again.
func fullLengths(r *rand.Rand, parts int) []int {
	lengths := []int{1, 1}
	for range parts {
		i := r.Intn(len(lengths))
		if lengths[i] < 15 {
			lengths[i]++
			lengths = append(lengths, lengths[i])
		}
	}
	r.Shuffle(len(lengths), func(i, k int) { lengths[i], lengths[k] = lengths[k], lengths[i] })
	return lengths
}

// holed puts symbols without a code between the others, at most so many.
func holed(r *rand.Rand, numbers []int, holes int) []int {
	for range r.Intn(holes + 1) {
		numbers = slices.Insert(numbers, r.Intn(len(numbers)+1), 0)
	}
	return numbers
}

func repeat(n, times int) []int {
	return slices.Repeat([]int{n}, times)
}

// deepest is lengths 1, 2, .. 14, 15, 15: they fill just full with all lengths there are.
func deepest() []int {
	var l []int
	for n := 1; n <= 15; n++ {
		l = append(l, n)
	}
	return append(l, 15)
}

// P3.1
func TestCodesOfWhatIsKnown(t *testing.T) {
	for _, x := range []struct{ lengths, codes []int }{
		{[]int{2, 1, 3, 3}, []int{2, 0, 6, 7}},
		{[]int{3, 3, 3, 3, 3, 2, 4, 4}, []int{2, 3, 4, 5, 6, 0, 14, 15}},
		{nil, nil},
		{[]int{}, nil},
		{[]int{0}, []int{0}},
		{[]int{0, 0, 0}, []int{0, 0, 0}},
		{[]int{1}, []int{0}},
		{[]int{0, 7, 0}, []int{0, 0, 0}},
		{[]int{15}, []int{0}},
		{[]int{1, 1}, []int{0, 1}},
		{[]int{0, 1, 0, 1}, []int{0, 0, 0, 1}},
		{[]int{15, 1}, []int{1 << 14, 0}},
		{[]int{15, 15, 1, 3}, []int{5 << 12, 5<<12 + 1, 0, 4}},
		{[]int{4, 4, 2}, []int{4, 5, 0}},
		{deepest(), []int{0, 2, 6, 14, 30, 62, 126, 254, 510, 1022, 2046, 4094, 8190, 16382, 32766, 32767}},
	} {
		codes, e := Codes(x.lengths)
		if e != api.OK || !slices.Equal(codes, x.codes) {
			t.Error(x.lengths, codes, e)
		}
	}
}

// P3.1
func TestCodesOfDrawnLengths(t *testing.T) {
	r := rand.New(rand.NewSource(31))
	fine, over := 0, 0
	for range 3000 {
		lengths := make([]int, r.Intn(321))
		low := 1 + r.Intn(15)
		for i := range lengths {
			if r.Intn(3) > 0 {
				lengths[i] = low + r.Intn(16-low)
			}
		}
		if filled(lengths) > 1<<15 {
			over++
			if codes, e := Codes(lengths); e != api.ErrLinked || codes != nil {
				t.Fatal(lengths, codes, e)
			}
			continue
		}
		fine++
		if codes, e := Codes(lengths); e != api.OK || !slices.Equal(codes, given(lengths)) {
			t.Fatal(lengths, codes, e)
		}
	}
	for range 1000 {
		lengths := holed(r, fullLengths(r, r.Intn(250)), 60)
		if codes, e := Codes(lengths); e != api.OK || !slices.Equal(codes, given(lengths)) {
			t.Fatal(lengths, codes, e)
		}
	}
	if fine < 500 || over < 500 {
		t.Error("drawn one-sidedly:", fine, over)
	}
}

// P3.1, P3.2
func TestWhatCodesAndNewRefuse(t *testing.T) {
	with := func(l []int, more ...int) []int { return append(slices.Clone(l), more...) }
	for i, x := range []struct {
		lengths    []int
		codes, dec api.Errno
	}{
		{[]int{-1}, api.ErrArg, api.ErrArg},
		{[]int{16}, api.ErrArg, api.ErrArg},
		{[]int{1, 1, -1}, api.ErrArg, api.ErrArg},
		{[]int{16, 1, 1}, api.ErrArg, api.ErrArg},
		{[]int{math.MaxInt}, api.ErrArg, api.ErrArg},
		{[]int{math.MinInt}, api.ErrArg, api.ErrArg},
		{[]int{0, 15}, api.OK, api.ErrLinked},
		{make([]int, 320), api.OK, api.OK},
		{make([]int, 321), api.ErrArg, api.ErrArg},
		{make([]int, 100000), api.ErrArg, api.ErrArg},
		{with(deepest(), make([]int, 304)...), api.OK, api.OK},
		{with(deepest(), make([]int, 305)...), api.ErrArg, api.ErrArg},
		// What is no lengths is told ahead of what fills too much.
		{[]int{1, 1, 1, 16}, api.ErrArg, api.ErrArg},
		{[]int{1, 1, 1, -1}, api.ErrArg, api.ErrArg},
		{repeat(1, 321), api.ErrArg, api.ErrArg},
		// More than full.
		{[]int{1, 1, 1}, api.ErrLinked, api.ErrLinked},
		{[]int{1, 1, 15}, api.ErrLinked, api.ErrLinked},
		{with(deepest(), 15), api.ErrLinked, api.ErrLinked},
		{with(deepest(), 1), api.ErrLinked, api.ErrLinked},
		{repeat(1, 320), api.ErrLinked, api.ErrLinked},
		{repeat(8, 257), api.ErrLinked, api.ErrLinked},
		{repeat(8, 320), api.ErrLinked, api.ErrLinked},
		{[]int{1, 2, 2, 2}, api.ErrLinked, api.ErrLinked},
		// Just full.
		{[]int{1, 1}, api.OK, api.OK},
		{[]int{0, 1, 0, 1, 0}, api.OK, api.OK},
		{repeat(8, 256), api.OK, api.OK},
		{deepest(), api.OK, api.OK},
		// Less than full.
		{deepest()[:15], api.OK, api.ErrLinked},
		{deepest()[1:], api.OK, api.ErrLinked},
		{repeat(8, 255), api.OK, api.ErrLinked},
		{repeat(15, 320), api.OK, api.ErrLinked},
		{[]int{2, 2}, api.OK, api.ErrLinked},
		{[]int{1, 2}, api.OK, api.ErrLinked},
		{[]int{2, 1, 0}, api.OK, api.ErrLinked},
		{[]int{2, 2, 2}, api.OK, api.ErrLinked},
		// None at all, or one alone.
		{nil, api.OK, api.OK},
		{[]int{}, api.OK, api.OK},
		{[]int{0}, api.OK, api.OK},
		{[]int{1}, api.OK, api.OK},
		{[]int{0, 0, 1, 0}, api.OK, api.OK},
		{[]int{2}, api.OK, api.ErrLinked},
		{[]int{0, 2, 0}, api.OK, api.ErrLinked},
		{[]int{15}, api.OK, api.ErrLinked},
	} {
		codes, e := Codes(x.lengths)
		if e != x.codes || e != api.OK && codes != nil || e == api.OK && len(codes) != len(x.lengths) {
			t.Error(i, codes, e)
		}
		d, e := New(x.lengths)
		if e != x.dec || (d != nil) != (e == api.OK) {
			t.Error(i, d, e)
		}
	}
	for n := 2; n <= 15; n++ {
		if d, e := New([]int{0, n}); e != api.ErrLinked || d != nil {
			t.Error("one alone:", n, d, e)
		}
	}
}

// reading is P3.2's Next word by word: codes as texts, and what has come as one.
type reading struct {
	symbols map[string]int
	begun   map[string]int
	sofar   string
}

func newReading(lengths []int) *reading {
	m := &reading{symbols: map[string]int{}, begun: map[string]int{}}
	for symbol, code := range given(lengths) {
		if lengths[symbol] == 0 {
			continue
		}
		text := spelt(code, lengths[symbol])
		m.symbols[text] = symbol
		for i := 1; i < len(text); i++ {
			m.begun[text[:i]]++
		}
	}
	return m
}

func (m *reading) next(bit int) int {
	if bit == 0 {
		m.sofar += "0"
	} else {
		m.sofar += "1"
	}
	if symbol, ok := m.symbols[m.sofar]; ok {
		m.sofar = ""
		return symbol
	}
	if m.begun[m.sofar] > 0 {
		return -1
	}
	m.sofar = ""
	return -2
}

// P3.2
func TestNextOverDrawnBits(t *testing.T) {
	r := rand.New(rand.NewSource(32))
	ones := []int{1, 1, 1, 2, 7, -1, -2, 256, 1 << 32, math.MaxInt, math.MinInt}
	all := [][]int{nil, {0}, {0, 0, 0}, {1}, {0, 1}, {0, 0, 1, 0}, {1, 1}, {0, 1, 0, 1}, deepest(), repeat(8, 256), make([]int, 320)}
	for range 300 {
		all = append(all, holed(r, fullLengths(r, r.Intn(250)), 60))
	}
	for _, lengths := range all {
		d, e := New(lengths)
		if e != api.OK {
			t.Fatal(lengths, e)
		}
		m := newReading(lengths)
		for i := range 2000 {
			bit := r.Intn(2) * ones[r.Intn(len(ones))]
			if got, want := d.Next(bit), m.next(bit); got != want {
				t.Fatal(lengths, i, bit, got, want)
			}
		}
	}
}

// P3.2
func TestNextOfFew(t *testing.T) {
	for _, x := range []struct{ lengths, bits, want []int }{
		{nil, []int{0, 1, 0}, []int{-2, -2, -2}},
		{[]int{0, 0}, []int{1, 0, 1}, []int{-2, -2, -2}},
		{[]int{1}, []int{0, 0, 1, 0, 1, 1, 0}, []int{0, 0, -2, 0, -2, -2, 0}},
		{[]int{0, 0, 1}, []int{-1, 0, 2}, []int{-2, 2, -2}},
		{[]int{1, 1}, []int{0, 1, -5, 9}, []int{0, 1, 1, 1}},
		{[]int{2, 1, 3, 3}, []int{1, 0, 0, 1, 1, 0, 1, 1, 1, 1, 0}, []int{-1, 0, 1, -1, -1, 2, -1, -1, 3, -1, 0}},
		{[]int{2, 1, 3, 3}, []int{-1, 3, math.MinInt, 0}, []int{-1, -1, 3, 1}},
	} {
		d, e := New(x.lengths)
		if e != api.OK {
			t.Fatal(x.lengths, e)
		}
		for i, bit := range x.bits {
			if got := d.Next(bit); got != x.want[i] {
				t.Error(x.lengths, i, bit, got)
			}
		}
	}
}

// P3.2
func TestDecodersAreApart(t *testing.T) {
	a, _ := New([]int{1, 2, 2})
	b, _ := New([]int{1, 2, 2})
	if a.Next(1) != -1 || b.Next(0) != 0 || b.Next(1) != -1 || a.Next(0) != 1 || b.Next(1) != 2 {
		t.Error("one reads what the other is given")
	}
}

// P3.2: what was read before is not to be told from what is read later.
func TestNextBeginsAnew(t *testing.T) {
	lengths := deepest()
	fresh := func(d *Decoder) []int {
		var told []int
		for i := range 40 {
			told = append(told, d.Next(i*i%3))
		}
		return told
	}
	d, _ := New(lengths)
	want := fresh(d)
	for symbol, code := range given(lengths) {
		d, _ := New(lengths)
		for _, c := range spelt(code, lengths[symbol]) {
			d.Next(int(c - '0'))
		}
		if got := fresh(d); !slices.Equal(got, want) {
			t.Error(symbol, got, want)
		}
	}
}

// tried is the least cost of all lengths there are, of counts above 0, two or more.
func tried(often []int, most int) int {
	best := math.MaxInt
	lengths := make([]int, len(often))
	var set func(i int)
	set = func(i int) {
		if i < len(often) {
			for n := 1; n <= most; n++ {
				lengths[i] = n
				set(i + 1)
			}
			return
		}
		if filled(lengths) == 1<<15 {
			cost := 0
			for k, n := range lengths {
				cost += n * often[k]
			}
			best = min(best, cost)
		}
	}
	set(0)
	return best
}

// planned is the least cost too, level by level from the top: at each the commonest symbols
// that have no code yet get some of the open places, and all that are left become a bit longer.
func planned(often []int, most int) int {
	sorted := slices.Clone(often)
	sort.Sort(sort.Reverse(sort.IntSlice(sorted)))
	left := make([]int, len(sorted)+1)
	for i := len(sorted) - 1; i >= 0; i-- {
		left[i] = left[i+1] + sorted[i]
	}
	type state struct{ done, open int }
	now := map[state]int{{0, 1}: 0}
	best := math.MaxInt
	for range most {
		next := map[state]int{}
		for s, cost := range now {
			cost += left[s.done]
			open := 2 * s.open
			for k := 0; k <= min(open, len(sorted)-s.done); k++ {
				to := state{s.done + k, open - k}
				if to.done == len(sorted) && to.open == 0 {
					best = min(best, cost)
				}
				if to.open == 0 || to.open > len(sorted)-to.done {
					continue
				}
				if old, ok := next[to]; !ok || cost < old {
					next[to] = cost
				}
			}
		}
		now = next
	}
	return best
}

type least struct{ sort.IntSlice }

func (l *least) Push(x any) { l.IntSlice = append(l.IntSlice, x.(int)) }
func (l *least) Pop() any {
	last := l.IntSlice[len(l.IntSlice)-1]
	l.IntSlice = l.IntSlice[:len(l.IntSlice)-1]
	return last
}

// unbound is the least cost where lengths may be as great as they like: the two rarest become one.
func unbound(often []int) int {
	h := &least{}
	for _, n := range often {
		if n > 0 {
			heap.Push(h, n)
		}
	}
	cost := 0
	for h.Len() > 1 {
		n := heap.Pop(h).(int) + heap.Pop(h).(int)
		cost += n
		heap.Push(h, n)
	}
	return cost
}

func positive(often []int) []int {
	return slices.DeleteFunc(slices.Clone(often), func(n int) bool { return n == 0 })
}

// lengthsOf asks for lengths and holds them against all of P3.3 but that no others cost less.
func lengthsOf(t *testing.T, often []int, most int) []int {
	t.Helper()
	lengths, e := Lengths(often, most)
	if e != api.OK || len(lengths) != len(often) {
		t.Fatal(often, most, lengths, e)
	}
	for i, n := range lengths {
		if often[i] == 0 && n != 0 || often[i] > 0 && (n < 1 || n > most) {
			t.Fatal(often, most, lengths)
		}
	}
	switch many := len(positive(often)); {
	case many == 1 && slices.Max(lengths) != 1:
		t.Fatal(often, most, lengths)
	case many > 1 && filled(lengths) != 1<<15:
		t.Fatal(often, most, lengths)
	}
	return lengths
}

// P3.3
func TestLengthsOfWhatIsKnown(t *testing.T) {
	for _, x := range []struct {
		often   []int
		most    int
		lengths []int
	}{
		{nil, 1, nil},
		{[]int{}, 15, nil},
		{[]int{0}, 1, []int{0}},
		{[]int{0, 0, 0}, 15, []int{0, 0, 0}},
		{[]int{1}, 1, []int{1}},
		{[]int{1}, 15, []int{1}},
		{[]int{0, 1 << 20, 0}, 7, []int{0, 1, 0}},
		{[]int{1, 1 << 20}, 1, []int{1, 1}},
		{[]int{0, 1, 0, 1, 0}, 15, []int{0, 1, 0, 1, 0}},
		{[]int{1, 2, 4}, 2, []int{2, 2, 1}},
		{[]int{9, 1, 1}, 15, []int{1, 2, 2}},
		{[]int{1, 2, 4, 8}, 3, []int{3, 3, 2, 1}},
		{[]int{1, 2, 4, 8}, 2, []int{2, 2, 2, 2}},
		{[]int{5, 5, 5, 5}, 15, []int{2, 2, 2, 2}},
		{[]int{0, 100, 10, 0, 1, 1000}, 15, []int{0, 2, 3, 0, 3, 1}},
		{[]int{1 << 20, 1 << 20, 1 << 20, 1 << 20}, 15, []int{2, 2, 2, 2}},
	} {
		if lengths := lengthsOf(t, x.often, x.most); !slices.Equal(lengths, x.lengths) {
			t.Error(x.often, x.most, lengths)
		}
	}
}

// P3.3
func TestLengthsOfFewAgainstAll(t *testing.T) {
	r := rand.New(rand.NewSource(33))
	ranges := []int{1, 2, 3, 10, 100, 1000, 1 << 20}
	for range 1500 {
		most := 1 + r.Intn(5)
		used := 2 + r.Intn(min(5, 1<<most-1))
		often := make([]int, used)
		for i := range often {
			often[i] = 1 + r.Intn(ranges[r.Intn(len(ranges))])
		}
		want := tried(often, most)
		often = holed(r, often, 4)
		if lengths := lengthsOf(t, often, most); Cost(often, lengths) != want {
			t.Fatal(often, most, lengths, want)
		}
	}
}

// drawnCounts has up to so many counts above 0, of kinds that differ in how lengths come out.
func drawnCounts(r *rand.Rand, many int) []int {
	often := make([]int, 1+r.Intn(many))
	kind := r.Intn(5)
	for i := range often {
		switch kind {
		case 0:
			often[i] = 1 << 20
		case 1:
			often[i] = 1 + r.Intn(1<<20)
		case 2:
			often[i] = 1 << r.Intn(21)
		case 3:
			often[i] = 1 + r.Intn(4)
		case 4:
			often[i] = int(min(1<<20, 1+math.Pow(1.1+float64(r.Intn(12))/10, float64(i))))
		}
	}
	return often
}

// P3.3
func TestLengthsWhereMostBinds(t *testing.T) {
	r := rand.New(rand.NewSource(34))
	bound := 0
	for range 400 {
		often := drawnCounts(r, 40)
		if len(often) < 2 {
			continue
		}
		most := 1
		for 1<<most < len(often) {
			most++
		}
		most = min(15, most+r.Intn(4))
		want := planned(often, most)
		if want > unbound(often) {
			bound++
		}
		often = holed(r, often, 30)
		if lengths := lengthsOf(t, often, most); Cost(often, lengths) != want {
			t.Fatal(often, most, lengths, want)
		}
	}
	if bound < 100 {
		t.Error("most bound only", bound, "times")
	}
}

// P3.3
func TestLengthsOfMany(t *testing.T) {
	r := rand.New(rand.NewSource(35))
	for range 300 {
		often := holed(r, drawnCounts(r, 290), 30)
		lengths := lengthsOf(t, often, 15)
		cost, free := Cost(often, lengths), unbound(often)
		if len(positive(often)) < 2 {
			continue
		}
		// Where even the free ones need no more than 15, the two are alike; never is less possible.
		if cost < free || slices.Max(lengths) < 15 && cost != free {
			t.Fatal(often, lengths, cost, free)
		}
	}
	for most := 1; most <= 8; most++ {
		often := make([]int, 1<<most)
		for i := range often {
			often[i] = 1 + r.Intn(1<<20)
		}
		if lengths := lengthsOf(t, often, most); !slices.Equal(lengths, repeat(most, len(often))) {
			t.Error(most, lengths)
		}
	}
	lengthsOf(t, repeat(1<<20, 320), 9)
	lengthsOf(t, repeat(1, 320), 15)
	if got, want := Cost(repeat(3, 320), lengthsOf(t, repeat(3, 320), 9)), unbound(repeat(3, 320)); got != want {
		t.Error(got, want)
	}
}

// P3.3: counts that grow as fast as they may make codes longer than 15, if they are let.
func TestLengthsOfCountsThatGrow(t *testing.T) {
	var often []int
	for a, b := 1, 1; a <= 1<<20; a, b = b, a+b {
		often = append(often, a)
	}
	for most := 5; most <= 15; most++ {
		lengths := lengthsOf(t, often, most)
		if got, want := Cost(often, lengths), planned(often, most); got != want || slices.Max(lengths) != most {
			t.Error(most, lengths, got, want)
		}
	}
}

// P3.3
func TestWhatLengthsRefuses(t *testing.T) {
	for i, x := range []struct {
		often []int
		most  int
		want  api.Errno
	}{
		{make([]int, 320), 15, api.OK},
		{make([]int, 321), 15, api.ErrArg},
		{make([]int, 50000), 15, api.ErrArg},
		{[]int{1, 1 << 20}, 5, api.OK},
		{[]int{1, 1<<20 + 1}, 5, api.ErrArg},
		{[]int{1<<20 + 1}, 5, api.ErrArg},
		{[]int{0, -1}, 5, api.ErrArg},
		{[]int{-1, 4}, 5, api.ErrArg},
		{[]int{math.MaxInt}, 5, api.ErrArg},
		{[]int{math.MinInt}, 5, api.ErrArg},
		{[]int{3}, 1, api.OK},
		{[]int{3}, 15, api.OK},
		{[]int{3}, 0, api.ErrArg},
		{[]int{3}, 16, api.ErrArg},
		{nil, 0, api.ErrArg},
		{nil, 16, api.ErrArg},
		{nil, -1, api.ErrArg},
		{nil, 1, api.OK},
		{[]int{0}, 0, api.ErrArg},
		{[]int{3, 4}, math.MinInt, api.ErrArg},
		{[]int{3, 4}, math.MaxInt, api.ErrArg},
		{[]int{1, 1}, 1, api.OK},
		{[]int{1, 1, 1}, 1, api.ErrArg},
		{[]int{0, 1, 0, 1, 0}, 1, api.OK},
		{[]int{0, 1, 0, 1, 1}, 1, api.ErrArg},
		{append(repeat(9, 4), 0, 0), 2, api.OK},
		{append(repeat(9, 5), 0, 0), 2, api.ErrArg},
		{append(repeat(9, 256), repeat(0, 64)...), 8, api.OK},
		{append(repeat(9, 257), repeat(0, 63)...), 8, api.ErrArg},
		{repeat(9, 320), 8, api.ErrArg},
		{repeat(9, 320), 9, api.OK},
	} {
		lengths, e := Lengths(x.often, x.most)
		if e != x.want || e != api.OK && lengths != nil || e == api.OK && len(lengths) != len(x.often) {
			t.Error(i, lengths, e)
		}
	}
}

// P3.3
func TestCost(t *testing.T) {
	for _, x := range []struct {
		often, lengths []int
		want           int
	}{
		{nil, nil, 0},
		{[]int{5}, nil, 0},
		{nil, []int{5}, 0},
		{[]int{}, []int{}, 0},
		{[]int{3}, []int{4}, 12},
		{[]int{2, 3, 9}, []int{5, 1, 2}, 31},
		{[]int{2, 3, 9}, []int{5, 1}, 13},
		{[]int{2, 3}, []int{5, 1, 7}, 13},
		{[]int{2, 0, 4}, []int{0, 9, 1}, 4},
		{[]int{-2, 3}, []int{5, -1}, -13},
		{repeat(1<<20, 1000), repeat(15, 999), 999 * 15 << 20},
		// What goes beyond on the way and comes back is not lost.
		{[]int{math.MaxInt, 1, math.MinInt}, []int{1, 1, 1}, 0},
	} {
		if got := Cost(x.often, x.lengths); got != x.want {
			t.Error(x.often, x.lengths, got)
		}
	}
}

// P3.4
func TestCodesAreReadAsTheirSymbols(t *testing.T) {
	r := rand.New(rand.NewSource(36))
	all := [][]int{{1}, {0, 0, 1}, {1, 1}, deepest(), repeat(8, 256)}
	for range 100 {
		all = append(all, holed(r, fullLengths(r, r.Intn(250)), 60))
		made := lengthsOf(t, holed(r, drawnCounts(r, 290), 30), 9+r.Intn(7))
		all = append(all, made)
	}
	for _, lengths := range all {
		codes, e := Codes(lengths)
		d, f := New(lengths)
		if e != api.OK || f != api.OK {
			t.Fatal(lengths, e, f)
		}
		symbols := r.Perm(len(lengths))
		for range 200 {
			symbols = append(symbols, r.Intn(len(lengths)))
		}
		for _, symbol := range symbols {
			readBack(t, d, symbol, codes[symbol], lengths[symbol])
		}
	}
}

func readBack(t *testing.T, d *Decoder, symbol, code, length int) {
	t.Helper()
	for k := length - 1; k >= 0; k-- {
		want := -1
		if k == 0 {
			want = symbol
		}
		if got := d.Next(code >> k & 1); got != want {
			t.Fatal(symbol, code, length, k, got)
		}
	}
}

// roomy is a list with spare room behind its end, and the whole of it.
func roomy(l []int) ([]int, []int) {
	whole := append(slices.Clone(l), 77, 78, 79, 80)
	return whole[:len(l)], whole
}

// P3.4, W6
func TestNothingHandedInIsChanged(t *testing.T) {
	for _, l := range [][]int{{2, 1, 3, 3}, {0, 1}, {1, 1, 1}, {2}, {16, 1}, {9, 0, 3, 3, 1, 7, 12}, {}} {
		list, whole := roomy(l)
		before := slices.Clone(whole)
		Codes(list)
		if d, _ := New(list); d != nil {
			d.Next(1)
		}
		Lengths(list, 1)
		Lengths(list, 9)
		Lengths(list, 0)
		Cost(list, list)
		if !slices.Equal(whole, before) {
			t.Error(l, whole)
		}
	}
}

// P3.4, W6, W7
func TestWhatIsAnsweredIsNew(t *testing.T) {
	scribble := func(l []int) {
		l = l[:cap(l)]
		for i := range l {
			l[i] = 99
		}
	}
	lengths := []int{2, 1, 3, 3}
	often := []int{3, 8, 1, 1}
	a, _ := Codes(lengths)
	b, _ := Codes(lengths)
	scribble(a)
	if !slices.Equal(b, []int{2, 0, 6, 7}) || !slices.Equal(lengths, []int{2, 1, 3, 3}) {
		t.Error(b, lengths)
	}
	scribble(lengths)
	if !slices.Equal(b, []int{2, 0, 6, 7}) {
		t.Error(b)
	}
	c, _ := Lengths(often, 4)
	d, _ := Lengths(often, 4)
	scribble(c)
	if !slices.Equal(d, []int{2, 1, 3, 3}) || !slices.Equal(often, []int{3, 8, 1, 1}) {
		t.Error(d, often)
	}
	scribble(often)
	if !slices.Equal(d, []int{2, 1, 3, 3}) {
		t.Error(d)
	}
}

// P3.4
func TestDecoderKeepsNothingHandedIn(t *testing.T) {
	r := rand.New(rand.NewSource(37))
	for range 50 {
		lengths := holed(r, fullLengths(r, r.Intn(200)), 60)
		kept := slices.Clone(lengths)
		codes := given(kept)
		d, _ := New(lengths)
		for i := range lengths {
			lengths[i] = r.Intn(40) - 20
		}
		for symbol, code := range codes {
			readBack(t, d, symbol, code, kept[symbol])
		}
	}
	one := []int{0, 1}
	d, _ := New(one)
	one[0], one[1] = 1, 0
	if a, b, c := d.Next(0), d.Next(1), d.Next(0); a != 1 || b != -2 || c != 1 {
		t.Error(a, b, c)
	}
}

// P3.4, W8, W1
func TestNextOfNoDecoder(t *testing.T) {
	var none *Decoder
	empty := new(Decoder)
	for _, bit := range []int{0, 1, -1, math.MaxInt, 0} {
		if got := none.Next(bit); got != -2 {
			t.Error(bit, got)
		}
		if got := empty.Next(bit); got != -2 {
			t.Error(bit, got)
		}
	}
}

// W2
func TestTheSameIsAnsweredAgain(t *testing.T) {
	r := rand.New(rand.NewSource(38))
	for range 50 {
		often := drawnCounts(r, 100)
		a, e := Lengths(often, 9)
		b, f := Lengths(slices.Clone(often), 9)
		if e != f || !slices.Equal(a, b) {
			t.Error(often, a, b, e, f)
		}
	}
}
