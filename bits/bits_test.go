package bits

import (
	"bytes"
	"math"
	"math/rand"
	"testing"

	"rubricator/api"
)

// laid answers what a Writer has after the calls, each of which must be taken.
func laid(t *testing.T, calls ...func(w *Writer) api.Errno) []byte {
	t.Helper()
	w := New()
	for i, call := range calls {
		if e := call(w); e != api.OK {
			t.Errorf("call %d: error %d", i, e)
		}
	}
	return w.Bytes()
}

func put(v, n int) func(*Writer) api.Errno {
	return func(w *Writer) api.Errno { return w.Put(v, n) }
}

func code(v, n int) func(*Writer) api.Errno {
	return func(w *Writer) api.Errno { return w.Code(v, n) }
}

func align(w *Writer) api.Errno { w.Align(); return api.OK }

func raw(p ...[]byte) func(*Writer) api.Errno {
	return func(w *Writer) api.Errno { return w.Raw(p...) }
}

// P1.1: where each bit goes.
func TestWriterLaysFromTheLowestBit(t *testing.T) {
	type calls = []func(*Writer) api.Errno
	cases := []struct {
		name  string
		calls calls
		want  []byte
	}{
		{"nothing", nil, nil},
		{"the document's example", calls{put(1, 1), put(2, 2), code(1, 3)}, []byte{0x25}},
		{"no bit of Put", calls{put(0, 0)}, nil},
		{"no bit of Code", calls{code(0, 0)}, nil},
		{"one bit", calls{put(1, 1)}, []byte{1}},
		{"the second bit", calls{put(0, 1), put(1, 1)}, []byte{2}},
		{"the eighth bit", calls{put(0, 7), put(1, 1)}, []byte{0x80}},
		{"the ninth bit", calls{put(0, 8), put(1, 1)}, []byte{0, 1}},
		{"noughts are laid", calls{put(0, 9)}, []byte{0, 0}},
		{"Put, the lowest first", calls{put(0x123456, 24)}, []byte{0x56, 0x34, 0x12}},
		{"Put across edges", calls{put(5, 3), put(0xabcdef, 24)}, []byte{0x7d, 0x6f, 0x5e, 0x05}},
		{"Put of the most", calls{put(1<<24-1, 24)}, []byte{255, 255, 255}},
		{"Code, the highest first", calls{code(0x4d, 8)}, []byte{0xb2}},
		{"Code across edges", calls{put(1, 1), code(0x7abc, 15)}, []byte{0x5f, 0x3d}},
		{"Code of the most", calls{code(1<<15-1, 15)}, []byte{255, 127}},
		{"Align on no byte", calls{align, align}, nil},
		{"Align on an edge", calls{put(7, 8), align, put(1, 1)}, []byte{7, 1}},
		{"Align off an edge", calls{put(1, 1), align, align, put(1, 1)}, []byte{1, 1}},
		{"Align last", calls{put(1, 1), align}, []byte{1}},
		{"Raw of nothing", calls{raw()}, nil},
		{"Raw first", calls{raw([]byte{1, 255})}, []byte{1, 255}},
		{"Raw of several", calls{raw([]byte{1}, nil, []byte{}, []byte{2, 3})}, []byte{1, 2, 3}},
		{"Raw behind a whole byte", calls{put(9, 8), raw([]byte{1})}, []byte{9, 1}},
		{"Raw behind Align", calls{put(1, 3), align, raw([]byte{2})}, []byte{1, 2}},
		{"Raw behind no bit", calls{put(0, 0), raw([]byte{2})}, []byte{2}},
		{"bits behind Raw", calls{raw([]byte{255}), put(1, 2), code(1, 2)}, []byte{255, 9}},
	}
	for _, c := range cases {
		if got := laid(t, c.calls...); !bytes.Equal(got, c.want) {
			t.Errorf("%s: %x, not %x", c.name, got, c.want)
		}
	}
}

// P1.1: what is refused, and that nothing is laid then.
func TestWriterRefuses(t *testing.T) {
	both := [][2]int{
		{0, -1}, {1, -1}, {-1, -1}, {1, 0}, {-1, 0}, {2, 1}, {-1, 1}, {4, 2}, {-1, 5},
		{1 << 15, 15}, {-1, 15}, {0, 25}, {1, 25}, {1 << 24, 25}, {0, 64}, {1, 64}, {0, 1 << 40},
		{math.MaxInt, 15}, {math.MinInt, 15}, {0, math.MaxInt}, {0, math.MinInt},
	}
	onlyPut := [][2]int{{1 << 24, 24}, {-1, 24}, {math.MaxInt, 24}, {math.MinInt, 24}}
	onlyCode := [][2]int{{0, 16}, {1, 16}, {0, 24}, {1, 24}}
	for _, head := range []int{0, 3} {
		w := New()
		w.Put(0, head)
		before := w.Bytes()
		for _, x := range append(both, onlyPut...) {
			if e := w.Put(x[0], x[1]); e != api.ErrArg {
				t.Errorf("Put(%d, %d): %d", x[0], x[1], e)
			}
		}
		for _, x := range append(both, onlyCode...) {
			if e := w.Code(x[0], x[1]); e != api.ErrArg {
				t.Errorf("Code(%d, %d): %d", x[0], x[1], e)
			}
		}
		if !bytes.Equal(w.Bytes(), before) {
			t.Errorf("behind %d bits: %x", head, w.Bytes())
		}
		w.Put(1, 1)
		if want := []byte{1 << head}; !bytes.Equal(w.Bytes(), want) {
			t.Errorf("behind %d bits the next one: %x", head, w.Bytes())
		}
	}
}

// P1.1: Raw off an edge, at each place within a byte.
func TestWriterRawOffAnEdge(t *testing.T) {
	for n := 1; n < 8; n++ {
		w := New()
		w.Put(1<<n-1, n)
		for _, p := range [][][]byte{nil, {nil}, {{}}, {{1}}, {{1}, {2}}} {
			if e := w.Raw(p...); e != api.ErrArg {
				t.Errorf("%d bits, Raw of %x: %d", n, p, e)
			}
		}
		w.Put(0, 8-n)
		if e := w.Raw([]byte{7}); e != api.OK {
			t.Errorf("%d bits, filled up: %d", n, e)
		}
		if want := []byte{1<<n - 1, 7}; !bytes.Equal(w.Bytes(), want) {
			t.Errorf("%d bits: %x, not %x", n, w.Bytes(), want)
		}
	}
}

// P1.1: Bytes fills up what it answers, not what is laid.
func TestBytesGoesOnAmidAByte(t *testing.T) {
	w := New()
	for n := 1; n <= 8; n++ {
		w.Put(1, 1)
		if got, want := w.Bytes(), []byte{byte(1<<n - 1)}; !bytes.Equal(got, want) {
			t.Errorf("%d bits: %x, not %x", n, got, want)
		}
	}
}

func wantGet(t *testing.T, r *Reader, n, want int, wantErr api.Errno) {
	t.Helper()
	if v, e := r.Get(n); v != want || e != wantErr {
		t.Errorf("Get(%d): %d, %d, not %d, %d", n, v, e, want, wantErr)
	}
}

func wantRaw(t *testing.T, r *Reader, n int, want []byte, wantErr api.Errno) {
	t.Helper()
	if p, e := r.Raw(n); !bytes.Equal(p, want) || e != wantErr {
		t.Errorf("Raw(%d): %x, %d, not %x, %d", n, p, e, want, wantErr)
	}
}

// P1.2: which bits come.
func TestReaderTakesFromTheLowestBit(t *testing.T) {
	r := Of([]byte{0x25, 0xef, 0xcd, 0xab, 0x80})
	wantGet(t, r, 0, 0, api.OK)
	wantGet(t, r, 1, 1, api.OK)
	wantGet(t, r, 2, 2, api.OK)
	wantGet(t, r, 5, 4, api.OK)
	wantGet(t, r, 24, 0xabcdef, api.OK)
	wantGet(t, r, 7, 0, api.OK)
	wantGet(t, r, 1, 1, api.OK)
	wantGet(t, r, 0, 0, api.OK)
	wantGet(t, r, 1, 0, api.ErrShort)

	r = Of([]byte{0x7d, 0x6f, 0x5e, 0x05})
	wantGet(t, r, 3, 5, api.OK)
	wantGet(t, r, 24, 0xabcdef, api.OK)
	wantGet(t, r, 5, 0, api.OK)
}

// P1.2: the edges of n come ahead of what is left, and nothing is taken.
func TestReaderGetRefuses(t *testing.T) {
	for _, b := range [][]byte{nil, {}, {1}, {1, 2, 3, 4, 5}} {
		r := Of(b)
		for _, n := range []int{-1, 25, 64, math.MinInt, math.MaxInt} {
			wantGet(t, r, n, 0, api.ErrArg)
		}
		if r.Left() != 8*len(b) {
			t.Errorf("%x: %d left", b, r.Left())
		}
	}
	r := Of([]byte{0xff, 0x80})
	wantGet(t, r, 17, 0, api.ErrShort)
	wantGet(t, r, 24, 0, api.ErrShort)
	wantGet(t, r, 15, 0x00ff, api.OK)
	wantGet(t, r, 2, 0, api.ErrShort)
	if r.Left() != 1 {
		t.Errorf("%d left", r.Left())
	}
	wantGet(t, r, 1, 1, api.OK)
	wantGet(t, Of(nil), 0, 0, api.OK)
	wantGet(t, Of(nil), 1, 0, api.ErrShort)
}

// P1.2: Align answers the bytes behind, those begun too, and stays on an edge.
func TestReaderAlign(t *testing.T) {
	for n := 0; n <= 16; n++ {
		r := Of([]byte{1, 2, 3})
		r.Get(n)
		behind := (n + 7) / 8
		for range 2 {
			if got := r.Align(); got != behind || r.Left() != 24-8*behind {
				t.Errorf("%d bits: %d behind, %d left", n, got, r.Left())
			}
		}
		wantGet(t, r, 8, behind+1, api.OK)
	}
	r := Of([]byte{1})
	r.Get(1)
	if r.Align() != 1 || r.Align() != 1 || r.Left() != 0 {
		t.Error("at the end")
	}
	if Of(nil).Align() != 0 {
		t.Error("of no byte")
	}
}

// P1.2: Raw on an edge, off it, below 0 and beyond the end.
func TestReaderRaw(t *testing.T) {
	r := Of([]byte{1, 2, 3, 4, 5})
	wantRaw(t, r, 0, nil, api.OK)
	wantRaw(t, r, 2, []byte{1, 2}, api.OK)
	for n := 1; n < 8; n++ {
		wantGet(t, r, 1, 3>>(n-1)&1, api.OK)
		for _, k := range []int{-1, 0, 1, 2, 3, math.MaxInt, math.MinInt} {
			wantRaw(t, r, k, nil, api.ErrArg)
		}
		if r.Left() != 24-n {
			t.Errorf("%d left", r.Left())
		}
	}
	wantGet(t, r, 1, 0, api.OK)
	for _, k := range []int{-1, math.MinInt, math.MinInt / 8} {
		wantRaw(t, r, k, nil, api.ErrArg)
	}
	for _, k := range []int{3, 1 << 31, 1 << 61, 1<<61 + 1, math.MaxInt} {
		wantRaw(t, r, k, nil, api.ErrShort)
	}
	wantRaw(t, r, 2, []byte{4, 5}, api.OK)
	wantRaw(t, r, 0, nil, api.OK)
	wantRaw(t, r, 1, nil, api.ErrShort)
	if r.Left() != 0 {
		t.Errorf("%d left", r.Left())
	}
}

// P1.2: Left goes down by what is taken.
func TestReaderLeft(t *testing.T) {
	r := Of(make([]byte, 10))
	for i, step := range []struct {
		take func()
		left int
	}{
		{func() {}, 80},
		{func() { r.Get(0) }, 80},
		{func() { r.Get(1) }, 79},
		{func() { r.Get(24) }, 55},
		{func() { r.Align() }, 48},
		{func() { r.Raw(2) }, 32},
		{func() { r.Raw(5) }, 32},
		{func() { r.Get(25) }, 32},
		{func() { r.Raw(4) }, 0},
	} {
		if step.take(); r.Left() != step.left {
			t.Errorf("step %d: %d left", i, r.Left())
		}
	}
}

// P1.3: what was laid is read, against bits that are kept one by one.
func TestWhatWasLaidIsRead(t *testing.T) {
	random := rand.New(rand.NewSource(1))
	for round := range 300 {
		w := New()
		var model []int
		var reads []func(r *Reader)
		for range random.Intn(40) {
			switch random.Intn(4) {
			case 0, 1:
				n := random.Intn(25)
				v := random.Intn(1 << n)
				for i := range n {
					model = append(model, v>>i&1)
				}
				reads = append(reads, func(r *Reader) { wantGet(t, r, n, v, api.OK) })
				if w.Put(v, n) != api.OK {
					t.Fatal("Put", v, n)
				}
			case 2:
				n := random.Intn(16)
				v := random.Intn(1 << n)
				for i := n - 1; i >= 0; i-- {
					bit := v >> i & 1
					model = append(model, bit)
					reads = append(reads, func(r *Reader) { wantGet(t, r, 1, bit, api.OK) })
				}
				if w.Code(v, n) != api.OK {
					t.Fatal("Code", v, n)
				}
			case 3:
				w.Align()
				for len(model)%8 != 0 {
					model = append(model, 0)
				}
				p := make([]byte, random.Intn(4))
				random.Read(p)
				for _, b := range p {
					for i := range 8 {
						model = append(model, int(b>>i&1))
					}
				}
				behind := len(model)/8 - len(p)
				reads = append(reads, func(r *Reader) {
					if got := r.Align(); got != behind {
						t.Errorf("%d behind, not %d", got, behind)
					}
					wantRaw(t, r, len(p), p, api.OK)
				})
				if w.Raw(p) != api.OK {
					t.Fatal("Raw", p)
				}
			}
		}
		want := make([]byte, (len(model)+7)/8)
		for i, bit := range model {
			want[i/8] |= byte(bit << (i % 8))
		}
		if !bytes.Equal(w.Bytes(), want) {
			t.Fatalf("round %d: %x, not %x", round, w.Bytes(), want)
		}
		r := Of(w.Bytes())
		for _, read := range reads {
			read(r)
		}
		if r.Left() != 8*len(want)-len(model) {
			t.Fatalf("round %d: %d left", round, r.Left())
		}
	}
}

// P1.3: what is handed to a Writer is neither changed nor kept, its answers are new memory.
func TestWriterSharesNothing(t *testing.T) {
	room := []byte{1, 2, 3, 4}
	list := [][]byte{room[:2], room[2:3]}
	w := New()
	w.Raw(list...)
	w.Put(5, 8)
	if !bytes.Equal(room, []byte{1, 2, 3, 4}) || len(list[0]) != 2 || len(list[1]) != 1 {
		t.Errorf("changed: %x", room)
	}
	clear(room)
	clear(list)
	first, second := w.Bytes(), w.Bytes()
	scribble(first)
	w.Put(6, 8)
	if !bytes.Equal(second, []byte{1, 2, 3, 5}) {
		t.Errorf("an answer did not stay: %x", second)
	}
	if !bytes.Equal(w.Bytes(), []byte{1, 2, 3, 5, 6}) {
		t.Errorf("kept or shared: %x", w.Bytes())
	}
	scribble(second)
	w.Put(1, 1)
	if before := w.Bytes(); w.Put(1, 1) != api.OK || before[5] != 1 {
		t.Errorf("an answer did not stay: %x", before)
	}
}

// P1.3: what is handed to a Reader is neither changed nor kept, its answers are new memory.
func TestReaderSharesNothing(t *testing.T) {
	room := []byte{1, 2, 3, 4, 9, 9}
	r := Of(room[:4])
	again := Of(room[:4])
	first, _ := r.Raw(1)
	scribble(first)
	none, _ := r.Raw(0)
	scribble(none)
	if !bytes.Equal(room, []byte{1, 2, 3, 4, 9, 9}) {
		t.Errorf("changed: %x", room)
	}
	clear(room)
	wantGet(t, r, 8, 2, api.OK)
	wantRaw(t, r, 2, []byte{3, 4}, api.OK)
	wantRaw(t, again, 4, []byte{1, 2, 3, 4}, api.OK)
}

// scribble writes over a list and the spare room behind it.
func scribble(p []byte) {
	p = p[:cap(p)]
	for i := range p {
		p[i] = 0xee
	}
}

// P1.3: of a nil Writer or Reader what may err answers ErrArg, all else nothing.
func TestNil(t *testing.T) {
	var w *Writer
	w.Align()
	if w.Put(0, 0) != api.ErrArg || w.Put(1, 1) != api.ErrArg || w.Code(0, 0) != api.ErrArg || w.Code(1, 1) != api.ErrArg {
		t.Error("Put, Code")
	}
	if w.Raw() != api.ErrArg || w.Raw([]byte{1}) != api.ErrArg || len(w.Bytes()) != 0 {
		t.Error("Raw, Bytes")
	}
	var r *Reader
	wantGet(t, r, 0, 0, api.ErrArg)
	wantGet(t, r, 1, 0, api.ErrArg)
	wantRaw(t, r, 0, nil, api.ErrArg)
	wantRaw(t, r, 1, nil, api.ErrArg)
	if r.Align() != 0 || r.Left() != 0 {
		t.Error("Align, Left")
	}
}
