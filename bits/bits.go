// Package bits is bits, the lowest first: see DOC.md, chapter 1.
package bits

import "rubricator/api"

const (
	maxBits  = 24 // bits that Put lays, or Get takes, at once
	maxCode  = 15 // bits that Code lays at once
	byteBits = 8
)

// Writer lays bits.
type Writer struct {
	out  []byte
	free int // bits of the last byte of out that nothing was laid into yet, all of them noughts
}

// New is no bit.
func New() *Writer { return &Writer{} }

// Put lays the lowest n bits of a number, the lowest first.
func (w *Writer) Put(v, n int) api.Errno {
	if w == nil || !fits(v, n, maxBits) {
		return api.ErrArg
	}
	w.lay(v, n)
	return api.OK
}

// Code lays the lowest n bits of a number, the highest first.
func (w *Writer) Code(v, n int) api.Errno {
	if w == nil || !fits(v, n, maxCode) {
		return api.ErrArg
	}
	for n > 0 {
		n--
		w.lay(v>>n&1, 1)
	}
	return api.OK
}

// Align goes on to the next byte.
func (w *Writer) Align() {
	if w != nil {
		w.free = 0
	}
}

// Raw lays bytes, on a byte's edge.
func (w *Writer) Raw(p ...[]byte) api.Errno {
	if w == nil || w.free > 0 {
		return api.ErrArg
	}
	for _, b := range p {
		w.out = append(w.out, b...)
	}
	return api.OK
}

// Bytes is all of it.
func (w *Writer) Bytes() []byte {
	if w == nil {
		return nil
	}
	return fresh(w.out)
}

// lay puts n bits of v, which has no others, behind those that are there.
func (w *Writer) lay(v, n int) {
	for n > 0 {
		if w.free == 0 {
			w.out = append(w.out, 0)
			w.free = byteBits
		}
		k := min(n, w.free)
		w.out[len(w.out)-1] |= byte(lowest(v, k) << (byteBits - w.free))
		w.free -= k
		v >>= k
		n -= k
	}
}

// fits tells whether n is 0 to most and v has no bits but the lowest n.
func fits(v, n, most int) bool {
	return n >= 0 && n <= most && v >= 0 && v < 1<<n
}

func lowest(v, n int) int { return v & (1<<n - 1) }

// fresh copies b. Of no bytes it is nil, where slices.Clone would still point into b.
func fresh(b []byte) []byte { return append([]byte(nil), b...) }

// Reader takes bits.
type Reader struct {
	in []byte
	at int // bits taken
}

// Of is a reader of bytes.
func Of(b []byte) *Reader { return &Reader{in: fresh(b)} }

// Get takes n bits, the lowest first.
func (r *Reader) Get(n int) (int, api.Errno) {
	if r == nil || n < 0 || n > maxBits {
		return 0, api.ErrArg
	}
	if n > r.Left() {
		return 0, api.ErrShort
	}
	v := 0
	for got := 0; got < n; {
		used := r.at % byteBits
		k := min(n-got, byteBits-used)
		v |= lowest(int(r.in[r.at/byteBits])>>used, k) << got
		got += k
		r.at += k
	}
	return v, api.OK
}

// Align goes on to the next byte; the place of it.
func (r *Reader) Align() int {
	if r == nil {
		return 0
	}
	edge := (r.at + byteBits - 1) / byteBits
	r.at = edge * byteBits
	return edge
}

// Raw takes n bytes, on a byte's edge.
func (r *Reader) Raw(n int) ([]byte, api.Errno) {
	if r == nil || n < 0 || r.at%byteBits != 0 {
		return nil, api.ErrArg
	}
	// In bytes, not in bits: n times 8 could wrap.
	if n > r.Left()/byteBits {
		return nil, api.ErrShort
	}
	from := r.at / byteBits
	r.at += n * byteBits
	return fresh(r.in[from : from+n]), api.OK
}

// Left is how many bits are left.
func (r *Reader) Left() int {
	if r == nil {
		return 0
	}
	return len(r.in)*byteBits - r.at
}
