package zip

import (
	"bytes"

	"rubricator/api"
	"rubricator/crc"
	"rubricator/inflate"
)

// reader goes from entry to entry.
type reader struct {
	b     []byte // what stands ahead of the end
	from  int    // where the entries begin
	at    int    // where the next one begins
	left  int    // how many bytes may still come out
	files []api.File
}

// entry is what an entry tells.
type entry struct {
	facts
	name  string
	where int // its file begins
}

// open finds the end, and is a reader at the first entry and how many of them there are.
func open(b []byte) (*reader, int, api.Errno) {
	at := findEnd(b)
	if at < 0 {
		return nil, 0, api.ErrShort
	}
	end := b[at:]
	disk, entriesDisk := two(end[4:]), two(end[6:])
	many, again := two(end[8:]), two(end[10:])
	size, from := four(end[12:]), four(end[16:])
	switch {
	case disk != 0 || entriesDisk != 0 || many != again || from+size != at:
		return nil, 0, api.ErrForm
	case many > api.MaxFiles:
		return nil, 0, api.ErrFull
	}
	return &reader{b: b[:at], from: from, at: from}, many, api.OK
}

// findEnd is where the end begins, below 0 if there is none.
func findEnd(b []byte) int {
	at := len(b) - endSize
	for ; at >= 0; at-- {
		end := b[at:]
		if begins(end, endMark) && two(end[endSize-2:]) == len(end)-endSize {
			break
		}
	}
	return at
}

// next reads an entry and its file.
func (r *reader) next() api.Errno {
	x, ok := r.entry()
	switch {
	case !ok:
		return api.ErrForm
	case !isName(x.name):
		return api.ErrName
	case has(r.files, x.name):
		return api.ErrHas
	}
	packed, ok := r.file(x)
	switch {
	case !ok || x.method == plain && x.packed != x.size:
		return api.ErrForm
	case x.size > r.left:
		return api.ErrLong
	}
	data, e := x.unpack(packed)
	if e != api.OK {
		return e
	}
	if sumOf(data) != x.sum {
		return api.ErrSum
	}
	r.left -= x.size
	r.files = append(r.files, api.File{Name: x.name, Data: data})
	return api.OK
}

// entry reads an entry and goes on to the next one, if it is in order by itself.
func (r *reader) entry() (entry, bool) {
	b := r.b[r.at:]
	if len(b) < entrySize || !begins(b, entryMark) {
		return entry{}, false
	}
	told := factsOf(b[factsInEntry:])
	remark, disk, where := two(b[32:]), two(b[34:]), four(b[42:])
	nameEnd := entrySize + told.nameSize
	whole := nameEnd + told.moreSize + remark
	if len(b) < whole || !told.known() || disk != 0 {
		return entry{}, false
	}
	r.at += whole
	return entry{facts: told, name: string(b[entrySize:nameEnd]), where: where}, true
}

// file is the bytes of an entry's file as they stand in there, if it is as the entry says.
func (r *reader) file(x entry) ([]byte, bool) {
	if r.from-x.where < fileSize {
		return nil, false
	}
	b := r.b[x.where:r.from]
	told := factsOf(b[factsInFile:])
	nameEnd := fileSize + told.nameSize
	begin := nameEnd + told.moreSize
	if !begins(b, fileMark) || len(b)-begin < x.packed || !x.like(told) || string(b[fileSize:nameEnd]) != x.name {
		return nil, false
	}
	return b[begin : begin+x.packed], true
}

// unpack is the bytes of a file as new memory.
func (x entry) unpack(packed []byte) ([]byte, api.Errno) {
	if x.method == plain {
		return bytes.Clone(packed), api.OK
	}
	data, used, e := inflate.Bytes(packed, x.size)
	switch {
	// More bytes than the entry tells are no fault of who asks.
	case e == api.ErrLong:
		return nil, api.ErrForm
	case e != api.OK:
		return nil, e
	case len(data) != x.size || used != len(packed):
		return nil, api.ErrForm
	}
	return data, api.OK
}

func factsOf(b []byte) facts {
	return facts{
		flags:    two(b),
		method:   two(b[2:]),
		sum:      four(b[8:]),
		packed:   four(b[12:]),
		size:     four(b[16:]),
		nameSize: two(b[20:]),
		moreSize: two(b[22:]),
	}
}

// known tells whether the flags and the method are ones that can be read.
func (f facts) known() bool {
	return f.flags&^(numbersBehind|namesAsText) == 0 && (f.method == plain || f.method == deflated)
}

// like tells whether a file's head says what its entry says.
func (f facts) like(head facts) bool {
	if f.flags != head.flags || f.method != head.method {
		return false
	}
	return f.flags&numbersBehind != 0 || f.sum == head.sum && f.packed == head.packed && f.size == head.size
}

// begins tells whether bytes, no fewer than a mark has, begin with that mark.
func begins(b []byte, mark string) bool { return string(b[:markSize]) == mark }

func two(b []byte) int { return crc.Number(b[:2]) }

func four(b []byte) int { return crc.Number(b[:4]) }
