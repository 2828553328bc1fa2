package zip

import (
	"encoding/binary"
	"hash/crc32"
	"slices"

	"rubricator/api"
	"rubricator/deflate"
)

// told is what a file's head or its entry says, number by number. A head has none of the numbers from remarkSize on,
// and madeBy is an entry's alone.
type told struct {
	mark               string
	madeBy, needs      int
	flags, method      int
	time, date         int
	sum, packed, size  int
	nameSize, moreSize int

	remarkSize, disk, inside, outside, where int

	name, more, remark string
}

// piece is a file: its head, its bytes as they stand there, what stands behind them, its entry.
type piece struct {
	head, entry told
	bytes       []byte
	behind      []byte
}

type ending struct {
	mark              string
	disk, entriesDisk int
	many, again       int
	size, from        int
	remarkSize        int
	remark            string
}

// plan is files in one, all of whose numbers can be turned ahead of laying it.
type plan struct {
	ahead  []byte // of the first file
	pieces []piece
	spare  []byte // between the last entry and the end
	end    ending
}

// planOf is what Write is to write.
func planOf(files ...api.File) *plan {
	p := &plan{end: ending{mark: "PK\x05\x06"}}
	for _, f := range files {
		method, data := 0, f.Data
		if small := deflate.Bytes(f.Data); len(small) < len(f.Data) {
			method, data = 8, small
		}
		p.add(f.Name, method, f.Data, data)
	}
	return p.settle()
}

// add lays a file of that method behind the others.
func (p *plan) add(name string, method int, data, packed []byte) {
	head := told{mark: "PK\x03\x04", needs: 20, method: method, date: 33, sum: int(crc32.ChecksumIEEE(data)), size: len(data), name: name}
	entry := head
	entry.mark, entry.madeBy = "PK\x01\x02", 20
	p.pieces = append(p.pieces, piece{head: head, entry: entry, bytes: packed})
}

// settle sets each number that hangs on what stands there, and where.
func (p *plan) settle() *plan {
	at := len(p.ahead)
	for i := range p.pieces {
		x := &p.pieces[i]
		x.entry.where = at
		x.head.packed, x.entry.packed = len(x.bytes), len(x.bytes)
		x.head.sizes()
		x.entry.sizes()
		at += len(x.head.file()) + len(x.bytes) + len(x.behind)
	}
	p.end.from = at
	p.end.size = len(p.entries()) + len(p.spare)
	p.end.many, p.end.again = len(p.pieces), len(p.pieces)
	p.end.remarkSize = len(p.end.remark)
	return p
}

func (t *told) sizes() {
	t.nameSize, t.moreSize, t.remarkSize = len(t.name), len(t.more), len(t.remark)
}

// both turns a piece's head and its entry.
func (p *plan) both(i int, turn func(*told)) {
	turn(&p.pieces[i].head)
	turn(&p.pieces[i].entry)
}

// copy is a plan that can be turned by itself.
func (p *plan) copy() *plan {
	c := *p
	c.pieces = slices.Clone(p.pieces)
	return &c
}

// row is numbers by their bytes, the lowest first.
type row []byte

func (r row) text(s string) row { return append(r, s...) }

func (r row) two(values ...int) row {
	for _, v := range values {
		r = binary.LittleEndian.AppendUint16(r, uint16(v))
	}
	return r
}

func (r row) four(values ...int) row {
	for _, v := range values {
		r = binary.LittleEndian.AppendUint32(r, uint32(v))
	}
	return r
}

func (t told) file() []byte {
	r := row{}.text(t.mark).two(t.needs, t.flags, t.method, t.time, t.date).four(t.sum, t.packed, t.size)
	return r.two(t.nameSize, t.moreSize).text(t.name).text(t.more)
}

func (t told) laid() []byte {
	r := row{}.text(t.mark).two(t.madeBy, t.needs, t.flags, t.method, t.time, t.date).four(t.sum, t.packed, t.size)
	r = r.two(t.nameSize, t.moreSize, t.remarkSize, t.disk, t.inside).four(t.outside, t.where)
	return r.text(t.name).text(t.more).text(t.remark)
}

func (e ending) laid() []byte {
	r := row{}.text(e.mark).two(e.disk, e.entriesDisk, e.many, e.again).four(e.size, e.from)
	return r.two(e.remarkSize).text(e.remark)
}

func (p *plan) entries() []byte {
	var b []byte
	for _, x := range p.pieces {
		b = append(b, x.entry.laid()...)
	}
	return b
}

// lay is all of it, number by number as it is told, right or wrong.
func (p *plan) lay() []byte {
	b := slices.Clone(p.ahead)
	for _, x := range p.pieces {
		b = slices.Concat(b, x.head.file(), x.bytes, x.behind)
	}
	return slices.Concat(b, p.entries(), p.spare, p.end.laid())
}
