package zip

import (
	"bytes"
	"fmt"
	"math"
	"math/rand"
	"slices"
	"strings"
	"sync"
	"testing"

	"rubricator/api"
)

// P6.3
func TestReadOfWriteIsTheFiles(t *testing.T) {
	r := rand.New(rand.NewSource(7))
	sorts := [][]api.File{
		nil,
		{file("a", "")},
		{file("a", "x")},
		{{Name: "nil", Data: nil}, {Name: "empty", Data: []byte{}}, file("x", "x")},
		{{Name: "random", Data: draw(r, api.MaxOut, 256)}},
		{{Name: "small", Data: make([]byte, api.MaxOut)}},
		{{Name: "half", Data: draw(r, api.MaxOut/2, 256)}, {Name: "another", Data: draw(r, api.MaxOut/2, 3)}, file("none", "")},
		manyFiles(api.MaxFiles),
		drawFiles(r, api.MaxFiles),
		{file("PK", "PK\x05\x06"+strings.Repeat("\x00", 18)), file("PK2", "PK\x01\x02PK\x03\x04")},
	}
	for range 200 {
		sorts = append(sorts, drawFiles(r, r.Intn(10)))
	}
	for i, files := range sorts {
		b := writes(t, fmt.Sprint("row ", i), files...)
		tells(t, fmt.Sprint("row ", i), b, total(files), files)
		if n := total(files); n > 0 {
			refuses(t, fmt.Sprint("row ", i, ", one less"), b, n-1, api.ErrLong)
		}
	}
}

// P6.3: files whose bytes are files in one themselves.
func TestFilesInFiles(t *testing.T) {
	files := someFiles()
	for range 6 {
		b := writes(t, "in it", files...)
		files = []api.File{{Name: "in", Data: b}, file("beside", "x")}
		tells(t, "in it", writes(t, "around it", files...), plenty, files)
	}
}

// P0.3
func TestCutOffAnywhere(t *testing.T) {
	r := rand.New(rand.NewSource(8))
	b := planOf(someFiles()...).lay()
	for i := range b {
		refuses(t, fmt.Sprint("cut at ", i), b[:i], plenty, api.ErrShort)
		refuses(t, fmt.Sprint("without byte ", i), slices.Delete(slices.Clone(b), i, i+1), plenty, modelError(slices.Delete(slices.Clone(b), i, i+1)))
		if i > 0 {
			if files, e := Read(b[i:], plenty); e == api.OK {
				t.Errorf("from %d on: %d files", i, len(files))
			}
		}
	}
	for range 2000 {
		i, k := r.Intn(len(b)), r.Intn(len(b))
		sameAsModel(t, slices.Concat(b[:i], b[k:]), plenty)
	}
}

func modelError(b []byte) api.Errno {
	_, e := modelRead(b, plenty)
	return e
}

// P0.3: each byte, as each other one: the same files, or an error.
func TestTurnedAnywhere(t *testing.T) {
	files := someFiles()
	good := planOf(files...)
	good.end.remark, good.pieces[1].entry.remark, good.pieces[2].head.more = "behind", "a remark", "more"
	good.both(3, func(x *told) { x.flags = 8 })
	b := good.settle().lay()
	tells(t, "not turned", b, plenty, files)
	for i := range b {
		was := b[i]
		for v := range 256 {
			b[i] = byte(v)
			if got, e := Read(b, plenty); e == api.OK && !same(got, files) {
				t.Errorf("byte %d as %d: other files", i, v)
			}
			if v%16 == int(was)%16 {
				sameAsModel(t, b, plenty)
			}
		}
		b[i] = was
	}
}

func sameAsModel(t *testing.T, b []byte, most int) api.Errno {
	t.Helper()
	files, e := Read(b, most)
	want, wantError := modelRead(b, most)
	if e != wantError || !same(files, want) {
		t.Fatalf("% x, most %d: %d files, error %d, want %d files, error %d", b, most, len(files), e, len(want), wantError)
	}
	if e != api.OK && len(files) != 0 {
		t.Fatalf("error %d with files", e)
	}
	return e
}

// turnAny turns one of the numbers of a plan, as its kind may be.
func turnAny(r *rand.Rand, p *plan) {
	if r.Intn(6) == 0 || len(p.pieces) == 0 {
		n := []*int{&p.end.disk, &p.end.entriesDisk, &p.end.many, &p.end.again, &p.end.size, &p.end.from, &p.end.remarkSize}
		turnNumber(r, n[r.Intn(len(n))])
		if r.Intn(2) == 0 {
			p.end.again = p.end.many
		}
		return
	}
	i := r.Intn(len(p.pieces))
	turnOne := func(x *told, which int) {
		n := []*int{&x.flags, &x.method, &x.sum, &x.packed, &x.size, &x.nameSize, &x.moreSize, &x.where, &x.remarkSize, &x.disk, &x.time, &x.needs}
		turnNumber(r, n[which])
	}
	x := &p.pieces[i]
	switch which := r.Intn(12); r.Intn(5) {
	case 0:
		turnOne(&x.head, which)
	case 1:
		turnOne(&x.entry, which)
	case 2:
		turnOne(&x.head, which)
		x.entry.flags, x.entry.method, x.entry.sum, x.entry.packed, x.entry.size = x.head.flags, x.head.method, x.head.sum, x.head.packed, x.head.size
	case 3:
		names := slices.Concat(goodNames(), badNames())
		name := names[r.Intn(len(names)-1)]
		p.both(i, func(x *told) { x.name, x.nameSize = name, len(name) })
	default:
		x.bytes = slices.Clone(x.bytes)
		for range min(len(x.bytes), 1+r.Intn(3)) {
			x.bytes[r.Intn(len(x.bytes))] = byte(r.Intn(256))
		}
	}
}

func turnNumber(r *rand.Rand, n *int) {
	switch r.Intn(6) {
	case 0:
		*n = max(0, *n-1)
	case 1:
		*n++
	case 2:
		*n ^= 1 << r.Intn(16)
	case 3:
		*n = []int{0, 8, 2048, 2056, 1, 65, 65535, 1 << 31, 1<<32 - 1}[r.Intn(9)]
	default:
		*n ^= 8
	}
}

// Drawn files of which some things are turned, ahead of settling what hangs together or behind it.
func TestDrawnTurnsAgainstTheModel(t *testing.T) {
	r := rand.New(rand.NewSource(9))
	seen := map[api.Errno]int{}
	for range 20000 {
		files := drawFiles(r, r.Intn(5))
		if r.Intn(8) == 0 && len(files) > 1 {
			files[1].Name = files[0].Name
		}
		p := planOf(files...)
		if r.Intn(2) == 0 {
			p.end.remark = string(draw(r, r.Intn(30), 256))
			p.ahead = draw(r, r.Intn(30), 256)
			for i := range p.pieces {
				p.pieces[i].entry.more, p.pieces[i].head.more = string(draw(r, r.Intn(9), 256)), string(draw(r, r.Intn(9), 256))
			}
			p.settle()
		}
		for range r.Intn(3) {
			turnAny(r, p)
			if r.Intn(4) == 0 {
				p.settle()
			}
		}
		most := total(files)
		if r.Intn(4) == 0 {
			most = r.Intn(most + 2)
		}
		seen[sameAsModel(t, p.lay(), most-r.Intn(300)/299)]++
	}
	for _, e := range []api.Errno{api.OK, api.ErrShort, api.ErrForm, api.ErrSum, api.ErrLong, api.ErrFull, api.ErrHas, api.ErrName, api.ErrLinked, api.ErrDistance} {
		if seen[e] < 5 {
			t.Errorf("error %d came %d times", e, seen[e])
		}
	}
}

// W1: any bytes at all.
func TestAnyBytes(t *testing.T) {
	r := rand.New(rand.NewSource(10))
	marks := []string{"PK\x05\x06", "PK\x01\x02", "PK\x03\x04", "PK", "\x00\x00", "\xff\xff", "\x14\x00", "\x16\x00\x00\x00"}
	for range 50000 {
		var b []byte
		for range r.Intn(20) {
			if r.Intn(2) == 0 {
				b = append(b, marks[r.Intn(len(marks))]...)
			} else {
				b = append(b, draw(r, r.Intn(24), 1+r.Intn(256))...)
			}
		}
		if r.Intn(2) == 0 {
			b = append(b, "PK\x05\x06\x00\x00\x00\x00"...)
			n := byte(r.Intn(3))
			b = append(b, n, 0, n, 0)
			from := r.Intn(len(b) - 11)
			b = append(b, row{}.four(len(b)-12-from, from).two(0)...)
		}
		sameAsModel(t, b, r.Intn(1000))
	}
	for n := range 66 {
		for _, fill := range []byte{0, 'P', 255} {
			refuses(t, fmt.Sprint(n, " bytes of ", fill), bytes.Repeat([]byte{fill}, n), plenty, api.ErrShort)
		}
	}
}

// W1: an end, at many bytes too.
func TestManyBytes(t *testing.T) {
	for _, fill := range []string{"PK\x05\x06", "PK\x01\x02", "\x00", "PK"} {
		b := bytes.Repeat([]byte(fill), 8<<20)
		Read(b, math.MaxInt)
		Read(append(b, planOf().lay()...), math.MaxInt)
	}
}

// Heads of their own, one behind the other, and the same bytes for all of them: nothing forbids it.
func TestFilesThatShareBytes(t *testing.T) {
	stream := append(bytes.Repeat([]byte("\x00\x00\x00\xff\xff"), 1<<13), "\x01\x00\x00\xff\xff"...)
	files := manyFiles(api.MaxFiles)
	p := planOf()
	for _, f := range files {
		p.add(f.Name, 8, nil, nil)
	}
	p.pieces[api.MaxFiles-1].behind = stream
	p.settle()
	begin := p.end.from - len(stream)
	for i := range p.pieces {
		x := &p.pieces[i]
		x.head.packed, x.entry.packed = len(stream), len(stream)
		x.head.moreSize = begin - x.entry.where - len(x.head.file())
	}
	tells(t, "all of one stream", p.lay(), 0, files)
}

// P6.3, W6
func TestWriteKeepsNothing(t *testing.T) {
	r := rand.New(rand.NewSource(11))
	for range 50 {
		room := append(drawFiles(r, 1+r.Intn(5)), file("spare", "room"))
		var was []api.File
		for i := range room {
			was = append(was, api.File{Name: room[i].Name, Data: slices.Clone(room[i].Data)})
			room[i].Data = append(make([]byte, 0, len(room[i].Data)+8), room[i].Data...)
			copy(room[i].Data[len(room[i].Data):cap(room[i].Data)], "12345678")
		}
		files := room[:len(room)-1]
		b := writes(t, "drawn", files...)
		if !same(room, was) {
			t.Fatal("what was handed in is another one")
		}
		for _, f := range room {
			if spare := f.Data[len(f.Data):cap(f.Data)]; string(spare[:8]) != "12345678" {
				t.Fatal("the spare room is another one")
			}
		}
		told := slices.Clone(b)
		for i := range room {
			scribble(room[i].Data)
			room[i].Name = "other"
		}
		if !bytes.Equal(b, told) {
			t.Fatal("the answer hangs on what was handed in")
		}
		was = was[:len(files)]
		again := writes(t, "again", was...)
		scribble(b)
		if !bytes.Equal(again, told) || !bytes.Equal(writes(t, "again", was...), told) {
			t.Fatal("an answer is no new memory")
		}
	}
	a, b := writes(t, "none"), writes(t, "none")
	scribble(a)
	if !bytes.Equal(b, writes(t, "none")) {
		t.Error("answers of no file share memory")
	}
}

// P6.3, W6
func TestReadKeepsNothing(t *testing.T) {
	r := rand.New(rand.NewSource(12))
	for range 50 {
		files := drawFiles(r, 1+r.Intn(6))
		whole := append(planOf(files...).lay(), "spare room"...)
		was := slices.Clone(whole)
		in := whole[:len(whole)-10]
		got, e := Read(in, plenty)
		if e != api.OK || !bytes.Equal(whole, was) {
			t.Fatalf("error %d, or what was handed in is another one", e)
		}
		scribble(whole)
		if !same(got, files) {
			t.Fatal("the answer hangs on what was handed in")
		}
		copy(whole, was)
		again, _ := Read(in, plenty)
		for i := range got {
			// Each list by itself: those beside it stay as they are.
			scribble(got[i].Data)
			if !same(got[i+1:], files[i+1:]) {
				t.Fatal("two lists of one answer share memory")
			}
		}
		clear(got[:cap(got)])
		if !same(again, files) || !bytes.Equal(whole, was) {
			t.Fatal("an answer is no new memory")
		}
	}
}

// scribble writes over bytes and over the room behind them.
func scribble(p []byte) {
	p = p[:cap(p)]
	for i := range p {
		p[i] ^= 0xa5
	}
}

// W2, W7
func TestTheSameAnswerAgain(t *testing.T) {
	r := rand.New(rand.NewSource(13))
	files := drawFiles(r, 12)
	b := writes(t, "first", files...)
	var wg sync.WaitGroup
	for range 16 {
		wg.Go(func() {
			again, e := Write(files...)
			if e != api.OK || !bytes.Equal(again, b) {
				t.Error("other bytes")
			}
			if got, e := Read(b, total(files)); e != api.OK || !same(got, files) {
				t.Error("other files")
			}
			if _, e := Read(b, 0); e != api.ErrLong {
				t.Error("another error")
			}
		})
	}
	wg.Wait()
}

func FuzzRead(f *testing.F) {
	f.Add(planOf().lay(), 0)
	f.Add(planOf(someFiles()...).lay(), plenty)
	f.Add(planOf(someFiles()...).lay(), 7)
	f.Add([]byte("PK\x05\x06"), -1)
	f.Fuzz(func(t *testing.T, b []byte, most int) {
		most = min(most, plenty)
		sameAsModel(t, b, most)
		files, e := Read(b, most)
		if e != api.OK {
			return
		}
		again, e := Write(files...)
		if e != api.OK {
			t.Fatalf("what was read can't be written: error %d", e)
		}
		if got, e := Read(again, most); e != api.OK || !same(got, files) {
			t.Fatalf("read, written and read it is another one: error %d", e)
		}
	})
}
