package zip

import (
	stdzip "archive/zip"
	"bytes"
	"fmt"
	"math"
	"math/rand"
	"slices"
	"strings"
	"testing"
	"time"

	"rubricator/api"
	"rubricator/deflate"
)

const plenty = 1 << 20

// someFiles is files of each method, one of them without a byte.
func someFiles() []api.File {
	return []api.File{
		file("a.xml", "hello"),
		file("word/b", strings.Repeat("text ", 100)),
		file("c/~!/...", ""),
		file("d", strings.Repeat("more of it, ", 30)),
	}
}

// total is how many bytes files have.
func total(files []api.File) int {
	n := 0
	for _, f := range files {
		n += len(f.Data)
	}
	return n
}

// tells holds Read against what is wanted, and against the model.
func tells(t *testing.T, what string, b []byte, most int, want []api.File) {
	t.Helper()
	files, e := Read(b, most)
	if e != api.OK || !same(files, want) {
		t.Errorf("%s: %d files, error %d, want %d files", what, len(files), e, len(want))
	}
	if files, e := modelRead(b, most); e != api.OK || !same(files, want) {
		t.Errorf("%s: the model has %d files, error %d", what, len(files), e)
	}
}

func refuses(t *testing.T, what string, b []byte, most int, want api.Errno) {
	t.Helper()
	if files, e := Read(b, most); e != want || len(files) != 0 {
		t.Errorf("%s: %d files, error %d, want error %d", what, len(files), e, want)
	}
	if _, e := modelRead(b, most); e != want {
		t.Errorf("%s: the model has error %d, want %d", what, e, want)
	}
}

// answers is tells of the files or refuses.
func answers(t *testing.T, what string, b []byte, most int, e api.Errno, files []api.File) {
	t.Helper()
	if e == api.OK {
		tells(t, what, b, most, files)
	} else {
		refuses(t, what, b, most, e)
	}
}

// P6.2
func TestReadArg(t *testing.T) {
	b := planOf(someFiles()...).lay()
	for _, most := range []int{-1, -2, math.MinInt} {
		refuses(t, "good bytes", b, most, api.ErrArg)
		refuses(t, "no bytes", nil, most, api.ErrArg)
		refuses(t, "bad bytes", []byte("bad"), most, api.ErrArg)
	}
	tells(t, "no file, no byte", planOf().lay(), 0, nil)
	refuses(t, "no bytes", nil, 0, api.ErrShort)
	refuses(t, "no bytes", []byte{}, math.MaxInt, api.ErrShort)
}

// P6.2
func TestWhereTheEndIs(t *testing.T) {
	files := someFiles()
	good := planOf(files...).lay()
	end := string(planOf().lay())
	for _, n := range []int{0, 1, 2, 21, 22, 23, 255, 256, 300, 65534, 65535} {
		// Of marks with such numbers, none has as many bytes behind.
		for _, fill := range []string{"x", "\x00", "PK\x05\x06" + strings.Repeat("\xff", 18), "PK\x01\x02"} {
			p := planOf(files...)
			p.end.remark = strings.Repeat(fill, n)[:n]
			b := p.settle().lay()
			tells(t, fmt.Sprintf("%d bytes of %q behind", n, fill), b, plenty, files)
			refuses(t, fmt.Sprintf("%d of %q behind and one more", n, fill), append(slices.Clone(b), 'x'), plenty, api.ErrShort)
			refuses(t, fmt.Sprintf("%d of %q behind less one", n, fill), b[:len(b)-1], plenty, api.ErrShort)
		}
	}
	for _, x := range []struct {
		what string
		b    string
		want api.Errno
	}{
		{"21 bytes", end[:21], api.ErrShort},
		{"its mark alone", end[:4], api.ErrShort},
		{"another mark", "PK\x05\x07" + end[4:], api.ErrShort},
		{"another mark", "QK\x05\x06" + end[4:], api.ErrShort},
		{"another mark", "Pk\x05\x06" + end[4:], api.ErrShort},
		{"another mark", "PK\x06\x06" + end[4:], api.ErrShort},
		{"65536 bytes behind", end + strings.Repeat("x", 65536), api.ErrShort},
		{"65536 bytes behind, told as 65535", end[:20] + "\xff\xff" + strings.Repeat("x", 65536), api.ErrShort},
		{"two, of which the first counts no bytes ahead", end + end, api.ErrForm},
		{"two files' ends", string(good) + string(good), api.ErrForm},
		{"an end that counts the end behind it", end[:20] + "\x16\x00" + end, api.ErrForm},
		{"an end that counts a bad one behind it", end[:20] + "\x16\x00" + end[:20] + "\x01\x00", api.OK},
		{"an end that counts bytes behind it and a piece of one", end[:20] + "\x15\x00" + end[:21], api.OK},
	} {
		answers(t, x.what, []byte(x.b), plenty, x.want, nil)
	}
}

// Of several ends the last one counts, even if it is the bytes behind another one.
func TestTheLastEndIsTheEnd(t *testing.T) {
	outer := planOf(file("outer", "one"))
	inner := planOf(file("inner", "two"))
	for i := range inner.pieces {
		inner.pieces[i].entry.where = 0
	}
	ahead := outer.lay()
	inner.ahead = slices.Clone(ahead)
	b := inner.settle().lay()
	behind := len(b) - len(ahead)
	b[len(ahead)-2], b[len(ahead)-1] = byte(behind), byte(behind>>8)
	tells(t, "both count all bytes behind", b, plenty, []api.File{file("inner", "two")})
	b[len(b)-1]++
	tells(t, "only the first does", b, plenty, []api.File{file("outer", "one")})
}

// turn is one thing that is turned by itself in a plan, and what is asked for.
type turn struct {
	what string
	turn func(p *plan)
	want api.Errno
}

func turnsOfTheEnd() []turn {
	return []turn{
		{"nothing", func(p *plan) {}, api.OK},
		{"its disk", func(p *plan) { p.end.disk = 1 }, api.ErrForm},
		{"its disk, high", func(p *plan) { p.end.disk = 256 }, api.ErrForm},
		{"the entries' disk", func(p *plan) { p.end.entriesDisk = 1 }, api.ErrForm},
		{"the entries' disk, high", func(p *plan) { p.end.entriesDisk = 0x8000 }, api.ErrForm},
		{"one more here", func(p *plan) { p.end.many++ }, api.ErrForm},
		{"one more in all", func(p *plan) { p.end.again++ }, api.ErrForm},
		{"one less here", func(p *plan) { p.end.many-- }, api.ErrForm},
		{"one less in all", func(p *plan) { p.end.again-- }, api.ErrForm},
		{"256 more in all", func(p *plan) { p.end.again += 256 }, api.ErrForm},
		{"one more of both", func(p *plan) { p.end.many++; p.end.again++ }, api.ErrForm},
		{"one less of both", func(p *plan) { p.end.many--; p.end.again-- }, api.ErrForm},
		{"none of both", func(p *plan) { p.end.many, p.end.again = 0, 0 }, api.ErrForm},
		{"MaxFiles", func(p *plan) { p.end.many, p.end.again = api.MaxFiles, api.MaxFiles }, api.ErrForm},
		{"MaxFiles and one", func(p *plan) { p.end.many, p.end.again = api.MaxFiles+1, api.MaxFiles+1 }, api.ErrFull},
		{"as many as can be told", func(p *plan) { p.end.many, p.end.again = 65535, 65535 }, api.ErrFull},
		{"MaxFiles and one, unlike", func(p *plan) { p.end.many, p.end.again = api.MaxFiles+1, api.MaxFiles+2 }, api.ErrForm},
		{"MaxFiles and one, a disk", func(p *plan) { p.end.many, p.end.again, p.end.disk = 65, 65, 1 }, api.ErrForm},
		{"MaxFiles and one, bytes", func(p *plan) { p.end.many, p.end.again, p.end.size = 65, 65, 0 }, api.ErrForm},
		{"one byte more", func(p *plan) { p.end.size++ }, api.ErrForm},
		{"one byte less", func(p *plan) { p.end.size-- }, api.ErrForm},
		{"2^24 bytes more", func(p *plan) { p.end.size += 1 << 24 }, api.ErrForm},
		{"from one farther", func(p *plan) { p.end.from++ }, api.ErrForm},
		{"from one nearer", func(p *plan) { p.end.from-- }, api.ErrForm},
		{"from 2^31 farther", func(p *plan) { p.end.from += 1 << 31 }, api.ErrForm},
		{"from one farther, one byte less", func(p *plan) { p.end.from++; p.end.size-- }, api.ErrForm},
		{"from one nearer, one byte more", func(p *plan) { p.end.from--; p.end.size++ }, api.ErrForm},
		{"no bytes, from where it begins", func(p *plan) { p.end.from += p.end.size; p.end.size = 0 }, api.ErrForm},
		{"a sum that would wrap in 32 bits", func(p *plan) { p.end.from += 1 << 31; p.end.size += 1 << 31 }, api.ErrForm},
		{"from 0, bytes all", func(p *plan) { p.end.size += p.end.from; p.end.from = 0 }, api.ErrForm},
		{"something ahead of it", func(p *plan) { p.spare = []byte{0}; p.settle() }, api.ErrForm},
		{"an entry ahead of it that is not counted", func(p *plan) { p.spare = p.pieces[0].entry.laid(); p.settle() }, api.ErrForm},
		{"something ahead of it that is not counted", func(p *plan) { p.spare = []byte{0} }, api.ErrForm},
	}
}

// P6.2
func TestTheEndTurned(t *testing.T) {
	files := someFiles()
	for _, x := range turnsOfTheEnd() {
		p := planOf(files...)
		x.turn(p)
		answers(t, x.what, p.lay(), plenty, x.want, files)
	}
	p := planOf()
	p.spare = []byte("x")
	refuses(t, "no file, something ahead of the end", p.settle().lay(), plenty, api.ErrForm)
	p.end.size, p.end.from = 0, 1
	tells(t, "no file, something ahead of no entries", p.lay(), plenty, nil)
}

// P6.2
func TestReadFull(t *testing.T) {
	for _, many := range []int{0, 1, 2, api.MaxFiles - 1, api.MaxFiles} {
		files := manyFiles(many)
		tells(t, fmt.Sprint(many), planOf(files...).lay(), 0, files)
	}
	refuses(t, "one more", planOf(manyFiles(api.MaxFiles+1)...).lay(), 0, api.ErrFull)
	refuses(t, "256 and one", planOf(manyFiles(257)...).lay(), 0, api.ErrFull)
}

// turnsOfAFile is what can be turned in a file's entry or in its head, of a piece with bytes.
func turnsOfAFile(i int) []turn {
	entry := func(f func(x *told)) func(*plan) { return func(p *plan) { f(&p.pieces[i].entry) } }
	head := func(f func(x *told)) func(*plan) { return func(p *plan) { f(&p.pieces[i].head) } }
	both := func(f func(x *told)) func(*plan) { return func(p *plan) { p.both(i, f) } }
	return []turn{
		{"its mark", entry(func(x *told) { x.mark = "PK\x01\x03" }), api.ErrForm},
		{"its mark, a file's", entry(func(x *told) { x.mark = "PK\x03\x04" }), api.ErrForm},
		{"its mark, the first byte", entry(func(x *told) { x.mark = "pK\x01\x02" }), api.ErrForm},
		{"made by", entry(func(x *told) { x.madeBy = 0xffff }), api.OK},
		{"needs", entry(func(x *told) { x.needs = 0xffff }), api.OK},
		{"time", entry(func(x *told) { x.time = 0xffff }), api.OK},
		{"date", entry(func(x *told) { x.date = 0xffff }), api.OK},
		{"inside", entry(func(x *told) { x.inside = 0xffff }), api.OK},
		{"outside", entry(func(x *told) { x.outside = 0xffffffff }), api.OK},
		{"disk", entry(func(x *told) { x.disk = 1 }), api.ErrForm},
		{"disk, high", entry(func(x *told) { x.disk = 0x100 }), api.ErrForm},
		{"flag 8 in it alone", entry(func(x *told) { x.flags = 8 }), api.ErrForm},
		{"flag 2048 in it alone", entry(func(x *told) { x.flags = 2048 }), api.ErrForm},
		{"flag 8 in its head alone", head(func(x *told) { x.flags = 8 }), api.ErrForm},
		{"flag 2048 in its head alone", head(func(x *told) { x.flags = 2048 }), api.ErrForm},
		{"flag 1 in its head alone", head(func(x *told) { x.flags = 1 }), api.ErrForm},
		{"method in it alone", entry(func(x *told) { x.method ^= 8 }), api.ErrForm},
		{"method in its head alone", head(func(x *told) { x.method ^= 8 }), api.ErrForm},
		{"sum in it alone", entry(func(x *told) { x.sum ^= 1 }), api.ErrForm},
		{"sum in its head alone", head(func(x *told) { x.sum ^= 1 << 31 }), api.ErrForm},
		{"sum in both", both(func(x *told) { x.sum ^= 1 << 31 }), api.ErrSum},
		{"bytes in there, in it alone", entry(func(x *told) { x.packed-- }), api.ErrForm},
		{"bytes in there, in its head alone", head(func(x *told) { x.packed-- }), api.ErrForm},
		{"bytes in there, in its head alone", head(func(x *told) { x.packed += 1 << 24 }), api.ErrForm},
		{"bytes, in it alone", entry(func(x *told) { x.size-- }), api.ErrForm},
		{"bytes, in its head alone", head(func(x *told) { x.size ^= 1 << 31 }), api.ErrForm},
		{"bytes in both, one more", both(func(x *told) { x.size++ }), api.ErrForm},
		{"bytes in both, one less", both(func(x *told) { x.size-- }), api.ErrForm},
		{"bytes in there, in both, one more", both(func(x *told) { x.packed++ }), api.ErrForm},
		{"bytes in there, in both, far more", both(func(x *told) { x.packed = 0xffffffff }), api.ErrForm},
		{"name's bytes, one more", entry(func(x *told) { x.nameSize++ }), api.ErrForm},
		{"name's bytes, one more in its head", head(func(x *told) { x.nameSize++ }), api.ErrForm},
		{"name's bytes, one less in its head", head(func(x *told) { x.nameSize-- }), api.ErrForm},
		{"name's bytes, none in its head", head(func(x *told) { x.nameSize = 0 }), api.ErrForm},
		{"name's bytes, most in its head", head(func(x *told) { x.nameSize = 65535 }), api.ErrForm},
		{"another name", entry(func(x *told) { x.name = "Q" + x.name[1:] }), api.ErrForm},
		{"another name in its head", head(func(x *told) { x.name = x.name[:len(x.name)-1] + "Q" }), api.ErrForm},
		{"no name", both(func(x *told) { x.name = " " + x.name[1:] }), api.ErrName},
		{"no name in it alone", entry(func(x *told) { x.name = "/" + x.name[1:] }), api.ErrName},
		{"no name in its head alone", head(func(x *told) { x.name = "/" + x.name[1:] }), api.ErrForm},
		{"more, most", entry(func(x *told) { x.moreSize = 65535 }), api.ErrForm},
		{"remark, most", entry(func(x *told) { x.remarkSize = 65535 }), api.ErrForm},
		{"more, most, in its head", head(func(x *told) { x.moreSize = 65535 }), api.ErrForm},
		{"where, one farther", entry(func(x *told) { x.where++ }), api.ErrForm},
		{"where, 2^31 farther", entry(func(x *told) { x.where += 1 << 31 }), api.ErrForm},
		{"where, farthest", entry(func(x *told) { x.where = 0xffffffff }), api.ErrForm},
		{"where the entries begin", func(p *plan) { p.pieces[i].entry.where = p.end.from }, api.ErrForm},
		{"where 29 bytes are left", func(p *plan) { p.pieces[i].entry.where = p.end.from - 29 }, api.ErrForm},
		{"where 30 bytes are left", func(p *plan) { p.pieces[i].entry.where = p.end.from - 30 }, api.ErrForm},
		{"its head's mark", head(func(x *told) { x.mark = "PK\x03\x05" }), api.ErrForm},
		{"its head's mark, an entry's", head(func(x *told) { x.mark = "PK\x01\x02" }), api.ErrForm},
		{"its head's mark, the first byte", head(func(x *told) { x.mark = "QK\x03\x04" }), api.ErrForm},
		{"its head's first number", head(func(x *told) { x.needs = 0xffff }), api.OK},
		{"its head's time", head(func(x *told) { x.time = 0xffff }), api.OK},
		{"its head's date", head(func(x *told) { x.date = 0xffff }), api.OK},
	}
}

// P6.2: each by itself, in the first, a middle and the last entry, of both methods.
func TestAFileTurned(t *testing.T) {
	files := someFiles()
	for _, i := range []int{0, 1, 3} {
		for _, x := range turnsOfAFile(i) {
			p := planOf(files...)
			x.turn(p)
			answers(t, fmt.Sprint(i, ": ", x.what), p.lay(), plenty, x.want, files)
		}
	}
}

// P6.2
func TestFlags(t *testing.T) {
	files := someFiles()
	for i := range files {
		for flags := range 1 << 16 {
			if flags&^2056 != 0 && flags&(flags-1) != 0 && flags%97 != 0 {
				continue // single ones, those that may be, and some of the others
			}
			p := planOf(files...)
			p.both(i, func(x *told) { x.flags = flags })
			want := api.ErrForm
			switch flags {
			case 0, 8, 2048, 2056:
				want = api.OK
			}
			answers(t, fmt.Sprint("flags ", flags), p.lay(), plenty, want, files)
		}
	}
}

// P6.2
func TestMethods(t *testing.T) {
	files := someFiles()
	for i := range files {
		for _, method := range []int{1, 2, 3, 4, 5, 6, 7, 9, 10, 12, 14, 16, 24, 99, 256, 264, 2048, 0x8000, 65535} {
			p := planOf(files...)
			p.both(i, func(x *told) { x.method = method })
			refuses(t, fmt.Sprint("method ", method), p.lay(), plenty, api.ErrForm)
		}
	}
	for _, f := range files {
		p := planOf()
		p.add(f.Name, 0, f.Data, f.Data)
		p.add("again", 8, f.Data, deflate.Bytes(f.Data))
		p.add("stored", 8, f.Data, deflate.Stored(f.Data))
		want := []api.File{f, {Name: "again", Data: f.Data}, {Name: "stored", Data: f.Data}}
		tells(t, "any method, whichever has fewer bytes", p.settle().lay(), plenty, want)
	}
}

// P6.2: Sum and numbers of a head with the flag 8 are not looked at, all else is.
func TestNumbersThatStandBehind(t *testing.T) {
	files := someFiles()
	for _, flags := range []int{8, 2056} {
		for i := range files {
			late := planOf(files...)
			late.both(i, func(x *told) { x.flags = flags })
			h := &late.pieces[i].head
			for _, v := range []int{0, 1, 77, 0xffffffff} {
				h.sum, h.packed, h.size = v, v, v
				tells(t, fmt.Sprint("numbers of ", v), late.lay(), plenty, files)
			}
			late.pieces[i].behind = []byte("PK\x07\x08 and twelve")
			late.settle()
			h.sum, h.packed, h.size = 0, 0, 0
			tells(t, "and something behind", late.lay(), plenty, files)
			h.nameSize++
			refuses(t, "another name's number", late.lay(), plenty, api.ErrForm)
			h.nameSize--
			late.pieces[i].entry.sum ^= 1
			refuses(t, "another Sum in the entry", late.lay(), plenty, api.ErrSum)
		}
	}
	for i := range files {
		p := planOf(files...)
		p.both(i, func(x *told) { x.flags = 2048 })
		p.pieces[i].head.sum ^= 1
		refuses(t, "the flag 2048 does not pass over a Sum", p.lay(), plenty, api.ErrForm)
	}
}

// P6.2: what may stand there, and is passed over.
func TestWhatIsPassedOver(t *testing.T) {
	files := someFiles()
	for _, n := range []int{1, 2, 45, 46, 300, 65535} {
		text := strings.Repeat("PK\x01\x02 more", n)[:n]
		for i := range files {
			for what, turn := range map[string]func(x *piece){
				"more in the entry": func(x *piece) { x.entry.more = text },
				"a remark":          func(x *piece) { x.entry.remark = text },
				"both":              func(x *piece) { x.entry.more, x.entry.remark = text, text[1:] },
				"more in the head":  func(x *piece) { x.head.more = text },
				"all three":         func(x *piece) { x.entry.more, x.entry.remark, x.head.more = text[1:], text, text },
				"behind the bytes":  func(x *piece) { x.behind = []byte(text) },
			} {
				p := planOf(files...)
				turn(&p.pieces[i])
				tells(t, fmt.Sprint(n, " bytes of ", what), p.settle().lay(), plenty, files)
			}
		}
		p := planOf(files...)
		p.ahead = []byte(text)
		tells(t, fmt.Sprint(n, " bytes ahead of all"), p.settle().lay(), plenty, files)
	}
}

// P6.2: of more and of a remark just so many bytes stand ahead of what is next.
func TestMoreAndRemarkAreJustSoMany(t *testing.T) {
	files := someFiles()
	for i := range files {
		for _, by := range []int{-1, 1} {
			p := planOf(files...)
			p.pieces[i].entry.more, p.pieces[i].entry.remark = "some more", "a remark"
			p.settle()
			more, remark := p.copy(), p.copy()
			more.pieces[i].entry.moreSize += by
			refuses(t, fmt.Sprint("more of entry ", i, " by ", by), more.lay(), plenty, api.ErrForm)
			remark.pieces[i].entry.remarkSize += by
			refuses(t, fmt.Sprint("a remark of entry ", i, " by ", by), remark.lay(), plenty, api.ErrForm)
			// Taken together it is as many.
			more.pieces[i].entry.remarkSize -= by
			tells(t, "one more and one less", more.lay(), plenty, files)
		}
	}
}

// P6.2: the entry and the file stand there whole, to the last byte.
func TestWholeToTheLastByte(t *testing.T) {
	p := planOf(file("abc", "hello"))
	for n := range 46 + 3 {
		cut := p.copy()
		entry := cut.pieces[0].entry.laid()[:n]
		b := slices.Concat(cut.pieces[0].head.file(), cut.pieces[0].bytes, entry)
		cut.end.size = n
		refuses(t, fmt.Sprint("an entry of ", n, " bytes"), append(b, cut.end.laid()...), plenty, api.ErrForm)
	}
	for n := range 30 + 3 + 5 {
		cut := p.copy()
		whole := slices.Concat(cut.pieces[0].head.file(), cut.pieces[0].bytes)[:n]
		cut.end.from = n
		refuses(t, fmt.Sprint("a file of ", n, " bytes"), slices.Concat(whole, cut.entries(), cut.end.laid()), plenty, api.ErrForm)
	}
	p.pieces[0].head.more = "more"
	p.settle().pieces[0].head.moreSize++
	refuses(t, "one more behind the name, so that one byte lies in the entry", p.lay(), plenty, api.ErrForm)
	p.pieces[0].behind = []byte("x")
	p.settle().pieces[0].head.moreSize++
	refuses(t, "one more behind the name, so that other bytes are its", p.lay(), plenty, api.ErrSum)
}

// P6.2
func TestReadNames(t *testing.T) {
	asks := func(name string, want api.Errno) {
		t.Helper()
		files := []api.File{file("first", "1"), file(name, "x"), file("last", "2")}
		answers(t, fmt.Sprintf("%.250q", name), planOf(files...).lay(), plenty, want, files)
	}
	for _, name := range goodNames() {
		asks(name, api.OK)
	}
	for _, name := range badNames() {
		asks(name, api.ErrName)
	}
	byteNames(func(name string, good bool) {
		want := api.OK
		if !good {
			want = api.ErrName
		}
		asks(name, want)
	})
}

// P6.2
func TestReadHas(t *testing.T) {
	refuses(t, "next to it", planOf(file("a", "1"), file("a", "2")).lay(), plenty, api.ErrHas)
	refuses(t, "the very same", planOf(file("a", "1"), file("a", "1")).lay(), plenty, api.ErrHas)
	twice := manyFiles(api.MaxFiles)
	twice[api.MaxFiles-1].Name = twice[0].Name
	refuses(t, "first and last", planOf(twice...).lay(), plenty, api.ErrHas)
	p := planOf(file("a", "1"), file("b", "2"))
	p.pieces[1].entry = p.pieces[0].entry
	refuses(t, "two entries of one file", p.lay(), plenty, api.ErrHas)
	files := []api.File{file("a", "1"), file("A", "2"), file("a/a", "3"), file("aa", "4")}
	tells(t, "another size of letters", planOf(files...).lay(), plenty, files)
}

// P6.2
func TestReadMost(t *testing.T) {
	r := rand.New(rand.NewSource(5))
	for range 100 {
		files := drawFiles(r, 1+r.Intn(6))
		b := planOf(files...).lay()
		n := total(files)
		for _, most := range []int{n, n + 1, plenty, math.MaxInt} {
			tells(t, fmt.Sprint(n, " bytes of ", most), b, most, files)
		}
		for most := range n {
			if most < n-1 && r.Intn(50) > 0 {
				continue
			}
			refuses(t, fmt.Sprint(n, " bytes of ", most), b, most, api.ErrLong)
		}
	}
	great := []api.File{{Name: "a", Data: make([]byte, 3*api.MaxOut)}, {Name: "b", Data: []byte("x")}}
	tells(t, "more than may be written", planOf(great...).lay(), 3*api.MaxOut+1, great)
	refuses(t, "more than may be written", planOf(great...).lay(), 3*api.MaxOut, api.ErrLong)
}

// What an entry says it has counts, whatever comes out; and it is no memory.
func TestBytesThatAreOnlySaid(t *testing.T) {
	for _, size := range []int{1 << 21, 1 << 31, 1<<32 - 1} {
		p := planOf(file("a", strings.Repeat("a", 100)), file("b", ""))
		p.both(0, func(x *told) { x.size = size })
		refuses(t, "said, within most", p.lay(), math.MaxInt, api.ErrForm)
		refuses(t, "said, within most", p.lay(), size, api.ErrForm)
		refuses(t, "said, above most", p.lay(), size-1, api.ErrLong)
	}
	p := planOf(manyFiles(api.MaxFiles)...)
	for i := range p.pieces {
		p.both(i, func(x *told) { x.size = 1<<32 - 1 })
	}
	refuses(t, "all of them", p.lay(), math.MaxInt, api.ErrForm)
}

// streams of which chapter 4 tells each of its errors, with ten bytes as most.
func badStreams() []struct {
	what string
	b    string
	want api.Errno
} {
	return []struct {
		what string
		b    string
		want api.Errno
	}{
		{"no byte", "", api.ErrShort},
		{"a block that ends too early", "\x01\x0a\x00\xf5\xff123456789", api.ErrShort},
		{"a last block that is not there", "\x00\x0a\x00\xf5\xff1234567890", api.ErrShort},
		{"the kind 3", "\x07", api.ErrForm},
		{"a length whose turned one is another one", "\x01\x0a\x00\xf5\xfe1234567890", api.ErrForm},
		{"codes that are no set of codes", "\x05\x00\xff\xff\xff\xff\xff\xff", api.ErrLinked},
		{"farther back than there are bytes", "\x03\x02\x00\x00", api.ErrDistance},
		{"a byte more than it is to have", "\x01\x0b\x00\xf4\xff12345678901", api.ErrForm},
		{"a byte less", "\x01\x09\x00\xf6\xff123456789", api.ErrForm},
		{"none of ten", "\x01\x00\x00\xff\xff", api.ErrForm},
		{"a byte that is not read", "\x01\x0a\x00\xf5\xff1234567890x", api.ErrForm},
		{"a stream that is not read", "\x01\x0a\x00\xf5\xff1234567890\x01\x00\x00\xff\xff", api.ErrForm},
		{"other bytes", "\x01\x0a\x00\xf5\xff1234567891", api.ErrSum},
		{"the very bytes", "\x01\x0a\x00\xf5\xff1234567890", api.OK},
		{"in two blocks", "\x00\x04\x00\xfb\xff1234\x01\x06\x00\xf9\xff567890", api.OK},
	}
}

// P6.2
func TestBytesThatAreDeflated(t *testing.T) {
	data := []byte("1234567890")
	for _, x := range badStreams() {
		p := planOf()
		p.add("a", 0, []byte("ahead"), []byte("ahead"))
		p.add("ten", 8, data, []byte(x.b))
		p.add("b", 0, nil, nil)
		b := p.settle().lay()
		answers(t, x.what, b, plenty, x.want, []api.File{file("a", "ahead"), file("ten", "1234567890"), file("b", "")})
		if x.want != api.OK {
			refuses(t, x.what+", and too long", b, 14, api.ErrLong)
			p.both(1, func(x *told) { x.sum ^= 5 })
			refuses(t, x.what+", and another Sum", p.lay(), plenty, x.want)
		}
	}
}

// P6.2
func TestSums(t *testing.T) {
	files := someFiles()
	for i, f := range files {
		for bit := range 32 {
			p := planOf(files...)
			p.both(i, func(x *told) { x.sum ^= 1 << bit })
			refuses(t, fmt.Sprint("file ", i, ", bit ", bit), p.lay(), plenty, api.ErrSum)
		}
		p := planOf(files...)
		if x := p.pieces[i]; x.entry.method == 0 && len(f.Data) > 0 {
			x.bytes = slices.Clone(x.bytes)
			x.bytes[0] ^= 1
			p.pieces[i] = x
			refuses(t, "another byte", p.lay(), plenty, api.ErrSum)
		}
	}
}

// Others write what is read, with numbers behind the bytes.
func TestWhatTheLibraryWrites(t *testing.T) {
	r := rand.New(rand.NewSource(6))
	for range 50 {
		files := drawFiles(r, r.Intn(20))
		var b bytes.Buffer
		z := stdzip.NewWriter(&b)
		for i, f := range files {
			h := &stdzip.FileHeader{Name: f.Name, Method: uint16(8 * (i % 2)), Comment: strings.Repeat("é", i), Modified: time.Unix(1e9, 0)}
			w, err := z.CreateHeader(h)
			if err != nil {
				t.Fatal(err)
			}
			w.Write(f.Data)
		}
		z.SetComment("a remark")
		z.Close()
		tells(t, "the library's", b.Bytes(), total(files), files)
	}
}
