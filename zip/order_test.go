package zip

import (
	"bytes"
	"fmt"
	"testing"

	"rubricator/api"
	"rubricator/deflate"
)

// fault is one thing that is wrong with a file, in the order in which the chapter names them.
type fault struct {
	what string
	want api.Errno
	// bytes is what stands there instead of the file's bytes, laid ahead of all numbers.
	bytes []byte
	turn  func(x *piece)
}

// faults is of files that are deflated, with names of three bytes, behind one whose name is had.
func faults() []fault {
	both := func(f func(x *told)) func(*piece) { return func(x *piece) { f(&x.head); f(&x.entry) } }
	none := func(x *piece) {}
	return []fault{
		{"an entry's mark", api.ErrForm, nil, func(x *piece) { x.entry.mark = "PK\x01\x01" }},
		{"a flag", api.ErrForm, nil, both(func(x *told) { x.flags = 1 })},
		{"a method", api.ErrForm, nil, both(func(x *told) { x.method = 9 })},
		{"more that is not there", api.ErrForm, nil, func(x *piece) { x.entry.moreSize = 60000 }},
		{"a remark that is not there", api.ErrForm, nil, func(x *piece) { x.entry.remarkSize = 60000 }},
		{"a disk", api.ErrForm, nil, func(x *piece) { x.entry.disk = 1 }},
		{"no name", api.ErrName, nil, both(func(x *told) { x.name = "a/." })},
		{"a name that is had", api.ErrHas, nil, both(func(x *told) { x.name = "had" })},
		{"a head's mark", api.ErrForm, nil, func(x *piece) { x.head.mark = "PK\x03\x03" }},
		{"a file that is elsewhere", api.ErrForm, nil, func(x *piece) { x.entry.where += 5 }},
		{"another head", api.ErrForm, nil, func(x *piece) { x.head.sum ^= 1 }},
		{"a method 0 with unlike numbers", api.ErrForm, nil, both(func(x *told) { x.method = 0 })},
		{"too many bytes", api.ErrLong, nil, both(func(x *told) { x.size += plenty })},
		{"a stream that ends too early", api.ErrShort, []byte("\x01\xc8\x00\x37\xff12"), none},
		{"a stream without codes", api.ErrLinked, []byte("\x05\x00\xff\xff\xff\xff\xff\xff"), none},
		{"a stream that goes too far back", api.ErrDistance, []byte("\x03\x02\x00\x00"), none},
		{"a stream of more", api.ErrForm, deflate.Bytes(bytes.Repeat([]byte("x"), 201)), none},
		{"a stream of less", api.ErrForm, deflate.Bytes(bytes.Repeat([]byte("x"), 199)), none},
		{"a stream that is not all", api.ErrForm, append(deflate.Bytes(bytes.Repeat([]byte("x"), 200)), 0), none},
		{"a Sum", api.ErrSum, nil, both(func(x *told) { x.sum ^= 1 })},
	}
}

// faulty is three files, some faults in some of them.
func faulty(in map[int][]fault) *plan {
	data := bytes.Repeat([]byte("x"), 200)
	p := planOf(file("had", "1"), api.File{Name: "one", Data: data}, api.File{Name: "two", Data: data}, api.File{Name: "end", Data: data})
	for i, all := range in {
		for _, f := range all {
			if f.bytes != nil {
				p.pieces[i].bytes = f.bytes
			}
		}
	}
	p.settle()
	for i, all := range in {
		for _, f := range all {
			f.turn(&p.pieces[i])
		}
	}
	return p
}

// P6.2, W4
func TestEachFaultByItself(t *testing.T) {
	for _, f := range faults() {
		for i := 1; i <= 3; i++ {
			refuses(t, f.what, faulty(map[int][]fault{i: {f}}).lay(), plenty, f.want)
		}
	}
}

// P6.2, W4: of two in one entry the first in the chapter's order. Two that turn the same thing are left out.
func TestTwoFaultsInOneEntry(t *testing.T) {
	all := faults()
	asked := map[[2]api.Errno]int{}
	for a, first := range all {
		for _, second := range all[a+1:] {
			if first.bytes != nil && second.bytes != nil || first.want == api.ErrName && second.want == api.ErrHas {
				continue
			}
			refuses(t, first.what+" and "+second.what, faulty(map[int][]fault{2: {first, second}}).lay(), plenty, first.want)
			asked[[2]api.Errno{first.want, second.want}]++
		}
	}
	for _, pair := range [][2]api.Errno{
		{api.ErrForm, api.ErrName}, {api.ErrForm, api.ErrHas}, {api.ErrForm, api.ErrLong}, {api.ErrForm, api.ErrShort}, {api.ErrForm, api.ErrSum},
		{api.ErrName, api.ErrForm}, {api.ErrName, api.ErrLong}, {api.ErrName, api.ErrLinked}, {api.ErrName, api.ErrSum},
		{api.ErrHas, api.ErrForm}, {api.ErrHas, api.ErrLong}, {api.ErrHas, api.ErrDistance}, {api.ErrHas, api.ErrSum},
		{api.ErrLong, api.ErrShort}, {api.ErrLong, api.ErrForm}, {api.ErrLong, api.ErrSum},
		{api.ErrShort, api.ErrSum}, {api.ErrLinked, api.ErrSum}, {api.ErrDistance, api.ErrSum},
	} {
		if asked[pair] == 0 {
			t.Errorf("error %d ahead of %d was not asked", pair[0], pair[1])
		}
	}
}

// P6.2, W4: of two in two entries that of the entry ahead, whichever it is.
func TestTwoFaultsInTwoEntries(t *testing.T) {
	for _, first := range faults() {
		for _, second := range faults() {
			if first.want == api.ErrForm && second.want == api.ErrForm {
				continue
			}
			for _, k := range [][2]int{{1, 2}, {1, 3}, {2, 3}} {
				b := faulty(map[int][]fault{k[0]: {first}, k[1]: {second}}).lay()
				refuses(t, fmt.Sprint(k, first.what, " and ", second.what), b, plenty, first.want)
			}
		}
	}
}

// P6.2, W4: what is wrong with the end is told first, what stands ahead of it last.
func TestFaultsOfTheEndAndOfAnEntry(t *testing.T) {
	for _, f := range faults() {
		for i := 1; i <= 3; i++ {
			p := faulty(map[int][]fault{i: {f}})
			full := p.copy()
			full.end.many, full.end.again = 65, 65
			refuses(t, f.what+" and too many", full.lay(), plenty, api.ErrFull)
			disk := full.copy()
			disk.end.disk = 1
			refuses(t, f.what+", too many, and a disk", disk.lay(), plenty, api.ErrForm)
			none := p.copy()
			none.end.mark = "PK\x05\x05"
			refuses(t, f.what+" and no end", none.lay(), plenty, api.ErrShort)
			refuses(t, f.what+" and most", p.lay(), -1, api.ErrArg)
			if f.want == api.ErrForm {
				continue
			}
			spare := p.copy()
			spare.spare = []byte("something")
			spare.end.size += len(spare.spare)
			refuses(t, f.what+" and something ahead of the end", spare.lay(), plenty, f.want)
			more := p.copy()
			more.end.many, more.end.again = 5, 5
			refuses(t, f.what+" and an entry that is not there", more.lay(), plenty, f.want)
		}
	}
}

// P6.2: an entry that begins elsewhere than the one ahead says is that entry's fault, behind all of the one ahead.
func TestTheNextEntryIsAskedLater(t *testing.T) {
	for _, f := range faults() {
		if f.want == api.ErrForm {
			continue
		}
		p := faulty(map[int][]fault{1: {f}})
		p.pieces[1].entry.remarkSize = 1
		refuses(t, f.what+" and a remark that reaches into the next entry", p.lay(), plenty, f.want)
	}
}

// P6.2: all bytes by then, of each entry ahead of the next.
func TestTooLongByThen(t *testing.T) {
	data := bytes.Repeat([]byte("x"), 200)
	p := planOf(api.File{Name: "a", Data: data}, api.File{Name: "b", Data: data}, api.File{Name: "c", Data: data})
	p.both(1, func(x *told) { x.sum ^= 1 })
	for _, x := range []struct {
		most int
		want api.Errno
	}{{0, api.ErrLong}, {199, api.ErrLong}, {200, api.ErrLong}, {399, api.ErrLong}, {400, api.ErrSum}, {599, api.ErrSum}, {600, api.ErrSum}} {
		refuses(t, fmt.Sprint("a Sum of the second, ", x.most), p.lay(), x.most, x.want)
	}
}
