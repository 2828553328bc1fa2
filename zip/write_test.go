package zip

import (
	stdzip "archive/zip"
	"bytes"
	"fmt"
	"io"
	"math/rand"
	"slices"
	"strings"
	"testing"

	"rubricator/api"
	"rubricator/deflate"
)

func file(name, data string) api.File { return api.File{Name: name, Data: []byte(data)} }

func draw(r *rand.Rand, n, kinds int) []byte {
	p := make([]byte, n)
	for i := range p {
		p[i] = byte(r.Intn(kinds))
	}
	return p
}

// drawFiles is some files, of which some become small.
func drawFiles(r *rand.Rand, many int) []api.File {
	var files []api.File
	for i := range many {
		name := fmt.Sprint("f", i, strings.Repeat("/x", r.Intn(9)))
		files = append(files, api.File{Name: name, Data: draw(r, r.Intn(1<<r.Intn(11)), 1+r.Intn(256))})
	}
	return files
}

// manyFiles is so many files of no byte.
func manyFiles(many int) []api.File {
	var files []api.File
	for i := range many {
		files = append(files, api.File{Name: fmt.Sprint("f", i)})
	}
	return files
}

func writes(t *testing.T, what string, files ...api.File) []byte {
	t.Helper()
	b, e := Write(files...)
	if e != api.OK {
		t.Fatalf("%s: error %d", what, e)
	}
	return b
}

func refusesToWrite(t *testing.T, what string, want api.Errno, files ...api.File) {
	t.Helper()
	if b, e := Write(files...); e != want || len(b) != 0 {
		t.Errorf("%s: %d bytes, error %d, want error %d", what, len(b), e, want)
	}
}

// P6.1
func TestWriteOfNoFile(t *testing.T) {
	want := "PK\x05\x06" + strings.Repeat("\x00", 18)
	if b := writes(t, "none"); len(b) != 22 || string(b) != want {
		t.Errorf("%q, want %q", b, want)
	}
	if b := writes(t, "a list of none", []api.File{}...); string(b) != want {
		t.Errorf("%q, want %q", b, want)
	}
}

// P6.1: all bytes as they stand in the chapter, written down here one by one.
func TestWriteByteByByte(t *testing.T) {
	long := strings.Repeat("text ", 500)
	small := string(deflate.Bytes([]byte(long)))
	if len(small) >= 256 {
		t.Fatal(len(small))
	}
	n := string([]byte{byte(len(small))})
	sum := string(row{}.four(sumOf([]byte(long))))
	begin := string(row{}.four(30 + 5 + 5))
	from := 30 + 5 + 5 + 30 + 6 + len(small)
	want := "PK\x03\x04" + "\x14\x00" + "\x00\x00" + "\x00\x00" + "\x00\x00" + "\x21\x00" +
		"\x86\xa6\x10\x36" + "\x05\x00\x00\x00" + "\x05\x00\x00\x00" + "\x05\x00" + "\x00\x00" + "a.xml" + "hello" +
		"PK\x03\x04" + "\x14\x00" + "\x00\x00" + "\x08\x00" + "\x00\x00" + "\x21\x00" +
		sum + n + "\x00\x00\x00" + "\xc4\x09\x00\x00" + "\x06\x00" + "\x00\x00" + "word/b" + small +
		"PK\x01\x02" + "\x14\x00" + "\x14\x00" + "\x00\x00" + "\x00\x00" + "\x00\x00" + "\x21\x00" +
		"\x86\xa6\x10\x36" + "\x05\x00\x00\x00" + "\x05\x00\x00\x00" + "\x05\x00" + "\x00\x00" +
		"\x00\x00" + "\x00\x00" + "\x00\x00" + "\x00\x00\x00\x00" + "\x00\x00\x00\x00" + "a.xml" +
		"PK\x01\x02" + "\x14\x00" + "\x14\x00" + "\x00\x00" + "\x08\x00" + "\x00\x00" + "\x21\x00" +
		sum + n + "\x00\x00\x00" + "\xc4\x09\x00\x00" + "\x06\x00" + "\x00\x00" +
		"\x00\x00" + "\x00\x00" + "\x00\x00" + "\x00\x00\x00\x00" + begin + "word/b" +
		"PK\x05\x06" + "\x00\x00" + "\x00\x00" + "\x02\x00" + "\x02\x00" +
		string(row{}.four(46+5+46+6, from)) + "\x00\x00"
	if b := writes(t, "two", file("a.xml", "hello"), file("word/b", long)); string(b) != want {
		t.Errorf("%q, want %q", b, want)
	}
}

// P6.1
func TestWriteFieldByField(t *testing.T) {
	r := rand.New(rand.NewSource(1))
	for i := range 200 {
		files := drawFiles(r, r.Intn(8))
		if b := writes(t, "drawn", files...); !bytes.Equal(b, planOf(files...).lay()) {
			t.Fatalf("drawn files %d: not as the chapter says", i)
		}
	}
	for _, files := range [][]api.File{
		manyFiles(api.MaxFiles),
		drawFiles(r, api.MaxFiles),
		{{Name: "great", Data: draw(r, api.MaxOut, 256)}},
		{{Name: "greater_than_two_bytes_tell", Data: draw(r, 70000, 3)}, {Name: "b", Data: draw(r, 70000, 256)}, {Name: "c"}},
	} {
		if b := writes(t, files[0].Name, files...); !bytes.Equal(b, planOf(files...).lay()) {
			t.Errorf("%d files from %s on: not as the chapter says", len(files), files[0].Name)
		}
	}
}

// P6.1: method 8 where the bytes become fewer by one, not where they stay as many or become more.
func TestMethodOnlyWhereBytesAreFewer(t *testing.T) {
	r := rand.New(rand.NewSource(2))
	seen := map[int]int{}
	for range 20000 {
		p := draw(r, r.Intn(40), 1+r.Intn(8))
		small := deflate.Bytes(p)
		gain := len(p) - len(small)
		if gain < -1 || gain > 1 || seen[gain] == 50 {
			continue
		}
		seen[gain]++
		b := writes(t, "one", api.File{Name: "a", Data: p})
		method, in := 0, p
		if gain > 0 {
			method, in = 8, small
		}
		if int(b[8]) != method || !bytes.Equal(b[31:31+len(in)], in) || int(b[18]) != len(in) || int(b[22]) != len(p) {
			t.Errorf("%v, made fewer by %d: %v", p, gain, b)
		}
	}
	if seen[-1] != 50 || seen[0] != 50 || seen[1] != 50 {
		t.Errorf("drawn too few: %v", seen)
	}
}

// P6.1
func TestWriteFull(t *testing.T) {
	b := writes(t, "as many as may be", manyFiles(api.MaxFiles)...)
	if len(b) < 22 || b[len(b)-14] != api.MaxFiles {
		t.Errorf("%d bytes", len(b))
	}
	refusesToWrite(t, "one more", api.ErrFull, manyFiles(api.MaxFiles+1)...)
	refusesToWrite(t, "far more", api.ErrFull, manyFiles(70000)...)
	bad := manyFiles(api.MaxFiles + 1)
	bad[0].Name = ""
	bad[1].Name = bad[2].Name
	bad[3].Data = make([]byte, api.MaxOut+1)
	refusesToWrite(t, "one more, and all else", api.ErrFull, bad...)
}

func goodNames() []string {
	return []string{
		"a", "!", "~", "a/b", "a/b/c.xml", "[Content_Types].xml", "_rels/.rels", "...", "a/...", ".../a", ".a", "a.", "..a", "a..",
		"a/.b", "a/b.", "a/..b", "a/b..", "a..b", "a/.../b", ":", "C:", "*?<>|\"'`%", "A", "a/a", "a/A",
		strings.Repeat("a", api.MaxName-1), strings.Repeat("a", api.MaxName), strings.Repeat("a/", api.MaxName/2-1) + "ab",
	}
}

func badNames() []string {
	return []string{
		"", "/", "//", "/a", "a/", "a//b", "//a", "a//", ".", "..", "./a", "../a", "a/.", "a/..", "a/./b", "a/../b", "./.", "/.", "/..",
		" ", "a b", "\\", "a\\b", "\x7f", "a\x7f", "\x20a", "a\x00", "\x00", "a\nb", "\t", "é", "aé", "\x80", "\xff", "日", "a/ /b",
		strings.Repeat("a", api.MaxName+1), strings.Repeat("a/", api.MaxName/2) + "b", strings.Repeat("a", 60000),
	}
}

// byteNames is of each byte the names that have it, and whether they are names.
func byteNames(tell func(name string, good bool)) {
	for v := range 256 {
		c := string([]byte{byte(v)})
		may := v >= 0x21 && v <= 0x7e && v != '\\'
		tell(c, may && c != "/" && c != ".")
		tell("a"+c+"b", may)
		tell(c+"a", may && c != "/")
		tell("a"+c, may && c != "/")
		tell("a/"+c+"/b", may && c != "/" && c != ".")
	}
}

// P6.1
func TestWriteNames(t *testing.T) {
	for _, name := range goodNames() {
		b := writes(t, name, file(name, "x"))
		if string(b[30:30+len(name)]) != name || !modelName(name) {
			t.Errorf("%q: %q", name, b)
		}
	}
	for _, name := range badNames() {
		refusesToWrite(t, fmt.Sprintf("%q", name), api.ErrName, file(name, "x"))
		refusesToWrite(t, fmt.Sprintf("%q behind another one", name), api.ErrName, file("ok", ""), file(name, "x"), file("fine", ""))
	}
	byteNames(func(name string, good bool) {
		want := api.OK
		if !good {
			want = api.ErrName
		}
		if b, e := Write(file(name, "")); e != want || (e != api.OK && len(b) != 0) {
			t.Errorf("%q: error %d, want %d", name, e, want)
		}
	})
}

// P6.1
func TestWriteHas(t *testing.T) {
	refusesToWrite(t, "next to it", api.ErrHas, file("a", "1"), file("a", "2"))
	refusesToWrite(t, "the very same", api.ErrHas, file("a", "1"), file("a", "1"))
	refusesToWrite(t, "first and last", api.ErrHas, file("a", ""), file("b", ""), file("c", ""), file("a", ""))
	twice := manyFiles(api.MaxFiles)
	twice[api.MaxFiles-1].Name = twice[31].Name
	refusesToWrite(t, "far behind", api.ErrHas, twice...)
	writes(t, "another size of letters", file("a", ""), file("A", ""), file("a/a", ""), file("aa", ""))
}

// P6.1
func TestWriteLong(t *testing.T) {
	all := make([]byte, api.MaxOut+1)
	most, more := api.File{Name: "most", Data: all[1:]}, api.File{Name: "more", Data: all}
	writes(t, "all in one", most)
	writes(t, "all in one, and none", file("a", ""), most, file("b", ""))
	refusesToWrite(t, "one more in one", api.ErrLong, more)
	refusesToWrite(t, "one more in the next", api.ErrLong, most, file("b", "1"))
	refusesToWrite(t, "one more ahead", api.ErrLong, file("b", "1"), most)
	half := api.MaxOut / 2
	writes(t, "in halves", api.File{Name: "a", Data: all[:half]}, api.File{Name: "b", Data: all[:half]})
	refusesToWrite(t, "in more than halves", api.ErrLong, api.File{Name: "a", Data: all[:half]}, api.File{Name: "b", Data: all[:half+1]})
	r := rand.New(rand.NewSource(3))
	writes(t, "what stays as it is", api.File{Name: "a", Data: draw(r, api.MaxOut, 256)})
}

// P6.1, W4: by files, and of one file by the errors' order.
func TestWriteErrorsInOrder(t *testing.T) {
	long := make([]byte, api.MaxOut+1)
	for _, x := range []struct {
		what  string
		want  api.Errno
		files []api.File
	}{
		{"no name, too long", api.ErrName, []api.File{{Name: "", Data: long}}},
		{"had, too long", api.ErrHas, []api.File{{Name: "a"}, {Name: "a", Data: long}}},
		{"no name twice", api.ErrName, []api.File{{Name: "a b"}, {Name: "a b"}}},
		{"too long, then no name", api.ErrLong, []api.File{{Name: "a", Data: long}, {Name: ""}}},
		{"too long, then had", api.ErrLong, []api.File{{Name: "a", Data: long}, {Name: "a"}}},
		{"had, then no name", api.ErrHas, []api.File{{Name: "a"}, {Name: "a"}, {Name: ""}}},
		{"no name, then had", api.ErrName, []api.File{{Name: "a"}, {Name: ""}, {Name: "a"}}},
		{"no name, then too long", api.ErrName, []api.File{{Name: ".."}, {Name: "a", Data: long}}},
		{"had, then too long", api.ErrHas, []api.File{{Name: "a"}, {Name: "a"}, {Name: "b", Data: long}}},
		{"too long by the second, then no name", api.ErrLong, []api.File{{Name: "a", Data: long[1:]}, {Name: "b", Data: long[:1]}, {Name: "/"}}},
	} {
		refusesToWrite(t, x.what, x.want, x.files...)
	}
}

// Others read what is written.
func TestTheLibraryReadsWhatIsWritten(t *testing.T) {
	r := rand.New(rand.NewSource(4))
	for range 50 {
		files := drawFiles(r, r.Intn(20))
		b := writes(t, "drawn", files...)
		z, err := stdzip.NewReader(bytes.NewReader(b), int64(len(b)))
		if err != nil {
			t.Fatal(err)
		}
		var got []api.File
		for _, f := range z.File {
			rc, err := f.Open()
			if err != nil {
				t.Fatal(err)
			}
			data, err := io.ReadAll(rc)
			if err != nil {
				t.Fatal(err)
			}
			got = append(got, api.File{Name: f.Name, Data: data})
		}
		if !same(got, files) {
			t.Fatal("the library reads other files")
		}
	}
}

func same(a, b []api.File) bool {
	return slices.EqualFunc(a, b, func(x, y api.File) bool { return x.Name == y.Name && bytes.Equal(x.Data, y.Data) })
}
