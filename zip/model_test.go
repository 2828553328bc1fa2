package zip

import (
	"bytes"
	"encoding/binary"
	"hash/crc32"
	"regexp"
	"strings"

	"rubricator/api"
	"rubricator/inflate"
)

var nameBytes = regexp.MustCompile(`^[!-\[\]-~]{1,200}$`)

// modelName is a name by the chapter's words.
func modelName(name string) bool {
	slashed := "/" + name + "/"
	return nameBytes.MatchString(name) && !strings.Contains(slashed, "//") &&
		!strings.Contains(slashed, "/./") && !strings.Contains(slashed, "/../")
}

// model reads by the chapter's words, one behind the other; all it takes is a row of bytes between a place and a bound.
type model struct {
	b    []byte
	most int
	end  int
	from int
	all  int
	out  []api.File
}

// at is n bytes from a place on, up to a bound.
func (m *model) at(place, n, bound int) (b []byte, whole bool) {
	if place < 0 || place+n > bound {
		return nil, false
	}
	return m.b[place : place+n], true
}

func number(b []byte) int {
	if len(b) == 2 {
		return int(binary.LittleEndian.Uint16(b))
	}
	return int(binary.LittleEndian.Uint32(b))
}

func modelRead(b []byte, most int) ([]api.File, api.Errno) {
	m := &model{b: b, most: most, end: -1}
	if most < 0 {
		return nil, api.ErrArg
	}
	for i := 0; i+22 <= len(b); i++ {
		if bytes.Equal(b[i:i+4], []byte{0x50, 0x4b, 5, 6}) && i+22+number(b[i+20:i+22]) == len(b) {
			m.end = i
		}
	}
	if m.end < 0 {
		return nil, api.ErrShort
	}
	e := b[m.end:]
	m.from = number(e[16:20])
	if !bytes.Equal(e[4:8], make([]byte, 4)) || !bytes.Equal(e[8:10], e[10:12]) || m.from+number(e[12:16]) != m.end {
		return nil, api.ErrForm
	}
	if number(e[8:10]) > 64 {
		return nil, api.ErrFull
	}
	place := m.from
	for range number(e[8:10]) {
		n, err := m.entry(place)
		if err != api.OK {
			return nil, err
		}
		place += n
	}
	if place < m.end {
		return nil, api.ErrForm
	}
	return m.out, api.OK
}

// entry is how many bytes it has; its file is taken.
func (m *model) entry(place int) (int, api.Errno) {
	h, whole := m.at(place, 46, m.end)
	if !whole || string(h[:4]) != "PK\x01\x02" {
		return 0, api.ErrForm
	}
	flags, method := number(h[8:10]), number(h[10:12])
	switch flags {
	case 0, 8, 2048, 2056:
	default:
		return 0, api.ErrForm
	}
	if method != 0 && method != 8 {
		return 0, api.ErrForm
	}
	many := 46 + number(h[28:30]) + number(h[30:32]) + number(h[32:34])
	all, whole := m.at(place, many, m.end)
	if !whole || number(h[34:36]) != 0 {
		return 0, api.ErrForm
	}
	name := string(all[46 : 46+number(h[28:30])])
	if !modelName(name) {
		return 0, api.ErrName
	}
	for _, f := range m.out {
		if f.Name == name {
			return 0, api.ErrHas
		}
	}
	packed, whole := m.file(h, name, number(h[42:46]))
	if !whole {
		return 0, api.ErrForm
	}
	return many, m.take(name, method, h, packed)
}

func (m *model) file(h []byte, name string, place int) ([]byte, bool) {
	f, whole := m.at(place, 30, m.from)
	if !whole || string(f[:4]) != "PK\x03\x04" || !bytes.Equal(f[6:10], h[8:12]) || !bytes.Equal(f[26:28], h[28:30]) {
		return nil, false
	}
	if h[8]&8 == 0 && !bytes.Equal(f[14:26], h[16:28]) {
		return nil, false
	}
	if n, whole := m.at(place+30, len(name), m.from); !whole || string(n) != name {
		return nil, false
	}
	return m.at(place+30+len(name)+number(f[28:30]), number(h[20:24]), m.from)
}

func (m *model) take(name string, method int, h, packed []byte) api.Errno {
	size := number(h[24:28])
	if method == 0 && len(packed) != size {
		return api.ErrForm
	}
	m.all += size
	if m.all > m.most {
		return api.ErrLong
	}
	data := packed
	if method == 8 {
		var n int
		var e api.Errno
		data, n, e = inflate.Bytes(packed, size)
		if e == api.ErrLong {
			return api.ErrForm
		}
		if e != api.OK {
			return e
		}
		if len(data) != size || n != len(packed) {
			return api.ErrForm
		}
	}
	if int(crc32.ChecksumIEEE(data)) != number(h[16:20]) {
		return api.ErrSum
	}
	m.out = append(m.out, api.File{Name: name, Data: data})
	return api.OK
}
