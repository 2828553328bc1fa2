package zip

import (
	"slices"

	"rubricator/api"
	"rubricator/crc"
	"rubricator/deflate"
)

// check is what is wrong with files that are to be written.
func check(files []api.File) api.Errno {
	if len(files) > api.MaxFiles {
		return api.ErrFull
	}
	left := api.MaxOut
	for i, f := range files {
		switch {
		case !isName(f.Name):
			return api.ErrName
		case has(files[:i], f.Name):
			return api.ErrHas
		case len(f.Data) > left:
			return api.ErrLong
		}
		left -= len(f.Data)
	}
	return api.OK
}

// pack is what is told of a file, and its bytes as they stand in there.
func pack(f api.File) (facts, []byte) {
	method, data := plain, f.Data
	if small := deflate.Bytes(f.Data); len(small) < len(f.Data) {
		method, data = deflated, small
	}
	return facts{
		method:   method,
		sum:      sumOf(f.Data),
		packed:   len(data),
		size:     len(f.Data),
		nameSize: len(f.Name),
	}, data
}

// fileOf is a file up to its bytes.
func fileOf(told facts, name string) []byte {
	return slices.Concat([]byte(fileMark), numbers(2, version), told.bytes(), []byte(name))
}

// entryOf is the entry of a file that begins somewhere.
func entryOf(told facts, name string, where int) []byte {
	remark, disk, inside, outside := 0, 0, 0, 0
	return slices.Concat(
		[]byte(entryMark), numbers(2, version, version), told.bytes(),
		numbers(2, remark, disk, inside), numbers(4, outside, where), []byte(name))
}

// endOf is the end behind so many entries of so many bytes, which begin somewhere.
func endOf(many, size, from int) []byte {
	disk, entriesDisk, remark := 0, 0, 0
	return slices.Concat(
		[]byte(endMark), numbers(2, disk, entriesDisk, many, many), numbers(4, size, from), numbers(2, remark))
}

// bytes is the facts as they stand in a file's head and in its entry.
func (f facts) bytes() []byte {
	clock := 0
	return slices.Concat(
		numbers(2, f.flags, f.method, clock, firstDay),
		numbers(4, f.sum, f.packed, f.size),
		numbers(2, f.nameSize, f.moreSize))
}

// numbers is some numbers of n bytes each.
func numbers(n int, values ...int) []byte {
	var out []byte
	for _, v := range values {
		out = append(out, crc.Little(v, n)...)
	}
	return out
}
