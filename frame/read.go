package frame

import (
	"slices"

	"keepsake/api"
	"keepsake/crc"
	"keepsake/wire"
)

// Read reads the first frame.
func Read(b []byte) (api.Block, int, api.Errno) {
	if len(b) == 0 {
		return api.Block{}, 0, api.ErrShort
	}
	n, e := length(b[tagSize:])
	if e != api.OK {
		return api.Block{}, 0, e
	}
	size := Size(n)
	if len(b) < size {
		return api.Block{}, 0, api.ErrShort
	}
	summed, end := b[:size-sumSize], b[size-sumSize:size]
	if sum, _ := crc.From(end); sum != crc.Sum(summed) {
		return api.Block{}, 0, api.ErrSum
	}
	return api.Block{Tag: b[0], Body: fresh(summed[len(summed)-n:])}, size, api.OK
}

// length reads the number of a body's bytes, with which b begins.
func length(b []byte) (int, api.Errno) {
	// A reader copies what it is handed, and no length has a longer form than the greatest one.
	form := b[:min(len(b), wire.Size(api.MaxFile))]
	n, e := wire.NewReader(form).Number()
	switch {
	case e == api.OK && n <= api.MaxFile:
		return int(n), api.OK
	case e == api.ErrEnd && least(form) <= api.MaxFile:
		return 0, api.ErrShort
	}
	return 0, api.ErrLength
}

// least is the least number whose form goes on behind these bytes: a 1 there, and nothing more. (Behind no bytes it would be 0, which is a length as well as 1 is.)
func least(form []byte) uint64 {
	x, _ := wire.NewReader(slices.Concat(form, []byte{1})).Number()
	return x
}

// fresh is b in memory of its own, without spare room.
func fresh(b []byte) []byte {
	l := make([]byte, len(b))
	copy(l, b)
	return l
}
