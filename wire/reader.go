package wire

import "keepsake/api"

// Reader is bytes that are read, one form behind the other; a zero one has none.
type Reader struct {
	bytes []byte
	place int
}

// NewReader is a reader of b.
func NewReader(b []byte) *Reader { return &Reader{bytes: fresh(b)} }

// take reads the next n bytes, which are still the reader's own memory; n is not below 0.
func (r *Reader) take(n int) ([]byte, api.Errno) {
	if n > r.Left() {
		return nil, api.ErrEnd
	}
	b := r.bytes[r.place : r.place+n]
	r.place += n
	return b, api.OK
}

// Byte reads a byte.
func (r *Reader) Byte() (byte, api.Errno) {
	if r == nil {
		return 0, api.ErrNil
	}
	b, e := r.take(1)
	if e != api.OK {
		return 0, e
	}
	return b[0], api.OK
}

// Number reads a number form.
func (r *Reader) Number() (uint64, api.Errno) {
	if r == nil {
		return 0, api.ErrNil
	}
	x, size, e := scanNumber(r.bytes[r.place:])
	r.place += size
	return x, e
}

// Signed reads a signed form.
func (r *Reader) Signed() (int64, api.Errno) {
	x, e := r.Number()
	if e != api.OK {
		return 0, e
	}
	return unfold(x), api.OK
}

// count reads a number form of at most most, which is not below 0.
func (r *Reader) count(most int) (int, api.Errno) {
	n, e := r.Number()
	if e != api.OK {
		return 0, e
	}
	if n > uint64(most) {
		return 0, api.ErrLong
	}
	return int(n), api.OK
}

// Text reads a text form of at most so many bytes.
func (r *Reader) Text(most int) (string, api.Errno) {
	if r == nil {
		return "", api.ErrNil
	}
	if most < 0 {
		return "", api.ErrArg
	}
	// A copy goes ahead, so that what is refused has read nothing.
	ahead := *r
	n, e := ahead.count(most)
	if e != api.OK {
		return "", e
	}
	b, e := ahead.take(n)
	if e != api.OK {
		return "", e
	}
	*r = ahead
	return string(b), api.OK
}

// Raw reads the next n bytes.
func (r *Reader) Raw(n int) ([]byte, api.Errno) {
	if r == nil {
		return nil, api.ErrNil
	}
	if n < 0 {
		return nil, api.ErrArg
	}
	b, e := r.take(n)
	if e != api.OK {
		return nil, e
	}
	return fresh(b), api.OK
}

// Fixed reads a fixed form.
func (r *Reader) Fixed() (uint32, api.Errno) {
	if r == nil {
		return 0, api.ErrNil
	}
	b, e := r.take(4)
	if e != api.OK {
		return 0, e
	}
	return uint32(b[0]) | uint32(b[1])<<8 | uint32(b[2])<<16 | uint32(b[3])<<24, api.OK
}

// Rising reads a rising form of at most so many numbers.
func (r *Reader) Rising(most int) ([]int64, api.Errno) {
	if r == nil {
		return nil, api.ErrNil
	}
	if most < 0 {
		return nil, api.ErrArg
	}
	// A copy goes ahead, so that what is refused has read nothing.
	ahead := *r
	n, e := ahead.count(most)
	if e != api.OK {
		return nil, e
	}
	l, e := ahead.climb(n)
	if e != api.OK {
		return nil, e
	}
	*r = ahead
	return l, api.OK
}

// climb reads the n numbers of a rising form.
func (r *Reader) climb(n int) ([]int64, api.Errno) {
	// Each number takes a byte at least: a count that lies takes no more room than the bytes are worth.
	l := make([]int64, 0, min(n, r.Left()))
	for i := range n {
		var x int64
		var e api.Errno
		if i == 0 {
			x, e = r.Signed()
		} else {
			x, e = r.further(l[i-1])
		}
		if e != api.OK {
			return nil, e
		}
		l = append(l, x)
	}
	return l, api.OK
}

// further reads a number of a rising form that stands behind last.
func (r *Reader) further(last int64) (int64, api.Errno) {
	d, e := r.Number()
	if e != api.OK {
		return 0, e
	}
	x, ok := above(last, d)
	if !ok {
		return 0, api.ErrRising
	}
	return x, api.OK
}

// Place tells how many bytes have been read.
func (r *Reader) Place() int {
	if r == nil {
		return 0
	}
	return r.place
}

// Left tells how many bytes have not been read.
func (r *Reader) Left() int {
	if r == nil {
		return 0
	}
	return len(r.bytes) - r.place
}
