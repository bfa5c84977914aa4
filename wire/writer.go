package wire

import "keepsake/api"

// Writer is bytes that grow; a zero one is as a new one.
type Writer struct{ bytes []byte }

// NewWriter is a writer without bytes.
func NewWriter() *Writer { return &Writer{} }

// join lets put lay something behind the bytes that are there.
func (w *Writer) join(put func(b []byte) []byte) api.Errno {
	if w == nil {
		return api.ErrNil
	}
	w.bytes = put(w.bytes)
	return api.OK
}

// Byte writes bytes as they are.
func (w *Writer) Byte(b ...byte) api.Errno {
	return w.join(func(to []byte) []byte { return append(to, b...) })
}

// Number writes the number form of x.
func (w *Writer) Number(x uint64) api.Errno {
	return w.join(func(to []byte) []byte { return putNumber(to, x) })
}

// Signed writes the signed form of x.
func (w *Writer) Signed(x int64) api.Errno {
	return w.join(func(to []byte) []byte { return putNumber(to, fold(x)) })
}

// Text writes the text form of s.
func (w *Writer) Text(s string) api.Errno {
	return w.join(func(to []byte) []byte { return append(putNumber(to, uint64(len(s))), s...) })
}

// Fixed writes the fixed form of x.
func (w *Writer) Fixed(x uint32) api.Errno {
	return w.join(func(to []byte) []byte {
		return append(to, byte(x), byte(x>>8), byte(x>>16), byte(x>>24))
	})
}

// Rising writes the rising form of l, if it rises.
func (w *Writer) Rising(l ...int64) api.Errno {
	if w == nil {
		return api.ErrNil
	}
	if !rises(l) {
		return api.ErrRising
	}
	return w.join(func(to []byte) []byte { return putRising(to, l) })
}

// Len tells how many bytes there are.
func (w *Writer) Len() int {
	if w == nil {
		return 0
	}
	return len(w.bytes)
}

// Bytes tells the bytes that there are.
func (w *Writer) Bytes() []byte {
	if w == nil {
		return nil
	}
	return fresh(w.bytes)
}

// fresh is b in memory of its own, without spare room.
func fresh(b []byte) []byte {
	l := make([]byte, len(b))
	copy(l, b)
	return l
}
