package crc

import "keepsake/api"

// Hash is a sum that goes on; a zero one is as a new one, for the sum of no bytes is 0.
type Hash struct {
	sum  uint32
	size int
}

// New is a sum of no bytes.
func New() *Hash { return &Hash{} }

// Write goes on with texts.
func (h *Hash) Write(b ...[]byte) api.Errno {
	if h == nil {
		return api.ErrNil
	}
	for _, text := range b {
		h.sum = More(h.sum, text...)
		h.size += len(text)
	}
	return api.OK
}

// Sum tells the sum so far.
func (h *Hash) Sum() uint32 {
	if h == nil {
		return 0
	}
	return h.sum
}

// Len tells how many bytes there were.
func (h *Hash) Len() int {
	if h == nil {
		return 0
	}
	return h.size
}

// Reset begins anew.
func (h *Hash) Reset() api.Errno {
	if h == nil {
		return api.ErrNil
	}
	*h = Hash{}
	return api.OK
}

// Copy is another sum that goes on from here.
func (h *Hash) Copy() *Hash {
	if h == nil {
		return nil
	}
	c := *h
	return &c
}
