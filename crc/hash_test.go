package crc_test

import (
	"math/rand"
	"testing"

	"keepsake/api"
	"keepsake/crc"
)

// checkHash holds a hash against the text that it must have been given, twice: to ask changes nothing.
func checkHash(t *testing.T, name string, h *crc.Hash, text []byte) {
	t.Helper()
	for range 2 {
		if h.Sum() != sumOf(text) || h.Len() != len(text) {
			t.Fatalf("%s: %x of %d bytes, want %x of %d", name, h.Sum(), h.Len(), sumOf(text), len(text))
		}
	}
}

// hashes are two of no bytes: a new one and a zero one.
func hashes() map[string]*crc.Hash {
	var zero crc.Hash
	return map[string]*crc.Hash{"a new one": crc.New(), "a zero one": &zero}
}

func TestHash(t *testing.T) {
	for name, h := range hashes() {
		checkHash(t, name, h, nil)
		for _, x := range []struct {
			texts [][]byte
			all   string
		}{
			{nil, ""}, {[][]byte{nil}, ""}, {[][]byte{[]byte("1234")}, "1234"}, {[][]byte{nil, []byte("56"), {}, []byte("789")}, "123456789"}, {nil, "123456789"},
		} {
			if e := h.Write(x.texts...); e != api.OK {
				t.Fatalf("%s: Write: %v", name, e)
			}
			checkHash(t, name, h, []byte(x.all))
		}
		if h.Sum() != 0xe3069283 {
			t.Errorf("%s: %x", name, h.Sum())
		}
	}
}

func TestHashReset(t *testing.T) {
	for name, h := range hashes() {
		if h.Reset() != api.OK {
			t.Errorf("%s: Reset of no bytes", name)
		}
		checkHash(t, name, h, nil)
		h.Write([]byte("12"))
		if h.Reset() != api.OK {
			t.Errorf("%s: Reset", name)
		}
		checkHash(t, name, h, nil)
		h.Write([]byte("345"))
		checkHash(t, name, h, []byte("345"))
	}
}

func TestHashCopy(t *testing.T) {
	for name, h := range hashes() {
		first := h.Copy()
		h.Write([]byte("1234"))
		second := h.Copy()
		if first == h || second == h || first == second || first == nil || second == nil {
			t.Fatalf("%s: Copy is no other one", name)
		}
		h.Write([]byte("56789"))
		second.Write([]byte("ab"))
		third := second.Copy()
		second.Reset()
		checkHash(t, name, h, []byte("123456789"))
		checkHash(t, name+", its first copy", first, nil)
		checkHash(t, name+", its second copy", second, nil)
		checkHash(t, name+", a copy's copy", third, []byte("1234ab"))
		h.Reset()
		first.Write([]byte("9"))
		checkHash(t, name, h, nil)
		checkHash(t, name+", its first copy", first, []byte("9"))
		checkHash(t, name+", a copy's copy", third, []byte("1234ab"))
	}
}

func TestNewIsAnother(t *testing.T) {
	a, b := crc.New(), crc.New()
	a.Write([]byte("12"))
	checkHash(t, "one", a, []byte("12"))
	checkHash(t, "the other one", b, nil)
}

func TestNilHash(t *testing.T) {
	var h *crc.Hash
	if h.Write() != api.ErrNil || h.Write(nil) != api.ErrNil || h.Write([]byte("12")) != api.ErrNil || h.Reset() != api.ErrNil {
		t.Error("a nil Hash takes something")
	}
	if h.Sum() != 0 || h.Len() != 0 || h.Copy() != nil {
		t.Error("a nil Hash tells something")
	}
}

// TestHashKeepsNoText: what is done to a text behind Write is not seen.
func TestHashKeepsNoText(t *testing.T) {
	h, text := crc.New(), []byte("1234")
	texts := [][]byte{text, text[1:2]}
	h.Write(texts...)
	text[1], texts[1] = 0, nil
	checkHash(t, "behind a change", h, []byte("12342"))
}

func TestHashOfAnyTexts(t *testing.T) {
	r := rand.New(rand.NewSource(9))
	for n := range 300 {
		text := someText(r, n)
		one, all := crc.New(), crc.New()
		at := 0
		for _, part := range cut(r, text) {
			one.Write(part)
			at += len(part)
			checkHash(t, "part by part", one, text[:at])
		}
		all.Write(cut(r, text)...)
		checkHash(t, "all at once", all, text)
	}
}
