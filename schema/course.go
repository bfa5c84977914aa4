package schema

import (
	"keepsake/api"
	"keepsake/config"
	"keepsake/wire"
)

const (
	pieceSize   = 256 // how many bytes a course copies at once, where no text asks for more
	longestForm = 10  // how many bytes a number has at most
)

// unread is the panic by which bytes are left that can't be read.
type unread struct{}

// reading tells what read makes of the bytes with which b begins, and how many they are; neither of bytes that can't be read.
func reading[T any](b []byte, read func(from *course) T) (got T, n int, e api.Errno) {
	from := &course{bytes: b, piece: wire.NewReader(nil)}
	defer func() {
		p := recover()
		if p == nil {
			return
		}
		if _, is := p.(unread); !is {
			panic(p)
		}
		e = api.ErrSchema
	}()
	got = read(from)
	return got, from.place(), api.OK
}

// course reads bytes, one form behind the other. A reader copies what it is given: it is given one piece behind the other, so that of long bytes no more is copied than is read.
type course struct {
	bytes []byte
	begin int // the place where the piece begins
	piece *wire.Reader
}

// place tells how many bytes have been read.
func (c *course) place() int { return c.begin + c.piece.Place() }

// left tells how many bytes have not been read.
func (c *course) left() int { return len(c.bytes) - c.place() }

// next is a reader of what has not been read, as far as n bytes at least, or to the end.
func (c *course) next(n int) *wire.Reader {
	at := c.place()
	rest := c.bytes[at:]
	if near := c.piece.Left(); near < n && near < len(rest) {
		c.begin = at
		c.piece = wire.NewReader(rest[:min(max(n, pieceSize), len(rest))])
	}
	return c.piece
}

// sure is what was read; what could not be is left.
func sure[T any](x T, e api.Errno) T {
	if e != api.OK {
		panic(unread{})
	}
	return x
}

// number reads a number form.
func (c *course) number() uint64 { return sure(c.next(longestForm).Number()) }

// signed reads a signed form.
func (c *course) signed() int64 { return sure(c.next(longestForm).Signed()) }

// text reads a text of at most so many bytes; one that is too long, or not there, asks for no room.
func (c *course) text(most int) string {
	n := c.number()
	if n > uint64(most) {
		panic(unread{})
	}
	return string(sure(c.next(int(n)).Raw(int(n))))
}

// state reads a state that is in order for a job.
func (c *course) state(job api.Config) api.KeyState {
	k := api.KeyState{Key: c.text(api.MaxKey)}
	k.Dropped = int64(c.number())
	k.Windows = c.windows(c.number())
	if config.Key(job, k) != api.OK {
		panic(unread{})
	}
	return k
}

// windows reads n windows. The list grows with them: a number that lies takes no room.
func (c *course) windows(n uint64) []api.Win {
	all := fields()
	var l []api.Win
	var ahead *api.Win
	for range n {
		l = append(l, api.Win{})
		w := &l[len(l)-1]
		for _, f := range all {
			f.read(c, w, ahead)
		}
		ahead = w
	}
	return l
}

// states reads states whose keys rise, to the end.
func (c *course) states(job api.Config) []api.KeyState {
	var l []api.KeyState
	for c.left() > 0 {
		k := c.state(job)
		if len(l) > 0 && k.Key <= l[len(l)-1].Key {
			panic(unread{})
		}
		l = append(l, k)
	}
	return l
}

// skip reads the forms of a state, and tells its key.
func (c *course) skip() string {
	key := c.text(c.left())
	c.number()
	for range c.number() {
		for range fieldsOfWin {
			c.number()
		}
	}
	return key
}
