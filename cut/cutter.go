package cut

import "hoard/api"

// Cutter cuts a stream that comes in pieces.
type Cutter struct {
	finder *finder // nil of a cutter that New did not make
	held   []byte  // of the chunk that goes on
}

// New answers a cutter that was given nothing.
func New(s api.Shape) (*Cutter, api.Errno) {
	f, e := begin(s)
	if e != api.OK {
		return nil, e
	}
	return &Cutter{finder: f}, api.OK
}

// Write goes on with a stream, and answers the chunks that ended.
func (c *Cutter) Write(b []byte) [][]byte {
	if !c.works() {
		return nil
	}
	var l [][]byte
	for len(b) > 0 {
		n, ended := c.finder.next(b)
		c.held = append(c.held, b[:n]...)
		if ended {
			l = append(l, c.take())
		}
		b = b[n:]
	}
	return l
}

// End answers the last chunk.
func (c *Cutter) End() []byte {
	if !c.works() {
		return nil
	}
	c.finder.clear()
	return c.take()
}

// Held answers how many bytes it has.
func (c *Cutter) Held() int {
	if !c.works() {
		return 0
	}
	return len(c.held)
}

// take hands out the bytes of a chunk, and lets go of them: whoever has them may change them.
func (c *Cutter) take() []byte {
	chunk := c.held
	c.held = nil
	return chunk
}

// works tells whether New made it.
func (c *Cutter) works() bool { return c != nil && c.finder != nil }
