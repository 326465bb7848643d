package wire

import "docket/api"

// Conn is the bytes that come over a connection, as far as they aren't taken as requests. Its zero value is ready.
type Conn struct {
	next   reader
	rest   []byte // what next hasn't taken yet
	closed bool
}

// Feed tells the connection which bytes come. A closed one doesn't want any.
func (c *Conn) Feed(data string) {
	if !c.Closed() {
		c.rest = append(c.rest, data...)
	}
}

// Next takes the next request off, and tells it, 0 and true; or a status, if no request can come any more; or false, as long as more bytes are needed, and once the connection is closed.
func (c *Conn) Next() (api.Request, int, bool) {
	if c.Closed() {
		return api.Request{}, 0, false
	}
	took, status := run(&c.next, c.rest)
	c.drop(took)
	if status == more {
		return api.Request{}, 0, false
	}
	request := c.next.request
	c.next = reader{}
	if status != 0 || request.Close {
		*c = Conn{closed: true}
	}
	if status != 0 {
		return api.Request{}, status, true
	}
	return request, 0, true
}

// drop forgets bytes that are taken: the memory, too, as soon as none are left that want it.
func (c *Conn) drop(took int) {
	c.rest = c.rest[took:]
	if len(c.rest) == 0 {
		c.rest = nil
	}
}

// Closed tells whether nothing more can come off the connection.
func (c *Conn) Closed() bool {
	return c == nil || c.closed
}
