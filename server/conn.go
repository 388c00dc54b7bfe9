package server

import (
	"conveyor/api"
	"conveyor/wire"
)

// conn is a connection; its zero value is one that is not open.
type conn struct {
	open     bool
	shut     bool            // the server closed it
	came     []byte          // bytes that came, and are no whole frame yet
	underWay map[int]request // requests that are under way, by their numbers, which rise from 0 on
	asked    int             // how many requests it asked: the next one's number
	told     int             // how many of them are told: the number of the first one under way
	ready    []byte          // answers that may be told, and were not taken yet
}

// request is one that is under way: it has no answer yet, or one that waits for those ahead of it.
type request struct {
	corr  int    // what it was called by who asked
	frame []byte // its answer's (nil: there is none yet)
}

// newConn is one that was just opened.
func newConn() conn {
	return conn{open: true, underWay: map[int]request{}}
}

// enter puts a request behind those that are under way: its number.
func (c *conn) enter(corr int) int {
	n := c.asked
	c.underWay[n] = request{corr: corr}
	c.asked++
	return n
}

// answered takes the answer to a request that is under way, called by its number there; with it all that waited for it alone may be told.
func (c *conn) answered(a api.Answer) {
	n := a.Corr
	a.Corr = c.underWay[n].corr
	c.underWay[n] = request{frame: frame(a)}
	for r := c.underWay[c.told]; r.frame != nil; r = c.underWay[c.told] {
		c.ready = append(c.ready, r.frame...)
		delete(c.underWay, c.told)
		c.told++
	}
}

// end leaves nothing of it but what may be told already.
func (c *conn) end() {
	c.shut, c.came, c.underWay = true, nil, nil
}

// frame is an answer's; of one that can't be told, of that error.
func frame(a api.Answer) []byte {
	b, err := wire.Tell(a)
	if err != nil {
		b, _ = wire.Tell(api.Answer{Kind: a.Kind, Corr: a.Corr, Err: api.Tell(err)})
	}
	return b
}
