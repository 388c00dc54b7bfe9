package desk

import (
	"conveyor/disk"
	"conveyor/server"
	"conveyor/topics"
	"conveyor/wire"
)

// conn is the one connection that is used.
const conn = 0

// house is all layers, one on the other.
type house struct {
	disk   *disk.Disk
	config topics.Config
	store  *topics.Store
	server *server.Server
	now    int // the time at which it is
	count  int // of requests
}

// built is a new house, at time 0. What a layer refuses is thrown.
func built(room int, config topics.Config) house {
	d, err := disk.New(room)
	check(err)
	h := house{disk: d, config: config}
	h.reopen()
	return h
}

// reopen puts a store and a server, opened anew, in the place of those that are. What a layer refuses is thrown: then these stay.
func (h *house) reopen() {
	store, err := topics.Open(h.disk, h.config)
	check(err)
	served, err := server.New(store, h.now)
	check(err)
	check(served.Open(conn))
	h.store, h.server = store, served
}

// take takes the answers that the server has, as they are told.
func (h *house) take() string {
	b, _, err := h.server.Take(conn)
	check(err)
	var answers []string
	for len(b) > 0 {
		a, size, err := wire.Told(b)
		check(err)
		answers = append(answers, told(a))
		b = b[size:]
	}
	return joined(answers)
}
