package server_test

import (
	"bytes"
	"fmt"
	"math"
	"reflect"
	"slices"
	"strings"
	"testing"

	"conveyor/api"
	"conveyor/disk"
	"conveyor/plain"
	"conveyor/server"
	"conveyor/topics"
	"conveyor/wire"
)

// never is a configuration of small segments, by which Retain takes nothing.
var never = topics.Config{Segment: 100, Age: -1, Bytes: -1}

// told fails, unless an error is that Errno, without a place.
func told(t *testing.T, what string, err error, want api.Errno) {
	t.Helper()
	if got, bare := plain.Bare(err); got != want || !bare || (err == nil) != (want == api.OK) {
		t.Errorf("%s: %v, want Errno %d, bare", what, err, int(want))
	}
}

// house is a disk, a store on it, and the server of that.
type house struct {
	t *testing.T
	*server.Server
	disk  *disk.Disk
	store *topics.Store
}

// built is a house at a time.
func built(t *testing.T, room int, c topics.Config, now int) house {
	t.Helper()
	d, err := disk.New(room)
	if err != nil {
		t.Fatalf("disk.New(%d): %v", room, err)
	}
	s, err := topics.Open(d, c)
	if err != nil {
		t.Fatalf("topics.Open, %v: %v", c, err)
	}
	x, err := server.New(s, now)
	if err != nil || x == nil {
		t.Fatalf("New at %d: %v", now, err)
	}
	return house{t: t, Server: x, disk: d, store: s}
}

// plainHouse is one at time 0, with topics a (of two partitions) and b (that is compacted), and connections 0, 1 and 7.
func plainHouse(t *testing.T) house {
	t.Helper()
	h := built(t, 100_000, never, 0)
	told(t, "Create of a", h.store.Create(api.Topic{Name: "a", Parts: 2}), api.OK)
	told(t, "Create of b", h.store.Create(api.Topic{Name: "b", Parts: 1, Compact: true}), api.OK)
	for _, k := range []int{0, 1, 7} {
		h.opens(k)
	}
	return h
}

// opens opens a connection.
func (h house) opens(k int) {
	h.t.Helper()
	told(h.t, fmt.Sprint("Open of ", k), h.Open(k), api.OK)
}

// closes closes one.
func (h house) closes(k int) {
	h.t.Helper()
	told(h.t, fmt.Sprint("Close of ", k), h.Close(k), api.OK)
}

// feeds lets bytes come.
func (h house) feeds(k int, b []byte) {
	h.t.Helper()
	told(h.t, fmt.Sprint("Feed of ", k), h.Feed(k, b), api.OK)
}

// asks lets requests come, in one piece.
func (h house) asks(k int, l ...api.Request) {
	h.t.Helper()
	h.feeds(k, frames(h.t, l...))
}

// waits lets a fetch come that is to wait.
func (h house) waits(k int, x api.Request) {
	h.t.Helper()
	n := h.Waits()
	h.asks(k, x)
	h.waiting(fmt.Sprint("behind fetch ", x.Corr), n+1)
}

// ticks goes on to a time.
func (h house) ticks(now int) {
	h.t.Helper()
	told(h.t, fmt.Sprint("Tick to ", now), h.Tick(now), api.OK)
}

// waiting fails, unless so many fetches wait.
func (h house) waiting(what string, want int) {
	h.t.Helper()
	if got := h.Waits(); got != want {
		h.t.Errorf("%s: %d wait, want %d", what, got, want)
	}
}

// takes fails, unless just these answers are taken from a connection that the server did not close.
func (h house) takes(what string, k int, want ...api.Answer) {
	h.t.Helper()
	h.taken(what, k, false, want...)
}

// taken fails, unless just these answers are taken, and whether the server closed it is as told.
func (h house) taken(what string, k int, shut bool, want ...api.Answer) {
	h.t.Helper()
	b, gone, err := h.Take(k)
	told(h.t, what, err, api.OK)
	if got := answers(h.t, b); !slices.EqualFunc(got, want, same) {
		h.t.Errorf("%s: connection %d is told\n%+v, want\n%+v", what, k, got, want)
	}
	if gone != shut {
		h.t.Errorf("%s: the server closed %d: %v, want %v", what, k, gone, shut)
	}
}

// frames is the frames of requests, one behind the other.
func frames(t *testing.T, l ...api.Request) []byte {
	t.Helper()
	var b []byte
	for _, x := range l {
		f, err := wire.Ask(x)
		if err != nil {
			t.Fatalf("Ask of %+v: %v", x, err)
		}
		b = append(b, f...)
	}
	return b
}

// answers is what bytes tell that must be frames of answers, one behind the other.
func answers(t *testing.T, b []byte) []api.Answer {
	t.Helper()
	var l []api.Answer
	for len(b) > 0 {
		a, n, err := wire.Told(b)
		if err != nil {
			t.Fatalf("Told of %d: %v", b, err)
		}
		l = append(l, a)
		b = b[n:]
	}
	return l
}

// same says whether two answers are the same.
func same(a, b api.Answer) bool {
	if !plain.Same(a.Records, b.Records) || !slices.Equal(a.Topics, b.Topics) {
		return false
	}
	a.Records, b.Records, a.Topics, b.Topics = nil, nil, nil, nil
	return reflect.DeepEqual(a, b)
}

// small is a record of four bytes.
func small(offset, time int) api.Record {
	return api.Record{Offset: offset, Time: time, Value: "four"}
}

// producing puts a small record of time 5 into a partition.
func producing(corr int, topic string, part int) api.Request {
	return api.Request{Kind: api.Produce, Corr: corr, Topic: topic, Part: part, Records: []api.Record{{Time: 5, Value: "four"}}}
}

// produced is the answer to it.
func produced(corr, offset int) api.Answer {
	return api.Answer{Kind: api.Produce, Corr: corr, Offset: offset}
}

// fetching wants four bytes from 0 on, by so much time.
func fetching(corr int, topic string, part, wait int) api.Request {
	return api.Request{Kind: api.Fetch, Corr: corr, Topic: topic, Part: part, Most: 1000, Least: 4, Wait: wait}
}

// fetched is the answer to it, with so many small records of time 5.
func fetched(corr, n int) api.Answer {
	a := api.Answer{Kind: api.Fetch, Corr: corr, End: n}
	for k := range n {
		a.Records = append(a.Records, small(k, 5))
	}
	return a
}

// describing asks for the topics.
func describing(corr int) api.Request { return api.Request{Kind: api.Describe, Corr: corr} }

// described is the answer to it in a plain house.
func described(corr int) api.Answer {
	return api.Answer{Kind: api.Describe, Corr: corr, Topics: []api.Topic{{Name: "a", Parts: 2}, {Name: "b", Parts: 1, Compact: true}}}
}

// Promise 9.1: New.

func TestNew(t *testing.T) {
	for _, now := range []int{0, 1, 5000, api.MaxTime - 1, api.MaxTime} {
		h := built(t, 0, never, now)
		h.waiting("at first", 0)
		told(t, "Tick to a time ahead", h.Tick(now-1), api.ErrRange)
		told(t, "Tick to now", h.Tick(now), api.OK)
		for k := range api.MaxConns {
			told(t, "Close", h.Close(k), api.ErrMissing)
		}
	}
}

func TestNewWrong(t *testing.T) {
	h := built(t, 100, never, 0)
	for _, c := range []struct {
		s    *topics.Store
		now  int
		want api.Errno
	}{
		{nil, 0, api.ErrMissing}, {nil, -1, api.ErrMissing}, {nil, math.MaxInt, api.ErrMissing}, {h.store, -1, api.ErrRange},
		{h.store, api.MaxTime + 1, api.ErrRange}, {h.store, math.MinInt, api.ErrRange}, {h.store, math.MaxInt, api.ErrRange},
	} {
		s, err := server.New(c.s, c.now)
		told(t, fmt.Sprint("New at ", c.now), err, c.want)
		if s != nil {
			t.Errorf("New at %d: a server beside the error", c.now)
		}
	}
}

// Promise 9.1: connections.

// refuses fails, unless all that asks for an open connection answers that error, and nothing beside it.
func (h house) refuses(k int, want api.Errno) {
	h.t.Helper()
	told(h.t, fmt.Sprint("Close of ", k), h.Close(k), want)
	told(h.t, fmt.Sprint("Feed of ", k), h.Feed(k, frames(h.t, describing(1))), want)
	told(h.t, fmt.Sprint("Feed of ", k, " of what is no frame"), h.Feed(k, []byte{0, 0, 0, 0}), want)
	told(h.t, fmt.Sprint("Feed of ", k, " of nothing"), h.Feed(k, nil), want)
	b, shut, err := h.Take(k)
	told(h.t, fmt.Sprint("Take of ", k), err, want)
	if b != nil || shut {
		h.t.Errorf("Take of %d: %d, %v beside the error", k, b, shut)
	}
}

func TestNoSuchConnection(t *testing.T) {
	h := plainHouse(t)
	for _, k := range []int{-1, api.MaxConns, api.MaxConns + 1, math.MinInt, math.MaxInt} {
		told(t, fmt.Sprint("Open of ", k), h.Open(k), api.ErrRange)
		h.refuses(k, api.ErrRange)
	}
	h.takes("behind wrong numbers", 0)
}

func TestOpenAndClose(t *testing.T) {
	h := built(t, 1000, never, 0)
	for k := range api.MaxConns {
		h.refuses(k, api.ErrMissing)
		h.opens(k)
		told(t, "Open of one that is open", h.Open(k), api.ErrTwice)
		h.takes("at first", k)
	}
	for k := range api.MaxConns {
		h.asks(k, describing(k))
		told(t, "Open of one that asked", h.Open(k), api.ErrTwice)
		h.takes("what it asked", k, api.Answer{Kind: api.Describe, Corr: k})
	}
	h.closes(3)
	h.refuses(3, api.ErrMissing)
	h.opens(3)
	h.takes("opened anew", 3)
	for k := range api.MaxConns {
		h.closes(k)
		h.refuses(k, api.ErrMissing)
	}
}

// What a connection had is gone with it: what came, what may be told, what waits.
func TestCloseForgets(t *testing.T) {
	h := plainHouse(t)
	half := frames(t, describing(9))
	h.waits(1, fetching(1, "a", 0, 50))
	h.waits(1, fetching(2, "a", 1, 50))
	h.asks(1, describing(3))
	h.feeds(1, half[:3])
	h.waits(7, fetching(4, "a", 0, 50))
	h.asks(0, describing(5))
	h.closes(1)
	h.waiting("behind Close", 1)
	h.opens(1)
	h.takes("opened anew", 1)
	h.asks(1, describing(6))
	h.takes("what it asks anew", 1, described(6))
	h.asks(0, producing(7, "a", 0), producing(8, "a", 1))
	h.ticks(60)
	h.takes("behind all that it waited for", 1)
	h.takes("of another one", 7, fetched(4, 1))
	h.takes("of another one", 0, described(5), produced(7, 0), produced(8, 0))
	h.asks(0, describing(10))
	h.closes(0)
	h.opens(0)
	h.takes("what was not taken ahead of Close", 0)
}

// A fetch that waited for a connection that is gone isn't taken for one that came since.
func TestCloseAndWaitAnew(t *testing.T) {
	h := plainHouse(t)
	h.waits(1, fetching(1, "a", 0, 50))
	h.closes(1)
	h.waiting("behind Close", 0)
	h.opens(1)
	h.waits(1, fetching(2, "a", 1, 60))
	h.asks(0, producing(3, "a", 0))
	h.ticks(50)
	h.takes("when the first one's time is up", 1)
	h.ticks(60)
	h.takes("when its time is up", 1, fetched(2, 0))
}

// Promise 9.1: Feed.

// all is a request of each kind, and their answers in a plain house.
func all() ([]api.Request, []api.Answer) {
	return []api.Request{
		{Kind: api.Create, Corr: 300, Topic: "c", Parts: 2, Compact: true},
		producing(0, "c", 1),
		{Kind: api.Produce, Corr: api.MaxTime, Topic: "c", Part: 1, Sure: true, Records: []api.Record{{Time: 7, Keyed: true, Key: "k", Gone: true}, {Time: 8}}},
		{Kind: api.Fetch, Corr: 1, Topic: "c", Part: 1, Offset: 1, Most: 1000},
		{Kind: api.Since, Corr: 1, Topic: "c", Part: 1, Time: 6},
		{Kind: api.Forget, Corr: 2, Topic: "c", Part: 1, Offset: 3},
		{Kind: api.Drop, Corr: 200, Topic: "b"},
		describing(5),
		{Kind: api.Drop, Corr: 6, Topic: "b"},
		fetching(4, "c", 2, 50),
	}, []api.Answer{
		{Kind: api.Create, Corr: 300}, produced(0, 0), produced(api.MaxTime, 1),
		{Kind: api.Fetch, Corr: 1, End: 3, Records: []api.Record{{Offset: 1, Time: 7, Keyed: true, Key: "k", Gone: true}, {Offset: 2, Time: 8}}},
		{Kind: api.Since, Corr: 1, Found: true, Offset: 1}, {Kind: api.Forget, Corr: 2, Start: 3}, {Kind: api.Drop, Corr: 200},
		{Kind: api.Describe, Corr: 5, Topics: []api.Topic{{Name: "a", Parts: 2}, {Name: "c", Parts: 2, Compact: true}}},
		{Kind: api.Drop, Corr: 6, Err: api.ErrMissing}, {Kind: api.Fetch, Corr: 4, Err: api.ErrRange},
	}
}

func TestFeed(t *testing.T) {
	h := plainHouse(t)
	l, want := all()
	for k, x := range l {
		h.asks(1, x)
		h.takes(fmt.Sprintf("%+v", x), 1, want[k])
		h.takes("once more", 1)
	}
	h.takes("who asked nothing", 0)
}

// However the bytes come, the answers are the same.
func TestPieces(t *testing.T) {
	l, want := all()
	b := frames(t, l...)
	for cut := range len(b) + 1 {
		h := plainHouse(t)
		h.feeds(1, b[:cut])
		h.feeds(1, nil)
		h.feeds(1, b[cut:])
		h.takes(fmt.Sprint("cut at ", cut), 1, want...)
	}
	for _, size := range []int{1, 2, 3, 5, 8, 13} {
		h := plainHouse(t)
		for piece := range slices.Chunk(b, size) {
			h.feeds(1, piece)
		}
		h.takes(fmt.Sprint("by pieces of ", size), 1, want...)
	}
}

// A request is done as soon as its last byte is there, and not ahead of that.
func TestWholeFrames(t *testing.T) {
	h := plainHouse(t)
	b := frames(t, describing(300), describing(301))
	n := len(b) / 2
	for k, x := range b {
		h.feeds(1, []byte{x})
		switch k + 1 {
		case n:
			h.takes("the first one's last byte", 1, described(300))
		case 2 * n:
			h.takes("the second one's last byte", 1, described(301))
		default:
			h.takes(fmt.Sprint("behind byte ", k), 1)
		}
	}
}

// Pieces of many connections come between one another.
func TestPiecesOfMany(t *testing.T) {
	h := plainHouse(t)
	x, y := frames(t, producing(1, "a", 0)), frames(t, describing(2))
	h.feeds(0, x[:5])
	h.feeds(7, y[:2])
	h.feeds(1, y)
	h.feeds(0, x[5:])
	h.feeds(7, y[2:])
	for _, k := range []int{1, 7} {
		h.takes("in pieces", k, described(2))
	}
	h.takes("in pieces", 0, produced(1, 0))
}

// The list that is fed is neither written into nor kept.
func TestFeedKeepsNothing(t *testing.T) {
	h := plainHouse(t)
	room := append(frames(t, describing(1), describing(2), describing(3)), 77, 78)
	b := bytes.Clone(room)
	third := (len(room) - 2) / 3
	h.feeds(1, b[:third+3])
	if !bytes.Equal(b, room) {
		t.Errorf("Feed wrote into what it was fed: %d, was %d", b, room)
	}
	clear(b)
	b = bytes.Clone(room)
	h.feeds(1, b[third+3:len(b)-2])
	if !bytes.Equal(b, room) {
		t.Errorf("Feed wrote into what it was fed: %d, was %d", b, room)
	}
	h.takes("behind all", 1, described(1), described(2), described(3))
}

// The greatest frame that there is, which comes byte by byte, and one that is too long.
func TestGreatFrames(t *testing.T) {
	x := api.Request{Kind: api.Produce, Corr: 1, Topic: "a"}
	for range 19 {
		x.Records = append(x.Records, api.Record{Value: strings.Repeat("v", 500)})
	}
	x.Records = append(x.Records, api.Record{})
	free := api.MaxFrame + 4 - len(frames(t, x))
	// How many bytes the value has takes a byte more then.
	x.Records[19].Value = strings.Repeat("v", free-1)
	b := frames(t, x)
	if len(b) != api.MaxFrame+4 {
		t.Fatalf("a frame of %d bytes", len(b))
	}
	h := plainHouse(t)
	for k := range b {
		h.feeds(1, b[k:k+1])
	}
	h.takes("byte by byte", 1, api.Answer{Kind: api.Produce, Corr: 1, Err: api.ErrLimit})
	long := slices.Clone(b)
	long[2], long[3] = byte((api.MaxFrame+1)>>8), byte((api.MaxFrame+1)&255)
	h.feeds(1, long)
	h.taken("one more", 1, true)
}

// Promise 9.1: what is no frame.

// bad is what no request's frame begins with: each is so as soon as all of it is there.
func bad(t *testing.T) [][]byte {
	long := slices.Clone(frames(t, describing(1)))
	long[3]++
	return [][]byte{
		{0, 0, 0, 0},
		{0, 0, (api.MaxFrame + 1) >> 8, (api.MaxFrame + 1) & 255},
		{255, 255, 255, 255},
		{128, 0, 0, 1},
		{0, 1, 0, 0},
		{0, 0, 0, 1, 0},
		{0, 0, 0, 1, 7},
		{0, 0, 0, 2, 0, 1},
		{0, 0, 0, 2, 8, 1},
		{0, 0, 0, 3, 7, 129, 0},
		{0, 0, 0, 4, 6, 1, 2, 'a'},
		append(long, 0),
	}
}

func TestBadFrames(t *testing.T) {
	for _, b := range bad(t) {
		what := fmt.Sprint("behind ", b)
		h := plainHouse(t)
		h.asks(1, describing(1))
		h.feeds(1, append(frames(t, describing(2)), b[:len(b)-1]...))
		h.takes("ahead of its last byte", 1, described(1), described(2))
		h.asks(0, describing(3))
		h.feeds(1, append(b[len(b)-1:], frames(t, describing(4))...))
		h.taken(what, 1, true)
		h.taken(what+", once more", 1, true)
		told(t, what+": Feed", h.Feed(1, frames(t, describing(5))), api.ErrState)
		told(t, what+": Feed of nothing", h.Feed(1, nil), api.ErrState)
		told(t, what+": Open", h.Open(1), api.ErrTwice)
		h.taken(what+" and Feed", 1, true)
		h.takes(what+": another one", 0, described(3))
		h.closes(1)
		h.refuses(1, api.ErrMissing)
		h.opens(1)
		h.asks(1, describing(6))
		h.takes(what+", opened anew", 1, described(6))
	}
}

// What came ahead of it, in the same piece, is done and told; what is behind it is not read.
func TestBadFrameBetween(t *testing.T) {
	for _, b := range bad(t) {
		h := plainHouse(t)
		l := frames(t, producing(1, "a", 0), producing(2, "a", 0))
		l = append(l, b...)
		h.feeds(1, append(l, frames(t, producing(3, "a", 0))...))
		told(t, "Feed", h.Feed(1, frames(t, producing(4, "a", 0))), api.ErrState)
		h.taken(fmt.Sprint("around ", b), 1, true, produced(1, 0), produced(2, 1))
		h.asks(0, fetching(5, "a", 0, 0))
		h.takes(fmt.Sprint("what was done around ", b), 0, fetched(5, 2))
	}
}

// By a bad frame answers that may not be told yet are lost, and those that may be are not; nobody else loses any.
func TestBadFrameWhileFetchesWait(t *testing.T) {
	for _, b := range bad(t) {
		what := fmt.Sprint("behind ", b)
		h := plainHouse(t)
		h.asks(1, describing(1))
		h.waits(1, fetching(2, "a", 0, 50))
		h.asks(1, describing(3))
		h.waits(7, fetching(4, "a", 0, 50))
		h.feeds(1, b)
		h.waiting(what, 1)
		h.asks(0, producing(5, "a", 0))
		h.ticks(60)
		h.taken(what, 1, true, described(1))
		h.taken(what+", once more", 1, true)
		h.takes(what+", of another one", 7, fetched(4, 1))
		h.takes(what+", of another one", 0, produced(5, 0))
		h.closes(1)
		h.opens(1)
		h.takes(what+", opened anew", 1)
	}
}

// Where the answer that all waited for comes by what is ahead of the bad frame, in the same piece, all may be told.
func TestBadFrameBehindAll(t *testing.T) {
	h := plainHouse(t)
	h.waits(1, fetching(1, "a", 0, 50))
	h.asks(1, describing(2))
	h.feeds(1, append(frames(t, producing(3, "a", 0)), 0, 0, 0, 0))
	h.taken("all", 1, true, fetched(1, 1), described(2), produced(3, 0))
}

// Promise 9.1: the order of answers.

// An answer waits for those ahead of it, whoever brings that one.
func TestAnswersWait(t *testing.T) {
	for name, bring := range map[string]func(h house){
		"of another connection": func(h house) { h.asks(0, producing(9, "a", 0)) },
		"of its own":            func(h house) { h.asks(1, producing(9, "a", 0)) },
		"its time":              func(h house) { h.ticks(50) },
	} {
		h := plainHouse(t)
		h.asks(1, describing(1))
		h.waits(1, fetching(2, "a", 0, 50))
		h.asks(1, describing(3), producing(4, "a", 1))
		h.takes(name+": ahead", 1, described(1))
		h.takes(name+": ahead, once more", 1)
		h.ticks(49)
		h.takes(name+": ahead of its time", 1)
		h.asks(0, describing(5))
		h.takes(name+": who does not wait", 0, described(5))
		bring(h)
		n := 1
		if name == "its time" {
			n = 0
		}
		want := []api.Answer{fetched(2, n), described(3), produced(4, 0)}
		if name == "of its own" {
			want = append(want, produced(9, 0))
		}
		h.takes(name, 1, want...)
		h.waiting(name, 0)
		h.asks(1, describing(6))
		h.takes(name+": behind", 1, described(6))
	}
}

// Of many that wait none is told ahead of one that came ahead, in whatever order they are answered.
func TestOrderOfFetches(t *testing.T) {
	h := plainHouse(t)
	h.waits(1, fetching(1, "a", 0, 50))
	h.waits(1, fetching(2, "a", 1, 40))
	h.waits(1, fetching(3, "b", 0, 50))
	h.asks(1, describing(4))
	h.asks(0, producing(5, "b", 0))
	h.takes("the third one has enough", 1)
	h.ticks(40)
	h.takes("the second one's time is up", 1)
	h.waiting("behind both", 1)
	h.asks(0, producing(6, "a", 1), producing(7, "a", 0))
	h.takes("the first one has enough", 1, fetched(1, 1), fetched(2, 0), fetched(3, 1), described(4))
	h.takes("who brought it", 0, produced(5, 0), produced(6, 0), produced(7, 0))
}

// Only the first ones may be told while one between waits.
func TestOrderInParts(t *testing.T) {
	h := plainHouse(t)
	h.waits(1, fetching(1, "a", 0, 50))
	h.asks(1, describing(2))
	h.waits(1, fetching(3, "a", 1, 60))
	h.asks(1, describing(4))
	h.asks(0, producing(5, "a", 0))
	h.takes("the first one has enough", 1, fetched(1, 1), described(2))
	h.ticks(60)
	h.takes("the second one's time is up", 1, fetched(3, 0), described(4))
}

// Requests that are under way may have the same Corr: each has its own answer.
func TestSameCorr(t *testing.T) {
	for _, corr := range []int{0, 1, 2, 300, api.MaxTime} {
		h := plainHouse(t)
		h.waits(1, fetching(corr, "a", 0, 50))
		h.waits(1, fetching(corr, "a", 1, 50))
		h.waits(1, fetching(corr, "b", 0, 50))
		h.waits(7, fetching(corr, "a", 1, 50))
		h.asks(1, describing(corr))
		h.asks(0, producing(corr, "a", 1))
		h.takes("the first one waits", 1)
		h.takes("of another one", 7, fetched(corr, 1))
		h.ticks(50)
		h.takes("all", 1, fetched(corr, 0), fetched(corr, 1), fetched(corr, 0), described(corr))
	}
}

// A connection's requests may be called so that they might be taken for others' numbers.
func TestCrossedCorrs(t *testing.T) {
	h := plainHouse(t)
	for k := range 4 {
		h.waits(1, fetching(3-k, []string{"a", "a", "b", "b"}[k], k%2*(1-k/2), 50+k))
	}
	h.asks(0, producing(0, "a", 1))
	h.takes("the first one waits", 1)
	h.ticks(50)
	h.takes("the first one's time is up", 1, fetched(3, 0), fetched(2, 1))
	h.ticks(53)
	h.takes("all", 1, fetched(1, 0), fetched(0, 0))
}

// Promise 9.1: Tick, Clean, Waits.

func TestTick(t *testing.T) {
	h := plainHouse(t)
	h.waits(0, fetching(1, "a", 0, 5))
	h.waits(1, fetching(2, "a", 1, 7))
	h.waits(0, fetching(3, "a", 1, 7))
	h.ticks(4)
	h.takes("ahead of their times", 0)
	for _, now := range []int{3, -1, api.MaxTime + 1, math.MinInt, math.MaxInt} {
		told(t, fmt.Sprint("Tick to ", now), h.Tick(now), api.ErrRange)
	}
	h.waiting("behind wrong times", 3)
	h.ticks(5)
	h.waiting("at 5", 2)
	h.takes("at 5", 0, fetched(1, 0))
	h.takes("at 5", 1)
	h.ticks(api.MaxTime)
	h.waiting("at the end", 0)
	h.takes("at the end", 0, fetched(3, 0))
	h.takes("at the end", 1, fetched(2, 0))
}

// A fetch is due from the server's time on.
func TestTimeOfFetches(t *testing.T) {
	h := built(t, 1000, never, 70)
	h.opens(2)
	h.asks(2, api.Request{Kind: api.Create, Corr: 1, Topic: "a", Parts: 1})
	h.waits(2, fetching(2, "a", 0, 5))
	h.ticks(74)
	h.takes("at 74", 2, api.Answer{Kind: api.Create, Corr: 1})
	h.ticks(75)
	h.takes("at 75", 2, fetched(2, 0))
}

func TestClean(t *testing.T) {
	h := built(t, 10_000, topics.Config{Segment: 100, Age: 50, Bytes: -1}, 40)
	h.opens(0)
	h.opens(5)
	h.asks(0, api.Request{Kind: api.Create, Corr: 1, Topic: "a", Parts: 1})
	for k := range 6 {
		h.asks(0, producing(2+k, "a", 0))
	}
	h.takes("Create and Produce", 0, api.Answer{Kind: api.Create, Corr: 1}, produced(2, 0), produced(3, 1), produced(4, 2), produced(5, 3), produced(6, 4), produced(7, 5))
	x := fetching(8, "a", 0, 90)
	x.Offset, x.Least = 1, 100
	h.waits(5, x)
	for _, c := range []struct{ now, gone, waits int }{{55, 0, 1}, {56, 1, 0}, {56, 0, 0}} {
		h.ticks(c.now)
		n, err := h.Clean()
		told(t, fmt.Sprint("Clean at ", c.now), err, api.OK)
		if n != c.gone {
			t.Errorf("Clean at %d: %d went, want %d", c.now, n, c.gone)
		}
		h.waiting(fmt.Sprint("Clean at ", c.now), c.waits)
	}
	h.takes("its records are gone", 5, api.Answer{Kind: api.Fetch, Corr: 8, Err: api.ErrRange})
}

// By a Clean that has an error, too, answers are told.
func TestCleanWrong(t *testing.T) {
	h := built(t, 10_000, topics.Config{Segment: 100, Age: 0, Bytes: -1}, 40)
	told(t, "Create of a", h.store.Create(api.Topic{Name: "a", Parts: 1}), api.OK)
	h.opens(0)
	h.opens(1)
	for k := range 6 {
		h.asks(0, producing(k, "a", 0))
	}
	x := fetching(8, "a", 0, 90)
	x.Least = 100
	h.waits(1, x)
	h.disk.Fail(0)
	n, err := h.Clean()
	told(t, "Clean", err, api.ErrDevice)
	if n != 0 {
		t.Errorf("Clean: %d went", n)
	}
	h.waiting("Clean", 0)
	h.takes("Clean", 1, api.Answer{Kind: api.Fetch, Corr: 8, Err: api.ErrState})
	_, err = h.Clean()
	told(t, "Clean of what is down", err, api.ErrState)
}

// As many may wait as the wheel has room for, whosever they are; all of a connection go with it.
func TestManyWait(t *testing.T) {
	h := plainHouse(t)
	one := frames(t, fetching(1, "a", 0, 50))
	h.feeds(1, bytes.Repeat(one, 9_999))
	h.waits(7, fetching(2, "a", 0, 50))
	h.asks(7, fetching(3, "a", 0, 50), describing(4))
	h.asks(0, fetching(5, "a", 0, 50))
	h.waiting("one more", 10_000)
	h.takes("one more", 0, api.Answer{Kind: api.Fetch, Corr: 5, Err: api.ErrLimit})
	h.closes(1)
	h.waiting("behind Close", 1)
	h.asks(0, fetching(6, "a", 0, 50))
	h.waiting("room again", 2)
	h.ticks(50)
	h.takes("all", 7, fetched(2, 0), api.Answer{Kind: api.Fetch, Corr: 3, Err: api.ErrLimit}, described(4))
	h.takes("all", 0, fetched(6, 0))
}

// Promise 9.1: Take.

func TestTake(t *testing.T) {
	h := plainHouse(t)
	h.asks(1, describing(1), describing(2))
	first, shut, err := h.Take(1)
	told(t, "Take", err, api.OK)
	want := bytes.Clone(first)
	if got := answers(t, first); shut || len(got) != 2 || !same(got[0], described(1)) || !same(got[1], described(2)) {
		t.Errorf("Take: %+v, %v", got, shut)
	}
	h.asks(1, describing(3))
	if !bytes.Equal(first, want) {
		t.Errorf("what was taken is written into: %d, was %d", first, want)
	}
	first = append(first, 1, 2, 3, 4, 5)
	clear(first)
	h.takes("behind writing into what was taken", 1, described(3))
	h.takes("all is taken", 1)
	h.takes("of another one", 0)
}

// Bytes of answers are just the frames that wire.Tell writes.
func TestTakenBytes(t *testing.T) {
	h := plainHouse(t)
	l, answered := all()
	h.asks(1, l...)
	var want []byte
	for _, a := range answered {
		f, err := wire.Tell(a)
		if err != nil {
			t.Fatalf("Tell of %+v: %v", a, err)
		}
		want = append(want, f...)
	}
	if b, _, err := h.Take(1); err != nil || !bytes.Equal(b, want) {
		t.Errorf("Take: %d, %v, want %d", b, err, want)
	}
}

// On a disk that fails each request is answered all the same.
func TestDiskFails(t *testing.T) {
	h := plainHouse(t)
	h.waits(1, fetching(1, "a", 0, 50))
	h.disk.Fail(0)
	h.asks(0, producing(2, "a", 0), producing(3, "a", 0), api.Request{Kind: api.Create, Corr: 4, Topic: "c", Parts: 1}, describing(5))
	h.takes("who asks", 0,
		api.Answer{Kind: api.Produce, Corr: 2, Err: api.ErrDevice}, api.Answer{Kind: api.Produce, Corr: 3, Err: api.ErrState},
		api.Answer{Kind: api.Create, Corr: 4, Err: api.ErrDevice}, described(5))
	h.ticks(50)
	h.takes("who waits", 1, api.Answer{Kind: api.Fetch, Corr: 1, Err: api.ErrState})
}
