package server_test

import (
	"bytes"
	"fmt"
	"math/rand"
	"slices"
	"strings"
	"testing"

	"conveyor/api"
	"conveyor/broker"
	"conveyor/disk"
	"conveyor/topics"
	"conveyor/wire"
)

// telling is chapter 9 told plainly, on a store of its own: each request asks the broker as somebody else, and all bytes that ever came are kept.
type telling struct {
	broker *broker.Broker
	lines  map[int]*line
	whose  []*line // of all requests, by their numbers
	done   map[int]api.Answer
}

// line is a connection that is open.
type line struct {
	came    []byte
	read    int   // how many of these
	asked   []int // requests, by their numbers among all
	told    int   // how many of these
	pending []byte
	shut    bool
}

// gather puts what may be told behind what is to be taken.
func (m *telling) gather(l *line) {
	for ; l.told < len(l.asked); l.told++ {
		a, ok := m.done[l.asked[l.told]]
		if !ok {
			return
		}
		b, err := wire.Tell(a)
		if err != nil {
			b, _ = wire.Tell(api.Answer{Kind: a.Kind, Corr: a.Corr, Err: api.Tell(err)})
		}
		l.pending = append(l.pending, b...)
	}
}

// leave forgets what a connection waits for.
func (m *telling) leave(l *line) {
	for _, n := range l.asked {
		m.broker.Leave(n)
	}
	l.asked, l.told = nil, 0
}

// hear takes answers.
func (m *telling) hear(outs []broker.Out) {
	for _, o := range outs {
		m.done[o.To] = o.Answer
	}
}

// open is what Open is to tell.
func (m *telling) open(k int) error {
	if k < 0 || k >= api.MaxConns {
		return api.ErrRange
	}
	if m.lines[k] != nil {
		return api.ErrTwice
	}
	m.lines[k] = &line{}
	return nil
}

// line is a connection that is open, or the error.
func (m *telling) line(k int) (*line, error) {
	if k < 0 || k >= api.MaxConns {
		return nil, api.ErrRange
	}
	if m.lines[k] == nil {
		return nil, api.ErrMissing
	}
	return m.lines[k], nil
}

// close is what Close is to tell.
func (m *telling) close(k int) error {
	l, err := m.line(k)
	if err == nil {
		m.leave(l)
		delete(m.lines, k)
	}
	return err
}

// feed is what Feed is to tell.
func (m *telling) feed(k int, b []byte) error {
	l, err := m.line(k)
	if err != nil {
		return err
	}
	if l.shut {
		return api.ErrState
	}
	l.came = slices.Concat(l.came, b)
	for {
		x, n, err := wire.Asked(l.came[l.read:])
		if err == api.ErrFull {
			return nil
		}
		if err != nil {
			m.gather(l)
			m.leave(l)
			l.shut = true
			return nil
		}
		l.read += n
		l.asked = append(l.asked, len(m.whose))
		m.whose = append(m.whose, l)
		m.hear(m.broker.Do(len(m.whose)-1, x))
	}
}

// take is what Take is to tell.
func (m *telling) take(k int) ([]byte, bool, error) {
	l, err := m.line(k)
	if err != nil {
		return nil, false, err
	}
	m.gather(l)
	b := l.pending
	l.pending = nil
	return b, l.shut, nil
}

// pick is one of some.
func pick[T any](r *rand.Rand, l ...T) T { return l[r.Intn(len(l))] }

// anyRequest is one, mostly of a partition that is there.
func anyRequest(r *rand.Rand) api.Request {
	x := api.Request{
		Kind: pick(r, 1, 1, 1, 2, 2, 2, 2, 2, 2, 3, 4, 5, 6, 7), Corr: pick(r, 0, 1, 2, 3, r.Intn(1000), api.MaxTime), Topic: pick(r, "a", "a", "b", "c"), Part: r.Intn(2),
		Offset: r.Intn(6), Most: r.Intn(300), Least: r.Intn(120), Wait: pick(r, 0, 1, 5, 20, 60, 60, api.MaxTime), Time: r.Intn(500), Parts: 1 + r.Intn(2),
		Sure: r.Intn(2) == 0, Compact: r.Intn(2) == 0,
	}
	for range 1 + r.Intn(3) {
		y := api.Record{Time: r.Intn(500), Value: strings.Repeat("v", r.Intn(25))}
		if r.Intn(2) == 0 {
			y.Keyed, y.Key = true, pick(r, "", "a", "bc")
		}
		if r.Intn(5) == 0 {
			y.Gone, y.Value = true, ""
		}
		x.Records = append(x.Records, y)
	}
	if x.Kind == api.Drop && r.Intn(5) > 0 {
		x.Topic = "none"
	}
	if r.Intn(30) == 0 {
		x.Part, x.Offset, x.Parts, x.Topic = 9, 99, pick(r, 0, 5), pick(r, "", "A", "abcdefghijk")
	}
	return x
}

// twins is a server, and the plain telling, each on a disk of its own.
type twins struct {
	house
	*telling
	rest [api.MaxConns][]byte // what comes next
	now  int
}

// twinsOf is both, newly made.
func twinsOf(t *testing.T, r *rand.Rand) *twins {
	room := pick(r, 300, 1500, 40_000)
	c := topics.Config{Segment: pick(r, 100, 200, 1000), Age: pick(r, -1, 0, 50), Bytes: pick(r, -1, 200)}
	now := pick(r, 0, 0, 77, api.MaxTime-100)
	h := built(t, room, c, now)
	d, _ := disk.New(room)
	s, err := topics.Open(d, c)
	if err != nil {
		t.Fatalf("topics.Open: %v", err)
	}
	b, err := broker.New(s, now)
	if err != nil {
		t.Fatalf("broker.New: %v", err)
	}
	fails := pick(r, -1, -1, r.Intn(200))
	h.disk.Fail(fails)
	d.Fail(fails)
	return &twins{house: h, telling: &telling{broker: b, lines: map[int]*line{}, done: map[int]api.Answer{}}, now: now}
}

// piece is what comes next of a connection: a piece of frames, which are seldom none.
func (w *twins) piece(r *rand.Rand, k int) []byte {
	for range r.Intn(4) {
		w.rest[k] = append(w.rest[k], frames(w.t, anyRequest(r))...)
	}
	b := w.rest[k]
	if len(b) > 0 && r.Intn(60) == 0 {
		b[r.Intn(len(b))] ^= 1 << r.Intn(8)
	}
	n := len(b)
	if r.Intn(2) == 0 {
		n = r.Intn(n + 1)
	}
	w.rest[k] = b[n:]
	return b[:n]
}

// step does one thing with both: what it was, whether both told the same, and how many answers were taken.
func (w *twins) step(r *rand.Rand) (string, bool, int) {
	k := r.Intn(4)
	known := k
	if r.Intn(30) == 0 {
		k = pick(r, -1, 4, 7, 8)
	}
	switch r.Intn(20) {
	case 0:
		w.now += r.Intn(25) - r.Intn(2)
		err := w.Tick(w.now)
		outs, wrong := w.broker.Tick(w.now)
		w.hear(outs)
		w.now = w.broker.Now()
		return fmt.Sprint("Tick, now ", w.now), err == wrong, 0
	case 1:
		n, err := w.Clean()
		want, outs, wrong := w.broker.Clean()
		w.hear(outs)
		return "Clean", n == want && err == wrong, 0
	case 2:
		if r.Intn(6) > 0 {
			break
		}
		w.rest[known] = nil
		return fmt.Sprint("Close of ", k), w.Close(k) == w.close(k), 0
	case 3, 4:
		return fmt.Sprint("Open of ", k), w.Open(k) == w.open(k), 0
	case 5, 6, 7, 8:
		b, shut, err := w.Take(k)
		want, gone, wrong := w.take(k)
		return fmt.Sprint("Take of ", k), bytes.Equal(b, want) && shut == gone && err == wrong, len(answers(w.t, b))
	}
	b := w.piece(r, known)
	return fmt.Sprint("Feed of ", k, " with ", b), w.Feed(k, b) == w.feed(k, b), 0
}

// All answers against a plain telling of the words: each of both has a disk of its own, which fails at the same time.
func TestPlainTelling(t *testing.T) {
	told, waited, shut := 0, 0, 0
	for seed := range 400 {
		r := rand.New(rand.NewSource(int64(seed)))
		w := twinsOf(t, r)
		for step := range 300 {
			what, ok, n := w.step(r)
			if !ok || w.Waits() != w.broker.Waits() {
				t.Fatalf("seed %d, step %d: %s: not told the same; %d wait, want %d", seed, step, what, w.Waits(), w.broker.Waits())
			}
			told += n
			waited = max(waited, w.Waits())
		}
		for _, l := range w.lines {
			if l.shut {
				shut++
			}
		}
	}
	if told < 10_000 || waited < 15 || shut < 100 {
		t.Errorf("%d answers were taken, at most %d waited, %d were shut: too few to tell anything", told, waited, shut)
	}
}
