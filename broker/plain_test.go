package broker_test

import (
	"fmt"
	"math"
	"math/rand"
	"slices"
	"strings"
	"testing"

	"conveyor/api"
	"conveyor/broker"
	"conveyor/disk"
	"conveyor/topics"
)

// telling is chapter 8 told plainly, on a store of its own: a list of who waits, gone through from its beginning on, each time.
type telling struct {
	store *topics.Store
	now   int
	waits []late
}

// late is who waits: what they asked, and when that is due.
type late struct {
	who, due int
	x        api.Request
}

// answer is a request's, and whether it waits instead.
func (m *telling) answer(x api.Request) (api.Answer, bool) {
	a := api.Answer{Kind: x.Kind, Corr: x.Corr}
	wrong := func(err error) (api.Answer, bool) {
		return api.Answer{Kind: x.Kind, Corr: x.Corr, Err: api.Tell(err)}, false
	}
	switch x.Kind {
	case api.Create:
		return wrong(m.store.Create(api.Topic{Name: x.Topic, Parts: x.Parts, Compact: x.Compact}))
	case api.Drop:
		return wrong(m.store.Drop(x.Topic))
	case api.Describe:
		a.Topics = m.store.Topics()
		return a, false
	}
	if x.Kind < api.Produce || x.Kind > api.Forget {
		return wrong(api.ErrArg)
	}
	l, err := m.store.Log(x.Topic, x.Part)
	if err != nil {
		return wrong(err)
	}
	switch x.Kind {
	case api.Produce:
		if a.Offset, err = l.Add(x.Records); err != nil {
			return wrong(err)
		}
		if x.Sure {
			if err := l.Flush(); err != nil {
				return wrong(err)
			}
		}
	case api.Since:
		a.Offset, a.Found = l.Since(x.Time)
	case api.Forget:
		if err := l.Forget(x.Offset); err != nil {
			return wrong(err)
		}
		a.Start = l.Start()
	case api.Fetch:
		if a.Records, err = l.Read(x.Offset, min(x.Most, 3000)); err != nil {
			return wrong(err)
		}
		a.Start, a.End = l.Start(), l.End()
		texts := ""
		for _, r := range a.Records {
			texts += r.Key + r.Value
		}
		return a, x.Wait > 0 && len(texts) < x.Least
	}
	return a, false
}

// do is what Do is to tell.
func (m *telling) do(who int, x api.Request) []broker.Out {
	a, waits := m.answer(x)
	if waits {
		m.waits = append(m.waits, late{who: who, due: m.now + min(x.Wait, api.MaxTime-m.now), x: x})
		return nil
	}
	out := []broker.Out{{To: who, Answer: a}}
	if x.Kind == api.Produce || x.Kind == api.Forget || x.Kind == api.Drop {
		out = append(out, m.look(x.Topic)...)
	}
	return out
}

// look is what those of a topic are to be told who wait no more.
func (m *telling) look(topic string) []broker.Out {
	var out []broker.Out
	for k := 0; k < len(m.waits); {
		w := m.waits[k]
		a, waits := m.answer(w.x)
		if w.x.Topic != topic || waits {
			k++
			continue
		}
		out = append(out, broker.Out{To: w.who, Answer: a})
		m.waits = slices.Delete(m.waits, k, k+1)
	}
	return out
}

// clean is what Clean is to tell.
func (m *telling) clean() (int, []broker.Out, error) {
	n, err := m.store.Clean(m.now)
	var out []broker.Out
	for _, x := range m.store.Topics() {
		out = append(out, m.look(x.Name)...)
	}
	return n, out, err
}

// tick is what Tick is to tell: time by time the first one that is due.
func (m *telling) tick(now int) ([]broker.Out, error) {
	if now < m.now || now > api.MaxTime {
		return nil, api.ErrRange
	}
	m.now = now
	var out []broker.Out
	for {
		first := -1
		for k, w := range m.waits {
			if w.due <= now && (first < 0 || w.due < m.waits[first].due) {
				first = k
			}
		}
		if first < 0 {
			return out, nil
		}
		a, _ := m.answer(m.waits[first].x)
		out = append(out, broker.Out{To: m.waits[first].who, Answer: a})
		m.waits = slices.Delete(m.waits, first, first+1)
	}
}

// leave forgets somebody.
func (m *telling) leave(who int) {
	m.waits = slices.DeleteFunc(m.waits, func(w late) bool { return w.who == who })
}

// pick is one of some.
func pick[T any](r *rand.Rand, l ...T) T { return l[r.Intn(len(l))] }

// anyRecords is some, one of which may be wrong.
func anyRecords(r *rand.Rand) []api.Record {
	var l []api.Record
	for range 1 + r.Intn(3) {
		x := api.Record{Time: r.Intn(500), Value: strings.Repeat("v", r.Intn(25))}
		if r.Intn(2) == 0 {
			x.Keyed, x.Key = true, pick(r, "", "a", "bc")
		}
		if r.Intn(5) == 0 {
			x.Gone, x.Value = true, ""
		}
		if r.Intn(60) == 0 {
			x.Time = pick(r, -1, api.MaxTime+1)
		}
		l = append(l, x)
	}
	return l
}

// anyRequest is one, mostly of a partition that is there.
func anyRequest(r *rand.Rand) api.Request {
	x := api.Request{
		Kind: pick(r, 1, 1, 1, 1, 2, 2, 2, 2, 2, 2, 2, 3, 4, 5, 5, 6, 7, 0, 8), Corr: r.Intn(1000), Topic: pick(r, "a", "a", "b", "c"), Part: r.Intn(2),
		Offset: r.Intn(15), Most: r.Intn(300), Least: r.Intn(120), Wait: pick(r, 0, 1, 5, 20, 60, 60, -1), Time: r.Intn(500), Parts: 1 + r.Intn(2),
		Sure: r.Intn(2) == 0, Compact: r.Intn(2) == 0, Records: anyRecords(r),
	}
	if x.Kind == api.Drop && r.Intn(5) > 0 {
		x.Topic = "none"
	}
	switch r.Intn(40) {
	case 0:
		x.Part, x.Parts = pick(r, -1, 9, math.MaxInt), pick(r, -1, 0, 5)
	case 1:
		x.Offset, x.Most, x.Least, x.Wait = pick(r, -1, math.MinInt, math.MaxInt), pick(r, -1, math.MinInt, math.MaxInt), pick(r, -1, math.MinInt, math.MaxInt), math.MaxInt
	case 2:
		x.Topic, x.Records = pick(r, "", "A", "abcdefghijk"), nil
	}
	return x
}

// All answers against a plain telling of the words: each of both has a disk of its own, which fails at the same time.
func TestPlainTelling(t *testing.T) {
	told, waited := 0, 0
	for seed := range 400 {
		r := rand.New(rand.NewSource(int64(seed)))
		room := pick(r, 300, 1500, 40_000)
		c := topics.Config{Segment: pick(r, 100, 200, 1000), Age: pick(r, -1, 0, 50), Bytes: pick(r, -1, 200)}
		start := pick(r, 0, 0, 77, api.MaxTime-100)
		h := built(t, room, c, start)
		d, _ := disk.New(room)
		s, err := topics.Open(d, c)
		if err != nil {
			t.Fatalf("topics.Open: %v", err)
		}
		m := &telling{store: s, now: start}
		fails := pick(r, -1, -1, r.Intn(200))
		h.disk.Fail(fails)
		d.Fail(fails)
		for step := range 200 {
			var what string
			var got, want []broker.Out
			var n, k int
			var err, wrong error
			switch r.Intn(20) {
			case 0:
				to := m.now + r.Intn(25) - r.Intn(2)
				what = fmt.Sprint("Tick to ", to)
				got, err = h.Tick(to)
				want, wrong = m.tick(to)
			case 2:
				what = "Clean"
				n, got, err = h.Clean()
				k, want, wrong = m.clean()
			case 3:
				who := r.Intn(5)
				h.Leave(who)
				m.leave(who)
			default:
				who, x := r.Intn(5), anyRequest(r)
				// Mostly near the end, where there is little yet.
				if l, err := s.Log(x.Topic, x.Part); err == nil && x.Kind == api.Fetch && r.Intn(5) > 0 {
					x.Offset = l.End() - r.Intn(3)*r.Intn(2)
				}
				if step < 2 {
					x = api.Request{Kind: api.Create, Topic: pick(r, "a", "b"), Parts: 2, Compact: r.Intn(2) == 0}
				}
				what = fmt.Sprintf("Do of %d, %+v", who, x)
				got, want = h.Do(who, x), m.do(who, x)
			}
			what = fmt.Sprintf("seed %d, step %d: %s", seed, step, what)
			h.outs(what, got, want...)
			if n != k || api.Tell(err) != api.Tell(wrong) || h.Now() != m.now || h.Waits() != len(m.waits) {
				t.Errorf("%s: %d, %v, Now %d, Waits %d, want %d, %v, %d, %d", what, n, err, h.Now(), h.Waits(), k, wrong, m.now, len(m.waits))
			}
			if t.Failed() {
				return
			}
			told += max(len(got)-1, 0)
			waited = max(waited, h.Waits())
		}
	}
	if told < 1000 || waited < 15 {
		t.Errorf("of those that waited %d were told beside others, at most %d waited: too few to tell anything", told, waited)
	}
}
