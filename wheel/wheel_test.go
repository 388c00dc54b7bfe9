package wheel_test

import (
	"fmt"
	"math"
	"slices"
	"testing"

	"conveyor/api"
	"conveyor/plain"
	"conveyor/wheel"
)

// most is how many timers there may be.
const most = 10_000

// told fails, unless an error is that Errno, without a place.
func told(t *testing.T, what string, err error, want api.Errno) {
	t.Helper()
	if got, bare := plain.Bare(err); got != want || !bare || (err == nil) != (want == api.OK) {
		t.Errorf("%s: %v, want Errno %d, bare", what, err, int(want))
	}
}

// has fails, unless a wheel is at that time, with so many timers.
func has(t *testing.T, what string, w *wheel.Wheel, now, many int) {
	t.Helper()
	if w.Now() != now || w.Many() != many {
		t.Errorf("%s: Now %d, Many %d, want %d, %d", what, w.Now(), w.Many(), now, many)
	}
}

// add puts a timer in.
func add(t *testing.T, w *wheel.Wheel, at, id int) {
	t.Helper()
	told(t, fmt.Sprint("Add of ", id, " at ", at), w.Add(at, id), api.OK)
}

// out takes a timer out, or not, if it isn't there.
func out(t *testing.T, w *wheel.Wheel, id int, want bool) {
	t.Helper()
	if got := w.Cancel(id); got != want {
		t.Errorf("Cancel of %d: %v, want %v", id, got, want)
	}
}

// due fails, unless just these ids are due by a time.
func due(t *testing.T, w *wheel.Wheel, to int, want ...int) {
	t.Helper()
	what := fmt.Sprint("Advance to ", to)
	got, err := w.Advance(to)
	told(t, what, err, api.OK)
	if !slices.Equal(got, want) {
		t.Errorf("%s: %v, want %v", what, got, want)
	}
	if w.Now() != to {
		t.Errorf("%s: Now is %d", what, w.Now())
	}
}

// refused fails, unless a wheel does not go on to a time, and tells nothing.
func refused(t *testing.T, w *wheel.Wheel, to int) {
	t.Helper()
	what := fmt.Sprint("Advance to ", to)
	got, err := w.Advance(to)
	told(t, what, err, api.ErrRange)
	if len(got) > 0 {
		t.Errorf("%s: %v beside an error", what, got)
	}
}

// full is a wheel with as many timers as there may be, of the ids from 0 on, each at the time that is told of it.
func full(t *testing.T, at func(id int) int) *wheel.Wheel {
	t.Helper()
	var w wheel.Wheel
	for id := range most {
		add(t, &w, at(id), id)
	}
	return &w
}

// Promise 6.1.

func TestZeroValue(t *testing.T) {
	var w wheel.Wheel
	has(t, "at first", &w, 0, 0)
	out(t, &w, 0, false)
	due(t, &w, 0)
	due(t, &w, api.MaxTime)
	has(t, "at the end", &w, api.MaxTime, 0)
	var v wheel.Wheel
	add(t, &v, 0, 1)
	has(t, "another one", &v, 0, 1)
	has(t, "the first one", &w, api.MaxTime, 0)
}

func TestExample(t *testing.T) {
	var w wheel.Wheel
	add(t, &w, 5, 1)
	add(t, &w, 3, 2)
	has(t, "two timers", &w, 0, 2)
	due(t, &w, 9, 2, 1)
	has(t, "behind both", &w, 9, 0)
}

func TestAddRange(t *testing.T) {
	var w wheel.Wheel
	for _, at := range []int{math.MinInt, -api.MaxTime, -1, api.MaxTime + 1, 1 << 42, math.MaxInt} {
		told(t, fmt.Sprint("Add at ", at), w.Add(at, 1), api.ErrRange)
		has(t, fmt.Sprint("Add at ", at), &w, 0, 0)
	}
	add(t, &w, 0, 1)
	add(t, &w, api.MaxTime, 2)
	told(t, "Add at a wrong time, of an id that is there", w.Add(-1, 1), api.ErrRange)
	told(t, "Add at a wrong time, of an id that is there", w.Add(api.MaxTime+1, 1), api.ErrRange)
	due(t, &w, 0, 1)
	due(t, &w, api.MaxTime-1)
	due(t, &w, api.MaxTime, 2)
}

func TestIds(t *testing.T) {
	var w wheel.Wheel
	ids := []int{math.MaxInt, 0, -1, math.MinInt, 1, -api.MaxTime}
	for _, id := range ids {
		add(t, &w, 7, id)
	}
	for _, id := range ids {
		told(t, fmt.Sprint("Add of ", id, " again"), w.Add(7, id), api.ErrTwice)
	}
	out(t, &w, 2, false)
	out(t, &w, -1, true)
	due(t, &w, 7, math.MaxInt, 0, math.MinInt, 1, -api.MaxTime)
}

func TestAddTwice(t *testing.T) {
	var w wheel.Wheel
	add(t, &w, 100, 1)
	for _, at := range []int{0, 99, 100, 101, api.MaxTime} {
		told(t, fmt.Sprint("Add again, at ", at), w.Add(at, 1), api.ErrTwice)
		has(t, "Add again", &w, 0, 1)
	}
	due(t, &w, 99)
	told(t, "Add again, later", w.Add(200, 1), api.ErrTwice)
	due(t, &w, 100, 1)
	add(t, &w, 200, 1)
	out(t, &w, 1, true)
	add(t, &w, 300, 1)
	due(t, &w, 299)
	due(t, &w, 300, 1)
}

func TestAddLimit(t *testing.T) {
	w := full(t, func(id int) int { return id * 37 % 5000 })
	told(t, "Add of one too many", w.Add(1, most), api.ErrLimit)
	told(t, "Add of one that is there", w.Add(1, most-1), api.ErrTwice)
	told(t, "Add at a wrong time", w.Add(-1, most), api.ErrRange)
	has(t, "all", w, 0, most)
	out(t, w, most, false)
	out(t, w, 17, true)
	add(t, w, 1, most)
	told(t, "Add of one too many again", w.Add(1, 17), api.ErrLimit)
	due(t, w, 0, 0, 5000)
	add(t, w, 2, 17)
	add(t, w, 2, 0)
	told(t, "Add behind what was due", w.Add(2, 5000), api.ErrLimit)
	ids, err := w.Advance(5000)
	told(t, "Advance behind all", err, api.OK)
	if len(ids) != most {
		t.Errorf("Advance behind all: %d ids", len(ids))
	}
	has(t, "behind all", w, 5000, 0)
	for id := range most {
		add(t, w, 6000, id)
	}
	told(t, "Add of one too many, anew", w.Add(6000, most), api.ErrLimit)
}

func TestCancel(t *testing.T) {
	var w wheel.Wheel
	for id := range 5 {
		add(t, &w, 10, id)
	}
	out(t, &w, 2, true)
	has(t, "without one", &w, 0, 4)
	out(t, &w, 2, false)
	out(t, &w, 5, false)
	has(t, "without one yet", &w, 0, 4)
	// Who comes again is the last one.
	out(t, &w, 0, true)
	add(t, &w, 10, 0)
	due(t, &w, 9)
	out(t, &w, 4, true)
	due(t, &w, 10, 1, 3, 0)
	out(t, &w, 1, false)
	has(t, "behind all", &w, 10, 0)
}

func TestAdvanceRange(t *testing.T) {
	var w wheel.Wheel
	add(t, &w, 10, 1)
	for _, to := range []int{math.MinInt, -1, api.MaxTime + 1, math.MaxInt} {
		refused(t, &w, to)
		has(t, fmt.Sprint("Advance to ", to), &w, 0, 1)
	}
	due(t, &w, 5)
	for _, to := range []int{-1, 0, 4, api.MaxTime + 1} {
		refused(t, &w, to)
		has(t, fmt.Sprint("Advance to ", to), &w, 5, 1)
	}
	due(t, &w, 5)
	due(t, &w, 10, 1)
	due(t, &w, 10)
	due(t, &w, api.MaxTime)
	refused(t, &w, api.MaxTime-1)
	due(t, &w, api.MaxTime)
}

func TestEachIsDueOnce(t *testing.T) {
	var w wheel.Wheel
	for id := range 300 {
		add(t, &w, id, id)
	}
	for to := range 300 {
		due(t, &w, to, to)
		has(t, "one less", &w, to, 299-to)
	}
	due(t, &w, api.MaxTime)
}

// Timers ahead of Now may be put in: they are due at once, still by their own times.
func TestAddAheadOfNow(t *testing.T) {
	var w wheel.Wheel
	due(t, &w, 5000)
	add(t, &w, 5000, 1)
	add(t, &w, 4999, 2)
	add(t, &w, 0, 3)
	add(t, &w, 5001, 4)
	add(t, &w, 4999, 5)
	add(t, &w, 0, 6)
	out(t, &w, 3, true)
	has(t, "five timers", &w, 5000, 5)
	due(t, &w, 5000, 6, 2, 5, 1)
	add(t, &w, 5001, 7)
	add(t, &w, 10, 8)
	due(t, &w, 5002, 8, 4, 7)
	due(t, &w, api.MaxTime)
	add(t, &w, api.MaxTime, 9)
	add(t, &w, 1, 10)
	due(t, &w, api.MaxTime, 10, 9)
}

// Like timers are told as they were added, wherever time was when they were.
func TestLikeOnes(t *testing.T) {
	for _, at := range []int{63, 64, 65, 4095, 4096, 4097, 300_000, 1 << 36, api.MaxTime} {
		var w wheel.Wheel
		var want []int
		add(t, &w, at-1, -1)
		for k, now := range []int{0, 1, at / 2, at - at/4, at - 70, at - 64, at - 63, at - 2} {
			if now = max(now, w.Now()); now >= at-1 {
				break
			}
			due(t, &w, now)
			add(t, &w, at, 100-k)
			add(t, &w, at, 200-k)
			want = append(want, 100-k, 200-k)
		}
		due(t, &w, at, append([]int{-1}, want...)...)
		has(t, "behind all", &w, at, 0)
	}
}

func TestManyLikeOnes(t *testing.T) {
	w := full(t, func(id int) int { return 70_000 })
	var want []int
	for id := range most {
		if id%3 == 0 {
			out(t, w, id, true)
			continue
		}
		want = append(want, id)
	}
	due(t, w, 69_999)
	due(t, w, 70_000, want...)
}

// edges are times at which something of a wheel's numbers turns.
func edges() []int {
	l := []int{0, 1, 2}
	for n := 8; n < api.MaxTime; n *= 2 {
		l = append(l, n-1, n, n+1, n+n/2)
	}
	return append(l, api.MaxTime-1, api.MaxTime)
}

// From wherever, to wherever: a timer is due at its time, and not ahead of it.
func TestEdges(t *testing.T) {
	for _, now := range edges() {
		for _, at := range edges() {
			var w wheel.Wheel
			due(t, &w, now)
			add(t, &w, at, 1)
			if at <= now {
				due(t, &w, now, 1)
				continue
			}
			due(t, &w, now)
			due(t, &w, now+(at-now)/2)
			due(t, &w, at-1)
			due(t, &w, at, 1)
			has(t, "behind it", &w, at, 0)
		}
	}
}

// All of them together, by steps from edge to edge.
func TestEdgesTogether(t *testing.T) {
	for step := 1; step < 9; step++ {
		var w wheel.Wheel
		times := edges()
		slices.Sort(times)
		times = slices.Compact(times)
		for k := range times {
			add(t, &w, times[len(times)-1-k], len(times)-1-k)
		}
		for k := 0; k < len(times); k += step {
			var want []int
			for id := max(0, k-step+1); id <= k; id++ {
				want = append(want, id)
			}
			due(t, &w, times[k], want...)
		}
	}
}

func TestAnswersAreTheCallers(t *testing.T) {
	var w wheel.Wheel
	for id := range 4 {
		add(t, &w, id/2, id)
	}
	first, _ := w.Advance(0)
	kept := slices.Clone(first)
	second, _ := w.Advance(1)
	if !slices.Equal(first, kept) {
		t.Errorf("an answer is %v, and was %v", first, kept)
	}
	first[0], second[0] = 77, 78
	_, _ = append(first, 79), append(second, 80)
	add(t, &w, 2, 2)
	add(t, &w, 2, 0)
	due(t, &w, 2, 2, 0)
}

// plainly is a wheel as the document's words tell it: all timers in the order in which they were added.
type plainly struct {
	now    int
	timers [][2]int // at, id
}

// find is the number of an id's timer (-1: there is none).
func (p *plainly) find(id int) int {
	return slices.IndexFunc(p.timers, func(t [2]int) bool { return t[1] == id })
}

// add is what Add tells.
func (p *plainly) add(at, id int) api.Errno {
	switch {
	case at < 0 || at > api.MaxTime:
		return api.ErrRange
	case p.find(id) >= 0:
		return api.ErrTwice
	case len(p.timers) >= most:
		return api.ErrLimit
	}
	p.timers = append(p.timers, [2]int{at, id})
	return api.OK
}

// cancel is what Cancel tells.
func (p *plainly) cancel(id int) bool {
	k := p.find(id)
	if k < 0 {
		return false
	}
	p.timers = slices.Delete(p.timers, k, k+1)
	return true
}

// advance is what Advance tells.
func (p *plainly) advance(to int) ([]int, api.Errno) {
	if to < p.now || to > api.MaxTime {
		return nil, api.ErrRange
	}
	p.now = to
	var gone, stay [][2]int
	for _, t := range p.timers {
		if t[0] <= to {
			gone = append(gone, t)
		} else {
			stay = append(stay, t)
		}
	}
	p.timers = stay
	slices.SortStableFunc(gone, func(a, b [2]int) int { return a[0] - b[0] })
	var ids []int
	for _, t := range gone {
		ids = append(ids, t[1])
	}
	return ids, api.OK
}

// die is numbers that look drawn, the same each time.
type die uint64

// n is the next one, from 0 to below most.
func (d *die) n(most int) int {
	*d = *d*6364136223846793005 + 1442695040888963407
	return int(uint64(*d) >> 17 % uint64(most))
}

// All answers are those of the plain telling: near times and far ones, small steps and great ones.
func TestAgainstPlainly(t *testing.T) {
	d := die(6)
	for round := range 400 {
		scale := []int{3, 70, 4200, 300_000, 1 << 30, api.MaxTime}[d.n(6)]
		leap := []int{2, scale/50 + 2, scale + 1}[d.n(3)]
		ids := []int{5, 40, 1000}[d.n(3)]
		var w wheel.Wheel
		var p plainly
		for step := range 300 {
			what := fmt.Sprint("round ", round, ", step ", step)
			switch at, id := w.Now()+d.n(scale)-d.n(8)/7*d.n(scale), d.n(ids)-2; d.n(6) {
			case 0, 1, 2:
				told(t, fmt.Sprint(what, ": Add of ", id, " at ", at), w.Add(at, id), p.add(at, id))
			case 3:
				out(t, &w, id, p.cancel(id))
			default:
				same(t, what, &w, &p, w.Now()+d.n(leap)-d.n(20)/19)
			}
			has(t, what, &w, p.now, len(p.timers))
		}
		same(t, "at the end", &w, &p, api.MaxTime)
		if t.Failed() {
			return
		}
	}
}

// same fails, unless both tell the same, going on to a time.
func same(t *testing.T, what string, w *wheel.Wheel, p *plainly, to int) {
	t.Helper()
	what = fmt.Sprint(what, ": Advance from ", w.Now(), " to ", to)
	want, wrong := p.advance(to)
	got, err := w.Advance(to)
	told(t, what, err, wrong)
	if !slices.Equal(got, want) {
		t.Errorf("%s: %v, want %v", what, got, want)
	}
}

// Time that goes far, with as many timers as there may be, all over it.
func TestFull(t *testing.T) {
	d := die(1)
	var p plainly
	w := full(t, func(id int) int {
		at := d.n(1 << (d.n(40) + 1))
		p.timers = append(p.timers, [2]int{at, id})
		return at
	})
	for w.Now() < api.MaxTime {
		same(t, "all over", w, &p, min(w.Now()*5/4+1, api.MaxTime))
		has(t, "all over", w, p.now, len(p.timers))
	}
	has(t, "at the end", w, api.MaxTime, 0)
}
