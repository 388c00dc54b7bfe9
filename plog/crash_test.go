package plog_test

import (
	"fmt"
	"math"
	"math/rand"
	"slices"
	"strings"
	"testing"

	"conveyor/api"
	"conveyor/disk"
	"conveyor/plain"
	"conveyor/plog"
)

// Promise 4.6: crashes; and all answers as the words say them, whatever was done ahead.

// house is a log, and beside it what it has by the words of the document.
type house struct {
	t       *testing.T
	r       *rand.Rand
	d       *disk.Disk
	l       *plog.Log
	most    int
	done    string       // what was done
	records []api.Record // of all segments, those ahead of Start, too
	bases   []int        // of all segments
	ends    []int        // each END it had
	start   int
	safe    int
}

// begun is a house with an empty log.
func begun(t *testing.T, seed int64) *house {
	r := rand.New(rand.NewSource(seed))
	h := &house{t: t, r: r, d: room(t, 600+r.Intn(3000)), most: 100 + r.Intn(150), start: r.Intn(2) * r.Intn(40)}
	h.done = fmt.Sprint("seed ", seed, ": ")
	h.l = opened(t, h.d, h.most, h.start)
	h.bases, h.ends, h.safe = []int{h.start}, []int{h.start}, h.start
	return h
}

// end is END.
func (h *house) end() int { return h.ends[len(h.ends)-1] }

// from is the records from an offset on.
func (h *house) from(from int) []api.Record {
	return slices.DeleteFunc(slices.Clone(h.records), func(r api.Record) bool { return r.Offset < from })
}

// check fails, unless the log is what the house says.
func (h *house) check() {
	h.t.Helper()
	numbers(h.t, h.done, h.l, h.start, h.end(), h.safe, h.bases...)
	has(h.t, h.done, h.l, h.from(h.start)...)
	if h.l.Size() != h.d.Used() || len(h.d.List("")) != len(h.bases) {
		h.t.Errorf("%s: Size %d, Used %d, files %q", h.done, h.l.Size(), h.d.Used(), h.d.List(""))
	}
	time := h.r.Intn(60) - 1
	want, found := 0, false
	for _, r := range h.from(h.start) {
		if !found && r.Time >= time {
			want, found = r.Offset, true
		}
	}
	if got, ok := h.l.Since(time); got != want || ok != found {
		h.t.Errorf("%s: Since(%d) is %d, %v, want %d, %v", h.done, time, got, ok, want, found)
	}
	if h.t.Failed() {
		h.t.FailNow()
	}
}

// drawn is records that look drawn.
func (h *house) drawn() []api.Record {
	l := make([]api.Record, 1+h.r.Intn(4))
	for k := range l {
		l[k] = api.Record{Offset: h.r.Intn(9), Time: h.r.Intn(50), Value: strings.Repeat("v", h.r.Intn(30))}
		if h.r.Intn(3) > 0 {
			l[k].Keyed, l[k].Key = true, []string{"", "a", "b", "c"}[h.r.Intn(4)]
		}
		if h.r.Intn(4) == 0 {
			l[k].Gone, l[k].Value = true, ""
		}
	}
	return l
}

// add does an Add. Where a segment came, all ahead of it is safe.
func (h *house) add() error {
	l := h.drawn()
	h.done += fmt.Sprint(" Add ", len(l))
	n, err := h.l.Add(l)
	if bases := h.l.Segments(); len(bases) > len(h.bases) {
		h.bases, h.safe = append(h.bases, h.end()), h.end()
	}
	if err != nil {
		// It may have been made safe ahead of the error.
		if h.l.Safe() == h.end() {
			h.safe = h.end()
		}
		return err
	}
	if n != h.end() {
		h.t.Errorf("%s: Add tells %d, want %d", h.done, n, h.end())
	}
	h.records = append(h.records, numbered(n, l...)...)
	h.ends = append(h.ends, n+len(l))
	return nil
}

// flush does a Flush.
func (h *house) flush() error {
	h.done += " Flush"
	err := h.l.Flush()
	if err == nil {
		h.safe = h.end()
	}
	return err
}

// leave leaves the segments from the k-th one on.
func (h *house) leave(k int) {
	h.bases = h.bases[k:]
	h.start = max(h.start, h.bases[0])
	h.records = h.from(h.bases[0])
}

// forget does a Forget.
func (h *house) forget() error {
	to := h.bases[0] + h.r.Intn(h.end()-h.bases[0]+1)
	h.done += fmt.Sprint(" Forget ", to)
	err := h.l.Forget(to)
	if err == nil {
		h.start = max(h.start, to)
		k := 0
		for k+1 < len(h.bases) && h.bases[k+1] <= h.start {
			k++
		}
		h.leave(k)
	}
	return err
}

// retain does a Retain by times; how many bytes there are is the log's to tell.
func (h *house) retain() error {
	now, age := h.r.Intn(70), h.r.Intn(40)-5
	h.done += fmt.Sprint(" Retain ", now, " ", age)
	n, err := h.l.Retain(now, age, -1)
	if err != nil {
		return err
	}
	k := 0
	for age >= 0 && k+1 < len(h.bases) && h.latest(h.bases[k], h.bases[k+1]) < now-age {
		k++
	}
	if n != k {
		h.t.Errorf("%s: %d went, want %d", h.done, n, k)
	}
	h.leave(k)
	return nil
}

// latest is the greatest Time from an offset on, ahead of another.
func (h *house) latest(from, to int) int {
	latest := -1
	for _, r := range h.records {
		if r.Offset >= from && r.Offset < to {
			latest = max(latest, r.Time)
		}
	}
	return latest
}

// goes says whether a Compact takes a record out.
func (h *house) goes(r api.Record, now, age int) bool {
	if !r.Keyed || r.Offset >= h.bases[len(h.bases)-1] {
		return false
	}
	behind := func(x api.Record) bool { return x.Keyed && x.Key == r.Key && x.Offset > r.Offset }
	return slices.ContainsFunc(h.records, behind) || r.Gone && r.Time < now-age
}

// compact does a Compact. Where it tells an error, segments from the first one on have lost what goes, and no others.
func (h *house) compact() error {
	now, age := h.r.Intn(70), h.r.Intn(40)
	h.done += fmt.Sprint(" Compact ", now, " ", age)
	n, err := h.l.Compact(now, age)
	if err == nil || h.l.Safe() == h.end() {
		h.safe = h.end()
	}
	left, went := h.compacted(now, age, len(h.bases))
	if err != nil {
		left, went = h.begunCompact(now, age, n)
	}
	if n != went {
		h.t.Errorf("%s: %d went, want %d", h.done, n, went)
	}
	h.records = left
	return err
}

// compacted is the records that stay, where a Compact did so many segments, and how many went.
func (h *house) compacted(now, age, segments int) ([]api.Record, int) {
	to := math.MaxInt
	if segments < len(h.bases) {
		to = h.bases[segments]
	}
	left := slices.DeleteFunc(slices.Clone(h.records), func(r api.Record) bool { return r.Offset < to && h.goes(r, now, age) })
	return left, len(h.records) - len(left)
}

// begunCompact is compacted, of as many segments as told an error behind so many records.
func (h *house) begunCompact(now, age, n int) ([]api.Record, int) {
	for k := range h.bases {
		if left, went := h.compacted(now, age, k); went == n {
			return left, went
		}
	}
	return h.records, 0
}

// step does something that looks drawn.
func (h *house) step() error {
	switch h.r.Intn(12) {
	case 0:
		return h.flush()
	case 1:
		return h.forget()
	case 2:
		return h.retain()
	case 3, 4:
		return h.compact()
	}
	return h.add()
}

// crash is a crash, behind which all is opened anew; perhaps the disk fails, and crashes, while it is.
func (h *house) crash() {
	start := h.r.Intn(min(h.start, h.l.Start()) + 1)
	for {
		fates := make([]byte, h.r.Intn(4))
		h.r.Read(fates)
		h.d.Crash(fates)
		fail := h.r.Intn(6) - 1
		h.d.Fail(fail)
		h.done += fmt.Sprint(" Crash ", fates, " Fail ", fail, " Open ", start)
		l, err := plog.Open(h.d, "p", h.most, start)
		if err == nil {
			h.l = l
			break
		}
		told(h.t, h.done, err, api.ErrDevice)
	}
	h.d.Fail(-1)
	end := h.l.End()
	if end < h.safe || !slices.Contains(h.ends, end) {
		h.t.Fatalf("%s: END is %d, Safe was %d, and it had %v", h.done, end, h.safe, h.ends)
	}
	h.ends = h.ends[:slices.Index(h.ends, end)+1]
	if bases := h.l.Segments(); !slices.Equal(h.bases, bases) {
		h.t.Fatalf("%s: the segments are %v, they were %v", h.done, bases, h.bases)
	}
	h.safe, h.start = end, min(max(start, h.bases[0]), end)
	h.records = slices.DeleteFunc(h.from(h.bases[0]), func(r api.Record) bool { return r.Offset >= end })
}

// Whatever is done, the log is what the words say; and so it is behind a crash that comes when nothing is under way.
func TestAgainstTheWords(t *testing.T) {
	for seed := range int64(150) {
		h := begun(t, seed)
		for range 60 {
			err := h.step()
			if e := api.Tell(err); err != nil && e != api.ErrFull {
				t.Fatalf("%s: %v", h.done, err)
			}
			h.check()
			if h.r.Intn(12) == 0 {
				h.crash()
				h.check()
			}
		}
	}
}

// failing does steps until the disk fails; what was under way is neither done nor not.
func (h *house) failing() {
	fail := h.r.Intn(30)
	h.d.Fail(fail)
	h.done += fmt.Sprint(" Fail ", fail)
	for {
		err := h.step()
		if api.Tell(err) == api.ErrDevice {
			break
		}
		h.check()
		if err == nil && h.r.Intn(40) == 0 {
			break
		}
	}
}

// Whenever the disk fails, and crashes, and again and again while it is opened, what was safe comes back.
func TestCrashes(t *testing.T) {
	for seed := range int64(300) {
		h := begun(t, seed)
		for range 8 {
			h.failing()
			h.settle()
			h.crash()
			h.check()
		}
	}
}

// settle takes as gone the segments that went, from the first one on, by a Forget or a Retain that failed.
func (h *house) settle() {
	bases := h.l.Segments()
	k := slices.Index(h.bases, bases[0])
	if k < 0 || !slices.Equal(h.bases[k:], bases) {
		h.t.Fatalf("%s: the segments are %v, they were %v", h.done, bases, h.bases)
	}
	h.bases = bases
	h.records = h.from(bases[0])
}

// One Compact and one Forget, with the disk failing ahead of each of their operations, and all that a crash may leave.
func TestCrashesOneByOne(t *testing.T) {
	every := spreadRecords()
	for _, fates := range [][]byte{nil, {1}, {0, 30}, {255}} {
		for n := range 20 {
			d, l := spread(t)
			d.Fail(n)
			went, err := l.Compact(36, 0)
			gone := []int{11, 12, 14, 15}
			what := fmt.Sprint("Compact, Fail ", n, ", fates ", fates, ", ", went, " went")
			if err != nil {
				told(t, what, err, api.ErrDevice)
				gone = gone[:went]
			}
			safe := l.Safe()
			d.Crash(fates)
			l = opened(t, d, 100, 0)
			if l.End() < safe {
				t.Fatalf("%s: END %d, Safe was %d", what, l.End(), safe)
			}
			numbers(t, what, l, 10, l.End(), l.End(), 10, 14, 17)
			has(t, what, l, without(every[:l.End()-10], gone...)...)
			files(t, what, d, "p/0000000010.log", "p/0000000014.log", "p/0000000017.log")
			if plain.Same(all(t, what, l, 0), every) != (went == 0 && l.End() == 20) {
				t.Errorf("%s: END %d", what, l.End())
			}
		}
	}
}
