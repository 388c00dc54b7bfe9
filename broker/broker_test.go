package broker_test

import (
	"fmt"
	"math"
	"reflect"
	"slices"
	"strings"
	"testing"

	"conveyor/api"
	"conveyor/broker"
	"conveyor/disk"
	"conveyor/plain"
	"conveyor/plog"
	"conveyor/topics"
)

// mostWaits is how many fetches may wait: as many as a wheel has timers.
const mostWaits = 10_000

// never is a configuration of small segments, by which Retain takes nothing.
var never = topics.Config{Segment: 100, Age: -1, Bytes: -1}

// told fails, unless an error is that Errno, without a place.
func told(t *testing.T, what string, err error, want api.Errno) {
	t.Helper()
	if got, bare := plain.Bare(err); got != want || !bare || (err == nil) != (want == api.OK) {
		t.Errorf("%s: %v, want Errno %d, bare", what, err, int(want))
	}
}

// house is a disk, a store on it, and the broker of that.
type house struct {
	t *testing.T
	*broker.Broker
	disk  *disk.Disk
	store *topics.Store
}

// built is a house at a time.
func built(t *testing.T, room int, c topics.Config, now int) house {
	t.Helper()
	d, err := disk.New(room)
	if err != nil {
		t.Fatalf("disk.New(%d): %v", room, err)
	}
	s, err := topics.Open(d, c)
	if err != nil {
		t.Fatalf("topics.Open, %v: %v", c, err)
	}
	b, err := broker.New(s, now)
	if err != nil || b == nil {
		t.Fatalf("New at %d: %v", now, err)
	}
	return house{t: t, Broker: b, disk: d, store: s}
}

// plainHouse is one at time 0, with topics a (of two partitions) and b (that is compacted).
func plainHouse(t *testing.T) house {
	t.Helper()
	h := built(t, 100_000, never, 0)
	h.create("a", 2, false)
	h.create("b", 1, true)
	return h
}

// create makes a topic.
func (h house) create(name string, parts int, compact bool) {
	h.t.Helper()
	h.does("Create of "+name, api.Request{Kind: api.Create, Topic: name, Parts: parts, Compact: compact}, api.Answer{Kind: api.Create})
}

// log is a partition's.
func (h house) log(topic string, part int) *plog.Log {
	h.t.Helper()
	l, err := h.store.Log(topic, part)
	if err != nil {
		h.t.Fatalf("Log of %s, %d: %v", topic, part, err)
	}
	return l
}

// put puts records into a partition, each as a batch.
func (h house) put(topic string, part int, records ...api.Record) {
	h.t.Helper()
	for _, r := range records {
		if _, err := h.log(topic, part).Add([]api.Record{r}); err != nil {
			h.t.Fatalf("Add to %s, %d: %v", topic, part, err)
		}
	}
}

// does fails, unless a request of somebody (7) is answered by just this.
func (h house) does(what string, x api.Request, want api.Answer) {
	h.t.Helper()
	h.outs(what, h.Do(7, x), broker.Out{To: 7, Answer: want})
}

// refuses fails, unless a request is answered by an error, of its Kind and Corr, and nothing else.
func (h house) refuses(what string, x api.Request, want api.Errno) {
	h.t.Helper()
	h.does(what, x, api.Answer{Kind: x.Kind, Corr: x.Corr, Err: want})
}

// outs fails, unless just these answers were told.
func (h house) outs(what string, got []broker.Out, want ...broker.Out) {
	h.t.Helper()
	if !slices.EqualFunc(got, want, same) {
		h.t.Errorf("%s: told\n%+v, want\n%+v", what, got, want)
	}
}

// same says whether two answers are the same, to the same one.
func same(x, y broker.Out) bool {
	a, b := x.Answer, y.Answer
	if x.To != y.To || !plain.Same(a.Records, b.Records) || !slices.Equal(a.Topics, b.Topics) {
		return false
	}
	a.Records, b.Records, a.Topics, b.Topics = nil, nil, nil, nil
	return reflect.DeepEqual(a, b)
}

// wait lets a fetch of somebody wait, whose Corr is told.
func (h house) wait(who, corr int, x api.Request) {
	h.t.Helper()
	x.Kind, x.Corr = api.Fetch, corr
	n := h.Waits()
	h.outs(fmt.Sprint("Fetch ", corr), h.Do(who, x))
	h.waiting(fmt.Sprint("behind fetch ", corr), n+1)
}

// waiting fails, unless so many fetches wait.
func (h house) waiting(what string, want int) {
	h.t.Helper()
	if got := h.Waits(); got != want {
		h.t.Errorf("%s: %d wait, want %d", what, got, want)
	}
}

// ticks fails, unless going on to a time tells just these answers.
func (h house) ticks(now int, want ...broker.Out) {
	h.t.Helper()
	what := fmt.Sprint("Tick to ", now)
	got, err := h.Tick(now)
	told(h.t, what, err, api.OK)
	h.outs(what, got, want...)
	if h.Now() != now {
		h.t.Errorf("%s: Now is %d", what, h.Now())
	}
}

// cleans fails, unless so many go by Clean, with that error, and just these answers are told.
func (h house) cleans(what string, n int, wrong api.Errno, want ...broker.Out) {
	h.t.Helper()
	got, out, err := h.Clean()
	told(h.t, what, err, wrong)
	h.outs(what, out, want...)
	if got != n {
		h.t.Errorf("%s: %d went, want %d", what, got, n)
	}
}

// fetched is the answer to a fetch.
func fetched(who, corr, start, end int, records ...api.Record) broker.Out {
	return broker.Out{To: who, Answer: api.Answer{Kind: api.Fetch, Corr: corr, Start: start, End: end, Records: records}}
}

// refused is the answer to a fetch that has an error.
func refused(who, corr int, err api.Errno) broker.Out {
	return broker.Out{To: who, Answer: api.Answer{Kind: api.Fetch, Corr: corr, Err: err}}
}

// small is a record of four bytes; a batch of it has 19 (while all its numbers are small), so that five of them are in a segment of 100.
func small(offset, time int) api.Record {
	return api.Record{Offset: offset, Time: time, Value: "four"}
}

// smalls is so many, of the times 0, 1 ..
func smalls(n int) []api.Record {
	var l []api.Record
	for k := range n {
		l = append(l, small(k, k))
	}
	return l
}

// keyed is a record of two bytes.
func keyed(offset, time int, key string) api.Record {
	return api.Record{Offset: offset, Time: time, Keyed: true, Key: key, Value: "v"}
}

// Promise 8.1: New.

func TestNew(t *testing.T) {
	for _, now := range []int{0, 1, 63, 64, 5000, api.MaxTime - 1, api.MaxTime} {
		h := built(t, 0, never, now)
		if h.Now() != now || h.Waits() != 0 {
			t.Errorf("at %d: Now %d, Waits %d", now, h.Now(), h.Waits())
		}
	}
}

func TestNewWrong(t *testing.T) {
	s := built(t, 0, never, 0).store
	for _, now := range []int{-1, math.MinInt, api.MaxTime + 1, math.MaxInt} {
		b, err := broker.New(s, now)
		told(t, fmt.Sprint("New at ", now), err, api.ErrRange)
		if b != nil {
			t.Errorf("New at %d: a broker beside an error", now)
		}
		_, err = broker.New(nil, now)
		told(t, fmt.Sprint("New of no store at ", now), err, api.ErrMissing)
	}
	b, err := broker.New(nil, 0)
	told(t, "New of no store", err, api.ErrMissing)
	if b != nil {
		t.Error("a broker of no store")
	}
}

// Promise 8.1: Do.

func TestWrongKind(t *testing.T) {
	h := plainHouse(t)
	h.wait(1, 1, api.Request{Topic: "a", Least: 1, Wait: 1})
	for _, kind := range []int{0, -1, 8, math.MinInt, math.MaxInt} {
		x := api.Request{Kind: kind, Corr: 5, Topic: "a", Offset: 1, Most: 1, Least: 9, Wait: 9, Time: 1, Parts: 1, Records: smalls(1)}
		h.refuses(fmt.Sprint("kind ", kind), x, api.ErrArg)
	}
	h.waiting("behind wrong kinds", 1)
	h.does("Describe", api.Request{Kind: api.Describe}, api.Answer{Kind: api.Describe, Topics: []api.Topic{{Name: "a", Parts: 2}, {Name: "b", Parts: 1, Compact: true}}})
}

// Whatever Corr is, and who asked, an answer has it.
func TestWhoAndCorr(t *testing.T) {
	h := plainHouse(t)
	for _, n := range []int{0, 1, -1, api.MaxTime + 1, math.MinInt, math.MaxInt} {
		for kind := -1; kind <= 8; kind++ {
			out := h.Do(n, api.Request{Kind: kind, Corr: n, Topic: "none"})
			if len(out) != 1 || out[0].To != n || out[0].Answer.Kind != kind || out[0].Answer.Corr != n {
				t.Errorf("who and Corr %d, kind %d: %+v", n, kind, out)
			}
		}
	}
}

func TestCreateDropDescribe(t *testing.T) {
	h := built(t, 100_000, never, 0)
	describes := func(want ...api.Topic) {
		t.Helper()
		h.does("Describe", api.Request{Kind: api.Describe, Corr: 3, Topic: "a", Part: 9}, api.Answer{Kind: api.Describe, Corr: 3, Topics: want})
	}
	describes()
	x := api.Request{Kind: api.Create, Corr: 4, Topic: "a", Parts: 3, Compact: true}
	h.does("Create", x, api.Answer{Kind: api.Create, Corr: 4})
	describes(api.Topic{Name: "a", Parts: 3, Compact: true})
	x.Parts = 0
	h.refuses("Create of one that is there", x, api.ErrTwice)
	x.Topic = "A"
	h.refuses("Create of no name", x, api.ErrName)
	for _, n := range []int{0, 5, -1, math.MinInt, math.MaxInt} {
		x.Topic, x.Parts = "b", n
		h.refuses(fmt.Sprint("Create of ", n, " partitions"), x, api.ErrRange)
	}
	h.create("b", 4, false)
	describes(api.Topic{Name: "a", Parts: 3, Compact: true}, api.Topic{Name: "b", Parts: 4})
	for k := range api.MaxTopics - 2 {
		h.create(fmt.Sprint("t", k), 1, false)
	}
	x.Topic, x.Parts = "t", 1
	h.refuses("Create of one more", x, api.ErrLimit)
	y := api.Request{Kind: api.Drop, Corr: 6, Topic: "c"}
	h.refuses("Drop of none", y, api.ErrMissing)
	y.Topic = "a"
	h.does("Drop", y, api.Answer{Kind: api.Drop, Corr: 6})
	h.refuses("Drop again", y, api.ErrMissing)
	for k := range api.MaxTopics - 2 {
		y.Topic = fmt.Sprint("t", k)
		h.does("Drop", y, api.Answer{Kind: api.Drop, Corr: 6})
	}
	describes(api.Topic{Name: "b", Parts: 4})
}

func TestProduce(t *testing.T) {
	h := plainHouse(t)
	x := api.Request{Kind: api.Produce, Corr: 9, Topic: "a", Part: 1, Records: []api.Record{small(5, 3), keyed(5, 2, "k")}}
	h.does("Produce", x, api.Answer{Kind: api.Produce, Corr: 9})
	h.does("Produce again", x, api.Answer{Kind: api.Produce, Corr: 9, Offset: 2})
	l := h.log("a", 1)
	if l.End() != 4 || l.Safe() != 0 {
		t.Errorf("End %d, Safe %d, want 4, 0", l.End(), l.Safe())
	}
	x.Sure = true
	h.does("Produce, sure", x, api.Answer{Kind: api.Produce, Corr: 9, Offset: 4})
	if l.End() != 6 || l.Safe() != 6 {
		t.Errorf("End %d, Safe %d, want 6, 6", l.End(), l.Safe())
	}
	if got, _ := l.Read(0, math.MaxInt); !plain.Same(got, []api.Record{small(0, 3), keyed(1, 2, "k"), small(2, 3), keyed(3, 2, "k"), small(4, 3), keyed(5, 2, "k")}) {
		t.Errorf("the log has %v", got)
	}
	if n := h.log("a", 0).End() + h.log("b", 0).End(); n != 0 {
		t.Errorf("others have %d records", n)
	}
	if !plain.Same(x.Records, []api.Record{small(5, 3), keyed(5, 2, "k")}) {
		t.Errorf("what came in is %v", x.Records)
	}
}

func TestProduceWrong(t *testing.T) {
	h := plainHouse(t)
	many := make([]api.Record, api.MaxRecords+1)
	for _, c := range []struct {
		what    string
		topic   string
		part    int
		records []api.Record
		want    api.Errno
	}{
		{"no such topic", "c", 0, smalls(1), api.ErrMissing},
		{"no name", "A b", 9, nil, api.ErrMissing},
		{"no such partition", "a", 2, nil, api.ErrRange},
		{"no such partition", "a", -1, smalls(1), api.ErrRange},
		{"no record", "a", 0, nil, api.ErrArg},
		{"a key that isn't Keyed", "a", 0, []api.Record{{Key: "k"}}, api.ErrArg},
		{"a value that is Gone", "a", 0, []api.Record{{Gone: true, Value: "v"}}, api.ErrArg},
		{"a time below 0", "a", 0, []api.Record{{Time: -1}}, api.ErrRange},
		{"a time above MaxTime", "a", 0, []api.Record{{Time: api.MaxTime + 1}}, api.ErrRange},
		{"a value that is too long", "a", 0, []api.Record{{Value: strings.Repeat("v", api.MaxValue+1)}}, api.ErrLimit},
		{"a key that is too long", "a", 0, []api.Record{{Keyed: true, Key: strings.Repeat("k", api.MaxKey+1)}}, api.ErrLimit},
		{"too many records", "a", 0, many, api.ErrLimit},
	} {
		for _, sure := range []bool{false, true} {
			h.refuses(c.what, api.Request{Kind: api.Produce, Corr: 2, Topic: c.topic, Part: c.part, Sure: sure, Records: c.records}, c.want)
		}
	}
	if n := h.log("a", 0).End(); n != 0 {
		t.Errorf("%d records were put", n)
	}
}

func TestProduceFull(t *testing.T) {
	h := built(t, 50, never, 0)
	h.create("a", 1, false)
	x := api.Request{Kind: api.Produce, Topic: "a", Records: smalls(1)}
	h.does("Produce", x, api.Answer{Kind: api.Produce})
	h.does("Produce again", x, api.Answer{Kind: api.Produce, Offset: 1})
	h.refuses("Produce without room", x, api.ErrFull)
}

// A disk that fails: Add's error, or, if Sure, Flush's; then the log is down.
func TestProduceDevice(t *testing.T) {
	x := api.Request{Kind: api.Produce, Corr: 1, Topic: "a", Records: smalls(1)}
	for n, want := range []int{0, 1} {
		h := plainHouse(t)
		x.Sure = true
		h.disk.Fail(n)
		h.refuses("Produce", x, api.ErrDevice)
		if got := h.log("a", 0).End(); got != want {
			t.Errorf("%d operations: END is %d, want %d", n, got, want)
		}
		h.refuses("Produce behind that", x, api.ErrState)
		h.refuses("Forget behind that", api.Request{Kind: api.Forget, Topic: "a"}, api.ErrState)
		h.does("Since behind that", api.Request{Kind: api.Since, Topic: "a"}, api.Answer{Kind: api.Since, Found: want > 0})
	}
	h := plainHouse(t)
	x.Sure = false
	h.disk.Fail(1)
	h.does("Produce, not sure", x, api.Answer{Kind: api.Produce, Corr: 1})
}

func TestSince(t *testing.T) {
	h := plainHouse(t)
	h.put("a", 1, small(0, 4), small(0, 2), small(0, 9))
	for _, c := range []struct {
		time, offset int
		found        bool
	}{{0, 0, true}, {4, 0, true}, {5, 2, true}, {9, 2, true}, {10, 0, false}, {-1, 0, true}, {math.MinInt, 0, true}, {math.MaxInt, 0, false}} {
		h.does(fmt.Sprint("Since ", c.time), api.Request{Kind: api.Since, Corr: 8, Topic: "a", Part: 1, Time: c.time},
			api.Answer{Kind: api.Since, Corr: 8, Offset: c.offset, Found: c.found})
	}
	h.does("Since of an empty one", api.Request{Kind: api.Since, Topic: "a"}, api.Answer{Kind: api.Since})
	h.refuses("Since of no topic", api.Request{Kind: api.Since, Corr: 8, Topic: "c"}, api.ErrMissing)
	h.refuses("Since of no partition", api.Request{Kind: api.Since, Corr: 8, Topic: "b", Part: 1}, api.ErrRange)
}

func TestForget(t *testing.T) {
	h := plainHouse(t)
	h.put("a", 0, smalls(12)...)
	for _, c := range []struct{ to, start int }{{0, 0}, {3, 3}, {1, 3}, {11, 11}, {12, 12}, {0, 12}} {
		h.does(fmt.Sprint("Forget to ", c.to), api.Request{Kind: api.Forget, Corr: 8, Topic: "a", Offset: c.to},
			api.Answer{Kind: api.Forget, Corr: 8, Start: c.start})
	}
	if got := h.log("a", 0).Segments(); !slices.Equal(got, []int{10}) {
		t.Errorf("segments are %v", got)
	}
	for _, to := range []int{-1, 13, math.MinInt, math.MaxInt} {
		h.refuses(fmt.Sprint("Forget to ", to), api.Request{Kind: api.Forget, Topic: "a", Offset: to}, api.ErrRange)
	}
	h.refuses("Forget of no topic", api.Request{Kind: api.Forget, Topic: "c"}, api.ErrMissing)
	h.refuses("Forget of no partition", api.Request{Kind: api.Forget, Topic: "a", Part: 2}, api.ErrRange)
}

// A store that is down: ErrState of all, but of Describe.
func TestDown(t *testing.T) {
	h := plainHouse(t)
	h.disk.Fail(0)
	h.refuses("Create", api.Request{Kind: api.Create, Topic: "c", Parts: 1}, api.ErrDevice)
	for kind := api.Produce; kind < api.Describe; kind++ {
		h.refuses(fmt.Sprint("kind ", kind), api.Request{Kind: kind, Corr: 3, Topic: "a", Parts: 1, Least: 9, Wait: 9, Records: smalls(1)}, api.ErrState)
	}
	h.does("Describe", api.Request{Kind: api.Describe}, api.Answer{Kind: api.Describe, Topics: []api.Topic{{Name: "a", Parts: 2}, {Name: "b", Parts: 1, Compact: true}}})
	h.cleans("Clean", 0, api.ErrState)
}

// What is told is the caller's, and what is handed in stays theirs.
func TestMemory(t *testing.T) {
	h := plainHouse(t)
	records := []api.Record{small(0, 1)}
	h.Do(1, api.Request{Kind: api.Produce, Topic: "a", Records: records})
	records[0].Value = "else"
	x := api.Request{Kind: api.Fetch, Topic: "a"}
	for range 2 {
		out := h.Do(1, x)
		h.outs("Fetch", out, fetched(1, 0, 0, 1, small(0, 1)))
		out[0].Answer.Records[0].Value = "spilt"
	}
	for range 2 {
		out := h.Do(1, api.Request{Kind: api.Describe})
		h.outs("Describe", out, broker.Out{To: 1, Answer: api.Answer{Kind: api.Describe, Topics: []api.Topic{{Name: "a", Parts: 2}, {Name: "b", Parts: 1, Compact: true}}}})
		out[0].Answer.Topics[0].Name = "spilt"
	}
	for k := range 3 {
		h.wait(k, k, api.Request{Topic: "a", Offset: 1, Least: 1, Wait: 1})
	}
	out := h.Do(9, api.Request{Kind: api.Produce, Topic: "a", Records: records})
	if len(out) != 4 {
		t.Fatalf("%d answers, want 4", len(out))
	}
	out[1].Answer.Records[0].Value = "spilt"
	h.outs("others", out[2:], fetched(1, 1, 0, 2, api.Record{Offset: 1, Time: 1, Value: "else"}), fetched(2, 2, 0, 2, api.Record{Offset: 1, Time: 1, Value: "else"}))
}
