package broker_test

import (
	"fmt"
	"math"
	"runtime"
	"slices"
	"strings"
	"testing"
	"weak"

	"conveyor/api"
	"conveyor/broker"
	"conveyor/topics"
)

// producing is a request that puts a small record of time 5 into a partition.
func producing(topic string, part int) api.Request {
	return api.Request{Kind: api.Produce, Topic: topic, Part: part, Records: []api.Record{small(0, 5)}}
}

// produced is the answer to one of somebody (8).
func produced(offset int) broker.Out {
	return broker.Out{To: 8, Answer: api.Answer{Kind: api.Produce, Offset: offset}}
}

// Promise 8.2: Fetch.

func TestFetch(t *testing.T) {
	h := plainHouse(t)
	h.put("a", 1, smalls(7)...)
	h.does("Forget", api.Request{Kind: api.Forget, Topic: "a", Part: 1, Offset: 2}, api.Answer{Kind: api.Forget, Start: 2})
	for _, c := range []struct{ offset, most, from, to int }{
		{2, 0, 2, 3}, {2, -1, 2, 3}, {2, math.MinInt, 2, 3}, {2, 37, 2, 3}, {2, 38, 2, 4}, {2, 1000, 2, 5}, {2, math.MaxInt, 2, 5},
		{4, 1000, 4, 5}, {5, 19, 5, 6}, {5, 38, 5, 7}, {6, 0, 6, 7}, {7, 1000, 7, 7},
	} {
		x := api.Request{Kind: api.Fetch, Corr: 4, Topic: "a", Part: 1, Offset: c.offset, Most: c.most, Least: math.MaxInt}
		h.does(fmt.Sprint("Fetch from ", c.offset, ", ", c.most), x,
			api.Answer{Kind: api.Fetch, Corr: 4, Start: 2, End: 7, Records: smalls(7)[c.from:c.to]})
	}
	h.does("Fetch of an empty one", api.Request{Kind: api.Fetch, Topic: "a"}, api.Answer{Kind: api.Fetch})
}

// An error is told, whether there is time to wait or not.
func TestFetchWrong(t *testing.T) {
	h := plainHouse(t)
	h.put("a", 1, smalls(7)...)
	h.does("Forget", api.Request{Kind: api.Forget, Topic: "a", Part: 1, Offset: 2}, api.Answer{Kind: api.Forget, Start: 2})
	for _, c := range []struct {
		topic        string
		part, offset int
		want         api.Errno
	}{
		{"c", 0, 0, api.ErrMissing}, {"", 9, -1, api.ErrMissing}, {"a", 2, 9, api.ErrRange}, {"a", -1, 0, api.ErrRange}, {"a", 1, 1, api.ErrRange},
		{"a", 1, 8, api.ErrRange}, {"a", 1, -1, api.ErrRange}, {"a", 0, 1, api.ErrRange}, {"a", 1, math.MaxInt, api.ErrRange}, {"a", 1, math.MinInt, api.ErrRange},
	} {
		x := api.Request{Kind: api.Fetch, Corr: 4, Topic: c.topic, Part: c.part, Offset: c.offset, Least: 9, Wait: 9}
		h.refuses(fmt.Sprint("Fetch of ", c), x, c.want)
		x.Wait = 0
		h.refuses(fmt.Sprint("Fetch of ", c), x, c.want)
	}
	h.waiting("behind errors", 0)
}

// A segment whose file is spoilt: Read's error.
func TestFetchSpoilt(t *testing.T) {
	h := plainHouse(t)
	h.put("a", 0, smalls(1)...)
	told(t, "disk.Cut", h.disk.Cut("a-0/0000000000.log", 18), api.OK)
	h.refuses("Fetch", api.Request{Kind: api.Fetch, Corr: 4, Topic: "a", Least: 9, Wait: 9}, api.ErrSpoilt)
}

// counts fails, unless a fetch is told so many records.
func (h house) counts(what string, x api.Request, want int) {
	h.t.Helper()
	x.Kind = api.Fetch
	out := h.Do(1, x)
	if len(out) != 1 {
		h.t.Errorf("%s: %d answers, want 1", what, len(out))
		return
	}
	if a := out[0].Answer; a.Err != api.OK || len(a.Records) != want {
		h.t.Errorf("%s: %d records, Err %d, want %d", what, len(a.Records), int(a.Err), want)
	}
}

// Whatever Most is, batches have no more than 3000 bytes, but for the first one.
func TestFetchMost(t *testing.T) {
	h := built(t, 100_000, topics.Config{Segment: 50_000, Age: -1, Bytes: -1}, 0)
	h.create("a", 2, false)
	h.create("b", 1, false)
	hundred := api.Record{Value: strings.Repeat("v", 85)} // a batch of it has 100 bytes
	h.put("a", 0, slices.Repeat([]api.Record{hundred}, 35)...)
	if got := h.log("a", 0).Size(); got != 3500 {
		t.Fatalf("35 batches have %d bytes", got)
	}
	for _, c := range []struct{ most, want int }{{2999, 29}, {3000, 30}, {3001, 30}, {3100, 30}, {5000, 30}, {api.MaxTime, 30}, {math.MaxInt, 30}} {
		h.counts(fmt.Sprint("Most ", c.most), api.Request{Topic: "a", Most: c.most}, c.want)
	}
	h.put("b", 0, slices.Repeat([]api.Record{hundred}, 29)...)
	h.put("b", 0, api.Record{Value: strings.Repeat("v", 86)})
	h.counts("30 batches of 3001 bytes", api.Request{Topic: "b", Most: 5000}, 29)
	// Who wants more than that waits: there is never enough.
	h.wait(1, 1, api.Request{Topic: "a", Most: 5000, Least: 30*85 + 1, Wait: 5})
	h.Do(2, producing("a", 0))
	h.waiting("behind one more", 1)
	great := slices.Repeat([]api.Record{{Value: strings.Repeat("v", 500)}}, 11)
	if _, err := h.log("a", 1).Add(great); err != nil {
		t.Fatalf("Add: %v", err)
	}
	h.counts("a batch of more than 3000 bytes", api.Request{Topic: "a", Part: 1, Most: 5000}, 11)
}

// Who has time, and is told fewer bytes than they want, waits; nobody else does.
func TestWhoWaits(t *testing.T) {
	records := []api.Record{{Value: "abc"}, {Offset: 1, Keyed: true, Key: "defg", Value: "hi"}, {Offset: 2, Keyed: true, Key: "j", Gone: true}, {Offset: 3, Keyed: true}}
	for _, c := range []struct {
		offset, least, wait int
		waits               bool
	}{
		{0, 10, 1, false}, {0, 11, 1, true}, {0, 11, 0, false}, {0, 11, -1, false}, {0, 11, math.MinInt, false}, {0, 11, math.MaxInt, true},
		{0, math.MaxInt, 1, true}, {0, math.MaxInt, 0, false}, {0, 0, 9, false}, {0, -1, 9, false}, {0, math.MinInt, 9, false},
		{1, 7, 1, false}, {1, 8, 1, true}, {2, 1, 1, false}, {2, 2, 1, true}, {3, 0, 1, false}, {3, 1, 1, true}, {4, 0, 1, false}, {4, 1, 1, true}, {4, 1, 0, false},
	} {
		h := plainHouse(t)
		if _, err := h.log("a", 1).Add(records); err != nil {
			t.Fatalf("Add: %v", err)
		}
		x := api.Request{Kind: api.Fetch, Corr: 4, Topic: "a", Part: 1, Offset: c.offset, Most: 1000, Least: c.least, Wait: c.wait}
		if c.waits {
			h.outs(fmt.Sprint(c), h.Do(7, x))
			h.waiting(fmt.Sprint(c), 1)
			continue
		}
		h.does(fmt.Sprint(c), x, api.Answer{Kind: api.Fetch, Corr: 4, End: 4, Records: records[c.offset:]})
		h.waiting(fmt.Sprint(c), 0)
	}
}

// Only a fetch waits.
func TestOthersDoNotWait(t *testing.T) {
	h := plainHouse(t)
	for kind := api.Produce; kind <= api.Describe; kind++ {
		x := api.Request{Kind: kind, Topic: "a", Least: 100, Wait: 100, Records: smalls(1)}
		if out := h.Do(1, x); kind != api.Fetch && len(out) != 1 {
			t.Errorf("kind %d: %v", kind, out)
		}
		if kind == api.Fetch {
			h.Leave(1)
		}
	}
	h.waiting("at the end", 0)
}

// Promise 8.2: who waits is looked at.

func TestLookBehindProduce(t *testing.T) {
	h := plainHouse(t)
	h.wait(1, 11, api.Request{Topic: "a", Least: 5, Wait: 9, Most: 1000})
	h.wait(2, 12, api.Request{Topic: "a", Least: 4, Wait: 5, Most: 1000})
	h.wait(3, 13, api.Request{Topic: "a", Part: 1, Least: 1, Wait: 9})
	h.wait(1, 14, api.Request{Topic: "b", Least: 1, Wait: 9})
	h.wait(1, 15, api.Request{Topic: "a", Least: 1, Wait: 1})
	h.outs("Produce", h.Do(8, producing("a", 0)), produced(0), fetched(2, 12, 0, 1, small(0, 5)), fetched(1, 15, 0, 1, small(0, 5)))
	h.waiting("three are left", 3)
	h.outs("Produce", h.Do(8, producing("a", 0)), produced(1), fetched(1, 11, 0, 2, small(0, 5), small(1, 5)))
	h.outs("Produce", h.Do(8, producing("a", 0)), produced(2))
	h.outs("Produce", h.Do(8, producing("a", 1)), produced(0), fetched(3, 13, 0, 1, small(0, 5)))
	h.outs("Produce", h.Do(8, producing("b", 0)), produced(0), fetched(1, 14, 0, 1, small(0, 5)))
	h.waiting("none is left", 0)
	h.ticks(9)
	h.ticks(api.MaxTime)
}

// They are looked at in the order in which they came, whoever they are, and whenever they are due.
func TestLookOrder(t *testing.T) {
	h := plainHouse(t)
	h.ticks(100)
	var want []broker.Out
	for k := range 40 {
		part := k * 7 % 5 / 3
		h.wait(k*3%7, k, api.Request{Topic: "a", Part: part, Least: 1, Wait: 1 + k*11%13})
		if part == 0 {
			want = append(want, fetched(k*3%7, k, 0, 1, small(0, 5)))
		}
	}
	h.outs("Produce", h.Do(8, producing("a", 0)), append([]broker.Out{produced(0)}, want...)...)
	h.waiting("of the other partition", 40-len(want))
}

// Behind a Produce that has an error, too: there may be more, all the same.
func TestLookBehindErrors(t *testing.T) {
	h := plainHouse(t)
	h.wait(1, 11, api.Request{Topic: "a", Least: 4, Wait: 9})
	h.wait(2, 12, api.Request{Topic: "a", Least: 5, Wait: 9})
	h.disk.Fail(1)
	x := producing("a", 0)
	x.Sure = true
	h.outs("Produce", h.Do(8, x), broker.Out{To: 8, Answer: api.Answer{Kind: api.Produce, Err: api.ErrDevice}}, fetched(1, 11, 0, 1, small(0, 5)))
	h.waiting("behind Produce", 1)
	h = plainHouse(t)
	h.wait(1, 11, api.Request{Topic: "a", Least: 4, Wait: 9})
	h.put("a", 0, small(0, 5))
	h.outs("Forget", h.Do(8, api.Request{Kind: api.Forget, Topic: "a", Part: 5}), broker.Out{To: 8, Answer: api.Answer{Kind: api.Forget, Err: api.ErrRange}}, fetched(1, 11, 0, 1, small(0, 5)))
	h.waiting("behind Forget", 0)
	h.wait(1, 11, api.Request{Topic: "a", Least: 4, Wait: 9, Offset: 1})
	h.wait(2, 12, api.Request{Topic: "b", Least: 4, Wait: 9})
	h.disk.Fail(0)
	h.outs("Drop", h.Do(8, api.Request{Kind: api.Drop, Topic: "a"}), broker.Out{To: 8, Answer: api.Answer{Kind: api.Drop, Err: api.ErrDevice}}, refused(1, 11, api.ErrState))
	h.waiting("behind Drop", 1)
	h.outs("Produce", h.Do(8, producing("b", 0)), broker.Out{To: 8, Answer: api.Answer{Kind: api.Produce, Err: api.ErrState}}, refused(2, 12, api.ErrState))
	h.waiting("behind all", 0)
}

// No other request looks.
func TestNoLook(t *testing.T) {
	h := plainHouse(t)
	h.wait(1, 11, api.Request{Topic: "a", Least: 4, Wait: 9})
	h.put("a", 0, small(0, 5))
	for kind := -1; kind <= 9; kind++ {
		switch kind {
		case api.Produce, api.Forget, api.Drop:
			continue
		}
		if out := h.Do(2, api.Request{Kind: kind, Topic: "a", Parts: 1}); len(out) != 1 {
			t.Errorf("kind %d: %v", kind, out)
		}
	}
	h.Do(2, producing("b", 0))
	h.Do(2, producing("c", 0))
	h.ticks(8)
	h.waiting("behind all", 1)
	h.ticks(9, fetched(1, 11, 0, 1, small(0, 5)))
}

func TestLookBehindForget(t *testing.T) {
	h := plainHouse(t)
	h.put("a", 0, smalls(7)...)
	h.wait(1, 11, api.Request{Topic: "a", Offset: 6, Least: 5, Wait: 9})
	h.wait(2, 12, api.Request{Topic: "a", Offset: 7, Least: 1, Wait: 9})
	h.wait(3, 13, api.Request{Topic: "a", Part: 1, Least: 1, Wait: 9})
	x := api.Request{Kind: api.Forget, Topic: "a", Offset: 6}
	h.outs("Forget to 6", h.Do(8, x), broker.Out{To: 8, Answer: api.Answer{Kind: api.Forget, Start: 6}})
	x.Offset = 7
	h.outs("Forget to 7", h.Do(8, x), broker.Out{To: 8, Answer: api.Answer{Kind: api.Forget, Start: 7}}, refused(1, 11, api.ErrRange))
	h.waiting("behind that", 2)
	h.outs("Produce", h.Do(8, producing("a", 0)), produced(7), fetched(2, 12, 7, 8, small(7, 5)))
}

func TestLookBehindDrop(t *testing.T) {
	h := plainHouse(t)
	h.wait(1, 11, api.Request{Topic: "a", Least: 1, Wait: 9})
	h.wait(2, 12, api.Request{Topic: "b", Least: 1, Wait: 9})
	h.wait(3, 13, api.Request{Topic: "a", Part: 1, Least: 1, Wait: 5})
	x := api.Request{Kind: api.Drop, Topic: "a"}
	h.outs("Drop", h.Do(8, x), broker.Out{To: 8, Answer: api.Answer{Kind: api.Drop}}, refused(1, 11, api.ErrMissing), refused(3, 13, api.ErrMissing))
	h.waiting("behind Drop", 1)
	h.create("a", 1, false)
	h.outs("Produce", h.Do(8, producing("a", 0)), produced(0))
	h.ticks(9, fetched(2, 12, 0, 0))
}

// Promise 8.2: Clean.

func TestClean(t *testing.T) {
	h := built(t, 100_000, topics.Config{Segment: 100, Age: 10, Bytes: -1}, 0)
	h.cleans("no topic", 0, api.OK)
	h.create("b", 1, true)
	h.create("a", 1, false)
	h.put("a", 0, smalls(12)...)
	h.put("b", 0, slices.Repeat([]api.Record{keyed(0, 1, "k")}, 12)...)
	h.cleans("at 0", 10, api.OK)
	h.ticks(14)
	h.cleans("at 14", 0, api.OK)
	h.ticks(15)
	h.cleans("at 15", 1, api.OK)
	h.cleans("again", 0, api.OK)
	if got := h.log("a", 0).Start(); got != 5 {
		t.Errorf("Start is %d, want 5", got)
	}
}

// By Clean those that wait are looked at topic by topic, as the topics were made, in the order in which they came.
func TestLookByClean(t *testing.T) {
	h := built(t, 100_000, topics.Config{Segment: 100, Age: 10, Bytes: -1}, 0)
	for _, name := range []string{"z", "a", "m"} {
		h.create(name, 2, false)
		h.put(name, 0, smalls(6)...)
	}
	h.wait(1, 11, api.Request{Topic: "m", Offset: 4, Least: 5, Wait: 1000})
	h.wait(2, 12, api.Request{Topic: "z", Part: 1, Least: 1, Wait: 1000})
	h.wait(3, 13, api.Request{Topic: "a", Offset: 4, Least: 5, Wait: 1000})
	h.wait(4, 14, api.Request{Topic: "z", Offset: 4, Least: 5, Wait: 1000})
	h.wait(1, 15, api.Request{Topic: "a", Offset: 3, Least: 5, Wait: 100})
	h.wait(6, 16, api.Request{Topic: "m", Offset: 6, Least: 5, Wait: 1000})
	h.cleans("at 0", 0, api.OK)
	h.waiting("at 0", 6)
	h.put("z", 1, small(0, 90))
	h.ticks(50)
	h.cleans("at 50", 3, api.OK, fetched(2, 12, 0, 1, small(0, 90)), refused(4, 14, api.ErrRange), refused(3, 13, api.ErrRange), refused(1, 15, api.ErrRange), refused(1, 11, api.ErrRange))
	h.waiting("at 50", 1)
	h.cleans("again", 0, api.OK)
	h.ticks(1000, fetched(6, 16, 5, 6))
}

// With an error, too: how much went ahead of it, and who waits no more.
func TestCleanWrong(t *testing.T) {
	h := built(t, 100_000, topics.Config{Segment: 100, Age: 10, Bytes: -1}, 100)
	h.create("a", 1, false)
	h.create("b", 1, false)
	h.put("a", 0, smalls(6)...)
	h.put("b", 0, smalls(6)...)
	h.wait(1, 11, api.Request{Topic: "b", Offset: 4, Least: 5, Wait: 9})
	h.wait(2, 12, api.Request{Topic: "a", Offset: 4, Least: 5, Wait: 9})
	h.disk.Fail(1)
	h.cleans("Clean", 1, api.ErrDevice, refused(2, 12, api.ErrState), refused(1, 11, api.ErrState))
	h.waiting("behind Clean", 0)
	h.cleans("again", 0, api.ErrState)
}

func TestCleanFull(t *testing.T) {
	h := built(t, 200, topics.Config{Segment: 100, Age: 10, Bytes: -1}, 100)
	h.create("a", 1, true)
	h.create("b", 1, false)
	h.put("a", 0, slices.Repeat([]api.Record{keyed(0, 1, "k")}, 7)...)
	h.wait(1, 11, api.Request{Topic: "b", Least: 4, Wait: 9})
	h.wait(1, 12, api.Request{Topic: "a", Offset: 7, Least: 2, Wait: 9})
	h.put("b", 0, smalls(2)...)
	h.cleans("Clean", 0, api.ErrFull, fetched(1, 11, 0, 2, small(0, 0)))
	h.waiting("behind Clean", 1)
}

// Promise 8.2: Tick.

func TestTick(t *testing.T) {
	h := plainHouse(t)
	h.put("a", 0, small(0, 5))
	h.wait(1, 11, api.Request{Topic: "a", Least: 50, Wait: 9})
	h.wait(2, 12, api.Request{Topic: "a", Offset: 1, Least: 50, Wait: 3})
	h.wait(1, 13, api.Request{Topic: "b", Least: 1, Wait: 9})
	h.wait(3, 14, api.Request{Topic: "b", Least: 1, Wait: 100})
	h.wait(2, 15, api.Request{Topic: "a", Part: 1, Least: 1, Wait: 1})
	h.ticks(0)
	h.ticks(1, fetched(2, 15, 0, 0))
	h.ticks(1)
	h.ticks(2)
	h.wait(5, 16, api.Request{Topic: "a", Part: 1, Least: 1, Wait: 1})
	h.ticks(20, fetched(2, 12, 0, 1), fetched(5, 16, 0, 0), fetched(1, 11, 0, 1, small(0, 5)), fetched(1, 13, 0, 0))
	h.waiting("at 20", 1)
	h.ticks(99)
	h.ticks(100, fetched(3, 14, 0, 0))
	h.waiting("at 100", 0)
	h.ticks(api.MaxTime)
}

// What is due is answered as it is then: its error, too.
func TestTickTellsWhatIsThen(t *testing.T) {
	h := plainHouse(t)
	h.put("a", 0, smalls(2)...)
	h.wait(1, 11, api.Request{Topic: "a", Offset: 1, Most: 1000, Least: 50, Wait: 9})
	h.wait(2, 12, api.Request{Topic: "a", Least: 50, Wait: 9})
	h.wait(3, 13, api.Request{Topic: "b", Least: 1, Wait: 9})
	h.put("a", 0, small(0, 7))
	told(t, "Forget", h.log("a", 0).Forget(1), api.OK)
	told(t, "Drop", h.store.Drop("b"), api.OK)
	h.ticks(9, fetched(1, 11, 1, 3, small(1, 1), small(2, 7)), refused(2, 12, api.ErrRange), refused(3, 13, api.ErrMissing))
	h.waiting("at 9", 0)
}

func TestTickWrong(t *testing.T) {
	h := plainHouse(t)
	h.ticks(70)
	h.wait(1, 11, api.Request{Topic: "a", Least: 1, Wait: 9})
	for _, now := range []int{69, 0, -1, math.MinInt, api.MaxTime + 1, math.MaxInt} {
		out, err := h.Tick(now)
		told(t, fmt.Sprint("Tick to ", now), err, api.ErrRange)
		h.outs(fmt.Sprint("Tick to ", now), out)
		if h.Now() != 70 || h.Waits() != 1 {
			t.Errorf("Tick to %d: Now %d, Waits %d", now, h.Now(), h.Waits())
		}
	}
	h.ticks(79, fetched(1, 11, 0, 0))
}

// None is due behind MaxTime, however long it would wait.
func TestWaitUntilTheEnd(t *testing.T) {
	for _, now := range []int{0, 1, api.MaxTime - 5, api.MaxTime} {
		h := built(t, 1000, never, now)
		h.create("a", 1, false)
		h.wait(1, 11, api.Request{Topic: "a", Least: 1, Wait: math.MaxInt})
		h.wait(1, 12, api.Request{Topic: "a", Least: 1, Wait: api.MaxTime})
		h.wait(1, 13, api.Request{Topic: "a", Least: 1, Wait: api.MaxTime - now + 1})
		if now < api.MaxTime {
			h.ticks(api.MaxTime - 1)
		}
		h.ticks(api.MaxTime, fetched(1, 11, 0, 0), fetched(1, 12, 0, 0), fetched(1, 13, 0, 0))
		h.wait(2, 14, api.Request{Topic: "a", Least: 1, Wait: 1})
		h.ticks(api.MaxTime, fetched(2, 14, 0, 0))
	}
}

// As many may wait as the wheel has room for.
func TestWaitLimit(t *testing.T) {
	h := plainHouse(t)
	h.ticks(5)
	x := api.Request{Kind: api.Fetch, Topic: "a", Least: 5, Wait: 9, Records: smalls(1)}
	for k := range mostWaits {
		x.Corr = k
		if out := h.Do(k%3, x); len(out) > 0 {
			t.Fatalf("fetch %d: %v", k, out)
		}
	}
	for range 2 {
		x.Corr = mostWaits
		h.refuses("one more", x, api.ErrLimit)
		h.waiting("at most", mostWaits)
	}
	x.Least = 0
	h.does("one that does not wait", x, api.Answer{Kind: api.Fetch, Corr: mostWaits})
	// Who waits has room already: none of them is refused when it is looked at.
	h.outs("Produce", h.Do(8, producing("a", 0)), produced(0))
	h.Leave(1)
	h.waiting("a third left", mostWaits-mostWaits/3)
	h.wait(1, 11, api.Request{Topic: "a", Offset: 1, Least: 5, Wait: 8})
	out, err := h.Tick(14)
	told(t, "Tick", err, api.OK)
	if len(out) != mostWaits-mostWaits/3+1 || !same(out[0], fetched(1, 11, 0, 1)) {
		t.Fatalf("%d answers, from %v on", len(out), out[:1])
	}
	for k, o := range out[1:] {
		corr := k/2*3 + k%2*2
		if !same(o, fetched(corr%3, corr, 0, 1, small(0, 5))) {
			t.Fatalf("answer %d: %v", k, o)
		}
	}
	h.waiting("behind Tick", 0)
	for k := range mostWaits {
		x.Corr, x.Least, x.Offset = k, 1, 1
		if out := h.Do(1, x); len(out) > 0 {
			t.Fatalf("fetch %d anew: %v", k, out)
		}
	}
	if out := h.Do(8, producing("a", 0)); len(out) != mostWaits+1 {
		t.Errorf("%d answers", len(out))
	}
	h.waiting("at the end", 0)
}

// Promise 8.2: Leave.

func TestLeave(t *testing.T) {
	h := plainHouse(t)
	for k := range 9 {
		h.wait(k%3-1, k, api.Request{Topic: []string{"a", "b"}[k%2], Least: 1, Wait: 5})
	}
	h.Leave(7)
	h.waiting("nobody left", 9)
	h.Leave(-1)
	h.waiting("-1 left", 6)
	h.Leave(-1)
	h.outs("Produce", h.Do(8, producing("a", 0)), produced(0), fetched(1, 2, 0, 1, small(0, 5)), fetched(0, 4, 0, 1, small(0, 5)), fetched(1, 8, 0, 1, small(0, 5)))
	h.Leave(0)
	h.waiting("0 left", 1)
	h.wait(0, 20, api.Request{Topic: "b", Least: 1, Wait: 5})
	h.ticks(5, fetched(1, 5, 0, 0), fetched(0, 20, 0, 0))
	h.waiting("at 5", 0)
}

// Who left may ask again, and others may have the same Corr.
func TestSameCorr(t *testing.T) {
	h := plainHouse(t)
	for who := range 3 {
		h.wait(who, 1, api.Request{Topic: "a", Least: 1, Wait: 5})
		h.wait(who, 1, api.Request{Topic: "a", Least: 1, Wait: 5})
	}
	h.Leave(1)
	h.waiting("1 left", 4)
	h.outs("Produce", h.Do(8, producing("a", 0)), produced(0), fetched(0, 1, 0, 1, small(0, 5)), fetched(0, 1, 0, 1, small(0, 5)), fetched(2, 1, 0, 1, small(0, 5)), fetched(2, 1, 0, 1, small(0, 5)))
}

// While a fetch waits nothing of the records is kept that it was handed in with.
func TestWaitKeepsNoRecords(t *testing.T) {
	h := plainHouse(t)
	kept := func() weak.Pointer[api.Record] {
		x := api.Request{Topic: "a", Least: 1, Wait: 5, Records: smalls(2)}
		h.wait(1, 1, x)
		return weak.Make(&x.Records[0])
	}()
	runtime.GC()
	if kept.Value() != nil {
		t.Error("the records are kept")
	}
	h.outs("Produce", h.Do(8, producing("a", 0)), produced(0), fetched(1, 1, 0, 1, small(0, 5)))
}
