package plog_test

import (
	"fmt"
	"math"
	"slices"
	"strings"
	"testing"

	"conveyor/api"
	"conveyor/disk"
	"conveyor/plain"
	"conveyor/plog"
	"conveyor/record"
	"conveyor/segment"
)

// told fails, unless an error is that Errno, without a place.
func told(t *testing.T, what string, err error, want api.Errno) {
	t.Helper()
	if got, bare := plain.Bare(err); got != want || !bare || (err == nil) != (want == api.OK) {
		t.Errorf("%s: %v, want Errno %d, bare", what, err, int(want))
	}
}

// room is a disk of so many bytes.
func room(t *testing.T, n int) *disk.Disk {
	t.Helper()
	d, err := disk.New(n)
	if err != nil {
		t.Fatalf("New(%d): %v", n, err)
	}
	return d
}

// opened is a log in directory p.
func opened(t *testing.T, d *disk.Disk, most, start int) *plog.Log {
	t.Helper()
	l, err := plog.Open(d, "p", most, start)
	if err != nil {
		t.Fatalf("Open, %d, %d: %v", most, start, err)
	}
	return l
}

// small is a record without a key, of a time.
func small(time int) api.Record {
	return api.Record{Time: time, Value: "four"}
}

// keyed is a record of a key.
func keyed(key string, time int) api.Record {
	return api.Record{Keyed: true, Key: key, Time: time, Value: "v"}
}

// gone is a tombstone of a key.
func gone(key string, time int) api.Record {
	return api.Record{Keyed: true, Key: key, Time: time, Gone: true}
}

// numbered is records with the offsets from one on.
func numbered(from int, records ...api.Record) []api.Record {
	l := slices.Clone(records)
	for k := range l {
		l[k].Offset = from + k
	}
	return l
}

// batch is records put together from an offset on.
func batch(base int, records ...api.Record) api.Batch {
	return api.Batch{Base: base, End: base + len(records), Records: numbered(base, records...)}
}

// encoded is batches' bytes.
func encoded(t *testing.T, l ...api.Batch) []byte {
	t.Helper()
	var all []byte
	for _, x := range l {
		b, err := record.Encode(x)
		if err != nil {
			t.Fatalf("Encode(%v): %v", x, err)
		}
		all = append(all, b...)
	}
	return all
}

// laid makes a file with bytes, of which none is safe.
func laid(t *testing.T, d *disk.Disk, name string, b []byte) {
	t.Helper()
	told(t, "disk.Make "+name, d.Make(name), api.OK)
	told(t, "disk.Add "+name, d.Add(name, b), api.OK)
}

// lay makes a segment's file in directory p.
func lay(t *testing.T, d *disk.Disk, base int, l ...api.Batch) {
	t.Helper()
	laid(t, d, segment.Name("p", base), encoded(t, l...))
}

// add puts records, which must be told to be at an offset.
func add(t *testing.T, l *plog.Log, want int, records ...api.Record) {
	t.Helper()
	if got, err := l.Add(records); got != want || err != nil {
		t.Fatalf("Add of %v: %d, %v, want %d", records, got, err, want)
	}
}

// numbers fails, unless a log has these: Start, End, Safe, and the bases of its segments.
func numbers(t *testing.T, what string, l *plog.Log, start, end, safe int, bases ...int) {
	t.Helper()
	if l.Start() != start || l.End() != end || l.Safe() != safe || !slices.Equal(l.Segments(), bases) {
		t.Errorf("%s: Start %d, End %d, Safe %d, Segments %v; want %d, %d, %d, %v", what,
			l.Start(), l.End(), l.Safe(), l.Segments(), start, end, safe, bases)
	}
}

// all is every record that a log tells, by Reads of one batch, or more, each.
func all(t *testing.T, what string, l *plog.Log, most int) []api.Record {
	t.Helper()
	var all []api.Record
	from := l.Start()
	for {
		records, err := l.Read(from, most)
		told(t, what+": Read", err, api.OK)
		if len(records) == 0 || err != nil {
			return all
		}
		all = append(all, records...)
		from = records[len(records)-1].Offset + 1
	}
}

// has fails, unless a log tells just these records, read in whatever pieces.
func has(t *testing.T, what string, l *plog.Log, want ...api.Record) {
	t.Helper()
	for _, most := range []int{math.MinInt, 0, 40, 100, math.MaxInt} {
		if got := all(t, what, l, most); !plain.Same(got, want) {
			t.Errorf("%s: by Reads of %d there are %v, want %v", what, most, got, want)
		}
	}
}

// files fails, unless a disk has just the files of these names.
func files(t *testing.T, what string, d *disk.Disk, want ...string) {
	t.Helper()
	if got := d.List(""); !slices.Equal(got, want) {
		t.Errorf("%s: there are %q, want %q", what, got, want)
	}
}

// fill makes as many files as there may be more.
func fill(t *testing.T, d *disk.Disk) {
	t.Helper()
	for k := len(d.List("")); k < api.MaxFiles; k++ {
		told(t, "disk.Make", d.Make(fmt.Sprint("fill", k)), api.OK)
	}
}

// view is all that a log tells of itself, and what its disk has.
func view(d *disk.Disk, l *plog.Log) string {
	s := fmt.Sprint(l.Start(), l.End(), l.Safe(), l.Size(), l.Segments())
	for _, name := range d.List("") {
		s += fmt.Sprintf(" %s: %x", name, d.Read(name, 0, math.MaxInt))
	}
	return s
}

// spread is a log of three segments, from 10 on, in which the last one's second batch is not safe; the disk has room enough.
//
//	at 10: x, a=, b=; y
//	at 14: a=, b gone
//	at 16: x; a=, c=
func spread(t *testing.T) (*disk.Disk, *plog.Log) {
	t.Helper()
	d := room(t, api.MaxDisk)
	l := opened(t, d, 100, 10)
	add(t, l, 10, small(20), keyed("a", 25), keyed("b", 15))
	add(t, l, 13, small(40))
	add(t, l, 14, keyed("a", 30), gone("b", 35), api.Record{Time: 10, Value: strings.Repeat("w", 60)})
	add(t, l, 17, small(60))
	told(t, "Flush", l.Flush(), api.OK)
	add(t, l, 18, keyed("a", 50), keyed("c", 5))
	numbers(t, "spread", l, 10, 20, 18, 10, 14, 17)
	return d, l
}

// spreadRecords is what it tells.
func spreadRecords() []api.Record {
	return numbered(10, small(20), keyed("a", 25), keyed("b", 15), small(40),
		keyed("a", 30), gone("b", 35), api.Record{Time: 10, Value: strings.Repeat("w", 60)},
		small(60), keyed("a", 50), keyed("c", 5))
}

// Promise 4.1: Open.

func TestOpenMakesTheFirst(t *testing.T) {
	for _, start := range []int{0, 7, 9_999_999_999, 10_000_000_000, api.MaxTime} {
		d := room(t, 1000)
		l := opened(t, d, 100, start)
		what := fmt.Sprint("start ", start)
		numbers(t, what, l, start, start, start, start)
		has(t, what, l)
		files(t, what, d, segment.Name("p", start))
		if l.Size() != 0 {
			t.Errorf("%s: Size %d", what, l.Size())
		}
	}
}

func TestOpenRange(t *testing.T) {
	for _, c := range []struct{ most, start int }{
		{99, 0}, {0, 0}, {-1, 0}, {math.MinInt, 0}, {api.MaxDisk + 1, 0}, {math.MaxInt, 0},
		{100, -1}, {100, math.MinInt}, {100, api.MaxTime + 1}, {100, math.MaxInt}, {99, -1},
	} {
		d := room(t, 1000)
		laid(t, d, "p/junk", nil)
		lay(t, d, 3, batch(3, small(1)))
		d.Fail(0)
		l, err := plog.Open(d, "p", c.most, c.start)
		told(t, fmt.Sprint("Open, ", c), err, api.ErrRange)
		if l != nil {
			t.Errorf("Open, %v: a log beside an error", c)
		}
		files(t, fmt.Sprint("Open, ", c), d, "p/0000000003.log", "p/junk")
	}
	for _, c := range []struct{ most, start int }{{100, 0}, {api.MaxDisk, 0}, {100, api.MaxTime}} {
		_, err := plog.Open(room(t, 1000), "p", c.most, c.start)
		told(t, fmt.Sprint("Open, ", c), err, api.OK)
	}
}

func TestOpenRemovesWhatIsNoSegment(t *testing.T) {
	d := room(t, 1000)
	lay(t, d, 5, batch(5, small(1)))
	lay(t, d, 6, batch(6, small(2)))
	for _, name := range []string{
		"p/0000000005.new", "p/0000000005", "p/5.log", "p/00000000005.log", "p/-", "p/x", "p/", "p/p/0000000007.log", "p//0000000007.log",
		"p", "p-", "p0/0000000007.log", "q/0000000007.log", "q/x", "topics", "pp/x",
	} {
		laid(t, d, name, []byte("z"))
	}
	l := opened(t, d, 100, 0)
	numbers(t, "opened", l, 5, 7, 7, 5, 6)
	has(t, "opened", l, numbered(5, small(1), small(2))...)
	files(t, "opened", d, "p", "p-", "p/0000000005.log", "p/0000000006.log", "p0/0000000007.log", "pp/x", "q/0000000007.log", "q/x", "topics")
}

func TestOpenRemovesWhatBeginsAhead(t *testing.T) {
	d := room(t, 1000)
	lay(t, d, 5, batch(5, small(1), small(2)), batch(7, small(3)))
	lay(t, d, 6, batch(9, small(9)))
	lay(t, d, 7)
	lay(t, d, 8, batch(8, small(4)))
	lay(t, d, 12, batch(13, small(5)))
	lay(t, d, 13, batch(14, small(6)))
	lay(t, d, 14)
	l := opened(t, d, 100, 0)
	numbers(t, "opened", l, 5, 14, 14, 5, 8, 12, 14)
	files(t, "opened", d, "p/0000000005.log", "p/0000000008.log", "p/0000000012.log", "p/0000000014.log")
	want := append(numbered(5, small(1), small(2), small(3), small(4)), numbered(13, small(5))...)
	has(t, "opened", l, want...)
}

func TestOpenRemovesWhatIsBehindATornOne(t *testing.T) {
	whole := batch(5, small(1))
	for what, tail := range map[string][]byte{
		"a part of a batch":   encoded(t, batch(6, small(2)))[:9],
		"a byte":              {0},
		"a batch ahead of it": encoded(t, batch(5, small(2))),
	} {
		d := room(t, 1000)
		lay(t, d, 4, batch(4, small(0)))
		laid(t, d, "p/0000000005.log", append(encoded(t, whole), tail...))
		lay(t, d, 6, batch(6, small(3)))
		lay(t, d, 7, batch(7, small(4)))
		l := opened(t, d, 100, 0)
		numbers(t, what, l, 4, 6, 6, 4, 5)
		files(t, what, d, "p/0000000004.log", "p/0000000005.log")
		has(t, what, l, numbered(4, small(0), small(1))...)
		add(t, l, 6, small(5))
		has(t, what+", and one more", l, numbered(4, small(0), small(1), small(5))...)
	}
}

// A last segment that lost bytes, down to none, is the last one all the same.
func TestOpenTornAtTheEnd(t *testing.T) {
	b := encoded(t, batch(5, small(1)), batch(6, small(2)))
	for n := range len(b) {
		d := room(t, 1000)
		lay(t, d, 4, batch(4, small(0)))
		laid(t, d, "p/0000000005.log", b[:n])
		l := opened(t, d, 100, 0)
		end := 5 + n/(len(b)/2)
		numbers(t, fmt.Sprint(n, " bytes"), l, 4, end, end, 4, 5)
		has(t, fmt.Sprint(n, " bytes"), l, numbered(4, small(0), small(1))[:end-4]...)
	}
}

// Bases of more than ten digits stand in another order by the bytes of their names; the log has them one behind the other all the same.
func TestOpenBehindTenDigits(t *testing.T) {
	d := room(t, 10_000)
	start := 9_999_999_998
	l := opened(t, d, 100, start)
	var want []api.Record
	for k := range 12 {
		r := small(k)
		r.Value = strings.Repeat("v", 40)
		add(t, l, start+k, r)
		want = append(want, r)
	}
	want = numbered(start, want...)
	bases := l.Segments()
	if len(bases) < 4 || bases[1] > 9_999_999_999 || bases[2] < 10_000_000_000 {
		t.Fatalf("the segments are at %v", bases)
	}
	laid(t, d, "p/-junk", nil)
	laid(t, d, "p/junk", nil)
	l = opened(t, d, 100, 0)
	numbers(t, "opened anew", l, start, start+12, start+12, bases...)
	has(t, "opened anew", l, want...)
	if n := len(d.List("")); n != len(bases) {
		t.Errorf("there are %q", d.List(""))
	}
}

// The last segment is made safe, be it old or new.
func TestOpenMakesSafe(t *testing.T) {
	d := room(t, 1000)
	lay(t, d, 5, batch(5, small(1)))
	told(t, "disk.Sync", d.Sync("p/0000000005.log"), api.OK)
	lay(t, d, 6, batch(6, small(2)), batch(7, small(3)))
	l := opened(t, d, 100, 0)
	numbers(t, "opened", l, 5, 8, 8, 5, 6)
	d.Crash(nil)
	l = opened(t, d, 100, 0)
	numbers(t, "behind a crash", l, 5, 8, 8, 5, 6)
	has(t, "behind a crash", l, numbered(5, small(1), small(2), small(3))...)
}

func TestOpenStart(t *testing.T) {
	for start, want := range map[int]int{0: 5, 4: 5, 5: 5, 6: 6, 7: 7, 8: 8, 9: 9, 10: 9, api.MaxTime: 9} {
		d := room(t, 1000)
		lay(t, d, 5, batch(6, small(1)))
		lay(t, d, 7, batch(7, small(2), small(3)))
		l := opened(t, d, 100, start)
		numbers(t, fmt.Sprint("start ", start), l, want, 9, 9, 5, 7)
		has(t, fmt.Sprint("start ", start), l, numbered(6, small(1), small(2), small(3))[max(want-6, 0):]...)
		files(t, fmt.Sprint("start ", start), d, "p/0000000005.log", "p/0000000007.log")
	}
}

// refused fails, unless Open tells an error, and no log.
func refused(t *testing.T, what string, d *disk.Disk, dir string, want api.Errno) {
	t.Helper()
	l, err := plog.Open(d, dir, 100, 7)
	told(t, what, err, want)
	if l != nil {
		t.Errorf("%s: a log beside an error", what)
	}
}

func TestOpenErrors(t *testing.T) {
	d := room(t, 1000)
	refused(t, "a name that is none", d, "P", api.ErrName)
	refused(t, "a name that is too long", d, strings.Repeat("p", api.MaxName-14), api.ErrName)
	_, err := plog.Open(d, strings.Repeat("p", api.MaxName-15), 100, 7)
	told(t, "the longest name", err, api.OK)
	fill(t, d)
	refused(t, "MaxFiles", d, "q", api.ErrLimit)
	refused(t, "no disk", nil, "q", api.ErrDevice)
	told(t, "disk.Remove", d.Remove(d.List("fill")[0]), api.OK)
	told(t, "disk.Make", d.Make("q/junk"), api.OK)
	_, err = plog.Open(d, "q", 100, 7)
	told(t, "MaxFiles, one of which goes", err, api.OK)
}

// Wherever the disk fails, Open tells it; opened anew behind a crash all is there.
func TestOpenOnADiskThatFails(t *testing.T) {
	for n := 0; ; n++ {
		d := room(t, 1000)
		lay(t, d, 5, batch(5, small(1), small(2)))
		lay(t, d, 6, batch(6, small(3)))
		lay(t, d, 7, batch(7, small(4)))
		for _, name := range d.List("p/") {
			told(t, "disk.Sync", d.Sync(name), api.OK)
		}
		laid(t, d, "p/0000000005.new", []byte("z"))
		laid(t, d, "p/0000000008.log", encoded(t, batch(8, small(5)))[:5])
		d.Fail(n)
		l, err := plog.Open(d, "p", 100, 0)
		if done := err == nil; done != (n >= 4) || done == (l == nil) {
			t.Fatalf("Fail(%d): %v, %v", n, l, err)
		}
		if err == nil {
			break
		}
		told(t, fmt.Sprint("Fail ", n), err, api.ErrDevice)
		d.Crash([]byte{3})
		l = opened(t, d, 100, 0)
		numbers(t, fmt.Sprint("Fail ", n), l, 5, 8, 8, 5, 7, 8)
		has(t, fmt.Sprint("Fail ", n), l, numbered(5, small(1), small(2), small(4))...)
		files(t, fmt.Sprint("Fail ", n), d, "p/0000000005.log", "p/0000000007.log", "p/0000000008.log")
	}
	for n := range 2 {
		d := room(t, 1000)
		d.Fail(n)
		refused(t, fmt.Sprint("a first one, Fail ", n), d, "p", api.ErrDevice)
	}
}

// From an ErrDevice on a log is down, whatever told it, even where the disk does all again.
func TestDown(t *testing.T) {
	for what, do := range map[string]func(l *plog.Log) error{
		"Add":          func(l *plog.Log) error { _, err := l.Add([]api.Record{small(1)}); return err },
		"Add, rolling": func(l *plog.Log) error { _, err := l.Add(slices.Repeat([]api.Record{small(1)}, 10)); return err },
		"Flush":        func(l *plog.Log) error { return l.Flush() },
		"Forget":       func(l *plog.Log) error { return l.Forget(20) },
		"Retain":       func(l *plog.Log) error { _, err := l.Retain(100, 0, -1); return err },
		"Compact":      func(l *plog.Log) error { _, err := l.Compact(100, 100); return err },
	} {
		d, l := spread(t)
		d.Fail(0)
		told(t, what, do(l), api.ErrDevice)
		d.Fail(-1)
		before := view(d, l)
		n, err := l.Add(nil)
		told(t, what+": Add", err, api.ErrState)
		told(t, what+": Flush", l.Flush(), api.ErrState)
		told(t, what+": Forget", l.Forget(-1), api.ErrState)
		told(t, what+": Forget", l.Forget(20), api.ErrState)
		k, err := l.Retain(100, 0, 0)
		told(t, what+": Retain", err, api.ErrState)
		m, err := l.Compact(100, 0)
		told(t, what+": Compact", err, api.ErrState)
		if n != 0 || k != 0 || m != 0 {
			t.Errorf("%s: %d, %d, %d beside ErrState", what, n, k, m)
		}
		if after := view(d, l); after != before {
			t.Errorf("%s: a log that is down changed from %s to %s", what, before, after)
		}
		if _, err := l.Read(l.Start(), 100); err != nil {
			t.Errorf("%s: Read of a log that is down: %v", what, err)
		}
	}
}

// A Rewrite that fails makes it down, too; all other errors do not.
func TestDownByRewrite(t *testing.T) {
	d, l := spread(t)
	d.Fail(2)
	_, err := l.Compact(100, 100)
	told(t, "Compact", err, api.ErrDevice)
	d.Fail(-1)
	told(t, "Flush", l.Flush(), api.ErrState)
	d, l = spread(t)
	fill(t, d)
	_, err = l.Compact(100, 100)
	told(t, "Compact beside MaxFiles", err, api.ErrLimit)
	_, err = l.Add(slices.Repeat([]api.Record{small(1)}, 10))
	told(t, "Add beside MaxFiles", err, api.ErrLimit)
	_, err = l.Add(nil)
	told(t, "Add of nothing", err, api.ErrArg)
	told(t, "Forget", l.Forget(-1), api.ErrRange)
	told(t, "Flush", l.Flush(), api.OK)
}

// Promise 4.2: Start to Segments, Add, Flush.

func TestAdd(t *testing.T) {
	d := room(t, 1000)
	l := opened(t, d, 200, 5)
	add(t, l, 5, small(1), small(2))
	add(t, l, 7, api.Record{Offset: 77, Time: 3, Keyed: true}, api.Record{Offset: -1, Time: 4, Gone: true})
	numbers(t, "added", l, 5, 9, 5, 5)
	want := numbered(5, small(1), small(2), api.Record{Time: 3, Keyed: true}, api.Record{Time: 4, Gone: true})
	has(t, "added", l, want...)
	b := encoded(t, batch(5, small(1), small(2)), batch(7, want[2:]...))
	if got := d.Read("p/0000000005.log", 0, math.MaxInt); !slices.Equal(got, b) || l.Size() != len(b) {
		t.Errorf("the file has %x, Size %d, want %x", got, l.Size(), b)
	}
}

func TestAddKeepsNothingThatCameIn(t *testing.T) {
	l := opened(t, room(t, 1000), 200, 5)
	records := []api.Record{{Offset: 33, Time: 1}, {Offset: 2, Time: 2}, {Offset: 4, Time: 3}}
	add(t, l, 5, records[:2]...)
	if !plain.Same(records, []api.Record{{Offset: 33, Time: 1}, {Offset: 2, Time: 2}, {Offset: 4, Time: 3}}) {
		t.Errorf("Add changed what came in: %v", records)
	}
	clear(records)
	has(t, "added", l, api.Record{Offset: 5, Time: 1}, api.Record{Offset: 6, Time: 2})
}

// wrong fails, unless an Add tells an error, and all is as it was.
func wrong(t *testing.T, what string, d *disk.Disk, l *plog.Log, want api.Errno, records ...api.Record) {
	t.Helper()
	before := view(d, l)
	n, err := l.Add(records)
	told(t, what, err, want)
	if n != 0 {
		t.Errorf("%s: %d beside an error", what, n)
	}
	if after := view(d, l); after != before {
		t.Errorf("%s: from %s to %s", what, before, after)
	}
}

func TestAddErrors(t *testing.T) {
	great := api.Record{Value: strings.Repeat("v", api.MaxValue)}
	d, l := spread(t)
	wrong(t, "nothing", d, l, api.ErrArg)
	wrong(t, "too many", d, l, api.ErrLimit, make([]api.Record, api.MaxRecords+1)...)
	wrong(t, "a Time below 0", d, l, api.ErrRange, small(1), small(-1))
	wrong(t, "a Time above MaxTime", d, l, api.ErrRange, small(api.MaxTime+1))
	wrong(t, "a Key that is none", d, l, api.ErrArg, api.Record{Key: "a"})
	wrong(t, "a Value that is Gone", d, l, api.ErrArg, api.Record{Gone: true, Value: "v"})
	wrong(t, "a Key that is too long", d, l, api.ErrLimit, keyed(strings.Repeat("k", api.MaxKey+1), 1))
	wrong(t, "a Value that is too long", d, l, api.ErrLimit, api.Record{Value: great.Value + "v"})
	wrong(t, "more than MaxBatch", d, l, api.ErrLimit, slices.Repeat([]api.Record{great}, 12)...)
	d.Fail(0)
	wrong(t, "2's errors ahead of the disk's", d, l, api.ErrRange, small(-1))
	d.Crash(nil)
	add(t, l, 20, slices.Repeat([]api.Record{great}, 11)...)
	l = opened(t, room(t, 1000), 100, api.MaxTime-1)
	d = room(t, 0)
	wrong(t, "above MaxTime", d, l, api.ErrRange, small(1), small(2))
	add(t, l, api.MaxTime-1, small(1))
	wrong(t, "at MaxTime", d, l, api.ErrRange, small(1))
	wrong(t, "nothing, at MaxTime", d, l, api.ErrArg)
}

// A new segment is made just where the last one has bytes, and would have more than most.
func TestAddRolls(t *testing.T) {
	one := small(1)
	size := len(encoded(t, batch(0, one)))
	for most := 100; most < 140; most++ {
		d := room(t, 10_000)
		l := opened(t, d, most, 0)
		var bases []int
		for k := range 60 {
			if k%(most/size) == 0 {
				bases = append(bases, k)
			}
			add(t, l, k, one)
			numbers(t, fmt.Sprint("most ", most), l, 0, k+1, bases[len(bases)-1], bases...)
		}
		has(t, fmt.Sprint("most ", most), l, numbered(0, slices.Repeat([]api.Record{one}, 60)...)...)
		if l.Size() != d.Used() || l.Size() != 60*size {
			t.Errorf("most %d: Size %d, Used %d, want %d", most, l.Size(), d.Used(), 60*size)
		}
	}
}

// A batch of more than most stands alone; an empty segment takes it.
func TestAddGreat(t *testing.T) {
	great := api.Record{Value: strings.Repeat("v", 200)}
	d := room(t, 10_000)
	l := opened(t, d, 100, 3)
	add(t, l, 3, great)
	numbers(t, "a first one", l, 3, 4, 3, 3)
	add(t, l, 4, great)
	numbers(t, "a second one", l, 3, 5, 4, 3, 4)
	add(t, l, 5, small(1))
	numbers(t, "a small one", l, 3, 6, 5, 3, 4, 5)
	has(t, "all", l, numbered(3, great, great, small(1))...)
}

// What is ahead of a new segment is safe.
func TestAddMakesSafeAhead(t *testing.T) {
	d := room(t, 10_000)
	l := opened(t, d, 100, 0)
	for k := range 5 {
		add(t, l, k, small(k))
	}
	numbers(t, "one segment", l, 0, 5, 0, 0)
	add(t, l, 5, small(5))
	numbers(t, "two", l, 0, 6, 5, 0, 5)
	d.Crash(nil)
	l = opened(t, d, 100, 0)
	numbers(t, "behind a crash", l, 0, 5, 5, 0, 5)
	has(t, "behind a crash", l, numbered(0, small(0), small(1), small(2), small(3), small(4))...)
}

func TestAddFull(t *testing.T) {
	five := []api.Record{small(1), small(2), small(3), small(4), {Value: strings.Repeat("v", 80)}}
	size, one := len(encoded(t, batch(0, five...))), len(encoded(t, batch(0, small(1))))
	d := room(t, size+2*one)
	l := opened(t, d, size, 0)
	add(t, l, 0, five...)
	add(t, l, 5, small(1))
	wrong(t, "full", d, l, api.ErrFull, small(1), small(2), small(3))
	n, err := l.Add(five)
	told(t, "full, rolling", err, api.ErrFull)
	if n != 0 {
		t.Errorf("%d beside an error", n)
	}
	// The new segment stays, and takes what there is room for.
	numbers(t, "full, rolling", l, 0, 6, 6, 0, 5, 6)
	files(t, "full, rolling", d, "p/0000000000.log", "p/0000000005.log", "p/0000000006.log")
	wrong(t, "full, again", d, l, api.ErrFull, five...)
	add(t, l, 6, small(2))
	numbers(t, "a small one", l, 0, 7, 6, 0, 5, 6)
	has(t, "a small one", l, numbered(0, append(five, small(1), small(2))...)...)
}

func TestAddBesideMaxFiles(t *testing.T) {
	d, l := spread(t)
	fill(t, d)
	n, err := l.Add(slices.Repeat([]api.Record{small(1)}, 10))
	told(t, "Add", err, api.ErrLimit)
	if n != 0 {
		t.Errorf("%d beside an error", n)
	}
	// It was made safe ahead of that.
	numbers(t, "Add", l, 10, 20, 20, 10, 14, 17)
	has(t, "Add", l, spreadRecords()...)
	add(t, l, 20, small(1))
}

func TestFlush(t *testing.T) {
	d, l := spread(t)
	told(t, "Flush", l.Flush(), api.OK)
	numbers(t, "Flush", l, 10, 20, 20, 10, 14, 17)
	d.Crash(nil)
	l = opened(t, d, 100, 0)
	numbers(t, "behind a crash", l, 10, 20, 20, 10, 14, 17)
	has(t, "behind a crash", l, spreadRecords()...)
	d.Fail(0)
	told(t, "Flush of what is safe, on a disk that fails", l.Flush(), api.ErrDevice)
	d, l = spread(t)
	d.Fail(0)
	told(t, "Flush on a disk that fails", l.Flush(), api.ErrDevice)
	numbers(t, "Flush on a disk that fails", l, 10, 20, 18, 10, 14, 17)
}

func TestSegmentsAreFresh(t *testing.T) {
	_, l := spread(t)
	clear(l.Segments())
	numbers(t, "behind a change of what came out", l, 10, 20, 18, 10, 14, 17)
}

// Promise 4.3: Read, Since.

func TestRead(t *testing.T) {
	_, l := spread(t)
	every := spreadRecords()
	first := len(encoded(t, batch(10, every[:3]...)))
	second := len(encoded(t, batch(13, every[3])))
	for _, c := range []struct{ from, most, begin, end int }{
		{10, 0, 10, 13}, {10, -1, 10, 13}, {10, math.MinInt, 10, 13}, {10, first, 10, 13}, {10, first + second - 1, 10, 13},
		{10, first + second, 10, 14}, {10, 1000, 10, 14}, {10, math.MaxInt, 10, 14},
		{11, 0, 11, 13}, {12, 1000, 12, 14}, {13, 0, 13, 14}, {13, 1000, 13, 14},
		{14, 0, 14, 17}, {14, 1000, 14, 17}, {16, 1000, 16, 17},
		{17, 0, 17, 18}, {17, 1000, 17, 20}, {18, 0, 18, 20}, {19, 0, 19, 20}, {20, 0, 20, 20}, {20, 1000, 20, 20},
	} {
		got, err := l.Read(c.from, c.most)
		if err != nil || !plain.Same(got, every[c.begin-10:c.end-10]) {
			t.Errorf("Read(%d, %d) is %v, %v, want those from %d to below %d", c.from, c.most, got, err, c.begin, c.end)
		}
	}
	for _, from := range []int{math.MinInt, -1, 0, 9, 21, math.MaxInt} {
		got, err := l.Read(from, 1000)
		told(t, fmt.Sprint("Read from ", from), err, api.ErrRange)
		if got != nil {
			t.Errorf("Read from %d: %v beside an error", from, got)
		}
	}
}

// Example 4 of the document.
func TestReadOfTwo(t *testing.T) {
	l := opened(t, room(t, 1000), 100, 0)
	add(t, l, 0, small(1))
	add(t, l, 1, small(2))
	got, err := l.Read(1, 100)
	if err != nil || !plain.Same(got, numbered(1, small(2))) {
		t.Errorf("Read from 1: %v, %v", got, err)
	}
}

func TestReadOfNone(t *testing.T) {
	l := opened(t, room(t, 1000), 100, 7)
	if got, err := l.Read(7, 100); len(got) != 0 || err != nil {
		t.Errorf("Read of an empty log: %v, %v", got, err)
	}
	_, err := l.Read(6, 100)
	told(t, "ahead of an empty log", err, api.ErrRange)
	_, err = l.Read(8, 100)
	told(t, "behind an empty log", err, api.ErrRange)
}

// Batches out of which all records went are read over: in a segment, behind it, and whole segments.
func TestReadOverWhatIsTakenOut(t *testing.T) {
	d := room(t, 10_000)
	empty := func(base int) api.Batch { return api.Batch{Base: base, End: base + 1} }
	lay(t, d, 0, empty(0), empty(1), batch(2, small(2)), empty(3), batch(4, small(4)), empty(5))
	lay(t, d, 6, empty(6), empty(7))
	lay(t, d, 8)
	lay(t, d, 9, empty(9), api.Batch{Base: 10, End: 13, Records: numbered(11, small(11))}, batch(13, small(13)))
	lay(t, d, 14, empty(14))
	l := opened(t, d, 100, 0)
	every := append(numbered(2, small(2)), numbered(4, small(4))...)
	every = append(append(every, numbered(11, small(11))...), numbered(13, small(13))...)
	has(t, "read over", l, every...)
	for from := range 15 {
		at := slices.IndexFunc(every, func(r api.Record) bool { return r.Offset >= from })
		for most := range 100 {
			got, err := l.Read(from, most)
			if at < 0 {
				if len(got) != 0 || err != nil {
					t.Errorf("Read(%d, %d) is %v, %v", from, most, got, err)
				}
				continue
			}
			if err != nil || len(got) == 0 || len(got) > len(every)-at || !plain.Same(got, every[at:at+len(got)]) {
				t.Errorf("Read(%d, %d) is %v, %v", from, most, got, err)
			}
		}
	}
	if got, _ := l.Read(0, 1000); len(got) != 2 {
		t.Errorf("Read of a whole segment is %v", got)
	}
}

func TestReadIsFresh(t *testing.T) {
	_, l := spread(t)
	x, _ := l.Read(10, 1000)
	clear(x)
	has(t, "behind a change of what came out", l, spreadRecords()...)
}

func TestReadSpoilt(t *testing.T) {
	d, l := spread(t)
	told(t, "disk.Cut", d.Cut("p/0000000014.log", 30), api.OK)
	got, err := l.Read(15, 100)
	told(t, "Read of what is cut", err, api.ErrSpoilt)
	if got != nil {
		t.Errorf("%v beside an error", got)
	}
	_, err = l.Read(21, 100)
	told(t, "ErrRange ahead of it", err, api.ErrRange)
	if got, err := l.Read(10, 1000); err != nil || !plain.Same(got, spreadRecords()[:4]) {
		t.Errorf("Read ahead of it: %v, %v", got, err)
	}
	if got, err := l.Read(17, 1000); err != nil || !plain.Same(got, spreadRecords()[7:]) {
		t.Errorf("Read behind it: %v, %v", got, err)
	}
	l.Since(0)
	l.Since(35)
}

func TestSince(t *testing.T) {
	d, l := spread(t)
	sinces := func(what string, want map[int]int) {
		t.Helper()
		for time, offset := range want {
			if got, ok := l.Since(time); got != max(offset, 0) || ok != (offset >= 0) {
				t.Errorf("%s: Since(%d) is %d, %v, want %d", what, time, got, ok, offset)
			}
		}
	}
	sinces("from 10", map[int]int{math.MinInt: 10, -1: 10, 0: 10, 20: 10, 21: 11, 25: 11, 26: 13, 40: 13, 41: 17, 60: 17, 61: -1, api.MaxTime: -1, math.MaxInt: -1})
	l = opened(t, d, 100, 11)
	sinces("from 11", map[int]int{math.MinInt: 11, 0: 11, 20: 11, 26: 13, 41: 17, 61: -1})
	l = opened(t, d, 100, 12)
	sinces("from 12", map[int]int{0: 12, 15: 12, 16: 13, 20: 13, 41: 17})
	l = opened(t, d, 100, 14)
	sinces("from 14", map[int]int{0: 14, 30: 14, 31: 15, 35: 15, 36: 17, 60: 17, 61: -1})
	l = opened(t, d, 100, 16)
	sinces("from 16", map[int]int{0: 16, 10: 16, 11: 17})
	l = opened(t, d, 100, 18)
	sinces("from 18", map[int]int{0: 18, 5: 18, 50: 18, 51: -1})
	l = opened(t, d, 100, 19)
	sinces("from 19", map[int]int{0: 19, 5: 19, 6: -1})
	l = opened(t, d, 100, 20)
	sinces("from 20", map[int]int{0: -1, math.MinInt: -1})
}

// Promise 4.4: Forget, Retain.

func TestForget(t *testing.T) {
	bases := []int{10, 14, 17}
	for to := 0; to <= 20; to++ {
		what := fmt.Sprint("Forget ", to)
		d, l := spread(t)
		told(t, what, l.Forget(to), api.OK)
		k := 0
		for k < 2 && bases[k+1] <= to {
			k++
		}
		numbers(t, what, l, max(to, 10), 20, 18, bases[k:]...)
		has(t, what, l, spreadRecords()[max(to, 10)-10:]...)
		if len(d.List("")) != 3-k || l.Size() != d.Used() {
			t.Errorf("%s: there are %q", what, d.List(""))
		}
		_, err := l.Read(max(to, 10)-1, 100)
		told(t, what+": Read ahead of it", err, api.ErrRange)
		told(t, what+": Forget less", l.Forget(0), api.OK)
		numbers(t, what+": Forget less", l, max(to, 10), 20, 18, bases[k:]...)
		add(t, l, 20, small(1))
	}
	d, l := spread(t)
	for _, to := range []int{math.MinInt, -1, 21, math.MaxInt} {
		before := view(d, l)
		told(t, fmt.Sprint("Forget ", to), l.Forget(to), api.ErrRange)
		if after := view(d, l); after != before {
			t.Errorf("Forget %d: from %s to %s", to, before, after)
		}
	}
}

// Segments that are ahead of where a log was opened go by a Forget of less, too; empty ones like others.
func TestForgetBehindOpen(t *testing.T) {
	d, _ := spread(t)
	l := opened(t, d, 100, 15)
	numbers(t, "opened at 15", l, 15, 20, 20, 10, 14, 17)
	told(t, "Forget 3", l.Forget(3), api.OK)
	numbers(t, "Forget 3", l, 15, 20, 20, 14, 17)
	d = room(t, 1000)
	lay(t, d, 5)
	lay(t, d, 6)
	lay(t, d, 8, batch(8, small(1)))
	l = opened(t, d, 100, 0)
	told(t, "Forget 7", l.Forget(7), api.OK)
	numbers(t, "Forget 7", l, 7, 9, 9, 6, 8)
	has(t, "Forget 7", l, numbered(8, small(1))...)
}

func TestForgetOnADiskThatFails(t *testing.T) {
	for n := range 3 {
		d, l := spread(t)
		d.Fail(n)
		err := l.Forget(18)
		if n == 2 {
			told(t, "Forget", err, api.OK)
			continue
		}
		told(t, fmt.Sprint("Fail ", n), err, api.ErrDevice)
		numbers(t, fmt.Sprint("Fail ", n), l, 18, 20, 18, []int{10, 14, 17}[n:]...)
		has(t, fmt.Sprint("Fail ", n), l, spreadRecords()[8:]...)
		d.Crash([]byte{255})
		l = opened(t, d, 100, 10)
		start := []int{10, 14}[n]
		numbers(t, fmt.Sprint("Fail ", n, ", opened anew"), l, start, 20, 20, []int{10, 14, 17}[n:]...)
		has(t, fmt.Sprint("Fail ", n, ", opened anew"), l, spreadRecords()[start-10:]...)
	}
}

// spread's segments have Latest 40, 35, 60, and so many bytes.
func sizes(t *testing.T) (first, second, third int) {
	every := spreadRecords()
	return len(encoded(t, batch(10, every[:3]...), batch(13, every[3]))), len(encoded(t, batch(14, every[4:7]...))),
		len(encoded(t, batch(17, every[7]), batch(18, every[8:]...)))
}

func TestRetain(t *testing.T) {
	first, second, third := sizes(t)
	for _, c := range []struct{ now, age, bytes, want int }{
		{0, 0, -1, 0}, {40, 0, -1, 0}, {41, 0, -1, 2}, {1000, 0, -1, 2}, {1000, 959, -1, 2}, {1000, 960, -1, 0},
		{1000, -1, -1, 0}, {api.MaxTime, -1, math.MinInt, 0}, {api.MaxTime, math.MinInt, -1, 0}, {0, api.MaxTime, -1, 0},
		{0, 0, 0, 2}, {0, -1, third, 2}, {0, -1, third + 1, 1}, {0, -1, second + third, 1}, {0, -1, second + third + 1, 0},
		{0, -1, first + second + third, 0}, {0, -1, math.MaxInt, 0}, {41, 0, math.MaxInt, 2}, {35, 0, second + third, 1},
	} {
		d, l := spread(t)
		n, err := l.Retain(c.now, c.age, c.bytes)
		what := fmt.Sprint("Retain ", c)
		told(t, what, err, api.OK)
		if n != c.want {
			t.Errorf("%s: %d went, want %d", what, n, c.want)
		}
		bases := []int{10, 14, 17}[c.want:]
		numbers(t, what, l, bases[0], 20, 18, bases...)
		has(t, what, l, spreadRecords()[bases[0]-10:]...)
		if len(d.List("")) != len(bases) {
			t.Errorf("%s: there are %q", what, d.List(""))
		}
	}
}

// Only a beginning goes: one that stays keeps all behind it.
func TestRetainStops(t *testing.T) {
	d := room(t, 1000)
	for k, time := range []int{5, 9, 5, 5} {
		lay(t, d, k, batch(k, small(time)))
	}
	l := opened(t, d, 100, 0)
	n, err := l.Retain(9, 0, -1)
	told(t, "Retain", err, api.OK)
	numbers(t, "Retain", l, 1, 4, 4, 1, 2, 3)
	if n != 1 {
		t.Errorf("%d went", n)
	}
	n, err = l.Retain(10, 0, -1)
	told(t, "Retain", err, api.OK)
	numbers(t, "Retain, later", l, 3, 4, 4, 3)
	if n != 2 {
		t.Errorf("%d went", n)
	}
}

// Segments without records are older than whatever is; Start is not set back.
func TestRetainOfNone(t *testing.T) {
	d := room(t, 1000)
	lay(t, d, 5, api.Batch{Base: 5, End: 6})
	lay(t, d, 6)
	lay(t, d, 8, batch(8, small(1)))
	l := opened(t, d, 100, 9)
	n, err := l.Retain(5, 6, -1)
	told(t, "Retain", err, api.OK)
	numbers(t, "now less age is -1", l, 9, 9, 9, 5, 6, 8)
	if n != 0 {
		t.Errorf("%d went", n)
	}
	n, err = l.Retain(5, 5, -1)
	told(t, "Retain", err, api.OK)
	numbers(t, "now less age is 0", l, 9, 9, 9, 8)
	if n != 2 {
		t.Errorf("%d went", n)
	}
	n, err = l.Retain(api.MaxTime, 0, 0)
	told(t, "Retain of the last one", err, api.OK)
	numbers(t, "Retain of the last one", l, 9, 9, 9, 8)
	if n != 0 {
		t.Errorf("%d went", n)
	}
}

func TestRetainOnADiskThatFails(t *testing.T) {
	for n := range 2 {
		d, l := spread(t)
		d.Fail(n)
		k, err := l.Retain(100, 0, -1)
		told(t, fmt.Sprint("Fail ", n), err, api.ErrDevice)
		if k != 0 {
			t.Errorf("Fail %d: %d beside an error", n, k)
		}
		start := []int{10, 14}[n]
		numbers(t, fmt.Sprint("Fail ", n), l, start, 20, 18, []int{10, 14, 17}[n:]...)
		has(t, fmt.Sprint("Fail ", n), l, spreadRecords()[start-10:]...)
	}
}

// Promise 4.5: Compact.

// without is a list of records but those at some offsets.
func without(records []api.Record, offsets ...int) []api.Record {
	return slices.DeleteFunc(slices.Clone(records), func(r api.Record) bool { return slices.Contains(offsets, r.Offset) })
}

func TestCompact(t *testing.T) {
	for _, c := range []struct {
		now, age int
		out      []int
	}{
		{0, 0, []int{11, 12, 14}}, {35, 0, []int{11, 12, 14}}, {36, 0, []int{11, 12, 14, 15}},
		{100, 65, []int{11, 12, 14}}, {100, 64, []int{11, 12, 14, 15}}, {api.MaxTime, 0, []int{11, 12, 14, 15}},
		{0, api.MaxTime, []int{11, 12, 14}},
	} {
		d, l := spread(t)
		n, err := l.Compact(c.now, c.age)
		what := fmt.Sprint("Compact ", c.now, " ", c.age)
		told(t, what, err, api.OK)
		if n != len(c.out) {
			t.Errorf("%s: %d went, want %d", what, n, len(c.out))
		}
		want := without(spreadRecords(), c.out...)
		numbers(t, what, l, 10, 20, 20, 10, 14, 17)
		has(t, what, l, want...)
		if l.Size() != d.Used() {
			t.Errorf("%s: Size %d, Used %d", what, l.Size(), d.Used())
		}
		// All of it is safe, and nothing is to be done again.
		d.Crash(nil)
		l = opened(t, d, 100, 0)
		numbers(t, what+", behind a crash", l, 10, 20, 20, 10, 14, 17)
		has(t, what+", behind a crash", l, want...)
		n, err = l.Compact(c.now, c.age)
		told(t, what+", again", err, api.OK)
		if n != 0 {
			t.Errorf("%s, again: %d went", what, n)
		}
		add(t, l, 20, small(1))
	}
}

// The batches stay, where they are.
func TestCompactKeepsBatches(t *testing.T) {
	d, l := spread(t)
	_, err := l.Compact(100, 0)
	told(t, "Compact", err, api.OK)
	every := spreadRecords()
	want := encoded(t, api.Batch{Base: 10, End: 13, Records: every[:1]}, batch(13, every[3]))
	if got := d.Read("p/0000000010.log", 0, math.MaxInt); !slices.Equal(got, want) {
		t.Errorf("the first segment has %x, want %x", got, want)
	}
	want = encoded(t, api.Batch{Base: 14, End: 17, Records: every[6:7]})
	if got := d.Read("p/0000000014.log", 0, math.MaxInt); !slices.Equal(got, want) {
		t.Errorf("the second segment has %x, want %x", got, want)
	}
	want = encoded(t, batch(17, every[7]), batch(18, every[8:]...))
	if got := d.Read("p/0000000017.log", 0, math.MaxInt); !slices.Equal(got, want) {
		t.Errorf("the last segment has %x, want %x", got, want)
	}
}

// Out of the last segment nothing goes, even of a key that it has twice; without another one nothing goes at all.
func TestCompactLast(t *testing.T) {
	d := room(t, 1000)
	l := opened(t, d, api.MaxDisk, 0)
	every := numbered(0, keyed("a", 1), gone("a", 2), keyed("a", 3), gone("b", 4))
	add(t, l, 0, every...)
	n, err := l.Compact(100, 0)
	told(t, "Compact", err, api.OK)
	if n != 0 {
		t.Errorf("%d went", n)
	}
	numbers(t, "Compact", l, 0, 4, 4, 0)
	has(t, "Compact", l, every...)
}

// What goes, and what stays, by keys: the empty one is one like others, no key is none.
func TestCompactKeys(t *testing.T) {
	d := room(t, 1000)
	every := numbered(0,
		api.Record{Value: "no key"}, keyed("", 1), api.Record{Gone: true}, keyed("a", 2), // 0 to 3
		keyed("aa", 3), gone("a", 4), keyed("", 5), gone("c", 6), // 4 to 7
		api.Record{Value: "no key"}, api.Record{Gone: true}, keyed("d", 8), // 8 to 10
		keyed("b", 9), gone("d", 9)) // 11 to 12
	lay(t, d, 0, batch(0, every[:4]...), batch(4, every[4:8]...))
	lay(t, d, 8, batch(8, every[8:11]...))
	lay(t, d, 11, batch(11, every[11:]...))
	l := opened(t, d, 100, 0)
	n, err := l.Compact(6, 0)
	told(t, "Compact", err, api.OK)
	if n != 4 {
		t.Errorf("%d went", n)
	}
	// 7 is a tombstone at 6, and so not below 6; 12 is in the last segment.
	has(t, "Compact", l, without(every, 1, 3, 5, 10)...)
	n, err = l.Compact(100, 0)
	told(t, "Compact", err, api.OK)
	if n != 1 {
		t.Errorf("%d went", n)
	}
	has(t, "Compact, later", l, without(every, 1, 3, 5, 7, 10)...)
}

// A segment out of which none goes is not written again: a disk that is full, and does no more than a Sync, is enough.
func TestCompactLeavesOthers(t *testing.T) {
	d := room(t, 1000)
	lay(t, d, 0, batch(0, keyed("a", 1), small(1)))
	lay(t, d, 2, api.Batch{Base: 2, End: 3})
	lay(t, d, 3)
	lay(t, d, 4, batch(4, keyed("b", 1)))
	l := opened(t, d, 100, 0)
	fill(t, d)
	d.Fail(1)
	n, err := l.Compact(100, 0)
	told(t, "Compact", err, api.OK)
	if n != 0 {
		t.Errorf("%d went", n)
	}
}

// Where an error comes, what went out of the segments ahead is told, and stays gone.
func TestCompactErrors(t *testing.T) {
	d := room(t, 1000)
	lay(t, d, 0, batch(0, keyed("a", 1), keyed("b", 1)))
	lay(t, d, 2, batch(2, keyed("a", 1), api.Record{Value: strings.Repeat("v", 100)}))
	lay(t, d, 4, batch(4, keyed("a", 1), keyed("b", 1)))
	l := opened(t, d, 100, 0)
	laid(t, d, "other", make([]byte, 1000-d.Used()-40))
	n, err := l.Compact(0, 0)
	told(t, "Compact of a full disk", err, api.ErrFull)
	if n != 2 {
		t.Errorf("%d went out of the segments ahead", n)
	}
	want := append(numbered(2, keyed("a", 1), api.Record{Value: strings.Repeat("v", 100)}), numbered(4, keyed("a", 1), keyed("b", 1))...)
	numbers(t, "full", l, 0, 6, 6, 0, 2, 4)
	has(t, "full", l, want...)
	files(t, "full", d, "other", "p/0000000000.log", "p/0000000002.log", "p/0000000004.log")
	told(t, "disk.Remove", d.Remove("other"), api.OK)
	n, err = l.Compact(0, 0)
	told(t, "Compact with room", err, api.OK)
	if n != 1 {
		t.Errorf("%d went", n)
	}
	has(t, "with room", l, without(want, 2)...)
}

func TestCompactSpoilt(t *testing.T) {
	d, l := spread(t)
	told(t, "disk.Cut", d.Cut("p/0000000014.log", 30), api.OK)
	n, err := l.Compact(100, 0)
	told(t, "Compact", err, api.ErrSpoilt)
	if n != 0 {
		t.Errorf("%d beside an error", n)
	}
	if got, err := l.Read(10, 1000); err != nil || !plain.Same(got, spreadRecords()[:4]) {
		t.Errorf("Read ahead of it: %v, %v", got, err)
	}
	told(t, "Flush", l.Flush(), api.OK)
}

// Records ahead of Start are some of the log's segments, too.
func TestCompactAheadOfStart(t *testing.T) {
	d, _ := spread(t)
	l := opened(t, d, 100, 13)
	n, err := l.Compact(36, 0)
	told(t, "Compact", err, api.OK)
	if n != 4 {
		t.Errorf("%d went", n)
	}
	has(t, "Compact", l, without(spreadRecords()[3:], 14, 15)...)
}

func TestCompactFailsAtFlush(t *testing.T) {
	d, l := spread(t)
	d.Fail(0)
	n, err := l.Compact(100, 0)
	told(t, "Compact", err, api.ErrDevice)
	if n != 0 {
		t.Errorf("%d beside an error", n)
	}
	numbers(t, "Compact", l, 10, 20, 18, 10, 14, 17)
	has(t, "Compact", l, spreadRecords()...)
}

func Example() {
	d, _ := disk.New(1000)
	l, _ := plog.Open(d, "a-0", 100, 0)
	l.Add([]api.Record{{Time: 3, Keyed: true, Key: "k", Value: "xy"}})
	l.Flush()
	l.Add([]api.Record{{Time: 4, Keyed: true, Key: "k", Value: "z"}})
	d.Crash(nil)
	l, _ = plog.Open(d, "a-0", 100, 0)
	records, _ := l.Read(0, 100)
	fmt.Println(l.Start(), l.End(), l.Safe(), len(records), records[0].Value)
	// Output: 0 1 1 1 xy
}
