package segment_test

import (
	"bytes"
	"fmt"
	"math"
	"math/rand"
	"slices"
	"strings"
	"testing"

	"conveyor/api"
	"conveyor/disk"
	"conveyor/plain"
	"conveyor/record"
	"conveyor/segment"
)

// told fails, unless an error is that Errno, without a place.
func told(t *testing.T, what string, err error, want api.Errno) {
	t.Helper()
	if got, bare := plain.Bare(err); got != want || !bare || (err == nil) != (want == api.OK) {
		t.Errorf("%s: %v, want Errno %d, bare", what, err, int(want))
	}
}

// room is a disk of so many bytes.
func room(t *testing.T, n int) *disk.Disk {
	t.Helper()
	d, err := disk.New(n)
	if err != nil {
		t.Fatalf("New(%d): %v", n, err)
	}
	return d
}

// made is a segment with batches, on a disk of its own with room enough.
func made(t *testing.T, base int, l ...api.Batch) (*disk.Disk, *segment.Segment) {
	t.Helper()
	d := room(t, api.MaxDisk)
	s, err := segment.Make(d, "s", base)
	if err != nil {
		t.Fatalf("Make at %d: %v", base, err)
	}
	for _, x := range l {
		told(t, "Add", s.Add(x), api.OK)
	}
	return d, s
}

// batch is one from a base on, of a record of each of these times.
func batch(base int, times ...int) api.Batch {
	x := api.Batch{Base: base, End: base + max(len(times), 1)}
	for k, time := range times {
		x.Records = append(x.Records, api.Record{Offset: base + k, Time: time, Value: fmt.Sprint("value ", time)})
	}
	return x
}

// encoded is a batch's bytes.
func encoded(t *testing.T, l ...api.Batch) []byte {
	t.Helper()
	var all []byte
	for _, x := range l {
		b, err := record.Encode(x)
		if err != nil {
			t.Fatalf("Encode(%v): %v", x, err)
		}
		all = append(all, b...)
	}
	return all
}

// size is how many bytes batches take.
func size(t *testing.T, l ...api.Batch) int {
	t.Helper()
	return len(encoded(t, l...))
}

// same says whether two lists of batches are the same.
func same(a, b []api.Batch) bool {
	return slices.EqualFunc(a, b, func(x, y api.Batch) bool {
		return x.Base == y.Base && x.End == y.End && plain.Same(x.Records, y.Records)
	})
}

// content is what a disk's file has.
func content(d *disk.Disk, name string) []byte {
	return d.Read(name, 0, math.MaxInt)
}

// laid makes a file with bytes that are safe.
func laid(t *testing.T, d *disk.Disk, name string, b []byte) {
	t.Helper()
	told(t, "disk.Make "+name, d.Make(name), api.OK)
	told(t, "disk.Add "+name, d.Add(name, b), api.OK)
	told(t, "disk.Sync "+name, d.Sync(name), api.OK)
}

// has fails, unless a segment from a base on has just these batches, in its answers and in its file.
func has(t *testing.T, what string, d *disk.Disk, s *segment.Segment, base int, l ...api.Batch) {
	t.Helper()
	next, latest := base, -1
	for _, x := range l {
		next = x.End
		for _, r := range x.Records {
			latest = max(latest, r.Time)
		}
	}
	if s.Base() != base || s.Next() != next || s.Batches() != len(l) || s.Latest() != latest || s.Size() != size(t, l...) {
		t.Errorf("%s: Base %d, Next %d, Batches %d, Latest %d, Size %d; want %d, %d, %d, %d, %d", what,
			s.Base(), s.Next(), s.Batches(), s.Latest(), s.Size(), base, next, len(l), latest, size(t, l...))
	}
	got, err := s.Read(math.MinInt, math.MaxInt)
	if err != nil || !same(got, l) {
		t.Errorf("%s: Read of all is %v, %v; want %v", what, got, err, l)
	}
	if b := content(d, segment.Name("s", base)); !bytes.Equal(b, encoded(t, l...)) {
		t.Errorf("%s: the file has %x, want %x", what, b, encoded(t, l...))
	}
}

// files fails, unless a disk has just the files of these names.
func files(t *testing.T, what string, d *disk.Disk, want ...string) {
	t.Helper()
	if got := d.List(""); !slices.Equal(got, want) {
		t.Errorf("%s: there are %q, want %q", what, got, want)
	}
}

// fill makes as many files as there may be more.
func fill(t *testing.T, d *disk.Disk) {
	t.Helper()
	for k := len(d.List("")); k < api.MaxFiles; k++ {
		told(t, "disk.Make", d.Make(fmt.Sprint("fill", k)), api.OK)
	}
}

// Promise 3.1: Name, Base, Make, Open.

func TestName(t *testing.T) {
	for _, c := range []struct {
		dir  string
		base int
		want string
	}{
		{"s", 0, "s/0000000000.log"}, {"a-0", 7, "a-0/0000000007.log"}, {"a/b", 123456789, "a/b/0123456789.log"},
		{"s", 1234567890, "s/1234567890.log"}, {"s", 9999999999, "s/9999999999.log"}, {"s", 10000000000, "s/10000000000.log"},
		{"s", api.MaxTime, "s/1099511627776.log"}, {"", 1, "/0000000001.log"}, {"s/", 1, "s//0000000001.log"},
	} {
		if got := segment.Name(c.dir, c.base); got != c.want {
			t.Errorf("Name(%q, %d) is %q, want %q", c.dir, c.base, got, c.want)
		}
		if got := segment.Base(c.dir, c.want); got != c.base {
			t.Errorf("Base(%q, %q) is %d, want %d", c.dir, c.want, got, c.base)
		}
	}
}

func TestBaseOfNone(t *testing.T) {
	for _, c := range []struct{ dir, name string }{
		{"s", ""}, {"s", "s"}, {"s", "s/"}, {"s", "s/.log"}, {"s", ".log"}, {"s", "s/0000000001"}, {"s", "0000000001.log"},
		{"s", "s/0000000001.new"}, {"s", "s/0000000001.log.new"}, {"s", "s/0000000001.log.log"}, {"s", "s/0000000001.lo"},
		{"s", "s/1.log"}, {"s", "s/000000001.log"}, {"s", "s/00000000001.log"}, {"s", "s/01099511627776.log"},
		{"s", "s/-000000001.log"}, {"s", "s/00000000-1.log"}, {"s", "s/+000000001.log"}, {"s", "s/-1.log"},
		{"s", "s/000000000a.log"}, {"s", "s/0x00000001.log"}, {"s", "s/1_00000000.log"}, {"s", "s/ 000000001.log"},
		{"s", "s/1099511627777.log"}, {"s", "s/9999999999999.log"}, {"s", "s/99999999999999999999.log"}, {"s", "s/18446744073709551617.log"},
		{"s", "t/0000000001.log"}, {"s", "s//0000000001.log"}, {"s", "ss/0000000001.log"}, {"s", "s/s/0000000001.log"},
		{"s", "S/0000000001.log"}, {"ss", "s/0000000001.log"}, {"s/", "s/0000000001.log"}, {"", "0000000001.log"}, {"s", "s0000000001.log"},
	} {
		if got := segment.Base(c.dir, c.name); got != -1 {
			t.Errorf("Base(%q, %q) is %d", c.dir, c.name, got)
		}
	}
}

// P1: none panics, whatever it is given.
func TestNameOfOtherBases(t *testing.T) {
	for _, base := range []int{math.MinInt, -1, -1 << 40, api.MaxTime + 1, math.MaxInt} {
		if got := segment.Base("s", segment.Name("s", base)); got != -1 {
			t.Errorf("Base of Name of %d is %d", base, got)
		}
	}
}

func TestMake(t *testing.T) {
	for _, base := range []int{0, 7, api.MaxTime} {
		d, s := made(t, base)
		has(t, "made", d, s, base)
		files(t, "made", d, segment.Name("s", base))
		again, err := segment.Make(d, "s", base)
		told(t, "Make again", err, api.ErrTwice)
		if again != nil {
			t.Errorf("a segment beside an error")
		}
	}
	for _, base := range []int{math.MinInt, -1, api.MaxTime + 1, math.MaxInt} {
		d := room(t, 100)
		s, err := segment.Make(d, "s", base)
		told(t, fmt.Sprint("Make at ", base), err, api.ErrRange)
		if s != nil || len(d.List("")) != 0 {
			t.Errorf("Make at %d: %v, %q", base, s, d.List(""))
		}
	}
}

func TestMakeErrors(t *testing.T) {
	d := room(t, 100)
	for dir, want := range map[string]api.Errno{
		"": api.OK, "a-1": api.OK, strings.Repeat("a", api.MaxName-15): api.OK,
		strings.Repeat("a", api.MaxName-14): api.ErrName, "A": api.ErrName, "a b": api.ErrName,
	} {
		s, err := segment.Make(d, dir, 3)
		told(t, fmt.Sprintf("Make in %q", dir), err, want)
		if (s == nil) != (want != api.OK) {
			t.Errorf("Make in %q: %v, %v", dir, s, err)
		}
	}
	fill(t, d)
	_, err := segment.Make(d, "t", 3)
	told(t, "Make beside MaxFiles", err, api.ErrLimit)
	d.Fail(0)
	_, err = segment.Make(d, "t", 3)
	told(t, "Make on a disk that fails", err, api.ErrDevice)
	_, err = segment.Make(d, "t", -1)
	told(t, "ErrRange ahead of the disk's", err, api.ErrRange)
	_, err = segment.Make(nil, "t", 3)
	told(t, "Make on no disk", err, api.ErrDevice)
}

// opened fails, unless Open of a file with these bytes finds just these batches, and cuts off all behind them.
func opened(t *testing.T, what string, base int, b []byte, l ...api.Batch) {
	t.Helper()
	d := room(t, api.MaxDisk)
	laid(t, d, segment.Name("s", base), b)
	s, lost, err := segment.Open(d, "s", base)
	told(t, what, err, api.OK)
	if err != nil {
		return
	}
	if lost != len(b)-size(t, l...) {
		t.Errorf("%s: %d bytes are lost, want %d", what, lost, len(b)-size(t, l...))
	}
	has(t, what, d, s, base, l...)
	files(t, what, d, segment.Name("s", base))
	again, lost, err := segment.Open(d, "s", base)
	if lost != 0 || err != nil {
		t.Fatalf("%s, again: %d, %v", what, lost, err)
	}
	more := batch(s.Next(), 3)
	told(t, what+": Add", again.Add(more), api.OK)
	has(t, what+", and one more", d, again, base, append(slices.Clone(l), more)...)
}

func TestOpen(t *testing.T) {
	l := []api.Batch{batch(7, 5, 3), batch(9), batch(20, 900), {Base: 21, End: 60}, batch(60, 1, 2, 3)}
	for k := range len(l) + 1 {
		opened(t, fmt.Sprint(k, " batches"), 7, encoded(t, l[:k]...), l[:k]...)
	}
	opened(t, "a first batch behind Base", 6, encoded(t, l...), l...)
	opened(t, "at 0", 0, encoded(t, l...), l...)
}

func TestOpenCuts(t *testing.T) {
	l := []api.Batch{batch(7, 5, 3), batch(9, 4), batch(10, 6)}
	b := encoded(t, l...)
	at := 0
	for k, x := range l {
		for n := range size(t, x) {
			opened(t, fmt.Sprint("torn in batch ", k, " at ", n), 7, b[:at+n], l[:k]...)
		}
		for n := range size(t, x) {
			turned := slices.Clone(b)
			turned[at+n] ^= 1 << (n % 8)
			opened(t, fmt.Sprint("a bit of batch ", k, " turned at ", n), 7, turned, l[:k]...)
		}
		at += size(t, x)
	}
	opened(t, "zeros behind", 7, append(slices.Clip(b), make([]byte, 50)...), l...)
	opened(t, "nothing but zeros", 7, make([]byte, 50))
}

func TestOpenCutsWhatIsOutOfOrder(t *testing.T) {
	one, two := batch(7, 5, 3), batch(9, 4)
	opened(t, "a batch ahead of Base", 8, encoded(t, one, two))
	opened(t, "the same batch again", 7, encoded(t, one, one, two), one)
	opened(t, "a batch that begins in the one ahead", 7, encoded(t, one, batch(8, 1), two), one)
	opened(t, "batches that fall", 0, encoded(t, two, one), two)
	opened(t, "a hole", 0, encoded(t, one, batch(10, 1)), one, batch(10, 1))
}

func TestOpenErrors(t *testing.T) {
	d := room(t, 1000)
	missing := func(what string, d *disk.Disk, dir string, base int) {
		t.Helper()
		s, lost, err := segment.Open(d, dir, base)
		told(t, what, err, api.ErrMissing)
		if s != nil || lost != 0 {
			t.Errorf("%s: %v, %d beside an error", what, s, lost)
		}
	}
	laid(t, d, "s/0000000007.log", encoded(t, batch(7, 1)))
	laid(t, d, "s/-000000001.log", encoded(t, batch(7, 1)))
	laid(t, d, "s/00000000-1.log", encoded(t, batch(7, 1)))
	missing("another base", d, "s", 8)
	missing("another directory", d, "t", 7)
	missing("no directory", d, "A", 7)
	for _, base := range []int{math.MinInt, -1, api.MaxTime + 1, math.MaxInt} {
		missing(fmt.Sprint("base ", base), d, "s", base)
	}
	missing("no disk", nil, "s", 7)
	d.Fail(0)
	missing("a disk that fails", d, "s", 8)
}

func TestOpenOnADiskThatFails(t *testing.T) {
	x := batch(7, 1)
	d := room(t, 1000)
	laid(t, d, "s/0000000007.log", encoded(t, x))
	laid(t, d, "t/0000000007.log", append(encoded(t, x), 1, 2, 3))
	d.Fail(0)
	s, lost, err := segment.Open(d, "s", 7)
	if err != nil || lost != 0 {
		t.Fatalf("Open where nothing is cut: %d, %v", lost, err)
	}
	has(t, "opened", d, s, 7, x)
	s, lost, err = segment.Open(d, "t", 7)
	told(t, "Open where bytes are cut", err, api.ErrDevice)
	if s != nil || lost != 0 {
		t.Errorf("%v, %d beside an error", s, lost)
	}
	if n := d.Size("t/0000000007.log"); n != size(t, x)+3 {
		t.Errorf("behind an error the file has %d bytes", n)
	}
}

// Promise 3.2: Base to Latest, Add, Read, Since, Sync, Remove.

func TestAdd(t *testing.T) {
	d, s := made(t, 7)
	var l []api.Batch
	for _, x := range []api.Batch{batch(7), batch(8, 5, 9, 2), batch(11, 3), {Base: 20, End: 70}, batch(70, 100)} {
		given := slices.Clone(x.Records)
		told(t, "Add", s.Add(x), api.OK)
		l = append(l, x)
		has(t, "added", d, s, 7, l...)
		if !plain.Same(given, x.Records) {
			t.Errorf("Add changed what came in")
		}
	}
	files(t, "added", d, segment.Name("s", 7))
}

func TestAddErrors(t *testing.T) {
	l := []api.Batch{batch(7, 5), batch(9, 4)}
	d, s := made(t, 7, l...)
	wrong := func(what string, x api.Batch, want api.Errno) {
		t.Helper()
		told(t, what, s.Add(x), want)
		has(t, what, d, s, 7, l...)
	}
	wrong("ahead of Next", batch(9, 1), api.ErrOrder)
	wrong("far ahead of Next", batch(0, 1), api.ErrOrder)
	wrong("ahead of Next, up to behind it", batch(9, 1, 2, 3), api.ErrOrder)
	wrong("below 0", batch(-1, 1), api.ErrRange)
	wrong("a Time below 0", batch(10, -1), api.ErrRange)
	wrong("empty", api.Batch{Base: 10, End: 10}, api.ErrArg)
	wrong("too many", api.Batch{Base: 10, End: 11 + api.MaxRecords}, api.ErrLimit)
	wrong("Encode's error ahead of ErrOrder", batch(9, -1), api.ErrRange)
	big := batch(10, make([]int, 13)...)
	for k := range big.Records {
		big.Records[k].Value = strings.Repeat("v", api.MaxValue)
	}
	wrong("above MaxBatch", big, api.ErrLimit)
	d.Fail(0)
	wrong("a disk that fails", batch(10, 1), api.ErrDevice)
	wrong("Encode's error ahead of the disk's", batch(10, -1), api.ErrRange)
	wrong("ErrOrder ahead of the disk's", batch(9, 1), api.ErrOrder)
	_, s = made(t, 7)
	told(t, "ahead of Base", s.Add(batch(6, 1, 2)), api.ErrOrder)
}

func TestAddFull(t *testing.T) {
	x, y := batch(0, 1), batch(1, 2)
	for less := range 2 {
		d := room(t, size(t, x, y)-less)
		s, err := segment.Make(d, "s", 0)
		told(t, "Make", err, api.OK)
		told(t, "Add", s.Add(x), api.OK)
		if less == 0 {
			told(t, "Add up to the room", s.Add(y), api.OK)
			has(t, "full", d, s, 0, x, y)
			continue
		}
		told(t, "Add of one byte too many", s.Add(y), api.ErrFull)
		has(t, "behind ErrFull", d, s, 0, x)
	}
}

func TestAddKeepsNothingThatCameIn(t *testing.T) {
	x := batch(0, 5, 3)
	d, s := made(t, 0, x)
	x.Records[0] = api.Record{Time: 77, Value: "!"}
	has(t, "behind a change of what came in", d, s, 0, batch(0, 5, 3))
}

// Latest is of all batches, wherever the greatest Time is; batches without records have none.
func TestLatest(t *testing.T) {
	d, s := made(t, 0, batch(0), batch(1))
	has(t, "no records", d, s, 0, batch(0), batch(1))
	d, s = made(t, 0, batch(0), batch(1, 0))
	has(t, "Time 0", d, s, 0, batch(0), batch(1, 0))
	l := []api.Batch{batch(0, 3), batch(1, 4, api.MaxTime, 2), batch(4), batch(5, 6)}
	d, s = made(t, 0, l...)
	has(t, "MaxTime", d, s, 0, l...)
}

// spread is batches with holes ahead of them, between them, and in them.
func spread() []api.Batch {
	return []api.Batch{batch(10, 1, 2, 3), batch(13, 4), {Base: 20, End: 25}, {Base: 25, End: 40, Records: []api.Record{{Offset: 30, Value: "x"}}}, batch(50, 9, 9)}
}

// wanted is what Read has to tell.
func wanted(t *testing.T, all []api.Batch, from, most int) []api.Batch {
	var l []api.Batch
	sum := 0
	for _, x := range all {
		if x.End <= from {
			continue
		}
		sum += size(t, x)
		if len(l) > 0 && sum > most {
			break
		}
		l = append(l, x)
	}
	return l
}

func TestRead(t *testing.T) {
	l := spread()
	_, s := made(t, 5, l...)
	if got, err := s.Read(13, size(t, l[1:3]...)); err != nil || !same(got, l[1:3]) {
		t.Fatalf("Read from 13 of two batches: %v, %v", got, err)
	}
	if got, err := s.Read(13, size(t, l[1:3]...)-1); err != nil || !same(got, l[1:2]) {
		t.Fatalf("Read from 13 of one byte less: %v, %v", got, err)
	}
	if got, err := s.Read(12, 0); err != nil || !same(got, l[:1]) {
		t.Fatalf("Read from 12 of nothing: %v, %v", got, err)
	}
	for _, from := range []int{math.MinInt, -1, 0, 5, 9, 10, 12, 13, 14, 19, 20, 24, 25, 31, 39, 40, 49, 50, 51, 52, 53, math.MaxInt} {
		for most := -1; most <= s.Size()+1; most++ {
			if got, err := s.Read(from, most); err != nil || !same(got, wanted(t, l, from, most)) {
				t.Errorf("Read(%d, %d) is %v, %v", from, most, got, err)
			}
		}
		for _, most := range []int{math.MinInt, math.MaxInt} {
			if got, err := s.Read(from, most); err != nil || !same(got, wanted(t, l, from, most)) {
				t.Errorf("Read(%d, %d) is %v, %v", from, most, got, err)
			}
		}
	}
}

// A great batch ends what is read, even where a small one is behind it.
func TestReadStops(t *testing.T) {
	l := []api.Batch{batch(0, 1), batch(1, 1, 2, 3, 4, 5), batch(6, 1)}
	_, s := made(t, 0, l...)
	if got, err := s.Read(0, size(t, l[0], l[2])); err != nil || !same(got, l[:1]) {
		t.Errorf("Read of the first and the last one's bytes: %v, %v", got, err)
	}
}

func TestReadOfNone(t *testing.T) {
	d, s := made(t, 7)
	if l, err := s.Read(0, 1000); len(l) != 0 || err != nil {
		t.Errorf("Read of an empty one: %v, %v", l, err)
	}
	d.Fail(0)
	if l, err := s.Read(7, 1000); len(l) != 0 || err != nil {
		t.Errorf("Read of an empty one on a disk that fails: %v, %v", l, err)
	}
}

func TestReadIsFresh(t *testing.T) {
	d, s := made(t, 10, spread()...)
	x, _ := s.Read(0, 10_000)
	y, _ := s.Read(0, 10_000)
	clear(x[0].Records)
	clear(x)
	if !same(y, spread()) {
		t.Errorf("two answers share memory: %v", y)
	}
	has(t, "behind a change of what came out", d, s, 10, spread()...)
}

func TestReadSpoilt(t *testing.T) {
	l := spread()
	name := segment.Name("s", 10)
	changed := slices.Clone(l)
	changed[3].Records = []api.Record{{Offset: 30, Value: "y"}}
	bit := encoded(t, l...)
	bit[size(t, l[:3]...)+12] ^= 4
	for what, b := range map[string][]byte{
		"cut in it":                 encoded(t, l...)[:size(t, l[:4]...)-1],
		"a bit turned":              bit,
		"another batch, as great":   encoded(t, changed...),
		"cut ahead of it":           encoded(t, l[:3]...),
		"bytes ahead of it":         append([]byte{0}, encoded(t, l...)...),
		"other batches ahead of it": encoded(t, batch(10, 1), l[1], l[2], l[3]),
	} {
		d, s := made(t, 10, l...)
		told(t, "disk.Cut", d.Cut(name, 0), api.OK)
		told(t, "disk.Add", d.Add(name, b), api.OK)
		got, err := s.Read(26, 0)
		told(t, what, err, api.ErrSpoilt)
		if got != nil {
			t.Errorf("%s: %v beside an error", what, got)
		}
		got, err = s.Read(0, 10_000)
		told(t, what+": Read of all", err, api.ErrSpoilt)
		if got != nil {
			t.Errorf("%s: Read of all: %v beside an error", what, got)
		}
		if bytes.HasPrefix(b, encoded(t, l[:3]...)) {
			got, err = s.Read(0, size(t, l[:3]...))
			if err != nil || !same(got, l[:3]) {
				t.Errorf("%s: Read of what is there yet: %v, %v", what, got, err)
			}
		}
		s.Since(0)
	}
}

func TestSince(t *testing.T) {
	_, s := made(t, 0, batch(0), batch(1, 5, 3), batch(3), batch(4, 4, 8, 8), batch(7, 2), batch(8, 9, 7), batch(10))
	for time, want := range map[int]int{math.MinInt: 1, -1: 1, 0: 1, 3: 1, 5: 1, 6: 5, 8: 5, 9: 8} {
		if got, ok := s.Since(time); got != want || !ok {
			t.Errorf("Since(%d) is %d, %v, want %d", time, got, ok, want)
		}
	}
	for _, time := range []int{10, api.MaxTime, math.MaxInt} {
		if got, ok := s.Since(time); got != 0 || ok {
			t.Errorf("Since(%d) is %d, %v", time, got, ok)
		}
	}
	_, s = made(t, 0, batch(0), batch(1))
	for _, time := range []int{math.MinInt, -1, 0, 1} {
		if got, ok := s.Since(time); got != 0 || ok {
			t.Errorf("Since(%d), where there are no records: %d, %v", time, got, ok)
		}
	}
	_, s = made(t, 0, batch(0, 5, api.MaxTime))
	if got, ok := s.Since(api.MaxTime); got != 1 || !ok {
		t.Errorf("Since(MaxTime) is %d, %v", got, ok)
	}
}

// Read and Since as the words say it, of batches that look drawn; the same behind Open.
func TestAgainstTheWords(t *testing.T) {
	r := rand.New(rand.NewSource(5))
	for range 100 {
		base := r.Intn(20)
		d, s := made(t, base)
		var l []api.Batch
		for range r.Intn(8) {
			x := api.Batch{Base: s.Next() + r.Intn(3)}
			x.End = x.Base + 1 + r.Intn(5)
			for o := x.Base; o < x.End; o++ {
				if r.Intn(3) > 0 {
					x.Records = append(x.Records, api.Record{Offset: o, Time: r.Intn(20), Value: strings.Repeat("v", r.Intn(9))})
				}
			}
			told(t, "Add", s.Add(x), api.OK)
			l = append(l, x)
			if r.Intn(4) == 0 {
				s, _, _ = segment.Open(d, "s", base)
			}
		}
		has(t, "drawn", d, s, base, l...)
		for time := -1; time <= 20; time++ {
			want, found := 0, false
			for _, x := range l {
				for _, y := range x.Records {
					if !found && y.Time >= time {
						want, found = y.Offset, true
					}
				}
			}
			if got, ok := s.Since(time); got != want || ok != found {
				t.Fatalf("Since(%d) of %v is %d, %v", time, l, got, ok)
			}
		}
		for range 50 {
			from, most := r.Intn(50), r.Intn(200)
			if got, err := s.Read(from, most); err != nil || !same(got, wanted(t, l, from, most)) {
				t.Fatalf("Read(%d, %d) of %v is %v, %v", from, most, l, got, err)
			}
		}
	}
}

func TestSync(t *testing.T) {
	x, y := batch(0, 1), batch(1, 2)
	d, s := made(t, 0, x)
	told(t, "Sync", s.Sync(), api.OK)
	told(t, "Add", s.Add(y), api.OK)
	d.Crash([]byte{9})
	s, lost, err := segment.Open(d, "s", 0)
	if lost != 9 || err != nil {
		t.Fatalf("Open behind a crash: %d, %v", lost, err)
	}
	has(t, "behind a crash", d, s, 0, x)
	d.Fail(0)
	told(t, "Sync on a disk that fails", s.Sync(), api.ErrDevice)
}

func TestRemove(t *testing.T) {
	d, s := made(t, 0, batch(0, 1))
	d.Fail(0)
	told(t, "Remove on a disk that fails", s.Remove(), api.ErrDevice)
	has(t, "behind an error", d, s, 0, batch(0, 1))
	d.Crash(nil)
	other, err := segment.Make(d, "s", 1)
	told(t, "Make", err, api.OK)
	told(t, "Remove", s.Remove(), api.OK)
	files(t, "removed", d, "s/0000000001.log")
	told(t, "Remove again", s.Remove(), api.ErrMissing)
	told(t, "Sync of what is gone", s.Sync(), api.ErrMissing)
	told(t, "Add to what is gone", s.Add(batch(1, 1)), api.ErrMissing)
	_, err = s.Read(0, 10)
	told(t, "Read of what is gone", err, api.ErrSpoilt)
	s.Since(0)
	has(t, "another one", d, other, 1)
}

// Promise 3.3: Rewrite.

func TestRewrite(t *testing.T) {
	old := []api.Batch{batch(7, 5, 3), batch(9, 900), batch(10, 1)}
	for what, l := range map[string][]api.Batch{
		"nothing":           nil,
		"all of them":       old,
		"fewer records":     {{Base: 7, End: 9, Records: old[0].Records[1:]}, {Base: 9, End: 10}, old[2]},
		"fewer batches":     old[1:2],
		"others, and more":  {batch(8, 3, 4, 5), batch(11, 6), batch(20, 7), batch(30, 2000)},
		"without a record":  {{Base: 7, End: 11}},
		"one, far from all": {batch(1000, 1)},
	} {
		d, s := made(t, 7, old...)
		told(t, what, s.Rewrite(l), api.OK)
		has(t, what, d, s, 7, l...)
		files(t, what, d, "s/0000000007.log")
		d.Crash(nil)
		has(t, what+": all is safe", d, s, 7, l...)
		more := batch(s.Next(), 4)
		told(t, what+": Add", s.Add(more), api.OK)
		has(t, what+", and one more", d, s, 7, append(slices.Clone(l), more)...)
		told(t, what+": Rewrite again", s.Rewrite(old), api.OK)
		has(t, what+", and again", d, s, 7, old...)
	}
}

// stays fails, unless a Rewrite tells that, and all is as it was.
func stays(t *testing.T, what string, d *disk.Disk, s *segment.Segment, l []api.Batch, want api.Errno, old ...api.Batch) {
	t.Helper()
	before, used := d.List(""), d.Used()
	told(t, what, s.Rewrite(l), want)
	has(t, what, d, s, s.Base(), old...)
	files(t, what, d, before...)
	if d.Used() != used {
		t.Errorf("%s: %d bytes are used, want %d", what, d.Used(), used)
	}
}

func TestRewriteErrors(t *testing.T) {
	old := []api.Batch{batch(7, 5, 3), batch(9, 900)}
	d, s := made(t, 7, old...)
	stays(t, "ahead of Base", d, s, []api.Batch{batch(6, 1)}, api.ErrOrder, old...)
	stays(t, "ahead of the one ahead", d, s, []api.Batch{batch(7, 1), batch(7, 1)}, api.ErrOrder, old...)
	stays(t, "a Time below 0", d, s, []api.Batch{batch(7, 1), batch(8, -1)}, api.ErrRange, old...)
	stays(t, "an empty batch", d, s, []api.Batch{batch(7, 1), {Base: 8, End: 8}}, api.ErrArg, old...)
	stays(t, "too many records", d, s, []api.Batch{{Base: 7, End: 8 + api.MaxRecords}}, api.ErrLimit, old...)
	stays(t, "the first one's error", d, s, []api.Batch{batch(7, -1), batch(6, 1)}, api.ErrRange, old...)
	fill(t, d)
	stays(t, "MaxFiles", d, s, old, api.ErrLimit, old...)
	told(t, "disk.Remove", d.Remove(d.List("fill")[0]), api.OK)
	told(t, "Rewrite beside one file less", s.Rewrite(old[:1]), api.OK)
	has(t, "beside one file less", d, s, 7, old[0])
}

func TestRewriteFull(t *testing.T) {
	old := []api.Batch{batch(0, 1, 2, 3, 4), batch(4, 5)}
	l := []api.Batch{batch(0, 1), batch(1, 2), batch(2, 3)}
	need := size(t, old...) + 10 + size(t, l...)
	for _, less := range []int{0, 1, size(t, l[2]), size(t, l[2]) + 1, size(t, l...)} {
		d := room(t, need-less)
		s, err := segment.Make(d, "s", 0)
		told(t, "Make", err, api.OK)
		for _, x := range old {
			told(t, "Add", s.Add(x), api.OK)
		}
		laid(t, d, "other", make([]byte, 10))
		if less > 0 {
			stays(t, fmt.Sprint(less, " bytes too few"), d, s, l, api.ErrFull, old...)
			continue
		}
		told(t, "Rewrite up to the room", s.Rewrite(l), api.OK)
		has(t, "Rewrite up to the room", d, s, 0, l...)
		if d.Used() != 10+size(t, l...) {
			t.Errorf("%d bytes are used", d.Used())
		}
	}
	d := room(t, size(t, old...))
	s, err := segment.Make(d, "s", 0)
	told(t, "Make", err, api.OK)
	for _, x := range old {
		told(t, "Add", s.Add(x), api.OK)
	}
	told(t, "Rewrite to nothing on a full disk", s.Rewrite(nil), api.OK)
	has(t, "Rewrite to nothing on a full disk", d, s, 0)
}

// Where a segment may have its name, it may be rewritten.
func TestRewriteOfLongNames(t *testing.T) {
	for _, base := range []int{7, api.MaxTime - 1} {
		d := room(t, 1000)
		dir := strings.Repeat("a", api.MaxName-len(segment.Name("", base)))
		s, err := segment.Make(d, dir, base)
		told(t, "Make", err, api.OK)
		told(t, "Rewrite", s.Rewrite([]api.Batch{batch(base, 1)}), api.OK)
		files(t, "Rewrite", d, segment.Name(dir, base))
	}
}

// Segments of one directory, and of others, stay as they are.
func TestRewriteIsOfOne(t *testing.T) {
	d, s := made(t, 7, batch(7, 5))
	other, err := segment.Make(d, "s", 8)
	told(t, "Make", err, api.OK)
	_, err = segment.Make(d, "s2", 7)
	told(t, "Make", err, api.OK)
	told(t, "Add", other.Add(batch(8, 6)), api.OK)
	told(t, "Rewrite", s.Rewrite(nil), api.OK)
	has(t, "rewritten", d, s, 7)
	has(t, "another one", d, other, 8, batch(8, 6))
	files(t, "rewritten", d, "s/0000000007.log", "s/0000000008.log", "s2/0000000007.log")
}

func TestRewriteKeepsNothingThatCameIn(t *testing.T) {
	l := []api.Batch{batch(0, 5, 3), batch(2, 1)}
	d, s := made(t, 0)
	told(t, "Rewrite", s.Rewrite(l), api.OK)
	if !same(l, []api.Batch{batch(0, 5, 3), batch(2, 1)}) {
		t.Errorf("Rewrite changed what came in: %v", l)
	}
	clear(l[0].Records)
	clear(l)
	has(t, "behind a change of what came in", d, s, 0, batch(0, 5, 3), batch(2, 1))
}

// left fails, if a disk has other files than a segment's, and such as a crash may leave.
func left(t *testing.T, what string, d *disk.Disk, name string) {
	t.Helper()
	for _, f := range d.List("") {
		if f != name && !strings.HasSuffix(f, ".new") {
			t.Errorf("%s: there is %q", what, f)
		}
	}
}

// Whenever the disk fails, and whatever a crash leaves of what was not safe, there are the old batches, or the new ones.
func TestRewriteCrashes(t *testing.T) {
	old := []api.Batch{batch(7, 5, 3), batch(9, 900), batch(10, 1)}
	for _, l := range [][]api.Batch{nil, {{Base: 7, End: 9, Records: old[0].Records[1:]}, old[2]}, {batch(7, 1), batch(8, 2), batch(9, 3), batch(20, 4)}} {
		for _, fates := range [][]byte{nil, {1}, {0, 30}, {255}} {
			done := false
			for n := 0; !done; n++ {
				what := fmt.Sprint("Fail ", n, ", fates ", fates, ", of ", len(l))
				d, s := made(t, 7, old...)
				told(t, what+": Sync", s.Sync(), api.OK)
				d.Fail(n)
				err := s.Rewrite(l)
				done = err == nil
				want := old
				if done {
					want = l
				} else {
					told(t, what, err, api.ErrDevice)
				}
				has(t, what, d, s, 7, want...)
				left(t, what, d, "s/0000000007.log")
				d.Crash(fates)
				again, lost, err := segment.Open(d, "s", 7)
				if lost != 0 || err != nil {
					t.Fatalf("%s: Open: %d, %v", what, lost, err)
				}
				has(t, what+": opened anew", d, again, 7, want...)
				left(t, what+": opened anew", d, "s/0000000007.log")
				// What the crash left is in nobody's way.
				told(t, what+": Rewrite again", again.Rewrite(old[1:]), api.OK)
				has(t, what+": Rewrite again", d, again, 7, old[1:]...)
				files(t, what+": Rewrite again", d, "s/0000000007.log")
				if n > 100 {
					t.Fatalf("%s: there is no end", what)
				}
			}
		}
	}
}

// A disk that fails just when what was begun is taken away is told of: a file is left then.
func TestRewriteFailsWhileItEnds(t *testing.T) {
	old := []api.Batch{batch(7, 5)}
	for n := range 8 {
		d, s := made(t, 7, old...)
		d.Fail(n)
		err := s.Rewrite([]api.Batch{batch(7, 1), batch(8, 2), batch(8, 3)})
		has(t, fmt.Sprint("Fail ", n), d, s, 7, old...)
		if api.Tell(err) == api.ErrDevice {
			left(t, fmt.Sprint("Fail ", n), d, "s/0000000007.log")
			continue
		}
		told(t, fmt.Sprint("Fail ", n), err, api.ErrOrder)
		files(t, fmt.Sprint("Fail ", n), d, "s/0000000007.log")
	}
}

// A segment whose Rewrite failed goes on, if the disk does.
func TestRewriteBehindAFailure(t *testing.T) {
	old := []api.Batch{batch(7, 5)}
	for n := range 5 {
		d, s := made(t, 7, old...)
		d.Fail(n)
		if s.Rewrite([]api.Batch{batch(7, 1)}) == nil {
			continue
		}
		d.Fail(0)
		told(t, "Rewrite on a disk that fails yet", s.Rewrite(nil), api.ErrDevice)
		has(t, fmt.Sprint("Fail ", n), d, s, 7, old...)
		d.Fail(-1)
		told(t, "Add", s.Add(batch(8, 6)), api.OK)
		has(t, fmt.Sprint("Fail ", n, ", Add"), d, s, 7, batch(7, 5), batch(8, 6))
		told(t, "Rewrite", s.Rewrite([]api.Batch{batch(8, 6)}), api.OK)
		has(t, fmt.Sprint("Fail ", n, ", Rewrite"), d, s, 7, batch(8, 6))
		files(t, fmt.Sprint("Fail ", n, ", Rewrite"), d, "s/0000000007.log")
	}
}

func Example() {
	d, _ := disk.New(1000)
	s, _ := segment.Make(d, "a-0", 7)
	s.Add(api.Batch{Base: 7, End: 8, Records: []api.Record{{Offset: 7, Time: 3, Value: "xy"}}})
	s.Sync()
	s.Add(api.Batch{Base: 8, End: 9, Records: []api.Record{{Offset: 8, Time: 4, Value: "z"}}})
	d.Crash([]byte{5})
	s, lost, _ := segment.Open(d, "a-0", 7)
	l, _ := s.Read(7, 100)
	fmt.Println(lost, s.Next(), len(l), l[0].Records[0].Value)
	// Output: 5 8 1 xy
}
