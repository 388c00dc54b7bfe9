package topics_test

import (
	"fmt"
	"math"
	"slices"
	"strings"
	"testing"

	"conveyor/api"
	"conveyor/disk"
	"conveyor/plain"
	"conveyor/plog"
	"conveyor/record"
	"conveyor/segment"
	"conveyor/topics"
)

// never is a configuration of small segments, by which Retain takes nothing.
var never = topics.Config{Segment: 100, Age: -1, Bytes: -1}

// told fails, unless an error is that Errno, without a place.
func told(t *testing.T, what string, err error, want api.Errno) {
	t.Helper()
	if got, bare := plain.Bare(err); got != want || !bare || (err == nil) != (want == api.OK) {
		t.Errorf("%s: %v, want Errno %d, bare", what, err, int(want))
	}
}

// room is a disk of so many bytes.
func room(t *testing.T, n int) *disk.Disk {
	t.Helper()
	d, err := disk.New(n)
	if err != nil {
		t.Fatalf("New(%d): %v", n, err)
	}
	return d
}

// opened is a store of a disk.
func opened(t *testing.T, d *disk.Disk, c topics.Config) *topics.Store {
	t.Helper()
	s, err := topics.Open(d, c)
	if err != nil || s == nil {
		t.Fatalf("Open, %v: %v", c, err)
	}
	return s
}

// create makes topics.
func create(t *testing.T, s *topics.Store, l ...api.Topic) {
	t.Helper()
	for _, x := range l {
		if err := s.Create(x); err != nil {
			t.Fatalf("Create of %v: %v", x, err)
		}
	}
}

// log is a partition's.
func log(t *testing.T, s *topics.Store, topic string, part int) *plog.Log {
	t.Helper()
	l, err := s.Log(topic, part)
	if err != nil || l == nil {
		t.Fatalf("Log of %s, %d: %v", topic, part, err)
	}
	return l
}

// small is a record without a key; a batch of it has 19 bytes (while all its numbers are small), so that five of them are in a segment of 100.
func small(time int) api.Record {
	return api.Record{Time: time, Value: "four"}
}

// keyed is a record of a key.
func keyed(key string, time int) api.Record {
	return api.Record{Time: time, Keyed: true, Key: key, Value: "v"}
}

// gone is a tombstone of a key.
func gone(key string, time int) api.Record {
	return api.Record{Time: time, Keyed: true, Key: key, Gone: true}
}

// add puts records into a partition, each as a batch.
func add(t *testing.T, s *topics.Store, topic string, part int, records ...api.Record) {
	t.Helper()
	l := log(t, s, topic, part)
	for _, r := range records {
		if _, err := l.Add([]api.Record{r}); err != nil {
			t.Fatalf("Add to %s, %d: %v", topic, part, err)
		}
	}
}

// smalls puts so many small records into a partition, of the times 0, 1 ..
func smalls(t *testing.T, s *topics.Store, topic string, part, n int) {
	t.Helper()
	for k := range n {
		add(t, s, topic, part, small(k))
	}
}

// numbers fails, unless a partition's log has these: Start, End, Safe, and the bases of its segments.
func numbers(t *testing.T, what string, s *topics.Store, topic string, part, start, end, safe int, bases ...int) {
	t.Helper()
	l := log(t, s, topic, part)
	if l.Start() != start || l.End() != end || l.Safe() != safe || !slices.Equal(l.Segments(), bases) {
		t.Errorf("%s: %s, %d: Start %d, End %d, Safe %d, Segments %v; want %d, %d, %d, %v", what, topic, part,
			l.Start(), l.End(), l.Safe(), l.Segments(), start, end, safe, bases)
	}
}

// laid makes a file with bytes.
func laid(t *testing.T, d *disk.Disk, name, b string) {
	t.Helper()
	told(t, "disk.Make "+name, d.Make(name), api.OK)
	told(t, "disk.Add "+name, d.Add(name, []byte(b)), api.OK)
}

// content is a file's bytes.
func content(d *disk.Disk, name string) string {
	return string(d.Read(name, 0, math.MaxInt))
}

// lists fails, unless the file of the list has just this.
func lists(t *testing.T, what string, d *disk.Disk, want string) {
	t.Helper()
	if got := content(d, "topics"); got != want || d.Size("topics") < 0 {
		t.Errorf("%s: the list is %q (%d bytes), want %q", what, got, d.Size("topics"), want)
	}
}

// files fails, unless a disk has just the files of these names.
func files(t *testing.T, what string, d *disk.Disk, want ...string) {
	t.Helper()
	if got := d.List(""); !slices.Equal(got, want) {
		t.Errorf("%s: there are %q, want %q", what, got, want)
	}
}

// are fails, unless a store has just these topics, in this order.
func are(t *testing.T, what string, s *topics.Store, want ...api.Topic) {
	t.Helper()
	if got := s.Topics(); !slices.Equal(got, want) {
		t.Errorf("%s: topics are %v, want %v", what, got, want)
	}
}

// fill makes files until there are so many.
func fill(t *testing.T, d *disk.Disk, n int) {
	t.Helper()
	for k := len(d.List("")); k < n; k++ {
		told(t, "disk.Make", d.Make(fmt.Sprint("fill", k)), api.OK)
	}
}

// spill takes away what fill made.
func spill(t *testing.T, d *disk.Disk) {
	t.Helper()
	for _, name := range d.List("fill") {
		told(t, "disk.Remove", d.Remove(name), api.OK)
	}
}

// view is all that a disk has, and a store tells.
func view(d *disk.Disk, s *topics.Store) string {
	b := fmt.Sprint(s.Topics())
	for _, name := range d.List("") {
		b += fmt.Sprintf(" %s: %q", name, content(d, name))
	}
	return b
}

var (
	one  = api.Topic{Name: "one", Parts: 1}
	two  = api.Topic{Name: "two", Parts: 2, Compact: true}
	four = api.Topic{Name: "4", Parts: 4}
)

// Promise 5.1: Name.

func TestName(t *testing.T) {
	for _, s := range []string{"a", "z", "0", "9", "topics", "abcdefghij", "0123456789", "klmnopqrst", "uvwxyz"} {
		if !topics.Name(s) {
			t.Errorf("%q is a name", s)
		}
	}
	for _, s := range []string{"", "abcdefghijk", "A", "aB", "a-", "-a", "a.b", "a/b", "a b", " a", "a ", "a\n", "a\x00", "ä", "\xff", strings.Repeat("a", 1000)} {
		if topics.Name(s) {
			t.Errorf("%q is no name", s)
		}
	}
	for c := range 256 {
		want := c >= 'a' && c <= 'z' || c >= '0' && c <= '9'
		if s := string([]byte{'a', byte(c)}); topics.Name(s) != want {
			t.Errorf("%q: %v", s, !want)
		}
	}
}

// Promise 5.1: Open.

func TestOpenOfNothing(t *testing.T) {
	d := room(t, 0)
	s := opened(t, d, never)
	are(t, "nothing", s)
	files(t, "nothing", d)
}

func TestOpenRange(t *testing.T) {
	for _, n := range []int{99, 0, -1, math.MinInt, api.MaxDisk + 1, math.MaxInt} {
		d := room(t, 1000)
		laid(t, d, "topics", "no list")
		laid(t, d, "junk", "z")
		d.Fail(0)
		s, err := topics.Open(d, topics.Config{Segment: n})
		told(t, fmt.Sprint("Segment ", n), err, api.ErrRange)
		if s != nil {
			t.Errorf("Segment %d: a store beside an error", n)
		}
		files(t, fmt.Sprint("Segment ", n), d, "junk", "topics")
	}
	for _, n := range []int{100, api.MaxDisk} {
		for _, k := range []int{math.MinInt, -1, 0, math.MaxInt} {
			_, err := topics.Open(room(t, 1000), topics.Config{Segment: n, Age: k, Bytes: k})
			told(t, fmt.Sprint("Segment ", n, ", ", k), err, api.OK)
		}
	}
	_, err := topics.Open(nil, topics.Config{Segment: 99})
	told(t, "no disk", err, api.ErrRange)
}

// A disk that is not there has no files, and does nothing.
func TestNoDisk(t *testing.T) {
	s := opened(t, nil, never)
	are(t, "no disk", s)
	told(t, "Create", s.Create(one), api.ErrDevice)
	told(t, "Create again", s.Create(one), api.ErrState)
}

// Segments are of Segment bytes.
func TestSegments(t *testing.T) {
	for _, c := range []struct{ segment, want int }{{100, 3}, {200, 2}, {300, 1}} {
		s := opened(t, room(t, 10_000), topics.Config{Segment: c.segment, Age: -1, Bytes: -1})
		create(t, s, two)
		smalls(t, s, "two", 1, 11)
		if n := len(log(t, s, "two", 1).Segments()); n != c.want {
			t.Errorf("of %d bytes: %d segments, want %d", c.segment, n, c.want)
		}
		if got := log(t, s, "two", 0).Segments(); !slices.Equal(got, []int{0}) {
			t.Errorf("the other partition's segments are %v", got)
		}
	}
}

// The list as it lies in its file.
func TestList(t *testing.T) {
	d := room(t, 100_000)
	s := opened(t, d, never)
	create(t, s, two)
	lists(t, "a topic", d, "two 1 0 0\n")
	smalls(t, s, "two", 1, 17)
	told(t, "Forget", log(t, s, "two", 1).Forget(12), api.OK)
	lists(t, "ahead of the next time that it is written", d, "two 1 0 0\n")
	create(t, s, four)
	lists(t, "two topics", d, "two 1 0 12\n4 0 0 0 0 0\n")
	create(t, s, one)
	lists(t, "three topics", d, "two 1 0 12\n4 0 0 0 0 0\none 0 0\n")
	told(t, "Drop", s.Drop("4"), api.OK)
	lists(t, "one less", d, "two 1 0 12\none 0 0\n")
	create(t, s, four)
	lists(t, "made anew", d, "two 1 0 12\none 0 0\n4 0 0 0 0 0\n")
	are(t, "made anew", s, two, one, four)
	files(t, "made anew", d, "4-0/0000000000.log", "4-1/0000000000.log", "4-2/0000000000.log", "4-3/0000000000.log",
		"one-0/0000000000.log", "topics", "two-0/0000000000.log", "two-1/0000000010.log", "two-1/0000000015.log")
	s = opened(t, d, never)
	lists(t, "opened anew", d, "two 1 0 12\none 0 0\n4 0 0 0 0 0\n")
	are(t, "opened anew", s, two, one, four)
	numbers(t, "opened anew", s, "two", 1, 12, 17, 17, 10, 15)
	for _, x := range []string{"4", "two", "one"} {
		told(t, "Drop", s.Drop(x), api.OK)
	}
	lists(t, "none", d, "")
	files(t, "none", d, "topics")
}

// The list is not there until it is written, and Open does not write it.
func TestListAtFirst(t *testing.T) {
	d := room(t, 100)
	s := opened(t, d, never)
	files(t, "opened", d)
	told(t, "Save", s.Save(), api.OK)
	files(t, "saved", d, "topics")
	lists(t, "saved", d, "")
}

func TestOpenReadsTheList(t *testing.T) {
	ten, most := "", []api.Topic(nil)
	for k := range api.MaxTopics {
		name := fmt.Sprint("t", k)
		ten += name + " 1 0\n"
		most = append(most, api.Topic{Name: name, Parts: 1, Compact: true})
	}
	long := api.Topic{Name: "abcdefghij", Parts: 4, Compact: true}
	for _, c := range []struct {
		list string
		want []api.Topic
	}{
		{"", nil},
		{"one 0 0\n", []api.Topic{one}},
		{"one 0 0", []api.Topic{one}},
		{"two 1 0 5\none 0 7\n4 0 1 2 3 4\n", []api.Topic{two, one, four}},
		{"two 1 0 5\none 0 7\n4 0 1 2 3 4", []api.Topic{two, one, four}},
		{"abcdefghij 1 0 1 10 1099511627776\n", []api.Topic{long}},
		{ten, most},
	} {
		d := room(t, 1000)
		laid(t, d, "topics", c.list)
		s := opened(t, d, never)
		are(t, c.list, s, c.want...)
		lists(t, c.list, d, c.list)
		n := 1
		for _, x := range c.want {
			n += x.Parts
			for part := range x.Parts {
				log(t, s, x.Name, part)
			}
		}
		if len(d.List("")) != n {
			t.Errorf("%q: there are %q", c.list, d.List(""))
		}
	}
}

// A partition without a segment begins where the list tells, others have there what the list tells at least, and END at most.
func TestOpenBeginsWhereTheListTells(t *testing.T) {
	d := room(t, 10_000)
	s := opened(t, d, never)
	create(t, s, four)
	for part := range 3 {
		smalls(t, s, "4", part, 7)
	}
	told(t, "Forget", log(t, s, "4", 1).Forget(6), api.OK)
	told(t, "disk.Remove", d.Remove("topics"), api.OK)
	laid(t, d, "topics", "4 0 3 0 9 8")
	told(t, "disk.Remove", d.Remove("4-3/0000000000.log"), api.OK)
	s = opened(t, d, never)
	numbers(t, "ahead of END", s, "4", 0, 3, 7, 7, 0, 5)
	numbers(t, "ahead of the first segment", s, "4", 1, 5, 7, 7, 5)
	numbers(t, "behind END", s, "4", 2, 7, 7, 7, 0, 5)
	numbers(t, "no segment", s, "4", 3, 8, 8, 8, 8)
}

func TestOpenSpoilt(t *testing.T) {
	eleven := ""
	for k := range api.MaxTopics + 1 {
		eleven += fmt.Sprint("t", k, " 0 0\n")
	}
	for _, list := range []string{
		"\n", " ", "one", "one\n", "one 0", "one 0\n", "one 0 \n", "one 0 0 \n", " one 0 0\n", "one  0 0\n", "one 0  0\n", "one\t0\t0\n",
		"One 0 0\n", "o-e 0 0\n", "abcdefghijk 0 0\n", " 0 0\n", "one 0 0\r\n", "one 0 0\x00\n", "one 0 0,one 0 0\n",
		"one 2 0\n", "one -1 0\n", "one 00 0\n", "one 01 0\n", "one x 0\n", "one true 0\n",
		"one 0 -1\n", "one 0 -0\n", "one 0 +1\n", "one 0 x\n", "one 0 1x\n", "one 0 0x1\n", "one 0 1_0\n", "one 0 1.0\n", "one 0 1e3\n", "one 0 \u0661\n",
		"one 0 00\n", "one 0 07\n", "one 0 1099511627777\n", "one 0 99999999999999999999\n",
		"one 0 0 0 0 0 0\n", "one 0 0 0 0 0 x\n", "one 0 0 -1\n",
		"one 0 0\n\n", "\none 0 0\n", "one 0 0\n\ntwo 0 0\n", "one 0 0\ntwo", "one 0 0\ntwo 1 0 5\nthree 3 0\n", "one 0 0\none 0 0\n", "one 0 0\ntwo 0 0\none 1 0 0",
		eleven, strings.Repeat("9", 5000), strings.Repeat("one 0 0\n", 500),
	} {
		d := room(t, 10_000)
		laid(t, d, "topics", list)
		laid(t, d, "one-0/0000000000.log", "z")
		laid(t, d, "junk", "z")
		d.Fail(0)
		s, err := topics.Open(d, never)
		told(t, fmt.Sprintf("%.80q", list), err, api.ErrSpoilt)
		if s != nil {
			t.Errorf("%.80q: a store beside an error", list)
		}
		files(t, fmt.Sprintf("%.80q", list), d, "junk", "one-0/0000000000.log", "topics")
	}
}

// All that is no list's, and no partition's, goes.
func TestOpenRemovesAllElse(t *testing.T) {
	d := room(t, 10_000)
	s := opened(t, d, never)
	create(t, s, two, one)
	add(t, s, "two", 1, small(1))
	add(t, s, "one", 0, small(2))
	for _, name := range []string{
		"topics.new", "topic", "topics-0/0000000000.log", "topics/x", "topics.", "one", "one-0", "one-1/0000000000.log", "one-00/0000000000.log", "one-0x/x",
		"on-0/0000000000.log", "ne-0/x", "two-2/0000000000.log", "two-10/x", "two-", "x-one-0/x", "z", "-", "/", "one/0/x",
		"one-0/0000000000.new", "one-0/x", "one-0/", "two-1/two-0/0000000000.log", "two-0/0000000000.lo",
	} {
		laid(t, d, name, "one 0 0\n")
	}
	s = opened(t, d, never)
	files(t, "opened anew", d, "one-0/0000000000.log", "topics", "two-0/0000000000.log", "two-1/0000000000.log")
	are(t, "opened anew", s, two, one)
	numbers(t, "opened anew", s, "two", 1, 0, 1, 1, 0)
	numbers(t, "opened anew", s, "one", 0, 0, 1, 1, 0)
	told(t, "disk.Remove", d.Remove("topics"), api.OK)
	are(t, "without a list", opened(t, d, never))
	files(t, "without a list", d)
}

// What is removed makes room ahead of opening partitions; where there is none even so, 4.1's error is told.
func TestOpenBesideMaxFiles(t *testing.T) {
	d := room(t, 10_000)
	laid(t, d, "topics", "4 0 0 0 0 0\n")
	fill(t, d, api.MaxFiles)
	s := opened(t, d, never)
	are(t, "beside files that go", s, four)
	d = room(t, 10_000)
	laid(t, d, "topics", "4 0 0 0 0 0\n")
	for k := range api.MaxFiles - 3 {
		laid(t, d, segment.Name("4-1", k), "")
	}
	s, err := topics.Open(d, never)
	told(t, "beside files that stay", err, api.ErrLimit)
	if s != nil {
		t.Errorf("a store beside an error")
	}
}

// Wherever the disk fails, Open tells it; opened anew behind a crash all is there.
func TestOpenOnADiskThatFails(t *testing.T) {
	for n := 0; ; n++ {
		d := room(t, 10_000)
		s := opened(t, d, never)
		create(t, s, two, one)
		smalls(t, s, "two", 1, 7)
		told(t, "Flush", s.Flush(), api.OK)
		laid(t, d, "topics.new", "two 1 0")
		laid(t, d, "three-0/0000000000.log", "z")
		laid(t, d, "two-0/x", "z")
		told(t, "disk.Add", d.Add("one-0/0000000000.log", []byte("z")), api.OK)
		d.Fail(n)
		s, err := topics.Open(d, never)
		if done := err == nil; done != (n >= 7) || done == (s == nil) {
			t.Fatalf("Fail(%d): %v, %v", n, s, err)
		}
		if err == nil {
			break
		}
		what := fmt.Sprint("Fail ", n)
		told(t, what, err, api.ErrDevice)
		d.Crash([]byte{3})
		s = opened(t, d, never)
		are(t, what, s, two, one)
		files(t, what, d, "one-0/0000000000.log", "topics", "two-0/0000000000.log", "two-1/0000000000.log", "two-1/0000000005.log")
		numbers(t, what, s, "two", 1, 0, 7, 7, 0, 5)
	}
}

// Promise 5.1: how the list is written.

// begun is a store of two topics, with records that are not safe, and where two-0 begins moved since the list was written.
func begun(t *testing.T, bytes int) (*disk.Disk, *topics.Store) {
	t.Helper()
	d := room(t, bytes)
	s := opened(t, d, never)
	create(t, s, two, one)
	smalls(t, s, "two", 0, 7)
	told(t, "Forget", log(t, s, "two", 0).Forget(6), api.OK)
	return d, s
}

// ErrLimit, just if there are MaxFiles: nothing is changed.
func TestWriteBesideMaxFiles(t *testing.T) {
	for what, do := range map[string]func(s *topics.Store) error{
		"Save": func(s *topics.Store) error { return s.Save() },
		"Drop": func(s *topics.Store) error { return s.Drop("two") },
	} {
		d, s := begun(t, 10_000)
		fill(t, d, api.MaxFiles)
		before := view(d, s)
		told(t, what, do(s), api.ErrLimit)
		if after := view(d, s); after != before {
			t.Errorf("%s: from %s to %s", what, before, after)
		}
		told(t, "disk.Remove", d.Remove(d.List("fill")[0]), api.OK)
		told(t, what+", with one file less", do(s), api.OK)
	}
}

// A topic's own files count, and the one in which the list is written.
func TestCreateBesideMaxFiles(t *testing.T) {
	for left := range 7 {
		d, s := begun(t, 10_000)
		fill(t, d, api.MaxFiles-left)
		before := view(d, s)
		err := s.Create(four)
		if left >= 5 {
			told(t, fmt.Sprint(left, " left"), err, api.OK)
			continue
		}
		told(t, fmt.Sprint(left, " left"), err, api.ErrLimit)
		if after := view(d, s); after != before {
			t.Errorf("%d left: from %s to %s", left, before, after)
		}
		spill(t, d)
		create(t, s, four)
	}
}

// ErrFull, just if all of the list has no room beside what there is, the list that was, too: nothing is changed.
func TestWriteFull(t *testing.T) {
	was, records := len("two 1 0 0\none 0 0\n"), 2*19
	for what, c := range map[string]struct {
		do   func(s *topics.Store) error
		list string
	}{
		"Save":   {func(s *topics.Store) error { return s.Save() }, "two 1 6 0\none 0 0\n"},
		"Create": {func(s *topics.Store) error { return s.Create(four) }, "two 1 6 0\none 0 0\n4 0 0 0 0 0\n"},
		"Drop":   {func(s *topics.Store) error { return s.Drop("one") }, "two 1 6 0\n"},
	} {
		d, s := begun(t, 1000)
		if d.Used() != was+records {
			t.Fatalf("there are %d bytes, want %d", d.Used(), was+records)
		}
		laid(t, d, "fill", strings.Repeat("z", 1000-d.Used()-len(c.list)+1))
		before := view(d, s)
		told(t, what, c.do(s), api.ErrFull)
		if after := view(d, s); after != before {
			t.Errorf("%s: from %s to %s", what, before, after)
		}
		told(t, "disk.Cut", d.Cut("fill", d.Size("fill")-1), api.OK)
		told(t, what+", with a byte less", c.do(s), api.OK)
		lists(t, what, d, c.list)
	}
}

// The list is safe when it is told that it is written, and no other file is left.
func TestTheListIsSafe(t *testing.T) {
	d, s := begun(t, 1000)
	told(t, "Save", s.Save(), api.OK)
	files(t, "Save", d, "one-0/0000000000.log", "topics", "two-0/0000000005.log", "two-1/0000000000.log")
	d.Crash(nil)
	lists(t, "behind a crash", d, "two 1 6 0\none 0 0\n")
}

// From an ErrDevice on a store is down, whatever told it, even where the disk does all again.
func TestDown(t *testing.T) {
	for what, do := range map[string]func(s *topics.Store) error{
		"Save":   func(s *topics.Store) error { return s.Save() },
		"Create": func(s *topics.Store) error { return s.Create(four) },
		"Drop":   func(s *topics.Store) error { return s.Drop("two") },
		"Clean":  func(s *topics.Store) error { _, err := s.Clean(0); return err },
		"Flush":  func(s *topics.Store) error { return s.Flush() },
	} {
		d, s := begun(t, 1000)
		d.Fail(0)
		told(t, what, do(s), api.ErrDevice)
		d.Fail(-1)
		before := view(d, s)
		told(t, what+": Save", s.Save(), api.ErrState)
		told(t, what+": Create", s.Create(four), api.ErrState)
		told(t, what+": Create of what is wrong", s.Create(api.Topic{}), api.ErrState)
		told(t, what+": Create twice", s.Create(one), api.ErrState)
		told(t, what+": Drop", s.Drop("one"), api.ErrState)
		told(t, what+": Drop of none", s.Drop("three"), api.ErrState)
		told(t, what+": Flush", s.Flush(), api.ErrState)
		n, err := s.Clean(10)
		told(t, what+": Clean", err, api.ErrState)
		for _, c := range []struct {
			topic string
			part  int
		}{{"one", 0}, {"one", 1}, {"three", 0}} {
			l, err := s.Log(c.topic, c.part)
			told(t, fmt.Sprint(what, ": Log of ", c), err, api.ErrState)
			if l != nil {
				t.Errorf("%s: a log beside ErrState", what)
			}
		}
		if n != 0 {
			t.Errorf("%s: %d beside ErrState", what, n)
		}
		if after := view(d, s); after != before {
			t.Errorf("%s: a store that is down changed from %s to %s", what, before, after)
		}
		are(t, what, s, two, one)
	}
}

// No other error makes it down.
func TestNotDown(t *testing.T) {
	d, s := begun(t, 1000)
	fill(t, d, api.MaxFiles)
	told(t, "Save", s.Save(), api.ErrLimit)
	told(t, "Create", s.Create(four), api.ErrLimit)
	told(t, "Create", s.Create(api.Topic{}), api.ErrName)
	told(t, "Drop", s.Drop("one"), api.ErrLimit)
	told(t, "Drop", s.Drop("three"), api.ErrMissing)
	_, err := s.Log("three", 0)
	told(t, "Log", err, api.ErrMissing)
	told(t, "Flush", s.Flush(), api.OK)
	spill(t, d)
	told(t, "Save", s.Save(), api.OK)
}

// Where a file can't be taken away either, for which the disk failed, it is down, too.
func TestDownByTakingAway(t *testing.T) {
	d, s := begun(t, 1000)
	laid(t, d, "fill", strings.Repeat("z", 1000-d.Used()))
	d.Fail(2)
	told(t, "Save", s.Save(), api.ErrDevice)
	told(t, "Save", s.Save(), api.ErrState)
	d, s = begun(t, 1000)
	fill(t, d, api.MaxFiles-2)
	d.Fail(5)
	told(t, "Create", s.Create(four), api.ErrDevice)
	told(t, "Create", s.Create(four), api.ErrState)
}

// Promise 5.2: Save, Topics.

func TestSave(t *testing.T) {
	d, s := begun(t, 1000)
	lists(t, "ahead of it", d, "two 1 0 0\none 0 0\n")
	told(t, "Save", s.Save(), api.OK)
	lists(t, "Save", d, "two 1 6 0\none 0 0\n")
	numbers(t, "Save", s, "two", 0, 6, 7, 5, 5)
	smalls(t, s, "one", 0, 4)
	told(t, "Forget", log(t, s, "one", 0).Forget(3), api.OK)
	told(t, "Save", s.Save(), api.OK)
	lists(t, "Save again", d, "two 1 6 0\none 0 3\n")
	told(t, "Save", s.Save(), api.OK)
	lists(t, "Save of the same", d, "two 1 6 0\none 0 3\n")
	told(t, "Flush", s.Flush(), api.OK)
	told(t, "Forget", log(t, s, "one", 0).Forget(4), api.OK)
	s = opened(t, d, never)
	numbers(t, "opened anew", s, "two", 0, 6, 7, 7, 5)
	numbers(t, "opened anew", s, "one", 0, 3, 4, 4, 0)
}

func TestTopicsAreFresh(t *testing.T) {
	_, s := begun(t, 1000)
	a, b := s.Topics(), s.Topics()
	clear(a[:cap(a)])
	if !slices.Equal(b, []api.Topic{two, one}) {
		t.Errorf("two answers share: %v", b)
	}
	are(t, "behind a change of what came out", s, two, one)
}

// Promise 5.2: Create.

func TestCreate(t *testing.T) {
	d := room(t, 1000)
	s := opened(t, d, never)
	for parts := 1; parts <= api.MaxParts; parts++ {
		create(t, s, api.Topic{Name: fmt.Sprint("t", parts), Parts: parts, Compact: parts%2 == 0})
	}
	are(t, "made", s, api.Topic{Name: "t1", Parts: 1}, api.Topic{Name: "t2", Parts: 2, Compact: true}, api.Topic{Name: "t3", Parts: 3}, api.Topic{Name: "t4", Parts: 4, Compact: true})
	for _, x := range s.Topics() {
		for part := range x.Parts {
			numbers(t, "made", s, x.Name, part, 0, 0, 0, 0)
			if name := segment.Name(fmt.Sprint(x.Name, "-", part), 0); d.Size(name) != 0 {
				t.Errorf("%s has %d bytes", name, d.Size(name))
			}
		}
	}
	if n := len(d.List("")); n != 11 {
		t.Errorf("there are %q", d.List(""))
	}
}

// refused fails, unless a Create tells an error, and all is as it was.
func refused(t *testing.T, d *disk.Disk, s *topics.Store, x api.Topic, want api.Errno) {
	t.Helper()
	before := view(d, s)
	told(t, fmt.Sprint("Create of ", x), s.Create(x), want)
	if after := view(d, s); after != before {
		t.Errorf("Create of %v: from %s to %s", x, before, after)
	}
}

func TestCreateErrors(t *testing.T) {
	d, s := begun(t, 1000)
	for _, name := range []string{"", "A", "abcdefghijk", "a-0", "a b", "a/"} {
		refused(t, d, s, api.Topic{Name: name, Parts: 1}, api.ErrName)
		refused(t, d, s, api.Topic{Name: name}, api.ErrName)
	}
	for _, parts := range []int{math.MinInt, -1, 0, api.MaxParts + 1, math.MaxInt} {
		refused(t, d, s, api.Topic{Name: "a", Parts: parts}, api.ErrRange)
		refused(t, d, s, api.Topic{Name: "one", Parts: parts}, api.ErrTwice)
	}
	refused(t, d, s, one, api.ErrTwice)
	refused(t, d, s, api.Topic{Name: "one", Parts: 3, Compact: true}, api.ErrTwice)
	for k := range api.MaxTopics - 2 {
		create(t, s, api.Topic{Name: fmt.Sprint("t", k), Parts: 1})
	}
	d.Fail(0)
	refused(t, d, s, api.Topic{Name: "a", Parts: 1}, api.ErrLimit)
	refused(t, d, s, api.Topic{Name: "a"}, api.ErrRange)
	refused(t, d, s, one, api.ErrTwice)
	refused(t, d, s, api.Topic{Name: "A", Parts: 1}, api.ErrName)
	d.Fail(-1)
	told(t, "Drop", s.Drop("one"), api.OK)
	create(t, s, four)
	refused(t, d, s, one, api.ErrLimit)
}

// What was dropped is begun anew, from 0 on.
func TestCreateBehindDrop(t *testing.T) {
	d, s := begun(t, 1000)
	told(t, "Drop", s.Drop("two"), api.OK)
	again := api.Topic{Name: "two", Parts: 1}
	create(t, s, again)
	are(t, "made anew", s, one, again)
	numbers(t, "made anew", s, "two", 0, 0, 0, 0, 0)
	files(t, "made anew", d, "one-0/0000000000.log", "topics", "two-0/0000000000.log")
}

// Promise 5.2: Drop.

func TestDrop(t *testing.T) {
	d := room(t, 10_000)
	s := opened(t, d, never)
	t1, t10 := api.Topic{Name: "t", Parts: 2}, api.Topic{Name: "t1", Parts: 2}
	create(t, s, t1, two, t10)
	for _, x := range []string{"t", "t1"} {
		smalls(t, s, x, 0, 12)
		smalls(t, s, x, 1, 3)
	}
	told(t, "Forget", log(t, s, "t1", 0).Forget(11), api.OK)
	told(t, "Drop", s.Drop("t"), api.OK)
	are(t, "Drop", s, two, t10)
	lists(t, "Drop", d, "two 1 0 0\nt1 0 11 0\n")
	files(t, "Drop", d, "t1-0/0000000010.log", "t1-1/0000000000.log", "topics", "two-0/0000000000.log", "two-1/0000000000.log")
	numbers(t, "Drop", s, "t1", 0, 11, 12, 10, 10)
	_, err := s.Log("t", 0)
	told(t, "Log of what was dropped", err, api.ErrMissing)
	told(t, "Drop twice", s.Drop("t"), api.ErrMissing)
}

func TestDropMissing(t *testing.T) {
	d, s := begun(t, 1000)
	before := view(d, s)
	for _, name := range []string{"", "three", "on", "onee", "ONE", "one-0", "topics", "one 0 0"} {
		told(t, "Drop of "+name, s.Drop(name), api.ErrMissing)
	}
	d.Fail(0)
	told(t, "Drop on a disk that fails", s.Drop("three"), api.ErrMissing)
	if after := view(d, s); after != before {
		t.Errorf("from %s to %s", before, after)
	}
}

// Promise 5.2: Log.

func TestLog(t *testing.T) {
	_, s := begun(t, 1000)
	add(t, s, "two", 1, small(1), small(2))
	numbers(t, "two", s, "two", 0, 6, 7, 5, 5)
	numbers(t, "two", s, "two", 1, 0, 2, 0, 0)
	numbers(t, "one", s, "one", 0, 0, 0, 0, 0)
	for _, c := range []struct {
		topic string
		part  int
		want  api.Errno
	}{
		{"three", 0, api.ErrMissing}, {"", 0, api.ErrMissing}, {"ONE", 0, api.ErrMissing}, {"three", -1, api.ErrMissing}, {"two-0", 0, api.ErrMissing},
		{"one", 1, api.ErrRange}, {"one", -1, api.ErrRange}, {"two", 2, api.ErrRange}, {"two", math.MaxInt, api.ErrRange}, {"two", math.MinInt, api.ErrRange},
	} {
		l, err := s.Log(c.topic, c.part)
		told(t, fmt.Sprint("Log of ", c.topic, ", ", c.part), err, c.want)
		if l != nil {
			t.Errorf("Log of %s, %d: a log beside an error", c.topic, c.part)
		}
	}
}

// Promise 5.2: Clean.

// cleaned fails, unless a Clean tells just so.
func cleaned(t *testing.T, what string, s *topics.Store, now, want int, e api.Errno) {
	t.Helper()
	n, err := s.Clean(now)
	told(t, what, err, e)
	if n != want {
		t.Errorf("%s: %d went, want %d", what, n, want)
	}
}

// Segments of topics that are not compacted go by Age, in all partitions of all topics.
func TestCleanByAge(t *testing.T) {
	for _, c := range []struct{ age, now, want, start int }{
		{10, 14, 0, 0}, {10, 15, 3, 5}, {10, 19, 3, 5}, {10, 20, 6, 10}, {10, 1000, 6, 10},
		{0, 4, 0, 0}, {0, 5, 3, 5}, {-1, 1000, 0, 0}, {math.MinInt, 1000, 0, 0}, {math.MaxInt, 1000, 0, 0},
	} {
		s := opened(t, room(t, 10_000), topics.Config{Segment: 100, Age: c.age, Bytes: -1})
		create(t, s, four, one)
		smalls(t, s, "4", 1, 12)
		smalls(t, s, "4", 3, 12)
		smalls(t, s, "one", 0, 12)
		what := fmt.Sprint("Age ", c.age, ", now ", c.now)
		cleaned(t, what, s, c.now, c.want, api.OK)
		for _, x := range []struct {
			topic string
			part  int
		}{{"4", 1}, {"4", 3}, {"one", 0}} {
			if l := log(t, s, x.topic, x.part); l.Start() != c.start || l.End() != 12 || l.Safe() != 10 {
				t.Errorf("%s: %v: Start %d, End %d, Safe %d, want %d, 12, 10", what, x, l.Start(), l.End(), l.Safe(), c.start)
			}
		}
		numbers(t, what, s, "4", 0, 0, 0, 0, 0)
		cleaned(t, what+", again", s, c.now, 0, api.OK)
	}
}

// And by Bytes.
func TestCleanByBytes(t *testing.T) {
	for _, c := range []struct{ bytes, want int }{
		{-1, 0}, {math.MinInt, 0}, {7*19 + 1, 0}, {7 * 19, 1}, {2*19 + 1, 1}, {2 * 19, 2}, {0, 2}, {math.MaxInt, 0},
	} {
		s := opened(t, room(t, 10_000), topics.Config{Segment: 100, Age: -1, Bytes: c.bytes})
		create(t, s, one)
		smalls(t, s, "one", 0, 12)
		cleaned(t, fmt.Sprint("Bytes ", c.bytes), s, 1000, c.want, api.OK)
		numbers(t, fmt.Sprint("Bytes ", c.bytes), s, "one", 0, 5*c.want, 12, 10, []int{0, 5, 10}[c.want:]...)
	}
}

// keys puts records into a partition of which a Compact takes two, three or four out: two by their keys, and the tombstones of the times 40 and 41 by age; the last segment has no more than one record.
func keys(t *testing.T, s *topics.Store, topic string, part int) {
	t.Helper()
	great := api.Record{Time: 1, Value: strings.Repeat("w", 85)}
	add(t, s, topic, part, keyed("a", 30), keyed("b", 31), gone("c", 40), gone("d", 41), keyed("a", 42), great, keyed("b", 43))
	numbers(t, "keys", s, topic, part, 0, 7, 6, 0, 5, 6)
}

// Records of topics that are compacted go by their keys, and by Age, which is 0 at least.
func TestCleanCompacts(t *testing.T) {
	for _, c := range []struct {
		age, now int
		went     []int
	}{
		{0, 40, []int{0, 1}}, {0, 41, []int{0, 1, 2}}, {0, 42, []int{0, 1, 2, 3}}, {0, 0, []int{0, 1}},
		{-1, 40, []int{0, 1}}, {-1, 41, []int{0, 1, 2}}, {math.MinInt, 41, []int{0, 1, 2}},
		{9, 49, []int{0, 1}}, {9, 50, []int{0, 1, 2}},
	} {
		d := room(t, 10_000)
		s := opened(t, d, topics.Config{Segment: 100, Age: c.age, Bytes: 0})
		create(t, s, two)
		keys(t, s, "two", 0)
		keys(t, s, "two", 1)
		what := fmt.Sprint("Age ", c.age, ", now ", c.now)
		cleaned(t, what, s, c.now, 2*len(c.went), api.OK)
		for part := range 2 {
			numbers(t, what, s, "two", part, 0, 7, 7, 0, 5, 6)
			got, err := log(t, s, "two", part).Read(0, math.MaxInt)
			told(t, what, err, api.OK)
			for _, r := range got {
				if slices.Contains(c.went, r.Offset) {
					t.Errorf("%s: %v is there", what, r)
				}
			}
			if len(got) != 5-len(c.went) {
				t.Errorf("%s: there are %v", what, got)
			}
		}
		if n := len(d.List("")); n != 7 {
			t.Errorf("%s: there are %q", what, d.List(""))
		}
	}
}

// Each topic has its own way, topic by topic.
func TestCleanOfBoth(t *testing.T) {
	s := opened(t, room(t, 10_000), topics.Config{Segment: 100, Age: 0, Bytes: -1})
	create(t, s, one, two)
	smalls(t, s, "one", 0, 12)
	keys(t, s, "two", 1)
	cleaned(t, "both", s, 41, 2+3, api.OK)
	numbers(t, "both", s, "one", 0, 10, 12, 10, 10)
	numbers(t, "both", s, "two", 1, 0, 7, 7, 0, 5, 6)
	cleaned(t, "both, again", s, 41, 0, api.OK)
}

// What went up to the first error is told beside it; what is behind it is left alone.
func TestCleanUpToAnError(t *testing.T) {
	great := func(n int) api.Record { return api.Record{Time: 100, Value: strings.Repeat("w", n)} }
	later := api.Topic{Name: "later", Parts: 1}
	d := room(t, 10_000)
	s := opened(t, d, topics.Config{Segment: 300, Age: 0, Bytes: -1})
	create(t, s, one, two, later)
	add(t, s, "one", 0, small(0), great(290))
	add(t, s, "two", 0, keyed("a", 1), great(250), great(250), keyed("a", 2))
	add(t, s, "later", 0, small(0), great(290))
	laid(t, d, "fill", strings.Repeat("z", 10_000-d.Used()))
	cleaned(t, "full", s, 41, 1, api.ErrFull)
	numbers(t, "full", s, "one", 0, 1, 2, 1, 1)
	numbers(t, "full", s, "two", 0, 0, 4, 4, 0, 2)
	numbers(t, "full", s, "later", 0, 0, 2, 1, 0, 1)
	told(t, "disk.Remove", d.Remove("fill"), api.OK)
	cleaned(t, "with room", s, 41, 2, api.OK)
	numbers(t, "with room", s, "later", 0, 1, 2, 1, 1)
}

// The same on a disk that fails, wherever it does.
func TestCleanOnADiskThatFails(t *testing.T) {
	for n := 0; ; n++ {
		d := room(t, 10_000)
		s := opened(t, d, topics.Config{Segment: 100, Age: 0, Bytes: -1})
		later := api.Topic{Name: "later", Parts: 1}
		create(t, s, one, two, later)
		smalls(t, s, "one", 0, 12)
		keys(t, s, "two", 0)
		smalls(t, s, "later", 0, 12)
		first, second, third := log(t, s, "one", 0), log(t, s, "two", 0), log(t, s, "later", 0)
		d.Fail(n)
		got, err := s.Clean(41)
		left, _ := second.Read(0, math.MaxInt)
		went := []int{3 - len(first.Segments()), 5 - len(left), 3 - len(third.Segments())}
		if want := went[0] + went[1] + went[2]; got != want {
			t.Errorf("Fail %d: %d went, want %d", n, got, want)
		}
		if went[0] < 2 && went[1] > 0 || went[1] < 3 && went[2] > 0 {
			t.Errorf("Fail %d: not one behind the other: %v", n, went)
		}
		if err == nil {
			if got != 7 {
				t.Errorf("%d went in all", got)
			}
			break
		}
		told(t, fmt.Sprint("Fail ", n), err, api.ErrDevice)
		told(t, fmt.Sprint("Fail ", n), s.Flush(), api.ErrState)
	}
}

// Promise 5.2: Flush.

func TestFlush(t *testing.T) {
	d, s := begun(t, 10_000)
	add(t, s, "two", 1, small(1))
	add(t, s, "one", 0, small(1), small(2))
	told(t, "Flush", s.Flush(), api.OK)
	for range 2 {
		numbers(t, "Flush", s, "two", 0, 6, 7, 7, 5)
		numbers(t, "Flush", s, "two", 1, 0, 1, 1, 0)
		numbers(t, "Flush", s, "one", 0, 0, 2, 2, 0)
		told(t, "Save", s.Save(), api.OK)
		d.Crash(nil)
		s = opened(t, d, never)
	}
	add(t, s, "two", 0, small(1))
	add(t, s, "two", 1, small(1))
	add(t, s, "one", 0, small(1))
	d.Fail(2)
	told(t, "Flush on a disk that fails", s.Flush(), api.ErrDevice)
	d.Crash(nil)
	s = opened(t, d, never)
	numbers(t, "behind a crash", s, "two", 0, 6, 8, 8, 5)
	numbers(t, "behind a crash", s, "two", 1, 0, 2, 2, 0)
	numbers(t, "behind a crash", s, "one", 0, 0, 2, 2, 0)
	told(t, "Flush of no topic", opened(t, room(t, 0), never).Flush(), api.OK)
}

// The sizes that these tests count with.
func TestSizes(t *testing.T) {
	b, err := record.Encode(api.Batch{Base: 11, End: 12, Records: []api.Record{{Offset: 11, Time: 11, Value: "four"}}})
	if err != nil || len(b) != 19 {
		t.Errorf("a batch of a small record has %d bytes, %v", len(b), err)
	}
}
