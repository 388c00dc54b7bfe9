package topics_test

import (
	"fmt"
	"math/rand"
	"slices"
	"strings"
	"testing"

	"conveyor/api"
	"conveyor/disk"
	"conveyor/plain"
	"conveyor/plog"
	"conveyor/segment"
	"conveyor/topics"
)

// Promise 5.3: crashes; and all answers as the words say them, whatever was done ahead.

// part is what a partition has by the words of the document.
type part struct {
	log   *plog.Log
	added []api.Record // by their offsets, from 0 on: those that went, too
	ends  []int        // each END it had
	bases []int        // each segment it had
}

// note takes down what the log has now.
func (p *part) note(l *plog.Log) {
	p.log = l
	p.ends = append(p.ends, l.End())
	p.bases = append(p.bases, l.Segments()...)
}

// topic is one with its partitions.
type topic struct {
	api.Topic
	parts []*part
}

// list is one that was written, or may have been.
type list struct {
	topics []*topic
	starts [][]int
}

// text is the list as the document says that it lies in its file.
func (l list) text() string {
	var b strings.Builder
	for k, x := range l.topics {
		fmt.Fprint(&b, x.Name, map[bool]string{false: " 0", true: " 1"}[x.Compact])
		for _, start := range l.starts[k] {
			fmt.Fprint(&b, " ", start)
		}
		fmt.Fprint(&b, "\n")
	}
	return b.String()
}

// now is the list of topics with where their partitions begin now.
func now(topics []*topic) list {
	l := list{topics: slices.Clone(topics)}
	for _, x := range topics {
		var starts []int
		for _, p := range x.parts {
			starts = append(starts, p.log.Start())
		}
		l.starts = append(l.starts, starts)
	}
	return l
}

// house is a store, and beside it what it has by the words of the document.
type house struct {
	t     *testing.T
	r     *rand.Rand
	d     *disk.Disk
	c     topics.Config
	s     *topics.Store
	done  string // what was done
	list  list   // the last one that was written
	doubt *list  // one that may have been written behind it, by what was under way
}

// built is a house without topics.
func built(t *testing.T, seed int64) *house {
	r := rand.New(rand.NewSource(seed))
	h := &house{t: t, r: r, d: room(t, 600+r.Intn(4000)), done: fmt.Sprint("seed ", seed, ": ")}
	h.c = topics.Config{Segment: 100 + r.Intn(150), Age: r.Intn(60) - 20, Bytes: r.Intn(600) - 200}
	h.s = opened(t, h.d, h.c)
	return h
}

// fatal tells what was done, and what is wrong.
func (h *house) fatal(l ...any) {
	h.t.Helper()
	h.t.Fatal(h.done, ": ", fmt.Sprint(l...))
}

// check fails, unless the store is what the house says.
func (h *house) check() {
	h.t.Helper()
	var want []api.Topic
	var names []string
	for _, x := range h.list.topics {
		want = append(want, x.Topic)
		for k, p := range x.parts {
			if l, err := h.s.Log(x.Name, k); l != p.log || err != nil {
				h.fatal("Log of ", x.Name, ", ", k, ": ", l, ", ", err)
			}
			for _, base := range p.log.Segments() {
				names = append(names, segment.Name(fmt.Sprint(x.Name, "-", k), base))
			}
			h.holds(x, p)
		}
	}
	if got := h.s.Topics(); !slices.Equal(got, want) {
		h.fatal("topics are ", got, ", want ", want)
	}
	if h.d.Size("topics") >= 0 {
		names = append(names, "topics")
	}
	slices.Sort(names)
	if got := h.d.List(""); !slices.Equal(got, names) {
		h.fatal("files are ", got, ", want ", names)
	}
	if got := content(h.d, "topics"); got != h.list.text() {
		h.fatal("the list is ", got, ", want ", h.list.text())
	}
}

// holds fails, unless a partition tells the records that were added, from Start on; where old ones of a key are taken out, the last of each key, but a tombstone, all the same.
func (h *house) holds(x *topic, p *part) {
	h.t.Helper()
	want := p.added[p.log.Start():]
	got := read(h, p.log)
	if !x.Compact {
		if !plain.Same(got, want) {
			h.fatal(x.Name, " has ", got, ", want ", want)
		}
		return
	}
	last := map[string]int{}
	for _, r := range p.added {
		if r.Keyed {
			last[r.Key] = r.Offset
		}
	}
	for _, r := range want {
		if len(got) > 0 && got[0] == r {
			got = got[1:]
		} else if !r.Keyed || last[r.Key] == r.Offset && !r.Gone {
			h.fatal(x.Name, " has no ", r)
		}
	}
	if len(got) > 0 {
		h.fatal(x.Name, " has ", got, ", which were not added")
	}
}

// read is all records of a log.
func read(h *house, l *plog.Log) []api.Record {
	var all []api.Record
	for from := l.Start(); ; from = all[len(all)-1].Offset + 1 {
		records, err := l.Read(from, 200)
		if err != nil {
			h.fatal("Read from ", from, ": ", err)
		}
		if len(records) == 0 {
			return all
		}
		all = append(all, records...)
	}
}

// written takes down how a call that writes a list ended.
func (h *house) written(err error, l list) error {
	if err == nil {
		h.list = l
	} else if api.Tell(err) == api.ErrDevice {
		h.doubt = &l
	}
	return err
}

// save does a Save.
func (h *house) save() error {
	h.done += " Save"
	l := now(h.list.topics)
	return h.written(h.s.Save(), l)
}

// create does a Create of a topic that may be there.
func (h *house) create() error {
	x := &topic{Topic: api.Topic{Name: []string{"a", "b", "c"}[h.r.Intn(3)], Parts: 1 + h.r.Intn(3), Compact: h.r.Intn(2) == 0}}
	h.done += fmt.Sprint(" Create ", x.Topic)
	l := now(h.list.topics)
	l.topics, l.starts = append(l.topics, x), append(l.starts, make([]int, x.Parts))
	twice := h.find(x.Name) != nil
	err := h.s.Create(x.Topic)
	if twice != (api.Tell(err) == api.ErrTwice) {
		h.fatal(err)
	}
	for k := range x.Parts {
		p := &part{ends: []int{0}, bases: []int{0}}
		if err == nil {
			p.log = log(h.t, h.s, x.Name, k)
		}
		x.parts = append(x.parts, p)
	}
	return h.written(err, l)
}

// find is a topic (nil: there is none).
func (h *house) find(name string) *topic {
	for _, x := range h.list.topics {
		if x.Name == name {
			return x
		}
	}
	return nil
}

// drop does a Drop of a topic that may not be there.
func (h *house) drop() error {
	name := []string{"a", "b", "c"}[h.r.Intn(3)]
	h.done += " Drop " + name
	missing := h.find(name) == nil
	l := now(slices.DeleteFunc(slices.Clone(h.list.topics), func(x *topic) bool { return x.Name == name }))
	err := h.s.Drop(name)
	if missing != (api.Tell(err) == api.ErrMissing) {
		h.fatal(err)
	}
	return h.written(err, l)
}

// drawn is some partition (nil: there is none).
func (h *house) drawn() *part {
	if len(h.list.topics) == 0 {
		return nil
	}
	x := h.list.topics[h.r.Intn(len(h.list.topics))]
	return x.parts[h.r.Intn(x.Parts)]
}

// add does an Add to some partition.
func (h *house) add() error {
	p := h.drawn()
	if p == nil {
		return nil
	}
	records := make([]api.Record, 1+h.r.Intn(3))
	for k := range records {
		records[k] = api.Record{Offset: p.log.End() + k, Time: h.r.Intn(50), Value: strings.Repeat("v", h.r.Intn(30))}
		if h.r.Intn(3) > 0 {
			records[k].Keyed, records[k].Key = true, []string{"", "a", "b", "c"}[h.r.Intn(4)]
		}
		if h.r.Intn(4) == 0 {
			records[k].Gone, records[k].Value = true, ""
		}
	}
	h.done += fmt.Sprint(" Add ", len(records))
	_, err := p.log.Add(records)
	if err == nil {
		p.added = append(p.added, records...)
	}
	p.note(p.log)
	return err
}

// forget does a Forget in some partition.
func (h *house) forget() error {
	p := h.drawn()
	if p == nil {
		return nil
	}
	to := p.log.Start() + h.r.Intn(p.log.End()-p.log.Start()+1)
	h.done += fmt.Sprint(" Forget ", to)
	return p.log.Forget(to)
}

// step does something that looks drawn.
func (h *house) step() error {
	switch h.r.Intn(14) {
	case 0, 1:
		return h.create()
	case 2:
		return h.drop()
	case 3:
		return h.save()
	case 4:
		return h.forget()
	case 5:
		h.done += " Flush"
		return h.s.Flush()
	case 6:
		h.done += " Clean"
		_, err := h.s.Clean(h.r.Intn(80))
		return err
	}
	return h.add()
}

// safe is what each partition had as safe ahead of a crash.
func (h *house) safe() map[*part]int {
	safe := map[*part]int{}
	for _, x := range h.list.topics {
		for _, p := range x.parts {
			safe[p] = p.log.Safe()
		}
	}
	return safe
}

// crash is a crash, behind which all is opened anew; perhaps the disk fails, and crashes, while it is.
func (h *house) crash() {
	h.t.Helper()
	safe := h.safe()
	for {
		fates := make([]byte, h.r.Intn(4))
		h.r.Read(fates)
		h.d.Crash(fates)
		fail := h.r.Intn(12) - 1
		h.d.Fail(fail)
		h.done += fmt.Sprint(" Crash ", fates, " Fail ", fail, " Open")
		s, err := topics.Open(h.d, h.c)
		if err == nil {
			h.s = s
			break
		}
		told(h.t, h.done, err, api.ErrDevice)
	}
	h.d.Fail(-1)
	if h.doubt != nil && content(h.d, "topics") == h.doubt.text() {
		h.list = *h.doubt
	}
	h.doubt = nil
	for k, x := range h.list.topics {
		for n, p := range x.parts {
			h.cameBack(p, log(h.t, h.s, x.Name, n), h.list.starts[k][n], safe[p])
		}
	}
}

// cameBack fails, unless a partition came back as 4.6 says, from where the list tells on.
func (h *house) cameBack(p *part, l *plog.Log, start, safe int) {
	h.t.Helper()
	end, first := l.End(), l.Segments()[0]
	if end < safe || !slices.Contains(p.ends, end) || !slices.Contains(p.bases, first) {
		h.fatal("END ", end, ", first Base ", first, "; safe was ", safe, ", ends ", p.ends, ", bases ", p.bases)
	}
	if want := min(max(start, first), end); l.Start() != want {
		h.fatal("Start ", l.Start(), ", want ", want)
	}
	p.added = p.added[:end]
	p.ends = slices.DeleteFunc(p.ends, func(n int) bool { return n > end })
	p.bases = nil
	p.note(l)
}

// Whatever is done, the store is what the words say; and so it is behind a crash that comes when nothing is under way.
func TestAgainstTheWords(t *testing.T) {
	for seed := range int64(150) {
		h := built(t, seed)
		for range 80 {
			err := h.step()
			if e := api.Tell(err); e != api.OK && e != api.ErrFull && e != api.ErrTwice && e != api.ErrMissing {
				h.fatal(err)
			}
			h.check()
			if h.r.Intn(12) == 0 {
				h.crash()
				h.check()
			}
		}
	}
}

// Whenever the disk fails, and crashes, and again and again while all is opened, the topics that were made are there, and no others, with what was safe.
func TestCrashes(t *testing.T) {
	for seed := range int64(300) {
		h := built(t, seed)
		for range 10 {
			fail := h.r.Intn(50)
			h.d.Fail(fail)
			h.done += fmt.Sprint(" Fail ", fail)
			for {
				err := h.step()
				if api.Tell(err) == api.ErrDevice {
					break
				}
				h.check()
				if h.r.Intn(60) == 0 {
					break
				}
			}
			h.crash()
			h.check()
		}
	}
}

// Each call that writes the list, with the disk failing ahead of each of its operations, and all that a crash may leave: a topic is there, or it is not.
func TestCrashesOneByOne(t *testing.T) {
	for what, c := range map[string]struct {
		do            func(s *topics.Store) error
		ahead, behind string // the list
		many          int    // operations
	}{
		"Save":        {func(s *topics.Store) error { return s.Save() }, "two 1 0 0\none 0 0\n", "two 1 6 0\none 0 0\n", 4},
		"Create":      {func(s *topics.Store) error { return s.Create(four) }, "two 1 0 0\none 0 0\n", "two 1 6 0\none 0 0\n4 0 0 0 0 0\n", 12},
		"Drop of one": {func(s *topics.Store) error { return s.Drop("one") }, "two 1 0 0\none 0 0\n", "two 1 6 0\n", 5},
		"Drop of two": {func(s *topics.Store) error { return s.Drop("two") }, "two 1 0 0\none 0 0\n", "one 0 0\n", 6},
	} {
		for _, fates := range [][]byte{nil, {1}, {0, 30}, {255}} {
			for n := range c.many + 1 {
				d, s := begun(t, 10_000)
				told(t, "Flush", s.Flush(), api.OK)
				d.Fail(n)
				err := c.do(s)
				tells := fmt.Sprint(what, ", Fail ", n, ", fates ", fates)
				if (err == nil) != (n == c.many) {
					t.Fatalf("%s: %v", tells, err)
				}
				if err != nil {
					told(t, tells, err, api.ErrDevice)
				}
				d.Crash(fates)
				s = opened(t, d, never)
				got := content(d, "topics")
				if got != c.behind && (err == nil || got != c.ahead) {
					t.Errorf("%s: the list is %q", tells, got)
				}
				whole(t, tells, d, s, got)
			}
		}
	}
}

// whole fails, unless a store that was begun, and opened anew, has the topics of a list, each with all it had, and no other file.
func whole(t *testing.T, what string, d *disk.Disk, s *topics.Store, list string) {
	t.Helper()
	files := 1
	var want []api.Topic
	for line := range strings.Lines(list) {
		x := map[byte]api.Topic{'t': two, 'o': one, '4': four}[line[0]]
		want = append(want, x)
		files += x.Parts
		for k := range x.Parts {
			if x != two || k != 0 {
				numbers(t, what, s, x.Name, k, 0, 0, 0, 0)
			}
		}
		if x == two {
			start := map[bool]int{false: 5, true: 6}[strings.HasPrefix(line, "two 1 6")]
			numbers(t, what, s, "two", 0, start, 7, 7, 5)
		}
	}
	are(t, what, s, want...)
	if got := d.List(""); len(got) != files {
		t.Errorf("%s: there are %q", what, got)
	}
}

// Opened again and again, a store does not change.
func TestOpenAgain(t *testing.T) {
	d, s := begun(t, 10_000)
	told(t, "Save", s.Save(), api.OK)
	before := view(d, s)
	for range 3 {
		s = opened(t, d, never)
		if after := view(d, s); after != before {
			t.Errorf("from %s to %s", before, after)
		}
		d.Crash(nil)
	}
}
