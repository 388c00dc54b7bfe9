package disk_test

import (
	"fmt"
	"math"
	"slices"
	"strings"
	"testing"

	"conveyor/api"
	"conveyor/disk"
	"conveyor/plain"
)

// told fails, unless an error is that Errno, without a place.
func told(t *testing.T, what string, err error, want api.Errno) {
	t.Helper()
	if got, bare := plain.Bare(err); got != want || !bare || (err == nil) != (want == api.OK) {
		t.Errorf("%s: %v, want Errno %d, bare", what, err, int(want))
	}
}

// small is a disk of so many bytes.
func small(t *testing.T, room int) *disk.Disk {
	t.Helper()
	d, err := disk.New(room)
	if d == nil || err != nil {
		t.Fatalf("New(%d): %v, %v", room, d, err)
	}
	return d
}

// file makes a file with bytes that are safe, and bytes that are not.
func file(t *testing.T, d *disk.Disk, name, safe, rest string) {
	t.Helper()
	told(t, "Make "+name, d.Make(name), api.OK)
	told(t, "Add "+name, d.Add(name, []byte(safe)), api.OK)
	told(t, "Sync "+name, d.Sync(name), api.OK)
	told(t, "Add "+name, d.Add(name, []byte(rest)), api.OK)
}

// all is what a disk has: of each file its name and its bytes.
func all(d *disk.Disk) string {
	var l []string
	for _, name := range d.List("") {
		l = append(l, name+"="+string(d.Read(name, 0, math.MaxInt)))
	}
	return strings.Join(l, " ")
}

// has fails, unless a disk has just these files.
func has(t *testing.T, what string, d *disk.Disk, want string) {
	t.Helper()
	if got := all(d); got != want {
		t.Errorf("%s: there is %q, want %q", what, got, want)
	}
}

// fill makes as many files as there may be more.
func fill(t *testing.T, d *disk.Disk) {
	t.Helper()
	for k := len(d.List("")); k < api.MaxFiles; k++ {
		told(t, "Make", d.Make(fmt.Sprint("fill", k)), api.OK)
	}
}

// Promise 1.1: New, Name and the operations.

func TestNew(t *testing.T) {
	for _, room := range []int{math.MinInt, -1, api.MaxDisk + 1, math.MaxInt} {
		d, err := disk.New(room)
		told(t, fmt.Sprint("New ", room), err, api.ErrRange)
		if d != nil {
			t.Errorf("New(%d) tells a disk", room)
		}
	}
	for _, room := range []int{0, 1, api.MaxDisk} {
		d := small(t, room)
		if d.Used() != 0 || len(d.List("")) != 0 {
			t.Errorf("New(%d): %d bytes, %q", room, d.Used(), d.List(""))
		}
		told(t, "Make", d.Make("a"), api.OK)
		told(t, "Add of one byte too many", d.Add("a", make([]byte, room+1)), api.ErrFull)
		told(t, "Add of all", d.Add("a", make([]byte, room)), api.OK)
		if d.Used() != room {
			t.Errorf("New(%d): %d bytes are used", room, d.Used())
		}
	}
}

func TestName(t *testing.T) {
	const may = "abcdefghijklmnopqrstuvwxyz0123456789-./"
	for c := range 256 {
		s := string([]byte{'a', byte(c), 'z'})
		if want := strings.IndexByte(may, byte(c)) >= 0; disk.Name(s) != want || disk.Name(s[1:2]) != want {
			t.Errorf("Name(%q) is %v, Name(%q) is %v, want %v", s, disk.Name(s), s[1:2], disk.Name(s[1:2]), want)
		}
	}
	for s, want := range map[string]bool{
		"": false, "a": true, "/": true, "..": true, may[1:]: true, "topics.new": true, "a-0/0000000000.log": true,
		strings.Repeat("a", api.MaxName): true, strings.Repeat("a", api.MaxName+1): false,
		strings.Repeat("a", api.MaxName-1) + "A": false, "Aa": false, "aA": false, "a b": false, "é": false, "\x00": false,
	} {
		if disk.Name(s) != want {
			t.Errorf("Name(%q) is %v", s, !want)
		}
	}
}

func TestMake(t *testing.T) {
	d := small(t, 10)
	told(t, "Make", d.Make("a/1"), api.OK)
	if d.Size("a/1") != 0 || d.Used() != 0 {
		t.Errorf("a new file has %d bytes, all %d", d.Size("a/1"), d.Used())
	}
	told(t, "Add", d.Add("a/1", []byte("xy")), api.OK)
	told(t, "Make again", d.Make("a/1"), api.ErrTwice)
	for _, name := range []string{"", "A", strings.Repeat("a", api.MaxName+1)} {
		told(t, fmt.Sprintf("Make %q", name), d.Make(name), api.ErrName)
	}
	has(t, "behind errors", d, "a/1=xy")
}

func TestMakeLimit(t *testing.T) {
	d := small(t, 10)
	fill(t, d)
	if len(d.List("")) != api.MaxFiles {
		t.Fatalf("there are %d files", len(d.List("")))
	}
	told(t, "Make of one more", d.Make("a"), api.ErrLimit)
	told(t, "Make of no name", d.Make("A"), api.ErrName)
	told(t, "Make of one that is there", d.Make("fill0"), api.ErrTwice)
	told(t, "Rename", d.Rename("fill0", "a"), api.OK)
	told(t, "Make behind Rename", d.Make("fill0"), api.ErrLimit)
	told(t, "Remove", d.Remove("a"), api.OK)
	told(t, "Make behind Remove", d.Make("fill0"), api.OK)
	told(t, "Rename to one that is there", d.Rename("fill0", "fill1"), api.OK)
	told(t, "Make behind it", d.Make("fill0"), api.OK)
}

func TestMissing(t *testing.T) {
	d := small(t, 2)
	told(t, "Make", d.Make("b"), api.OK)
	for _, name := range []string{"a", "", "A", "b ", "bb"} {
		told(t, "Add (no room)", d.Add(name, []byte("xyz")), api.ErrMissing)
		told(t, "Cut (no such place)", d.Cut(name, -1), api.ErrMissing)
		told(t, "Sync", d.Sync(name), api.ErrMissing)
		told(t, "Rename", d.Rename(name, "c"), api.ErrMissing)
		told(t, "Rename to no name", d.Rename(name, ""), api.ErrMissing)
		told(t, "Remove", d.Remove(name), api.ErrMissing)
	}
	has(t, "behind errors", d, "b=")
}

func TestAdd(t *testing.T) {
	d := small(t, 6)
	file(t, d, "a", "xy", "z")
	file(t, d, "b", "", "p")
	has(t, "added", d, "a=xyz b=p")
	told(t, "Add of too much", d.Add("b", []byte("qrs")), api.ErrFull)
	has(t, "behind ErrFull", d, "a=xyz b=p")
	told(t, "Add up to the room", d.Add("b", []byte("qr")), api.OK)
	told(t, "Add of one more", d.Add("a", []byte("s")), api.ErrFull)
	told(t, "Add of nothing", d.Add("a", nil), api.OK)
	has(t, "full", d, "a=xyz b=pqr")
	told(t, "Cut", d.Cut("a", 2), api.OK)
	told(t, "Add behind a Cut", d.Add("b", []byte("s")), api.OK)
	told(t, "Remove", d.Remove("a"), api.OK)
	told(t, "Add behind Remove", d.Add("b", []byte("tu")), api.OK)
	has(t, "full again", d, "b=pqrstu")
}

func TestAddLeavesItsBytes(t *testing.T) {
	d := small(t, 100)
	told(t, "Make", d.Make("a"), api.OK)
	b := []byte("xyzrest")
	told(t, "Add", d.Add("a", b[:3]), api.OK)
	told(t, "Add", d.Add("a", []byte("123")), api.OK)
	if string(b) != "xyzrest" {
		t.Errorf("Add wrote into what came in: %q", b)
	}
	b[0] = '!'
	has(t, "behind a change of what came in", d, "a=xyz123")
}

func TestCut(t *testing.T) {
	d := small(t, 100)
	file(t, d, "a", "abc", "def")
	for _, n := range []int{math.MinInt, -1, 7, math.MaxInt} {
		told(t, fmt.Sprint("Cut ", n), d.Cut("a", n), api.ErrRange)
	}
	has(t, "behind errors", d, "a=abcdef")
	told(t, "Cut of nothing", d.Cut("a", 6), api.OK)
	has(t, "cut at 6", d, "a=abcdef")
	told(t, "Cut", d.Cut("a", 2), api.OK)
	has(t, "cut at 2", d, "a=ab")
	told(t, "Cut beyond", d.Cut("a", 3), api.ErrRange)
	told(t, "Add", d.Add("a", []byte("X")), api.OK)
	has(t, "added", d, "a=abX")
	told(t, "Cut of all", d.Cut("a", 0), api.OK)
	has(t, "cut at 0", d, "a=")
}

func TestRename(t *testing.T) {
	d := small(t, 100)
	file(t, d, "a", "xy", "z")
	file(t, d, "b", "pqr", "s")
	for _, to := range []string{"", "A", strings.Repeat("a", api.MaxName+1)} {
		told(t, fmt.Sprintf("Rename to %q", to), d.Rename("a", to), api.ErrName)
	}
	has(t, "behind errors", d, "a=xyz b=pqrs")
	told(t, "Rename", d.Rename("a", "c/1"), api.OK)
	has(t, "renamed", d, "b=pqrs c/1=xyz")
	told(t, "Rename to one that is there", d.Rename("c/1", "b"), api.OK)
	has(t, "who had the name is gone", d, "b=xyz")
	told(t, "Rename to its own name", d.Rename("b", "b"), api.OK)
	has(t, "renamed to its own name", d, "b=xyz")
	if d.Used() != 3 || d.Size("a") != -1 {
		t.Errorf("%d bytes are used, a has %d", d.Used(), d.Size("a"))
	}
	d.Crash(nil)
	has(t, "what was safe stays safe", d, "b=xy")
}

func TestRemove(t *testing.T) {
	d := small(t, 100)
	file(t, d, "a", "xy", "z")
	file(t, d, "b", "p", "")
	told(t, "Remove", d.Remove("a"), api.OK)
	has(t, "removed", d, "b=p")
	told(t, "Remove again", d.Remove("a"), api.ErrMissing)
	told(t, "Make again", d.Make("a"), api.OK)
	has(t, "made again", d, "a= b=p")
	told(t, "Add", d.Add("a", []byte("new")), api.OK)
	d.Crash(nil)
	has(t, "nothing of the new one was safe", d, "a= b=p")
}

// Promise 1.2: Size, Used, Read, List.

func TestSizeAndUsed(t *testing.T) {
	d := small(t, 100)
	if d.Size("a") != -1 || d.Size("") != -1 || d.Used() != 0 {
		t.Errorf("an empty disk: %d, %d, %d", d.Size("a"), d.Size(""), d.Used())
	}
	file(t, d, "a", "xy", "z")
	file(t, d, "b", "", "pqrst")
	told(t, "Make", d.Make("c"), api.OK)
	if d.Size("a") != 3 || d.Size("b") != 5 || d.Size("c") != 0 || d.Size("d") != -1 || d.Used() != 8 {
		t.Errorf("%d %d %d %d, %d in all", d.Size("a"), d.Size("b"), d.Size("c"), d.Size("d"), d.Used())
	}
	d.Crash(nil)
	if d.Size("a") != 2 || d.Size("b") != 0 || d.Used() != 2 {
		t.Errorf("behind a crash: %d %d, %d in all", d.Size("a"), d.Size("b"), d.Used())
	}
}

func TestRead(t *testing.T) {
	d := small(t, 100)
	file(t, d, "a", "abc", "def")
	for _, c := range []struct {
		name       string
		from, most int
		want       string
	}{
		{"a", 0, 6, "abcdef"}, {"a", 0, 2, "ab"}, {"a", 2, 3, "cde"}, {"a", 5, 1, "f"}, {"a", 4, 9, "ef"},
		{"a", 1, math.MaxInt, "bcdef"}, {"a", 0, 0, ""}, {"a", 2, -1, ""}, {"a", 2, math.MinInt, ""},
		{"a", 6, 1, ""}, {"a", 7, 1, ""}, {"a", math.MaxInt, math.MaxInt, ""}, {"a", -1, 3, ""},
		{"a", math.MinInt, math.MaxInt, ""}, {"b", 0, 3, ""}, {"", 0, 3, ""},
	} {
		if got := d.Read(c.name, c.from, c.most); string(got) != c.want {
			t.Errorf("Read(%q, %d, %d) is %q, want %q", c.name, c.from, c.most, got, c.want)
		}
	}
}

func TestReadIsFresh(t *testing.T) {
	d := small(t, 100)
	file(t, d, "a", "abc", "def")
	x, y := d.Read("a", 0, 3), d.Read("a", 0, 6)
	_ = append(x, "XYZ"...)
	x[0] = '!'
	if string(y) != "abcdef" {
		t.Errorf("two lists share memory: %q", y)
	}
	y[5] = '!'
	has(t, "behind a change of what came out", d, "a=abcdef")
}

func TestList(t *testing.T) {
	d := small(t, 100)
	if l := d.List(""); len(l) != 0 {
		t.Errorf("an empty disk lists %q", l)
	}
	for _, name := range []string{"b", "a/2", "a", "a-1", "a/10", "9", "ab", "a.", "z"} {
		told(t, "Make", d.Make(name), api.OK)
	}
	for begin, want := range map[string]string{
		"": "9 a a-1 a. a/10 a/2 ab b z", "a": "a a-1 a. a/10 a/2 ab", "a/": "a/10 a/2", "a/10": "a/10",
		"a/100": "", "c": "", "A": "", "2": "",
	} {
		if got := strings.Join(d.List(begin), " "); got != want {
			t.Errorf("List(%q) is %q, want %q", begin, got, want)
		}
	}
	d.List("")[0] = "!"
	if got := d.List("")[0]; got != "9" {
		t.Errorf("a list that came out is kept: %q", got)
	}
}

// Promise 1.3: Fail and Crash.

// operations are one of each, on a disk with the files a and b; each is told what it answers while the disk does not fail.
func operations(d *disk.Disk) map[string]func() error {
	return map[string]func() error{
		"Make":   func() error { return d.Make("c") },
		"Add":    func() error { return d.Add("a", []byte("z")) },
		"Cut":    func() error { return d.Cut("a", 1) },
		"Sync":   func() error { return d.Sync("a") },
		"Rename": func() error { return d.Rename("a", "c") },
		"Remove": func() error { return d.Remove("a") },
		// Wrong ones: ErrDevice is told ahead of what is wrong.
		"Make of no name":       func() error { return d.Make("") },
		"Make of one there":     func() error { return d.Make("a") },
		"Add to none":           func() error { return d.Add("d", nil) },
		"Add of too much":       func() error { return d.Add("a", make([]byte, 101)) },
		"Cut of none":           func() error { return d.Cut("d", 0) },
		"Cut of too much":       func() error { return d.Cut("a", 3) },
		"Sync of none":          func() error { return d.Sync("d") },
		"Rename of none":        func() error { return d.Rename("d", "c") },
		"Rename to no name":     func() error { return d.Rename("a", "") },
		"Remove of none":        func() error { return d.Remove("d") },
		"Remove of no name":     func() error { return d.Remove("") },
		"Rename to its own one": func() error { return d.Rename("a", "a") },
	}
}

func TestFailEach(t *testing.T) {
	for what := range operations(nil) {
		d := small(t, 100)
		file(t, d, "a", "x", "y")
		file(t, d, "b", "p", "")
		d.Fail(0)
		told(t, what, operations(d)[what](), api.ErrDevice)
		has(t, what+" that failed", d, "a=xy b=p")
		d.Crash([]byte{0})
		has(t, what+" that failed, and a crash", d, "a=x b=p")
	}
}

func TestFailCountsEach(t *testing.T) {
	for what := range operations(nil) {
		d, free := small(t, 100), small(t, 100)
		for _, x := range []*disk.Disk{d, free} {
			file(t, x, "a", "x", "y")
			file(t, x, "b", "p", "")
		}
		d.Fail(1)
		told(t, what, operations(d)[what](), api.Tell(operations(free)[what]()))
		has(t, what+" ahead of failing", d, all(free))
		told(t, "Sync behind "+what, d.Sync("b"), api.ErrDevice)
	}
}

func TestFailGoesOn(t *testing.T) {
	d := small(t, 100)
	file(t, d, "a", "", "x")
	d.Fail(3)
	for range 9 {
		d.Read("a", 0, 1)
		d.Size("a")
		d.Used()
		d.List("")
	}
	told(t, "first", d.Add("a", []byte("y")), api.OK)
	told(t, "second", d.Make("A"), api.ErrName)
	told(t, "third", d.Sync("a"), api.OK)
	for range 5 {
		told(t, "behind the third", d.Add("a", []byte("z")), api.ErrDevice)
	}
	if d.Size("a") != 2 || d.Used() != 2 || string(d.Read("a", 0, 9)) != "xy" || !slices.Equal(d.List(""), []string{"a"}) {
		t.Errorf("a disk that fails is read: %q", all(d))
	}
	d.Crash(nil)
	told(t, "behind a crash", d.Add("a", []byte("z")), api.OK)
	has(t, "behind a crash", d, "a=xyz")
}

func TestFailAgain(t *testing.T) {
	d := small(t, 100)
	told(t, "Make", d.Make("a"), api.OK)
	d.Fail(0)
	told(t, "Fail 0", d.Sync("a"), api.ErrDevice)
	d.Fail(1)
	told(t, "Fail 1", d.Sync("a"), api.OK)
	told(t, "Fail 1, behind it", d.Sync("a"), api.ErrDevice)
	for _, n := range []int{-1, math.MinInt} {
		d.Fail(2)
		d.Fail(n)
		for range 5 {
			told(t, fmt.Sprint("Fail ", n), d.Sync("a"), api.OK)
		}
	}
	d.Fail(2)
	d.Crash(nil)
	for range 5 {
		told(t, "a crash ahead of failing", d.Sync("a"), api.OK)
	}
	d.Fail(math.MaxInt)
	told(t, "Fail of very many", d.Sync("a"), api.OK)
}

func TestCrashFates(t *testing.T) {
	for _, c := range []struct {
		what  string
		fates []byte
		want  string
	}{
		{"no fates", nil, "a=A b=B c= d=D"},
		{"empty fates", []byte{}, "a=A b=B c= d=D"},
		{"nought", []byte{0}, "a=A b=B c= d=D"},
		{"one for all", []byte{2}, "a=Aab b=B c=cd d=Ddd"},
		{"more than there is", []byte{255}, "a=Aabc b=B c=cdef d=Dddd"},
		{"round and round", []byte{1, 3}, "a=Aa b=B c=c d=Dddd"},
		{"a file that is safe has one, too", []byte{0, 9, 1, 2}, "a=A b=B c=c d=Ddd"},
		{"three, of which the first one is the last file's", []byte{2, 0, 1}, "a=Aab b=B c=c d=Ddd"},
		{"more fates than files", []byte{3, 0, 0, 1, 9, 9}, "a=Aabc b=B c= d=Dd"},
	} {
		d := small(t, 100)
		file(t, d, "c", "", "cdef")
		file(t, d, "d", "D", "ddd")
		file(t, d, "b", "B", "")
		file(t, d, "a", "A", "abc")
		given := slices.Clone(c.fates)
		d.Crash(c.fates)
		has(t, c.what, d, c.want)
		d.Crash(nil)
		has(t, c.what+": what stays is safe", d, c.want)
		if !slices.Equal(given, c.fates) {
			t.Errorf("%s: the fates are changed: %v", c.what, c.fates)
		}
	}
}

func TestCrashKeepsNames(t *testing.T) {
	d := small(t, 100)
	file(t, d, "a", "xy", "z")
	file(t, d, "b", "pq", "r")
	file(t, d, "c", "c", "")
	told(t, "Make", d.Make("e"), api.OK)
	told(t, "Rename", d.Rename("a", "b"), api.OK)
	told(t, "Rename", d.Rename("c", "d"), api.OK)
	told(t, "Remove", d.Remove("d"), api.OK)
	d.Crash(nil)
	has(t, "names that were never made safe", d, "b=xy e=")
}

func TestCrashBehindCut(t *testing.T) {
	d := small(t, 100)
	file(t, d, "a", "abcd", "ef")
	file(t, d, "b", "abcd", "ef")
	told(t, "Cut of what is not safe", d.Cut("a", 5), api.OK)
	told(t, "Cut of what is safe", d.Cut("b", 2), api.OK)
	told(t, "Add", d.Add("b", []byte("XYZ")), api.OK)
	d.Crash([]byte{0, 1})
	has(t, "the first bytes stay safe, those behind are not", d, "a=abcd b=abX")
	told(t, "Sync", d.Sync("b"), api.OK)
	told(t, "Cut of all", d.Cut("b", 0), api.OK)
	d.Crash([]byte{9})
	has(t, "what was cut never comes back", d, "a=abcd b=")
}

func TestSyncIsOfOneFile(t *testing.T) {
	d := small(t, 100)
	file(t, d, "a", "", "xy")
	file(t, d, "b", "", "pq")
	told(t, "Sync", d.Sync("a"), api.OK)
	told(t, "Add", d.Add("a", []byte("z")), api.OK)
	d.Crash(nil)
	has(t, "behind a crash", d, "a=xy b=")
}

func TestDisksAreApart(t *testing.T) {
	d, x := small(t, 3), small(t, 3)
	file(t, d, "a", "xy", "z")
	d.Fail(0)
	told(t, "another disk", x.Make("a"), api.OK)
	told(t, "another disk", x.Add("a", []byte("pqr")), api.OK)
	has(t, "one", d, "a=xyz")
	has(t, "the other", x, "a=pqr")
}

// P1: none panics, where there is no disk, or an empty one that New did not make.
func TestNoDisk(t *testing.T) {
	var none *disk.Disk
	for what, do := range operations(none) {
		told(t, what, do(), api.ErrDevice)
	}
	for _, d := range []*disk.Disk{none, {}} {
		d.Fail(-1)
		d.Crash([]byte{1})
		if d.Size("a") != -1 || d.Used() != 0 || len(d.Read("a", 0, 1)) != 0 || len(d.List("")) != 0 {
			t.Errorf("there is something where nothing is: %q", all(d))
		}
	}
	d := &disk.Disk{}
	told(t, "Make", d.Make("a"), api.OK)
	told(t, "Add", d.Add("a", []byte("x")), api.ErrFull)
}

func Example() {
	d, _ := disk.New(1000)
	d.Make("a")
	d.Add("a", []byte("xy"))
	d.Sync("a")
	d.Add("a", []byte("z"))
	d.Crash(nil)
	fmt.Printf("%s\n", d.Read("a", 0, 10))
	// Output: xy
}
