// Package disk: files that lose, in a crash, what was not made safe.
package disk

import (
	"iter"
	"maps"
	"slices"
	"strings"

	"conveyor/api"
)

// Disk has files by names; which names there are is safe at once.
type Disk struct {
	room    int
	files   map[string]*file
	limited bool // only left operations more are done
	left    int
}

// file is one's bytes, of which the first ones are safe.
type file struct {
	bytes []byte
	safe  int
}

// New is an empty disk of so many bytes.
func New(room int) (_ *Disk, _ error) {
	if room < 0 || room > api.MaxDisk {
		return nil, api.ErrRange
	}
	return &Disk{room: room}, nil
}

// Name says whether a text may be a name: 1 to 40 of a to z, 0 to 9, - . and /.
func Name(s string) (_ bool) {
	for i := range len(s) {
		if !nameByte(s[i]) {
			return false
		}
	}
	return len(s) >= 1 && len(s) <= api.MaxName
}

// nameByte says whether a byte may be in a name.
func nameByte(c byte) bool {
	return c >= 'a' && c <= 'z' || c >= '0' && c <= '9' || c == '-' || c == '.' || c == '/'
}

// Fail makes all operations behind so many more fail, until a Crash (below 0: none).
func (d *Disk) Fail(n int) {
	if d == nil {
		return
	}
	d.limited, d.left = n >= 0, n
}

// Make makes a file, empty. ErrName, ErrTwice, ErrLimit: too many files.
func (d *Disk) Make(name string) (_ error) {
	if err := d.count(); err != nil {
		return err
	}
	if !Name(name) {
		return api.ErrName
	}
	if d.files[name] != nil {
		return api.ErrTwice
	}
	if len(d.files) >= api.MaxFiles {
		return api.ErrLimit
	}
	if d.files == nil {
		d.files = map[string]*file{}
	}
	d.files[name] = &file{}
	return nil
}

// Add puts bytes at a file's end. ErrFull: there is no room (nothing is put).
func (d *Disk) Add(name string, b []byte) (_ error) {
	f, err := d.operate(name)
	if err != nil {
		return err
	}
	if d.Used()+len(b) > d.room {
		return api.ErrFull
	}
	f.bytes = append(f.bytes, b...)
	return nil
}

// Used is how many bytes files have.
func (d *Disk) Used() (_ int) {
	sum := 0
	for _, f := range d.all() {
		sum += len(f.bytes)
	}
	return sum
}

// Size is how many bytes a file has (-1: there is none; reading never fails).
func (d *Disk) Size(name string) (_ int) {
	f := d.all()[name]
	if f == nil {
		return -1
	}
	return len(f.bytes)
}

// Read is a file's bytes from one on, at most so many (none, where there are none).
func (d *Disk) Read(name string, from, most int) (_ []byte) {
	f := d.all()[name]
	if f == nil || from < 0 || from >= len(f.bytes) || most <= 0 {
		return nil
	}
	return slices.Clone(f.bytes[from:][:min(most, len(f.bytes)-from)])
}

// Cut leaves a file's first bytes. ErrRange: it has not so many.
func (d *Disk) Cut(name string, n int) (_ error) {
	f, err := d.operate(name)
	if err != nil {
		return err
	}
	if n < 0 || n > len(f.bytes) {
		return api.ErrRange
	}
	f.keep(n)
	return nil
}

// Sync makes a file's bytes safe.
func (d *Disk) Sync(name string) (_ error) {
	f, err := d.operate(name)
	if err != nil {
		return err
	}
	f.safe = len(f.bytes)
	return nil
}

// Rename gives a file another name; who had that is gone. ErrName.
func (d *Disk) Rename(name, to string) (_ error) {
	f, err := d.operate(name)
	if err != nil {
		return err
	}
	if !Name(to) {
		return api.ErrName
	}
	// In this order, so that a file that is given its own name stays.
	delete(d.files, name)
	d.files[to] = f
	return nil
}

// Remove takes a file away.
func (d *Disk) Remove(name string) (_ error) {
	if _, err := d.operate(name); err != nil {
		return err
	}
	delete(d.files, name)
	return nil
}

// List is the names that begin so, in order.
func (d *Disk) List(begin string) (_ []string) {
	return slices.Collect(d.names(begin))
}

// Crash leaves of each file, in order of names, what is safe, and of what is behind that so many bytes as the next of the fates tells (at most all; one fate behind the other, round and round; none: none); all that is left is safe then.
func (d *Disk) Crash(fates []byte) {
	if d == nil {
		return
	}
	k := 0
	for name := range d.names("") {
		f := d.files[name]
		f.keep(min(f.safe+fate(fates, k), len(f.bytes)))
		f.safe = len(f.bytes)
		k++
	}
	d.limited = false
}

// fate is how many bytes the k-th file has left, at most, of those that are not safe.
func fate(fates []byte, k int) int {
	if len(fates) == 0 {
		return 0
	}
	return int(fates[k%len(fates)])
}

// keep leaves the first n bytes, without room beyond them: what is added later never lies where cut bytes were.
func (f *file) keep(n int) {
	f.bytes = f.bytes[:n:n]
	f.safe = min(f.safe, n)
}

// count counts an operation. ErrDevice: the disk fails (where there is none, always).
func (d *Disk) count() error {
	if d == nil || d.limited && d.left == 0 {
		return api.ErrDevice
	}
	if d.limited {
		d.left--
	}
	return nil
}

// operate counts an operation on a file that must be there: ErrDevice, ErrMissing.
func (d *Disk) operate(name string) (*file, error) {
	if err := d.count(); err != nil {
		return nil, err
	}
	f := d.files[name]
	if f == nil {
		return nil, api.ErrMissing
	}
	return f, nil
}

// all is every file by its name: none where there is no disk, so that reading never fails.
func (d *Disk) all() map[string]*file {
	if d == nil {
		return nil
	}
	return d.files
}

// names goes through the names that begin so, in order of bytes, whatever order the map has.
func (d *Disk) names(begin string) iter.Seq[string] {
	return func(yield func(string) bool) {
		for _, name := range slices.Sorted(maps.Keys(d.all())) {
			if strings.HasPrefix(name, begin) && !yield(name) {
				return
			}
		}
	}
}
