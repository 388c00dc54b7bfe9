package record_test

import (
	"bytes"
	"encoding/binary"
	"fmt"
	"hash/crc32"
	"math"
	"math/rand"
	"slices"
	"strings"
	"testing"

	"conveyor/api"
	"conveyor/plain"
	"conveyor/record"
)

// told fails, unless an error is that Errno, without a place.
func told(t *testing.T, what string, err error, want api.Errno) {
	t.Helper()
	if got, bare := plain.Bare(err); got != want || !bare || (err == nil) != (want == api.OK) {
		t.Errorf("%s: %v, want Errno %d, bare", what, err, int(want))
	}
}

// same says whether two batches are the same.
func same(x, y api.Batch) bool {
	return x.Base == y.Base && x.End == y.End && plain.Same(x.Records, y.Records)
}

// sealed lays a head before what stands behind it: its length and its sum, told by the library.
func sealed(body []byte) []byte {
	b := binary.BigEndian.AppendUint32(nil, uint32(len(body)+8))
	b = binary.BigEndian.AppendUint32(b, crc32.ChecksumIEEE(body))
	return append(b, body...)
}

// encoded is a batch's bytes.
func encoded(t *testing.T, x api.Batch) []byte {
	t.Helper()
	b, err := record.Encode(x)
	if err != nil {
		t.Fatalf("Encode(%v): %v", x, err)
	}
	return b
}

// formless fails, unless bytes are told to be no batch, for this reason.
func formless(t *testing.T, what string, b []byte, want api.Errno) {
	t.Helper()
	x, n, err := record.Decode(b)
	told(t, what, err, want)
	if n != 0 || !same(x, api.Batch{}) {
		t.Errorf("%s: %v and %d beside an error", what, x, n)
	}
}

// mixed is a batch with records of each kind, and places that none has.
func mixed() api.Batch {
	return api.Batch{Base: 300, End: 306, Records: []api.Record{
		{Offset: 300, Time: 1000, Keyed: true, Key: "ab", Value: "xyz"},
		{Offset: 302, Time: 5, Value: ""},
		{Offset: 303, Time: 0, Keyed: true, Key: "", Gone: true},
		{Offset: 304, Time: api.MaxTime, Gone: true},
	}}
}

// drawn is some batch that may be.
func drawn(r *rand.Rand) api.Batch {
	x := api.Batch{Base: r.Intn(1 << (1 + r.Intn(39)))}
	x.End = x.Base
	for range r.Intn(9) {
		y := api.Record{Offset: x.End + r.Intn(3), Time: r.Intn(1 << (1 + r.Intn(39)))}
		if r.Intn(2) == 0 {
			y.Keyed, y.Key = true, strings.Repeat("\xff", r.Intn(api.MaxKey+1))
		}
		if y.Gone = r.Intn(3) == 0; !y.Gone {
			y.Value = strings.Repeat("v\x00", r.Intn(api.MaxValue/2+1))
		}
		x.Records, x.End = append(x.Records, y), y.Offset+1
	}
	x.End += 1 + r.Intn(3)
	return x
}

// Promise 2.1: Sum, Put and Get.

func TestSum(t *testing.T) {
	for s, want := range map[string]int{"": 0, "123456789": 3421780262, "a": 3904355907, "\x00": 3523407757, "\xff\xff\xff\xff": 4294967295} {
		if got := record.Sum([]byte(s)); got != want {
			t.Errorf("Sum(%q) is %d, want %d", s, got, want)
		}
	}
	r := rand.New(rand.NewSource(1))
	for n := range 300 {
		b := make([]byte, n)
		r.Read(b)
		given := slices.Clone(b)
		if got := record.Sum(b); got != int(crc32.ChecksumIEEE(b)) {
			t.Errorf("Sum(%x) is %d, want %d", b, got, crc32.ChecksumIEEE(b))
		}
		if !bytes.Equal(b, given) {
			t.Errorf("Sum wrote into what came in")
		}
	}
}

func TestPut(t *testing.T) {
	for n, want := range map[int]string{
		0: "00", 1: "01", 127: "7f", 128: "8001", 129: "8101", 300: "ac02", 16383: "ff7f", 16384: "808001",
		1<<35 - 1: "ffffffff7f", 1 << 35: "808080808001", api.MaxTime - 1: "ffffffffff1f", api.MaxTime: "808080808020",
	} {
		if got := fmt.Sprintf("%x", record.Put(nil, n)); got != want {
			t.Errorf("Put(%d) is %s, want %s", n, got, want)
		}
		if got := fmt.Sprintf("%x", record.Put([]byte{9, 200}, n)); got != "09c8"+want {
			t.Errorf("Put(%d) behind 09c8 is %s", n, got)
		}
	}
}

func TestPutLeavesWhatIsThere(t *testing.T) {
	b := []byte{1, 2, 3}
	if got := record.Put(slices.Clip(b), 300); !bytes.Equal(got, []byte{1, 2, 3, 0xac, 2}) || !bytes.Equal(b, []byte{1, 2, 3}) {
		t.Errorf("Put behind %x is %x", b, got)
	}
}

// P1: of other numbers nothing is promised, but that the call ends.
func TestPutEnds(t *testing.T) {
	for _, n := range []int{-1, -128, math.MinInt, api.MaxTime + 1, math.MaxInt} {
		if b := record.Put([]byte{7}, n); len(b) == 0 || b[0] != 7 {
			t.Errorf("Put(%d) behind 07 is %x", n, b)
		}
	}
}

// number is what Get asks, told by the library: a number that is written in no longer way than it must.
func number(b []byte) (int, int) {
	n, size := binary.Uvarint(b)
	if size <= 0 || n > api.MaxTime || size != len(binary.AppendUvarint(nil, n)) {
		return 0, 0
	}
	return int(n), size
}

func TestGet(t *testing.T) {
	for _, n := range []int{0, 1, 127, 128, 300, 16383, 16384, 1<<35 - 1, 1 << 35, api.MaxTime - 1, api.MaxTime} {
		b := record.Put(nil, n)
		for _, behind := range [][]byte{nil, {0}, {255, 1}} {
			if got, size := record.Get(append(slices.Clip(b), behind...)); got != n || size != len(b) {
				t.Errorf("Get(Put(%d), then %x) is %d, %d", n, behind, got, size)
			}
		}
		for k := range b {
			if got, size := record.Get(b[:k]); got != 0 || size != 0 {
				t.Errorf("Get of %x, which goes on, is %d, %d", b[:k], got, size)
			}
		}
	}
}

func TestGetOfNone(t *testing.T) {
	for what, b := range map[string][]byte{
		"nothing":                         nil,
		"0 in two bytes":                  {128, 0},
		"1 in two bytes":                  {129, 0},
		"1 in three bytes":                {129, 128, 0},
		"0 in six bytes":                  {128, 128, 128, 128, 128, 0},
		"one above MaxTime":               {129, 128, 128, 128, 128, 32},
		"the greatest one in six bytes":   {255, 255, 255, 255, 255, 127},
		"2 to the 42":                     {128, 128, 128, 128, 128, 128, 1},
		"2 to the 63":                     {128, 128, 128, 128, 128, 128, 128, 128, 128, 1},
		"2 to the 64, which is 0 in ints": {128, 128, 128, 128, 128, 128, 128, 128, 128, 2},
		"2 to the 70 and 1":               {129, 128, 128, 128, 128, 128, 128, 128, 128, 128, 1},
		"no end":                          bytes.Repeat([]byte{128}, 100),
		"no end, all ones":                bytes.Repeat([]byte{255}, 100),
	} {
		if n, size := record.Get(b); n != 0 || size != 0 {
			t.Errorf("Get of %s (%x) is %d, %d", what, b, n, size)
		}
	}
}

func TestGetOfAll(t *testing.T) {
	for k := range 1 << 24 {
		b := []byte{byte(k), byte(k >> 8), byte(k >> 16)}
		n, size := record.Get(b)
		if wantN, want := number(b); n != wantN || size != want {
			t.Fatalf("Get(%x) is %d, %d, want %d, %d", b, n, size, wantN, want)
		}
	}
	r := rand.New(rand.NewSource(2))
	for range 100_000 {
		b := make([]byte, r.Intn(12))
		for i := range b {
			b[i] = byte(r.Intn(3))<<6 | byte(r.Intn(64))
		}
		n, size := record.Get(b)
		if wantN, want := number(b); n != wantN || size != want {
			t.Fatalf("Get(%x) is %d, %d, want %d, %d", b, n, size, wantN, want)
		}
	}
}

// Promise 2.2: Check.

// run is a batch from a base on of so many records, one behind the other.
func run(base, n int) api.Batch {
	x := api.Batch{Base: base, End: base + n}
	for k := range n {
		x.Records = append(x.Records, api.Record{Offset: base + k})
	}
	return x
}

// with is a batch of three records, of which the middle one is changed.
func with(change func(r *api.Record)) api.Batch {
	x := run(10, 3)
	change(&x.Records[1])
	return x
}

func TestCheckRecords(t *testing.T) {
	long, longer := strings.Repeat("k", api.MaxKey), strings.Repeat("k", api.MaxKey+1)
	big, bigger := strings.Repeat("v", api.MaxValue), strings.Repeat("v", api.MaxValue+1)
	for _, c := range []struct {
		what   string
		want   api.Errno
		change func(r *api.Record)
	}{
		{"no change", api.OK, func(r *api.Record) {}},
		{"the one ahead's Offset", api.ErrArg, func(r *api.Record) { r.Offset = 10 }},
		{"an Offset below Base", api.ErrArg, func(r *api.Record) { r.Offset = 9 }},
		{"the Offset of the one behind", api.ErrArg, func(r *api.Record) { r.Offset = 12 }},
		{"an Offset at End", api.ErrArg, func(r *api.Record) { r.Offset = 13 }},
		{"the least Offset", api.ErrArg, func(r *api.Record) { r.Offset = math.MinInt }},
		{"the greatest Offset", api.ErrArg, func(r *api.Record) { r.Offset = math.MaxInt }},
		{"a Key that is not Keyed", api.ErrArg, func(r *api.Record) { r.Key = "k" }},
		{"an empty Key", api.OK, func(r *api.Record) { r.Keyed = true }},
		{"a Value that is Gone", api.ErrArg, func(r *api.Record) { r.Gone, r.Value = true, "v" }},
		{"Gone, not Keyed", api.OK, func(r *api.Record) { r.Gone = true }},
		{"MaxKey", api.OK, func(r *api.Record) { r.Keyed, r.Key = true, long }},
		{"above MaxKey", api.ErrLimit, func(r *api.Record) { r.Keyed, r.Key = true, longer }},
		{"MaxValue", api.OK, func(r *api.Record) { r.Value = big }},
		{"above MaxValue", api.ErrLimit, func(r *api.Record) { r.Value = bigger }},
		{"MaxTime", api.OK, func(r *api.Record) { r.Time = api.MaxTime }},
		{"above MaxTime", api.ErrRange, func(r *api.Record) { r.Time = api.MaxTime + 1 }},
		{"below 0", api.ErrRange, func(r *api.Record) { r.Time = -1 }},
		{"the least Time", api.ErrRange, func(r *api.Record) { r.Time = math.MinInt }},
		{"ErrArg ahead of ErrLimit", api.ErrArg, func(r *api.Record) { r.Key, r.Time = longer, -1 }},
		{"ErrArg of a Value ahead of ErrLimit", api.ErrArg, func(r *api.Record) { r.Gone, r.Value = true, bigger }},
		{"ErrLimit ahead of ErrRange", api.ErrLimit, func(r *api.Record) { r.Value, r.Time = bigger, -1 }},
	} {
		x := with(c.change)
		told(t, "Check with "+c.what, record.Check(x), c.want)
		b, err := record.Encode(x)
		told(t, "Encode with "+c.what, err, c.want)
		if (len(b) == 0) != (c.want != api.OK) {
			t.Errorf("Encode with %s: %d bytes", c.what, len(b))
		}
	}
}

func TestCheckBatch(t *testing.T) {
	for _, c := range []struct {
		what string
		want api.Errno
		x    api.Batch
	}{
		{"no records", api.OK, api.Batch{Base: 0, End: 1}},
		{"one that begins behind Base and ends ahead of End", api.OK, api.Batch{Base: 3, End: 9, Records: []api.Record{{Offset: 5}}}},
		{"up to MaxTime", api.OK, run(api.MaxTime-3, 3)},
		{"MaxRecords of them", api.OK, run(7, api.MaxRecords)},
		{"End MaxRecords above Base", api.OK, api.Batch{Base: 7, End: 7 + api.MaxRecords}},
		{"Base below 0", api.ErrRange, run(-1, 3)},
		{"the least Base", api.ErrRange, api.Batch{Base: math.MinInt, End: math.MaxInt}},
		{"End above MaxTime", api.ErrRange, run(api.MaxTime-2, 3)},
		{"the greatest End", api.ErrRange, api.Batch{Base: 0, End: math.MaxInt}},
		{"Base at End", api.ErrArg, api.Batch{Base: 4, End: 4}},
		{"nothing", api.ErrArg, api.Batch{}},
		{"Base above End", api.ErrArg, api.Batch{Base: 5, End: 4}},
		{"the least End", api.ErrArg, api.Batch{Base: math.MaxInt, End: math.MinInt}},
		{"too many", api.ErrLimit, run(7, api.MaxRecords+1)},
		{"too many within End", api.ErrLimit, api.Batch{Base: 7, End: 8, Records: run(7, api.MaxRecords+1).Records}},
		{"End too far off", api.ErrLimit, api.Batch{Base: 7, End: 8 + api.MaxRecords}},
		{"ErrRange ahead of ErrArg", api.ErrRange, api.Batch{Base: -1, End: -1}},
		{"ErrRange of End ahead of ErrArg", api.ErrRange, api.Batch{Base: math.MaxInt, End: api.MaxTime + 1}},
		{"ErrArg ahead of ErrLimit", api.ErrArg, api.Batch{Base: 8, End: 8, Records: run(7, api.MaxRecords+1).Records}},
		{"ErrLimit ahead of its records", api.ErrLimit, api.Batch{Base: 7, End: 8 + api.MaxRecords, Records: []api.Record{{Offset: 1}}}},
		{"the first record's ErrRange ahead of the second's ErrArg", api.ErrRange, api.Batch{Base: 0, End: 2, Records: []api.Record{{Time: -1}, {Offset: 9}}}},
		{"the first record below Base", api.ErrArg, api.Batch{Base: 3, End: 9, Records: []api.Record{{Offset: 2}}}},
		{"the last record at End", api.ErrArg, api.Batch{Base: 3, End: 9, Records: []api.Record{{Offset: 3}, {Offset: 9}}}},
	} {
		given := slices.Clone(c.x.Records)
		told(t, "Check of "+c.what, record.Check(c.x), c.want)
		b, err := record.Encode(c.x)
		told(t, "Encode of "+c.what, err, c.want)
		if (len(b) == 0) != (c.want != api.OK) {
			t.Errorf("Encode of %s: %d bytes", c.what, len(b))
		}
		if !plain.Same(c.x.Records, given) {
			t.Errorf("%s: the records are changed", c.what)
		}
	}
}

// Promise 2.3: Encode and Decode.

func TestEncode(t *testing.T) {
	body := "\xac\x02" + "\x06" + "\x04" +
		"\x00" + "\xe8\x07" + "\x01" + "\x02ab" + "\x03xyz" +
		"\x02" + "\x05" + "\x00" + "\x00" +
		"\x03" + "\x00" + "\x03" + "\x00" +
		"\x04" + "\x80\x80\x80\x80\x80\x20" + "\x02"
	if got, want := encoded(t, mixed()), sealed([]byte(body)); !bytes.Equal(got, want) {
		t.Errorf("Encode is\n%x, want\n%x", got, want)
	}
	got := fmt.Sprintf("%x", encoded(t, api.Batch{Base: 0, End: 1}))
	if want := fmt.Sprintf("%x", sealed([]byte{0, 1, 0})); got != want || got[:8] != "0000000b" {
		t.Errorf("Encode of no records is %s, want %s", got, want)
	}
}

// filled is a batch that takes so many bytes (some 5000 to 6100).
func filled(t *testing.T, size int) api.Batch {
	t.Helper()
	x := run(0, 12)
	for k := range x.Records {
		x.Records[k].Value = strings.Repeat("v", 400)
	}
	least := len(encoded(t, x))
	for k := 0; least < size; k++ {
		more := min(size-least, 100)
		x.Records[k].Value += strings.Repeat("w", more)
		least += more
	}
	return x
}

func TestEncodeLimit(t *testing.T) {
	x := filled(t, api.MaxBatch)
	b := encoded(t, x)
	if len(b) != api.MaxBatch {
		t.Fatalf("the batch takes %d bytes", len(b))
	}
	y, n, err := record.Decode(b)
	if err != nil || n != len(b) || !same(x, y) {
		t.Errorf("Decode of MaxBatch bytes: %d, %v", n, err)
	}
	b, err = record.Encode(filled(t, api.MaxBatch+1))
	told(t, "Encode of one byte too many", err, api.ErrLimit)
	if len(b) != 0 {
		t.Errorf("%d bytes beside an error", len(b))
	}
	x = filled(t, api.MaxBatch+1)
	x.Records[11].Time = -1
	_, err = record.Encode(x)
	told(t, "Check's error ahead of ErrLimit", err, api.ErrRange)
}

func TestDecode(t *testing.T) {
	r := rand.New(rand.NewSource(3))
	l := []api.Batch{mixed(), {Base: 0, End: 1}, {Base: api.MaxTime - 1, End: api.MaxTime}, run(5, api.MaxRecords)}
	for range 200 {
		if x := drawn(r); record.Check(x) == nil {
			l = append(l, x)
		}
	}
	for _, x := range l {
		b := encoded(t, x)
		for _, behind := range []string{"", "\x00", "more", string(b)} {
			given := append(slices.Clip(b), behind...)
			y, n, err := record.Decode(given)
			if err != nil || n != len(b) || !same(x, y) {
				t.Fatalf("Decode of %v, then %x: %v, %d, %v", x, behind, y, n, err)
			}
			if !bytes.Equal(given, append(slices.Clip(b), behind...)) {
				t.Fatalf("Decode wrote into what came in")
			}
		}
	}
}

func TestDecodeFull(t *testing.T) {
	b := encoded(t, mixed())
	for k := range b {
		formless(t, fmt.Sprint("the first ", k, " bytes"), b[:k], api.ErrFull)
	}
	formless(t, "seven bytes that tell no length", []byte("\xff\xff\xff\xff\xff\xff\xff"), api.ErrFull)
	for size, want := range map[int]api.Errno{
		0: api.ErrForm, 8: api.ErrForm, 10: api.ErrForm, 11: api.ErrFull, 12: api.ErrFull, 256: api.ErrFull,
		api.MaxBatch: api.ErrFull, api.MaxBatch + 1: api.ErrForm, 1 << 16: api.ErrForm, 1 << 31: api.ErrForm, 1<<32 - 1: api.ErrForm,
	} {
		head := binary.BigEndian.AppendUint32(nil, uint32(size))
		formless(t, fmt.Sprint("8 bytes that tell ", size), append(head, 0, 0, 0, 0), want)
	}
	formless(t, "MaxBatch, less one byte", encoded(t, filled(t, api.MaxBatch))[:api.MaxBatch-1], api.ErrFull)
}

// A length that no batch has is told, however many bytes there are.
func TestDecodeLength(t *testing.T) {
	for _, size := range []int{0, 9, 10, api.MaxBatch + 1} {
		body := make([]byte, max(size-8, 0))
		copy(body, "\x00\x01")
		b := append(sealed(body), make([]byte, api.MaxBatch)...)
		binary.BigEndian.PutUint32(b, uint32(size))
		formless(t, fmt.Sprint("bytes that tell ", size), b, api.ErrForm)
	}
}

func TestDecodeTurnedBit(t *testing.T) {
	for _, x := range []api.Batch{mixed(), {Base: 0, End: 1}, run(1000, 9)} {
		b := append(encoded(t, x), make([]byte, api.MaxBatch)...)
		for k := range 8 * (len(b) - api.MaxBatch) {
			b[k/8] ^= 1 << (k % 8)
			formless(t, fmt.Sprint("bit ", k, " turned"), b, api.ErrForm)
			b[k/8] ^= 1 << (k % 8)
		}
	}
}

func TestDecodeForm(t *testing.T) {
	if _, _, err := record.Decode(sealed([]byte("\x05\x02\x01" + "\x00\x00\x03\x01k"))); err != nil {
		t.Fatalf("a body of a record, keyed and gone: %v", err)
	}
	for what, body := range map[string]string{
		"Base in a longer way":          "\x85\x00\x02\x00",
		"Base above MaxTime":            "\x81\x80\x80\x80\x80\x20\x01\x00",
		"End above MaxTime":             "\x80\x80\x80\x80\x80\x20\x01\x00",
		"End at Base":                   "\x05\x00\x00",
		"End too far off":               "\x05\x33\x00",
		"fewer records than told":       "\x05\x02\x01",
		"fewer records than told, two":  "\x05\x02\x02" + "\x00\x00\x02",
		"more records than told":        "\x05\x02\x00" + "\x00\x00\x02",
		"very many records":             "\x05\x02\x80\x80\x80\x80\x80\x20" + "\x00\x00\x02",
		"a number of records cut off":   "\x05\x02\x80",
		"a byte too many":               "\x05\x02\x01" + "\x00\x00\x02" + "\x00",
		"a record at End":               "\x05\x02\x01" + "\x02\x00\x02",
		"two records at one place":      "\x05\x02\x02" + "\x00\x00\x02" + "\x00\x00\x02",
		"records that fall":             "\x05\x02\x02" + "\x01\x00\x02" + "\x00\x00\x02",
		"a Time in a longer way":        "\x05\x02\x01" + "\x00\x80\x00\x02",
		"a Time above MaxTime":          "\x05\x02\x01" + "\x00\x81\x80\x80\x80\x80\x20\x02",
		"marks of 4":                    "\x05\x02\x01" + "\x00\x00\x04\x00",
		"marks of 6":                    "\x05\x02\x01" + "\x00\x00\x06",
		"marks of 2 to the 35":          "\x05\x02\x01" + "\x00\x00\x80\x80\x80\x80\x80\x01\x00",
		"no marks":                      "\x05\x02\x01" + "\x00\x00",
		"a Value of a record that went": "\x05\x02\x01" + "\x00\x00\x02\x01v",
		"a Value cut off":               "\x05\x02\x01" + "\x00\x00\x00\x02v",
		"no Value":                      "\x05\x02\x01" + "\x00\x00\x00",
		"a Key cut off":                 "\x05\x02\x01" + "\x00\x00\x03\x02k",
		"a Key, but no Value":           "\x05\x02\x01" + "\x00\x00\x01\x01k",
		"a Key's length, longer":        "\x05\x02\x01" + "\x00\x00\x03\x81\x00k",
		"a Key's length, very long":     "\x05\x02\x01" + "\x00\x00\x03\x80\x80\x80\x80\x80\x20k",
		"a Key above MaxKey":            "\x05\x02\x01" + "\x00\x00\x03\x3d" + strings.Repeat("k", 61),
		"a Value above MaxValue":        "\x05\x02\x01" + "\x00\x00\x00\xf5\x03" + strings.Repeat("v", 501),
		"too many records":              "\x05\x32\x33" + strings.Repeat("\x00\x00\x02", 51),
	} {
		formless(t, what, sealed([]byte(body)), api.ErrForm)
	}
}

// Whatever is told to be a batch is what Encode writes for it.
func TestDecodeOfAnything(t *testing.T) {
	r := rand.New(rand.NewSource(4))
	read := 0
	for range 50_000 {
		body := slices.Clone(encoded(t, mixed())[8:])
		for range 1 + r.Intn(2) {
			body[r.Intn(len(body))] = byte(r.Intn(3))<<6 | byte(r.Intn(8))
		}
		b := sealed(body[:len(body)-r.Intn(2)])
		x, n, err := record.Decode(b)
		if err != nil {
			formless(t, fmt.Sprintf("%x", b), b, api.ErrForm)
			continue
		}
		read++
		if again, err := record.Encode(x); err != nil || n != len(b) || !bytes.Equal(again, b) {
			t.Fatalf("Decode(%x) is %v, %d, which Encode writes as %x, %v", b, x, n, again, err)
		}
	}
	if read == 0 {
		t.Errorf("none of these bodies was a batch")
	}
}

func TestWhatComesOutIsFresh(t *testing.T) {
	x := mixed()
	b, c := encoded(t, x), encoded(t, x)
	y, _, err := record.Decode(b)
	z, _, _ := record.Decode(b)
	told(t, "Decode", err, api.OK)
	clear(b)
	if !same(x, y) || !bytes.Equal(c, encoded(t, x)) {
		t.Errorf("behind a change of the bytes: %v, %x", y, c)
	}
	clear(y.Records)
	if !same(x, z) {
		t.Errorf("two batches share memory: %v", z)
	}
	if !same(x, mixed()) {
		t.Errorf("Encode changed what came in: %v", x)
	}
}

func Example() {
	b, _ := record.Encode(api.Batch{Base: 7, End: 8, Records: []api.Record{{Offset: 7, Time: 3, Value: "xy"}}})
	x, n, _ := record.Decode(b)
	fmt.Println(n, x.Base, x.End, x.Records[0].Value)
	// Output: 17 7 8 xy
}
