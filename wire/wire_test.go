package wire_test

import (
	"bytes"
	"encoding/binary"
	"fmt"
	"math"
	"math/rand"
	"reflect"
	"slices"
	"strings"
	"testing"

	"conveyor/api"
	"conveyor/plain"
	"conveyor/wire"
)

// told fails, unless an error is that Errno, without a place.
func told(t *testing.T, what string, err error, want api.Errno) {
	t.Helper()
	if got, bare := plain.Bare(err); got != want || !bare || (err == nil) != (want == api.OK) {
		t.Errorf("%s: %v, want Errno %d, bare", what, err, int(want))
	}
}

// framed lays a head before what stands behind it.
func framed(body string) []byte {
	return append(binary.BigEndian.AppendUint32(nil, uint32(len(body))), body...)
}

// sameRequest says whether two requests are the same.
func sameRequest(x, y api.Request) bool {
	same := plain.Same(x.Records, y.Records)
	x.Records, y.Records = nil, nil
	return same && reflect.DeepEqual(x, y)
}

// sameAnswer says whether two answers are the same.
func sameAnswer(x, y api.Answer) bool {
	same := plain.Same(x.Records, y.Records) && slices.Equal(x.Topics, y.Topics)
	x.Records, y.Records, x.Topics, y.Topics = nil, nil, nil, nil
	return same && reflect.DeepEqual(x, y)
}

// asks fails, unless Ask writes that frame (nothing beside an error).
func asks(t *testing.T, what string, x api.Request, want []byte, wrong api.Errno) {
	t.Helper()
	given := slices.Clone(x.Records)
	b, err := wire.Ask(x)
	told(t, "Ask of "+what, err, wrong)
	if !bytes.Equal(b, want) {
		t.Errorf("Ask of %s: %.200x, want %.200x", what, b, want)
	}
	if !plain.Same(x.Records, given) {
		t.Errorf("Ask of %s wrote into what came in", what)
	}
}

// tells fails, unless Tell writes that frame (nothing beside an error).
func tells(t *testing.T, what string, x api.Answer, want []byte, wrong api.Errno) {
	t.Helper()
	records, topics := slices.Clone(x.Records), slices.Clone(x.Topics)
	b, err := wire.Tell(x)
	told(t, "Tell of "+what, err, wrong)
	if !bytes.Equal(b, want) {
		t.Errorf("Tell of %s: %.200x, want %.200x", what, b, want)
	}
	if !plain.Same(x.Records, records) || !slices.Equal(x.Topics, topics) {
		t.Errorf("Tell of %s wrote into what came in", what)
	}
}

// asked fails, unless Asked reads that request, whatever stands behind its frame.
func asked(t *testing.T, what string, b []byte, want api.Request) {
	t.Helper()
	for _, behind := range []string{"", "\x00", "more", string(b)} {
		given := append(slices.Clip(b), behind...)
		x, n, err := wire.Asked(given)
		told(t, "Asked of "+what, err, api.OK)
		if n != len(b) || !sameRequest(x, want) {
			t.Errorf("Asked of %s, then %x: %v, %d, want %v, %d", what, behind, x, n, want, len(b))
		}
		if !bytes.Equal(given, append(slices.Clip(b), behind...)) {
			t.Errorf("Asked of %s wrote into what came in", what)
		}
	}
}

// answered fails, unless Told reads that answer, whatever stands behind its frame.
func answered(t *testing.T, what string, b []byte, want api.Answer) {
	t.Helper()
	for _, behind := range []string{"", "\x00", "more", string(b)} {
		given := append(slices.Clip(b), behind...)
		x, n, err := wire.Told(given)
		told(t, "Told of "+what, err, api.OK)
		if n != len(b) || !sameAnswer(x, want) {
			t.Errorf("Told of %s, then %x: %v, %d, want %v, %d", what, behind, x, n, want, len(b))
		}
		if !bytes.Equal(given, append(slices.Clip(b), behind...)) {
			t.Errorf("Told of %s wrote into what came in", what)
		}
	}
}

// noRequest fails, unless bytes begin with no request's frame, for this reason.
func noRequest(t *testing.T, what string, b []byte, want api.Errno) {
	t.Helper()
	x, n, err := wire.Asked(b)
	told(t, "Asked of "+what, err, want)
	if n != 0 || !sameRequest(x, api.Request{}) {
		t.Errorf("Asked of %s: %v and %d beside an error", what, x, n)
	}
}

// noAnswer fails, unless bytes begin with no answer's frame, for this reason.
func noAnswer(t *testing.T, what string, b []byte, want api.Errno) {
	t.Helper()
	x, n, err := wire.Told(b)
	told(t, "Told of "+what, err, want)
	if n != 0 || !sameAnswer(x, api.Answer{}) {
		t.Errorf("Told of %s: %v and %d beside an error", what, x, n)
	}
}

// mixed is records of each kind.
func mixed() []api.Record {
	return []api.Record{
		{Offset: 300, Time: 1000, Keyed: true, Key: "ab", Value: "xyz"},
		{Offset: 302, Time: 5, Value: ""},
		{Offset: 303, Time: 0, Keyed: true, Key: "", Gone: true},
		{Offset: api.MaxTime, Time: api.MaxTime, Gone: true},
	}
}

// placeless is records without their Offsets.
func placeless(l []api.Record) []api.Record {
	l = slices.Clone(l)
	for k := range l {
		l[k].Offset = 0
	}
	return l
}

// asking is a request of a kind that has something in every field.
func asking(kind int) api.Request {
	return api.Request{Kind: kind, Corr: 200, Topic: "abc", Part: 3, Offset: 130, Most: 131, Least: 132, Wait: 133, Time: 134, Parts: 4, Sure: true, Compact: true, Records: mixed()}
}

// answering is an answer of a kind that has something in every field, but an Err.
func answering(kind int) api.Answer {
	return api.Answer{Kind: kind, Corr: 200, Offset: 130, Start: 131, End: 132, Found: true, Records: mixed(), Topics: []api.Topic{{Name: "abc", Parts: 4, Compact: true}, {Name: "", Parts: 0}}}
}

// maxed is MaxTime as Put writes it.
const maxed = "\x80\x80\x80\x80\x80\x20"

// frameOfAsking is the frame of asking's request.
func frameOfAsking(kind int) []byte {
	body := string([]byte{byte(kind)}) + "\xc8\x01"
	if kind != api.Describe {
		body += "\x03abc"
	}
	return framed(body + map[int]string{
		api.Produce: "\x03" + "\x01" + "\x04" +
			"\xe8\x07" + "\x01" + "\x02ab" + "\x00" + "\x03xyz" +
			"\x05" + "\x00" + "\x00" + "\x00" +
			"\x00" + "\x01" + "\x00" + "\x01" +
			maxed + "\x00" + "\x01",
		api.Fetch:  "\x03" + "\x82\x01" + "\x83\x01" + "\x84\x01" + "\x85\x01",
		api.Since:  "\x03" + "\x86\x01",
		api.Forget: "\x03" + "\x82\x01",
		api.Create: "\x04" + "\x01",
	}[kind])
}

// frameOfAnswering is the frame of answering's answer.
func frameOfAnswering(kind int) []byte {
	return framed(string([]byte{byte(kind)}) + "\xc8\x01" + "\x00" + map[int]string{
		api.Produce: "\x82\x01",
		api.Fetch: "\x83\x01" + "\x84\x01" + "\x04" +
			"\xac\x02" + "\xe8\x07" + "\x01" + "\x02ab" + "\x00" + "\x03xyz" +
			"\xae\x02" + "\x05" + "\x00" + "\x00" + "\x00" +
			"\xaf\x02" + "\x00" + "\x01" + "\x00" + "\x01" +
			maxed + maxed + "\x00" + "\x01",
		api.Since:    "\x01" + "\x82\x01",
		api.Forget:   "\x83\x01",
		api.Describe: "\x02" + "\x03abc" + "\x04" + "\x01" + "\x00" + "\x00" + "\x00",
	}[kind])
}

// askedBack is what is told of asking's request.
func askedBack(kind int) api.Request {
	return map[int]api.Request{
		api.Produce:  {Kind: kind, Corr: 200, Topic: "abc", Part: 3, Sure: true, Records: placeless(mixed())},
		api.Fetch:    {Kind: kind, Corr: 200, Topic: "abc", Part: 3, Offset: 130, Most: 131, Least: 132, Wait: 133},
		api.Since:    {Kind: kind, Corr: 200, Topic: "abc", Part: 3, Time: 134},
		api.Forget:   {Kind: kind, Corr: 200, Topic: "abc", Part: 3, Offset: 130},
		api.Create:   {Kind: kind, Corr: 200, Topic: "abc", Parts: 4, Compact: true},
		api.Drop:     {Kind: kind, Corr: 200, Topic: "abc"},
		api.Describe: {Kind: kind, Corr: 200},
	}[kind]
}

// answeredBack is what is told of answering's answer.
func answeredBack(kind int) api.Answer {
	x := answering(kind)
	return map[int]api.Answer{
		api.Produce:  {Kind: kind, Corr: 200, Offset: 130},
		api.Fetch:    {Kind: kind, Corr: 200, Start: 131, End: 132, Records: x.Records},
		api.Since:    {Kind: kind, Corr: 200, Found: true, Offset: 130},
		api.Forget:   {Kind: kind, Corr: 200, Start: 131},
		api.Create:   {Kind: kind, Corr: 200},
		api.Drop:     {Kind: kind, Corr: 200},
		api.Describe: {Kind: kind, Corr: 200, Topics: x.Topics},
	}[kind]
}

// Promise 7.1: what a frame has.

func TestRequests(t *testing.T) {
	for kind := api.Produce; kind <= api.Describe; kind++ {
		what := fmt.Sprint("a request of kind ", kind)
		asks(t, what, asking(kind), frameOfAsking(kind), api.OK)
		asked(t, what, frameOfAsking(kind), askedBack(kind))
	}
}

func TestRequestsOfNothing(t *testing.T) {
	for kind, body := range map[int]string{
		api.Produce: "\x01\x00\x00\x00\x00\x00", api.Fetch: "\x02\x00\x00\x00\x00\x00\x00\x00", api.Since: "\x03\x00\x00\x00\x00",
		api.Forget: "\x04\x00\x00\x00\x00", api.Create: "\x05\x00\x00\x00\x00", api.Drop: "\x06\x00\x00", api.Describe: "\x07\x00",
	} {
		what := fmt.Sprint("an empty request of kind ", kind)
		asks(t, what, api.Request{Kind: kind}, framed(body), api.OK)
		asked(t, what, framed(body), api.Request{Kind: kind})
	}
}

func TestAnswers(t *testing.T) {
	for kind := api.Produce; kind <= api.Describe; kind++ {
		what := fmt.Sprint("an answer of kind ", kind)
		tells(t, what, answering(kind), frameOfAnswering(kind), api.OK)
		answered(t, what, frameOfAnswering(kind), answeredBack(kind))
	}
}

func TestAnswersOfNothing(t *testing.T) {
	for kind, body := range map[int]string{
		api.Produce: "\x01\x00\x00\x00", api.Fetch: "\x02\x00\x00\x00\x00\x00", api.Since: "\x03\x00\x00\x00",
		api.Forget: "\x04\x00\x00\x00", api.Create: "\x05\x00\x00", api.Drop: "\x06\x00\x00", api.Describe: "\x07\x00\x00\x00",
	} {
		what := fmt.Sprint("an empty answer of kind ", kind)
		tells(t, what, api.Answer{Kind: kind}, framed(body), api.OK)
		answered(t, what, framed(body), api.Answer{Kind: kind})
	}
}

// With an Err an answer has nothing but that.
func TestAnswersOfErrors(t *testing.T) {
	for kind := api.Produce; kind <= api.Describe; kind++ {
		for e := api.ErrArg; e <= api.ErrSpoilt; e++ {
			what := fmt.Sprint("an answer of kind ", kind, " with Err ", int(e))
			x := answering(kind)
			x.Err, x.Offset, x.Start, x.End, x.Records[0].Time, x.Topics[0].Parts = e, -1, -1, -1, -1, -1
			b := framed(string([]byte{byte(kind), 200, 1, byte(e)}))
			tells(t, what, x, b, api.OK)
			answered(t, what, b, api.Answer{Kind: kind, Corr: 200, Err: e})
		}
	}
}

func TestSinceNotFound(t *testing.T) {
	x := answering(api.Since)
	x.Found, x.Offset = false, -1
	tells(t, "a Since that is not Found", x, framed("\x03\xc8\x01\x00\x00"), api.OK)
	x.Found, x.Offset = true, 0
	tells(t, "a Since at 0", x, framed("\x03\xc8\x01\x00\x01\x00"), api.OK)
	answered(t, "a Since at 0", framed("\x03\xc8\x01\x00\x01\x00"), api.Answer{Kind: api.Since, Corr: 200, Found: true})
}

// What a record does not tell may be whatever it is.
func TestRecordsTellNoMore(t *testing.T) {
	long := strings.Repeat("x", api.MaxValue+1)
	l := []api.Record{{Offset: 1, Key: long, Value: "v"}, {Offset: 2, Gone: true, Value: long}, {Offset: 3, Key: "k", Gone: true, Value: "v"}}
	told := []api.Record{{Offset: 1, Value: "v"}, {Offset: 2, Gone: true}, {Offset: 3, Gone: true}}
	b := framed("\x02\x00\x00" + "\x00\x00\x03" + "\x01\x00\x00\x00\x01v" + "\x02\x00\x00\x01" + "\x03\x00\x00\x01")
	tells(t, "records of which not all is told", api.Answer{Kind: api.Fetch, Records: l}, b, api.OK)
	answered(t, "records of which not all is told", b, api.Answer{Kind: api.Fetch, Records: told})
	l[0].Offset, l[1].Offset, l[2].Offset = -1, math.MinInt, math.MaxInt
	b = framed("\x01\x00\x00\x00\x00\x03" + "\x00\x00\x00\x01v" + "\x00\x00\x01" + "\x00\x00\x01")
	asks(t, "records of which not all is told", api.Request{Kind: api.Produce, Records: l}, b, api.OK)
	asked(t, "records of which not all is told", b, api.Request{Kind: api.Produce, Records: placeless(told)})
}

// field is a number of a request or an answer, and what kinds tell it.
type field[X any] struct {
	name  string
	kinds []int
	at    func(x *X) *int
}

// all is all kinds.
func all() []int {
	return []int{api.Produce, api.Fetch, api.Since, api.Forget, api.Create, api.Drop, api.Describe}
}

// requestFields is the numbers of a request, but its Kind.
func requestFields() []field[api.Request] {
	return []field[api.Request]{
		{"Corr", all(), func(x *api.Request) *int { return &x.Corr }},
		{"Part", []int{api.Produce, api.Fetch, api.Since, api.Forget}, func(x *api.Request) *int { return &x.Part }},
		{"Offset", []int{api.Fetch, api.Forget}, func(x *api.Request) *int { return &x.Offset }},
		{"Most", []int{api.Fetch}, func(x *api.Request) *int { return &x.Most }},
		{"Least", []int{api.Fetch}, func(x *api.Request) *int { return &x.Least }},
		{"Wait", []int{api.Fetch}, func(x *api.Request) *int { return &x.Wait }},
		{"Time", []int{api.Since}, func(x *api.Request) *int { return &x.Time }},
		{"Parts", []int{api.Create}, func(x *api.Request) *int { return &x.Parts }},
		{"the second record's Time", []int{api.Produce}, func(x *api.Request) *int { return &x.Records[1].Time }},
		{"the second record's Offset", nil, func(x *api.Request) *int { return &x.Records[1].Offset }},
	}
}

// answerFields is the numbers of an answer, but its Kind.
func answerFields() []field[api.Answer] {
	return []field[api.Answer]{
		{"Corr", all(), func(x *api.Answer) *int { return &x.Corr }},
		{"Offset", []int{api.Produce, api.Since}, func(x *api.Answer) *int { return &x.Offset }},
		{"Start", []int{api.Fetch, api.Forget}, func(x *api.Answer) *int { return &x.Start }},
		{"End", []int{api.Fetch}, func(x *api.Answer) *int { return &x.End }},
		{"the second record's Time", []int{api.Fetch}, func(x *api.Answer) *int { return &x.Records[1].Time }},
		{"the second record's Offset", []int{api.Fetch}, func(x *api.Answer) *int { return &x.Records[1].Offset }},
		{"the second topic's Parts", []int{api.Describe}, func(x *api.Answer) *int { return &x.Topics[1].Parts }},
	}
}

// Numbers are from 0 to MaxTime: those that a kind tells come back, those that it does not are 0.
func TestNumbers(t *testing.T) {
	numbers := []int{0, 1, 127, 128, 16383, 16384, 1<<35 - 1, 1 << 35, api.MaxTime - 1, api.MaxTime}
	for _, n := range numbers {
		for kind := api.Produce; kind <= api.Describe; kind++ {
			for _, f := range requestFields() {
				what := fmt.Sprint("a request of kind ", kind, ", ", f.name, " ", n)
				x, want := asking(kind), askedBack(kind)
				if *f.at(&x) = n; slices.Contains(f.kinds, kind) {
					*f.at(&want) = n
				}
				b, err := wire.Ask(x)
				told(t, "Ask of "+what, err, api.OK)
				asked(t, what, b, want)
			}
			for _, f := range answerFields() {
				what := fmt.Sprint("an answer of kind ", kind, ", ", f.name, " ", n)
				x, want := answering(kind), answeredBack(kind)
				if *f.at(&x) = n; slices.Contains(f.kinds, kind) {
					*f.at(&want) = n
				}
				b, err := wire.Tell(x)
				told(t, "Tell of "+what, err, api.OK)
				answered(t, what, b, want)
			}
		}
	}
}

// Texts are bytes, of whatever kind.
func TestTexts(t *testing.T) {
	for _, s := range []string{"", "a", "\x00", "\xff\xfe", "é\n", strings.Repeat("\x80", api.MaxName)} {
		x := api.Request{Kind: api.Produce, Topic: s, Records: []api.Record{{Keyed: true, Key: s, Value: s}}}
		n := string([]byte{byte(len(s))}) + s
		b := framed("\x01\x00" + n + "\x00\x00\x01" + "\x00\x01" + n + "\x00" + n)
		asks(t, fmt.Sprintf("texts %q", s), x, b, api.OK)
		asked(t, fmt.Sprintf("texts %q", s), b, x)
		y := api.Answer{Kind: api.Describe, Topics: []api.Topic{{Name: s}}}
		b = framed("\x07\x00\x00\x01" + n + "\x00\x00")
		tells(t, fmt.Sprintf("a name %q", s), y, b, api.OK)
		answered(t, fmt.Sprintf("a name %q", s), b, y)
	}
}

// Frames that come one behind the other are read one by one.
func TestFramesInARow(t *testing.T) {
	var b []byte
	for kind := api.Produce; kind <= api.Describe; kind++ {
		b = append(b, frameOfAsking(kind)...)
	}
	for kind := api.Produce; kind <= api.Describe; kind++ {
		x, n, err := wire.Asked(b)
		if err != nil || !sameRequest(x, askedBack(kind)) {
			t.Fatalf("the frame of kind %d: %v, %v", kind, x, err)
		}
		b = b[n:]
	}
	noRequest(t, "what is behind all", b, api.ErrFull)
}

// Promise 7.2: what is wrong.

// noKinds is numbers that are no kinds.
func noKinds() []int {
	return []int{0, -1, 8, 9, 127, 128, 1 << 32, 1<<32 + 1, 1<<40 + 1, math.MinInt, math.MaxInt}
}

func TestNoKind(t *testing.T) {
	for _, kind := range noKinds() {
		what := fmt.Sprint("kind ", kind)
		asks(t, what, asking(kind), nil, api.ErrArg)
		tells(t, what, answering(kind), nil, api.ErrArg)
		x := api.Request{Kind: kind, Corr: -1, Topic: strings.Repeat("t", api.MaxName+1)}
		asks(t, what+", and much else that is wrong", x, nil, api.ErrArg)
		tells(t, what+", with an Err", api.Answer{Kind: kind, Corr: -1, Err: api.ErrArg}, nil, api.ErrArg)
	}
}

func TestNoErr(t *testing.T) {
	for _, e := range []api.Errno{-1, api.ErrSpoilt + 1, 17, 1 << 40, math.MinInt, math.MaxInt} {
		for kind := api.Produce; kind <= api.Describe; kind++ {
			x := answering(kind)
			x.Err = e
			tells(t, fmt.Sprint("kind ", kind, ", Err ", int(e)), x, nil, api.ErrArg)
			x.Corr = -1
			tells(t, fmt.Sprint("kind ", kind, ", Err ", int(e), ", Corr -1"), x, nil, api.ErrArg)
		}
	}
	tells(t, "an Err, Corr -1", api.Answer{Kind: api.Drop, Corr: -1, Err: api.ErrFull}, nil, api.ErrRange)
}

// A number that may not be is ErrRange where it is told, and nothing where it isn't.
func TestNumbersThatMayNotBe(t *testing.T) {
	for _, n := range []int{math.MinInt, -api.MaxTime, -1, api.MaxTime + 1, 1 << 41, math.MaxInt} {
		for kind := api.Produce; kind <= api.Describe; kind++ {
			for _, f := range requestFields() {
				x, want, wrong := asking(kind), frameOfAsking(kind), api.OK
				if *f.at(&x) = n; slices.Contains(f.kinds, kind) {
					want, wrong = nil, api.ErrRange
				}
				asks(t, fmt.Sprint("a request of kind ", kind, ", ", f.name, " ", n), x, want, wrong)
			}
			for _, f := range answerFields() {
				x, want, wrong := answering(kind), frameOfAnswering(kind), api.OK
				if *f.at(&x) = n; slices.Contains(f.kinds, kind) {
					want, wrong = nil, api.ErrRange
				}
				tells(t, fmt.Sprint("an answer of kind ", kind, ", ", f.name, " ", n), x, want, wrong)
			}
		}
	}
}

func TestTopicLimit(t *testing.T) {
	for kind := api.Produce; kind <= api.Describe; kind++ {
		x, want := api.Request{Kind: kind, Topic: strings.Repeat("t", api.MaxName)}, api.Request{Kind: kind}
		if kind != api.Describe {
			want.Topic = x.Topic
		}
		b, err := wire.Ask(x)
		told(t, fmt.Sprint("Ask of kind ", kind, ", Topic of MaxName"), err, api.OK)
		asked(t, "a Topic of MaxName", b, want)
		if x.Topic += "t"; kind != api.Describe {
			asks(t, fmt.Sprint("kind ", kind, ", Topic above MaxName"), x, nil, api.ErrLimit)
		} else {
			asks(t, "Describe, Topic above MaxName", x, b, api.OK)
		}
	}
}

func TestNameLimit(t *testing.T) {
	x := api.Answer{Kind: api.Describe, Topics: []api.Topic{{Name: "a"}, {Name: strings.Repeat("n", api.MaxName)}, {Name: "c"}}}
	b, err := wire.Tell(x)
	told(t, "Tell of a Name of MaxName", err, api.OK)
	answered(t, "a Name of MaxName", b, x)
	x.Topics[1].Name += "n"
	tells(t, "a Name above MaxName", x, nil, api.ErrLimit)
}

func TestRecordLimits(t *testing.T) {
	for _, c := range []struct {
		what string
		want api.Errno
		r    api.Record
	}{
		{"MaxKey", api.OK, api.Record{Keyed: true, Key: strings.Repeat("k", api.MaxKey)}},
		{"above MaxKey", api.ErrLimit, api.Record{Keyed: true, Key: strings.Repeat("k", api.MaxKey+1)}},
		{"far above MaxKey", api.ErrLimit, api.Record{Keyed: true, Key: strings.Repeat("k", 1<<20)}},
		{"above MaxKey, gone", api.ErrLimit, api.Record{Keyed: true, Key: strings.Repeat("k", api.MaxKey+1), Gone: true}},
		{"MaxValue", api.OK, api.Record{Value: strings.Repeat("v", api.MaxValue)}},
		{"above MaxValue", api.ErrLimit, api.Record{Value: strings.Repeat("v", api.MaxValue+1)}},
		{"far above MaxValue", api.ErrLimit, api.Record{Value: strings.Repeat("v", 1<<20)}},
		{"both", api.OK, api.Record{Keyed: true, Key: strings.Repeat("k", api.MaxKey), Value: strings.Repeat("v", api.MaxValue)}},
	} {
		l := []api.Record{{Value: "a"}, c.r, {Value: "b"}}
		x, y := api.Request{Kind: api.Produce, Records: l}, api.Answer{Kind: api.Fetch, Records: l}
		if c.want != api.OK {
			asks(t, c.what, x, nil, c.want)
			tells(t, c.what, y, nil, c.want)
			continue
		}
		b, err := wire.Ask(x)
		told(t, "Ask of "+c.what, err, api.OK)
		asked(t, c.what, b, x)
		b, err = wire.Tell(y)
		told(t, "Tell of "+c.what, err, api.OK)
		answered(t, c.what, b, y)
	}
}

// Of several things that are wrong the last one tells, in the order in which they are written.
func TestTheLastThingThatIsWrong(t *testing.T) {
	topic, key, value := strings.Repeat("t", api.MaxName+1), strings.Repeat("k", api.MaxKey+1), strings.Repeat("v", api.MaxValue+1)
	for _, c := range []struct {
		what string
		want api.Errno
		x    api.Request
	}{
		{"Corr, Topic", api.ErrLimit, api.Request{Kind: api.Drop, Corr: -1, Topic: topic}},
		{"Topic, Part", api.ErrRange, api.Request{Kind: api.Since, Topic: topic, Part: -1}},
		{"Topic, Time", api.ErrRange, api.Request{Kind: api.Since, Topic: topic, Time: -1}},
		{"Topic, Wait", api.ErrRange, api.Request{Kind: api.Fetch, Topic: topic, Wait: -1}},
		{"Topic, Offset", api.ErrRange, api.Request{Kind: api.Forget, Topic: topic, Offset: -1}},
		{"Topic, Parts", api.ErrRange, api.Request{Kind: api.Create, Topic: topic, Parts: -1}},
		{"Corr, Topic, what is not told", api.ErrLimit, api.Request{Kind: api.Create, Corr: -1, Topic: topic, Part: -1}},
		{"Part, Value", api.ErrLimit, api.Request{Kind: api.Produce, Part: -1, Records: []api.Record{{Value: value}}}},
		{"Key, Value of one that is gone", api.ErrLimit, api.Request{Kind: api.Produce, Records: []api.Record{{Time: -1, Keyed: true, Key: key, Gone: true, Value: value}}}},
		{"Time, Key", api.ErrLimit, api.Request{Kind: api.Produce, Records: []api.Record{{Time: -1, Keyed: true, Key: key}}}},
		{"Time, Value", api.ErrLimit, api.Request{Kind: api.Produce, Records: []api.Record{{Time: -1, Value: value}}}},
		{"Time, a Key that is not Keyed", api.ErrRange, api.Request{Kind: api.Produce, Records: []api.Record{{Time: -1, Key: key}}}},
		{"Value, Time behind it", api.ErrRange, api.Request{Kind: api.Produce, Records: []api.Record{{Value: value}, {Time: -1}}}},
		{"Time, Value behind it", api.ErrLimit, api.Request{Kind: api.Produce, Records: []api.Record{{Time: -1}, {Value: value}, {}}}},
		{"Value, Offset behind it, not told", api.ErrLimit, api.Request{Kind: api.Produce, Records: []api.Record{{Value: value}, {Offset: -1}}}},
	} {
		asks(t, c.what, c.x, nil, c.want)
	}
	for _, c := range []struct {
		what string
		want api.Errno
		x    api.Answer
	}{
		{"Name, its Parts", api.ErrRange, api.Answer{Kind: api.Describe, Topics: []api.Topic{{Name: topic, Parts: -1}}}},
		{"Parts, Name behind it", api.ErrLimit, api.Answer{Kind: api.Describe, Topics: []api.Topic{{Parts: -1}, {Name: topic}}}},
		{"Corr, Name", api.ErrLimit, api.Answer{Kind: api.Describe, Corr: -1, Topics: []api.Topic{{Name: topic}}}},
		{"End, Value", api.ErrLimit, api.Answer{Kind: api.Fetch, End: -1, Records: []api.Record{{Value: value}}}},
		{"Value, Offset behind it", api.ErrRange, api.Answer{Kind: api.Fetch, Records: []api.Record{{Value: value}, {Offset: -1}}}},
		{"Offset, Value", api.ErrLimit, api.Answer{Kind: api.Fetch, Records: []api.Record{{Offset: -1, Value: value}}}},
	} {
		tells(t, c.what, c.x, nil, c.want)
	}
}

// filled is records that take so many bytes in a frame, some 10,000, without their Offsets, or with ones of a byte each.
func filled(size int, placed bool) []api.Record {
	const many = 25
	around := 5 // Time, Keyed, Gone, and two bytes that tell how long Value is
	if placed {
		around++
	}
	var l []api.Record
	for k := range many {
		l = append(l, api.Record{Offset: k, Value: strings.Repeat("v", size/many-around)})
	}
	l[0].Value += strings.Repeat("w", size%many)
	return l
}

func TestFrameLimit(t *testing.T) {
	for more, wrong := range []api.Errno{api.OK, api.ErrLimit} {
		l := filled(api.MaxFrame-6+more, false)
		x := api.Request{Kind: api.Produce, Records: placeless(l)}
		b, err := wire.Ask(x)
		told(t, fmt.Sprint("Ask of MaxFrame and ", more), err, wrong)
		if wrong != api.OK {
			asks(t, "MaxFrame and 1", x, nil, wrong)
			continue
		}
		if len(b) != 4+api.MaxFrame {
			t.Fatalf("the frame takes %d bytes", len(b))
		}
		asked(t, "MaxFrame", b, x)
		for _, k := range []int{4, 5, len(b) / 2, len(b) - 1} {
			noRequest(t, fmt.Sprint(k, " bytes of MaxFrame"), b[:k], api.ErrFull)
		}
	}
	for more, wrong := range []api.Errno{api.OK, api.ErrLimit} {
		x := api.Answer{Kind: api.Fetch, Records: filled(api.MaxFrame-6+more, true)}
		b, err := wire.Tell(x)
		told(t, fmt.Sprint("Tell of MaxFrame and ", more), err, wrong)
		if wrong != api.OK {
			tells(t, "MaxFrame and 1", x, nil, wrong)
			continue
		}
		if len(b) != 4+api.MaxFrame {
			t.Fatalf("the frame takes %d bytes", len(b))
		}
		answered(t, "MaxFrame", b, x)
		for _, k := range []int{4, 5, len(b) / 2, len(b) - 1} {
			noAnswer(t, fmt.Sprint(k, " bytes of MaxFrame"), b[:k], api.ErrFull)
		}
	}
}

// That a frame is too long is told if nothing else is wrong, wherever that is.
func TestFrameLimitIsLast(t *testing.T) {
	l := slices.Repeat([]api.Record{{Keyed: true, Key: strings.Repeat("k", api.MaxKey), Value: strings.Repeat("v", api.MaxValue)}}, 1<<16)
	x, y := api.Request{Kind: api.Produce, Records: l}, api.Answer{Kind: api.Fetch, Records: l}
	asks(t, "far too many records", x, nil, api.ErrLimit)
	tells(t, "far too many records", y, nil, api.ErrLimit)
	x.Corr, y.Corr = -1, -1
	asks(t, "far too many records, Corr -1", x, nil, api.ErrRange)
	tells(t, "far too many records, Corr -1", y, nil, api.ErrRange)
	x.Corr, y.Corr, l[1<<16-1].Time = 0, 0, -1
	asks(t, "far too many records, the last one's Time -1", x, nil, api.ErrRange)
	tells(t, "far too many records, the last one's Time -1", y, nil, api.ErrRange)
	z := api.Answer{Kind: api.Describe, Topics: make([]api.Topic, 1<<20)}
	tells(t, "far too many topics", z, nil, api.ErrLimit)
	z.Topics[1<<20-1].Parts = api.MaxTime + 1
	tells(t, "far too many topics, the last one's Parts above MaxTime", z, nil, api.ErrRange)
}

// No beginning of a frame is one.
func TestBeginnings(t *testing.T) {
	for kind := api.Produce; kind <= api.Describe; kind++ {
		b, c := frameOfAsking(kind), frameOfAnswering(kind)
		for k := range b {
			noRequest(t, fmt.Sprint("the first ", k, " bytes of kind ", kind), b[:k], api.ErrFull)
		}
		for k := range c {
			noAnswer(t, fmt.Sprint("the first ", k, " bytes of kind ", kind), c[:k], api.ErrFull)
		}
	}
}

func TestLengths(t *testing.T) {
	for size, want := range map[uint32]api.Errno{
		0: api.ErrLimit, 1: api.ErrFull, 255: api.ErrFull, 256: api.ErrFull, api.MaxFrame: api.ErrFull,
		api.MaxFrame + 1: api.ErrLimit, 1 << 16: api.ErrLimit, 1<<16 + 2: api.ErrLimit, 1 << 24: api.ErrLimit, 1<<24 + 2: api.ErrLimit, 1 << 31: api.ErrLimit, 1<<32 - 1: api.ErrLimit,
	} {
		b := binary.BigEndian.AppendUint32(nil, size)
		for k := range b {
			noRequest(t, fmt.Sprintf("%x", b[:k]), b[:k], api.ErrFull)
			noAnswer(t, fmt.Sprintf("%x", b[:k]), b[:k], api.ErrFull)
		}
		noRequest(t, fmt.Sprintf("%x alone", b), b, want)
		noAnswer(t, fmt.Sprintf("%x alone", b), b, want)
		if want == api.ErrFull {
			want = api.ErrForm
		}
		b = append(b, make([]byte, api.MaxFrame+1)...)
		noRequest(t, fmt.Sprintf("%x, then noughts", b[:4]), b, want)
		noAnswer(t, fmt.Sprintf("%x, then noughts", b[:4]), b, want)
	}
	noRequest(t, "nothing", nil, api.ErrFull)
	noAnswer(t, "nothing", nil, api.ErrFull)
}

func TestRequestForms(t *testing.T) {
	for what, body := range map[string]string{
		"kind 0":                              "\x00\x00\x01a",
		"kind 8":                              "\x08\x00\x01a",
		"kind 0, as Describe":                 "\x00\x00",
		"a kind in a longer way":              "\x87\x00\x00",
		"a kind alone":                        "\x07",
		"a Corr cut off":                      "\x07\x80",
		"a Corr in a longer way":              "\x07\x80\x00",
		"a Corr above MaxTime":                "\x07\x81\x80\x80\x80\x80\x20",
		"a Corr without an end":               "\x07" + strings.Repeat("\x80", 20),
		"a byte too many":                     "\x07\x00\x00",
		"Describe with a Topic":               "\x07\x00\x01a",
		"Drop without a Topic":                "\x06\x00",
		"Drop, its Topic cut off":             "\x06\x00\x02a",
		"Drop, a byte too many":               "\x06\x00\x01ab",
		"Drop, how long in a longer way":      "\x06\x00\x81\x00a",
		"Drop, a Topic above MaxName":         "\x06\x00\x29" + strings.Repeat("t", 41),
		"Drop, a Topic that is very long":     "\x06\x00" + maxed + "a",
		"Create without Compact":              "\x05\x00\x01a\x01",
		"Create, Compact 2":                   "\x05\x00\x01a\x01\x02",
		"Create, Compact 1 in a longer way":   "\x05\x00\x01a\x01\x81\x00",
		"Create, Compact 129":                 "\x05\x00\x01a\x01\x81\x01",
		"Create, Parts above MaxTime":         "\x05\x00\x01a\x81\x80\x80\x80\x80\x20\x00",
		"Forget without an Offset":            "\x04\x00\x01a\x00",
		"Forget, a number too many":           "\x04\x00\x01a\x00\x00\x00",
		"Since without a Time":                "\x03\x00\x01a\x00",
		"Fetch without Wait":                  "\x02\x00\x01a\x00\x00\x00\x00",
		"Fetch, a number too many":            "\x02\x00\x01a\x00\x00\x00\x00\x00\x00",
		"Produce without records":             "\x01\x00\x01a\x00\x00",
		"Produce, Sure 2":                     "\x01\x00\x01a\x00\x02\x00",
		"Produce, one record told, none":      "\x01\x00\x01a\x00\x00\x01",
		"Produce, no record told, one":        "\x01\x00\x01a\x00\x00\x00" + "\x00\x00\x01",
		"Produce, two records told, one":      "\x01\x00\x01a\x00\x00\x02" + "\x00\x00\x01",
		"Produce, very many records told":     "\x01\x00\x01a\x00\x00" + maxed + "\x00\x00\x01",
		"Produce, a record with an Offset":    "\x01\x00\x01a\x00\x00\x01" + "\x00\x00\x00\x01",
		"Produce, a record Keyed 2":           "\x01\x00\x01a\x00\x00\x01" + "\x00\x02\x01",
		"Produce, a record Gone 2":            "\x01\x00\x01a\x00\x00\x01" + "\x00\x00\x02",
		"Produce, a Value of one that went":   "\x01\x00\x01a\x00\x00\x01" + "\x00\x00\x01\x01v",
		"Produce, a record without its Value": "\x01\x00\x01a\x00\x00\x01" + "\x00\x00\x00",
		"Produce, a record, its Value cut":    "\x01\x00\x01a\x00\x00\x01" + "\x00\x00\x00\x02v",
		"Produce, a record without Gone":      "\x01\x00\x01a\x00\x00\x01" + "\x00\x01\x01k",
		"Produce, a Key above MaxKey":         "\x01\x00\x01a\x00\x00\x01" + "\x00\x01\x3d" + strings.Repeat("k", 61) + "\x01",
		"Produce, a Value above MaxValue":     "\x01\x00\x01a\x00\x00\x01" + "\x00\x00\x00\xf5\x03" + strings.Repeat("v", 501),
		"Produce, a Time above MaxTime":       "\x01\x00\x01a\x00\x00\x01" + "\x81\x80\x80\x80\x80\x20\x00\x01",
	} {
		noRequest(t, what, framed(body), api.ErrForm)
		noRequest(t, what+", and more", append(framed(body), "\x00\x01a"...), api.ErrForm)
	}
	asked(t, "a record that is gone", framed("\x01\x00\x01a\x00\x00\x01"+"\x00\x00\x01"), api.Request{Kind: api.Produce, Topic: "a", Records: []api.Record{{Gone: true}}})
}

func TestAnswerForms(t *testing.T) {
	for what, body := range map[string]string{
		"kind 0":                             "\x00\x00\x00",
		"kind 8":                             "\x08\x00\x00",
		"no Err":                             "\x06\x00",
		"Err 16":                             "\x06\x00\x10",
		"Err MaxTime":                        "\x06\x00" + maxed,
		"Err 1 in a longer way":              "\x06\x00\x81\x00",
		"a byte too many":                    "\x06\x00\x00\x00",
		"a byte too many behind an Err":      "\x06\x00\x01\x00",
		"Produce without an Offset":          "\x01\x00\x00",
		"Produce, an Err, and an Offset":     "\x01\x00\x01\x00",
		"Since, Found 2":                     "\x03\x00\x00\x02",
		"Since, Found, without an Offset":    "\x03\x00\x00\x01",
		"Since, not Found, with an Offset":   "\x03\x00\x00\x00\x05",
		"Forget without Start":               "\x04\x00\x00",
		"Fetch without records":              "\x02\x00\x00\x00\x01",
		"Fetch, one record told, none":       "\x02\x00\x00\x00\x01\x01",
		"Fetch, a record without its Offset": "\x02\x00\x00\x00\x01\x01" + "\x00\x00\x01",
		"Fetch, very many records told":      "\x02\x00\x00\x00\x01" + maxed + "\x00\x00\x00\x01",
		"Fetch, an Offset above MaxTime":     "\x02\x00\x00\x00\x01\x01" + "\x81\x80\x80\x80\x80\x20\x00\x00\x01",
		"Fetch, a Key above MaxKey":          "\x02\x00\x00\x00\x01\x01" + "\x00\x00\x01\x3d" + strings.Repeat("k", 61) + "\x01",
		"Fetch, a Value above MaxValue":      "\x02\x00\x00\x00\x01\x01" + "\x00\x00\x00\x00\xf5\x03" + strings.Repeat("v", 501),
		"Describe without topics":            "\x07\x00\x00",
		"Describe, one topic told, none":     "\x07\x00\x00\x01",
		"Describe, no topic told, one":       "\x07\x00\x00\x00\x01a\x01\x00",
		"Describe, very many topics told":    "\x07\x00\x00" + maxed + "\x01a\x01\x00",
		"Describe, a topic without Compact":  "\x07\x00\x00\x01\x01a\x01",
		"Describe, a topic, Compact 2":       "\x07\x00\x00\x01\x01a\x01\x02",
		"Describe, a Name cut off":           "\x07\x00\x00\x01\x04a\x01\x00",
		"Describe, a Name above MaxName":     "\x07\x00\x00\x01\x29" + strings.Repeat("n", 41) + "\x01\x00",
		"Describe, Parts above MaxTime":      "\x07\x00\x00\x01\x01a\x81\x80\x80\x80\x80\x20\x00",
	} {
		noAnswer(t, what, framed(body), api.ErrForm)
		noAnswer(t, what+", and more", append(framed(body), "\x00\x01a"...), api.ErrForm)
	}
	answered(t, "a record that is gone", framed("\x02\x00\x00\x00\x01\x01"+"\x00\x00\x00\x01"), api.Answer{Kind: api.Fetch, End: 1, Records: []api.Record{{Gone: true}}})
}

// changed is a frame of which some bytes are others, and some may be cut off, or added.
func changed(r *rand.Rand, b []byte) []byte {
	body := slices.Clone(b[4:])
	for range r.Intn(3) {
		body[r.Intn(len(body))] = byte(r.Intn(3))<<6 | byte(r.Intn(12))
	}
	if k := r.Intn(len(body)); r.Intn(3) == 0 {
		body = slices.Insert(body, k, byte(r.Intn(3)))
	} else if r.Intn(3) == 0 && len(body) > 1 {
		body = slices.Delete(body, k, k+1)
	}
	return framed(string(body))
}

// Whatever is read as a frame is what is written for it.
func TestAnything(t *testing.T) {
	r := rand.New(rand.NewSource(7))
	requests, answers := 0, 0
	for range 100_000 {
		kind := 1 + r.Intn(7)
		b := changed(r, frameOfAsking(kind))
		if x, n, err := wire.Asked(b); err == nil {
			requests++
			if again, err := wire.Ask(x); err != nil || n != len(b) || !bytes.Equal(again, b) {
				t.Fatalf("Asked(%x) is %v, %d, which Ask writes as %x, %v", b, x, n, again, err)
			}
		} else {
			noRequest(t, fmt.Sprintf("%x", b), b, api.ErrForm)
		}
		b = changed(r, frameOfAnswering(kind))
		if x, n, err := wire.Told(b); err == nil {
			answers++
			if again, err := wire.Tell(x); err != nil || n != len(b) || !bytes.Equal(again, b) {
				t.Fatalf("Told(%x) is %v, %d, which Tell writes as %x, %v", b, x, n, again, err)
			}
		} else {
			noAnswer(t, fmt.Sprintf("%x", b), b, api.ErrForm)
		}
	}
	if requests == 0 || answers == 0 {
		t.Errorf("%d of these were requests, %d answers", requests, answers)
	}
}

// drawnRecord is some record, of which something may be wrong, or not be told.
func drawnRecord(r *rand.Rand) api.Record {
	x := api.Record{Offset: r.Intn(999), Time: r.Intn(1 << (1 + r.Intn(39))), Keyed: r.Intn(2) == 0, Gone: r.Intn(3) == 0}
	x.Key, x.Value = strings.Repeat("k", r.Intn(9)), strings.Repeat("v", r.Intn(api.MaxValue))
	switch r.Intn(40) {
	case 0:
		x.Time = -1 - r.Intn(9)
	case 1:
		x.Offset = api.MaxTime + 1
	case 2:
		x.Key = strings.Repeat("k", api.MaxKey+r.Intn(2))
	case 3:
		x.Value = strings.Repeat("v", api.MaxValue+r.Intn(2))
	}
	return x
}

// drawnRecords is some records: so many that they may be too long together.
func drawnRecords(r *rand.Rand) []api.Record {
	var l []api.Record
	for range r.Intn(60) / (1 + r.Intn(60)) {
		l = append(l, drawnRecord(r))
	}
	return l
}

// drawnRequest is some request, of which something may be wrong.
func drawnRequest(r *rand.Rand) api.Request {
	x := api.Request{Kind: 1 + r.Intn(7), Topic: strings.Repeat("t", r.Intn(api.MaxName+1)), Sure: r.Intn(2) == 0, Compact: r.Intn(2) == 0, Records: drawnRecords(r)}
	for _, n := range []*int{&x.Corr, &x.Part, &x.Offset, &x.Most, &x.Least, &x.Wait, &x.Time, &x.Parts} {
		if *n = r.Intn(1 << (1 + r.Intn(39))); r.Intn(40) == 0 {
			*n = []int{-1, api.MaxTime, api.MaxTime + 1}[r.Intn(3)]
		}
	}
	if r.Intn(20) == 0 {
		x.Topic = strings.Repeat("t", api.MaxName+r.Intn(3))
	}
	return x
}

// drawnAnswer is some answer, of which something may be wrong.
func drawnAnswer(r *rand.Rand) api.Answer {
	x := api.Answer{Kind: 1 + r.Intn(7), Err: api.Errno(r.Intn(5) / 4 * r.Intn(17)), Found: r.Intn(2) == 0, Records: drawnRecords(r)}
	for _, n := range []*int{&x.Corr, &x.Offset, &x.Start, &x.End} {
		if *n = r.Intn(1 << (1 + r.Intn(39))); r.Intn(40) == 0 {
			*n = []int{-1, api.MaxTime, api.MaxTime + 1}[r.Intn(3)]
		}
	}
	for range r.Intn(300) / (1 + r.Intn(300)) {
		x.Topics = append(x.Topics, api.Topic{Name: strings.Repeat("n", api.MaxName-r.Intn(9)+r.Intn(200)/199), Parts: r.Intn(5) - r.Intn(200)/199, Compact: r.Intn(2) == 0})
	}
	return x
}

// plainly is a frame as the document's words tell it, part by part.
type plainly struct {
	body  []byte
	wrong api.Errno
}

// number adds one.
func (p *plainly) number(n int) {
	if n < 0 || n > api.MaxTime {
		p.wrong = api.ErrRange
		return
	}
	p.body = binary.AppendUvarint(p.body, uint64(n))
}

// truth adds one.
func (p *plainly) truth(is bool) {
	p.body = append(p.body, map[bool]byte{false: 0, true: 1}[is])
}

// text adds one.
func (p *plainly) text(s string, most int) {
	if len(s) > most {
		p.wrong = api.ErrLimit
		return
	}
	p.number(len(s))
	p.body = append(p.body, s...)
}

// records adds how many there are, and each.
func (p *plainly) records(l []api.Record, placed bool) {
	p.number(len(l))
	for _, r := range l {
		if placed {
			p.number(r.Offset)
		}
		p.number(r.Time)
		p.truth(r.Keyed)
		if r.Keyed {
			p.text(r.Key, api.MaxKey)
		}
		p.truth(r.Gone)
		if !r.Gone {
			p.text(r.Value, api.MaxValue)
		}
	}
}

// frame is all of it (nothing, if something is wrong).
func (p *plainly) frame() ([]byte, api.Errno) {
	if p.wrong == api.OK && len(p.body) > api.MaxFrame {
		p.wrong = api.ErrLimit
	}
	if p.wrong != api.OK {
		return nil, p.wrong
	}
	return framed(string(p.body)), api.OK
}

// plainRequest is a request's frame.
func plainRequest(x api.Request) ([]byte, api.Errno) {
	var p plainly
	p.number(x.Kind)
	p.number(x.Corr)
	if x.Kind != api.Describe {
		p.text(x.Topic, api.MaxName)
	}
	if x.Kind == api.Produce || x.Kind == api.Fetch || x.Kind == api.Since || x.Kind == api.Forget {
		p.number(x.Part)
	}
	switch x.Kind {
	case api.Produce:
		p.truth(x.Sure)
		p.records(x.Records, false)
	case api.Fetch:
		p.number(x.Offset)
		p.number(x.Most)
		p.number(x.Least)
		p.number(x.Wait)
	case api.Since:
		p.number(x.Time)
	case api.Forget:
		p.number(x.Offset)
	case api.Create:
		p.number(x.Parts)
		p.truth(x.Compact)
	}
	return p.frame()
}

// plainAnswer is an answer's frame.
func plainAnswer(x api.Answer) ([]byte, api.Errno) {
	if x.Err < api.OK || x.Err > api.ErrSpoilt {
		return nil, api.ErrArg
	}
	var p plainly
	p.number(x.Kind)
	p.number(x.Corr)
	p.number(int(x.Err))
	switch {
	case x.Err != api.OK:
	case x.Kind == api.Produce:
		p.number(x.Offset)
	case x.Kind == api.Fetch:
		p.number(x.Start)
		p.number(x.End)
		p.records(x.Records, true)
	case x.Kind == api.Since:
		p.truth(x.Found)
		if x.Found {
			p.number(x.Offset)
		}
	case x.Kind == api.Forget:
		p.number(x.Start)
	case x.Kind == api.Describe:
		p.number(len(x.Topics))
		for _, topic := range x.Topics {
			p.text(topic.Name, api.MaxName)
			p.number(topic.Parts)
			p.truth(topic.Compact)
		}
	}
	return p.frame()
}

// All frames are those of the plain telling, and are read as what they tell.
func TestAgainstPlainly(t *testing.T) {
	r := rand.New(rand.NewSource(8))
	seen := map[api.Errno]int{}
	for k := range 20_000 {
		x := drawnRequest(r)
		want, wrong := plainRequest(x)
		asks(t, fmt.Sprint("request ", k), x, want, wrong)
		if seen[wrong]++; wrong == api.OK {
			y, n, err := wire.Asked(want)
			again, _ := plainRequest(y)
			if err != nil || n != len(want) || !bytes.Equal(again, want) {
				t.Errorf("Asked of request %d: %.200v, %d, %v", k, y, n, err)
			}
		}
		a := drawnAnswer(r)
		want, wrong = plainAnswer(a)
		tells(t, fmt.Sprint("answer ", k), a, want, wrong)
		if seen[wrong]++; wrong == api.OK {
			y, n, err := wire.Told(want)
			again, _ := plainAnswer(y)
			if err != nil || n != len(want) || !bytes.Equal(again, want) {
				t.Errorf("Told of answer %d: %.200v, %d, %v", k, y, n, err)
			}
		}
		if t.Failed() {
			return
		}
	}
	for _, e := range []api.Errno{api.OK, api.ErrArg, api.ErrRange, api.ErrLimit} {
		if seen[e] == 0 {
			t.Errorf("none of these was Errno %d", int(e))
		}
	}
}

func TestWhatComesOutIsFresh(t *testing.T) {
	x, a := asking(api.Produce), answering(api.Fetch)
	b, _ := wire.Ask(x)
	c, _ := wire.Ask(x)
	d, _ := wire.Tell(a)
	e, _ := wire.Tell(a)
	y, _, _ := wire.Asked(b)
	z, _, _ := wire.Asked(b)
	f, _, _ := wire.Told(d)
	g, _, _ := wire.Told(d)
	clear(b)
	clear(d)
	if !bytes.Equal(c, frameOfAsking(api.Produce)) || !bytes.Equal(e, frameOfAnswering(api.Fetch)) {
		t.Errorf("two frames share memory")
	}
	if !sameRequest(y, askedBack(api.Produce)) || !sameAnswer(f, answeredBack(api.Fetch)) {
		t.Errorf("what was read shares memory with the bytes: %v, %v", y, f)
	}
	clear(y.Records)
	clear(f.Records)
	if !sameRequest(z, askedBack(api.Produce)) || !sameAnswer(g, answeredBack(api.Fetch)) {
		t.Errorf("what was read twice shares memory: %v, %v", z, g)
	}
}

func Example() {
	b, _ := wire.Ask(api.Request{Kind: api.Forget, Corr: 7, Topic: "a", Part: 1, Offset: 300})
	x, n, _ := wire.Asked(append(b, "more"...))
	fmt.Println(b, n, x.Topic, x.Offset)
	// Output: [0 0 0 7 4 7 1 97 1 172 2] 11 a 300
}
