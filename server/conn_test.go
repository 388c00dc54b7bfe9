package server

import (
	"bytes"
	"strings"
	"testing"

	"conveyor/api"
	"conveyor/wire"
)

// Promise 9.1: an answer whose frame would be too long is one with that Err.

// great is an answer whose frame has so many bytes behind its first four.
func great(t *testing.T, size int) api.Answer {
	t.Helper()
	a := api.Answer{Kind: api.Fetch, Corr: 300, Start: 1, End: 2}
	for range 19 {
		a.Records = append(a.Records, api.Record{Value: strings.Repeat("v", 500)})
	}
	b, err := wire.Tell(a)
	if err != nil {
		t.Fatalf("Tell: %v", err)
	}
	// One more record has six bytes beside its value: Offset, Time, Keyed, Gone, and two of how many the value has.
	a.Records = append(a.Records, api.Record{Value: strings.Repeat("v", size+4-len(b)-6)})
	return a
}

func TestGreatAnswers(t *testing.T) {
	just := great(t, api.MaxFrame)
	want, err := wire.Tell(just)
	if err != nil || len(want) != api.MaxFrame+4 {
		t.Fatalf("Tell of the greatest one: %d bytes, %v", len(want), err)
	}
	if got := frame(just); !bytes.Equal(got, want) {
		t.Errorf("the greatest one: %d bytes, want %d", len(got), len(want))
	}
	long := great(t, api.MaxFrame+1)
	if _, err := wire.Tell(long); api.Tell(err) != api.ErrLimit {
		t.Fatalf("Tell of one that is too long: %v", err)
	}
	want, _ = wire.Tell(api.Answer{Kind: api.Fetch, Corr: 300, Err: api.ErrLimit})
	if got := frame(long); !bytes.Equal(got, want) {
		t.Errorf("one that is too long: %d, want %d", got, want)
	}
}

// It is told in its place, by the name that who asked gave it, and those behind it, too.
func TestGreatAnswersInOrder(t *testing.T) {
	c := newConn()
	for corr := 7; corr < 10; corr++ {
		c.enter(corr)
	}
	a := great(t, api.MaxFrame+2)
	a.Corr = 1 // the name that it is told by, 8, takes a byte less than 300
	c.answered(a)
	c.answered(api.Answer{Kind: api.Forget, Corr: 2, Start: 4})
	if len(c.ready) > 0 {
		t.Errorf("told ahead of the first one: %d", c.ready)
	}
	c.answered(api.Answer{Kind: api.Since, Corr: 0})
	var want []byte
	for _, a := range []api.Answer{{Kind: api.Since, Corr: 7}, {Kind: api.Fetch, Corr: 8, Err: api.ErrLimit}, {Kind: api.Forget, Corr: 9, Start: 4}} {
		b, _ := wire.Tell(a)
		want = append(want, b...)
	}
	if !bytes.Equal(c.ready, want) {
		t.Errorf("told: %d, want %d", c.ready, want)
	}
	if len(c.underWay) > 0 {
		t.Errorf("%d are under way yet", len(c.underWay))
	}
}
