package many_test

import (
	"fmt"
	"math"
	"slices"
	"strings"
	"testing"

	"conveyor/api"
	"conveyor/desk"
	"conveyor/many"
	"conveyor/plain"
)

// texts are so many, no two of which are answered alike; some take longer than others.
func texts(n int) []string {
	var l []string
	for k := range n {
		s := fmt.Sprint("create a", k, " 1 1\n")
		s += strings.Repeat(fmt.Sprint("produce a", k, " 0 1 k=v x\nclean\n"), k*7%23)
		l = append(l, s+"files\ndescribe\n")
	}
	return l
}

// sessions is what Session answers to each.
func sessions(texts []string) []string {
	var l []string
	for _, s := range texts {
		l = append(l, desk.Session(s))
	}
	return l
}

// Promise 11.1: Session of each, in order, however many workers there are.

func TestAll(t *testing.T) {
	for _, n := range []int{0, 1, 2, 3, 15, 16, 17, 49, 50} {
		in := texts(n)
		want := sessions(in)
		for workers := 1; workers <= 16; workers++ {
			got, err := many.All(in, workers)
			if err != nil || !slices.Equal(got, want) {
				t.Errorf("%d texts, %d workers: %q, %v, want %q", n, workers, got, err, want)
			}
		}
		if !slices.Equal(in, texts(n)) {
			t.Errorf("%d texts: they are changed", n)
		}
	}
}

// Each text has a house of its own, though it be the same; one that Session refuses is answered, too.
func TestHouses(t *testing.T) {
	long := strings.Repeat("\n", api.MaxText+1)
	in := []string{"create a 1 0", "create a 1 0", "", long, "x", "create a 1 0\nhelp x"}
	want := []string{"1: ok\n", "1: ok\n", "ok\n", "error 4\n", "error 3\n", "1: ok\nerror 3\n"}
	for workers := 1; workers <= 16; workers++ {
		got, err := many.All(in, workers)
		if err != nil || !slices.Equal(got, want) {
			t.Errorf("%d workers: %q, %v, want %q", workers, got, err, want)
		}
	}
}

// Without texts there are no answers; how many workers there are is looked at all the same.
func TestNone(t *testing.T) {
	for _, in := range [][]string{nil, {}} {
		if got, err := many.All(in, 1); len(got) != 0 || err != nil {
			t.Errorf("no texts: %q, %v", got, err)
		}
		if got, err := many.All(in, 0); got != nil || err == nil {
			t.Errorf("no texts, no workers: %q, %v", got, err)
		}
	}
}

func TestTooMany(t *testing.T) {
	for _, c := range []struct{ texts, workers int }{
		{51, 1}, {51, 16}, {51, 0}, {1000, 4}, {1, 0}, {1, -1}, {1, 17}, {50, 17}, {50, 0}, {0, 17}, {1, math.MaxInt}, {1, math.MinInt},
	} {
		got, err := many.All(make([]string, c.texts), c.workers)
		if e, bare := plain.Bare(err); got != nil || e != api.ErrLimit || !bare {
			t.Errorf("%v: %q, %v, want ErrLimit, bare", c, got, err)
		}
	}
}

// What comes out is the caller's: a later call has nothing of it.
func TestFresh(t *testing.T) {
	in := texts(5)
	first, _ := many.All(in, 3)
	want := slices.Clone(first)
	clear(first)
	if got, err := many.All(in, 3); err != nil || !slices.Equal(got, want) {
		t.Errorf("again: %q, %v, want %q", got, err, want)
	}
}

// Calls may be made at the same time.
func TestAtTheSameTime(t *testing.T) {
	in := texts(20)
	want := sessions(in)
	told := make(chan bool)
	for workers := 1; workers <= 8; workers++ {
		go func() {
			got, err := many.All(in, workers)
			told <- err == nil && slices.Equal(got, want)
		}()
	}
	for range 8 {
		if !<-told {
			t.Error("another answer, where others are made at the same time")
		}
	}
}
