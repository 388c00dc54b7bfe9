package desk

import (
	"testing"

	"conveyor/api"
)

// layered is an error with another one in it.
type layered struct{ error }

func (l layered) Unwrap() error { return l.error }

// Promise 10.1: an error is answered by its number, whoever throws it, and however it is wrapped; nothing that is thrown comes out.
func TestThrown(t *testing.T) {
	var none []int
	for want, do := range map[string]func(w *words) string{
		"error 3":  func(w *words) string { panic(api.ErrForm) },
		"error 12": func(w *words) string { panic(layered{&api.At{Err: api.ErrFull, Place: 7}}) },
		"error 14": func(w *words) string { check(layered{api.ErrDevice}); return "done" },
		"error -1": func(w *words) string { none[len(*w)]++; return "done" },
		"done":     func(w *words) string { check(nil); return "done" },
	} {
		c := newClerk()
		c.deeds["try"] = deed{do: do}
		for _, talk := range [][2]string{{"try", want}, {"try 5", "error 3"}, {"describe", "1: "}} {
			if got := c.answer(talk[0]); got != talk[1] {
				t.Errorf("want %q: %q: %q, want %q", want, talk[0], got, talk[1])
			}
		}
	}
}

// With an error the house is the one that was, to the last field.
func TestSameHouse(t *testing.T) {
	c := newClerk()
	for _, line := range []string{"create a 1 0", "tick 7", "fetch a 0 0 900 9 9"} {
		c.answer(line)
	}
	was := c.house
	for _, line := range []string{"new -1 500 0 0", "new 0 0 0 0", "new 5 5", "new 5 5 5 x", "x", "tick 6", "tick x", "fetch a 0 0 0 0 x"} {
		if got := c.answer(line); got[:min(len(got), 6)] != "error " || c.house != was {
			t.Errorf("%q: %q, %v, want an error, and %v", line, got, c.house, was)
		}
	}
	c.answer("fail 0")
	if got := c.answer("open"); got != "error 14" || c.house != was {
		t.Errorf("open: %q, %v, want error 14, and %v", got, c.house, was)
	}
}
