package desk

import (
	"strconv"
	"strings"

	"conveyor/api"
)

// words are those of a line that were not read yet; they are read from the left. That there are enough of them is seen to ahead.
type words []string

// cut is the words of a line.
func cut(line string) words {
	return strings.FieldsFunc(line, func(r rune) bool { return r == ' ' })
}

// text reads a word.
func (w *words) text() string {
	s := (*w)[0]
	*w = (*w)[1:]
	return s
}

// number reads a number. What is none is thrown: ErrForm.
func (w *words) number() int {
	s := w.text()
	n, err := strconv.ParseInt(s, 10, 64)
	// Written anew it tells whether there was a nought ahead, or a sign that no number has.
	if err != nil || strconv.FormatInt(n, 10) != s {
		panic(api.ErrForm)
	}
	return int(n)
}

// truth reads a number that is true, unless it is 0.
func (w *words) truth() bool {
	return w.number() != 0
}
