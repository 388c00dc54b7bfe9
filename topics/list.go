package topics

import (
	"slices"
	"strconv"
	"strings"

	"conveyor/api"
)

// How the list says whether old records of a topic's keys are taken out.
const (
	compact  = "1"
	complete = "0"
)

// line is a topic as the list tells it.
type line struct {
	api.Topic
	starts []int // where each partition began, when the list was written
}

// text is the line as the list has it.
func (x line) text() string {
	words := []string{x.Name, complete}
	if x.Compact {
		words[1] = compact
	}
	for _, start := range x.starts {
		words = append(words, strconv.Itoa(start))
	}
	return strings.Join(words, " ") + "\n"
}

// holds says whether a file lies in the directory of one of the topic's partitions.
func (x line) holds(name string) bool {
	for k := range x.Parts {
		if strings.HasPrefix(name, directory(x.Name, k)+"/") {
			return true
		}
	}
	return false
}

// read is the lines of a list. ErrSpoilt: no store writes such a one.
func read(list string) ([]line, error) {
	var all []line
	for s := range strings.Lines(list) {
		x, ok := readLine(strings.TrimSuffix(s, "\n"))
		twice := slices.ContainsFunc(all, func(ahead line) bool { return ahead.Name == x.Name })
		if !ok || twice || len(all) == api.MaxTopics {
			return nil, api.ErrSpoilt
		}
		all = append(all, x)
	}
	return all, nil
}

// readLine is a line whose end was cut off (false: it is none).
func readLine(s string) (line, bool) {
	words := strings.Split(s, " ")
	parts := len(words) - 2
	if !Name(words[0]) || !fits(parts) {
		return line{}, false
	}
	x := line{Topic: api.Topic{Name: words[0], Parts: parts, Compact: words[1] == compact}}
	for _, word := range words[2:] {
		start, err := strconv.Atoi(word)
		if err != nil || start < 0 || start > api.MaxTime {
			return line{}, false
		}
		x.starts = append(x.starts, start)
	}
	// Written anew it tells whether all of this is just what a list has.
	return x, x.text() == s+"\n"
}
