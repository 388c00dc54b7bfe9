package desk

import (
	"strconv"
	"strings"

	"conveyor/api"
)

// What stands between things of one answer, and between answers.
const (
	comma     = ", "
	semicolon = "; "
)

// gone is the value that a tombstone has here.
const gone = "!"

// failure is what an error is answered.
func failure(err error) string {
	return "error " + strconv.Itoa(int(api.Tell(err)))
}

// joined is answers of one line.
func joined(answers []string) string {
	return strings.Join(answers, semicolon)
}

// list is things as they are told, each by one.
func list[T any](l []T, between string, one func(T) string) string {
	var texts []string
	for _, x := range l {
		texts = append(texts, one(x))
	}
	return strings.Join(texts, between)
}

// numbers is numbers with blanks between.
func numbers(l ...int) string {
	return list(l, " ", strconv.Itoa)
}

// told is an answer, with whose it is.
func told(a api.Answer) string {
	return strconv.Itoa(a.Corr) + ": " + content(a)
}

// content is what an answer tells.
func content(a api.Answer) string {
	if a.Err != api.OK {
		return failure(a.Err)
	}
	switch a.Kind {
	case api.Produce:
		return strconv.Itoa(a.Offset)
	case api.Fetch:
		return fetched(a)
	case api.Since:
		return since(a)
	case api.Forget:
		return strconv.Itoa(a.Start)
	case api.Describe:
		return list(a.Topics, comma, topic)
	}
	return "ok"
}

// fetched is what a fetch tells.
func fetched(a api.Answer) string {
	s := numbers(a.Start, a.End)
	for _, r := range a.Records {
		s += comma + record(r)
	}
	return s
}

// record is a record.
func record(r api.Record) string {
	s := numbers(r.Offset, r.Time) + " "
	if r.Keyed {
		s += r.Key + "="
	}
	if r.Gone {
		return s + gone
	}
	return s + r.Value
}

// since is what a search by time tells.
func since(a api.Answer) string {
	if !a.Found {
		return "none"
	}
	return strconv.Itoa(a.Offset)
}

// topic is a topic.
func topic(t api.Topic) string {
	s := t.Name + " " + strconv.Itoa(t.Parts)
	if t.Compact {
		s += " compact"
	}
	return s
}
