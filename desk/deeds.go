package desk

import (
	"maps"
	"slices"
	"strconv"
	"strings"

	"conveyor/api"
	"conveyor/topics"
	"conveyor/wire"
)

// deed is what a line does, by the words behind its first one.
type deed struct {
	words int  // how many it takes
	more  bool // and any number more
	do    func(w *words) string
}

// takes says whether it takes so many words.
func (d deed) takes(n int) bool {
	return n == d.words || d.more && n > d.words
}

// all is every deed, by its first word.
func (c *clerk) all() map[string]deed {
	return map[string]deed{
		"clean":    {do: c.clean},
		"crash":    {more: true, do: c.crash},
		"create":   {words: 3, do: c.create},
		"describe": {do: c.describe},
		"drop":     {words: 1, do: c.drop},
		"fail":     {words: 1, do: c.fail},
		"fetch":    {words: 6, do: c.fetch},
		"files":    {do: c.files},
		"flush":    {do: c.flush},
		"forget":   {words: 3, do: c.forget},
		"help":     {do: c.help},
		"log":      {words: 2, do: c.log},
		"new":      {words: 4, do: c.renew},
		"open":     {do: c.open},
		"produce":  {words: 3, more: true, do: c.produce},
		"save":     {do: c.save},
		"since":    {words: 3, do: c.since},
		"tick":     {words: 1, do: c.tick},
	}
}

// help tells the first words of all lines.
func (c *clerk) help(*words) string {
	return strings.Join(slices.Sorted(maps.Keys(c.deeds)), " ")
}

// renew takes a new house in the place of the one that is.
func (c *clerk) renew(w *words) string {
	room := w.number()
	c.house = built(room, topics.Config{Segment: w.number(), Age: w.number(), Bytes: w.number()})
	return "new"
}

// ask has a request done whose words were read: what may be told behind it.
func (c *clerk) ask(x api.Request) string {
	// Counted ahead of all that may be wrong with it.
	c.count++
	x.Corr = c.count
	b, err := wire.Ask(x)
	check(err)
	check(c.server.Feed(conn, b))
	return c.take()
}

// produce asks for records to be put.
func (c *clerk) produce(w *words) string {
	x := api.Request{Kind: api.Produce, Topic: w.text(), Part: w.number(), Sure: w.truth()}
	for len(*w) > 0 {
		x.Records = append(x.Records, c.record(w.text()))
	}
	return c.ask(x)
}

// record is a word's, now.
func (c *clerk) record(word string) api.Record {
	key, value, keyed := strings.Cut(word, "=")
	if !keyed {
		return api.Record{Time: c.now, Value: word}
	}
	if value == gone {
		return api.Record{Time: c.now, Keyed: true, Key: key, Gone: true}
	}
	return api.Record{Time: c.now, Keyed: true, Key: key, Value: value}
}

// fetch asks for records.
func (c *clerk) fetch(w *words) string {
	return c.ask(api.Request{Kind: api.Fetch, Topic: w.text(), Part: w.number(), Offset: w.number(), Most: w.number(), Least: w.number(), Wait: w.number()})
}

// since asks for the first record of a time.
func (c *clerk) since(w *words) string {
	return c.ask(api.Request{Kind: api.Since, Topic: w.text(), Part: w.number(), Time: w.number()})
}

// forget asks for what is ahead of an offset to be left out.
func (c *clerk) forget(w *words) string {
	return c.ask(api.Request{Kind: api.Forget, Topic: w.text(), Part: w.number(), Offset: w.number()})
}

// create asks for a topic to be made.
func (c *clerk) create(w *words) string {
	return c.ask(api.Request{Kind: api.Create, Topic: w.text(), Parts: w.number(), Compact: w.truth()})
}

// drop asks for one to be taken away.
func (c *clerk) drop(w *words) string {
	return c.ask(api.Request{Kind: api.Drop, Topic: w.text()})
}

// describe asks which topics there are.
func (c *clerk) describe(*words) string {
	return c.ask(api.Request{Kind: api.Describe})
}

// tick goes on to a time.
func (c *clerk) tick(w *words) string {
	to := w.number()
	check(c.server.Tick(to))
	c.now = to
	return c.take()
}

// clean has the store cleaned.
func (c *clerk) clean(*words) string {
	n, err := c.server.Clean()
	// Taken ahead of the error: no later line tells them.
	answers := c.take()
	check(err)
	if answers == "" {
		return strconv.Itoa(n)
	}
	return strconv.Itoa(n) + semicolon + answers
}

// save has the store write its list.
func (c *clerk) save(*words) string {
	check(c.store.Save())
	return "saved"
}

// flush has the store make all safe.
func (c *clerk) flush(*words) string {
	check(c.store.Flush())
	return "flushed"
}

// fail lets the disk do so many operations more.
func (c *clerk) fail(w *words) string {
	c.disk.Fail(w.number())
	return "fail"
}

// crash has the disk crash, and opens what it left.
func (c *clerk) crash(w *words) string {
	var fates []byte
	for len(*w) > 0 {
		fates = append(fates, byte(w.number()))
	}
	c.disk.Crash(fates)
	return c.open(w)
}

// open opens the store anew.
func (c *clerk) open(*words) string {
	c.reopen()
	return "open"
}

// files tells the files of the disk.
func (c *clerk) files(*words) string {
	return list(c.disk.List(""), comma, func(name string) string {
		return name + " " + strconv.Itoa(c.disk.Size(name))
	})
}

// log tells how a partition lies there.
func (c *clerk) log(w *words) string {
	l, err := c.store.Log(w.text(), w.number())
	check(err)
	return numbers(l.Start(), l.End(), l.Safe(), l.Size()) + ": " + numbers(l.Segments()...)
}
