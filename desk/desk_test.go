package desk_test

import (
	"fmt"
	"math/rand"
	"strings"
	"testing"

	"conveyor/api"
	"conveyor/desk"
)

// helped is what help tells.
const helped = "clean crash create describe drop fail fetch files flush forget help log new open produce save since tick"

// answered fails, unless a text is answered just so.
func answered(t *testing.T, text, want string) {
	t.Helper()
	if got := desk.Session(text); got != want {
		t.Errorf("%.200q: %.200q, want %.200q", text, got, want)
	}
}

// converse fails, unless in one session each line is answered by what stands behind it.
func converse(t *testing.T, talk ...string) {
	t.Helper()
	var lines, want []string
	for k := 0; k < len(talk); k += 2 {
		lines, want = append(lines, talk[k]), append(want, talk[k+1])
	}
	got := strings.Split(desk.Session(strings.Join(lines, "\n")+"\n"), "\n")
	if len(got) != len(want)+1 || got[len(want)] != "" {
		t.Fatalf("%q: %d answers, want %d, each with a line feed", lines, len(got)-1, len(want))
	}
	for k, line := range lines {
		if got[k] != want[k] {
			t.Errorf("line %d, %q: %q, want %q", k, line, got[k], want[k])
		}
	}
}

// Promise 10.1: a text is answered line by line.

func TestLines(t *testing.T) {
	for text, want := range map[string]string{
		"":               "ok\n",
		"\n":             "ok\n",
		"\n\n":           "ok\nok\n",
		"\n\n\n":         "ok\nok\nok\n",
		"tick 1":         "\n",
		"tick 1\n":       "\n",
		"tick 1\n\n":     "\nok\n",
		"\ntick 1":       "ok\n\n",
		"x\n\nx\n":       "error 3\nok\nerror 3\n",
		"help":           helped + "\n",
		"help\nhelp":     helped + "\n" + helped + "\n",
		"create a 1 0":   "1: ok\n",
		"create a 1 0\n": "1: ok\n",
	} {
		answered(t, text, want)
	}
}

// Blanks are this one byte alone; there may be several, and at both ends.
func TestBlanks(t *testing.T) {
	converse(t,
		" ", "ok",
		"     ", "ok",
		" help", helped,
		"help ", helped,
		"   help   ", helped,
		"  create   a  1 0 ", "1: ok",
		"\t", "error 3",
		"\thelp", "error 3",
		"help\t", "error 3",
		"help\r", "error 3",
		"help\v", "error 3",
		"help\u00a0", "error 3",
		"help\u2003", "error 3",
		"help\x00", "error 3",
		"tick\t5", "error 3",
	)
}

// A text may have MaxText bytes.
func TestTooLong(t *testing.T) {
	answered(t, strings.Repeat(" ", api.MaxText), "ok\n")
	answered(t, strings.Repeat(" ", api.MaxText+1), "error 4\n")
	answered(t, strings.Repeat("\n", api.MaxText), strings.Repeat("ok\n", api.MaxText))
	answered(t, strings.Repeat("\n", api.MaxText+1), "error 4\n")
	answered(t, strings.Repeat("x", api.MaxText), "error 3\n")
	answered(t, strings.Repeat("ä", api.MaxText/2), "error 3\n")
	answered(t, strings.Repeat("ä", api.MaxText/2)+"x", "error 4\n")
	answered(t, "help\n"+strings.Repeat(" ", api.MaxText-5), helped+"\nok\n")
	answered(t, "help\n"+strings.Repeat(" ", api.MaxText-4), "error 4\n")
}

// Texts are bytes, whatever they would be as runes.
func TestBytes(t *testing.T) {
	converse(t,
		"create a 1 0", "1: ok",
		"produce a 0 0 \xff\xc2 \xe2\x82=\x00\x80 ä", "2: 0",
		"fetch a 0 0 900 0 0", "3: 0 3, 0 0 \xff\xc2, 1 0 \xe2\x82=\x00\x80, 2 0 ä",
		"create \xff 1 0", "4: error 5",
		"\xffhelp", "error 3",
	)
}

// known is of each first word a line that has no error of form, with all its words.
func known() []string {
	return []string{
		"new 5000 200 -1 -1", "produce a 0 0 x", "fetch a 0 0 900 0 0", "since a 0 0", "forget a 0 0", "create a 1 0", "drop a", "describe",
		"tick 0", "clean", "save", "flush", "fail -1", "crash 1 2", "open", "files", "log a 0", "help",
	}
}

// more says whether behind a line there may be further words.
func more(line string) bool {
	return strings.HasPrefix(line, "produce ") || strings.HasPrefix(line, "crash ")
}

// least is how many words a line has at least.
func least(words []string) int {
	switch words[0] {
	case "crash":
		return 1
	case "produce":
		return 4
	}
	return len(words)
}

// As many words stand behind the first one as are told.
func TestHowManyWords(t *testing.T) {
	for _, line := range known() {
		words := strings.Fields(line)
		for n := 1; n <= len(words); n++ {
			short := strings.Join(words[:n], " ")
			got := desk.Session("create a 1 0\n" + short)
			if (got == "1: ok\nerror 3\n") != (n < least(words)) {
				t.Errorf("%q: %q", short, got)
			}
		}
		got := desk.Session("create a 1 0\n" + line + " 5")
		if (got == "1: ok\nerror 3\n") != !more(line) {
			t.Errorf("%q and a word: %q", line, got)
		}
	}
}

// The first word is one of these, in this writing.
func TestFirstWord(t *testing.T) {
	for _, line := range known() {
		word, rest, _ := strings.Cut(line, " ")
		for _, other := range []string{strings.ToUpper(word), word + "s", word[1:], word[:len(word)-1], "-" + word, "x"} {
			answered(t, other+" "+rest, "error 3\n")
			answered(t, other, "error 3\n")
		}
	}
}

// wrong is words that are no numbers.
func wrong() []string {
	return []string{
		"x", "-", "+", "+1", "01", "00", "-01", "-0", "--1", "1-", "1x", "x1", "1.0", "1e3", "0x1", "1_0", "1,0", "a=1", "\u0661", "\xff",
		"9223372036854775808", "-9223372036854775809", "18446744073709551616", "99999999999999999999999999",
	}
}

// Numbers are decimal, of 64 bits, with no nought ahead.
func TestNumbers(t *testing.T) {
	for _, n := range []string{"0", "1", "-1", "10", "-10", "100", "9223372036854775807", "-9223372036854775808"} {
		answered(t, "fail "+n, "fail\n")
		answered(t, "crash "+n, "open\n")
	}
	for _, n := range wrong() {
		answered(t, "fail "+n, "error 3\n")
		answered(t, "crash "+n, "error 3\n")
	}
}

// The same in each place where a number is to be; such a line changes nothing, and is not counted.
func TestNumbersEverywhere(t *testing.T) {
	for line, places := range map[string][]int{
		"new 5000 200 -1 -1": {1, 2, 3, 4}, "produce a 0 0 x": {2, 3}, "fetch a 0 0 900 0 0": {2, 3, 4, 5, 6}, "since a 0 0": {2, 3},
		"forget a 0 1": {2, 3}, "create b 1 0": {2, 3}, "tick 9": {1}, "fail 0": {1}, "crash 1 2 3": {1, 2, 3}, "log a 0": {2},
	} {
		for _, place := range places {
			for _, n := range wrong() {
				words := strings.Fields(line)
				words[place] = n
				converse(t,
					"create a 1 0", "1: ok",
					"produce a 0 0 x y", "2: 0",
					strings.Join(words, " "), "error 3",
					"tick 5", "",
					"log a 0", "0 2 0 21: 0",
					"save", "saved",
					"describe", "3: a 1",
				)
			}
		}
	}
}

// Corr is the count of requests and one more; a request counts as soon as its words were read, whatever is wrong with it then.
func TestCount(t *testing.T) {
	long := strings.Repeat("a", api.MaxName+1)
	converse(t,
		"describe", "1: ",
		"describe x", "error 3",
		"fetch a 0 0 0 0 x", "error 3",
		"fetch a 0 0 0 0", "error 3",
		"describe", "2: ",
		"fetch a 0 0 0 0 -1", "error 2",
		"create "+long+" 1 0", "error 4",
		"describe", "5: ",
		"drop a", "6: error 7",
		"tick 5", "",
		"clean", "0",
		"save", "saved",
		"flush", "flushed",
		"fail -1", "fail",
		"files", "topics 0",
		"help", helped,
		"", "ok",
		"x", "error 3",
		"log a 0", "error 7",
		"describe", "7: ",
		"open", "open",
		"describe", "8: ",
		"crash", "open",
		"describe", "9: ",
		"new 1 1 1 1", "error 2",
		"describe", "10: ",
		"new 1 100 1 1", "new",
		"describe", "1: ",
	)
}

// drawn is a line that looks drawn.
func drawn(r *rand.Rand) string {
	line := known()[r.Intn(len(known()))]
	words := strings.Split(line, " ")
	for k := range words {
		switch r.Intn(8) {
		case 0:
			words[k] = []string{"a", "b", "0", "1", "7", "k=1", "k=!", "=", "!", "", strings.Repeat("v", 90)}[r.Intn(11)]
		case 1:
			words[k] = fmt.Sprint(r.Intn(60))
		}
	}
	return strings.Join(words, " ")
}

// What a line is answered hangs on those ahead of it alone, and has one line; nothing is an error that no chapter tells.
func TestLineByLine(t *testing.T) {
	for seed := range int64(60) {
		r := rand.New(rand.NewSource(seed))
		text, answers := "create a 2 1\n", "1: ok\n"
		for range 60 {
			text += drawn(r) + "\n"
			got := desk.Session(text)
			rest, ok := strings.CutPrefix(got, answers)
			if !ok || strings.Count(rest, "\n") != 1 || !strings.HasSuffix(rest, "\n") {
				t.Fatalf("%q: %q behind %q", text, rest, answers)
			}
			if strings.Contains(rest, "error -") || strings.Contains(rest, "error 0") {
				t.Fatalf("%q: %q", text, rest)
			}
			answers = got
		}
	}
}
