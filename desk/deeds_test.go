package desk_test

import (
	"strings"
	"testing"

	"conveyor/api"
)

// Promise 10.1: what each line tells. (A batch has 11 bytes, and of each record 3, 1 and its key, 1 and its value, while all numbers are small.)

// great is a value of which two have no room in a segment of 100 bytes: a batch of 75.
var great = strings.Repeat("v", 60)

func TestProduce(t *testing.T) {
	converse(t,
		"create a 2 0", "1: ok",
		"produce a 0 0 x", "2: 0",
		"produce a 0 0 y=1 y=2", "3: 1",
		"tick 7", "",
		"produce a 0 0 z", "4: 3",
		"produce a 1 0 w", "5: 0",
		"fetch a 0 0 900 0 0", "6: 0 4, 0 0 x, 1 0 y=1, 2 0 y=2, 3 7 z",
		"fetch a 1 0 900 0 0", "7: 0 1, 0 7 w",
		"produce a 0 0", "8: error 1",
		"produce b 0 0 x", "9: error 7",
		"produce a 2 0 x", "10: error 2",
		"produce a -1 0 x", "error 2",
		"produce A! 0 0 x", "12: error 7",
		"produce "+strings.Repeat("a", api.MaxName)+" 0 0 x", "13: error 7",
		"produce "+strings.Repeat("a", api.MaxName+1)+" 0 0 x", "error 4",
		"log a 0", "0 4 0 57: 0",
	)
}

// A word is cut at its first =.
func TestRecordsOfWords(t *testing.T) {
	converse(t,
		"create a 1 0", "1: ok",
		"produce a 0 0 x ! !x k=v k= k=! k=!! k==v k=a=b k=a=! = =v =! ==", "2: 0",
		"fetch a 0 0 900 0 0", "3: 0 14, 0 0 x, 1 0 !, 2 0 !x, 3 0 k=v, 4 0 k=, 5 0 k=!, 6 0 k=!!, 7 0 k==v, 8 0 k=a=b, 9 0 k=a=!, 10 0 =, 11 0 =v, 12 0 =!, 13 0 ==",
		"create b 4 0", "4: ok",
		"produce b 0 0 k=!", "5: 0",
		"log b 0", "0 1 0 16: 0",
		"produce b 1 0 k=x", "6: 0",
		"log b 1", "0 1 0 18: 0",
		"produce b 2 0 !", "7: 0",
		"log b 2", "0 1 0 16: 0",
		"produce b 3 0 =!", "8: 0",
		"log b 3", "0 1 0 15: 0",
	)
}

// What is told of a record is the same wherever it was cut: which keys there are is seen where old ones of a key go, and by how long a key may be.
func TestKeysOfWords(t *testing.T) {
	long := strings.Repeat("k", api.MaxKey)
	converse(t,
		"new 10000 100 0 -1", "new",
		"create a 1 1", "1: ok",
		"produce a 0 0 k=a=b k=a=c k==! =k=1 k=a=! l=k=1", "2: 0",
		"produce a 0 0 "+strings.Repeat("v", 80), "3: 6",
		"produce a 0 0 k=c =!", "4: 7",
		"clean", "5",
		"fetch a 0 0 0 0 0", "5: 0 9, 5 0 l=k=1",
		"produce a 0 0 k="+long+"=v "+long+"=v", "6: 9",
		"produce a 0 0 k"+long+"=v", "error 4",
		"fetch a 0 9 900 0 0", "8: 0 11, 9 0 k="+long+"=v, 10 0 "+long+"=v",
	)
}

// SURE is any number; where it is not 0 the records are safe.
func TestSure(t *testing.T) {
	for sure, safe := range map[string]string{"0": "0", "1": "1", "2": "1", "-1": "1", "-9223372036854775808": "1"} {
		converse(t,
			"create a 1 0", "1: ok",
			"produce a 0 "+sure+" x", "2: 0",
			"log a 0", "0 1 "+safe+" 16: 0",
			"crash", "open",
			"log a 0", "0 "+safe+" "+safe+" "+map[string]string{"0": "0", "1": "16"}[safe]+": 0",
		)
	}
}

func TestProduceTooMuch(t *testing.T) {
	long := strings.Repeat("v", api.MaxValue)
	key := strings.Repeat("k", api.MaxKey)
	converse(t,
		"create a 1 0", "1: ok",
		"produce a 0 0 "+long, "2: 0",
		"produce a 0 0 x"+long, "error 4",
		"produce a 0 0 "+key+"="+long, "4: 1",
		"produce a 0 0 "+key+"k=v", "error 4",
		"produce a 0 0"+strings.Repeat(" x", api.MaxRecords), "6: 2",
		"produce a 0 0"+strings.Repeat(" x", api.MaxRecords+1), "7: error 4",
		"fetch a 0 52 900 0 0", "8: 0 52",
	)
	many := "produce a 0 0" + strings.Repeat(" "+long, 11)
	converse(t, "create a 1 0", "1: ok", many+" "+strings.Repeat("v", 400), "2: 0")
	converse(t, "create a 1 0", "1: ok", many+" "+long, "2: error 4")
	converse(t, "create a 1 0", "1: ok", many+strings.Repeat(" "+long, 10), "error 4", "describe", "3: a 1")
}

func TestFetch(t *testing.T) {
	converse(t,
		"create a 2 0", "1: ok",
		"fetch a 0 0 900 0 0", "2: 0 0",
		"produce a 0 0 x", "3: 0",
		"produce a 0 0 yy zz", "4: 1",
		"fetch a 0 0 900 0 0", "5: 0 3, 0 0 x, 1 0 yy, 2 0 zz",
		"fetch a 0 0 38 0 0", "6: 0 3, 0 0 x",
		"fetch a 0 0 39 0 0", "7: 0 3, 0 0 x, 1 0 yy, 2 0 zz",
		"fetch a 0 0 0 0 0", "8: 0 3, 0 0 x",
		"fetch a 0 2 900 0 0", "9: 0 3, 2 0 zz",
		"fetch a 0 3 900 0 0", "10: 0 3",
		"fetch a 0 4 900 0 0", "11: error 2",
		"fetch a 1 0 900 0 0", "12: 0 0",
		"fetch a 2 0 900 0 0", "13: error 2",
		"fetch b 0 0 900 0 0", "14: error 7",
		"fetch a 0 0 900 99 0", "15: 0 3, 0 0 x, 1 0 yy, 2 0 zz",
		"fetch a 0 0 900 5 99", "16: 0 3, 0 0 x, 1 0 yy, 2 0 zz",
		"fetch a 0 -1 900 0 0", "error 2",
		"fetch a 0 0 -1 0 0", "error 2",
		"fetch a 0 0 900 -1 0", "error 2",
		"fetch a 0 0 900 0 -1", "error 2",
		"fetch a 0 0 900 0 1099511627777", "error 2",
		"fetch a 0 0 1099511627776 1099511627776 0", "22: 0 3, 0 0 x, 1 0 yy, 2 0 zz",
	)
}

// Who waits is answered when there is enough; all answers behind that wait, too, and are told together.
func TestFetchWaits(t *testing.T) {
	converse(t,
		"create a 1 0", "1: ok",
		"fetch a 0 0 900 3 20", "",
		"describe", "",
		"produce a 0 0 xy", "",
		"drop b", "",
		"tick 19", "",
		"save", "saved",
		"fetch x", "error 3",
		"fetch a 0 0 0 0 -1", "error 2",
		"produce a 0 0 z", "2: 0 2, 0 0 xy, 1 19 z; 3: a 1; 4: 0; 5: error 7; 7: 1",
		"describe", "8: a 1",
	)
}

// Or when the time is up, with what there is then: so that of two that wait the later one may have been answered ahead, and is told behind.
func TestTick(t *testing.T) {
	converse(t,
		"create a 1 0", "1: ok",
		"tick 5", "",
		"fetch a 0 0 900 9 20", "",
		"fetch a 0 0 900 9 10", "",
		"produce a 0 0 k=x", "",
		"tick 15", "",
		"produce a 0 0 v", "",
		"tick 24", "",
		"tick 23", "error 2",
		"tick -1", "error 2",
		"tick 1099511627777", "error 2",
		"tick 24", "",
		"tick 25", "2: 0 2, 0 5 k=x, 1 15 v; 3: 0 1, 0 5 k=x; 4: 0; 5: 1",
		"tick 25", "",
		"produce a 0 0 y", "6: 2",
		"tick 3", "error 2",
		"produce a 0 0 z", "7: 3",
		"tick 1099511627776", "",
		"produce a 0 0 w", "8: 4",
		"fetch a 0 2 900 0 0", "9: 0 5, 2 25 y, 3 25 z, 4 1099511627776 w",
	)
}

func TestSince(t *testing.T) {
	converse(t,
		"create a 2 0", "1: ok",
		"since a 0 0", "2: none",
		"produce a 0 0 x", "3: 0",
		"tick 5", "",
		"produce a 0 0 y z", "4: 1",
		"since a 0 0", "5: 0",
		"since a 0 1", "6: 1",
		"since a 0 5", "7: 1",
		"since a 0 6", "8: none",
		"since a 1 0", "9: none",
		"since a 2 0", "10: error 2",
		"since b 0 0", "11: error 7",
		"since a 0 -1", "error 2",
		"since a 0 5", "13: 1",
	)
}

func TestForget(t *testing.T) {
	converse(t,
		"create a 1 0", "1: ok",
		"produce a 0 0 x y z", "2: 0",
		"forget a 0 0", "3: 0",
		"forget a 0 2", "4: 2",
		"forget a 0 1", "5: 2",
		"fetch a 0 1 900 0 0", "6: error 2",
		"fetch a 0 2 900 0 0", "7: 2 3, 2 0 z",
		"forget a 0 4", "8: error 2",
		"forget a 0 3", "9: 3",
		"forget a 1 0", "10: error 2",
		"forget b 0 0", "11: error 7",
		"forget a 0 -1", "error 2",
		"log a 0", "3 3 0 26: 0",
	)
}

// Whom a Forget or a Drop takes what they wait for hears of it.
func TestWhoWaitsHears(t *testing.T) {
	converse(t,
		"create a 1 0", "1: ok",
		"produce a 0 0 x y z", "2: 0",
		"fetch a 0 1 900 9 20", "",
		"forget a 0 1", "",
		"forget a 0 2", "3: error 2; 4: 1; 5: 2",
		"fetch a 0 2 900 9 20", "",
		"drop a", "6: error 7; 7: ok",
	)
}

func TestTopics(t *testing.T) {
	long := strings.Repeat("a", api.MaxName)
	converse(t,
		"describe", "1: ",
		"create b 1 0", "2: ok",
		"create a 4 1", "3: ok",
		"describe", "4: b 1, a 4 compact",
		"create b 2 0", "5: error 9",
		"create c 0 0", "6: error 2",
		"create c 5 0", "7: error 2",
		"create C 1 0", "8: error 5",
		"create abcdefghij 1 7", "9: ok",
		"create abcdefghijk 1 0", "10: error 5",
		"create "+long+" 1 0", "11: error 5",
		"create "+long+"a 1 0", "error 4",
		"create c -1 0", "error 2",
		"create d 1 -1", "14: ok",
		"describe", "15: b 1, a 4 compact, abcdefghij 1 compact, d 1 compact",
		"drop x", "16: error 7",
		"drop "+long+"a", "error 4",
		"drop b", "18: ok",
		"drop b", "19: error 7",
		"describe", "20: a 4 compact, abcdefghij 1 compact, d 1 compact",
	)
}

// At first segments have 500 bytes, and all is kept.
func TestFirstHouse(t *testing.T) {
	long := strings.Repeat("v", 468) // a batch of 484 bytes: one of 16 has room behind it
	converse(t,
		"files", "",
		"create a 1 0", "1: ok",
		"produce a 0 0 "+long, "2: 0",
		"produce a 0 0 x", "3: 1",
		"log a 0", "0 2 0 500: 0",
		"produce a 0 0 x", "4: 2",
		"log a 0", "0 3 2 516: 0 2",
		"produce a 0 0 "+long+"v", "5: 3",
		"log a 0", "0 4 3 1001: 0 2 3",
		"tick 1099511627776", "",
		"clean", "0",
		"log a 0", "0 4 3 1001: 0 2 3",
	)
}

// By Age segments go, and whom that takes what they wait for hears of it behind how much went.
func TestCleanByAge(t *testing.T) {
	converse(t,
		"new 10000 100 10 -1", "new",
		"create a 1 0", "1: ok",
		"produce a 0 0 "+great, "2: 0",
		"tick 5", "",
		"produce a 0 0 "+great, "3: 1",
		"produce a 0 0 "+great, "4: 2",
		"log a 0", "0 3 2 225: 0 1 2",
		"tick 10", "",
		"clean", "0",
		"tick 11", "",
		"clean", "1",
		"log a 0", "1 3 2 150: 1 2",
		"fetch a 0 1 100 200 50", "",
		"describe", "",
		"clean", "0",
		"tick 16", "",
		"clean", "1; 5: error 2; 6: a 1",
		"clean", "0",
		"describe", "7: a 1",
	)
}

// By Bytes likewise, and records of Compact topics.
func TestCleanOtherwise(t *testing.T) {
	converse(t,
		"new 10000 100 -1 150", "new",
		"create a 1 0", "1: ok",
		"produce a 0 0 "+great, "2: 0",
		"produce a 0 0 "+great, "3: 1",
		"clean", "0",
		"produce a 0 0 "+great, "4: 2",
		"clean", "1",
		"clean", "0",
		"log a 0", "1 3 2 150: 1 2",
		"new 10000 100 10 -1", "new",
		"create a 1 1", "1: ok",
		"produce a 0 0 k=1 g=!", "2: 0",
		"produce a 0 0 "+strings.Repeat("v", 80), "3: 2",
		"produce a 0 0 k=2", "4: 3",
		"clean", "1",
		"fetch a 0 0 900 0 0", "5: 0 4, 1 0 g=!",
		"tick 11", "",
		"clean", "1",
		"log a 0", "0 4 4 124: 0 2 3",
	)
}

// An error of a clean is told alone; answers that there are by it were taken, and are told by no line behind it.
func TestCleanWithAnError(t *testing.T) {
	converse(t,
		"create a 1 0", "1: ok",
		"fetch a 0 0 900 9 50", "",
		"describe", "",
		"fail 0", "fail",
		"save", "error 14",
		"clean", "error 6",
		"tick 0", "",
		"tick 50", "",
		"describe", "4: a 1",
		"clean", "error 6",
	)
}

// Save writes where partitions begin: that is what is opened.
func TestSave(t *testing.T) {
	converse(t,
		"save", "saved",
		"files", "topics 0",
		"create a 1 0", "1: ok",
		"files", "a-0/0000000000.log 0, topics 6",
		"produce a 0 1 x y", "2: 0",
		"forget a 0 1", "3: 1",
		"crash", "open",
		"log a 0", "0 2 2 21: 0",
		"forget a 0 1", "4: 1",
		"save", "saved",
		"crash", "open",
		"log a 0", "1 2 2 21: 0",
		"fail 0", "fail",
		"save", "error 14",
		"save", "error 6",
	)
}

func TestFlush(t *testing.T) {
	converse(t,
		"flush", "flushed",
		"create a 2 0", "1: ok",
		"produce a 0 0 x", "2: 0",
		"produce a 1 0 x", "3: 0",
		"log a 1", "0 1 0 16: 0",
		"flush", "flushed",
		"log a 0", "0 1 1 16: 0",
		"log a 1", "0 1 1 16: 0",
		"crash", "open",
		"log a 1", "0 1 1 16: 0",
		"fail 0", "fail",
		"flush", "error 14",
		"flush", "error 6",
	)
}

// So many operations more are done; who has met an error of the disk is down, until it is opened anew.
func TestFail(t *testing.T) {
	converse(t,
		"create a 2 0", "1: ok",
		"fail 2", "fail",
		"produce a 0 0 x", "2: 0",
		"produce a 0 0 x", "3: 1",
		"produce a 0 0 x", "4: error 14",
		"produce a 0 0 x", "5: error 6",
		"fetch a 0 1 900 0 0", "6: 0 2, 1 0 x",
		"create b 1 0", "7: error 14",
		"create b 1 0", "8: error 6",
		"fetch a 0 1 900 0 0", "9: error 6",
		"log a 0", "error 6",
		"log b 0", "error 6",
		"describe", "10: a 2",
		"open", "error 14",
		"fail -1", "fail",
		"save", "error 6",
		"open", "open",
		"log a 0", "0 2 2 32: 0",
		"fail 0", "fail",
		"crash", "open",
		"save", "saved",
	)
}

// Fates are numbers modulo 256, one a file, in the order of their names, round and round.
func TestCrash(t *testing.T) {
	for _, c := range []struct{ fates, first, second string }{
		{"", "0 0 0 0: 0", "0 0 0 0: 0"},
		{" 0", "0 0 0 0: 0", "0 0 0 0: 0"},
		{" 16", "0 1 1 16: 0", "0 1 1 16: 0"},
		{" 15", "0 0 0 0: 0", "0 0 0 0: 0"},
		{" 31 32", "0 1 1 16: 0", "0 2 2 32: 0"},
		{" 0 16", "0 0 0 0: 0", "0 1 1 16: 0"},
		{" 255 0 7 9", "0 2 2 32: 0", "0 0 0 0: 0"},
		{" 256 272", "0 0 0 0: 0", "0 1 1 16: 0"},
		{" -1 -240", "0 2 2 32: 0", "0 1 1 16: 0"},
		{" -256 -512", "0 0 0 0: 0", "0 0 0 0: 0"},
		{" 9223372036854775807 -9223372036854775808", "0 2 2 32: 0", "0 0 0 0: 0"},
	} {
		converse(t,
			"create a 2 0", "1: ok",
			"produce a 0 0 x", "2: 0",
			"produce a 1 0 x", "3: 0",
			"produce a 0 0 x", "4: 1",
			"produce a 1 0 x", "5: 1",
			"crash"+c.fates, "open",
			"log a 0", c.first,
			"log a 1", c.second,
		)
	}
}

// A crash, or an open, leaves the time and the count, and nobody who waits.
func TestOpen(t *testing.T) {
	for _, line := range []string{"open", "crash", "crash 255"} {
		converse(t,
			"create a 1 0", "1: ok",
			"produce a 0 1 x", "2: 0",
			"tick 5", "",
			"fetch a 0 0 900 9 20", "",
			"describe", "",
			line, "open",
			"describe", "5: a 1",
			"tick 4", "error 2",
			"produce a 0 0 y", "6: 1",
			"fetch a 0 0 900 9 20", "",
			"tick 24", "",
			"tick 25", "7: 0 2, 0 0 x, 1 5 y",
		)
	}
}

// Where a store can't be opened all stays as it is: who waits, too.
func TestOpenWithAnError(t *testing.T) {
	converse(t,
		"create a 1 0", "1: ok",
		"fetch a 0 0 900 9 20", "",
		"produce a 0 0 x", "",
		"fail 0", "fail",
		"open", "error 14",
		"fail -1", "fail",
		"produce a 0 0 12345678", "2: 0 2, 0 0 x, 1 0 12345678; 3: 0; 4: 1",
		"log a 0", "0 2 0 39: 0",
		"save", "saved",
	)
}

// A new house has nothing of the one that was.
func TestNew(t *testing.T) {
	converse(t,
		"create a 1 0", "1: ok",
		"tick 9", "",
		"fail 0", "fail",
		"fetch a 0 0 900 9 20", "",
		"new 23 100 -1 -1", "new",
		"files", "",
		"describe", "1: ",
		"tick 4", "",
		"create b 1 1", "2: ok",
		"produce b 0 0 x", "3: 0",
		"files", "b-0/0000000000.log 16, topics 6",
		"produce b 0 0 x", "4: error 12",
		"save", "error 12",
		"fetch b 0 0 900 0 0", "5: 0 1, 0 4 x",
		"new 0 100 9223372036854775807 -9223372036854775808", "new",
		"create a 1 0", "1: error 12",
		"new 1048576 1048576 0 0", "new",
		"describe", "1: ",
	)
}

// With an error nothing is changed.
func TestNewWithAnError(t *testing.T) {
	for _, line := range []string{
		"new -1 100 -1 -1", "new 1048577 100 -1 -1", "new 100 99 -1 -1", "new 100 1048577 -1 -1", "new 100 -1 -1 -1", "new -9223372036854775808 9223372036854775807 0 0",
	} {
		converse(t,
			"create a 1 0", "1: ok",
			"tick 9", "",
			"produce a 0 0 x", "2: 0",
			"fetch a 0 0 900 9 20", "",
			line, "error 2",
			"tick 8", "error 2",
			"files", "a-0/0000000000.log 16, topics 6",
			"produce a 0 0 12345678", "3: 0 2, 0 9 x, 1 9 12345678; 4: 1",
			"log a 0", "0 2 0 39: 0",
		)
	}
}

func TestFiles(t *testing.T) {
	converse(t,
		"files", "",
		"create b 2 1", "1: ok",
		"create a 1 0", "2: ok",
		"produce b 1 0 x", "3: 0",
		"files", "a-0/0000000000.log 0, b-0/0000000000.log 0, b-1/0000000000.log 16, topics 14",
		"drop b", "4: ok",
		"files", "a-0/0000000000.log 0, topics 6",
		"drop a", "5: ok",
		"files", "topics 0",
	)
}

func TestLog(t *testing.T) {
	converse(t,
		"new 10000 100 -1 -1", "new",
		"create a 2 0", "1: ok",
		"log a 0", "0 0 0 0: 0",
		"produce a 1 0 "+great, "2: 0",
		"produce a 1 0 "+great, "3: 1",
		"produce a 1 0 "+great, "4: 2",
		"forget a 1 1", "5: 1",
		"log a 1", "1 3 2 150: 1 2",
		"log a 0", "0 0 0 0: 0",
		"log a 2", "error 2",
		"log a -1", "error 2",
		"log b 0", "error 7",
		"log "+strings.Repeat("a", 100)+" 0", "error 7",
	)
}

func TestHelp(t *testing.T) {
	converse(t, "help", helped, "help x", "error 3", "help help", "error 3")
}
