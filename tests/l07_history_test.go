package tests

import (
	"fmt"
	"math"
	"slices"
	"strings"
	"testing"

	"loop.example/g00771/impl"
)

// withIds returns a log of these Ids, in which At is the index.
func withIds(ids ...int) []impl.Commit {
	var log []impl.Commit
	for i, id := range ids {
		log = append(log, impl.Commit{Worker: 2, At: i, Id: id, Tries: 9 - i, Got: []int{i, id}, Puts: []impl.Put{{Key: i, Value: id}}})
	}
	return log
}

// The far numbers are what 32 bits, a difference or a sum would confuse.
var farNumbers = []int{math.MinInt, math.MinInt + 1, -1 << 32, 1 << 32, 1<<32 + 1, math.MaxInt}

func TestLogOrder(t *testing.T) {
	cases := []struct{ ids, order []int }{
		{nil, nil},
		{[]int{1}, []int{0}},
		{[]int{1, 2, 3}, []int{0, 1, 2}},
		{[]int{3, 2, 1}, []int{2, 1, 0}},
		{[]int{2, 3, 1}, []int{2, 0, 1}},
		{[]int{10, 9, 100}, []int{1, 0, 2}},
		{[]int{5, 5}, []int{0, 1}},
		{[]int{2, 1, 2, 1}, []int{1, 3, 0, 2}},
		{[]int{0, -1, 5, 0, -7}, []int{4, 1, 0, 3, 2}},
		{[]int{math.MaxInt, math.MinInt, 0, -1}, []int{1, 3, 2, 0}},
		{[]int{math.MinInt, math.MaxInt, math.MinInt}, []int{0, 2, 1}},
	}
	state := uint32(21)
	for _, n := range []int{7, 60, 61, 300, 301, 1000} {
		var ids, order []int
		for range n {
			ids = append(ids, draw(&state, 6)-2)
		}
		for id := -2; id < 4; id++ {
			for i := range ids {
				if ids[i] == id {
					order = append(order, i)
				}
			}
		}
		cases = append(cases, struct{ ids, order []int }{ids, order})
	}
	for _, c := range cases {
		log := withIds(c.ids...)
		var want []impl.Commit
		for _, i := range c.order {
			want = append(want, withIds(c.ids...)[i])
		}
		if got := impl.LogOrder(log); fmt.Sprint(got) != fmt.Sprint(want) || fmt.Sprint(log) != fmt.Sprint(withIds(c.ids...)) {
			t.Errorf("LogOrder of %v is %v", c.ids, got)
		}
	}
}

// Three workers, whose log leaves the values 4, 2 and 7. Commit 2 puts what is
// there at key 1 already, and commit 4 only reads the keys 0 and 1.
const (
	loggedProgs = "add 0 5; get 0, put 1 2; get 1 / get 0; put 1 0; get 0; add 0 -1 / get 0; get 2; get 1; put 2 7, get 2"
	loggedLog   = "1 w0 p0 t0 got 5 put 0=5, 2 w1 p0 t1 got 5 5 put 0=4 1=0, 3 w0 p1 t0 got 2 put 1=2, 4 w2 p0 t0 got 4 0 2 put 2=7"
)

func TestReplayLog(t *testing.T) {
	cases := []struct {
		keys       int
		progs, log string
		values     []int
	}{
		{2, "add 0 5 / get 0", "1 w0 p0 t0 got put 0=5, 2 w1 p0 t1 got 5 put", []int{5, 0}},
		{2, "add 0 5 / get 0", "2 w0 p0 t0 got put 0=5, 1 w1 p0 t1 got 0 put", []int{5, 0}},
		{1, "add 0 5 / get 0", "1 w1 p0 t1 got 0 put", []int{0}},
		{8, "add 7 5; get 7 / get 0", "1 w0 p0 t0 got 5 put 7=5", []int{0, 0, 0, 0, 0, 0, 0, 5}},
		{3, loggedProgs, loggedLog, []int{4, 2, 7}},
		{4, loggedProgs, loggedLog, []int{4, 2, 7, 0}},
		{3, loggedProgs, loggedLog + ", 5 w2 p1 t0 got 7 put", []int{4, 2, 7}},
		// Where a commit stands does not matter unless the Ids are equal.
		{3, loggedProgs, "4 w2 p0 t0 got 4 0 2 put 2=7, 2 w1 p0 t1 got 5 5 put 0=4 1=0, 1 w0 p0 t0 got 5 put 0=5, 3 w0 p1 t0 got 2 put 1=2", []int{4, 2, 7}},
		{1, "put 0 1, put 0 2, get 0", "1 w0 p0 t0 got put 0=1, 1 w0 p1 t0 got put 0=2, 1 w0 p2 t0 got 2 put", []int{2}},
		{1, "put 0 1, put 0 2, get 0", "1 w0 p1 t0 got put 0=2, 1 w0 p0 t0 got put 0=1, 1 w0 p2 t0 got 1 put", []int{1}},
		{1, "put 0 1, put 0 2, get 0", "7 w0 p2 t0 got 1 put, 3 w0 p1 t0 got put 0=2, 3 w0 p0 t0 got put 0=1", []int{1}},
		// Neither the Ids nor the Tries have to be those of an engine.
		{2, "add 0 5 / get 0", "-9223372036854775808 w0 p0 t-1 got put 0=5, 9223372036854775807 w1 p0 t301 got 5 put", []int{5, 0}},
		{2, "add 0 5 / get 0", "0 w0 p0 t0 got put 0=5, 0 w0 p0 t0 got put 0=10, 0 w1 p0 t0 got 10 put", []int{10, 0}},
		{1, "get 0, get 0, add 0 3", "1 w0 p2 t0 got put 0=3", []int{3}},
		// Puts that change nothing, and one for several acts on a key.
		{2, "add 0 0; put 1 0", "1 w0 p0 t0 got put 0=0 1=0", []int{0, 0}},
		{2, "put 1 4; get 1; add 1 -4; get 1; get 0", "1 w0 p0 t0 got 4 0 0 put 1=0", []int{0, 0}},
		{1, "add 0 999999, add 0 2, add 0 -1", "1 w0 p0 t0 got put 0=999999, 2 w0 p1 t0 got put 0=1000000, 3 w0 p2 t0 got put 0=999999", []int{999999}},
		{1, "put 0 -1000000; add 0 -1000000; get 0", "1 w0 p0 t0 got -1000000 put 0=-1000000", []int{-1000000}},
		{3, "put 2 1; put 0 2; put 1 3", "1 w0 p0 t0 got put 0=2 1=3 2=1", []int{2, 3, 1}},
		{2, "get 0; get 0; get 1; get 0; get 0; add 0 1", "1 w0 p0 t0 got 0 0 0 0 0 put 0=1", []int{1, 0}},
		// Only an engine limits the workers and their programs.
		{1, "// get 0 ////// add 0 2", "1 w8 p0 t0 got put 0=2, 2 w2 p0 t0 got 2 put", []int{2}},
		{1, strings.Repeat("get 0, ", 13) + "add 0 4", "1 w0 p13 t0 got put 0=4, 2 w0 p12 t0 got 4 put", []int{4}},
	}
	for _, c := range cases {
		values, ok := impl.ReplayLog(c.keys, crew(c.progs), commits(c.log))
		if !ok || !slices.Equal(values, c.values) {
			t.Errorf("ReplayLog of %q with %q is %v, %v", c.log, c.progs, values, ok)
		}
	}
	for keys := 1; keys <= 8; keys++ {
		for _, log := range [][]impl.Commit{nil, {}} {
			for _, progs := range [][][][]impl.Act{nil, {}, {nil}, crew(loggedProgs), {badPrograms()}} {
				if values, ok := impl.ReplayLog(keys, progs, log); !ok || !slices.Equal(values, make([]int, keys)) {
					t.Errorf("ReplayLog of an empty log with %d keys is %v, %v", keys, values, ok)
				}
			}
		}
	}
}

func checkNoReplay(t *testing.T, keys int, progs [][][]impl.Act, log []impl.Commit) {
	t.Helper()
	if values, ok := impl.ReplayLog(keys, progs, log); ok || len(values) != 0 {
		t.Errorf("ReplayLog of %v with %d keys and %v is %v, %v", log, keys, progs, values, ok)
	}
}

// TestReplayLogDiffers changes what a commit tells that the program has
// reported or written.
func TestReplayLogDiffers(t *testing.T) {
	changes := []struct{ from, to string }{
		{"got 5 put", "got put"}, {"got 5 put", "got 4 put"}, {"got 5 put", "got 0 put"}, {"got 5 put", "got 5 5 put"}, {"got 5 put", "got 5 0 put"},
		{"got 5 put", "got -5 put"}, {"got 5 put", "got 4294967301 put"},
		{"5 5 put", "5 put"}, {"5 5 put", "5 4 put"}, {"5 5 put", "4 5 put"}, {"5 5 put", "4 4 put"}, {"5 5 put", "5 5 5 put"},
		{"4 0 2 put", "4 2 0 put"}, {"4 0 2 put", "0 4 2 put"}, {"4 0 2 put", "4 0 put"}, {"4 0 2 put", "0 2 put"}, {"4 0 2 put", "put"},
		{"0=5", ""}, {"0=5", "0=6"}, {"0=5", "1=5"}, {"0=5", "-1=5"}, {"0=5", "8=5"}, {"0=5", "0=0"}, {"0=5", "0=5 0=5"}, {"0=5", "0=0 0=5"}, {"0=5", "0=5 1=0"}, {"0=5", "4294967296=5"},
		{"0=4 1=0", "0=4"}, {"0=4 1=0", "1=0"}, {"0=4 1=0", "1=0 0=4"}, {"0=4 1=0", "0=4 1=0 2=0"}, {"0=4 1=0", "0=4 1=1"}, {"0=4 1=0", "0=5 1=0"}, {"0=4 1=0", "0=4 2=0"}, {"0=4 1=0", "0=4 1=0 1=0"},
		{"0=4 1=0", "0=0 1=4"}, {"0=4 1=0", ""},
		{"2=7", "0=4 2=7"}, {"2=7", "1=2 2=7"}, {"2=7", "0=4 1=2 2=7"}, {"2=7", "2=7 0=4"}, {"2=7", "2=7 1=2"}, {"2=7", "1=2"}, {"2=7", "2=0"},
		// What is put there must be what the commits after it find.
		{"1 w0 p0", "5 w0 p0"}, {"2 w1 p0", "0 w1 p0"}, {"3 w0 p1", "5 w0 p1"}, {"3 w0 p1", "1 w0 p1"}, {"4 w2 p0", "2 w2 p0"},
		{"1 w0 p0 t0 got 5 put 0=5,", ""}, {"2 w1 p0 t1 got 5 5 put 0=4 1=0,", ""}, {"3 w0 p1 t0 got 2 put 1=2,", ""},
		{"4 w2", "4 w2 p0 t0 got 4 0 2 put 2=7, 4 w2"}, {"p1 t0 got 2", "p0 t0 got 2"}, {"w0 p1", "w1 p1"},
	}
	for _, c := range changes {
		log := strings.Replace(loggedLog, c.from, c.to, 1)
		if log == loggedLog {
			t.Errorf("%q is not there", c.from)
		}
		checkNoReplay(t, 3, crew(loggedProgs), commits(log))
	}
}

func TestReplayLogWithoutProgram(t *testing.T) {
	progs := crew(loggedProgs)
	for i := range commits(loggedLog) {
		for _, n := range append(farNumbers, -1, -2, 3, 4, 12, 300) {
			log := commits(loggedLog)
			log[i].Worker = n
			checkNoReplay(t, 3, progs, log)
			log = commits(loggedLog)
			log[i].At = n
			checkNoReplay(t, 3, progs, log)
		}
		for _, bad := range badPrograms() {
			log, broken := commits(loggedLog), crew(loggedProgs)
			broken[log[i].Worker][log[i].At] = bad
			checkNoReplay(t, 3, broken, log)
		}
	}
	for _, log := range []string{"1 w0 p2 t0 got put", "1 w1 p1 t0 got put", "1 w2 p2 t0 got 0 put", "1 w3 p0 t0 got put"} {
		checkNoReplay(t, 3, progs, commits(log))
	}
	for _, progs := range [][][][]impl.Act{nil, {}, {nil}, {nil, nil, nil}, {nil, {{get(0)}}}, {{nil}}, {{{}}}} {
		checkNoReplay(t, 3, progs, commits("1 w0 p0 t0 got put"))
	}
	// A list of seven acts is no program, whatever it would report.
	checkNoReplay(t, 1, [][][]impl.Act{{slices.Repeat([]impl.Act{get(0)}, 7)}}, commits("1 w0 p0 t0 got 0 0 0 0 0 0 0 put"))
	// Programs that no commit has executed do not matter.
	for _, bad := range badPrograms() {
		broken := crew(loggedProgs)
		broken[2][1] = bad
		broken = append(broken, [][]impl.Act{bad})
		if values, ok := impl.ReplayLog(3, broken, commits(loggedLog)); !ok || !slices.Equal(values, []int{4, 2, 7}) {
			t.Errorf("ReplayLog beside the program %v is %v, %v", bad, values, ok)
		}
	}
}

func TestReplayLogLimits(t *testing.T) {
	for _, keys := range append(farNumbers, -1, 0, 9, 10, 300) {
		checkNoReplay(t, keys, crew(loggedProgs), commits(loggedLog))
		checkNoReplay(t, keys, crew("get 0"), commits("1 w0 p0 t0 got 0 put"))
		checkNoReplay(t, keys, nil, nil)
	}
	checkNoReplay(t, 2, crew(loggedProgs), commits(loggedLog))
	for keys := 1; keys <= 8; keys++ {
		for key := range 8 {
			for _, p := range [][]impl.Act{{get(key)}, {add(key, 0)}, {put(key, 0)}} {
				log := []impl.Commit{{Id: 1}}
				if p[0].Kind == 0 {
					log[0].Got = []int{0}
				} else {
					log[0].Puts = []impl.Put{{Key: key}}
				}
				values, ok := impl.ReplayLog(keys, [][][]impl.Act{{p}}, log)
				if ok != (key < keys) || ok && !slices.Equal(values, make([]int, keys)) || !ok && len(values) != 0 {
					t.Errorf("ReplayLog of %v with %d keys is %v, %v", p, keys, values, ok)
				}
			}
		}
	}
	for _, n := range []int{299, 300, 301, 302, 600} {
		var log []impl.Commit
		for i := range n {
			log = append(log, impl.Commit{Id: i + 1, Puts: []impl.Put{{Key: 0, Value: i + 1}}})
		}
		values, ok := impl.ReplayLog(1, crew("add 0 1"), log)
		if ok != (n <= 300) || ok && !slices.Equal(values, []int{n}) || !ok && len(values) != 0 {
			t.Errorf("ReplayLog of %d commits is %v, %v", n, values, ok)
		}
	}
}

// loggedEngine has the values 5, 0 and 0; the commit of worker 1 is not yet
// installed, and worker 0 is done.
const loggedEngine = `setup 3 0 100 0 0
	ids 2
	cells 5 0.1 |, 0 0.0* 2w |, 0 0.0 |
	log 1 w0 p0 t0 got put 0=5, 2 w1 p0 t0 got 5 put 1=7
	w0 add 0 5 @ 1:0.0 0
	w1 get 0; put 1 7 @ 0:5.1 0 puts 1=7 got 5
	w2 get 0 @ 0:2.0 0`

func TestSerialOk(t *testing.T) {
	const first, w1 = "log 1 w0 p0 t0 got put 0=5", "w1 get 0; put 1 7 @ "
	const installed = "cells 5 0.1 |, 7 0.1 |, 0 0.0 |"
	cases := []struct {
		text string
		ok   bool
	}{
		{"", true},
		{w1 + "0:0.0 0 puts 1=7", false}, {w1 + "0:1.0 0 puts 1=7", false}, {w1 + "0:2.1 0 puts 1=7", false}, {w1 + "0:3.1 0 puts 1=7", false}, {w1 + "0:4.1 0 puts 1=7", false},
		{w1 + "0:6.1 0 puts 1=7", false}, {w1 + "0:-1.1 0 puts 1=7", false}, {w1 + "0:4294967301.1 0 puts 1=7", false},
		{w1 + "0:5.0 9 puts 1=7", true}, {w1 + "1:5.1 0 puts 1=7", true},
		{w1 + "0:5.1 0", false}, {w1 + "0:5.1 0 puts 1=8", false}, {w1 + "0:5.1 0 puts 2=7", false}, {w1 + "0:5.1 0 puts 1=7 2=1", false}, {w1 + "0:5.1 0 puts 0=4 1=7", false},
		{w1 + "0:5.1 0 puts 0=5 1=7 2=0", true}, {w1 + "0:5.1 0 puts 1=7 3=9", true}, {w1 + "0:5.1 0 puts -1=9 1=7 8=1 4294967297=3", true}, {w1 + "0:5.1 0 puts -9223372036854775808=9 1=7 9223372036854775807=1", true},
		{w1 + "0:5.1 0 puts 3=7", false}, {w1 + "0:5.1 0 puts -1=7", false},
		{installed, true}, {installed + "\n" + w1 + "1:0.0 0", true}, {installed + "\n" + w1 + "0:4.1 0 puts 1=9", true}, {installed + "\n" + w1 + "0:5.1 0 puts 1=9", false},
		{first, false}, {first + "\n" + w1 + "0:4.1 0 puts 1=7 got 5", true}, {first + "\n" + installed, false}, {first + "\n" + w1 + "0:5.1 0", true},
		{"cells 4 0.1 |, 0 0.0* 2w |, 0 0.0 |", false}, {"cells 5 0.1 |, 0 0.0* 2w |, 1 0.0 |", false}, {"cells 5 0.1 |, 3 0.0* 2w |, 0 0.0 |", true}, {"cells 0 0.1 |, 0 0.0* 2w |, 5 0.0 |", false},
		// The Puts are installed whoever holds the lock, as is every worker's.
		{"cells 5 0.1 |, 0 0.0 |, 0 0.0 |", true}, {"cells 5 0.1 |, 0 0.0* 1w | 2w, 0 0.0 |", true},
		{"cells 0 0.0* 1w |, 0 0.0* 2w |, 0 0.0 | \n w0 add 0 5 @ 0:5.1 0 puts 0=5", true}, {"cells 0 0.0* 1w |, 0 0.0* 2w |, 0 0.0 | \n w0 add 0 5 @ 0:5.1 0", false},
		{"w2 get 0 @ 0:5.0 0 puts 2=1", false}, {"w2 get 0 @ 0:4.0 0 puts 2=1", true}, {"cells 5 0.1 |, 7 0.1 |, 3 0.0 | \n w2 get 0 @ 0:5.0 0 puts 2=0", true},
		// The Log alone tells in which order the programs were executed.
		{"log 2 w1 p0 t0 got 5 put 1=7, 1 w0 p0 t0 got put 0=5", true}, {"log 7 w0 p0 t0 got put 0=5, 7 w1 p0 t3 got 5 put 1=7", true}, {"log 1 w1 p0 t0 got 5 put 1=7, 2 w0 p0 t0 got put 0=5", false},
		{"log 1 w1 p0 t0 got 0 put 1=7, 2 w0 p0 t0 got put 0=5", true}, {"log 1 w0 p0 t0 got put 0=5, 2 w1 p0 t0 got 4 put 1=7", false}, {"log 1 w0 p0 t0 got put 0=5, 2 w1 p0 t0 got 5 put 1=6", false},
		{"log 1 w0 p0 t0 got put 0=5, 2 w3 p0 t0 got 5 put 1=7", false}, {"log 1 w0 p0 t0 got put 0=5, 2 w1 p1 t0 got 5 put 1=7", false}, {"log 1 w0 p0 t0 got put 0=5, 2 w1 p0 t0 got 5 put 1=7, 3 w2 p0 t0 got 5 put", true},
		{"w0 add 0 6 @ 1:0.0 0", false}, {"w0 @ 0:0.0 0", false}, {"w0 put 0 5 @ 1:0.0 0", true}, {"w0 get 0, add 0 5 @ 1:0.0 0", false},
		{"w3 put 0 9 @ 0:0.0 0", true}, {"w3 @ 0:5.0 0 puts 0=9", false},
		// Only the values count of the table, whose cells are the keys, whatever
		// the Setup and the other fields are.
		{"picks -1 \n gate 9 \n ids 7 \n fails -1 \n heat 0=99", true}, {"setup 2 0 100 0 0", true}, {"setup 4 0 100 0 0", true}, {"setup 0 0 100 0 0", true}, {"setup 3 -1 0 1 11", true},
		{"setup -1 0 100 0 0", true}, {"setup 9 0 100 0 0", true}, {"setup 9223372036854775807 0 100 0 0", true}, {"setup -9223372036854775808 0 100 0 0", true},
		{"setup 2 0 100 0 0 \n cells 5 0.1 |, 0 0.0 |", true}, {"cells 5 0.1 |, 0 0.0 |", true}, {"cells 5 0.1 |", false}, {"cells 5 0.1 |, 0 0.0 |, 0 0.0 |, 0 0.0 |", true}, {"cells 5 0.1 |, 0 0.0 |, 0 0.0 |, 1 0.0 |", false},
		{"setup 2 0 100 0 0 \n cells 5 0.1 |, 0 0.0 |, 1 0.0 |", false}, {"setup 3 0 100 0 0 \n cells 5 0.1 |, 0 0.0 |, 0 0.0 |, 1 0.0 |", false},
		{"cells 5 0.1* |, 0 0.0* 2w |, 0 0.0 |", true}, {"cells 5 0.1 |, 0 0.0* 2w |, 0 0.70000 |", true}, {"cells 5 -1.1 |, 0 2000.-3 2w |, 0 0.0 |", true}, {"cells 5 0.1 |, 0 0.0* 2w |, 0 0.0 1w |", true},
		{"cells 5 0.1 1w 2w | 3r 3r, 0 0.0* 2r 1r 9r |, 0 0.0 | 1w", true}, {"cells 4 0.1* |, 0 0.0* 2w |, 0 0.0 |", false}, {"cells 5 0.1 |, 0 0.0* 2w |, 1 0.70000 |", false}, {"cells 5 0.1 1w 2w |, 0 0.0 |, 2 0.0 | 1w", false},
		{"cells 1000005 0.1 |, 0 0.0 |, 0 0.0 |", false}, {"cells 5 0.1 |, 1000007 0.0* 2w |, 0 0.0 |", true}, {"cells 5 0.1 |, 0 0.0 |, 0 0.0 | \n w2 get 0 @ 0:5.0 0 puts 2=9000000", false},
	}
	for _, c := range cases {
		e := engine(loggedEngine)
		setLines(&e, c.text)
		if got := impl.SerialOk(e); got != c.ok {
			t.Errorf("SerialOk is %v with %q", got, c.text)
		}
	}
}

func TestSerialOkOfOthers(t *testing.T) {
	for _, s := range goodSetups() {
		e, _ := impl.NewEngine(s, crew("add 0 5 / get 0"))
		if !impl.SerialOk(e) {
			t.Errorf("SerialOk of a new engine with %v is false", s)
		}
		e.Table.Cells[s.Keys-1].Value = 1
		if impl.SerialOk(e) {
			t.Errorf("SerialOk of a new engine with %v and a value is true", s)
		}
	}
	if impl.SerialOk(impl.Engine{}) {
		t.Error("SerialOk of the zero value is true")
	}
	for _, n := range []int{0, 1, 2, 7, 8, 9, 300} {
		for _, keys := range append(farNumbers, n, -1, 0, 1, 8, 9) {
			e := engine("setup 8 0 1 0 0")
			e.Setup.Keys, e.Table.Cells = keys, make([]impl.Cell, n)
			if ok := impl.SerialOk(e); ok != (1 <= n && n <= 8) {
				t.Errorf("SerialOk of %d cells with Setup.Keys %d is %v", n, keys, ok)
			}
		}
	}
	for _, tb := range badTables() {
		e := engine("setup 1 0 1 0 0")
		e.Table = tb
		if got := impl.SerialOk(e); got != isSerial(e) {
			t.Errorf("SerialOk of the table %v is %v", tb, got)
		}
	}
	for _, n := range []int{299, 300, 301} {
		e := engine("setup 1 0 1 0 0 \n w0 get 0 @ 1:0.0 0")
		for i := range n {
			e.Log = append(e.Log, impl.Commit{Id: i, Got: []int{0}})
		}
		if impl.SerialOk(e) != (n <= 300) {
			t.Errorf("SerialOk of %d commits is %v", n, n > 300)
		}
	}
	e := engine("setup 1 0 1 0 0 \n w6 add 0 2 @ 1:0.0 0 \n cells 2 0.0 | \n log 1 w6 p0 t0 got put 0=2")
	if !impl.SerialOk(e) {
		t.Error("SerialOk of seven workers is false")
	}
}

func TestIdsOk(t *testing.T) {
	var thousand []int
	for i := range 1000 {
		thousand = append(thousand, i+1)
	}
	for _, ids := range [][]int{nil, {}, {1}, {1, 2}, {1, 2, 3, 4}, thousand[:60], thousand[:61], thousand[:300], thousand[:301], thousand} {
		if !impl.IdsOk(withIds(ids...)) {
			t.Errorf("IdsOk of %v is false", ids)
		}
	}
	bad := [][]int{
		{0}, {2}, {-1}, {0, 1}, {0, 1, 2}, {2, 1}, {1, 1}, {1, 3}, {1, 2, 2}, {1, 2, 4}, {1, 2, 1}, {1, 2, 0}, {2, 3, 4}, {1, 3, 2}, {3, 2, 1}, {1, 1, 3}, {1, 2, 3, 3},
		append(slices.Clone(thousand), 1000), append(slices.Clone(thousand), 1002), thousand[1:],
	}
	for _, n := range farNumbers {
		bad = append(bad, []int{n}, []int{1, n}, []int{1, n, 3})
	}
	for _, ids := range bad {
		if impl.IdsOk(withIds(ids...)) {
			t.Errorf("IdsOk of %v is true", ids)
		}
	}
}

// places reads a log of the Workers and Ats of "0.0 1.0 0.1"; its Ids descend.
func places(text string) []impl.Commit {
	var log []impl.Commit
	for i, item := range strings.Fields(text) {
		w, at, _ := strings.Cut(item, ".")
		log = append(log, impl.Commit{Worker: num(w), At: num(at), Id: -i, Tries: i, Got: []int{i}})
	}
	return log
}

func TestOncePer(t *testing.T) {
	good := []string{
		"", "0.0", "3.0", "0.0 0.1", "0.0 1.0", "1.0 0.0", "0.0 1.0 0.1 1.1", "1.0 1.1 1.2 0.0 0.1", "0.0 3.0 2.0 1.0 3.1 0.1 0.2", "4.0 4.1 100.0", "-1.0", "-1.0 -1.1 1.0", "9223372036854775807.0 -9223372036854775808.0",
		"0.0 4294967296.0 0.1 4294967296.1", "0.0 0.1 0.2 0.3 0.4 0.5 0.6 0.7 0.8 0.9 0.10 0.11 0.12 0.13",
	}
	for _, text := range good {
		if !impl.OncePer(places(text)) {
			t.Errorf("OncePer of %q is false", text)
		}
	}
	bad := []string{
		"0.1", "1.1", "0.-1", "-1.-1", "-1.1", "0.0 0.0", "0.0 0.2", "0.1 0.0", "0.0 1.1", "0.1 1.0", "0.0 1.0 0.0", "0.0 1.0 1.0", "0.0 0.1 0.1", "0.0 0.1 0.0", "0.0 0.2 0.1", "0.0 1.0 0.1 1.2", "0.0 0.-1", "0.0 0.1 0.3",
		"1.0 0.0 1.1 0.1 0.1", "0.0 1.0 2.0 3.0 3.0", "0.0 1.0 2.1", "0.0 0.4294967297", "0.4294967296", "0.9223372036854775807", "0.-9223372036854775808", "0.0 0.1 1.2", "3.0 3.1 3.2 3.1", "3.0 2.0 1.0 0.0 0.2",
	}
	for _, text := range bad {
		if impl.OncePer(places(text)) {
			t.Errorf("OncePer of %q is true", text)
		}
	}
	for _, n := range []int{60, 61, 300, 301, 1000} {
		log := places(strings.Repeat("0.0 1.0 ", n))
		for i := range log {
			log[i].At = i / 2
		}
		if !impl.OncePer(log) {
			t.Errorf("OncePer of %d commits is false", 2*n)
		}
		log[2*n-1].At--
		if impl.OncePer(log) {
			t.Errorf("OncePer of %d commits is true", 2*n)
		}
	}
}

// clashText writes "0>1:2" for a Clash from 0 to 1 on key 2.
func clashText(list []impl.Clash) string {
	var parts []string
	for _, c := range list {
		parts = append(parts, fmt.Sprintf("%d>%d:%d", c.From, c.To, c.Key))
	}
	return strings.Join(parts, " ")
}

func TestClashesOf(t *testing.T) {
	const both = "1 w0 p0 t0 got put, 2 w1 p0 t0 got put"
	cases := []struct{ progs, log, clashes string }{
		{"", "", ""}, {"add 0 5 / get 0", "", ""}, {"add 0 5", "1 w0 p0 t0 got put 0=5", ""},
		{"add 0 5 / get 0", both, "0>1:0"}, {"get 0 / add 0 5", both, "0>1:0"}, {"put 0 1 / get 0", both, "0>1:0"}, {"get 0 / put 0 1", both, "0>1:0"},
		{"put 0 1 / put 0 1", both, "0>1:0"}, {"put 0 1 / add 0 1", both, "0>1:0"}, {"add 0 0 / add 0 0", both, "0>1:0"}, {"put 0 0 / get 0", both, "0>1:0"},
		{"get 0 / get 0", both, ""}, {"get 0; get 0 / get 0; get 7", both, ""}, {"put 0 1 / put 1 1", both, ""}, {"get 0; put 1 1 / get 0; put 2 1", both, ""},
		{"put 7 1; get 0 / get 7; put 0 1", both, "0>1:0 0>1:7"}, {"put 7 1; put 3 1; put 5 1 / get 3; get 5; get 7; get 1", both, "0>1:3 0>1:5 0>1:7"},
		{"get 0; get 1; put 1 3 / get 0; get 1", both, "0>1:1"}, {"get 0; get 1 / put 1 3; get 0", both, "0>1:1"}, {"put 0 1; get 0; get 0 / get 0", both, "0>1:0"}, {"get 0; get 0; add 0 1 / get 0", both, "0>1:0"},
		{"get 0; put 1 1; get 2; put 3 1 / get 0; get 1; put 2 1; put 3 1", both, "0>1:1 0>1:2 0>1:3"},
		// A program may be there several times, and the indices are of LogOrder.
		{"add 0 5", "1 w0 p0 t0 got put, 2 w0 p0 t0 got put, 3 w0 p0 t0 got put", "0>1:0 0>2:0 1>2:0"},
		{"get 0 / put 0 1 / get 0", "3 w0 p0 t0 got put, 2 w1 p0 t0 got put, 1 w2 p0 t0 got put", "0>1:0 1>2:0"},
		{"get 0 / put 0 1 / get 0", "3 w0 p0 t0 got put, 1 w1 p0 t0 got put, 2 w2 p0 t0 got put", "0>1:0 0>2:0"},
		{"get 0 / put 0 1 / get 0", "2 w0 p0 t0 got put, 9 w1 p0 t0 got put, -2 w2 p0 t0 got put", "0>2:0 1>2:0"},
		{"get 0; put 1 1 / put 0 1 / get 1", "7 w0 p0 t0 got put, 7 w1 p0 t0 got put, 7 w2 p0 t0 got put", "0>1:0 0>2:1"},
		{"get 0; put 1 1 / put 0 1 / get 1", "7 w2 p0 t0 got put, 7 w1 p0 t0 got put, 7 w0 p0 t0 got put", "0>2:1 1>2:0"},
		{"get 0; put 1 1 / put 0 1 / get 1", "7 w2 p0 t0 got put, 3 w1 p0 t0 got put, 7 w0 p0 t0 got put", "0>2:0 1>2:1"},
		{"put 1 1; put 0 1, get 1 / get 0; get 1, get 0", "1 w0 p0 t0 got put, 2 w1 p0 t0 got put, 3 w1 p1 t0 got put, 4 w0 p1 t0 got put", "0>1:0 0>1:1 0>2:0 0>3:1"},
		// What the commits report and put does not matter.
		{"put 0 1 / get 1", "1 w0 p0 t-9 got 5 put 1=3, 2 w1 p0 t900 got put 1=4 0=2", ""},
		{"/// add 7 1 / get 7", "0 w3 p0 t0 got put, 0 w4 p0 t0 got put", "0>1:7"},
		{strings.Repeat("get 0, ", 13) + "add 0 4", "1 w0 p13 t0 got put, 2 w0 p12 t0 got put", "0>1:0"},
	}
	for _, c := range cases {
		if got := impl.ClashesOf(crew(c.progs), commits(c.log)); clashText(got) != c.clashes {
			t.Errorf("ClashesOf(%q, %q) = %v", c.progs, c.log, got)
		}
	}
}

func TestClashesOfLimits(t *testing.T) {
	progs := crew("put 0 1; get 3 / get 1; add 0 1")
	for _, n := range []int{2, 59, 60, 61, 62, 120, 300} {
		log := make([]impl.Commit, n)
		var want []impl.Clash
		for i := range log {
			log[i] = impl.Commit{Worker: i % 2, Id: -i / 2}
		}
		for from := 0; from < n && n <= 60; from++ {
			for to := from + 1; to < n; to++ {
				want = append(want, impl.Clash{From: from, To: to, Key: 0})
			}
		}
		if got := impl.ClashesOf(progs, log); !slices.Equal(got, want) {
			t.Errorf("ClashesOf of %d commits is %v", n, got)
		}
	}
}

func TestClashesOfWithoutProgram(t *testing.T) {
	progs := crew(loggedProgs)
	if got := clashText(impl.ClashesOf(progs, commits(loggedLog))); got != "0>1:0 0>3:0 1>2:1 1>3:0 1>3:1 2>3:1" {
		t.Errorf("ClashesOf of the good log is %q", got)
	}
	check := func(progs [][][]impl.Act, log []impl.Commit) {
		t.Helper()
		if got := impl.ClashesOf(progs, log); len(got) != 0 {
			t.Errorf("ClashesOf(%v, %v) = %v", progs, log, got)
		}
	}
	for i := range commits(loggedLog) {
		for _, n := range append(farNumbers, -1, -2, 3, 4, 12, 300) {
			log := commits(loggedLog)
			log[i].Worker = n
			check(progs, log)
			log = commits(loggedLog)
			log[i].At = n
			check(progs, log)
		}
		for _, bad := range badPrograms() {
			log, broken := commits(loggedLog), crew(loggedProgs)
			broken[log[i].Worker][log[i].At] = bad
			check(broken, log)
		}
	}
	for _, progs := range [][][][]impl.Act{nil, {}, {nil}, {{{put(0, 1)}}}, {nil, {{put(0, 1)}}}} {
		check(progs, commits("1 w0 p0 t0 got put, 2 w1 p0 t0 got put"))
	}
	for _, bad := range badPrograms() {
		broken := crew(loggedProgs)
		broken[2][1] = bad
		if got := impl.ClashesOf(append(broken, [][]impl.Act{bad}), commits(loggedLog)); len(got) != 6 {
			t.Errorf("ClashesOf beside the program %v is %v", bad, got)
		}
	}
}

func withTries(tries ...int) []impl.Commit {
	log := make([]impl.Commit, len(tries))
	for i, n := range tries {
		log[i] = impl.Commit{At: i, Tries: n, Got: []int{7}}
	}
	return log
}

func TestTriesOf(t *testing.T) {
	cases := []struct{ tries, counts []int }{
		{nil, nil}, {[]int{0}, []int{1}}, {[]int{1}, []int{0, 1}}, {[]int{0, 1}, []int{1, 1}}, {[]int{1, 0}, []int{1, 1}}, {[]int{0, 0, 0}, []int{3}}, {[]int{3}, []int{0, 0, 0, 1}},
		{[]int{2, 0, 2, 5, 0, 2}, []int{2, 0, 3, 0, 0, 1}}, {[]int{5, 4}, []int{0, 0, 0, 0, 1, 1}},
		{[]int{-1}, nil}, {[]int{0, -1}, nil}, {[]int{-1, 0}, nil}, {[]int{301}, nil}, {[]int{302}, nil}, {[]int{0, 301, 0}, nil}, {[]int{300, 301}, nil}, {[]int{301, 300}, nil},
	}
	for _, n := range farNumbers {
		cases = append(cases, struct{ tries, counts []int }{[]int{n}, nil}, struct{ tries, counts []int }{[]int{1, n, 1}, nil})
	}
	for _, n := range []int{299, 300} {
		counts := make([]int, n+1)
		counts[n] = 2
		counts[4]++
		cases = append(cases, struct{ tries, counts []int }{[]int{n, 4, n}, counts})
	}
	for _, n := range []int{60, 61, 300, 301, 1000} {
		cases = append(cases, struct{ tries, counts []int }{slices.Repeat([]int{1, 3}, n), []int{0, n, 0, n}})
	}
	for _, c := range cases {
		if got := impl.TriesOf(withTries(c.tries...)); !slices.Equal(got, c.counts) {
			t.Errorf("TriesOf of %v is %v", c.tries, got)
		}
	}
	if got := impl.TriesOf([]impl.Commit{}); len(got) != 0 {
		t.Errorf("TriesOf of no commits is %v", got)
	}
}

func TestCommitText(t *testing.T) {
	texts := []string{
		"1 w0 p0 t0 got put 0=5", "2 w1 p0 t1 got 5 put", "12 w3 p11 t10 got put", "7 w2 p1 t0 got 5 -6 0 put 0=-1000000 3=0 7=1000000", "0 w0 p0 t0 got put",
		"-1 w-2 p-3 t-4 got -5 put -6=-7", "1 w0 p0 t0 got 1 2 3 4 5 6 put 0=1 0=1",
	}
	for _, text := range texts {
		if got := impl.CommitText(commit(text)); got != text {
			t.Errorf("CommitText of %q is %q", text, got)
		}
	}
	cases := []struct {
		c    impl.Commit
		text string
	}{
		{impl.Commit{}, "0 w0 p0 t0 got put"},
		{impl.Commit{Worker: 1, At: 2, Id: 3, Tries: 4, Got: []int{5, 6}, Puts: []impl.Put{{Key: 7, Value: 8}, {Key: 9, Value: -10}}}, "3 w1 p2 t4 got 5 6 put 7=8 9=-10"},
		{impl.Commit{Worker: math.MaxInt, At: math.MinInt, Got: []int{math.MinInt}}, "0 w9223372036854775807 p-9223372036854775808 t0 got -9223372036854775808 put"},
	}
	for _, c := range cases {
		if got := impl.CommitText(c.c); got != c.text {
			t.Errorf("CommitText(%v) = %q", c.c, got)
		}
	}
}

// differentCommits holds commits of which no two are the same.
var differentCommits = []string{
	"1 w2 p3 t4 got 5 6 put 0=7 1=8", "0 w2 p3 t4 got 5 6 put 0=7 1=8", "1 w0 p3 t4 got 5 6 put 0=7 1=8", "1 w2 p0 t4 got 5 6 put 0=7 1=8", "1 w2 p3 t0 got 5 6 put 0=7 1=8",
	"2 w1 p3 t4 got 5 6 put 0=7 1=8", "1 w3 p2 t4 got 5 6 put 0=7 1=8", "1 w2 p4 t3 got 5 6 put 0=7 1=8", "-1 w2 p3 t4 got 5 6 put 0=7 1=8", "4294967297 w2 p3 t4 got 5 6 put 0=7 1=8",
	"1 w2 p3 t4 got 5 put 0=7 1=8", "1 w2 p3 t4 got 5 6 6 put 0=7 1=8", "1 w2 p3 t4 got 6 5 put 0=7 1=8", "1 w2 p3 t4 got 5 7 put 0=7 1=8", "1 w2 p3 t4 got 4 6 put 0=7 1=8", "1 w2 p3 t4 got put 0=7 1=8", "1 w2 p3 t4 got 56 put 0=7 1=8", "1 w2 p3 t4 got -5 6 put 0=7 1=8",
	"1 w2 p3 t4 got 5 6 put 0=7", "1 w2 p3 t4 got 5 6 put 1=8", "1 w2 p3 t4 got 5 6 put 1=8 0=7", "1 w2 p3 t4 got 5 6 put 0=7 1=9", "1 w2 p3 t4 got 5 6 put 0=8 1=8", "1 w2 p3 t4 got 5 6 put 0=7 2=8", "1 w2 p3 t4 got 5 6 put 7=0 1=8",
	"1 w2 p3 t4 got 5 6 put 0=7 1=8 1=8", "1 w2 p3 t4 got 5 6 put", "1 w2 p3 t4 got 5 6 put 0=-7 1=8", "0 w0 p0 t0 got put", "0 w0 p0 t0 got 0 put", "0 w0 p0 t0 got put 0=0",
}

func TestSameLog(t *testing.T) {
	one := func(i int) []impl.Commit { return commits(differentCommits[i]) }
	for i := range differentCommits {
		for k := range differentCommits {
			if got := impl.SameLog(one(i), one(k)); got != (i == k) {
				t.Errorf("SameLog of %q and %q is %v", differentCommits[i], differentCommits[k], got)
			}
			a := slices.Concat(one(0), one(i), one(3))
			b := slices.Concat(one(0), one(k), one(3))
			if got := impl.SameLog(a, b); got != (i == k) {
				t.Errorf("SameLog with %q and %q in the middle is %v", differentCommits[i], differentCommits[k], got)
			}
			if got := impl.SameLog(slices.Concat(one(i), one(k)), slices.Concat(one(k), one(i))); got != (i == k) {
				t.Errorf("SameLog of %q and %q in the other order is %v", differentCommits[i], differentCommits[k], got)
			}
		}
	}
	long := withIds(slices.Repeat([]int{4, 5}, 500)...)
	for n := range len(long) {
		if n%97 == 0 && (impl.SameLog(long[:n], long) || impl.SameLog(long, long[:n]) || !impl.SameLog(long[:n], withIds(slices.Repeat([]int{4, 5}, n/2+1)[:n]...))) {
			t.Errorf("SameLog of logs of %d and 1000 commits", n)
		}
	}
	zero := impl.Commit{}
	empty := impl.Commit{Got: []int{}, Puts: []impl.Put{}}
	if !impl.SameLog(nil, nil) || !impl.SameLog(nil, []impl.Commit{}) || !impl.SameLog([]impl.Commit{zero}, []impl.Commit{empty}) {
		t.Error("SameLog of empty lists is false")
	}
	if impl.SameLog(nil, []impl.Commit{zero}) || impl.SameLog([]impl.Commit{zero, zero}, []impl.Commit{zero}) {
		t.Error("SameLog of logs of different length is true")
	}
}
