package tests

import (
	"fmt"
	"math"
	"slices"
	"strconv"
	"strings"
	"testing"

	"loop.example/g00771/impl"
)

func num(text string) int {
	n, err := strconv.Atoi(text)
	if err != nil {
		panic(err)
	}
	return n
}

// programs reads the programs of one worker, such as "add 0 5; get 1, put 1 2".
func programs(text string) [][]impl.Act {
	var list [][]impl.Act
	for _, part := range strings.Split(text, ",") {
		if part = strings.TrimSpace(part); part == "" {
			continue
		}
		p, ok := impl.ParseProg(part)
		if !ok {
			panic("no program: " + part)
		}
		list = append(list, p)
	}
	return list
}

// crew reads the programs of several workers, separated by "/".
func crew(text string) [][][]impl.Act {
	var all [][][]impl.Act
	for _, part := range strings.Split(text, "/") {
		all = append(all, programs(part))
	}
	return all
}

// pair reads "0=5".
func pair(text string) (int, int) {
	a, b, _ := strings.Cut(text, "=")
	return num(a), num(b)
}

func pendingPut(text string) impl.Put {
	key, value := pair(text)
	return impl.Put{Key: key, Value: value}
}

// worker reads the programs, the WorkerText and the lists of a worker, such as
// "get 0, add 1 2 @ 0:2.1 3 wants 0r reads 0=5@0.1* puts 1=7 got 5".
func worker(text string) impl.Worker {
	progs, rest, _ := strings.Cut(text, "@")
	fields := strings.Fields(rest)
	at, phase, _ := strings.Cut(fields[0], ":")
	phase, pc, _ := strings.Cut(phase, ".")
	w := impl.Worker{Progs: programs(progs), At: num(at), Phase: num(phase), Pc: num(pc), Tries: num(fields[1])}
	list := ""
	for _, item := range fields[2:] {
		switch {
		case strings.Contains("wants reads puts got", item):
			list = item
		case list == "wants":
			w.Wants = append(w.Wants, wants(item)...)
		case list == "reads":
			seen, word, _ := strings.Cut(item, "@")
			key, value := pair(seen)
			w.Reads = append(w.Reads, impl.Seen{Key: key, Word: cell("0 " + word + " |").Word, Value: value})
		case list == "puts":
			w.Puts = append(w.Puts, pendingPut(item))
		case list == "got":
			w.Got = append(w.Got, num(item))
		}
	}
	return w
}

// commit reads what CommitText writes.
func commit(text string) impl.Commit {
	fields := strings.Fields(text)
	c := impl.Commit{Id: num(fields[0]), Worker: num(fields[1][1:]), At: num(fields[2][1:]), Tries: num(fields[3][1:])}
	putAt := slices.Index(fields, "put")
	for _, item := range fields[5:putAt] {
		c.Got = append(c.Got, num(item))
	}
	for _, item := range fields[putAt+1:] {
		c.Puts = append(c.Puts, pendingPut(item))
	}
	return c
}

// commits reads a log: CommitTexts that are separated by commas.
func commits(text string) []impl.Commit {
	var log []impl.Commit
	for _, part := range strings.Split(text, ",") {
		if strings.TrimSpace(part) != "" {
			log = append(log, commit(part))
		}
	}
	return log
}

// setup reads Keys, Hot, Cool, Lists as 0 or 1, and Age.
func setup(text string) impl.Setup {
	fields := strings.Fields(text)
	return impl.Setup{Keys: num(fields[0]), Hot: num(fields[1]), Cool: num(fields[2]), Lists: fields[3] == "1", Age: num(fields[4])}
}

// setLine changes the part of e that the line names by its first word.
func setLine(e *impl.Engine, line string) {
	name, rest, _ := strings.Cut(line, " ")
	switch name {
	case "":
	case "setup":
		e.Setup = setup(rest)
	case "cells":
		e.Table = table(rest)
	case "heat":
		e.Heat = make([]int, impl.MaxKeys)
		for _, item := range strings.Fields(rest) {
			key, level := pair(item)
			e.Heat[key] = level
		}
	case "picks":
		e.Picks = num(rest)
	case "gate":
		e.Gate = num(rest)
	case "ids":
		e.Ids = num(rest)
	case "fails":
		e.Fails = num(rest)
	case "log":
		e.Log = commits(rest)
	default:
		for index := num(name[1:]); len(e.Workers) <= index; {
			e.Workers = append(e.Workers, impl.Worker{})
		}
		e.Workers[num(name[1:])] = worker(rest)
	}
}

func setLines(e *impl.Engine, text string) {
	for line := range strings.Lines(text) {
		setLine(e, strings.TrimSpace(line))
	}
}

// engine reads an engine; what the text does not name is as in a new one.
func engine(text string) impl.Engine {
	e := impl.Engine{Setup: setup("2 0 100 0 0"), Heat: make([]int, impl.MaxKeys), Gate: -1}
	setLines(&e, text)
	if e.Table.Cells == nil {
		e.Table.Cells = make([]impl.Cell, e.Setup.Keys)
	}
	return e
}

// engineText is the same for a nil list and an empty one.
func engineText(e impl.Engine) string { return fmt.Sprintf("%v", e) }

func sameEngine(a, b impl.Engine) bool { return engineText(a) == engineText(b) }

// A step is one pick: of the engine before, and the lines that differ in the
// engine after it, beside Picks.
type step struct {
	name, before string
	w            int
	moved        bool
	after        string
}

func checkSteps(t *testing.T, steps []step) {
	t.Helper()
	for _, s := range steps {
		before, want := engine(s.before), engine(s.before)
		if !impl.EngineOk(before) {
			t.Errorf("%s: EngineOk is false", s.name)
		}
		want.Picks++
		setLines(&want, s.after)
		after, moved := impl.PickWorker(before, s.w)
		if moved != s.moved || !sameEngine(after, want) {
			t.Errorf("%s: %v\n%v\n%v", s.name, moved, engineText(after), engineText(want))
		}
		if !sameEngine(before, engine(s.before)) {
			t.Errorf("%s: the engine that was given has changed", s.name)
		}
		if !impl.EngineOk(after) {
			t.Errorf("%s: EngineOk is false after the pick", s.name)
		}
	}
}

func TestChapter6Limits(t *testing.T) {
	if impl.MaxWorkers != 4 || impl.MaxProgs != 12 || impl.MaxPicks != 400 {
		t.Error("limits differ from the document")
	}
}

func goodSetups() []impl.Setup {
	all := []impl.Setup{impl.DefaultSetup()}
	for _, text := range []string{"1 0 1 0 0", "8 20 100 1 10", "1 20 1 1 0", "8 0 100 0 10", "4 4 20 0 3", "3 1 50 1 1"} {
		all = append(all, setup(text))
	}
	for n := 1; n <= 8; n++ {
		all = append(all, impl.Setup{Keys: n, Hot: 0, Cool: 1, Age: 0})
	}
	for n := range 21 {
		all = append(all, impl.Setup{Keys: 1, Hot: n, Cool: 1, Lists: n%2 == 0})
	}
	for n := 1; n <= 100; n++ {
		all = append(all, impl.Setup{Keys: 8, Cool: n})
	}
	for n := range 11 {
		all = append(all, impl.Setup{Keys: 2, Cool: 10, Age: n})
	}
	return all
}

// badSetups holds setups with one number beyond its limits.
func badSetups() []impl.Setup {
	all := []impl.Setup{{}}
	set := func(keys, hot, cool, age int) {
		all = append(all, impl.Setup{Keys: keys, Hot: hot, Cool: cool, Age: age}, impl.Setup{Keys: keys, Hot: hot, Cool: cool, Lists: true, Age: age})
	}
	far := []int{math.MinInt, math.MaxInt, 1 << 32, 1<<32 + 1, -1 << 32}
	for _, n := range append(far, -1, 0, 9, 10) {
		set(n, 4, 20, 3)
	}
	for _, n := range append(far, -1, 21, 22, -20) {
		set(4, n, 20, 3)
	}
	for _, n := range append(far, -1, 0, 101, 102) {
		set(4, 4, n, 3)
	}
	for _, n := range append(far, -1, 11, 12) {
		set(4, 4, 20, n)
	}
	return all
}

func TestSetups(t *testing.T) {
	if got := impl.DefaultSetup(); got != (impl.Setup{Keys: 4, Hot: 4, Cool: 20, Lists: true, Age: 3}) {
		t.Errorf("DefaultSetup() = %v", got)
	}
	for _, s := range goodSetups() {
		if !impl.SetupOk(s) {
			t.Errorf("SetupOk(%v) is false", s)
		}
	}
	for _, s := range badSetups() {
		if impl.SetupOk(s) {
			t.Errorf("SetupOk(%v) is true", s)
		}
	}
}

// newEngine is what NewEngine has to return.
func newEngine(s impl.Setup, progs [][][]impl.Act) impl.Engine {
	e := impl.Engine{Setup: s, Table: impl.Table{Cells: make([]impl.Cell, s.Keys)}, Heat: make([]int, 8), Gate: -1}
	for _, list := range progs {
		e.Workers = append(e.Workers, impl.Worker{Progs: list})
	}
	return e
}

func TestNewEngine(t *testing.T) {
	twelve := slices.Repeat(programs("add 0 5; get 0"), 12)
	crews := [][][][]impl.Act{
		nil, {}, {nil}, {{}}, {nil, nil, nil, nil}, crew("add 0 5"), crew("add 0 5 / get 0"), crew("get 0, put 0 1 // add 0 -1"), crew("get 0; get 0; get 0; get 0; get 0; get 0"),
		{twelve}, {twelve, nil, twelve, twelve},
	}
	for _, s := range goodSetups() {
		for _, progs := range crews {
			e, ok := impl.NewEngine(s, progs)
			if !ok || !sameEngine(e, newEngine(s, progs)) || !impl.EngineOk(e) {
				t.Errorf("NewEngine(%v, %v) = %v, %v", s, progs, e, ok)
			}
		}
	}
	for keys := 1; keys <= 8; keys++ {
		for key := range 8 {
			_, ok := impl.NewEngine(impl.Setup{Keys: keys, Cool: 1}, [][][]impl.Act{nil, {{get(0)}, {get(0), add(key, 1)}}})
			if ok != (key < keys) {
				t.Errorf("NewEngine of %d keys and a program with key %d is %v", keys, key, ok)
			}
		}
	}
}

// badCrews holds programs that no engine of two keys can have.
func badCrews() [][][][]impl.Act {
	good := programs("add 0 5; get 1")
	all := [][][][]impl.Act{
		{nil, nil, nil, nil, nil}, {good, good, good, good, good}, slices.Repeat([][][]impl.Act{nil}, 100),
		{slices.Repeat(good, 13)}, {nil, good, good, slices.Repeat(good, 13)}, {slices.Repeat(good, 300)},
		crew("get 2"), crew("get 0; get 2"), crew("get 0, put 7 1"), crew("get 0 / get 1, get 1; add 2 1; get 0"),
	}
	for _, p := range badPrograms() {
		all = append(all, [][][]impl.Act{{p}}, [][][]impl.Act{good, {good[0], p}}, [][][]impl.Act{{p, good[0]}, good})
	}
	return all
}

func isZeroEngine(e impl.Engine) bool { return sameEngine(e, impl.Engine{}) }

func TestNewEngineRefuses(t *testing.T) {
	check := func(s impl.Setup, progs [][][]impl.Act) {
		t.Helper()
		if e, ok := impl.NewEngine(s, progs); ok || !isZeroEngine(e) {
			t.Errorf("NewEngine(%v, %v) = %v, %v", s, progs, e, ok)
		}
		if e, told, ok := impl.PlayPicks(s, progs, []int{0, 0}); ok || !isZeroEngine(e) || len(told) != 0 {
			t.Errorf("PlayPicks(%v, %v) = %v, %v, %v", s, progs, e, told, ok)
		}
	}
	for _, s := range badSetups() {
		check(s, nil)
		check(s, crew("get 0"))
	}
	for _, progs := range badCrews() {
		check(setup("2 4 20 1 3"), progs)
	}
}

func TestPicksOfNobody(t *testing.T) {
	steps := []step{
		{"a done worker", "w0 get 0 @ 1:0.0 0", 0, false, ""},
		{"a worker far beyond its programs", "w0 get 0 @ 5:0.0 2", 0, false, ""},
		{"a worker without programs", "w0 @ 0:0.0 0", 0, false, ""},
		{"a done worker that has the Gate", "gate 0 \n w0 get 0 @ 1:0.0 0", 0, false, ""},
		{"a done worker beside others", "w0 get 0 @ 0:1.0 0 \n w1 get 0 @ 1:0.0 0", 1, false, ""},
		{"no workers", "", 0, false, ""},
		{"no workers, cooling", "setup 1 0 10 0 0 \n picks 9 \n heat 0=5 7=20", 0, false, "heat 0=2 7=10"},
		{"a done worker, cooling", "setup 2 1 1 1 1 \n picks 7 \n heat 0=5 6=1 \n w0 get 0 @ 1:0.0 0", 0, false, "heat 0=2"},
	}
	for phase := range 6 {
		at := "1:" + strconv.Itoa(phase) + ".3 2"
		steps = append(steps, step{"a done worker in each phase", "cells 0 0.0* 1w | 2r, 0 0.0 2r | 1w \n w0 get 0 @ " + at + " wants 0w 1w reads 0=5@0.1 puts 0=3 1=4 got 5", 0, false, ""})
	}
	for _, w := range []int{1, 2, 4, 7, 8, -1, -2, math.MinInt, math.MaxInt, 1 << 32} {
		steps = append(steps, step{"no such worker", "w0 get 0 @ 0:0.0 0", w, false, ""},
			step{"no such worker, cooling", "setup 2 0 50 0 0 \n picks 149 \n heat 0=1 3=7 \n w0 get 0 @ 0:0.0 0", w, false, "heat 3=3"})
	}
	checkSteps(t, steps)
}

func TestPicksInPhase0(t *testing.T) {
	two := "w0 get 1; add 0 5 @ 0:"
	checkSteps(t, []step{
		{"nothing is hot", two + "0.0 0", 0, true, two + "1.0 0"},
		{"below the level", "setup 2 4 100 0 0 \n heat 0=3 1=3 7=20 \n" + two + "0.0 0", 0, true, two + "1.0 0"},
		{"one key is hot", "setup 2 4 100 0 0 \n heat 0=4 1=3 \n" + two + "0.0 0", 0, true, two + "1.0 0 wants 0w"},
		{"the other key is hot", "setup 2 4 100 0 0 \n heat 1=20 \n" + two + "0.0 0", 0, true, two + "1.0 0 wants 1r"},
		{"both keys are hot", "setup 2 4 100 0 0 \n heat 0=4 1=5 \n" + two + "0.0 0", 0, true, two + "1.0 0 wants 0w 1r"},
		{"level 20", "setup 2 20 100 0 0 \n heat 0=19 1=20 \n" + two + "0.0 0", 0, true, two + "1.0 0 wants 1r"},
		{"level 1", "setup 2 1 100 0 0 \n heat 0=1 \n" + two + "0.0 0", 0, true, two + "1.0 0 wants 0w"},
		{"Hot 0", "heat 0=20 1=20 \n" + two + "0.0 0", 0, true, two + "1.0 0"},
		{"a hot key of nobody", "setup 3 4 100 0 0 \n heat 2=20 \n" + two + "0.0 0", 0, true, two + "1.0 0"},
		{"Lists, no failure", "setup 2 0 100 1 0 \n" + two + "0.0 0", 0, true, two + "1.0 0"},
		{"Lists, no failure, hot", "setup 2 4 100 1 0 \n heat 1=4 \n" + two + "0.0 0", 0, true, two + "1.0 0 wants 1r"},
		{"Lists, one failure", "setup 2 0 100 1 0 \n" + two + "0.0 1", 0, true, two + "1.0 1 wants 0w 1r"},
		{"Lists, failures, hot", "setup 2 4 100 1 3 \n heat 1=4 \n" + two + "0.0 7", 0, true, two + "1.0 7 wants 0w 1r"},
		{"no Lists, failures", "setup 2 0 100 0 2 \n" + two + "0.0 7", 0, true, two + "1.0 7"},
		{"the current program", "setup 2 0 100 1 0 \n w0 get 0, put 1 2, get 1 @ 1:0.0 1", 0, true, "w0 get 0, put 1 2, get 1 @ 1:1.0 1 wants 1w"},
		{"the pick cools below the level", "setup 2 4 20 0 0 \n picks 19 \n heat 0=7 1=9 \n" + two + "0.0 0", 0, true, "heat 0=3 1=4 \n" + two + "1.0 0 wants 1r"},
		{"the pick before does not cool", "setup 2 4 20 0 0 \n picks 18 \n heat 0=7 1=9 \n" + two + "0.0 0", 0, true, two + "1.0 0 wants 0w 1r"},
		{"the locks are not asked for", "setup 2 0 100 1 0 \n cells 0 0.0* 2w |, 0 0.0 2r | \n" + two + "0.0 1", 0, true, two + "1.0 1 wants 0w 1r"},
		{"others are under way", "cells 0 0.0* 2w |, 0 0.0 | \n" + two + "0.0 0 \n w1 add 0 1 @ 0:4.1 0 puts 0=1", 0, true, two + "1.0 0"},
	})
}

func TestPicksAtTheGate(t *testing.T) {
	two := "w0 get 1; add 0 5 @ 0:"
	steps := []step{
		{"the Gate is another's", "gate 1 \n" + two + "0.0 0 \n w1 get 0 @ 0:0.0 3", 0, false, ""},
		{"the Gate is another's that is under way", "gate 1 \n" + two + "0.0 0 \n w1 get 0 @ 0:2.0 3", 0, false, ""},
		{"the Gate is another's that is done", "gate 1 \n" + two + "0.0 0 \n w1 get 0 @ 1:0.0 3", 0, false, ""},
		{"failures do not help", "setup 2 0 100 1 2 \n gate 1 \n" + two + "0.0 9 \n w1 get 0 @ 0:0.0 3", 0, false, ""},
		{"blocked, cooling", "setup 2 0 10 1 2 \n picks 29 \n heat 0=3 \n gate 1 \n" + two + "0.0 9 \n w1 get 0 @ 0:0.0 3", 0, false, "heat 0=1"},
		{"worker 1 at the Gate of 0", "gate 0 \n" + two + "0.0 3 \n w1 get 0 @ 0:0.0 0", 1, false, ""},
		{"the Gate's worker", "gate 0 \n" + two + "0.0 3 \n w1 get 0 @ 0:0.0 0", 0, true, two + "1.0 3 wants 0w 1r"},
		{"the Gate's worker alone", "gate 0 \n" + two + "0.0 0", 0, true, two + "1.0 0 wants 0w 1r"},
		{"the Gate's worker, hot", "setup 2 4 100 0 9 \n heat 0=9 \n gate 0 \n" + two + "0.0 0", 0, true, two + "1.0 0 wants 0w 1r"},
		{"the last of three is under way", "gate 0 \n" + two + "0.0 3 \n w1 get 0 @ 0:0.0 0 \n w2 get 0 @ 0:1.0 0", 0, false, ""},
		{"the first of three is under way", "gate 2 \n w0 get 0 @ 0:3.0 0 \n w1 get 0 @ 0:0.0 0 \n w2 get 0 @ 0:0.0 0", 2, false, ""},
		{"none of three is under way", "gate 1 \n w0 get 0 @ 1:3.0 0 \n w1 put 0 3 @ 0:0.0 0 \n w2 get 0 @ 0:0.0 0", 1, true, "w1 put 0 3 @ 0:1.0 0 wants 0w"},
		{"whoever is under way goes on", "gate 1 \n" + two + "1.0 0 \n w1 get 0 @ 0:0.0 3", 0, true, two + "2.0 0"},
		{"whoever reads goes on", "gate 1 \n" + two + "2.0 0 \n w1 get 0 @ 0:0.0 3", 0, true, two + "2.1 0 reads 1=0@0.0 got 0"},
		{"whoever installs goes on", "gate 1 \n" + two + "5.0 0 \n w1 get 0 @ 0:0.0 3", 0, true, "w0 get 1; add 0 5 @ 1:0.0 0"},
	}
	for phase := range 6 {
		at := strconv.Itoa(phase) + ".0 0"
		before := "gate 0 \n" + two + "0.0 3 \n w1 get 0 @ "
		if phase > 0 {
			steps = append(steps, step{"the Gate's worker waits in phase " + at, before + "0:" + at, 0, false, ""})
		}
		steps = append(steps, step{"a done worker is not under way in phase " + at, before + "1:" + at, 0, true, two + "1.0 3 wants 0w 1r"})
	}
	checkSteps(t, steps)
}

func TestPicksInPhase1(t *testing.T) {
	at := func(lists string) string { return "w0 get 1; add 0 5 @ 0:1.0 0 " + lists }
	checkSteps(t, []step{
		{"no Want", at(""), 0, true, "w0 get 1; add 0 5 @ 0:2.0 0"},
		{"no Want, Pc", "w0 get 1; add 0 5 @ 0:1.3 2", 0, true, "w0 get 1; add 0 5 @ 0:2.0 2"},
		{"the first lock only", at("wants 0w 1r"), 0, true, "cells 0 0.0* 1w |, 0 0.0 |"},
		{"a reader's lock", at("wants 1r"), 0, true, "cells 0 0.0 |, 0 0.0 1r |"},
		{"the second lock", "cells 0 0.0* 1w |, 0 0.0 | \n" + at("wants 0w 1r"), 0, true, "cells 0 0.0* 1w |, 0 0.0 1r |"},
		{"all locks", "cells 0 0.0* 1w |, 0 0.0 1r | \n" + at("wants 0w 1r"), 0, true, "w0 get 1; add 0 5 @ 0:2.0 0 wants 0w 1r"},
		{"with other readers", "cells 0 0.0 |, 3 0.2 2r 3r | \n" + at("wants 1r"), 0, true, "cells 0 0.0 |, 3 0.2 1r 2r 3r |"},
		{"a writer among readers waits", "cells 3 0.2 2r 3r |, 0 0.0 | \n" + at("wants 0w 1r"), 0, true, "cells 3 0.2 2r 3r | 1w, 0 0.0 |"},
		{"behind a writer", "cells 0 0.0* 2w |, 0 0.0 | \n" + at("wants 0w 1r"), 0, true, "cells 0 0.0* 2w | 1w, 0 0.0 |"},
		{"behind one that waits", "cells 0 0.0 |, 3 0.2 2r | 3w \n" + at("wants 1r"), 0, true, "cells 0 0.0 |, 3 0.2 2r | 3w 1r"},
		{"waits already", "cells 0 0.0* 2w | 1w, 0 0.0 | \n" + at("wants 0w 1r"), 0, false, ""},
		{"waits already as the second", "cells 0 0.0* 2w | 3r 1w, 0 0.0 | \n" + at("wants 0w 1r"), 0, false, ""},
		{"waits already at the second key", "cells 0 0.0* 1w |, 0 0.0 2r | 3w 1r \n" + at("wants 0w 1r"), 0, false, ""},
		{"waits already, cooling", "setup 2 0 1 0 0 \n heat 0=3 \n cells 0 0.0* 2w | 1w, 0 0.0 | \n" + at("wants 0w 1r"), 0, false, "heat 0=1"},
		{"waited and holds now", "cells 0 0.0* 1w | 2w, 0 0.0 2r | \n" + at("wants 0w 1r"), 0, true, "cells 0 0.0* 1w | 2w, 0 0.0 1r 2r |"},
		{"a key that it holds otherwise", "cells 0 0.0 1r |, 0 0.0 | \n" + at("wants 0w"), 0, true, "w0 get 1; add 0 5 @ 0:2.0 0 wants 0w"},
		{"a key that is not wanted", "cells 0 0.0* 1w |, 0 0.0 | \n" + at("wants 1r"), 0, true, "cells 0 0.0* 1w |, 0 0.0 1r |"},
		{"the Tid of worker 3", "cells 0 0.0 |, 0 0.0 1r 2r 3r | \n w0 @ 0:0.0 0 \n w1 @ 0:0.0 0 \n w2 @ 0:0.0 0 \n w3 put 1 4 @ 0:1.0 0 wants 1w", 3, true, "cells 0 0.0 |, 0 0.0 1r 2r 3r | 4w"},
	})
}

func TestPicksInPhase2(t *testing.T) {
	of := func(prog, at string) string { return "w0 " + prog + " @ 0:" + at }
	cells := "cells 7 0.3 |, -9 1.2 2r 3r | \n"
	checkSteps(t, []step{
		{"the only get", cells + of("get 0", "2.0 0"), 0, true, of("get 0", "3.0 0 reads 0=7@0.3 got 7")},
		{"a get", cells + of("get 1; get 0", "2.0 4"), 0, true, of("get 1; get 0", "2.1 4 reads 1=-9@1.2 got -9")},
		{"the last get", cells + of("get 1; get 0", "2.1 0 reads 1=-9@1.2 got -9"), 0, true, of("get 1; get 0", "3.0 0 reads 1=-9@1.2 0=7@0.3 got -9 7")},
		{"an add", cells + of("add 0 5; get 1", "2.0 0"), 0, true, of("add 0 5; get 1", "2.1 0 reads 0=7@0.3 puts 0=12")},
		{"the only add", cells + of("add 1 -5", "2.0 0"), 0, true, of("add 1 -5", "3.0 0 reads 1=-9@1.2 puts 1=-14")},
		{"a put", cells + of("put 0 5; get 1", "2.0 0"), 0, true, of("put 0 5; get 1", "2.1 0 puts 0=5")},
		{"the only put", cells + of("put 0 5", "2.0 0"), 0, true, of("put 0 5", "3.0 0 puts 0=5")},
		{"a get of a put", cells + of("put 0 5; get 0", "2.1 0 puts 0=5"), 0, true, of("put 0 5; get 0", "3.0 0 puts 0=5 got 5")},
		{"an add to a put", cells + of("put 0 5; add 0 -8", "2.1 0 puts 0=5"), 0, true, of("put 0 5; add 0 -8", "3.0 0 puts 0=-3")},
		{"a put on a put", cells + of("put 0 5; put 0 -8", "2.1 0 puts 0=5"), 0, true, of("put 0 5; put 0 -8", "3.0 0 puts 0=-8")},
		{"an add to an add", cells + of("add 0 5; add 0 5", "2.1 0 reads 0=7@0.3 puts 0=12"), 0, true, of("add 0 5; add 0 5", "3.0 0 reads 0=7@0.3 puts 0=17")},
		{"an add after a get", cells + of("get 0; add 0 5", "2.1 0 reads 0=7@0.3 got 7"), 0, true, of("get 0; add 0 5", "3.0 0 reads 0=7@0.3 puts 0=12 got 7")},
		{"a smaller key comes first", cells + of("put 1 5; put 0 -8", "2.1 0 puts 1=5"), 0, true, of("put 1 5; put 0 -8", "3.0 0 puts 0=-8 1=5")},
		{"a greater key comes last", cells + of("put 0 5; put 1 -8", "2.1 0 puts 0=5"), 0, true, of("put 0 5; put 1 -8", "3.0 0 puts 0=5 1=-8")},
		{"the second of two puts", cells + of("add 1 5; get 1", "2.1 0 puts 0=2 1=5"), 0, true, of("add 1 5; get 1", "3.0 0 puts 0=2 1=5 got 5")},
		{"clamped from above", "cells 999999 0.3 |, 0 0.0 | \n" + of("add 0 2", "2.0 0"), 0, true, of("add 0 2", "3.0 0 reads 0=999999@0.3 puts 0=1000000")},
		{"just not clamped", "cells 999999 0.3 |, 0 0.0 | \n" + of("add 0 1", "2.0 0"), 0, true, of("add 0 1", "3.0 0 reads 0=999999@0.3 puts 0=1000000")},
		{"clamped from below", of("put 0 -999999; add 0 -1000000", "2.1 0 puts 0=-999999"), 0, true, of("put 0 -999999; add 0 -1000000", "3.0 0 puts 0=-1000000")},
		{"a key read again", cells + of("get 0; get 0", "2.1 0 reads 0=7@0.3 got 7"), 0, true, of("get 0; get 0", "3.0 0 reads 0=7@0.3 got 7 7")},
		{"a key read again that was held", cells + of("get 0; get 0", "2.1 0 reads 0=7@0.3* got 7"), 0, true, of("get 0; get 0", "3.0 0 reads 0=7@0.3* got 7 7")},
		{"the second of two reads", cells + of("get 1; get 0; get 1", "2.2 0 reads 0=7@0.3 1=-9@1.2 got 7"), 0, true, of("get 1; get 0; get 1", "3.0 0 reads 0=7@0.3 1=-9@1.2 got 7 -9")},
		{"another key has another version", cells + of("get 1; get 0", "2.1 0 reads 1=8@0.9 got 8"), 0, true, of("get 1; get 0", "3.0 0 reads 1=8@0.9 0=7@0.3 got 8 7")},
		{"a word held by itself", "cells 7 0.3* 1w | 2w, 0 0.0 | \n" + of("get 0", "2.0 0 wants 0w"), 0, true, of("get 0", "3.0 0 wants 0w reads 0=7@0.3* got 7")},
		{"a lock of its own as a reader", "cells 7 0.3 1r | 2w, 0 0.0 | \n" + of("get 0", "2.0 0 wants 0r"), 0, true, of("get 0", "3.0 0 wants 0r reads 0=7@0.3 got 7")},
		{"a put on a word held by another", "cells 7 0.3* 2w |, 0 0.0 | \n" + of("put 0 4", "2.0 0"), 0, true, of("put 0 4", "3.0 0 puts 0=4")},
		{"a get of a put, held by another", "cells 7 0.3* 2w |, 0 0.0 | \n" + of("put 0 4; get 0", "2.1 0 puts 0=4"), 0, true, of("put 0 4; get 0", "3.0 0 puts 0=4 got 4")},
		{"an add to a put, held by another", "cells 7 0.3* 2w |, 0 0.0 | \n" + of("put 0 4; add 0 1", "2.1 0 puts 0=4"), 0, true, of("put 0 4; add 0 1", "3.0 0 puts 0=5")},
		{"the program at At", "w0 get 0, put 1 2 @ 1:2.0 0", 0, true, "w0 get 0, put 1 2 @ 1:3.0 0 puts 1=2"},
		{"the sixth act", of("get 0; get 0; get 0; get 0; get 0; put 0 1", "2.5 0"), 0, true, of("get 0; get 0; get 0; get 0; get 0; put 0 1", "3.0 0 puts 0=1")},
	})
}

func TestFailuresInPhase2(t *testing.T) {
	of := func(prog, at string) string { return "w0 " + prog + " @ 0:" + at }
	failed := func(prog string) string { return "fails 1 \n heat 0=1 \n" + of(prog, "0.0 1") }
	checkSteps(t, []step{
		{"a get of a held word", "cells 7 0.3* 2w |, 0 0.0 | \n" + of("get 0", "2.0 0"), 0, true, failed("get 0")},
		{"an add to a held word", "cells 7 0.3* 2w | 3r, 0 0.0 | \n" + of("add 0 1", "2.0 0"), 0, true, failed("add 0 1")},
		{"a held word, read before", "cells 7 0.3* 2w |, 0 0.0 | \n" + of("get 0; get 0", "2.1 0 reads 0=7@0.3 got 7"), 0, true, failed("get 0; get 0")},
		{"held, and waited for by itself", "cells 7 0.3* 2w | 1w 3r, 0 0.0 | \n" + of("get 0", "2.0 0"), 0, true, "cells 7 0.3* 2w | 3r, 0 0.0 | \n" + failed("get 0")},
		{"a later Seq", "cells 7 0.4 |, 0 0.0 | \n" + of("get 0; get 0", "2.1 0 reads 0=7@0.3 got 7"), 0, true, failed("get 0; get 0")},
		{"an earlier Seq", "cells 7 0.2 |, 0 0.0 | \n" + of("get 0; get 0", "2.1 0 reads 0=7@0.3 got 7"), 0, true, failed("get 0; get 0")},
		{"a later Epoch", "cells 7 1.3 |, 0 0.0 | \n" + of("get 0; add 0 1", "2.1 0 reads 0=7@0.3 got 7"), 0, true, failed("get 0; add 0 1")},
		{"another version with a lock of its own", "cells 7 0.4* 1w |, 0 0.0 | \n" + of("get 0; get 0", "2.1 0 reads 0=7@0.3* got 7"), 0, true, "cells 7 0.4 |, 0 0.0 | \n" + failed("get 0; get 0")},
		{"another version of the second read", "cells 0 0.0 |, 7 1.3 | \n" + of("get 0; get 1; get 1", "2.2 0 reads 0=0@0.0 1=7@1.2 got 0 7"), 0, true, "fails 1 \n heat 1=1 \n" + of("get 0; get 1; get 1", "0.0 1")},
		{"the key of the act, not the first one", "cells 5 9.9 |, 7 0.3* 2w | \n" + of("get 0; get 1", "2.1 0 reads 0=5@0.3 got 5"), 0, true, "fails 1 \n heat 1=1 \n" + of("get 0; get 1", "0.0 1")},
		{"what becomes empty and free", "setup 4 0 100 0 0 \n cells 1 0.1* 1w | 2r 3w, 2 0.2 1r 2r |, 3 0.3* 2w | 4w 1w 3r, 4 0.4* 3w | \n" + of("add 0 1; get 1; get 3", "2.2 4 wants 0w 1r 2w reads 0=1@0.1* 1=2@0.2 puts 0=2 got 2"), 0, true,
			"fails 1 \n heat 3=1 \n cells 1 0.1 2r | 3w, 2 0.2 2r |, 3 0.3* 2w | 4w 3r, 4 0.4* 3w | \n" + of("add 0 1; get 1; get 3", "0.0 5")},
	})
}

func TestPicksInPhase3(t *testing.T) {
	of := func(at string) string { return "w0 put 0 3; put 1 4 @ 0:" + at }
	alone := func(at string) string { return "w0 get 0 @ 0:" + at }
	failed := func(key string) string { return "fails 1 \n heat " + key + "=1 \n" + of("0.0 1") }
	checkSteps(t, []step{
		{"the first put", of("3.0 0 puts 0=3 1=4"), 0, true, "cells 0 0.0* 1w |, 0 0.0 | \n" + of("3.1 0 puts 0=3 1=4")},
		{"the second put", "cells 0 0.0* 1w |, 0 0.0 | \n" + of("3.1 0 puts 0=3 1=4"), 0, true, "cells 0 0.0* 1w |, 0 0.0* 1w | \n" + of("3.2 0 puts 0=3 1=4")},
		{"no further put", "cells 0 0.0* 1w |, 0 0.0* 1w | \n" + of("3.2 0 puts 0=3 1=4"), 0, true, of("4.2 0 puts 0=3 1=4")},
		{"no put at all", alone("3.0 0 reads 0=0@0.0 got 0"), 0, true, alone("4.0 0 reads 0=0@0.0 got 0")},
		{"no put at all, others hold", "cells 0 0.0* 2w |, 0 0.0 | \n" + alone("3.0 0 reads 0=0@0.0 got 0"), 0, true, alone("4.0 0 reads 0=0@0.0 got 0")},
		{"far beyond the puts", of("3.9 0 puts 0=3 1=4"), 0, true, of("4.9 0 puts 0=3 1=4")},
		{"held already", "cells 0 0.0* 1w | 2w, 0 0.0 | \n" + of("3.0 0 wants 0w puts 0=3 1=4"), 0, true, of("3.1 0 wants 0w puts 0=3 1=4")},
		{"held as a reader", "cells 0 0.0 1r |, 0 0.0 | \n" + of("3.0 0 wants 0r puts 0=3 1=4"), 0, true, "cells 0 0.0 |, 0 0.0 | \n" + failed("0")},
		{"held as one of two readers", "cells 0 0.0 1r 2r | 3w, 0 0.0 | \n" + of("3.0 0 puts 0=3 1=4"), 0, true, "cells 0 0.0 2r | 3w, 0 0.0 | \n" + failed("0")},
		{"another reader", "cells 0 0.0 2r |, 0 0.0 | \n" + of("3.0 0 puts 0=3 1=4"), 0, true, failed("0")},
		{"another writer", "cells 0 0.0* 2w |, 0 0.0 | \n" + of("3.0 0 puts 0=3 1=4"), 0, true, failed("0")},
		{"waits there", "cells 0 0.0* 2w | 1w, 0 0.0 | \n" + of("3.0 0 puts 0=3 1=4"), 0, true, "cells 0 0.0* 2w |, 0 0.0 | \n" + failed("0")},
		{"the second put fails", "cells 0 0.0* 1w |, 0 0.0 2r | \n" + of("3.1 0 puts 0=3 1=4"), 0, true, "cells 0 0.0 |, 0 0.0 2r | \n" + failed("1")},
		{"the second put fails, others get the first lock", "cells 0 0.0* 1w | 2w, 0 0.0* 3w | \n" + of("3.1 0 puts 0=3 1=4"), 0, true, "cells 0 0.0* 2w |, 0 0.0* 3w | \n" + failed("1")},
		{"the second put is held as a reader", "cells 0 0.0* 1w |, 0 0.0 1r | \n" + of("3.1 0 puts 0=3 1=4"), 0, true, "cells 0 0.0 |, 0 0.0 | \n" + failed("1")},
		{"reads are not looked at", "cells 8 0.7 |, 0 0.0 | \n" + of("3.0 0 reads 0=3@0.1 puts 0=3 1=4"), 0, true, "cells 8 0.7* 1w |, 0 0.0 | \n" + of("3.1 0 reads 0=3@0.1 puts 0=3 1=4")},
	})
}

func TestPicksInPhase4(t *testing.T) {
	of := func(at string) string { return "w0 get 1; get 0 @ 0:" + at }
	commits := func(log, at string) string { return "ids 1 \n log " + log + " \n" + of(at) }
	failed := func(key string) string { return "fails 1 \n heat " + key + "=1 \n" + of("0.0 1") }
	checkSteps(t, []step{
		{"no reads", "cells 0 0.0* 1w |, 0 0.0 | \n w0 put 0 3 @ 0:4.1 0 puts 0=3", 0, true, "ids 1 \n log 1 w0 p0 t0 got put 0=3 \n w0 put 0 3 @ 0:5.1 0 puts 0=3"},
		{"current reads", "cells 5 0.2 |, 6 1.0 2r | \n" + of("4.0 0 reads 1=6@1.0 0=5@0.2 got 6 5"), 0, true, commits("1 w0 p0 t0 got 6 5 put", "5.0 0 reads 1=6@1.0 0=5@0.2 got 6 5")},
		{"held by itself", "cells 5 0.2* 1w | 2w, 6 1.0 1r | \n" + of("4.0 0 wants 0w 1r reads 1=6@1.0 0=5@0.2 got 6 5"), 0, true, commits("1 w0 p0 t0 got 6 5 put", "5.0 0 wants 0w 1r reads 1=6@1.0 0=5@0.2 got 6 5")},
		{"held when it was read", "cells 5 0.2 |, 6 1.0 | \n" + of("4.0 0 reads 0=5@0.2* got 5"), 0, true, commits("1 w0 p0 t0 got 5 put", "5.0 0 reads 0=5@0.2* got 5")},
		{"the next id", "ids 7 \n log 3 w0 p0 t2 got put, 7 w1 p0 t0 got 4 put 0=1 1=2 \n w0 get 0, add 1 2 @ 1:4.1 4 reads 1=0@0.0 puts 1=2 got 9", 0, true,
			"ids 8 \n log 3 w0 p0 t2 got put, 7 w1 p0 t0 got 4 put 0=1 1=2, 8 w0 p1 t4 got 9 put 1=2 \n w0 get 0, add 1 2 @ 1:5.1 4 reads 1=0@0.0 puts 1=2 got 9"},
		{"the id does not count the log", "ids 41 \n" + of("4.0 0"), 0, true, "ids 42 \n log 42 w0 p0 t0 got put \n" + of("5.0 0")},
		{"the index of the worker", "w0 @ 0:0.0 0 \n w1 get 0 @ 0:4.0 0 got 3", 1, true, "ids 1 \n log 1 w1 p0 t0 got 3 put \n w1 get 0 @ 0:5.0 0 got 3"},
		{"a later version", "cells 5 0.3 |, 6 1.0 | \n" + of("4.0 0 reads 1=6@1.0 0=5@0.2 got 6 5"), 0, true, failed("0")},
		{"an earlier version", "cells 5 0.1 |, 6 1.0 | \n" + of("4.0 0 reads 1=6@1.0 0=5@0.2 got 6 5"), 0, true, failed("0")},
		{"held by another", "cells 5 0.2 |, 6 1.0* 2w | \n" + of("4.0 0 reads 1=6@1.0 0=5@0.2 got 6 5"), 0, true, failed("1")},
		{"held by another, as when it was read", "cells 5 0.2 |, 6 1.0* 2w | \n" + of("4.0 0 reads 1=6@1.0* got 6"), 0, true, failed("1")},
		{"held by another, waits there", "cells 5 0.2 |, 6 1.0* 2w | 1r \n" + of("4.0 0 reads 1=6@1.0"), 0, true, "cells 5 0.2 |, 6 1.0* 2w | \n" + failed("1")},
		{"held by itself, another version", "cells 5 0.3* 1w |, 6 1.0 | \n" + of("4.0 0 reads 0=5@0.2"), 0, true, "cells 5 0.3 |, 6 1.0 | \n" + failed("0")},
		{"two stale reads, the first one", "cells 5 0.3 |, 6 1.1 | \n" + of("4.0 0 reads 1=6@1.0 0=5@0.2 got 6 5"), 0, true, failed("1")},
		{"two stale reads in the order of keys", "cells 5 0.3 |, 6 1.0* 2w | \n" + of("4.0 0 reads 0=5@0.2 1=6@1.0 got 6 5"), 0, true, failed("0")},
		{"what becomes empty and free", "ids 3 \n log 3 w1 p0 t0 got put \n cells 5 0.3* 1w | 2r, 6 1.1 1r 3r | \n w0 get 1; add 0 1 @ 0:4.1 2 wants 0w 1r reads 1=6@1.0 0=5@0.3* puts 0=6 got 6", 0, true,
			"fails 1 \n heat 1=1 \n cells 5 0.3 2r |, 6 1.1 3r | \n w0 get 1; add 0 1 @ 0:0.0 3"},
	})
}

func TestPicksInPhase5(t *testing.T) {
	of := func(at string) string { return "w0 put 0 3; put 1 4, get 0 @ " + at }
	checkSteps(t, []step{
		{"nothing to install", of("0:5.0 0"), 0, true, of("1:0.0 0")},
		{"one put", "cells 1 0.5* 1w |, 2 0.6 | \n" + of("0:5.1 0 puts 0=3"), 0, true, "cells 3 0.6 |, 2 0.6 | \n" + of("1:0.0 0")},
		{"two puts", "cells 1 0.5* 1w |, 2 0.6* 1w | \n" + of("0:5.2 0 puts 0=3 1=-4"), 0, true, "cells 3 0.6 |, -4 0.7 | \n" + of("1:0.0 0")},
		{"the same value", "cells 1 0.5* 1w |, 2 0.6 | \n" + of("0:5.1 0 puts 0=1"), 0, true, "cells 1 0.6 |, 2 0.6 | \n" + of("1:0.0 0")},
		{"everything becomes empty and free", "cells 1 0.5* 1w | 2w, 2 0.6 1r 3r | 2w \n" + of("0:5.1 4 wants 0w 1r reads 0=1@0.5* puts 0=3 got 7 8"), 0, true, "cells 3 0.6* 2w |, 2 0.6 3r | 2w \n" + of("1:0.0 0")},
		{"whoever waits becomes a writer", "cells 1 0.5* 1w |, 2 0.6 1r | 2w 3r \n" + of("0:5.1 4 puts 0=3"), 0, true, "cells 3 0.6 |, 2 0.6* 2w | 3r \n" + of("1:0.0 0")},
		{"the last program", of("1:5.0 3 got 1"), 0, true, of("2:0.0 0")},
		{"no heat and no failure", "heat 0=3 \n fails 9 \n gate 1 \n" + of("0:5.0 3") + "\n w1 @ 0:0.0 0", 0, true, of("1:0.0 0")},
		{"the Gate is its own", "gate 0 \n" + of("0:5.0 3") + "\n w1 @ 0:0.0 0", 0, true, "gate -1 \n" + of("1:0.0 0")},
		{"the Gate is its own, worker 1", "gate 1 \n w0 get 0 @ 0:0.0 0 \n w1 get 0 @ 0:5.0 3", 1, true, "gate -1 \n w1 get 0 @ 1:0.0 0"},
		{"a lock that it does not have", "cells 1 0.5* 2w |, 2 0.6* 1w | \n" + of("0:5.2 0 puts 0=3 1=4"), 0, true, "cells 1 0.5* 2w |, 4 0.7 | \n" + of("1:0.0 0")},
		{"a reader's lock", "cells 1 0.5 1r |, 2 0.6* 1w | \n" + of("0:5.2 0 puts 0=3 1=4"), 0, true, "cells 1 0.5 |, 4 0.7 | \n" + of("1:0.0 0")},
		{"no further Seq", "cells 1 0.65535* 1w |, 2 0.65534* 1w | \n" + of("0:5.2 0 puts 0=3 1=4"), 0, true, "cells 1 0.65535 |, 4 0.65535 | \n" + of("1:0.0 0")},
		{"the last pick of an epoch", "setup 2 0 20 0 0 \n picks 18 \n cells 1 0.5* 1w |, 2 0.6 | \n" + of("0:5.1 0 puts 0=3"), 0, true, "cells 3 0.6 |, 2 0.6 | \n" + of("1:0.0 0")},
		{"the first pick of an epoch", "setup 2 0 20 0 0 \n picks 19 \n cells 1 0.5* 1w |, 2 0.65535* 1w | \n" + of("0:5.1 0 puts 0=3 1=4"), 0, true, "cells 3 1.0 |, 4 1.0 | \n" + of("1:0.0 0")},
		{"the second pick of an epoch", "setup 2 0 20 0 0 \n picks 20 \n cells 1 1.0* 1w |, 2 0.6 | \n" + of("0:5.1 0 puts 0=3"), 0, true, "cells 3 1.1 |, 2 0.6 | \n" + of("1:0.0 0")},
		{"a later epoch", "setup 2 0 20 0 0 \n picks 99 \n cells 1 3.9* 1w |, 2 8.6* 1w | \n" + of("0:5.1 0 puts 0=3 1=4"), 0, true, "cells 3 5.0 |, 4 8.7 | \n" + of("1:0.0 0")},
		{"a pick an epoch", "setup 2 0 1 0 0 \n cells 1 0.5* 1w |, 2 0.6 | \n" + of("0:5.1 0 puts 0=3"), 0, true, "cells 3 1.0 |, 2 0.6 | \n" + of("1:0.0 0")},
		{"before the last epoch", "setup 2 0 1 0 0 \n picks 1021 \n cells 1 0.5* 1w |, 2 0.6 | \n" + of("0:5.1 0 puts 0=3"), 0, true, "cells 3 1022.0 |, 2 0.6 | \n" + of("1:0.0 0")},
		{"the last epoch", "setup 2 0 1 0 0 \n picks 1022 \n cells 1 0.5* 1w |, 2 0.6 | \n" + of("0:5.1 0 puts 0=3"), 0, true, "cells 3 1023.0 |, 2 0.6 | \n" + of("1:0.0 0")},
		{"the last epoch goes on", "setup 2 0 1 0 0 \n picks 1023 \n cells 1 0.5* 1w |, 2 1023.6* 1w | \n" + of("0:5.2 0 puts 0=3 1=4"), 0, true, "cells 3 1023.0 |, 4 1023.7 | \n" + of("1:0.0 0")},
		{"the last epoch ends", "setup 2 0 3 0 0 \n picks 3999 \n cells 1 1023.65535* 1w |, 2 1023.65534* 1w | \n" + of("0:5.2 0 puts 0=3 1=4"), 0, true, "cells 1 1023.65535 |, 4 1023.65535 | \n" + of("1:0.0 0")},
	})
}

// failing is an engine in which every pick of worker 0 fails at key 0.
func failing(setup string, tries int, more string) string {
	return "setup " + setup + " \n cells 0 0.0* 2w |, 0 0.0 | \n w0 get 0 @ 0:2.0 " + strconv.Itoa(tries) + " \n w1 put 0 1 @ 0:5.1 0 puts 0=1 \n" + more
}

func TestFailures(t *testing.T) {
	after := func(tries int, more string) string {
		return "fails 1 \n heat 0=1 \n w0 get 0 @ 0:0.0 " + strconv.Itoa(tries) + " \n" + more
	}
	steps := []step{
		{"Fails goes on", failing("2 0 100 0 0", 0, "fails 41"), 0, true, after(1, "fails 42")},
		{"Fails reaches its limit", failing("2 0 100 0 0", 0, "fails 999999"), 0, true, after(1, "fails 1000000")},
		{"Fails is at its limit", failing("2 0 100 0 0", 0, "fails 1000000"), 0, true, after(1, "fails 1000000")},
		{"Tries has no limit", failing("2 0 100 0 0", 1000000, ""), 0, true, after(1000001, "")},
		{"the heat goes on", failing("2 0 100 0 0", 0, "heat 0=5 1=7"), 0, true, after(1, "heat 0=6 1=7")},
		{"the heat is at its limit", failing("2 0 100 0 0", 0, "heat 0=20 1=7"), 0, true, after(1, "heat 0=20 1=7")},
		{"the pick cools first", failing("2 0 20 0 0", 0, "picks 39 \n heat 0=7 1=7"), 0, true, after(1, "heat 0=4 1=3")},
		{"the limit of the heat, cooling", failing("2 0 20 0 0", 0, "picks 39 \n heat 0=20 1=1"), 0, true, after(1, "heat 0=11")},
		{"Lists", failing("2 0 100 1 0", 5, ""), 0, true, after(6, "")},
		{"Age 0", failing("2 0 100 0 0", 10, ""), 0, true, after(11, "")},
		{"Age 1", failing("2 0 100 0 1", 0, ""), 0, true, after(1, "gate 0")},
		{"before Age", failing("2 0 100 0 3", 1, ""), 0, true, after(2, "")},
		{"Age", failing("2 0 100 0 3", 2, ""), 0, true, after(3, "gate 0")},
		{"Age with Lists", failing("2 0 100 1 3", 2, ""), 0, true, after(3, "gate 0")},
		{"after Age", failing("2 0 100 0 3", 7, ""), 0, true, after(8, "gate 0")},
		{"before Age 10", failing("2 0 100 0 10", 8, ""), 0, true, after(9, "")},
		{"Age 10", failing("2 0 100 0 10", 9, ""), 0, true, after(10, "gate 0")},
		{"Age, the Gate is taken", failing("2 0 100 0 3", 2, "gate 1"), 0, true, after(3, "")},
		{"after Age, the Gate is taken", failing("2 0 100 0 3", 8, "gate 1"), 0, true, after(9, "")},
		{"the Gate is its own", failing("2 0 100 0 3", 8, "gate 0"), 0, true, after(9, "")},
		{"before Age, the Gate is its own", failing("2 0 100 0 3", 0, "gate 0"), 0, true, after(1, "")},
		{"Age 0, the Gate is another's", failing("2 0 100 0 0", 3, "gate 1"), 0, true, after(4, "")},
		{"Age of worker 1", "setup 2 0 100 0 2 \n cells 0 0.0* 1w |, 0 0.0 | \n w0 put 0 1 @ 0:5.1 0 puts 0=1 \n w1 get 0 @ 0:2.0 1", 1, true, "gate 1 \n fails 1 \n heat 0=1 \n w1 get 0 @ 0:0.0 2"},
	}
	checkSteps(t, steps)
}

// TestCooling picks nobody, with every Cool, until everything has cooled twice.
func TestCooling(t *testing.T) {
	for cool := 1; cool <= 100; cool++ {
		e, _ := impl.NewEngine(impl.Setup{Keys: 3, Cool: cool}, nil)
		e.Heat = []int{20, 19, 8, 3, 2, 1, 0, 4}
		for n := 1; n <= 2*cool+1; n++ {
			e, _ = impl.PickWorker(e, 0)
			want := []int{20, 19, 8, 3, 2, 1, 0, 4}
			for key := range want {
				want[key] >>= n / cool
			}
			if e.Picks != n || !slices.Equal(e.Heat, want) || impl.EpochOf(e) != n/cool {
				t.Fatalf("Cool %d, pick %d: heat %v, epoch %d", cool, e.Picks, e.Heat, impl.EpochOf(e))
			}
		}
	}
}

func TestLastPicks(t *testing.T) {
	for _, s := range []string{"2 4 20 1 3", "1 0 100 0 0", "1 0 1 0 0"} {
		e, _ := impl.NewEngine(setup(s), crew("get 0, get 0; get 0"))
		e.Heat[0] = 20
		for _, picks := range []int{3998, 3999} {
			e.Picks = picks
			after, moved := impl.PickWorker(e, 0)
			if !moved || after.Picks != picks+1 || after.Workers[0].Phase != 1 {
				t.Errorf("pick %d: %v, %v", picks, after, moved)
			}
		}
		for _, picks := range []int{4000, 4001, 5000, 1 << 32, math.MaxInt} {
			e.Picks = picks
			for _, w := range []int{0, 1, -1} {
				after, moved := impl.PickWorker(e, w)
				if moved || !sameEngine(after, e) || !impl.EngineOk(e) {
					t.Errorf("a pick of %d after %d picks: %v, %v", w, picks, after, moved)
				}
			}
		}
	}
}

func TestPlayPicks(t *testing.T) {
	progs := crew("add 0 5; get 1, put 1 2 / get 0; add 1 -3 // get 1")
	for _, n := range []int{0, 1, 2, 7, 40, 399, 400} {
		for _, s := range []string{"2 4 20 1 3", "2 0 1 0 0", "3 1 7 0 1"} {
			var picks []int
			state := uint32(n)
			for range n {
				picks = append(picks, draw(&state, 7)-1)
			}
			e := newEngine(setup(s), progs)
			var told []bool
			for _, w := range picks {
				next, moved := impl.PickWorker(e, w)
				e, told = next, append(told, moved)
			}
			after, moves, ok := impl.PlayPicks(setup(s), progs, picks)
			if !ok || !sameEngine(after, e) || !slices.Equal(moves, told) || after.Picks != n {
				t.Errorf("PlayPicks of %d picks: %v, %v, %v", n, after, moves, ok)
			}
		}
	}
	for _, n := range []int{401, 402, 800, 4000} {
		for _, progs := range [][][][]impl.Act{progs, nil} {
			if e, told, ok := impl.PlayPicks(setup("2 4 20 1 3"), progs, make([]int, n)); ok || !isZeroEngine(e) || len(told) != 0 {
				t.Errorf("PlayPicks of %d picks: %v, %v, %v", n, e, told, ok)
			}
		}
	}
	far := []int{0, math.MinInt, -1, 4, 1 << 32, math.MaxInt}
	e, told, ok := impl.PlayPicks(setup("2 4 20 1 3"), crew("get 0"), far)
	if !ok || e.Picks != 6 || !slices.Equal(told, []bool{true, false, false, false, false, false}) {
		t.Errorf("picks of nobody: %v, %v, %v", e, told, ok)
	}
	e, told, ok = impl.PlayPicks(setup("2 4 20 1 3"), nil, far)
	if !ok || e.Picks != 6 || slices.Contains(told, true) || len(told) != 6 || !impl.AllDone(e) {
		t.Errorf("picks without workers: %v, %v, %v", e, told, ok)
	}
}

// TestSinglePrograms lists every WorkerText of a worker that is alone.
func TestSinglePrograms(t *testing.T) {
	cases := []struct{ progs, texts, values string }{
		{"add 0 5", "0:1.0 0, 0:2.0 0, 0:3.0 0, 0:3.1 0, 0:4.1 0, 0:5.1 0, 1:0.0 0", "5 0.1 |, 0 0.0 |"},
		{"get 0", "0:1.0 0, 0:2.0 0, 0:3.0 0, 0:4.0 0, 0:5.0 0, 1:0.0 0", "0 0.0 |, 0 0.0 |"},
		{"put 1 2; get 1; add 0 -1", "0:1.0 0, 0:2.0 0, 0:2.1 0, 0:2.2 0, 0:3.0 0, 0:3.1 0, 0:3.2 0, 0:4.2 0, 0:5.2 0, 1:0.0 0", "-1 0.1 |, 2 0.1 |"},
		{"put 0 3, put 0 4", "0:1.0 0, 0:2.0 0, 0:3.0 0, 0:3.1 0, 0:4.1 0, 0:5.1 0, 1:0.0 0, 1:1.0 0, 1:2.0 0, 1:3.0 0, 1:3.1 0, 1:4.1 0, 1:5.1 0, 2:0.0 0", "4 0.2 |, 0 0.0 |"},
	}
	for _, c := range cases {
		e, _ := impl.NewEngine(setup("2 0 100 0 0"), crew(c.progs))
		for _, want := range strings.Split(c.texts, ", ") {
			next, moved := impl.PickWorker(e, 0)
			if got := impl.WorkerText(next.Workers[0]); !moved || got != want || impl.AllDone(e) {
				t.Errorf("%s: %q, %v instead of %q", c.progs, got, moved, want)
			}
			e = next
		}
		if next, moved := impl.PickWorker(e, 0); moved || !impl.AllDone(e) || !sameTable(next.Table, table(c.values)) {
			t.Errorf("%s: at the end %v", c.progs, next)
		}
	}
}

func TestWorkerText(t *testing.T) {
	cases := []struct {
		w    impl.Worker
		text string
	}{
		{impl.Worker{}, "0:0.0 0"},
		{impl.Worker{Phase: 5, Pc: 1}, "0:5.1 0"},
		{impl.Worker{At: 12, Phase: 3, Pc: 4, Tries: 10}, "12:3.4 10"},
		{impl.Worker{At: -1, Phase: -2, Pc: -3, Tries: -4}, "-1:-2.-3 -4"},
		{impl.Worker{At: math.MaxInt, Phase: 6, Pc: math.MinInt, Tries: 1000000}, "9223372036854775807:6.-9223372036854775808 1000000"},
		{worker("get 0 @ 1:2.3 4 wants 0w reads 0=5@0.1 puts 0=3 got 5"), "1:2.3 4"},
	}
	for _, c := range cases {
		if got := impl.WorkerText(c.w); got != c.text {
			t.Errorf("WorkerText(%v) = %q", c.w, got)
		}
	}
}

func TestAllDone(t *testing.T) {
	cases := []struct {
		text string
		done bool
	}{
		{"", true}, {"w0 @ 0:0.0 0", true}, {"w0 get 0 @ 0:0.0 0", false}, {"w0 get 0 @ 1:0.0 0", true}, {"w0 get 0 @ 7:0.0 0", true}, {"w0 get 0, get 1 @ 1:5.0 0", false},
		{"w0 get 0 @ 1:0.0 0 \n w1 get 0 @ 0:0.0 0", false}, {"w0 get 0 @ 0:0.0 0 \n w1 get 0 @ 1:0.0 0", false}, {"w0 get 0 @ 1:0.0 0 \n w1 @ 0:0.0 0 \n w2 get 0, get 0 @ 2:0.0 0", true},
		{"w0 get 0 @ 1:4.9 9", true}, {"w0 get 0 @ -1:0.0 0", false}, {"w0 @ -1:0.0 0", false}, {"w0 @ 0:9.0 0", true}, {"gate 3 \n picks -1 \n w0 get 0 @ 1:0.0 0", true},
	}
	for _, c := range cases {
		if got := impl.AllDone(engine(c.text)); got != c.done {
			t.Errorf("AllDone of %q is %v", c.text, got)
		}
	}
	if !impl.AllDone(impl.Engine{}) || impl.AllDone(impl.Engine{Workers: []impl.Worker{{}, {Progs: [][]impl.Act{nil}}}}) {
		t.Error("AllDone of engines that are not valid")
	}
}

func TestEpochOf(t *testing.T) {
	cases := []struct{ picks, cool, epoch int }{
		{0, 20, 0}, {19, 20, 0}, {20, 20, 1}, {39, 20, 1}, {40, 20, 2}, {4000, 20, 200}, {1, 1, 1}, {99, 100, 0}, {100, 100, 1}, {3999, 4, 999}, {7, 2, 3},
		{1022, 1, 1022}, {1023, 1, 1023}, {1024, 1, 1023}, {4000, 1, 1023}, {3069, 3, 1023}, {3068, 3, 1022}, {3072, 3, 1023}, {math.MaxInt, 1, 1023}, {math.MaxInt, 100, 1023}, {math.MaxInt, math.MaxInt, 1},
		{5, 0, 0}, {5, -1, 0}, {-1, 20, 0}, {-20, 20, 0}, {-100, 1, 0}, {-5, -1, 0}, {math.MinInt, 1, 0}, {math.MinInt, -1, 0}, {5, math.MinInt, 0}, {500, 101, 4}, {5000, 1000, 5},
	}
	for _, c := range cases {
		if got := impl.EpochOf(impl.Engine{Setup: impl.Setup{Cool: c.cool}, Picks: c.picks}); got != c.epoch {
			t.Errorf("EpochOf with %d picks and Cool %d is %d", c.picks, c.cool, got)
		}
	}
}

// usedEngine has a worker that executes, one that waits, and one that is done.
const usedEngine = `setup 3 4 20 1 3
	picks 57
	gate 1
	heat 0=5 2=20
	ids 2
	fails 3
	log 1 w2 p0 t0 got 6 put, 2 w2 p1 t3 got put 1=6
	cells 5 0.1* 1w | 2r, 6 1.0 3r |, 7 0.0 1r 8r | 7w
	w0 add 0 5; get 2, get 1 @ 0:2.1 0 wants 0w 2r reads 0=5@0.1* puts 0=10 got 4
	w1 get 0, put 1 1 @ 0:1.0 1 wants 0r
	w2 get 1, put 1 6 @ 2:0.0 0`

// A change is something done to a valid engine.
type change func(*impl.Engine)

// engineBreaks holds what makes an engine such as usedEngine invalid, beside its
// workers.
func engineBreaks() []change {
	var all []change
	for _, s := range badSetups() {
		s.Keys = map[bool]int{true: 3, false: s.Keys}[s.Keys == 4]
		all = append(all, func(e *impl.Engine) { e.Setup = s })
	}
	for _, tb := range badTables() {
		all = append(all, func(e *impl.Engine) { e.Table = tb })
	}
	for _, bad := range badCells() {
		for key := range 3 {
			all = append(all, func(e *impl.Engine) { e.Table.Cells[key] = bad })
		}
	}
	for _, n := range []int{1, 2, 4, 5, 8} {
		all = append(all, func(e *impl.Engine) { e.Table.Cells = make([]impl.Cell, n) })
	}
	for _, keys := range []int{1, 2, 4, 8} {
		all = append(all, func(e *impl.Engine) { e.Setup.Keys = keys })
	}
	for _, h := range badHeats() {
		all = append(all, func(e *impl.Engine) { e.Heat = h })
	}
	for _, n := range []int{-1, -2, -20, math.MinInt, -1 << 32} {
		all = append(all, func(e *impl.Engine) { e.Picks = n })
	}
	for _, n := range []int{-2, 3, 4, -4, math.MinInt, math.MaxInt, 1 << 32, 1<<32 - 1} {
		all = append(all, func(e *impl.Engine) { e.Gate = n })
	}
	for _, n := range []int{5, 6, 100} {
		all = append(all, func(e *impl.Engine) {
			for len(e.Workers) < n {
				e.Workers = append(e.Workers, impl.Worker{})
			}
		})
	}
	return append(all, func(e *impl.Engine) { *e = impl.Engine{} }, func(e *impl.Engine) { e.Workers = nil })
}

// workerBreaks holds what makes a worker of an engine of three keys invalid,
// done or not.
func workerBreaks() []func(*impl.Worker) {
	var all []func(*impl.Worker)
	add := func(change func(*impl.Worker)) { all = append(all, change) }
	far := []int{math.MinInt, -1 << 32}
	for _, n := range append(far, -1, -2) {
		add(func(w *impl.Worker) { w.At = n })
		add(func(w *impl.Worker) { w.Pc = n })
	}
	for _, n := range append(far, -1, 6, 7, math.MaxInt, 1<<32, 1<<32+2) {
		add(func(w *impl.Worker) { w.Phase = n })
	}
	for _, p := range append(badPrograms(), []impl.Act{get(3)}, []impl.Act{get(0), put(7, 1)}) {
		add(func(w *impl.Worker) { w.Progs[0] = p })
		add(func(w *impl.Worker) { w.Progs[1] = p })
		add(func(w *impl.Worker) { w.Progs = append(w.Progs, p) })
	}
	for _, list := range append(badWants(), wants("3r"), wants("0r 1w 3w"), wants("7r")) {
		add(func(w *impl.Worker) { w.Wants = list })
	}
	for _, key := range append(far, -1, 3, 4, 7, 8, math.MaxInt, 1<<32) {
		add(func(w *impl.Worker) { w.Reads = []impl.Seen{{Key: key}} })
		add(func(w *impl.Worker) { w.Reads = []impl.Seen{{Key: 0}, {Key: key}, {Key: 1}} })
		add(func(w *impl.Worker) { w.Puts = []impl.Put{{Key: key, Value: 1}} })
		add(func(w *impl.Worker) { w.Puts = []impl.Put{{Key: 0}, {Key: key}} })
	}
	for _, value := range beyondValues {
		add(func(w *impl.Worker) { w.Puts = []impl.Put{{Key: 2, Value: value}} })
		add(func(w *impl.Worker) { w.Puts = []impl.Put{{Key: 0}, {Key: 1, Value: value}, {Key: 2}} })
	}
	return all
}

// brokenEngines holds engines that are base but for one condition that they
// break. base has three keys and three workers of two programs, and a Gate that
// is one of them.
func brokenEngines(base string) []impl.Engine {
	var all []impl.Engine
	for _, change := range engineBreaks() {
		e := engine(base)
		change(&e)
		all = append(all, e)
	}
	for _, change := range workerBreaks() {
		for w := range 3 {
			e := engine(base)
			change(&e.Workers[w])
			all = append(all, e)
		}
	}
	for _, text := range []string{
		"w0 get 0 @ 0:2.1 0", "w0 get 0; get 1 @ 0:2.2 0", "w0 get 0; get 1, get 2 @ 1:2.1 0", "w0 get 0, get 1; get 2 @ 0:2.1 0", "w0 get 0 @ 0:2.9 0", "w0 get 0 @ 0:2.4294967296 0",
		"w1 get 0 @ 0:2.1 0", "w2 get 0; get 1, get 2 @ 1:2.2 0",
	} {
		e := engine(base)
		setLines(&e, text)
		all = append(all, e)
	}
	return all
}

func badEngines() []impl.Engine { return brokenEngines(usedEngine) }

func TestEngineOk(t *testing.T) {
	good := []string{
		"", "gate 0", "gate 2", "gate -1", "picks 0", "picks 4000", "picks 4001", "picks 9223372036854775807", "fails -1", "fails 1000001", "ids -1", "ids 0",
		"log 9 w7 p-1 t-2 got 1000001 put -1=9000000, 9 w7 p-1 t-2 got put", "setup 3 0 1 0 0", "setup 3 20 100 1 10",
		"w0 get 0 @ 0:2.0 -5", "w0 get 0 @ 0:0.9 1000001", "w0 get 0 @ 0:1.9 0", "w0 get 0 @ 0:3.9 0", "w0 get 0 @ 0:4.9 0", "w0 get 0 @ 0:5.9223372036854775807 0", "w0 get 0 @ 1:2.9 0", "w0 get 0 @ 9223372036854775807:2.0 0",
		"w0 @ 0:2.7 0", "w0 get 0; get 0; get 0; get 0; get 0; get 0 @ 0:2.5 0", "w0 get 0 @ 0:2.0 0 got 5000000", "w0 get 0 @ 0:2.0 0 reads 2=5000000@2000.70000 2=1@0.0 0=1@0.0",
		"w0 get 0 @ 0:2.0 0 puts 0=1000000 1=-1000000 2=0", "w0 get 0 @ 0:2.0 0 wants 0r 1w 2r", "w3 get 2 @ 0:0.0 0", "w3 get 2 @ 0:0.0 0 \n gate 3",
		"cells 0 0.0* 4w | 8r, 0 0.0 5r 6r |, 1000000 1023.65535 |",
		// Only a new engine has at most MaxProgs programs for each worker.
		"w0 " + strings.Repeat("get 0, ", 13) + "@ 0:0.0 0",
	}
	for _, text := range good {
		e := engine(usedEngine)
		setLines(&e, text)
		if !impl.EngineOk(e) {
			t.Errorf("EngineOk is false with %q", text)
		}
	}
	if !impl.EngineOk(engine("")) || !impl.EngineOk(engine("setup 8 0 1 0 0")) {
		t.Error("EngineOk is false without workers")
	}
	for _, e := range badEngines() {
		if impl.EngineOk(e) {
			t.Errorf("EngineOk(%v) is true", e)
		}
	}
}

func TestPicksOfInvalidEngines(t *testing.T) {
	for _, e := range badEngines() {
		before := engineText(e)
		for w := -1; w <= 4; w++ {
			if after, moved := impl.PickWorker(e, w); moved || engineText(after) != before {
				t.Fatalf("PickWorker(%v, %d) = %v, %v", e, w, after, moved)
			}
		}
	}
}
