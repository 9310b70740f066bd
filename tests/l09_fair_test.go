package tests

import (
	"fmt"
	"math"
	"reflect"
	"runtime"
	"slices"
	"sync"
	"testing"
	"time"

	"loop.example/g00771/impl"
)

// sixKeys is the longest program that there is: a single worker needs 17 picks.
var sixKeys = []impl.Act{add(0, 1), add(1, 1), add(2, 1), add(3, 1), add(4, 1), add(5, 1)}

// crowd has a worker for each pair of numbers: so many times sixKeys, and then
// so many of its acts alone, as one program.
func crowd(pairs ...[2]int) [][][]impl.Act {
	var progs [][][]impl.Act
	for _, n := range pairs {
		list := slices.Repeat([][]impl.Act{sixKeys}, n[0])
		if n[1] > 0 {
			list = append(list, sixKeys[:n[1]])
		}
		progs = append(progs, list)
	}
	return progs
}

func alike(workers, programs int) [][][]impl.Act {
	return crowd(slices.Repeat([][2]int{{programs, 0}}, workers)...)
}

// inRounds and drawnBy tell which worker is picked next. The numbers of the
// seed are the same modulo 4294967296, but for the bit that is left out.
func inRounds(workers int) func() int {
	i := -1
	return func() int {
		i++
		return i % workers
	}
}

func drawnBy(seed, workers int) func() int {
	x := uint32(seed)
	return func() int {
		x = x*1103515245 + 12345
		return int(x<<1>>17) % workers
	}
}

// ranModel picks in the model of chapter 6 until all are done, or there were
// most picks.
func ranModel(s impl.Setup, progs [][][]impl.Act, most int, next func() int) *model {
	m := modelOf(newEngine(s, progs))
	for m.Picks < most && !impl.AllDone(m.Engine) {
		m.pick(next())
	}
	return m
}

// roundsIn counts whole rounds, however many there are, or returns -1 for more
// than most.
func roundsIn(s impl.Setup, progs [][][]impl.Act, most int) int {
	m := modelOf(newEngine(s, progs))
	for n := range most + 1 {
		if impl.AllDone(m.Engine) {
			return n
		}
		for w := range progs {
			m.pick(w)
		}
	}
	return -1
}

func TestRoundPicks(t *testing.T) {
	cases := []struct {
		workers, rounds int
		picks           []int
	}{
		{2, 2, []int{0, 1, 0, 1}}, {1, 1, []int{0}}, {1, 5, []int{0, 0, 0, 0, 0}}, {3, 1, []int{0, 1, 2}}, {4, 2, []int{0, 1, 2, 3, 0, 1, 2, 3}}, {1, 0, nil}, {4, 0, nil},
	}
	for _, c := range cases {
		if got, ok := impl.RoundPicks(c.workers, c.rounds); !ok || !slices.Equal(got, c.picks) {
			t.Errorf("RoundPicks(%d, %d) = %v, %v", c.workers, c.rounds, got, ok)
		}
	}
	most := map[int]int{1: 400, 2: 200, 3: 133, 4: 100}
	for workers := 1; workers <= 4; workers++ {
		for rounds := range 410 {
			got, ok := impl.RoundPicks(workers, rounds)
			if ok != (rounds <= most[workers]) || ok && len(got) != workers*rounds || !ok && len(got) != 0 {
				t.Fatalf("RoundPicks(%d, %d) = %v, %v", workers, rounds, got, ok)
			}
			for i, w := range got {
				if w != i%workers {
					t.Fatalf("RoundPicks(%d, %d) = %v", workers, rounds, got)
				}
			}
		}
	}
}

func TestRoundPicksRefuses(t *testing.T) {
	for _, workers := range append(farNumbers, -4, -1, 0, 5, 6, 400) {
		for _, rounds := range []int{-1, 0, 1, 100} {
			if got, ok := impl.RoundPicks(workers, rounds); ok || len(got) != 0 {
				t.Errorf("RoundPicks(%d, %d) = %v, %v", workers, rounds, got, ok)
			}
		}
	}
	// Some of these rounds, times the workers, are few picks after wraparound.
	for _, rounds := range append(farNumbers, -1, -2, 401, 1<<62, 1<<62+1, 1<<63-1<<61, -1<<62, -1<<62+3) {
		for workers := -1; workers <= 5; workers++ {
			if got, ok := impl.RoundPicks(workers, rounds); ok || len(got) != 0 {
				t.Errorf("RoundPicks(%d, %d) = %v, %v", workers, rounds, got, ok)
			}
		}
	}
}

func TestSoloPicks(t *testing.T) {
	cases := []struct {
		p     string
		picks int
	}{
		{"add 0 5", 7}, {"get 0", 6}, {"put 7 -1", 7}, {"get 0; get 0", 7}, {"get 0; get 1", 7}, {"put 0 1; get 0", 8}, {"get 0; put 0 1", 8}, {"put 0 1; put 0 2", 8}, {"put 0 1; add 0 2", 8}, {"put 0 1; put 1 2", 9},
		{"add 0 5; get 1; put 1 2", 10}, {"get 0; get 1; get 2; get 3; get 4; get 5", 11}, {"add 3 1; add 3 1; add 3 1; add 3 1; add 3 1; add 3 1", 12}, {"add 2 5; get 0; put 2 1", 9}, {"add 0 1; put 1 1; add 2 1; put 3 1; add 4 1; put 7 1", 17},
	}
	for _, c := range cases {
		if got := impl.SoloPicks(programs(c.p)[0]); got != c.picks {
			t.Errorf("SoloPicks of %q is %d", c.p, got)
		}
	}
	for _, p := range badPrograms() {
		if got := impl.SoloPicks(p); got != -1 {
			t.Errorf("SoloPicks(%v) is %d", p, got)
		}
	}
}

func TestRoundBound(t *testing.T) {
	one, two := crew("get 0"), crew("add 0 5 / get 0")
	cases := []struct {
		setup string
		progs [][][]impl.Act
		bound int
	}{
		{"2 4 20 1 3", two, 160}, {"2 4 20 1 0", two, 160}, {"2 0 1 1 10", two, 160}, {"2 4 20 0 3", two, 480}, {"2 4 20 0 1", two, 320}, {"2 0 1 0 10", two, 1040}, {"2 4 20 0 0", two, -1}, {"2 0 100 0 0", two, -1},
		{"1 4 20 1 3", one, 80}, {"1 4 20 0 1", one, 120}, {"1 4 20 0 10", one, 480}, {"1 4 20 0 0", one, -1}, {"2 4 20 1 3", crew("get 0, get 1, get 0"), 240}, {"2 4 20 0 2", crew("get 0, get 1, get 0"), 720},
		{"2 4 20 1 3", crew("get 0, get 1 // get 0 /"), 240}, {"2 4 20 0 2", crew("/ get 0, get 1 / get 0 /"), 720}, {"2 20 1 1 0", nil, 0}, {"2 4 20 1 3", crew("///"), 0}, {"2 4 20 0 3", nil, 0}, {"2 4 20 0 3", crew("/"), 0}, {"2 4 20 0 0", nil, -1}, {"2 4 20 0 0", crew("/"), -1},
		{"6 4 20 1 10", alike(4, 12), 3840}, {"6 4 20 0 10", alike(4, 12), 113280}, {"6 4 20 0 1", alike(4, 12), 96000}, {"6 4 20 0 1", alike(1, 12), 6720}, {"6 4 20 0 0", alike(4, 12), -1},
	}
	for _, c := range cases {
		if got := impl.RoundBound(setup(c.setup), c.progs); got != c.bound {
			t.Errorf("RoundBound with %q and %v is %d instead of %d", c.setup, c.progs, got, c.bound)
		}
	}
}

func TestSerialRun(t *testing.T) {
	cases := []struct {
		keys   int
		progs  [][][]impl.Act
		values []int
	}{
		{2, crew("add 0 5 / get 0"), []int{5, 0}}, {2, crew("add 0 5; get 1, put 1 2 / add 1 3 // add 0 1"), []int{6, 5}}, {1, nil, []int{0}}, {8, nil, []int{0, 0, 0, 0, 0, 0, 0, 0}}, {3, crew("//"), []int{0, 0, 0}},
		{1, crew("put 0 1 / put 0 2"), []int{2}}, {1, crew("put 0 2 / put 0 1"), []int{1}}, {1, crew("put 0 1, add 0 5 / put 0 2"), []int{2}}, {1, crew("put 0 1 / put 0 2, add 0 5"), []int{7}}, {1, crew("add 0 1, put 0 7, add 0 2"), []int{9}},
		{1, crew("add 0 1000000 / add 0 1000000 / add 0 -1"), []int{999999}}, {1, crew("add 0 -1 / add 0 1000000, add 0 1000000"), []int{1000000}}, {2, crew("add 1 -1000000 / add 1 -1; add 1 3"), []int{0, -999997}},
		{8, crew("put 7 7, put 3 3 / put 0 -1000000 // add 7 1"), []int{-1000000, 0, 0, 3, 0, 0, 0, 8}}, {6, alike(4, 12), []int{48, 48, 48, 48, 48, 48}},
	}
	for _, c := range cases {
		for _, rest := range []string{" 4 20 1 3", " 0 1 0 0"} {
			got, ok := impl.SerialRun(setup(fmt.Sprint(c.keys, rest)), c.progs)
			if !ok || !slices.Equal(got, c.values) {
				t.Errorf("SerialRun of %v = %v, %v instead of %v", c.progs, got, ok, c.values)
			}
		}
	}
}

// TestSerialRunOfAll executes the programs of drawn plays act by act.
func TestSerialRunOfAll(t *testing.T) {
	state := uint32(91)
	for range 500 {
		p := drawPlay(&state)
		values := make([]int, p.s.Keys)
		for _, list := range p.progs {
			for _, a := range slices.Concat(list...) {
				switch a.Kind {
				case 1:
					values[a.Key] = a.N
				case 2:
					values[a.Key] = max(-1000000, min(1000000, values[a.Key]+a.N))
				}
			}
		}
		if got, ok := impl.SerialRun(p.s, p.progs); !ok || !slices.Equal(got, values) {
			t.Fatalf("SerialRun(%v) = %v, %v instead of %v", p, got, ok, values)
		}
	}
}

func TestRoundsToDone(t *testing.T) {
	cases := []struct {
		setup  string
		progs  [][][]impl.Act
		rounds int
	}{
		{"2 4 20 1 3", crew("add 0 5"), 7}, {"2 4 20 1 3", crew("get 0"), 6}, {"2 4 20 0 0", crew("add 0 5, get 0"), 13}, {"1 0 1 0 0", nil, 0}, {"2 4 20 1 3", nil, 0}, {"2 4 20 1 3", crew(""), 0}, {"2 4 20 1 3", crew("///"), 0},
		// Programs that do not meet need no more rounds together than alone.
		{"2 4 20 1 3", crew("/ get 0"), 6}, {"2 4 20 1 3", crew("get 0 /"), 6}, {"2 4 20 1 3", crew("get 0 / get 1 //"), 6}, {"2 4 20 1 3", crew("get 0, get 0 / get 0"), 12}, {"2 4 20 1 3", crew("get 0 / get 0, get 0 / get 1"), 12}, {"4 0 1 0 0", crew("add 0 1 / add 1 1 / add 2 1 / add 3 1; get 3"), 8},
		// In round 5 worker 0 locks key 0, so that worker 1 fails. In round 8
		// worker 0 leaves, and worker 1 reads the key, or with Lists, has
		// waited for the lock and starts to execute.
		{"2 4 20 0 0", crew("get 1; add 0 1 / get 0"), 11}, {"2 4 20 1 3", crew("get 1; add 0 1 / get 0"), 12}, {"6 4 20 1 3", alike(1, 12), 204},
	}
	for _, c := range cases {
		if got := impl.RoundsToDone(setup(c.setup), c.progs); got != c.rounds {
			t.Errorf("RoundsToDone with %q and %v is %d instead of %d", c.setup, c.progs, got, c.rounds)
		}
		if want := roundsIn(setup(c.setup), c.progs, 900); c.rounds != want {
			t.Errorf("the model with %q and %v needs %d rounds instead of %d", c.setup, c.progs, want, c.rounds)
		}
	}
}

// TestRoundLimit has runs that are done near the end of round 900: after its
// first pick, its last one, and the next.
func TestRoundLimit(t *testing.T) {
	cases := []struct {
		progs         [][][]impl.Act
		rounds, picks int
	}{
		{crowd([2]int{12, 0}, [2]int{11, 5}, [2]int{11, 5}, [2]int{10, 1}), 900, 3597},
		{crowd([2]int{12, 0}, [2]int{12, 0}, [2]int{11, 5}, [2]int{10, 5}), 900, 3598},
		{crowd([2]int{12, 0}, [2]int{10, 5}, [2]int{11, 5}, [2]int{12, 0}), 900, 3600},
		{crowd([2]int{12, 0}, [2]int{12, 0}, [2]int{10, 1}, [2]int{11, 5}), -1, 3601},
		{crowd([2]int{12, 0}, [2]int{12, 0}, [2]int{10, 4}, [2]int{12, 0}), 899, 3596},
	}
	s := setup("6 0 100 0 1")
	for _, c := range cases {
		if got := impl.RoundsToDone(s, c.progs); got != c.rounds {
			t.Errorf("RoundsToDone is %d instead of %d", got, c.rounds)
		}
		if m := ranModel(s, c.progs, 4000, inRounds(4)); m.Picks != c.picks {
			t.Errorf("the model needs %d picks instead of %d", m.Picks, c.picks)
		}
	}
	for _, text := range []string{"6 0 100 1 0", "6 0 100 0 1", "6 4 20 1 3"} {
		if got := impl.RoundsToDone(setup(text), alike(4, 12)); got != -1 {
			t.Errorf("RoundsToDone of many programs with %q is %d", text, got)
		}
	}
}

// TestRoundsOfAll compares the rounds of drawn plays with the model.
func TestRoundsOfAll(t *testing.T) {
	state := uint32(92)
	longest := 0
	for range 200 {
		p := drawPlay(&state)
		want := roundsIn(p.s, p.progs, 900)
		if got := impl.RoundsToDone(p.s, p.progs); got != want {
			t.Fatalf("RoundsToDone(%v) is %d instead of %d", p, got, want)
		}
		longest = max(longest, want*len(p.progs))
	}
	if longest <= impl.MaxPicks {
		t.Errorf("no play has more than %d picks", longest)
	}
}

// checkRun compares RunToDone with the model, and FailsIn and MostTries with
// the engine of that.
func checkRun(t *testing.T, s impl.Setup, progs [][][]impl.Act, seed int) (impl.Engine, bool) {
	t.Helper()
	want := ranModel(s, progs, 3000, drawnBy(seed, len(progs))).engine()
	done := impl.AllDone(want)
	e, ok := impl.RunToDone(s, progs, seed)
	if ok != done || !sameEngine(e, want) {
		t.Fatalf("RunToDone(%v, %v, %d):\n%v, %v\n%v, %v", s, progs, seed, e, ok, want, done)
	}
	fails, most := -1, -1
	if done {
		fails = want.Fails
		for _, c := range want.Log {
			most = max(most, c.Tries)
		}
	}
	if got := impl.FailsIn(s, progs, seed); got != fails {
		t.Fatalf("FailsIn(%v, %v, %d) is %d instead of %d", s, progs, seed, got, fails)
	}
	if got := impl.MostTries(s, progs, seed); got != most {
		t.Fatalf("MostTries(%v, %v, %d) is %d instead of %d", s, progs, seed, got, most)
	}
	return e, ok
}

// TestSeeds has one program that needs 6 picks. The numbers are, from the seed
//
//	1: 16838, 5758, 10113, 17515, 31051, 5627, 23010, 7419, 16212, 4086, 2749, 12767, 9084, 12060, 32225, 17543, 25089, 21183, 25137, 25566, 26966
//	0: 0, 21468, 9988, 22117, 3498, 16927, 16045, 19741, 12122, 8410, 12261, 27052, 5659
//	1073741824: 16384, 5084, 26372, 5733, 19882, 543, 32429, 3357, 28506, 24794
//	2147483646: 31859, 20118, 9736, 31320, 13928, 6758, 2114
//	2147483647: 15929, 4409, 9862, 26718, 8713, 28226, 9080, 32063, 8032, 12734
func TestSeeds(t *testing.T) {
	cases := []struct {
		progs       string
		seed, picks int
	}{
		{"get 0 /", 1, 13}, {"/ get 0", 1, 11}, {"get 0 /", 0, 10}, {"/ get 0", 0, 13}, {"get 0 /", 2147483647, 10}, {"get 0 /", 2147483646, 7}, {"get 0 /", 1073741824, 10}, {"// get 0", 1, 21},
		{"get 0", 0, 6}, {"get 0", 1, 6}, {"add 0 5", 2147483647, 7}, {"get 0, add 0 5", 77, 13}, {"", 0, 0}, {"/", 1, 0}, {"///", 2147483647, 0},
	}
	for _, c := range cases {
		for _, s := range []string{"1 4 20 1 3", "1 0 1 0 0"} {
			e, ok := checkRun(t, setup(s), crew(c.progs), c.seed)
			if !ok || e.Picks != c.picks || e.Fails != 0 {
				t.Errorf("with the seed %d %q needs %d picks instead of %d: %v", c.seed, c.progs, e.Picks, c.picks, e)
			}
		}
	}
}

// TestRunLimit has runs that are done after 2999, 3000 or 3001 picks, and some
// that are far from it.
func TestRunLimit(t *testing.T) {
	cases := []struct {
		setup         string
		seed          int
		picks, needed int
	}{
		{"6 1 100 0 0", 1230, 2999, 2999}, {"6 1 100 0 0", 124, 3000, 3000}, {"6 0 100 0 10", 263, 3000, 3000}, {"6 0 100 0 10", 678, 3000, 3001}, {"6 0 100 0 10", 721, 3000, 3001}, {"6 1 100 0 0", 644, 3000, 3001},
	}
	for _, c := range cases {
		s, progs := setup(c.setup), alike(4, 11)
		e, ok := checkRun(t, s, progs, c.seed)
		if e.Picks != c.picks || ok != (c.needed <= 3000) || impl.AllDone(e) != ok {
			t.Errorf("with %q and %d RunToDone is %v after %d picks", c.setup, c.seed, ok, e.Picks)
		}
		if m := ranModel(s, progs, 4000, drawnBy(c.seed, 4)); m.Picks != c.needed {
			t.Errorf("the model with %q and %d needs %d picks", c.setup, c.seed, m.Picks)
		}
	}
	for seed := range 3 {
		e, ok := checkRun(t, setup("6 0 100 1 0"), alike(4, 12), seed)
		if ok || e.Picks != 3000 || len(e.Log) == 0 || impl.AllDone(e) {
			t.Errorf("RunToDone of many programs is %v: %v", ok, e)
		}
	}
}

func TestRunsOfAll(t *testing.T) {
	state := uint32(93)
	n := tally{}
	for i := range 200 {
		p := drawPlay(&state)
		seed := []int{draw(&state, 100), 1<<31 - 1 - draw(&state, 100), draw(&state, 1<<24) * 127}[i%3]
		e, ok := checkRun(t, p.s, p.progs, seed)
		n.note("done", ok)
		n.note("beyond MaxPicks", e.Picks > impl.MaxPicks)
		n.note("fails", e.Fails > 0)
		n.note("fails twice", impl.MostTries(p.s, p.progs, seed) > 1)
	}
	n.atLeast(t, 20, "done", "beyond MaxPicks", "fails", "fails twice")
}

func checkNoRun(t *testing.T, s impl.Setup, progs [][][]impl.Act, seed int) {
	t.Helper()
	if e, ok := impl.RunToDone(s, progs, seed); ok || !isZeroEngine(e) {
		t.Errorf("RunToDone(%v, %v, %d) = %v, %v", s, progs, seed, e, ok)
	}
	if fails, most := impl.FailsIn(s, progs, seed), impl.MostTries(s, progs, seed); fails != -1 || most != -1 {
		t.Errorf("FailsIn and MostTries of %v, %v, %d are %d and %d", s, progs, seed, fails, most)
	}
}

func TestSeedsRefused(t *testing.T) {
	for _, seed := range append(farNumbers, -1, -2, 1<<31, 1<<31+1, -1<<31, -1<<31+1, 1<<31+65536, 1<<32+1<<31, math.MaxInt-1<<31) {
		for _, progs := range [][][][]impl.Act{crew("add 0 5 / get 0"), crew("get 0"), crew("/"), nil} {
			checkNoRun(t, setup("2 4 20 1 3"), progs, seed)
		}
	}
}

func TestRunsWithoutWorkers(t *testing.T) {
	for _, s := range goodSetups() {
		for _, seed := range []int{0, 1, 1<<31 - 1} {
			checkNoRun(t, s, nil, seed)
			checkNoRun(t, s, [][][]impl.Act{}, seed)
			if fails, most := impl.FailsIn(s, crew("/"), seed), impl.MostTries(s, crew("/"), seed); fails != 0 || most != -1 {
				t.Errorf("without programs FailsIn is %d and MostTries %d", fails, most)
			}
		}
	}
}

func TestRunsRefused(t *testing.T) {
	check := func(s impl.Setup, progs [][][]impl.Act) {
		t.Helper()
		checkNoRun(t, s, progs, 1)
		if rounds, bound := impl.RoundsToDone(s, progs), impl.RoundBound(s, progs); rounds != -1 || bound != -1 {
			t.Errorf("RoundsToDone and RoundBound of %v, %v are %d and %d", s, progs, rounds, bound)
		}
		if values, ok := impl.SerialRun(s, progs); ok || len(values) != 0 {
			t.Errorf("SerialRun of %v, %v is %v, %v", s, progs, values, ok)
		}
	}
	for _, s := range badSetups() {
		check(s, nil)
		check(s, crew("get 0 / add 0 1"))
		check(s, crew("/"))
	}
	for _, progs := range badCrews() {
		check(setup("2 4 20 1 3"), progs)
		check(setup("2 0 1 0 2"), progs)
	}
}

// A fairCall is a call of a function of chapter 9 that plays an engine.
type fairCall struct {
	s     impl.Setup
	progs [][][]impl.Act
	seed  int
}

func (c fairCall) result() string {
	e, ok := impl.RunToDone(c.s, c.progs, c.seed)
	return fmt.Sprint(engineText(e), ok, impl.RoundsToDone(c.s, c.progs), impl.FailsIn(c.s, c.progs, c.seed), impl.MostTries(c.s, c.progs, c.seed))
}

func someFairCalls() []fairCall {
	calls := []fairCall{
		{setup("6 0 100 1 0"), alike(4, 12), 1}, {setup("6 1 10 0 2"), alike(3, 12), 7}, {setup("2 4 20 1 3"), crew("///"), 3}, {setup("2 4 20 1 3"), nil, 3}, {setup("2 4 20 1 3"), crew("get 0"), -1}, {impl.Setup{}, crew("get 0"), 5}, {setup("2 4 20 1 3"), crew("get 2"), 5},
	}
	state := uint32(94)
	for range 20 {
		p := drawPlay(&state)
		calls = append(calls, fairCall{p.s, p.progs, draw(&state, 1000)})
	}
	return calls
}

// TestRunsAgain makes the same calls again and beside each other, with few and
// many processors.
func TestRunsAgain(t *testing.T) {
	calls := someFairCalls()
	var first []string
	for _, c := range calls {
		first = append(first, c.result())
	}
	processors := runtime.GOMAXPROCS(0)
	defer runtime.GOMAXPROCS(processors)
	for _, n := range []int{1, 2, processors, 4 * processors} {
		runtime.GOMAXPROCS(n)
		again := make([]string, 3*len(calls))
		var all sync.WaitGroup
		for i := range again {
			all.Go(func() { again[i] = calls[len(calls)-1-i%len(calls)].result() })
		}
		all.Wait()
		for i, text := range again {
			if k := len(calls) - 1 - i%len(calls); text != first[k] {
				t.Fatalf("call %d with %d processors: %s instead of %s", k, n, text, first[k])
			}
		}
	}
}

// TestNobodyIsLeft gives a goroutine that has nothing to do any more the time
// to end. On one processor, one that has been waited for hardly needs it.
func TestNobodyIsLeft(t *testing.T) {
	defer runtime.GOMAXPROCS(runtime.GOMAXPROCS(1))
	time.Sleep(20 * time.Millisecond) // for those of other tests
	before, atOnce := runtime.NumGoroutine(), 0
	calls := someFairCalls()
	for i, c := range calls {
		c.result()
		if runtime.NumGoroutine() <= before {
			atOnce++
		}
		for waited := 0; runtime.NumGoroutine() > before; waited++ {
			if waited == 2000 {
				t.Fatalf("after call %d there are %d goroutines instead of %d", i, runtime.NumGoroutine(), before)
			}
			time.Sleep(time.Millisecond)
		}
	}
	if 2*atOnce < len(calls) {
		t.Errorf("after %d of %d calls goroutines go on", len(calls)-atOnce, len(calls))
	}
}

func TestRunsAlone(t *testing.T) {
	calls := someFairCalls()
	// One list of programs for all workers, and one program for all places.
	same := slices.Repeat(programs("add 0 1; get 1"), 3)
	calls = append(calls, fairCall{setup("2 4 20 1 3"), [][][]impl.Act{same, same, same}, 1})
	for _, progs := range badCrews() {
		calls = append(calls, fairCall{setup("2 4 20 1 3"), progs, 1})
	}
	type told struct {
		E, Again       impl.Engine
		Values, Others []int
	}
	for _, c := range calls {
		checkOwn(t, "a function of chapter 9", c.progs, func(progs [][][]impl.Act) any {
			var x told
			x.E, _ = impl.RunToDone(c.s, progs, c.seed)
			x.Again, _ = impl.RunToDone(c.s, progs, c.seed)
			x.Values, _ = impl.SerialRun(c.s, progs)
			x.Others, _ = impl.SerialRun(c.s, progs)
			impl.RoundsToDone(c.s, progs)
			impl.RoundBound(c.s, progs)
			impl.FailsIn(c.s, progs, c.seed)
			impl.MostTries(c.s, progs, c.seed)
			for _, list := range progs {
				for _, p := range list {
					impl.SoloPicks(p)
				}
			}
			return x
		})
	}
	first, _ := impl.RoundPicks(2, 3)
	first[0] = 7
	second, _ := impl.RoundPicks(2, 3)
	if !slices.Equal(second, []int{0, 1, 0, 1, 0, 1}) || shareMemory(append(spans(reflect.ValueOf(first)), spans(reflect.ValueOf(second))...)) {
		t.Errorf("the picks are %v after others have changed", second)
	}
}
