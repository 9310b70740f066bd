package tests

import (
	"slices"
	"testing"

	"loop.example/g00771/impl"
)

func programsIn(progs [][][]impl.Act) int { return len(slices.Concat(progs...)) }

// mostFails returns how often promise 8 lets a program fail, or -1 if it does
// not say.
func mostFails(s impl.Setup, progs [][][]impl.Act) int {
	switch {
	case s.Lists:
		return 1
	case s.Age > 0:
		return s.Age + programsIn(progs)
	}
	return -1
}

// checkPromise8 looks at the current programs and at those that are committed.
func checkPromise8(t *testing.T, e impl.Engine, most int) {
	t.Helper()
	for i, w := range e.Workers {
		if w.Tries > most {
			t.Fatalf("worker %d has failed %d times instead of %d: %v", i, w.Tries, most, e)
		}
	}
	for _, c := range e.Log {
		if c.Tries > most {
			t.Fatalf("%s has failed more than %d times", impl.CommitText(c), most)
		}
	}
}

// whoFails returns a worker that would fail if it were picked, or -1.
func whoFails(e impl.Engine) int {
	for w := range e.Workers {
		if next, _ := impl.PickWorker(e, w); next.Fails > e.Fails {
			return w
		}
	}
	return -1
}

func notePromise8(n tally, s impl.Setup, e impl.Engine) {
	for _, w := range e.Workers {
		n.note("fails with Lists", s.Lists && w.Tries == 1)
		n.note("fails as often as Age", !s.Lists && s.Age > 1 && w.Tries == s.Age)
		n.note("fails more often than Age", !s.Lists && w.Tries > s.Age)
	}
	n.note("has the Gate", e.Gate >= 0)
}

// TestPromise8 plays schedules that are drawn, and every other time such as
// pick, where they can, a worker that fails.
func TestPromise8(t *testing.T) {
	state := uint32(95)
	n := tally{}
	for i := range 240 {
		p := drawPlay(&state)
		p.s.Lists = i%4 < 2
		if !p.s.Lists {
			p.s.Age = 1 + draw(&state, 3)
		}
		most := mostFails(p.s, p.progs)
		e, _ := impl.NewEngine(p.s, p.progs)
		for _, w := range p.picks {
			if worst := whoFails(e); i%2 == 0 && worst >= 0 {
				w = worst
			}
			e, _ = impl.PickWorker(e, w)
			checkPromise8(t, e, most)
			notePromise8(n, p.s, e)
		}
	}
	n.atLeast(t, 100, "fails with Lists", "fails as often as Age", "fails more often than Age", "has the Gate")
}

// TestPromise8Schedules tries every schedule of small programs, as long as they
// do not fail more often all together than a single one may.
func TestPromise8Schedules(t *testing.T) {
	n := tally{}
	for _, progs := range []string{"add 0 1 / add 0 2", "get 0; get 1 / put 1 3; put 0 3", "get 0; put 1 5 / get 1; put 0 6", "put 0 1; put 1 1 / put 1 2; put 0 2", "add 0 1, add 0 1 / get 0"} {
		for _, text := range []string{"2 0 100 1 0", "2 1 100 1 0", "2 0 100 1 2", "2 0 100 0 1", "2 1 100 0 1"} {
			s := setup(text)
			most := mostFails(s, crew(progs))
			e, _ := impl.NewEngine(s, crew(progs))
			allSchedules(e, min(most+1, 4), func(e impl.Engine) {
				checkPromise8(t, e, most)
				notePromise8(n, s, e)
				n.note("both fail", e.Workers[0].Tries > 0 && e.Workers[1].Tries > 0)
			})
		}
	}
	n.atLeast(t, 100, "fails with Lists", "has the Gate", "both fail")
}

// TestPromise8Locked stops worker 1 while it holds the lock of the key that
// worker 0 reads.
func TestPromise8Locked(t *testing.T) {
	cases := []struct {
		setup string
		fails int
	}{
		{"1 0 100 1 0", 1}, {"1 0 100 1 1", 1}, {"1 0 100 1 9", 1}, {"1 0 100 0 1", 1}, {"1 0 100 0 2", 2}, {"1 0 100 0 7", 7}, {"1 0 100 0 10", 10}, {"1 1 100 0 0", 1}, {"1 2 100 0 0", 2}, {"1 0 100 0 0", 100},
	}
	for _, c := range cases {
		e, _ := impl.NewEngine(setup(c.setup), crew("get 0 / add 0 5"))
		for i := range 305 {
			e, _ = impl.PickWorker(e, map[bool]int{true: 1, false: 0}[i < 5])
		}
		if e.Fails != c.fails || e.Workers[0].Tries != c.fails {
			t.Errorf("with %q worker 0 has failed %d times instead of %d", c.setup, e.Workers[0].Tries, c.fails)
		}
	}
}

// drawSetupFor returns any setup, with the Keys and the kinds of locks given.
func drawSetupFor(state *uint32, keys int, lists, age bool) impl.Setup {
	s := drawSetup(state)
	s.Keys, s.Lists, s.Age = keys, lists, 0
	if age {
		s.Age = 1 + draw(state, 10)
	}
	return s
}

func TestPromise8Runs(t *testing.T) {
	state := uint32(96)
	n := tally{}
	for i := range 400 {
		p := drawPlay(&state)
		if i%10 == 0 {
			p.s.Keys, p.progs = 6, alike(2+i/10%3, 8)
		}
		s := drawSetupFor(&state, p.s.Keys, i%3 == 0, i%3 == 1 || i%6 == 0)
		seed := draw(&state, 1<<24)
		tries, most := impl.MostTries(s, p.progs, seed), mostFails(s, p.progs)
		if most >= 0 && tries > most {
			t.Fatalf("MostTries(%v, %v, %d) is %d, more than %d", s, p.progs, seed, tries, most)
		}
		n.note("fails with Lists", s.Lists && tries == 1)
		n.note("fails with Age", !s.Lists && s.Age > 0 && tries > 1)
		n.note("fails with neither", most < 0 && tries > 1)
	}
	n.atLeast(t, 20, "fails with Lists", "fails with Age", "fails with neither")
}

// TestPromise9Rounds also goes on in the model where RoundsToDone ends.
func TestPromise9Rounds(t *testing.T) {
	state := uint32(97)
	n := tally{}
	for i := range 150 {
		p := drawPlay(&state)
		if i%15 == 0 {
			p.s.Keys, p.progs = 6, alike(1+i/15%4, 12)
		}
		s := drawSetupFor(&state, p.s.Keys, i%2 == 0, i%2 == 1 || i%4 == 0)
		rounds, bound := impl.RoundsToDone(s, p.progs), impl.RoundBound(s, p.progs)
		if bound < 0 || rounds > bound {
			t.Fatalf("%d rounds of %v with %v are more than %d", rounds, p.progs, s, bound)
		}
		needed := roundsIn(s, p.progs, bound)
		if needed < 0 || rounds >= 0 && rounds != needed || rounds < 0 && needed <= 900 {
			t.Fatalf("RoundsToDone of %v with %v is %d, and the model needs %d", p.progs, s, rounds, needed)
		}
		n.note("beyond MaxPicks", needed*len(p.progs) > impl.MaxPicks)
		n.note("beyond 900 rounds", rounds < 0)
	}
	n.atLeast(t, 10, "beyond MaxPicks")
	n.atLeast(t, 1, "beyond 900 rounds")
}

// soloSum adds the picks that each program needs, as promise 9 counts them.
func soloSum(list [][]impl.Act) int {
	sum := 0
	for _, p := range list {
		sum += 5 + len(p)
		for key := range 8 {
			if hasAct(p, key, true) {
				sum++
			}
		}
	}
	return sum
}

func checkSolo(t *testing.T, s impl.Setup, list [][]impl.Act, seed int) {
	t.Helper()
	progs := [][][]impl.Act{list}
	sum := 0
	for _, p := range list {
		sum += impl.SoloPicks(p)
	}
	if sum != soloSum(list) {
		t.Fatalf("SoloPicks of %v are %d instead of %d", list, sum, soloSum(list))
	}
	e, ok := impl.RunToDone(s, progs, seed)
	if !ok || e.Picks != sum || e.Fails != 0 || impl.FailsIn(s, progs, seed) != 0 || impl.MostTries(s, progs, seed) > 0 {
		t.Fatalf("%v alone needs %d picks instead of %d: %v", list, e.Picks, sum, e)
	}
	if got := impl.RoundsToDone(s, progs); got != sum {
		t.Fatalf("%v alone needs %d rounds instead of %d", list, got, sum)
	}
	if values, _ := impl.SerialRun(s, progs); !slices.Equal(values, impl.ValuesOf(e.Table)) {
		t.Fatalf("the values of %v alone are not %v: %v", list, values, e)
	}
	for _, c := range e.Log {
		if c.Tries != 0 {
			t.Fatalf("%s has failed alone", impl.CommitText(c))
		}
	}
}

// TestPromise9Alone has any Hot: a key that nobody fails at never is hot.
func TestPromise9Alone(t *testing.T) {
	state := uint32(98)
	for _, p := range somePrograms() {
		checkSolo(t, impl.Setup{Keys: 8, Cool: 1 + draw(&state, 100), Lists: draw(&state, 2) == 0, Age: draw(&state, 11)}, [][]impl.Act{p}, draw(&state, 1000))
	}
	for range 300 {
		s := drawSetup(&state)
		checkSolo(t, s, drawProgs(&state, s.Keys, impl.MaxProgs), draw(&state, 1<<24))
	}
	checkSolo(t, setup("6 0 1 0 0"), slices.Repeat([][]impl.Act{sixKeys}, 12), 1)
}

// checkCommittedOnce asks for each program once in the log, in the order of
// the worker.
func checkCommittedOnce(t *testing.T, e impl.Engine) {
	t.Helper()
	next := make([]int, len(e.Workers))
	for _, c := range e.Log {
		if c.At != next[c.Worker] {
			t.Fatalf("%s comes after %d programs of its worker", impl.CommitText(c), next[c.Worker])
		}
		next[c.Worker]++
	}
	for i, w := range e.Workers {
		if next[i] != len(w.Progs) {
			t.Fatalf("worker %d has committed %d programs instead of %d: %v", i, next[i], len(w.Progs), e)
		}
	}
}

// kindOf draws one of the four kinds of setups.
func kindOf(state *uint32, i, keys int) impl.Setup {
	return drawSetupFor(state, keys, i%2 == 0, i/2%2 == 0)
}

func TestPromise10(t *testing.T) {
	state := uint32(99)
	n := tally{}
	for i := range 300 {
		p := drawPlay(&state)
		if i%20 < 4 {
			p.s.Keys, p.progs = 6, alike(4, 5+draw(&state, 8))
		}
		s := kindOf(&state, i, p.s.Keys)
		e, ok := impl.RunToDone(s, p.progs, draw(&state, 1<<24))
		checkSerial(t, e)
		if !impl.EngineOk(e) || !impl.SerialOk(e) || !isSerial(e) || !impl.IdsOk(e.Log) || !impl.OncePer(e.Log) {
			t.Fatalf("the history is not serializable: %v", e)
		}
		if ok {
			checkCommittedOnce(t, e)
		}
		n.note("done", ok)
		n.note("not done", !ok)
		n.note("fails", e.Fails > 0)
	}
	n.atLeast(t, 10, "done", "not done", "fails")
}

// drawAdds returns programs of additions to one key, or to some of several,
// that together stay within the limits of a value.
func drawAdds(state *uint32, keys int) [][][]impl.Act {
	var progs [][][]impl.Act
	for range 1 + draw(state, 4) {
		var list [][]impl.Act
		for range draw(state, 8) {
			var p []impl.Act
			for range 1 + draw(state, 4) {
				p = append(p, add(draw(state, keys), draw(state, 4001)-2000))
			}
			list = append(list, p)
		}
		progs = append(progs, list)
	}
	return progs
}

func TestPromise10Sums(t *testing.T) {
	state := uint32(100)
	n := tally{}
	for i := range 300 {
		keys := 1 + draw(&state, 3)
		s, progs := kindOf(&state, i, keys), drawAdds(&state, 1+draw(&state, keys))
		sums := make([]int, keys)
		for _, list := range progs {
			for _, a := range slices.Concat(list...) {
				sums[a.Key] += a.N
			}
		}
		e, ok := impl.RunToDone(s, progs, draw(&state, 1<<24))
		serial, known := impl.SerialRun(s, progs)
		if !known || !slices.Equal(serial, sums) || ok && !slices.Equal(impl.ValuesOf(e.Table), sums) {
			t.Fatalf("the sums of %v are %v and not %v: %v", progs, sums, serial, e)
		}
		n.note("done", ok)
		n.note("fails", ok && e.Fails > 0)
		n.note("fails with neither", ok && e.Fails > 0 && !s.Lists && s.Age == 0)
	}
	n.atLeast(t, 50, "done", "fails")
	n.atLeast(t, 20, "fails with neither")
}
