package tests

import (
	"fmt"
	"math"
	"slices"
	"testing"

	"loop.example/g00771/impl"
)

// waitsIn finds the Waits of an engine by the words of chapter 8.
func waitsIn(e impl.Engine) []impl.Wait {
	met := map[impl.Wait]bool{}
	for from, x := range e.Workers {
		for _, c := range e.Table.Cells {
			at := slices.IndexFunc(c.Lock.Waiters, func(h impl.Hold) bool { return h.Tid == from+1 })
			if at < 0 {
				continue
			}
			for _, h := range append(slices.Clone(c.Lock.Holders), c.Lock.Waiters[:at]...) {
				met[impl.Wait{From: from, To: h.Tid - 1}] = true
			}
			break
		}
		for to, other := range e.Workers {
			blocks := e.Gate == to && to != from || e.Gate == from && to != from && other.At < len(other.Progs) && other.Phase > 0
			if blocks && x.At < len(x.Progs) && x.Phase == 0 {
				met[impl.Wait{From: from, To: to}] = true
			}
		}
	}
	var list []impl.Wait
	for from := range e.Workers {
		for to := range e.Workers {
			if met[impl.Wait{From: from, To: to}] {
				list = append(list, impl.Wait{From: from, To: to})
			}
		}
	}
	return list
}

// enabledIn asks the model of chapter 6 which workers move.
func enabledIn(e impl.Engine) []int {
	var enabled []int
	for w := range e.Workers {
		if e.Picks < 4000 && modelOf(e).pick(w) {
			enabled = append(enabled, w)
		}
	}
	return enabled
}

func orderIn(e impl.Engine) bool {
	for w := range e.Workers {
		held, waits := placesOf(e.Table, w+1)
		for _, key := range waits {
			if slices.ContainsFunc(held, func(k int) bool { return k >= key }) {
				return false
			}
		}
	}
	return true
}

func cleanIn(e impl.Engine) bool {
	for _, c := range e.Table.Cells {
		for _, h := range append(slices.Clone(c.Lock.Holders), c.Lock.Waiters...) {
			if h.Tid > len(e.Workers) {
				return false
			}
			if w := e.Workers[h.Tid-1]; w.At >= len(w.Progs) || w.Phase == 0 {
				return false
			}
		}
	}
	return true
}

// ringIn follows the Waits through each worker in turn: whoever then leads to
// itself is in a ring.
func ringIn(list []impl.Wait) bool {
	leads := map[impl.Wait]bool{}
	var workers []int
	for _, x := range list {
		leads[x] = true
		workers = append(workers, x.From)
	}
	for _, through := range workers {
		for _, from := range workers {
			for _, to := range workers {
				if leads[impl.Wait{From: from, To: through}] && leads[impl.Wait{From: through, To: to}] {
					leads[impl.Wait{From: from, To: to}] = true
				}
			}
		}
	}
	return slices.ContainsFunc(workers, func(w int) bool { return leads[impl.Wait{From: w, To: w}] })
}

// depthIn takes all paths from w at once, as far as they lead.
func depthIn(list []impl.Wait, w int) int {
	if ringIn(list) {
		return -1
	}
	ends := map[int]bool{w: true}
	for n := 0; ; n++ {
		further := map[int]bool{}
		for _, x := range list {
			if ends[x.From] {
				further[x.To] = true
			}
		}
		if len(further) == 0 {
			return n
		}
		ends = further
	}
}

// checkGraph compares RingIn and DepthOf with the words of the chapter, and
// reports whether there is a ring.
func checkGraph(t *testing.T, list []impl.Wait, workers ...int) bool {
	t.Helper()
	ring := ringIn(list)
	if impl.RingIn(list) != ring {
		t.Fatalf("RingIn of %q is %v", waitText(list), !ring)
	}
	for _, w := range workers {
		if got, want := impl.DepthOf(list, w), depthIn(list, w); got != want {
			t.Fatalf("DepthOf %d in %q is %d instead of %d", w, waitText(list), got, want)
		}
	}
	return ring
}

// TestGraphsOfAll tries every set of Waits of three workers, and of four that
// do not wait for themselves, in both orders.
func TestGraphsOfAll(t *testing.T) {
	var three, four []impl.Wait
	for from := range 4 {
		for to := range 4 {
			if from < 3 && to < 3 {
				three = append(three, impl.Wait{From: from, To: to})
			}
			if from != to {
				four = append(four, impl.Wait{From: from, To: to})
			}
		}
	}
	for _, all := range [][]impl.Wait{three, four} {
		met := map[bool]int{}
		for set := range 1 << len(all) {
			var list []impl.Wait
			for i, x := range all {
				if set>>i&1 == 1 {
					list = append(list, x)
				}
			}
			met[checkGraph(t, list, 0, 1, 2, 3, 4)]++
			slices.Reverse(list)
			checkGraph(t, list, 0, 1, 2, 3, 4)
		}
		// There are 25 graphs without a cycle on three workers, and 543 on four.
		if want := map[int]int{9: 25, 12: 543}[len(all)]; met[false] != want {
			t.Errorf("of %d Waits %d sets have no ring", len(all), met[false])
		}
	}
}

// drawWaits mostly keeps to an order of the workers, which makes no ring.
func drawWaits(state *uint32) ([]impl.Wait, []int) {
	workers := []int{0, 1, 2, 3, -1, -2, 7, 100, 1 << 32, 1<<32 + 1, math.MinInt, math.MaxInt}
	for i := range workers {
		k := draw(state, i+1)
		workers[i], workers[k] = workers[k], workers[i]
	}
	workers = workers[:2+draw(state, 9)]
	upward := draw(state, 30)
	var list []impl.Wait
	for range draw(state, 3*len(workers)) {
		from, to := draw(state, len(workers)), draw(state, len(workers))
		if from > to && upward > 0 {
			from, to = to, from
		}
		if from == to && draw(state, 20) > 0 {
			continue
		}
		list = append(list, impl.Wait{From: workers[from], To: workers[to]})
	}
	return list, workers
}

func TestGraphsOfDrawn(t *testing.T) {
	state := uint32(31)
	rings, deepest := 0, 0
	for range 4000 {
		list, workers := drawWaits(&state)
		if checkGraph(t, list, append(workers, 5, 0, -1)...) {
			rings++
		}
		for _, w := range workers {
			deepest = max(deepest, impl.DepthOf(list, w))
		}
	}
	if rings < 300 || rings > 3700 || deepest < 7 {
		t.Errorf("%d rings, depth %d", rings, deepest)
	}
}

// A tally counts what engines show.
type tally map[string]int

func (n tally) note(name string, is bool) {
	if is {
		n[name]++
	}
}

func (n tally) atLeast(t *testing.T, least int, names ...string) {
	t.Helper()
	for _, name := range names {
		if n[name] < least {
			t.Errorf("%s: %d of all are less than %d", name, n[name], least)
		}
	}
}

// checkEngineWaits compares all functions of chapter 8 with its words.
func checkEngineWaits(t *testing.T, e impl.Engine) tally {
	t.Helper()
	waits, enabled := waitsIn(e), enabledIn(e)
	if got := impl.WaitsFor(e); !slices.Equal(got, waits) {
		t.Fatalf("WaitsFor is %v instead of %v: %v", got, waits, e)
	}
	if got := impl.EnabledOf(e); !slices.Equal(got, enabled) {
		t.Fatalf("EnabledOf is %v instead of %v: %v", got, enabled, e)
	}
	dead := len(enabled) == 0 && slices.ContainsFunc(e.Workers, func(w impl.Worker) bool { return w.At < len(w.Progs) })
	kept, clean := orderIn(e), cleanIn(e)
	if impl.DeadlockIn(e) != dead || impl.OrderKept(e) != kept || impl.LocksClean(e) != clean {
		t.Fatalf("DeadlockIn is %v, OrderKept %v, LocksClean %v: %v", !dead, !kept, !clean, e)
	}
	for w := -1; w <= 4; w++ {
		var behind []int
		for _, x := range waits {
			if x.From == w {
				behind = append(behind, x.To)
			}
		}
		if got := impl.BlockedBy(e, w); !slices.Equal(got, behind) {
			t.Fatalf("BlockedBy of %d is %v instead of %v: %v", w, got, behind, e)
		}
	}
	n := tally{}
	n.note("ring", checkGraph(t, waits, 0, 1, 2, 3))
	n.note("waits", len(waits) > 0)
	n.note("dead", dead)
	n.note("kept", kept)
	n.note("not kept", !kept)
	n.note("clean", clean)
	n.note("not clean", !clean)
	return n
}

func TestWaitsOfAll(t *testing.T) {
	state := uint32(32)
	all := tally{}
	for range 8000 {
		for name, n := range checkEngineWaits(t, drawEngine(&state)) {
			all[name] += n
		}
	}
	all.atLeast(t, 300, "waits", "kept", "not kept", "clean", "not clean")
	all.atLeast(t, 50, "ring", "dead")
}

// checkPromise7 looks at an engine to which some picks have led.
func checkPromise7(t *testing.T, e impl.Engine) []impl.Wait {
	t.Helper()
	waits, enabled := impl.WaitsFor(e), impl.EnabledOf(e)
	if impl.RingIn(waits) || ringIn(waits) {
		t.Fatalf("there is a cycle in %v: %v", waits, e)
	}
	if impl.DeadlockIn(e) || len(enabled) == 0 && !impl.AllDone(e) {
		t.Fatalf("nobody can move: %v", e)
	}
	if !impl.OrderKept(e) || !orderIn(e) || !impl.LocksClean(e) || !cleanIn(e) {
		t.Fatalf("OrderKept is %v, LocksClean %v: %v", impl.OrderKept(e), impl.LocksClean(e), e)
	}
	for i, w := range e.Workers {
		moves, blocked := slices.Contains(enabled, i), len(impl.BlockedBy(e, i)) > 0
		if done := w.At >= len(w.Progs); done && (moves || blocked) || !done && moves == blocked {
			t.Fatalf("worker %d moves %v, is blocked %v: %v", i, moves, blocked, e)
		}
		if depth := impl.DepthOf(waits, i); depth < 0 || depth > len(e.Workers)-1 || depth > 0 != blocked {
			t.Fatalf("worker %d has depth %d in %v", i, depth, waits)
		}
	}
	return waits
}

// notePlayed counts the Waits that a play has to meet to tell something.
func notePlayed(n tally, e impl.Engine, waits []impl.Wait) {
	for i, w := range e.Workers {
		n.note("depth 1", impl.DepthOf(waits, i) == 1)
		n.note("depth 2", impl.DepthOf(waits, i) == 2)
		n.note("depth 3", impl.DepthOf(waits, i) == 3)
		n.note("blocked by three", len(impl.BlockedBy(e, i)) == 3)
		held, at := placesOf(e.Table, i+1)
		n.note("waits and holds", len(held) > 0 && len(at) > 0)
		n.note("waits for the Gate", e.Gate >= 0 && e.Gate != i && w.Phase == 0 && w.At < len(w.Progs))
		n.note("the Gate waits", e.Gate == i && len(impl.BlockedBy(e, i)) > 0)
	}
	for _, c := range e.Table.Cells {
		n.note("waits behind a waiter", len(c.Lock.Waiters) > 1)
		n.note("waits for readers", len(c.Lock.Waiters) > 0 && len(c.Lock.Holders) > 1)
	}
}

// TestPromise7 looks at the Waits after every pick of drawn plays. Every other
// play has hot keys, which are locked in advance.
func TestPromise7(t *testing.T) {
	state := uint32(33)
	n := tally{}
	for i := range 300 {
		p := drawPlay(&state)
		if i%2 == 0 {
			p.s.Hot, p.s.Cool = 1+draw(&state, 2), 50+draw(&state, 51)
		}
		e, ok := impl.NewEngine(p.s, p.progs)
		if !ok {
			t.Fatalf("there is no engine of %v", p)
		}
		notePlayed(n, e, checkPromise7(t, e))
		for _, w := range p.picks {
			e, _ = impl.PickWorker(e, w)
			notePlayed(n, e, checkPromise7(t, e))
		}
	}
	n.atLeast(t, 100, "depth 1", "depth 2", "depth 3", "blocked by three", "waits and holds", "waits for the Gate", "the Gate waits", "waits behind a waiter", "waits for readers")
}

// TestPromise7Ends picks only workers that move: none of the plays ends before
// all are done, as long as programs that fail get their locks or the Gate.
func TestPromise7Ends(t *testing.T) {
	state := uint32(34)
	for range 150 {
		p := drawPlay(&state)
		if p.s.Age == 0 {
			p.s.Lists = true
		}
		e, _ := impl.NewEngine(p.s, p.progs)
		for !impl.AllDone(e) {
			checkPromise7(t, e)
			enabled := impl.EnabledOf(e)
			next, moved := impl.PickWorker(e, enabled[draw(&state, len(enabled))])
			if !moved || next.Picks >= 3900 {
				t.Fatalf("a worker does not move, or there is no end: %v", next)
			}
			e = next
		}
		checkPromise7(t, e)
		if len(impl.EnabledOf(e)) != 0 || len(impl.WaitsFor(e)) != 0 {
			t.Fatalf("somebody moves or waits at the end: %v", e)
		}
	}
}

// TestPromise7Schedules tries every schedule of small programs that lock the
// same keys in different orders of their acts.
func TestPromise7Schedules(t *testing.T) {
	crews := []string{
		"add 0 1; add 1 1 / add 1 2; add 0 2", "get 0; put 1 5 / get 1; put 0 6", "put 0 1; get 1 / put 1 1; get 0", "get 0; add 0 1 / put 0 7", "get 1; get 0; put 1 1 / put 1 2", "add 0 1, add 1 1 / add 1 1; add 0 5",
	}
	n := tally{}
	for _, progs := range crews {
		for _, s := range []string{"2 0 100 1 0", "2 0 100 0 1", "2 1 100 0 0", "2 1 100 1 1"} {
			e, ok := impl.NewEngine(setup(s), crew(progs))
			if !ok {
				t.Fatalf("there is no engine of %s", progs)
			}
			// Two hot keys make the workers wait from the start.
			e.Heat[0], e.Heat[1] = 9, 9
			allSchedules(e, 2, func(e impl.Engine) { notePlayed(n, e, checkPromise7(t, e)) })
		}
	}
	for _, progs := range []string{"get 0; put 1 1 / get 1; put 0 2 / put 0 3", "get 0 / get 0; get 1 / put 0 3", "get 1; get 0 / put 1 2; get 0 / get 0; put 1 3"} {
		three, _ := impl.NewEngine(setup("2 1 100 0 0"), crew(progs))
		three.Heat[0], three.Heat[1] = 9, 9
		allSchedules(three, 0, func(e impl.Engine) { notePlayed(n, e, checkPromise7(t, e)) })
	}
	n.atLeast(t, 10, "depth 1", "depth 2", "waits and holds", "waits for the Gate", "waits behind a waiter", "waits for readers")
}

// checkWaitsAlone asks for all that an engine tells. No list that is returned
// may share memory with it, nor with another.
func checkWaitsAlone(t *testing.T, e impl.Engine) {
	t.Helper()
	type told struct {
		Waits            []impl.Wait
		Enabled, Blocked []int
	}
	checkOwn(t, "a function of chapter 8", e, func(e impl.Engine) any {
		impl.DeadlockIn(e)
		impl.OrderKept(e)
		impl.LocksClean(e)
		impl.GateText(e)
		var all []told
		for w := range 4 {
			all = append(all, told{impl.WaitsFor(e), impl.EnabledOf(e), impl.BlockedBy(e, w)})
		}
		return all
	})
}

func TestWaitsAlone(t *testing.T) {
	state := uint32(35)
	checkWaitsAlone(t, engine(usedEngine))
	for range 300 {
		checkWaitsAlone(t, drawEngine(&state))
	}
	for range 60 {
		p := drawPlay(&state)
		p.picks = p.picks[:draw(&state, len(p.picks))]
		checkWaitsAlone(t, played(p))
	}
	for _, e := range badEngines() {
		checkWaitsAlone(t, e)
	}
	for range 300 {
		list, workers := drawWaits(&state)
		for _, w := range workers {
			checkOwn(t, "RingIn or DepthOf", list, func(list []impl.Wait) any {
				return fmt.Sprint(impl.RingIn(list), impl.DepthOf(list, w))
			})
		}
	}
}
