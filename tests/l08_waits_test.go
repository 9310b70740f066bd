package tests

import (
	"fmt"
	"math"
	"slices"
	"strings"
	"testing"

	"loop.example/g00771/impl"
)

// waitList reads Waits, such as "0>1 1>2".
func waitList(text string) []impl.Wait {
	var list []impl.Wait
	for _, item := range strings.Fields(text) {
		from, to, _ := strings.Cut(item, ">")
		list = append(list, impl.Wait{From: num(from), To: num(to)})
	}
	return list
}

func waitText(list []impl.Wait) string {
	var parts []string
	for _, x := range list {
		parts = append(parts, fmt.Sprintf("%d>%d", x.From, x.To))
	}
	return strings.Join(parts, " ")
}

// fourWorkers has four workers in phase 1, who execute programs of one act.
const fourWorkers = `w0 add 0 1 @ 0:1.0 0
	w1 add 0 1 @ 0:1.0 0
	w2 add 0 1 @ 0:1.0 0
	w3 add 0 1 @ 0:1.0 0
	`

// A waitCase is an engine, as lines that change fourWorkers, with its Waits.
type waitCase struct{ name, text, waits string }

func checkWaits(t *testing.T, cases []waitCase) {
	t.Helper()
	for _, c := range cases {
		e := engine(fourWorkers + c.text)
		if !impl.EngineOk(e) {
			t.Errorf("%s: EngineOk is false", c.name)
		}
		if got := waitText(impl.WaitsFor(e)); got != c.waits {
			t.Errorf("%s: WaitsFor is %q instead of %q", c.name, got, c.waits)
		}
		for _, w := range append(farNumbers, -2, -1, 0, 1, 2, 3, 4, 5, 1<<32) {
			var want []int
			for _, x := range waitList(c.waits) {
				if x.From == w {
					want = append(want, x.To)
				}
			}
			if got := impl.BlockedBy(e, w); !slices.Equal(got, want) {
				t.Errorf("%s: BlockedBy of %d is %v instead of %v", c.name, w, got, want)
			}
		}
	}
}

func TestWaitsAtLocks(t *testing.T) {
	checkWaits(t, []waitCase{
		{"nobody waits", "", ""},
		{"locks without waiters", "cells 0 0.0* 1w |, 0 0.0 1r 2r 3r 4r |", ""},
		{"a writer behind a writer", "cells 0 0.0* 1w | 2w, 0 0.0 |", "1>0"},
		{"a reader behind a writer", "cells 0 0.0* 4w | 1r, 0 0.0 |", "0>3"},
		{"a writer behind a reader", "cells 0 0.0 |, 0 0.0 3r | 2w", "1>2"},
		{"a writer behind readers", "cells 0 0.0 |, 0 0.0 1r 2r 4r | 3w", "2>0 2>1 2>3"},
		{"a reader behind a waiting writer", "cells 0 0.0 1r | 2w 3r, 0 0.0 |", "1>0 2>0 2>1"},
		{"behind another waiter", "cells 0 0.0* 1w | 2r 3r, 0 0.0 |", "1>0 2>0 2>1"},
		{"behind a greater waiter", "cells 0 0.0* 1w | 3r 2r, 0 0.0 |", "1>0 1>2 2>0"},
		{"three waiters", "cells 0 0.0* 2w | 4w 1r 3w, 0 0.0 |", "0>1 0>3 2>0 2>1 2>3 3>1"},
		{"three waiters in the other order", "cells 0 0.0* 2w | 3w 1r 4w, 0 0.0 |", "0>1 0>2 2>1 3>0 3>1 3>2"},
		{"waiters at two locks", "cells 0 0.0* 1w | 3r, 0 0.0* 2w | 4r", "2>0 3>1"},
		{"one holds where another waits", "cells 0 0.0* 1w | 2w, 0 0.0* 2w | 3w 4r", "1>0 2>1 3>1 3>2"},
		{"each waits for the other", "cells 0 0.0* 1w | 2w, 0 0.0* 2w | 1w", "0>1 1>0"},
		{"a Tid of nobody holds", "cells 0 0.0* 8w | 1w 2w, 0 0.0 |", "1>0"},
		{"Tids of nobody hold and wait", "cells 0 0.0 3r 5r 8r | 6w 2r 7r 1w, 0 0.0 |", "0>1 0>2 1>2"},
		{"a Tid of nobody waits", "cells 0 0.0* 1w | 5w, 0 0.0 |", ""},
		{"a Tid of nobody waits ahead", "cells 0 0.0* 1w | 5w 2r, 0 0.0 |", "1>0"},
		{"only Tids of nobody are ahead", "cells 0 0.0* 7w | 5w 6r 2r, 0 0.0 |", ""},
		{"at two locks, the least", "cells 0 0.0* 3w | 1r, 0 0.0* 2w | 1r", "0>2"},
		{"at two locks, both ahead of others", "cells 0 0.0 2r | 1w 4r, 0 0.0* 2w | 1r 3r", "0>1 2>0 2>1 3>0 3>1"},
		{"at the last of eight locks", "setup 8 0 100 0 0 \n cells 0 0.0 |, 0 0.0 |, 0 0.0 |, 0 0.0 |, 0 0.0 |, 0 0.0 |, 0 0.0 |, 0 0.0* 4w | 1w", "0>3"},
		{"a done worker waits", "cells 0 0.0* 1w | 2w, 0 0.0 | \n w1 get 0 @ 1:0.0 0", "1>0"},
		{"a done worker holds", "cells 0 0.0* 1w | 2w, 0 0.0 | \n w0 get 0 @ 1:0.0 0", "1>0"},
		{"done workers are ahead", "cells 0 0.0 1r | 3w 2w, 0 0.0 | \n w0 @ 0:0.0 0 \n w2 get 0 @ 7:4.2 0", "1>0 1>2 2>0"},
		{"what the waiter wants does not matter", "cells 0 0.0* 1w | 2w, 0 0.0 | \n w1 get 1 @ 0:1.0 0 wants 1r", "1>0"},
		{"after the last pick", "picks 4000 \n cells 0 0.0* 1w | 2w, 0 0.0 |", "1>0"},
	})
	var phases []waitCase
	for phase := range 6 {
		for _, at := range []string{"0", "1"} {
			worker := fmt.Sprintf(" get 0 @ %s:%d.0 0", at, phase)
			phases = append(phases, waitCase{"a waiter with" + worker, "cells 0 0.0* 1w | 2w, 0 0.0 | \n w1" + worker, "1>0"},
				waitCase{"a holder with" + worker, "cells 0 0.0* 1w | 2w, 0 0.0 | \n w0" + worker, "1>0"})
		}
	}
	checkWaits(t, phases)
}

// TestWaitsAtOneLock takes away the last workers: who remains waits as before,
// but not for those.
func TestWaitsAtOneLock(t *testing.T) {
	const text = "cells 0 0.0 2r 4r | 3w 1r, 0 0.0 |"
	for n, want := range []string{"", "", "0>1", "0>1 0>2 2>1", "0>1 0>2 0>3 2>1 2>3"} {
		e := engine(fourWorkers + text)
		e.Workers = e.Workers[:n]
		if got := waitText(impl.WaitsFor(e)); got != want {
			t.Errorf("WaitsFor with %d workers is %q", n, got)
		}
	}
}

func TestWaitsAtTheGate(t *testing.T) {
	begin := func(w int) string { return fmt.Sprintf("\n w%d get 0 @ 0:0.0 0", w) }
	checkWaits(t, []waitCase{
		{"no Gate", begin(0) + begin(2), ""},
		{"the Gate is another's", "gate 1" + begin(0), "0>1"},
		{"the Gate of worker 0", "gate 0" + begin(1) + begin(3), "1>0 3>0"},
		{"the Gate of worker 3", "gate 3" + begin(1) + begin(0), "0>3 1>3"},
		{"the Gate's worker has begun", "gate 1 \n w1 get 0 @ 0:2.0 0" + begin(0), "0>1"},
		{"the Gate's worker waits for those that have begun", "gate 1" + begin(1), "1>0 1>2 1>3"},
		{"those that have not begun wait for it", "gate 1" + begin(1) + begin(2), "1>0 1>3 2>1"},
		{"all have begun", "gate 1", ""},
		{"none has begun", "gate 2" + begin(0) + begin(1) + begin(2) + begin(3), "0>2 1>2 3>2"},
		{"the Gate's worker is done", "gate 1 \n w1 get 0 @ 1:0.0 0" + begin(0), "0>1"},
		{"the Gate's worker has no programs", "gate 1 \n w1 @ 0:0.0 0" + begin(3), "3>1"},
		{"a done worker does not wait for the Gate", "gate 1 \n w0 get 0 @ 1:0.0 0", ""},
		{"a done worker at its own Gate", "gate 0 \n w0 get 0 @ 1:0.0 0", ""},
		{"the Gate's worker does not wait for done ones", "gate 3 \n w0 get 0 @ 1:1.0 0 \n w2 get 0 @ 5:5.0 0" + begin(3), "3>1"},
		{"nor if all are done", "gate 3 \n w0 get 0 @ 1:1.0 0 \n w1 @ 0:3.0 0 \n w2 get 0 @ 5:5.0 0" + begin(3), ""},
		{"the lock is also the Gate's", "gate 1 \n cells 0 0.0* 2w | 1r, 0 0.0 |" + begin(0), "0>1"},
		{"the Gate before the lock", "gate 1 \n cells 0 0.0* 3w | 1r, 0 0.0 |" + begin(0), "0>1 0>2"},
		{"the lock before the Gate", "gate 2 \n cells 0 0.0* 2w | 1r, 0 0.0 |" + begin(0), "0>1 0>2"},
		{"the Gate between those at the lock", "gate 2 \n cells 0 0.0* 2w | 4r 1r, 0 0.0 |" + begin(0), "0>1 0>2 0>3 3>1"},
		{"the Gate's worker waits also at a lock", "gate 0 \n cells 0 0.0* 4w | 3r 1r, 0 0.0 | \n w3 get 0 @ 1:2.0 0" + begin(0), "0>1 0>2 0>3 2>3"},
		{"at a lock of those that have begun", "gate 0 \n cells 0 0.0* 2w | 1r, 0 0.0 | \n w3 @ 0:0.0 0" + begin(0), "0>1 0>2"},
		{"a ring of a lock and the Gate", "gate 1 \n cells 0 0.0* 1w | 2r, 0 0.0 |" + begin(0), "0>1 1>0"},
		{"failures and Lists do not matter", "setup 2 1 100 1 2 \n gate 1 \n heat 0=20 \n w0 get 0 @ 0:0.0 9", "0>1"},
		{"no Gate, with failures", "setup 2 0 100 0 2 \n w0 get 0 @ 0:0.0 9", ""},
	})
	var phases []waitCase
	for phase := range 6 {
		for _, at := range []string{"0", "1"} {
			worker := fmt.Sprintf(" get 0 @ %s:%d.0 3", at, phase)
			behind, ahead, self := "", "1>2 1>3", ""
			if at == "0" && phase == 0 {
				behind, self = "0>1", "0>1 0>2 0>3"
			} else if at == "0" {
				ahead = "1>0 1>2 1>3"
			}
			phases = append(phases, waitCase{"another's Gate with" + worker, "gate 1 \n w0" + worker, behind},
				waitCase{"before the Gate's worker with" + worker, "gate 1 \n w0" + worker + begin(1), strings.TrimSpace(behind + " " + ahead)},
				waitCase{"its own Gate with" + worker, "gate 0 \n w0" + worker, self},
				waitCase{"no Gate with" + worker, "w0" + worker, ""})
		}
	}
	checkWaits(t, phases)
}

func TestWaitsOfFew(t *testing.T) {
	for _, text := range []string{"", "cells 0 0.0* 1w | 2w, 0 0.0 |", "w0 get 0 @ 0:0.0 0", "gate 0 \n w0 get 0 @ 0:0.0 0", "gate 0 \n w0 get 0 @ 0:3.0 0", "cells 0 0.0* 2w | 1w, 0 0.0 | \n w0 get 0 @ 0:1.0 0 wants 0r"} {
		if got := impl.WaitsFor(engine(text)); len(got) != 0 {
			t.Errorf("WaitsFor is %v with %q", got, text)
		}
		if got := impl.BlockedBy(engine(text), 0); len(got) != 0 {
			t.Errorf("BlockedBy is %v with %q", got, text)
		}
	}
}

func TestRings(t *testing.T) {
	far := fmt.Sprint(math.MinInt, ">", math.MaxInt, " ", math.MaxInt, ">", "-1 -1>", math.MinInt)
	cases := []struct {
		waits string
		ring  bool
	}{
		{"", false}, {"0>1", false}, {"1>0", false}, {"0>0", true}, {"0>1 1>0", true}, {"1>0 0>1", true}, {"0>1 0>1", false}, {"0>1 1>2 0>2", false}, {"0>2 1>2 0>1", false}, {"0>1 1>2 2>0", true}, {"2>0 1>2 0>1", true},
		{"0>1 1>1", true}, {"1>1 0>1", true}, {"0>1 2>2", true}, {"0>1 2>3 3>2", true}, {"0>1 0>2 1>3 2>3", false}, {"0>1 0>2 1>3 2>3 3>0", true}, {"0>1 0>2 1>3 2>3 3>4 4>1", true}, {"3>2 2>1 1>0", false}, {"0>1 1>2 2>3 3>1", true},
		{"0>1 1>2 3>4 4>5 5>3", true}, {"0>1 2>1 3>1 4>1", false}, {"0>1 0>2 0>3 0>4", false}, {"0>1 0>2 0>3 3>0", true}, {"0>3 0>2 0>1 3>0", true}, {"0>1 0>1 1>0", true}, {"0>1 1>2 2>3 0>2 1>3 0>3", false},
		{"0>1 2>0 1>3 3>4", false}, {"4>5 0>1 5>0 1>4", true}, {"1>0 2>1 0>3 3>2", true}, {"0>2 2>4 1>2 4>3 3>5 5>6", false}, {"0>2 2>4 1>2 4>3 3>5 5>2", true},
		{"-1>-2 -2>-1", true}, {"-1>1 1>-2", false}, {"-5>-5", true}, {"100>4294967396", false}, {"0>4294967296", false}, {"4294967296>0 0>4294967297", false}, {"1>4294967297 4294967297>1", true}, {"-1>4294967295 -4294967296>0", false},
		{far, true}, {strings.TrimSuffix(far, fmt.Sprint(math.MinInt)) + "0", false}, {fmt.Sprint(math.MinInt, ">", math.MinInt), true}, {fmt.Sprint(math.MaxInt, ">", math.MinInt), false},
	}
	for _, c := range cases {
		list := waitList(c.waits)
		for range list {
			if got := impl.RingIn(list); got != c.ring {
				t.Errorf("RingIn of %q is %v", waitText(list), got)
			}
			if got := impl.DepthOf(list, list[0].From); (got == -1) != c.ring {
				t.Errorf("DepthOf of %q is %d", waitText(list), got)
			}
			list = append(list[1:], list[0])
		}
	}
	if impl.RingIn(nil) || impl.RingIn([]impl.Wait{}) {
		t.Error("RingIn of no Waits is true")
	}
}

func TestDepthOf(t *testing.T) {
	cases := []struct {
		waits  string
		depths map[int]int
	}{
		{"", map[int]int{0: 0, 1: 0, -1: 0, math.MaxInt: 0, math.MinInt: 0}},
		{"0>1", map[int]int{0: 1, 1: 0, 2: 0, -1: 0}},
		{"0>1 0>1 0>1", map[int]int{0: 1, 1: 0}},
		{"0>1 1>2 0>2", map[int]int{0: 2, 1: 1, 2: 0, 3: 0}},
		{"0>2 0>1 1>2", map[int]int{0: 2, 1: 1, 2: 0}},
		{"1>2 2>3 0>1 0>3", map[int]int{0: 3, 1: 2, 2: 1, 3: 0}},
		{"0>1 0>2 0>3 0>4", map[int]int{0: 1, 1: 0, 4: 0}},
		{"0>3 1>3 2>3", map[int]int{0: 1, 1: 1, 2: 1, 3: 0}},
		{"0>1 1>2 2>3 0>4 4>3", map[int]int{0: 3, 1: 2, 4: 1}},
		{"0>4 4>3 0>1 1>2 2>3", map[int]int{0: 3, 1: 2, 4: 1}},
		{"0>1 0>2 1>3 2>3 3>4 3>5 4>6 5>6 6>7", map[int]int{0: 5, 1: 4, 2: 4, 3: 3, 5: 2, 6: 1, 7: 0}},
		{"5>9 0>1 5>0 1>2", map[int]int{5: 3, 0: 2, 1: 1, 9: 0}},
		{"0>1 2>3 3>4 4>5", map[int]int{0: 1, 2: 3, 5: 0}},
		{"0>5 5>6 1>5 2>1", map[int]int{0: 2, 1: 2, 2: 3, 5: 1}},
		// A ring counts wherever it is.
		{"0>0", map[int]int{0: -1, 1: -1, -7: -1}}, {"0>1 1>0", map[int]int{0: -1, 1: -1, 2: -1}}, {"0>1 2>3 3>2", map[int]int{0: -1, 1: -1, 2: -1, 9: -1, math.MinInt: -1}}, {"2>3 3>2 0>1", map[int]int{0: -1, 1: -1, 5: -1}},
		{"0>1 1>2 2>1", map[int]int{0: -1, 1: -1, 3: -1}}, {"1>2 2>1 2>0", map[int]int{0: -1, 4: -1}},
		{"-1>-2 -2>4294967297 4294967297>9223372036854775807", map[int]int{-1: 3, -2: 2, 1 << 32: 0, 1<<32 + 1: 1, 1: 0, 0: 0, math.MaxInt: 0}},
		{"9223372036854775807>-9223372036854775808 0>9223372036854775807", map[int]int{0: 2, math.MaxInt: 1, math.MinInt: 0, -1: 0}},
	}
	for _, c := range cases {
		for w, want := range c.depths {
			if got := impl.DepthOf(waitList(c.waits), w); got != want {
				t.Errorf("DepthOf %d in %q is %d", w, c.waits, got)
			}
		}
	}
}

// checkDepths asks for the depths with the list in both orders.
func checkDepths(t *testing.T, name string, list []impl.Wait, depths map[int]int) {
	t.Helper()
	for range 2 {
		if impl.RingIn(list) {
			t.Errorf("%s: RingIn is true", name)
		}
		for w, want := range depths {
			if got := impl.DepthOf(list, w); got != want {
				t.Errorf("%s: DepthOf %d is %d", name, w, got)
			}
		}
		slices.Reverse(list)
	}
}

func checkRing(t *testing.T, name string, list []impl.Wait) {
	t.Helper()
	for range 2 {
		if !impl.RingIn(list) || impl.DepthOf(list, 0) != -1 || impl.DepthOf(list, -9) != -1 {
			t.Errorf("%s: RingIn is %v, DepthOf %d", name, impl.RingIn(list), impl.DepthOf(list, 0))
		}
		slices.Reverse(list)
	}
}

// TestManyPaths has so many paths that nobody can follow each of them.
func TestManyPaths(t *testing.T) {
	var diamonds, each []impl.Wait
	for i := range 100 {
		for side := 1; side <= 2; side++ {
			diamonds = append(diamonds, impl.Wait{From: 3 * i, To: 3*i + side}, impl.Wait{From: 3*i + side, To: 3*i + 3})
		}
	}
	checkDepths(t, "diamonds", diamonds, map[int]int{0: 200, 3: 198, 1: 199, 2: 199, 150: 100, 300: 0, 301: 0, -3: 0})
	checkRing(t, "diamonds and a ring", append(slices.Clone(diamonds), impl.Wait{From: 300, To: 0}))
	checkRing(t, "diamonds and a ring at the end", append(slices.Clone(diamonds), impl.Wait{From: 300, To: 299}))
	checkRing(t, "diamonds and a ring elsewhere", append(slices.Clone(diamonds), impl.Wait{From: 500, To: 501}, impl.Wait{From: 501, To: 500}))
	for from := range 200 {
		for to := from + 1; to < 200; to++ {
			each = append(each, impl.Wait{From: from, To: to})
		}
	}
	checkDepths(t, "each waits for all that are greater", each, map[int]int{0: 199, 1: 198, 100: 99, 198: 1, 199: 0, 200: 0})
	checkRing(t, "each waits for all", append(slices.Clone(each), impl.Wait{From: 199, To: 0}))
}

func TestLongWaits(t *testing.T) {
	for _, n := range []int{2, 60, 61, 300, 301, 4000, 100000} {
		var chain, star, sink, same []impl.Wait
		for i := range n {
			chain = append(chain, impl.Wait{From: i, To: i + 1})
			star = append(star, impl.Wait{From: -1, To: i})
			sink = append(sink, impl.Wait{From: i, To: -1})
			same = append(same, impl.Wait{From: 3, To: 2})
		}
		checkDepths(t, "a chain", chain, map[int]int{0: n, 1: n - 1, n / 2: n - n/2, n - 1: 1, n: 0, n + 1: 0, -1: 0})
		checkDepths(t, "a star", star, map[int]int{-1: 1, 0: 0, n - 1: 0})
		checkDepths(t, "a sink", sink, map[int]int{0: 1, n - 1: 1, -1: 0})
		checkDepths(t, "the same Wait", same, map[int]int{3: 1, 2: 0, 0: 0})
		checkRing(t, "one ring", append(slices.Clone(chain), impl.Wait{From: n, To: 0}))
		checkRing(t, "a ring at the end", append(slices.Clone(chain), impl.Wait{From: n, To: n - 1}))
		checkRing(t, "a ring of one at the end", append(slices.Clone(chain), impl.Wait{From: n, To: n}))
		checkRing(t, "a star with a ring", append(slices.Clone(star), impl.Wait{From: n - 1, To: -1}))
		checkRing(t, "a sink with a ring", append(slices.Clone(sink), impl.Wait{From: -1, To: n - 1}))
		checkRing(t, "the same Wait and its reverse", append(slices.Clone(same), impl.Wait{From: 2, To: 3}))
	}
}

func TestEnabledOf(t *testing.T) {
	cases := []struct {
		text    string
		enabled []int
	}{
		{"", []int{0, 1, 2, 3}},
		{"w0 get 0 @ 1:1.0 0", []int{1, 2, 3}}, {"w0 get 0 @ 0:0.0 0", []int{0, 1, 2, 3}}, {"w1 @ 0:0.0 0 \n w2 get 0 @ 9:2.0 0", []int{0, 3}},
		{"w0 @ 0:0.0 0 \n w1 @ 0:0.0 0 \n w2 @ 0:0.0 0 \n w3 @ 0:0.0 0", nil},
		// Whoever asks for a lock moves, even if it then waits; later it does not.
		{"cells 0 0.0* 3w |, 0 0.0 | \n w0 add 0 1 @ 0:1.0 0 wants 0w", []int{0, 1, 2, 3}},
		{"cells 0 0.0* 3w | 1w, 0 0.0 | \n w0 add 0 1 @ 0:1.0 0 wants 0w", []int{1, 2, 3}},
		{"cells 0 0.0* 3w | 2w 1w, 0 0.0 | \n w0 add 0 1 @ 0:1.0 0 wants 0w \n w1 add 0 1 @ 0:1.0 0 wants 0w", []int{2, 3}},
		{"cells 0 0.0* 1w | 2w, 0 0.0 | \n w0 add 0 1 @ 0:1.0 0 wants 0w", []int{0, 1, 2, 3}},
		// A failure moves as well.
		{"cells 0 0.0* 3w |, 0 0.0 | \n w0 get 0 @ 0:2.0 0 \n w1 put 0 1 @ 0:3.0 0 puts 0=1", []int{0, 1, 2, 3}},
		{"w0 get 0 @ 0:4.0 0 reads 0=0@9.9 \n w1 get 0 @ 0:5.0 0 \n w2 get 0 @ 0:2.0 0 \n w3 get 0 @ 0:3.0 0", []int{0, 1, 2, 3}},
		{"gate 1 \n w0 get 0 @ 0:0.0 0", []int{1, 2, 3}}, {"gate 1 \n w0 get 0 @ 0:0.0 0 \n w1 get 0 @ 0:0.0 0", []int{2, 3}},
		{"gate 1 \n w0 get 0 @ 0:0.0 0 \n w1 get 0 @ 0:0.0 0 \n w2 @ 0:1.0 0 \n w3 get 0 @ 0:0.0 0", []int{1}},
		{"gate 1 \n w0 get 0 @ 0:0.0 0 \n w1 @ 0:0.0 0 \n w2 @ 0:1.0 0 \n w3 get 0 @ 0:0.0 0", nil},
		{"picks 3999", []int{0, 1, 2, 3}}, {"picks 4000", nil}, {"picks 9223372036854775807", nil},
	}
	for _, c := range cases {
		e := engine(fourWorkers + c.text)
		if got := impl.EnabledOf(e); !impl.EngineOk(e) || !slices.Equal(got, c.enabled) {
			t.Errorf("EnabledOf is %v with %q", got, c.text)
		}
	}
	if got := impl.EnabledOf(engine("")); len(got) != 0 {
		t.Errorf("EnabledOf is %v without workers", got)
	}
}

func TestDeadlockIn(t *testing.T) {
	const two = "w0 add 0 1; add 1 1 @ 0:1.0 0 wants 0w 1w \n w1 add 0 1; add 1 1 @ 0:1.0 0 wants 0w 1w \n"
	cases := []struct {
		text     string
		deadlock bool
	}{
		{"", false}, {"w0 @ 0:0.0 0", false}, {"w0 get 0 @ 1:0.0 0 \n w1 get 0 @ 1:0.0 0", false}, {"w0 get 0 @ 0:0.0 0", false}, {two, false},
		{two + "cells 0 0.0* 1w | 2w, 0 0.0* 2w | 1w", true}, {two + "cells 0 0.0* 1w | 2w, 0 0.0 |", false}, {two + "cells 0 0.0* 1w | 2w, 0 0.0* 2w | 1w \n w2 get 0 @ 1:0.0 0", true},
		{two + "cells 0 0.0* 1w | 2w, 0 0.0* 2w | 1w \n w2 get 0 @ 0:0.0 0", false}, {two + "cells 0 0.0* 1w | 2w, 0 0.0* 2w | 1w \n w2 get 0 @ 0:0.0 0 \n gate 1", true},
		// Not every deadlock is a ring: nobody picks a Tid without a worker, or a
		// worker that is done.
		{two + "cells 0 0.0* 8w | 1w 2w, 0 0.0 |", true}, {two + "cells 0 0.0* 3w | 1w 2w, 0 0.0 | \n w2 get 0 @ 1:0.0 0", true}, {two + "cells 0 0.0* 3w | 1w 2w, 0 0.0 | \n w2 get 0 @ 0:2.0 0", false},
		{"gate 1 \n w0 get 0 @ 0:0.0 0 \n w1 get 0 @ 1:0.0 0", true}, {"gate 1 \n w0 get 0 @ 0:0.0 0 \n w1 get 0 @ 0:0.0 0", false}, {"gate 1 \n w0 get 0 @ 1:0.0 0 \n w1 get 0 @ 1:0.0 0", false}, {"gate 0 \n w0 get 0 @ 0:0.0 0 \n w1 @ 0:4.0 0", false},
		{two + "picks 3999", false}, {two + "picks 4000", true}, {"w0 get 0 @ 1:0.0 0 \n picks 4000", false}, {"picks 4000", false},
	}
	for _, c := range cases {
		e := engine(c.text)
		if got := impl.DeadlockIn(e); !impl.EngineOk(e) || got != c.deadlock {
			t.Errorf("DeadlockIn is %v with %q", got, c.text)
		}
	}
}

func TestOrderKept(t *testing.T) {
	cases := []struct {
		cells string
		kept  bool
	}{
		{"0 0.0 |, 0 0.0 |, 0 0.0 |", true}, {"0 0.0* 1w |, 0 0.0 1r |, 0 0.0* 1w |", true}, {"0 0.0* 2w | 1w, 0 0.0 |, 0 0.0 |", true},
		{"0 0.0* 1w |, 0 0.0* 2w | 1w, 0 0.0 |", true}, {"0 0.0* 2w | 1w, 0 0.0* 1w |, 0 0.0 |", false}, {"0 0.0 1r |, 0 0.0* 2w | 1r, 0 0.0 |", true}, {"0 0.0* 2w | 1r, 0 0.0 1r |, 0 0.0 |", false},
		{"0 0.0 1r |, 0 0.0 1r 2r |, 0 0.0* 2w | 1r", true}, {"0 0.0 1r |, 0 0.0* 2w | 1r, 0 0.0 1r |", false}, {"0 0.0* 2w | 1r, 0 0.0 |, 0 0.0 1r |", false}, {"0 0.0 |, 0 0.0* 2w | 3r 1r, 0 0.0* 1w | 2r", false},
		{"0 0.0* 2w | 1w, 0 0.0 2r | 1w, 0 0.0 |", true}, {"0 0.0* 2w | 1w, 0 0.0* 1w | 2w, 0 0.0 |", false}, {"0 0.0* 1w | 2w, 0 0.0* 2w | 1w, 0 0.0 |", false},
		// Of two locks at which somebody waits both count.
		{"0 0.0 1r |, 0 0.0* 2w | 1r, 0 0.0 2r | 1w", true}, {"0 0.0* 2w | 1r, 0 0.0 1r |, 0 0.0 2r | 1w", false}, {"0 0.0* 2w | 1r, 0 0.0 2r | 1w, 0 0.0 1r |", false},
		// Workers count that are done, but no Tids without a worker.
		{"0 0.0* 1w | 4w, 0 0.0* 4w |, 0 0.0 |", false}, {"0 0.0* 4w |, 0 0.0* 1w | 4w, 0 0.0 |", true}, {"0 0.0* 1w | 5w, 0 0.0* 5w |, 0 0.0 |", true}, {"0 0.0* 8w | 7w, 0 0.0* 7w | 8w, 0 0.0 |", true}, {"0 0.0* 8w | 3w, 0 0.0* 3w | 8w, 0 0.0 |", false},
	}
	for phase := range 6 {
		for at := range 2 {
			e := engine(fmt.Sprintf("setup 3 0 100 0 0 \n %s w3 get 0 @ %d:%d.0 0", fourWorkers, at, phase))
			for _, c := range cases {
				e.Table = table(c.cells)
				if got := impl.OrderKept(e); !impl.EngineOk(e) || got != c.kept {
					t.Errorf("OrderKept is %v with %q, phase %d", got, c.cells, phase)
				}
			}
		}
	}
	if !impl.OrderKept(engine("")) || !impl.OrderKept(engine("cells 0 0.0* 2w | 1w, 0 0.0* 1w | 2w")) {
		t.Error("OrderKept is false without workers")
	}
}

func TestLocksClean(t *testing.T) {
	tables := []string{"0 0.0* 2w |, 0 0.0 |", "0 0.0 |, 0 0.0 2r |", "0 0.0* 1w | 2r, 0 0.0 |", "0 0.0 |, 0 0.0 1r 3r | 4w 2r", "0 0.0* 2w | 1r, 0 0.0 1r | 2w", "0 0.0 1r 2r 3r |, 0 0.0 |"}
	for phase := range 6 {
		for at := range 2 {
			e := engine(fmt.Sprintf("%s w1 get 0 @ %d:%d.0 0", fourWorkers, at, phase))
			if !impl.LocksClean(e) {
				t.Errorf("LocksClean is false without locks, phase %d", phase)
			}
			for _, text := range tables {
				e.Table = table(text)
				if got := impl.LocksClean(e); !impl.EngineOk(e) || got != (at == 0 && phase > 0) {
					t.Errorf("LocksClean is %v with %q, At %d and phase %d", got, text, at, phase)
				}
			}
		}
	}
	for n := range 5 {
		for tid := 1; tid <= impl.MaxTids; tid++ {
			other := 1 + tid%impl.MaxTids
			tids := strings.NewReplacer("A", fmt.Sprint(tid), "B", fmt.Sprint(other))
			for _, text := range []string{"0 0.0 Ar |, 0 0.0 |", "0 0.0 |, 0 0.0* Aw |", "0 0.0 |, 0 0.0* Bw | Ar", "0 0.0 |, 0 0.0 Br | Aw"} {
				e := engine(fourWorkers)
				e.Workers = e.Workers[:n]
				e.Table = table(tids.Replace(text))
				want := tid <= n && (other <= n || !strings.Contains(text, "B"))
				if got := impl.LocksClean(e); !impl.EngineOk(e) || got != want {
					t.Errorf("LocksClean is %v with %q and %d workers", got, tids.Replace(text), n)
				}
			}
		}
	}
	if !impl.LocksClean(engine("")) {
		t.Error("LocksClean is false without workers and locks")
	}
	last := engine("setup 8 0 100 0 0 \n" + fourWorkers + "w3 get 0 @ 0:0.0 0")
	for key := range 8 {
		last.Table.Cells = make([]impl.Cell, 8)
		for tid, want := range []bool{true, true, true, false, false, false, false, false} {
			last.Table.Cells[key] = cell(fmt.Sprintf("0 0.0 %dr |", tid+1))
			if got := impl.LocksClean(last); got != want {
				t.Errorf("LocksClean is %v with Tid %d at key %d", got, tid+1, key)
			}
		}
	}
}

func TestGateText(t *testing.T) {
	cases := []struct {
		gate int
		text string
	}{
		{-1, "open"}, {0, "w0"}, {1, "w1"}, {2, "w2"}, {3, "w3"}, {4, "w4"}, {10, "w10"}, {-2, "w-2"}, {-10, "w-10"}, {1 << 32, "w4294967296"}, {1<<32 - 1, "w4294967295"}, {math.MaxInt, "w9223372036854775807"}, {math.MinInt, "w-9223372036854775808"},
	}
	for _, c := range cases {
		e := engine(fourWorkers)
		e.Gate = c.gate
		if got := impl.GateText(e); got != c.text {
			t.Errorf("GateText with Gate %d is %q", c.gate, got)
		}
		if got := impl.GateText(impl.Engine{Gate: c.gate, Picks: -1}); got != c.text {
			t.Errorf("GateText of an engine that is not valid, with Gate %d, is %q", c.gate, got)
		}
	}
}

// stuckEngine is clean, but waits for a worker that is done.
const stuckEngine = `setup 3 4 20 1 3
	gate 2
	w0 add 0 5; get 2, get 1 @ 0:0.0 0
	w1 get 0, put 1 1 @ 1:0.0 1
	w2 get 1, put 1 6 @ 2:0.0 0`

func TestWaitsOfInvalidEngines(t *testing.T) {
	used, stuck := engine(usedEngine), engine(stuckEngine)
	if waitText(impl.WaitsFor(used)) != "1>0" || !slices.Equal(impl.EnabledOf(used), []int{0}) || !impl.OrderKept(used) {
		t.Error("the used engine does not wait or cannot move")
	}
	if waitText(impl.WaitsFor(stuck)) != "0>2 1>2" || !impl.DeadlockIn(stuck) || !impl.OrderKept(stuck) || !impl.LocksClean(stuck) {
		t.Error("the stuck engine is not stuck or not clean")
	}
	for _, e := range append(brokenEngines(usedEngine), brokenEngines(stuckEngine)...) {
		if len(impl.WaitsFor(e)) != 0 || len(impl.EnabledOf(e)) != 0 {
			t.Fatalf("WaitsFor is %v, EnabledOf %v: %v", impl.WaitsFor(e), impl.EnabledOf(e), e)
		}
		if impl.DeadlockIn(e) || impl.OrderKept(e) || impl.LocksClean(e) {
			t.Fatalf("DeadlockIn is %v, OrderKept %v, LocksClean %v: %v", impl.DeadlockIn(e), impl.OrderKept(e), impl.LocksClean(e), e)
		}
		for _, w := range append(farNumbers, -1, 0, 1, 2, 3, 4) {
			if got := impl.BlockedBy(e, w); len(got) != 0 {
				t.Fatalf("BlockedBy of %d is %v: %v", w, got, e)
			}
		}
		if want := map[bool]string{true: "open", false: "w" + fmt.Sprint(e.Gate)}[e.Gate == -1]; impl.GateText(e) != want {
			t.Fatalf("GateText is %q: %v", impl.GateText(e), e)
		}
	}
}
