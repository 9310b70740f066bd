package tests

import (
	"cmp"
	"fmt"
	"slices"
	"testing"

	"loop.example/g00771/impl"
)

// A story is a log with the programs that its commits name.
type story struct {
	Progs [][][]impl.Act
	Log   []impl.Commit
}

func sortedById(log []impl.Commit) []impl.Commit {
	order := slices.Clone(log)
	slices.SortStableFunc(order, func(a, b impl.Commit) int { return cmp.Compare(a.Id, b.Id) })
	return order
}

// programIn returns the program of a commit, or nil if there is none.
func programIn(progs [][][]impl.Act, c impl.Commit) []impl.Act {
	for w, list := range progs {
		for at, p := range list {
			if w == c.Worker && at == c.At && impl.ProgOk(p) {
				return p
			}
		}
	}
	return nil
}

// hasAct reports whether p has an act on key, of Kind 1 or 2 if write is true.
func hasAct(p []impl.Act, key int, write bool) bool {
	return slices.ContainsFunc(p, func(a impl.Act) bool { return a.Key == key && (a.Kind > 0 || !write) })
}

// replayed executes a log by the words of chapter 7, act by act.
func replayed(keys int, s story) ([]int, bool) {
	if keys < 1 || keys > 8 || len(s.Log) > 300 {
		return nil, false
	}
	values := make([]int, keys)
	for _, c := range sortedById(s.Log) {
		p := programIn(s.Progs, c)
		if p == nil || slices.ContainsFunc(p, func(a impl.Act) bool { return a.Key >= keys }) {
			return nil, false
		}
		told := ""
		for _, a := range p {
			switch a.Kind {
			case 0:
				told += fmt.Sprint(values[a.Key], " ")
			case 1:
				values[a.Key] = a.N
			case 2:
				values[a.Key] = max(-1000000, min(1000000, values[a.Key]+a.N))
			}
		}
		for key := range keys {
			if hasAct(p, key, true) {
				told += fmt.Sprint(key, "=", values[key], " ")
			}
		}
		claimed := ""
		for _, x := range c.Got {
			claimed += fmt.Sprint(x, " ")
		}
		for _, put := range c.Puts {
			claimed += fmt.Sprint(put.Key, "=", put.Value, " ")
		}
		if told != claimed {
			return nil, false
		}
	}
	return values, true
}

// isSerial is SerialOk by the words of chapter 7.
func isSerial(e impl.Engine) bool {
	s := story{Log: e.Log}
	installed := map[int]int{}
	for key, c := range e.Table.Cells {
		installed[key] = c.Value
	}
	for _, w := range e.Workers {
		s.Progs = append(s.Progs, w.Progs)
		for _, p := range w.Puts {
			if _, exists := installed[p.Key]; exists && w.Phase == 5 {
				installed[p.Key] = p.Value
			}
		}
	}
	values, ok := replayed(len(e.Table.Cells), s)
	for key, x := range values {
		ok = ok && x == installed[key]
	}
	return ok && len(values) == len(installed)
}

func checkedSerialOk(t *testing.T, e impl.Engine) bool {
	t.Helper()
	ok := impl.SerialOk(e)
	if ok != isSerial(e) {
		t.Fatalf("SerialOk(%v) is %v", e, ok)
	}
	return ok
}

// played returns the engine after the picks.
func played(p play) impl.Engine {
	e, _, ok := impl.PlayPicks(p.s, p.progs, p.picks)
	if !ok {
		panic("no engine")
	}
	return e
}

func storyOf(e impl.Engine) story {
	s := story{Log: e.Log}
	for _, w := range e.Workers {
		s.Progs = append(s.Progs, w.Progs)
	}
	return s
}

// drawStory returns a log that no engine would write, of programs that exist.
func drawStory(state *uint32) story {
	var s story
	keys := 1 + draw(state, 8)
	for range 1 + draw(state, 5) {
		s.Progs = append(s.Progs, append(drawProgs(state, keys, 5), drawProg(state, keys)))
	}
	for range draw(state, 13) * draw(state, 6) {
		c := impl.Commit{Worker: draw(state, len(s.Progs)), Id: draw(state, 70) - 5, Tries: draw(state, 4)}
		c.At = draw(state, len(s.Progs[c.Worker]))
		if draw(state, 50) == 0 {
			c.Tries = 300 - draw(state, 3)
		}
		s.Log = append(s.Log, c)
	}
	return s
}

// checkClashes looks for every Clash that has to be there, and at each of
// those that are.
func checkClashes(t *testing.T, s story) int {
	t.Helper()
	clashes := impl.ClashesOf(s.Progs, s.Log)
	order := impl.LogOrder(s.Log)
	for _, c := range clashes {
		if c.From < 0 || c.From >= c.To || c.To >= len(order) {
			t.Fatalf("%v has indices that are no indices of %v or not ascending", c, order)
		}
		p, q := programIn(s.Progs, order[c.From]), programIn(s.Progs, order[c.To])
		if !hasAct(p, c.Key, false) || !hasAct(q, c.Key, false) || !hasAct(p, c.Key, true) && !hasAct(q, c.Key, true) {
			t.Fatalf("%v is no clash of %v and %v", c, p, q)
		}
	}
	var want []impl.Clash
	order = sortedById(s.Log)
	for from := range order {
		for to := from + 1; to < len(order) && len(order) <= 60; to++ {
			for key := range 8 {
				p, q := programIn(s.Progs, order[from]), programIn(s.Progs, order[to])
				if hasAct(p, key, true) && hasAct(q, key, false) || hasAct(p, key, false) && hasAct(q, key, true) {
					want = append(want, impl.Clash{From: from, To: to, Key: key})
				}
			}
		}
	}
	if !slices.Equal(clashes, want) {
		t.Fatalf("ClashesOf(%v) = %v instead of %v", s, clashes, want)
	}
	return len(clashes)
}

// checkTries counts every commit once.
func checkTries(t *testing.T, log []impl.Commit) {
	t.Helper()
	counts := impl.TriesOf(log)
	sum := 0
	for tries, n := range counts {
		sum += n
		for _, c := range log {
			if c.Tries == tries {
				n--
			}
		}
		if n != 0 {
			t.Fatalf("TriesOf(%v) = %v", log, counts)
		}
	}
	if sum != len(log) || len(counts) > 0 && counts[len(counts)-1] == 0 {
		t.Fatalf("TriesOf(%v) = %v", log, counts)
	}
}

func TestPromise11(t *testing.T) {
	state := uint32(22)
	clashes, longest, most := 0, 0, 0
	for i := range 400 {
		s := drawStory(&state)
		if i%2 == 0 {
			s = storyOf(played(drawPlay(&state)))
			longest = max(longest, len(s.Log))
			most = max(most, len(impl.TriesOf(s.Log)))
		}
		clashes += checkClashes(t, s)
		checkTries(t, s.Log)
	}
	if clashes < 10000 || longest < 20 || most < 4 {
		t.Errorf("%d clashes, at most %d commits, at most %d numbers of failures", clashes, longest, most)
	}
}

// TestPromise6Histories asks the functions of chapter 7 about the engine after
// every pick.
func TestPromise6Histories(t *testing.T) {
	state := uint32(23)
	installing, committed := 0, 0
	for range 200 {
		p := drawPlay(&state)
		e, ok := impl.NewEngine(p.s, p.progs)
		for i := 0; ok; i++ {
			if !impl.SerialOk(e) || !impl.IdsOk(e.Log) || !impl.OncePer(e.Log) {
				t.Fatalf("SerialOk %v, IdsOk %v, OncePer %v: %v", impl.SerialOk(e), impl.IdsOk(e.Log), impl.OncePer(e.Log), e)
			}
			if slices.ContainsFunc(e.Workers, func(w impl.Worker) bool { return w.Phase == 5 && len(w.Puts) > 0 }) {
				installing++
			}
			if i == len(p.picks) {
				break
			}
			e, _ = impl.PickWorker(e, p.picks[i])
		}
		committed += len(e.Log)
		if !ok || !impl.SameLog(impl.LogOrder(e.Log), e.Log) || !impl.SameLog(played(p).Log, e.Log) {
			t.Fatalf("the log of %v is not in order", e)
		}
		if impl.AllDone(e) {
			values, ok := impl.ReplayLog(p.s.Keys, p.progs, e.Log)
			if !ok || !slices.Equal(values, impl.ValuesOf(e.Table)) {
				t.Fatalf("ReplayLog of %v is %v, %v", e, values, ok)
			}
		}
	}
	if installing < 1000 || committed < 1000 {
		t.Errorf("%d engines that install, %d commits", installing, committed)
	}
}

// TestSwappedCommits swaps two commits that follow one another and do not
// clash: that makes no difference.
func TestSwappedCommits(t *testing.T) {
	state := uint32(24)
	swapped, refused := 0, 0
	for range 150 {
		e := played(drawPlay(&state))
		s := storyOf(e)
		values, ok := impl.ReplayLog(e.Setup.Keys, s.Progs, s.Log)
		clashes := impl.ClashesOf(s.Progs, s.Log)
		for i := 1; i < len(s.Log); i++ {
			other := slices.Clone(s.Log)
			other[i-1].Id, other[i].Id = other[i].Id, other[i-1].Id
			after, same := impl.ReplayLog(e.Setup.Keys, s.Progs, other)
			if slices.ContainsFunc(clashes, func(c impl.Clash) bool { return c.From == i-1 && c.To == i }) {
				if !same {
					refused++
				}
				continue
			}
			swapped++
			if !ok || !same || !slices.Equal(after, values) {
				t.Fatalf("%v without the clash %d, %d is %v, %v", s, i-1, i, after, same)
			}
		}
	}
	if swapped < 200 || refused < 500 {
		t.Errorf("%d swapped, %d refused", swapped, refused)
	}
}

// editNumber changes n by a little.
func editNumber(state *uint32, n *int) { *n += []int{-1, 1, 1, 2}[draw(state, 4)] }

// edit changes something of a log, in place where it can.
func edit(state *uint32, log []impl.Commit) []impl.Commit {
	if len(log) == 0 {
		return []impl.Commit{{Id: draw(state, 3), Got: []int{0}}}
	}
	i, k := draw(state, len(log)), draw(state, len(log))
	c := &log[i]
	switch draw(state, 13) {
	case 0:
		editNumber(state, &c.Worker)
	case 1:
		editNumber(state, &c.At)
	case 2:
		editNumber(state, &c.Id)
	case 3:
		editNumber(state, &c.Tries)
	case 4:
		c.Got = append(c.Got, draw(state, 2))
	case 5:
		c.Puts = append(c.Puts, impl.Put{Key: draw(state, 3)})
	case 6:
		c.Got = c.Got[:len(c.Got)*draw(state, 2)]
	case 7:
		c.Puts = c.Puts[:len(c.Puts)*draw(state, 2)]
	case 8:
		slices.Reverse(c.Got)
		slices.Reverse(c.Puts)
	case 9:
		log[i], log[k] = log[k], log[i]
	case 10:
		log[i].Id, log[k].Id = log[k].Id, log[i].Id
	case 11:
		return slices.Delete(log, i, i+1)
	case 12:
		for n := range c.Puts {
			editNumber(state, &c.Puts[n].Value)
		}
	}
	return log
}

// TestEditedLogs compares ReplayLog, SerialOk and the others with the words of
// the chapter, for logs that somebody has changed.
func TestEditedLogs(t *testing.T) {
	state := uint32(25)
	met := map[bool]int{}
	for range 200 {
		before := played(drawPlay(&state))
		for range 20 {
			e := copyOfEngine(before)
			for range draw(&state, 3) {
				e.Log = edit(&state, e.Log)
			}
			s := storyOf(e)
			keys := max(1, e.Setup.Keys+draw(&state, 3)-1)
			values, ok := impl.ReplayLog(keys, s.Progs, s.Log)
			if want, wantOk := replayed(keys, s); ok != wantOk || !slices.Equal(values, want) {
				t.Fatalf("ReplayLog(%d, %v) = %v, %v instead of %v, %v", keys, s, values, ok, want, wantOk)
			}
			met[checkedSerialOk(t, e)]++
			if fmt.Sprint(impl.LogOrder(s.Log)) != fmt.Sprint(sortedById(s.Log)) {
				t.Fatalf("LogOrder(%v) = %v", s.Log, impl.LogOrder(s.Log))
			}
		}
	}
	if met[true] < 1000 || met[false] < 1000 {
		t.Errorf("%d are serial, %d are not", met[true], met[false])
	}
}

// editWorkers changes a phase, a pending write, a value or a program.
func editWorkers(state *uint32, e *impl.Engine) {
	w := &e.Workers[draw(state, len(e.Workers))]
	switch draw(state, 6) {
	case 0:
		w.Phase = draw(state, 7)
	case 1:
		w.Phase = 5
		w.Puts = append(w.Puts, impl.Put{Key: draw(state, 6) - 1, Value: draw(state, 3)})
	case 2:
		for i := range w.Puts {
			editNumber(state, &w.Puts[i].Value)
		}
	case 3:
		w.Puts = nil
	case 4:
		e.Table.Cells[draw(state, len(e.Table.Cells))].Value = draw(state, 2)
	case 5:
		if len(w.Progs) > 0 {
			w.Progs[draw(state, len(w.Progs))] = drawProg(state, e.Setup.Keys)
		}
	}
}

// editTable changes the Keys of the Setup, the number of cells, or what makes
// a cell invalid beside its value.
func editTable(state *uint32, e *impl.Engine) {
	cells := e.Table.Cells
	c := &cells[draw(state, len(cells))]
	switch draw(state, 5) {
	case 0:
		e.Setup.Keys = draw(state, 12) - 2
	case 1:
		e.Table.Cells = append(cells, impl.Cell{})
	case 2:
		if len(cells) > 1 {
			e.Table.Cells = cells[:len(cells)-1]
		}
	case 3:
		c.Word = impl.Word{Epoch: 1024 + draw(state, 9), Seq: -draw(state, 9), Held: !c.Word.Held}
	case 4:
		c.Lock.Waiters = append(c.Lock.Waiters, c.Lock.Holders...)
		c.Lock.Holders = append(c.Lock.Holders, writer(draw(state, 11)-1))
	}
}

func TestSerialOkOfEdited(t *testing.T) {
	state := uint32(26)
	met := map[bool]int{}
	for range 300 {
		p := drawPlay(&state)
		p.picks = p.picks[:draw(&state, len(p.picks))]
		before := played(p)
		for range 20 {
			e := copyOfEngine(before)
			for range draw(&state, 3) {
				editWorkers(&state, &e)
			}
			for range draw(&state, 3) {
				editTable(&state, &e)
			}
			met[checkedSerialOk(t, e)]++
		}
	}
	if met[true] < 1000 || met[false] < 1000 {
		t.Errorf("%d are serial, %d are not", met[true], met[false])
	}
}

// TestSameLogOfEdited holds SameLog against the CommitTexts.
func TestSameLogOfEdited(t *testing.T) {
	state := uint32(27)
	same, different := 0, 0
	texts := func(log []impl.Commit) []string {
		var all []string
		for _, c := range log {
			all = append(all, impl.CommitText(c))
		}
		return all
	}
	for range 200 {
		e := played(drawPlay(&state))
		for range 20 {
			other := edit(&state, copyOfEngine(e).Log)
			want := slices.Equal(texts(e.Log), texts(other))
			if impl.SameLog(e.Log, other) != want || impl.SameLog(other, e.Log) != want {
				t.Fatalf("SameLog(%v, %v) is %v", e.Log, other, !want)
			}
			if want {
				same++
			} else {
				different++
			}
		}
	}
	if same < 100 || different < 1000 {
		t.Errorf("%d are the same, %d are not", same, different)
	}
}

func checkStoryAlone(t *testing.T, s story) {
	t.Helper()
	checkOwn(t, "LogOrder", s, func(s story) any { return impl.LogOrder(s.Log) })
	checkOwn(t, "TriesOf", s, func(s story) any { return impl.TriesOf(s.Log) })
	checkOwn(t, "ClashesOf", s, func(s story) any { return impl.ClashesOf(s.Progs, s.Log) })
	for _, keys := range []int{0, 1, 4, 8} {
		checkOwn(t, "ReplayLog", s, func(s story) any {
			values, _ := impl.ReplayLog(keys, s.Progs, s.Log)
			return values
		})
	}
	checkOwn(t, "a function that returns no list", s, func(s story) any {
		impl.IdsOk(s.Log)
		impl.OncePer(s.Log)
		impl.SameLog(s.Log, s.Log[:len(s.Log)/2])
		impl.SameLog(s.Log, slices.Clone(s.Log))
		for _, c := range s.Log {
			impl.CommitText(c)
		}
		return nil
	})
}

func TestHistoriesAlone(t *testing.T) {
	state := uint32(28)
	for i := range 120 {
		e := played(drawPlay(&state))
		if i%3 > 0 {
			e.Log = edit(&state, e.Log)
			slices.Reverse(e.Log)
		}
		checkStoryAlone(t, storyOf(e))
		checkStoryAlone(t, drawStory(&state))
		checkOwn(t, "SerialOk", e, func(e impl.Engine) any { return impl.SerialOk(e) })
	}
	for range 200 {
		checkOwn(t, "SerialOk", drawEngine(&state), func(e impl.Engine) any { return impl.SerialOk(e) })
	}
	for _, e := range badEngines() {
		checkOwn(t, "SerialOk", e, func(e impl.Engine) any { return impl.SerialOk(e) })
	}
	for _, progs := range badCrews() {
		checkStoryAlone(t, story{progs, commits("2 w0 p0 t1 got 5 put 1=6, 1 w1 p0 t2 got put 0=3")})
	}
	// Commits that share one list must not share it in the order.
	same := slices.Repeat([]impl.Commit{{Id: 1, Got: []int{1}, Puts: []impl.Put{{Key: 1}}}}, 5)
	checkOwn(t, "LogOrder", same, func(log []impl.Commit) any { return impl.LogOrder(log) })
	order := impl.LogOrder(same)
	order[0].Got[0], order[0].Puts[0].Value = 7, 8
	if fmt.Sprint(order[1:]) != fmt.Sprint(same[1:]) || same[0].Got[0] != 1 {
		t.Errorf("LogOrder gives commits that share memory: %v", order)
	}
}

// TestHistoriesAgain calls twice: the first call leaves nothing behind.
func TestHistoriesAgain(t *testing.T) {
	state := uint32(29)
	for range 60 {
		s := drawStory(&state)
		first := impl.ClashesOf(s.Progs, s.Log)
		for range 5 {
			if got := impl.ClashesOf(s.Progs, s.Log); !slices.Equal(got, first) {
				t.Fatalf("ClashesOf(%v) = %v and %v", s, first, got)
			}
		}
	}
}
