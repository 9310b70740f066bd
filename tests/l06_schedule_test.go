package tests

import (
	"fmt"
	"reflect"
	"slices"
	"strings"
	"testing"

	"loop.example/g00771/impl"
)

// A model plays an engine by the words of chapter 6. Its cells are a ledger,
// and whether a pick changes something is found by looking at the worker
// before and after it.
type model struct {
	impl.Engine
	cells ledger
}

func ledgerOf(tb impl.Table) ledger {
	g := make(ledger, len(tb.Cells))
	for key, c := range tb.Cells {
		g[key] = &struct {
			value    int
			version  impl.Word
			arrivals []impl.Hold
		}{c.Value, free(c.Word.Epoch, c.Word.Seq), slices.Concat(c.Lock.Holders, c.Lock.Waiters)}
	}
	return g
}

func copyOfEngine(e impl.Engine) impl.Engine {
	return roomy(reflect.ValueOf(e), 0).Interface().(impl.Engine)
}

func modelOf(e impl.Engine) *model {
	return &model{Engine: copyOfEngine(e), cells: ledgerOf(e.Table)}
}

func (m *model) engine() impl.Engine {
	e := copyOfEngine(m.Engine)
	e.Table = m.cells.table()
	return e
}

// signs tells all by which a pick of w is known to have changed something.
func (m *model) signs(w int) string {
	x := m.Workers[w]
	text := fmt.Sprint(x.Phase, x.Pc, x.At)
	for _, c := range m.cells {
		at := slices.IndexFunc(c.arrivals, func(h impl.Hold) bool { return h.Tid == w+1 })
		text += fmt.Sprint(" ", at, slices.ContainsFunc(lockAfter(c.arrivals).Holders, func(h impl.Hold) bool { return h.Tid == w+1 }))
	}
	return text
}

func (m *model) pick(w int) bool {
	m.Picks++
	if m.Picks%m.Setup.Cool == 0 {
		for key := range m.Heat {
			m.Heat[key] /= 2
		}
	}
	if w < 0 || w >= len(m.Workers) || m.Workers[w].At >= len(m.Workers[w].Progs) {
		return false
	}
	before := m.signs(w)
	if key := m.step(w); key >= 0 {
		m.fail(w, key)
		return true
	}
	return m.signs(w) != before
}

// step returns the key at which w fails, or -1.
func (m *model) step(w int) int {
	x := &m.Workers[w]
	switch x.Phase {
	case 0:
		m.start(w)
	case 1:
		held, _ := placesOf(m.cells.table(), w+1)
		left := slices.DeleteFunc(slices.Clone(x.Wants), func(want impl.Want) bool { return slices.Contains(held, want.Key) })
		if len(left) == 0 {
			x.Phase, x.Pc = 2, 0
		} else {
			m.cells.lock(left[0].Key, impl.Hold{Tid: w + 1, Write: left[0].Write}, false)
		}
	case 2:
		return m.act(w)
	case 3:
		if x.Pc >= len(x.Puts) {
			x.Phase = 4
			return -1
		}
		key := x.Puts[x.Pc].Key
		if m.writer(key) != w+1 && m.cells.lock(key, writer(w+1), true) != impl.AskHeld {
			return key
		}
		x.Pc++
	case 4:
		for _, r := range x.Reads {
			if r.Word.Epoch != m.cells[r.Key].version.Epoch || r.Word.Seq != m.cells[r.Key].version.Seq || m.writer(r.Key) > 0 && m.writer(r.Key) != w+1 || !impl.WordOk(r.Word) {
				return r.Key
			}
		}
		m.Ids++
		m.Log = append(m.Log, impl.Commit{Worker: w, At: x.At, Id: m.Ids, Tries: x.Tries, Got: slices.Clone(x.Got), Puts: slices.Clone(x.Puts)})
		x.Phase = 5
	case 5:
		for _, p := range x.Puts {
			m.cells.set(p.Key, w+1, p.Value, min(m.Picks/m.Setup.Cool, impl.MaxEpoch))
		}
		m.cells.leaveAll(w + 1)
		if m.Gate == w {
			m.Gate = -1
		}
		m.Workers[w] = impl.Worker{Progs: x.Progs, At: x.At + 1}
	}
	return -1
}

// writer returns the Tid that holds the lock of key as a writer, or 0.
func (m *model) writer(key int) int { return writerIn(lockAfter(m.cells[key].arrivals)) }

func (m *model) start(w int) {
	x := &m.Workers[w]
	for i, other := range m.Workers {
		if m.Gate == w && i != w && other.At < len(other.Progs) && other.Phase > 0 || m.Gate == i && i != w {
			return
		}
	}
	x.Phase, x.Wants = 1, nil
	all := m.Setup.Lists && x.Tries > 0 || m.Gate == w
	for key := range impl.MaxKeys {
		kinds := ""
		for _, a := range x.Progs[x.At] {
			if a.Key == key {
				kinds += string(rune('0' + a.Kind))
			}
		}
		if kinds != "" && (all || m.Setup.Hot > 0 && m.Heat[key] >= m.Setup.Hot) {
			x.Wants = append(x.Wants, impl.Want{Key: key, Write: strings.ContainsAny(kinds, "12")})
		}
	}
}

func (m *model) act(w int) int {
	x := &m.Workers[w]
	a := x.Progs[x.At][x.Pc]
	own := slices.IndexFunc(x.Puts, func(p impl.Put) bool { return p.Key == a.Key })
	value := 0
	if own >= 0 {
		value = x.Puts[own].Value
	} else if a.Kind != 1 {
		c := m.cells[a.Key]
		value = c.value
		if m.writer(a.Key) > 0 && m.writer(a.Key) != w+1 {
			return a.Key
		}
		seen := slices.IndexFunc(x.Reads, func(r impl.Seen) bool { return r.Key == a.Key })
		if seen < 0 {
			x.Reads = append(x.Reads, impl.Seen{Key: a.Key, Word: impl.Word{Epoch: c.version.Epoch, Seq: c.version.Seq, Held: m.writer(a.Key) > 0}, Value: value})
		} else if !impl.SameVersion(x.Reads[seen].Word, c.version) {
			return a.Key
		}
	}
	switch a.Kind {
	case 0:
		x.Got = append(x.Got, value)
	case 1:
		value = a.N
	case 2:
		value = min(max(value+a.N, -1000000), 1000000)
	}
	if a.Kind != 0 {
		x.Puts = slices.DeleteFunc(x.Puts, func(p impl.Put) bool { return p.Key == a.Key })
		x.Puts = append(x.Puts, impl.Put{Key: a.Key, Value: value})
		slices.SortFunc(x.Puts, func(a, b impl.Put) int { return a.Key - b.Key })
	}
	if x.Pc++; x.Pc == len(x.Progs[x.At]) {
		x.Phase, x.Pc = 3, 0
	}
	return -1
}

func (m *model) fail(w, key int) {
	x := &m.Workers[w]
	m.cells.leaveAll(w + 1)
	m.Fails = max(m.Fails, min(m.Fails+1, 1000000))
	m.Heat[key] = min(m.Heat[key]+1, 20)
	*x = impl.Worker{Progs: x.Progs, At: x.At, Tries: x.Tries + 1}
	if m.Setup.Age > 0 && x.Tries >= m.Setup.Age && m.Gate < 0 {
		m.Gate = w
	}
}

func drawSetup(state *uint32) impl.Setup {
	s := impl.Setup{Keys: 1 + draw(state, 8), Hot: draw(state, 6), Cool: 1 + draw(state, 100), Lists: draw(state, 2) == 0, Age: draw(state, 5)}
	if draw(state, 3) == 0 {
		s.Cool = 1 + draw(state, 8)
	}
	return s
}

func drawProg(state *uint32, keys int) []impl.Act {
	p := make([]impl.Act, 1+draw(state, 4)*draw(state, 3)%impl.MaxActs)
	for i := range p {
		p[i] = drawAct(state, keys)
	}
	return p
}

func drawProgs(state *uint32, keys, most int) [][]impl.Act {
	var list [][]impl.Act
	for range draw(state, most+1) {
		list = append(list, drawProg(state, keys))
	}
	return list
}

// drawSome returns about one of n of the keys, ascending.
func drawSome(state *uint32, keys, n int) []int {
	var some []int
	for key := range keys {
		if draw(state, n) == 0 {
			some = append(some, key)
		}
	}
	return some
}

// drawWorker returns a valid worker in any phase, with lists of any content.
func drawWorker(state *uint32, tb impl.Table) impl.Worker {
	keys := len(tb.Cells)
	w := impl.Worker{Progs: drawProgs(state, keys, 3), Phase: draw(state, 6), Pc: draw(state, 4), Tries: draw(state, 6) * draw(state, 2)}
	w.At = draw(state, len(w.Progs)+1+draw(state, 2))
	if w.At < len(w.Progs) && w.Phase == 2 {
		w.Pc %= len(w.Progs[w.At])
	}
	for _, key := range drawSome(state, keys, 3) {
		w.Wants = append(w.Wants, impl.Want{Key: key, Write: draw(state, 2) == 0})
	}
	for _, key := range drawSome(state, keys, 3) {
		r := impl.Seen{Key: key, Word: tb.Cells[key].Word, Value: tb.Cells[key].Value}
		switch draw(state, 5) {
		case 0:
			r.Word.Seq += draw(state, 3) - 1
		case 1:
			r.Word.Held = !r.Word.Held
		}
		w.Reads = slices.Insert(w.Reads, draw(state, len(w.Reads)+1), r)
	}
	for _, key := range drawSome(state, keys, 3) {
		w.Puts = append(w.Puts, impl.Put{Key: key, Value: spreadValues[draw(state, len(spreadValues))]})
	}
	for range draw(state, 3) {
		w.Got = append(w.Got, draw(state, 100))
	}
	return w
}

// drawCell has a lock of a few Tids, most of them of workers.
func drawCell(state *uint32) impl.Cell {
	var arrivals []impl.Hold
	for range draw(state, 4) {
		h := impl.Hold{Tid: 1 + draw(state, 5), Write: draw(state, 3) == 0}
		if !slices.ContainsFunc(arrivals, func(other impl.Hold) bool { return other.Tid == h.Tid }) {
			arrivals = append(arrivals, h)
		}
	}
	version := free(draw(state, 3), draw(state, 3))
	if draw(state, 10) == 0 {
		version = free(draw(state, 2)*impl.MaxEpoch, impl.MaxSeq-draw(state, 2))
	}
	return cellWith(spreadValues[draw(state, len(spreadValues))], version, lockAfter(arrivals))
}

// drawEngine returns any valid engine, also such as no picks lead to.
func drawEngine(state *uint32) impl.Engine {
	e := impl.Engine{Setup: drawSetup(state), Heat: make([]int, impl.MaxKeys), Gate: -1}
	for range e.Setup.Keys {
		e.Table.Cells = append(e.Table.Cells, drawCell(state))
	}
	for range draw(state, impl.MaxWorkers+1) {
		e.Workers = append(e.Workers, drawWorker(state, e.Table))
	}
	for key := range e.Heat {
		e.Heat[key] = draw(state, 8)
		if draw(state, 5) == 0 {
			e.Heat[key] = 20 - draw(state, 3)
		}
	}
	e.Picks, e.Fails, e.Ids = draw(state, 400), draw(state, 9), draw(state, 9)
	switch draw(state, 8) {
	case 0:
		e.Picks = 3990 + draw(state, 10)
	case 1:
		e.Fails = 1000002 - draw(state, 5)
	}
	if draw(state, 3) == 0 {
		e.Gate = draw(state, len(e.Workers)+1) - 1
	}
	for range draw(state, 3) {
		e.Log = append(e.Log, impl.Commit{Worker: draw(state, 4), At: draw(state, 3), Id: draw(state, 9), Got: []int{draw(state, 9)}, Puts: []impl.Put{{Key: 1, Value: draw(state, 9)}}})
	}
	return e
}

// TestPicksOfAll compares every pick of many valid engines with the model.
func TestPicksOfAll(t *testing.T) {
	state := uint32(11)
	for range 6000 {
		e := drawEngine(&state)
		if !impl.EngineOk(e) {
			t.Fatalf("EngineOk(%v) is false", e)
		}
		for w := -1; w <= len(e.Workers); w++ {
			m := modelOf(e)
			want := m.pick(w)
			after, moved := impl.PickWorker(e, w)
			if moved != want || !sameEngine(after, m.engine()) || !impl.EngineOk(after) {
				t.Fatalf("PickWorker(%v, %d):\n%v, %v\n%v, %v", e, w, after, moved, m.engine(), want)
			}
		}
	}
}

// TestPicksFromAll goes on from such engines with further picks.
func TestPicksFromAll(t *testing.T) {
	state := uint32(12)
	for range 300 {
		e := drawEngine(&state)
		m := modelOf(e)
		for range 60 {
			w := draw(&state, len(e.Workers)+1)
			if e.Picks == 4000 {
				break
			}
			want := m.pick(w)
			after, moved := impl.PickWorker(e, w)
			if moved != want || !sameEngine(after, m.engine()) {
				t.Fatalf("PickWorker(%v, %d):\n%v, %v\n%v, %v", e, w, after, moved, m.engine(), want)
			}
			e = after
		}
	}
}

// A play is what PlayPicks takes.
type play struct {
	s     impl.Setup
	progs [][][]impl.Act
	picks []int
}

// drawPlay favours few keys, so that programs meet, and bursts of one worker.
func drawPlay(state *uint32) play {
	p := play{s: drawSetup(state)}
	p.s.Keys = 1 + p.s.Keys%4
	for range 2 + draw(state, 3) {
		p.progs = append(p.progs, drawProgs(state, p.s.Keys, impl.MaxProgs))
	}
	burst := 1 + draw(state, 4)
	for n := 50 + draw(state, 351); len(p.picks) < n; {
		w := draw(state, len(p.progs))
		for range min(1+draw(state, burst), n-len(p.picks)) {
			p.picks = append(p.picks, w)
		}
	}
	return p
}

// TestPlaysOfAll compares whole plays with the model.
func TestPlaysOfAll(t *testing.T) {
	state := uint32(13)
	for range 300 {
		p := drawPlay(&state)
		m := modelOf(newEngine(p.s, p.progs))
		var told []bool
		for _, w := range p.picks {
			told = append(told, m.pick(w))
		}
		if e, moves, ok := impl.PlayPicks(p.s, p.progs, p.picks); !ok || !slices.Equal(moves, told) || !sameEngine(e, m.engine()) {
			t.Fatalf("PlayPicks(%v):\n%v\n%v", p, e, m.engine())
		}
	}
}

// checkSerial executes the committed programs one after the other in the order
// of their ids: that has to report what the commits report, and to leave the
// values of e once the commits are installed that are not yet.
func checkSerial(t *testing.T, e impl.Engine) {
	t.Helper()
	log := slices.Clone(e.Log)
	slices.SortFunc(log, func(a, b impl.Commit) int { return a.Id - b.Id })
	values := make([]int, e.Setup.Keys)
	next := make([]int, len(e.Workers))
	for i, c := range log {
		if c.Id != i+1 || c.Worker < 0 || c.Worker >= len(next) || c.At != next[c.Worker] || c.At >= len(e.Workers[c.Worker].Progs) {
			t.Fatalf("commit %v in %v", c, e)
		}
		next[c.Worker]++
		p := e.Workers[c.Worker].Progs[c.At]
		after, told, ok := impl.RunSerial(values, p)
		var puts []impl.Put
		for _, key := range impl.WritesOf(p) {
			puts = append(puts, impl.Put{Key: key, Value: after[key]})
		}
		if !ok || !slices.Equal(c.Got, told) || !slices.Equal(c.Puts, puts) {
			t.Fatalf("commit %v should report %v and put %v: %v", c, told, puts, e)
		}
		values = after
	}
	installed := impl.ValuesOf(e.Table)
	for i, w := range e.Workers {
		committed := w.At
		if w.At < len(w.Progs) && w.Phase == 5 {
			committed++
			for _, p := range w.Puts {
				installed[p.Key] = p.Value
			}
		}
		if next[i] != committed {
			t.Fatalf("worker %d has %d commits instead of %d: %v", i, next[i], committed, e)
		}
	}
	if !slices.Equal(values, installed) || e.Ids != len(log) || !impl.EngineOk(e) {
		t.Fatalf("the values are %v and not %v, or Ids is wrong: %v", installed, values, e)
	}
}

// TestPromise6 looks at the history after every pick of drawn plays. What the
// plays meet is counted, as a play without failures would tell nothing.
func TestPromise6(t *testing.T) {
	state := uint32(14)
	var commits, fails, blocked, gates, waits, whole int
	for range 250 {
		p := drawPlay(&state)
		e, ok := impl.NewEngine(p.s, p.progs)
		if !ok {
			t.Fatalf("there is no engine of %v", p)
		}
		for _, w := range p.picks {
			next, moved := impl.PickWorker(e, w)
			checkSerial(t, next)
			if !moved && e.Workers[w].At < len(e.Workers[w].Progs) {
				blocked++
			}
			if e.Gate < 0 && next.Gate >= 0 {
				gates++
			}
			if moved && impl.WaitsAt(next.Table, w+1) >= 0 {
				waits++
			}
			e = next
		}
		commits, fails = commits+len(e.Log), fails+e.Fails
		if impl.AllDone(e) {
			whole++
		}
		if final, _, ok := impl.PlayPicks(p.s, p.progs, p.picks); !ok || !sameEngine(final, e) {
			t.Fatalf("PlayPicks(%v) = %v instead of %v", p, final, e)
		}
	}
	if commits < 1000 || fails < 500 || blocked < 500 || gates < 100 || waits < 100 || whole < 30 {
		t.Errorf("commits %d, failures %d, blocked %d, gates %d, waits %d, whole %d", commits, fails, blocked, gates, waits, whole)
	}
}

// TestPromise6Once picks in rounds until all programs are committed: each of
// them once.
func TestPromise6Once(t *testing.T) {
	state := uint32(15)
	for range 150 {
		p := drawPlay(&state)
		if p.s.Age == 0 {
			p.s.Lists = true
		}
		e, _ := impl.NewEngine(p.s, p.progs)
		for !impl.AllDone(e) && e.Picks < 3900 {
			for w := range p.progs {
				e, _ = impl.PickWorker(e, w)
			}
		}
		checkSerial(t, e)
		met := map[[2]int]int{}
		for _, c := range e.Log {
			met[[2]int{c.Worker, c.At}]++
		}
		for w, list := range p.progs {
			for at := range list {
				if met[[2]int{w, at}] != 1 {
					t.Fatalf("program %d of worker %d is committed %d times: %v", at, w, met[[2]int{w, at}], e)
				}
			}
		}
		if slices.ContainsFunc(e.Table.Cells, func(c impl.Cell) bool { return !sameLock(c.Lock, impl.Lock{}) }) {
			t.Fatalf("locks are left: %v", e)
		}
	}
}

// allSchedules visits every engine to which some picks lead from e, with at
// most most failures. Picks does not matter before the first epoch ends.
func allSchedules(e impl.Engine, most int, visit func(impl.Engine)) int {
	met := map[string]bool{}
	var follow func(impl.Engine)
	follow = func(e impl.Engine) {
		picks := e.Picks
		e.Picks = 0
		text := engineText(e)
		if met[text] || picks > 98 || e.Fails > most {
			return
		}
		met[text] = true
		e.Picks = picks
		visit(e)
		for w := range e.Workers {
			if next, moved := impl.PickWorker(e, w); moved {
				follow(next)
			}
		}
	}
	follow(e)
	return len(met)
}

// TestPromise6Schedules tries every schedule of small programs: of two
// workers, whose programs meet on one key or two in every way, and of three.
func TestPromise6Schedules(t *testing.T) {
	crews := []string{
		"add 0 1 / add 0 2", "get 0; get 0 / add 0 2", "get 0; get 0 / put 0 2", "get 0; get 1 / put 1 3; put 0 3", "get 0; put 1 5 / get 1; put 0 6", "put 0 1; put 1 1 / put 1 2; put 0 2", "get 0; add 0 1 / put 0 7",
		"add 0 1; add 1 1 / get 1; get 0", "put 0 1; get 1 / put 1 1; get 0", "get 0, add 0 1 / add 0 5", "put 0 4 / put 0 5, get 0",
	}
	for _, progs := range crews {
		for _, s := range []string{"2 0 100 1 0", "2 0 100 0 0", "2 0 100 0 1", "2 1 100 0 0", "2 1 100 1 1"} {
			e, ok := impl.NewEngine(setup(s), crew(progs))
			if !ok {
				t.Fatalf("there is no engine of %s", progs)
			}
			ends := 0
			states := allSchedules(e, 2, func(e impl.Engine) {
				checkSerial(t, e)
				if impl.AllDone(e) {
					ends++
				}
			})
			if ends < 2 || states < 60 {
				t.Errorf("%s with %s: %d states, %d ends", progs, s, states, ends)
			}
		}
	}
	three, _ := impl.NewEngine(setup("2 0 100 0 0"), crew("get 0; put 1 1 / get 1; put 0 2 / put 0 3"))
	allSchedules(three, 0, func(e impl.Engine) { checkSerial(t, e) })
}

// junk is what nobody would write.
func junk(v reflect.Value) {
	switch v.Kind() {
	case reflect.Int:
		v.SetInt(-77)
	case reflect.Struct:
		for i := range v.NumField() {
			junk(v.Field(i))
		}
	}
}

// roomy copies v with all its lists, and puts room elements of junk behind
// each of them, so that whoever appends to a list writes there.
func roomy(v reflect.Value, room int) reflect.Value {
	own := reflect.New(v.Type()).Elem()
	own.Set(v)
	switch v.Kind() {
	case reflect.Slice:
		n := v.Len()
		list := reflect.MakeSlice(v.Type(), n+room, n+room)
		for i := range n {
			list.Index(i).Set(roomy(v.Index(i), room))
		}
		for i := n; i < n+room; i++ {
			junk(list.Index(i))
		}
		own.Set(list.Slice(0, n))
	case reflect.Struct:
		for i := range v.NumField() {
			own.Field(i).Set(roomy(v.Field(i), room))
		}
	}
	return own
}

// withRoom prints v with what is behind its lists.
func withRoom(v reflect.Value) string {
	text := ""
	switch v.Kind() {
	case reflect.Slice:
		all := v.Slice(0, v.Cap())
		for i := range all.Len() {
			text += withRoom(all.Index(i)) + ","
		}
		return "[" + text + "]"
	case reflect.Struct:
		for i := range v.NumField() {
			text += withRoom(v.Field(i)) + " "
		}
		return "{" + text + "}"
	}
	return fmt.Sprint(v.Interface())
}

// spans returns the memory, with all its capacity, of each list in v.
func spans(v reflect.Value) [][2]uintptr {
	var all [][2]uintptr
	switch v.Kind() {
	case reflect.Slice:
		if size := v.Type().Elem().Size(); v.Cap() > 0 {
			all = append(all, [2]uintptr{v.Pointer(), v.Pointer() + uintptr(v.Cap())*size})
		}
		for i := range v.Len() {
			all = append(all, spans(v.Index(i))...)
		}
	case reflect.Struct:
		for i := range v.NumField() {
			all = append(all, spans(v.Field(i))...)
		}
	}
	return all
}

func shareMemory(all [][2]uintptr) bool {
	slices.SortFunc(all, func(a, b [2]uintptr) int {
		if a[0] < b[0] {
			return -1
		}
		return 1
	})
	for i := 1; i < len(all); i++ {
		if all[i][0] < all[i-1][1] {
			return true
		}
	}
	return false
}

// checkOwn gives call a roomy copy of given, which it may not change, and what
// it returns may share no memory with that, nor one list with another.
func checkOwn[T any](t *testing.T, name string, given T, call func(T) any) {
	t.Helper()
	own := roomy(reflect.ValueOf(given), 3)
	before := withRoom(own)
	result := call(own.Interface().(T))
	if withRoom(own) != before {
		t.Fatalf("%s changes %v", name, given)
	}
	if shareMemory(append(spans(own), spans(reflect.ValueOf(result))...)) {
		t.Fatalf("what %s returns for %v shares memory", name, given)
	}
}

func checkPickAlone(t *testing.T, e impl.Engine, w int) {
	t.Helper()
	checkOwn(t, "PickWorker", e, func(e impl.Engine) any {
		after, _ := impl.PickWorker(e, w)
		return after
	})
}

func TestEnginesAlone(t *testing.T) {
	state := uint32(16)
	engines := []impl.Engine{engine(usedEngine)}
	for range 500 {
		engines = append(engines, drawEngine(&state))
	}
	for i, e := range engines {
		if i%9 == 1 {
			e.Picks = 4000
		}
		for w := -1; w <= len(e.Workers); w++ {
			checkPickAlone(t, e, w)
		}
	}
	bad := badEngines()
	for _, e := range bad {
		checkPickAlone(t, e, 0)
	}
	for _, e := range append(engines, bad...) {
		checkOwn(t, "a function that returns no list", e, func(e impl.Engine) any {
			impl.EngineOk(e)
			impl.AllDone(e)
			impl.EpochOf(e)
			for _, w := range e.Workers {
				impl.WorkerText(w)
			}
			return nil
		})
	}
}

func TestPlaysAlone(t *testing.T) {
	state := uint32(17)
	var plays []play
	for range 100 {
		plays = append(plays, drawPlay(&state))
	}
	for _, progs := range append(badCrews(), nil, crew("get 0"), [][][]impl.Act{programs("get 0"), nil}) {
		plays = append(plays, play{setup("2 4 20 1 3"), progs, []int{0, 0, 1}})
	}
	// One list of programs for all workers, and one program for all places.
	same := slices.Repeat(programs("add 0 1; get 1"), 3)
	plays = append(plays, play{setup("2 4 20 1 3"), [][][]impl.Act{same, same, same}, []int{0, 1, 2, 0, 0, 0, 0, 1}})
	type list struct {
		Progs [][][]impl.Act
		Picks []int
	}
	for _, p := range plays {
		checkOwn(t, "NewEngine", list{p.progs, nil}, func(given list) any {
			e, _ := impl.NewEngine(p.s, given.Progs)
			return e
		})
		checkOwn(t, "PlayPicks", list{p.progs, p.picks}, func(given list) any {
			e, told, _ := impl.PlayPicks(p.s, given.Progs, given.Picks)
			return struct {
				E    impl.Engine
				Told []bool
			}{e, told}
		})
	}
	e, _ := impl.NewEngine(setup("2 4 20 1 3"), [][][]impl.Act{same, same, same})
	if shareMemory(append(spans(reflect.ValueOf(e)), spans(reflect.ValueOf(same[:1]))...)) {
		t.Error("workers with the same programs share memory")
	}
}

// TestNewEnginesAlone changes one new engine, which must not change the next.
func TestNewEnginesAlone(t *testing.T) {
	first, _ := impl.NewEngine(setup("2 4 20 1 3"), crew("get 0"))
	first.Heat[3], first.Table.Cells[1].Value, first.Workers[0].Progs[0][0].Key = 7, 8, 1
	if second, ok := impl.NewEngine(setup("2 4 20 1 3"), crew("get 0")); !ok || !sameEngine(second, newEngine(setup("2 4 20 1 3"), crew("get 0"))) {
		t.Errorf("the next new engine is %v", second)
	}
}
