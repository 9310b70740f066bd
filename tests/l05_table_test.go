package tests

import (
	"math"
	"slices"
	"strconv"
	"strings"
	"testing"

	"loop.example/g00771/impl"
)

// cell reads a value, a word and a lock, such as "7 1.2* 3w | 4r", and does
// not check whether they agree.
func cell(text string) impl.Cell {
	value, rest, _ := strings.Cut(text, " ")
	word, locked, _ := strings.Cut(rest, " ")
	version, isHeld := strings.CutSuffix(word, "*")
	epoch, seq, _ := strings.Cut(version, ".")
	number := func(digits string) int {
		n, err := strconv.Atoi(digits)
		if err != nil {
			panic(err)
		}
		return n
	}
	return impl.Cell{Value: number(value), Word: impl.Word{Epoch: number(epoch), Seq: number(seq), Held: isHeld}, Lock: lock(locked)}
}

// table reads cells separated by ", ".
func table(text string) impl.Table {
	var t impl.Table
	for _, part := range strings.Split(text, ", ") {
		t.Cells = append(t.Cells, cell(part))
	}
	return t
}

func sameCell(a, b impl.Cell) bool {
	return a.Value == b.Value && a.Word == b.Word && sameLock(a.Lock, b.Lock)
}

func sameTable(a, b impl.Table) bool { return slices.EqualFunc(a.Cells, b.Cells, sameCell) }

func copyOfTable(tb impl.Table) impl.Table {
	var own impl.Table
	for _, c := range tb.Cells {
		own.Cells = append(own.Cells, impl.Cell{Value: c.Value, Word: c.Word, Lock: copyOfLock(c.Lock)})
	}
	return own
}

// writerIn returns the Tid that holds l as a writer, or 0.
func writerIn(l impl.Lock) int {
	for _, h := range l.Holders {
		if h.Write {
			return h.Tid
		}
	}
	return 0
}

// cellWith returns a cell of l whose word agrees with it.
func cellWith(value int, version impl.Word, l impl.Lock) impl.Cell {
	version.Held = writerIn(l) != 0
	return impl.Cell{Value: value, Word: version, Lock: l}
}

// eightCells has every form of a lock, and Tids that are in several of them.
const eightCells = "0 0.0 |, -1 0.1 1r |, 2 0.2* 1w |, 3 0.3* 2w | 1r, 4 1.0 2r 3r | 1w 4r, 5 1023.65535 |, 6 1.7* 8w | 7w 1r 6w, 7 2.0* 1w | 2r 3r 4w"

// someTables holds tables of 1 to MaxKeys cells, and drawn ones.
func someTables() []impl.Table {
	var all []impl.Table
	for _, text := range []string{
		"0 0.0 |", "7 1.2* 3w | 4r", "5 0.1 1r 2r | 3w", "9 3.4 1r 2r 3r 4r 5r 6r 7r 8r |",
		"-1000000 0.0 |, 1000000 1023.65535* 1w |", "5 0.1 1r 2r | 3w, 6 0.2* 3w | 1r 2r", "1 0.0* 1w |, 2 0.0 1r |, 3 0.0* 2w | 1r, 4 0.0 2r | 1w 3r",
		eightCells,
	} {
		all = append(all, table(text))
	}
	state := uint32(8)
	for n := range 200 {
		var tb impl.Table
		for range 1 + n%impl.MaxKeys {
			version := free(draw(&state, impl.MaxEpoch+1), draw(&state, impl.MaxSeq+1))
			l := lock(someLocks[draw(&state, len(someLocks))])
			tb.Cells = append(tb.Cells, cellWith(spreadValues[draw(&state, len(spreadValues))], version, l))
		}
		all = append(all, tb)
	}
	return all
}

var beyondValues = []int{-1000001, 1000001, math.MinInt, math.MaxInt, 1 << 32, -1 << 40}

// badCells holds cells that each break one condition.
func badCells() []impl.Cell {
	var all []impl.Cell
	for _, value := range beyondValues {
		all = append(all, cellWith(value, free(0, 0), lock("|")), cellWith(value, free(1, 2), lock("1w | 2r")))
	}
	for _, w := range badWords() {
		agreeing := map[bool]string{false: "1r |", true: "1w |"}[w.Held]
		all = append(all, impl.Cell{Word: w, Lock: lock(agreeing)})
	}
	for _, l := range badLocks() {
		all = append(all, impl.Cell{Lock: l}, impl.Cell{Word: held(0, 0), Lock: l})
	}
	for _, text := range []string{
		"0 0.0* |", "0 1.2* 1r |", "0 1.2* 1r 2r |", "0 1.2* 1r | 2w", "0 1.2* 2r 3r | 1w 4r", "0 1.2 1w |", "0 1.2 8w |", "0 1.2 1w | 2r", "0 1.2 1w | 2w 3r",
	} {
		all = append(all, cell(text))
	}
	return all
}

// badTables holds tables without cells, with too many, and with a bad cell
// first, last or alone. What the others hold would change if they were valid.
func badTables() []impl.Table {
	used := cell("3 0.3* 2w | 1r")
	all := []impl.Table{{}, {Cells: []impl.Cell{}}}
	for _, n := range []int{9, 10, 16, 300} {
		all = append(all, impl.Table{Cells: make([]impl.Cell, n)}, impl.Table{Cells: slices.Repeat([]impl.Cell{used}, n)})
	}
	for _, bad := range badCells() {
		full := slices.Repeat([]impl.Cell{used}, impl.MaxKeys)
		full[7] = bad
		all = append(all, impl.Table{Cells: []impl.Cell{bad}}, impl.Table{Cells: []impl.Cell{bad, used}}, impl.Table{Cells: full})
	}
	return all
}

func TestTableOk(t *testing.T) {
	for _, tb := range someTables() {
		if !impl.TableOk(tb) {
			t.Errorf("TableOk(%v) is false", tb)
		}
	}
	for _, tb := range badTables() {
		if impl.TableOk(tb) {
			t.Errorf("TableOk(%v) is true", tb)
		}
	}
	for n := range 20 {
		if got := impl.TableOk(impl.Table{Cells: make([]impl.Cell, n)}); got != (1 <= n && n <= 8) {
			t.Errorf("TableOk of %d empty cells is %v", n, got)
		}
	}
}

// TestTableOkPlaces puts each bad cell at each key of a table that is valid
// otherwise.
func TestTableOkPlaces(t *testing.T) {
	for _, bad := range badCells() {
		for n := 1; n <= impl.MaxKeys; n++ {
			for key := range n {
				tb := impl.Table{Cells: table(eightCells).Cells[:n]}
				tb.Cells[key] = bad
				if impl.TableOk(tb) {
					t.Fatalf("TableOk is true with %v at %d of %d", bad, key, n)
				}
			}
		}
	}
}

func TestNewTable(t *testing.T) {
	for n := 1; n <= 8; n++ {
		tb, ok := impl.NewTable(n)
		if !ok || !sameTable(tb, impl.Table{Cells: make([]impl.Cell, n)}) || !impl.TableOk(tb) {
			t.Errorf("NewTable(%d) = %v, %v", n, tb, ok)
		}
	}
	for _, n := range []int{0, 9, 10, -1, -8, 300, math.MinInt, math.MaxInt, 1 << 32, 1<<32 + 1} {
		if tb, ok := impl.NewTable(n); ok || len(tb.Cells) != 0 {
			t.Errorf("NewTable(%d) = %v, %v", n, tb, ok)
		}
	}
}

func TestReadCell(t *testing.T) {
	for _, tb := range someTables() {
		for key, c := range tb.Cells {
			if value, word, ok := impl.ReadCell(tb, key); !ok || value != c.Value || word != c.Word {
				t.Errorf("ReadCell(%v, %d) = %d, %v, %v", tb, key, value, word, ok)
			}
		}
	}
}

func TestLockCell(t *testing.T) {
	cases := []struct {
		before string
		key    int
		h      impl.Hold
		after  string
		code   int
	}{
		{"0 0.0 |", 0, reader(1), "0 0.0 1r |", 0},
		{"0 0.0 |", 0, writer(8), "0 0.0* 8w |", 0},
		{"0 0.0 |, 5 1.2 |", 1, writer(3), "0 0.0 |, 5 1.2* 3w |", 0},
		{"0 0.0 |, 5 1.2 |", 0, writer(3), "0 0.0* 3w |, 5 1.2 |", 0},
		{"0 0.0 |, 5 1.2 |", 1, reader(3), "0 0.0 |, 5 1.2 3r |", 0},
		{"0 0.0 |, 5 1.2* 3w |", 0, writer(3), "0 0.0* 3w |, 5 1.2* 3w |", 0},
		{"0 0.0 1r |, 5 1.2* 3w |", 0, reader(3), "0 0.0 1r 3r |, 5 1.2* 3w |", 0},
		{"5 1.2 3r |", 0, reader(1), "5 1.2 1r 3r |", 0},
		{"5 1.2 3r |", 0, writer(4), "5 1.2 3r | 4w", 1},
		{"5 1.2 3r | 4w", 0, reader(1), "5 1.2 3r | 4w 1r", 1},
		{"5 1.2 3r | 4w", 0, writer(1), "5 1.2 3r | 4w 1w", 1},
		{"5 1.2* 3w |", 0, reader(4), "5 1.2* 3w | 4r", 1},
		{"5 1.2* 3w |", 0, writer(4), "5 1.2* 3w | 4w", 1},
		{"5 1.2* 3w | 4r", 0, writer(1), "5 1.2* 3w | 4r 1w", 1},
		{"1 0.0 1r |, 2 0.0 1r |, -3 1023.65535 |", 2, writer(1), "1 0.0 1r |, 2 0.0 1r |, -3 1023.65535* 1w |", 0},
		{"1 0.0* 2w | 1r, 2 0.0* 2w |", 1, writer(1), "1 0.0* 2w | 1r, 2 0.0* 2w | 1w", 1},
		{"0 0.1 1r 2r 3r 4r 5r 6r 7r |", 0, reader(8), "0 0.1 1r 2r 3r 4r 5r 6r 7r 8r |", 0},
		{"0 0.1* 2w | 3r 4r 5w 6r 7w 8r", 0, writer(1), "0 0.1* 2w | 3r 4r 5w 6r 7w 8r 1w", 1},
	}
	for _, c := range cases {
		before := table(c.before)
		after, code := impl.LockCell(before, c.key, c.h.Tid, c.h.Write)
		if code != c.code || !sameTable(after, table(c.after)) {
			t.Errorf("LockCell(%s, %d, %v) = %v, %d", c.before, c.key, c.h, after, code)
		}
		want := c.before
		if c.code == 0 {
			want = c.after
		}
		if after, ok := impl.TryCell(before, c.key, c.h.Tid, c.h.Write); ok != (c.code == 0) || !sameTable(after, table(want)) {
			t.Errorf("TryCell(%s, %d, %v) = %v, %v", c.before, c.key, c.h, after, ok)
		}
	}
}

func TestLeaveCell(t *testing.T) {
	cases := []struct {
		before   string
		key, tid int
		after    string
	}{
		{"5 1.2 3r |", 0, 3, "5 1.2 |"},
		{"5 1.2* 3w |", 0, 3, "5 1.2 |"},
		{"5 1.2 1r 3r |", 0, 3, "5 1.2 1r |"},
		{"5 1.2* 3w | 4r", 0, 3, "5 1.2 4r |"},
		{"5 1.2* 3w | 4w", 0, 3, "5 1.2* 4w |"},
		{"5 1.2* 3w | 4r", 0, 4, "5 1.2* 3w |"},
		{"5 1.2* 3w | 4w 5r", 0, 3, "5 1.2* 4w | 5r"},
		{"5 1.2* 3w | 8r 1r 4w", 0, 3, "5 1.2 1r 8r | 4w"},
		{"5 1.2 3r | 4w", 0, 3, "5 1.2* 4w |"},
		{"5 1.2 3r | 4w 1r", 0, 3, "5 1.2* 4w | 1r"},
		{"5 1.2 2r 3r | 4w", 0, 3, "5 1.2 2r | 4w"},
		{"5 1.2 3r | 4w 1r 2r", 0, 4, "5 1.2 1r 2r 3r |"},
		{"5 1.2 3r | 4w 5w", 0, 4, "5 1.2 3r | 5w"},
		{"1 0.0 1r | 2w, 2 0.0 1r | 2w, 3 0.0 1r | 2w", 1, 1, "1 0.0 1r | 2w, 2 0.0* 2w |, 3 0.0 1r | 2w"},
		{"1 0.0* 1w | 2r, 2 0.0* 1w | 2r", 1, 1, "1 0.0* 1w | 2r, 2 0.0 2r |"},
		{"1 0.0* 1w | 2r, -2 1023.65535* 1w | 2w", 1, 1, "1 0.0* 1w | 2r, -2 1023.65535* 2w |"},
		{"1 0.0* 1w |, 2 0.0* 3w | 1w", 1, 1, "1 0.0* 1w |, 2 0.0* 3w |"},
		{"1 0.0* 1w |, 2 0.0* 3w | 1w", 0, 1, "1 0.0 |, 2 0.0* 3w | 1w"},
		{"0 0.1 1r 2r 3r 4r 5r 6r 7r | 8w", 0, 8, "0 0.1 1r 2r 3r 4r 5r 6r 7r |"},
	}
	for _, c := range cases {
		if after, ok := impl.LeaveCell(table(c.before), c.key, c.tid); !ok || !sameTable(after, table(c.after)) {
			t.Errorf("LeaveCell(%s, %d, %d) = %v, %v", c.before, c.key, c.tid, after, ok)
		}
	}
}

func TestSetCell(t *testing.T) {
	cases := []struct {
		before            string
		key, value, epoch int
		after             string
	}{
		{"0 0.0* 1w |", 0, 5, 0, "5 0.1* 1w |"},
		{"0 0.0* 1w |", 0, 0, 0, "0 0.1* 1w |"},
		{"0 0.0* 1w |", 0, 9, 3, "9 3.0* 1w |"},
		{"7 3.4* 1w |", 0, 7, 3, "7 3.5* 1w |"},
		{"7 3.4* 1w |", 0, -7, 2, "-7 3.5* 1w |"},
		{"7 3.4* 1w |", 0, -7, 0, "-7 3.5* 1w |"},
		{"7 3.4* 1w |", 0, -7, 4, "-7 4.0* 1w |"},
		{"7 3.4* 1w |", 0, 1000000, 1023, "1000000 1023.0* 1w |"},
		{"7 3.4* 1w |", 0, -1000000, 3, "-1000000 3.5* 1w |"},
		{"7 3.65534* 1w |", 0, 8, 3, "8 3.65535* 1w |"},
		{"7 3.65535* 1w |", 0, 8, 4, "8 4.0* 1w |"},
		{"7 1023.65534* 1w |", 0, 8, 0, "8 1023.65535* 1w |"},
		{"7 1022.65535* 1w |", 0, 8, 1023, "8 1023.0* 1w |"},
		{"7 0.0* 1w | 2r 3w", 0, 8, 0, "8 0.1* 1w | 2r 3w"},
		{"1 0.0* 1w |, 2 0.0* 1w |, 3 0.0* 1w |", 1, 8, 0, "1 0.0* 1w |, 8 0.1* 1w |, 3 0.0* 1w |"},
		{"1 0.0* 1w |, 2 0.0 2r |, 3 0.9* 1w | 2w", 2, 8, 1, "1 0.0* 1w |, 2 0.0 2r |, 8 1.0* 1w | 2w"},
	}
	for _, c := range cases {
		if after, ok := impl.SetCell(table(c.before), c.key, 1, c.value, c.epoch); !ok || !sameTable(after, table(c.after)) {
			t.Errorf("SetCell(%s, %d, 1, %d, %d) = %v, %v", c.before, c.key, c.value, c.epoch, after, ok)
		}
	}
}

func checkNotSet(t *testing.T, tb impl.Table, key, tid, value, epoch int) {
	t.Helper()
	if after, ok := impl.SetCell(tb, key, tid, value, epoch); ok || !sameTable(after, tb) {
		t.Errorf("SetCell(%v, %d, %d, %d, %d) = %v, %v", tb, key, tid, value, epoch, after, ok)
	}
}

func TestSetCellRefuses(t *testing.T) {
	tb := table("1 0.0* 1w |, 7 3.4* 1w | 2w 3r, 2 0.0 1r 4r |")
	for key := range 2 {
		for _, value := range beyondValues {
			checkNotSet(t, tb, key, 1, value, 0)
			checkNotSet(t, tb, key, 1, value, 9)
		}
		for _, epoch := range badEpochs {
			checkNotSet(t, tb, key, 1, 5, epoch)
		}
		for _, tid := range append(badTids, 2, 3, 4, 5, 8) {
			checkNotSet(t, tb, key, tid, 5, 9)
		}
	}
	for tid := range 10 {
		checkNotSet(t, tb, 2, tid, 5, 9)
	}
	full := table("1 0.65535* 1w |, 2 3.65535* 1w |, 3 1023.65535* 1w |")
	for key, word := range []int{0, 3, 1023} {
		for _, epoch := range append(badEpochs, 0, word/2, word) {
			checkNotSet(t, full, key, 1, 5, epoch)
		}
	}
}

func TestStaleFor(t *testing.T) {
	tb := table("0 0.0 |, 7 1.2* 3w | 4w 5r, 5 1.2 1r 2r | 3w")
	cases := []struct {
		key, tid int
		seen     impl.Word
		stale    bool
	}{
		{0, 1, free(0, 0), false}, {0, 1, held(0, 0), false}, {0, 1, free(0, 1), true}, {0, 1, free(1, 0), true},
		{1, 3, free(1, 2), false}, {1, 3, held(1, 2), false}, {1, 3, held(1, 3), true}, {1, 3, held(2, 2), true}, {1, 3, free(1, 1), true}, {1, 3, free(0, 2), true},
		{1, 4, free(1, 2), true}, {1, 4, held(1, 2), true}, {1, 5, held(1, 2), true}, {1, 1, held(1, 2), true}, {1, 1, free(1, 2), true}, {1, 4, free(1, 3), true},
		{2, 1, free(1, 2), false}, {2, 1, held(1, 2), false}, {2, 2, free(1, 2), false}, {2, 3, free(1, 2), false}, {2, 8, free(1, 2), false}, {2, 1, free(1, 3), true}, {2, 3, free(0, 2), true},
	}
	for _, c := range cases {
		if got := impl.StaleFor(tb, c.key, c.tid, c.seen); got != c.stale {
			t.Errorf("StaleFor(%d, %d, %v) = %v", c.key, c.tid, c.seen, got)
		}
	}
	for key := range tb.Cells {
		for _, seen := range badWords() {
			if !impl.StaleFor(tb, key, 3, seen) {
				t.Errorf("StaleFor(%d, 3, %v) is false", key, seen)
			}
		}
		for _, tid := range badTids {
			if got := impl.StaleFor(tb, key, tid, tb.Cells[key].Word); got != (key == 1) {
				t.Errorf("StaleFor(%d, %d) of the same version = %v", key, tid, got)
			}
		}
	}
}

// TestStaleForOfAll compares every cell of many tables to words near its own.
func TestStaleForOfAll(t *testing.T) {
	for _, tb := range someTables() {
		for key, c := range tb.Cells {
			for tid := 0; tid <= impl.MaxTids+1; tid++ {
				others := writerIn(c.Lock) != 0 && writerIn(c.Lock) != tid
				for _, by := range [][2]int{{0, 0}, {0, 1}, {0, -1}, {1, 0}, {-1, 0}, {1, -1}} {
					for _, isHeld := range []bool{false, true} {
						seen := impl.Word{Epoch: c.Word.Epoch + by[0], Seq: c.Word.Seq + by[1], Held: isHeld}
						if got := impl.StaleFor(tb, key, tid, seen); got != (others || by != [2]int{}) {
							t.Fatalf("StaleFor(%v, %d, %d, %v) = %v", tb, key, tid, seen, got)
						}
					}
				}
			}
		}
	}
}

func TestValuesOf(t *testing.T) {
	for _, tb := range someTables() {
		var values []int
		for _, c := range tb.Cells {
			values = append(values, c.Value)
		}
		if got := impl.ValuesOf(tb); !slices.Equal(got, values) {
			t.Errorf("ValuesOf(%v) = %v", tb, got)
		}
	}
	if got := impl.ValuesOf(table(eightCells)); !slices.Equal(got, []int{0, -1, 2, 3, 4, 5, 6, 7}) {
		t.Errorf("ValuesOf = %v", got)
	}
}

func TestHeldByAndWaitsAt(t *testing.T) {
	tb := table(eightCells)
	cases := []struct {
		tid, waits int
		held       []int
	}{
		{1, 3, []int{1, 2, 7}}, {2, 7, []int{3, 4}}, {3, 7, []int{4}}, {4, 4, nil}, {5, -1, nil}, {6, 6, nil}, {7, 6, nil}, {8, -1, []int{6}},
	}
	for _, c := range cases {
		if keys, at := impl.HeldBy(tb, c.tid), impl.WaitsAt(tb, c.tid); !slices.Equal(keys, c.held) || at != c.waits {
			t.Errorf("%d holds %v and waits at %d", c.tid, keys, at)
		}
	}
	everywhere := table("0 0.0* 1w |, 0 0.0 1r |, 0 0.0* 1w |, 0 0.0 1r |, 0 0.0* 1w |, 0 0.0 1r |, 0 0.0* 1w |, 0 0.0 1r |")
	if keys := impl.HeldBy(everywhere, 1); !slices.Equal(keys, []int{0, 1, 2, 3, 4, 5, 6, 7}) || impl.WaitsAt(everywhere, 1) != -1 {
		t.Errorf("1 holds %v", keys)
	}
	first := table("0 0.0 2r | 1w, 0 0.0* 2w | 1r")
	if keys := impl.HeldBy(first, 1); len(keys) != 0 || impl.WaitsAt(first, 1) != 0 {
		t.Errorf("1 holds %v and waits at %d", keys, impl.WaitsAt(first, 1))
	}
}

// placesOf returns where tid holds and where it waits.
func placesOf(tb impl.Table, tid int) (held, waits []int) {
	in := func(list []impl.Hold) bool {
		return slices.Contains(list, reader(tid)) || slices.Contains(list, writer(tid))
	}
	for key, c := range tb.Cells {
		if in(c.Lock.Holders) {
			held = append(held, key)
		}
		if in(c.Lock.Waiters) {
			waits = append(waits, key)
		}
	}
	return held, waits
}

func TestPlacesOfAll(t *testing.T) {
	for _, tb := range someTables() {
		for tid := 1; tid <= impl.MaxTids; tid++ {
			held, waits := placesOf(tb, tid)
			least := -1
			if len(waits) > 0 {
				least = waits[0]
			}
			if keys, at := impl.HeldBy(tb, tid), impl.WaitsAt(tb, tid); !slices.Equal(keys, held) || at != least {
				t.Errorf("%d in %v holds %v and waits at %d", tid, tb, keys, at)
			}
		}
	}
}

func TestLeaveAll(t *testing.T) {
	cases := []struct {
		before string
		tid    int
		after  string
	}{
		{"5 1.2* 3w |", 3, "5 1.2 |"}, {"5 1.2 3r |", 3, "5 1.2 |"}, {"5 1.2* 3w | 4w", 4, "5 1.2* 3w |"}, {"5 1.2 3r | 4w", 3, "5 1.2* 4w |"},
		{"0 0.0 |, 5 1.2* 3w | 4r", 3, "0 0.0 |, 5 1.2 4r |"},
		{"1 0.1* 1w | 2w, 2 0.0 |, 3 0.2 1r 3r | 4w, 4 1.0* 2w | 1r 3r", 1, "1 0.1* 2w |, 2 0.0 |, 3 0.2 3r | 4w, 4 1.0* 2w | 3r"},
		{"5 0.3 1r | 2w 3r, 6 0.4* 1w | 2w 4r, 7 0.5* 3w | 2r", 2, "5 0.3 1r 3r |, 6 0.4* 1w | 4r, 7 0.5* 3w |"},
		{"1 0.1 1r | 2w, 2 0.2 1r | 2w, 3 0.3 1r 3r | 2w", 1, "1 0.1* 2w |, 2 0.2* 2w |, 3 0.3 3r | 2w"},
		{eightCells, 1, "0 0.0 |, -1 0.1 |, 2 0.2 |, 3 0.3* 2w |, 4 1.0 2r 3r 4r |, 5 1023.65535 |, 6 1.7* 8w | 7w 6w, 7 2.0 2r 3r | 4w"},
		{eightCells, 2, "0 0.0 |, -1 0.1 1r |, 2 0.2* 1w |, 3 0.3 1r |, 4 1.0 3r | 1w 4r, 5 1023.65535 |, 6 1.7* 8w | 7w 1r 6w, 7 2.0* 1w | 3r 4w"},
		{eightCells, 8, "0 0.0 |, -1 0.1 1r |, 2 0.2* 1w |, 3 0.3* 2w | 1r, 4 1.0 2r 3r | 1w 4r, 5 1023.65535 |, 6 1.7* 7w | 1r 6w, 7 2.0* 1w | 2r 3r 4w"},
	}
	for _, c := range cases {
		if after, ok := impl.LeaveAll(table(c.before), c.tid); !ok || !sameTable(after, table(c.after)) {
			t.Errorf("LeaveAll(%s, %d) = %v, %v", c.before, c.tid, after, ok)
		}
	}
}

// TestLeaveAllOfAll lets each Tid leave cell by cell instead.
func TestLeaveAllOfAll(t *testing.T) {
	for _, tb := range someTables() {
		for tid := 1; tid <= impl.MaxTids; tid++ {
			left, wasThere := copyOfTable(tb), false
			for key, c := range tb.Cells {
				next, ok := impl.LeaveLock(c.Lock, tid)
				left.Cells[key] = cellWith(c.Value, c.Word, next)
				wasThere = wasThere || ok
			}
			if after, ok := impl.LeaveAll(tb, tid); ok != wasThere || !sameTable(after, left) {
				t.Fatalf("LeaveAll(%v, %d) = %v, %v", tb, tid, after, ok)
			}
		}
	}
}

func checkNotLocked(t *testing.T, tb impl.Table, key, tid int) {
	t.Helper()
	for _, write := range []bool{false, true} {
		if after, code := impl.LockCell(tb, key, tid, write); code != impl.AskBad || !sameTable(after, tb) {
			t.Errorf("LockCell(%v, %d, %d, %v) = %v, %d", tb, key, tid, write, after, code)
		}
		if after, ok := impl.TryCell(tb, key, tid, write); ok || !sameTable(after, tb) {
			t.Errorf("TryCell(%v, %d, %d, %v) = %v, %v", tb, key, tid, write, after, ok)
		}
	}
}

func checkNotLeft(t *testing.T, tb impl.Table, key, tid int) {
	t.Helper()
	if after, ok := impl.LeaveCell(tb, key, tid); ok || !sameTable(after, tb) {
		t.Errorf("LeaveCell(%v, %d, %d) = %v, %v", tb, key, tid, after, ok)
	}
}

// checkNoCell is about a key that tb does not have.
func checkNoCell(t *testing.T, tb impl.Table, key, tid int) {
	t.Helper()
	checkNotLocked(t, tb, key, tid)
	checkNotLeft(t, tb, key, tid)
	checkNotSet(t, tb, key, tid, 5, 9)
	if value, word, ok := impl.ReadCell(tb, key); ok || value != 0 || word != (impl.Word{}) {
		t.Errorf("ReadCell(%v, %d) = %d, %v, %v", tb, key, value, word, ok)
	}
	seen := impl.Word{}
	if 0 <= key && key < len(tb.Cells) {
		seen = tb.Cells[key].Word
	}
	if !impl.StaleFor(tb, key, tid, seen) {
		t.Errorf("StaleFor(%v, %d, %d, %v) is false", tb, key, tid, seen)
	}
}

// checkNowhere is about a Tid that is in no cell of tb.
func checkNowhere(t *testing.T, tb impl.Table, tid int) {
	t.Helper()
	if keys, at := impl.HeldBy(tb, tid), impl.WaitsAt(tb, tid); len(keys) != 0 || at != -1 {
		t.Errorf("%d in %v holds %v and waits at %d", tid, tb, keys, at)
	}
	if after, ok := impl.LeaveAll(tb, tid); ok || !sameTable(after, tb) {
		t.Errorf("LeaveAll(%v, %d) = %v, %v", tb, tid, after, ok)
	}
}

func TestInvalidTables(t *testing.T) {
	for _, tb := range badTables() {
		for key := -1; key <= len(tb.Cells) && key <= 10; key++ {
			for _, tid := range []int{0, 1, 2, 8, 9} {
				checkNoCell(t, tb, key, tid)
			}
		}
		for tid := range 10 {
			checkNowhere(t, tb, tid)
		}
		if values := impl.ValuesOf(tb); len(values) != 0 {
			t.Errorf("ValuesOf(%v) = %v", tb, values)
		}
	}
}

func TestMissingKeys(t *testing.T) {
	for _, tb := range someTables() {
		n := len(tb.Cells)
		for _, key := range []int{-1, n, n + 1, 8, 9, -n, math.MinInt, math.MaxInt, 1 << 32, 1<<32 + n - 1} {
			for _, tid := range []int{0, 1, 3, 9} {
				checkNoCell(t, tb, key, tid)
			}
		}
	}
}

// TestOtherTids gives valid tables Tids that are none, that are in the cell
// already, and that are not there.
func TestOtherTids(t *testing.T) {
	for _, tb := range someTables() {
		for key := range tb.Cells {
			for _, tid := range badTids {
				checkNotLocked(t, tb, key, tid)
				checkNotLeft(t, tb, key, tid)
				checkNotSet(t, tb, key, tid, 5, impl.MaxEpoch)
			}
		}
		for _, tid := range badTids {
			checkNowhere(t, tb, tid)
		}
		for tid := 1; tid <= impl.MaxTids; tid++ {
			held, waits := placesOf(tb, tid)
			there := slices.Concat(held, waits)
			for key, c := range tb.Cells {
				if slices.Contains(there, key) {
					checkNotLocked(t, tb, key, tid)
				} else {
					checkNotLeft(t, tb, key, tid)
				}
				if writerIn(c.Lock) != tid {
					checkNotSet(t, tb, key, tid, 5, impl.MaxEpoch)
				}
			}
			if len(there) == 0 {
				checkNowhere(t, tb, tid)
			}
		}
	}
}

// TestCellStepsOfAll takes every order in which up to four Tids can have
// arrived at the cell in the middle, and lets each of them lock, try, leave
// and set it, while the same Tids are in the cells beside it.
func TestCellStepsOfAll(t *testing.T) {
	tids := []int{1, 2, 4, 8}
	around := func(middle impl.Cell) impl.Table {
		return impl.Table{Cells: []impl.Cell{cell("5 0.1* 1w | 2r 4w"), middle, cell("6 9.0 2r 8r | 1w")}}
	}
	arrivalsOf(tids, func(arrivals []impl.Hold) {
		before := cellWith(7, free(3, 4), lockAfter(arrivals))
		tb := around(before)
		for _, tid := range tids {
			at := slices.IndexFunc(arrivals, func(h impl.Hold) bool { return h.Tid == tid })
			if at < 0 {
				for _, h := range []impl.Hold{reader(tid), writer(tid)} {
					next := lockAfter(append(slices.Clone(arrivals), h))
					granted := slices.Contains(next.Holders, h)
					want := around(cellWith(7, free(3, 4), next))
					after, code := impl.LockCell(tb, 1, tid, h.Write)
					if code != map[bool]int{true: 0, false: 1}[granted] || !sameTable(after, want) {
						t.Fatalf("LockCell(%v, 1, %v) = %v, %d", tb, h, after, code)
					}
					if !granted {
						want = tb
					}
					if after, ok := impl.TryCell(tb, 1, tid, h.Write); ok != granted || !sameTable(after, want) {
						t.Fatalf("TryCell(%v, 1, %v) = %v, %v", tb, h, after, ok)
					}
				}
				checkNotLeft(t, tb, 1, tid)
			} else {
				rest := lockAfter(slices.Delete(slices.Clone(arrivals), at, at+1))
				if after, ok := impl.LeaveCell(tb, 1, tid); !ok || !sameTable(after, around(cellWith(7, free(3, 4), rest))) {
					t.Fatalf("LeaveCell(%v, 1, %d) = %v, %v", tb, tid, after, ok)
				}
				checkNotLocked(t, tb, 1, tid)
			}
			want, set := before, writerIn(before.Lock) == tid
			if set {
				want = cellWith(-9, free(3, 5), before.Lock)
			}
			if after, ok := impl.SetCell(tb, 1, tid, -9, 2); ok != set || !sameTable(after, around(want)) {
				t.Fatalf("SetCell(%v, 1, %d) = %v, %v", tb, tid, after, ok)
			}
		}
	})
}

// A ledger holds what a table has to hold: per key the value, the version, and
// who has arrived and not left yet, in this order.
type ledger []*struct {
	value    int
	version  impl.Word
	arrivals []impl.Hold
}

func (g ledger) table() impl.Table {
	var tb impl.Table
	for _, c := range g {
		tb.Cells = append(tb.Cells, cellWith(c.value, c.version, lockAfter(c.arrivals)))
	}
	return tb
}

func (g ledger) has(key, tid int) bool {
	return slices.ContainsFunc(g[key].arrivals, func(h impl.Hold) bool { return h.Tid == tid })
}

// lock returns the code of LockCell; onlyHeld makes it TryCell.
func (g ledger) lock(key int, h impl.Hold, onlyHeld bool) int {
	if g.has(key, h.Tid) {
		return impl.AskBad
	}
	arrivals := append(slices.Clone(g[key].arrivals), h)
	granted := slices.Contains(lockAfter(arrivals).Holders, h)
	if granted || !onlyHeld {
		g[key].arrivals = arrivals
	}
	if granted {
		return impl.AskHeld
	}
	return impl.AskWaits
}

func (g ledger) leave(key, tid int) bool {
	there := g.has(key, tid)
	g[key].arrivals = slices.DeleteFunc(slices.Clone(g[key].arrivals), func(h impl.Hold) bool { return h.Tid == tid })
	return there
}

func (g ledger) leaveAll(tid int) bool {
	wasThere := false
	for key := range g {
		wasThere = g.leave(key, tid) || wasThere
	}
	return wasThere
}

func (g ledger) set(key, tid, value, epoch int) bool {
	c := g[key]
	if writerIn(lockAfter(c.arrivals)) != tid {
		return false
	}
	switch {
	case epoch > c.version.Epoch:
		c.version = free(epoch, 0)
	case c.version.Seq == impl.MaxSeq:
		return false
	default:
		c.version.Seq++
	}
	c.value = value
	return true
}

// checkPromise5 asks for every word whether it is held exactly while one of
// the Tids holds the lock as a writer, and where each Tid is.
func checkPromise5(t *testing.T, tb impl.Table, g ledger) {
	t.Helper()
	if !impl.TableOk(tb) || !sameTable(tb, g.table()) {
		t.Fatalf("the table is %v instead of %v", tb, g.table())
	}
	values := impl.ValuesOf(tb)
	for key, c := range tb.Cells {
		value, word, ok := impl.ReadCell(tb, key)
		if !ok || value != g[key].value || values[key] != value || !impl.SameVersion(word, g[key].version) {
			t.Fatalf("the value at %d of %v is %d, %v", key, tb, value, word)
		}
		writers := 0
		for tid := 1; tid <= impl.MaxTids; tid++ {
			if impl.HoldsLock(c.Lock, tid) == 2 {
				writers++
			}
		}
		if word.Held != (writers == 1) || writers > 1 {
			t.Fatalf("cell %d of %v has %d writers", key, tb, writers)
		}
	}
	for tid := 1; tid <= impl.MaxTids; tid++ {
		held, waits := placesOf(g.table(), tid)
		if keys := impl.HeldBy(tb, tid); !slices.Equal(keys, held) {
			t.Fatalf("%d in %v holds %v", tid, tb, keys)
		}
		if at := impl.WaitsAt(tb, tid); (at == -1) != (len(waits) == 0) || at >= 0 && at != waits[0] {
			t.Fatalf("%d in %v waits at %d", tid, tb, at)
		}
	}
}

// checkGone is about a Tid that has left these keys.
func checkGone(t *testing.T, tb impl.Table, tid int, keys []int) {
	t.Helper()
	for _, key := range keys {
		l := tb.Cells[key].Lock
		if impl.HoldsLock(l, tid) != 0 || strings.Contains(impl.LockText(l), strconv.Itoa(tid)) || slices.Contains(impl.HeldBy(tb, tid), key) || impl.WaitsAt(tb, tid) == key {
			t.Fatalf("%d has left cell %d of %v", tid, key, tb)
		}
		checkNotLeft(t, tb, key, tid)
	}
}

// playStep performs a drawn operation on both and returns the table.
func playStep(t *testing.T, tb impl.Table, g ledger, state *uint32) impl.Table {
	t.Helper()
	key, tid, write := draw(state, len(g)), 1+draw(state, impl.MaxTids), draw(state, 2) == 0
	before := tb
	var ok, want bool
	switch kind := draw(state, 10); {
	case kind < 4:
		next, code := impl.LockCell(tb, key, tid, write)
		tb, ok, want = next, true, code == g.lock(key, impl.Hold{Tid: tid, Write: write}, false)
	case kind < 5:
		tb, ok = impl.TryCell(tb, key, tid, write)
		want = g.lock(key, impl.Hold{Tid: tid, Write: write}, true) == impl.AskHeld
	case kind < 6:
		tb, ok = impl.LeaveCell(tb, key, tid)
		want = g.leave(key, tid)
		checkGone(t, tb, tid, []int{key})
	case kind < 7:
		tb, ok = impl.LeaveAll(tb, tid)
		want = g.leaveAll(tid)
		checkNowhere(t, tb, tid)
	default:
		// Most draws would not find a writer.
		if writer := writerIn(tb.Cells[key].Lock); writer != 0 && kind > 7 {
			tid = writer
		}
		value, epoch := spreadValues[draw(state, len(spreadValues))], max(0, min(g[key].version.Epoch+draw(state, 4)-2, impl.MaxEpoch))
		tb, ok = impl.SetCell(tb, key, tid, value, epoch)
		want = g.set(key, tid, value, epoch)
		now, word, _ := impl.ReadCell(tb, key)
		if ok && (now != value || !word.Held || impl.LaterWord(word, before.Cells[key].Word) != 1 || impl.StaleFor(tb, key, tid, word) || !impl.StaleFor(tb, key, tid, before.Cells[key].Word)) {
			t.Fatalf("%d was set in %v but %d, %v is read", value, tb, now, word)
		}
	}
	if ok != want {
		t.Fatalf("a step on %v at key %d by %d gives %v, %v", before, key, tid, tb, ok)
	}
	return tb
}

// TestPromise5 plays drawn operations of all Tids on tables of all sizes. The
// versions start near a limit, so that some sets fail.
func TestPromise5(t *testing.T) {
	state := uint32(9)
	for round := range 160 {
		n := 1 + round%impl.MaxKeys
		tb, ok := impl.NewTable(n)
		if !ok {
			t.Fatalf("there is no table of %d cells", n)
		}
		g := make(ledger, n)
		for key := range g {
			g[key] = &struct {
				value    int
				version  impl.Word
				arrivals []impl.Hold
			}{}
			if round%2 == 1 {
				g[key].version = free(draw(&state, 3)*511, 65530+draw(&state, 6))
			}
		}
		if round%2 == 1 {
			tb = g.table()
		}
		checkPromise5(t, tb, g)
		for range 60 + 20*n {
			tb = playStep(t, tb, g, &state)
			checkPromise5(t, tb, g)
		}
		for tid := 1; tid <= impl.MaxTids; tid++ {
			tb, _ = impl.LeaveAll(tb, tid)
			g.leaveAll(tid)
			checkPromise5(t, tb, g)
		}
		for key, c := range tb.Cells {
			if c.Word.Held || !sameLock(c.Lock, impl.Lock{}) {
				t.Fatalf("all have left, but cell %d is %v", key, c)
			}
		}
	}
}

// TestPromise5Handover lets a waiter become a writer when the last reader
// leaves, which has to hold a word that was not held.
func TestPromise5Handover(t *testing.T) {
	tb, _ := impl.NewTable(1)
	tb, first := impl.LockCell(tb, 0, 1, false)
	tb, second := impl.LockCell(tb, 0, 2, true)
	if _, word, _ := impl.ReadCell(tb, 0); first != impl.AskHeld || second != impl.AskWaits || word.Held || impl.StaleFor(tb, 0, 1, word) {
		t.Fatalf("a writer that waits: %v", tb)
	}
	tb, ok := impl.LeaveCell(tb, 0, 1)
	if _, word, _ := impl.ReadCell(tb, 0); !ok || !word.Held || !impl.StaleFor(tb, 0, 1, word) || impl.StaleFor(tb, 0, 2, word) {
		t.Fatalf("the reader has left: %v", tb)
	}
	tb, ok = impl.SetCell(tb, 0, 2, 5, 0)
	if !ok || !sameTable(tb, table("5 0.1* 2w |")) {
		t.Fatalf("the new writer has set: %v", tb)
	}
	tb, ok = impl.LeaveAll(tb, 2)
	if !ok || !sameTable(tb, table("5 0.1 |")) {
		t.Fatalf("the writer has left: %v", tb)
	}
}

// roomyTable puts all lists of tb into one array, with room behind them, and
// its cells into another one, so that whoever appends to a list writes there.
func roomyTable(tb impl.Table) (impl.Table, []impl.Cell, []impl.Hold) {
	var array []impl.Hold
	for _, c := range tb.Cells {
		array = slices.Concat(array, c.Lock.Holders, c.Lock.Waiters)
	}
	array = append(array, holds("7w 7w 7w 7w")...)
	cells := append(slices.Clone(tb.Cells), cell("77 7.7* 7w |"), cell("77 7.7* 7w |"))
	from := 0
	part := func(n int) []impl.Hold {
		from += n
		return array[from-n : from]
	}
	for key, c := range tb.Cells {
		cells[key].Lock = impl.Lock{Holders: part(len(c.Lock.Holders)), Waiters: part(len(c.Lock.Waiters))}
	}
	return impl.Table{Cells: cells[:len(tb.Cells)]}, cells, array
}

// checkTableAlone gives call the table tb and overwrites the lists that it
// returns one after the other, with all their capacity: neither what was given
// nor the other lists may change.
func checkTableAlone(t *testing.T, tb impl.Table, call func(impl.Table) impl.Table) {
	t.Helper()
	given, cells, array := roomyTable(tb)
	cellsBefore, arrayBefore := copyOfTable(impl.Table{Cells: cells}), slices.Clone(array)
	after := call(given)
	kept := copyOfTable(after)
	check := func() {
		t.Helper()
		if !sameTable(impl.Table{Cells: cells}, cellsBefore) || !slices.Equal(array, arrayBefore) {
			t.Fatalf("%v became %v, or its lists", cellsBefore, cells)
		}
		if !sameTable(after, kept) {
			t.Fatalf("lists of %v share memory: %v", kept, after)
		}
	}
	check()
	for key := range after.Cells {
		l := after.Cells[key].Lock
		for _, list := range [][]impl.Hold{l.Holders, l.Waiters} {
			own := slices.Clone(list)
			overwrite(list)
			copy(list, own)
			check()
			for i := range list {
				list[i] = impl.Hold{Tid: -66}
			}
			if !slices.Equal(array, arrayBefore) {
				t.Fatalf("a list of cell %d of %v shares memory", key, kept)
			}
			copy(list, own)
			check()
		}
	}
	all := after.Cells[:cap(after.Cells)]
	for i := range all {
		all[i] = impl.Cell{Value: -55}
	}
	if !sameTable(impl.Table{Cells: cells}, cellsBefore) || !slices.Equal(array, arrayBefore) {
		t.Fatalf("the cells of %v share memory", kept)
	}
}

// tableCalls holds every function that returns a table.
func tableCalls(key, tid int) []func(impl.Table) impl.Table {
	var all []func(impl.Table) impl.Table
	for _, write := range []bool{false, true} {
		all = append(all, func(tb impl.Table) impl.Table {
			after, _ := impl.LockCell(tb, key, tid, write)
			return after
		}, func(tb impl.Table) impl.Table {
			after, _ := impl.TryCell(tb, key, tid, write)
			return after
		})
	}
	return append(all, func(tb impl.Table) impl.Table {
		after, _ := impl.LeaveCell(tb, key, tid)
		return after
	}, func(tb impl.Table) impl.Table {
		after, _ := impl.SetCell(tb, key, tid, 5, impl.MaxEpoch)
		return after
	}, func(tb impl.Table) impl.Table {
		after, _ := impl.LeaveAll(tb, tid)
		return after
	})
}

// TestTablesAlone calls every function for keys and Tids for which it acts and
// for which it refuses.
func TestTablesAlone(t *testing.T) {
	small := table("5 0.1* 2w | 1r 3w, 6 9.0 2r 8r | 1w 3r, 7 0.0* 1w | 2w")
	few := append(someTables()[:40], small, table("3 0.3* 2w | 1r, 0 0.0* |"), impl.Table{Cells: slices.Repeat([]impl.Cell{cell("3 0.3* 2w | 1r")}, 9)})
	for _, tb := range few {
		for key := -1; key <= len(tb.Cells); key++ {
			for tid := range 10 {
				for _, call := range tableCalls(key, tid) {
					checkTableAlone(t, tb, call)
				}
			}
		}
	}
	for _, tb := range badTables() {
		for _, call := range tableCalls(0, 2) {
			checkTableAlone(t, tb, call)
		}
	}
}

// TestTableReadersAlone does the same for the functions that return no table.
func TestTableReadersAlone(t *testing.T) {
	for _, tb := range append(someTables(), badTables()...) {
		checkTableAlone(t, tb, func(given impl.Table) impl.Table {
			impl.TableOk(given)
			overwriteKeys(impl.ValuesOf(given))
			for tid := range 10 {
				overwriteKeys(impl.HeldBy(given, tid))
				impl.WaitsAt(given, tid)
				impl.ReadCell(given, tid)
				impl.StaleFor(given, tid, tid, free(0, 0))
			}
			return impl.Table{}
		})
	}
}

// TestNewTablesAlone changes one new table, which must not change the next.
func TestNewTablesAlone(t *testing.T) {
	first, _ := impl.NewTable(8)
	for key := range first.Cells {
		first.Cells[key] = cell("5 0.1* 2w | 1r")
	}
	if second, ok := impl.NewTable(8); !ok || !sameTable(second, impl.Table{Cells: make([]impl.Cell, 8)}) {
		t.Errorf("the next new table is %v", second)
	}
}
