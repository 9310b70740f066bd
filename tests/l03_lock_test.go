package tests

import (
	"cmp"
	"math"
	"slices"
	"strings"
	"testing"

	"loop.example/g00771/impl"
)

func reader(tid int) impl.Hold { return impl.Hold{Tid: tid} }
func writer(tid int) impl.Hold { return impl.Hold{Tid: tid, Write: true} }

// holds reads a list such as "1r 3w"; its Tids have one digit.
func holds(text string) []impl.Hold {
	var list []impl.Hold
	for _, part := range strings.Fields(text) {
		list = append(list, impl.Hold{Tid: int(part[0] - '0'), Write: part[1:] == "w"})
	}
	return list
}

// lock reads holders, "|" and waiters without checking them.
func lock(text string) impl.Lock {
	holders, waiters, _ := strings.Cut(text, "|")
	return impl.Lock{Holders: holds(holders), Waiters: holds(waiters)}
}

func sameLock(a, b impl.Lock) bool {
	return slices.Equal(a.Holders, b.Holders) && slices.Equal(a.Waiters, b.Waiters)
}

func copyOfLock(l impl.Lock) impl.Lock {
	return impl.Lock{Holders: slices.Clone(l.Holders), Waiters: slices.Clone(l.Waiters)}
}

// someLocks holds valid locks of all forms, up to all Tids in one lock.
var someLocks = []string{
	"|", "1r |", "8r |", "1w |", "8w |", "1r 2r |", "1r 8r |", "3w | 4r", "3w | 4w", "8w | 1r", "1r | 8w", "1r 2r | 3w 4r", "2r | 1w 8w",
	"2r 4r 6r | 5w 3r 1w", "4w | 3r 2r 1r", "4w | 3r 2w 1r", "7w | 5r 1r 6r 3w 2r", "1r 2r 3r 4r 5r 6r 7r 8r |", "1w | 2r 3r 4r 5r 6r 7r 8r",
	"8w | 7w 6w 5w 4w 3w 2w 1w", "1r 2r 3r 4r | 8w 7r 6w 5r", "1r 2r 3r 4r 5r 6r 7r | 8w", "5w | 8r 7r 6r 4w 3r 2r 1r",
}

// badTids holds Tids just beyond each limit, and far beyond.
var badTids = []int{0, 9, -1, 10, -8, math.MinInt, math.MaxInt, 1<<32 + 1}

// badLocks holds locks that break each condition, mostly one at a time.
func badLocks() []impl.Lock {
	var all []impl.Lock
	for _, text := range []string{
		"1r 1r |", "3r 3r 4r |", "1r 3r 3r |", "1w 1w |", "1r | 1w", "3w | 3r", "3w | 3w", "1r 2r | 3w 2r", "1w | 2r 2r", "1w | 2r 2w", "1w | 2r 3r 2r", "1w | 2w 3w 1w",
		"1w 2w |", "1w 2r |", "1r 2w |", "1r 2w 3r |", "1w 2r | 3w", "1r 2w | 3r", "1r 2r 3w |",
		"2r 1r |", "1r 3r 2r |", "2r 1r | 3w", "8r 1r |", "2r 3r 1r | 4w",
		"| 1r", "| 1w", "| 1w 2r", "| 2r 1w", "1r | 2r", "2r | 1r", "1r 2r | 3r 4w", "1r | 2r 3w", "1r 2r 3r 4r 5r 6r 7r | 8r",
	} {
		all = append(all, lock(text))
	}
	for _, tid := range badTids {
		all = append(all,
			impl.Lock{Holders: []impl.Hold{reader(tid)}}, impl.Lock{Holders: []impl.Hold{writer(tid)}},
			impl.Lock{Holders: []impl.Hold{reader(min(tid, 4)), reader(max(tid, 4))}},
			impl.Lock{Holders: []impl.Hold{reader(4)}, Waiters: []impl.Hold{writer(tid)}},
			impl.Lock{Holders: []impl.Hold{writer(4)}, Waiters: []impl.Hold{writer(5), reader(tid)}})
	}
	nine := holds("1r 2r 3r 4r 5r 6r 7r 8r 9r")
	return append(all, impl.Lock{Holders: nine}, impl.Lock{Holders: nine[:1], Waiters: slices.Repeat([]impl.Hold{writer(2)}, 1000)})
}

// lockAfter builds the lock from those in it in the order of their arrival: as
// nobody overtakes, the holders are a first writer alone or all first readers.
func lockAfter(arrivals []impl.Hold) impl.Lock {
	granted := 0
	for granted < len(arrivals) && !arrivals[granted].Write {
		granted++
	}
	if granted == 0 && len(arrivals) > 0 {
		granted = 1
	}
	l := impl.Lock{Holders: slices.Clone(arrivals[:granted]), Waiters: slices.Clone(arrivals[granted:])}
	slices.SortFunc(l.Holders, func(a, b impl.Hold) int { return cmp.Compare(a.Tid, b.Tid) })
	return l
}

// arrivalsOf calls visit with all lists of up to len(tids) of them in any
// order, each as a reader and as a writer.
func arrivalsOf(tids []int, visit func([]impl.Hold)) {
	var list []impl.Hold
	var grow func()
	grow = func() {
		visit(slices.Clone(list))
		for _, tid := range tids {
			if slices.ContainsFunc(list, func(h impl.Hold) bool { return h.Tid == tid }) {
				continue
			}
			for _, h := range []impl.Hold{reader(tid), writer(tid)} {
				list = append(list, h)
				grow()
				list = list[:len(list)-1]
			}
		}
	}
	grow()
}

func TestChapter3Constants(t *testing.T) {
	if impl.MaxTids != 8 || impl.AskHeld != 0 || impl.AskWaits != 1 || impl.AskBad != 2 {
		t.Error("constants differ from the document")
	}
}

func TestLockOk(t *testing.T) {
	for _, text := range someLocks {
		if !impl.LockOk(lock(text)) {
			t.Errorf("LockOk(%s) is false", text)
		}
	}
	for _, l := range badLocks() {
		if impl.LockOk(l) {
			t.Errorf("LockOk(%v) is true", l)
		}
	}
	if !impl.LockOk(impl.Lock{Holders: []impl.Hold{}, Waiters: []impl.Hold{}}) {
		t.Error("an empty lock is invalid")
	}
}

// TestLockOkOfAll cuts all lists of up to four holds into holders and waiters:
// a cut is valid exactly if those arrivals give these holders.
func TestLockOkOfAll(t *testing.T) {
	tids := []int{0, 1, 2, 5, 8, 9}
	var check func(list []impl.Hold)
	check = func(list []impl.Hold) {
		met, distinct := map[int]bool{}, true
		for _, h := range list {
			distinct = distinct && !met[h.Tid] && 1 <= h.Tid && h.Tid <= 8
			met[h.Tid] = true
		}
		for cut := range len(list) + 1 {
			l := impl.Lock{Holders: slices.Clone(list[:cut]), Waiters: slices.Clone(list[cut:])}
			if want := distinct && sameLock(l, lockAfter(list)); impl.LockOk(l) != want {
				t.Fatalf("LockOk(%v) is %v", l, !want)
			}
		}
		if len(list) == 4 {
			return
		}
		for _, tid := range tids {
			check(append(slices.Clone(list), reader(tid)))
			check(append(slices.Clone(list), writer(tid)))
		}
	}
	check(nil)
}

func TestAskLock(t *testing.T) {
	cases := []struct {
		before string
		h      impl.Hold
		after  string
		code   int
	}{
		{"|", reader(1), "1r |", 0}, {"|", writer(1), "1w |", 0}, {"|", reader(8), "8r |", 0}, {"|", writer(8), "8w |", 0},
		{"1r |", reader(8), "1r 8r |", 0}, {"8r |", reader(1), "1r 8r |", 0}, {"2r 6r |", reader(4), "2r 4r 6r |", 0},
		{"1r |", writer(2), "1r | 2w", 1}, {"2w |", reader(1), "2w | 1r", 1}, {"2w |", writer(8), "2w | 8w", 1},
		{"1r | 2w", reader(3), "1r | 2w 3r", 1}, {"3r | 2w", reader(1), "3r | 2w 1r", 1}, {"1r | 2w", writer(3), "1r | 2w 3w", 1},
		{"1r 2r | 3w 4r", reader(5), "1r 2r | 3w 4r 5r", 1}, {"3w | 4r", reader(1), "3w | 4r 1r", 1}, {"3w | 4r", writer(1), "3w | 4r 1w", 1},
		{"1r 2r 3r 4r 5r 6r 7r |", reader(8), "1r 2r 3r 4r 5r 6r 7r 8r |", 0}, {"2r 3r 4r 5r 6r 7r 8r |", reader(1), "1r 2r 3r 4r 5r 6r 7r 8r |", 0},
		{"2w | 3r 4r 5w 6r 7w 8r", writer(1), "2w | 3r 4r 5w 6r 7w 8r 1w", 1},
	}
	for _, c := range cases {
		before := lock(c.before)
		after, code := impl.AskLock(before, c.h.Tid, c.h.Write)
		if code != c.code || !sameLock(after, lock(c.after)) {
			t.Errorf("AskLock(%s, %v) = %v, %d", c.before, c.h, after, code)
		}
		if free := impl.FreeFor(before, c.h.Tid, c.h.Write); free != (c.code == 0) {
			t.Errorf("FreeFor(%s, %v) = %v", c.before, c.h, free)
		}
		want := c.before
		if c.code == 0 {
			want = c.after
		}
		if after, ok := impl.TryLock(before, c.h.Tid, c.h.Write); ok != (c.code == 0) || !sameLock(after, lock(want)) {
			t.Errorf("TryLock(%s, %v) = %v, %v", c.before, c.h, after, ok)
		}
	}
}

func TestLeaveLock(t *testing.T) {
	cases := []struct {
		before string
		tid    int
		after  string
	}{
		{"1r |", 1, "|"}, {"8w |", 8, "|"}, {"1r 2r |", 1, "2r |"}, {"1r 2r |", 2, "1r |"}, {"1r 2r 3r |", 2, "1r 3r |"},
		{"3w | 4r", 3, "4r |"}, {"3w | 4w", 3, "4w |"}, {"3w | 4r", 4, "3w |"},
		{"3w | 4w 5r", 3, "4w | 5r"}, {"3w | 4w 5w", 3, "4w | 5w"}, {"3w | 4r 2r 5w 1r", 3, "2r 4r | 5w 1r"}, {"3w | 8r 1r 4r", 3, "1r 4r 8r |"},
		{"1r | 2w", 1, "2w |"}, {"1r | 2w 3r", 1, "2w | 3r"}, {"1r 2r | 3w", 1, "2r | 3w"}, {"1r 2r | 3w", 2, "1r | 3w"}, {"1r 2r 4r | 3w 5r", 2, "1r 4r | 3w 5r"},
		{"1r | 2w 3r", 2, "1r 3r |"}, {"4r | 2w 8r 1r 3w 5r", 2, "1r 4r 8r | 3w 5r"}, {"1r | 2w 3w 4r", 2, "1r | 3w 4r"},
		{"1r | 2w 3r 4w", 3, "1r | 2w 4w"}, {"1w | 2w 3r 4w", 3, "1w | 2w 4w"}, {"1w | 2r 3w 4r", 3, "1w | 2r 4r"}, {"1r | 2w 3r 4w", 4, "1r | 2w 3r"}, {"1w | 2w 3r", 2, "1w | 3r"},
		{"1r 2r 3r 4r 5r 6r 7r 8r |", 4, "1r 2r 3r 5r 6r 7r 8r |"}, {"1w | 2r 3r 4r 5r 6r 7r 8r", 1, "2r 3r 4r 5r 6r 7r 8r |"},
		{"5w | 8r 7r 6r 4w 3r 2r 1r", 5, "6r 7r 8r | 4w 3r 2r 1r"}, {"5w | 8r 7r 6r 4w 3r 2r 1r", 4, "5w | 8r 7r 6r 3r 2r 1r"},
		{"1r 2r 3r 4r 5r 6r 7r | 8w", 8, "1r 2r 3r 4r 5r 6r 7r |"},
	}
	for _, c := range cases {
		if after, ok := impl.LeaveLock(lock(c.before), c.tid); !ok || !sameLock(after, lock(c.after)) {
			t.Errorf("LeaveLock(%s, %d) = %v, %v", c.before, c.tid, after, ok)
		}
	}
}

// checkRefusal asks for nothing that l could give to tid.
func checkRefusal(t *testing.T, l impl.Lock, tid int) {
	t.Helper()
	for _, write := range []bool{false, true} {
		if after, code := impl.AskLock(l, tid, write); code != impl.AskBad || !sameLock(after, l) {
			t.Errorf("AskLock(%v, %d, %v) = %v, %d", l, tid, write, after, code)
		}
		if after, ok := impl.TryLock(l, tid, write); ok || !sameLock(after, l) {
			t.Errorf("TryLock(%v, %d, %v) = %v, %v", l, tid, write, after, ok)
		}
		if impl.FreeFor(l, tid, write) {
			t.Errorf("FreeFor(%v, %d, %v) is true", l, tid, write)
		}
	}
}

func checkAbsent(t *testing.T, l impl.Lock, tid int) {
	t.Helper()
	if after, ok := impl.LeaveLock(l, tid); ok || !sameLock(after, l) {
		t.Errorf("LeaveLock(%v, %d) = %v, %v", l, tid, after, ok)
	}
	if got := impl.HoldsLock(l, tid); got != 0 {
		t.Errorf("HoldsLock(%v, %d) = %d", l, tid, got)
	}
}

// TestLockRefusals gives valid locks Tids that are none, that are there
// already, and that are not there.
func TestLockRefusals(t *testing.T) {
	for _, text := range someLocks {
		l := lock(text)
		for _, tid := range badTids {
			checkRefusal(t, l, tid)
			checkAbsent(t, l, tid)
		}
		for tid := 1; tid <= impl.MaxTids; tid++ {
			if strings.Contains(text, string(rune('0'+tid))) {
				checkRefusal(t, l, tid)
			} else {
				checkAbsent(t, l, tid)
			}
		}
	}
}

func TestInvalidLocks(t *testing.T) {
	for _, l := range badLocks() {
		for tid := -1; tid <= 10; tid++ {
			checkRefusal(t, l, tid)
			checkAbsent(t, l, tid)
		}
		for _, h := range slices.Concat(l.Holders, l.Waiters) {
			checkRefusal(t, l, h.Tid)
			checkAbsent(t, l, h.Tid)
		}
		if len(impl.QueueOf(l)) != 0 || impl.LockText(l) != "" {
			t.Errorf("%v: queue %v, text %q", l, impl.QueueOf(l), impl.LockText(l))
		}
	}
}

func TestHoldsLock(t *testing.T) {
	for _, text := range someLocks {
		holders, waiters, _ := strings.Cut(text, "|")
		for tid := 1; tid <= impl.MaxTids; tid++ {
			digit, want := string(rune('0'+tid)), 0
			switch {
			case strings.Contains(waiters, digit):
				want = 3
			case strings.Contains(holders, digit+"w"):
				want = 2
			case strings.Contains(holders, digit+"r"):
				want = 1
			}
			if got := impl.HoldsLock(lock(text), tid); got != want {
				t.Errorf("HoldsLock(%s, %d) = %d", text, tid, got)
			}
		}
	}
}

func TestQueueOf(t *testing.T) {
	cases := []struct {
		l    string
		tids []int
	}{
		{"|", nil}, {"3w |", nil}, {"1r 2r |", nil}, {"3w | 4r", []int{4}}, {"1r 2r | 8w", []int{8}}, {"4w | 3r 2w 1r", []int{3, 2, 1}},
		{"8w | 7w 6w 5w 4w 3w 2w 1w", []int{7, 6, 5, 4, 3, 2, 1}}, {"5w | 8r 1w 7r", []int{8, 1, 7}},
	}
	for _, c := range cases {
		if got := impl.QueueOf(lock(c.l)); !slices.Equal(got, c.tids) {
			t.Errorf("QueueOf(%s) = %v", c.l, got)
		}
	}
}

func TestLockText(t *testing.T) {
	for _, text := range someLocks {
		if got := impl.LockText(lock(text)); got != text {
			t.Errorf("LockText = %q instead of %q", got, text)
		}
	}
	if got := impl.LockText(impl.Lock{Holders: []impl.Hold{}, Waiters: []impl.Hold{}}); got != "|" {
		t.Errorf("LockText of an empty lock = %q", got)
	}
}

func TestPlayLock(t *testing.T) {
	cases := []struct {
		ops  [][]int
		l    string
		told []int
	}{
		{nil, "|", nil},
		{[][]int{{0, 1, 0}, {0, 8, 0}, {0, 4, 0}}, "1r 4r 8r |", []int{0, 0, 0}},
		{[][]int{{0, 1, 1}, {0, 2, 0}, {0, 3, 1}, {0, 4, 0}}, "1w | 2r 3w 4r", []int{0, 1, 1, 1}},
		{[][]int{{0, 1, 1}, {0, 2, 0}, {0, 3, 1}, {0, 4, 0}, {2, 3, 0}, {2, 1, 9}}, "2r 4r |", []int{0, 1, 1, 1, 1, 1}},
		{[][]int{{0, 1, 0}, {0, 2, 1}, {1, 3, 0}, {0, 3, 0}, {2, 1, 0}, {2, 2, 0}}, "3r |", []int{0, 1, 0, 1, 1, 1}},
		{[][]int{{1, 1, 0}, {1, 2, 0}, {1, 3, 1}, {2, 1, 0}, {2, 2, 0}, {1, 3, 1}, {1, 4, 0}}, "3w |", []int{1, 1, 0, 1, 1, 1, 0}},
		{[][]int{{1, 5, 1}, {1, 5, 1}, {0, 5, 1}, {2, 5, 1}, {2, 5, 1}}, "|", []int{1, 0, 2, 1, 0}},
		{[][]int{{0, 0, 0}, {0, 9, 0}, {0, -1, 1}, {0, math.MaxInt, 1}, {1, 0, 0}, {1, 9, 0}, {2, 0, 0}, {2, 9, 0}}, "|", []int{2, 2, 2, 2, 0, 0, 0, 0}},
		{[][]int{{0, 1, 2}, {0, 2, -1}, {1, 3, 2}, {1, 4, math.MinInt}}, "1r 2r 3r 4r |", []int{0, 0, 1, 1}},
		{[][]int{{3, 1, 0}, {-1, 1, 0}, {4, 1, 1}, {math.MaxInt, 1, 0}, {math.MinInt, 1, 0}, {1 << 32, 1, 0}}, "|", []int{-1, -1, -1, -1, -1, -1}},
		{[][]int{nil, {}, {0}, {0, 1}, {0, 1, 0, 0}, {1, 2}, {2}, {3}, {3, 1, 0, 0}, make([]int, 1000)}, "|", []int{-1, -1, -1, -1, -1, -1, -1, -1, -1, -1}},
		{[][]int{{0, 6, 1}, {2, 6}, {2, 6, 0, 0}, {5, 6, 0}, {0, 7, 0}}, "6w | 7r", []int{0, -1, -1, -1, 1}},
	}
	for _, c := range cases {
		if l, told := impl.PlayLock(c.ops); !sameLock(l, lock(c.l)) || !slices.Equal(told, c.told) {
			t.Errorf("PlayLock(%v) = %v, %v", c.ops, l, told)
		}
	}
}

func TestPlayLockLimit(t *testing.T) {
	most := slices.Repeat([][]int{{0, 1, 1}, {0, 2, 0}, {2, 1, 0}, {2, 2, 0}, {0, 3, 1}, {2, 3, 0}}, 50)
	most[299] = []int{0, 8, 1}
	if l, told := impl.PlayLock(most); len(told) != 300 || !slices.Equal(told[:6], []int{0, 1, 1, 1, 0, 1}) || told[299] != 1 || !sameLock(l, lock("3w | 8w")) {
		t.Errorf("PlayLock of 300 operations = %v, %v", l, told)
	}
	for _, more := range [][][]int{append(slices.Clone(most), []int{0, 7, 0}), append(slices.Clone(most), nil), make([][]int, 301), make([][]int, 10000)} {
		if l, told := impl.PlayLock(more); !sameLock(l, impl.Lock{}) || len(told) != 0 {
			t.Errorf("PlayLock of %d operations = %v, %v", len(more), l, told)
		}
	}
}

// TestLockStepsOfAll takes every order in which up to five Tids can have
// arrived, and lets every Tid ask, try and leave.
func TestLockStepsOfAll(t *testing.T) {
	tids := []int{1, 2, 4, 7, 8}
	arrivalsOf(tids, func(arrivals []impl.Hold) {
		l := lockAfter(arrivals)
		for _, tid := range tids {
			at := slices.IndexFunc(arrivals, func(h impl.Hold) bool { return h.Tid == tid })
			if at >= 0 {
				checkRefusal(t, l, tid)
				rest := lockAfter(slices.Delete(slices.Clone(arrivals), at, at+1))
				if after, ok := impl.LeaveLock(l, tid); !ok || !sameLock(after, rest) {
					t.Fatalf("LeaveLock(%v, %d) = %v, %v", l, tid, after, ok)
				}
				continue
			}
			checkAbsent(t, l, tid)
			for _, h := range []impl.Hold{reader(tid), writer(tid)} {
				next := lockAfter(append(slices.Clone(arrivals), h))
				free := slices.Contains(next.Holders, h)
				after, code := impl.AskLock(l, tid, h.Write)
				if code != map[bool]int{true: 0, false: 1}[free] || !sameLock(after, next) || impl.FreeFor(l, tid, h.Write) != free {
					t.Fatalf("AskLock(%v, %v) = %v, %d", l, h, after, code)
				}
				if !free {
					next = l
				}
				if after, ok := impl.TryLock(l, tid, h.Write); ok != free || !sameLock(after, next) {
					t.Fatalf("TryLock(%v, %v) = %v, %v", l, h, after, ok)
				}
			}
		}
	})
}

// turns remembers who arrived at a lock when, as its lists do not.
type turns struct {
	last    int
	arrived map[int]int
}

func (s *turns) note(tid int) {
	s.last++
	s.arrived[tid] = s.last
}

// checkPromise3 is about a lock in which exactly those of s are.
func checkPromise3(t *testing.T, l impl.Lock, s turns) {
	t.Helper()
	if !impl.LockOk(l) || len(l.Holders)+len(l.Waiters) != len(s.arrived) {
		t.Fatalf("%v is invalid or holds others than %v", l, s.arrived)
	}
	for _, h := range l.Holders {
		if h.Write && len(l.Holders) > 1 {
			t.Fatalf("a writer holds %v with others", l)
		}
		for _, w := range l.Waiters {
			if w.Write && s.arrived[w.Tid] < s.arrived[h.Tid] {
				t.Fatalf("%d arrived after the writer %d but holds %v", h.Tid, w.Tid, l)
			}
		}
	}
	if !slices.IsSortedFunc(l.Waiters, func(a, b impl.Hold) int { return cmp.Compare(s.arrived[a.Tid], s.arrived[b.Tid]) }) {
		t.Fatalf("the waiters of %v are not in the order of arrival", l)
	}
	for tid := 1; tid <= impl.MaxTids; tid++ {
		digit := string(rune('0' + tid))
		there := s.arrived[tid] > 0
		if (impl.HoldsLock(l, tid) > 0) != there || strings.Contains(impl.LockText(l), digit) != there {
			t.Fatalf("%d in %v: %d, %q", tid, l, impl.HoldsLock(l, tid), impl.LockText(l))
		}
		if !there && slices.Contains(impl.QueueOf(l), tid) {
			t.Fatalf("%d waits in %v", tid, l)
		}
	}
}

// drain lets the first holder leave again and again. All are granted the lock,
// and the writers in the order of their arrival.
func drain(t *testing.T, l impl.Lock, s turns) {
	t.Helper()
	last := 0
	for len(l.Holders) > 0 {
		first := l.Holders[0]
		if first.Write && s.arrived[first.Tid] < last {
			t.Fatalf("the writer %d of %v holds the lock after a later one", first.Tid, l)
		}
		if first.Write {
			last = s.arrived[first.Tid]
		}
		next, ok := impl.LeaveLock(l, first.Tid)
		delete(s.arrived, first.Tid)
		if !ok {
			t.Fatalf("%v does not leave %v", first, l)
		}
		l = next
		checkPromise3(t, l, s)
	}
	if len(s.arrived) != 0 {
		t.Fatalf("%v were never granted the lock", s.arrived)
	}
}

// TestPromise3 plays drawn operations of all Tids one by one, with writers
// more or less frequent, then all of them at once, and empties the lock.
func TestPromise3(t *testing.T) {
	state := uint32(4)
	for round := range 300 {
		var l impl.Lock
		var ops [][]int
		var told []int
		s := turns{arrived: map[int]int{}}
		for range 150 {
			kind, tid, write := draw(&state, 3), 1+draw(&state, impl.MaxTids), draw(&state, 2+round%5) == 0
			code := 0
			switch kind {
			case 0:
				l, code = impl.AskLock(l, tid, write)
				if code != impl.AskBad {
					s.note(tid)
				}
			case 1:
				next, ok := impl.TryLock(l, tid, write)
				l = next
				if ok {
					code = 1
					s.note(tid)
				}
			case 2:
				next, ok := impl.LeaveLock(l, tid)
				l = next
				if ok {
					code = 1
					delete(s.arrived, tid)
				}
			}
			checkPromise3(t, l, s)
			ops = append(ops, []int{kind, tid, map[bool]int{true: 1, false: draw(&state, 2) * 2}[write]})
			told = append(told, code)
		}
		if played, codes := impl.PlayLock(ops); !sameLock(played, l) || !slices.Equal(codes, told) {
			t.Fatalf("PlayLock(%v) = %v, %v", ops, played, codes)
		}
		drain(t, l, s)
	}
}

// TestPromise3Readers lets readers come behind a waiting writer, which would
// never hold the lock if they were granted it.
func TestPromise3Readers(t *testing.T) {
	l, told := impl.PlayLock([][]int{{0, 1, 0}, {0, 2, 1}, {0, 3, 0}, {1, 4, 0}, {0, 5, 0}})
	if !slices.Equal(told, []int{0, 1, 1, 0, 1}) || !sameLock(l, lock("1r | 2w 3r 5r")) {
		t.Fatalf("readers behind a writer: %v, %v", l, told)
	}
	l, ok := impl.LeaveLock(l, 1)
	if !ok || !sameLock(l, lock("2w | 3r 5r")) {
		t.Fatalf("the reader before the writer has left: %v", l)
	}
	l, ok = impl.LeaveLock(l, 2)
	if !ok || !sameLock(l, lock("3r 5r |")) {
		t.Fatalf("the writer has left: %v", l)
	}
}

// inOneArray puts both lists of l into one array, with room behind them, so
// that whoever appends to one of them writes into the array.
func inOneArray(l impl.Lock) (impl.Lock, []impl.Hold) {
	array := slices.Concat(l.Holders, l.Waiters, holds("7w 7w 7w 7w"))
	split, end := len(l.Holders), len(l.Holders)+len(l.Waiters)
	return impl.Lock{Holders: array[:split], Waiters: array[split:end]}, array
}

func overwrite(list []impl.Hold) {
	list = list[:cap(list)]
	for i := range list {
		list[i] = impl.Hold{Tid: -55, Write: true}
	}
}

// checkAlone gives call the lock l and overwrites the lists that it returns,
// with all their capacity: neither l nor the other list may change.
func checkAlone(t *testing.T, l impl.Lock, call func(impl.Lock) impl.Lock) {
	t.Helper()
	given, array := inOneArray(l)
	before := slices.Clone(array)
	after := call(given)
	if !slices.Equal(array, before) {
		t.Fatalf("%v became %v", before, array)
	}
	kept := copyOfLock(after)
	overwrite(after.Holders)
	if !slices.Equal(array, before) || !slices.Equal(after.Waiters, kept.Waiters) {
		t.Fatalf("the holders of %v share memory: %v, %v", kept, array, after.Waiters)
	}
	copy(after.Holders, kept.Holders)
	overwrite(after.Waiters)
	if !slices.Equal(array, before) || !slices.Equal(after.Holders, kept.Holders) {
		t.Fatalf("the waiters of %v share memory: %v, %v", kept, array, after.Holders)
	}
}

// TestLocksAlone calls every function for every Tid, also where it refuses.
func TestLocksAlone(t *testing.T) {
	all := badLocks()
	for _, text := range someLocks {
		all = append(all, lock(text))
	}
	for _, l := range all {
		for tid := 0; tid <= impl.MaxTids+1; tid++ {
			for _, write := range []bool{false, true} {
				checkAlone(t, l, func(l impl.Lock) impl.Lock {
					after, _ := impl.AskLock(l, tid, write)
					return after
				})
				checkAlone(t, l, func(l impl.Lock) impl.Lock {
					after, _ := impl.TryLock(l, tid, write)
					return after
				})
			}
			checkAlone(t, l, func(l impl.Lock) impl.Lock {
				after, _ := impl.LeaveLock(l, tid)
				return after
			})
			checkAlone(t, l, func(l impl.Lock) impl.Lock {
				impl.LockOk(l)
				impl.HoldsLock(l, tid)
				impl.FreeFor(l, tid, true)
				impl.FreeFor(l, tid, false)
				impl.QueueOf(l)
				impl.LockText(l)
				return impl.Lock{}
			})
		}
	}
}

func TestPlayLockAlone(t *testing.T) {
	ops := [][]int{{0, 1, 0}, {0, 2, 1}, {1, 3, 0}, {2, 1, 0}, {3, 1, 1}, {0, 1}}
	before := [][]int{{0, 1, 0}, {0, 2, 1}, {1, 3, 0}, {2, 1, 0}, {3, 1, 1}, {0, 1}}
	l, told := impl.PlayLock(ops)
	overwrite(l.Holders)
	overwrite(l.Waiters)
	for i := range told {
		told[i] = -55
	}
	if !slices.EqualFunc(ops, before, slices.Equal[[]int]) {
		t.Errorf("the operations became %v", ops)
	}
	if again, _ := impl.PlayLock(ops); !sameLock(again, lock("2w |")) {
		t.Errorf("a second play ends with %v", again)
	}
}
