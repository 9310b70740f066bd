package tests

import (
	"math"
	"slices"
	"strings"
	"testing"

	"loop.example/g00771/impl"
)

// wants reads a list such as "0r 2w"; its keys have one digit.
func wants(text string) []impl.Want {
	var list []impl.Want
	for _, part := range strings.Fields(text) {
		list = append(list, impl.Want{Key: int(part[0] - '0'), Write: part[1:] == "w"})
	}
	return list
}

// listsOf returns every lock list of some of the keys, which are ascending.
func listsOf(keys []int) [][]impl.Want {
	lists := [][]impl.Want{nil}
	for _, key := range keys {
		for _, list := range lists {
			lists = append(lists, append(slices.Clone(list), impl.Want{Key: key}), append(slices.Clone(list), impl.Want{Key: key, Write: true}))
		}
	}
	return lists
}

// modes holds how each key of a lock list is wanted, so that lists can be
// compared key by key.
func modes(list []impl.Want) map[int]bool {
	m := map[int]bool{}
	for _, want := range list {
		m[want.Key] = want.Write
	}
	return m
}

// heatWith returns a heat list of rest, but with level at key.
func heatWith(rest, key, level int) []int {
	h := slices.Repeat([]int{rest}, impl.MaxKeys)
	h[key] = level
	return h
}

// someHeats holds every level at every key among cold and hot keys, and drawn
// heat lists.
func someHeats() [][]int {
	all := [][]int{{0, 1, 2, 3, 4, 5, 6, 7}, {20, 19, 18, 17, 16, 15, 14, 13}, {0, 20, 0, 20, 0, 20, 0, 20}, {8, 9, 10, 11, 12, 1, 0, 20}}
	for key := range impl.MaxKeys {
		for level := range impl.MaxHeat + 1 {
			all = append(all, heatWith(0, key, level), heatWith(1, key, level), heatWith(20, key, level))
		}
	}
	state := uint32(5)
	for range 500 {
		h := make([]int, impl.MaxKeys)
		for key := range h {
			h[key] = draw(&state, impl.MaxHeat+1)
		}
		all = append(all, h)
	}
	return all
}

var badLevels = []int{-1, 21, 22, -20, math.MinInt, math.MaxInt, 1 << 32, 1<<32 + 5}

var badKeys = []int{-1, 8, 9, -8, math.MinInt, math.MaxInt, 1 << 32, 1<<32 + 2}

// badHeats holds lists of other lengths, and those with each bad level at each
// key.
func badHeats() [][]int {
	all := [][]int{nil, {}, {0}, {20}}
	for _, n := range []int{2, 7, 9, 16, 300, 1000} {
		all = append(all, make([]int, n), slices.Repeat([]int{20}, n))
	}
	for key := range impl.MaxKeys {
		for _, level := range badLevels {
			all = append(all, heatWith(0, key, level), heatWith(20, key, level))
		}
	}
	return all
}

// badWants holds lists that are no lock lists: not ascending, with a key
// twice, and with a key out of its limits at each place.
func badWants() [][]impl.Want {
	var all [][]impl.Want
	for _, text := range []string{
		"1r 0r", "1w 0w", "7r 0r", "2r 1w", "0r 2r 1r", "1r 0r 2r", "0r 1r 3r 2r", "6w 7w 5w", "0r 1r 2r 3r 4r 5r 7r 6r", "7r 6r 5r 4r 3r 2r 1r 0r",
		"0r 0r", "0w 0w", "0r 0w", "0w 0r", "7r 7r", "0r 1r 1r", "1r 1r 2r", "1r 2r 1r", "0r 1w 2r 1w", "0r 1r 2r 3r 4r 5r 6r 7r 7r",
	} {
		all = append(all, wants(text))
	}
	for _, key := range badKeys {
		bad := impl.Want{Key: key}
		all = append(all, []impl.Want{bad}, []impl.Want{{Key: key, Write: true}}, []impl.Want{bad, {Key: 0}}, []impl.Want{bad, {Key: 7}},
			[]impl.Want{{Key: 0}, bad}, []impl.Want{{Key: 7}, bad}, []impl.Want{{Key: 1}, bad, {Key: 3}})
	}
	everyKey := wants("0r 1w 2r 3w 4r 5w 6r 7w")
	return append(all, append(everyKey, impl.Want{Key: 8}), slices.Repeat(everyKey, 100))
}

func TestChapter4Limits(t *testing.T) {
	if impl.MaxHeat != 20 {
		t.Error("MaxHeat differs from the document")
	}
}

func TestHeatOk(t *testing.T) {
	for _, h := range someHeats() {
		if !impl.HeatOk(h) {
			t.Errorf("HeatOk(%v) is false", h)
		}
	}
	for _, h := range badHeats() {
		if impl.HeatOk(h) {
			t.Errorf("HeatOk(%v) is true", h)
		}
	}
}

func TestWarmKey(t *testing.T) {
	cases := []struct {
		h       []int
		key, by int
		after   []int
	}{
		{make([]int, 8), 2, 3, []int{0, 0, 3, 0, 0, 0, 0, 0}},
		{[]int{1, 2, 3, 4, 5, 6, 7, 8}, 0, 1, []int{2, 2, 3, 4, 5, 6, 7, 8}},
		{[]int{1, 2, 3, 4, 5, 6, 7, 8}, 7, 1, []int{1, 2, 3, 4, 5, 6, 7, 9}},
		{[]int{1, 2, 3, 4, 5, 6, 7, 8}, 4, 0, []int{1, 2, 3, 4, 5, 6, 7, 8}},
		{[]int{0, 0, 0, 0, 0, 0, 0, 0}, 0, 20, []int{20, 0, 0, 0, 0, 0, 0, 0}},
		{[]int{0, 0, 0, 19, 0, 0, 0, 0}, 3, 1, []int{0, 0, 0, 20, 0, 0, 0, 0}},
		{[]int{0, 0, 0, 19, 0, 0, 0, 0}, 3, 2, []int{0, 0, 0, 20, 0, 0, 0, 0}},
		{[]int{0, 0, 0, 0, 20, 0, 0, 0}, 4, 0, []int{0, 0, 0, 0, 20, 0, 0, 0}},
		{[]int{0, 0, 0, 0, 20, 0, 0, 0}, 4, 1, []int{0, 0, 0, 0, 20, 0, 0, 0}},
		{slices.Repeat([]int{20}, 8), 5, 20, slices.Repeat([]int{20}, 8)},
	}
	for _, c := range cases {
		if after, ok := impl.WarmKey(c.h, c.key, c.by); !ok || !slices.Equal(after, c.after) {
			t.Errorf("WarmKey(%v, %d, %d) = %v, %v", c.h, c.key, c.by, after, ok)
		}
	}
}

// TestWarmKeyOfAll warms every level of every key by every number.
func TestWarmKeyOfAll(t *testing.T) {
	for key := range impl.MaxKeys {
		for level := range 21 {
			for by := range 21 {
				h, want := heatWith(7, key, level), heatWith(7, key, min(level+by, 20))
				if after, ok := impl.WarmKey(h, key, by); !ok || !slices.Equal(after, want) {
					t.Fatalf("WarmKey(%v, %d, %d) = %v, %v", h, key, by, after, ok)
				}
			}
		}
	}
}

func checkCold(t *testing.T, h []int, key, by int) {
	t.Helper()
	if after, ok := impl.WarmKey(h, key, by); ok || !slices.Equal(after, h) {
		t.Errorf("WarmKey(%v, %d, %d) = %v, %v", h, key, by, after, ok)
	}
}

func TestWarmKeyRefuses(t *testing.T) {
	for _, h := range [][]int{make([]int, 8), {1, 2, 3, 4, 5, 6, 7, 8}, slices.Repeat([]int{20}, 8)} {
		for _, key := range badKeys {
			checkCold(t, h, key, 0)
			checkCold(t, h, key, 1)
			checkCold(t, h, key, 21)
		}
		for _, by := range badLevels {
			checkCold(t, h, 0, by)
			checkCold(t, h, 7, by)
		}
	}
	for _, h := range badHeats() {
		for key := -1; key <= 8; key++ {
			checkCold(t, h, key, 0)
			checkCold(t, h, key, 1)
		}
	}
}

func TestCoolAll(t *testing.T) {
	cases := []struct{ h, after []int }{
		{make([]int, 8), make([]int, 8)},
		{[]int{0, 1, 2, 3, 4, 5, 6, 7}, []int{0, 0, 1, 1, 2, 2, 3, 3}},
		{[]int{20, 19, 18, 17, 16, 15, 14, 13}, []int{10, 9, 9, 8, 8, 7, 7, 6}},
		{[]int{8, 9, 10, 11, 12, 1, 0, 20}, []int{4, 4, 5, 5, 6, 0, 0, 10}},
		{slices.Repeat([]int{1}, 8), make([]int, 8)},
		{slices.Repeat([]int{20}, 8), slices.Repeat([]int{10}, 8)},
	}
	for _, c := range cases {
		if after, ok := impl.CoolAll(c.h); !ok || !slices.Equal(after, c.after) {
			t.Errorf("CoolAll(%v) = %v, %v", c.h, after, ok)
		}
	}
	for _, h := range badHeats() {
		if after, ok := impl.CoolAll(h); ok || !slices.Equal(after, h) {
			t.Errorf("CoolAll(%v) = %v, %v", h, after, ok)
		}
	}
}

func TestHotKeys(t *testing.T) {
	cases := []struct {
		h    []int
		from int
		keys []int
	}{
		{[]int{0, 0, 1, 0, 0, 0, 0, 0}, 1, []int{2}},
		{[]int{0, 0, 1, 0, 0, 0, 0, 0}, 2, nil},
		{[]int{0, 1, 2, 3, 4, 5, 6, 7}, 4, []int{4, 5, 6, 7}},
		{[]int{7, 6, 5, 4, 3, 2, 1, 0}, 4, []int{0, 1, 2, 3}},
		{[]int{0, 1, 2, 3, 4, 5, 6, 7}, 1, []int{1, 2, 3, 4, 5, 6, 7}},
		{[]int{20, 0, 19, 0, 20, 0, 19, 20}, 20, []int{0, 4, 7}},
		{[]int{20, 0, 19, 0, 20, 0, 19, 20}, 19, []int{0, 2, 4, 6, 7}},
		{slices.Repeat([]int{20}, 8), 20, []int{0, 1, 2, 3, 4, 5, 6, 7}},
		{slices.Repeat([]int{19}, 8), 20, nil},
		{make([]int, 8), 1, nil},
		{make([]int, 8), 0, nil}, {slices.Repeat([]int{20}, 8), 0, nil}, {[]int{0, 1, 2, 3, 4, 5, 6, 7}, 0, nil},
	}
	for _, c := range cases {
		if keys := impl.HotKeys(c.h, c.from); !slices.Equal(keys, c.keys) {
			t.Errorf("HotKeys(%v, %d) = %v", c.h, c.from, keys)
		}
	}
}

func TestHotKeysOfAll(t *testing.T) {
	for _, h := range someHeats() {
		for from := 1; from <= 20; from++ {
			var hot []int
			for key, level := range h {
				if level >= from {
					hot = append(hot, key)
				}
			}
			if keys := impl.HotKeys(h, from); !slices.Equal(keys, hot) {
				t.Fatalf("HotKeys(%v, %d) = %v", h, from, keys)
			}
		}
		for _, from := range append(badLevels, 0) {
			if keys := impl.HotKeys(h, from); len(keys) != 0 {
				t.Fatalf("HotKeys(%v, %d) = %v", h, from, keys)
			}
		}
	}
	for _, h := range badHeats() {
		for from := -1; from <= 21; from++ {
			if keys := impl.HotKeys(h, from); len(keys) != 0 {
				t.Fatalf("HotKeys(%v, %d) = %v", h, from, keys)
			}
		}
	}
}

func TestWantsOk(t *testing.T) {
	for _, list := range append(listsOf([]int{0, 1, 2, 3, 4, 5, 6, 7}), []impl.Want{}) {
		if !impl.WantsOk(list) {
			t.Fatalf("WantsOk(%v) is false", list)
		}
	}
	for _, list := range badWants() {
		if impl.WantsOk(list) {
			t.Errorf("WantsOk(%v) is true", list)
		}
	}
}

// TestWantsOkOfAll takes every list of up to four keys at and beyond the
// limits: one is a lock list exactly if sorting it and dropping what is double
// or no key changes nothing.
func TestWantsOkOfAll(t *testing.T) {
	var check func(keys []int)
	check = func(keys []int) {
		sorted := slices.Compact(slices.Sorted(slices.Values(keys)))
		sorted = slices.DeleteFunc(sorted, func(key int) bool { return key < 0 || key > 7 })
		var list []impl.Want
		for i, key := range keys {
			list = append(list, impl.Want{Key: key, Write: i%2 == len(keys)%2})
		}
		if want := slices.Equal(sorted, keys); impl.WantsOk(list) != want {
			t.Fatalf("WantsOk(%v) is %v", list, !want)
		}
		if len(keys) == 4 {
			return
		}
		for key := -1; key <= 8; key++ {
			check(append(slices.Clone(keys), key))
		}
	}
	check(nil)
}

func TestWantsOf(t *testing.T) {
	p := []impl.Act{add(2, 5), get(0)}
	six := []impl.Act{get(7), put(5, 1), add(3, 1), get(5), put(0, 2), get(1)}
	cases := []struct {
		p    []impl.Act
		keys []int
		list string
	}{
		{p, []int{2, 0, 7}, "0r 2w"}, {p, []int{0, 2, 7}, "0r 2w"}, {p, []int{7, 2, 0}, "0r 2w"},
		{p, []int{0, 2}, "0r 2w"}, {p, []int{2}, "2w"}, {p, []int{0}, "0r"}, {p, []int{1, 3, 4, 5, 6, 7}, ""}, {p, nil, ""}, {p, []int{}, ""},
		{p, []int{2, 2, 2}, "2w"}, {p, []int{0, 2, 0, 2, 0}, "0r 2w"}, {p, []int{2, -1, 8, 0, math.MaxInt, math.MinInt}, "0r 2w"}, {p, []int{-1, 8, 1 << 32}, ""},
		{[]impl.Act{get(3), put(3, 1)}, []int{3}, "3w"}, {[]impl.Act{put(3, 1), get(3)}, []int{3}, "3w"}, {[]impl.Act{add(3, 1), get(3)}, []int{3}, "3w"},
		{[]impl.Act{get(3), add(3, 0)}, []int{3}, "3w"}, {[]impl.Act{get(3), get(3)}, []int{3}, "3r"},
		{[]impl.Act{get(3), put(3, 1), get(4)}, []int{4, 3}, "3w 4r"},
		{[]impl.Act{get(7)}, []int{7}, "7r"}, {[]impl.Act{put(0, 0)}, []int{0}, "0w"},
		{six, []int{0, 1, 2, 3, 4, 5, 6, 7}, "0w 1r 3w 5w 7r"}, {six, []int{7, 6, 5, 4, 3, 2, 1, 0}, "0w 1r 3w 5w 7r"}, {six, []int{5, 7, 1}, "1r 5w 7r"},
	}
	for _, c := range cases {
		if list := impl.WantsOf(c.p, c.keys); !slices.Equal(list, wants(c.list)) {
			t.Errorf("WantsOf(%v, %v) = %v", c.p, c.keys, list)
		}
	}
	for _, p := range badPrograms() {
		if list := impl.WantsOf(p, []int{0, 1, 2, 3, 4, 5, 6, 7}); len(list) != 0 {
			t.Errorf("WantsOf(%v) = %v", p, list)
		}
	}
}

func TestWantsOfLimit(t *testing.T) {
	p := []impl.Act{add(2, 5), get(0)}
	most := slices.Repeat([]int{2, 6, -5}, 100)
	most[299] = 0
	if list := impl.WantsOf(p, most); !slices.Equal(list, wants("0r 2w")) {
		t.Errorf("WantsOf for 300 keys = %v", list)
	}
	for _, more := range [][]int{append(slices.Clone(most), 0), append(slices.Clone(most), 8), make([]int, 301), make([]int, 10000)} {
		if list := impl.WantsOf(p, more); len(list) != 0 {
			t.Errorf("WantsOf for %d keys = %v", len(more), list)
		}
	}
}

// TestWantsOfAll recomputes the lists key by key for drawn keys.
func TestWantsOfAll(t *testing.T) {
	state := uint32(6)
	for _, p := range somePrograms() {
		keys := make([]int, draw(&state, 12))
		for i := range keys {
			keys[i] = draw(&state, 10) - 1
		}
		var want []impl.Want
		for key := range impl.MaxKeys {
			onKey := func(a impl.Act) bool { return a.Key == key }
			if slices.ContainsFunc(p, onKey) && slices.Contains(keys, key) {
				want = append(want, impl.Want{Key: key, Write: slices.ContainsFunc(p, func(a impl.Act) bool { return onKey(a) && a.Kind != 0 })})
			}
		}
		if list := impl.WantsOf(p, keys); !slices.Equal(list, want) || !impl.WantsOk(list) {
			t.Fatalf("WantsOf(%v, %v) = %v", p, keys, list)
		}
	}
}

func TestMergeWants(t *testing.T) {
	cases := []struct{ a, b, both string }{
		{"", "", ""}, {"1r", "", "1r"}, {"", "1w", "1w"}, {"0r 7w", "", "0r 7w"}, {"", "0w 3r 7r", "0w 3r 7r"},
		{"1r", "1r", "1r"}, {"1r", "1w", "1w"}, {"1w", "1r", "1w"}, {"1w", "1w", "1w"},
		{"1r", "1w 3r", "1w 3r"}, {"0r", "1r", "0r 1r"}, {"1r", "0r", "0r 1r"}, {"0w", "7r", "0w 7r"}, {"7w", "0r", "0r 7w"},
		{"0r 2r 4r 6r", "1w 3w 5w 7w", "0r 1w 2r 3w 4r 5w 6r 7w"}, {"4r 5r 6r 7r", "0w 1w 2w 3w", "0w 1w 2w 3w 4r 5r 6r 7r"},
		{"0r 1w 2r 3w", "0r 1r 2w 3w", "0r 1w 2w 3w"}, {"0r 3w 5r", "1w 3r 5w 7r", "0r 1w 3w 5w 7r"},
		{"0r 1r 2r 3r 4r 5r 6r 7r", "0w 1w 2w 3w 4w 5w 6w 7w", "0w 1w 2w 3w 4w 5w 6w 7w"}, {"0w 1w 2w 3w 4w 5w 6w 7w", "3r", "0w 1w 2w 3w 4w 5w 6w 7w"},
	}
	for _, c := range cases {
		if both, ok := impl.MergeWants(wants(c.a), wants(c.b)); !ok || !slices.Equal(both, wants(c.both)) {
			t.Errorf("MergeWants(%s, %s) = %v, %v", c.a, c.b, both, ok)
		}
	}
}

func TestCoversWants(t *testing.T) {
	cases := []struct {
		a, b   string
		covers bool
	}{
		{"", "", true}, {"1r", "", true}, {"", "1r", false}, {"", "1w", false},
		{"1r", "1r", true}, {"1w", "1r", true}, {"1r", "1w", false}, {"1w", "1w", true},
		{"1r", "0r", false}, {"1r", "2r", false}, {"1w", "0w", false}, {"1w", "2w", false}, {"0r 7r", "3r", false},
		{"0r 1w 7r", "0r 7r", true}, {"0r 1w 7r", "1r", true}, {"0r 1w 7r", "0r 1w 7r", true}, {"0r 1w 7r", "0r 1w 7w", false}, {"0r 1w 7r", "0w 1w 7r", false},
		{"0r 1w", "0r 1w 7r", false}, {"1w 7r", "0r 1w 7r", false}, {"0w 7w", "0r 1r 7r", false},
		{"0w 1w 2w 3w 4w 5w 6w 7w", "0r 1r 2r 3r 4r 5r 6r 7r", true}, {"0r 1r 2r 3r 4r 5r 6r 7r", "7w", false},
	}
	for _, c := range cases {
		if got := impl.CoversWants(wants(c.a), wants(c.b)); got != c.covers {
			t.Errorf("CoversWants(%s, %s) = %v", c.a, c.b, got)
		}
	}
}

// checkPair compares what is told about two lock lists to them key by key.
func checkPair(t *testing.T, a, b []impl.Want) {
	t.Helper()
	inA, inB := modes(a), modes(b)
	var both []impl.Want
	covers := true
	for key := range impl.MaxKeys {
		writeA, isA := inA[key]
		writeB, isB := inB[key]
		if isA || isB {
			both = append(both, impl.Want{Key: key, Write: writeA || writeB})
		}
		if isB && !isA || writeB && !writeA {
			covers = false
		}
	}
	if got, ok := impl.MergeWants(a, b); !ok || !slices.Equal(got, both) {
		t.Fatalf("MergeWants(%v, %v) = %v, %v", a, b, got, ok)
	}
	if got := impl.CoversWants(a, b); got != covers {
		t.Fatalf("CoversWants(%v, %v) = %v", a, b, got)
	}
}

func TestPairsOfWants(t *testing.T) {
	few := listsOf([]int{0, 1, 6, 7})
	for _, a := range few {
		for _, b := range few {
			checkPair(t, a, b)
		}
	}
	all := listsOf([]int{0, 1, 2, 3, 4, 5, 6, 7})
	state := uint32(7)
	for _, a := range all {
		checkPair(t, a, a)
		for range 5 {
			checkPair(t, a, all[draw(&state, len(all))])
		}
	}
}

func TestPairsOfBadWants(t *testing.T) {
	check := func(a, b []impl.Want) {
		if both, ok := impl.MergeWants(a, b); ok || len(both) != 0 {
			t.Errorf("MergeWants(%v, %v) = %v, %v", a, b, both, ok)
		}
		if impl.CoversWants(a, b) {
			t.Errorf("CoversWants(%v, %v) is true", a, b)
		}
	}
	for _, bad := range badWants() {
		check(bad, bad)
		for _, good := range []string{"", "0r", "1w 2w", "0w 1w 2w 3w 4w 5w 6w 7w"} {
			check(bad, wants(good))
			check(wants(good), bad)
		}
	}
}

func TestNextWant(t *testing.T) {
	cases := []struct {
		list string
		held []int
		next string
	}{
		{"", nil, ""}, {"", []int{0, 1}, ""}, {"0r", nil, "0r"}, {"7w", []int{}, "7w"},
		{"0r", []int{0}, ""}, {"0w", []int{1}, "0w"}, {"1w 3r", []int{1}, "3r"}, {"1w 3r", []int{3}, "1w"}, {"1w 3r", []int{3, 1}, ""}, {"1w 3r", []int{1, 3}, ""},
		{"1w 3r 5w", []int{1, 5}, "3r"}, {"1w 3r 5w", []int{5, 3}, "1w"}, {"1w 3r 5w", []int{3, 1, 3, 1}, "5w"}, {"1w 3r 5w", []int{0, 2, 4, 6, 7}, "1w"},
		{"0r 7r", []int{-1, 8, math.MinInt, math.MaxInt}, "0r"}, {"0r 7r", []int{8, 0, -1}, "7r"}, {"0r 7r", []int{7, 8, 0, -1}, ""},
		{"0w 1r 2w 3r 4w 5r 6w 7r", []int{6, 5, 4, 3, 2, 1, 0}, "7r"}, {"0w 1r 2w 3r 4w 5r 6w 7r", slices.Repeat([]int{1, 0}, 1000), "2w"},
	}
	for _, c := range cases {
		var want impl.Want
		if c.next != "" {
			want = wants(c.next)[0]
		}
		if next, ok := impl.NextWant(wants(c.list), c.held); ok != (c.next != "") || next != want {
			t.Errorf("NextWant(%s, %v) = %v, %v", c.list, c.held, next, ok)
		}
	}
	for _, bad := range badWants() {
		for _, held := range [][]int{nil, {0}, {7, 3}} {
			if next, ok := impl.NextWant(bad, held); ok || next != (impl.Want{}) {
				t.Errorf("NextWant(%v, %v) = %v, %v", bad, held, next, ok)
			}
		}
	}
}

// TestNextWantOfAll takes the keys of every lock list one after the other.
func TestNextWantOfAll(t *testing.T) {
	for _, list := range listsOf([]int{0, 1, 2, 3, 4, 5, 6, 7}) {
		var held []int
		for _, want := range list {
			if next, ok := impl.NextWant(list, held); !ok || next != want || !impl.InOrder(held, next.Key) {
				t.Fatalf("NextWant(%v, %v) = %v, %v", list, held, next, ok)
			}
			held = append(held, want.Key)
		}
		if next, ok := impl.NextWant(list, held); ok || next != (impl.Want{}) {
			t.Fatalf("NextWant(%v, %v) = %v, %v", list, held, next, ok)
		}
	}
}

func TestInOrder(t *testing.T) {
	cases := []struct {
		held []int
		key  int
		in   bool
	}{
		{nil, 0, true}, {[]int{}, 7, true}, {nil, math.MinInt, true}, {[]int{1, 2}, 3, true}, {[]int{3}, 3, false}, {[]int{3}, 2, false}, {[]int{3}, 4, true},
		{[]int{2, 1}, 3, true}, {[]int{1, 4, 2}, 3, false}, {[]int{4, 1, 2}, 3, false}, {[]int{1, 2, 4}, 3, false}, {[]int{1, 1}, 2, true},
		{[]int{0, 1, 2, 3, 4, 5, 6}, 7, true}, {[]int{0, 1, 2, 3, 4, 5, 6, 7}, 7, false},
		{[]int{-5}, -4, true}, {[]int{-5}, -5, false}, {[]int{100}, 101, true}, {[]int{math.MinInt}, math.MaxInt, true}, {[]int{math.MaxInt}, math.MinInt, false},
		{slices.Repeat([]int{6}, 1000), 7, true}, {append(slices.Repeat([]int{6}, 1000), 7), 7, false},
	}
	for _, c := range cases {
		if got := impl.InOrder(c.held, c.key); got != c.in {
			t.Errorf("InOrder(%v, %d) = %v", c.held, c.key, got)
		}
	}
}

// TestPromise4Merge checks the first half of the promise with the functions
// alone, for all lists of four keys.
func TestPromise4Merge(t *testing.T) {
	lists := listsOf([]int{0, 2, 5, 7})
	for _, a := range lists {
		for _, b := range lists {
			both, ok := impl.MergeWants(a, b)
			if !ok || !impl.WantsOk(both) || !impl.CoversWants(both, a) || !impl.CoversWants(both, b) {
				t.Fatalf("%v, merged from %v and %v, does not cover them", both, a, b)
			}
			inA, inB := modes(a), modes(b)
			for key, write := range modes(both) {
				_, isA := inA[key]
				_, isB := inB[key]
				if !isA && !isB || write && !inA[key] && !inB[key] {
					t.Fatalf("%v, merged from %v and %v, contains something else", both, a, b)
				}
			}
		}
	}
}

// TestPromise4Heat cools heat lists until they are 0, which halving reaches
// from 20 in five steps; no number may rise on the way.
func TestPromise4Heat(t *testing.T) {
	for _, start := range someHeats() {
		h := start
		for range 5 {
			next, ok := impl.CoolAll(h)
			if !ok || !impl.HeatOk(next) {
				t.Fatalf("CoolAll(%v) = %v, %v", h, next, ok)
			}
			for key := range h {
				if next[key] >= h[key] && h[key] > 0 || next[key] != h[key]/2 {
					t.Fatalf("CoolAll(%v) = %v", h, next)
				}
			}
			h = next
		}
		if slices.Max(h) != 0 || len(impl.HotKeys(h, 1)) != 0 {
			t.Fatalf("%v becomes %v instead of 0", start, h)
		}
	}
}

// TestHeatAlone overwrites what is returned, with its capacity, and calls with
// lists that have room behind them, where an append would write.
func TestHeatAlone(t *testing.T) {
	for _, h := range append(badHeats(), someHeats()...) {
		given := append(slices.Clone(h), -77, -77)
		before := slices.Clone(given)
		given = given[:len(h)]
		for key := -1; key <= 8; key++ {
			warm, _ := impl.WarmKey(given, key, 2)
			refused, _ := impl.WarmKey(given, key, 21)
			overwriteKeys(warm)
			overwriteKeys(refused)
		}
		cool, _ := impl.CoolAll(given)
		overwriteKeys(cool)
		overwriteKeys(impl.HotKeys(given, 1))
		impl.HeatOk(given)
		if !slices.Equal(given[:len(before)], before) {
			t.Fatalf("%v became %v", before, given[:len(before)])
		}
	}
}

func overwriteKeys(list []int) {
	list = list[:cap(list)]
	for i := range list {
		list[i] = -55
	}
}

func overwriteWants(list []impl.Want) {
	list = list[:cap(list)]
	for i := range list {
		list[i] = impl.Want{Key: -55, Write: true}
	}
}

// TestWantsAlone does the same with both lists in one array.
func TestWantsAlone(t *testing.T) {
	lists := append(listsOf([]int{0, 3, 7}), badWants()...)
	for _, a := range lists {
		for _, b := range lists {
			array := slices.Concat(a, b, wants("1w 1w 1w"))
			before := slices.Clone(array)
			given, other := array[:len(a)], array[len(a):len(a)+len(b)]
			both, _ := impl.MergeWants(given, other)
			overwriteWants(both)
			impl.WantsOk(given)
			impl.CoversWants(given, other)
			impl.NextWant(given, []int{0, 3})
			if !slices.Equal(array, before) {
				t.Fatalf("%v became %v", before, array)
			}
		}
	}
}

// TestOtherListsAlone does the same with keys and programs.
func TestOtherListsAlone(t *testing.T) {
	keys := []int{7, 2, 0, 2, -1, 3, 1, 9}
	p := []impl.Act{add(2, 5), get(0), put(7, 1), get(2), get(6), get(6)}
	keysBefore, pBefore := slices.Clone(keys), slices.Clone(p)
	for n := range keys {
		overwriteWants(impl.WantsOf(p[:min(n, 6)], keys[:n]))
		impl.NextWant(wants("0r 2w 3r 7w"), keys[:n])
		impl.InOrder(keys[:n], 5)
	}
	if list := impl.WantsOf(p, keys); !slices.Equal(list, wants("0r 2w 7w")) {
		t.Errorf("WantsOf(%v, %v) = %v", p, keys, list)
	}
	if !slices.Equal(keys, keysBefore) || !slices.Equal(p, pBefore) {
		t.Errorf("the keys became %v, the program %v", keys, p)
	}
}
