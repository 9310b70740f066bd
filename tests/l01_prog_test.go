package tests

import (
	"math"
	"regexp"
	"slices"
	"strings"
	"testing"

	"loop.example/g00771/impl"
)

func get(key int) impl.Act    { return impl.Act{Kind: 0, Key: key} }
func put(key, n int) impl.Act { return impl.Act{Kind: 1, Key: key, N: n} }
func add(key, n int) impl.Act { return impl.Act{Kind: 2, Key: key, N: n} }

// draw returns deterministic numbers in 0..n-1.
func draw(state *uint32, n int) int {
	*state = *state*1664525 + 1013904223
	return int(*state>>8) % n
}

var spreadValues = []int{-impl.MaxValue, -impl.MaxValue + 1, -7, -1, 0, 1, 9, 10, 999999, impl.MaxValue}

func drawAct(state *uint32, keys int) impl.Act {
	key, n := draw(state, keys), spreadValues[draw(state, len(spreadValues))]
	switch draw(state, 3) {
	case 0:
		return get(key)
	case 1:
		return put(key, n)
	}
	return add(key, n)
}

// somePrograms holds every program of one or two acts on two keys with a few
// values, and drawn ones of all lengths on 1 to 8 keys.
func somePrograms() [][]impl.Act {
	var acts []impl.Act
	for key := range 2 {
		acts = append(acts, get(key))
		for _, n := range []int{-impl.MaxValue, -3, 0, 5, impl.MaxValue} {
			acts = append(acts, put(key, n), add(key, n))
		}
	}
	var all [][]impl.Act
	for _, a := range acts {
		all = append(all, []impl.Act{a})
		for _, b := range acts {
			all = append(all, []impl.Act{a, b})
		}
	}
	state := uint32(1)
	for i := range 3000 {
		p := make([]impl.Act, 1+i%impl.MaxActs)
		for k := range p {
			p[k] = drawAct(&state, 1+i%impl.MaxKeys)
		}
		all = append(all, p)
	}
	return all
}

// badActs holds the acts just beyond each limit, and far beyond.
var badActs = []impl.Act{
	{Kind: -1, Key: 0}, {Kind: 3, Key: 0}, {Kind: math.MinInt, Key: 0}, {Kind: math.MaxInt, Key: 0},
	{Kind: 0, Key: -1}, {Kind: 0, Key: 8}, {Kind: 1, Key: -1}, {Kind: 1, Key: 8}, {Kind: 2, Key: -1}, {Kind: 2, Key: 8},
	{Kind: 0, Key: math.MinInt}, {Kind: 1, Key: math.MaxInt},
	{Kind: 0, Key: 1, N: 1}, {Kind: 0, Key: 1, N: -1},
	{Kind: 1, Key: 1, N: 1000001}, {Kind: 1, Key: 1, N: -1000001},
	{Kind: 2, Key: 1, N: 1000001}, {Kind: 2, Key: 1, N: -1000001},
	{Kind: 1, Key: 1, N: math.MinInt}, {Kind: 2, Key: 1, N: math.MaxInt},
}

// badPrograms holds lists that are not programs: none and too many acts, and
// each bad act at the start, in the middle and at the end.
func badPrograms() [][]impl.Act {
	seven := slices.Repeat([]impl.Act{get(0)}, 7)
	all := [][]impl.Act{nil, {}, seven, slices.Repeat(seven, 100)}
	for _, bad := range badActs {
		all = append(all, []impl.Act{bad}, []impl.Act{bad, get(0)}, []impl.Act{get(0), bad, get(1)}, []impl.Act{put(0, 1), bad})
	}
	return all
}

func TestChapter1Limits(t *testing.T) {
	if impl.MaxKeys != 8 || impl.MaxActs != 6 || impl.MaxValue != 1000000 || impl.MaxList != 300 {
		t.Error("limits differ from the document")
	}
}

func TestActOk(t *testing.T) {
	good := []impl.Act{get(0), get(7), put(0, 0), put(7, 1000000), put(7, -1000000), add(0, 0), add(7, 1000000), add(0, -1000000)}
	for _, a := range good {
		if !impl.ActOk(a) {
			t.Errorf("ActOk(%v) is false", a)
		}
	}
	for _, a := range badActs {
		if impl.ActOk(a) {
			t.Errorf("ActOk(%v) is true", a)
		}
	}
}

func TestProgOk(t *testing.T) {
	for n := 1; n <= impl.MaxActs; n++ {
		if !impl.ProgOk(slices.Repeat([]impl.Act{add(7, -1000000)}, n)) {
			t.Errorf("a program of %d acts is refused", n)
		}
	}
	for _, p := range badPrograms() {
		if impl.ProgOk(p) {
			t.Errorf("ProgOk(%v) is true", p)
		}
	}
}

func TestKeyLists(t *testing.T) {
	cases := []struct {
		p                   []impl.Act
		keys, writes, reads []int
	}{
		{[]impl.Act{add(2, 5), get(0), put(2, 1)}, []int{0, 2}, []int{2}, []int{0, 2}},
		{[]impl.Act{put(1, 3), get(1)}, []int{1}, []int{1}, nil},
		{[]impl.Act{get(1), put(1, 3)}, []int{1}, []int{1}, []int{1}},
		{[]impl.Act{put(1, 3), add(1, 2), get(1)}, []int{1}, []int{1}, nil},
		{[]impl.Act{get(7)}, []int{7}, nil, []int{7}},
		{[]impl.Act{get(7), get(0), get(7)}, []int{0, 7}, nil, []int{0, 7}},
		{[]impl.Act{add(3, 0)}, []int{3}, []int{3}, []int{3}},
		{[]impl.Act{put(0, 0)}, []int{0}, []int{0}, nil},
		{[]impl.Act{put(5, 1), get(4), put(3, 1), add(2, 1), put(1, 1), get(0)}, []int{0, 1, 2, 3, 4, 5}, []int{1, 2, 3, 5}, []int{0, 2, 4}},
		{[]impl.Act{get(6), put(6, 1), put(4, 1), get(4), get(6), add(4, 1)}, []int{4, 6}, []int{4, 6}, []int{6}},
	}
	for _, c := range cases {
		if got := impl.KeysOf(c.p); !slices.Equal(got, c.keys) {
			t.Errorf("KeysOf(%v) = %v", c.p, got)
		}
		if got := impl.WritesOf(c.p); !slices.Equal(got, c.writes) {
			t.Errorf("WritesOf(%v) = %v", c.p, got)
		}
		if got := impl.ReadsOf(c.p); !slices.Equal(got, c.reads) {
			t.Errorf("ReadsOf(%v) = %v", c.p, got)
		}
	}
	for _, p := range badPrograms() {
		if len(impl.KeysOf(p))+len(impl.WritesOf(p))+len(impl.ReadsOf(p)) != 0 {
			t.Errorf("keys of %v, which is not a program", p)
		}
	}
}

// TestKeyListsOfAll recomputes the three lists key by key.
func TestKeyListsOfAll(t *testing.T) {
	for _, p := range somePrograms() {
		var keys, writes, reads []int
		for key := range impl.MaxKeys {
			onKey := func(a impl.Act) bool { return a.Key == key }
			first := slices.IndexFunc(p, onKey)
			if first < 0 {
				continue
			}
			keys = append(keys, key)
			if p[first].Kind != 1 {
				reads = append(reads, key)
			}
			if slices.ContainsFunc(p, func(a impl.Act) bool { return onKey(a) && a.Kind != 0 }) {
				writes = append(writes, key)
			}
		}
		if !slices.Equal(impl.KeysOf(p), keys) || !slices.Equal(impl.WritesOf(p), writes) || !slices.Equal(impl.ReadsOf(p), reads) {
			t.Fatalf("%v: keys %v, writes %v, reads %v", p, impl.KeysOf(p), impl.WritesOf(p), impl.ReadsOf(p))
		}
	}
}

func TestRunSerial(t *testing.T) {
	cases := []struct {
		values     []int
		p          []impl.Act
		after, got []int
	}{
		{[]int{7, 8, 9}, []impl.Act{add(2, 5), get(0), put(2, 1)}, []int{7, 8, 1}, []int{7}},
		{[]int{4}, []impl.Act{get(0)}, []int{4}, []int{4}},
		{[]int{4, 6}, []impl.Act{put(1, 3), get(1)}, []int{4, 3}, []int{3}},
		{[]int{4, 6}, []impl.Act{get(1), put(1, 3), get(1), add(1, 2), get(1), get(0)}, []int{4, 5}, []int{6, 3, 5, 4}},
		{[]int{4}, []impl.Act{put(0, -1)}, []int{-1}, nil},
		{[]int{999999}, []impl.Act{add(0, 1), get(0)}, []int{1000000}, []int{1000000}},
		{[]int{999999}, []impl.Act{add(0, 2), get(0)}, []int{1000000}, []int{1000000}},
		{[]int{1000000}, []impl.Act{add(0, 1000000), get(0), add(0, -1)}, []int{999999}, []int{1000000}},
		{[]int{-999999}, []impl.Act{add(0, -1), get(0)}, []int{-1000000}, []int{-1000000}},
		{[]int{-999999}, []impl.Act{add(0, -2), get(0)}, []int{-1000000}, []int{-1000000}},
		{[]int{-1000000}, []impl.Act{add(0, -1000000), get(0), add(0, 1)}, []int{-999999}, []int{-1000000}},
		{[]int{5}, []impl.Act{put(0, 1000000), add(0, 5), add(0, -1000000)}, []int{0}, nil},
		{[]int{1, 2, 3, 4, 5, 6, 7, 8}, []impl.Act{get(7), put(7, 0)}, []int{1, 2, 3, 4, 5, 6, 7, 0}, []int{8}},
		{[]int{-1000000, 1000000}, []impl.Act{get(1), get(0)}, []int{-1000000, 1000000}, []int{1000000, -1000000}},
	}
	for _, c := range cases {
		after, got, ok := impl.RunSerial(c.values, c.p)
		if !ok || !slices.Equal(after, c.after) || !slices.Equal(got, c.got) {
			t.Errorf("RunSerial(%v, %v) = %v, %v, %v", c.values, c.p, after, got, ok)
		}
	}
}

func TestRunSerialRefuses(t *testing.T) {
	nine := make([]int, 9)
	cases := []struct {
		values []int
		p      []impl.Act
	}{
		{nil, []impl.Act{get(0)}},
		{nine, []impl.Act{get(0)}},
		{make([]int, 1000), []impl.Act{get(0)}},
		{[]int{1000001}, []impl.Act{get(0)}},
		{[]int{-1000001}, []impl.Act{get(0)}},
		{[]int{0, 1000001}, []impl.Act{put(0, 1)}},
		{[]int{0, math.MinInt}, []impl.Act{put(0, 1)}},
		{[]int{7, 8}, []impl.Act{put(0, 1), get(2)}},
		{[]int{7, 8}, []impl.Act{get(2), put(0, 1)}},
		{[]int{7}, []impl.Act{get(0), put(1, 5)}},
		{[]int{1, 2, 3, 4, 5, 6, 7}, []impl.Act{get(7)}},
	}
	for _, p := range badPrograms() {
		cases = append(cases, struct {
			values []int
			p      []impl.Act
		}{[]int{3, 4, 5, 6, 7, 8, 9, 10}, p})
	}
	for _, c := range cases {
		after, got, ok := impl.RunSerial(c.values, c.p)
		if ok || !slices.Equal(after, c.values) || len(got) != 0 {
			t.Errorf("RunSerial(%v, %v) = %v, %v, %v", c.values, c.p, after, got, ok)
		}
	}
}

// TestRunSerialAlone checks that arguments stay as they are and that the
// resulting values are memory of their own, also when the run is refused.
func TestRunSerialAlone(t *testing.T) {
	values, p := []int{7, 8, 9}, []impl.Act{add(2, 5), get(0), put(2, 1), get(1)}
	after, got, _ := impl.RunSerial(values, p)
	again, _, _ := impl.RunSerial(values, []impl.Act{get(0)})
	refused, _, _ := impl.RunSerial(values, nil)
	for _, list := range [][]int{after, again, refused} {
		for i := range list {
			list[i] = -55
		}
	}
	if !slices.Equal(values, []int{7, 8, 9}) || !slices.Equal(got, []int{7, 8}) {
		t.Errorf("values %v, reported %v after writing into the results", values, got)
	}
	if !slices.Equal(p, []impl.Act{add(2, 5), get(0), put(2, 1), get(1)}) {
		t.Errorf("the program became %v", p)
	}
}

// TestPromise1Keys checks on many programs that a run changes no key outside
// WritesOf, and that keys outside ReadsOf do not show in what is reported and
// written.
func TestPromise1Keys(t *testing.T) {
	state := uint32(2)
	for _, p := range somePrograms() {
		values := make([]int, impl.MaxKeys)
		for i := range values {
			values[i] = spreadValues[draw(&state, len(spreadValues))]
		}
		after, got, ok := impl.RunSerial(values, p)
		if !ok {
			t.Fatalf("%v on %v is refused", p, values)
		}
		writes, reads := impl.WritesOf(p), impl.ReadsOf(p)
		for key := range values {
			if !slices.Contains(writes, key) && after[key] != values[key] {
				t.Fatalf("%v changes key %d", p, key)
			}
			if slices.Contains(reads, key) {
				continue
			}
			for _, n := range spreadValues {
				other := slices.Clone(values)
				other[key] = n
				otherAfter, otherGot, otherOk := impl.RunSerial(other, p)
				if !otherOk || !slices.Equal(got, otherGot) {
					t.Fatalf("key %d influences what %v reports", key, p)
				}
				for _, w := range writes {
					if after[w] != otherAfter[w] {
						t.Fatalf("key %d influences what %v writes to %d", key, p, w)
					}
				}
			}
		}
	}
}

// TestPromise1Needs checks that a program runs with a value for each of its
// keys, and not with one value less.
func TestPromise1Needs(t *testing.T) {
	for _, p := range somePrograms() {
		last := slices.Max(impl.KeysOf(p))
		if _, _, ok := impl.RunSerial(make([]int, last+1), p); !ok {
			t.Fatalf("%v needs a key beyond its own", p)
		}
		if _, _, ok := impl.RunSerial(make([]int, last), p); ok {
			t.Fatalf("%v runs without key %d", p, last)
		}
	}
}

func TestActText(t *testing.T) {
	cases := []struct {
		a    impl.Act
		text string
	}{
		{get(0), "get 0"}, {get(7), "get 7"}, {put(1, 0), "put 1 0"}, {put(7, 1000000), "put 7 1000000"},
		{put(0, -1000000), "put 0 -1000000"}, {add(3, -4), "add 3 -4"}, {add(0, 10), "add 0 10"}, {add(6, 1000000), "add 6 1000000"},
	}
	for _, c := range cases {
		if got := impl.ActText(c.a); got != c.text {
			t.Errorf("ActText(%v) = %q", c.a, got)
		}
		if back, ok := impl.ParseAct(c.text); !ok || back != c.a {
			t.Errorf("ParseAct(%q) = %v, %v", c.text, back, ok)
		}
	}
	for _, a := range badActs {
		if got := impl.ActText(a); got != "" {
			t.Errorf("ActText(%v) = %q", a, got)
		}
	}
}

func TestProgText(t *testing.T) {
	p := []impl.Act{add(2, 5), get(0), put(2, 1)}
	if text, ok := impl.ProgText(p); !ok || text != "add 2 5; get 0; put 2 1" {
		t.Errorf("ProgText = %q, %v", text, ok)
	}
	if text, ok := impl.ProgText([]impl.Act{get(4)}); !ok || text != "get 4" {
		t.Errorf("ProgText = %q, %v", text, ok)
	}
	for _, p := range badPrograms() {
		if text, ok := impl.ProgText(p); ok || text != "" {
			t.Errorf("ProgText(%v) = %q, %v", p, text, ok)
		}
	}
}

func TestPromise1Texts(t *testing.T) {
	for _, p := range somePrograms() {
		text, ok := impl.ProgText(p)
		back, ok2 := impl.ParseProg(text)
		if !ok || !ok2 || !slices.Equal(back, p) {
			t.Fatalf("%v becomes %q, %v, and %v, %v", p, text, ok, back, ok2)
		}
		for _, a := range p {
			if back, ok := impl.ParseAct(impl.ActText(a)); !ok || back != a {
				t.Fatalf("%v becomes %q and %v, %v", a, impl.ActText(a), back, ok)
			}
		}
	}
}

const actPattern = `(get [0-7]|(put|add) [0-7] (0|-?[1-9][0-9]{0,5}|-?1000000))`

var (
	actForm  = regexp.MustCompile(`\A` + actPattern + `\z`)
	progForm = regexp.MustCompile(`\A` + actPattern + `(; ` + actPattern + `){0,5}\z`)
)

func checkAct(t *testing.T, text string) {
	t.Helper()
	a, ok := impl.ParseAct(text)
	if ok != actForm.MatchString(text) || ok && impl.ActText(a) != text || !ok && a != (impl.Act{}) {
		t.Errorf("ParseAct(%q) = %v, %v", text, a, ok)
	}
}

func checkProg(t *testing.T, text string) {
	t.Helper()
	p, ok := impl.ParseProg(text)
	if ok != progForm.MatchString(text) || !ok && len(p) != 0 {
		t.Errorf("ParseProg(%q) = %v, %v", text, p, ok)
		return
	}
	if back, _ := impl.ProgText(p); ok && back != text {
		t.Errorf("ParseProg(%q) = %v", text, p)
	}
}

func TestParseActRejects(t *testing.T) {
	texts := []string{
		"", " ", "  ", "get", "get ", "put 1", "put 1 ", "add", "add 1 ", "get 3 1", "get 3 0", "put 1 2 3", "add 1 2 3",
		"get -1", "get -0", "get 8", "get 10", "get 07", "get 00", "get +1", "put 8 1", "add -1 1",
		"put 1 01", "put 1 00", "put 1 -0", "put 1 +1", "put 1 -01", "put 1 --1", "put 1 -", "put - 1", "put 1 1-", "put 1 1.0", "put 1 1e3", "put 1 0x1",
		"put 1 1000001", "put 1 -1000001", "put 1 9999999", "add 1 1000000000", "add 1 99999999999999999999", "add 1 18446744073709551617",
		"put 1 -9223372036854775808", "put 18446744073709551617 1", "get 18446744073709551616",
		"Get 1", "GET 1", "gets 1", "ge 1", "set 1 2", "get1", "put 12", "putt 1 2", "a", "0 1", "1 1 1",
		" get 1", "get 1 ", "get  1", "get\t1", "get 1\n", "get 1\x00", "\xffget 1", "get 1\xff", "get \u0661", "put 1 \u0662", "get\u00a01", "put 1 \u22121",
		"get 1;", "get 1; ", "get 1; get 2", ";",
	}
	for _, text := range texts {
		if a, ok := impl.ParseAct(text); ok || a != (impl.Act{}) {
			t.Errorf("ParseAct(%q) = %v, %v", text, a, ok)
		}
	}
	if _, ok := impl.ParseAct("put 1 " + strings.Repeat("0", 100000) + "1"); ok {
		t.Error("a number with many zeros is accepted")
	}
}

func TestParseProgRejects(t *testing.T) {
	seven := strings.Repeat("get 1; ", 6) + "get 1"
	texts := []string{
		"", " ", ";", "; ", "get 1;get 2", "get 1;  get 2", "get 1 ; get 2", "get 1, get 2", "get 1 get 2", "get 1;; get 2", "get 1; ; get 2",
		"get 1;", "get 1; ", "; get 1", " get 1", "get 1 ", "get 1\nget 2", "get 1; get 8", "get 8; get 1", "get 1; put 1", "get 1;\tget 2", "get 1; get 02",
		"put 1 1; put 1 1000001", "add 1 -0; get 1", seven, seven + "; get 1",
	}
	for _, text := range texts {
		if p, ok := impl.ParseProg(text); ok || len(p) != 0 {
			t.Errorf("ParseProg(%q) = %v, %v", text, p, ok)
		}
	}
	if _, ok := impl.ParseProg(strings.TrimPrefix(seven, "get 1; ")); !ok {
		t.Error("a program of six acts is rejected")
	}
}

// oneByteEdits returns both cuts of text at each index, and text with each of
// its bytes dropped, and each of the given bytes inserted or put for another.
func oneByteEdits(text, bytes string) []string {
	var edits []string
	for i := 0; i <= len(text); i++ {
		edits = append(edits, text[:i], text[i:])
		for _, b := range []byte(bytes) {
			edits = append(edits, text[:i]+string([]byte{b})+text[i:])
			if i < len(text) {
				edits = append(edits, text[:i]+string([]byte{b})+text[i+1:])
			}
		}
		if i < len(text) {
			edits = append(edits, text[:i]+text[i+1:])
		}
	}
	return edits
}

// TestParseEdits takes outputs apart in every way that one byte allows, and
// doubles and drops each of their spaces and separators.
func TestParseEdits(t *testing.T) {
	texts := []string{"get 0", "get 7", "put 1 0", "put 7 1000000", "add 3 -4", "add 0 -1000000", "add 2 5; get 0; put 2 1", "put 6 10; add 5 -99"}
	for _, text := range texts {
		edits := append(oneByteEdits(text, "0189+-;, _gputad\t\n\x00\xff"), text)
		for _, swap := range [][2]string{{"; ", ";"}, {"; ", " "}, {"; ", " ;"}, {"; ", ";; "}, {"; ", "; ; "}, {"; ", ""}, {" ", "  "}, {" ", ""}} {
			edits = append(edits, strings.ReplaceAll(text, swap[0], swap[1]))
		}
		for _, edit := range edits {
			checkAct(t, edit)
			checkProg(t, edit)
		}
	}
}
