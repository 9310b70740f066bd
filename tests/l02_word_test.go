package tests

import (
	"math"
	"regexp"
	"strconv"
	"strings"
	"testing"

	"loop.example/g00771/impl"
)

func free(epoch, seq int) impl.Word { return impl.Word{Epoch: epoch, Seq: seq} }
func held(epoch, seq int) impl.Word { return impl.Word{Epoch: epoch, Seq: seq, Held: true} }

// someWords holds words of both states at and near the limits, where digits
// and bits are added, and drawn ones.
func someWords() []impl.Word {
	var all []impl.Word
	for _, epoch := range []int{0, 1, 2, 9, 10, 99, 100, 511, 512, 1000, 1022, 1023} {
		for _, seq := range []int{0, 1, 2, 9, 10, 255, 256, 9999, 10000, 32767, 32768, 65534, 65535} {
			all = append(all, free(epoch, seq), held(epoch, seq))
		}
	}
	state := uint32(3)
	for range 200 {
		epoch, seq := draw(&state, impl.MaxEpoch+1), draw(&state, impl.MaxSeq+1)
		all = append(all, free(epoch, seq), held(epoch, seq))
	}
	return all
}

// badWords holds words just beyond each limit, and so far beyond that packing
// one would wrap around.
func badWords() []impl.Word {
	var all []impl.Word
	for _, isHeld := range []bool{false, true} {
		for _, epoch := range []int{-1, 1024, math.MinInt, math.MaxInt, 1 << 47, 1 << 48, -1 << 47} {
			for _, seq := range []int{0, 2, 65535, -1, 65536} {
				all = append(all, impl.Word{Epoch: epoch, Seq: seq, Held: isHeld})
			}
		}
		for _, seq := range []int{-1, 65536, math.MinInt, math.MaxInt, 1 << 62, 1<<48 + 1} {
			for _, epoch := range []int{0, 1, 1023} {
				all = append(all, impl.Word{Epoch: epoch, Seq: seq, Held: isHeld})
			}
		}
	}
	return all
}

var badEpochs = []int{-1, 1024, math.MinInt, math.MaxInt, 1 << 32}

func TestChapter2Limits(t *testing.T) {
	if impl.MaxEpoch != 1023 || impl.MaxSeq != 65535 {
		t.Error("limits differ from the document")
	}
}

func TestWordOk(t *testing.T) {
	for _, w := range someWords() {
		if !impl.WordOk(w) {
			t.Errorf("WordOk(%v) is false", w)
		}
	}
	for _, w := range badWords() {
		if impl.WordOk(w) {
			t.Errorf("WordOk(%v) is true", w)
		}
	}
}

func TestPackWord(t *testing.T) {
	cases := []struct {
		w impl.Word
		x int
	}{
		{free(0, 0), 0}, {held(0, 0), 1}, {free(0, 1), 2}, {free(1, 0), 131072}, {free(1, 2), 131076}, {held(1, 2), 131077},
		{free(0, 65535), 131070}, {held(0, 65535), 131071}, {free(1023, 0), 134086656}, {free(1023, 65535), 134217726}, {held(1023, 65535), 134217727},
	}
	for _, c := range cases {
		if got := impl.PackWord(c.w); got != c.x {
			t.Errorf("PackWord(%v) = %d", c.w, got)
		}
		if back, ok := impl.UnpackWord(c.x); !ok || back != c.w {
			t.Errorf("UnpackWord(%d) = %v, %v", c.x, back, ok)
		}
	}
	for _, w := range badWords() {
		if got := impl.PackWord(w); got != -1 {
			t.Errorf("PackWord(%v) = %d", w, got)
		}
	}
}

func TestUnpackWordRejects(t *testing.T) {
	for _, x := range []int{-1, -2, -131077, 134217728, 134217729, 1 << 32, 1<<32 + 131077, math.MinInt, math.MinInt + 1, math.MaxInt} {
		if w, ok := impl.UnpackWord(x); ok || w != (impl.Word{}) {
			t.Errorf("UnpackWord(%d) = %v, %v", x, w, ok)
		}
	}
}

// TestPromise2Packing steps through the integers with a step that meets every
// epoch many times, and through all of them near the ends of epochs.
func TestPromise2Packing(t *testing.T) {
	check := func(x int) {
		w, ok := impl.UnpackWord(x)
		if !ok || !impl.WordOk(w) || impl.PackWord(w) != x || w.Held != (x%2 == 1) {
			t.Fatalf("UnpackWord(%d) = %v, %v", x, w, ok)
		}
	}
	for x := 0; x <= 134217727; x += 173 {
		check(x)
	}
	for epoch := range impl.MaxEpoch + 1 {
		for x := max(131072*epoch-5, 0); x < 131072*epoch+5; x++ {
			check(x)
		}
	}
	for _, w := range someWords() {
		x := impl.PackWord(w)
		if back, ok := impl.UnpackWord(x); !ok || back != w {
			t.Fatalf("%v is packed as %d and unpacked as %v, %v", w, x, back, ok)
		}
	}
}

// versionOrder compares first Epoch and then Seq.
func versionOrder(a, b impl.Word) int {
	switch {
	case a.Epoch > b.Epoch:
		return 1
	case a.Epoch < b.Epoch:
		return -1
	case a.Seq > b.Seq:
		return 1
	case a.Seq < b.Seq:
		return -1
	}
	return 0
}

func TestLaterWord(t *testing.T) {
	cases := []struct {
		a, b  impl.Word
		later int
	}{
		{held(1, 2), free(0, 9), 1}, {held(1, 2), free(1, 3), -1}, {held(1, 2), free(1, 2), 0}, {free(1, 2), held(1, 2), 0}, {held(1, 2), held(1, 2), 0},
		{free(0, 65535), free(1, 0), -1}, {free(1, 0), held(0, 65535), 1}, {free(1023, 65535), free(1023, 65534), 1}, {free(0, 0), held(1023, 65535), -1},
		{free(0, 0), free(0, 0), 0}, {free(0, 0), held(0, 1), -1},
		{free(1024, 0), free(0, 0), -2}, {free(0, 0), free(1024, 0), -2}, {free(0, 65536), free(1, 0), -2}, {free(1, 0), free(0, 65536), -2},
		{free(-1, 0), free(0, 0), -2}, {free(0, 0), free(0, -1), -2}, {free(1024, 0), free(1024, 0), -2}, {held(1024, 0), free(1023, -1), -2},
	}
	for _, c := range cases {
		if got := impl.LaterWord(c.a, c.b); got != c.later {
			t.Errorf("LaterWord(%v, %v) = %d", c.a, c.b, got)
		}
	}
}

// TestVersionsOfAll compares every two of many words, valid and invalid.
func TestVersionsOfAll(t *testing.T) {
	good := someWords()
	for _, a := range good {
		for _, b := range good {
			order := versionOrder(a, b)
			if impl.LaterWord(a, b) != order || impl.SameVersion(a, b) != (order == 0) {
				t.Fatalf("%v and %v: later %d, same %v", a, b, impl.LaterWord(a, b), impl.SameVersion(a, b))
			}
		}
	}
	checkNone := func(a, b impl.Word) {
		if impl.LaterWord(a, b) != -2 || impl.SameVersion(a, b) {
			t.Errorf("%v and %v: later %d, same %v", a, b, impl.LaterWord(a, b), impl.SameVersion(a, b))
		}
	}
	for _, bad := range badWords() {
		checkNone(bad, bad)
		for _, w := range good {
			checkNone(bad, w)
			checkNone(w, bad)
		}
	}
}

func TestSameVersion(t *testing.T) {
	cases := []struct {
		a, b impl.Word
		same bool
	}{
		{free(1, 2), free(1, 2), true}, {free(1, 2), held(1, 2), true}, {held(1, 2), free(1, 2), true}, {held(1023, 65535), held(1023, 65535), true},
		{free(1, 2), free(1, 3), false}, {free(1, 2), free(2, 2), false}, {free(1, 2), free(2, 1), false}, {free(0, 65535), free(1, 0), false},
		{free(1024, 0), free(1024, 0), false}, {free(0, 65536), free(1, 0), false}, {free(0, -1), free(0, -1), false},
	}
	for _, c := range cases {
		if got := impl.SameVersion(c.a, c.b); got != c.same {
			t.Errorf("SameVersion(%v, %v) = %v", c.a, c.b, got)
		}
	}
}

func TestNextWord(t *testing.T) {
	none := impl.Word{}
	cases := []struct {
		w     impl.Word
		epoch int
		next  impl.Word
		ok    bool
	}{
		{held(1, 2), 1, free(1, 3), true}, {held(1, 2), 4, free(4, 0), true}, {held(1, 2), 0, free(1, 3), true}, {free(1, 2), 1, free(1, 3), true}, {free(1, 2), 2, free(2, 0), true},
		{free(0, 0), 0, free(0, 1), true}, {held(0, 0), 1023, free(1023, 0), true}, {free(1023, 65534), 1023, free(1023, 65535), true}, {free(1023, 7), 0, free(1023, 8), true},
		{free(5, 65534), 5, free(5, 65535), true}, {held(5, 65534), 4, free(5, 65535), true},
		{free(5, 65535), 4, none, false}, {free(5, 65535), 5, none, false}, {free(5, 65535), 6, free(6, 0), true},
		{held(5, 65535), 4, none, false}, {held(5, 65535), 5, none, false}, {held(5, 65535), 6, free(6, 0), true},
		{free(0, 65535), 0, none, false}, {free(0, 65535), 1, free(1, 0), true}, {held(1022, 65535), 1023, free(1023, 0), true},
		{free(1023, 65535), 1023, none, false}, {held(1023, 65535), 0, none, false}, {free(1023, 65535), 1024, none, false},
	}
	for _, c := range cases {
		if next, ok := impl.NextWord(c.w, c.epoch); ok != c.ok || next != c.next {
			t.Errorf("NextWord(%v, %d) = %v, %v", c.w, c.epoch, next, ok)
		}
	}
}

func TestNextWordRefuses(t *testing.T) {
	refuse := func(w impl.Word, epoch int) {
		if next, ok := impl.NextWord(w, epoch); ok || next != (impl.Word{}) {
			t.Errorf("NextWord(%v, %d) = %v, %v", w, epoch, next, ok)
		}
	}
	for _, w := range badWords() {
		for _, epoch := range append([]int{0, 1, 1023}, badEpochs...) {
			refuse(w, epoch)
		}
	}
	for _, w := range someWords() {
		for _, epoch := range badEpochs {
			refuse(w, epoch)
		}
	}
}

// TestPromise2Next checks that a next word is later, not held and the first
// one possible, and that it is refused only where there is none.
func TestPromise2Next(t *testing.T) {
	for _, w := range someWords() {
		for _, epoch := range []int{0, 1, w.Epoch - 1, w.Epoch, w.Epoch + 1, 512, 1022, 1023} {
			next, ok := impl.NextWord(w, epoch)
			valid := 0 <= epoch && epoch <= 1023
			full := w.Seq == 65535 && epoch <= w.Epoch
			if ok != (valid && !full) {
				t.Fatalf("NextWord(%v, %d) = %v, %v", w, epoch, next, ok)
			}
			if !ok {
				continue
			}
			if impl.LaterWord(next, w) != 1 || impl.LaterWord(w, next) != -1 || impl.SameVersion(next, w) || next.Held || !impl.WordOk(next) {
				t.Fatalf("NextWord(%v, %d) = %v is not later and free", w, epoch, next)
			}
			if epoch > w.Epoch && next != free(epoch, 0) || epoch <= w.Epoch && next != free(w.Epoch, w.Seq+1) {
				t.Fatalf("NextWord(%v, %d) = %v", w, epoch, next)
			}
		}
	}
}

// TestPromise2Run counts through one epoch until it is full.
func TestPromise2Run(t *testing.T) {
	w := held(7, 0)
	for steps := 1; ; steps++ {
		next, ok := impl.NextWord(w, 7)
		if !ok {
			if steps != 65536 || w != free(7, 65535) {
				t.Errorf("epoch 7 ends with step %d at %v", steps, w)
			}
			break
		}
		if impl.LaterWord(next, w) != 1 || impl.PackWord(next) <= impl.PackWord(w) {
			t.Fatalf("%v follows %v", next, w)
		}
		w = next
	}
	if next, ok := impl.NextWord(w, 8); !ok || next != free(8, 0) {
		t.Errorf("%v, %v follows the full epoch", next, ok)
	}
}

func TestHoldAndFreeWord(t *testing.T) {
	for _, w := range someWords() {
		isFree, isHeld := free(w.Epoch, w.Seq), held(w.Epoch, w.Seq)
		if got, ok := impl.HoldWord(w); got != isHeld || ok == w.Held {
			t.Fatalf("HoldWord(%v) = %v, %v", w, got, ok)
		}
		if got, ok := impl.FreeWord(w); got != isFree || ok != w.Held {
			t.Fatalf("FreeWord(%v) = %v, %v", w, got, ok)
		}
	}
	for _, w := range badWords() {
		if got, ok := impl.HoldWord(w); ok || got != w {
			t.Errorf("HoldWord(%v) = %v, %v", w, got, ok)
		}
		if got, ok := impl.FreeWord(w); ok || got != w {
			t.Errorf("FreeWord(%v) = %v, %v", w, got, ok)
		}
	}
}

func TestWordText(t *testing.T) {
	cases := []struct {
		w    impl.Word
		text string
	}{
		{held(1, 2), "1.2*"}, {free(1, 2), "1.2"}, {free(0, 0), "0.0"}, {held(0, 0), "0.0*"}, {free(10, 100), "10.100"},
		{free(1023, 65535), "1023.65535"}, {held(1023, 65535), "1023.65535*"}, {free(0, 65535), "0.65535"}, {held(1023, 0), "1023.0*"},
	}
	for _, c := range cases {
		if got := impl.WordText(c.w); got != c.text {
			t.Errorf("WordText(%v) = %q", c.w, got)
		}
		if back, ok := impl.ParseWord(c.text); !ok || back != c.w {
			t.Errorf("ParseWord(%q) = %v, %v", c.text, back, ok)
		}
	}
	for _, w := range badWords() {
		if got := impl.WordText(w); got != "" {
			t.Errorf("WordText(%v) = %q", w, got)
		}
	}
}

func TestPromise2Texts(t *testing.T) {
	for _, w := range someWords() {
		text := impl.WordText(w)
		if back, ok := impl.ParseWord(text); !ok || back != w {
			t.Fatalf("%v becomes %q and %v, %v", w, text, back, ok)
		}
	}
}

func TestParseWordRejects(t *testing.T) {
	texts := []string{
		"", " ", ".", "*", ".*", "..", "**", "1", "12", "1*", "1.", "1.*", ".2", ".2*", "a", "a.b", "1.b", "a.2",
		"1.02", "01.2", "1.02*", "01.2*", "00.0", "0.00", "0.00*", "1.002", "-0.0", "0.-0",
		"+1.2", "1.+2", "-1.2", "1.-2", "--1.2", "1.2-", "-.2", "1.-", "-1.-2", "1e1.2", "0x1.2", "1_0.2",
		"1..2", "1...2", "1.2.", ".1.2", "1.2.3", "1.2.3*", "1.2.*", "1,2", "1;2", "1:2", "1.2,", "1 2",
		"1.2**", "1.2***", "*1.2", "1*.2", "1.*2", "1*.2*", "*1.2*", "**1.2", "1.2*.", "1.2*3", "1.2* *",
		" 1.2", "1.2 ", "1 .2", "1. 2", "1.2 *", "1.2* ", "1.2\n", "\t1.2", "1.2*\n", "1.2\x00", "1.2*\x00", "\xff1.2", "1.2\xff",
		"1024.0", "1024.0*", "1024.2", "9999.2", "1.65536", "1.65536*", "1023.65536", "1024.65535", "1.99999", "0.131072", "1.100000",
		"2147483648.0", "4294967296.0", "0.4294967296", "9223372036854775807.0", "0.9223372036854775808", "0.18446744073709551616", "18446744073709551617.2", "1.18446744073709551618",
		"1.2 3.4", "1.2;3.4", "1.2*1.2*", "\u0661.2", "1.\u0662", "1\u00b72", "1\uff0e2", "1.2\uff0a", "\ufeff1.2",
	}
	for _, text := range texts {
		if w, ok := impl.ParseWord(text); ok || w != (impl.Word{}) {
			t.Errorf("ParseWord(%q) = %v, %v", text, w, ok)
		}
	}
}

// TestParseWordLong gives texts too long for any word; each would be one if
// what is repeated stood there once or not at all.
func TestParseWordLong(t *testing.T) {
	for _, part := range []string{"0", "1", "9", ".", "*", "-", "+", " ", "1.", "1.2", "1.2*", "\x00", "18446744073709551616"} {
		for _, n := range []int{20, 100, 100000} {
			many := strings.Repeat(part, n)
			for _, text := range []string{many, many + "1.2*", many + ".2*", "1." + many, "1." + many + "2", "1.2" + many, "1" + many + ".2", "1.2*" + many, "1" + many + "2"} {
				if w, ok := impl.ParseWord(text); ok || w != (impl.Word{}) {
					t.Errorf("ParseWord of %d bytes with %d times %q = %v, %v", len(text), n, part, w, ok)
				}
			}
		}
	}
}

var wordForm = regexp.MustCompile(`\A(0|[1-9][0-9]{0,3})\.(0|[1-9][0-9]{0,4})(\*?)\z`)

// checkWord reads the fields with a regular expression instead.
func checkWord(t *testing.T, text string) {
	t.Helper()
	w, ok := impl.ParseWord(text)
	var want impl.Word
	parts := wordForm.FindStringSubmatch(text)
	if parts != nil {
		want.Epoch, _ = strconv.Atoi(parts[1])
		want.Seq, _ = strconv.Atoi(parts[2])
		want.Held = parts[3] == "*"
	}
	wantOk := parts != nil && want.Epoch <= 1023 && want.Seq <= 65535
	if !wantOk {
		want = impl.Word{}
	}
	if ok != wantOk || w != want || ok && impl.WordText(w) != text {
		t.Errorf("ParseWord(%q) = %v, %v", text, w, ok)
	}
}

// TestParseWordEdits changes outputs by one byte, and by a second one from the
// bytes that a word's text could go wrong with.
func TestParseWordEdits(t *testing.T) {
	const bytes = "01234569.*+-, e\t\n\x00\xff"
	for _, text := range []string{"0.0", "0.0*", "1.2", "1.2*", "10.20*", "1023.65535", "1023.65535*", "102.6553", "999.9999*"} {
		checkWord(t, text)
		for _, edit := range oneByteEdits(text, bytes) {
			checkWord(t, edit)
			for _, again := range oneByteEdits(edit, "01.*+- ") {
				checkWord(t, again)
			}
		}
	}
}
