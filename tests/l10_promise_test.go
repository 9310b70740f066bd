package tests

import (
	"fmt"
	"reflect"
	"regexp"
	"slices"
	"strconv"
	"strings"
	"testing"

	"loop.example/g00771/impl"
)

const numberForm = ` (0|-?[1-9][0-9]{0,8})`

var (
	setupLine  = regexp.MustCompile(`\Asetup` + strings.Repeat(numberForm, 5) + `\z`)
	progLine   = regexp.MustCompile(`(?s)\Aprog` + numberForm + ` (.*)\z`)
	numberLine = regexp.MustCompile(`\A(pick|round|worker|cell)` + numberForm + `\z`)
)

// A deskModel executes lines by the words of chapter 10, with the model of
// chapter 6.
type deskModel struct {
	*model
	progs [][][]impl.Act
}

func newDeskModel() *deskModel { return &deskModel{model: modelOf(firstEngine())} }

func yesOrNo(is bool) string { return map[bool]string{true: "yes", false: "no"}[is] }

func (d *deskModel) begin(s impl.Setup, progs [][][]impl.Act) string {
	d.model, d.progs = modelOf(newEngine(s, progs)), progs
	return "ok"
}

func (d *deskModel) pickAt(w int) bool { return d.Picks < 4000 && d.pick(w) }

func (d *deskModel) setUp(numbers []string) string {
	var n [5]int
	for i := range n {
		n[i] = num(numbers[i])
	}
	for i, limits := range [5][2]int{{1, 8}, {0, 20}, {1, 100}, {0, 1}, {0, 10}} {
		if n[i] < limits[0] || n[i] > limits[1] {
			return "bad"
		}
	}
	return d.begin(impl.Setup{Keys: n[0], Hot: n[1], Cool: n[2], Lists: n[3] == 1, Age: n[4]}, nil)
}

func (d *deskModel) addProgram(w int, text string) string {
	p, ok := impl.ParseProg(text)
	if !ok || w < 0 || w > len(d.progs) || w == 4 || w < len(d.progs) && len(d.progs[w]) == 12 {
		return "bad"
	}
	for _, a := range p {
		if a.Key >= d.Setup.Keys {
			return "bad"
		}
	}
	progs := slices.Clone(d.progs)
	if w == len(progs) {
		progs = append(progs, nil)
	}
	progs[w] = slices.Concat(progs[w], [][]impl.Act{p})
	return d.begin(d.Setup, progs)
}

func (d *deskModel) withNumber(verb string, n int) string {
	switch {
	case verb == "pick":
		return yesOrNo(d.pickAt(n))
	case n < 0:
		return "bad"
	case verb == "round" && n <= 100:
		for range n {
			for w := range d.Workers {
				d.pickAt(w)
			}
		}
		return "ok"
	case verb == "worker" && n < len(d.Workers):
		w := d.Workers[n]
		return fmt.Sprintf("%d:%d.%d %d", w.At, w.Phase, w.Pc, w.Tries)
	case verb == "cell" && n < d.Setup.Keys:
		return cellText(d.engine().Table.Cells[n])
	}
	return "bad"
}

func cellText(c impl.Cell) string {
	held := map[bool]string{true: "*", false: ""}
	kinds := map[bool]string{true: "w", false: "r"}
	lock := ""
	for _, h := range c.Lock.Holders {
		lock += fmt.Sprint(h.Tid) + kinds[h.Write] + " "
	}
	lock += "|"
	for _, h := range c.Lock.Waiters {
		lock += " " + fmt.Sprint(h.Tid) + kinds[h.Write]
	}
	return fmt.Sprintf("%d %d.%d%s %s", c.Value, c.Word.Epoch, c.Word.Seq, held[c.Word.Held], lock)
}

func commitText(c impl.Commit) string {
	text := fmt.Sprintf("%d w%d p%d t%d got", c.Id, c.Worker, c.At, c.Tries)
	for _, x := range c.Got {
		text += fmt.Sprintf(" %d", x)
	}
	text += " put"
	for _, p := range c.Puts {
		text += fmt.Sprintf(" %d=%d", p.Key, p.Value)
	}
	return text
}

func orMinus(text string) string {
	if text == "" {
		return "-"
	}
	return text
}

func (d *deskModel) reply(line string) string {
	if m := setupLine.FindStringSubmatch(line); m != nil {
		return d.setUp(m[1:])
	}
	if m := progLine.FindStringSubmatch(line); m != nil {
		return d.addProgram(num(m[1]), m[2])
	}
	if m := numberLine.FindStringSubmatch(line); m != nil {
		return d.withNumber(m[1], num(m[2]))
	}
	e := d.engine()
	switch line {
	case "log":
		var texts []string
		for _, c := range e.Log {
			texts = append(texts, commitText(c))
		}
		return orMinus(strings.Join(texts, ", "))
	case "values":
		var values []int
		for _, c := range e.Table.Cells {
			values = append(values, c.Value)
		}
		return strings.Trim(fmt.Sprint(values), "[]")
	case "waits":
		return orMinus(waitText(waitsIn(e)))
	case "done":
		return yesOrNo(!slices.ContainsFunc(e.Workers, func(w impl.Worker) bool { return w.At < len(w.Progs) }))
	case "serial":
		return yesOrNo(isSerial(e))
	}
	return "bad"
}

// ranScript returns what RunDesk and DeskEngine have to return.
func ranScript(text string) (string, impl.Engine, bool) {
	lines := strings.Split(text, "\n")
	if lines[len(lines)-1] == "" {
		lines = lines[:len(lines)-1]
	}
	if len(text) > 4000 || len(lines) > 150 || slices.ContainsFunc(lines, func(line string) bool { return len(line) > 160 }) {
		return "", impl.Engine{}, false
	}
	d := newDeskModel()
	replies := ""
	for _, line := range lines {
		replies += d.reply(line) + "\n"
	}
	return replies, d.engine(), true
}

// checkScript compares a script with the model.
func checkScript(t *testing.T, script string) (string, impl.Engine) {
	t.Helper()
	want, after, known := ranScript(script)
	if got, ok := impl.RunDesk(script); ok != known || got != want {
		t.Fatalf("RunDesk(%q):\n%q, %v instead of\n%q, %v", script, got, ok, want, known)
	}
	if e, ok := impl.DeskEngine(script); ok != known || !sameEngine(e, after) {
		t.Fatalf("DeskEngine(%q):\n%v, %v instead of\n%v, %v", script, e, ok, after, known)
	}
	return want, after
}

func drawProgLine(state *uint32, workers, keys int) string {
	text, _ := impl.ProgText(drawProg(state, keys))
	return fmt.Sprintf("prog %d %s", workers, text)
}

func drawSetupLine(state *uint32, keys int) string {
	s := drawSetup(state)
	lists := draw(state, 2)
	if draw(state, 10) == 0 {
		lists = draw(state, 4) - 1
	}
	if draw(state, 20) == 0 {
		s.Cool, s.Hot = draw(state, 102), draw(state, 23)-1
	}
	return fmt.Sprintf("setup %d %d %d %d %d", keys, s.Hot, s.Cool, lists, s.Age)
}

// drawLater returns a line that mostly leaves the engine as it is, or picks.
func drawLater(state *uint32, keys int) string {
	switch draw(state, 24) {
	case 0:
		return fmt.Sprintf("worker %d", draw(state, 6)-1)
	case 1, 2:
		return fmt.Sprintf("cell %d", draw(state, keys+2)-1)
	case 3:
		return fmt.Sprintf("round %d", draw(state, 6)-1)
	case 4:
		return fmt.Sprintf("round %d", []int{-1, 10, 20, 99, 100, 101}[draw(state, 6)])
	case 5:
		return "log"
	case 6:
		return []string{"values", "done", "serial"}[draw(state, 3)]
	case 7, 8:
		return "waits"
	case 9:
		return fmt.Sprintf("pick %d", draw(state, 12)-4)
	case 10:
		switch draw(state, 8) {
		case 0:
			return drawProgLine(state, draw(state, 6)-1, keys+draw(state, 2))
		case 1:
			return drawSetupLine(state, keys)
		}
		return drawProgLine(state, 5, keys)
	}
	return fmt.Sprintf("pick %d", draw(state, 4))
}

// drawEdit changes one byte, as a rule, and mostly to one that occurs in lines.
func drawEdit(state *uint32, line string) string {
	const bytes = " 0123456789-;setupprogpickroundworkercelladd\xff\xc3\t\r"
	at := draw(state, len(line)+1)
	more := string(bytes[draw(state, len(bytes))])
	switch draw(state, 3) {
	case 0:
		return line[:at] + more + line[at:]
	case 1:
		return line[:at] + line[min(at+1, len(line)):]
	}
	return line[:at] + more + line[min(at+1, len(line)):]
}

// drawScript has a setup, programs, and then mostly picks and questions.
func drawScript(state *uint32) string {
	keys := 1 + draw(state, 3)
	lines := []string{drawSetupLine(state, keys)}
	workers := 1 + draw(state, 5)
	for w := range workers {
		for range 1 + draw(state, 4) {
			lines = append(lines, drawProgLine(state, w, keys))
		}
	}
	for n := 30 + draw(state, 125); len(lines) < n; {
		lines = append(lines, drawLater(state, keys))
	}
	for i := range lines {
		if draw(state, 20) == 0 {
			lines[i] = drawEdit(state, lines[i])
		}
	}
	script := strings.Join(lines, "\n")
	if draw(state, 2) == 0 {
		script += "\n"
	}
	return script
}

func TestScriptsOfAll(t *testing.T) {
	state := uint32(111)
	n := tally{}
	for range 1000 {
		script := drawScript(&state)
		replies, e := checkScript(t, script)
		n.note("is no script", script != "" && replies == "")
		n.note("fails", e.Fails > 0)
		n.note("has the Gate", e.Gate >= 0)
		n.note("commits", len(e.Log) > 3)
		n.note("more picks than lines", e.Picks > 150)
		for _, reply := range strings.Split(replies, "\n") {
			n.note("yes", reply == "yes")
			n.note("no", reply == "no")
			n.note("bad", reply == "bad")
			n.note("waits", strings.Contains(reply, ">"))
			n.note("several waits", strings.Contains(reply, " ") && strings.Contains(reply, ">"))
			n.note("several commits", strings.Contains(reply, ", "))
			n.note("a queue", strings.Contains(reply, "| "))
		}
	}
	n.atLeast(t, 30, "fails", "has the Gate", "commits", "more picks than lines", "waits", "several waits", "several commits", "a queue")
	n.atLeast(t, 1000, "yes", "no", "bad")
	n.atLeast(t, 1, "is no script")
}

// TestScriptEdits changes one byte of a script, at every place.
func TestScriptEdits(t *testing.T) {
	const script = "setup 2 1 20 1 3\nprog 0 add 0 5; get 1\nprog 1 get 0\npick 0\nround 10\nworker 1\ncell 0\nlog\nvalues\nwaits\ndone\nserial\n"
	edits := oneByteEdits(script, " 0129-;\n\xffwx")
	for _, text := range edits {
		checkScript(t, text)
	}
	if len(edits) < 1000 {
		t.Errorf("there are only %d edits", len(edits))
	}
}

// drawTalk returns a play that a script can say: with a program at least for
// each worker, and at most 120 lines.
func drawTalk(state *uint32) play {
	p := play{s: drawSetup(state)}
	p.s.Keys = 1 + p.s.Keys%3
	for range 1 + draw(state, 4) {
		var list [][]impl.Act
		for range 1 + draw(state, 4) {
			list = append(list, drawProg(state, p.s.Keys))
		}
		p.progs = append(p.progs, list)
	}
	for burst := 1 + draw(state, 4); len(p.picks) < 100; {
		w := draw(state, len(p.progs))
		if draw(state, 30) == 0 {
			w = []int{-1, 4, len(p.progs)}[draw(state, 3)]
		}
		for range 1 + draw(state, burst) {
			p.picks = append(p.picks, w)
		}
	}
	p.picks = p.picks[:draw(state, 101)]
	return p
}

// scriptOf writes a play without its picks.
func scriptOf(t *testing.T, p play) string {
	t.Helper()
	first, ok := impl.SetupLine(p.s)
	progs, known := impl.ProgLines(p.progs)
	if !ok || !known {
		t.Fatalf("%v is not written: %v, %v", p, ok, known)
	}
	return first + "\n" + progs
}

func pickLines(t *testing.T, picks []int) string {
	t.Helper()
	text, ok := impl.PickLines(picks)
	if !ok {
		t.Fatalf("%v are not written", picks)
	}
	return text
}

// checkFields compares the engine after a script with that of PlayPicks.
func checkFields(t *testing.T, script string, p play) impl.Engine {
	t.Helper()
	want, _, ok := impl.PlayPicks(p.s, p.progs, p.picks)
	e, known := impl.DeskEngine(script)
	if !ok || !known {
		t.Fatalf("PlayPicks is %v, and DeskEngine of %q is %v", ok, script, known)
	}
	got, other := reflect.ValueOf(e), reflect.ValueOf(want)
	for i := range got.NumField() {
		a, b := fmt.Sprint(got.Field(i)), fmt.Sprint(other.Field(i))
		if a != b {
			t.Fatalf("%s after %q is\n%s instead of\n%s", got.Type().Field(i).Name, script, a, b)
		}
	}
	return want
}

// answers asks e for everything about which a line asks.
func answers(e impl.Engine) []told {
	list := []told{{"worker -1", "bad"}, {"worker " + strconv.Itoa(len(e.Workers)), "bad"}, {"cell -1", "bad"}, {"cell " + strconv.Itoa(len(e.Table.Cells)), "bad"}}
	for w, x := range e.Workers {
		list = append(list, told{fmt.Sprintf("worker %d", w), impl.WorkerText(x)})
	}
	for key, c := range e.Table.Cells {
		list = append(list, told{fmt.Sprintf("cell %d", key), fmt.Sprint(c.Value, " ", impl.WordText(c.Word), " ", impl.LockText(c.Lock))})
	}
	var log, values []string
	for _, c := range e.Log {
		log = append(log, impl.CommitText(c))
	}
	for _, x := range impl.ValuesOf(e.Table) {
		values = append(values, strconv.Itoa(x))
	}
	return append(list, told{"log", orMinus(strings.Join(log, ", "))}, told{"values", strings.Join(values, " ")}, told{"waits", orMinus(waitText(impl.WaitsFor(e)))}, told{"done", yesOrNo(impl.AllDone(e))}, told{"serial", yesOrNo(impl.SerialOk(e))})
}

func okLines(n int) string { return strings.Repeat("ok\n", n) }

func notePromise12(n tally, e impl.Engine) {
	n.note("fails", e.Fails > 0)
	n.note("commits", len(e.Log) > 1)
	n.note("waits", len(impl.WaitsFor(e)) > 0)
	n.note("has the Gate", e.Gate >= 0)
	n.note("is done", impl.AllDone(e))
	n.note("a later epoch", impl.EpochOf(e) > 0)
}

// TestPromise12 asks for everything after all picks.
func TestPromise12(t *testing.T) {
	state := uint32(112)
	n := tally{}
	for range 500 {
		p := drawTalk(&state)
		begin := scriptOf(t, p)
		script := begin + pickLines(t, p.picks)
		e := checkFields(t, script, p)
		_, moves, _ := impl.PlayPicks(p.s, p.progs, p.picks)
		replies := okLines(strings.Count(begin, "\n"))
		for _, moved := range moves {
			replies += yesOrNo(moved) + "\n"
		}
		for _, x := range answers(e) {
			script += x.line + "\n"
			replies += x.reply + "\n"
		}
		checkReplies(t, script, replies)
		checkFields(t, script, p)
		notePromise12(n, e)
	}
	n.atLeast(t, 30, "fails", "commits", "waits", "has the Gate", "is done", "a later epoch")
}

// TestPromise12Between asks something after every few picks, or says what is
// refused, which changes nothing.
func TestPromise12Between(t *testing.T) {
	state := uint32(113)
	for range 300 {
		p := drawTalk(&state)
		p.picks = p.picks[:min(len(p.picks), 70)]
		script := scriptOf(t, p)
		replies := okLines(strings.Count(script, "\n"))
		_, moves, _ := impl.PlayPicks(p.s, p.progs, p.picks)
		for i, w := range p.picks {
			script += pickLines(t, []int{w})
			replies += yesOrNo(moves[i]) + "\n"
			if draw(&state, 3) > 0 {
				continue
			}
			e, _, _ := impl.PlayPicks(p.s, p.progs, p.picks[:i+1])
			list := append(answers(e), told{"", "bad"}, told{"prog 5 get 0", "bad"}, told{"prog 0 get 7", "bad"}, told{"setup 0 0 1 0 0", "bad"}, told{"round 101", "bad"}, told{"round 0", "ok"}, told{"pick", "bad"})
			x := list[draw(&state, len(list))]
			script += x.line + "\n"
			replies += x.reply + "\n"
			checkFields(t, script, play{p.s, p.progs, p.picks[:i+1]})
		}
		checkReplies(t, script, replies)
		checkFields(t, script, p)
	}
}

// TestPromise12Rounds has more picks than a script has lines.
func TestPromise12Rounds(t *testing.T) {
	state := uint32(114)
	n := tally{}
	for range 300 {
		p := drawTalk(&state)
		script := scriptOf(t, p)
		some := slices.Clone(p.picks)
		p.picks = nil
		for len(some) > 0 && strings.Count(script, "\n") < 120 {
			few := some[:min(len(some), draw(&state, 8))]
			some = some[len(few):]
			rounds := draw(&state, 12)
			if draw(&state, 10) == 0 {
				rounds = 60 + draw(&state, 41)
			}
			all, ok := impl.RoundPicks(len(p.progs), rounds)
			if !ok || len(p.picks)+len(few)+len(all) > impl.MaxPicks {
				break
			}
			p.picks = slices.Concat(p.picks, few, all)
			script += pickLines(t, few) + fmt.Sprintf("round %d\n", rounds)
		}
		notePromise12(n, checkFields(t, script, p))
		n.note("many picks", len(p.picks) > 200)
	}
	n.atLeast(t, 10, "fails", "commits", "waits", "is done", "a later epoch", "many picks")
}

// TestPromise12Again says another play after the first one: its setup leaves
// nothing of that.
func TestPromise12Again(t *testing.T) {
	state := uint32(115)
	for range 200 {
		first, second := drawTalk(&state), drawTalk(&state)
		first.picks, second.picks = first.picks[:min(len(first.picks), 40)], second.picks[:min(len(second.picks), 40)]
		script := scriptOf(t, first) + pickLines(t, first.picks) + scriptOf(t, second) + pickLines(t, second.picks)
		checkFields(t, script, second)
		// The programs are what is new here; the setup stays.
		again := scriptOf(t, second) + pickLines(t, first.picks) + "prog 0 get 0\n" + pickLines(t, second.picks)
		second.progs[0] = append(second.progs[0], programs("get 0")[0])
		checkFields(t, again, second)
	}
}
