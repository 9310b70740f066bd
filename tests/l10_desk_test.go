package tests

import (
	"fmt"
	"math"
	"reflect"
	"slices"
	"strconv"
	"strings"
	"sync"
	"testing"

	"loop.example/g00771/impl"
)

// A told is a line of a script with its reply.
type told struct{ line, reply string }

// dialogue reads lines such as "pick 0 -> yes".
func dialogue(text string) []told {
	var list []told
	for line := range strings.Lines(text) {
		if line = strings.TrimSpace(line); line != "" {
			before, after, ok := strings.Cut(line, " -> ")
			if !ok {
				panic("no reply: " + line)
			}
			list = append(list, told{before, after})
		}
	}
	return list
}

// checkTalk runs a script of these lines, with and without the last newline.
func checkTalk(t *testing.T, list ...told) {
	t.Helper()
	script, want := "", ""
	for _, x := range list {
		script += x.line + "\n"
		want += x.reply + "\n"
	}
	checkReplies(t, script, want)
	if bare := strings.TrimSuffix(script, "\n"); !strings.HasSuffix("\n"+bare, "\n") {
		checkReplies(t, bare, want)
	}
}

func checkReplies(t *testing.T, script, want string) {
	t.Helper()
	if got, ok := impl.RunDesk(script); !ok || got != want {
		t.Errorf("RunDesk(%q):\n%q, %v instead of\n%q", script, got, ok, want)
	}
}

// checkDesk asks for the engine after a script.
func checkDesk(t *testing.T, script string, want impl.Engine) {
	t.Helper()
	if e, ok := impl.DeskEngine(script); !ok || !sameEngine(e, want) {
		t.Errorf("DeskEngine(%q):\n%v, %v instead of\n%v", script, e, ok, want)
	}
}

func checkNoScript(t *testing.T, script string) {
	t.Helper()
	if got, ok := impl.RunDesk(script); ok || got != "" {
		t.Errorf("RunDesk of %d bytes, %q.., is %q, %v", len(script), script[:min(len(script), 40)], got, ok)
	}
	if e, ok := impl.DeskEngine(script); ok || !isZeroEngine(e) {
		t.Errorf("DeskEngine of %d bytes, %q.., is %v, %v", len(script), script[:min(len(script), 40)], e, ok)
	}
}

// firstEngine is the engine before the first line.
func firstEngine() impl.Engine { return newEngine(setup("4 4 20 1 3"), nil) }

func TestChapter10Limits(t *testing.T) {
	if impl.MaxTalk != 4000 || impl.MaxTalkLines != 150 || impl.MaxLineBytes != 160 {
		t.Error("limits differ from the document")
	}
}

// TestExampleScript is the script of the given test, with what the engine is
// after it.
func TestExampleScript(t *testing.T) {
	checkTalk(t, dialogue(`
		setup 2 0 20 1 3 -> ok
		prog 0 add 0 5 -> ok
		prog 1 get 0 -> ok
		round 3 -> ok
		worker 0 -> 0:3.0 0
		cell 0 -> 0 0.0 |
		round 4 -> ok
		log -> 1 w0 p0 t0 got put 0=5
		values -> 5 0
		done -> no
		serial -> yes
		waits -> -
		prog 5 get 0 -> bad
		pick 9 -> no`)...)
}

func TestNewDesk(t *testing.T) {
	checkTalk(t, dialogue(`
		log -> -
		values -> 0 0 0 0
		waits -> -
		done -> yes
		serial -> yes
		worker 0 -> bad
		cell 0 -> 0 0.0 |
		cell 3 -> 0 0.0 |
		cell 4 -> bad
		pick 0 -> no
		round 5 -> ok
		values -> 0 0 0 0`)...)
	// The Setup is DefaultSetup: worker 1 fails at key 3, and so its next
	// attempt locks that key in advance. Worker 0 installs in epoch 1.
	checkTalk(t, dialogue(`
		prog 0 add 3 -7 -> ok
		prog 1 get 3 -> ok
		prog 0 get 4 -> bad
		round 2 -> ok
		pick 0 -> yes
		pick 0 -> yes
		pick 1 -> yes
		worker 1 -> 0:0.0 1
		pick 1 -> yes
		pick 1 -> yes
		pick 1 -> no
		worker 1 -> 0:1.0 1
		cell 3 -> 0 0.0* 1w | 2r
		waits -> 1>0
		round 2 -> ok
		pick -1 -> no
		pick -1 -> no
		pick 2 -> no
		pick 3 -> no
		pick 4 -> no
		pick 5 -> no
		pick 0 -> yes
		cell 3 -> -7 1.0 2r |
		waits -> -
		round 5 -> ok
		cell 3 -> -7 1.0 |
		log -> 1 w0 p0 t0 got put 3=-7, 2 w1 p0 t1 got -7 put
		done -> yes`)...)
}

// TestReplies has every line of the table with each of its replies.
func TestReplies(t *testing.T) {
	checkTalk(t, dialogue(`
		setup 3 0 100 1 0 -> ok
		prog 0 get 1; add 0 1 -> ok
		prog 1 get 0; put 2 -1000000; get 2 -> ok
		prog 1 add 2 1 -> ok
		done -> no
		worker 0 -> 0:0.0 0
		worker 1 -> 0:0.0 0
		worker 2 -> bad
		round 4 -> ok
		worker 0 -> 0:3.0 0
		worker 1 -> 0:2.2 0
		pick 0 -> yes
		worker 0 -> 0:3.1 0
		cell 0 -> 0 0.0* 1w |
		cell 1 -> 0 0.0 |
		round 2 -> ok
		worker 0 -> 0:5.1 0
		worker 1 -> 0:3.1 0
		cell 2 -> 0 0.0* 2w |
		log -> 1 w0 p0 t0 got 0 put 0=1
		values -> 0 0 0
		serial -> yes
		pick 1 -> yes
		pick 1 -> yes
		worker 1 -> 0:0.0 1
		cell 2 -> 0 0.0 |
		pick 1 -> yes
		worker 1 -> 0:1.0 1
		pick 1 -> yes
		cell 0 -> 0 0.0* 1w | 2r
		pick 1 -> no
		waits -> 1>0
		serial -> yes
		done -> no
		pick 0 -> yes
		cell 0 -> 1 0.1 2r |
		waits -> -
		values -> 1 0 0
		pick 0 -> no
		pick 2 -> no
		pick -1 -> no
		round 20 -> ok
		done -> yes
		worker 0 -> 1:0.0 0
		worker 1 -> 2:0.0 0
		log -> 1 w0 p0 t0 got 0 put 0=1, 2 w1 p0 t1 got 1 -1000000 put 2=-1000000, 3 w1 p1 t0 got put 2=-999999
		values -> 1 0 -999999
		cell 2 -> -999999 0.2 |
		waits -> -
		serial -> yes`)...)
}

// TestManyWaits has several waiters at locks, and others at the Gate.
func TestManyWaits(t *testing.T) {
	checkTalk(t, dialogue(`
		setup 1 1 100 1 1 -> ok
		prog 0 add 0 1 -> ok
		prog 1 get 0 -> ok
		prog 2 get 0 -> ok
		prog 3 put 0 9 -> ok
		pick 0 -> yes
		pick 0 -> yes
		pick 0 -> yes
		pick 0 -> yes
		pick 1 -> yes
		pick 1 -> yes
		waits -> -
		pick 1 -> yes
		worker 1 -> 0:0.0 1
		waits -> 1>0 2>1 3>1
		pick 1 -> no
		pick 2 -> no
		pick 3 -> no`)...)
	checkTalk(t, dialogue(`
		setup 1 1 100 0 0 -> ok
		prog 0 add 0 1 -> ok
		prog 1 get 0 -> ok
		prog 2 get 0 -> ok
		prog 3 put 0 9 -> ok
		pick 0 -> yes
		pick 0 -> yes
		pick 0 -> yes
		pick 0 -> yes
		pick 1 -> yes
		pick 1 -> yes
		pick 1 -> yes
		pick 1 -> yes
		pick 1 -> yes
		pick 3 -> yes
		pick 3 -> yes
		pick 2 -> yes
		pick 2 -> yes
		cell 0 -> 0 0.0* 1w | 2r 4w 3r
		waits -> 1>0 2>0 2>1 2>3 3>0 3>1
		pick 2 -> no
		round 3 -> ok
		cell 0 -> 1 0.1 2r | 4w 3r
		waits -> 2>1 2>3 3>1
		serial -> yes`)...)
}

// TestOpenSerial has a commit that is not installed yet.
func TestOpenSerial(t *testing.T) {
	for picks, reply := range []string{"0:0.0 0", "0:1.0 0", "0:2.0 0", "0:3.0 0", "0:3.1 0", "0:4.1 0", "0:5.1 0", "1:0.0 0", "1:0.0 0"} {
		log, value := "-", "0 0.0 |"
		if picks == 4 || picks == 5 || picks == 6 {
			value = "0 0.0* 1w |"
		}
		if picks > 5 {
			log = "1 w0 p0 t0 got put 0=5"
		}
		if picks > 6 {
			value = "5 0.1 |"
		}
		checkTalk(t, told{"setup 1 0 20 0 0", "ok"}, told{"prog 0 add 0 5", "ok"}, told{"round " + strconv.Itoa(picks), "ok"}, told{"worker 0", reply}, told{"cell 0", value}, told{"log", log}, told{"serial", "yes"}, told{"done", map[bool]string{true: "yes", false: "no"}[picks > 6]})
	}
}

func TestLinesOfScripts(t *testing.T) {
	scripts := []struct{ script, replies string }{
		{"", ""}, {"\n", "bad\n"}, {"\n\n", "bad\nbad\n"}, {"\n\n\n", "bad\nbad\nbad\n"}, {"done", "yes\n"}, {"done\n", "yes\n"}, {"done\n\n", "yes\nbad\n"}, {"\ndone", "bad\nyes\n"}, {"\ndone\n", "bad\nyes\n"},
		{"done\n\ndone", "yes\nbad\nyes\n"}, {"done\n\n\ndone\n", "yes\nbad\nbad\nyes\n"}, {"done\nlog", "yes\n-\n"}, {"done\nlog\n", "yes\n-\n"}, {" ", "bad\n"}, {" \n", "bad\n"}, {"done\n ", "yes\nbad\n"}, {"done\r\nlog\r\n", "bad\nbad\n"}, {"done\rlog", "bad\n"},
		{"done\x00", "bad\n"}, {"\x00", "bad\n"}, {"done;log", "bad\n"}, {"done\vlog\fwaits\u0085done\u2028log", "bad\n"}, {"bad", "bad\n"}, {"ok\nyes\nno\n-\n", "bad\nbad\nbad\nbad\n"},
	}
	for _, c := range scripts {
		checkReplies(t, c.script, c.replies)
		checkDesk(t, c.script, firstEngine())
	}
	// A line without its newline has its effect too.
	for _, script := range []string{"setup 2 0 7 0 1", "setup 2 0 7 0 1\n", "\nsetup 2 0 7 0 1\n\n", "setup 2 0 7 0 1\nlog\n\xff"} {
		checkDesk(t, script, newEngine(setup("2 0 7 0 1"), nil))
	}
}

func TestScriptBytes(t *testing.T) {
	// 40 lines of 99 bytes and a newline.
	lines := strings.Repeat(strings.Repeat("x", 99)+"\n", 40)
	replies := strings.Repeat("bad\n", 40)
	checkReplies(t, lines, replies)
	checkDesk(t, lines, firstEngine())
	checkReplies(t, lines[:3999], replies)
	checkReplies(t, lines[:3900]+"done", strings.TrimSuffix(replies, "bad\n")+"yes\n")
	last := lines[:3900] + strings.Repeat("y", 100)
	checkReplies(t, last, replies)
	for _, more := range []string{"\n", "x", " ", "\x00", "done", "done\n", "\n\n", "é"} {
		checkNoScript(t, lines+more)
		checkNoScript(t, last+more)
		checkNoScript(t, "done\n"+lines[:3996]+more)
	}
	// The limit is one of bytes, and not of runes.
	runes := strings.Repeat(strings.Repeat("é", 39)+"\n", 50)
	checkReplies(t, runes+strings.Repeat("é", 25), strings.Repeat("bad\n", 51))
	checkNoScript(t, runes+strings.Repeat("é", 25)+"\n")
	checkNoScript(t, strings.Repeat(strings.Repeat("é", 40)+"\n", 50))
	checkNoScript(t, strings.Repeat("done\n", 100000))
}

func TestScriptLines(t *testing.T) {
	for _, n := range []int{1, 2, 149, 150} {
		checkReplies(t, strings.Repeat("done\n", n), strings.Repeat("yes\n", n))
		checkReplies(t, strings.Repeat("\n", n), strings.Repeat("bad\n", n))
		checkReplies(t, strings.Repeat("\n", n-1)+"done", strings.Repeat("bad\n", n-1)+"yes\n")
		checkDesk(t, strings.Repeat("\n", n), firstEngine())
	}
	checkDesk(t, strings.Repeat("\n", 149)+"setup 1 0 1 0 0", newEngine(setup("1 0 1 0 0"), nil))
	for _, script := range []string{strings.Repeat("done\n", 151), strings.Repeat("\n", 151), strings.Repeat("done\n", 150) + "done", strings.Repeat("\n", 150) + "x", strings.Repeat("done\n", 150) + " ", strings.Repeat("\n", 4000), strings.Repeat("log\n", 1000)} {
		checkNoScript(t, script)
	}
}

func TestLineBytes(t *testing.T) {
	// The first ones begin as lines that would have an effect.
	for _, c := range []struct{ begin, fill string }{{"x", "x"}, {"prog 0 get 0; ", "get 0; "}, {"pick 1", "1"}, {"done ", " "}, {"é", "é"}, {"\xff", "\xff"}, {"setup 1 0 1 0 0 ", "0 "}} {
		long := c.begin + strings.Repeat(c.fill, 161)
		full, over := long[:160], long[:161]
		for _, before := range []string{"", "done\n", "\n", full + "\n"} {
			replies, _ := impl.RunDesk(before)
			for _, after := range []string{"", "\n", "\n\n", "\ndone"} {
				rest, _ := impl.RunDesk(strings.TrimPrefix(after, "\n"))
				checkReplies(t, before+full+after, replies+"bad\n"+rest)
				checkDesk(t, before+full+after, firstEngine())
				checkReplies(t, before+full[:159]+after, replies+"bad\n"+rest)
				checkNoScript(t, before+over+after)
				checkNoScript(t, before+long+after)
			}
		}
	}
}

// isNumber tells of words, and of what is no word, whether they are numbers.
var isNumber = map[string]bool{
	"0": true, "1": true, "9": true, "10": true, "-1": true, "-9": true, "-10": true, "100": true, "123456789": true, "999999999": true, "100000000": true, "-123456789": true, "-999999999": true, "-100000000": true,
	"-0": false, "00": false, "01": false, "-01": false, "-00": false, "007": false, "-": false, "--1": false, "1-": false, "-1-": false, "1-1": false, "+0": false, "+1": false, "-+1": false, "": false,
	"1234567890": false, "1000000000": false, "-1234567890": false, "0123456789": false, "0000000000": false, "9223372036854775807": false, "9223372036854775808": false, "18446744073709551616": false, "18446744073709551617": false, "4294967296": false, "-9223372036854775808": false,
	"1.0": false, "1e3": false, "0x1": false, "1_0": false, "a": false, "1a": false, "a1": false, "O": false, "0,": false, "١": false, "１": false, "0é": false, "\xff": false, "1\xff": false, "0\x00": false, "\t0": false, "0\t": false, "0\r": false, "−1": false,
}

func TestNumbers(t *testing.T) {
	for text, is := range isNumber {
		pick, round := "bad", "bad"
		picked := firstEngine()
		if is {
			pick = "no"
			picked.Picks = 1
			if n := num(text); 0 <= n && n <= 100 {
				round = "ok"
			}
		}
		checkTalk(t, told{"pick " + text, pick}, told{"round " + text, round})
		checkDesk(t, "pick "+text, picked)
		for _, verb := range []string{"worker ", "cell "} {
			if text != "0" && text != "1" {
				checkTalk(t, told{verb + text, "bad"})
			}
		}
		checkTalk(t, told{"setup 1 0 1 0 " + text, map[bool]string{true: "ok", false: "bad"}[text == "0" || text == "1" || text == "9" || text == "10"]},
			told{"setup " + text + " 0 1 0 0", map[bool]string{true: "ok", false: "bad"}[text == "1"]},
			told{"prog " + text + " get 0", map[bool]string{true: "ok", false: "bad"}[text == "0"]},
			told{"prog 0 get " + text, map[bool]string{true: "ok", false: "bad"}[text == "0"]})
	}
}

// TestForms has words too few and too many, spaces too many, and names that
// are nearly right.
func TestForms(t *testing.T) {
	good := []string{"setup 2 0 20 1 3", "prog 0 add 0 5; get 1", "pick 0", "round 3", "worker 0", "cell 0", "log", "values", "waits", "done", "serial"}
	start := "setup 2 0 100 0 0\nprog 0 put 0 1\nround 2\n"
	before, _ := impl.DeskEngine(start)
	for _, line := range good {
		if got, ok := impl.RunDesk(start + line); !ok || got == "ok\nok\nok\nbad\n" {
			t.Errorf("the reply to %q is bad", line)
		}
		words := strings.Split(line, " ")
		bad := []string{" " + line, line + " ", "  " + line, line + "  ", "\t" + line, line + "\t", line + "\r", line + "\x00", line + ";", line + " 0", line + " x", line + " " + line, line + "é", "\ufeff" + line, "\xff" + line, line + "\xff",
			strings.ToUpper(line), strings.ToUpper(line[:1]) + line[1:], line[1:], "x" + line, words[0] + "s" + line[len(words[0]):], words[0][:len(words[0])-1] + line[len(words[0]):], "-" + line, "'" + line + "'"}
		for i := range words {
			cut := strings.Join(slices.Delete(slices.Clone(words), i, i+1), " ")
			bad = append(bad, cut)
			if i > 0 {
				for _, separator := range []string{"  ", "\t", " \t", ",", "", "\u00a0", ", "} {
					bad = append(bad, strings.Join(words[:i], " ")+separator+strings.Join(words[i:], " "))
				}
				bad = append(bad, strings.Join(words[:i], " "), strings.Join(words[:i], " ")+" ", strings.Join(words[:i], " ")+" x "+strings.Join(words[i:], " "))
			}
		}
		for _, text := range bad {
			checkReplies(t, start+text+"\nworker 0", "ok\nok\nok\nbad\n0:2.0 0\n")
			checkDesk(t, start+text, before)
		}
	}
}

func TestSetupLines(t *testing.T) {
	start := "setup 2 0 100 0 0\nprog 0 put 0 1\nprog 1 get 0\nround 6\n"
	before, _ := impl.DeskEngine(start)
	for _, s := range goodSetups() {
		line := fmt.Sprintf("setup %d %d %d %d %d", s.Keys, s.Hot, s.Cool, map[bool]int{true: 1, false: 0}[s.Lists], s.Age)
		checkReplies(t, line, "ok\n")
		checkReplies(t, start+line, "ok\nok\nok\nok\nok\n")
		checkDesk(t, line, newEngine(s, nil))
		checkDesk(t, start+line, newEngine(s, nil))
	}
	bad := []string{"setup 4 4 20 2 3", "setup 4 4 20 -1 3", "setup 4 4 20 10 3", "setup 4 4 20 11 3", "setup 4 4 20 01 3", "setup 4 4 20 999999999 3", "setup 4 4 20 true 3", "setup 4 4 20 yes 3", "setup 4 4 20 1", "setup 4 4 20 1 3 0", "setup", "setup 4", "setup 1 1 1 1 1 1"}
	for _, s := range badSetups() {
		bad = append(bad, fmt.Sprintf("setup %d %d %d 0 %d", s.Keys, s.Hot, s.Cool, s.Age), fmt.Sprintf("setup %d %d %d 1 %d", s.Keys, s.Hot, s.Cool, s.Age))
	}
	for _, line := range bad {
		checkReplies(t, line, "bad\n")
		checkDesk(t, line, firstEngine())
		checkReplies(t, start+line+"\nworker 0", "ok\nok\nok\nok\nbad\n0:5.1 0\n")
		checkDesk(t, start+line, before)
	}
}

func TestProgramLines(t *testing.T) {
	one, two := programs("get 0"), programs("add 0 5; get 1; put 1 -2, put 1 1000000")
	s := setup("4 4 20 1 3")
	cases := []struct {
		script, replies string
		progs           [][][]impl.Act
	}{
		{"prog 0 get 0", "ok", [][][]impl.Act{one}},
		{"prog 0 get 0\nprog 0 get 0", "ok ok", [][][]impl.Act{{one[0], one[0]}}},
		{"prog 0 add 0 5; get 1; put 1 -2\nprog 0 put 1 1000000", "ok ok", [][][]impl.Act{two}},
		{"prog 1 get 0", "bad", nil}, {"prog 2 get 0", "bad", nil}, {"prog 4 get 0", "bad", nil}, {"prog 5 get 0", "bad", nil}, {"prog -1 get 0", "bad", nil}, {"prog 999999999 get 0", "bad", nil},
		{"prog 1 get 0\nprog 0 get 0\nprog 2 get 0\nprog 1 get 0\nprog 3 get 0", "bad ok bad ok bad", [][][]impl.Act{one, one}},
		{"prog 0 get 0\nprog -1 get 0\nprog 1 get 1; put 0 2\nprog 0 get 2", "ok bad ok ok", crew("get 0, get 2 / get 1; put 0 2")},
		{"prog 0 get 0\nprog 1 get 0\nprog 2 get 0\nprog 3 get 0\nprog 4 get 0\nprog 5 get 0\nprog -1 get 0\nprog 3 get 3", "ok ok ok ok bad bad bad ok", crew("get 0 / get 0 / get 0 / get 0, get 3")},
		{"prog 0 get 4\nprog 0 get 7\nprog 0 get 8\nworker 0\nprog 1 get 0", "bad bad bad bad bad", nil},
		{"prog 0 get 3\nprog 0 get 3; get 4\nprog 1 put 4 1\nworker 1\nprog 1 put 3 1", "ok bad bad bad ok", crew("get 3 / put 3 1")},
		{"prog 0\nprog 0 \nprog  get 0\nprog get 0\nprog 0 get\nprog 0 ;\nprog 0 get 0;\nprog 0 get 0; \nprog 0 get 0;get 1\nprog 0 get 0 ; get 1\nprog 0 get 0;  get 1\nprog 0 ; get 0\nprog 0 GET 0", strings.Repeat(" bad", 13)[1:], nil},
		{"prog 0 add 0 1000001\nprog 0 put 0 -1000001\nprog 0 add 0\nprog 0 get 0 0\nprog 0 sub 0 1\nprog 0 get -1\nprog 0 put 0 01", strings.Repeat(" bad", 7)[1:], nil},
		{"prog 0 get 0; get 0; get 0; get 0; get 0; get 0\nprog 0 get 0; get 0; get 0; get 0; get 0; get 0; get 0", "ok bad", crew("get 0; get 0; get 0; get 0; get 0; get 0")},
		{strings.Repeat("prog 0 get 0\n", 13) + "prog 1 get 0", strings.Repeat("ok ", 12) + "bad ok", [][][]impl.Act{slices.Repeat(one, 12), one}},
		{"prog 0 get 3\nprog 0 put 3 2\nsetup 3 4 20 1 3\nprog 1 get 0\nprog 0 get 3\nsetup 4 4 20 1 3\nprog 0 get 3", "ok ok ok bad bad ok ok", crew("get 3")},
		{"prog 0 get 0\nprog 1 get 0\nsetup 4 4 20 1 3\nworker 0\nprog 1 get 0", "ok ok ok bad bad", nil},
		{"prog 0 get 0\nsetup 9 4 20 1 3\nsetup 4 4 20 2 3\nprog 1 get 0", "ok bad bad ok", [][][]impl.Act{one, one}},
	}
	for _, c := range cases {
		checkReplies(t, c.script, strings.ReplaceAll(c.replies, " ", "\n")+"\n")
		checkDesk(t, c.script, newEngine(s, c.progs))
	}
	for keys := 1; keys <= 8; keys++ {
		for key := range 8 {
			e := newEngine(impl.Setup{Keys: keys, Cool: 1}, nil)
			if key < keys {
				e = newEngine(e.Setup, [][][]impl.Act{{{put(key, 1)}}})
			}
			checkDesk(t, fmt.Sprintf("setup %d 0 1 0 0\nprog 0 put %d 1", keys, key), e)
		}
	}
}

// TestNewEngineLines has a new setup and new programs after picks, which leave
// nothing of those, and refused ones, which leave everything.
func TestNewEngineLines(t *testing.T) {
	picked := "setup 2 1 3 1 1\nprog 0 add 0 1\nprog 1 get 0\nround 4\npick 0\npick 1\npick 0\npick 0\npick 1\nround 2\n"
	e, ok := impl.DeskEngine(picked)
	if !ok || e.Picks == 0 || e.Fails == 0 || e.Ids == 0 || len(e.Log) == 0 || slices.Max(impl.ValuesOf(e.Table)) == 0 || e.Workers[1].Tries == 0 {
		t.Fatalf("the picks have too few effects: %v", e)
	}
	s, progs := setup("2 1 3 1 1"), crew("add 0 1 / get 0")
	checkDesk(t, picked+"setup 2 1 3 1 1", newEngine(s, nil))
	checkDesk(t, picked+"setup 8 0 1 0 0\nprog 0 get 7", newEngine(setup("8 0 1 0 0"), crew("get 7")))
	checkDesk(t, picked+"prog 0 put 1 1", newEngine(s, [][][]impl.Act{{progs[0][0], {put(1, 1)}}, progs[1]}))
	checkDesk(t, picked+"prog 1 put 1 1", newEngine(s, [][][]impl.Act{progs[0], {progs[1][0], {put(1, 1)}}}))
	checkDesk(t, picked+"prog 2 put 1 1", newEngine(s, [][][]impl.Act{progs[0], progs[1], {{put(1, 1)}}}))
	for _, line := range []string{"setup 9 1 3 1 1", "setup 2 1 3 2 1", "setup 2 1 3 1", "prog 3 get 0", "prog -1 get 0", "prog 0 get 2", "prog 2 get 2", "prog 4 get 0", "prog 0 get", "prog", "round 101", "round -1", "round", "pick", "pick x", "worker 2", "worker 0", "cell 2", "cell 0", "log", "values", "waits", "done", "serial", "", "round 0"} {
		checkDesk(t, picked+line, e)
		checkDesk(t, picked+line+"\nprog 2 put 1 1", newEngine(s, [][][]impl.Act{progs[0], progs[1], {{put(1, 1)}}}))
	}
	// A refused program leaves no room for itself: neither in its worker nor
	// as a new one.
	full := "setup 2 0 20 0 0\n" + strings.Repeat("prog 0 get 0\n", 11)
	checkTalk(t, append(dialogue("setup 2 0 20 0 0 -> ok \n"+strings.Repeat("prog 0 get 0 -> ok \n", 11)), dialogue(`
		prog 0 get 2 -> bad
		prog 0 get 1 -> ok
		prog 0 get 1 -> bad
		prog 1 get 2 -> bad
		prog 2 get 0 -> bad
		worker 1 -> bad
		prog 1 get 1 -> ok
		worker 1 -> 0:0.0 0`)...)...)
	checkDesk(t, full+"prog 0 get 2\nprog 0 get 1\nprog 0 get 1", newEngine(setup("2 0 20 0 0"), [][][]impl.Act{append(slices.Repeat(programs("get 0"), 11), []impl.Act{get(1)})}))
}

func TestPickAndRoundLines(t *testing.T) {
	for _, workers := range []int{0, 1, 2, 4} {
		start := "setup 1 0 100 0 0\n"
		for w := range workers {
			start += fmt.Sprintf("prog %d add 0 1\nprog %d get 0\n", w, w)
		}
		replies := okLines(1 + 2*workers)
		for _, n := range []int{0, 1, 2, 3, 7, 50, 99, 100} {
			checkReplies(t, fmt.Sprintf("%sround %d", start, n), replies+"ok\n")
			m := modelOf(newEngine(setup("1 0 100 0 0"), slices.Repeat(crew("add 0 1, get 0"), workers)))
			for range n {
				for w := range workers {
					m.pick(w)
				}
			}
			checkDesk(t, fmt.Sprintf("%sround %d", start, n), m.engine())
		}
		before, _ := impl.DeskEngine(start)
		for _, n := range []string{"-1", "101", "-100", "102", "200", "1000", "999999999", "-999999999", "0100", "1e2"} {
			checkReplies(t, start+"round "+n, replies+"bad\n")
			checkDesk(t, start+"round "+n, before)
		}
		// Whoever does not exist is picked all the same.
		for _, w := range []int{-1, -2, workers, workers + 1, 4, 5, 8, 999999999, -999999999} {
			if w >= 0 && w < workers {
				continue
			}
			after := before
			after.Picks = 1
			checkReplies(t, fmt.Sprintf("%spick %d", start, w), replies+"no\n")
			checkDesk(t, fmt.Sprintf("%spick %d", start, w), after)
		}
	}
	// Such a pick cools the keys, as every other one.
	checkDesk(t, "pick 0\npick -7\npick 3\nround 100\npick 999999999", engine("setup 4 4 20 1 3 \n picks 4"))
	checkDesk(t, "setup 1 1 3 0 0\nprog 0 add 0 1\nprog 1 get 0\npick 0\npick 0\npick 0\npick 0\npick 1\npick 1\npick 1\npick 7", engine("setup 1 1 3 0 0 \n picks 8 \n heat 0=1 \n cells 0 0.0* 1w | \n w0 add 0 1 @ 0:3.1 0 reads 0=0@0.0 puts 0=1 \n w1 get 0 @ 0:0.0 1 \n fails 1"))
	checkDesk(t, "setup 1 1 3 0 0\nprog 0 add 0 1\nprog 1 get 0\npick 0\npick 0\npick 0\npick 0\npick 1\npick 1\npick 1\npick 7\npick -1", engine("setup 1 1 3 0 0 \n picks 9 \n cells 0 0.0* 1w | \n w0 add 0 1 @ 0:3.1 0 reads 0=0@0.0 puts 0=1 \n w1 get 0 @ 0:0.0 1 \n fails 1"))
}

// TestLastDeskPicks has scripts that pick as often as PickWorker picks, and
// then more.
func TestLastDeskPicks(t *testing.T) {
	four := "setup 1 0 100 0 0\nprog 0 add 0 1\nprog 1 add 0 1\nprog 2 add 0 1\nprog 3 add 0 1\n"
	full := four + strings.Repeat("round 100\n", 10)
	e, _ := impl.DeskEngine(full)
	if e.Picks != 4000 || !impl.AllDone(e) {
		t.Fatalf("there are %d picks: %v", e.Picks, e)
	}
	checkDesk(t, full+"pick 0\npick -1\npick 9\nround 100\nround 1\n"+strings.Repeat("round 100\n", 120), e)
	checkReplies(t, full+"pick 0\npick -1\nround 100\nround 0\nround 101\ndone\nserial", okLines(15)+"no\nno\nok\nok\nbad\nyes\nyes\n")
	checkDesk(t, full+"pick 0\nprog 3 get 0\npick 3", engine("setup 1 0 100 0 0 \n picks 1 \n w0 add 0 1 @ 0:0.0 0 \n w1 add 0 1 @ 0:0.0 0 \n w2 add 0 1 @ 0:0.0 0 \n w3 add 0 1, get 0 @ 0:1.0 0"))
}

// TestPicksAreRefused has workers that could still move after the last pick.
func TestPicksAreRefused(t *testing.T) {
	s, progs := setup("6 0 100 1 1"), alike(4, 12)
	text, _ := impl.ProgLines(progs)
	script := "setup 6 0 100 1 1\n" + text
	m := modelOf(newEngine(s, progs))
	for i := range 4000 {
		m.pick(i % 4)
	}
	full := m.engine()
	movable := full
	movable.Picks = 0
	if len(impl.EnabledOf(full)) > 0 || len(impl.EnabledOf(movable)) == 0 {
		t.Fatalf("nobody could move: %v", full)
	}
	almost := script + strings.Repeat("round 100\n", 9) + "round 99\npick 0\npick 1\npick 2\n"
	for _, last := range []string{"pick 3\n", "pick 3\npick 3\npick 0\npick 1\npick 2\n", "pick 3\nround 1\n", "pick 3\nround 100\n"} {
		checkDesk(t, almost+last, full)
	}
	checkDesk(t, script+strings.Repeat("round 100\n", 10)+"round 50\npick 0\npick 0", full)
	// Of the last rounds only the first pick is left.
	before, _ := impl.DeskEngine(almost)
	after, _ := impl.PickWorker(before, 0)
	if before.Picks != 3999 || after.Picks != 4000 {
		t.Fatalf("there are %d picks: %v", before.Picks, before)
	}
	checkDesk(t, almost+"round 1", after)
	checkDesk(t, almost+"round 3\npick 1", after)
	got, _ := impl.RunDesk(almost + "pick 9\npick 0\npick 1\npick 2\npick 3\npick -1\nround 1\nround 101\ndone\nserial")
	if !strings.HasSuffix(got, "\nno\nno\nno\nno\nno\nno\nok\nbad\nno\nyes\n") {
		t.Errorf("the last replies are %q", got[len(got)-40:])
	}
}

func TestSetupLine(t *testing.T) {
	if got, ok := impl.SetupLine(impl.DefaultSetup()); !ok || got != "setup 4 4 20 1 3" {
		t.Errorf("SetupLine of DefaultSetup is %q, %v", got, ok)
	}
	cases := []string{"setup 1 0 1 0 0", "setup 8 20 100 1 10", "setup 1 20 1 1 0", "setup 8 0 100 0 10", "setup 3 1 50 1 1", "setup 3 1 50 0 1", "setup 2 10 99 0 9"}
	for _, line := range cases {
		if got, ok := impl.SetupLine(setup(line[6:])); !ok || got != line {
			t.Errorf("SetupLine is %q, %v instead of %q", got, ok, line)
		}
	}
	for _, s := range goodSetups() {
		line, ok := impl.SetupLine(s)
		if want := fmt.Sprintf("setup %d %d %d %d %d", s.Keys, s.Hot, s.Cool, map[bool]int{true: 1, false: 0}[s.Lists], s.Age); !ok || line != want {
			t.Errorf("SetupLine(%v) is %q, %v", s, line, ok)
		}
		checkDesk(t, line, newEngine(s, nil))
	}
	for _, s := range badSetups() {
		if line, ok := impl.SetupLine(s); ok || line != "" {
			t.Errorf("SetupLine(%v) is %q, %v", s, line, ok)
		}
	}
}

func TestProgLines(t *testing.T) {
	cases := []struct {
		progs [][][]impl.Act
		text  string
	}{
		{nil, ""}, {[][][]impl.Act{}, ""}, {crew("get 1"), "prog 0 get 1\n"}, {crew("add 7 -1000000; put 0 3, get 0 / put 2 0"), "prog 0 add 7 -1000000; put 0 3\nprog 0 get 0\nprog 1 put 2 0\n"},
		{crew("get 0 / get 1 / get 2 / get 3"), "prog 0 get 0\nprog 1 get 1\nprog 2 get 2\nprog 3 get 3\n"}, {crew("get 0; get 1; get 2; get 3; get 4; get 5"), "prog 0 get 0; get 1; get 2; get 3; get 4; get 5\n"},
		{[][][]impl.Act{slices.Repeat(programs("get 7"), 12)}, strings.Repeat("prog 0 get 7\n", 12)},
		{slices.Repeat([][][]impl.Act{slices.Repeat(programs("put 7 -1000000"), 12)}, 4), strings.Repeat("prog 0 put 7 -1000000\n", 12) + strings.Repeat("prog 1 put 7 -1000000\n", 12) + strings.Repeat("prog 2 put 7 -1000000\n", 12) + strings.Repeat("prog 3 put 7 -1000000\n", 12)},
	}
	for _, c := range cases {
		if got, ok := impl.ProgLines(c.progs); !ok || got != c.text {
			t.Errorf("ProgLines(%v) is %q, %v instead of %q", c.progs, got, ok, c.text)
		}
	}
	// The longest text of all is not a script, but it is written.
	long := slices.Repeat([]impl.Act{put(7, -1000000)}, 6)
	if got, ok := impl.ProgLines(slices.Repeat([][][]impl.Act{slices.Repeat([][]impl.Act{long}, 12)}, 4)); !ok || len(got) != 48*102 {
		t.Errorf("ProgLines of the longest programs has %d bytes, %v", len(got), ok)
	}
}

func TestProgLinesRefuses(t *testing.T) {
	good := programs("add 0 5; get 1")
	bad := [][][][]impl.Act{
		{nil}, {{}}, {good, nil}, {nil, good}, {good, {}, good}, {good, good, good, nil}, {nil, nil, nil, nil}, {nil, nil, nil, nil, nil},
		{good, good, good, good, good}, slices.Repeat([][][]impl.Act{good}, 100), {slices.Repeat(good, 13)}, {good, good, good, slices.Repeat(good, 13)}, {slices.Repeat(good, 300), good},
	}
	for _, p := range badPrograms() {
		bad = append(bad, [][][]impl.Act{{p}}, [][][]impl.Act{good, {good[0], p}}, [][][]impl.Act{{p, good[0]}, good}, [][][]impl.Act{good, good, good, {good[0], p, good[0]}})
	}
	for _, progs := range bad {
		if got, ok := impl.ProgLines(progs); ok || got != "" {
			t.Errorf("ProgLines(%v) is %q, %v", progs, got, ok)
		}
	}
}

func TestPickLines(t *testing.T) {
	cases := []struct {
		picks []int
		text  string
	}{
		{nil, ""}, {[]int{}, ""}, {[]int{0}, "pick 0\n"}, {[]int{0, 3}, "pick 0\npick 3\n"}, {[]int{-1, 4, 3, 2, 1, 0}, "pick -1\npick 4\npick 3\npick 2\npick 1\npick 0\n"}, {[]int{2, 2, 2}, "pick 2\npick 2\npick 2\n"},
		{slices.Repeat([]int{1}, 299), strings.Repeat("pick 1\n", 299)}, {slices.Repeat([]int{-1, 4}, 150), strings.Repeat("pick -1\npick 4\n", 150)},
	}
	for _, c := range cases {
		if got, ok := impl.PickLines(c.picks); !ok || got != c.text {
			t.Errorf("PickLines(%v) is %q, %v", c.picks, got, ok)
		}
	}
	bad := [][]int{slices.Repeat([]int{0}, 301), slices.Repeat([]int{0}, 400), slices.Repeat([]int{9}, 301)}
	for _, w := range append(farNumbers, -2, -3, 5, 6, 9, -5, 1<<32+4, math.MaxInt-1) {
		bad = append(bad, []int{w}, []int{0, w}, []int{w, 0}, append(slices.Repeat([]int{0}, 299), w))
	}
	for _, picks := range bad {
		if got, ok := impl.PickLines(picks); ok || got != "" {
			t.Errorf("PickLines(%v) is %q, %v", picks, got, ok)
		}
	}
}

// someScripts has scripts of all kinds.
func someScripts() []string {
	list := []string{"", "\n", "done", strings.Repeat("\n", 151), strings.Repeat("x", 161), "setup 1 0 1 0 0\nprog 0 add 0 1\nprog 1 get 0\nround 100\nlog", "prog 0 get 0\nprog 0 put 0 1\nprog 1 add 0 1\nround 4\nwaits\nlog\nprog 1 get 0\nround 100\nlog"}
	state := uint32(101)
	for range 60 {
		list = append(list, drawScript(&state))
	}
	return list
}

func deskResult(script string) string {
	text, ok := impl.RunDesk(script)
	e, known := impl.DeskEngine(script)
	return fmt.Sprint(text, ok, engineText(e), known)
}

// TestDesksAgain makes the same calls again, in another order, and beside each
// other.
func TestDesksAgain(t *testing.T) {
	scripts := someScripts()
	var first []string
	for _, script := range scripts {
		first = append(first, deskResult(script))
	}
	again := make([]string, 3*len(scripts))
	var all sync.WaitGroup
	for i := range again {
		all.Go(func() { again[i] = deskResult(scripts[len(scripts)-1-i%len(scripts)]) })
	}
	all.Wait()
	for i, text := range again {
		if k := len(scripts) - 1 - i%len(scripts); text != first[k] {
			t.Fatalf("%q: %s instead of %s", scripts[k], text, first[k])
		}
	}
}

func TestDesksAlone(t *testing.T) {
	for _, script := range someScripts() {
		first, _ := impl.DeskEngine(script)
		second, _ := impl.DeskEngine(script)
		if shareMemory(append(spans(reflect.ValueOf(first)), spans(reflect.ValueOf(second))...)) {
			t.Fatalf("engines of %q share memory", script)
		}
		checkOwn(t, "DeskEngine", first, func(impl.Engine) any {
			e, _ := impl.DeskEngine(script)
			return e
		})
	}
	same := slices.Repeat(programs("add 0 1; get 1"), 3)
	for _, progs := range append(badCrews(), nil, crew("get 0 / add 1 2, get 0"), [][][]impl.Act{same, same}) {
		checkOwn(t, "ProgLines", progs, func(progs [][][]impl.Act) any {
			impl.ProgLines(progs)
			return nil
		})
	}
	for _, picks := range [][]int{nil, {0}, {-1, 4, 2}, {9}, slices.Repeat([]int{1}, 301)} {
		checkOwn(t, "PickLines", picks, func(picks []int) any {
			impl.PickLines(picks)
			return nil
		})
	}
}
