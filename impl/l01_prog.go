package impl

import (
	"slices"
	"strconv"
	"strings"
)

const (
	MaxKeys  = 8
	MaxActs  = 6
	MaxValue = 1000000
	MaxList  = 300
)

// maxDigits keeps parsed numbers far from overflow.
const maxDigits = 9

const (
	kindGet = iota
	kindPut
	kindAdd
)

type Act struct {
	Kind int
	Key  int
	N    int
}

// An action is an act seen by what it does to the value of its key, so that
// running a program needs no numbers of kinds.
type action interface {
	key() int
	after(value int) int
}

type getAct struct{ at int }

type putAct struct{ at, n int }

type addAct struct{ at, n int }

func (g getAct) key() int { return g.at }

func (p putAct) key() int { return p.at }

func (a addAct) key() int { return a.at }

func (g getAct) after(value int) int { return value }

func (p putAct) after(value int) int { return p.n }

func (a addAct) after(value int) int {
	return min(max(value+a.n, -MaxValue), MaxValue)
}

// actionOf returns nil for an act of no known kind.
func actionOf(a Act) action {
	switch a.Kind {
	case kindGet:
		return getAct{a.Key}
	case kindPut:
		return putAct{a.Key, a.N}
	case kindAdd:
		return addAct{a.Key, a.N}
	}
	return nil
}

func reports(act action) bool {
	switch act.(type) {
	case getAct:
		return true
	}
	return false
}

func needsOld(act action) bool {
	switch act.(type) {
	case getAct, addAct:
		return true
	}
	return false
}

func writes(act action) bool {
	switch act.(type) {
	case putAct, addAct:
		return true
	}
	return false
}

func valueOk(x int) bool { return -MaxValue <= x && x <= MaxValue }

func valuesOk(values []int) bool {
	for _, x := range values {
		if !valueOk(x) {
			return false
		}
	}
	return true
}

func ActOk(a Act) bool {
	if a.Key < 0 || a.Key >= MaxKeys {
		return false
	}
	switch actionOf(a).(type) {
	case getAct:
		return a.N == 0
	case putAct, addAct:
		return valueOk(a.N)
	}
	return false
}

func ProgOk(p []Act) bool {
	if len(p) < 1 || len(p) > MaxActs {
		return false
	}
	for _, a := range p {
		if !ActOk(a) {
			return false
		}
	}
	return true
}

func markedKeys(marks [MaxKeys]bool) []int {
	var keys []int
	for key, marked := range marks {
		if marked {
			keys = append(keys, key)
		}
	}
	return keys
}

func KeysOf(p []Act) []int {
	if !ProgOk(p) {
		return nil
	}
	var met [MaxKeys]bool
	for _, a := range p {
		met[a.Key] = true
	}
	return markedKeys(met)
}

func WritesOf(p []Act) []int {
	if !ProgOk(p) {
		return nil
	}
	var written [MaxKeys]bool
	for _, a := range p {
		if writes(actionOf(a)) {
			written[a.Key] = true
		}
	}
	return markedKeys(written)
}

func ReadsOf(p []Act) []int {
	if !ProgOk(p) {
		return nil
	}
	var met, read [MaxKeys]bool
	for _, a := range p {
		// Later acts on a key see what the program itself left there.
		if !met[a.Key] {
			read[a.Key] = needsOld(actionOf(a))
		}
		met[a.Key] = true
	}
	return markedKeys(read)
}

func canRun(values []int, p []Act) bool {
	if len(values) < 1 || len(values) > MaxKeys || !valuesOk(values) || !ProgOk(p) {
		return false
	}
	for _, a := range p {
		if a.Key >= len(values) {
			return false
		}
	}
	return true
}

func RunSerial(values []int, p []Act) ([]int, []int, bool) {
	now := slices.Clone(values)
	if !canRun(values, p) {
		return now, nil, false
	}
	var told []int
	for _, a := range p {
		act := actionOf(a)
		old := now[act.key()]
		if reports(act) {
			told = append(told, old)
		}
		now[act.key()] = act.after(old)
	}
	return now, told, true
}

func ActText(a Act) string {
	if !ActOk(a) {
		return ""
	}
	switch act := actionOf(a).(type) {
	case getAct:
		return "get " + strconv.Itoa(act.at)
	case putAct:
		return "put " + strconv.Itoa(act.at) + " " + strconv.Itoa(act.n)
	case addAct:
		return "add " + strconv.Itoa(act.at) + " " + strconv.Itoa(act.n)
	}
	return ""
}

// splitAt keeps empty parts, so that a doubled or missing separator is seen
// by whoever parses the parts.
func splitAt(text string, separator rune) []string {
	var parts []string
	from := 0
	for i, r := range text {
		if r == separator {
			parts = append(parts, text[from:i])
			from = i + 1
		}
	}
	return append(parts, text[from:])
}

// parseNumber accepts only the one way in which strconv.Itoa writes a number.
func parseNumber(text string) (int, bool) {
	x, digits, negative := 0, 0, false
	for i, r := range text {
		switch {
		case i == 0 && r == '-':
			negative = true
		case '0' <= r && r <= '9' && digits < maxDigits:
			x = 10*x + int(r-'0')
			digits++
		default:
			return 0, false
		}
	}
	if negative {
		x = -x
	}
	if strconv.Itoa(x) != text {
		return 0, false
	}
	return x, true
}

func parseNumbers(words []string) ([]int, bool) {
	var numbers []int
	for _, word := range words {
		x, ok := parseNumber(word)
		if !ok {
			return nil, false
		}
		numbers = append(numbers, x)
	}
	return numbers, true
}

func ParseAct(text string) (Act, bool) {
	words := splitAt(text, ' ')
	numbers, ok := parseNumbers(words[1:])
	if !ok {
		return Act{}, false
	}
	var a Act
	switch {
	case words[0] == "get" && len(numbers) == 1:
		a = Act{Kind: kindGet, Key: numbers[0]}
	case words[0] == "put" && len(numbers) == 2:
		a = Act{Kind: kindPut, Key: numbers[0], N: numbers[1]}
	case words[0] == "add" && len(numbers) == 2:
		a = Act{Kind: kindAdd, Key: numbers[0], N: numbers[1]}
	default:
		return Act{}, false
	}
	if !ActOk(a) {
		return Act{}, false
	}
	return a, true
}

func ProgText(p []Act) (string, bool) {
	if !ProgOk(p) {
		return "", false
	}
	var texts []string
	for _, a := range p {
		texts = append(texts, ActText(a))
	}
	return strings.Join(texts, "; "), true
}

func ParseProg(text string) ([]Act, bool) {
	var p []Act
	for i, part := range splitAt(text, ';') {
		if i > 0 {
			rest, spaced := strings.CutPrefix(part, " ")
			if !spaced {
				return nil, false
			}
			part = rest
		}
		a, ok := ParseAct(part)
		if !ok {
			return nil, false
		}
		p = append(p, a)
	}
	if !ProgOk(p) {
		return nil, false
	}
	return p, true
}
