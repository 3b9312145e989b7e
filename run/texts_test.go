package run_test

import (
	"fmt"
	"math/rand"
	"regexp"
	"strconv"
	"strings"
	"testing"

	"eden/ant"
	"eden/api"
	"eden/chips"
	"eden/grow"
	"eden/hash"
	"eden/line"
	"eden/onto"
	"eden/plain"
	"eden/plane"
	"eden/rules"
	"eden/run"
	"eden/sand"
)

// The forms of what lines have, as the chapter says them.
const (
	formNumber  = `(?:0|[1-9][0-9]{0,8})`
	formSigned  = `(?:0|-?[1-9][0-9]{0,8})`
	formPattern = `([01]+(?:/[01]+)*)`
	formGraph   = `(` + formNumber + `(?: ` + formNumber + `-` + formNumber + `:` + formNumber + `)*)`
)

// forms has the form of each row; what stands in brackets is what its call needs.
var forms = map[string]*regexp.Regexp{
	"rule":   regexp.MustCompile(`^rule ((?s:.*))$`),
	"step":   regexp.MustCompile(`^step ([0-3]+) (` + formNumber + `)$`),
	"onto":   regexp.MustCompile(`^onto$`),
	"one":    regexp.MustCompile(`^one$`),
	"grow":   regexp.MustCompile(`^grow ` + formPattern + ` (` + formNumber + `)$`),
	"again":  regexp.MustCompile(`^again ` + formPattern + ` (` + formNumber + `)$`),
	"parent": regexp.MustCompile(`^parent ` + formPattern + `$`),
	"jump":   regexp.MustCompile(`^jump ` + formPattern + ` ([0-9]|1[0-2])$`),
	"walk":   regexp.MustCompile(`^walk (` + formNumber + `)$`),
	"settle": regexp.MustCompile(`^settle (` + formNumber + `) (` + formNumber + `(?:,` + formNumber + `)*) ` + formGraph + `$`),
	"rank":   regexp.MustCompile(`^rank (` + formSigned + `(?:,` + formSigned + `)*) ` + formGraph + `$`),
	"word":   regexp.MustCompile(`^word (` + formNumber + `)((?: [^ ]*)*)$`),
}

// parts gives the row of a line that can be read, and what its call needs; of others an empty name.
func parts(text string) (string, []string) {
	for name, form := range forms {
		if found := form.FindStringSubmatch(text); found != nil {
			if strings.Contains(" grow again parent jump ", " "+name+" ") && !even(found[1]) {
				return "", nil
			}
			return name, found[1:]
		}
	}
	return "", nil
}

func even(drawn string) bool {
	rows := strings.Split(drawn, "/")
	for _, row := range rows {
		if len(row) != len(rows[0]) {
			return false
		}
	}
	return true
}

func cellsOf(text string) []int {
	var out []int
	for _, c := range strings.ReplaceAll(text, "/", "") {
		out = append(out, int(c-'0'))
	}
	return out
}

func patternOf(text string) api.Pattern {
	high := strings.Count(text, "/") + 1
	cells := cellsOf(text)
	return api.Pattern{Wide: len(cells) / high, High: high, Cells: cells}
}

func numbersOf(text string) []int {
	var out []int
	for _, piece := range strings.Split(text, ",") {
		out = append(out, numberOf(piece))
	}
	return out
}

func numberOf(text string) int {
	n, err := strconv.Atoi(text)
	if err != nil {
		panic(err)
	}
	return n
}

func graphOf(text string) api.Graph {
	words := strings.Fields(text)
	g := api.Graph{Places: numberOf(words[0])}
	for _, word := range words[1:] {
		var e api.Edge
		if _, err := fmt.Sscanf(word, "%d-%d:%d", &e.A, &e.B, &e.Times); err != nil {
			panic(err)
		}
		g.Edges = append(g.Edges, e)
	}
	return g
}

// plainly writes numbers one behind the other.
func plainly(numbers []int) string {
	return strings.NewReplacer("[", "", "]", "", " ", "").Replace(fmt.Sprint(numbers))
}

func shown(p api.Pattern) string {
	if p.Wide == 0 || p.High == 0 {
		return "-"
	}
	text := plainly(p.Cells)
	for at := p.Wide * (p.High - 1); at > 0; at -= p.Wide {
		text = text[:at] + "/" + text[at:]
	}
	return text
}

// asked answers a line by the calls that its row names, and sets the rule.
func asked(r *api.Rule, text string) string {
	name, need := parts(text)
	if name == "" {
		return "bad"
	}
	out, err := called(r, name, need)
	if err != nil {
		return plain.Told(err).Error()
	}
	return out
}

func called(r *api.Rule, name string, need []string) (string, error) {
	switch name {
	case "rule":
		parsed, _, err := rules.Parse(need[0])
		if err != nil {
			return "", err
		}
		*r = parsed
		return rules.Print(parsed)
	case "step":
		out, err := line.Run(*r, cellsOf(need[0]), numberOf(need[1]))
		return plainly(out), err
	case "onto":
		yes, orphan, err := onto.Onto(*r)
		return strings.TrimSpace(map[bool]string{true: "yes", false: "no"}[yes] + " " + plainly(orphan)), err
	case "one":
		yes, _, _, err := onto.One(*r)
		return map[bool]string{true: "yes", false: "no"}[yes], err
	case "grow":
		p, right, down, err := plane.Grow(*r, patternOf(need[0]), numberOf(need[1]))
		return fmt.Sprintf("%s %d %d", shown(p), right, down), err
	case "again":
		a, err := plane.Again(*r, patternOf(need[0]), numberOf(need[1]))
		return fmt.Sprintf("%d %d %d", a.Period, a.Right, a.Down), err
	case "parent":
		p, err := plane.Parent(*r, patternOf(need[0]))
		return shown(p), err
	case "jump":
		return jumped(*r, patternOf(need[0]), numberOf(need[1]))
	case "walk":
		spots, w, err := ant.Run(*r, nil, api.Walker{}, numberOf(need[0]))
		return fmt.Sprintf("%d %d %d %d", w.Right, w.Down, w.Facing, len(spots)), err
	case "settle":
		p, err := sand.Settle(graphOf(need[2]), numberOf(need[0]), numbersOf(need[1]))
		return strings.Trim(strings.ReplaceAll(fmt.Sprint(p.Chips), " ", ","), "[]"), err
	case "rank":
		k, _, err := chips.Rank(graphOf(need[1]), numbersOf(need[0]))
		return fmt.Sprint(k), err
	}
	return grow.Grow(strings.Split(need[1], " ")[1:], "a", numberOf(need[0]))
}

func jumped(r api.Rule, p api.Pattern, k int) (string, error) {
	s, err := hash.New(r)
	if err != nil {
		return "", err
	}
	if err := s.Put(p, 0, 0); err != nil {
		return "", err
	}
	if err := s.Jump(k); err != nil {
		return "", err
	}
	right, down, wide, high := s.Box()
	return fmt.Sprintf("%d %d %d %d %d", s.Living(), right, down, wide, high), nil
}

// ofText answers a text by the calls that its lines name.
func ofText(text string) string {
	if len(text) > 12000 {
		return "too long\n"
	}
	lines := strings.Split(text, "\n")
	if lines[len(lines)-1] == "" {
		lines = lines[:len(lines)-1]
	}
	r := api.Rule{Kind: api.Life, Born: 8, Stay: 12}
	var out strings.Builder
	for _, text := range lines {
		out.WriteString(asked(&r, text) + "\n")
	}
	return out.String()
}

// maker makes lines.
type maker struct{ *rand.Rand }

func (m maker) one(of ...string) string { return of[m.Intn(len(of))] }

func (m maker) letters(of string, least, most int) string {
	var out strings.Builder
	for range least + m.Intn(most-least+1) {
		out.WriteByte(of[m.Intn(len(of))])
	}
	return out.String()
}

func (m maker) pattern() string {
	wide := 1 + m.Intn(5)
	rows := make([]string, 1+m.Intn(5))
	for i := range rows {
		rows[i] = m.letters("01", wide, wide)
	}
	return strings.Join(rows, "/")
}

func (m maker) numbers(many, least, most int) string {
	out := make([]string, many)
	for i := range out {
		out[i] = fmt.Sprint(least + m.Intn(most-least+1))
	}
	return strings.Join(out, ",")
}

// graph gives the words of one in which each place leads to an earlier one, mostly.
func (m maker) graph(places int) string {
	out := fmt.Sprint(places)
	for b := 1; b < places; b++ {
		if m.Intn(20) > 0 {
			out += fmt.Sprintf(" %d-%d:%d", b, m.Intn(b), 1+m.Intn(3))
		}
	}
	for range m.Intn(4) {
		out += fmt.Sprintf(" %d-%d:%d", m.Intn(places), m.Intn(places), 1+m.Intn(3))
	}
	return out
}

func (m maker) rule() string {
	switch m.Intn(6) {
	case 0, 1:
		return m.one("B3/S23", "B3/S23", "B36/S23", "B1357/S1357", "B2/S", "B0/S", "B/S", "B368/S245")
	case 2:
		return "W" + fmt.Sprint(m.Intn(256))
	case 3:
		return m.one("L 3 0 "+m.letters("012", 3, 3), "L 4 0 "+m.letters("0123", 4, 4), "L 2 2 "+m.letters("01", 32, 32), "L 2 1 "+m.letters("01", 8, 8), "L 3 2 "+strings.Repeat("012", 81))
	}
	return "T " + m.letters("LR", 1, 8)
}

func (m maker) line() string {
	switch m.Intn(13) {
	case 0, 1:
		return "rule " + m.rule()
	case 2:
		return "step " + m.letters(m.one("01", "01", "012", "0123"), 1, 12) + " " + m.one("0", "1", "2", "17", "100000", "100001")
	case 3:
		return "onto"
	case 4:
		return "one"
	case 5:
		return "grow " + m.pattern() + " " + m.one("0", "1", "2", "9", "20", "100001")
	case 6:
		return "again " + m.one(m.pattern(), "111", "11/11", "010/001/111", "10010/00001/10001/01111") + " " + m.one("0", "1", "4", "8", "20", "65")
	case 7:
		return "parent " + m.pattern()
	case 8:
		return "jump " + m.pattern() + " " + m.one("0", "1", "2", "5", "13")
	case 9:
		return "walk " + m.one("0", "1", "5", "77", "1000", "100001")
	case 10:
		places := 1 + m.Intn(6)
		chips := strings.Split(m.numbers(places, 0, 20), ",")
		sink := m.Intn(places)
		chips[sink] = "0"
		return "settle " + fmt.Sprint(sink) + " " + strings.Join(chips, ",") + " " + m.graph(places)
	case 11:
		places := 1 + m.Intn(5)
		return "rank " + m.numbers(places, -2, 3) + " " + m.graph(places)
	}
	out := "word " + m.one("0", "1", "3", "6", "61")
	for range m.Intn(6) {
		out += " " + m.letters("aab", 0, 4)
	}
	return out
}

// spoilt changes some bytes of a text.
func (m maker) spoilt(text string) string {
	for range 1 + m.Intn(2) {
		at := m.Intn(len(text) + 1)
		end := min(len(text), at+m.Intn(3))
		text = text[:at] + m.one("", "", " ", "0", "1", "2", "9", "/", ",", "-", ":", "a", "b", "W", "·", "\xff", "\n", m.letters("01 ,-/:", 1, 3)) + text[end:]
	}
	return text
}

// farJump is what chaos would take minutes for.
var farJump = regexp.MustCompile(`jump .* 1[0-2](\n|$)`)

// text makes up to that many lines, some of which cannot be read.
func (m maker) text(most int) string {
	lines := make([]string, 1+m.Intn(most))
	for i := range lines {
		lines[i] = m.line()
		if i == 0 && m.Intn(2) == 0 { // so that not most of the lines meet the first rule
			lines[i] = "rule " + m.rule()
		}
		if m.Intn(4) == 0 {
			lines[i] = m.spoilt(lines[i])
		}
		if farJump.MatchString(lines[i]) {
			lines[i] = "jump 1 13"
		}
	}
	return strings.Join(lines, "\n") + m.one("", "\n")
}

// TestTexts: X1: a text is answered as the calls say that its lines name; and of the lines each row is met, read, with an error and spoilt.
func TestTexts(t *testing.T) {
	m := maker{rand.New(rand.NewSource(1))}
	read, wrong, bad := map[string]int{}, map[string]int{}, map[string]int{}
	for range 6000 {
		text := m.text(9)
		got, want := run.Run(text), ofText(text)
		if got != want {
			t.Fatalf("Run(%q): %q, want %q", text, got, want)
		}
		answers := strings.Split(got, "\n")
		for i, line := range strings.Split(text, "\n") {
			name, _, _ := strings.Cut(line, " ")
			switch {
			case answers[i] == "bad":
				bad[name]++
			case strings.HasPrefix(answers[i], "Err"):
				wrong[name]++
			default:
				read[name]++
			}
		}
	}
	for name := range forms {
		if read[name] < 50 || wrong[name] < 50 || bad[name] < 1 {
			t.Errorf("%s: %d read, %d errors, %d bad", name, read[name], wrong[name], bad[name])
		}
	}
}

// begins asks X2 of a text: behind each of its lines the answers so far are those to the lines so far.
func begins(t *testing.T, text string) {
	t.Helper()
	all := run.Run(text)
	lines := 0
	for at := range len(text) {
		if text[at] != '\n' {
			continue
		}
		lines++
		some := run.Run(text[:at+1])
		if !strings.HasPrefix(all, some) || strings.Count(some, "\n") != lines {
			t.Errorf("Run(%q): %q, which does not begin %q", text[:at+1], some, all)
		}
		if at > 0 && text[at-1] != '\n' && run.Run(text[:at]) != some {
			t.Errorf("Run(%q): unlike Run with byte 10 behind", text[:at])
		}
	}
	if text != "" && text[len(text)-1] != '\n' {
		lines++
	}
	if strings.Count(all, "\n") != lines || all != "" && !strings.HasSuffix(all, "\n") {
		t.Errorf("Run(%q): %q, of %d lines", text, all, lines)
	}
}

// TestBeginnings: X2.
func TestBeginnings(t *testing.T) {
	begins(t, "rule W90\nstep 0001000 2\nonto\nfly\nrule x\nonto\n\nrule W110\nonto\nword 1 \nword 1 \nrule T RL\nwalk 5\n")
	m := maker{rand.New(rand.NewSource(2))}
	for range 300 {
		begins(t, m.text(12))
	}
}

// TestBeginningsOfLongTexts: X2: as far as a text is not too long, and no farther.
func TestBeginningsOfLongTexts(t *testing.T) {
	m := maker{rand.New(rand.NewSource(3))}
	var text strings.Builder
	for text.Len() < 12000 {
		text.WriteString(m.text(1) + "\n")
	}
	whole := text.String()[:12000]
	all := run.Run(whole)
	if all != ofText(whole) {
		t.Errorf("a text of 12000 bytes is answered otherwise than its lines")
	}
	for _, at := range []int{1000, 6000, 11000, 11900} {
		cut := strings.LastIndexByte(whole[:at], '\n') + 1
		if !strings.HasPrefix(all, run.Run(whole[:cut])) {
			t.Errorf("the first %d bytes are answered otherwise", cut)
		}
	}
	if got := run.Run(whole + "\n"); got != "too long\n" {
		t.Errorf("12001 bytes: %.100q", got)
	}
}

// FuzzRun: X1, X2, and that no text panics.
func FuzzRun(f *testing.F) {
	m := maker{rand.New(rand.NewSource(4))}
	for range 40 {
		f.Add(m.text(4))
	}
	f.Fuzz(func(t *testing.T, text string) {
		if len(text) > 200 || farJump.MatchString(text) {
			t.Skip("too much work")
		}
		if got, want := run.Run(text), ofText(text); got != want {
			t.Errorf("Run(%q): %q, want %q", text, got, want)
		}
		begins(t, text)
	})
}
