package tests

import (
	"fmt"
	"slices"
	"strconv"
	"strings"
	"testing"

	"loop.example/g00153/impl"
)

// sumTalk is a script in which a sum of 100 lies on two cells: transaction 1 lays it down, 2 and 3 move something of it from one cell to the other.
type sumTalk struct {
	t     *testing.T
	cells [2]string // region and slot of each
	lines []string
	// Which lines are told of which transaction, and where both cells are looked at.
	told  map[int]string
	looks []int
	// Where a transaction reads both cells.
	reading []int
}

func newSumTalk(t *testing.T, regions, machines int, cells [2]string) *sumTalk {
	s := &sumTalk{t: t, cells: cells, told: map[int]string{}}
	s.say("new %d %d", regions, machines)
	s.say("begin 1 0")
	for _, cell := range cells {
		s.say("alloc 1 %s", cell[:1])
	}
	s.moves("1", 100, 0)
	s.say("commit 1")
	s.say("finish 1")
	return s
}

func (s *sumTalk) say(form string, a ...any) { s.lines = append(s.lines, fmt.Sprintf(form, a...)) }

// moves: what a transaction writes once it has read both cells.
func (s *sumTalk) moves(id string, first, second int) {
	for i, value := range []int{first, second} {
		s.say("write %s %s %d", id, s.cells[i], value)
	}
}

func (s *sumTalk) reads(id string) {
	s.reading = append(s.reading, len(s.lines))
	for _, cell := range s.cells {
		s.say("read %s %s", id, cell)
	}
}

// look asks for both cells, and what 2 and 3 were told.
func (s *sumTalk) look() {
	s.looks = append(s.looks, len(s.lines))
	for _, cell := range s.cells {
		s.say("cell %s", cell)
	}
	for _, id := range []string{"2", "3"} {
		s.told[len(s.lines)] = id
		s.say("told %s", id)
	}
	s.say("serial")
}

// values of both cells in the answers from a look on; false where one of them can't be seen.
func valuesFrom(answers []string, at int) (first, second int, seen bool) {
	var versions [2]int
	_, no1 := fmt.Sscanf(answers[at], "%d %d", &versions[0], &first)
	_, no2 := fmt.Sscanf(answers[at+1], "%d %d", &versions[1], &second)
	return first, second, no1 == nil && no2 == nil
}

// sumFate is how a script ended.
type sumFate struct {
	second, third string // what was told of 2 and 3 in the end
	seen          bool   // both cells could be seen in the end
	settled       string
}

// end looks once more, and holds all answers against the calls themselves; the sum is whole wherever both cells can be seen or read, and what was told holds.
func (s *sumTalk) end() ([]string, sumFate) {
	s.t.Helper()
	s.look()
	s.say("settled")
	answers := answersOf(s.t, strings.Join(s.lines, "\n"))
	plain := newPlainBench()
	if len(answers) != len(s.lines) {
		s.t.Fatalf("to %q\nthe answers are %q", s.lines, answers)
	}
	told := map[string]string{"2": "0", "3": "0"}
	for i, line := range s.lines {
		if want := plain.line(line); answers[i] != want {
			s.t.Fatalf("in %q\nnumber %d is answered by %q, want %q", s.lines, i, answers[i], want)
		}
		if line == "serial" && answers[i] != "yes" {
			s.t.Fatalf("there is no order behind %q", s.lines[:i])
		}
		if id, is := s.told[i]; is && answers[i] != "error 2" {
			if told[id] != "0" && told[id] != answers[i] {
				s.t.Fatalf("in %q\n%s was told %s, and then (%d) %s", s.lines, id, told[id], i, answers[i])
			}
			told[id] = answers[i]
		}
	}
	fate := sumFate{second: told["2"], third: told["3"], settled: answers[len(answers)-1]}
	for _, at := range s.looks {
		first, second, seen := valuesFrom(answers, at)
		if seen && first+second != 100 {
			s.t.Fatalf("in %q\nthe sum of number %d is %d and %d", s.lines, at, first, second)
		}
		fate.seen = seen
	}
	for _, at := range s.reading {
		first, no1 := strconv.Atoi(answers[at])
		second, no2 := strconv.Atoi(answers[at+1])
		if no1 == nil && no2 == nil && first+second != 100 {
			s.t.Fatalf("in %q\nwhat is read at number %d is %d and %d", s.lines, at, first, second)
		}
	}
	return answers, fate
}

// checkHolds: where the cells are seen, they have what was told; third is what transaction 3 wrote, second what 2 wrote.
func (s *sumTalk) checkHolds(answers []string, fate sumFate, second, third int) {
	s.t.Helper()
	first, _, seen := valuesFrom(answers, s.looks[len(s.looks)-1])
	if !seen {
		return
	}
	want := 100
	if fate.second == "1" {
		want = second
	}
	if fate.third == "1" {
		want = third
	}
	if first != want {
		s.t.Fatalf("behind %q\n2 was told %s, 3 was told %s, and the first cell has %d", s.lines, fate.second, fate.third, first)
	}
}

// sumPlaces: cells of one region and of two, with Places of one, two and three machines.
var sumPlaces = []struct {
	regions, machines int
	cells             [2]string
}{
	{2, 4, [2]string{"0 0", "1 0"}}, {1, 3, [2]string{"0 0", "0 1"}}, {2, 3, [2]string{"0 0", "1 0"}}, {2, 2, [2]string{"1 0", "0 0"}},
	{3, 5, [2]string{"0 0", "2 0"}}, {1, 4, [2]string{"0 0", "0 1"}}, {2, 1, [2]string{"0 0", "1 0"}}, {3, 6, [2]string{"2 0", "0 0"}},
}

// moved: the first has moved 30 and is at its end; the second, which saw that, has moved 25 more and done so many steps of its commit.
func moved(t *testing.T, place, home, steps int) *sumTalk {
	one := sumPlaces[place]
	s := newSumTalk(t, one.regions, one.machines, one.cells)
	s.say("begin 2 %d", (home+1)%one.machines)
	s.reads("2")
	s.moves("2", 70, 30)
	s.say("commit 2")
	s.say("finish 2")
	s.look()
	s.say("begin 3 %d", home)
	s.reads("3")
	s.moves("3", 45, 55)
	s.say("commit 3")
	s.look()
	for step := range steps {
		s.say("step 3")
		// Behind the first steps others look, that have done no more of them.
		if step >= steps-2 {
			s.look()
		}
	}
	return s
}

// stepsOf tells how many steps the second one has.
func stepsOf(t *testing.T, place int) int {
	for steps := 0; ; steps++ {
		s := moved(t, place, 0, steps)
		answers := answersOf(t, strings.Join(s.lines, "\n"))
		if slices.Contains(answers[len(answers)-6:], "7") || steps > 30 {
			return steps
		}
	}
}

// later goes on behind a death: with a new configuration at once, behind a further step, behind all steps, or never.
func (s *sumTalk) later(when int) {
	recover := func(now bool) {
		if now {
			s.say("recover")
			s.look()
		}
	}
	recover(when == 0)
	s.say("step 3")
	s.look()
	recover(when == 1)
	s.say("finish 3")
	s.look()
	recover(when == 2)
}

// after: somebody at a machine that lives reads both cells.
func (s *sumTalk) after(home int) {
	s.say("begin 4 %d", home)
	s.reads("4")
	s.look()
}

// Two move a sum one behind the other, and any machine is killed at any step of the second one, with recover behind it or not: the sum stays whole, and what told said holds.
func TestBenchMovesASum(t *testing.T) {
	fates := map[string]int{}
	for place, one := range sumPlaces {
		steps := stepsOf(t, place)
		if steps < 3 || steps > 30 {
			t.Fatalf("the second has %d steps", steps)
		}
		for at := range steps + 1 {
			for dies := range one.machines {
				// It dies with what is at home there, and without.
				for _, home := range slices.Compact([]int{dies, (dies + 1) % one.machines, (dies + 2) % one.machines}) {
					for when := range 4 {
						s := moved(t, place, home, at)
						s.say("kill %d", dies)
						s.look()
						s.later(when)
						s.after((dies + 1) % one.machines)
						answers, fate := s.end()
						checkMoved(t, s, fate, one.machines > 1, when < 3)
						s.checkHolds(answers, fate, 70, 45)
						fates[fmt.Sprint(fate.third, " ", fate.seen, " ", when < 3)]++
					}
				}
			}
		}
	}
	// What was told of the second one, whether both cells can be seen, and whether there was a new configuration.
	for _, one := range []string{"0 false false", "1 false false", "0 true false", "1 true false", "0 false true", "1 false true", "1 true true", "2 true true"} {
		if fates[one] < 5 {
			t.Errorf("%q came %d times: %v", one, fates[one], fates)
		}
	}
}

// checkMoved: the first one's end is behind it in any case; with a new configuration, and a machine left for each region, the second one is at its end, too, and all is settled.
func checkMoved(t *testing.T, s *sumTalk, fate sumFate, left, recovered bool) {
	t.Helper()
	if fate.second != "1" {
		t.Fatalf("in %q\nthe first was told %s", s.lines, fate.second)
	}
	if recovered && left && (fate.third == "0" || !fate.seen || fate.settled != "yes") {
		t.Fatalf("behind %q\nthere is %+v", s.lines, fate)
	}
	if !recovered && fate.settled != "no" && !machineSpare(s) {
		t.Fatalf("behind %q\nthere is %+v", s.lines, fate)
	}
}

// machineSpare: there are machines that no region is on.
func machineSpare(s *sumTalk) bool {
	var regions, machines int
	fmt.Sscanf(s.lines[0], "new %d %d", &regions, &machines)
	return regions+2 < machines
}

// Both have read the whole sum and move of it at the same time, now the one's step and then the other's by each of some rules, and any machine is killed at any time: at most one has moved something.
func TestBenchMovesASumTwice(t *testing.T) {
	rules := []func(step int) string{
		func(step int) string { return []string{"2", "3"}[step%2] },
		func(step int) string { return []string{"3", "2"}[step%2] },
		func(step int) string { return []string{"2", "2", "2", "3"}[step%4] },
		func(step int) string { return []string{"3", "2", "2", "3", "3", "2"}[step%6] },
		func(step int) string { return []string{"2", "3"}[min(step/5, 1)] },
	}
	fates := map[string]int{}
	for _, one := range sumPlaces {
		for rule, who := range rules {
			for at := range 15 {
				for dies := range one.machines {
					s := newSumTalk(t, one.regions, one.machines, one.cells)
					for i, id := range []string{"2", "3"} {
						s.say("begin %s %d", id, (rule+i*2)%one.machines)
						s.reads(id)
					}
					s.moves("2", 70, 30)
					s.moves("3", 75, 25)
					s.say("commit 3")
					s.say("commit 2")
					for step := range at {
						s.say("step %s", who(step))
						s.look()
					}
					s.say("kill %d", dies)
					s.look()
					s.say("step %s", who(at))
					if (at+dies+rule)%3 > 0 {
						s.say("recover")
						s.look()
					}
					s.say("finish 3")
					s.say("finish 2")
					answers, fate := s.end()
					if fate.second == "1" && fate.third == "1" {
						t.Fatalf("behind %q\nboth are told to have moved the same", s.lines)
					}
					s.checkHolds(answers, fate, 70, 75)
					fates[fate.second+fate.third]++
				}
			}
		}
	}
	for _, one := range []string{"12", "21", "22", "00"} {
		if fates[one] < 20 {
			t.Errorf("2 and 3 were told %s %d times: %v", one, fates[one], fates)
		}
	}
}

// lineRun makes a script by a fixed rule, line by line, as the calls themselves answer.
type lineRun struct {
	*plainBench
	next    func(below uint64) int64
	id      int64
	lines   []string
	answers []string
	// How often each answer came, by the line's first word; values and versions are not told apart.
	seen map[string]int
}

func (r *lineRun) say(line string) {
	answer := r.line(line)
	r.lines, r.answers = append(r.lines, line), append(r.answers, answer)
	word, _, _ := strings.Cut(line, " ")
	if _, is := numbered[word]; !is {
		word = "?"
	}
	kind := answer
	if word == "read" || word == "alloc" || word == "cell" || word == "recover" {
		if !strings.HasPrefix(answer, "error") && answer != "free" && answer != "lost" {
			kind = "number"
		}
	}
	r.seen[word+" "+kind]++
}

func (r *lineRun) some(list ...string) string { return list[r.next(uint64(len(list)))] }

// number is below a limit most of the time.
func (r *lineRun) number(below int) int64 {
	if r.next(40) == 0 {
		return []int64{-1, int64(below), 9999999999, -9999999999}[r.next(4)]
	}
	return r.next(uint64(below))
}

// own is a line of one of the transactions that are not at their end, most of the time.
func (r *lineRun) own() string {
	open := slices.DeleteFunc(slices.Clone(r.cluster.Txs), func(tx impl.Tx) bool { return ends(tx.Phase) && r.next(30) > 0 })
	if len(open) == 0 || len(open) < 5 && r.next(6) == 0 {
		r.id += 1 + r.next(2)
		return fmt.Sprintf("begin %d %d", r.id-r.next(20)/19, r.number(len(r.cluster.Machines)))
	}
	tx := open[r.next(uint64(len(open)))]
	id, region, slot := tx.Id+r.next(40)/39, r.number(len(r.cluster.Places)), r.number(4)
	if tx.Phase != phRun && r.next(10) > 0 {
		return fmt.Sprintf("%s %d", r.some("step", "step", "step", "step", "step", "step", "finish", "told"), id)
	}
	switch r.next(7) {
	case 0, 1:
		return fmt.Sprintf("read %d %d %d", id, region, slot)
	case 2, 3:
		return fmt.Sprintf("write %d %d %d %d", id, region, slot, r.next(2000)-1000+r.next(20)/19*lastValue)
	case 4:
		return fmt.Sprintf("alloc %d %d", id, region)
	case 5:
		return fmt.Sprintf("%s %d", r.some("commit", "commit", "commit", "step", "finish"), id)
	}
	return fmt.Sprintf("drop %d %d %d", id, region, slot)
}

func (r *lineRun) wrong() string {
	line := r.own()
	return r.some(line+" ", " "+line, line+" 0", strings.Replace(line, " ", "  ", 1), strings.ToUpper(line), line+"a", line[1:], line[:strings.LastIndex(line, " ")], "-", strings.Replace(line, " ", " 0", 1), line+"\r")
}

func (r *lineRun) turn(deaths uint64) string {
	machines, regions := len(r.cluster.Machines), len(r.cluster.Places)
	switch r.next(24) {
	case 0:
		return fmt.Sprintf("cell %d %d", r.number(regions), r.number(4))
	case 1:
		return r.some("serial", "settled", "settled")
	case 2:
		return fmt.Sprintf("told %d", r.next(uint64(r.id+2)))
	case 3:
		return r.wrong()
	case 4:
		if r.next(deaths) == 0 {
			return fmt.Sprintf("kill %d", r.number(machines))
		}
	case 5:
		if r.next(deaths) < 2 {
			return "recover"
		}
	case 6:
		if r.next(20) == 0 {
			return fmt.Sprintf("new %d %d", r.number(3)+r.next(2), r.number(6)+r.next(2))
		}
	}
	return r.own()
}

func newLineRun(seed int, lines int, seen map[string]int) *lineRun {
	r := &lineRun{plainBench: newPlainBench(), next: byRule(seed), seen: seen}
	if seed%2 == 1 {
		r.say(fmt.Sprintf("new %d %d", 1+seed/2%3, 3+seed/6%4))
	}
	deaths := []uint64{2, 4, 12}[seed%3]
	for len(r.lines) < lines {
		r.say(r.turn(deaths))
	}
	return r
}

// Bench tells what the chapters tell, line by line: scripts of all kinds of lines, with and without lines that are none, up to as many as there may be.
func TestPromise14(t *testing.T) {
	seen := map[string]int{}
	for seed := range 600 {
		r := newLineRun(seed, []int{mostLines, 60, 120}[seed%3], seen)
		checkBench(t, strings.Join(r.lines, "\n"), r.answers...)
	}
	for word, many := range map[string]int{
		"new ok": 50, "new error 1": 20, "kill ok": 100, "kill error 1": 100, "recover number": 100, "recover lost": 50, "serial yes": 100, "settled yes": 100, "settled no": 100,
		"told 0": 100, "told 1": 100, "told 2": 50, "told error 2": 100, "cell number": 100, "cell free": 100, "cell error 5": 100, "? error 0": 500,
		"begin ok": 500, "begin error 2": 50, "begin error 3": 50, "read number": 200, "write ok": 200, "alloc number": 200, "drop ok": 100, "commit ok": 200,
		"step 2": 20, "step 3": 20, "step 4": 100, "step 5": 50, "step 6": 50, "step 7": 50, "step 8": 20, "step 9": 20, "finish 7": 50, "finish 9": 20,
	} {
		if seen[word] < many {
			t.Errorf("%q came %d times", word, seen[word])
		}
	}
	for word, codes := range map[string][]int{
		"read": {2, 3, 4, 5, 6, 7, 8}, "write": {2, 3, 4, 5, 6, 7, 8, 10}, "alloc": {2, 3, 4, 5, 6, 9}, "drop": {2, 3, 4, 5, 6, 7, 8},
		"commit": {2, 3, 4}, "step": {2, 3, 4, 6}, "finish": {2, 3, 4, 6},
	} {
		for _, code := range codes {
			if many := seen[fmt.Sprint(word, " error ", code)]; many < 5 {
				t.Errorf("%s with the code %d came %d times", word, code, many)
			}
		}
	}
}

// What comes later changes no answer that is given already; nor does a line end that is missing, or a line without bytes.
func TestBenchAnswersLineByLine(t *testing.T) {
	for seed := range 12 {
		r := newLineRun(1000+seed, 100, map[string]int{})
		for many := range len(r.lines) + 1 {
			text := strings.Join(r.lines[:many], "\n")
			checkBench(t, text, r.answers[:many]...)
			checkBench(t, text+"\n", r.answers[:many]...)
		}
		whole := impl.Bench(strings.Join(r.lines, "\n"))
		for many := range len(r.lines) {
			if first := impl.Bench(strings.Join(r.lines[:many], "\n")); !strings.HasPrefix(whole, first) {
				t.Fatalf("%q\nis not the first of %q", first, whole)
			}
		}
		checkBench(t, strings.Join(r.lines, "\n\n"), r.answers...)
	}
}

// One text has one answer, however often and whatever else was asked between.
func TestBenchKeepsNothing(t *testing.T) {
	var texts, answers []string
	for seed := range 20 {
		texts = append(texts, strings.Join(newLineRun(2000+seed, 80, map[string]int{}).lines, "\n"))
		answers = append(answers, impl.Bench(texts[seed]))
	}
	for i := range 60 {
		at := i * 7 % len(texts)
		if got := impl.Bench(texts[at]); got != answers[at] {
			t.Fatalf("Bench of %q\nanswered %q, and then %q", texts[at], answers[at], got)
		}
	}
}
