package tests

import (
	"fmt"
	"os"
	"os/exec"
	"path/filepath"
	"regexp"
	"slices"
	"strconv"
	"strings"
	"testing"

	"loop.example/g00153/impl"
)

// The limits stand here as the document writes them.
const (
	mostText  = 20000
	mostLines = 200
)

func TestLimitsOfTheBench(t *testing.T) {
	if impl.MaxText != mostText || impl.MaxLines != mostLines {
		t.Errorf("a text has %d bytes and %d lines at most", impl.MaxText, impl.MaxLines)
	}
}

// What follows says the chapter once more: a line is matched whole, and what is done are the calls of chapters 8 to 13.

var (
	aNumber  = "(?:0|-?[1-9][0-9]{0,9})"
	numbered = map[string]int{
		"new": 2, "begin": 2, "read": 3, "write": 4, "alloc": 2, "drop": 3, "commit": 1, "step": 1, "finish": 1,
		"kill": 1, "recover": 0, "told": 1, "cell": 2, "serial": 0, "settled": 0,
	}
	goodLine = regexp.MustCompile("^[a-z]+(?: " + aNumber + ")*$")
)

// plainLine takes a line apart; false where it is none of the table's.
func plainLine(line string) (string, []int64, bool) {
	words := strings.Fields(line)
	if !goodLine.MatchString(line) {
		return "", nil, false
	}
	var numbers []int64
	for _, word := range words[1:] {
		n, _ := strconv.ParseInt(word, 10, 64)
		numbers = append(numbers, n)
	}
	many, is := numbered[words[0]]
	return words[0], numbers, is && many == len(numbers)
}

type plainBench struct{ cluster impl.Cluster }

func newPlainBench() *plainBench {
	c, _ := impl.NewCluster(2, 4)
	return &plainBench{c}
}

// orCode is what is told where there may be a code.
func orCode(code int64, told any) string {
	if code != 0 {
		return fmt.Sprint("error ", code)
	}
	return fmt.Sprint(told)
}

func yesOrNo(is bool) string {
	if is {
		return "yes"
	}
	return "no"
}

// runs are the lines of chapters 9 and 10.
func (b *plainBench) runs(word string, n []int64) string {
	var code int64
	var told any = "ok"
	switch word {
	case "begin":
		b.cluster, code = impl.Begin(b.cluster, n[0], n[1])
	case "read":
		b.cluster, told, code = impl.Read(b.cluster, n[0], n[1], n[2])
	case "write":
		b.cluster, code = impl.Write(b.cluster, n[0], n[1], n[2], n[3])
	case "alloc":
		b.cluster, told, code = impl.Alloc(b.cluster, n[0], n[1])
	case "drop":
		b.cluster, code = impl.Drop(b.cluster, n[0], n[1], n[2])
	case "commit":
		b.cluster, code = impl.Commit(b.cluster, n[0])
	case "step":
		b.cluster, code = impl.Step(b.cluster, n[0])
		told = b.phase(n[0])
	case "finish":
		b.cluster, code = impl.Finish(b.cluster, n[0])
		told = b.phase(n[0])
	}
	return orCode(code, told)
}

func (b *plainBench) phase(id int64) int64 {
	for _, tx := range b.cluster.Txs {
		if tx.Id == id {
			return tx.Phase
		}
	}
	return -1
}

func (b *plainBench) cell(region, slot int64) string {
	cells, lives := impl.Cells(b.cluster, region)
	if !lives || slot < 0 || slot >= int64(len(cells)) || impl.Locked(cells[slot].Head) {
		return "error 5"
	}
	if !impl.Used(cells[slot].Head) {
		return "free"
	}
	return fmt.Sprint(impl.Version(cells[slot].Head), " ", cells[slot].Value)
}

// line answers one that has bytes.
func (b *plainBench) line(line string) string {
	word, n, is := plainLine(line)
	if !is {
		return "error 0"
	}
	switch word {
	case "new":
		c, ok := impl.NewCluster(n[0], n[1])
		if ok {
			b.cluster = c
		}
		return orCode(boolNumber(!ok), "ok")
	case "kill":
		c, ok := impl.Kill(b.cluster, n[0])
		if ok {
			b.cluster = c
		}
		return orCode(boolNumber(!ok), "ok")
	case "recover":
		b.cluster = impl.Recover(b.cluster)
		if b.cluster.Lost {
			return "lost"
		}
		return fmt.Sprint(b.cluster.Config)
	case "told":
		tx, found := impl.Find(b.cluster, n[0])
		return orCode(exTx*boolNumber(!found), impl.Told(tx))
	case "cell":
		return b.cell(n[0], n[1])
	case "serial":
		return yesOrNo(impl.Agrees(b.cluster))
	case "settled":
		return yesOrNo(impl.Settled(b.cluster))
	}
	return b.runs(word, n)
}

// answersOf takes what Bench answers apart; each line has to be ended.
func answersOf(t *testing.T, text string) []string {
	t.Helper()
	out := impl.Bench(text)
	if out == "" {
		return nil
	}
	if !strings.HasSuffix(out, "\n") {
		t.Fatalf("the last answer of %q\nis not ended: %q", clipped(text), out)
	}
	return strings.Split(strings.TrimSuffix(out, "\n"), "\n")
}

// clipped keeps a complaint about a long text short.
func clipped(text string) string {
	if len(text) > 3000 {
		return text[:3000] + ".."
	}
	return text
}

// checkBench holds what Bench says to a text against the answers.
func checkBench(t *testing.T, text string, want ...string) {
	t.Helper()
	got := answersOf(t, text)
	for i := range min(len(got), len(want)) {
		if got[i] != want[i] {
			t.Fatalf("Bench of %q\nanswers %q\nwhere number %d should be %q", clipped(text), got, i, want[i])
		}
	}
	if len(got) != len(want) {
		t.Fatalf("Bench of %q\nanswers %q\nwant %q", clipped(text), got, want)
	}
}

// checkTalk: each line, and behind " > " its answer. Each is held against the calls themselves, too, and the first answers against those of the first lines alone, the last one ended or not; and with lines without bytes between.
func checkTalk(t *testing.T, talk string) {
	t.Helper()
	plain := newPlainBench()
	var lines, answers []string
	for both := range strings.SplitSeq(strings.TrimSpace(talk), "\n") {
		line, want, is := strings.Cut(strings.TrimSpace(both), " > ")
		if got := plain.line(line); got != want || !is {
			t.Fatalf("%q by the calls themselves: %q, want %q", line, got, want)
		}
		lines, answers = append(lines, line), append(answers, want)
		text := strings.Join(lines, "\n")
		checkBench(t, text, answers...)
		checkBench(t, text+"\n", answers...)
	}
	checkBench(t, "\n\n"+strings.Join(lines, "\n\n")+"\n\n", answers...)
}

func TestBenchByHand(t *testing.T) {
	checkTalk(t, `
		begin 1 0 > ok
		alloc 1 0 > 0
		write 1 0 0 5 > ok
		read 1 0 0 > 5
		told 1 > 0
		commit 1 > ok
		cell 0 0 > free
		step 1 > 4
		cell 0 0 > error 5
		settled > no
		step 1 > 4
		told 1 > 0
		step 1 > 5
		told 1 > 0
		step 1 > 6
		told 1 > 1
		cell 0 0 > 1 5
		serial > yes
		settled > no
		step 1 > 6
		step 1 > 6
		step 1 > 7
		told 1 > 1
		settled > yes
		begin 2 3 > ok
		read 2 0 0 > 5
		drop 2 0 0 > ok
		alloc 2 1 > 0
		write 2 1 0 -1000000000 > ok
		commit 2 > ok
		finish 2 > 7
		cell 0 0 > free
		cell 1 0 > 1 -1000000000
		kill 1 > ok
		settled > no
		cell 1 0 > error 5
		cell 0 0 > free
		recover > 2
		cell 1 0 > 1 -1000000000
		settled > yes
		serial > yes
	`)
}

// The bench begins with 2 regions and 4 machines.
func TestBenchBegins(t *testing.T) {
	for _, talk := range []string{
		"begin 1 3 > ok", "begin 1 4 > error 3", "kill 3 > ok", "kill 4 > error 1", "recover > 2", "settled > yes", "serial > yes",
		"cell 0 0 > free", "cell 0 5 > free", "cell 1 0 > free", "cell 1 5 > free", "cell 2 0 > error 5", "told 1 > error 2",
		"begin 1 0 > ok\nalloc 1 1 > 0\nalloc 1 2 > error 5",
	} {
		checkTalk(t, talk)
	}
	// Region 0 is on 0, 1, 2 and region 1 on 1, 2, 3.
	checkTalk(t, "kill 0 > ok\ncell 0 0 > error 5\ncell 1 0 > free")
	checkTalk(t, "kill 1 > ok\ncell 0 0 > free\ncell 1 0 > error 5")
	checkTalk(t, "kill 0 > ok\nkill 1 > ok\nkill 2 > ok\nrecover > lost")
	checkTalk(t, "kill 0 > ok\nkill 1 > ok\nkill 3 > ok\nrecover > 2\ncell 0 0 > free\ncell 1 0 > free")
}

func TestBenchOfNew(t *testing.T) {
	for regions := int64(-1); regions <= howManyRegions+1; regions++ {
		for machines := int64(-1); machines <= howManyMachines+1; machines++ {
			want := orCode(boolNumber(!within(regions, 1, howManyRegions) || !within(machines, 1, howManyMachines)), "ok")
			checkTalk(t, fmt.Sprintf("new %d %d > %s", regions, machines, want))
		}
	}
	// A new one knows nothing of the one before it; one that is refused leaves that as it is.
	checkTalk(t, `
		begin 5 3 > ok
		alloc 5 1 > 0
		commit 5 > ok
		finish 5 > 7
		begin 6 3 > ok
		kill 0 > ok
		recover > 2
		new 0 4 > error 1
		new 7 4 > error 1
		new 2 0 > error 1
		new 2 9 > error 1
		new -2 4 > error 1
		new 2 -4 > error 1
		new 9999999999 -9999999999 > error 1
		told 5 > 1
		told 6 > 0
		cell 1 0 > 1 0
		recover > 3
		new 1 2 > ok
		told 5 > error 2
		told 6 > error 2
		begin 5 0 > ok
		begin 6 2 > error 3
		cell 0 0 > free
		cell 1 0 > error 5
		recover > 2
		new 6 8 > ok
		begin 1 7 > ok
		alloc 1 5 > 0
		alloc 1 6 > error 5
	`)
}

func TestBenchOfBegin(t *testing.T) {
	checkTalk(t, `
		begin 0 0 > error 2
		begin -1 0 > error 2
		begin 1000001 0 > error 2
		begin 9999999999 9 > error 2
		begin 1 -1 > error 3
		begin 1 4 > error 3
		begin 3 3 > ok
		begin 3 3 > error 2
		begin 2 9 > error 2
		kill 2 > ok
		begin 4 2 > error 3
		begin 4 1 > ok
		begin 1000000 0 > ok
		told 1000000 > 0
	`)
	var most strings.Builder
	for id := 1; id <= mostTxs; id++ {
		fmt.Fprintf(&most, "begin %d 0 > ok\n", id)
	}
	checkTalk(t, most.String()+fmt.Sprintf("begin %d 0 > error 2\ntold 60 > 0\ntold 61 > error 2", mostTxs+1))
}

func TestBenchOfRead(t *testing.T) {
	checkTalk(t, `
		read 1 0 0 > error 2
		begin 1 3 > ok
		alloc 1 0 > 0
		write 1 0 0 77 > ok
		alloc 1 1 > 0
		write 1 1 0 -78 > ok
		alloc 1 1 > 1
		read 1 0 0 > 77
		read 1 1 0 > -78
		read 1 1 1 > 0
		read 2 1 1 > error 2
		read 1 2 0 > error 5
		read 1 -1 0 > error 5
		read 1 0 6 > error 5
		read 1 0 -1 > error 5
		read 1 0 5 > error 8
		drop 1 1 1 > ok
		read 1 1 1 > error 8
		commit 1 > ok
		read 1 0 0 > error 4
		begin 2 0 > ok
		step 1 > 2
		read 2 0 0 > error 7
		finish 1 > 7
		read 2 0 0 > 77
		read 2 1 0 > -78
		read 2 1 1 > error 8
		begin 3 1 > ok
		kill 1 > ok
		read 3 0 0 > error 3
		read 2 1 0 > -78
		read 2 1 2 > error 6
		read 2 0 1 > error 8
	`)
	// Twelve cells may be noted; of those that were, nothing more is asked.
	var most strings.Builder
	most.WriteString("new 3 3 > ok\nbegin 1 0 > ok\n")
	for i := range mostSets {
		fmt.Fprintf(&most, "read 1 %d %d > error 8\n", i/6, i%6)
	}
	checkTalk(t, most.String()+"read 1 2 0 > error 9\nread 1 1 5 > error 8\nread 1 2 6 > error 5")
}

// That a cell is free is noted by a read and by nothing else: what comes behind it goes by that.
func TestBenchKeepsWhatWasReadToBeFree(t *testing.T) {
	another := `
		begin 2 1 > ok
		alloc 2 0 > 0
		commit 2 > ok
		finish 2 > 7
	`
	checkTalk(t, "begin 1 0 > ok\nread 1 0 0 > error 8"+another+"read 1 0 0 > error 8\nwrite 1 0 0 5 > error 8\ncommit 1 > ok\nfinish 1 > 9\ntold 1 > 2\nserial > yes")
	checkTalk(t, "begin 1 0 > ok\nwrite 1 0 0 5 > error 8"+another+"read 1 0 0 > 0\nwrite 1 0 0 5 > ok\ncommit 1 > ok\nfinish 1 > 7\ntold 1 > 1\ncell 0 0 > 2 5")
	checkTalk(t, "begin 1 0 > ok\ndrop 1 0 0 > error 8"+another+"drop 1 0 0 > ok\ncommit 1 > ok\nfinish 1 > 7\ncell 0 0 > free")
}

func TestBenchOfWrite(t *testing.T) {
	checkTalk(t, `
		write 1 0 0 5 > error 2
		begin 1 3 > ok
		write 1 0 0 5 > error 8
		write 1 0 0 1000000001 > error 10
		write 1 7 7 -1000000001 > error 10
		write 1 7 7 9999999999 > error 10
		write 1 2 0 5 > error 5
		write 1 -1 0 5 > error 5
		write 1 0 6 5 > error 5
		write 1 0 -1 5 > error 5
		alloc 1 0 > 0
		write 1 0 0 1000000000 > ok
		read 1 0 0 > 1000000000
		write 1 0 0 -1000000000 > ok
		read 1 0 0 > -1000000000
		write 1 0 0 0 > ok
		read 1 0 0 > 0
		write 2 0 0 5 > error 2
		alloc 1 1 > 0
		write 1 1 0 9 > ok
		commit 1 > ok
		write 1 0 0 5 > error 4
		write 1 7 7 1000000001 > error 4
		begin 2 0 > ok
		begin 3 1 > ok
		step 1 > 2
		write 2 0 0 6 > error 7
		finish 1 > 7
		cell 0 0 > 1 0
		write 2 0 0 6 > ok
		read 2 0 0 > 6
		cell 0 0 > 1 0
		kill 1 > ok
		write 3 0 0 7 > error 3
		write 2 1 0 8 > error 6
		write 2 0 0 9 > ok
	`)
	checkTalk(t, mostNoted()+"write 4 2 0 7 > error 9\nwrite 4 1 5 7 > ok\nread 4 1 5 > 7")
}

// mostNoted: of three regions all cells that are asked for are in use, and transaction 4 has noted as many of them as it may.
func mostNoted() string {
	talk := "new 3 3 > ok\n"
	for i := range int64(3) {
		talk += fmt.Sprintf("begin %d 0 > ok\n", i+1)
		for slot := range 6 {
			talk += fmt.Sprintf("alloc %d %d > %d\n", i+1, i, slot)
		}
		talk += fmt.Sprintf("commit %d > ok\nfinish %d > 7\n", i+1, i+1)
	}
	talk += "begin 4 0 > ok\n"
	for i := range mostSets {
		talk += fmt.Sprintf("read 4 %d %d > 0\n", i/6, i%6)
	}
	return talk
}

func TestBenchOfAlloc(t *testing.T) {
	checkTalk(t, `
		alloc 1 0 > error 2
		begin 1 3 > ok
		alloc 1 0 > 0
		alloc 1 0 > 1
		alloc 1 1 > 0
		alloc 1 2 > error 5
		alloc 1 -1 > error 5
		alloc 2 0 > error 2
		alloc 1 0 > 2
		alloc 1 0 > 3
		alloc 1 0 > 4
		alloc 1 0 > 5
		alloc 1 0 > error 9
		begin 2 0 > ok
		begin 3 1 > ok
		alloc 2 0 > 0
		commit 1 > ok
		alloc 1 1 > error 4
		step 1 > 2
		alloc 3 0 > error 9
		alloc 3 1 > 0
		finish 1 > 7
		alloc 3 0 > error 9
		alloc 2 1 > 1
		kill 1 > ok
		alloc 3 0 > error 3
		alloc 2 1 > error 6
		cell 0 5 > 1 0
	`)
	// Without room for a further note there is no slot, though some are free.
	checkTalk(t, mostNoted()+"drop 4 0 0 > ok\nalloc 4 0 > error 9\nalloc 4 2 > error 9")
}

func TestBenchOfDrop(t *testing.T) {
	checkTalk(t, `
		drop 1 0 0 > error 2
		begin 1 3 > ok
		drop 1 0 0 > error 8
		drop 1 2 0 > error 5
		drop 1 -1 0 > error 5
		drop 1 0 6 > error 5
		drop 1 0 -1 > error 5
		alloc 1 0 > 0
		alloc 1 0 > 1
		alloc 1 1 > 0
		drop 1 0 1 > ok
		drop 1 0 1 > error 8
		write 1 0 1 5 > error 8
		read 1 0 1 > error 8
		drop 2 0 0 > error 2
		commit 1 > ok
		drop 1 0 0 > error 4
		begin 2 0 > ok
		begin 3 1 > ok
		step 1 > 2
		drop 2 0 0 > error 7
		finish 1 > 7
		cell 0 0 > 1 0
		cell 0 1 > free
		drop 2 0 0 > ok
		cell 0 0 > 1 0
		kill 1 > ok
		drop 3 0 0 > error 3
		drop 2 1 0 > error 6
		recover > 2
		drop 2 1 0 > ok
		commit 2 > ok
		finish 2 > 7
		cell 0 0 > free
		cell 1 0 > free
	`)
	checkTalk(t, mostNoted()+"drop 4 2 0 > error 9\ndrop 4 1 5 > ok\nread 4 1 5 > error 8")
}

func TestBenchOfCommit(t *testing.T) {
	checkTalk(t, `
		commit 1 > error 2
		begin 1 3 > ok
		begin 2 0 > ok
		commit 0 > error 2
		commit -1 > error 2
		commit 9999999999 > error 2
		commit 3 > error 2
		commit 1 > ok
		commit 1 > error 4
		told 1 > 0
		finish 1 > 7
		commit 1 > error 4
		kill 0 > ok
		commit 2 > error 3
		kill 3 > ok
		commit 1 > error 3
	`)
}

// Each Phase that a step may come to, and each code.
func TestBenchOfStep(t *testing.T) {
	checkTalk(t, `
		step 1 > error 2
		begin 1 3 > ok
		step 1 > error 4
		alloc 1 0 > 0
		alloc 1 1 > 0
		read 1 0 3 > error 8
		read 1 1 3 > error 8
		begin 2 0 > ok
		alloc 2 0 > 0
		alloc 2 1 > 0
		commit 1 > ok
		commit 2 > ok
		step 1 > 2
		step 1 > 3
		step 2 > 8
		step 2 > 8
		step 2 > 9
		step 2 > error 4
		told 2 > 2
		step 1 > 3
		step 1 > 4
		step 1 > 4
		step 1 > 4
		step 1 > 4
		told 1 > 0
		step 1 > 5
		told 1 > 0
		step 1 > 5
		told 1 > 1
		cell 0 0 > 1 0
		cell 1 0 > error 5
		step 1 > 6
		cell 1 0 > 1 0
		step 1 > 6
		step 1 > 6
		kill 2 > ok
		step 1 > error 6
		told 1 > 1
		recover > 2
		told 1 > 1
		step 1 > error 4
		step 3 > error 2
		begin 3 0 > ok
		write 3 0 0 5 > ok
		commit 3 > ok
		kill 0 > ok
		step 3 > error 3
		settled > no
		recover > 3
		told 3 > 2
		settled > yes
		cell 0 0 > 1 0
	`)
	// PhUnlock: the first region is locked and has to be unlocked again.
	checkTalk(t, `
		begin 1 3 > ok
		begin 2 3 > ok
		alloc 1 0 > 0
		alloc 1 1 > 0
		alloc 2 1 > 0
		commit 1 > ok
		commit 2 > ok
		step 2 > 4
		step 1 > 2
		cell 0 0 > error 5
		step 1 > 8
		told 1 > 2
		step 1 > 8
		cell 0 0 > free
		step 1 > 9
		cell 1 0 > error 5
		finish 2 > 7
		cell 1 0 > 1 0
		told 1 > 2
		settled > yes
	`)
}

func TestBenchOfFinish(t *testing.T) {
	// The steps ahead of a code are done: the second region's backup is missing.
	checkTalk(t, `
		finish 1 > error 2
		begin 1 0 > ok
		finish 1 > error 4
		alloc 1 0 > 0
		alloc 1 1 > 0
		commit 1 > ok
		kill 3 > ok
		finish 1 > error 6
		told 1 > 0
		cell 0 0 > error 5
		cell 1 0 > error 5
		step 1 > error 6
		finish 1 > error 6
		serial > yes
		recover > 2
		told 1 > 1
		finish 1 > 7
		cell 0 0 > 1 0
		cell 1 0 > 1 0
		settled > yes
		finish 2 > error 2
	`)
	checkTalk(t, `
		begin 1 3 > ok
		alloc 1 0 > 0
		commit 1 > ok
		step 1 > 4
		kill 3 > ok
		finish 1 > error 3
		recover > 2
		told 1 > 2
		finish 1 > 9
		cell 0 0 > free
		begin 2 0 > ok
		begin 3 0 > ok
		alloc 2 0 > 0
		alloc 3 0 > 0
		commit 2 > ok
		commit 3 > ok
		finish 3 > 7
		finish 2 > 9
		finish 2 > 9
		kill 0 > ok
		finish 3 > 7
	`)
}

func TestBenchOfKillAndRecover(t *testing.T) {
	checkTalk(t, `
		recover > 2
		recover > 3
		kill -1 > error 1
		kill 4 > error 1
		kill 9999999999 > error 1
		kill 0 > ok
		kill 0 > error 1
		settled > no
		recover > 4
		settled > yes
		kill 0 > error 1
		kill 1 > ok
		kill 2 > ok
		recover > 5
		begin 1 3 > ok
		alloc 1 1 > 0
		commit 1 > ok
		finish 1 > 7
		cell 1 0 > 1 0
		kill 3 > ok
		cell 1 0 > error 5
		recover > lost
		settled > no
		serial > yes
		told 1 > 1
		recover > lost
		begin 2 0 > error 3
		kill 3 > error 1
		new 1 3 > ok
		recover > 2
		settled > yes
	`)
	// Only one of two regions is lost: there is no new configuration for the other either.
	checkTalk(t, `
		new 2 6 > ok
		begin 1 5 > ok
		alloc 1 1 > 0
		kill 0 > ok
		kill 2 > ok
		kill 1 > ok
		recover > lost
		cell 1 0 > error 5
		begin 2 5 > ok
		read 2 1 0 > error 6
		kill 3 > ok
		recover > lost
	`)
}

func TestBenchOfTold(t *testing.T) {
	checkTalk(t, `
		told 1 > error 2
		begin 1 3 > ok
		told 1 > 0
		told 0 > error 2
		told -1 > error 2
		told 2 > error 2
		told 9999999999 > error 2
		kill 3 > ok
		told 1 > 0
		recover > 2
		told 1 > 2
		begin 2 0 > ok
		commit 2 > ok
		step 2 > 7
		told 2 > 1
	`)
}

func TestBenchOfCell(t *testing.T) {
	checkTalk(t, `
		cell 0 0 > free
		cell 1 5 > free
		cell 2 0 > error 5
		cell -1 0 > error 5
		cell 0 6 > error 5
		cell 0 -1 > error 5
		cell 9999999999 0 > error 5
		cell 0 9999999999 > error 5
		begin 1 3 > ok
		alloc 1 1 > 0
		write 1 1 0 -12 > ok
		alloc 1 1 > 1
		cell 1 0 > free
		commit 1 > ok
		step 1 > 4
		cell 1 0 > error 5
		cell 1 1 > error 5
		cell 1 2 > free
		finish 1 > 7
		cell 1 0 > 1 -12
		cell 1 1 > 1 0
		begin 2 3 > ok
		write 2 1 0 1000000000 > ok
		drop 2 1 1 > ok
		commit 2 > ok
		finish 2 > 7
		cell 1 0 > 2 1000000000
		cell 1 1 > free
		begin 3 3 > ok
		alloc 3 1 > 1
		commit 3 > ok
		finish 3 > 7
		cell 1 1 > 3 0
		kill 1 > ok
		cell 1 0 > error 5
		cell 1 2 > error 5
		cell 0 0 > free
		recover > 2
		cell 1 0 > 2 1000000000
		cell 1 1 > 3 0
		cell 1 2 > free
	`)
}

// Settled is no while a cell is locked, a record is logged, a backup is behind or a machine of a Place is dead.
func TestBenchOfSerialAndSettled(t *testing.T) {
	checkTalk(t, `
		serial > yes
		settled > yes
		begin 1 0 > ok
		alloc 1 0 > 0
		settled > yes
		commit 1 > ok
		settled > yes
		step 1 > 4
		settled > no
		serial > yes
		finish 1 > 7
		settled > yes
		kill 3 > ok
		serial > yes
		settled > no
		recover > 2
		serial > yes
		settled > yes
	`)
}

// After any script there is an order, so that serial's no can be had only of a program that is not this one: here Agrees says the contrary.
func TestBenchTellsNoOfSerial(t *testing.T) {
	files, err := filepath.Glob("../impl/*.go")
	if err != nil || len(files) == 0 {
		t.Fatal("the program is not there:", err)
	}
	root, turned := t.TempDir(), 0
	put := func(name, text string) {
		if err := os.WriteFile(filepath.Join(root, name), []byte(text), 0o600); err != nil {
			t.Fatal(err)
		}
	}
	if err := os.Mkdir(filepath.Join(root, "impl"), 0o700); err != nil {
		t.Fatal(err)
	}
	for _, file := range files {
		text, err := os.ReadFile(file)
		if err != nil {
			t.Fatal(err)
		}
		const face = "func Agrees(c Cluster) bool"
		turned += strings.Count(string(text), face)
		put("impl/"+filepath.Base(file), strings.Replace(string(text), face, face+" { return !agreesIndeed(c) }\n\nfunc agreesIndeed(c Cluster) bool", 1))
	}
	put("go.mod", "module turned.example\n\ngo 1.27\n")
	put("main.go", "package main\n\nimport (\n\t\"os\"\n\n\t\"turned.example/impl\"\n)\n\nfunc main() { os.Stdout.WriteString(impl.Bench(\"serial\\nbegin 1 0\\nserial\\nsettled\")) }\n")
	run := exec.Command("go", "run", ".")
	run.Dir = root
	out, err := run.Output()
	if err != nil || turned != 1 || string(out) != "no\nok\nno\nyes\n" {
		t.Errorf("where Agrees says the contrary (%d times) the bench answers %q, %v", turned, out, err)
	}
}

// checkNoLine: it is answered by error 0, wherever it stands, and nothing comes of it.
func checkNoLine(t *testing.T, line string) {
	t.Helper()
	if got := newPlainBench().line(line); got != "error 0" {
		t.Errorf("%q by the calls themselves: %q", line, got)
	}
	checkBench(t, line, "error 0")
	checkBench(t, line+"\n", "error 0")
	checkBench(t, "begin 7 3\nalloc 7 1\n"+line+"\ncommit 7\n"+line+"\n"+line+"\nfinish 7\n"+line+"\ncell 1 0\nrecover\n"+line,
		"ok", "0", "error 0", "ok", "error 0", "error 0", "7", "error 0", "1 0", "2", "error 0")
}

// A first word that is none.
func TestBenchOfNoWord(t *testing.T) {
	for _, line := range []string{
		"a", "begi", "beginn", "Begin 1 0", "BEGIN 1 0", "begin1 0", "begin\t1 0", "\tbegin 1 0", "begin 1 0\r", "recover\r", "recover.", "\x00", "\xff", "\x80\x81", "é",
		"0", "1", "-1", "7 3", "error 0", "ok", "lost", "free", "yes", "no", "open 1 0", "reads 1 0 0", "told1", "#", "# begin 1 0", "stepstep 1", "serials", "settle", "kills 0", "news 2 4", "cells 0 0",
		"\u00a0", "begin\u00a01 0", "recover\x00", "\vserial", "serial\f",
	} {
		checkNoLine(t, line)
	}
}

// Each line with one word less, with further ones, and with none.
func TestBenchOfTooFewAndTooManyWords(t *testing.T) {
	for word, many := range numbered {
		for have := range 8 {
			line := word + strings.Repeat(" 1", have)
			if have != many {
				checkNoLine(t, line)
				continue
			}
			if got := answersOf(t, line); len(got) != 1 || got[0] == "error 0" || got[0] != newPlainBench().line(line) {
				t.Errorf("Bench of %q answers %q", line, got)
			}
		}
		checkNoLine(t, word+strings.Repeat(" 1", 1500))
		checkNoLine(t, word+strings.Repeat(" 1", many)+" "+word)
	}
}

// numberedLine is a right one: nothing is wrong with its numbers.
func numberedLine(word string) string {
	return word + strings.Repeat(" 1", numbered[word])
}

// Two blanks side by side, or one at an end.
func TestBenchOfWordsWithoutBytes(t *testing.T) {
	for _, line := range []string{" ", "  ", "   ", "\t", strings.Repeat(" ", 3000)} {
		checkNoLine(t, line)
	}
	for word := range numbered {
		line := numberedLine(word)
		checkNoLine(t, " "+line)
		checkNoLine(t, line+" ")
		checkNoLine(t, "  "+line)
		checkNoLine(t, line+"  ")
		checkNoLine(t, " "+line+" ")
		for at := range line {
			if line[at] == ' ' {
				checkNoLine(t, line[:at]+" "+line[at:])
				// One word is without bytes, so that their number is right.
				checkNoLine(t, line[:at+1]+line[min(at+2, len(line)):])
			}
		}
	}
}

// Each number of each line in turn is none.
func TestBenchOfWordsThatAreNoNumbers(t *testing.T) {
	wrong := []string{
		"", "00", "01", "001", "-0", "-00", "-01", "+0", "+1", "-", "--1", "+-1", "-+1", "+", "1-", "1+", "0-",
		"12345678901", "-12345678901", "00000000001", "10000000000", "-10000000000", "99999999999", "18446744073709551617", "9223372036854775808", strings.Repeat("1", 1000),
		"a", "1a", "a1", "1e1", "0x1", "1_0", "1.0", "1,0", ".", "'1'", "\"1\"", "begin",
		"\x80", "1\x80", "\xff", "1\xff", "\xb11", "\x00", "1\x00", "\x001", "１", "١", "²", "½", "1\t", "\t1", "1\r", "\r", "−1", "1/", "1:", "/", ":",
	}
	for word, many := range numbered {
		for which := range many {
			for _, one := range wrong {
				words := strings.Split(numberedLine(word), " ")
				words[which+1] = one
				checkNoLine(t, strings.Join(words, " "))
			}
		}
	}
}

// Numbers of up to ten digits are numbers, with and without a - ahead: what is answered is what the calls say to them.
func TestBenchOfLongNumbers(t *testing.T) {
	right := []string{"0", "9", "-9", "10", "100", "999999999", "-999999999", "1000000000", "-1000000000", "1000000001", "9999999999", "-9999999999", "2147483648", "4294967296", "-4294967295", "1234567890"}
	for word, many := range numbered {
		for which := range many {
			for _, one := range right {
				words := strings.Split(numberedLine(word), " ")
				words[which+1] = one
				line := strings.Join(words, " ")
				if _, _, is := plainLine(line); !is {
					t.Errorf("%q should be a line", line)
				}
				plain := newPlainBench()
				checkBench(t, "begin 1 1\nalloc 1 1\nalloc 1 1\n"+line+"\nread 1 1 1", plain.line("begin 1 1"), plain.line("alloc 1 1"), plain.line("alloc 1 1"), plain.line(line), plain.line("read 1 1 1"))
			}
		}
	}
	checkTalk(t, `
		begin 1 0 > ok
		alloc 1 0 > 0
		write 1 0 0 1000000000 > ok
		write 1 0 0 -1000000000 > ok
		write 1 0 0 9999999999 > error 10
		write 1 0 0 -9999999999 > error 10
		write 1 0 0 10000000000 > error 0
		write 1 0 0 -10000000000 > error 0
		read 1 0 0 > -1000000000
		read 1 0 4294967296 > error 5
		read 4294967297 0 0 > error 2
		kill 4294967296 > error 1
	`)
}

// Lines without a byte are passed over, wherever they stand.
func TestBenchOfLinesWithoutBytes(t *testing.T) {
	for _, text := range []string{"", "\n", "\n\n", "\n\n\n", strings.Repeat("\n", mostLines)} {
		if got := impl.Bench(text); got != "" {
			t.Errorf("Bench of %q = %q", text, got)
		}
	}
	for _, text := range []string{"recover\nserial", "recover\nserial\n", "\nrecover\nserial", "recover\n\nserial", "recover\nserial\n\n", "\n\n\nrecover\n\n\n\nserial\n\n\n"} {
		checkBench(t, text, "2", "yes")
	}
	if got := impl.Bench("recover"); got != "2\n" {
		t.Errorf("an answer has a byte 10 behind it: %q", got)
	}
	// Only a byte 10 ends a line.
	checkBench(t, "recover\rserial", "error 0")
	checkBench(t, "recover\r\nserial", "error 0", "yes")
	checkBench(t, "recover\x00serial\x0bserial\x0cserial\u0085serial\u2028serial", "error 0")
}

func TestBenchOfHowManyLines(t *testing.T) {
	for _, one := range []struct{ bytes, blank int }{{mostLines, 0}, {mostLines - 1, 1}, {100, 100}, {1, mostLines - 1}, {mostLines - 1, 0}} {
		// The last line has its byte 10, lacks it, or is one without bytes.
		for _, line := range []string{"recover", "serial", "x"} {
			answers := make([]string, one.bytes)
			plain := newPlainBench()
			for i := range answers {
				answers[i] = plain.line(line)
			}
			lines := strings.Repeat(line+"\n", one.bytes)
			blanks := strings.Repeat("\n", one.blank)
			checkBench(t, lines+blanks, answers...)
			checkBench(t, blanks+lines, answers...)
			checkBench(t, blanks+strings.TrimSuffix(lines, "\n"), answers...)
			if one.bytes+one.blank < mostLines {
				continue
			}
			for _, text := range []string{lines + blanks + "\n", lines + blanks + "serial", lines + blanks + "serial\n", "\n" + blanks + lines, blanks + "serial\n" + lines, lines + blanks + strings.Repeat("\n", 5000)} {
				if got := impl.Bench(text); got != "" {
					t.Errorf("Bench of %d and %d lines and one more = %q", one.bytes, one.blank, got)
				}
			}
		}
	}
	for _, text := range []string{strings.Repeat("\n", mostLines+1), strings.Repeat("\n", mostText)} {
		if got := impl.Bench(text); got != "" {
			t.Errorf("Bench of %d lines = %q", len(text), got)
		}
	}
}

func TestBenchOfHowManyBytes(t *testing.T) {
	filler := func(many int) string { return strings.Repeat("x", many) }
	for _, less := range []int{0, 1, 2, 100} {
		most := mostText - less
		checkBench(t, filler(most), "error 0")
		checkBench(t, filler(most-1)+"\n", "error 0")
		checkBench(t, "recover\n"+filler(most-15)+"\nserial", "2", "error 0", "yes")
		checkBench(t, "recover\n"+filler(most-16)+"\nserial\n", "2", "error 0", "yes")
		// Bytes are counted, not letters.
		checkBench(t, strings.Repeat("é", most/2), "error 0")
	}
	for _, more := range []int{1, 2, 3, 1000, mostText} {
		most := mostText + more
		for _, text := range []string{filler(most), filler(most-1) + "\n", "recover\n" + filler(most-15) + "\nserial", "recover\n" + filler(most-9) + "\n", strings.Repeat("é", most/2+1), strings.Repeat(" ", most), "recover\n" + strings.Repeat("\n", most-8)} {
			if got := impl.Bench(text); got != "" {
				t.Errorf("Bench of %d bytes = %q", len(text), got)
			}
		}
	}
	// Both limits are met exactly.
	text := strings.Repeat("serial\n", mostLines-1)
	text += filler(mostText - len(text))
	checkBench(t, text, append(slices.Repeat([]string{"yes"}, mostLines-1), "error 0")...)
}
