package tests

import (
	"cmp"
	"fmt"
	"slices"
	"testing"

	"loop.example/g00153/impl"
)

// checkOneStep: nothing is changed by a step but the transaction, the one machine that was asked, and the Clock where a Stamp was given; what was told stays told.
func checkOneStep(t *testing.T, before, after impl.Cluster, id int64, code int64) {
	t.Helper()
	checkClusterOk(t, after, true)
	if code != 0 {
		if !sameCluster(before, after) {
			t.Fatalf("with the code %d there comes\n%+v\nof %+v", code, after, before)
		}
		return
	}
	want, asked := deepCluster(before), 0
	for m := range want.Machines {
		if !sameMachine(before.Machines[m], after.Machines[m]) {
			asked++
			if !before.Machines[m].Alive || !after.Machines[m].Alive {
				t.Fatalf("machine %d does not live, but is changed", m)
			}
			want.Machines[m] = after.Machines[m]
		}
	}
	for i := range want.Txs {
		was, is := &want.Txs[i], after.Txs[i]
		if was.Id != id {
			continue
		}
		if told := impl.Told(*was); told > 0 && impl.Told(is) != told {
			t.Fatalf("%d was told %d, and now %d: %+v", id, told, impl.Told(is), is)
		}
		if was.Phase == phLock && is.Phase != phLock && is.Stamp != was.Stamp {
			want.Clock++
			was.Stamp = want.Clock
		}
		was.Phase, was.Done = is.Phase, is.Done
	}
	if asked > 1 || !sameCluster(after, want) {
		t.Fatalf("more than a step of %d has changed: %d machines\n%+v\nwas\n%+v", id, asked, after, before)
	}
}

// checkHistory: what was committed could have been done one by one, by rising Stamps, from the start on; and all copies are what came of it.
func checkHistory(t *testing.T, start, end impl.Cluster) {
	t.Helper()
	var regions [][]impl.Cell
	for r := range start.Places {
		cells, _ := plainCells(start, int64(r))
		regions = append(regions, slices.Clone(cells))
	}
	txs := slices.DeleteFunc(slices.Clone(end.Txs), func(tx impl.Tx) bool { return tx.Phase != phCommitted })
	slices.SortFunc(txs, func(a, b impl.Tx) int { return cmp.Compare(a.Stamp, b.Stamp) })
	for i, tx := range txs {
		if i > 0 && tx.Stamp == txs[i-1].Stamp {
			t.Fatalf("two have the Stamp %d", tx.Stamp)
		}
		for _, n := range tx.Reads {
			if one := regions[n.Region][n.Slot]; one.Head/4 != n.Version || one.Value != n.Value || one.Head%4 != 2*boolNumber(n.Used) {
				t.Fatalf("%d read %+v, but the cell was %+v", tx.Id, n, one)
			}
		}
		for _, s := range tx.Sets {
			if one := regions[s.Region][s.Slot]; one.Head/4 != s.Version {
				t.Fatalf("%d set %+v, but the cell was %+v", tx.Id, s, one)
			}
			regions[s.Region], _ = plainInstall(regions[s.Region], []impl.Set{s})
		}
	}
	for r, p := range end.Places {
		for _, m := range p.Machines {
			if cells, _ := plainCopied(end.Machines[m], int64(r)); !slices.Equal(cells, regions[r]) {
				t.Fatalf("machine %d has for region %d\n%v\nwant %v", m, r, cells, regions[r])
			}
		}
	}
}

func boolNumber(flag bool) int64 {
	if flag {
		return 1
	}
	return 0
}

// checkLogsAsAtFirst: of the transactions that are at their end nothing is logged any more.
func checkLogsAsAtFirst(t *testing.T, start, end impl.Cluster) {
	t.Helper()
	for m := range end.Machines {
		if !slices.EqualFunc(start.Machines[m].Log, end.Machines[m].Log, sameRecord) {
			t.Fatalf("the Log of machine %d is %+v, and was %+v", m, end.Machines[m].Log, start.Machines[m].Log)
		}
	}
}

// checkClearedBy: a machine has the Ids of those that were committed and have Sets of one of its regions.
func checkClearedBy(t *testing.T, start, end impl.Cluster) {
	t.Helper()
	for m := range end.Machines {
		want := slices.Clone(start.Machines[m].Cleared)
		for _, tx := range end.Txs {
			touches := func(region int64) bool { return slices.Contains(end.Places[region].Machines, int64(m)) }
			if tx.Phase == phCommitted && slices.ContainsFunc(plainWants(tx), touches) {
				want = append(want, tx.Id)
			}
		}
		slices.Sort(want)
		if want = slices.Compact(want); !slices.Equal(end.Machines[m].Cleared, want) {
			t.Fatalf("machine %d has cleared %v, want %v", m, end.Machines[m].Cleared, want)
		}
	}
}

// commitRun is several transactions under way in one cluster, by a fixed rule; now and then a machine does not live for a while.
type commitRun struct {
	t              *testing.T
	start, cluster impl.Cluster
	next           func(below uint64) int64
	seen           map[int64]int // how often each code came
}

func newCommitRun(t *testing.T, seed int, seen map[int64]int) *commitRun {
	state := uint64(seed)*2654435761 + 11
	next := func(below uint64) int64 {
		state = state*6364136223846793005 + 1442695040888963407
		return int64(state >> 33 % below)
	}
	c := clusterOn(placesWithin(1+seed%4, 3+seed%5, seed), aliveAs(3+seed%5, 0xff))
	openAll(&c)
	for m := range c.Machines {
		c.Machines[m].Log, c.Machines[m].Cleared = nil, nil
	}
	r := &commitRun{t: t, start: c, cluster: c, next: next, seen: seen}
	for i := range 5 {
		r.cluster = do(r.cluster, act{kind: begins, id: int64(4*i + 2), home: next(uint64(len(c.Machines)))}).cluster
	}
	return r
}

// act lets a transaction that runs read or write something, or begin its commit.
func (r *commitRun) act(id int64) {
	if r.next(4) == 0 {
		want, code := plainCommit(r.cluster, id)
		r.cluster = checkCalled(r.t, commits, r.cluster, id, want, code)
		return
	}
	a := act{kind: int(1 + r.next(4)), id: id, region: r.next(uint64(len(r.cluster.Places))), slot: r.next(6), v: r.next(2000) - 1000}
	r.cluster = do(r.cluster, a).cluster
}

func (r *commitRun) step(id int64) {
	before := deepCluster(r.cluster)
	want, code := plainStep(r.cluster, id)
	r.cluster = checkCalled(r.t, steps, r.cluster, id, want, code)
	checkOneStep(r.t, before, r.cluster, id, code)
	r.seen[code]++
}

func (r *commitRun) turn() {
	i := r.next(uint64(len(r.cluster.Txs)))
	if tx := r.cluster.Txs[i]; tx.Phase == phRun {
		r.act(tx.Id)
	} else {
		r.step(tx.Id)
	}
	if r.next(12) == 0 {
		m := r.next(uint64(len(r.cluster.Machines)))
		r.cluster.Machines[m].Alive = !r.cluster.Machines[m].Alive
	}
}

// finish: all machines live again, and all transactions go to their end, now one and then the other.
func (r *commitRun) finish() {
	for m := range r.cluster.Machines {
		r.cluster.Machines[m].Alive = true
	}
	for _, tx := range r.cluster.Txs {
		if tx.Phase == phRun {
			r.cluster, _ = impl.Commit(r.cluster, tx.Id)
		}
	}
	for range 150 {
		r.step(4*r.next(5) + 2)
	}
	for _, tx := range r.cluster.Txs {
		want, code := plainFinish(r.cluster, tx.Id)
		if r.cluster = checkCalled(r.t, finishes, r.cluster, tx.Id, want, code); code != 0 {
			r.t.Fatalf("Finish of %+v: %d", tx, code)
		}
	}
}

// A cluster stays right by each step, and what was told stays told, however many transactions are under way and whoever does not live.
func TestPromise10(t *testing.T) {
	seen, ends := map[int64]int{}, map[int64]int{}
	for seed := range 80 {
		r := newCommitRun(t, seed, seen)
		for range 150 {
			r.turn()
		}
		r.finish()
		checkHistory(t, r.start, r.cluster)
		checkLogsAsAtFirst(t, r.start, r.cluster)
		checkClearedBy(t, r.start, r.cluster)
		for _, tx := range r.cluster.Txs {
			ends[tx.Phase]++
		}
	}
	if ends[phCommitted]+ends[phAborted] != 400 || ends[phCommitted] < 100 || ends[phAborted] < 50 {
		t.Errorf("in the end: %v", ends)
	}
	for _, code := range []int64{0, exHome, exPhase, exDown} {
		if seen[code] < 20 {
			t.Errorf("the codes were %v", seen)
		}
	}
}

// orders goes through every order of the transactions' steps; a cluster that was seen already goes on as it did then.
type orders struct {
	t     *testing.T
	start impl.Cluster
	seen  map[string]bool
	ends  map[string]int
}

func everyOrder(t *testing.T, c impl.Cluster) *orders {
	t.Helper()
	o := &orders{t: t, start: c, seen: map[string]bool{}, ends: map[string]int{}}
	o.from(c)
	return o
}

func (o *orders) from(c impl.Cluster) {
	key := fmt.Sprint(c)
	if o.seen[key] {
		return
	}
	o.seen[key] = true
	var phases []int64
	ended := true
	for _, tx := range c.Txs {
		next, code := impl.Step(c, tx.Id)
		checkOneStep(o.t, c, next, tx.Id, code)
		want, wantCode := plainStep(c, tx.Id)
		if code != wantCode || !sameCluster(next, want) {
			o.t.Fatalf("Step of %d in %+v\n= %+v, %d", tx.Id, c, next, code)
		}
		if code == 0 {
			o.from(next)
		}
		ended = ended && code == exPhase
		phases = append(phases, tx.Phase)
	}
	if ended {
		checkHistory(o.t, o.start, c)
		checkLogsAsAtFirst(o.t, o.start, c)
		checkClearedBy(o.t, o.start, c)
		o.ends[fmt.Sprint(phases)]++
	}
}

// check: just these ends are reached.
func (o *orders) check(ends ...[]int64) {
	o.t.Helper()
	var want []string
	for _, phases := range ends {
		want = append(want, fmt.Sprint(phases))
	}
	var came []string
	for end := range o.ends {
		came = append(came, end)
	}
	slices.Sort(want)
	slices.Sort(came)
	if !slices.Equal(came, want) {
		o.t.Errorf("the ends are %v, want %v", came, want)
	}
}

func lockTx(id int64, reads []impl.Note, sets ...impl.Set) impl.Tx {
	return impl.Tx{Id: id, Home: id % 3, Phase: phLock, Reads: reads, Sets: sets}
}

// Two that want the same cell, in every order of their steps: just one of them is committed.
func TestTwoThatWantTheSameCell(t *testing.T) {
	one, other := []int64{phCommitted, phAborted}, []int64{phAborted, phCommitted}
	same := func(value int64) impl.Set { return openSet(0, 1, value, true) }
	reads := []impl.Note{openNote(0, 1)}
	everyOrder(t, commitCluster(lockTx(20, reads, same(5)), lockTx(21, reads, same(6)))).check(one, other)
	everyOrder(t, commitCluster(lockTx(20, nil, same(5)), lockTx(21, reads, openSet(0, 1, 0, false)))).check(one, other)
	// With cells of their own besides, of the same region and of others.
	everyOrder(t, commitCluster(lockTx(20, reads, same(5), openSet(0, 2, 1, true)), lockTx(21, reads, same(6), openSet(0, 3, 1, true)))).check(one, other)
	everyOrder(t, commitCluster(lockTx(20, nil, same(5), openSet(1, 2, 1, true)), lockTx(21, nil, same(6), openSet(2, 3, 1, true)))).check(one, other)
	// Two cells of two regions: locks are taken in the regions' order, so that the first one decides.
	everyOrder(t, commitCluster(lockTx(20, nil, same(5), openSet(2, 2, 1, true)), lockTx(21, nil, same(6), openSet(2, 2, 2, true)))).check(one, other)
	// A cell that both take.
	everyOrder(t, commitCluster(lockTx(20, nil, openSet(2, 0, 5, true)), lockTx(21, nil, openSet(2, 0, 6, true)))).check(one, other)
}

// Each reads what the other writes: never are both committed; with their locks taken at the same time both are given up.
func TestTwoThatReadWhatTheOtherWrites(t *testing.T) {
	one, other, none := []int64{phCommitted, phAborted}, []int64{phAborted, phCommitted}, []int64{phAborted, phAborted}
	x, y := openSet(0, 1, 5, true), openSet(2, 2, 6, true)
	readX, readY := openNote(0, 1), openNote(2, 2)
	everyOrder(t, commitCluster(lockTx(20, []impl.Note{readX, readY}, x), lockTx(21, []impl.Note{readX, readY}, y))).check(one, other, none)
	everyOrder(t, commitCluster(lockTx(20, []impl.Note{readY}, x), lockTx(21, []impl.Note{readX}, y))).check(one, other, none)
}

// One reads what the other writes: the reader may be given up, the writer never.
func TestOneThatReadsWhatTheOtherWrites(t *testing.T) {
	both, writer := []int64{phCommitted, phCommitted}, []int64{phCommitted, phAborted}
	set := openSet(0, 1, 5, true)
	for _, reader := range []impl.Tx{
		lockTx(21, []impl.Note{openNote(0, 1)}),
		lockTx(21, []impl.Note{openNote(0, 1), openNote(2, 3)}),
		lockTx(21, []impl.Note{openNote(0, 1)}, openSet(1, 2, 3, true)),
		lockTx(21, []impl.Note{openNote(0, 1)}, openSet(0, 2, 3, true)),
	} {
		everyOrder(t, commitCluster(lockTx(20, nil, set), reader)).check(both, writer)
	}
}

// Two that have nothing to do with each other are both committed, also in one region.
func TestTwoApart(t *testing.T) {
	both := []int64{phCommitted, phCommitted}
	reads := []impl.Note{openNote(0, 3), openNote(2, 3)}
	everyOrder(t, commitCluster(lockTx(20, reads, openSet(0, 1, 5, true)), lockTx(21, reads, openSet(0, 2, 6, true)))).check(both)
	everyOrder(t, commitCluster(lockTx(20, reads, openSet(0, 1, 5, true)), lockTx(21, reads, openSet(2, 1, 6, true)))).check(both)
	everyOrder(t, commitCluster(lockTx(20, reads), lockTx(21, reads))).check(both)
}

// Three in a ring, each of which wants two of three cells.
func TestThreeInARing(t *testing.T) {
	x, y, z := openSet(0, 1, 5, true), openSet(1, 2, 6, true), openSet(2, 3, 7, true)
	o := everyOrder(t, commitCluster(lockTx(20, nil, x, y), lockTx(21, nil, y, z), lockTx(22, nil, x, z)))
	for _, end := range [][]int64{{phCommitted, phAborted, phAborted}, {phAborted, phCommitted, phAborted}, {phAborted, phAborted, phCommitted}} {
		if o.ends[fmt.Sprint(end)] == 0 {
			t.Errorf("%v is never reached: %v", end, o.ends)
		}
	}
}

// While a machine does not live, every order stops with nothing changed; when it lives again all go on to their end.
func TestOrdersWithoutAMachine(t *testing.T) {
	for dead := range int64(5) {
		start := commitCluster(lockTx(20, []impl.Note{openNote(2, 3)}, openSet(0, 1, 5, true), openSet(2, 1, 5, true)), lockTx(21, []impl.Note{openNote(0, 1)}, openSet(2, 1, 6, true)))
		for turn := range 1 << 5 {
			c := deepCluster(start)
			c.Machines[dead].Alive = false
			for i := range 20 {
				id := int64(20 + turn>>(i%5)&1)
				next, code := impl.Step(c, id)
				checkOneStep(t, c, next, id, code)
				c = next
			}
			c.Machines[dead].Alive = true
			for _, id := range []int64{20, 21} {
				next, code := impl.Finish(c, id)
				if code != 0 {
					t.Fatalf("Finish of %d: %d", id, code)
				}
				c = next
			}
			checkHistory(t, start, c)
			checkLogsAsAtFirst(t, start, c)
			checkClearedBy(t, start, c)
		}
	}
}

func checkCommittingStays(t *testing.T, start impl.Cluster, what committing, id int64) {
	t.Helper()
	c, stays := guardedCluster(start)
	first, code := what.call(c, id)
	second, again := what.call(c, id)
	if !stays() {
		t.Errorf("an argument is changed by %s of %d: %+v", what.name, id, c)
	}
	if code != again || !sameCluster(first, second) {
		t.Errorf("%s of %d answers %+v, %d, and then %+v, %d", what.name, id, first, code, second, again)
	}
	lists := append(listsOfCluster(first), outerLists(first)...)
	lists = append(append(lists, listsOfCluster(second)...), outerLists(second)...)
	checkListsApart(t, lists)
	if !stays() {
		t.Errorf("an answer of %s of %d shares memory with an argument: %+v", what.name, id, c)
	}
}

// Each call in each phase, with each of its codes and without one.
func TestCommittingStaysAndSharesNothing(t *testing.T) {
	for _, what := range allCommitting() {
		for phase := int64(phRun); phase <= phAborted; phase++ {
			for _, done := range []int64{0, 1, 2, 1000} {
				tx := wideTx(phase)
				tx.Done = done
				c := commitCluster(impl.Tx{Id: 4, Phase: phRun, Reads: notesAt(2)}, tx, impl.Tx{Id: 30, Home: 2, Phase: phLock, Sets: setsAtCells(2, 7)})
				logs(1, 0)(&c.Machines[1])
				checkCommittingStays(t, c, what, 20)
			}
			for _, choice := range []strait{{bad: true}, {noTx: true}, {noHome: true}, {down: true}, {conflict: true}, {noStamp: true, done: 1}} {
				choice.phase = phase
				c, id := choice.cluster()
				checkCommittingStays(t, c, what, id)
			}
		}
		checkCommittingStays(t, impl.Cluster{}, what, 20)
		for _, m := range []int{0, 1, 2} {
			c := commitCluster(wideTx(phLock))
			c.Machines[m].Cleared = idsFrom(100, 1, mostCleared)
			checkCommittingStays(t, c, what, 20)
		}
	}
	full := commitCluster(wideTx(phLock))
	full.Machines[1].Log = recordsOf(mostLogged)
	c, stays := guardedCluster(full)
	got, code := impl.Step(c, 20)
	for _, list := range append(listsOfCluster(got), outerLists(got)...) {
		list.spoil()
	}
	if code != exFull || !stays() {
		t.Errorf("a Log without room: %d, and an argument is changed: %v", code, !stays())
	}
}

// Told keeps and changes nothing of what it is handed.
func TestToldStays(t *testing.T) {
	for _, tx := range append(goodTxs(), wrongTxs()...) {
		own, stays := guardedTx(tx)
		if first, second := impl.Told(own), impl.Told(own); first != second || !stays() {
			t.Errorf("Told of %+v = %d, and then %d; it stays: %v", tx, first, second, stays())
		}
	}
}
