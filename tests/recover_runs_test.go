package tests

import (
	"fmt"
	"slices"
	"testing"

	"loop.example/g00153/impl"
)

// aims is what one transaction of a script reads and writes.
type aims struct {
	id, home int64
	acts     []act
}

// aimsOf has several transactions that are in each other's way, of one region or of two: 20 and 23 want the same cell, 26 takes a new one and drops one, 29 only reads, 32 reads what 20 writes and writes what 29 reads.
func aimsOf(regions, machines int64) []aims {
	other := regions - 1
	return []aims{
		{20, 0, []act{{kind: writes, region: 0, slot: 0}, {kind: writes, region: other, slot: 1}, {kind: reads, region: other, slot: 2}}},
		{23, 1, []act{{kind: writes, region: other, slot: 1}, {kind: reads, region: 0, slot: 2}}},
		{26, 2, []act{{kind: allocs, region: 0}, {kind: drops, region: other, slot: 2}}},
		{29, machines - 1, []act{{kind: reads, region: 0, slot: 1}, {kind: reads, region: other, slot: 0}}},
		{32, machines - 1, []act{{kind: reads, region: 0, slot: 0}, {kind: writes, region: 0, slot: 1}}},
	}
}

// valueOf tells by a cell's value who wrote it.
func valueOf(id, region, slot int64) int64 { return 1000*id + 10*region + slot }

// begun is a cluster in which each of them has read and written, and none has begun its commit.
func begun(t *testing.T, c impl.Cluster, list []aims) impl.Cluster {
	t.Helper()
	for _, one := range list {
		c = do(c, act{kind: begins, id: one.id, home: one.home}).cluster
		for _, a := range one.acts {
			a.id, a.v = one.id, valueOf(one.id, a.region, a.slot)
			o := do(c, a)
			if o.code != 0 {
				t.Fatalf("%+v: %d", a, o.code)
			}
			c = o.cluster
			if a.kind == allocs {
				c, _ = impl.Write(c, one.id, a.region, o.number, valueOf(one.id, a.region, o.number))
			}
		}
	}
	return c
}

// inquest asks what is left behind a new configuration, and counts what it has seen.
type inquest struct {
	t     *testing.T
	start impl.Cluster // a new one
	// How many were lost and not; what was told of a transaction, its Phase when machines died, and its end.
	lost, kept int
	fates      map[string]int
}

func newInquest(t *testing.T, regions, machines int64) *inquest {
	c, _ := impl.NewCluster(regions, machines)
	return &inquest{t: t, start: c, fates: map[string]int{}}
}

func fateOf(told, from, to int64) string {
	return fmt.Sprintf("told %d, from %d to %d", told, from, to)
}

// finished: those that run still begin their commit, and then all go to their end; the last first, if so told.
func (q *inquest) finished(c impl.Cluster, backwards bool) impl.Cluster {
	txs := slices.Clone(c.Txs)
	if backwards {
		slices.Reverse(txs)
	}
	for _, tx := range txs {
		if ends(tx.Phase) {
			continue
		}
		if tx.Phase == phRun {
			c, _ = impl.Commit(c, tx.Id)
		}
		after, code := impl.Finish(c, tx.Id)
		if code != 0 {
			q.t.Fatalf("Finish of %+v: %d\nin %+v", tx, code, c)
		}
		c = after
	}
	return c
}

// has: this machine's cell is as the Set makes it, or is newer than that.
func has(m impl.Machine, s impl.Set) (as, newer bool) {
	cells, _ := plainCopied(m, s.Region)
	one := cells[s.Slot]
	return one == cellOf(s.Version+1, s.Used, false, s.Value), one.Head/4 > s.Version+1
}

// committedToo: one that is committed has the very same Set, which a value cannot tell from another's (as where both drop a cell).
func committedToo(c impl.Cluster, s impl.Set) bool {
	return slices.ContainsFunc(c.Txs, func(tx impl.Tx) bool { return tx.Phase == phCommitted && slices.Contains(tx.Sets, s) })
}

// checkEnd: the transaction is done at all machines of all its regions, or at none.
func (q *inquest) checkEnd(c impl.Cluster, tx impl.Tx) {
	q.t.Helper()
	if !ends(tx.Phase) {
		q.t.Fatalf("it is not at its end: %+v\nin %+v", tx, c)
	}
	for _, s := range tx.Sets {
		for _, m := range c.Places[s.Region].Machines {
			as, newer := has(c.Machines[m], s)
			if tx.Phase == phCommitted && !as && !newer {
				q.t.Fatalf("machine %d lacks %+v of what is committed: %+v\nin %+v", m, s, tx, c)
			}
			if tx.Phase == phAborted && as && !committedToo(c, s) {
				q.t.Fatalf("machine %d has %+v of what is aborted: %+v\nin %+v", m, s, tx, c)
			}
		}
	}
}

// checkAllAlike says by itself what Settled has to say.
func (q *inquest) checkAllAlike(c impl.Cluster) {
	q.t.Helper()
	for region, p := range c.Places {
		first, _ := plainCells(c, int64(region))
		for _, m := range p.Machines {
			cells, _ := plainCopied(c.Machines[m], int64(region))
			locked := slices.ContainsFunc(cells, func(one impl.Cell) bool { return one.Head%2 == 1 })
			if !c.Machines[m].Alive || locked || !slices.Equal(cells, first) {
				q.t.Fatalf("region %d on machine %d is %v, on the primary %v\nin %+v", region, m, cells, first, c)
			}
		}
	}
	for m, one := range c.Machines {
		if len(one.Log) > 0 {
			q.t.Fatalf("machine %d has the Log %+v\nin %+v", m, one.Log, c)
		}
	}
	if !impl.Settled(c) {
		q.t.Fatalf("it is not settled: %+v", c)
	}
}

// checkEnds: every transaction is at its end, and what was told of it when machines died has come true.
func (q *inquest) checkEnds(died, end impl.Cluster) {
	q.t.Helper()
	q.checkAllAlike(end)
	for i, tx := range end.Txs {
		q.checkEnd(end, tx)
		if i >= len(died.Txs) {
			continue
		}
		was := died.Txs[i]
		told := impl.Told(was)
		if told == 1 && tx.Phase != phCommitted || told == 2 && tx.Phase != phAborted {
			q.t.Fatalf("%d was told of %+v, and now it is %+v", told, was, tx)
		}
		q.fates[fateOf(told, was.Phase, tx.Phase)]++
	}
	checkHistory(q.t, q.start, end)
}

// recovered answers the new configuration, and whether no region was lost.
func (q *inquest) recovered(died impl.Cluster) (impl.Cluster, bool) {
	q.t.Helper()
	c := impl.Recover(died)
	if !impl.ClusterOk(c) {
		q.t.Fatalf("it is not right: %+v\nof %+v", c, died)
	}
	lives := func(m int64) bool { return died.Machines[m].Alive }
	gone := func(p impl.Place) bool { return !slices.ContainsFunc(p.Machines, lives) }
	if slices.ContainsFunc(died.Places, gone) {
		want := deepCluster(died)
		if want.Lost = true; !sameCluster(c, want) {
			q.t.Fatalf("with a region lost there comes %+v\nof %+v", c, died)
		}
		q.lost++
		return c, false
	}
	if c.Lost || c.Config != died.Config+1 {
		q.t.Fatalf("with no region lost there comes %+v\nof %+v", c, died)
	}
	q.kept++
	return c, true
}

// killed: with these machines dead behind this step.
func (q *inquest) killed(whole impl.Cluster, machines ...int64) {
	q.t.Helper()
	died := kill(q.t, whole, machines...)
	c, kept := q.recovered(died)
	if !kept {
		return
	}
	for _, backwards := range []bool{false, true} {
		q.checkEnds(died, q.finished(c, backwards))
	}
}

// eachDeath: none, each machine, each two machines.
func (q *inquest) eachDeath(whole impl.Cluster) {
	q.t.Helper()
	q.killed(whole)
	for a := range int64(len(whole.Machines)) {
		q.killed(whole, a)
		for b := range a {
			q.killed(whole, a, b)
		}
	}
}

// along goes through a script, and asks behind each step; next tells which of those under way is the next, by its place among them.
func (q *inquest) along(c impl.Cluster, next func(step, many int) int) {
	q.t.Helper()
	q.eachDeath(c)
	for _, tx := range c.Txs {
		if tx.Phase == phRun {
			c, _ = impl.Commit(c, tx.Id)
		}
	}
	q.eachDeath(c)
	for step := 0; ; step++ {
		way := slices.DeleteFunc(slices.Clone(c.Txs), func(tx impl.Tx) bool { return !underWay(tx.Phase) })
		if len(way) == 0 {
			return
		}
		tx := way[next(step, len(way))]
		after, code := impl.Step(c, tx.Id)
		if code != 0 {
			q.t.Fatalf("Step of %d: %d\nin %+v", tx.Id, code, c)
		}
		c = after
		q.eachDeath(c)
	}
}

// checkSeen: these fates came, each at least so often.
func checkSeen(t *testing.T, fates map[string]int, least int, wanted ...string) {
	t.Helper()
	for _, fate := range wanted {
		if fates[fate] < least {
			t.Errorf("%s: only %d of %v", fate, fates[fate], fates)
		}
	}
}

// All or nothing: with each machine, and each two, dead behind each step of each commit.
func TestPromise12(t *testing.T) {
	fates, lost, kept := map[string]int{}, 0, 0
	for regions := int64(1); regions <= 2; regions++ {
		for machines := int64(3); machines <= 5; machines++ {
			for _, next := range []func(step, many int) int{
				func(step, many int) int { return 0 },               // one after the other
				func(step, many int) int { return step % many },     // turn by turn
				func(step, many int) int { return many - 1 },        // the last first
				func(step, many int) int { return step / 3 % many }, // three steps each
			} {
				q := newInquest(t, regions, machines)
				q.along(begun(t, filled(regions, machines), aimsOf(regions, machines)), next)
				for fate, many := range q.fates {
					fates[fate] += many
				}
				lost, kept = lost+q.lost, kept+q.kept
			}
		}
	}
	checkSeen(t, fates, 20,
		fateOf(0, phRun, phCommitted), fateOf(0, phRun, phAborted),
		fateOf(0, phLock, phCommitted), fateOf(0, phLock, phAborted),
		fateOf(0, phCheck, phCommitted), fateOf(0, phCheck, phAborted),
		fateOf(0, phBackup, phCommitted), fateOf(0, phBackup, phAborted),
		fateOf(0, phPrimary, phCommitted), fateOf(1, phPrimary, phCommitted),
		fateOf(1, phClear, phCommitted), fateOf(1, phCommitted, phCommitted),
		fateOf(2, phUnlock, phAborted), fateOf(2, phAborted, phAborted))
	if lost != 0 || kept < 1000 {
		t.Errorf("%d were lost, %d were not", lost, kept)
	}
}

// everyStep goes through every order of the steps of those under way, and asks behind each.
func (q *inquest) everyStep(c impl.Cluster, been map[string]bool) {
	q.t.Helper()
	key := fmt.Sprint(c)
	if been[key] {
		return
	}
	been[key] = true
	q.eachDeath(c)
	for _, tx := range c.Txs {
		if !underWay(tx.Phase) {
			continue
		}
		after, code := impl.Step(c, tx.Id)
		if code != 0 {
			q.t.Fatalf("Step of %d: %d\nin %+v", tx.Id, code, c)
		}
		q.everyStep(after, been)
	}
}

// Two that want the same cell, in every order of their steps.
func TestAllOrNothingInEveryOrder(t *testing.T) {
	for _, regions := range []int64{1, 2} {
		q := newInquest(t, regions, 4)
		c := begun(t, filled(regions, 4), aimsOf(regions, 4)[:2])
		for _, id := range []int64{20, 23} {
			c, _ = impl.Commit(c, id)
		}
		been := map[string]bool{}
		q.everyStep(c, been)
		if len(been) < 30 {
			t.Errorf("%d clusters", len(been))
		}
		checkSeen(t, q.fates, 5, fateOf(0, phBackup, phCommitted), fateOf(0, phPrimary, phCommitted), fateOf(1, phClear, phCommitted), fateOf(2, phUnlock, phAborted))
	}
}

// One machine, and two: with both dead the region is lost; the one that is left has it alone.
func TestAllOrNothingOnFewMachines(t *testing.T) {
	for machines := int64(1); machines <= 2; machines++ {
		for regions := int64(1); regions <= 2; regions++ {
			q := newInquest(t, regions, machines)
			list := aimsOf(regions, machines)
			for i := range list {
				list[i].home %= machines
			}
			q.along(begun(t, filled(regions, machines), list), func(step, many int) int { return step % many })
			if q.lost == 0 || q.kept == 0 {
				t.Errorf("%d were lost, %d were not", q.lost, q.kept)
			}
		}
	}
}

// longRun is a script by a fixed rule: transactions begin, read, write and commit, machines die between any two steps, and now and then there is a new configuration.
type longRun struct {
	*inquest
	cluster impl.Cluster
	next    func(below uint64) int64
	told    map[int64]int64
	id      int64
	deaths  int
}

func newLongRun(t *testing.T, seed int) *longRun {
	next := byRule(seed + 700)
	regions, machines := 1+next(4), 3+next(6)
	return &longRun{inquest: newInquest(t, regions, machines), cluster: filled(regions, machines), next: next, told: map[int64]int64{}, id: 1}
}

// noteTold: what was told stays told.
func (r *longRun) noteTold() {
	r.t.Helper()
	for _, tx := range r.cluster.Txs {
		told := impl.Told(tx)
		if before := r.told[tx.Id]; before != 0 && told != before {
			r.t.Fatalf("%d was told, and now %d: %+v\nin %+v", before, told, tx, r.cluster)
		}
		r.told[tx.Id] = told
	}
}

func (r *longRun) begin() {
	upper := impl.Upper(r.cluster)
	if len(upper) == 0 || len(r.cluster.Txs) > 40 {
		return
	}
	r.id += 1 + r.next(3)
	r.cluster = do(r.cluster, act{kind: begins, id: r.id, home: upper[r.next(uint64(len(upper)))]}).cluster
}

// act: a code leaves the cluster as it was, or with a note more.
func (r *longRun) act() {
	tx := r.cluster.Txs[r.next(uint64(len(r.cluster.Txs)))]
	if tx.Phase != phRun {
		r.cluster, _ = impl.Step(r.cluster, tx.Id)
		return
	}
	if r.next(5) == 0 {
		r.cluster, _ = impl.Commit(r.cluster, tx.Id)
		return
	}
	a := act{kind: int(1 + r.next(4)), id: tx.Id, region: r.next(uint64(len(r.cluster.Places))), slot: r.next(6)}
	a.v = valueOf(a.id, a.region, a.slot)
	r.cluster = do(r.cluster, a).cluster
}

// turn says false when a region is lost.
func (r *longRun) turn() bool {
	r.t.Helper()
	defer r.noteTold()
	switch n := r.next(100); {
	case n < 12:
		r.begin()
	case n < 15 && r.deaths < len(r.cluster.Machines)-1:
		if after, ok := impl.Kill(r.cluster, r.next(uint64(len(r.cluster.Machines)))); ok {
			r.cluster = after
			r.deaths++
		}
	case n < 17:
		after, kept := r.recovered(r.cluster)
		r.cluster = after
		return kept
	default:
		r.act()
	}
	return true
}

func (r *longRun) run() bool {
	for range 400 {
		if !r.turn() {
			return false
		}
	}
	died := r.cluster
	after, kept := r.recovered(died)
	if kept {
		r.checkEnds(died, r.finished(after, r.next(2) == 0))
	}
	return kept
}

// Whole scripts with deaths and new configurations in them.
func TestAllOrNothingOverLongRuns(t *testing.T) {
	fates, lost, configs := map[string]int{}, 0, 0
	for seed := range 150 {
		r := newLongRun(t, seed)
		if !r.run() {
			lost++
		}
		for fate, many := range r.fates {
			fates[fate] += many
		}
		configs += r.kept
	}
	checkSeen(t, fates, 5,
		fateOf(0, phRun, phAborted), fateOf(0, phBackup, phCommitted), fateOf(1, phClear, phCommitted),
		fateOf(1, phCommitted, phCommitted), fateOf(2, phAborted, phAborted))
	if lost < 5 || lost > 100 || configs < 300 {
		t.Errorf("%d of the runs were lost; there were %d new configurations; %v", lost, configs, fates)
	}
}

// checkRecoveryStays: no argument is changed, the same is answered each time, and no answer shares memory with an argument or another.
func checkRecoveryStays(t *testing.T, start impl.Cluster) {
	t.Helper()
	c, stays := guardedCluster(start)
	calls := []func() impl.Cluster{func() impl.Cluster { return impl.Recover(c) }}
	for _, m := range []int64{-1, 0, 1, 3, 4, 8} {
		calls = append(calls, func() impl.Cluster { after, _ := impl.Kill(c, m); return after })
	}
	for i, call := range calls {
		settled := impl.Settled(c)
		first, second := call(), call()
		if !sameCluster(first, second) || impl.Settled(c) != settled {
			t.Errorf("call %d answers %+v, and then %+v", i, first, second)
		}
		if !stays() {
			t.Errorf("an argument is changed by call %d: %+v", i, c)
		}
		lists := append(listsOfCluster(first), outerLists(first)...)
		lists = append(append(lists, listsOfCluster(second)...), outerLists(second)...)
		checkListsApart(t, lists)
		if !stays() {
			t.Errorf("an answer of call %d shares memory with an argument: %+v", i, c)
		}
	}
}

func TestRecoveryStaysAndSharesNothing(t *testing.T) {
	list := append(wrongWholes()[:12], impl.Cluster{}, ordinaryCluster(), runningCluster(), settledCluster())
	for phase := int64(phRun); phase <= phAborted; phase++ {
		for _, one := range handKnowings[3:6] {
			c := commitCluster(wideTx(phase), impl.Tx{Id: 30, Home: 2, Phase: phRun, Sets: wideSets[2]})
			one.given(&c)
			for _, dead := range []int64{0, 3, 4} {
				list = append(list, kill(t, c, dead))
			}
		}
	}
	for _, dead := range [][]int64{nil, {0}, {1, 2}, {0, 1, 2}} {
		list = append(list, kill(t, handCluster(t, 7), dead...))
	}
	last := kill(t, handCluster(t, 7), 0)
	last.Config = lastId
	for _, c := range append(list, last) {
		checkRecoveryStays(t, c)
	}
}

// Lists of the argument that share memory themselves: those of the answer don't.
func TestRecoveryOfSharedLists(t *testing.T) {
	cells, place, cleared, log := openCells(), []int64{1, 0, 2}, []int64{4}, []impl.Record{{Kind: rcLock, Tx: 20, Region: 0, Sets: wideSets[0]}}
	copies := []impl.Copy{{Region: 0, Cells: cells}, {Region: 1, Cells: cells}}
	c := impl.Cluster{Config: 1, Clock: 9, Places: []impl.Place{{Machines: place}, {Machines: place}}}
	for range 5 {
		c.Machines = append(c.Machines, impl.Machine{Alive: true, Copies: copies, Log: log, Cleared: cleared})
	}
	tx := wideTx(phBackup)
	tx.Reads, tx.Sets = nil, wideSets[0]
	c.Txs = []impl.Tx{tx, {Id: 21, Home: 3, Phase: phRun, Sets: wideSets[0]}}
	checkRecoveryStays(t, c)
	checkRecoveryStays(t, kill(t, c, 1))
	killed := c
	killed.Machines = slices.Clone(c.Machines)
	killed.Machines[1].Alive, killed.Machines[2].Alive = false, false
	checkRecoveryStays(t, killed)
}
