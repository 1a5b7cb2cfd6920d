package tests

import (
	"math"
	"slices"
	"testing"

	"loop.example/g00153/impl"
)

// The phases stand here as the document numbers them.
const (
	phRun       = 1
	phLock      = 2
	phCheck     = 3
	phBackup    = 4
	phPrimary   = 5
	phClear     = 6
	phCommitted = 7
	phUnlock    = 8
	phAborted   = 9
)

// committing is one of the chapter's calls.
type committing struct {
	name string
	call func(c impl.Cluster, id int64) (impl.Cluster, int64)
}

var (
	commits  = committing{"Commit", impl.Commit}
	steps    = committing{"Step", impl.Step}
	finishes = committing{"Finish", impl.Finish}
)

func allCommitting() []committing { return []committing{commits, steps, finishes} }

// What follows says the chapter once more, by a plan of all steps in a row.

// chore is a step: number so-and-so of its phase.
type chore struct {
	phase, number, region, machine int64
	note                           impl.Note
}

// plainPlan are all steps from PhLock on, if all goes well. What is at once falls out of it: a phase with nothing to do has no chore.
func plainPlan(c impl.Cluster, tx impl.Tx) []chore {
	var plan []chore
	for phase := int64(phLock); phase <= phClear; phase++ {
		number := int64(0)
		add := func(region int64, machines []int64, n impl.Note) {
			for _, m := range machines {
				plan = append(plan, chore{phase, number, region, m, n})
				number++
			}
		}
		if phase == phCheck {
			for _, n := range plainChecks(tx) {
				add(n.Region, c.Places[n.Region].Machines[:1], n)
			}
			continue
		}
		for _, region := range plainWants(tx) {
			machines := c.Places[region].Machines
			switch phase {
			case phLock, phPrimary:
				machines = machines[:1]
			case phBackup:
				machines = machines[1:]
			}
			add(region, machines, impl.Note{})
		}
	}
	return append(plan, chore{phase: phCommitted})
}

func plainRetreat(c impl.Cluster, tx impl.Tx) []chore {
	var plan []chore
	for i, region := range plainWants(tx) {
		plan = append(plan, chore{phase: phUnlock, number: int64(i), region: region, machine: c.Places[region].Machines[0]})
	}
	return append(plan, chore{phase: phAborted})
}

// plainPlanFrom are the steps that a transaction has still to do, its end the last of them.
func plainPlanFrom(c impl.Cluster, tx impl.Tx) []chore {
	plan := plainPlan(c, tx)
	if tx.Phase >= phUnlock {
		plan = plainRetreat(c, tx)
	}
	behind := func(one chore) bool {
		return one.phase < tx.Phase || one.phase == tx.Phase && one.number < tx.Done
	}
	return slices.DeleteFunc(plan, behind)
}

// plainChore: the machine behind a chore, whether it went well, and whether there was room.
func plainChore(m impl.Machine, tx impl.Tx, one chore, primary int64) (impl.Machine, bool, bool) {
	room := true
	sets := plainSetsOf(tx, one.region)
	cells, _ := plainCopied(m, one.region)
	record := impl.Record{Tx: tx.Id, Region: one.region, Sets: sets}
	switch one.phase {
	case phLock:
		locked, ok := plainLock(cells, sets)
		if !ok {
			return m, false, true
		}
		record.Kind = 1
		m, _ = plainReplace(m, one.region, locked)
		m, room = plainAppend(m, record)
	case phCheck:
		return m, cells[one.note.Slot].Head/4 == one.note.Version && cells[one.note.Slot].Head%2 == 0, true
	case phBackup:
		record.Kind = 2
		m, room = plainAppend(m, record)
	case phPrimary:
		installed, _ := plainInstall(cells, sets)
		m, _ = plainReplace(m, one.region, installed)
		m = plainTurn(m, tx.Id, one.region)
	case phClear:
		if one.machine != primary {
			installed, _ := plainInstall(cells, sets)
			m, _ = plainReplace(m, one.region, installed)
		}
		m, room = plainClear(m, tx.Id, one.region, true)
	case phUnlock:
		if _, found := plainLogged(m, tx.Id, one.region, 1); found {
			m, _ = plainReplace(m, one.region, plainUnlock(cells, sets))
			m, room = plainClear(m, tx.Id, one.region, false)
		}
	}
	return m, true, room
}

// plainMay: the codes ahead of those that hang on the step itself.
func plainMay(c impl.Cluster, id int64) (impl.Tx, int64) {
	tx, code := plainAhead(c, id)
	if code == 0 || code == exPhase {
		code = 0
		if tx.Phase == phRun || tx.Phase == phCommitted || tx.Phase == phAborted {
			code = exPhase
		}
	}
	return tx, code
}

func plainStep(c impl.Cluster, id int64) (impl.Cluster, int64) {
	tx, code := plainMay(c, id)
	if code == exBad {
		return impl.Cluster{}, exBad
	}
	if code != 0 {
		return c, code
	}
	after, plan := deepCluster(c), plainPlanFrom(c, tx)
	first, stamped := plan[0], tx.Phase == phLock
	asks := first.phase != phCommitted && first.phase != phAborted
	if asks && !c.Machines[first.machine].Alive {
		return c, exDown
	}
	if c.Clock == lastStamp {
		return c, exFull
	}
	if asks {
		m, well, room := plainChore(after.Machines[first.machine], tx, first, c.Places[first.region].Machines[0])
		if !room {
			return c, exFull
		}
		after.Machines[first.machine] = deepMachine(m)
		plan = plan[1:]
		if !well {
			plan = plainRetreat(c, tx)
		}
		stamped = stamped && (first.phase > phLock || well && plan[0].phase > phLock)
	}
	if stamped {
		after.Clock++
		tx.Stamp = after.Clock
	}
	tx.Phase, tx.Done = plan[0].phase, plan[0].number
	return withTx(after, tx), 0
}

func plainCommit(c impl.Cluster, id int64) (impl.Cluster, int64) {
	tx, code := plainAhead(c, id)
	if code == exBad {
		return impl.Cluster{}, exBad
	}
	if code != 0 {
		return c, code
	}
	tx.Phase, tx.Done = phLock, 0
	return withTx(c, tx), 0
}

func plainFinish(c impl.Cluster, id int64) (impl.Cluster, int64) {
	for {
		if tx, found := plainFind(c, id); found && (tx.Phase == phCommitted || tx.Phase == phAborted) {
			return c, 0
		}
		next, code := plainStep(c, id)
		if code != 0 {
			return next, code
		}
		c = next
	}
}

func plainTold(tx impl.Tx) int64 {
	if !plainTxOk(tx) {
		return -1
	}
	if tx.Phase == phPrimary && tx.Done >= 1 {
		return 1
	}
	return []int64{phRun: 0, phLock: 0, phCheck: 0, phBackup: 0, phPrimary: 0, phClear: 1, phCommitted: 1, phUnlock: 2, phAborted: 2}[tx.Phase]
}

// checkCalled holds a call against an answer that is told by hand, and hands on what came.
func checkCalled(t *testing.T, what committing, c impl.Cluster, id int64, want impl.Cluster, code int64) impl.Cluster {
	t.Helper()
	got, gotCode := what.call(c, id)
	if gotCode != code || !sameCluster(got, want) {
		t.Errorf("%s of %d in %+v\n= %+v, %d\nwant %+v, %d", what.name, id, c, got, gotCode, want, code)
	}
	return got
}

// checkCalledCode: with a code the cluster is as it was; Finish of one that can do no step answers as Step does.
func checkCalledCode(t *testing.T, what committing, c impl.Cluster, id int64, code int64) {
	t.Helper()
	want := c
	if code == exBad {
		want = impl.Cluster{}
	}
	checkCalled(t, what, c, id, want, code)
}

// checkPlain holds each of the three calls against the plain answer, and hands on what came of Step.
func checkPlain(t *testing.T, c impl.Cluster, id int64) (impl.Cluster, int64) {
	t.Helper()
	want, code := plainCommit(c, id)
	checkCalled(t, commits, c, id, want, code)
	want, code = plainFinish(c, id)
	checkCalled(t, finishes, c, id, want, code)
	want, code = plainStep(c, id)
	return checkCalled(t, steps, c, id, want, code), code
}

// commitCluster: region 0 is on the machines 1, 0, 2; region 1 on 3 alone; region 2 on 2, 4. All copies are openCells; the Logs have some records of others.
func commitCluster(txs ...impl.Tx) impl.Cluster {
	c := clusterOn(placesOf([]int64{1, 0, 2}, []int64{3}, []int64{2, 4}), aliveAs(5, 0xff), txs...)
	openAll(&c)
	return c
}

func openAll(c *impl.Cluster) {
	for region, p := range c.Places {
		for _, m := range p.Machines {
			setCells(c, int64(region), m, openCells())
		}
	}
}

// openNote is of a cell as openCells has it.
func openNote(region, slot int64) impl.Note {
	one := openCells()[slot]
	return impl.Note{Region: region, Slot: slot, Version: one.Head / 4, Value: one.Value, Used: one.Head%4 == 2}
}

func openSet(region, slot, value int64, used bool) impl.Set {
	return impl.Set{Region: region, Slot: slot, Value: value, Used: used, Version: openCells()[slot].Head / 4}
}

// wideTx writes a cell and drops one of region 0, writes one of region 1, takes one of region 2, and reads one more of each.
func wideTx(phase int64) impl.Tx {
	return impl.Tx{
		Id: 20, Home: 0, Phase: phase, Stamp: 3,
		Reads: []impl.Note{
			openNote(0, 1), openNote(0, 2), openNote(0, 3), openNote(1, 0), openNote(1, 3), openNote(2, 0), openNote(2, 5),
		},
		Sets: []impl.Set{openSet(0, 1, -60, true), openSet(0, 2, 0, false), openSet(1, 3, 7, true), openSet(2, 0, 5, true)},
	}
}

// What wideTx does to a region's cells.
var (
	wideLocked = map[int64][]impl.Cell{
		0: withCell(withCell(openCells(), 1, cellOf(3, true, true, -7)), 2, cellOf(4, true, true, 40)),
		1: withCell(openCells(), 3, cellOf(12, true, true, lastValue)),
		2: withCell(openCells(), 0, cellOf(0, false, true, 0)),
	}
	wideInstalled = map[int64][]impl.Cell{
		0: withCell(withCell(openCells(), 1, cellOf(4, true, false, -60)), 2, cellOf(5, false, false, 0)),
		1: withCell(openCells(), 3, cellOf(13, true, false, 7)),
		2: withCell(openCells(), 0, cellOf(1, true, false, 5)),
	}
	wideSets = map[int64][]impl.Set{
		0: wideTx(phRun).Sets[:2], 1: wideTx(phRun).Sets[2:3], 2: wideTx(phRun).Sets[3:],
	}
)

// byHand goes through a commit and tells of each step what has to be behind it.
type byHand struct {
	t       *testing.T
	c, want impl.Cluster
}

// step: the machine that is asked gets other cells (nil: stays), and its Log and Cleared are changed.
func (h *byHand) step(phase, done, told, region, machine int64, cells []impl.Cell, change func(m *impl.Machine)) {
	h.t.Helper()
	if cells != nil {
		setCells(&h.want, region, machine, cells)
	}
	if change != nil {
		change(&h.want.Machines[machine])
	}
	h.want.Txs[0].Phase, h.want.Txs[0].Done = phase, done
	h.c = checkCalled(h.t, steps, h.c, 20, h.want, 0)
	if got := impl.Told(h.c.Txs[0]); got != told {
		h.t.Errorf("in phase %d with %d done it is told %d, want %d", phase, done, got, told)
	}
	checkClusterOk(h.t, h.c, true)
}

func logs(kind, region int64) func(m *impl.Machine) {
	return func(m *impl.Machine) {
		m.Log = append(m.Log, impl.Record{Kind: kind, Tx: 20, Region: region, Sets: wideSets[region]})
	}
}

func turns(region int64) func(m *impl.Machine) {
	return func(m *impl.Machine) {
		for i := range m.Log {
			if m.Log[i].Tx == 20 && m.Log[i].Region == region {
				m.Log[i].Kind = 3
			}
		}
	}
}

func strikes(region int64) func(m *impl.Machine) {
	return func(m *impl.Machine) {
		m.Log = slices.DeleteFunc(m.Log, func(r impl.Record) bool { return r.Tx == 20 && r.Region == region })
	}
}

func clears(region int64, first bool) func(m *impl.Machine) {
	return func(m *impl.Machine) {
		strikes(region)(m)
		if first {
			m.Cleared = append(m.Cleared, 20)
		}
	}
}

// newByHand begins the commit.
func newByHand(t *testing.T, c impl.Cluster) *byHand {
	h := &byHand{t: t, c: c, want: deepCluster(c)}
	h.want.Txs[0].Phase, h.want.Txs[0].Done = phLock, 0
	h.c = checkCalled(t, commits, h.c, 20, h.want, 0)
	return h
}

func TestCommitByHand(t *testing.T) {
	c := commitCluster(wideTx(phRun))
	c.Txs[0].Done = 77
	h := newByHand(t, c)
	h.step(phLock, 1, 0, 0, 1, wideLocked[0], logs(1, 0))
	h.step(phLock, 2, 0, 1, 3, wideLocked[1], logs(1, 1))
	// The Clock was 9.
	h.want.Clock, h.want.Txs[0].Stamp = 10, 10
	h.step(phCheck, 0, 0, 2, 2, wideLocked[2], logs(1, 2))
	h.step(phCheck, 1, 0, 0, 1, nil, nil)
	h.step(phCheck, 2, 0, 1, 3, nil, nil)
	h.step(phBackup, 0, 0, 2, 2, nil, nil)
	h.step(phBackup, 1, 0, 0, 0, nil, logs(2, 0))
	h.step(phBackup, 2, 0, 0, 2, nil, logs(2, 0))
	h.step(phPrimary, 0, 0, 2, 4, nil, logs(2, 2))
	h.step(phPrimary, 1, 1, 0, 1, wideInstalled[0], turns(0))
	h.step(phPrimary, 2, 1, 1, 3, wideInstalled[1], turns(1))
	h.step(phClear, 0, 1, 2, 2, wideInstalled[2], turns(2))
	h.step(phClear, 1, 1, 0, 1, nil, clears(0, true))
	h.step(phClear, 2, 1, 0, 0, wideInstalled[0], clears(0, true))
	h.step(phClear, 3, 1, 0, 2, wideInstalled[0], clears(0, true))
	h.step(phClear, 4, 1, 1, 3, nil, clears(1, true))
	h.step(phClear, 5, 1, 2, 2, nil, clears(2, false))
	h.step(phCommitted, 0, 1, 2, 4, wideInstalled[2], clears(2, true))
	checkCalledCode(t, steps, h.c, 20, exPhase)
	checkCalled(t, finishes, h.c, 20, h.c, 0)
	// Of the former records nothing is missed.
	for m, one := range h.c.Machines {
		if !slices.EqualFunc(one.Log, recordsOf(m%4), sameRecord) {
			t.Errorf("the Log of machine %d is %+v", m, one.Log)
		}
	}
}

// A cell of the last region is not as it was when it was read: what is locked by then is unlocked again.
func TestLockThatFailsByHand(t *testing.T) {
	for _, one := range []impl.Cell{
		cellOf(0, false, true, 0), cellOf(1, true, false, 4), cellOf(1, true, true, 4), cellOf(lastVersion, false, false, 0), cellOf(0, true, true, 9),
	} {
		h := newByHand(t, setPrimary(commitCluster(wideTx(phRun)), 2, 0, one))
		h.step(phLock, 1, 0, 0, 1, wideLocked[0], logs(1, 0))
		h.step(phLock, 2, 0, 1, 3, wideLocked[1], logs(1, 1))
		h.step(phUnlock, 0, 2, 2, 2, nil, nil)
		h.step(phUnlock, 1, 2, 0, 1, openCells(), strikes(0))
		h.step(phUnlock, 2, 2, 1, 3, openCells(), strikes(1))
		h.step(phAborted, 0, 2, 2, 2, nil, nil)
		checkCalledCode(t, steps, h.c, 20, exPhase)
	}
}

// One cell of several of a region is enough, and none of the others is locked then.
func TestLockOfOneRegionIsAllOrNothing(t *testing.T) {
	for slot := int64(1); slot <= 2; slot++ {
		for _, by := range []int64{1, 4, 5, -4} {
			c := commitCluster(wideTx(phLock))
			one := openCells()[slot]
			one.Head += by
			c = setPrimary(c, 0, slot, one)
			h := &byHand{t: t, c: c, want: deepCluster(c)}
			h.step(phUnlock, 0, 2, 0, 1, nil, nil)
			h.step(phUnlock, 1, 2, 0, 1, nil, nil)
			h.step(phUnlock, 2, 2, 1, 3, nil, nil)
			h.step(phAborted, 0, 2, 2, 2, nil, nil)
		}
	}
}

// Each of the three notes that are checked, with another version or a lock.
func TestCheckThatFailsByHand(t *testing.T) {
	for number, n := range plainChecks(wideTx(phRun)) {
		for _, by := range []int64{1, -4, -3, 4, 5} {
			one := openCells()[n.Slot]
			one.Head += by
			if one.Head < 0 {
				continue
			}
			h := newByHand(t, setPrimary(commitCluster(wideTx(phRun)), n.Region, n.Slot, one))
			for range 3 {
				h.c, _ = impl.Step(h.c, 20)
			}
			h.want = deepCluster(h.c)
			for done := range int64(number) {
				h.step(phCheck, done+1, 0, 0, 0, nil, nil)
			}
			h.step(phUnlock, 0, 2, 0, 0, nil, nil)
			for region := range int64(3) {
				cells, _ := plainCells(h.want, region)
				phase, done := int64(phUnlock), region+1
				if region == 2 {
					phase, done = phAborted, 0
				}
				h.step(phase, done, 2, region, h.c.Places[region].Machines[0], plainUnlock(cells, wideSets[region]), strikes(region))
			}
		}
	}
}

// A note's value and use do not count, nor do the backups, nor the same slot of other regions.
func TestCheckAsksTheVersionAndTheLockAlone(t *testing.T) {
	tx := impl.Tx{Id: 20, Home: 0, Phase: phCheck, Reads: []impl.Note{openNote(2, 3)}}
	tx.Reads[0].Value, tx.Reads[0].Used = 123, false
	c := commitCluster(tx)
	setCells(&c, 2, 4, slices.Repeat([]impl.Cell{cellOf(7, true, true, 1)}, howManySlots))
	setCells(&c, 0, 2, slices.Repeat([]impl.Cell{cellOf(7, true, true, 1)}, howManySlots))
	for slot := range int64(howManySlots) {
		if slot != 3 {
			c = setPrimary(c, 2, slot, cellOf(8, true, true, 2))
		}
	}
	checkCalled(t, steps, c, 20, changedCluster(c, func(c *impl.Cluster) { c.Txs[0].Phase = phCommitted }), 0)
	c = setPrimary(c, 2, 3, cellOf(12, false, true, 0))
	checkCalled(t, steps, c, 20, changedCluster(c, func(c *impl.Cluster) { c.Txs[0].Phase = phAborted }), 0)
}

// Without the RcLock record nothing is unlocked, and nothing is struck from the Log.
func TestUnlockOnlyWhereTheRecordIs(t *testing.T) {
	record := func(kind, tx, region int64) impl.Record {
		return impl.Record{Kind: kind, Tx: tx, Region: region, Sets: wideSets[0][:1]}
	}
	record2 := record(1, 20, 2)
	record2.Sets = wideSets[2]
	for i, log := range [][]impl.Record{
		nil, {record(2, 20, 0)}, {record(3, 20, 0)}, {record(1, 19, 0)}, {record(1, 21, 0), record2}, {record(2, 20, 0), record(3, 20, 0)},
		{record(1, 20, 0)}, {record(1, 19, 0), record(1, 20, 0), record2}, {record(2, 20, 0), record(1, 20, 0), record(3, 20, 0), record(1, 20, 0)},
	} {
		c := commitCluster(wideTx(phUnlock))
		c.Machines[1].Log = log
		// Slot 5 is locked for another one.
		locked := withCell(wideLocked[0], 5, cellOf(lastSetVersion, true, true, -lastValue))
		setCells(&c, 0, 1, locked)
		want := changedCluster(c, func(c *impl.Cluster) { c.Txs[0].Done = 1 })
		if i >= 6 {
			setCells(&want, 0, 1, withCell(openCells(), 5, locked[5]))
			strikes(0)(&want.Machines[1])
		}
		checkCalled(t, steps, c, 20, want, 0)
	}
}

// Only cells with the Set's version are unlocked.
func TestUnlockOfOtherVersions(t *testing.T) {
	c := commitCluster(wideTx(phUnlock))
	logs(1, 0)(&c.Machines[1])
	setCells(&c, 0, 1, withCell(wideLocked[0], 1, cellOf(4, true, true, 8)))
	want := changedCluster(c, func(c *impl.Cluster) { c.Txs[0].Done = 1 })
	strikes(0)(&want.Machines[1])
	setCells(&want, 0, 1, withCell(openCells(), 1, cellOf(4, true, true, 8)))
	checkCalled(t, steps, c, 20, want, 0)
}

// What has a later version already stays, at the primary and at a backup.
func TestInstallOverLaterVersions(t *testing.T) {
	later := withCell(openCells(), 1, cellOf(9, true, false, 99))
	installed := withCell(wideInstalled[0], 1, cellOf(9, true, false, 99))
	for _, p := range []struct{ phase, done, machine int64 }{{phPrimary, 0, 1}, {phClear, 1, 0}, {phClear, 2, 2}} {
		tx := wideTx(p.phase)
		tx.Done = p.done
		c := commitCluster(tx)
		setCells(&c, 0, p.machine, later)
		want := changedCluster(c, func(c *impl.Cluster) { c.Txs[0].Done++ })
		setCells(&want, 0, p.machine, installed)
		if p.phase == phClear {
			clears(0, true)(&want.Machines[p.machine])
		}
		checkCalled(t, steps, c, 20, want, 0)
	}
}

// The primary installs nothing when it is cleared, whatever its cells are.
func TestClearAtThePrimaryInstallsNothing(t *testing.T) {
	c := commitCluster(wideTx(phClear))
	logs(3, 0)(&c.Machines[1])
	logs(3, 2)(&c.Machines[1])
	want := changedCluster(c, func(c *impl.Cluster) { c.Txs[0].Done = 1 })
	clears(0, true)(&want.Machines[1])
	checkCalled(t, steps, c, 20, want, 0)
}

// A Set that is not Used may have a value; it is logged as it is, and the cell gets 0.
func TestSetsThatAreNotUsed(t *testing.T) {
	tx := impl.Tx{Id: 20, Home: 0, Phase: phLock, Sets: []impl.Set{openSet(1, 1, 55, false)}}
	c := commitCluster(tx)
	c, code := impl.Step(c, 20)
	log := c.Machines[3].Log
	if code != 0 || len(log) != 4 || !sameRecord(log[3], impl.Record{Kind: 1, Tx: 20, Region: 1, Sets: tx.Sets}) {
		t.Fatalf("%d, and the Log is %+v", code, log)
	}
	c, code = impl.Finish(c, 20)
	cells, _ := impl.Cells(c, 1)
	if code != 0 || c.Txs[0].Phase != phCommitted || !slices.Equal(cells, withCell(openCells(), 1, cellOf(4, false, false, 0))) {
		t.Errorf("%d, %+v, and the cells are %v", code, c.Txs, cells)
	}
}

// stand is where a transaction is.
type stand struct{ phase, done int64 }

// checkStands steps a transaction on from PhLock, tells where it stands behind each step, and looks whether the last of them is its end.
func checkStands(t *testing.T, c impl.Cluster, id int64, stands ...stand) {
	t.Helper()
	var came []stand
	for range 60 {
		next, code := checkPlain(t, c, id)
		if code != 0 {
			break
		}
		c = next
		tx, _ := impl.Find(c, id)
		came = append(came, stand{tx.Phase, tx.Done})
	}
	if !slices.Equal(came, stands) {
		t.Errorf("it stands in %v, want %v", came, stands)
	}
	checkCalledCode(t, steps, c, id, exPhase)
}

// What is at once, in clusters whose regions have no backup, and for transactions that lack Sets, notes, or both.
func TestAtOnce(t *testing.T) {
	alone := clusterOn(placesOf([]int64{0}, []int64{0}), []bool{true})
	openAll(&alone)
	with := func(c impl.Cluster, reads []impl.Note, sets ...impl.Set) impl.Cluster {
		c = deepCluster(c)
		c.Txs = []impl.Tx{{Id: 8, Home: 0, Phase: phLock, Reads: reads, Sets: sets}}
		return c
	}
	one, two := []impl.Note{openNote(0, 3)}, []impl.Note{openNote(0, 3), openNote(1, 1)}
	set0, set1 := openSet(0, 1, 4, true), openSet(1, 2, 4, true)
	// With neither, and with notes alone: the first note is looked at in the call that finds PhLock at its end.
	checkStands(t, with(alone, nil), 8, stand{phCommitted, 0})
	checkStands(t, with(alone, one), 8, stand{phCommitted, 0})
	checkStands(t, with(alone, two), 8, stand{phCheck, 1}, stand{phCommitted, 0})
	checkStands(t, with(alone, []impl.Note{openNote(0, 3), openNote(1, 1), openNote(1, 4)}), 8, stand{phCheck, 1}, stand{phCheck, 2}, stand{phCommitted, 0})
	// Neither notes to be checked nor backups: from PhLock to PhPrimary.
	checkStands(t, with(alone, nil, set0), 8, stand{phPrimary, 0}, stand{phClear, 0}, stand{phCommitted, 0})
	checkStands(t, with(alone, []impl.Note{openNote(0, 1)}, set0), 8, stand{phPrimary, 0}, stand{phClear, 0}, stand{phCommitted, 0})
	checkStands(t, with(alone, nil, set0, set1), 8, stand{phLock, 1}, stand{phPrimary, 0}, stand{phPrimary, 1}, stand{phClear, 0}, stand{phClear, 1}, stand{phCommitted, 0})
	checkStands(t, with(alone, one, set1), 8, stand{phCheck, 0}, stand{phPrimary, 0}, stand{phClear, 0}, stand{phCommitted, 0})
	checkStands(t, with(alone, two, set0), 8, stand{phCheck, 0}, stand{phCheck, 1}, stand{phPrimary, 0}, stand{phClear, 0}, stand{phCommitted, 0})
	// Region 0 has two backups, region 1 none.
	c := commitCluster()
	checkStands(t, with(c, nil, set0), 8, stand{phBackup, 0}, stand{phBackup, 1}, stand{phPrimary, 0}, stand{phClear, 0},
		stand{phClear, 1}, stand{phClear, 2}, stand{phCommitted, 0})
	checkStands(t, with(c, nil, set1), 8, stand{phPrimary, 0}, stand{phClear, 0}, stand{phCommitted, 0})
	checkStands(t, with(c, one, set0, set1), 8, stand{phLock, 1}, stand{phCheck, 0}, stand{phBackup, 0}, stand{phBackup, 1}, stand{phPrimary, 0},
		stand{phPrimary, 1}, stand{phClear, 0}, stand{phClear, 1}, stand{phClear, 2}, stand{phClear, 3}, stand{phCommitted, 0})
}

// A note that is not as it was, and no Sets: there is nothing to unlock.
func TestAbortedAtOnce(t *testing.T) {
	reads := []impl.Note{openNote(0, 3), openNote(1, 1)}
	for _, later := range []int64{0, 1} {
		c := commitCluster(impl.Tx{Id: 20, Home: 0, Phase: phLock, Reads: reads})
		c = setPrimary(c, later, reads[later].Slot, cellOf(77, true, false, 1))
		want := changedCluster(c, func(c *impl.Cluster) {
			c.Clock, c.Txs[0].Stamp, c.Txs[0].Phase, c.Txs[0].Done = 10, 10, phCheck, 1
		})
		if later == 0 {
			want.Txs[0].Phase, want.Txs[0].Done = phAborted, 0
			checkCalled(t, steps, c, 20, want, 0)
			continue
		}
		c = checkCalled(t, steps, c, 20, want, 0)
		want.Txs[0].Phase, want.Txs[0].Done = phAborted, 0
		checkCalled(t, steps, c, 20, want, 0)
	}
}

// Wherever a transaction is put: with Done at the end of its phase and far beyond it, the call goes on to the first step there is, and does it.
func TestCallsThatFindTheirPhaseAtTheEnd(t *testing.T) {
	for _, p := range []struct {
		phase int64
		ends  []int64
		then  stand
	}{
		{phLock, []int64{3, 4, 999, 1000}, stand{phCheck, 1}}, {phCheck, []int64{3, 4, 999, 1000}, stand{phBackup, 1}},
		{phBackup, []int64{3, 4, 999, 1000}, stand{phPrimary, 1}}, {phPrimary, []int64{3, 4, 999, 1000}, stand{phClear, 1}},
		{phClear, []int64{6, 7, 999, 1000}, stand{phCommitted, 0}}, {phUnlock, []int64{3, 4, 999, 1000}, stand{phAborted, 0}},
	} {
		for _, end := range p.ends {
			tx := wideTx(p.phase)
			tx.Done = end
			c, code := checkPlain(t, commitCluster(tx), 20)
			if code != 0 || (stand{c.Txs[0].Phase, c.Txs[0].Done}) != p.then {
				t.Errorf("phase %d with %d done: %d, and it is %+v", p.phase, end, code, c.Txs[0])
			}
			if stamped := c.Txs[0].Stamp == 10 && c.Clock == 10; stamped != (p.phase == phLock) {
				t.Errorf("phase %d: the Clock is %d, the Stamp %d", p.phase, c.Clock, c.Txs[0].Stamp)
			}
		}
	}
	// Without Sets and notes every phase is at its end, whatever is done.
	for phase := int64(phLock); phase <= phUnlock; phase++ {
		for _, done := range []int64{0, 1, 1000} {
			c := commitCluster(impl.Tx{Id: 20, Home: 0, Phase: phase, Done: done})
			end := int64(phCommitted)
			if phase == phUnlock {
				end = phAborted
			}
			if phase == phCommitted {
				checkCalledCode(t, steps, c, 20, exPhase)
				continue
			}
			got, code := checkPlain(t, c, 20)
			if code != 0 || got.Txs[0].Phase != end || got.Txs[0].Done != 0 {
				t.Errorf("phase %d with %d done, but nothing to do: %d, %+v", phase, done, code, got.Txs)
			}
		}
	}
}

func TestCommitFromEveryPhase(t *testing.T) {
	for phase := int64(phRun); phase <= phAborted; phase++ {
		for _, done := range []int64{0, 1, 1000} {
			for _, tx := range []impl.Tx{wideTx(phase), {Id: 20, Home: 0, Phase: phase, Stamp: 9}} {
				tx.Done = done
				c := commitCluster(tx)
				if phase != phRun {
					checkCalledCode(t, commits, c, 20, exPhase)
					continue
				}
				want := changedCluster(c, func(c *impl.Cluster) { c.Txs[0].Phase, c.Txs[0].Done = phLock, 0 })
				checkCalled(t, commits, c, 20, want, 0)
			}
		}
	}
}

func TestToldInEveryPhase(t *testing.T) {
	for _, one := range []struct{ phase, none, some int64 }{
		{phRun, 0, 0}, {phLock, 0, 0}, {phCheck, 0, 0}, {phBackup, 0, 0}, {phPrimary, 0, 1}, {phClear, 1, 1}, {phCommitted, 1, 1}, {phUnlock, 2, 2}, {phAborted, 2, 2},
	} {
		for _, tx := range []impl.Tx{wideTx(one.phase), {Id: 1, Phase: one.phase}, {Id: lastId, Home: lastMachine, Phase: one.phase, Stamp: lastStamp}} {
			if got := impl.Told(tx); got != one.none {
				t.Errorf("Told(%+v) = %d, want %d", tx, got, one.none)
			}
			for _, done := range []int64{1, 2, 999, 1000} {
				tx.Done = done
				if got := impl.Told(tx); got != one.some {
					t.Errorf("Told(%+v) = %d, want %d", tx, got, one.some)
				}
			}
		}
	}
	for _, tx := range goodTxs() {
		if got, want := impl.Told(tx), plainTold(tx); got != want || got < 0 {
			t.Errorf("Told(%+v) = %d, want %d", tx, got, want)
		}
	}
	for _, tx := range wrongTxs() {
		for phase := int64(phRun); phase <= phAborted; phase++ {
			if within(tx.Phase, phRun, phAborted) {
				tx.Phase = phase
			}
			if got := impl.Told(tx); got != -1 {
				t.Errorf("Told(%+v) = %d, want -1", tx, got)
			}
		}
	}
}

// A Log, a list of what is cleared and a Clock with room for just one more, and with none.
func TestRoomForTheLast(t *testing.T) {
	check := func(c impl.Cluster, room bool) {
		t.Helper()
		checkPlain(t, c, 20)
		if _, code := impl.Step(c, 20); room != (code == 0) {
			t.Errorf("phase %d: %d", c.Txs[0].Phase, code)
		}
		if !room {
			checkCalledCode(t, steps, c, 20, exFull)
			checkCalledCode(t, finishes, c, 20, exFull)
		}
	}
	// The machine that is asked first in each phase.
	for phase, m := range map[int64]int64{phLock: 1, phCheck: 1, phBackup: 0, phPrimary: 1, phClear: 1, phUnlock: 1} {
		for _, many := range []int{198, 199, 200} {
			c := commitCluster(wideTx(phase))
			for other := range c.Machines {
				c.Machines[other].Log = recordsOf(mostLogged)
			}
			c.Machines[m].Log = recordsOf(many)
			check(c, many < 200 || phase != phLock && phase != phBackup)
		}
		for _, many := range []int{58, 59, 60} {
			c := commitCluster(wideTx(phase))
			c.Machines[m].Cleared = idsFrom(100, 2, many)
			check(c, many < 60 || phase != phClear)
			// Its own Id needs no further room.
			c.Machines[m].Cleared = append([]int64{20}, idsFrom(100, 2, many-1)...)
			check(c, true)
		}
	}
	for _, clock := range []int64{999998, 999999, 1000000} {
		for phase := range int64(phUnlock) + 1 {
			for done := range int64(4) {
				tx := wideTx(phase)
				tx.Done = done
				c := commitCluster(tx)
				c.Clock = clock
				if phase < phLock || phase == phCommitted {
					continue
				}
				check(c, clock < 1000000)
			}
		}
	}
}

// Where Lock says false, no record is wanted, so that no room for one is missed.
func TestFailedLocksNeedNoRoom(t *testing.T) {
	tx := wideTx(phLock)
	tx.Done = 2
	c := setPrimary(commitCluster(tx), 2, 0, cellOf(0, false, true, 0))
	c.Clock = lastStamp - 1
	c.Machines[2].Log, c.Machines[2].Cleared = recordsOf(mostLogged), idsFrom(100, 1, mostCleared)
	want := changedCluster(c, func(c *impl.Cluster) { c.Txs[0].Phase, c.Txs[0].Done = phUnlock, 0 })
	checkCalled(t, steps, c, 20, want, 0)
	// The Clock, though, counts for a lock that fails, too.
	c.Clock = lastStamp
	checkCalledCode(t, steps, c, 20, exFull)
}

// checkWithoutStamps: at the last Stamp the next step answers ExFull, and ExDown where the machine that is asked does not live; one Stamp ahead of it all is as ever.
func checkWithoutStamps(t *testing.T, c impl.Cluster, asked int64) {
	t.Helper()
	for _, what := range []committing{steps, finishes} {
		last := deepCluster(c)
		last.Clock = lastStamp
		checkCalledCode(t, what, last, 20, exFull)
		for dead := range int64(len(last.Machines)) {
			down := deepCluster(last)
			down.Machines[dead].Alive = false
			switch dead {
			case down.Txs[0].Home:
				checkCalledCode(t, what, down, 20, exHome)
			case asked:
				checkCalledCode(t, what, down, 20, exDown)
			default:
				checkCalledCode(t, what, down, 20, exFull)
			}
		}
	}
	room := deepCluster(c)
	room.Clock = lastStamp - 1
	if _, code := checkPlain(t, room, 20); code != 0 {
		t.Errorf("phase %d with %d done, one Stamp ahead of the last: %d", c.Txs[0].Phase, c.Txs[0].Done, code)
	}
}

// A Clock at the last Stamp stops each step of a whole commit, not only the one that gives the Stamp.
func TestNoStampInAnyPhase(t *testing.T) {
	// The Home is one that is never asked.
	withHome := func(c impl.Cluster) impl.Cluster {
		c.Machines = append(c.Machines, impl.Machine{Alive: true})
		c.Txs[0].Home = 5
		return c
	}
	through := func(c impl.Cluster, asked ...int64) {
		t.Helper()
		seen := map[int64]int{}
		for _, m := range asked {
			checkWithoutStamps(t, c, m)
			seen[c.Txs[0].Phase]++
			c, _ = impl.Step(c, 20)
		}
		if !ends(c.Txs[0].Phase) {
			t.Errorf("in the end it is %+v, by %v", c.Txs[0], seen)
		}
		// At the end there is no step any more: ExPhase is named ahead, and Finish asks for none.
		c.Clock = lastStamp
		checkCalledCode(t, steps, c, 20, exPhase)
		checkCalled(t, finishes, c, 20, c, 0)
	}
	through(withHome(commitCluster(wideTx(phLock))), 1, 3, 2, 1, 3, 2, 0, 2, 4, 1, 3, 2, 1, 0, 2, 3, 2, 4)
	// The last lock fails; then a check does.
	through(withHome(setPrimary(commitCluster(wideTx(phLock)), 2, 0, cellOf(0, false, true, 0))), 1, 3, 2, 1, 3, 2)
	through(withHome(setPrimary(commitCluster(wideTx(phLock)), 0, 3, cellOf(9, true, true, 1))), 1, 3, 2, 1, 1, 3, 2)
	// Without Sets; and without anything, where nobody is asked.
	through(withHome(commitCluster(impl.Tx{Id: 20, Phase: phLock, Reads: []impl.Note{openNote(1, 2), openNote(2, 3)}})), 3, 2)
	through(withHome(commitCluster(impl.Tx{Id: 20, Phase: phLock})), -1)
}

func ends(phase int64) bool { return phase == phCommitted || phase == phAborted }

// A call that finds its phase at the end goes on to the next one's first machine, or to nobody: the Clock counts in either.
func TestNoStampWhereAPhaseIsAtItsEnd(t *testing.T) {
	for _, one := range []struct{ phase, done, asked int64 }{
		{phLock, 3, 1}, {phLock, 1000, 1}, {phCheck, 3, 0}, {phBackup, 3, 1}, {phPrimary, 3, 1}, {phClear, 6, -1}, {phClear, 1000, -1}, {phUnlock, 3, -1}, {phUnlock, 1000, -1},
	} {
		tx := wideTx(one.phase)
		tx.Done, tx.Home = one.done, 5
		c := commitCluster(tx)
		c.Machines = append(c.Machines, impl.Machine{Alive: true})
		checkWithoutStamps(t, c, one.asked)
	}
}

// The Clock hinders Step alone: a transaction runs on, and its commit begins.
func TestNoStampIsNoneOfCommit(t *testing.T) {
	c := commitCluster(wideTx(phRun))
	c.Clock = lastStamp
	begun := checkCalled(t, commits, c, 20, changedCluster(c, func(c *impl.Cluster) { c.Txs[0].Phase = phLock }), 0)
	checkCalledCode(t, steps, c, 20, exPhase)
	checkCalledCode(t, finishes, c, 20, exPhase)
	checkCalledCode(t, steps, begun, 20, exFull)
	checkCalledCode(t, finishes, begun, 20, exFull)
}

// The steps that Finish did ahead of the Clock's last Stamp stay done: its own Stamp may be the last.
func TestFinishThatTakesTheLastStamp(t *testing.T) {
	c := commitCluster(wideTx(phLock))
	c.Clock = lastStamp - 1
	want := c
	for range 3 {
		want, _ = plainStep(want, 20)
	}
	got := checkCalled(t, finishes, c, 20, want, exFull)
	if got.Clock != lastStamp || got.Txs[0].Stamp != lastStamp || got.Txs[0].Phase != phCheck || got.Txs[0].Done != 0 {
		t.Errorf("it is %+v", got)
	}
	checkCalled(t, finishes, got, 20, got, exFull)
	got.Machines[1].Alive = false
	checkCalled(t, finishes, got, 20, got, exDown)
}

// The same call misses a Stamp and finds a dead machine: ExDown is named first.
func TestDownAheadOfFull(t *testing.T) {
	for _, tx := range []impl.Tx{{Id: 20, Home: 0, Phase: phLock, Reads: []impl.Note{openNote(1, 2)}}, wideTx(phLock)} {
		tx.Done = 3
		c := commitCluster(tx)
		c.Clock = lastStamp
		checkCalledCode(t, steps, c, 20, exFull)
		c.Machines[1].Alive, c.Machines[3].Alive = false, false
		checkCalledCode(t, steps, c, 20, exDown)
		c.Clock--
		checkCalledCode(t, steps, c, 20, exDown)
	}
}

// strait is all that may stand in the way of a step, each by itself.
type strait struct {
	bad, noTx, noHome, down, conflict, noLog, noCleared, noStamp bool
	phase, done                                                  int64
}

// What a step does that begins where a strait says.
const (
	asksNobody = iota
	locks
	checks
	backs
	installs
	clearsOne
	unlocks
)

func (s strait) does() int {
	list := map[int64][]int{
		phLock: {locks, locks, checks}, phCheck: {checks, backs}, phBackup: {backs, backs, installs},
		phPrimary: {installs, installs, clearsOne}, phClear: {clearsOne, clearsOne, clearsOne, clearsOne, asksNobody}, phUnlock: {unlocks, unlocks, asksNobody},
	}[s.phase]
	if len(list) == 0 {
		return asksNobody
	}
	return list[min(s.done, int64(len(list)-1))]
}

// code: the first of the document's list that applies.
func (s strait) code() int64 {
	does := s.does()
	full := s.noLog && (does == locks && !s.conflict || does == backs) || s.noStamp || s.noCleared && does == clearsOne
	list := []struct {
		applies bool
		code    int64
	}{
		{s.bad, exBad}, {s.noTx, exTx}, {s.noHome, exHome}, {s.phase == phRun || s.phase == phCommitted || s.phase == phAborted, exPhase},
		{s.down && does != asksNobody, exDown}, {full, exFull},
	}
	for _, one := range list {
		if one.applies {
			return one.code
		}
	}
	return 0
}

// cluster: the Sets are of the regions 0 and 1, and a note of region 2 is checked; Home is machine 0, which has no copy.
func (s strait) cluster() (impl.Cluster, int64) {
	tx := impl.Tx{
		Id: 20, Home: 0, Phase: s.phase, Done: s.done, Reads: []impl.Note{openNote(2, 1)},
		Sets: []impl.Set{openSet(0, 2, 6, true), openSet(1, 4, 7, true)},
	}
	c := clusterOn(placesOf([]int64{1, 2}, []int64{2, 1}, []int64{1}), []bool{!s.noHome, !s.down, !s.down}, tx)
	openAll(&c)
	for m := range c.Machines {
		if s.noLog {
			c.Machines[m].Log = recordsOf(mostLogged)
		}
		if s.noCleared {
			c.Machines[m].Cleared = idsFrom(100, 1, mostCleared)
		}
	}
	if s.conflict {
		c = setPrimary(setPrimary(c, 0, 2, cellOf(4, true, true, 1)), 1, 4, cellOf(10, true, false, 1))
		c = setPrimary(c, 2, 1, cellOf(3, true, true, -7))
	}
	if s.noStamp {
		c.Clock = lastStamp
	}
	if s.bad {
		c.Places[0] = placeOf(1, 1)
	}
	if s.noTx {
		return c, 21
	}
	return c, 20
}

// Everything that may stand in the way together with everything else, in each phase: the code is the one that is named first.
func TestCodesOfStepInTheirOrder(t *testing.T) {
	for choice := range 1 << 8 {
		is := func(bit int) bool { return choice>>bit&1 == 1 }
		for phase := int64(phRun); phase <= phAborted; phase++ {
			for _, done := range []int64{0, 1, 2, 4, 1000} {
				s := strait{is(0), is(1), is(2), is(3), is(4), is(5), is(6), is(7), phase, done}
				c, id := s.cluster()
				got, code := impl.Step(c, id)
				if code != s.code() {
					t.Fatalf("%+v: %d, want %d", s, code, s.code())
				}
				want, _ := plainStep(c, id)
				if !sameCluster(got, want) {
					t.Fatalf("%+v: %+v\nwant %+v", s, got, want)
				}
				if code > exBad && !sameCluster(got, c) {
					t.Fatalf("%+v: something is changed with %d: %+v", s, code, got)
				}
			}
		}
	}
}

func TestCodesOfCommitInTheirOrder(t *testing.T) {
	for choice := range 1 << 3 {
		for phase := int64(phRun); phase <= phAborted; phase++ {
			s := strait{bad: choice&1 == 1, noTx: choice&2 == 2, noHome: choice&4 == 4, down: true, conflict: true, noLog: true, noStamp: true, phase: phase}
			c, id := s.cluster()
			switch {
			case s.bad:
				checkCalledCode(t, commits, c, id, exBad)
			case s.noTx:
				checkCalledCode(t, commits, c, id, exTx)
			case s.noHome:
				checkCalledCode(t, commits, c, id, exHome)
			case phase != phRun:
				checkCalledCode(t, commits, c, id, exPhase)
			default:
				checkCalled(t, commits, c, id, changedCluster(c, func(c *impl.Cluster) { c.Txs[0].Phase = phLock }), 0)
			}
		}
	}
}

// Of clusters that are not right, and of transactions that are not there.
func TestCommittingThatIsRefused(t *testing.T) {
	for _, what := range allCommitting() {
		for _, bad := range wrongClusters() {
			for _, id := range []int64{2, 7, 14} {
				checkCalledCode(t, what, bad, id, exBad)
			}
		}
		for _, c := range []impl.Cluster{commitCluster(wideTx(phLock)), commitCluster(), ordinaryCluster()} {
			for _, id := range []int64{math.MinInt64, -20, -1, 0, 1, 19, 21, lastId - 1, lastId + 1, math.MaxInt64} {
				checkCalledCode(t, what, c, id, exTx)
			}
		}
		c := commitCluster(wideTx(phLock))
		c.Machines[0].Alive = false
		checkCalledCode(t, what, c, 20, exHome)
		c.Machines[0] = impl.Machine{}
		checkCalledCode(t, what, c, 20, exHome)
	}
}

// Each machine dies once ahead of each step: only the one that is asked is missed, and when it lives again the step is done.
func TestDownByMachine(t *testing.T) {
	asked := []int64{1, 3, 2, 1, 3, 2, 0, 2, 4, 1, 3, 2, 1, 0, 2, 3, 2, 4}
	tx := wideTx(phLock)
	c := commitCluster(tx)
	// The Home must live, so it is one that is never asked.
	c.Machines = append(c.Machines, impl.Machine{Alive: true})
	c.Txs[0].Home = 5
	for i, m := range asked {
		for dead := range int64(5) {
			down := deepCluster(c)
			down.Machines[dead].Alive = false
			if dead == m {
				checkCalledCode(t, steps, down, 20, exDown)
				down.Machines[dead] = impl.Machine{}
				checkCalledCode(t, steps, down, 20, exDown)
				continue
			}
			if _, code := checkPlain(t, down, 20); code != 0 {
				t.Errorf("step %d without machine %d: %d", i, dead, code)
			}
		}
		c, _ = checkPlain(t, c, 20)
	}
	if c.Txs[0].Phase != phCommitted {
		t.Errorf("it is %+v in the end", c.Txs[0])
	}
	for i, m := range []int64{1, 3, 2} {
		for dead := range int64(5) {
			tx := wideTx(phUnlock)
			tx.Done, tx.Home = int64(i), 5
			down := commitCluster(tx)
			down.Machines = append(down.Machines, impl.Machine{Alive: true})
			down.Machines[dead].Alive = false
			if _, code := checkPlain(t, down, 20); (code == exDown) != (dead == m) {
				t.Errorf("unlocking number %d without machine %d: %d", i, dead, code)
			}
		}
	}
}

func TestFinishByHand(t *testing.T) {
	done := changedCluster(commitCluster(wideTx(phCommitted)), func(c *impl.Cluster) { c.Clock, c.Txs[0].Stamp = 10, 10 })
	for region, p := range done.Places {
		for i, m := range p.Machines {
			setCells(&done, int64(region), m, wideInstalled[int64(region)])
			// Machine 2 has two of the regions.
			clears(int64(region), m != 2 || i == 2)(&done.Machines[m])
		}
	}
	checkCalled(t, finishes, commitCluster(wideTx(phLock)), 20, done, 0)
	checkCalled(t, finishes, done, 20, done, 0)
	// It runs still.
	checkCalledCode(t, finishes, commitCluster(wideTx(phRun)), 20, exPhase)
	// A conflict at the last lock.
	c := setPrimary(commitCluster(wideTx(phLock)), 2, 0, cellOf(0, false, true, 0))
	checkCalled(t, finishes, c, 20, changedCluster(c, func(c *impl.Cluster) { c.Txs[0].Phase = phAborted }), 0)
	// At its end already nothing is asked of its Home either.
	for _, phase := range []int64{phCommitted, phAborted} {
		for _, count := range []int64{0, 3, 1000} {
			c := commitCluster(wideTx(phase))
			c.Txs[0].Done = count
			checkCalled(t, finishes, c, 20, c, 0)
			c.Machines[0].Alive = false
			checkCalled(t, finishes, c, 20, c, 0)
		}
	}
}

// The steps ahead of the first code are done.
func TestFinishUpToTheFirstCode(t *testing.T) {
	down := commitCluster(wideTx(phLock))
	down.Machines[4].Alive = false
	want := down
	// Three locks, three checks and two of three backups do not need machine 4.
	for range 8 {
		want, _ = plainStep(want, 20)
	}
	got := checkCalled(t, finishes, down, 20, want, exDown)
	if got.Txs[0].Phase != phBackup || got.Txs[0].Done != 2 || got.Clock != 10 || len(got.Machines[2].Log) != 2+2 {
		t.Errorf("it is %+v", got)
	}
	// And again: nothing more is done.
	checkCalled(t, finishes, got, 20, got, exDown)
	got.Machines[4].Alive = true
	if got, code := impl.Finish(got, 20); code != 0 || got.Txs[0].Phase != phCommitted {
		t.Errorf("%d, and it is %+v", code, got.Txs)
	}
	full := commitCluster(wideTx(phLock))
	full.Machines[3].Cleared = idsFrom(100, 1, mostCleared)
	got, code := impl.Finish(full, 20)
	if code != exFull || got.Txs[0].Phase != phClear || got.Txs[0].Done != 3 || impl.Told(got.Txs[0]) != 1 {
		t.Errorf("%d, and it is %+v", code, got.Txs)
	}
	stamp := commitCluster(wideTx(phLock))
	stamp.Clock = lastStamp
	got, code = impl.Finish(stamp, 20)
	if code != exFull || got.Txs[0].Phase != phLock || got.Txs[0].Done != 0 || got.Clock != lastStamp || len(got.Machines[1].Log) != 1 {
		t.Errorf("%d, and it is %+v", code, got.Txs)
	}
}

// As many steps as a transaction can have: all regions with three machines each, and all notes to be checked.
func TestFinishOfTheWidest(t *testing.T) {
	c, _ := impl.NewCluster(howManyRegions, howManyMachines)
	tx := impl.Tx{Id: lastId, Home: 7, Phase: phLock}
	for cell := range int64(mostSets) {
		region := cell % howManyRegions
		slot := cell / howManyRegions
		tx.Reads = append(tx.Reads, impl.Note{Region: region, Slot: slot})
		tx.Sets = append(tx.Sets, impl.Set{Region: region, Slot: 4 + slot, Value: cell, Used: true})
	}
	tx.Reads, tx.Sets = readsBoard(tx.Reads).list(), setsBoard(tx.Sets).list()
	c.Txs = []impl.Tx{tx}
	want, many := c, 0
	for want.Txs[0].Phase != phCommitted {
		next, code := checkPlain(t, want, lastId)
		if code != 0 {
			t.Fatalf("step %d: %d", many, code)
		}
		want, many = next, many+1
	}
	if many != 6+12+12+6+18 {
		t.Errorf("%d steps", many)
	}
	checkCalled(t, finishes, c, lastId, want, 0)
}

// Everything of the chapter, held against the plain answers over clusters of all kinds, in each phase.
func TestCommittingAgainstThePlainAnswers(t *testing.T) {
	for i, c := range append(goodClusters(), runningCluster(), ordinaryCluster(), commitCluster(wideTx(phLock))) {
		c = deepCluster(c)
		for k := range c.Txs {
			c.Txs[k].Phase = int64(1 + (i+k)%lastPhase)
			c.Txs[k].Done = int64((i + k/3) % 5)
		}
		if i%3 == 0 {
			// The Sets and notes are of what the primaries have, so that locks and checks go well.
			suitTxs(&c)
		}
		for k := 0; k < len(c.Txs); k += 1 + len(c.Txs)/8 {
			checkPlain(t, c, c.Txs[k].Id)
		}
	}
}

// suitTxs gives all notes and Sets the versions that the primaries' cells have.
func suitTxs(c *impl.Cluster) {
	version := func(region, slot int64) int64 {
		cells, _ := plainCopied(c.Machines[c.Places[region].Machines[0]], region)
		if cells == nil {
			return 0
		}
		return min(cells[slot].Head/4, lastSetVersion)
	}
	for k := range c.Txs {
		for i := range c.Txs[k].Reads {
			n := &c.Txs[k].Reads[i]
			n.Version = version(n.Region, n.Slot)
		}
		for i := range c.Txs[k].Sets {
			s := &c.Txs[k].Sets[i]
			s.Version = version(s.Region, s.Slot)
		}
	}
}
