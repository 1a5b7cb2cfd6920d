package tests

import (
	"math"
	"slices"
	"testing"

	"loop.example/g00153/impl"
)

// The kinds of ops stand here as the document numbers them.
const (
	opBegin   = 1
	opRead    = 2
	opWrite   = 3
	opAlloc   = 4
	opDrop    = 5
	opCommit  = 6
	opStep    = 7
	opKill    = 8
	opRecover = 9
	opFinish  = 10

	mostOps = 300
)

func TestKindsOfOps(t *testing.T) {
	kinds := []int64{impl.OpBegin, impl.OpRead, impl.OpWrite, impl.OpAlloc, impl.OpDrop, impl.OpCommit, impl.OpStep, impl.OpKill, impl.OpRecover, impl.OpFinish}
	if !slices.Equal(kinds, idsFrom(1, 1, 10)) || impl.MaxOps != mostOps {
		t.Errorf("the kinds are %v, there are %d ops at most", kinds, impl.MaxOps)
	}
}

// What follows says the chapter once more: the least Stamp is taken again and again, and of each cell a note is kept.

func plainOrder(c impl.Cluster) []int64 {
	var order []int64
	if !plainClusterOk(c) {
		return order
	}
	for {
		best := impl.Tx{Stamp: lastStamp + 1}
		for _, tx := range c.Txs {
			counts := tx.Phase == phPrimary && tx.Done > 0 || tx.Phase == phClear || tx.Phase == phCommitted
			if counts && tx.Stamp < best.Stamp && !slices.Contains(order, tx.Id) {
				best = tx
			}
		}
		if best.Id == 0 {
			return order
		}
		order = append(order, best.Id)
	}
}

type cellAt struct{ region, slot int64 }

func plainBehind(c impl.Cluster) (map[cellAt]impl.Note, bool) {
	cells := map[cellAt]impl.Note{}
	for _, id := range plainOrder(c) {
		tx, _ := plainFind(c, id)
		for _, n := range tx.Reads {
			if is := cells[cellAt{n.Region, n.Slot}]; is.Version != n.Version || is.Value != n.Value || is.Used != n.Used {
				return nil, false
			}
		}
		for _, s := range tx.Sets {
			at := cellAt{s.Region, s.Slot}
			if cells[at].Version != s.Version {
				return nil, false
			}
			cells[at] = impl.Note{Version: s.Version + 1, Value: s.Value * boolNumber(s.Used), Used: s.Used}
		}
	}
	return cells, plainClusterOk(c)
}

func plainSerial(c impl.Cluster) bool {
	_, serial := plainBehind(c)
	return serial
}

func plainFinal(c impl.Cluster, region int64) ([]impl.Cell, bool) {
	notes, serial := plainBehind(c)
	if !serial || !within(region, 0, int64(len(c.Places))-1) {
		return nil, false
	}
	var cells []impl.Cell
	for slot := range int64(howManySlots) {
		n := notes[cellAt{region, slot}]
		cells = append(cells, cellOf(n.Version, n.Used, false, n.Value))
	}
	return cells, true
}

func plainAgrees(c impl.Cluster) bool {
	for region := range c.Places {
		cells, _ := plainCells(c, int64(region))
		final, serial := plainFinal(c, int64(region))
		for slot, one := range cells {
			if !serial || one.Head%2 == 0 && one != final[slot] {
				return false
			}
		}
	}
	return plainSerial(c)
}

func plainPlayOne(c impl.Cluster, op impl.Op) (impl.Cluster, int64) {
	kinds := map[int64]int{opBegin: begins, opRead: reads, opWrite: writes, opAlloc: allocs, opDrop: drops}
	if kind, found := kinds[op.Kind]; found {
		a := act{kind: kind, id: op.Id, home: op.A, region: op.A, slot: op.B, v: op.C}
		o := plainDo(c, a)
		return o.cluster, o.code
	}
	switch op.Kind {
	case opCommit:
		return plainCommit(c, op.Id)
	case opStep:
		return plainStep(c, op.Id)
	case opFinish:
		return plainFinish(c, op.Id)
	case opKill:
		after, killed := plainKill(c, op.A)
		return after, 1 - boolNumber(killed)
	case opRecover:
		if c.Config < lastId {
			after := plainRecover(c)
			return after, boolNumber(after.Lost)
		}
	}
	return c, 1
}

func plainPlay(c impl.Cluster, list []impl.Op) (impl.Cluster, []int64) {
	if !plainClusterOk(c) || len(list) > mostOps {
		return impl.Cluster{}, nil
	}
	var codes []int64
	for _, op := range list {
		after, code := plainPlayOne(c, op)
		c, codes = after, append(codes, code)
	}
	return c, codes
}

func checkOrder(t *testing.T, c impl.Cluster, want ...int64) {
	t.Helper()
	if got := impl.Order(c); !slices.Equal(got, want) || !slices.Equal(plainOrder(c), want) {
		t.Errorf("Order of %+v\n= %v, want %v", c, got, want)
	}
}

func checkSerial(t *testing.T, c impl.Cluster, want bool) {
	t.Helper()
	if got := impl.Serial(c); got != want || plainSerial(c) != want {
		t.Errorf("Serial of %+v\n= %v, want %v", c, got, want)
	}
}

func checkFinal(t *testing.T, c impl.Cluster, region int64, want []impl.Cell, wantOk bool) {
	t.Helper()
	got, ok := impl.Final(c, region)
	plain, plainOk := plainFinal(c, region)
	if ok != wantOk || plainOk != wantOk || !slices.Equal(got, want) || !slices.Equal(plain, want) {
		t.Errorf("Final of region %d in %+v\n= %v, %v, want %v, %v", region, c, got, ok, want, wantOk)
	}
}

func checkAgrees(t *testing.T, c impl.Cluster, want bool) {
	t.Helper()
	if got := impl.Agrees(c); got != want || plainAgrees(c) != want {
		t.Errorf("Agrees of %+v\n= %v, want %v", c, got, want)
	}
}

// checkPlay answers the cluster that came.
func checkPlay(t *testing.T, c impl.Cluster, list []impl.Op, want impl.Cluster, codes ...int64) impl.Cluster {
	t.Helper()
	got, gotCodes := impl.Play(c, list)
	if !slices.Equal(gotCodes, codes) || !sameCluster(got, want) {
		t.Errorf("Play of %+v in %+v\n= %+v, %v\nwant %+v, %v", list, c, got, gotCodes, want, codes)
	}
	return got
}

// checkHistoryPlain holds all that is asked of a cluster against the plain answers.
func checkHistoryPlain(t *testing.T, c impl.Cluster) {
	t.Helper()
	checkOrder(t, c, plainOrder(c)...)
	checkSerial(t, c, plainSerial(c))
	checkAgrees(t, c, plainAgrees(c))
	for region := int64(-1); region <= int64(len(c.Places)); region++ {
		cells, ok := plainFinal(c, region)
		checkFinal(t, c, region, cells, ok)
	}
}

var wildNumbers = []int64{math.MinInt64, -1 << 32, -7, -1, 6, 7, 1 << 32, math.MaxInt64}

// stampedTx has read and set nothing: only its place in order is asked for.
func stampedTx(id, phase, done, stamp int64) impl.Tx {
	return impl.Tx{Id: id, Phase: phase, Done: done, Stamp: stamp}
}

func clusterWith(txs ...impl.Tx) impl.Cluster {
	c, _ := impl.NewCluster(2, 4)
	c.Clock, c.Txs = 9, txs
	return c
}

// One transaction in each phase, with nothing done and with something.
func TestOrderByPhase(t *testing.T) {
	for phase := int64(phRun); phase <= phAborted; phase++ {
		for _, done := range []int64{0, 1, 2, 999, 1000} {
			var want []int64
			if phase == phClear || phase == phCommitted || phase == phPrimary && done > 0 {
				want = []int64{4}
			}
			for _, stamp := range []int64{0, 1, 9} {
				checkOrder(t, clusterWith(stampedTx(4, phase, done, stamp)), want...)
				checkOrder(t, clusterWith(stampedTx(2, phAborted, done, 0), stampedTx(4, phase, done, stamp), stampedTx(5, phPrimary, 0, 9)), want...)
			}
		}
	}
	checkOrder(t, clusterWith())
	checkOrder(t, clusterWith(
		stampedTx(1, phRun, 0, 0), stampedTx(2, phLock, 1, 0), stampedTx(3, phCheck, 1, 1), stampedTx(4, phBackup, 3, 2), stampedTx(5, phPrimary, 0, 3),
		stampedTx(6, phPrimary, 1, 4), stampedTx(7, phClear, 0, 5), stampedTx(8, phCommitted, 0, 6), stampedTx(9, phUnlock, 0, 7), stampedTx(10, phAborted, 0, 8),
	), 6, 7, 8)
}

// By the Stamps, whatever the Ids: falling ones, alike ones, and every order of four.
func TestOrderByStamp(t *testing.T) {
	done := func(id, stamp int64) impl.Tx { return stampedTx(id, phCommitted, 0, stamp) }
	checkOrder(t, clusterWith(done(1, 9), done(2, 8), done(3, 3), done(lastId, 0)), lastId, 3, 2, 1)
	checkOrder(t, clusterWith(done(1, 0), done(2, 3), done(3, 8), done(lastId, 9)), 1, 2, 3, lastId)
	checkOrder(t, clusterWith(done(5, 4), done(6, 4), done(9, 4), done(70, 4)), 5, 6, 9, 70)
	checkOrder(t, clusterWith(done(5, 4), done(6, 2), done(9, 4), done(70, 2)), 6, 70, 5, 9)
	checkOrder(t, clusterWith(stampedTx(5, phPrimary, 1, 4), stampedTx(6, phClear, 0, 2), stampedTx(9, phCommitted, 0, 4), stampedTx(70, phPrimary, 2, 2)), 6, 70, 5, 9)
	for choice := range 4 * 4 * 4 * 4 {
		var txs []impl.Tx
		for i := range 4 {
			txs = append(txs, done(int64(10+i), int64(choice>>(2*i)&3)))
		}
		want := []int64{10, 11, 12, 13}
		slices.SortStableFunc(want, func(a, b int64) int { return int(txs[a-10].Stamp - txs[b-10].Stamp) })
		checkOrder(t, clusterWith(txs...), want...)
	}
}

// As many as there can be, their Stamps in several orders.
func TestOrderOfMany(t *testing.T) {
	for _, step := range []int64{1, 7, 13, 59, 60, 0} {
		var txs []impl.Tx
		for i := range int64(mostTxs) {
			txs = append(txs, stampedTx(i+1, phCommitted, 0, i*step%61))
		}
		c := clusterWith(txs...)
		c.Clock = lastStamp
		want := plainOrder(c)
		if len(want) != mostTxs {
			t.Errorf("%d are in order", len(want))
		}
		checkOrder(t, c, want...)
		for i := range c.Txs {
			c.Txs[i].Stamp = lastStamp - int64(i)
		}
		want = idsFrom(1, 1, mostTxs)
		slices.Reverse(want)
		checkOrder(t, c, want...)
	}
}

// pastCluster: 7 took a cell of each region, 3 wrote one of them, 9 dropped the other, 15 is about to take one, and is not done with its second region; 20 only read. Ids and Stamps rise in unlike ways.
// What 12, 16, 21 and 22 read and mean to write was never so, but they are not committed.
func pastCluster() impl.Cluster {
	note := func(region, slot, version, value int64, used bool) impl.Note {
		return impl.Note{Region: region, Slot: slot, Version: version, Value: value, Used: used}
	}
	set := func(region, slot, value int64, used bool, version int64) impl.Set {
		return impl.Set{Region: region, Slot: slot, Value: value, Used: used, Version: version}
	}
	never, neither := []impl.Note{note(0, 0, 77, 7, true), note(1, 5, 1, 7, false)}, []impl.Set{set(0, 0, 66, true, 3), set(1, 2, 66, true, 4)}
	c := clusterWith(
		impl.Tx{Id: 3, Home: 1, Phase: phCommitted, Stamp: 5, Reads: []impl.Note{note(0, 0, 1, 5, true)}, Sets: []impl.Set{set(0, 0, 8, true, 1)}},
		impl.Tx{Id: 7, Home: 2, Phase: phCommitted, Stamp: 2, Reads: []impl.Note{note(0, 0, 0, 0, false), note(1, 1, 0, 0, false)}, Sets: []impl.Set{set(0, 0, 5, true, 0), set(1, 1, 0, true, 0)}},
		impl.Tx{Id: 9, Home: 3, Phase: phClear, Done: 2, Stamp: 7, Reads: []impl.Note{note(0, 0, 2, 8, true), note(1, 1, 1, 0, true)}, Sets: []impl.Set{set(1, 1, 44, false, 1)}},
		impl.Tx{Id: 12, Home: 0, Phase: phRun, Reads: never, Sets: neither},
		impl.Tx{Id: 15, Home: 0, Phase: phPrimary, Done: 1, Stamp: 8, Reads: []impl.Note{note(0, 0, 2, 8, true), note(1, 3, 0, 0, false)}, Sets: []impl.Set{set(0, 4, -9, true, 0), set(1, 1, 6, true, 2), set(1, 3, 9, true, 0)}},
		impl.Tx{Id: 16, Home: 0, Phase: phAborted, Stamp: 3, Reads: never, Sets: neither},
		impl.Tx{Id: 20, Home: 0, Phase: phCommitted, Stamp: 4, Reads: []impl.Note{note(0, 0, 1, 5, true), note(1, 1, 1, 0, true), note(1, 5, 0, 0, false)}},
		impl.Tx{Id: 21, Home: 0, Phase: phPrimary, Done: 0, Stamp: 6, Reads: never, Sets: neither},
		impl.Tx{Id: 22, Home: 0, Phase: phBackup, Done: 2, Stamp: 9, Reads: never, Sets: neither},
	)
	for region := range int64(2) {
		setCells(&c, region, c.Places[region].Machines[0], pastCells(region))
	}
	return c
}

// pastCells are those behind all that is committed in pastCluster.
func pastCells(region int64) []impl.Cell {
	if region == 0 {
		return withCell(withCell(impl.NewCells(), 0, cellOf(2, true, false, 8)), 4, cellOf(1, true, false, -9))
	}
	return withCell(withCell(impl.NewCells(), 1, cellOf(3, true, false, 6)), 3, cellOf(1, true, false, 9))
}

func TestPastByHand(t *testing.T) {
	c := pastCluster()
	checkClusterOk(t, c, true)
	checkOrder(t, c, 7, 20, 3, 9, 15)
	checkSerial(t, c, true)
	checkFinal(t, c, 0, pastCells(0), true)
	checkFinal(t, c, 1, pastCells(1), true)
	checkAgrees(t, c, true)
}

// Behind each of the first ones in order: the last of them is what Final has to show.
func TestFinalBehindEach(t *testing.T) {
	one := func(slot int64, cell impl.Cell) []impl.Cell { return withCell(impl.NewCells(), slot, cell) }
	for _, stage := range []struct {
		ids          []int64
		first, other []impl.Cell
	}{
		{nil, impl.NewCells(), impl.NewCells()},
		{[]int64{7}, one(0, cellOf(1, true, false, 5)), one(1, cellOf(1, true, false, 0))},
		{[]int64{7, 20}, one(0, cellOf(1, true, false, 5)), one(1, cellOf(1, true, false, 0))},
		{[]int64{7, 20, 3}, one(0, cellOf(2, true, false, 8)), one(1, cellOf(1, true, false, 0))},
		{[]int64{7, 20, 3, 9}, one(0, cellOf(2, true, false, 8)), one(1, cellOf(2, false, false, 0))},
		{[]int64{7, 20, 3, 9, 15}, pastCells(0), pastCells(1)},
	} {
		c := pastCluster()
		for i := range c.Txs {
			if tx := &c.Txs[i]; !slices.Contains(stage.ids, tx.Id) {
				tx.Phase = phAborted
			}
		}
		checkOrder(t, c, stage.ids...)
		checkSerial(t, c, true)
		checkFinal(t, c, 0, stage.first, true)
		checkFinal(t, c, 1, stage.other, true)
		checkAgrees(t, c, len(stage.ids) == 5)
	}
}

// Final does not hang on what the machines have, nor on who lives.
func TestFinalWithoutMachines(t *testing.T) {
	c := pastCluster()
	for m := range c.Machines {
		c.Machines[m] = impl.Machine{}
	}
	c.Lost = true
	checkFinal(t, c, 0, pastCells(0), true)
	checkFinal(t, c, 1, pastCells(1), true)
	checkAgrees(t, c, true)
}

func TestFinalOfNoRegion(t *testing.T) {
	c := pastCluster()
	for _, region := range append([]int64{2, 3, 4, 5}, wildNumbers...) {
		checkFinal(t, c, region, nil, false)
		// Copies of regions that there are not are no regions.
		checkFinal(t, withAllCopies(c), region, nil, false)
	}
	for regions := int64(1); regions <= howManyRegions; regions++ {
		c, _ := impl.NewCluster(regions, 3)
		for region := int64(-2); region <= 8; region++ {
			want := impl.NewCells()
			if region < 0 || region >= regions {
				want = nil
			}
			checkFinal(t, c, region, want, want != nil)
		}
	}
}

// checkNotSerial: then neither of the others says anything good.
func checkNotSerial(t *testing.T, change func(c *impl.Cluster)) {
	t.Helper()
	c := changedCluster(pastCluster(), change)
	checkClusterOk(t, c, true)
	checkSerial(t, c, false)
	checkAgrees(t, c, false)
	for region := int64(-1); region <= 2; region++ {
		checkFinal(t, c, region, nil, false)
	}
}

func committedPlaces(c impl.Cluster) []int {
	var list []int
	for i, tx := range c.Txs {
		if slices.Contains(plainOrder(c), tx.Id) {
			list = append(list, i)
		}
	}
	return list
}

// Each note's Version, Value and Used, and each Set's Version, by itself.
func TestSerialIsFalseByEachReason(t *testing.T) {
	many := 0
	past := pastCluster()
	for _, i := range committedPlaces(past) {
		for k, n := range past.Txs[i].Reads {
			note := func(c *impl.Cluster) *impl.Note { return &c.Txs[i].Reads[k] }
			for _, by := range []int64{1, 2, lastVersion - n.Version, -n.Version} {
				if by != 0 {
					checkNotSerial(t, func(c *impl.Cluster) { note(c).Version += by })
				}
			}
			for _, by := range []int64{1, -1, lastValue - n.Value, -lastValue - n.Value} {
				checkNotSerial(t, func(c *impl.Cluster) { note(c).Value += by })
			}
			checkNotSerial(t, func(c *impl.Cluster) { note(c).Used = !n.Used })
			many++
		}
		for k, s := range past.Txs[i].Sets {
			for _, by := range []int64{1, 3, lastVersion - 1 - s.Version, -s.Version} {
				if by != 0 {
					checkNotSerial(t, func(c *impl.Cluster) { c.Txs[i].Sets[k].Version += by })
				}
			}
			many++
		}
	}
	if many != 17 {
		t.Errorf("%d notes and Sets", many)
	}
}

// A note without a Set, a Set without a note: each is looked at.
func TestSerialOfAloneStanding(t *testing.T) {
	for _, one := range []struct {
		tx     impl.Tx
		serial bool
	}{
		{impl.Tx{}, true},
		{impl.Tx{Reads: []impl.Note{{Region: 1, Slot: 5}}}, true},
		{impl.Tx{Reads: []impl.Note{{Region: 1, Slot: 5, Version: 1}}}, false},
		{impl.Tx{Reads: []impl.Note{{Region: 1, Slot: 5, Value: 1}}}, false},
		{impl.Tx{Reads: []impl.Note{{Region: 1, Slot: 5, Used: true}}}, false},
		{impl.Tx{Reads: []impl.Note{{Region: 0, Slot: 0}, {Region: 1, Slot: 5, Used: true}}}, false},
		{impl.Tx{Sets: []impl.Set{{Region: 1, Slot: 5, Value: 4, Used: true}}}, true},
		{impl.Tx{Sets: []impl.Set{{Region: 1, Slot: 5, Value: 4}}}, true},
		{impl.Tx{Sets: []impl.Set{{Region: 1, Slot: 5, Value: 4, Used: true, Version: 1}}}, false},
		{impl.Tx{Sets: []impl.Set{{Region: 0, Slot: 5}, {Region: 1, Slot: 5, Version: 1}}}, false},
		{impl.Tx{Sets: []impl.Set{{Region: 1, Slot: 5, Version: lastVersion - 1}}}, false},
		// What is read is as it was ahead of the transaction's own Sets.
		{impl.Tx{Reads: []impl.Note{{Slot: 2}}, Sets: []impl.Set{{Slot: 2, Value: 4, Used: true}}}, true},
		{impl.Tx{Reads: []impl.Note{{Slot: 2, Version: 1, Value: 4, Used: true}}, Sets: []impl.Set{{Slot: 2, Value: 4, Used: true}}}, false},
	} {
		for _, phase := range []int64{phPrimary, phClear, phCommitted} {
			tx := one.tx
			tx.Id, tx.Phase, tx.Done = 4, phase, 1
			checkSerial(t, clusterWith(tx), one.serial)
			checkHistoryPlain(t, clusterWith(tx))
		}
		// As long as it is not committed it does not matter.
		for _, phase := range []int64{phRun, phLock, phCheck, phBackup, phPrimary, phUnlock, phAborted} {
			tx := one.tx
			tx.Id, tx.Phase = 4, phase
			checkSerial(t, clusterWith(tx), true)
			checkAgrees(t, clusterWith(tx), true)
		}
	}
}

// A reader is right behind the writer alone: by its Stamp, and of alike Stamps by its Id.
func TestSerialHangsOnTheOrder(t *testing.T) {
	pair := func(writer, reader, writerStamp, readerStamp int64) impl.Cluster {
		txs := []impl.Tx{
			{Id: writer, Phase: phCommitted, Stamp: writerStamp, Sets: []impl.Set{{Slot: 2, Value: 4, Used: true}}},
			{Id: reader, Phase: phCommitted, Stamp: readerStamp, Reads: []impl.Note{{Slot: 2, Version: 1, Value: 4, Used: true}}},
		}
		if reader < writer {
			slices.Reverse(txs)
		}
		return clusterWith(txs...)
	}
	checkSerial(t, pair(3, 8, 1, 2), true)
	checkSerial(t, pair(3, 8, 2, 1), false)
	checkSerial(t, pair(8, 3, 1, 2), true)
	checkSerial(t, pair(8, 3, 2, 1), false)
	checkSerial(t, pair(3, 8, 5, 5), true)
	checkSerial(t, pair(8, 3, 5, 5), false)
	// Without the writer there is nothing to be read.
	c := pair(3, 8, 1, 2)
	c.Txs[0].Phase = phAborted
	checkSerial(t, c, false)
	// Each two of the past that have to do with each other can't change places.
	for _, two := range [][2]int{{0, 1}, {1, 2}, {0, 2}, {2, 4}, {6, 0}, {6, 1}} {
		checkNotSerial(t, func(c *impl.Cluster) {
			c.Txs[two[0]].Stamp, c.Txs[two[1]].Stamp = c.Txs[two[1]].Stamp, c.Txs[two[0]].Stamp
		})
	}
	// One that is committed in the past is missed if it is not any more.
	for _, i := range []int{0, 1, 2} {
		checkNotSerial(t, func(c *impl.Cluster) { c.Txs[i].Phase = phAborted })
	}
	// Those that were never so must not be committed.
	for _, i := range []int{3, 5, 7, 8} {
		checkNotSerial(t, func(c *impl.Cluster) { c.Txs[i].Phase = phCommitted })
		checkNotSerial(t, func(c *impl.Cluster) { c.Txs[i].Phase, c.Txs[i].Done = phPrimary, 1 })
	}
}

// What the machines have is nothing to Serial.
func TestSerialOfWhateverTheMachinesHave(t *testing.T) {
	c := pastCluster()
	for m := range c.Machines {
		for i := range c.Machines[m].Copies {
			c.Machines[m].Copies[i].Cells = mixedCells()
		}
		c.Machines[m].Log, c.Machines[m].Cleared = recordsOf(5), []int64{3, 12}
	}
	checkSerial(t, c, true)
	checkFinal(t, c, 0, pastCells(0), true)
	checkAgrees(t, c, false)
}

// Each cell of each primary: where it is not locked it must be the final one, where it is locked it may be any.
func TestAgreesByEachCell(t *testing.T) {
	for region := range int64(2) {
		for slot := range int64(howManySlots) {
			is := pastCells(region)[slot]
			version, used := is.Head/4, is.Head%4 == 2
			var others []impl.Cell
			others = append(others, cellOf(version+1, used, false, is.Value), cellOf(lastVersion, used, false, is.Value))
			if version > 0 {
				others = append(others, cellOf(version-1, used, false, is.Value))
			}
			if used {
				others = append(others, cellOf(version, true, false, is.Value+1), cellOf(version, true, false, 0), cellOf(version, false, false, 0))
			} else {
				others = append(others, cellOf(version, true, false, 0))
			}
			for _, other := range others {
				checkAgrees(t, setPrimary(pastCluster(), region, slot, other), false)
				other.Head++
				checkAgrees(t, setPrimary(pastCluster(), region, slot, other), true)
			}
			is.Head++
			checkAgrees(t, setPrimary(pastCluster(), region, slot, is), true)
		}
	}
}

// A primary that does not live is not asked, whatever is left with it; nor is a backup.
func TestAgreesWithoutThePrimary(t *testing.T) {
	for region := range int64(2) {
		c := setPrimary(pastCluster(), region, 2, cellOf(9, true, false, 9))
		checkAgrees(t, c, false)
		primary := c.Places[region].Machines[0]
		dead := deepCluster(c)
		dead.Machines[primary].Alive = false
		checkAgrees(t, dead, true)
		killed := kill(t, c, primary)
		checkAgrees(t, killed, true)
		// The other region's primary is asked all the same.
		checkAgrees(t, setPrimary(dead, 1-region, 2, cellOf(9, true, false, 9)), false)
	}
	c := pastCluster()
	for region, p := range c.Places {
		for _, m := range p.Machines[1:] {
			one := deepCluster(c)
			setCells(&one, int64(region), m, mixedCells())
			checkAgrees(t, one, true)
		}
	}
	// What was a backup is asked as soon as it is the primary.
	c.Places[0].Machines = []int64{1, 0, 2}
	checkAgrees(t, c, false)
	setCells(&c, 0, 1, pastCells(0))
	checkAgrees(t, c, true)
}

// What is not right has no history.
func TestHistoryOfWrongClusters(t *testing.T) {
	wrong := wrongClusters()
	for _, spoil := range []func(c *impl.Cluster){
		func(c *impl.Cluster) { c.Config = 0 },
		func(c *impl.Cluster) { c.Clock = 8 },
		func(c *impl.Cluster) { c.Clock = lastStamp + 1 },
		func(c *impl.Cluster) { c.Places[1].Machines[0] = 9 },
		func(c *impl.Cluster) { c.Places = c.Places[:1] },
		func(c *impl.Cluster) { c.Places = nil },
		func(c *impl.Cluster) { c.Machines = c.Machines[:3] },
		func(c *impl.Cluster) { c.Machines[1].Copies = c.Machines[1].Copies[:1] },
		func(c *impl.Cluster) { c.Machines[3].Cleared = []int64{5, 5} },
		func(c *impl.Cluster) { c.Txs[0], c.Txs[1] = c.Txs[1], c.Txs[0] },
		func(c *impl.Cluster) { c.Txs[3].Home = 4 },
		func(c *impl.Cluster) { c.Txs[5].Phase = 10 },
		func(c *impl.Cluster) { c.Txs[6].Reads[2].Region = 2 },
		func(c *impl.Cluster) { c.Txs[4].Sets[2].Slot = 6 },
	} {
		wrong = append(wrong, changedCluster(pastCluster(), spoil))
	}
	lists := [][]impl.Op{nil, {{Kind: opBegin, Id: lastId}}, {{Kind: opRecover}}, {{}}, make([]impl.Op, mostOps+1)}
	for _, c := range wrong {
		checkOrder(t, c)
		checkSerial(t, c, false)
		checkAgrees(t, c, false)
		for region := int64(-1); region <= 6; region++ {
			checkFinal(t, c, region, nil, false)
		}
		for _, list := range lists {
			checkPlay(t, c, list, impl.Cluster{})
		}
	}
}

func TestHistoryAgainstThePlainAnswers(t *testing.T) {
	for _, c := range append(goodClusters(), ordinaryCluster(), runningCluster(), commitCluster(wideTx(phClear)), settledCluster()) {
		checkHistoryPlain(t, c)
	}
	for regions := int64(1); regions <= howManyRegions; regions++ {
		for machines := int64(1); machines <= howManyMachines; machines++ {
			c, _ := impl.NewCluster(regions, machines)
			checkHistoryPlain(t, c)
			checkSerial(t, c, true)
			checkAgrees(t, c, true)
		}
	}
}

// opOf: numbers are as many of A, B and C as the kind needs.
func opOf(kind, id int64, numbers ...int64) impl.Op {
	op := impl.Op{Kind: kind, Id: id}
	for i, to := range []*int64{&op.A, &op.B, &op.C} {
		if i < len(numbers) {
			*to = numbers[i]
		}
	}
	return op
}

// asCall does what an op stands for, by the chapters' own calls.
func asCall(c impl.Cluster, op impl.Op) (impl.Cluster, int64) {
	var after impl.Cluster
	code := int64(-1)
	switch op.Kind {
	case opBegin:
		after, code = impl.Begin(c, op.Id, op.A)
	case opRead:
		after, _, code = impl.Read(c, op.Id, op.A, op.B)
	case opWrite:
		after, code = impl.Write(c, op.Id, op.A, op.B, op.C)
	case opAlloc:
		after, _, code = impl.Alloc(c, op.Id, op.A)
	case opDrop:
		after, code = impl.Drop(c, op.Id, op.A, op.B)
	case opCommit:
		after, code = impl.Commit(c, op.Id)
	case opStep:
		after, code = impl.Step(c, op.Id)
	case opFinish:
		after, code = impl.Finish(c, op.Id)
	}
	return after, code
}

// coded is an op and the code it gets.
type coded struct {
	op   impl.Op
	code int64
}

// checkCoded goes through a list op by op: of each there comes what the call of its kind answers; and then the whole list at once.
func checkCoded(t *testing.T, c impl.Cluster, list []coded) impl.Cluster {
	t.Helper()
	start := c
	var ops []impl.Op
	var codes []int64
	for i, one := range list {
		want, code := asCall(c, one.op)
		if code != one.code {
			t.Errorf("number %d: %+v by its call has the code %d, want %d", i, one.op, code, one.code)
		}
		plain, plainCode := plainPlayOne(c, one.op)
		if plainCode != one.code || !sameCluster(plain, want) {
			t.Errorf("number %d: %+v has the plain code %d, want %d", i, one.op, plainCode, one.code)
		}
		c = checkPlay(t, c, []impl.Op{one.op}, want, one.code)
		ops, codes = append(ops, one.op), append(codes, one.code)
	}
	checkPlay(t, start, ops, c, codes...)
	return c
}

// Each kind of op that reads, writes and commits, with each of its codes: none but ExBad, which can't come of a right cluster.
func TestPlayEachCode(t *testing.T) {
	c, _ := impl.NewCluster(2, 4)
	c = checkCoded(t, c, []coded{
		{opOf(opBegin, 0), exTx}, {opOf(opBegin, lastId+1), exTx}, {opOf(opBegin, 1, 4), exHome}, {opOf(opBegin, 1, -1), exHome}, {opOf(opBegin, 1, 3), 0}, {opOf(opBegin, 1, 0), exTx},
		{opOf(opRead, 2), exTx}, {opOf(opRead, 1, 2, 0), exCell}, {opOf(opRead, 1, 0, 6), exCell}, {opOf(opRead, 1, -1, 0), exCell}, {opOf(opRead, 1, 0, 5), exFree}, {opOf(opRead, 1, 0, 5), exFree},
		{opOf(opWrite, 2), exTx}, {opOf(opWrite, 1, 2, 0, lastValue+1), exValue}, {opOf(opWrite, 1, 2, 0, lastValue), exCell}, {opOf(opWrite, 1, 0, 4, 1), exFree},
		{opOf(opAlloc, 2), exTx}, {opOf(opAlloc, 1, 2), exCell}, {opOf(opAlloc, 1, 0), 0}, {opOf(opAlloc, 1, 1), 0}, {opOf(opAlloc, 1, 1), 0},
		{opOf(opRead, 1, 0, 0), 0}, {opOf(opWrite, 1, 0, 0, -lastValue), 0}, {opOf(opWrite, 1, 1, 1, 7), 0},
		{opOf(opDrop, 2), exTx}, {opOf(opDrop, 1, 1, 6), exCell}, {opOf(opDrop, 1, 1, 3), exFree}, {opOf(opDrop, 1, 1, 1), 0}, {opOf(opDrop, 1, 1, 1), exFree},
		{opOf(opStep, 1), exPhase}, {opOf(opFinish, 1), exPhase}, {opOf(opCommit, 2), exTx}, {opOf(opStep, 2), exTx}, {opOf(opFinish, 2), exTx},
		{opOf(opCommit, 1), 0}, {opOf(opCommit, 1), exPhase},
		{opOf(opRead, 1, 0, 0), exPhase}, {opOf(opWrite, 1, 0, 0, lastValue+1), exPhase}, {opOf(opAlloc, 1, 0), exPhase}, {opOf(opDrop, 1, 0, 0), exPhase},
		{opOf(opStep, 1), 0}, {opOf(opBegin, 5, 1), 0},
		{opOf(opRead, 5, 0, 0), exLocked}, {opOf(opWrite, 5, 0, 0, 3), exLocked}, {opOf(opDrop, 5, 0, 0), exLocked}, {opOf(opAlloc, 5, 0), 0},
		{opOf(opFinish, 1), 0}, {opOf(opFinish, 1), 0}, {opOf(opStep, 1), exPhase}, {opOf(opCommit, 1), exPhase},
		{opOf(opWrite, 5, 0, 0, 3), 0}, {opOf(opRead, 5, 1, 0), 0}, {opOf(opCommit, 5), 0}, {opOf(opFinish, 5), 0},
	})
	checkOrder(t, c, 1, 5)
	checkFinal(t, c, 0, withCell(withCell(impl.NewCells(), 0, cellOf(2, true, false, 3)), 1, cellOf(1, true, false, 0)), true)
	checkAgrees(t, c, true)
}

// Without a machine: what asks it, and what is at home there.
func TestPlayCodesOfTheDead(t *testing.T) {
	c := filled(2, 4) // region 0 is on 0, 1, 2, region 1 on 1, 2, 3
	c, codes := impl.Play(c, []impl.Op{opOf(opBegin, 5, 1), opOf(opBegin, 6, 0), opOf(opWrite, 6, 0, 0, 4), opOf(opCommit, 6), opOf(opStep, 6), opOf(opBegin, 7, 0), opOf(opKill, 0, 1)})
	if !slices.Equal(codes, make([]int64, 7)) {
		t.Fatalf("the codes are %v", codes)
	}
	checkCoded(t, c, []coded{
		{opOf(opBegin, 9, 1), exHome},
		{opOf(opRead, 5, 9, 9), exHome}, {opOf(opWrite, 5, 9, 9, lastValue+1), exHome}, {opOf(opAlloc, 5, 9), exHome}, {opOf(opDrop, 5, 9, 9), exHome},
		{opOf(opCommit, 5), exHome}, {opOf(opStep, 5), exHome}, {opOf(opFinish, 5), exHome},
		{opOf(opStep, 6), exDown}, {opOf(opFinish, 6), exDown},
		{opOf(opRead, 7, 1, 0), exDown}, {opOf(opWrite, 7, 1, 0, 1), exDown}, {opOf(opAlloc, 7, 1), exDown}, {opOf(opDrop, 7, 1, 0), exDown},
		{opOf(opRead, 7, 0, 1), 0},
	})
}

// Without room: for a note, a Set, a slot, a record, a Stamp, a transaction.
func TestPlayCodesOfTheFull(t *testing.T) {
	c, _ := impl.NewCluster(3, 4)
	ops := []impl.Op{opOf(opBegin, 5, 1)}
	for range 6 {
		ops = append(ops, opOf(opAlloc, 5, 0), opOf(opAlloc, 5, 1))
	}
	c, codes := impl.Play(c, ops)
	if !slices.Equal(codes, make([]int64, 13)) {
		t.Fatalf("the codes are %v", codes)
	}
	c = checkCoded(t, c, []coded{
		{opOf(opAlloc, 5, 0), exFull}, {opOf(opAlloc, 5, 2), exFull}, {opOf(opRead, 5, 2, 0), exFull}, {opOf(opWrite, 5, 2, 0, 1), exFull}, {opOf(opDrop, 5, 2, 0), exFull},
		{opOf(opCommit, 5), 0}, {opOf(opStep, 5), 0}, {opOf(opBegin, 6, 1), 0}, {opOf(opAlloc, 6, 0), exFull}, {opOf(opStep, 5), 0},
	})
	full := deepCluster(c)
	full.Machines[1].Log = recordsOf(mostLogged)
	checkCoded(t, full, []coded{{opOf(opStep, 5), exFull}, {opOf(opFinish, 5), exFull}})
	late := deepCluster(c)
	late.Clock = lastStamp
	checkCoded(t, late, []coded{{opOf(opStep, 5), exFull}, {opOf(opFinish, 5), exFull}, {opOf(opRead, 6, 2, 0), exFree}})
	var begun []coded
	for id := int64(7); len(begun) < mostTxs-2; id++ {
		begun = append(begun, coded{opOf(opBegin, id, 0), 0})
	}
	checkCoded(t, c, append(begun, coded{opOf(opBegin, lastId, 0), exTx}))
}

// Finish: with a code the steps ahead of it are done, and stay so.
func TestPlayOfFinishKeepsItsSteps(t *testing.T) {
	c := filled(1, 4)
	c, _ = impl.Play(c, []impl.Op{opOf(opBegin, 5, 3), opOf(opWrite, 5, 0, 0, 8), opOf(opCommit, 5), opOf(opKill, 0, 2)})
	got := checkPlay(t, c, []impl.Op{opOf(opFinish, 5)}, playSteps(t, c, 5, 2), exDown)
	if tx := got.Txs[1]; tx.Phase != phBackup || tx.Done != 1 {
		t.Errorf("it is %+v", tx)
	}
}

func playSteps(t *testing.T, c impl.Cluster, id int64, many int) impl.Cluster {
	t.Helper()
	for range many {
		after, code := impl.Step(c, id)
		if code != 0 {
			t.Fatalf("Step of %d: %d", id, code)
		}
		c = after
	}
	return c
}

func TestPlayOfKill(t *testing.T) {
	c := handCluster(t, 6)
	for m := range int64(5) {
		killed := kill(t, c, m)
		checkPlay(t, c, []impl.Op{opOf(opKill, 0, m)}, killed, 0)
		// One that does not live any more; the Id and the other numbers are nothing to it.
		checkPlay(t, killed, []impl.Op{opOf(opKill, 20, m, 3, 3)}, killed, 1)
		checkPlay(t, c, []impl.Op{opOf(opKill, -5, m, -1, -1), opOf(opKill, 0, m), opOf(opKill, 0, (m+1)%5)}, kill(t, killed, (m+1)%5), 0, 1, 0)
	}
	for _, m := range append([]int64{5}, noMachines...) {
		checkPlay(t, c, []impl.Op{opOf(opKill, 0, m)}, c, 1)
	}
}

func TestPlayOfRecover(t *testing.T) {
	for steps := 0; steps <= handSteps; steps += 3 {
		c := handCluster(t, steps)
		again := impl.Recover(c)
		checkPlay(t, c, []impl.Op{opOf(opRecover, 0)}, again, 0)
		died := kill(t, c, 0)
		checkPlay(t, c, []impl.Op{opOf(opKill, 0, 0), opOf(opRecover, 20, -1, 9, 9)}, impl.Recover(died), 0, 0)
		// Lost: it is told by the cluster, too, each time.
		lost := kill(t, c, 0, 1, 2)
		want := deepCluster(lost)
		want.Lost = true
		got := checkPlay(t, lost, []impl.Op{opOf(opRecover, 0)}, want, 1)
		checkPlay(t, got, []impl.Op{opOf(opRecover, 0), opOf(opKill, 0, 0), opOf(opRecover, 0)}, want, 1, 1, 1)
		// It is Lost then, though it was so before, and what has lost nothing goes on.
		called := deepCluster(died)
		called.Lost = true
		checkPlay(t, called, []impl.Op{opOf(opRecover, 0)}, impl.Recover(called), 1)
	}
}

// At MaxId the zero Cluster would come: nothing happens, and the ops behind it are done.
func TestPlayOfRecoverAtTheLastConfig(t *testing.T) {
	for _, dead := range [][]int64{nil, {0}, {0, 1, 2}} {
		c := kill(t, handCluster(t, 6), dead...)
		c.Config = lastId
		checkPlay(t, c, []impl.Op{opOf(opRecover, 0)}, c, 1)
		checkPlay(t, c, []impl.Op{opOf(opRecover, 0), opOf(opKill, 0, 3), opOf(opRecover, 0)}, kill(t, c, 3), 1, 0, 1)
		c.Config = lastId - 1
		first := impl.Recover(c)
		if want := boolNumber(len(dead) == 3); want == 0 {
			checkPlay(t, c, []impl.Op{opOf(opRecover, 0), opOf(opRecover, 0)}, first, 0, 1)
		} else {
			checkPlay(t, c, []impl.Op{opOf(opRecover, 0), opOf(opRecover, 0)}, first, 1, 1)
		}
	}
}

// A Kind that is none: nothing happens, whatever else the op has, and the others are done.
func TestPlayOfNoKind(t *testing.T) {
	c := handCluster(t, 3)
	for _, kind := range []int64{math.MinInt64, -1 << 32, -7, -1, 0, 11, 12, 257, 1<<32 + 7, math.MaxInt64} {
		for _, op := range []impl.Op{opOf(kind, 0), opOf(kind, 20, 4, 1, 1), opOf(kind, 30, 0)} {
			checkPlay(t, c, []impl.Op{op}, c, 1)
			checkPlay(t, c, []impl.Op{op, opOf(opStep, 20), op}, playSteps(t, c, 20, 1), 1, 0, 1)
		}
	}
}

func TestPlayOfHowMany(t *testing.T) {
	c := handCluster(t, 3)
	checkPlay(t, c, nil, c)
	checkPlay(t, c, []impl.Op{}, c)
	for _, fill := range []impl.Op{{}, opOf(opBegin, 7, 0), opOf(opStep, 20)} {
		for _, many := range []int{1, 60, mostOps - 1, mostOps} {
			list := slices.Repeat([]impl.Op{fill}, many)
			want, codes := plainPlay(c, list)
			if len(codes) != many {
				t.Fatalf("%d codes", len(codes))
			}
			checkPlay(t, c, list, want, codes...)
		}
		for _, many := range []int{mostOps + 1, mostOps + 2, 2 * mostOps, 10 * mostOps} {
			checkPlay(t, c, slices.Repeat([]impl.Op{fill}, many), impl.Cluster{})
		}
	}
	// The last of so many is done, too.
	list := append(make([]impl.Op, mostOps-1), opOf(opKill, 0, 4))
	checkPlay(t, c, list, kill(t, c, 4), append(slices.Repeat([]int64{1}, mostOps-1), 0)...)
}

// wildOp is most of the time one that can be done in this cluster; the dead are few.
func wildOp(c impl.Cluster, next func(below uint64) int64) impl.Op {
	number := func(below int) int64 {
		if next(12) == 0 {
			return wildNumbers[next(uint64(len(wildNumbers)))]
		}
		return next(uint64(max(below, 1)))
	}
	op := impl.Op{Kind: 1 + next(10), Id: 5 + next(40), A: number(len(c.Places)), B: number(3), C: number(5)}
	if op.Kind == opBegin {
		op.A = number(len(c.Machines))
	}
	if len(c.Txs) > 0 && op.Kind != opBegin && next(10) > 0 {
		op.Id = c.Txs[next(uint64(len(c.Txs)))].Id
	} else if len(c.Txs) > 0 && op.Kind == opBegin {
		op.Id = c.Txs[len(c.Txs)-1].Id + next(3)
	}
	switch next(20) {
	case 0:
		op.Kind = 7 * number(5)
	case 1:
		op.Id = number(5)
	case 2:
		op.C = 2 * lastValue * (1 - next(3))
	case 3, 4, 5, 6, 7:
		if op.Kind == opKill || op.Kind == opRecover {
			op.Kind = opStep
		}
	}
	return op
}

// wildList is so many of them, one behind the other, as the plain answers go.
func wildList(c impl.Cluster, many, seed int) []impl.Op {
	next := byRule(seed)
	var list []impl.Op
	for range many {
		op := wildOp(c, next)
		list = append(list, op)
		if plainClusterOk(c) {
			c, _ = plainPlayOne(c, op)
		}
	}
	return list
}

// Lists of any ops in any right cluster, held against the plain answers, whole and one by one.
func TestPlayAgainstThePlainAnswers(t *testing.T) {
	starts := []impl.Cluster{runningCluster(), ordinaryCluster(), pastCluster(), settledCluster(), commitCluster(wideTx(phLock), impl.Tx{Id: 30, Home: 2, Phase: phRun})}
	good := goodClusters()
	for i := 0; i < len(good); i += 9 {
		starts = append(starts, good[i])
	}
	for steps := 0; steps <= handSteps; steps += 2 {
		starts = append(starts, handCluster(t, steps))
	}
	seen := map[coded]int{}
	for i, start := range starts {
		for round := range 4 {
			list := wildList(start, 50, 1000*i+round)
			want, codes := plainPlay(start, list)
			checkPlay(t, start, list, want, codes...)
			c := start
			for k, op := range list {
				after, one := impl.Play(c, []impl.Op{op})
				if len(one) != 1 || one[0] != codes[k] {
					t.Fatalf("%+v alone: %v, want %d", op, one, codes[k])
				}
				c = after
				seen[coded{impl.Op{Kind: op.Kind}, codes[k]}]++
			}
			if !sameCluster(c, want) {
				t.Errorf("one by one there comes %+v\nwant %+v", c, want)
			}
			checkHistoryPlain(t, c)
		}
	}
	for kind := int64(opBegin); kind <= opFinish; kind++ {
		with := func(code int64) int { return seen[coded{impl.Op{Kind: kind}, code}] }
		if with(0) < 30 || with(1)+with(exTx) < 30 {
			t.Errorf("kind %d: the codes are %v", kind, seen)
		}
	}
}

// checkHistoryStays: no argument is changed, the same is answered each time, and no answer shares memory with an argument or another.
func checkHistoryStays(t *testing.T, start impl.Cluster, list []impl.Op) {
	t.Helper()
	c, stays := guardedCluster(start)
	ops, opsStay := guarded(list, impl.Op{Kind: 77, Id: 77})
	if impl.Serial(c) != impl.Serial(c) || impl.Agrees(c) != impl.Agrees(c) {
		t.Errorf("Serial and Agrees answer now this and then that of %+v", c)
	}
	var lists []innerList
	for range 2 {
		lists = append(lists, numbersList(impl.Order(c)))
		for region := int64(-1); region <= int64(len(c.Places)); region++ {
			cells, _ := impl.Final(c, region)
			lists = append(lists, cellsList(cells))
		}
	}
	first, codes := impl.Play(c, ops)
	second, others := impl.Play(c, ops)
	if !sameCluster(first, second) || !slices.Equal(codes, others) {
		t.Errorf("Play answers %+v, %v, and then %+v, %v", first, codes, second, others)
	}
	lists = append(lists, numbersList(codes), numbersList(others))
	for _, one := range []impl.Cluster{first, second} {
		lists = append(append(lists, listsOfCluster(one)...), outerLists(one)...)
	}
	if !stays() || !opsStay() {
		t.Errorf("an argument is changed by a call: %+v, %+v", c, ops)
	}
	checkListsApart(t, lists)
	if !stays() || !opsStay() {
		t.Errorf("an answer shares memory with an argument: %+v, %+v", c, ops)
	}
}

func TestHistoryStaysAndSharesNothing(t *testing.T) {
	scripts := [][]impl.Op{nil, {{}}, {opOf(opKill, 0, 77)}, {opOf(opRecover, 0)}, {opOf(opKill, 0, 1), opOf(opRecover, 0)}, make([]impl.Op, mostOps+1)}
	for kind := int64(opBegin); kind <= opFinish; kind++ {
		scripts = append(scripts, []impl.Op{opOf(kind, 20)}, []impl.Op{opOf(kind, 4, 2, 1, 1), opOf(kind, 50, 0)})
	}
	last := handCluster(t, 5)
	last.Config = lastId
	starts := append(wrongWholes()[:4], impl.Cluster{}, pastCluster(), runningCluster(), handCluster(t, 0), handCluster(t, 8), kill(t, handCluster(t, 8), 0, 1, 2), last)
	for _, c := range starts {
		for _, list := range append(scripts, wildList(c, 30, 50), wildList(c, 30, 51)) {
			checkHistoryStays(t, c, list)
		}
	}
}

// Lists of the argument that share memory themselves: those of the answer don't.
func TestPlayOfSharedLists(t *testing.T) {
	cells, place, cleared := impl.NewCells(), []int64{1, 0, 2}, []int64{4}
	copies := []impl.Copy{{Region: 0, Cells: cells}, {Region: 1, Cells: cells}}
	c := impl.Cluster{Config: 1, Clock: 9, Places: []impl.Place{{Machines: place}, {Machines: place}}}
	for range 4 {
		c.Machines = append(c.Machines, impl.Machine{Alive: true, Copies: copies, Cleared: cleared})
	}
	sets, notes := setsAtCells(1), notesAt(2)
	for id := int64(20); id < 23; id++ {
		c.Txs = append(c.Txs, impl.Tx{Id: id, Phase: phRun, Reads: notes, Sets: sets})
	}
	for _, list := range [][]impl.Op{nil, {{}}, {opOf(opRecover, 0)}, {opOf(opKill, 0, 1), opOf(opRecover, 0)}, {opOf(opRead, 20, 1, 1), opOf(opCommit, 21), opOf(opFinish, 21)}} {
		checkHistoryStays(t, c, list)
	}
}
