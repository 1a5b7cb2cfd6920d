package tests

import (
	"fmt"
	"math"
	"slices"
	"testing"

	"loop.example/g00153/impl"
)

// The codes stand here as the document numbers them, so that a changed constant is noticed.
const (
	exBad    = 1
	exTx     = 2
	exHome   = 3
	exPhase  = 4
	exCell   = 5
	exDown   = 6
	exLocked = 7
	exFree   = 8
	exFull   = 9
	exValue  = 10
)

// What a transaction may be asked to do.
const (
	begins = iota
	reads
	writes
	allocs
	drops
)

// act is one call of the chapter; Home is asked by begins alone, value by writes alone.
type act struct {
	kind                      int
	id, home, region, slot, v int64
}

// outcome is all that a call answers; number is Read's value and Alloc's slot, else 0.
type outcome struct {
	cluster      impl.Cluster
	number, code int64
}

func sameOutcome(a, b outcome) bool {
	return a.number == b.number && a.code == b.code && sameCluster(a.cluster, b.cluster)
}

func do(c impl.Cluster, a act) outcome {
	var o outcome
	switch a.kind {
	case begins:
		o.cluster, o.code = impl.Begin(c, a.id, a.home)
	case reads:
		o.cluster, o.number, o.code = impl.Read(c, a.id, a.region, a.slot)
	case writes:
		o.cluster, o.code = impl.Write(c, a.id, a.region, a.slot, a.v)
	case allocs:
		o.cluster, o.number, o.code = impl.Alloc(c, a.id, a.region)
	default:
		o.cluster, o.code = impl.Drop(c, a.id, a.region, a.slot)
	}
	return o
}

// What follows says the chapter once more, by boards that have a place for each cell.

// plainSight is a transaction that has looked at a cell, and how it sees it.
type plainSight struct {
	tx    impl.Tx
	value int64
	code  int64
}

func sightOf(tx impl.Tx, value int64, used bool) plainSight {
	if !used {
		return plainSight{tx: tx, code: exFree}
	}
	return plainSight{tx: tx, value: value}
}

func plainSee(c impl.Cluster, tx impl.Tx, region, slot int64) plainSight {
	if s := setsBoard(tx.Sets)[region*howManySlots+slot]; s != nil {
		return sightOf(tx, s.Value, s.Used)
	}
	if n := readsBoard(tx.Reads)[region*howManySlots+slot]; n != nil {
		return sightOf(tx, n.Value, n.Used)
	}
	cells, lives := plainCells(c, region)
	if !lives {
		return plainSight{tx: tx, code: exDown}
	}
	one := cells[slot]
	if one.Head%2 == 1 {
		return plainSight{tx: tx, code: exLocked}
	}
	used := one.Head%4 >= 2
	noted, room := plainAddRead(tx, impl.Note{Region: region, Slot: slot, Version: one.Head / 4, Value: one.Value, Used: used})
	if !room {
		return plainSight{tx: tx, code: exFull}
	}
	return sightOf(noted, one.Value, used)
}

// plainAhead: the codes that each call but Begin has ahead of its own.
func plainAhead(c impl.Cluster, id int64) (impl.Tx, int64) {
	if !plainClusterOk(c) {
		return impl.Tx{}, exBad
	}
	tx, found := plainFind(c, id)
	switch {
	case !found:
		return tx, exTx
	case !c.Machines[tx.Home].Alive:
		return tx, exHome
	case tx.Phase != 1:
		return tx, exPhase
	}
	return tx, 0
}

func withTx(c impl.Cluster, tx impl.Tx) impl.Cluster {
	c = deepCluster(c)
	for i := range c.Txs {
		if c.Txs[i].Id == tx.Id {
			c.Txs[i] = deepTx(tx)
		}
	}
	return c
}

// plainPut is Write and Drop: a cell that is in use gets a Set.
func plainPut(c impl.Cluster, tx impl.Tx, s impl.Set) (impl.Tx, int64) {
	seen := plainSee(c, tx, s.Region, s.Slot)
	if seen.code != 0 {
		return tx, seen.code
	}
	if n := readsBoard(seen.tx.Reads)[s.Region*howManySlots+s.Slot]; n != nil {
		s.Version = n.Version
	}
	put, room := plainAddSet(seen.tx, s)
	if !room {
		return tx, exFull
	}
	return put, 0
}

func plainAlloc(c impl.Cluster, tx impl.Tx, region int64) (impl.Tx, int64, int64) {
	cells, lives := plainCells(c, region)
	if !lives {
		return tx, -1, exDown
	}
	for slot := range int64(howManySlots) {
		cell := region*howManySlots + slot
		if cells[slot].Head%4 != 0 || readsBoard(tx.Reads)[cell] != nil || setsBoard(tx.Sets)[cell] != nil {
			continue
		}
		version := cells[slot].Head / 4
		noted, room := plainAddRead(tx, impl.Note{Region: region, Slot: slot, Version: version})
		put, more := plainAddSet(noted, impl.Set{Region: region, Slot: slot, Used: true, Version: version})
		if !room || !more {
			return tx, -1, exFull
		}
		return put, slot, 0
	}
	return tx, -1, exFull
}

func plainBegin(c impl.Cluster, a act) outcome {
	if !plainClusterOk(c) {
		return outcome{code: exBad}
	}
	high := int64(0)
	for _, tx := range c.Txs {
		high = max(high, tx.Id)
	}
	switch {
	case !within(a.id, high+1, lastId) || len(c.Txs) == mostTxs:
		return outcome{cluster: c, code: exTx}
	case !within(a.home, 0, int64(len(c.Machines))-1) || !c.Machines[a.home].Alive:
		return outcome{cluster: c, code: exHome}
	}
	c = deepCluster(c)
	c.Txs = append(c.Txs, impl.Tx{Id: a.id, Home: a.home, Phase: 1})
	return outcome{cluster: c}
}

func plainDo(c impl.Cluster, a act) outcome {
	if a.kind == begins {
		return plainBegin(c, a)
	}
	o := outcome{}
	if a.kind == allocs {
		o.number = -1
	}
	tx, code := plainAhead(c, a.id)
	slots := a.kind == allocs || within(a.slot, 0, lastSlot)
	switch {
	case code != 0:
	case a.kind == writes && !within(a.v, -lastValue, lastValue):
		code = exValue
	case !slots || !within(a.region, 0, int64(len(c.Places))-1):
		code = exCell
	case a.kind == reads:
		seen := plainSee(c, tx, a.region, a.slot)
		tx, o.number, code = seen.tx, seen.value, seen.code
	case a.kind == writes:
		tx, code = plainPut(c, tx, impl.Set{Region: a.region, Slot: a.slot, Value: a.v, Used: true})
	case a.kind == allocs:
		tx, o.number, code = plainAlloc(c, tx, a.region)
	default:
		tx, code = plainPut(c, tx, impl.Set{Region: a.region, Slot: a.slot})
	}
	o.code = code
	if code != exBad {
		o.cluster = withTx(c, tx)
	}
	return o
}

// checkDo holds a call against the plain answer, and answers what came.
func checkDo(t *testing.T, c impl.Cluster, a act) outcome {
	t.Helper()
	got, want := do(c, a), plainDo(c, a)
	if !sameOutcome(got, want) {
		t.Errorf("%+v of %+v\n= %+v\nwant %+v", a, c, got, want)
	}
	return got
}

// checkOutcome holds a call against an answer that is told by hand.
func checkOutcome(t *testing.T, c impl.Cluster, a act, want impl.Cluster, number, code int64) impl.Cluster {
	t.Helper()
	got := do(c, a)
	if !sameOutcome(got, outcome{want, number, code}) {
		t.Errorf("%+v of %+v\n= %+v\nwant %+v, %d, %d", a, c, got, want, number, code)
	}
	return got.cluster
}

// checkCode: with a code the cluster is as it was.
func checkCode(t *testing.T, c impl.Cluster, a act, code int64) {
	t.Helper()
	number := int64(0)
	if a.kind == allocs {
		number = -1
	}
	want := c
	if code == exBad {
		want = impl.Cluster{}
	}
	checkOutcome(t, c, a, want, number, code)
	checkDo(t, c, a)
}

func changedCluster(c impl.Cluster, change func(c *impl.Cluster)) impl.Cluster {
	c = deepCluster(c)
	change(&c)
	return c
}

// runningCluster: region 0's primary is machine 2, region 1's is 3, which is dead, region 2's is 1; all primaries have mixed cells.
// The transactions 4, 9 and 20 run at the machines 0, 1 and 2, and 30 at the dead 3; 11 has begun its commit.
func runningCluster() impl.Cluster {
	c := clusterOn(placesOf([]int64{2, 0}, []int64{3, 1}, []int64{1, 2, 4}), []bool{true, true, true, false, true},
		impl.Tx{Id: 4, Home: 0, Phase: 1}, impl.Tx{Id: 9, Home: 1, Phase: 1, Reads: notesAt(2, 13), Sets: setsAtCells(13)},
		impl.Tx{Id: 11, Home: 1, Phase: 2, Sets: setsAtCells(13)}, impl.Tx{Id: 20, Home: 2, Phase: 1}, impl.Tx{Id: 30, Home: 3, Phase: 1})
	for region, p := range c.Places {
		setCells(&c, int64(region), p.Machines[0], mixedCells())
	}
	return c
}

func setCells(c *impl.Cluster, region, machine int64, cells []impl.Cell) {
	for i := range c.Machines[machine].Copies {
		if one := &c.Machines[machine].Copies[i]; one.Region == region {
			one.Cells = slices.Clone(cells)
		}
	}
}

// setPrimary changes a cell of a region's primary.
func setPrimary(c impl.Cluster, region, slot int64, one impl.Cell) impl.Cluster {
	c = deepCluster(c)
	primary := c.Places[region].Machines[0]
	cells, _ := plainCopied(c.Machines[primary], region)
	setCells(&c, region, primary, withCell(cells, slot, one))
	return c
}

// openCluster has one region, whose cells are openCells on each of its three machines.
func openCluster(txs ...impl.Tx) impl.Cluster {
	c := clusterOn(placesOf([]int64{0, 1, 2}), []bool{true, true, true}, txs...)
	for m := range int64(3) {
		setCells(&c, 0, m, openCells())
	}
	return c
}

func TestCodesOfRunning(t *testing.T) {
	codes := []int64{impl.ExBad, impl.ExTx, impl.ExHome, impl.ExPhase, impl.ExCell, impl.ExDown, impl.ExLocked, impl.ExFree, impl.ExFull, impl.ExValue}
	if !slices.Equal(codes, idsFrom(1, 1, 10)) {
		t.Errorf("the codes are %v", codes)
	}
}

func TestBeginByHand(t *testing.T) {
	c, _ := impl.NewCluster(2, 4)
	for i, id := range []int64{1, 2, 50, lastId - 1, lastId} {
		want := deepCluster(c)
		want.Txs = append(want.Txs, impl.Tx{Id: id, Home: int64(i % 4), Phase: 1})
		c = checkOutcome(t, c, act{kind: begins, id: id, home: int64(i % 4)}, want, 0, 0)
	}
	for _, id := range []int64{math.MinInt64, -1, 0, 1, 2, 3, 50, lastId - 1, lastId, lastId + 1, math.MaxInt64} {
		checkCode(t, c, act{kind: begins, id: id}, exTx)
	}
}

// Each Id around those that there are: only one above all may begin.
func TestBeginAboveAll(t *testing.T) {
	for _, ids := range [][]int64{nil, {1}, {2, 7}, {lastId - 1}, {lastId}, {3, lastId}} {
		c := clusterOn(placesOf([]int64{0}), []bool{true, false, true}, someOf(ids, 1, 3)...)
		high := int64(0)
		if len(ids) > 0 {
			high = ids[len(ids)-1]
		}
		for _, id := range []int64{math.MinInt64, -1, 0, 1, 2, 3, 4, 6, 7, 8, lastId - 2, lastId - 1, lastId, lastId + 1, math.MaxInt64} {
			if id > high && id <= 1000000 {
				want := deepCluster(c)
				want.Txs = append(want.Txs, impl.Tx{Id: id, Home: 2, Phase: 1})
				checkOutcome(t, c, act{kind: begins, id: id, home: 2}, want, 0, 0)
			} else {
				checkCode(t, c, act{kind: begins, id: id, home: 2}, exTx)
				checkCode(t, c, act{kind: begins, id: id, home: 1}, exTx)
				checkCode(t, c, act{kind: begins, id: id, home: 9}, exTx)
			}
		}
	}
}

func TestBeginAtEachHome(t *testing.T) {
	for machines := 1; machines <= howManyMachines; machines++ {
		for _, choice := range []int{0xff, 0x5a, 0x81, 0} {
			c := clusterOn(placesOf([]int64{0}), aliveAs(machines, choice), impl.Tx{Id: 3, Phase: 1})
			for _, home := range []int64{math.MinInt64, -1, 0, 1, 2, 3, 4, 5, 6, 7, 8, math.MaxInt64} {
				a := act{kind: begins, id: 4, home: home}
				if home < 0 || home >= int64(machines) || choice>>home&1 == 0 {
					checkCode(t, c, a, exHome)
					continue
				}
				want := deepCluster(c)
				want.Txs = append(want.Txs, impl.Tx{Id: 4, Home: home, Phase: 1})
				checkOutcome(t, c, a, want, 0, 0)
			}
		}
	}
}

func TestSoManyBegin(t *testing.T) {
	c, _ := impl.NewCluster(1, 2)
	for id := int64(1); id <= 60; id++ {
		next, code := impl.Begin(c, id, id%2)
		if code != 0 || len(next.Txs) != int(id) || next.Txs[id-1].Id != id || next.Txs[id-1].Home != id%2 {
			t.Fatalf("Begin of %d = %+v, %d", id, next.Txs, code)
		}
		c = next
	}
	for _, id := range []int64{61, 62, lastId} {
		checkCode(t, c, act{kind: begins, id: id}, exTx)
		checkCode(t, c, act{kind: begins, id: id, home: 2}, exTx)
	}
}

func TestReadByHand(t *testing.T) {
	c := openCluster(impl.Tx{Id: 5, Home: 1, Phase: 1})
	first := impl.Note{Slot: 3, Version: 12, Value: lastValue, Used: true}
	want := changedCluster(c, func(c *impl.Cluster) { c.Txs[0].Reads = []impl.Note{first} })
	c = checkOutcome(t, c, act{kind: reads, id: 5, slot: 3}, want, lastValue, 0)
	checkOutcome(t, c, act{kind: reads, id: 5, slot: 3}, want, lastValue, 0)
	second := impl.Note{Slot: 1, Version: 3, Value: -7, Used: true}
	want.Txs[0].Reads = []impl.Note{second, first}
	c = checkOutcome(t, c, act{kind: reads, id: 5, slot: 1}, want, -7, 0)
	// A free cell is noted with the code, once.
	want.Txs[0].Reads = []impl.Note{second, first, {Slot: 4, Version: 9}}
	c = checkOutcome(t, c, act{kind: reads, id: 5, slot: 4}, want, 0, exFree)
	checkOutcome(t, c, act{kind: reads, id: 5, slot: 4}, want, 0, exFree)
	want.Txs[0].Reads = []impl.Note{{}, second, first, {Slot: 4, Version: 9}}
	checkOutcome(t, c, act{kind: reads, id: 5}, want, 0, exFree)
	checkClusterOk(t, want, true)
}

// The primary is asked, no backup, and no other region.
func TestReadsOfTheRightCells(t *testing.T) {
	for _, choice := range []int{0xff, 0xfe} {
		c := clusterOn(placesOf([]int64{1, 0, 2}, []int64{2}, []int64{1, 2}), aliveAs(3, choice), impl.Tx{Id: 5, Home: 2, Phase: 1})
		for region := range int64(3) {
			for slot := range int64(howManySlots) {
				checkDo(t, c, act{kind: reads, id: 5, region: region, slot: slot})
			}
		}
		setCells(&c, 2, 1, withCell(openCells(), 5, cellOf(77, true, false, 1234)))
		want := changedCluster(c, func(c *impl.Cluster) {
			c.Txs[0].Reads = []impl.Note{{Region: 2, Slot: 5, Version: 77, Value: 1234, Used: true}}
		})
		checkOutcome(t, c, act{kind: reads, id: 5, region: 2, slot: 5}, want, 1234, 0)
	}
}

func TestWriteByHand(t *testing.T) {
	c := openCluster(impl.Tx{Id: 5, Home: 1, Phase: 1})
	want := changedCluster(c, func(c *impl.Cluster) {
		c.Txs[0].Reads = []impl.Note{{Slot: 2, Version: 4, Value: 40, Used: true}}
		c.Txs[0].Sets = []impl.Set{{Slot: 2, Value: -6, Used: true, Version: 4}}
	})
	c = checkOutcome(t, c, act{kind: writes, id: 5, slot: 2, v: -6}, want, 0, 0)
	checkOutcome(t, c, act{kind: reads, id: 5, slot: 2}, want, -6, 0)
	want.Txs[0].Sets[0].Value = 8
	c = checkOutcome(t, c, act{kind: writes, id: 5, slot: 2, v: 8}, want, 0, 0)
	checkOutcome(t, c, act{kind: reads, id: 5, slot: 2}, want, 8, 0)
	// A free cell is not even noted.
	checkCode(t, c, act{kind: writes, id: 5, slot: 4, v: 1}, exFree)
	checkCode(t, c, act{kind: writes, id: 5, slot: 0, v: 1}, exFree)
	want.Txs[0].Reads = append([]impl.Note{{Slot: 1, Version: 3, Value: -7, Used: true}}, want.Txs[0].Reads...)
	want.Txs[0].Sets = append([]impl.Set{{Slot: 1, Value: 0, Used: true, Version: 3}}, want.Txs[0].Sets...)
	checkOutcome(t, c, act{kind: writes, id: 5, slot: 1}, want, 0, 0)
}

func TestValuesAtTheirLimits(t *testing.T) {
	c := openCluster(impl.Tx{Id: 5, Home: 1, Phase: 1})
	for _, v := range []int64{-lastValue, 1 - lastValue, -1, 0, 1, lastValue - 1, lastValue} {
		got := checkDo(t, c, act{kind: writes, id: 5, slot: 1, v: v})
		if again := do(got.cluster, act{kind: reads, id: 5, slot: 1}); got.code != 0 || again.code != 0 || again.number != v {
			t.Errorf("%d is written with %d and read as %d with %d", v, got.code, again.number, again.code)
		}
	}
	for _, v := range []int64{math.MinInt64, -lastValue - 1, lastValue + 1, math.MaxInt64} {
		for slot := int64(-1); slot <= howManySlots; slot++ {
			checkCode(t, c, act{kind: writes, id: 5, slot: slot, v: v}, exValue)
		}
	}
}

func TestAllocByHand(t *testing.T) {
	c := openCluster(impl.Tx{Id: 5, Home: 1, Phase: 1})
	want := changedCluster(c, func(c *impl.Cluster) {
		c.Txs[0].Reads = []impl.Note{{}}
		c.Txs[0].Sets = []impl.Set{{Used: true}}
	})
	c = checkOutcome(t, c, act{kind: allocs, id: 5}, want, 0, 0)
	checkOutcome(t, c, act{kind: reads, id: 5, slot: 0}, want, 0, 0)
	want.Txs[0].Reads = append(want.Txs[0].Reads, impl.Note{Slot: 4, Version: 9})
	want.Txs[0].Sets = append(want.Txs[0].Sets, impl.Set{Slot: 4, Used: true, Version: 9})
	c = checkOutcome(t, c, act{kind: allocs, id: 5}, want, 4, 0)
	checkCode(t, c, act{kind: allocs, id: 5}, exFull)
	want.Txs[0].Sets[1].Value = 12
	c = checkOutcome(t, c, act{kind: writes, id: 5, slot: 4, v: 12}, want, 0, 0)
	want.Txs[0].Sets[1] = impl.Set{Slot: 4, Version: 9}
	c = checkOutcome(t, c, act{kind: drops, id: 5, slot: 4}, want, 0, 0)
	// What it dropped itself is not free for it until the commit.
	checkCode(t, c, act{kind: allocs, id: 5}, exFull)
	checkCode(t, c, act{kind: reads, id: 5, slot: 4}, exFree)
}

// Each slot that a note or a Set has is passed over, as are those that are locked or in use; with none left there is no room.
func TestAllocPassesOver(t *testing.T) {
	for _, notes := range slotChoices() {
		for _, sets := range slotChoices() {
			tx := impl.Tx{Id: 5, Home: 1, Phase: 1, Reads: notesAt(notes...), Sets: setsAtCells(sets...)}
			c := openCluster(tx)
			setCells(&c, 0, 0, impl.NewCells())
			slot := int64(0)
			for slices.Contains(notes, slot) || slices.Contains(sets, slot) {
				slot++
			}
			got := checkDo(t, c, act{kind: allocs, id: 5})
			if slot <= lastSlot && (got.number != slot || got.code != 0) || slot > lastSlot && (got.number != -1 || got.code != exFull) {
				t.Errorf("Alloc beside %v and %v = %d, %d", notes, sets, got.number, got.code)
			}
		}
	}
	for _, closed := range slotChoices() {
		for _, one := range []impl.Cell{cellOf(3, true, false, 8), cellOf(3, false, true, 0), cellOf(3, true, true, -8)} {
			c := openCluster(impl.Tx{Id: 5, Home: 1, Phase: 1})
			cells := impl.NewCells()
			for _, slot := range closed {
				cells[slot] = one
			}
			setCells(&c, 0, 0, cells)
			got := checkDo(t, c, act{kind: allocs, id: 5})
			if len(closed) == howManySlots {
				checkCode(t, c, act{kind: allocs, id: 5}, exFull)
			} else if got.code != 0 || slices.Contains(closed, got.number) {
				t.Errorf("Alloc of %v = %d, %d", cells, got.number, got.code)
			}
		}
	}
}

// Notes and Sets of another region's cells do not matter to Alloc.
func TestAllocBesideOtherRegions(t *testing.T) {
	tx := impl.Tx{Id: 5, Home: 1, Phase: 1, Reads: notesAt(0, 1, 12, 13), Sets: setsAtCells(1, 2, 14)}
	c := clusterOn(placesOf([]int64{0}, []int64{1}, []int64{1}), []bool{true, true}, tx)
	for region := range int64(3) {
		setCells(&c, region, c.Places[region].Machines[0], impl.NewCells())
	}
	for region, slot := range []int64{3, 0, 3} {
		if got := checkDo(t, c, act{kind: allocs, id: 5, region: int64(region)}); got.code != 0 || got.number != slot {
			t.Errorf("Alloc of region %d = %d, %d", region, got.number, got.code)
		}
	}
}

func TestDropByHand(t *testing.T) {
	c := openCluster(impl.Tx{Id: 5, Home: 1, Phase: 1})
	want := changedCluster(c, func(c *impl.Cluster) {
		c.Txs[0].Reads = []impl.Note{{Slot: 2, Version: 4, Value: 40, Used: true}}
		c.Txs[0].Sets = []impl.Set{{Slot: 2, Version: 4}}
	})
	dropped := checkOutcome(t, c, act{kind: drops, id: 5, slot: 2}, want, 0, 0)
	checkCode(t, dropped, act{kind: reads, id: 5, slot: 2}, exFree)
	checkCode(t, dropped, act{kind: writes, id: 5, slot: 2, v: 3}, exFree)
	checkCode(t, dropped, act{kind: drops, id: 5, slot: 2}, exFree)
	checkCode(t, dropped, act{kind: drops, id: 5, slot: 4}, exFree)
	// What was written is dropped with the version that was read.
	written := do(c, act{kind: writes, id: 5, slot: 2, v: 3}).cluster
	checkOutcome(t, written, act{kind: drops, id: 5, slot: 2}, want, 0, 0)
}

func TestEachCodeAlone(t *testing.T) {
	c := runningCluster()
	for _, kind := range []int{reads, writes, allocs, drops} {
		of := func(id, region, slot int64) act { return act{kind: kind, id: id, region: region, slot: slot} }
		for _, id := range []int64{math.MinInt64, -4, 0, 1, 3, 5, 31, lastId, lastId + 1, math.MaxInt64} {
			checkCode(t, c, of(id, 0, 1), exTx)
		}
		checkCode(t, c, of(30, 0, 1), exHome)
		checkCode(t, c, of(11, 0, 1), exPhase)
		for _, region := range []int64{math.MinInt64, -1, 3, 5, 6, math.MaxInt64} {
			checkCode(t, c, of(4, region, 1), exCell)
		}
		checkCode(t, c, of(4, 1, 1), exDown)
		if kind != allocs {
			for _, slot := range []int64{math.MinInt64, -1, 6, 7, math.MaxInt64} {
				checkCode(t, c, of(4, 0, slot), exCell)
			}
			checkCode(t, c, of(4, 0, 2), exLocked)
			checkCode(t, c, of(4, 2, 4), exLocked)
		}
		for _, bad := range wrongClusters() {
			checkCode(t, bad, of(2, 0, 1), exBad)
			checkCode(t, bad, of(7, 0, 1), exBad)
		}
	}
	for _, bad := range wrongClusters() {
		checkCode(t, bad, act{kind: begins, id: lastId}, exBad)
		checkCode(t, bad, act{kind: begins}, exBad)
	}
	checkCode(t, c, act{kind: writes, id: 4, slot: 0, v: 3}, exFree)
	checkCode(t, c, act{kind: drops, id: 4, slot: 0}, exFree)
	checkCode(t, c, act{kind: writes, id: 4, slot: 1, v: lastValue + 1}, exValue)
}

func TestOnlyRunningMayRun(t *testing.T) {
	for phase := int64(1); phase <= lastPhase; phase++ {
		c := openCluster(impl.Tx{Id: 5, Home: 1, Phase: phase})
		for _, kind := range []int{reads, writes, allocs, drops} {
			a := act{kind: kind, id: 5, slot: 1}
			if phase > 1 {
				checkCode(t, c, a, exPhase)
			} else if got := checkDo(t, c, a); got.code != 0 {
				t.Errorf("%+v = %d", a, got.code)
			}
		}
	}
}

// Cells of each region and slot around their limits, in clusters of each number of regions.
func TestCellsAtTheirEdges(t *testing.T) {
	for regions := 1; regions <= howManyRegions; regions++ {
		c := clusterOn(placesWithin(regions, 4, 1), aliveAs(4, 0xff), impl.Tx{Id: 5, Home: 1, Phase: 1})
		for _, region := range []int64{math.MinInt64, -1, 0, int64(regions - 1), int64(regions), 5, 6, math.MaxInt64} {
			for _, slot := range []int64{math.MinInt64, -1, 0, 1, 2, 5, 6, math.MaxInt64} {
				for _, kind := range []int{reads, writes, allocs, drops} {
					none := !within(region, 0, int64(regions-1)) || kind != allocs && !within(slot, 0, 5)
					if got := checkDo(t, c, act{kind: kind, id: 5, region: region, slot: slot}); none != (got.code == exCell) {
						t.Errorf("kind %d at %d, %d of %d regions = %d", kind, region, slot, regions, got.code)
					}
				}
			}
		}
	}
}

// What a transaction may know of a cell ahead of a call.
const (
	knowsNothing = iota
	notedInUse
	notedFree
	setInUse
	setFree
	setWithoutNote
	howManyWaysToKnow
)

// plight is all that may stand in the way of a call at slot 2 of region 0, each by itself.
type plight struct {
	bad, noTx, noHome, phase, noValue, noRegion, noSlot bool
	down, locked, fullNotes, free, fullSets             bool
	knows                                               int
}

const howManyPlights = 1 << 12 * howManyWaysToKnow

func plightOf(choice int) plight {
	is := func(bit int) bool { return choice>>bit&1 == 1 }
	return plight{
		is(0), is(1), is(2), is(3), is(4), is(5), is(6), is(7), is(8), is(9), is(10), is(11), choice >> 12 % howManyWaysToKnow,
	}
}

// tx runs at machine 0; its other cells are of the regions 1 and 2.
func (p plight) tx() impl.Tx {
	tx := impl.Tx{Id: 5, Home: 0, Phase: 1}
	if p.phase {
		tx.Phase = 4
	}
	if p.knows != knowsNothing && p.knows != setWithoutNote {
		tx.Reads = append(tx.Reads, impl.Note{Slot: 2, Version: 70, Value: 71, Used: p.knows != notedFree})
	}
	if p.knows >= setInUse {
		tx.Sets = append(tx.Sets, impl.Set{Slot: 2, Version: 80, Value: 81, Used: p.knows != setFree})
	}
	for cell := int64(6); p.fullNotes && len(tx.Reads) < mostSets; cell++ {
		tx.Reads = append(tx.Reads, noteAt(cell))
	}
	for cell := int64(6); p.fullSets && len(tx.Sets) < mostSets; cell++ {
		tx.Sets = append(tx.Sets, setAt(cell))
	}
	return tx
}

func (p plight) cluster() impl.Cluster {
	c := clusterOn(placesOf([]int64{1, 2}, []int64{2}, []int64{2}), []bool{!p.noHome, !p.down, true}, p.tx())
	one := cellOf(60, !p.free, p.locked, 61)
	if p.free {
		one.Value = 0
	}
	setCells(&c, 0, 1, withCell(openCells(), 2, one))
	if p.bad {
		c.Config = 0
	}
	return c
}

func (p plight) act(kind int) act {
	a := act{kind: kind, id: 5, slot: 2, v: 7}
	if p.noTx {
		a.id = 6
	}
	if p.noValue {
		a.v = lastValue + 1
	}
	if p.noRegion {
		a.region = 3
	}
	if p.noSlot {
		a.slot = -1
	}
	return a
}

// code: the first of the document's list that applies to a call of that kind.
func (p plight) code(kind int) int64 {
	puts := kind == writes || kind == drops
	unknown := p.knows == knowsNothing
	list := []struct {
		applies bool
		code    int64
	}{
		{p.bad, exBad}, {p.noTx, exTx}, {p.noHome, exHome}, {p.phase, exPhase}, {p.noValue && kind == writes, exValue},
		{p.noRegion || p.noSlot, exCell}, {p.down && unknown, exDown}, {p.locked && unknown, exLocked}, {p.fullNotes && unknown, exFull},
		{p.free && unknown || p.knows == notedFree || p.knows == setFree, exFree}, {puts && p.fullSets && p.knows < setInUse, exFull},
	}
	for _, one := range list {
		if one.applies {
			return one.code
		}
	}
	return 0
}

// sees: what the cell's value is for the transaction, where it has one.
func (p plight) sees() int64 { return []int64{61, 71, 0, 81, 0, 81}[p.knows] }

// Everything that may stand in the way together with everything else: the code is the one that is named first.
func TestCodesInTheirOrder(t *testing.T) {
	for choice := range howManyPlights {
		p := plightOf(choice)
		c := p.cluster()
		for _, kind := range []int{reads, writes, drops} {
			a, code := p.act(kind), p.code(kind)
			got := do(c, a)
			if got.code != code {
				t.Fatalf("%+v: %+v = %d, want %d", p, a, got.code, code)
			}
			number := int64(0)
			if kind == reads && code == 0 {
				number = p.sees()
			}
			if got.number != number {
				t.Fatalf("%+v: %+v answers %d, want %d", p, a, got.number, number)
			}
			p.checkCluster(t, c, got, kind)
		}
	}
}

// checkCluster: the cluster as it was, but for the cell's note (of a Read with ExFree, too) and its Set.
func (p plight) checkCluster(t *testing.T, c impl.Cluster, got outcome, kind int) {
	t.Helper()
	want := deepCluster(c)
	notes := got.code == 0 || kind == reads && got.code == exFree
	if notes && p.knows == knowsNothing {
		note := impl.Note{Slot: 2, Version: 60, Value: 61, Used: true}
		if p.free {
			note.Value, note.Used = 0, false
		}
		want.Txs[0].Reads = append([]impl.Note{note}, want.Txs[0].Reads...)
	}
	if kind != reads && got.code == 0 {
		set := impl.Set{Slot: 2, Version: []int64{60, 70, 0, 80, 0, 80}[p.knows]}
		if kind == writes {
			set.Value, set.Used = 7, true
		}
		if p.knows >= setInUse {
			want.Txs[0].Sets = want.Txs[0].Sets[1:]
		}
		want.Txs[0].Sets = append([]impl.Set{set}, want.Txs[0].Sets...)
	}
	if got.code == exBad {
		want = impl.Cluster{}
	}
	if !sameCluster(got.cluster, want) {
		t.Fatalf("%+v: kind %d answers %d and\n%+v\nwant %+v", p, kind, got.code, got.cluster, want)
	}
}

// As above for Alloc, whose slot is 0, or 4 where it knows of 0, or none where all are in use.
func TestCodesOfAllocInTheirOrder(t *testing.T) {
	for choice := range 1 << 9 {
		p := plightOf(choice&0x3f | choice&0x40<<1 | choice&0x80<<2 | choice&0x100<<3)
		c := p.cluster()
		if choice>>4&1 == 1 {
			setCells(&c, 0, 1, slices.Repeat([]impl.Cell{cellOf(1, true, false, 9)}, howManySlots))
		}
		list := []struct {
			applies bool
			code    int64
		}{
			{p.bad, exBad}, {p.noTx, exTx}, {p.noHome, exHome}, {p.phase, exPhase}, {p.noRegion, exCell}, {p.down, exDown},
			{choice>>4&1 == 1 || p.fullNotes || p.fullSets, exFull}, {true, 0},
		}
		for _, one := range list {
			if !one.applies {
				continue
			}
			if one.code != 0 {
				checkCode(t, c, p.act(allocs), one.code)
			} else if got := checkDo(t, c, p.act(allocs)); got.code != 0 || got.number != 0 {
				t.Errorf("%+v: Alloc = %d, %d", p, got.number, got.code)
			}
			break
		}
	}
}

func TestCodesOfBeginInTheirOrder(t *testing.T) {
	for choice := range 1 << 4 {
		bad, many, low, home := choice&1 == 1, choice&2 == 2, choice&4 == 4, choice&8 == 8
		ids := []int64{3, 8}
		if many {
			ids = idsFrom(3, 3, mostTxs)
		}
		c := clusterOn(placesOf([]int64{0}), []bool{true, false}, someOf(ids, 1, 2)...)
		if bad {
			c.Clock = -1
		}
		a := act{kind: begins, id: 5000}
		if low {
			a.id = 8
		}
		for _, none := range []int64{1, 2, -1} {
			if home {
				a.home = none
			}
			switch {
			case bad:
				checkCode(t, c, a, exBad)
			case many || low:
				checkCode(t, c, a, exTx)
			case home:
				checkCode(t, c, a, exHome)
			default:
				if got := checkDo(t, c, a); got.code != 0 {
					t.Errorf("%+v = %d", a, got.code)
				}
			}
		}
	}
}

// A cell of the last version has no next one: it is read, but nothing can be set there.
func TestCellsOfTheLastVersion(t *testing.T) {
	for _, version := range []int64{0, lastSetVersion, lastVersion} {
		code := int64(0)
		if version == 1000000 {
			code = exFull
		}
		c := setPrimary(openCluster(impl.Tx{Id: 5, Home: 1, Phase: 1}), 0, 1, cellOf(version, true, false, 33))
		if got := checkDo(t, c, act{kind: reads, id: 5, slot: 1}); got.code != 0 || got.number != 33 {
			t.Errorf("a cell of version %d is read as %d with %d", version, got.number, got.code)
		}
		for _, kind := range []int{writes, drops} {
			if got := checkDo(t, c, act{kind: kind, id: 5, slot: 1}); got.code != code {
				t.Errorf("kind %d of a cell of version %d = %d", kind, version, got.code)
			}
		}
		c = setPrimary(c, 0, 0, cellOf(version, false, false, 0))
		if got := checkDo(t, c, act{kind: allocs, id: 5}); got.code != code {
			t.Errorf("Alloc of a cell of version %d = %d", version, got.code)
		}
	}
}

// A transaction fills its notes and Sets one by one, up to the last there is room for; what it has by then it reads and writes still.
func TestNotesAndSetsUpToTheLast(t *testing.T) {
	used := slices.Repeat([]impl.Cell{cellOf(2, true, false, 5)}, howManySlots)
	c := clusterOn(placesOf([]int64{0}, []int64{0}, []int64{0}), []bool{true, true}, impl.Tx{Id: 5, Home: 1, Phase: 1})
	for region := range int64(3) {
		setCells(&c, region, 0, used)
	}
	setCells(&c, 2, 0, withCell(used, 3, impl.Cell{}))
	written := c
	for cell := range int64(12) {
		read := checkDo(t, c, act{kind: reads, id: 5, region: cell / 6, slot: cell % 6})
		wrote := checkDo(t, written, act{kind: writes, id: 5, region: cell / 6, slot: cell % 6, v: cell})
		if read.code != 0 || wrote.code != 0 {
			t.Fatalf("cell %d: read with %d, written with %d", cell, read.code, wrote.code)
		}
		c, written = read.cluster, wrote.cluster
	}
	for _, full := range []impl.Cluster{c, written} {
		for _, kind := range []int{reads, writes, allocs, drops} {
			for slot := range int64(howManySlots) {
				checkCode(t, full, act{kind: kind, id: 5, region: 2, slot: slot}, exFull)
			}
		}
		for cell := range int64(12) {
			for _, kind := range []int{reads, writes, drops} {
				if got := checkDo(t, full, act{kind: kind, id: 5, region: cell / 6, slot: cell % 6, v: 6}); got.code != 0 {
					t.Errorf("kind %d of cell %d = %d, though it is noted", kind, cell, got.code)
				}
			}
		}
	}
}

// What was read or written is read again, whatever becomes of the primary and its cell.
func TestWhatWasReadStaysRead(t *testing.T) {
	start := openCluster(impl.Tx{Id: 5, Home: 1, Phase: 1}, impl.Tx{Id: 6, Home: 2, Phase: 1})
	read := do(start, act{kind: reads, id: 5, slot: 2}).cluster
	free := do(start, act{kind: reads, id: 5, slot: 0}).cluster
	written := do(start, act{kind: writes, id: 5, slot: 2, v: 9}).cluster
	for _, one := range []impl.Cell{cellOf(4, true, true, 40), cellOf(5, true, false, 41), cellOf(5, false, false, 0), cellOf(lastVersion, true, true, 1)} {
		for _, alive := range []bool{true, false} {
			later := func(c impl.Cluster, slot int64) impl.Cluster {
				c = setPrimary(c, 0, slot, one)
				c.Machines[0].Alive = alive
				return c
			}
			checkOutcome(t, later(read, 2), act{kind: reads, id: 5, slot: 2}, later(read, 2), 40, 0)
			checkOutcome(t, later(free, 0), act{kind: reads, id: 5, slot: 0}, later(free, 0), 0, exFree)
			checkOutcome(t, later(written, 2), act{kind: reads, id: 5, slot: 2}, later(written, 2), 9, 0)
			// Another transaction has not read it.
			checkDo(t, later(read, 2), act{kind: reads, id: 6, slot: 2})
			got := checkDo(t, later(read, 2), act{kind: writes, id: 5, slot: 2, v: 1})
			if want := (impl.Set{Slot: 2, Value: 1, Used: true, Version: 4}); got.code != 0 || !slices.Equal(got.cluster.Txs[0].Sets, []impl.Set{want}) {
				t.Errorf("it is written with %d, and the Sets are %+v", got.code, got.cluster.Txs)
			}
		}
	}
}

// Of a cell with a Set the Set's value counts, whatever the note says, and a free cell's value is never told.
func TestSetsAreSeenAheadOfNotes(t *testing.T) {
	for _, used := range []bool{true, false} {
		n := impl.Note{Slot: 1, Version: 2, Value: 30, Used: !used}
		s := impl.Set{Slot: 1, Version: 2, Value: 40, Used: used}
		c := openCluster(impl.Tx{Id: 5, Home: 1, Phase: 1, Reads: []impl.Note{n}, Sets: []impl.Set{s}})
		if used {
			checkOutcome(t, c, act{kind: reads, id: 5, slot: 1}, c, 40, 0)
		} else {
			checkCode(t, c, act{kind: reads, id: 5, slot: 1}, exFree)
			checkCode(t, c, act{kind: writes, id: 5, slot: 1}, exFree)
			checkCode(t, c, act{kind: drops, id: 5, slot: 1}, exFree)
		}
		c.Txs[0].Sets = nil
		checkDo(t, c, act{kind: reads, id: 5, slot: 1})
	}
}

// Everything of the chapter, held against the plain answers over clusters of all kinds.
func TestRunningAgainstThePlainAnswers(t *testing.T) {
	for i, c := range append(goodClusters(), runningCluster(), ordinaryCluster()) {
		c = deepCluster(c)
		ids := []int64{1}
		for k := range c.Txs {
			// Some are left in their Phase.
			if c.Txs[k].Id%5 != 0 {
				c.Txs[k].Phase = 1
			}
			ids = append(ids, c.Txs[k].Id)
		}
		checkDo(t, c, act{kind: begins, id: ids[len(ids)-1] + 1, home: int64(i % 9)})
		for k := range 24 {
			id := ids[(i+7*k)%len(ids)]
			a := act{kind: 1 + k%4, id: id, region: int64((i + k) % (len(c.Places) + 1)), slot: int64((i/2 + 5*k) % 7), v: int64(k)}
			checkDo(t, c, a)
		}
	}
}

// known is how a transaction has to see a cell from now on.
type known struct {
	value int64
	used  bool
}

// runs are transactions under way in one cluster, and what each of them knows of the cells by what it read and wrote.
type runs struct {
	t       *testing.T
	cluster impl.Cluster
	knows   []map[int64]known
	next    func(below uint64) int64
}

func newRuns(t *testing.T, seed int) *runs {
	state := uint64(seed)*2654435761 + 1
	next := func(below uint64) int64 {
		state = state*6364136223846793005 + 1442695040888963407
		return int64(state >> 33 % below)
	}
	r := &runs{t: t, cluster: clusterOn(placesWithin(1+seed%4, 5, seed), aliveAs(5, 0xff)), next: next}
	for i := range 4 {
		r.cluster = checkDo(t, r.cluster, act{kind: begins, id: int64(3*i + 1), home: int64((seed + i) % 5)}).cluster
		r.knows = append(r.knows, map[int64]known{})
	}
	return r
}

// step lets one of the transactions do something, and learn from the answer.
func (r *runs) step() {
	who := r.next(4)
	a := act{kind: int(1 + r.next(4)), id: 3*who + 1, region: r.next(uint64(len(r.cluster.Places))), slot: r.next(6), v: r.next(2000) - 1000}
	before := r.cluster
	got := checkDo(r.t, before, a)
	if a.kind == allocs {
		a.slot = got.number
	}
	cell := a.region*howManySlots + a.slot
	was, is := r.knows[who][cell]
	now := known{used: true}
	switch {
	case a.kind == reads && (got.code == 0 || got.code == exFree):
		now = known{got.number, got.code == 0}
		if is && now != was {
			r.t.Fatalf("%+v answers %+v, but it knew %+v", a, now, was)
		}
	case got.code != 0:
		now = was
	case a.kind == writes:
		now.value = a.v
	case a.kind == allocs:
		r.checkAllocated(a, is)
	case a.kind == drops:
		now.used = false
	}
	if is || got.code == 0 || a.kind == reads && got.code == exFree {
		r.knows[who][cell] = now
	}
	r.cluster = got.cluster
	r.checkOnlyTx(before, who)
}

// checkAllocated: the slot was free and not locked, and none that the transaction knew.
func (r *runs) checkAllocated(a act, is bool) {
	cells, lives := plainCells(r.cluster, a.region)
	if is || !lives || cells[a.slot].Head%4 != 0 {
		r.t.Fatalf("%+v answers a slot of %v that it knew: %v", a, cells, is)
	}
}

// checkOnlyTx: nothing but the one transaction has changed, and of that nothing but its notes and Sets.
func (r *runs) checkOnlyTx(before impl.Cluster, who int64) {
	want := deepCluster(before)
	want.Txs[who].Reads, want.Txs[who].Sets = r.cluster.Txs[who].Reads, r.cluster.Txs[who].Sets
	if !sameCluster(r.cluster, want) {
		r.t.Fatalf("more than transaction number %d has changed:\n%+v\nwas\n%+v", who, r.cluster, before)
	}
	checkClusterOk(r.t, r.cluster, true)
}

// disturb changes a primary's cell as others' commits would, or lets a machine die or come back, which may be a Home as well.
func (r *runs) disturb() {
	region, slot := r.next(uint64(len(r.cluster.Places))), r.next(6)
	primary := &r.cluster.Machines[r.cluster.Places[region].Machines[0]]
	cells, _ := plainCopied(*primary, region)
	switch head := cells[slot].Head; r.next(5) {
	case 0:
		r.cluster = setPrimary(r.cluster, region, slot, impl.Cell{Head: head ^ 1, Value: cells[slot].Value})
	case 1:
		r.cluster = setPrimary(r.cluster, region, slot, impl.Cell{Head: min(head/4+1, lastSetVersion) * 4})
	case 2, 3:
		r.cluster = setPrimary(r.cluster, region, slot, impl.Cell{Head: min(head/4+1, lastSetVersion)*4 + 2, Value: r.next(3000)})
	default:
		primary.Alive = !primary.Alive
	}
}

// checkAllKnown: each transaction whose Home lives sees each cell that it knows as it knows it, and nothing changes by that.
func (r *runs) checkAllKnown() {
	for who, knows := range r.knows {
		for cell, is := range knows {
			a := act{kind: reads, id: int64(3*who + 1), region: cell / howManySlots, slot: cell % howManySlots}
			got := do(r.cluster, a)
			if !r.cluster.Machines[r.cluster.Txs[who].Home].Alive {
				continue
			}
			if got.number != is.value || is.used != (got.code == 0) || !is.used && got.code != exFree || !sameCluster(got.cluster, r.cluster) {
				r.t.Fatalf("%+v = %d, %d, but it knows %+v", a, got.number, got.code, is)
			}
		}
	}
}

// Several transactions read and write by a fixed rule, while the cells and machines change behind their backs.
func TestPromise9(t *testing.T) {
	sure := 0
	for seed := range 40 {
		r := newRuns(t, seed)
		for step := range 80 {
			r.step()
			if r.next(3) == 0 {
				r.disturb()
			}
			if step%8 == 7 {
				r.checkAllKnown()
			}
		}
		for _, knows := range r.knows {
			sure += len(knows)
		}
	}
	if sure < 40*4*5 {
		t.Errorf("only %d cells were known in the end", sure)
	}
}

// outerLists are those whose members have lists themselves; they are told by what is not kept in those.
func outerLists(c impl.Cluster) []innerList {
	lists := []innerList{
		outerList(c.Places, placeOf(), func(p impl.Place) int64 { return int64(len(p.Machines)) }),
		outerList(c.Machines, machineOf(nil, recordsOf(9)), func(m impl.Machine) int64 { return int64(len(m.Log)) }),
		outerList(c.Txs, impl.Tx{Id: -98}, func(tx impl.Tx) int64 { return tx.Id }),
	}
	for _, m := range c.Machines {
		lists = append(lists, outerList(m.Log, impl.Record{Tx: -98}, func(r impl.Record) int64 { return r.Tx }))
	}
	return lists
}

func outerList[T any](list []T, mark T, key func(T) int64) innerList {
	spoil := func() {
		room := list[:cap(list)]
		for i := range room {
			room[i] = mark
		}
	}
	tell := func() string {
		var keys []int64
		for _, one := range list {
			keys = append(keys, key(one))
		}
		return fmt.Sprint(keys)
	}
	return innerList{spoil, tell}
}

func checkRunningStays(t *testing.T, start impl.Cluster, a act) {
	t.Helper()
	c, stays := guardedCluster(start)
	first, second := do(c, a), do(c, a)
	if !stays() {
		t.Errorf("an argument is changed by %+v: %+v", a, c)
	}
	if !sameOutcome(first, second) {
		t.Errorf("%+v answers %+v, and then %+v", a, first, second)
	}
	lists := append(listsOfCluster(first.cluster), outerLists(first.cluster)...)
	lists = append(append(lists, listsOfCluster(second.cluster)...), outerLists(second.cluster)...)
	checkListsApart(t, lists)
	if !stays() {
		t.Errorf("an answer of %+v shares memory with an argument: %+v", a, c)
	}
}

// Each call with each of its codes, and without one.
func TestRunningStaysAndSharesNothing(t *testing.T) {
	c := runningCluster()
	bad := deepCluster(c)
	bad.Config = 0
	for _, id := range []int64{4, 9, 11, 30, 31} {
		for _, home := range []int64{0, 3} {
			checkRunningStays(t, c, act{kind: begins, id: id, home: home})
			checkRunningStays(t, bad, act{kind: begins, id: id, home: home})
		}
		for _, kind := range []int{reads, writes, allocs, drops} {
			for _, region := range []int64{0, 1, 2, 3} {
				for _, slot := range []int64{0, 1, 2, 6} {
					checkRunningStays(t, c, act{kind: kind, id: id, region: region, slot: slot})
				}
			}
			checkRunningStays(t, c, act{kind: kind, id: id, v: lastValue + 1})
			checkRunningStays(t, bad, act{kind: kind, id: id, slot: 1})
			checkRunningStays(t, impl.Cluster{}, act{kind: kind, id: id})
		}
	}
	for _, kind := range []int{reads, writes, allocs, drops} {
		full := openCluster(impl.Tx{Id: 5, Home: 1, Phase: 1, Reads: notesAt(0, 1, 2, 3, 4, 5)}, impl.Tx{Id: 7, Phase: 1})
		checkRunningStays(t, full, act{kind: kind, id: 5, slot: 1})
		checkRunningStays(t, full, act{kind: kind, id: 7, slot: 1})
	}
}
