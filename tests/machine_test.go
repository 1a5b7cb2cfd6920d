package tests

import (
	"fmt"
	"math"
	"slices"
	"testing"

	"loop.example/g00153/impl"
)

const (
	mostLogged  = 200
	mostCleared = 60
)

func copyOf(region int64, cells []impl.Cell) impl.Copy {
	return impl.Copy{Region: region, Cells: slices.Clone(cells)}
}

// copiesOn: each region's copy is another one than its neighbours'.
func copiesOn(regions ...int64) []impl.Copy {
	var copies []impl.Copy
	for i, region := range regions {
		copies = append(copies, copyOf(region, wholeRegions()[i%3]))
	}
	return copies
}

// recordsOf are so many records of several transactions, regions and kinds, some of them alike.
func recordsOf(many int) []impl.Record {
	var log []impl.Record
	for i := range many {
		kind, tx, region := int64(1+i%3), int64(4+i%2*3+i%5), int64(i/2%3)
		log = append(log, recordOn(kind, tx, region, int64(i%3), int64(3+i%2)))
	}
	return log
}

func idsFrom(first int64, step int64, many int) []int64 {
	var ids []int64
	for i := range many {
		ids = append(ids, first+int64(i)*step)
	}
	return ids
}

func machineOf(copies []impl.Copy, log []impl.Record, cleared ...int64) impl.Machine {
	return impl.Machine{Alive: true, Copies: copies, Log: log, Cleared: cleared}
}

func dead(m impl.Machine) impl.Machine {
	m.Alive = false
	return m
}

// goodMachines are ordinary ones, living and not, and those that meet a limit exactly.
func goodMachines() []impl.Machine {
	list := []impl.Machine{
		{},
		{Alive: true},
		machineOf(copiesOn(3), nil),
		machineOf(nil, recordsOf(1)),
		machineOf(nil, nil, 1),
		machineOf(copiesOn(0, 5), recordsOf(7), 4, 9),
		machineOf(copiesOn(1, 2, 4), recordsOf(40), 1, 5, 7, lastId),
		machineOf(copiesOn(0, 1, 2, 3, 4, 5), recordsOf(12), 8),
		machineOf(copiesOn(2), recordsOf(mostLogged-1), idsFrom(2, 2, mostCleared-1)...),
		machineOf(copiesOn(0, 1, 2, 3, 4, 5), recordsOf(mostLogged), idsFrom(2, 2, mostCleared)...),
		machineOf(nil, goodRecords()[:mostLogged], idsFrom(lastId-59, 1, mostCleared)...),
	}
	for _, m := range slices.Clone(list) {
		list = append(list, dead(m))
	}
	return list
}

// wrongMachines: each is one thing away from a good one.
func wrongMachines() []impl.Machine {
	var list []impl.Machine
	good := recordsOf(3)
	for _, copies := range [][]impl.Copy{
		copiesOn(-1), copiesOn(6), copiesOn(math.MinInt64), copiesOn(math.MaxInt64), copiesOn(0, 6), copiesOn(-1, 0),
		copiesOn(2, 2), copiesOn(3, 2), copiesOn(0, 1, 1), copiesOn(0, 4, 3, 5), copiesOn(5, 0),
		copiesOn(0, 1, 2, 3, 4, 5, 5), copiesOn(0, 1, 2, 3, 4, 5, 6), copiesOn(-1, 0, 1, 2, 3, 4, 5),
		{copyOf(1, nil)}, {copyOf(1, openCells()[:5])}, {copyOf(1, append(openCells(), impl.Cell{}))},
		{copyOf(0, openCells()), copyOf(1, withCell(openCells(), 5, impl.Cell{Value: 1}))},
		{copyOf(0, withCell(openCells(), 0, impl.Cell{Head: -1})), copyOf(1, openCells())},
	} {
		list = append(list, machineOf(copies, good, 3, 9))
	}
	for _, r := range wrongRecords() {
		list = append(list, machineOf(copiesOn(1, 2), []impl.Record{r}, 3), machineOf(copiesOn(1, 2), append(slices.Clone(good), r), 3),
			machineOf(copiesOn(1, 2), append([]impl.Record{r}, good...), 3))
	}
	list = append(list, machineOf(copiesOn(1), recordsOf(mostLogged+1), 3))
	for _, cleared := range [][]int64{
		{0}, {-1}, {lastId + 1}, {math.MinInt64}, {math.MaxInt64}, {0, 1}, {5, lastId + 1}, {1, 1}, {7, 7, 8}, {2, 1}, {1, 9, 8}, {1, 9, 3, 12},
		idsFrom(1, 1, mostCleared+1), idsFrom(lastId-60, 1, mostCleared+1), idsFrom(lastId-58, 1, mostCleared), idsFrom(0, 1, mostCleared),
	} {
		list = append(list, machineOf(copiesOn(1, 2), good, cleared...))
	}
	return list
}

func wrongRecords() []impl.Record {
	return []impl.Record{
		{}, recordOn(0, 7, 1, 2), recordOn(4, 7, 1, 2), recordOn(1, 0, 1, 2), recordOn(1, lastId+1, 1, 2),
		recordOn(1, 7, -1, 2), recordOn(1, 7, 6, 2), recordOn(1, 7, 1), recordOn(1, 7, 1, 6), recordOn(1, 7, 1, -1),
		recordOn(1, 7, 1, 2, 2), recordOn(1, 7, 1, 3, 2), {Kind: 1, Tx: 7, Region: 1, Sets: setsOn(2, 0)},
		{Kind: 1, Tx: 7, Region: 1, Sets: []impl.Set{{Region: 1, Version: lastVersion}}},
	}
}

func wrongCells() [][]impl.Cell {
	return [][]impl.Cell{
		nil, {}, openCells()[:5], append(openCells(), impl.Cell{}),
		withCell(openCells(), 2, impl.Cell{Head: -1}), withCell(openCells(), 5, impl.Cell{Head: lastHead + 1}),
		withCell(openCells(), 0, impl.Cell{Value: 1}), withCell(openCells(), 1, impl.Cell{Head: 2, Value: lastValue + 1}),
	}
}

func sameCopy(a, b impl.Copy) bool { return a.Region == b.Region && slices.Equal(a.Cells, b.Cells) }

func sameMachine(a, b impl.Machine) bool {
	return a.Alive == b.Alive && slices.EqualFunc(a.Copies, b.Copies, sameCopy) &&
		slices.EqualFunc(a.Log, b.Log, sameRecord) && slices.Equal(a.Cleared, b.Cleared)
}

func deepMachine(m impl.Machine) impl.Machine {
	deep := impl.Machine{Alive: m.Alive, Cleared: slices.Clone(m.Cleared)}
	for _, c := range m.Copies {
		deep.Copies = append(deep.Copies, copyOf(c.Region, c.Cells))
	}
	for _, r := range m.Log {
		r.Sets = slices.Clone(r.Sets)
		deep.Log = append(deep.Log, r)
	}
	return deep
}

// What follows says the chapter once more, region by region and Id by Id.

func plainMachineOk(m impl.Machine) bool {
	before := int64(-1)
	for _, c := range m.Copies {
		if c.Region <= before || c.Region > lastRegion || !plainCellsOk(c.Cells) {
			return false
		}
		before = c.Region
	}
	for _, r := range m.Log {
		if !impl.RecordOk(r) {
			return false
		}
	}
	before = 0
	for _, id := range m.Cleared {
		if id <= before || id > lastId {
			return false
		}
		before = id
	}
	return len(m.Copies) <= howManyRegions && len(m.Log) <= mostLogged && len(m.Cleared) <= mostCleared
}

func plainCopied(m impl.Machine, region int64) ([]impl.Cell, bool) {
	for _, c := range m.Copies {
		if plainMachineOk(m) && c.Region == region {
			return c.Cells, true
		}
	}
	return nil, false
}

func plainReplace(m impl.Machine, region int64, cells []impl.Cell) (impl.Machine, bool) {
	if !plainMachineOk(m) || region < 0 || region > lastRegion || !plainCellsOk(cells) {
		return impl.Machine{}, false
	}
	var has [howManyRegions][]impl.Cell
	for _, c := range m.Copies {
		has[c.Region] = c.Cells
	}
	has[region] = cells
	m.Copies = nil
	for r, cells := range has {
		if cells != nil {
			m.Copies = append(m.Copies, copyOf(int64(r), cells))
		}
	}
	return m, true
}

func plainAppend(m impl.Machine, r impl.Record) (impl.Machine, bool) {
	if !plainMachineOk(m) || !impl.RecordOk(r) || len(m.Log) >= mostLogged {
		return impl.Machine{}, false
	}
	m.Log = slices.Concat(m.Log, []impl.Record{r})
	return m, true
}

func plainLogged(m impl.Machine, tx, region, kind int64) (impl.Record, bool) {
	var found impl.Record
	for _, r := range slices.Backward(m.Log) {
		if r.Tx == tx && r.Region == region && r.Kind == kind {
			found = r
		}
	}
	if found.Kind == 0 || !plainMachineOk(m) {
		return impl.Record{}, false
	}
	return found, true
}

func plainClear(m impl.Machine, tx, region int64, done bool) (impl.Machine, bool) {
	if !plainMachineOk(m) || tx < 1 || tx > lastId {
		return impl.Machine{}, false
	}
	if done {
		ids := append(slices.Clone(m.Cleared), tx)
		slices.Sort(ids)
		m.Cleared = slices.Compact(ids)
	}
	if len(m.Cleared) > mostCleared {
		return impl.Machine{}, false
	}
	var left []impl.Record
	for _, r := range m.Log {
		if r.Tx != tx || r.Region != region {
			left = append(left, r)
		}
	}
	m.Log = left
	return m, true
}

func plainTurn(m impl.Machine, tx, region int64) impl.Machine {
	if !plainMachineOk(m) {
		return impl.Machine{}
	}
	m.Log = slices.Clone(m.Log)
	for i, r := range m.Log {
		if r.Tx == tx && r.Region == region && r.Kind == 1 {
			m.Log[i].Kind = 3
		}
	}
	return m
}

func checkMachineOk(t *testing.T, m impl.Machine, want bool) {
	t.Helper()
	if got := impl.MachineOk(m); got != want {
		t.Errorf("MachineOk(%+v) = %v, want %v", m, got, want)
	}
}

// checkMachine holds an answer against the one that is wanted; the zero Machine comes with false alone.
func checkMachine(t *testing.T, got impl.Machine, ok bool, want impl.Machine, wantOk bool, call string, arguments ...any) {
	t.Helper()
	if ok != wantOk || !sameMachine(got, want) {
		t.Errorf("%s of %+v\n= %+v, %v\nwant %+v, %v", call, arguments, got, ok, want, wantOk)
	}
}

func checkCopied(t *testing.T, m impl.Machine, region int64, want []impl.Cell, wantOk bool) {
	t.Helper()
	if got, ok := impl.Copied(m, region); ok != wantOk || !slices.Equal(got, want) {
		t.Errorf("Copied(%+v, %d) = %v, %v, want %v, %v", m.Copies, region, got, ok, want, wantOk)
	}
}

func checkReplace(t *testing.T, m impl.Machine, region int64, cells []impl.Cell, want impl.Machine, wantOk bool) {
	t.Helper()
	got, ok := impl.Replace(m, region, cells)
	checkMachine(t, got, ok, want, wantOk, "Replace", m, region, cells)
}

func checkAppend(t *testing.T, m impl.Machine, r impl.Record, want impl.Machine, wantOk bool) {
	t.Helper()
	got, ok := impl.Append(m, r)
	checkMachine(t, got, ok, want, wantOk, "Append", m, r)
}

func checkLogged(t *testing.T, m impl.Machine, tx, region, kind int64, want impl.Record, wantOk bool) {
	t.Helper()
	if got, ok := impl.Logged(m, tx, region, kind); ok != wantOk || !sameRecord(got, want) {
		t.Errorf("Logged(%+v, %d, %d, %d) = %+v, %v, want %+v, %v", m.Log, tx, region, kind, got, ok, want, wantOk)
	}
}

func checkClear(t *testing.T, m impl.Machine, tx, region int64, done bool, want impl.Machine, wantOk bool) {
	t.Helper()
	got, ok := impl.Clear(m, tx, region, done)
	checkMachine(t, got, ok, want, wantOk, "Clear", m, tx, region, done)
}

func checkTurn(t *testing.T, m impl.Machine, tx, region int64, want impl.Machine) {
	t.Helper()
	checkMachine(t, impl.Turn(m, tx, region), true, want, true, "Turn", m, tx, region)
}

// checkAgainstPlain asks all that the chapter has, at one machine, and holds it against the plain answers.
func checkAgainstPlain(t *testing.T, m impl.Machine, tx, region int64) {
	t.Helper()
	want, wantOk := plainCopied(m, region)
	checkCopied(t, m, region, want, wantOk)
	for _, done := range []bool{false, true} {
		after, ok := plainClear(m, tx, region, done)
		checkClear(t, m, tx, region, done, after, ok)
	}
	checkTurn(t, m, tx, region, plainTurn(m, tx, region))
	for _, kind := range []int64{math.MinInt64, -1, 0, 1, 2, 3, 4, math.MaxInt64} {
		r, ok := plainLogged(m, tx, region, kind)
		checkLogged(t, m, tx, region, kind, r, ok)
		added := recordOn(kind, tx, region, 1, 4)
		after, ok := plainAppend(m, added)
		checkAppend(t, m, added, after, ok)
	}
	for _, cells := range append(wholeRegions(), wrongCells()...) {
		after, ok := plainReplace(m, region, cells)
		checkReplace(t, m, region, cells, after, ok)
	}
}

var (
	someRegions = []int64{math.MinInt64, -1, 0, 1, 2, 3, 4, 5, 6, math.MaxInt64}
	someTxs     = []int64{math.MinInt64, -1, 0, 1, 4, 5, 6, 8, 11, lastId - 1, lastId, lastId + 1, math.MaxInt64}
)

func TestLimitsOfMachines(t *testing.T) {
	if impl.MaxLog != mostLogged || impl.MaxTxs != mostCleared {
		t.Errorf("MaxLog %d, MaxTxs %d", impl.MaxLog, impl.MaxTxs)
	}
}

func TestMachinesThatAreOk(t *testing.T) {
	for _, m := range goodMachines() {
		checkMachineOk(t, m, true)
	}
	for _, m := range wrongMachines() {
		checkMachineOk(t, m, false)
		checkMachineOk(t, dead(m), false)
	}
}

// Every choice of up to three regions in any order, some out of range: only those that rise are copies.
func TestCopiesThatRise(t *testing.T) {
	for many := range 4 {
		for _, regions := range tuples([]int64{-1, 0, 1, 2, 5, 6}, many) {
			m := machineOf(copiesOn(regions...), nil)
			checkMachineOk(t, m, plainMachineOk(m))
		}
	}
}

func TestClearedThatRise(t *testing.T) {
	for many := range 4 {
		for _, ids := range tuples([]int64{-1, 0, 1, 2, lastId - 1, lastId, lastId + 1}, many) {
			m := machineOf(nil, nil, ids...)
			checkMachineOk(t, m, plainMachineOk(m))
		}
	}
}

func TestHowManyRecordsAreLogged(t *testing.T) {
	for _, many := range []int{0, 1, 2, 100, 198, 199, 200, 201, 202, 400} {
		m := machineOf(copiesOn(1), recordsOf(many), 2)
		checkMachineOk(t, m, many <= 200)
	}
}

func TestHowManyIdsAreCleared(t *testing.T) {
	for _, many := range []int{0, 1, 2, 58, 59, 60, 61, 62, 120} {
		for _, step := range []int64{1, 2, 1000} {
			m := machineOf(copiesOn(1), recordsOf(2), idsFrom(1, step, many)...)
			checkMachineOk(t, m, many <= 60)
		}
	}
}

// The good and the wrong machines, each with each transaction and region.
func TestMachinesAgainstThePlainAnswers(t *testing.T) {
	for _, m := range goodMachines() {
		for _, region := range someRegions {
			for _, tx := range someTxs {
				checkAgainstPlain(t, m, tx, region)
			}
		}
	}
}

func TestMachinesThatAreNoneAreRefused(t *testing.T) {
	zero := impl.Machine{}
	for _, m := range wrongMachines() {
		for region := int64(0); region <= lastRegion; region++ {
			checkCopied(t, m, region, nil, false)
			checkReplace(t, m, region, openCells(), zero, false)
			for _, tx := range []int64{4, 5, 7, lastId} {
				for kind := int64(1); kind <= 3; kind++ {
					checkLogged(t, m, tx, region, kind, impl.Record{}, false)
					checkAppend(t, m, recordOn(kind, tx, region, 2), zero, false)
				}
				checkClear(t, m, tx, region, false, zero, false)
				checkClear(t, m, tx, region, true, zero, false)
				checkTurn(t, m, tx, region, zero)
			}
		}
	}
}

func TestReplaceByHand(t *testing.T) {
	full, open, mixed := impl.NewCells(), openCells(), mixedCells()
	start := impl.Machine{Alive: true, Copies: []impl.Copy{copyOf(1, full), copyOf(4, mixed)}, Log: recordsOf(3), Cleared: []int64{8}}
	for _, c := range []struct {
		region int64
		want   []impl.Copy
	}{
		{0, []impl.Copy{copyOf(0, open), copyOf(1, full), copyOf(4, mixed)}},
		{1, []impl.Copy{copyOf(1, open), copyOf(4, mixed)}},
		{2, []impl.Copy{copyOf(1, full), copyOf(2, open), copyOf(4, mixed)}},
		{3, []impl.Copy{copyOf(1, full), copyOf(3, open), copyOf(4, mixed)}},
		{4, []impl.Copy{copyOf(1, full), copyOf(4, open)}},
		{5, []impl.Copy{copyOf(1, full), copyOf(4, mixed), copyOf(5, open)}},
	} {
		want := impl.Machine{Alive: true, Copies: c.want, Log: recordsOf(3), Cleared: []int64{8}}
		checkReplace(t, start, c.region, open, want, true)
		checkReplace(t, dead(start), c.region, open, dead(want), true)
	}
	for _, region := range []int64{math.MinInt64, -1, 6, math.MaxInt64} {
		checkReplace(t, start, region, open, impl.Machine{}, false)
	}
	for _, cells := range wrongCells() {
		for region := int64(0); region <= lastRegion; region++ {
			checkReplace(t, start, region, cells, impl.Machine{}, false)
		}
	}
}

// Copies come in any order, and again: the last one of each region can be had.
func TestReplacedIsCopied(t *testing.T) {
	for seed := range 40 {
		m := impl.Machine{Alive: true}
		var want [howManyRegions][]impl.Cell
		for i := range 20 {
			region := int64((seed*7 + i*i*3 + i*seed) % howManyRegions)
			cells := withCell(openCells(), 1, cellOf(int64(i), true, false, int64(seed)))
			m, _ = impl.Replace(m, region, cells)
			want[region] = cells
			for r, cells := range want {
				checkCopied(t, m, int64(r), cells, cells != nil)
			}
			checkMachineOk(t, m, true)
		}
	}
}

func TestCopiedByHand(t *testing.T) {
	m := machineOf([]impl.Copy{copyOf(0, openCells()), copyOf(2, mixedCells())}, recordsOf(3), 8)
	for _, one := range []impl.Machine{m, dead(m)} {
		checkCopied(t, one, 0, openCells(), true)
		checkCopied(t, one, 2, mixedCells(), true)
		for _, region := range []int64{math.MinInt64, -1, 1, 3, 4, 5, 6, math.MaxInt64} {
			checkCopied(t, one, region, nil, false)
		}
	}
	for _, region := range someRegions {
		checkCopied(t, impl.Machine{}, region, nil, false)
	}
}

func TestAppendByHand(t *testing.T) {
	first, second, third := recordOn(1, 7, 1, 0, 3), recordOn(2, 7, 1, 0, 3), recordOn(1, 7, 1, 0, 3)
	m := impl.Machine{Copies: copiesOn(2), Cleared: []int64{7}}
	for i, r := range []impl.Record{first, second, third} {
		want := impl.Machine{Copies: copiesOn(2), Cleared: []int64{7}, Log: []impl.Record{first, second, third}[:i+1]}
		checkAppend(t, m, r, want, true)
		m, _ = impl.Append(m, r)
	}
	for _, r := range wrongRecords() {
		checkAppend(t, m, r, impl.Machine{}, false)
		checkAppend(t, impl.Machine{}, r, impl.Machine{}, false)
	}
}

func TestTheLogHasRoomForSoMany(t *testing.T) {
	m, ok := impl.Machine{Alive: true, Copies: copiesOn(4)}, true
	for i, r := range recordsOf(200) {
		m, ok = impl.Append(m, r)
		if !ok || len(m.Log) != i+1 {
			t.Fatalf("record number %d: %v, %d logged", i, ok, len(m.Log))
		}
	}
	checkMachine(t, m, ok, machineOf(copiesOn(4), recordsOf(200)), true, "200 Appends")
	for _, r := range goodRecords() {
		checkAppend(t, m, r, impl.Machine{}, false)
	}
	m, _ = impl.Clear(m, m.Log[0].Tx, m.Log[0].Region, false)
	if _, ok := impl.Append(m, recordOn(1, 7, 1, 2)); !ok {
		t.Error("a cleared log has no room")
	}
}

func TestTheFirstOfSeveralIsLogged(t *testing.T) {
	list := []impl.Record{recordOn(2, 7, 1, 0), recordOn(1, 7, 2, 1), recordOn(1, 8, 1, 2), recordOn(1, 7, 1, 3), recordOn(1, 7, 1, 4), recordOn(2, 7, 1, 5)}
	for _, m := range []impl.Machine{{Log: list}, {Alive: true, Log: list}} {
		checkLogged(t, m, 7, 1, 1, list[3], true)
		checkLogged(t, m, 7, 1, 2, list[0], true)
		checkLogged(t, m, 7, 2, 1, list[1], true)
		checkLogged(t, m, 8, 1, 1, list[2], true)
		for _, none := range [][3]int64{{7, 1, 3}, {7, 2, 2}, {8, 2, 1}, {8, 1, 2}, {9, 1, 1}, {7, 0, 1}, {0, 0, 0}, {7, 1, 0}, {7, 1, 4}, {7, -1, 1}, {7, 6, 1}, {0, 1, 1}, {lastId + 1, 1, 1}} {
			checkLogged(t, m, none[0], none[1], none[2], impl.Record{}, false)
		}
	}
}

func TestClearByHand(t *testing.T) {
	list := []impl.Record{recordOn(1, 7, 1, 0), recordOn(1, 8, 1, 1), recordOn(2, 7, 1, 2), recordOn(1, 7, 2, 3), recordOn(3, 7, 1, 4), recordOn(3, 8, 2, 5)}
	start := machineOf(copiesOn(1, 2), list, 3, 8)
	for _, c := range []struct {
		tx, region int64
		left       []int
		cleared    []int64
	}{
		{7, 1, []int{1, 3, 5}, []int64{3, 7, 8}},
		{7, 2, []int{0, 1, 2, 4, 5}, []int64{3, 7, 8}},
		{8, 1, []int{0, 2, 3, 4, 5}, []int64{3, 8}},
		{8, 2, []int{0, 1, 2, 3, 4}, []int64{3, 8}},
		{3, 1, []int{0, 1, 2, 3, 4, 5}, []int64{3, 8}},
		{1, 1, []int{0, 1, 2, 3, 4, 5}, []int64{1, 3, 8}},
		{lastId, 1, []int{0, 1, 2, 3, 4, 5}, []int64{3, 8, lastId}},
		{7, 5, []int{0, 1, 2, 3, 4, 5}, []int64{3, 7, 8}},
		{7, 6, []int{0, 1, 2, 3, 4, 5}, []int64{3, 7, 8}},
		{7, -1, []int{0, 1, 2, 3, 4, 5}, []int64{3, 7, 8}},
	} {
		var left []impl.Record
		for _, i := range c.left {
			left = append(left, list[i])
		}
		checkClear(t, start, c.tx, c.region, false, machineOf(copiesOn(1, 2), left, 3, 8), true)
		checkClear(t, start, c.tx, c.region, true, machineOf(copiesOn(1, 2), left, c.cleared...), true)
		checkClear(t, dead(start), c.tx, c.region, true, dead(machineOf(copiesOn(1, 2), left, c.cleared...)), true)
	}
	for _, tx := range []int64{math.MinInt64, -1, 0, lastId + 1, math.MaxInt64} {
		checkClear(t, start, tx, 1, false, impl.Machine{}, false)
		checkClear(t, start, tx, 1, true, impl.Machine{}, false)
	}
}

func TestClearedHasRoomForSoMany(t *testing.T) {
	for many := 0; many <= 60; many++ {
		m := machineOf(copiesOn(1), recordsOf(9), idsFrom(10, 10, many)...)
		for _, tx := range []int64{1, 15, 305, 599, 601, lastId} {
			want, wantOk := plainClear(m, tx, 0, true)
			if wantOk != (many < 60) {
				t.Fatalf("%d cleared and one more: %v", many, wantOk)
			}
			checkClear(t, m, tx, 0, true, want, wantOk)
			if _, ok := impl.Clear(m, tx, 0, false); !ok {
				t.Errorf("Clear of %d, not done, with %d cleared, is refused", tx, many)
			}
		}
		for _, tx := range m.Cleared {
			if after, ok := impl.Clear(m, tx, 0, true); !ok || !slices.Equal(after.Cleared, m.Cleared) {
				t.Errorf("Clear of %d, which is among %v: %v, %v", tx, m.Cleared, after.Cleared, ok)
			}
		}
	}
}

func TestTurnByHand(t *testing.T) {
	list := []impl.Record{recordOn(1, 7, 1, 0), recordOn(1, 8, 1, 1), recordOn(2, 7, 1, 2), recordOn(1, 7, 2, 3), recordOn(3, 7, 1, 4), recordOn(1, 7, 1, 5)}
	start := machineOf(copiesOn(1, 2), list, 3, 7)
	for _, c := range []struct {
		tx, region int64
		turned     []int
	}{
		{7, 1, []int{0, 5}}, {7, 2, []int{3}}, {8, 1, []int{1}}, {8, 2, nil}, {9, 1, nil}, {7, 0, nil},
		{7, -1, nil}, {7, 6, nil}, {0, 1, nil}, {-1, 1, nil}, {lastId + 1, 1, nil}, {0, 0, nil},
	} {
		log := slices.Clone(list)
		for _, i := range c.turned {
			log[i].Kind = 3
		}
		checkTurn(t, start, c.tx, c.region, machineOf(copiesOn(1, 2), log, 3, 7))
		checkTurn(t, dead(start), c.tx, c.region, dead(machineOf(copiesOn(1, 2), log, 3, 7)))
	}
}

// Records come and go at one machine by a fixed rule; a list of what was appended and not cleared tells what is logged.
func TestPromise6(t *testing.T) {
	for seed := range 25 {
		m := impl.Machine{Alive: seed%2 == 0, Copies: copiesOn(0, 3)}
		var log []impl.Record
		state := uint64(seed)*2654435761 + 1
		next := func(below uint64) int64 {
			state = state*6364136223846793005 + 1442695040888963407
			return int64(state >> 33 % below)
		}
		for range 150 {
			tx, region := 1+next(4), next(3)
			switch next(6) {
			case 0:
				m, _ = impl.Clear(m, tx, region, next(2) == 0)
				log = slices.DeleteFunc(log, func(r impl.Record) bool { return r.Tx == tx && r.Region == region })
			case 1:
				m = impl.Turn(m, tx, region)
				log = plainTurn(impl.Machine{Log: log}, tx, region).Log
			default:
				r := recordOn(1+next(3), tx, region, next(6))
				m, _ = impl.Append(m, r)
				log = append(log, r)
			}
			checkAllLogged(t, m, log)
		}
	}
}

func checkAllLogged(t *testing.T, m impl.Machine, log []impl.Record) {
	t.Helper()
	if !slices.EqualFunc(m.Log, log, sameRecord) {
		t.Fatalf("the Log is %+v, want %+v", m.Log, log)
	}
	for tx := int64(1); tx <= 4; tx++ {
		for region := range int64(3) {
			for kind := int64(1); kind <= 3; kind++ {
				want, is := plainLogged(impl.Machine{Log: log}, tx, region, kind)
				checkLogged(t, m, tx, region, kind, want, is)
			}
		}
	}
}

// guardedMachine has room behind each of its lists, and a look that tells whether all of it is still the same.
func guardedMachine(m impl.Machine) (impl.Machine, func() bool) {
	var stays []func() bool
	keep := func(stay func() bool) { stays = append(stays, stay) }
	own := impl.Machine{Alive: m.Alive}
	for _, c := range append(slices.Clone(m.Copies), copiesOn(2, 3)...) {
		cells, stay := guarded(c.Cells, impl.Cell{Head: 77, Value: 77})
		own.Copies = append(own.Copies, impl.Copy{Region: c.Region, Cells: cells})
		keep(stay)
	}
	for _, r := range append(slices.Clone(m.Log), recordsOf(2)...) {
		var stay func() bool
		r.Sets, stay = guarded(r.Sets, impl.Set{Region: 77, Slot: 77})
		own.Log = append(own.Log, r)
		keep(stay)
	}
	cleared, stay := guarded(m.Cleared, 77)
	keep(stay)
	room, before := own, deepMachine(own)
	own.Copies, own.Log, own.Cleared = own.Copies[:len(m.Copies)], own.Log[:len(m.Log)], cleared
	return own, func() bool {
		wrong := func(stay func() bool) bool { return !stay() }
		return !slices.ContainsFunc(stays, wrong) && sameMachine(room, before)
	}
}

// innerList is one of the lists that an answer is made of: a way to spoil it and one to tell it.
type innerList struct {
	spoil func()
	tell  func() string
}

func cellsList(cells []impl.Cell) innerList {
	return innerList{func() { overwrite(cells) }, func() string { return fmt.Sprint(cells) }}
}

func setsList(sets []impl.Set) innerList {
	spoil := func() {
		room := sets[:cap(sets)]
		for i := range room {
			room[i] = impl.Set{Region: -99, Value: -99}
		}
	}
	return innerList{spoil, func() string { return fmt.Sprint(sets) }}
}

func numbersList(list []int64) innerList {
	return innerList{func() { overwriteNumbers(list) }, func() string { return fmt.Sprint(list) }}
}

func innerLists(m impl.Machine) []innerList {
	lists := []innerList{numbersList(m.Cleared)}
	for _, c := range m.Copies {
		lists = append(lists, cellsList(c.Cells))
	}
	for _, r := range m.Log {
		lists = append(lists, setsList(r.Sets))
	}
	return lists
}

// checkListsApart spoils one list after the other and looks whether any of the others changes.
func checkListsApart(t *testing.T, lists []innerList) {
	t.Helper()
	for i, list := range lists {
		before := make([]string, len(lists))
		for k, other := range lists {
			before[k] = other.tell()
		}
		list.spoil()
		for k, other := range lists {
			if k != i && other.tell() != before[k] {
				t.Errorf("list %d and list %d of the answers share memory", i, k)
			}
		}
	}
}

func spoilOuterLists(m impl.Machine) {
	copies, log := m.Copies[:cap(m.Copies)], m.Log[:cap(m.Log)]
	for i := range copies {
		copies[i] = impl.Copy{Region: -98}
	}
	for i := range log {
		log[i] = impl.Record{Kind: -98}
	}
}

// callAll asks everything of one machine and answers all that came.
func callAll(m impl.Machine, r impl.Record, cells []impl.Cell) ([]impl.Machine, []innerList) {
	impl.MachineOk(m)
	replaced, _ := impl.Replace(m, r.Region, cells)
	appended, _ := impl.Append(m, r)
	struck, _ := impl.Clear(m, r.Tx, r.Region, false)
	cleared, _ := impl.Clear(m, r.Tx, r.Region, true)
	turned := impl.Turn(m, r.Tx, r.Region)
	answers := []impl.Machine{replaced, appended, struck, cleared, turned}
	var lists []innerList
	for _, answer := range answers {
		lists = append(lists, innerLists(answer)...)
	}
	for range 2 {
		copied, _ := impl.Copied(m, r.Region)
		logged, _ := impl.Logged(m, r.Tx, r.Region, r.Kind)
		lists = append(lists, cellsList(copied), setsList(logged.Sets))
	}
	return answers, lists
}

func checkMachineStays(t *testing.T, start impl.Machine, r impl.Record, region []impl.Cell) {
	t.Helper()
	m, machineStays := guardedMachine(start)
	cells, cellsStay := guarded(region, impl.Cell{Head: 77, Value: 77})
	sets, setsStay := guarded(r.Sets, impl.Set{Region: 77, Slot: 77})
	r.Sets = sets
	answers, lists := callAll(m, r, cells)
	if !machineStays() || !cellsStay() || !setsStay() {
		t.Errorf("an argument is changed by a call: %+v, %+v, %v", m, r, cells)
	}
	checkListsApart(t, lists)
	for _, answer := range answers {
		spoilOuterLists(answer)
	}
	if !machineStays() || !cellsStay() || !setsStay() {
		t.Errorf("an answer shares memory with an argument: %+v, %+v, %v", m, r, cells)
	}
}

func TestMachinesStayAndShareNothing(t *testing.T) {
	starts := []impl.Machine{
		{}, {Alive: true}, machineOf(copiesOn(3), nil), machineOf(nil, recordsOf(1)), machineOf(nil, nil, 1),
		machineOf(copiesOn(0, 1, 5), recordsOf(7), 4, 9), machineOf(copiesOn(0, 1, 2, 3, 4, 5), recordsOf(12), idsFrom(2, 2, 60)...),
	}
	for _, start := range append(starts, wrongMachines()...) {
		for _, r := range []impl.Record{recordOn(1, 4, 0, 1, 2), recordOn(3, 5, 1, 4), recordOn(2, 9, 5, 0), recordOn(1, 7, 6, 0), {}} {
			for _, cells := range [][]impl.Cell{openCells(), openCells()[:5], nil} {
				checkMachineStays(t, start, r, cells)
			}
		}
	}
}

// Lists of the arguments that share memory themselves: those of the answer don't.
func TestSharedArguments(t *testing.T) {
	cells, sets, numbers := openCells(), setsOn(1, 0, 3), []int64{4, 9}
	r := impl.Record{Kind: 1, Tx: 4, Region: 1, Sets: sets}
	m := machineOf([]impl.Copy{{Region: 0, Cells: cells}, {Region: 2, Cells: cells}}, []impl.Record{r, r, r}, numbers...)
	for _, region := range []int64{0, 1, 2} {
		one := r
		one.Region, one.Sets = region, setsOn(region, 0, 3)
		if region == 1 {
			one.Sets = sets
		}
		_, lists := callAll(m, one, cells)
		checkListsApart(t, lists)
	}
	if !slices.Equal(cells, openCells()) || !slices.Equal(sets, setsOn(1, 0, 3)) || !slices.Equal(numbers, []int64{4, 9}) {
		t.Errorf("the arguments are %v, %+v, %v", cells, sets, numbers)
	}
}
