package tests

import (
	"fmt"
	"math"
	"slices"
	"testing"

	"loop.example/g00153/impl"
)

// The limits stand here as the document writes them, so that a changed constant is noticed.
const (
	mostSets     = 12
	lastPhase    = 9
	lastDone     = 1000
	lastStamp    = 1000000
	howManyCells = howManyRegions * howManySlots
)

// Cells are numbered by region, then slot, from 0 to howManyCells - 1.

func noteAt(cell int64) impl.Note {
	return impl.Note{Region: cell / howManySlots, Slot: cell % howManySlots, Version: 100 + cell, Value: 7 - 3*cell, Used: cell%3 != 0}
}

func setAt(cell int64) impl.Set {
	return impl.Set{Region: cell / howManySlots, Slot: cell % howManySlots, Value: 5*cell - 40, Used: cell%2 == 0, Version: 200 + cell}
}

func notesAt(cells ...int64) []impl.Note {
	var notes []impl.Note
	for _, cell := range cells {
		notes = append(notes, noteAt(cell))
	}
	return notes
}

func setsAtCells(cells ...int64) []impl.Set {
	var sets []impl.Set
	for _, cell := range cells {
		sets = append(sets, setAt(cell))
	}
	return sets
}

func txOf(reads []impl.Note, sets []impl.Set) impl.Tx {
	return impl.Tx{Id: 7, Home: 2, Phase: 4, Done: 3, Reads: reads, Sets: sets, Stamp: 9}
}

// cellLists are ordinary ones: none, one, several of one region and of several, and as many as there may be.
func cellLists() [][]int64 {
	return [][]int64{
		nil, {0}, {35}, {14}, {0, 35}, {1, 3, 4}, {2, 8, 14, 20}, {5, 6}, {11, 12, 13, 30}, {0, 1, 2, 3, 4, 5},
		idsFrom(0, 3, mostSets-1), idsFrom(0, 1, mostSets), idsFrom(24, 1, mostSets), idsFrom(2, 3, mostSets),
	}
}

// goodTxs are ordinary ones in each Phase, and those that meet a limit exactly.
func goodTxs() []impl.Tx {
	var list []impl.Tx
	for _, reads := range cellLists() {
		for _, sets := range cellLists() {
			tx := txOf(notesAt(reads...), setsAtCells(sets...))
			tx.Phase = int64(1 + len(list)%lastPhase)
			list = append(list, tx)
		}
	}
	for phase := int64(1); phase <= lastPhase; phase++ {
		list = append(list, impl.Tx{Id: 1, Phase: phase},
			impl.Tx{Id: lastId, Home: lastMachine, Phase: phase, Done: lastDone, Reads: notesAt(4, 9), Sets: setsAtCells(9, 12), Stamp: lastStamp})
	}
	return list
}

// cellsThatAreWrong: two of them are alike, or fall; the last three lists rise, but are too long.
func cellsThatAreWrong() [][]int64 {
	return [][]int64{
		{0, 0}, {35, 35}, {1, 0}, {6, 5}, {12, 6}, {8, 1}, {14, 3}, {0, 1, 1}, {0, 0, 1}, {4, 2, 9}, {2, 9, 4}, {0, 7, 14, 13, 35}, {30, 7, 2},
		append(idsFrom(0, 1, mostSets-1), 10), append(idsFrom(0, 1, mostSets-1), 0), idsFrom(0, 1, mostSets+1), idsFrom(23, 1, mostSets+1), idsFrom(0, 1, howManyCells),
	}
}

// numberOf is one of the numbers of a note, a Set or a transaction: its limits, and how it is put there.
type numberOf[T any] struct {
	name        string
	first, last int64
	put         func(thing *T, n int64)
}

func noteNumbers() []numberOf[impl.Note] {
	return []numberOf[impl.Note]{
		{"Region", 0, lastRegion, func(n *impl.Note, to int64) { n.Region = to }},
		{"Slot", 0, lastSlot, func(n *impl.Note, to int64) { n.Slot = to }},
		{"Version", 0, lastVersion, func(n *impl.Note, to int64) { n.Version = to }},
		{"Value", -lastValue, lastValue, func(n *impl.Note, to int64) { n.Value = to }},
	}
}

func setNumbers() []numberOf[impl.Set] {
	return []numberOf[impl.Set]{
		{"Region", 0, lastRegion, func(s *impl.Set, to int64) { s.Region = to }},
		{"Slot", 0, lastSlot, func(s *impl.Set, to int64) { s.Slot = to }},
		{"Version", 0, lastSetVersion, func(s *impl.Set, to int64) { s.Version = to }},
		{"Value", -lastValue, lastValue, func(s *impl.Set, to int64) { s.Value = to }},
	}
}

func txNumbers() []numberOf[impl.Tx] {
	return []numberOf[impl.Tx]{
		{"Id", 1, lastId, func(t *impl.Tx, to int64) { t.Id = to }},
		{"Home", 0, lastMachine, func(t *impl.Tx, to int64) { t.Home = to }},
		{"Phase", 1, lastPhase, func(t *impl.Tx, to int64) { t.Phase = to }},
		{"Done", 0, lastDone, func(t *impl.Tx, to int64) { t.Done = to }},
		{"Stamp", 0, lastStamp, func(t *impl.Tx, to int64) { t.Stamp = to }},
	}
}

func (number numberOf[T]) within() []int64 {
	return []int64{number.first, number.first + 1, number.last - 1, number.last}
}

func (number numberOf[T]) beyond() []int64 {
	return []int64{number.first - 1, number.last + 1, number.first - 1<<32, number.last + 1<<32, math.MinInt64, math.MaxInt64}
}

func changed[T any](thing T, number numberOf[T], to int64) T {
	number.put(&thing, to)
	return thing
}

// allChanged are copies of a thing, one number of each being just within its limits, or beyond them.
func allChanged[T any](thing T, numbers []numberOf[T], to func(numberOf[T]) []int64) []T {
	var list []T
	for _, number := range numbers {
		for _, n := range to(number) {
			list = append(list, changed(thing, number, n))
		}
	}
	return list
}

func wrongNotes() []impl.Note {
	return append(allChanged(noteAt(14), noteNumbers(), numberOf[impl.Note].beyond), allChanged(impl.Note{}, noteNumbers(), numberOf[impl.Note].beyond)...)
}

func wrongSets() []impl.Set {
	return append(allChanged(setAt(14), setNumbers(), numberOf[impl.Set].beyond), allChanged(impl.Set{}, setNumbers(), numberOf[impl.Set].beyond)...)
}

// wrongTxs: each is one thing away from a good one.
func wrongTxs() []impl.Tx {
	list := []impl.Tx{{}}
	for _, good := range []impl.Tx{{Id: 1, Phase: 1}, txOf(notesAt(2, 8), setsAtCells(8, 30))} {
		list = append(list, allChanged(good, txNumbers(), numberOf[impl.Tx].beyond)...)
	}
	for _, cells := range cellsThatAreWrong() {
		list = append(list, txOf(notesAt(cells...), nil), txOf(nil, setsAtCells(cells...)),
			txOf(notesAt(cells...), setsAtCells(3, 9)), txOf(notesAt(3, 9), setsAtCells(cells...)))
	}
	for _, n := range wrongNotes() {
		list = append(list, txOf([]impl.Note{n}, nil), txOf([]impl.Note{noteAt(0), n, noteAt(35)}, setsAtCells(1)))
	}
	for _, s := range wrongSets() {
		list = append(list, txOf(nil, []impl.Set{s}), txOf(notesAt(1), []impl.Set{setAt(0), s, setAt(35)}))
	}
	return list
}

func sameTx(a, b impl.Tx) bool {
	return a.Id == b.Id && a.Home == b.Home && a.Phase == b.Phase && a.Done == b.Done && a.Stamp == b.Stamp &&
		slices.Equal(a.Reads, b.Reads) && slices.Equal(a.Sets, b.Sets)
}

// What follows says the chapter once more, by boards that have a place for each cell.

type board[T any] [howManyCells]*T

func (b *board[T]) list() []T {
	var list []T
	for _, thing := range b {
		if thing != nil {
			list = append(list, *thing)
		}
	}
	return list
}

func readsBoard(reads []impl.Note) *board[impl.Note] {
	var b board[impl.Note]
	for _, n := range reads {
		b[n.Region*howManySlots+n.Slot] = &n
	}
	return &b
}

func setsBoard(sets []impl.Set) *board[impl.Set] {
	var b board[impl.Set]
	for _, s := range sets {
		b[s.Region*howManySlots+s.Slot] = &s
	}
	return &b
}

func within(n, first, last int64) bool { return n >= first && n <= last }

func plainNoteOk(n impl.Note) bool {
	return within(n.Region, 0, lastRegion) && within(n.Slot, 0, lastSlot) && within(n.Version, 0, lastVersion) && within(n.Value, -lastValue, lastValue)
}

func plainSetOk(s impl.Set) bool {
	return within(s.Region, 0, lastRegion) && within(s.Slot, 0, lastSlot) && within(s.Version, 0, lastSetVersion) && within(s.Value, -lastValue, lastValue)
}

func plainTxOk(t impl.Tx) bool {
	if slices.ContainsFunc(t.Reads, func(n impl.Note) bool { return !plainNoteOk(n) }) || slices.ContainsFunc(t.Sets, func(s impl.Set) bool { return !plainSetOk(s) }) {
		return false
	}
	// What rises comes off the board as it went there.
	return slices.Equal(t.Reads, readsBoard(t.Reads).list()) && slices.Equal(t.Sets, setsBoard(t.Sets).list()) &&
		len(t.Reads) <= mostSets && len(t.Sets) <= mostSets && within(t.Id, 1, lastId) && within(t.Home, 0, lastMachine) &&
		within(t.Phase, 1, lastPhase) && within(t.Done, 0, lastDone) && within(t.Stamp, 0, lastStamp)
}

func plainAddRead(t impl.Tx, n impl.Note) (impl.Tx, bool) {
	if !plainTxOk(t) || !plainNoteOk(n) {
		return impl.Tx{}, false
	}
	b := readsBoard(t.Reads)
	if at := &b[n.Region*howManySlots+n.Slot]; *at == nil {
		*at = &n
	}
	t.Reads = b.list()
	if len(t.Reads) > mostSets {
		return impl.Tx{}, false
	}
	return t, true
}

func plainAddSet(t impl.Tx, s impl.Set) (impl.Tx, bool) {
	if !plainTxOk(t) || !plainSetOk(s) {
		return impl.Tx{}, false
	}
	b := setsBoard(t.Sets)
	at := &b[s.Region*howManySlots+s.Slot]
	if *at != nil {
		s.Version = (*at).Version
	}
	*at = &s
	t.Sets = b.list()
	if len(t.Sets) > mostSets {
		return impl.Tx{}, false
	}
	return t, true
}

func plainSetsOf(t impl.Tx, region int64) []impl.Set {
	if !plainTxOk(t) || !within(region, 0, lastRegion) {
		return nil
	}
	row := board[impl.Set]{}
	copy(row[:], setsBoard(t.Sets)[region*howManySlots:(region+1)*howManySlots])
	return row.list()
}

func plainWants(t impl.Tx) []int64 {
	var regions []int64
	for region := range int64(howManyRegions) {
		if len(plainSetsOf(t, region)) > 0 {
			regions = append(regions, region)
		}
	}
	return regions
}

func plainChecks(t impl.Tx) []impl.Note {
	if !plainTxOk(t) {
		return nil
	}
	reads := readsBoard(t.Reads)
	for cell, set := range setsBoard(t.Sets) {
		if set != nil {
			reads[cell] = nil
		}
	}
	return reads.list()
}

func checkTxOk(t *testing.T, tx impl.Tx, want bool) {
	t.Helper()
	if got := impl.TxOk(tx); got != want {
		t.Errorf("TxOk(%+v) = %v, want %v", tx, got, want)
	}
}

func checkAddRead(t *testing.T, tx impl.Tx, n impl.Note, want impl.Tx, wantOk bool) {
	t.Helper()
	if got, ok := impl.AddRead(tx, n); ok != wantOk || !sameTx(got, want) {
		t.Errorf("AddRead(%+v, %+v)\n= %+v, %v\nwant %+v, %v", tx, n, got, ok, want, wantOk)
	}
}

func checkAddSet(t *testing.T, tx impl.Tx, s impl.Set, want impl.Tx, wantOk bool) {
	t.Helper()
	if got, ok := impl.AddSet(tx, s); ok != wantOk || !sameTx(got, want) {
		t.Errorf("AddSet(%+v, %+v)\n= %+v, %v\nwant %+v, %v", tx, s, got, ok, want, wantOk)
	}
}

func checkLists(t *testing.T, tx impl.Tx, wants []int64, checks []impl.Note) {
	t.Helper()
	if got := impl.Wants(tx); !slices.Equal(got, wants) {
		t.Errorf("Wants(%+v) = %v, want %v", tx, got, wants)
	}
	if got := impl.Checks(tx); !slices.Equal(got, checks) {
		t.Errorf("Checks(%+v) = %+v, want %+v", tx, got, checks)
	}
}

func checkSetsOf(t *testing.T, tx impl.Tx, region int64, want []impl.Set) {
	t.Helper()
	if got := impl.SetsOf(tx, region); !slices.Equal(got, want) {
		t.Errorf("SetsOf(%+v, %d) = %+v, want %+v", tx, region, got, want)
	}
}

// checkAllOf asks all that the chapter has of one transaction, and holds it against the plain answers.
func checkAllOf(t *testing.T, tx impl.Tx) {
	t.Helper()
	checkTxOk(t, tx, plainTxOk(tx))
	checkLists(t, tx, plainWants(tx), plainChecks(tx))
	for _, region := range someRegions {
		checkSetsOf(t, tx, region, plainSetsOf(tx, region))
	}
	for cell := range int64(howManyCells) {
		n, s := noteAt(cell), setAt(cell)
		n.Version, n.Value, s.Version, s.Value, s.Used = 17, 18, 19, 20, !s.Used
		want, wantOk := plainAddRead(tx, n)
		checkAddRead(t, tx, n, want, wantOk)
		want, wantOk = plainAddSet(tx, s)
		checkAddSet(t, tx, s, want, wantOk)
	}
}

func TestLimitsOfNotes(t *testing.T) {
	phases := []int64{impl.PhRun, impl.PhLock, impl.PhCheck, impl.PhBackup, impl.PhPrimary, impl.PhClear, impl.PhCommitted, impl.PhUnlock, impl.PhAborted}
	if !slices.Equal(phases, idsFrom(1, 1, lastPhase)) || impl.MaxStamp != lastStamp || impl.MaxSets != mostSets {
		t.Error("a constant of the notes is not the document's")
	}
}

func TestTxsThatAreOk(t *testing.T) {
	for _, tx := range goodTxs() {
		checkTxOk(t, tx, true)
	}
	for _, tx := range wrongTxs() {
		checkTxOk(t, tx, false)
	}
}

func TestNumbersOfTxsAtTheirLimits(t *testing.T) {
	for _, good := range []impl.Tx{{Id: 1, Phase: 1}, txOf(notesAt(2, 8), setsAtCells(8, 30))} {
		for _, tx := range allChanged(good, txNumbers(), numberOf[impl.Tx].within) {
			checkTxOk(t, tx, true)
			checkAllOf(t, tx)
		}
	}
	for _, n := range allChanged(noteAt(14), noteNumbers(), numberOf[impl.Note].within) {
		for _, used := range []bool{false, true} {
			n.Used = used
			checkTxOk(t, txOf([]impl.Note{n}, nil), true)
			checkAllOf(t, txOf([]impl.Note{n}, setsAtCells(14)))
		}
	}
	for _, s := range allChanged(setAt(14), setNumbers(), numberOf[impl.Set].within) {
		for _, used := range []bool{false, true} {
			s.Used = used
			checkTxOk(t, txOf(nil, []impl.Set{s}), true)
			checkAllOf(t, txOf(notesAt(14), []impl.Set{s}))
		}
	}
}

func TestHowManyNotesAndSets(t *testing.T) {
	for many := range howManyCells + 1 {
		cells := idsFrom(0, 1, many)
		checkTxOk(t, txOf(notesAt(cells...), nil), many <= 12)
		checkTxOk(t, txOf(nil, setsAtCells(cells...)), many <= 12)
		checkTxOk(t, txOf(notesAt(cells...), setsAtCells(cells...)), many <= 12)
	}
	checkTxOk(t, txOf(make([]impl.Note, 100000), nil), false)
	checkTxOk(t, txOf(nil, make([]impl.Set, 100000)), false)
}

// Each two cells in each order: they rise just where the second is behind the first.
func TestEachTwoCellsOfATx(t *testing.T) {
	for first := range int64(howManyCells) {
		for second := range int64(howManyCells) {
			checkTxOk(t, txOf(notesAt(first, second), nil), first < second)
			checkTxOk(t, txOf(nil, setsAtCells(first, second)), first < second)
		}
	}
}

func TestNewTxByHand(t *testing.T) {
	for _, id := range []int64{math.MinInt64, -1, 0, 1, 2, 500, lastId - 1, lastId, lastId + 1, math.MaxInt64} {
		for _, home := range []int64{math.MinInt64, -1, 0, 1, 2, 3, 4, 5, 6, 7, 8, math.MaxInt64} {
			want, wantOk := impl.Tx{Id: id, Home: home, Phase: 1}, id >= 1 && id <= 1000000 && home >= 0 && home <= 7
			if !wantOk {
				want = impl.Tx{}
			}
			got, ok := impl.NewTx(id, home)
			if ok != wantOk || !sameTx(got, want) {
				t.Errorf("NewTx(%d, %d) = %+v, %v, want %+v, %v", id, home, got, ok, want, wantOk)
			}
			checkTxOk(t, got, wantOk)
		}
	}
}

func TestAddReadByHand(t *testing.T) {
	a, b, c := impl.Note{Region: 0, Slot: 5, Version: 3, Value: 8, Used: true}, impl.Note{Region: 1, Slot: 0}, impl.Note{Region: 1, Slot: 2, Version: lastVersion}
	sets := setsAtCells(5, 6)
	checkAddRead(t, txOf(nil, sets), b, txOf([]impl.Note{b}, sets), true)
	checkAddRead(t, txOf([]impl.Note{b}, sets), a, txOf([]impl.Note{a, b}, sets), true)
	checkAddRead(t, txOf([]impl.Note{a, c}, sets), b, txOf([]impl.Note{a, b, c}, sets), true)
	checkAddRead(t, txOf([]impl.Note{a, b}, nil), c, txOf([]impl.Note{a, b, c}, nil), true)
	for _, other := range []impl.Note{a, {Region: 0, Slot: 5}, {Region: 0, Slot: 5, Version: 4, Value: -8}, {Region: 0, Slot: 5, Version: 3, Value: 8}} {
		checkAddRead(t, txOf([]impl.Note{a, c}, sets), other, txOf([]impl.Note{a, c}, sets), true)
	}
	// The chapter asks for no more of a note than its four numbers.
	free := impl.Note{Region: 2, Slot: 1, Value: 3}
	checkAddRead(t, txOf(nil, nil), free, txOf([]impl.Note{free}, nil), true)
}

func TestAddSetByHand(t *testing.T) {
	a, b, c := impl.Set{Region: 0, Slot: 5, Value: 8, Used: true, Version: 3}, impl.Set{Region: 1, Slot: 0}, impl.Set{Region: 1, Slot: 2, Version: lastSetVersion}
	reads := notesAt(5, 6)
	checkAddSet(t, txOf(reads, nil), b, txOf(reads, []impl.Set{b}), true)
	checkAddSet(t, txOf(reads, []impl.Set{b}), a, txOf(reads, []impl.Set{a, b}), true)
	checkAddSet(t, txOf(reads, []impl.Set{a, c}), b, txOf(reads, []impl.Set{a, b, c}), true)
	checkAddSet(t, txOf(nil, []impl.Set{a, b}), c, txOf(nil, []impl.Set{a, b, c}), true)
	for _, other := range []impl.Set{a, {Region: 0, Slot: 5}, {Region: 0, Slot: 5, Version: 4, Value: -8}, {Region: 0, Slot: 5, Version: lastSetVersion, Value: 9, Used: true}} {
		kept := impl.Set{Region: 0, Slot: 5, Value: other.Value, Used: other.Used, Version: 3}
		checkAddSet(t, txOf(reads, []impl.Set{a, c}), other, txOf(reads, []impl.Set{kept, c}), true)
	}
	// The Version that is not kept has to be one of a Set all the same.
	for _, version := range []int64{-1, lastVersion} {
		checkAddSet(t, txOf(reads, []impl.Set{a, c}), impl.Set{Region: 0, Slot: 5, Version: version}, impl.Tx{}, false)
	}
}

func TestListsByHand(t *testing.T) {
	a, b, c, d := setAt(1), setAt(5), setAt(14), setAt(35)
	reads := notesAt(0, 1, 5, 6, 14, 20)
	tx := txOf(reads, []impl.Set{a, b, c, d})
	checkLists(t, tx, []int64{0, 2, 5}, notesAt(0, 6, 20))
	for region, want := range [][]impl.Set{{a, b}, nil, {c}, nil, nil, {d}, nil} {
		checkSetsOf(t, tx, int64(region), want)
	}
	for _, region := range []int64{math.MinInt64, -6, -1, 6, 7, math.MaxInt64} {
		checkSetsOf(t, tx, region, nil)
	}
	checkLists(t, txOf(reads, nil), nil, reads)
	checkLists(t, txOf(nil, []impl.Set{a, b}), []int64{0}, nil)
	checkLists(t, txOf(notesAt(1, 5), []impl.Set{a, b}), []int64{0}, nil)
	checkLists(t, txOf(nil, nil), nil, nil)
	// A read of another slot of the region, or of the same slot of another region, is looked at.
	checkLists(t, txOf(notesAt(8, 13, 15, 20), []impl.Set{c}), []int64{2}, notesAt(8, 13, 15, 20))
}

// What is read and what is written may be unlike in Version, Value and Used: Checks goes by the cell alone.
func TestChecksGoByTheCell(t *testing.T) {
	n := impl.Note{Region: 3, Slot: 4, Version: 6, Value: 5, Used: true}
	for _, s := range []impl.Set{{Region: 3, Slot: 4}, {Region: 3, Slot: 4, Version: 6, Value: 5, Used: true}, {Region: 3, Slot: 4, Version: 7, Value: -1}} {
		checkLists(t, txOf([]impl.Note{n}, []impl.Set{s}), []int64{3}, nil)
	}
}

func TestTxsAgainstThePlainAnswers(t *testing.T) {
	for _, tx := range append(goodTxs(), wrongTxs()...) {
		checkAllOf(t, tx)
	}
}

// Every choice of some cells of three regions as Reads, and another as Sets.
func TestEveryChoiceOfCells(t *testing.T) {
	cells := []int64{0, 5, 6, 8, 11, 30}
	var choices [][]int64
	for _, choice := range slotChoices() {
		var list []int64
		for _, i := range choice {
			list = append(list, cells[i])
		}
		choices = append(choices, list)
	}
	for i, reads := range choices {
		for k, sets := range choices {
			tx := txOf(notesAt(reads...), setsAtCells(sets...))
			checkTxOk(t, tx, true)
			checkLists(t, tx, plainWants(tx), plainChecks(tx))
			if i == k || i+k == len(choices)-1 {
				checkAllOf(t, tx)
			}
		}
	}
}

// Each cell comes into each list of so many: ahead of the others, between two of them, behind them, or where there is one.
func TestRoomForSoMany(t *testing.T) {
	for _, many := range []int{mostSets - 1, mostSets} {
		for _, cells := range [][]int64{idsFrom(0, 1, many), idsFrom(1, 2, many), idsFrom(2, 3, many), idsFrom(int64(howManyCells-many), 1, many)} {
			tx := txOf(notesAt(cells...), setsAtCells(cells...))
			for cell := range int64(howManyCells) {
				n, s, found := noteAt(cell), setAt(cell), slices.Contains(cells, cell)
				n.Value, s.Value, s.Version = 1, 2, 3
				read, ok := impl.AddRead(tx, n)
				if want := found || many < 12; ok != want {
					t.Errorf("AddRead of cell %d to the cells %v: %v, want %v", cell, cells, ok, want)
				}
				if found && !sameTx(read, tx) {
					t.Errorf("AddRead of cell %d, which is there, to the cells %v: %+v", cell, cells, read)
				}
				set, ok := impl.AddSet(tx, s)
				if want := found || many < 12; ok != want {
					t.Errorf("AddSet of cell %d to the cells %v: %v, want %v", cell, cells, ok, want)
				}
				if found && len(set.Sets) != many {
					t.Errorf("AddSet of cell %d, which is there, to the cells %v: %+v", cell, cells, set)
				}
			}
			checkAllOf(t, tx)
		}
	}
}

// Full Reads leave room for Sets, and full Sets for Reads.
func TestReadsAndSetsAreCountedApart(t *testing.T) {
	full, none := idsFrom(3, 2, mostSets), []int64{0}
	checkAddSet(t, txOf(notesAt(full...), nil), setAt(0), txOf(notesAt(full...), setsAtCells(none...)), true)
	checkAddRead(t, txOf(nil, setsAtCells(full...)), noteAt(0), txOf(notesAt(none...), setsAtCells(full...)), true)
	checkAddRead(t, txOf(notesAt(full...), nil), noteAt(0), impl.Tx{}, false)
	checkAddSet(t, txOf(nil, setsAtCells(full...)), setAt(0), impl.Tx{}, false)
}

func TestNotesAndSetsThatAreNone(t *testing.T) {
	starts := []impl.Tx{{Id: 1, Phase: 1}, txOf(notesAt(0, 14), setsAtCells(0, 14)), txOf(notesAt(idsFrom(0, 1, mostSets)...), setsAtCells(idsFrom(0, 1, mostSets)...))}
	for _, tx := range starts {
		for _, n := range wrongNotes() {
			checkAddRead(t, tx, n, impl.Tx{}, false)
		}
		for _, s := range wrongSets() {
			checkAddSet(t, tx, s, impl.Tx{}, false)
		}
	}
	for _, tx := range starts[:2] {
		for _, n := range allChanged(noteAt(15), noteNumbers(), numberOf[impl.Note].within) {
			want, _ := plainAddRead(tx, n)
			checkAddRead(t, tx, n, want, true)
		}
		for _, s := range allChanged(setAt(15), setNumbers(), numberOf[impl.Set].within) {
			want, _ := plainAddSet(tx, s)
			checkAddSet(t, tx, s, want, true)
		}
	}
}

func TestTxsThatAreNoneAreRefused(t *testing.T) {
	for _, tx := range wrongTxs() {
		for cell := range int64(howManyCells) {
			checkAddRead(t, tx, noteAt(cell), impl.Tx{}, false)
			checkAddSet(t, tx, setAt(cell), impl.Tx{}, false)
		}
		checkLists(t, tx, nil, nil)
		for _, region := range someRegions {
			checkSetsOf(t, tx, region, nil)
		}
	}
}

// Reads and Sets come by a fixed rule, in no order; a board of the cells tells what has to stand there.
func TestPromise7(t *testing.T) {
	for seed := range 60 {
		tx, _ := impl.NewTx(int64(seed+1), int64(seed%howManyMachines))
		state := uint64(seed)*2654435761 + 1
		next := func(below uint64) int64 {
			state = state*6364136223846793005 + 1442695040888963407
			return int64(state >> 33 % below)
		}
		for step := range 60 {
			cell := next(howManyCells)
			n, s := noteAt(cell), setAt(cell)
			n.Version, s.Version, n.Value, s.Value = int64(step), int64(step), next(100), next(100)
			read, readOk := plainAddRead(tx, n)
			checkAddRead(t, tx, n, read, readOk)
			if readOk && next(2) == 0 {
				tx, _ = impl.AddRead(tx, n)
			}
			set, setOk := plainAddSet(tx, s)
			checkAddSet(t, tx, s, set, setOk)
			if setOk && next(2) == 0 {
				tx, _ = impl.AddSet(tx, s)
			}
			checkRisesOnce(t, tx)
		}
		if len(tx.Reads) != mostSets || len(tx.Sets) != mostSets {
			t.Errorf("60 steps of seed %d left room: %+v", seed, tx)
		}
	}
}

func checkRisesOnce(t *testing.T, tx impl.Tx) {
	t.Helper()
	for i := 1; i < len(tx.Reads); i++ {
		if a, b := tx.Reads[i-1], tx.Reads[i]; a.Region > b.Region || a.Region == b.Region && a.Slot >= b.Slot {
			t.Fatalf("the Reads do not rise: %+v", tx.Reads)
		}
	}
	for i := 1; i < len(tx.Sets); i++ {
		if a, b := tx.Sets[i-1], tx.Sets[i]; a.Region > b.Region || a.Region == b.Region && a.Slot >= b.Slot {
			t.Fatalf("the Sets do not rise: %+v", tx.Sets)
		}
	}
	var all []impl.Set
	for _, region := range impl.Wants(tx) {
		all = append(all, impl.SetsOf(tx, region)...)
	}
	if !slices.Equal(all, tx.Sets) || !impl.TxOk(tx) {
		t.Fatalf("the Sets are %+v, by regions %+v", tx.Sets, all)
	}
}

// Whatever order twelve cells come in, they stand in the one order there is.
func TestTheOrderOfComingIsForgotten(t *testing.T) {
	cells := idsFrom(1, 3, mostSets)
	want := txOf(notesAt(cells...), setsAtCells(cells...))
	for step := 1; step < mostSets; step++ {
		for start := range mostSets {
			tx := txOf(nil, nil)
			for i := range 2 * mostSets {
				// The second time round is by ones, for the cells that the steps went past.
				cell := cells[(start+i*step)%mostSets]
				if i >= mostSets {
					cell = cells[(start+i)%mostSets]
				}
				tx, _ = impl.AddRead(tx, noteAt(cell))
				tx, _ = impl.AddSet(tx, setAt(cell))
			}
			if !sameTx(tx, want) {
				t.Errorf("steps of %d from %d on: %+v", step, start, tx)
			}
		}
	}
}

func notesList(notes []impl.Note) innerList {
	spoil := func() {
		room := notes[:cap(notes)]
		for i := range room {
			room[i] = impl.Note{Region: -99, Value: -99}
		}
	}
	return innerList{spoil, func() string { return fmt.Sprint(notes) }}
}

func checkTxStays(t *testing.T, start impl.Tx, n impl.Note, s impl.Set) {
	t.Helper()
	tx := start
	var readsStay, setsStay func() bool
	tx.Reads, readsStay = guarded(start.Reads, impl.Note{Region: 77, Slot: 77})
	tx.Sets, setsStay = guarded(start.Sets, impl.Set{Region: 77, Slot: 77})
	lists := []innerList{}
	for range 2 {
		read, _ := impl.AddRead(tx, n)
		set, _ := impl.AddSet(tx, s)
		lists = append(lists, notesList(read.Reads), setsList(read.Sets), notesList(set.Reads), setsList(set.Sets),
			numbersList(impl.Wants(tx)), setsList(impl.SetsOf(tx, s.Region)), notesList(impl.Checks(tx)))
	}
	impl.TxOk(tx)
	if !readsStay() || !setsStay() {
		t.Errorf("an argument is changed by a call: %+v", tx)
	}
	checkListsApart(t, lists)
	if !readsStay() || !setsStay() {
		t.Errorf("an answer shares memory with an argument: %+v", tx)
	}
}

func TestTxsStayAndShareNothing(t *testing.T) {
	for _, start := range append(goodTxs(), wrongTxs()...) {
		for _, cell := range []int64{0, 14, 20, 35} {
			checkTxStays(t, start, noteAt(cell), setAt(cell))
		}
		checkTxStays(t, start, impl.Note{Region: -1}, impl.Set{Region: 6})
	}
}
