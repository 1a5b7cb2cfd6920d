package tests

import (
	"math"
	"slices"
	"testing"

	"loop.example/g00153/impl"
)

const howManySlots = lastSlot + 1

func cellOf(version int64, used, locked bool, value int64) impl.Cell {
	return impl.Cell{Head: headOf(version, used, locked), Value: value}
}

// mixedCells: free and in use, locked and not, of several versions; slot 2 and slot 4 are locked.
func mixedCells() []impl.Cell {
	return []impl.Cell{
		cellOf(0, false, false, 0),
		cellOf(3, true, false, -7),
		cellOf(3, true, true, 40),
		cellOf(lastVersion, true, false, lastValue),
		cellOf(9, false, true, 0),
		cellOf(lastSetVersion, true, false, -lastValue),
	}
}

// openCells: as mixedCells, but none is locked and none is at the last version, so that all may be set.
func openCells() []impl.Cell {
	return []impl.Cell{
		cellOf(0, false, false, 0),
		cellOf(3, true, false, -7),
		cellOf(4, true, false, 40),
		cellOf(12, true, false, lastValue),
		cellOf(9, false, false, 0),
		cellOf(lastSetVersion, true, false, -lastValue),
	}
}

func wholeRegions() [][]impl.Cell {
	return [][]impl.Cell{impl.NewCells(), mixedCells(), openCells()}
}

func slotChoices() [][]int64 {
	var choices [][]int64
	for choice := range 1 << howManySlots {
		var slots []int64
		for slot := range int64(howManySlots) {
			if choice>>slot&1 == 1 {
				slots = append(slots, slot)
			}
		}
		choices = append(choices, slots)
	}
	return choices
}

// setsAt are Sets of these slots with the versions that the cells have now (the last that a Set may have, at most).
func setsAt(cells []impl.Cell, slots ...int64) []impl.Set {
	var sets []impl.Set
	for i, slot := range slots {
		version := min(cells[slot].Head/4, lastSetVersion)
		sets = append(sets, impl.Set{Region: 2, Slot: slot, Value: int64(100*i - 150), Used: i%3 != 1, Version: version})
	}
	return sets
}

// What follows says the chapter once more, by arithmetic on heads, slot by slot.

func plainCellsOk(cells []impl.Cell) bool {
	for _, c := range cells {
		used := c.Head%4 >= 2
		if c.Head < 0 || c.Head > lastHead || c.Value < -lastValue || c.Value > lastValue || !used && c.Value != 0 {
			return false
		}
	}
	return len(cells) == howManySlots
}

func plainSetsOk(sets []impl.Set) bool {
	before := int64(-1)
	for _, s := range sets {
		if s.Region < 0 || s.Region > lastRegion || s.Slot <= before || s.Slot > lastSlot {
			return false
		}
		if s.Value < -lastValue || s.Value > lastValue || s.Version < 0 || s.Version > lastSetVersion {
			return false
		}
		before = s.Slot
	}
	return true
}

func plainLock(cells []impl.Cell, sets []impl.Set) ([]impl.Cell, bool) {
	if !plainCellsOk(cells) || !plainSetsOk(sets) {
		return nil, false
	}
	answer := slices.Clone(cells)
	for _, s := range sets {
		if cells[s.Slot].Head%2 == 1 || cells[s.Slot].Head/4 != s.Version {
			return slices.Clone(cells), false
		}
		answer[s.Slot].Head++
	}
	return answer, true
}

func plainInstall(cells []impl.Cell, sets []impl.Set) ([]impl.Cell, bool) {
	if !plainCellsOk(cells) || !plainSetsOk(sets) {
		return nil, false
	}
	answer := slices.Clone(cells)
	for _, s := range sets {
		if cells[s.Slot].Head/4 > s.Version {
			continue
		}
		answer[s.Slot] = impl.Cell{Head: 4*s.Version + 4}
		if s.Used {
			answer[s.Slot] = impl.Cell{Head: 4*s.Version + 6, Value: s.Value}
		}
	}
	return answer, true
}

func plainUnlock(cells []impl.Cell, sets []impl.Set) []impl.Cell {
	if !plainCellsOk(cells) || !plainSetsOk(sets) {
		return nil
	}
	answer := slices.Clone(cells)
	for _, s := range sets {
		if head := cells[s.Slot].Head; head/4 == s.Version {
			answer[s.Slot].Head = head - head%2
		}
	}
	return answer
}

// checkSets holds Lock, Install and Unlock against the chapter as it is said above.
func checkSets(t *testing.T, cells []impl.Cell, sets []impl.Set) {
	t.Helper()
	got, ok := impl.Lock(cells, sets)
	if want, wantOk := plainLock(cells, sets); ok != wantOk || !slices.Equal(got, want) {
		t.Fatalf("Lock(%v, %+v) = %v, %v, want %v, %v", cells, sets, got, ok, want, wantOk)
	}
	got, ok = impl.Install(cells, sets)
	if want, wantOk := plainInstall(cells, sets); ok != wantOk || !slices.Equal(got, want) {
		t.Fatalf("Install(%v, %+v) = %v, %v, want %v, %v", cells, sets, got, ok, want, wantOk)
	}
	got = impl.Unlock(cells, sets)
	if want := plainUnlock(cells, sets); !slices.Equal(got, want) {
		t.Fatalf("Unlock(%v, %+v) = %v, want %v", cells, sets, got, want)
	}
}

func checkCellsOk(t *testing.T, cells []impl.Cell, want bool) {
	t.Helper()
	if got := impl.CellsOk(cells); got != want {
		t.Errorf("CellsOk(%v) = %v, want %v", cells, got, want)
	}
}

func checkLock(t *testing.T, cells []impl.Cell, sets []impl.Set, want []impl.Cell, wantOk bool) {
	t.Helper()
	if got, ok := impl.Lock(cells, sets); ok != wantOk || !slices.Equal(got, want) {
		t.Errorf("Lock(%v, %+v) = %v, %v, want %v, %v", cells, sets, got, ok, want, wantOk)
	}
}

func checkInstall(t *testing.T, cells []impl.Cell, sets []impl.Set, want []impl.Cell, wantOk bool) {
	t.Helper()
	if got, ok := impl.Install(cells, sets); ok != wantOk || !slices.Equal(got, want) {
		t.Errorf("Install(%v, %+v) = %v, %v, want %v, %v", cells, sets, got, ok, want, wantOk)
	}
}

func checkUnlock(t *testing.T, cells []impl.Cell, sets []impl.Set, want []impl.Cell) {
	t.Helper()
	if got := impl.Unlock(cells, sets); !slices.Equal(got, want) {
		t.Errorf("Unlock(%v, %+v) = %v, want %v", cells, sets, got, want)
	}
}

func checkFree(t *testing.T, cells []impl.Cell, but []int64, want int64) {
	t.Helper()
	if got := impl.FreeSlot(cells, but); got != want {
		t.Errorf("FreeSlot(%v, %v) = %d, want %d", cells, but, got, want)
	}
}

func withCell(cells []impl.Cell, slot int64, c impl.Cell) []impl.Cell {
	changed := slices.Clone(cells)
	changed[slot] = c
	return changed
}

func TestNewCellsAreAllNought(t *testing.T) {
	cells := impl.NewCells()
	if !slices.Equal(cells, make([]impl.Cell, 6)) {
		t.Errorf("NewCells() = %v", cells)
	}
	checkCellsOk(t, cells, true)
	for i := range cells {
		cells[i] = cellOf(7, true, true, 7)
	}
	if again := impl.NewCells(); !slices.Equal(again, make([]impl.Cell, 6)) {
		t.Errorf("NewCells() = %v behind a change of the ones before", again)
	}
}

func TestHowManyCells(t *testing.T) {
	for _, c := range []impl.Cell{{}, cellOf(4, true, false, 9), cellOf(4, false, true, 0)} {
		for many := range 20 {
			checkCellsOk(t, slices.Repeat([]impl.Cell{c}, many), many == 6)
		}
	}
	checkCellsOk(t, nil, false)
	// What stands in the room behind a list is no part of it.
	checkCellsOk(t, mixedCells()[:5], false)
	checkCellsOk(t, append(mixedCells(), impl.Cell{Head: -1})[:6], true)
}

func TestCellsAtTheirLimits(t *testing.T) {
	numbers := []int64{math.MinInt64, -1 << 32, -lastValue - 1, -lastValue, 1 - lastValue, -lastHead, -4, -1, 0, 1, 2, 3, 4, 23,
		lastHead - 3, lastHead - 2, lastHead - 1, lastHead, lastHead + 1, lastHead + 3, lastValue - 1, lastValue, lastValue + 1,
		1<<32 + 2, math.MaxInt64}
	for _, cells := range wholeRegions() {
		checkCellsOk(t, cells, true)
		for slot := range int64(howManySlots) {
			for _, head := range numbers {
				for _, value := range numbers {
					changed := withCell(cells, slot, impl.Cell{Head: head, Value: value})
					checkCellsOk(t, changed, plainCellsOk(changed))
				}
			}
		}
	}
}

func TestCellsByHand(t *testing.T) {
	cases := []struct {
		cell impl.Cell
		want bool
	}{
		{impl.Cell{Head: 2, Value: 1000000000}, true},
		{impl.Cell{Head: 2, Value: 1000000001}, false},
		{impl.Cell{Head: 3, Value: -1000000000}, true},
		{impl.Cell{Head: 3, Value: -1000000001}, false},
		{impl.Cell{Head: 2, Value: 0}, true},
		{impl.Cell{Head: 0, Value: 1}, false},
		{impl.Cell{Head: 1, Value: -1}, false},
		{impl.Cell{Head: 1, Value: 0}, true},
		{impl.Cell{Head: 4000000, Value: 1}, false},
		{impl.Cell{Head: 4000001, Value: 0}, true},
		{impl.Cell{Head: 4000003, Value: 5}, true},
		{impl.Cell{Head: 4000004, Value: 0}, false},
		{impl.Cell{Head: 4000006, Value: 5}, false},
		{impl.Cell{Head: -1, Value: 0}, false},
		{impl.Cell{Head: -2, Value: 5}, false},
	}
	for _, c := range cases {
		for slot := range int64(howManySlots) {
			checkCellsOk(t, withCell(impl.NewCells(), slot, c.cell), c.want)
			checkCellsOk(t, withCell(mixedCells(), slot, c.cell), c.want)
		}
	}
}

func TestLookAtEverySlot(t *testing.T) {
	for _, cells := range wholeRegions() {
		for slot, want := range cells {
			wantOk := want.Head%2 == 0
			if !wantOk {
				want = impl.Cell{}
			}
			if got, ok := impl.Look(cells, int64(slot)); got != want || ok != wantOk {
				t.Errorf("Look(%v, %d) = %v, %v, want %v, %v", cells, slot, got, ok, want, wantOk)
			}
		}
		for _, slot := range []int64{-1, -2, -6, 6, 7, 12, 1 << 32, -1 << 32, 1<<32 + 1, math.MaxInt64, math.MinInt64} {
			if got, ok := impl.Look(cells, slot); got != (impl.Cell{}) || ok {
				t.Errorf("Look(%v, %d) = %v, %v, want the zero Cell and false", cells, slot, got, ok)
			}
		}
	}
}

func TestLockedIsLockedForOne(t *testing.T) {
	for _, cells := range [][]impl.Cell{impl.NewCells(), openCells()} {
		for _, slots := range slotChoices() {
			sets := setsAt(cells, slots...)
			locked, ok := impl.Lock(cells, sets)
			if !ok {
				t.Fatalf("Lock(%v, %+v) says false", cells, sets)
			}
			for slot, c := range locked {
				want := cells[slot]
				if slices.Contains(slots, int64(slot)) {
					want.Head++
				}
				if c != want {
					t.Errorf("slot %d is %v when %v are locked, was %v", slot, c, slots, cells[slot])
				}
				if _, seen := impl.Look(locked, int64(slot)); seen == slices.Contains(slots, int64(slot)) {
					t.Errorf("Look at slot %d says %v when %v are locked", slot, seen, slots)
				}
			}
			for _, others := range slotChoices() {
				meets := slices.ContainsFunc(others, func(slot int64) bool { return slices.Contains(slots, slot) })
				again, ok := impl.Lock(locked, setsAt(cells, others...))
				if ok == meets || meets && !slices.Equal(again, locked) {
					t.Errorf("slots %v locked behind %v: %v, %v from %v", others, slots, again, ok, locked)
				}
			}
		}
	}
}

func TestUnlockedIsAsItWas(t *testing.T) {
	for _, cells := range [][]impl.Cell{impl.NewCells(), openCells()} {
		for _, slots := range slotChoices() {
			sets := setsAt(cells, slots...)
			locked, _ := impl.Lock(cells, sets)
			checkUnlock(t, locked, sets, cells)
			checkUnlock(t, cells, sets, cells)
			again, ok := impl.Lock(impl.Unlock(locked, sets), sets)
			if !ok || !slices.Equal(again, locked) {
				t.Errorf("locked, unlocked and locked again: %v, %v, want %v, true", again, ok, locked)
			}
		}
	}
}

func TestInstalledTwiceIsInstalledOnce(t *testing.T) {
	for _, cells := range wholeRegions() {
		for _, slots := range slotChoices() {
			sets := setsAt(cells, slots...)
			once, ok := impl.Install(cells, sets)
			if !ok || !impl.CellsOk(once) {
				t.Fatalf("Install(%v, %+v) = %v, %v", cells, sets, once, ok)
			}
			checkInstall(t, once, sets, once, true)
			if locked, is := impl.Lock(cells, sets); is {
				checkInstall(t, locked, sets, once, true)
			}
			// Nobody can lock by what was read ahead of it, and a late Unlock finds nothing to do.
			if len(slots) > 0 {
				checkLock(t, once, sets, once, false)
			}
			later := setsAt(once, slots...)
			if locked, is := impl.Lock(once, later); is && len(slots) > 0 {
				checkUnlock(t, locked, sets, locked)
				checkInstall(t, locked, sets, locked, true)
			}
		}
	}
}

func TestLockByHand(t *testing.T) {
	cells := mixedCells()
	good := []impl.Set{{Region: 1, Slot: 0, Value: 5, Used: true}, {Region: 1, Slot: 1, Version: 3},
		{Region: 1, Slot: 5, Value: -2, Used: true, Version: lastSetVersion}}
	want := slices.Clone(cells)
	want[0].Head, want[1].Head, want[5].Head = 1, 15, 4*lastSetVersion+3
	checkLock(t, cells, good, want, true)
	checkLock(t, cells, good[:1], withCell(cells, 0, impl.Cell{Head: 1}), true)
	for at := range good {
		for _, by := range []int64{-1, 1, 2, -3} {
			sets := slices.Clone(good)
			sets[at].Version += by
			refused := cells
			if !plainSetsOk(sets) {
				refused = nil
			}
			checkLock(t, cells, sets, refused, false)
		}
	}
	checkLock(t, cells, []impl.Set{{Slot: 2, Version: 3}}, cells, false)
	checkLock(t, cells, []impl.Set{{Slot: 4, Version: 9}}, cells, false)
	checkLock(t, cells, []impl.Set{{Slot: 0}, {Slot: 1, Version: 3}, {Slot: 4, Version: 9}}, cells, false)
	checkLock(t, cells, []impl.Set{{Slot: 2, Version: 3}, {Slot: 5, Version: lastSetVersion}}, cells, false)
	// No Set has the last version, so a cell that has it can't be locked.
	checkLock(t, cells, []impl.Set{{Slot: 3, Version: lastSetVersion}}, cells, false)
	checkLock(t, cells, []impl.Set{{Slot: 3, Version: lastVersion}}, nil, false)
}

func TestInstallByHand(t *testing.T) {
	cells := mixedCells()
	cases := []struct {
		set  impl.Set
		want impl.Cell
	}{
		{impl.Set{Slot: 0, Value: 8, Used: true, Version: 0}, impl.Cell{Head: 6, Value: 8}},
		{impl.Set{Slot: 0, Value: 8, Version: 0}, impl.Cell{Head: 4}},
		{impl.Set{Slot: 1, Value: 8, Used: true, Version: 2}, cells[1]},
		{impl.Set{Slot: 1, Value: 8, Used: true, Version: 3}, impl.Cell{Head: 18, Value: 8}},
		{impl.Set{Slot: 1, Value: 8, Version: 3}, impl.Cell{Head: 16}},
		{impl.Set{Slot: 1, Value: 8, Used: true, Version: 4}, impl.Cell{Head: 22, Value: 8}},
		{impl.Set{Slot: 1, Used: true, Version: 3}, impl.Cell{Head: 18}},
		{impl.Set{Slot: 1, Value: -lastValue, Used: true, Version: 3}, impl.Cell{Head: 18, Value: -lastValue}},
		{impl.Set{Slot: 1, Value: lastValue, Version: 3}, impl.Cell{Head: 16}},
		{impl.Set{Slot: 2, Value: 8, Used: true, Version: 2}, cells[2]},
		{impl.Set{Slot: 2, Value: 8, Used: true, Version: 3}, impl.Cell{Head: 18, Value: 8}},
		{impl.Set{Slot: 2, Version: 3}, impl.Cell{Head: 16}},
		{impl.Set{Slot: 3, Value: 8, Used: true, Version: lastSetVersion}, cells[3]},
		{impl.Set{Slot: 3, Version: 0}, cells[3]},
		{impl.Set{Slot: 4, Value: 8, Used: true, Version: 9}, impl.Cell{Head: 42, Value: 8}},
		{impl.Set{Slot: 4, Value: 8, Version: 8}, cells[4]},
		{impl.Set{Slot: 4, Value: 8, Version: 10}, impl.Cell{Head: 44}},
		{impl.Set{Slot: 5, Value: 8, Used: true, Version: lastSetVersion}, impl.Cell{Head: 4000002, Value: 8}},
		{impl.Set{Slot: 5, Value: 8, Version: lastSetVersion}, impl.Cell{Head: 4000000}},
		{impl.Set{Slot: 0, Value: 8, Used: true, Version: lastSetVersion}, impl.Cell{Head: 4000002, Value: 8}},
	}
	for _, c := range cases {
		checkInstall(t, cells, []impl.Set{c.set}, withCell(cells, c.set.Slot, c.want), true)
	}
	// A slot that stays as it is keeps none of the others from being installed.
	sets := []impl.Set{{Slot: 0, Value: 1, Used: true}, {Slot: 2, Value: 2, Used: true, Version: 2}, {Slot: 4, Value: 3, Version: 9}}
	want := slices.Clone(cells)
	want[0], want[4] = impl.Cell{Head: 6, Value: 1}, impl.Cell{Head: 40}
	checkInstall(t, cells, sets, want, true)
}

func TestUnlockByHand(t *testing.T) {
	cells := mixedCells()
	free2, free4 := withCell(cells, 2, cellOf(3, true, false, 40)), withCell(cells, 4, cellOf(9, false, false, 0))
	checkUnlock(t, cells, []impl.Set{{Slot: 2, Value: 77, Version: 3}}, free2)
	checkUnlock(t, cells, []impl.Set{{Slot: 2, Version: 2}}, cells)
	checkUnlock(t, cells, []impl.Set{{Slot: 2, Version: 4}}, cells)
	checkUnlock(t, cells, []impl.Set{{Slot: 4, Value: 77, Used: true, Version: 9}}, free4)
	checkUnlock(t, cells, []impl.Set{{Slot: 4, Version: 8}}, cells)
	checkUnlock(t, cells, []impl.Set{{Slot: 4, Version: 10}}, cells)
	checkUnlock(t, cells, []impl.Set{{Slot: 2, Version: 2}, {Slot: 4, Version: 9}}, free4)
	checkUnlock(t, cells, []impl.Set{{Slot: 2, Version: 3}, {Slot: 4, Version: 10}}, free2)
	checkUnlock(t, cells, []impl.Set{{Slot: 0}, {Slot: 1, Version: 3}, {Slot: 3, Version: lastSetVersion}}, cells)
	// No Set has the last version, so a lock there stays.
	last := withCell(cells, 3, cellOf(lastVersion, true, true, 6))
	checkUnlock(t, last, []impl.Set{{Slot: 3, Version: lastSetVersion}}, last)
}

// Each two slots, with the first and the last versions and all flags, with Sets of such versions or without one.
func TestEveryTwoSlots(t *testing.T) {
	var states []impl.Cell
	for _, version := range []int64{0, 1, lastSetVersion, lastVersion} {
		for _, locked := range []bool{false, true} {
			states = append(states, cellOf(version, false, locked, 0), cellOf(version, true, locked, 31))
		}
	}
	var choices [][]impl.Set
	for _, version := range []int64{0, 1, lastSetVersion} {
		for _, used := range []bool{false, true} {
			choices = append(choices, []impl.Set{{Region: lastRegion, Value: -64, Used: used, Version: version}})
		}
	}
	choices = append(choices, nil)
	for _, pair := range slotChoices() {
		if len(pair) != 2 {
			continue
		}
		for _, first := range states {
			for _, second := range states {
				cells := withCell(withCell(openCells(), pair[0], first), pair[1], second)
				for _, a := range choices {
					for _, b := range choices {
						sets := append(slices.Clone(a), b...)
						for i := range sets {
							sets[i].Slot = pair[1]
						}
						if len(a) > 0 {
							sets[0].Slot = pair[0]
						}
						checkSets(t, cells, sets)
					}
				}
			}
		}
	}
}

func TestNoSetsChangeNothing(t *testing.T) {
	for _, cells := range wholeRegions() {
		for _, none := range [][]impl.Set{nil, {}} {
			checkLock(t, cells, none, cells, true)
			checkInstall(t, cells, none, cells, true)
			checkUnlock(t, cells, none, cells)
		}
	}
}

// Cells don't tell their region, so that of a Set changes no answer.
func TestSetsOfAnyRegion(t *testing.T) {
	for _, cells := range wholeRegions() {
		for region := range int64(lastRegion + 1) {
			sets := setsAt(cells, 0, 1, 5)
			for i := range sets {
				sets[i].Region = region
			}
			checkSets(t, cells, sets)
			sets[1].Region = 0
			checkSets(t, cells, sets)
		}
	}
}

func checkSetsRefused(t *testing.T, cells []impl.Cell, sets []impl.Set) {
	t.Helper()
	checkLock(t, cells, sets, nil, false)
	checkInstall(t, cells, sets, nil, false)
	checkUnlock(t, cells, sets, nil)
	checkSets(t, cells, sets)
}

func TestSetsThatDoNotRise(t *testing.T) {
	for _, cells := range wholeRegions() {
		for _, slots := range [][]int64{{0, 0}, {5, 5}, {1, 0}, {5, 0}, {2, 4, 4}, {2, 2, 4}, {0, 2, 1}, {3, 1, 5}, {5, 4, 3, 2, 1, 0},
			{0, 1, 2, 3, 4, 5, 5}, {0, 0, 1, 2, 3, 4, 5}, {0, 1, 2, 3, 4, 5, 0, 1, 2, 3, 4, 5}} {
			checkSetsRefused(t, cells, setsAt(cells, slots...))
		}
	}
}

func TestSetsThatAreNone(t *testing.T) {
	far := []int64{1 << 32, -1 << 32, 1<<32 + 3, math.MaxInt64, math.MinInt64}
	numbers := []struct {
		wrong []int64
		put   func(s *impl.Set, n int64)
	}{
		{[]int64{-1, lastRegion + 1}, func(s *impl.Set, n int64) { s.Region = n }},
		{[]int64{-1, lastSlot + 1, lastSlot + 2}, func(s *impl.Set, n int64) { s.Slot = n }},
		{[]int64{-lastValue - 1, lastValue + 1}, func(s *impl.Set, n int64) { s.Value = n }},
		{[]int64{-1, lastVersion, lastVersion + 1}, func(s *impl.Set, n int64) { s.Version = n }},
	}
	for _, cells := range wholeRegions() {
		for _, slots := range [][]int64{{0}, {2}, {5}, {1, 3}, {0, 2, 4}, {0, 1, 2, 3, 4, 5}} {
			for at := range slots {
				for _, number := range numbers {
					for _, n := range append(slices.Clone(number.wrong), far...) {
						for _, used := range []bool{false, true} {
							sets := setsAt(cells, slots...)
							sets[at].Used = used
							number.put(&sets[at], n)
							checkSetsRefused(t, cells, sets)
						}
					}
				}
			}
		}
	}
}

func TestCellsThatAreNone(t *testing.T) {
	wrong := [][]impl.Cell{nil, {}, make([]impl.Cell, 1), make([]impl.Cell, 5), make([]impl.Cell, 7), make([]impl.Cell, 12)}
	wrong = append(wrong, mixedCells()[:5], append(openCells(), impl.Cell{}))
	for _, c := range []impl.Cell{{Head: -1}, {Head: lastHead + 1}, {Head: math.MaxInt64}, {Head: math.MinInt64}, {Head: 2, Value: lastValue + 1},
		{Head: 2, Value: -lastValue - 1}, {Head: 0, Value: 1}, {Head: 1, Value: -1}, {Head: 2, Value: math.MinInt64}} {
		for slot := range int64(howManySlots) {
			wrong = append(wrong, withCell(impl.NewCells(), slot, c), withCell(openCells(), slot, c))
		}
	}
	good := []impl.Set{{Slot: 0}, {Slot: 3, Value: 2, Used: true}}
	for _, cells := range wrong {
		checkCellsOk(t, cells, false)
		for slot := int64(-2); slot <= 13; slot++ {
			if got, ok := impl.Look(cells, slot); got != (impl.Cell{}) || ok {
				t.Errorf("Look(%v, %d) = %v, %v, want the zero Cell and false", cells, slot, got, ok)
			}
		}
		for _, sets := range [][]impl.Set{nil, {}, good, good[:1], {{Slot: 6}}, {{Slot: 1}, {Slot: 1}}} {
			checkSetsRefused(t, cells, sets)
		}
		checkFree(t, cells, nil, -1)
		checkFree(t, cells, []int64{0, 9}, -1)
	}
}

func TestFreeSlots(t *testing.T) {
	taken := slices.Repeat([]impl.Cell{cellOf(1, true, false, 4)}, howManySlots)
	checkFree(t, impl.NewCells(), nil, 0)
	checkFree(t, impl.NewCells(), []int64{}, 0)
	checkFree(t, taken, nil, -1)
	for slot := range int64(howManySlots) {
		cells := withCell(taken, slot, cellOf(8, false, false, 0))
		checkFree(t, cells, nil, slot)
		checkFree(t, cells, []int64{slot}, -1)
		checkFree(t, cells, []int64{slot + 1, slot - 1, slot + 6, slot - 6, slot + 1<<32}, slot)
		checkFree(t, withCell(taken, slot, cellOf(8, false, true, 0)), nil, -1)
		checkFree(t, withCell(taken, slot, cellOf(lastVersion, false, false, 0)), nil, slot)
	}
	checkFree(t, withCell(impl.NewCells(), 0, cellOf(0, true, false, 0)), []int64{5, 5, 4}, 1)
	checkFree(t, mixedCells(), nil, 0)
	checkFree(t, mixedCells(), []int64{0}, -1)
	checkFree(t, openCells(), []int64{0}, 4)
	checkFree(t, openCells(), []int64{4, 0}, -1)
	checkFree(t, openCells(), []int64{-1, 6, 7, math.MaxInt64, math.MinInt64}, 0)
}

func TestFreeSlotsButEveryChoice(t *testing.T) {
	for _, but := range slotChoices() {
		for _, used := range slotChoices() {
			cells, want := impl.NewCells(), int64(-1)
			for slot := range int64(howManySlots) {
				switch {
				case slices.Contains(used, slot):
					cells[slot] = []impl.Cell{cellOf(2, true, false, 3), cellOf(2, true, true, 3), cellOf(2, false, true, 0)}[slot%3]
				case want < 0 && !slices.Contains(but, slot):
					want = slot
				}
			}
			checkFree(t, cells, but, want)
			slices.Reverse(but)
			checkFree(t, cells, append([]int64{-1, 6}, append(but, but...)...), want)
			slices.Reverse(but)
		}
	}
}

// guarded is a list with room behind it, and a look at list and room that tells whether they are still the same.
func guarded[T comparable](list []T, mark T) ([]T, func() bool) {
	room := append(slices.Clone(list), mark, mark, mark)
	before := slices.Clone(room)
	return room[:len(list)], func() bool { return slices.Equal(room, before) }
}

// overwrite spoils an answer and the room behind it.
func overwrite(cells []impl.Cell) {
	cells = cells[:cap(cells)]
	for i := range cells {
		cells[i] = impl.Cell{Head: -99, Value: -99}
	}
}

func TestCellsStayAndShareNothing(t *testing.T) {
	wrong := withCell(openCells(), 3, impl.Cell{Head: -1})
	for _, start := range append(wholeRegions(), wrong, openCells()[:5], append(openCells(), impl.Cell{})) {
		for _, slots := range [][]int64{nil, {0}, {1, 5}, {0, 2}, {0, 1, 2, 3, 4}, {4, 1}} {
			cells, cellsStay := guarded(start, impl.Cell{Head: 77, Value: 77})
			sets, setsStay := guarded(setsAt(openCells(), slots...), impl.Set{Region: 77, Slot: 77})
			but, butStay := guarded(slots, 77)
			locked, _ := impl.Lock(cells, sets)
			installed, _ := impl.Install(cells, sets)
			unlocked := impl.Unlock(cells, sets)
			impl.CellsOk(cells)
			impl.Look(cells, 1)
			impl.FreeSlot(cells, but)
			if !cellsStay() || !setsStay() || !butStay() {
				t.Errorf("an argument is changed by a call: cells %v, sets %+v, but %v", cells, sets, but)
			}
			checkApart(t, cellsStay, locked, installed, unlocked)
		}
	}
}

func checkApart(t *testing.T, cellsStay func() bool, answers ...[]impl.Cell) {
	t.Helper()
	for i, answer := range answers {
		others := slices.Delete(slices.Clone(answers), i, i+1)
		first, second := slices.Clone(others[0]), slices.Clone(others[1])
		overwrite(answer)
		if !cellsStay() {
			t.Errorf("answer number %d shares memory with the cells", i)
		}
		if !slices.Equal(others[0], first) || !slices.Equal(others[1], second) {
			t.Errorf("answer number %d shares memory with another answer", i)
		}
	}
}
