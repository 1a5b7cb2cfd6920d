package tests

import (
	"math"
	"slices"
	"testing"

	"loop.example/g00153/impl"
)

const (
	howManyMachines = lastMachine + 1
	howManyRegions  = lastRegion + 1
	mostCopies      = 3
)

func placeOf(machines ...int64) impl.Place { return impl.Place{Machines: machines} }

func placesOf(lists ...[]int64) []impl.Place {
	var places []impl.Place
	for _, machines := range lists {
		places = append(places, placeOf(slices.Clone(machines)...))
	}
	return places
}

func samePlaces(a, b []impl.Place) bool {
	return slices.EqualFunc(a, b, func(x, y impl.Place) bool { return slices.Equal(x.Machines, y.Machines) })
}

// tuples are all lists of just so many of these numbers, one may come several times.
func tuples(numbers []int64, many int) [][]int64 {
	lists := [][]int64{nil}
	for range many {
		var longer [][]int64
		for _, list := range lists {
			for _, n := range numbers {
				longer = append(longer, append(slices.Clone(list), n))
			}
		}
		lists = longer
	}
	return lists
}

// everyPlace: each Place there is, of one machine to three.
func everyPlace() []impl.Place {
	var places []impl.Place
	for many := 1; many <= mostCopies; many++ {
		for _, list := range tuples([]int64{0, 1, 2, 3, 4, 5, 6, 7}, many) {
			if plainPlaceOk(placeOf(list...)) {
				places = append(places, placeOf(list...))
			}
		}
	}
	return places
}

// everyAlive: who lives, in each way there is, for lists of each length up to the greatest.
func everyAlive() [][]bool {
	var lists [][]bool
	for length := range howManyMachines + 1 {
		for choice := range 1 << length {
			alive := make([]bool, length)
			for m := range alive {
				alive[m] = choice>>m&1 == 1
			}
			lists = append(lists, alive)
		}
	}
	return lists
}

// severalPlaces are Places of so many regions, each of another machine list, as the seed has it.
func severalPlaces(regions, seed int) []impl.Place {
	all := everyPlace()
	var places []impl.Place
	for r := range regions {
		p := all[(seed*131+r*61)%len(all)]
		places = append(places, placeOf(slices.Clone(p.Machines)...))
	}
	return places
}

// What follows says the chapter once more, machine by machine.

func plainPlaceOk(p impl.Place) bool {
	var seen [howManyMachines]int
	for _, m := range p.Machines {
		if m < 0 || m > lastMachine || seen[m] > 0 {
			return false
		}
		seen[m]++
	}
	return len(p.Machines) > 0 && len(p.Machines) <= mostCopies
}

func plainPlacesOk(places []impl.Place) bool {
	for _, p := range places {
		if !plainPlaceOk(p) {
			return false
		}
	}
	return len(places) > 0 && len(places) <= howManyRegions
}

func plainRemap(places []impl.Place, alive []bool) ([]impl.Place, []int64) {
	if !plainPlacesOk(places) || len(alive) > howManyMachines {
		return nil, nil
	}
	var lifeOf [howManyMachines]bool
	copy(lifeOf[:], alive)
	var answer []impl.Place
	var lost []int64
	for r, p := range places {
		waiting := slices.Concat(p.Machines, []int64{0, 1, 2, 3, 4, 5, 6, 7})
		left, own := lifeOf, 0
		var machines []int64
		for i, m := range waiting {
			if left[m] && len(machines) < mostCopies {
				left[m] = false
				machines = append(machines, m)
				if i < len(p.Machines) {
					own++
				}
			}
		}
		if own == 0 {
			lost = append(lost, int64(r))
			machines = p.Machines
		}
		answer = append(answer, placeOf(machines...))
	}
	return answer, lost
}

func checkPlacesOk(t *testing.T, places []impl.Place, want bool) {
	t.Helper()
	if got := impl.PlacesOk(places); got != want {
		t.Errorf("PlacesOk(%v) = %v, want %v", places, got, want)
	}
}

func checkSpread(t *testing.T, regions, machines int64, want []impl.Place) {
	t.Helper()
	got, ok := impl.Spread(regions, machines)
	if ok != (want != nil) || !samePlaces(got, want) {
		t.Errorf("Spread(%d, %d) = %v, %v, want %v", regions, machines, got, ok, want)
	}
}

func checkPlaced(t *testing.T, places []impl.Place, region, primary int64, backups []int64) {
	t.Helper()
	if got := impl.Primary(places, region); got != primary {
		t.Errorf("Primary(%v, %d) = %d, want %d", places, region, got, primary)
	}
	if got := impl.Backups(places, region); !slices.Equal(got, backups) {
		t.Errorf("Backups(%v, %d) = %v, want %v", places, region, got, backups)
	}
}

func checkRemap(t *testing.T, places []impl.Place, alive []bool, want []impl.Place, lost []int64) {
	t.Helper()
	got, gotLost := impl.Remap(places, alive)
	if !samePlaces(got, want) || !slices.Equal(gotLost, lost) {
		t.Errorf("Remap(%v, %v) = %v, %v, want %v, %v", places, alive, got, gotLost, want, lost)
	}
}

func TestLimitOfCopies(t *testing.T) {
	if impl.MaxCopies != mostCopies {
		t.Errorf("MaxCopies = %d, want %d", impl.MaxCopies, mostCopies)
	}
}

func TestPlacesByHand(t *testing.T) {
	cases := []struct {
		places []impl.Place
		want   bool
	}{
		{nil, false},
		{[]impl.Place{}, false},
		{placesOf(nil), false},
		{placesOf([]int64{0}), true},
		{placesOf([]int64{7}), true},
		{placesOf([]int64{8}), false},
		{placesOf([]int64{-1}), false},
		{placesOf([]int64{2, 1}), true},
		{placesOf([]int64{2, 2}), false},
		{placesOf([]int64{7, 0, 3}), true},
		{placesOf([]int64{7, 0, 7}), false},
		{placesOf([]int64{7, 7, 0}), false},
		{placesOf([]int64{0, 7, 7}), false},
		{placesOf([]int64{0, 1, 8}), false},
		{placesOf([]int64{0, -1, 1}), false},
		{placesOf([]int64{0, 1, 2, 3}), false},
		{placesOf([]int64{0}, []int64{0}), true},
		{placesOf([]int64{0}, nil), false},
		{placesOf([]int64{0}, []int64{1}, []int64{2}, []int64{3}, []int64{4}, []int64{5}), true},
		{placesOf([]int64{0}, []int64{1}, []int64{2}, []int64{3}, []int64{4}, []int64{5}, []int64{6}), false},
	}
	for _, c := range cases {
		checkPlacesOk(t, c.places, c.want)
	}
}

func TestEveryListOfMachines(t *testing.T) {
	numbers := []int64{math.MinInt64, -1, 0, 1, 2, 3, 4, 5, 6, 7, 8, 1 << 32, math.MaxInt64}
	for many := range 5 {
		for _, list := range tuples(numbers, many) {
			places := placesOf(list)
			checkPlacesOk(t, places, plainPlacesOk(places))
		}
	}
	for many := range 20 {
		checkPlacesOk(t, placesOf(slices.Repeat([]int64{5}, many)), many == 1)
	}
}

func TestHowManyPlaces(t *testing.T) {
	for many := range 20 {
		checkPlacesOk(t, slices.Repeat([]impl.Place{placeOf(4, 2)}, many), many >= 1 && many <= 6)
	}
	// What stands in the room behind a list is no part of it.
	checkPlacesOk(t, placesOf([]int64{1}, []int64{9})[:1], true)
	checkPlacesOk(t, []impl.Place{placeOf([]int64{1, 2, 3, 4}[:3]...)}, true)
	checkPlacesOk(t, placesOf([]int64{1})[:0], false)
}

func TestOneWrongPlaceAmongSeveral(t *testing.T) {
	wrong := []impl.Place{placeOf(), placeOf(8), placeOf(-1), placeOf(1, 1), placeOf(0, 8), placeOf(0, 1, 2, 3), placeOf(3, 2, 3)}
	for regions := 1; regions <= howManyRegions; regions++ {
		for at := range regions {
			for _, w := range wrong {
				places := severalPlaces(regions, 7)
				checkPlacesOk(t, places, true)
				places[at] = w
				checkPlacesOk(t, places, false)
				for region := range int64(regions) {
					checkPlaced(t, places, region, -1, nil)
				}
				checkRemap(t, places, slices.Repeat([]bool{true}, 8), nil, nil)
			}
		}
	}
}

func TestSpreadByHand(t *testing.T) {
	checkSpread(t, 1, 1, placesOf([]int64{0}))
	checkSpread(t, 3, 1, placesOf([]int64{0}, []int64{0}, []int64{0}))
	checkSpread(t, 3, 2, placesOf([]int64{0, 1}, []int64{1, 0}, []int64{0, 1}))
	checkSpread(t, 4, 3, placesOf([]int64{0, 1, 2}, []int64{1, 2, 0}, []int64{2, 0, 1}, []int64{0, 1, 2}))
	checkSpread(t, 2, 4, placesOf([]int64{0, 1, 2}, []int64{1, 2, 3}))
	checkSpread(t, 5, 5, placesOf([]int64{0, 1, 2}, []int64{1, 2, 3}, []int64{2, 3, 4}, []int64{3, 4, 0}, []int64{4, 0, 1}))
	checkSpread(t, 6, 7, placesOf([]int64{0, 1, 2}, []int64{1, 2, 3}, []int64{2, 3, 4}, []int64{3, 4, 5}, []int64{4, 5, 6}, []int64{5, 6, 0}))
	checkSpread(t, 6, 8, placesOf([]int64{0, 1, 2}, []int64{1, 2, 3}, []int64{2, 3, 4}, []int64{3, 4, 5}, []int64{4, 5, 6}, []int64{5, 6, 7}))
}

func TestSpreadOfEachNumber(t *testing.T) {
	numbers := []int64{math.MinInt64, -1 << 32, -8, -1, 0, 1, 2, 3, 4, 5, 6, 7, 8, 9, 10, 1 << 32, 1<<32 + 1, math.MaxInt64}
	for _, regions := range numbers {
		for _, machines := range numbers {
			var want []impl.Place
			if regions >= 1 && regions <= 6 && machines >= 1 && machines <= 8 {
				want = make([]impl.Place, regions)
				for r := range want {
					for m := int64(r); len(want[r].Machines) < 3 && len(want[r].Machines) < int(machines); m++ {
						want[r].Machines = append(want[r].Machines, m%machines)
					}
				}
				checkPlacesOk(t, want, true)
			}
			checkSpread(t, regions, machines, want)
		}
	}
}

func TestPrimaryAndBackupsByHand(t *testing.T) {
	places := placesOf([]int64{3, 1, 7}, []int64{5}, []int64{0, 6})
	checkPlaced(t, places, 0, 3, []int64{1, 7})
	checkPlaced(t, places, 1, 5, nil)
	checkPlaced(t, places, 2, 0, []int64{6})
	for _, region := range []int64{math.MinInt64, -1 << 32, -1, 3, 4, 5, 6, 1 << 32, math.MaxInt64} {
		checkPlaced(t, places, region, -1, nil)
	}
	checkPlaced(t, nil, 0, -1, nil)
	checkPlaced(t, placesOf(nil), 0, -1, nil)
	checkPlaced(t, placesOf([]int64{1, 2, 3, 4}), 0, -1, nil)
	six := severalPlaces(6, 3)
	checkPlaced(t, six, 5, six[5].Machines[0], six[5].Machines[1:])
	checkPlaced(t, six, 6, -1, nil)
	checkPlaced(t, append(six, placeOf(1)), 0, -1, nil)
}

func TestPrimaryAndBackupsOfEveryPlace(t *testing.T) {
	for _, p := range everyPlace() {
		places := placesOf([]int64{6, 7}, p.Machines, []int64{1})
		checkPlaced(t, places, 1, p.Machines[0], p.Machines[1:])
	}
}

func TestRemapByHand(t *testing.T) {
	yes, no := true, false
	all := slices.Repeat([]bool{yes}, 8)
	places := placesOf([]int64{3, 1, 2}, []int64{5}, []int64{0, 6})
	checkRemap(t, places, all, placesOf([]int64{3, 1, 2}, []int64{5, 0, 1}, []int64{0, 6, 1}), nil)
	checkRemap(t, places, all[:4], placesOf([]int64{3, 1, 2}, []int64{5}, []int64{0, 1, 2}), []int64{1})
	checkRemap(t, places, []bool{no, yes, yes, no, yes, yes, yes}, placesOf([]int64{1, 2, 4}, []int64{5, 1, 2}, []int64{6, 1, 2}), nil)
	checkRemap(t, places, []bool{no, no, yes, no, no, no, yes, no}, placesOf([]int64{2, 6}, []int64{5}, []int64{6, 2}), []int64{1})
	checkRemap(t, places, []bool{no, no, no, no, no, no, no, yes}, places, []int64{0, 1, 2})
	checkRemap(t, places, []bool{yes}, placesOf([]int64{3, 1, 2}, []int64{5}, []int64{0}), []int64{0, 1})
	checkRemap(t, places, nil, places, []int64{0, 1, 2})
	checkRemap(t, places, []bool{}, places, []int64{0, 1, 2})
	checkRemap(t, placesOf([]int64{7}), all, placesOf([]int64{7, 0, 1}), nil)
	checkRemap(t, placesOf([]int64{7}), all[:7], placesOf([]int64{7}), []int64{0})
}

func TestRemapOfWrongInputs(t *testing.T) {
	all := slices.Repeat([]bool{true}, 20)
	good := severalPlaces(3, 2)
	checkRemap(t, good, all[:8], good, nil)
	for length := 9; length <= 20; length++ {
		checkRemap(t, good, all[:length], nil, nil)
		checkRemap(t, good, make([]bool, length), nil, nil)
	}
	checkRemap(t, nil, all[:8], nil, nil)
	checkRemap(t, []impl.Place{}, nil, nil, nil)
	checkRemap(t, placesOf(nil), all[:8], nil, nil)
	checkRemap(t, placesOf([]int64{8}), all[:8], nil, nil)
	checkRemap(t, placesOf([]int64{-1}), all[:8], nil, nil)
	checkRemap(t, placesOf([]int64{3, 3}), all[:8], nil, nil)
	checkRemap(t, placesOf([]int64{0, 1, 2, 3}), all[:8], nil, nil)
	checkRemap(t, slices.Repeat([]impl.Place{placeOf(1)}, 7), all[:8], nil, nil)
}

func TestRemapOfEveryPlace(t *testing.T) {
	lives := everyAlive()
	for _, p := range everyPlace() {
		for _, alive := range lives {
			want, lost := plainRemap([]impl.Place{p}, alive)
			checkRemap(t, []impl.Place{p}, alive, want, lost)
		}
	}
}

func TestRemapOfSeveralRegions(t *testing.T) {
	lives := everyAlive()
	for regions := 1; regions <= howManyRegions; regions++ {
		for seed := range 60 {
			places := severalPlaces(regions, seed)
			for _, alive := range lives {
				want, lost := plainRemap(places, alive)
				checkRemap(t, places, alive, want, lost)
			}
		}
	}
}

func livingMachines(machines []int64, alive []bool) []int64 {
	var found []int64
	for _, m := range machines {
		if m < int64(len(alive)) && alive[m] {
			found = append(found, m)
		}
	}
	return found
}

// checkPromise5 asks for the promise itself, whatever the order of what was put behind.
func checkPromise5(t *testing.T, before, after impl.Place, alive []bool, lost bool) {
	t.Helper()
	kept := livingMachines(before.Machines, alive)
	if lost != (len(kept) == 0) {
		t.Fatalf("%v with %v: lost %v", before, alive, lost)
	}
	if lost {
		if !slices.Equal(before.Machines, after.Machines) {
			t.Fatalf("%v with %v: lost, but %v now", before, alive, after)
		}
		return
	}
	all := livingMachines([]int64{0, 1, 2, 3, 4, 5, 6, 7}, alive)
	if len(after.Machines) != min(len(all), 3) || !slices.Equal(after.Machines[:len(kept)], kept) {
		t.Fatalf("%v with %v: %v now", before, alive, after)
	}
	if len(livingMachines(after.Machines, alive)) != len(after.Machines) || !slices.IsSorted(after.Machines[len(kept):]) {
		t.Fatalf("%v with %v: %v now", before, alive, after)
	}
}

func TestPromise5(t *testing.T) {
	for machines := int64(1); machines <= 8; machines++ {
		for regions := int64(1); regions <= 6; regions++ {
			for _, alive := range everyAlive() {
				places, _ := impl.Spread(regions, machines)
				after, lost := impl.Remap(places, alive)
				checkPlacesOk(t, after, true)
				if len(after) != len(places) || !slices.IsSorted(lost) {
					t.Fatalf("Remap(%v, %v) = %v, %v", places, alive, after, lost)
				}
				for r := range places {
					checkPromise5(t, places[r], after[r], alive, slices.Contains(lost, int64(r)))
				}
				again, _ := impl.Remap(after, alive)
				if !samePlaces(again, after) {
					t.Fatalf("Remap(%v, %v) = %v: nothing is new", after, alive, again)
				}
			}
		}
	}
}

// guardedPlaces is as guarded, and looks into the machines of each Place and the room behind them, too.
func guardedPlaces(places []impl.Place) ([]impl.Place, func() bool) {
	var stays []func() bool
	room := make([]impl.Place, len(places)+2)
	for i := range room {
		machines := []int64{77, 78}
		if i < len(places) {
			machines = places[i].Machines
		}
		list, stay := guarded(machines, 79)
		room[i], stays = placeOf(list...), append(stays, stay)
	}
	before := placesOf()
	for _, p := range room {
		before = append(before, placeOf(slices.Clone(p.Machines)...))
	}
	return room[:len(places)], func() bool {
		for _, stay := range stays {
			if !stay() {
				return false
			}
		}
		return samePlaces(room, before)
	}
}

func overwriteNumbers(list []int64) {
	list = list[:cap(list)]
	for i := range list {
		list[i] = -99
	}
}

// checkPlacesApart spoils one list of an answer after the other and looks whether any other changes.
func checkPlacesApart(t *testing.T, places []impl.Place, others ...[]int64) {
	t.Helper()
	lists := slices.Clone(others)
	for _, p := range places {
		lists = append(lists, p.Machines)
	}
	for i, list := range lists {
		var before [][]int64
		for _, other := range lists {
			before = append(before, slices.Clone(other))
		}
		overwriteNumbers(list)
		for k, other := range lists {
			if k != i && !slices.Equal(other, before[k]) {
				t.Errorf("list %d and list %d of one answer share memory", i, k)
			}
		}
	}
	places = places[:cap(places)]
	for i := range places {
		places[i] = placeOf(-98)
	}
}

func TestPlacesStayAndShareNothing(t *testing.T) {
	wrong := [][]impl.Place{nil, placesOf(nil), placesOf([]int64{8, 1}), placesOf([]int64{1, 1}, []int64{2}), severalPlaces(7, 3)}
	starts := append(wrong, placesOf([]int64{4}), placesOf([]int64{0, 1}, []int64{0, 1}))
	for seed := range 20 {
		starts = append(starts, severalPlaces(1+seed%6, seed))
	}
	for _, start := range starts {
		for _, lived := range [][]bool{nil, {true}, {true, false, true}, {false, false, false, true, true, true, true, true}, make([]bool, 8), make([]bool, 9)} {
			places, placesStay := guardedPlaces(start)
			alive, aliveStay := guarded(lived, true)
			impl.PlacesOk(places)
			impl.Primary(places, 0)
			first, last := impl.Backups(places, 0), impl.Backups(places, int64(len(places)-1))
			again := impl.Backups(places, 0)
			after, lost := impl.Remap(places, alive)
			checkPlacesApart(t, after, lost, first, last, again)
			if !placesStay() || !aliveStay() {
				t.Errorf("an argument is changed by a call, or by a change of its answer: %v, %v", places, alive)
			}
		}
	}
}

func TestSpreadSharesNothing(t *testing.T) {
	for regions := int64(1); regions <= 6; regions++ {
		for machines := int64(1); machines <= 8; machines++ {
			first, _ := impl.Spread(regions, machines)
			want := placesOf()
			for _, p := range first {
				want = append(want, placeOf(slices.Clone(p.Machines)...))
			}
			second, _ := impl.Spread(regions, machines)
			checkPlacesApart(t, first)
			if !samePlaces(second, want) {
				t.Errorf("Spread(%d, %d) = %v behind a change of the one before", regions, machines, second)
			}
		}
	}
}
