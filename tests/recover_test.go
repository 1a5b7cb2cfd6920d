package tests

import (
	"fmt"
	"math"
	"slices"
	"testing"

	"loop.example/g00153/impl"
)

// What follows says the chapter once more: first what becomes of each transaction, and then, machine by machine, what that leaves there.

func plainKill(c impl.Cluster, machine int64) (impl.Cluster, bool) {
	if !plainClusterOk(c) {
		return impl.Cluster{}, false
	}
	after, killed := deepCluster(c), false
	for m := range after.Machines {
		if one := &after.Machines[m]; int64(m) == machine && one.Alive {
			one.Alive, one.Copies, one.Log = false, nil, nil
			killed = true
		}
	}
	return after, killed
}

// plainFate is the Phase a transaction comes to, 0 where it stays as it is.
func plainFate(c impl.Cluster, tx impl.Tx) int64 {
	if !plainStricken(c, tx.Id) {
		return 0
	}
	var votes []int64
	for _, region := range plainWants(tx) {
		votes = append(votes, plainVote(c, tx.Id, region))
	}
	if tx.Phase != phRun && tx.Phase != phUnlock && plainDecide(votes) {
		return phCommitted
	}
	return phAborted
}

// plainLeft is what all the fates leave of a region on a living machine of its Place.
func plainLeft(m impl.Machine, region int64, txs []impl.Tx, fates []int64) impl.Machine {
	cells, _ := plainCopied(m, region)
	for i, tx := range txs {
		sets := plainSetsOf(tx, region)
		if fates[i] == 0 || len(sets) == 0 {
			continue
		}
		if _, locked := plainLogged(m, tx.Id, region, rcLock); fates[i] == phCommitted {
			cells, _ = plainInstall(cells, sets)
		} else if locked {
			cells = plainUnlock(cells, sets)
		}
		gone := func(r impl.Record) bool { return r.Tx == tx.Id && r.Region == region }
		m.Log = slices.DeleteFunc(slices.Clone(m.Log), gone)
	}
	m, _ = plainReplace(m, region, cells)
	return m
}

func plainAlive(c impl.Cluster) []bool {
	var alive []bool
	for _, m := range c.Machines {
		alive = append(alive, m.Alive)
	}
	return alive
}

func plainRecover(c impl.Cluster) impl.Cluster {
	if !plainClusterOk(c) || c.Config == lastId {
		return impl.Cluster{}
	}
	after, fates := deepCluster(c), make([]int64, len(c.Txs))
	places, lost := plainRemap(c.Places, plainAlive(c))
	if len(lost) > 0 {
		after.Lost = true
		return after
	}
	for i, tx := range c.Txs {
		if fates[i] = plainFate(c, tx); fates[i] != 0 {
			after.Txs[i].Phase, after.Txs[i].Done = fates[i], 0
		}
	}
	for region, p := range c.Places {
		for _, m := range p.Machines {
			if c.Machines[m].Alive {
				after.Machines[m] = plainLeft(after.Machines[m], int64(region), c.Txs, fates)
			}
		}
		cells, _ := plainCopied(after.Machines[places[region].Machines[0]], int64(region))
		for _, m := range places[region].Machines {
			if !slices.Contains(p.Machines, m) {
				after.Machines[m], _ = plainReplace(after.Machines[m], int64(region), cells)
			}
		}
	}
	after.Config, after.Places = c.Config+1, places
	return deepCluster(after)
}

func plainSettled(c impl.Cluster) bool {
	settled := plainClusterOk(c) && !c.Lost
	for _, m := range c.Machines {
		settled = settled && len(m.Log) == 0
	}
	for region, p := range c.Places {
		// Unlike cells are told by unlike texts.
		texts := map[string]bool{}
		for _, m := range p.Machines {
			if !settled || !c.Machines[m].Alive {
				return false
			}
			cells, _ := plainCopied(c.Machines[m], int64(region))
			texts[fmt.Sprint(cells)] = true
			settled = !slices.ContainsFunc(cells, func(one impl.Cell) bool { return one.Head%2 == 1 })
		}
		settled = settled && len(texts) == 1
	}
	return settled
}

func checkKill(t *testing.T, c impl.Cluster, machine int64, want impl.Cluster, wantOk bool) impl.Cluster {
	t.Helper()
	got, ok := impl.Kill(c, machine)
	if ok != wantOk || !sameCluster(got, want) {
		t.Errorf("Kill of %d in %+v\n= %+v, %v\nwant %+v, %v", machine, c, got, ok, want, wantOk)
	}
	return got
}

func checkRecover(t *testing.T, c impl.Cluster, want impl.Cluster) impl.Cluster {
	t.Helper()
	got := impl.Recover(c)
	if !sameCluster(got, want) {
		t.Errorf("Recover of %+v\n= %+v\nwant %+v", c, got, want)
	}
	return got
}

func checkSettled(t *testing.T, c impl.Cluster, want bool) {
	t.Helper()
	if got := impl.Settled(c); got != want || plainSettled(c) != want {
		t.Errorf("Settled of %+v\n= %v, want %v", c, got, want)
	}
}

// kill is for machines that live.
func kill(t *testing.T, c impl.Cluster, machines ...int64) impl.Cluster {
	t.Helper()
	for _, m := range machines {
		after, ok := impl.Kill(c, m)
		if !ok {
			t.Fatalf("Kill of %d in %+v says false", m, c)
		}
		c = after
	}
	return c
}

var noMachines = []int64{math.MinInt64, -1 << 32, -8, -1, 8, 9, 1 << 32, math.MaxInt64}

// Each machine of a cluster with Places of several sizes, Logs and Cleared: it has its Cleared alone then, and all others are as they were.
func TestKillByHand(t *testing.T) {
	whole := commitCluster(wideTx(phPrimary), impl.Tx{Id: 30, Home: 4, Phase: phRun})
	for m := range whole.Machines {
		want := deepCluster(whole)
		want.Machines[m] = impl.Machine{Cleared: whole.Machines[m].Cleared}
		c := checkKill(t, whole, int64(m), want, true)
		checkClusterOk(t, c, true)
		// It is dead now.
		checkKill(t, c, int64(m), c, false)
		for other := range whole.Machines {
			if other == m {
				continue
			}
			both := deepCluster(c)
			both.Machines[other] = impl.Machine{Cleared: whole.Machines[other].Cleared}
			checkClusterOk(t, checkKill(t, c, int64(other), both, true), true)
		}
	}
	for _, m := range append(slices.Clone(noMachines), 5, 6, 7) {
		checkKill(t, whole, m, whole, false)
	}
}

// One that does not live may have something left, which stays with it.
func TestKillOfTheDead(t *testing.T) {
	c := commitCluster(wideTx(phLock))
	c.Lost = true
	for m := range c.Machines {
		c.Machines[m].Alive = m%2 == 0
	}
	checkKill(t, c, 1, c, false)
	checkKill(t, c, 3, c, false)
	want := deepCluster(c)
	want.Machines[2] = impl.Machine{Cleared: c.Machines[2].Cleared}
	checkKill(t, c, 2, want, true)
	for m := range c.Machines {
		c.Machines[m].Alive = false
	}
	for m := range c.Machines {
		checkKill(t, c, int64(m), c, false)
	}
}

func TestKillAgainstThePlainAnswers(t *testing.T) {
	killed := map[bool]int{}
	for _, c := range append(goodClusters(), runningCluster(), ordinaryCluster()) {
		for _, m := range append(slices.Clone(noMachines), 0, 1, 2, 3, 4, 5, 6, 7) {
			want, ok := plainKill(c, m)
			checkClusterOk(t, checkKill(t, c, m, want, ok), true)
			killed[ok]++
		}
	}
	if killed[true] < 500 || killed[false] < 500 {
		t.Errorf("killed: %v", killed)
	}
	for _, c := range wrongClusters() {
		for _, m := range []int64{-1, 0, 1, 3, 4, 7, 8} {
			checkKill(t, c, m, impl.Cluster{}, false)
		}
	}
}

// handCluster: region 0 is on the machines 0, 1, 2, region 1 on 1, 2, 3; the transaction 20 writes a cell of each and reads one of region 1. Its Home is machine 4.
// Its steps: 1 and 2 are its locks, 3 its check, 4 to 7 tell the backups 1, 2 and 2, 3, 8 and 9 the primaries, 10 to 15 clear.
func handCluster(t *testing.T, steps int) impl.Cluster {
	t.Helper()
	c := filled(2, 5)
	c, _ = impl.Begin(c, 20, 4)
	c, _ = impl.Write(c, 20, 0, 1, 77)
	c, _, _ = impl.Read(c, 20, 1, 2)
	c, _ = impl.Write(c, 20, 1, 0, 78)
	c, _ = impl.Commit(c, 20)
	for range steps {
		after, code := impl.Step(c, 20)
		if code != 0 {
			t.Fatalf("Step: %d", code)
		}
		c = after
	}
	return c
}

const handSteps = 15

// handCells are those of handCluster's regions, all done or nothing.
func handCells(region int64, done bool) []impl.Cell {
	cells := make([]impl.Cell, howManySlots)
	for slot := range 3 {
		cells[slot] = cellOf(1, true, false, 0)
	}
	if done && region == 0 {
		cells[1] = cellOf(2, true, false, 77)
	} else if done {
		cells[0] = cellOf(2, true, false, 78)
	}
	return cells
}

// Which machines are killed, the step from which on it is committed then, and the new Places.
var handDeaths = []struct {
	dead   []int64
	from   int
	places []impl.Place
}{
	{[]int64{0}, 4, placesOf([]int64{1, 2, 3}, []int64{1, 2, 3})},
	{[]int64{1}, 6, placesOf([]int64{0, 2, 3}, []int64{2, 3, 0})},
	{[]int64{2}, 4, placesOf([]int64{0, 1, 3}, []int64{1, 3, 0})},
	{[]int64{3}, 4, placesOf([]int64{0, 1, 2}, []int64{1, 2, 0})},
	{[]int64{4}, 4, placesOf([]int64{0, 1, 2}, []int64{1, 2, 3})},
	{[]int64{0, 1}, 6, placesOf([]int64{2, 3, 4}, []int64{2, 3, 4})},
	{[]int64{0, 2}, 4, placesOf([]int64{1, 3, 4}, []int64{1, 3, 4})},
	{[]int64{0, 3}, 4, placesOf([]int64{1, 2, 4}, []int64{1, 2, 4})},
	{[]int64{0, 4}, 4, placesOf([]int64{1, 2, 3}, []int64{1, 2, 3})},
	{[]int64{1, 2}, 7, placesOf([]int64{0, 3, 4}, []int64{3, 0, 4})},
	{[]int64{1, 3}, 6, placesOf([]int64{0, 2, 4}, []int64{2, 0, 4})},
	{[]int64{1, 4}, 6, placesOf([]int64{0, 2, 3}, []int64{2, 3, 0})},
	{[]int64{2, 3}, 4, placesOf([]int64{0, 1, 4}, []int64{1, 0, 4})},
	{[]int64{2, 4}, 4, placesOf([]int64{0, 1, 3}, []int64{1, 3, 0})},
	{[]int64{3, 4}, 4, placesOf([]int64{0, 1, 2}, []int64{1, 2, 0})},
	{[]int64{1, 2, 4}, 7, placesOf([]int64{0, 3}, []int64{3, 0})},
	{[]int64{0, 2, 3}, 4, placesOf([]int64{1, 4}, []int64{1, 4})},
	{[]int64{0, 2, 3, 4}, 4, placesOf([]int64{1}, []int64{1})},
}

// All of the cluster behind Recover, told by hand, with these machines dead behind each step.
func TestRecoverByHand(t *testing.T) {
	for _, one := range handDeaths {
		for steps := 0; steps <= handSteps; steps++ {
			c := kill(t, handCluster(t, steps), one.dead...)
			done := steps >= one.from
			want := impl.Cluster{Config: 2, Clock: c.Clock, Places: one.places, Txs: []impl.Tx{c.Txs[0], deepTx(c.Txs[1])}}
			want.Txs[1].Phase, want.Txs[1].Done = phAborted, 0
			if done {
				want.Txs[1].Phase = phCommitted
			}
			for m := range int64(5) {
				own := impl.Machine{Alive: c.Machines[m].Alive, Cleared: c.Machines[m].Cleared}
				for region, p := range one.places {
					// Whoever lives and had a copy keeps its Place, so that nobody has another one.
					if slices.Contains(p.Machines, m) {
						own.Copies = append(own.Copies, copyOf(int64(region), handCells(int64(region), done)))
					}
				}
				want.Machines = append(want.Machines, own)
			}
			got := checkRecover(t, c, want)
			checkSettled(t, got, true)
			if t.Failed() {
				t.Fatalf("dead are %v, behind step %d", one.dead, steps)
			}
		}
	}
}

// A region without a living machine: Lost, and all else as it is, though the other region could go on and transactions are stricken.
func TestRecoverOfALostRegion(t *testing.T) {
	for _, dead := range [][]int64{{0, 1, 2}, {1, 2, 3}, {1, 2, 0, 3}, {1, 2, 3, 4}, {0, 1, 2, 3, 4}} {
		for steps := 0; steps <= handSteps; steps++ {
			c := kill(t, handCluster(t, steps), dead...)
			want := deepCluster(c)
			want.Lost = true
			lost := checkRecover(t, c, want)
			checkClusterOk(t, lost, true)
			checkSettled(t, lost, false)
			checkRecover(t, lost, want)
		}
	}
}

// What Lost says of a cluster that has lost nothing stays.
func TestRecoverOfOneThatIsCalledLost(t *testing.T) {
	c := kill(t, handCluster(t, 5), 0)
	want := impl.Recover(c)
	c.Lost, want.Lost = true, true
	checkSettled(t, checkRecover(t, c, want), false)
}

// None is dead: the Places have all the machines they can have already, so Config alone is another.
func TestRecoverWithNoneDead(t *testing.T) {
	for regions := int64(1); regions <= howManyRegions; regions++ {
		for machines := int64(1); machines <= howManyMachines; machines++ {
			c, _ := impl.NewCluster(regions, machines)
			want := deepCluster(c)
			want.Config = 2
			checkSettled(t, checkRecover(t, c, want), true)
		}
	}
	for steps := 0; steps <= handSteps; steps++ {
		c := handCluster(t, steps)
		want := deepCluster(c)
		want.Config = 2
		got := checkRecover(t, c, want)
		checkSettled(t, got, steps == 0 || steps == handSteps)
		got, code := impl.Finish(got, 20)
		if code != 0 || got.Txs[1].Phase != phCommitted {
			t.Errorf("Finish behind %d steps and Recover: %d, %+v", steps, code, got.Txs[1])
		}
		checkSettled(t, got, true)
	}
}

// A Place that has room is filled though none is dead: with the primary's cells as they are, also locked ones, for what is under way is not stricken.
func TestRecoverFillsPlacesThatHaveRoom(t *testing.T) {
	c := commitCluster(wideTx(phBackup))
	setCells(&c, 1, 3, wideLocked[1])
	c.Machines[3].Log = []impl.Record{{Kind: rcLock, Tx: 20, Region: 1, Sets: wideSets[1]}}
	want := deepCluster(c)
	want.Config, want.Places = 6, placesOf([]int64{1, 0, 2}, []int64{3, 0, 1}, []int64{2, 4, 0})
	want.Machines[0].Copies = append(want.Machines[0].Copies, copyOf(1, wideLocked[1]), copyOf(2, openCells()))
	want.Machines[1].Copies = append(want.Machines[1].Copies, copyOf(1, wideLocked[1]))
	checkClusterOk(t, checkRecover(t, c, want), true)
}

// A machine that is new in a Place may have an old copy: it is the new primary's now. Copies that no Place gives stay.
func TestRecoverOverwritesOldCopies(t *testing.T) {
	c := withAllCopies(clusterOn(placesOf([]int64{4, 2, 1}, []int64{0, 1, 2}, []int64{3}), aliveAs(5, 0xff)))
	c = kill(t, c, 4, 0)
	want := deepCluster(c)
	want.Config, want.Places = 6, placesOf([]int64{2, 1, 3}, []int64{1, 2, 3}, []int64{3, 1, 2})
	setCells(&want, 0, 3, cellsOn(0, 2))
	setCells(&want, 1, 3, cellsOn(1, 1))
	setCells(&want, 2, 1, cellsOn(2, 3))
	setCells(&want, 2, 2, cellsOn(2, 3))
	checkRecover(t, c, want)
}

// In each region that changed, and only there, the new ones have what the new primary has; each region has cells of its own.
func TestRecoverCopiesTheNewPrimary(t *testing.T) {
	for _, dead := range [][]int64{{0}, {1}, {2}, {3}, {0, 1}, {2, 4}, {1, 5}, {6}, {0, 7}} {
		c, _ := impl.NewCluster(6, 8)
		for region, p := range c.Places {
			for _, m := range p.Machines {
				setCells(&c, int64(region), m, cellsOn(int64(region), m))
			}
		}
		c = kill(t, c, dead...)
		got := impl.Recover(c)
		for region, p := range got.Places {
			before := c.Places[region].Machines
			for _, m := range p.Machines {
				from := p.Machines[0]
				if slices.Contains(before, m) {
					from = m
				}
				if cells, _ := plainCopied(got.Machines[m], int64(region)); !slices.Equal(cells, cellsOn(int64(region), from)) {
					t.Errorf("%v are dead: region %d on machine %d is %v", dead, region, m, cells)
				}
			}
		}
		checkRecover(t, c, plainRecover(c))
	}
}

func TestRecoverCountsTheConfig(t *testing.T) {
	for _, config := range []int64{1, 2, 77, lastId - 2, lastId - 1} {
		c := kill(t, handCluster(t, 6), 0)
		c.Config = config
		want := plainRecover(c)
		want.Config = config + 1
		checkRecover(t, c, want)
	}
	for _, dead := range [][]int64{nil, {0}, {0, 1, 2}} {
		c := kill(t, handCluster(t, 6), dead...)
		c.Config = lastId
		checkClusterOk(t, c, true)
		checkRecover(t, c, impl.Cluster{})
	}
}

func TestRecoverOfWrongClusters(t *testing.T) {
	for _, c := range wrongClusters() {
		checkRecover(t, c, impl.Cluster{})
		checkSettled(t, c, false)
	}
}

// A second one behind the first has nothing to do.
func TestRecoverTwice(t *testing.T) {
	for _, one := range handDeaths {
		for steps := 0; steps <= handSteps; steps++ {
			first := impl.Recover(kill(t, handCluster(t, steps), one.dead...))
			want := deepCluster(first)
			want.Config = 3
			checkRecover(t, first, want)
		}
	}
}

// One machine after the other dies, with a new configuration behind each, down to the last.
func TestRecoverAgainAndAgain(t *testing.T) {
	for steps := 0; steps <= handSteps; steps++ {
		for start := range int64(5) {
			c := handCluster(t, steps)
			for i := range int64(4) {
				c = impl.Recover(kill(t, c, (start+3*i)%5))
				if c.Config != i+2 || c.Lost {
					t.Fatalf("behind %d deaths: %+v", i+1, c)
				}
				checkClusterOk(t, c, true)
			}
			checkSettled(t, c, true)
			last := (start + 2) % 5
			if want := placesOf([]int64{last}, []int64{last}); !samePlaces(c.Places, want) || !ends(c.Txs[1].Phase) {
				t.Errorf("in the end: %v, %+v", c.Places, c.Txs[1])
			}
			for region := range int64(2) {
				checkCells(t, c, region, handCells(region, c.Txs[1].Phase == phCommitted), true)
			}
			c = kill(t, c, last)
			want := deepCluster(c)
			want.Lost = true
			checkRecover(t, c, want)
		}
	}
}

// What the machines of a stricken transaction may have of it: records of each Kind, or its Id among Cleared.
var handKnowings = []struct {
	name    string
	commits bool
	given   func(c *impl.Cluster)
}{
	{"nothing", false, func(c *impl.Cluster) {}},
	{"locks", false, func(c *impl.Cluster) {
		at(1, logs(rcLock, 0))(c)
		at(3, logs(rcLock, 1))(c)
		at(2, logs(rcLock, 2))(c)
	}},
	{"a lock", false, at(1, logs(rcLock, 0))},
	{"locks and a backup", true, func(c *impl.Cluster) {
		at(1, logs(rcLock, 0))(c)
		at(3, logs(rcLock, 1))(c)
		at(2, logs(rcLock, 2), logs(rcBackup, 0))(c)
	}},
	{"a backup", false, at(2, logs(rcBackup, 0))},
	{"one that is done", true, at(3, logs(rcDone, 1))},
	{"one that is cleared", true, at(2, clearsAt)},
	{"a dead one that is done", false, at(4, logs(rcDone, 2))},
	{"a dead one that is cleared", false, at(4, clearsAt)},
}

// In each phase, with Decide true and false: what was to be aborted, or ran still, is aborted even where Decide would say true.
func TestRecoverInEachPhase(t *testing.T) {
	for phase := int64(phRun); phase <= phAborted; phase++ {
		for _, one := range handKnowings {
			for _, locked := range []bool{false, true} {
				for _, home := range []int64{0, 4} {
					c := commitCluster(wideTx(phase))
					c.Txs[0].Home, c.Txs[0].Done = home, 7
					for region := range int64(3) {
						if locked {
							setCells(&c, region, c.Places[region].Machines[0], wideLocked[region])
						}
					}
					one.given(&c)
					c = kill(t, c, 4)
					got := checkRecover(t, c, plainRecover(c))
					want := wideTx(phase)
					want.Home, want.Done = home, 7
					switch {
					case phase == phRun && home == 4, phase == phUnlock, underWay(phase) && !one.commits:
						want.Phase, want.Done = phAborted, 0
					case underWay(phase):
						want.Phase, want.Done = phCommitted, 0
					}
					if !sameTx(got.Txs[0], want) {
						t.Errorf("phase %d, Home %d, the machines know of %s: %+v, want %+v", phase, home, one.name, got.Txs[0], want)
					}
					checkFate(t, c, got)
				}
			}
		}
	}
}

// checkFate: of a stricken transaction of commitCluster nothing is logged any more, and it is done at all living machines, or nothing is done, and it has locked nothing.
func checkFate(t *testing.T, before, after impl.Cluster) {
	t.Helper()
	tx := after.Txs[0]
	if sameTx(tx, before.Txs[0]) {
		return
	}
	for region, p := range before.Places {
		for _, m := range p.Machines {
			if !before.Machines[m].Alive {
				continue
			}
			was, _ := plainCopied(before.Machines[m], int64(region))
			is, _ := plainCopied(after.Machines[m], int64(region))
			want := was
			if _, locked := plainLogged(before.Machines[m], 20, int64(region), rcLock); tx.Phase == phCommitted {
				want = wideInstalled[int64(region)]
			} else if locked {
				want = openCells()
			}
			if !slices.Equal(is, want) {
				t.Errorf("region %d on machine %d is %v, want %v: %+v", region, m, is, want, tx)
			}
			mine := func(r impl.Record) bool { return r.Tx == 20 && r.Region == int64(region) }
			if slices.ContainsFunc(after.Machines[m].Log, mine) {
				t.Errorf("machine %d has the Log %+v", m, after.Machines[m].Log)
			}
			if !slices.Equal(after.Machines[m].Cleared, before.Machines[m].Cleared) {
				t.Errorf("machine %d has cleared %v, and had %v", m, after.Machines[m].Cleared, before.Machines[m].Cleared)
			}
		}
	}
}

// A running one whose Home is dead is aborted; one whose Home lives runs on, even if all its regions lost a machine.
func TestRecoverOfRunning(t *testing.T) {
	c := filled(2, 5)
	for _, id := range []int64{20, 21, 22} {
		c, _ = impl.Begin(c, id, id-20)
		c, _ = impl.Write(c, id, 0, 1, id)
		c, _ = impl.Write(c, id, 1, id-20, id)
	}
	c = kill(t, c, 1)
	want := impl.Recover(c)
	for i, phase := range []int64{phCommitted, phRun, phAborted, phRun} {
		same := deepTx(c.Txs[i])
		same.Phase = phase
		if !sameTx(want.Txs[i], same) {
			t.Errorf("number %d is %+v, want %+v", i, want.Txs[i], same)
		}
	}
	checkRecover(t, c, plainRecover(c))
	checkSettled(t, want, true)
	// They can be committed in the new configuration: the first of them, and then no other.
	for _, id := range []int64{20, 22} {
		after, code := impl.Commit(want, id)
		after, other := impl.Finish(after, id)
		if code != 0 || other != 0 {
			t.Fatalf("Commit and Finish of %d: %d, %d", id, code, other)
		}
		want = after
	}
	if want.Txs[1].Phase != phCommitted || want.Txs[3].Phase != phAborted {
		t.Errorf("in the end: %+v", want.Txs)
	}
	checkSettled(t, want, true)
}

// A transaction of regions that lost no machine is not stricken: it stays as it is with its locks and records, and can be finished, whatever becomes of the others.
func TestRecoverLeavesTheOthers(t *testing.T) {
	for steps := 0; steps <= 8; steps++ {
		// Region 0 is on the machines 0, 1, 2, region 3 on 3, 4, 5.
		c := filled(4, 7)
		for _, id := range []int64{20, 21} {
			c, _ = impl.Begin(c, id, 5)
			c, _ = impl.Write(c, id, 3*(id-20), 0, id)
			c, _ = impl.Commit(c, id)
			for range steps {
				c, _ = impl.Step(c, id)
			}
		}
		at := len(c.Txs) - 1
		c = kill(t, c, 0)
		got := checkRecover(t, c, plainRecover(c))
		if !sameTx(got.Txs[at], c.Txs[at]) || !ends(got.Txs[at-1].Phase) {
			t.Errorf("behind %d steps: %+v", steps, got.Txs)
		}
		for _, m := range []int64{3, 4, 5} {
			if !slices.EqualFunc(got.Machines[m].Log, c.Machines[m].Log, sameRecord) {
				t.Errorf("behind %d steps machine %d has the Log %+v, and had %+v", steps, m, got.Machines[m].Log, c.Machines[m].Log)
			}
			was, _ := plainCopied(c.Machines[m], 3)
			if is, _ := plainCopied(got.Machines[m], 3); !slices.Equal(is, was) {
				t.Errorf("behind %d steps machine %d has for region 3 %v, and had %v", steps, m, is, was)
			}
		}
		checkSettled(t, got, steps == 0 || steps >= 7)
		got, code := impl.Finish(got, 21)
		if code != 0 || got.Txs[at].Phase != phCommitted {
			t.Errorf("Finish behind %d steps: %d, %+v", steps, code, got.Txs[at])
		}
		checkSettled(t, got, true)
	}
}

// Only what has its own record is unlocked: another's lock of the same cell stays, and that one can be finished.
func TestRecoverLeavesTheLocksOfOthers(t *testing.T) {
	for _, phase := range []int64{phRun, phLock, phCheck, phUnlock} {
		c := filled(1, 5)
		c.Txs = append(c.Txs,
			impl.Tx{Id: 20, Home: 3, Phase: phLock, Sets: []impl.Set{{Slot: 1, Value: 5, Used: true, Version: 1}}},
			impl.Tx{Id: 21, Home: 4, Phase: phase, Sets: []impl.Set{{Slot: 1, Value: 6, Used: true, Version: 1}}},
		)
		c, _ = impl.Step(c, 20)
		c = kill(t, c, 4)
		want := deepCluster(c)
		want.Config, want.Txs[2].Phase = 2, phAborted
		got := checkRecover(t, c, want)
		got, code := impl.Finish(got, 20)
		if cells, _ := impl.Cells(got, 0); code != 0 || cells[1] != cellOf(2, true, false, 5) {
			t.Errorf("phase %d: Finish of the other: %d, %v", phase, code, cells)
		}
		checkSettled(t, got, true)
	}
}

// A record of another region, of another Kind or at another machine unlocks nothing; at a backup it does.
func TestRecoverUnlocksByTheRecord(t *testing.T) {
	for _, one := range []struct {
		given    func(c *impl.Cluster)
		unlocked []int64
	}{
		{at(1, logs(rcLock, 0)), []int64{1}},
		{at(2, logs(rcLock, 0)), []int64{2}},
		{at(0, logs(rcLock, 0)), []int64{0}},
		{at(1, logs(rcLock, 1), logs(rcLock, 2)), nil},
		{at(1, logs(rcBackup, 0), logs(rcDone, 0)), nil},
		{at(1, notOf(19, rcLock), notOf(21, rcLock)), nil},
		{at(3, logs(rcLock, 0)), nil},
		{func(c *impl.Cluster) {
			at(0, logs(rcLock, 0))(c)
			at(1, logs(rcDone, 0), logs(rcLock, 0))(c)
			at(2, logs(rcBackup, 0), logs(rcLock, 0))(c)
		}, []int64{0, 1, 2}},
	} {
		c := commitCluster(wideTx(phUnlock))
		for _, m := range c.Places[0].Machines {
			setCells(&c, 0, m, wideLocked[0])
		}
		one.given(&c)
		c = kill(t, c, 4)
		got := checkRecover(t, c, plainRecover(c))
		for _, m := range c.Places[0].Machines {
			want := wideLocked[0]
			if slices.Contains(one.unlocked, m) {
				want = openCells()
			}
			if cells, _ := plainCopied(got.Machines[m], 0); !slices.Equal(cells, want) {
				t.Errorf("region 0 on machine %d is %v, want %v: %+v", m, cells, want, c.Machines)
			}
		}
	}
}

// Only the records of the transaction's regions at those regions' machines are struck.
func TestRecoverStrikesInItsPlaces(t *testing.T) {
	for _, phase := range []int64{phBackup, phUnlock} {
		c := commitCluster(wideTx(phase))
		c.Txs[0].Sets = c.Txs[0].Sets[:3] // of the regions 0 and 1
		for m := range c.Machines {
			c.Machines[m].Log = nil
			for region := range int64(3) {
				logs(rcBackup, region)(&c.Machines[m])
			}
			notOf(21, rcDone)(&c.Machines[m])
		}
		c = kill(t, c, 0)
		got := checkRecover(t, c, plainRecover(c))
		for m, want := range [][]int64{nil, {1, 2, 0}, {1, 2, 0}, {0, 2, 0}, {0, 1, 2, 0}} {
			var regions []int64
			for _, r := range got.Machines[m].Log {
				regions = append(regions, r.Region)
			}
			if !slices.Equal(regions, want) {
				t.Errorf("machine %d has records of %v, want %v", m, regions, want)
			}
		}
	}
}

// By rising Id: where two that are done set the same cell of the same version, the lesser's value stays.
func TestRecoverGoesByRisingIds(t *testing.T) {
	set := func(value int64) []impl.Set { return []impl.Set{openSet(0, 1, value, true)} }
	c := commitCluster(lockTx(20, nil, set(5)...), lockTx(21, nil, set(6)...), lockTx(25, nil, set(7)...))
	c.Machines[2].Cleared = []int64{20, 21, 25}
	c = kill(t, c, 1)
	got := checkRecover(t, c, plainRecover(c))
	checkCells(t, got, 0, withCell(openCells(), 1, cellOf(4, true, false, 5)), true)
	c.Machines[2].Cleared = []int64{21, 25}
	got = checkRecover(t, c, plainRecover(c))
	checkCells(t, got, 0, withCell(openCells(), 1, cellOf(4, true, false, 6)), true)
	for i, phase := range []int64{phAborted, phCommitted, phCommitted} {
		if got.Txs[i].Phase != phase {
			t.Errorf("number %d is %+v", i, got.Txs[i])
		}
	}
}

// Everything of the chapter, held against the plain answers over clusters of all kinds.
func TestRecoverAgainstThePlainAnswers(t *testing.T) {
	phases, lost, settled := map[int64]int{}, map[bool]int{}, map[bool]int{}
	for i, c := range append(goodClusters(), runningCluster(), ordinaryCluster(), commitCluster(wideTx(phLock))) {
		if i%2 == 0 {
			c = tempting(c)
		}
		for _, m := range []int64{-1, 0, 1, 2, 5} {
			killed, _ := impl.Kill(c, m)
			got := checkRecover(t, killed, plainRecover(killed))
			checkClusterOk(t, got, true)
			lost[got.Config == killed.Config]++
			for k := range got.Txs {
				if got.Txs[k].Phase != killed.Txs[k].Phase {
					phases[got.Txs[k].Phase]++
				}
			}
			for _, one := range []impl.Cluster{killed, got} {
				want := plainSettled(one)
				checkSettled(t, one, want)
				settled[want]++
			}
		}
	}
	if phases[phCommitted] < 100 || phases[phAborted] < 100 || lost[true] < 100 || lost[false] < 100 || settled[true] == 0 || settled[false] < 100 {
		t.Errorf("the phases are %v, lost: %v, settled: %v", phases, lost, settled)
	}
}

// settledCluster: region 0 is on the machines 1, 0, 2, region 1 on 3, 4; machine 5 is in no Place, and 6 neither and dead.
func settledCluster() impl.Cluster {
	c := clusterOn(placesOf([]int64{1, 0, 2}, []int64{3, 4}), aliveAs(7, 0x3f))
	openAll(&c)
	for m := range c.Machines {
		c.Machines[m].Log = nil
	}
	return c
}

// What says nothing against it: transactions under way, Cleared, and whatever those have that are in no Place.
func TestSettled(t *testing.T) {
	checkSettled(t, settledCluster(), true)
	for _, change := range []func(c *impl.Cluster){
		func(c *impl.Cluster) {
			c.Txs = []impl.Tx{wideTx(phRun)}
			c.Txs[0].Reads, c.Txs[0].Sets = nil, wideSets[1]
		},
		func(c *impl.Cluster) { c.Txs = []impl.Tx{{Id: 4, Home: 6, Phase: phBackup, Sets: wideSets[0]}} },
		func(c *impl.Cluster) { c.Machines[0].Cleared = idsFrom(1, 1, mostCleared) },
		func(c *impl.Cluster) {
			c.Machines[5].Copies = []impl.Copy{copyOf(0, mixedCells()), copyOf(1, impl.NewCells())}
		},
		func(c *impl.Cluster) {
			c.Machines[6].Copies = []impl.Copy{copyOf(1, mixedCells()), copyOf(5, mixedCells())}
		},
		func(c *impl.Cluster) {
			c.Machines[3].Copies = []impl.Copy{copyOf(0, mixedCells()), copyOf(1, openCells())}
		},
		func(c *impl.Cluster) { c.Machines[5].Alive = false },
		func(c *impl.Cluster) { c.Machines[6].Alive = true },
		func(c *impl.Cluster) { c.Places = c.Places[:1]; c.Machines[3].Alive = false },
		func(c *impl.Cluster) { c.Config, c.Clock = lastId, lastStamp },
	} {
		checkSettled(t, changedCluster(settledCluster(), change), true)
	}
}

// Each reason alone, at each machine and each slot.
func TestSettledIsFalseByEachReason(t *testing.T) {
	wrong := func(change func(c *impl.Cluster)) {
		t.Helper()
		checkSettled(t, changedCluster(settledCluster(), change), false)
	}
	wrong(func(c *impl.Cluster) { c.Lost = true })
	for m := range settledCluster().Machines {
		// Wherever there is a record: in no Place, too, and with the dead.
		wrong(func(c *impl.Cluster) { c.Machines[m].Log = recordsOf(1) })
		wrong(func(c *impl.Cluster) { c.Machines[m].Log = []impl.Record{recordOn(3, lastId, 5, 0)} })
	}
	for region, p := range settledCluster().Places {
		for _, m := range p.Machines {
			wrong(func(c *impl.Cluster) { c.Machines[m].Alive = false })
			wrong(func(c *impl.Cluster) { *c, _ = impl.Kill(*c, m) })
			for slot := range int64(howManySlots) {
				one := openCells()[slot]
				other := func(head, value int64) {
					t.Helper()
					wrong(func(c *impl.Cluster) {
						setCells(c, int64(region), m, withCell(openCells(), slot, impl.Cell{Head: head, Value: value}))
					})
				}
				other(one.Head+4, one.Value)
				other(one.Head+1, one.Value)
				if one.Head%4 == 2 {
					other(one.Head, one.Value/2)
				} else {
					other(one.Head+2, 0)
				}
			}
		}
		// Alike, but locked on all of them.
		for slot := range int64(howManySlots) {
			wrong(func(c *impl.Cluster) {
				one := openCells()[slot]
				one.Head++
				for _, m := range p.Machines {
					setCells(c, int64(region), m, withCell(openCells(), slot, one))
				}
			})
		}
	}
	for _, spoil := range []func(c *impl.Cluster){
		func(c *impl.Cluster) { c.Config = 0 },
		func(c *impl.Cluster) { c.Clock = lastStamp + 1 },
		func(c *impl.Cluster) { c.Places[0].Machines[1] = 1 },
		func(c *impl.Cluster) { c.Places[1].Machines[1] = 5 },
		func(c *impl.Cluster) { c.Places = nil },
		func(c *impl.Cluster) { c.Machines[6].Cleared = []int64{0} },
		func(c *impl.Cluster) { c.Machines[5].Copies = []impl.Copy{{Region: 6, Cells: openCells()}} },
		func(c *impl.Cluster) { c.Machines = append(c.Machines, impl.Machine{}, impl.Machine{}) },
		func(c *impl.Cluster) { c.Txs = []impl.Tx{{}} },
		func(c *impl.Cluster) { c.Txs = []impl.Tx{{Id: 4, Home: 7, Phase: phAborted}} },
	} {
		wrong(spoil)
	}
	checkSettled(t, impl.Cluster{}, false)
}
