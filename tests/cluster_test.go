package tests

import (
	"fmt"
	"math"
	"slices"
	"testing"

	"loop.example/g00153/impl"
)

const mostTxs = 60

// cellsOn are unlike on each two machines and of each two regions, so that it shows whose they are.
func cellsOn(region, machine int64) []impl.Cell {
	return withCell(openCells(), 1, cellOf(10*region+machine+1, true, machine%2 == 1, 100*region-machine))
}

// copiesBy: what the Places give a machine.
func copiesBy(places []impl.Place, machine int64) []impl.Copy {
	var copies []impl.Copy
	for r, p := range places {
		if slices.Contains(p.Machines, machine) {
			copies = append(copies, copyOf(int64(r), cellsOn(int64(r), machine)))
		}
	}
	return copies
}

// clusterOn has a machine for each of alive; a dead one keeps its copies.
func clusterOn(places []impl.Place, alive []bool, txs ...impl.Tx) impl.Cluster {
	c := impl.Cluster{Config: 5, Clock: 9, Places: places, Txs: txs}
	for m, lives := range alive {
		one := impl.Machine{Alive: lives, Copies: copiesBy(places, int64(m)), Log: recordsOf(m % 4), Cleared: idsFrom(1, 2, m%3)}
		c.Machines = append(c.Machines, one)
	}
	return c
}

// placesWithin are Places of one machine and of several.
func placesWithin(regions, machines, seed int) []impl.Place {
	var places []impl.Place
	for r := range regions {
		var list []int64
		for i := range 1 + min((seed+r)%mostCopies, machines-1) {
			list = append(list, int64((3*seed+5*r+2*machines-i)%machines))
		}
		places = append(places, placeOf(list...))
	}
	return places
}

func aliveAs(machines, choice int) []bool {
	alive := make([]bool, machines)
	for m := range alive {
		alive[m] = choice>>m&1 == 1
	}
	return alive
}

// someTx is one of the transactions that a cluster of so many regions and machines may have with a Clock of 9.
func someTx(id int64, regions, machines int) impl.Tx {
	var reads, sets []int64
	for cell := id % 5; cell < int64(regions*howManySlots); cell += 7 {
		reads, sets = append(reads, cell), append(sets, cell+id%2)
	}
	last := int64(regions*howManySlots - 1)
	sets = slices.DeleteFunc(sets, func(cell int64) bool { return cell > last || id%3 == 0 })
	tx := txOf(notesAt(reads...), setsAtCells(sets...))
	tx.Id, tx.Home, tx.Phase, tx.Stamp = id, id%int64(machines), 1+id%lastPhase, id%10
	return tx
}

func someOf(ids []int64, regions, machines int) []impl.Tx {
	var txs []impl.Tx
	for _, id := range ids {
		txs = append(txs, someTx(id, regions, machines))
	}
	return txs
}

// ordinaryCluster: Places of one, two and three machines; machine 3 is dead, and 4 is dead and lost its copies.
func ordinaryCluster() impl.Cluster {
	places := placesOf([]int64{2, 0, 4}, []int64{3, 1}, []int64{1})
	c := clusterOn(places, []bool{true, true, true, false, false}, someOf([]int64{2, 5, 6, 14, lastId}, 3, 5)...)
	c.Machines[4].Copies = nil
	return c
}

// goodClusters are of each number of regions and machines, with few and many of them alive, and with few and many transactions.
func goodClusters() []impl.Cluster {
	list := []impl.Cluster{ordinaryCluster()}
	for regions := 1; regions <= howManyRegions; regions++ {
		for machines := 1; machines <= howManyMachines; machines++ {
			for i, choice := range []int{0xff, 0x55, 0x01, 0x00, 0xb6} {
				ids := idsFrom(int64(1+i), int64(2+regions), []int{0, 1, 4, 9, mostTxs}[(i+machines)%5])
				c := clusterOn(placesWithin(regions, machines, i), aliveAs(machines, choice), someOf(ids, regions, machines)...)
				c.Lost = (i+regions)%2 == 0
				list = append(list, c)
			}
		}
	}
	for _, c := range list[:100] {
		list = append(list, withoutTheDead(c), withAllCopies(c))
	}
	return list
}

// withoutTheDead: the dead have nothing any more.
func withoutTheDead(c impl.Cluster) impl.Cluster {
	c = deepCluster(c)
	for m := range c.Machines {
		if !c.Machines[m].Alive {
			c.Machines[m] = impl.Machine{}
		}
	}
	return c
}

// withAllCopies: machines may have copies of regions that no Place gives them, even of regions that there are not.
func withAllCopies(c impl.Cluster) impl.Cluster {
	c = deepCluster(c)
	for m := range c.Machines {
		c.Machines[m].Copies = nil
		for r := range int64(howManyRegions) {
			c.Machines[m].Copies = append(c.Machines[m].Copies, copyOf(r, cellsOn(r, int64(m))))
		}
	}
	return c
}

func clusterNumbers() []numberOf[impl.Cluster] {
	return []numberOf[impl.Cluster]{
		{"Config", 1, lastId, func(c *impl.Cluster, to int64) { c.Config = to }},
		{"Clock", 0, lastStamp, func(c *impl.Cluster, to int64) { c.Clock = to }},
	}
}

// changes makes copies of the ordinary cluster, each with one change.
func changes(list ...func(c *impl.Cluster)) []impl.Cluster {
	var clusters []impl.Cluster
	for _, change := range list {
		c := deepCluster(ordinaryCluster())
		change(&c)
		clusters = append(clusters, c)
	}
	return clusters
}

func wrongPlaces() [][]impl.Place {
	return [][]impl.Place{
		nil, placesOf(nil), placesOf([]int64{0, 0}), placesOf([]int64{-1}), placesOf([]int64{8}), placesOf([]int64{0, 1, 2, 3}),
		placesOf([]int64{2, 0}, nil, []int64{1}), placesOf([]int64{2, 0}, []int64{1, 1}, []int64{1}), placesOf([]int64{0}, []int64{math.MaxInt64}),
		placesOf([]int64{0}, []int64{0}, []int64{0}, []int64{0}, []int64{0}, []int64{0}, []int64{0}),
	}
}

// wrongClusters: each is one thing away from a good one.
func wrongClusters() []impl.Cluster {
	list := append([]impl.Cluster{{}}, wrongWholes()...)
	for _, places := range wrongPlaces() {
		c := withAllCopies(ordinaryCluster())
		c.Places, c.Txs = places, nil
		list = append(list, c)
	}
	for i, m := range wrongMachines() {
		// The last machine is in no Place of these, so that it is wrong by itself alone.
		c := clusterOn(placesOf([]int64{0, 1}, []int64{1}), []bool{true, i%2 == 0, false})
		c.Machines[2] = m
		other := deepCluster(c)
		other.Machines[2].Alive = false
		list = append(list, c, other)
	}
	for _, tx := range wrongTxs() {
		c := withAllCopies(clusterOn(placesWithin(howManyRegions, howManyMachines, 2), aliveAs(howManyMachines, 0xff)))
		c.Clock, c.Txs = lastStamp, []impl.Tx{tx}
		list = append(list, c)
	}
	return list
}

// wrongWholes: their parts are right by themselves, but do not go together.
func wrongWholes() []impl.Cluster {
	list := changes(
		func(c *impl.Cluster) { c.Config = 0 },
		func(c *impl.Cluster) { c.Config = lastId + 1 },
		func(c *impl.Cluster) { c.Clock = -1 },
		func(c *impl.Cluster) { c.Clock = lastStamp + 1 },
		func(c *impl.Cluster) { c.Machines = nil },
		func(c *impl.Cluster) { c.Machines = c.Machines[:4] },
		func(c *impl.Cluster) { c.Machines = append(c.Machines, make([]impl.Machine, 4)...) },
		func(c *impl.Cluster) { c.Places[2] = placeOf(1, 5) },
		func(c *impl.Cluster) { c.Places[2] = placeOf(7) },
		func(c *impl.Cluster) { c.Places[2] = placeOf(1, 0) },
		func(c *impl.Cluster) { c.Places[1] = placeOf(2, 3, 1) },
		func(c *impl.Cluster) { c.Places = append(c.Places, placeOf(3, 4, 0)) },
		func(c *impl.Cluster) { c.Places = c.Places[:2] },
		func(c *impl.Cluster) { c.Machines[0].Copies = nil },
		func(c *impl.Cluster) { c.Machines[1].Copies = c.Machines[1].Copies[:1] },
		func(c *impl.Cluster) { c.Machines[1].Copies = c.Machines[1].Copies[1:] },
		func(c *impl.Cluster) { c.Machines[4].Alive = true },
		func(c *impl.Cluster) { c.Txs[0], c.Txs[1] = c.Txs[1], c.Txs[0] },
		func(c *impl.Cluster) { c.Txs[3], c.Txs[4] = c.Txs[4], c.Txs[3] },
		func(c *impl.Cluster) { c.Txs[1].Id = 2 },
		func(c *impl.Cluster) { c.Txs[4].Id = 14 },
		func(c *impl.Cluster) { c.Txs[0].Home = 5 },
		func(c *impl.Cluster) { c.Txs[4].Home = 7 },
		func(c *impl.Cluster) { c.Txs[0].Stamp = 10 },
		func(c *impl.Cluster) { c.Txs[4].Stamp = lastStamp },
		func(c *impl.Cluster) { c.Clock = 5 },
		func(c *impl.Cluster) { c.Txs[2].Reads = notesAt(0, 18) },
		func(c *impl.Cluster) { c.Txs[2].Sets = setsAtCells(0, 18) },
		func(c *impl.Cluster) { c.Txs[0].Reads = notesAt(35) },
		func(c *impl.Cluster) { c.Txs[4].Sets = setsAtCells(35) },
		func(c *impl.Cluster) { c.Txs = someOf(idsFrom(1, 1, mostTxs+1), 3, 5) },
	)
	return append(list, allChanged(ordinaryCluster(), clusterNumbers(), numberOf[impl.Cluster].beyond)...)
}

func sameCluster(a, b impl.Cluster) bool {
	return a.Config == b.Config && a.Clock == b.Clock && a.Lost == b.Lost && samePlaces(a.Places, b.Places) &&
		slices.EqualFunc(a.Machines, b.Machines, sameMachine) && slices.EqualFunc(a.Txs, b.Txs, sameTx)
}

func deepTx(tx impl.Tx) impl.Tx {
	tx.Reads, tx.Sets = slices.Clone(tx.Reads), slices.Clone(tx.Sets)
	return tx
}

func deepCluster(c impl.Cluster) impl.Cluster {
	deep := impl.Cluster{Config: c.Config, Clock: c.Clock, Lost: c.Lost}
	for _, p := range c.Places {
		deep.Places = append(deep.Places, placeOf(slices.Clone(p.Machines)...))
	}
	for _, m := range c.Machines {
		deep.Machines = append(deep.Machines, deepMachine(m))
	}
	for _, tx := range c.Txs {
		deep.Txs = append(deep.Txs, deepTx(tx))
	}
	return deep
}

// What follows says the chapter once more, by a board of who may stand in which region's Place.

func plainClusterOk(c impl.Cluster) bool {
	if !within(c.Config, 1, lastId) || !within(c.Clock, 0, lastStamp) || !within(int64(len(c.Machines)), 1, howManyMachines) || !plainPlacesOk(c.Places) {
		return false
	}
	var may [howManyMachines][howManyRegions]bool
	for m, machine := range c.Machines {
		if !plainMachineOk(machine) {
			return false
		}
		for r := range may[m] {
			may[m][r] = !machine.Alive
		}
		for _, one := range machine.Copies {
			may[m][one.Region] = true
		}
	}
	for r, p := range c.Places {
		for _, m := range p.Machines {
			if !may[m][r] {
				return false
			}
		}
	}
	return plainTxsFit(c)
}

func plainTxsFit(c impl.Cluster) bool {
	before, regions := int64(0), int64(len(c.Places))
	for _, tx := range c.Txs {
		if !plainTxOk(tx) || tx.Id <= before || tx.Home > int64(len(c.Machines))-1 || tx.Stamp > c.Clock {
			return false
		}
		for _, n := range tx.Reads {
			if n.Region > regions-1 {
				return false
			}
		}
		for _, s := range tx.Sets {
			if s.Region > regions-1 {
				return false
			}
		}
		before = tx.Id
	}
	return len(c.Txs) <= mostTxs
}

func plainFind(c impl.Cluster, id int64) (impl.Tx, bool) {
	for _, tx := range c.Txs {
		if tx.Id == id && plainClusterOk(c) {
			return tx, true
		}
	}
	return impl.Tx{}, false
}

func plainCells(c impl.Cluster, region int64) ([]impl.Cell, bool) {
	if !plainClusterOk(c) || !within(region, 0, int64(len(c.Places))-1) {
		return nil, false
	}
	primary := c.Machines[c.Places[region].Machines[0]]
	if !primary.Alive {
		return nil, false
	}
	return plainCopied(primary, region)
}

func plainUpper(c impl.Cluster) []int64 {
	var upper []int64
	for m, one := range c.Machines {
		if one.Alive && plainClusterOk(c) {
			upper = append(upper, int64(m))
		}
	}
	return upper
}

func checkClusterOk(t *testing.T, c impl.Cluster, want bool) {
	t.Helper()
	if got := impl.ClusterOk(c); got != want {
		t.Errorf("ClusterOk(%+v) = %v, want %v", c, got, want)
	}
}

func checkNewCluster(t *testing.T, regions, machines int64, want impl.Cluster, wantOk bool) {
	t.Helper()
	if got, ok := impl.NewCluster(regions, machines); ok != wantOk || !sameCluster(got, want) {
		t.Errorf("NewCluster(%d, %d)\n= %+v, %v\nwant %+v, %v", regions, machines, got, ok, want, wantOk)
	}
}

func checkFind(t *testing.T, c impl.Cluster, id int64, want impl.Tx, wantOk bool) {
	t.Helper()
	if got, ok := impl.Find(c, id); ok != wantOk || !sameTx(got, want) {
		t.Errorf("Find(%+v, %d)\n= %+v, %v\nwant %+v, %v", c.Txs, id, got, ok, want, wantOk)
	}
}

func checkCells(t *testing.T, c impl.Cluster, region int64, want []impl.Cell, wantOk bool) {
	t.Helper()
	if got, ok := impl.Cells(c, region); ok != wantOk || !slices.Equal(got, want) {
		t.Errorf("Cells(%+v, %d)\n= %v, %v\nwant %v, %v", c, region, got, ok, want, wantOk)
	}
}

func checkUpper(t *testing.T, c impl.Cluster, want ...int64) {
	t.Helper()
	if got := impl.Upper(c); !slices.Equal(got, want) {
		t.Errorf("Upper(%+v) = %v, want %v", c, got, want)
	}
}

// checkAllOfCluster asks all that the chapter has of one cluster, and holds it against the plain answers.
func checkAllOfCluster(t *testing.T, c impl.Cluster) {
	t.Helper()
	checkClusterOk(t, c, plainClusterOk(c))
	checkUpper(t, c, plainUpper(c)...)
	for _, region := range someRegions {
		want, wantOk := plainCells(c, region)
		checkCells(t, c, region, want, wantOk)
	}
	ids := slices.Clone(someTxs)
	for _, tx := range c.Txs {
		ids = append(ids, tx.Id-1, tx.Id, tx.Id+1)
	}
	for _, id := range ids {
		want, wantOk := plainFind(c, id)
		checkFind(t, c, id, want, wantOk)
	}
}

func TestClustersThatAreOk(t *testing.T) {
	for _, c := range goodClusters() {
		checkClusterOk(t, c, true)
	}
	for _, c := range wrongClusters() {
		checkClusterOk(t, c, false)
	}
}

func TestClustersAgainstThePlainAnswers(t *testing.T) {
	for _, c := range append(goodClusters(), wrongClusters()...) {
		checkAllOfCluster(t, c)
	}
}

// newMachine is what a new cluster has on a machine: region r is on the machines r, r + 1 and r + 2, modulo machines.
func newMachine(number, regions, machines int64) impl.Machine {
	m := impl.Machine{Alive: true}
	for r := range regions {
		if (number+6*machines-r)%machines < mostCopies {
			m.Copies = append(m.Copies, copyOf(r, make([]impl.Cell, howManySlots)))
		}
	}
	return m
}

// Each new cluster there is: it is right, as the chapter says it, and all copies are alike.
func TestPromise8(t *testing.T) {
	for regions := int64(1); regions <= howManyRegions; regions++ {
		for machines := int64(1); machines <= howManyMachines; machines++ {
			want := impl.Cluster{Config: 1}
			for r := range regions {
				all := []int64{r % machines, (r + 1) % machines, (r + 2) % machines}
				want.Places = append(want.Places, placeOf(all[:min(machines, mostCopies)]...))
			}
			for m := range machines {
				want.Machines = append(want.Machines, newMachine(m, regions, machines))
			}
			checkNewCluster(t, regions, machines, want, true)
			c, _ := impl.NewCluster(regions, machines)
			checkClusterOk(t, c, true)
			checkAllOfCluster(t, c)
			checkUpper(t, c, idsFrom(0, 1, int(machines))...)
			checkCopiesAlike(t, c)
		}
	}
}

// checkCopiesAlike: all copies of a region are NewCells, on just the machines of its Place.
func checkCopiesAlike(t *testing.T, c impl.Cluster) {
	t.Helper()
	for region := range int64(howManyRegions) {
		for m, one := range c.Machines {
			placed := region < int64(len(c.Places)) && slices.Contains(c.Places[region].Machines, int64(m))
			cells, has := impl.Copied(one, region)
			if has != placed || has && !slices.Equal(cells, impl.NewCells()) {
				t.Errorf("region %d on machine %d of %v: %v, %v", region, m, c.Places, cells, has)
			}
		}
		cells, ok := impl.Cells(c, region)
		if ok != (region < int64(len(c.Places))) || ok && !slices.Equal(cells, impl.NewCells()) {
			t.Errorf("region %d of %v: %v, %v", region, c.Places, cells, ok)
		}
	}
}

func TestNewClusterByHand(t *testing.T) {
	whole := func(regions ...int64) impl.Machine {
		m := impl.Machine{Alive: true}
		for _, r := range regions {
			m.Copies = append(m.Copies, copyOf(r, make([]impl.Cell, 6)))
		}
		return m
	}
	checkNewCluster(t, 1, 1, impl.Cluster{Config: 1, Places: placesOf([]int64{0}), Machines: []impl.Machine{whole(0)}}, true)
	checkNewCluster(t, 2, 4, impl.Cluster{
		Config: 1, Places: placesOf([]int64{0, 1, 2}, []int64{1, 2, 3}),
		Machines: []impl.Machine{whole(0), whole(0, 1), whole(0, 1), whole(1)},
	}, true)
	checkNewCluster(t, 3, 2, impl.Cluster{
		Config: 1, Places: placesOf([]int64{0, 1}, []int64{1, 0}, []int64{0, 1}),
		Machines: []impl.Machine{whole(0, 1, 2), whole(0, 1, 2)},
	}, true)
	checkNewCluster(t, 1, 8, impl.Cluster{
		Config: 1, Places: placesOf([]int64{0, 1, 2}),
		Machines: []impl.Machine{whole(0), whole(0), whole(0), whole(), whole(), whole(), whole(), whole()},
	}, true)
}

func TestNewClustersOutOfRange(t *testing.T) {
	for _, regions := range []int64{math.MinInt64, -1, 0, 1, 2, 5, 6, 7, 1 << 32, math.MaxInt64} {
		for _, machines := range []int64{math.MinInt64, -1, 0, 1, 2, 7, 8, 9, 1 << 32, math.MaxInt64} {
			c, ok := impl.NewCluster(regions, machines)
			if want := regions >= 1 && regions <= 6 && machines >= 1 && machines <= 8; ok != want || impl.ClusterOk(c) != want {
				t.Errorf("NewCluster(%d, %d) = %+v, %v", regions, machines, c, ok)
			}
			if !ok {
				checkNewCluster(t, regions, machines, impl.Cluster{}, false)
			}
		}
	}
}

func TestNumbersOfClustersAtTheirLimits(t *testing.T) {
	c := clusterOn(placesOf([]int64{0, 1}), []bool{true, false})
	for _, one := range allChanged(c, clusterNumbers(), numberOf[impl.Cluster].within) {
		checkClusterOk(t, one, true)
		checkAllOfCluster(t, one)
	}
	for _, one := range allChanged(c, clusterNumbers(), numberOf[impl.Cluster].beyond) {
		checkClusterOk(t, one, false)
		checkAllOfCluster(t, one)
	}
	for _, lost := range []bool{false, true} {
		for choice := range 4 {
			one := clusterOn(placesOf([]int64{0, 1}), aliveAs(2, choice))
			one.Lost = lost
			checkClusterOk(t, one, true)
		}
	}
}

func TestHowManyMachinesAndPlaces(t *testing.T) {
	for machines := range 2*howManyMachines + 1 {
		c := clusterOn(placesOf([]int64{0}), aliveAs(machines, 1<<machines-1))
		checkClusterOk(t, c, machines >= 1 && machines <= 8)
		checkClusterOk(t, clusterOn(placesOf([]int64{0}), make([]bool, machines)), machines >= 1 && machines <= 8)
	}
	for regions := range 2*howManyRegions + 1 {
		places := make([]impl.Place, regions)
		for r := range places {
			places[r] = placeOf(1, 0)
		}
		// The dead need no copies, so that only the Places can be too many.
		checkClusterOk(t, impl.Cluster{Config: 1, Places: places, Machines: make([]impl.Machine, 2)}, regions >= 1 && regions <= 6)
	}
}

func TestHowManyTxs(t *testing.T) {
	for many := range mostTxs + 3 {
		for _, step := range []int64{1, 7} {
			c := clusterOn(placesWithin(4, 3, 1), aliveAs(3, 5), someOf(idsFrom(1, step, many), 4, 3)...)
			checkClusterOk(t, c, many <= 60)
			if many <= 60 {
				checkAllOfCluster(t, c)
			}
		}
	}
	last := clusterOn(placesOf([]int64{0}), []bool{true}, someOf(idsFrom(lastId-59, 1, mostTxs), 1, 1)...)
	checkClusterOk(t, last, true)
	checkAllOfCluster(t, last)
}

func TestTxsThatRise(t *testing.T) {
	for many := range 4 {
		for _, ids := range tuples([]int64{1, 2, 3, lastId}, many) {
			want := true
			for i := range ids[:max(many-1, 0)] {
				want = want && ids[i] < ids[i+1]
			}
			c := clusterOn(placesOf([]int64{0}, []int64{1}), []bool{true, true}, someOf(ids, 2, 2)...)
			checkClusterOk(t, c, want)
		}
	}
}

func TestNoStampIsAboveTheClock(t *testing.T) {
	for _, clock := range []int64{0, 1, 2, 500, lastStamp - 1, lastStamp} {
		for _, stamp := range []int64{0, 1, 2, 3, 499, 500, 501, lastStamp - 1, lastStamp} {
			for at := range 3 {
				c := clusterOn(placesOf([]int64{0}), []bool{true}, impl.Tx{Id: 1, Phase: 1}, impl.Tx{Id: 2, Phase: 7}, impl.Tx{Id: 3, Phase: 9})
				c.Clock, c.Txs[at].Stamp = clock, stamp
				checkClusterOk(t, c, stamp <= clock)
			}
		}
	}
	past := clusterOn(placesOf([]int64{0}), []bool{true}, impl.Tx{Id: 1, Phase: 7, Stamp: lastStamp + 1})
	past.Clock = lastStamp + 1
	checkClusterOk(t, past, false)
}

// A Home may be dead, but it is one of the machines.
func TestHomesAreOfTheCluster(t *testing.T) {
	for machines := 1; machines <= howManyMachines; machines++ {
		for home := int64(-1); home <= howManyMachines; home++ {
			for _, choice := range []int{0, 1, 0xff} {
				c := clusterOn(placesOf([]int64{0}), aliveAs(machines, choice), impl.Tx{Id: 4, Phase: 1}, impl.Tx{Id: 9, Home: home, Phase: 3})
				checkClusterOk(t, c, home >= 0 && home < int64(machines))
			}
		}
	}
}

func TestCellsOfTxsAreOfTheRegions(t *testing.T) {
	for regions := 1; regions <= howManyRegions; regions++ {
		for cell := range int64(howManyCells) {
			want := cell < int64(regions)*6
			for _, tx := range []impl.Tx{
				txOf(notesAt(cell), nil), txOf(nil, setsAtCells(cell)), txOf(notesAt(cell), setsAtCells(0)), txOf(notesAt(0), setsAtCells(cell)),
			} {
				c := clusterOn(placesWithin(regions, 4, 2), aliveAs(4, 0xff), impl.Tx{Id: 1, Phase: 1}, tx)
				checkClusterOk(t, c, want)
			}
		}
	}
	c := clusterOn(placesWithin(2, 4, 2), aliveAs(4, 0xff), txOf(notesAt(3, 11, 12), setsAtCells(3, 11)))
	checkClusterOk(t, c, false)
	c.Txs[0] = txOf(notesAt(3, 11), setsAtCells(3, 11, 12))
	checkClusterOk(t, c, false)
	c.Txs[0] = txOf(notesAt(3, 11), setsAtCells(3, 11))
	checkClusterOk(t, c, true)
}

// Each Place there is, in clusters of each number of machines.
func TestMachinesOfPlacesAreOfTheCluster(t *testing.T) {
	for _, p := range everyPlace() {
		for machines := 1; machines <= howManyMachines; machines++ {
			want := slices.Max(p.Machines) < int64(machines)
			for _, alive := range []int{0xff, 0x6a, 0} {
				c := clusterOn(placesOf(p.Machines), aliveAs(machines, alive))
				checkClusterOk(t, c, want)
				checkClusterOk(t, withoutTheDead(c), want)
			}
		}
	}
}

// Each copy of the cluster is taken away: it is missed where the machine lives and the Place is its.
func TestCopiesThatAreMissed(t *testing.T) {
	for seed := range 6 {
		for _, choice := range []int{0xff, 0x2d, 0x12, 0} {
			c := withAllCopies(clusterOn(placesWithin(4, 6, seed), aliveAs(6, choice)))
			for m := range c.Machines {
				for r := range howManyRegions {
					one := deepCluster(c)
					one.Machines[m].Copies = slices.Delete(one.Machines[m].Copies, r, r+1)
					missed := r < 4 && slices.Contains(c.Places[min(r, 3)].Machines, int64(m)) && c.Machines[m].Alive
					checkClusterOk(t, one, !missed)
					checkAllOfCluster(t, one)
				}
			}
		}
	}
}

func TestFindByHand(t *testing.T) {
	c := ordinaryCluster()
	a, b := txOf(notesAt(2, 8), setsAtCells(8)), txOf(nil, setsAtCells(0, 17))
	a.Id, a.Phase, b.Id, b.Home, b.Phase, b.Stamp = 3, 2, 900, 4, 9, 0
	c.Txs = []impl.Tx{a, b}
	checkFind(t, c, 3, a, true)
	checkFind(t, c, 900, b, true)
	for _, id := range []int64{math.MinInt64, -3, -1, 0, 1, 2, 4, 899, 901, lastId, lastId + 1, math.MaxInt64} {
		checkFind(t, c, id, impl.Tx{}, false)
	}
	c.Txs = nil
	for _, id := range someTxs {
		checkFind(t, c, id, impl.Tx{}, false)
	}
}

func TestCellsByPrimary(t *testing.T) {
	c := ordinaryCluster()
	checkCells(t, c, 0, cellsOn(0, 2), true)
	checkCells(t, c, 1, nil, false)
	checkCells(t, c, 2, cellsOn(2, 1), true)
	for _, region := range []int64{math.MinInt64, -1, 3, 4, 5, 6, math.MaxInt64} {
		checkCells(t, c, region, nil, false)
		checkCells(t, withAllCopies(c), region, nil, false)
	}
	c.Machines[3].Alive = true
	checkCells(t, c, 1, cellsOn(1, 3), true)
	c.Places[1] = placeOf(1, 3)
	checkCells(t, c, 1, cellsOn(1, 1), true)
	for m := range c.Machines {
		c.Machines[m].Alive = false
	}
	for region := range int64(3) {
		checkCells(t, c, region, nil, false)
	}
	if got, ok := impl.Cells(clusterOn(placesOf([]int64{0}), []bool{true}), 0); !ok || len(got) != 6 {
		t.Errorf("Cells of the one machine: %v, %v", got, ok)
	}
}

// Locked cells are told as they are: Cells looks at none of them.
func TestCellsThatAreLocked(t *testing.T) {
	c := clusterOn(placesOf([]int64{0}), []bool{true})
	for _, cells := range wholeRegions() {
		c.Machines[0].Copies = []impl.Copy{copyOf(0, cells)}
		checkCells(t, c, 0, cells, true)
	}
}

// Who lives, in each way there is, asked several times: the answer does not hang on who answers first.
func TestUpperInEachWay(t *testing.T) {
	for _, alive := range everyAlive() {
		if len(alive) == 0 {
			continue
		}
		c := clusterOn(placesOf([]int64{0}), alive)
		var want []int64
		for m, lives := range alive {
			if lives {
				want = append(want, int64(m))
			}
		}
		for range 5 {
			checkUpper(t, c, want...)
		}
	}
}

func TestUpperByHand(t *testing.T) {
	checkUpper(t, ordinaryCluster(), 0, 1, 2)
	checkUpper(t, clusterOn(placesOf([]int64{0}), []bool{true}), 0)
	checkUpper(t, clusterOn(placesOf([]int64{0}), []bool{false}))
	checkUpper(t, clusterOn(placesOf([]int64{5, 7}), []bool{false, true, false, false, true, false, true, true}), 1, 4, 6, 7)
	checkUpper(t, clusterOn(placesOf([]int64{5, 7}), make([]bool, 8)))
	checkUpper(t, impl.Cluster{})
}

func TestClustersThatAreWrongAreRefused(t *testing.T) {
	for _, c := range wrongClusters() {
		for region := int64(0); region <= lastRegion; region++ {
			checkCells(t, c, region, nil, false)
		}
		for _, tx := range append(slices.Clone(c.Txs), impl.Tx{Id: 2}, impl.Tx{Id: 7}) {
			checkFind(t, c, tx.Id, impl.Tx{}, false)
		}
		checkUpper(t, c)
	}
}

func guardedTx(tx impl.Tx) (impl.Tx, func() bool) {
	reads, readsStay := guarded(tx.Reads, impl.Note{Region: 77, Slot: 77})
	sets, setsStay := guarded(tx.Sets, impl.Set{Region: 77, Slot: 77})
	tx.Reads, tx.Sets = reads, sets
	return tx, func() bool { return readsStay() && setsStay() }
}

// guardedCluster has room behind each of its lists, and a look that tells whether all of it is still the same.
func guardedCluster(c impl.Cluster) (impl.Cluster, func() bool) {
	places, placesStay := guardedPlaces(c.Places)
	stays := []func() bool{placesStay}
	room := impl.Cluster{Config: c.Config, Clock: c.Clock, Places: places, Lost: c.Lost}
	for _, m := range append(slices.Clone(c.Machines), machineOf(copiesOn(0), nil, 77)) {
		own, stay := guardedMachine(m)
		room.Machines, stays = append(room.Machines, own), append(stays, stay)
	}
	for _, tx := range append(slices.Clone(c.Txs), txOf(notesAt(1), setsAtCells(2))) {
		own, stay := guardedTx(tx)
		room.Txs, stays = append(room.Txs, own), append(stays, stay)
	}
	before, own := deepCluster(room), room
	own.Machines, own.Txs = own.Machines[:len(c.Machines)], own.Txs[:len(c.Txs)]
	return own, func() bool {
		wrong := func(stay func() bool) bool { return !stay() }
		return !slices.ContainsFunc(stays, wrong) && sameCluster(room, before)
	}
}

func copiesList(copies []impl.Copy) innerList {
	spoil := func() {
		room := copies[:cap(copies)]
		for i := range room {
			room[i] = impl.Copy{Region: -98}
		}
	}
	tell := func() string {
		var regions []int64
		for _, one := range copies {
			regions = append(regions, one.Region)
		}
		return fmt.Sprint(regions)
	}
	return innerList{spoil, tell}
}

func listsOfCluster(c impl.Cluster) []innerList {
	var lists []innerList
	for _, p := range c.Places {
		lists = append(lists, numbersList(p.Machines))
	}
	for _, m := range c.Machines {
		lists = append(append(lists, innerLists(m)...), copiesList(m.Copies))
	}
	for _, tx := range c.Txs {
		lists = append(lists, notesList(tx.Reads), setsList(tx.Sets))
	}
	return lists
}

func checkClusterStays(t *testing.T, start impl.Cluster) {
	t.Helper()
	c, stays := guardedCluster(start)
	impl.ClusterOk(c)
	var lists []innerList
	for range 2 {
		lists = append(lists, numbersList(impl.Upper(c)))
		for region := int64(-1); region <= int64(len(c.Places)); region++ {
			cells, _ := impl.Cells(c, region)
			lists = append(lists, cellsList(cells))
		}
		for _, tx := range c.Txs[:min(len(c.Txs), 4)] {
			found, _ := impl.Find(c, tx.Id)
			lists = append(lists, notesList(found.Reads), setsList(found.Sets))
		}
	}
	if !stays() {
		t.Errorf("an argument is changed by a call: %+v", c)
	}
	checkListsApart(t, lists)
	if !stays() {
		t.Errorf("an answer shares memory with an argument: %+v", c)
	}
}

func TestClustersStayAndShareNothing(t *testing.T) {
	good := goodClusters()
	for i := 0; i < len(good); i += 3 {
		checkClusterStays(t, good[i])
	}
	for _, c := range append(wrongWholes(), impl.Cluster{}, ordinaryCluster()) {
		checkClusterStays(t, c)
	}
}

func TestNewClustersShareNothing(t *testing.T) {
	for regions := int64(1); regions <= howManyRegions; regions++ {
		for machines := int64(1); machines <= howManyMachines; machines++ {
			first, _ := impl.NewCluster(regions, machines)
			second, _ := impl.NewCluster(regions, machines)
			checkListsApart(t, append(listsOfCluster(first), listsOfCluster(second)...))
			c, ok := impl.NewCluster(regions, machines)
			if !ok || !impl.ClusterOk(c) {
				t.Errorf("NewCluster(%d, %d) = %+v, %v behind a change of the one before", regions, machines, c, ok)
			}
			checkCopiesAlike(t, c)
		}
	}
}
