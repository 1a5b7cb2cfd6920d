package tests

import (
	"math"
	"slices"
	"testing"

	"loop.example/g00153/impl"
)

// The votes and the kinds of records stand here as the document numbers them.
const (
	vtNone   = 1
	vtLock   = 2
	vtBackup = 3
	vtDone   = 4

	rcLock   = 1
	rcBackup = 2
	rcDone   = 3
)

// What follows says the chapter once more, by all that is known, laid out ahead of a choice.

func plainVote(c impl.Cluster, id, region int64) int64 {
	tx, found := plainFind(c, id)
	if !found || len(plainSetsOf(tx, region)) == 0 {
		return 0
	}
	known := []int64{vtNone}
	for i, m := range c.Places[region].Machines {
		one := c.Machines[m]
		if !one.Alive {
			continue
		}
		if slices.Contains(one.Cleared, id) {
			known = append(known, vtDone)
		}
		for _, r := range one.Log {
			if r.Tx == id && r.Region == region && (r.Kind != rcLock || i == 0) {
				known = append(known, r.Kind+1)
			}
		}
	}
	return slices.Max(known)
}

func plainDecide(votes []int64) bool {
	least, backup := int64(math.MaxInt64), false
	for _, vote := range votes {
		if vote == vtDone {
			return true
		}
		least, backup = min(least, vote), backup || vote == vtBackup
	}
	return backup && least > vtNone
}

func plainStricken(c impl.Cluster, id int64) bool {
	tx, found := plainFind(c, id)
	if !found || tx.Phase == phCommitted || tx.Phase == phAborted {
		return false
	}
	needs := []int64{tx.Home}
	if tx.Phase != phRun {
		for _, region := range plainWants(tx) {
			needs = append(needs, c.Places[region].Machines...)
		}
		for _, n := range plainChecks(tx) {
			needs = append(needs, c.Places[n.Region].Machines...)
		}
	}
	return slices.ContainsFunc(needs, func(m int64) bool { return !c.Machines[m].Alive })
}

func checkVote(t *testing.T, c impl.Cluster, id, region, want int64) {
	t.Helper()
	if got := impl.Vote(c, id, region); got != want {
		t.Errorf("Vote of %d for region %d in %+v\n= %d, want %d", id, region, c, got, want)
	}
}

func checkDecide(t *testing.T, want bool, votes ...int64) {
	t.Helper()
	if got := impl.Decide(votes); got != want {
		t.Errorf("Decide of %v = %v, want %v", votes, got, want)
	}
}

func checkStricken(t *testing.T, c impl.Cluster, id int64, want bool) {
	t.Helper()
	if got := impl.Stricken(c, id); got != want {
		t.Errorf("Stricken of %d in %+v\n= %v, want %v", id, c, got, want)
	}
}

func TestVotesAreNumbered(t *testing.T) {
	if impl.VtNone != vtNone || impl.VtLock != vtLock || impl.VtBackup != vtBackup || impl.VtDone != vtDone {
		t.Error("a vote has another number")
	}
}

// clearsAt: the Id of wideTx is among the Cleared.
func clearsAt(m *impl.Machine) { m.Cleared = append(m.Cleared, 20) }

// at changes machines of commitCluster, in which region 0 is on the machines 1, 0, 2.
func at(machine int64, changes ...func(m *impl.Machine)) func(c *impl.Cluster) {
	return func(c *impl.Cluster) {
		for _, change := range changes {
			change(&c.Machines[machine])
		}
	}
}

func dies(m *impl.Machine) { m.Alive = false }

// notOf is a record of another transaction, of the same region and Sets.
func notOf(tx, kind int64) func(m *impl.Machine) {
	return func(m *impl.Machine) {
		m.Log = append(m.Log, impl.Record{Kind: kind, Tx: tx, Region: 0, Sets: wideSets[0]})
	}
}

// Each answer alone, and what does not count for it.
func TestVoteByHand(t *testing.T) {
	type changing = []func(c *impl.Cluster)
	for i, one := range []struct {
		vote    int64
		changes changing
	}{
		{vtNone, nil},
		{vtNone, changing{at(0, dies), at(1, dies), at(2, dies)}},
		// A lock counts at the primary, and only where it lives.
		{vtLock, changing{at(1, logs(rcLock, 0))}},
		{vtLock, changing{at(1, logs(rcLock, 0)), at(0, dies), at(2, dies)}},
		{vtNone, changing{at(1, logs(rcLock, 0), dies)}},
		{vtNone, changing{at(0, logs(rcLock, 0))}},
		{vtNone, changing{at(0, logs(rcLock, 0)), at(2, logs(rcLock, 0))}},
		{vtNone, changing{at(0, logs(rcLock, 0)), at(1, dies), at(2, logs(rcLock, 0))}},
		// One backup of several is enough.
		{vtBackup, changing{at(0, logs(rcBackup, 0))}},
		{vtBackup, changing{at(2, logs(rcBackup, 0))}},
		{vtBackup, changing{at(2, logs(rcBackup, 0)), at(0, dies), at(1, dies)}},
		{vtBackup, changing{at(0, logs(rcBackup, 0), dies), at(2, logs(rcBackup, 0))}},
		{vtNone, changing{at(0, logs(rcBackup, 0), dies), at(2, logs(rcBackup, 0), dies)}},
		{vtBackup, changing{at(1, logs(rcBackup, 0))}},
		// Done by the record, whoever has it; and by a Cleared alone.
		{vtDone, changing{at(1, logs(rcDone, 0))}},
		{vtDone, changing{at(0, logs(rcDone, 0))}},
		{vtDone, changing{at(2, logs(rcDone, 0)), at(1, dies)}},
		{vtNone, changing{at(1, logs(rcDone, 0), dies)}},
		{vtDone, changing{at(1, clearsAt)}},
		{vtDone, changing{at(0, clearsAt)}},
		{vtDone, changing{at(2, clearsAt), at(0, dies), at(1, dies)}},
		{vtNone, changing{at(0, clearsAt, dies), at(1, clearsAt, dies), at(2, clearsAt, dies)}},
		// Several hold: the first.
		{vtDone, changing{at(1, logs(rcLock, 0), logs(rcBackup, 0), logs(rcDone, 0))}},
		{vtDone, changing{at(1, logs(rcLock, 0)), at(0, logs(rcBackup, 0)), at(2, clearsAt)}},
		{vtDone, changing{at(1, logs(rcDone, 0)), at(0, logs(rcBackup, 0)), at(2, logs(rcBackup, 0))}},
		{vtBackup, changing{at(1, logs(rcLock, 0)), at(0, logs(rcBackup, 0))}},
		{vtBackup, changing{at(1, logs(rcDone, 0), dies), at(0, logs(rcBackup, 0))}},
		{vtLock, changing{at(1, logs(rcLock, 0)), at(0, logs(rcBackup, 0), dies), at(2, clearsAt, dies)}},
		// Of another transaction, of another region, at a machine that is not of the Place.
		{vtNone, changing{at(1, notOf(19, rcLock), notOf(21, rcBackup), notOf(19, rcDone), notOf(2, rcDone))}},
		{vtNone, changing{at(1, logs(rcLock, 1), logs(rcDone, 1)), at(2, logs(rcBackup, 2), logs(rcDone, 2))}},
		{vtNone, changing{at(3, logs(rcLock, 0), logs(rcBackup, 0)), at(4, logs(rcDone, 0), clearsAt)}},
		{vtNone, changing{at(1, func(m *impl.Machine) { m.Cleared = []int64{2, 19, 21, 200} })}},
	} {
		for phase := int64(phRun); phase <= phAborted; phase++ {
			c := commitCluster(wideTx(phase))
			for _, change := range one.changes {
				change(&c)
			}
			if got := impl.Vote(c, 20, 0); got != one.vote {
				t.Errorf("number %d in phase %d: %d, want %d", i, phase, got, one.vote)
			}
			checkVote(t, withoutTheDead(c), 20, 0, one.vote)
		}
	}
}

// A machine of several regions tells of each by its records; a Cleared counts for all of them.
func TestVoteByRegion(t *testing.T) {
	// Region 0 is on the machines 1, 0, 2, region 1 on 3 alone, region 2 on 2, 4.
	for _, one := range []struct {
		change func(c *impl.Cluster)
		votes  []int64
	}{
		{at(2, logs(rcLock, 0)), []int64{vtNone, vtNone, vtNone}},
		{at(2, logs(rcLock, 2)), []int64{vtNone, vtNone, vtLock}},
		{at(2, logs(rcBackup, 0)), []int64{vtBackup, vtNone, vtNone}},
		{at(2, logs(rcBackup, 0), logs(rcLock, 2)), []int64{vtBackup, vtNone, vtLock}},
		{at(2, logs(rcDone, 2)), []int64{vtNone, vtNone, vtDone}},
		{at(2, clearsAt), []int64{vtDone, vtNone, vtDone}},
		{at(3, logs(rcLock, 1)), []int64{vtNone, vtLock, vtNone}},
		{at(3, clearsAt), []int64{vtNone, vtDone, vtNone}},
		{at(3, clearsAt, dies), []int64{vtNone, vtNone, vtNone}},
	} {
		c := commitCluster(wideTx(phClear))
		one.change(&c)
		for region, vote := range one.votes {
			checkVote(t, c, 20, int64(region), vote)
		}
	}
}

// A record counts by its Kind, transaction and region alone: its Sets may be others, and the cells need not be locked.
func TestVoteAsksNoSetsOfARecord(t *testing.T) {
	for kind := int64(rcLock); kind <= rcDone; kind++ {
		c := commitCluster(wideTx(phBackup))
		c.Machines[1].Log = []impl.Record{recordOn(kind, 20, 0, 4, 5)}
		checkVote(t, c, 20, 0, kind+1)
		setCells(&c, 0, 1, wideLocked[0])
		checkVote(t, c, 20, 0, kind+1)
		// Locked cells without a record are another one's.
		c.Machines[1].Log = nil
		checkVote(t, c, 20, 0, vtNone)
	}
}

// knowing is all that a machine of the Place may have of a transaction and a region.
type knowing struct{ lives, cleared, done, backup, lock bool }

const howManyKnowings = 1 << 5

func knowingOf(choice int) knowing {
	is := func(bit int) bool { return choice>>bit&1 == 1 }
	return knowing{is(0), is(1), is(2), is(3), is(4)}
}

// given changes a machine of commitCluster so that it knows just this of wideTx and region 0.
func (k knowing) given(m *impl.Machine) {
	m.Alive = k.lives
	for _, one := range []struct {
		is     bool
		change func(m *impl.Machine)
	}{{k.cleared, clearsAt}, {k.lock, logs(rcLock, 0)}, {k.backup, logs(rcBackup, 0)}, {k.done, logs(rcDone, 0)}} {
		if one.is {
			one.change(m)
		}
	}
}

// misleads gives every machine what does not count: records of others and of other regions, and to those outside of the Place all that would.
func misleads(c *impl.Cluster) {
	for m := range c.Machines {
		one := &c.Machines[m]
		for kind := int64(rcLock); kind <= rcDone; kind++ {
			notOf(19, kind)(one)
			notOf(21, kind)(one)
			logs(kind, 1)(one)
			logs(kind, 2)(one)
		}
		one.Cleared = []int64{2, 19}
		if m > 2 {
			knowing{true, true, true, true, true}.given(one)
		}
	}
}

// Whatever each of three machines knows, and whoever of them lives.
func TestVoteInEveryWay(t *testing.T) {
	seen := map[int64]int{}
	plain, misled := commitCluster(wideTx(phBackup)), commitCluster(wideTx(phBackup))
	misleads(&misled)
	for choice := range howManyKnowings * howManyKnowings * howManyKnowings {
		var vote int64 = vtNone
		knows := []knowing{knowingOf(choice % 32), knowingOf(choice / 32 % 32), knowingOf(choice / 32 / 32)}
		some := func(such func(k knowing) bool) bool {
			return slices.ContainsFunc(knows, func(k knowing) bool { return k.lives && such(k) })
		}
		switch {
		case some(func(k knowing) bool { return k.done || k.cleared }):
			vote = vtDone
		case some(func(k knowing) bool { return k.backup }):
			vote = vtBackup
		case knows[0].lives && knows[0].lock:
			vote = vtLock
		}
		for _, c := range []impl.Cluster{plain, misled} {
			c.Machines = slices.Clone(c.Machines)
			for i, m := range c.Places[0].Machines {
				c.Machines[m].Log, c.Machines[m].Cleared = slices.Clone(c.Machines[m].Log), slices.Clone(c.Machines[m].Cleared)
				knows[i].given(&c.Machines[m])
			}
			if got := impl.Vote(c, 20, 0); got != vote {
				t.Fatalf("what the machines know is %+v: %d, want %d", knows, got, vote)
			}
		}
		seen[vote]++
	}
	if seen[vtNone] < 1000 || seen[vtLock] < 100 || seen[vtBackup] < 1000 || seen[vtDone] < 1000 {
		t.Errorf("the votes are %v", seen)
	}
}

// tempting has all there is to be known of every transaction on every machine.
func tempting(c impl.Cluster) impl.Cluster {
	c = deepCluster(c)
	for m := range c.Machines {
		for _, tx := range c.Txs {
			for _, region := range plainWants(tx) {
				for kind := int64(rcLock); kind <= rcDone; kind++ {
					if len(c.Machines[m].Log) < mostLogged {
						c.Machines[m].Log = append(c.Machines[m].Log, impl.Record{Kind: kind, Tx: tx.Id, Region: region, Sets: plainSetsOf(tx, region)})
					}
				}
			}
			if !slices.Contains(c.Machines[m].Cleared, tx.Id) && len(c.Machines[m].Cleared) < mostCleared {
				c.Machines[m].Cleared = append(c.Machines[m].Cleared, tx.Id)
			}
		}
		slices.Sort(c.Machines[m].Cleared)
	}
	return c
}

// 0: no such transaction; it has no Sets there; there is no such region.
func TestVotesThatAreNone(t *testing.T) {
	other := impl.Tx{Id: 30, Home: 1, Phase: phClear, Reads: []impl.Note{openNote(0, 1), openNote(2, 3)}, Sets: []impl.Set{openSet(1, 4, 2, true)}}
	reader := impl.Tx{Id: 31, Home: 1, Phase: phCommitted, Reads: []impl.Note{openNote(0, 1), openNote(1, 2), openNote(2, 3)}}
	c := tempting(commitCluster(wideTx(phBackup), other, reader))
	checkClusterOk(t, c, true)
	for _, region := range []int64{0, 1, 2} {
		checkVote(t, c, 20, region, vtDone)
		checkVote(t, c, 31, region, 0)
	}
	checkVote(t, c, 30, 0, 0)
	checkVote(t, c, 30, 1, vtDone)
	checkVote(t, c, 30, 2, 0)
	// They are logged and cleared all the same, but there are no such transactions.
	for m := range c.Machines {
		c.Machines[m].Cleared = []int64{1, 19, 20, 21, 29, lastId}
		for kind := int64(rcLock); kind <= rcDone; kind++ {
			notOf(19, kind)(&c.Machines[m])
			notOf(lastId, kind)(&c.Machines[m])
		}
	}
	for region := range int64(3) {
		for _, id := range []int64{math.MinInt64, -20, -1, 0, 1, 19, 21, 29, 32, lastId, lastId + 1, math.MaxInt64} {
			checkVote(t, c, id, region, 0)
		}
	}
	for _, region := range []int64{math.MinInt64, -1, 3, 4, 5, 6, 7, 1 << 32, math.MaxInt64} {
		for _, id := range []int64{20, 30, 31, 19, -1} {
			checkVote(t, c, id, region, 0)
		}
	}
	c.Txs = nil
	checkVote(t, c, 20, 0, 0)
}

// Of what is not ClusterOk nothing is known, though all would be there.
func TestVotesOfWrongClusters(t *testing.T) {
	for _, c := range wrongClusters() {
		for _, id := range []int64{-1, 0, 2, 5, 6, 7, 14, lastId} {
			for _, region := range []int64{-1, 0, 1, 2, 3, 6} {
				checkVote(t, c, id, region, 0)
			}
			checkStricken(t, c, id, false)
		}
	}
	good := tempting(commitCluster(wideTx(phBackup)))
	good.Machines[3].Alive = false
	checkVote(t, good, 20, 0, vtDone)
	checkStricken(t, good, 20, true)
	for i, spoil := range []func(c *impl.Cluster){
		func(c *impl.Cluster) { c.Config = 0 },
		func(c *impl.Cluster) { c.Clock = -1 },
		func(c *impl.Cluster) { c.Clock = 2 },
		func(c *impl.Cluster) { c.Places[1] = placeOf() },
		func(c *impl.Cluster) { c.Places[0] = placeOf(1, 0, 2, 3) },
		func(c *impl.Cluster) { c.Places[0] = placeOf(1, 5) },
		func(c *impl.Cluster) { c.Places[2] = placeOf(1, 2) },
		func(c *impl.Cluster) { c.Places = c.Places[:2] },
		func(c *impl.Cluster) { c.Machines = c.Machines[:2] },
		func(c *impl.Cluster) { c.Machines = nil },
		func(c *impl.Cluster) { c.Machines[4].Copies = nil },
		func(c *impl.Cluster) { c.Machines[4].Cleared = []int64{20, 20} },
		func(c *impl.Cluster) { c.Machines[3].Log[0].Kind = 4 },
		func(c *impl.Cluster) { c.Txs = append(c.Txs, c.Txs[0]) },
		func(c *impl.Cluster) { c.Txs[0].Home = 5 },
		func(c *impl.Cluster) { c.Txs[0].Phase = 10 },
		func(c *impl.Cluster) { c.Txs[0].Sets[1].Slot = 0 },
	} {
		c := deepCluster(good)
		spoil(&c)
		for region := range int64(3) {
			if got := impl.Vote(c, 20, region); got != 0 {
				t.Errorf("number %d is not right: the vote for region %d is %d", i, region, got)
			}
		}
		if impl.Stricken(c, 20) {
			t.Errorf("number %d is not right, but has to be voted on", i)
		}
	}
}

// Everything of the chapter, held against the plain answers over clusters of all kinds.
func TestVotesAgainstThePlainAnswers(t *testing.T) {
	votes, stricken := map[int64]int{}, map[bool]int{}
	for i, c := range append(goodClusters(), runningCluster(), ordinaryCluster(), commitCluster(wideTx(phLock))) {
		if i%2 == 0 {
			c = tempting(c)
		}
		for k := 0; k < len(c.Txs); k += 1 + len(c.Txs)/6 {
			id := c.Txs[k].Id
			for region := int64(-1); region <= int64(len(c.Places)); region++ {
				want := plainVote(c, id, region)
				checkVote(t, c, id, region, want)
				votes[want]++
			}
			want := plainStricken(c, id)
			checkStricken(t, c, id, want)
			stricken[want]++
			checkStricken(t, c, id+1, plainStricken(c, id+1))
		}
	}
	if votes[0] < 100 || votes[vtNone] < 100 || votes[vtDone] < 100 || stricken[true] < 100 || stricken[false] < 100 {
		t.Errorf("the votes are %v, the stricken %v", votes, stricken)
	}
}

func TestDecideByHand(t *testing.T) {
	checkDecide(t, false)
	checkDecide(t, false, []int64{}...)
	checkDecide(t, false, vtNone)
	checkDecide(t, false, vtLock)
	checkDecide(t, true, vtBackup)
	checkDecide(t, true, vtDone)
	// All locked is not enough: nobody knows whether all was checked.
	checkDecide(t, false, vtLock, vtLock, vtLock)
	checkDecide(t, true, vtLock, vtBackup)
	checkDecide(t, true, vtBackup, vtLock)
	checkDecide(t, true, vtBackup, vtBackup)
	// One region knows of nothing: it may never have been told.
	checkDecide(t, false, vtNone, vtBackup)
	checkDecide(t, false, vtBackup, vtLock, vtNone)
	checkDecide(t, false, vtBackup, vtBackup, vtBackup, vtBackup, vtBackup, vtNone)
	// It was done somewhere: then everywhere.
	checkDecide(t, true, vtNone, vtDone)
	checkDecide(t, true, vtDone, vtNone, vtNone)
	checkDecide(t, true, vtNone, vtNone, vtNone, vtNone, vtNone, vtDone)
	checkDecide(t, true, vtLock, vtDone)
}

// Every row of up to four votes: by how many there are of each.
func TestDecideOfEveryRow(t *testing.T) {
	for many := range 5 {
		for _, votes := range tuples([]int64{vtNone, vtLock, vtBackup, vtDone}, many) {
			var count [5]int
			for _, vote := range votes {
				count[vote]++
			}
			want := count[vtDone] > 0 || count[vtBackup] > 0 && count[vtNone] == 0
			checkDecide(t, want, votes...)
			if plainDecide(votes) != want {
				t.Fatalf("the plain answer of %v is not %v", votes, want)
			}
		}
	}
}

// Numbers that are no votes: they are not VtDone or VtBackup, and below VtLock or not.
func TestDecideOfNumbersThatAreNoVotes(t *testing.T) {
	for _, low := range []int64{0, -1, -2, -3, -4, -1 << 32, math.MinInt64} {
		checkDecide(t, false, low)
		checkDecide(t, false, low, vtBackup)
		checkDecide(t, false, vtBackup, low, vtLock)
		checkDecide(t, true, low, vtDone)
		checkDecide(t, true, vtDone, vtBackup, low)
	}
	for _, high := range []int64{5, 6, 7, 8, 1<<32 + vtDone, 1<<32 + vtBackup, math.MaxInt64} {
		checkDecide(t, false, high)
		checkDecide(t, false, high, vtLock)
		checkDecide(t, true, high, vtBackup)
		checkDecide(t, false, vtNone, vtBackup, high)
		checkDecide(t, true, high, vtNone, vtDone)
	}
	for many := range 5 {
		for _, votes := range tuples([]int64{math.MinInt64, 0, vtNone, vtLock, vtBackup, vtDone, 5, math.MaxInt64}, many) {
			checkDecide(t, plainDecide(votes), votes...)
		}
	}
	// There may be more than there are regions.
	row := slices.Repeat([]int64{vtLock}, 1000)
	checkDecide(t, false, row...)
	checkDecide(t, true, append(row, vtBackup)...)
	checkDecide(t, false, append(row, vtBackup, vtNone)...)
	checkDecide(t, true, append(row, vtNone, vtDone)...)
}

// strickenCluster: the transaction has Sets of region 0, on the machines 1, 0, a note to be checked of region 1, on 2, 3, and nothing of region 2, on 4, 5.
// It has a note of a Set's cell of region 0, too. Its Home is machine 6; 7 has nothing.
func strickenCluster(phase, done int64) impl.Cluster {
	tx := impl.Tx{
		Id: 20, Home: 6, Phase: phase, Done: done,
		Reads: []impl.Note{openNote(0, 1), openNote(1, 3)},
		Sets:  []impl.Set{openSet(0, 1, 8, true), openSet(0, 4, 9, true)},
	}
	c := clusterOn(placesOf([]int64{1, 0}, []int64{2, 3}, []int64{4, 5}), aliveAs(8, 0xff), tx)
	openAll(&c)
	return c
}

func underWay(phase int64) bool { return phase >= phLock && phase <= phClear || phase == phUnlock }

func TestStrickenByHand(t *testing.T) {
	for phase := int64(phRun); phase <= phAborted; phase++ {
		for _, one := range []struct {
			dead         []int64
			running, way bool
		}{
			{nil, false, false},
			{[]int64{6}, true, true},
			{[]int64{1}, false, true}, {[]int64{0}, false, true},
			{[]int64{2}, false, true}, {[]int64{3}, false, true},
			{[]int64{4}, false, false}, {[]int64{5}, false, false}, {[]int64{7}, false, false}, {[]int64{4, 5, 7}, false, false},
			{[]int64{4, 6}, true, true}, {[]int64{0, 1, 2, 3}, false, true}, {[]int64{0, 1, 2, 3, 4, 5, 6, 7}, true, true},
		} {
			for _, done := range []int64{0, 1, 1000} {
				c := strickenCluster(phase, done)
				for _, m := range one.dead {
					c.Machines[m].Alive = false
				}
				want := phase == phRun && one.running || underWay(phase) && one.way
				checkStricken(t, c, 20, want)
				checkStricken(t, withoutTheDead(c), 20, want)
			}
		}
	}
}

// In every phase, with every set of machines dead, and the Home at each of them.
func TestStrickenInEveryWay(t *testing.T) {
	for phase := int64(phRun); phase <= phAborted; phase++ {
		for choice := range 1 << 8 {
			c := strickenCluster(phase, 0)
			for m, lives := range aliveAs(8, choice) {
				c.Machines[m].Alive = lives
			}
			for home := range int64(8) {
				c.Txs[0].Home = home
				noHome := choice>>home&1 == 0
				// The first four machines have the regions of the Sets and of the check.
				want := phase == phRun && noHome || underWay(phase) && (noHome || choice&15 != 15)
				if got := impl.Stricken(c, 20); got != want {
					t.Fatalf("phase %d, Home %d, those that live %08b: %v, want %v", phase, home, choice, got, want)
				}
			}
		}
	}
}

// Which machines count, by what a transaction has: Sets alone, checks alone, notes of its Sets' cells alone, nothing.
func TestStrickenByWhatItHas(t *testing.T) {
	set, own, note := openSet(0, 1, 8, true), openNote(0, 1), openNote(1, 3)
	beside := openNote(0, 2)
	for _, one := range []struct {
		reads []impl.Note
		sets  []impl.Set
		count []int64
	}{
		{nil, nil, nil},
		{nil, []impl.Set{set}, []int64{0, 1}},
		{[]impl.Note{own}, []impl.Set{set}, []int64{0, 1}},
		{[]impl.Note{own}, nil, []int64{0, 1}},
		{[]impl.Note{note}, nil, []int64{2, 3}},
		{[]impl.Note{own, beside}, []impl.Set{set}, []int64{0, 1}},
		{[]impl.Note{own, note}, nil, []int64{0, 1, 2, 3}},
		{[]impl.Note{own, note}, []impl.Set{set}, []int64{0, 1, 2, 3}},
		{[]impl.Note{note, openNote(2, 5)}, []impl.Set{set}, []int64{0, 1, 2, 3, 4, 5}},
		{nil, []impl.Set{set, openSet(2, 5, 0, false)}, []int64{0, 1, 4, 5}},
	} {
		for _, phase := range []int64{phLock, phCheck, phBackup, phPrimary, phClear, phUnlock} {
			for dead := range int64(8) {
				c := strickenCluster(phase, 0)
				c.Txs[0].Reads, c.Txs[0].Sets = one.reads, one.sets
				c.Machines[dead].Alive = false
				checkStricken(t, c, 20, dead == 6 || slices.Contains(one.count, dead))
			}
		}
	}
}

// Each of several transactions by itself; of those that are not there, none.
func TestStrickenByItsId(t *testing.T) {
	c := strickenCluster(phCheck, 0)
	c.Txs = append(c.Txs,
		impl.Tx{Id: 22, Home: 6, Phase: phRun, Sets: []impl.Set{openSet(2, 1, 8, true)}},
		impl.Tx{Id: 25, Home: 7, Phase: phUnlock, Sets: []impl.Set{openSet(2, 1, 8, true)}},
		impl.Tx{Id: 26, Home: 6, Phase: phAborted, Sets: []impl.Set{openSet(0, 1, 8, true)}},
		impl.Tx{Id: 30, Home: 4, Phase: phRun, Reads: []impl.Note{openNote(0, 1)}},
	)
	check := func(ids ...int64) {
		t.Helper()
		for id := int64(-1); id <= 40; id++ {
			checkStricken(t, c, id, slices.Contains(ids, id))
		}
		for _, id := range []int64{math.MinInt64, lastId, lastId + 1, math.MaxInt64} {
			checkStricken(t, c, id, false)
		}
	}
	check()
	c.Machines[0].Alive = false
	check(20)
	c.Machines[4].Alive = false
	check(20, 25, 30)
	c.Machines[0].Alive, c.Machines[6].Alive = true, false
	check(20, 22, 25, 30)
	c.Machines[4].Alive = true
	check(20, 22)
	for m := range c.Machines {
		c.Machines[m].Alive = false
	}
	check(20, 22, 25, 30)
	c.Txs = nil
	check()
}

// No argument is changed, and the same is answered each time.
func TestVotesStay(t *testing.T) {
	list := append(wrongWholes(), impl.Cluster{}, ordinaryCluster(), runningCluster(), tempting(commitCluster(wideTx(phClear))), tempting(ordinaryCluster()))
	for phase := int64(phRun); phase <= phAborted; phase++ {
		c := strickenCluster(phase, 1)
		c.Machines[phase%4].Alive = false
		list = append(list, c, tempting(c))
	}
	for _, start := range list {
		c, stays := guardedCluster(start)
		for _, id := range []int64{-1, 2, 5, 11, 14, 20, lastId} {
			for region := int64(-1); region <= howManyRegions; region++ {
				if first, second := impl.Vote(c, id, region), impl.Vote(c, id, region); first != second {
					t.Errorf("Vote of %d for region %d answers %d, and then %d", id, region, first, second)
				}
			}
			if first, second := impl.Stricken(c, id), impl.Stricken(c, id); first != second {
				t.Errorf("Stricken of %d answers %v, and then %v", id, first, second)
			}
		}
		if !stays() {
			t.Errorf("an argument is changed: %+v", c)
		}
	}
	for many := range 4 {
		for _, votes := range tuples([]int64{0, vtNone, vtLock, vtBackup, vtDone, 5}, many) {
			own, stay := guarded(votes, vtDone)
			if first, second := impl.Decide(own), impl.Decide(own); first != second || !stay() {
				t.Errorf("Decide of %v answers %v, and then %v; it stays: %v", votes, first, second, stay())
			}
		}
	}
}
