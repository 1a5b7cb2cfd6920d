package tests

import (
	"fmt"
	"maps"
	"slices"
	"testing"

	"loop.example/g00153/impl"
)

// witness is what was seen of one transaction's steps, by the cells and by who was asked, not by the Logs.
type witness struct {
	locked  map[int64]bool     // regions whose Sets' cells are locked for it at the primary
	checked map[impl.Note]bool // notes whose cells were as they had been read
	backed  map[chore]bool     // by region and machine alone
	done    map[int64]bool     // regions that are installed at the primary
	cleared map[int64]bool     // machines
}

func newWitness() witness {
	return witness{map[int64]bool{}, map[impl.Note]bool{}, map[chore]bool{}, map[int64]bool{}, map[int64]bool{}}
}

func (w witness) clone() witness {
	return witness{maps.Clone(w.locked), maps.Clone(w.checked), maps.Clone(w.backed), maps.Clone(w.done), maps.Clone(w.cleared)}
}

// see: what a step that went without a code did.
func (w witness) see(before, after impl.Cluster, tx impl.Tx) {
	one := plainPlanFrom(before, tx)[0]
	was, _ := plainCells(before, one.region)
	is, _ := plainCells(after, one.region)
	switch one.phase {
	case phLock:
		missed := func(s impl.Set) bool {
			return was[s.Slot].Head%2 == 1 || is[s.Slot].Head%2 == 0 || is[s.Slot].Head/4 != s.Version
		}
		w.locked[one.region] = !slices.ContainsFunc(plainSetsOf(tx, one.region), missed)
	case phCheck:
		w.checked[one.note] = was[one.note.Slot].Head%2 == 0 && was[one.note.Slot].Head/4 == one.note.Version
	case phBackup:
		w.backed[chore{region: one.region, machine: one.machine}] = true
	case phPrimary:
		w.done[one.region] = true
	case phClear:
		w.cleared[one.machine] = true
	case phUnlock:
		w.locked[one.region] = false
	}
}

// vote: what the living of a region's Place must know by what was seen.
func (w witness) vote(c impl.Cluster, region int64) int64 {
	machines := c.Places[region].Machines
	some := func(knows func(m int64) bool) bool {
		return slices.ContainsFunc(machines, func(m int64) bool { return c.Machines[m].Alive && knows(m) })
	}
	switch {
	case some(func(m int64) bool { return w.cleared[m] || w.done[region] && m == machines[0] }):
		return vtDone
	case some(func(m int64) bool { return w.backed[chore{region: region, machine: m}] }):
		return vtBackup
	case some(func(m int64) bool { return w.locked[region] && m == machines[0] }):
		return vtLock
	}
	return vtNone
}

// allSeen: all its Sets were locked, and all its notes checked.
func (w witness) allSeen(tx impl.Tx) bool {
	unlocked := func(region int64) bool { return !w.locked[region] }
	unchecked := func(n impl.Note) bool { return !w.checked[n] }
	return !slices.ContainsFunc(plainWants(tx), unlocked) && !slices.ContainsFunc(plainChecks(tx), unchecked)
}

// withoutMachines: those of the choice are dead; with nothing left or with all they had, which is the same to the living.
func withoutMachines(c impl.Cluster, choice int, killed bool) impl.Cluster {
	c.Machines = slices.Clone(c.Machines)
	for m := range c.Machines {
		if choice>>m&1 == 0 {
			continue
		}
		c.Machines[m].Alive = false
		if killed {
			c.Machines[m].Copies, c.Machines[m].Log = nil, nil
		}
	}
	return c
}

// watch holds the votes of several transactions under way against what was seen of each.
type watch struct {
	t     *testing.T
	votes map[int64]int
	ends  map[int64]int
	// decided and not, by Phase.
	decided, refused map[int64]int
}

func newWatch(t *testing.T) *watch {
	return &watch{t, map[int64]int{}, map[int64]int{}, map[int64]int{}, map[int64]int{}}
}

// votesOf: all regions of Wants; of every other region there is no vote.
func (w *watch) votesOf(c impl.Cluster, tx impl.Tx, seen witness) []int64 {
	var votes []int64
	wants := plainWants(tx)
	for region := int64(-1); region <= int64(len(c.Places)); region++ {
		vote, want := impl.Vote(c, tx.Id, region), int64(0)
		if slices.Contains(wants, region) {
			votes = append(votes, vote)
			want = seen.vote(c, region)
			w.votes[want]++
		}
		if vote != want || plainVote(c, tx.Id, region) != want {
			w.t.Fatalf("the vote for region %d is %d, want %d: %+v\nin %+v", region, vote, want, tx, c)
		}
	}
	return votes
}

// lacksRegion: a region of its Sets has no living machine, so that nobody could know of it.
func lacksRegion(c impl.Cluster, tx impl.Tx) bool {
	lives := func(m int64) bool { return c.Machines[m].Alive }
	return slices.ContainsFunc(plainWants(tx), func(region int64) bool { return !slices.ContainsFunc(c.Places[region].Machines, lives) })
}

// check asks with each set of machines dead.
func (w *watch) check(whole impl.Cluster, id int64, seen witness) {
	w.t.Helper()
	tx, _ := plainFind(whole, id)
	all, told := seen.allSeen(tx), plainTold(tx)
	for choice := range 1 << len(whole.Machines) {
		c := withoutMachines(whole, choice, choice%3 != 0)
		votes := w.votesOf(c, tx, seen)
		decided := impl.Decide(votes)
		if decided && (!all || told == 2) {
			w.t.Fatalf("the votes %v are to commit %+v, of which there was seen %+v\nin %+v", votes, tx, seen, c)
		}
		if !decided && told == 1 && len(votes) > 0 && !lacksRegion(c, tx) {
			w.t.Fatalf("the votes %v are not to commit %+v, which was told\nin %+v", votes, tx, c)
		}
		if got := impl.Stricken(c, id); got != plainStricken(c, id) {
			w.t.Fatalf("it is stricken: %v, %+v\nin %+v", got, tx, c)
		}
		if decided {
			w.decided[tx.Phase]++
		} else {
			w.refused[tx.Phase]++
		}
	}
}

// run goes through one script: all transactions are committed, now a step of one and then of the other.
func (w *watch) run(c impl.Cluster, next func(below uint64) int64) {
	seen := map[int64]witness{}
	for _, tx := range c.Txs {
		if tx.Phase == phRun {
			seen[tx.Id] = newWitness()
			w.check(c, tx.Id, seen[tx.Id])
			c, _ = impl.Commit(c, tx.Id)
			w.check(c, tx.Id, seen[tx.Id])
		}
	}
	for range 2000 {
		way := slices.DeleteFunc(slices.Clone(c.Txs), func(tx impl.Tx) bool { return !underWay(tx.Phase) })
		if len(way) == 0 {
			break
		}
		tx := way[next(uint64(len(way)))]
		after, code := impl.Step(c, tx.Id)
		if code != 0 {
			w.t.Fatalf("Step of %d: %d\nin %+v", tx.Id, code, c)
		}
		seen[tx.Id].see(c, after, tx)
		c = after
		w.check(c, tx.Id, seen[tx.Id])
		// What is known of the others is as it was.
		other := way[next(uint64(len(way)))]
		w.check(c, other.Id, seen[other.Id])
	}
	for _, tx := range c.Txs {
		w.ends[tx.Phase]++
	}
}

func byRule(seed int) func(below uint64) int64 {
	state := uint64(seed)*2654435761 + 29
	return func(below uint64) int64 {
		state = state*6364136223846793005 + 1442695040888963407
		return int64(state >> 33 % below)
	}
}

// filled is a new cluster in which a transaction has taken some cells of each region and is committed.
func filled(regions, machines int64) impl.Cluster {
	c, _ := impl.NewCluster(regions, machines)
	c, _ = impl.Begin(c, 1, 0)
	for i := range min(12, 3*regions) {
		c, _, _ = impl.Alloc(c, 1, i%regions)
	}
	c, _ = impl.Commit(c, 1)
	c, _ = impl.Finish(c, 1)
	return c
}

// withRunning: so many transactions read and write by the rule, and none has begun its commit.
func withRunning(c impl.Cluster, many int, next func(below uint64) int64) impl.Cluster {
	for i := range many {
		id := int64(20 + 3*i)
		c, _ = impl.Begin(c, id, next(uint64(len(c.Machines))))
		for range 2 + next(6) {
			a := act{kind: int(1 + next(4)), id: id, region: next(uint64(len(c.Places))), slot: next(6), v: next(2000) - 1000}
			c = do(c, a).cluster
		}
	}
	return c
}

// To commit, somebody must know that all was locked and checked: with several transactions under way, at each step, whoever is dead.
func TestPromise11(t *testing.T) {
	w := newWatch(t)
	for _, one := range []struct {
		regions, machines int64
		txs, seeds        int
	}{{1, 1, 3, 6}, {1, 3, 3, 12}, {2, 2, 3, 10}, {2, 4, 4, 12}, {3, 3, 4, 8}, {3, 5, 4, 5}, {6, 8, 2, 1}} {
		for seed := range one.seeds {
			next := byRule(seed + 100*int(one.regions) + 1000*int(one.machines))
			w.run(withRunning(filled(one.regions, one.machines), one.txs, next), next)
		}
	}
	// A region with three machines, one with one, and one with two.
	for seed := range 8 {
		next := byRule(seed)
		w.run(withRunning(commitCluster(), 4, next), next)
	}
	for vote := int64(vtNone); vote <= vtDone; vote++ {
		if w.votes[vote] < 1000 {
			t.Errorf("the votes are %v", w.votes)
		}
	}
	if w.ends[phCommitted] < 50 || w.ends[phAborted] < 30 {
		t.Errorf("in the end: %v", w.ends)
	}
	for _, phase := range []int64{phRun, phLock, phCheck, phUnlock, phAborted} {
		if w.decided[phase] > 0 || w.refused[phase] < 50 {
			t.Errorf("in phase %d: %v are decided, %v are not", phase, w.decided, w.refused)
		}
	}
	for _, phase := range []int64{phBackup, phPrimary, phClear, phCommitted} {
		if w.decided[phase] < 100 || w.refused[phase] < 50 {
			t.Errorf("in phase %d: %v are decided, %v are not", phase, w.decided, w.refused)
		}
	}
}

// from goes through every order of the transactions' steps.
func (w *watch) from(c impl.Cluster, seen map[int64]witness, been map[string]bool) {
	key := fmt.Sprint(c)
	if been[key] {
		return
	}
	been[key] = true
	for _, tx := range c.Txs {
		w.check(c, tx.Id, seen[tx.Id])
		if !underWay(tx.Phase) {
			continue
		}
		after, code := impl.Step(c, tx.Id)
		if code != 0 {
			w.t.Fatalf("Step of %d: %d\nin %+v", tx.Id, code, c)
		}
		then := maps.Clone(seen)
		then[tx.Id] = seen[tx.Id].clone()
		then[tx.Id].see(c, after, tx)
		w.from(after, then, been)
	}
}

// Two that are in each other's way, in every order of their steps, with each set of machines dead.
func TestVotesInEveryOrder(t *testing.T) {
	start := filled(2, 3)
	set := func(region, slot int64) impl.Set {
		return impl.Set{Region: region, Slot: slot, Value: 5, Used: true, Version: 1}
	}
	note := func(region, slot int64) impl.Note {
		return impl.Note{Region: region, Slot: slot, Version: 1, Used: true}
	}
	for i, txs := range [][]impl.Tx{
		{lockTx(20, nil, set(0, 0)), lockTx(21, nil, set(0, 0))},
		{lockTx(20, nil, set(0, 0), set(1, 1)), lockTx(21, nil, set(1, 1))},
		{lockTx(20, []impl.Note{note(1, 0)}, set(0, 0)), lockTx(21, []impl.Note{note(0, 0)}, set(1, 0))},
		{lockTx(20, []impl.Note{note(0, 2)}, set(0, 0), set(1, 0)), lockTx(21, nil, set(0, 2))},
		{lockTx(20, []impl.Note{note(0, 1), note(1, 1)}), lockTx(21, []impl.Note{note(0, 1)}, set(1, 1))},
	} {
		c := deepCluster(start)
		c.Txs = append(c.Txs, txs...)
		w := newWatch(t)
		been := map[string]bool{}
		first, _ := plainFind(c, 1)
		whole := newWitness()
		for _, region := range plainWants(first) {
			whole.locked[region], whole.done[region] = true, true
			for _, m := range c.Places[region].Machines {
				whole.cleared[m] = true
			}
		}
		w.from(c, map[int64]witness{1: whole, 20: newWitness(), 21: newWitness()}, been)
		if len(been) < 40 || w.decided[phBackup] == 0 || w.refused[phAborted] == 0 {
			t.Errorf("number %d: %d clusters, decided %v, not %v", i, len(been), w.decided, w.refused)
		}
	}
}
