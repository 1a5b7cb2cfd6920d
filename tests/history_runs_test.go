package tests

import (
	"fmt"
	"maps"
	"slices"
	"testing"

	"loop.example/g00153/impl"
)

// chronicle goes along scripts of ops and asks behind each whether there is an order; it counts what it has seen.
type chronicle struct {
	t *testing.T
	// How often each code came, by kind.
	codes map[coded]int
	// How often a locked cell was not what it will be, a dead primary was passed over, Stamps fell while Ids rose, and how many stood in the longest order.
	behind, dead, turned, longest int
}

func newChronicle(t *testing.T) *chronicle { return &chronicle{t: t, codes: map[coded]int{}} }

// checkThere: all that is committed could have been done one by one, and the primaries have what comes of it. How the script came here is told with the complaint.
func (h *chronicle) checkThere(c impl.Cluster, script []impl.Op) {
	h.t.Helper()
	if !impl.Serial(c) || !impl.Agrees(c) {
		h.t.Fatalf("Serial: %v, Agrees: %v\nbehind %+v\nin %+v", impl.Serial(c), impl.Agrees(c), script, c)
	}
	order := impl.Order(c)
	h.longest = max(h.longest, len(order))
	if !slices.IsSorted(order) {
		h.turned++
	}
	for region, p := range c.Places {
		final, ok := impl.Final(c, int64(region))
		if !ok || len(final) != howManySlots {
			h.t.Fatalf("Final of region %d: %v, %v\nbehind %+v\nin %+v", region, final, ok, script, c)
		}
		if !c.Machines[p.Machines[0]].Alive {
			h.dead++
			continue
		}
		cells, _ := plainCopied(c.Machines[p.Machines[0]], int64(region))
		for slot, one := range cells {
			if one.Head%2 == 1 && one.Head-1 != final[slot].Head {
				h.behind++
			}
		}
	}
}

// checkPlainToo holds the same against the plain answers, which takes longer.
func (h *chronicle) checkPlainToo(c impl.Cluster, script []impl.Op) {
	h.t.Helper()
	if !plainSerial(c) || !plainAgrees(c) || !slices.Equal(impl.Order(c), plainOrder(c)) {
		h.t.Fatalf("by the plain answers: Serial %v, Agrees %v, the order is %v\nbehind %+v\nin %+v", plainSerial(c), plainAgrees(c), plainOrder(c), script, c)
	}
}

// op plays one.
func (h *chronicle) op(c impl.Cluster, op impl.Op, script []impl.Op) impl.Cluster {
	h.t.Helper()
	after, codes := impl.Play(c, []impl.Op{op})
	if len(codes) != 1 {
		h.t.Fatalf("the codes of %+v are %v", op, codes)
	}
	h.codes[coded{impl.Op{Kind: op.Kind}, codes[0]}]++
	h.checkThere(after, script)
	return after
}

// along plays all, and answers the clusters behind each; the first one is ahead of all.
func (h *chronicle) along(c impl.Cluster, script []impl.Op) []impl.Cluster {
	h.t.Helper()
	all := []impl.Cluster{c}
	for i, op := range script {
		c = h.op(c, op, script[:i+1])
		all = append(all, c)
	}
	return all
}

// fillOps take three cells of each region.
func fillOps(regions int64) []impl.Op {
	ops := []impl.Op{opOf(opBegin, 1, 0)}
	for i := range 3 * regions {
		ops = append(ops, opOf(opAlloc, 1, i%regions))
	}
	return append(ops, opOf(opCommit, 1), opOf(opFinish, 1))
}

// aimOps are what one transaction does up to its commit.
func aimOps(one aims) []impl.Op {
	kinds := []int64{begins: opBegin, reads: opRead, writes: opWrite, allocs: opAlloc, drops: opDrop}
	ops := []impl.Op{opOf(opBegin, one.id, one.home)}
	for _, a := range one.acts {
		ops = append(ops, opOf(kinds[a.kind], one.id, a.region, a.slot, valueOf(one.id, a.region, a.slot)))
	}
	return append(ops, opOf(opCommit, one.id))
}

// scriptOf: all begin, read and write, and then they go step by step to their end, as long as none dies; next tells whose step it is, by its place among those under way.
func scriptOf(c impl.Cluster, list []aims, next func(step, many int) int) []impl.Op {
	var script []impl.Op
	for _, one := range list {
		script = append(script, aimOps(one)...)
	}
	c, _ = impl.Play(c, script)
	for step := 0; ; step++ {
		way := slices.DeleteFunc(slices.Clone(c.Txs), func(tx impl.Tx) bool { return !underWay(tx.Phase) })
		if len(way) == 0 {
			return script
		}
		op := opOf(opStep, way[next(step, len(way))].Id)
		script = append(script, op)
		c, _ = impl.Play(c, []impl.Op{op})
	}
}

// afterOps: at the first machines somebody reads and writes in whatever is left of the first region.
func afterOps(machines int64) []impl.Op {
	var ops []impl.Op
	for home := range machines {
		id := 100 + home
		ops = append(ops, opOf(opBegin, id, home), opOf(opRead, id, 0, 0), opOf(opWrite, id, 0, 1, id), opOf(opCommit, id), opOf(opFinish, id))
	}
	return ops
}

// withDeaths: each machine dies ahead of each op of the script, and there is a new configuration so many ops later, or never (-1).
func (h *chronicle) withDeaths(start impl.Cluster, script []impl.Op, gaps []int) {
	h.t.Helper()
	all := h.along(start, script)
	for at, c := range all {
		h.checkPlainToo(c, script[:at])
		for m := range c.Machines {
			for _, gap := range gaps {
				rest := slices.Clone(script[at:])
				if gap >= 0 {
					rest = slices.Insert(rest, min(gap, len(rest)), opOf(opRecover, 0))
				}
				rest = append([]impl.Op{opOf(opKill, 0, int64(m))}, rest...)
				behind := h.along(c, rest)
				h.checkPlainToo(behind[len(behind)-1], rest)
			}
		}
	}
}

func codedKind(kind, code int64) coded { return coded{impl.Op{Kind: kind}, code} }

// checkCodes: each of these came, at least so often.
func (h *chronicle) checkCodes(least int, wanted ...coded) {
	h.t.Helper()
	for _, one := range wanted {
		if h.codes[one] < least {
			h.t.Errorf("kind %d with the code %d came %d times", one.op.Kind, one.code, h.codes[one])
		}
	}
}

// checkSights: the scripts were such that an order could have been missed.
func (h *chronicle) checkSights(least, longest int) {
	h.t.Helper()
	if h.behind < least || h.dead < least || h.turned < least || h.longest < longest {
		h.t.Errorf("locked cells that will be others: %d, dead primaries: %d, orders against the Ids: %d, the longest has %d", h.behind, h.dead, h.turned, h.longest)
	}
}

// There is an order: with each machine dead ahead of each op of scripts in which several are in each other's way, and a new configuration at once, later, or never.
func TestPromise13(t *testing.T) {
	h := newChronicle(t)
	nexts := []func(step, many int) int{
		func(step, many int) int { return step % many },
		func(step, many int) int { return many - 1 - step/4%many },
		func(step, many int) int { return step * step / 3 % many },
	}
	for regions := int64(1); regions <= 2; regions++ {
		for machines := int64(3); machines <= 5; machines++ {
			start, _ := impl.NewCluster(regions, machines)
			all := h.along(start, fillOps(regions))
			start = all[len(all)-1]
			list := aimsOf(regions, machines)
			for i, group := range [][]aims{{list[0], list[1], list[3]}, {list[0], list[2], list[4]}, {list[1], list[2], list[4]}} {
				script := scriptOf(start, group, nexts[i])
				h.withDeaths(start, append(script, afterOps(2)...), []int{0, 3, 11, -1})
			}
		}
	}
	for kind := int64(opBegin); kind <= opFinish; kind++ {
		h.checkCodes(100, codedKind(kind, 0))
	}
	h.checkCodes(100, codedKind(opRead, exLocked), codedKind(opWrite, exLocked), codedKind(opStep, exHome), codedKind(opStep, exPhase), codedKind(opStep, exDown))
	h.checkSights(500, 5)
}

// maze is all that may come of some transactions, each with ops of its own, of which now the one's and then the other's is next, while machines die and new configurations come at any time.
type maze struct {
	*chronicle
	ops [][]impl.Op // of each transaction, up to its commit
	// How many machines may die, and how many new configurations there may be.
	deaths, configs int
	been            map[string]bool
	ends            map[string]int
}

// nexts are the ops that may come: at tells how many of its own each transaction has done, and is answered along with each op as it is then.
func (z *maze) nexts(c impl.Cluster, at []int) ([]impl.Op, [][]int) {
	var ops []impl.Op
	var then [][]int
	for i, own := range z.ops {
		tx, _ := plainFind(c, own[0].Id)
		if at[i] < len(own) {
			one := slices.Clone(at)
			one[i]++
			ops, then = append(ops, own[at[i]]), append(then, one)
		} else if underWay(tx.Phase) {
			ops, then = append(ops, opOf(opStep, tx.Id)), append(then, at)
		}
	}
	return ops, then
}

// deathOps are those that may come at any time.
func (z *maze) deathOps(c impl.Cluster) []impl.Op {
	var ops []impl.Op
	dead := len(c.Machines) - len(plainUpper(c))
	for _, m := range plainUpper(c) {
		if dead < z.deaths {
			ops = append(ops, opOf(opKill, 0, m))
		}
	}
	if dead > 0 && c.Config <= int64(z.configs) {
		ops = append(ops, opOf(opRecover, 0))
	}
	return ops
}

func (z *maze) from(c impl.Cluster, at []int, script []impl.Op) {
	z.t.Helper()
	key := fmt.Sprint(c, at)
	if z.been[key] {
		return
	}
	z.been[key] = true
	z.checkPlainToo(c, script)
	ops, then := z.nexts(c, at)
	if len(ops) == 0 {
		z.ends[fmt.Sprint(impl.Order(c))]++
	}
	for _, op := range z.deathOps(c) {
		ops, then = append(ops, op), append(then, at)
	}
	for i, op := range ops {
		longer := append(slices.Clip(script), op)
		z.from(z.op(c, op, longer), then[i], longer)
	}
}

// Some that are in each other's way, in every order of their ops, whoever dies and whenever there is a new configuration.
func TestThereIsAnOrderInEveryOrder(t *testing.T) {
	for i, one := range []struct {
		regions, machines int64
		deaths, configs   int
		ahead             int // how many ops each has done ahead of all
		acts              [][]act
	}{
		// Both want the same cell.
		{1, 3, 1, 1, 1, [][]act{{{kind: writes}}, {{kind: writes}}}},
		{1, 4, 2, 2, 1, [][]act{{{kind: writes}}, {{kind: writes}}}},
		// Each reads what the other writes.
		{2, 3, 1, 1, 1, [][]act{{{kind: reads, region: 1}, {kind: writes}}, {{kind: reads}, {kind: writes, region: 1}}}},
		// One drops a cell and takes another, the other one reads both.
		{1, 3, 1, 1, 1, [][]act{{{kind: drops, slot: 1}, {kind: allocs}}, {{kind: reads, slot: 1}, {kind: reads, slot: 3}}}},
		// Both take a cell.
		{1, 3, 1, 1, 1, [][]act{{{kind: allocs}}, {{kind: allocs}}}},
		// One writes two cells of two regions, the other one reads both.
		{2, 3, 1, 1, 1, [][]act{{{kind: writes}, {kind: writes, region: 1}}, {{kind: reads}, {kind: reads, region: 1}}}},
		// Three want the same cell; the last one's Home has no copy of it.
		{1, 4, 1, 1, 2, [][]act{{{kind: writes}}, {{kind: writes}}, {{kind: writes}}}},
	} {
		wanted := []string{"[1]", "[1 20]", "[1 23]", "[1 20 23]", "[1 23 20]"}
		if one.ahead > 1 {
			// All have read the same version, so that just one can be committed.
			wanted = []string{"[1]", "[1 20]", "[1 23]", "[1 26]"}
		}
		start, _ := impl.NewCluster(one.regions, one.machines)
		start, _ = impl.Play(start, fillOps(one.regions))
		z := &maze{chronicle: newChronicle(t), deaths: one.deaths, configs: one.configs, been: map[string]bool{}, ends: map[string]int{}}
		for k, acts := range one.acts {
			// They begin ahead of all, so that Ids rise whosever turn it is; the first has its Home on the first machine, the last on the last.
			home := int64(k) * (one.machines - 1) / int64(len(one.acts)-1)
			ops := aimOps(aims{20 + 3*int64(k), home, acts})
			start, _ = impl.Play(start, ops[:one.ahead])
			z.ops = append(z.ops, ops[one.ahead:])
		}
		z.from(start, make([]int, len(z.ops)), nil)
		came := slices.Sorted(maps.Keys(z.ends))
		slices.Sort(wanted)
		if !slices.Equal(came, wanted) || len(z.been) < 1000 {
			t.Errorf("number %d: %d clusters, the orders in the end are %v, want %v", i, len(z.been), came, wanted)
		}
	}
}

// scriptRun makes a script by a fixed rule, op by op, as the cluster goes.
type scriptRun struct {
	*chronicle
	cluster impl.Cluster
	next    func(below uint64) int64
	id      int64
	// How many ops it is until the new configuration, below 0 where there will be none.
	until  int64
	script []impl.Op
}

func newScriptRun(h *chronicle, regions, machines int64, seed int) *scriptRun {
	c, _ := impl.NewCluster(regions, machines)
	r := &scriptRun{chronicle: h, cluster: c, next: byRule(seed), id: 1, until: -1}
	for _, op := range fillOps(regions) {
		r.play(op)
	}
	return r
}

func (r *scriptRun) play(op impl.Op) {
	r.t.Helper()
	r.script = append(r.script, op)
	r.cluster = r.op(r.cluster, op, r.script)
}

func (r *scriptRun) below(many int) int64 { return r.next(uint64(many)) }

// own is an op of one of those that are not at their end; most of the time a step, and of one that runs still something it reads or writes.
func (r *scriptRun) own() impl.Op {
	open := slices.DeleteFunc(slices.Clone(r.cluster.Txs), func(tx impl.Tx) bool { return ends(tx.Phase) })
	if len(open) == 0 || len(open) < 4 && r.below(6) == 0 {
		r.id += 1 + r.below(3)
		return opOf(opBegin, r.id, r.below(len(r.cluster.Machines)))
	}
	tx := open[r.below(len(open))]
	if tx.Phase != phRun {
		return opOf([]int64{opStep, opFinish}[r.below(12)/11], tx.Id)
	}
	if len(tx.Reads) > 1 && r.below(3) > 0 {
		return opOf(opCommit, tx.Id)
	}
	region, slot := r.below(len(r.cluster.Places)), r.below(4)
	return opOf(opRead+r.below(4), tx.Id, region, slot, valueOf(tx.Id, region, slot))
}

func (r *scriptRun) turn(deaths bool) {
	r.t.Helper()
	switch {
	case r.until == 0:
		r.play(opOf(opRecover, 0))
	case deaths && r.below(14) == 0:
		r.play(opOf(opKill, 0, r.below(len(r.cluster.Machines))))
		if r.until < 0 {
			r.until = []int64{0, 1, 2, 4, 8, 16, -1}[r.below(7)] + 1
		}
	default:
		r.play(r.own())
	}
	r.until = max(r.until-1, -1)
}

// Scripts of forty ops and more in which any machine may die at any time, also several.
func TestThereIsAnOrderOverScripts(t *testing.T) {
	h, lost := newChronicle(t), 0
	for seed := range 1500 {
		regions, machines := int64(1+seed%2), int64(3+seed/2%3)
		r := newScriptRun(h, regions, machines, seed)
		for i := range 40 {
			r.turn(i > 5)
		}
		if r.cluster.Lost {
			lost++
		}
		h.checkPlainToo(r.cluster, r.script)
		whole, _ := impl.NewCluster(regions, machines)
		whole, codes := impl.Play(whole, r.script)
		if !sameCluster(whole, r.cluster) || len(codes) != len(r.script) {
			t.Fatalf("played whole, %+v gives %+v\nand op by op %+v", r.script, whole, r.cluster)
		}
	}
	for kind := int64(opBegin); kind <= opFinish; kind++ {
		h.checkCodes(500, codedKind(kind, 0))
	}
	for kind := int64(opRead); kind <= opDrop; kind++ {
		h.checkCodes(50, codedKind(kind, exHome), codedKind(kind, exDown))
	}
	h.checkCodes(50, codedKind(opRead, exLocked), codedKind(opRead, exFree), codedKind(opAlloc, exFull), codedKind(opStep, exHome), codedKind(opStep, exDown), codedKind(opKill, 1), codedKind(opRecover, 1))
	h.checkSights(200, 5)
	if lost < 30 || lost > 750 {
		t.Errorf("%d of the scripts were lost", lost)
	}
}
