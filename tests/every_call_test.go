package tests

import (
	"cmp"
	"fmt"
	"go/ast"
	"go/parser"
	"go/token"
	"maps"
	"math"
	"path/filepath"
	"reflect"
	"slices"
	"strconv"
	"strings"
	"testing"

	"loop.example/g00153/impl"
)

// everyCall is all that the program hands out, by the names of the document.
func everyCall() map[string]any {
	return map[string]any{
		"Pack": impl.Pack, "HeadOk": impl.HeadOk, "Version": impl.Version, "Used": impl.Used, "Locked": impl.Locked, "Next": impl.Next,
		"SetOk": impl.SetOk, "RecordOk": impl.RecordOk, "ShowRecord": impl.ShowRecord, "ReadRecord": impl.ReadRecord,
		"CellsOk": impl.CellsOk, "NewCells": impl.NewCells, "Look": impl.Look, "Lock": impl.Lock, "Install": impl.Install, "Unlock": impl.Unlock, "FreeSlot": impl.FreeSlot,
		"LeaseOk": impl.LeaseOk, "Ends": impl.Ends, "Renew": impl.Renew, "Safe": impl.Safe, "Dead": impl.Dead,
		"PlacesOk": impl.PlacesOk, "Spread": impl.Spread, "Primary": impl.Primary, "Backups": impl.Backups, "Remap": impl.Remap,
		"MachineOk": impl.MachineOk, "Copied": impl.Copied, "Replace": impl.Replace, "Append": impl.Append, "Logged": impl.Logged, "Clear": impl.Clear, "Turn": impl.Turn,
		"TxOk": impl.TxOk, "NewTx": impl.NewTx, "AddRead": impl.AddRead, "AddSet": impl.AddSet, "Wants": impl.Wants, "SetsOf": impl.SetsOf, "Checks": impl.Checks,
		"ClusterOk": impl.ClusterOk, "NewCluster": impl.NewCluster, "Find": impl.Find, "Cells": impl.Cells, "Upper": impl.Upper,
		"Begin": impl.Begin, "Read": impl.Read, "Write": impl.Write, "Alloc": impl.Alloc, "Drop": impl.Drop,
		"Commit": impl.Commit, "Step": impl.Step, "Told": impl.Told, "Finish": impl.Finish,
		"Vote": impl.Vote, "Decide": impl.Decide, "Stricken": impl.Stricken,
		"Kill": impl.Kill, "Recover": impl.Recover, "Settled": impl.Settled,
		"Order": impl.Order, "Serial": impl.Serial, "Final": impl.Final, "Agrees": impl.Agrees, "Play": impl.Play,
		"Bench": impl.Bench,
	}
}

// Whatever the program hands out is asked below; no function is left out.
func TestEveryCallIsAsked(t *testing.T) {
	files, _ := filepath.Glob("../impl/*.go")
	var names []string
	for _, file := range files {
		parsed, err := parser.ParseFile(token.NewFileSet(), file, nil, parser.SkipObjectResolution)
		if err != nil {
			t.Fatal(err)
		}
		for _, d := range parsed.Decls {
			if f, is := d.(*ast.FuncDecl); is && f.Recv == nil && f.Name.IsExported() {
				names = append(names, f.Name.Name)
			}
		}
	}
	slices.Sort(names)
	if asked := slices.Sorted(maps.Keys(everyCall())); !slices.Equal(names, asked) || len(files) != 14 {
		t.Errorf("in %d files the program has %v\nand asked are %v", len(files), names, asked)
	}
}

// farNumbers are in and out of each range, by one and by far.
var farNumbers = []int64{
	0, 1, 2, 3, 4, 5, 6, 7, 8, 9, 10, 12, 13, 20, 23, 26, 60, 61, 200, 201, 300, 1000, 1001, 99999, 100000, 100001, lastId - 1, lastId, lastId + 1, 4*lastId + 3, 4*lastId + 4,
	lastValue, lastValue + 1, 9999999999, 1000000000000, 1000000000001, 1 << 31, 1 << 32, 1<<32 + 1, 1 << 62, math.MaxInt64 - 1, math.MaxInt64,
	-1, -2, -6, -7, -12, -1000, -lastId, -lastValue, -lastValue - 1, -9999999999, -1 << 31, -1 << 32, -1 << 62, math.MinInt64 + 1, math.MinInt64,
}

// nearNumbers are such as are in most ranges, and Ids of transactions that there are.
var nearNumbers = []int64{0, 1, 1, 2, 3, 7, 20}

func farTexts() []string {
	texts := []string{
		"", " ", "\n", "0", "-", "1 7 1 1 4 -3 1 2", "1 7 1 1 4 -3 1 02", "1 7 1 1", "3 1 0 2 0 1 1 0 5 2 0 9", "-1 -1 -1 -1", strings.Repeat("9", 30), strings.Repeat("1 ", 60), strings.Repeat("1 ", 20000),
		"\x00", "\xff\xfe", strings.Repeat("\xff", 300), "recover", "begin 1 0\nalloc 1 0\ncommit 1\nfinish 1\ncell 0 0\nkill 0\nrecover\nserial\nsettled\ntold 1",
		strings.Repeat("\n", 200), strings.Repeat("\n", 201), strings.Repeat("x", 20000), strings.Repeat("x", 20001), "new 6 8\nbegin 1000000 7\nalloc 1000000 5\nstep 1000000\n\n\n",
	}
	for _, r := range goodRecords()[:20] {
		texts = append(texts, impl.ShowRecord(r), impl.ShowRecord(r)+" ", "1 "+impl.ShowRecord(r))
	}
	for seed := range 8 {
		texts = append(texts, strings.Join(newLineRun(3000+seed, 150, map[string]int{}).lines, "\n"))
	}
	return texts
}

// grownClusters are those that scripts come to, and some in the midst of a commit, with a dead machine or none.
func grownClusters(t *testing.T) []impl.Cluster {
	var list []impl.Cluster
	for seed := range 24 {
		r := newScriptRun(newChronicle(t), int64(1+seed%3), int64(2+seed%5), seed)
		for i := range 20 + seed {
			r.turn(i > 5 && seed%3 > 0)
		}
		list = append(list, r.cluster)
	}
	for _, phase := range []int64{phLock, phCheck, phBackup, phPrimary, phClear, phUnlock} {
		whole := commitCluster(wideTx(phase))
		struck, _ := impl.Kill(whole, phase%5)
		list = append(list, whole, struck)
	}
	return append(list, settledCluster(), runningCluster())
}

func farOps() [][]impl.Op {
	list := [][]impl.Op{nil, {}, make([]impl.Op, mostOps), make([]impl.Op, mostOps+1), fillOps(2)}
	var all []impl.Op
	for kind := int64(-1); kind <= 12; kind++ {
		for _, n := range farNumbers[:20] {
			all = append(all, opOf(kind, n%5, n, n%3, 7*n))
		}
	}
	return append(list, all, all[:40], append(fillOps(1), opOf(opKill, 0, 0), opOf(opRecover, 0), opOf(opBegin, 20, 1), opOf(opWrite, 20, 0, 0, 9), opOf(opCommit, 20), opOf(opStep, 20)))
}

// things are what may be chosen of each kind.
type things map[reflect.Type][]reflect.Value

func (all things) add(list any) {
	values := reflect.ValueOf(list)
	kind := values.Type().Elem()
	for i := range values.Len() {
		all[kind] = append(all[kind], values.Index(i))
	}
}

// stock is what each kind of argument may be, as told and otherwise; everything else is made of it by distortion.
func stock(t *testing.T) things {
	all := things{}
	some := all.add
	some(farNumbers)
	some([]bool{false, true})
	some(farTexts())
	some([][]int64{nil, {}, {0}, {1, 2, 3}, {4, 3, 3}, {2, 2}, {1, 3}, {0, 1, 2, 3, 4, 5}, farNumbers, make([]int64, 5000), {math.MaxInt64, math.MinInt64}})
	some([][]bool{nil, {}, {true}, {false}, {true, false, true, true}, make([]bool, 8), {true, true, true, true, true, true, true, true}, make([]bool, 9), make([]bool, 5000)})
	some(append(append(wholeRegions(), wrongCells()...), nil, []impl.Cell{}, make([]impl.Cell, 5), make([]impl.Cell, 7), make([]impl.Cell, 3000), mixedCells(), openCells()))
	some([][]impl.Set{nil, {}, setsOn(0, 1), setsOn(3, 0, 1, 2, 3, 4, 5), setsOn(1, 5, 4), setsOn(1, 2, 2), setsAt(openCells(), 0, 3), setsAt(mixedCells(), 1, 2, 5), wrongSets(), make([]impl.Set, 3000)})
	some(append(wrongSets(), setsOn(2, 0, 1, 2)...))
	some(append(wrongRecords(), goodRecords()[:60]...))
	some([]impl.Lease{{}, {Holder: 2, Start: 100, Length: 1000}, {Holder: 7, Start: 1000000000000, Length: 1000000000000}, {Holder: 8, Start: -1, Length: 0}, {Holder: -1, Start: math.MaxInt64, Length: math.MaxInt64}, {Start: math.MinInt64, Length: math.MinInt64}})
	some(append(wrongPlaces(), severalPlaces(1, 1), severalPlaces(3, 2), severalPlaces(6, 3), []impl.Place{}, make([]impl.Place, 3000)))
	some(append(goodMachines(), wrongMachines()...))
	some(append(wrongNotes(), notesAt(0, 4, 11)...))
	some(append(goodTxs(), wrongTxs()...))
	some(farOps())
	some(grownClusters(t))
	some(goodClusters()[:60])
	some(wrongClusters())
	return all
}

// nearStock has of numbers, machines and clusters such alone as are mostly as told, so that not all is refused at once.
func nearStock(t *testing.T) things {
	all, near := stock(t), things{}
	near.add(nearNumbers)
	near.add(goodMachines())
	near.add(grownClusters(t))
	maps.Copy(all, near)
	return all
}

// mark fills what stands in the room behind a list.
func mark(v reflect.Value) {
	switch v.Kind() {
	case reflect.Int64:
		v.SetInt(77)
	case reflect.Bool:
		v.SetBool(true)
	case reflect.Struct:
		for i := range v.NumField() {
			mark(v.Field(i))
		}
	}
}

// copying makes a deep copy, with each list as list makes it of one that is copied already.
func copying(v reflect.Value, list func(reflect.Value) reflect.Value) reflect.Value {
	own := reflect.New(v.Type()).Elem()
	own.Set(v)
	switch v.Kind() {
	case reflect.Struct:
		for i := range v.NumField() {
			own.Field(i).Set(copying(v.Field(i), list))
		}
	case reflect.Slice:
		elements := reflect.MakeSlice(v.Type(), v.Len(), v.Len())
		for i := range v.Len() {
			elements.Index(i).Set(copying(v.Index(i), list))
		}
		own.Set(list(elements))
	}
	return own
}

// roomy has room behind each list, and something stands in it.
func roomy(list reflect.Value) reflect.Value {
	many := list.Len()
	with := reflect.MakeSlice(list.Type(), many+2, many+2)
	reflect.Copy(with, list)
	mark(with.Index(many))
	mark(with.Index(many + 1))
	return with.Slice(0, many)
}

func asItIs(list reflect.Value) reflect.Value { return list }

func emptyAsNil(list reflect.Value) reflect.Value {
	if list.Len() == 0 {
		return reflect.Zero(list.Type())
	}
	return list
}

// entangling: lists that are alike are one and the same then.
func entangling() func(reflect.Value) reflect.Value {
	first := map[string]reflect.Value{}
	return func(list reflect.Value) reflect.Value {
		key := list.Type().String() + tellOf(false, list)
		if _, is := first[key]; !is {
			first[key] = list
		}
		return first[key]
	}
}

// tell writes a value down whole, with the room behind lists or without it.
func tell(b *strings.Builder, v reflect.Value, room bool) {
	switch v.Kind() {
	case reflect.Int64:
		b.WriteString(strconv.FormatInt(v.Int(), 10))
	case reflect.Bool:
		b.WriteString(strconv.FormatBool(v.Bool()))
	case reflect.String:
		b.WriteString(strconv.Quote(v.String()))
	case reflect.Struct:
		for i := range v.NumField() {
			tell(b, v.Field(i), room)
		}
	case reflect.Slice:
		b.WriteString("[" + strconv.Itoa(v.Len()) + ":")
		if room {
			v = v.Slice(0, v.Cap())
		}
		for i := range v.Len() {
			tell(b, v.Index(i), room)
		}
		b.WriteByte(']')
	default:
		panic("no such kind: " + v.Kind().String())
	}
	b.WriteByte(' ')
}

func tellOf(room bool, values ...reflect.Value) string {
	var b strings.Builder
	for _, v := range values {
		tell(&b, v, room)
	}
	return b.String()
}

// span is the memory of one list, the room behind it too.
type span struct {
	from, to uintptr
	answer   bool
}

func spansOf(v reflect.Value, answer bool) []span {
	var spans []span
	switch v.Kind() {
	case reflect.Struct:
		for i := range v.NumField() {
			spans = append(spans, spansOf(v.Field(i), answer)...)
		}
	case reflect.Slice:
		if v.Cap() > 0 {
			spans = append(spans, span{v.Pointer(), v.Pointer() + uintptr(v.Cap())*v.Type().Elem().Size(), answer})
		}
		if kind := v.Type().Elem().Kind(); kind == reflect.Struct {
			for i := range v.Cap() {
				spans = append(spans, spansOf(v.Slice(0, v.Cap()).Index(i), answer)...)
			}
		}
	}
	return spans
}

// apart: no list of the answers has memory of an argument's, nor of another one's of the answers.
func apart(arguments, answers []reflect.Value) bool {
	var spans []span
	for _, v := range arguments {
		spans = append(spans, spansOf(v, false)...)
	}
	for _, v := range answers {
		spans = append(spans, spansOf(v, true)...)
	}
	slices.SortFunc(spans, func(a, b span) int { return cmp.Compare(a.from, b.from) })
	var last, lastAnswer uintptr // how far all lists, and the answers', have reached
	for _, s := range spans {
		if s.from < lastAnswer || s.answer && s.from < last {
			return false
		}
		last = max(last, s.to)
		if s.answer {
			lastAnswer = max(lastAnswer, s.to)
		}
	}
	return true
}

// asked is one function of the program and what has come of it.
type asked struct {
	t       *testing.T
	name    string
	call    reflect.Value
	answers map[string]bool
}

// callOnce: nothing panics.
func (a *asked) callOnce(arguments []reflect.Value) []reflect.Value {
	a.t.Helper()
	defer func() {
		if found := recover(); found != nil {
			a.t.Fatalf("%s of %s panics: %v", a.name, clipped(tellOf(false, arguments...)), found)
		}
	}()
	return a.call.Call(arguments)
}

// callWith copies the arguments by a way of their lists, calls, and looks whether they stay and the answer is new memory.
func (a *asked) callWith(arguments []reflect.Value, list func(reflect.Value) reflect.Value) string {
	a.t.Helper()
	own := make([]reflect.Value, len(arguments))
	for i, v := range arguments {
		own[i] = copying(v, list)
	}
	before := tellOf(true, own...)
	answers := a.callOnce(own)
	if tellOf(true, own...) != before {
		a.t.Fatalf("%s of %s changes an argument", a.name, clipped(tellOf(false, arguments...)))
	}
	if !apart(own, answers) {
		a.t.Fatalf("%s of %s answers with memory that is not new", a.name, clipped(tellOf(false, arguments...)))
	}
	return tellOf(false, answers...)
}

// choose takes an argument of each kind, which is nobody else's.
func (a *asked) choose(all things, next func(below uint64) int64) []reflect.Value {
	a.t.Helper()
	kind := a.call.Type()
	arguments := make([]reflect.Value, kind.NumIn())
	for i := range arguments {
		choice := all[kind.In(i)]
		if len(choice) == 0 {
			a.t.Fatalf("%s: there is nothing of the kind %v", a.name, kind.In(i))
		}
		arguments[i] = copying(choice[next(uint64(len(choice)))], asItIs)
	}
	return arguments
}

// check: the answer hangs on what was given, not on room, on what is nil and what is empty, nor on whether lists are one and the same.
func (a *asked) check(arguments []reflect.Value) {
	a.t.Helper()
	answer := a.callWith(arguments, roomy)
	for _, list := range []func(reflect.Value) reflect.Value{asItIs, emptyAsNil, entangling()} {
		if again := a.callWith(arguments, list); again != answer {
			a.t.Fatalf("%s of %s answers %s, and then %s", a.name, clipped(tellOf(false, arguments...)), clipped(answer), clipped(again))
		}
	}
	a.answers[answer] = true
}

// distort changes one thing somewhere in a value, which is nobody else's.
func distort(v reflect.Value, next func(below uint64) int64) {
	below := func(many int) int { return int(next(uint64(many))) }
	switch v.Kind() {
	case reflect.Int64:
		far := []int64{v.Int() + 1, v.Int() - 1, farNumbers[below(len(farNumbers))]}
		v.SetInt(far[below(3)])
	case reflect.Bool:
		v.SetBool(!v.Bool())
	case reflect.String:
		at := below(v.Len() + 1)
		v.SetString(v.String()[:at] + []string{"", " ", "\n", "0", "-", "\xff", "9999999999"}[below(7)] + v.String()[min(at+below(2), v.Len()):])
	case reflect.Struct:
		distort(v.Field(below(v.NumField())), next)
	case reflect.Slice:
		distortList(v, next)
	}
}

func distortList(v reflect.Value, next func(below uint64) int64) {
	many := v.Len()
	way := next(16)
	switch {
	case way == 0:
		v.SetZero()
	case way == 1 || many == 0:
		v.Set(reflect.Append(v, reflect.Zero(v.Type().Elem())))
	case way == 2:
		v.Set(v.Slice(0, many-1))
	case way == 3:
		v.Set(v.Slice(1, many))
	case way == 4:
		// Twice the same, and one of a list's own lists twice.
		v.Set(reflect.AppendSlice(v.Slice3(0, many, many), v))
	case way == 5:
		long := v.Slice3(0, many, many)
		for long.Len() < 250 {
			long = reflect.AppendSlice(long, v)
		}
		v.Set(long)
	case way == 6:
		at, other := v.Index(int(next(uint64(many)))), v.Index(int(next(uint64(many))))
		one := reflect.New(v.Type().Elem()).Elem()
		one.Set(at)
		at.Set(other)
		other.Set(one)
	default:
		distort(v.Index(int(next(uint64(many)))), next)
	}
}

// Every function answers at every argument and none panics; answers are new memory; arguments stay.
func TestPromise15(t *testing.T) {
	far, near := stock(t), nearStock(t)
	for number, name := range slices.Sorted(maps.Keys(everyCall())) {
		a := &asked{t: t, name: name, call: reflect.ValueOf(everyCall()[name]), answers: map[string]bool{}}
		next := byRule(number)
		for range 120 {
			a.check(a.choose(near, next))
			arguments := a.choose(far, next)
			for i := range arguments {
				for range next(4) {
					distort(arguments[i], next)
				}
			}
			a.check(arguments)
		}
		if len(a.answers) < 2 && name != "NewCells" {
			t.Errorf("%s answers all the same: %v", name, a.answers)
		}
	}
}

// Each number of each call in turn is far out of range, beside arguments that are as told.
func TestNumbersFarOutOfRange(t *testing.T) {
	near := nearStock(t)
	for number, name := range slices.Sorted(maps.Keys(everyCall())) {
		a := &asked{t: t, name: name, call: reflect.ValueOf(everyCall()[name]), answers: map[string]bool{}}
		next := byRule(100 + number)
		kind := a.call.Type()
		for which := range kind.NumIn() {
			if kind.In(which).Kind() != reflect.Int64 {
				continue
			}
			for _, far := range farNumbers {
				for range 3 {
					arguments := a.choose(near, next)
					arguments[which].SetInt(far)
					a.check(arguments)
				}
			}
		}
	}
}

// Lists that are one and the same, and clusters that are right though their parts were made by nobody: distorted, but such that they are still ClusterOk.
func TestCallsOfOddClusters(t *testing.T) {
	next := byRule(77)
	right, grown := 0, grownClusters(t)
	for round := range 4000 {
		c := copying(reflect.ValueOf(grown[round%len(grown)]), asItIs)
		for range 1 + next(3) {
			distort(c, next)
		}
		odd := c.Interface().(impl.Cluster)
		if !impl.ClusterOk(odd) {
			continue
		}
		right++
		for _, name := range []string{"Recover", "Settled", "Order", "Serial", "Agrees", "Upper"} {
			a := &asked{t: t, name: name, call: reflect.ValueOf(everyCall()[name]), answers: map[string]bool{}}
			a.callWith([]reflect.Value{c}, roomy)
		}
		for _, tx := range odd.Txs {
			for _, name := range []string{"Step", "Finish", "Commit", "Stricken", "Find"} {
				a := &asked{t: t, name: name, call: reflect.ValueOf(everyCall()[name]), answers: map[string]bool{}}
				a.callWith([]reflect.Value{c, reflect.ValueOf(tx.Id)}, asItIs)
			}
		}
	}
	if right < 300 {
		t.Errorf("only %d of the clusters are right", right)
	}
}

// The looks above see what they should: memory that is shared, and an argument that is written into.
func TestWhatIsSharedIsSeen(t *testing.T) {
	list := []int64{1, 2, 3, 4}
	one, other := reflect.ValueOf(list[:2]), reflect.ValueOf(list[3:])
	if apart([]reflect.Value{one}, []reflect.Value{other}) || apart(nil, []reflect.Value{other, one}) {
		t.Error("lists that share their room are taken for apart")
	}
	if !apart([]reflect.Value{one, other}, nil) || !apart([]reflect.Value{one}, []reflect.Value{reflect.ValueOf(slices.Clone(list))}) {
		t.Error("lists that share nothing are not taken for apart")
	}
	m := impl.Machine{Copies: []impl.Copy{{Cells: impl.NewCells()}}}
	if apart([]reflect.Value{reflect.ValueOf(m)}, []reflect.Value{reflect.ValueOf(m.Copies[0].Cells)}) {
		t.Error("a list within a list is taken for apart")
	}
	c := copying(reflect.ValueOf(m), roomy)
	before := tellOf(true, c)
	cells := c.Interface().(impl.Machine).Copies[0].Cells
	cells[:cap(cells)][7].Head = 5
	if tellOf(true, c) == before || tellOf(false, c) != tellOf(false, reflect.ValueOf(m)) {
		t.Error("what is written behind a list is not seen")
	}
	if fmt.Sprint(copying(reflect.ValueOf(m), asItIs)) != fmt.Sprint(m) {
		t.Error("a copy is not what was copied")
	}
}
