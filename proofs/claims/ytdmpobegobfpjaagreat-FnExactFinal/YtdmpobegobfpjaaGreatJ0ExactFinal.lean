/- Mem; Cells; BoxG; UntZ; NumRow; In; Sets; NumMark; Pls; YSeD: joined. -/
import Derived.WalkKit
import Derived.WalkSpells
import Derived.WalkLawsBesides
import Derived.Below
import Derived.RegionTactic
import Derived.Test.YtdmpobegobfpjaaGreatRows
import Derived.Lib.QuietBelow
import Derived.Deep.Heap
import Derived.Deep.AppendLies
import Derived.BigQuiet
import Derived.OrdersHeld
import Derived.Deep.RegionHeld
import Derived.Deep.QuietTactic
namespace Go.Proofs.YtdmpobegobfpjaaGreat
open Go.RowKit
def Room (w : World) (b m : Nat) : Prop := ∀ j, j < m → ∃ v, w.cell? ⟨b, j, none⟩ = some v ∧ w.frozen? ⟨b, j, none⟩ = false
theorem Room.below {w w' : World} {B b m : Nat} (h : Room w b m) (hb : Below B w w') (hB : b < B) : Room w' b m := fun j hj => by
  obtain ⟨v, h1, h2⟩ := h j hj
  exact ⟨v, by rw [hb.cell hB]; exact h1, by rw [hb.frozen hB]; exact h2⟩
theorem cell_set_same {w : World} {b o : Nat} {v v' : Value} (h : w.cell? ⟨b, o, none⟩ = some v) : (w.setCell ⟨b, o, none⟩ v').cell? ⟨b, o, none⟩ = some v' := World.cell?_setCell_same' _ _ _ (by rw [h]; rfl)
theorem cell_set_other {w : World} {b o o' : Nat} {v' : Value} (h : o' ≠ o) : (w.setCell ⟨b, o, none⟩ v').cell? ⟨b, o', none⟩ = w.cell? ⟨b, o', none⟩ := World.cell?_setCell_other _ _ _ _ (fun e => h (by cases e; rfl))
theorem Room.set {w : World} {b m o : Nat} (h : Room w b m) (v : Value) : Room (w.setCell ⟨b, o, none⟩ v) b m := fun j hj => by
  obtain ⟨u, h1, h2⟩ := h j hj
  refine ⟨if j = o then v else u, ?_, by rw [World.frozen?_setCell]; exact h2⟩
  by_cases e : j = o
  · subst e; simp [cell_set_same h1]
  · simp [e, cell_set_other e, h1]
theorem cell_set_far {w : World} {p : Addr} {b o : Nat} (hp : p.block ≠ b) (v : Value) : (w.setCell p v).cell? ⟨b, o, none⟩ = w.cell? ⟨b, o, none⟩ := World.cell?_setCell_other _ _ _ _ (fun e => hp (by rw [e]))
theorem room_made (w : World) (z : Array Value) (m : Nat) (t : TypeId) : Room (w.alloc (.cells (madeCells z m) t)) w.heap.size m := fun j hj => by
  have hz : j < (madeCells z m).size := by rw [size_madeCells]; exact hj
  exact ⟨(madeCells z m)[j], by rw [World.cell?_alloc_new]; exact Array.getElem?_eq_getElem hz, by simp⟩
structure OnlyBlock (c : Nat) (w w' : World) : Prop where
  os : w'.os = w.os
  tape : w'.tape = w.tape
  output : w'.output = w.output
  size : w'.heap.size = w.heap.size
  block : ∀ k, k ≠ c → w'.heap[k]? = w.heap[k]?
theorem OnlyBlock.refl (c : Nat) (w : World) : OnlyBlock c w w := ⟨rfl, rfl, rfl, rfl, fun _ _ => rfl⟩
theorem OnlyBlock.setCell {c : Nat} {a w : World} (h : OnlyBlock c a w) (o : Nat) (u : Value) : OnlyBlock c a (w.setCell ⟨c, o, none⟩ u) :=
  ⟨h.os, h.tape, h.output, by simpa [World.setCell] using h.size, fun k hk => (Below.heap_setCell _ _ _ _ hk).trans (h.block k hk)⟩
theorem OnlyBlock.below {c B : Nat} {w w' : World} (h : OnlyBlock c w w') (hB : B ≤ c) : Below B w w' := ⟨h.os, h.tape, h.output, Nat.le_of_eq h.size.symm, fun k hk => h.block k (by omega)⟩
theorem Room.alloc {w : World} {b m : Nat} (h : Room w b m) (hb : b < w.heap.size) (o : Obj) : Room (w.alloc o) b m := h.below ((Below.refl w.heap.size w).alloc (Nat.le_refl _) o) hb
structure Turned (c : Nat) (w w' : World) : Prop where
  os : w'.os = w.os
  tape : w'.tape = w.tape
  output : w'.output = w.output
  size : w.heap.size ≤ w'.heap.size
  block : ∀ k, k < w.heap.size → k ≠ c → w'.heap[k]? = w.heap[k]?
theorem Turned.refl (c : Nat) (w : World) : Turned c w w := ⟨rfl, rfl, rfl, Nat.le_refl _, fun _ _ _ => rfl⟩
theorem Turned.trans {c : Nat} {a b d : World} (h : Turned c a b) (k : Turned c b d) : Turned c a d :=
  ⟨k.os.trans h.os, k.tape.trans h.tape, k.output.trans h.output, Nat.le_trans h.size k.size, fun i hi hc => (k.block i (Nat.lt_of_lt_of_le hi h.size) hc).trans (h.block i hi hc)⟩
theorem Turned.drew {c : Nat} {a w : World} (h : Turned c a w) : Turned c a w.drew := ⟨h.os, h.tape, h.output, h.size, h.block⟩
theorem Turned.drewN {c : Nat} {a w : World} (h : Turned c a w) (n : Nat) : Turned c a (w.drewN n) := ⟨h.os, h.tape, h.output, h.size, h.block⟩
theorem Turned.alloc {c : Nat} {a w : World} (h : Turned c a w) (o : Obj) : Turned c a (w.alloc o) :=
  h.trans ⟨rfl, rfl, rfl, by simp, fun k hk _ => Below.heap_alloc _ _ _ hk⟩
theorem Turned.setCell {c : Nat} {a w : World} (h : Turned c a w) (o : Nat) (u : Value) : Turned c a (w.setCell ⟨c, o, none⟩ u) :=
  h.trans ⟨rfl, rfl, rfl, by simp [World.setCell], fun k _ hc => Below.heap_setCell _ _ _ _ hc⟩
theorem Turned.below {c B : Nat} {w w' : World} (h : Turned c w w') (hB : B ≤ c) (hs : B ≤ w.heap.size) : Below B w w' :=
  ⟨h.os, h.tape, h.output, h.size, fun k hk => h.block k (by omega) (by omega)⟩
theorem Turned.cell {c : Nat} {w w' : World} (h : Turned c w w') {p : Addr} (hp : p.block < w.heap.size) (hc : p.block ≠ c) : w'.cell? p = w.cell? p := World.cell?_of_block (w := w) (h.block p.block hp hc)
theorem Turned.frozen {c : Nat} {w w' : World} (h : Turned c w w') {p : Addr} (hp : p.block < w.heap.size) (hc : p.block ≠ c) : w'.frozen? p = w.frozen? p := World.frozen?_of_block (w := w) (h.block p.block hp hc)
theorem Turned.of_below {c : Nat} {a w w' : World} (h : Turned c a w) (hb : Below w.heap.size w w') : Turned c a w' :=
  ⟨hb.os.trans h.os, hb.tape.trans h.tape, hb.output.trans h.output, Nat.le_trans h.size hb.size, fun k hk hc => (hb.block k (Nat.lt_of_lt_of_le hk h.size)).trans (h.block k hk hc)⟩
theorem Turned.grown {c : Nat} {a w w' : World} {row : Option Nat} (h : Turned c a w) (hg : w.grownBy w' row) (hr : ∀ q, row = some q → a.heap.size ≤ q) : Turned c a w' :=
  ⟨hg.os.trans h.os, hg.tape.trans h.tape, hg.output.trans h.output, Nat.le_trans h.size hg.size, fun k hk hc => (hg.block k (Nat.lt_of_lt_of_le hk h.size) (fun e => by have := hr k e.symm; omega)).trans (h.block k hk hc)⟩
theorem append_known {P : Program} (w : World) {ops : Array Oper} {rest : List Oper} {o : Oper} {a : Act} {Q : Exit → Act → World → Prop} (hg : o.guard = none) (s x : Operand) (t : TypeId)
    (hop : o.op = Op.call { callee := Callee.builtin Builtin.append, args := #[s, x], argTypes := #[t, t] }) (v u v' : Value) (w' : World) (hs : a.eval s = v) (hx : a.eval x = u)
    (hr : (Builtin.append_ #[t, t] o.type #[v, u]).run P w = .ok v' w') (h : wpList P ops Q rest (a.put o.dst v') w') : wpList P ops Q (o :: rest) a w := by
  refine wpList_plain hg fun K hK => ?_
  unfold Oper.wp
  simp [execOp, hop, resolve, invoke, builtin, hs, hx, hr, Result.andThen]
  exact hK _ _ h
end Go.Proofs.YtdmpobegobfpjaaGreat
namespace Go.Proofs.YtdmpobegobfpjaaGreat
open Go.RowKit
open Go.Sort (grow)
structure C2 where
  head : Int
  value : Int
def C2.cells (s : C2) : List Value := [.int .i64 s.head, .int .i64 s.value]
structure CellAt (w : World) (b o : Nat) (s : C2) : Prop where
  c0 : w.cell? ⟨b, o, none⟩ = some (.int .i64 s.head)
  c1 : w.cell? ⟨b, o + 1, none⟩ = some (.int .i64 s.value)
theorem CellAt.below {w w' : World} {B b o : Nat} {s : C2} (h : CellAt w b o s) (hb : Below B w w') (hB : b < B) : CellAt w' b o s :=
  ⟨by rw [hb.cell hB]; exact h.c0, by rw [hb.cell hB]; exact h.c1⟩
theorem CellAt.regrown {w : World} {b o : Nat} {s : C2} (h : CellAt w b o s) (d : Nat) (os : Array Obj) : CellAt (grow (redrawn w d) os) b o s :=
  ⟨cell_regrown h.c0 d os, cell_regrown h.c1 d os⟩
def CellsAt (w : World) (b off : Nat) (xs : List C2) : Prop := ∀ i s, xs[i]? = some s → CellAt w b (off + i * 2) s
theorem CellsAt.below {w w' : World} {B b off : Nat} {xs : List C2} (h : CellsAt w b off xs) (hb : Below B w w') (hB : b < B) : CellsAt w' b off xs := fun i s e => (h i s e).below hb hB
def SlC (w : World) (B : Nat) (a : Option Addr) (n : Nat) (xs : List C2) : Prop := xs.length = n ∧ (n = 0 ∨ ∃ b off, a = some ⟨b, off, none⟩ ∧ b < B ∧ CellsAt w b off xs)
theorem SlC.below {w w' : World} {B : Nat} {a : Option Addr} {n : Nat} {xs : List C2} (h : SlC w B a n xs) (hb : Below B w w') : SlC w' B a n xs := by
  obtain ⟨h1, h2⟩ := h
  refine ⟨h1, ?_⟩
  rcases h2 with h2 | ⟨b, off, ha, hB, hx⟩
  · exact .inl h2
  · exact .inr ⟨b, off, ha, hB, hx.below hb hB⟩
theorem SlC.mono {w : World} {B B' : Nat} {a : Option Addr} {n : Nat} {xs : List C2} (h : SlC w B a n xs) (hB : B ≤ B') : SlC w B' a n xs := by
  obtain ⟨h1, h2⟩ := h
  refine ⟨h1, ?_⟩
  rcases h2 with h2 | ⟨b, off, ha, hb, hx⟩
  · exact .inl h2
  · exact .inr ⟨b, off, ha, by omega, hx⟩
theorem SlC.later {w w' : World} {a : Option Addr} {n : Nat} {xs : List C2} (h : SlC w w.heap.size a n xs) (hb : Below w.heap.size w w') : SlC w' w'.heap.size a n xs := (h.below hb).mono hb.size
theorem CellsAt.far {w : World} {b off : Nat} {xs : List C2} (h : CellsAt w b off xs) {p : Addr} (hp : p.block ≠ b) (v : Value) : CellsAt (w.setCell p v) b off xs := fun i s e =>
  ⟨by rw [cell_set_far hp]; exact (h i s e).c0, by rw [cell_set_far hp]; exact (h i s e).c1⟩
theorem CellAt.set {w : World} {b o p : Nat} {s : C2} (h : CellAt w b o s) (hp : p < o ∨ o + 2 ≤ p) (v : Value) : CellAt (w.setCell ⟨b, p, none⟩ v) b o s :=
  ⟨by rw [cell_set_other (by omega)]; exact h.c0, by rw [cell_set_other (by omega)]; exact h.c1⟩
theorem info_cell : (Tryz.prog.info? 75).map (fun i => (i.zero, i.size, i.bytes)) = some (some (.agg #[.int .i64 0, .int .i64 0]), 2, 16) := by kernel_rfl
theorem make_cells (n : Nat) (hn : n ≤ 1048576) (w : World) : (Instr.makeSlice 42 (.int .i64 (n : Int)) (.int .i64 (n : Int))).run Tryz.prog w = .ok (.slice (some ⟨w.heap.size, 0, none⟩) n n) (w.alloc (.cells (madeCells #[.int .i64 0, .int .i64 0] (n * 2)) 75)) := by
  obtain ⟨i, hi, hzz⟩ := Option.map_eq_some_iff.1 info_cell
  simp only [Prod.mk.injEq] at hzz
  obtain ⟨hz, hs, hb⟩ := hzz
  have := run_make (P := Tryz.prog) w 42 75 i _ Tryz.underlying42 hi hz .i64 .i64 (n : Int) (n : Int) (by omega) (by omega) (by rw [hb]; omega) (by omega)
  rw [hs] at this
  simpa [Value.cells] using this
theorem CellAt.put {w : World} {b o : Nat} {v0 v1 : Value} (s : C2) (h0 : w.cell? ⟨b, o, none⟩ = some v0) (h1 : w.cell? ⟨b, o + 1, none⟩ = some v1) :
    CellAt ((w.setCell ⟨b, o, none⟩ (.int .i64 s.head)).setCell ⟨b, o + 1, none⟩ (.int .i64 s.value)) b o s := by
  refine ⟨?_, ?_⟩
  · rw [cell_set_other (by omega)]; exact cell_set_same h0
  · exact cell_set_same (by rw [cell_set_other (by omega)]; exact h1)
theorem CellsAt.put {w : World} {b k : Nat} {xs : List C2} {s : C2} (h : CellsAt w b 0 (xs.take k)) (hs : xs[k]? = some s) {m : Nat} (hr : Room w b m) (hm : k * 2 + 2 ≤ m) :
    CellsAt ((w.setCell ⟨b, k * 2, none⟩ (.int .i64 s.head)).setCell ⟨b, k * 2 + 1, none⟩ (.int .i64 s.value)) b 0 (xs.take (k + 1)) := by
  intro i t e
  rw [List.getElem?_take] at e
  split at e
  · rename_i hi
    by_cases hik : i = k
    · subst hik
      rw [hs] at e
      obtain rfl := Option.some.inj e
      obtain ⟨v0, d0, _⟩ := hr (i * 2) (by omega)
      obtain ⟨v1, d1, _⟩ := hr (i * 2 + 1) (by omega)
      simpa using CellAt.put s d0 d1
    · have := h i t (by rw [List.getElem?_take, if_pos (by omega)]; exact e)
      exact (this.set (by omega) _).set (by omega) _
  · cases e
def at2 (xs : List C2) (i : Nat) : C2 := xs[i]?.getD ⟨0, 0⟩
theorem at2_of {xs : List C2} {i : Nat} (h : i < xs.length) : xs[i]? = some (at2 xs i) := by
  simp [at2, List.getElem?_eq_getElem h]
theorem CellsAt.get {w : World} {b off : Nat} {xs : List C2} (h : CellsAt w b off xs) {i : Nat} (hi : i < xs.length) : CellAt w b (off + i * 2) (at2 xs i) := h i _ (at2_of hi)
theorem toCell_any (w : World) (s : C2) : Calls Tryz.prog 208 #[.agg #[.int .i64 s.head, .int .i64 s.value]] w fun e w' =>
    e = .returned (.agg #[.int .i64 s.head, .int .i64 s.value]) ∧ Below w.heap.size w w' := by
  obtain ⟨h, v⟩ := s
  go_enter Tryz.func208, Tryz.ntmps208
  go_wp2
  refine bodyPost_ret (v := .agg #[.int .i64 h, .int .i64 v]) (by simp [results, Tryz.results208, go_sem]) rfl ⟨rfl, ?_⟩
  exact (((Below.refl _ _).alloc (Nat.le_refl _) _).alloc (by simp) _).alloc (by simp; omega) _
theorem toCellS_none (w : World) (a : Option Addr) (cap : Nat) : Calls Tryz.prog 180 #[.slice a 0 cap] w fun e w' =>
    e = .returned (.slice (some ⟨w.heap.size, 0, none⟩) 0 0) ∧ Below w.heap.size w w' ∧ w.heap.size < w'.heap.size := by
  have hmk : ∀ w : World, (Instr.makeSlice 42 (.int .i64 0) (.int .i64 0)).run Tryz.prog w = .ok (.slice (some ⟨w.heap.size, 0, none⟩) 0 0) (w.alloc (.cells (madeCells #[.int .i64 0, .int .i64 0] 0) 75)) := fun w => by simpa using make_cells 0 (by omega) w
  go_enter Tryz.func180, Tryz.ntmps180
  go_wp2
  go_loopw [4] (fun i wr => i = .int .i64 0 ∧ Below w.heap.size w wr ∧ w.heap.size < wr.heap.size) (fun _ _ => 0)
  case atStart => exact ⟨rfl, (Below.refl _ _).alloc (Nat.le_refl _) _, by simp⟩
  case round =>
    obtain ⟨rfl, hbl, hsz⟩ := hrel
    go_wp2
    go_ret
    exact ⟨rfl, hbl, hsz⟩
theorem eqCell_same (w : World) (s : C2) : Calls Tryz.prog 45 #[.agg #[.int .i64 s.head, .int .i64 s.value], .agg #[.int .i64 s.head, .int .i64 s.value]] w fun e w' =>
    e = .returned (.bool true) ∧ Below w.heap.size w w' := by
  obtain ⟨h, v⟩ := s
  go_enter Tryz.func45, Tryz.ntmps45
  go_wp2
  go_ret
  exact ⟨rfl, ((Below.refl _ _).alloc (Nat.le_refl _) _).alloc (by simp) _⟩
set_option maxHeartbeats 1000000 in
theorem eqCellS_some (w : World) (b off cap b' off' cap' n : Nat) (xs : List C2) (hx : xs.length = n) (hn : n ≤ maxLen) (h1 : CellsAt w b off xs) (hb : b < w.heap.size) (h2 : CellsAt w b' off' xs) (hb' : b' < w.heap.size) :
    Calls Tryz.prog 20 #[.slice (some ⟨b, off, none⟩) n cap, .slice (some ⟨b', off', none⟩) n cap'] w fun e w' => e = .returned (.bool true) ∧ Below w.heap.size w w' := by
  unfold maxLen at hn
  go_enter Tryz.func20, Tryz.ntmps20
  go_wp2
  go_loopw [5] (fun i wr => ∃ k : Nat, k ≤ n ∧ i = .int .i64 k ∧ Below w.heap.size w wr) (fun i _ => n - (intOf i).toNat)
  case atStart => exact ⟨0, Nat.zero_le _, rfl, Below.refl _ _⟩
  case round =>
    obtain ⟨k, hk, rfl, hbl⟩ := hrel
    by_cases hlt : k < n
    · obtain ⟨s, hsk⟩ : ∃ s, xs[k]? = some s := ⟨xs[k]'(by omega), by simp⟩
      have t1 := (((h1 k s hsk).below hbl hb).regrown)
      have t2 := (((h2 k s hsk).below hbl hb').regrown)
      have c0 := fun d os => (t1 d os).c0
      have c1 := fun d os => (t1 d os).c1
      have e0 := fun d os => (t2 d os).c0
      have e1 := fun d os => (t2 d os).c1
      have cQ : ∀ d os, Calls Tryz.prog 45 #[.agg #[.int .i64 s.head, .int .i64 s.value], .agg #[.int .i64 s.head, .int .i64 s.value]] (grow (redrawn wr d) os) fun e w'' => e = .returned (.bool true) ∧ ∃ p : Regrown, w'' = grow (redrawn wr p.d) p.os := fun d os => Calls.regrown_of (eqCell_same _ s)
      have K : Hid (Below w.heap.size w wr) := hbl
      clear t1 t2 hbl hsk h1 h2
      go_wp2_with fail
      refine wp_region_quiet_below (by kernel_rfl) (by kernel_rfl) ?_
      repeat (quiet_step (exact cQ _ _))
      refine wpQuiet_nil ?_
      intro _ hw'
      obtain ⟨⟨dq, osq⟩, hw''⟩ := hw'
      subst hw''
      have bq := below_regrown wr dq osq
      go_wp2
      exact ⟨⟨k + 1, by omega, by simp, K.out.trans (bq.mono K.out.size)⟩, by simp [intOf]; omega⟩
    · have : k = n := by omega
      subst this
      have hd : decide (k < k) = false := by simp
      go_wp2
      go_ret
      exact ⟨rfl, hbl⟩
theorem eqCellS_none (w : World) (a a' : Option Addr) (cap cap' : Nat) : Calls Tryz.prog 20 #[.slice a 0 cap, .slice a' 0 cap'] w fun e w' => e = .returned (.bool true) ∧ Below w.heap.size w w' := by
  go_enter Tryz.func20, Tryz.ntmps20
  go_wp2
  go_loopw [5] (fun i wr => i = .int .i64 0 ∧ Below w.heap.size w wr) (fun _ _ => 0)
  case atStart => exact ⟨rfl, Below.refl _ _⟩
  case round =>
    obtain ⟨rfl, hbl⟩ := hrel
    go_wp2
    go_ret
    exact ⟨rfl, hbl⟩
theorem eqCellS_any (w : World) (a a' : Option Addr) (n cap cap' : Nat) (xs : List C2) (hn : n ≤ maxLen) (h1 : SlC w w.heap.size a n xs) (h2 : SlC w w.heap.size a' n xs) :
    Calls Tryz.prog 20 #[.slice a n cap, .slice a' n cap'] w fun e w' => e = .returned (.bool true) ∧ Below w.heap.size w w' := by
  obtain ⟨hx, h1⟩ := h1
  obtain ⟨_, h2⟩ := h2
  rcases h1 with rfl | ⟨b, off, rfl, hb, h1⟩
  · exact eqCellS_none w a a' cap cap'
  · rcases h2 with rfl | ⟨b', off', rfl, hb', h2⟩
    · exact eqCellS_none w _ a' cap cap'
    · exact eqCellS_some w b off cap b' off' cap' n xs hx hn h1 hb h2 hb'
theorem flat2 : ∀ (xs : List C2) (i : Nat) (s : C2) (j : Nat), xs[i]? = some s → j < 2 → (xs.flatMap C2.cells)[i * 2 + j]? = s.cells[j]?
  | [], i, s, j, h, _ => by simp at h
  | x :: xs, 0, s, j, h, hj => by
    simp at h
    subst h
    rw [List.flatMap_cons, List.getElem?_append_left (by simp [C2.cells]; omega)]
    simp
  | x :: xs, i + 1, s, j, h, hj => by
    have hl : x.cells.length = 2 := rfl
    rw [List.flatMap_cons, List.getElem?_append_right (by rw [hl]; omega), hl, show (i + 1) * 2 + j - 2 = i * 2 + j by omega]
    exact flat2 xs i s j (by simpa using h) hj
theorem flat2_len (xs : List C2) : (xs.flatMap C2.cells).length = xs.length * 2 := by
  induction xs with
  | nil => rfl
  | cons s xs ih => rw [List.flatMap_cons, List.length_append, ih]; simp [C2.cells]; omega
end Go.Proofs.YtdmpobegobfpjaaGreat
namespace Go.Proofs.YtdmpobegobfpjaaGreat
open Go.RowKit
theorem bstep {A X Y : World} (h : Below A.heap.size A X) (b : Below X.heap.size X Y) : Below A.heap.size A Y := h.trans (b.mono h.size)
def Bx (X : World) (s : Nat) (cs : List Value) : Prop := (∀ j u, cs[j]? = some u → X.cell? ⟨s, j, none⟩ = some u) ∧ (∀ j, X.frozen? ⟨s, j, none⟩ = false) ∧ s < X.heap.size
theorem Bx.of_block {X Y : World} {s : Nat} {cs : List Value} (h : Bx X s cs) (hb : Y.heap[s]? = X.heap[s]?) (hs : X.heap.size ≤ Y.heap.size) : Bx Y s cs :=
  ⟨fun j u e => (World.cell?_of_block (a := ⟨s, j, none⟩) hb).trans (h.1 j u e), fun j => (World.frozen?_of_block (a := ⟨s, j, none⟩) hb).trans (h.2.1 j), Nat.lt_of_lt_of_le h.2.2 hs⟩
theorem Bx.later {X Y : World} {s : Nat} {cs : List Value} (h : Bx X s cs) (hb : Below X.heap.size X Y) : Bx Y s cs := h.of_block (hb.block _ h.2.2) hb.size
theorem Bx.under {X Y : World} {B s : Nat} {cs : List Value} (h : Bx X s cs) (hb : Below B X Y) (hs : s < B) : Bx Y s cs := h.of_block (hb.block _ hs) hb.size
theorem Bx.far {X : World} {s b o : Nat} {cs : List Value} (h : Bx X s cs) (hb : s ≠ b) (u : Value) : Bx (X.setCell ⟨b, o, none⟩ u) s cs := h.of_block (Below.heap_setCell _ _ _ _ hb) (by simp [World.setCell])
theorem Bx.set {X : World} {s i : Nat} {cs : List Value} (h : Bx X s cs) (hi : i < cs.length) (u : Value) : Bx (X.setCell ⟨s, i, none⟩ u) s (cs.set i u) := by
  refine ⟨fun j v e => ?_, fun j => by rw [World.frozen?_setCell]; exact h.2.1 j, by simpa [World.setCell] using h.2.2⟩
  by_cases hj : i = j
  · subst hj
    rw [List.getElem?_set_self hi] at e
    obtain rfl := Option.some.inj e
    exact cell_set_same (h.1 i _ (List.getElem?_eq_getElem hi))
  · rw [List.getElem?_set_ne hj] at e
    exact (cell_set_other (by omega)).trans (h.1 j v e)
def putB (X : World) (s : Nat) : Nat → List Value → World
  | _, [] => X
  | i, c :: cs => putB (X.setCell ⟨s, i, none⟩ c) s (i + 1) cs
theorem putB_size (s : Nat) (cs : List Value) : ∀ (X : World) (i : Nat), (putB X s i cs).heap.size = X.heap.size := by
  induction cs with
  | nil => intro X i; rfl
  | cons c cs ih => intro X i; rw [putB, ih]; simp [World.setCell]
theorem putB_block {s q : Nat} (hq : q ≠ s) (cs : List Value) : ∀ (X : World) (i : Nat), (putB X s i cs).heap[q]? = X.heap[q]? := by
  induction cs with
  | nil => intro X i; rfl
  | cons c cs ih => intro X i; rw [putB, ih]; exact Below.heap_setCell _ _ _ _ hq
theorem putB_below {B s : Nat} {w : World} (hs : B ≤ s) (cs : List Value) : ∀ (X : World) (i : Nat), Below B w X → Below B w (putB X s i cs) := by
  induction cs with
  | nil => intro X i h; exact h
  | cons c cs ih => intro X i h; exact ih _ _ (h.setCell (p := ⟨s, i, none⟩) hs _)
theorem putB_frozen {s q j : Nat} (cs : List Value) : ∀ (X : World) (i : Nat), (putB X s i cs).frozen? ⟨q, j, none⟩ = X.frozen? ⟨q, j, none⟩ := by
  induction cs with
  | nil => intro X i; rfl
  | cons c cs ih => intro X i; rw [putB, ih, World.frozen?_setCell]
theorem putB_low {s j : Nat} (cs : List Value) : ∀ (X : World) (i : Nat), j < i → (putB X s i cs).cell? ⟨s, j, none⟩ = X.cell? ⟨s, j, none⟩ := by
  induction cs with
  | nil => intro X i _; rfl
  | cons c cs ih => intro X i h; rw [putB, ih _ _ (by omega)]; exact cell_set_other (by omega)
theorem putB_cell {s : Nat} (cs : List Value) : ∀ (X : World) (i : Nat), (∀ j, i ≤ j → j < i + cs.length → ∃ v, X.cell? ⟨s, j, none⟩ = some v) → ∀ j u, cs[j]? = some u → (putB X s i cs).cell? ⟨s, i + j, none⟩ = some u := by
  induction cs with
  | nil => intro X i _ j u e; simp at e
  | cons c cs ih =>
    intro X i h j u e
    rw [putB]
    rcases j with _ | j
    · simp at e
      subst e
      obtain ⟨v, hv⟩ := h i (Nat.le_refl _) (by simp)
      rw [Nat.add_zero, putB_low _ _ _ (by omega)]
      exact cell_set_same hv
    · have := ih (X.setCell ⟨s, i, none⟩ c) (i + 1) (fun j h1 h2 => by
        obtain ⟨v, hv⟩ := h j (by omega) (by simp only [List.length_cons]; omega)
        exact ⟨v, (cell_set_other (by omega)).trans hv⟩) j u (by simpa using e)
      rwa [show i + 1 + j = i + (j + 1) by omega] at this
theorem Bx.put {X : World} {s : Nat} {cs0 : List Value} (h : Bx X s cs0) (cs : List Value) (hl : cs.length = cs0.length) : Bx (putB X s 0 cs) s cs := by
  refine ⟨fun j u e => ?_, fun j => by rw [putB_frozen]; exact h.2.1 j, by rw [putB_size]; exact h.2.2⟩
  have := putB_cell (s := s) cs X 0 (fun j _ h2 => ⟨_, h.1 j _ (List.getElem?_eq_getElem (by omega))⟩) j u e
  rwa [Nat.zero_add] at this
theorem Bx.made (X : World) (cs : List Value) (T : TypeId) : Bx (X.alloc (.cells cs.toArray T)) X.heap.size cs := ⟨fun j u e => by go_simp, fun j => by go_simp, by simp⟩
end Go.Proofs.YtdmpobegobfpjaaGreat
namespace Go.Proofs.YtdmpobegobfpjaaGreat
def lateB (n : Nat) (Z : Nat → Bool) (L : Array Bool) : Bool := (List.range n).any fun z => Z z && L.getD z false
theorem lateB_set {n : Nat} {Z : Nat → Bool} {L : Array Bool} {i : Nat} (hz : Z i = false) : lateB n Z (L.setIfInBounds i true) = lateB n Z L := by
  unfold lateB
  congr 1
  funext z
  by_cases e : i = z
  · subst e; simp [hz]
  · rw [getD_set_ne false e]
def wpZ (P : Program) (md : Region.Mode) (ops : Array Oper) (Q : Exit → Act → World → Prop) (S : World → Prop) (Z : Nat → Bool) : Nat → Array Bool → Act → World → Prop
  | 0, L, a, w => Region.ready md ops L = [] ∧ Q .normal a w
  | f + 1, L, a, w => (Region.ready md ops L = [] → Q .normal a w) ∧ ∀ i ∈ Region.ready md ops L, wpOp P ops Q i (fun a' w' => (lateB ops.size Z (L.setIfInBounds i true) = false → S w') ∧ wpZ P md ops Q S Z f (L.setIfInBounds i true) a' w') a w
theorem wpAny_of_z {P : Program} {ops : Array Oper} {Q : Exit → Act → World → Prop} {md : Region.Mode} {S : World → Prop} {Z : Nat → Bool} : ∀ (f : Nat) (L : Array Bool) (a : Act) (w : World), wpZ P md ops Q S Z f L a w → wpAny P md ops Q f L a w := by
  intro f
  induction f with
  | zero => exact fun _ _ _ h => h
  | succ f ih => exact fun L a w h => ⟨h.1, fun i hi => wpOp_mono (fun a' w' k => ih _ a' w' k.2) (h.2 i hi)⟩
def waitsZ (md : Region.Mode) (ops : Array Oper) (s i : Nat) : Bool := match ops[s]? with
  | some o => o.after.any fun e => Region.binds md e && e.on == i
  | none => false
theorem not_readyZ {md : Region.Mode} {ops : Array Oper} {i j : Nat} {oj : Oper} {L : Array Bool} (hr : i ∈ Region.ready md ops L) (hall : ∀ e ∈ oj.after, Region.binds md e = true → L.getD e.on false = true) (hj : ops[j]? = some oj) (hw : waitsZ md ops j i = true) : False := by
  simp only [waitsZ, hj, Array.any_eq_true, Bool.and_eq_true, beq_iff_eq] at hw
  obtain ⟨k, hk, hb, he⟩ := hw
  have h1 := hall _ (Array.getElem_mem hk) hb
  have h0 := (mem_ready.1 hr).1
  rw [he] at h1
  rcases Nat.lt_or_ge i L.size with h | h
  · simp [h] at h0 h1; rw [h0] at h1; cases h1
  · simp [Array.getElem?_eq_none h] at h1
def waitAll (md : Region.Mode) (ops : Array Oper) (Z : Nat → Bool) (i : Nat) : Bool := (List.range ops.size).all fun z => !Z z || waitsZ md ops z i
theorem waitAll_spec {md : Region.Mode} {ops : Array Oper} {Z : Nat → Bool} {i : Nat} (h : waitAll md ops Z i = true) {z : Nat} {o : Oper} (ho : ops[z]? = some o) (hz : Z z = true) : waitsZ md ops z i = true := by
  have hlt : z < ops.size := by
    rcases Nat.lt_or_ge z ops.size with h | h
    · exact h
    · rw [Array.getElem?_eq_none h] at ho; cases ho
  have := List.all_eq_true.1 h z (List.mem_range.2 hlt)
  simpa [hz] using this
theorem noWait {md : Region.Mode} {ops : Array Oper} {i j : Nat} {oj : Oper} {L : Array Bool} (hr : i ∈ Region.ready md ops L) (hall : ∀ e ∈ oj.after, Region.binds md e = true → L.getD e.on false = true) (hoj : ops[j]? = some oj) : ∀ x ∈ oj.after, Region.binds md x = true → x.on ≠ i := fun x hx hb he => not_readyZ hr hall hoj (by
  simp only [waitsZ, hoj, Array.any_eq_true, Bool.and_eq_true, beq_iff_eq]
  obtain ⟨k, hk, rfl⟩ := Array.getElem_of_mem hx
  exact ⟨k, hk, hb, he⟩)
theorem wpZ_first {P : Program} {ops : Array Oper} {Q : Exit → Act → World → Prop} {md : Region.Mode} {S : World → Prop} {Z : Nat → Bool} {i : Nat} {o : Oper} {v : Value} (ho : ops[i]? = some o) (hzi : Z i = false) (hw : waitAll md ops Z i = true) (hsel : ∀ (j : Nat) (o : Oper) cs b, ops[j]? = some o → o.op ≠ .select cs b) (hQ : ∀ c a w, Q (.panic c) (a.put o.dst v) w → Q (.panic c) a w) :
    ∀ (f : Nat) (L : Array Bool) (a : Act) (w : World), lateB ops.size Z L = false →
      (∀ j oj, ops[j]? = some oj → j ≠ i → L.getD j true = false → (∀ e ∈ oj.after, Region.binds md e = true → e.on ≠ i) → o.apart ops oj = true) →
      i ∈ Region.ready md ops L → YieldsIf P ops S o v a → S w → wpZ P md ops Q S Z f (L.setIfInBounds i true) (a.put o.dst v) w → wpZ P md ops Q S Z (f + 1) L a w := by
  intro f
  induction f with
  | zero =>
    intro L a w hL _ hr hy hS H
    refine ⟨fun h => absurd hr (by rw [h]; simp), fun j hj => ?_⟩
    by_cases e : j = i
    · rw [e]; exact hy.wpOp ho hS ⟨fun _ => hS, H⟩
    · have := ready_mono hj e
      rw [H.1] at this
      cases this
  | succ f ih =>
    intro L a w hL hfree hr hy hS H
    refine ⟨fun h => absurd hr (by rw [h]; simp), fun j hj => ?_⟩
    by_cases e : j = i
    · rw [e]; exact hy.wpOp ho hS ⟨fun _ => hS, H⟩
    · obtain ⟨hun, oj, hoj, hall⟩ := mem_ready.1 hj
      have hjs : Z j = false := by
        cases hz : Z j with
        | false => rfl
        | true => exact (not_readyZ hr hall hoj (waitAll_spec hw hoj hz)).elim
      have step := wpOp_putIf hoj (hfree j oj hoj e hun (noWait hr hall hoj)) (fun cs b => hsel i o cs b ho) (fun cs b => hsel j oj cs b hoj) hQ hy (H.2 j (ready_mono hj e))
      refine wpOp_mono (fun a' w' k => ?_) step
      have hS' : S w' := k.2.1 (by rw [lateB_set hjs, lateB_set hzi]; exact hL)
      refine ⟨fun _ => hS', ih _ a' w' (by rw [lateB_set hjs]; exact hL) (fun x ox hx hxi hxu hxn => hfree x ox hx hxi ?_ hxn) (ready_mono hr (Ne.symm e)) k.1 hS' ?_⟩
      · by_cases h : j = x
        · rw [← h]; exact hun
        · rw [getD_set_ne true h] at hxu; exact hxu
      · rw [Array.setIfInBounds_comm _ _ e]; exact k.2.2
theorem wpZ_pure {P : Program} {ops : Array Oper} {Q : Exit → Act → World → Prop} {md : Region.Mode} {S : World → Prop} {Z : Nat → Bool} {i : Nat} {o : Oper} {v : Value} (ho : ops[i]? = some o) (hzi : Z i = false) (hsel : ∀ (j : Nat) (o : Oper) cs b, ops[j]? = some o → o.op ≠ .select cs b) (hQ : ∀ c a w, Q (.panic c) (a.put o.dst v) w → Q (.panic c) a w) :
    ∀ (f : Nat) (L : Array Bool) (a : Act) (w : World),
      (∀ j oj, ops[j]? = some oj → j ≠ i → L.getD j true = false → (∀ e ∈ oj.after, Region.binds md e = true → e.on ≠ i) → o.apart ops oj = true) →
      i ∈ Region.ready md ops L → YieldsIf P ops (fun _ => True) o v a → (lateB ops.size Z L = false → S w) → wpZ P md ops Q S Z f (L.setIfInBounds i true) (a.put o.dst v) w → wpZ P md ops Q S Z (f + 1) L a w := by
  intro f
  induction f with
  | zero =>
    intro L a w _ hr hy hS H
    refine ⟨fun h => absurd hr (by rw [h]; simp), fun j hj => ?_⟩
    by_cases e : j = i
    · rw [e]; exact hy.wpOp ho trivial ⟨fun h => hS (by rw [← lateB_set hzi]; exact h), H⟩
    · have := ready_mono hj e
      rw [H.1] at this
      cases this
  | succ f ih =>
    intro L a w hfree hr hy hS H
    refine ⟨fun h => absurd hr (by rw [h]; simp), fun j hj => ?_⟩
    by_cases e : j = i
    · rw [e]; exact hy.wpOp ho trivial ⟨fun h => hS (by rw [← lateB_set hzi]; exact h), H⟩
    · obtain ⟨hun, oj, hoj, hall⟩ := mem_ready.1 hj
      have step := wpOp_putIf hoj (hfree j oj hoj e hun (noWait hr hall hoj)) (fun cs b => hsel i o cs b ho) (fun cs b => hsel j oj cs b hoj) hQ hy (H.2 j (ready_mono hj e))
      refine wpOp_mono (fun a' w' k => ?_) step
      have hS' : lateB ops.size Z (L.setIfInBounds j true) = false → S w' := fun h => k.2.1 (by rw [Array.setIfInBounds_comm _ _ (Ne.symm e), lateB_set hzi]; exact h)
      refine ⟨hS', ih _ a' w' (fun x ox hx hxi hxu hxn => hfree x ox hx hxi ?_ hxn) (ready_mono hr (Ne.symm e)) k.1 hS' ?_⟩
      · by_cases h : j = x
        · rw [← h]; exact hun
        · rw [getD_set_ne true h] at hxu; exact hxu
      · rw [Array.setIfInBounds_comm _ _ e]; exact k.2.2
theorem wpZ_take {P : Program} {ops : Array Oper} {Q : Exit → Act → World → Prop} {md : Region.Mode} {S : World → Prop} {Z : Nat → Bool} {i : Nat} {o : Oper} {v : Value} {f : Nat} {L : Array Bool} {a : Act} {w : World} (ho : ops[i]? = some o) (hc : (!Z i && !lateB ops.size Z L && waitAll md ops Z i && Region.noSelect ops && Region.free md ops L i && (Region.ready md ops L).contains i) = true)
    (hQ : ∀ c a w, Q (.panic c) (a.put o.dst v) w → Q (.panic c) a w) (hy : YieldsIf P ops S o v a) (hS : S w) (h : wpZ P md ops Q S Z f (L.setIfInBounds i true) (a.put o.dst v) w) : wpZ P md ops Q S Z (f + 1) L a w := by
  simp only [Bool.and_eq_true, Bool.not_eq_true'] at hc
  obtain ⟨⟨⟨⟨⟨h0, hl⟩, h1⟩, h2⟩, h3⟩, h4⟩ := hc
  exact wpZ_first ho h0 h1 (Region.noSelect_spec h2) hQ f L a w hl (Region.free_spec ho h3) (by simpa using h4) hy hS h
theorem wpZ_takeP {P : Program} {ops : Array Oper} {Q : Exit → Act → World → Prop} {md : Region.Mode} {S : World → Prop} {Z : Nat → Bool} {i : Nat} {o : Oper} {v : Value} {f : Nat} {L : Array Bool} {a : Act} {w : World} (ho : ops[i]? = some o) (hc : (!Z i && Region.noSelect ops && Region.free md ops L i && (Region.ready md ops L).contains i) = true)
    (hQ : ∀ c a w, Q (.panic c) (a.put o.dst v) w → Q (.panic c) a w) (hy : YieldsIf P ops (fun _ => True) o v a) (hS : S w) (h : wpZ P md ops Q S Z f (L.setIfInBounds i true) (a.put o.dst v) w) : wpZ P md ops Q S Z (f + 1) L a w := by
  simp only [Bool.and_eq_true, Bool.not_eq_true'] at hc
  obtain ⟨⟨⟨h0, h2⟩, h3⟩, h4⟩ := hc
  exact wpZ_pure ho h0 (Region.noSelect_spec h2) hQ f L a w (Region.free_spec ho h3) (by simpa using h4) hy (fun _ => hS) h
def AllZ (P : Program) (md : Region.Mode) (ops : Array Oper) (Q : Exit → Act → World → Prop) (S : World → Prop) (Z : Nat → Bool) (f : Nat) (L : Array Bool) (a : Act) (w : World) (rs : List Nat) : Prop :=
  ∀ i ∈ rs, wpOp P ops Q i (fun a' w' => (lateB ops.size Z (L.setIfInBounds i true) = false → S w') ∧ wpZ P md ops Q S Z f (L.setIfInBounds i true) a' w') a w
theorem AllZ.nil {P : Program} {ops : Array Oper} {Q : Exit → Act → World → Prop} {md : Region.Mode} {S : World → Prop} {Z : Nat → Bool} {f : Nat} {L : Array Bool} {a : Act} {w : World} : AllZ P md ops Q S Z f L a w [] := fun _ h => by cases h
theorem AllZ.cons {P : Program} {ops : Array Oper} {Q : Exit → Act → World → Prop} {md : Region.Mode} {S : World → Prop} {Z : Nat → Bool} {f : Nat} {L : Array Bool} {a : Act} {w : World} {i : Nat} {o : Oper} {rs : List Nat} (ho : ops[i]? = some o)
    (h : ∀ K' : Act → World → Prop, Shut (∀ a w, (lateB ops.size Z (L.setIfInBounds i true) = false → S w) → wpZ P md ops Q S Z f (L.setIfInBounds i true) a w → K' a w) → if Region.wanted o (yielded ops a.tmps) = true then Oper.wp P o a w K' Q else K' (a.put o.dst undef) w)
    (hs : AllZ P md ops Q S Z f L a w rs) : AllZ P md ops Q S Z f L a w (i :: rs) := fun j hj => by
  rcases List.mem_cons.1 hj with rfl | hj
  · exact wpOp_step ho (fun K' hK => h K' (fun a w hS hW => hK a w ⟨hS, hW⟩))
  · exact hs j hj
theorem wpZ_ready {P : Program} {ops : Array Oper} {Q : Exit → Act → World → Prop} {md : Region.Mode} {S : World → Prop} {Z : Nat → Bool} {rs : List Nat} {f : Nat} {L : Array Bool} {a : Act} {w : World} (hr : Region.ready md ops L = rs) (hne : rs ≠ []) (h : AllZ P md ops Q S Z f L a w rs) : wpZ P md ops Q S Z (f + 1) L a w :=
  ⟨fun h0 => absurd (hr.symm.trans h0) hne, fun i hi => h i (by rw [← hr]; exact hi)⟩
theorem wpZ_done {P : Program} {ops : Array Oper} {Q : Exit → Act → World → Prop} {md : Region.Mode} {S : World → Prop} {Z : Nat → Bool} {L : Array Bool} {a : Act} {w : World} (hr : Region.ready md ops L = []) (h : Q .normal a w) (f : Nat) : wpZ P md ops Q S Z f L a w := by
  cases f with
  | zero => exact ⟨hr, h⟩
  | succ f => exact ⟨fun _ => h, fun i hi => by rw [hr] at hi; cases hi⟩
theorem wp_region_z {P : Program} {ops : Array Oper} {Q : Exit → Act → World → Prop} {id : Nat} {a : Act} {w : World} (Z : Nat → Bool) (S : World → Prop) (hm : P.follows .mixedOrders = true) (h : wpZ P .any ops Q S Z ops.size (Array.replicate ops.size false) a w.drew) : (Code.region id ops true).wp P Q a w :=
  wp_region_any hm (wpAny_of_z _ _ _ _ h)
end Go.Proofs.YtdmpobegobfpjaaGreat
namespace Go.Proofs.YtdmpobegobfpjaaGreat
open Go.RowKit
theorem below_dn {B : Nat} {a w : World} (h : Below B a w) (n : Nat) : Below B a (w.drewN n) := ⟨h.os, h.tape, h.output, h.size, h.block⟩
def NumsAt (w : World) (b off : Nat) (zs : List Int) : Prop := ∀ i z, zs[i]? = some z → w.cell? ⟨b, off + i, none⟩ = some (.int .i64 z)
theorem NumsAt.below {w w' : World} {B b off : Nat} {zs : List Int} (h : NumsAt w b off zs) (hb : Below B w w') (hB : b < B) : NumsAt w' b off zs := fun i z e => by rw [hb.cell (p := ⟨b, off + i, none⟩) hB]; exact h i z e
def SlN (w : World) (B : Nat) (a : Option Addr) (n : Nat) (zs : List Int) : Prop := zs.length = n ∧ (n = 0 ∨ ∃ b off, a = some ⟨b, off, none⟩ ∧ b < B ∧ NumsAt w b off zs)
theorem SlN.later {w w' : World} {a : Option Addr} {n : Nat} {zs : List Int} (h : SlN w w.heap.size a n zs) (hb : Below w.heap.size w w') : SlN w' w'.heap.size a n zs := by
  obtain ⟨h1, h2⟩ := h
  refine ⟨h1, ?_⟩
  rcases h2 with h2 | ⟨b, off, ha, hB, hx⟩
  · exact .inl h2
  · exact .inr ⟨b, off, ha, Nat.lt_of_lt_of_le hB hb.size, hx.below hb hB⟩
def atN (zs : List Int) (i : Nat) : Int := zs[i]?.getD 0
theorem atN_of {zs : List Int} {i : Nat} (h : i < zs.length) : zs[i]? = some (atN zs i) := by simp [atN, List.getElem?_eq_getElem h]
def hasB (zs : List Int) (z : Int) : Bool := zs.any (fun y => decide (y = z))
theorem has_yes {zs : List Int} {z : Int} {i : Nat} (hi : i < zs.length) (h : atN zs i = z) : hasB zs z = true := by
  rw [hasB, List.any_eq_true]
  exact ⟨atN zs i, List.mem_of_getElem? (atN_of hi), by simp [h]⟩
theorem has_no {zs : List Int} {z : Int} (h : ∀ i, i < zs.length → atN zs i ≠ z) : hasB zs z = false := by
  rw [hasB, List.any_eq_false]
  intro y hy
  obtain ⟨i, hi, rfl⟩ := List.getElem_of_mem hy
  have := h i hi
  rw [atN, List.getElem?_eq_getElem hi] at this
  simpa using this
set_option maxHeartbeats 1000000 in
theorem make_nums (n : Nat) (hn : n ≤ 1048576) (w : World) : (Instr.makeSlice 28 (.int .i64 (n : Int)) (.int .i64 (n : Int))).run Tryz.prog w = .ok (.slice (some ⟨w.heap.size, 0, none⟩) n n) (w.alloc (.cells (madeCells #[.int .i64 0] n) 2)) := by
  have info : (Tryz.prog.info? 2).map (fun i => (i.zero, i.size, i.bytes)) = some (some (.int .i64 0), 1, 8) := by kernel_rfl
  obtain ⟨i, hi, hzz⟩ := Option.map_eq_some_iff.1 info
  simp only [Prod.mk.injEq] at hzz
  obtain ⟨hz, hs, hb⟩ := hzz
  have := run_make (P := Tryz.prog) w 28 2 i _ Tryz.underlying28 hi hz .i64 .i64 (n : Int) (n : Int) (by omega) (by omega) (by rw [hb]; omega) (by omega)
  rw [hs] at this
  simpa [Value.cells] using this
theorem NumsAt.put {w : World} {b k : Nat} {zs : List Int} {z : Int} (h : NumsAt w b 0 (zs.take k)) (hz : zs[k]? = some z) {v : Value} (hv : w.cell? ⟨b, k, none⟩ = some v) : NumsAt (w.setCell ⟨b, k, none⟩ (.int .i64 z)) b 0 (zs.take (k + 1)) := by
  intro i t e
  rw [List.getElem?_take] at e
  split at e
  · rename_i hi
    by_cases hik : i = k
    · subst hik
      rw [hz] at e
      obtain rfl := Option.some.inj e
      simpa using cell_set_same hv
    · have := h i t (by rw [List.getElem?_take, if_pos (by omega)]; exact e)
      rw [cell_set_other (by omega)]; exact this
  · cases e
set_option maxHeartbeats 1000000 in
theorem toInt64S_any (w : World) (a : Option Addr) (n cap : Nat) (zs : List Int) (hn : n ≤ 1048576) (hs : SlN w w.heap.size a n zs) : Calls Tryz.prog 105 #[.slice a n cap] w fun e w' =>
    e = .returned (.slice (some ⟨w.heap.size, 0, none⟩) n n) ∧ Below w.heap.size w w' ∧ w.heap.size < w'.heap.size ∧ NumsAt w' w.heap.size 0 zs ∧ Room w' w.heap.size n := by
  obtain ⟨hx, hs⟩ := hs
  have hmk := make_nums n hn
  go_enter Tryz.func105, Tryz.ntmps105
  go_wp2
  go_loopw [4] (fun i wr => ∃ k : Nat, k ≤ n ∧ i = .int .i64 k ∧ Below w.heap.size w wr ∧ w.heap.size < wr.heap.size ∧ Room wr w.heap.size n ∧ NumsAt wr w.heap.size 0 (zs.take k)) (fun i _ => n - (intOf i).toNat)
  case atStart => exact ⟨0, Nat.zero_le _, rfl, (Below.refl _ _).alloc (Nat.le_refl _) _, by simp, room_made _ _ _ _, fun i s e => by simp at e⟩
  case round =>
    obtain ⟨k, hk, rfl, hbl, hsz, hro, hdo⟩ := hrel
    by_cases hlt : k < n
    · rcases hs with hs | ⟨b, off, rfl, hb, h1⟩
      · omega
      · have c := (hbl.cell (p := ⟨b, off + k, none⟩) hb).trans (h1 k _ (atN_of (by omega)))
        obtain ⟨v, d, f⟩ := hro k hlt
        have K : Hid (Room wr w.heap.size n ∧ NumsAt wr w.heap.size 0 (zs.take k) ∧ zs[k]? = some (atN zs k) ∧ Below w.heap.size w wr) := ⟨hro, hdo, atN_of (by omega), hbl⟩
        clear hro hdo hbl hmk h1 hx
        go_wp2
        obtain ⟨hro, hdo, hz, hbl⟩ := K.out
        exact ⟨⟨k + 1, by omega, by simp, hbl.setCell (p := ⟨w.heap.size, k, none⟩) (Nat.le_refl _) _, by simpa [World.setCell] using hsz, hro.set _, hdo.put hz d⟩, by simp [intOf]; omega⟩
    · have : k = n := by omega
      subst this
      have hd : decide (k < k) = false := by simp
      rw [← hx, List.take_length] at hdo
      have K : Hid (NumsAt wr w.heap.size 0 zs ∧ Room wr w.heap.size k) := ⟨hdo, hro⟩
      clear hdo hs hro
      go_wp2
      go_ret
      exact ⟨rfl, hbl, hsz, K.out.1, K.out.2⟩
set_option maxHeartbeats 1000000 in
theorem eqInt64S_any (w : World) (a a' : Option Addr) (n cap cap' : Nat) (zs : List Int) (hn : n ≤ maxLen) (h1 : SlN w w.heap.size a n zs) (h2 : SlN w w.heap.size a' n zs) :
    Calls Tryz.prog 11 #[.slice a n cap, .slice a' n cap'] w fun e w' => e = .returned (.bool true) ∧ Below w.heap.size w w' := by
  unfold maxLen at hn
  obtain ⟨hx, h1⟩ := h1
  obtain ⟨_, h2⟩ := h2
  go_enter Tryz.func11, Tryz.ntmps11
  go_wp2
  go_loopw [5] (fun i wr => ∃ k : Nat, k ≤ n ∧ i = .int .i64 k ∧ Below w.heap.size w wr) (fun i _ => n - (intOf i).toNat)
  case atStart => exact ⟨0, Nat.zero_le _, rfl, Below.refl _ _⟩
  case round =>
    obtain ⟨k, hk, rfl, hbl⟩ := hrel
    by_cases hlt : k < n
    · rcases h1 with h1 | ⟨b, off, rfl, hb, h1⟩
      · omega
      · rcases h2 with h2 | ⟨b', off', rfl, hb', h2⟩
        · omega
        · have c1 := (hbl.cell (p := ⟨b, off + k, none⟩) hb).trans (h1 k _ (atN_of (by omega)))
          have c2 := (hbl.cell (p := ⟨b', off' + k, none⟩) hb').trans (h2 k _ (atN_of (by omega)))
          have hlt' : (k : Int) < (n : Int) := by omega
          have K : Hid (Below w.heap.size w wr) := hbl
          clear h1 h2 hbl hx
          go_wp2_with fail
          go_quiet (fail)
          go_wp2
          exact ⟨⟨k + 1, by omega, by simp, below_dn K.out _⟩, by simp [intOf]; omega⟩
    · have : k = n := by omega
      subst this
      have hd : decide (k < k) = false := by simp
      clear h1 h2
      go_wp2
      go_ret
      exact ⟨rfl, hbl⟩
def inB (lo hi x : Int) : Bool := decide (lo ≤ x) && decide (x ≤ hi)
theorem inB_yes {lo hi x : Int} (h : lo ≤ x) (h' : x ≤ hi) : inB lo hi x = true := by simp [inB, h, h']
theorem inB_iff {lo hi x : Int} : inB lo hi x = true ↔ lo ≤ x ∧ x ≤ hi := by simp [inB]
theorem ret_bool {b b' : Bool} (h : b = true ↔ b' = true) : Ending.returned (Value.bool b) = Ending.returned (Value.bool b') := by rw [Bool.eq_iff_iff.2 h]
theorem specIn (w : World) (x lo hi : Int) : Calls Tryz.prog 43 #[.int .i64 x, .int .i64 lo, .int .i64 hi] w fun e w' => e = .returned (.bool (inB lo hi x)) ∧ w' = w := by
  go_enter Tryz.func43, Tryz.ntmps43
  go_wp2
  all_goals (go_ret; refine ⟨ret_bool ?_, rfl⟩; simp [inB_iff]; try omega)
structure S5 where
  region : Int
  slot : Int
  value : Int
  used : Bool
  version : Int
def setOkB (s : S5) : Bool := inB 0 5 s.region && inB 0 5 s.slot && inB (-1000000000) 1000000000 s.value && inB 0 999999 s.version
theorem specRegion (w : World) (x : Int) : Calls Tryz.prog 99 #[.int .i64 x] w fun e w' => e = .returned (.bool (inB 0 5 x)) ∧ w' = w := by
  go_enter Tryz.func99, Tryz.ntmps99
  go_wp2_with (go_at_call 43; refine (specIn _ _ _ _).mono ?_; rintro e w' ⟨rfl, rfl⟩)
  go_ret
  exact ⟨rfl, rfl⟩
theorem specSlot (w : World) (x : Int) : Calls Tryz.prog 149 #[.int .i64 x] w fun e w' => e = .returned (.bool (inB 0 5 x)) ∧ w' = w := by
  go_enter Tryz.func149, Tryz.ntmps149
  go_wp2_with (go_at_call 43; refine (specIn _ _ _ _).mono ?_; rintro e w' ⟨rfl, rfl⟩)
  go_ret
  exact ⟨rfl, rfl⟩
theorem specValue (w : World) (x : Int) : Calls Tryz.prog 147 #[.int .i64 x] w fun e w' => e = .returned (.bool (inB (-1000000000) 1000000000 x)) ∧ w' = w := by
  go_enter Tryz.func147, Tryz.ntmps147
  go_wp2_with (go_at_call 43; refine (specIn _ _ _ _).mono ?_; rintro e w' ⟨rfl, rfl⟩)
  go_ret
  exact ⟨rfl, rfl⟩
theorem implRegion (w : World) (x : Int) : Calls Tryz.prog 182 #[.int .i64 x] w fun e w' => e = .returned (.bool (inB 0 5 x)) ∧ w' = w := by
  go_enter Tryz.func182, Tryz.ntmps182
  go_wp2
  all_goals (go_ret; refine ⟨ret_bool ?_, rfl⟩; simp [inB_iff]; try omega)
theorem implSlot (w : World) (x : Int) : Calls Tryz.prog 219 #[.int .i64 x] w fun e w' => e = .returned (.bool (inB 0 5 x)) ∧ w' = w := by
  go_enter Tryz.func219, Tryz.ntmps219
  go_wp2
  all_goals (go_ret; refine ⟨ret_bool ?_, rfl⟩; simp [inB_iff]; try omega)
theorem implValue (w : World) (x : Int) : Calls Tryz.prog 221 #[.int .i64 x] w fun e w' => e = .returned (.bool (inB (-1000000000) 1000000000 x)) ∧ w' = w := by
  go_enter Tryz.func221, Tryz.ntmps221
  go_wp2
  all_goals (go_ret; refine ⟨ret_bool ?_, rfl⟩; simp [inB_iff]; try omega)
set_option maxHeartbeats 1000000 in
theorem toSet_any (w : World) (s : S5) : Calls Tryz.prog 154 #[.agg #[.int .i64 s.region, .int .i64 s.slot, .int .i64 s.value, .bool s.used, .int .i64 s.version]] w fun e w' =>
    e = .returned (.agg #[.int .i64 s.region, .int .i64 s.slot, .int .i64 s.value, .bool s.used, .int .i64 s.version]) ∧ Below w.heap.size w w' := by
  obtain ⟨r, l, v, u, x⟩ := s
  go_enter Tryz.func154, Tryz.ntmps154
  go_wp2
  refine bodyPost_ret (v := .agg #[.int .i64 r, .int .i64 l, .int .i64 v, .bool u, .int .i64 x]) (by simp [results, Tryz.results154, go_sem]) rfl ⟨rfl, ?_⟩
  exact (((Below.refl _ _).alloc (Nat.le_refl _) _).alloc (by simp) _).alloc (by simp; omega) _
theorem specSetOk (w : World) (s : S5) : Calls Tryz.prog 104 #[.agg #[.int .i64 s.region, .int .i64 s.slot, .int .i64 s.value, .bool s.used, .int .i64 s.version]] w fun e w' => e = .returned (.bool (setOkB s)) ∧ Below w.heap.size w w' := by
  obtain ⟨r, l, v, u, x⟩ := s
  go_enter Tryz.func104, Tryz.ntmps104
  cases h1 : inB 0 5 r <;> cases h2 : inB 0 5 l <;> cases h3 : inB (-1000000000) 1000000000 v
  all_goals go_wp2_with (first | (go_at_call 43; refine (specIn _ _ _ _).mono ?_; rintro e w' ⟨rfl, rfl⟩) | (go_at_call 99; refine (specRegion _ _).mono ?_; rintro e w' ⟨rfl, rfl⟩) | (go_at_call 149; refine (specSlot _ _).mono ?_; rintro e w' ⟨rfl, rfl⟩) | (go_at_call 147; refine (specValue _ _).mono ?_; rintro e w' ⟨rfl, rfl⟩))
  all_goals (go_ret; refine ⟨ret_bool ?_, (Below.refl _ _).alloc (Nat.le_refl _) _⟩; simp only [setOkB, h1, h2, h3, Bool.and_true, Bool.and_false, Bool.false_and, Bool.true_and]; try simp [inB_iff]; try omega)
theorem implSetOk (w : World) (s : S5) : Calls Tryz.prog 200 #[.agg #[.int .i64 s.region, .int .i64 s.slot, .int .i64 s.value, .bool s.used, .int .i64 s.version]] w fun e w' => e = .returned (.bool (setOkB s)) ∧ Below w.heap.size w w' := by
  obtain ⟨r, l, v, u, x⟩ := s
  go_enter Tryz.func200, Tryz.ntmps200
  cases h1 : inB 0 5 r <;> cases h2 : inB 0 5 l <;> cases h3 : inB (-1000000000) 1000000000 v
  all_goals go_wp2_with (first | (go_at_call 182; refine (implRegion _ _).mono ?_; rintro e w' ⟨rfl, rfl⟩) | (go_at_call 219; refine (implSlot _ _).mono ?_; rintro e w' ⟨rfl, rfl⟩) | (go_at_call 221; refine (implValue _ _).mono ?_; rintro e w' ⟨rfl, rfl⟩))
  all_goals (go_ret; refine ⟨ret_bool ?_, (Below.refl _ _).alloc (Nat.le_refl _) _⟩; simp only [setOkB, h1, h2, h3, Bool.and_true, Bool.and_false, Bool.false_and, Bool.true_and]; try simp [inB_iff]; try omega)
def marks : Nat → Int → List Int
  | 0, _ => []
  | n + 1, k => k :: marks n (k + 1)
theorem marks_len : ∀ (n : Nat) (k : Int), (marks n k).length = n
  | 0, _ => rfl
  | n + 1, k => by simp [marks, marks_len n]
theorem marks_at : ∀ (n : Nat) (k : Int) (i : Nat), i < n → (marks n k)[i]? = some (k + i)
  | 0, _, _, h => by omega
  | n + 1, k, 0, _ => by simp [marks]
  | n + 1, k, i + 1, h => by
    rw [marks, List.getElem?_cons_succ, marks_at n (k + 1) i (by omega)]
    congr 1; omega
set_option maxHeartbeats 1000000 in
theorem markInt64S_own (w : World) (g n cap : Nat) (k : Int) (hn : n ≤ 1048576) (hk : 0 ≤ k) (hk' : k ≤ 1000000000) (hr : Room w g n) :
    Calls Tryz.prog 14 #[.slice (some ⟨g, 0, none⟩) n cap, .int .i64 k] w fun e w' => e = .returned (.int .i64 (k + n)) ∧ OnlyBlock g w w' ∧ NumsAt w' g 0 (marks n k) ∧ Room w' g n := by
  go_enter Tryz.func14, Tryz.ntmps14
  go_wp2
  go_loopw [1, 5] (fun v1 v5 wr => ∃ j : Nat, j ≤ n ∧ v5 = .int .i64 j ∧ v1 = .int .i64 (k + j) ∧ OnlyBlock g w wr ∧ Room wr g n ∧ NumsAt wr g 0 ((marks n k).take j)) (fun _ v5 _ => n - (intOf v5).toNat)
  case atStart => exact ⟨0, Nat.zero_le _, rfl, by simp, OnlyBlock.refl _ _, hr, fun i s e => by simp at e⟩
  case round =>
    obtain ⟨j, hj, rfl, rfl, ho, hro, hdo⟩ := hrel
    by_cases hlt : j < n
    · obtain ⟨v, d, f⟩ := hro j hlt
      have K : Hid (OnlyBlock g w wr ∧ Room wr g n ∧ NumsAt wr g 0 ((marks n k).take j)) := ⟨ho, hro, hdo⟩
      clear ho hro hdo hr
      go_wp2
      obtain ⟨ho, hro, hdo⟩ := K.out
      exact ⟨⟨j + 1, by omega, by simp, by simp; omega, ho.setCell _ _, hro.set _, hdo.put (marks_at n k j hlt) d⟩, by simp [intOf]; omega⟩
    · have : j = n := by omega
      subst this
      have hd : decide ((j : Int) < (j : Int)) = false := by simp
      rw [show (marks j k).take j = marks j k from List.take_of_length_le (by rw [marks_len]; omega)] at hdo
      have K : Hid (OnlyBlock g w wr ∧ NumsAt wr g 0 (marks j k) ∧ Room wr g j) := ⟨ho, hdo, hro⟩
      clear ho hdo hro hr
      go_wp2
      go_ret
      exact ⟨by simp, K.out.1, K.out.2.1, K.out.2.2⟩
set_option maxHeartbeats 1000000 in
theorem markInt64S_none (w : World) (a : Option Addr) (cap : Nat) (k : Int) : Calls Tryz.prog 14 #[.slice a 0 cap, .int .i64 k] w fun e w' => e = .returned (.int .i64 k) ∧ w' = w := by
  go_enter Tryz.func14, Tryz.ntmps14
  go_wp2
  go_loop [1, 5] (fun v1 v5 => v5 = .int .i64 0 ∧ v1 = .int .i64 k) (fun _ _ => 0)
  case atStart => exact ⟨rfl, rfl⟩
  case round =>
    obtain ⟨rfl, rfl⟩ := hrel
    go_wp2
    go_ret
    exact ⟨rfl, rfl⟩
def PlsAt (w : World) (B b off : Nat) (zss : List (List Int)) : Prop := ∀ i zs, zss[i]? = some zs → ∃ a cap, w.cell? ⟨b, off + i, none⟩ = some (.slice a zs.length cap) ∧ SlN w B a zs.length zs ∧ zs.length ≤ cap
def SlP (w : World) (B : Nat) (a : Option Addr) (n : Nat) (zss : List (List Int)) : Prop := zss.length = n ∧ (n = 0 ∨ ∃ b off, a = some ⟨b, off, none⟩ ∧ b < B ∧ PlsAt w B b off zss)
theorem SlN.below {w w' : World} {B : Nat} {a : Option Addr} {n : Nat} {zs : List Int} (h : SlN w B a n zs) (hb : Below B w w') : SlN w' B a n zs := by
  obtain ⟨h1, h2⟩ := h
  refine ⟨h1, ?_⟩
  rcases h2 with h2 | ⟨b, off, ha, hB, hx⟩
  · exact .inl h2
  · exact .inr ⟨b, off, ha, hB, hx.below hb hB⟩
theorem SlN.mono {w : World} {B B' : Nat} {a : Option Addr} {n : Nat} {zs : List Int} (h : SlN w B a n zs) (hB : B ≤ B') : SlN w B' a n zs := by
  obtain ⟨h1, h2⟩ := h
  refine ⟨h1, ?_⟩
  rcases h2 with h2 | ⟨b, off, ha, hb, hx⟩
  · exact .inl h2
  · exact .inr ⟨b, off, ha, by omega, hx⟩
theorem PlsAt.below {w w' : World} {B b off : Nat} {zss : List (List Int)} (h : PlsAt w B b off zss) (hb : Below B w w') (hB : b < B) : PlsAt w' B b off zss := fun i zs e => by
  obtain ⟨a, cap, h1, h2, h3⟩ := h i zs e
  exact ⟨a, cap, (hb.cell (p := ⟨b, off + i, none⟩) hB).trans h1, h2.below hb, h3⟩
theorem PlsAt.mono {w : World} {B B' b off : Nat} {zss : List (List Int)} (h : PlsAt w B b off zss) (hB : B ≤ B') : PlsAt w B' b off zss := fun i zs e => by
  obtain ⟨a, cap, h1, h2, h3⟩ := h i zs e
  exact ⟨a, cap, h1, h2.mono hB, h3⟩
theorem SlP.below {w w' : World} {B : Nat} {a : Option Addr} {n : Nat} {zss : List (List Int)} (h : SlP w B a n zss) (hb : Below B w w') : SlP w' B a n zss := by
  obtain ⟨h1, h2⟩ := h
  refine ⟨h1, ?_⟩
  rcases h2 with h2 | ⟨b, off, ha, hB, hx⟩
  · exact .inl h2
  · exact .inr ⟨b, off, ha, hB, hx.below hb hB⟩
theorem SlP.mono {w : World} {B B' : Nat} {a : Option Addr} {n : Nat} {zss : List (List Int)} (h : SlP w B a n zss) (hB : B ≤ B') : SlP w B' a n zss := by
  obtain ⟨h1, h2⟩ := h
  refine ⟨h1, ?_⟩
  rcases h2 with h2 | ⟨b, off, ha, hb, hx⟩
  · exact .inl h2
  · exact .inr ⟨b, off, ha, by omega, hx.mono hB⟩
theorem SlP.later {w w' : World} {a : Option Addr} {n : Nat} {zss : List (List Int)} (h : SlP w w.heap.size a n zss) (hb : Below w.heap.size w w') : SlP w' w'.heap.size a n zss := (h.below hb).mono hb.size
def atP (zss : List (List Int)) (i : Nat) : List Int := zss[i]?.getD []
theorem atP_of {zss : List (List Int)} {i : Nat} (h : i < zss.length) : zss[i]? = some (atP zss i) := by simp [atP, List.getElem?_eq_getElem h]
def lens (zss : List (List Int)) : Nat := (zss.map List.length).sum
theorem lens_take_succ {zss : List (List Int)} {j : Nat} (h : j < zss.length) : lens (zss.take (j + 1)) = lens (zss.take j) + (atP zss j).length := by
  rw [List.take_add_one, atP_of h]; simp [lens]
theorem lens_take_le (zss : List (List Int)) (j : Nat) : lens (zss.take j) ≤ lens zss := by
  have e : lens zss = lens (zss.take j) + lens (zss.drop j) := by
    rw [lens, lens, lens, ← List.sum_append, ← List.map_append, List.take_append_drop]
  omega
theorem lens_mem {zss : List (List Int)} {zs : List Int} (h : zs ∈ zss) : zs.length ≤ lens zss := by
  obtain ⟨i, hi, rfl⟩ := List.getElem_of_mem h
  have h1 := lens_take_succ hi
  have h2 := lens_take_le zss (i + 1)
  have e : atP zss i = zss[i] := by simp [atP, hi]
  rw [e] at h1
  omega
structure OwnP (w : World) (base b n : Nat) (zss : List (List Int)) (g : Nat → Nat) : Prop where
  len : zss.length = n
  cell : ∀ i zs, zss[i]? = some zs → ∃ cap, w.cell? ⟨b, i, none⟩ = some (.slice (some ⟨g i, 0, none⟩) zs.length cap) ∧ zs.length ≤ cap
  low : ∀ i, i < n → base ≤ g i
  lt : ∀ i, i < n → g i < w.heap.size
  ne : ∀ i, i < n → g i ≠ b
  nums : ∀ i zs, zss[i]? = some zs → NumsAt w (g i) 0 zs
  room : ∀ i zs, zss[i]? = some zs → Room w (g i) zs.length
  inj : ∀ i j, i < n → j < n → g i = g j → i = j
theorem OwnP.at {w : World} {base b n : Nat} {zss : List (List Int)} {g : Nat → Nat} (h : OwnP w base b n zss g) (B : Nat) (hB : w.heap.size ≤ B) : PlsAt w B b 0 zss := fun i zs e => by
  obtain ⟨cap, hc, hcp⟩ := h.cell i zs e
  have hi : i < n := by have := (List.getElem?_eq_some_iff.1 e).1; have := h.len; omega
  exact ⟨_, cap, by rw [Nat.zero_add]; exact hc, ⟨rfl, .inr ⟨g i, 0, rfl, by have := h.lt i hi; omega, h.nums i zs e⟩⟩, hcp⟩
theorem OwnP.sl {w : World} {base b n : Nat} {zss : List (List Int)} {g : Nat → Nat} (h : OwnP w base b n zss g) (hb : b < w.heap.size) : SlP w w.heap.size (some ⟨b, 0, none⟩) n zss :=
  ⟨h.len, .inr ⟨b, 0, rfl, hb, h.at _ (Nat.le_refl _)⟩⟩
theorem NumsAt.of_block {w w' : World} {b off : Nat} {zs : List Int} (h : NumsAt w b off zs) (e : w'.heap[b]? = w.heap[b]?) : NumsAt w' b off zs := fun i z hz => (World.cell?_of_block (a := ⟨b, off + i, none⟩) e).trans (h i z hz)
theorem Room.of_block {w w' : World} {b m : Nat} (h : Room w b m) (e : w'.heap[b]? = w.heap[b]?) : Room w' b m := fun j hj => by
  obtain ⟨v, h1, h2⟩ := h j hj
  exact ⟨v, (World.cell?_of_block (a := ⟨b, j, none⟩) e).trans h1, (World.frozen?_of_block (a := ⟨b, j, none⟩) e).trans h2⟩
theorem OwnP.of_blocks {w w' : World} {base b n : Nat} {zss : List (List Int)} {g : Nat → Nat} (h : OwnP w base b n zss g) (hs : w.heap.size ≤ w'.heap.size) (eb : w'.heap[b]? = w.heap[b]?) (eg : ∀ i, i < n → w'.heap[g i]? = w.heap[g i]?) : OwnP w' base b n zss g := by
  have hi : ∀ i zs, zss[i]? = some zs → i < n := fun i zs e => by have := (List.getElem?_eq_some_iff.1 e).1; have := h.len; omega
  refine ⟨h.len, fun i zs e => ?_, h.low, fun i hi => Nat.lt_of_lt_of_le (h.lt i hi) hs, h.ne, fun i zs e => (h.nums i zs e).of_block (eg i (hi i zs e)), fun i zs e => (h.room i zs e).of_block (eg i (hi i zs e)), h.inj⟩
  obtain ⟨cap, hc, hcp⟩ := h.cell i zs e
  exact ⟨cap, (World.cell?_of_block (a := ⟨b, i, none⟩) eb).trans hc, hcp⟩
theorem OwnP.later {w w' : World} {base b n : Nat} {zss : List (List Int)} {g : Nat → Nat} (h : OwnP w base b n zss g) (hb : Below w.heap.size w w') (hlt : b < w.heap.size) : OwnP w' base b n zss g :=
  h.of_blocks hb.size (hb.block b hlt) (fun i hi => hb.block _ (h.lt i hi))
theorem OwnP.snoc {w : World} {base b j : Nat} {zss : List (List Int)} {g : Nat → Nat} {zs : List Int} {q cap : Nat} (h : OwnP w base b j zss g) (hc : w.cell? ⟨b, j, none⟩ = some (.slice (some ⟨q, 0, none⟩) zs.length cap)) (hcp : zs.length ≤ cap)
    (hq : base ≤ q) (hl : q < w.heap.size) (hn : q ≠ b) (hx : NumsAt w q 0 zs) (hr : Room w q zs.length) (hf : ∀ i, i < j → g i ≠ q) : OwnP w base b (j + 1) (zss ++ [zs]) (fun i => if i = j then q else g i) := by
  have hlen := h.len
  have split : ∀ i ys, (zss ++ [zs])[i]? = some ys → (i < j ∧ zss[i]? = some ys) ∨ (i = j ∧ ys = zs) := fun i ys e => by
    by_cases hi : i < zss.length
    · rw [List.getElem?_append_left hi] at e
      exact .inl ⟨by omega, e⟩
    · rw [List.getElem?_append_right (by omega)] at e
      have h0 : i - zss.length = 0 := by
        rcases Nat.eq_zero_or_pos (i - zss.length) with h | h
        · exact h
        · rw [List.getElem?_eq_none (by simp; omega)] at e; cases e
      rw [h0] at e
      simp at e
      exact .inr ⟨by omega, e.symm⟩
  refine ⟨by simp [hlen], fun i ys e => ?_, fun i hi => ?_, fun i hi => ?_, fun i hi => ?_, fun i ys e => ?_, fun i ys e => ?_, fun i k hi hk e => ?_⟩
  · rcases split i ys e with ⟨hi, e⟩ | ⟨rfl, rfl⟩
    · rw [if_neg (by omega)]; exact h.cell i ys e
    · rw [if_pos rfl]; exact ⟨cap, hc, hcp⟩
  · by_cases e : i = j
    · rw [if_pos e]; exact hq
    · rw [if_neg e]; exact h.low i (by omega)
  · by_cases e : i = j
    · rw [if_pos e]; exact hl
    · rw [if_neg e]; exact h.lt i (by omega)
  · by_cases e : i = j
    · rw [if_pos e]; exact hn
    · rw [if_neg e]; exact h.ne i (by omega)
  · rcases split i ys e with ⟨hi, e⟩ | ⟨rfl, rfl⟩
    · rw [if_neg (by omega)]; exact h.nums i ys e
    · rw [if_pos rfl]; exact hx
  · rcases split i ys e with ⟨hi, e⟩ | ⟨rfl, rfl⟩
    · rw [if_neg (by omega)]; exact h.room i ys e
    · rw [if_pos rfl]; exact hr
  · by_cases ei : i = j <;> by_cases ek : k = j
    · omega
    · simp only [if_pos ei, if_neg ek] at e; exact absurd e.symm (hf k (by omega))
    · simp only [if_neg ei, if_pos ek] at e; exact absurd e (hf i (by omega))
    · simp only [if_neg ei, if_neg ek] at e; exact h.inj i k (by omega) (by omega) e
theorem OwnP.nil (w : World) (base b : Nat) (g : Nat → Nat) : OwnP w base b 0 [] g :=
  ⟨rfl, fun i zs e => by simp at e, fun i h => by omega, fun i h => by omega, fun i h => by omega, fun i zs e => by simp at e, fun i zs e => by simp at e, fun i j h => by omega⟩
end Go.Proofs.YtdmpobegobfpjaaGreat
namespace Go.Proofs.YtdmpobegobfpjaaGreat.tx
open Go.RowKit
open Go.Sort (grow)
theorem hidOf {p : Prop} (h : p) : Hid p := h
def leftR (l t : Nat) : Int := if t ≤ l then ((l - t : Nat) : Int) else -1
theorem leftR_yes {l t : Nat} (h : t ≤ l) : leftR l t = ((l - t : Nat) : Int) := if_pos h
theorem leftR_no {l t : Nat} (h : ¬ t ≤ l) : leftR l t = -1 := if_neg h
structure KeptP (P : Nat → Prop) (w w' : World) : Prop where
  os : w'.os = w.os
  tape : w'.tape = w.tape
  output : w'.output = w.output
  size : w.heap.size ≤ w'.heap.size
  block : ∀ q, q < w.heap.size → ¬ P q → w'.heap[q]? = w.heap[q]?
theorem KeptP.refl (P : Nat → Prop) (w : World) : KeptP P w w := ⟨rfl, rfl, rfl, Nat.le_refl _, fun _ _ _ => rfl⟩
theorem KeptP.trans {P : Nat → Prop} {a b c : World} (h : KeptP P a b) (k : KeptP P b c) : KeptP P a c :=
  ⟨k.os.trans h.os, k.tape.trans h.tape, k.output.trans h.output, Nat.le_trans h.size k.size, fun q hq hp => (k.block q (Nat.lt_of_lt_of_le hq h.size) hp).trans (h.block q hq hp)⟩
theorem KeptP.mono {P Q : Nat → Prop} {a b : World} (h : KeptP P a b) (hp : ∀ q, P q → Q q) : KeptP Q a b := ⟨h.os, h.tape, h.output, h.size, fun q hq hn => h.block q hq (fun e => hn (hp q e))⟩
theorem KeptP.of_only {P : Nat → Prop} {c : Nat} {a b : World} (h : OnlyBlock c a b) (hc : P c) : KeptP P a b := ⟨h.os, h.tape, h.output, Nat.le_of_eq h.size.symm, fun q _ hn => h.block q (fun e => hn (e ▸ hc))⟩
theorem KeptP.of_below {P : Nat → Prop} {a b : World} (h : Below a.heap.size a b) : KeptP P a b := ⟨h.os, h.tape, h.output, h.size, fun q hq _ => h.block q hq⟩
theorem KeptP.of_set {P : Nat → Prop} (w : World) {c o : Nat} (v : Value) (hc : P c) : KeptP P w (w.setCell ⟨c, o, none⟩ v) := .of_only ((OnlyBlock.refl c w).setCell o v) hc
theorem KeptP.below {P : Nat → Prop} {B : Nat} {a b : World} (h : KeptP P a b) (hp : ∀ q, P q → B ≤ q) (hB : B ≤ a.heap.size) : Below B a b := ⟨h.os, h.tape, h.output, h.size, fun q hq => h.block q (by omega) (fun e => by have := hp q e; omega)⟩
structure SetAt (w : World) (b o : Nat) (s : S5) : Prop where
  c0 : w.cell? ⟨b, o, none⟩ = some (.int .i64 s.region)
  c1 : w.cell? ⟨b, o + 1, none⟩ = some (.int .i64 s.slot)
  c2 : w.cell? ⟨b, o + 2, none⟩ = some (.int .i64 s.value)
  c3 : w.cell? ⟨b, o + 3, none⟩ = some (.bool s.used)
  c4 : w.cell? ⟨b, o + 4, none⟩ = some (.int .i64 s.version)
theorem SetAt.below {w w' : World} {B b o : Nat} {s : S5} (h : SetAt w b o s) (hb : Below B w w') (hB : b < B) : SetAt w' b o s :=
  ⟨by rw [hb.cell hB]; exact h.c0, by rw [hb.cell hB]; exact h.c1, by rw [hb.cell hB]; exact h.c2, by rw [hb.cell hB]; exact h.c3, by rw [hb.cell hB]; exact h.c4⟩
def SetsAt (w : World) (b off : Nat) (xs : List S5) : Prop := ∀ i s, xs[i]? = some s → SetAt w b (off + i * 5) s
theorem SetsAt.below {w w' : World} {B b off : Nat} {xs : List S5} (h : SetsAt w b off xs) (hb : Below B w w') (hB : b < B) : SetsAt w' b off xs := fun i s e => (h i s e).below hb hB
def Sl (w : World) (B : Nat) (a : Option Addr) (n : Nat) (xs : List S5) : Prop := xs.length = n ∧ (n = 0 ∨ ∃ b off, a = some ⟨b, off, none⟩ ∧ b < B ∧ SetsAt w b off xs)
theorem Sl.below {w w' : World} {B : Nat} {a : Option Addr} {n : Nat} {xs : List S5} (h : Sl w B a n xs) (hb : Below B w w') : Sl w' B a n xs := by
  obtain ⟨h1, h2⟩ := h
  refine ⟨h1, ?_⟩
  rcases h2 with h2 | ⟨b, off, ha, hB, hx⟩
  · exact .inl h2
  · exact .inr ⟨b, off, ha, hB, hx.below hb hB⟩
theorem Sl.mono {w : World} {B B' : Nat} {a : Option Addr} {n : Nat} {xs : List S5} (h : Sl w B a n xs) (hB : B ≤ B') : Sl w B' a n xs := by
  obtain ⟨h1, h2⟩ := h
  refine ⟨h1, ?_⟩
  rcases h2 with h2 | ⟨b, off, ha, hb, hx⟩
  · exact .inl h2
  · exact .inr ⟨b, off, ha, by omega, hx⟩
theorem SetsAt.far {w : World} {b off : Nat} {xs : List S5} (h : SetsAt w b off xs) {p : Addr} (hp : p.block ≠ b) (v : Value) : SetsAt (w.setCell p v) b off xs := fun i s e =>
  ⟨by rw [cell_set_far hp]; exact (h i s e).c0, by rw [cell_set_far hp]; exact (h i s e).c1, by rw [cell_set_far hp]; exact (h i s e).c2, by rw [cell_set_far hp]; exact (h i s e).c3, by rw [cell_set_far hp]; exact (h i s e).c4⟩
theorem SetAt.set {w : World} {b o p : Nat} {s : S5} (h : SetAt w b o s) (hp : p < o ∨ o + 5 ≤ p) (v : Value) : SetAt (w.setCell ⟨b, p, none⟩ v) b o s :=
  ⟨by rw [cell_set_other (by omega)]; exact h.c0, by rw [cell_set_other (by omega)]; exact h.c1, by rw [cell_set_other (by omega)]; exact h.c2, by rw [cell_set_other (by omega)]; exact h.c3, by rw [cell_set_other (by omega)]; exact h.c4⟩
theorem info_set : (Tryz.prog.info? 106).map (fun i => (i.zero, i.size, i.bytes)) = some (some (.agg #[.int .i64 0, .int .i64 0, .int .i64 0, .bool false, .int .i64 0]), 5, 40) := by kernel_rfl
theorem make_sets (n : Nat) (hn : n ≤ 1048576) (w : World) : (Instr.makeSlice 53 (.int .i64 (n : Int)) (.int .i64 (n : Int))).run Tryz.prog w = .ok (.slice (some ⟨w.heap.size, 0, none⟩) n n) (w.alloc (.cells (madeCells #[.int .i64 0, .int .i64 0, .int .i64 0, .bool false, .int .i64 0] (n * 5)) 106)) := by
  obtain ⟨i, hi, hzz⟩ := Option.map_eq_some_iff.1 info_set
  simp only [Prod.mk.injEq] at hzz
  obtain ⟨hz, hs, hb⟩ := hzz
  have := run_make (P := Tryz.prog) w 53 106 i _ Tryz.underlying53 hi hz .i64 .i64 (n : Int) (n : Int) (by omega) (by omega) (by rw [hb]; omega) (by omega)
  rw [hs] at this
  simpa [Value.cells] using this
theorem SetAt.put {w : World} {b o : Nat} {v0 v1 v2 v3 v4 : Value} (s : S5) (h0 : w.cell? ⟨b, o, none⟩ = some v0) (h1 : w.cell? ⟨b, o + 1, none⟩ = some v1) (h2 : w.cell? ⟨b, o + 2, none⟩ = some v2) (h3 : w.cell? ⟨b, o + 3, none⟩ = some v3) (h4 : w.cell? ⟨b, o + 4, none⟩ = some v4) :
    SetAt (((((w.setCell ⟨b, o, none⟩ (.int .i64 s.region)).setCell ⟨b, o + 1, none⟩ (.int .i64 s.slot)).setCell ⟨b, o + 2, none⟩ (.int .i64 s.value)).setCell ⟨b, o + 3, none⟩ (.bool s.used)).setCell ⟨b, o + 4, none⟩ (.int .i64 s.version)) b o s := by
  refine ⟨?_, ?_, ?_, ?_, ?_⟩
  · rw [cell_set_other (by omega), cell_set_other (by omega), cell_set_other (by omega), cell_set_other (by omega)]; exact cell_set_same h0
  · rw [cell_set_other (by omega), cell_set_other (by omega), cell_set_other (by omega)]; exact cell_set_same (by rw [cell_set_other (by omega)]; exact h1)
  · rw [cell_set_other (by omega), cell_set_other (by omega)]; exact cell_set_same (by rw [cell_set_other (by omega), cell_set_other (by omega)]; exact h2)
  · rw [cell_set_other (by omega)]; exact cell_set_same (by rw [cell_set_other (by omega), cell_set_other (by omega), cell_set_other (by omega)]; exact h3)
  · exact cell_set_same (by rw [cell_set_other (by omega), cell_set_other (by omega), cell_set_other (by omega), cell_set_other (by omega)]; exact h4)
theorem SetsAt.put {w : World} {b k : Nat} {xs : List S5} {s : S5} (h : SetsAt w b 0 (xs.take k)) (hs : xs[k]? = some s) {m : Nat} (hr : Room w b m) (hm : k * 5 + 5 ≤ m) :
    SetsAt (((((w.setCell ⟨b, k * 5, none⟩ (.int .i64 s.region)).setCell ⟨b, k * 5 + 1, none⟩ (.int .i64 s.slot)).setCell ⟨b, k * 5 + 2, none⟩ (.int .i64 s.value)).setCell ⟨b, k * 5 + 3, none⟩ (.bool s.used)).setCell ⟨b, k * 5 + 4, none⟩ (.int .i64 s.version)) b 0 (xs.take (k + 1)) := by
  intro i t e
  rw [List.getElem?_take] at e
  split at e
  · rename_i hi
    by_cases hik : i = k
    · subst hik
      rw [hs] at e
      obtain rfl := Option.some.inj e
      obtain ⟨v0, d0, _⟩ := hr (i * 5) (by omega)
      obtain ⟨v1, d1, _⟩ := hr (i * 5 + 1) (by omega)
      obtain ⟨v2, d2, _⟩ := hr (i * 5 + 2) (by omega)
      obtain ⟨v3, d3, _⟩ := hr (i * 5 + 3) (by omega)
      obtain ⟨v4, d4, _⟩ := hr (i * 5 + 4) (by omega)
      simpa using SetAt.put s d0 d1 d2 d3 d4
    · have := h i t (by rw [List.getElem?_take, if_pos (by omega)]; exact e)
      exact ((((this.set (by omega) _).set (by omega) _).set (by omega) _).set (by omega) _).set (by omega) _
  · cases e
theorem SetsAt.of_block {w w' : World} {b off : Nat} {xs : List S5} (h : SetsAt w b off xs) (e : w'.heap[b]? = w.heap[b]?) : SetsAt w' b off xs := fun i s hs => by
  obtain ⟨c0, c1, c2, c3, c4⟩ := h i s hs
  exact ⟨(World.cell?_of_block (a := ⟨b, _, none⟩) e).trans c0, (World.cell?_of_block (a := ⟨b, _, none⟩) e).trans c1, (World.cell?_of_block (a := ⟨b, _, none⟩) e).trans c2, (World.cell?_of_block (a := ⟨b, _, none⟩) e).trans c3, (World.cell?_of_block (a := ⟨b, _, none⟩) e).trans c4⟩
theorem toSetS_none (w : World) (a : Option Addr) (cap : Nat) : Calls Tryz.prog 109 #[.slice a 0 cap] w fun e w' =>
    e = .returned (.slice (some ⟨w.heap.size, 0, none⟩) 0 0) ∧ Below w.heap.size w w' ∧ w.heap.size < w'.heap.size := by
  have hmk : ∀ w : World, (Instr.makeSlice 53 (.int .i64 0) (.int .i64 0)).run Tryz.prog w = .ok (.slice (some ⟨w.heap.size, 0, none⟩) 0 0) (w.alloc (.cells (madeCells #[.int .i64 0, .int .i64 0, .int .i64 0, .bool false, .int .i64 0] 0) 106)) := fun w => by simpa using make_sets 0 (by omega) w
  go_enter Tryz.func109, Tryz.ntmps109
  go_wp2
  go_loopw [4] (fun i wr => i = .int .i64 0 ∧ Below w.heap.size w wr ∧ w.heap.size < wr.heap.size) (fun _ _ => 0)
  case atStart => exact ⟨rfl, (Below.refl _ _).alloc (Nat.le_refl _) _, by simp⟩
  case round =>
    obtain ⟨rfl, hbl, hsz⟩ := hrel
    go_wp2
    go_ret
    exact ⟨rfl, hbl, hsz⟩
set_option maxHeartbeats 1000000 in
theorem toSetS_someR (w : World) (b off n cap : Nat) (xs : List S5) (hx : xs.length = n) (hn : n ≤ 1048576) (hb : b < w.heap.size) (hs : SetsAt w b off xs) : Calls Tryz.prog 109 #[.slice (some ⟨b, off, none⟩) n cap] w fun e w' =>
    e = .returned (.slice (some ⟨w.heap.size, 0, none⟩) n n) ∧ Below w.heap.size w w' ∧ w.heap.size < w'.heap.size ∧ SetsAt w' w.heap.size 0 xs ∧ Room w' w.heap.size (n * 5) := by
  have hmk := make_sets n hn
  go_enter Tryz.func109, Tryz.ntmps109
  go_wp2
  go_loopw [4] (fun i wr => ∃ k : Nat, k ≤ n ∧ i = .int .i64 k ∧ Below w.heap.size w wr ∧ w.heap.size < wr.heap.size ∧ Room wr w.heap.size (n * 5) ∧ SetsAt wr w.heap.size 0 (xs.take k))
     (fun i _ => n - (intOf i).toNat)
  case atStart => exact ⟨0, Nat.zero_le _, rfl, (Below.refl _ _).alloc (Nat.le_refl _) _, by simp, room_made _ _ _ _, fun i s e => by simp at e⟩
  case round =>
    obtain ⟨k, hk, rfl, hbl, hsz, hro, hdo⟩ := hrel
    by_cases hlt : k < n
    · have hs' := hs.below hbl hb
      obtain ⟨s, hsk⟩ : ∃ s, xs[k]? = some s := ⟨xs[k]'(by omega), by simp⟩
      obtain ⟨c0, c1, c2, c3, c4⟩ := hs' k s hsk
      clear hs' hmk
      have K : Hid (Room wr w.heap.size (n * 5) ∧ SetsAt wr w.heap.size 0 (xs.take k) ∧ xs[k]? = some s ∧ Below w.heap.size w wr) := ⟨hro, hdo, hsk, hbl⟩
      clear hro hdo hsk hbl
      go_wp2_with fail
      refine (toSet_any _ s).mono ?_
      rintro e w1 ⟨rfl, b1⟩
      obtain ⟨hro, hdo, hsk, hbl⟩ := K.out
      have hro1 := hro.below b1 hsz
      have hdo1 := hdo.below b1 hsz
      obtain ⟨v0, d0, f0⟩ := hro1 (k * 5) (by omega)
      obtain ⟨v1, d1, f1⟩ := hro1 (k * 5 + 1) (by omega)
      obtain ⟨v2, d2, f2⟩ := hro1 (k * 5 + 2) (by omega)
      obtain ⟨v3, d3, f3⟩ := hro1 (k * 5 + 3) (by omega)
      obtain ⟨v4, d4, f4⟩ := hro1 (k * 5 + 4) (by omega)
      clear hro hdo hsk hbl
      have K2 : Hid (Room w1 w.heap.size (n * 5) ∧ SetsAt w1 w.heap.size 0 (xs.take k)) := ⟨hro1, hdo1⟩
      clear hro1 hdo1
      go_wp2
      obtain ⟨hro, hdo, hsk, hbl⟩ := K.out
      obtain ⟨hro1, hdo1⟩ := K2.out
      have hbl1 := hbl.trans (b1.mono (Nat.le_of_lt hsz))
      refine ⟨⟨k + 1, by omega, by simp, ((((hbl1.setCell (p := ⟨w.heap.size, k * 5, none⟩) (Nat.le_refl _) _).setCell (p := ⟨w.heap.size, k * 5 + 1, none⟩) (Nat.le_refl _) _).setCell (p := ⟨w.heap.size, k * 5 + 2, none⟩) (Nat.le_refl _) _).setCell (p := ⟨w.heap.size, k * 5 + 3, none⟩) (Nat.le_refl _) _).setCell (p := ⟨w.heap.size, k * 5 + 4, none⟩) (Nat.le_refl _) _,
        by have := b1.size; simp [World.setCell]; omega, ((((hro1.set _).set _).set _).set _).set _, hdo1.put hsk hro1 (by omega)⟩, by simp [intOf]; omega⟩
    · have : k = n := by omega
      subst this
      have hd : decide (k < k) = false := by simp
      go_wp2
      go_ret
      refine ⟨rfl, hbl, hsz, ?_, hro⟩
      rw [← hx, List.take_length] at hdo
      exact hdo
theorem toSetS_anyR (w : World) (a : Option Addr) (n cap : Nat) (xs : List S5) (hn : n ≤ 1048576) (hs : Sl w w.heap.size a n xs) : Calls Tryz.prog 109 #[.slice a n cap] w fun e w' =>
    e = .returned (.slice (some ⟨w.heap.size, 0, none⟩) n n) ∧ Below w.heap.size w w' ∧ w.heap.size < w'.heap.size ∧ SetsAt w' w.heap.size 0 xs ∧ Room w' w.heap.size (n * 5) := by
  obtain ⟨h1, h2⟩ := hs
  rcases h2 with rfl | ⟨b, off, rfl, hb, hx⟩
  · refine (toSetS_none w a cap).mono ?_
    rintro e w' ⟨rfl, h, h'⟩
    exact ⟨rfl, h, h', (fun i s e => by rw [List.eq_nil_of_length_eq_zero h1] at e; simp at e), fun j hj => by omega⟩
  · exact toSetS_someR w b off n cap xs h1 hn hb hx
theorem szSetS_l (w : World) (a : Option Addr) (n cap : Nat) (l : Nat) (hn : n ≤ maxLen) (hl : l ≤ 1048576) : Calls Tryz.prog 95 #[.slice a n cap, .int .i64 (l : Int)] w fun e w' => e = .returned (.int .i64 (leftR l n)) ∧ w' = w := by
  unfold maxLen at hn
  by_cases h : n ≤ l
  · rw [leftR_yes h]
    have d0 : decide ((l : Int) - (n : Int) < 0) = false := by simp; omega
    go_enter Tryz.func95, Tryz.ntmps95
    go_wp2
    go_ret
    have e : ((l - n : Nat) : Int) = (l : Int) - (n : Int) := by omega
    exact ⟨by rw [e]; rfl, rfl⟩
  · rw [leftR_no h]
    have d0 : decide ((l : Int) - (n : Int) < 0) = true := by simp; omega
    go_enter Tryz.func95, Tryz.ntmps95
    go_wp2
    go_ret
    exact ⟨rfl, rfl⟩
theorem SetAt.regrown {w : World} {b o : Nat} {s : S5} (h : SetAt w b o s) (d : Nat) (os : Array Obj) : SetAt (grow (redrawn w d) os) b o s :=
  ⟨cell_regrown h.c0 d os, cell_regrown h.c1 d os, cell_regrown h.c2 d os, cell_regrown h.c3 d os, cell_regrown h.c4 d os⟩
set_option maxHeartbeats 1000000 in
theorem eqSet_same (w : World) (s : S5) : Calls Tryz.prog 170 #[.agg #[.int .i64 s.region, .int .i64 s.slot, .int .i64 s.value, .bool s.used, .int .i64 s.version], .agg #[.int .i64 s.region, .int .i64 s.slot, .int .i64 s.value, .bool s.used, .int .i64 s.version]] w fun e w' =>
    e = .returned (.bool true) ∧ Below w.heap.size w w' := by
  obtain ⟨r, l, v, u, x⟩ := s
  go_enter Tryz.func170, Tryz.ntmps170
  go_wp2
  go_ret
  exact ⟨rfl, ((Below.refl _ _).alloc (Nat.le_refl _) _).alloc (by simp) _⟩
set_option maxHeartbeats 1000000 in
theorem eqSetS_some (w : World) (b off cap b' off' cap' n : Nat) (xs : List S5) (hx : xs.length = n) (hn : n ≤ maxLen) (h1 : SetsAt w b off xs) (hb : b < w.heap.size) (h2 : SetsAt w b' off' xs) (hb' : b' < w.heap.size) :
    Calls Tryz.prog 130 #[.slice (some ⟨b, off, none⟩) n cap, .slice (some ⟨b', off', none⟩) n cap'] w fun e w' => e = .returned (.bool true) ∧ Below w.heap.size w w' := by
  unfold maxLen at hn
  go_enter Tryz.func130, Tryz.ntmps130
  go_wp2
  go_loopw [5] (fun i wr => ∃ k : Nat, k ≤ n ∧ i = .int .i64 k ∧ Below w.heap.size w wr) (fun i _ => n - (intOf i).toNat)
  case atStart => exact ⟨0, Nat.zero_le _, rfl, Below.refl _ _⟩
  case round =>
    obtain ⟨k, hk, rfl, hbl⟩ := hrel
    by_cases hlt : k < n
    · obtain ⟨s, hsk⟩ : ∃ s, xs[k]? = some s := ⟨xs[k]'(by omega), by simp⟩
      have t1 := (((h1 k s hsk).below hbl hb).regrown)
      have t2 := (((h2 k s hsk).below hbl hb').regrown)
      have c0 := fun d os => (t1 d os).c0
      have c1 := fun d os => (t1 d os).c1
      have c2 := fun d os => (t1 d os).c2
      have c3 := fun d os => (t1 d os).c3
      have c4 := fun d os => (t1 d os).c4
      have e0 := fun d os => (t2 d os).c0
      have e1 := fun d os => (t2 d os).c1
      have e2 := fun d os => (t2 d os).c2
      have e3 := fun d os => (t2 d os).c3
      have e4 := fun d os => (t2 d os).c4
      have cQ : ∀ d os, Calls Tryz.prog 170 #[.agg #[.int .i64 s.region, .int .i64 s.slot, .int .i64 s.value, .bool s.used, .int .i64 s.version], .agg #[.int .i64 s.region, .int .i64 s.slot, .int .i64 s.value, .bool s.used, .int .i64 s.version]] (grow (redrawn wr d) os) fun e w'' => e = .returned (.bool true) ∧ ∃ p : Regrown, w'' = grow (redrawn wr p.d) p.os := fun d os => Calls.regrown_of (eqSet_same _ s)
      have K : Hid (Below w.heap.size w wr) := hbl
      clear t1 t2 hbl hsk h1 h2
      go_wp2_with fail
      refine wp_region_quiet_below (by kernel_rfl) (by kernel_rfl) ?_
      repeat (quiet_step (exact cQ _ _))
      refine wpQuiet_nil ?_
      intro _ hw'
      obtain ⟨⟨dq, osq⟩, hw''⟩ := hw'
      subst hw''
      have bq := below_regrown wr dq osq
      go_wp2
      exact ⟨⟨k + 1, by omega, by simp, K.out.trans (bq.mono K.out.size)⟩, by simp [intOf]; omega⟩
    · have : k = n := by omega
      subst this
      have hd : decide (k < k) = false := by simp
      go_wp2
      go_ret
      exact ⟨rfl, hbl⟩
theorem eqSetS_none (w : World) (a a' : Option Addr) (cap cap' : Nat) : Calls Tryz.prog 130 #[.slice a 0 cap, .slice a' 0 cap'] w fun e w' => e = .returned (.bool true) ∧ Below w.heap.size w w' := by
  go_enter Tryz.func130, Tryz.ntmps130
  go_wp2
  go_loopw [5] (fun i wr => i = .int .i64 0 ∧ Below w.heap.size w wr) (fun _ _ => 0)
  case atStart => exact ⟨rfl, Below.refl _ _⟩
  case round =>
    obtain ⟨rfl, hbl⟩ := hrel
    go_wp2
    go_ret
    exact ⟨rfl, hbl⟩
theorem eqSetS_any (w : World) (a a' : Option Addr) (n cap cap' : Nat) (xs : List S5) (hn : n ≤ maxLen) (h1 : Sl w w.heap.size a n xs) (h2 : Sl w w.heap.size a' n xs) :
    Calls Tryz.prog 130 #[.slice a n cap, .slice a' n cap'] w fun e w' => e = .returned (.bool true) ∧ Below w.heap.size w w' := by
  obtain ⟨hx, h1⟩ := h1
  obtain ⟨_, h2⟩ := h2
  rcases h1 with rfl | ⟨b, off, rfl, hb, h1⟩
  · exact eqSetS_none w a a' cap cap'
  · rcases h2 with rfl | ⟨b', off', rfl, hb', h2⟩
    · exact eqSetS_none w _ a' cap cap'
    · exact eqSetS_some w b off cap b' off' cap' n xs hx hn h1 hb h2 hb'
def mkSet (k : Int) (j : Nat) : S5 := ⟨k + 5 * (j : Int), k + 5 * (j : Int) + 1, k + 5 * (j : Int) + 1 + 1, (k + 5 * (j : Int) + 1 + 1 + 1) % 3 == 0, k + 5 * (j : Int) + 1 + 1 + 1 + 1⟩
def mkSets (k : Int) (n : Nat) : List S5 := (List.range n).map (mkSet k)
theorem mkSets_at {k : Int} {n j : Nat} (h : j < n) : (mkSets k n)[j]? = some (mkSet k j) := by simp [mkSets, h]
theorem mkSets_len (k : Int) (n : Nat) : (mkSets k n).length = n := by simp [mkSets]
set_option maxHeartbeats 4000000 in
theorem markSetS_k (w : World) (b n cap : Nat) (k : Int) (hn : n ≤ 1048576) (hk : 0 ≤ k) (hk' : k ≤ 1000000000) (hr : Room w b (n * 5)) :
    Calls Tryz.prog 78 #[.slice (some ⟨b, 0, none⟩) n cap, .int .i64 k] w fun e w' => e = .returned (.int .i64 (k + 5 * (n : Int))) ∧ OnlyBlock b w w' ∧ SetsAt w' b 0 (mkSets k n) ∧ Room w' b (n * 5) := by
  go_enter Tryz.func78, Tryz.ntmps78
  go_wp2
  go_loopw [1, 5] (fun v1 v5 wr => ∃ j : Nat, j ≤ n ∧ v5 = .int .i64 j ∧ v1 = .int .i64 (k + 5 * (j : Int)) ∧ OnlyBlock b w wr ∧ Room wr b (n * 5) ∧ SetsAt wr b 0 ((mkSets k n).take j)) (fun _ v5 _ => n - (intOf v5).toNat)
  case atStart => exact ⟨0, Nat.zero_le _, rfl, by simp, OnlyBlock.refl _ _, hr, fun i s e => by simp at e⟩
  case round =>
    obtain ⟨j, hj, rfl, rfl, hob, hro, hse⟩ := hrel
    by_cases hlt : j < n
    · obtain ⟨v0, d0, f0⟩ := hro (j * 5) (by omega)
      obtain ⟨v1, d1, f1⟩ := hro (j * 5 + 1) (by omega)
      obtain ⟨v2, d2, f2⟩ := hro (j * 5 + 2) (by omega)
      obtain ⟨v3, d3, f3⟩ := hro (j * 5 + 3) (by omega)
      obtain ⟨v4, d4, f4⟩ := hro (j * 5 + 4) (by omega)
      have K : Hid (OnlyBlock b w wr ∧ Room wr b (n * 5) ∧ SetsAt wr b 0 ((mkSets k n).take j)) := ⟨hob, hro, hse⟩
      clear hob hro hse hr
      go_wp2
      obtain ⟨hob, hro, hse⟩ := K.out
      refine ⟨⟨j + 1, by omega, by simp, by congr 1; push_cast; omega, ((((hob.setCell _ _).setCell _ _).setCell _ _).setCell _ _).setCell _ _, ((((hro.set _).set _).set _).set _).set _, hse.put (s := mkSet k j) (mkSets_at hlt) hro (by omega)⟩, by simp [intOf]; omega⟩
    · have : j = n := by omega
      subst this
      have hd : decide ((j : Int) < (j : Int)) = false := by simp
      rw [List.take_of_length_le (by rw [mkSets_len]; omega)] at hse
      have K : Hid (OnlyBlock b w wr ∧ SetsAt wr b 0 (mkSets k j) ∧ Room wr b (j * 5)) := ⟨hob, hse, hro⟩
      clear hob hro hse hr
      go_wp2
      go_ret
      exact ⟨rfl, K.out.1, K.out.2.1, K.out.2.2⟩
set_option maxHeartbeats 1000000 in
theorem markSetS_nil (w : World) (a : Option Addr) (cap : Nat) (k : Int) : Calls Tryz.prog 78 #[.slice a 0 cap, .int .i64 k] w fun e w' => e = .returned (.int .i64 k) ∧ w' = w := by
  go_enter Tryz.func78, Tryz.ntmps78
  go_wp2
  go_loop [1, 5] (fun v1 v5 => v1 = .int .i64 k ∧ v5 = .int .i64 0) (fun _ _ => 0)
  case atStart => exact ⟨rfl, rfl⟩
  case round =>
    obtain ⟨rfl, rfl⟩ := hrel
    go_wp2
    go_ret
    exact ⟨rfl, rfl⟩
end Go.Proofs.YtdmpobegobfpjaaGreat.tx