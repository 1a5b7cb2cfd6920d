/- In; Sets; Mem; Recs: joined. -/
import Derived.Test.YtooalbdlknheeaaGreatRows
import Derived.WalkKit
import Derived.WalkSpells
import Derived.WalkLawsBesides
import Derived.Below
import Derived.RegionTactic
import Derived.Lib.QuietBelow
import Derived.BigQuiet
/- Numbers within two ends, as both sides ask for them. -/
namespace Go.Proofs.YtooalbdlknheeaaGreat
open Go.RowKit
def inB (lo hi x : Int) : Bool := decide (lo ≤ x) && decide (x ≤ hi)
theorem inB_yes {lo hi x : Int} (h : lo ≤ x) (h' : x ≤ hi) : inB lo hi x = true := by simp [inB, h, h']
theorem inB_low {lo hi x : Int} (h : x < lo) : inB lo hi x = false := by simp [inB]; omega
theorem inB_high {lo hi x : Int} (h : hi < x) : inB lo hi x = false := by simp [inB]; omega
theorem inB_iff {lo hi x : Int} : inB lo hi x = true ↔ lo ≤ x ∧ x ≤ hi := by simp [inB]
theorem ret_bool {b b' : Bool} (h : b = true ↔ b' = true) : Ending.returned (Value.bool b) = Ending.returned (Value.bool b') := by rw [Bool.eq_iff_iff.2 h]
theorem specIn (w : World) (x lo hi : Int) : Calls Tryz.prog 116 #[.int .i64 x, .int .i64 lo, .int .i64 hi] w fun e w' => e = .returned (.bool (inB lo hi x)) ∧ w' = w := by
  go_enter Tryz.func116, Tryz.ntmps116
  go_wp2
  all_goals (go_ret; refine ⟨ret_bool ?_, rfl⟩; simp [inB_iff]; try omega)
end Go.Proofs.YtooalbdlknheeaaGreat
/- What the program's and the specification's SetOk answer at every Set, and what the law's copy of a Set is: one and the same, with no condition. -/
namespace Go.Proofs.YtooalbdlknheeaaGreat
open Go.RowKit
/-- A Set's five fields. -/
structure S5 where
  region : Int
  slot : Int
  value : Int
  used : Bool
  version : Int
def setOkB (s : S5) : Bool := inB 0 5 s.region && inB 0 5 s.slot && inB (-1000000000) 1000000000 s.value && inB 0 999999 s.version
theorem specRegion (w : World) (x : Int) : Calls Tryz.prog 56 #[.int .i64 x] w fun e w' => e = .returned (.bool (inB 0 5 x)) ∧ w' = w := by
  go_enter Tryz.func56, Tryz.ntmps56
  go_wp2_with (go_at_call 116; refine (specIn _ _ _ _).mono ?_; rintro e w' ⟨rfl, rfl⟩)
  go_ret
  exact ⟨rfl, rfl⟩
theorem specSlot (w : World) (x : Int) : Calls Tryz.prog 167 #[.int .i64 x] w fun e w' => e = .returned (.bool (inB 0 5 x)) ∧ w' = w := by
  go_enter Tryz.func167, Tryz.ntmps167
  go_wp2_with (go_at_call 116; refine (specIn _ _ _ _).mono ?_; rintro e w' ⟨rfl, rfl⟩)
  go_ret
  exact ⟨rfl, rfl⟩
theorem specValue (w : World) (x : Int) : Calls Tryz.prog 118 #[.int .i64 x] w fun e w' => e = .returned (.bool (inB (-1000000000) 1000000000 x)) ∧ w' = w := by
  go_enter Tryz.func118, Tryz.ntmps118
  go_wp2_with (go_at_call 116; refine (specIn _ _ _ _).mono ?_; rintro e w' ⟨rfl, rfl⟩)
  go_ret
  exact ⟨rfl, rfl⟩
theorem implRegion (w : World) (x : Int) : Calls Tryz.prog 51 #[.int .i64 x] w fun e w' => e = .returned (.bool (inB 0 5 x)) ∧ w' = w := by
  go_enter Tryz.func51, Tryz.ntmps51
  go_wp2
  all_goals (go_ret; refine ⟨ret_bool ?_, rfl⟩; simp [inB_iff]; try omega)
theorem implSlot (w : World) (x : Int) : Calls Tryz.prog 179 #[.int .i64 x] w fun e w' => e = .returned (.bool (inB 0 5 x)) ∧ w' = w := by
  go_enter Tryz.func179, Tryz.ntmps179
  go_wp2
  all_goals (go_ret; refine ⟨ret_bool ?_, rfl⟩; simp [inB_iff]; try omega)
theorem implValue (w : World) (x : Int) : Calls Tryz.prog 158 #[.int .i64 x] w fun e w' => e = .returned (.bool (inB (-1000000000) 1000000000 x)) ∧ w' = w := by
  go_enter Tryz.func158, Tryz.ntmps158
  go_wp2
  all_goals (go_ret; refine ⟨ret_bool ?_, rfl⟩; simp [inB_iff]; try omega)
set_option maxHeartbeats 1000000 in
theorem toSet_any (w : World) (s : S5) : Calls Tryz.prog 152 #[.agg #[.int .i64 s.region, .int .i64 s.slot, .int .i64 s.value, .bool s.used, .int .i64 s.version]] w fun e w' =>
    e = .returned (.agg #[.int .i64 s.region, .int .i64 s.slot, .int .i64 s.value, .bool s.used, .int .i64 s.version]) ∧ Below w.heap.size w w' := by
  obtain ⟨r, l, v, u, x⟩ := s
  go_enter Tryz.func152, Tryz.ntmps152
  go_wp2
  refine bodyPost_ret (v := .agg #[.int .i64 r, .int .i64 l, .int .i64 v, .bool u, .int .i64 x]) (by simp [results, Tryz.results152, go_sem]) rfl ⟨rfl, ?_⟩
  exact (((Below.refl _ _).alloc (Nat.le_refl _) _).alloc (by simp) _).alloc (by simp; omega) _
theorem specSetOk (w : World) (s : S5) : Calls Tryz.prog 170 #[.agg #[.int .i64 s.region, .int .i64 s.slot, .int .i64 s.value, .bool s.used, .int .i64 s.version]] w fun e w' => e = .returned (.bool (setOkB s)) ∧ Below w.heap.size w w' := by
  obtain ⟨r, l, v, u, x⟩ := s
  go_enter Tryz.func170, Tryz.ntmps170
  cases h1 : inB 0 5 r <;> cases h2 : inB 0 5 l <;> cases h3 : inB (-1000000000) 1000000000 v
  all_goals go_wp2_with (first | (go_at_call 116; refine (specIn _ _ _ _).mono ?_; rintro e w' ⟨rfl, rfl⟩) | (go_at_call 56; refine (specRegion _ _).mono ?_; rintro e w' ⟨rfl, rfl⟩) | (go_at_call 167; refine (specSlot _ _).mono ?_; rintro e w' ⟨rfl, rfl⟩) | (go_at_call 118; refine (specValue _ _).mono ?_; rintro e w' ⟨rfl, rfl⟩))
  all_goals (go_ret; refine ⟨ret_bool ?_, (Below.refl _ _).alloc (Nat.le_refl _) _⟩; simp only [setOkB, h1, h2, h3, Bool.and_true, Bool.and_false, Bool.false_and, Bool.true_and]; try simp [inB_iff]; try omega)
theorem implSetOk (w : World) (s : S5) : Calls Tryz.prog 168 #[.agg #[.int .i64 s.region, .int .i64 s.slot, .int .i64 s.value, .bool s.used, .int .i64 s.version]] w fun e w' => e = .returned (.bool (setOkB s)) ∧ Below w.heap.size w w' := by
  obtain ⟨r, l, v, u, x⟩ := s
  go_enter Tryz.func168, Tryz.ntmps168
  cases h1 : inB 0 5 r <;> cases h2 : inB 0 5 l <;> cases h3 : inB (-1000000000) 1000000000 v
  all_goals go_wp2_with (first | (go_at_call 51; refine (implRegion _ _).mono ?_; rintro e w' ⟨rfl, rfl⟩) | (go_at_call 179; refine (implSlot _ _).mono ?_; rintro e w' ⟨rfl, rfl⟩) | (go_at_call 158; refine (implValue _ _).mono ?_; rintro e w' ⟨rfl, rfl⟩))
  all_goals (go_ret; refine ⟨ret_bool ?_, (Below.refl _ _).alloc (Nat.le_refl _) _⟩; simp only [setOkB, h1, h2, h3, Bool.and_true, Bool.and_false, Bool.false_and, Bool.true_and]; try simp [inB_iff]; try omega)
end Go.Proofs.YtooalbdlknheeaaGreat
/- Cells of memory that can be written, and worlds in which one block alone is turned; no program in sight. -/
namespace Go.Proofs.YtooalbdlknheeaaGreat
open Go.RowKit
/-- Block b has m cells that can be written. -/
def Room (w : World) (b m : Nat) : Prop := ∀ j, j < m → ∃ v, w.cell? ⟨b, j, none⟩ = some v ∧ w.frozen? ⟨b, j, none⟩ = false
theorem Room.below {w w' : World} {B b m : Nat} (h : Room w b m) (hb : Below B w w') (hB : b < B) : Room w' b m := fun j hj => by
  obtain ⟨v, h1, h2⟩ := h j hj
  exact ⟨v, by rw [hb.cell hB]; exact h1, by rw [hb.frozen hB]; exact h2⟩
theorem cell_set_same {w : World} {b o : Nat} {v v' : Value} (h : w.cell? ⟨b, o, none⟩ = some v) : (w.setCell ⟨b, o, none⟩ v').cell? ⟨b, o, none⟩ = some v' := World.cell?_setCell_same' _ _ _ (by rw [h]; rfl)
theorem cell_set_other {w : World} {b o o' : Nat} {v' : Value} (h : o' ≠ o) : (w.setCell ⟨b, o, none⟩ v').cell? ⟨b, o', none⟩ = w.cell? ⟨b, o', none⟩ := World.cell?_setCell_other _ _ _ _ (fun e => h (by cases e; rfl))
theorem Room.set {w : World} {b m o : Nat} (h : Room w b m) (v : Value) : Room (w.setCell ⟨b, o, none⟩ v) b m := fun j hj => by
  obtain ⟨u, h1, h2⟩ := h j hj
  refine ⟨if j = o then v else u, ?_, by rw [World.frozen?_setCell]; exact h2⟩
  by_cases e : j = o
  · subst e; simp [cell_set_same h1]
  · simp [e, cell_set_other e, h1]
theorem cell_set_far {w : World} {p : Addr} {b o : Nat} (hp : p.block ≠ b) (v : Value) : (w.setCell p v).cell? ⟨b, o, none⟩ = w.cell? ⟨b, o, none⟩ := World.cell?_setCell_other _ _ _ _ (fun e => hp (by rw [e]))
theorem room_made (w : World) (z : Array Value) (m : Nat) (t : TypeId) : Room (w.alloc (.cells (madeCells z m) t)) w.heap.size m := fun j hj => by
  have hz : j < (madeCells z m).size := by rw [size_madeCells]; exact hj
  exact ⟨(madeCells z m)[j], by rw [World.cell?_alloc_new]; exact Array.getElem?_eq_getElem hz, by simp⟩
/-- Nothing but block c is turned, and none comes. -/
structure OnlyBlock (c : Nat) (w w' : World) : Prop where
  os : w'.os = w.os
  tape : w'.tape = w.tape
  output : w'.output = w.output
  size : w'.heap.size = w.heap.size
  block : ∀ k, k ≠ c → w'.heap[k]? = w.heap[k]?
theorem OnlyBlock.refl (c : Nat) (w : World) : OnlyBlock c w w := ⟨rfl, rfl, rfl, rfl, fun _ _ => rfl⟩
theorem OnlyBlock.setCell {c : Nat} {a w : World} (h : OnlyBlock c a w) (o : Nat) (u : Value) : OnlyBlock c a (w.setCell ⟨c, o, none⟩ u) :=
  ⟨h.os, h.tape, h.output, by simpa [World.setCell] using h.size, fun k hk => (Below.heap_setCell _ _ _ _ hk).trans (h.block k hk)⟩
theorem OnlyBlock.below {c B : Nat} {w w' : World} (h : OnlyBlock c w w') (hB : B ≤ c) : Below B w w' := ⟨h.os, h.tape, h.output, Nat.le_of_eq h.size.symm, fun k hk => h.block k (by omega)⟩
theorem Room.alloc {w : World} {b m : Nat} (h : Room w b m) (hb : b < w.heap.size) (o : Obj) : Room (w.alloc o) b m := h.below ((Below.refl w.heap.size w).alloc (Nat.le_refl _) o) hb
/-- Nothing but block c is turned; blocks may come. -/
structure Turned (c : Nat) (w w' : World) : Prop where
  os : w'.os = w.os
  tape : w'.tape = w.tape
  output : w'.output = w.output
  size : w.heap.size ≤ w'.heap.size
  block : ∀ k, k < w.heap.size → k ≠ c → w'.heap[k]? = w.heap[k]?
theorem Turned.refl (c : Nat) (w : World) : Turned c w w := ⟨rfl, rfl, rfl, Nat.le_refl _, fun _ _ _ => rfl⟩
theorem Turned.trans {c : Nat} {a b d : World} (h : Turned c a b) (k : Turned c b d) : Turned c a d :=
  ⟨k.os.trans h.os, k.tape.trans h.tape, k.output.trans h.output, Nat.le_trans h.size k.size, fun i hi hc => (k.block i (Nat.lt_of_lt_of_le hi h.size) hc).trans (h.block i hi hc)⟩
theorem Turned.drew {c : Nat} {a w : World} (h : Turned c a w) : Turned c a w.drew := ⟨h.os, h.tape, h.output, h.size, h.block⟩
theorem Turned.drewN {c : Nat} {a w : World} (h : Turned c a w) (n : Nat) : Turned c a (w.drewN n) := ⟨h.os, h.tape, h.output, h.size, h.block⟩
theorem Turned.alloc {c : Nat} {a w : World} (h : Turned c a w) (o : Obj) : Turned c a (w.alloc o) :=
  h.trans ⟨rfl, rfl, rfl, by simp, fun k hk _ => Below.heap_alloc _ _ _ hk⟩
theorem Turned.setCell {c : Nat} {a w : World} (h : Turned c a w) (o : Nat) (u : Value) : Turned c a (w.setCell ⟨c, o, none⟩ u) :=
  h.trans ⟨rfl, rfl, rfl, by simp [World.setCell], fun k _ hc => Below.heap_setCell _ _ _ _ hc⟩
theorem Turned.below {c B : Nat} {w w' : World} (h : Turned c w w') (hB : B ≤ c) (hs : B ≤ w.heap.size) : Below B w w' :=
  ⟨h.os, h.tape, h.output, h.size, fun k hk => h.block k (by omega) (by omega)⟩
theorem Turned.cell {c : Nat} {w w' : World} (h : Turned c w w') {p : Addr} (hp : p.block < w.heap.size) (hc : p.block ≠ c) : w'.cell? p = w.cell? p := World.cell?_of_block (w := w) (h.block p.block hp hc)
theorem Turned.frozen {c : Nat} {w w' : World} (h : Turned c w w') {p : Addr} (hp : p.block < w.heap.size) (hc : p.block ≠ c) : w'.frozen? p = w.frozen? p := World.frozen?_of_block (w := w) (h.block p.block hp hc)
theorem Turned.of_below {c : Nat} {a w w' : World} (h : Turned c a w) (hb : Below w.heap.size w w') : Turned c a w' :=
  ⟨hb.os.trans h.os, hb.tape.trans h.tape, hb.output.trans h.output, Nat.le_trans h.size hb.size, fun k hk hc => (hb.block k (Nat.lt_of_lt_of_le hk h.size)).trans (h.block k hk hc)⟩
theorem Turned.grown {c : Nat} {a w w' : World} {row : Option Nat} (h : Turned c a w) (hg : w.grownBy w' row) (hr : ∀ q, row = some q → a.heap.size ≤ q) : Turned c a w' :=
  ⟨hg.os.trans h.os, hg.tape.trans h.tape, hg.output.trans h.output, Nat.le_trans h.size hg.size, fun k hk hc => (hg.block k (Nat.lt_of_lt_of_le hk h.size) (fun e => by have := hr k e.symm; omega)).trans (h.block k hk hc)⟩
/-- An append whose run is known, met at its operation. -/
theorem append_known {P : Program} (w : World) {ops : Array Oper} {rest : List Oper} {o : Oper} {a : Act} {Q : Exit → Act → World → Prop} (hg : o.guard = none) (s x : Operand) (t : TypeId)
    (hop : o.op = Op.call { callee := Callee.builtin Builtin.append, args := #[s, x], argTypes := #[t, t] }) (v u v' : Value) (w' : World) (hs : a.eval s = v) (hx : a.eval x = u)
    (hr : (Builtin.append_ #[t, t] o.type #[v, u]).run P w = .ok v' w') (h : wpList P ops Q rest (a.put o.dst v') w') : wpList P ops Q (o :: rest) a w := by
  refine wpList_plain hg fun K hK => ?_
  unfold Oper.wp
  simp [execOp, hop, resolve, invoke, builtin, hs, hx, hr, Result.andThen]
  exact hK _ _ h
/-- An append whose run is known, met at a step of a region that draws its order. -/
theorem step_known {P : Program} (w : World) {ops : Array Oper} {o : Oper} {a : Act} {K : Act → World → Prop} {Q : Exit → Act → World → Prop} {E : Prop} (hgd : o.guard = none) (s x : Operand) (t : TypeId)
    (hop : o.op = Op.call { callee := Callee.builtin Builtin.append, args := #[s, x], argTypes := #[t, t] }) (v u v' : Value) (w' : World) (hs : a.eval s = v) (hx : a.eval x = u)
    (hr : (Builtin.append_ #[t, t] o.type #[v, u]).run P w = .ok v' w') (h : K (a.put o.dst v') w') :
    if Region.wanted o (yielded ops a.tmps) = true then Oper.wp P o a w K Q else E := by
  have hw : Region.wanted o (yielded ops a.tmps) = true := by simp [Region.wanted, hgd]
  rw [if_pos hw]
  unfold Oper.wp
  simp [execOp, hop, resolve, invoke, builtin, hs, hx, hr, Result.andThen]
  exact h
end Go.Proofs.YtooalbdlknheeaaGreat
/- Rows of Sets in memory, and the law's own copies and comparisons of Sets and Records: what they answer, and that they turn nothing that was there. -/
namespace Go.Proofs.YtooalbdlknheeaaGreat
open Go.RowKit
open Go.Sort (grow)
structure SetAt (w : World) (b o : Nat) (s : S5) : Prop where
  c0 : w.cell? ⟨b, o, none⟩ = some (.int .i64 s.region)
  c1 : w.cell? ⟨b, o + 1, none⟩ = some (.int .i64 s.slot)
  c2 : w.cell? ⟨b, o + 2, none⟩ = some (.int .i64 s.value)
  c3 : w.cell? ⟨b, o + 3, none⟩ = some (.bool s.used)
  c4 : w.cell? ⟨b, o + 4, none⟩ = some (.int .i64 s.version)
theorem SetAt.below {w w' : World} {B b o : Nat} {s : S5} (h : SetAt w b o s) (hb : Below B w w') (hB : b < B) : SetAt w' b o s :=
  ⟨by rw [hb.cell hB]; exact h.c0, by rw [hb.cell hB]; exact h.c1, by rw [hb.cell hB]; exact h.c2, by rw [hb.cell hB]; exact h.c3, by rw [hb.cell hB]; exact h.c4⟩
def SetsAt (w : World) (b off : Nat) (xs : List S5) : Prop := ∀ i s, xs[i]? = some s → SetAt w b (off + i * 5) s
theorem SetsAt.below {w w' : World} {B b off : Nat} {xs : List S5} (h : SetsAt w b off xs) (hb : Below B w w') (hB : b < B) : SetsAt w' b off xs := fun i s e => (h i s e).below hb hB
/-- The slice (a, n) holds the Sets xs, in a block below B. -/
def Sl (w : World) (B : Nat) (a : Option Addr) (n : Nat) (xs : List S5) : Prop := xs.length = n ∧ (n = 0 ∨ ∃ b off, a = some ⟨b, off, none⟩ ∧ b < B ∧ SetsAt w b off xs)
theorem Sl.below {w w' : World} {B : Nat} {a : Option Addr} {n : Nat} {xs : List S5} (h : Sl w B a n xs) (hb : Below B w w') : Sl w' B a n xs := by
  obtain ⟨h1, h2⟩ := h
  refine ⟨h1, ?_⟩
  rcases h2 with h2 | ⟨b, off, ha, hB, hx⟩
  · exact .inl h2
  · exact .inr ⟨b, off, ha, hB, hx.below hb hB⟩
theorem Sl.mono {w : World} {B B' : Nat} {a : Option Addr} {n : Nat} {xs : List S5} (h : Sl w B a n xs) (hB : B ≤ B') : Sl w B' a n xs := by
  obtain ⟨h1, h2⟩ := h
  refine ⟨h1, ?_⟩
  rcases h2 with h2 | ⟨b, off, ha, hb, hx⟩
  · exact .inl h2
  · exact .inr ⟨b, off, ha, by omega, hx⟩
theorem SetsAt.far {w : World} {b off : Nat} {xs : List S5} (h : SetsAt w b off xs) {p : Addr} (hp : p.block ≠ b) (v : Value) : SetsAt (w.setCell p v) b off xs := fun i s e =>
  ⟨by rw [cell_set_far hp]; exact (h i s e).c0, by rw [cell_set_far hp]; exact (h i s e).c1, by rw [cell_set_far hp]; exact (h i s e).c2, by rw [cell_set_far hp]; exact (h i s e).c3, by rw [cell_set_far hp]; exact (h i s e).c4⟩
theorem SetAt.set {w : World} {b o p : Nat} {s : S5} (h : SetAt w b o s) (hp : p < o ∨ o + 5 ≤ p) (v : Value) : SetAt (w.setCell ⟨b, p, none⟩ v) b o s :=
  ⟨by rw [cell_set_other (by omega)]; exact h.c0, by rw [cell_set_other (by omega)]; exact h.c1, by rw [cell_set_other (by omega)]; exact h.c2, by rw [cell_set_other (by omega)]; exact h.c3, by rw [cell_set_other (by omega)]; exact h.c4⟩
theorem info_set : (Tryz.prog.info? 139).map (fun i => (i.zero, i.size, i.bytes)) = some (some (.agg #[.int .i64 0, .int .i64 0, .int .i64 0, .bool false, .int .i64 0]), 5, 40) := by kernel_rfl
theorem make_sets (n : Nat) (hn : n ≤ 1048576) (w : World) : (Instr.makeSlice 39 (.int .i64 (n : Int)) (.int .i64 (n : Int))).run Tryz.prog w = .ok (.slice (some ⟨w.heap.size, 0, none⟩) n n) (w.alloc (.cells (madeCells #[.int .i64 0, .int .i64 0, .int .i64 0, .bool false, .int .i64 0] (n * 5)) 139)) := by
  obtain ⟨i, hi, hzz⟩ := Option.map_eq_some_iff.1 info_set
  simp only [Prod.mk.injEq] at hzz
  obtain ⟨hz, hs, hb⟩ := hzz
  have := run_make (P := Tryz.prog) w 39 139 i _ Tryz.underlying39 hi hz .i64 .i64 (n : Int) (n : Int) (by omega) (by omega) (by rw [hb]; omega) (by omega)
  rw [hs] at this
  simpa [Value.cells] using this
theorem SetAt.put {w : World} {b o : Nat} {v0 v1 v2 v3 v4 : Value} (s : S5) (h0 : w.cell? ⟨b, o, none⟩ = some v0) (h1 : w.cell? ⟨b, o + 1, none⟩ = some v1) (h2 : w.cell? ⟨b, o + 2, none⟩ = some v2) (h3 : w.cell? ⟨b, o + 3, none⟩ = some v3) (h4 : w.cell? ⟨b, o + 4, none⟩ = some v4) :
    SetAt (((((w.setCell ⟨b, o, none⟩ (.int .i64 s.region)).setCell ⟨b, o + 1, none⟩ (.int .i64 s.slot)).setCell ⟨b, o + 2, none⟩ (.int .i64 s.value)).setCell ⟨b, o + 3, none⟩ (.bool s.used)).setCell ⟨b, o + 4, none⟩ (.int .i64 s.version)) b o s := by
  refine ⟨?_, ?_, ?_, ?_, ?_⟩
  · rw [cell_set_other (by omega), cell_set_other (by omega), cell_set_other (by omega), cell_set_other (by omega)]; exact cell_set_same h0
  · rw [cell_set_other (by omega), cell_set_other (by omega), cell_set_other (by omega)]; exact cell_set_same (by rw [cell_set_other (by omega)]; exact h1)
  · rw [cell_set_other (by omega), cell_set_other (by omega)]; exact cell_set_same (by rw [cell_set_other (by omega), cell_set_other (by omega)]; exact h2)
  · rw [cell_set_other (by omega)]; exact cell_set_same (by rw [cell_set_other (by omega), cell_set_other (by omega), cell_set_other (by omega)]; exact h3)
  · exact cell_set_same (by rw [cell_set_other (by omega), cell_set_other (by omega), cell_set_other (by omega), cell_set_other (by omega)]; exact h4)
theorem SetsAt.put {w : World} {b k : Nat} {xs : List S5} {s : S5} (h : SetsAt w b 0 (xs.take k)) (hs : xs[k]? = some s) {m : Nat} (hr : Room w b m) (hm : k * 5 + 5 ≤ m) :
    SetsAt (((((w.setCell ⟨b, k * 5, none⟩ (.int .i64 s.region)).setCell ⟨b, k * 5 + 1, none⟩ (.int .i64 s.slot)).setCell ⟨b, k * 5 + 2, none⟩ (.int .i64 s.value)).setCell ⟨b, k * 5 + 3, none⟩ (.bool s.used)).setCell ⟨b, k * 5 + 4, none⟩ (.int .i64 s.version)) b 0 (xs.take (k + 1)) := by
  intro i t e
  rw [List.getElem?_take] at e
  split at e
  · rename_i hi
    by_cases hik : i = k
    · subst hik
      rw [hs] at e
      obtain rfl := Option.some.inj e
      obtain ⟨v0, d0, _⟩ := hr (i * 5) (by omega)
      obtain ⟨v1, d1, _⟩ := hr (i * 5 + 1) (by omega)
      obtain ⟨v2, d2, _⟩ := hr (i * 5 + 2) (by omega)
      obtain ⟨v3, d3, _⟩ := hr (i * 5 + 3) (by omega)
      obtain ⟨v4, d4, _⟩ := hr (i * 5 + 4) (by omega)
      simpa using SetAt.put s d0 d1 d2 d3 d4
    · have := h i t (by rw [List.getElem?_take, if_pos (by omega)]; exact e)
      exact ((((this.set (by omega) _).set (by omega) _).set (by omega) _).set (by omega) _).set (by omega) _
  · cases e
set_option maxHeartbeats 1000000 in
theorem toSetS_some (w : World) (b off n cap : Nat) (xs : List S5) (hx : xs.length = n) (hn : n ≤ 1048576) (hb : b < w.heap.size) (hs : SetsAt w b off xs) : Calls Tryz.prog 101 #[.slice (some ⟨b, off, none⟩) n cap] w fun e w' =>
    e = .returned (.slice (some ⟨w.heap.size, 0, none⟩) n n) ∧ Below w.heap.size w w' ∧ w.heap.size < w'.heap.size ∧ SetsAt w' w.heap.size 0 xs := by
  have hmk := make_sets n hn
  go_enter Tryz.func101, Tryz.ntmps101
  go_wp2
  go_loopw [4] (fun i wr => ∃ k : Nat, k ≤ n ∧ i = .int .i64 k ∧ Below w.heap.size w wr ∧ w.heap.size < wr.heap.size ∧ Room wr w.heap.size (n * 5) ∧ SetsAt wr w.heap.size 0 (xs.take k))
     (fun i _ => n - (intOf i).toNat)
  case atStart => exact ⟨0, Nat.zero_le _, rfl, (Below.refl _ _).alloc (Nat.le_refl _) _, by simp, room_made _ _ _ _, fun i s e => by simp at e⟩
  case round =>
    obtain ⟨k, hk, rfl, hbl, hsz, hro, hdo⟩ := hrel
    by_cases hlt : k < n
    · have hs' := hs.below hbl hb
      obtain ⟨s, hsk⟩ : ∃ s, xs[k]? = some s := ⟨xs[k]'(by omega), by simp⟩
      obtain ⟨c0, c1, c2, c3, c4⟩ := hs' k s hsk
      clear hs' hmk
      have K : Hid (Room wr w.heap.size (n * 5) ∧ SetsAt wr w.heap.size 0 (xs.take k) ∧ xs[k]? = some s ∧ Below w.heap.size w wr) := ⟨hro, hdo, hsk, hbl⟩
      clear hro hdo hsk hbl
      go_wp2_with fail
      refine (toSet_any _ s).mono ?_
      rintro e w1 ⟨rfl, b1⟩
      obtain ⟨hro, hdo, hsk, hbl⟩ := K.out
      have hro1 := hro.below b1 hsz
      have hdo1 := hdo.below b1 hsz
      obtain ⟨v0, d0, f0⟩ := hro1 (k * 5) (by omega)
      obtain ⟨v1, d1, f1⟩ := hro1 (k * 5 + 1) (by omega)
      obtain ⟨v2, d2, f2⟩ := hro1 (k * 5 + 2) (by omega)
      obtain ⟨v3, d3, f3⟩ := hro1 (k * 5 + 3) (by omega)
      obtain ⟨v4, d4, f4⟩ := hro1 (k * 5 + 4) (by omega)
      clear hro hdo hsk hbl
      have K2 : Hid (Room w1 w.heap.size (n * 5) ∧ SetsAt w1 w.heap.size 0 (xs.take k)) := ⟨hro1, hdo1⟩
      clear hro1 hdo1
      go_wp2
      obtain ⟨hro, hdo, hsk, hbl⟩ := K.out
      obtain ⟨hro1, hdo1⟩ := K2.out
      have hbl1 := hbl.trans (b1.mono (Nat.le_of_lt hsz))
      refine ⟨⟨k + 1, by omega, by simp, ((((hbl1.setCell (p := ⟨w.heap.size, k * 5, none⟩) (Nat.le_refl _) _).setCell (p := ⟨w.heap.size, k * 5 + 1, none⟩) (Nat.le_refl _) _).setCell (p := ⟨w.heap.size, k * 5 + 2, none⟩) (Nat.le_refl _) _).setCell (p := ⟨w.heap.size, k * 5 + 3, none⟩) (Nat.le_refl _) _).setCell (p := ⟨w.heap.size, k * 5 + 4, none⟩) (Nat.le_refl _) _,
        by have := b1.size; simp [World.setCell]; omega, ((((hro1.set _).set _).set _).set _).set _, hdo1.put hsk hro1 (by omega)⟩, by simp [intOf]; omega⟩
    · have : k = n := by omega
      subst this
      have hd : decide (k < k) = false := by simp
      go_wp2
      go_ret
      refine ⟨rfl, hbl, hsz, ?_⟩
      rw [← hx, List.take_length] at hdo
      exact hdo
theorem toSetS_none (w : World) (a : Option Addr) (cap : Nat) : Calls Tryz.prog 101 #[.slice a 0 cap] w fun e w' =>
    e = .returned (.slice (some ⟨w.heap.size, 0, none⟩) 0 0) ∧ Below w.heap.size w w' ∧ w.heap.size < w'.heap.size := by
  have hmk : ∀ w : World, (Instr.makeSlice 39 (.int .i64 0) (.int .i64 0)).run Tryz.prog w = .ok (.slice (some ⟨w.heap.size, 0, none⟩) 0 0) (w.alloc (.cells (madeCells #[.int .i64 0, .int .i64 0, .int .i64 0, .bool false, .int .i64 0] 0) 139)) := fun w => by simpa using make_sets 0 (by omega) w
  go_enter Tryz.func101, Tryz.ntmps101
  go_wp2
  go_loopw [4] (fun i wr => i = .int .i64 0 ∧ Below w.heap.size w wr ∧ w.heap.size < wr.heap.size) (fun _ _ => 0)
  case atStart => exact ⟨rfl, (Below.refl _ _).alloc (Nat.le_refl _) _, by simp⟩
  case round =>
    obtain ⟨rfl, hbl, hsz⟩ := hrel
    go_wp2
    go_ret
    exact ⟨rfl, hbl, hsz⟩
theorem toSetS_any (w : World) (a : Option Addr) (n cap : Nat) (xs : List S5) (hn : n ≤ 1048576) (hs : Sl w w.heap.size a n xs) : Calls Tryz.prog 101 #[.slice a n cap] w fun e w' =>
    e = .returned (.slice (some ⟨w.heap.size, 0, none⟩) n n) ∧ Below w.heap.size w w' ∧ w.heap.size < w'.heap.size ∧ SetsAt w' w.heap.size 0 xs := by
  obtain ⟨h1, h2⟩ := hs
  rcases h2 with rfl | ⟨b, off, rfl, hb, hx⟩
  · refine (toSetS_none w a cap).mono ?_
    rintro e w' ⟨rfl, h, h'⟩
    exact ⟨rfl, h, h', fun i s e => by rw [List.eq_nil_of_length_eq_zero h1] at e; simp at e⟩
  · exact toSetS_some w b off n cap xs h1 hn hb hx
set_option maxHeartbeats 1000000 in
theorem toRecord_any (w : World) (k t r : Int) (a : Option Addr) (n cap : Nat) (xs : List S5) (hn : n ≤ 1048576) (hs : Sl w w.heap.size a n xs) : Calls Tryz.prog 39 #[.agg #[.int .i64 k, .int .i64 t, .int .i64 r, .slice a n cap]] w fun e w' =>
    ∃ g, e = .returned (.agg #[.int .i64 k, .int .i64 t, .int .i64 r, .slice (some ⟨g, 0, none⟩) n n]) ∧ Below w.heap.size w w' ∧ w.heap.size ≤ g ∧ g < w'.heap.size ∧ SetsAt w' g 0 xs := by
  go_enter Tryz.func39, Tryz.ntmps39
  go_wp2_with fail
  generalize hW : ((w.alloc (.cells #[.int .i64 k, .int .i64 t, .int .i64 r, .slice a n cap] 68)).alloc (.cells #[.int .i64 0, .int .i64 0, .int .i64 0, .slice none 0 0] 41)).alloc (.cells #[.int .i64 k, .int .i64 t, .int .i64 r, .slice none 0 0] 41) = W
  have hsz : W.heap.size = w.heap.size + 3 := by subst hW; simp
  have bW : Below w.heap.size w W := by subst hW; exact (((Below.refl _ _).alloc (Nat.le_refl _) _).alloc (by simp) _).alloc (by simp; omega) _
  have d0 : W.cell? ⟨w.heap.size + 1 + 1, 0, none⟩ = some (.int .i64 k) := by subst hW; go_simp
  have d1 : W.cell? ⟨w.heap.size + 1 + 1, 1, none⟩ = some (.int .i64 t) := by subst hW; go_simp
  have d2 : W.cell? ⟨w.heap.size + 1 + 1, 2, none⟩ = some (.int .i64 r) := by subst hW; go_simp
  have d3 : W.cell? ⟨w.heap.size + 1 + 1, 3, none⟩ = some (.slice none 0 0) := by subst hW; go_simp
  have e0 : W.cell? ⟨w.heap.size + 1, 0, none⟩ = some (.int .i64 0) := by subst hW; go_simp
  have e1 : W.cell? ⟨w.heap.size + 1, 1, none⟩ = some (.int .i64 0) := by subst hW; go_simp
  have e2 : W.cell? ⟨w.heap.size + 1, 2, none⟩ = some (.int .i64 0) := by subst hW; go_simp
  have e3 : W.cell? ⟨w.heap.size + 1, 3, none⟩ = some (.slice none 0 0) := by subst hW; go_simp
  have f3 : W.frozen? ⟨w.heap.size + 1 + 1, 3, none⟩ = false := by subst hW; go_simp
  have g0 : ∀ j, W.frozen? ⟨w.heap.size + 1, j, none⟩ = false := by intro j; subst hW; go_simp
  clear hW
  have hs3 : Sl W W.heap.size a n xs := (hs.below bW).mono (by omega)
  refine (toSetS_any _ a n cap xs hn hs3).mono ?_
  rintro e w1 ⟨rfl, b1, l1, s1⟩
  rw [← b1.cell (p := ⟨w.heap.size + 1 + 1, 0, none⟩) (by simp; omega)] at d0
  rw [← b1.cell (p := ⟨w.heap.size + 1 + 1, 1, none⟩) (by simp; omega)] at d1
  rw [← b1.cell (p := ⟨w.heap.size + 1 + 1, 2, none⟩) (by simp; omega)] at d2
  rw [← b1.cell (p := ⟨w.heap.size + 1 + 1, 3, none⟩) (by simp; omega)] at d3
  rw [← b1.cell (p := ⟨w.heap.size + 1, 0, none⟩) (by simp; omega)] at e0
  rw [← b1.cell (p := ⟨w.heap.size + 1, 1, none⟩) (by simp; omega)] at e1
  rw [← b1.cell (p := ⟨w.heap.size + 1, 2, none⟩) (by simp; omega)] at e2
  rw [← b1.cell (p := ⟨w.heap.size + 1, 3, none⟩) (by simp; omega)] at e3
  rw [← b1.frozen (p := ⟨w.heap.size + 1 + 1, 3, none⟩) (by simp; omega)] at f3
  have g0' := (b1.frozen (p := ⟨w.heap.size + 1, 0, none⟩) (by simp; omega)).trans (g0 0)
  have g1' := (b1.frozen (p := ⟨w.heap.size + 1, 1, none⟩) (by simp; omega)).trans (g0 1)
  have g2' := (b1.frozen (p := ⟨w.heap.size + 1, 2, none⟩) (by simp; omega)).trans (g0 2)
  have g3' := (b1.frozen (p := ⟨w.heap.size + 1, 3, none⟩) (by simp; omega)).trans (g0 3)
  have K : Hid (SetsAt w1 W.heap.size 0 xs) := s1
  have K2 : Hid (W.heap.size = w.heap.size + 3) := hsz
  clear s1 g0 hs3 hsz
  go_wp2
  have hsz := K2.out
  refine bodyPost_ret (v := .agg #[.int .i64 k, .int .i64 t, .int .i64 r, .slice (some ⟨W.heap.size, 0, none⟩) n n]) (by simp [results, Tryz.results39, go_sem, e0, e1, e2, e3]) rfl ⟨W.heap.size, rfl, ?_, by omega, ?_, ?_⟩
  · exact (((((bW.trans (b1.mono (by omega))).setCell (p := ⟨_, _, none⟩) (by simp; omega) _).setCell (p := ⟨_, _, none⟩) (by simp) _).setCell (p := ⟨_, _, none⟩) (by simp) _).setCell (p := ⟨_, _, none⟩) (by simp) _).setCell (p := ⟨_, _, none⟩) (by simp) _
  · simpa [World.setCell] using l1
  · exact ((((K.out.far (by simp; omega) _).far (by simp; omega) _).far (by simp; omega) _).far (by simp; omega) _).far (by simp; omega) _
theorem szSetS_any (w : World) (a : Option Addr) (n cap : Nat) (hn : n ≤ maxLen) : Calls Tryz.prog 100 #[.slice a n cap, .int .i64 1048576] w fun e w' =>
    e = .returned (.int .i64 (if n ≤ 1048576 then 1048576 - (n : Int) else -1)) ∧ w' = w := by
  unfold maxLen at hn
  by_cases h : n ≤ 1048576
  · have h' : decide ((1048576 : Int) - (n : Int) < 0) = false := by simp; omega
    go_enter Tryz.func100, Tryz.ntmps100
    go_wp2
    go_ret
    exact ⟨by simp, rfl⟩
  · go_enter Tryz.func100, Tryz.ntmps100
    go_wp2
    go_ret
    exact ⟨by simp, rfl⟩
theorem szRecord_any (w : World) (k t r : Int) (a : Option Addr) (n cap : Nat) (hn : n ≤ maxLen) : Calls Tryz.prog 38 #[.agg #[.int .i64 k, .int .i64 t, .int .i64 r, .slice a n cap], .int .i64 1048576] w fun e w' =>
    e = .returned (.int .i64 (if n ≤ 1048576 then 1048576 - (n : Int) else -1)) ∧ Below w.heap.size w w' := by
  by_cases h : n ≤ 1048576
  · have h' : decide ((1048576 : Int) - (n : Int) < 0) = false := by simp; omega
    go_enter Tryz.func38, Tryz.ntmps38
    go_wp2_with (go_at_call 100; refine (szSetS_any _ _ _ _ hn).mono ?_; rw [if_pos h]; rintro e w' ⟨rfl, rfl⟩)
    go_ret
    exact ⟨by simp, (Below.refl _ _).alloc (Nat.le_refl _) _⟩
  · go_enter Tryz.func38, Tryz.ntmps38
    go_wp2_with (go_at_call 100; refine (szSetS_any _ _ _ _ hn).mono ?_; rw [if_neg h]; rintro e w' ⟨rfl, rfl⟩)
    go_ret
    exact ⟨by simp, (Below.refl _ _).alloc (Nat.le_refl _) _⟩
end Go.Proofs.YtooalbdlknheeaaGreat
