/- Recs; Cells: joined. -/
import Derived.Test.YtcbfnajpcaipkaaRows
import Derived.Test.YtcbfnajpcaipkaaJ0ExactNewCluster
import Derived.WalkKit
import Derived.WalkSpells
import Derived.WalkLawsBesides
import Derived.Below
import Derived.Lib.QuietBelow
import Derived.BigQuiet
import Derived.Deep.Heap
import Derived.Deep.AppendLies
namespace Go.Proofs.Ytcbfnajpcaipkaa
open Go.RowKit
open Go.Sort (grow)
structure SetAt (w : World) (b o : Nat) (s : S5) : Prop where
  c0 : w.cell? ⟨b, o, none⟩ = some (.int .i64 s.region)
  c1 : w.cell? ⟨b, o + 1, none⟩ = some (.int .i64 s.slot)
  c2 : w.cell? ⟨b, o + 2, none⟩ = some (.int .i64 s.value)
  c3 : w.cell? ⟨b, o + 3, none⟩ = some (.bool s.used)
  c4 : w.cell? ⟨b, o + 4, none⟩ = some (.int .i64 s.version)
theorem SetAt.below {w w' : World} {B b o : Nat} {s : S5} (h : SetAt w b o s) (hb : Below B w w') (hB : b < B) : SetAt w' b o s :=
  ⟨by rw [hb.cell hB]; exact h.c0, by rw [hb.cell hB]; exact h.c1, by rw [hb.cell hB]; exact h.c2, by rw [hb.cell hB]; exact h.c3, by rw [hb.cell hB]; exact h.c4⟩
def SetsAt (w : World) (b off : Nat) (xs : List S5) : Prop := ∀ i s, xs[i]? = some s → SetAt w b (off + i * 5) s
theorem SetsAt.below {w w' : World} {B b off : Nat} {xs : List S5} (h : SetsAt w b off xs) (hb : Below B w w') (hB : b < B) : SetsAt w' b off xs := fun i s e => (h i s e).below hb hB
def Sl (w : World) (B : Nat) (a : Option Addr) (n : Nat) (xs : List S5) : Prop := xs.length = n ∧ (n = 0 ∨ ∃ b off, a = some ⟨b, off, none⟩ ∧ b < B ∧ SetsAt w b off xs)
theorem Sl.below {w w' : World} {B : Nat} {a : Option Addr} {n : Nat} {xs : List S5} (h : Sl w B a n xs) (hb : Below B w w') : Sl w' B a n xs := by
  obtain ⟨h1, h2⟩ := h
  refine ⟨h1, ?_⟩
  rcases h2 with h2 | ⟨b, off, ha, hB, hx⟩
  · exact .inl h2
  · exact .inr ⟨b, off, ha, hB, hx.below hb hB⟩
theorem Sl.mono {w : World} {B B' : Nat} {a : Option Addr} {n : Nat} {xs : List S5} (h : Sl w B a n xs) (hB : B ≤ B') : Sl w B' a n xs := by
  obtain ⟨h1, h2⟩ := h
  refine ⟨h1, ?_⟩
  rcases h2 with h2 | ⟨b, off, ha, hb, hx⟩
  · exact .inl h2
  · exact .inr ⟨b, off, ha, by omega, hx⟩
theorem SetsAt.far {w : World} {b off : Nat} {xs : List S5} (h : SetsAt w b off xs) {p : Addr} (hp : p.block ≠ b) (v : Value) : SetsAt (w.setCell p v) b off xs := fun i s e =>
  ⟨by rw [cell_set_far hp]; exact (h i s e).c0, by rw [cell_set_far hp]; exact (h i s e).c1, by rw [cell_set_far hp]; exact (h i s e).c2, by rw [cell_set_far hp]; exact (h i s e).c3, by rw [cell_set_far hp]; exact (h i s e).c4⟩
theorem SetAt.set {w : World} {b o p : Nat} {s : S5} (h : SetAt w b o s) (hp : p < o ∨ o + 5 ≤ p) (v : Value) : SetAt (w.setCell ⟨b, p, none⟩ v) b o s :=
  ⟨by rw [cell_set_other (by omega)]; exact h.c0, by rw [cell_set_other (by omega)]; exact h.c1, by rw [cell_set_other (by omega)]; exact h.c2, by rw [cell_set_other (by omega)]; exact h.c3, by rw [cell_set_other (by omega)]; exact h.c4⟩
theorem info_set : (Try.prog.info? 96).map (fun i => (i.zero, i.size, i.bytes)) = some (some (.agg #[.int .i64 0, .int .i64 0, .int .i64 0, .bool false, .int .i64 0]), 5, 40) := by kernel_rfl
theorem make_sets (n : Nat) (hn : n ≤ 1048576) (w : World) : (Instr.makeSlice 42 (.int .i64 (n : Int)) (.int .i64 (n : Int))).run Try.prog w = .ok (.slice (some ⟨w.heap.size, 0, none⟩) n n) (w.alloc (.cells (madeCells #[.int .i64 0, .int .i64 0, .int .i64 0, .bool false, .int .i64 0] (n * 5)) 96)) := by
  obtain ⟨i, hi, hzz⟩ := Option.map_eq_some_iff.1 info_set
  simp only [Prod.mk.injEq] at hzz
  obtain ⟨hz, hs, hb⟩ := hzz
  have := run_make (P := Try.prog) w 42 96 i _ Try.underlying42 hi hz .i64 .i64 (n : Int) (n : Int) (by omega) (by omega) (by rw [hb]; omega) (by omega)
  rw [hs] at this
  simpa [Value.cells] using this
theorem SetAt.put {w : World} {b o : Nat} {v0 v1 v2 v3 v4 : Value} (s : S5) (h0 : w.cell? ⟨b, o, none⟩ = some v0) (h1 : w.cell? ⟨b, o + 1, none⟩ = some v1) (h2 : w.cell? ⟨b, o + 2, none⟩ = some v2) (h3 : w.cell? ⟨b, o + 3, none⟩ = some v3) (h4 : w.cell? ⟨b, o + 4, none⟩ = some v4) :
    SetAt (((((w.setCell ⟨b, o, none⟩ (.int .i64 s.region)).setCell ⟨b, o + 1, none⟩ (.int .i64 s.slot)).setCell ⟨b, o + 2, none⟩ (.int .i64 s.value)).setCell ⟨b, o + 3, none⟩ (.bool s.used)).setCell ⟨b, o + 4, none⟩ (.int .i64 s.version)) b o s := by
  refine ⟨?_, ?_, ?_, ?_, ?_⟩
  · rw [cell_set_other (by omega), cell_set_other (by omega), cell_set_other (by omega), cell_set_other (by omega)]; exact cell_set_same h0
  · rw [cell_set_other (by omega), cell_set_other (by omega), cell_set_other (by omega)]; exact cell_set_same (by rw [cell_set_other (by omega)]; exact h1)
  · rw [cell_set_other (by omega), cell_set_other (by omega)]; exact cell_set_same (by rw [cell_set_other (by omega), cell_set_other (by omega)]; exact h2)
  · rw [cell_set_other (by omega)]; exact cell_set_same (by rw [cell_set_other (by omega), cell_set_other (by omega), cell_set_other (by omega)]; exact h3)
  · exact cell_set_same (by rw [cell_set_other (by omega), cell_set_other (by omega), cell_set_other (by omega), cell_set_other (by omega)]; exact h4)
theorem SetsAt.put {w : World} {b k : Nat} {xs : List S5} {s : S5} (h : SetsAt w b 0 (xs.take k)) (hs : xs[k]? = some s) {m : Nat} (hr : Room w b m) (hm : k * 5 + 5 ≤ m) :
    SetsAt (((((w.setCell ⟨b, k * 5, none⟩ (.int .i64 s.region)).setCell ⟨b, k * 5 + 1, none⟩ (.int .i64 s.slot)).setCell ⟨b, k * 5 + 2, none⟩ (.int .i64 s.value)).setCell ⟨b, k * 5 + 3, none⟩ (.bool s.used)).setCell ⟨b, k * 5 + 4, none⟩ (.int .i64 s.version)) b 0 (xs.take (k + 1)) := by
  intro i t e
  rw [List.getElem?_take] at e
  split at e
  · rename_i hi
    by_cases hik : i = k
    · subst hik
      rw [hs] at e
      obtain rfl := Option.some.inj e
      obtain ⟨v0, d0, _⟩ := hr (i * 5) (by omega)
      obtain ⟨v1, d1, _⟩ := hr (i * 5 + 1) (by omega)
      obtain ⟨v2, d2, _⟩ := hr (i * 5 + 2) (by omega)
      obtain ⟨v3, d3, _⟩ := hr (i * 5 + 3) (by omega)
      obtain ⟨v4, d4, _⟩ := hr (i * 5 + 4) (by omega)
      simpa using SetAt.put s d0 d1 d2 d3 d4
    · have := h i t (by rw [List.getElem?_take, if_pos (by omega)]; exact e)
      exact ((((this.set (by omega) _).set (by omega) _).set (by omega) _).set (by omega) _).set (by omega) _
  · cases e
theorem toSetS_none (w : World) (a : Option Addr) (cap : Nat) : Calls Try.prog 67 #[.slice a 0 cap] w fun e w' =>
    e = .returned (.slice (some ⟨w.heap.size, 0, none⟩) 0 0) ∧ Below w.heap.size w w' ∧ w.heap.size < w'.heap.size := by
  have hmk : ∀ w : World, (Instr.makeSlice 42 (.int .i64 0) (.int .i64 0)).run Try.prog w = .ok (.slice (some ⟨w.heap.size, 0, none⟩) 0 0) (w.alloc (.cells (madeCells #[.int .i64 0, .int .i64 0, .int .i64 0, .bool false, .int .i64 0] 0) 96)) := fun w => by simpa using make_sets 0 (by omega) w
  go_enter Try.func67, Try.ntmps67
  go_wp2
  go_loopw [4] (fun i wr => i = .int .i64 0 ∧ Below w.heap.size w wr ∧ w.heap.size < wr.heap.size) (fun _ _ => 0)
  case atStart => exact ⟨rfl, (Below.refl _ _).alloc (Nat.le_refl _) _, by simp⟩
  case round =>
    obtain ⟨rfl, hbl, hsz⟩ := hrel
    go_wp2
    go_ret
    exact ⟨rfl, hbl, hsz⟩
structure C2 where
  head : Int
  value : Int
def C2.cells (s : C2) : List Value := [.int .i64 s.head, .int .i64 s.value]
structure CellAt (w : World) (b o : Nat) (s : C2) : Prop where
  c0 : w.cell? ⟨b, o, none⟩ = some (.int .i64 s.head)
  c1 : w.cell? ⟨b, o + 1, none⟩ = some (.int .i64 s.value)
theorem CellAt.below {w w' : World} {B b o : Nat} {s : C2} (h : CellAt w b o s) (hb : Below B w w') (hB : b < B) : CellAt w' b o s :=
  ⟨by rw [hb.cell hB]; exact h.c0, by rw [hb.cell hB]; exact h.c1⟩
theorem CellAt.regrown {w : World} {b o : Nat} {s : C2} (h : CellAt w b o s) (d : Nat) (os : Array Obj) : CellAt (grow (redrawn w d) os) b o s :=
  ⟨cell_regrown h.c0 d os, cell_regrown h.c1 d os⟩
def CellsAt (w : World) (b off : Nat) (xs : List C2) : Prop := ∀ i s, xs[i]? = some s → CellAt w b (off + i * 2) s
theorem CellsAt.below {w w' : World} {B b off : Nat} {xs : List C2} (h : CellsAt w b off xs) (hb : Below B w w') (hB : b < B) : CellsAt w' b off xs := fun i s e => (h i s e).below hb hB
def SlC (w : World) (B : Nat) (a : Option Addr) (n : Nat) (xs : List C2) : Prop := xs.length = n ∧ (n = 0 ∨ ∃ b off, a = some ⟨b, off, none⟩ ∧ b < B ∧ CellsAt w b off xs)
theorem SlC.below {w w' : World} {B : Nat} {a : Option Addr} {n : Nat} {xs : List C2} (h : SlC w B a n xs) (hb : Below B w w') : SlC w' B a n xs := by
  obtain ⟨h1, h2⟩ := h
  refine ⟨h1, ?_⟩
  rcases h2 with h2 | ⟨b, off, ha, hB, hx⟩
  · exact .inl h2
  · exact .inr ⟨b, off, ha, hB, hx.below hb hB⟩
theorem SlC.mono {w : World} {B B' : Nat} {a : Option Addr} {n : Nat} {xs : List C2} (h : SlC w B a n xs) (hB : B ≤ B') : SlC w B' a n xs := by
  obtain ⟨h1, h2⟩ := h
  refine ⟨h1, ?_⟩
  rcases h2 with h2 | ⟨b, off, ha, hb, hx⟩
  · exact .inl h2
  · exact .inr ⟨b, off, ha, by omega, hx⟩
theorem SlC.later {w w' : World} {a : Option Addr} {n : Nat} {xs : List C2} (h : SlC w w.heap.size a n xs) (hb : Below w.heap.size w w') : SlC w' w'.heap.size a n xs := (h.below hb).mono hb.size
theorem CellsAt.far {w : World} {b off : Nat} {xs : List C2} (h : CellsAt w b off xs) {p : Addr} (hp : p.block ≠ b) (v : Value) : CellsAt (w.setCell p v) b off xs := fun i s e =>
  ⟨by rw [cell_set_far hp]; exact (h i s e).c0, by rw [cell_set_far hp]; exact (h i s e).c1⟩
theorem CellAt.set {w : World} {b o p : Nat} {s : C2} (h : CellAt w b o s) (hp : p < o ∨ o + 2 ≤ p) (v : Value) : CellAt (w.setCell ⟨b, p, none⟩ v) b o s :=
  ⟨by rw [cell_set_other (by omega)]; exact h.c0, by rw [cell_set_other (by omega)]; exact h.c1⟩
theorem info_cell : (Try.prog.info? 119).map (fun i => (i.zero, i.size, i.bytes)) = some (some (.agg #[.int .i64 0, .int .i64 0]), 2, 16) := by kernel_rfl
theorem make_cells (n : Nat) (hn : n ≤ 1048576) (w : World) : (Instr.makeSlice 65 (.int .i64 (n : Int)) (.int .i64 (n : Int))).run Try.prog w = .ok (.slice (some ⟨w.heap.size, 0, none⟩) n n) (w.alloc (.cells (madeCells #[.int .i64 0, .int .i64 0] (n * 2)) 119)) := by
  obtain ⟨i, hi, hzz⟩ := Option.map_eq_some_iff.1 info_cell
  simp only [Prod.mk.injEq] at hzz
  obtain ⟨hz, hs, hb⟩ := hzz
  have := run_make (P := Try.prog) w 65 119 i _ Try.underlying65 hi hz .i64 .i64 (n : Int) (n : Int) (by omega) (by omega) (by rw [hb]; omega) (by omega)
  rw [hs] at this
  simpa [Value.cells] using this
theorem CellAt.put {w : World} {b o : Nat} {v0 v1 : Value} (s : C2) (h0 : w.cell? ⟨b, o, none⟩ = some v0) (h1 : w.cell? ⟨b, o + 1, none⟩ = some v1) :
    CellAt ((w.setCell ⟨b, o, none⟩ (.int .i64 s.head)).setCell ⟨b, o + 1, none⟩ (.int .i64 s.value)) b o s := by
  refine ⟨?_, ?_⟩
  · rw [cell_set_other (by omega)]; exact cell_set_same h0
  · exact cell_set_same (by rw [cell_set_other (by omega)]; exact h1)
theorem CellsAt.put {w : World} {b k : Nat} {xs : List C2} {s : C2} (h : CellsAt w b 0 (xs.take k)) (hs : xs[k]? = some s) {m : Nat} (hr : Room w b m) (hm : k * 2 + 2 ≤ m) :
    CellsAt ((w.setCell ⟨b, k * 2, none⟩ (.int .i64 s.head)).setCell ⟨b, k * 2 + 1, none⟩ (.int .i64 s.value)) b 0 (xs.take (k + 1)) := by
  intro i t e
  rw [List.getElem?_take] at e
  split at e
  · rename_i hi
    by_cases hik : i = k
    · subst hik
      rw [hs] at e
      obtain rfl := Option.some.inj e
      obtain ⟨v0, d0, _⟩ := hr (i * 2) (by omega)
      obtain ⟨v1, d1, _⟩ := hr (i * 2 + 1) (by omega)
      simpa using CellAt.put s d0 d1
    · have := h i t (by rw [List.getElem?_take, if_pos (by omega)]; exact e)
      exact (this.set (by omega) _).set (by omega) _
  · cases e
def at2 (xs : List C2) (i : Nat) : C2 := xs[i]?.getD ⟨0, 0⟩
theorem eqCell_same (w : World) (s : C2) : Calls Try.prog 118 #[.agg #[.int .i64 s.head, .int .i64 s.value], .agg #[.int .i64 s.head, .int .i64 s.value]] w fun e w' =>
    e = .returned (.bool true) ∧ Below w.heap.size w w' := by
  obtain ⟨h, v⟩ := s
  go_enter Try.func118, Try.ntmps118
  go_wp2
  go_ret
  exact ⟨rfl, ((Below.refl _ _).alloc (Nat.le_refl _) _).alloc (by simp) _⟩
set_option maxHeartbeats 1000000 in
theorem eqCellS_some (w : World) (b off cap b' off' cap' n : Nat) (xs : List C2) (hx : xs.length = n) (hn : n ≤ maxLen) (h1 : CellsAt w b off xs) (hb : b < w.heap.size) (h2 : CellsAt w b' off' xs) (hb' : b' < w.heap.size) :
    Calls Try.prog 117 #[.slice (some ⟨b, off, none⟩) n cap, .slice (some ⟨b', off', none⟩) n cap'] w fun e w' => e = .returned (.bool true) ∧ Below w.heap.size w w' := by
  unfold maxLen at hn
  go_enter Try.func117, Try.ntmps117
  go_wp2
  go_loopw [5] (fun i wr => ∃ k : Nat, k ≤ n ∧ i = .int .i64 k ∧ Below w.heap.size w wr) (fun i _ => n - (intOf i).toNat)
  case atStart => exact ⟨0, Nat.zero_le _, rfl, Below.refl _ _⟩
  case round =>
    obtain ⟨k, hk, rfl, hbl⟩ := hrel
    by_cases hlt : k < n
    · obtain ⟨s, hsk⟩ : ∃ s, xs[k]? = some s := ⟨xs[k]'(by omega), by simp⟩
      have t1 := (((h1 k s hsk).below hbl hb).regrown)
      have t2 := (((h2 k s hsk).below hbl hb').regrown)
      have c0 := fun d os => (t1 d os).c0
      have c1 := fun d os => (t1 d os).c1
      have e0 := fun d os => (t2 d os).c0
      have e1 := fun d os => (t2 d os).c1
      have cQ : ∀ d os, Calls Try.prog 118 #[.agg #[.int .i64 s.head, .int .i64 s.value], .agg #[.int .i64 s.head, .int .i64 s.value]] (grow (redrawn wr d) os) fun e w'' => e = .returned (.bool true) ∧ ∃ p : Regrown, w'' = grow (redrawn wr p.d) p.os := fun d os => Calls.regrown_of (eqCell_same _ s)
      have K : Hid (Below w.heap.size w wr) := hbl
      clear t1 t2 hbl hsk h1 h2
      go_wp2_with fail
      refine wp_region_quiet_below (by kernel_rfl) (by kernel_rfl) ?_
      repeat (quiet_step (exact cQ _ _))
      refine wpQuiet_nil ?_
      intro _ hw'
      obtain ⟨⟨dq, osq⟩, hw''⟩ := hw'
      subst hw''
      have bq := below_regrown wr dq osq
      go_wp2
      exact ⟨⟨k + 1, by omega, by simp, K.out.trans (bq.mono K.out.size)⟩, by simp [intOf]; omega⟩
    · have : k = n := by omega
      subst this
      have hd : decide (k < k) = false := by simp
      go_wp2
      go_ret
      exact ⟨rfl, hbl⟩
theorem eqCellS_none (w : World) (a a' : Option Addr) (cap cap' : Nat) : Calls Try.prog 117 #[.slice a 0 cap, .slice a' 0 cap'] w fun e w' => e = .returned (.bool true) ∧ Below w.heap.size w w' := by
  go_enter Try.func117, Try.ntmps117
  go_wp2
  go_loopw [5] (fun i wr => i = .int .i64 0 ∧ Below w.heap.size w wr) (fun _ _ => 0)
  case atStart => exact ⟨rfl, Below.refl _ _⟩
  case round =>
    obtain ⟨rfl, hbl⟩ := hrel
    go_wp2
    go_ret
    exact ⟨rfl, hbl⟩
theorem eqCellS_any (w : World) (a a' : Option Addr) (n cap cap' : Nat) (xs : List C2) (hn : n ≤ maxLen) (h1 : SlC w w.heap.size a n xs) (h2 : SlC w w.heap.size a' n xs) :
    Calls Try.prog 117 #[.slice a n cap, .slice a' n cap'] w fun e w' => e = .returned (.bool true) ∧ Below w.heap.size w w' := by
  obtain ⟨hx, h1⟩ := h1
  obtain ⟨_, h2⟩ := h2
  rcases h1 with rfl | ⟨b, off, rfl, hb, h1⟩
  · exact eqCellS_none w a a' cap cap'
  · rcases h2 with rfl | ⟨b', off', rfl, hb', h2⟩
    · exact eqCellS_none w _ a' cap cap'
    · exact eqCellS_some w b off cap b' off' cap' n xs hx hn h1 hb h2 hb'
theorem flat2 : ∀ (xs : List C2) (i : Nat) (s : C2) (j : Nat), xs[i]? = some s → j < 2 → (xs.flatMap C2.cells)[i * 2 + j]? = s.cells[j]?
  | [], i, s, j, h, _ => by simp at h
  | x :: xs, 0, s, j, h, hj => by
    simp at h
    subst h
    rw [List.flatMap_cons, List.getElem?_append_left (by simp [C2.cells]; omega)]
    simp
  | x :: xs, i + 1, s, j, h, hj => by
    have hl : x.cells.length = 2 := rfl
    rw [List.flatMap_cons, List.getElem?_append_right (by rw [hl]; omega), hl, show (i + 1) * 2 + j - 2 = i * 2 + j by omega]
    exact flat2 xs i s j (by simpa using h) hj
theorem row_cellsAt {w : World} {g : Nat} {t : TypeId} {xs : List C2} (h : w.heap[g]? = some (.cells (xs.flatMap C2.cells).toArray t (0, 0))) : CellsAt w g 0 xs := by
  intro i s e
  have f := fun j hj => flat2 xs i s j e hj
  have key : ∀ j, w.cell? ⟨g, j, none⟩ = (xs.flatMap C2.cells)[j]? := fun j => by rw [cell_of_row w g j _ t (0, 0) h]; simp
  rw [Nat.zero_add]
  exact ⟨by rw [key]; simpa [C2.cells] using f 0 (by omega), by rw [key]; simpa [C2.cells] using f 1 (by omega)⟩
theorem row_room {w : World} {g : Nat} {t : TypeId} {cs : Array Value} (h : w.heap[g]? = some (.cells cs t (0, 0))) : Room w g cs.size := by
  intro j hj
  exact ⟨cs[j], by rw [cell_of_row w g j _ t (0, 0) h, Array.getElem?_eq_getElem hj], by simp [World.frozen?, h]⟩
end Go.Proofs.Ytcbfnajpcaipkaa