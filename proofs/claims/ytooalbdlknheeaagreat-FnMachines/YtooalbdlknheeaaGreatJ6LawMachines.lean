/- MkA; MkB; MkC: joined. -/
import Derived.Test.YtooalbdlknheeaaGreatRows
import Derived.Test.YtooalbdlknheeaaGreatJ3LawMachines
import Derived.WalkKit
import Derived.WalkSpells
import Derived.WalkLawsBesides
import Derived.Below
import Derived.Test.YtooalbdlknheeaaGreatMacTo4J
/- The laws' marks in rows of cells and of Sets, from any number on, and that they stand. -/
namespace Go.Proofs.YtooalbdlknheeaaGreat
open Go.RowKit
def mkCell (k : Int) (j : Nat) : C2 := ⟨k + 2 * (j : Int), k + 2 * (j : Int) + 1⟩
def mkCells (k : Int) (n : Nat) : List C2 := (List.range n).map (mkCell k)
theorem mkCells_at {k : Int} {n j : Nat} (h : j < n) : (mkCells k n)[j]? = some (mkCell k j) := by simp [mkCells, h]
theorem mkCells_len (k : Int) (n : Nat) : (mkCells k n).length = n := by simp [mkCells]
set_option maxHeartbeats 4000000 in
theorem markCellS_k (w : World) (b n cap : Nat) (k : Int) (hn : n ≤ 1048576) (hk : 0 ≤ k) (hk' : k ≤ 1000000000) (hr : Room w b (n * 2)) :
    Calls Tryz.prog 36 #[.slice (some ⟨b, 0, none⟩) n cap, .int .i64 k] w fun e w' => e = .returned (.int .i64 (k + 2 * (n : Int))) ∧ OnlyBlock b w w' ∧ CellsAt w' b 0 (mkCells k n) ∧ Room w' b (n * 2) := by
  go_enter Tryz.func36, Tryz.ntmps36
  go_wp2
  go_loopw [1, 5] (fun v1 v5 wr => ∃ j : Nat, j ≤ n ∧ v5 = .int .i64 j ∧ v1 = .int .i64 (k + 2 * (j : Int)) ∧ OnlyBlock b w wr ∧ Room wr b (n * 2) ∧ CellsAt wr b 0 ((mkCells k n).take j)) (fun _ v5 _ => n - (intOf v5).toNat)
  case atStart => exact ⟨0, Nat.zero_le _, rfl, by simp, OnlyBlock.refl _ _, hr, fun i s e => by simp at e⟩
  case round =>
    obtain ⟨j, hj, rfl, rfl, hob, hro, hse⟩ := hrel
    by_cases hlt : j < n
    · obtain ⟨v0, d0, f0⟩ := hro (j * 2) (by omega)
      obtain ⟨v1, d1, f1⟩ := hro (j * 2 + 1) (by omega)
      have K : Hid (OnlyBlock b w wr ∧ Room wr b (n * 2) ∧ CellsAt wr b 0 ((mkCells k n).take j)) := ⟨hob, hro, hse⟩
      clear hob hro hse hr
      go_wp2
      obtain ⟨hob, hro, hse⟩ := K.out
      refine ⟨⟨j + 1, by omega, by simp, by congr 1; push_cast; omega, (hob.setCell _ _).setCell _ _, (hro.set _).set _, hse.put (s := mkCell k j) (mkCells_at hlt) hro (by omega)⟩, by simp [intOf]; omega⟩
    · have : j = n := by omega
      subst this
      have hd : decide ((j : Int) < (j : Int)) = false := by simp
      rw [List.take_of_length_le (by rw [mkCells_len]; omega)] at hse
      have K : Hid (OnlyBlock b w wr ∧ CellsAt wr b 0 (mkCells k j) ∧ Room wr b (j * 2)) := ⟨hob, hse, hro⟩
      clear hob hro hse hr
      go_wp2
      go_ret
      exact ⟨rfl, K.out.1, K.out.2.1, K.out.2.2⟩
set_option maxHeartbeats 1000000 in
theorem markCellS_nil (w : World) (a : Option Addr) (cap : Nat) (k : Int) : Calls Tryz.prog 36 #[.slice a 0 cap, .int .i64 k] w fun e w' => e = .returned (.int .i64 k) ∧ w' = w := by
  go_enter Tryz.func36, Tryz.ntmps36
  go_wp2
  go_loop [1, 5] (fun v1 v5 => v1 = .int .i64 k ∧ v5 = .int .i64 0) (fun _ _ => 0)
  case atStart => exact ⟨rfl, rfl⟩
  case round =>
    obtain ⟨rfl, rfl⟩ := hrel
    go_wp2
    go_ret
    exact ⟨rfl, rfl⟩
set_option maxHeartbeats 4000000 in
theorem heldCellS_k (w : World) (a : Option Addr) (n cap : Nat) (k : Int) (hn : n ≤ 1048576) (hk : 0 ≤ k) (hk' : k ≤ 1000000000) (hs : SlC w w.heap.size a n (mkCells k n)) :
    Calls Tryz.prog 45 #[.slice a n cap, .int .i64 k] w fun e w' => e = .returned (.int .i64 (k + 2 * (n : Int))) ∧ w' = w := by
  obtain ⟨_, hs⟩ := hs
  go_enter Tryz.func45, Tryz.ntmps45
  go_wp2
  go_loop [1, 5] (fun v1 v5 => ∃ j : Nat, j ≤ n ∧ v5 = .int .i64 j ∧ v1 = .int .i64 (k + 2 * (j : Int))) (fun _ v5 => n - (intOf v5).toNat)
  case atStart => exact ⟨0, Nat.zero_le _, rfl, by simp⟩
  case round =>
    obtain ⟨j, hj, rfl, rfl⟩ := hrel
    by_cases hlt : j < n
    · rcases hs with hs | ⟨b, off, rfl, hb, h1⟩
      · omega
      · obtain ⟨c0, c1⟩ := h1 j (mkCell k j) (mkCells_at hlt)
        simp only [mkCell] at c0 c1
        clear h1
        go_wp2
        exact ⟨⟨j + 1, by omega, by simp, by congr 1; push_cast; omega⟩, by simp [intOf]; omega⟩
    · have : j = n := by omega
      subst this
      have hd : decide ((j : Int) < (j : Int)) = false := by simp
      clear hs
      go_wp2
      go_ret
      exact ⟨rfl, rfl⟩
def mkSet (k : Int) (j : Nat) : S5 := ⟨k + 5 * (j : Int), k + 5 * (j : Int) + 1, k + 5 * (j : Int) + 1 + 1, (k + 5 * (j : Int) + 1 + 1 + 1) % 3 == 0, k + 5 * (j : Int) + 1 + 1 + 1 + 1⟩
def mkSets (k : Int) (n : Nat) : List S5 := (List.range n).map (mkSet k)
theorem mkSets_at {k : Int} {n j : Nat} (h : j < n) : (mkSets k n)[j]? = some (mkSet k j) := by simp [mkSets, h]
theorem mkSets_len (k : Int) (n : Nat) : (mkSets k n).length = n := by simp [mkSets]
set_option maxHeartbeats 4000000 in
theorem markSetS_k (w : World) (b n cap : Nat) (k : Int) (hn : n ≤ 1048576) (hk : 0 ≤ k) (hk' : k ≤ 1000000000) (hr : Room w b (n * 5)) :
    Calls Tryz.prog 103 #[.slice (some ⟨b, 0, none⟩) n cap, .int .i64 k] w fun e w' => e = .returned (.int .i64 (k + 5 * (n : Int))) ∧ OnlyBlock b w w' ∧ SetsAt w' b 0 (mkSets k n) ∧ Room w' b (n * 5) := by
  go_enter Tryz.func103, Tryz.ntmps103
  go_wp2
  go_loopw [1, 5] (fun v1 v5 wr => ∃ j : Nat, j ≤ n ∧ v5 = .int .i64 j ∧ v1 = .int .i64 (k + 5 * (j : Int)) ∧ OnlyBlock b w wr ∧ Room wr b (n * 5) ∧ SetsAt wr b 0 ((mkSets k n).take j)) (fun _ v5 _ => n - (intOf v5).toNat)
  case atStart => exact ⟨0, Nat.zero_le _, rfl, by simp, OnlyBlock.refl _ _, hr, fun i s e => by simp at e⟩
  case round =>
    obtain ⟨j, hj, rfl, rfl, hob, hro, hse⟩ := hrel
    by_cases hlt : j < n
    · obtain ⟨v0, d0, f0⟩ := hro (j * 5) (by omega)
      obtain ⟨v1, d1, f1⟩ := hro (j * 5 + 1) (by omega)
      obtain ⟨v2, d2, f2⟩ := hro (j * 5 + 2) (by omega)
      obtain ⟨v3, d3, f3⟩ := hro (j * 5 + 3) (by omega)
      obtain ⟨v4, d4, f4⟩ := hro (j * 5 + 4) (by omega)
      have K : Hid (OnlyBlock b w wr ∧ Room wr b (n * 5) ∧ SetsAt wr b 0 ((mkSets k n).take j)) := ⟨hob, hro, hse⟩
      clear hob hro hse hr
      go_wp2
      obtain ⟨hob, hro, hse⟩ := K.out
      refine ⟨⟨j + 1, by omega, by simp, by congr 1; push_cast; omega, ((((hob.setCell _ _).setCell _ _).setCell _ _).setCell _ _).setCell _ _, ((((hro.set _).set _).set _).set _).set _, hse.put (s := mkSet k j) (mkSets_at hlt) hro (by omega)⟩, by simp [intOf]; omega⟩
    · have : j = n := by omega
      subst this
      have hd : decide ((j : Int) < (j : Int)) = false := by simp
      rw [List.take_of_length_le (by rw [mkSets_len]; omega)] at hse
      have K : Hid (OnlyBlock b w wr ∧ SetsAt wr b 0 (mkSets k j) ∧ Room wr b (j * 5)) := ⟨hob, hse, hro⟩
      clear hob hro hse hr
      go_wp2
      go_ret
      exact ⟨rfl, K.out.1, K.out.2.1, K.out.2.2⟩
set_option maxHeartbeats 1000000 in
theorem markSetS_nil (w : World) (a : Option Addr) (cap : Nat) (k : Int) : Calls Tryz.prog 103 #[.slice a 0 cap, .int .i64 k] w fun e w' => e = .returned (.int .i64 k) ∧ w' = w := by
  go_enter Tryz.func103, Tryz.ntmps103
  go_wp2
  go_loop [1, 5] (fun v1 v5 => v1 = .int .i64 k ∧ v5 = .int .i64 0) (fun _ _ => 0)
  case atStart => exact ⟨rfl, rfl⟩
  case round =>
    obtain ⟨rfl, rfl⟩ := hrel
    go_wp2
    go_ret
    exact ⟨rfl, rfl⟩
set_option maxHeartbeats 4000000 in
theorem heldSetS_k (w : World) (a : Option Addr) (n cap : Nat) (k : Int) (hn : n ≤ 1048576) (hk : 0 ≤ k) (hk' : k ≤ 1000000000) (hs : Sl w w.heap.size a n (mkSets k n)) :
    Calls Tryz.prog 105 #[.slice a n cap, .int .i64 k] w fun e w' => e = .returned (.int .i64 (k + 5 * (n : Int))) ∧ w' = w := by
  obtain ⟨_, hs⟩ := hs
  go_enter Tryz.func105, Tryz.ntmps105
  go_wp2
  go_loop [1, 5] (fun v1 v5 => ∃ j : Nat, j ≤ n ∧ v5 = .int .i64 j ∧ v1 = .int .i64 (k + 5 * (j : Int))) (fun _ v5 => n - (intOf v5).toNat)
  case atStart => exact ⟨0, Nat.zero_le _, rfl, by simp⟩
  case round =>
    obtain ⟨j, hj, rfl, rfl⟩ := hrel
    by_cases hlt : j < n
    · rcases hs with hs | ⟨b, off, rfl, hb, h1⟩
      · omega
      · obtain ⟨c0, c1, c2, c3, c4⟩ := h1 j (mkSet k j) (mkSets_at hlt)
        simp only [mkSet] at c0 c1 c2 c3 c4
        clear h1
        go_wp2
        exact ⟨⟨j + 1, by omega, by simp, by congr 1; push_cast; omega⟩, by simp [intOf]; omega⟩
    · have : j = n := by omega
      subst this
      have hd : decide ((j : Int) < (j : Int)) = false := by simp
      clear hs
      go_wp2
      go_ret
      exact ⟨rfl, rfl⟩
end Go.Proofs.YtooalbdlknheeaaGreat
/- Rows of structs of a call's own, one of them turned; worlds in which some blocks alone are turned. No program in sight. -/
namespace Go.Proofs.YtooalbdlknheeaaGreat
open Go.RowKit
/-- Nothing but blocks that P holds of is turned; blocks may come. -/
structure KeptP (P : Nat → Prop) (w w' : World) : Prop where
  os : w'.os = w.os
  tape : w'.tape = w.tape
  output : w'.output = w.output
  size : w.heap.size ≤ w'.heap.size
  block : ∀ q, q < w.heap.size → ¬ P q → w'.heap[q]? = w.heap[q]?
theorem KeptP.refl (P : Nat → Prop) (w : World) : KeptP P w w := ⟨rfl, rfl, rfl, Nat.le_refl _, fun _ _ _ => rfl⟩
theorem KeptP.trans {P : Nat → Prop} {a b c : World} (h : KeptP P a b) (k : KeptP P b c) : KeptP P a c :=
  ⟨k.os.trans h.os, k.tape.trans h.tape, k.output.trans h.output, Nat.le_trans h.size k.size, fun q hq hp => (k.block q (Nat.lt_of_lt_of_le hq h.size) hp).trans (h.block q hq hp)⟩
theorem KeptP.mono {P Q : Nat → Prop} {a b : World} (h : KeptP P a b) (hp : ∀ q, P q → Q q) : KeptP Q a b := ⟨h.os, h.tape, h.output, h.size, fun q hq hn => h.block q hq (fun e => hn (hp q e))⟩
theorem KeptP.of_only {P : Nat → Prop} {c : Nat} {a b : World} (h : OnlyBlock c a b) (hc : P c) : KeptP P a b := ⟨h.os, h.tape, h.output, Nat.le_of_eq h.size.symm, fun q _ hn => h.block q (fun e => hn (e ▸ hc))⟩
theorem KeptP.of_below {P : Nat → Prop} {a b : World} (h : Below a.heap.size a b) : KeptP P a b := ⟨h.os, h.tape, h.output, h.size, fun q hq _ => h.block q hq⟩
theorem KeptP.of_set {P : Nat → Prop} (w : World) {c o : Nat} (v : Value) (hc : P c) : KeptP P w (w.setCell ⟨c, o, none⟩ v) := .of_only ((OnlyBlock.refl c w).setCell o v) hc
theorem KeptP.below {P : Nat → Prop} {B : Nat} {a b : World} (h : KeptP P a b) (hp : ∀ q, P q → B ≤ q) (hB : B ≤ a.heap.size) : Below B a b := ⟨h.os, h.tape, h.output, h.size, fun q hq => h.block q (by omega) (fun e => by have := hp q e; omega)⟩
theorem OwnG.set {α : Type} {sz : Nat} {hd : α → List Int} {ln : α → Nat} {At : World → Nat → α → Prop} (hAt : ∀ (w w' : World) (b : Nat) (r : α), w'.heap[b]? = w.heap[b]? → At w b r → At w' b r) {w V : World} {base b n j : Nat} {rs : List α} {g : Nat → Nat} {r r' : α} (h : OwnG sz hd ln At w base b n rs g) (hj : rs[j]? = some r) (hl : ln r' = ln r) (hz : 0 < sz) (hh : ∀ r : α, (hd r).length < sz)
    (hs : w.heap.size ≤ V.heap.size) (hb : ∀ x, x < w.heap.size → x ≠ b → x ≠ g j → V.heap[x]? = w.heap[x]?) (hold : ∀ o, (o < j * sz ∨ j * sz + (sz - 1) ≤ o) → V.cell? ⟨b, o, none⟩ = w.cell? ⟨b, o, none⟩) (hhd : ∀ t z, (hd r')[t]? = some z → V.cell? ⟨b, j * sz + t, none⟩ = some (.int .i64 z)) (hat : At V (g j) r') :
    OwnG sz hd ln At V base b n (rs.set j r') g := by
  have hjn := h.idx hj
  have hlen := h.len
  have split : ∀ i y, (rs.set j r')[i]? = some y → (i = j ∧ y = r') ∨ (i ≠ j ∧ rs[i]? = some y) := fun i y e => by
    by_cases hi : i = j
    · subst hi
      rw [List.getElem?_set_self (by omega)] at e
      exact .inl ⟨rfl, (Option.some.inj e).symm⟩
    · rw [List.getElem?_set_ne (fun e => hi e.symm)] at e
      exact .inr ⟨hi, e⟩
  have far : ∀ i t, i ≠ j → t < sz → (i * sz + t < j * sz ∨ j * sz + (sz - 1) ≤ i * sz + t) := fun i t hi ht => by
    rcases Nat.lt_or_gt_of_ne hi with hi | hi
    · have : (i + 1) * sz ≤ j * sz := Nat.mul_le_mul_right sz (by omega)
      rw [Nat.add_mul] at this; omega
    · have : (j + 1) * sz ≤ i * sz := Nat.mul_le_mul_right sz (by omega)
      rw [Nat.add_mul] at this; omega
  refine ⟨by simp [hlen], fun i y e t z ht => ?_, fun i y e => ?_, h.low, fun i hi => Nat.lt_of_lt_of_le (h.lt i hi) hs, h.ne, fun i y e => ?_, h.inj⟩
  · rcases split i y e with ⟨rfl, rfl⟩ | ⟨hi, e⟩
    · exact hhd t z ht
    · rw [hold _ (far i t hi (Nat.lt_trans (List.getElem?_eq_some_iff.1 ht).1 (hh y)))]; exact h.head i y e t z ht
  · rcases split i y e with ⟨rfl, rfl⟩ | ⟨hi, e⟩
    · rw [hold _ (.inr (Nat.le_refl _)), hl]; exact h.tail i r hj
    · rw [hold _ (far i _ hi (by omega))]; exact h.tail i y e
  · rcases split i y e with ⟨rfl, rfl⟩ | ⟨hi, e⟩
    · exact hat
    · have hin := h.idx e
      exact hAt _ _ _ _ (hb _ (h.lt i hin) (h.ne i hin) (fun e' => hi (h.inj i j hin hjn e'))) (h.sub i y e)
/-- The first j of rs are f's. -/
def mix {α : Type} (f : Nat → α) (rs : List α) (j : Nat) : List α := (List.range rs.length).map fun i => if i < j then f i else rs[i]?.getD (f i)
theorem mix_at {α : Type} (f : Nat → α) (rs : List α) (j i : Nat) (h : i < rs.length) : (mix f rs j)[i]? = some (if i < j then f i else rs[i]?.getD (f i)) := by simp [mix, h]
theorem mix_len {α : Type} (f : Nat → α) (rs : List α) (j : Nat) : (mix f rs j).length = rs.length := by simp [mix]
theorem mix_zero {α : Type} (f : Nat → α) (rs : List α) : mix f rs 0 = rs := by
  apply List.ext_getElem?
  intro i
  by_cases h : i < rs.length
  · rw [mix_at f rs 0 i h]; simp [h]
  · rw [List.getElem?_eq_none (by rw [mix_len]; omega), List.getElem?_eq_none (by omega)]
theorem mix_all {α : Type} (f : Nat → α) (rs : List α) : mix f rs rs.length = (List.range rs.length).map f := by
  apply List.ext_getElem?
  intro i
  by_cases h : i < rs.length
  · rw [mix_at f rs _ i h]; simp [h]
  · rw [List.getElem?_eq_none (by rw [mix_len]; omega), List.getElem?_eq_none (by simp; omega)]
theorem mix_succ {α : Type} (f : Nat → α) (rs : List α) (j : Nat) (hj : j < rs.length) : mix f rs (j + 1) = (mix f rs j).set j (f j) := by
  apply List.ext_getElem?
  intro i
  by_cases h : i < rs.length
  · rw [mix_at f rs _ i h]
    by_cases e : i = j
    · subst e; rw [List.getElem?_set_self (by rw [mix_len]; exact h), if_pos (by omega)]
    · rw [List.getElem?_set_ne (fun k => e k.symm), mix_at f rs _ i h]
      by_cases hi : i < j
      · rw [if_pos hi, if_pos (by omega)]
      · rw [if_neg hi, if_neg (by omega)]
  · rw [List.getElem?_eq_none (by rw [mix_len]; omega), List.getElem?_eq_none (by rw [List.length_set, mix_len]; omega)]
theorem mix_cur {α : Type} (f : Nat → α) (rs : List α) (j : Nat) {r : α} (h : rs[j]? = some r) : (mix f rs j)[j]? = some r := by
  have hj := (List.getElem?_eq_some_iff.1 h).1
  rw [mix_at f rs j j hj, if_neg (by omega), h]; rfl
/-- How far the marks of the first i have come. -/
def offG {α : Type} (c : α → Nat) (rs : List α) (i : Nat) : Nat := ((rs.map c).take i).sum
theorem offG_zero {α : Type} (c : α → Nat) (rs : List α) : offG c rs 0 = 0 := by simp [offG]
theorem offG_succ {α : Type} (c : α → Nat) {rs : List α} {i : Nat} {r : α} (h : rs[i]? = some r) : offG c rs (i + 1) = offG c rs i + c r := by
  unfold offG
  exact sum_take_succ (by rw [List.getElem?_map, h]; rfl)
theorem offG_le {α : Type} (c : α → Nat) (rs : List α) (i : Nat) : offG c rs i ≤ offG c rs rs.length := by
  unfold offG
  rw [List.take_of_length_le (i := rs.length) (by simp)]
  exact sum_take_le _ _
def cK (k : K2) : Nat := 1 + 2 * k.cells.length
def cR (r : R4) : Nat := 3 + 5 * r.sets.length
def mkK (ks : List K2) (k : Int) (i : Nat) : K2 := ⟨k + offG cK ks i, mkCells (k + offG cK ks i + 1) (atK ks i).cells.length⟩
def mkR (rs : List R4) (k : Int) (i : Nat) : R4 := ⟨k + offG cR rs i, k + offG cR rs i + 1, k + offG cR rs i + 1 + 1, mkSets (k + offG cR rs i + 1 + 1 + 1) (atR rs i).sets.length⟩
def mkKs (ks : List K2) (k : Int) : List K2 := (List.range ks.length).map (mkK ks k)
def mkRs (rs : List R4) (k : Int) : List R4 := (List.range rs.length).map (mkR rs k)
end Go.Proofs.YtooalbdlknheeaaGreat
/- The laws' marks in rows of copies and of records of a call's own. -/
namespace Go.Proofs.YtooalbdlknheeaaGreat
open Go.RowKit
def OfRow (b n : Nat) (g : Nat → Nat) (q : Nat) : Prop := q = b ∨ ∃ i, i < n ∧ q = g i
set_option maxHeartbeats 4000000 in
theorem markCopyS_own (w : World) (b n cap : Nat) (ks : List K2) (g : Nat → Nat) (k : Int) (hk : 0 ≤ k) (hk' : k ≤ 500000000) (ht : offG cK ks ks.length ≤ 100000000) (hn : n ≤ 1048576) (hl : ∀ c ∈ ks, c.cells.length ≤ 1048576) (hbw : b < w.heap.size) (hr : Room w b (n * 2)) (ho : OwnG 2 hdK lnK AtK w 0 b n ks g) :
    Calls Tryz.prog 94 #[.slice (some ⟨b, 0, none⟩) n cap, .int .i64 k] w fun e w' => e = .returned (.int .i64 (k + offG cK ks ks.length)) ∧ KeptP (OfRow b n g) w w' ∧ OwnG 2 hdK lnK AtK w' 0 b n (mkKs ks k) g ∧ Room w' b (n * 2) := by
  have hlen := ho.len
  have HO : Hid (OwnG 2 hdK lnK AtK w 0 b n ks g ∧ Room w b (n * 2) ∧ b < w.heap.size ∧ (∀ c ∈ ks, c.cells.length ≤ 1048576) ∧ ks.length = n) := ⟨ho, hr, hbw, hl, hlen⟩
  clear ho hr hbw hl hlen
  go_enter Tryz.func94, Tryz.ntmps94
  go_wp2
  go_loopw [1, 5] (fun v1 v5 wr => ∃ j : Nat, j ≤ n ∧ v5 = .int .i64 j ∧ v1 = .int .i64 (k + (offG cK ks j : Int)) ∧ KeptP (OfRow b n g) w wr ∧ OwnG 2 hdK lnK AtK wr 0 b n (mix (mkK ks k) ks j) g ∧ Room wr b (n * 2)) (fun _ v5 _ => n - (intOf v5).toNat)
  case atStart => exact ⟨0, Nat.zero_le _, rfl, by rw [offG_zero]; simp, KeptP.refl _ _, by rw [mix_zero]; exact HO.out.1, HO.out.2.1⟩
  case round =>
    obtain ⟨j, hj, rfl, rfl, hkp, how, hro⟩ := hrel
    have hb2 := offG_le cK ks j
    by_cases hlt : j < n
    · have hks : ks[j]? = some (atK ks j) := atK_of (by rw [HO.out.2.2.2.2]; exact hlt)
      have hcur := mix_cur (mkK ks k) ks j hks
      obtain ⟨v0, d0, f0⟩ := hro (j * 2) (by omega)
      obtain ⟨cap', c1, hcp⟩ := how.tail j _ hcur
      have hat := how.sub j _ hcur
      have hgn := how.ne j hlt
      have hgl := how.lt j hlt
      have hln : (atK ks j).cells.length ≤ 1048576 := HO.out.2.2.2.1 _ (List.mem_of_getElem? hks)
      have hoff : Hid (offG cK ks (j + 1) = offG cK ks j + cK (atK ks j)) := offG_succ cK hks
      have K : Hid (KeptP (OfRow b n g) w wr ∧ OwnG 2 hdK lnK AtK wr 0 b n (mix (mkK ks k) ks j) g ∧ Room wr b (n * 2) ∧ (mix (mkK ks k) ks j)[j]? = some (atK ks j)) := ⟨hkp, how, hro, hcur⟩
      have hro' : Room (wr.setCell ⟨b, j * 2, none⟩ (.int .i64 (k + (offG cK ks j : Int)))) (g j) ((atK ks j).cells.length * 2) := by
        refine hat.2.of_block ?_
        exact Below.heap_setCell _ _ _ _ hgn
      have hm := markCellS_k (wr.setCell ⟨b, j * 2, none⟩ (.int .i64 (k + (offG cK ks j : Int)))) (g j) (atK ks j).cells.length cap' (k + (offG cK ks j : Int) + 1) hln (by omega) (by omega) hro'
      simp only [lnK, Nat.reduceSub] at c1
      clear hkp how hro hcur hat hro' hcp hks
      go_wp2_with fail
      refine hm.mono ?_
      clear hm
      rintro e w1 ⟨rfl, hob, hce, hrm⟩
      go_wp2
      obtain ⟨hkp, how, hro, hcur⟩ := K.out
      have hs1 : (wr.setCell ⟨b, j * 2, none⟩ (.int .i64 (k + (offG cK ks j : Int)))).heap.size = wr.heap.size := by simp [World.setCell]
      have cb : ∀ o, w1.cell? ⟨b, o, none⟩ = (wr.setCell ⟨b, j * 2, none⟩ (.int .i64 (k + (offG cK ks j : Int)))).cell? ⟨b, o, none⟩ := fun o => World.cell?_of_block (a := ⟨b, o, none⟩) (hob.block b (fun e => hgn e.symm))
      refine ⟨⟨j + 1, by omega, by simp, by rw [hoff.out]; simp [cK]; omega, ?_, ?_, ?_⟩, by simp [intOf]; omega⟩
      · exact (hkp.trans (KeptP.of_set wr _ (.inl rfl))).trans (KeptP.of_only hob (.inr ⟨j, hlt, rfl⟩))
      · rw [mix_succ _ _ _ (by rw [HO.out.2.2.2.2]; exact hlt)]
        refine how.set AtK.of_block hcur (by simp [lnK, mkK, mkCells_len]) (by omega) (by intro r; simp [hdK]) (by rw [hob.size, hs1]; exact Nat.le_refl _) (fun x _ hx hg => (hob.block x hg).trans (Below.heap_setCell _ _ _ _ hx)) (fun o ho => ?_) (fun t z hz => ?_) ⟨by rw [mkK]; exact hce, by simp only [mkK, mkCells_len]; exact hrm⟩
        · rw [cb o, cell_set_other (by omega)]
        · have ht0 : t = 0 := by
            have := (List.getElem?_eq_some_iff.1 hz).1
            simp [hdK] at this; exact this
          subst ht0
          simp [hdK, mkK] at hz
          subst hz
          rw [Nat.add_zero, cb]
          exact cell_set_same d0
      · exact (hro.set _).of_block (hob.block b (fun e => hgn e.symm))
    · have : j = n := by omega
      subst this
      have hd : decide ((j : Int) < (j : Int)) = false := by simp
      have hkl : ks.length = j := HO.out.2.2.2.2
      have K : Hid (KeptP (OfRow b j g) w wr ∧ OwnG 2 hdK lnK AtK wr 0 b j (mkKs ks k) g ∧ Room wr b (j * 2)) := ⟨hkp, by
        have := mix_all (mkK ks k) ks
        rw [hkl] at this
        rw [this, ← hkl] at how
        rw [← hkl]; exact how, hro⟩
      have H : Hid (ks.length = j) := hkl
      clear hkp how hro hkl
      go_wp2
      go_ret
      exact ⟨by rw [H.out]; rfl, K.out.1, K.out.2.1, K.out.2.2⟩
set_option maxHeartbeats 4000000 in
theorem markRecordS_own (w : World) (b n cap : Nat) (ks : List R4) (g : Nat → Nat) (k : Int) (hk : 0 ≤ k) (hk' : k ≤ 500000000) (ht : offG cR ks ks.length ≤ 100000000) (hn : n ≤ 1048576) (hl : ∀ c ∈ ks, c.sets.length ≤ 1048576) (hbw : b < w.heap.size) (hr : Room w b (n * 4)) (ho : OwnG 4 hdR lnR AtR w 0 b n ks g) :
    Calls Tryz.prog 95 #[.slice (some ⟨b, 0, none⟩) n cap, .int .i64 k] w fun e w' => e = .returned (.int .i64 (k + offG cR ks ks.length)) ∧ KeptP (OfRow b n g) w w' ∧ OwnG 4 hdR lnR AtR w' 0 b n (mkRs ks k) g ∧ Room w' b (n * 4) := by
  have hlen := ho.len
  have HO : Hid (OwnG 4 hdR lnR AtR w 0 b n ks g ∧ Room w b (n * 4) ∧ b < w.heap.size ∧ (∀ c ∈ ks, c.sets.length ≤ 1048576) ∧ ks.length = n) := ⟨ho, hr, hbw, hl, hlen⟩
  clear ho hr hbw hl hlen
  go_enter Tryz.func95, Tryz.ntmps95
  go_wp2
  go_loopw [1, 5] (fun v1 v5 wr => ∃ j : Nat, j ≤ n ∧ v5 = .int .i64 j ∧ v1 = .int .i64 (k + (offG cR ks j : Int)) ∧ KeptP (OfRow b n g) w wr ∧ OwnG 4 hdR lnR AtR wr 0 b n (mix (mkR ks k) ks j) g ∧ Room wr b (n * 4)) (fun _ v5 _ => n - (intOf v5).toNat)
  case atStart => exact ⟨0, Nat.zero_le _, rfl, by rw [offG_zero]; simp, KeptP.refl _ _, by rw [mix_zero]; exact HO.out.1, HO.out.2.1⟩
  case round =>
    obtain ⟨j, hj, rfl, rfl, hkp, how, hro⟩ := hrel
    have hb2 := offG_le cR ks j
    by_cases hlt : j < n
    · have hks : ks[j]? = some (atR ks j) := atR_of (by rw [HO.out.2.2.2.2]; exact hlt)
      have hcur := mix_cur (mkR ks k) ks j hks
      obtain ⟨v0, d0, f0⟩ := hro (j * 4) (by omega)
      obtain ⟨v1, d1, f1⟩ := hro (j * 4 + 1) (by omega)
      obtain ⟨v2, d2, f2⟩ := hro (j * 4 + 2) (by omega)
      obtain ⟨cap', c1, hcp⟩ := how.tail j _ hcur
      have hat := how.sub j _ hcur
      have hgn := how.ne j hlt
      have hgl := how.lt j hlt
      have hln : (atR ks j).sets.length ≤ 1048576 := HO.out.2.2.2.1 _ (List.mem_of_getElem? hks)
      have hoff : Hid (offG cR ks (j + 1) = offG cR ks j + cR (atR ks j)) := offG_succ cR hks
      have K : Hid (KeptP (OfRow b n g) w wr ∧ OwnG 4 hdR lnR AtR wr 0 b n (mix (mkR ks k) ks j) g ∧ Room wr b (n * 4) ∧ (mix (mkR ks k) ks j)[j]? = some (atR ks j)) := ⟨hkp, how, hro, hcur⟩
      obtain ⟨X, hX⟩ : ∃ X, X = ((wr.setCell ⟨b, j * 4, none⟩ (.int .i64 (k + (offG cR ks j : Int)))).setCell ⟨b, j * 4 + 1, none⟩ (.int .i64 (k + (offG cR ks j : Int) + 1))).setCell ⟨b, j * 4 + 2, none⟩ (.int .i64 (k + (offG cR ks j : Int) + 1 + 1)) := ⟨_, rfl⟩
      have hX' : OnlyBlock b wr X := by rw [hX]; exact (((OnlyBlock.refl b wr).setCell _ _).setCell _ _).setCell _ _
      have e0 : X.cell? ⟨b, j * 4, none⟩ = some (.int .i64 (k + (offG cR ks j : Int))) := by
        rw [hX, cell_set_other (by omega), cell_set_other (by omega)]; exact cell_set_same d0
      have e1 : X.cell? ⟨b, j * 4 + 1, none⟩ = some (.int .i64 (k + (offG cR ks j : Int) + 1)) := by
        rw [hX, cell_set_other (by omega)]; exact cell_set_same (by rw [cell_set_other (by omega)]; exact d1)
      have e2 : X.cell? ⟨b, j * 4 + 2, none⟩ = some (.int .i64 (k + (offG cR ks j : Int) + 1 + 1)) := by
        rw [hX]; exact cell_set_same (by rw [cell_set_other (by omega), cell_set_other (by omega)]; exact d2)
      have eo : ∀ o, (o < j * 4 ∨ j * 4 + 3 ≤ o) → X.cell? ⟨b, o, none⟩ = wr.cell? ⟨b, o, none⟩ := fun o ho => by
        rw [hX, cell_set_other (by omega), cell_set_other (by omega), cell_set_other (by omega)]
      have er : Room X b (n * 4) := by rw [hX]; exact ((hro.set _).set _).set _
      have hro' : Room X (g j) ((atR ks j).sets.length * 5) := hat.2.of_block (hX'.block _ hgn)
      have hm := markSetS_k X (g j) (atR ks j).sets.length cap' (k + (offG cR ks j : Int) + 1 + 1 + 1) hln (by omega) (by omega) hro'
      have KX : Hid (OnlyBlock b wr X ∧ X.cell? ⟨b, j * 4, none⟩ = some (.int .i64 (k + (offG cR ks j : Int))) ∧ X.cell? ⟨b, j * 4 + 1, none⟩ = some (.int .i64 (k + (offG cR ks j : Int) + 1)) ∧ X.cell? ⟨b, j * 4 + 2, none⟩ = some (.int .i64 (k + (offG cR ks j : Int) + 1 + 1)) ∧ (∀ o, (o < j * 4 ∨ j * 4 + 3 ≤ o) → X.cell? ⟨b, o, none⟩ = wr.cell? ⟨b, o, none⟩) ∧ Room X b (n * 4)) := ⟨hX', e0, e1, e2, eo, er⟩
      simp only [lnR, Nat.reduceSub] at c1
      clear hkp how hro hcur hat hro' hcp hks hX' e0 e1 e2 eo er
      subst hX
      go_wp2_with fail
      refine hm.mono ?_
      clear hm
      rintro e w1 ⟨rfl, hob, hce, hrm⟩
      go_wp2
      obtain ⟨hkp, how, hro, hcur⟩ := K.out
      obtain ⟨hX', e0, e1, e2, eo, er⟩ := KX.out
      generalize ((wr.setCell ⟨b, j * 4, none⟩ (.int .i64 (k + (offG cR ks j : Int)))).setCell ⟨b, j * 4 + 1, none⟩ (.int .i64 (k + (offG cR ks j : Int) + 1))).setCell ⟨b, j * 4 + 2, none⟩ (.int .i64 (k + (offG cR ks j : Int) + 1 + 1)) = X at *
      have cb : ∀ o, w1.cell? ⟨b, o, none⟩ = X.cell? ⟨b, o, none⟩ := fun o => World.cell?_of_block (a := ⟨b, o, none⟩) (hob.block b (fun e => hgn e.symm))
      refine ⟨⟨j + 1, by omega, by simp, by rw [hoff.out]; simp [cR]; omega, ?_, ?_, ?_⟩, by simp [intOf]; omega⟩
      · exact (hkp.trans (KeptP.of_only hX' (.inl rfl))).trans (KeptP.of_only hob (.inr ⟨j, hlt, rfl⟩))
      · rw [mix_succ _ _ _ (by rw [HO.out.2.2.2.2]; exact hlt)]
        refine how.set AtR.of_block hcur (by simp [lnR, mkR, mkSets_len]) (by omega) (by intro r; simp [hdR]) (by rw [hob.size, hX'.size]; exact Nat.le_refl _) (fun x _ hx hg => (hob.block x hg).trans (hX'.block _ hx)) (fun o ho => ?_) (fun t z hz => ?_) ⟨by rw [mkR]; exact hce, by simp only [mkR, mkSets_len]; exact hrm⟩
        · rw [cb o, eo o (by omega)]
        · have ht0 := (List.getElem?_eq_some_iff.1 hz).1
          simp [hdR] at ht0
          rw [cb]
          rcases t with _ | _ | _ | t
          · simp [hdR, mkR] at hz; subst hz; exact e0
          · simp [hdR, mkR] at hz; subst hz; exact e1
          · simp [hdR, mkR] at hz; subst hz; exact e2
          · omega
      · exact er.of_block (hob.block b (fun e => hgn e.symm))
    · have : j = n := by omega
      subst this
      have hd : decide ((j : Int) < (j : Int)) = false := by simp
      have hkl : ks.length = j := HO.out.2.2.2.2
      have K : Hid (KeptP (OfRow b j g) w wr ∧ OwnG 4 hdR lnR AtR wr 0 b j (mkRs ks k) g ∧ Room wr b (j * 4)) := ⟨hkp, by
        have := mix_all (mkR ks k) ks
        rw [hkl] at this
        rw [this, ← hkl] at how
        rw [← hkl]; exact how, hro⟩
      have H : Hid (ks.length = j) := hkl
      clear hkp how hro hkl
      go_wp2
      go_ret
      exact ⟨by rw [H.out]; rfl, K.out.1, K.out.2.1, K.out.2.2⟩
set_option maxHeartbeats 1000000 in
theorem markCopyS_nil (w : World) (a : Option Addr) (cap : Nat) (k : Int) : Calls Tryz.prog 94 #[.slice a 0 cap, .int .i64 k] w fun e w' => e = .returned (.int .i64 k) ∧ w' = w := by
  go_enter Tryz.func94, Tryz.ntmps94
  go_wp2
  go_loop [1, 5] (fun v1 v5 => v1 = .int .i64 k ∧ v5 = .int .i64 0) (fun _ _ => 0)
  case atStart => exact ⟨rfl, rfl⟩
  case round =>
    obtain ⟨rfl, rfl⟩ := hrel
    go_wp2
    go_ret
    exact ⟨rfl, rfl⟩
set_option maxHeartbeats 1000000 in
theorem markRecordS_nil (w : World) (a : Option Addr) (cap : Nat) (k : Int) : Calls Tryz.prog 95 #[.slice a 0 cap, .int .i64 k] w fun e w' => e = .returned (.int .i64 k) ∧ w' = w := by
  go_enter Tryz.func95, Tryz.ntmps95
  go_wp2
  go_loop [1, 5] (fun v1 v5 => v1 = .int .i64 k ∧ v5 = .int .i64 0) (fun _ _ => 0)
  case atStart => exact ⟨rfl, rfl⟩
  case round =>
    obtain ⟨rfl, rfl⟩ := hrel
    go_wp2
    go_ret
    exact ⟨rfl, rfl⟩
end Go.Proofs.YtooalbdlknheeaaGreat
