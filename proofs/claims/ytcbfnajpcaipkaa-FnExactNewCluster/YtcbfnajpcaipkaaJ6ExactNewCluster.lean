/- MkA; MkB: joined. -/
import Derived.Test.YtcbfnajpcaipkaaRows
import Derived.Test.YtcbfnajpcaipkaaJ3ExactNewCluster
import Derived.WalkKit
import Derived.WalkSpells
import Derived.WalkLawsBesides
import Derived.Below
import Derived.Test.YtcbfnajpcaipkaaJ5ExactNewCluster
namespace Go.Proofs.Ytcbfnajpcaipkaa
open Go.RowKit
def mkCell (k : Int) (j : Nat) : C2 := ⟨k + 2 * (j : Int), k + 2 * (j : Int) + 1⟩
def mkCells (k : Int) (n : Nat) : List C2 := (List.range n).map (mkCell k)
theorem mkCells_at {k : Int} {n j : Nat} (h : j < n) : (mkCells k n)[j]? = some (mkCell k j) := by simp [mkCells, h]
theorem mkCells_len (k : Int) (n : Nat) : (mkCells k n).length = n := by simp [mkCells]
set_option maxHeartbeats 4000000 in
theorem markCellS_k (w : World) (b n cap : Nat) (k : Int) (hn : n ≤ 1048576) (hk : 0 ≤ k) (hk' : k ≤ 1000000000) (hr : Room w b (n * 2)) :
    Calls Try.prog 109 #[.slice (some ⟨b, 0, none⟩) n cap, .int .i64 k] w fun e w' => e = .returned (.int .i64 (k + 2 * (n : Int))) ∧ OnlyBlock b w w' ∧ CellsAt w' b 0 (mkCells k n) ∧ Room w' b (n * 2) := by
  go_enter Try.func109, Try.ntmps109
  go_wp2
  go_loopw [1, 5] (fun v1 v5 wr => ∃ j : Nat, j ≤ n ∧ v5 = .int .i64 j ∧ v1 = .int .i64 (k + 2 * (j : Int)) ∧ OnlyBlock b w wr ∧ Room wr b (n * 2) ∧ CellsAt wr b 0 ((mkCells k n).take j)) (fun _ v5 _ => n - (intOf v5).toNat)
  case atStart => exact ⟨0, Nat.zero_le _, rfl, by simp, OnlyBlock.refl _ _, hr, fun i s e => by simp at e⟩
  case round =>
    obtain ⟨j, hj, rfl, rfl, hob, hro, hse⟩ := hrel
    by_cases hlt : j < n
    · obtain ⟨v0, d0, f0⟩ := hro (j * 2) (by omega)
      obtain ⟨v1, d1, f1⟩ := hro (j * 2 + 1) (by omega)
      have K : Hid (OnlyBlock b w wr ∧ Room wr b (n * 2) ∧ CellsAt wr b 0 ((mkCells k n).take j)) := ⟨hob, hro, hse⟩
      clear hob hro hse hr
      go_wp2
      obtain ⟨hob, hro, hse⟩ := K.out
      refine ⟨⟨j + 1, by omega, by simp, by congr 1; push_cast; omega, (hob.setCell _ _).setCell _ _, (hro.set _).set _, hse.put (s := mkCell k j) (mkCells_at hlt) hro (by omega)⟩, by simp [intOf]; omega⟩
    · have : j = n := by omega
      subst this
      have hd : decide ((j : Int) < (j : Int)) = false := by simp
      rw [List.take_of_length_le (by rw [mkCells_len]; omega)] at hse
      have K : Hid (OnlyBlock b w wr ∧ CellsAt wr b 0 (mkCells k j) ∧ Room wr b (j * 2)) := ⟨hob, hse, hro⟩
      clear hob hro hse hr
      go_wp2
      go_ret
      exact ⟨rfl, K.out.1, K.out.2.1, K.out.2.2⟩
set_option maxHeartbeats 4000000 in
theorem heldCellS_k (w : World) (a : Option Addr) (n cap : Nat) (k : Int) (hn : n ≤ 1048576) (hk : 0 ≤ k) (hk' : k ≤ 1000000000) (hs : SlC w w.heap.size a n (mkCells k n)) :
    Calls Try.prog 110 #[.slice a n cap, .int .i64 k] w fun e w' => e = .returned (.int .i64 (k + 2 * (n : Int))) ∧ w' = w := by
  obtain ⟨_, hs⟩ := hs
  go_enter Try.func110, Try.ntmps110
  go_wp2
  go_loop [1, 5] (fun v1 v5 => ∃ j : Nat, j ≤ n ∧ v5 = .int .i64 j ∧ v1 = .int .i64 (k + 2 * (j : Int))) (fun _ v5 => n - (intOf v5).toNat)
  case atStart => exact ⟨0, Nat.zero_le _, rfl, by simp⟩
  case round =>
    obtain ⟨j, hj, rfl, rfl⟩ := hrel
    by_cases hlt : j < n
    · rcases hs with hs | ⟨b, off, rfl, hb, h1⟩
      · omega
      · obtain ⟨c0, c1⟩ := h1 j (mkCell k j) (mkCells_at hlt)
        simp only [mkCell] at c0 c1
        clear h1
        go_wp2
        exact ⟨⟨j + 1, by omega, by simp, by congr 1; push_cast; omega⟩, by simp [intOf]; omega⟩
    · have : j = n := by omega
      subst this
      have hd : decide ((j : Int) < (j : Int)) = false := by simp
      clear hs
      go_wp2
      go_ret
      exact ⟨rfl, rfl⟩
def mkSet (k : Int) (j : Nat) : S5 := ⟨k + 5 * (j : Int), k + 5 * (j : Int) + 1, k + 5 * (j : Int) + 1 + 1, (k + 5 * (j : Int) + 1 + 1 + 1) % 3 == 0, k + 5 * (j : Int) + 1 + 1 + 1 + 1⟩
def mkSets (k : Int) (n : Nat) : List S5 := (List.range n).map (mkSet k)
theorem mkSets_at {k : Int} {n j : Nat} (h : j < n) : (mkSets k n)[j]? = some (mkSet k j) := by simp [mkSets, h]
theorem mkSets_len (k : Int) (n : Nat) : (mkSets k n).length = n := by simp [mkSets]
set_option maxHeartbeats 4000000 in
theorem markSetS_k (w : World) (b n cap : Nat) (k : Int) (hn : n ≤ 1048576) (hk : 0 ≤ k) (hk' : k ≤ 1000000000) (hr : Room w b (n * 5)) :
    Calls Try.prog 58 #[.slice (some ⟨b, 0, none⟩) n cap, .int .i64 k] w fun e w' => e = .returned (.int .i64 (k + 5 * (n : Int))) ∧ OnlyBlock b w w' ∧ SetsAt w' b 0 (mkSets k n) ∧ Room w' b (n * 5) := by
  go_enter Try.func58, Try.ntmps58
  go_wp2
  go_loopw [1, 5] (fun v1 v5 wr => ∃ j : Nat, j ≤ n ∧ v5 = .int .i64 j ∧ v1 = .int .i64 (k + 5 * (j : Int)) ∧ OnlyBlock b w wr ∧ Room wr b (n * 5) ∧ SetsAt wr b 0 ((mkSets k n).take j)) (fun _ v5 _ => n - (intOf v5).toNat)
  case atStart => exact ⟨0, Nat.zero_le _, rfl, by simp, OnlyBlock.refl _ _, hr, fun i s e => by simp at e⟩
  case round =>
    obtain ⟨j, hj, rfl, rfl, hob, hro, hse⟩ := hrel
    by_cases hlt : j < n
    · obtain ⟨v0, d0, f0⟩ := hro (j * 5) (by omega)
      obtain ⟨v1, d1, f1⟩ := hro (j * 5 + 1) (by omega)
      obtain ⟨v2, d2, f2⟩ := hro (j * 5 + 2) (by omega)
      obtain ⟨v3, d3, f3⟩ := hro (j * 5 + 3) (by omega)
      obtain ⟨v4, d4, f4⟩ := hro (j * 5 + 4) (by omega)
      have K : Hid (OnlyBlock b w wr ∧ Room wr b (n * 5) ∧ SetsAt wr b 0 ((mkSets k n).take j)) := ⟨hob, hro, hse⟩
      clear hob hro hse hr
      go_wp2
      obtain ⟨hob, hro, hse⟩ := K.out
      refine ⟨⟨j + 1, by omega, by simp, by congr 1; push_cast; omega, ((((hob.setCell _ _).setCell _ _).setCell _ _).setCell _ _).setCell _ _, ((((hro.set _).set _).set _).set _).set _, hse.put (s := mkSet k j) (mkSets_at hlt) hro (by omega)⟩, by simp [intOf]; omega⟩
    · have : j = n := by omega
      subst this
      have hd : decide ((j : Int) < (j : Int)) = false := by simp
      rw [List.take_of_length_le (by rw [mkSets_len]; omega)] at hse
      have K : Hid (OnlyBlock b w wr ∧ SetsAt wr b 0 (mkSets k j) ∧ Room wr b (j * 5)) := ⟨hob, hse, hro⟩
      clear hob hro hse hr
      go_wp2
      go_ret
      exact ⟨rfl, K.out.1, K.out.2.1, K.out.2.2⟩
set_option maxHeartbeats 1000000 in
theorem markSetS_nil (w : World) (a : Option Addr) (cap : Nat) (k : Int) : Calls Try.prog 58 #[.slice a 0 cap, .int .i64 k] w fun e w' => e = .returned (.int .i64 k) ∧ w' = w := by
  go_enter Try.func58, Try.ntmps58
  go_wp2
  go_loop [1, 5] (fun v1 v5 => v1 = .int .i64 k ∧ v5 = .int .i64 0) (fun _ _ => 0)
  case atStart => exact ⟨rfl, rfl⟩
  case round =>
    obtain ⟨rfl, rfl⟩ := hrel
    go_wp2
    go_ret
    exact ⟨rfl, rfl⟩
set_option maxHeartbeats 4000000 in
theorem heldSetS_k (w : World) (a : Option Addr) (n cap : Nat) (k : Int) (hn : n ≤ 1048576) (hk : 0 ≤ k) (hk' : k ≤ 1000000000) (hs : Sl w w.heap.size a n (mkSets k n)) :
    Calls Try.prog 60 #[.slice a n cap, .int .i64 k] w fun e w' => e = .returned (.int .i64 (k + 5 * (n : Int))) ∧ w' = w := by
  obtain ⟨_, hs⟩ := hs
  go_enter Try.func60, Try.ntmps60
  go_wp2
  go_loop [1, 5] (fun v1 v5 => ∃ j : Nat, j ≤ n ∧ v5 = .int .i64 j ∧ v1 = .int .i64 (k + 5 * (j : Int))) (fun _ v5 => n - (intOf v5).toNat)
  case atStart => exact ⟨0, Nat.zero_le _, rfl, by simp⟩
  case round =>
    obtain ⟨j, hj, rfl, rfl⟩ := hrel
    by_cases hlt : j < n
    · rcases hs with hs | ⟨b, off, rfl, hb, h1⟩
      · omega
      · obtain ⟨c0, c1, c2, c3, c4⟩ := h1 j (mkSet k j) (mkSets_at hlt)
        simp only [mkSet] at c0 c1 c2 c3 c4
        clear h1
        go_wp2
        exact ⟨⟨j + 1, by omega, by simp, by congr 1; push_cast; omega⟩, by simp [intOf]; omega⟩
    · have : j = n := by omega
      subst this
      have hd : decide ((j : Int) < (j : Int)) = false := by simp
      clear hs
      go_wp2
      go_ret
      exact ⟨rfl, rfl⟩
structure KeptP (P : Nat → Prop) (w w' : World) : Prop where
  os : w'.os = w.os
  tape : w'.tape = w.tape
  output : w'.output = w.output
  size : w.heap.size ≤ w'.heap.size
  block : ∀ q, q < w.heap.size → ¬ P q → w'.heap[q]? = w.heap[q]?
theorem KeptP.refl (P : Nat → Prop) (w : World) : KeptP P w w := ⟨rfl, rfl, rfl, Nat.le_refl _, fun _ _ _ => rfl⟩
theorem KeptP.trans {P : Nat → Prop} {a b c : World} (h : KeptP P a b) (k : KeptP P b c) : KeptP P a c :=
  ⟨k.os.trans h.os, k.tape.trans h.tape, k.output.trans h.output, Nat.le_trans h.size k.size, fun q hq hp => (k.block q (Nat.lt_of_lt_of_le hq h.size) hp).trans (h.block q hq hp)⟩
theorem KeptP.mono {P Q : Nat → Prop} {a b : World} (h : KeptP P a b) (hp : ∀ q, P q → Q q) : KeptP Q a b := ⟨h.os, h.tape, h.output, h.size, fun q hq hn => h.block q hq (fun e => hn (hp q e))⟩
theorem KeptP.of_only {P : Nat → Prop} {c : Nat} {a b : World} (h : OnlyBlock c a b) (hc : P c) : KeptP P a b := ⟨h.os, h.tape, h.output, Nat.le_of_eq h.size.symm, fun q _ hn => h.block q (fun e => hn (e ▸ hc))⟩
theorem KeptP.of_below {P : Nat → Prop} {a b : World} (h : Below a.heap.size a b) : KeptP P a b := ⟨h.os, h.tape, h.output, h.size, fun q hq _ => h.block q hq⟩
theorem KeptP.of_set {P : Nat → Prop} (w : World) {c o : Nat} (v : Value) (hc : P c) : KeptP P w (w.setCell ⟨c, o, none⟩ v) := .of_only ((OnlyBlock.refl c w).setCell o v) hc
theorem KeptP.below {P : Nat → Prop} {B : Nat} {a b : World} (h : KeptP P a b) (hp : ∀ q, P q → B ≤ q) (hB : B ≤ a.heap.size) : Below B a b := ⟨h.os, h.tape, h.output, h.size, fun q hq => h.block q (by omega) (fun e => by have := hp q e; omega)⟩
theorem OwnG.set {α : Type} {sz : Nat} {hd : α → List Int} {ln : α → Nat} {At : World → Nat → α → Prop} (hAt : ∀ (w w' : World) (b : Nat) (r : α), w'.heap[b]? = w.heap[b]? → At w b r → At w' b r) {w V : World} {base b n j : Nat} {rs : List α} {g : Nat → Nat} {r r' : α} (h : OwnG sz hd ln At w base b n rs g) (hj : rs[j]? = some r) (hl : ln r' = ln r) (hz : 0 < sz) (hh : ∀ r : α, (hd r).length < sz)
    (hs : w.heap.size ≤ V.heap.size) (hb : ∀ x, x < w.heap.size → x ≠ b → x ≠ g j → V.heap[x]? = w.heap[x]?) (hold : ∀ o, (o < j * sz ∨ j * sz + (sz - 1) ≤ o) → V.cell? ⟨b, o, none⟩ = w.cell? ⟨b, o, none⟩) (hhd : ∀ t z, (hd r')[t]? = some z → V.cell? ⟨b, j * sz + t, none⟩ = some (.int .i64 z)) (hat : At V (g j) r') :
    OwnG sz hd ln At V base b n (rs.set j r') g := by
  have hjn := h.idx hj
  have hlen := h.len
  have split : ∀ i y, (rs.set j r')[i]? = some y → (i = j ∧ y = r') ∨ (i ≠ j ∧ rs[i]? = some y) := fun i y e => by
    by_cases hi : i = j
    · subst hi
      rw [List.getElem?_set_self (by omega)] at e
      exact .inl ⟨rfl, (Option.some.inj e).symm⟩
    · rw [List.getElem?_set_ne (fun e => hi e.symm)] at e
      exact .inr ⟨hi, e⟩
  have far : ∀ i t, i ≠ j → t < sz → (i * sz + t < j * sz ∨ j * sz + (sz - 1) ≤ i * sz + t) := fun i t hi ht => by
    rcases Nat.lt_or_gt_of_ne hi with hi | hi
    · have : (i + 1) * sz ≤ j * sz := Nat.mul_le_mul_right sz (by omega)
      rw [Nat.add_mul] at this; omega
    · have : (j + 1) * sz ≤ i * sz := Nat.mul_le_mul_right sz (by omega)
      rw [Nat.add_mul] at this; omega
  refine ⟨by simp [hlen], fun i y e t z ht => ?_, fun i y e => ?_, h.low, fun i hi => Nat.lt_of_lt_of_le (h.lt i hi) hs, h.ne, fun i y e => ?_, h.inj⟩
  · rcases split i y e with ⟨rfl, rfl⟩ | ⟨hi, e⟩
    · exact hhd t z ht
    · rw [hold _ (far i t hi (Nat.lt_trans (List.getElem?_eq_some_iff.1 ht).1 (hh y)))]; exact h.head i y e t z ht
  · rcases split i y e with ⟨rfl, rfl⟩ | ⟨hi, e⟩
    · rw [hold _ (.inr (Nat.le_refl _)), hl]; exact h.tail i r hj
    · rw [hold _ (far i _ hi (by omega))]; exact h.tail i y e
  · rcases split i y e with ⟨rfl, rfl⟩ | ⟨hi, e⟩
    · exact hat
    · have hin := h.idx e
      exact hAt _ _ _ _ (hb _ (h.lt i hin) (h.ne i hin) (fun e' => hi (h.inj i j hin hjn e'))) (h.sub i y e)
def mix {α : Type} (f : Nat → α) (rs : List α) (j : Nat) : List α := (List.range rs.length).map fun i => if i < j then f i else rs[i]?.getD (f i)
theorem mix_at {α : Type} (f : Nat → α) (rs : List α) (j i : Nat) (h : i < rs.length) : (mix f rs j)[i]? = some (if i < j then f i else rs[i]?.getD (f i)) := by simp [mix, h]
theorem mix_len {α : Type} (f : Nat → α) (rs : List α) (j : Nat) : (mix f rs j).length = rs.length := by simp [mix]
theorem mix_zero {α : Type} (f : Nat → α) (rs : List α) : mix f rs 0 = rs := by
  apply List.ext_getElem?
  intro i
  by_cases h : i < rs.length
  · rw [mix_at f rs 0 i h]; simp [h]
  · rw [List.getElem?_eq_none (by rw [mix_len]; omega), List.getElem?_eq_none (by omega)]
theorem mix_all {α : Type} (f : Nat → α) (rs : List α) : mix f rs rs.length = (List.range rs.length).map f := by
  apply List.ext_getElem?
  intro i
  by_cases h : i < rs.length
  · rw [mix_at f rs _ i h]; simp [h]
  · rw [List.getElem?_eq_none (by rw [mix_len]; omega), List.getElem?_eq_none (by simp; omega)]
theorem mix_succ {α : Type} (f : Nat → α) (rs : List α) (j : Nat) (hj : j < rs.length) : mix f rs (j + 1) = (mix f rs j).set j (f j) := by
  apply List.ext_getElem?
  intro i
  by_cases h : i < rs.length
  · rw [mix_at f rs _ i h]
    by_cases e : i = j
    · subst e; rw [List.getElem?_set_self (by rw [mix_len]; exact h), if_pos (by omega)]
    · rw [List.getElem?_set_ne (fun k => e k.symm), mix_at f rs _ i h]
      by_cases hi : i < j
      · rw [if_pos hi, if_pos (by omega)]
      · rw [if_neg hi, if_neg (by omega)]
  · rw [List.getElem?_eq_none (by rw [mix_len]; omega), List.getElem?_eq_none (by rw [List.length_set, mix_len]; omega)]
theorem mix_cur {α : Type} (f : Nat → α) (rs : List α) (j : Nat) {r : α} (h : rs[j]? = some r) : (mix f rs j)[j]? = some r := by
  have hj := (List.getElem?_eq_some_iff.1 h).1
  rw [mix_at f rs j j hj, if_neg (by omega), h]; rfl
def offG {α : Type} (c : α → Nat) (rs : List α) (i : Nat) : Nat := ((rs.map c).take i).sum
theorem offG_zero {α : Type} (c : α → Nat) (rs : List α) : offG c rs 0 = 0 := by simp [offG]
theorem offG_succ {α : Type} (c : α → Nat) {rs : List α} {i : Nat} {r : α} (h : rs[i]? = some r) : offG c rs (i + 1) = offG c rs i + c r := by
  unfold offG
  exact sum_take_succ (by rw [List.getElem?_map, h]; rfl)
theorem offG_le {α : Type} (c : α → Nat) (rs : List α) (i : Nat) : offG c rs i ≤ offG c rs rs.length := by
  unfold offG
  rw [List.take_of_length_le (i := rs.length) (by simp)]
  exact sum_take_le _ _
def cK (k : K2) : Nat := 1 + 2 * k.cells.length
def cR (r : R4) : Nat := 3 + 5 * r.sets.length
def mkK (ks : List K2) (k : Int) (i : Nat) : K2 := ⟨k + offG cK ks i, mkCells (k + offG cK ks i + 1) (atK ks i).cells.length⟩
def mkR (rs : List R4) (k : Int) (i : Nat) : R4 := ⟨k + offG cR rs i, k + offG cR rs i + 1, k + offG cR rs i + 1 + 1, mkSets (k + offG cR rs i + 1 + 1 + 1) (atR rs i).sets.length⟩
def mkKs (ks : List K2) (k : Int) : List K2 := (List.range ks.length).map (mkK ks k)
def mkRs (rs : List R4) (k : Int) : List R4 := (List.range rs.length).map (mkR rs k)
end Go.Proofs.Ytcbfnajpcaipkaa