/- MkB; BoxG: joined. -/
import Derived.Test.YtefffikmbjfdfaaGreatRows
import Derived.Test.YtefffikmbjfdfaaGreatMacTo4J
import Derived.Test.YtefffikmbjfdfaaGreatMkAJ
import Derived.Below
import Derived.Test.YtefffikmbjfdfaaGreatJ0ExactCells
import Derived.WalkKit
import Derived.WalkSpells
import Derived.WalkLawsBesides
/- Rows of structs of a call's own, one of them turned; worlds in which some blocks alone are turned. No program in sight. -/
namespace Go.Proofs.YtefffikmbjfdfaaGreat
open Go.RowKit
/-- Nothing but blocks that P holds of is turned; blocks may come. -/
structure KeptP (P : Nat → Prop) (w w' : World) : Prop where
  os : w'.os = w.os
  tape : w'.tape = w.tape
  output : w'.output = w.output
  size : w.heap.size ≤ w'.heap.size
  block : ∀ q, q < w.heap.size → ¬ P q → w'.heap[q]? = w.heap[q]?
theorem KeptP.refl (P : Nat → Prop) (w : World) : KeptP P w w := ⟨rfl, rfl, rfl, Nat.le_refl _, fun _ _ _ => rfl⟩
theorem KeptP.trans {P : Nat → Prop} {a b c : World} (h : KeptP P a b) (k : KeptP P b c) : KeptP P a c :=
  ⟨k.os.trans h.os, k.tape.trans h.tape, k.output.trans h.output, Nat.le_trans h.size k.size, fun q hq hp => (k.block q (Nat.lt_of_lt_of_le hq h.size) hp).trans (h.block q hq hp)⟩
theorem KeptP.mono {P Q : Nat → Prop} {a b : World} (h : KeptP P a b) (hp : ∀ q, P q → Q q) : KeptP Q a b := ⟨h.os, h.tape, h.output, h.size, fun q hq hn => h.block q hq (fun e => hn (hp q e))⟩
theorem KeptP.of_only {P : Nat → Prop} {c : Nat} {a b : World} (h : OnlyBlock c a b) (hc : P c) : KeptP P a b := ⟨h.os, h.tape, h.output, Nat.le_of_eq h.size.symm, fun q _ hn => h.block q (fun e => hn (e ▸ hc))⟩
theorem KeptP.of_below {P : Nat → Prop} {a b : World} (h : Below a.heap.size a b) : KeptP P a b := ⟨h.os, h.tape, h.output, h.size, fun q hq _ => h.block q hq⟩
theorem KeptP.of_set {P : Nat → Prop} (w : World) {c o : Nat} (v : Value) (hc : P c) : KeptP P w (w.setCell ⟨c, o, none⟩ v) := .of_only ((OnlyBlock.refl c w).setCell o v) hc
theorem KeptP.below {P : Nat → Prop} {B : Nat} {a b : World} (h : KeptP P a b) (hp : ∀ q, P q → B ≤ q) (hB : B ≤ a.heap.size) : Below B a b := ⟨h.os, h.tape, h.output, h.size, fun q hq => h.block q (by omega) (fun e => by have := hp q e; omega)⟩
theorem OwnG.set {α : Type} {sz : Nat} {hd : α → List Int} {ln : α → Nat} {At : World → Nat → α → Prop} (hAt : ∀ (w w' : World) (b : Nat) (r : α), w'.heap[b]? = w.heap[b]? → At w b r → At w' b r) {w V : World} {base b n j : Nat} {rs : List α} {g : Nat → Nat} {r r' : α} (h : OwnG sz hd ln At w base b n rs g) (hj : rs[j]? = some r) (hl : ln r' = ln r) (hz : 0 < sz) (hh : ∀ r : α, (hd r).length < sz)
    (hs : w.heap.size ≤ V.heap.size) (hb : ∀ x, x < w.heap.size → x ≠ b → x ≠ g j → V.heap[x]? = w.heap[x]?) (hold : ∀ o, (o < j * sz ∨ j * sz + (sz - 1) ≤ o) → V.cell? ⟨b, o, none⟩ = w.cell? ⟨b, o, none⟩) (hhd : ∀ t z, (hd r')[t]? = some z → V.cell? ⟨b, j * sz + t, none⟩ = some (.int .i64 z)) (hat : At V (g j) r') :
    OwnG sz hd ln At V base b n (rs.set j r') g := by
  have hjn := h.idx hj
  have hlen := h.len
  have split : ∀ i y, (rs.set j r')[i]? = some y → (i = j ∧ y = r') ∨ (i ≠ j ∧ rs[i]? = some y) := fun i y e => by
    by_cases hi : i = j
    · subst hi
      rw [List.getElem?_set_self (by omega)] at e
      exact .inl ⟨rfl, (Option.some.inj e).symm⟩
    · rw [List.getElem?_set_ne (fun e => hi e.symm)] at e
      exact .inr ⟨hi, e⟩
  have far : ∀ i t, i ≠ j → t < sz → (i * sz + t < j * sz ∨ j * sz + (sz - 1) ≤ i * sz + t) := fun i t hi ht => by
    rcases Nat.lt_or_gt_of_ne hi with hi | hi
    · have : (i + 1) * sz ≤ j * sz := Nat.mul_le_mul_right sz (by omega)
      rw [Nat.add_mul] at this; omega
    · have : (j + 1) * sz ≤ i * sz := Nat.mul_le_mul_right sz (by omega)
      rw [Nat.add_mul] at this; omega
  refine ⟨by simp [hlen], fun i y e t z ht => ?_, fun i y e => ?_, h.low, fun i hi => Nat.lt_of_lt_of_le (h.lt i hi) hs, h.ne, fun i y e => ?_, h.inj⟩
  · rcases split i y e with ⟨rfl, rfl⟩ | ⟨hi, e⟩
    · exact hhd t z ht
    · rw [hold _ (far i t hi (Nat.lt_trans (List.getElem?_eq_some_iff.1 ht).1 (hh y)))]; exact h.head i y e t z ht
  · rcases split i y e with ⟨rfl, rfl⟩ | ⟨hi, e⟩
    · rw [hold _ (.inr (Nat.le_refl _)), hl]; exact h.tail i r hj
    · rw [hold _ (far i _ hi (by omega))]; exact h.tail i y e
  · rcases split i y e with ⟨rfl, rfl⟩ | ⟨hi, e⟩
    · exact hat
    · have hin := h.idx e
      exact hAt _ _ _ _ (hb _ (h.lt i hin) (h.ne i hin) (fun e' => hi (h.inj i j hin hjn e'))) (h.sub i y e)
/-- The first j of rs are f's. -/
def mix {α : Type} (f : Nat → α) (rs : List α) (j : Nat) : List α := (List.range rs.length).map fun i => if i < j then f i else rs[i]?.getD (f i)
theorem mix_at {α : Type} (f : Nat → α) (rs : List α) (j i : Nat) (h : i < rs.length) : (mix f rs j)[i]? = some (if i < j then f i else rs[i]?.getD (f i)) := by simp [mix, h]
theorem mix_len {α : Type} (f : Nat → α) (rs : List α) (j : Nat) : (mix f rs j).length = rs.length := by simp [mix]
theorem mix_zero {α : Type} (f : Nat → α) (rs : List α) : mix f rs 0 = rs := by
  apply List.ext_getElem?
  intro i
  by_cases h : i < rs.length
  · rw [mix_at f rs 0 i h]; simp [h]
  · rw [List.getElem?_eq_none (by rw [mix_len]; omega), List.getElem?_eq_none (by omega)]
theorem mix_all {α : Type} (f : Nat → α) (rs : List α) : mix f rs rs.length = (List.range rs.length).map f := by
  apply List.ext_getElem?
  intro i
  by_cases h : i < rs.length
  · rw [mix_at f rs _ i h]; simp [h]
  · rw [List.getElem?_eq_none (by rw [mix_len]; omega), List.getElem?_eq_none (by simp; omega)]
theorem mix_succ {α : Type} (f : Nat → α) (rs : List α) (j : Nat) (hj : j < rs.length) : mix f rs (j + 1) = (mix f rs j).set j (f j) := by
  apply List.ext_getElem?
  intro i
  by_cases h : i < rs.length
  · rw [mix_at f rs _ i h]
    by_cases e : i = j
    · subst e; rw [List.getElem?_set_self (by rw [mix_len]; exact h), if_pos (by omega)]
    · rw [List.getElem?_set_ne (fun k => e k.symm), mix_at f rs _ i h]
      by_cases hi : i < j
      · rw [if_pos hi, if_pos (by omega)]
      · rw [if_neg hi, if_neg (by omega)]
  · rw [List.getElem?_eq_none (by rw [mix_len]; omega), List.getElem?_eq_none (by rw [List.length_set, mix_len]; omega)]
theorem mix_cur {α : Type} (f : Nat → α) (rs : List α) (j : Nat) {r : α} (h : rs[j]? = some r) : (mix f rs j)[j]? = some r := by
  have hj := (List.getElem?_eq_some_iff.1 h).1
  rw [mix_at f rs j j hj, if_neg (by omega), h]; rfl
/-- How far the marks of the first i have come. -/
def offG {α : Type} (c : α → Nat) (rs : List α) (i : Nat) : Nat := ((rs.map c).take i).sum
theorem offG_zero {α : Type} (c : α → Nat) (rs : List α) : offG c rs 0 = 0 := by simp [offG]
theorem offG_succ {α : Type} (c : α → Nat) {rs : List α} {i : Nat} {r : α} (h : rs[i]? = some r) : offG c rs (i + 1) = offG c rs i + c r := by
  unfold offG
  exact sum_take_succ (by rw [List.getElem?_map, h]; rfl)
theorem offG_le {α : Type} (c : α → Nat) (rs : List α) (i : Nat) : offG c rs i ≤ offG c rs rs.length := by
  unfold offG
  rw [List.take_of_length_le (i := rs.length) (by simp)]
  exact sum_take_le _ _
def cK (k : K2) : Nat := 1 + 2 * k.cells.length
def cR (r : R4) : Nat := 3 + 5 * r.sets.length
def mkK (ks : List K2) (k : Int) (i : Nat) : K2 := ⟨k + offG cK ks i, mkCells (k + offG cK ks i + 1) (atK ks i).cells.length⟩
def mkR (rs : List R4) (k : Int) (i : Nat) : R4 := ⟨k + offG cR rs i, k + offG cR rs i + 1, k + offG cR rs i + 1 + 1, mkSets (k + offG cR rs i + 1 + 1 + 1) (atR rs i).sets.length⟩
def mkKs (ks : List K2) (k : Int) : List K2 := (List.range ks.length).map (mkK ks k)
def mkRs (rs : List R4) (k : Int) : List R4 := (List.range rs.length).map (mkR rs k)
end Go.Proofs.YtefffikmbjfdfaaGreat
/- Boxes of any cells. -/
namespace Go.Proofs.YtefffikmbjfdfaaGreat
open Go.RowKit
theorem bstep {A X Y : World} (h : Below A.heap.size A X) (b : Below X.heap.size X Y) : Below A.heap.size A Y := h.trans (b.mono h.size)
/-- A box that holds these cells, none of them frozen. -/
def Bx (X : World) (s : Nat) (cs : List Value) : Prop := (∀ j u, cs[j]? = some u → X.cell? ⟨s, j, none⟩ = some u) ∧ (∀ j, X.frozen? ⟨s, j, none⟩ = false) ∧ s < X.heap.size
theorem Bx.of_block {X Y : World} {s : Nat} {cs : List Value} (h : Bx X s cs) (hb : Y.heap[s]? = X.heap[s]?) (hs : X.heap.size ≤ Y.heap.size) : Bx Y s cs :=
  ⟨fun j u e => (World.cell?_of_block (a := ⟨s, j, none⟩) hb).trans (h.1 j u e), fun j => (World.frozen?_of_block (a := ⟨s, j, none⟩) hb).trans (h.2.1 j), Nat.lt_of_lt_of_le h.2.2 hs⟩
theorem Bx.later {X Y : World} {s : Nat} {cs : List Value} (h : Bx X s cs) (hb : Below X.heap.size X Y) : Bx Y s cs := h.of_block (hb.block _ h.2.2) hb.size
theorem Bx.under {X Y : World} {B s : Nat} {cs : List Value} (h : Bx X s cs) (hb : Below B X Y) (hs : s < B) : Bx Y s cs := h.of_block (hb.block _ hs) hb.size
theorem Bx.far {X : World} {s b o : Nat} {cs : List Value} (h : Bx X s cs) (hb : s ≠ b) (u : Value) : Bx (X.setCell ⟨b, o, none⟩ u) s cs := h.of_block (Below.heap_setCell _ _ _ _ hb) (by simp [World.setCell])
theorem Bx.set {X : World} {s i : Nat} {cs : List Value} (h : Bx X s cs) (hi : i < cs.length) (u : Value) : Bx (X.setCell ⟨s, i, none⟩ u) s (cs.set i u) := by
  refine ⟨fun j v e => ?_, fun j => by rw [World.frozen?_setCell]; exact h.2.1 j, by simpa [World.setCell] using h.2.2⟩
  by_cases hj : i = j
  · subst hj
    rw [List.getElem?_set_self hi] at e
    obtain rfl := Option.some.inj e
    exact cell_set_same (h.1 i _ (List.getElem?_eq_getElem hi))
  · rw [List.getElem?_set_ne hj] at e
    exact (cell_set_other (by omega)).trans (h.1 j v e)
/-- All cells of a box stored into. -/
def putB (X : World) (s : Nat) : Nat → List Value → World
  | _, [] => X
  | i, c :: cs => putB (X.setCell ⟨s, i, none⟩ c) s (i + 1) cs
theorem putB_size (s : Nat) (cs : List Value) : ∀ (X : World) (i : Nat), (putB X s i cs).heap.size = X.heap.size := by
  induction cs with
  | nil => intro X i; rfl
  | cons c cs ih => intro X i; rw [putB, ih]; simp [World.setCell]
theorem putB_block {s q : Nat} (hq : q ≠ s) (cs : List Value) : ∀ (X : World) (i : Nat), (putB X s i cs).heap[q]? = X.heap[q]? := by
  induction cs with
  | nil => intro X i; rfl
  | cons c cs ih => intro X i; rw [putB, ih]; exact Below.heap_setCell _ _ _ _ hq
theorem putB_below {B s : Nat} {w : World} (hs : B ≤ s) (cs : List Value) : ∀ (X : World) (i : Nat), Below B w X → Below B w (putB X s i cs) := by
  induction cs with
  | nil => intro X i h; exact h
  | cons c cs ih => intro X i h; exact ih _ _ (h.setCell (p := ⟨s, i, none⟩) hs _)
theorem putB_frozen {s q j : Nat} (cs : List Value) : ∀ (X : World) (i : Nat), (putB X s i cs).frozen? ⟨q, j, none⟩ = X.frozen? ⟨q, j, none⟩ := by
  induction cs with
  | nil => intro X i; rfl
  | cons c cs ih => intro X i; rw [putB, ih, World.frozen?_setCell]
theorem putB_low {s j : Nat} (cs : List Value) : ∀ (X : World) (i : Nat), j < i → (putB X s i cs).cell? ⟨s, j, none⟩ = X.cell? ⟨s, j, none⟩ := by
  induction cs with
  | nil => intro X i _; rfl
  | cons c cs ih => intro X i h; rw [putB, ih _ _ (by omega)]; exact cell_set_other (by omega)
theorem putB_cell {s : Nat} (cs : List Value) : ∀ (X : World) (i : Nat), (∀ j, i ≤ j → j < i + cs.length → ∃ v, X.cell? ⟨s, j, none⟩ = some v) → ∀ j u, cs[j]? = some u → (putB X s i cs).cell? ⟨s, i + j, none⟩ = some u := by
  induction cs with
  | nil => intro X i _ j u e; simp at e
  | cons c cs ih =>
    intro X i h j u e
    rw [putB]
    rcases j with _ | j
    · simp at e
      subst e
      obtain ⟨v, hv⟩ := h i (Nat.le_refl _) (by simp)
      rw [Nat.add_zero, putB_low _ _ _ (by omega)]
      exact cell_set_same hv
    · have := ih (X.setCell ⟨s, i, none⟩ c) (i + 1) (fun j h1 h2 => by
        obtain ⟨v, hv⟩ := h j (by omega) (by simp only [List.length_cons]; omega)
        exact ⟨v, (cell_set_other (by omega)).trans hv⟩) j u (by simpa using e)
      rwa [show i + 1 + j = i + (j + 1) by omega] at this
theorem Bx.put {X : World} {s : Nat} {cs0 : List Value} (h : Bx X s cs0) (cs : List Value) (hl : cs.length = cs0.length) : Bx (putB X s 0 cs) s cs := by
  refine ⟨fun j u e => ?_, fun j => by rw [putB_frozen]; exact h.2.1 j, by rw [putB_size]; exact h.2.2⟩
  have := putB_cell (s := s) cs X 0 (fun j _ h2 => ⟨_, h.1 j _ (List.getElem?_eq_getElem (by omega))⟩) j u e
  rwa [Nat.zero_add] at this
theorem Bx.made (X : World) (cs : List Value) (T : TypeId) : Bx (X.alloc (.cells cs.toArray T)) X.heap.size cs := ⟨fun j u e => by go_simp, fun j => by go_simp, by simp⟩
end Go.Proofs.YtefffikmbjfdfaaGreat
