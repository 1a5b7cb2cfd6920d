/- KdC; KdCa; Opens; OpenCells: joined. -/
import Derived.Test.YtbkcmbbeknljiaaGreatRows
import Derived.Test.YtbkcmbbeknljiaaGreatJ8ExactReplace
import Derived.Test.YtbkcmbbeknljiaaGreatJ32ExactReplace
import Derived.WalkKit
import Derived.WalkSpells
import Derived.WalkLawsBesides
import Derived.Below
import Derived.Lib.QuietBelow
import Derived.BigQuiet
import Derived.Deep.CutRange
import Derived.Test.YtbkcmbbeknljiaaGreatJ5ExactReplace
import Derived.Test.YtbkcmbbeknljiaaGreatJ10ExactReplace
import Derived.Test.YtbkcmbbeknljiaaGreatJ0ExactReplace
import Derived.ProofKit
import Derived.OpenShut
import Derived.Test.YtbkcmbbeknljiaaGreatCellsJ
import Derived.Deep.Slices
import Derived.Lib.SmallJoins
/- The kind of a row of cells. -/
namespace Go.Proofs.YtbkcmbbeknljiaaGreat
open Go.RowKit
open Go.Sort (grow)
/-- A row of cells, readable. -/
def KC.Rd (X : World) (a : Option Addr) (_ : Nat) (xs : List C2) : Prop := SlC X X.heap.size a xs.length xs
theorem KC.Rd.later {X Y : World} {a : Option Addr} {c : Nat} {xs : List C2} (h : KC.Rd X a c xs) (b : Below X.heap.size X Y) : KC.Rd Y a c xs := SlC.later h b
/-- A row of cells of a call's own, in the blocks P. -/
def KC.Ow (w : World) (B : Nat) (a : Option Addr) (_ : Nat) (xs : List C2) (P : Nat → Prop) : Prop := (xs = [] ∨ ∃ q, a = some ⟨q, 0, none⟩ ∧ P q ∧ CellsAt w q 0 xs ∧ Room w q (xs.length * 2)) ∧ (∀ q, P q → B ≤ q ∧ q < w.heap.size)
theorem KC.Ow.of {w : World} {B : Nat} {a : Option Addr} {c : Nat} {xs : List C2} {P : Nat → Prop} (h : KC.Ow w B a c xs P) {q : Nat} (hq : P q) : B ≤ q ∧ q < w.heap.size := h.2 q hq
theorem KC.Ow.sl {w : World} {B : Nat} {a : Option Addr} {c : Nat} {xs : List C2} {P : Nat → Prop} (h : KC.Ow w B a c xs P) : KC.Rd w a c xs := by
  rcases h with ⟨rfl | ⟨q, rfl, hp, h1, h2⟩, hb⟩
  · exact ⟨rfl, .inl rfl⟩
  · exact ⟨rfl, .inr ⟨q, 0, rfl, (hb q hp).2, h1⟩⟩
theorem KC.Ow.keep {w : World} {B : Nat} {a : Option Addr} {c : Nat} {xs : List C2} {P : Nat → Prop} {w' : World} (h : KC.Ow w B a c xs P) (hs : w.heap.size ≤ w'.heap.size) (hk : ∀ q, P q → w'.heap[q]? = w.heap[q]?) : KC.Ow w' B a c xs P := by
  rcases h with ⟨h | ⟨q, e, hp, h1, h2⟩, hb⟩
  · exact ⟨.inl h, fun q hq => ⟨(hb q hq).1, Nat.lt_of_lt_of_le (hb q hq).2 hs⟩⟩
  · exact ⟨.inr ⟨q, e, hp, h1.of_block (hk q hp), room_blk h2 (hk q hp)⟩, fun q hq => ⟨(hb q hq).1, Nat.lt_of_lt_of_le (hb q hq).2 hs⟩⟩
theorem KC.Ow.later {w : World} {B : Nat} {a : Option Addr} {c : Nat} {xs : List C2} {P : Nat → Prop} {w' : World} (h : KC.Ow w B a c xs P) (hb : Below w.heap.size w w') : KC.Ow w' B a c xs P := h.keep hb.size (fun q hq => hb.block q (h.of hq).2)
theorem KC.Ow.low {w : World} {B : Nat} {a : Option Addr} {c : Nat} {xs : List C2} {P : Nat → Prop} {B' : Nat} (h : KC.Ow w B a c xs P) (hb : B' ≤ B) : KC.Ow w B' a c xs P := ⟨h.1, fun q hq => ⟨Nat.le_trans hb (h.2 q hq).1, (h.2 q hq).2⟩⟩
theorem KC.eq (X : World) (a : Option Addr) (c : Nat) (a' : Option Addr) (c' : Nat) (xs : List C2) (ht : xs.length ≤ 1048576) (h1 : KC.Rd X a c xs) (h2 : KC.Rd X a' c' xs) : Calls Tryz.prog 32 #[.slice a xs.length c, .slice a' xs.length c'] X fun e w' => e = .returned (.bool true) ∧ Below X.heap.size X w' := eqCellS_any X a a' xs.length c c' xs (by unfold maxLen; omega) h1 h2
theorem KC.mark (X : World) (B : Nat) (a : Option Addr) (c : Nat) (xs : List C2) (P : Nat → Prop) (k : Int) (hk : 0 ≤ k) (hk' : k ≤ 1000000000) (ht : xs.length ≤ 1048576) (h : KC.Ow X B a c xs P) : Calls Tryz.prog 34 #[.slice a xs.length c, .int .i64 k] X fun r w' => r = .returned (.int .i64 (k + 2 * (xs.length : Int))) ∧ KeptP P X w' ∧ KC.Rd w' a c (mkCells k xs.length) := by
  rcases h with ⟨rfl | ⟨q, rfl, hp, h1, h2⟩, hb⟩
  · refine (markCellS_nil X a c k).mono ?_
    rintro e w' ⟨rfl, rfl⟩
    exact ⟨by simp, KeptP.refl _ _, by simp [KC.Rd, mkCells, SlC]⟩
  · refine (markCellS_k X q xs.length c k ht hk hk' h2).mono ?_
    rintro e w' ⟨rfl, ho, hc, hr⟩
    exact ⟨rfl, KeptP.of_only ho hp, by unfold KC.Rd; exact ⟨rfl, .inr ⟨q, 0, rfl, by rw [ho.size]; exact (hb q hp).2, hc⟩⟩⟩
theorem KC.held (X : World) (a : Option Addr) (c : Nat) (xs : List C2) (k : Int) (hk : 0 ≤ k) (hk' : k ≤ 1000000000) (ht : xs.length ≤ 1048576) (h : KC.Rd X a c (mkCells k xs.length)) : Calls Tryz.prog 144 #[.slice a xs.length c, .int .i64 k] X fun r w' => r = .returned (.int .i64 (k + 2 * (xs.length : Int))) ∧ Below X.heap.size X w' := by
  unfold KC.Rd at h
  rw [mkCells_len] at h
  refine (heldCellS_k X a xs.length c k ht hk hk' h).mono ?_
  rintro e w' ⟨rfl, rfl⟩
  exact ⟨rfl, Below.refl _ _⟩
end Go.Proofs.YtbkcmbbeknljiaaGreat
/- The kind of a row of cells, as an argument. -/
namespace Go.Proofs.YtbkcmbbeknljiaaGreat
open Go.RowKit
def KC.L (xs : List C2) : Prop := xs.length ≤ maxLen
theorem KC.to (X : World) (a : Option Addr) (c : Nat) (xs : List C2) (ht : xs.length ≤ 1048576) (h : KC.Rd X a c xs) : Calls Tryz.prog 30 #[.slice a xs.length c] X fun e w' => ∃ (a' : Option Addr) (c' : Nat) (P : Nat → Prop), e = .returned (.slice a' xs.length c') ∧ KC.Ow w' X.heap.size a' c' xs P ∧ Below X.heap.size X w' := by
  refine (toCellS_anyR X a xs.length c xs ht h).mono ?_
  rintro e w' ⟨rfl, hb, hl, h1, h2⟩
  exact ⟨_, _, fun q => q = X.heap.size, rfl, ⟨.inr ⟨_, rfl, rfl, h1, h2⟩, fun q hq => by subst hq; exact ⟨Nat.le_refl _, hl⟩⟩, hb⟩
theorem KC.szl (X : World) (a : Option Addr) (c : Nat) (xs : List C2) (l : Nat) (hl0 : l ≤ 1048576) (hl : KC.L xs) : Calls Tryz.prog 28 #[.slice a xs.length c, .int .i64 (l : Int)] X fun e w' => e = .returned (.int .i64 (leftR l xs.length)) ∧ Below X.heap.size X w' :=
  (szCellS_l X a xs.length c l hl hl0).mono (by rintro e w' ⟨h, rfl⟩; exact ⟨h, Below.refl _ _⟩)
end Go.Proofs.YtbkcmbbeknljiaaGreat
/- An argument that is a Set, opened: its value is five plain cells, each number of its kind. -/
namespace Go.Proofs.YtbkcmbbeknljiaaGreat
open Go.ChangeShapes Go.WideShapes Go.ChangeAt Go.RowKit
def S5.cells (s : S5) : List Value := [.int .i64 s.region, .int .i64 s.slot, .int .i64 s.value, .bool s.used, .int .i64 s.version]
def S5.wf (s : S5) : Prop := (Lit.int .i64 s.region).wf = true ∧ (Lit.int .i64 s.slot).wf = true ∧ (Lit.int .i64 s.value).wf = true ∧ (Lit.int .i64 s.version).wf = true
theorem list5 {α : Type} {cs : List α} (h : cs.length = 5) : ∃ c0 c1 c2 c3 c4, cs = [c0, c1, c2, c3, c4] := by
  match cs, h with
  | [c0, c1, c2, c3, c4], _ => exact ⟨c0, c1, c2, c3, c4, rfl⟩
theorem cells_set : Tryz.prog.cellsOf 172 = 5 := by kernel_rfl
theorem cells_int : Tryz.prog.cellsOf 2 = 1 := by kernel_rfl
theorem cells_bool : Tryz.prog.cellsOf 4 = 1 := by kernel_rfl
theorem open_set {H : Type} {enc : TypeId × Value → H} {w : World} {base : Nat} {spare : Nat → Bool} {held : Bool} {fuel : Nat} {cs : List Value} {x : DataW H × List MemPlace}
    (h : DataW.trod enc Tryz.prog w base spare held fuel 172 cs = some x) : ∃ s : S5, cs = s.cells ∧ s.wf := by
  obtain ⟨xs, n, _, rfl, hl, hlen, hf⟩ := DataW.trod_struct Tryz.underlying172 h
  rw [cells_set] at hl
  obtain ⟨c0, c1, c2, c3, c4, rfl⟩ := list5 hl
  obtain ⟨y0, y1, y2, y3, y4, rfl⟩ := list5 hlen
  have h0 := hf 0 _ rfl
  have h1 := hf 1 _ rfl
  have h2 := hf 2 _ rfl
  have h3 := hf 3 _ rfl
  have h4 := hf 4 _ rfl
  simp [cells_int, cells_bool] at h0 h1 h2 h3 h4
  obtain ⟨z0, e0, _, f0⟩ := DataW.trod_int Tryz.underlying2 h0
  obtain ⟨z1, e1, _, f1⟩ := DataW.trod_int Tryz.underlying2 h1
  obtain ⟨z2, e2, _, f2⟩ := DataW.trod_int Tryz.underlying2 h2
  obtain ⟨z3, e3, _⟩ := DataW.trod_bool Tryz.underlying4 h3
  obtain ⟨z4, e4, _, f4⟩ := DataW.trod_int Tryz.underlying2 h4
  simp at e0 e1 e2 e3 e4
  subst e0 e1 e2 e3 e4
  exact ⟨⟨z0, z1, z2, z3, z4⟩, rfl, f0, f1, f2, f4⟩
end Go.Proofs.YtbkcmbbeknljiaaGreat
/- An argument that is a row of cells, opened: cells in memory, two numbers each. -/
namespace Go.Proofs.YtbkcmbbeknljiaaGreat
open Go.ChangeShapes Go.WideShapes Go.ChangeAt Go.RowKit Go.Deep
theorem list2 {α : Type} {cs : List α} (h : cs.length = 2) : ∃ c0 c1, cs = [c0, c1] := by
  match cs, h with
  | [c0, c1], _ => exact ⟨c0, c1, rfl⟩
theorem cells_cell : Tryz.prog.cellsOf 122 = 2 := by kernel_rfl
theorem cells_num : Tryz.prog.cellsOf 2 = 1 := by kernel_rfl
theorem open_cell {H : Type} {enc : TypeId × Value → H} {w : World} {base : Nat} {spare : Nat → Bool} {held : Bool} {fuel : Nat} {cs : List Value} {x : DataW H × List MemPlace}
    (h : DataW.trod enc Tryz.prog w base spare held fuel 122 cs = some x) : ∃ s : C2, cs = s.cells := by
  obtain ⟨xs, n, _, rfl, hl, hlen, hf⟩ := DataW.trod_struct Tryz.underlying122 h
  rw [cells_cell] at hl
  obtain ⟨c0, c1, rfl⟩ := list2 hl
  obtain ⟨y0, y1, rfl⟩ := list2 hlen
  have h0 := hf 0 _ rfl
  have h1 := hf 1 _ rfl
  simp [cells_num] at h0 h1
  obtain ⟨z0, e0, _, _⟩ := DataW.trod_int Tryz.underlying2 h0
  obtain ⟨z1, e1, _, _⟩ := DataW.trod_int Tryz.underlying2 h1
  simp at e0 e1
  subst e0 e1
  exact ⟨⟨z0, z1⟩, rfl⟩
theorem some_of {α : Type} {p : Nat → α → Prop} (n : Nat) (h : ∀ i, i < n → ∃ x, p i x) : ∃ xs : List α, xs.length = n ∧ ∀ i x, xs[i]? = some x → p i x := by
  induction n with
  | zero => exact ⟨[], rfl, fun i x e => by simp at e⟩
  | succ n ih =>
    obtain ⟨xs, hl, hx⟩ := ih fun i hi => h i (by omega)
    obtain ⟨y, hy⟩ := h n (by omega)
    refine ⟨xs ++ [y], by simp [hl], fun i x e => ?_⟩
    by_cases hi : i < xs.length
    · rw [List.getElem?_append_left hi] at e
      exact hx i x e
    · rw [List.getElem?_append_right (by omega)] at e
      have : i = xs.length := by
        by_cases h2 : i - xs.length = 0
        · omega
        · rw [List.getElem?_eq_none (by simp; omega)] at e; cases e
      subst this
      simp at e
      subst e
      rw [hl]; exact hy
theorem open_cellrow {H : Type} {enc : TypeId × Value → H} {w : World} {spare : Nat → Bool} {held : Bool} {fuel : Nat} {cs : List Value} {x : DataW H × List MemPlace}
    (h : DataW.trod enc Tryz.prog w 0 spare held fuel 58 cs = some x) : ∃ a n cap xs, cs = [.slice a n cap] ∧ n ≤ maxLen ∧ SlC w w.heap.size a n xs := by
  rcases open_slice Tryz.underlying58 h with ⟨rfl, _⟩ | ⟨a, len, cap, m, n, D, Pl, rfl, _, hl, hm, hmm, _, hx⟩
  · exact ⟨none, 0, 0, [], rfl, Nat.zero_le _, ⟨rfl, .inl rfl⟩⟩
  · have hlm : len ≤ m := by rw [hmm]; split <;> omega
    have key : ∀ i, i < len → ∃ s : C2, ∀ k, k < 2 → w.cell? ((a.add (i * 2)).add k) = s.cells[k]? := fun i hi => by
      obtain ⟨cs', h1, h2⟩ := hx i (by omega)
      rw [cells_cell] at h1
      obtain ⟨s, rfl⟩ := open_cell h2
      exact ⟨s, (World.cells?_some h1).2.2⟩
    obtain ⟨xs, hlen, hxs⟩ := some_of len key
    refine ⟨some a, len, cap, xs, rfl, by omega, ⟨hlen, ?_⟩⟩
    by_cases h0 : len = 0
    · exact .inl h0
    · right
      obtain ⟨b, off, spot⟩ := a
      obtain ⟨s, hs⟩ := key 0 (by omega)
      have c0 : w.cell? ⟨b, off, spot⟩ = some (.int .i64 s.head) := by simpa [Addr.add, C2.cells] using hs 0 (by omega)
      have hspot : spot = none := by simpa using World.cell?_spot c0
      subst hspot
      refine ⟨b, off, rfl, block_lt_of_cell c0, fun i s e => ?_⟩
      have hk := hxs i s e
      simp only [add_plain] at hk
      exact ⟨by simpa [C2.cells] using hk 0 (by omega), by simpa [C2.cells] using hk 1 (by omega)⟩
end Go.Proofs.YtbkcmbbeknljiaaGreat
