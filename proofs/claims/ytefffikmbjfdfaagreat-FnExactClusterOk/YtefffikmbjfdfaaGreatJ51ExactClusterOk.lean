/- Opens; OpenCells: joined. -/
import Derived.Test.YtefffikmbjfdfaaGreatRows
import Derived.Test.YtefffikmbjfdfaaGreatJ1ExactClusterOk
import Derived.ProofKit
import Derived.OpenShut
import Derived.Test.YtefffikmbjfdfaaGreatCellsJ
import Derived.Deep.Slices
import Derived.Lib.SmallJoins
/- An argument that is a Set, opened: its value is five plain cells, each number of its kind. -/
namespace Go.Proofs.YtefffikmbjfdfaaGreat
open Go.ChangeShapes Go.WideShapes Go.ChangeAt Go.RowKit
def S5.cells (s : S5) : List Value := [.int .i64 s.region, .int .i64 s.slot, .int .i64 s.value, .bool s.used, .int .i64 s.version]
def S5.wf (s : S5) : Prop := (Lit.int .i64 s.region).wf = true ∧ (Lit.int .i64 s.slot).wf = true ∧ (Lit.int .i64 s.value).wf = true ∧ (Lit.int .i64 s.version).wf = true
theorem list5 {α : Type} {cs : List α} (h : cs.length = 5) : ∃ c0 c1 c2 c3 c4, cs = [c0, c1, c2, c3, c4] := by
  match cs, h with
  | [c0, c1, c2, c3, c4], _ => exact ⟨c0, c1, c2, c3, c4, rfl⟩
theorem cells_set : Tryz.prog.cellsOf 227 = 5 := by kernel_rfl
theorem cells_int : Tryz.prog.cellsOf 2 = 1 := by kernel_rfl
theorem cells_bool : Tryz.prog.cellsOf 4 = 1 := by kernel_rfl
theorem open_set {H : Type} {enc : TypeId × Value → H} {w : World} {base : Nat} {spare : Nat → Bool} {held : Bool} {fuel : Nat} {cs : List Value} {x : DataW H × List MemPlace}
    (h : DataW.trod enc Tryz.prog w base spare held fuel 227 cs = some x) : ∃ s : S5, cs = s.cells ∧ s.wf := by
  obtain ⟨xs, n, _, rfl, hl, hlen, hf⟩ := DataW.trod_struct Tryz.underlying227 h
  rw [cells_set] at hl
  obtain ⟨c0, c1, c2, c3, c4, rfl⟩ := list5 hl
  obtain ⟨y0, y1, y2, y3, y4, rfl⟩ := list5 hlen
  have h0 := hf 0 _ rfl
  have h1 := hf 1 _ rfl
  have h2 := hf 2 _ rfl
  have h3 := hf 3 _ rfl
  have h4 := hf 4 _ rfl
  simp [cells_int, cells_bool] at h0 h1 h2 h3 h4
  obtain ⟨z0, e0, _, f0⟩ := DataW.trod_int Tryz.underlying2 h0
  obtain ⟨z1, e1, _, f1⟩ := DataW.trod_int Tryz.underlying2 h1
  obtain ⟨z2, e2, _, f2⟩ := DataW.trod_int Tryz.underlying2 h2
  obtain ⟨z3, e3, _⟩ := DataW.trod_bool Tryz.underlying4 h3
  obtain ⟨z4, e4, _, f4⟩ := DataW.trod_int Tryz.underlying2 h4
  simp at e0 e1 e2 e3 e4
  subst e0 e1 e2 e3 e4
  exact ⟨⟨z0, z1, z2, z3, z4⟩, rfl, f0, f1, f2, f4⟩
end Go.Proofs.YtefffikmbjfdfaaGreat
/- An argument that is a row of cells, opened: cells in memory, two numbers each. -/
namespace Go.Proofs.YtefffikmbjfdfaaGreat
open Go.ChangeShapes Go.WideShapes Go.ChangeAt Go.RowKit Go.Deep
theorem list2 {α : Type} {cs : List α} (h : cs.length = 2) : ∃ c0 c1, cs = [c0, c1] := by
  match cs, h with
  | [c0, c1], _ => exact ⟨c0, c1, rfl⟩
theorem cells_cell : Tryz.prog.cellsOf 278 = 2 := by kernel_rfl
theorem cells_num : Tryz.prog.cellsOf 2 = 1 := by kernel_rfl
theorem open_cell {H : Type} {enc : TypeId × Value → H} {w : World} {base : Nat} {spare : Nat → Bool} {held : Bool} {fuel : Nat} {cs : List Value} {x : DataW H × List MemPlace}
    (h : DataW.trod enc Tryz.prog w base spare held fuel 278 cs = some x) : ∃ s : C2, cs = s.cells := by
  obtain ⟨xs, n, _, rfl, hl, hlen, hf⟩ := DataW.trod_struct Tryz.underlying278 h
  rw [cells_cell] at hl
  obtain ⟨c0, c1, rfl⟩ := list2 hl
  obtain ⟨y0, y1, rfl⟩ := list2 hlen
  have h0 := hf 0 _ rfl
  have h1 := hf 1 _ rfl
  simp [cells_num] at h0 h1
  obtain ⟨z0, e0, _, _⟩ := DataW.trod_int Tryz.underlying2 h0
  obtain ⟨z1, e1, _, _⟩ := DataW.trod_int Tryz.underlying2 h1
  simp at e0 e1
  subst e0 e1
  exact ⟨⟨z0, z1⟩, rfl⟩
theorem some_of {α : Type} {p : Nat → α → Prop} (n : Nat) (h : ∀ i, i < n → ∃ x, p i x) : ∃ xs : List α, xs.length = n ∧ ∀ i x, xs[i]? = some x → p i x := by
  induction n with
  | zero => exact ⟨[], rfl, fun i x e => by simp at e⟩
  | succ n ih =>
    obtain ⟨xs, hl, hx⟩ := ih fun i hi => h i (by omega)
    obtain ⟨y, hy⟩ := h n (by omega)
    refine ⟨xs ++ [y], by simp [hl], fun i x e => ?_⟩
    by_cases hi : i < xs.length
    · rw [List.getElem?_append_left hi] at e
      exact hx i x e
    · rw [List.getElem?_append_right (by omega)] at e
      have : i = xs.length := by
        by_cases h2 : i - xs.length = 0
        · omega
        · rw [List.getElem?_eq_none (by simp; omega)] at e; cases e
      subst this
      simp at e
      subst e
      rw [hl]; exact hy
theorem open_cellrow {H : Type} {enc : TypeId × Value → H} {w : World} {spare : Nat → Bool} {held : Bool} {fuel : Nat} {cs : List Value} {x : DataW H × List MemPlace}
    (h : DataW.trod enc Tryz.prog w 0 spare held fuel 216 cs = some x) : ∃ a n cap xs, cs = [.slice a n cap] ∧ n ≤ maxLen ∧ SlC w w.heap.size a n xs := by
  rcases open_slice Tryz.underlying216 h with ⟨rfl, _⟩ | ⟨a, len, cap, m, n, D, Pl, rfl, _, hl, hm, hmm, _, hx⟩
  · exact ⟨none, 0, 0, [], rfl, Nat.zero_le _, ⟨rfl, .inl rfl⟩⟩
  · have hlm : len ≤ m := by rw [hmm]; split <;> omega
    have key : ∀ i, i < len → ∃ s : C2, ∀ k, k < 2 → w.cell? ((a.add (i * 2)).add k) = s.cells[k]? := fun i hi => by
      obtain ⟨cs', h1, h2⟩ := hx i (by omega)
      rw [cells_cell] at h1
      obtain ⟨s, rfl⟩ := open_cell h2
      exact ⟨s, (World.cells?_some h1).2.2⟩
    obtain ⟨xs, hlen, hxs⟩ := some_of len key
    refine ⟨some a, len, cap, xs, rfl, by omega, ⟨hlen, ?_⟩⟩
    by_cases h0 : len = 0
    · exact .inl h0
    · right
      obtain ⟨b, off, spot⟩ := a
      obtain ⟨s, hs⟩ := key 0 (by omega)
      have c0 : w.cell? ⟨b, off, spot⟩ = some (.int .i64 s.head) := by simpa [Addr.add, C2.cells] using hs 0 (by omega)
      have hspot : spot = none := by simpa using World.cell?_spot c0
      subst hspot
      refine ⟨b, off, rfl, block_lt_of_cell c0, fun i s e => ?_⟩
      have hk := hxs i s e
      simp only [add_plain] at hk
      exact ⟨by simpa [C2.cells] using hk 0 (by omega), by simpa [C2.cells] using hk 1 (by omega)⟩
end Go.Proofs.YtefffikmbjfdfaaGreat
