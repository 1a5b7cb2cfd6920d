/- An argument that is a Record, opened: three numbers and a row of Sets in memory. -/
import Derived.Test.YtmiiakhellgdbaaDoorRows
import Derived.Test.YtmiiakhellgdbaaDoorRecs
import Derived.Test.YtmiiakhellgdbaaDoorOpens
import Derived.ProofKit
import Derived.OpenShut
import Derived.Deep.Slices
import Derived.Lib.SmallJoins
namespace Go.Proofs.YtmiiakhellgdbaaDoor
open Go.ChangeShapes Go.WideShapes Go.ChangeAt Go.RowKit Go.Deep
theorem cells_rec : Tryd.prog.cellsOf 36 = 4 := by kernel_rfl
theorem cells_row : Tryd.prog.cellsOf 34 = 1 := by kernel_rfl
theorem list4 {α : Type} {cs : List α} (h : cs.length = 4) : ∃ c0 c1 c2 c3, cs = [c0, c1, c2, c3] := by
  match cs, h with
  | [c0, c1, c2, c3], _ => exact ⟨c0, c1, c2, c3, rfl⟩
theorem list_of {α : Type} {p : Nat → α → Prop} (n : Nat) (h : ∀ i, i < n → ∃ x, p i x) : ∃ xs : List α, xs.length = n ∧ ∀ i x, xs[i]? = some x → p i x := by
  induction n with
  | zero => exact ⟨[], rfl, fun i x e => by simp at e⟩
  | succ n ih =>
    obtain ⟨xs, hl, hx⟩ := ih fun i hi => h i (by omega)
    obtain ⟨y, hy⟩ := h n (by omega)
    refine ⟨xs ++ [y], by simp [hl], fun i x e => ?_⟩
    by_cases hi : i < xs.length
    · rw [List.getElem?_append_left hi] at e
      exact hx i x e
    · rw [List.getElem?_append_right (by omega)] at e
      have : i = xs.length := by
        by_cases h2 : i - xs.length = 0
        · omega
        · rw [List.getElem?_eq_none (by simp; omega)] at e; cases e
      subst this
      simp at e
      subst e
      rw [hl]; exact hy
theorem open_row {H : Type} {enc : TypeId × Value → H} {w : World} {spare : Nat → Bool} {held : Bool} {fuel : Nat} {cs : List Value} {x : DataW H × List MemPlace}
    (h : DataW.trod enc Tryd.prog w 0 spare held fuel 34 cs = some x) : ∃ a n cap xs, cs = [.slice a n cap] ∧ n ≤ maxLen ∧ Sl w w.heap.size a n xs ∧ ∀ s ∈ xs, s.wf := by
  rcases open_slice Tryd.underlying34 h with ⟨rfl, _⟩ | ⟨a, len, cap, m, n, D, Pl, rfl, _, hl, hm, hmm, _, hx⟩
  · exact ⟨none, 0, 0, [], rfl, Nat.zero_le _, ⟨rfl, .inl rfl⟩, fun s hs => by cases hs⟩
  · have hlm : len ≤ m := by rw [hmm]; split <;> omega
    have key : ∀ i, i < len → ∃ s : S5, (∀ k, k < 5 → w.cell? ((a.add (i * 5)).add k) = s.cells[k]?) ∧ s.wf := fun i hi => by
      obtain ⟨cs', h1, h2⟩ := hx i (by omega)
      rw [cells_set] at h1
      obtain ⟨s, rfl, ws⟩ := open_set h2
      exact ⟨s, (World.cells?_some h1).2.2, ws⟩
    obtain ⟨xs, hlen, hxs⟩ := list_of len key
    refine ⟨some a, len, cap, xs, rfl, by omega, ⟨hlen, ?_⟩, ?_⟩
    · by_cases h0 : len = 0
      · exact .inl h0
      · right
        obtain ⟨b, off, spot⟩ := a
        obtain ⟨s, hs, _⟩ := key 0 (by omega)
        have c0 : w.cell? ⟨b, off, spot⟩ = some (.int .i64 s.region) := by simpa [Addr.add, S5.cells] using hs 0 (by omega)
        have hspot : spot = none := by simpa using World.cell?_spot c0
        subst hspot
        refine ⟨b, off, rfl, block_lt_of_cell c0, fun i s e => ?_⟩
        obtain ⟨hk, _⟩ := hxs i s e
        simp only [add_plain] at hk
        exact ⟨by simpa [S5.cells] using hk 0 (by omega), by simpa [S5.cells] using hk 1 (by omega), by simpa [S5.cells] using hk 2 (by omega), by simpa [S5.cells] using hk 3 (by omega), by simpa [S5.cells] using hk 4 (by omega)⟩
    · intro s hs
      obtain ⟨i, hi, rfl⟩ := List.getElem_of_mem hs
      exact (hxs i _ (List.getElem?_eq_getElem hi)).2
theorem open_record {H : Type} {enc : TypeId × Value → H} {w : World} {spare : Nat → Bool} {held : Bool} {fuel : Nat} {cs : List Value} {x : DataW H × List MemPlace}
    (h : DataW.trod enc Tryd.prog w 0 spare held fuel 36 cs = some x) : ∃ (k t r : Int) (a : Option Addr) (n cap : Nat) (xs : List S5), cs = [.int .i64 k, .int .i64 t, .int .i64 r, .slice a n cap] ∧ n ≤ maxLen ∧ Sl w w.heap.size a n xs ∧ (∀ s ∈ xs, s.wf) ∧
      (Lit.int .i64 k).wf = true ∧ (Lit.int .i64 t).wf = true ∧ (Lit.int .i64 r).wf = true := by
  obtain ⟨xs, n, _, rfl, hl, hlen, hf⟩ := DataW.trod_struct Tryd.underlying36 h
  rw [cells_rec] at hl
  obtain ⟨c0, c1, c2, c3, rfl⟩ := list4 hl
  obtain ⟨y0, y1, y2, y3, rfl⟩ := list4 hlen
  have h0 := hf 0 _ rfl
  have h1 := hf 1 _ rfl
  have h2 := hf 2 _ rfl
  have h3 := hf 3 _ rfl
  simp [cells_int, cells_row] at h0 h1 h2 h3
  obtain ⟨z0, e0, _, f0⟩ := DataW.trod_int Tryd.underlying2 h0
  obtain ⟨z1, e1, _, f1⟩ := DataW.trod_int Tryd.underlying2 h1
  obtain ⟨z2, e2, _, f2⟩ := DataW.trod_int Tryd.underlying2 h2
  obtain ⟨a, m, cap, ss, e3, hm, hs, hw⟩ := open_row h3
  simp at e0 e1 e2 e3
  subst e0 e1 e2 e3
  exact ⟨z0, z1, z2, a, m, cap, ss, rfl, hm, hs, hw, f0, f1, f2⟩
end Go.Proofs.YtmiiakhellgdbaaDoor
