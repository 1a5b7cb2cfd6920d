/- An argument that is a transaction, opened: five numbers and two rows in memory; every row is no longer than its capacity. -/
import Derived.Test.YtcfpancfdjgohaaRows
import Derived.Test.YtcfpancfdjgohaaTxD
import Derived.ProofKit
import Derived.OpenShut
import Derived.Deep.Slices
import Derived.Lib.SmallJoins
namespace Go.Proofs.Ytcfpancfdjgohaa.ot
open Go.ChangeShapes Go.WideShapes Go.ChangeAt Go.RowKit Go.Deep
theorem cells_i : Try.prog.cellsOf 2 = 1 := by kernel_rfl
theorem cells_ss : Try.prog.cellsOf 49 = 1 := by kernel_rfl
theorem cells_ns : Try.prog.cellsOf 48 = 1 := by kernel_rfl
theorem cells_t : Try.prog.cellsOf 51 = 7 := by kernel_rfl
theorem list7 {α : Type} {cs : List α} (h : cs.length = 7) : ∃ c0 c1 c2 c3 c4 c5 c6, cs = [c0, c1, c2, c3, c4, c5, c6] := by
  match cs, h with
  | [c0, c1, c2, c3, c4, c5, c6], _ => exact ⟨c0, c1, c2, c3, c4, c5, c6, rfl⟩
theorem some_of {α : Type} {p : Nat → α → Prop} (n : Nat) (h : ∀ i, i < n → ∃ x, p i x) : ∃ xs : List α, xs.length = n ∧ ∀ i x, xs[i]? = some x → p i x := by
  induction n with
  | zero => exact ⟨[], rfl, fun i x e => by simp at e⟩
  | succ n ih =>
    obtain ⟨xs, hl, hx⟩ := ih fun i hi => h i (by omega)
    obtain ⟨y, hy⟩ := h n (by omega)
    refine ⟨xs ++ [y], by simp [hl], fun i x e => ?_⟩
    by_cases hi : i < xs.length
    · rw [List.getElem?_append_left hi] at e
      exact hx i x e
    · rw [List.getElem?_append_right (by omega)] at e
      have : i = xs.length := by
        by_cases h2 : i - xs.length = 0
        · omega
        · rw [List.getElem?_eq_none (by simp; omega)] at e; cases e
      subst this
      simp at e
      subst e
      rw [hl]; exact hy
theorem list5 {α : Type} {cs : List α} (h : cs.length = 5) : ∃ c0 c1 c2 c3 c4, cs = [c0, c1, c2, c3, c4] := by
  match cs, h with
  | [c0, c1, c2, c3, c4], _ => exact ⟨c0, c1, c2, c3, c4, rfl⟩
theorem cells_set : Try.prog.cellsOf 56 = 5 := by kernel_rfl
theorem cells_int : Try.prog.cellsOf 2 = 1 := by kernel_rfl
theorem cells_bool : Try.prog.cellsOf 4 = 1 := by kernel_rfl
def setCells (s : S5) : List Value := [.int .i64 s.region, .int .i64 s.slot, .int .i64 s.value, .bool s.used, .int .i64 s.version]
def setWf (s : S5) : Prop := (Lit.int .i64 s.region).wf = true ∧ (Lit.int .i64 s.slot).wf = true ∧ (Lit.int .i64 s.value).wf = true ∧ (Lit.int .i64 s.version).wf = true
theorem open_set {H : Type} {enc : TypeId × Value → H} {w : World} {base : Nat} {spare : Nat → Bool} {held : Bool} {fuel : Nat} {cs : List Value} {x : DataW H × List MemPlace}
    (h : DataW.trod enc Try.prog w base spare held fuel 56 cs = some x) : ∃ s : S5, cs = (setCells s) ∧ setWf s := by
  obtain ⟨xs, n, _, rfl, hl, hlen, hf⟩ := DataW.trod_struct Try.underlying56 h
  rw [cells_set] at hl
  obtain ⟨c0, c1, c2, c3, c4, rfl⟩ := list5 hl
  obtain ⟨y0, y1, y2, y3, y4, rfl⟩ := list5 hlen
  have h0 := hf 0 _ rfl
  have h1 := hf 1 _ rfl
  have h2 := hf 2 _ rfl
  have h3 := hf 3 _ rfl
  have h4 := hf 4 _ rfl
  simp [cells_int, cells_bool] at h0 h1 h2 h3 h4
  obtain ⟨z0, e0, _, f0⟩ := DataW.trod_int Try.underlying2 h0
  obtain ⟨z1, e1, _, f1⟩ := DataW.trod_int Try.underlying2 h1
  obtain ⟨z2, e2, _, f2⟩ := DataW.trod_int Try.underlying2 h2
  obtain ⟨z3, e3, _⟩ := DataW.trod_bool Try.underlying4 h3
  obtain ⟨z4, e4, _, f4⟩ := DataW.trod_int Try.underlying2 h4
  simp at e0 e1 e2 e3 e4
  subst e0 e1 e2 e3 e4
  exact ⟨⟨z0, z1, z2, z3, z4⟩, rfl, f0, f1, f2, f4⟩
theorem open_sets {H : Type} {enc : TypeId × Value → H} {w : World} {spare : Nat → Bool} {held : Bool} {fuel : Nat} {cs : List Value} {x : DataW H × List MemPlace}
    (h : DataW.trod enc Try.prog w 0 spare held fuel 49 cs = some x) : ∃ a n cap xs, cs = [.slice a n cap] ∧ n ≤ maxLen ∧ n ≤ cap ∧ Sl w w.heap.size a n xs := by
  rcases open_slice Try.underlying49 h with ⟨rfl, _⟩ | ⟨a, len, cap, m, n, D, Pl, rfl, _, hl, hm, hmm, _, hx⟩
  · exact ⟨none, 0, 0, [], rfl, Nat.zero_le _, Nat.le_refl _, ⟨rfl, .inl rfl⟩⟩
  · have hlm : len ≤ m := by rw [hmm]; split <;> omega
    have key : ∀ i, i < len → ∃ s : S5, ∀ k, k < 5 → w.cell? ((a.add (i * 5)).add k) = (setCells s)[k]? := fun i hi => by
      obtain ⟨cs', h1, h2⟩ := hx i (by omega)
      rw [cells_set] at h1
      obtain ⟨s, rfl, _⟩ := open_set h2
      exact ⟨s, (World.cells?_some h1).2.2⟩
    obtain ⟨xs, hlen, hxs⟩ := some_of len key
    refine ⟨some a, len, cap, xs, rfl, by omega, by omega, ⟨hlen, ?_⟩⟩
    · by_cases h0 : len = 0
      · exact .inl h0
      · right
        obtain ⟨b, off, spot⟩ := a
        obtain ⟨s, hs⟩ := key 0 (by omega)
        have c0 : w.cell? ⟨b, off, spot⟩ = some (.int .i64 s.region) := by simpa [Addr.add, setCells] using hs 0 (by omega)
        have hspot : spot = none := by simpa using World.cell?_spot c0
        subst hspot
        refine ⟨b, off, rfl, block_lt_of_cell c0, fun i s e => ?_⟩
        have hk := hxs i s e
        simp only [add_plain] at hk
        exact ⟨by simpa [setCells] using hk 0 (by omega), by simpa [setCells] using hk 1 (by omega), by simpa [setCells] using hk 2 (by omega), by simpa [setCells] using hk 3 (by omega), by simpa [setCells] using hk 4 (by omega)⟩
theorem cells_note : Try.prog.cellsOf 120 = 5 := by kernel_rfl
def noteCells (s : N5) : List Value := [.int .i64 s.region, .int .i64 s.slot, .int .i64 s.version, .int .i64 s.value, .bool s.used]
def noteWf (s : N5) : Prop := (Lit.int .i64 s.region).wf = true ∧ (Lit.int .i64 s.slot).wf = true ∧ (Lit.int .i64 s.version).wf = true ∧ (Lit.int .i64 s.value).wf = true
theorem open_note {H : Type} {enc : TypeId × Value → H} {w : World} {base : Nat} {spare : Nat → Bool} {held : Bool} {fuel : Nat} {cs : List Value} {x : DataW H × List MemPlace}
    (h : DataW.trod enc Try.prog w base spare held fuel 120 cs = some x) : ∃ s : N5, cs = (noteCells s) ∧ noteWf s := by
  obtain ⟨xs, n, _, rfl, hl, hlen, hf⟩ := DataW.trod_struct Try.underlying120 h
  rw [cells_note] at hl
  obtain ⟨c0, c1, c2, c3, c4, rfl⟩ := list5 hl
  obtain ⟨y0, y1, y2, y3, y4, rfl⟩ := list5 hlen
  have h0 := hf 0 _ rfl
  have h1 := hf 1 _ rfl
  have h2 := hf 2 _ rfl
  have h3 := hf 3 _ rfl
  have h4 := hf 4 _ rfl
  simp [cells_int, cells_bool] at h0 h1 h2 h3 h4
  obtain ⟨z0, e0, _, f0⟩ := DataW.trod_int Try.underlying2 h0
  obtain ⟨z1, e1, _, f1⟩ := DataW.trod_int Try.underlying2 h1
  obtain ⟨z2, e2, _, f2⟩ := DataW.trod_int Try.underlying2 h2
  obtain ⟨z3, e3, _, f4⟩ := DataW.trod_int Try.underlying2 h3
  obtain ⟨z4, e4, _⟩ := DataW.trod_bool Try.underlying4 h4
  simp at e0 e1 e2 e3 e4
  subst e0 e1 e2 e3 e4
  exact ⟨⟨z0, z1, z2, z3, z4⟩, rfl, f0, f1, f2, f4⟩
theorem open_notes {H : Type} {enc : TypeId × Value → H} {w : World} {spare : Nat → Bool} {held : Bool} {fuel : Nat} {cs : List Value} {x : DataW H × List MemPlace}
    (h : DataW.trod enc Try.prog w 0 spare held fuel 48 cs = some x) : ∃ a n cap xs, cs = [.slice a n cap] ∧ n ≤ maxLen ∧ n ≤ cap ∧ SlNo w w.heap.size a n xs := by
  rcases open_slice Try.underlying48 h with ⟨rfl, _⟩ | ⟨a, len, cap, m, n, D, Pl, rfl, _, hl, hm, hmm, _, hx⟩
  · exact ⟨none, 0, 0, [], rfl, Nat.zero_le _, Nat.le_refl _, ⟨rfl, .inl rfl⟩⟩
  · have hlm : len ≤ m := by rw [hmm]; split <;> omega
    have key : ∀ i, i < len → ∃ s : N5, ∀ k, k < 5 → w.cell? ((a.add (i * 5)).add k) = (noteCells s)[k]? := fun i hi => by
      obtain ⟨cs', h1, h2⟩ := hx i (by omega)
      rw [cells_note] at h1
      obtain ⟨s, rfl, _⟩ := open_note h2
      exact ⟨s, (World.cells?_some h1).2.2⟩
    obtain ⟨xs, hlen, hxs⟩ := some_of len key
    refine ⟨some a, len, cap, xs, rfl, by omega, by omega, ⟨hlen, ?_⟩⟩
    · by_cases h0 : len = 0
      · exact .inl h0
      · right
        obtain ⟨b, off, spot⟩ := a
        obtain ⟨s, hs⟩ := key 0 (by omega)
        have c0 : w.cell? ⟨b, off, spot⟩ = some (.int .i64 s.region) := by simpa [Addr.add, noteCells] using hs 0 (by omega)
        have hspot : spot = none := by simpa using World.cell?_spot c0
        subst hspot
        refine ⟨b, off, rfl, block_lt_of_cell c0, fun i s e => ?_⟩
        have hk := hxs i s e
        simp only [add_plain] at hk
        exact ⟨by simpa [noteCells] using hk 0 (by omega), by simpa [noteCells] using hk 1 (by omega), by simpa [noteCells] using hk 2 (by omega), by simpa [noteCells] using hk 3 (by omega), by simpa [noteCells] using hk 4 (by omega)⟩
theorem open_tx {H : Type} {enc : TypeId × Value → H} {w : World} {spare : Nat → Bool} {held : Bool} {fuel : Nat} {cs : List Value} {x : DataW H × List MemPlace}
    (h : DataW.trod enc Try.prog w 0 spare held fuel 51 cs = some x) : ∃ (v : TV) (t : T7), cs = [.int .i64 t.id, .int .i64 t.home, .int .i64 t.phase, .int .i64 t.count, .slice v.ar t.reads.length v.cr, .slice v.ah t.sets.length v.ch, .int .i64 t.stamp] ∧ SlT w v t ∧ TL t := by
  obtain ⟨xs, n, _, rfl, hl, hlen, hf⟩ := DataW.trod_struct Try.underlying51 h
  rw [cells_t] at hl
  obtain ⟨c0, c1, c2, c3, c4, c5, c6, rfl⟩ := list7 hl
  obtain ⟨y0, y1, y2, y3, y4, y5, y6, rfl⟩ := list7 hlen
  have h0 := hf 0 _ rfl
  have h1 := hf 1 _ rfl
  have h2 := hf 2 _ rfl
  have h3 := hf 3 _ rfl
  have h4 := hf 4 _ rfl
  have h5 := hf 5 _ rfl
  have h6 := hf 6 _ rfl
  simp [cells_i, cells_ns, cells_ss] at h0 h1 h2 h3 h4 h5 h6
  obtain ⟨z0, e0, _, _⟩ := DataW.trod_int Try.underlying2 h0
  obtain ⟨z1, e1, _, _⟩ := DataW.trod_int Try.underlying2 h1
  obtain ⟨z2, e2, _, _⟩ := DataW.trod_int Try.underlying2 h2
  obtain ⟨z3, e3, _, _⟩ := DataW.trod_int Try.underlying2 h3
  obtain ⟨a4, n4, k4, ns, e4, l4, p4, s4⟩ := open_notes h4
  obtain ⟨a5, n5, k5, ss, e5, l5, p5, s5⟩ := open_sets h5
  obtain ⟨z6, e6, _, _⟩ := DataW.trod_int Try.underlying2 h6
  simp at e0 e1 e2 e3 e4 e5 e6
  subst e0 e1 e2 e3 e4 e5 e6
  obtain ⟨rfl, s4'⟩ := s4
  obtain ⟨rfl, s5'⟩ := s5
  exact ⟨⟨a4, k4, a5, k5⟩, ⟨z0, z1, z2, z3, ns, ss, z6⟩, rfl, ⟨⟨rfl, s4'⟩, ⟨rfl, s5'⟩⟩, ⟨l4, l5⟩⟩
end Go.Proofs.Ytcfpancfdjgohaa.ot
