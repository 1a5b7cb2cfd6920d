/- An argument that is a Machine, opened: a truth and three rows in memory; every row is no longer than its capacity. -/
import Derived.Test.YtalmflikdnflfaaGreatRows
import Derived.Test.YtalmflikdnflfaaGreatJ5ExactFind
import Derived.Test.YtalmflikdnflfaaGreatJ46ExactFind
import Derived.ProofKit
import Derived.OpenShut
import Derived.Deep.Slices
import Derived.Lib.SmallJoins
namespace Go.Proofs.YtalmflikdnflfaaGreat.om
open Go.ChangeShapes Go.WideShapes Go.ChangeAt Go.RowKit Go.Deep
theorem cells_i : Tryz.prog.cellsOf 2 = 1 := by kernel_rfl
theorem cells_b : Tryz.prog.cellsOf 4 = 1 := by kernel_rfl
theorem cells_ss : Tryz.prog.cellsOf 122 = 1 := by kernel_rfl
theorem cells_cs : Tryz.prog.cellsOf 217 = 1 := by kernel_rfl
theorem cells_rs : Tryz.prog.cellsOf 117 = 1 := by kernel_rfl
theorem cells_ks : Tryz.prog.cellsOf 116 = 1 := by kernel_rfl
theorem cells_is : Tryz.prog.cellsOf 52 = 1 := by kernel_rfl
theorem cells_r : Tryz.prog.cellsOf 222 = 4 := by kernel_rfl
theorem cells_k : Tryz.prog.cellsOf 219 = 2 := by kernel_rfl
theorem cells_m : Tryz.prog.cellsOf 119 = 4 := by kernel_rfl
theorem list4 {α : Type} {cs : List α} (h : cs.length = 4) : ∃ c0 c1 c2 c3, cs = [c0, c1, c2, c3] := by
  match cs, h with
  | [c0, c1, c2, c3], _ => exact ⟨c0, c1, c2, c3, rfl⟩
theorem open_sets {H : Type} {enc : TypeId × Value → H} {w : World} {spare : Nat → Bool} {held : Bool} {fuel : Nat} {cs : List Value} {x : DataW H × List MemPlace}
    (h : DataW.trod enc Tryz.prog w 0 spare held fuel 122 cs = some x) : ∃ a n cap xs, cs = [.slice a n cap] ∧ n ≤ maxLen ∧ n ≤ cap ∧ Sl w w.heap.size a n xs := by
  rcases open_slice Tryz.underlying122 h with ⟨rfl, _⟩ | ⟨a, len, cap, m, n, D, Pl, rfl, _, hl, hm, hmm, _, hx⟩
  · exact ⟨none, 0, 0, [], rfl, Nat.zero_le _, Nat.le_refl _, ⟨rfl, .inl rfl⟩⟩
  · have hlm : len ≤ m := by rw [hmm]; split <;> omega
    have key : ∀ i, i < len → ∃ s : S5, ∀ k, k < 5 → w.cell? ((a.add (i * 5)).add k) = s.cells[k]? := fun i hi => by
      obtain ⟨cs', h1, h2⟩ := hx i (by omega)
      rw [cells_set] at h1
      obtain ⟨s, rfl, _⟩ := open_set h2
      exact ⟨s, (World.cells?_some h1).2.2⟩
    obtain ⟨xs, hlen, hxs⟩ := some_of len key
    refine ⟨some a, len, cap, xs, rfl, by omega, by omega, ⟨hlen, ?_⟩⟩
    · by_cases h0 : len = 0
      · exact .inl h0
      · right
        obtain ⟨b, off, spot⟩ := a
        obtain ⟨s, hs⟩ := key 0 (by omega)
        have c0 : w.cell? ⟨b, off, spot⟩ = some (.int .i64 s.region) := by simpa [Addr.add, S5.cells] using hs 0 (by omega)
        have hspot : spot = none := by simpa using World.cell?_spot c0
        subst hspot
        refine ⟨b, off, rfl, block_lt_of_cell c0, fun i s e => ?_⟩
        have hk := hxs i s e
        simp only [add_plain] at hk
        exact ⟨by simpa [S5.cells] using hk 0 (by omega), by simpa [S5.cells] using hk 1 (by omega), by simpa [S5.cells] using hk 2 (by omega), by simpa [S5.cells] using hk 3 (by omega), by simpa [S5.cells] using hk 4 (by omega)⟩
theorem open_cells {H : Type} {enc : TypeId × Value → H} {w : World} {spare : Nat → Bool} {held : Bool} {fuel : Nat} {cs : List Value} {x : DataW H × List MemPlace}
    (h : DataW.trod enc Tryz.prog w 0 spare held fuel 217 cs = some x) : ∃ a n cap xs, cs = [.slice a n cap] ∧ n ≤ maxLen ∧ n ≤ cap ∧ SlC w w.heap.size a n xs := by
  rcases open_slice Tryz.underlying217 h with ⟨rfl, _⟩ | ⟨a, len, cap, m, n, D, Pl, rfl, _, hl, hm, hmm, _, hx⟩
  · exact ⟨none, 0, 0, [], rfl, Nat.zero_le _, Nat.le_refl _, ⟨rfl, .inl rfl⟩⟩
  · have hlm : len ≤ m := by rw [hmm]; split <;> omega
    have key : ∀ i, i < len → ∃ s : C2, ∀ k, k < 2 → w.cell? ((a.add (i * 2)).add k) = s.cells[k]? := fun i hi => by
      obtain ⟨cs', h1, h2⟩ := hx i (by omega)
      rw [cells_cell] at h1
      obtain ⟨s, rfl⟩ := open_cell h2
      exact ⟨s, (World.cells?_some h1).2.2⟩
    obtain ⟨xs, hlen, hxs⟩ := some_of len key
    refine ⟨some a, len, cap, xs, rfl, by omega, by omega, ⟨hlen, ?_⟩⟩
    · by_cases h0 : len = 0
      · exact .inl h0
      · right
        obtain ⟨b, off, spot⟩ := a
        obtain ⟨s, hs⟩ := key 0 (by omega)
        have c0 : w.cell? ⟨b, off, spot⟩ = some (.int .i64 s.head) := by simpa [Addr.add, C2.cells] using hs 0 (by omega)
        have hspot : spot = none := by simpa using World.cell?_spot c0
        subst hspot
        refine ⟨b, off, rfl, block_lt_of_cell c0, fun i s e => ?_⟩
        have hk := hxs i s e
        simp only [add_plain] at hk
        exact ⟨by simpa [C2.cells] using hk 0 (by omega), by simpa [C2.cells] using hk 1 (by omega)⟩
theorem open_nums {H : Type} {enc : TypeId × Value → H} {w : World} {spare : Nat → Bool} {held : Bool} {fuel : Nat} {cs : List Value} {x : DataW H × List MemPlace}
    (h : DataW.trod enc Tryz.prog w 0 spare held fuel 52 cs = some x) : ∃ a n cap xs, cs = [.slice a n cap] ∧ n ≤ maxLen ∧ n ≤ cap ∧ SlN w w.heap.size a n xs := by
  rcases open_slice Tryz.underlying52 h with ⟨rfl, _⟩ | ⟨a, len, cap, m, n, D, Pl, rfl, _, hl, hm, hmm, _, hx⟩
  · exact ⟨none, 0, 0, [], rfl, Nat.zero_le _, Nat.le_refl _, ⟨rfl, .inl rfl⟩⟩
  · have hlm : len ≤ m := by rw [hmm]; split <;> omega
    have key : ∀ i, i < len → ∃ s : Int, w.cell? (a.add (i * 1)) = some (.int .i64 s) := fun i hi => by
      obtain ⟨cs', h1, h2⟩ := hx i (by omega)
      rw [cells_i] at h1
      obtain ⟨z, e, _⟩ := DataW.trod_int Tryz.underlying2 h2
      subst e
      have := (World.cells?_some h1).2.2 0 (by omega)
      exact ⟨z, by simpa [Addr.add] using this⟩
    obtain ⟨xs, hlen, hxs⟩ := some_of len key
    refine ⟨some a, len, cap, xs, rfl, by omega, by omega, ⟨hlen, ?_⟩⟩
    · by_cases h0 : len = 0
      · exact .inl h0
      · right
        obtain ⟨b, off, spot⟩ := a
        obtain ⟨s, hs⟩ := key 0 (by omega)
        have c0 : w.cell? ⟨b, off, spot⟩ = some (.int .i64 s) := by simpa [Addr.add] using hs
        have hspot : spot = none := by simpa using World.cell?_spot c0
        subst hspot
        refine ⟨b, off, rfl, block_lt_of_cell c0, fun i s e => ?_⟩
        have hk := hxs i s e
        simp only [add_plain] at hk
        simpa using hk
theorem open_rec {H : Type} {enc : TypeId × Value → H} {w : World} {spare : Nat → Bool} {held : Bool} {fuel : Nat} {cs : List Value} {x : DataW H × List MemPlace}
    (h : DataW.trod enc Tryz.prog w 0 spare held fuel 222 cs = some x) : ∃ (r : R4) (a : Option Addr) (cap : Nat), cs = [.int .i64 r.kind, .int .i64 r.tx, .int .i64 r.region, .slice a r.sets.length cap] ∧ Sl w w.heap.size a r.sets.length r.sets ∧ r.sets.length ≤ cap ∧ r.sets.length ≤ maxLen := by
  obtain ⟨xs, n, _, rfl, hl, hlen, hf⟩ := DataW.trod_struct Tryz.underlying222 h
  rw [cells_r] at hl
  obtain ⟨c0, c1, c2, c3, rfl⟩ := list4 hl
  obtain ⟨y0, y1, y2, y3, rfl⟩ := list4 hlen
  have h0 := hf 0 _ rfl
  have h1 := hf 1 _ rfl
  have h2 := hf 2 _ rfl
  have h3 := hf 3 _ rfl
  simp [cells_i, cells_ss] at h0 h1 h2 h3
  obtain ⟨z0, e0, _, _⟩ := DataW.trod_int Tryz.underlying2 h0
  obtain ⟨z1, e1, _, _⟩ := DataW.trod_int Tryz.underlying2 h1
  obtain ⟨z2, e2, _, _⟩ := DataW.trod_int Tryz.underlying2 h2
  obtain ⟨a, m, cap, ss, e3, hm, hc, hs⟩ := open_sets h3
  simp at e0 e1 e2 e3
  subst e0 e1 e2 e3
  obtain ⟨rfl, hs'⟩ := hs
  exact ⟨⟨z0, z1, z2, ss⟩, a, cap, rfl, ⟨rfl, hs'⟩, hc, hm⟩
theorem open_cop {H : Type} {enc : TypeId × Value → H} {w : World} {spare : Nat → Bool} {held : Bool} {fuel : Nat} {cs : List Value} {x : DataW H × List MemPlace}
    (h : DataW.trod enc Tryz.prog w 0 spare held fuel 219 cs = some x) : ∃ (k : K2) (a : Option Addr) (cap : Nat), cs = [.int .i64 k.region, .slice a k.cells.length cap] ∧ SlC w w.heap.size a k.cells.length k.cells ∧ k.cells.length ≤ cap ∧ k.cells.length ≤ maxLen := by
  obtain ⟨xs, n, _, rfl, hl, hlen, hf⟩ := DataW.trod_struct Tryz.underlying219 h
  rw [cells_k] at hl
  obtain ⟨c0, c1, rfl⟩ := list2 hl
  obtain ⟨y0, y1, rfl⟩ := list2 hlen
  have h0 := hf 0 _ rfl
  have h1 := hf 1 _ rfl
  simp [cells_i, cells_cs] at h0 h1
  obtain ⟨z0, e0, _, _⟩ := DataW.trod_int Tryz.underlying2 h0
  obtain ⟨a, m, cap, ss, e3, hm, hc, hs⟩ := open_cells h1
  simp at e0 e3
  subst e0 e3
  obtain ⟨rfl, hs'⟩ := hs
  exact ⟨⟨z0, ss⟩, a, cap, rfl, ⟨rfl, hs'⟩, hc, hm⟩
theorem open_recs {H : Type} {enc : TypeId × Value → H} {w : World} {spare : Nat → Bool} {held : Bool} {fuel : Nat} {cs : List Value} {x : DataW H × List MemPlace}
    (h : DataW.trod enc Tryz.prog w 0 spare held fuel 117 cs = some x) : ∃ a n cap xs, cs = [.slice a n cap] ∧ n ≤ maxLen ∧ n ≤ cap ∧ SlR w w.heap.size a n xs ∧ ∀ s ∈ xs, s.sets.length ≤ maxLen := by
  rcases open_slice Tryz.underlying117 h with ⟨rfl, _⟩ | ⟨a, len, cap, m, n, D, Pl, rfl, _, hl, hm, hmm, _, hx⟩
  · exact ⟨none, 0, 0, [], rfl, Nat.zero_le _, Nat.le_refl _, ⟨rfl, .inl rfl⟩, fun s hs => by cases hs⟩
  · have hlm : len ≤ m := by rw [hmm]; split <;> omega
    have key : ∀ i, i < len → ∃ s : R4, (∃ a' cap', (∀ k, k < 4 → w.cell? ((a.add (i * 4)).add k) = ([.int .i64 s.kind, .int .i64 s.tx, .int .i64 s.region, .slice a' s.sets.length cap'] : List Value)[k]?) ∧ Sl w w.heap.size a' s.sets.length s.sets ∧ s.sets.length ≤ cap') ∧ s.sets.length ≤ maxLen := fun i hi => by
      obtain ⟨cs', h1, h2⟩ := hx i (by omega)
      rw [cells_r] at h1
      obtain ⟨s, a', cap', rfl, t1, t2, t3⟩ := open_rec h2
      exact ⟨s, ⟨a', cap', (World.cells?_some h1).2.2, t1, t2⟩, t3⟩
    obtain ⟨xs, hlen, hxs⟩ := some_of len key
    refine ⟨some a, len, cap, xs, rfl, by omega, by omega, ⟨hlen, ?_⟩, ?_⟩
    · by_cases h0 : len = 0
      · exact .inl h0
      · right
        obtain ⟨b, off, spot⟩ := a
        obtain ⟨s, hs⟩ := key 0 (by omega)
        obtain ⟨⟨a', cap', hs, _⟩, _⟩ := hs
        have c0 := hs 0 (by omega)
        simp [Addr.add] at c0
        have hspot : spot = none := by simpa using World.cell?_spot c0
        subst hspot
        refine ⟨b, off, rfl, block_lt_of_cell c0, fun i s e => ?_⟩
        have hk := hxs i s e
        simp only [add_plain] at hk
        obtain ⟨⟨a', cap', hk, t1, t2⟩, _⟩ := hk
        exact ⟨by simpa using hk 0 (by omega), by simpa using hk 1 (by omega), by simpa using hk 2 (by omega), a', cap', by simpa using hk 3 (by omega), t1, t2⟩
    · intro s hs
      obtain ⟨i, hi, rfl⟩ := List.getElem_of_mem hs
      exact (hxs i _ (List.getElem?_eq_getElem hi)).2
theorem open_cops {H : Type} {enc : TypeId × Value → H} {w : World} {spare : Nat → Bool} {held : Bool} {fuel : Nat} {cs : List Value} {x : DataW H × List MemPlace}
    (h : DataW.trod enc Tryz.prog w 0 spare held fuel 116 cs = some x) : ∃ a n cap xs, cs = [.slice a n cap] ∧ n ≤ maxLen ∧ n ≤ cap ∧ SlK w w.heap.size a n xs ∧ ∀ s ∈ xs, s.cells.length ≤ maxLen := by
  rcases open_slice Tryz.underlying116 h with ⟨rfl, _⟩ | ⟨a, len, cap, m, n, D, Pl, rfl, _, hl, hm, hmm, _, hx⟩
  · exact ⟨none, 0, 0, [], rfl, Nat.zero_le _, Nat.le_refl _, ⟨rfl, .inl rfl⟩, fun s hs => by cases hs⟩
  · have hlm : len ≤ m := by rw [hmm]; split <;> omega
    have key : ∀ i, i < len → ∃ s : K2, (∃ a' cap', (∀ k, k < 2 → w.cell? ((a.add (i * 2)).add k) = ([.int .i64 s.region, .slice a' s.cells.length cap'] : List Value)[k]?) ∧ SlC w w.heap.size a' s.cells.length s.cells ∧ s.cells.length ≤ cap') ∧ s.cells.length ≤ maxLen := fun i hi => by
      obtain ⟨cs', h1, h2⟩ := hx i (by omega)
      rw [cells_k] at h1
      obtain ⟨s, a', cap', rfl, t1, t2, t3⟩ := open_cop h2
      exact ⟨s, ⟨a', cap', (World.cells?_some h1).2.2, t1, t2⟩, t3⟩
    obtain ⟨xs, hlen, hxs⟩ := some_of len key
    refine ⟨some a, len, cap, xs, rfl, by omega, by omega, ⟨hlen, ?_⟩, ?_⟩
    · by_cases h0 : len = 0
      · exact .inl h0
      · right
        obtain ⟨b, off, spot⟩ := a
        obtain ⟨s, hs⟩ := key 0 (by omega)
        obtain ⟨⟨a', cap', hs, _⟩, _⟩ := hs
        have c0 := hs 0 (by omega)
        simp [Addr.add] at c0
        have hspot : spot = none := by simpa using World.cell?_spot c0
        subst hspot
        refine ⟨b, off, rfl, block_lt_of_cell c0, fun i s e => ?_⟩
        have hk := hxs i s e
        simp only [add_plain] at hk
        obtain ⟨⟨a', cap', hk, t1, t2⟩, _⟩ := hk
        exact ⟨by simpa using hk 0 (by omega), a', cap', by simpa using hk 1 (by omega), t1, t2⟩
    · intro s hs
      obtain ⟨i, hi, rfl⟩ := List.getElem_of_mem hs
      exact (hxs i _ (List.getElem?_eq_getElem hi)).2
theorem open_machine {H : Type} {enc : TypeId × Value → H} {w : World} {spare : Nat → Bool} {held : Bool} {fuel : Nat} {cs : List Value} {x : DataW H × List MemPlace}
    (h : DataW.trod enc Tryz.prog w 0 spare held fuel 119 cs = some x) : ∃ (v : MV) (m : M4), cs = [.bool m.alive, .slice v.ac m.copies.length v.cc, .slice v.al m.log.length v.cl, .slice v.ad m.cleared.length v.cd] ∧ SlM w v m ∧ m.copies.length ≤ maxLen ∧ m.log.length ≤ maxLen ∧ m.cleared.length ≤ maxLen ∧ (∀ r ∈ m.copies, r.cells.length ≤ maxLen) ∧ (∀ r ∈ m.log, r.sets.length ≤ maxLen) ∧ m.copies.length ≤ v.cc ∧ m.log.length ≤ v.cl ∧ m.cleared.length ≤ v.cd := by
  obtain ⟨xs, n, _, rfl, hl, hlen, hf⟩ := DataW.trod_struct Tryz.underlying119 h
  rw [cells_m] at hl
  obtain ⟨c0, c1, c2, c3, rfl⟩ := list4 hl
  obtain ⟨y0, y1, y2, y3, rfl⟩ := list4 hlen
  have h0 := hf 0 _ rfl
  have h1 := hf 1 _ rfl
  have h2 := hf 2 _ rfl
  have h3 := hf 3 _ rfl
  simp [cells_b, cells_ks, cells_rs, cells_is] at h0 h1 h2 h3
  obtain ⟨z0, e0, _⟩ := DataW.trod_bool Tryz.underlying4 h0
  obtain ⟨a1, n1, k1, ks, e1, l1, p1, s1, q1⟩ := open_cops h1
  obtain ⟨a2, n2, k2, rs, e2, l2, p2, s2, q2⟩ := open_recs h2
  obtain ⟨a3, n3, k3, zs, e3, l3, p3, s3⟩ := open_nums h3
  simp at e0 e1 e2 e3
  subst e0 e1 e2 e3
  obtain ⟨rfl, s1'⟩ := s1
  obtain ⟨rfl, s2'⟩ := s2
  obtain ⟨rfl, s3'⟩ := s3
  exact ⟨⟨a1, k1, a2, k2, a3, k3⟩, ⟨z0, ks, rs, zs⟩, rfl, ⟨⟨rfl, s1'⟩, ⟨rfl, s2'⟩, ⟨rfl, s3'⟩⟩, l1, l2, l3, q1, q2, p1, p2, p3⟩
end Go.Proofs.YtalmflikdnflfaaGreat.om
