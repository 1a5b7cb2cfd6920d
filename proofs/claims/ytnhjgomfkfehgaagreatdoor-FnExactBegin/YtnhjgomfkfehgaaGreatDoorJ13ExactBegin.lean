/- OpenMac; YOpenTx; OpenCl; KdMm; KdTm; NumHeld; MkH0; KdMn; KdTn; PlsMa; PlsQ; PlsM; KdClM; KdClN; SzBg; ExactBeginW; ExactBeginL: joined. -/
import Derived.Test.YtnhjgomfkfehgaaGreatDoorRows
import Derived.Test.YtnhjgomfkfehgaaGreatDoorJ2ExactBegin
import Derived.Test.YtnhjgomfkfehgaaGreatDoorJ12ExactBegin
import Derived.ProofKit
import Derived.OpenShut
import Derived.Deep.Slices
import Derived.Lib.SmallJoins
import Derived.Test.YtnhjgomfkfehgaaGreatDoorJ4ExactBegin
import Derived.Test.YtnhjgomfkfehgaaGreatDoorJ6ExactBegin
import Derived.Test.YtnhjgomfkfehgaaGreatDoorJ7ExactBegin
import Derived.Test.YtnhjgomfkfehgaaGreatDoorJ3ExactBegin
import Derived.WalkKit
import Derived.WalkSpells
import Derived.WalkLawsBesides
import Derived.Below
import Derived.Lib.QuietBelow
import Derived.BigQuiet
import Derived.Deep.CutRange
import Derived.Test.YtnhjgomfkfehgaaGreatDoorJ5ExactBegin
import Derived.Test.YtnhjgomfkfehgaaGreatDoorTie
import Derived.Test.YtnhjgomfkfehgaaGreatDoorCards
import Derived.ChangeSame
import Derived.ChangeVars
import Derived.JoinedOf
import Derived.RowKit
import Derived.RowKitTokens
import Derived.LaidLaws
import Derived.LaidHandle
import Derived.Stop.Joined
import Derived.SevenTiedAt
import Derived.Deep.RegionWith
namespace Go.Proofs.YtnhjgomfkfehgaaGreatDoor.om
open Go.ChangeShapes Go.WideShapes Go.ChangeAt Go.RowKit Go.Deep
theorem cells_i : Tryz.prog.cellsOf 2 = 1 := by kernel_rfl
theorem cells_b : Tryz.prog.cellsOf 4 = 1 := by kernel_rfl
theorem cells_ss : Tryz.prog.cellsOf 122 = 1 := by kernel_rfl
theorem cells_cs : Tryz.prog.cellsOf 222 = 1 := by kernel_rfl
theorem cells_rs : Tryz.prog.cellsOf 117 = 1 := by kernel_rfl
theorem cells_ks : Tryz.prog.cellsOf 116 = 1 := by kernel_rfl
theorem cells_is : Tryz.prog.cellsOf 60 = 1 := by kernel_rfl
theorem cells_r : Tryz.prog.cellsOf 227 = 4 := by kernel_rfl
theorem cells_k : Tryz.prog.cellsOf 224 = 2 := by kernel_rfl
theorem cells_m : Tryz.prog.cellsOf 119 = 4 := by kernel_rfl
theorem list4 {α : Type} {cs : List α} (h : cs.length = 4) : ∃ c0 c1 c2 c3, cs = [c0, c1, c2, c3] := by
  match cs, h with
  | [c0, c1, c2, c3], _ => exact ⟨c0, c1, c2, c3, rfl⟩
theorem open_sets {H : Type} {enc : TypeId × Value → H} {w : World} {spare : Nat → Bool} {held : Bool} {fuel : Nat} {cs : List Value} {x : DataW H × List MemPlace}
    (h : DataW.trod enc Tryz.prog w 0 spare held fuel 122 cs = some x) : ∃ a n cap xs, cs = [.slice a n cap] ∧ n ≤ maxLen ∧ n ≤ cap ∧ Sl w w.heap.size a n xs := by
  rcases open_slice Tryz.underlying122 h with ⟨rfl, _⟩ | ⟨a, len, cap, m, n, D, Pl, rfl, _, hl, hm, hmm, _, hx⟩
  · exact ⟨none, 0, 0, [], rfl, Nat.zero_le _, Nat.le_refl _, ⟨rfl, .inl rfl⟩⟩
  · have hlm : len ≤ m := by rw [hmm]; split <;> omega
    have key : ∀ i, i < len → ∃ s : S5, ∀ k, k < 5 → w.cell? ((a.add (i * 5)).add k) = s.cells[k]? := fun i hi => by
      obtain ⟨cs', h1, h2⟩ := hx i (by omega)
      rw [cells_set] at h1
      obtain ⟨s, rfl, _⟩ := open_set h2
      exact ⟨s, (World.cells?_some h1).2.2⟩
    obtain ⟨xs, hlen, hxs⟩ := some_of len key
    refine ⟨some a, len, cap, xs, rfl, by omega, by omega, ⟨hlen, ?_⟩⟩
    · by_cases h0 : len = 0
      · exact .inl h0
      · right
        obtain ⟨b, off, spot⟩ := a
        obtain ⟨s, hs⟩ := key 0 (by omega)
        have c0 : w.cell? ⟨b, off, spot⟩ = some (.int .i64 s.region) := by simpa [Addr.add, S5.cells] using hs 0 (by omega)
        have hspot : spot = none := by simpa using World.cell?_spot c0
        subst hspot
        refine ⟨b, off, rfl, block_lt_of_cell c0, fun i s e => ?_⟩
        have hk := hxs i s e
        simp only [add_plain] at hk
        exact ⟨by simpa [S5.cells] using hk 0 (by omega), by simpa [S5.cells] using hk 1 (by omega), by simpa [S5.cells] using hk 2 (by omega), by simpa [S5.cells] using hk 3 (by omega), by simpa [S5.cells] using hk 4 (by omega)⟩
theorem open_cells {H : Type} {enc : TypeId × Value → H} {w : World} {spare : Nat → Bool} {held : Bool} {fuel : Nat} {cs : List Value} {x : DataW H × List MemPlace}
    (h : DataW.trod enc Tryz.prog w 0 spare held fuel 222 cs = some x) : ∃ a n cap xs, cs = [.slice a n cap] ∧ n ≤ maxLen ∧ n ≤ cap ∧ SlC w w.heap.size a n xs := by
  rcases open_slice Tryz.underlying222 h with ⟨rfl, _⟩ | ⟨a, len, cap, m, n, D, Pl, rfl, _, hl, hm, hmm, _, hx⟩
  · exact ⟨none, 0, 0, [], rfl, Nat.zero_le _, Nat.le_refl _, ⟨rfl, .inl rfl⟩⟩
  · have hlm : len ≤ m := by rw [hmm]; split <;> omega
    have key : ∀ i, i < len → ∃ s : C2, ∀ k, k < 2 → w.cell? ((a.add (i * 2)).add k) = s.cells[k]? := fun i hi => by
      obtain ⟨cs', h1, h2⟩ := hx i (by omega)
      rw [cells_cell] at h1
      obtain ⟨s, rfl⟩ := open_cell h2
      exact ⟨s, (World.cells?_some h1).2.2⟩
    obtain ⟨xs, hlen, hxs⟩ := some_of len key
    refine ⟨some a, len, cap, xs, rfl, by omega, by omega, ⟨hlen, ?_⟩⟩
    · by_cases h0 : len = 0
      · exact .inl h0
      · right
        obtain ⟨b, off, spot⟩ := a
        obtain ⟨s, hs⟩ := key 0 (by omega)
        have c0 : w.cell? ⟨b, off, spot⟩ = some (.int .i64 s.head) := by simpa [Addr.add, C2.cells] using hs 0 (by omega)
        have hspot : spot = none := by simpa using World.cell?_spot c0
        subst hspot
        refine ⟨b, off, rfl, block_lt_of_cell c0, fun i s e => ?_⟩
        have hk := hxs i s e
        simp only [add_plain] at hk
        exact ⟨by simpa [C2.cells] using hk 0 (by omega), by simpa [C2.cells] using hk 1 (by omega)⟩
theorem open_nums {H : Type} {enc : TypeId × Value → H} {w : World} {spare : Nat → Bool} {held : Bool} {fuel : Nat} {cs : List Value} {x : DataW H × List MemPlace}
    (h : DataW.trod enc Tryz.prog w 0 spare held fuel 60 cs = some x) : ∃ a n cap xs, cs = [.slice a n cap] ∧ n ≤ maxLen ∧ n ≤ cap ∧ SlN w w.heap.size a n xs := by
  rcases open_slice Tryz.underlying60 h with ⟨rfl, _⟩ | ⟨a, len, cap, m, n, D, Pl, rfl, _, hl, hm, hmm, _, hx⟩
  · exact ⟨none, 0, 0, [], rfl, Nat.zero_le _, Nat.le_refl _, ⟨rfl, .inl rfl⟩⟩
  · have hlm : len ≤ m := by rw [hmm]; split <;> omega
    have key : ∀ i, i < len → ∃ s : Int, w.cell? (a.add (i * 1)) = some (.int .i64 s) := fun i hi => by
      obtain ⟨cs', h1, h2⟩ := hx i (by omega)
      rw [cells_i] at h1
      obtain ⟨z, e, _⟩ := DataW.trod_int Tryz.underlying2 h2
      subst e
      have := (World.cells?_some h1).2.2 0 (by omega)
      exact ⟨z, by simpa [Addr.add] using this⟩
    obtain ⟨xs, hlen, hxs⟩ := some_of len key
    refine ⟨some a, len, cap, xs, rfl, by omega, by omega, ⟨hlen, ?_⟩⟩
    · by_cases h0 : len = 0
      · exact .inl h0
      · right
        obtain ⟨b, off, spot⟩ := a
        obtain ⟨s, hs⟩ := key 0 (by omega)
        have c0 : w.cell? ⟨b, off, spot⟩ = some (.int .i64 s) := by simpa [Addr.add] using hs
        have hspot : spot = none := by simpa using World.cell?_spot c0
        subst hspot
        refine ⟨b, off, rfl, block_lt_of_cell c0, fun i s e => ?_⟩
        have hk := hxs i s e
        simp only [add_plain] at hk
        simpa using hk
theorem open_rec {H : Type} {enc : TypeId × Value → H} {w : World} {spare : Nat → Bool} {held : Bool} {fuel : Nat} {cs : List Value} {x : DataW H × List MemPlace}
    (h : DataW.trod enc Tryz.prog w 0 spare held fuel 227 cs = some x) : ∃ (r : R4) (a : Option Addr) (cap : Nat), cs = [.int .i64 r.kind, .int .i64 r.tx, .int .i64 r.region, .slice a r.sets.length cap] ∧ Sl w w.heap.size a r.sets.length r.sets ∧ r.sets.length ≤ cap ∧ r.sets.length ≤ maxLen := by
  obtain ⟨xs, n, _, rfl, hl, hlen, hf⟩ := DataW.trod_struct Tryz.underlying227 h
  rw [cells_r] at hl
  obtain ⟨c0, c1, c2, c3, rfl⟩ := list4 hl
  obtain ⟨y0, y1, y2, y3, rfl⟩ := list4 hlen
  have h0 := hf 0 _ rfl
  have h1 := hf 1 _ rfl
  have h2 := hf 2 _ rfl
  have h3 := hf 3 _ rfl
  simp [cells_i, cells_ss] at h0 h1 h2 h3
  obtain ⟨z0, e0, _, _⟩ := DataW.trod_int Tryz.underlying2 h0
  obtain ⟨z1, e1, _, _⟩ := DataW.trod_int Tryz.underlying2 h1
  obtain ⟨z2, e2, _, _⟩ := DataW.trod_int Tryz.underlying2 h2
  obtain ⟨a, m, cap, ss, e3, hm, hc, hs⟩ := open_sets h3
  simp at e0 e1 e2 e3
  subst e0 e1 e2 e3
  obtain ⟨rfl, hs'⟩ := hs
  exact ⟨⟨z0, z1, z2, ss⟩, a, cap, rfl, ⟨rfl, hs'⟩, hc, hm⟩
theorem open_cop {H : Type} {enc : TypeId × Value → H} {w : World} {spare : Nat → Bool} {held : Bool} {fuel : Nat} {cs : List Value} {x : DataW H × List MemPlace}
    (h : DataW.trod enc Tryz.prog w 0 spare held fuel 224 cs = some x) : ∃ (k : K2) (a : Option Addr) (cap : Nat), cs = [.int .i64 k.region, .slice a k.cells.length cap] ∧ SlC w w.heap.size a k.cells.length k.cells ∧ k.cells.length ≤ cap ∧ k.cells.length ≤ maxLen := by
  obtain ⟨xs, n, _, rfl, hl, hlen, hf⟩ := DataW.trod_struct Tryz.underlying224 h
  rw [cells_k] at hl
  obtain ⟨c0, c1, rfl⟩ := list2 hl
  obtain ⟨y0, y1, rfl⟩ := list2 hlen
  have h0 := hf 0 _ rfl
  have h1 := hf 1 _ rfl
  simp [cells_i, cells_cs] at h0 h1
  obtain ⟨z0, e0, _, _⟩ := DataW.trod_int Tryz.underlying2 h0
  obtain ⟨a, m, cap, ss, e3, hm, hc, hs⟩ := open_cells h1
  simp at e0 e3
  subst e0 e3
  obtain ⟨rfl, hs'⟩ := hs
  exact ⟨⟨z0, ss⟩, a, cap, rfl, ⟨rfl, hs'⟩, hc, hm⟩
theorem open_recs {H : Type} {enc : TypeId × Value → H} {w : World} {spare : Nat → Bool} {held : Bool} {fuel : Nat} {cs : List Value} {x : DataW H × List MemPlace}
    (h : DataW.trod enc Tryz.prog w 0 spare held fuel 117 cs = some x) : ∃ a n cap xs, cs = [.slice a n cap] ∧ n ≤ maxLen ∧ n ≤ cap ∧ SlR w w.heap.size a n xs ∧ ∀ s ∈ xs, s.sets.length ≤ maxLen := by
  rcases open_slice Tryz.underlying117 h with ⟨rfl, _⟩ | ⟨a, len, cap, m, n, D, Pl, rfl, _, hl, hm, hmm, _, hx⟩
  · exact ⟨none, 0, 0, [], rfl, Nat.zero_le _, Nat.le_refl _, ⟨rfl, .inl rfl⟩, fun s hs => by cases hs⟩
  · have hlm : len ≤ m := by rw [hmm]; split <;> omega
    have key : ∀ i, i < len → ∃ s : R4, (∃ a' cap', (∀ k, k < 4 → w.cell? ((a.add (i * 4)).add k) = ([.int .i64 s.kind, .int .i64 s.tx, .int .i64 s.region, .slice a' s.sets.length cap'] : List Value)[k]?) ∧ Sl w w.heap.size a' s.sets.length s.sets ∧ s.sets.length ≤ cap') ∧ s.sets.length ≤ maxLen := fun i hi => by
      obtain ⟨cs', h1, h2⟩ := hx i (by omega)
      rw [cells_r] at h1
      obtain ⟨s, a', cap', rfl, t1, t2, t3⟩ := open_rec h2
      exact ⟨s, ⟨a', cap', (World.cells?_some h1).2.2, t1, t2⟩, t3⟩
    obtain ⟨xs, hlen, hxs⟩ := some_of len key
    refine ⟨some a, len, cap, xs, rfl, by omega, by omega, ⟨hlen, ?_⟩, ?_⟩
    · by_cases h0 : len = 0
      · exact .inl h0
      · right
        obtain ⟨b, off, spot⟩ := a
        obtain ⟨s, hs⟩ := key 0 (by omega)
        obtain ⟨⟨a', cap', hs, _⟩, _⟩ := hs
        have c0 := hs 0 (by omega)
        simp [Addr.add] at c0
        have hspot : spot = none := by simpa using World.cell?_spot c0
        subst hspot
        refine ⟨b, off, rfl, block_lt_of_cell c0, fun i s e => ?_⟩
        have hk := hxs i s e
        simp only [add_plain] at hk
        obtain ⟨⟨a', cap', hk, t1, t2⟩, _⟩ := hk
        exact ⟨by simpa using hk 0 (by omega), by simpa using hk 1 (by omega), by simpa using hk 2 (by omega), a', cap', by simpa using hk 3 (by omega), t1, t2⟩
    · intro s hs
      obtain ⟨i, hi, rfl⟩ := List.getElem_of_mem hs
      exact (hxs i _ (List.getElem?_eq_getElem hi)).2
theorem open_cops {H : Type} {enc : TypeId × Value → H} {w : World} {spare : Nat → Bool} {held : Bool} {fuel : Nat} {cs : List Value} {x : DataW H × List MemPlace}
    (h : DataW.trod enc Tryz.prog w 0 spare held fuel 116 cs = some x) : ∃ a n cap xs, cs = [.slice a n cap] ∧ n ≤ maxLen ∧ n ≤ cap ∧ SlK w w.heap.size a n xs ∧ ∀ s ∈ xs, s.cells.length ≤ maxLen := by
  rcases open_slice Tryz.underlying116 h with ⟨rfl, _⟩ | ⟨a, len, cap, m, n, D, Pl, rfl, _, hl, hm, hmm, _, hx⟩
  · exact ⟨none, 0, 0, [], rfl, Nat.zero_le _, Nat.le_refl _, ⟨rfl, .inl rfl⟩, fun s hs => by cases hs⟩
  · have hlm : len ≤ m := by rw [hmm]; split <;> omega
    have key : ∀ i, i < len → ∃ s : K2, (∃ a' cap', (∀ k, k < 2 → w.cell? ((a.add (i * 2)).add k) = ([.int .i64 s.region, .slice a' s.cells.length cap'] : List Value)[k]?) ∧ SlC w w.heap.size a' s.cells.length s.cells ∧ s.cells.length ≤ cap') ∧ s.cells.length ≤ maxLen := fun i hi => by
      obtain ⟨cs', h1, h2⟩ := hx i (by omega)
      rw [cells_k] at h1
      obtain ⟨s, a', cap', rfl, t1, t2, t3⟩ := open_cop h2
      exact ⟨s, ⟨a', cap', (World.cells?_some h1).2.2, t1, t2⟩, t3⟩
    obtain ⟨xs, hlen, hxs⟩ := some_of len key
    refine ⟨some a, len, cap, xs, rfl, by omega, by omega, ⟨hlen, ?_⟩, ?_⟩
    · by_cases h0 : len = 0
      · exact .inl h0
      · right
        obtain ⟨b, off, spot⟩ := a
        obtain ⟨s, hs⟩ := key 0 (by omega)
        obtain ⟨⟨a', cap', hs, _⟩, _⟩ := hs
        have c0 := hs 0 (by omega)
        simp [Addr.add] at c0
        have hspot : spot = none := by simpa using World.cell?_spot c0
        subst hspot
        refine ⟨b, off, rfl, block_lt_of_cell c0, fun i s e => ?_⟩
        have hk := hxs i s e
        simp only [add_plain] at hk
        obtain ⟨⟨a', cap', hk, t1, t2⟩, _⟩ := hk
        exact ⟨by simpa using hk 0 (by omega), a', cap', by simpa using hk 1 (by omega), t1, t2⟩
    · intro s hs
      obtain ⟨i, hi, rfl⟩ := List.getElem_of_mem hs
      exact (hxs i _ (List.getElem?_eq_getElem hi)).2
theorem open_machine {H : Type} {enc : TypeId × Value → H} {w : World} {spare : Nat → Bool} {held : Bool} {fuel : Nat} {cs : List Value} {x : DataW H × List MemPlace}
    (h : DataW.trod enc Tryz.prog w 0 spare held fuel 119 cs = some x) : ∃ (v : MV) (m : M4), cs = [.bool m.alive, .slice v.ac m.copies.length v.cc, .slice v.al m.log.length v.cl, .slice v.ad m.cleared.length v.cd] ∧ SlM w v m ∧ m.copies.length ≤ maxLen ∧ m.log.length ≤ maxLen ∧ m.cleared.length ≤ maxLen ∧ (∀ r ∈ m.copies, r.cells.length ≤ maxLen) ∧ (∀ r ∈ m.log, r.sets.length ≤ maxLen) ∧ m.copies.length ≤ v.cc ∧ m.log.length ≤ v.cl ∧ m.cleared.length ≤ v.cd := by
  obtain ⟨xs, n, _, rfl, hl, hlen, hf⟩ := DataW.trod_struct Tryz.underlying119 h
  rw [cells_m] at hl
  obtain ⟨c0, c1, c2, c3, rfl⟩ := list4 hl
  obtain ⟨y0, y1, y2, y3, rfl⟩ := list4 hlen
  have h0 := hf 0 _ rfl
  have h1 := hf 1 _ rfl
  have h2 := hf 2 _ rfl
  have h3 := hf 3 _ rfl
  simp [cells_b, cells_ks, cells_rs, cells_is] at h0 h1 h2 h3
  obtain ⟨z0, e0, _⟩ := DataW.trod_bool Tryz.underlying4 h0
  obtain ⟨a1, n1, k1, ks, e1, l1, p1, s1, q1⟩ := open_cops h1
  obtain ⟨a2, n2, k2, rs, e2, l2, p2, s2, q2⟩ := open_recs h2
  obtain ⟨a3, n3, k3, zs, e3, l3, p3, s3⟩ := open_nums h3
  simp at e0 e1 e2 e3
  subst e0 e1 e2 e3
  obtain ⟨rfl, s1'⟩ := s1
  obtain ⟨rfl, s2'⟩ := s2
  obtain ⟨rfl, s3'⟩ := s3
  exact ⟨⟨a1, k1, a2, k2, a3, k3⟩, ⟨z0, ks, rs, zs⟩, rfl, ⟨⟨rfl, s1'⟩, ⟨rfl, s2'⟩, ⟨rfl, s3'⟩⟩, l1, l2, l3, q1, q2, p1, p2, p3⟩
end Go.Proofs.YtnhjgomfkfehgaaGreatDoor.om
namespace Go.Proofs.YtnhjgomfkfehgaaGreatDoor.tx.ot
open Go.ChangeShapes Go.WideShapes Go.ChangeAt Go.RowKit Go.Deep
theorem cells_i : Tryz.prog.cellsOf 2 = 1 := by kernel_rfl
theorem cells_ss : Tryz.prog.cellsOf 122 = 1 := by kernel_rfl
theorem cells_ns : Tryz.prog.cellsOf 121 = 1 := by kernel_rfl
theorem cells_t : Tryz.prog.cellsOf 124 = 7 := by kernel_rfl
theorem list7 {α : Type} {cs : List α} (h : cs.length = 7) : ∃ c0 c1 c2 c3 c4 c5 c6, cs = [c0, c1, c2, c3, c4, c5, c6] := by
  match cs, h with
  | [c0, c1, c2, c3, c4, c5, c6], _ => exact ⟨c0, c1, c2, c3, c4, c5, c6, rfl⟩
theorem some_of {α : Type} {p : Nat → α → Prop} (n : Nat) (h : ∀ i, i < n → ∃ x, p i x) : ∃ xs : List α, xs.length = n ∧ ∀ i x, xs[i]? = some x → p i x := by
  induction n with
  | zero => exact ⟨[], rfl, fun i x e => by simp at e⟩
  | succ n ih =>
    obtain ⟨xs, hl, hx⟩ := ih fun i hi => h i (by omega)
    obtain ⟨y, hy⟩ := h n (by omega)
    refine ⟨xs ++ [y], by simp [hl], fun i x e => ?_⟩
    by_cases hi : i < xs.length
    · rw [List.getElem?_append_left hi] at e
      exact hx i x e
    · rw [List.getElem?_append_right (by omega)] at e
      have : i = xs.length := by
        by_cases h2 : i - xs.length = 0
        · omega
        · rw [List.getElem?_eq_none (by simp; omega)] at e; cases e
      subst this
      simp at e
      subst e
      rw [hl]; exact hy
theorem list5 {α : Type} {cs : List α} (h : cs.length = 5) : ∃ c0 c1 c2 c3 c4, cs = [c0, c1, c2, c3, c4] := by
  match cs, h with
  | [c0, c1, c2, c3, c4], _ => exact ⟨c0, c1, c2, c3, c4, rfl⟩
theorem cells_set : Tryz.prog.cellsOf 234 = 5 := by kernel_rfl
theorem cells_int : Tryz.prog.cellsOf 2 = 1 := by kernel_rfl
theorem cells_bool : Tryz.prog.cellsOf 4 = 1 := by kernel_rfl
def setCells (s : S5) : List Value := [.int .i64 s.region, .int .i64 s.slot, .int .i64 s.value, .bool s.used, .int .i64 s.version]
def setWf (s : S5) : Prop := (Lit.int .i64 s.region).wf = true ∧ (Lit.int .i64 s.slot).wf = true ∧ (Lit.int .i64 s.value).wf = true ∧ (Lit.int .i64 s.version).wf = true
theorem open_set {H : Type} {enc : TypeId × Value → H} {w : World} {base : Nat} {spare : Nat → Bool} {held : Bool} {fuel : Nat} {cs : List Value} {x : DataW H × List MemPlace}
    (h : DataW.trod enc Tryz.prog w base spare held fuel 234 cs = some x) : ∃ s : S5, cs = (setCells s) ∧ setWf s := by
  obtain ⟨xs, n, _, rfl, hl, hlen, hf⟩ := DataW.trod_struct Tryz.underlying234 h
  rw [cells_set] at hl
  obtain ⟨c0, c1, c2, c3, c4, rfl⟩ := list5 hl
  obtain ⟨y0, y1, y2, y3, y4, rfl⟩ := list5 hlen
  have h0 := hf 0 _ rfl
  have h1 := hf 1 _ rfl
  have h2 := hf 2 _ rfl
  have h3 := hf 3 _ rfl
  have h4 := hf 4 _ rfl
  simp [cells_int, cells_bool] at h0 h1 h2 h3 h4
  obtain ⟨z0, e0, _, f0⟩ := DataW.trod_int Tryz.underlying2 h0
  obtain ⟨z1, e1, _, f1⟩ := DataW.trod_int Tryz.underlying2 h1
  obtain ⟨z2, e2, _, f2⟩ := DataW.trod_int Tryz.underlying2 h2
  obtain ⟨z3, e3, _⟩ := DataW.trod_bool Tryz.underlying4 h3
  obtain ⟨z4, e4, _, f4⟩ := DataW.trod_int Tryz.underlying2 h4
  simp at e0 e1 e2 e3 e4
  subst e0 e1 e2 e3 e4
  exact ⟨⟨z0, z1, z2, z3, z4⟩, rfl, f0, f1, f2, f4⟩
theorem open_sets {H : Type} {enc : TypeId × Value → H} {w : World} {spare : Nat → Bool} {held : Bool} {fuel : Nat} {cs : List Value} {x : DataW H × List MemPlace}
    (h : DataW.trod enc Tryz.prog w 0 spare held fuel 122 cs = some x) : ∃ a n cap xs, cs = [.slice a n cap] ∧ n ≤ maxLen ∧ n ≤ cap ∧ Sl w w.heap.size a n xs := by
  rcases open_slice Tryz.underlying122 h with ⟨rfl, _⟩ | ⟨a, len, cap, m, n, D, Pl, rfl, _, hl, hm, hmm, _, hx⟩
  · exact ⟨none, 0, 0, [], rfl, Nat.zero_le _, Nat.le_refl _, ⟨rfl, .inl rfl⟩⟩
  · have hlm : len ≤ m := by rw [hmm]; split <;> omega
    have key : ∀ i, i < len → ∃ s : S5, ∀ k, k < 5 → w.cell? ((a.add (i * 5)).add k) = (setCells s)[k]? := fun i hi => by
      obtain ⟨cs', h1, h2⟩ := hx i (by omega)
      rw [cells_set] at h1
      obtain ⟨s, rfl, _⟩ := open_set h2
      exact ⟨s, (World.cells?_some h1).2.2⟩
    obtain ⟨xs, hlen, hxs⟩ := some_of len key
    refine ⟨some a, len, cap, xs, rfl, by omega, by omega, ⟨hlen, ?_⟩⟩
    · by_cases h0 : len = 0
      · exact .inl h0
      · right
        obtain ⟨b, off, spot⟩ := a
        obtain ⟨s, hs⟩ := key 0 (by omega)
        have c0 : w.cell? ⟨b, off, spot⟩ = some (.int .i64 s.region) := by simpa [Addr.add, setCells] using hs 0 (by omega)
        have hspot : spot = none := by simpa using World.cell?_spot c0
        subst hspot
        refine ⟨b, off, rfl, block_lt_of_cell c0, fun i s e => ?_⟩
        have hk := hxs i s e
        simp only [add_plain] at hk
        exact ⟨by simpa [setCells] using hk 0 (by omega), by simpa [setCells] using hk 1 (by omega), by simpa [setCells] using hk 2 (by omega), by simpa [setCells] using hk 3 (by omega), by simpa [setCells] using hk 4 (by omega)⟩
theorem cells_note : Tryz.prog.cellsOf 232 = 5 := by kernel_rfl
def noteCells (s : N5) : List Value := [.int .i64 s.region, .int .i64 s.slot, .int .i64 s.version, .int .i64 s.value, .bool s.used]
def noteWf (s : N5) : Prop := (Lit.int .i64 s.region).wf = true ∧ (Lit.int .i64 s.slot).wf = true ∧ (Lit.int .i64 s.version).wf = true ∧ (Lit.int .i64 s.value).wf = true
theorem open_note {H : Type} {enc : TypeId × Value → H} {w : World} {base : Nat} {spare : Nat → Bool} {held : Bool} {fuel : Nat} {cs : List Value} {x : DataW H × List MemPlace}
    (h : DataW.trod enc Tryz.prog w base spare held fuel 232 cs = some x) : ∃ s : N5, cs = (noteCells s) ∧ noteWf s := by
  obtain ⟨xs, n, _, rfl, hl, hlen, hf⟩ := DataW.trod_struct Tryz.underlying232 h
  rw [cells_note] at hl
  obtain ⟨c0, c1, c2, c3, c4, rfl⟩ := list5 hl
  obtain ⟨y0, y1, y2, y3, y4, rfl⟩ := list5 hlen
  have h0 := hf 0 _ rfl
  have h1 := hf 1 _ rfl
  have h2 := hf 2 _ rfl
  have h3 := hf 3 _ rfl
  have h4 := hf 4 _ rfl
  simp [cells_int, cells_bool] at h0 h1 h2 h3 h4
  obtain ⟨z0, e0, _, f0⟩ := DataW.trod_int Tryz.underlying2 h0
  obtain ⟨z1, e1, _, f1⟩ := DataW.trod_int Tryz.underlying2 h1
  obtain ⟨z2, e2, _, f2⟩ := DataW.trod_int Tryz.underlying2 h2
  obtain ⟨z3, e3, _, f4⟩ := DataW.trod_int Tryz.underlying2 h3
  obtain ⟨z4, e4, _⟩ := DataW.trod_bool Tryz.underlying4 h4
  simp at e0 e1 e2 e3 e4
  subst e0 e1 e2 e3 e4
  exact ⟨⟨z0, z1, z2, z3, z4⟩, rfl, f0, f1, f2, f4⟩
theorem open_notes {H : Type} {enc : TypeId × Value → H} {w : World} {spare : Nat → Bool} {held : Bool} {fuel : Nat} {cs : List Value} {x : DataW H × List MemPlace}
    (h : DataW.trod enc Tryz.prog w 0 spare held fuel 121 cs = some x) : ∃ a n cap xs, cs = [.slice a n cap] ∧ n ≤ maxLen ∧ n ≤ cap ∧ SlNo w w.heap.size a n xs := by
  rcases open_slice Tryz.underlying121 h with ⟨rfl, _⟩ | ⟨a, len, cap, m, n, D, Pl, rfl, _, hl, hm, hmm, _, hx⟩
  · exact ⟨none, 0, 0, [], rfl, Nat.zero_le _, Nat.le_refl _, ⟨rfl, .inl rfl⟩⟩
  · have hlm : len ≤ m := by rw [hmm]; split <;> omega
    have key : ∀ i, i < len → ∃ s : N5, ∀ k, k < 5 → w.cell? ((a.add (i * 5)).add k) = (noteCells s)[k]? := fun i hi => by
      obtain ⟨cs', h1, h2⟩ := hx i (by omega)
      rw [cells_note] at h1
      obtain ⟨s, rfl, _⟩ := open_note h2
      exact ⟨s, (World.cells?_some h1).2.2⟩
    obtain ⟨xs, hlen, hxs⟩ := some_of len key
    refine ⟨some a, len, cap, xs, rfl, by omega, by omega, ⟨hlen, ?_⟩⟩
    · by_cases h0 : len = 0
      · exact .inl h0
      · right
        obtain ⟨b, off, spot⟩ := a
        obtain ⟨s, hs⟩ := key 0 (by omega)
        have c0 : w.cell? ⟨b, off, spot⟩ = some (.int .i64 s.region) := by simpa [Addr.add, noteCells] using hs 0 (by omega)
        have hspot : spot = none := by simpa using World.cell?_spot c0
        subst hspot
        refine ⟨b, off, rfl, block_lt_of_cell c0, fun i s e => ?_⟩
        have hk := hxs i s e
        simp only [add_plain] at hk
        exact ⟨by simpa [noteCells] using hk 0 (by omega), by simpa [noteCells] using hk 1 (by omega), by simpa [noteCells] using hk 2 (by omega), by simpa [noteCells] using hk 3 (by omega), by simpa [noteCells] using hk 4 (by omega)⟩
theorem open_tx {H : Type} {enc : TypeId × Value → H} {w : World} {spare : Nat → Bool} {held : Bool} {fuel : Nat} {cs : List Value} {x : DataW H × List MemPlace}
    (h : DataW.trod enc Tryz.prog w 0 spare held fuel 124 cs = some x) : ∃ (v : TV) (t : T7), cs = [.int .i64 t.id, .int .i64 t.home, .int .i64 t.phase, .int .i64 t.count, .slice v.ar t.reads.length v.cr, .slice v.ah t.sets.length v.ch, .int .i64 t.stamp] ∧ SlT w v t ∧ TL t := by
  obtain ⟨xs, n, _, rfl, hl, hlen, hf⟩ := DataW.trod_struct Tryz.underlying124 h
  rw [cells_t] at hl
  obtain ⟨c0, c1, c2, c3, c4, c5, c6, rfl⟩ := list7 hl
  obtain ⟨y0, y1, y2, y3, y4, y5, y6, rfl⟩ := list7 hlen
  have h0 := hf 0 _ rfl
  have h1 := hf 1 _ rfl
  have h2 := hf 2 _ rfl
  have h3 := hf 3 _ rfl
  have h4 := hf 4 _ rfl
  have h5 := hf 5 _ rfl
  have h6 := hf 6 _ rfl
  simp [cells_i, cells_ns, cells_ss] at h0 h1 h2 h3 h4 h5 h6
  obtain ⟨z0, e0, _, _⟩ := DataW.trod_int Tryz.underlying2 h0
  obtain ⟨z1, e1, _, _⟩ := DataW.trod_int Tryz.underlying2 h1
  obtain ⟨z2, e2, _, _⟩ := DataW.trod_int Tryz.underlying2 h2
  obtain ⟨z3, e3, _, _⟩ := DataW.trod_int Tryz.underlying2 h3
  obtain ⟨a4, n4, k4, ns, e4, l4, p4, s4⟩ := open_notes h4
  obtain ⟨a5, n5, k5, ss, e5, l5, p5, s5⟩ := open_sets h5
  obtain ⟨z6, e6, _, _⟩ := DataW.trod_int Tryz.underlying2 h6
  simp at e0 e1 e2 e3 e4 e5 e6
  subst e0 e1 e2 e3 e4 e5 e6
  obtain ⟨rfl, s4'⟩ := s4
  obtain ⟨rfl, s5'⟩ := s5
  exact ⟨⟨a4, k4, a5, k5⟩, ⟨z0, z1, z2, z3, ns, ss, z6⟩, rfl, ⟨⟨rfl, s4'⟩, ⟨rfl, s5'⟩⟩, ⟨l4, l5⟩⟩
end Go.Proofs.YtnhjgomfkfehgaaGreatDoor.tx.ot
namespace Go.Proofs.YtnhjgomfkfehgaaGreatDoor.oc
open Go.ChangeShapes Go.WideShapes Go.ChangeAt Go.RowKit Go.Deep
theorem cells_one : Tryz.prog.cellsOf 2 = 1 := by kernel_rfl
theorem cells_row : Tryz.prog.cellsOf 60 = 1 := by kernel_rfl
theorem cells_place : Tryz.prog.cellsOf 114 = 1 := by kernel_rfl
theorem list1 {α : Type} {cs : List α} (h : cs.length = 1) : ∃ c0, cs = [c0] := by
  match cs, h with
  | [c0], _ => exact ⟨c0, rfl⟩
theorem rows_of {α : Type} {p : Nat → α → Prop} (n : Nat) (h : ∀ i, i < n → ∃ x, p i x) : ∃ xs : List α, xs.length = n ∧ ∀ i x, xs[i]? = some x → p i x := by
  induction n with
  | zero => exact ⟨[], rfl, fun i x e => by simp at e⟩
  | succ n ih =>
    obtain ⟨xs, hl, hx⟩ := ih fun i hi => h i (by omega)
    obtain ⟨y, hy⟩ := h n (by omega)
    refine ⟨xs ++ [y], by simp [hl], fun i x e => ?_⟩
    by_cases hi : i < xs.length
    · rw [List.getElem?_append_left hi] at e
      exact hx i x e
    · rw [List.getElem?_append_right (by omega)] at e
      have : i = xs.length := by
        by_cases h2 : i - xs.length = 0
        · omega
        · rw [List.getElem?_eq_none (by simp; omega)] at e; cases e
      subst this
      simp at e
      subst e
      rw [hl]; exact hy
theorem open_numrow {H : Type} {enc : TypeId × Value → H} {w : World} {spare : Nat → Bool} {held : Bool} {fuel : Nat} {cs : List Value} {x : DataW H × List MemPlace}
    (h : DataW.trod enc Tryz.prog w 0 spare held fuel 60 cs = some x) : ∃ a n cap zs, cs = [.slice a n cap] ∧ n ≤ maxLen ∧ n ≤ cap ∧ SlN w w.heap.size a n zs := by
  rcases open_slice Tryz.underlying60 h with ⟨rfl, _⟩ | ⟨a, len, cap, m, n, D, Pl, rfl, _, hl, hm, hmm, _, hx⟩
  · exact ⟨none, 0, 0, [], rfl, Nat.zero_le _, Nat.le_refl _, ⟨rfl, .inl rfl⟩⟩
  · have hlm : len ≤ m := by rw [hmm]; split <;> omega
    have key : ∀ i, i < len → ∃ z : Int, w.cell? (a.add (i * 1)) = some (.int .i64 z) := fun i hi => by
      obtain ⟨cs', h1, h2⟩ := hx i (by omega)
      rw [cells_one] at h1
      obtain ⟨z, e, _⟩ := DataW.trod_int Tryz.underlying2 h2
      subst e
      have := (World.cells?_some h1).2.2 0 (by omega)
      exact ⟨z, by simpa [Addr.add] using this⟩
    obtain ⟨zs, hlen, hzs⟩ := rows_of len key
    refine ⟨some a, len, cap, zs, rfl, by omega, by omega, ⟨hlen, ?_⟩⟩
    by_cases h0 : len = 0
    · exact .inl h0
    · right
      obtain ⟨b, off, spot⟩ := a
      obtain ⟨z, hz⟩ := key 0 (by omega)
      have c0 : w.cell? ⟨b, off, spot⟩ = some (.int .i64 z) := by simpa [Addr.add] using hz
      have hspot : spot = none := by simpa using World.cell?_spot c0
      subst hspot
      refine ⟨b, off, rfl, block_lt_of_cell c0, fun i z e => ?_⟩
      have hk := hzs i z e
      simpa [add_plain] using hk
def PlaceIs (w : World) (v : Value) (zs : List Int) : Prop := ∃ a cap, v = .slice a zs.length cap ∧ SlN w w.heap.size a zs.length zs ∧ zs.length ≤ cap ∧ zs.length ≤ maxLen
theorem open_place {H : Type} {enc : TypeId × Value → H} {w : World} {spare : Nat → Bool} {held : Bool} {fuel : Nat} {cs : List Value} {x : DataW H × List MemPlace}
    (h : DataW.trod enc Tryz.prog w 0 spare held fuel 114 cs = some x) : ∃ v zs, cs = [v] ∧ PlaceIs w v zs := by
  obtain ⟨xs, n, _, rfl, hl, hlen, hf⟩ := DataW.trod_struct Tryz.underlying114 h
  rw [cells_place] at hl
  obtain ⟨c0, rfl⟩ := list1 hl
  obtain ⟨y0, rfl⟩ := list1 hlen
  have h0 := hf 0 _ rfl
  simp [cells_row] at h0
  obtain ⟨a, m, cap, zs, e, hm, hc, hs⟩ := open_numrow h0
  simp at e
  subst e
  obtain rfl : zs.length = m := hs.1
  exact ⟨_, zs, rfl, a, cap, rfl, hs, hc, hm⟩
theorem open_placerow {H : Type} {enc : TypeId × Value → H} {w : World} {spare : Nat → Bool} {held : Bool} {fuel : Nat} {cs : List Value} {x : DataW H × List MemPlace}
    (h : DataW.trod enc Tryz.prog w 0 spare held fuel 22 cs = some x) : ∃ a n cap zss, cs = [.slice a n cap] ∧ n ≤ maxLen ∧ SlP w w.heap.size a n zss ∧ ∀ zs ∈ zss, zs.length ≤ maxLen := by
  rcases open_slice Tryz.underlying22 h with ⟨rfl, _⟩ | ⟨a, len, cap, m, n, D, Pl, rfl, _, hl, hm, hmm, _, hx⟩
  · exact ⟨none, 0, 0, [], rfl, Nat.zero_le _, ⟨rfl, .inl rfl⟩, fun zs h => by simp at h⟩
  · have hlm : len ≤ m := by rw [hmm]; split <;> omega
    have key : ∀ i, i < len → ∃ zs : List Int, ∃ v, w.cell? (a.add (i * 1)) = some v ∧ PlaceIs w v zs := fun i hi => by
      obtain ⟨cs', h1, h2⟩ := hx i (by omega)
      rw [cells_place] at h1
      obtain ⟨v, zs, rfl, hp⟩ := open_place h2
      have := (World.cells?_some h1).2.2 0 (by omega)
      exact ⟨zs, v, by simpa [Addr.add] using this, hp⟩
    obtain ⟨zss, hlen, hzs⟩ := rows_of len key
    refine ⟨some a, len, cap, zss, rfl, by omega, ⟨hlen, ?_⟩, fun zs hz => ?_⟩
    · by_cases h0 : len = 0
      · exact .inl h0
      · right
        obtain ⟨b, off, spot⟩ := a
        obtain ⟨zs, v, hz, _⟩ := key 0 (by omega)
        have c0 : w.cell? ⟨b, off, spot⟩ = some v := by simpa [Addr.add] using hz
        have hspot : spot = none := by simpa using World.cell?_spot c0
        subst hspot
        refine ⟨b, off, rfl, block_lt_of_cell c0, fun i zs e => ?_⟩
        obtain ⟨v, hk, a', cap', rfl, hs, hc, _⟩ := hzs i zs e
        exact ⟨a', cap', by simpa [add_plain] using hk, hs, hc⟩
    · obtain ⟨i, hi, rfl⟩ := List.getElem_of_mem hz
      obtain ⟨v, _, _, _, _, _, _, hm⟩ := hzs i _ (List.getElem?_eq_getElem hi)
      exact hm
theorem cells_machs : Tryz.prog.cellsOf 119 = 4 := by kernel_rfl
theorem open_machs {H : Type} {enc : TypeId × Value → H} {w : World} {spare : Nat → Bool} {held : Bool} {fuel : Nat} {cs : List Value} {x : DataW H × List MemPlace}
    (h : DataW.trod enc Tryz.prog w 0 spare held fuel 23 cs = some x) : ∃ (a : Option Addr) (cap : Nat) (xs : List M4), cs = [.slice a xs.length cap] ∧ xs.length ≤ maxLen ∧ KMk.RdS w a xs ∧ ∀ d ∈ xs, ML d := by
  rcases open_slice Tryz.underlying23 h with ⟨rfl, _⟩ | ⟨a, len, cap, m, n, DD, Pl, rfl, _, hl, hm, hmm, _, hx⟩
  · exact ⟨none, 0, [], rfl, Nat.zero_le _, .inl rfl, fun s hs => by cases hs⟩
  · have hlm : len ≤ m := by rw [hmm]; split <;> omega
    have key : ∀ i, i < len → ∃ d : M4, ∃ v : MV, (∀ k, k < 4 → w.cell? ((a.add (i * 4)).add k) = (KMk.cells v d)[k]?) ∧ KMk.Rd w v d ∧ ML d := fun i hi => by
      obtain ⟨cs', h1, h2⟩ := hx i (by omega)
      rw [cells_machs] at h1
      obtain ⟨v, d, rfl, t1, l1, l2, l3, k1, k2, _⟩ := om.open_machine h2
      exact ⟨d, v, (World.cells?_some h1).2.2, t1, ⟨l1, k1, l2, k2, l3⟩⟩
    obtain ⟨xs, hlen, hxs⟩ := rows_of len key
    subst hlen
    refine ⟨some a, cap, xs, rfl, by omega, ?_, ?_⟩
    · by_cases h0 : xs = []
      · exact .inl h0
      · right
        obtain ⟨b, off, spot⟩ := a
        obtain ⟨d, v, hs, _⟩ := key 0 (by have := List.length_pos_iff.2 h0; omega)
        have c0 := hs 0 (by omega)
        simp [Addr.add, KMk] at c0
        have hspot : spot = none := by simpa using World.cell?_spot c0
        subst hspot
        refine ⟨b, off, rfl, block_lt_of_cell c0, fun i d e => ?_⟩
        obtain ⟨v, hk, t1, _⟩ := hxs i d e
        simp only [add_plain] at hk
        refine ⟨v, fun j u hu => ?_, t1⟩
        have hj : j < 4 := by have := (List.getElem?_eq_some_iff.1 hu).1; rwa [KMk.len] at this
        have := hk j hj
        rw [hu] at this
        exact this
    · intro d hd
      obtain ⟨i, hi, rfl⟩ := List.getElem_of_mem hd
      obtain ⟨_, _, _, h3⟩ := hxs i _ (List.getElem?_eq_getElem hi)
      exact h3
theorem cells_txs : Tryz.prog.cellsOf 124 = 7 := by kernel_rfl
theorem open_txs {H : Type} {enc : TypeId × Value → H} {w : World} {spare : Nat → Bool} {held : Bool} {fuel : Nat} {cs : List Value} {x : DataW H × List MemPlace}
    (h : DataW.trod enc Tryz.prog w 0 spare held fuel 24 cs = some x) : ∃ (a : Option Addr) (cap : Nat) (xs : List tx.T7), cs = [.slice a xs.length cap] ∧ xs.length ≤ maxLen ∧ KTk.RdS w a xs ∧ ∀ d ∈ xs, tx.TL d := by
  rcases open_slice Tryz.underlying24 h with ⟨rfl, _⟩ | ⟨a, len, cap, m, n, DD, Pl, rfl, _, hl, hm, hmm, _, hx⟩
  · exact ⟨none, 0, [], rfl, Nat.zero_le _, .inl rfl, fun s hs => by cases hs⟩
  · have hlm : len ≤ m := by rw [hmm]; split <;> omega
    have key : ∀ i, i < len → ∃ d : tx.T7, ∃ v : tx.TV, (∀ k, k < 7 → w.cell? ((a.add (i * 7)).add k) = (KTk.cells v d)[k]?) ∧ KTk.Rd w v d ∧ tx.TL d := fun i hi => by
      obtain ⟨cs', h1, h2⟩ := hx i (by omega)
      rw [cells_txs] at h1
      obtain ⟨v, d, rfl, t1, l1⟩ := tx.ot.open_tx h2
      exact ⟨d, v, (World.cells?_some h1).2.2, t1, l1⟩
    obtain ⟨xs, hlen, hxs⟩ := rows_of len key
    subst hlen
    refine ⟨some a, cap, xs, rfl, by omega, ?_, ?_⟩
    · by_cases h0 : xs = []
      · exact .inl h0
      · right
        obtain ⟨b, off, spot⟩ := a
        obtain ⟨d, v, hs, _⟩ := key 0 (by have := List.length_pos_iff.2 h0; omega)
        have c0 := hs 0 (by omega)
        simp [Addr.add, KTk] at c0
        have hspot : spot = none := by simpa using World.cell?_spot c0
        subst hspot
        refine ⟨b, off, rfl, block_lt_of_cell c0, fun i d e => ?_⟩
        obtain ⟨v, hk, t1, _⟩ := hxs i d e
        simp only [add_plain] at hk
        refine ⟨v, fun j u hu => ?_, t1⟩
        have hj : j < 7 := by have := (List.getElem?_eq_some_iff.1 hu).1; rwa [KTk.len] at this
        have := hk j hj
        rw [hu] at this
        exact this
    · intro d hd
      obtain ⟨i, hi, rfl⟩ := List.getElem_of_mem hd
      obtain ⟨_, _, _, h3⟩ := hxs i _ (List.getElem?_eq_getElem hi)
      exact h3
theorem cells_cl : Tryz.prog.cellsOf 26 = 6 := by kernel_rfl
theorem cells_ip : Tryz.prog.cellsOf 22 = 1 := by kernel_rfl
theorem cells_im : Tryz.prog.cellsOf 23 = 1 := by kernel_rfl
theorem cells_it : Tryz.prog.cellsOf 24 = 1 := by kernel_rfl
theorem cells_ib : Tryz.prog.cellsOf 4 = 1 := by kernel_rfl
theorem list6 {α : Type} {cs : List α} (h : cs.length = 6) : ∃ c0 c1 c2 c3 c4 c5, cs = [c0, c1, c2, c3, c4, c5] := by
  match cs, h with
  | [c0, c1, c2, c3, c4, c5], _ => exact ⟨c0, c1, c2, c3, c4, c5, rfl⟩
theorem open_cluster {H : Type} {enc : TypeId × Value → H} {w : World} {spare : Nat → Bool} {held : Bool} {fuel : Nat} {cs : List Value} {x : DataW H × List MemPlace}
    (h : DataW.trod enc Tryz.prog w 0 spare held fuel 26 cs = some x) : ∃ (a1 : Option Addr) (c1 : Nat) (a2 : Option Addr) (c2 : Nat) (a3 : Option Addr) (c3 : Nat) (k : C6), cs = [.int .i64 k.config, .int .i64 k.clock, .slice a1 k.places.length c1, .slice a2 k.machines.length c2, .slice a3 k.txs.length c3, .bool k.lost] ∧ KCl.Rd w a1 c1 a2 c2 a3 c3 k ∧ KCl.L k := by
  obtain ⟨xs, n, _, rfl, hl, hlen, hf⟩ := DataW.trod_struct Tryz.underlying26 h
  rw [cells_cl] at hl
  obtain ⟨c0, c1, c2, c3, c4, c5, rfl⟩ := list6 hl
  obtain ⟨y0, y1, y2, y3, y4, y5, rfl⟩ := list6 hlen
  have h0 := hf 0 _ rfl
  have h1 := hf 1 _ rfl
  have h2 := hf 2 _ rfl
  have h3 := hf 3 _ rfl
  have h4 := hf 4 _ rfl
  have h5 := hf 5 _ rfl
  simp [cells_one, cells_ip, cells_im, cells_it, cells_ib] at h0 h1 h2 h3 h4 h5
  obtain ⟨z0, e0, _, _⟩ := DataW.trod_int Tryz.underlying2 h0
  obtain ⟨z1, e1, _, _⟩ := DataW.trod_int Tryz.underlying2 h1
  obtain ⟨a1, n1, k1, zss, e2, l1, s1, q1⟩ := open_placerow h2
  obtain ⟨a2, k2, ms, e3, l2, s2, q2⟩ := open_machs h3
  obtain ⟨a3, k3, ts, e4, l3, s3, q3⟩ := open_txs h4
  obtain ⟨z5, e5, _⟩ := DataW.trod_bool Tryz.underlying4 h5
  simp at e0 e1 e2 e3 e4 e5
  subst e0 e1 e2 e3 e4 e5
  obtain rfl : zss.length = n1 := s1.1
  exact ⟨a1, k1, a2, k2, a3, k3, ⟨z0, z1, zss, ms, ts, z5⟩, rfl, ⟨s1, s2, s3⟩, ⟨l1, q1, l2, q2, l3, q3⟩⟩
end Go.Proofs.YtnhjgomfkfehgaaGreatDoor.oc
namespace Go.Proofs.YtnhjgomfkfehgaaGreatDoor
open Go.RowKit
open Go.Sort (grow)
structure Kd.Rest {D V : Type} (K : Kd D V) (X : World) (B b n : Nat) (ys : List D) (g : Nat → Nat → Prop) (j : Nat) : Prop where
  rm : Room X b (n * K.n)
  at_ : ∀ i d, j ≤ i → ys[i]? = some d → ∃ v, At X b (i * K.n) (K.cells v d) ∧ K.Ow X B v d (g i)
  ne : ∀ i q, i < ys.length → g i q → q ≠ b
  ap : ∀ i j q, i < ys.length → j < ys.length → i ≠ j → g i q → ¬ g j q
theorem Kd.Part.rest {D V : Type} {K : Kd D V} {X : World} {B b n : Nat} {ys : List D} {g : Nat → Nat → Prop} (h : K.Part X B b n ys g) : K.Rest X B b n ys g 0 := ⟨h.rm, fun i d _ hi => h.at_ i d hi, h.ne, h.ap⟩
theorem Kd.Rest.up {D V : Type} {K : Kd D V} {X : World} {B b n : Nat} {ys : List D} {g : Nat → Nat → Prop} {j : Nat} (h : K.Rest X B b n ys g j) : K.Rest X B b n ys g (j + 1) := ⟨h.rm, fun i d hj hi => h.at_ i d (by omega) hi, h.ne, h.ap⟩
theorem Kd.Rest.set {D V : Type} {K : Kd D V} {X : World} {B b n : Nat} {ys : List D} {g : Nat → Nat → Prop} {j o : Nat} (h : K.Rest X B b n ys g (j + 1)) (ho : o < (j + 1) * K.n) (u : Value) : K.Rest (X.setCell ⟨b, o, none⟩ u) B b n ys g (j + 1) := by
  refine ⟨h.rm.set _, fun i d hj hi => ?_, h.ne, h.ap⟩
  obtain ⟨v, h1, h2⟩ := h.at_ i d hj hi
  have hm := Nat.mul_le_mul_right K.n hj
  exact ⟨v, fun q u' e => (cell_set_other (by omega)).trans (h1 q u' e), K.keep h2 (by simp [World.setCell]) (fun q hq => Below.heap_setCell _ _ _ _ (h.ne i q (List.getElem?_eq_some_iff.1 hi).1 hq))⟩
theorem Kd.Rest.kept {D V : Type} {K : Kd D V} {X Y : World} {B b n : Nat} {ys : List D} {g : Nat → Nat → Prop} {j : Nat} {Q : Nat → Prop} (h : K.Rest X B b n ys g (j + 1)) (hk : KeptP Q X Y) (hb : b < X.heap.size) (hj : j < ys.length) (hQ : ∀ q, Q q → g j q) : K.Rest Y B b n ys g (j + 1) := by
  have hbb : Y.heap[b]? = X.heap[b]? := hk.block b hb (fun e => h.ne j b hj (hQ b e) rfl)
  refine ⟨room_blk h.rm hbb, fun i d hji hi => ?_, h.ne, h.ap⟩
  obtain ⟨v, h1, h2⟩ := h.at_ i d hji hi
  have hl := (List.getElem?_eq_some_iff.1 hi).1
  exact ⟨v, h1.of_block hbb, K.keep h2 hk.size (fun q hq => hk.block q (K.of h2 hq).2 (fun e => h.ap i j q hl hj (by omega) hq (hQ q e)))⟩
def cM (m : M4) : Nat := 1 + (offG cK m.copies m.copies.length + offG cR m.log m.log.length + m.cleared.length)
structure MRow (w X : World) (B b : Nat) (ms : List M4) (g : Nat → Nat → Prop) (P : Nat → Prop) (j : Nat) (a2 : Option Addr) (c2 : Nat) (a3 : Option Addr) (c3 : Nat) (PR PD : Nat → Prop) : Prop where
  r : OwnL 4 hdR lnR AtR X PR a2 (atM ms j).log
  n : OwnN X PD a3 (atM ms j).cleared
  e2 : X.cell? ⟨b, j * 4 + 2, none⟩ = some (.slice a2 (atM ms j).log.length c2)
  e3 : X.cell? ⟨b, j * 4 + 3, none⟩ = some (.slice a3 (atM ms j).cleared.length c3)
  rest : KMk.Rest X B b ms.length ms g (j + 1)
  kp : KeptP P w X
  lt : b < X.heap.size
set_option maxRecDepth 100000 in
set_option maxHeartbeats 4000000 in
theorem markMs (w : World) (B b cap : Nat) (ms : List M4) (g : Nat → Nat → Prop) (P : Nat → Prop) (k : Int) (hk : 0 ≤ k) (hk' : k + (offG cM ms ms.length : Int) ≤ 100000000) (hn : ms.length ≤ 1048576) (ht : ∀ m ∈ ms, MT m) (hb : b < w.heap.size) (hPb : P b) (hPg : ∀ i q, i < ms.length → g i q → P q) (h : KMk.Part w B b ms.length ms g) :
    Calls Tryz.prog 45 #[.slice (some ⟨b, 0, none⟩) ms.length cap, .int .i64 k] w fun e w' => e = .returned (.int .i64 (k + (offG cM ms ms.length : Int))) ∧ KeptP P w w' := by
  have H : Hid ((∀ m ∈ ms, MT m) ∧ b < w.heap.size ∧ P b ∧ (∀ i q, i < ms.length → g i q → P q) ∧ KMk.Part w B b ms.length ms g) := ⟨ht, hb, hPb, hPg, h⟩
  clear ht hb hPb hPg h
  go_enter Tryz.func45, Tryz.ntmps45
  go_wp2
  go_loopw [1, 5] (fun v1 v5 wr => ∃ j : Nat, j ≤ ms.length ∧ v5 = .int .i64 j ∧ v1 = .int .i64 (k + (offG cM ms j : Int)) ∧ KeptP P w wr ∧ KMk.Rest wr B b ms.length ms g j) (fun _ v5 _ => ms.length - (intOf v5).toNat)
  case atStart => exact ⟨0, Nat.zero_le _, rfl, by rw [offG_zero]; simp, KeptP.refl _ _, H.out.2.2.2.2.rest⟩
  case round =>
    obtain ⟨j, hj, rfl, rfl, hkp, hrs⟩ := hrel
    have hb2 := offG_le cM ms j
    by_cases hlt : j < ms.length
    · have hd := atM_of hlt
      obtain ⟨⟨m0, m1, m2, m3, m4, m5⟩, hat, how⟩ := hrs.at_ j _ (Nat.le_refl _) hd
      obtain ⟨PK, PR, PD, om, hsub, hbd⟩ := how
      obtain ⟨z0, d0, f0⟩ : ∃ v, wr.cell? ⟨b, j * 4, none⟩ = some v ∧ wr.frozen? ⟨b, j * 4, none⟩ = false := hrs.rm (j * 4) (show _ < ms.length * 4 by omega)
      have e1 : wr.cell? ⟨b, j * 4 + 1, none⟩ = some (.slice m0 (atM ms j).copies.length m1) := hat 1 _ rfl
      have e2 : wr.cell? ⟨b, j * 4 + 2, none⟩ = some (.slice m2 (atM ms j).log.length m3) := hat 2 _ rfl
      have e3 : wr.cell? ⟨b, j * 4 + 3, none⟩ = some (.slice m4 (atM ms j).cleared.length m5) := hat 3 _ rfl
      have hT := H.out.1 _ (List.mem_of_getElem? hd)
      have hoff : offG cM ms (j + 1) = offG cM ms j + cM (atM ms j) := offG_succ cM hd
      have hle := offG_le cM ms (j + 1)
      have HO : Hid (offG cM ms (j + 1) = offG cM ms j + (1 + (offG cK (atM ms j).copies (atM ms j).copies.length + offG cR (atM ms j).log (atM ms j).log.length + (atM ms j).cleared.length)) ∧ k + (offG cM ms (j + 1) : Int) ≤ 100000000) := ⟨hoff, by omega⟩
      have hnb : ∀ q, g j q → q ≠ b := fun q hq => hrs.ne j q hlt hq
      have bl : b < wr.heap.size := Nat.lt_of_lt_of_le H.out.2.1 hkp.size
      have S1 : Hid (∀ u : Value, OwnL 2 hdK lnK AtK (wr.setCell ⟨b, j * 4, none⟩ u) PK m0 (atM ms j).copies ∧ MRow w (wr.setCell ⟨b, j * 4, none⟩ u) B b ms g P j m2 m3 m4 m5 PR PD) := fun u => by
        have hsz : wr.heap.size ≤ (wr.setCell ⟨b, j * 4, none⟩ u).heap.size := by simp [World.setCell]
        exact ⟨om.k.keep AtK.of_block hsz (fun q _ hp => Below.heap_setCell _ _ _ _ (hnb q (hsub q (.inl hp)))), om.r.keep AtR.of_block hsz (fun q _ hp => Below.heap_setCell _ _ _ _ (hnb q (hsub q (.inr (.inl hp))))), om.n.keep hsz (fun q _ hp => Below.heap_setCell _ _ _ _ (hnb q (hsub q (.inr (.inr hp))))),
          (cell_set_other (by omega)).trans e2, (cell_set_other (by omega)).trans e3, hrs.up.set (show j * 4 < (j + 1) * 4 by omega) u, hkp.trans (KeptP.of_set wr u H.out.2.2.1), Nat.lt_of_lt_of_le bl hsz⟩
      have HG : Hid ((∀ q, PK q → g j q) ∧ (∀ q, PR q → g j q) ∧ (∀ q, PD q → g j q) ∧ (∀ q, PK q → ¬ PR q) ∧ (∀ q, PK q → ¬ PD q) ∧ (∀ q, PR q → ¬ PD q) ∧ (∀ q, g j q → q ≠ b) ∧ (∀ q, g j q → P q)) := ⟨fun q hq => hsub q (.inl hq), fun q hq => hsub q (.inr (.inl hq)), fun q hq => hsub q (.inr (.inr hq)), om.kr, om.kd, om.rd, hnb, fun q hq => H.out.2.2.2.1 j q hlt hq⟩
      have S2 : Hid (∀ u w1, KeptP PK (wr.setCell ⟨b, j * 4, none⟩ u) w1 → MRow w w1 B b ms g P j m2 m3 m4 m5 PR PD) := fun u w1 k1 => by
        have R0 := (S1.out u).2
        have hbk := k1.block b R0.lt (fun e => HG.out.2.2.2.2.2.2.1 b (HG.out.1 b e) rfl)
        exact ⟨R0.r.keep AtR.of_block k1.size (fun q hq hp => k1.block q hq (fun e => HG.out.2.2.2.1 q e hp)), R0.n.keep k1.size (fun q hq hp => k1.block q hq (fun e => HG.out.2.2.2.2.1 q e hp)), (World.cell?_of_block (a := ⟨b, j * 4 + 2, none⟩) hbk).trans R0.e2, (World.cell?_of_block (a := ⟨b, j * 4 + 3, none⟩) hbk).trans R0.e3, R0.rest.kept k1 R0.lt hlt HG.out.1, R0.kp.trans (k1.mono (fun q hq => HG.out.2.2.2.2.2.2.2 q (HG.out.1 q hq))), Nat.lt_of_lt_of_le R0.lt k1.size⟩
      have HT : Hid (MT (atM ms j)) := hT
      have jn : (j : Int) < (ms.length : Int) := by omega
      have g0 : 0 ≤ k + (offG cM ms j : Int) := by omega
      have g1 : k + (offG cM ms j : Int) ≤ 100000000 := by omega
      clear hkp hrs hat om hsub hbd hd hoff hle hnb hT bl e2 e3 hb2
      generalize hK : k + (offG cM ms j : Int) = kj at *
      go_wp2_with fail
      refine (markK _ PK m0 m1 (atM ms j).copies (kj + 1) (by omega) (by omega) HT.out.tk HT.out.k HT.out.ks (S1.out _).1).mono ?_
      rintro e w1 ⟨rfl, k1, -⟩
      have R1 : Hid (MRow w w1 B b ms g P j m2 m3 m4 m5 PR PD) := S2.out _ _ k1
      clear k1 S1 S2 d0 f0 e1
      have e2 := R1.out.e2
      have tk := HT.out.tk
      have tr := HT.out.tr
      have tn := HT.out.n
      go_wp2_with fail
      refine (markR w1 PR m2 m3 (atM ms j).log _ (by omega) (by omega) HT.out.tr HT.out.r HT.out.rs R1.out.r).mono ?_
      rintro e w2 ⟨rfl, k2, -⟩
      have R2 : Hid (OwnN w2 PD m4 (atM ms j).cleared ∧ w2.cell? ⟨b, j * 4 + 3, none⟩ = some (.slice m4 (atM ms j).cleared.length m5) ∧ KMk.Rest w2 B b ms.length ms g (j + 1) ∧ KeptP P w w2 ∧ b < w2.heap.size) := by
        have R0 := R1.out
        have hbk := k2.block b R0.lt (fun e => HG.out.2.2.2.2.2.2.1 b (HG.out.2.1 b e) rfl)
        exact ⟨R0.n.keep k2.size (fun q hq hp => k2.block q hq (fun e => HG.out.2.2.2.2.2.1 q e hp)), (World.cell?_of_block (a := ⟨b, j * 4 + 3, none⟩) hbk).trans R0.e3, R0.rest.kept k2 R0.lt hlt HG.out.2.1, R0.kp.trans (k2.mono (fun q hq => HG.out.2.2.2.2.2.2.2 q (HG.out.2.1 q hq))), Nat.lt_of_lt_of_le R0.lt k2.size⟩
      clear k2 R1 e2
      have e3 := R2.out.2.1
      go_wp2_with fail
      refine (markN w2 PD m4 m5 (atM ms j).cleared _ (by omega) (by omega) HT.out.n R2.out.1).mono ?_
      rintro e w3 ⟨rfl, k3, -⟩
      have R3 : Hid (KMk.Rest w3 B b ms.length ms g (j + 1) ∧ KeptP P w w3) := ⟨R2.out.2.2.1.kept k3 R2.out.2.2.2.2 hlt HG.out.2.2.1, R2.out.2.2.2.1.trans (k3.mono (fun q hq => HG.out.2.2.2.2.2.2.2 q (HG.out.2.2.1 q hq)))⟩
      clear k3 R2 e3
      go_wp2
      exact ⟨⟨j + 1, by omega, by simp, by have := HO.out.1; rw [this]; congr 1; omega, R3.out.2, R3.out.1⟩, by simp [intOf]; omega⟩
    · obtain rfl : j = ms.length := by omega
      have hd : decide ((ms.length : Int) < (ms.length : Int)) = false := by simp
      have KH : Hid (KeptP P w wr) := hkp
      clear hkp hrs
      go_wp2
      go_ret
      exact ⟨rfl, KH.out⟩
theorem kp_of {P : Nat → Prop} {a b : World} (h : tx.KeptP P a b) : KeptP P a b := ⟨h.os, h.tape, h.output, h.size, h.block⟩
def cT (t : tx.T7) : Nat := 5 + (5 * t.reads.length + 5 * t.sets.length)
structure TRow (w X : World) (B b : Nat) (ts : List tx.T7) (g : Nat → Nat → Prop) (P : Nat → Prop) (j : Nat) (a2 : Option Addr) (c2 : Nat) (PS : Nat → Prop) : Prop where
  s : tx.OwnSe X PS a2 (atT ts j).sets
  e5 : X.cell? ⟨b, j * 7 + 5, none⟩ = some (.slice a2 (atT ts j).sets.length c2)
  rest : KTk.Rest X B b ts.length ts g (j + 1)
  kp : KeptP P w X
  lt : b < X.heap.size
set_option maxRecDepth 100000 in
set_option maxHeartbeats 4000000 in
theorem markTs (w : World) (B b cap : Nat) (ts : List tx.T7) (g : Nat → Nat → Prop) (P : Nat → Prop) (k : Int) (hk : 0 ≤ k) (hk' : k + (offG cT ts ts.length : Int) ≤ 100000000) (hn : ts.length ≤ 1048576) (ht : ∀ t ∈ ts, KT.S t) (hb : b < w.heap.size) (hPb : P b) (hPg : ∀ i q, i < ts.length → g i q → P q) (h : KTk.Part w B b ts.length ts g) :
    Calls Tryz.prog 46 #[.slice (some ⟨b, 0, none⟩) ts.length cap, .int .i64 k] w fun e w' => e = .returned (.int .i64 (k + (offG cT ts ts.length : Int))) ∧ KeptP P w w' := by
  have H : Hid ((∀ t ∈ ts, KT.S t) ∧ b < w.heap.size ∧ P b ∧ (∀ i q, i < ts.length → g i q → P q) ∧ KTk.Part w B b ts.length ts g) := ⟨ht, hb, hPb, hPg, h⟩
  clear ht hb hPb hPg h
  go_enter Tryz.func46, Tryz.ntmps46
  go_wp2
  go_loopw [1, 5] (fun v1 v5 wr => ∃ j : Nat, j ≤ ts.length ∧ v5 = .int .i64 j ∧ v1 = .int .i64 (k + (offG cT ts j : Int)) ∧ KeptP P w wr ∧ KTk.Rest wr B b ts.length ts g j) (fun _ v5 _ => ts.length - (intOf v5).toNat)
  case atStart => exact ⟨0, Nat.zero_le _, rfl, by rw [offG_zero]; simp, KeptP.refl _ _, H.out.2.2.2.2.rest⟩
  case round =>
    obtain ⟨j, hj, rfl, rfl, hkp, hrs⟩ := hrel
    have hb2 := offG_le cT ts j
    by_cases hlt : j < ts.length
    · have hd := atT_of hlt
      obtain ⟨⟨t0, t1, t2, t3⟩, hat, how⟩ := hrs.at_ j _ (Nat.le_refl _) hd
      obtain ⟨PR, PS, om, hsub, hbd⟩ := how
      obtain ⟨z0, d0, f0⟩ : ∃ v, wr.cell? ⟨b, j * 7, none⟩ = some v ∧ wr.frozen? ⟨b, j * 7, none⟩ = false := hrs.rm (j * 7 + 0) (show _ < ts.length * 7 by omega)
      obtain ⟨z1, d1, f1⟩ : ∃ v, wr.cell? ⟨b, j * 7 + 1, none⟩ = some v ∧ wr.frozen? ⟨b, j * 7 + 1, none⟩ = false := hrs.rm (j * 7 + 1) (show _ < ts.length * 7 by omega)
      obtain ⟨z2, d2, f2⟩ : ∃ v, wr.cell? ⟨b, j * 7 + 2, none⟩ = some v ∧ wr.frozen? ⟨b, j * 7 + 2, none⟩ = false := hrs.rm (j * 7 + 2) (show _ < ts.length * 7 by omega)
      obtain ⟨z3, d3, f3⟩ : ∃ v, wr.cell? ⟨b, j * 7 + 3, none⟩ = some v ∧ wr.frozen? ⟨b, j * 7 + 3, none⟩ = false := hrs.rm (j * 7 + 3) (show _ < ts.length * 7 by omega)
      have e4 : wr.cell? ⟨b, j * 7 + 4, none⟩ = some (.slice t0 (atT ts j).reads.length t1) := hat 4 _ rfl
      have e5 : wr.cell? ⟨b, j * 7 + 5, none⟩ = some (.slice t2 (atT ts j).sets.length t3) := hat 5 _ rfl
      have hT := H.out.1 _ (List.mem_of_getElem? hd)
      have hoff : offG cT ts (j + 1) = offG cT ts j + cT (atT ts j) := offG_succ cT hd
      have hle := offG_le cT ts (j + 1)
      have HO : Hid (offG cT ts (j + 1) = offG cT ts j + (5 + (5 * (atT ts j).reads.length + 5 * (atT ts j).sets.length)) ∧ k + (offG cT ts (j + 1) : Int) ≤ 100000000) := ⟨hoff, by omega⟩
      have hnb : ∀ q, g j q → q ≠ b := fun q hq => hrs.ne j q hlt hq
      have bl : b < wr.heap.size := Nat.lt_of_lt_of_le H.out.2.1 hkp.size
      have S1 : Hid (∀ u0 u1 u2 u3 : Value, tx.OwnNo ((((wr.setCell ⟨b, j * 7, none⟩ u0).setCell ⟨b, j * 7 + 1, none⟩ u1).setCell ⟨b, j * 7 + 2, none⟩ u2).setCell ⟨b, j * 7 + 3, none⟩ u3) PR t0 (atT ts j).reads ∧ TRow w ((((wr.setCell ⟨b, j * 7, none⟩ u0).setCell ⟨b, j * 7 + 1, none⟩ u1).setCell ⟨b, j * 7 + 2, none⟩ u2).setCell ⟨b, j * 7 + 3, none⟩ u3) B b ts g P j t2 t3 PS) := fun u0 u1 u2 u3 => by
        have ob : OnlyBlock b wr ((((wr.setCell ⟨b, j * 7, none⟩ u0).setCell ⟨b, j * 7 + 1, none⟩ u1).setCell ⟨b, j * 7 + 2, none⟩ u2).setCell ⟨b, j * 7 + 3, none⟩ u3) := ((((OnlyBlock.refl b wr).setCell _ _).setCell _ _).setCell _ _).setCell _ _
        exact ⟨om.r.keep (Nat.le_of_eq ob.size.symm) (fun q _ hp => ob.block q (hnb q (hsub q (.inl hp)))), om.s.keep (Nat.le_of_eq ob.size.symm) (fun q _ hp => ob.block q (hnb q (hsub q (.inr hp)))),
          (cell_set_other (by omega)).trans ((cell_set_other (by omega)).trans ((cell_set_other (by omega)).trans ((cell_set_other (by omega)).trans e5))), (((hrs.up.set (show j * 7 < (j + 1) * 7 by omega) u0).set (show j * 7 + 1 < (j + 1) * 7 by omega) u1).set (show j * 7 + 2 < (j + 1) * 7 by omega) u2).set (show j * 7 + 3 < (j + 1) * 7 by omega) u3, hkp.trans (KeptP.of_only ob H.out.2.2.1), by rw [ob.size]; exact bl⟩
      have HG : Hid ((∀ q, PR q → g j q) ∧ (∀ q, PS q → g j q) ∧ (∀ q, PR q → ¬ PS q) ∧ (∀ q, g j q → q ≠ b) ∧ (∀ q, g j q → P q)) := ⟨fun q hq => hsub q (.inl hq), fun q hq => hsub q (.inr hq), om.rs, hnb, fun q hq => H.out.2.2.2.1 j q hlt hq⟩
      have S2 : Hid (∀ u0 u1 u2 u3 w1, KeptP PR ((((wr.setCell ⟨b, j * 7, none⟩ u0).setCell ⟨b, j * 7 + 1, none⟩ u1).setCell ⟨b, j * 7 + 2, none⟩ u2).setCell ⟨b, j * 7 + 3, none⟩ u3) w1 → TRow w w1 B b ts g P j t2 t3 PS) := fun u0 u1 u2 u3 w1 k1 => by
        have R0 := (S1.out u0 u1 u2 u3).2
        have hbk := k1.block b R0.lt (fun e => HG.out.2.2.2.1 b (HG.out.1 b e) rfl)
        exact ⟨R0.s.keep k1.size (fun q hq hp => k1.block q hq (fun e => HG.out.2.2.1 q e hp)), (World.cell?_of_block (a := ⟨b, j * 7 + 5, none⟩) hbk).trans R0.e5, R0.rest.kept k1 R0.lt hlt HG.out.1, R0.kp.trans (k1.mono (fun q hq => HG.out.2.2.2.2 q (HG.out.1 q hq))), Nat.lt_of_lt_of_le R0.lt k1.size⟩
      have HT : Hid (KT.S (atT ts j)) := hT
      have jn : (j : Int) < (ts.length : Int) := by omega
      have g0 : 0 ≤ k + (offG cT ts j : Int) := by omega
      have g1 : k + (offG cT ts j : Int) ≤ 100000000 := by omega
      clear hkp hrs hat om hsub hbd hd hoff hle hnb hT bl e5 hb2
      generalize hK : k + (offG cT ts j : Int) = kj at *
      have tr := HT.out.1
      have ts' := HT.out.2
      go_wp2_with fail
      refine (tx.markNo _ PR t0 t1 (atT ts j).reads _ (by omega) (by omega) HT.out.1 (S1.out _ _ _ _).1).mono ?_
      rintro e w1 ⟨rfl, k1, -⟩
      have k1 := kp_of k1
      have R1 : Hid (TRow w w1 B b ts g P j t2 t3 PS) := S2.out _ _ _ _ _ k1
      clear k1 S1 S2 d0 f0 d1 f1 d2 f2 d3 f3 e4
      have e5 := R1.out.e5
      go_wp2_with fail
      refine (tx.markSe w1 PS t2 t3 (atT ts j).sets _ (by omega) (by omega) HT.out.2 R1.out.s).mono ?_
      rintro e w2 ⟨rfl, k2, -⟩
      have k2 := kp_of k2
      have R2 : Hid (KTk.Rest w2 B b ts.length ts g (j + 1) ∧ KeptP P w w2 ∧ b < w2.heap.size) := by
        have R0 := R1.out
        exact ⟨R0.rest.kept k2 R0.lt hlt HG.out.2.1, R0.kp.trans (k2.mono (fun q hq => HG.out.2.2.2.2 q (HG.out.2.1 q hq))), Nat.lt_of_lt_of_le R0.lt k2.size⟩
      clear k2 R1 e5
      obtain ⟨z6, d6, f6⟩ : ∃ v, w2.cell? ⟨b, j * 7 + 6, none⟩ = some v ∧ w2.frozen? ⟨b, j * 7 + 6, none⟩ = false := R2.out.1.rm (j * 7 + 6) (show _ < ts.length * 7 by omega)
      go_wp2
      exact ⟨⟨j + 1, by omega, by simp, by have := HO.out.1; rw [this]; congr 1; omega, R2.out.2.1.trans (KeptP.of_set w2 _ H.out.2.2.1), R2.out.1.set (show j * 7 + 6 < (j + 1) * 7 by omega) _⟩, by simp [intOf]; omega⟩
    · obtain rfl : j = ts.length := by omega
      have hd : decide ((ts.length : Int) < (ts.length : Int)) = false := by simp
      have KH : Hid (KeptP P w wr) := hkp
      clear hkp hrs
      go_wp2
      go_ret
      exact ⟨rfl, KH.out⟩
end Go.Proofs.YtnhjgomfkfehgaaGreatDoor
namespace Go.Proofs.YtnhjgomfkfehgaaGreatDoor
open Go.RowKit
set_option maxHeartbeats 1000000 in
theorem heldInt64S_any (w : World) (a : Option Addr) (n cap : Nat) (k : Int) (hn : n ≤ 1048576) (hk : 0 ≤ k) (hk' : k ≤ 1000000000) (hs : SlN w w.heap.size a n (marks n k)) :
    Calls Tryz.prog 103 #[.slice a n cap, .int .i64 k] w fun e w' => e = .returned (.int .i64 (k + n)) ∧ w' = w := by
  obtain ⟨_, hs⟩ := hs
  go_enter Tryz.func103, Tryz.ntmps103
  go_wp2
  go_loop [1, 5] (fun v1 v5 => ∃ j : Nat, j ≤ n ∧ v5 = .int .i64 j ∧ v1 = .int .i64 (k + j)) (fun _ v5 => n - (intOf v5).toNat)
  case atStart => exact ⟨0, Nat.zero_le _, rfl, by simp⟩
  case round =>
    obtain ⟨j, hj, rfl, rfl⟩ := hrel
    by_cases hlt : j < n
    · rcases hs with hs | ⟨b, off, rfl, hb, h1⟩
      · omega
      · have c := h1 j _ (marks_at n k j hlt)
        have hq : (k + (j : Int) != k + (j : Int)) = false := by simp
        clear h1
        go_wp2
        exact ⟨⟨j + 1, by omega, by simp, by simp; omega⟩, by simp [intOf]; omega⟩
    · have : j = n := by omega
      subst this
      have hd : decide ((j : Int) < (j : Int)) = false := by simp
      clear hs
      go_wp2
      go_ret
      exact ⟨by simp, rfl⟩
theorem hidOf' {p : Prop} (h : p) : Hid p := h
theorem mkKs_at {ks : List K2} {k : Int} {j : Nat} (h : j < ks.length) : (mkKs ks k)[j]? = some (mkK ks k j) := by simp [mkKs, h]
theorem mkRs_at {ks : List R4} {k : Int} {j : Nat} (h : j < ks.length) : (mkRs ks k)[j]? = some (mkR ks k j) := by simp [mkRs, h]
set_option maxHeartbeats 4000000 in
theorem heldCopyS_any (w : World) (a : Option Addr) (cap : Nat) (ks : List K2) (k : Int) (hk : 0 ≤ k) (hk' : k ≤ 500000000) (ht : offG cK ks ks.length ≤ 100000000) (hn : ks.length ≤ 1048576) (hl : ∀ c ∈ ks, c.cells.length ≤ 1048576) (hs : SlK w w.heap.size a ks.length (mkKs ks k)) :
    Calls Tryz.prog 104 #[.slice a ks.length cap, .int .i64 k] w fun e w' => e = .returned (.int .i64 (k + offG cK ks ks.length)) ∧ w' = w := by
  obtain ⟨_, hs⟩ := hs
  have HL := hidOf' hl
  clear hl
  go_enter Tryz.func104, Tryz.ntmps104
  go_wp2
  go_loop [1, 5] (fun v1 v5 => ∃ j : Nat, j ≤ ks.length ∧ v5 = .int .i64 j ∧ v1 = .int .i64 (k + (offG cK ks j : Int))) (fun _ v5 => ks.length - (intOf v5).toNat)
  case atStart => exact ⟨0, Nat.zero_le _, rfl, by rw [offG_zero]; simp⟩
  case round =>
    obtain ⟨j, hj, rfl, rfl⟩ := hrel
    have hb2 := offG_le cK ks j
    by_cases hlt : j < ks.length
    · rcases hs with hs | ⟨b, off, rfl, hb, h1⟩
      · omega
      have hks : ks[j]? = some (atK ks j) := atK_of hlt
      have hr := h1 j _ (mkKs_at hlt)
      have c0 := hr.c0
      obtain ⟨a', cap', c1, hsl, hcp⟩ := hr.c1
      simp only [mkK, mkCells_len] at c0 c1 hsl
      have hoff : Hid (offG cK ks (j + 1) = offG cK ks j + cK (atK ks j)) := offG_succ cK hks
      have hln := HL.out _ (List.mem_of_getElem? hks)
      have hm := heldCellS_k w a' (atK ks j).cells.length cap' (k + (offG cK ks j : Int) + 1) hln (by omega) (by omega) hsl
      have dN : decide (k + (offG cK ks j : Int) + 1 + 2 * ((atK ks j).cells.length : Int) < 0) = false := by simp; omega
      clear h1 hr hsl hcp hks
      go_wp2_with fail
      refine hm.mono ?_
      clear hm
      rintro e w ⟨rfl, rfl⟩
      go_wp2
      exact ⟨⟨j + 1, by omega, by simp, by rw [hoff.out]; simp [cK]; omega⟩, by simp [intOf]; omega⟩
    · obtain rfl : j = ks.length := by omega
      have hd : decide ((ks.length : Int) < (ks.length : Int)) = false := by simp
      clear hs
      go_wp2
      go_ret
      exact ⟨rfl, rfl⟩
set_option maxHeartbeats 4000000 in
theorem heldRecordS_any (w : World) (a : Option Addr) (cap : Nat) (ks : List R4) (k : Int) (hk : 0 ≤ k) (hk' : k ≤ 500000000) (ht : offG cR ks ks.length ≤ 100000000) (hn : ks.length ≤ 1048576) (hl : ∀ c ∈ ks, c.sets.length ≤ 1048576) (hs : SlR w w.heap.size a ks.length (mkRs ks k)) :
    Calls Tryz.prog 105 #[.slice a ks.length cap, .int .i64 k] w fun e w' => e = .returned (.int .i64 (k + offG cR ks ks.length)) ∧ w' = w := by
  obtain ⟨_, hs⟩ := hs
  have HL := hidOf' hl
  clear hl
  go_enter Tryz.func105, Tryz.ntmps105
  go_wp2
  go_loop [1, 5] (fun v1 v5 => ∃ j : Nat, j ≤ ks.length ∧ v5 = .int .i64 j ∧ v1 = .int .i64 (k + (offG cR ks j : Int))) (fun _ v5 => ks.length - (intOf v5).toNat)
  case atStart => exact ⟨0, Nat.zero_le _, rfl, by rw [offG_zero]; simp⟩
  case round =>
    obtain ⟨j, hj, rfl, rfl⟩ := hrel
    have hb2 := offG_le cR ks j
    by_cases hlt : j < ks.length
    · rcases hs with hs | ⟨b, off, rfl, hb, h1⟩
      · omega
      have hks : ks[j]? = some (atR ks j) := atR_of hlt
      have hr := h1 j _ (mkRs_at hlt)
      have c0 := hr.c0
      have c1 := hr.c1
      have c2 := hr.c2
      obtain ⟨a', cap', c3, hsl, hcp⟩ := hr.c3
      simp only [mkR, mkSets_len] at c0 c1 c2 c3 hsl
      have hoff : Hid (offG cR ks (j + 1) = offG cR ks j + cR (atR ks j)) := offG_succ cR hks
      have hln := HL.out _ (List.mem_of_getElem? hks)
      have hm := heldSetS_k w a' (atR ks j).sets.length cap' (k + (offG cR ks j : Int) + 1 + 1 + 1) hln (by omega) (by omega) hsl
      have dN : decide (k + (offG cR ks j : Int) + 1 + 1 + 1 + 5 * ((atR ks j).sets.length : Int) < 0) = false := by simp; omega
      clear h1 hr hsl hcp hks
      go_wp2_with fail
      refine hm.mono ?_
      clear hm
      rintro e w ⟨rfl, rfl⟩
      go_wp2
      exact ⟨⟨j + 1, by omega, by simp, by rw [hoff.out]; simp [cR]; omega⟩, by simp [intOf]; omega⟩
    · obtain rfl : j = ks.length := by omega
      have hd : decide ((ks.length : Int) < (ks.length : Int)) = false := by simp
      clear hs
      go_wp2
      go_ret
      exact ⟨rfl, rfl⟩
end Go.Proofs.YtnhjgomfkfehgaaGreatDoor
namespace Go.Proofs.YtnhjgomfkfehgaaGreatDoor
open Go.RowKit
open Go.Sort (grow)
def Kd.Done {D V : Type} (K : Kd D V) (X : World) (B b : Nat) (ys : List D) (g : Nat → Nat → Prop) (f : Nat → D) (j : Nat) : Prop := ∀ i, i < j → i < ys.length → ∃ v, At X b (i * K.n) (K.cells v (f i)) ∧ K.Ow X B v (f i) (g i)
theorem Kd.Done.set {D V : Type} {K : Kd D V} {X : World} {B b : Nat} {ys : List D} {g : Nat → Nat → Prop} {f : Nat → D} {j o : Nat} (h : K.Done X B b ys g f j) (hne : ∀ i q, i < ys.length → g i q → q ≠ b) (ho : j * K.n ≤ o) (u : Value) : K.Done (X.setCell ⟨b, o, none⟩ u) B b ys g f j := fun i hi hl => by
  obtain ⟨v, h1, h2⟩ := h i hi hl
  have hm := Nat.mul_le_mul_right K.n (Nat.succ_le_of_lt hi)
  rw [Nat.succ_mul] at hm
  exact ⟨v, fun q u' e => by
    have hq := (List.getElem?_eq_some_iff.1 e).1
    rw [K.len] at hq
    exact (cell_set_other (by omega)).trans (h1 q u' e), K.keep h2 (by simp [World.setCell]) (fun q hq => Below.heap_setCell _ _ _ _ (hne i q hl hq))⟩
theorem Kd.Done.kept {D V : Type} {K : Kd D V} {X Y : World} {B b : Nat} {ys : List D} {g : Nat → Nat → Prop} {f : Nat → D} {j : Nat} {Q : Nat → Prop} (h : K.Done X B b ys g f j) (hne : ∀ i q, i < ys.length → g i q → q ≠ b) (hap : ∀ i j q, i < ys.length → j < ys.length → i ≠ j → g i q → ¬ g j q) (hk : KeptP Q X Y) (hb : b < X.heap.size) (hj : j < ys.length) (hQ : ∀ q, Q q → g j q) : K.Done Y B b ys g f j := fun i hi hl => by
  obtain ⟨v, h1, h2⟩ := h i hi hl
  have hbb : Y.heap[b]? = X.heap[b]? := hk.block b hb (fun e => hne j b hj (hQ b e) rfl)
  exact ⟨v, h1.of_block hbb, K.keep h2 hk.size (fun q hq => hk.block q (K.of h2 hq).2 (fun e => hap i j q hl hj (by omega) hq (hQ q e)))⟩
theorem Kd.Done.step {D V : Type} {K : Kd D V} {X : World} {B b : Nat} {ys : List D} {g : Nat → Nat → Prop} {f : Nat → D} {j : Nat} (h : K.Done X B b ys g f j) (v : V) (h1 : At X b (j * K.n) (K.cells v (f j))) (h2 : K.Ow X B v (f j) (g j)) : K.Done X B b ys g f (j + 1) := fun i hi hl => by
  by_cases e : i = j
  · subst e; exact ⟨v, h1, h2⟩
  · exact h i (by omega) hl
theorem Kd.Done.part {D V : Type} {K : Kd D V} {X : World} {B b : Nat} {ys : List D} {g : Nat → Nat → Prop} {f : Nat → D} (h : K.Done X B b ys g f ys.length) (hr : K.Rest X B b ys.length ys g ys.length) : K.Part X B b ys.length ((List.range ys.length).map f) g := by
  refine ⟨hr.rm, fun i d hi => ?_, fun i q hi => hr.ne i q (by simpa using hi), fun i j q hi hj => hr.ap i j q (by simpa using hi) (by simpa using hj)⟩
  have hl : i < ys.length := by have := (List.getElem?_eq_some_iff.1 hi).1; simpa using this
  simp [hl] at hi
  subst hi
  exact h i hl hl
def mkMi (ms : List M4) (k : Int) (i : Nat) : M4 := ⟨(k + offG cM ms i) % 3 == 0, mkKs (atM ms i).copies (k + offG cM ms i + 1), mkRs (atM ms i).log (k + offG cM ms i + 1 + offG cK (atM ms i).copies (atM ms i).copies.length), marks (atM ms i).cleared.length (k + offG cM ms i + 1 + offG cK (atM ms i).copies (atM ms i).copies.length + offG cR (atM ms i).log (atM ms i).log.length)⟩
def mkMs (ms : List M4) (k : Int) : List M4 := (List.range ms.length).map (mkMi ms k)
theorem mkMs_len (ms : List M4) (k : Int) : (mkMs ms k).length = ms.length := by simp [mkMs]
theorem mkMs_at {ms : List M4} {k : Int} {j : Nat} (h : j < ms.length) : (mkMs ms k)[j]? = some (mkMi ms k j) := by simp [mkMs, h]
structure MRn (w X : World) (B b : Nat) (ms : List M4) (g : Nat → Nat → Prop) (P : Nat → Prop) (f : Nat → M4) (j : Nat) (x : Bool) (a1 : Option Addr) (c1 : Nat) (a2 : Option Addr) (c2 : Nat) (a3 : Option Addr) (c3 : Nat) (ks : List K2) (rs : List R4) (zs : List Int) (PK PR PD : Nat → Prop) : Prop where
  k : OwnL 2 hdK lnK AtK X PK a1 ks
  r : OwnL 4 hdR lnR AtR X PR a2 rs
  n : OwnN X PD a3 zs
  at_ : At X b (j * 4) [.bool x, .slice a1 ks.length c1, .slice a2 rs.length c2, .slice a3 zs.length c3]
  rest : KMk.Rest X B b ms.length ms g (j + 1)
  done : KMk.Done X B b ms g f j
  kp : KeptP P w X
  lt : b < X.heap.size
theorem MRn.step {w X Y : World} {B b : Nat} {ms : List M4} {g : Nat → Nat → Prop} {P : Nat → Prop} {f : Nat → M4} {j : Nat} {x : Bool} {a1 : Option Addr} {c1 : Nat} {a2 : Option Addr} {c2 : Nat} {a3 : Option Addr} {c3 : Nat} {ks ks' : List K2} {rs rs' : List R4} {zs zs' : List Int} {PK PR PD Q : Nat → Prop} (h : MRn w X B b ms g P f j x a1 c1 a2 c2 a3 c3 ks rs zs PK PR PD) (hj : j < ms.length) (hk : KeptP Q X Y) (hQ : ∀ q, Q q → g j q) (hP : ∀ q, g j q → P q) (k' : OwnL 2 hdK lnK AtK Y PK a1 ks') (lk : ks'.length = ks.length) (r' : OwnL 4 hdR lnR AtR Y PR a2 rs') (lr : rs'.length = rs.length) (n' : OwnN Y PD a3 zs') (lz : zs'.length = zs.length) : MRn w Y B b ms g P f j x a1 c1 a2 c2 a3 c3 ks' rs' zs' PK PR PD := by
  have hbk := hk.block b h.lt (fun e => h.rest.ne j b hj (hQ b e) rfl)
  refine ⟨k', r', n', ?_, h.rest.kept hk h.lt hj hQ, h.done.kept h.rest.ne h.rest.ap hk h.lt hj hQ, h.kp.trans (hk.mono (fun q hq => hP q (hQ q hq))), Nat.lt_of_lt_of_le h.lt hk.size⟩
  rw [lk, lr, lz]
  exact h.at_.of_block hbk
set_option maxRecDepth 100000 in
set_option maxHeartbeats 4000000 in
theorem markMn (w : World) (B b cap : Nat) (ms : List M4) (g : Nat → Nat → Prop) (P : Nat → Prop) (k : Int) (hk : 0 ≤ k) (hk' : k + (offG cM ms ms.length : Int) ≤ 100000000) (hn : ms.length ≤ 1048576) (ht : ∀ m ∈ ms, MT m) (hb : b < w.heap.size) (hPb : P b) (hPg : ∀ i q, i < ms.length → g i q → P q) (h : KMk.Part w B b ms.length ms g) :
    Calls Tryz.prog 45 #[.slice (some ⟨b, 0, none⟩) ms.length cap, .int .i64 k] w fun e w' => e = .returned (.int .i64 (k + (offG cM ms ms.length : Int))) ∧ KeptP P w w' ∧ KMk.Part w' B b ms.length (mkMs ms k) g := by
  have H : Hid ((∀ m ∈ ms, MT m) ∧ b < w.heap.size ∧ P b ∧ (∀ i q, i < ms.length → g i q → P q) ∧ KMk.Part w B b ms.length ms g) := ⟨ht, hb, hPb, hPg, h⟩
  clear ht hb hPb hPg h
  go_enter Tryz.func45, Tryz.ntmps45
  go_wp2
  go_loopw [1, 5] (fun v1 v5 wr => ∃ j : Nat, j ≤ ms.length ∧ v5 = .int .i64 j ∧ v1 = .int .i64 (k + (offG cM ms j : Int)) ∧ KeptP P w wr ∧ KMk.Rest wr B b ms.length ms g j ∧ KMk.Done wr B b ms g (mkMi ms k) j) (fun _ v5 _ => ms.length - (intOf v5).toNat)
  case atStart => exact ⟨0, Nat.zero_le _, rfl, by rw [offG_zero]; simp, KeptP.refl _ _, H.out.2.2.2.2.rest, fun i hi => absurd hi (Nat.not_lt_zero i)⟩
  case round =>
    obtain ⟨j, hj, rfl, rfl, hkp, hrs, hdn⟩ := hrel
    have hb2 := offG_le cM ms j
    by_cases hlt : j < ms.length
    · have hd := atM_of hlt
      obtain ⟨⟨m0, m1, m2, m3, m4, m5⟩, hat, how⟩ := hrs.at_ j _ (Nat.le_refl _) hd
      obtain ⟨PK, PR, PD, om, hsub, hbd⟩ := how
      obtain ⟨z0, d0, f0⟩ : ∃ v, wr.cell? ⟨b, j * 4, none⟩ = some v ∧ wr.frozen? ⟨b, j * 4, none⟩ = false := hrs.rm (j * 4) (show _ < ms.length * 4 by omega)
      have e1 : wr.cell? ⟨b, j * 4 + 1, none⟩ = some (.slice m0 (atM ms j).copies.length m1) := hat 1 _ rfl
      have e2 : wr.cell? ⟨b, j * 4 + 2, none⟩ = some (.slice m2 (atM ms j).log.length m3) := hat 2 _ rfl
      have e3 : wr.cell? ⟨b, j * 4 + 3, none⟩ = some (.slice m4 (atM ms j).cleared.length m5) := hat 3 _ rfl
      have hT := H.out.1 _ (List.mem_of_getElem? hd)
      have hoff : offG cM ms (j + 1) = offG cM ms j + cM (atM ms j) := offG_succ cM hd
      have hle := offG_le cM ms (j + 1)
      have HO : Hid (offG cM ms (j + 1) = offG cM ms j + (1 + (offG cK (atM ms j).copies (atM ms j).copies.length + offG cR (atM ms j).log (atM ms j).log.length + (atM ms j).cleared.length)) ∧ k + (offG cM ms (j + 1) : Int) ≤ 100000000) := ⟨hoff, by omega⟩
      have hnb : ∀ q, g j q → q ≠ b := fun q hq => hrs.ne j q hlt hq
      have bl : b < wr.heap.size := Nat.lt_of_lt_of_le H.out.2.1 hkp.size
      obtain ⟨V, hV⟩ : ∃ V, V = wr.setCell ⟨b, j * 4, none⟩ (.bool ((k + (offG cM ms j : Int)) % 3 == 0)) := ⟨_, rfl⟩
      have S1 : Hid (MRn w V B b ms g P (mkMi ms k) j ((k + (offG cM ms j : Int)) % 3 == 0) m0 m1 m2 m3 m4 m5 (atM ms j).copies (atM ms j).log (atM ms j).cleared PK PR PD) := by
        rw [hV]
        have hsz : wr.heap.size ≤ (wr.setCell ⟨b, j * 4, none⟩ (.bool ((k + (offG cM ms j : Int)) % 3 == 0))).heap.size := by simp [World.setCell]
        refine ⟨om.k.keep AtK.of_block hsz (fun q _ hp => Below.heap_setCell _ _ _ _ (hnb q (hsub q (.inl hp)))), om.r.keep AtR.of_block hsz (fun q _ hp => Below.heap_setCell _ _ _ _ (hnb q (hsub q (.inr (.inl hp))))), om.n.keep hsz (fun q _ hp => Below.heap_setCell _ _ _ _ (hnb q (hsub q (.inr (.inr hp))))),
          ?_, hrs.up.set (show j * 4 < (j + 1) * 4 by omega) _, hdn.set hrs.ne (show j * 4 ≤ j * 4 by omega) _, hkp.trans (KeptP.of_set wr _ H.out.2.2.1), Nat.lt_of_lt_of_le bl hsz⟩
        intro i u hu
        rcases i with _ | _ | _ | _ | i
        · simp at hu; subst hu; exact cell_set_same d0
        · simp at hu; subst hu; exact (cell_set_other (by omega)).trans e1
        · simp at hu; subst hu; exact (cell_set_other (by omega)).trans e2
        · simp at hu; subst hu; exact (cell_set_other (by omega)).trans e3
        · simp at hu
      have HG : Hid ((∀ q, PK q → g j q) ∧ (∀ q, PR q → g j q) ∧ (∀ q, PD q → g j q) ∧ (∀ q, PK q → ¬ PR q) ∧ (∀ q, PK q → ¬ PD q) ∧ (∀ q, PR q → ¬ PD q) ∧ (∀ q, g j q → P q) ∧ (∀ q, PK q → B ≤ q) ∧ (∀ q, PR q → B ≤ q) ∧ (∀ q, PD q → B ≤ q) ∧ (∀ q, g j q → B ≤ q ∧ q < wr.heap.size) ∧ wr.heap.size ≤ V.heap.size) := ⟨fun q hq => hsub q (.inl hq), fun q hq => hsub q (.inr (.inl hq)), fun q hq => hsub q (.inr (.inr hq)), om.kr, om.kd, om.rd, fun q hq => H.out.2.2.2.1 j q hlt hq, om.kB, om.rB, om.dB, hbd, by rw [hV]; simp [World.setCell]⟩
      have HT : Hid (MT (atM ms j)) := hT
      have jn : (j : Int) < (ms.length : Int) := by omega
      have g0 : 0 ≤ k + (offG cM ms j : Int) := by omega
      have g1 : k + (offG cM ms j : Int) ≤ 100000000 := by omega
      have HI : Hid (mkMi ms k j = ⟨(k + offG cM ms j) % 3 == 0, mkKs (atM ms j).copies (k + offG cM ms j + 1), mkRs (atM ms j).log (k + offG cM ms j + 1 + offG cK (atM ms j).copies (atM ms j).copies.length), marks (atM ms j).cleared.length (k + offG cM ms j + 1 + offG cK (atM ms j).copies (atM ms j).copies.length + offG cR (atM ms j).log (atM ms j).log.length)⟩) := rfl
      clear hkp hrs hdn hat om hsub hbd hd hoff hle hnb hT bl e2 e3 hb2
      generalize hK : k + (offG cM ms j : Int) = kj at *
      go_wp2_with fail
      rw [← hV]
      clear hV
      refine (markK V PK m0 m1 (atM ms j).copies (kj + 1) (by omega) (by omega) HT.out.tk HT.out.k HT.out.ks S1.out.k).mono ?_
      rintro e w1 ⟨rfl, k1, o1⟩
      have R1 : Hid (MRn w w1 B b ms g P (mkMi ms k) j (kj % 3 == 0) m0 m1 m2 m3 m4 m5 (mkKs (atM ms j).copies (kj + 1)) (atM ms j).log (atM ms j).cleared PK PR PD ∧ V.heap.size ≤ w1.heap.size) := ⟨S1.out.step hlt k1 HG.out.1 HG.out.2.2.2.2.2.2.1 o1 (mkKs_len _ _) (S1.out.r.keep AtR.of_block k1.size (fun q hq hp => k1.block q hq (fun e => HG.out.2.2.2.1 q e hp))) rfl (S1.out.n.keep k1.size (fun q hq hp => k1.block q hq (fun e => HG.out.2.2.2.2.1 q e hp))) rfl, k1.size⟩
      clear k1 o1 S1 d0 f0 e1
      have e2 : w1.cell? ⟨b, j * 4 + 2, none⟩ = some (.slice m2 (atM ms j).log.length m3) := R1.out.1.at_ 2 _ rfl
      have tk := HT.out.tk
      have tr := HT.out.tr
      have tn := HT.out.n
      go_wp2_with fail
      refine (markR w1 PR m2 m3 (atM ms j).log _ (by omega) (by omega) HT.out.tr HT.out.r HT.out.rs R1.out.1.r).mono ?_
      rintro e w2 ⟨rfl, k2, o2⟩
      have R2 : Hid (MRn w w2 B b ms g P (mkMi ms k) j (kj % 3 == 0) m0 m1 m2 m3 m4 m5 (mkKs (atM ms j).copies (kj + 1)) (mkRs (atM ms j).log (kj + 1 + offG cK (atM ms j).copies (atM ms j).copies.length)) (atM ms j).cleared PK PR PD ∧ V.heap.size ≤ w2.heap.size) := ⟨R1.out.1.step hlt k2 HG.out.2.1 HG.out.2.2.2.2.2.2.1 (R1.out.1.k.keep AtK.of_block k2.size (fun q hq hp => k2.block q hq (fun e => HG.out.2.2.2.1 q hp e))) rfl o2 (mkRs_len _ _) (R1.out.1.n.keep k2.size (fun q hq hp => k2.block q hq (fun e => HG.out.2.2.2.2.2.1 q e hp))) rfl, Nat.le_trans R1.out.2 k2.size⟩
      clear k2 o2 R1 e2
      have e3 : w2.cell? ⟨b, j * 4 + 3, none⟩ = some (.slice m4 (atM ms j).cleared.length m5) := R2.out.1.at_ 3 _ rfl
      go_wp2_with fail
      refine (markN w2 PD m4 m5 (atM ms j).cleared _ (by omega) (by omega) HT.out.n R2.out.1.n).mono ?_
      rintro e w3 ⟨rfl, k3, o3⟩
      have R3 : Hid (KMk.Rest w3 B b ms.length ms g (j + 1) ∧ KeptP P w w3 ∧ KMk.Done w3 B b ms g (mkMi ms k) (j + 1)) := by
        have R0 := R2.out.1.step hlt k3 HG.out.2.2.1 HG.out.2.2.2.2.2.2.1 (R2.out.1.k.keep AtK.of_block k3.size (fun q hq hp => k3.block q hq (fun e => HG.out.2.2.2.2.1 q hp e))) rfl (R2.out.1.r.keep AtR.of_block k3.size (fun q hq hp => k3.block q hq (fun e => HG.out.2.2.2.2.2.1 q hp e))) rfl o3 (marks_len _ _)
        obtain ⟨h1, h2, h3, h4, h5, h6, h7, h8, h9, h10, h11, h12⟩ := HG.out
        have hsz := Nat.le_trans R2.out.2 k3.size
        refine ⟨R0.rest, R0.kp, R0.done.step ⟨m0, m1, m2, m3, m4, m5⟩ ?_ ?_⟩
        · rw [HI.out]; exact R0.at_
        · rw [HI.out]
          exact ⟨PK, PR, PD, ⟨R0.k, R0.r, R0.n, h4, h5, h6, h8, h9, h10⟩, fun q hq => by rcases hq with hq | hq | hq; exact h1 q hq; exact h2 q hq; exact h3 q hq, fun q hq => ⟨(h11 q hq).1, by have := (h11 q hq).2; omega⟩⟩
      clear k3 o3 R2 e3
      go_wp2
      exact ⟨⟨j + 1, by omega, by simp, by have := HO.out.1; rw [this]; congr 1; omega, R3.out.2.1, R3.out.1, R3.out.2.2⟩, by simp [intOf]; omega⟩
    · obtain rfl : j = ms.length := by omega
      have hd : decide ((ms.length : Int) < (ms.length : Int)) = false := by simp
      have KH : Hid (KeptP P w wr ∧ KMk.Part wr B b ms.length (mkMs ms k) g) := ⟨hkp, hdn.part hrs⟩
      clear hkp hrs hdn
      go_wp2
      go_ret
      exact ⟨rfl, KH.out.1, KH.out.2⟩
set_option maxRecDepth 100000 in
set_option maxHeartbeats 4000000 in
theorem heldMn (w : World) (a : Option Addr) (cap : Nat) (ms : List M4) (k : Int) (hk : 0 ≤ k) (hk' : k + (offG cM ms ms.length : Int) ≤ 100000000) (hn : ms.length ≤ 1048576) (ht : ∀ m ∈ ms, MT m) (h : KMk.RdS w a (mkMs ms k)) :
    Calls Tryz.prog 48 #[.slice a ms.length cap, .int .i64 k] w fun e w' => e = .returned (.int .i64 (k + (offG cM ms ms.length : Int))) ∧ Below w.heap.size w w' := by
  have H : Hid ((∀ m ∈ ms, MT m) ∧ KMk.RdS w a (mkMs ms k)) := ⟨ht, h⟩
  clear ht h
  go_enter Tryz.func48, Tryz.ntmps48
  go_wp2
  go_loopw [1, 5] (fun v1 v5 wr => ∃ j : Nat, j ≤ ms.length ∧ v5 = .int .i64 j ∧ v1 = .int .i64 (k + (offG cM ms j : Int)) ∧ Below w.heap.size w wr) (fun _ v5 _ => ms.length - (intOf v5).toNat)
  case atStart => exact ⟨0, Nat.zero_le _, rfl, by rw [offG_zero]; simp, Below.refl _ _⟩
  case round =>
    obtain ⟨j, hj, rfl, rfl, hbl⟩ := hrel
    have hb2 := offG_le cM ms j
    by_cases hlt : j < ms.length
    · have hd := atM_of hlt
      have hrd := H.out.2.later hbl
      rcases hrd with h0 | ⟨b, off, rfl, hb, hrd⟩
      · have := mkMs_len ms k; rw [h0] at this; simp at this; omega
      obtain ⟨⟨m0, m1, m2, m3, m4, m5⟩, hat, how⟩ := hrd j _ (mkMs_at hlt)
      have e0 : wr.cell? ⟨b, off + j * 4, none⟩ = some (.bool ((k + (offG cM ms j : Int)) % 3 == 0)) := hat 0 _ rfl
      have e1 : wr.cell? ⟨b, off + j * 4 + 1, none⟩ = some (.slice m0 (mkMi ms k j).copies.length m1) := hat 1 _ rfl
      have e2 : wr.cell? ⟨b, off + j * 4 + 2, none⟩ = some (.slice m2 (mkMi ms k j).log.length m3) := hat 2 _ rfl
      have e3 : wr.cell? ⟨b, off + j * 4 + 3, none⟩ = some (.slice m4 (mkMi ms k j).cleared.length m5) := hat 3 _ rfl
      have l1 : (mkMi ms k j).copies.length = (atM ms j).copies.length := mkKs_len _ _
      have l2 : (mkMi ms k j).log.length = (atM ms j).log.length := mkRs_len _ _
      have l3 : (mkMi ms k j).cleared.length = (atM ms j).cleared.length := marks_len _ _
      rw [l1] at e1
      rw [l2] at e2
      rw [l3] at e3
      obtain ⟨sk, sr, sn⟩ := how
      simp only at sk sr sn
      rw [l1] at sk
      rw [l2] at sr
      rw [l3] at sn
      have hT := H.out.1 _ (List.mem_of_getElem? hd)
      have hoff : offG cM ms (j + 1) = offG cM ms j + cM (atM ms j) := offG_succ cM hd
      have hle := offG_le cM ms (j + 1)
      have HO : Hid (offG cM ms (j + 1) = offG cM ms j + (1 + (offG cK (atM ms j).copies (atM ms j).copies.length + offG cR (atM ms j).log (atM ms j).log.length + (atM ms j).cleared.length)) ∧ k + (offG cM ms (j + 1) : Int) ≤ 100000000) := ⟨hoff, by omega⟩
      have S : Hid (Below w.heap.size w wr ∧ SlK wr wr.heap.size m0 (atM ms j).copies.length (mkKs (atM ms j).copies (k + offG cM ms j + 1)) ∧ SlR wr wr.heap.size m2 (atM ms j).log.length (mkRs (atM ms j).log (k + offG cM ms j + 1 + offG cK (atM ms j).copies (atM ms j).copies.length)) ∧ SlN wr wr.heap.size m4 (atM ms j).cleared.length (marks (atM ms j).cleared.length (k + offG cM ms j + 1 + offG cK (atM ms j).copies (atM ms j).copies.length + offG cR (atM ms j).log (atM ms j).log.length)) ∧ b < wr.heap.size) := ⟨hbl, sk, sr, sn, hb⟩
      have HT : Hid (MT (atM ms j)) := hT
      have jn : (j : Int) < (ms.length : Int) := by omega
      have g0 : 0 ≤ k + (offG cM ms j : Int) := by omega
      have g1 : k + (offG cM ms j : Int) ≤ 100000000 := by omega
      clear hbl hrd hat sk sr sn hd hoff hle hT hb l1 l2 l3 hb2
      have tk := HT.out.tk
      have tr := HT.out.tr
      have tn := HT.out.n
      generalize hK : k + (offG cM ms j : Int) = kj at *
      have dx : ((kj % 3 == 0) != (kj % 3 == 0)) = false := by simp
      have d1 : decide (kj + 1 + (offG cK (atM ms j).copies (atM ms j).copies.length : Int) < 0) = false := by simp; omega
      have d2 : decide (kj + 1 + (offG cK (atM ms j).copies (atM ms j).copies.length : Int) + (offG cR (atM ms j).log (atM ms j).log.length : Int) < 0) = false := by simp; omega
      have d3 : decide (kj + 1 + (offG cK (atM ms j).copies (atM ms j).copies.length : Int) + (offG cR (atM ms j).log (atM ms j).log.length : Int) + ((atM ms j).cleared.length : Int) < 0) = false := by simp; omega
      go_wp2_with fail
      refine (heldCopyS_any wr m0 m1 (atM ms j).copies (kj + 1) (by omega) (by omega) HT.out.tk HT.out.k HT.out.ks S.out.2.1).mono ?_
      rintro e w1 ⟨rfl, rfl⟩
      go_wp2_with fail
      refine (heldRecordS_any w1 m2 m3 (atM ms j).log _ (by omega) (by omega) HT.out.tr HT.out.r HT.out.rs S.out.2.2.1).mono ?_
      rintro e w2 ⟨rfl, rfl⟩
      go_wp2_with fail
      refine (heldInt64S_any w2 m4 (atM ms j).cleared.length m5 _ (by omega) (by omega) (by omega) S.out.2.2.2.1).mono ?_
      rintro e w3 ⟨rfl, rfl⟩
      go_wp2
      exact ⟨⟨j + 1, by omega, by simp, by have := HO.out.1; rw [this]; congr 1; omega, S.out.1⟩, by simp [intOf]; omega⟩
    · obtain rfl : j = ms.length := by omega
      have hd : decide ((ms.length : Int) < (ms.length : Int)) = false := by simp
      have KH : Hid (Below w.heap.size w wr) := hbl
      clear hbl
      go_wp2
      go_ret
      exact ⟨rfl, KH.out⟩
def mkTk (t : tx.T7) (kk : Int) : tx.T7 := ⟨kk, kk + 1, kk + 1 + 1, kk + 1 + 1 + 1, tx.mkNotes (kk + 1 + 1 + 1 + 1) t.reads.length, tx.mkSets (kk + 1 + 1 + 1 + 1 + 5 * (t.reads.length : Int)) t.sets.length, kk + 1 + 1 + 1 + 1 + 5 * (t.reads.length : Int) + 5 * (t.sets.length : Int)⟩
def mkTi (ts : List tx.T7) (k : Int) (i : Nat) : tx.T7 := mkTk (atT ts i) (k + offG cT ts i)
def mkTs (ts : List tx.T7) (k : Int) : List tx.T7 := (List.range ts.length).map (mkTi ts k)
theorem mkTs_len (ts : List tx.T7) (k : Int) : (mkTs ts k).length = ts.length := by simp [mkTs]
theorem mkTs_at {ts : List tx.T7} {k : Int} {j : Nat} (h : j < ts.length) : (mkTs ts k)[j]? = some (mkTi ts k j) := by simp [mkTs, h]
theorem At.far {X : World} {b o p : Nat} {cs : List Value} (h : At X b o cs) (hp : p < o ∨ o + cs.length ≤ p) (u : Value) : At (X.setCell ⟨b, p, none⟩ u) b o cs := fun j v hv => by
  have := (List.getElem?_eq_some_iff.1 hv).1
  exact (cell_set_other (by omega)).trans (h j v hv)
theorem At.put {X : World} {b o i : Nat} {cs : List Value} (h : At X b o cs) (hi : i < cs.length) (u : Value) : At (X.setCell ⟨b, o + i, none⟩ u) b o (cs.set i u) := fun j v hv => by
  by_cases hj : i = j
  · subst hj
    rw [List.getElem?_set_self hi] at hv
    obtain rfl := Option.some.inj hv
    exact cell_set_same (h i _ (List.getElem?_eq_getElem hi))
  · rw [List.getElem?_set_ne hj] at hv
    exact (cell_set_other (by omega)).trans (h j v hv)
structure TRn (w X : World) (B b : Nat) (ts : List tx.T7) (g : Nat → Nat → Prop) (P : Nat → Prop) (f : Nat → tx.T7) (j : Nat) (cs : List Value) (a1 a2 : Option Addr) (ns : List tx.N5) (ss : List S5) (PR PS : Nat → Prop) : Prop where
  r : tx.OwnNo X PR a1 ns
  s : tx.OwnSe X PS a2 ss
  at_ : At X b (j * 7) cs
  rest : KTk.Rest X B b ts.length ts g (j + 1)
  done : KTk.Done X B b ts g f j
  kp : KeptP P w X
  lt : b < X.heap.size
theorem TRn.put {w X : World} {B b : Nat} {ts : List tx.T7} {g : Nat → Nat → Prop} {P : Nat → Prop} {f : Nat → tx.T7} {j : Nat} {cs : List Value} {a1 a2 : Option Addr} {ns : List tx.N5} {ss : List S5} {PR PS : Nat → Prop} (h : TRn w X B b ts g P f j cs a1 a2 ns ss PR PS) (hj : j < ts.length) (hPb : P b) (h1 : ∀ q, PR q → g j q) (h2 : ∀ q, PS q → g j q) (i : Nat) (hi : i < cs.length) (h7 : i < 7) (u : Value) : TRn w (X.setCell ⟨b, j * 7 + i, none⟩ u) B b ts g P f j (cs.set i u) a1 a2 ns ss PR PS := by
  have hsz : X.heap.size ≤ (X.setCell ⟨b, j * 7 + i, none⟩ u).heap.size := by simp [World.setCell]
  exact ⟨h.r.keep hsz (fun q _ hp => Below.heap_setCell _ _ _ _ (h.rest.ne j q hj (h1 q hp))), h.s.keep hsz (fun q _ hp => Below.heap_setCell _ _ _ _ (h.rest.ne j q hj (h2 q hp))), h.at_.put hi u, h.rest.set (show j * 7 + i < (j + 1) * 7 by omega) u, h.done.set h.rest.ne (show j * 7 ≤ j * 7 + i by omega) u, h.kp.trans (KeptP.of_set X u hPb), Nat.lt_of_lt_of_le h.lt hsz⟩
theorem TRn.step {w X Y : World} {B b : Nat} {ts : List tx.T7} {g : Nat → Nat → Prop} {P : Nat → Prop} {f : Nat → tx.T7} {j : Nat} {cs : List Value} {a1 a2 : Option Addr} {ns ns' : List tx.N5} {ss ss' : List S5} {PR PS Q : Nat → Prop} (h : TRn w X B b ts g P f j cs a1 a2 ns ss PR PS) (hj : j < ts.length) (hk : KeptP Q X Y) (hQ : ∀ q, Q q → g j q) (hP : ∀ q, g j q → P q) (r' : tx.OwnNo Y PR a1 ns') (s' : tx.OwnSe Y PS a2 ss') : TRn w Y B b ts g P f j cs a1 a2 ns' ss' PR PS := by
  have hbk := hk.block b h.lt (fun e => h.rest.ne j b hj (hQ b e) rfl)
  exact ⟨r', s', h.at_.of_block hbk, h.rest.kept hk h.lt hj hQ, h.done.kept h.rest.ne h.rest.ap hk h.lt hj hQ, h.kp.trans (hk.mono (fun q hq => hP q (hQ q hq))), Nat.lt_of_lt_of_le h.lt hk.size⟩
set_option maxRecDepth 100000 in
set_option maxHeartbeats 4000000 in
theorem markTn (w : World) (B b cap : Nat) (ts : List tx.T7) (g : Nat → Nat → Prop) (P : Nat → Prop) (k : Int) (hk : 0 ≤ k) (hk' : k + (offG cT ts ts.length : Int) ≤ 100000000) (hn : ts.length ≤ 1048576) (ht : ∀ t ∈ ts, KT.S t) (hb : b < w.heap.size) (hPb : P b) (hPg : ∀ i q, i < ts.length → g i q → P q) (h : KTk.Part w B b ts.length ts g) :
    Calls Tryz.prog 46 #[.slice (some ⟨b, 0, none⟩) ts.length cap, .int .i64 k] w fun e w' => e = .returned (.int .i64 (k + (offG cT ts ts.length : Int))) ∧ KeptP P w w' ∧ KTk.Part w' B b ts.length (mkTs ts k) g := by
  have H : Hid ((∀ t ∈ ts, KT.S t) ∧ b < w.heap.size ∧ P b ∧ (∀ i q, i < ts.length → g i q → P q) ∧ KTk.Part w B b ts.length ts g) := ⟨ht, hb, hPb, hPg, h⟩
  clear ht hb hPb hPg h
  go_enter Tryz.func46, Tryz.ntmps46
  go_wp2
  go_loopw [1, 5] (fun v1 v5 wr => ∃ j : Nat, j ≤ ts.length ∧ v5 = .int .i64 j ∧ v1 = .int .i64 (k + (offG cT ts j : Int)) ∧ KeptP P w wr ∧ KTk.Rest wr B b ts.length ts g j ∧ KTk.Done wr B b ts g (mkTi ts k) j) (fun _ v5 _ => ts.length - (intOf v5).toNat)
  case atStart => exact ⟨0, Nat.zero_le _, rfl, by rw [offG_zero]; simp, KeptP.refl _ _, H.out.2.2.2.2.rest, fun i hi => absurd hi (Nat.not_lt_zero i)⟩
  case round =>
    obtain ⟨j, hj, rfl, rfl, hkp, hrs, hdn⟩ := hrel
    have hb2 := offG_le cT ts j
    by_cases hlt : j < ts.length
    · have hd := atT_of hlt
      obtain ⟨⟨t0, t1, t2, t3⟩, hat, how⟩ := hrs.at_ j _ (Nat.le_refl _) hd
      obtain ⟨PR, PS, om, hsub, hbd⟩ := how
      obtain ⟨z0, d0, f0⟩ : ∃ v, wr.cell? ⟨b, j * 7, none⟩ = some v ∧ wr.frozen? ⟨b, j * 7, none⟩ = false := hrs.rm (j * 7 + 0) (show _ < ts.length * 7 by omega)
      obtain ⟨z1, d1, f1⟩ : ∃ v, wr.cell? ⟨b, j * 7 + 1, none⟩ = some v ∧ wr.frozen? ⟨b, j * 7 + 1, none⟩ = false := hrs.rm (j * 7 + 1) (show _ < ts.length * 7 by omega)
      obtain ⟨z2, d2, f2⟩ : ∃ v, wr.cell? ⟨b, j * 7 + 2, none⟩ = some v ∧ wr.frozen? ⟨b, j * 7 + 2, none⟩ = false := hrs.rm (j * 7 + 2) (show _ < ts.length * 7 by omega)
      obtain ⟨z3, d3, f3⟩ : ∃ v, wr.cell? ⟨b, j * 7 + 3, none⟩ = some v ∧ wr.frozen? ⟨b, j * 7 + 3, none⟩ = false := hrs.rm (j * 7 + 3) (show _ < ts.length * 7 by omega)
      have e4 : wr.cell? ⟨b, j * 7 + 4, none⟩ = some (.slice t0 (atT ts j).reads.length t1) := hat 4 _ rfl
      have hT := H.out.1 _ (List.mem_of_getElem? hd)
      have hoff : offG cT ts (j + 1) = offG cT ts j + cT (atT ts j) := offG_succ cT hd
      have hle := offG_le cT ts (j + 1)
      have HO : Hid (offG cT ts (j + 1) = offG cT ts j + (5 + (5 * (atT ts j).reads.length + 5 * (atT ts j).sets.length)) ∧ k + (offG cT ts (j + 1) : Int) ≤ 100000000) := ⟨hoff, by omega⟩
      have bl : b < wr.heap.size := Nat.lt_of_lt_of_le H.out.2.1 hkp.size
      have HI : Hid (mkTi ts k j = mkTk (atT ts j) (k + (offG cT ts j : Int))) := rfl
      have HG : Hid ((∀ q, PR q → g j q) ∧ (∀ q, PS q → g j q) ∧ (∀ q, PR q → ¬ PS q) ∧ (∀ q, g j q → P q) ∧ (∀ q, PR q → B ≤ q) ∧ (∀ q, PS q → B ≤ q) ∧ (∀ q, g j q → B ≤ q ∧ q < wr.heap.size)) := ⟨fun q hq => hsub q (.inl hq), fun q hq => hsub q (.inr hq), om.rs, fun q hq => H.out.2.2.2.1 j q hlt hq, fun q hq => (om.rB q hq).1, fun q hq => (om.sB q hq).1, hbd⟩
      have S0 : TRn w wr B b ts g P (mkTi ts k) j [.int .i64 (atT ts j).id, .int .i64 (atT ts j).home, .int .i64 (atT ts j).phase, .int .i64 (atT ts j).count, .slice t0 (atT ts j).reads.length t1, .slice t2 (atT ts j).sets.length t3, .int .i64 (atT ts j).stamp] t0 t2 (atT ts j).reads (atT ts j).sets PR PS := ⟨om.r, om.s, hat, hrs.up, hdn, hkp, bl⟩
      obtain ⟨V, hV⟩ : ∃ V, V = ((((wr.setCell ⟨b, j * 7, none⟩ (.int .i64 (k + (offG cT ts j : Int)))).setCell ⟨b, j * 7 + 1, none⟩ (.int .i64 (k + (offG cT ts j : Int) + 1))).setCell ⟨b, j * 7 + 2, none⟩ (.int .i64 (k + (offG cT ts j : Int) + 1 + 1))).setCell ⟨b, j * 7 + 3, none⟩ (.int .i64 (k + (offG cT ts j : Int) + 1 + 1 + 1))) := ⟨_, rfl⟩
      have S1 : Hid (TRn w V B b ts g P (mkTi ts k) j [.int .i64 (k + (offG cT ts j : Int)), .int .i64 (k + (offG cT ts j : Int) + 1), .int .i64 (k + (offG cT ts j : Int) + 1 + 1), .int .i64 (k + (offG cT ts j : Int) + 1 + 1 + 1), .slice t0 (atT ts j).reads.length t1, .slice t2 (atT ts j).sets.length t3, .int .i64 (atT ts j).stamp] t0 t2 (atT ts j).reads (atT ts j).sets PR PS ∧ wr.heap.size ≤ V.heap.size) := by
        rw [hV]
        exact ⟨(((S0.put hlt H.out.2.2.1 HG.out.1 HG.out.2.1 0 (by simp) (by omega) _).put hlt H.out.2.2.1 HG.out.1 HG.out.2.1 1 (by simp) (by omega) _).put hlt H.out.2.2.1 HG.out.1 HG.out.2.1 2 (by simp) (by omega) _).put hlt H.out.2.2.1 HG.out.1 HG.out.2.1 3 (by simp) (by omega) _, by simp [World.setCell]⟩
      have HT : Hid (KT.S (atT ts j)) := hT
      have jn : (j : Int) < (ts.length : Int) := by omega
      have g0 : 0 ≤ k + (offG cT ts j : Int) := by omega
      have g1 : k + (offG cT ts j : Int) ≤ 100000000 := by omega
      clear hkp hrs hdn hat om hsub hbd hd hoff hle hT bl hb2 S0
      generalize hK : k + (offG cT ts j : Int) = kj at *
      have tr := HT.out.1
      have ts' := HT.out.2
      go_wp2_with fail
      rw [← hV]
      clear hV
      refine (tx.markNo V PR t0 t1 (atT ts j).reads _ (by omega) (by omega) HT.out.1 S1.out.1.r).mono ?_
      rintro e w1 ⟨rfl, k1, o1⟩
      have k1 := kp_of k1
      have R1 : Hid (TRn w w1 B b ts g P (mkTi ts k) j [.int .i64 kj, .int .i64 (kj + 1), .int .i64 (kj + 1 + 1), .int .i64 (kj + 1 + 1 + 1), .slice t0 (atT ts j).reads.length t1, .slice t2 (atT ts j).sets.length t3, .int .i64 (atT ts j).stamp] t0 t2 (tx.mkNotes (kj + 1 + 1 + 1 + 1) (atT ts j).reads.length) (atT ts j).sets PR PS ∧ wr.heap.size ≤ w1.heap.size) := ⟨S1.out.1.step hlt k1 HG.out.1 HG.out.2.2.2.1 o1 (S1.out.1.s.keep k1.size (fun q hq hp => k1.block q hq (fun e => HG.out.2.2.1 q e hp))), Nat.le_trans S1.out.2 k1.size⟩
      clear k1 o1 S1 d0 f0 d1 f1 d2 f2 d3 f3 e4
      have e5 : w1.cell? ⟨b, j * 7 + 5, none⟩ = some (.slice t2 (atT ts j).sets.length t3) := R1.out.1.at_ 5 _ rfl
      go_wp2_with fail
      refine (tx.markSe w1 PS t2 t3 (atT ts j).sets _ (by omega) (by omega) HT.out.2 R1.out.1.s).mono ?_
      rintro e w2 ⟨rfl, k2, o2⟩
      have k2 := kp_of k2
      have R2 : Hid (TRn w w2 B b ts g P (mkTi ts k) j [.int .i64 kj, .int .i64 (kj + 1), .int .i64 (kj + 1 + 1), .int .i64 (kj + 1 + 1 + 1), .slice t0 (atT ts j).reads.length t1, .slice t2 (atT ts j).sets.length t3, .int .i64 (atT ts j).stamp] t0 t2 (tx.mkNotes (kj + 1 + 1 + 1 + 1) (atT ts j).reads.length) (tx.mkSets (kj + 1 + 1 + 1 + 1 + 5 * ((atT ts j).reads.length : Int)) (atT ts j).sets.length) PR PS ∧ wr.heap.size ≤ w2.heap.size) := ⟨R1.out.1.step hlt k2 HG.out.2.1 HG.out.2.2.2.1 (R1.out.1.r.keep k2.size (fun q hq hp => k2.block q hq (fun e => HG.out.2.2.1 q hp e))) o2, Nat.le_trans R1.out.2 k2.size⟩
      clear k2 o2 R1 e5
      obtain ⟨z6, d6, f6⟩ : ∃ v, w2.cell? ⟨b, j * 7 + 6, none⟩ = some v ∧ w2.frozen? ⟨b, j * 7 + 6, none⟩ = false := R2.out.1.rest.rm (j * 7 + 6) (show _ < ts.length * 7 by omega)
      have R3 : Hid (∀ Y, Y = w2.setCell ⟨b, j * 7 + 6, none⟩ (.int .i64 (kj + 1 + 1 + 1 + 1 + 5 * ((atT ts j).reads.length : Int) + 5 * ((atT ts j).sets.length : Int))) → KTk.Rest Y B b ts.length ts g (j + 1) ∧ KeptP P w Y ∧ KTk.Done Y B b ts g (mkTi ts k) (j + 1)) := fun Y hY => by
        have R0 := R2.out.1.put hlt H.out.2.2.1 HG.out.1 HG.out.2.1 6 (by simp) (by omega) (.int .i64 (kj + 1 + 1 + 1 + 1 + 5 * ((atT ts j).reads.length : Int) + 5 * ((atT ts j).sets.length : Int)))
        rw [← hY] at R0
        obtain ⟨h1, h2, h3, h4, h5, h6, h7⟩ := HG.out
        have hsz : wr.heap.size ≤ Y.heap.size := by rw [hY]; simpa [World.setCell] using R2.out.2
        refine ⟨R0.rest, R0.kp, R0.done.step ⟨t0, t1, t2, t3⟩ ?_ ?_⟩
        · rw [HI.out]
          have := R0.at_
          simpa [KTk, mkTk, tx.mkNotes_len, tx.mkSets_len] using this
        · rw [HI.out]
          exact ⟨PR, PS, ⟨R0.r, R0.s, h3, fun q hq => ⟨h5 q hq, by have := (h7 q (h1 q hq)).2; omega⟩, fun q hq => ⟨h6 q hq, by have := (h7 q (h2 q hq)).2; omega⟩⟩, fun q hq => by rcases hq with hq | hq; exact h1 q hq; exact h2 q hq, fun q hq => ⟨(h7 q hq).1, by have := (h7 q hq).2; omega⟩⟩
      go_wp2
      exact ⟨⟨j + 1, by omega, by simp, by have := HO.out.1; rw [this]; congr 1; omega, (R3.out _ rfl).2.1, (R3.out _ rfl).1, (R3.out _ rfl).2.2⟩, by simp [intOf]; omega⟩
    · obtain rfl : j = ts.length := by omega
      have hd : decide ((ts.length : Int) < (ts.length : Int)) = false := by simp
      have KH : Hid (KeptP P w wr ∧ KTk.Part wr B b ts.length (mkTs ts k) g) := ⟨hkp, hdn.part hrs⟩
      clear hkp hrs hdn
      go_wp2
      go_ret
      exact ⟨rfl, KH.out.1, KH.out.2⟩
set_option maxRecDepth 100000 in
set_option maxHeartbeats 4000000 in
theorem heldTn (w : World) (a : Option Addr) (cap : Nat) (ts : List tx.T7) (k : Int) (hk : 0 ≤ k) (hk' : k + (offG cT ts ts.length : Int) ≤ 100000000) (hn : ts.length ≤ 1048576) (ht : ∀ t ∈ ts, KT.S t) (h : KTk.RdS w a (mkTs ts k)) :
    Calls Tryz.prog 49 #[.slice a ts.length cap, .int .i64 k] w fun e w' => e = .returned (.int .i64 (k + (offG cT ts ts.length : Int))) ∧ Below w.heap.size w w' := by
  have H : Hid ((∀ t ∈ ts, KT.S t) ∧ KTk.RdS w a (mkTs ts k)) := ⟨ht, h⟩
  clear ht h
  go_enter Tryz.func49, Tryz.ntmps49
  go_wp2
  go_loopw [1, 5] (fun v1 v5 wr => ∃ j : Nat, j ≤ ts.length ∧ v5 = .int .i64 j ∧ v1 = .int .i64 (k + (offG cT ts j : Int)) ∧ Below w.heap.size w wr) (fun _ v5 _ => ts.length - (intOf v5).toNat)
  case atStart => exact ⟨0, Nat.zero_le _, rfl, by rw [offG_zero]; simp, Below.refl _ _⟩
  case round =>
    obtain ⟨j, hj, rfl, rfl, hbl⟩ := hrel
    have hb2 := offG_le cT ts j
    by_cases hlt : j < ts.length
    · have hd := atT_of hlt
      have hrd := H.out.2.later hbl
      rcases hrd with h0 | ⟨b, off, rfl, hb, hrd⟩
      · have := mkTs_len ts k; rw [h0] at this; simp at this; omega
      obtain ⟨⟨t0, t1, t2, t3⟩, hat, how⟩ := hrd j _ (mkTs_at hlt)
      have e0 : wr.cell? ⟨b, off + j * 7, none⟩ = some (.int .i64 (k + (offG cT ts j : Int))) := hat 0 _ rfl
      have e1 : wr.cell? ⟨b, off + j * 7 + 1, none⟩ = some (.int .i64 (k + (offG cT ts j : Int) + 1)) := hat 1 _ rfl
      have e2 : wr.cell? ⟨b, off + j * 7 + 2, none⟩ = some (.int .i64 (k + (offG cT ts j : Int) + 1 + 1)) := hat 2 _ rfl
      have e3 : wr.cell? ⟨b, off + j * 7 + 3, none⟩ = some (.int .i64 (k + (offG cT ts j : Int) + 1 + 1 + 1)) := hat 3 _ rfl
      have e4 : wr.cell? ⟨b, off + j * 7 + 4, none⟩ = some (.slice t0 (mkTi ts k j).reads.length t1) := hat 4 _ rfl
      have e5 : wr.cell? ⟨b, off + j * 7 + 5, none⟩ = some (.slice t2 (mkTi ts k j).sets.length t3) := hat 5 _ rfl
      have e6 : wr.cell? ⟨b, off + j * 7 + 6, none⟩ = some (.int .i64 (k + (offG cT ts j : Int) + 1 + 1 + 1 + 1 + 5 * ((atT ts j).reads.length : Int) + 5 * ((atT ts j).sets.length : Int))) := hat 6 _ rfl
      have l1 : (mkTi ts k j).reads.length = (atT ts j).reads.length := tx.mkNotes_len _ _
      have l2 : (mkTi ts k j).sets.length = (atT ts j).sets.length := tx.mkSets_len _ _
      rw [l1] at e4
      rw [l2] at e5
      obtain ⟨sr, ss⟩ := how
      simp only at sr ss
      rw [l1] at sr
      rw [l2] at ss
      have hT := H.out.1 _ (List.mem_of_getElem? hd)
      have hoff : offG cT ts (j + 1) = offG cT ts j + cT (atT ts j) := offG_succ cT hd
      have hle := offG_le cT ts (j + 1)
      have HO : Hid (offG cT ts (j + 1) = offG cT ts j + (5 + (5 * (atT ts j).reads.length + 5 * (atT ts j).sets.length)) ∧ k + (offG cT ts (j + 1) : Int) ≤ 100000000) := ⟨hoff, by omega⟩
      have S : Hid (Below w.heap.size w wr ∧ tx.SlNo wr wr.heap.size t0 (atT ts j).reads.length (tx.mkNotes (k + (offG cT ts j : Int) + 1 + 1 + 1 + 1) (atT ts j).reads.length) ∧ tx.Sl wr wr.heap.size t2 (atT ts j).sets.length (tx.mkSets (k + (offG cT ts j : Int) + 1 + 1 + 1 + 1 + 5 * ((atT ts j).reads.length : Int)) (atT ts j).sets.length) ∧ b < wr.heap.size) := ⟨hbl, sr, ss, hb⟩
      have HT : Hid (KT.S (atT ts j)) := hT
      have jn : (j : Int) < (ts.length : Int) := by omega
      have g0 : 0 ≤ k + (offG cT ts j : Int) := by omega
      have g1 : k + (offG cT ts j : Int) ≤ 100000000 := by omega
      clear hbl hrd hat sr ss hd hoff hle hT hb l1 l2 hb2
      have tr := HT.out.1
      have ts' := HT.out.2
      generalize hK : k + (offG cT ts j : Int) = kj at *
      have x0 : (kj != kj) = false := by simp
      have x1 : (kj + 1 != kj + 1) = false := by simp
      have x2 : (kj + 1 + 1 != kj + 1 + 1) = false := by simp
      have x3 : (kj + 1 + 1 + 1 != kj + 1 + 1 + 1) = false := by simp
      have d1 : decide (kj + 1 + 1 + 1 + 1 + 5 * ((atT ts j).reads.length : Int) < 0) = false := by simp; omega
      have d2 : decide (kj + 1 + 1 + 1 + 1 + 5 * ((atT ts j).reads.length : Int) + 5 * ((atT ts j).sets.length : Int) < 0) = false := by simp; omega
      have x6 : (kj + 1 + 1 + 1 + 1 + 5 * ((atT ts j).reads.length : Int) + 5 * ((atT ts j).sets.length : Int) != kj + 1 + 1 + 1 + 1 + 5 * ((atT ts j).reads.length : Int) + 5 * ((atT ts j).sets.length : Int)) = false := by simp
      go_wp2_with fail
      refine (tx.heldNoteS_k wr t0 (atT ts j).reads.length t1 _ HT.out.1 (by omega) (by omega) S.out.2.1).mono ?_
      rintro e w1 ⟨rfl, rfl⟩
      go_wp2_with fail
      refine (tx.heldSetS_k w1 t2 (atT ts j).sets.length t3 _ HT.out.2 (by omega) (by omega) S.out.2.2.1).mono ?_
      rintro e w2 ⟨rfl, rfl⟩
      go_wp2
      exact ⟨⟨j + 1, by omega, by simp, by have := HO.out.1; rw [this]; congr 1; omega, S.out.1⟩, by simp [intOf]; omega⟩
    · obtain rfl : j = ts.length := by omega
      have hd : decide ((ts.length : Int) < (ts.length : Int)) = false := by simp
      have KH : Hid (Below w.heap.size w wr) := hbl
      clear hbl
      go_wp2
      go_ret
      exact ⟨rfl, KH.out⟩
end Go.Proofs.YtnhjgomfkfehgaaGreatDoor
namespace Go.Proofs.YtnhjgomfkfehgaaGreatDoor
open Go.RowKit
def markAt (zss : List (List Int)) (k : Int) (i : Nat) : List Int := marks (atP zss i).length (k + lens (zss.take i))
def markPs (zss : List (List Int)) (k : Int) : List (List Int) := (List.range zss.length).map (markAt zss k)
theorem markPs_len (zss : List (List Int)) (k : Int) : (markPs zss k).length = zss.length := by simp [markPs]
theorem markPs_at {zss : List (List Int)} {k : Int} {i : Nat} {zs : List Int} (h : (markPs zss k)[i]? = some zs) : i < zss.length ∧ zs = markAt zss k i := by
  have hi : i < zss.length := by have := (List.getElem?_eq_some_iff.1 h).1; rw [markPs_len] at this; exact this
  refine ⟨hi, ?_⟩
  simp [markPs, hi] at h
  exact h.symm
theorem markAt_len (zss : List (List Int)) (k : Int) (i : Nat) : (markAt zss k i).length = (atP zss i).length := by rw [markAt, marks_len]
structure Kept (g : Nat → Nat) (n : Nat) (w w' : World) : Prop where
  os : w'.os = w.os
  tape : w'.tape = w.tape
  output : w'.output = w.output
  size : w'.heap.size = w.heap.size
  block : ∀ q, (∀ i, i < n → q ≠ g i) → w'.heap[q]? = w.heap[q]?
theorem Kept.refl (g : Nat → Nat) (n : Nat) (w : World) : Kept g n w w := ⟨rfl, rfl, rfl, rfl, fun _ _ => rfl⟩
theorem Kept.only {g : Nat → Nat} {n i : Nat} {a w w' : World} (h : Kept g n a w) (hi : i < n) (ho : OnlyBlock (g i) w w') : Kept g n a w' :=
  ⟨ho.os.trans h.os, ho.tape.trans h.tape, ho.output.trans h.output, ho.size.trans h.size, fun q hq => (ho.block q (hq i hi)).trans (h.block q hq)⟩
theorem Kept.below {g : Nat → Nat} {n B : Nat} {w w' : World} (h : Kept g n w w') (hg : ∀ i, i < n → B ≤ g i) : Below B w w' :=
  ⟨h.os, h.tape, h.output, Nat.le_of_eq h.size.symm, fun k hk => h.block k (fun i hi e => by have := hg i hi; omega)⟩
set_option maxHeartbeats 2000000 in
theorem markPlaceS_own (w : World) (base b n cap : Nat) (zss : List (List Int)) (g : Nat → Nat) (k : Int) (hn : n ≤ 1048576) (hl : lens zss ≤ 1048576) (hk : 0 ≤ k) (hk' : k ≤ 100000000) (h : OwnP w base b n zss g) :
    Calls Tryz.prog 44 #[.slice (some ⟨b, 0, none⟩) n cap, .int .i64 k] w fun e w' => e = .returned (.int .i64 (k + lens zss)) ∧ Kept g n w w' ∧ OwnP w' base b n (markPs zss k) g := by
  have hlen := h.len
  have HO : Hid (OwnP w base b n zss g) := h
  clear h
  go_enter Tryz.func44, Tryz.ntmps44
  go_wp2
  go_loopw [1, 5] (fun v1 v5 wr => ∃ j : Nat, j ≤ n ∧ v5 = .int .i64 j ∧ v1 = .int .i64 (k + lens (zss.take j)) ∧ Kept g n w wr ∧ (∀ i, i < j → NumsAt wr (g i) 0 (markAt zss k i)) ∧ (∀ i, i < n → Room wr (g i) (atP zss i).length)) (fun _ v5 _ => n - (intOf v5).toNat)
  case atStart => exact ⟨0, Nat.zero_le _, rfl, by simp [lens], Kept.refl _ _ _, fun i hi => by omega, fun i hi => HO.out.room i _ (atP_of (by omega))⟩
  case round =>
    obtain ⟨j, hj, rfl, rfl, hkp, hnu, hro⟩ := hrel
    have hle := lens_take_le zss j
    by_cases hlt : j < n
    · obtain ⟨cp, hc, _⟩ := HO.out.cell j _ (atP_of (by omega))
      have c := (World.cell?_of_block (a := ⟨b, j, none⟩) (hkp.block b (fun i hi e => HO.out.ne i hi e.symm))).trans hc
      have hst := lens_take_succ (zss := zss) (j := j) (by omega)
      have hle' := lens_take_le zss (j + 1)
      have hcl := markInt64S_own wr (g j) (atP zss j).length cp (k + lens (zss.take j)) (by omega) (by omega) (by omega) (hro j hlt)
      have K : Hid (Kept g n w wr ∧ (∀ i, i < j → NumsAt wr (g i) 0 (markAt zss k i)) ∧ (∀ i, i < n → Room wr (g i) (atP zss i).length)) := ⟨hkp, hnu, hro⟩
      clear hkp hnu hro hc
      go_wp2_with fail
      refine hcl.mono ?_
      clear hcl
      rintro e w1 ⟨rfl, ho, hn1, hr1⟩
      have K1 : Hid (OnlyBlock (g j) wr w1 ∧ NumsAt w1 (g j) 0 (markAt zss k j) ∧ Room w1 (g j) (atP zss j).length) := ⟨ho, hn1, hr1⟩
      clear ho hn1 hr1
      go_wp2
      obtain ⟨hkp, hnu, hro⟩ := K.out
      obtain ⟨ho, hn1, hr1⟩ := K1.out
      refine ⟨⟨j + 1, by omega, by simp, by rw [hst]; simp; omega, hkp.only hlt ho, fun i hi => ?_, fun i hi => ?_⟩, by simp [intOf]; omega⟩
      · by_cases e : i = j
        · subst e; exact hn1
        · exact (hnu i (by omega)).of_block (ho.block _ (fun e' => e (HO.out.inj i j (by omega) hlt e')))
      · by_cases e : i = j
        · subst e; exact hr1
        · exact (hro i hi).of_block (ho.block _ (fun e' => e (HO.out.inj i j hi hlt e')))
    · have : j = n := by omega
      subst this
      have hd : decide ((j : Int) < (j : Int)) = false := by simp
      rw [show zss.take j = zss from List.take_of_length_le (by omega)]
      have K : Hid (Kept g j w wr ∧ (∀ i, i < j → NumsAt wr (g i) 0 (markAt zss k i)) ∧ (∀ i, i < j → Room wr (g i) (atP zss i).length)) := ⟨hkp, hnu, hro⟩
      clear hkp hnu hro hle
      go_wp2
      go_ret
      obtain ⟨hkp, hnu, hro⟩ := K.out
      refine ⟨rfl, hkp, ⟨by rw [markPs_len]; exact hlen, fun i zs e => ?_, HO.out.low, fun i hi => by rw [hkp.size]; exact HO.out.lt i hi, HO.out.ne, fun i zs e => ?_, fun i zs e => ?_, HO.out.inj⟩⟩
      · obtain ⟨hi, rfl⟩ := markPs_at e
        obtain ⟨cp, hc, hcp⟩ := HO.out.cell i _ (atP_of hi)
        exact ⟨cp, by rw [markAt_len]; exact (World.cell?_of_block (a := ⟨b, i, none⟩) (hkp.block b (fun i hi e => HO.out.ne i hi e.symm))).trans hc, by rw [markAt_len]; exact hcp⟩
      · obtain ⟨hi, rfl⟩ := markPs_at e
        exact hnu i (by omega)
      · obtain ⟨hi, rfl⟩ := markPs_at e
        rw [markAt_len]; exact hro i (by omega)
theorem markPlaceS_nil (w : World) (cap : Nat) (k : Int) : Calls Tryz.prog 44 #[.slice none 0 cap, .int .i64 k] w fun e w' => e = .returned (.int .i64 k) ∧ w' = w := by
  go_enter Tryz.func44, Tryz.ntmps44
  go_wp2
  go_loop [1, 5] (fun v1 v5 => v5 = .int .i64 0 ∧ v1 = .int .i64 k) (fun _ _ => 0)
  case atStart => exact ⟨rfl, rfl⟩
  case round =>
    obtain ⟨rfl, rfl⟩ := hrel
    go_wp2
    go_ret
    exact ⟨rfl, rfl⟩
theorem markPlaceS_q (w : World) (base : Nat) (a : Option Addr) (n cap : Nat) (zss : List (List Int)) (g : Nat → Nat) (k : Int) (hn : n ≤ 1048576) (hl : lens zss ≤ 1048576) (hk : 0 ≤ k) (hk' : k ≤ 100000000) (h : OwnQ w base a n zss g) :
    Calls Tryz.prog 44 #[.slice a n cap, .int .i64 k] w fun e w' => e = .returned (.int .i64 (k + lens zss)) ∧ Kept g n w w' ∧ OwnQ w' base a n (markPs zss k) g := by
  rcases h with ⟨rfl, rfl, rfl⟩ | ⟨b, rfl, hb1, hb2, ho⟩
  · refine (markPlaceS_nil w cap k).mono ?_
    rintro e w' ⟨rfl, rfl⟩
    exact ⟨by simp [lens], Kept.refl _ _ _, .inl ⟨rfl, rfl, rfl⟩⟩
  · refine (markPlaceS_own w base b n cap zss g k hn hl hk hk' ho).mono ?_
    rintro e w' ⟨rfl, kp, o⟩
    exact ⟨rfl, kp, .inr ⟨b, rfl, hb1, by rw [kp.size]; exact hb2, o⟩⟩
set_option maxHeartbeats 2000000 in
theorem heldPlaceS_any (w : World) (a : Option Addr) (n cap : Nat) (zss : List (List Int)) (k : Int) (hn : n ≤ 1048576) (hl : lens zss ≤ 1048576) (hk : 0 ≤ k) (hk' : k ≤ 100000000) (hs : SlP w w.heap.size a n (markPs zss k)) :
    Calls Tryz.prog 47 #[.slice a n cap, .int .i64 k] w fun e w' => e = .returned (.int .i64 (k + lens zss)) ∧ w' = w := by
  obtain ⟨hx, hs⟩ := hs
  rw [markPs_len] at hx
  go_enter Tryz.func47, Tryz.ntmps47
  go_wp2
  go_loop [1, 5] (fun v1 v5 => ∃ j : Nat, j ≤ n ∧ v5 = .int .i64 j ∧ v1 = .int .i64 (k + lens (zss.take j))) (fun _ v5 => n - (intOf v5).toNat)
  case atStart => exact ⟨0, Nat.zero_le _, rfl, by simp [lens]⟩
  case round =>
    obtain ⟨j, hj, rfl, rfl⟩ := hrel
    have hle := lens_take_le zss j
    by_cases hlt : j < n
    · rcases hs with hs | ⟨b, off, rfl, hb, h1⟩
      · omega
      · have hm : (markPs zss k)[j]? = some (markAt zss k j) := by simp [markPs, show j < zss.length by omega]
        obtain ⟨a', cp, c, hsl, _⟩ := h1 j _ hm
        rw [markAt_len] at c hsl
        have hst := lens_take_succ (zss := zss) (j := j) (by omega)
        have hle' := lens_take_le zss (j + 1)
        have hcl := heldInt64S_any w a' (atP zss j).length cp (k + lens (zss.take j)) (by omega) (by omega) (by omega) hsl
        have d0 : decide (k + (lens (zss.take j) : Int) + ((atP zss j).length : Int) < 0) = false := by simp; omega
        clear h1 hm hsl
        go_wp2_with fail
        refine hcl.mono ?_
        clear hcl
        rintro e w1 ⟨rfl, rfl⟩
        go_wp2
        exact ⟨⟨j + 1, by omega, by simp, by rw [hst]; simp; omega⟩, by simp [intOf]; omega⟩
    · have : j = n := by omega
      subst this
      have hd : decide ((j : Int) < (j : Int)) = false := by simp
      rw [show zss.take j = zss from List.take_of_length_le (by omega)]
      clear hs hle
      go_wp2
      go_ret
      exact ⟨rfl, rfl⟩
end Go.Proofs.YtnhjgomfkfehgaaGreatDoor
namespace Go.Proofs.YtnhjgomfkfehgaaGreatDoor
open Go.RowKit
open Go.Sort (grow)
set_option maxHeartbeats 1000000 in
theorem markMS_nil (w : World) (a : Option Addr) (cap : Nat) (k : Int) : Calls Tryz.prog 45 #[.slice a 0 cap, .int .i64 k] w fun e w' => e = .returned (.int .i64 k) ∧ w' = w := by
  go_enter Tryz.func45, Tryz.ntmps45
  go_wp2
  go_loop [1, 5] (fun v1 v5 => v1 = .int .i64 k ∧ v5 = .int .i64 0) (fun _ _ => 0)
  case atStart => exact ⟨rfl, rfl⟩
  case round =>
    obtain ⟨rfl, rfl⟩ := hrel
    go_wp2
    go_ret
    exact ⟨rfl, rfl⟩
theorem markMS_own (w : World) (B : Nat) (a : Option Addr) (cap : Nat) (xs : List M4) (P : Nat → Prop) (k : Int) (hk : 0 ≤ k) (hk' : k + (offG cM xs xs.length : Int) ≤ 100000000) (hn : xs.length ≤ 1048576) (ht : ∀ m ∈ xs, MT m) (h : KMk.OwS w B a xs P) :
    Calls Tryz.prog 45 #[.slice a xs.length cap, .int .i64 k] w fun e w' => e = .returned (.int .i64 (k + (offG cM xs xs.length : Int))) ∧ KeptP P w w' := by
  obtain ⟨h, hP⟩ := h
  rcases h with rfl | ⟨b, g, rfl, hp, hpt, hg⟩
  · refine (markMS_nil w a cap k).mono ?_
    rintro e w' ⟨rfl, rfl⟩
    exact ⟨by simp [offG], KeptP.refl _ _⟩
  · exact markMs w B b cap xs g P k hk hk' hn ht (hP b hp).2 hp hg hpt
set_option maxHeartbeats 1000000 in
theorem markTS_nil (w : World) (a : Option Addr) (cap : Nat) (k : Int) : Calls Tryz.prog 46 #[.slice a 0 cap, .int .i64 k] w fun e w' => e = .returned (.int .i64 k) ∧ w' = w := by
  go_enter Tryz.func46, Tryz.ntmps46
  go_wp2
  go_loop [1, 5] (fun v1 v5 => v1 = .int .i64 k ∧ v5 = .int .i64 0) (fun _ _ => 0)
  case atStart => exact ⟨rfl, rfl⟩
  case round =>
    obtain ⟨rfl, rfl⟩ := hrel
    go_wp2
    go_ret
    exact ⟨rfl, rfl⟩
theorem markTS_own (w : World) (B : Nat) (a : Option Addr) (cap : Nat) (xs : List tx.T7) (P : Nat → Prop) (k : Int) (hk : 0 ≤ k) (hk' : k + (offG cT xs xs.length : Int) ≤ 100000000) (hn : xs.length ≤ 1048576) (ht : ∀ m ∈ xs, KT.S m) (h : KTk.OwS w B a xs P) :
    Calls Tryz.prog 46 #[.slice a xs.length cap, .int .i64 k] w fun e w' => e = .returned (.int .i64 (k + (offG cT xs xs.length : Int))) ∧ KeptP P w w' := by
  obtain ⟨h, hP⟩ := h
  rcases h with rfl | ⟨b, g, rfl, hp, hpt, hg⟩
  · refine (markTS_nil w a cap k).mono ?_
    rintro e w' ⟨rfl, rfl⟩
    exact ⟨by simp [offG], KeptP.refl _ _⟩
  · exact markTs w B b cap xs g P k hk hk' hn ht (hP b hp).2 hp hg hpt
theorem offG_cap {α : Type} (c l : α → Nat) (a : Nat) (h : ∀ r, c r ≤ a + 5 * l r) (rs : List α) : offG c rs rs.length ≤ a * rs.length + 5 * (rs.map l).sum := by
  unfold offG
  rw [List.take_of_length_le (by simp)]
  induction rs with
  | nil => simp
  | cons r rs ih =>
    have := h r
    simp only [List.map_cons, List.sum_cons, List.length_cons, Nat.mul_add, Nat.mul_one]
    omega
def cC (k : C6) : Nat := lens k.places + offG cM k.machines k.machines.length + offG cT k.txs k.txs.length
theorem cC_le (k : C6) : cC k ≤ 5 * szC k := by
  have h1 := offG_cap cM (fun d => szM d) 1 (fun m => by
    show cM m ≤ 1 + 5 * szM m
    have e1 := off_sum cK (fun k => k.cells.length) 1 2 (fun r => rfl) m.copies
    have e2 := off_sum cR (fun k => k.sets.length) 3 5 (fun r => rfl) m.log
    unfold cM szM lensK lensR
    omega) k.machines
  have h2 := offG_cap cT (fun d => tx.szT d) 5 (fun t => by show cT t ≤ 5 + 5 * tx.szT t; unfold cT tx.szT; omega) k.txs
  unfold cC szC KMS.szs KTS.szs
  omega
def endC (k : C6) (x : Int) : Int := x + (cC k : Int)
set_option maxHeartbeats 4000000 in
theorem KCl.mark (X : World) (B : Nat) (a1 : Option Addr) (c1 : Nat) (a2 : Option Addr) (c2 : Nat) (a3 : Option Addr) (c3 : Nat) (k : C6) (P : Nat → Prop) (x : Int) (hx : 0 ≤ x) (hx' : x ≤ 1000) (hz : szC k ≤ 1048576) (ht : KCl.S k) (h : KCl.Ow X B a1 c1 a2 c2 a3 c3 k P) :
    Calls Tryz.prog 14 #[.agg #[.int .i64 k.config, .int .i64 k.clock, .slice a1 k.places.length c1, .slice a2 k.machines.length c2, .slice a3 k.txs.length c3, .bool k.lost], .int .i64 x] X fun r w' => r = .returned (.int .i64 (endC k x)) ∧ KeptP P X w' := by
  obtain ⟨⟨P1, P2, P3, ⟨⟨g, oq, ob, og⟩, oB⟩, om, ot, s1, s2, s3, d12, d13, d23⟩, hP⟩ := h
  have hcc := cC_le k
  have hC : endC k x = x + (lens k.places : Int) + (offG cM k.machines k.machines.length : Int) + (offG cT k.txs k.txs.length : Int) := by unfold endC cC; push_cast; omega
  have hs1 : lens k.places ≤ 1048576 := by unfold szC at hz; omega
  obtain ⟨W, hW⟩ : ∃ Y, Y = X.alloc (.cells #[.int .i64 k.config, .int .i64 k.clock, .slice a1 k.places.length c1, .slice a2 k.machines.length c2, .slice a3 k.txs.length c3, .bool k.lost] 32) := ⟨_, rfl⟩
  have bW : Below X.heap.size X W := by rw [hW]; exact (Below.refl _ _).alloc (Nat.le_refl _) _
  have FA : Hid (Bx W X.heap.size [.int .i64 k.config, .int .i64 k.clock, .slice a1 k.places.length c1, .slice a2 k.machines.length c2, .slice a3 k.txs.length c3, .bool k.lost]) := by unfold Hid; rw [hW]; exact Bx.made X [.int .i64 k.config, .int .i64 k.clock, .slice a1 k.places.length c1, .slice a2 k.machines.length c2, .slice a3 k.txs.length c3, .bool k.lost] _
  have hc := markPlaceS_q W B a1 k.places.length c1 k.places g x ht.p hs1 hx (by omega) (oq.later bW)
  have H : Hid (KMk.OwS W B a2 k.machines P2 ∧ KTk.OwS W B a3 k.txs P3 ∧ (∀ q, P1 q → P q) ∧ (∀ q, P2 q → P q) ∧ (∀ q, P3 q → P q) ∧ (∀ q, P1 q → ¬ P2 q) ∧ (∀ q, P1 q → ¬ P3 q) ∧ (∀ q, P2 q → ¬ P3 q) ∧ (∀ q, P q → q < X.heap.size) ∧ (∀ i, i < k.places.length → P1 (g i)) ∧ Below X.heap.size X W ∧ KCl.S k) := ⟨om.later bW, ot.later bW, s1, s2, s3, d12, d13, d23, fun q hq => (hP q hq).2, og, bW, ht⟩
  have HE := hidOf hC
  have HL : Hid (x + (lens k.places : Int) + (offG cM k.machines k.machines.length : Int) + (offG cT k.txs k.txs.length : Int) ≤ 100000000) := by unfold Hid; rw [← hC]; unfold endC; omega
  clear oq ob og oB om ot s1 s2 s3 d12 d13 d23 hP hcc hC hz ht bW hs1
  go_enter Tryz.func14, Tryz.ntmps14
  go_wp2_with fail
  rw [← hW]
  clear hW
  refine hc.mono ?_
  clear hc
  rintro e w1 ⟨rfl, kp, -⟩
  obtain ⟨om, ot, s1, s2, s3, d12, d13, d23, hP, og, bW, ht⟩ := H.out
  have k1 : KeptP P1 W w1 := ⟨kp.os, kp.tape, kp.output, Nat.le_of_eq kp.size.symm, fun q _ hn => kp.block q (fun i hi e => hn (e ▸ og i hi))⟩
  have F1 : Hid (Bx w1 X.heap.size [.int .i64 k.config, .int .i64 k.clock, .slice a1 k.places.length c1, .slice a2 k.machines.length c2, .slice a3 k.txs.length c3, .bool k.lost]) := FA.out.of_block (k1.block _ FA.out.2.2 (fun e => by have := hP _ (s1 _ e); omega)) k1.size
  have M1 : Hid (KMk.OwS w1 B a2 k.machines P2 ∧ KTk.OwS w1 B a3 k.txs P3 ∧ KeptP P X w1) := ⟨om.keep k1.size (fun q hq => k1.block q (om.of hq).2 (fun e => d12 q e hq)), ot.keep k1.size (fun q hq => k1.block q (ot.of hq).2 (fun e => d13 q e hq)), (KeptP.of_below bW).trans (k1.mono s1)⟩
  clear om ot s1 s2 s3 d12 d13 d23 hP og bW k1 kp ht
  have p3 := F1.out.1 3 _ rfl
  have l1 := HL.out
  generalize hy : x + (lens k.places : Int) = y at *
  have hy0 : 0 ≤ y := by omega
  go_wp2_with fail
  refine (markMS_own w1 B a2 c2 k.machines P2 y hy0 (by omega) H.out.2.2.2.2.2.2.2.2.2.2.2.m H.out.2.2.2.2.2.2.2.2.2.2.2.ms M1.out.1).mono ?_
  rintro e w2 ⟨rfl, k2⟩
  obtain ⟨om, ot, s1, s2, s3, d12, d13, d23, hP, og, bW, ht⟩ := H.out
  have F2 : Hid (Bx w2 X.heap.size [.int .i64 k.config, .int .i64 k.clock, .slice a1 k.places.length c1, .slice a2 k.machines.length c2, .slice a3 k.txs.length c3, .bool k.lost]) := F1.out.of_block (k2.block _ F1.out.2.2 (fun e => by have := hP _ (s2 _ e); omega)) k2.size
  have M2 : Hid (KTk.OwS w2 B a3 k.txs P3 ∧ KeptP P X w2) := ⟨M1.out.2.1.keep k2.size (fun q hq => k2.block q (M1.out.2.1.of hq).2 (fun e => d23 q e hq)), M1.out.2.2.trans (k2.mono s2)⟩
  clear om ot s1 s2 s3 d12 d13 d23 hP og bW k2 ht p3
  have p4 := F2.out.1 4 _ rfl
  generalize hz : y + (offG cM k.machines k.machines.length : Int) = z at *
  have hz0 : 0 ≤ z := by omega
  go_wp2_with fail
  refine (markTS_own w2 B a3 c3 k.txs P3 z hz0 (by omega) H.out.2.2.2.2.2.2.2.2.2.2.2.t H.out.2.2.2.2.2.2.2.2.2.2.2.ts M2.out.1).mono ?_
  rintro e w3 ⟨rfl, k3⟩
  have M3 : Hid (KeptP P X w3) := M2.out.2.trans (k3.mono H.out.2.2.2.2.1)
  clear k3 p4
  go_wp2
  go_ret
  exact ⟨by rw [HE.out]; rfl, M3.out⟩
theorem markMS_ownc (w : World) (B : Nat) (a : Option Addr) (cap : Nat) (xs : List M4) (P : Nat → Prop) (k : Int) (hk : 0 ≤ k) (hk' : k + (offG cM xs xs.length : Int) ≤ 100000000) (hn : xs.length ≤ 1048576) (ht : ∀ m ∈ xs, MT m) (h : KMk.OwS w B a xs P) :
    Calls Tryz.prog 45 #[.slice a xs.length cap, .int .i64 k] w fun e w' => e = .returned (.int .i64 (k + (offG cM xs xs.length : Int))) ∧ KeptP P w w' ∧ KMk.OwS w' B a (mkMs xs k) P := by
  obtain ⟨h, hP⟩ := h
  rcases h with rfl | ⟨b, g, rfl, hp, hpt, hg⟩
  · refine (markMS_nil w a cap k).mono ?_
    rintro e w' ⟨rfl, rfl⟩
    exact ⟨by simp [offG], KeptP.refl _ _, .inl rfl, hP⟩
  · refine (markMn w B b cap xs g P k hk hk' hn ht (hP b hp).2 hp hg hpt).mono ?_
    rintro e w' ⟨rfl, kp, o⟩
    exact ⟨rfl, kp, .inr ⟨b, g, rfl, hp, by rw [mkMs_len]; exact o, by rw [mkMs_len]; exact hg⟩, fun q hq => ⟨(hP q hq).1, Nat.lt_of_lt_of_le (hP q hq).2 kp.size⟩⟩
theorem markTS_ownc (w : World) (B : Nat) (a : Option Addr) (cap : Nat) (xs : List tx.T7) (P : Nat → Prop) (k : Int) (hk : 0 ≤ k) (hk' : k + (offG cT xs xs.length : Int) ≤ 100000000) (hn : xs.length ≤ 1048576) (ht : ∀ m ∈ xs, KT.S m) (h : KTk.OwS w B a xs P) :
    Calls Tryz.prog 46 #[.slice a xs.length cap, .int .i64 k] w fun e w' => e = .returned (.int .i64 (k + (offG cT xs xs.length : Int))) ∧ KeptP P w w' ∧ KTk.OwS w' B a (mkTs xs k) P := by
  obtain ⟨h, hP⟩ := h
  rcases h with rfl | ⟨b, g, rfl, hp, hpt, hg⟩
  · refine (markTS_nil w a cap k).mono ?_
    rintro e w' ⟨rfl, rfl⟩
    exact ⟨by simp [offG], KeptP.refl _ _, .inl rfl, hP⟩
  · refine (markTn w B b cap xs g P k hk hk' hn ht (hP b hp).2 hp hg hpt).mono ?_
    rintro e w' ⟨rfl, kp, o⟩
    exact ⟨rfl, kp, .inr ⟨b, g, rfl, hp, by rw [mkTs_len]; exact o, by rw [mkTs_len]; exact hg⟩, fun q hq => ⟨(hP q hq).1, Nat.lt_of_lt_of_le (hP q hq).2 kp.size⟩⟩
def mkC (k : C6) (x : Int) : C6 := ⟨k.config, k.clock, markPs k.places x, mkMs k.machines (x + (lens k.places : Int)), mkTs k.txs (x + (lens k.places : Int) + (offG cM k.machines k.machines.length : Int)), k.lost⟩
set_option maxHeartbeats 4000000 in
theorem KCl.markc (X : World) (B : Nat) (a1 : Option Addr) (c1 : Nat) (a2 : Option Addr) (c2 : Nat) (a3 : Option Addr) (c3 : Nat) (k : C6) (P : Nat → Prop) (x : Int) (hx : 0 ≤ x) (hx' : x ≤ 1000) (hz : szC k ≤ 1048576) (ht : KCl.S k) (h : KCl.Ow X B a1 c1 a2 c2 a3 c3 k P) :
    Calls Tryz.prog 14 #[.agg #[.int .i64 k.config, .int .i64 k.clock, .slice a1 k.places.length c1, .slice a2 k.machines.length c2, .slice a3 k.txs.length c3, .bool k.lost], .int .i64 x] X fun r w' => r = .returned (.int .i64 (endC k x)) ∧ KeptP P X w' ∧ KCl.Rd w' a1 c1 a2 c2 a3 c3 (mkC k x) := by
  obtain ⟨⟨P1, P2, P3, ⟨⟨g, oq, ob, og⟩, oB⟩, om, ot, s1, s2, s3, d12, d13, d23⟩, hP⟩ := h
  have hcc := cC_le k
  have hC : endC k x = x + (lens k.places : Int) + (offG cM k.machines k.machines.length : Int) + (offG cT k.txs k.txs.length : Int) := by unfold endC cC; push_cast; omega
  have hs1 : lens k.places ≤ 1048576 := by unfold szC at hz; omega
  obtain ⟨W, hW⟩ : ∃ Y, Y = X.alloc (.cells #[.int .i64 k.config, .int .i64 k.clock, .slice a1 k.places.length c1, .slice a2 k.machines.length c2, .slice a3 k.txs.length c3, .bool k.lost] 32) := ⟨_, rfl⟩
  have bW : Below X.heap.size X W := by rw [hW]; exact (Below.refl _ _).alloc (Nat.le_refl _) _
  have FA : Hid (Bx W X.heap.size [.int .i64 k.config, .int .i64 k.clock, .slice a1 k.places.length c1, .slice a2 k.machines.length c2, .slice a3 k.txs.length c3, .bool k.lost]) := by unfold Hid; rw [hW]; exact Bx.made X [.int .i64 k.config, .int .i64 k.clock, .slice a1 k.places.length c1, .slice a2 k.machines.length c2, .slice a3 k.txs.length c3, .bool k.lost] _
  have hc := markPlaceS_q W B a1 k.places.length c1 k.places g x ht.p hs1 hx (by omega) (oq.later bW)
  have H : Hid (KMk.OwS W B a2 k.machines P2 ∧ KTk.OwS W B a3 k.txs P3 ∧ (∀ q, P1 q → P q) ∧ (∀ q, P2 q → P q) ∧ (∀ q, P3 q → P q) ∧ (∀ q, P1 q → ¬ P2 q) ∧ (∀ q, P1 q → ¬ P3 q) ∧ (∀ q, P2 q → ¬ P3 q) ∧ (∀ q, P q → q < X.heap.size) ∧ (∀ i, i < k.places.length → P1 (g i)) ∧ Below X.heap.size X W ∧ KCl.S k) := ⟨om.later bW, ot.later bW, s1, s2, s3, d12, d13, d23, fun q hq => (hP q hq).2, og, bW, ht⟩
  have HB : Hid (∀ b, a1 = some ⟨b, 0, none⟩ → P1 b) := ob
  have HE := hidOf hC
  have HL : Hid (x + (lens k.places : Int) + (offG cM k.machines k.machines.length : Int) + (offG cT k.txs k.txs.length : Int) ≤ 100000000) := by unfold Hid; rw [← hC]; unfold endC; omega
  clear oq ob og oB om ot s1 s2 s3 d12 d13 d23 hP hcc hC hz ht bW hs1
  go_enter Tryz.func14, Tryz.ntmps14
  go_wp2_with fail
  rw [← hW]
  clear hW
  refine hc.mono ?_
  clear hc
  rintro e w1 ⟨rfl, kp, oq⟩
  obtain ⟨om, ot, s1, s2, s3, d12, d13, d23, hP, og, bW, ht⟩ := H.out
  have k1 : KeptP P1 W w1 := ⟨kp.os, kp.tape, kp.output, Nat.le_of_eq kp.size.symm, fun q _ hn => kp.block q (fun i hi e => hn (e ▸ og i hi))⟩
  have F1 : Hid (Bx w1 X.heap.size [.int .i64 k.config, .int .i64 k.clock, .slice a1 k.places.length c1, .slice a2 k.machines.length c2, .slice a3 k.txs.length c3, .bool k.lost]) := FA.out.of_block (k1.block _ FA.out.2.2 (fun e => by have := hP _ (s1 _ e); omega)) k1.size
  have O1 : Hid (OwnQ w1 B a1 k.places.length (markPs k.places x) g ∧ X.heap.size ≤ w1.heap.size) := ⟨oq, Nat.le_trans bW.size k1.size⟩
  have M1 : Hid (KMk.OwS w1 B a2 k.machines P2 ∧ KTk.OwS w1 B a3 k.txs P3 ∧ KeptP P X w1) := ⟨om.keep k1.size (fun q hq => k1.block q (om.of hq).2 (fun e => d12 q e hq)), ot.keep k1.size (fun q hq => k1.block q (ot.of hq).2 (fun e => d13 q e hq)), (KeptP.of_below bW).trans (k1.mono s1)⟩
  clear om ot s1 s2 s3 d12 d13 d23 hP og bW k1 kp ht oq
  have p3 := F1.out.1 3 _ rfl
  have l1 := HL.out
  have HM : Hid (mkC k x = ⟨k.config, k.clock, markPs k.places x, mkMs k.machines (x + (lens k.places : Int)), mkTs k.txs (x + (lens k.places : Int) + (offG cM k.machines k.machines.length : Int)), k.lost⟩) := rfl
  generalize hy : x + (lens k.places : Int) = y at *
  have hy0 : 0 ≤ y := by omega
  go_wp2_with fail
  refine (markMS_ownc w1 B a2 c2 k.machines P2 y hy0 (by omega) H.out.2.2.2.2.2.2.2.2.2.2.2.m H.out.2.2.2.2.2.2.2.2.2.2.2.ms M1.out.1).mono ?_
  rintro e w2 ⟨rfl, k2, om2⟩
  obtain ⟨om, ot, s1, s2, s3, d12, d13, d23, hP, og, bW, ht⟩ := H.out
  have F2 : Hid (Bx w2 X.heap.size [.int .i64 k.config, .int .i64 k.clock, .slice a1 k.places.length c1, .slice a2 k.machines.length c2, .slice a3 k.txs.length c3, .bool k.lost]) := F1.out.of_block (k2.block _ F1.out.2.2 (fun e => by have := hP _ (s2 _ e); omega)) k2.size
  have O2 : Hid (OwnQ w2 B a1 k.places.length (markPs k.places x) g ∧ X.heap.size ≤ w2.heap.size) := ⟨O1.out.1.kept k2.size (fun b e => k2.block b (by have := hP _ (s1 _ (HB.out b e)); have := O1.out.2; omega) (d12 b (HB.out b e))) (fun i hi => k2.block _ (by have := hP _ (s1 _ (og i hi)); have := O1.out.2; omega) (d12 _ (og i hi))), Nat.le_trans O1.out.2 k2.size⟩
  have M2 : Hid (KTk.OwS w2 B a3 k.txs P3 ∧ KeptP P X w2 ∧ KMk.OwS w2 B a2 (mkMs k.machines y) P2) := ⟨M1.out.2.1.keep k2.size (fun q hq => k2.block q (M1.out.2.1.of hq).2 (fun e => d23 q e hq)), M1.out.2.2.trans (k2.mono s2), om2⟩
  clear om ot s1 s2 s3 d12 d13 d23 hP og bW k2 ht p3 om2 O1
  have p4 := F2.out.1 4 _ rfl
  generalize hz : y + (offG cM k.machines k.machines.length : Int) = z at *
  have hz0 : 0 ≤ z := by omega
  go_wp2_with fail
  refine (markTS_ownc w2 B a3 c3 k.txs P3 z hz0 (by omega) H.out.2.2.2.2.2.2.2.2.2.2.2.t H.out.2.2.2.2.2.2.2.2.2.2.2.ts M2.out.1).mono ?_
  rintro e w3 ⟨rfl, k3, ot3⟩
  have M3 : Hid (KeptP P X w3 ∧ KCl.Rd w3 a1 c1 a2 c2 a3 c3 (mkC k x)) := by
    obtain ⟨om, ot, s1, s2, s3, d12, d13, d23, hP, og, bW, ht⟩ := H.out
    have o3 := O2.out.1.kept k3.size (fun b e => k3.block b (by have := hP _ (s1 _ (HB.out b e)); have := O2.out.2; omega) (d13 b (HB.out b e))) (fun i hi => k3.block _ (by have := hP _ (s1 _ (og i hi)); have := O2.out.2; omega) (d13 _ (og i hi)))
    have m3 := M2.out.2.2.keep k3.size (fun q hq => k3.block q (M2.out.2.2.of hq).2 (d23 q hq))
    refine ⟨M2.out.2.1.trans (k3.mono s3), ?_⟩
    rw [HM.out]
    exact ⟨by rw [markPs_len]; exact o3.sl, m3.sl, ot3.sl⟩
  clear k3 p4 ot3
  go_wp2
  go_ret
  exact ⟨by rw [HE.out]; rfl, M3.out.1, M3.out.2⟩
set_option maxHeartbeats 4000000 in
theorem KCl.held (X : World) (a1 : Option Addr) (c1 : Nat) (a2 : Option Addr) (c2 : Nat) (a3 : Option Addr) (c3 : Nat) (k : C6) (x : Int) (hx : 0 ≤ x) (hx' : x ≤ 1000) (hz : szC k ≤ 1048576) (ht : KCl.S k) (h : KCl.Rd X a1 c1 a2 c2 a3 c3 (mkC k x)) :
    Calls Tryz.prog 15 #[.agg #[.int .i64 k.config, .int .i64 k.clock, .slice a1 k.places.length c1, .slice a2 k.machines.length c2, .slice a3 k.txs.length c3, .bool k.lost], .int .i64 x] X fun r w' => r = .returned (.int .i64 (endC k x)) ∧ Below X.heap.size X w' := by
  have hcc := cC_le k
  have hC : endC k x = x + (lens k.places : Int) + (offG cM k.machines k.machines.length : Int) + (offG cT k.txs k.txs.length : Int) := by unfold endC cC; push_cast; omega
  have hs1 : lens k.places ≤ 1048576 := by unfold szC at hz; omega
  obtain ⟨W, hW⟩ : ∃ Y, Y = X.alloc (.cells #[.int .i64 k.config, .int .i64 k.clock, .slice a1 k.places.length c1, .slice a2 k.machines.length c2, .slice a3 k.txs.length c3, .bool k.lost] 32) := ⟨_, rfl⟩
  have bW : Below X.heap.size X W := by rw [hW]; exact (Below.refl _ _).alloc (Nat.le_refl _) _
  have FA : Bx W X.heap.size [.int .i64 k.config, .int .i64 k.clock, .slice a1 k.places.length c1, .slice a2 k.machines.length c2, .slice a3 k.txs.length c3, .bool k.lost] := by rw [hW]; exact Bx.made X [.int .i64 k.config, .int .i64 k.clock, .slice a1 k.places.length c1, .slice a2 k.machines.length c2, .slice a3 k.txs.length c3, .bool k.lost] _
  have h0 := h.later bW
  have hp := h0.p
  simp only [mkC, markPs_len] at hp
  have hc := heldPlaceS_any W a1 k.places.length c1 k.places x ht.p hs1 hx (by omega) hp
  have HL : Hid (x + (lens k.places : Int) + (offG cM k.machines k.machines.length : Int) + (offG cT k.txs k.txs.length : Int) ≤ 100000000) := by unfold Hid; rw [← hC]; unfold endC; omega
  have H : Hid (KMk.RdS W a2 (mkMs k.machines (x + (lens k.places : Int))) ∧ KTk.RdS W a3 (mkTs k.txs (x + (lens k.places : Int) + (offG cM k.machines k.machines.length : Int))) ∧ Below X.heap.size X W ∧ KCl.S k ∧ Bx W X.heap.size [.int .i64 k.config, .int .i64 k.clock, .slice a1 k.places.length c1, .slice a2 k.machines.length c2, .slice a3 k.txs.length c3, .bool k.lost]) := ⟨h0.m, h0.t, bW, ht, FA⟩
  have HE := hidOf hC
  have p3 := FA.1 3 _ rfl
  have p4 := FA.1 4 _ rfl
  have d1 : decide (x + (lens k.places : Int) < 0) = false := by simp; omega
  have d2 : decide (x + (lens k.places : Int) + (offG cM k.machines k.machines.length : Int) < 0) = false := by simp; omega
  have d3 : decide (x + (lens k.places : Int) + (offG cM k.machines k.machines.length : Int) + (offG cT k.txs k.txs.length : Int) < 0) = false := by simp; omega
  clear h h0 hp hcc hC hz ht bW hs1 FA
  rw [hW] at p3 p4
  go_enter Tryz.func15, Tryz.ntmps15
  go_wp2_with fail
  rw [← hW]
  refine hc.mono ?_
  clear hc
  rintro e w1 ⟨rfl, rfl⟩
  rw [← hW] at p3 p4
  clear hW
  have l1 := HL.out
  generalize hy : x + (lens k.places : Int) = y at *
  have hy0 : 0 ≤ y := by omega
  go_wp2_with fail
  refine (heldMn w1 a2 c2 k.machines y hy0 (by omega) H.out.2.2.2.1.m H.out.2.2.2.1.ms H.out.1).mono ?_
  rintro e w2 ⟨rfl, b2⟩
  have H2 : Hid (KTk.RdS w2 a3 (mkTs k.txs (y + (offG cM k.machines k.machines.length : Int))) ∧ Below X.heap.size X w2 ∧ Bx w2 X.heap.size [.int .i64 k.config, .int .i64 k.clock, .slice a1 k.places.length c1, .slice a2 k.machines.length c2, .slice a3 k.txs.length c3, .bool k.lost]) := ⟨H.out.2.1.later b2, bstep H.out.2.2.1 b2, H.out.2.2.2.2.later b2⟩
  clear b2 p3 p4
  have p4 := H2.out.2.2.1 4 _ rfl
  generalize hz : y + (offG cM k.machines k.machines.length : Int) = z at *
  have hz0 : 0 ≤ z := by omega
  go_wp2_with fail
  refine (heldTn w2 a3 c3 k.txs z hz0 (by omega) H.out.2.2.2.1.t H.out.2.2.2.1.ts H2.out.1).mono ?_
  rintro e w3 ⟨rfl, b3⟩
  have H3 : Hid (Below X.heap.size X w3) := bstep H2.out.2.1 b3
  clear b3 p4
  go_wp2
  go_ret
  exact ⟨by rw [HE.out]; rfl, H3.out⟩
theorem sum_le {α : Type} (f : α → Nat) (c : Nat) : ∀ {l : List α}, (∀ x ∈ l, f x ≤ c) → (l.map f).sum ≤ l.length * c
  | [], _ => by simp
  | a :: l, h => by
    have h1 := h a (by simp)
    have h2 := sum_le f c (l := l) (fun x hx => h x (by simp [hx]))
    simp only [List.map_cons, List.sum_cons, List.length_cons, Nat.succ_mul]
    omega
theorem szM_small {m : M4} (h : MSm m) : szM m ≤ 3000 := by
  have h1 := sum_le (fun c : K2 => c.cells.length) 6 (l := m.copies) (fun c hc => by rw [h.ks c hc]; exact Nat.le_refl _)
  have h2 := sum_le (fun r : R4 => r.sets.length) 12 (l := m.log) (fun c hc => (h.rs c hc).2)
  have := h.k
  have := h.r
  have := h.n
  unfold szM lensK lensR
  omega
theorem szC_small {k : C6} (h : CSm k) : szC k ≤ 100000 := by
  have h1 := sum_le List.length 3 (l := k.places) (fun z hz => (h.ps z hz).2)
  have h2 := sum_le (fun m => szM m) 3000 (l := k.machines) (fun m hm => szM_small (h.ms m hm))
  have h3 := sum_le (fun t => tx.szT t) 24 (l := k.txs) (fun t ht => by have := h.ts t ht; unfold tx.szT; omega)
  have := h.p
  have := h.m
  have := h.t
  unfold szC lens KMS.szs KTS.szs
  omega
theorem begK_sz (k : C6) (y h : Int) (hz : szC k ≤ 1048576) : szC (begK k y h) ≤ 1048576 := by
  unfold begK
  split
  · rename_i h0
    have hk : clusterB k = true := by
      cases hk : clusterB k with
      | true => rfl
      | false => simp [begC, hk] at h0
    have h1 := szC_small (CSm.of hk)
    have h2 : tx.szT (tx.newT y h) = 0 := by unfold tx.newT; split <;> simp [tx.szT, tx.noT]
    unfold szC KTS.szs at h1 ⊢
    simp only [pushTx, List.length_append, List.map_append, List.sum_append, List.map_cons, List.map_nil, List.sum_cons, List.sum_nil, List.length_cons, List.length_nil, h2]
    omega
  · unfold leftC
    split
    · exact hz
    · simp [szC, zC, lens, KMS.szs, KTS.szs]
end Go.Proofs.YtnhjgomfkfehgaaGreatDoor
namespace Go.Proofs.YtnhjgomfkfehgaaGreatDoor.fnExactBegin
open Go.ChangeShapes Go.WideShapes Go.ChangeAt Go.RowKit
theorem own : ownKnob Tryz.prog.godebug = none := by kernel_rfl
theorem laidOut : laidOutB Tryz.prog = true := by kernel_rfl
def Ans (X : World) (N : C6) (o0 : Int) (e : Ending) (w' : World) : Prop := ∃ (ra : Option Addr) (rb : Nat) (rc : Option Addr) (rd : Nat) (re : Option Addr) (rf : Nat) (P : Nat → Prop), e = .returned (.tuple #[.agg #[.int .i64 N.config, .int .i64 N.clock, .slice ra N.places.length rb, .slice rc N.machines.length rd, .slice re N.txs.length rf, .bool N.lost], .int .i64 o0]) ∧ KCl.Ow w' X.heap.size ra rb rc rd re rf N P ∧ Below X.heap.size X w'
def Gx (w X : World) (sv : Value) (bo0 : Value) (N : C6) (o0 : Int) : Prop := ∃ (q : Nat) (ra : Option Addr) (rb : Nat) (rc : Option Addr) (rd : Nat) (re : Option Addr) (rf : Nat) (P : Nat → Prop), sv = .pointer (some ⟨q, 0, none⟩) ∧ bo0 = .int .i64 o0 ∧ Bx X q [.int .i64 N.config, .int .i64 N.clock, .slice ra N.places.length rb, .slice rc N.machines.length rd, .slice re N.txs.length rf, .bool N.lost] ∧ KCl.Ow X w.heap.size ra rb rc rd re rf N P ∧ (∀ x, P x → x ≠ q) ∧ w.heap.size ≤ q ∧ Below w.heap.size w X
set_option maxRecDepth 100000 in
set_option maxHeartbeats 8000000 in
theorem walk_small (w : World) (yka : Option Addr) (ykb : Nat) (ykc : Option Addr) (ykd : Nat) (yke : Option Addr) (ykf : Nat) (k : C6) (y : Int) (h : Int) (lk : KCl.L k) (hk : KCl.Rd w yka ykb ykc ykd yke ykf k) (hG0 : HG w) (hg : szC k ≤ 1048576) :
    Calls Tryz.prog 3 #[.agg #[.int .i64 k.config, .int .i64 k.clock, .slice yka k.places.length ykb, .slice ykc k.machines.length ykd, .slice yke k.txs.length ykf, .bool k.lost], .int .i64 y, .int .i64 h] w fun e w' => e = .returned (.bool true) ∧ Below w.heap.size w w' := by
  have tk : Hid (KCl.S k) := KCl.S.of (by omega)
  obtain ⟨N, hN⟩ : ∃ N, N = begK k y h := ⟨_, rfl⟩
  obtain ⟨o0, ho0⟩ : ∃ z, z = begC k y h := ⟨_, rfl⟩
  have A1 : Hid (∀ (X : World) (yka1 : Option Addr) (ykb1 : Nat) (ykc1 : Option Addr) (ykd1 : Nat) (yke1 : Option Addr) (ykf1 : Nat), KCl.Rd X yka1 ykb1 ykc1 ykd1 yke1 ykf1 k → HG X → Calls Tryz.prog 10 #[.agg #[.int .i64 k.config, .int .i64 k.clock, .slice yka1 k.places.length ykb1, .slice ykc1 k.machines.length ykd1, .slice yke1 k.txs.length ykf1, .bool k.lost], .int .i64 y, .int .i64 h] X (Ans X N o0)) := by
    rw [hN, ho0]
    intro X yka1 ykb1 ykc1 ykd1 yke1 ykf1 h1 _
    exact specBegin_any X yka1 ykb1 ykc1 ykd1 yke1 ykf1 k y h lk h1
  have A2 : Hid (∀ (X : World) (yka1 : Option Addr) (ykb1 : Nat) (ykc1 : Option Addr) (ykd1 : Nat) (yke1 : Option Addr) (ykf1 : Nat), KCl.Rd X yka1 ykb1 ykc1 ykd1 yke1 ykf1 k → HG X → Calls Tryz.prog 12 #[.agg #[.int .i64 k.config, .int .i64 k.clock, .slice yka1 k.places.length ykb1, .slice ykc1 k.machines.length ykd1, .slice yke1 k.txs.length ykf1, .bool k.lost], .int .i64 y, .int .i64 h] X (Ans X N o0)) := by
    rw [hN, ho0]
    intro X yka1 ykb1 ykc1 ykd1 yke1 ykf1 h1 hX
    exact implBegin_any X yka1 ykb1 ykc1 ykd1 yke1 ykf1 k y h lk h1 hX
  have tN : Hid (KCl.S N) := by
    rw [hN]
    exact KCl.S.of (begK_sz k y h (by omega))
  have zN : Hid (szC N ≤ 1048576) := by
    rw [hN]
    exact begK_sz k y h (by omega)
  clear hN ho0
  have do0 : (o0 != o0) = false := by simp
  obtain ⟨U0, hU0⟩ : ∃ X, X = w.alloc (.cells #[.int .i64 k.config, .int .i64 k.clock, .slice yka k.places.length ykb, .slice ykc k.machines.length ykd, .slice yke k.txs.length ykf, .bool k.lost] 26) := ⟨_, rfl⟩
  have bU0 : Below w.heap.size w U0 := by rw [hU0]; exact (Below.refl _ _).alloc (Nat.le_refl _) _
  have xU0 : Bx U0 w.heap.size [.int .i64 k.config, .int .i64 k.clock, .slice yka k.places.length ykb, .slice ykc k.machines.length ykd, .slice yke k.txs.length ykf, .bool k.lost] := by rw [hU0]; exact Bx.made w [.int .i64 k.config, .int .i64 k.clock, .slice yka k.places.length ykb, .slice ykc k.machines.length ykd, .slice yke k.txs.length ykf, .bool k.lost] _
  have zU0 : U0.heap.size = w.heap.size + 1 := by rw [hU0]; simp
  have Fk : Hid (Bx U0 w.heap.size [.int .i64 k.config, .int .i64 k.clock, .slice yka k.places.length ykb, .slice ykc k.machines.length ykd, .slice yke k.txs.length ykf, .bool k.lost]) := xU0
  have Rk : Hid (KCl.Rd U0 yka ykb ykc ykd yke ykf k) := (hk).later bU0
  have Bw : Hid (Below w.heap.size w U0) := bU0
  have HGw : Hid (HG w) := hG0
  clear hG0
  have ZU : Hid (U0.heap.size = w.heap.size + 1) := by unfold Hid; omega
  clear bU0 xU0 zU0 hk
  have B0_U0 : Hid (Below U0.heap.size U0 U0) := Below.refl _ _
  go_enter Tryz.func3, Tryz.ntmps3
  have hbx := (Fk.out.later B0_U0.out)
  have p0 := hbx.1 0 _ rfl
  have p1 := hbx.1 1 _ rfl
  have p2 := hbx.1 2 _ rfl
  have p3 := hbx.1 3 _ rfl
  have p4 := hbx.1 4 _ rfl
  have p5 := hbx.1 5 _ rfl
  clear hbx
  rw [hU0] at p0 p1 p2 p3 p4 p5
  go_wp2_with fail
  rw [← hU0]
  clear hU0
  refine (KCl.sz U0 yka ykb ykc ykd yke ykf k lk (Rk.out.later B0_U0.out)).mono ?_
  rw [leftR_yes (by omega)]
  rintro e s1 ⟨rfl, bs1⟩
  clear p0 p1 p2 p3 p4 p5
  have B0_s1 : Hid (Below U0.heap.size U0 s1) := bstep B0_U0.out bs1
  have Zs1 : Hid (U0.heap.size ≤ s1.heap.size) := bs1.size
  clear B0_U0 bs1
  have g0 : decide ((((1048576 - szC k) : Nat) : Int) < 0) = false := by simp
  have hbx := (Fk.out.later B0_s1.out)
  have p0 := hbx.1 0 _ rfl
  have p1 := hbx.1 1 _ rfl
  have p2 := hbx.1 2 _ rfl
  have p3 := hbx.1 3 _ rfl
  have p4 := hbx.1 4 _ rfl
  have p5 := hbx.1 5 _ rfl
  clear hbx
  go_wp2_with fail
  refine (KCl.to s1 yka ykb ykc ykd yke ykf k tk.out (Rk.out.later B0_s1.out)).mono ?_
  rintro e t2 ⟨yka2, ykb2, ykc2, ykd2, yke2, ykf2, _, rfl, oT, bt2⟩
  have rbk := hidOf oT.sl
  clear oT p0 p1 p2 p3 p4 p5
  have B0_t2 : Hid (Below U0.heap.size U0 t2) := bstep B0_s1.out bt2
  have Zt2 : Hid (s1.heap.size ≤ t2.heap.size) := bt2.size
  clear B0_s1 bt2
  go_wp2_with fail
  refine (A1.out t2 yka2 ykb2 ykc2 ykd2 yke2 ykf2 rbk.out ((HGw.out.later Bw.out).later B0_t2.out)).mono ?_
  rintro e t3 ⟨nw0, nw1, nw2, nw3, nw4, nw5, Pw, rfl, ow, bt3⟩
  clear rbk
  obtain ⟨vw, hvw⟩ : ∃ X, X = t3.alloc (.cells #[.int .i64 N.config, .int .i64 N.clock, .slice nw0 N.places.length nw1, .slice nw2 N.machines.length nw3, .slice nw4 N.txs.length nw5, .bool N.lost] 32) := ⟨_, rfl⟩
  have bvw : Below t3.heap.size t3 vw := by rw [hvw]; exact (Below.refl _ _).alloc (Nat.le_refl _) _
  have Fw : Hid (Bx vw t3.heap.size [.int .i64 N.config, .int .i64 N.clock, .slice nw0 N.places.length nw1, .slice nw2 N.machines.length nw3, .slice nw4 N.txs.length nw5, .bool N.lost]) := by rw [hvw]; exact Bx.made t3 [.int .i64 N.config, .int .i64 N.clock, .slice nw0 N.places.length nw1, .slice nw2 N.machines.length nw3, .slice nw4 N.txs.length nw5, .bool N.lost] _
  have Ow : Hid (KCl.Ow vw t2.heap.size nw0 nw1 nw2 nw3 nw4 nw5 N Pw) := ow.later bvw
  have NEw : Hid (∀ x, Pw x → x ≠ t3.heap.size) := fun x hx => by have := (ow.of hx).2; omega
  obtain ⟨qw, hqw⟩ : ∃ q, q = t3.heap.size := ⟨_, rfl⟩
  have bb : Below t2.heap.size t2 vw := bstep bt3 bvw
  have Lw : Hid (t2.heap.size ≤ t3.heap.size) := bt3.size
  clear ow bt3 bvw hqw qw
  have B0_vw : Hid (Below U0.heap.size U0 vw) := bstep B0_t2.out bb
  have Zvw : Hid (t2.heap.size ≤ vw.heap.size) := bb.size
  clear B0_t2 bb
  have B3_vw : Hid (Below vw.heap.size vw vw) := Below.refl _ _
  have hbx := (Fk.out.later B0_vw.out)
  have p0 := hbx.1 0 _ rfl
  have p1 := hbx.1 1 _ rfl
  have p2 := hbx.1 2 _ rfl
  have p3 := hbx.1 3 _ rfl
  have p4 := hbx.1 4 _ rfl
  have p5 := hbx.1 5 _ rfl
  clear hbx
  rw [hvw] at p0 p1 p2 p3 p4 p5
  go_wp2_with fail
  rw [← hvw]
  clear hvw
  refine (KCl.to vw yka ykb ykc ykd yke ykf k tk.out (Rk.out.later B0_vw.out)).mono ?_
  rintro e t4 ⟨yka3, ykb3, ykc3, ykd3, yke3, ykf3, Xk, rfl, ox, bt4⟩
  clear p0 p1 p2 p3 p4 p5
  obtain ⟨xk, hxk⟩ : ∃ X, X = t4.alloc (.cells #[.int .i64 k.config, .int .i64 k.clock, .slice yka3 k.places.length ykb3, .slice ykc3 k.machines.length ykd3, .slice yke3 k.txs.length ykf3, .bool k.lost] 32) := ⟨_, rfl⟩
  have bxk : Below t4.heap.size t4 xk := by rw [hxk]; exact (Below.refl _ _).alloc (Nat.le_refl _) _
  have Fxk : Hid (Bx xk t4.heap.size [.int .i64 k.config, .int .i64 k.clock, .slice yka3 k.places.length ykb3, .slice ykc3 k.machines.length ykd3, .slice yke3 k.txs.length ykf3, .bool k.lost]) := by rw [hxk]; exact Bx.made t4 [.int .i64 k.config, .int .i64 k.clock, .slice yka3 k.places.length ykb3, .slice ykc3 k.machines.length ykd3, .slice yke3 k.txs.length ykf3, .bool k.lost] _
  have Oxk : Hid (KCl.Ow xk vw.heap.size yka3 ykb3 ykc3 ykd3 yke3 ykf3 k Xk) := ox.later bxk
  have Pxk : Hid (∀ q, Xk q → vw.heap.size ≤ q ∧ q < t4.heap.size) := fun q hq => ox.of hq
  have bb : Below vw.heap.size vw xk := bstep bt4 bxk
  have Lxk : Hid (vw.heap.size ≤ t4.heap.size) := bt4.size
  have Mxk : Hid (xk.heap.size = t4.heap.size + 1) := by rw [Hid, hxk]; simp
  clear ox bt4 bxk
  have B0_xk : Hid (Below U0.heap.size U0 xk) := bstep B0_vw.out bb
  have B3_xk : Hid (Below vw.heap.size vw xk) := bstep B3_vw.out bb
  have Zxk : Hid (vw.heap.size ≤ xk.heap.size) := bb.size
  clear B0_vw B3_vw bb
  have Bxk_xk : Hid (Below xk.heap.size xk xk) := Below.refl _ _
  have B5_xk : Hid (Below xk.heap.size xk xk) := Below.refl _ _
  have Rxk : Hid (KCl.Rd xk yka3 ykb3 ykc3 ykd3 yke3 ykf3 k) := (Oxk.out.later Bxk_xk.out).sl
  have Gxk : Hid (Bx xk t4.heap.size [.int .i64 k.config, .int .i64 k.clock, .slice yka3 k.places.length ykb3, .slice ykc3 k.machines.length ykd3, .slice yke3 k.txs.length ykf3, .bool k.lost]) := Fxk.out.later Bxk_xk.out
  have hbx := (Gxk.out.later B5_xk.out)
  have pk0 := hbx.1 0 _ rfl
  have pk1 := hbx.1 1 _ rfl
  have pk2 := hbx.1 2 _ rfl
  have pk3 := hbx.1 3 _ rfl
  have pk4 := hbx.1 4 _ rfl
  have pk5 := hbx.1 5 _ rfl
  clear hbx
  rw [hxk] at pk0 pk1 pk2 pk3 pk4 pk5
  go_wp2_with fail
  rw [← hxk]
  clear hxk
  refine (A2.out xk yka3 ykb3 ykc3 ykd3 yke3 ykf3 (Rxk.out.later B5_xk.out) ((HGw.out.later Bw.out).later B0_xk.out)).mono ?_
  rintro e t5 ⟨ng0, ng1, ng2, ng3, ng4, ng5, Pg, rfl, og, bt5⟩
  clear pk0 pk1 pk2 pk3 pk4 pk5
  obtain ⟨vg, hvg⟩ : ∃ X, X = t5.alloc (.cells #[.int .i64 N.config, .int .i64 N.clock, .slice ng0 N.places.length ng1, .slice ng2 N.machines.length ng3, .slice ng4 N.txs.length ng5, .bool N.lost] 32) := ⟨_, rfl⟩
  have bvg : Below t5.heap.size t5 vg := by rw [hvg]; exact (Below.refl _ _).alloc (Nat.le_refl _) _
  have Fg : Hid (Bx vg t5.heap.size [.int .i64 N.config, .int .i64 N.clock, .slice ng0 N.places.length ng1, .slice ng2 N.machines.length ng3, .slice ng4 N.txs.length ng5, .bool N.lost]) := by rw [hvg]; exact Bx.made t5 [.int .i64 N.config, .int .i64 N.clock, .slice ng0 N.places.length ng1, .slice ng2 N.machines.length ng3, .slice ng4 N.txs.length ng5, .bool N.lost] _
  have Og : Hid (KCl.Ow vg xk.heap.size ng0 ng1 ng2 ng3 ng4 ng5 N Pg) := og.later bvg
  have NEg : Hid (∀ x, Pg x → x ≠ t5.heap.size) := fun x hx => by have := (og.of hx).2; omega
  obtain ⟨qg, hqg⟩ : ∃ q, q = t5.heap.size := ⟨_, rfl⟩
  have bb : Below xk.heap.size xk vg := bstep bt5 bvg
  have Lg : Hid (xk.heap.size ≤ t5.heap.size) := bt5.size
  clear og bt5 bvg hqg qg
  have B0_vg : Hid (Below U0.heap.size U0 vg) := bstep B0_xk.out bb
  have B3_vg : Hid (Below vw.heap.size vw vg) := bstep B3_xk.out bb
  have Bxk_vg : Hid (Below xk.heap.size xk vg) := bstep Bxk_xk.out bb
  have B5_vg : Hid (Below xk.heap.size xk vg) := bstep B5_xk.out bb
  have Zvg : Hid (xk.heap.size ≤ vg.heap.size) := bb.size
  clear B0_xk B3_xk Bxk_xk B5_xk bb
  have B7_vg : Hid (Below vg.heap.size vg vg) := Below.refl _ _
  have hbx := (Fg.out.later B7_vg.out)
  have g0 := hbx.1 0 _ rfl
  have g1 := hbx.1 1 _ rfl
  have g2 := hbx.1 2 _ rfl
  have g3 := hbx.1 3 _ rfl
  have g4 := hbx.1 4 _ rfl
  have g5 := hbx.1 5 _ rfl
  clear hbx
  have hbx := (Fw.out.later B3_vg.out)
  have y0 := hbx.1 0 _ rfl
  have y1 := hbx.1 1 _ rfl
  have y2 := hbx.1 2 _ rfl
  have y3 := hbx.1 3 _ rfl
  have y4 := hbx.1 4 _ rfl
  have y5 := hbx.1 5 _ rfl
  clear hbx
  rw [hvg] at g0 g1 g2 g3 g4 g5 y0 y1 y2 y3 y4 y5
  go_wp2_with fail
  rw [← hvg]
  clear hvg
  refine (KCl.eq vg ng0 ng1 ng2 ng3 ng4 ng5 nw0 nw1 nw2 nw3 nw4 nw5 N tN.out (Og.out.sl.later B7_vg.out) (Ow.out.sl.later B3_vg.out)).mono ?_
  rintro e t6 ⟨rfl, bt6⟩
  clear g0 g1 g2 g3 g4 g5 y0 y1 y2 y3 y4 y5
  have B0_t6 : Hid (Below U0.heap.size U0 t6) := bstep B0_vg.out bt6
  have B3_t6 : Hid (Below vw.heap.size vw t6) := bstep B3_vg.out bt6
  have Bxk_t6 : Hid (Below xk.heap.size xk t6) := bstep Bxk_vg.out bt6
  have B5_t6 : Hid (Below xk.heap.size xk t6) := bstep B5_vg.out bt6
  have B7_t6 : Hid (Below vg.heap.size vg t6) := bstep B7_vg.out bt6
  have Zt6 : Hid (vg.heap.size ≤ t6.heap.size) := bt6.size
  clear B0_vg B3_vg Bxk_vg B5_vg B7_vg bt6
  go_upto_region 10 with fail
  go_cut [53] from 49 to 53 (fun s0 wx => s0 = .bool false ∧ Below t6.heap.size t6 wx)
  case first =>
    have bd : Below t6.heap.size t6 t6.drew := (Below.refl _ _).drew
    have hbx := (Fk.out.later (bstep B0_t6.out bd))
    have p0 := hbx.1 0 _ rfl
    have p1 := hbx.1 1 _ rfl
    have p2 := hbx.1 2 _ rfl
    have p3 := hbx.1 3 _ rfl
    have p4 := hbx.1 4 _ rfl
    have p5 := hbx.1 5 _ rfl
    clear hbx
    have hbx := (Gxk.out.later (bstep B5_t6.out bd))
    have e0 := hbx.1 0 _ rfl
    have e1 := hbx.1 1 _ rfl
    have e2 := hbx.1 2 _ rfl
    have e3 := hbx.1 3 _ rfl
    have e4 := hbx.1 4 _ rfl
    have e5 := hbx.1 5 _ rfl
    clear hbx
    have h47 : t4.heap.size < t6.drew.heap.size := (Gxk.out.later (bstep B5_t6.out bd)).2.2
    have sx : Hid (KCl.Rd t6.drew yka3 ykb3 ykc3 ykd3 yke3 ykf3 k) := Rxk.out.later (bstep B5_t6.out bd)
    have KB := hidOf bd
    have ra := Rk.out.later (bstep B0_t6.out bd)
    clear bd
    go_region_with (first
      | (go_at_call 11
         refine (KCl.to t6.drew yka ykb ykc ykd yke ykf k tk.out ra).mono ?_
         rintro e w8 ⟨yka8, ykb8, ykc8, ykd8, yke8, ykf8, _, rfl, o8, b8⟩
         have e0' : w8.cell? ⟨t4.heap.size, 0, none⟩ = some (.int .i64 k.config) := (b8.cell (p := ⟨t4.heap.size, 0, none⟩) h47).trans e0
         have e1' : w8.cell? ⟨t4.heap.size, 1, none⟩ = some (.int .i64 k.clock) := (b8.cell (p := ⟨t4.heap.size, 1, none⟩) h47).trans e1
         have e2' : w8.cell? ⟨t4.heap.size, 2, none⟩ = some (.slice yka3 k.places.length ykb3) := (b8.cell (p := ⟨t4.heap.size, 2, none⟩) h47).trans e2
         have e3' : w8.cell? ⟨t4.heap.size, 3, none⟩ = some (.slice ykc3 k.machines.length ykd3) := (b8.cell (p := ⟨t4.heap.size, 3, none⟩) h47).trans e3
         have e4' : w8.cell? ⟨t4.heap.size, 4, none⟩ = some (.slice yke3 k.txs.length ykf3) := (b8.cell (p := ⟨t4.heap.size, 4, none⟩) h47).trans e4
         have e5' : w8.cell? ⟨t4.heap.size, 5, none⟩ = some (.bool k.lost) := (b8.cell (p := ⟨t4.heap.size, 5, none⟩) h47).trans e5
         have S8 : Hid (KCl.Rd w8 yka3 ykb3 ykc3 ykd3 yke3 ykf3 k ∧ KCl.Rd w8 yka8 ykb8 ykc8 ykd8 yke8 ykf8 k ∧ Below t6.heap.size t6 w8) := ⟨sx.out.later b8, o8.sl, bstep KB.out b8⟩
         clear o8 b8)
      | (go_at_call 13
         refine (KCl.eq w8 yka3 ykb3 ykc3 ykd3 yke3 ykf3 yka8 ykb8 ykc8 ykd8 yke8 ykf8 k tk.out S8.out.1 S8.out.2.1).mono ?_
         rintro e w9 ⟨rfl, b9⟩))
    all_goals (
      go_wp2_with fail
      go_meet
      exact ⟨rfl, bstep S8.out.2.2 b9⟩)
  case rest =>
  obtain ⟨rfl, bx⟩ := hcut
  generalize wc = t7 at *
  have B0_t7 : Hid (Below U0.heap.size U0 t7) := bstep B0_t6.out bx
  have B3_t7 : Hid (Below vw.heap.size vw t7) := bstep B3_t6.out bx
  have Bxk_t7 : Hid (Below xk.heap.size xk t7) := bstep Bxk_t6.out bx
  have B5_t7 : Hid (Below xk.heap.size xk t7) := bstep B5_t6.out bx
  have B7_t7 : Hid (Below vg.heap.size vg t7) := bstep B7_t6.out bx
  have Zt7 : Hid (t6.heap.size ≤ t7.heap.size) := bx.size
  clear B0_t6 B3_t6 Bxk_t6 B5_t6 B7_t6 bx
  have Oxk : Hid (KCl.Ow t7 _ yka3 ykb3 ykc3 ykd3 yke3 ykf3 k Xk) := Oxk.out.later Bxk_t7.out
  have Gxk : Hid (Bx t7 t4.heap.size [.int .i64 k.config, .int .i64 k.clock, .slice yka3 k.places.length ykb3, .slice ykc3 k.machines.length ykd3, .slice yke3 k.txs.length ykf3, .bool k.lost]) := Gxk.out.later B5_t7.out
  have Og : Hid (KCl.Ow t7 xk.heap.size ng0 ng1 ng2 ng3 ng4 ng5 N Pg) := Og.out.later B7_t7.out
  have Fg : Hid (Bx t7 t5.heap.size [.int .i64 N.config, .int .i64 N.clock, .slice ng0 N.places.length ng1, .slice ng2 N.machines.length ng3, .slice ng4 N.txs.length ng5, .bool N.lost]) := Fg.out.later B7_t7.out
  have k0 : Hid ((0 : Int) ≤ 1 ∧ (1 : Int) ≤ 1) := by unfold Hid; omega
  have hbx := Gxk.out
  have e0 := hbx.1 0 _ rfl
  have e1 := hbx.1 1 _ rfl
  have e2 := hbx.1 2 _ rfl
  have e3 := hbx.1 3 _ rfl
  have e4 := hbx.1 4 _ rfl
  have e5 := hbx.1 5 _ rfl
  clear hbx
  have hmk := KCl.mark t7 _ yka3 ykb3 ykc3 ykd3 yke3 ykf3 k Xk 1 (by have := k0.out; omega) (by have := k0.out; omega) (by omega) tk.out Oxk.out
  obtain ⟨E0, hE0⟩ : ∃ z, z = (endC k 1) := ⟨_, rfl⟩
  rw [← hE0] at hmk
  have k1 : Hid ((0 : Int) ≤ E0 ∧ E0 ≤ 300000000) := by
    rw [hE0]
    have := k0.out
    have e1 := cC_le k
    unfold endC
    refine ⟨by omega, by omega⟩
  clear hE0
  have dE : decide (E0 < 0) = false := by have := k1.out; simp; omega
  go_wp2_with fail
  refine hmk.mono ?_
  clear hmk e0 e1 e2 e3 e4 e5
  rintro e t8 ⟨rfl, kp⟩
  have B0_t8 : Hid (Below U0.heap.size U0 t8) := bkept B0_t7.out kp (fun q hq => by have := ZU.out; have := Zs1.out; have := Zt2.out; have := Lw.out; have := Zvw.out; have := Lxk.out; have := Mxk.out; have := Zxk.out; have := Lg.out; have := Zvg.out; have := Zt6.out; have := Zt7.out; have := (Pxk.out q hq).1; omega)
  have B3_t8 : Hid (Below vw.heap.size vw t8) := bkept B3_t7.out kp (fun q hq => by have := ZU.out; have := Zs1.out; have := Zt2.out; have := Lw.out; have := Zvw.out; have := Lxk.out; have := Mxk.out; have := Zxk.out; have := Lg.out; have := Zvg.out; have := Zt6.out; have := Zt7.out; have := (Pxk.out q hq).1; omega)
  have Og : Hid (KCl.Ow t8 xk.heap.size ng0 ng1 ng2 ng3 ng4 ng5 N Pg) := Og.out.keep kp.size (fun q hq => kp.block q (Og.out.of hq).2 (fun e => by have := ZU.out; have := Zs1.out; have := Zt2.out; have := Lw.out; have := Zvw.out; have := Lxk.out; have := Mxk.out; have := Zxk.out; have := Lg.out; have := Zvg.out; have := Zt6.out; have := Zt7.out; have := (Pxk.out q e).2; have := (Og.out.of hq).1; omega))
  have Fg : Hid (Bx t8 t5.heap.size [.int .i64 N.config, .int .i64 N.clock, .slice ng0 N.places.length ng1, .slice ng2 N.machines.length ng3, .slice ng4 N.txs.length ng5, .bool N.lost]) := Fg.out.of_block (kp.block _ Fg.out.2.2 (fun e => by have := ZU.out; have := Zs1.out; have := Zt2.out; have := Lw.out; have := Zvw.out; have := Lxk.out; have := Mxk.out; have := Zxk.out; have := Lg.out; have := Zvg.out; have := Zt6.out; have := Zt7.out; have := (Pxk.out _ e).2; omega)) kp.size
  have Zt8 : Hid (t7.heap.size ≤ t8.heap.size) := kp.size
  clear kp
  have B9_t8 : Hid (Below t8.heap.size t8 t8) := Below.refl _ _
  have hbx := (Fg.out.later B9_t8.out)
  have g0 := hbx.1 0 _ rfl
  have g1 := hbx.1 1 _ rfl
  have g2 := hbx.1 2 _ rfl
  have g3 := hbx.1 3 _ rfl
  have g4 := hbx.1 4 _ rfl
  have g5 := hbx.1 5 _ rfl
  clear hbx
  have hbx := (Fw.out.later B3_t8.out)
  have y0 := hbx.1 0 _ rfl
  have y1 := hbx.1 1 _ rfl
  have y2 := hbx.1 2 _ rfl
  have y3 := hbx.1 3 _ rfl
  have y4 := hbx.1 4 _ rfl
  have y5 := hbx.1 5 _ rfl
  clear hbx
  go_wp2_with fail
  refine (KCl.eq t8 ng0 ng1 ng2 ng3 ng4 ng5 nw0 nw1 nw2 nw3 nw4 nw5 N tN.out (Og.out.sl.later B9_t8.out) (Ow.out.sl.later B3_t8.out)).mono ?_
  rintro e t9 ⟨rfl, bt9⟩
  clear g0 g1 g2 g3 g4 g5 y0 y1 y2 y3 y4 y5
  have B0_t9 : Hid (Below U0.heap.size U0 t9) := bstep B0_t8.out bt9
  have B3_t9 : Hid (Below vw.heap.size vw t9) := bstep B3_t8.out bt9
  have B9_t9 : Hid (Below t8.heap.size t8 t9) := bstep B9_t8.out bt9
  have Zt9 : Hid (t8.heap.size ≤ t9.heap.size) := bt9.size
  clear B0_t8 B3_t8 B9_t8 bt9
  have hmk := KCl.markc t9 xk.heap.size ng0 ng1 ng2 ng3 ng4 ng5 N Pg 1 (by omega) (by omega) zN.out tN.out (Og.out.later B9_t9.out)
  have HH : Hid (∀ X, KCl.Rd X ng0 ng1 ng2 ng3 ng4 ng5 (mkC N 1) → Calls Tryz.prog 15 #[.agg #[.int .i64 N.config, .int .i64 N.clock, .slice ng0 N.places.length ng1, .slice ng2 N.machines.length ng3, .slice ng4 N.txs.length ng5, .bool N.lost], .int .i64 1] X fun e w' => e = .returned (.int .i64 (endC N 1)) ∧ Below X.heap.size X w') := fun X hX => KCl.held X ng0 ng1 ng2 ng3 ng4 ng5 N 1 (by omega) (by omega) zN.out tN.out hX
  obtain ⟨G, hG⟩ : ∃ z, z = (endC N 1) := ⟨_, rfl⟩
  rw [← hG] at hmk HH
  have dG : decide (G < 0) = false := by
    rw [hG]
    unfold endC
    simp
    omega
  have dH : (G != G) = false := by simp
  clear hG
  have hbx := (Fg.out.later B9_t9.out)
  have g0 := hbx.1 0 _ rfl
  have g1 := hbx.1 1 _ rfl
  have g2 := hbx.1 2 _ rfl
  have g3 := hbx.1 3 _ rfl
  have g4 := hbx.1 4 _ rfl
  have g5 := hbx.1 5 _ rfl
  clear hbx
  go_wp2_with fail
  refine hmk.mono ?_
  clear hmk g0 g1 g2 g3 g4 g5
  rintro e t10 ⟨rfl, kp, om⟩
  have B0_t10 : Hid (Below U0.heap.size U0 t10) := bkept B0_t9.out kp (fun q hq => by have := ZU.out; have := Zs1.out; have := Zt2.out; have := Lw.out; have := Zvw.out; have := Lxk.out; have := Mxk.out; have := Zxk.out; have := Lg.out; have := Zvg.out; have := Zt6.out; have := Zt7.out; have := Zt8.out; have := Zt9.out; have := (Og.out.of hq).1; omega)
  have B3_t10 : Hid (Below vw.heap.size vw t10) := bkept B3_t9.out kp (fun q hq => by have := ZU.out; have := Zs1.out; have := Zt2.out; have := Lw.out; have := Zvw.out; have := Lxk.out; have := Mxk.out; have := Zxk.out; have := Lg.out; have := Zvg.out; have := Zt6.out; have := Zt7.out; have := Zt8.out; have := Zt9.out; have := (Og.out.of hq).1; omega)
  have Fg : Hid (Bx t10 t5.heap.size [.int .i64 N.config, .int .i64 N.clock, .slice ng0 N.places.length ng1, .slice ng2 N.machines.length ng3, .slice ng4 N.txs.length ng5, .bool N.lost]) := (Fg.out.later B9_t9.out).of_block (kp.block _ (Fg.out.later B9_t9.out).2.2 (fun e => NEg.out _ e rfl)) kp.size
  have Om := hidOf om
  have Zt10 : Hid (t9.heap.size ≤ t10.heap.size) := kp.size
  clear kp om B9_t9
  have B10_t10 : Hid (Below t10.heap.size t10 t10) := Below.refl _ _
  have hbx := (Fg.out.later B10_t10.out)
  have g0 := hbx.1 0 _ rfl
  have g1 := hbx.1 1 _ rfl
  have g2 := hbx.1 2 _ rfl
  have g3 := hbx.1 3 _ rfl
  have g4 := hbx.1 4 _ rfl
  have g5 := hbx.1 5 _ rfl
  clear hbx
  go_wp2_with fail
  refine (HH.out t10 (Om.out.later B10_t10.out)).mono ?_
  rintro e t11 ⟨rfl, bt11⟩
  clear g0 g1 g2 g3 g4 g5
  have B0_t11 : Hid (Below U0.heap.size U0 t11) := bstep B0_t10.out bt11
  have B3_t11 : Hid (Below vw.heap.size vw t11) := bstep B3_t10.out bt11
  have B10_t11 : Hid (Below t10.heap.size t10 t11) := bstep B10_t10.out bt11
  have Zt11 : Hid (t10.heap.size ≤ t11.heap.size) := bt11.size
  clear B0_t10 B3_t10 B10_t10 bt11
  have hbx := (Fk.out.later B0_t11.out)
  have p0 := hbx.1 0 _ rfl
  have p1 := hbx.1 1 _ rfl
  have p2 := hbx.1 2 _ rfl
  have p3 := hbx.1 3 _ rfl
  have p4 := hbx.1 4 _ rfl
  have p5 := hbx.1 5 _ rfl
  clear hbx
  go_wp2_with fail
  refine (KCl.to t11 yka ykb ykc ykd yke ykf k tk.out (Rk.out.later B0_t11.out)).mono ?_
  rintro e t12 ⟨yka2, ykb2, ykc2, ykd2, yke2, ykf2, _, rfl, oT, bt12⟩
  have rbk := hidOf oT.sl
  clear oT p0 p1 p2 p3 p4 p5
  have B0_t12 : Hid (Below U0.heap.size U0 t12) := bstep B0_t11.out bt12
  have B3_t12 : Hid (Below vw.heap.size vw t12) := bstep B3_t11.out bt12
  have B10_t12 : Hid (Below t10.heap.size t10 t12) := bstep B10_t11.out bt12
  have Zt12 : Hid (t11.heap.size ≤ t12.heap.size) := bt12.size
  clear B0_t11 B3_t11 B10_t11 bt12
  go_wp2_with fail
  refine (A2.out t12 yka2 ykb2 ykc2 ykd2 yke2 ykf2 rbk.out ((HGw.out.later Bw.out).later B0_t12.out)).mono ?_
  rintro e t13 ⟨nh0, nh1, nh2, nh3, nh4, nh5, Ph, rfl, oh, bt13⟩
  clear rbk
  obtain ⟨vh, hvh⟩ : ∃ X, X = t13.alloc (.cells #[.int .i64 N.config, .int .i64 N.clock, .slice nh0 N.places.length nh1, .slice nh2 N.machines.length nh3, .slice nh4 N.txs.length nh5, .bool N.lost] 32) := ⟨_, rfl⟩
  have bvh : Below t13.heap.size t13 vh := by rw [hvh]; exact (Below.refl _ _).alloc (Nat.le_refl _) _
  have Fh : Hid (Bx vh t13.heap.size [.int .i64 N.config, .int .i64 N.clock, .slice nh0 N.places.length nh1, .slice nh2 N.machines.length nh3, .slice nh4 N.txs.length nh5, .bool N.lost]) := by rw [hvh]; exact Bx.made t13 [.int .i64 N.config, .int .i64 N.clock, .slice nh0 N.places.length nh1, .slice nh2 N.machines.length nh3, .slice nh4 N.txs.length nh5, .bool N.lost] _
  have Oh : Hid (KCl.Ow vh t12.heap.size nh0 nh1 nh2 nh3 nh4 nh5 N Ph) := oh.later bvh
  have NEh : Hid (∀ x, Ph x → x ≠ t13.heap.size) := fun x hx => by have := (oh.of hx).2; omega
  obtain ⟨qh, hqh⟩ : ∃ q, q = t13.heap.size := ⟨_, rfl⟩
  have bb : Below t12.heap.size t12 vh := bstep bt13 bvh
  have Lh : Hid (t12.heap.size ≤ t13.heap.size) := bt13.size
  clear oh bt13 bvh hqh qh
  have B0_vh : Hid (Below U0.heap.size U0 vh) := bstep B0_t12.out bb
  have B3_vh : Hid (Below vw.heap.size vw vh) := bstep B3_t12.out bb
  have B10_vh : Hid (Below t10.heap.size t10 vh) := bstep B10_t12.out bb
  have Zvh : Hid (t12.heap.size ≤ vh.heap.size) := bb.size
  clear B0_t12 B3_t12 B10_t12 bb
  have B11_vh : Hid (Below vh.heap.size vh vh) := Below.refl _ _
  have hbx := (Fh.out.later B11_vh.out)
  have g0 := hbx.1 0 _ rfl
  have g1 := hbx.1 1 _ rfl
  have g2 := hbx.1 2 _ rfl
  have g3 := hbx.1 3 _ rfl
  have g4 := hbx.1 4 _ rfl
  have g5 := hbx.1 5 _ rfl
  clear hbx
  have hbx := (Fw.out.later B3_vh.out)
  have y0 := hbx.1 0 _ rfl
  have y1 := hbx.1 1 _ rfl
  have y2 := hbx.1 2 _ rfl
  have y3 := hbx.1 3 _ rfl
  have y4 := hbx.1 4 _ rfl
  have y5 := hbx.1 5 _ rfl
  clear hbx
  rw [hvh] at g0 g1 g2 g3 g4 g5 y0 y1 y2 y3 y4 y5
  go_wp2_with fail
  rw [← hvh]
  clear hvh
  refine (KCl.eq vh nh0 nh1 nh2 nh3 nh4 nh5 nw0 nw1 nw2 nw3 nw4 nw5 N tN.out (Oh.out.sl.later B11_vh.out) (Ow.out.sl.later B3_vh.out)).mono ?_
  rintro e t14 ⟨rfl, bt14⟩
  clear g0 g1 g2 g3 g4 g5 y0 y1 y2 y3 y4 y5
  have B0_t14 : Hid (Below U0.heap.size U0 t14) := bstep B0_vh.out bt14
  have B3_t14 : Hid (Below vw.heap.size vw t14) := bstep B3_vh.out bt14
  have B10_t14 : Hid (Below t10.heap.size t10 t14) := bstep B10_vh.out bt14
  have B11_t14 : Hid (Below vh.heap.size vh t14) := bstep B11_vh.out bt14
  have Zt14 : Hid (vh.heap.size ≤ t14.heap.size) := bt14.size
  clear B0_vh B3_vh B10_vh B11_vh bt14
  have hbx := (Fg.out.later B10_t14.out)
  have g0 := hbx.1 0 _ rfl
  have g1 := hbx.1 1 _ rfl
  have g2 := hbx.1 2 _ rfl
  have g3 := hbx.1 3 _ rfl
  have g4 := hbx.1 4 _ rfl
  have g5 := hbx.1 5 _ rfl
  clear hbx
  go_wp2_with fail
  refine (HH.out t14 (Om.out.later B10_t14.out)).mono ?_
  rintro e t15 ⟨rfl, bt15⟩
  clear g0 g1 g2 g3 g4 g5
  have B0_t15 : Hid (Below U0.heap.size U0 t15) := bstep B0_t14.out bt15
  have B3_t15 : Hid (Below vw.heap.size vw t15) := bstep B3_t14.out bt15
  have B10_t15 : Hid (Below t10.heap.size t10 t15) := bstep B10_t14.out bt15
  have B11_t15 : Hid (Below vh.heap.size vh t15) := bstep B11_t14.out bt15
  have Zt15 : Hid (t14.heap.size ≤ t15.heap.size) := bt15.size
  clear B0_t14 B3_t14 B10_t14 B11_t14 bt15
  go_wp2
  go_ret
  exact ⟨rfl, bstep Bw.out B0_t15.out⟩
set_option maxHeartbeats 2000000 in
theorem walk_great0 (w : World) (yka : Option Addr) (ykb : Nat) (ykc : Option Addr) (ykd : Nat) (yke : Option Addr) (ykf : Nat) (k : C6) (y : Int) (h : Int) (lk : KCl.L k) (hk : KCl.Rd w yka ykb ykc ykd yke ykf k) (_ : HG w) (hg : ¬ szC k ≤ 1048576) :
    Calls Tryz.prog 3 #[.agg #[.int .i64 k.config, .int .i64 k.clock, .slice yka k.places.length ykb, .slice ykc k.machines.length ykd, .slice yke k.txs.length ykf, .bool k.lost], .int .i64 y, .int .i64 h] w fun e w' => e = .returned (.bool true) ∧ Below w.heap.size w w' := by
  obtain ⟨U0, hU0⟩ : ∃ X, X = w.alloc (.cells #[.int .i64 k.config, .int .i64 k.clock, .slice yka k.places.length ykb, .slice ykc k.machines.length ykd, .slice yke k.txs.length ykf, .bool k.lost] 26) := ⟨_, rfl⟩
  have bU0 : Below w.heap.size w U0 := by rw [hU0]; exact (Below.refl _ _).alloc (Nat.le_refl _) _
  have xU0 : Bx U0 w.heap.size [.int .i64 k.config, .int .i64 k.clock, .slice yka k.places.length ykb, .slice ykc k.machines.length ykd, .slice yke k.txs.length ykf, .bool k.lost] := by rw [hU0]; exact Bx.made w [.int .i64 k.config, .int .i64 k.clock, .slice yka k.places.length ykb, .slice ykc k.machines.length ykd, .slice yke k.txs.length ykf, .bool k.lost] _
  have zU0 : U0.heap.size = w.heap.size + 1 := by rw [hU0]; simp
  have Fk : Hid (Bx U0 w.heap.size [.int .i64 k.config, .int .i64 k.clock, .slice yka k.places.length ykb, .slice ykc k.machines.length ykd, .slice yke k.txs.length ykf, .bool k.lost]) := xU0
  have Rk : Hid (KCl.Rd U0 yka ykb ykc ykd yke ykf k) := (hk).later bU0
  have Bw : Hid (Below w.heap.size w U0) := bU0
  have ZU : Hid (U0.heap.size = w.heap.size + 1) := by unfold Hid; omega
  clear bU0 xU0 zU0 hk
  have B0_U0 : Hid (Below U0.heap.size U0 U0) := Below.refl _ _
  go_enter Tryz.func3, Tryz.ntmps3
  have hbx := (Fk.out.later B0_U0.out)
  have p0 := hbx.1 0 _ rfl
  have p1 := hbx.1 1 _ rfl
  have p2 := hbx.1 2 _ rfl
  have p3 := hbx.1 3 _ rfl
  have p4 := hbx.1 4 _ rfl
  have p5 := hbx.1 5 _ rfl
  clear hbx
  rw [hU0] at p0 p1 p2 p3 p4 p5
  go_wp2_with fail
  rw [← hU0]
  clear hU0
  refine (KCl.sz U0 yka ykb ykc ykd yke ykf k lk (Rk.out.later B0_U0.out)).mono ?_
  rw [leftR_no (by omega)]
  rintro e s1 ⟨rfl, bs1⟩
  clear p0 p1 p2 p3 p4 p5
  have B0_s1 : Hid (Below U0.heap.size U0 s1) := bstep B0_U0.out bs1
  have Zs1 : Hid (U0.heap.size ≤ s1.heap.size) := bs1.size
  clear B0_U0 bs1
  go_wp2
  go_ret
  exact ⟨rfl, bstep Bw.out B0_s1.out⟩
theorem walk (w : World) (yka : Option Addr) (ykb : Nat) (ykc : Option Addr) (ykd : Nat) (yke : Option Addr) (ykf : Nat) (k : C6) (y : Int) (h : Int) (lk : KCl.L k) (hk : KCl.Rd w yka ykb ykc ykd yke ykf k) (hG0 : HG w) :
    Calls Tryz.prog 3 #[.agg #[.int .i64 k.config, .int .i64 k.clock, .slice yka k.places.length ykb, .slice ykc k.machines.length ykd, .slice yke k.txs.length ykf, .bool k.lost], .int .i64 y, .int .i64 h] w fun e w' => e = .returned (.bool true) ∧ Below w.heap.size w w' := by
  by_cases g0 : szC k ≤ 1048576
  case neg => exact walk_great0 w yka ykb ykc ykd yke ykf k y h lk hk hG0 g0
  exact walk_small w yka ykb ykc ykd yke ykf k y h lk hk hG0 g0
theorem etG : Tryz.prog.globalNamed "errors.errorType" = some 0 := by kernel_rfl
theorem rtT : (Tryz.prog.cutTypes.find? (·.1 == "internal/reflectlite.rtype")).map (·.2) = some 278 := by kernel_rfl
theorem oneRow : ((List.range 370).filter fun t => Tryz.prog.rowNamed t [101, 114, 114, 111, 114]) = [155] := by kernel_rfl
theorem sizeT : Tryz.prog.types.size = 370 := by kernel_rfl
theorem handle_of_laid {W : World} (h : laidMetH Tryz.prog Rows.fnExactBeginRow.laid W) : HG W := by
  have h' : laidMet Tryz.prog [] W ∧ handlesMet Tryz.prog Rows.fnExactBeginRow.laid W := h
  obtain ⟨name, u, ty, e1, e2, e3, e4, e5⟩ := h'.2 _ (List.mem_singleton.2 rfl)
  have en : name = [101, 114, 114, 111, 114] := (Option.some.inj e1).symm
  subst en
  obtain rfl := Option.some.inj (rtT.symm.trans e2)
  have hm : ty ∈ (List.range 370).filter fun t => Tryz.prog.rowNamed t [101, 114, 114, 111, 114] := List.mem_filter.2 ⟨List.mem_range.2 (by rw [← sizeT]; exact e3), e4⟩
  rw [oneRow] at hm
  obtain rfl := List.mem_singleton.1 hm
  have hh : typeHandle Tryz.prog 155 = .pointer (some ⟨1, 155, none⟩) := by kernel_rfl
  rw [hh] at e5
  simpa [HG] using World.var?_cell etG e5 0
noncomputable def laidWorld (os : Os) : World :=
  let w0 := World.holding Tryz.prog os ⟨#[], #[], []⟩
  { w0 with heap := w0.heap.modify 0 fun
      | .cells _ t frozen => .cells #[.iface 278 (.agg #[.pointer (some ⟨1, 155, none⟩)])] t frozen
      | o => o }
theorem laidWorld_met (os : Os) (args : Array Value) : laidMetH Tryz.prog Rows.fnExactBeginRow.laid ((laidWorld os).forCall (fun _ _ => 0) ⟨#[], args, []⟩).memory :=
  laidMetH_of_parts (laidMet_nil _ _) (by kernel_rfl)
set_option maxRecDepth 100000 in
theorem lifted (os : Os) (started : os.Started) (H : Type) (enc : TypeId × Value → H) :
    ReturnsInHanded {} Tryz.checked os 3 .any (fun w args => (Rows.fnExactBeginSpec.pre enc Tryz.prog Tryz.f3 [] false w args ∧ laidMetH Tryz.prog Rows.fnExactBeginRow.laid w) ∧ sizedMet enc Tryz.prog Tryz.f3 (OpenSpec.ofChange Rows.fnExactBeginSpec) false w args)
      (Rows.fnExactBeginSpec.post enc Tryz.prog Tryz.f3 false true false false) := by
  refine returnsInHanded_of_change_and (C := Tryz.checked) (X := fun w _ => laidMetH Tryz.prog Rows.fnExactBeginRow.laid w) (fun _ _ _ hh h => h.of_heap hh) own started (by kernel_rfl) Tryz.func3
    (ChangeSpec.witness_at (enc := enc) (C := Tryz.checked) (os := os) (X := fun w _ => laidMetH Tryz.prog Rows.fnExactBeginRow.laid w) false (laidWorld os) #[.agg #[.int .i64 0, .int .i64 0, .slice none 0 0, .slice none 0 0, .slice none 0 0, .bool false], .int .i64 0, .int .i64 0] 8 rfl (by kernel_rfl) (by kernel_rfl) (by kernel_rfl) (by kernel_rfl) (by kernel_rfl) (laidWorld_met os _)) ?_
  intro W base args ds gs before hval0 hW _ _ hL _
  have hval : ∀ (j : Nat) t v, Tryz.f3.params[j]? = some t → args[j]? = some v → Value.okWide Tryz.prog W .any base t v := hval0
  have hW' := hW
  obtain ⟨p, q, hA0, hV, rfl, hfz, hnd⟩ := hW
  have hA : DataW.TrodAll enc Tryz.prog W 0 (fun _ => true) true Tryz.f3.params.toList args.toList ds p := hA0
  rw [Tryz.params3] at hA hval
  obtain ⟨v0, vs0, d0, ds0, p0, q0, hargs, rfl, rfl, h0, r0⟩ := trodAll_cons hA
  obtain ⟨v1, vs1, d1, ds1, p1, q1, rfl, rfl, rfl, h1, r1⟩ := trodAll_cons r0
  obtain ⟨v2, vs2, d2, ds2, p2, q2, rfl, rfl, rfl, h2, r2⟩ := trodAll_cons r1
  obtain ⟨rfl, rfl, rfl⟩ := trodAll_nil r2
  obtain rfl : args = #[v0, v1, v2] := by cases args; simp_all
  obtain ⟨rfl, rfl⟩ := trodVars_none hV
  obtain ⟨cs0, rfl, hcs0⟩ := okWide_struct Tryz.underlying26 (hval 0 26 v0 rfl rfl)
  have k0 := h0
  have lt0 : ∀ x ∈ p0, x.block < W.heap.size := by obtain ⟨n, hn⟩ := k0; exact DataW.trod_lt n _ _ _ hn
  obtain ⟨yka, ykb, ykc, ykd, yke, ykf, k, rfl, hk, lk⟩ : ∃ (a1 : Option Addr) (c1 : Nat) (a2 : Option Addr) (c2 : Nat) (a3 : Option Addr) (c3 : Nat) (m : C6), cs0 = #[.int .i64 m.config, .int .i64 m.clock, .slice a1 m.places.length c1, .slice a2 m.machines.length c2, .slice a3 m.txs.length c3, .bool m.lost] ∧ KCl.Rd W a1 c1 a2 c2 a3 c3 m ∧ KCl.L m := by
    obtain ⟨fuel, hf⟩ := h0
    obtain ⟨a1, c1, a2, c2, a3, c3, m, e, hs, hl⟩ := oc.open_cluster hf
    exact ⟨a1, c1, a2, c2, a3, c3, m, by cases cs0; simpa [Value.cells] using e, hs, hl⟩
  obtain ⟨y, rfl, rfl, rfl, w1⟩ := open_int Tryz.underlying2 (hval 1 2 v1 rfl rfl) h1
  obtain ⟨h, rfl, rfl, rfl, w2⟩ := open_int Tryz.underlying2 (hval 2 2 v2 rfl rfl) h2
  clear hA0 hval0
  refine (walk W yka ykb ykc ykd yke ykf k y h lk hk (handle_of_laid hL)).mono fun e W' ⟨he, bel⟩ => ?_
  subst he
  exact ⟨_, rfl, _, _, _, [], _, [], hW', trodAll_mk1 (shut_bool Tryz.underlying4 _), (trodAll_cons_mk (Below.trod laidOut (by kernel_rfl) (of_decide_eq_true (by kernel_rfl)) k0 bel lt0) (trodAll_cons_mk (shut_int Tryz.underlying2 w1) (trodAll_cons_mk (shut_int Tryz.underlying2 w2) trodAll_mk0))), rfl, bel.frame _, fun h => by cases h⟩
end Go.Proofs.YtnhjgomfkfehgaaGreatDoor.fnExactBegin