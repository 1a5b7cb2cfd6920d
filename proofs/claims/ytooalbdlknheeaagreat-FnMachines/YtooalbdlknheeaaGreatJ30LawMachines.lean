/- OpenCells; Draw1: joined. -/
import Derived.Test.YtooalbdlknheeaaGreatRows
import Derived.Test.YtooalbdlknheeaaGreatCellsJ
import Derived.ProofKit
import Derived.OpenShut
import Derived.Deep.Slices
import Derived.Lib.SmallJoins
import Derived.Test.YtooalbdlknheeaaGreatJ14LawMachines
import Derived.Test.YtooalbdlknheeaaGreatJ0LawMachines
import Derived.WalkKit
import Derived.WalkSpells
import Derived.WalkLawsBesides
import Derived.Deep.QuietTactic
import Derived.BigQuiet
import Derived.Below
/- An argument that is a row of cells, opened: cells in memory, two numbers each. -/
namespace Go.Proofs.YtooalbdlknheeaaGreat
open Go.ChangeShapes Go.WideShapes Go.ChangeAt Go.RowKit Go.Deep
theorem list2 {α : Type} {cs : List α} (h : cs.length = 2) : ∃ c0 c1, cs = [c0, c1] := by
  match cs, h with
  | [c0, c1], _ => exact ⟨c0, c1, rfl⟩
theorem cells_cell : Tryz.prog.cellsOf 124 = 2 := by kernel_rfl
theorem cells_num : Tryz.prog.cellsOf 2 = 1 := by kernel_rfl
theorem open_cell {H : Type} {enc : TypeId × Value → H} {w : World} {base : Nat} {spare : Nat → Bool} {held : Bool} {fuel : Nat} {cs : List Value} {x : DataW H × List MemPlace}
    (h : DataW.trod enc Tryz.prog w base spare held fuel 124 cs = some x) : ∃ s : C2, cs = s.cells := by
  obtain ⟨xs, n, _, rfl, hl, hlen, hf⟩ := DataW.trod_struct Tryz.underlying124 h
  rw [cells_cell] at hl
  obtain ⟨c0, c1, rfl⟩ := list2 hl
  obtain ⟨y0, y1, rfl⟩ := list2 hlen
  have h0 := hf 0 _ rfl
  have h1 := hf 1 _ rfl
  simp [cells_num] at h0 h1
  obtain ⟨z0, e0, _, _⟩ := DataW.trod_int Tryz.underlying2 h0
  obtain ⟨z1, e1, _, _⟩ := DataW.trod_int Tryz.underlying2 h1
  simp at e0 e1
  subst e0 e1
  exact ⟨⟨z0, z1⟩, rfl⟩
theorem some_of {α : Type} {p : Nat → α → Prop} (n : Nat) (h : ∀ i, i < n → ∃ x, p i x) : ∃ xs : List α, xs.length = n ∧ ∀ i x, xs[i]? = some x → p i x := by
  induction n with
  | zero => exact ⟨[], rfl, fun i x e => by simp at e⟩
  | succ n ih =>
    obtain ⟨xs, hl, hx⟩ := ih fun i hi => h i (by omega)
    obtain ⟨y, hy⟩ := h n (by omega)
    refine ⟨xs ++ [y], by simp [hl], fun i x e => ?_⟩
    by_cases hi : i < xs.length
    · rw [List.getElem?_append_left hi] at e
      exact hx i x e
    · rw [List.getElem?_append_right (by omega)] at e
      have : i = xs.length := by
        by_cases h2 : i - xs.length = 0
        · omega
        · rw [List.getElem?_eq_none (by simp; omega)] at e; cases e
      subst this
      simp at e
      subst e
      rw [hl]; exact hy
theorem open_cellrow {H : Type} {enc : TypeId × Value → H} {w : World} {spare : Nat → Bool} {held : Bool} {fuel : Nat} {cs : List Value} {x : DataW H × List MemPlace}
    (h : DataW.trod enc Tryz.prog w 0 spare held fuel 58 cs = some x) : ∃ a n cap xs, cs = [.slice a n cap] ∧ n ≤ maxLen ∧ SlC w w.heap.size a n xs := by
  rcases open_slice Tryz.underlying58 h with ⟨rfl, _⟩ | ⟨a, len, cap, m, n, D, Pl, rfl, _, hl, hm, hmm, _, hx⟩
  · exact ⟨none, 0, 0, [], rfl, Nat.zero_le _, ⟨rfl, .inl rfl⟩⟩
  · have hlm : len ≤ m := by rw [hmm]; split <;> omega
    have key : ∀ i, i < len → ∃ s : C2, ∀ k, k < 2 → w.cell? ((a.add (i * 2)).add k) = s.cells[k]? := fun i hi => by
      obtain ⟨cs', h1, h2⟩ := hx i (by omega)
      rw [cells_cell] at h1
      obtain ⟨s, rfl⟩ := open_cell h2
      exact ⟨s, (World.cells?_some h1).2.2⟩
    obtain ⟨xs, hlen, hxs⟩ := some_of len key
    refine ⟨some a, len, cap, xs, rfl, by omega, ⟨hlen, ?_⟩⟩
    by_cases h0 : len = 0
    · exact .inl h0
    · right
      obtain ⟨b, off, spot⟩ := a
      obtain ⟨s, hs⟩ := key 0 (by omega)
      have c0 : w.cell? ⟨b, off, spot⟩ = some (.int .i64 s.head) := by simpa [Addr.add, C2.cells] using hs 0 (by omega)
      have hspot : spot = none := by simpa using World.cell?_spot c0
      subst hspot
      refine ⟨b, off, rfl, block_lt_of_cell c0, fun i s e => ?_⟩
      have hk := hxs i s e
      simp only [add_plain] at hk
      exact ⟨by simpa [C2.cells] using hk 0 (by omega), by simpa [C2.cells] using hk 1 (by omega)⟩
end Go.Proofs.YtooalbdlknheeaaGreat
/- What the drawing cursor of the specification does: it answers numbers within their range and turns nothing but its own block. -/
namespace Go.Proofs.YtooalbdlknheeaaGreat
open Go.RowKit
/-- The cursor in block c over the slice (a, n, k). -/
def Cur (w : World) (c : Nat) (a : Option Addr) (n k : Nat) : Prop :=
  ∃ (j : Nat) (h : Int), c < w.heap.size ∧ j ≤ n ∧ w.cell? ⟨c, 0, none⟩ = some (.slice a n k) ∧ w.cell? ⟨c, 1, none⟩ = some (.int .i64 j) ∧ w.cell? ⟨c, 2, none⟩ = some (.int .i64 h)
    ∧ w.frozen? ⟨c, 1, none⟩ = false ∧ w.frozen? ⟨c, 2, none⟩ = false
/-- The slice's n bytes lie below block B. -/
def Bytes (w : World) (B : Nat) (a : Option Addr) (n : Nat) : Prop :=
  n ≤ maxLen ∧ (n = 0 ∨ ∃ b off, a = some ⟨b, off, none⟩ ∧ b < B ∧ ∀ i, i < n → ∃ x : Int, w.cell? ⟨b, off + i, none⟩ = some (.int .u8 x) ∧ 0 ≤ x ∧ x ≤ 255)
theorem Bytes.below {w w' : World} {B : Nat} {a : Option Addr} {n : Nat} (h : Bytes w B a n) (hb : Below B w w') : Bytes w' B a n := by
  obtain ⟨h1, h2⟩ := h
  refine ⟨h1, ?_⟩
  rcases h2 with h2 | ⟨b, off, ha, hB, hx⟩
  · exact .inl h2
  · exact .inr ⟨b, off, ha, hB, fun i hi => by obtain ⟨x, h, r⟩ := hx i hi; exact ⟨x, by rw [hb.cell (p := ⟨b, off + i, none⟩) hB]; exact h, r⟩⟩
theorem Bytes.mono {w : World} {B B' : Nat} {a : Option Addr} {n : Nat} (h : Bytes w B a n) (hB : B ≤ B') : Bytes w B' a n := by
  obtain ⟨h1, h2⟩ := h
  refine ⟨h1, ?_⟩
  rcases h2 with h2 | ⟨b, off, ha, hb, hx⟩
  · exact .inl h2
  · exact .inr ⟨b, off, ha, by omega, hx⟩
theorem and_255_bd (x : Int) : 0 ≤ bits .and .i64 x 255 ∧ bits .and .i64 x 255 ≤ 255 := by
  have h : (BitVec.ofInt 64 x &&& BitVec.ofInt 64 (255 : Int)).toNat ≤ 255 := by
    rw [BitVec.toNat_and]
    exact Nat.le_trans Nat.and_le_right (by decide)
  have e : bits .and .i64 x 255 = IntKind.i64.wrap ((BitVec.ofInt 64 x &&& BitVec.ofInt 64 (255 : Int)).toNat : Int) := rfl
  rw [e, wrap_i64_small _ (by omega)]
  omega
theorem Cur.drewN {w : World} {c : Nat} {a : Option Addr} {n k : Nat} (h : Cur w c a n k) (m : Nat) : Cur (w.drewN m) c a n k := h
theorem Cur.turned {w w' : World} {c c' : Nat} {a : Option Addr} {n k : Nat} (h : Cur w c a n k) (ht : Turned c' w w') (hne : c ≠ c') : Cur w' c a n k := by
  obtain ⟨j, x, h0, hj, c0, c1, c2, f1, f2⟩ := h
  have hb := ht.block c h0 hne
  exact ⟨j, x, Nat.lt_of_lt_of_le h0 ht.size, hj, (World.cell?_of_block (a := ⟨c, 0, none⟩) hb).trans c0, (World.cell?_of_block (a := ⟨c, 1, none⟩) hb).trans c1, (World.cell?_of_block (a := ⟨c, 2, none⟩) hb).trans c2, (World.frozen?_of_block (a := ⟨c, 1, none⟩) hb).trans f1, (World.frozen?_of_block (a := ⟨c, 2, none⟩) hb).trans f2⟩
theorem Cur.alloc {w : World} {c : Nat} {a : Option Addr} {n k : Nat} (h : Cur w c a n k) (o : Obj) : Cur (w.alloc o) c a n k := by
  have h0 : c < w.heap.size := by obtain ⟨_, _, h0, _⟩ := h; exact h0
  exact h.turned (c' := w.heap.size) ((Turned.refl _ _).alloc o) (by omega)
theorem Cur.new (w : World) (a : Option Addr) (n k : Nat) (h : Int) (t : TypeId) : Cur (w.alloc (.cells #[.slice a n k, .int .i64 0, .int .i64 h] t)) w.heap.size a n k := by
  refine ⟨0, h, by simp, Nat.zero_le _, ?_, ?_, ?_, ?_, ?_⟩
  all_goals go_simp
theorem Cur.step0 {w : World} {c : Nat} {a : Option Addr} {n k j : Nat} (h' : Int) (nq : Nat) (h0 : c < w.heap.size) (hj : j ≤ n) (c0 : w.cell? ⟨c, 0, none⟩ = some (.slice a n k)) (c1 : w.cell? ⟨c, 1, none⟩ = some (.int .i64 j)) {h : Int} (c2 : w.cell? ⟨c, 2, none⟩ = some (.int .i64 h))
    (f1 : w.frozen? ⟨c, 1, none⟩ = false) (f2 : w.frozen? ⟨c, 2, none⟩ = false) : Cur ((w.setCell ⟨c, 2, none⟩ (.int .i64 h')).drewN nq) c a n k := by
  refine ⟨j, h', ?_, hj, ?_, ?_, ?_, ?_, ?_⟩
  · simpa [World.setCell] using h0
  all_goals go_simp
theorem Cur.step1 {w : World} {c : Nat} {a : Option Addr} {n k j : Nat} (h' : Int) (nq : Nat) (h0 : c < w.heap.size) (hj : j + 1 ≤ n) (c0 : w.cell? ⟨c, 0, none⟩ = some (.slice a n k)) (c1 : w.cell? ⟨c, 1, none⟩ = some (.int .i64 j)) {h : Int} (c2 : w.cell? ⟨c, 2, none⟩ = some (.int .i64 h))
    (f1 : w.frozen? ⟨c, 1, none⟩ = false) (f2 : w.frozen? ⟨c, 2, none⟩ = false) : Cur (((w.setCell ⟨c, 2, none⟩ (.int .i64 h')).drewN nq).setCell ⟨c, 1, none⟩ (.int .i64 ((j : Int) + 1))) c a n k := by
  refine ⟨j + 1, h', ?_, hj, ?_, ?_, ?_, ?_, ?_⟩
  · simpa [World.setCell] using h0
  all_goals go_simp
set_option maxHeartbeats 1000000 in
theorem l1Byte_in (w : World) (c : Nat) (n k j : Nat) (b off : Nat) (h x : Int) (h0 : c < w.heap.size) (hj : j < n) (hn : n ≤ maxLen) (c0 : w.cell? ⟨c, 0, none⟩ = some (.slice (some ⟨b, off, none⟩) n k)) (c1 : w.cell? ⟨c, 1, none⟩ = some (.int .i64 j)) (c2 : w.cell? ⟨c, 2, none⟩ = some (.int .i64 h))
    (f1 : w.frozen? ⟨c, 1, none⟩ = false) (f2 : w.frozen? ⟨c, 2, none⟩ = false) (hbc : b ≠ c) (hx : w.cell? ⟨b, off + j, none⟩ = some (.int .u8 x)) (hx0 : 0 ≤ x) (hx1 : x ≤ 255) :
    Calls Tryz.prog 147 #[.pointer (some ⟨c, 0, none⟩)] w fun e w' => ∃ y : Int, e = .returned (.int .i64 y) ∧ 0 ≤ y ∧ y ≤ 255 ∧ Cur w' c (some ⟨b, off, none⟩) n k ∧ Turned c w w' := by
  unfold maxLen at hn
  go_enter Tryz.func147, Tryz.ntmps147
  go_wp2
  go_quiet (fail)
  go_wp2
  go_quiet (fail)
  go_wp2
  go_quiet (fail)
  go_wp2
  go_ret
  exact ⟨_, rfl, (and_255_bd _).1, (and_255_bd _).2, Cur.step1 _ _ h0 hj c0 c1 c2 f1 f2, (((Turned.refl _ _).setCell _ _).drewN _).setCell _ _⟩
set_option maxHeartbeats 1000000 in
theorem l1Byte_out (w : World) (c : Nat) (a : Option Addr) (n k j : Nat) (h : Int) (h0 : c < w.heap.size) (hj : n ≤ j) (hj' : j ≤ n) (c0 : w.cell? ⟨c, 0, none⟩ = some (.slice a n k)) (c1 : w.cell? ⟨c, 1, none⟩ = some (.int .i64 j)) (c2 : w.cell? ⟨c, 2, none⟩ = some (.int .i64 h))
    (f1 : w.frozen? ⟨c, 1, none⟩ = false) (f2 : w.frozen? ⟨c, 2, none⟩ = false) :
    Calls Tryz.prog 147 #[.pointer (some ⟨c, 0, none⟩)] w fun e w' => ∃ y : Int, e = .returned (.int .i64 y) ∧ 0 ≤ y ∧ y ≤ 255 ∧ Cur w' c a n k ∧ Turned c w w' := by
  have hd : decide ((j : Int) < (n : Int)) = false := by simp; omega
  go_enter Tryz.func147, Tryz.ntmps147
  go_wp2
  go_quiet (fail)
  go_wp2
  go_quiet (fail)
  go_wp2
  go_ret
  exact ⟨_, rfl, (and_255_bd _).1, (and_255_bd _).2, Cur.drewN (Cur.step0 _ _ h0 hj' c0 c1 c2 f1 f2) _, (((Turned.refl _ _).setCell _ _).drewN _).drewN _⟩
theorem l1Byte_any (w : World) (B c : Nat) (a : Option Addr) (n k : Nat) (hc : Cur w c a n k) (hb : Bytes w B a n) (hB : B ≤ c) :
    Calls Tryz.prog 147 #[.pointer (some ⟨c, 0, none⟩)] w fun e w' => ∃ y : Int, e = .returned (.int .i64 y) ∧ 0 ≤ y ∧ y ≤ 255 ∧ Cur w' c a n k ∧ Turned c w w' := by
  obtain ⟨j, h, h0, hj, c0, c1, c2, f1, f2⟩ := hc
  obtain ⟨hn, hb⟩ := hb
  by_cases hlt : j < n
  · rcases hb with hb | ⟨b, off, rfl, hbB, hx⟩
    · omega
    · obtain ⟨x, hx, hx0, hx1⟩ := hx j hlt
      exact l1Byte_in w c n k j b off h x h0 hlt hn c0 c1 c2 f1 f2 (by omega) hx hx0 hx1
  · exact l1Byte_out w c a n k j h h0 (by omega) hj c0 c1 c2 f1 f2
set_option maxHeartbeats 1000000 in
theorem l1Below_small (w : World) (B c : Nat) (a : Option Addr) (n k : Nat) (m : Int) (hc : Cur w c a n k) (hb : Bytes w B a n) (hB : B ≤ c) (hm : 0 < m) (hm' : m ≤ 256) :
    Calls Tryz.prog 77 #[.pointer (some ⟨c, 0, none⟩), .int .i64 m] w fun e w' => ∃ y : Int, e = .returned (.int .i64 y) ∧ 0 ≤ y ∧ y < m ∧ Cur w' c a n k ∧ Turned c w w' := by
  go_enter Tryz.func77, Tryz.ntmps77
  go_wp2_with fail
  refine (l1Byte_any _ B c a n k hc hb hB).mono ?_
  rintro e w1 ⟨y, rfl, hy0, hy1, hc1, ht1⟩
  go_wp2
  go_ret
  exact ⟨y % m, rfl, Int.emod_nonneg _ (by omega), Int.emod_lt_of_pos _ hm, hc1, ht1⟩
set_option maxHeartbeats 1000000 in
theorem l1Below_great (w : World) (B c : Nat) (a : Option Addr) (n k : Nat) (m : Int) (hc : Cur w c a n k) (hb : Bytes w B a n) (hB : B ≤ c) (hm : 256 < m) :
    Calls Tryz.prog 77 #[.pointer (some ⟨c, 0, none⟩), .int .i64 m] w fun e w' => ∃ y : Int, e = .returned (.int .i64 y) ∧ 0 ≤ y ∧ y < m ∧ Cur w' c a n k ∧ Turned c w w' := by
  have d1 : decide (m ≤ 0) = false := by simp; omega
  have d2 : decide (m ≤ 256) = false := by simp; omega
  have hBw : B ≤ w.heap.size := by obtain ⟨_, _, h0, _⟩ := hc; omega
  go_enter Tryz.func77, Tryz.ntmps77
  go_wp2_with fail
  refine (l1Byte_any _ B c a n k hc hb hB).mono ?_
  rintro e w1 ⟨y1, rfl, hy10, hy11, hc1, ht1⟩
  have hb1 := hb.below (ht1.below hB hBw)
  go_wp2_with fail
  refine (l1Byte_any _ B c a n k hc1 hb1 hB).mono ?_
  rintro e w2 ⟨y2, rfl, hy20, hy21, hc2, ht2⟩
  have hb2 := hb1.below (ht2.below hB (Nat.le_trans hBw ht1.size))
  go_wp2_with fail
  refine (l1Byte_any _ B c a n k hc2 hb2 hB).mono ?_
  rintro e w3 ⟨y3, rfl, hy30, hy31, hc3, ht3⟩
  have hb3 := hb2.below (ht3.below hB (Nat.le_trans hBw (Nat.le_trans ht1.size ht2.size)))
  go_wp2_with fail
  refine (l1Byte_any _ B c a n k hc3 hb3 hB).mono ?_
  rintro e w4 ⟨y4, rfl, hy40, hy41, hc4, ht4⟩
  go_wp2
  go_ret
  exact ⟨(y1 * 16777216 + y2 * 65536 + y3 * 256 + y4) % m, rfl, Int.emod_nonneg _ (by omega), Int.emod_lt_of_pos _ (by omega), hc4, ((ht1.trans ht2).trans ht3).trans ht4⟩
theorem l1Below_any (w : World) (B c : Nat) (a : Option Addr) (n k : Nat) (m : Int) (hc : Cur w c a n k) (hb : Bytes w B a n) (hB : B ≤ c) (hm : 0 < m) :
    Calls Tryz.prog 77 #[.pointer (some ⟨c, 0, none⟩), .int .i64 m] w fun e w' => ∃ y : Int, e = .returned (.int .i64 y) ∧ 0 ≤ y ∧ y < m ∧ Cur w' c a n k ∧ Turned c w w' := by
  by_cases h : m ≤ 256
  · exact l1Below_small w B c a n k m hc hb hB hm h
  · exact l1Below_great w B c a n k m hc hb hB (by omega)
set_option maxHeartbeats 1000000 in
theorem l1Once_any (w : World) (B c : Nat) (a : Option Addr) (n k : Nat) (m : Int) (hc : Cur w c a n k) (hb : Bytes w B a n) (hB : B ≤ c) (hm : 0 < m) :
    Calls Tryz.prog 76 #[.pointer (some ⟨c, 0, none⟩), .int .i64 m] w fun e w' => ∃ y : Bool, e = .returned (.bool y) ∧ Cur w' c a n k ∧ Turned c w w' := by
  go_enter Tryz.func76, Tryz.ntmps76
  go_wp2_with fail
  refine (l1Below_any _ B c a n k m hc hb hB hm).mono ?_
  rintro e w1 ⟨y, rfl, hy0, hy1, hc1, ht1⟩
  go_wp2
  go_ret
  exact ⟨y == 0, rfl, hc1, ht1⟩
set_option maxHeartbeats 1000000 in
theorem l1New_any (w : World) (a : Option Addr) (n k : Nat) (hb : Bytes w w.heap.size a n) (hn : n ≤ 4096) :
    Calls Tryz.prog 46 #[.slice a n k] w fun e w' => ∃ c : Nat, e = .returned (.pointer (some ⟨c, 0, none⟩)) ∧ w.heap.size ≤ c ∧ Cur w' c a n k ∧ Below w.heap.size w w' := by
  obtain ⟨hm, hb⟩ := hb
  go_enter Tryz.func46, Tryz.ntmps46
  go_wp2
  go_loop [3, 4] (fun u i => ∃ (j : Nat) (h : Int), j ≤ n ∧ i = .int .i64 j ∧ u = .int .i64 h) (fun _ i => n - (intOf i).toNat)
  case atStart => exact ⟨0, _, Nat.zero_le _, rfl, rfl⟩
  case round =>
    obtain ⟨j, h, hj, rfl, rfl⟩ := hrel
    by_cases hlt : j < n
    · rcases hb with hb | ⟨b, off, rfl, hbB, hx⟩
      · omega
      · obtain ⟨x, hx, hx0, hx1⟩ := hx j hlt
        go_wp2
        go_round
        case rel => exact ⟨j + 1, _, hlt, by go_num, rfl⟩
        case measure => simp [intOf]; omega
    · go_wp2
      go_ret
      refine ⟨w.heap.size, rfl, Nat.le_refl _, ?_, (Below.refl _ _).alloc (Nat.le_refl _) _⟩
      exact Cur.new w a n k h _
/-- A new block of integers holds one at each place. -/
theorem new_int (w : World) (zs : List Int) (t : TypeId) (i : Nat) (hi : i < zs.length) : ∃ x : Int, (w.alloc (.cells (zs.map fun z => Value.int .i64 z).toArray t)).cell? ⟨w.heap.size, i, none⟩ = some (.int .i64 x) := by
  refine ⟨zs[i], ?_⟩
  rw [World.cell?_alloc_new]
  simp [hi]
theorem Cur.lt {w : World} {c : Nat} {a : Option Addr} {n k : Nat} (h : Cur w c a n k) : c < w.heap.size := by obtain ⟨_, _, h0, _⟩ := h; exact h0
/-- The same behind a call that turned the cursor alone. -/
theorem new_int_turned {w w' : World} {c : Nat} (zs : List Int) (t : TypeId) (hc : c < w.heap.size) (ht : Turned c (w.alloc (.cells (zs.map fun z => Value.int .i64 z).toArray t)) w') (i : Nat) (hi : i < zs.length) : ∃ x : Int, w'.cell? ⟨w.heap.size, i, none⟩ = some (.int .i64 x) := by
  obtain ⟨x, hx⟩ := new_int w zs t i hi
  exact ⟨x, (World.cell?_of_block (a := ⟨w.heap.size, i, none⟩) (ht.block w.heap.size (by simp) (by omega))).trans hx⟩
theorem Turned.put {c b : Nat} {a w : World} (h : Turned c a w) (hb : a.heap.size ≤ b) (o : Nat) (u : Value) : Turned c a (w.setCell ⟨b, o, none⟩ u) :=
  ⟨h.os, h.tape, h.output, by have := h.size; simpa [World.setCell] using this, fun k hk hc => (Below.heap_setCell _ _ _ _ (by simp; omega)).trans (h.block k hk hc)⟩
theorem Cur.put {w : World} {c b : Nat} {a : Option Addr} {n k : Nat} (h : Cur w c a n k) (hb : b ≠ c) (o : Nat) (u : Value) : Cur (w.setCell ⟨b, o, none⟩ u) c a n k := by
  obtain ⟨j, x, h0, hj, c0, c1, c2, f1, f2⟩ := h
  exact ⟨j, x, by simpa [World.setCell] using h0, hj, by rw [cell_set_far (by simpa using hb)]; exact c0, by rw [cell_set_far (by simpa using hb)]; exact c1, by rw [cell_set_far (by simpa using hb)]; exact c2, by rw [World.frozen?_setCell]; exact f1, by rw [World.frozen?_setCell]; exact f2⟩
end Go.Proofs.YtooalbdlknheeaaGreat
