/- FindI; Opens; OpenCells: joined. -/
import Derived.Test.YtalmflikdnflfaaGreatRows
import Derived.Test.YtalmflikdnflfaaGreatJ45ExactFind
import Derived.WalkKit
import Derived.WalkSpells
import Derived.WalkLawsBesides
import Derived.Below
import Derived.Lib.QuietBelow
import Derived.BigQuiet
import Derived.Deep.CutRange
import Derived.Test.YtalmflikdnflfaaGreatJ1ExactFind
import Derived.ProofKit
import Derived.OpenShut
import Derived.Test.YtalmflikdnflfaaGreatCellsJ
import Derived.Deep.Slices
import Derived.Lib.SmallJoins
/- Find, by the program. -/
namespace Go.Proofs.YtalmflikdnflfaaGreat
open Go.RowKit
open Go.Sort (grow)
set_option maxRecDepth 100000 in
set_option maxHeartbeats 4000000 in
theorem implFind_any (w : World) (a1 : Option Addr) (c1 : Nat) (a2 : Option Addr) (c2 : Nat) (a3 : Option Addr) (c3 : Nat) (k : C6) (y : Int) (hl : KCl.L k) (h : KCl.Rd w a1 c1 a2 c2 a3 c3 k) : Calls Tryz.prog 13 #[.agg #[.int .i64 k.config, .int .i64 k.clock, .slice a1 k.places.length c1, .slice a2 k.machines.length c2, .slice a3 k.txs.length c3, .bool k.lost], .int .i64 y] w (FAns w (findT k y) (findB k y)) := by
  obtain ⟨U, hU⟩ : ∃ Y, Y = (w.alloc (.cells #[.int .i64 k.config, .int .i64 k.clock, .slice a1 k.places.length c1, .slice a2 k.machines.length c2, .slice a3 k.txs.length c3, .bool k.lost] 33)).alloc (.cells #[.int .i64 0, .int .i64 0, .int .i64 0, .int .i64 0, .slice none 0 0, .slice none 0 0, .int .i64 0] 40) := ⟨_, rfl⟩
  have b0 : Below w.heap.size w (w.alloc (.cells #[.int .i64 k.config, .int .i64 k.clock, .slice a1 k.places.length c1, .slice a2 k.machines.length c2, .slice a3 k.txs.length c3, .bool k.lost] 33)) := (Below.refl _ _).alloc (Nat.le_refl _) _
  have b1 : Below (w.alloc (.cells #[.int .i64 k.config, .int .i64 k.clock, .slice a1 k.places.length c1, .slice a2 k.machines.length c2, .slice a3 k.txs.length c3, .bool k.lost] 33)).heap.size (w.alloc (.cells #[.int .i64 k.config, .int .i64 k.clock, .slice a1 k.places.length c1, .slice a2 k.machines.length c2, .slice a3 k.txs.length c3, .bool k.lost] 33)) U := by rw [hU]; exact (Below.refl _ _).alloc (Nat.le_refl _) _
  have FA : Hid (Bx U w.heap.size [.int .i64 k.config, .int .i64 k.clock, .slice a1 k.places.length c1, .slice a2 k.machines.length c2, .slice a3 k.txs.length c3, .bool k.lost]) := (Bx.made w [.int .i64 k.config, .int .i64 k.clock, .slice a1 k.places.length c1, .slice a2 k.machines.length c2, .slice a3 k.txs.length c3, .bool k.lost] 33).later b1
  have FZ : Hid (Bx U (w.heap.size + 1) [.int .i64 0, .int .i64 0, .int .i64 0, .int .i64 0, .slice none 0 0, .slice none 0 0, .int .i64 0]) := by
    have hx := Bx.made (w.alloc (.cells #[.int .i64 k.config, .int .i64 k.clock, .slice a1 k.places.length c1, .slice a2 k.machines.length c2, .slice a3 k.txs.length c3, .bool k.lost] 33)) [.int .i64 0, .int .i64 0, .int .i64 0, .int .i64 0, .slice none 0 0, .slice none 0 0, .int .i64 0] 40
    rw [show (w.alloc (.cells #[.int .i64 k.config, .int .i64 k.clock, .slice a1 k.places.length c1, .slice a2 k.machines.length c2, .slice a3 k.txs.length c3, .bool k.lost] 33)).heap.size = w.heap.size + 1 by simp] at hx
    unfold Hid; rw [hU]; exact hx
  have bU : Below w.heap.size w U := bstep b0 b1
  have HR : Hid (KCl.Rd U a1 c1 a2 c2 a3 c3 k ∧ KCl.L k ∧ Below w.heap.size w U) := ⟨h.later bU, hl, bU⟩
  clear b0 b1 bU h hl
  have hc := implClusterOk_any U a1 c1 a2 c2 a3 c3 k HR.out.2.1 HR.out.1
  go_enter Tryz.func13, Tryz.ntmps13
  go_wp2_with fail
  rw [← hU]
  clear hU
  refine hc.mono ?_
  clear hc
  rintro e w1 ⟨rfl, b1⟩
  have B1 := hidOf b1
  clear b1
  cases hB : clusterB k with
  | false =>
    have HN : Hid (findT k y = zT ∧ findB k y = false) := ⟨by simp [findT, findO, hB], by simp [findB, findO, hB]⟩
    have ZB : Hid (Bx w1 (w.heap.size + 1) [.int .i64 0, .int .i64 0, .int .i64 0, .int .i64 0, .slice none 0 0, .slice none 0 0, .int .i64 0]) := FZ.out.later B1.out
    have z0 := ZB.out.1 0 _ rfl
    have f0 := ZB.out.2.1 0
    have z1 := ZB.out.1 1 _ rfl
    have f1 := ZB.out.2.1 1
    have z2 := ZB.out.1 2 _ rfl
    have f2 := ZB.out.2.1 2
    have z3 := ZB.out.1 3 _ rfl
    have f3 := ZB.out.2.1 3
    have z4 := ZB.out.1 4 _ rfl
    have f4 := ZB.out.2.1 4
    have z5 := ZB.out.1 5 _ rfl
    have f5 := ZB.out.2.1 5
    have z6 := ZB.out.1 6 _ rfl
    have f6 := ZB.out.2.1 6
    have KW : Hid (Below w.heap.size w w1) := bstep HR.out.2.2 B1.out
    go_wp2
    refine bodyPost_ret (v := .tuple #[.agg #[.int .i64 0, .int .i64 0, .int .i64 0, .int .i64 0, .slice none 0 0, .slice none 0 0, .int .i64 0], .bool false]) (by simp [results, Tryz.results13, go_sem, z0, z1, z2, z3, z4, z5, z6]) rfl ?_
    rw [HN.out.1, HN.out.2]
    exact FAns.zero (putB_below (by omega) [.int .i64 0, .int .i64 0, .int .i64 0, .int .i64 0, .slice none 0 0, .slice none 0 0, .int .i64 0] _ 0 KW.out)
  | true =>
    have HU := hidOf (clu_up hB)
    have h60 := HU.out.2.2
    have p4 := (FA.out.later B1.out).1 4 _ rfl
    have hc := findTx_any w1 a3 c3 k.txs y (by omega) HU.out.1 (HR.out.1.t.later B1.out)
    go_wp2_with fail
    refine hc.mono ?_
    clear hc p4
    rintro e w2 ⟨j, rfl, hp, b2⟩
    have B2 : Hid (Below U.heap.size U w2) := bstep B1.out b2
    clear b2
    cases hF : foundT k.txs y j with
    | false =>
      have hf := find_neg HU.out.1 hp hF
      have HN : Hid (findT k y = zT ∧ findB k y = false) := ⟨by simp [findT, findO, hB, hf], by simp [findB, findO, hB, hf]⟩
      clear hf hp
      have ZB : Hid (Bx w2 (w.heap.size + 1) [.int .i64 0, .int .i64 0, .int .i64 0, .int .i64 0, .slice none 0 0, .slice none 0 0, .int .i64 0]) := FZ.out.later B2.out
      have z0 := ZB.out.1 0 _ rfl
      have f0 := ZB.out.2.1 0
      have z1 := ZB.out.1 1 _ rfl
      have f1 := ZB.out.2.1 1
      have z2 := ZB.out.1 2 _ rfl
      have f2 := ZB.out.2.1 2
      have z3 := ZB.out.1 3 _ rfl
      have f3 := ZB.out.2.1 3
      have z4 := ZB.out.1 4 _ rfl
      have f4 := ZB.out.2.1 4
      have z5 := ZB.out.1 5 _ rfl
      have f5 := ZB.out.2.1 5
      have z6 := ZB.out.1 6 _ rfl
      have f6 := ZB.out.2.1 6
      have KW : Hid (Below w.heap.size w w2) := bstep HR.out.2.2 B2.out
      go_wp2
      refine bodyPost_ret (v := .tuple #[.agg #[.int .i64 0, .int .i64 0, .int .i64 0, .int .i64 0, .slice none 0 0, .slice none 0 0, .int .i64 0], .bool false]) (by simp [results, Tryz.results13, go_sem, z0, z1, z2, z3, z4, z5, z6]) rfl ?_
      rw [HN.out.1, HN.out.2]
      exact FAns.zero (putB_below (by omega) [.int .i64 0, .int .i64 0, .int .i64 0, .int .i64 0, .slice none 0 0, .slice none 0 0, .int .i64 0] _ 0 KW.out)
    | true =>
      obtain ⟨hlt, hf⟩ := find_pos hp hF
      have HN : Hid (findT k y = atT k.txs j ∧ findB k y = true) := ⟨by simp [findT, findO, hB, hf], by simp [findB, findO, hB, hf]⟩
      clear hf hp
      rcases HR.out.1.t with hs | ⟨b, off, rfl, hb, h1⟩
      · rw [hs] at hlt; simp at hlt
      obtain ⟨⟨t0, t1, t2, t3⟩, hat, hrd⟩ := h1 j _ (atT_of hlt)
      have e0 : w2.cell? ⟨b, off + j * 7, none⟩ = some (.int .i64 (atT k.txs j).id) := (B2.out.cell (p := ⟨b, off + j * 7, none⟩) hb).trans (hat 0 _ rfl)
      have e1 : w2.cell? ⟨b, off + j * 7 + 1, none⟩ = some (.int .i64 (atT k.txs j).home) := (B2.out.cell (p := ⟨b, off + j * 7 + 1, none⟩) hb).trans (hat 1 _ rfl)
      have e2 : w2.cell? ⟨b, off + j * 7 + 2, none⟩ = some (.int .i64 (atT k.txs j).phase) := (B2.out.cell (p := ⟨b, off + j * 7 + 2, none⟩) hb).trans (hat 2 _ rfl)
      have e3 : w2.cell? ⟨b, off + j * 7 + 3, none⟩ = some (.int .i64 (atT k.txs j).count) := (B2.out.cell (p := ⟨b, off + j * 7 + 3, none⟩) hb).trans (hat 3 _ rfl)
      have e4 : w2.cell? ⟨b, off + j * 7 + 4, none⟩ = some (.slice t0 (atT k.txs j).reads.length t1) := (B2.out.cell (p := ⟨b, off + j * 7 + 4, none⟩) hb).trans (hat 4 _ rfl)
      have e5 : w2.cell? ⟨b, off + j * 7 + 5, none⟩ = some (.slice t2 (atT k.txs j).sets.length t3) := (B2.out.cell (p := ⟨b, off + j * 7 + 5, none⟩) hb).trans (hat 5 _ rfl)
      have e6 : w2.cell? ⟨b, off + j * 7 + 6, none⟩ = some (.int .i64 (atT k.txs j).stamp) := (B2.out.cell (p := ⟨b, off + j * 7 + 6, none⟩) hb).trans (hat 6 _ rfl)
      have p4 := (FA.out.later B2.out).1 4 _ rfl
      have hsh := tx_short (HU.out.2.1 j hlt)
      have hc := tx.ownTx_any w2 ⟨t0, t1, t2, t3⟩ (atT k.txs j) hsh.1 hsh.2 (hrd.later B2.out)
      simp only [tx.TV.val] at hc
      have jn : (j : Int) < (k.txs.length : Int) := by omega
      clear h1 hat hrd hsh
      go_wp2_with fail
      refine hc.mono ?_
      clear hc e0 e1 e2 e3 e4 e5 e6 p4
      rintro e w4 ⟨ra, rb, rc, rd, PR, PS, rfl, ot, b4⟩
      simp only [tx.TV.val]
      have KO : Hid (tx.OT w4 w2.heap.size ⟨ra, rb, rc, rd⟩ (atT k.txs j) PR PS ∧ Below U.heap.size U w4 ∧ w.heap.size + 1 < w2.heap.size) := ⟨ot, bstep B2.out b4, by have h1 := FZ.out.2.2; have h2 := B2.out.size; omega⟩
      clear ot b4
      have ZB : Hid (Bx w4 (w.heap.size + 1) [.int .i64 0, .int .i64 0, .int .i64 0, .int .i64 0, .slice none 0 0, .slice none 0 0, .int .i64 0]) := FZ.out.later KO.out.2.1
      have z0 := ZB.out.1 0 _ rfl
      have f0 := ZB.out.2.1 0
      have z1 := ZB.out.1 1 _ rfl
      have f1 := ZB.out.2.1 1
      have z2 := ZB.out.1 2 _ rfl
      have f2 := ZB.out.2.1 2
      have z3 := ZB.out.1 3 _ rfl
      have f3 := ZB.out.2.1 3
      have z4 := ZB.out.1 4 _ rfl
      have f4 := ZB.out.2.1 4
      have z5 := ZB.out.1 5 _ rfl
      have f5 := ZB.out.2.1 5
      have z6 := ZB.out.1 6 _ rfl
      have f6 := ZB.out.2.1 6
      go_wp2
      refine bodyPost_ret (v := .tuple #[.agg #[.int .i64 (atT k.txs j).id, .int .i64 (atT k.txs j).home, .int .i64 (atT k.txs j).phase, .int .i64 (atT k.txs j).count, .slice ra (atT k.txs j).reads.length rb, .slice rc (atT k.txs j).sets.length rd, .int .i64 (atT k.txs j).stamp], .bool true]) (by simp [results, Tryz.results13, go_sem, z0, z1, z2, z3, z4, z5, z6]) rfl ?_
      rw [HN.out.1, HN.out.2]
      exact FAns.put [.int .i64 (atT k.txs j).id, .int .i64 (atT k.txs j).home, .int .i64 (atT k.txs j).phase, .int .i64 (atT k.txs j).count, .slice ra (atT k.txs j).reads.length rb, .slice rc (atT k.txs j).sets.length rd, .int .i64 (atT k.txs j).stamp] KO.out.1 KO.out.2.2 (by omega) (bstep HR.out.2.2 KO.out.2.1)
end Go.Proofs.YtalmflikdnflfaaGreat
/- An argument that is a Set, opened: its value is five plain cells, each number of its kind. -/
namespace Go.Proofs.YtalmflikdnflfaaGreat
open Go.ChangeShapes Go.WideShapes Go.ChangeAt Go.RowKit
def S5.cells (s : S5) : List Value := [.int .i64 s.region, .int .i64 s.slot, .int .i64 s.value, .bool s.used, .int .i64 s.version]
def S5.wf (s : S5) : Prop := (Lit.int .i64 s.region).wf = true ∧ (Lit.int .i64 s.slot).wf = true ∧ (Lit.int .i64 s.value).wf = true ∧ (Lit.int .i64 s.version).wf = true
theorem list5 {α : Type} {cs : List α} (h : cs.length = 5) : ∃ c0 c1 c2 c3 c4, cs = [c0, c1, c2, c3, c4] := by
  match cs, h with
  | [c0, c1, c2, c3, c4], _ => exact ⟨c0, c1, c2, c3, c4, rfl⟩
theorem cells_set : Tryz.prog.cellsOf 228 = 5 := by kernel_rfl
theorem cells_int : Tryz.prog.cellsOf 2 = 1 := by kernel_rfl
theorem cells_bool : Tryz.prog.cellsOf 4 = 1 := by kernel_rfl
theorem open_set {H : Type} {enc : TypeId × Value → H} {w : World} {base : Nat} {spare : Nat → Bool} {held : Bool} {fuel : Nat} {cs : List Value} {x : DataW H × List MemPlace}
    (h : DataW.trod enc Tryz.prog w base spare held fuel 228 cs = some x) : ∃ s : S5, cs = s.cells ∧ s.wf := by
  obtain ⟨xs, n, _, rfl, hl, hlen, hf⟩ := DataW.trod_struct Tryz.underlying228 h
  rw [cells_set] at hl
  obtain ⟨c0, c1, c2, c3, c4, rfl⟩ := list5 hl
  obtain ⟨y0, y1, y2, y3, y4, rfl⟩ := list5 hlen
  have h0 := hf 0 _ rfl
  have h1 := hf 1 _ rfl
  have h2 := hf 2 _ rfl
  have h3 := hf 3 _ rfl
  have h4 := hf 4 _ rfl
  simp [cells_int, cells_bool] at h0 h1 h2 h3 h4
  obtain ⟨z0, e0, _, f0⟩ := DataW.trod_int Tryz.underlying2 h0
  obtain ⟨z1, e1, _, f1⟩ := DataW.trod_int Tryz.underlying2 h1
  obtain ⟨z2, e2, _, f2⟩ := DataW.trod_int Tryz.underlying2 h2
  obtain ⟨z3, e3, _⟩ := DataW.trod_bool Tryz.underlying4 h3
  obtain ⟨z4, e4, _, f4⟩ := DataW.trod_int Tryz.underlying2 h4
  simp at e0 e1 e2 e3 e4
  subst e0 e1 e2 e3 e4
  exact ⟨⟨z0, z1, z2, z3, z4⟩, rfl, f0, f1, f2, f4⟩
end Go.Proofs.YtalmflikdnflfaaGreat
/- An argument that is a row of cells, opened: cells in memory, two numbers each. -/
namespace Go.Proofs.YtalmflikdnflfaaGreat
open Go.ChangeShapes Go.WideShapes Go.ChangeAt Go.RowKit Go.Deep
theorem list2 {α : Type} {cs : List α} (h : cs.length = 2) : ∃ c0 c1, cs = [c0, c1] := by
  match cs, h with
  | [c0, c1], _ => exact ⟨c0, c1, rfl⟩
theorem cells_cell : Tryz.prog.cellsOf 279 = 2 := by kernel_rfl
theorem cells_num : Tryz.prog.cellsOf 2 = 1 := by kernel_rfl
theorem open_cell {H : Type} {enc : TypeId × Value → H} {w : World} {base : Nat} {spare : Nat → Bool} {held : Bool} {fuel : Nat} {cs : List Value} {x : DataW H × List MemPlace}
    (h : DataW.trod enc Tryz.prog w base spare held fuel 279 cs = some x) : ∃ s : C2, cs = s.cells := by
  obtain ⟨xs, n, _, rfl, hl, hlen, hf⟩ := DataW.trod_struct Tryz.underlying279 h
  rw [cells_cell] at hl
  obtain ⟨c0, c1, rfl⟩ := list2 hl
  obtain ⟨y0, y1, rfl⟩ := list2 hlen
  have h0 := hf 0 _ rfl
  have h1 := hf 1 _ rfl
  simp [cells_num] at h0 h1
  obtain ⟨z0, e0, _, _⟩ := DataW.trod_int Tryz.underlying2 h0
  obtain ⟨z1, e1, _, _⟩ := DataW.trod_int Tryz.underlying2 h1
  simp at e0 e1
  subst e0 e1
  exact ⟨⟨z0, z1⟩, rfl⟩
theorem some_of {α : Type} {p : Nat → α → Prop} (n : Nat) (h : ∀ i, i < n → ∃ x, p i x) : ∃ xs : List α, xs.length = n ∧ ∀ i x, xs[i]? = some x → p i x := by
  induction n with
  | zero => exact ⟨[], rfl, fun i x e => by simp at e⟩
  | succ n ih =>
    obtain ⟨xs, hl, hx⟩ := ih fun i hi => h i (by omega)
    obtain ⟨y, hy⟩ := h n (by omega)
    refine ⟨xs ++ [y], by simp [hl], fun i x e => ?_⟩
    by_cases hi : i < xs.length
    · rw [List.getElem?_append_left hi] at e
      exact hx i x e
    · rw [List.getElem?_append_right (by omega)] at e
      have : i = xs.length := by
        by_cases h2 : i - xs.length = 0
        · omega
        · rw [List.getElem?_eq_none (by simp; omega)] at e; cases e
      subst this
      simp at e
      subst e
      rw [hl]; exact hy
theorem open_cellrow {H : Type} {enc : TypeId × Value → H} {w : World} {spare : Nat → Bool} {held : Bool} {fuel : Nat} {cs : List Value} {x : DataW H × List MemPlace}
    (h : DataW.trod enc Tryz.prog w 0 spare held fuel 217 cs = some x) : ∃ a n cap xs, cs = [.slice a n cap] ∧ n ≤ maxLen ∧ SlC w w.heap.size a n xs := by
  rcases open_slice Tryz.underlying217 h with ⟨rfl, _⟩ | ⟨a, len, cap, m, n, D, Pl, rfl, _, hl, hm, hmm, _, hx⟩
  · exact ⟨none, 0, 0, [], rfl, Nat.zero_le _, ⟨rfl, .inl rfl⟩⟩
  · have hlm : len ≤ m := by rw [hmm]; split <;> omega
    have key : ∀ i, i < len → ∃ s : C2, ∀ k, k < 2 → w.cell? ((a.add (i * 2)).add k) = s.cells[k]? := fun i hi => by
      obtain ⟨cs', h1, h2⟩ := hx i (by omega)
      rw [cells_cell] at h1
      obtain ⟨s, rfl⟩ := open_cell h2
      exact ⟨s, (World.cells?_some h1).2.2⟩
    obtain ⟨xs, hlen, hxs⟩ := some_of len key
    refine ⟨some a, len, cap, xs, rfl, by omega, ⟨hlen, ?_⟩⟩
    by_cases h0 : len = 0
    · exact .inl h0
    · right
      obtain ⟨b, off, spot⟩ := a
      obtain ⟨s, hs⟩ := key 0 (by omega)
      have c0 : w.cell? ⟨b, off, spot⟩ = some (.int .i64 s.head) := by simpa [Addr.add, C2.cells] using hs 0 (by omega)
      have hspot : spot = none := by simpa using World.cell?_spot c0
      subst hspot
      refine ⟨b, off, rfl, block_lt_of_cell c0, fun i s e => ?_⟩
      have hk := hxs i s e
      simp only [add_plain] at hk
      exact ⟨by simpa [C2.cells] using hk 0 (by omega), by simpa [C2.cells] using hk 1 (by omega)⟩
end Go.Proofs.YtalmflikdnflfaaGreat
