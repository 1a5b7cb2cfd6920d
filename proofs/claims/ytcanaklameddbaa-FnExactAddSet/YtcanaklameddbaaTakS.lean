/- The pile in memory: the least is taken out; all are taken out in order. -/
import Derived.Test.YtcanaklameddbaaRows
import Derived.Test.YtcanaklameddbaaSnkS
import Derived.WalkKit
import Derived.WalkSpells
import Derived.WalkLawsBesides
import Derived.Below
import Derived.Deep.CutRange
namespace Go.Proofs.Ytcanaklameddbaa
open Go.RowKit
theorem SetAt.of_blk {W V : World} {b o : Nat} {s : S5} (h : SetAt W b o s) (e : V.heap[b]? = W.heap[b]?) : SetAt V b o s :=
  ⟨(World.cell?_of_block (a := ⟨b, o, none⟩) e).trans h.c0, (World.cell?_of_block (a := ⟨b, o + 1, none⟩) e).trans h.c1, (World.cell?_of_block (a := ⟨b, o + 2, none⟩) e).trans h.c2, (World.cell?_of_block (a := ⟨b, o + 3, none⟩) e).trans h.c3, (World.cell?_of_block (a := ⟨b, o + 4, none⟩) e).trans h.c4⟩
theorem Pis.trunc {W : World} {base p q mb n cap : Nat} {xs : List S5} (h : Pis W base p q mb n cap xs) (m : Nat) (hm : m ≤ xs.length) : Pis (W.setCell ⟨p, 0, none⟩ (.slice (some ⟨q, 0, none⟩) m cap)) base p q mb n cap (xs.take m) := by
  have hlm : (xs.take m).length = m := by rw [List.length_take]; omega
  have hq : (W.setCell ⟨p, 0, none⟩ (.slice (some ⟨q, 0, none⟩) m cap)).heap[q]? = W.heap[q]? := Below.heap_setCell _ _ _ _ (fun e => h.pq e.symm)
  refine ⟨by rw [hlm]; exact cell_set_same h.c0, (cell_set_other (by omega)).trans h.c1, fun j => by rw [World.frozen?_setCell]; exact h.fz j, fun i s e => ?_, fun j hj => ?_, by have := h.cp; omega, h.mp.of_block (Below.heap_setCell _ _ _ _ (fun e => h.pm e.symm)), fun s hs => h.ok s (List.mem_of_mem_take hs), h.pq, h.pm, h.qm, h.bp, h.bq, h.bm, by simpa [World.setCell] using h.lp, by simpa [World.setCell] using h.lq⟩
  · rw [List.getElem?_take] at e
    split at e
    · exact (h.at_.of_block hq) i s e
    · cases e
  · exact (h.rm.of_block hq) j (by rw [hlm] at hj; have : m * 5 ≤ xs.length * 5 := Nat.mul_le_mul_right 5 hm; omega)
theorem seLast {xs : List S5} {m : Nat} {x y : S5} (hl : xs.length = m + 1) (hx : xs[0]? = some x) (hy : xs[m]? = some y) : ((xs.set 0 y).set m x)[m]? = some x ∧ xs.Perm (x :: ((xs.set 0 y).set m x).take m) := by
  have h1 : ((xs.set 0 y).set m x)[m]? = some x := by rw [List.getElem?_set_self (by simp; omega)]
  have h2 := HeapP.set_set_perm xs 0 m x y hx hy
  have hlz : ((xs.set 0 y).set m x).length = m + 1 := by simpa using hl
  refine ⟨h1, h2.symm.trans ?_⟩
  generalize (xs.set 0 y).set m x = zs at *
  have h3 : zs = zs.take m ++ [x] := by
    have e : zs.take (m + 1) = zs := List.take_of_length_le (by omega)
    have := List.take_add_one (l := zs) (i := m)
    rw [h1, e] at this
    simpa using this
  exact (List.Perm.of_eq h3).trans List.perm_append_comm
set_option maxRecDepth 100000 in
set_option maxHeartbeats 8000000 in
theorem seTake_any (w : World) (base p q mb n cap m : Nat) (xs : List S5) (x : S5) (h : Pis w base p q mb n cap xs) (hn : n ≤ 9000) (hl : xs.length = m + 1) (hl2 : m ≤ 100) (hx : xs[0]? = some x) (hu : HeapP.Hp (seK xs) xs.length) :
    Calls Try.prog 97 #[.pointer (some ⟨p, 0, none⟩)] w fun e w' => e = .returned (.agg #[.int .i64 x.region, .int .i64 x.slot, .int .i64 x.value, .bool x.used, .int .i64 x.version]) ∧ ∃ n' ys, n' ≤ n + 2 + 2 * m ∧ Pis w' base p q mb n' cap ys ∧ xs.Perm (x :: ys) ∧ HeapP.Hp (seK ys) ys.length ∧ KeptP (OfP p q mb) w w' := by
  obtain ⟨y, hy⟩ : ∃ y, xs[m]? = some y := ⟨_, List.getElem?_eq_getElem (by omega)⟩
  obtain ⟨W0, hW0⟩ : ∃ W, W = w.alloc (.cells #[.int .i64 0, .int .i64 0, .int .i64 0, .bool false, .int .i64 0] 36) := ⟨_, rfl⟩
  have b0 : Below w.heap.size w W0 := by rw [hW0]; exact (Below.refl _ _).alloc (Nat.le_refl _) _
  have h0 := h.later b0
  have zr : W0.heap[w.heap.size]? = some (.cells #[.int .i64 0, .int .i64 0, .int .i64 0, .bool false, .int .i64 0] 36 (0, 0)) := by rw [hW0]; exact heap_alloc_new w _
  have p0 := h0.c0
  rw [hl, hW0] at p0
  have hgs : IntKind.i64.wrap (((m + 1 : Nat) : Int) - 1) = (m : Int) := by simp [IntKind.wrap, IntKind.bits, IntKind.signed]; omega
  have c1 := seSwap_any W0 base p q mb n cap xs 0 m x y h0 (by omega) (by omega) hx hy
  obtain ⟨hz1, hz2⟩ := seLast hl hx hy
  have hdn : HeapP.HpDn (seK (((xs.set 0 y).set m x).take m)) m 0 := by
    rw [hl] at hu
    have hd := HeapP.HpDn.of_top hu
    have hfun : seK ((xs.set 0 y).set m x) = HeapP.swF (seK xs) 0 m := funext fun k => seK_swap hx hy k
    rw [← hfun] at hd
    refine hd.congr (fun i hi => ?_)
    unfold seK atSe
    rw [List.getElem?_take, if_pos hi]
  have H : Hid (Below w.heap.size w W0 ∧ w.heap.size < W0.heap.size ∧ W0.heap[w.heap.size]? = some (.cells #[.int .i64 0, .int .i64 0, .int .i64 0, .bool false, .int .i64 0] 36 (0, 0)) ∧ ((xs.set 0 y).set m x)[m]? = some x ∧ xs.Perm (x :: ((xs.set 0 y).set m x).take m) ∧ HeapP.HpDn (seK (((xs.set 0 y).set m x).take m)) m 0 ∧ setOkB x = true ∧ p ≠ w.heap.size ∧ q ≠ w.heap.size ∧ mb ≠ w.heap.size) := ⟨b0, by rw [hW0]; simp, zr, hz1, hz2, hdn, h.ok x (List.mem_of_getElem? hx), by have := h.lp; omega, by have := h.lq; omega, by have := h.mp.lt; omega⟩
  have hzl : ((xs.set 0 y).set m x).length = m + 1 := by simpa using hl
  clear h h0 b0 zr hz1 hz2 hdn hu hx hy
  generalize (xs.set 0 y).set m x = zs at *
  go_enter Try.func97, Try.ntmps97
  go_wp2_with fail
  rw [← hW0]
  clear hW0
  refine c1.mono ?_
  clear c1 p0
  rintro e w1 ⟨rfl, p1, k1⟩
  have e0 := p1.c0
  rw [hzl] at e0
  obtain ⟨t0, t1, t2, t3, t4⟩ := (show SetAt w1 q (m * 5) x by simpa using p1.at_ m x H.out.2.2.2.1)
  have mx : (m : Int) < ((m + 1 : Nat) : Int) := by omega
  obtain ⟨W1, hW1⟩ : ∃ W, W = w1.alloc (.cells #[.int .i64 x.region, .int .i64 x.slot, .int .i64 x.value, .bool x.used, .int .i64 x.version] 36) := ⟨_, rfl⟩
  have b1 : Below w1.heap.size w1 W1 := by rw [hW1]; exact (Below.refl _ _).alloc (Nat.le_refl _) _
  have z1 : W1.heap.size = w1.heap.size + 1 := by rw [hW1]; simp
  have e1 : W1.cell? ⟨p, 0, none⟩ = some (.slice (some ⟨q, 0, none⟩) (m + 1) cap) := (b1.cell (p := ⟨p, 0, none⟩) p1.lp).trans e0
  have f1 := (p1.later b1).fz 0
  have hcap := p1.cp
  rw [hzl] at hcap
  have bx1 : SetAt W1 w1.heap.size 0 x := by rw [hW1]; exact SetAt.box w1 x _
  have pt := (p1.later b1).trunc m (by omega)
  obtain ⟨W2, hW2⟩ : ∃ W, W = W1.setCell ⟨p, 0, none⟩ (.slice (some ⟨q, 0, none⟩) m cap) := ⟨_, rfl⟩
  rw [← hW2] at pt
  have hpw : p ≠ w1.heap.size := by have := p1.lp; omega
  have bx2 : SetAt W2 w1.heap.size 0 x := by
    rw [hW2]
    exact SetAt.of_blk bx1 (Below.heap_setCell _ _ _ _ (fun e => hpw e.symm))
  have K2 : Hid (Pis W2 base p q mb (n + 1 + 1) cap (zs.take m) ∧ SetAt W2 w1.heap.size 0 x ∧ KeptP (OfP p q mb) w W2 ∧ w1.heap.size < W2.heap.size ∧ W2.heap[w.heap.size]? = some (.cells #[.int .i64 0, .int .i64 0, .int .i64 0, .bool false, .int .i64 0] 36 (0, 0)) ∧ w.heap.size < w1.heap.size ∧ p ≠ w1.heap.size ∧ q ≠ w1.heap.size ∧ mb ≠ w1.heap.size) := by
    have kk : KeptP (OfP p q mb) w1 W2 := by
      rw [hW2]
      exact (KeptP.of_below b1).trans (KeptP.of_set _ _ (.inl rfl))
    have hnw : ¬ OfP p q mb w.heap.size := by
      rintro (e | e | e)
      · exact H.out.2.2.2.2.2.2.2.1 e.symm
      · exact H.out.2.2.2.2.2.2.2.2.1 e.symm
      · exact H.out.2.2.2.2.2.2.2.2.2 e.symm
    have k02 := k1.trans kk
    exact ⟨pt, bx2, (KeptP.of_below H.out.1).trans k02, by rw [hW2]; simp [World.setCell, z1], (k02.block _ H.out.2.1 hnw).trans H.out.2.2.1, Nat.lt_of_lt_of_le H.out.2.1 k1.size, hpw, by have := p1.lq; omega, by have := p1.mp.lt; omega⟩
  clear p1 k1 b1 z1 bx1 bx2 pt hpw
  rw [hW1] at hW2 e1 f1
  have hmc : (m : Int) ≤ (cap : Int) := by omega
  go_upto_region 5 with fail
  rw [← hW2]
  clear hW2 hW1 e0 e1 f1 t0 t1 t2 t3 t4 W1
  have hk := seOk_in H.out.2.2.2.2.2.2.1
  obtain ⟨lb, hlb⟩ : ∃ lb, lb = w1.heap.size := ⟨_, rfl⟩
  rw [← hlb] at K2 ⊢
  have HLB : Hid (lb = w1.heap.size) := hlb
  clear hlb
  have hS : (fun X : World => X.cell? ⟨p, 1, none⟩ = some (.map (some mb)) ∧ SetAt X lb 0 x) W2.drew := ⟨K2.out.1.c1, K2.out.2.1.below ((Below.refl W2.heap.size W2).drew) K2.out.2.2.2.1⟩
  have hm : ∀ w : World, (method 244 36 (.agg #[.int .i64 x.region, .int .i64 x.slot, .int .i64 x.value, .bool x.used, .int .i64 x.version]) "loop.example/g00153/impl.cell").run Try.prog w = .ok (51, .agg #[.int .i64 x.region, .int .i64 x.slot, .int .i64 x.value, .bool x.used, .int .i64 x.version]) w := fun _ => by kernel_rfl
  refine wp_region_z (fun _ => false) (fun X : World => X.cell? ⟨p, 1, none⟩ = some (.map (some mb)) ∧ SetAt X lb 0 x) (by kernel_rfl) ?_
  have KD : Hid (Below W2.heap.size W2 W2.drew) := (Below.refl _ _).drew
  generalize W2.drew = Wd at *
  refine wpZ_takeP (i := 0) (v := ?_) rfl (by kernel_rfl) (fun _ _ _ h => h) (Or.inl ⟨by rfl, ?_⟩) hS ?_
  rotate_left
  · (intro w _; go_simp; first | done | with_reducible rfl | (rw [if_pos (by omega)]) | (rw [if_pos (by omega)]; go_simp))
  simp only [Act.put]
  refine wpZ_takeP (i := 1) (v := ?_) rfl (by kernel_rfl) (fun _ _ _ h => h) (Or.inl ⟨by rfl, ?_⟩) hS ?_
  rotate_left
  · (intro w _; go_simp; first | done | with_reducible rfl | (rw [if_pos (by omega)]) | (rw [if_pos (by omega)]; go_simp))
  simp only [Act.put]
  refine wpZ_takeP (i := 2) (v := ?_) rfl (by kernel_rfl) (fun _ _ _ h => h) (Or.inl ⟨by rfl, ?_⟩) hS ?_
  rotate_left
  · (intro w _; go_simp; first | done | with_reducible rfl | (rw [if_pos (by omega)]) | (rw [if_pos (by omega)]; go_simp))
  simp only [Act.put]
  refine wpZ_take (i := 3) (v := ?_) rfl (by kernel_rfl) (fun _ _ _ h => h) (Or.inl ⟨by rfl, ?_⟩) hS ?_
  rotate_left
  · (intro w hSw; obtain ⟨s1, ⟨a0, a1, a2, a3, a4⟩⟩ := hSw; go_simp; first | done | with_reducible rfl)
  simp only [Act.put]
  refine wpZ_take (i := 4) (v := ?_) rfl (by kernel_rfl) (fun _ _ _ h => h) (Or.inl ⟨by rfl, ?_⟩) hS ?_
  rotate_left
  · (intro w hSw; obtain ⟨s1, ⟨a0, a1, a2, a3, a4⟩⟩ := hSw; go_simp; first | done | with_reducible rfl)
  simp only [Act.put]
  refine wpZ_takeP (i := 5) (v := ?_) rfl (by kernel_rfl) (fun _ _ _ h => h) (Or.inl ⟨by rfl, ?_⟩) hS ?_
  rotate_left
  · (intro w _; go_simp; first | done | with_reducible rfl | (rw [if_pos (by omega)]) | (rw [if_pos (by omega)]; go_simp))
  simp only [Act.put]
  refine wpZ_ready (rs := [6]) (by kernel_rfl) (by simp) ?_
  refine AllZ.cons rfl (fun K hK => ?_) AllZ.nil
  go_simp
  refine (seCell_any Wd x).mono ?_
  rintro e X2 ⟨rfl, b2⟩
  have bX : Below W2.heap.size W2 X2 := KD.out.trans (b2.mono KD.out.size)
  have P2 := K2.out.1.later bX
  obtain ⟨Y, hst, hmY, htY, hsY⟩ := P2.mp.drop hk.1 hk.2 0
  have P3 := P2.turnM htY hmY hsY
  have hS2 : (fun X : World => X.cell? ⟨p, 1, none⟩ = some (.map (some mb)) ∧ SetAt X lb 0 x) X2 := ⟨P2.c1, K2.out.2.1.below bX K2.out.2.2.2.1⟩
  have K3 : Hid (Pis Y base p q mb (n + 1 + 1) cap (zs.take m) ∧ SetAt Y lb 0 x ∧ KeptP (OfP p q mb) w Y ∧ lb < Y.heap.size ∧ Y.heap[w.heap.size]? = some (.cells #[.int .i64 0, .int .i64 0, .int .i64 0, .bool false, .int .i64 0] 36 (0, 0)) ∧ w.heap.size < lb ∧ p ≠ lb ∧ q ≠ lb ∧ mb ≠ lb) := by
    obtain ⟨_, g1, g2, g3, g4, g5, g6, g7, g8⟩ := K2.out
    have hbx := bX.size
    refine ⟨P3, SetAt.of_blk (hS2.2) (htY.block lb (by omega) (Ne.symm g8)), (g2.trans (KeptP.of_below bX)).trans (KeptP.of_turned htY (.inr (.inr rfl))), by rw [hsY]; omega, ?_, g5, g6, g7, g8⟩
    exact (htY.block _ (by omega) (fun e => H.out.2.2.2.2.2.2.2.2.2 e.symm)).trans ((bX.block _ (by omega)).trans g4)
  simp only [cKey] at hst
  refine hK.out _ _ (fun _ => hS2) ?_
  have hS3 : (fun X : World => X.cell? ⟨p, 1, none⟩ = some (.map (some mb)) ∧ SetAt X lb 0 x) Y := ⟨K3.out.1.c1, K3.out.2.1⟩
  clear hK K hS2 hS P2 P3 bX KD hmY htY hsY hm hk b2 K2
  refine wpZ_ready (rs := [7]) (by kernel_rfl) (by simp) ?_
  refine AllZ.cons rfl (fun K hK => ?_) AllZ.nil
  go_simp
  refine hK.out _ _ (fun _ => hS3) ?_
  clear hK K hst hS3
  refine wpZ_done (by kernel_rfl) ?_ _
  have hlt : (zs.take m).length = m := by rw [List.length_take]; omega
  have c3 := seSink_any Y base p q mb (n + 1 + 1) cap (zs.take m) K3.out.1 (by omega) (by omega) (by rw [hlt]; exact H.out.2.2.2.2.2.1)
  rw [hlt] at c3
  have HLT := hidOf hlt
  clear hlt
  go_wp2_with fail
  refine c3.mono ?_
  clear c3
  rintro e w5 ⟨rfl, n5, ys, hn5, p5, pm5, hp5, k5⟩
  have nOf : ∀ b, b ≠ p → b ≠ q → b ≠ mb → ¬ OfP p q mb b := fun b h1 h2 h3 h => by rcases h with h | h | h; exact h1 h; exact h2 h; exact h3 h
  obtain ⟨_, g1, g2, g3, g4, g5, g6, g7, g8⟩ := K3.out
  obtain ⟨t0, t1, t2, t3, t4⟩ := SetAt.of_blk g1 (k5.block lb g3 (nOf lb (Ne.symm g6) (Ne.symm g7) (Ne.symm g8)))
  have zr5 := (k5.block w.heap.size (by omega) (nOf _ (Ne.symm H.out.2.2.2.2.2.2.2.1) (Ne.symm H.out.2.2.2.2.2.2.2.2.1) (Ne.symm H.out.2.2.2.2.2.2.2.2.2))).trans g4
  have r0 : w5.cell? ⟨w.heap.size, 0, none⟩ = some (.int .i64 0) := by rw [cell_of_row w5 _ 0 _ _ _ zr5]; rfl
  have r1 : w5.cell? ⟨w.heap.size, 1, none⟩ = some (.int .i64 0) := by rw [cell_of_row w5 _ 1 _ _ _ zr5]; rfl
  have r2 : w5.cell? ⟨w.heap.size, 2, none⟩ = some (.int .i64 0) := by rw [cell_of_row w5 _ 2 _ _ _ zr5]; rfl
  have r3 : w5.cell? ⟨w.heap.size, 3, none⟩ = some (.bool false) := by rw [cell_of_row w5 _ 3 _ _ _ zr5]; rfl
  have r4 : w5.cell? ⟨w.heap.size, 4, none⟩ = some (.int .i64 0) := by rw [cell_of_row w5 _ 4 _ _ _ zr5]; rfl
  have q0 : w5.frozen? ⟨w.heap.size, 0, none⟩ = false := frozen_of_row w5 _ 0 _ _ zr5
  have q1 : w5.frozen? ⟨w.heap.size, 1, none⟩ = false := frozen_of_row w5 _ 1 _ _ zr5
  have q2 : w5.frozen? ⟨w.heap.size, 2, none⟩ = false := frozen_of_row w5 _ 2 _ _ zr5
  have q3 : w5.frozen? ⟨w.heap.size, 3, none⟩ = false := frozen_of_row w5 _ 3 _ _ zr5
  have q4 : w5.frozen? ⟨w.heap.size, 4, none⟩ = false := frozen_of_row w5 _ 4 _ _ zr5
  have KE : Hid (n5 ≤ n + 2 + 2 * m ∧ Pis w5 base p q mb n5 cap ys ∧ xs.Perm (x :: ys) ∧ HeapP.Hp (seK ys) ys.length ∧ KeptP (OfP p q mb) w w5) := ⟨by omega, p5, H.out.2.2.2.2.1.trans (List.Perm.cons x pm5.symm), hp5, g2.trans k5⟩
  have HP : Hid (p ≠ w.heap.size ∧ q ≠ w.heap.size ∧ mb ≠ w.heap.size) := H.out.2.2.2.2.2.2.2
  simp only [Nat.zero_add] at t0 t1 t2 t3 t4
  clear g1 g2 g3 g4 g5 g6 g7 g8 zr5 nOf p5 pm5 hp5 k5 hn5 H K3 hzl HLT hcap
  go_wp2
  refine bodyPost_ret (v := .agg #[.int .i64 x.region, .int .i64 x.slot, .int .i64 x.value, .bool x.used, .int .i64 x.version]) (by simp [results, Try.results97, go_sem, r0, r1, r2, r3, r4]) rfl ⟨rfl, n5, ys, KE.out.1, ?_, KE.out.2.2.1, KE.out.2.2.2.1, ?_⟩
  · refine KE.out.2.1.keep (by simp [World.setCell]) (fun b hb => ?_)
    have hbn : b ≠ w.heap.size := by
      rcases hb with rfl | rfl | rfl
      · exact HP.out.1
      · exact HP.out.2.1
      · exact HP.out.2.2
    exact (Below.heap_setCell _ _ _ _ hbn).trans ((Below.heap_setCell _ _ _ _ hbn).trans ((Below.heap_setCell _ _ _ _ hbn).trans ((Below.heap_setCell _ _ _ _ hbn).trans (Below.heap_setCell _ _ _ _ hbn))))
  · have kk := KE.out.2.2.2.2
    refine ⟨kk.os, kk.tape, kk.output, by simpa [World.setCell] using kk.size, fun b hb hnb => ?_⟩
    have hbn : b ≠ w.heap.size := by omega
    exact ((Below.heap_setCell _ _ _ _ hbn).trans ((Below.heap_setCell _ _ _ _ hbn).trans ((Below.heap_setCell _ _ _ _ hbn).trans ((Below.heap_setCell _ _ _ _ hbn).trans (Below.heap_setCell _ _ _ _ hbn))))).trans (kk.block b hb hnb)
end Go.Proofs.Ytcanaklameddbaa
