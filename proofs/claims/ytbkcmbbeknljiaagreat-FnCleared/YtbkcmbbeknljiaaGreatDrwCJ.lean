/- What the specification draws for Turn and for Clear. -/
import Derived.Test.YtbkcmbbeknljiaaGreatRows
import Derived.Test.YtbkcmbbeknljiaaGreatDrwGJ
import Derived.WalkKit
import Derived.WalkSpells
import Derived.WalkLawsBesides
import Derived.Below
import Derived.Deep.CutRange
namespace Go.Proofs.YtbkcmbbeknljiaaGreat
open Go.RowKit
def DrawnT (w : World) (e : Ending) (w' : World) : Prop :=
  ∃ (v : MV) (d : M4) (x y : Int), e = .returned (.tuple #[v.val d, .int .i64 x, .int .i64 y]) ∧ SlM w' v d ∧ ML d ∧ Below w.heap.size w w'
def DrawnC (w : World) (e : Ending) (w' : World) : Prop :=
  ∃ (v : MV) (d : M4) (x y : Int) (b : Bool), e = .returned (.tuple #[v.val d, .int .i64 x, .int .i64 y, .bool b]) ∧ SlM w' v d ∧ ML d ∧ Below w.heap.size w w'
set_option maxHeartbeats 4000000 in
theorem DrawTurn_any (w : World) (a : Option Addr) (n k : Nat) (hb : Bytes w w.heap.size a n) (hn : n ≤ 4096) :
    Calls Tryz.prog 24 #[.slice a n k] w (DrawnT w) := by
  obtain ⟨W, hW⟩ : ∃ W, W = w.alloc (.cells #[.bool false, .slice none 0 0, .slice none 0 0, .slice none 0 0] 28) := ⟨_, rfl⟩
  have b0 : Below w.heap.size w W := by rw [hW]; exact (Below.refl _ _).alloc (Nat.le_refl _) _
  have z0 : W.heap[w.heap.size]? = some (.cells #[.bool false, .slice none 0 0, .slice none 0 0, .slice none 0 0] 28 (0, 0)) := by rw [hW]; exact heap_alloc_new w _
  have s0 : W.heap.size = w.heap.size + 1 := by rw [hW]; simp
  have hc := DrawLogged_any W a n k ((hb.below b0).mono b0.size) hn
  have H : Hid (Below w.heap.size w W ∧ W.heap[w.heap.size]? = some (.cells #[.bool false, .slice none 0 0, .slice none 0 0, .slice none 0 0] 28 (0, 0)) ∧ W.heap.size = w.heap.size + 1) := ⟨b0, z0, s0⟩
  clear b0 z0 s0 hb hn
  go_enter Tryz.func24, Tryz.ntmps24
  go_wp2_with fail
  rw [← hW]
  clear hW
  refine hc.mono ?_
  clear hc
  rintro e w1 ⟨v, d, x, y, z, rfl, hsl, hml, b1⟩
  simp only [MV.val]
  obtain ⟨X, hX⟩ : ∃ X, X = w1.alloc (.cells #[.bool d.alive, .slice v.ac d.copies.length v.cc, .slice v.al d.log.length v.cl, .slice v.ad d.cleared.length v.cd] 28) := ⟨_, rfl⟩
  have bX : Below w1.heap.size w1 X := by rw [hX]; exact (Below.refl _ _).alloc (Nat.le_refl _) _
  have zX : X.heap[w.heap.size]? = some (.cells #[.bool false, .slice none 0 0, .slice none 0 0, .slice none 0 0] 28 (0, 0)) := (bX.block _ (by have := H.out.2.2; have := b1.size; omega)).trans ((b1.block _ (by have := H.out.2.2; omega)).trans H.out.2.1)
  have KX : Hid (∀ x0 x1 x2 x3, DrawnT w (.returned (.tuple #[.agg #[.bool d.alive, .slice v.ac d.copies.length v.cc, .slice v.al d.log.length v.cl, .slice v.ad d.cleared.length v.cd], .int .i64 x, .int .i64 y])) ((((X.setCell ⟨w.heap.size, 0, none⟩ x0).setCell ⟨w.heap.size, 1, none⟩ x1).setCell ⟨w.heap.size, 2, none⟩ x2).setCell ⟨w.heap.size, 3, none⟩ x3)) := fun x0 x1 x2 x3 => by
    have hs := H.out.2.2
    refine ⟨v, d, x, y, rfl, hsl _ (by simp only [World.setCell, Array.size_modify]; exact bX.size) (fun q h1 h2 => ?_), hml, ?_⟩
    · have hq : q ≠ w.heap.size := by omega
      exact ((Below.heap_setCell _ _ _ _ hq).trans ((Below.heap_setCell _ _ _ _ hq).trans ((Below.heap_setCell _ _ _ _ hq).trans (Below.heap_setCell _ _ _ _ hq)))).trans (bX.block q h2)
    · have bw : Below w.heap.size w X := (H.out.1.trans (b1.mono (by omega))).trans (bX.mono (by have := b1.size; omega))
      exact (((bw.setCell (p := ⟨w.heap.size, _, none⟩) (Nat.le_refl _) _).setCell (p := ⟨w.heap.size, _, none⟩) (Nat.le_refl _) _).setCell (p := ⟨w.heap.size, _, none⟩) (Nat.le_refl _) _).setCell (p := ⟨w.heap.size, _, none⟩) (Nat.le_refl _) _
  have hlt : w.heap.size ≠ w1.heap.size := by have := H.out.2.2; have := b1.size; omega
  obtain ⟨z0, z1, z2, z3, zf⟩ := zeroBoxM zX
  have f0 := zf 0
  have f1 := zf 1
  have f2 := zf 2
  have f3 := zf 3
  clear zf zX bX hsl hml b1 H
  rw [hX] at z0 z1 z2 z3 f0 f1 f2 f3
  go_wp2
  rw [← hX]
  refine bodyPost_ret (v := .tuple #[.agg #[.bool d.alive, .slice v.ac d.copies.length v.cc, .slice v.al d.log.length v.cl, .slice v.ad d.cleared.length v.cd], .int .i64 x, .int .i64 y]) (by rw [hX]; simp [results, Tryz.results24, go_sem, z0, z1, z2, z3]) rfl ?_
  exact KX.out _ _ _ _
theorem LG.finC {w w2 : World} {c Q lo : Nat} {a : Option Addr} {n k : Nat} {v : MV} {d : M4} {X : World} (h : LG w w2 c Q lo a n k v d X) (hsl : ∀ Y, Q ≤ Y.heap.size → (∀ q, lo < q → q < Q → Y.heap[q]? = w2.heap[q]?) → SlM Y v d) (hml : ML d) (x y : Int) (b : Bool) (x0 x1 x2 x3 : Value) :
    DrawnC w (.returned (.tuple #[v.val d, .int .i64 x, .int .i64 y, .bool b])) ((((X.setCell ⟨w.heap.size, 0, none⟩ x0).setCell ⟨w.heap.size, 1, none⟩ x1).setCell ⟨w.heap.size, 2, none⟩ x2).setCell ⟨w.heap.size, 3, none⟩ x3) := by
  obtain ⟨l1, l2, l3, l4⟩ := h.lq
  refine ⟨v, d, x, y, b, rfl, hsl _ (by simp only [World.setCell, Array.size_modify]; omega) (fun q h1 h2 => ?_), hml, (((h.bl.setCell (p := ⟨w.heap.size, _, none⟩) (Nat.le_refl _) _).setCell (p := ⟨w.heap.size, _, none⟩) (Nat.le_refl _) _).setCell (p := ⟨w.heap.size, _, none⟩) (Nat.le_refl _) _).setCell (p := ⟨w.heap.size, _, none⟩) (Nat.le_refl _) _⟩
  have hq : q ≠ w.heap.size := by omega
  exact ((Below.heap_setCell _ _ _ _ hq).trans ((Below.heap_setCell _ _ _ _ hq).trans ((Below.heap_setCell _ _ _ _ hq).trans (Below.heap_setCell _ _ _ _ hq)))).trans (h.kp q h1 h2)
set_option maxRecDepth 100000 in
set_option maxHeartbeats 8000000 in
theorem DrawClear_any (w : World) (a : Option Addr) (n k : Nat) (hb : Bytes w w.heap.size a n) (hn : n ≤ 4096) :
    Calls Tryz.prog 22 #[.slice a n k] w (DrawnC w) := by
  obtain ⟨W, hW⟩ : ∃ W, W = w.alloc (.cells #[.bool false, .slice none 0 0, .slice none 0 0, .slice none 0 0] 28) := ⟨_, rfl⟩
  have b0 : Below w.heap.size w W := by rw [hW]; exact (Below.refl _ _).alloc (Nat.le_refl _) _
  have z0 : W.heap[w.heap.size]? = some (.cells #[.bool false, .slice none 0 0, .slice none 0 0, .slice none 0 0] 28 (0, 0)) := by rw [hW]; exact heap_alloc_new w _
  have s0 : W.heap.size = w.heap.size + 1 := by rw [hW]; simp
  have hc := l1New_any W a n k ((hb.below b0).mono b0.size) hn
  have H : Hid (Below w.heap.size w W ∧ W.heap[w.heap.size]? = some (.cells #[.bool false, .slice none 0 0, .slice none 0 0, .slice none 0 0] 28 (0, 0)) ∧ W.heap.size = w.heap.size + 1 ∧ Bytes w w.heap.size a n) := ⟨b0, z0, s0, hb⟩
  clear b0 z0 s0 hb
  go_enter Tryz.func22, Tryz.ntmps22
  go_wp2_with fail
  rw [← hW]
  clear hW
  refine hc.mono ?_
  clear hc
  rintro e w1 ⟨c, rfl, hc1, hcu, b1⟩
  have BY : Hid (∀ Y, Below w.heap.size w Y → Bytes Y w.heap.size a n) := fun Y hY => H.out.2.2.2.below hY
  have hB : w.heap.size ≤ c := by have := H.out.2.2.1; omega
  have bw1 : Below w.heap.size w w1 := H.out.1.trans (b1.mono (by have := H.out.2.2.1; omega))
  have hc := DrawLogged_any w1 a n k ((BY.out _ bw1).mono bw1.size) hn
  have H1 : Hid (Below w.heap.size w w1 ∧ w1.heap[w.heap.size]? = some (.cells #[.bool false, .slice none 0 0, .slice none 0 0, .slice none 0 0] 28 (0, 0)) ∧ w.heap.size < c ∧ c < w1.heap.size ∧ Cur w1 c a n k) := ⟨bw1, (b1.block _ (by have := H.out.2.2.1; omega)).trans H.out.2.1, by have := H.out.2.2.1; omega, hcu.lt, hcu⟩
  clear bw1 b1 hcu hc1 H
  go_wp2_with fail
  refine hc.mono ?_
  clear hc
  rintro e w2 ⟨v, d, x, y, z, rfl, hsl, hml, b2⟩
  simp only [MV.val]
  obtain ⟨X, hX⟩ : ∃ X, X = w2.alloc (.cells #[.bool d.alive, .slice v.ac d.copies.length v.cc, .slice v.al d.log.length v.cl, .slice v.ad d.cleared.length v.cd] 28) := ⟨_, rfl⟩
  obtain ⟨Q, hQ⟩ : ∃ Q, Q = w2.heap.size := ⟨_, rfl⟩
  obtain ⟨lo, hlo⟩ : ∃ Q, Q = w1.heap.size - 1 := ⟨_, rfl⟩
  have h1p : 0 < w1.heap.size := by have := H1.out.2.2; omega
  have HSL : Hid ((∀ Y, Q ≤ Y.heap.size → (∀ q, lo < q → q < Q → Y.heap[q]? = w2.heap[q]?) → SlM Y v d) ∧ ML d) := ⟨fun Y h1 h2 => hsl Y (by omega) (fun q h3 h4 => h2 q (by omega) (by omega)), hml⟩
  have KL : Hid (LG w w2 c Q lo a n k v d X) := by
    obtain ⟨h1, h2, h3, h4, h5⟩ := H1.out
    have bX : Below w2.heap.size w2 X := by rw [hX]; exact (Below.refl _ _).alloc (Nat.le_refl _) _
    have hs2 := b2.size
    have b12 := b2.trans (bX.mono hs2)
    refine ⟨?_, ?_, fun q h6 h7 => bX.block q (by omega), h5.later b12, ?_, ⟨h3, by omega, by omega, by rw [hX, hQ]; simp⟩⟩
    · exact (b12.block _ (by omega)).trans h2
    · rw [hX, hQ]; exact ⟨by go_simp, by go_simp, by go_simp, by go_simp⟩
    · exact h1.trans (b12.mono (by omega))
  clear b2 hsl hml H1 h1p
  go_wp2_with fail
  rw [← hQ, ← hX]
  clear hX hQ hlo
  refine (l1Once_any _ w.heap.size c a n k _ KL.out.cu (BY.out _ KL.out.bl) hB (by omega)).mono ?_
  rintro e w3 ⟨u, rfl, c3, t3⟩
  have KK : Hid (LG w w2 c Q lo a n k v d w3) := KL.out.step c3 t3
  clear c3 t3 KL
  cases u
  · have td : Turned c w3 w3.drew := (Turned.refl _ _).drew
    have DD := hidOf (KK.out.step (Y := w3.drew) (KK.out.cu.drewN 1) td)
    have hS : (fun Y : World => Y.cell? ⟨Q, 0, none⟩ = some (.bool d.alive) ∧ Y.cell? ⟨Q, 1, none⟩ = some (.slice v.ac d.copies.length v.cc) ∧ Y.cell? ⟨Q, 2, none⟩ = some (.slice v.al d.log.length v.cl) ∧ Y.cell? ⟨Q, 3, none⟩ = some (.slice v.ad d.cleared.length v.cd)) w3.drew := DD.out.s
    go_wp2_with fail
    refine wp_region_z (fun z => decide (5 ≤ z)) (fun Y : World => Y.cell? ⟨Q, 0, none⟩ = some (.bool d.alive) ∧ Y.cell? ⟨Q, 1, none⟩ = some (.slice v.ac d.copies.length v.cc) ∧ Y.cell? ⟨Q, 2, none⟩ = some (.slice v.al d.log.length v.cl) ∧ Y.cell? ⟨Q, 3, none⟩ = some (.slice v.ad d.cleared.length v.cd)) (by kernel_rfl) ?_
    generalize w3.drew = Xd at *
    clear td KK
    refine wpZ_take (i := 0) (v := ?_) rfl (by kernel_rfl) (fun _ _ _ h => h) (Or.inl ⟨by rfl, ?_⟩) hS ?_
    rotate_left
    · (intro X hSw; obtain ⟨g0, g1, g2, g3⟩ := hSw; go_simp; first | done | with_reducible rfl)
    simp only [Act.put]
    refine wpZ_takeP (i := 1) (v := ?_) rfl (by kernel_rfl) (fun _ _ _ h => h) (Or.inl ⟨by rfl, ?_⟩) hS ?_
    rotate_left
    · (intro X _; go_simp; first | done | with_reducible rfl | (rw [if_pos (by omega)]) | (rw [if_pos (by omega)]; go_simp))
    simp only [Act.put]
    refine wpZ_takeP (i := 2) (v := ?_) rfl (by kernel_rfl) (fun _ _ _ h => h) (Or.inl ⟨by rfl, ?_⟩) hS ?_
    rotate_left
    · (intro X _; go_simp; first | done | with_reducible rfl | (rw [if_pos (by omega)]) | (rw [if_pos (by omega)]; go_simp))
    simp only [Act.put]
    refine wpZ_takeP (i := 3) (v := ?_) rfl (by kernel_rfl) (fun _ _ _ h => h) (Or.inl ⟨by rfl, ?_⟩) hS ?_
    rotate_left
    · (intro X _; go_simp; first | done | with_reducible rfl | (rw [if_pos (by omega)]) | (rw [if_pos (by omega)]; go_simp))
    simp only [Act.put]
    refine wpZ_ready (rs := [4]) (by kernel_rfl) (by simp) ?_
    refine AllZ.cons rfl (fun K hK => ?_) AllZ.nil
    go_simp
    refine (l1Once_any _ w.heap.size c a n k _ DD.out.cu (BY.out _ DD.out.bl) hB (by omega)).mono ?_
    rintro e w6 ⟨u6, rfl, c6, t6⟩
    have K6 : Hid (LG w w2 c Q lo a n k v d w6) := DD.out.step c6 t6
    refine hK.out _ _ (fun _ => K6.out.s) ?_
    clear hK K hS c6 t6 DD
    obtain ⟨z0, z1, z2, z3, zf⟩ := zeroBoxM K6.out.z
    have f0 := zf 0
    have f1 := zf 1
    have f2 := zf 2
    have f3 := zf 3
    clear zf
    refine wpZ_ready (rs := [5]) (by kernel_rfl) (by simp) ?_
    refine AllZ.cons rfl (fun K hK => ?_) AllZ.nil
    go_simp
    refine hK.out _ _ (fun h => absurd (show false = true from h.symm.trans (by kernel_rfl)) (by decide)) ?_
    clear hK K
    refine wpZ_ready (rs := [6]) (by kernel_rfl) (by simp) ?_
    refine AllZ.cons rfl (fun K hK => ?_) AllZ.nil
    go_simp
    refine hK.out _ _ (fun h => absurd (show false = true from h.symm.trans (by kernel_rfl)) (by decide)) ?_
    clear hK K
    refine wpZ_ready (rs := [7]) (by kernel_rfl) (by simp) ?_
    refine AllZ.cons rfl (fun K hK => ?_) AllZ.nil
    go_simp
    refine hK.out _ _ (fun h => absurd (show false = true from h.symm.trans (by kernel_rfl)) (by decide)) ?_
    clear hK K
    refine wpZ_ready (rs := [8]) (by kernel_rfl) (by simp) ?_
    refine AllZ.cons rfl (fun K hK => ?_) AllZ.nil
    go_simp
    refine hK.out _ _ (fun h => absurd (show false = true from h.symm.trans (by kernel_rfl)) (by decide)) ?_
    clear hK K
    refine wpZ_done (by kernel_rfl) ?_ _
    go_wp2
    refine bodyPost_ret (v := .tuple #[v.val d, .int .i64 x, .int .i64 y, .bool u6]) (by simp [results, Tryz.results22, go_sem, z0, z1, z2, z3, MV.val]) rfl ?_
    exact LG.finC K6.out HSL.out.1 HSL.out.2 _ _ _ _ _ _ _
  · go_wp2_with fail
    have hw7 : c < w3.heap.size := KK.out.cu.lt
    refine (l1Below_any _ w.heap.size c a n k _ (KK.out.cu.alloc _) (BY.out _ (KK.out.bl.alloc (by have := KK.out.lq; omega) _)) hB (by omega)).mono ?_
    rintro e w4 ⟨y5, rfl, hy50, hy51, c4, t4⟩
    obtain ⟨q, rfl⟩ := Int.eq_ofNat_of_zero_le hy50
    obtain ⟨x9, hx⟩ := new_in_turnedI [0, 1000000, 1000001, 12] _ hw7 t4 q (by simp; omega)
    have KK : Hid (LG w w2 c Q lo a n k v d w4) := (KK.out.step (KK.out.cu.alloc _) ((Turned.refl c w3).alloc _)).step c4 t4
    clear c4 t4
    have td : Turned c w4 w4.drew := (Turned.refl _ _).drew
    have DD := hidOf (KK.out.step (Y := w4.drew) (KK.out.cu.drewN 1) td)
    have hS : (fun Y : World => Y.cell? ⟨Q, 0, none⟩ = some (.bool d.alive) ∧ Y.cell? ⟨Q, 1, none⟩ = some (.slice v.ac d.copies.length v.cc) ∧ Y.cell? ⟨Q, 2, none⟩ = some (.slice v.al d.log.length v.cl) ∧ Y.cell? ⟨Q, 3, none⟩ = some (.slice v.ad d.cleared.length v.cd)) w4.drew := DD.out.s
    go_wp2_with fail
    refine wp_region_z (fun z => decide (5 ≤ z)) (fun Y : World => Y.cell? ⟨Q, 0, none⟩ = some (.bool d.alive) ∧ Y.cell? ⟨Q, 1, none⟩ = some (.slice v.ac d.copies.length v.cc) ∧ Y.cell? ⟨Q, 2, none⟩ = some (.slice v.al d.log.length v.cl) ∧ Y.cell? ⟨Q, 3, none⟩ = some (.slice v.ad d.cleared.length v.cd)) (by kernel_rfl) ?_
    generalize w4.drew = Xd at *
    clear td KK
    refine wpZ_take (i := 0) (v := ?_) rfl (by kernel_rfl) (fun _ _ _ h => h) (Or.inl ⟨by rfl, ?_⟩) hS ?_
    rotate_left
    · (intro X hSw; obtain ⟨g0, g1, g2, g3⟩ := hSw; go_simp; first | done | with_reducible rfl)
    simp only [Act.put]
    refine wpZ_takeP (i := 1) (v := ?_) rfl (by kernel_rfl) (fun _ _ _ h => h) (Or.inl ⟨by rfl, ?_⟩) hS ?_
    rotate_left
    · (intro X _; go_simp; first | done | with_reducible rfl | (rw [if_pos (by omega)]) | (rw [if_pos (by omega)]; go_simp))
    simp only [Act.put]
    refine wpZ_takeP (i := 2) (v := ?_) rfl (by kernel_rfl) (fun _ _ _ h => h) (Or.inl ⟨by rfl, ?_⟩) hS ?_
    rotate_left
    · (intro X _; go_simp; first | done | with_reducible rfl | (rw [if_pos (by omega)]) | (rw [if_pos (by omega)]; go_simp))
    simp only [Act.put]
    refine wpZ_takeP (i := 3) (v := ?_) rfl (by kernel_rfl) (fun _ _ _ h => h) (Or.inl ⟨by rfl, ?_⟩) hS ?_
    rotate_left
    · (intro X _; go_simp; first | done | with_reducible rfl | (rw [if_pos (by omega)]) | (rw [if_pos (by omega)]; go_simp))
    simp only [Act.put]
    refine wpZ_ready (rs := [4]) (by kernel_rfl) (by simp) ?_
    refine AllZ.cons rfl (fun K hK => ?_) AllZ.nil
    go_simp
    refine (l1Once_any _ w.heap.size c a n k _ DD.out.cu (BY.out _ DD.out.bl) hB (by omega)).mono ?_
    rintro e w6 ⟨u6, rfl, c6, t6⟩
    have K6 : Hid (LG w w2 c Q lo a n k v d w6) := DD.out.step c6 t6
    refine hK.out _ _ (fun _ => K6.out.s) ?_
    clear hK K hS c6 t6 DD
    obtain ⟨z0, z1, z2, z3, zf⟩ := zeroBoxM K6.out.z
    have f0 := zf 0
    have f1 := zf 1
    have f2 := zf 2
    have f3 := zf 3
    clear zf
    refine wpZ_ready (rs := [5]) (by kernel_rfl) (by simp) ?_
    refine AllZ.cons rfl (fun K hK => ?_) AllZ.nil
    go_simp
    refine hK.out _ _ (fun h => absurd (show false = true from h.symm.trans (by kernel_rfl)) (by decide)) ?_
    clear hK K
    refine wpZ_ready (rs := [6]) (by kernel_rfl) (by simp) ?_
    refine AllZ.cons rfl (fun K hK => ?_) AllZ.nil
    go_simp
    refine hK.out _ _ (fun h => absurd (show false = true from h.symm.trans (by kernel_rfl)) (by decide)) ?_
    clear hK K
    refine wpZ_ready (rs := [7]) (by kernel_rfl) (by simp) ?_
    refine AllZ.cons rfl (fun K hK => ?_) AllZ.nil
    go_simp
    refine hK.out _ _ (fun h => absurd (show false = true from h.symm.trans (by kernel_rfl)) (by decide)) ?_
    clear hK K
    refine wpZ_ready (rs := [8]) (by kernel_rfl) (by simp) ?_
    refine AllZ.cons rfl (fun K hK => ?_) AllZ.nil
    go_simp
    refine hK.out _ _ (fun h => absurd (show false = true from h.symm.trans (by kernel_rfl)) (by decide)) ?_
    clear hK K
    refine wpZ_done (by kernel_rfl) ?_ _
    go_wp2
    refine bodyPost_ret (v := .tuple #[v.val d, .int .i64 x9, .int .i64 y, .bool u6]) (by simp [results, Tryz.results22, go_sem, z0, z1, z2, z3, MV.val]) rfl ?_
    exact LG.finC K6.out HSL.out.1 HSL.out.2 _ _ _ _ _ _ _
end Go.Proofs.YtbkcmbbeknljiaaGreat
