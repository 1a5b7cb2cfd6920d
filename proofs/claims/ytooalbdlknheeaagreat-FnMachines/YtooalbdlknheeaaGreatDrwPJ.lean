/- What the specification draws for Replace and for Append: some machine that can be read, and cells or a record beside it. -/
import Derived.Test.YtooalbdlknheeaaGreatRows
import Derived.Test.YtooalbdlknheeaaGreatDrwGJ
import Derived.WalkKit
import Derived.WalkSpells
import Derived.WalkLawsBesides
import Derived.Below
import Derived.Deep.CutRange
namespace Go.Proofs.YtooalbdlknheeaaGreat
open Go.RowKit
/-- A machine that was drawn, a number, and cells. -/
def DrawnP (w : World) (e : Ending) (w' : World) : Prop :=
  ∃ (v : MV) (d : M4) (r : Int) (p : Option Addr) (m cap : Nat) (cs : List C2), e = .returned (.tuple #[v.val d, .int .i64 r, .slice p m cap]) ∧ SlM w' v d ∧ ML d ∧ m ≤ 6 ∧ SlC w' w'.heap.size p m cs ∧ Below w.heap.size w w'
/-- A machine that was drawn, and a record. -/
def DrawnA (w : World) (e : Ending) (w' : World) : Prop :=
  ∃ (v : MV) (d : M4) (K T R : Int) (p : Option Addr) (m cap : Nat) (xs : List S5), e = .returned (.tuple #[v.val d, .agg #[.int .i64 K, .int .i64 T, .int .i64 R, .slice p m cap]]) ∧ SlM w' v d ∧ ML d ∧ m ≤ 7 ∧ Sl w' w'.heap.size p m xs ∧ Below w.heap.size w w'
theorem zeroBoxR {X : World} {r : Nat} (h : X.heap[r]? = some (.cells #[.int .i64 0, .int .i64 0, .int .i64 0, .slice none 0 0] 41 (0, 0))) :
    X.cell? ⟨r, 0, none⟩ = some (.int .i64 0) ∧ X.cell? ⟨r, 1, none⟩ = some (.int .i64 0) ∧ X.cell? ⟨r, 2, none⟩ = some (.int .i64 0) ∧ X.cell? ⟨r, 3, none⟩ = some (.slice none 0 0) ∧ ∀ j, X.frozen? ⟨r, j, none⟩ = false :=
  ⟨by rw [cell_of_row X r 0 _ _ _ h]; rfl, by rw [cell_of_row X r 1 _ _ _ h]; rfl, by rw [cell_of_row X r 2 _ _ _ h]; rfl, by rw [cell_of_row X r 3 _ _ _ h]; rfl, fun j => frozen_of_row X r j _ _ h⟩
theorem LG.finP {w w2 : World} {c Q lo : Nat} {a : Option Addr} {n k : Nat} {v : MV} {d : M4} {X : World} (h : LG w w2 c Q lo a n k v d X) (hsl : ∀ Y, Q ≤ Y.heap.size → (∀ q, lo < q → q < Q → Y.heap[q]? = w2.heap[q]?) → SlM Y v d) (hml : ML d) (r : Int) {b off m : Nat} (cap : Nat) (hb : w.heap.size < b) (hb2 : b < X.heap.size) (hr : IntRoom X b 12) (hm : off + m * 2 ≤ 12) (x0 x1 x2 x3 : Value) :
    DrawnP w (.returned (.tuple #[v.val d, .int .i64 r, .slice (some ⟨b, off, none⟩) m cap])) ((((X.setCell ⟨w.heap.size, 0, none⟩ x0).setCell ⟨w.heap.size, 1, none⟩ x1).setCell ⟨w.heap.size, 2, none⟩ x2).setCell ⟨w.heap.size, 3, none⟩ x3) := by
  obtain ⟨l1, l2, l3, l4⟩ := h.lq
  obtain ⟨cs, hcl, hcs⟩ := cells_of_room hr hm
  have hne : (⟨w.heap.size, 0, none⟩ : Addr).block ≠ b := by show w.heap.size ≠ b; omega
  refine ⟨v, d, r, some ⟨b, off, none⟩, m, cap, cs, rfl, hsl _ (by simp only [World.setCell, Array.size_modify]; omega) (fun q h1 h2 => ?_), hml, by omega, ⟨hcl, .inr ⟨b, off, rfl, by simp only [World.setCell, Array.size_modify]; omega, (((hcs.far (by show w.heap.size ≠ b; omega) _).far (by show w.heap.size ≠ b; omega) _).far (by show w.heap.size ≠ b; omega) _).far (by show w.heap.size ≠ b; omega) _⟩⟩, (((h.bl.setCell (p := ⟨w.heap.size, _, none⟩) (Nat.le_refl _) _).setCell (p := ⟨w.heap.size, _, none⟩) (Nat.le_refl _) _).setCell (p := ⟨w.heap.size, _, none⟩) (Nat.le_refl _) _).setCell (p := ⟨w.heap.size, _, none⟩) (Nat.le_refl _) _⟩
  have hq : q ≠ w.heap.size := by omega
  exact ((Below.heap_setCell _ _ _ _ hq).trans ((Below.heap_setCell _ _ _ _ hq).trans ((Below.heap_setCell _ _ _ _ hq).trans (Below.heap_setCell _ _ _ _ hq)))).trans (h.kp q h1 h2)
set_option maxRecDepth 100000 in
set_option maxHeartbeats 8000000 in
theorem DrawReplace_any (w : World) (a : Option Addr) (n k : Nat) (hb : Bytes w w.heap.size a n) (hn : n ≤ 4096) :
    Calls Tryz.prog 11 #[.slice a n k] w (DrawnP w) := by
  obtain ⟨W, hW⟩ : ∃ W, W = w.alloc (.cells #[.bool false, .slice none 0 0, .slice none 0 0, .slice none 0 0] 28) := ⟨_, rfl⟩
  have b0 : Below w.heap.size w W := by rw [hW]; exact (Below.refl _ _).alloc (Nat.le_refl _) _
  have z0 : W.heap[w.heap.size]? = some (.cells #[.bool false, .slice none 0 0, .slice none 0 0, .slice none 0 0] 28 (0, 0)) := by rw [hW]; exact heap_alloc_new w _
  have s0 : W.heap.size = w.heap.size + 1 := by rw [hW]; simp
  have hc := l1New_any W a n k ((hb.below b0).mono b0.size) hn
  have H : Hid (Below w.heap.size w W ∧ W.heap[w.heap.size]? = some (.cells #[.bool false, .slice none 0 0, .slice none 0 0, .slice none 0 0] 28 (0, 0)) ∧ W.heap.size = w.heap.size + 1 ∧ Bytes w w.heap.size a n) := ⟨b0, z0, s0, hb⟩
  clear b0 z0 s0 hb
  go_enter Tryz.func11, Tryz.ntmps11
  go_wp2_with fail
  rw [← hW]
  clear hW
  refine hc.mono ?_
  clear hc
  rintro e w1 ⟨c, rfl, hc1, hcu, b1⟩
  have BY : Hid (∀ Y, Below w.heap.size w Y → Bytes Y w.heap.size a n) := fun Y hY => H.out.2.2.2.below hY
  have hB : w.heap.size ≤ c := by have := H.out.2.2.1; omega
  have bw1 : Below w.heap.size w w1 := H.out.1.trans (b1.mono (by have := H.out.2.2.1; omega))
  have hc := l6Draw_any w1 w.heap.size c a n k hcu (BY.out _ bw1) hB
  have H1 : Hid (Below w.heap.size w w1 ∧ w1.heap[w.heap.size]? = some (.cells #[.bool false, .slice none 0 0, .slice none 0 0, .slice none 0 0] 28 (0, 0)) ∧ w.heap.size < c ∧ c < w1.heap.size) := ⟨bw1, (b1.block _ (by have := H.out.2.2.1; omega)).trans H.out.2.1, by have := H.out.2.2.1; omega, hcu.lt⟩
  clear bw1 b1 hcu hc1 H
  go_wp2_with fail
  refine hc.mono ?_
  clear hc
  rintro e w2 ⟨v, d, rfl, hsl, hml, c2, t2⟩
  simp only [MV.val]
  obtain ⟨X, hX⟩ : ∃ X, X = w2.alloc (.cells #[.bool d.alive, .slice v.ac d.copies.length v.cc, .slice v.al d.log.length v.cl, .slice v.ad d.cleared.length v.cd] 28) := ⟨_, rfl⟩
  obtain ⟨Q, hQ⟩ : ∃ Q, Q = w2.heap.size := ⟨_, rfl⟩
  obtain ⟨lo, hlo⟩ : ∃ Q, Q = w1.heap.size := ⟨_, rfl⟩
  have HSL : Hid ((∀ Y, Q ≤ Y.heap.size → (∀ q, lo < q → q < Q → Y.heap[q]? = w2.heap[q]?) → SlM Y v d) ∧ ML d) := ⟨by rw [hQ, hlo]; exact hsl, hml⟩
  have hlen : d.log.length ≤ maxLen := hml.r
  have KL : Hid (LG w w2 c Q lo a n k v d X) := by
    obtain ⟨h1, h2, h3, h4⟩ := H1.out
    have bX : Below w2.heap.size w2 X := by rw [hX]; exact (Below.refl _ _).alloc (Nat.le_refl _) _
    have hs2 := t2.size
    refine ⟨?_, ?_, fun q h5 h6 => bX.block q (by omega), by rw [hX]; exact c2.alloc _, ?_, ⟨h3, by omega, by omega, by rw [hX, hQ]; simp⟩⟩
    · exact (bX.block _ (by omega)).trans ((t2.block _ (by omega) (by omega)).trans h2)
    · rw [hX, hQ]; exact ⟨by go_simp, by go_simp, by go_simp, by go_simp⟩
    · exact (h1.trans (t2.below (by omega) (by omega))).trans (bX.mono (by omega))
  clear c2 t2 hsl hml H1
  obtain ⟨g0, g1, g2, g3⟩ := KL.out.s
  rw [hX] at g0 g1 g2 g3
  rw [hQ] at g0 g1 g2 g3
  go_wp2_with fail
  rw [← hQ, ← hX]
  clear hX g0 g1 g2 g3 hQ hlo
  refine (l5DrawRegion_any _ w.heap.size c a n k KL.out.cu (BY.out _ KL.out.bl) hB).mono ?_
  rintro e w5 ⟨r5, rfl, c5, t5⟩
  have K5 : Hid (LG w w2 c Q lo a n k v d w5) := KL.out.step c5 t5
  clear c5 t5 KL
  have td : Turned c w5 w5.drew := (Turned.refl _ _).drew
  have DD := hidOf (K5.out.step (Y := w5.drew) (K5.out.cu.drewN 1) td)
  have hS : (fun Y : World => Y.cell? ⟨Q, 0, none⟩ = some (.bool d.alive) ∧ Y.cell? ⟨Q, 1, none⟩ = some (.slice v.ac d.copies.length v.cc) ∧ Y.cell? ⟨Q, 2, none⟩ = some (.slice v.al d.log.length v.cl) ∧ Y.cell? ⟨Q, 3, none⟩ = some (.slice v.ad d.cleared.length v.cd)) w5.drew := DD.out.s
  go_wp2_with fail
  refine wp_region_z (fun z => decide (4 ≤ z)) (fun Y : World => Y.cell? ⟨Q, 0, none⟩ = some (.bool d.alive) ∧ Y.cell? ⟨Q, 1, none⟩ = some (.slice v.ac d.copies.length v.cc) ∧ Y.cell? ⟨Q, 2, none⟩ = some (.slice v.al d.log.length v.cl) ∧ Y.cell? ⟨Q, 3, none⟩ = some (.slice v.ad d.cleared.length v.cd)) (by kernel_rfl) ?_
  generalize w5.drew = Xd at *
  clear td K5
  refine wpZ_take (i := 0) (v := ?_) rfl (by kernel_rfl) (fun _ _ _ h => h) (Or.inl ⟨by rfl, ?_⟩) hS ?_
  rotate_left
  · (intro X hSw; obtain ⟨g0, g1, g2, g3⟩ := hSw; go_simp; first | done | with_reducible rfl)
  simp only [Act.put]
  refine wpZ_takeP (i := 1) (v := ?_) rfl (by kernel_rfl) (fun _ _ _ h => h) (Or.inl ⟨by rfl, ?_⟩) hS ?_
  rotate_left
  · (intro X _; go_simp; first | done | with_reducible rfl)
  simp only [Act.put]
  refine wpZ_takeP (i := 2) (v := ?_) rfl (by kernel_rfl) (fun _ _ _ h => h) (Or.inl ⟨by rfl, ?_⟩) hS ?_
  rotate_left
  · (intro X _; go_simp; first | done | with_reducible rfl)
  simp only [Act.put]
  refine wpZ_ready (rs := [3]) (by kernel_rfl) (by simp) ?_
  refine AllZ.cons rfl (fun K hK => ?_) AllZ.nil
  go_simp
  refine (l3DrawAny_any _ w.heap.size c a n k DD.out.cu (BY.out _ DD.out.bl) hB).mono ?_
  rintro e w6 ⟨vc, rfl, ⟨b6, o6, m6, p6, rfl, hb6, -, hb7, ir6, hm6, -⟩, c6, t6⟩
  have K6 : Hid (LG w w2 c Q lo a n k v d w6) := DD.out.step c6 t6
  have I6 : Hid (IntRoom w6 b6 12 ∧ w.heap.size < b6 ∧ b6 < w6.heap.size ∧ o6 + m6 * 2 ≤ 12) := ⟨ir6, by have := DD.out.lq; omega, hb7, hm6⟩
  refine hK.out _ _ (fun _ => K6.out.s) ?_
  clear hK K hS c6 t6 DD ir6 hb6 hb7 hm6
  obtain ⟨z0, z1, z2, z3, zf⟩ := zeroBoxM K6.out.z
  have f0 := zf 0
  have f1 := zf 1
  have f2 := zf 2
  have f3 := zf 3
  clear zf
  refine wpZ_ready (rs := [4]) (by kernel_rfl) (by simp) ?_
  refine AllZ.cons rfl (fun K hK => ?_) AllZ.nil
  go_simp
  refine hK.out _ _ (fun h => absurd (show false = true from h.symm.trans (by kernel_rfl)) (by decide)) ?_
  clear hK K
  refine wpZ_ready (rs := [5]) (by kernel_rfl) (by simp) ?_
  refine AllZ.cons rfl (fun K hK => ?_) AllZ.nil
  go_simp
  refine hK.out _ _ (fun h => absurd (show false = true from h.symm.trans (by kernel_rfl)) (by decide)) ?_
  clear hK K
  refine wpZ_ready (rs := [6]) (by kernel_rfl) (by simp) ?_
  refine AllZ.cons rfl (fun K hK => ?_) AllZ.nil
  go_simp
  refine hK.out _ _ (fun h => absurd (show false = true from h.symm.trans (by kernel_rfl)) (by decide)) ?_
  clear hK K
  refine wpZ_done (by kernel_rfl) ?_ _
  go_wp2
  refine bodyPost_ret (v := .tuple #[v.val d, .int .i64 r5, .slice (some ⟨b6, o6, none⟩) m6 p6]) (by simp [results, Tryz.results11, go_sem, z0, z1, z2, z3, MV.val]) rfl ?_
  exact LG.finP K6.out HSL.out.1 HSL.out.2 _ _ I6.out.2.1 I6.out.2.2.1 I6.out.1 I6.out.2.2.2 _ _ _ _
theorem LG.finA {w w2 : World} {c Q lo : Nat} {a : Option Addr} {n k : Nat} {v : MV} {d : M4} {X : World} (h : LG w w2 c Q lo a n k v d X) (hsl : ∀ Y, Q ≤ Y.heap.size → (∀ q, lo < q → q < Q → Y.heap[q]? = w2.heap[q]?) → SlM Y v d) (hml : ML d) (K T R : Int) {b m : Nat} (cap : Nat) (xs : List S5) (hc1 : w.heap.size + 1 < c) (hb : w.heap.size + 1 < b) (hb2 : b < X.heap.size) (hx : xs.length = m) (hm : m ≤ 7) (hr : SetsAt X b 0 xs) (x0 x1 x2 x3 y0 y1 y2 y3 : Value) :
    DrawnA w (.returned (.tuple #[v.val d, .agg #[.int .i64 K, .int .i64 T, .int .i64 R, .slice (some ⟨b, 0, none⟩) m cap]])) ((((((((X.setCell ⟨w.heap.size, 0, none⟩ x0).setCell ⟨w.heap.size, 1, none⟩ x1).setCell ⟨w.heap.size, 2, none⟩ x2).setCell ⟨w.heap.size, 3, none⟩ x3).setCell ⟨w.heap.size + 1, 0, none⟩ y0).setCell ⟨w.heap.size + 1, 1, none⟩ y1).setCell ⟨w.heap.size + 1, 2, none⟩ y2).setCell ⟨w.heap.size + 1, 3, none⟩ y3) := by
  obtain ⟨l1, l2, l3, l4⟩ := h.lq
  have hk : ∀ q, w.heap.size + 1 < q → ((((((((X.setCell ⟨w.heap.size, 0, none⟩ x0).setCell ⟨w.heap.size, 1, none⟩ x1).setCell ⟨w.heap.size, 2, none⟩ x2).setCell ⟨w.heap.size, 3, none⟩ x3).setCell ⟨w.heap.size + 1, 0, none⟩ y0).setCell ⟨w.heap.size + 1, 1, none⟩ y1).setCell ⟨w.heap.size + 1, 2, none⟩ y2).setCell ⟨w.heap.size + 1, 3, none⟩ y3).heap[q]? = X.heap[q]? := fun q hq => by
    have h1 : q ≠ w.heap.size := by omega
    have h2 : q ≠ w.heap.size + 1 := by omega
    exact (Below.heap_setCell _ _ _ _ h2).trans ((Below.heap_setCell _ _ _ _ h2).trans ((Below.heap_setCell _ _ _ _ h2).trans ((Below.heap_setCell _ _ _ _ h2).trans ((Below.heap_setCell _ _ _ _ h1).trans ((Below.heap_setCell _ _ _ _ h1).trans ((Below.heap_setCell _ _ _ _ h1).trans (Below.heap_setCell _ _ _ _ h1)))))))
  have hz : ((((((((X.setCell ⟨w.heap.size, 0, none⟩ x0).setCell ⟨w.heap.size, 1, none⟩ x1).setCell ⟨w.heap.size, 2, none⟩ x2).setCell ⟨w.heap.size, 3, none⟩ x3).setCell ⟨w.heap.size + 1, 0, none⟩ y0).setCell ⟨w.heap.size + 1, 1, none⟩ y1).setCell ⟨w.heap.size + 1, 2, none⟩ y2).setCell ⟨w.heap.size + 1, 3, none⟩ y3).heap.size = X.heap.size := by simp only [World.setCell, Array.size_modify]
  have hbl : Below w.heap.size w ((((((((X.setCell ⟨w.heap.size, 0, none⟩ x0).setCell ⟨w.heap.size, 1, none⟩ x1).setCell ⟨w.heap.size, 2, none⟩ x2).setCell ⟨w.heap.size, 3, none⟩ x3).setCell ⟨w.heap.size + 1, 0, none⟩ y0).setCell ⟨w.heap.size + 1, 1, none⟩ y1).setCell ⟨w.heap.size + 1, 2, none⟩ y2).setCell ⟨w.heap.size + 1, 3, none⟩ y3) := (((((((h.bl.setCell (p := ⟨w.heap.size, _, none⟩) (Nat.le_refl _) _).setCell (p := ⟨w.heap.size, _, none⟩) (Nat.le_refl _) _).setCell (p := ⟨w.heap.size, _, none⟩) (Nat.le_refl _) _).setCell (p := ⟨w.heap.size, _, none⟩) (Nat.le_refl _) _).setCell (p := ⟨w.heap.size + 1, _, none⟩) (Nat.le_succ _) _).setCell (p := ⟨w.heap.size + 1, _, none⟩) (Nat.le_succ _) _).setCell (p := ⟨w.heap.size + 1, _, none⟩) (Nat.le_succ _) _).setCell (p := ⟨w.heap.size + 1, _, none⟩) (Nat.le_succ _) _
  generalize ((((((((X.setCell ⟨w.heap.size, 0, none⟩ x0).setCell ⟨w.heap.size, 1, none⟩ x1).setCell ⟨w.heap.size, 2, none⟩ x2).setCell ⟨w.heap.size, 3, none⟩ x3).setCell ⟨w.heap.size + 1, 0, none⟩ y0).setCell ⟨w.heap.size + 1, 1, none⟩ y1).setCell ⟨w.heap.size + 1, 2, none⟩ y2).setCell ⟨w.heap.size + 1, 3, none⟩ y3) = Y at *
  exact ⟨v, d, K, T, R, some ⟨b, 0, none⟩, m, cap, xs, rfl, hsl Y (by omega) (fun q h1 h2 => (hk q (by omega)).trans (h.kp q h1 h2)), hml, hm, ⟨hx, .inr ⟨b, 0, rfl, by omega, hr.of_block (hk b hb)⟩⟩, hbl⟩
set_option maxRecDepth 100000 in
set_option maxHeartbeats 8000000 in
theorem DrawAppend_any (w : World) (a : Option Addr) (n k : Nat) (hb : Bytes w w.heap.size a n) (hn : n ≤ 4096) :
    Calls Tryz.prog 18 #[.slice a n k] w (DrawnA w) := by
  obtain ⟨W, hW⟩ : ∃ W, W = (w.alloc (.cells #[.bool false, .slice none 0 0, .slice none 0 0, .slice none 0 0] 28)).alloc (.cells #[.int .i64 0, .int .i64 0, .int .i64 0, .slice none 0 0] 41) := ⟨_, rfl⟩
  have b0 : Below w.heap.size w W := by rw [hW]; exact ((Below.refl _ _).alloc (Nat.le_refl _) _).alloc (by simp) _
  have z0 : W.heap[w.heap.size]? = some (.cells #[.bool false, .slice none 0 0, .slice none 0 0, .slice none 0 0] 28 (0, 0)) := by rw [hW]; exact (((Below.refl (w.heap.size + 1) _).alloc (by simp) _).block _ (Nat.lt_succ_self _)).trans (heap_alloc_new w _)
  have y0 : W.heap[w.heap.size + 1]? = some (.cells #[.int .i64 0, .int .i64 0, .int .i64 0, .slice none 0 0] 41 (0, 0)) := by
    have := heap_alloc_new (w.alloc (.cells #[.bool false, .slice none 0 0, .slice none 0 0, .slice none 0 0] 28)) (.cells #[.int .i64 0, .int .i64 0, .int .i64 0, .slice none 0 0] 41)
    rw [show (w.alloc (.cells #[.bool false, .slice none 0 0, .slice none 0 0, .slice none 0 0] 28)).heap.size = w.heap.size + 1 by simp] at this
    rw [hW]; exact this
  have s0 : W.heap.size = w.heap.size + 2 := by rw [hW]; simp
  have hc := l1New_any W a n k ((hb.below b0).mono b0.size) hn
  have H : Hid (Below w.heap.size w W ∧ W.heap[w.heap.size]? = some (.cells #[.bool false, .slice none 0 0, .slice none 0 0, .slice none 0 0] 28 (0, 0)) ∧ W.heap.size = w.heap.size + 2 ∧ Bytes w w.heap.size a n) := ⟨b0, z0, s0, hb⟩
  have HY : Hid (W.heap[w.heap.size + 1]? = some (.cells #[.int .i64 0, .int .i64 0, .int .i64 0, .slice none 0 0] 41 (0, 0))) := y0
  clear b0 z0 s0 hb y0
  go_enter Tryz.func18, Tryz.ntmps18
  go_wp2_with fail
  rw [← hW]
  clear hW
  refine hc.mono ?_
  clear hc
  rintro e w1 ⟨c, rfl, hc1, hcu, b1⟩
  have BY : Hid (∀ Y, Below w.heap.size w Y → Bytes Y w.heap.size a n) := fun Y hY => H.out.2.2.2.below hY
  have hB : w.heap.size ≤ c := by have := H.out.2.2.1; omega
  have bw1 : Below w.heap.size w w1 := H.out.1.trans (b1.mono (by have := H.out.2.2.1; omega))
  have hc := l6Draw_any w1 w.heap.size c a n k hcu (BY.out _ bw1) hB
  have H1 : Hid (Below w.heap.size w w1 ∧ w1.heap[w.heap.size]? = some (.cells #[.bool false, .slice none 0 0, .slice none 0 0, .slice none 0 0] 28 (0, 0)) ∧ w.heap.size < c ∧ c < w1.heap.size) := ⟨bw1, (b1.block _ (by have := H.out.2.2.1; omega)).trans H.out.2.1, by have := H.out.2.2.1; omega, hcu.lt⟩
  have HY1 : Hid (w1.heap[w.heap.size + 1]? = some (.cells #[.int .i64 0, .int .i64 0, .int .i64 0, .slice none 0 0] 41 (0, 0)) ∧ w.heap.size + 1 < c) := ⟨(b1.block _ (by have := H.out.2.2.1; omega)).trans HY.out, by have := H.out.2.2.1; omega⟩
  clear bw1 b1 hcu hc1 H HY
  go_wp2_with fail
  refine hc.mono ?_
  clear hc
  rintro e w2 ⟨v, d, rfl, hsl, hml, c2, t2⟩
  simp only [MV.val]
  obtain ⟨X, hX⟩ : ∃ X, X = w2.alloc (.cells #[.bool d.alive, .slice v.ac d.copies.length v.cc, .slice v.al d.log.length v.cl, .slice v.ad d.cleared.length v.cd] 28) := ⟨_, rfl⟩
  obtain ⟨Q, hQ⟩ : ∃ Q, Q = w2.heap.size := ⟨_, rfl⟩
  obtain ⟨lo, hlo⟩ : ∃ Q, Q = w1.heap.size := ⟨_, rfl⟩
  have HSL : Hid ((∀ Y, Q ≤ Y.heap.size → (∀ q, lo < q → q < Q → Y.heap[q]? = w2.heap[q]?) → SlM Y v d) ∧ ML d) := ⟨by rw [hQ, hlo]; exact hsl, hml⟩
  have hlen : d.log.length ≤ maxLen := hml.r
  have KL : Hid (LG w w2 c Q lo a n k v d X) := by
    obtain ⟨h1, h2, h3, h4⟩ := H1.out
    have bX : Below w2.heap.size w2 X := by rw [hX]; exact (Below.refl _ _).alloc (Nat.le_refl _) _
    have hs2 := t2.size
    refine ⟨?_, ?_, fun q h5 h6 => bX.block q (by omega), by rw [hX]; exact c2.alloc _, ?_, ⟨h3, by omega, by omega, by rw [hX, hQ]; simp⟩⟩
    · exact (bX.block _ (by omega)).trans ((t2.block _ (by omega) (by omega)).trans h2)
    · rw [hX, hQ]; exact ⟨by go_simp, by go_simp, by go_simp, by go_simp⟩
    · exact (h1.trans (t2.below (by omega) (by omega))).trans (bX.mono (by omega))
  have HY2 : Hid (X.heap[w.heap.size + 1]? = some (.cells #[.int .i64 0, .int .i64 0, .int .i64 0, .slice none 0 0] 41 (0, 0)) ∧ w.heap.size + 1 < c) := by
    have h4 := H1.out.2.2.2
    have h5 := HY1.out.2
    have hs2 := t2.size
    have bX : Below w2.heap.size w2 X := by rw [hX]; exact (Below.refl _ _).alloc (Nat.le_refl _) _
    exact ⟨(bX.block _ (by omega)).trans ((t2.block _ (by omega) (by omega)).trans HY1.out.1), h5⟩
  clear c2 t2 hsl hml H1 HY1
  obtain ⟨g0, g1, g2, g3⟩ := KL.out.s
  rw [hX] at g0 g1 g2 g3
  rw [hQ] at g0 g1 g2 g3
  have td : Turned c X X.drew := (Turned.refl _ _).drew
  have DD := hidOf (KL.out.step (Y := X.drew) (KL.out.cu.drewN 1) td)
  have YD : Hid (X.drew.heap[w.heap.size + 1]? = some (.cells #[.int .i64 0, .int .i64 0, .int .i64 0, .slice none 0 0] 41 (0, 0)) ∧ w.heap.size + 1 < c) := ⟨(td.block _ (by have := KL.out.lq; have := HY2.out.2; omega) (by have := HY2.out.2; omega)).trans HY2.out.1, HY2.out.2⟩
  have hS : (fun Y : World => Y.cell? ⟨Q, 0, none⟩ = some (.bool d.alive) ∧ Y.cell? ⟨Q, 1, none⟩ = some (.slice v.ac d.copies.length v.cc) ∧ Y.cell? ⟨Q, 2, none⟩ = some (.slice v.al d.log.length v.cl) ∧ Y.cell? ⟨Q, 3, none⟩ = some (.slice v.ad d.cleared.length v.cd)) X.drew := DD.out.s
  clear g0 g1 g2 g3
  go_upto_region 3 with fail
  rw [← hQ, ← hX]
  clear hX hQ hlo KL HY2
  refine wp_region_z (fun z => decide (3 ≤ z)) (fun Y : World => Y.cell? ⟨Q, 0, none⟩ = some (.bool d.alive) ∧ Y.cell? ⟨Q, 1, none⟩ = some (.slice v.ac d.copies.length v.cc) ∧ Y.cell? ⟨Q, 2, none⟩ = some (.slice v.al d.log.length v.cl) ∧ Y.cell? ⟨Q, 3, none⟩ = some (.slice v.ad d.cleared.length v.cd)) (by kernel_rfl) ?_
  generalize X.drew = Xd at *
  clear td
  refine wpZ_take (i := 0) (v := ?_) rfl (by kernel_rfl) (fun _ _ _ h => h) (Or.inl ⟨by rfl, ?_⟩) hS ?_
  rotate_left
  · (intro X hSw; obtain ⟨g0, g1, g2, g3⟩ := hSw; go_simp; first | done | with_reducible rfl)
  simp only [Act.put]
  refine wpZ_takeP (i := 1) (v := ?_) rfl (by kernel_rfl) (fun _ _ _ h => h) (Or.inl ⟨by rfl, ?_⟩) hS ?_
  rotate_left
  · (intro X _; go_simp; first | done | with_reducible rfl)
  simp only [Act.put]
  refine wpZ_ready (rs := [2]) (by kernel_rfl) (by simp) ?_
  refine AllZ.cons rfl (fun K hK => ?_) AllZ.nil
  go_simp
  refine (l2Draw_any _ w.heap.size c a n k DD.out.cu (BY.out _ DD.out.bl) hB).mono ?_
  rintro e w6 ⟨rk, rt, rr, g6, m6, p6, xs, rfl, -, -, -, hx6, hm6, -, hb6, -, hb7, sa6, -, c6, t6⟩
  have K6 : Hid (LG w w2 c Q lo a n k v d w6) := DD.out.step c6 t6
  have I6 : Hid (SetsAt w6 g6 0 xs ∧ w.heap.size + 1 < g6 ∧ g6 < w6.heap.size ∧ xs.length = m6 ∧ m6 ≤ 7) := ⟨sa6, by have := DD.out.lq; have := YD.out.2; omega, hb7, hx6, hm6⟩
  have YE : Hid (w6.heap[w.heap.size + 1]? = some (.cells #[.int .i64 0, .int .i64 0, .int .i64 0, .slice none 0 0] 41 (0, 0)) ∧ w.heap.size + 1 < c) := ⟨(t6.block _ (by have := DD.out.lq; have := YD.out.2; omega) (by have := YD.out.2; omega)).trans YD.out.1, YD.out.2⟩
  refine hK.out _ _ (fun _ => K6.out.s) ?_
  clear hK K hS c6 t6 DD sa6 hb6 hb7 hm6 hx6 YD
  obtain ⟨z0, z1, z2, z3, zf⟩ := zeroBoxM K6.out.z
  obtain ⟨y0, y1, y2, y3, yf⟩ := zeroBoxR YE.out.1
  have f0 := zf 0
  have f1 := zf 1
  have f2 := zf 2
  have f3 := zf 3
  have e0 := yf 0
  have e1 := yf 1
  have e2 := yf 2
  have e3 := yf 3
  clear zf yf
  refine wpZ_ready (rs := [3]) (by kernel_rfl) (by simp) ?_
  refine AllZ.cons rfl (fun K hK => ?_) AllZ.nil
  go_simp
  refine hK.out _ _ (fun h => absurd (show false = true from h.symm.trans (by kernel_rfl)) (by decide)) ?_
  clear hK K
  refine wpZ_ready (rs := [4]) (by kernel_rfl) (by simp) ?_
  refine AllZ.cons rfl (fun K hK => ?_) AllZ.nil
  go_simp
  refine hK.out _ _ (fun h => absurd (show false = true from h.symm.trans (by kernel_rfl)) (by decide)) ?_
  clear hK K
  refine wpZ_done (by kernel_rfl) ?_ _
  go_wp2
  refine bodyPost_ret (v := .tuple #[v.val d, .agg #[.int .i64 rk, .int .i64 rt, .int .i64 rr, .slice (some ⟨g6, 0, none⟩) m6 p6]]) (by simp [results, Tryz.results18, go_sem, z0, z1, z2, z3, y0, y1, y2, y3, MV.val]) rfl ?_
  exact LG.finA K6.out HSL.out.1 HSL.out.2 _ _ _ _ _ YE.out.2 I6.out.2.1 I6.out.2.2.1 I6.out.2.2.2.1 I6.out.2.2.2.2 I6.out.1 _ _ _ _ _ _ _ _
end Go.Proofs.YtooalbdlknheeaaGreat
