/- DrT4; LikeT; AddC; AseC; NotF; OTl: joined. -/
import Derived.Test.YtiidlcjjaglkdaaRows
import Derived.Test.YtiidlcjjaglkdaaDrT2J
import Derived.Test.YtiidlcjjaglkdaaJ3LawNoted
import Derived.WalkKit
import Derived.WalkSpells
import Derived.WalkLawsBesides
import Derived.Below
import Derived.Test.YtiidlcjjaglkdaaJ0LawNoted
import Derived.Deep.QuietTactic
import Derived.BigQuiet
import Derived.Test.YtiidlcjjaglkdaaJ7LawNoted
import Derived.Lib.QuietBelow
import Derived.Deep.CutRange
import Derived.Test.YtiidlcjjaglkdaaJ2LawNoted
namespace Go.Proofs.Ytiidlcjjaglkdaa
open Go.RowKit
def DrawnN (w : World) (e : Ending) (w' : World) : Prop :=
  ∃ (v : TV) (t : T7) (s : N5), e = .returned (.tuple #[v.val t, .agg #[.int .i64 s.region, .int .i64 s.slot, .int .i64 s.version, .int .i64 s.value, .bool s.used]]) ∧ SlT w' v t ∧ t.reads.length ≤ 100 ∧ t.sets.length ≤ 100 ∧ t.reads.length ≤ v.cr ∧ t.sets.length ≤ v.ch ∧ Below w.heap.size w w'
set_option maxHeartbeats 8000000 in
theorem DrawAddRead_any (w : World) (a : Option Addr) (n k : Nat) (hb : Bytes w w.heap.size a n) (hn : n ≤ 4096) :
    Calls Try.prog 9 #[.slice a n k] w (DrawnN w) := by
  obtain ⟨W, hW⟩ : ∃ W, W = (w.alloc (.cells #[.int .i64 0, .int .i64 0, .int .i64 0, .int .i64 0, .slice none 0 0, .slice none 0 0, .int .i64 0] 27)).alloc (.cells #[.int .i64 0, .int .i64 0, .int .i64 0, .int .i64 0, .bool false] 29) := ⟨_, rfl⟩
  have b0 : Below w.heap.size w W := by rw [hW]; exact ((Below.refl _ _).alloc (Nat.le_refl _) _).alloc (by simp) _
  have z0 : BT W w.heap.size ⟨none, 0, none, 0⟩ noT := by rw [hW]; exact (BT.zero w _).later ((Below.refl _ _).alloc (Nat.le_refl _) _)
  have s0 : W.heap.size = w.heap.size + 2 := by rw [hW]; simp
  have n0 : NoteBox W (w.heap.size + 1) ⟨0, 0, 0, 0, false⟩ := by
    rw [hW]
    have hh := NoteBox.new (w.alloc (.cells #[.int .i64 0, .int .i64 0, .int .i64 0, .int .i64 0, .slice none 0 0, .slice none 0 0, .int .i64 0] 27)) ⟨0, 0, 0, 0, false⟩ 29
    rw [show (w.alloc (.cells #[.int .i64 0, .int .i64 0, .int .i64 0, .int .i64 0, .slice none 0 0, .slice none 0 0, .int .i64 0] 27)).heap.size = w.heap.size + 1 by simp] at hh
    exact hh
  have hc := l1New_any W a n k ((hb.below b0).mono b0.size) hn
  have H : Hid (Below w.heap.size w W ∧ BT W w.heap.size ⟨none, 0, none, 0⟩ noT ∧ W.heap.size = w.heap.size + 2 ∧ Bytes W w.heap.size a n ∧ NoteBox W (w.heap.size + 1) ⟨0, 0, 0, 0, false⟩) := ⟨b0, z0, s0, hb.below b0, n0⟩
  clear b0 z0 s0 n0 hb hn
  go_enter Try.func9, Try.ntmps9
  go_wp2_with fail
  rw [← hW]
  clear hW
  refine hc.mono ?_
  clear hc
  rintro e w1 ⟨c, rfl, hc1, cu1, b1⟩
  have H1 : Hid (W.heap.size ≤ c ∧ Cur w1 c a n k ∧ Below W.heap.size W w1) := ⟨hc1, cu1, b1⟩
  clear hc1 cu1 b1
  have HC : Hid (w.heap.size + 2 ≤ c ∧ c < w1.heap.size ∧ Below w.heap.size w w1 ∧ Bytes w1 w.heap.size a n) := by
    have hs := H.out.2.2.1
    have h1 := H1.out.1
    exact ⟨by omega, H1.out.2.1.lt, H.out.1.trans (H1.out.2.2.mono (by omega)), H.out.2.2.2.1.below (H1.out.2.2.mono (by omega))⟩
  go_wp2_with fail
  refine (l7Draw_any w1 w.heap.size c a n k H1.out.2.1 HC.out.2.2.2 (by have := HC.out.1; omega)).mono ?_
  rintro e w2 ⟨⟨ar, cr, ah, ch⟩, t, rfl, hsl, hl1, hl2, hc1, hc2, cu2, t2⟩
  simp only [TV.val]
  have HT : Hid ((∀ Y, w2.heap.size ≤ Y.heap.size → (∀ q, w1.heap.size < q → q < w2.heap.size → Y.heap[q]? = w2.heap[q]?) → SlT Y ⟨ar, cr, ah, ch⟩ t) ∧ t.reads.length ≤ 100 ∧ t.sets.length ≤ 100 ∧ t.reads.length ≤ cr ∧ t.sets.length ≤ ch ∧ Cur w2 c a n k ∧ Turned c w1 w2) := ⟨hsl, hl1, hl2, hc1, hc2, cu2, t2⟩
  clear hsl hl1 hl2 hc1 hc2 cu2 t2
  obtain ⟨X, hX⟩ : ∃ X, X = w2.alloc (.cells #[.int .i64 t.id, .int .i64 t.home, .int .i64 t.phase, .int .i64 t.count, .slice ar t.reads.length cr, .slice ah t.sets.length ch, .int .i64 t.stamp] 27) := ⟨_, rfl⟩
  have bX : Below w2.heap.size w2 X := by rw [hX]; exact (Below.refl _ _).alloc (Nat.le_refl _) _
  have xX : BT X w2.heap.size ⟨ar, cr, ah, ch⟩ t := by rw [hX]; exact BT.box w2 ⟨ar, cr, ah, ch⟩ t _
  obtain ⟨Q, hQ⟩ : ∃ Q, Q = w2.heap.size := ⟨_, rfl⟩
  have r0 := Below.refl X.heap.size X
  have bD : Below X.heap.size X X.drew := ⟨r0.os, r0.tape, r0.output, r0.size, r0.block⟩
  have bXD : Below w2.heap.size w2 X.drew := bX.trans (bD.mono bX.size)
  have HX : Hid (Below w2.heap.size w2 X.drew ∧ BT X.drew Q ⟨ar, cr, ah, ch⟩ t ∧ Cur X.drew c a n k ∧ Turned c w1 X.drew) := ⟨bXD, by rw [hQ]; exact xX.later bD, (HT.out.2.2.2.2.2.1.later bXD), (HT.out.2.2.2.2.2.2.of_below bXD)⟩
  clear bX xX bD bXD r0
  go_wp2_with fail
  rw [← hX, ← hQ]
  have HQ := hidOf hQ
  clear hX hQ
  refine wp_region_z (fun z => z == 3 || z == 4) (fun Y : World => BT Y Q ⟨ar, cr, ah, ch⟩ t) (by kernel_rfl) ?_
  generalize X.drew = D at *
  have hS : (fun Y : World => BT Y Q ⟨ar, cr, ah, ch⟩ t) D := HX.out.2.1
  refine wpZ_take (i := 0) (v := ?_) rfl (by kernel_rfl) (fun _ _ _ h => h) (Or.inl ⟨by rfl, ?_⟩) hS ?_
  rotate_left
  · (intro X hSw; obtain ⟨p0, p1, p2, p3, p4, p5, p6, -, -⟩ := hSw; dsimp only at p4 p5; go_simp; first | done | with_reducible rfl)
  simp only [Act.put]
  refine wpZ_takeP (i := 1) (v := ?_) rfl (by kernel_rfl) (fun _ _ _ h => h) (Or.inl ⟨by rfl, ?_⟩) hS ?_
  rotate_left
  · (intro X _; go_simp; first | done | with_reducible rfl)
  simp only [Act.put]
  refine wpZ_ready (rs := [2]) (by kernel_rfl) (by simp) ?_
  refine AllZ.cons rfl (fun K hK => ?_) AllZ.nil
  go_simp
  refine (l7DrawNote_any D w.heap.size c a n k HX.out.2.2.1 (HC.out.2.2.2.below (HX.out.2.2.2.below (by have := HC.out.1; omega) (by have := HC.out.2.2.1.size; omega))) (by have := HC.out.1; omega)).mono ?_
  rintro e C0 ⟨s, rfl, -, t3⟩
  have HF : Hid (BT C0 Q ⟨ar, cr, ah, ch⟩ t ∧ BT C0 w.heap.size ⟨none, 0, none, 0⟩ noT ∧ NoteBox C0 (w.heap.size + 1) ⟨0, 0, 0, 0, false⟩ ∧ DrawnN w (.returned (.tuple #[.agg #[.int .i64 t.id, .int .i64 t.home, .int .i64 t.phase, .int .i64 t.count, .slice ar t.reads.length cr, .slice ah t.sets.length ch, .int .i64 t.stamp], .agg #[.int .i64 s.region, .int .i64 s.slot, .int .i64 s.version, .int .i64 s.value, .bool s.used]])) ((((((putT C0 w.heap.size ⟨ar, cr, ah, ch⟩ t).setCell ⟨w.heap.size + 1, 0, none⟩ (.int .i64 s.region)).setCell ⟨w.heap.size + 1, 1, none⟩ (.int .i64 s.slot)).setCell ⟨w.heap.size + 1, 2, none⟩ (.int .i64 s.version)).setCell ⟨w.heap.size + 1, 3, none⟩ (.int .i64 s.value)).setCell ⟨w.heap.size + 1, 4, none⟩ (.bool s.used))) := by
    have hs := H.out.2.2.1
    have h1 := HC.out.1
    have h2 := HC.out.2.1
    have h3 := H1.out.2.2.size
    have h4 := HT.out.2.2.2.2.2.2.size
    have h5 := HX.out.1.size
    have hQ := HQ.out
    have tc : Turned c w1 C0 := HX.out.2.2.2.trans t3
    have zc : BT C0 w.heap.size ⟨none, 0, none, 0⟩ noT := (H.out.2.1.later H1.out.2.2).of_block (tc.block _ (by omega) (by omega)) tc.size
    have nw : NoteBox w1 (w.heap.size + 1) ⟨0, 0, 0, 0, false⟩ := H.out.2.2.2.2.turned (c := W.heap.size) ((Turned.refl _ _).of_below H1.out.2.2) (by omega) (by omega)
    have nc : NoteBox C0 (w.heap.size + 1) ⟨0, 0, 0, 0, false⟩ := nw.turned tc (by omega) (by omega)
    have hb0 : Below w.heap.size w C0 := HC.out.2.2.1.trans (tc.below (by omega) (by omega))
    refine ⟨HX.out.2.1.of_block (t3.block Q HX.out.2.1.lt (by omega)) t3.size, zc, nc, ⟨ar, cr, ah, ch⟩, t, s, rfl, ?_, HT.out.2.1, HT.out.2.2.1, HT.out.2.2.2.1, HT.out.2.2.2.2.1, (((((putT_below hb0 (Nat.le_refl _)).setCell (p := ⟨w.heap.size + 1, _, none⟩) (by show w.heap.size ≤ w.heap.size + 1; omega) _).setCell (p := ⟨w.heap.size + 1, _, none⟩) (by show w.heap.size ≤ w.heap.size + 1; omega) _).setCell (p := ⟨w.heap.size + 1, _, none⟩) (by show w.heap.size ≤ w.heap.size + 1; omega) _).setCell (p := ⟨w.heap.size + 1, _, none⟩) (by show w.heap.size ≤ w.heap.size + 1; omega) _).setCell (p := ⟨w.heap.size + 1, _, none⟩) (by show w.heap.size ≤ w.heap.size + 1; omega) _⟩
    refine HT.out.1 _ ?_ (fun q g1 g2 => ?_)
    · have := putT_size C0 w.heap.size ⟨ar, cr, ah, ch⟩ t
      have := t3.size
      simp only [World.setCell, Array.size_modify]
      omega
    · exact (Below.heap_setCell _ _ _ _ (by show q ≠ w.heap.size + 1; omega)).trans ((Below.heap_setCell _ _ _ _ (by show q ≠ w.heap.size + 1; omega)).trans ((Below.heap_setCell _ _ _ _ (by show q ≠ w.heap.size + 1; omega)).trans ((Below.heap_setCell _ _ _ _ (by show q ≠ w.heap.size + 1; omega)).trans ((Below.heap_setCell _ _ _ _ (by show q ≠ w.heap.size + 1; omega)).trans ((putT_block (by omega)).trans ((t3.block q (by omega) (by omega)).trans (HX.out.1.block q g2)))))))
  clear t3
  refine hK.out _ _ (fun _ => HF.out.1) ?_
  clear hK K hS HX HT H H1 HC HQ
  have hS := HF.out.1
  obtain ⟨z0, z1, z2, z3, z4, z5, z6, zf, -⟩ := HF.out.2.1
  dsimp only [noT, List.length_nil] at z0 z1 z2 z3 z4 z5 z6
  have f0 := zf 0
  have f1 := zf 1
  have f2 := zf 2
  have f3 := zf 3
  have f4 := zf 4
  have f5 := zf 5
  have f6 := zf 6
  obtain ⟨⟨y0, y1, y2, y3, y4⟩, yf⟩ := HF.out.2.2.1
  simp only [Nat.zero_add] at y1 y2 y3 y4
  dsimp only at y0 y1 y2 y3 y4
  have g0 := yf 0 (by omega)
  have g1 := yf 1 (by omega)
  have g2 := yf 2 (by omega)
  have g3 := yf 3 (by omega)
  have g4 := yf 4 (by omega)
  have KF : Hid (DrawnN w (.returned (.tuple #[.agg #[.int .i64 t.id, .int .i64 t.home, .int .i64 t.phase, .int .i64 t.count, .slice ar t.reads.length cr, .slice ah t.sets.length ch, .int .i64 t.stamp], .agg #[.int .i64 s.region, .int .i64 s.slot, .int .i64 s.version, .int .i64 s.value, .bool s.used]])) ((((((putT C0 w.heap.size ⟨ar, cr, ah, ch⟩ t).setCell ⟨w.heap.size + 1, 0, none⟩ (.int .i64 s.region)).setCell ⟨w.heap.size + 1, 1, none⟩ (.int .i64 s.slot)).setCell ⟨w.heap.size + 1, 2, none⟩ (.int .i64 s.version)).setCell ⟨w.heap.size + 1, 3, none⟩ (.int .i64 s.value)).setCell ⟨w.heap.size + 1, 4, none⟩ (.bool s.used))) := HF.out.2.2.2
  clear zf yf HF
  refine wpZ_ready (rs := [3]) (by kernel_rfl) (by simp) ?_
  refine AllZ.cons rfl (fun K hK => ?_) AllZ.nil
  go_simp
  refine hK.out _ _ (fun h => absurd (show false = true from h.symm.trans (by kernel_rfl)) (by decide)) ?_
  clear hK K
  refine wpZ_ready (rs := [4]) (by kernel_rfl) (by simp) ?_
  refine AllZ.cons rfl (fun K hK => ?_) AllZ.nil
  go_simp
  refine hK.out _ _ (fun h => absurd (show false = true from h.symm.trans (by kernel_rfl)) (by decide)) ?_
  clear hK K
  refine wpZ_done (by kernel_rfl) ?_ _
  go_wp2
  refine bodyPost_ret (v := .tuple #[.agg #[.int .i64 t.id, .int .i64 t.home, .int .i64 t.phase, .int .i64 t.count, .slice ar t.reads.length cr, .slice ah t.sets.length ch, .int .i64 t.stamp], .agg #[.int .i64 s.region, .int .i64 s.slot, .int .i64 s.version, .int .i64 s.value, .bool s.used]]) (by simp [results, Try.results9, go_sem, z0, z1, z2, z3, z4, z5, z6, y0, y1, y2, y3, y4]) rfl ?_
  exact KF.out
def DrawnS (w : World) (e : Ending) (w' : World) : Prop :=
  ∃ (v : TV) (t : T7) (s : S5), e = .returned (.tuple #[v.val t, .agg #[.int .i64 s.region, .int .i64 s.slot, .int .i64 s.value, .bool s.used, .int .i64 s.version]]) ∧ SlT w' v t ∧ t.reads.length ≤ 100 ∧ t.sets.length ≤ 100 ∧ t.reads.length ≤ v.cr ∧ t.sets.length ≤ v.ch ∧ Below w.heap.size w w'
set_option maxHeartbeats 8000000 in
theorem DrawAddSet_any (w : World) (a : Option Addr) (n k : Nat) (hb : Bytes w w.heap.size a n) (hn : n ≤ 4096) :
    Calls Try.prog 13 #[.slice a n k] w (DrawnS w) := by
  obtain ⟨W, hW⟩ : ∃ W, W = (w.alloc (.cells #[.int .i64 0, .int .i64 0, .int .i64 0, .int .i64 0, .slice none 0 0, .slice none 0 0, .int .i64 0] 27)).alloc (.cells #[.int .i64 0, .int .i64 0, .int .i64 0, .bool false, .int .i64 0] 36) := ⟨_, rfl⟩
  have b0 : Below w.heap.size w W := by rw [hW]; exact ((Below.refl _ _).alloc (Nat.le_refl _) _).alloc (by simp) _
  have z0 : BT W w.heap.size ⟨none, 0, none, 0⟩ noT := by rw [hW]; exact (BT.zero w _).later ((Below.refl _ _).alloc (Nat.le_refl _) _)
  have s0 : W.heap.size = w.heap.size + 2 := by rw [hW]; simp
  have n0 : SetBox W (w.heap.size + 1) ⟨0, 0, 0, false, 0⟩ := by
    rw [hW]
    have hh := SetBox.new (w.alloc (.cells #[.int .i64 0, .int .i64 0, .int .i64 0, .int .i64 0, .slice none 0 0, .slice none 0 0, .int .i64 0] 27)) ⟨0, 0, 0, false, 0⟩ 36
    rw [show (w.alloc (.cells #[.int .i64 0, .int .i64 0, .int .i64 0, .int .i64 0, .slice none 0 0, .slice none 0 0, .int .i64 0] 27)).heap.size = w.heap.size + 1 by simp] at hh
    exact hh
  have hc := l1New_any W a n k ((hb.below b0).mono b0.size) hn
  have H : Hid (Below w.heap.size w W ∧ BT W w.heap.size ⟨none, 0, none, 0⟩ noT ∧ W.heap.size = w.heap.size + 2 ∧ Bytes W w.heap.size a n ∧ SetBox W (w.heap.size + 1) ⟨0, 0, 0, false, 0⟩) := ⟨b0, z0, s0, hb.below b0, n0⟩
  clear b0 z0 s0 n0 hb hn
  go_enter Try.func13, Try.ntmps13
  go_wp2_with fail
  rw [← hW]
  clear hW
  refine hc.mono ?_
  clear hc
  rintro e w1 ⟨c, rfl, hc1, cu1, b1⟩
  have H1 : Hid (W.heap.size ≤ c ∧ Cur w1 c a n k ∧ Below W.heap.size W w1) := ⟨hc1, cu1, b1⟩
  clear hc1 cu1 b1
  have HC : Hid (w.heap.size + 2 ≤ c ∧ c < w1.heap.size ∧ Below w.heap.size w w1 ∧ Bytes w1 w.heap.size a n) := by
    have hs := H.out.2.2.1
    have h1 := H1.out.1
    exact ⟨by omega, H1.out.2.1.lt, H.out.1.trans (H1.out.2.2.mono (by omega)), H.out.2.2.2.1.below (H1.out.2.2.mono (by omega))⟩
  go_wp2_with fail
  refine (l7Draw_any w1 w.heap.size c a n k H1.out.2.1 HC.out.2.2.2 (by have := HC.out.1; omega)).mono ?_
  rintro e w2 ⟨⟨ar, cr, ah, ch⟩, t, rfl, hsl, hl1, hl2, hc1, hc2, cu2, t2⟩
  simp only [TV.val]
  have HT : Hid ((∀ Y, w2.heap.size ≤ Y.heap.size → (∀ q, w1.heap.size < q → q < w2.heap.size → Y.heap[q]? = w2.heap[q]?) → SlT Y ⟨ar, cr, ah, ch⟩ t) ∧ t.reads.length ≤ 100 ∧ t.sets.length ≤ 100 ∧ t.reads.length ≤ cr ∧ t.sets.length ≤ ch ∧ Cur w2 c a n k ∧ Turned c w1 w2) := ⟨hsl, hl1, hl2, hc1, hc2, cu2, t2⟩
  clear hsl hl1 hl2 hc1 hc2 cu2 t2
  obtain ⟨X, hX⟩ : ∃ X, X = w2.alloc (.cells #[.int .i64 t.id, .int .i64 t.home, .int .i64 t.phase, .int .i64 t.count, .slice ar t.reads.length cr, .slice ah t.sets.length ch, .int .i64 t.stamp] 27) := ⟨_, rfl⟩
  have bX : Below w2.heap.size w2 X := by rw [hX]; exact (Below.refl _ _).alloc (Nat.le_refl _) _
  have xX : BT X w2.heap.size ⟨ar, cr, ah, ch⟩ t := by rw [hX]; exact BT.box w2 ⟨ar, cr, ah, ch⟩ t _
  obtain ⟨Q, hQ⟩ : ∃ Q, Q = w2.heap.size := ⟨_, rfl⟩
  have r0 := Below.refl X.heap.size X
  have bD : Below X.heap.size X X.drew := ⟨r0.os, r0.tape, r0.output, r0.size, r0.block⟩
  have bXD : Below w2.heap.size w2 X.drew := bX.trans (bD.mono bX.size)
  have HX : Hid (Below w2.heap.size w2 X.drew ∧ BT X.drew Q ⟨ar, cr, ah, ch⟩ t ∧ Cur X.drew c a n k ∧ Turned c w1 X.drew) := ⟨bXD, by rw [hQ]; exact xX.later bD, (HT.out.2.2.2.2.2.1.later bXD), (HT.out.2.2.2.2.2.2.of_below bXD)⟩
  clear bX xX bD bXD r0
  go_wp2_with fail
  rw [← hX, ← hQ]
  have HQ := hidOf hQ
  clear hX hQ
  refine wp_region_z (fun z => z == 5 || z == 6) (fun Y : World => BT Y Q ⟨ar, cr, ah, ch⟩ t) (by kernel_rfl) ?_
  generalize X.drew = D at *
  have hS : (fun Y : World => BT Y Q ⟨ar, cr, ah, ch⟩ t) D := HX.out.2.1
  refine wpZ_take (i := 0) (v := ?_) rfl (by kernel_rfl) (fun _ _ _ h => h) (Or.inl ⟨by rfl, ?_⟩) hS ?_
  rotate_left
  · (intro X hSw; obtain ⟨p0, p1, p2, p3, p4, p5, p6, -, -⟩ := hSw; dsimp only at p4 p5; go_simp; first | done | with_reducible rfl)
  simp only [Act.put]
  refine wpZ_takeP (i := 1) (v := ?_) rfl (by kernel_rfl) (fun _ _ _ h => h) (Or.inl ⟨by rfl, ?_⟩) hS ?_
  rotate_left
  · (intro X _; go_simp; first | done | with_reducible rfl)
  simp only [Act.put]
  refine wpZ_takeP (i := 2) (v := ?_) rfl (by kernel_rfl) (fun _ _ _ h => h) (Or.inl ⟨by rfl, ?_⟩) hS ?_
  rotate_left
  · (intro X _; go_simp; first | done | with_reducible rfl)
  simp only [Act.put]
  refine wpZ_ready (rs := [3]) (by kernel_rfl) (by simp) ?_
  refine AllZ.cons rfl (fun K hK => ?_) AllZ.nil
  go_simp
  refine (l1Below_any D w.heap.size c a n k 3 HX.out.2.2.1 (HC.out.2.2.2.below (HX.out.2.2.2.below (by have := HC.out.1; omega) (by have := HC.out.2.2.1.size; omega))) (by have := HC.out.1; omega) (by omega)).mono ?_
  rintro e B0 ⟨y, rfl, hy0, hy1, cB, tB⟩
  have HY : Hid (Turned c D B0 ∧ Cur B0 c a n k ∧ (0 ≤ y ∧ y ≤ 1000)) := ⟨tB, cB, hy0, by omega⟩
  clear hy0 hy1 cB tB
  have sB : BT B0 Q ⟨ar, cr, ah, ch⟩ t := HX.out.2.1.of_block (HY.out.1.block Q HX.out.2.1.lt (by have := HC.out.2.1; have := HT.out.2.2.2.2.2.2.size; have := HQ.out; omega)) HY.out.1.size
  refine hK.out _ _ (fun _ => sB) ?_
  clear hK K hS
  have hS := sB
  clear sB
  refine wpZ_ready (rs := [4]) (by kernel_rfl) (by simp) ?_
  refine AllZ.cons rfl (fun K hK => ?_) AllZ.nil
  go_simp
  refine (l2DrawSet_any B0 w.heap.size c a n k y HY.out.2.2 HY.out.2.1 (HC.out.2.2.2.below ((HX.out.2.2.2.trans HY.out.1).below (by have := HC.out.1; omega) (by have := HC.out.2.2.1.size; omega))) (by have := HC.out.1; omega)).mono ?_
  rintro e C0 ⟨s, rfl, -, t3'⟩
  have t3 : Turned c D C0 := HY.out.1.trans t3'
  clear t3' HY
  have HF : Hid (BT C0 Q ⟨ar, cr, ah, ch⟩ t ∧ BT C0 w.heap.size ⟨none, 0, none, 0⟩ noT ∧ SetBox C0 (w.heap.size + 1) ⟨0, 0, 0, false, 0⟩ ∧ DrawnS w (.returned (.tuple #[.agg #[.int .i64 t.id, .int .i64 t.home, .int .i64 t.phase, .int .i64 t.count, .slice ar t.reads.length cr, .slice ah t.sets.length ch, .int .i64 t.stamp], .agg #[.int .i64 s.region, .int .i64 s.slot, .int .i64 s.value, .bool s.used, .int .i64 s.version]])) ((((((putT C0 w.heap.size ⟨ar, cr, ah, ch⟩ t).setCell ⟨w.heap.size + 1, 0, none⟩ (.int .i64 s.region)).setCell ⟨w.heap.size + 1, 1, none⟩ (.int .i64 s.slot)).setCell ⟨w.heap.size + 1, 2, none⟩ (.int .i64 s.value)).setCell ⟨w.heap.size + 1, 3, none⟩ (.bool s.used)).setCell ⟨w.heap.size + 1, 4, none⟩ (.int .i64 s.version))) := by
    have hs := H.out.2.2.1
    have h1 := HC.out.1
    have h2 := HC.out.2.1
    have h3 := H1.out.2.2.size
    have h4 := HT.out.2.2.2.2.2.2.size
    have h5 := HX.out.1.size
    have hQ := HQ.out
    have tc : Turned c w1 C0 := HX.out.2.2.2.trans t3
    have zc : BT C0 w.heap.size ⟨none, 0, none, 0⟩ noT := (H.out.2.1.later H1.out.2.2).of_block (tc.block _ (by omega) (by omega)) tc.size
    have nw : SetBox w1 (w.heap.size + 1) ⟨0, 0, 0, false, 0⟩ := H.out.2.2.2.2.turned (c := W.heap.size) ((Turned.refl _ _).of_below H1.out.2.2) (by omega) (by omega)
    have nc : SetBox C0 (w.heap.size + 1) ⟨0, 0, 0, false, 0⟩ := nw.turned tc (by omega) (by omega)
    have hb0 : Below w.heap.size w C0 := HC.out.2.2.1.trans (tc.below (by omega) (by omega))
    refine ⟨HX.out.2.1.of_block (t3.block Q HX.out.2.1.lt (by omega)) t3.size, zc, nc, ⟨ar, cr, ah, ch⟩, t, s, rfl, ?_, HT.out.2.1, HT.out.2.2.1, HT.out.2.2.2.1, HT.out.2.2.2.2.1, (((((putT_below hb0 (Nat.le_refl _)).setCell (p := ⟨w.heap.size + 1, _, none⟩) (by show w.heap.size ≤ w.heap.size + 1; omega) _).setCell (p := ⟨w.heap.size + 1, _, none⟩) (by show w.heap.size ≤ w.heap.size + 1; omega) _).setCell (p := ⟨w.heap.size + 1, _, none⟩) (by show w.heap.size ≤ w.heap.size + 1; omega) _).setCell (p := ⟨w.heap.size + 1, _, none⟩) (by show w.heap.size ≤ w.heap.size + 1; omega) _).setCell (p := ⟨w.heap.size + 1, _, none⟩) (by show w.heap.size ≤ w.heap.size + 1; omega) _⟩
    refine HT.out.1 _ ?_ (fun q g1 g2 => ?_)
    · have := putT_size C0 w.heap.size ⟨ar, cr, ah, ch⟩ t
      have := t3.size
      simp only [World.setCell, Array.size_modify]
      omega
    · exact (Below.heap_setCell _ _ _ _ (by show q ≠ w.heap.size + 1; omega)).trans ((Below.heap_setCell _ _ _ _ (by show q ≠ w.heap.size + 1; omega)).trans ((Below.heap_setCell _ _ _ _ (by show q ≠ w.heap.size + 1; omega)).trans ((Below.heap_setCell _ _ _ _ (by show q ≠ w.heap.size + 1; omega)).trans ((Below.heap_setCell _ _ _ _ (by show q ≠ w.heap.size + 1; omega)).trans ((putT_block (by omega)).trans ((t3.block q (by omega) (by omega)).trans (HX.out.1.block q g2)))))))
  clear t3
  refine hK.out _ _ (fun _ => HF.out.1) ?_
  clear hK K hS HX HT H H1 HC HQ
  have hS := HF.out.1
  obtain ⟨z0, z1, z2, z3, z4, z5, z6, zf, -⟩ := HF.out.2.1
  dsimp only [noT, List.length_nil] at z0 z1 z2 z3 z4 z5 z6
  have f0 := zf 0
  have f1 := zf 1
  have f2 := zf 2
  have f3 := zf 3
  have f4 := zf 4
  have f5 := zf 5
  have f6 := zf 6
  obtain ⟨⟨y0, y1, y2, y3, y4⟩, yf⟩ := HF.out.2.2.1
  simp only [Nat.zero_add] at y1 y2 y3 y4
  dsimp only at y0 y1 y2 y3 y4
  have g0 := yf 0 (by omega)
  have g1 := yf 1 (by omega)
  have g2 := yf 2 (by omega)
  have g3 := yf 3 (by omega)
  have g4 := yf 4 (by omega)
  have KF : Hid (DrawnS w (.returned (.tuple #[.agg #[.int .i64 t.id, .int .i64 t.home, .int .i64 t.phase, .int .i64 t.count, .slice ar t.reads.length cr, .slice ah t.sets.length ch, .int .i64 t.stamp], .agg #[.int .i64 s.region, .int .i64 s.slot, .int .i64 s.value, .bool s.used, .int .i64 s.version]])) ((((((putT C0 w.heap.size ⟨ar, cr, ah, ch⟩ t).setCell ⟨w.heap.size + 1, 0, none⟩ (.int .i64 s.region)).setCell ⟨w.heap.size + 1, 1, none⟩ (.int .i64 s.slot)).setCell ⟨w.heap.size + 1, 2, none⟩ (.int .i64 s.value)).setCell ⟨w.heap.size + 1, 3, none⟩ (.bool s.used)).setCell ⟨w.heap.size + 1, 4, none⟩ (.int .i64 s.version))) := HF.out.2.2.2
  clear zf yf HF
  refine wpZ_ready (rs := [5]) (by kernel_rfl) (by simp) ?_
  refine AllZ.cons rfl (fun K hK => ?_) AllZ.nil
  go_simp
  refine hK.out _ _ (fun h => absurd (show false = true from h.symm.trans (by kernel_rfl)) (by decide)) ?_
  clear hK K
  refine wpZ_ready (rs := [6]) (by kernel_rfl) (by simp) ?_
  refine AllZ.cons rfl (fun K hK => ?_) AllZ.nil
  go_simp
  refine hK.out _ _ (fun h => absurd (show false = true from h.symm.trans (by kernel_rfl)) (by decide)) ?_
  clear hK K
  refine wpZ_done (by kernel_rfl) ?_ _
  go_wp2
  refine bodyPost_ret (v := .tuple #[.agg #[.int .i64 t.id, .int .i64 t.home, .int .i64 t.phase, .int .i64 t.count, .slice ar t.reads.length cr, .slice ah t.sets.length ch, .int .i64 t.stamp], .agg #[.int .i64 s.region, .int .i64 s.slot, .int .i64 s.value, .bool s.used, .int .i64 s.version]]) (by simp [results, Try.results13, go_sem, z0, z1, z2, z3, z4, z5, z6, y0, y1, y2, y3, y4]) rfl ?_
  exact KF.out
theorem below_nq {B : Nat} {a w : World} (h : Below B a w) (n : Nat) : Below B a (w.drewN n) := ⟨h.os, h.tape, h.output, h.size, h.block⟩
set_option maxHeartbeats 2000000 in
theorem likeSets_some (w : World) (b off cap b' off' cap' n : Nat) (xs : List S5) (hx : xs.length = n) (hn : n ≤ maxLen) (h1 : SetsAt w b off xs) (hb : b < w.heap.size) (h2 : SetsAt w b' off' xs) (hb' : b' < w.heap.size) :
    Calls Try.prog 51 #[.slice (some ⟨b, off, none⟩) n cap, .slice (some ⟨b', off', none⟩) n cap'] w fun e w' => e = .returned (.bool true) ∧ Below w.heap.size w w' := by
  unfold maxLen at hn
  go_enter Try.func51, Try.ntmps51
  go_wp2
  go_loopw [5] (fun i wr => ∃ k : Nat, k ≤ n ∧ i = .int .i64 k ∧ Below w.heap.size w wr) (fun i _ => n - (intOf i).toNat)
  case atStart => exact ⟨0, Nat.zero_le _, rfl, Below.refl _ _⟩
  case round =>
    obtain ⟨k, hk, rfl, hbl⟩ := hrel
    by_cases hlt : k < n
    · obtain ⟨s, hsk⟩ : ∃ s, xs[k]? = some s := ⟨xs[k]'(by omega), by simp⟩
      obtain ⟨c0, c1, c2, c3, c4⟩ := (h1 k s hsk).below hbl hb
      obtain ⟨e0, e1, e2, e3, e4⟩ := (h2 k s hsk).below hbl hb'
      have K : Hid (Below w.heap.size w wr) := hbl
      clear hbl hsk h1 h2
      go_wp2
      go_quiet (fail)
      go_wp2
      exact ⟨⟨k + 1, by omega, by simp, below_nq K.out _⟩, by simp [intOf]; omega⟩
    · have : k = n := by omega
      subst this
      have hd : decide ((k : Int) < (k : Int)) = false := by simp
      go_wp2
      go_ret
      exact ⟨rfl, hbl⟩
theorem likeSets_none (w : World) (a a' : Option Addr) (cap cap' : Nat) : Calls Try.prog 51 #[.slice a 0 cap, .slice a' 0 cap'] w fun e w' => e = .returned (.bool true) ∧ Below w.heap.size w w' := by
  go_enter Try.func51, Try.ntmps51
  go_wp2
  go_loopw [5] (fun i wr => i = .int .i64 0 ∧ Below w.heap.size w wr) (fun _ _ => 0)
  case atStart => exact ⟨rfl, Below.refl _ _⟩
  case round =>
    obtain ⟨rfl, hbl⟩ := hrel
    go_wp2
    go_ret
    exact ⟨rfl, hbl⟩
theorem likeSets_any (w : World) (a a' : Option Addr) (n cap cap' : Nat) (xs : List S5) (hn : n ≤ maxLen) (h1 : Sl w w.heap.size a n xs) (h2 : Sl w w.heap.size a' n xs) :
    Calls Try.prog 51 #[.slice a n cap, .slice a' n cap'] w fun e w' => e = .returned (.bool true) ∧ Below w.heap.size w w' := by
  obtain ⟨hx, h1⟩ := h1
  obtain ⟨_, h2⟩ := h2
  rcases h1 with rfl | ⟨b, off, rfl, hb, h1⟩
  · exact likeSets_none w a a' cap cap'
  · rcases h2 with rfl | ⟨b', off', rfl, hb', h2⟩
    · exact likeSets_none w _ a' cap cap'
    · exact likeSets_some w b off cap b' off' cap' n xs hx hn h1 hb h2 hb'
set_option maxHeartbeats 2000000 in
theorem likeNotes_some (w : World) (b off cap b' off' cap' n : Nat) (xs : List N5) (hx : xs.length = n) (hn : n ≤ maxLen) (h1 : NotesAt w b off xs) (hb : b < w.heap.size) (h2 : NotesAt w b' off' xs) (hb' : b' < w.heap.size) :
    Calls Try.prog 22 #[.slice (some ⟨b, off, none⟩) n cap, .slice (some ⟨b', off', none⟩) n cap'] w fun e w' => e = .returned (.bool true) ∧ Below w.heap.size w w' := by
  unfold maxLen at hn
  go_enter Try.func22, Try.ntmps22
  go_wp2
  go_loopw [5] (fun i wr => ∃ k : Nat, k ≤ n ∧ i = .int .i64 k ∧ Below w.heap.size w wr) (fun i _ => n - (intOf i).toNat)
  case atStart => exact ⟨0, Nat.zero_le _, rfl, Below.refl _ _⟩
  case round =>
    obtain ⟨k, hk, rfl, hbl⟩ := hrel
    by_cases hlt : k < n
    · obtain ⟨s, hsk⟩ : ∃ s, xs[k]? = some s := ⟨xs[k]'(by omega), by simp⟩
      obtain ⟨c0, c1, c2, c3, c4⟩ := (h1 k s hsk).below hbl hb
      obtain ⟨e0, e1, e2, e3, e4⟩ := (h2 k s hsk).below hbl hb'
      have K : Hid (Below w.heap.size w wr) := hbl
      clear hbl hsk h1 h2
      go_wp2
      go_quiet (fail)
      go_wp2
      exact ⟨⟨k + 1, by omega, by simp, below_nq K.out _⟩, by simp [intOf]; omega⟩
    · have : k = n := by omega
      subst this
      have hd : decide ((k : Int) < (k : Int)) = false := by simp
      go_wp2
      go_ret
      exact ⟨rfl, hbl⟩
theorem likeNotes_none (w : World) (a a' : Option Addr) (cap cap' : Nat) : Calls Try.prog 22 #[.slice a 0 cap, .slice a' 0 cap'] w fun e w' => e = .returned (.bool true) ∧ Below w.heap.size w w' := by
  go_enter Try.func22, Try.ntmps22
  go_wp2
  go_loopw [5] (fun i wr => i = .int .i64 0 ∧ Below w.heap.size w wr) (fun _ _ => 0)
  case atStart => exact ⟨rfl, Below.refl _ _⟩
  case round =>
    obtain ⟨rfl, hbl⟩ := hrel
    go_wp2
    go_ret
    exact ⟨rfl, hbl⟩
theorem likeNotes_any (w : World) (a a' : Option Addr) (n cap cap' : Nat) (xs : List N5) (hn : n ≤ maxLen) (h1 : SlNo w w.heap.size a n xs) (h2 : SlNo w w.heap.size a' n xs) :
    Calls Try.prog 22 #[.slice a n cap, .slice a' n cap'] w fun e w' => e = .returned (.bool true) ∧ Below w.heap.size w w' := by
  obtain ⟨hx, h1⟩ := h1
  obtain ⟨_, h2⟩ := h2
  rcases h1 with rfl | ⟨b, off, rfl, hb, h1⟩
  · exact likeNotes_none w a a' cap cap'
  · rcases h2 with rfl | ⟨b', off', rfl, hb', h2⟩
    · exact likeNotes_none w _ a' cap cap'
    · exact likeNotes_some w b off cap b' off' cap' n xs hx hn h1 hb h2 hb'
set_option maxHeartbeats 4000000 in
theorem likeTx_same (w : World) (v v' : TV) (t : T7) (hl : TL t) (h1 : SlT w v t) (h2 : SlT w v' t) :
    Calls Try.prog 12 #[v.val t, v'.val t] w fun e w' => e = .returned (.bool true) ∧ Below w.heap.size w w' := by
  obtain ⟨ar, cr, ah, ch⟩ := v
  obtain ⟨br, dr, bh, dh⟩ := v'
  simp only [TV.val]
  obtain ⟨W, hW⟩ : ∃ W, W = (w.alloc (.cells #[.int .i64 t.id, .int .i64 t.home, .int .i64 t.phase, .int .i64 t.count, .slice ar t.reads.length cr, .slice ah t.sets.length ch, .int .i64 t.stamp] 27)).alloc (.cells #[.int .i64 t.id, .int .i64 t.home, .int .i64 t.phase, .int .i64 t.count, .slice br t.reads.length dr, .slice bh t.sets.length dh, .int .i64 t.stamp] 27) := ⟨_, rfl⟩
  have b0 : Below w.heap.size w W := by rw [hW]; exact ((Below.refl _ _).alloc (Nat.le_refl _) _).alloc (by simp) _
  have x1 : BT W w.heap.size ⟨ar, cr, ah, ch⟩ t := by rw [hW]; exact (BT.box w ⟨ar, cr, ah, ch⟩ t _).later ((Below.refl _ _).alloc (Nat.le_refl _) _)
  have x2 : BT W (w.heap.size + 1) ⟨br, dr, bh, dh⟩ t := by
    rw [hW]
    have hh := BT.box (w.alloc (.cells #[.int .i64 t.id, .int .i64 t.home, .int .i64 t.phase, .int .i64 t.count, .slice ar t.reads.length cr, .slice ah t.sets.length ch, .int .i64 t.stamp] 27)) ⟨br, dr, bh, dh⟩ t 27
    rw [show (w.alloc (.cells #[.int .i64 t.id, .int .i64 t.home, .int .i64 t.phase, .int .i64 t.count, .slice ar t.reads.length cr, .slice ah t.sets.length ch, .int .i64 t.stamp] 27)).heap.size = w.heap.size + 1 by simp] at hh
    exact hh
  have n1 := likeNotes_any W ar br t.reads.length cr dr t.reads hl.r ((h1.r.below b0).mono b0.size) ((h2.r.below b0).mono b0.size)
  have K : Hid (Below w.heap.size w W ∧ BT W w.heap.size ⟨ar, cr, ah, ch⟩ t ∧ BT W (w.heap.size + 1) ⟨br, dr, bh, dh⟩ t ∧ SlT w ⟨ar, cr, ah, ch⟩ t ∧ SlT w ⟨br, dr, bh, dh⟩ t ∧ TL t) := ⟨b0, x1, x2, h1, h2, hl⟩
  clear b0 x1 x2 h1 h2 hl
  go_enter Try.func12, Try.ntmps12
  go_wp2_with fail
  rw [← hW]
  clear hW
  refine n1.mono ?_
  clear n1
  rintro e w1 ⟨rfl, b1⟩
  have b01 := K.out.1.trans (b1.mono K.out.1.size)
  have n2 := likeSets_any w1 ah bh t.sets.length ch dh t.sets K.out.2.2.2.2.2.s ((K.out.2.2.2.1.s.below b01).mono b01.size) ((K.out.2.2.2.2.1.s.below b01).mono b01.size)
  have K1 : Hid (Below w.heap.size w w1 ∧ Below W.heap.size W w1) := ⟨b01, b1⟩
  clear b01 b1
  obtain ⟨-, -, -, -, -, c5, c6, -, -⟩ := K.out.2.1.later K1.out.2
  obtain ⟨-, -, -, -, -, d5, d6, -, -⟩ := K.out.2.2.1.later K1.out.2
  dsimp only at c5 d5
  go_wp2_with fail
  refine n2.mono ?_
  clear n2 c5 c6 d5 d6
  rintro e w2 ⟨rfl, b2⟩
  have K2 : Hid (Below w.heap.size w w2) := K1.out.1.trans (b2.mono K1.out.1.size)
  obtain ⟨-, -, -, -, -, -, c6, -, -⟩ := (K.out.2.1.later K1.out.2).later b2
  obtain ⟨-, -, -, -, -, -, d6, -, -⟩ := (K.out.2.2.1.later K1.out.2).later b2
  clear b2 K1 K
  go_wp2
  go_ret
  exact ⟨rfl, K2.out⟩
end Go.Proofs.Ytiidlcjjaglkdaa
namespace Go.Proofs.Ytiidlcjjaglkdaa
open Go.RowKit
open Go.Sort (grow)
theorem rk_inj {r s q t : Int} (h1 : inB 0 5 s = true) (h2 : inB 0 5 t = true) (h : rk r s = rk q t) : r = q ∧ s = t := by
  rw [inB_iff] at h1 h2
  unfold rk at h
  omega
theorem noUp2_hp {xs : List N5} (h : noUp2 xs) : HeapP.Hp (noK xs) xs.length := fun i h0 hn => by
  have e1 : xs[(i - 1) / 2]? = some xs[(i - 1) / 2] := List.getElem?_eq_getElem (by omega)
  have e2 : xs[i]? = some xs[i] := List.getElem?_eq_getElem hn
  rw [noK_R e1, noK_R e2]
  exact Int.le_of_lt (noUp2_at h e1 e2 (by omega))
theorem insN_perm (xs : List N5) (n : N5) : (insN xs n).Perm (xs ++ [n]) := by
  unfold insN
  rw [List.append_assoc]
  refine ((List.Perm.refl _).append (List.perm_append_comm (l₁ := [n]) (l₂ := xs.drop (cutN xs n)))).trans ?_
  rw [← List.append_assoc, List.take_append_drop]
theorem insN_up {xs : List N5} {n : N5} (h : noUp2 xs) (hok : ∀ s ∈ xs, noteOkB s = true) (hn : noteOkB n = true) (hno : noW xs n.region n.slot = none) : (insN xs n).Pairwise (fun a b => noR a < noR b) := by
  have hn' := noOk_in hn
  have hlo : ∀ x ∈ xs.take (cutN xs n), noR x < noR n := fun x hx => by
    obtain ⟨i, hi, rfl⟩ := List.getElem_of_mem hx
    have hi' : i < cutN xs n := by rw [List.length_take] at hi; omega
    have hix : i < xs.length := by rw [List.length_take] at hi; omega
    have := List.not_of_lt_findIdx (p := fun x : N5 => !lessB x.region x.slot n.region n.slot) (xs := xs) hi'
    rw [List.getElem_take]
    have hk := (noOk_in (hok _ (List.getElem_mem hix))).2
    simp only [Bool.not_eq_false'] at this
    rw [less_rk hk hn'.2] at this
    simpa [noR] using this
  have hhi : ∀ x ∈ xs.drop (cutN xs n), noR n < noR x := fun x hx => by
    obtain ⟨i, hi, rfl⟩ := List.getElem_of_mem hx
    rw [List.length_drop] at hi
    have hc : cutN xs n < xs.length := by omega
    have h1 := List.findIdx_getElem (p := fun x : N5 => !lessB x.region x.slot n.region n.slot) (xs := xs) (w := hc)
    have hm : xs[cutN xs n] ∈ xs := List.getElem_mem hc
    have hk := (noOk_in (hok _ hm)).2
    change (!lessB xs[cutN xs n].region xs[cutN xs n].slot n.region n.slot) = true at h1
    rw [less_rk hk hn'.2] at h1
    simp only [Bool.not_eq_true', decide_eq_false_iff_not] at h1
    have h2 : noR n ≠ noR xs[cutN xs n] := fun e => by
      have := rk_inj hk hn'.2 e.symm
      exact noW_none.1 hno _ hm this
    have h3 : noR n < noR xs[cutN xs n] := by
      have : ¬ noR xs[cutN xs n] < noR n := h1
      omega
    rw [List.getElem_drop]
    rcases i with _ | i
    · simpa using h3
    · exact Int.lt_trans h3 (List.pairwise_iff_getElem.1 h _ _ hc (by omega) (by omega))
  unfold insN
  rw [List.pairwise_append, List.pairwise_append]
  refine ⟨⟨h.sublist (List.take_sublist _ _), by simp, fun a ha b hb => by simp at hb; subst hb; exact hlo a ha⟩, h.sublist (List.drop_sublist _ _), fun a ha b hb => ?_⟩
  rcases List.mem_append.1 ha with ha | ha
  · exact Int.lt_trans (hlo a ha) (hhi b hb)
  · simp at ha; subst ha; exact hhi b hb
theorem insN_len (xs : List N5) (n : N5) : (insN xs n).length = xs.length + 1 := by have := (insN_perm xs n).length_eq; simpa using this
theorem rk_inj' {r s q t : Int} (h1 : inB 0 5 s = true) (h2 : inB 0 5 t = true) (h : rk r s = rk q t) : r = q ∧ s = t := by
  rw [inB_iff] at h1 h2
  unfold rk at h
  omega
theorem insSe_perm (xs : List S5) (n : S5) : (insSe xs n).Perm (xs ++ [n]) := by
  unfold insSe
  rw [List.append_assoc]
  refine ((List.Perm.refl _).append (List.perm_append_comm (l₁ := [n]) (l₂ := xs.drop (cutSe xs n)))).trans ?_
  rw [← List.append_assoc, List.take_append_drop]
theorem insSe_up {xs : List S5} {n : S5} (h : seUp2 xs) (hok : ∀ s ∈ xs, setOkB s = true) (hn : setOkB n = true) (hno : seW xs n.region n.slot = none) : (insSe xs n).Pairwise (fun a b => seR a < seR b) := by
  have hn' := seOk_in hn
  have hlo : ∀ x ∈ xs.take (cutSe xs n), seR x < seR n := fun x hx => by
    obtain ⟨i, hi, rfl⟩ := List.getElem_of_mem hx
    have hi' : i < cutSe xs n := by rw [List.length_take] at hi; omega
    have hix : i < xs.length := by rw [List.length_take] at hi; omega
    have := List.not_of_lt_findIdx (p := fun x : S5 => !lessB x.region x.slot n.region n.slot) (xs := xs) hi'
    rw [List.getElem_take]
    have hk := (seOk_in (hok _ (List.getElem_mem hix))).2
    simp only [Bool.not_eq_false'] at this
    rw [less_rk hk hn'.2] at this
    simpa [seR] using this
  have hhi : ∀ x ∈ xs.drop (cutSe xs n), seR n < seR x := fun x hx => by
    obtain ⟨i, hi, rfl⟩ := List.getElem_of_mem hx
    rw [List.length_drop] at hi
    have hc : cutSe xs n < xs.length := by omega
    have h1 := List.findIdx_getElem (p := fun x : S5 => !lessB x.region x.slot n.region n.slot) (xs := xs) (w := hc)
    have hm : xs[cutSe xs n] ∈ xs := List.getElem_mem hc
    have hk := (seOk_in (hok _ hm)).2
    change (!lessB xs[cutSe xs n].region xs[cutSe xs n].slot n.region n.slot) = true at h1
    rw [less_rk hk hn'.2] at h1
    simp only [Bool.not_eq_true', decide_eq_false_iff_not] at h1
    have h2 : seR n ≠ seR xs[cutSe xs n] := fun e => by
      have := rk_inj' hk hn'.2 e.symm
      exact seW_none.1 hno _ hm this
    have h3 : seR n < seR xs[cutSe xs n] := by
      have : ¬ seR xs[cutSe xs n] < seR n := h1
      omega
    rw [List.getElem_drop]
    rcases i with _ | i
    · simpa using h3
    · exact Int.lt_trans h3 (List.pairwise_iff_getElem.1 h _ _ hc (by omega) (by omega))
  unfold insSe
  rw [List.pairwise_append, List.pairwise_append]
  refine ⟨⟨h.sublist (List.take_sublist _ _), by simp, fun a ha b hb => by simp at hb; subst hb; exact hlo a ha⟩, h.sublist (List.drop_sublist _ _), fun a ha b hb => ?_⟩
  rcases List.mem_append.1 ha with ha | ha
  · exact Int.lt_trans (hlo a ha) (hhi b hb)
  · simp at ha; subst ha; exact hhi b hb
theorem insSe_len (xs : List S5) (n : S5) : (insSe xs n).length = xs.length + 1 := by have := (insSe_perm xs n).length_eq; simpa using this
end Go.Proofs.Ytiidlcjjaglkdaa
namespace Go.Proofs.Ytiidlcjjaglkdaa
theorem noAll {xs : List N5} (hok : ∀ s ∈ xs, noteOkB s = true) (hu : xs.Pairwise fun a b => noR a < noR b) : (List.range xs.length).all (noAt xs) = true := by
  rw [List.all_eq_true]
  intro i hi
  rw [List.mem_range] at hi
  have hk : ∀ j, j < xs.length → noteOkB (atNo xs j) = true := fun j hj => by rw [atNo_get hj]; exact hok _ (List.getElem_mem hj)
  rcases i with _ | j
  · exact no_first (hk 0 hi)
  · refine no_good (hk _ hi) ?_
    rw [less_rk (noOk_in (hk j (by omega))).2 (noOk_in (hk _ hi)).2]
    have := List.pairwise_iff_getElem.1 hu j (j + 1) (by omega) hi (by omega)
    rw [← atNo_get (xs := xs) (i := j) (by omega), ← atNo_get (xs := xs) (i := j + 1) hi] at this
    simpa [noR] using this
theorem seAll {xs : List S5} (hok : ∀ s ∈ xs, setOkB s = true) (hu : xs.Pairwise fun a b => seR a < seR b) : (List.range xs.length).all (seAt xs) = true := by
  rw [List.all_eq_true]
  intro i hi
  rw [List.mem_range] at hi
  have hk : ∀ j, j < xs.length → setOkB (atSe xs j) = true := fun j hj => by rw [atSe_get hj]; exact hok _ (List.getElem_mem hj)
  rcases i with _ | j
  · exact se_first (hk 0 hi)
  · refine se_good (hk _ hi) ?_
    rw [less_rk (seOk_in (hk j (by omega))).2 (seOk_in (hk _ hi)).2]
    have := List.pairwise_iff_getElem.1 hu j (j + 1) (by omega) hi (by omega)
    rw [← atSe_get (xs := xs) (i := j) (by omega), ← atSe_get (xs := xs) (i := j + 1) hi] at this
    simpa [seR] using this
theorem noW_some {xs : List N5} {x : N5} (h : x ∈ xs) : (noW xs x.region x.slot).isSome = true := by
  cases e : noW xs x.region x.slot with
  | none => exact (noW_none.1 e x h ⟨rfl, rfl⟩).elim
  | some i => rfl
theorem seW_some {xs : List S5} {x : S5} (h : x ∈ xs) : (seW xs x.region x.slot).isSome = true := by
  cases e : seW xs x.region x.slot with
  | none => exact (seW_none.1 e x h ⟨rfl, rfl⟩).elim
  | some i => rfl
theorem addN_right {t : T7} {n : N5} (h : addNB t n = true) : txB (addN t n) = true ∧ (addN t n).reads.length ≤ t.reads.length + 1 ∧ addNB (addN t n) n = true ∧ addN (addN t n) n = addN t n := by
  simp only [addNB, Bool.and_eq_true] at h
  obtain ⟨⟨h1, h2⟩, h3⟩ := h
  cases e : (noW t.reads n.region n.slot).isSome with
  | true =>
    have ea : addN t n = t := by simp [addN, h1, h2, e]
    rw [ea]
    exact ⟨h1, by omega, by simp [addNB, h1, h2, e], ea⟩
  | false =>
    rw [e] at h3
    have h3' : ¬ t.reads.length = 12 := by simpa using h3
    have ea : addN t n = ⟨t.id, t.home, t.phase, t.count, insN t.reads n, t.sets, t.stamp⟩ := by simp [addN, h1, h2, e, h3']
    have hno : noW t.reads n.region n.slot = none := by simpa using e
    obtain ⟨g1, g2⟩ := txB_no h1
    have hmem : ∀ s, s ∈ insN t.reads n ↔ s ∈ t.reads ∨ s = n := fun s => by rw [(insN_perm t.reads n).mem_iff]; simp
    have k1 := noAll (xs := insN t.reads n) (fun s hs => by rcases (hmem s).1 hs with hs | rfl; exact g1 s hs; exact h2) (insN_up g2 g1 h2 hno)
    have kl := insN_len t.reads n
    have k2 : txB (addN t n) = true := by
      rw [ea]
      have hh := h1
      simp only [txB, headB, Bool.and_eq_true, decide_eq_true_eq] at hh ⊢
      exact ⟨⟨⟨⟨hh.1.1.1.1, by rw [kl]; omega⟩, hh.1.1.2⟩, k1⟩, hh.2⟩
    have k3 : (noW (addN t n).reads n.region n.slot).isSome = true := by rw [ea]; exact noW_some ((hmem n).2 (.inr rfl))
    have hf : ∀ T : T7, txB T = true → (noW T.reads n.region n.slot).isSome = true → addN T n = T := fun T g1 g3 => by simp [addN, g1, h2, g3]
    exact ⟨k2, by rw [ea]; exact Nat.le_of_eq kl, by simp [addNB, k2, h2, k3], hf _ k2 k3⟩
def nextS (s : S5) : S5 := ⟨s.region, s.slot, 3, s.used, (s.version + 1) % 9⟩
theorem nextS_ok {s : S5} (h : setOkB s = true) : setOkB (nextS s) = true := by
  simp only [setOkB, nextS, Bool.and_eq_true, inB_iff] at h ⊢
  omega
theorem addSe_right {t : T7} {s : S5} (h : addSB t s = true) : setOkB s = true ∧ txB (addSe t s) = true ∧ (seW (addSe t s).sets s.region s.slot).isSome = true := by
  simp only [addSB, Bool.and_eq_true] at h
  obtain ⟨⟨h1, h2⟩, h3⟩ := h
  obtain ⟨g1, g2⟩ := txB_se h1
  have hh := h1
  simp only [txB, headB, Bool.and_eq_true, decide_eq_true_eq] at hh
  refine ⟨h2, ?_⟩
  cases e : seW t.sets s.region s.slot with
  | some i =>
    have ea : addSe t s = ⟨t.id, t.home, t.phase, t.count, t.reads, ovSe t.sets i s, t.stamp⟩ := by unfold addSe; rw [if_pos ⟨h1, h2⟩, e]
    obtain ⟨hi, -, -⟩ := seW_at e
    have hin : verS s (atSe t.sets i).version ∈ ovSe t.sets i s := List.mem_of_getElem? (i := i) (by rw [ovSe_at i hi, if_pos rfl])
    rw [ea]
    have hso : (seW (ovSe t.sets i s) s.region s.slot).isSome = true := seW_some (x := verS s (atSe t.sets i).version) hin
    refine ⟨?_, hso⟩
    simp only [txB, headB, Bool.and_eq_true, decide_eq_true_eq]
    refine ⟨⟨⟨⟨hh.1.1.1.1, hh.1.1.1.2⟩, by rw [ovSe_len]; exact hh.1.1.2⟩, hh.1.2⟩, seAll (fun x hx => ?_) (ovSe_up g2 e)⟩
    rcases List.mem_or_eq_of_mem_set hx with hx | rfl
    · exact g1 x hx
    · exact ovSe_ok g1 h2 e
  | none =>
    rw [e] at h3
    have h3' : ¬ t.sets.length = 12 := by simpa using h3
    have ea : addSe t s = ⟨t.id, t.home, t.phase, t.count, t.reads, insSe t.sets s, t.stamp⟩ := by unfold addSe; rw [if_pos ⟨h1, h2⟩, e]; exact if_neg h3'
    have hmem : ∀ x, x ∈ insSe t.sets s ↔ x ∈ t.sets ∨ x = s := fun x => by rw [(insSe_perm t.sets s).mem_iff]; simp
    have kl := insSe_len t.sets s
    rw [ea]
    refine ⟨?_, seW_some ((hmem s).2 (.inr rfl))⟩
    simp only [txB, headB, Bool.and_eq_true, decide_eq_true_eq]
    exact ⟨⟨⟨⟨hh.1.1.1.1, hh.1.1.1.2⟩, by rw [kl]; omega⟩, hh.1.2⟩, seAll (fun x hx => by rcases (hmem x).1 hx with hx | rfl; exact g1 x hx; exact h2) (insSe_up g2 g1 h2 e)⟩
theorem addSe_again {t : T7} {s : S5} (h : addSB t s = true) : addSB (addSe t s) (nextS s) = true ∧ (addSe (addSe t s) (nextS s)).sets.length = (addSe t s).sets.length ∧ ∀ i, i < (addSe t s).sets.length → (atSe (addSe (addSe t s) (nextS s)).sets i).version = (atSe (addSe t s).sets i).version := by
  obtain ⟨h1, h2, h3⟩ := addSe_right h
  generalize addSe t s = z at *
  have h4 := nextS_ok h1
  cases e : seW z.sets s.region s.slot with
  | none => rw [e] at h3; simp at h3
  | some j =>
    have e' : seW z.sets (nextS s).region (nextS s).slot = some j := e
    have ea : addSe z (nextS s) = ⟨z.id, z.home, z.phase, z.count, z.reads, ovSe z.sets j (nextS s), z.stamp⟩ := by unfold addSe; rw [if_pos ⟨h2, h4⟩, e']
    obtain ⟨hj, -, -⟩ := seW_at e
    rw [ea]
    refine ⟨by simp [addSB, h2, h4, e'], ovSe_len _ _ _, fun i hi => ?_⟩
    show (atSe (ovSe z.sets j (nextS s)) i).version = _
    unfold atSe
    rw [ovSe_at i hj]
    by_cases ej : j = i
    · subst ej; rw [if_pos rfl]; rfl
    · rw [if_neg ej]
theorem addN_lens (t : T7) (n : N5) : (addN t n).reads.length ≤ t.reads.length + 1 ∧ (addN t n).sets.length ≤ t.sets.length := by
  unfold addN
  split
  · split
    · exact ⟨by omega, Nat.le_refl _⟩
    · split
      · simp [noT]
      · exact ⟨Nat.le_of_eq (insN_len _ _), Nat.le_refl _⟩
  · simp [noT]
theorem addSe_lens (t : T7) (s : S5) : (addSe t s).reads.length ≤ t.reads.length ∧ (addSe t s).sets.length ≤ t.sets.length + 1 := by
  unfold addSe
  split
  · split
    · exact ⟨Nat.le_refl _, by show (ovSe _ _ _).length ≤ _; rw [ovSe_len]; omega⟩
    · split
      · simp [noT]
      · exact ⟨Nat.le_refl _, Nat.le_of_eq (insSe_len _ _)⟩
  · simp [noT]
theorem addSe_not {t : T7} {s : S5} (h : addSB t s = false) : addSe t s = noT := by
  by_cases h1 : txB t = true ∧ setOkB s = true
  · cases e : seW t.sets s.region s.slot with
    | some i => simp [addSB, h1.1, h1.2, e] at h
    | none =>
      have h2 : t.sets.length = 12 := by simpa [addSB, h1.1, h1.2, e] using h
      unfold addSe
      rw [if_pos h1, e]
      exact if_pos h2
  · unfold addSe
    rw [if_neg h1]
theorem setOk_ver {s : S5} (h : setOkB s = true) : 0 ≤ s.version ∧ s.version ≤ 999999 := by
  simp only [setOkB, Bool.and_eq_true, inB_iff] at h
  exact h.2
end Go.Proofs.Ytiidlcjjaglkdaa
namespace Go.Proofs.Ytiidlcjjaglkdaa
open Go.RowKit
theorem OT.low {w : World} {B B' : Nat} {v : TV} {t : T7} {PR PS : Nat → Prop} (h : OT w B v t PR PS) (hb : ∀ q, OfT PR PS q → B' ≤ q) : OT w B' v t PR PS := ⟨h.r, h.s, h.rs, fun q hq => ⟨hb q (.inl hq), (h.rB q hq).2⟩, fun q hq => ⟨hb q (.inr hq), (h.sB q hq).2⟩⟩
end Go.Proofs.Ytiidlcjjaglkdaa