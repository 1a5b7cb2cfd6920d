/- Checks of the program answers, at every transaction, as the specification's Checks does, in memory of its own, and changes nothing: no condition. -/
import Derived.Test.YtijphfbcojfjpaaRows
import Derived.Test.YtijphfbcojfjpaaChkA
import Derived.Test.YtijphfbcojfjpaaTxE
import Derived.Test.YtijphfbcojfjpaaOpenTx
import Derived.WalkKit
import Derived.ProofKit
import Derived.OpenShut
import Derived.Deep.RegionWith
import Derived.Deep.CutRange
import Derived.WalkSpells
namespace Go.Proofs.Ytijphfbcojfjpaa.fnExactChecks
open Go.ChangeShapes Go.WideShapes Go.ChangeAt Go.RowKit
theorem own : ownKnob Try.prog.godebug = none := by kernel_rfl
theorem laidOut : laidOutB Try.prog = true := by kernel_rfl
set_option maxHeartbeats 2000000 in
theorem walk_great (w : World) (v : TV) (t : T7) (hl : TL t) (hg : ¬ szT t ≤ 1048576) :
    Calls Try.prog 11 #[v.val t] w fun e w' => e = .returned (.bool true) ∧ Below w.heap.size w w' := by
  obtain ⟨ar, cr, ah, ch⟩ := v
  simp only [TV.val]
  obtain ⟨W, hW⟩ : ∃ W, W = w.alloc (.cells #[.int .i64 t.id, .int .i64 t.home, .int .i64 t.phase, .int .i64 t.count, .slice ar t.reads.length cr, .slice ah t.sets.length ch, .int .i64 t.stamp] 51) := ⟨_, rfl⟩
  have b0 : Hid (Below w.heap.size w W) := by rw [hW]; exact (Below.refl _ _).alloc (Nat.le_refl _) _
  have c1 := szTx_any W ⟨ar, cr, ah, ch⟩ t hl
  rw [leftR_no hg] at c1
  simp only [TV.val] at c1
  clear hg hl
  go_enter Try.func11, Try.ntmps11
  go_wp2_with fail
  rw [← hW]
  clear hW
  refine c1.mono ?_
  clear c1
  rintro e w1 ⟨rfl, b1⟩
  go_wp2
  go_ret
  exact ⟨rfl, b0.out.trans (b1.mono b0.out.size)⟩
set_option maxHeartbeats 8000000 in
theorem walk_small (w : World) (v : TV) (t : T7) (hl : TL t) (hs : SlT w v t) (hg : szT t ≤ 1048576) :
    Calls Try.prog 11 #[v.val t] w fun e w' => e = .returned (.bool true) ∧ Below w.heap.size w w' := by
  have l1 : t.reads.length ≤ 1048576 := by unfold szT at hg; omega
  have l2 : t.sets.length ≤ 1048576 := by unfold szT at hg; omega
  obtain ⟨ar, cr, ah, ch⟩ := v
  have T : Hid (∀ X, SlT X ⟨ar, cr, ah, ch⟩ t → Calls Try.prog 31 #[(TV.mk ar cr ah ch).val t] X fun e w' => ∃ a4 c4 h4 d4 PR PS, e = .returned ((TV.mk a4 c4 h4 d4).val t) ∧ OT w' X.heap.size ⟨a4, c4, h4, d4⟩ t PR PS ∧ Below X.heap.size X w') := fun X h => toTx_any X ⟨ar, cr, ah, ch⟩ t l1 l2 h
  have CS : Hid (∀ X a c h d, SlT X ⟨a, c, h, d⟩ t → Calls Try.prog 27 #[(TV.mk a c h d).val t] X (CAns X (checksT t))) := fun X a c h d hh => specChecks_any X ⟨a, c, h, d⟩ t hl hh
  have CI : Hid (∀ X a c h d, SlT X ⟨a, c, h, d⟩ t → Calls Try.prog 23 #[(TV.mk a c h d).val t] X (CAns X (checksT t))) := fun X a c h d hh => implChecks_any X ⟨a, c, h, d⟩ t hl hh
  have CQ : Hid (∀ X a c h d a' c' h' d', SlT X ⟨a, c, h, d⟩ t → SlT X ⟨a', c', h', d'⟩ t → Calls Try.prog 32 #[(TV.mk a c h d).val t, (TV.mk a' c' h' d').val t] X fun e w' => e = .returned (.bool true) ∧ Below X.heap.size X w') := fun X a c h d a' c' h' d' h1 h2 => eqTx_same X ⟨a, c, h, d⟩ ⟨a', c', h', d'⟩ t hl h1 h2
  have CK : Hid (∀ X B a c h d PR PS, OT X B ⟨a, c, h, d⟩ t PR PS → Calls Try.prog 35 #[(TV.mk a c h d).val t, .int .i64 1] X fun e w' => e = .returned (.int .i64 (endT t 1)) ∧ KeptP (OfT PR PS) X w') := fun X B a c h d PR PS h1 => (markTx_any X B ⟨a, c, h, d⟩ t PR PS 1 (by omega) (by omega) l1 l2 h1).mono (by rintro e w' ⟨e1, e2, _⟩; exact ⟨e1, e2⟩)
  have dE : decide (endT t 1 < 0) = false := by unfold endT; simp; omega
  have HX : Hid ((checksT t).length ≤ 1048576) := checksT_short t
  generalize checksT t = xs at *
  have CE : Hid (∀ X a c a' c', SlNo X X.heap.size a xs.length xs → SlNo X X.heap.size a' xs.length xs → Calls Try.prog 46 #[.slice a xs.length c, .slice a' xs.length c'] X fun e w' => e = .returned (.bool true) ∧ Below X.heap.size X w') := fun X a c a' c' h1 h2 => eqNoteS_any X a a' xs.length c c' xs (by have := HX.out; unfold maxLen; omega) h1 h2
  obtain ⟨mx, hmx⟩ : ∃ mx, mx = mkNotes 1 xs.length := ⟨_, rfl⟩
  have CM : Hid (∀ X a c P, OwnNo X P a xs → Calls Try.prog 47 #[.slice a xs.length c, .int .i64 1] X fun e w' => e = .returned (.int .i64 (1 + 5 * (xs.length : Int))) ∧ KeptP P X w' ∧ SlNo w' w'.heap.size a xs.length mx) := fun X a c P h1 => (markNo X P a c xs 1 (by omega) (by omega) HX.out h1).mono (by
    rintro e w' ⟨e1, e2, e3⟩
    have := e3.sl
    rw [mkNotes_len, ← hmx] at this
    exact ⟨e1, e2, this⟩)
  have CH : Hid (∀ X a c, SlNo X X.heap.size a xs.length mx → Calls Try.prog 48 #[.slice a xs.length c, .int .i64 1] X fun e w' => e = .returned (.int .i64 (1 + 5 * (xs.length : Int))) ∧ Below X.heap.size X w') := fun X a c h1 => (heldNoteS_k X a xs.length c 1 HX.out (by omega) (by omega) (by rw [← hmx]; exact h1)).mono (by rintro e w' ⟨e1, rfl⟩; exact ⟨e1, Below.refl _ _⟩)
  have dF : decide (1 + 5 * (xs.length : Int) < 0) = false := by simp; omega
  have dM : (1 + 5 * (xs.length : Int) != 1 + 5 * (xs.length : Int)) = false := by simp
  generalize 1 + 5 * (xs.length : Int) = F at *
  clear hmx
  simp only [TV.val] at T CS CI CQ CK ⊢
  obtain ⟨W, hW⟩ : ∃ W, W = w.alloc (.cells #[.int .i64 t.id, .int .i64 t.home, .int .i64 t.phase, .int .i64 t.count, .slice ar t.reads.length cr, .slice ah t.sets.length ch, .int .i64 t.stamp] 51) := ⟨_, rfl⟩
  have b0 : Below w.heap.size w W := by rw [hW]; exact (Below.refl _ _).alloc (Nat.le_refl _) _
  have x0 : BT W w.heap.size ⟨ar, cr, ah, ch⟩ t := by rw [hW]; exact BT.box w ⟨ar, cr, ah, ch⟩ t _
  have c1 := szTx_any W ⟨ar, cr, ah, ch⟩ t hl
  rw [leftR_yes hg] at c1
  simp only [TV.val] at c1
  have d0 : decide (((1048576 - szT t : Nat) : Int) < 0) = false := by simp
  have S0 : Hid (Below w.heap.size w W ∧ SlT W ⟨ar, cr, ah, ch⟩ t ∧ BT W w.heap.size ⟨ar, cr, ah, ch⟩ t) := ⟨b0, hs.later b0, x0⟩
  clear l1 l2 hs hl hg b0 x0
  generalize 1048576 - szT t = lf at *
  generalize endT t 1 = E at *
  go_enter Try.func11, Try.ntmps11
  go_wp2_with fail
  rw [← hW]
  clear hW
  refine c1.mono ?_
  clear c1
  rintro e w1 ⟨rfl, b1⟩
  have S1 : Hid (Below w.heap.size w w1 ∧ SlT w1 ⟨ar, cr, ah, ch⟩ t ∧ BT w1 w.heap.size ⟨ar, cr, ah, ch⟩ t) := ⟨S0.out.1.trans (b1.mono S0.out.1.size), S0.out.2.1.later b1, S0.out.2.2.later b1⟩
  clear b1 S0
  obtain ⟨p0, p1, p2, p3, p4, p5, p6, -, -⟩ := S1.out.2.2
  go_wp2_with fail
  refine (T.out w1 S1.out.2.1).mono ?_
  rintro e w2 ⟨a2, c2, h2, d2, _, _, rfl, o2, b2⟩
  have S2 : Hid (Below w.heap.size w w2 ∧ SlT w2 ⟨ar, cr, ah, ch⟩ t ∧ BT w2 w.heap.size ⟨ar, cr, ah, ch⟩ t ∧ SlT w2 ⟨a2, c2, h2, d2⟩ t) := ⟨S1.out.1.trans (b2.mono S1.out.1.size), S1.out.2.1.later b2, S1.out.2.2.later b2, o2.sl⟩
  clear b2 o2 S1 p0 p1 p2 p3 p4 p5 p6
  go_wp2_with fail
  refine (CS.out w2 a2 c2 h2 d2 S2.out.2.2.2).mono ?_
  rintro e w3 ⟨wa, wk, _, rfl, ow, -, b3⟩
  have S3 : Hid (Below w.heap.size w w3 ∧ SlT w3 ⟨ar, cr, ah, ch⟩ t ∧ BT w3 w.heap.size ⟨ar, cr, ah, ch⟩ t ∧ SlNo w3 w3.heap.size wa xs.length xs) := ⟨S2.out.1.trans (b3.mono S2.out.1.size), S2.out.2.1.later b3, S2.out.2.2.1.later b3, ow.sl⟩
  clear b3 S2 ow CS
  obtain ⟨p0, p1, p2, p3, p4, p5, p6, -, -⟩ := S3.out.2.2.1
  go_wp2_with fail
  refine (T.out w3 S3.out.2.1).mono ?_
  rintro e w4 ⟨a4, c4, h4, d4, PR, PS, rfl, o4, b4⟩
  have b5 : Below w4.heap.size w4 (w4.alloc (.cells #[.int .i64 t.id, .int .i64 t.home, .int .i64 t.phase, .int .i64 t.count, .slice a4 t.reads.length c4, .slice h4 t.sets.length d4, .int .i64 t.stamp] 27)) := (Below.refl _ _).alloc (Nat.le_refl _) _
  have b35 : Below w3.heap.size w3 (w4.alloc (.cells #[.int .i64 t.id, .int .i64 t.home, .int .i64 t.phase, .int .i64 t.count, .slice a4 t.reads.length c4, .slice h4 t.sets.length d4, .int .i64 t.stamp] 27)) := b4.trans (b5.mono b4.size)
  have S5 : Hid (Below w3.heap.size w3 (w4.alloc (.cells #[.int .i64 t.id, .int .i64 t.home, .int .i64 t.phase, .int .i64 t.count, .slice a4 t.reads.length c4, .slice h4 t.sets.length d4, .int .i64 t.stamp] 27)) ∧ OT (w4.alloc (.cells #[.int .i64 t.id, .int .i64 t.home, .int .i64 t.phase, .int .i64 t.count, .slice a4 t.reads.length c4, .slice h4 t.sets.length d4, .int .i64 t.stamp] 27)) w3.heap.size ⟨a4, c4, h4, d4⟩ t PR PS ∧ BT (w4.alloc (.cells #[.int .i64 t.id, .int .i64 t.home, .int .i64 t.phase, .int .i64 t.count, .slice a4 t.reads.length c4, .slice h4 t.sets.length d4, .int .i64 t.stamp] 27)) w4.heap.size ⟨a4, c4, h4, d4⟩ t ∧ (∀ q, OfT PR PS q → q < w4.heap.size) ∧ w3.heap.size ≤ w4.heap.size) := ⟨b35, o4.later b5, BT.box w4 ⟨a4, c4, h4, d4⟩ t _, fun q hq => (o4.of hq).2, b4.size⟩
  clear b4 o4 b5 b35 p0 p1 p2 p3 p4 p5 p6
  go_wp2_with fail
  generalize w4.alloc (.cells #[.int .i64 t.id, .int .i64 t.home, .int .i64 t.phase, .int .i64 t.count, .slice a4 t.reads.length c4, .slice h4 t.sets.length d4, .int .i64 t.stamp] 27) = w5 at *
  refine (CI.out w5 a4 c4 h4 d4 S5.out.2.1.sl).mono ?_
  rintro e w6 ⟨ga, gc, QS, rfl, og, qg, b6⟩
  have S6 : Hid (Below w5.heap.size w5 w6 ∧ OwnNo w6 QS ga xs ∧ (∀ q, QS q → w5.heap.size ≤ q ∧ q < w6.heap.size) ∧ Below w3.heap.size w3 w6) := ⟨b6, og, qg, S5.out.1.trans (b6.mono S5.out.1.size)⟩
  clear b6 og qg
  go_wp2_with fail
  refine (CE.out w6 ga gc wa wk S6.out.2.1.sl (S3.out.2.2.2.later S6.out.2.2.2)).mono ?_
  rintro e w7 ⟨rfl, b7⟩
  have S7 : Hid (Below w5.heap.size w5 w7 ∧ Below w3.heap.size w3 w7 ∧ OwnNo w7 QS ga xs ∧ w6.heap.size ≤ w7.heap.size) := ⟨S6.out.1.trans (b7.mono S6.out.1.size), S6.out.2.2.2.trans (b7.mono S6.out.2.2.2.size), S6.out.2.1.keep b7.size (fun q hq _ => b7.block q hq), b7.size⟩
  clear b7
  go_upto_region 10 with fail
  go_cut [31] from 27 to 31 (fun s0 wx => s0 = .bool false ∧ Below w7.heap.size w7 wx)
  case first =>
    have bd : Below w7.heap.size w7 w7.drew := (Below.refl _ _).drew
    have S7d : Hid (SlT w7.drew ⟨ar, cr, ah, ch⟩ t ∧ SlT w7.drew ⟨a4, c4, h4, d4⟩ t ∧ Below w7.heap.size w7 w7.drew) := ⟨(S3.out.2.1.later S7.out.2.1).later bd, (S5.out.2.1.sl.later S7.out.1).later bd, bd⟩
    clear bd
    obtain ⟨p0, p1, p2, p3, p4, p5, p6, -, -⟩ := S3.out.2.2.1.later S7.out.2.1
    obtain ⟨e0, e1, e2, e3, e4, e5, e6, -, h47⟩ := S5.out.2.2.1.later S7.out.1
    go_region_with (first
      | (go_at_call 31
         refine (T.out w7.drew S7d.out.1).mono ?_
         rintro e w8 ⟨a7, c7, h7, d7, _, _, rfl, o8, b8⟩
         have e0' : w8.cell? ⟨w4.heap.size, 0, none⟩ = some (.int .i64 t.id) := (b8.cell (p := ⟨w4.heap.size, 0, none⟩) h47).trans e0
         have e1' : w8.cell? ⟨w4.heap.size, 1, none⟩ = some (.int .i64 t.home) := (b8.cell (p := ⟨w4.heap.size, 1, none⟩) h47).trans e1
         have e2' : w8.cell? ⟨w4.heap.size, 2, none⟩ = some (.int .i64 t.phase) := (b8.cell (p := ⟨w4.heap.size, 2, none⟩) h47).trans e2
         have e3' : w8.cell? ⟨w4.heap.size, 3, none⟩ = some (.int .i64 t.count) := (b8.cell (p := ⟨w4.heap.size, 3, none⟩) h47).trans e3
         have e4' : w8.cell? ⟨w4.heap.size, 4, none⟩ = some (.slice a4 t.reads.length c4) := (b8.cell (p := ⟨w4.heap.size, 4, none⟩) h47).trans e4
         have e5' : w8.cell? ⟨w4.heap.size, 5, none⟩ = some (.slice h4 t.sets.length d4) := (b8.cell (p := ⟨w4.heap.size, 5, none⟩) h47).trans e5
         have e6' : w8.cell? ⟨w4.heap.size, 6, none⟩ = some (.int .i64 t.stamp) := (b8.cell (p := ⟨w4.heap.size, 6, none⟩) h47).trans e6
         have S8 : Hid (SlT w8 ⟨a4, c4, h4, d4⟩ t ∧ SlT w8 ⟨a7, c7, h7, d7⟩ t ∧ Below w7.heap.size w7 w8) := ⟨S7d.out.2.1.later b8, o8.sl, S7d.out.2.2.trans (b8.mono S7d.out.2.2.size)⟩
         clear o8 b8)
      | (go_at_call 32
         refine (CQ.out w8 a4 c4 h4 d4 a7 c7 h7 d7 S8.out.1 S8.out.2.1).mono ?_
         rintro e w9 ⟨rfl, b9⟩))
    all_goals (
      go_wp2_with fail
      go_meet
      exact ⟨rfl, S8.out.2.2.trans (b9.mono S8.out.2.2.size)⟩)
  case rest =>
  obtain ⟨rfl, bx⟩ := hcut
  have S9 : Hid (Below w5.heap.size w5 wc ∧ Below w3.heap.size w3 wc ∧ OwnNo wc QS ga xs ∧ w6.heap.size ≤ wc.heap.size) := ⟨S7.out.1.trans (bx.mono S7.out.1.size), S7.out.2.1.trans (bx.mono S7.out.2.1.size), S7.out.2.2.1.keep bx.size (fun q hq _ => bx.block q hq), Nat.le_trans S7.out.2.2.2 bx.size⟩
  clear bx S7 d0 CQ
  obtain ⟨e0, e1, e2, e3, e4, e5, e6, -, -⟩ := S5.out.2.2.1.later S9.out.1
  go_wp2_with fail
  refine (CK.out wc w3.heap.size a4 c4 h4 d4 PR PS (S5.out.2.1.later S9.out.1)).mono ?_
  clear e0 e1 e2 e3 e4 e5 e6
  rintro e w10 ⟨rfl, kp⟩
  have S10 : Hid (Below w3.heap.size w3 w10 ∧ OwnNo w10 QS ga xs ∧ w6.heap.size ≤ w10.heap.size) := by
    have bk : Below w3.heap.size wc w10 := kp.below (fun q hq => (S5.out.2.1.of hq).1) S9.out.2.1.size
    exact ⟨S9.out.2.1.trans bk, S9.out.2.2.1.keep kp.size (fun q hq hp => kp.block q hq (fun e => by have := S5.out.2.2.2.1 q e; have := (S6.out.2.2.1 q hp).1; have := S5.out.2.2.1.lt; omega)), Nat.le_trans S9.out.2.2.2 kp.size⟩
  clear kp S9 CK
  go_wp2_with fail
  refine (CE.out w10 ga gc wa wk S10.out.2.1.sl (S3.out.2.2.2.later S10.out.1)).mono ?_
  rintro e w11 ⟨rfl, b11⟩
  have S11 : Hid (Below w3.heap.size w3 w11 ∧ OwnNo w11 QS ga xs ∧ w6.heap.size ≤ w11.heap.size) := ⟨S10.out.1.trans (b11.mono S10.out.1.size), S10.out.2.1.keep b11.size (fun q hq _ => b11.block q hq), Nat.le_trans S10.out.2.2 b11.size⟩
  clear b11 S10
  go_wp2_with fail
  refine (CM.out w11 ga gc QS S11.out.2.1).mono ?_
  rintro e w12 ⟨rfl, k12, o12⟩
  have S12 : Hid (Below w3.heap.size w3 w12 ∧ SlNo w12 w12.heap.size ga xs.length mx) := by
    have bk : Below w3.heap.size w11 w12 := k12.below (fun q hq => by have := (S6.out.2.2.1 q hq).1; have := S5.out.1.size; omega) S11.out.1.size
    exact ⟨S11.out.1.trans bk, o12⟩
  clear k12 o12 S11
  go_wp2_with fail
  refine (CH.out w12 ga gc S12.out.2).mono ?_
  rintro e w13 ⟨rfl, b13⟩
  have S13 : Hid (Below w3.heap.size w3 w13 ∧ SlNo w13 w13.heap.size ga xs.length mx) := ⟨S12.out.1.trans (b13.mono S12.out.1.size), S12.out.2.later b13⟩
  clear b13 S12
  obtain ⟨p0, p1, p2, p3, p4, p5, p6, -, -⟩ := S3.out.2.2.1.later S13.out.1
  go_wp2_with fail
  refine (T.out w13 (S3.out.2.1.later S13.out.1)).mono ?_
  clear p0 p1 p2 p3 p4 p5 p6
  rintro e w14 ⟨a6, c6, h6, d6, _, _, rfl, o14, b14⟩
  have S14 : Hid (Below w3.heap.size w3 w14 ∧ SlNo w14 w14.heap.size ga xs.length mx ∧ SlT w14 ⟨a6, c6, h6, d6⟩ t) := ⟨S13.out.1.trans (b14.mono S13.out.1.size), S13.out.2.later b14, o14.sl⟩
  clear b14 o14 S13
  go_wp2_with fail
  refine (CI.out w14 a6 c6 h6 d6 S14.out.2.2).mono ?_
  rintro e w15 ⟨ha, hc, _, rfl, oh, -, b15⟩
  have S15 : Hid (Below w3.heap.size w3 w15 ∧ SlNo w15 w15.heap.size ga xs.length mx ∧ SlNo w15 w15.heap.size ha xs.length xs) := ⟨S14.out.1.trans (b15.mono S14.out.1.size), S14.out.2.1.later b15, oh.sl⟩
  clear b15 oh S14
  go_wp2_with fail
  refine (CE.out w15 ha hc wa wk S15.out.2.2 (S3.out.2.2.2.later S15.out.1)).mono ?_
  rintro e w16 ⟨rfl, b16⟩
  have S16 : Hid (Below w.heap.size w w16 ∧ SlNo w16 w16.heap.size ga xs.length mx) := ⟨S3.out.1.trans ((S15.out.1.trans (b16.mono S15.out.1.size)).mono S3.out.1.size), S15.out.2.1.later b16⟩
  clear b16 S15
  go_wp2_with fail
  refine (CH.out w16 ga gc S16.out.2).mono ?_
  rintro e w17 ⟨rfl, b17⟩
  go_wp2
  go_ret
  exact ⟨rfl, S16.out.1.trans (b17.mono S16.out.1.size)⟩
theorem walk (w : World) (v : TV) (t : T7) (hl : TL t) (hs : SlT w v t) :
    Calls Try.prog 11 #[v.val t] w fun e w' => e = .returned (.bool true) ∧ Below w.heap.size w w' := by
  by_cases h : szT t ≤ 1048576
  · exact walk_small w v t hl hs h
  · exact walk_great w v t hl h
set_option maxRecDepth 100000 in
theorem lifted (os : Os) (started : os.Started) (H : Type) (enc : TypeId × Value → H) :
    ReturnsInHanded {} Try.checked os 11 .any (Rows.fnExactChecksSpec.pre6 enc Try.prog Try.f11 Rows.fnExactChecksRow.domain false) (Rows.fnExactChecksSpec.post enc Try.prog Try.f11 false true false false) := by
  refine returnsInHanded_of_change (C := Try.checked) own started (by kernel_rfl) Try.func11
    (ChangeSpec.witness6 (enc := enc) (C := Try.checked) false ⟨#[], #[.agg #[.int .i64 0, .int .i64 0, .int .i64 0, .int .i64 0, .slice none 0 0, .slice none 0 0, .int .i64 0]], []⟩ 8 (by kernel_rfl) (by kernel_rfl) (by kernel_rfl) (by kernel_rfl)) ?_
  intro W base args ds gs before hval0 hW hcnd _
  have hval : ∀ (j : Nat) t v, Try.f11.params[j]? = some t → args[j]? = some v → Value.okWide Try.prog W .any base t v := hval0
  have hW' := hW
  obtain ⟨p, q, hA0, hV, rfl, hfz, hnd⟩ := hW
  have hA : DataW.TrodAll enc Try.prog W 0 (fun _ => true) true Try.f11.params.toList args.toList ds p := hA0
  rw [Try.params11] at hA hval
  obtain ⟨v0, vs0, d0, ds0, p0, q0, hargs, rfl, rfl, h0, r0⟩ := trodAll_cons hA

  obtain ⟨rfl, rfl, rfl⟩ := trodAll_nil r0
  obtain rfl : args = #[v0] := by cases args; simp_all
  obtain ⟨rfl, rfl⟩ := trodVars_none hV
  obtain ⟨cs, rfl, hcs⟩ := okWide_struct Try.underlying51 (hval 0 51 v0 rfl rfl)

  have k0 := h0
  have lt0 : ∀ x ∈ p0, x.block < W.heap.size := by obtain ⟨m, hm⟩ := k0; exact DataW.trod_lt m _ _ _ hm
  obtain ⟨v, t, rfl, hs, hl⟩ : ∃ (v : TV) (t : T7), cs = #[.int .i64 t.id, .int .i64 t.home, .int .i64 t.phase, .int .i64 t.count, .slice v.ar t.reads.length v.cr, .slice v.ah t.sets.length v.ch, .int .i64 t.stamp] ∧ SlT W v t ∧ TL t := by
    obtain ⟨fuel, hf⟩ := h0
    obtain ⟨v, t, e, hs, l1⟩ := ot.open_tx hf
    exact ⟨v, t, by cases cs; simpa [Value.cells] using e, hs, l1⟩
  clear hA0 hval0
  refine (walk W v t hl hs).mono fun e W' ⟨he, bel⟩ => ?_
  subst he
  exact ⟨_, rfl, _, _, _, [], _, [], hW', trodAll_mk1 (shut_bool Try.underlying4 _), (trodAll_cons_mk (Below.trod laidOut (by kernel_rfl) (of_decide_eq_true (by kernel_rfl)) k0 bel lt0) trodAll_mk0), rfl, bel.frame _, fun h => by cases h⟩
theorem over : Rows.fnExactChecksRow.holds Try.pinned (OpenSpec.ofChange Rows.fnExactChecksSpec) :=
  OpenClaim.holds_of_wide 11 Try.f11 rfl rfl rfl rfl rfl rfl rfl ⟨rfl, rfl, rfl, rfl, rfl⟩ rfl rfl rfl rfl rfl (by kernel_rfl) Try.func11 (by kernel_rfl)
    (of_decide_eq_true (by kernel_rfl)) (by unfold Func.isWrapper; first | (rw [if_pos (by decide +kernel)]; kernel_rfl) | (rw [if_neg (by decide +kernel)]; exact ⟨rfl, rfl⟩))
    (fun os started H enc _ => lifted os started H enc)
end Go.Proofs.Ytijphfbcojfjpaa.fnExactChecks
namespace Go.Proofs.Ytijphfbcojfjpaa
theorem fnExactChecks_holds : Rows.FnExactChecksSaid := fnExactChecks.over
#print axioms fnExactChecks_holds
end Go.Proofs.Ytijphfbcojfjpaa
