/- Copied of the program answers, at every Machine and region, as the specification's Copied does, in memory of its own, and changes nothing: no condition. -/
import Derived.Test.YtcockcdhendplaaRows
import Derived.Test.YtcockcdhendplaaOpenMac
import Derived.Test.YtcockcdhendplaaLawM
import Derived.WalkKit
import Derived.ProofKit
import Derived.OpenShut
import Derived.Deep.RegionWith
import Derived.Deep.CutRange
import Derived.WalkSpells
namespace Go.Proofs.Ytcockcdhendplaa.fnExactCopied
open Go.ChangeShapes Go.WideShapes Go.ChangeAt Go.RowKit
theorem own : ownKnob Try.prog.godebug = none := by kernel_rfl
theorem laidOut : laidOutB Try.prog = true := by kernel_rfl
set_option maxHeartbeats 2000000 in
theorem walk_great (w : World) (v : MV) (m : M4) (y : Int) (hl : ML m) (hs : SlM w v m) (hg : ¬ szM m ≤ 1048576) :
    Calls Try.prog 4 #[v.val m, .int .i64 y] w fun e w' => e = .returned (.bool true) ∧ Below w.heap.size w w' := by
  obtain ⟨ac, cc, al, cl, ad, cd⟩ := v
  simp only [MV.val]
  have b0 : Below w.heap.size w (w.alloc (.cells #[.bool m.alive, .slice ac m.copies.length cc, .slice al m.log.length cl, .slice ad m.cleared.length cd] 26)) := (Below.refl _ _).alloc (Nat.le_refl _) _
  have S0 : Hid (Below w.heap.size w (w.alloc (.cells #[.bool m.alive, .slice ac m.copies.length cc, .slice al m.log.length cl, .slice ad m.cleared.length cd] 26)) ∧ SlM (w.alloc (.cells #[.bool m.alive, .slice ac m.copies.length cc, .slice al m.log.length cl, .slice ad m.cleared.length cd] 26)) ⟨ac, cc, al, cl, ad, cd⟩ m ∧ ML m) := ⟨b0, hs.later b0, hl⟩
  clear b0 hs hl
  go_enter Try.func4, Try.ntmps4
  go_wp2_with fail
  generalize w.alloc (.cells #[.bool m.alive, .slice ac m.copies.length cc, .slice al m.log.length cl, .slice ad m.cleared.length cd] 26) = W at *
  refine (szMachine_any W ⟨ac, cc, al, cl, ad, cd⟩ m S0.out.2.2 S0.out.2.1).mono ?_
  rw [leftR_no hg]
  rintro e w1 ⟨rfl, b1⟩
  go_wp2
  go_ret
  exact ⟨rfl, S0.out.1.trans (b1.mono S0.out.1.size)⟩
/-- One of the two: what it answers of a machine, wherever it lies. -/
def Answers (f : Nat) (m : M4) (y : Int) (L : List C2) (B : Bool) : Prop := ∀ (X : World) (a : Option Addr) (b : Nat) (c : Option Addr) (d : Nat) (e : Option Addr) (g : Nat), SlM X ⟨a, b, c, d, e, g⟩ m →
  Calls Try.prog f #[.agg #[.bool m.alive, .slice a m.copies.length b, .slice c m.log.length d, .slice e m.cleared.length g], .int .i64 y] X fun r w' => ∃ (x : Option Addr) (cp : Nat), r = .returned (.tuple #[.slice x L.length cp, .bool B]) ∧ OwnCl w' X.heap.size x L ∧ Below X.heap.size X w'
set_option maxHeartbeats 8000000 in
theorem walk_small (w : World) (v : MV) (m : M4) (y : Int) (hl : ML m) (hs : SlM w v m) (hg : szM m ≤ 1048576) :
    Calls Try.prog 4 #[v.val m, .int .i64 y] w fun e w' => e = .returned (.bool true) ∧ Below w.heap.size w w' := by
  have A1 : Hid (Answers 11 m y (ansL m y) (ansB m y)) := fun X a b c d e g h => by
    have := specCopied_any X ⟨a, b, c, d, e, g⟩ m y hl h
    simp only [MV.val] at this
    exact this
  have A2 : Hid (Answers 12 m y (ansL m y) (ansB m y)) := fun X a b c d e g h => by
    have := implCopied_any X ⟨a, b, c, d, e, g⟩ m y hl h
    simp only [MV.val] at this
    exact this
  have hL6 : Hid ((ansL m y).length ≤ 6) := ansL_len m y
  have hMT : Hid (MT m) := MT.of_sz hg
  obtain ⟨ac, cc, al, cl, ad, cd⟩ := v
  have T : Hid (∀ (X : World), Below w.heap.size w X → Calls Try.prog 8 #[(MV.mk ac cc al cl ad cd).val m] X fun e w' => ∃ (c4 : Option Addr) (k4 : Nat) (l4 : Option Addr) (j4 : Nat) (d4 : Option Addr) (i4 : Nat) (PK PR PD : Nat → Prop), e = .returned ((MV.mk c4 k4 l4 j4 d4 i4).val m) ∧ OM w' X.heap.size ⟨c4, k4, l4, j4, d4, i4⟩ m PK PR PD ∧ (∀ q, OfM PK PR PD q → q < w'.heap.size) ∧ Below X.heap.size X w') := fun X hX => toM_any X ⟨ac, cc, al, cl, ad, cd⟩ m hMT.out (hs.later hX)
  simp only [MV.val] at T ⊢
  have HG : Hid (szM m ≤ 1048576) := hg
  obtain ⟨W, hW⟩ : ∃ W, W = w.alloc (.cells #[.bool m.alive, .slice ac m.copies.length cc, .slice al m.log.length cl, .slice ad m.cleared.length cd] 26) := ⟨_, rfl⟩
  have b0 : Below w.heap.size w W := by subst hW; exact (Below.refl _ _).alloc (Nat.le_refl _) _
  have s0 : W.heap.size = w.heap.size + 1 := by subst hW; simp
  have c0 : ∀ X, Below (w.heap.size + 1) W X → X.cell? ⟨w.heap.size, 0, none⟩ = some (.bool m.alive) ∧ X.cell? ⟨w.heap.size, 1, none⟩ = some (.slice ac m.copies.length cc) ∧ X.cell? ⟨w.heap.size, 2, none⟩ = some (.slice al m.log.length cl) ∧ X.cell? ⟨w.heap.size, 3, none⟩ = some (.slice ad m.cleared.length cd) := fun X hX => by
    refine ⟨(hX.cell (p := ⟨w.heap.size, 0, none⟩) (by simp)).trans ?_, (hX.cell (p := ⟨w.heap.size, 1, none⟩) (by simp)).trans ?_, (hX.cell (p := ⟨w.heap.size, 2, none⟩) (by simp)).trans ?_, (hX.cell (p := ⟨w.heap.size, 3, none⟩) (by simp)).trans ?_⟩
    all_goals (subst hW; go_simp)
  have H : Hid (SlM w ⟨ac, cc, al, cl, ad, cd⟩ m ∧ ML m ∧ Below w.heap.size w W ∧ W.heap.size = w.heap.size + 1 ∧ (∀ X, Below (w.heap.size + 1) W X → Below w.heap.size w X)) := ⟨hs, hl, b0, s0, fun X hX => b0.trans (hX.mono (by omega))⟩
  have HC := hidOf c0
  clear hs hl hg b0 s0 c0
  subst hW
  generalize ansL m y = L at *
  generalize ansB m y = B at *
  go_enter Try.func4, Try.ntmps4
  go_wp2_with fail
  generalize w.alloc (.cells #[.bool m.alive, .slice ac m.copies.length cc, .slice al m.log.length cl, .slice ad m.cleared.length cd] 26) = W at *
  refine (szMachine_any W ⟨ac, cc, al, cl, ad, cd⟩ m H.out.2.1 (H.out.1.later H.out.2.2.1)).mono ?_
  rw [leftR_yes HG.out]
  rintro e w1 ⟨rfl, b1⟩
  have S1 : Hid (Below (w.heap.size + 1) W w1 ∧ w.heap.size + 1 ≤ w1.heap.size) := ⟨b1.mono (by rw [H.out.2.2.2.1]; exact Nat.le_refl _), by have := b1.size; have := H.out.2.2.2.1; omega⟩
  clear b1
  have d0 : decide (((1048576 - szM m : Nat) : Int) < 0) = false := by simp
  generalize 1048576 - szM m = lf at *
  obtain ⟨a0, a1, a2, a3⟩ := HC.out w1 S1.out.1
  go_wp2_with fail
  refine (T.out w1 (H.out.2.2.2.2 w1 S1.out.1)).mono ?_
  rintro e w2 ⟨c2, k2, l2, j2, d2, i2, _, _, _, rfl, o2, -, b2⟩
  have S2 : Hid (Below (w.heap.size + 1) W w2 ∧ w.heap.size + 1 ≤ w2.heap.size ∧ SlM w2 ⟨c2, k2, l2, j2, d2, i2⟩ m) := ⟨S1.out.1.trans (b2.mono S1.out.2), Nat.le_trans S1.out.2 b2.size, o2.sl⟩
  clear b2 o2 a0 a1 a2 a3 S1
  go_wp2_with fail
  refine (A1.out w2 c2 k2 l2 j2 d2 i2 S2.out.2.2).mono ?_
  rintro e w3 ⟨aw, cw, rfl, ow, b3⟩
  have S3 : Hid (Below (w.heap.size + 1) W w3 ∧ w.heap.size + 1 ≤ w3.heap.size ∧ SlC w3 w3.heap.size aw L.length L) := ⟨S2.out.1.trans (b3.mono S2.out.2.1), Nat.le_trans S2.out.2.1 b3.size, ow.sl⟩
  clear b3 ow S2 A1
  obtain ⟨a0, a1, a2, a3⟩ := HC.out w3 S3.out.1
  go_wp2_with fail
  refine (T.out w3 (H.out.2.2.2.2 w3 S3.out.1)).mono ?_
  rintro e w4 ⟨c4, k4, l4, j4, d4, i4, PK, PR, PD, rfl, o4, q4, b4⟩
  have b5 : Below w4.heap.size w4 (w4.alloc (.cells #[.bool m.alive, .slice c4 m.copies.length k4, .slice l4 m.log.length j4, .slice d4 m.cleared.length i4] 32)) := (Below.refl _ _).alloc (Nat.le_refl _) _
  have b35 : Below w3.heap.size w3 (w4.alloc (.cells #[.bool m.alive, .slice c4 m.copies.length k4, .slice l4 m.log.length j4, .slice d4 m.cleared.length i4] 32)) := b4.trans (b5.mono b4.size)
  have s5 : (w4.alloc (.cells #[.bool m.alive, .slice c4 m.copies.length k4, .slice l4 m.log.length j4, .slice d4 m.cleared.length i4] 32)).heap.size = w4.heap.size + 1 := by simp
  have c5 : ∀ X, Below (w4.heap.size + 1) (w4.alloc (.cells #[.bool m.alive, .slice c4 m.copies.length k4, .slice l4 m.log.length j4, .slice d4 m.cleared.length i4] 32)) X → X.cell? ⟨w4.heap.size, 0, none⟩ = some (.bool m.alive) ∧ X.cell? ⟨w4.heap.size, 1, none⟩ = some (.slice c4 m.copies.length k4) ∧ X.cell? ⟨w4.heap.size, 2, none⟩ = some (.slice l4 m.log.length j4) ∧ X.cell? ⟨w4.heap.size, 3, none⟩ = some (.slice d4 m.cleared.length i4) := fun X hX => by
    refine ⟨(hX.cell (p := ⟨w4.heap.size, 0, none⟩) (by simp)).trans ?_, (hX.cell (p := ⟨w4.heap.size, 1, none⟩) (by simp)).trans ?_, (hX.cell (p := ⟨w4.heap.size, 2, none⟩) (by simp)).trans ?_, (hX.cell (p := ⟨w4.heap.size, 3, none⟩) (by simp)).trans ?_⟩
    all_goals go_simp
  have HC5 := hidOf c5
  have S5 : Hid (Below (w.heap.size + 1) W (w4.alloc (.cells #[.bool m.alive, .slice c4 m.copies.length k4, .slice l4 m.log.length j4, .slice d4 m.cleared.length i4] 32)) ∧ OM (w4.alloc (.cells #[.bool m.alive, .slice c4 m.copies.length k4, .slice l4 m.log.length j4, .slice d4 m.cleared.length i4] 32)) w3.heap.size ⟨c4, k4, l4, j4, d4, i4⟩ m PK PR PD ∧ (∀ q, OfM PK PR PD q → q < w4.heap.size) ∧ Below w3.heap.size w3 (w4.alloc (.cells #[.bool m.alive, .slice c4 m.copies.length k4, .slice l4 m.log.length j4, .slice d4 m.cleared.length i4] 32)) ∧ (w4.alloc (.cells #[.bool m.alive, .slice c4 m.copies.length k4, .slice l4 m.log.length j4, .slice d4 m.cleared.length i4] 32)).heap.size = w4.heap.size + 1 ∧ w3.heap.size ≤ w4.heap.size) := ⟨S3.out.1.trans (b35.mono S3.out.2.1), o4.later b5, q4, b35, s5, b4.size⟩
  clear b4 o4 q4 b5 b35 s5 c5 a0 a1 a2 a3
  go_wp2_with fail
  generalize w4.alloc (.cells #[.bool m.alive, .slice c4 m.copies.length k4, .slice l4 m.log.length j4, .slice d4 m.cleared.length i4] 32) = w5 at *
  refine (A2.out w5 c4 k4 l4 j4 d4 i4 S5.out.2.1.sl).mono ?_
  rintro e w6 ⟨ag, cg, rfl, og, b6⟩
  have S6 : Hid (Below w5.heap.size w5 w6 ∧ OwnCl w6 w5.heap.size ag L ∧ SlC w6 w6.heap.size aw L.length L) := ⟨b6, og, (S3.out.2.2.later S5.out.2.2.2.1).later b6⟩
  clear b6 og
  have hmx : L.length ≤ maxLen := by unfold maxLen; have := hL6.out; omega
  have dB : (B != B) = false := by simp
  go_wp2_with fail
  refine (eqCellS_any w6 ag aw L.length cg cw L hmx S6.out.2.1.sl S6.out.2.2).mono ?_
  rintro e w7 ⟨rfl, b7⟩
  have S7 : Hid (Below w5.heap.size w5 w7 ∧ OwnCl w7 w5.heap.size ag L ∧ Below (w.heap.size + 1) W w7 ∧ Below (w4.heap.size + 1) w5 w7) := by
    have b57 := S6.out.1.trans (b7.mono S6.out.1.size)
    have z5 := S5.out.2.2.2.2.1
    exact ⟨b57, S6.out.2.1.later b7, S5.out.1.trans (b57.mono (by have := S3.out.2.1; have := S5.out.2.2.2.2.2; omega)), b57.mono (by omega)⟩
  clear b7 S6
  go_upto_region 10 with fail
  go_cut [49] from 45 to 49 (fun s49 wx => s49 = .bool false ∧ Below w7.heap.size w7 wx)
  case first =>
    have bd : Below w7.heap.size w7 w7.drew := (Below.refl _ _).drew
    have S7d : Hid (Below (w.heap.size + 1) W w7.drew ∧ Below (w4.heap.size + 1) w5 w7.drew ∧ SlM w7.drew ⟨c4, k4, l4, j4, d4, i4⟩ m ∧ Below w7.heap.size w7 w7.drew ∧ w4.heap.size < w7.heap.size) := ⟨S7.out.2.2.1.drew, S7.out.2.2.2.drew, (S5.out.2.1.sl.later S7.out.1).later bd, bd, by have := S7.out.1.size; have := S5.out.2.2.2.2.1; omega⟩
    clear bd
    obtain ⟨a0, a1, a2, a3⟩ := HC.out w7 S7.out.2.2.1
    obtain ⟨e0, e1, e2, e3⟩ := HC5.out w7 S7.out.2.2.2
    have h47 := S7d.out.2.2.2.2
    go_region_with (first
      | (go_at_call 8
         refine (T.out w7.drew (H.out.2.2.2.2 _ S7d.out.1)).mono ?_
         rintro e w8 ⟨c8, k8, l8, j8, d8, i8, _, _, _, rfl, o8, -, b8⟩
         have e0' : w8.cell? ⟨w4.heap.size, 0, none⟩ = some (.bool m.alive) := (b8.cell (p := ⟨w4.heap.size, 0, none⟩) h47).trans e0
         have e1' : w8.cell? ⟨w4.heap.size, 1, none⟩ = some (.slice c4 m.copies.length k4) := (b8.cell (p := ⟨w4.heap.size, 1, none⟩) h47).trans e1
         have e2' : w8.cell? ⟨w4.heap.size, 2, none⟩ = some (.slice l4 m.log.length j4) := (b8.cell (p := ⟨w4.heap.size, 2, none⟩) h47).trans e2
         have e3' : w8.cell? ⟨w4.heap.size, 3, none⟩ = some (.slice d4 m.cleared.length i4) := (b8.cell (p := ⟨w4.heap.size, 3, none⟩) h47).trans e3
         have S8 : Hid (SlM w8 ⟨c4, k4, l4, j4, d4, i4⟩ m ∧ SlM w8 ⟨c8, k8, l8, j8, d8, i8⟩ m ∧ Below w7.heap.size w7 w8) := ⟨S7d.out.2.2.1.later b8, o8.sl, S7d.out.2.2.2.1.trans (b8.mono S7d.out.2.2.2.1.size)⟩
         clear o8 b8)
      | (go_at_call 10
         refine (eqMachine_same w8 ⟨c4, k4, l4, j4, d4, i4⟩ ⟨c8, k8, l8, j8, d8, i8⟩ m H.out.2.1 S8.out.1 S8.out.2.1).mono ?_
         rintro e w9 ⟨rfl, b9⟩))
    all_goals (
      go_wp2_with fail
      go_meet
      exact ⟨rfl, S8.out.2.2.trans (b9.mono S8.out.2.2.size)⟩)
  case rest =>
  obtain ⟨rfl, bx⟩ := hcut
  have S9 : Hid (Below w5.heap.size w5 wc ∧ OwnCl wc w5.heap.size ag L ∧ Below (w.heap.size + 1) W wc ∧ Below (w4.heap.size + 1) w5 wc) := by
    have b5c := S7.out.1.trans (bx.mono S7.out.1.size)
    have z5 := S5.out.2.2.2.2.1
    exact ⟨b5c, S7.out.2.1.later bx, S5.out.1.trans (b5c.mono (by have := S3.out.2.1; have := S5.out.2.2.2.2.2; omega)), b5c.mono (by omega)⟩
  clear bx S7 d0
  obtain ⟨e0, e1, e2, e3⟩ := HC5.out wc S9.out.2.2.2
  have hmk := markMachine_any wc w3.heap.size ⟨c4, k4, l4, j4, d4, i4⟩ m PK PR PD 1 (by omega) (by omega) hMT.out (S5.out.2.1.later S9.out.1)
  simp only [MV.val] at hmk
  have dE : decide (endM m 1 < 0) = false := by have := endM_nonneg m; simp; omega
  generalize endM m 1 = E at *
  go_wp2_with fail
  refine hmk.mono ?_
  clear hmk
  rintro e w10 ⟨rfl, kp, -⟩
  have S10 : Hid (Below w3.heap.size w3 w10 ∧ OwnCl w10 w5.heap.size ag L ∧ Below (w.heap.size + 1) W w10 ∧ w5.heap.size ≤ w10.heap.size ∧ w3.heap.size ≤ w5.heap.size) := by
    have hlow : ∀ q, q < wc.heap.size ∧ OfM PK PR PD q → w3.heap.size ≤ q := fun q hq => by
      rcases hq.2 with h | h | h
      · exact S5.out.2.1.kB q h
      · exact S5.out.2.1.rB q h
      · exact S5.out.2.1.dB q h
    have z5 := S5.out.2.2.2.2.1
    have z34 := S5.out.2.2.2.2.2
    have z5c := S9.out.1.size
    have b3c : Below w3.heap.size w3 wc := S5.out.2.2.2.1.trans (S9.out.1.mono (by omega))
    have bk : Below w3.heap.size wc w10 := kp.below hlow b3c.size
    exact ⟨b3c.trans bk, S9.out.2.1.keep kp.size (fun q h1 h2 => kp.block q h2 (fun e => by have := S5.out.2.2.1 q e.2; omega)), S9.out.2.2.1.trans (bk.mono S3.out.2.1), by have := kp.size; omega, by omega⟩
  clear kp e0 e1 e2 e3 S9
  go_wp2_with fail
  refine (eqCellS_any w10 ag aw L.length cg cw L hmx S10.out.2.1.sl (S3.out.2.2.later S10.out.1)).mono ?_
  rintro e w11 ⟨rfl, b11⟩
  have S11 : Hid (Below w3.heap.size w3 w11 ∧ OwnCl w11 w5.heap.size ag L ∧ Below (w.heap.size + 1) W w11 ∧ w5.heap.size ≤ w11.heap.size) := by
    have z1 := S10.out.2.2.2.1
    have z2 := S10.out.2.2.2.2
    have z3 := S3.out.2.1
    have zb := b11.size
    exact ⟨S10.out.1.trans (b11.mono (by omega)), S10.out.2.1.later b11, S10.out.2.2.1.trans (b11.mono (by omega)), by omega⟩
  clear b11
  go_wp2_with fail
  refine (markCl w11 w5.heap.size ag cg L 1 (by have := hL6.out; omega) (by omega) (by omega) S11.out.2.2.2 S11.out.2.1).mono ?_
  rintro e w12 ⟨rfl, b12, s12, o12⟩
  have S12 : Hid (Below w3.heap.size w3 w12 ∧ OwnCl w12 w5.heap.size ag (mkCells 1 L.length) ∧ Below (w.heap.size + 1) W w12 ∧ w5.heap.size ≤ w12.heap.size) := by
    have z2 := S10.out.2.2.2.2
    have z3 := S3.out.2.1
    exact ⟨S11.out.1.trans (b12.mono z2), o12, S11.out.2.2.1.trans (b12.mono (by omega)), by have := S11.out.2.2.2; omega⟩
  clear b12 s12 o12
  have sl12 := S12.out.2.1.sl
  rw [mkCells_len] at sl12
  have hhd := heldCellS_k w12 ag L.length cg 1 (by have := hL6.out; omega) (by omega) (by omega) sl12
  have dN : decide (1 + 2 * (L.length : Int) < 0) = false := by simp; omega
  have dM : (1 + 2 * (L.length : Int) != 1 + 2 * (L.length : Int)) = false := by simp
  clear sl12
  go_wp2_with fail
  refine hhd.mono ?_
  clear hhd
  rintro e w12 ⟨rfl, rfl⟩
  obtain ⟨a0, a1, a2, a3⟩ := HC.out w12 S12.out.2.2.1
  go_wp2_with fail
  refine (T.out w12 (H.out.2.2.2.2 w12 S12.out.2.2.1)).mono ?_
  rintro e w14 ⟨c6, k6, l6, j6, d6, i6, _, _, _, rfl, o14, -, b14⟩
  have S14 : Hid (Below w12.heap.size w12 w14 ∧ SlM w14 ⟨c6, k6, l6, j6, d6, i6⟩ m) := ⟨b14, o14.sl⟩
  clear b14 o14 a0 a1 a2 a3
  go_wp2_with fail
  refine (A2.out w14 c6 k6 l6 j6 d6 i6 S14.out.2).mono ?_
  rintro e w15 ⟨ah, ch, rfl, oh, b15⟩
  have S15 : Hid (Below w12.heap.size w12 w15 ∧ SlC w15 w15.heap.size ah L.length L ∧ SlC w15 w15.heap.size aw L.length L) := by
    have b := S14.out.1.trans (b15.mono S14.out.1.size)
    exact ⟨b, oh.sl, (S3.out.2.2.later S12.out.1).later b⟩
  clear b15 oh
  go_wp2_with fail
  refine (eqCellS_any w15 ah aw L.length ch cw L hmx S15.out.2.1 S15.out.2.2).mono ?_
  rintro e w16 ⟨rfl, b16⟩
  have b1216 := S15.out.1.trans (b16.mono S15.out.1.size)
  have sl16 := (S12.out.2.1.later b1216).sl
  rw [mkCells_len] at sl16
  have hhd := heldCellS_k w16 ag L.length cg 1 (by have := hL6.out; omega) (by omega) (by omega) sl16
  have BE : Hid (Below w.heap.size w w16) := H.out.2.2.2.2 w16 (S12.out.2.2.1.trans (b1216.mono (by have := S12.out.2.2.2; have := S10.out.2.2.2.2; have := S3.out.2.1; omega)))
  clear b16 b1216 sl16
  go_wp2_with fail
  refine hhd.mono ?_
  clear hhd
  rintro e w16 ⟨rfl, rfl⟩
  go_wp2
  go_ret
  exact ⟨rfl, BE.out⟩
theorem walk (w : World) (v : MV) (m : M4) (y : Int) (hl : ML m) (hs : SlM w v m) :
    Calls Try.prog 4 #[v.val m, .int .i64 y] w fun e w' => e = .returned (.bool true) ∧ Below w.heap.size w w' := by
  by_cases h : szM m ≤ 1048576
  · exact walk_small w v m y hl hs h
  · exact walk_great w v m y hl hs h
set_option maxRecDepth 100000 in
theorem lifted (os : Os) (started : os.Started) (H : Type) (enc : TypeId × Value → H) :
    ReturnsInHanded {} Try.checked os 4 .any (Rows.fnExactCopiedSpec.pre6 enc Try.prog Try.f4 Rows.fnExactCopiedRow.domain false) (Rows.fnExactCopiedSpec.post enc Try.prog Try.f4 false true false false) := by
  refine returnsInHanded_of_change (C := Try.checked) own started (by kernel_rfl) Try.func4
    (ChangeSpec.witness6 (enc := enc) (C := Try.checked) false ⟨#[], #[.agg #[.bool false, .slice none 0 0, .slice none 0 0, .slice none 0 0], .int .i64 0], []⟩ 8 (by kernel_rfl) (by kernel_rfl) (by kernel_rfl) (by kernel_rfl)) ?_
  intro W base args ds gs before hval0 hW hcnd _
  have hval : ∀ (j : Nat) t v, Try.f4.params[j]? = some t → args[j]? = some v → Value.okWide Try.prog W .any base t v := hval0
  have hW' := hW
  obtain ⟨p, q, hA0, hV, rfl, hfz, hnd⟩ := hW
  have hA : DataW.TrodAll enc Try.prog W 0 (fun _ => true) true Try.f4.params.toList args.toList ds p := hA0
  rw [Try.params4] at hA hval
  obtain ⟨v0, vs0, d0, ds0, p0, q0, hargs, rfl, rfl, h0, r0⟩ := trodAll_cons hA
  obtain ⟨v1, vs1, d1, ds1, p1, q1, rfl, rfl, rfl, h1, r1⟩ := trodAll_cons r0
  obtain ⟨rfl, rfl, rfl⟩ := trodAll_nil r1
  obtain rfl : args = #[v0, v1] := by cases args; simp_all
  obtain ⟨rfl, rfl⟩ := trodVars_none hV
  obtain ⟨cs, rfl, hcs⟩ := okWide_struct Try.underlying26 (hval 0 26 v0 rfl rfl)
  obtain ⟨i1, rfl, rfl, rfl, wi1⟩ := open_int Try.underlying2 (hval 1 2 v1 rfl rfl) h1
  have k0 := h0
  have lt0 : ∀ x ∈ p0, x.block < W.heap.size := by obtain ⟨m, hm⟩ := k0; exact DataW.trod_lt m _ _ _ hm
  obtain ⟨v, m, rfl, hs, hl⟩ : ∃ (v : MV) (m : M4), cs = #[.bool m.alive, .slice v.ac m.copies.length v.cc, .slice v.al m.log.length v.cl, .slice v.ad m.cleared.length v.cd] ∧ SlM W v m ∧ ML m := by
    obtain ⟨fuel, hf⟩ := h0
    obtain ⟨v, m, e, hs, l1, l2, l3, k1, k2, _⟩ := om.open_machine hf
    exact ⟨v, m, by cases cs; simpa [Value.cells] using e, hs, ⟨l1, k1, l2, k2, l3⟩⟩
  clear hA0 hval0
  refine (walk W v m i1 hl hs).mono fun e W' ⟨he, bel⟩ => ?_
  subst he
  exact ⟨_, rfl, _, _, _, [], _, [], hW', trodAll_mk1 (shut_bool Try.underlying4 _), (trodAll_cons_mk (Below.trod laidOut (by kernel_rfl) (of_decide_eq_true (by kernel_rfl)) k0 bel lt0) (trodAll_cons_mk (shut_int Try.underlying2 wi1) trodAll_mk0)), rfl, bel.frame _, fun h => by cases h⟩
theorem over : Rows.fnExactCopiedRow.holds Try.pinned (OpenSpec.ofChange Rows.fnExactCopiedSpec) :=
  OpenClaim.holds_of_wide 4 Try.f4 rfl rfl rfl rfl rfl rfl rfl ⟨rfl, rfl, rfl, rfl, rfl⟩ rfl rfl rfl rfl rfl (by kernel_rfl) Try.func4 (by kernel_rfl)
    (of_decide_eq_true (by kernel_rfl)) (by unfold Func.isWrapper; first | (rw [if_pos (by decide +kernel)]; kernel_rfl) | (rw [if_neg (by decide +kernel)]; exact ⟨rfl, rfl⟩))
    (fun os started H enc _ => lifted os started H enc)
end Go.Proofs.Ytcockcdhendplaa.fnExactCopied
namespace Go.Proofs.Ytcockcdhendplaa
theorem fnExactCopied_holds : Rows.FnExactCopiedSaid := fnExactCopied.over
#print axioms fnExactCopied_holds
end Go.Proofs.Ytcockcdhendplaa
