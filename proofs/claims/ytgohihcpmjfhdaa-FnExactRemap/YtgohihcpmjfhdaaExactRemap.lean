/- Remap of the program answers, at every Places and every row of who lives, as the specification's Remap does; its two answers own their memory, and nothing that was there is changed: no condition. -/
import Derived.Test.YtgohihcpmjfhdaaRows
import Derived.Test.YtgohihcpmjfhdaaRemapI
import Derived.Test.YtgohihcpmjfhdaaRemapS2
import Derived.Test.YtgohihcpmjfhdaaSpreadS
import Derived.Test.YtgohihcpmjfhdaaPlsL
import Derived.Test.YtgohihcpmjfhdaaPlsL2
import Derived.Test.YtgohihcpmjfhdaaPlsM
import Derived.Test.YtgohihcpmjfhdaaPlsQ
import Derived.Test.YtgohihcpmjfhdaaMarkOwn
import Derived.Test.YtgohihcpmjfhdaaBoolRow
import Derived.Test.YtgohihcpmjfhdaaOpenPls
import Derived.WalkKit
import Derived.ProofKit
import Derived.OpenShut
import Derived.WalkSpells
namespace Go.Proofs.Ytgohihcpmjfhdaa
open Go.RowKit
theorem remapL_small (zss : List (List Int)) (al : List Bool) : (remapL zss al).length ≤ 6 ∧ (∀ zs ∈ remapL zss al, zs.length ≤ 3) ∧ lens (remapL zss al) ≤ 18 ∧ (lostL zss al).length ≤ 6 := by
  have key : (remapL zss al).length ≤ 6 ∧ (∀ zs ∈ remapL zss al, zs.length ≤ 3) ∧ (lostL zss al).length ≤ 6 := by
    cases h : remapB zss al with
    | false => simp [remapL, lostL, h]
    | true =>
      have h' := h
      simp only [remapB, Bool.and_eq_true, decide_eq_true_eq] at h'
      obtain ⟨p6, pin⟩ := places_in h'.1
      have hR : remapL zss al = remapN al zss zss.length := by simp [remapL, h]
      have hL : lostL zss al = lostN al zss zss.length := by simp [lostL, h]
      rw [hR, hL, remapN_len]
      refine ⟨p6, fun zs hz => ?_, Nat.le_trans (lostN_len al zss _) p6⟩
      obtain ⟨i, hi, rfl⟩ := List.mem_map.1 hz
      have z3 := (place_in (pin i (List.mem_range.1 hi))).2.1
      rw [rowR]
      split
      · exact z3
      · exact (fillTo_len al _ (Nat.le_trans (keepL_len al _) z3) _).2
  refine ⟨key.1, key.2.1, ?_, key.2.2⟩
  have := lens_le key.2.1
  omega
/-- The program's two answers, as they lie. -/
structure GS (B4 B6 : Nat) (w4 : World) (a : Option Addr) (zr : List (List Int)) (g : Nat → Nat) (a2 : Option Addr) (cq : Nat) (lr : List Int) (W : World) : Prop where
  q : OwnQ W B6 a zr.length zr g
  l : ON W B6 (.slice a2 lr.length cq) lr
  b : Below B4 w4 W
  s : B6 ≤ W.heap.size
  f : B4 ≤ B6
theorem GS.later {B4 B6 : Nat} {w4 : World} {a : Option Addr} {zr : List (List Int)} {g : Nat → Nat} {a2 : Option Addr} {cq : Nat} {lr : List Int} {W V : World} (h : GS B4 B6 w4 a zr g a2 cq lr W) (hb : Below W.heap.size W V) : GS B4 B6 w4 a zr g a2 cq lr V :=
  ⟨h.q.later hb, h.l.below hb, h.b.trans (hb.mono (Nat.le_trans h.f h.s)), Nat.le_trans h.s hb.size, h.f⟩
/-- Where nothing from B6 on is turned. -/
theorem GS.same {B4 B6 : Nat} {w4 : World} {a : Option Addr} {zr : List (List Int)} {g : Nat → Nat} {a2 : Option Addr} {cq : Nat} {lr : List Int} {W V : World} (h : GS B4 B6 w4 a zr g a2 cq lr W) (hs : V.heap.size = W.heap.size) (hb : Below B4 W V) (hk : ∀ k, B6 ≤ k → V.heap[k]? = W.heap[k]?) : GS B4 B6 w4 a zr g a2 cq lr V := by
  refine ⟨h.q.kept (by omega) (fun b e => hk b ?_) (fun i hi => hk _ (h.q.low i hi)), h.l.kept fun x e => hk x (World.ownsRow.lt h.l x e).1, h.b.trans hb, by rw [hs]; exact h.s, h.f⟩
  rcases h.q with ⟨h0, _⟩ | ⟨b', e', h1, _⟩
  · rw [h0] at e; cases e
  · rw [e'] at e; cases e; exact h1
/-- The copies that the program was handed. -/
structure XS (B4 B5 : Nat) (n na : Nat) (zss : List (List Int)) (al : List Bool) (g5 : Nat → Nat) (W : World) : Prop where
  p : OwnP W B4 B4 n zss g5
  b : BoolsAt W B5 0 al
  r : Room W B5 na
  o : B4 < B5
  s : B5 < W.heap.size
  g : ∀ i, i < n → g5 i < B5
theorem XS.later {B4 B5 n na : Nat} {zss : List (List Int)} {al : List Bool} {g5 : Nat → Nat} {W V : World} (h : XS B4 B5 n na zss al g5 W) (hb : Below W.heap.size W V) : XS B4 B5 n na zss al g5 V :=
  ⟨h.p.later hb (Nat.lt_trans h.o h.s), h.b.below hb h.s, h.r.below hb h.s, h.o, Nat.lt_of_lt_of_le h.s hb.size, h.g⟩
end Go.Proofs.Ytgohihcpmjfhdaa
namespace Go.Proofs.Ytgohihcpmjfhdaa.fnExactRemap
open Go.ChangeShapes Go.WideShapes Go.ChangeAt Go.RowKit
theorem own : ownKnob Try.prog.godebug = none := by kernel_rfl
theorem laidOut : laidOutB Try.prog = true := by kernel_rfl
set_option maxRecDepth 100000 in
set_option maxHeartbeats 8000000 in
theorem walk (w : World) (a : Option Addr) (n cap : Nat) (zss : List (List Int)) (aa : Option Addr) (na ca : Nat) (al : List Bool) (hn : n ≤ maxLen) (hs : SlP w w.heap.size a n zss) (hl : ∀ zs ∈ zss, zs.length ≤ maxLen) (hna : na ≤ maxLen) (hs' : SlB w w.heap.size aa na al) :
    Calls Try.prog 8 #[.slice a n cap, .slice aa na ca] w fun e w' => e = .returned (.bool true) ∧ Below w.heap.size w w' := by
  by_cases hb20 : 1048576 < na
  · have d0 : decide ((1048576 : Int) < (na : Int)) = true := by simp; omega
    clear hs hs' hl
    go_enter Try.func8, Try.ntmps8
    go_wp2
    go_ret
    exact ⟨rfl, Below.refl _ _⟩
  · have d0 : decide ((1048576 : Int) < (na : Int)) = false := by simp; omega
    have hsz := szPlaceS_any w a n cap zss hn hs hl
    by_cases hfit : n + lens zss ≤ 1048576
    · have hz : szR n zss = ((1048576 - (n + lens zss) : Nat) : Int) := by rw [szR, if_pos hfit]
      rw [hz] at hsz
      have d1 : decide (((1048576 - (n + lens zss) : Nat) : Int) < 0) = false := by simp
      have hn' : n ≤ 1048576 := by omega
      have hna' : na ≤ 1048576 := by omega
      have hl' : lens zss ≤ 1048576 := by omega
      have HL : Hid (∀ zs ∈ zss, zs.length ≤ 1048576) := fun zs h => by have := lens_mem h; omega
      have HLM : Hid (∀ zs ∈ zss, zs.length ≤ maxLen) := hl
      have S0 : Hid (SlP w w.heap.size a n zss ∧ SlB w w.heap.size aa na al) := ⟨hs, hs'⟩
      obtain ⟨r6, r3, r18, l6⟩ := remapL_small zss al
      have hS := fun W x c y d h h' => specRemap_any W x n c zss y na d al hn h h'
      have hI := fun W x c y d h h' => implRemap_any W x n c zss y na d al hn h h'
      unfold RemapPost at hS
      unfold RemapPostI at hI
      have SP : Hid (∀ (W : World) (x : Option Addr) (c : Nat) (y : Option Addr) (d : Nat), SlP W W.heap.size x n zss → SlB W W.heap.size y na al → Calls Try.prog 12 #[.slice x n c, .slice y na d] W fun e w' => ∃ b cp q cq, e = .returned (.tuple #[.slice (some ⟨b, 0, none⟩) (remapL zss al).length cp, .slice (some ⟨q, 0, none⟩) (lostL zss al).length cq]) ∧ SlP w' w'.heap.size (some ⟨b, 0, none⟩) (remapL zss al).length (remapL zss al) ∧ SlN w' w'.heap.size (some ⟨q, 0, none⟩) (lostL zss al).length (lostL zss al) ∧ Below W.heap.size W w') := fun W x c y d h h' => (hS W x c y d h h').mono fun e w' ⟨b, cp, g, q, cq, e1, e2, e3, e4, _, _, e7⟩ => ⟨b, cp, q, cq, e1, e2.sl e3, e4.sl rfl, e7⟩
      have IM : Hid _ := hI
      have HM : Hid (∀ zs ∈ remapL zss al, zs.length ≤ maxLen) := fun zs h => by have := r3 zs h; unfold maxLen; omega
      clear hs hs' hl hz hS hI r3
      obtain ⟨zr, hzr⟩ : ∃ zr, remapL zss al = zr := ⟨_, rfl⟩
      obtain ⟨lr, hlr⟩ : ∃ lr, lostL zss al = lr := ⟨_, rfl⟩
      simp only [hzr, hlr] at SP IM HM r6 r18 l6
      have zm : zr.length ≤ maxLen := by unfold maxLen; omega
      have z20 : zr.length ≤ 1048576 := by omega
      have r20 : lens zr ≤ 1048576 := by omega
      have lm : lr.length ≤ maxLen := by unfold maxLen; omega
      have l20 : lr.length ≤ 1048576 := by omega
      clear hzr hlr
      go_enter Try.func8, Try.ntmps8
      go_wp2_with fail
      refine hsz.mono ?_
      clear hsz
      rintro e w1 ⟨rfl, b1⟩
      have B1 : Hid (Below w.heap.size w w1) := b1
      clear b1
      go_wp2_with fail
      refine (toPlaceS_any w1 a n cap zss hn' HL.out (S0.out.1.later B1.out)).mono ?_
      rintro e w2 ⟨g2, rfl, b2, l2, o2⟩
      have S2 : Hid (SlP w2 w2.heap.size (some ⟨w1.heap.size, 0, none⟩) n zss ∧ Below w.heap.size w w2) := ⟨o2.sl l2, B1.out.trans (b2.mono B1.out.size)⟩
      clear b2 l2 o2
      go_wp2_with fail
      refine (toBoolS_any w2 aa na ca al hna' ((S0.out.2.below S2.out.2).mono S2.out.2.size)).mono ?_
      rintro e w3 ⟨rfl, b3, l3, x3, -⟩
      have S3 : Hid (SlP w3 w3.heap.size (some ⟨w1.heap.size, 0, none⟩) n zss ∧ SlB w3 w3.heap.size (some ⟨w2.heap.size, 0, none⟩) na al ∧ Below w.heap.size w w3) := ⟨S2.out.1.later b3, ⟨S0.out.2.1, .inr ⟨_, 0, rfl, l3, x3⟩⟩, S2.out.2.trans (b3.mono S2.out.2.size)⟩
      clear b3 l3 x3 S2
      go_wp2_with fail
      refine (SP.out w3 _ n _ na S3.out.1 S3.out.2.1).mono ?_
      rintro e w4 ⟨b4, c4, q4, cq4, rfl, sp4, sn4, be4⟩
      have S4 : Hid (SlP w4 w4.heap.size (some ⟨b4, 0, none⟩) zr.length zr ∧ SlN w4 w4.heap.size (some ⟨q4, 0, none⟩) lr.length lr ∧ Below w.heap.size w w4) := ⟨sp4, sn4, S3.out.2.2.trans (be4.mono S3.out.2.2.size)⟩
      clear sp4 sn4 be4 S3
      go_wp2_with fail
      refine (toPlaceS_any w4 a n cap zss hn' HL.out (S0.out.1.later S4.out.2.2)).mono ?_
      rintro e w5 ⟨g5, rfl, b5, l5, o5⟩
      have S5 : Hid (OwnP w5 w4.heap.size w4.heap.size n zss g5 ∧ w4.heap.size < w5.heap.size ∧ Below w4.heap.size w4 w5) := ⟨o5, l5, b5⟩
      clear b5 l5 o5
      go_wp2_with fail
      refine (toBoolS_any w5 aa na ca al hna' ((S0.out.2.below (S4.out.2.2.trans (S5.out.2.2.mono S4.out.2.2.size))).mono (S4.out.2.2.trans (S5.out.2.2.mono S4.out.2.2.size)).size)).mono ?_
      rintro e w6 ⟨rfl, b6, l6', x6, r6'⟩
      have X6 : Hid (XS w4.heap.size w5.heap.size n na zss al g5 w6 ∧ Below w4.heap.size w4 w6) := ⟨⟨S5.out.1.later b6 S5.out.2.1, x6, r6', S5.out.2.1, l6', S5.out.1.lt⟩, S5.out.2.2.trans (b6.mono S5.out.2.2.size)⟩
      clear b6 l6' x6 r6' S5
      go_wp2_with fail
      refine (IM.out w6 _ n _ na (X6.out.1.p.sl (Nat.lt_trans X6.out.1.o X6.out.1.s)) ⟨S0.out.2.1, .inr ⟨_, 0, rfl, X6.out.1.s, X6.out.1.b⟩⟩).mono ?_
      rintro e w7 ⟨a7, c7, g7, p7, cq7, rfl, q7, n7, ap7, be7⟩
      have AP : Hid (∀ x, p7 = some x → a7 ≠ some ⟨x.block, 0, none⟩ ∧ ∀ i, i < zr.length → g7 i ≠ x.block) := ap7
      have G7 : Hid (GS w4.heap.size w6.heap.size w4 a7 zr g7 p7 cq7 lr w7 ∧ XS w4.heap.size w5.heap.size n na zss al g5 w7 ∧ w5.heap.size < w6.heap.size) := ⟨⟨q7, n7, X6.out.2.trans (be7.mono X6.out.2.size), be7.size, X6.out.2.size⟩, X6.out.1.later be7, X6.out.1.s⟩
      clear q7 n7 be7 ap7 X6
      go_wp2_with fail
      refine (eqPlaceS_any w7 _ _ zr.length c7 c4 zr zm HM.out G7.out.1.q.sl (S4.out.1.later G7.out.1.b)).mono ?_
      rintro e w8 ⟨rfl, be8⟩
      have G8 : Hid (GS w4.heap.size w6.heap.size w4 a7 zr g7 p7 cq7 lr w8 ∧ XS w4.heap.size w5.heap.size n na zss al g5 w8 ∧ w5.heap.size < w6.heap.size) := ⟨G7.out.1.later be8, G7.out.2.1.later be8, G7.out.2.2⟩
      clear be8 G7
      go_wp2_with fail
      refine (eqInt64S_any w8 _ _ lr.length cq7 cq4 lr lm (G8.out.1.l.sl rfl) (S4.out.2.1.later G8.out.1.b)).mono ?_
      rintro e w9 ⟨rfl, be9⟩
      have G9 : Hid (GS w4.heap.size w6.heap.size w4 a7 zr g7 p7 cq7 lr w9 ∧ XS w4.heap.size w5.heap.size n na zss al g5 w9 ∧ w5.heap.size < w6.heap.size) := ⟨G8.out.1.later be9, G8.out.2.1.later be9, G8.out.2.2⟩
      clear be9 G8
      go_wp2_with fail
      refine (toPlaceS_any w9 a n cap zss hn' HL.out (S0.out.1.later (S4.out.2.2.trans (G9.out.1.b.mono S4.out.2.2.size)))).mono ?_
      rintro e w10 ⟨g10, rfl, b10, l10, o10⟩
      have G10 : Hid (GS w4.heap.size w6.heap.size w4 a7 zr g7 p7 cq7 lr w10 ∧ XS w4.heap.size w5.heap.size n na zss al g5 w10 ∧ w5.heap.size < w6.heap.size ∧ SlP w10 w10.heap.size (some ⟨w9.heap.size, 0, none⟩) n zss) := ⟨G9.out.1.later b10, G9.out.2.1.later b10, G9.out.2.2, o10.sl l10⟩
      clear b10 l10 o10 G9
      go_wp2_with fail
      refine (eqPlaceS_any w10 _ _ n n n zss hn HLM.out (G10.out.2.1.p.sl (Nat.lt_trans G10.out.2.1.o G10.out.2.1.s)) G10.out.2.2.2).mono ?_
      rintro e w11 ⟨rfl, be11⟩
      have G11 : Hid (GS w4.heap.size w6.heap.size w4 a7 zr g7 p7 cq7 lr w11 ∧ XS w4.heap.size w5.heap.size n na zss al g5 w11 ∧ w5.heap.size < w6.heap.size) := ⟨G10.out.1.later be11, G10.out.2.1.later be11, G10.out.2.2.1⟩
      clear be11 G10
      go_wp2_with fail
      refine (toBoolS_any w11 aa na ca al hna' ((S0.out.2.below (S4.out.2.2.trans (G11.out.1.b.mono S4.out.2.2.size))).mono (S4.out.2.2.trans (G11.out.1.b.mono S4.out.2.2.size)).size)).mono ?_
      rintro e w12 ⟨rfl, b12, l12, x12, -⟩
      have G12 : Hid (GS w4.heap.size w6.heap.size w4 a7 zr g7 p7 cq7 lr w12 ∧ XS w4.heap.size w5.heap.size n na zss al g5 w12 ∧ w5.heap.size < w6.heap.size ∧ SlB w12 w12.heap.size (some ⟨w11.heap.size, 0, none⟩) na al) := ⟨G11.out.1.later b12, G11.out.2.1.later b12, G11.out.2.2, ⟨S0.out.2.1, .inr ⟨_, 0, rfl, l12, x12⟩⟩⟩
      clear b12 l12 x12 G11
      go_wp2_with fail
      refine (eqBoolS_any w12 _ _ na na na al hna ⟨S0.out.2.1, .inr ⟨_, 0, rfl, G12.out.2.1.s, G12.out.2.1.b⟩⟩ G12.out.2.2.2).mono ?_
      rintro e w13 ⟨rfl, be13⟩
      have G13 : Hid (GS w4.heap.size w6.heap.size w4 a7 zr g7 p7 cq7 lr w13 ∧ XS w4.heap.size w5.heap.size n na zss al g5 w13 ∧ w5.heap.size < w6.heap.size) := ⟨G12.out.1.later be13, G12.out.2.1.later be13, G12.out.2.2.1⟩
      clear be13 G12
      go_wp2_with fail
      refine (markPlaceS_own w13 w4.heap.size w4.heap.size n n zss g5 1 hn' hl' (by omega) (by omega) G13.out.2.1.p).mono ?_
      rintro e w14 ⟨rfl, kp, _⟩
      have G14 : Hid (GS w4.heap.size w6.heap.size w4 a7 zr g7 p7 cq7 lr w14 ∧ Room w14 w5.heap.size na ∧ w5.heap.size < w6.heap.size ∧ w4.heap.size < w5.heap.size) :=
        ⟨G13.out.1.same kp.size (kp.below G13.out.2.1.p.low) (fun k hk => kp.block k (fun i hi e => by have := G13.out.2.1.g i hi; have := G13.out.2.2; omega)), G13.out.2.1.r.of_block (kp.block _ (fun i hi e => by have := G13.out.2.1.g i hi; omega)), G13.out.2.2, G13.out.2.1.o⟩
      clear kp G13
      go_wp2_with fail
      refine (markBoolS_own w14 w5.heap.size na na (1 + lens zss) hna' (by omega) (by omega) G14.out.2.1).mono ?_
      rintro e w15 ⟨rfl, ob⟩
      have G15 : Hid (GS w4.heap.size w6.heap.size w4 a7 zr g7 p7 cq7 lr w15) := G14.out.1.same ob.size (ob.below (Nat.le_of_lt G14.out.2.2.2)) (fun k hk => ob.block k (fun e => by have := G14.out.2.2.1; omega))
      clear ob G14
      have d15 : decide ((1 : Int) + (lens zss : Int) + (na : Int) < 0) = false := by simp; omega
      go_wp2_with fail
      refine (eqPlaceS_any w15 _ _ zr.length c7 c4 zr zm HM.out G15.out.q.sl (S4.out.1.later G15.out.b)).mono ?_
      rintro e w16 ⟨rfl, be16⟩
      have G16 : Hid (GS w4.heap.size w6.heap.size w4 a7 zr g7 p7 cq7 lr w16) := G15.out.later be16
      clear be16 G15
      go_wp2_with fail
      refine (eqInt64S_any w16 _ _ lr.length cq7 cq4 lr lm (G16.out.l.sl rfl) (S4.out.2.1.later G16.out.b)).mono ?_
      rintro e w17 ⟨rfl, be17⟩
      have G17 : Hid (GS w4.heap.size w6.heap.size w4 a7 zr g7 p7 cq7 lr w17) := G16.out.later be17
      clear be17 G16
      go_wp2_with fail
      refine (markPlaceS_q w17 w6.heap.size a7 zr.length c7 zr g7 1 z20 r20 (by omega) (by omega) G17.out.q).mono ?_
      rintro e w18 ⟨rfl, kp, o18⟩
      have G18 : Hid (OwnQ w18 w6.heap.size a7 zr.length (markPs zr 1) g7 ∧ ON w18 w6.heap.size (.slice p7 lr.length cq7) lr ∧ Below w4.heap.size w4 w18 ∧ w4.heap.size ≤ w6.heap.size) := by
        refine ⟨o18, G17.out.l.kept fun x e => kp.block x (fun i hi e' => ?_), G17.out.b.trans ((kp.below G17.out.q.low).mono G17.out.f), G17.out.f⟩
        cases p7 with
        | none => cases e
        | some y =>
          obtain rfl : y.block = x := by cases e; rfl
          exact (AP.out y rfl).2 i hi e'.symm
      clear kp o18 G17
      go_wp2_with fail
      refine (mark_on w18 w6.heap.size p7 lr.length cq7 lr (1 + lens zr) rfl l20 (by omega) (by omega) G18.out.2.1).mono ?_
      rintro e w19 ⟨rfl, b19, s19, z19, k19⟩
      have G19 : Hid (OwnQ w19 w6.heap.size a7 zr.length (markPs zr 1) g7 ∧ SlN w19 w19.heap.size p7 lr.length (marks lr.length (1 + lens zr)) ∧ Below w4.heap.size w4 w19) := by
        refine ⟨G18.out.1.kept (by rw [z19]; exact Nat.le_refl _) (fun b e => k19 b (fun e' => ?_)) (fun i hi => k19 _ (fun e' => ?_)), s19, G18.out.2.2.1.trans (b19.mono G18.out.2.2.2)⟩
        · cases p7 with
          | none => cases e'
          | some y =>
            obtain rfl : y.block = b := by cases e'; rfl
            exact (AP.out y rfl).1 e
        · cases p7 with
          | none => cases e'
          | some y =>
            exact (AP.out y rfl).2 i hi (Option.some.inj e').symm
      clear b19 s19 z19 k19 G18
      go_wp2_with fail
      refine (heldPlaceS_any w19 a7 zr.length c7 zr 1 z20 r20 (by omega) (by omega) G19.out.1.sl).mono ?_
      rintro e w19 ⟨rfl, rfl⟩
      have d19 : decide ((1 : Int) + (lens zr : Int) < 0) = false := by simp; omega
      go_wp2_with fail
      refine (heldInt64S_any w19 p7 lr.length cq7 (1 + lens zr) l20 (by omega) (by omega) G19.out.2.1).mono ?_
      rintro e w19 ⟨rfl, rfl⟩
      have d20 : decide ((1 : Int) + (lens zr : Int) + (lr.length : Int) < 0) = false := by simp; omega
      have e20 : ((1 : Int) + (lens zr : Int) + (lr.length : Int) != (1 : Int) + (lens zr : Int) + (lr.length : Int)) = false := by simp
      go_wp2_with fail
      refine (toPlaceS_any w19 a n cap zss hn' HL.out (S0.out.1.later (S4.out.2.2.trans (G19.out.2.2.mono S4.out.2.2.size)))).mono ?_
      rintro e w20 ⟨g20, rfl, b20, l20', o20⟩
      have G20 : Hid (OwnQ w20 w6.heap.size a7 zr.length (markPs zr 1) g7 ∧ SlN w20 w20.heap.size p7 lr.length (marks lr.length (1 + lens zr)) ∧ Below w4.heap.size w4 w20 ∧ SlP w20 w20.heap.size (some ⟨w19.heap.size, 0, none⟩) n zss) := ⟨G19.out.1.later b20, G19.out.2.1.later b20, G19.out.2.2.trans (b20.mono G19.out.2.2.size), o20.sl l20'⟩
      clear b20 l20' o20 G19
      go_wp2_with fail
      refine (toBoolS_any w20 aa na ca al hna' ((S0.out.2.below (S4.out.2.2.trans (G20.out.2.2.1.mono S4.out.2.2.size))).mono (S4.out.2.2.trans (G20.out.2.2.1.mono S4.out.2.2.size)).size)).mono ?_
      rintro e w21 ⟨rfl, b21, l21, x21, -⟩
      have G21 : Hid (OwnQ w21 w6.heap.size a7 zr.length (markPs zr 1) g7 ∧ SlN w21 w21.heap.size p7 lr.length (marks lr.length (1 + lens zr)) ∧ Below w4.heap.size w4 w21 ∧ SlP w21 w21.heap.size (some ⟨w19.heap.size, 0, none⟩) n zss ∧ SlB w21 w21.heap.size (some ⟨w20.heap.size, 0, none⟩) na al) := ⟨G20.out.1.later b21, G20.out.2.1.later b21, G20.out.2.2.1.trans (b21.mono G20.out.2.2.1.size), G20.out.2.2.2.later b21, ⟨S0.out.2.1, .inr ⟨_, 0, rfl, l21, x21⟩⟩⟩
      clear b21 l21 x21 G20
      go_wp2_with fail
      refine (IM.out w21 _ n _ na G21.out.2.2.2.1 G21.out.2.2.2.2).mono ?_
      rintro e w22 ⟨a22, c22, g22, p22, cq22, rfl, q22, n22, -, be22⟩
      have G22 : Hid (OwnQ w22 w6.heap.size a7 zr.length (markPs zr 1) g7 ∧ SlN w22 w22.heap.size p7 lr.length (marks lr.length (1 + lens zr)) ∧ Below w4.heap.size w4 w22 ∧ SlP w22 w22.heap.size a22 zr.length zr ∧ SlN w22 w22.heap.size p22 lr.length lr) := ⟨G21.out.1.later be22, G21.out.2.1.later be22, G21.out.2.2.1.trans (be22.mono G21.out.2.2.1.size), q22.sl, n22.sl rfl⟩
      clear q22 n22 be22 G21
      go_wp2_with fail
      refine (eqPlaceS_any w22 _ _ zr.length c22 c4 zr zm HM.out G22.out.2.2.2.1 (S4.out.1.later G22.out.2.2.1)).mono ?_
      rintro e w23 ⟨rfl, be23⟩
      have G23 : Hid (OwnQ w23 w6.heap.size a7 zr.length (markPs zr 1) g7 ∧ SlN w23 w23.heap.size p7 lr.length (marks lr.length (1 + lens zr)) ∧ Below w4.heap.size w4 w23 ∧ SlN w23 w23.heap.size p22 lr.length lr) := ⟨G22.out.1.later be23, G22.out.2.1.later be23, G22.out.2.2.1.trans (be23.mono G22.out.2.2.1.size), G22.out.2.2.2.2.later be23⟩
      clear be23 G22
      go_wp2_with fail
      refine (eqInt64S_any w23 _ _ lr.length cq22 cq4 lr lm G23.out.2.2.2 (S4.out.2.1.later G23.out.2.2.1)).mono ?_
      rintro e w24 ⟨rfl, be24⟩
      have G24 : Hid (OwnQ w24 w6.heap.size a7 zr.length (markPs zr 1) g7 ∧ SlN w24 w24.heap.size p7 lr.length (marks lr.length (1 + lens zr)) ∧ Below w4.heap.size w4 w24) := ⟨G23.out.1.later be24, G23.out.2.1.later be24, G23.out.2.2.1.trans (be24.mono G23.out.2.2.1.size)⟩
      clear be24 G23
      go_wp2_with fail
      refine (heldPlaceS_any w24 a7 zr.length c7 zr 1 z20 r20 (by omega) (by omega) G24.out.1.sl).mono ?_
      rintro e w24 ⟨rfl, rfl⟩
      go_wp2_with fail
      refine (heldInt64S_any w24 p7 lr.length cq7 (1 + lens zr) l20 (by omega) (by omega) G24.out.2.1).mono ?_
      rintro e w24 ⟨rfl, rfl⟩
      go_wp2
      go_ret
      exact ⟨rfl, S4.out.2.2.trans (G24.out.2.2.mono S4.out.2.2.size)⟩
    · have hz : szR n zss = -1 := by rw [szR, if_neg hfit]
      rw [hz] at hsz
      clear hs hl hs'
      go_enter Try.func8, Try.ntmps8
      go_wp2_with fail
      refine hsz.mono ?_
      clear hsz
      rintro e w1 ⟨rfl, b1⟩
      go_wp2
      go_ret
      exact ⟨rfl, b1⟩
set_option maxRecDepth 100000 in
theorem lifted (os : Os) (started : os.Started) (H : Type) (enc : TypeId × Value → H) :
    ReturnsInHanded {} Try.checked os 8 .any (Rows.fnExactRemapSpec.pre6 enc Try.prog Try.f8 Rows.fnExactRemapRow.domain false) (Rows.fnExactRemapSpec.post enc Try.prog Try.f8 false true false false) := by
  refine returnsInHanded_of_change (C := Try.checked) own started (by kernel_rfl) Try.func8
    (ChangeSpec.witness6 (enc := enc) (C := Try.checked) false ⟨#[], #[.slice none 0 0, .slice none 0 0], []⟩ 8 (by kernel_rfl) (by kernel_rfl) (by kernel_rfl) (by kernel_rfl)) ?_
  intro W base args ds gs before hval0 hW hcnd _
  have hval : ∀ (j : Nat) t v, Try.f8.params[j]? = some t → args[j]? = some v → Value.okWide Try.prog W .any base t v := hval0
  have hW' := hW
  obtain ⟨p, q, hA0, hV, rfl, hfz, hnd⟩ := hW
  have hA : DataW.TrodAll enc Try.prog W 0 (fun _ => true) true Try.f8.params.toList args.toList ds p := hA0
  rw [Try.params8] at hA hval
  obtain ⟨v0, vs0, d0, ds0, p0, q0, hargs, rfl, rfl, h0, r0⟩ := trodAll_cons hA
  obtain ⟨v1, vs1, d1, ds1, p1, q1, rfl, rfl, rfl, h1, r1⟩ := trodAll_cons r0
  obtain ⟨rfl, rfl, rfl⟩ := trodAll_nil r1
  obtain rfl : args = #[v0, v1] := by cases args; simp_all
  obtain ⟨rfl, rfl⟩ := trodVars_none hV
  obtain ⟨a, n, cap, rfl⟩ := okWide_slice Try.underlying42 (hval 0 42 v0 rfl rfl)
  obtain ⟨aa, na, ca, rfl⟩ := okWide_slice Try.underlying25 (hval 1 25 v1 rfl rfl)
  have k0 := h0
  have k1 := h1
  have lt0 : ∀ x ∈ p0, x.block < W.heap.size := by obtain ⟨m, hm⟩ := k0; exact DataW.trod_lt m _ _ _ hm
  have lt1 : ∀ x ∈ p1, x.block < W.heap.size := by obtain ⟨m, hm⟩ := k1; exact DataW.trod_lt m _ _ _ hm
  obtain ⟨zss, hm, hs, hl⟩ : ∃ (zss : List (List Int)), n ≤ maxLen ∧ SlP W W.heap.size a n zss ∧ ∀ zs ∈ zss, zs.length ≤ maxLen := by
    obtain ⟨fuel, hf⟩ := h0
    obtain ⟨a', n', cap', zss, e, hm, hs, hl⟩ := open_placerow hf
    simp [Value.cells] at e
    obtain ⟨rfl, rfl, rfl⟩ := e
    exact ⟨zss, hm, hs, hl⟩
  obtain ⟨al, hma, hsa⟩ : ∃ (al : List Bool), na ≤ maxLen ∧ SlB W W.heap.size aa na al := by
    obtain ⟨fuel, hf⟩ := h1
    obtain ⟨a', n', cap', al, e, hm, hs⟩ := open_boolrow hf
    simp [Value.cells] at e
    obtain ⟨rfl, rfl, rfl⟩ := e
    exact ⟨al, hm, hs⟩
  clear hA0 hval0
  refine (walk W a n cap zss aa na ca al hm hs hl hma hsa).mono fun e W' ⟨he, bel⟩ => ?_
  subst he
  exact ⟨_, rfl, _, _, _, [], _, [], hW', trodAll_mk1 (shut_bool Try.underlying4 _), (trodAll_cons_mk (Below.trod laidOut (by kernel_rfl) (of_decide_eq_true (by kernel_rfl)) k0 bel lt0) (trodAll_cons_mk (Below.trod laidOut (by kernel_rfl) (of_decide_eq_true (by kernel_rfl)) k1 bel lt1) trodAll_mk0)), rfl, bel.frame _, fun h => by cases h⟩

theorem over : Rows.fnExactRemapRow.holds Try.pinned (OpenSpec.ofChange Rows.fnExactRemapSpec) :=
  OpenClaim.holds_of_wide 8 Try.f8 rfl rfl rfl rfl rfl rfl rfl ⟨rfl, rfl, rfl, rfl, rfl⟩ rfl rfl rfl rfl rfl (by kernel_rfl) Try.func8 (by kernel_rfl)
    (of_decide_eq_true (by kernel_rfl)) (by unfold Func.isWrapper; first | (rw [if_pos (by decide +kernel)]; kernel_rfl) | (rw [if_neg (by decide +kernel)]; exact ⟨rfl, rfl⟩))
    (fun os started H enc _ => lifted os started H enc)

end Go.Proofs.Ytgohihcpmjfhdaa.fnExactRemap
namespace Go.Proofs.Ytgohihcpmjfhdaa
theorem fnExactRemap_holds : Rows.FnExactRemapSaid := fnExactRemap.over
#print axioms fnExactRemap_holds
end Go.Proofs.Ytgohihcpmjfhdaa
