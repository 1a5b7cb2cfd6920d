/- AddSet of the program answers, at every transaction and Set, as the specification's AddSet does, in memory of its own, and changes nothing: no condition. -/
import Derived.Test.YtcanaklameddbaaRows
import Derived.Test.YtcanaklameddbaaAseA
import Derived.Test.YtcanaklameddbaaTxM
import Derived.Test.YtcanaklameddbaaTxE
import Derived.Test.YtcanaklameddbaaOpenTx
import Derived.WalkKit
import Derived.ProofKit
import Derived.OpenShut
import Derived.Deep.RegionWith
import Derived.Deep.CutRange
import Derived.WalkSpells
namespace Go.Proofs.Ytcanaklameddbaa.fnExactAddSet
open Go.ChangeShapes Go.WideShapes Go.ChangeAt Go.RowKit
theorem own : ownKnob Try.prog.godebug = none := by kernel_rfl
theorem laidOut : laidOutB Try.prog = true := by kernel_rfl
theorem addSe_short (t : T7) (n : S5) (l1 : t.reads.length ≤ 1048576) (l2 : t.sets.length ≤ 1048576) : TS (addSe t n) := by
  unfold addSe
  split
  · next h =>
    split
    · exact ⟨l1, by simp only [ovSe_len]; exact l2⟩
    · split
      · exact ⟨by simp [noT], by simp [noT]⟩
      · exact ⟨l1, by have := (txB_lens h.1).2; simp only [insSe_len]; omega⟩
  · exact ⟨by simp [noT], by simp [noT]⟩
/-- A transaction in a box, in memory of the call's own. -/
def Gx (w X : World) (s : Value) (b : Value) (N : T7) (ok : Bool) : Prop := ∃ (q : Nat) (a : Option Addr) (c : Nat) (h : Option Addr) (d : Nat) (QR QS : Nat → Prop), s = .pointer (some ⟨q, 0, none⟩) ∧ b = .bool ok ∧ BT X q ⟨a, c, h, d⟩ N ∧ OT X w.heap.size ⟨a, c, h, d⟩ N QR QS ∧ (∀ x, OfT QR QS x → x ≠ q) ∧ w.heap.size ≤ q ∧ Below w.heap.size w X
/-- A transaction in a box, readable. -/
def Bx (w X : World) (s : Value) (b : Value) (N : T7) (ok : Bool) : Prop := ∃ (q : Nat) (a : Option Addr) (c : Nat) (h : Option Addr) (d : Nat), s = .pointer (some ⟨q, 0, none⟩) ∧ b = .bool ok ∧ BT X q ⟨a, c, h, d⟩ N ∧ SlT X ⟨a, c, h, d⟩ N ∧ Below w.heap.size w X
set_option maxHeartbeats 8000000 in
theorem walk_small (w : World) (v : TV) (t : T7) (n : S5) (hl : TL t) (hs : SlT w v t) (hg : szT t ≤ 1048576) :
    Calls Try.prog 5 #[v.val t, .agg #[.int .i64 n.region, .int .i64 n.slot, .int .i64 n.value, .bool n.used, .int .i64 n.version]] w fun e w' => e = .returned (.bool true) ∧ Below w.heap.size w w' := by
  have l1 : t.reads.length ≤ 1048576 := by unfold szT at hg; omega
  have l2 : t.sets.length ≤ 1048576 := by unfold szT at hg; omega
  obtain ⟨ar, cr, ah, ch⟩ := v
  have T : Hid (∀ X, SlT X ⟨ar, cr, ah, ch⟩ t → Calls Try.prog 24 #[(TV.mk ar cr ah ch).val t] X (CpAns X t)) := fun X h => toTx_anyC X ⟨ar, cr, ah, ch⟩ t l1 l2 h
  have CN : Hid (∀ X, Calls Try.prog 25 #[.agg #[.int .i64 n.region, .int .i64 n.slot, .int .i64 n.value, .bool n.used, .int .i64 n.version]] X fun e w' => e = .returned (.agg #[.int .i64 n.region, .int .i64 n.slot, .int .i64 n.value, .bool n.used, .int .i64 n.version]) ∧ Below X.heap.size X w') := fun X => toSet_any X n
  have CS : Hid (∀ X a c h d, SlT X ⟨a, c, h, d⟩ t → t.sets.length ≤ d → Calls Try.prog 13 #[(TV.mk a c h d).val t, .agg #[.int .i64 n.region, .int .i64 n.slot, .int .i64 n.value, .bool n.used, .int .i64 n.version]] X (TAns X (addSe t n) (addSB t n))) := fun X a c h d hh hc => specAddSet_any X ⟨a, c, h, d⟩ t n hl hh hc
  have CI : Hid (∀ X a c h d, SlT X ⟨a, c, h, d⟩ t → Calls Try.prog 12 #[(TV.mk a c h d).val t, .agg #[.int .i64 n.region, .int .i64 n.slot, .int .i64 n.value, .bool n.used, .int .i64 n.version]] X (TAns X (addSe t n) (addSB t n))) := fun X a c h d hh => implAddSet_any X ⟨a, c, h, d⟩ t n hl hh
  have CQ : Hid (∀ X a c h d a' c' h' d', SlT X ⟨a, c, h, d⟩ t → SlT X ⟨a', c', h', d'⟩ t → Calls Try.prog 26 #[(TV.mk a c h d).val t, (TV.mk a' c' h' d').val t] X fun e w' => e = .returned (.bool true) ∧ Below X.heap.size X w') := fun X a c h d a' c' h' d' h1 h2 => eqTx_same X ⟨a, c, h, d⟩ ⟨a', c', h', d'⟩ t hl h1 h2
  have CK : Hid (∀ X B a c h d PR PS, OT X B ⟨a, c, h, d⟩ t PR PS → Calls Try.prog 27 #[(TV.mk a c h d).val t, .int .i64 1] X fun e w' => e = .returned (.int .i64 (endT t 1)) ∧ KeptP (OfT PR PS) X w') := fun X B a c h d PR PS h1 => (markTx_any X B ⟨a, c, h, d⟩ t PR PS 1 (by omega) (by omega) l1 l2 h1).mono (by rintro e w' ⟨e1, e2, _⟩; exact ⟨e1, e2⟩)
  have dE : decide (endT t 1 < 0) = false := by unfold endT; simp; omega
  have HN : Hid (TS (addSe t n)) := addSe_short t n l1 l2
  generalize addSe t n = N at *
  generalize addSB t n = ok at *
  have CE : Hid (∀ X a c h d a' c' h' d', SlT X ⟨a, c, h, d⟩ N → SlT X ⟨a', c', h', d'⟩ N → Calls Try.prog 26 #[.agg #[.int .i64 N.id, .int .i64 N.home, .int .i64 N.phase, .int .i64 N.count, .slice a N.reads.length c, .slice h N.sets.length d, .int .i64 N.stamp], .agg #[.int .i64 N.id, .int .i64 N.home, .int .i64 N.phase, .int .i64 N.count, .slice a' N.reads.length c', .slice h' N.sets.length d', .int .i64 N.stamp]] X fun e w' => e = .returned (.bool true) ∧ Below X.heap.size X w') := fun X a c h d a' c' h' d' h1 h2 => eqTx_same X ⟨a, c, h, d⟩ ⟨a', c', h', d'⟩ N HN.out.tl h1 h2
  have CM : Hid (∀ X B a c h d PR PS, OT X B ⟨a, c, h, d⟩ N PR PS → Calls Try.prog 27 #[.agg #[.int .i64 N.id, .int .i64 N.home, .int .i64 N.phase, .int .i64 N.count, .slice a N.reads.length c, .slice h N.sets.length d, .int .i64 N.stamp], .int .i64 1] X fun e w' => e = .returned (.int .i64 (endT N 1)) ∧ KeptP (OfT PR PS) X w' ∧ OT w' B ⟨a, c, h, d⟩ (mkT N 1) PR PS) := fun X B a c h d PR PS h1 => markTx_any X B ⟨a, c, h, d⟩ N PR PS 1 (by omega) (by omega) HN.out.r HN.out.s h1
  have CH : Hid (∀ X a c h d, SlT X ⟨a, c, h, d⟩ (mkT N 1) → Calls Try.prog 28 #[.agg #[.int .i64 N.id, .int .i64 N.home, .int .i64 N.phase, .int .i64 N.count, .slice a N.reads.length c, .slice h N.sets.length d, .int .i64 N.stamp], .int .i64 1] X fun e w' => e = .returned (.int .i64 (endT N 1)) ∧ Below X.heap.size X w') := fun X a c h d h1 => heldTx_any X ⟨a, c, h, d⟩ N 1 (by omega) (by omega) HN.out.r HN.out.s h1
  have dF : decide (endT N 1 < 0) = false := by have := endT_nonneg N; simp; omega
  have dM : (endT N 1 != endT N 1) = false := by simp
  have dB : (ok != ok) = false := by simp
  generalize endT N 1 = F at *
  generalize endT t 1 = E at *
  simp only [TV.val] at T CS CI CQ CK ⊢
  obtain ⟨W0, hW0⟩ : ∃ W, W = w.alloc (.cells #[.int .i64 t.id, .int .i64 t.home, .int .i64 t.phase, .int .i64 t.count, .slice ar t.reads.length cr, .slice ah t.sets.length ch, .int .i64 t.stamp] 51) := ⟨_, rfl⟩
  have b0 : Below w.heap.size w W0 := by rw [hW0]; exact (Below.refl _ _).alloc (Nat.le_refl _) _
  have x0 : BT W0 w.heap.size ⟨ar, cr, ah, ch⟩ t := by rw [hW0]; exact BT.box w ⟨ar, cr, ah, ch⟩ t _
  have z0 : W0.heap.size = w.heap.size + 1 := by rw [hW0]; simp
  obtain ⟨W, hW⟩ : ∃ W, W = W0.alloc (.cells #[.int .i64 n.region, .int .i64 n.slot, .int .i64 n.value, .bool n.used, .int .i64 n.version] 52) := ⟨_, rfl⟩
  have b1 : Below W0.heap.size W0 W := by rw [hW]; exact (Below.refl _ _).alloc (Nat.le_refl _) _
  have x1 : SetAt W (w.heap.size + 1) 0 n := by rw [hW, ← z0]; exact SetAt.box W0 _ _
  have z1 : w.heap.size + 1 < W.heap.size := by rw [hW]; simp [z0]
  have bW : Below w.heap.size w W := b0.trans (b1.mono b0.size)
  have c1 := szTx_any W ⟨ar, cr, ah, ch⟩ t hl
  rw [leftR_yes hg] at c1
  simp only [TV.val] at c1
  have d0 : decide (((1048576 - szT t : Nat) : Int) < 0) = false := by simp
  have S0 : Hid (Below w.heap.size w W ∧ SlT W ⟨ar, cr, ah, ch⟩ t ∧ BT W w.heap.size ⟨ar, cr, ah, ch⟩ t ∧ SetAt W (w.heap.size + 1) 0 n ∧ w.heap.size + 1 < W.heap.size) := ⟨bW, hs.later bW, x0.later b1, x1, z1⟩
  rw [hW0] at hW
  clear l1 l2 hs hl hg b0 x0 z0 b1 x1 z1 bW hW0
  generalize 1048576 - szT t = lf at *
  go_enter Try.func5, Try.ntmps5
  go_wp2_with fail
  rw [← hW]
  clear hW
  refine c1.mono ?_
  clear c1
  rintro e w1 ⟨rfl, b1⟩
  have S1 : Hid (Below w.heap.size w w1 ∧ SlT w1 ⟨ar, cr, ah, ch⟩ t ∧ BT w1 w.heap.size ⟨ar, cr, ah, ch⟩ t ∧ SetAt w1 (w.heap.size + 1) 0 n ∧ w.heap.size + 1 < w1.heap.size) := ⟨S0.out.1.trans (b1.mono S0.out.1.size), S0.out.2.1.later b1, S0.out.2.2.1.later b1, S0.out.2.2.2.1.below b1 S0.out.2.2.2.2, Nat.lt_of_lt_of_le S0.out.2.2.2.2 b1.size⟩
  clear b1 S0
  go_upto_region 5 with fail
  go_cut [6, 7] from 21 to 28 (fun s6 s7 wx => Bx w1 wx s6 s7 N ok)
  case first =>
    have FB : Hid (∀ X, Below w1.heap.size w1 X → BT X w.heap.size ⟨ar, cr, ah, ch⟩ t ∧ SetAt X (w.heap.size + 1) 0 n ∧ SlT X ⟨ar, cr, ah, ch⟩ t) := fun X hX => ⟨S1.out.2.2.1.later hX, S1.out.2.2.2.1.below hX S1.out.2.2.2.2, S1.out.2.1.later hX⟩
    have bd : Below w1.heap.size w1 w1.drew := (Below.refl _ _).drew
    have SF : Hid (∀ X, Below w1.heap.size w1 X → (fun X : World => BT X w.heap.size ⟨ar, cr, ah, ch⟩ t ∧ SetAt X (w.heap.size + 1) 0 n) X) := fun X hX => ⟨(FB.out X hX).1, (FB.out X hX).2.1⟩
    have hS : (fun X : World => BT X w.heap.size ⟨ar, cr, ah, ch⟩ t ∧ SetAt X (w.heap.size + 1) 0 n) w1.drew := SF.out _ bd
    refine wp_region_z (fun z => z == 9) (fun X : World => BT X w.heap.size ⟨ar, cr, ah, ch⟩ t ∧ SetAt X (w.heap.size + 1) 0 n) (by kernel_rfl) ?_
    generalize w1.drew = Wd at *
    refine wpZ_take (i := 0) (v := ?_) rfl (by kernel_rfl) (fun _ _ _ h => h) (Or.inl ⟨by rfl, ?_⟩) hS ?_
    rotate_left
    · (intro X hSw; obtain ⟨⟨p0, p1, p2, p3, p4, p5, p6, -, -⟩, -⟩ := hSw; dsimp only at p4 p5; go_simp; first | done | with_reducible rfl)
    simp only [Act.put]
    refine wpZ_take (i := 2) (v := ?_) rfl (by kernel_rfl) (fun _ _ _ h => h) (Or.inl ⟨by rfl, ?_⟩) hS ?_
    rotate_left
    · (intro X hSw; obtain ⟨-, ⟨n0, n1, n2, n3, n4⟩⟩ := hSw; simp only [Nat.zero_add] at n1 n2 n3 n4; go_simp; first | done | with_reducible rfl)
    simp only [Act.put]
    refine wpZ_ready (rs := [1, 8]) (by kernel_rfl) (by simp) ?_
    refine AllZ.cons rfl (fun K hK => ?_) (AllZ.cons rfl (fun K hK => ?_) AllZ.nil)
    · go_simp
      refine (T.out Wd (FB.out _ bd).2.2).mono ?_
      rintro e C0 ⟨a2, c2, h2, d2, _, _, rfl, oT, bC0', -, hcT⟩
      simp only [TV.val]
      have sT := oT.sl
      clear oT
      have bC0 : Below w1.heap.size w1 C0 := bd.trans (bC0'.mono bd.size)
      refine hK.out _ _ (fun _ => SF.out _ bC0) ?_
      clear hK K
      have hS := SF.out _ bC0
      refine wpZ_ready (rs := [3, 8]) (by kernel_rfl) (by simp) ?_
      refine AllZ.cons rfl (fun K hK => ?_) (AllZ.cons rfl (fun K hK => ?_) AllZ.nil)
      · go_simp
        refine (CN.out C0).mono ?_
        rintro e C1 ⟨rfl, bC1'⟩
        have sT := sT.later bC1'
        have bC1 : Below w1.heap.size w1 C1 := bC0.trans (bC1'.mono bC0.size)
        refine hK.out _ _ (fun _ => SF.out _ bC1) ?_
        clear hK K
        have hS := SF.out _ bC1
        refine wpZ_ready (rs := [4, 8]) (by kernel_rfl) (by simp) ?_
        refine AllZ.cons rfl (fun K hK => ?_) (AllZ.cons rfl (fun K hK => ?_) AllZ.nil)
        · go_simp
          refine (CS.out C1 a2 c2 h2 d2 sT hcT).mono ?_
          rintro e C2 ⟨ya, yk, yh, yd, QR, QS, rfl, oA, bC2'⟩
          have bC2 : Below w1.heap.size w1 C2 := bC1.trans (bC2'.mono bC1.size)
          refine hK.out _ _ (fun _ => SF.out _ bC2) ?_
          clear hK K
          have hS := SF.out _ bC2
          refine wpZ_takeP (i := 5) (v := ?_) rfl (by kernel_rfl) (fun _ _ _ h => h) (Or.inl ⟨by rfl, ?_⟩) hS ?_
          rotate_left
          · (intro X _; go_simp; first | done | with_reducible rfl)
          simp only [Act.put]
          refine wpZ_takeP (i := 6) (v := ?_) rfl (by kernel_rfl) (fun _ _ _ h => h) (Or.inl ⟨by rfl, ?_⟩) hS ?_
          rotate_left
          · (intro X _; go_simp; first | done | with_reducible rfl)
          simp only [Act.put]
          refine wpZ_takeP (i := 7) (v := ?_) rfl (by kernel_rfl) (fun _ _ _ h => h) (Or.inl ⟨by rfl, ?_⟩) hS ?_
          rotate_left
          · (intro X _; go_simp; first | done | with_reducible rfl)
          simp only [Act.put]
          refine wpZ_ready (rs := [8]) (by kernel_rfl) (by simp) ?_
          refine AllZ.cons rfl (fun K hK => ?_) AllZ.nil
          go_simp
          obtain ⟨A3, hA3⟩ : ∃ X, X = C2.alloc (.cells #[.int .i64 0, .int .i64 0, .int .i64 0, .int .i64 0, .slice none 0 0, .slice none 0 0, .int .i64 0] 27) := ⟨_, rfl⟩
          rw [← hA3]
          have bA3' : Below C2.heap.size C2 A3 := by rw [hA3]; exact (Below.refl _ _).alloc (Nat.le_refl _) _
          have bA3 : Below w1.heap.size w1 A3 := bC2.trans (bA3'.mono bC2.size)
          have zA3 : BT A3 C2.heap.size ⟨none, 0, none, 0⟩ ⟨0, 0, 0, 0, [], [], 0⟩ := by rw [hA3]; exact BT.zero C2 _
          have lA3 : w1.heap.size ≤ C2.heap.size := bC2.size
          refine hK.out _ _ (fun _ => SF.out _ bA3) ?_
          clear hK K
          have hS := SF.out _ bA3
          clear hA3
          have hne : ∀ x, OfT QR QS x → x ≠ C2.heap.size := fun x hx => by have := (oA.of hx).2; omega
          have oA := oA.later bA3'
          have KZ := hidOf zA3
          obtain ⟨r0, r1, r2, r3, r4, r5, r6, fr, -⟩ := KZ.out
          have f0 := fr 0
          have f1 := fr 1
          have f2 := fr 2
          have f3 := fr 3
          have f4 := fr 4
          have f5 := fr 5
          have f6 := fr 6
          clear fr
          dsimp only at r4 r5
          refine wpZ_ready (rs := [9]) (by kernel_rfl) (by simp) ?_
          refine AllZ.cons rfl (fun K hK => ?_) AllZ.nil
          go_simp
          refine hK.out _ _ (fun h => absurd (show false = true from h.symm.trans (by kernel_rfl)) (by decide)) ?_
          clear hK K
          refine wpZ_ready (rs := [10]) (by kernel_rfl) (by simp) ?_
          refine AllZ.cons rfl (fun K hK => ?_) AllZ.nil
          go_simp
          refine hK.out _ _ (fun h => absurd (show false = true from h.symm.trans (by kernel_rfl)) (by decide)) ?_
          clear hK K
          refine wpZ_done (by kernel_rfl) ?_ _
          go_wp2_with fail
          go_meet
          exact ⟨C2.heap.size, ya, yk, yh, yd, rfl, rfl, BT.put KZ.out ⟨ya, yk, yh, yd⟩ N, (oA.keep (w' := putT A3 (C2.heap.size) ⟨ya, yk, yh, yd⟩ N) (by rw [putT_size]; exact Nat.le_refl _) (fun x _ hx => putT_block (hne x hx))).sl, putT_below (s := C2.heap.size) (v := ⟨ya, yk, yh, yd⟩) (t := N) bA3 lA3⟩
        · go_simp
          obtain ⟨A2, hA2⟩ : ∃ X, X = C1.alloc (.cells #[.int .i64 0, .int .i64 0, .int .i64 0, .int .i64 0, .slice none 0 0, .slice none 0 0, .int .i64 0] 27) := ⟨_, rfl⟩
          rw [← hA2]
          have bA2' : Below C1.heap.size C1 A2 := by rw [hA2]; exact (Below.refl _ _).alloc (Nat.le_refl _) _
          have bA2 : Below w1.heap.size w1 A2 := bC1.trans (bA2'.mono bC1.size)
          have zA2 : BT A2 C1.heap.size ⟨none, 0, none, 0⟩ ⟨0, 0, 0, 0, [], [], 0⟩ := by rw [hA2]; exact BT.zero C1 _
          have lA2 : w1.heap.size ≤ C1.heap.size := bC1.size
          refine hK.out _ _ (fun _ => SF.out _ bA2) ?_
          clear hK K
          have hS := SF.out _ bA2
          clear hA2
          have sT := sT.later bA2'
          refine wpZ_ready (rs := [4]) (by kernel_rfl) (by simp) ?_
          refine AllZ.cons rfl (fun K hK => ?_) AllZ.nil
          go_simp
          refine (CS.out A2 a2 c2 h2 d2 sT hcT).mono ?_
          rintro e C3 ⟨ya, yk, yh, yd, QR, QS, rfl, oA, bC3'⟩
          have hne : ∀ x, OfT QR QS x → x ≠ C1.heap.size := fun x hx => by have := (oA.of hx).1; have := zA2.lt; omega
          have bC3 : Below w1.heap.size w1 C3 := bA2.trans (bC3'.mono bA2.size)
          have yC3 := zA2.later bC3'
          refine hK.out _ _ (fun _ => SF.out _ bC3) ?_
          clear hK K
          have hS := SF.out _ bC3
          refine wpZ_takeP (i := 5) (v := ?_) rfl (by kernel_rfl) (fun _ _ _ h => h) (Or.inl ⟨by rfl, ?_⟩) hS ?_
          rotate_left
          · (intro X _; go_simp; first | done | with_reducible rfl)
          simp only [Act.put]
          refine wpZ_takeP (i := 6) (v := ?_) rfl (by kernel_rfl) (fun _ _ _ h => h) (Or.inl ⟨by rfl, ?_⟩) hS ?_
          rotate_left
          · (intro X _; go_simp; first | done | with_reducible rfl)
          simp only [Act.put]
          refine wpZ_takeP (i := 7) (v := ?_) rfl (by kernel_rfl) (fun _ _ _ h => h) (Or.inl ⟨by rfl, ?_⟩) hS ?_
          rotate_left
          · (intro X _; go_simp; first | done | with_reducible rfl)
          simp only [Act.put]
          have KZ := hidOf yC3
          obtain ⟨r0, r1, r2, r3, r4, r5, r6, fr, -⟩ := KZ.out
          have f0 := fr 0
          have f1 := fr 1
          have f2 := fr 2
          have f3 := fr 3
          have f4 := fr 4
          have f5 := fr 5
          have f6 := fr 6
          clear fr
          dsimp only at r4 r5
          refine wpZ_ready (rs := [9]) (by kernel_rfl) (by simp) ?_
          refine AllZ.cons rfl (fun K hK => ?_) AllZ.nil
          go_simp
          refine hK.out _ _ (fun h => absurd (show false = true from h.symm.trans (by kernel_rfl)) (by decide)) ?_
          clear hK K
          refine wpZ_ready (rs := [10]) (by kernel_rfl) (by simp) ?_
          refine AllZ.cons rfl (fun K hK => ?_) AllZ.nil
          go_simp
          refine hK.out _ _ (fun h => absurd (show false = true from h.symm.trans (by kernel_rfl)) (by decide)) ?_
          clear hK K
          refine wpZ_done (by kernel_rfl) ?_ _
          go_wp2_with fail
          go_meet
          exact ⟨C1.heap.size, ya, yk, yh, yd, rfl, rfl, BT.put KZ.out ⟨ya, yk, yh, yd⟩ N, (oA.keep (w' := putT C3 (C1.heap.size) ⟨ya, yk, yh, yd⟩ N) (by rw [putT_size]; exact Nat.le_refl _) (fun x _ hx => putT_block (hne x hx))).sl, putT_below (s := C1.heap.size) (v := ⟨ya, yk, yh, yd⟩) (t := N) bC3 lA2⟩
      · go_simp
        obtain ⟨A1, hA1⟩ : ∃ X, X = C0.alloc (.cells #[.int .i64 0, .int .i64 0, .int .i64 0, .int .i64 0, .slice none 0 0, .slice none 0 0, .int .i64 0] 27) := ⟨_, rfl⟩
        rw [← hA1]
        have bA1' : Below C0.heap.size C0 A1 := by rw [hA1]; exact (Below.refl _ _).alloc (Nat.le_refl _) _
        have bA1 : Below w1.heap.size w1 A1 := bC0.trans (bA1'.mono bC0.size)
        have zA1 : BT A1 C0.heap.size ⟨none, 0, none, 0⟩ ⟨0, 0, 0, 0, [], [], 0⟩ := by rw [hA1]; exact BT.zero C0 _
        have lA1 : w1.heap.size ≤ C0.heap.size := bC0.size
        refine hK.out _ _ (fun _ => SF.out _ bA1) ?_
        clear hK K
        have hS := SF.out _ bA1
        clear hA1
        have sT := sT.later bA1'
        refine wpZ_ready (rs := [3]) (by kernel_rfl) (by simp) ?_
        refine AllZ.cons rfl (fun K hK => ?_) AllZ.nil
        go_simp
        refine (CN.out A1).mono ?_
        rintro e C2 ⟨rfl, bC2'⟩
        have sT := sT.later bC2'
        have bC2 : Below w1.heap.size w1 C2 := bA1.trans (bC2'.mono bA1.size)
        have yC2 := zA1.later bC2'
        refine hK.out _ _ (fun _ => SF.out _ bC2) ?_
        clear hK K
        have hS := SF.out _ bC2
        refine wpZ_ready (rs := [4]) (by kernel_rfl) (by simp) ?_
        refine AllZ.cons rfl (fun K hK => ?_) AllZ.nil
        go_simp
        refine (CS.out C2 a2 c2 h2 d2 sT hcT).mono ?_
        rintro e C3 ⟨ya, yk, yh, yd, QR, QS, rfl, oA, bC3'⟩
        have hne : ∀ x, OfT QR QS x → x ≠ C0.heap.size := fun x hx => by have := (oA.of hx).1; have := yC2.lt; omega
        have bC3 : Below w1.heap.size w1 C3 := bC2.trans (bC3'.mono bC2.size)
        have yC3 := yC2.later bC3'
        refine hK.out _ _ (fun _ => SF.out _ bC3) ?_
        clear hK K
        have hS := SF.out _ bC3
        refine wpZ_takeP (i := 5) (v := ?_) rfl (by kernel_rfl) (fun _ _ _ h => h) (Or.inl ⟨by rfl, ?_⟩) hS ?_
        rotate_left
        · (intro X _; go_simp; first | done | with_reducible rfl)
        simp only [Act.put]
        refine wpZ_takeP (i := 6) (v := ?_) rfl (by kernel_rfl) (fun _ _ _ h => h) (Or.inl ⟨by rfl, ?_⟩) hS ?_
        rotate_left
        · (intro X _; go_simp; first | done | with_reducible rfl)
        simp only [Act.put]
        refine wpZ_takeP (i := 7) (v := ?_) rfl (by kernel_rfl) (fun _ _ _ h => h) (Or.inl ⟨by rfl, ?_⟩) hS ?_
        rotate_left
        · (intro X _; go_simp; first | done | with_reducible rfl)
        simp only [Act.put]
        have KZ := hidOf yC3
        obtain ⟨r0, r1, r2, r3, r4, r5, r6, fr, -⟩ := KZ.out
        have f0 := fr 0
        have f1 := fr 1
        have f2 := fr 2
        have f3 := fr 3
        have f4 := fr 4
        have f5 := fr 5
        have f6 := fr 6
        clear fr
        dsimp only at r4 r5
        refine wpZ_ready (rs := [9]) (by kernel_rfl) (by simp) ?_
        refine AllZ.cons rfl (fun K hK => ?_) AllZ.nil
        go_simp
        refine hK.out _ _ (fun h => absurd (show false = true from h.symm.trans (by kernel_rfl)) (by decide)) ?_
        clear hK K
        refine wpZ_ready (rs := [10]) (by kernel_rfl) (by simp) ?_
        refine AllZ.cons rfl (fun K hK => ?_) AllZ.nil
        go_simp
        refine hK.out _ _ (fun h => absurd (show false = true from h.symm.trans (by kernel_rfl)) (by decide)) ?_
        clear hK K
        refine wpZ_done (by kernel_rfl) ?_ _
        go_wp2_with fail
        go_meet
        exact ⟨C0.heap.size, ya, yk, yh, yd, rfl, rfl, BT.put KZ.out ⟨ya, yk, yh, yd⟩ N, (oA.keep (w' := putT C3 (C0.heap.size) ⟨ya, yk, yh, yd⟩ N) (by rw [putT_size]; exact Nat.le_refl _) (fun x _ hx => putT_block (hne x hx))).sl, putT_below (s := C0.heap.size) (v := ⟨ya, yk, yh, yd⟩) (t := N) bC3 lA1⟩
    · go_simp
      obtain ⟨A0, hA0⟩ : ∃ X, X = Wd.alloc (.cells #[.int .i64 0, .int .i64 0, .int .i64 0, .int .i64 0, .slice none 0 0, .slice none 0 0, .int .i64 0] 27) := ⟨_, rfl⟩
      rw [← hA0]
      have bA0' : Below Wd.heap.size Wd A0 := by rw [hA0]; exact (Below.refl _ _).alloc (Nat.le_refl _) _
      have bA0 : Below w1.heap.size w1 A0 := bd.trans (bA0'.mono bd.size)
      have zA0 : BT A0 Wd.heap.size ⟨none, 0, none, 0⟩ ⟨0, 0, 0, 0, [], [], 0⟩ := by rw [hA0]; exact BT.zero Wd _
      have lA0 : w1.heap.size ≤ Wd.heap.size := bd.size
      refine hK.out _ _ (fun _ => SF.out _ bA0) ?_
      clear hK K
      have hS := SF.out _ bA0
      clear hA0
      refine wpZ_ready (rs := [1]) (by kernel_rfl) (by simp) ?_
      refine AllZ.cons rfl (fun K hK => ?_) AllZ.nil
      go_simp
      refine (T.out A0 (FB.out _ bA0).2.2).mono ?_
      rintro e C1 ⟨a2, c2, h2, d2, _, _, rfl, oT, bC1', -, hcT⟩
      simp only [TV.val]
      have sT := oT.sl
      clear oT
      have bC1 : Below w1.heap.size w1 C1 := bA0.trans (bC1'.mono bA0.size)
      have yC1 := zA0.later bC1'
      refine hK.out _ _ (fun _ => SF.out _ bC1) ?_
      clear hK K
      have hS := SF.out _ bC1
      refine wpZ_ready (rs := [3]) (by kernel_rfl) (by simp) ?_
      refine AllZ.cons rfl (fun K hK => ?_) AllZ.nil
      go_simp
      refine (CN.out C1).mono ?_
      rintro e C2 ⟨rfl, bC2'⟩
      have sT := sT.later bC2'
      have bC2 : Below w1.heap.size w1 C2 := bC1.trans (bC2'.mono bC1.size)
      have yC2 := yC1.later bC2'
      refine hK.out _ _ (fun _ => SF.out _ bC2) ?_
      clear hK K
      have hS := SF.out _ bC2
      refine wpZ_ready (rs := [4]) (by kernel_rfl) (by simp) ?_
      refine AllZ.cons rfl (fun K hK => ?_) AllZ.nil
      go_simp
      refine (CS.out C2 a2 c2 h2 d2 sT hcT).mono ?_
      rintro e C3 ⟨ya, yk, yh, yd, QR, QS, rfl, oA, bC3'⟩
      have hne : ∀ x, OfT QR QS x → x ≠ Wd.heap.size := fun x hx => by have := (oA.of hx).1; have := yC2.lt; omega
      have bC3 : Below w1.heap.size w1 C3 := bC2.trans (bC3'.mono bC2.size)
      have yC3 := yC2.later bC3'
      refine hK.out _ _ (fun _ => SF.out _ bC3) ?_
      clear hK K
      have hS := SF.out _ bC3
      refine wpZ_takeP (i := 5) (v := ?_) rfl (by kernel_rfl) (fun _ _ _ h => h) (Or.inl ⟨by rfl, ?_⟩) hS ?_
      rotate_left
      · (intro X _; go_simp; first | done | with_reducible rfl)
      simp only [Act.put]
      refine wpZ_takeP (i := 6) (v := ?_) rfl (by kernel_rfl) (fun _ _ _ h => h) (Or.inl ⟨by rfl, ?_⟩) hS ?_
      rotate_left
      · (intro X _; go_simp; first | done | with_reducible rfl)
      simp only [Act.put]
      refine wpZ_takeP (i := 7) (v := ?_) rfl (by kernel_rfl) (fun _ _ _ h => h) (Or.inl ⟨by rfl, ?_⟩) hS ?_
      rotate_left
      · (intro X _; go_simp; first | done | with_reducible rfl)
      simp only [Act.put]
      have KZ := hidOf yC3
      obtain ⟨r0, r1, r2, r3, r4, r5, r6, fr, -⟩ := KZ.out
      have f0 := fr 0
      have f1 := fr 1
      have f2 := fr 2
      have f3 := fr 3
      have f4 := fr 4
      have f5 := fr 5
      have f6 := fr 6
      clear fr
      dsimp only at r4 r5
      refine wpZ_ready (rs := [9]) (by kernel_rfl) (by simp) ?_
      refine AllZ.cons rfl (fun K hK => ?_) AllZ.nil
      go_simp
      refine hK.out _ _ (fun h => absurd (show false = true from h.symm.trans (by kernel_rfl)) (by decide)) ?_
      clear hK K
      refine wpZ_ready (rs := [10]) (by kernel_rfl) (by simp) ?_
      refine AllZ.cons rfl (fun K hK => ?_) AllZ.nil
      go_simp
      refine hK.out _ _ (fun h => absurd (show false = true from h.symm.trans (by kernel_rfl)) (by decide)) ?_
      clear hK K
      refine wpZ_done (by kernel_rfl) ?_ _
      go_wp2_with fail
      go_meet
      exact ⟨Wd.heap.size, ya, yk, yh, yd, rfl, rfl, BT.put KZ.out ⟨ya, yk, yh, yd⟩ N, (oA.keep (w' := putT C3 (Wd.heap.size) ⟨ya, yk, yh, yd⟩ N) (by rw [putT_size]; exact Nat.le_refl _) (fun x _ hx => putT_block (hne x hx))).sl, putT_below (s := Wd.heap.size) (v := ⟨ya, yk, yh, yd⟩) (t := N) bC3 lA0⟩
  case rest =>
  obtain ⟨q6, wa, wk, wh, wd, rfl, rfl, x6, s6, b6⟩ := hcut
  have F3 : Hid (∀ X, Below wc.heap.size wc X → BT X w.heap.size ⟨ar, cr, ah, ch⟩ t ∧ SetAt X (w.heap.size + 1) 0 n ∧ SlT X ⟨ar, cr, ah, ch⟩ t ∧ BT X q6 ⟨wa, wk, wh, wd⟩ N ∧ SlT X ⟨wa, wk, wh, wd⟩ N ∧ Below w.heap.size w X) := fun X hX => ⟨(S1.out.2.2.1.later b6).later hX, (S1.out.2.2.2.1.below b6 S1.out.2.2.2.2).below hX (Nat.lt_of_lt_of_le S1.out.2.2.2.2 b6.size), (S1.out.2.1.later b6).later hX, x6.later hX, s6.later hX, (S1.out.1.trans (b6.mono S1.out.1.size)).trans (hX.mono (Nat.le_trans S1.out.1.size b6.size))⟩
  clear x6 s6 b6 S1 d0 CS
  generalize wc = v3 at *
  obtain ⟨⟨p0, p1, p2, p3, p4, p5, p6, -, -⟩, -, sv, -⟩ := F3.out v3 (Below.refl _ _)
  dsimp only at p4 p5
  have c6 := T.out v3 sv
  clear sv
  go_wp2_with fail
  refine c6.mono ?_
  clear c6 p0 p1 p2 p3 p4 p5 p6
  rintro e w4 ⟨a4, c4, h4, d4, PR, PS, rfl, o4, b4, -, -⟩
  simp only [TV.val]
  have b5 : Below w4.heap.size w4 (w4.alloc (.cells #[.int .i64 t.id, .int .i64 t.home, .int .i64 t.phase, .int .i64 t.count, .slice a4 t.reads.length c4, .slice h4 t.sets.length d4, .int .i64 t.stamp] 27)) := (Below.refl _ _).alloc (Nat.le_refl _) _
  have F5 : Hid (Below v3.heap.size v3 (w4.alloc (.cells #[.int .i64 t.id, .int .i64 t.home, .int .i64 t.phase, .int .i64 t.count, .slice a4 t.reads.length c4, .slice h4 t.sets.length d4, .int .i64 t.stamp] 27)) ∧ OT (w4.alloc (.cells #[.int .i64 t.id, .int .i64 t.home, .int .i64 t.phase, .int .i64 t.count, .slice a4 t.reads.length c4, .slice h4 t.sets.length d4, .int .i64 t.stamp] 27)) v3.heap.size ⟨a4, c4, h4, d4⟩ t PR PS ∧ BT (w4.alloc (.cells #[.int .i64 t.id, .int .i64 t.home, .int .i64 t.phase, .int .i64 t.count, .slice a4 t.reads.length c4, .slice h4 t.sets.length d4, .int .i64 t.stamp] 27)) w4.heap.size ⟨a4, c4, h4, d4⟩ t ∧ (∀ q, OfT PR PS q → q < w4.heap.size) ∧ v3.heap.size ≤ w4.heap.size) := ⟨b4.trans (b5.mono b4.size), o4.later b5, BT.box w4 ⟨a4, c4, h4, d4⟩ t _, fun q hq => (o4.of hq).2, b4.size⟩
  clear b4 o4 b5
  go_upto_region 7 with fail
  generalize w4.alloc (.cells #[.int .i64 t.id, .int .i64 t.home, .int .i64 t.phase, .int .i64 t.count, .slice a4 t.reads.length c4, .slice h4 t.sets.length d4, .int .i64 t.stamp] 27) = w5 at *
  go_cut [9, 10] from 31 to 37 (fun s9 s10 wx => Gx w5 wx s9 s10 N ok)
  case first =>
    have bd : Below w5.heap.size w5 w5.drew := (Below.refl _ _).drew
    have SF : Hid (∀ X, Below w5.heap.size w5 X → (fun X : World => BT X w4.heap.size ⟨a4, c4, h4, d4⟩ t ∧ SetAt X (w.heap.size + 1) 0 n) X) := fun X hX => ⟨F5.out.2.2.1.later hX, (F3.out X (F5.out.1.trans (hX.mono F5.out.1.size))).2.1⟩
    have hS : (fun X : World => BT X w4.heap.size ⟨a4, c4, h4, d4⟩ t ∧ SetAt X (w.heap.size + 1) 0 n) w5.drew := SF.out _ bd
    have sT := (F5.out.2.1.later bd).sl
    refine wp_region_z (fun z => z == 8) (fun X : World => BT X w4.heap.size ⟨a4, c4, h4, d4⟩ t ∧ SetAt X (w.heap.size + 1) 0 n) (by kernel_rfl) ?_
    generalize w5.drew = Wd at *
    refine wpZ_take (i := 0) (v := ?_) rfl (by kernel_rfl) (fun _ _ _ h => h) (Or.inl ⟨by rfl, ?_⟩) hS ?_
    rotate_left
    · (intro X hSw; obtain ⟨⟨p0, p1, p2, p3, p4, p5, p6, -, -⟩, -⟩ := hSw; dsimp only at p4 p5; go_simp; first | done | with_reducible rfl)
    simp only [Act.put]
    refine wpZ_take (i := 1) (v := ?_) rfl (by kernel_rfl) (fun _ _ _ h => h) (Or.inl ⟨by rfl, ?_⟩) hS ?_
    rotate_left
    · (intro X hSw; obtain ⟨-, ⟨n0, n1, n2, n3, n4⟩⟩ := hSw; simp only [Nat.zero_add] at n1 n2 n3 n4; go_simp; first | done | with_reducible rfl)
    simp only [Act.put]
    refine wpZ_ready (rs := [2, 7]) (by kernel_rfl) (by simp) ?_
    refine AllZ.cons rfl (fun K hK => ?_) (AllZ.cons rfl (fun K hK => ?_) AllZ.nil)
    · go_simp
      refine (CN.out Wd).mono ?_
      rintro e C0 ⟨rfl, bC0'⟩
      have sT := sT.later bC0'
      have bC0 : Below w5.heap.size w5 C0 := bd.trans (bC0'.mono bd.size)
      refine hK.out _ _ (fun _ => SF.out _ bC0) ?_
      clear hK K
      have hS := SF.out _ bC0
      refine wpZ_ready (rs := [3, 7]) (by kernel_rfl) (by simp) ?_
      refine AllZ.cons rfl (fun K hK => ?_) (AllZ.cons rfl (fun K hK => ?_) AllZ.nil)
      · go_simp
        refine (CI.out C0 a4 c4 h4 d4 sT).mono ?_
        rintro e C1 ⟨ya, yk, yh, yd, QR, QS, rfl, oA, bC1'⟩
        have lowA : ∀ x, OfT QR QS x → w5.heap.size ≤ x := fun x hx => Nat.le_trans bC0.size (oA.of hx).1
        have bC1 : Below w5.heap.size w5 C1 := bC0.trans (bC1'.mono bC0.size)
        refine hK.out _ _ (fun _ => SF.out _ bC1) ?_
        clear hK K
        have hS := SF.out _ bC1
        refine wpZ_takeP (i := 4) (v := ?_) rfl (by kernel_rfl) (fun _ _ _ h => h) (Or.inl ⟨by rfl, ?_⟩) hS ?_
        rotate_left
        · (intro X _; go_simp; first | done | with_reducible rfl)
        simp only [Act.put]
        refine wpZ_takeP (i := 5) (v := ?_) rfl (by kernel_rfl) (fun _ _ _ h => h) (Or.inl ⟨by rfl, ?_⟩) hS ?_
        rotate_left
        · (intro X _; go_simp; first | done | with_reducible rfl)
        simp only [Act.put]
        refine wpZ_takeP (i := 6) (v := ?_) rfl (by kernel_rfl) (fun _ _ _ h => h) (Or.inl ⟨by rfl, ?_⟩) hS ?_
        rotate_left
        · (intro X _; go_simp; first | done | with_reducible rfl)
        simp only [Act.put]
        refine wpZ_ready (rs := [7]) (by kernel_rfl) (by simp) ?_
        refine AllZ.cons rfl (fun K hK => ?_) AllZ.nil
        go_simp
        obtain ⟨A2, hA2⟩ : ∃ X, X = C1.alloc (.cells #[.int .i64 0, .int .i64 0, .int .i64 0, .int .i64 0, .slice none 0 0, .slice none 0 0, .int .i64 0] 27) := ⟨_, rfl⟩
        rw [← hA2]
        have bA2' : Below C1.heap.size C1 A2 := by rw [hA2]; exact (Below.refl _ _).alloc (Nat.le_refl _) _
        have bA2 : Below w5.heap.size w5 A2 := bC1.trans (bA2'.mono bC1.size)
        have zA2 : BT A2 C1.heap.size ⟨none, 0, none, 0⟩ ⟨0, 0, 0, 0, [], [], 0⟩ := by rw [hA2]; exact BT.zero C1 _
        have lA2 : w5.heap.size ≤ C1.heap.size := bC1.size
        refine hK.out _ _ (fun _ => SF.out _ bA2) ?_
        clear hK K
        have hS := SF.out _ bA2
        clear hA2
        have hne : ∀ x, OfT QR QS x → x ≠ C1.heap.size := fun x hx => by have := (oA.of hx).2; omega
        have oA := oA.later bA2'
        have KZ := hidOf zA2
        obtain ⟨r0, r1, r2, r3, r4, r5, r6, fr, -⟩ := KZ.out
        have f0 := fr 0
        have f1 := fr 1
        have f2 := fr 2
        have f3 := fr 3
        have f4 := fr 4
        have f5 := fr 5
        have f6 := fr 6
        clear fr
        dsimp only at r4 r5
        refine wpZ_ready (rs := [8]) (by kernel_rfl) (by simp) ?_
        refine AllZ.cons rfl (fun K hK => ?_) AllZ.nil
        go_simp
        refine hK.out _ _ (fun h => absurd (show false = true from h.symm.trans (by kernel_rfl)) (by decide)) ?_
        clear hK K
        refine wpZ_ready (rs := [9]) (by kernel_rfl) (by simp) ?_
        refine AllZ.cons rfl (fun K hK => ?_) AllZ.nil
        go_simp
        refine hK.out _ _ (fun h => absurd (show false = true from h.symm.trans (by kernel_rfl)) (by decide)) ?_
        clear hK K
        refine wpZ_done (by kernel_rfl) ?_ _
        go_wp2_with fail
        go_meet
        exact ⟨C1.heap.size, ya, yk, yh, yd, QR, QS, rfl, rfl, BT.put KZ.out ⟨ya, yk, yh, yd⟩ N, (oA.keep (w' := putT A2 (C1.heap.size) ⟨ya, yk, yh, yd⟩ N) (by rw [putT_size]; exact Nat.le_refl _) (fun x _ hx => putT_block (hne x hx))).low (fun x hx => by have := lowA x hx; omega), hne, lA2, putT_below (s := C1.heap.size) (v := ⟨ya, yk, yh, yd⟩) (t := N) bA2 lA2⟩
      · go_simp
        obtain ⟨A1, hA1⟩ : ∃ X, X = C0.alloc (.cells #[.int .i64 0, .int .i64 0, .int .i64 0, .int .i64 0, .slice none 0 0, .slice none 0 0, .int .i64 0] 27) := ⟨_, rfl⟩
        rw [← hA1]
        have bA1' : Below C0.heap.size C0 A1 := by rw [hA1]; exact (Below.refl _ _).alloc (Nat.le_refl _) _
        have bA1 : Below w5.heap.size w5 A1 := bC0.trans (bA1'.mono bC0.size)
        have zA1 : BT A1 C0.heap.size ⟨none, 0, none, 0⟩ ⟨0, 0, 0, 0, [], [], 0⟩ := by rw [hA1]; exact BT.zero C0 _
        have lA1 : w5.heap.size ≤ C0.heap.size := bC0.size
        refine hK.out _ _ (fun _ => SF.out _ bA1) ?_
        clear hK K
        have hS := SF.out _ bA1
        clear hA1
        have sT := sT.later bA1'
        refine wpZ_ready (rs := [3]) (by kernel_rfl) (by simp) ?_
        refine AllZ.cons rfl (fun K hK => ?_) AllZ.nil
        go_simp
        refine (CI.out A1 a4 c4 h4 d4 sT).mono ?_
        rintro e C2 ⟨ya, yk, yh, yd, QR, QS, rfl, oA, bC2'⟩
        have hne : ∀ x, OfT QR QS x → x ≠ C0.heap.size := fun x hx => by have := (oA.of hx).1; have := zA1.lt; omega
        have lowA : ∀ x, OfT QR QS x → w5.heap.size ≤ x := fun x hx => Nat.le_trans bA1.size (oA.of hx).1
        have bC2 : Below w5.heap.size w5 C2 := bA1.trans (bC2'.mono bA1.size)
        have yC2 := zA1.later bC2'
        refine hK.out _ _ (fun _ => SF.out _ bC2) ?_
        clear hK K
        have hS := SF.out _ bC2
        refine wpZ_takeP (i := 4) (v := ?_) rfl (by kernel_rfl) (fun _ _ _ h => h) (Or.inl ⟨by rfl, ?_⟩) hS ?_
        rotate_left
        · (intro X _; go_simp; first | done | with_reducible rfl)
        simp only [Act.put]
        refine wpZ_takeP (i := 5) (v := ?_) rfl (by kernel_rfl) (fun _ _ _ h => h) (Or.inl ⟨by rfl, ?_⟩) hS ?_
        rotate_left
        · (intro X _; go_simp; first | done | with_reducible rfl)
        simp only [Act.put]
        refine wpZ_takeP (i := 6) (v := ?_) rfl (by kernel_rfl) (fun _ _ _ h => h) (Or.inl ⟨by rfl, ?_⟩) hS ?_
        rotate_left
        · (intro X _; go_simp; first | done | with_reducible rfl)
        simp only [Act.put]
        have KZ := hidOf yC2
        obtain ⟨r0, r1, r2, r3, r4, r5, r6, fr, -⟩ := KZ.out
        have f0 := fr 0
        have f1 := fr 1
        have f2 := fr 2
        have f3 := fr 3
        have f4 := fr 4
        have f5 := fr 5
        have f6 := fr 6
        clear fr
        dsimp only at r4 r5
        refine wpZ_ready (rs := [8]) (by kernel_rfl) (by simp) ?_
        refine AllZ.cons rfl (fun K hK => ?_) AllZ.nil
        go_simp
        refine hK.out _ _ (fun h => absurd (show false = true from h.symm.trans (by kernel_rfl)) (by decide)) ?_
        clear hK K
        refine wpZ_ready (rs := [9]) (by kernel_rfl) (by simp) ?_
        refine AllZ.cons rfl (fun K hK => ?_) AllZ.nil
        go_simp
        refine hK.out _ _ (fun h => absurd (show false = true from h.symm.trans (by kernel_rfl)) (by decide)) ?_
        clear hK K
        refine wpZ_done (by kernel_rfl) ?_ _
        go_wp2_with fail
        go_meet
        exact ⟨C0.heap.size, ya, yk, yh, yd, QR, QS, rfl, rfl, BT.put KZ.out ⟨ya, yk, yh, yd⟩ N, (oA.keep (w' := putT C2 (C0.heap.size) ⟨ya, yk, yh, yd⟩ N) (by rw [putT_size]; exact Nat.le_refl _) (fun x _ hx => putT_block (hne x hx))).low (fun x hx => by have := lowA x hx; omega), hne, lA1, putT_below (s := C0.heap.size) (v := ⟨ya, yk, yh, yd⟩) (t := N) bC2 lA1⟩
    · go_simp
      obtain ⟨A0, hA0⟩ : ∃ X, X = Wd.alloc (.cells #[.int .i64 0, .int .i64 0, .int .i64 0, .int .i64 0, .slice none 0 0, .slice none 0 0, .int .i64 0] 27) := ⟨_, rfl⟩
      rw [← hA0]
      have bA0' : Below Wd.heap.size Wd A0 := by rw [hA0]; exact (Below.refl _ _).alloc (Nat.le_refl _) _
      have bA0 : Below w5.heap.size w5 A0 := bd.trans (bA0'.mono bd.size)
      have zA0 : BT A0 Wd.heap.size ⟨none, 0, none, 0⟩ ⟨0, 0, 0, 0, [], [], 0⟩ := by rw [hA0]; exact BT.zero Wd _
      have lA0 : w5.heap.size ≤ Wd.heap.size := bd.size
      refine hK.out _ _ (fun _ => SF.out _ bA0) ?_
      clear hK K
      have hS := SF.out _ bA0
      clear hA0
      have sT := sT.later bA0'
      refine wpZ_ready (rs := [2]) (by kernel_rfl) (by simp) ?_
      refine AllZ.cons rfl (fun K hK => ?_) AllZ.nil
      go_simp
      refine (CN.out A0).mono ?_
      rintro e C1 ⟨rfl, bC1'⟩
      have sT := sT.later bC1'
      have bC1 : Below w5.heap.size w5 C1 := bA0.trans (bC1'.mono bA0.size)
      have yC1 := zA0.later bC1'
      refine hK.out _ _ (fun _ => SF.out _ bC1) ?_
      clear hK K
      have hS := SF.out _ bC1
      refine wpZ_ready (rs := [3]) (by kernel_rfl) (by simp) ?_
      refine AllZ.cons rfl (fun K hK => ?_) AllZ.nil
      go_simp
      refine (CI.out C1 a4 c4 h4 d4 sT).mono ?_
      rintro e C2 ⟨ya, yk, yh, yd, QR, QS, rfl, oA, bC2'⟩
      have hne : ∀ x, OfT QR QS x → x ≠ Wd.heap.size := fun x hx => by have := (oA.of hx).1; have := yC1.lt; omega
      have lowA : ∀ x, OfT QR QS x → w5.heap.size ≤ x := fun x hx => Nat.le_trans bC1.size (oA.of hx).1
      have bC2 : Below w5.heap.size w5 C2 := bC1.trans (bC2'.mono bC1.size)
      have yC2 := yC1.later bC2'
      refine hK.out _ _ (fun _ => SF.out _ bC2) ?_
      clear hK K
      have hS := SF.out _ bC2
      refine wpZ_takeP (i := 4) (v := ?_) rfl (by kernel_rfl) (fun _ _ _ h => h) (Or.inl ⟨by rfl, ?_⟩) hS ?_
      rotate_left
      · (intro X _; go_simp; first | done | with_reducible rfl)
      simp only [Act.put]
      refine wpZ_takeP (i := 5) (v := ?_) rfl (by kernel_rfl) (fun _ _ _ h => h) (Or.inl ⟨by rfl, ?_⟩) hS ?_
      rotate_left
      · (intro X _; go_simp; first | done | with_reducible rfl)
      simp only [Act.put]
      refine wpZ_takeP (i := 6) (v := ?_) rfl (by kernel_rfl) (fun _ _ _ h => h) (Or.inl ⟨by rfl, ?_⟩) hS ?_
      rotate_left
      · (intro X _; go_simp; first | done | with_reducible rfl)
      simp only [Act.put]
      have KZ := hidOf yC2
      obtain ⟨r0, r1, r2, r3, r4, r5, r6, fr, -⟩ := KZ.out
      have f0 := fr 0
      have f1 := fr 1
      have f2 := fr 2
      have f3 := fr 3
      have f4 := fr 4
      have f5 := fr 5
      have f6 := fr 6
      clear fr
      dsimp only at r4 r5
      refine wpZ_ready (rs := [8]) (by kernel_rfl) (by simp) ?_
      refine AllZ.cons rfl (fun K hK => ?_) AllZ.nil
      go_simp
      refine hK.out _ _ (fun h => absurd (show false = true from h.symm.trans (by kernel_rfl)) (by decide)) ?_
      clear hK K
      refine wpZ_ready (rs := [9]) (by kernel_rfl) (by simp) ?_
      refine AllZ.cons rfl (fun K hK => ?_) AllZ.nil
      go_simp
      refine hK.out _ _ (fun h => absurd (show false = true from h.symm.trans (by kernel_rfl)) (by decide)) ?_
      clear hK K
      refine wpZ_done (by kernel_rfl) ?_ _
      go_wp2_with fail
      go_meet
      exact ⟨Wd.heap.size, ya, yk, yh, yd, QR, QS, rfl, rfl, BT.put KZ.out ⟨ya, yk, yh, yd⟩ N, (oA.keep (w' := putT C2 (Wd.heap.size) ⟨ya, yk, yh, yd⟩ N) (by rw [putT_size]; exact Nat.le_refl _) (fun x _ hx => putT_block (hne x hx))).low (fun x hx => by have := lowA x hx; omega), hne, lA0, putT_below (s := Wd.heap.size) (v := ⟨ya, yk, yh, yd⟩) (t := N) bC2 lA0⟩
  case rest =>
  obtain ⟨q9, ga, gc, gh, gd, QR, QS, rfl, rfl, x9, o9, hne, l9, b9⟩ := hcut
  have G7 : Hid (Below v3.heap.size v3 wc ∧ BT wc q9 ⟨ga, gc, gh, gd⟩ N ∧ OT wc w5.heap.size ⟨ga, gc, gh, gd⟩ N QR QS ∧ (∀ x, OfT QR QS x → x ≠ q9) ∧ w5.heap.size ≤ q9 ∧ Below w5.heap.size w5 wc) := ⟨F5.out.1.trans (b9.mono F5.out.1.size), x9, o9, hne, l9, b9⟩
  clear x9 o9 hne l9 b9
  generalize wc = v7 at *
  obtain ⟨g0, g1, g2, g3, g4, g5, g6, -, -⟩ := G7.out.2.1
  obtain ⟨y0, y1, y2, y3, y4, y5, y6, -, -⟩ := (F3.out v7 G7.out.1).2.2.2.1
  dsimp only at g4 g5
  dsimp only at y4 y5
  have c8 := CE.out v7 ga gc gh gd wa wk wh wd G7.out.2.2.1.sl (F3.out v7 G7.out.1).2.2.2.2.1
  go_wp2_with fail
  refine c8.mono ?_
  clear g0 g1 g2 g3 g4 g5 g6
  clear y0 y1 y2 y3 y4 y5 y6
  clear c8
  rintro e w8 ⟨rfl, b8⟩
  have G8 : Hid (Below v3.heap.size v3 w8 ∧ Below v7.heap.size v7 w8) := ⟨G7.out.1.trans (b8.mono G7.out.1.size), b8⟩
  clear b8
  go_upto_region 10 with fail
  go_cut [51] from 47 to 51 (fun s0 wx => s0 = .bool false ∧ Below w8.heap.size w8 wx)
  case first =>
    have bd : Below w8.heap.size w8 w8.drew := (Below.refl _ _).drew
    have b5d : Below w5.heap.size w5 w8.drew := (G7.out.2.2.2.2.2.trans (G8.out.2.mono G7.out.2.2.2.2.2.size)).trans (bd.mono (Nat.le_trans G7.out.2.2.2.2.2.size G8.out.2.size))
    have b3d : Below v3.heap.size v3 w8.drew := G8.out.1.trans (bd.mono G8.out.1.size)
    obtain ⟨⟨p0, p1, p2, p3, p4, p5, p6, -, -⟩, -, sd, -⟩ := F3.out w8.drew b3d
    dsimp only at p4 p5
    obtain ⟨e0, e1, e2, e3, e4, e5, e6, -, h47⟩ := F5.out.2.2.1.later b5d
    dsimp only at e4 e5
    have s5d := hidOf (F5.out.2.1.later b5d).sl
    have KB := hidOf bd
    clear b5d b3d bd
    go_region_with (first
      | (go_at_call 24
         refine (T.out w8.drew sd).mono ?_
         rintro e w9 ⟨a7, c7, h7, d7, _, _, rfl, o9, b9, -, -⟩
         simp only [TV.val]
         have e0' : w9.cell? ⟨w4.heap.size, 0, none⟩ = some (.int .i64 t.id) := (b9.cell (p := ⟨w4.heap.size, 0, none⟩) h47).trans e0
         have e1' : w9.cell? ⟨w4.heap.size, 1, none⟩ = some (.int .i64 t.home) := (b9.cell (p := ⟨w4.heap.size, 1, none⟩) h47).trans e1
         have e2' : w9.cell? ⟨w4.heap.size, 2, none⟩ = some (.int .i64 t.phase) := (b9.cell (p := ⟨w4.heap.size, 2, none⟩) h47).trans e2
         have e3' : w9.cell? ⟨w4.heap.size, 3, none⟩ = some (.int .i64 t.count) := (b9.cell (p := ⟨w4.heap.size, 3, none⟩) h47).trans e3
         have e4' : w9.cell? ⟨w4.heap.size, 4, none⟩ = some (.slice a4 t.reads.length c4) := (b9.cell (p := ⟨w4.heap.size, 4, none⟩) h47).trans e4
         have e5' : w9.cell? ⟨w4.heap.size, 5, none⟩ = some (.slice h4 t.sets.length d4) := (b9.cell (p := ⟨w4.heap.size, 5, none⟩) h47).trans e5
         have e6' : w9.cell? ⟨w4.heap.size, 6, none⟩ = some (.int .i64 t.stamp) := (b9.cell (p := ⟨w4.heap.size, 6, none⟩) h47).trans e6
         have S8 : Hid (SlT w9 ⟨a4, c4, h4, d4⟩ t ∧ SlT w9 ⟨a7, c7, h7, d7⟩ t ∧ Below w8.heap.size w8 w9) := ⟨s5d.out.later b9, o9.sl, KB.out.trans (b9.mono KB.out.size)⟩
         clear o9 b9)
      | (go_at_call 26
         refine (CQ.out w9 a4 c4 h4 d4 a7 c7 h7 d7 S8.out.1 S8.out.2.1).mono ?_
         rintro e w9' ⟨rfl, b9⟩))
    all_goals (
      go_wp2_with fail
      go_meet
      exact ⟨rfl, S8.out.2.2.trans (b9.mono S8.out.2.2.size)⟩)
  case rest =>
  obtain ⟨rfl, bx⟩ := hcut
  have G9 : Hid (Below v3.heap.size v3 wc ∧ Below v7.heap.size v7 wc) := ⟨G8.out.1.trans (bx.mono G8.out.1.size), G8.out.2.trans (bx.mono G8.out.2.size)⟩
  clear bx G8 CQ
  generalize wc = v9 at *
  have b59 : Below w5.heap.size w5 v9 := G7.out.2.2.2.2.2.trans (G9.out.2.mono G7.out.2.2.2.2.2.size)
  obtain ⟨g0, g1, g2, g3, g4, g5, g6, -, -⟩ := F5.out.2.2.1.later b59
  dsimp only at g4 g5
  have c13 := CK.out v9 v3.heap.size a4 c4 h4 d4 PR PS (F5.out.2.1.later b59)
  clear b59
  go_wp2_with fail
  refine c13.mono ?_
  clear g0 g1 g2 g3 g4 g5 g6
  clear c13
  rintro e w10 ⟨rfl, kp⟩
  have G10 : Hid (Below v3.heap.size v3 w10 ∧ BT w10 q9 ⟨ga, gc, gh, gd⟩ N ∧ OT w10 w5.heap.size ⟨ga, gc, gh, gd⟩ N QR QS) := by
    have bk : Below v3.heap.size v9 w10 := kp.below (fun q hq => (F5.out.2.1.of hq).1) G9.out.1.size
    have hlt : ∀ q, OfT PR PS q → q < w5.heap.size := fun q hq => (F5.out.2.1.of hq).2
    have x9 := G7.out.2.1.later G9.out.2
    refine ⟨G9.out.1.trans bk, x9.of_block (kp.block _ x9.lt (fun e => by have := hlt _ e; have := G7.out.2.2.2.2.1; omega)) kp.size, (G7.out.2.2.1.later G9.out.2).keep kp.size (fun q hq hp => kp.block q hq (fun e => by have := hlt _ e; have := (G7.out.2.2.1.of hp).1; omega))⟩
  clear kp G9 CK
  obtain ⟨g0, g1, g2, g3, g4, g5, g6, -, -⟩ := G10.out.2.1
  obtain ⟨y0, y1, y2, y3, y4, y5, y6, -, -⟩ := (F3.out w10 G10.out.1).2.2.2.1
  dsimp only at g4 g5
  dsimp only at y4 y5
  have c14 := CE.out w10 ga gc gh gd wa wk wh wd G10.out.2.2.sl (F3.out w10 G10.out.1).2.2.2.2.1
  go_wp2_with fail
  refine c14.mono ?_
  clear g0 g1 g2 g3 g4 g5 g6
  clear y0 y1 y2 y3 y4 y5 y6
  clear c14
  rintro e w11 ⟨rfl, b11⟩
  have G11 : Hid (Below v3.heap.size v3 w11 ∧ BT w11 q9 ⟨ga, gc, gh, gd⟩ N ∧ OT w11 w5.heap.size ⟨ga, gc, gh, gd⟩ N QR QS) := ⟨G10.out.1.trans (b11.mono G10.out.1.size), G10.out.2.1.later b11, G10.out.2.2.later b11⟩
  clear b11 G10
  obtain ⟨g0, g1, g2, g3, g4, g5, g6, -, -⟩ := G11.out.2.1
  dsimp only at g4 g5
  have c17 := CM.out w11 w5.heap.size ga gc gh gd QR QS G11.out.2.2
  go_wp2_with fail
  refine c17.mono ?_
  clear g0 g1 g2 g3 g4 g5 g6
  clear c17
  rintro e w12 ⟨rfl, k12, o12⟩
  have G12 : Hid (Below v3.heap.size v3 w12 ∧ BT w12 q9 ⟨ga, gc, gh, gd⟩ N ∧ SlT w12 ⟨ga, gc, gh, gd⟩ (mkT N 1)) := by
    have bk : Below v3.heap.size w11 w12 := k12.below (fun q hq => by have := (G11.out.2.2.of hq).1; have := F5.out.1.size; omega) G11.out.1.size
    exact ⟨G11.out.1.trans bk, G11.out.2.1.of_block (k12.block _ G11.out.2.1.lt (fun e => G7.out.2.2.2.1 _ e rfl)) k12.size, o12.sl⟩
  clear k12 o12 G11 CM
  obtain ⟨g0, g1, g2, g3, g4, g5, g6, -, -⟩ := G12.out.2.1
  dsimp only at g4 g5
  have c19 := CH.out w12 ga gc gh gd G12.out.2.2
  go_wp2_with fail
  refine c19.mono ?_
  clear g0 g1 g2 g3 g4 g5 g6
  clear c19
  rintro e w13 ⟨rfl, b13⟩
  have G13 : Hid (Below v3.heap.size v3 w13 ∧ BT w13 q9 ⟨ga, gc, gh, gd⟩ N ∧ SlT w13 ⟨ga, gc, gh, gd⟩ (mkT N 1)) := ⟨G12.out.1.trans (b13.mono G12.out.1.size), G12.out.2.1.later b13, G12.out.2.2.later b13⟩
  clear b13 G12
  go_upto_region 24 with fail
  go_cut [14, 15] from 79 to 86 (fun s6 s7 wx => Bx w13 wx s6 s7 N ok)
  case first =>
    have FB : Hid (∀ X, Below w13.heap.size w13 X → BT X w.heap.size ⟨ar, cr, ah, ch⟩ t ∧ SetAt X (w.heap.size + 1) 0 n ∧ SlT X ⟨ar, cr, ah, ch⟩ t) := fun X hX => ⟨(F3.out X (G13.out.1.trans (hX.mono G13.out.1.size))).1, (F3.out X (G13.out.1.trans (hX.mono G13.out.1.size))).2.1, (F3.out X (G13.out.1.trans (hX.mono G13.out.1.size))).2.2.1⟩
    have bd : Below w13.heap.size w13 w13.drew := (Below.refl _ _).drew
    have SF : Hid (∀ X, Below w13.heap.size w13 X → (fun X : World => BT X w.heap.size ⟨ar, cr, ah, ch⟩ t ∧ SetAt X (w.heap.size + 1) 0 n) X) := fun X hX => ⟨(FB.out X hX).1, (FB.out X hX).2.1⟩
    have hS : (fun X : World => BT X w.heap.size ⟨ar, cr, ah, ch⟩ t ∧ SetAt X (w.heap.size + 1) 0 n) w13.drew := SF.out _ bd
    refine wp_region_z (fun z => z == 9) (fun X : World => BT X w.heap.size ⟨ar, cr, ah, ch⟩ t ∧ SetAt X (w.heap.size + 1) 0 n) (by kernel_rfl) ?_
    generalize w13.drew = Wd at *
    refine wpZ_take (i := 0) (v := ?_) rfl (by kernel_rfl) (fun _ _ _ h => h) (Or.inl ⟨by rfl, ?_⟩) hS ?_
    rotate_left
    · (intro X hSw; obtain ⟨⟨p0, p1, p2, p3, p4, p5, p6, -, -⟩, -⟩ := hSw; dsimp only at p4 p5; go_simp; first | done | with_reducible rfl)
    simp only [Act.put]
    refine wpZ_take (i := 2) (v := ?_) rfl (by kernel_rfl) (fun _ _ _ h => h) (Or.inl ⟨by rfl, ?_⟩) hS ?_
    rotate_left
    · (intro X hSw; obtain ⟨-, ⟨n0, n1, n2, n3, n4⟩⟩ := hSw; simp only [Nat.zero_add] at n1 n2 n3 n4; go_simp; first | done | with_reducible rfl)
    simp only [Act.put]
    refine wpZ_ready (rs := [1, 8]) (by kernel_rfl) (by simp) ?_
    refine AllZ.cons rfl (fun K hK => ?_) (AllZ.cons rfl (fun K hK => ?_) AllZ.nil)
    · go_simp
      refine (T.out Wd (FB.out _ bd).2.2).mono ?_
      rintro e C0 ⟨a2, c2, h2, d2, _, _, rfl, oT, bC0', -, hcT⟩
      simp only [TV.val]
      have sT := oT.sl
      clear oT
      have bC0 : Below w13.heap.size w13 C0 := bd.trans (bC0'.mono bd.size)
      refine hK.out _ _ (fun _ => SF.out _ bC0) ?_
      clear hK K
      have hS := SF.out _ bC0
      refine wpZ_ready (rs := [3, 8]) (by kernel_rfl) (by simp) ?_
      refine AllZ.cons rfl (fun K hK => ?_) (AllZ.cons rfl (fun K hK => ?_) AllZ.nil)
      · go_simp
        refine (CN.out C0).mono ?_
        rintro e C1 ⟨rfl, bC1'⟩
        have sT := sT.later bC1'
        have bC1 : Below w13.heap.size w13 C1 := bC0.trans (bC1'.mono bC0.size)
        refine hK.out _ _ (fun _ => SF.out _ bC1) ?_
        clear hK K
        have hS := SF.out _ bC1
        refine wpZ_ready (rs := [4, 8]) (by kernel_rfl) (by simp) ?_
        refine AllZ.cons rfl (fun K hK => ?_) (AllZ.cons rfl (fun K hK => ?_) AllZ.nil)
        · go_simp
          refine (CI.out C1 a2 c2 h2 d2 sT).mono ?_
          rintro e C2 ⟨ya, yk, yh, yd, QR, QS, rfl, oA, bC2'⟩
          have bC2 : Below w13.heap.size w13 C2 := bC1.trans (bC2'.mono bC1.size)
          refine hK.out _ _ (fun _ => SF.out _ bC2) ?_
          clear hK K
          have hS := SF.out _ bC2
          refine wpZ_takeP (i := 5) (v := ?_) rfl (by kernel_rfl) (fun _ _ _ h => h) (Or.inl ⟨by rfl, ?_⟩) hS ?_
          rotate_left
          · (intro X _; go_simp; first | done | with_reducible rfl)
          simp only [Act.put]
          refine wpZ_takeP (i := 6) (v := ?_) rfl (by kernel_rfl) (fun _ _ _ h => h) (Or.inl ⟨by rfl, ?_⟩) hS ?_
          rotate_left
          · (intro X _; go_simp; first | done | with_reducible rfl)
          simp only [Act.put]
          refine wpZ_takeP (i := 7) (v := ?_) rfl (by kernel_rfl) (fun _ _ _ h => h) (Or.inl ⟨by rfl, ?_⟩) hS ?_
          rotate_left
          · (intro X _; go_simp; first | done | with_reducible rfl)
          simp only [Act.put]
          refine wpZ_ready (rs := [8]) (by kernel_rfl) (by simp) ?_
          refine AllZ.cons rfl (fun K hK => ?_) AllZ.nil
          go_simp
          obtain ⟨A3, hA3⟩ : ∃ X, X = C2.alloc (.cells #[.int .i64 0, .int .i64 0, .int .i64 0, .int .i64 0, .slice none 0 0, .slice none 0 0, .int .i64 0] 27) := ⟨_, rfl⟩
          rw [← hA3]
          have bA3' : Below C2.heap.size C2 A3 := by rw [hA3]; exact (Below.refl _ _).alloc (Nat.le_refl _) _
          have bA3 : Below w13.heap.size w13 A3 := bC2.trans (bA3'.mono bC2.size)
          have zA3 : BT A3 C2.heap.size ⟨none, 0, none, 0⟩ ⟨0, 0, 0, 0, [], [], 0⟩ := by rw [hA3]; exact BT.zero C2 _
          have lA3 : w13.heap.size ≤ C2.heap.size := bC2.size
          refine hK.out _ _ (fun _ => SF.out _ bA3) ?_
          clear hK K
          have hS := SF.out _ bA3
          clear hA3
          have hne : ∀ x, OfT QR QS x → x ≠ C2.heap.size := fun x hx => by have := (oA.of hx).2; omega
          have oA := oA.later bA3'
          have KZ := hidOf zA3
          obtain ⟨r0, r1, r2, r3, r4, r5, r6, fr, -⟩ := KZ.out
          have f0 := fr 0
          have f1 := fr 1
          have f2 := fr 2
          have f3 := fr 3
          have f4 := fr 4
          have f5 := fr 5
          have f6 := fr 6
          clear fr
          dsimp only at r4 r5
          refine wpZ_ready (rs := [9]) (by kernel_rfl) (by simp) ?_
          refine AllZ.cons rfl (fun K hK => ?_) AllZ.nil
          go_simp
          refine hK.out _ _ (fun h => absurd (show false = true from h.symm.trans (by kernel_rfl)) (by decide)) ?_
          clear hK K
          refine wpZ_ready (rs := [10]) (by kernel_rfl) (by simp) ?_
          refine AllZ.cons rfl (fun K hK => ?_) AllZ.nil
          go_simp
          refine hK.out _ _ (fun h => absurd (show false = true from h.symm.trans (by kernel_rfl)) (by decide)) ?_
          clear hK K
          refine wpZ_done (by kernel_rfl) ?_ _
          go_wp2_with fail
          go_meet
          exact ⟨C2.heap.size, ya, yk, yh, yd, rfl, rfl, BT.put KZ.out ⟨ya, yk, yh, yd⟩ N, (oA.keep (w' := putT A3 (C2.heap.size) ⟨ya, yk, yh, yd⟩ N) (by rw [putT_size]; exact Nat.le_refl _) (fun x _ hx => putT_block (hne x hx))).sl, putT_below (s := C2.heap.size) (v := ⟨ya, yk, yh, yd⟩) (t := N) bA3 lA3⟩
        · go_simp
          obtain ⟨A2, hA2⟩ : ∃ X, X = C1.alloc (.cells #[.int .i64 0, .int .i64 0, .int .i64 0, .int .i64 0, .slice none 0 0, .slice none 0 0, .int .i64 0] 27) := ⟨_, rfl⟩
          rw [← hA2]
          have bA2' : Below C1.heap.size C1 A2 := by rw [hA2]; exact (Below.refl _ _).alloc (Nat.le_refl _) _
          have bA2 : Below w13.heap.size w13 A2 := bC1.trans (bA2'.mono bC1.size)
          have zA2 : BT A2 C1.heap.size ⟨none, 0, none, 0⟩ ⟨0, 0, 0, 0, [], [], 0⟩ := by rw [hA2]; exact BT.zero C1 _
          have lA2 : w13.heap.size ≤ C1.heap.size := bC1.size
          refine hK.out _ _ (fun _ => SF.out _ bA2) ?_
          clear hK K
          have hS := SF.out _ bA2
          clear hA2
          have sT := sT.later bA2'
          refine wpZ_ready (rs := [4]) (by kernel_rfl) (by simp) ?_
          refine AllZ.cons rfl (fun K hK => ?_) AllZ.nil
          go_simp
          refine (CI.out A2 a2 c2 h2 d2 sT).mono ?_
          rintro e C3 ⟨ya, yk, yh, yd, QR, QS, rfl, oA, bC3'⟩
          have hne : ∀ x, OfT QR QS x → x ≠ C1.heap.size := fun x hx => by have := (oA.of hx).1; have := zA2.lt; omega
          have bC3 : Below w13.heap.size w13 C3 := bA2.trans (bC3'.mono bA2.size)
          have yC3 := zA2.later bC3'
          refine hK.out _ _ (fun _ => SF.out _ bC3) ?_
          clear hK K
          have hS := SF.out _ bC3
          refine wpZ_takeP (i := 5) (v := ?_) rfl (by kernel_rfl) (fun _ _ _ h => h) (Or.inl ⟨by rfl, ?_⟩) hS ?_
          rotate_left
          · (intro X _; go_simp; first | done | with_reducible rfl)
          simp only [Act.put]
          refine wpZ_takeP (i := 6) (v := ?_) rfl (by kernel_rfl) (fun _ _ _ h => h) (Or.inl ⟨by rfl, ?_⟩) hS ?_
          rotate_left
          · (intro X _; go_simp; first | done | with_reducible rfl)
          simp only [Act.put]
          refine wpZ_takeP (i := 7) (v := ?_) rfl (by kernel_rfl) (fun _ _ _ h => h) (Or.inl ⟨by rfl, ?_⟩) hS ?_
          rotate_left
          · (intro X _; go_simp; first | done | with_reducible rfl)
          simp only [Act.put]
          have KZ := hidOf yC3
          obtain ⟨r0, r1, r2, r3, r4, r5, r6, fr, -⟩ := KZ.out
          have f0 := fr 0
          have f1 := fr 1
          have f2 := fr 2
          have f3 := fr 3
          have f4 := fr 4
          have f5 := fr 5
          have f6 := fr 6
          clear fr
          dsimp only at r4 r5
          refine wpZ_ready (rs := [9]) (by kernel_rfl) (by simp) ?_
          refine AllZ.cons rfl (fun K hK => ?_) AllZ.nil
          go_simp
          refine hK.out _ _ (fun h => absurd (show false = true from h.symm.trans (by kernel_rfl)) (by decide)) ?_
          clear hK K
          refine wpZ_ready (rs := [10]) (by kernel_rfl) (by simp) ?_
          refine AllZ.cons rfl (fun K hK => ?_) AllZ.nil
          go_simp
          refine hK.out _ _ (fun h => absurd (show false = true from h.symm.trans (by kernel_rfl)) (by decide)) ?_
          clear hK K
          refine wpZ_done (by kernel_rfl) ?_ _
          go_wp2_with fail
          go_meet
          exact ⟨C1.heap.size, ya, yk, yh, yd, rfl, rfl, BT.put KZ.out ⟨ya, yk, yh, yd⟩ N, (oA.keep (w' := putT C3 (C1.heap.size) ⟨ya, yk, yh, yd⟩ N) (by rw [putT_size]; exact Nat.le_refl _) (fun x _ hx => putT_block (hne x hx))).sl, putT_below (s := C1.heap.size) (v := ⟨ya, yk, yh, yd⟩) (t := N) bC3 lA2⟩
      · go_simp
        obtain ⟨A1, hA1⟩ : ∃ X, X = C0.alloc (.cells #[.int .i64 0, .int .i64 0, .int .i64 0, .int .i64 0, .slice none 0 0, .slice none 0 0, .int .i64 0] 27) := ⟨_, rfl⟩
        rw [← hA1]
        have bA1' : Below C0.heap.size C0 A1 := by rw [hA1]; exact (Below.refl _ _).alloc (Nat.le_refl _) _
        have bA1 : Below w13.heap.size w13 A1 := bC0.trans (bA1'.mono bC0.size)
        have zA1 : BT A1 C0.heap.size ⟨none, 0, none, 0⟩ ⟨0, 0, 0, 0, [], [], 0⟩ := by rw [hA1]; exact BT.zero C0 _
        have lA1 : w13.heap.size ≤ C0.heap.size := bC0.size
        refine hK.out _ _ (fun _ => SF.out _ bA1) ?_
        clear hK K
        have hS := SF.out _ bA1
        clear hA1
        have sT := sT.later bA1'
        refine wpZ_ready (rs := [3]) (by kernel_rfl) (by simp) ?_
        refine AllZ.cons rfl (fun K hK => ?_) AllZ.nil
        go_simp
        refine (CN.out A1).mono ?_
        rintro e C2 ⟨rfl, bC2'⟩
        have sT := sT.later bC2'
        have bC2 : Below w13.heap.size w13 C2 := bA1.trans (bC2'.mono bA1.size)
        have yC2 := zA1.later bC2'
        refine hK.out _ _ (fun _ => SF.out _ bC2) ?_
        clear hK K
        have hS := SF.out _ bC2
        refine wpZ_ready (rs := [4]) (by kernel_rfl) (by simp) ?_
        refine AllZ.cons rfl (fun K hK => ?_) AllZ.nil
        go_simp
        refine (CI.out C2 a2 c2 h2 d2 sT).mono ?_
        rintro e C3 ⟨ya, yk, yh, yd, QR, QS, rfl, oA, bC3'⟩
        have hne : ∀ x, OfT QR QS x → x ≠ C0.heap.size := fun x hx => by have := (oA.of hx).1; have := yC2.lt; omega
        have bC3 : Below w13.heap.size w13 C3 := bC2.trans (bC3'.mono bC2.size)
        have yC3 := yC2.later bC3'
        refine hK.out _ _ (fun _ => SF.out _ bC3) ?_
        clear hK K
        have hS := SF.out _ bC3
        refine wpZ_takeP (i := 5) (v := ?_) rfl (by kernel_rfl) (fun _ _ _ h => h) (Or.inl ⟨by rfl, ?_⟩) hS ?_
        rotate_left
        · (intro X _; go_simp; first | done | with_reducible rfl)
        simp only [Act.put]
        refine wpZ_takeP (i := 6) (v := ?_) rfl (by kernel_rfl) (fun _ _ _ h => h) (Or.inl ⟨by rfl, ?_⟩) hS ?_
        rotate_left
        · (intro X _; go_simp; first | done | with_reducible rfl)
        simp only [Act.put]
        refine wpZ_takeP (i := 7) (v := ?_) rfl (by kernel_rfl) (fun _ _ _ h => h) (Or.inl ⟨by rfl, ?_⟩) hS ?_
        rotate_left
        · (intro X _; go_simp; first | done | with_reducible rfl)
        simp only [Act.put]
        have KZ := hidOf yC3
        obtain ⟨r0, r1, r2, r3, r4, r5, r6, fr, -⟩ := KZ.out
        have f0 := fr 0
        have f1 := fr 1
        have f2 := fr 2
        have f3 := fr 3
        have f4 := fr 4
        have f5 := fr 5
        have f6 := fr 6
        clear fr
        dsimp only at r4 r5
        refine wpZ_ready (rs := [9]) (by kernel_rfl) (by simp) ?_
        refine AllZ.cons rfl (fun K hK => ?_) AllZ.nil
        go_simp
        refine hK.out _ _ (fun h => absurd (show false = true from h.symm.trans (by kernel_rfl)) (by decide)) ?_
        clear hK K
        refine wpZ_ready (rs := [10]) (by kernel_rfl) (by simp) ?_
        refine AllZ.cons rfl (fun K hK => ?_) AllZ.nil
        go_simp
        refine hK.out _ _ (fun h => absurd (show false = true from h.symm.trans (by kernel_rfl)) (by decide)) ?_
        clear hK K
        refine wpZ_done (by kernel_rfl) ?_ _
        go_wp2_with fail
        go_meet
        exact ⟨C0.heap.size, ya, yk, yh, yd, rfl, rfl, BT.put KZ.out ⟨ya, yk, yh, yd⟩ N, (oA.keep (w' := putT C3 (C0.heap.size) ⟨ya, yk, yh, yd⟩ N) (by rw [putT_size]; exact Nat.le_refl _) (fun x _ hx => putT_block (hne x hx))).sl, putT_below (s := C0.heap.size) (v := ⟨ya, yk, yh, yd⟩) (t := N) bC3 lA1⟩
    · go_simp
      obtain ⟨A0, hA0⟩ : ∃ X, X = Wd.alloc (.cells #[.int .i64 0, .int .i64 0, .int .i64 0, .int .i64 0, .slice none 0 0, .slice none 0 0, .int .i64 0] 27) := ⟨_, rfl⟩
      rw [← hA0]
      have bA0' : Below Wd.heap.size Wd A0 := by rw [hA0]; exact (Below.refl _ _).alloc (Nat.le_refl _) _
      have bA0 : Below w13.heap.size w13 A0 := bd.trans (bA0'.mono bd.size)
      have zA0 : BT A0 Wd.heap.size ⟨none, 0, none, 0⟩ ⟨0, 0, 0, 0, [], [], 0⟩ := by rw [hA0]; exact BT.zero Wd _
      have lA0 : w13.heap.size ≤ Wd.heap.size := bd.size
      refine hK.out _ _ (fun _ => SF.out _ bA0) ?_
      clear hK K
      have hS := SF.out _ bA0
      clear hA0
      refine wpZ_ready (rs := [1]) (by kernel_rfl) (by simp) ?_
      refine AllZ.cons rfl (fun K hK => ?_) AllZ.nil
      go_simp
      refine (T.out A0 (FB.out _ bA0).2.2).mono ?_
      rintro e C1 ⟨a2, c2, h2, d2, _, _, rfl, oT, bC1', -, hcT⟩
      simp only [TV.val]
      have sT := oT.sl
      clear oT
      have bC1 : Below w13.heap.size w13 C1 := bA0.trans (bC1'.mono bA0.size)
      have yC1 := zA0.later bC1'
      refine hK.out _ _ (fun _ => SF.out _ bC1) ?_
      clear hK K
      have hS := SF.out _ bC1
      refine wpZ_ready (rs := [3]) (by kernel_rfl) (by simp) ?_
      refine AllZ.cons rfl (fun K hK => ?_) AllZ.nil
      go_simp
      refine (CN.out C1).mono ?_
      rintro e C2 ⟨rfl, bC2'⟩
      have sT := sT.later bC2'
      have bC2 : Below w13.heap.size w13 C2 := bC1.trans (bC2'.mono bC1.size)
      have yC2 := yC1.later bC2'
      refine hK.out _ _ (fun _ => SF.out _ bC2) ?_
      clear hK K
      have hS := SF.out _ bC2
      refine wpZ_ready (rs := [4]) (by kernel_rfl) (by simp) ?_
      refine AllZ.cons rfl (fun K hK => ?_) AllZ.nil
      go_simp
      refine (CI.out C2 a2 c2 h2 d2 sT).mono ?_
      rintro e C3 ⟨ya, yk, yh, yd, QR, QS, rfl, oA, bC3'⟩
      have hne : ∀ x, OfT QR QS x → x ≠ Wd.heap.size := fun x hx => by have := (oA.of hx).1; have := yC2.lt; omega
      have bC3 : Below w13.heap.size w13 C3 := bC2.trans (bC3'.mono bC2.size)
      have yC3 := yC2.later bC3'
      refine hK.out _ _ (fun _ => SF.out _ bC3) ?_
      clear hK K
      have hS := SF.out _ bC3
      refine wpZ_takeP (i := 5) (v := ?_) rfl (by kernel_rfl) (fun _ _ _ h => h) (Or.inl ⟨by rfl, ?_⟩) hS ?_
      rotate_left
      · (intro X _; go_simp; first | done | with_reducible rfl)
      simp only [Act.put]
      refine wpZ_takeP (i := 6) (v := ?_) rfl (by kernel_rfl) (fun _ _ _ h => h) (Or.inl ⟨by rfl, ?_⟩) hS ?_
      rotate_left
      · (intro X _; go_simp; first | done | with_reducible rfl)
      simp only [Act.put]
      refine wpZ_takeP (i := 7) (v := ?_) rfl (by kernel_rfl) (fun _ _ _ h => h) (Or.inl ⟨by rfl, ?_⟩) hS ?_
      rotate_left
      · (intro X _; go_simp; first | done | with_reducible rfl)
      simp only [Act.put]
      have KZ := hidOf yC3
      obtain ⟨r0, r1, r2, r3, r4, r5, r6, fr, -⟩ := KZ.out
      have f0 := fr 0
      have f1 := fr 1
      have f2 := fr 2
      have f3 := fr 3
      have f4 := fr 4
      have f5 := fr 5
      have f6 := fr 6
      clear fr
      dsimp only at r4 r5
      refine wpZ_ready (rs := [9]) (by kernel_rfl) (by simp) ?_
      refine AllZ.cons rfl (fun K hK => ?_) AllZ.nil
      go_simp
      refine hK.out _ _ (fun h => absurd (show false = true from h.symm.trans (by kernel_rfl)) (by decide)) ?_
      clear hK K
      refine wpZ_ready (rs := [10]) (by kernel_rfl) (by simp) ?_
      refine AllZ.cons rfl (fun K hK => ?_) AllZ.nil
      go_simp
      refine hK.out _ _ (fun h => absurd (show false = true from h.symm.trans (by kernel_rfl)) (by decide)) ?_
      clear hK K
      refine wpZ_done (by kernel_rfl) ?_ _
      go_wp2_with fail
      go_meet
      exact ⟨Wd.heap.size, ya, yk, yh, yd, rfl, rfl, BT.put KZ.out ⟨ya, yk, yh, yd⟩ N, (oA.keep (w' := putT C3 (Wd.heap.size) ⟨ya, yk, yh, yd⟩ N) (by rw [putT_size]; exact Nat.le_refl _) (fun x _ hx => putT_block (hne x hx))).sl, putT_below (s := Wd.heap.size) (v := ⟨ya, yk, yh, yd⟩) (t := N) bC3 lA0⟩
  case rest =>
  obtain ⟨q14, ha, hc, hh, hd, rfl, rfl, x14, s14, b14⟩ := hcut
  have G14 : Hid (Below v3.heap.size v3 wc ∧ BT wc q9 ⟨ga, gc, gh, gd⟩ N ∧ SlT wc ⟨ga, gc, gh, gd⟩ (mkT N 1) ∧ BT wc q14 ⟨ha, hc, hh, hd⟩ N ∧ SlT wc ⟨ha, hc, hh, hd⟩ N) := ⟨G13.out.1.trans (b14.mono G13.out.1.size), G13.out.2.1.later b14, G13.out.2.2.later b14, x14, s14⟩
  clear x14 s14 b14 G13
  generalize wc = v14 at *
  obtain ⟨g0, g1, g2, g3, g4, g5, g6, -, -⟩ := G14.out.2.2.2.1
  obtain ⟨y0, y1, y2, y3, y4, y5, y6, -, -⟩ := (F3.out v14 G14.out.1).2.2.2.1
  dsimp only at g4 g5
  dsimp only at y4 y5
  have c25 := CE.out v14 ha hc hh hd wa wk wh wd G14.out.2.2.2.2 (F3.out v14 G14.out.1).2.2.2.2.1
  go_wp2_with fail
  refine c25.mono ?_
  clear g0 g1 g2 g3 g4 g5 g6
  clear y0 y1 y2 y3 y4 y5 y6
  clear c25
  rintro e w15 ⟨rfl, b15⟩
  have G15 : Hid (Below v3.heap.size v3 w15 ∧ BT w15 q9 ⟨ga, gc, gh, gd⟩ N ∧ SlT w15 ⟨ga, gc, gh, gd⟩ (mkT N 1)) := ⟨G14.out.1.trans (b15.mono G14.out.1.size), G14.out.2.1.later b15, G14.out.2.2.1.later b15⟩
  clear b15 G14
  obtain ⟨g0, g1, g2, g3, g4, g5, g6, -, -⟩ := G15.out.2.1
  dsimp only at g4 g5
  have c28 := CH.out w15 ga gc gh gd G15.out.2.2
  go_wp2_with fail
  refine c28.mono ?_
  clear g0 g1 g2 g3 g4 g5 g6
  clear c28
  rintro e w16 ⟨rfl, b16⟩
  have KE : Hid (Below w.heap.size w w16) := (F3.out w16 (G15.out.1.trans (b16.mono G15.out.1.size))).2.2.2.2.2
  clear b16
  go_wp2
  go_ret
  exact ⟨rfl, KE.out⟩
set_option maxHeartbeats 2000000 in
theorem walk_great (w : World) (v : TV) (t : T7) (n : S5) (hl : TL t) (hg : ¬ szT t ≤ 1048576) :
    Calls Try.prog 5 #[v.val t, .agg #[.int .i64 n.region, .int .i64 n.slot, .int .i64 n.value, .bool n.used, .int .i64 n.version]] w fun e w' => e = .returned (.bool true) ∧ Below w.heap.size w w' := by
  obtain ⟨ar, cr, ah, ch⟩ := v
  simp only [TV.val]
  obtain ⟨W, hW⟩ : ∃ W, W = (w.alloc (.cells #[.int .i64 t.id, .int .i64 t.home, .int .i64 t.phase, .int .i64 t.count, .slice ar t.reads.length cr, .slice ah t.sets.length ch, .int .i64 t.stamp] 51)).alloc (.cells #[.int .i64 n.region, .int .i64 n.slot, .int .i64 n.value, .bool n.used, .int .i64 n.version] 52) := ⟨_, rfl⟩
  have b0 : Hid (Below w.heap.size w W) := by rw [hW]; exact ((Below.refl _ _).alloc (Nat.le_refl _) _).alloc (by simp) _
  have c1 := szTx_any W ⟨ar, cr, ah, ch⟩ t hl
  rw [leftR_no hg] at c1
  simp only [TV.val] at c1
  clear hg hl
  go_enter Try.func5, Try.ntmps5
  go_wp2_with fail
  rw [← hW]
  clear hW
  refine c1.mono ?_
  clear c1
  rintro e w1 ⟨rfl, b1⟩
  go_wp2
  go_ret
  exact ⟨rfl, b0.out.trans (b1.mono b0.out.size)⟩
theorem walk (w : World) (v : TV) (t : T7) (n : S5) (hl : TL t) (hs : SlT w v t) :
    Calls Try.prog 5 #[v.val t, .agg #[.int .i64 n.region, .int .i64 n.slot, .int .i64 n.value, .bool n.used, .int .i64 n.version]] w fun e w' => e = .returned (.bool true) ∧ Below w.heap.size w w' := by
  by_cases h : szT t ≤ 1048576
  · exact walk_small w v t n hl hs h
  · exact walk_great w v t n hl h
set_option maxRecDepth 100000 in
theorem lifted (os : Os) (started : os.Started) (H : Type) (enc : TypeId × Value → H) :
    ReturnsInHanded {} Try.checked os 5 .any (Rows.fnExactAddSetSpec.pre6 enc Try.prog Try.f5 Rows.fnExactAddSetRow.domain false) (Rows.fnExactAddSetSpec.post enc Try.prog Try.f5 false true false false) := by
  refine returnsInHanded_of_change (C := Try.checked) own started (by kernel_rfl) Try.func5
    (ChangeSpec.witness6 (enc := enc) (C := Try.checked) false ⟨#[], #[.agg #[.int .i64 0, .int .i64 0, .int .i64 0, .int .i64 0, .slice none 0 0, .slice none 0 0, .int .i64 0], .agg #[.int .i64 0, .int .i64 0, .int .i64 0, .bool false, .int .i64 0]], []⟩ 8 (by kernel_rfl) (by kernel_rfl) (by kernel_rfl) (by kernel_rfl)) ?_
  intro W base args ds gs before hval0 hW hcnd _
  have hval : ∀ (j : Nat) t v, Try.f5.params[j]? = some t → args[j]? = some v → Value.okWide Try.prog W .any base t v := hval0
  have hW' := hW
  obtain ⟨p, q, hA0, hV, rfl, hfz, hnd⟩ := hW
  have hA : DataW.TrodAll enc Try.prog W 0 (fun _ => true) true Try.f5.params.toList args.toList ds p := hA0
  rw [Try.params5] at hA hval
  obtain ⟨v0, vs0, d0, ds0, p0, q0, hargs, rfl, rfl, h0, r0⟩ := trodAll_cons hA
  obtain ⟨v1, vs1, d1, ds1, p1, q1, rfl, rfl, rfl, h1, r1⟩ := trodAll_cons r0
  obtain ⟨rfl, rfl, rfl⟩ := trodAll_nil r1
  obtain rfl : args = #[v0, v1] := by cases args; simp_all
  obtain ⟨rfl, rfl⟩ := trodVars_none hV
  obtain ⟨cs, rfl, hcs⟩ := okWide_struct Try.underlying51 (hval 0 51 v0 rfl rfl)
  obtain ⟨cn, rfl, hcn⟩ := okWide_struct Try.underlying52 (hval 1 52 v1 rfl rfl)
  have k0 := h0
  have lt0 : ∀ x ∈ p0, x.block < W.heap.size := by obtain ⟨m, hm⟩ := k0; exact DataW.trod_lt m _ _ _ hm
  have k1 := h1
  have lt1 : ∀ x ∈ p1, x.block < W.heap.size := by obtain ⟨m, hm⟩ := k1; exact DataW.trod_lt m _ _ _ hm
  obtain ⟨v, t, rfl, hs, hl⟩ : ∃ (v : TV) (t : T7), cs = #[.int .i64 t.id, .int .i64 t.home, .int .i64 t.phase, .int .i64 t.count, .slice v.ar t.reads.length v.cr, .slice v.ah t.sets.length v.ch, .int .i64 t.stamp] ∧ SlT W v t ∧ TL t := by
    obtain ⟨fuel, hf⟩ := h0
    obtain ⟨v, t, e, hs, l1⟩ := ot.open_tx hf
    exact ⟨v, t, by cases cs; simpa [Value.cells] using e, hs, l1⟩
  obtain ⟨n, rfl⟩ : ∃ n : S5, cn = #[.int .i64 n.region, .int .i64 n.slot, .int .i64 n.value, .bool n.used, .int .i64 n.version] := by
    obtain ⟨fuel, hf⟩ := h1
    obtain ⟨n, e, _⟩ := ot.open_set hf
    exact ⟨n, by cases cn; simpa [Value.cells, ot.setCells] using e⟩
  clear hA0 hval0
  refine (walk W v t n hl hs).mono fun e W' ⟨he, bel⟩ => ?_
  subst he
  exact ⟨_, rfl, _, _, _, [], _, [], hW', trodAll_mk1 (shut_bool Try.underlying4 _), (trodAll_cons_mk (Below.trod laidOut (by kernel_rfl) (of_decide_eq_true (by kernel_rfl)) k0 bel lt0) (trodAll_cons_mk (Below.trod laidOut (by kernel_rfl) (of_decide_eq_true (by kernel_rfl)) k1 bel lt1) trodAll_mk0)), rfl, bel.frame _, fun h => by cases h⟩
theorem over : Rows.fnExactAddSetRow.holds Try.pinned (OpenSpec.ofChange Rows.fnExactAddSetSpec) :=
  OpenClaim.holds_of_wide 5 Try.f5 rfl rfl rfl rfl rfl rfl rfl ⟨rfl, rfl, rfl, rfl, rfl⟩ rfl rfl rfl rfl rfl (by kernel_rfl) Try.func5 (by kernel_rfl)
    (of_decide_eq_true (by kernel_rfl)) (by unfold Func.isWrapper; first | (rw [if_pos (by decide +kernel)]; kernel_rfl) | (rw [if_neg (by decide +kernel)]; exact ⟨rfl, rfl⟩))
    (fun os started H enc _ => lifted os started H enc)
end Go.Proofs.Ytcanaklameddbaa.fnExactAddSet
namespace Go.Proofs.Ytcanaklameddbaa
theorem fnExactAddSet_holds : Rows.FnExactAddSetSaid := fnExactAddSet.over
#print axioms fnExactAddSet_holds
end Go.Proofs.Ytcanaklameddbaa
