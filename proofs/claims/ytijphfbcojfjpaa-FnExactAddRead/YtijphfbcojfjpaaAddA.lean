/- AddRead of the program. -/
import Derived.Test.YtijphfbcojfjpaaRows
import Derived.Test.YtijphfbcojfjpaaAddB
import Derived.Test.YtijphfbcojfjpaaAddC
import Derived.Test.YtijphfbcojfjpaaPutN
import Derived.WalkKit
import Derived.WalkSpells
import Derived.WalkLawsBesides
import Derived.Below
import Derived.Lib.QuietBelow
import Derived.BigQuiet
namespace Go.Proofs.Ytijphfbcojfjpaa
open Go.RowKit
open Go.Sort (grow)
set_option maxRecDepth 100000 in
set_option maxHeartbeats 8000000 in
theorem implAddRead_any (w : World) (v : TV) (t : T7) (n : N5) (hl : TL t) (hs : SlT w v t) :
    Calls Try.prog 14 #[v.val t, .agg #[.int .i64 n.region, .int .i64 n.slot, .int .i64 n.version, .int .i64 n.value, .bool n.used]] w (TAns w (addN t n) (addNB t n)) := by
  obtain ⟨ar, cr, ah, ch⟩ := v
  simp only [TV.val]
  obtain ⟨W0, hW0⟩ : ∃ W, W = w.alloc (.cells #[.int .i64 t.id, .int .i64 t.home, .int .i64 t.phase, .int .i64 t.count, .slice ar t.reads.length cr, .slice ah t.sets.length ch, .int .i64 t.stamp] 27) := ⟨_, rfl⟩
  have z0 : W0.heap.size = w.heap.size + 1 := by rw [hW0]; simp
  have x0 : BT W0 w.heap.size ⟨ar, cr, ah, ch⟩ t := by rw [hW0]; exact BT.box w ⟨ar, cr, ah, ch⟩ t _
  have b0 : Below w.heap.size w W0 := by rw [hW0]; exact (Below.refl _ _).alloc (Nat.le_refl _) _
  obtain ⟨W1, hW1⟩ : ∃ W, W = W0.alloc (.cells #[.int .i64 n.region, .int .i64 n.slot, .int .i64 n.version, .int .i64 n.value, .bool n.used] 29) := ⟨_, rfl⟩
  have z1 : W1.heap.size = w.heap.size + 2 := by rw [hW1]; simp [z0]
  have x1 : NoteAt W1 (w.heap.size + 1) 0 n := by rw [hW1, ← z0]; exact NoteAt.box W0 _ _
  have b1 : Below W0.heap.size W0 W1 := by rw [hW1]; exact (Below.refl _ _).alloc (Nat.le_refl _) _
  obtain ⟨W, hW⟩ : ∃ W, W = W1.alloc (.cells #[.int .i64 0, .int .i64 0, .int .i64 0, .int .i64 0, .slice none 0 0, .slice none 0 0, .int .i64 0] 27) := ⟨_, rfl⟩
  have zW : W.heap.size = w.heap.size + 3 := by rw [hW]; simp [z1]
  have x2 : BT W (w.heap.size + 2) ⟨none, 0, none, 0⟩ ⟨0, 0, 0, 0, [], [], 0⟩ := by rw [hW, ← z1]; exact BT.zero W1 _
  have b2 : Below W1.heap.size W1 W := by rw [hW]; exact (Below.refl _ _).alloc (Nat.le_refl _) _
  have bW : Below w.heap.size w W := (b0.trans (b1.mono b0.size)).trans (b2.mono (by omega))
  have c1 := implTxOk_any W ⟨ar, cr, ah, ch⟩ t hl (hs.later bW)
  simp only [TV.val] at c1
  have H : Hid (BT W w.heap.size ⟨ar, cr, ah, ch⟩ t ∧ NoteAt W (w.heap.size + 1) 0 n ∧ BT W (w.heap.size + 2) ⟨none, 0, none, 0⟩ ⟨0, 0, 0, 0, [], [], 0⟩ ∧ Below w.heap.size w W ∧ SlT W ⟨ar, cr, ah, ch⟩ t ∧ W.heap.size = w.heap.size + 3) := ⟨(x0.later b1).later b2, x1.below b2 (by omega), x2, bW, hs.later bW, zW⟩
  rw [hW1, hW0] at hW
  clear hW0 hW1 z0 x0 b0 z1 x1 b1 zW x2 b2 bW hs hl
  cases hB : txB t with
  | false =>
    rw [hB] at c1
    have HN : Hid (addN t n = noT ∧ addNB t n = false) := ⟨by simp [addN, hB], by simp [addNB, hB]⟩
    go_enter Try.func14, Try.ntmps14
    go_wp2_with fail
    rw [← hW]
    clear hW
    refine c1.mono ?_
    clear c1
    rintro e w1 ⟨rfl, b1⟩
    have KZ : Hid (BT w1 (w.heap.size + 2) ⟨none, 0, none, 0⟩ ⟨0, 0, 0, 0, [], [], 0⟩ ∧ Below w.heap.size w w1) := ⟨H.out.2.2.1.later b1, H.out.2.2.2.1.trans (b1.mono H.out.2.2.2.1.size)⟩
    clear b1 H
    obtain ⟨r0, r1, r2, r3, r4, r5, r6, fr, -⟩ := KZ.out.1
    have yR5 := KZ.out.1.put ⟨none, 0, none, 0⟩ noT
    simp only [putT, noT, List.length_nil] at yR5
    obtain ⟨u0, u1, u2, u3, u4, u5, u6, -, -⟩ := yR5
    have KU := hidOf (And.intro u0 (And.intro u1 (And.intro u2 (And.intro u3 (And.intro u4 (And.intro u5 u6))))))
    clear u0 u1 u2 u3 u4 u5 u6
    have f0 := fr 0
    have f1 := fr 1
    have f2 := fr 2
    have f3 := fr 3
    have f4 := fr 4
    have f5 := fr 5
    have f6 := fr 6
    clear fr
    simp only [List.length_nil] at r4 r5
    go_wp2
    obtain ⟨u0, u1, u2, u3, u4, u5, u6⟩ := KU.out
    refine bodyPost_ret (v := .tuple #[.agg #[.int .i64 0, .int .i64 0, .int .i64 0, .int .i64 0, .slice none 0 0, .slice none 0 0, .int .i64 0], .bool false]) (by simp [results, Try.results14, go_sem, u0, u1, u2, u3, u4, u5, u6]) rfl ?_
    rw [HN.out.1, HN.out.2]
    exact TAns.zero (putT_below (s := w.heap.size + 2) (v := ⟨none, 0, none, 0⟩) (t := noT) KZ.out.2 (by omega))
  | true =>
    rw [hB] at c1
    go_enter Try.func14, Try.ntmps14
    go_wp2_with fail
    rw [← hW]
    clear hW
    refine c1.mono ?_
    clear c1
    rintro e w1 ⟨rfl, b1⟩
    obtain ⟨n0, n1, n2, n3, n4⟩ := H.out.2.1.below b1 (by have := H.out.2.2.2.2.2; omega)
    simp only [Nat.zero_add] at n1 n2 n3 n4
    have c2 := implNoteOk w1 n
    have H1 : Hid (BT w1 w.heap.size ⟨ar, cr, ah, ch⟩ t ∧ NoteAt w1 (w.heap.size + 1) 0 n ∧ BT w1 (w.heap.size + 2) ⟨none, 0, none, 0⟩ ⟨0, 0, 0, 0, [], [], 0⟩ ∧ Below w.heap.size w w1 ∧ SlT w1 ⟨ar, cr, ah, ch⟩ t ∧ w.heap.size + 3 ≤ w1.heap.size) := ⟨H.out.1.later b1, H.out.2.1.below b1 (by have := H.out.2.2.2.2.2; omega), H.out.2.2.1.later b1, H.out.2.2.2.1.trans (b1.mono H.out.2.2.2.1.size), H.out.2.2.2.2.1.later b1, by have := H.out.2.2.2.2.2; have := b1.size; omega⟩
    clear b1 H
    go_wp2_with fail
    refine c2.mono ?_
    clear c2 n0 n1 n2 n3 n4
    rintro e w2 ⟨rfl, b2⟩
    have H2 : Hid (BT w2 w.heap.size ⟨ar, cr, ah, ch⟩ t ∧ NoteAt w2 (w.heap.size + 1) 0 n ∧ BT w2 (w.heap.size + 2) ⟨none, 0, none, 0⟩ ⟨0, 0, 0, 0, [], [], 0⟩ ∧ Below w.heap.size w w2 ∧ SlT w2 ⟨ar, cr, ah, ch⟩ t ∧ w.heap.size + 3 ≤ w2.heap.size) := ⟨H1.out.1.later b2, H1.out.2.1.below b2 (by have := H1.out.2.2.2.2.2; omega), H1.out.2.2.1.later b2, H1.out.2.2.2.1.trans (b2.mono H1.out.2.2.2.1.size), H1.out.2.2.2.2.1.later b2, by have := H1.out.2.2.2.2.2; have := b2.size; omega⟩
    clear b2 H1
    cases hO : noteOkB n with
    | false =>
      have HN : Hid (addN t n = noT ∧ addNB t n = false) := ⟨by simp [addN, hO], by simp [addNB, hO]⟩
      have KZ : Hid (BT w2 (w.heap.size + 2) ⟨none, 0, none, 0⟩ ⟨0, 0, 0, 0, [], [], 0⟩ ∧ Below w.heap.size w w2) := ⟨H2.out.2.2.1, H2.out.2.2.2.1⟩
      clear H2
      obtain ⟨r0, r1, r2, r3, r4, r5, r6, fr, -⟩ := KZ.out.1
      have yR5 := KZ.out.1.put ⟨none, 0, none, 0⟩ noT
      simp only [putT, noT, List.length_nil] at yR5
      obtain ⟨u0, u1, u2, u3, u4, u5, u6, -, -⟩ := yR5
      have KU := hidOf (And.intro u0 (And.intro u1 (And.intro u2 (And.intro u3 (And.intro u4 (And.intro u5 u6))))))
      clear u0 u1 u2 u3 u4 u5 u6
      have f0 := fr 0
      have f1 := fr 1
      have f2 := fr 2
      have f3 := fr 3
      have f4 := fr 4
      have f5 := fr 5
      have f6 := fr 6
      clear fr
      simp only [List.length_nil] at r4 r5
      go_wp2
      obtain ⟨u0, u1, u2, u3, u4, u5, u6⟩ := KU.out
      refine bodyPost_ret (v := .tuple #[.agg #[.int .i64 0, .int .i64 0, .int .i64 0, .int .i64 0, .slice none 0 0, .slice none 0 0, .int .i64 0], .bool false]) (by simp [results, Try.results14, go_sem, u0, u1, u2, u3, u4, u5, u6]) rfl ?_
      rw [HN.out.1, HN.out.2]
      exact TAns.zero (putT_below (s := w.heap.size + 2) (v := ⟨none, 0, none, 0⟩) (t := noT) KZ.out.2 (by omega))
    | true =>
      have l12 := (txB_lens hB).1
      have l12' := (txB_lens hB).2
      have HT : Hid ((∀ s ∈ t.reads, noteOkB s = true) ∧ noUp2 t.reads ∧ noteOkB n = true) := ⟨(txB_no hB).1, (txB_no hB).2, hO⟩
      have c3 := ownTx_any w2 ⟨ar, cr, ah, ch⟩ t (by omega) (by omega) H2.out.2.2.2.2.1
      simp only [TV.val] at c3
      obtain ⟨p0, p1, p2, p3, p4, p5, p6, -, -⟩ := H2.out.1
      dsimp only at p4 p5
      go_wp2_with fail
      refine c3.mono ?_
      clear c3 p0 p1 p2 p3 p4 p5 p6
      rintro e w3 ⟨a4, c4, h4, d4, PR, PS, rfl, o3, b3⟩
      simp only [TV.val]
      obtain ⟨X3, hX3⟩ : ∃ X, X = w3.alloc (.cells #[.int .i64 t.id, .int .i64 t.home, .int .i64 t.phase, .int .i64 t.count, .slice a4 t.reads.length c4, .slice h4 t.sets.length d4, .int .i64 t.stamp] 27) := ⟨_, rfl⟩
      have b3' : Below w3.heap.size w3 X3 := by rw [hX3]; exact (Below.refl _ _).alloc (Nat.le_refl _) _
      have b23 : Below w2.heap.size w2 X3 := b3.trans (b3'.mono b3.size)
      have x3 : BT X3 w3.heap.size ⟨a4, c4, h4, d4⟩ t := by rw [hX3]; exact BT.box w3 ⟨a4, c4, h4, d4⟩ t _
      have H3 : Hid (NoteAt X3 (w.heap.size + 1) 0 n ∧ BT X3 (w.heap.size + 2) ⟨none, 0, none, 0⟩ ⟨0, 0, 0, 0, [], [], 0⟩ ∧ Below w.heap.size w X3 ∧ w.heap.size + 3 ≤ w3.heap.size ∧ BT X3 w3.heap.size ⟨a4, c4, h4, d4⟩ t ∧ OT X3 w2.heap.size ⟨a4, c4, h4, d4⟩ t PR PS ∧ (∀ q, OfT PR PS q → w.heap.size + 3 ≤ q ∧ q < w3.heap.size) ∧ w3.heap.size < X3.heap.size) := ⟨H2.out.2.1.below b23 (by have := H2.out.2.2.2.2.2; omega), H2.out.2.2.1.later b23, H2.out.2.2.2.1.trans (b23.mono H2.out.2.2.2.1.size), by have := H2.out.2.2.2.2.2; have := b3.size; omega, x3, o3.later b3', fun q hq => ⟨by have := (o3.of hq).1; have := H2.out.2.2.2.2.2; omega, (o3.of hq).2⟩, x3.lt⟩
      clear b3 b3' b23 x3 o3 H2
      have c4' := noPileOf_any X3 a4 c4 t.reads (by omega) H3.out.2.2.2.2.2.1.sl.r HT.out.1 HT.out.2.1
      have k4 := H3.out.2.2.2.2.1.c4
      dsimp only at k4
      rw [hX3] at k4
      go_wp2_with fail
      rw [← hX3]
      clear hX3 k4
      refine c4'.mono ?_
      clear c4'
      rintro e w4 ⟨p, mb, m, pv, rfl, hp, hm, b4⟩
      obtain ⟨n0, n1, n2, n3, n4⟩ := H3.out.1.below b4 (by have := H3.out.2.2.2.1; have := H3.out.2.2.2.2.2.2.2; omega)
      simp only [Nat.zero_add] at n1 n2 n3 n4
      have cC := noCell_any w4 n
      have H4 : Hid (PinB w4 X3.heap.size p mb m pv t.reads ∧ Below X3.heap.size X3 w4) := ⟨hp, b4⟩
      clear hp b4
      go_wp2_with fail
      refine cC.mono ?_
      clear cC n0 n1 n2 n3 n4
      rintro e w5 ⟨rfl, b5⟩
      have cH := noHas_any w5 X3.heap.size p mb m pv t.reads n.region n.slot (H4.out.1.later b5) (noOk_in HT.out.2.2).1 (noOk_in HT.out.2.2).2
      have H5 : Hid (PinB w5 X3.heap.size p mb m pv t.reads ∧ Below X3.heap.size X3 w5) := ⟨H4.out.1.later b5, H4.out.2.trans (b5.mono H4.out.2.size)⟩
      clear b5 H4
      go_wp2_with fail
      refine cH.mono ?_
      clear cH
      rintro e w6 ⟨rfl, b6⟩
      have H6 : Hid (PinB w6 X3.heap.size p mb m pv t.reads ∧ Below X3.heap.size X3 w6) := ⟨H5.out.1.later b6, H5.out.2.trans (b6.mono H5.out.2.size)⟩
      clear b6 H5
      cases hF : (noW t.reads n.region n.slot).isSome with
      | true =>
        have HN : Hid (addN t n = t ∧ addNB t n = true) := ⟨by simp [addN, hB, hO, hF], by simp [addNB, hB, hO, hF]⟩
        obtain ⟨o0, o1, o2, o3, o4, o5, o6, -, -⟩ := H3.out.2.2.2.2.1.later H6.out.2
        have zR := H3.out.2.1.later H6.out.2
        obtain ⟨r0, r1, r2, r3, r4, r5, r6, fr, -⟩ := zR
        have yR5 := (H3.out.2.1.later H6.out.2).put ⟨a4, c4, h4, d4⟩ t
        simp only [putT] at yR5
        obtain ⟨u0, u1, u2, u3, u4, u5, u6, -, -⟩ := yR5
        have KU := hidOf (And.intro u0 (And.intro u1 (And.intro u2 (And.intro u3 (And.intro u4 (And.intro u5 u6))))))
        clear u0 u1 u2 u3 u4 u5 u6
        have f0 := fr 0
        have f1 := fr 1
        have f2 := fr 2
        have f3 := fr 3
        have f4 := fr 4
        have f5 := fr 5
        have f6 := fr 6
        clear fr
        dsimp only at o4 o5 r4 r5
        go_wp2
        obtain ⟨u0, u1, u2, u3, u4, u5, u6⟩ := KU.out
        refine bodyPost_ret (v := .tuple #[.agg #[.int .i64 t.id, .int .i64 t.home, .int .i64 t.phase, .int .i64 t.count, .slice a4 t.reads.length c4, .slice h4 t.sets.length d4, .int .i64 t.stamp], .bool true]) (by simp [results, Try.results14, go_sem, u0, u1, u2, u3, u4, u5, u6]) rfl ?_
        rw [HN.out.1, HN.out.2]
        obtain ⟨-, -, g4, g6, -, g8, g9, -⟩ := H3.out
        have g4' := g4.trans (H6.out.2.mono g4.size)
        refine ⟨a4, c4, h4, d4, PR, PS, rfl, ?_, putT_below (s := w.heap.size + 2) (v := ⟨a4, c4, h4, d4⟩) (t := t) g4' (by omega)⟩
        exact ((g8.later H6.out.2).keep (w' := putT w6 (w.heap.size + 2) ⟨a4, c4, h4, d4⟩ t) (by rw [putT_size]; exact Nat.le_refl _) (fun q _ hq => putT_block (by have := (g9 q hq).1; omega))).low (fun q hq => by have := (g9 q hq).1; omega)
      | false =>
        have cF := noFull_any w6 X3.heap.size p mb m pv t.reads H6.out.1
        go_wp2_with fail
        refine cF.mono ?_
        clear cF
        rintro e w6' ⟨rfl, rfl⟩
        by_cases h12 : t.reads.length = 12
        · have d12 : decide (12 ≤ t.reads.length) = true := by simp; omega
          rw [d12]
          have HN : Hid (addN t n = noT ∧ addNB t n = false) := ⟨by simp [addN, hB, hO, hF, h12], by simp [addNB, hB, hO, hF, h12]⟩
          have KZ : Hid (BT w6' (w.heap.size + 2) ⟨none, 0, none, 0⟩ ⟨0, 0, 0, 0, [], [], 0⟩ ∧ Below w.heap.size w w6') := ⟨H3.out.2.1.later H6.out.2, H3.out.2.2.1.trans (H6.out.2.mono H3.out.2.2.1.size)⟩
          clear H3 H6 d12
          obtain ⟨r0, r1, r2, r3, r4, r5, r6, fr, -⟩ := KZ.out.1
          have yR5 := KZ.out.1.put ⟨none, 0, none, 0⟩ noT
          simp only [putT, noT, List.length_nil] at yR5
          obtain ⟨u0, u1, u2, u3, u4, u5, u6, -, -⟩ := yR5
          have KU := hidOf (And.intro u0 (And.intro u1 (And.intro u2 (And.intro u3 (And.intro u4 (And.intro u5 u6))))))
          clear u0 u1 u2 u3 u4 u5 u6
          have f0 := fr 0
          have f1 := fr 1
          have f2 := fr 2
          have f3 := fr 3
          have f4 := fr 4
          have f5 := fr 5
          have f6 := fr 6
          clear fr
          simp only [List.length_nil] at r4 r5
          go_wp2
          obtain ⟨u0, u1, u2, u3, u4, u5, u6⟩ := KU.out
          refine bodyPost_ret (v := .tuple #[.agg #[.int .i64 0, .int .i64 0, .int .i64 0, .int .i64 0, .slice none 0 0, .slice none 0 0, .int .i64 0], .bool false]) (by simp [results, Try.results14, go_sem, u0, u1, u2, u3, u4, u5, u6]) rfl ?_
          rw [HN.out.1, HN.out.2]
          exact TAns.zero (putT_below (s := w.heap.size + 2) (v := ⟨none, 0, none, 0⟩) (t := noT) KZ.out.2 (by omega))
        · have d12 : decide (12 ≤ t.reads.length) = false := by simp; omega
          rw [d12]
          have HN : Hid (addN t n = ⟨t.id, t.home, t.phase, t.count, insN t.reads n, t.sets, t.stamp⟩ ∧ addNB t n = true) := ⟨by simp [addN, hB, hO, hF, h12], by simp [addNB, hB, hO, h12]⟩
          have hno : noW t.reads n.region n.slot = none := by cases e : noW t.reads n.region n.slot <;> simp_all
          have hup := insN_up HT.out.2.1 HT.out.1 HT.out.2.2 hno
          obtain ⟨n0, n1, n2, n3, n4⟩ := H3.out.1.below H6.out.2 (by have := H3.out.2.2.2.1; have := H3.out.2.2.2.2.2.2.2; omega)
          simp only [Nat.zero_add] at n1 n2 n3 n4
          have cP := noPutAny w6' X3.heap.size p mb m pv t.reads n H6.out.1 (by omega) (by omega) HT.out.2.2 hno H6.out.2.size (noUp2_hp HT.out.2.1)
          have KU0 := hidOf hup
          clear hup d12 hno
          go_wp2_with fail
          refine cP.mono ?_
          clear cP n0 n1 n2 n3 n4
          rintro e w7 ⟨rfl, q, cap, m', ys, hm', hp7, hpm, hhp, b7⟩
          have b37 : Below X3.heap.size X3 w7 := H6.out.2.trans b7
          have hyl : ys.length = t.reads.length + 1 := by have := hpm.length_eq; simpa using this
          have hdis : ys.Pairwise (fun a b => noR a ≠ noR b) := ((hpm.trans (insN_perm t.reads n).symm).symm.pairwise_iff (fun {a b} (h : noR a ≠ noR b) => h.symm)).1 (KU0.out.imp (fun h => Int.ne_of_lt h))
          have cI := noInOrder_any w7 X3.heap.size p q mb m' cap ys hp7 (by omega) (by omega) hhp hdis
          have H7 : Hid (Below X3.heap.size X3 w7 ∧ X3.heap.size ≤ p ∧ X3.heap.size ≤ q ∧ X3.heap.size ≤ mb ∧ ys.Perm (t.reads ++ [n])) := ⟨b37, hp7.bp, hp7.bq, hp7.bm, hpm⟩
          clear b37 b7 hp7 hpm hhp hdis hm' hyl H6
          go_wp2_with fail
          refine cI.mono ?_
          clear cI
          rintro e w8 ⟨v8, zs, rfl, row8, pm8, up8, k8⟩
          have b38 : Below X3.heap.size X3 w8 := H7.out.1.trans (k8.below (fun x hx => by obtain ⟨-, h1, h2, h3, -⟩ := H7.out; rcases hx with rfl | rfl | rfl <;> assumption) H7.out.1.size)
          have hzs : zs = insN t.reads n := HeapP.rise_eq noR up8 KU0.out (pm8.trans (H7.out.2.2.2.2.trans (insN_perm t.reads n).symm))
          have HZ := hidOf hzs
          obtain ⟨a2, c2, rfl, -⟩ := row8.form
          have xB : BT w8 w3.heap.size ⟨a4, c4, h4, d4⟩ t := H3.out.2.2.2.2.1.later b38
          have k4 := xB.c4
          have k4f := xB.fz 4
          dsimp only at k4
          have h77 : X3.heap.size ≤ w7.heap.size := H7.out.1.size
          have KF : Hid (BT (w8.setCell ⟨w3.heap.size, 4, none⟩ (.slice a2 zs.length c2)) w3.heap.size ⟨a2, c2, h4, d4⟩ (⟨t.id, t.home, t.phase, t.count, zs, t.sets, t.stamp⟩ : T7) ∧ BT (w8.setCell ⟨w3.heap.size, 4, none⟩ (.slice a2 zs.length c2)) (w.heap.size + 2) ⟨none, 0, none, 0⟩ ⟨0, 0, 0, 0, [], [], 0⟩ ∧ RowN w8 w7.heap.size (.slice a2 zs.length c2) zs ∧ Below X3.heap.size X3 w8 ∧ X3.heap.size ≤ w7.heap.size) := ⟨xB.set4 a2 c2 zs, (H3.out.2.1.later b38).far (by dsimp only; have := H3.out.2.2.2.1; omega) _, row8, b38, h77⟩
          clear hzs row8 pm8 up8 k8 b38 xB h77 H7 KU0
          have yR5 := KF.out.2.1.put ⟨a2, c2, h4, d4⟩ (⟨t.id, t.home, t.phase, t.count, zs, t.sets, t.stamp⟩ : T7)
          simp only [putT] at yR5
          obtain ⟨u0, u1, u2, u3, u4, u5, u6, -, -⟩ := yR5
          have KU := hidOf (And.intro u0 (And.intro u1 (And.intro u2 (And.intro u3 (And.intro u4 (And.intro u5 u6))))))
          clear u0 u1 u2 u3 u4 u5 u6
          obtain ⟨o0, o1, o2, o3, o4, o5, o6, -, -⟩ := KF.out.1
          obtain ⟨r0, r1, r2, r3, r4, r5, r6, fr, -⟩ := KF.out.2.1
          have f0 := fr 0
          have f1 := fr 1
          have f2 := fr 2
          have f3 := fr 3
          have f4 := fr 4
          have f5 := fr 5
          have f6 := fr 6
          clear fr
          dsimp only at o0 o1 o2 o3 o4 o5 o6 r4 r5
          go_wp2
          obtain ⟨u0, u1, u2, u3, u4, u5, u6⟩ := KU.out
          refine bodyPost_ret (v := .tuple #[.agg #[.int .i64 t.id, .int .i64 t.home, .int .i64 t.phase, .int .i64 t.count, .slice a2 zs.length c2, .slice h4 t.sets.length d4, .int .i64 t.stamp], .bool true]) (by simp [results, Try.results14, go_sem, u0, u1, u2, u3, u4, u5, u6]) rfl ?_
          rw [HN.out.1, HN.out.2, ← HZ.out]
          obtain ⟨g1, g2, g3, g4, g5⟩ := KF.out
          obtain ⟨-, -, j4, j6, -, j8, j9, j10⟩ := H3.out
          have bX : Below w.heap.size w (w8.setCell ⟨w3.heap.size, 4, none⟩ (.slice a2 zs.length c2)) := (j4.trans (g4.mono j4.size)).setCell (p := ⟨w3.heap.size, 4, none⟩) (by dsimp only; omega) _
          refine ⟨a2, c2, h4, d4, fun q => (Value.slice a2 zs.length c2).ownBlock = some q, PS, rfl, ?_, putT_below (s := w.heap.size + 2) (v := ⟨a2, c2, h4, d4⟩) (t := (⟨t.id, t.home, t.phase, t.count, zs, t.sets, t.stamp⟩ : T7)) bX (by omega)⟩
          obtain ⟨_, _, e2, ow2⟩ := g3.form
          cases e2
          have ot : OT w8 w.heap.size ⟨a2, c2, h4, d4⟩ (⟨t.id, t.home, t.phase, t.count, zs, t.sets, t.stamp⟩ : T7) (fun q => (Value.slice a2 zs.length c2).ownBlock = some q) PS := ⟨ow2, (j8.later g4).s, fun q h1 h2 => by have := (g3.lt h1).1; have := (j9 q (.inr h2)).2; omega, fun q h1 => ⟨by have := (g3.lt h1).1; omega, (g3.lt h1).2⟩, fun q h1 => ⟨by have := (j9 q (.inr h1)).1; omega, ((j8.later g4).sB q h1).2⟩⟩
          have hne : ∀ q, OfT (fun q => (Value.slice a2 zs.length c2).ownBlock = some q) PS q → q ≠ w3.heap.size ∧ q ≠ w.heap.size + 2 := fun q hq => by
            rcases hq with hq | hq
            · have := (g3.lt hq).1; omega
            · have := j9 q (.inr hq); omega
          have ot2 : OT (w8.setCell ⟨w3.heap.size, 4, none⟩ (.slice a2 zs.length c2)) w.heap.size ⟨a2, c2, h4, d4⟩ (⟨t.id, t.home, t.phase, t.count, zs, t.sets, t.stamp⟩ : T7) (fun q => (Value.slice a2 zs.length c2).ownBlock = some q) PS := ot.keep (by simp [World.setCell]) (fun q _ hq => Below.heap_setCell _ _ _ _ (hne q hq).1)
          exact ot2.keep (w' := putT (w8.setCell ⟨w3.heap.size, 4, none⟩ (.slice a2 zs.length c2)) (w.heap.size + 2) ⟨a2, c2, h4, d4⟩ (⟨t.id, t.home, t.phase, t.count, zs, t.sets, t.stamp⟩ : T7)) (by rw [putT_size]; exact Nat.le_refl _) (fun q _ hq => putT_block (hne q hq).2)
end Go.Proofs.Ytijphfbcojfjpaa
