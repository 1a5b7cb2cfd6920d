/- AddA; AseF; AseA; NuD; BytesIn: joined. -/
import Derived.Test.YtiidlcjjaglkdaaRows
import Derived.Test.YtiidlcjjaglkdaaJ7LawNoted
import Derived.Test.YtiidlcjjaglkdaaJ11LawNoted
import Derived.Test.YtiidlcjjaglkdaaJ3LawNoted
import Derived.Test.YtiidlcjjaglkdaaJ0LawNoted
import Derived.Test.YtiidlcjjaglkdaaJ5LawNoted
import Derived.WalkKit
import Derived.WalkSpells
import Derived.WalkLawsBesides
import Derived.Below
import Derived.Lib.QuietBelow
import Derived.BigQuiet
import Derived.Test.YtiidlcjjaglkdaaJ8LawNoted
import Derived.Test.YtiidlcjjaglkdaaJ6LawNoted
import Derived.Deep.CutRange
import Derived.Deep.QuietTactic
import Derived.ProofKit
import Derived.OpenShut
namespace Go.Proofs.Ytiidlcjjaglkdaa
open Go.RowKit
open Go.Sort (grow)
set_option maxRecDepth 100000 in
set_option maxHeartbeats 8000000 in
theorem implAddRead_any (w : World) (v : TV) (t : T7) (n : N5) (hl : TL t) (hs : SlT w v t) :
    Calls Try.prog 10 #[v.val t, .agg #[.int .i64 n.region, .int .i64 n.slot, .int .i64 n.version, .int .i64 n.value, .bool n.used]] w (TAns w (addN t n) (addNB t n)) := by
  obtain ⟨ar, cr, ah, ch⟩ := v
  simp only [TV.val]
  obtain ⟨W0, hW0⟩ : ∃ W, W = w.alloc (.cells #[.int .i64 t.id, .int .i64 t.home, .int .i64 t.phase, .int .i64 t.count, .slice ar t.reads.length cr, .slice ah t.sets.length ch, .int .i64 t.stamp] 27) := ⟨_, rfl⟩
  have z0 : W0.heap.size = w.heap.size + 1 := by rw [hW0]; simp
  have x0 : BT W0 w.heap.size ⟨ar, cr, ah, ch⟩ t := by rw [hW0]; exact BT.box w ⟨ar, cr, ah, ch⟩ t _
  have b0 : Below w.heap.size w W0 := by rw [hW0]; exact (Below.refl _ _).alloc (Nat.le_refl _) _
  obtain ⟨W1, hW1⟩ : ∃ W, W = W0.alloc (.cells #[.int .i64 n.region, .int .i64 n.slot, .int .i64 n.version, .int .i64 n.value, .bool n.used] 29) := ⟨_, rfl⟩
  have z1 : W1.heap.size = w.heap.size + 2 := by rw [hW1]; simp [z0]
  have x1 : NoteAt W1 (w.heap.size + 1) 0 n := by rw [hW1, ← z0]; exact NoteAt.box W0 _ _
  have b1 : Below W0.heap.size W0 W1 := by rw [hW1]; exact (Below.refl _ _).alloc (Nat.le_refl _) _
  obtain ⟨W, hW⟩ : ∃ W, W = W1.alloc (.cells #[.int .i64 0, .int .i64 0, .int .i64 0, .int .i64 0, .slice none 0 0, .slice none 0 0, .int .i64 0] 27) := ⟨_, rfl⟩
  have zW : W.heap.size = w.heap.size + 3 := by rw [hW]; simp [z1]
  have x2 : BT W (w.heap.size + 2) ⟨none, 0, none, 0⟩ ⟨0, 0, 0, 0, [], [], 0⟩ := by rw [hW, ← z1]; exact BT.zero W1 _
  have b2 : Below W1.heap.size W1 W := by rw [hW]; exact (Below.refl _ _).alloc (Nat.le_refl _) _
  have bW : Below w.heap.size w W := (b0.trans (b1.mono b0.size)).trans (b2.mono (by omega))
  have c1 := implTxOk_any W ⟨ar, cr, ah, ch⟩ t hl (hs.later bW)
  simp only [TV.val] at c1
  have H : Hid (BT W w.heap.size ⟨ar, cr, ah, ch⟩ t ∧ NoteAt W (w.heap.size + 1) 0 n ∧ BT W (w.heap.size + 2) ⟨none, 0, none, 0⟩ ⟨0, 0, 0, 0, [], [], 0⟩ ∧ Below w.heap.size w W ∧ SlT W ⟨ar, cr, ah, ch⟩ t ∧ W.heap.size = w.heap.size + 3) := ⟨(x0.later b1).later b2, x1.below b2 (by omega), x2, bW, hs.later bW, zW⟩
  rw [hW1, hW0] at hW
  clear hW0 hW1 z0 x0 b0 z1 x1 b1 zW x2 b2 bW hs hl
  cases hB : txB t with
  | false =>
    rw [hB] at c1
    have HN : Hid (addN t n = noT ∧ addNB t n = false) := ⟨by simp [addN, hB], by simp [addNB, hB]⟩
    go_enter Try.func10, Try.ntmps10
    go_wp2_with fail
    rw [← hW]
    clear hW
    refine c1.mono ?_
    clear c1
    rintro e w1 ⟨rfl, b1⟩
    have KZ : Hid (BT w1 (w.heap.size + 2) ⟨none, 0, none, 0⟩ ⟨0, 0, 0, 0, [], [], 0⟩ ∧ Below w.heap.size w w1) := ⟨H.out.2.2.1.later b1, H.out.2.2.2.1.trans (b1.mono H.out.2.2.2.1.size)⟩
    clear b1 H
    obtain ⟨r0, r1, r2, r3, r4, r5, r6, fr, -⟩ := KZ.out.1
    have yR5 := KZ.out.1.put ⟨none, 0, none, 0⟩ noT
    simp only [putT, noT, List.length_nil] at yR5
    obtain ⟨u0, u1, u2, u3, u4, u5, u6, -, -⟩ := yR5
    have KU := hidOf (And.intro u0 (And.intro u1 (And.intro u2 (And.intro u3 (And.intro u4 (And.intro u5 u6))))))
    clear u0 u1 u2 u3 u4 u5 u6
    have f0 := fr 0
    have f1 := fr 1
    have f2 := fr 2
    have f3 := fr 3
    have f4 := fr 4
    have f5 := fr 5
    have f6 := fr 6
    clear fr
    simp only [List.length_nil] at r4 r5
    go_wp2
    obtain ⟨u0, u1, u2, u3, u4, u5, u6⟩ := KU.out
    refine bodyPost_ret (v := .tuple #[.agg #[.int .i64 0, .int .i64 0, .int .i64 0, .int .i64 0, .slice none 0 0, .slice none 0 0, .int .i64 0], .bool false]) (by simp [results, Try.results10, go_sem, u0, u1, u2, u3, u4, u5, u6]) rfl ?_
    rw [HN.out.1, HN.out.2]
    exact TAns.zero (putT_below (s := w.heap.size + 2) (v := ⟨none, 0, none, 0⟩) (t := noT) KZ.out.2 (by omega))
  | true =>
    rw [hB] at c1
    go_enter Try.func10, Try.ntmps10
    go_wp2_with fail
    rw [← hW]
    clear hW
    refine c1.mono ?_
    clear c1
    rintro e w1 ⟨rfl, b1⟩
    obtain ⟨n0, n1, n2, n3, n4⟩ := H.out.2.1.below b1 (by have := H.out.2.2.2.2.2; omega)
    simp only [Nat.zero_add] at n1 n2 n3 n4
    have c2 := implNoteOk w1 n
    have H1 : Hid (BT w1 w.heap.size ⟨ar, cr, ah, ch⟩ t ∧ NoteAt w1 (w.heap.size + 1) 0 n ∧ BT w1 (w.heap.size + 2) ⟨none, 0, none, 0⟩ ⟨0, 0, 0, 0, [], [], 0⟩ ∧ Below w.heap.size w w1 ∧ SlT w1 ⟨ar, cr, ah, ch⟩ t ∧ w.heap.size + 3 ≤ w1.heap.size) := ⟨H.out.1.later b1, H.out.2.1.below b1 (by have := H.out.2.2.2.2.2; omega), H.out.2.2.1.later b1, H.out.2.2.2.1.trans (b1.mono H.out.2.2.2.1.size), H.out.2.2.2.2.1.later b1, by have := H.out.2.2.2.2.2; have := b1.size; omega⟩
    clear b1 H
    go_wp2_with fail
    refine c2.mono ?_
    clear c2 n0 n1 n2 n3 n4
    rintro e w2 ⟨rfl, b2⟩
    have H2 : Hid (BT w2 w.heap.size ⟨ar, cr, ah, ch⟩ t ∧ NoteAt w2 (w.heap.size + 1) 0 n ∧ BT w2 (w.heap.size + 2) ⟨none, 0, none, 0⟩ ⟨0, 0, 0, 0, [], [], 0⟩ ∧ Below w.heap.size w w2 ∧ SlT w2 ⟨ar, cr, ah, ch⟩ t ∧ w.heap.size + 3 ≤ w2.heap.size) := ⟨H1.out.1.later b2, H1.out.2.1.below b2 (by have := H1.out.2.2.2.2.2; omega), H1.out.2.2.1.later b2, H1.out.2.2.2.1.trans (b2.mono H1.out.2.2.2.1.size), H1.out.2.2.2.2.1.later b2, by have := H1.out.2.2.2.2.2; have := b2.size; omega⟩
    clear b2 H1
    cases hO : noteOkB n with
    | false =>
      have HN : Hid (addN t n = noT ∧ addNB t n = false) := ⟨by simp [addN, hO], by simp [addNB, hO]⟩
      have KZ : Hid (BT w2 (w.heap.size + 2) ⟨none, 0, none, 0⟩ ⟨0, 0, 0, 0, [], [], 0⟩ ∧ Below w.heap.size w w2) := ⟨H2.out.2.2.1, H2.out.2.2.2.1⟩
      clear H2
      obtain ⟨r0, r1, r2, r3, r4, r5, r6, fr, -⟩ := KZ.out.1
      have yR5 := KZ.out.1.put ⟨none, 0, none, 0⟩ noT
      simp only [putT, noT, List.length_nil] at yR5
      obtain ⟨u0, u1, u2, u3, u4, u5, u6, -, -⟩ := yR5
      have KU := hidOf (And.intro u0 (And.intro u1 (And.intro u2 (And.intro u3 (And.intro u4 (And.intro u5 u6))))))
      clear u0 u1 u2 u3 u4 u5 u6
      have f0 := fr 0
      have f1 := fr 1
      have f2 := fr 2
      have f3 := fr 3
      have f4 := fr 4
      have f5 := fr 5
      have f6 := fr 6
      clear fr
      simp only [List.length_nil] at r4 r5
      go_wp2
      obtain ⟨u0, u1, u2, u3, u4, u5, u6⟩ := KU.out
      refine bodyPost_ret (v := .tuple #[.agg #[.int .i64 0, .int .i64 0, .int .i64 0, .int .i64 0, .slice none 0 0, .slice none 0 0, .int .i64 0], .bool false]) (by simp [results, Try.results10, go_sem, u0, u1, u2, u3, u4, u5, u6]) rfl ?_
      rw [HN.out.1, HN.out.2]
      exact TAns.zero (putT_below (s := w.heap.size + 2) (v := ⟨none, 0, none, 0⟩) (t := noT) KZ.out.2 (by omega))
    | true =>
      have l12 := (txB_lens hB).1
      have l12' := (txB_lens hB).2
      have HT : Hid ((∀ s ∈ t.reads, noteOkB s = true) ∧ noUp2 t.reads ∧ noteOkB n = true) := ⟨(txB_no hB).1, (txB_no hB).2, hO⟩
      have c3 := ownTx_any w2 ⟨ar, cr, ah, ch⟩ t (by omega) (by omega) H2.out.2.2.2.2.1
      simp only [TV.val] at c3
      obtain ⟨p0, p1, p2, p3, p4, p5, p6, -, -⟩ := H2.out.1
      dsimp only at p4 p5
      go_wp2_with fail
      refine c3.mono ?_
      clear c3 p0 p1 p2 p3 p4 p5 p6
      rintro e w3 ⟨a4, c4, h4, d4, PR, PS, rfl, o3, b3⟩
      simp only [TV.val]
      obtain ⟨X3, hX3⟩ : ∃ X, X = w3.alloc (.cells #[.int .i64 t.id, .int .i64 t.home, .int .i64 t.phase, .int .i64 t.count, .slice a4 t.reads.length c4, .slice h4 t.sets.length d4, .int .i64 t.stamp] 27) := ⟨_, rfl⟩
      have b3' : Below w3.heap.size w3 X3 := by rw [hX3]; exact (Below.refl _ _).alloc (Nat.le_refl _) _
      have b23 : Below w2.heap.size w2 X3 := b3.trans (b3'.mono b3.size)
      have x3 : BT X3 w3.heap.size ⟨a4, c4, h4, d4⟩ t := by rw [hX3]; exact BT.box w3 ⟨a4, c4, h4, d4⟩ t _
      have H3 : Hid (NoteAt X3 (w.heap.size + 1) 0 n ∧ BT X3 (w.heap.size + 2) ⟨none, 0, none, 0⟩ ⟨0, 0, 0, 0, [], [], 0⟩ ∧ Below w.heap.size w X3 ∧ w.heap.size + 3 ≤ w3.heap.size ∧ BT X3 w3.heap.size ⟨a4, c4, h4, d4⟩ t ∧ OT X3 w2.heap.size ⟨a4, c4, h4, d4⟩ t PR PS ∧ (∀ q, OfT PR PS q → w.heap.size + 3 ≤ q ∧ q < w3.heap.size) ∧ w3.heap.size < X3.heap.size) := ⟨H2.out.2.1.below b23 (by have := H2.out.2.2.2.2.2; omega), H2.out.2.2.1.later b23, H2.out.2.2.2.1.trans (b23.mono H2.out.2.2.2.1.size), by have := H2.out.2.2.2.2.2; have := b3.size; omega, x3, o3.later b3', fun q hq => ⟨by have := (o3.of hq).1; have := H2.out.2.2.2.2.2; omega, (o3.of hq).2⟩, x3.lt⟩
      clear b3 b3' b23 x3 o3 H2
      have c4' := noPileOf_any X3 a4 c4 t.reads (by omega) H3.out.2.2.2.2.2.1.sl.r HT.out.1 HT.out.2.1
      have k4 := H3.out.2.2.2.2.1.c4
      dsimp only at k4
      rw [hX3] at k4
      go_wp2_with fail
      rw [← hX3]
      clear hX3 k4
      refine c4'.mono ?_
      clear c4'
      rintro e w4 ⟨p, mb, m, pv, rfl, hp, hm, b4⟩
      obtain ⟨n0, n1, n2, n3, n4⟩ := H3.out.1.below b4 (by have := H3.out.2.2.2.1; have := H3.out.2.2.2.2.2.2.2; omega)
      simp only [Nat.zero_add] at n1 n2 n3 n4
      have cC := noCell_any w4 n
      have H4 : Hid (PinB w4 X3.heap.size p mb m pv t.reads ∧ Below X3.heap.size X3 w4) := ⟨hp, b4⟩
      clear hp b4
      go_wp2_with fail
      refine cC.mono ?_
      clear cC n0 n1 n2 n3 n4
      rintro e w5 ⟨rfl, b5⟩
      have cH := noHas_any w5 X3.heap.size p mb m pv t.reads n.region n.slot (H4.out.1.later b5) (noOk_in HT.out.2.2).1 (noOk_in HT.out.2.2).2
      have H5 : Hid (PinB w5 X3.heap.size p mb m pv t.reads ∧ Below X3.heap.size X3 w5) := ⟨H4.out.1.later b5, H4.out.2.trans (b5.mono H4.out.2.size)⟩
      clear b5 H4
      go_wp2_with fail
      refine cH.mono ?_
      clear cH
      rintro e w6 ⟨rfl, b6⟩
      have H6 : Hid (PinB w6 X3.heap.size p mb m pv t.reads ∧ Below X3.heap.size X3 w6) := ⟨H5.out.1.later b6, H5.out.2.trans (b6.mono H5.out.2.size)⟩
      clear b6 H5
      cases hF : (noW t.reads n.region n.slot).isSome with
      | true =>
        have HN : Hid (addN t n = t ∧ addNB t n = true) := ⟨by simp [addN, hB, hO, hF], by simp [addNB, hB, hO, hF]⟩
        obtain ⟨o0, o1, o2, o3, o4, o5, o6, -, -⟩ := H3.out.2.2.2.2.1.later H6.out.2
        have zR := H3.out.2.1.later H6.out.2
        obtain ⟨r0, r1, r2, r3, r4, r5, r6, fr, -⟩ := zR
        have yR5 := (H3.out.2.1.later H6.out.2).put ⟨a4, c4, h4, d4⟩ t
        simp only [putT] at yR5
        obtain ⟨u0, u1, u2, u3, u4, u5, u6, -, -⟩ := yR5
        have KU := hidOf (And.intro u0 (And.intro u1 (And.intro u2 (And.intro u3 (And.intro u4 (And.intro u5 u6))))))
        clear u0 u1 u2 u3 u4 u5 u6
        have f0 := fr 0
        have f1 := fr 1
        have f2 := fr 2
        have f3 := fr 3
        have f4 := fr 4
        have f5 := fr 5
        have f6 := fr 6
        clear fr
        dsimp only at o4 o5 r4 r5
        go_wp2
        obtain ⟨u0, u1, u2, u3, u4, u5, u6⟩ := KU.out
        refine bodyPost_ret (v := .tuple #[.agg #[.int .i64 t.id, .int .i64 t.home, .int .i64 t.phase, .int .i64 t.count, .slice a4 t.reads.length c4, .slice h4 t.sets.length d4, .int .i64 t.stamp], .bool true]) (by simp [results, Try.results10, go_sem, u0, u1, u2, u3, u4, u5, u6]) rfl ?_
        rw [HN.out.1, HN.out.2]
        obtain ⟨-, -, g4, g6, -, g8, g9, -⟩ := H3.out
        have g4' := g4.trans (H6.out.2.mono g4.size)
        refine ⟨a4, c4, h4, d4, PR, PS, rfl, ?_, putT_below (s := w.heap.size + 2) (v := ⟨a4, c4, h4, d4⟩) (t := t) g4' (by omega)⟩
        exact ((g8.later H6.out.2).keep (w' := putT w6 (w.heap.size + 2) ⟨a4, c4, h4, d4⟩ t) (by rw [putT_size]; exact Nat.le_refl _) (fun q _ hq => putT_block (by have := (g9 q hq).1; omega))).low (fun q hq => by have := (g9 q hq).1; omega)
      | false =>
        have cF := noFull_any w6 X3.heap.size p mb m pv t.reads H6.out.1
        go_wp2_with fail
        refine cF.mono ?_
        clear cF
        rintro e w6' ⟨rfl, rfl⟩
        by_cases h12 : t.reads.length = 12
        · have d12 : decide (12 ≤ t.reads.length) = true := by simp; omega
          rw [d12]
          have HN : Hid (addN t n = noT ∧ addNB t n = false) := ⟨by simp [addN, hB, hO, hF, h12], by simp [addNB, hB, hO, hF, h12]⟩
          have KZ : Hid (BT w6' (w.heap.size + 2) ⟨none, 0, none, 0⟩ ⟨0, 0, 0, 0, [], [], 0⟩ ∧ Below w.heap.size w w6') := ⟨H3.out.2.1.later H6.out.2, H3.out.2.2.1.trans (H6.out.2.mono H3.out.2.2.1.size)⟩
          clear H3 H6 d12
          obtain ⟨r0, r1, r2, r3, r4, r5, r6, fr, -⟩ := KZ.out.1
          have yR5 := KZ.out.1.put ⟨none, 0, none, 0⟩ noT
          simp only [putT, noT, List.length_nil] at yR5
          obtain ⟨u0, u1, u2, u3, u4, u5, u6, -, -⟩ := yR5
          have KU := hidOf (And.intro u0 (And.intro u1 (And.intro u2 (And.intro u3 (And.intro u4 (And.intro u5 u6))))))
          clear u0 u1 u2 u3 u4 u5 u6
          have f0 := fr 0
          have f1 := fr 1
          have f2 := fr 2
          have f3 := fr 3
          have f4 := fr 4
          have f5 := fr 5
          have f6 := fr 6
          clear fr
          simp only [List.length_nil] at r4 r5
          go_wp2
          obtain ⟨u0, u1, u2, u3, u4, u5, u6⟩ := KU.out
          refine bodyPost_ret (v := .tuple #[.agg #[.int .i64 0, .int .i64 0, .int .i64 0, .int .i64 0, .slice none 0 0, .slice none 0 0, .int .i64 0], .bool false]) (by simp [results, Try.results10, go_sem, u0, u1, u2, u3, u4, u5, u6]) rfl ?_
          rw [HN.out.1, HN.out.2]
          exact TAns.zero (putT_below (s := w.heap.size + 2) (v := ⟨none, 0, none, 0⟩) (t := noT) KZ.out.2 (by omega))
        · have d12 : decide (12 ≤ t.reads.length) = false := by simp; omega
          rw [d12]
          have HN : Hid (addN t n = ⟨t.id, t.home, t.phase, t.count, insN t.reads n, t.sets, t.stamp⟩ ∧ addNB t n = true) := ⟨by simp [addN, hB, hO, hF, h12], by simp [addNB, hB, hO, h12]⟩
          have hno : noW t.reads n.region n.slot = none := by cases e : noW t.reads n.region n.slot <;> simp_all
          have hup := insN_up HT.out.2.1 HT.out.1 HT.out.2.2 hno
          obtain ⟨n0, n1, n2, n3, n4⟩ := H3.out.1.below H6.out.2 (by have := H3.out.2.2.2.1; have := H3.out.2.2.2.2.2.2.2; omega)
          simp only [Nat.zero_add] at n1 n2 n3 n4
          have cP := noPutAny w6' X3.heap.size p mb m pv t.reads n H6.out.1 (by omega) (by omega) HT.out.2.2 hno H6.out.2.size (noUp2_hp HT.out.2.1)
          have KU0 := hidOf hup
          clear hup d12 hno
          go_wp2_with fail
          refine cP.mono ?_
          clear cP n0 n1 n2 n3 n4
          rintro e w7 ⟨rfl, q, cap, m', ys, hm', hp7, hpm, hhp, b7⟩
          have b37 : Below X3.heap.size X3 w7 := H6.out.2.trans b7
          have hyl : ys.length = t.reads.length + 1 := by have := hpm.length_eq; simpa using this
          have hdis : ys.Pairwise (fun a b => noR a ≠ noR b) := ((hpm.trans (insN_perm t.reads n).symm).symm.pairwise_iff (fun {a b} (h : noR a ≠ noR b) => h.symm)).1 (KU0.out.imp (fun h => Int.ne_of_lt h))
          have cI := noInOrder_any w7 X3.heap.size p q mb m' cap ys hp7 (by omega) (by omega) hhp hdis
          have H7 : Hid (Below X3.heap.size X3 w7 ∧ X3.heap.size ≤ p ∧ X3.heap.size ≤ q ∧ X3.heap.size ≤ mb ∧ ys.Perm (t.reads ++ [n])) := ⟨b37, hp7.bp, hp7.bq, hp7.bm, hpm⟩
          clear b37 b7 hp7 hpm hhp hdis hm' hyl H6
          go_wp2_with fail
          refine cI.mono ?_
          clear cI
          rintro e w8 ⟨v8, zs, rfl, row8, pm8, up8, k8⟩
          have b38 : Below X3.heap.size X3 w8 := H7.out.1.trans (k8.below (fun x hx => by obtain ⟨-, h1, h2, h3, -⟩ := H7.out; rcases hx with rfl | rfl | rfl <;> assumption) H7.out.1.size)
          have hzs : zs = insN t.reads n := HeapP.rise_eq noR up8 KU0.out (pm8.trans (H7.out.2.2.2.2.trans (insN_perm t.reads n).symm))
          have HZ := hidOf hzs
          obtain ⟨a2, c2, rfl, -⟩ := row8.form
          have xB : BT w8 w3.heap.size ⟨a4, c4, h4, d4⟩ t := H3.out.2.2.2.2.1.later b38
          have k4 := xB.c4
          have k4f := xB.fz 4
          dsimp only at k4
          have h77 : X3.heap.size ≤ w7.heap.size := H7.out.1.size
          have KF : Hid (BT (w8.setCell ⟨w3.heap.size, 4, none⟩ (.slice a2 zs.length c2)) w3.heap.size ⟨a2, c2, h4, d4⟩ (⟨t.id, t.home, t.phase, t.count, zs, t.sets, t.stamp⟩ : T7) ∧ BT (w8.setCell ⟨w3.heap.size, 4, none⟩ (.slice a2 zs.length c2)) (w.heap.size + 2) ⟨none, 0, none, 0⟩ ⟨0, 0, 0, 0, [], [], 0⟩ ∧ RowN w8 w7.heap.size (.slice a2 zs.length c2) zs ∧ Below X3.heap.size X3 w8 ∧ X3.heap.size ≤ w7.heap.size) := ⟨xB.set4 a2 c2 zs, (H3.out.2.1.later b38).far (by dsimp only; have := H3.out.2.2.2.1; omega) _, row8, b38, h77⟩
          clear hzs row8 pm8 up8 k8 b38 xB h77 H7 KU0
          have yR5 := KF.out.2.1.put ⟨a2, c2, h4, d4⟩ (⟨t.id, t.home, t.phase, t.count, zs, t.sets, t.stamp⟩ : T7)
          simp only [putT] at yR5
          obtain ⟨u0, u1, u2, u3, u4, u5, u6, -, -⟩ := yR5
          have KU := hidOf (And.intro u0 (And.intro u1 (And.intro u2 (And.intro u3 (And.intro u4 (And.intro u5 u6))))))
          clear u0 u1 u2 u3 u4 u5 u6
          obtain ⟨o0, o1, o2, o3, o4, o5, o6, -, -⟩ := KF.out.1
          obtain ⟨r0, r1, r2, r3, r4, r5, r6, fr, -⟩ := KF.out.2.1
          have f0 := fr 0
          have f1 := fr 1
          have f2 := fr 2
          have f3 := fr 3
          have f4 := fr 4
          have f5 := fr 5
          have f6 := fr 6
          clear fr
          dsimp only at o0 o1 o2 o3 o4 o5 o6 r4 r5
          go_wp2
          obtain ⟨u0, u1, u2, u3, u4, u5, u6⟩ := KU.out
          refine bodyPost_ret (v := .tuple #[.agg #[.int .i64 t.id, .int .i64 t.home, .int .i64 t.phase, .int .i64 t.count, .slice a2 zs.length c2, .slice h4 t.sets.length d4, .int .i64 t.stamp], .bool true]) (by simp [results, Try.results10, go_sem, u0, u1, u2, u3, u4, u5, u6]) rfl ?_
          rw [HN.out.1, HN.out.2, ← HZ.out]
          obtain ⟨g1, g2, g3, g4, g5⟩ := KF.out
          obtain ⟨-, -, j4, j6, -, j8, j9, j10⟩ := H3.out
          have bX : Below w.heap.size w (w8.setCell ⟨w3.heap.size, 4, none⟩ (.slice a2 zs.length c2)) := (j4.trans (g4.mono j4.size)).setCell (p := ⟨w3.heap.size, 4, none⟩) (by dsimp only; omega) _
          refine ⟨a2, c2, h4, d4, fun q => (Value.slice a2 zs.length c2).ownBlock = some q, PS, rfl, ?_, putT_below (s := w.heap.size + 2) (v := ⟨a2, c2, h4, d4⟩) (t := (⟨t.id, t.home, t.phase, t.count, zs, t.sets, t.stamp⟩ : T7)) bX (by omega)⟩
          obtain ⟨_, _, e2, ow2⟩ := g3.form
          cases e2
          have ot : OT w8 w.heap.size ⟨a2, c2, h4, d4⟩ (⟨t.id, t.home, t.phase, t.count, zs, t.sets, t.stamp⟩ : T7) (fun q => (Value.slice a2 zs.length c2).ownBlock = some q) PS := ⟨ow2, (j8.later g4).s, fun q h1 h2 => by have := (g3.lt h1).1; have := (j9 q (.inr h2)).2; omega, fun q h1 => ⟨by have := (g3.lt h1).1; omega, (g3.lt h1).2⟩, fun q h1 => ⟨by have := (j9 q (.inr h1)).1; omega, ((j8.later g4).sB q h1).2⟩⟩
          have hne : ∀ q, OfT (fun q => (Value.slice a2 zs.length c2).ownBlock = some q) PS q → q ≠ w3.heap.size ∧ q ≠ w.heap.size + 2 := fun q hq => by
            rcases hq with hq | hq
            · have := (g3.lt hq).1; omega
            · have := j9 q (.inr hq); omega
          have ot2 : OT (w8.setCell ⟨w3.heap.size, 4, none⟩ (.slice a2 zs.length c2)) w.heap.size ⟨a2, c2, h4, d4⟩ (⟨t.id, t.home, t.phase, t.count, zs, t.sets, t.stamp⟩ : T7) (fun q => (Value.slice a2 zs.length c2).ownBlock = some q) PS := ot.keep (by simp [World.setCell]) (fun q _ hq => Below.heap_setCell _ _ _ _ (hne q hq).1)
          exact ot2.keep (w' := putT (w8.setCell ⟨w3.heap.size, 4, none⟩ (.slice a2 zs.length c2)) (w.heap.size + 2) ⟨a2, c2, h4, d4⟩ (⟨t.id, t.home, t.phase, t.count, zs, t.sets, t.stamp⟩ : T7)) (by rw [putT_size]; exact Nat.le_refl _) (fun q _ hq => putT_block (hne q hq).2)
def foundS (xs : List S5) (r s : Int) : S5 := match seW xs r s with | some i => atSe xs i | none => ⟨0, 0, 0, false, 0⟩
theorem BS.set5 {X : World} {q : Nat} {y0 : S5} (h : BS X q y0) (y : S5) : BS ((((((X).setCell ⟨q, 0, none⟩ (.int .i64 y.region)).setCell ⟨q, 0 + 1, none⟩ (.int .i64 y.slot)).setCell ⟨q, 0 + 2, none⟩ (.int .i64 y.value)).setCell ⟨q, 0 + 3, none⟩ (.bool y.used)).setCell ⟨q, 0 + 4, none⟩ (.int .i64 y.version)) q y := by
  obtain ⟨⟨c0, c1, c2, c3, c4⟩, f⟩ := h
  simp only [Nat.zero_add] at *
  refine ⟨?_, fun j => by simp only [World.frozen?_setCell]; exact f j⟩
  have := SetAt.put (o := 0) y c0 (by simpa using c1) (by simpa using c2) (by simpa using c3) (by simpa using c4)
  simpa using this
set_option maxHeartbeats 4000000 in
theorem seFind_any (w : World) (base p mb n : Nat) (v : Value) (xs : List S5) (r s : Int) (h : PisB w base p mb n v xs) (_ : xs.length ≤ 1000) (h1 : inB 0 5 r = true) (h2 : inB 0 5 s = true) :
    Calls Try.prog 56 #[.pointer (some ⟨p, 0, none⟩), .agg #[.int .i64 r, .int .i64 s]] w fun e w' => e = .returned (.tuple #[.agg #[.int .i64 (foundS xs r s).region, .int .i64 (foundS xs r s).slot, .int .i64 (foundS xs r s).value, .bool (foundS xs r s).used, .int .i64 (foundS xs r s).version], .bool (seW xs r s).isSome]) ∧ Below w.heap.size w w' := by
  obtain ⟨W1, hW1⟩ : ∃ W, W = w.alloc (.cells #[.int .i64 r, .int .i64 s] 72) := ⟨_, rfl⟩
  have b1 : Below w.heap.size w W1 := by rw [hW1]; exact (Below.refl _ _).alloc (Nat.le_refl _) _
  have z1 : W1.heap.size = w.heap.size + 1 := by rw [hW1]; simp
  obtain ⟨W0, hW0⟩ : ∃ W, W = W1.alloc (.cells #[.int .i64 0, .int .i64 0, .int .i64 0, .bool false, .int .i64 0] 36) := ⟨_, rfl⟩
  have b2 : Below W1.heap.size W1 W0 := by rw [hW0]; exact (Below.refl _ _).alloc (Nat.le_refl _) _
  have b0 : Below w.heap.size w W0 := b1.trans (b2.mono b1.size)
  have z0 : W0.heap.size = w.heap.size + 2 := by rw [hW0]; simp [z1]
  have y0 : BS W0 (w.heap.size + 1) ⟨0, 0, 0, false, 0⟩ := by rw [hW0, ← z1]; exact BS.box W1 ⟨0, 0, 0, false, 0⟩ _
  have h0 := h.later b0
  have lk : ∀ d os, (Instr.lookup 103 (.map (some mb)) (cKey r s) true).run Try.prog (grow (redrawn W0 d) os) = .ok (.tuple #[.int .i64 (((seW xs r s).getD 0 : Nat) : Int), .bool (seW xs r s).isSome]) (grow (redrawn W0 d) os) := fun d os => ((h0.mp).later (below_regrown W0 d os)).look h1 h2
  have m1 : ∀ d os, (grow (redrawn W0 d) os).cell? ⟨p, 1, none⟩ = some (.map (some mb)) := fun d os => ((below_regrown W0 d os).cell (p := ⟨p, 1, none⟩) h0.lp).trans h0.c1
  have t0 : ∀ d os, (grow (redrawn W0 d) os).cell? ⟨w.heap.size, 0, none⟩ = some (.int .i64 r) := fun d os => ((below_regrown W0 d os).cell (p := ⟨w.heap.size, 0, none⟩) (by rw [z0]; simp)).trans ((b2.cell (p := ⟨w.heap.size, 0, none⟩) (by rw [z1]; simp)).trans (by rw [hW1]; go_simp))
  have t1 : ∀ d os, (grow (redrawn W0 d) os).cell? ⟨w.heap.size, 1, none⟩ = some (.int .i64 s) := fun d os => ((below_regrown W0 d os).cell (p := ⟨w.heap.size, 1, none⟩) (by rw [z0]; simp)).trans ((b2.cell (p := ⟨w.heap.size, 1, none⟩) (by rw [z1]; simp)).trans (by rw [hW1]; go_simp))
  have H : Hid (Below w.heap.size w W0 ∧ PisB W0 base p mb n v xs ∧ BS W0 (w.heap.size + 1) ⟨0, 0, 0, false, 0⟩ ∧ W0.heap.size = w.heap.size + 2) := ⟨b0, h0, y0, z0⟩
  rw [hW1] at hW0
  clear h h0 b0 z0 h1 h2 b1 b2 y0 z1 hW1 W1
  simp only [cKey] at lk
  cases hW : seW xs r s with
  | none =>
    have e1 : foundS xs r s = ⟨0, 0, 0, false, 0⟩ := by simp [foundS, hW]
    rw [e1]
    rw [hW] at lk
    simp only [Option.getD_none, Option.isSome_none] at lk ⊢
    go_enter Try.func56, Try.ntmps56
    go_wp2_with fail
    rw [← hW0]
    clear hW0
    refine wp_region_quiet_below (by kernel_rfl) (by kernel_rfl) ?_
    repeat (go_big_quiet_step (fail))
    refine wpQuiet_nil ?_
    intro _ hw'
    obtain ⟨⟨dq', osq⟩, hw''⟩ := hw'
    subst hw''
    have bq := below_regrown W0 dq' osq
    have K1 : Hid (Below w.heap.size w (grow (redrawn W0 dq') osq) ∧ BS (grow (redrawn W0 dq') osq) (w.heap.size + 1) ⟨0, 0, 0, false, 0⟩ ∧ w.heap.size + 2 ≤ (grow (redrawn W0 dq') osq).heap.size) := ⟨H.out.1.trans (bq.mono H.out.1.size), H.out.2.2.1.below bq (by have := H.out.2.2.2; omega), by have := bq.size; have := H.out.2.2.2; omega⟩
    clear bq lk m1 t0 t1
    generalize grow (redrawn W0 dq') osq = U at *
    obtain ⟨V, hV⟩ : ∃ V, V = U.alloc (.cells #[.int .i64 0, .int .i64 0, .int .i64 0, .bool false, .int .i64 0] 36) := ⟨_, rfl⟩
    have bV : Below U.heap.size U V := by rw [hV]; exact (Below.refl _ _).alloc (Nat.le_refl _) _
    obtain ⟨⟨n0, n1, n2, n3, n4⟩, nf⟩ := K1.out.2.1.below bV (by have := K1.out.2.2; omega)
    simp only [Nat.zero_add] at n0 n1 n2 n3 n4
    have f0 := nf 0
    have f1 := nf 1
    have f2 := nf 2
    have f3 := nf 3
    have f4 := nf 4
    have u := (K1.out.2.1.below bV (by have := K1.out.2.2; omega)).set5 ⟨0, 0, 0, false, 0⟩
    obtain ⟨⟨u0, u1, u2, u3, u4⟩, -⟩ := u
    simp only [Nat.zero_add] at u0 u1 u2 u3 u4
    have KU := hidOf (And.intro u0 (And.intro u1 (And.intro u2 (And.intro u3 u4))))
    have KV : Hid (Below w.heap.size w V) := K1.out.1.trans (bV.mono K1.out.1.size)
    clear nf bV u0 u1 u2 u3 u4
    rw [hV] at n0 n1 n2 n3 n4 f0 f1 f2 f3 f4
    go_wp2
    rw [← hV]
    obtain ⟨u0, u1, u2, u3, u4⟩ := KU.out
    refine bodyPost_ret (v := .tuple #[.agg #[.int .i64 0, .int .i64 0, .int .i64 0, .bool false, .int .i64 0], .bool false]) (by simp [results, Try.results56, go_sem, u0, u1, u2, u3, u4]) rfl ⟨rfl, ?_⟩
    exact ((((KV.out.setCell (p := ⟨w.heap.size + 1, 0, none⟩) (by simp) _).setCell (p := ⟨w.heap.size + 1, 1, none⟩) (by simp) _).setCell (p := ⟨w.heap.size + 1, 2, none⟩) (by simp) _).setCell (p := ⟨w.heap.size + 1, 3, none⟩) (by simp) _).setCell (p := ⟨w.heap.size + 1, 4, none⟩) (by simp) _
  | some i =>
    have e1 : foundS xs r s = atSe xs i := by simp [foundS, hW]
    obtain ⟨hi, -, -⟩ := seW_at hW
    rw [e1]
    rw [hW] at lk
    simp only [Option.getD_some, Option.isSome_some] at lk ⊢
    go_enter Try.func56, Try.ntmps56
    go_wp2_with fail
    rw [← hW0]
    clear hW0
    refine wp_region_quiet_below (by kernel_rfl) (by kernel_rfl) ?_
    repeat (go_big_quiet_step (fail))
    refine wpQuiet_nil ?_
    intro _ hw'
    obtain ⟨⟨dq', osq⟩, hw''⟩ := hw'
    subst hw''
    have bq := below_regrown W0 dq' osq
    have K1 : Hid (Below w.heap.size w (grow (redrawn W0 dq') osq) ∧ BS (grow (redrawn W0 dq') osq) (w.heap.size + 1) ⟨0, 0, 0, false, 0⟩ ∧ w.heap.size + 2 ≤ (grow (redrawn W0 dq') osq).heap.size ∧ PisB (grow (redrawn W0 dq') osq) base p mb n v xs) := ⟨H.out.1.trans (bq.mono H.out.1.size), H.out.2.2.1.below bq (by have := H.out.2.2.2; omega), by have := bq.size; have := H.out.2.2.2; omega, H.out.2.1.later bq⟩
    clear bq lk m1 t0 t1
    generalize grow (redrawn W0 dq') osq = U at *
    obtain ⟨⟨n0, n1, n2, n3, n4⟩, nf⟩ := K1.out.2.1
    simp only [Nat.zero_add] at n0 n1 n2 n3 n4
    have f0 := nf 0
    have f1 := nf 1
    have f2 := nf 2
    have f3 := nf 3
    have f4 := nf 4
    obtain ⟨⟨u0, u1, u2, u3, u4⟩, -⟩ := K1.out.2.1.set5 (atSe xs i)
    simp only [Nat.zero_add] at u0 u1 u2 u3 u4
    have KU := hidOf (And.intro u0 (And.intro u1 (And.intro u2 (And.intro u3 u4))))
    obtain ⟨a, c, rfl, ho⟩ := K1.out.2.2.2.row.form
    rcases ho with ho | ⟨q, rfl, hq, hlq, hsa, -⟩
    · rw [ho] at hi; simp at hi
    have m0 := K1.out.2.2.2.c0
    obtain ⟨c0, c1, c2, c3, c4⟩ := hsa i _ (atSe_of hi)
    simp only [Nat.zero_add] at c0 c1 c2 c3 c4
    have ii : (i : Int) < (xs.length : Int) := by omega
    clear nf u0 u1 u2 u3 u4 hsa hq hlq
    go_wp2
    obtain ⟨u0, u1, u2, u3, u4⟩ := KU.out
    refine bodyPost_ret (v := .tuple #[.agg #[.int .i64 (atSe xs i).region, .int .i64 (atSe xs i).slot, .int .i64 (atSe xs i).value, .bool (atSe xs i).used, .int .i64 (atSe xs i).version], .bool true]) (by simp [results, Try.results56, go_sem, u0, u1, u2, u3, u4]) rfl ⟨rfl, ?_⟩
    exact ((((K1.out.1.setCell (p := ⟨w.heap.size + 1, 0, none⟩) (by simp) _).setCell (p := ⟨w.heap.size + 1, 1, none⟩) (by simp) _).setCell (p := ⟨w.heap.size + 1, 2, none⟩) (by simp) _).setCell (p := ⟨w.heap.size + 1, 3, none⟩) (by simp) _).setCell (p := ⟨w.heap.size + 1, 4, none⟩) (by simp) _
set_option maxRecDepth 100000 in
set_option maxHeartbeats 8000000 in
theorem sePutOver (w : World) (base p mb n : Nat) (v : Value) (xs : List S5) (x : S5) (i : Nat) (h : PisB w base p mb n v xs) (_ : n ≤ 1000) (_ : xs.length ≤ 100) (hok : setOkB x = true) (hyes : seW xs x.region x.slot = some i) (hbs : base ≤ w.heap.size) :
    Calls Try.prog 59 #[.pointer (some ⟨p, 0, none⟩), .agg #[.int .i64 x.region, .int .i64 x.slot, .int .i64 x.value, .bool x.used, .int .i64 x.version]] w fun e w' => e = .returned (.tuple #[]) ∧ ∃ q cap, Pis w' base p q mb n cap (xs.set i x) ∧ Below base w w' := by
  obtain ⟨W0, hW0⟩ : ∃ W, W = w.alloc (.cells #[.int .i64 x.region, .int .i64 x.slot, .int .i64 x.value, .bool x.used, .int .i64 x.version] 36) := ⟨_, rfl⟩
  have b0 : Below w.heap.size w W0 := by rw [hW0]; exact (Below.refl _ _).alloc (Nat.le_refl _) _
  have z0 : W0.heap.size = w.heap.size + 1 := by rw [hW0]; simp
  have x0 : SetAt W0 w.heap.size 0 x := by rw [hW0]; exact SetAt.box w x _
  have h0 := h.later b0
  have hk := seOk_in hok
  have hpw : p < w.heap.size := h.lp
  have hmw : mb < w.heap.size := h.mp.lt
  have lk : ∀ d os, (Instr.lookup 103 (.map (some mb)) (cKey x.region x.slot) true).run Try.prog (grow (redrawn W0 d) os) = .ok (.tuple #[.int .i64 (i : Int), .bool true]) (grow (redrawn W0 d) os) := fun d os => by
    have hu := ((h0.mp).later (below_regrown W0 d os)).look hk.1 hk.2
    rw [hyes] at hu
    exact hu
  have lift : ∀ {b o : Nat} {u : Value}, b < W0.heap.size → W0.cell? ⟨b, o, none⟩ = some u → ∀ d os, (grow (redrawn W0 d) os).cell? ⟨b, o, none⟩ = some u := fun {b o u} hb hh d os => ((below_regrown W0 d os).cell (p := ⟨b, o, none⟩) hb).trans hh
  have m1 := lift (by omega) h0.c1
  have t0 := lift (by omega) x0.c0
  have t1 := lift (by omega) x0.c1
  have t2 := lift (by omega) x0.c2
  have t3 := lift (by omega) x0.c3
  have t4 := lift (by omega) x0.c4
  have cC : ∀ d os, Calls Try.prog 57 #[.agg #[.int .i64 x.region, .int .i64 x.slot, .int .i64 x.value, .bool x.used, .int .i64 x.version]] (grow (redrawn W0 d) os) fun e w'' => e = .returned (.agg #[.int .i64 x.region, .int .i64 x.slot]) ∧ ∃ p : Regrown, w'' = grow (redrawn W0 p.d) p.os := fun d os => Calls.regrown_of (seCell_any _ _)
  have hm : ∀ w : World, (method 247 36 (.agg #[.int .i64 x.region, .int .i64 x.slot, .int .i64 x.value, .bool x.used, .int .i64 x.version]) "loop.example/g00153/impl.cell").run Try.prog w = .ok (57, .agg #[.int .i64 x.region, .int .i64 x.slot, .int .i64 x.value, .bool x.used, .int .i64 x.version]) w := fun _ => by kernel_rfl
  have hi := (seW_at hyes).1
  have H : Hid (PisB W0 base p mb n v xs ∧ SetAt W0 w.heap.size 0 x ∧ Below w.heap.size w W0 ∧ W0.heap.size = w.heap.size + 1 ∧ base ≤ w.heap.size ∧ setOkB x = true ∧ v.ownBlock ≠ some w.heap.size) := ⟨h0, x0, b0, z0, hbs, hok, fun e => by have := (h.row.lt e).2; omega⟩
  clear h h0 x0 b0 z0 hbs hok lift hyes hk
  simp only [cKey, Nat.zero_add] at lk t0 t1 t2 t3 t4
  go_enter Try.func59, Try.ntmps59
  go_wp2_with fail
  rw [← hW0]
  clear hW0
  refine wp_region_quiet_below (by kernel_rfl) (by kernel_rfl) ?_
  repeat (go_big_quiet_step (exact cC _ _))
  refine wpQuiet_nil ?_
  intro _ hw'
  obtain ⟨⟨dq', osq⟩, hw''⟩ := hw'
  subst hw''
  have bq := below_regrown W0 dq' osq
  have K1 : Hid (PisB (grow (redrawn W0 dq') osq) base p mb n v xs ∧ SetAt (grow (redrawn W0 dq') osq) w.heap.size 0 x ∧ Below w.heap.size w (grow (redrawn W0 dq') osq) ∧ w.heap.size < (grow (redrawn W0 dq') osq).heap.size) := by
    obtain ⟨g1, g2, g3, g4, _⟩ := H.out
    have := bq.size
    exact ⟨g1.later bq, g2.below bq (by omega), g3.trans (bq.mono g3.size), by omega⟩
  clear bq m1 t0 t1 t2 t3 t4 cC lk
  obtain ⟨q, cap, hv, P1⟩ := K1.out.1.pil (fun e => by rw [e] at hi; simp at hi)
  go_upto_region 3 with fail
  generalize grow (redrawn W0 dq') osq = W1 at *
  have bd : Below W1.heap.size W1 W1.drew := (Below.refl _ _).drew
  have P2 := P1.later bd
  have hS : (fun X : World => X.cell? ⟨p, 0, none⟩ = some (.slice (some ⟨q, 0, none⟩) xs.length cap) ∧ SetAt X w.heap.size 0 x) W1.drew := ⟨P2.c0, K1.out.2.1.below bd K1.out.2.2.2⟩
  have rd := P2.rm
  have KP : Hid (Pis W1.drew base p q mb n cap xs ∧ Below W1.heap.size W1 W1.drew) := ⟨P2, bd⟩
  clear P1 P2 bd hm
  refine wp_region_z (fun z => z == 7) (fun X : World => X.cell? ⟨p, 0, none⟩ = some (.slice (some ⟨q, 0, none⟩) xs.length cap) ∧ SetAt X w.heap.size 0 x) (by kernel_rfl) ?_
  generalize W1.drew = Wd at *
  obtain ⟨v0, c0, f0⟩ := rd (i * 5) (by omega)
  obtain ⟨v1, c1, f1⟩ := rd (i * 5 + 1) (by omega)
  obtain ⟨v2, c2, f2⟩ := rd (i * 5 + 2) (by omega)
  obtain ⟨v3, c3, f3⟩ := rd (i * 5 + 3) (by omega)
  obtain ⟨v4, c4, f4⟩ := rd (i * 5 + 4) (by omega)
  have ii : (i : Int) < (xs.length : Int) := by omega
  clear rd
  refine wpZ_takeP (i := 0) (v := ?_) rfl (by kernel_rfl) (fun _ _ _ h => h) (Or.inl ⟨by rfl, ?_⟩) hS ?_
  rotate_left
  · (intro w _; go_simp; first | done | with_reducible rfl | (rw [if_pos (by omega)]) | (rw [if_pos (by omega)]; go_simp))
  simp only [Act.put]
  refine wpZ_takeP (i := 1) (v := ?_) rfl (by kernel_rfl) (fun _ _ _ h => h) (Or.inl ⟨by rfl, ?_⟩) hS ?_
  rotate_left
  · (intro w _; go_simp; first | done | with_reducible rfl | (rw [if_pos (by omega)]) | (rw [if_pos (by omega)]; go_simp))
  simp only [Act.put]
  refine wpZ_takeP (i := 2) (v := ?_) rfl (by kernel_rfl) (fun _ _ _ h => h) (Or.inl ⟨by rfl, ?_⟩) hS ?_
  rotate_left
  · (intro w _; go_simp; first | done | with_reducible rfl | (rw [if_pos (by omega)]) | (rw [if_pos (by omega)]; go_simp))
  simp only [Act.put]
  refine wpZ_take (i := 3) (v := ?_) rfl (by kernel_rfl) (fun _ _ _ h => h) (Or.inl ⟨by rfl, ?_⟩) hS ?_
  rotate_left
  · (intro w hSw; obtain ⟨s0, ⟨a0, a1, a2, a3, a4⟩⟩ := hSw; simp only [Nat.zero_add] at a0 a1 a2 a3 a4; go_simp; first | done | with_reducible rfl)
  simp only [Act.put]
  refine wpZ_takeP (i := 4) (v := ?_) rfl (by kernel_rfl) (fun _ _ _ h => h) (Or.inl ⟨by rfl, ?_⟩) hS ?_
  rotate_left
  · (intro w _; go_simp; first | done | with_reducible rfl | (rw [if_pos (by omega)]) | (rw [if_pos (by omega)]; go_simp))
  simp only [Act.put]
  refine wpZ_take (i := 5) (v := ?_) rfl (by kernel_rfl) (fun _ _ _ h => h) (Or.inl ⟨by rfl, ?_⟩) hS ?_
  rotate_left
  · (intro w hSw; obtain ⟨s0, ⟨a0, a1, a2, a3, a4⟩⟩ := hSw; simp only [Nat.zero_add] at a0 a1 a2 a3 a4; go_simp; first | done | with_reducible rfl)
  simp only [Act.put]
  refine wpZ_takeP (i := 6) (v := ?_) rfl (by kernel_rfl) (fun _ _ _ h => h) (Or.inl ⟨by rfl, ?_⟩) hS ?_
  rotate_left
  · (intro w _; go_simp; first | done | with_reducible rfl | (rw [if_pos (by omega)]) | (rw [if_pos (by omega)]; go_simp))
  simp only [Act.put]
  refine wpZ_ready (rs := [7]) (by kernel_rfl) (by simp) ?_
  refine AllZ.cons rfl (fun K hK => ?_) AllZ.nil
  go_simp
  refine hK.out _ _ (fun h => absurd (show false = true from h.symm.trans (by kernel_rfl)) (by decide)) ?_
  clear hK K
  refine wpZ_done (by kernel_rfl) ?_ _
  have hx : xs[i]? = some (atSe xs i) := atSe_of hi
  have P3 := KP.out.1.put5 hx x H.out.2.2.2.2.2.1
  have b3 : Below base w ((((((Wd).setCell ⟨q, i * 5, none⟩ (.int .i64 x.region)).setCell ⟨q, i * 5 + 1, none⟩ (.int .i64 x.slot)).setCell ⟨q, i * 5 + 2, none⟩ (.int .i64 x.value)).setCell ⟨q, i * 5 + 3, none⟩ (.bool x.used)).setCell ⟨q, i * 5 + 4, none⟩ (.int .i64 x.version)) := by
    have bW : Below base w Wd := (K1.out.2.2.1.trans (KP.out.2.mono K1.out.2.2.1.size)).mono H.out.2.2.2.2.1
    have hB := KP.out.1.bq
    exact ((((bW.setCell (p := ⟨q, _, none⟩) hB _).setCell (p := ⟨q, _, none⟩) hB _).setCell (p := ⟨q, _, none⟩) hB _).setCell (p := ⟨q, _, none⟩) hB _).setCell (p := ⟨q, _, none⟩) hB _
  have KE := hidOf (And.intro P3 b3)
  clear P3 b3 hx hS c0 c1 c2 c3 c4 f0 f1 f2 f3 f4
  go_wp2
  refine bodyPost_ret (v := .tuple #[]) (by simp [results, Try.results59, go_sem]) rfl ⟨rfl, q, cap, KE.out⟩
theorem BT.under {X Y : World} {B s : Nat} {v : TV} {t : T7} (h : BT X s v t) (hb : Below B X Y) (hs : s < B) : BT Y s v t := h.of_block (hb.block _ hs) hb.size
theorem OT.under {X Y : World} {B B0 : Nat} {v : TV} {t : T7} {PR PS : Nat → Prop} (h : OT X B0 v t PR PS) (hb : Below B X Y) (hq : ∀ q, OfT PR PS q → q < B) : OT Y B0 v t PR PS := h.keep hb.size (fun q _ ho => hb.block q (hq q ho))
set_option maxRecDepth 100000 in
set_option maxHeartbeats 8000000 in
theorem implAddSet_any (w : World) (v : TV) (t : T7) (n : S5) (hl : TL t) (hs : SlT w v t) :
    Calls Try.prog 14 #[v.val t, .agg #[.int .i64 n.region, .int .i64 n.slot, .int .i64 n.value, .bool n.used, .int .i64 n.version]] w (TAns w (addSe t n) (addSB t n)) := by
  obtain ⟨ar, cr, ah, ch⟩ := v
  simp only [TV.val]
  obtain ⟨W0, hW0⟩ : ∃ W, W = w.alloc (.cells #[.int .i64 t.id, .int .i64 t.home, .int .i64 t.phase, .int .i64 t.count, .slice ar t.reads.length cr, .slice ah t.sets.length ch, .int .i64 t.stamp] 27) := ⟨_, rfl⟩
  have z0 : W0.heap.size = w.heap.size + 1 := by rw [hW0]; simp
  have x0 : BT W0 w.heap.size ⟨ar, cr, ah, ch⟩ t := by rw [hW0]; exact BT.box w ⟨ar, cr, ah, ch⟩ t _
  have b0 : Below w.heap.size w W0 := by rw [hW0]; exact (Below.refl _ _).alloc (Nat.le_refl _) _
  obtain ⟨W1, hW1⟩ : ∃ W, W = W0.alloc (.cells #[.int .i64 n.region, .int .i64 n.slot, .int .i64 n.value, .bool n.used, .int .i64 n.version] 36) := ⟨_, rfl⟩
  have z1 : W1.heap.size = w.heap.size + 2 := by rw [hW1]; simp [z0]
  have x1 : BS W1 (w.heap.size + 1) n := by rw [hW1, ← z0]; exact BS.box W0 _ _
  have b1 : Below W0.heap.size W0 W1 := by rw [hW1]; exact (Below.refl _ _).alloc (Nat.le_refl _) _
  obtain ⟨W, hW⟩ : ∃ W, W = W1.alloc (.cells #[.int .i64 0, .int .i64 0, .int .i64 0, .int .i64 0, .slice none 0 0, .slice none 0 0, .int .i64 0] 27) := ⟨_, rfl⟩
  have zW : W.heap.size = w.heap.size + 3 := by rw [hW]; simp [z1]
  have x2 : BT W (w.heap.size + 2) ⟨none, 0, none, 0⟩ ⟨0, 0, 0, 0, [], [], 0⟩ := by rw [hW, ← z1]; exact BT.zero W1 _
  have b2 : Below W1.heap.size W1 W := by rw [hW]; exact (Below.refl _ _).alloc (Nat.le_refl _) _
  have bW : Below w.heap.size w W := (b0.trans (b1.mono b0.size)).trans (b2.mono (by omega))
  have c1 := implTxOk_any W ⟨ar, cr, ah, ch⟩ t hl (hs.later bW)
  simp only [TV.val] at c1
  have H : Hid (BT W w.heap.size ⟨ar, cr, ah, ch⟩ t ∧ BS W (w.heap.size + 1) n ∧ BT W (w.heap.size + 2) ⟨none, 0, none, 0⟩ ⟨0, 0, 0, 0, [], [], 0⟩ ∧ Below w.heap.size w W ∧ SlT W ⟨ar, cr, ah, ch⟩ t ∧ W.heap.size = w.heap.size + 3) := ⟨(x0.later b1).later b2, x1.below b2 (by omega), x2, bW, hs.later bW, zW⟩
  rw [hW1, hW0] at hW
  clear hW0 hW1 z0 x0 b0 z1 x1 b1 zW x2 b2 bW hs hl
  cases hB : txB t with
  | false =>
    rw [hB] at c1
    have HN : Hid (addSe t n = noT ∧ addSB t n = false) := ⟨by simp [addSe, hB], by simp [addSB, hB]⟩
    go_enter Try.func14, Try.ntmps14
    go_wp2_with fail
    rw [← hW]
    clear hW
    refine c1.mono ?_
    clear c1
    rintro e w1 ⟨rfl, b1⟩
    have KZ : Hid (BT w1 (w.heap.size + 2) ⟨none, 0, none, 0⟩ ⟨0, 0, 0, 0, [], [], 0⟩ ∧ Below w.heap.size w w1) := ⟨H.out.2.2.1.later b1, H.out.2.2.2.1.trans (b1.mono H.out.2.2.2.1.size)⟩
    clear b1 H
    obtain ⟨r0, r1, r2, r3, r4, r5, r6, fr, -⟩ := KZ.out.1
    have yR5 := KZ.out.1.put ⟨none, 0, none, 0⟩ noT
    simp only [putT, noT, List.length_nil] at yR5
    obtain ⟨u0, u1, u2, u3, u4, u5, u6, -, -⟩ := yR5
    have KU := hidOf (And.intro u0 (And.intro u1 (And.intro u2 (And.intro u3 (And.intro u4 (And.intro u5 u6))))))
    clear u0 u1 u2 u3 u4 u5 u6
    have f0 := fr 0
    have f1 := fr 1
    have f2 := fr 2
    have f3 := fr 3
    have f4 := fr 4
    have f5 := fr 5
    have f6 := fr 6
    clear fr
    simp only [List.length_nil] at r4 r5
    go_wp2
    obtain ⟨u0, u1, u2, u3, u4, u5, u6⟩ := KU.out
    refine bodyPost_ret (v := .tuple #[.agg #[.int .i64 0, .int .i64 0, .int .i64 0, .int .i64 0, .slice none 0 0, .slice none 0 0, .int .i64 0], .bool false]) (by simp [results, Try.results14, go_sem, u0, u1, u2, u3, u4, u5, u6]) rfl ?_
    rw [HN.out.1, HN.out.2]
    exact TAns.zero (putT_below (s := w.heap.size + 2) (v := ⟨none, 0, none, 0⟩) (t := noT) KZ.out.2 (by omega))
  | true =>
    rw [hB] at c1
    go_enter Try.func14, Try.ntmps14
    go_wp2_with fail
    rw [← hW]
    clear hW
    refine c1.mono ?_
    clear c1
    rintro e w1 ⟨rfl, b1⟩
    obtain ⟨⟨n0, n1, n2, n3, n4⟩, -⟩ := H.out.2.1.below b1 (by have := H.out.2.2.2.2.2; omega)
    simp only [Nat.zero_add] at n1 n2 n3 n4
    have c2 := implSetOk w1 n
    have H1 : Hid (BT w1 w.heap.size ⟨ar, cr, ah, ch⟩ t ∧ BS w1 (w.heap.size + 1) n ∧ BT w1 (w.heap.size + 2) ⟨none, 0, none, 0⟩ ⟨0, 0, 0, 0, [], [], 0⟩ ∧ Below w.heap.size w w1 ∧ SlT w1 ⟨ar, cr, ah, ch⟩ t ∧ w.heap.size + 3 ≤ w1.heap.size) := ⟨H.out.1.later b1, H.out.2.1.below b1 (by have := H.out.2.2.2.2.2; omega), H.out.2.2.1.later b1, H.out.2.2.2.1.trans (b1.mono H.out.2.2.2.1.size), H.out.2.2.2.2.1.later b1, by have := H.out.2.2.2.2.2; have := b1.size; omega⟩
    clear b1 H
    go_wp2_with fail
    refine c2.mono ?_
    clear c2 n0 n1 n2 n3 n4
    rintro e w2 ⟨rfl, b2⟩
    have H2 : Hid (BT w2 w.heap.size ⟨ar, cr, ah, ch⟩ t ∧ BS w2 (w.heap.size + 1) n ∧ BT w2 (w.heap.size + 2) ⟨none, 0, none, 0⟩ ⟨0, 0, 0, 0, [], [], 0⟩ ∧ Below w.heap.size w w2 ∧ SlT w2 ⟨ar, cr, ah, ch⟩ t ∧ w.heap.size + 3 ≤ w2.heap.size) := ⟨H1.out.1.later b2, H1.out.2.1.below b2 (by have := H1.out.2.2.2.2.2; omega), H1.out.2.2.1.later b2, H1.out.2.2.2.1.trans (b2.mono H1.out.2.2.2.1.size), H1.out.2.2.2.2.1.later b2, by have := H1.out.2.2.2.2.2; have := b2.size; omega⟩
    clear b2 H1
    cases hO : setOkB n with
    | false =>
      have HN : Hid (addSe t n = noT ∧ addSB t n = false) := ⟨by simp [addSe, hO], by simp [addSB, hO]⟩
      have KZ : Hid (BT w2 (w.heap.size + 2) ⟨none, 0, none, 0⟩ ⟨0, 0, 0, 0, [], [], 0⟩ ∧ Below w.heap.size w w2) := ⟨H2.out.2.2.1, H2.out.2.2.2.1⟩
      clear H2
      obtain ⟨r0, r1, r2, r3, r4, r5, r6, fr, -⟩ := KZ.out.1
      have yR5 := KZ.out.1.put ⟨none, 0, none, 0⟩ noT
      simp only [putT, noT, List.length_nil] at yR5
      obtain ⟨u0, u1, u2, u3, u4, u5, u6, -, -⟩ := yR5
      have KU := hidOf (And.intro u0 (And.intro u1 (And.intro u2 (And.intro u3 (And.intro u4 (And.intro u5 u6))))))
      clear u0 u1 u2 u3 u4 u5 u6
      have f0 := fr 0
      have f1 := fr 1
      have f2 := fr 2
      have f3 := fr 3
      have f4 := fr 4
      have f5 := fr 5
      have f6 := fr 6
      clear fr
      simp only [List.length_nil] at r4 r5
      go_wp2
      obtain ⟨u0, u1, u2, u3, u4, u5, u6⟩ := KU.out
      refine bodyPost_ret (v := .tuple #[.agg #[.int .i64 0, .int .i64 0, .int .i64 0, .int .i64 0, .slice none 0 0, .slice none 0 0, .int .i64 0], .bool false]) (by simp [results, Try.results14, go_sem, u0, u1, u2, u3, u4, u5, u6]) rfl ?_
      rw [HN.out.1, HN.out.2]
      exact TAns.zero (putT_below (s := w.heap.size + 2) (v := ⟨none, 0, none, 0⟩) (t := noT) KZ.out.2 (by omega))
    | true =>
      have l12 := (txB_lens hB).1
      have l12' := (txB_lens hB).2
      have HT : Hid ((∀ s ∈ t.sets, setOkB s = true) ∧ seUp2 t.sets ∧ setOkB n = true) := ⟨(txB_se hB).1, (txB_se hB).2, hO⟩
      have c3 := ownTx_any w2 ⟨ar, cr, ah, ch⟩ t (by omega) (by omega) H2.out.2.2.2.2.1
      simp only [TV.val] at c3
      obtain ⟨p0, p1, p2, p3, p4, p5, p6, -, -⟩ := H2.out.1
      dsimp only at p4 p5
      go_wp2_with fail
      refine c3.mono ?_
      clear c3 p0 p1 p2 p3 p4 p5 p6
      rintro e w3 ⟨a4, c4, h4, d4, PR, PS, rfl, o3, b3⟩
      simp only [TV.val]
      obtain ⟨X3, hX3⟩ : ∃ X, X = w3.alloc (.cells #[.int .i64 t.id, .int .i64 t.home, .int .i64 t.phase, .int .i64 t.count, .slice a4 t.reads.length c4, .slice h4 t.sets.length d4, .int .i64 t.stamp] 27) := ⟨_, rfl⟩
      have b3' : Below w3.heap.size w3 X3 := by rw [hX3]; exact (Below.refl _ _).alloc (Nat.le_refl _) _
      have b23 : Below w2.heap.size w2 X3 := b3.trans (b3'.mono b3.size)
      have x3 : BT X3 w3.heap.size ⟨a4, c4, h4, d4⟩ t := by rw [hX3]; exact BT.box w3 ⟨a4, c4, h4, d4⟩ t _
      have H3 : Hid (BS X3 (w.heap.size + 1) n ∧ BT X3 (w.heap.size + 2) ⟨none, 0, none, 0⟩ ⟨0, 0, 0, 0, [], [], 0⟩ ∧ Below w.heap.size w X3 ∧ w.heap.size + 3 ≤ w3.heap.size ∧ BT X3 w3.heap.size ⟨a4, c4, h4, d4⟩ t ∧ OT X3 w2.heap.size ⟨a4, c4, h4, d4⟩ t PR PS ∧ (∀ q, OfT PR PS q → w.heap.size + 3 ≤ q ∧ q < w3.heap.size) ∧ w3.heap.size < X3.heap.size) := ⟨H2.out.2.1.below b23 (by have := H2.out.2.2.2.2.2; omega), H2.out.2.2.1.later b23, H2.out.2.2.2.1.trans (b23.mono H2.out.2.2.2.1.size), by have := H2.out.2.2.2.2.2; have := b3.size; omega, x3, o3.later b3', fun q hq => ⟨by have := (o3.of hq).1; have := H2.out.2.2.2.2.2; omega, (o3.of hq).2⟩, x3.lt⟩
      clear b3 b3' b23 x3 o3 H2
      have c4' := sePileOf_any X3 h4 d4 t.sets (by omega) H3.out.2.2.2.2.2.1.sl.s HT.out.1 HT.out.2.1
      have k4 := H3.out.2.2.2.2.1.c5
      dsimp only at k4
      rw [hX3] at k4
      go_wp2_with fail
      rw [← hX3]
      clear hX3 k4
      refine c4'.mono ?_
      clear c4'
      rintro e w4 ⟨p, mb, m, pv, rfl, hp, hm, b4⟩
      obtain ⟨⟨n0, n1, n2, n3, n4⟩, -⟩ := H3.out.1.below b4 (by have := H3.out.2.2.2.1; have := H3.out.2.2.2.2.2.2.2; omega)
      simp only [Nat.zero_add] at n1 n2 n3 n4
      have cC := seCell_any w4 n
      have H4 : Hid (PisB w4 X3.heap.size p mb m pv t.sets ∧ Below X3.heap.size X3 w4) := ⟨hp, b4⟩
      clear hp b4
      go_wp2_with fail
      refine cC.mono ?_
      clear cC n0 n1 n2 n3 n4
      rintro e w5 ⟨rfl, b5⟩
      have cH := seFind_any w5 X3.heap.size p mb m pv t.sets n.region n.slot (H4.out.1.later b5) (by omega) (seOk_in HT.out.2.2).1 (seOk_in HT.out.2.2).2
      have H5 : Hid (PisB w5 X3.heap.size p mb m pv t.sets ∧ Below X3.heap.size X3 w5) := ⟨H4.out.1.later b5, H4.out.2.trans (b5.mono H4.out.2.size)⟩
      clear b5 H4
      go_wp2_with fail
      refine cH.mono ?_
      clear cH
      rintro e w5' ⟨rfl, b6'⟩
      obtain ⟨w6, hw6⟩ : ∃ X, X = w5'.alloc (.cells #[.int .i64 (foundS t.sets n.region n.slot).region, .int .i64 (foundS t.sets n.region n.slot).slot, .int .i64 (foundS t.sets n.region n.slot).value, .bool (foundS t.sets n.region n.slot).used, .int .i64 (foundS t.sets n.region n.slot).version] 36) := ⟨_, rfl⟩
      have bA : Below w5'.heap.size w5' w6 := by rw [hw6]; exact (Below.refl _ _).alloc (Nat.le_refl _) _
      have b6 : Below w5.heap.size w5 w6 := b6'.trans (bA.mono b6'.size)
      have e6 : BS w6 w5'.heap.size (foundS t.sets n.region n.slot) := by rw [hw6]; exact BS.box w5' _ _
      have l6 : X3.heap.size ≤ w5'.heap.size := Nat.le_trans H5.out.2.size b6'.size
      have z6 : w5'.heap.size < w6.heap.size := by rw [hw6]; simp
      have H6 : Hid (PisB w6 X3.heap.size p mb m pv t.sets ∧ Below X3.heap.size X3 w6 ∧ BS w6 w5'.heap.size (foundS t.sets n.region n.slot) ∧ X3.heap.size ≤ w5'.heap.size ∧ w5'.heap.size < w6.heap.size) := ⟨H5.out.1.later b6, H5.out.2.trans (b6.mono H5.out.2.size), e6, l6, z6⟩
      clear b6 b6' bA e6 l6 z6 H5
      cases hW : seW t.sets n.region n.slot with
      | some i =>
        have HN : Hid (addSe t n = (⟨t.id, t.home, t.phase, t.count, t.reads, ovSe t.sets i n, t.stamp⟩ : T7) ∧ addSB t n = true) := ⟨by simp [addSe, hB, hO, hW], by simp [addSB, hB, hO, hW]⟩
        have hi := (seW_at hW).1
        have e1 : foundS t.sets n.region n.slot = atSe t.sets i := by simp [foundS, hW]
        simp only [e1] at hw6 H6 ⊢
        obtain ⟨⟨-, -, -, -, k4⟩, -⟩ := H6.out.2.2.1
        obtain ⟨⟨n0, n1, n2, n3, n4⟩, nf⟩ := H3.out.1.below H6.out.2.1 (by have := H3.out.2.2.2.1; have := H3.out.2.2.2.2.2.2.2; omega)
        simp only [Nat.zero_add] at n1 n2 n3 n4 k4
        have nf4 := nf 4
        obtain ⟨Wa, hWa⟩ : ∃ X, X = w6.setCell ⟨w.heap.size + 1, 4, none⟩ (.int .i64 (atSe t.sets i).version) := ⟨_, rfl⟩
        have ob : OnlyBlock (w.heap.size + 1) w6 Wa := by rw [hWa]; exact (OnlyBlock.refl _ _).setCell 4 _
        have hX3 : w.heap.size + 3 < X3.heap.size := by have := H3.out.2.2.2.1; have := H3.out.2.2.2.2.2.2.2; omega
        have bWa : Below (w.heap.size + 2) X3 Wa → True := fun _ => trivial
        have hyes : seW t.sets (verS n (atSe t.sets i).version).region (verS n (atSe t.sets i).version).slot = some i := hW
        have hok' := ovSe_ok HT.out.1 HT.out.2.2 hW
        have PWa : PisB Wa X3.heap.size p mb m pv t.sets := by
          have P := H6.out.1
          have nb : ∀ x, X3.heap.size ≤ x → Wa.heap[x]? = w6.heap[x]? := fun x hx => ob.block x (by omega)
          exact ⟨(World.cell?_of_block (a := ⟨p, 0, none⟩) (nb p P.bp)).trans P.c0, (World.cell?_of_block (a := ⟨p, 1, none⟩) (nb p P.bp)).trans P.c1, fun j => (World.frozen?_of_block (a := ⟨p, j, none⟩) (nb p P.bp)).trans (P.fz j), P.row.keep (fun x hx _ _ => nb x hx), P.mp.of_block (nb mb P.bm), P.ok, P.vp, P.vm, P.pm, P.bp, P.bm, by rw [ob.size]; exact P.lp⟩
        have cP := sePutOver Wa X3.heap.size p mb m pv t.sets (verS n (atSe t.sets i).version) i PWa (by omega) (by omega) hok' hyes (by rw [ob.size]; exact H6.out.2.1.size)
        simp only [verS] at cP
        have v0 : Wa.cell? ⟨w.heap.size + 1, 0, none⟩ = some (.int .i64 n.region) := by rw [hWa]; exact (cell_set_other (by omega)).trans n0
        have v1 : Wa.cell? ⟨w.heap.size + 1, 1, none⟩ = some (.int .i64 n.slot) := by rw [hWa]; exact (cell_set_other (by omega)).trans n1
        have v2 : Wa.cell? ⟨w.heap.size + 1, 2, none⟩ = some (.int .i64 n.value) := by rw [hWa]; exact (cell_set_other (by omega)).trans n2
        have v3 : Wa.cell? ⟨w.heap.size + 1, 3, none⟩ = some (.bool n.used) := by rw [hWa]; exact (cell_set_other (by omega)).trans n3
        have v4 : Wa.cell? ⟨w.heap.size + 1, 4, none⟩ = some (.int .i64 (atSe t.sets i).version) := by rw [hWa]; exact cell_set_same n4
        have KX : Hid (BT Wa (w.heap.size + 2) ⟨none, 0, none, 0⟩ ⟨0, 0, 0, 0, [], [], 0⟩ ∧ Below w.heap.size w Wa ∧ BT Wa w3.heap.size ⟨a4, c4, h4, d4⟩ t ∧ OT Wa w2.heap.size ⟨a4, c4, h4, d4⟩ t PR PS ∧ X3.heap.size ≤ Wa.heap.size ∧ Wa.heap.size = w6.heap.size) := by
          obtain ⟨-, j2, j3, j4, j5, j6, j7, j8⟩ := H3.out
          have g := H6.out.2.1
          refine ⟨(j2.later g).of_block (ob.block _ (by omega)) (Nat.le_of_eq ob.size.symm), ?_, (j5.later g).of_block (ob.block _ (by omega)) (Nat.le_of_eq ob.size.symm), (j6.later g).keep (Nat.le_of_eq ob.size.symm) (fun q _ hq => ob.block q (by have := (j7 q hq).1; omega)), by rw [ob.size]; exact g.size, ob.size⟩
          rw [hWa]
          exact (j3.trans (g.mono j3.size)).setCell (p := ⟨w.heap.size + 1, 4, none⟩) (by dsimp only; omega) _
        have HY : Hid (seW t.sets n.region n.slot = some i) := hW
        clear nf ob bWa PWa hok' hyes hW
        rw [hw6] at k4 n4 nf4 hWa
        go_upto_region 10 with fail
        rw [← hWa]
        clear hWa k4 n0 n1 n2 n3 n4 nf4 hw6
        go_wp2_with fail
        refine cP.mono ?_
        clear cP v0 v1 v2 v3 v4
        rintro e w7 ⟨rfl, q, cap, hp7, b7⟩
        have hov : t.sets.set i ⟨n.region, n.slot, n.value, n.used, (atSe t.sets i).version⟩ = ovSe t.sets i n := rfl
        rw [hov] at hp7
        have hup := ovSe_up HT.out.2.1 HY.out
        have hov' : (ovSe t.sets i n).length = t.sets.length := ovSe_len _ _ _
        have cI := seInOrder_any w7 X3.heap.size p q mb m cap (ovSe t.sets i n) hp7 (by omega) (by omega) (seUp2_hp hup) (hup.imp (fun h => Int.ne_of_lt h))
        have KU0 := hidOf hup
        have H7 : Hid (Below X3.heap.size Wa w7 ∧ X3.heap.size ≤ p ∧ X3.heap.size ≤ q ∧ X3.heap.size ≤ mb) := ⟨b7, hp7.bp, hp7.bq, hp7.bm⟩
        clear b7 hp7 hup hov H6
        go_wp2_with fail
        refine cI.mono ?_
        clear cI hov'
        rintro e w8 ⟨v8, zs, rfl, row8, pm8, up8, k8⟩
        have b38 : Below X3.heap.size Wa w8 := H7.out.1.trans (k8.below (fun x hx => by obtain ⟨-, h1, h2, h3⟩ := H7.out; rcases hx with rfl | rfl | rfl <;> assumption) (Nat.le_trans KX.out.2.2.2.2.1 H7.out.1.size))
        have hzs : zs = ovSe t.sets i n := HeapP.rise_eq seR up8 KU0.out pm8
        have HZ := hidOf hzs
        obtain ⟨a2, c2, rfl, -⟩ := row8.form
        have xB : BT w8 w3.heap.size ⟨a4, c4, h4, d4⟩ t := KX.out.2.2.1.under b38 H3.out.2.2.2.2.2.2.2
        have k4 := xB.c5
        have k4f := xB.fz 5
        dsimp only at k4
        have h77 : X3.heap.size ≤ w7.heap.size := Nat.le_trans KX.out.2.2.2.2.1 H7.out.1.size
        have KF : Hid (BT (w8.setCell ⟨w3.heap.size, 5, none⟩ (.slice a2 zs.length c2)) w3.heap.size ⟨a4, c4, a2, c2⟩ (⟨t.id, t.home, t.phase, t.count, t.reads, zs, t.stamp⟩ : T7) ∧ BT (w8.setCell ⟨w3.heap.size, 5, none⟩ (.slice a2 zs.length c2)) (w.heap.size + 2) ⟨none, 0, none, 0⟩ ⟨0, 0, 0, 0, [], [], 0⟩ ∧ RowS w8 w7.heap.size (.slice a2 zs.length c2) zs ∧ Below X3.heap.size Wa w8 ∧ X3.heap.size ≤ w7.heap.size) := ⟨xB.set5 a2 c2 zs, (KX.out.1.under b38 (by omega)).far (by dsimp only; have := H3.out.2.2.2.1; omega) _, row8, b38, h77⟩
        clear hzs row8 pm8 up8 k8 b38 xB h77 H7 KU0
        have yR5 := KF.out.2.1.put ⟨a4, c4, a2, c2⟩ (⟨t.id, t.home, t.phase, t.count, t.reads, zs, t.stamp⟩ : T7)
        simp only [putT] at yR5
        obtain ⟨u0, u1, u2, u3, u4, u5, u6, -, -⟩ := yR5
        have KU := hidOf (And.intro u0 (And.intro u1 (And.intro u2 (And.intro u3 (And.intro u4 (And.intro u5 u6))))))
        clear u0 u1 u2 u3 u4 u5 u6
        obtain ⟨o0, o1, o2, o3, o4, o5, o6, -, -⟩ := KF.out.1
        obtain ⟨r0, r1, r2, r3, r4, r5, r6, fr, -⟩ := KF.out.2.1
        have f0 := fr 0
        have f1 := fr 1
        have f2 := fr 2
        have f3 := fr 3
        have f4 := fr 4
        have f5 := fr 5
        have f6 := fr 6
        clear fr
        dsimp only at o0 o1 o2 o3 o4 o5 o6 r4 r5
        go_wp2
        obtain ⟨u0, u1, u2, u3, u4, u5, u6⟩ := KU.out
        refine bodyPost_ret (v := .tuple #[.agg #[.int .i64 t.id, .int .i64 t.home, .int .i64 t.phase, .int .i64 t.count, .slice a4 t.reads.length c4, .slice a2 zs.length c2, .int .i64 t.stamp], .bool true]) (by simp [results, Try.results14, go_sem, u0, u1, u2, u3, u4, u5, u6]) rfl ?_
        rw [HN.out.1, HN.out.2, ← HZ.out]
        obtain ⟨g1, g2, g3, g4, g5⟩ := KF.out
        obtain ⟨-, -, -, j6, -, -, j9, j10⟩ := H3.out
        obtain ⟨-, j4, -, j8', j5, -⟩ := KX.out
        have j8 := j8'.under g4 (fun q hq => by have := (j9 q hq).2; omega)
        have bX : Below w.heap.size w (w8.setCell ⟨w3.heap.size, 5, none⟩ (.slice a2 zs.length c2)) := (j4.trans (g4.mono (by omega))).setCell (p := ⟨w3.heap.size, 5, none⟩) (by dsimp only; omega) _
        refine ⟨a4, c4, a2, c2, PR, fun q => (Value.slice a2 zs.length c2).ownBlock = some q, rfl, ?_, putT_below (s := w.heap.size + 2) (v := ⟨a4, c4, a2, c2⟩) (t := (⟨t.id, t.home, t.phase, t.count, t.reads, zs, t.stamp⟩ : T7)) bX (by omega)⟩
        obtain ⟨_, _, e2, ow2⟩ := g3.form
        cases e2
        have ot : OT w8 w.heap.size ⟨a4, c4, a2, c2⟩ (⟨t.id, t.home, t.phase, t.count, t.reads, zs, t.stamp⟩ : T7) PR (fun q => (Value.slice a2 zs.length c2).ownBlock = some q) := ⟨j8.r, ow2, fun q h1 h2 => by have := (g3.lt h2).1; have := (j9 q (.inl h1)).2; omega, fun q h1 => ⟨by have := (j9 q (.inl h1)).1; omega, (j8.rB q h1).2⟩, fun q h1 => ⟨by have := (g3.lt h1).1; omega, (g3.lt h1).2⟩⟩
        have hne : ∀ q, OfT PR (fun q => (Value.slice a2 zs.length c2).ownBlock = some q) q → q ≠ w3.heap.size ∧ q ≠ w.heap.size + 2 := fun q hq => by
          rcases hq with hq | hq
          · have := j9 q (.inl hq); omega
          · have := (g3.lt hq).1; omega
        have ot2 : OT (w8.setCell ⟨w3.heap.size, 5, none⟩ (.slice a2 zs.length c2)) w.heap.size ⟨a4, c4, a2, c2⟩ (⟨t.id, t.home, t.phase, t.count, t.reads, zs, t.stamp⟩ : T7) PR (fun q => (Value.slice a2 zs.length c2).ownBlock = some q) := ot.keep (by simp [World.setCell]) (fun q _ hq => Below.heap_setCell _ _ _ _ (hne q hq).1)
        exact ot2.keep (w' := putT (w8.setCell ⟨w3.heap.size, 5, none⟩ (.slice a2 zs.length c2)) (w.heap.size + 2) ⟨a4, c4, a2, c2⟩ (⟨t.id, t.home, t.phase, t.count, t.reads, zs, t.stamp⟩ : T7)) (by rw [putT_size]; exact Nat.le_refl _) (fun q _ hq => putT_block (hne q hq).2)
      | none =>
        have cF := seFull_any w6 X3.heap.size p mb m pv t.sets H6.out.1
        have e1 : foundS t.sets n.region n.slot = ⟨0, 0, 0, false, 0⟩ := by simp [foundS, hW]
        simp only [e1] at hw6 H6 ⊢
        go_wp2_with fail
        rw [← hw6]
        clear hw6
        refine cF.mono ?_
        clear cF
        rintro e w6' ⟨rfl, rfl⟩
        by_cases h12 : t.sets.length = 12
        · have d12 : decide (12 ≤ t.sets.length) = true := by simp; omega
          rw [d12]
          have HN : Hid (addSe t n = noT ∧ addSB t n = false) := ⟨by simp [addSe, hB, hO, hW, h12], by simp [addSB, hB, hO, hW, h12]⟩
          have KZ : Hid (BT w6' (w.heap.size + 2) ⟨none, 0, none, 0⟩ ⟨0, 0, 0, 0, [], [], 0⟩ ∧ Below w.heap.size w w6') := ⟨H3.out.2.1.later H6.out.2.1, H3.out.2.2.1.trans (H6.out.2.1.mono H3.out.2.2.1.size)⟩
          clear H3 H6 d12
          obtain ⟨r0, r1, r2, r3, r4, r5, r6, fr, -⟩ := KZ.out.1
          have yR5 := KZ.out.1.put ⟨none, 0, none, 0⟩ noT
          simp only [putT, noT, List.length_nil] at yR5
          obtain ⟨u0, u1, u2, u3, u4, u5, u6, -, -⟩ := yR5
          have KU := hidOf (And.intro u0 (And.intro u1 (And.intro u2 (And.intro u3 (And.intro u4 (And.intro u5 u6))))))
          clear u0 u1 u2 u3 u4 u5 u6
          have f0 := fr 0
          have f1 := fr 1
          have f2 := fr 2
          have f3 := fr 3
          have f4 := fr 4
          have f5 := fr 5
          have f6 := fr 6
          clear fr
          simp only [List.length_nil] at r4 r5
          go_wp2
          obtain ⟨u0, u1, u2, u3, u4, u5, u6⟩ := KU.out
          refine bodyPost_ret (v := .tuple #[.agg #[.int .i64 0, .int .i64 0, .int .i64 0, .int .i64 0, .slice none 0 0, .slice none 0 0, .int .i64 0], .bool false]) (by simp [results, Try.results14, go_sem, u0, u1, u2, u3, u4, u5, u6]) rfl ?_
          rw [HN.out.1, HN.out.2]
          exact TAns.zero (putT_below (s := w.heap.size + 2) (v := ⟨none, 0, none, 0⟩) (t := noT) KZ.out.2 (by omega))
        · have d12 : decide (12 ≤ t.sets.length) = false := by simp; omega
          rw [d12]
          have HN : Hid (addSe t n = ⟨t.id, t.home, t.phase, t.count, t.reads, insSe t.sets n, t.stamp⟩ ∧ addSB t n = true) := ⟨by simp [addSe, hB, hO, hW, h12], by simp [addSB, hB, hO, hW, h12]⟩
          have hno : seW t.sets n.region n.slot = none := hW
          have hup := insSe_up HT.out.2.1 HT.out.1 HT.out.2.2 hno
          obtain ⟨⟨n0, n1, n2, n3, n4⟩, -⟩ := H3.out.1.below H6.out.2.1 (by have := H3.out.2.2.2.1; have := H3.out.2.2.2.2.2.2.2; omega)
          simp only [Nat.zero_add] at n1 n2 n3 n4
          have cP := sePutAny w6' X3.heap.size p mb m pv t.sets n H6.out.1 (by omega) (by omega) HT.out.2.2 hno H6.out.2.1.size (seUp2_hp HT.out.2.1)
          have KU0 := hidOf hup
          clear hup d12 hno
          go_wp2_with fail
          refine cP.mono ?_
          clear cP n0 n1 n2 n3 n4
          rintro e w7 ⟨rfl, q, cap, m', ys, hm', hp7, hpm, hhp, b7⟩
          have b37 : Below X3.heap.size X3 w7 := H6.out.2.1.trans b7
          have hyl : ys.length = t.sets.length + 1 := by have := hpm.length_eq; simpa using this
          have hdis : ys.Pairwise (fun a b => seR a ≠ seR b) := ((hpm.trans (insSe_perm t.sets n).symm).symm.pairwise_iff (fun {a b} (h : seR a ≠ seR b) => h.symm)).1 (KU0.out.imp (fun h => Int.ne_of_lt h))
          have cI := seInOrder_any w7 X3.heap.size p q mb m' cap ys hp7 (by omega) (by omega) hhp hdis
          have H7 : Hid (Below X3.heap.size X3 w7 ∧ X3.heap.size ≤ p ∧ X3.heap.size ≤ q ∧ X3.heap.size ≤ mb ∧ ys.Perm (t.sets ++ [n])) := ⟨b37, hp7.bp, hp7.bq, hp7.bm, hpm⟩
          clear b37 b7 hp7 hpm hhp hdis hm' hyl H6
          go_wp2_with fail
          refine cI.mono ?_
          clear cI
          rintro e w8 ⟨v8, zs, rfl, row8, pm8, up8, k8⟩
          have b38 : Below X3.heap.size X3 w8 := H7.out.1.trans (k8.below (fun x hx => by obtain ⟨-, h1, h2, h3, -⟩ := H7.out; rcases hx with rfl | rfl | rfl <;> assumption) H7.out.1.size)
          have hzs : zs = insSe t.sets n := HeapP.rise_eq seR up8 KU0.out (pm8.trans (H7.out.2.2.2.2.trans (insSe_perm t.sets n).symm))
          have HZ := hidOf hzs
          obtain ⟨a2, c2, rfl, -⟩ := row8.form
          have xB : BT w8 w3.heap.size ⟨a4, c4, h4, d4⟩ t := H3.out.2.2.2.2.1.later b38
          have k4 := xB.c5
          have k4f := xB.fz 5
          dsimp only at k4
          have h77 : X3.heap.size ≤ w7.heap.size := H7.out.1.size
          have KF : Hid (BT (w8.setCell ⟨w3.heap.size, 5, none⟩ (.slice a2 zs.length c2)) w3.heap.size ⟨a4, c4, a2, c2⟩ (⟨t.id, t.home, t.phase, t.count, t.reads, zs, t.stamp⟩ : T7) ∧ BT (w8.setCell ⟨w3.heap.size, 5, none⟩ (.slice a2 zs.length c2)) (w.heap.size + 2) ⟨none, 0, none, 0⟩ ⟨0, 0, 0, 0, [], [], 0⟩ ∧ RowS w8 w7.heap.size (.slice a2 zs.length c2) zs ∧ Below X3.heap.size X3 w8 ∧ X3.heap.size ≤ w7.heap.size) := ⟨xB.set5 a2 c2 zs, (H3.out.2.1.later b38).far (by dsimp only; have := H3.out.2.2.2.1; omega) _, row8, b38, h77⟩
          clear hzs row8 pm8 up8 k8 b38 xB h77 H7 KU0
          have yR5 := KF.out.2.1.put ⟨a4, c4, a2, c2⟩ (⟨t.id, t.home, t.phase, t.count, t.reads, zs, t.stamp⟩ : T7)
          simp only [putT] at yR5
          obtain ⟨u0, u1, u2, u3, u4, u5, u6, -, -⟩ := yR5
          have KU := hidOf (And.intro u0 (And.intro u1 (And.intro u2 (And.intro u3 (And.intro u4 (And.intro u5 u6))))))
          clear u0 u1 u2 u3 u4 u5 u6
          obtain ⟨o0, o1, o2, o3, o4, o5, o6, -, -⟩ := KF.out.1
          obtain ⟨r0, r1, r2, r3, r4, r5, r6, fr, -⟩ := KF.out.2.1
          have f0 := fr 0
          have f1 := fr 1
          have f2 := fr 2
          have f3 := fr 3
          have f4 := fr 4
          have f5 := fr 5
          have f6 := fr 6
          clear fr
          dsimp only at o0 o1 o2 o3 o4 o5 o6 r4 r5
          go_wp2
          obtain ⟨u0, u1, u2, u3, u4, u5, u6⟩ := KU.out
          refine bodyPost_ret (v := .tuple #[.agg #[.int .i64 t.id, .int .i64 t.home, .int .i64 t.phase, .int .i64 t.count, .slice a4 t.reads.length c4, .slice a2 zs.length c2, .int .i64 t.stamp], .bool true]) (by simp [results, Try.results14, go_sem, u0, u1, u2, u3, u4, u5, u6]) rfl ?_
          rw [HN.out.1, HN.out.2, ← HZ.out]
          obtain ⟨g1, g2, g3, g4, g5⟩ := KF.out
          obtain ⟨-, -, j4, j6, -, j8, j9, j10⟩ := H3.out
          have bX : Below w.heap.size w (w8.setCell ⟨w3.heap.size, 5, none⟩ (.slice a2 zs.length c2)) := (j4.trans (g4.mono j4.size)).setCell (p := ⟨w3.heap.size, 5, none⟩) (by dsimp only; omega) _
          refine ⟨a4, c4, a2, c2, PR, fun q => (Value.slice a2 zs.length c2).ownBlock = some q, rfl, ?_, putT_below (s := w.heap.size + 2) (v := ⟨a4, c4, a2, c2⟩) (t := (⟨t.id, t.home, t.phase, t.count, t.reads, zs, t.stamp⟩ : T7)) bX (by omega)⟩
          obtain ⟨_, _, e2, ow2⟩ := g3.form
          cases e2
          have ot : OT w8 w.heap.size ⟨a4, c4, a2, c2⟩ (⟨t.id, t.home, t.phase, t.count, t.reads, zs, t.stamp⟩ : T7) PR (fun q => (Value.slice a2 zs.length c2).ownBlock = some q) := ⟨(j8.later g4).r, ow2, fun q h1 h2 => by have := (g3.lt h2).1; have := (j9 q (.inl h1)).2; omega, fun q h1 => ⟨by have := (j9 q (.inl h1)).1; omega, ((j8.later g4).rB q h1).2⟩, fun q h1 => ⟨by have := (g3.lt h1).1; omega, (g3.lt h1).2⟩⟩
          have hne : ∀ q, OfT PR (fun q => (Value.slice a2 zs.length c2).ownBlock = some q) q → q ≠ w3.heap.size ∧ q ≠ w.heap.size + 2 := fun q hq => by
            rcases hq with hq | hq
            · have := j9 q (.inl hq); omega
            · have := (g3.lt hq).1; omega
          have ot2 : OT (w8.setCell ⟨w3.heap.size, 5, none⟩ (.slice a2 zs.length c2)) w.heap.size ⟨a4, c4, a2, c2⟩ (⟨t.id, t.home, t.phase, t.count, t.reads, zs, t.stamp⟩ : T7) PR (fun q => (Value.slice a2 zs.length c2).ownBlock = some q) := ot.keep (by simp [World.setCell]) (fun q _ hq => Below.heap_setCell _ _ _ _ (hne q hq).1)
          exact ot2.keep (w' := putT (w8.setCell ⟨w3.heap.size, 5, none⟩ (.slice a2 zs.length c2)) (w.heap.size + 2) ⟨a4, c4, a2, c2⟩ (⟨t.id, t.home, t.phase, t.count, t.reads, zs, t.stamp⟩ : T7)) (by rw [putT_size]; exact Nat.le_refl _) (fun q _ hq => putT_block (hne q hq).2)
end Go.Proofs.Ytiidlcjjaglkdaa
namespace Go.Proofs.Ytiidlcjjaglkdaa
open Go.RowKit
theorem below_dn {B : Nat} {a w : World} (h : Below B a w) (n : Nat) : Below B a (w.drewN n) := ⟨h.os, h.tape, h.output, h.size, h.block⟩
def NumsAt (w : World) (b off : Nat) (zs : List Int) : Prop := ∀ i z, zs[i]? = some z → w.cell? ⟨b, off + i, none⟩ = some (.int .i64 z)
theorem NumsAt.below {w w' : World} {B b off : Nat} {zs : List Int} (h : NumsAt w b off zs) (hb : Below B w w') (hB : b < B) : NumsAt w' b off zs := fun i z e => by rw [hb.cell (p := ⟨b, off + i, none⟩) hB]; exact h i z e
def SlN (w : World) (B : Nat) (a : Option Addr) (n : Nat) (zs : List Int) : Prop := zs.length = n ∧ (n = 0 ∨ ∃ b off, a = some ⟨b, off, none⟩ ∧ b < B ∧ NumsAt w b off zs)
theorem SlN.later {w w' : World} {a : Option Addr} {n : Nat} {zs : List Int} (h : SlN w w.heap.size a n zs) (hb : Below w.heap.size w w') : SlN w' w'.heap.size a n zs := by
  obtain ⟨h1, h2⟩ := h
  refine ⟨h1, ?_⟩
  rcases h2 with h2 | ⟨b, off, ha, hB, hx⟩
  · exact .inl h2
  · exact .inr ⟨b, off, ha, Nat.lt_of_lt_of_le hB hb.size, hx.below hb hB⟩
def atN (zs : List Int) (i : Nat) : Int := zs[i]?.getD 0
def hasB (zs : List Int) (z : Int) : Bool := zs.any (fun y => decide (y = z))
theorem NumsAt.put {w : World} {b k : Nat} {zs : List Int} {z : Int} (h : NumsAt w b 0 (zs.take k)) (hz : zs[k]? = some z) {v : Value} (hv : w.cell? ⟨b, k, none⟩ = some v) : NumsAt (w.setCell ⟨b, k, none⟩ (.int .i64 z)) b 0 (zs.take (k + 1)) := by
  intro i t e
  rw [List.getElem?_take] at e
  split at e
  · rename_i hi
    by_cases hik : i = k
    · subst hik
      rw [hz] at e
      obtain rfl := Option.some.inj e
      simpa using cell_set_same hv
    · have := h i t (by rw [List.getElem?_take, if_pos (by omega)]; exact e)
      rw [cell_set_other (by omega)]; exact this
  · cases e
def marks : Nat → Int → List Int
  | 0, _ => []
  | n + 1, k => k :: marks n (k + 1)
end Go.Proofs.Ytiidlcjjaglkdaa
namespace Go.Proofs.Ytiidlcjjaglkdaa
open Go.ChangeShapes Go.WideShapes Go.ChangeAt Go.RowKit
def IsRow (k : IntKind) (w : World) (a : Option Addr) (len cap : Nat) (zs : List Int) : Prop :=
  (a = none ∧ len = 0 ∧ cap = 0 ∧ zs = []) ∨
  ∃ x, a = some x ∧ len ≤ cap ∧ cap ≤ maxLen ∧ zs.length = cap ∧ (∀ i, i < zs.length → w.cell? (x.add i) = some (.int k (zs.getD i 0))) ∧ ∀ n ∈ zs, (Lit.int k n).wf = true
theorem IsRow.bytes {w : World} {a : Option Addr} {n k : Nat} {zs : List Int} (h : IsRow .u8 w a n k zs) : Bytes w w.heap.size a n := by
  rcases h with ⟨rfl, rfl, rfl, rfl⟩ | ⟨x, rfl, hl, hm, hz, hc, hw⟩
  · exact ⟨by unfold maxLen; omega, .inl rfl⟩
  · refine ⟨by omega, ?_⟩
    by_cases h0 : n = 0
    · exact .inl h0
    · obtain ⟨b, off, rfl, hcc⟩ := ints_at hc (by omega)
      exact .inr ⟨b, off, rfl, World.block_lt_of_cell? w _ (hcc 0 (by omega)), fun i hi => ⟨zs.getD i 0, hcc i (by omega), by simpa using range_u8 hw i⟩⟩
end Go.Proofs.Ytiidlcjjaglkdaa