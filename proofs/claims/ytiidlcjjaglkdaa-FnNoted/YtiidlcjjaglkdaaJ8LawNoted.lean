/- AddBR; AseD: joined. -/
import Derived.Test.YtiidlcjjaglkdaaRows
import Derived.Test.YtiidlcjjaglkdaaJ7LawNoted
import Derived.Test.YtiidlcjjaglkdaaJ3LawNoted
import Derived.Test.YtiidlcjjaglkdaaJ0LawNoted
import Derived.WalkKit
import Derived.WalkSpells
import Derived.WalkLawsBesides
import Derived.Below
import Derived.Lib.QuietBelow
import Derived.BigQuiet
namespace Go.Proofs.Ytiidlcjjaglkdaa
open Go.RowKit
open Go.Sort (grow)
set_option maxRecDepth 100000 in
set_option maxHeartbeats 8000000 in
theorem specAddRead_anyR (w : World) (v : TV) (t : T7) (n : N5) (hl : TL t) (hs : SlT w v t) (hc : t.reads.length ≤ v.cr) :
    Calls Try.prog 11 #[v.val t, .agg #[.int .i64 n.region, .int .i64 n.slot, .int .i64 n.version, .int .i64 n.value, .bool n.used]] w (TAnsR w (addN t n) (addNB t n)) := by
  obtain ⟨ar, cr, ah, ch⟩ := v
  simp only [TV.val]
  dsimp only at hc
  obtain ⟨W0, hW0⟩ : ∃ W, W = w.alloc (.cells #[.int .i64 t.id, .int .i64 t.home, .int .i64 t.phase, .int .i64 t.count, .slice ar t.reads.length cr, .slice ah t.sets.length ch, .int .i64 t.stamp] 27) := ⟨_, rfl⟩
  have z0 : W0.heap.size = w.heap.size + 1 := by rw [hW0]; simp
  have x0 : BT W0 w.heap.size ⟨ar, cr, ah, ch⟩ t := by rw [hW0]; exact BT.box w ⟨ar, cr, ah, ch⟩ t _
  have b0 : Below w.heap.size w W0 := by rw [hW0]; exact (Below.refl _ _).alloc (Nat.le_refl _) _
  obtain ⟨W1, hW1⟩ : ∃ W, W = W0.alloc (.cells #[.int .i64 n.region, .int .i64 n.slot, .int .i64 n.version, .int .i64 n.value, .bool n.used] 29) := ⟨_, rfl⟩
  have z1 : W1.heap.size = w.heap.size + 2 := by rw [hW1]; simp [z0]
  have x1 : NoteAt W1 (w.heap.size + 1) 0 n := by rw [hW1, ← z0]; exact NoteAt.box W0 _ _
  have b1 : Below W0.heap.size W0 W1 := by rw [hW1]; exact (Below.refl _ _).alloc (Nat.le_refl _) _
  obtain ⟨W, hW⟩ : ∃ W, W = W1.alloc (.cells #[.int .i64 0, .int .i64 0, .int .i64 0, .int .i64 0, .slice none 0 0, .slice none 0 0, .int .i64 0] 27) := ⟨_, rfl⟩
  have zW : W.heap.size = w.heap.size + 3 := by rw [hW]; simp [z1]
  have x2 : BT W (w.heap.size + 2) ⟨none, 0, none, 0⟩ ⟨0, 0, 0, 0, [], [], 0⟩ := by rw [hW, ← z1]; exact BT.zero W1 _
  have b2 : Below W1.heap.size W1 W := by rw [hW]; exact (Below.refl _ _).alloc (Nat.le_refl _) _
  have bW : Below w.heap.size w W := (b0.trans (b1.mono b0.size)).trans (b2.mono (by omega))
  have c1 := specTxOk_any W ⟨ar, cr, ah, ch⟩ t hl (hs.later bW)
  simp only [TV.val] at c1
  have H : Hid (BT W w.heap.size ⟨ar, cr, ah, ch⟩ t ∧ NoteAt W (w.heap.size + 1) 0 n ∧ BT W (w.heap.size + 2) ⟨none, 0, none, 0⟩ ⟨0, 0, 0, 0, [], [], 0⟩ ∧ Below w.heap.size w W ∧ SlT W ⟨ar, cr, ah, ch⟩ t ∧ W.heap.size = w.heap.size + 3) := ⟨(x0.later b1).later b2, x1.below b2 (by omega), x2, bW, hs.later bW, zW⟩
  rw [hW1, hW0] at hW
  clear hW0 hW1 z0 x0 b0 z1 x1 b1 zW x2 b2 bW hs hl
  cases hB : txB t with
  | false =>
    rw [hB] at c1
    have HN : Hid (addN t n = noT ∧ addNB t n = false) := ⟨by simp [addN, hB], by simp [addNB, hB]⟩
    go_enter Try.func11, Try.ntmps11
    go_wp2_with fail
    rw [← hW]
    clear hW
    refine c1.mono ?_
    clear c1
    rintro e w1 ⟨rfl, b1⟩
    have KZ : Hid (BT w1 (w.heap.size + 2) ⟨none, 0, none, 0⟩ ⟨0, 0, 0, 0, [], [], 0⟩ ∧ Below w.heap.size w w1) := ⟨H.out.2.2.1.later b1, H.out.2.2.2.1.trans (b1.mono H.out.2.2.2.1.size)⟩
    clear b1 H
    obtain ⟨r0, r1, r2, r3, r4, r5, r6, fr, -⟩ := KZ.out.1
    have yR5 := KZ.out.1.put ⟨none, 0, none, 0⟩ noT
    simp only [putT, noT, List.length_nil] at yR5
    obtain ⟨u0, u1, u2, u3, u4, u5, u6, -, -⟩ := yR5
    have KU := hidOf (And.intro u0 (And.intro u1 (And.intro u2 (And.intro u3 (And.intro u4 (And.intro u5 u6))))))
    clear u0 u1 u2 u3 u4 u5 u6
    have f0 := fr 0
    have f1 := fr 1
    have f2 := fr 2
    have f3 := fr 3
    have f4 := fr 4
    have f5 := fr 5
    have f6 := fr 6
    clear fr
    simp only [List.length_nil] at r4 r5
    go_wp2
    obtain ⟨u0, u1, u2, u3, u4, u5, u6⟩ := KU.out
    refine bodyPost_ret (v := .tuple #[.agg #[.int .i64 0, .int .i64 0, .int .i64 0, .int .i64 0, .slice none 0 0, .slice none 0 0, .int .i64 0], .bool false]) (by simp [results, Try.results11, go_sem, u0, u1, u2, u3, u4, u5, u6]) rfl ?_
    rw [HN.out.1, HN.out.2]
    exact TAnsR.zero (putT_below (s := w.heap.size + 2) (v := ⟨none, 0, none, 0⟩) (t := noT) KZ.out.2 (by omega))
  | true =>
    rw [hB] at c1
    go_enter Try.func11, Try.ntmps11
    go_wp2_with fail
    rw [← hW]
    clear hW
    refine c1.mono ?_
    clear c1
    rintro e w1 ⟨rfl, b1⟩
    obtain ⟨n0, n1, n2, n3, n4⟩ := H.out.2.1.below b1 (by have := H.out.2.2.2.2.2; omega)
    simp only [Nat.zero_add] at n1 n2 n3 n4
    have c2 := specNote w1 n
    have H1 : Hid (BT w1 w.heap.size ⟨ar, cr, ah, ch⟩ t ∧ NoteAt w1 (w.heap.size + 1) 0 n ∧ BT w1 (w.heap.size + 2) ⟨none, 0, none, 0⟩ ⟨0, 0, 0, 0, [], [], 0⟩ ∧ Below w.heap.size w w1 ∧ SlT w1 ⟨ar, cr, ah, ch⟩ t ∧ w.heap.size + 3 ≤ w1.heap.size) := ⟨H.out.1.later b1, H.out.2.1.below b1 (by have := H.out.2.2.2.2.2; omega), H.out.2.2.1.later b1, H.out.2.2.2.1.trans (b1.mono H.out.2.2.2.1.size), H.out.2.2.2.2.1.later b1, by have := H.out.2.2.2.2.2; have := b1.size; omega⟩
    clear b1 H
    go_wp2_with fail
    refine c2.mono ?_
    clear c2 n0 n1 n2 n3 n4
    rintro e w2 ⟨rfl, b2⟩
    have H2 : Hid (BT w2 w.heap.size ⟨ar, cr, ah, ch⟩ t ∧ NoteAt w2 (w.heap.size + 1) 0 n ∧ BT w2 (w.heap.size + 2) ⟨none, 0, none, 0⟩ ⟨0, 0, 0, 0, [], [], 0⟩ ∧ Below w.heap.size w w2 ∧ SlT w2 ⟨ar, cr, ah, ch⟩ t ∧ w.heap.size + 3 ≤ w2.heap.size) := ⟨H1.out.1.later b2, H1.out.2.1.below b2 (by have := H1.out.2.2.2.2.2; omega), H1.out.2.2.1.later b2, H1.out.2.2.2.1.trans (b2.mono H1.out.2.2.2.1.size), H1.out.2.2.2.2.1.later b2, by have := H1.out.2.2.2.2.2; have := b2.size; omega⟩
    clear b2 H1
    cases hO : noteOkB n with
    | false =>
      have HN : Hid (addN t n = noT ∧ addNB t n = false) := ⟨by simp [addN, hO], by simp [addNB, hO]⟩
      have KZ : Hid (BT w2 (w.heap.size + 2) ⟨none, 0, none, 0⟩ ⟨0, 0, 0, 0, [], [], 0⟩ ∧ Below w.heap.size w w2) := ⟨H2.out.2.2.1, H2.out.2.2.2.1⟩
      clear H2
      obtain ⟨r0, r1, r2, r3, r4, r5, r6, fr, -⟩ := KZ.out.1
      have yR5 := KZ.out.1.put ⟨none, 0, none, 0⟩ noT
      simp only [putT, noT, List.length_nil] at yR5
      obtain ⟨u0, u1, u2, u3, u4, u5, u6, -, -⟩ := yR5
      have KU := hidOf (And.intro u0 (And.intro u1 (And.intro u2 (And.intro u3 (And.intro u4 (And.intro u5 u6))))))
      clear u0 u1 u2 u3 u4 u5 u6
      have f0 := fr 0
      have f1 := fr 1
      have f2 := fr 2
      have f3 := fr 3
      have f4 := fr 4
      have f5 := fr 5
      have f6 := fr 6
      clear fr
      simp only [List.length_nil] at r4 r5
      go_wp2
      obtain ⟨u0, u1, u2, u3, u4, u5, u6⟩ := KU.out
      refine bodyPost_ret (v := .tuple #[.agg #[.int .i64 0, .int .i64 0, .int .i64 0, .int .i64 0, .slice none 0 0, .slice none 0 0, .int .i64 0], .bool false]) (by simp [results, Try.results11, go_sem, u0, u1, u2, u3, u4, u5, u6]) rfl ?_
      rw [HN.out.1, HN.out.2]
      exact TAnsR.zero (putT_below (s := w.heap.size + 2) (v := ⟨none, 0, none, 0⟩) (t := noT) KZ.out.2 (by omega))
    | true =>
      have l12 := (txB_lens hB).1
      have l12' := (txB_lens hB).2
      have c3 := l7Copy_anyR w2 ⟨ar, cr, ah, ch⟩ t (by omega) (by omega) H2.out.2.2.2.2.1
      simp only [TV.val] at c3
      obtain ⟨p0, p1, p2, p3, p4, p5, p6, -, -⟩ := H2.out.1
      dsimp only at p4 p5
      go_wp2_with fail
      refine c3.mono ?_
      clear c3 p0 p1 p2 p3 p4 p5 p6
      rintro e w3 ⟨a4, c4, h4, d4, PR, PS, rfl, o3, b3⟩
      simp only [TV.val]
      obtain ⟨X3, hX3⟩ : ∃ X, X = w3.alloc (.cells #[.int .i64 t.id, .int .i64 t.home, .int .i64 t.phase, .int .i64 t.count, .slice a4 t.reads.length c4, .slice h4 t.sets.length d4, .int .i64 t.stamp] 27) := ⟨_, rfl⟩
      have b3' : Below w3.heap.size w3 X3 := by rw [hX3]; exact (Below.refl _ _).alloc (Nat.le_refl _) _
      have b23 : Below w2.heap.size w2 X3 := b3.trans (b3'.mono b3.size)
      have x3 : BT X3 w3.heap.size ⟨a4, c4, h4, d4⟩ t := by rw [hX3]; exact BT.box w3 ⟨a4, c4, h4, d4⟩ t _
      have H3 : Hid (BT X3 w.heap.size ⟨ar, cr, ah, ch⟩ t ∧ NoteAt X3 (w.heap.size + 1) 0 n ∧ BT X3 (w.heap.size + 2) ⟨none, 0, none, 0⟩ ⟨0, 0, 0, 0, [], [], 0⟩ ∧ Below w.heap.size w X3 ∧ SlT X3 ⟨ar, cr, ah, ch⟩ t ∧ w.heap.size + 3 ≤ w3.heap.size ∧ BT X3 w3.heap.size ⟨a4, c4, h4, d4⟩ t ∧ TR X3 w2.heap.size ⟨a4, c4, h4, d4⟩ t PR PS ∧ (∀ q, OfT PR PS q → w.heap.size + 3 ≤ q ∧ q < w3.heap.size)) := ⟨H2.out.1.later b23, H2.out.2.1.below b23 (by have := H2.out.2.2.2.2.2; omega), H2.out.2.2.1.later b23, H2.out.2.2.2.1.trans (b23.mono H2.out.2.2.2.1.size), H2.out.2.2.2.2.1.later b23, by have := H2.out.2.2.2.2.2; have := b3.size; omega, x3, o3.later b3', fun q hq => ⟨by have := (o3.of hq).1; have := H2.out.2.2.2.2.2; omega, (o3.of hq).2⟩⟩
      clear b3 b3' b23 x3 o3 H2
      obtain ⟨p0, p1, p2, p3, p4, p5, p6, -, -⟩ := H3.out.1
      dsimp only at p4 p5
      obtain ⟨n0, n1, -, -, -⟩ := H3.out.2.1
      simp only [Nat.zero_add] at n1
      have c4' := l7Read_any X3 ⟨ar, cr, ah, ch⟩ t n.region n.slot (by omega) H3.out.2.2.2.2.1
      simp only [TV.val] at c4'
      have dA := readAt_ge t.reads n.region n.slot
      generalize readAt t.reads n.region n.slot = A at *
      rw [hX3] at p0 p1 p2 p3 p4 p5 p6 n0 n1
      go_wp2_with fail
      rw [← hX3]
      clear hX3 p0 p1 p2 p3 p4 p5 p6 n0 n1
      refine c4'.mono ?_
      clear c4'
      rintro e w4 ⟨rfl, b4⟩
      have H4 : Hid (BT w4 w.heap.size ⟨ar, cr, ah, ch⟩ t ∧ NoteAt w4 (w.heap.size + 1) 0 n ∧ BT w4 (w.heap.size + 2) ⟨none, 0, none, 0⟩ ⟨0, 0, 0, 0, [], [], 0⟩ ∧ Below w.heap.size w w4 ∧ SlT w4 ⟨ar, cr, ah, ch⟩ t ∧ w.heap.size + 3 ≤ w3.heap.size ∧ BT w4 w3.heap.size ⟨a4, c4, h4, d4⟩ t ∧ TR w4 w2.heap.size ⟨a4, c4, h4, d4⟩ t PR PS ∧ (∀ q, OfT PR PS q → w.heap.size + 3 ≤ q ∧ q < w3.heap.size) ∧ w3.heap.size < w4.heap.size) := ⟨H3.out.1.later b4, H3.out.2.1.below b4 (by have := H3.out.2.2.2.2.2.1; have := H3.out.2.2.2.2.2.2.1.lt; omega), H3.out.2.2.1.later b4, H3.out.2.2.2.1.trans (b4.mono H3.out.2.2.2.1.size), H3.out.2.2.2.2.1.later b4, H3.out.2.2.2.2.2.1, H3.out.2.2.2.2.2.2.1.later b4, H3.out.2.2.2.2.2.2.2.1.later b4, H3.out.2.2.2.2.2.2.2.2, (H3.out.2.2.2.2.2.2.1.later b4).lt⟩
      clear b4 H3
      cases hF : (noW t.reads n.region n.slot).isSome with
      | true =>
        rw [hF] at dA
        have HN : Hid (addN t n = t ∧ addNB t n = true) := ⟨by simp [addN, hB, hO, hF], by simp [addNB, hB, hO, hF]⟩
        obtain ⟨o0, o1, o2, o3, o4, o5, o6, -, -⟩ := H4.out.2.2.2.2.2.2.1
        obtain ⟨r0, r1, r2, r3, r4, r5, r6, fr, -⟩ := H4.out.2.2.1
        have yR5 := H4.out.2.2.1.put ⟨a4, c4, h4, d4⟩ t
        simp only [putT] at yR5
        obtain ⟨u0, u1, u2, u3, u4, u5, u6, -, -⟩ := yR5
        have KU := hidOf (And.intro u0 (And.intro u1 (And.intro u2 (And.intro u3 (And.intro u4 (And.intro u5 u6))))))
        clear u0 u1 u2 u3 u4 u5 u6
        have f0 := fr 0
        have f1 := fr 1
        have f2 := fr 2
        have f3 := fr 3
        have f4 := fr 4
        have f5 := fr 5
        have f6 := fr 6
        clear fr
        dsimp only at o4 o5 r4 r5
        go_wp2
        obtain ⟨u0, u1, u2, u3, u4, u5, u6⟩ := KU.out
        refine bodyPost_ret (v := .tuple #[.agg #[.int .i64 t.id, .int .i64 t.home, .int .i64 t.phase, .int .i64 t.count, .slice a4 t.reads.length c4, .slice h4 t.sets.length d4, .int .i64 t.stamp], .bool true]) (by simp [results, Try.results11, go_sem, u0, u1, u2, u3, u4, u5, u6]) rfl ?_
        rw [HN.out.1, HN.out.2]
        obtain ⟨-, -, -, g4, -, g6, -, g8, g9, -⟩ := H4.out
        refine ⟨a4, c4, h4, d4, PR, PS, rfl, ?_, putT_below (s := w.heap.size + 2) (v := ⟨a4, c4, h4, d4⟩) (t := t) g4 (by omega)⟩
        exact (g8.keep (w' := putT w4 (w.heap.size + 2) ⟨a4, c4, h4, d4⟩ t) (by rw [putT_size]; exact Nat.le_refl _) (fun q _ hq => putT_block (by have := (g9 q hq).1; omega))).low (fun q hq => by have := (g9 q hq).1; omega)
      | false =>
        rw [hF] at dA
        have p4 := H4.out.1.c4
        dsimp only at p4
        by_cases h12 : t.reads.length = 12
        · have d12 : ((t.reads.length : Int) == 12) = true := by simp; omega
          have HN : Hid (addN t n = noT ∧ addNB t n = false) := ⟨by simp [addN, hB, hO, hF, h12], by simp [addNB, hB, hO, hF, h12]⟩
          have KZ : Hid (BT w4 (w.heap.size + 2) ⟨none, 0, none, 0⟩ ⟨0, 0, 0, 0, [], [], 0⟩ ∧ Below w.heap.size w w4) := ⟨H4.out.2.2.1, H4.out.2.2.2.1⟩
          clear H4
          obtain ⟨r0, r1, r2, r3, r4, r5, r6, fr, -⟩ := KZ.out.1
          have yR5 := KZ.out.1.put ⟨none, 0, none, 0⟩ noT
          simp only [putT, noT, List.length_nil] at yR5
          obtain ⟨u0, u1, u2, u3, u4, u5, u6, -, -⟩ := yR5
          have KU := hidOf (And.intro u0 (And.intro u1 (And.intro u2 (And.intro u3 (And.intro u4 (And.intro u5 u6))))))
          clear u0 u1 u2 u3 u4 u5 u6
          have f0 := fr 0
          have f1 := fr 1
          have f2 := fr 2
          have f3 := fr 3
          have f4 := fr 4
          have f5 := fr 5
          have f6 := fr 6
          clear fr
          simp only [List.length_nil] at r4 r5
          go_wp2
          obtain ⟨u0, u1, u2, u3, u4, u5, u6⟩ := KU.out
          refine bodyPost_ret (v := .tuple #[.agg #[.int .i64 0, .int .i64 0, .int .i64 0, .int .i64 0, .slice none 0 0, .slice none 0 0, .int .i64 0], .bool false]) (by simp [results, Try.results11, go_sem, u0, u1, u2, u3, u4, u5, u6]) rfl ?_
          rw [HN.out.1, HN.out.2]
          exact TAnsR.zero (putT_below (s := w.heap.size + 2) (v := ⟨none, 0, none, 0⟩) (t := noT) KZ.out.2 (by omega))
        · have d12 : ((t.reads.length : Int) == 12) = false := by simp; omega
          have HN : Hid (addN t n = ⟨t.id, t.home, t.phase, t.count, insN t.reads n, t.sets, t.stamp⟩ ∧ addNB t n = true) := ⟨by simp [addN, hB, hO, hF, h12], by simp [addNB, hB, hO, h12]⟩
          obtain ⟨V, hV⟩ : ∃ V, V = w4.alloc (.cells #[] 29) := ⟨_, rfl⟩
          have bV : Below w4.heap.size w4 V := by rw [hV]; exact (Below.refl _ _).alloc (Nat.le_refl _) _
          have rV : RowN V w4.heap.size (.slice (some ⟨w4.heap.size, 0, none⟩) 0 0) [] := by rw [hV]; exact RowN.made w4
          have K4 : Hid (RowN V w4.heap.size (.slice (some ⟨w4.heap.size, 0, none⟩) 0 0) [] ∧ Below w4.heap.size w4 V) := ⟨rV, bV⟩
          clear rV bV
          go_wp2
          rw [← hV]
          clear hV p4 d12 dA
          go_loopw [7, 8] (fun v7 v8 wr => ∃ k : Nat, k ≤ t.reads.length ∧ v8 = .int .i64 k ∧ RowN wr w4.heap.size v7 (t.reads.take k) ∧ Below w4.heap.size w4 wr ∧ (∀ j, j < k → lessAt t.reads n j = true)) (fun _ v8 _ => t.reads.length - (intOf v8).toNat)
          case atStart => exact ⟨0, Nat.zero_le _, rfl, by simpa using K4.out.1, K4.out.2, fun j h => by omega⟩
          case round =>
            obtain ⟨k, hk, rfl, hrow, hbl, hall⟩ := hrel
            obtain ⟨a7, c7, e7, -⟩ := hrow.form
            rw [show (t.reads.take k).length = k by rw [List.length_take]; omega] at e7
            subst e7
            have KA : Hid (RowN wr w4.heap.size (.slice a7 k c7) (t.reads.take k) ∧ Below w4.heap.size w4 wr ∧ (∀ j, j < k → lessAt t.reads n j = true)) := ⟨hrow, hbl, hall⟩
            have hbt := H4.out.1.later hbl
            have hlt0 := hbt.lt
            have p4 := hbt.c4
            dsimp only at p4
            have hsl := (H4.out.2.2.2.2.1.later hbl).r
            have hno := H4.out.2.1.below hbl (by have := H4.out.2.2.2.2.2.1; have := H4.out.2.2.2.2.2.2.2.2.2; omega)
            have hnl : w.heap.size + 1 < wr.heap.size := by have := H4.out.2.2.2.2.2.1; have := H4.out.2.2.2.2.2.2.2.2.2; have := hbl.size; omega
            clear hrow hbl hall hbt
            by_cases hlt : k < t.reads.length
            · obtain ⟨_, hsk⟩ := hsl
              dsimp only at hsk
              rcases hsk with hsk | ⟨b, off, rfl, hb, hx⟩
              · omega
              obtain ⟨c0, c1, c2, c3, c4'⟩ := hx k _ (atNo_of hlt)
              obtain ⟨n0, n1, -, -, -⟩ := hno
              simp only [Nat.zero_add] at n1
              have hk5 : (k : Int) < (t.reads.length : Int) := by omega
              have hkd : decide ((k : Int) < (t.reads.length : Int)) = true := by simpa using hk5
              have q4 : ∀ d os, (grow (redrawn wr d) os).cell? ⟨w.heap.size, 4, none⟩ = some (.slice (some ⟨b, off, none⟩) t.reads.length cr) := fun d os => ((below_regrown wr d os).cell (p := ⟨w.heap.size, 4, none⟩) hlt0).trans p4
              have m0 : ∀ d os, (grow (redrawn wr d) os).cell? ⟨b, off + k * 5, none⟩ = some (.int .i64 (atNo t.reads k).region) := fun d os => ((below_regrown wr d os).cell (p := ⟨b, off + k * 5, none⟩) hb).trans c0
              have m1 : ∀ d os, (grow (redrawn wr d) os).cell? ⟨b, off + k * 5 + 1, none⟩ = some (.int .i64 (atNo t.reads k).slot) := fun d os => ((below_regrown wr d os).cell (p := ⟨b, off + k * 5 + 1, none⟩) hb).trans c1
              have m2 : ∀ d os, (grow (redrawn wr d) os).cell? ⟨b, off + k * 5 + 2, none⟩ = some (.int .i64 (atNo t.reads k).version) := fun d os => ((below_regrown wr d os).cell (p := ⟨b, off + k * 5 + 2, none⟩) hb).trans c2
              have m3 : ∀ d os, (grow (redrawn wr d) os).cell? ⟨b, off + k * 5 + 3, none⟩ = some (.int .i64 (atNo t.reads k).value) := fun d os => ((below_regrown wr d os).cell (p := ⟨b, off + k * 5 + 3, none⟩) hb).trans c3
              have m4 : ∀ d os, (grow (redrawn wr d) os).cell? ⟨b, off + k * 5 + 4, none⟩ = some (.bool (atNo t.reads k).used) := fun d os => ((below_regrown wr d os).cell (p := ⟨b, off + k * 5 + 4, none⟩) hb).trans c4'
              have g0 : ∀ d os, (grow (redrawn wr d) os).cell? ⟨w.heap.size + 1, 0, none⟩ = some (.int .i64 n.region) := fun d os => ((below_regrown wr d os).cell (p := ⟨w.heap.size + 1, 0, none⟩) hnl).trans n0
              have g1 : ∀ d os, (grow (redrawn wr d) os).cell? ⟨w.heap.size + 1, 1, none⟩ = some (.int .i64 n.slot) := fun d os => ((below_regrown wr d os).cell (p := ⟨w.heap.size + 1, 1, none⟩) hnl).trans n1
              have cL : ∀ d os, Calls Try.prog 50 #[.int .i64 (atNo t.reads k).region, .int .i64 (atNo t.reads k).slot, .int .i64 n.region, .int .i64 n.slot] (grow (redrawn wr d) os) fun e w'' => e = .returned (.bool (lessAt t.reads n k)) ∧ ∃ p : Regrown, w'' = grow (redrawn wr p.d) p.os := fun d os => Calls.regrown_of (specLess _ _ _ _ _)
              clear c0 c1 c2 c3 c4' hx n0 n1 p4
              cases gl : lessAt t.reads n k with
              | true =>
                rw [gl] at cL
                go_wp2_with fail
                refine wp_region_quiet_below (by kernel_rfl) (by kernel_rfl) ?_
                repeat (go_big_quiet_step (exact cL _ _))
                refine wpQuiet_nil ?_
                intro _ hw'
                obtain ⟨⟨dq, osq⟩, hw''⟩ := hw'
                subst hw''
                have bq := below_regrown wr dq osq
                have e4 := q4 dq osq
                have e0 := m0 dq osq
                have e1 := m1 dq osq
                have e2 := m2 dq osq
                have e3 := m3 dq osq
                have e5 := m4 dq osq
                clear q4 m0 m1 m2 m3 m4 g0 g1 cL
                generalize grow (redrawn wr dq) osq = U at *
                obtain ⟨V', hV⟩ : ∃ V, V = U.alloc (.cells #[.int .i64 (atNo t.reads k).region, .int .i64 (atNo t.reads k).slot, .int .i64 (atNo t.reads k).version, .int .i64 (atNo t.reads k).value, .bool (atNo t.reads k).used] 29) := ⟨_, rfl⟩
                have bU : Below U.heap.size U V' := by rw [hV]; exact (Below.refl _ _).alloc (Nat.le_refl _) _
                have bV : Below wr.heap.size wr V' := bq.trans (bU.mono bq.size)
                have hone : NotesAt V' U.heap.size 0 [atNo t.reads k] := by rw [hV]; exact (NoteAt.box U _ _).one
                obtain ⟨v', Y, hr', hrow', hgr, -⟩ := pushNo (KA.out.1.later bV) [atNo t.reads k] (by rw [List.length_take]; simp; omega) 24 U.heap.size 0 1 hone (Nat.le_trans KA.out.2.1.size bV.size)
                have KE : Hid (RowN Y w4.heap.size v' (t.reads.take (k + 1)) ∧ Below w4.heap.size w4 Y ∧ (∀ j, j < k + 1 → lessAt t.reads n j = true)) := by
                  refine ⟨by rw [List.take_add_one, atNo_of hlt]; exact hrow', ?_, fun j hj => ?_⟩
                  · exact (KA.out.2.1.trans (bV.mono KA.out.2.1.size)).grown hgr (Nat.le_trans KA.out.2.1.size bV.size) (fun q e => (KA.out.1.lt e).1)
                  · by_cases ej : j = k
                    · rw [ej]; exact gl
                    · exact KA.out.2.2 j (by omega)
                rw [hV] at hr'
                clear hV bV bU bq hone hrow' hgr
                simp only [List.length_cons, List.length_nil, Nat.zero_add] at hr'
                go_wp2_with (at_builtin; refine append_known _ rfl (.tmp 60) (.tmp 66) 24 rfl _ _ _ _ rfl rfl hr' ?_)
                exact ⟨⟨k + 1, by omega, by simp, KE.out.1, KE.out.2.1, KE.out.2.2⟩, by simp [intOf]; omega⟩
              | false =>
                rw [gl] at cL
                go_wp2_with fail
                refine wp_region_quiet_below (by kernel_rfl) (by kernel_rfl) ?_
                repeat (go_big_quiet_step (exact cL _ _))
                refine wpQuiet_nil ?_
                intro _ hw'
                obtain ⟨⟨dq, osq⟩, hw''⟩ := hw'
                subst hw''
                have bq := below_regrown wr dq osq
                have KT : Hid (RowN (grow (redrawn wr dq) osq) w4.heap.size (.slice a7 k c7) (t.reads.take k) ∧ Below w4.heap.size w4 (grow (redrawn wr dq) osq)) := ⟨KA.out.1.later bq, KA.out.2.1.trans (bq.mono KA.out.2.1.size)⟩
                have HC : Hid (cutN t.reads n = k) := cutN_at hlt gl KA.out.2.2
                clear bq q4 m0 m1 m2 m3 m4 g0 g1 cL KA
                generalize grow (redrawn wr dq) osq = U at *
                have KD : Hid (Below U.heap.size U U.drew) := (Below.refl _ _).drew
                have bD : Below w4.heap.size w4 U.drew := KT.out.2.trans (KD.out.mono KT.out.2.size)
                have SF : Hid (∀ X, Below w4.heap.size w4 X → (fun X : World => NoteAt X (w.heap.size + 1) 0 n ∧ X.cell? ⟨w.heap.size, 4, none⟩ = some (.slice (some ⟨b, off, none⟩) t.reads.length cr)) X) := fun X hX => ⟨H4.out.2.1.below hX (by have := H4.out.2.2.2.2.2.1; have := H4.out.2.2.2.2.2.2.2.2.2; omega), (H4.out.1.later hX).c4⟩
                have hS : (fun X : World => NoteAt X (w.heap.size + 1) 0 n ∧ X.cell? ⟨w.heap.size, 4, none⟩ = some (.slice (some ⟨b, off, none⟩) t.reads.length cr)) U.drew := SF.out _ bD
                have rD : RowN U.drew w4.heap.size (.slice a7 k c7) (t.reads.take k) := KT.out.1.later KD.out
                clear KD
                go_wp2_with fail
                refine wp_region_z (fun z => z == 11) (fun X : World => NoteAt X (w.heap.size + 1) 0 n ∧ X.cell? ⟨w.heap.size, 4, none⟩ = some (.slice (some ⟨b, off, none⟩) t.reads.length cr)) (by kernel_rfl) ?_
                generalize U.drew = Ud at *
                obtain ⟨V1, hV1⟩ : ∃ V, V = Ud.alloc (.cells #[.int .i64 n.region, .int .i64 n.slot, .int .i64 n.version, .int .i64 n.value, .bool n.used] 29) := ⟨_, rfl⟩
                have bV1 : Below Ud.heap.size Ud V1 := by rw [hV1]; exact (Below.refl _ _).alloc (Nat.le_refl _) _
                have hone : NotesAt V1 Ud.heap.size 0 [n] := by rw [hV1]; exact (NoteAt.box Ud _ _).one
                have hlk : (t.reads.take k).length = k := by rw [List.length_take]; omega
                obtain ⟨v1, Y1, run1, row1, gr1, -⟩ := pushNo (rD.later bV1) [n] (by rw [hlk]; simp; omega) 24 Ud.heap.size 0 1 hone (Nat.le_trans bD.size bV1.size)
                have bV1' : Below w4.heap.size w4 V1 := bD.trans (bV1.mono bD.size)
                have bY1 : Below w4.heap.size w4 Y1 := bV1'.grown gr1 bV1'.size (fun q e => (rD.lt e).1)
                obtain ⟨a1, c1, rfl, -⟩ := row1.form
                have hl1 : (t.reads.take k ++ [n]).length = k + 1 := by simp [hlk]
                obtain ⟨a8, ha8⟩ : ∃ a8 : Option Addr, a8 = (if cr = k then (some (⟨b, off, none⟩ : Addr)) else Option.map (fun x => x.add (k * 5)) (some (⟨b, off, none⟩ : Addr))) := ⟨_, rfl⟩
                have src : SlNo Y1 Y1.heap.size a8 (t.reads.drop k).length (t.reads.drop k) := by
                  refine ⟨rfl, ?_⟩
                  by_cases hz : (t.reads.drop k).length = 0
                  · exact .inl hz
                  · rw [List.length_drop] at hz
                    obtain ⟨-, hq⟩ := (H4.out.2.2.2.2.1.later bY1).r
                    dsimp only at hq
                    rcases hq with hq | ⟨b', off', e', hb', hx'⟩
                    · omega
                    · refine .inr ⟨b', off' + k * 5, ?_, hb', fun i s hi => ?_⟩
                      · rw [ha8, if_neg (by omega), e', Option.map_some]; congr 1; unfold Addr.add; split <;> simp_all
                      · rw [List.getElem?_drop] at hi
                        have := hx' (k + i) s hi
                        rwa [show off' + k * 5 + i * 5 = off' + (k + i) * 5 by omega]
                have run2' := pushNoAny row1 (t.reads.drop k) (by rw [hl1, List.length_drop]; omega) 24 a8 (cr - k) src bY1.size
                obtain ⟨a2, c2, Y2, run2, row2, gr2, -⟩ := run2'
                have bY2 : Below w4.heap.size w4 Y2 := bY1.grown gr2 bY1.size (fun q e => (row1.lt e).1)
                rw [hl1, List.length_drop] at run2
                generalize hzs : t.reads.take k ++ [n] ++ t.reads.drop k = zs at *
                have HZ := hidOf hzs
                clear hzs
                rw [hl1] at run1
                simp only [List.length_cons, List.length_nil, Nat.zero_add] at run1
                have xB : BT Y2 w3.heap.size ⟨a4, c4, h4, d4⟩ t := H4.out.2.2.2.2.2.2.1.later bY2
                have k4 := xB.c4
                have k4f := xB.fz 4
                dsimp only at k4
                have yB : BT (Y2.setCell ⟨w3.heap.size, 4, none⟩ (.slice a2 zs.length c2)) w3.heap.size ⟨a2, c2, h4, d4⟩ (⟨t.id, t.home, t.phase, t.count, zs, t.sets, t.stamp⟩ : T7) := xB.set4 a2 c2 zs
                have yR : BT (Y2.setCell ⟨w3.heap.size, 4, none⟩ (.slice a2 zs.length c2)) (w.heap.size + 2) ⟨none, 0, none, 0⟩ ⟨0, 0, 0, 0, [], [], 0⟩ := (H4.out.2.2.1.later bY2).far (by dsimp only; have := H4.out.2.2.2.2.2.1; omega) _
                have KF : Hid (BT (Y2.setCell ⟨w3.heap.size, 4, none⟩ (.slice a2 zs.length c2)) w3.heap.size ⟨a2, c2, h4, d4⟩ (⟨t.id, t.home, t.phase, t.count, zs, t.sets, t.stamp⟩ : T7) ∧ BT (Y2.setCell ⟨w3.heap.size, 4, none⟩ (.slice a2 zs.length c2)) (w.heap.size + 2) ⟨none, 0, none, 0⟩ ⟨0, 0, 0, 0, [], [], 0⟩ ∧ RowN Y2 w4.heap.size (.slice a2 zs.length c2) zs ∧ Below w4.heap.size w4 Y2) := ⟨yB, yR, row2, bY2⟩
                have S1 := hidOf (SF.out _ bV1')
                have S2 := hidOf (SF.out _ bY1)
                have S3 := hidOf (SF.out _ bY2)
                have ik : (k : Int) ≤ (t.reads.length : Int) := by omega
                clear bV1 hone gr1 bV1' bY1 row1 src gr2 bY2 row2 rD bD xB yB yR SF hl1 hlk
                refine wpZ_takeP (i := 0) (v := ?_) rfl (by kernel_rfl) (fun _ _ _ h => h) (Or.inl ⟨by rfl, ?_⟩) hS ?_
                rotate_left
                · (intro X _; go_simp; first | done | with_reducible rfl | (rw [if_pos (by omega)]) | (rw [if_pos (by omega)]; go_simp))
                simp only [Act.put]
                refine wpZ_take (i := 1) (v := ?_) rfl (by kernel_rfl) (fun _ _ _ h => h) (Or.inl ⟨by rfl, ?_⟩) hS ?_
                rotate_left
                · (intro X hSw; obtain ⟨⟨s0, s1, s2, s3, s4⟩, s5⟩ := hSw; simp only [Nat.zero_add] at s1 s2 s3 s4; go_simp; first | done | with_reducible rfl)
                simp only [Act.put]
                refine wpZ_takeP (i := 4) (v := ?_) rfl (by kernel_rfl) (fun _ _ _ h => h) (Or.inl ⟨by rfl, ?_⟩) hS ?_
                rotate_left
                · (intro X _; go_simp; first | done | with_reducible rfl | (rw [if_pos (by omega)]) | (rw [if_pos (by omega)]; go_simp))
                simp only [Act.put]
                refine wpZ_take (i := 5) (v := ?_) rfl (by kernel_rfl) (fun _ _ _ h => h) (Or.inl ⟨by rfl, ?_⟩) hS ?_
                rotate_left
                · (intro X hSw; obtain ⟨⟨s0, s1, s2, s3, s4⟩, s5⟩ := hSw; simp only [Nat.zero_add] at s1 s2 s3 s4; go_simp; first | done | with_reducible rfl)
                simp only [Act.put]
                refine wpZ_takeP (i := 6) (v := ?_) rfl (by kernel_rfl) (fun _ _ _ h => h) (Or.inl ⟨by rfl, ?_⟩) hS ?_
                rotate_left
                · (intro X _; go_simp; first | done | with_reducible rfl | (rw [if_pos (by omega)]) | (rw [if_pos (by omega)]; go_simp))
                simp only [Act.put]
                refine wpZ_takeP (i := 7) (v := ?_) rfl (by kernel_rfl) (fun _ _ _ h => h) (Or.inl ⟨by rfl, ?_⟩) hS ?_
                rotate_left
                · (intro X _; go_simp; first | done | with_reducible rfl | (rw [if_pos (by omega)]) | (rw [if_pos (by omega)]; go_simp))
                simp only [Act.put]
                refine wpZ_takeP (i := 8) (v := .slice a8 (t.reads.length - k) (cr - k)) rfl (by kernel_rfl) (fun _ _ _ h => h) (Or.inl ⟨by rfl, ?_⟩) hS ?_
                · (intro X _; rw [ha8]; go_simp; first | done | with_reducible rfl | rfl)
                clear ha8
                simp only [Act.put]
                refine wpZ_ready (rs := [2]) (by kernel_rfl) (by simp) ?_
                refine AllZ.cons rfl (fun K hK => ?_) AllZ.nil
                go_simp
                refine hK.out _ _ (fun _ => by rw [← hV1]; exact S1.out) ?_
                clear hK K
                rw [← hV1]
                clear hV1 S1
                refine wpZ_ready (rs := [3]) (by kernel_rfl) (by simp) ?_
                refine AllZ.cons rfl (fun K hK => ?_) AllZ.nil
                refine step_known _ rfl (.tmp 68) (.tmp 70) 24 rfl _ _ _ _ (by first | rfl | simp [Act.eval, Act.put]) (by first | rfl | simp [Act.eval, Act.put]) run1 ?_
                refine hK.out _ _ (fun _ => S2.out) ?_
                clear hK K
                clear S2 run1
                simp only [Act.put]
                refine wpZ_ready (rs := [9]) (by kernel_rfl) (by simp) ?_
                refine AllZ.cons rfl (fun K hK => ?_) AllZ.nil
                refine step_known _ rfl (.tmp 71) (.tmp 76) 24 rfl _ _ _ _ (by first | rfl | simp [Act.eval, Act.put]) (by first | rfl | simp [Act.eval, Act.put]) run2 ?_
                refine hK.out _ _ (fun _ => S3.out) ?_
                clear hK K
                clear run2
                simp only [Act.put]
                have hS := S3.out
                refine wpZ_takeP (i := 10) (v := ?_) rfl (by kernel_rfl) (fun _ _ _ h => h) (Or.inl ⟨by rfl, ?_⟩) hS ?_
                rotate_left
                · (intro X _; go_simp; first | done | with_reducible rfl | (rw [if_pos (by omega)]) | (rw [if_pos (by omega)]; go_simp))
                simp only [Act.put]
                refine wpZ_ready (rs := [11]) (by kernel_rfl) (by simp) ?_
                refine AllZ.cons rfl (fun K hK => ?_) AllZ.nil
                go_simp
                refine hK.out _ _ (fun h => absurd (show false = true from h.symm.trans (by kernel_rfl)) (by decide)) ?_
                clear hK K
                refine wpZ_done (by kernel_rfl) ?_ _
                clear S3 hS k4 k4f
                have yR5 := KF.out.2.1.put ⟨a2, c2, h4, d4⟩ (⟨t.id, t.home, t.phase, t.count, zs, t.sets, t.stamp⟩ : T7)
                simp only [putT] at yR5
                obtain ⟨u0, u1, u2, u3, u4, u5, u6, -, -⟩ := yR5
                have KU := hidOf (And.intro u0 (And.intro u1 (And.intro u2 (And.intro u3 (And.intro u4 (And.intro u5 u6))))))
                clear u0 u1 u2 u3 u4 u5 u6
                obtain ⟨o0, o1, o2, o3, o4, o5, o6, -, -⟩ := KF.out.1
                obtain ⟨r0, r1, r2, r3, r4, r5, r6, fr, -⟩ := KF.out.2.1
                have f0 := fr 0
                have f1 := fr 1
                have f2 := fr 2
                have f3 := fr 3
                have f4 := fr 4
                have f5 := fr 5
                have f6 := fr 6
                clear fr
                dsimp only at o0 o1 o2 o3 o4 o5 o6 r4 r5
                go_wp2
                obtain ⟨u0, u1, u2, u3, u4, u5, u6⟩ := KU.out
                refine bodyPost_ret (v := .tuple #[.agg #[.int .i64 t.id, .int .i64 t.home, .int .i64 t.phase, .int .i64 t.count, .slice a2 zs.length c2, .slice h4 t.sets.length d4, .int .i64 t.stamp], .bool true]) (by simp [results, Try.results11, go_sem, u0, u1, u2, u3, u4, u5, u6]) rfl ?_
                rw [HN.out.1, HN.out.2, insN, HC.out, HZ.out]
                obtain ⟨g1, g2, g3, g4⟩ := KF.out
                obtain ⟨-, -, -, j4, -, j6, -, j8, j9, j10⟩ := H4.out
                have bX : Below w.heap.size w (Y2.setCell ⟨w3.heap.size, 4, none⟩ (.slice a2 zs.length c2)) := (j4.trans (g4.mono j4.size)).setCell (p := ⟨w3.heap.size, 4, none⟩) (by dsimp only; omega) _
                refine ⟨a2, c2, h4, d4, fun q => (Value.slice a2 zs.length c2).ownBlock = some q, PS, rfl, ?_, putT_below (s := w.heap.size + 2) (v := ⟨a2, c2, h4, d4⟩) (t := (⟨t.id, t.home, t.phase, t.count, zs, t.sets, t.stamp⟩ : T7)) bX (by omega)⟩
                obtain ⟨_, _, e2, ow2⟩ := g3.form
                cases e2
                have ot : TR Y2 w.heap.size ⟨a2, c2, h4, d4⟩ (⟨t.id, t.home, t.phase, t.count, zs, t.sets, t.stamp⟩ : T7) (fun q => (Value.slice a2 zs.length c2).ownBlock = some q) PS := ⟨⟨ow2, (j8.later g4).ot.s, fun q h1 h2 => by have := (g3.lt h1).1; have := (j9 q (.inr h2)).2; omega, fun q h1 => ⟨by have := (g3.lt h1).1; omega, (g3.lt h1).2⟩, fun q h1 => ⟨by have := (j9 q (.inr h1)).1; omega, ((j8.later g4).ot.sB q h1).2⟩⟩, row_low g3 (fun q e => by have := (g3.lt e).1; omega), row_low (j8.later g4).cs (fun q e => by have := (j9 q (.inr ((j8.later g4).ps q e))).1; omega), fun q e => e, (j8.later g4).ps⟩
                have hne : ∀ q, OfT (fun q => (Value.slice a2 zs.length c2).ownBlock = some q) PS q → q ≠ w3.heap.size ∧ q ≠ w.heap.size + 2 := fun q hq => by
                  rcases hq with hq | hq
                  · have := (g3.lt hq).1; omega
                  · have := j9 q (.inr hq); omega
                have ot2 : TR (Y2.setCell ⟨w3.heap.size, 4, none⟩ (.slice a2 zs.length c2)) w.heap.size ⟨a2, c2, h4, d4⟩ (⟨t.id, t.home, t.phase, t.count, zs, t.sets, t.stamp⟩ : T7) (fun q => (Value.slice a2 zs.length c2).ownBlock = some q) PS := ot.keep (by simp [World.setCell]) (fun q _ hq => Below.heap_setCell _ _ _ _ (hne q hq).1)
                exact ot2.keep (w' := putT (Y2.setCell ⟨w3.heap.size, 4, none⟩ (.slice a2 zs.length c2)) (w.heap.size + 2) ⟨a2, c2, h4, d4⟩ (⟨t.id, t.home, t.phase, t.count, zs, t.sets, t.stamp⟩ : T7)) (by rw [putT_size]; exact Nat.le_refl _) (fun q _ hq => putT_block (hne q hq).2)
            · have hkd : decide ((k : Int) < (t.reads.length : Int)) = false := by simp; omega
              have q4 : ∀ d os, (grow (redrawn wr d) os).cell? ⟨w.heap.size, 4, none⟩ = some (.slice ar t.reads.length cr) := fun d os => ((below_regrown wr d os).cell (p := ⟨w.heap.size, 4, none⟩) hlt0).trans p4
              clear p4 hno hsl
              go_wp2_with fail
              refine wp_region_quiet_below (by kernel_rfl) (by kernel_rfl) ?_
              repeat (go_big_quiet_step (fail))
              refine wpQuiet_nil ?_
              intro _ hw'
              obtain ⟨⟨dq, osq⟩, hw''⟩ := hw'
              subst hw''
              have bq := below_regrown wr dq osq
              have KT : Hid (RowN (grow (redrawn wr dq) osq) w4.heap.size (.slice a7 k c7) (t.reads.take k) ∧ Below w4.heap.size w4 (grow (redrawn wr dq) osq)) := ⟨KA.out.1.later bq, KA.out.2.1.trans (bq.mono KA.out.2.1.size)⟩
              have HC : Hid (cutN t.reads n = k) := (cutN_all (fun j hj => KA.out.2.2 j (by omega))).trans (by omega)
              clear bq q4 KA
              generalize grow (redrawn wr dq) osq = U at *
              have KD : Hid (Below U.heap.size U U.drew) := (Below.refl _ _).drew
              have bD : Below w4.heap.size w4 U.drew := KT.out.2.trans (KD.out.mono KT.out.2.size)
              have SF : Hid (∀ X, Below w4.heap.size w4 X → (fun X : World => NoteAt X (w.heap.size + 1) 0 n ∧ X.cell? ⟨w.heap.size, 4, none⟩ = some (.slice ar t.reads.length cr)) X) := fun X hX => ⟨H4.out.2.1.below hX (by have := H4.out.2.2.2.2.2.1; have := H4.out.2.2.2.2.2.2.2.2.2; omega), (H4.out.1.later hX).c4⟩
              have hS : (fun X : World => NoteAt X (w.heap.size + 1) 0 n ∧ X.cell? ⟨w.heap.size, 4, none⟩ = some (.slice ar t.reads.length cr)) U.drew := SF.out _ bD
              have rD : RowN U.drew w4.heap.size (.slice a7 k c7) (t.reads.take k) := KT.out.1.later KD.out
              clear KD
              go_wp2_with fail
              refine wp_region_z (fun z => z == 11) (fun X : World => NoteAt X (w.heap.size + 1) 0 n ∧ X.cell? ⟨w.heap.size, 4, none⟩ = some (.slice ar t.reads.length cr)) (by kernel_rfl) ?_
              generalize U.drew = Ud at *
              obtain ⟨V1, hV1⟩ : ∃ V, V = Ud.alloc (.cells #[.int .i64 n.region, .int .i64 n.slot, .int .i64 n.version, .int .i64 n.value, .bool n.used] 29) := ⟨_, rfl⟩
              have bV1 : Below Ud.heap.size Ud V1 := by rw [hV1]; exact (Below.refl _ _).alloc (Nat.le_refl _) _
              have hone : NotesAt V1 Ud.heap.size 0 [n] := by rw [hV1]; exact (NoteAt.box Ud _ _).one
              have hlk : (t.reads.take k).length = k := by rw [List.length_take]; omega
              obtain ⟨v1, Y1, run1, row1, gr1, -⟩ := pushNo (rD.later bV1) [n] (by rw [hlk]; simp; omega) 24 Ud.heap.size 0 1 hone (Nat.le_trans bD.size bV1.size)
              have bV1' : Below w4.heap.size w4 V1 := bD.trans (bV1.mono bD.size)
              have bY1 : Below w4.heap.size w4 Y1 := bV1'.grown gr1 bV1'.size (fun q e => (rD.lt e).1)
              obtain ⟨a1, c1, rfl, -⟩ := row1.form
              have hl1 : (t.reads.take k ++ [n]).length = k + 1 := by simp [hlk]
              obtain ⟨a8, ha8⟩ : ∃ a8 : Option Addr, a8 = (if cr = k then ar else Option.map (fun x => x.add (k * 5)) ar) := ⟨_, rfl⟩
              have src : SlNo Y1 Y1.heap.size a8 (t.reads.drop k).length (t.reads.drop k) := by
                refine ⟨rfl, ?_⟩
                by_cases hz : (t.reads.drop k).length = 0
                · exact .inl hz
                · rw [List.length_drop] at hz
                  obtain ⟨-, hq⟩ := (H4.out.2.2.2.2.1.later bY1).r
                  dsimp only at hq
                  rcases hq with hq | ⟨b', off', e', hb', hx'⟩
                  · omega
                  · refine .inr ⟨b', off' + k * 5, ?_, hb', fun i s hi => ?_⟩
                    · rw [ha8, if_neg (by omega), e', Option.map_some]; congr 1; unfold Addr.add; split <;> simp_all
                    · rw [List.getElem?_drop] at hi
                      have := hx' (k + i) s hi
                      rwa [show off' + k * 5 + i * 5 = off' + (k + i) * 5 by omega]
              have run2' := pushNoAny row1 (t.reads.drop k) (by rw [hl1, List.length_drop]; omega) 24 a8 (cr - k) src bY1.size
              obtain ⟨a2, c2, Y2, run2, row2, gr2, -⟩ := run2'
              have bY2 : Below w4.heap.size w4 Y2 := bY1.grown gr2 bY1.size (fun q e => (row1.lt e).1)
              rw [hl1, List.length_drop] at run2
              generalize hzs : t.reads.take k ++ [n] ++ t.reads.drop k = zs at *
              have HZ := hidOf hzs
              clear hzs
              rw [hl1] at run1
              simp only [List.length_cons, List.length_nil, Nat.zero_add] at run1
              have xB : BT Y2 w3.heap.size ⟨a4, c4, h4, d4⟩ t := H4.out.2.2.2.2.2.2.1.later bY2
              have k4 := xB.c4
              have k4f := xB.fz 4
              dsimp only at k4
              have yB : BT (Y2.setCell ⟨w3.heap.size, 4, none⟩ (.slice a2 zs.length c2)) w3.heap.size ⟨a2, c2, h4, d4⟩ (⟨t.id, t.home, t.phase, t.count, zs, t.sets, t.stamp⟩ : T7) := xB.set4 a2 c2 zs
              have yR : BT (Y2.setCell ⟨w3.heap.size, 4, none⟩ (.slice a2 zs.length c2)) (w.heap.size + 2) ⟨none, 0, none, 0⟩ ⟨0, 0, 0, 0, [], [], 0⟩ := (H4.out.2.2.1.later bY2).far (by dsimp only; have := H4.out.2.2.2.2.2.1; omega) _
              have KF : Hid (BT (Y2.setCell ⟨w3.heap.size, 4, none⟩ (.slice a2 zs.length c2)) w3.heap.size ⟨a2, c2, h4, d4⟩ (⟨t.id, t.home, t.phase, t.count, zs, t.sets, t.stamp⟩ : T7) ∧ BT (Y2.setCell ⟨w3.heap.size, 4, none⟩ (.slice a2 zs.length c2)) (w.heap.size + 2) ⟨none, 0, none, 0⟩ ⟨0, 0, 0, 0, [], [], 0⟩ ∧ RowN Y2 w4.heap.size (.slice a2 zs.length c2) zs ∧ Below w4.heap.size w4 Y2) := ⟨yB, yR, row2, bY2⟩
              have S1 := hidOf (SF.out _ bV1')
              have S2 := hidOf (SF.out _ bY1)
              have S3 := hidOf (SF.out _ bY2)
              have ik : (k : Int) ≤ (t.reads.length : Int) := by omega
              clear bV1 hone gr1 bV1' bY1 row1 src gr2 bY2 row2 rD bD xB yB yR SF hl1 hlk
              refine wpZ_takeP (i := 0) (v := ?_) rfl (by kernel_rfl) (fun _ _ _ h => h) (Or.inl ⟨by rfl, ?_⟩) hS ?_
              rotate_left
              · (intro X _; go_simp; first | done | with_reducible rfl | (rw [if_pos (by omega)]) | (rw [if_pos (by omega)]; go_simp))
              simp only [Act.put]
              refine wpZ_take (i := 1) (v := ?_) rfl (by kernel_rfl) (fun _ _ _ h => h) (Or.inl ⟨by rfl, ?_⟩) hS ?_
              rotate_left
              · (intro X hSw; obtain ⟨⟨s0, s1, s2, s3, s4⟩, s5⟩ := hSw; simp only [Nat.zero_add] at s1 s2 s3 s4; go_simp; first | done | with_reducible rfl)
              simp only [Act.put]
              refine wpZ_takeP (i := 4) (v := ?_) rfl (by kernel_rfl) (fun _ _ _ h => h) (Or.inl ⟨by rfl, ?_⟩) hS ?_
              rotate_left
              · (intro X _; go_simp; first | done | with_reducible rfl | (rw [if_pos (by omega)]) | (rw [if_pos (by omega)]; go_simp))
              simp only [Act.put]
              refine wpZ_take (i := 5) (v := ?_) rfl (by kernel_rfl) (fun _ _ _ h => h) (Or.inl ⟨by rfl, ?_⟩) hS ?_
              rotate_left
              · (intro X hSw; obtain ⟨⟨s0, s1, s2, s3, s4⟩, s5⟩ := hSw; simp only [Nat.zero_add] at s1 s2 s3 s4; go_simp; first | done | with_reducible rfl)
              simp only [Act.put]
              refine wpZ_takeP (i := 6) (v := ?_) rfl (by kernel_rfl) (fun _ _ _ h => h) (Or.inl ⟨by rfl, ?_⟩) hS ?_
              rotate_left
              · (intro X _; go_simp; first | done | with_reducible rfl | (rw [if_pos (by omega)]) | (rw [if_pos (by omega)]; go_simp))
              simp only [Act.put]
              refine wpZ_takeP (i := 7) (v := ?_) rfl (by kernel_rfl) (fun _ _ _ h => h) (Or.inl ⟨by rfl, ?_⟩) hS ?_
              rotate_left
              · (intro X _; go_simp; first | done | with_reducible rfl | (rw [if_pos (by omega)]) | (rw [if_pos (by omega)]; go_simp))
              simp only [Act.put]
              refine wpZ_takeP (i := 8) (v := .slice a8 (t.reads.length - k) (cr - k)) rfl (by kernel_rfl) (fun _ _ _ h => h) (Or.inl ⟨by rfl, ?_⟩) hS ?_
              · (intro X _; rw [ha8]; go_simp; first | done | with_reducible rfl | rfl)
              clear ha8
              simp only [Act.put]
              refine wpZ_ready (rs := [2]) (by kernel_rfl) (by simp) ?_
              refine AllZ.cons rfl (fun K hK => ?_) AllZ.nil
              go_simp
              refine hK.out _ _ (fun _ => by rw [← hV1]; exact S1.out) ?_
              clear hK K
              rw [← hV1]
              clear hV1 S1
              refine wpZ_ready (rs := [3]) (by kernel_rfl) (by simp) ?_
              refine AllZ.cons rfl (fun K hK => ?_) AllZ.nil
              refine step_known _ rfl (.tmp 68) (.tmp 70) 24 rfl _ _ _ _ (by first | rfl | simp [Act.eval, Act.put]) (by first | rfl | simp [Act.eval, Act.put]) run1 ?_
              refine hK.out _ _ (fun _ => S2.out) ?_
              clear hK K
              clear S2 run1
              simp only [Act.put]
              refine wpZ_ready (rs := [9]) (by kernel_rfl) (by simp) ?_
              refine AllZ.cons rfl (fun K hK => ?_) AllZ.nil
              refine step_known _ rfl (.tmp 71) (.tmp 76) 24 rfl _ _ _ _ (by first | rfl | simp [Act.eval, Act.put]) (by first | rfl | simp [Act.eval, Act.put]) run2 ?_
              refine hK.out _ _ (fun _ => S3.out) ?_
              clear hK K
              clear run2
              simp only [Act.put]
              have hS := S3.out
              refine wpZ_takeP (i := 10) (v := ?_) rfl (by kernel_rfl) (fun _ _ _ h => h) (Or.inl ⟨by rfl, ?_⟩) hS ?_
              rotate_left
              · (intro X _; go_simp; first | done | with_reducible rfl | (rw [if_pos (by omega)]) | (rw [if_pos (by omega)]; go_simp))
              simp only [Act.put]
              refine wpZ_ready (rs := [11]) (by kernel_rfl) (by simp) ?_
              refine AllZ.cons rfl (fun K hK => ?_) AllZ.nil
              go_simp
              refine hK.out _ _ (fun h => absurd (show false = true from h.symm.trans (by kernel_rfl)) (by decide)) ?_
              clear hK K
              refine wpZ_done (by kernel_rfl) ?_ _
              clear S3 hS k4 k4f
              have yR5 := KF.out.2.1.put ⟨a2, c2, h4, d4⟩ (⟨t.id, t.home, t.phase, t.count, zs, t.sets, t.stamp⟩ : T7)
              simp only [putT] at yR5
              obtain ⟨u0, u1, u2, u3, u4, u5, u6, -, -⟩ := yR5
              have KU := hidOf (And.intro u0 (And.intro u1 (And.intro u2 (And.intro u3 (And.intro u4 (And.intro u5 u6))))))
              clear u0 u1 u2 u3 u4 u5 u6
              obtain ⟨o0, o1, o2, o3, o4, o5, o6, -, -⟩ := KF.out.1
              obtain ⟨r0, r1, r2, r3, r4, r5, r6, fr, -⟩ := KF.out.2.1
              have f0 := fr 0
              have f1 := fr 1
              have f2 := fr 2
              have f3 := fr 3
              have f4 := fr 4
              have f5 := fr 5
              have f6 := fr 6
              clear fr
              dsimp only at o0 o1 o2 o3 o4 o5 o6 r4 r5
              go_wp2
              obtain ⟨u0, u1, u2, u3, u4, u5, u6⟩ := KU.out
              refine bodyPost_ret (v := .tuple #[.agg #[.int .i64 t.id, .int .i64 t.home, .int .i64 t.phase, .int .i64 t.count, .slice a2 zs.length c2, .slice h4 t.sets.length d4, .int .i64 t.stamp], .bool true]) (by simp [results, Try.results11, go_sem, u0, u1, u2, u3, u4, u5, u6]) rfl ?_
              rw [HN.out.1, HN.out.2, insN, HC.out, HZ.out]
              obtain ⟨g1, g2, g3, g4⟩ := KF.out
              obtain ⟨-, -, -, j4, -, j6, -, j8, j9, j10⟩ := H4.out
              have bX : Below w.heap.size w (Y2.setCell ⟨w3.heap.size, 4, none⟩ (.slice a2 zs.length c2)) := (j4.trans (g4.mono j4.size)).setCell (p := ⟨w3.heap.size, 4, none⟩) (by dsimp only; omega) _
              refine ⟨a2, c2, h4, d4, fun q => (Value.slice a2 zs.length c2).ownBlock = some q, PS, rfl, ?_, putT_below (s := w.heap.size + 2) (v := ⟨a2, c2, h4, d4⟩) (t := (⟨t.id, t.home, t.phase, t.count, zs, t.sets, t.stamp⟩ : T7)) bX (by omega)⟩
              obtain ⟨_, _, e2, ow2⟩ := g3.form
              cases e2
              have ot : TR Y2 w.heap.size ⟨a2, c2, h4, d4⟩ (⟨t.id, t.home, t.phase, t.count, zs, t.sets, t.stamp⟩ : T7) (fun q => (Value.slice a2 zs.length c2).ownBlock = some q) PS := ⟨⟨ow2, (j8.later g4).ot.s, fun q h1 h2 => by have := (g3.lt h1).1; have := (j9 q (.inr h2)).2; omega, fun q h1 => ⟨by have := (g3.lt h1).1; omega, (g3.lt h1).2⟩, fun q h1 => ⟨by have := (j9 q (.inr h1)).1; omega, ((j8.later g4).ot.sB q h1).2⟩⟩, row_low g3 (fun q e => by have := (g3.lt e).1; omega), row_low (j8.later g4).cs (fun q e => by have := (j9 q (.inr ((j8.later g4).ps q e))).1; omega), fun q e => e, (j8.later g4).ps⟩
              have hne : ∀ q, OfT (fun q => (Value.slice a2 zs.length c2).ownBlock = some q) PS q → q ≠ w3.heap.size ∧ q ≠ w.heap.size + 2 := fun q hq => by
                rcases hq with hq | hq
                · have := (g3.lt hq).1; omega
                · have := j9 q (.inr hq); omega
              have ot2 : TR (Y2.setCell ⟨w3.heap.size, 4, none⟩ (.slice a2 zs.length c2)) w.heap.size ⟨a2, c2, h4, d4⟩ (⟨t.id, t.home, t.phase, t.count, zs, t.sets, t.stamp⟩ : T7) (fun q => (Value.slice a2 zs.length c2).ownBlock = some q) PS := ot.keep (by simp [World.setCell]) (fun q _ hq => Below.heap_setCell _ _ _ _ (hne q hq).1)
              exact ot2.keep (w' := putT (Y2.setCell ⟨w3.heap.size, 4, none⟩ (.slice a2 zs.length c2)) (w.heap.size + 2) ⟨a2, c2, h4, d4⟩ (⟨t.id, t.home, t.phase, t.count, zs, t.sets, t.stamp⟩ : T7)) (by rw [putT_size]; exact Nat.le_refl _) (fun q _ hq => putT_block (hne q hq).2)
end Go.Proofs.Ytiidlcjjaglkdaa
namespace Go.Proofs.Ytiidlcjjaglkdaa
open Go.RowKit
def BS (X : World) (s : Nat) (n : S5) : Prop := SetAt X s 0 n ∧ ∀ j, X.frozen? ⟨s, j, none⟩ = false
theorem BS.below {w w' : World} {B s : Nat} {n : S5} (h : BS w s n) (hb : Below B w w') (hB : s < B) : BS w' s n := ⟨h.1.below hb hB, fun j => (hb.frozen (p := ⟨s, j, none⟩) hB).trans (h.2 j)⟩
theorem BS.box (X : World) (n : S5) (T : TypeId) : BS (X.alloc (.cells #[.int .i64 n.region, .int .i64 n.slot, .int .i64 n.value, .bool n.used, .int .i64 n.version] T)) X.heap.size n := ⟨SetAt.box X n T, fun j => by go_simp⟩
end Go.Proofs.Ytiidlcjjaglkdaa