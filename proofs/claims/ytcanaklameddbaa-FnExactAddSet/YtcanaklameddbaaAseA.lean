/- AddSet of the program. -/
import Derived.Test.YtcanaklameddbaaRows
import Derived.Test.YtcanaklameddbaaAseF
import Derived.Test.YtcanaklameddbaaAseC
import Derived.Test.YtcanaklameddbaaPutS
import Derived.WalkKit
import Derived.WalkSpells
import Derived.WalkLawsBesides
import Derived.Below
import Derived.Lib.QuietBelow
import Derived.BigQuiet
import Derived.Deep.CutRange
namespace Go.Proofs.Ytcanaklameddbaa
open Go.RowKit
open Go.Sort (grow)
theorem BT.under {X Y : World} {B s : Nat} {v : TV} {t : T7} (h : BT X s v t) (hb : Below B X Y) (hs : s < B) : BT Y s v t := h.of_block (hb.block _ hs) hb.size
theorem OT.under {X Y : World} {B B0 : Nat} {v : TV} {t : T7} {PR PS : Nat → Prop} (h : OT X B0 v t PR PS) (hb : Below B X Y) (hq : ∀ q, OfT PR PS q → q < B) : OT Y B0 v t PR PS := h.keep hb.size (fun q _ ho => hb.block q (hq q ho))
set_option maxRecDepth 100000 in
set_option maxHeartbeats 8000000 in
theorem implAddSet_any (w : World) (v : TV) (t : T7) (n : S5) (hl : TL t) (hs : SlT w v t) :
    Calls Try.prog 12 #[v.val t, .agg #[.int .i64 n.region, .int .i64 n.slot, .int .i64 n.value, .bool n.used, .int .i64 n.version]] w (TAns w (addSe t n) (addSB t n)) := by
  obtain ⟨ar, cr, ah, ch⟩ := v
  simp only [TV.val]
  obtain ⟨W0, hW0⟩ : ∃ W, W = w.alloc (.cells #[.int .i64 t.id, .int .i64 t.home, .int .i64 t.phase, .int .i64 t.count, .slice ar t.reads.length cr, .slice ah t.sets.length ch, .int .i64 t.stamp] 27) := ⟨_, rfl⟩
  have z0 : W0.heap.size = w.heap.size + 1 := by rw [hW0]; simp
  have x0 : BT W0 w.heap.size ⟨ar, cr, ah, ch⟩ t := by rw [hW0]; exact BT.box w ⟨ar, cr, ah, ch⟩ t _
  have b0 : Below w.heap.size w W0 := by rw [hW0]; exact (Below.refl _ _).alloc (Nat.le_refl _) _
  obtain ⟨W1, hW1⟩ : ∃ W, W = W0.alloc (.cells #[.int .i64 n.region, .int .i64 n.slot, .int .i64 n.value, .bool n.used, .int .i64 n.version] 36) := ⟨_, rfl⟩
  have z1 : W1.heap.size = w.heap.size + 2 := by rw [hW1]; simp [z0]
  have x1 : BS W1 (w.heap.size + 1) n := by rw [hW1, ← z0]; exact BS.box W0 _ _
  have b1 : Below W0.heap.size W0 W1 := by rw [hW1]; exact (Below.refl _ _).alloc (Nat.le_refl _) _
  obtain ⟨W, hW⟩ : ∃ W, W = W1.alloc (.cells #[.int .i64 0, .int .i64 0, .int .i64 0, .int .i64 0, .slice none 0 0, .slice none 0 0, .int .i64 0] 27) := ⟨_, rfl⟩
  have zW : W.heap.size = w.heap.size + 3 := by rw [hW]; simp [z1]
  have x2 : BT W (w.heap.size + 2) ⟨none, 0, none, 0⟩ ⟨0, 0, 0, 0, [], [], 0⟩ := by rw [hW, ← z1]; exact BT.zero W1 _
  have b2 : Below W1.heap.size W1 W := by rw [hW]; exact (Below.refl _ _).alloc (Nat.le_refl _) _
  have bW : Below w.heap.size w W := (b0.trans (b1.mono b0.size)).trans (b2.mono (by omega))
  have c1 := implTxOk_any W ⟨ar, cr, ah, ch⟩ t hl (hs.later bW)
  simp only [TV.val] at c1
  have H : Hid (BT W w.heap.size ⟨ar, cr, ah, ch⟩ t ∧ BS W (w.heap.size + 1) n ∧ BT W (w.heap.size + 2) ⟨none, 0, none, 0⟩ ⟨0, 0, 0, 0, [], [], 0⟩ ∧ Below w.heap.size w W ∧ SlT W ⟨ar, cr, ah, ch⟩ t ∧ W.heap.size = w.heap.size + 3) := ⟨(x0.later b1).later b2, x1.below b2 (by omega), x2, bW, hs.later bW, zW⟩
  rw [hW1, hW0] at hW
  clear hW0 hW1 z0 x0 b0 z1 x1 b1 zW x2 b2 bW hs hl
  cases hB : txB t with
  | false =>
    rw [hB] at c1
    have HN : Hid (addSe t n = noT ∧ addSB t n = false) := ⟨by simp [addSe, hB], by simp [addSB, hB]⟩
    go_enter Try.func12, Try.ntmps12
    go_wp2_with fail
    rw [← hW]
    clear hW
    refine c1.mono ?_
    clear c1
    rintro e w1 ⟨rfl, b1⟩
    have KZ : Hid (BT w1 (w.heap.size + 2) ⟨none, 0, none, 0⟩ ⟨0, 0, 0, 0, [], [], 0⟩ ∧ Below w.heap.size w w1) := ⟨H.out.2.2.1.later b1, H.out.2.2.2.1.trans (b1.mono H.out.2.2.2.1.size)⟩
    clear b1 H
    obtain ⟨r0, r1, r2, r3, r4, r5, r6, fr, -⟩ := KZ.out.1
    have yR5 := KZ.out.1.put ⟨none, 0, none, 0⟩ noT
    simp only [putT, noT, List.length_nil] at yR5
    obtain ⟨u0, u1, u2, u3, u4, u5, u6, -, -⟩ := yR5
    have KU := hidOf (And.intro u0 (And.intro u1 (And.intro u2 (And.intro u3 (And.intro u4 (And.intro u5 u6))))))
    clear u0 u1 u2 u3 u4 u5 u6
    have f0 := fr 0
    have f1 := fr 1
    have f2 := fr 2
    have f3 := fr 3
    have f4 := fr 4
    have f5 := fr 5
    have f6 := fr 6
    clear fr
    simp only [List.length_nil] at r4 r5
    go_wp2
    obtain ⟨u0, u1, u2, u3, u4, u5, u6⟩ := KU.out
    refine bodyPost_ret (v := .tuple #[.agg #[.int .i64 0, .int .i64 0, .int .i64 0, .int .i64 0, .slice none 0 0, .slice none 0 0, .int .i64 0], .bool false]) (by simp [results, Try.results12, go_sem, u0, u1, u2, u3, u4, u5, u6]) rfl ?_
    rw [HN.out.1, HN.out.2]
    exact TAns.zero (putT_below (s := w.heap.size + 2) (v := ⟨none, 0, none, 0⟩) (t := noT) KZ.out.2 (by omega))
  | true =>
    rw [hB] at c1
    go_enter Try.func12, Try.ntmps12
    go_wp2_with fail
    rw [← hW]
    clear hW
    refine c1.mono ?_
    clear c1
    rintro e w1 ⟨rfl, b1⟩
    obtain ⟨⟨n0, n1, n2, n3, n4⟩, -⟩ := H.out.2.1.below b1 (by have := H.out.2.2.2.2.2; omega)
    simp only [Nat.zero_add] at n1 n2 n3 n4
    have c2 := implSetOk w1 n
    have H1 : Hid (BT w1 w.heap.size ⟨ar, cr, ah, ch⟩ t ∧ BS w1 (w.heap.size + 1) n ∧ BT w1 (w.heap.size + 2) ⟨none, 0, none, 0⟩ ⟨0, 0, 0, 0, [], [], 0⟩ ∧ Below w.heap.size w w1 ∧ SlT w1 ⟨ar, cr, ah, ch⟩ t ∧ w.heap.size + 3 ≤ w1.heap.size) := ⟨H.out.1.later b1, H.out.2.1.below b1 (by have := H.out.2.2.2.2.2; omega), H.out.2.2.1.later b1, H.out.2.2.2.1.trans (b1.mono H.out.2.2.2.1.size), H.out.2.2.2.2.1.later b1, by have := H.out.2.2.2.2.2; have := b1.size; omega⟩
    clear b1 H
    go_wp2_with fail
    refine c2.mono ?_
    clear c2 n0 n1 n2 n3 n4
    rintro e w2 ⟨rfl, b2⟩
    have H2 : Hid (BT w2 w.heap.size ⟨ar, cr, ah, ch⟩ t ∧ BS w2 (w.heap.size + 1) n ∧ BT w2 (w.heap.size + 2) ⟨none, 0, none, 0⟩ ⟨0, 0, 0, 0, [], [], 0⟩ ∧ Below w.heap.size w w2 ∧ SlT w2 ⟨ar, cr, ah, ch⟩ t ∧ w.heap.size + 3 ≤ w2.heap.size) := ⟨H1.out.1.later b2, H1.out.2.1.below b2 (by have := H1.out.2.2.2.2.2; omega), H1.out.2.2.1.later b2, H1.out.2.2.2.1.trans (b2.mono H1.out.2.2.2.1.size), H1.out.2.2.2.2.1.later b2, by have := H1.out.2.2.2.2.2; have := b2.size; omega⟩
    clear b2 H1
    cases hO : setOkB n with
    | false =>
      have HN : Hid (addSe t n = noT ∧ addSB t n = false) := ⟨by simp [addSe, hO], by simp [addSB, hO]⟩
      have KZ : Hid (BT w2 (w.heap.size + 2) ⟨none, 0, none, 0⟩ ⟨0, 0, 0, 0, [], [], 0⟩ ∧ Below w.heap.size w w2) := ⟨H2.out.2.2.1, H2.out.2.2.2.1⟩
      clear H2
      obtain ⟨r0, r1, r2, r3, r4, r5, r6, fr, -⟩ := KZ.out.1
      have yR5 := KZ.out.1.put ⟨none, 0, none, 0⟩ noT
      simp only [putT, noT, List.length_nil] at yR5
      obtain ⟨u0, u1, u2, u3, u4, u5, u6, -, -⟩ := yR5
      have KU := hidOf (And.intro u0 (And.intro u1 (And.intro u2 (And.intro u3 (And.intro u4 (And.intro u5 u6))))))
      clear u0 u1 u2 u3 u4 u5 u6
      have f0 := fr 0
      have f1 := fr 1
      have f2 := fr 2
      have f3 := fr 3
      have f4 := fr 4
      have f5 := fr 5
      have f6 := fr 6
      clear fr
      simp only [List.length_nil] at r4 r5
      go_wp2
      obtain ⟨u0, u1, u2, u3, u4, u5, u6⟩ := KU.out
      refine bodyPost_ret (v := .tuple #[.agg #[.int .i64 0, .int .i64 0, .int .i64 0, .int .i64 0, .slice none 0 0, .slice none 0 0, .int .i64 0], .bool false]) (by simp [results, Try.results12, go_sem, u0, u1, u2, u3, u4, u5, u6]) rfl ?_
      rw [HN.out.1, HN.out.2]
      exact TAns.zero (putT_below (s := w.heap.size + 2) (v := ⟨none, 0, none, 0⟩) (t := noT) KZ.out.2 (by omega))
    | true =>
      have l12 := (txB_lens hB).1
      have l12' := (txB_lens hB).2
      have HT : Hid ((∀ s ∈ t.sets, setOkB s = true) ∧ seUp2 t.sets ∧ setOkB n = true) := ⟨(txB_se hB).1, (txB_se hB).2, hO⟩
      have c3 := ownTx_any w2 ⟨ar, cr, ah, ch⟩ t (by omega) (by omega) H2.out.2.2.2.2.1
      simp only [TV.val] at c3
      obtain ⟨p0, p1, p2, p3, p4, p5, p6, -, -⟩ := H2.out.1
      dsimp only at p4 p5
      go_wp2_with fail
      refine c3.mono ?_
      clear c3 p0 p1 p2 p3 p4 p5 p6
      rintro e w3 ⟨a4, c4, h4, d4, PR, PS, rfl, o3, b3⟩
      simp only [TV.val]
      obtain ⟨X3, hX3⟩ : ∃ X, X = w3.alloc (.cells #[.int .i64 t.id, .int .i64 t.home, .int .i64 t.phase, .int .i64 t.count, .slice a4 t.reads.length c4, .slice h4 t.sets.length d4, .int .i64 t.stamp] 27) := ⟨_, rfl⟩
      have b3' : Below w3.heap.size w3 X3 := by rw [hX3]; exact (Below.refl _ _).alloc (Nat.le_refl _) _
      have b23 : Below w2.heap.size w2 X3 := b3.trans (b3'.mono b3.size)
      have x3 : BT X3 w3.heap.size ⟨a4, c4, h4, d4⟩ t := by rw [hX3]; exact BT.box w3 ⟨a4, c4, h4, d4⟩ t _
      have H3 : Hid (BS X3 (w.heap.size + 1) n ∧ BT X3 (w.heap.size + 2) ⟨none, 0, none, 0⟩ ⟨0, 0, 0, 0, [], [], 0⟩ ∧ Below w.heap.size w X3 ∧ w.heap.size + 3 ≤ w3.heap.size ∧ BT X3 w3.heap.size ⟨a4, c4, h4, d4⟩ t ∧ OT X3 w2.heap.size ⟨a4, c4, h4, d4⟩ t PR PS ∧ (∀ q, OfT PR PS q → w.heap.size + 3 ≤ q ∧ q < w3.heap.size) ∧ w3.heap.size < X3.heap.size) := ⟨H2.out.2.1.below b23 (by have := H2.out.2.2.2.2.2; omega), H2.out.2.2.1.later b23, H2.out.2.2.2.1.trans (b23.mono H2.out.2.2.2.1.size), by have := H2.out.2.2.2.2.2; have := b3.size; omega, x3, o3.later b3', fun q hq => ⟨by have := (o3.of hq).1; have := H2.out.2.2.2.2.2; omega, (o3.of hq).2⟩, x3.lt⟩
      clear b3 b3' b23 x3 o3 H2
      have c4' := sePileOf_any X3 h4 d4 t.sets (by omega) H3.out.2.2.2.2.2.1.sl.s HT.out.1 HT.out.2.1
      have k4 := H3.out.2.2.2.2.1.c5
      dsimp only at k4
      rw [hX3] at k4
      go_wp2_with fail
      rw [← hX3]
      clear hX3 k4
      refine c4'.mono ?_
      clear c4'
      rintro e w4 ⟨p, mb, m, pv, rfl, hp, hm, b4⟩
      obtain ⟨⟨n0, n1, n2, n3, n4⟩, -⟩ := H3.out.1.below b4 (by have := H3.out.2.2.2.1; have := H3.out.2.2.2.2.2.2.2; omega)
      simp only [Nat.zero_add] at n1 n2 n3 n4
      have cC := seCell_any w4 n
      have H4 : Hid (PisB w4 X3.heap.size p mb m pv t.sets ∧ Below X3.heap.size X3 w4) := ⟨hp, b4⟩
      clear hp b4
      go_wp2_with fail
      refine cC.mono ?_
      clear cC n0 n1 n2 n3 n4
      rintro e w5 ⟨rfl, b5⟩
      have cH := seFind_any w5 X3.heap.size p mb m pv t.sets n.region n.slot (H4.out.1.later b5) (by omega) (seOk_in HT.out.2.2).1 (seOk_in HT.out.2.2).2
      have H5 : Hid (PisB w5 X3.heap.size p mb m pv t.sets ∧ Below X3.heap.size X3 w5) := ⟨H4.out.1.later b5, H4.out.2.trans (b5.mono H4.out.2.size)⟩
      clear b5 H4
      go_wp2_with fail
      refine cH.mono ?_
      clear cH
      rintro e w5' ⟨rfl, b6'⟩
      obtain ⟨w6, hw6⟩ : ∃ X, X = w5'.alloc (.cells #[.int .i64 (foundS t.sets n.region n.slot).region, .int .i64 (foundS t.sets n.region n.slot).slot, .int .i64 (foundS t.sets n.region n.slot).value, .bool (foundS t.sets n.region n.slot).used, .int .i64 (foundS t.sets n.region n.slot).version] 36) := ⟨_, rfl⟩
      have bA : Below w5'.heap.size w5' w6 := by rw [hw6]; exact (Below.refl _ _).alloc (Nat.le_refl _) _
      have b6 : Below w5.heap.size w5 w6 := b6'.trans (bA.mono b6'.size)
      have e6 : BS w6 w5'.heap.size (foundS t.sets n.region n.slot) := by rw [hw6]; exact BS.box w5' _ _
      have l6 : X3.heap.size ≤ w5'.heap.size := Nat.le_trans H5.out.2.size b6'.size
      have z6 : w5'.heap.size < w6.heap.size := by rw [hw6]; simp
      have H6 : Hid (PisB w6 X3.heap.size p mb m pv t.sets ∧ Below X3.heap.size X3 w6 ∧ BS w6 w5'.heap.size (foundS t.sets n.region n.slot) ∧ X3.heap.size ≤ w5'.heap.size ∧ w5'.heap.size < w6.heap.size) := ⟨H5.out.1.later b6, H5.out.2.trans (b6.mono H5.out.2.size), e6, l6, z6⟩
      clear b6 b6' bA e6 l6 z6 H5
      cases hW : seW t.sets n.region n.slot with
      | some i =>
        have HN : Hid (addSe t n = (⟨t.id, t.home, t.phase, t.count, t.reads, ovSe t.sets i n, t.stamp⟩ : T7) ∧ addSB t n = true) := ⟨by simp [addSe, hB, hO, hW], by simp [addSB, hB, hO, hW]⟩
        have hi := (seW_at hW).1
        have e1 : foundS t.sets n.region n.slot = atSe t.sets i := by simp [foundS, hW]
        simp only [e1] at hw6 H6 ⊢
        obtain ⟨⟨-, -, -, -, k4⟩, -⟩ := H6.out.2.2.1
        obtain ⟨⟨n0, n1, n2, n3, n4⟩, nf⟩ := H3.out.1.below H6.out.2.1 (by have := H3.out.2.2.2.1; have := H3.out.2.2.2.2.2.2.2; omega)
        simp only [Nat.zero_add] at n1 n2 n3 n4 k4
        have nf4 := nf 4
        obtain ⟨Wa, hWa⟩ : ∃ X, X = w6.setCell ⟨w.heap.size + 1, 4, none⟩ (.int .i64 (atSe t.sets i).version) := ⟨_, rfl⟩
        have ob : OnlyBlock (w.heap.size + 1) w6 Wa := by rw [hWa]; exact (OnlyBlock.refl _ _).setCell 4 _
        have hX3 : w.heap.size + 3 < X3.heap.size := by have := H3.out.2.2.2.1; have := H3.out.2.2.2.2.2.2.2; omega
        have bWa : Below (w.heap.size + 2) X3 Wa → True := fun _ => trivial
        have hyes : seW t.sets (verS n (atSe t.sets i).version).region (verS n (atSe t.sets i).version).slot = some i := hW
        have hok' := ovSe_ok HT.out.1 HT.out.2.2 hW
        have PWa : PisB Wa X3.heap.size p mb m pv t.sets := by
          have P := H6.out.1
          have nb : ∀ x, X3.heap.size ≤ x → Wa.heap[x]? = w6.heap[x]? := fun x hx => ob.block x (by omega)
          exact ⟨(World.cell?_of_block (a := ⟨p, 0, none⟩) (nb p P.bp)).trans P.c0, (World.cell?_of_block (a := ⟨p, 1, none⟩) (nb p P.bp)).trans P.c1, fun j => (World.frozen?_of_block (a := ⟨p, j, none⟩) (nb p P.bp)).trans (P.fz j), P.row.keep (fun x hx _ _ => nb x hx), P.mp.of_block (nb mb P.bm), P.ok, P.vp, P.vm, P.pm, P.bp, P.bm, by rw [ob.size]; exact P.lp⟩
        have cP := sePutOver Wa X3.heap.size p mb m pv t.sets (verS n (atSe t.sets i).version) i PWa (by omega) (by omega) hok' hyes (by rw [ob.size]; exact H6.out.2.1.size)
        simp only [verS] at cP
        have v0 : Wa.cell? ⟨w.heap.size + 1, 0, none⟩ = some (.int .i64 n.region) := by rw [hWa]; exact (cell_set_other (by omega)).trans n0
        have v1 : Wa.cell? ⟨w.heap.size + 1, 1, none⟩ = some (.int .i64 n.slot) := by rw [hWa]; exact (cell_set_other (by omega)).trans n1
        have v2 : Wa.cell? ⟨w.heap.size + 1, 2, none⟩ = some (.int .i64 n.value) := by rw [hWa]; exact (cell_set_other (by omega)).trans n2
        have v3 : Wa.cell? ⟨w.heap.size + 1, 3, none⟩ = some (.bool n.used) := by rw [hWa]; exact (cell_set_other (by omega)).trans n3
        have v4 : Wa.cell? ⟨w.heap.size + 1, 4, none⟩ = some (.int .i64 (atSe t.sets i).version) := by rw [hWa]; exact cell_set_same n4
        have KX : Hid (BT Wa (w.heap.size + 2) ⟨none, 0, none, 0⟩ ⟨0, 0, 0, 0, [], [], 0⟩ ∧ Below w.heap.size w Wa ∧ BT Wa w3.heap.size ⟨a4, c4, h4, d4⟩ t ∧ OT Wa w2.heap.size ⟨a4, c4, h4, d4⟩ t PR PS ∧ X3.heap.size ≤ Wa.heap.size ∧ Wa.heap.size = w6.heap.size) := by
          obtain ⟨-, j2, j3, j4, j5, j6, j7, j8⟩ := H3.out
          have g := H6.out.2.1
          refine ⟨(j2.later g).of_block (ob.block _ (by omega)) (Nat.le_of_eq ob.size.symm), ?_, (j5.later g).of_block (ob.block _ (by omega)) (Nat.le_of_eq ob.size.symm), (j6.later g).keep (Nat.le_of_eq ob.size.symm) (fun q _ hq => ob.block q (by have := (j7 q hq).1; omega)), by rw [ob.size]; exact g.size, ob.size⟩
          rw [hWa]
          exact (j3.trans (g.mono j3.size)).setCell (p := ⟨w.heap.size + 1, 4, none⟩) (by dsimp only; omega) _
        have HY : Hid (seW t.sets n.region n.slot = some i) := hW
        clear nf ob bWa PWa hok' hyes hW
        rw [hw6] at k4 n4 nf4 hWa
        go_upto_region 10 with fail
        rw [← hWa]
        clear hWa k4 n0 n1 n2 n3 n4 nf4 hw6
        go_wp2_with fail
        refine cP.mono ?_
        clear cP v0 v1 v2 v3 v4
        rintro e w7 ⟨rfl, q, cap, hp7, b7⟩
        have hov : t.sets.set i ⟨n.region, n.slot, n.value, n.used, (atSe t.sets i).version⟩ = ovSe t.sets i n := rfl
        rw [hov] at hp7
        have hup := ovSe_up HT.out.2.1 HY.out
        have hov' : (ovSe t.sets i n).length = t.sets.length := ovSe_len _ _ _
        have cI := seInOrder_any w7 X3.heap.size p q mb m cap (ovSe t.sets i n) hp7 (by omega) (by omega) (seUp2_hp hup) (hup.imp (fun h => Int.ne_of_lt h))
        have KU0 := hidOf hup
        have H7 : Hid (Below X3.heap.size Wa w7 ∧ X3.heap.size ≤ p ∧ X3.heap.size ≤ q ∧ X3.heap.size ≤ mb) := ⟨b7, hp7.bp, hp7.bq, hp7.bm⟩
        clear b7 hp7 hup hov H6
        go_wp2_with fail
        refine cI.mono ?_
        clear cI hov'
        rintro e w8 ⟨v8, zs, rfl, row8, pm8, up8, k8⟩
        have b38 : Below X3.heap.size Wa w8 := H7.out.1.trans (k8.below (fun x hx => by obtain ⟨-, h1, h2, h3⟩ := H7.out; rcases hx with rfl | rfl | rfl <;> assumption) (Nat.le_trans KX.out.2.2.2.2.1 H7.out.1.size))
        have hzs : zs = ovSe t.sets i n := HeapP.rise_eq seR up8 KU0.out pm8
        have HZ := hidOf hzs
        obtain ⟨a2, c2, rfl, -⟩ := row8.form
        have xB : BT w8 w3.heap.size ⟨a4, c4, h4, d4⟩ t := KX.out.2.2.1.under b38 H3.out.2.2.2.2.2.2.2
        have k4 := xB.c5
        have k4f := xB.fz 5
        dsimp only at k4
        have h77 : X3.heap.size ≤ w7.heap.size := Nat.le_trans KX.out.2.2.2.2.1 H7.out.1.size
        have KF : Hid (BT (w8.setCell ⟨w3.heap.size, 5, none⟩ (.slice a2 zs.length c2)) w3.heap.size ⟨a4, c4, a2, c2⟩ (⟨t.id, t.home, t.phase, t.count, t.reads, zs, t.stamp⟩ : T7) ∧ BT (w8.setCell ⟨w3.heap.size, 5, none⟩ (.slice a2 zs.length c2)) (w.heap.size + 2) ⟨none, 0, none, 0⟩ ⟨0, 0, 0, 0, [], [], 0⟩ ∧ RowS w8 w7.heap.size (.slice a2 zs.length c2) zs ∧ Below X3.heap.size Wa w8 ∧ X3.heap.size ≤ w7.heap.size) := ⟨xB.set5 a2 c2 zs, (KX.out.1.under b38 (by omega)).far (by dsimp only; have := H3.out.2.2.2.1; omega) _, row8, b38, h77⟩
        clear hzs row8 pm8 up8 k8 b38 xB h77 H7 KU0
        have yR5 := KF.out.2.1.put ⟨a4, c4, a2, c2⟩ (⟨t.id, t.home, t.phase, t.count, t.reads, zs, t.stamp⟩ : T7)
        simp only [putT] at yR5
        obtain ⟨u0, u1, u2, u3, u4, u5, u6, -, -⟩ := yR5
        have KU := hidOf (And.intro u0 (And.intro u1 (And.intro u2 (And.intro u3 (And.intro u4 (And.intro u5 u6))))))
        clear u0 u1 u2 u3 u4 u5 u6
        obtain ⟨o0, o1, o2, o3, o4, o5, o6, -, -⟩ := KF.out.1
        obtain ⟨r0, r1, r2, r3, r4, r5, r6, fr, -⟩ := KF.out.2.1
        have f0 := fr 0
        have f1 := fr 1
        have f2 := fr 2
        have f3 := fr 3
        have f4 := fr 4
        have f5 := fr 5
        have f6 := fr 6
        clear fr
        dsimp only at o0 o1 o2 o3 o4 o5 o6 r4 r5
        go_wp2
        obtain ⟨u0, u1, u2, u3, u4, u5, u6⟩ := KU.out
        refine bodyPost_ret (v := .tuple #[.agg #[.int .i64 t.id, .int .i64 t.home, .int .i64 t.phase, .int .i64 t.count, .slice a4 t.reads.length c4, .slice a2 zs.length c2, .int .i64 t.stamp], .bool true]) (by simp [results, Try.results12, go_sem, u0, u1, u2, u3, u4, u5, u6]) rfl ?_
        rw [HN.out.1, HN.out.2, ← HZ.out]
        obtain ⟨g1, g2, g3, g4, g5⟩ := KF.out
        obtain ⟨-, -, -, j6, -, -, j9, j10⟩ := H3.out
        obtain ⟨-, j4, -, j8', j5, -⟩ := KX.out
        have j8 := j8'.under g4 (fun q hq => by have := (j9 q hq).2; omega)
        have bX : Below w.heap.size w (w8.setCell ⟨w3.heap.size, 5, none⟩ (.slice a2 zs.length c2)) := (j4.trans (g4.mono (by omega))).setCell (p := ⟨w3.heap.size, 5, none⟩) (by dsimp only; omega) _
        refine ⟨a4, c4, a2, c2, PR, fun q => (Value.slice a2 zs.length c2).ownBlock = some q, rfl, ?_, putT_below (s := w.heap.size + 2) (v := ⟨a4, c4, a2, c2⟩) (t := (⟨t.id, t.home, t.phase, t.count, t.reads, zs, t.stamp⟩ : T7)) bX (by omega)⟩
        obtain ⟨_, _, e2, ow2⟩ := g3.form
        cases e2
        have ot : OT w8 w.heap.size ⟨a4, c4, a2, c2⟩ (⟨t.id, t.home, t.phase, t.count, t.reads, zs, t.stamp⟩ : T7) PR (fun q => (Value.slice a2 zs.length c2).ownBlock = some q) := ⟨j8.r, ow2, fun q h1 h2 => by have := (g3.lt h2).1; have := (j9 q (.inl h1)).2; omega, fun q h1 => ⟨by have := (j9 q (.inl h1)).1; omega, (j8.rB q h1).2⟩, fun q h1 => ⟨by have := (g3.lt h1).1; omega, (g3.lt h1).2⟩⟩
        have hne : ∀ q, OfT PR (fun q => (Value.slice a2 zs.length c2).ownBlock = some q) q → q ≠ w3.heap.size ∧ q ≠ w.heap.size + 2 := fun q hq => by
          rcases hq with hq | hq
          · have := j9 q (.inl hq); omega
          · have := (g3.lt hq).1; omega
        have ot2 : OT (w8.setCell ⟨w3.heap.size, 5, none⟩ (.slice a2 zs.length c2)) w.heap.size ⟨a4, c4, a2, c2⟩ (⟨t.id, t.home, t.phase, t.count, t.reads, zs, t.stamp⟩ : T7) PR (fun q => (Value.slice a2 zs.length c2).ownBlock = some q) := ot.keep (by simp [World.setCell]) (fun q _ hq => Below.heap_setCell _ _ _ _ (hne q hq).1)
        exact ot2.keep (w' := putT (w8.setCell ⟨w3.heap.size, 5, none⟩ (.slice a2 zs.length c2)) (w.heap.size + 2) ⟨a4, c4, a2, c2⟩ (⟨t.id, t.home, t.phase, t.count, t.reads, zs, t.stamp⟩ : T7)) (by rw [putT_size]; exact Nat.le_refl _) (fun q _ hq => putT_block (hne q hq).2)
      | none =>
        have cF := seFull_any w6 X3.heap.size p mb m pv t.sets H6.out.1
        have e1 : foundS t.sets n.region n.slot = ⟨0, 0, 0, false, 0⟩ := by simp [foundS, hW]
        simp only [e1] at hw6 H6 ⊢
        go_wp2_with fail
        rw [← hw6]
        clear hw6
        refine cF.mono ?_
        clear cF
        rintro e w6' ⟨rfl, rfl⟩
        by_cases h12 : t.sets.length = 12
        · have d12 : decide (12 ≤ t.sets.length) = true := by simp; omega
          rw [d12]
          have HN : Hid (addSe t n = noT ∧ addSB t n = false) := ⟨by simp [addSe, hB, hO, hW, h12], by simp [addSB, hB, hO, hW, h12]⟩
          have KZ : Hid (BT w6' (w.heap.size + 2) ⟨none, 0, none, 0⟩ ⟨0, 0, 0, 0, [], [], 0⟩ ∧ Below w.heap.size w w6') := ⟨H3.out.2.1.later H6.out.2.1, H3.out.2.2.1.trans (H6.out.2.1.mono H3.out.2.2.1.size)⟩
          clear H3 H6 d12
          obtain ⟨r0, r1, r2, r3, r4, r5, r6, fr, -⟩ := KZ.out.1
          have yR5 := KZ.out.1.put ⟨none, 0, none, 0⟩ noT
          simp only [putT, noT, List.length_nil] at yR5
          obtain ⟨u0, u1, u2, u3, u4, u5, u6, -, -⟩ := yR5
          have KU := hidOf (And.intro u0 (And.intro u1 (And.intro u2 (And.intro u3 (And.intro u4 (And.intro u5 u6))))))
          clear u0 u1 u2 u3 u4 u5 u6
          have f0 := fr 0
          have f1 := fr 1
          have f2 := fr 2
          have f3 := fr 3
          have f4 := fr 4
          have f5 := fr 5
          have f6 := fr 6
          clear fr
          simp only [List.length_nil] at r4 r5
          go_wp2
          obtain ⟨u0, u1, u2, u3, u4, u5, u6⟩ := KU.out
          refine bodyPost_ret (v := .tuple #[.agg #[.int .i64 0, .int .i64 0, .int .i64 0, .int .i64 0, .slice none 0 0, .slice none 0 0, .int .i64 0], .bool false]) (by simp [results, Try.results12, go_sem, u0, u1, u2, u3, u4, u5, u6]) rfl ?_
          rw [HN.out.1, HN.out.2]
          exact TAns.zero (putT_below (s := w.heap.size + 2) (v := ⟨none, 0, none, 0⟩) (t := noT) KZ.out.2 (by omega))
        · have d12 : decide (12 ≤ t.sets.length) = false := by simp; omega
          rw [d12]
          have HN : Hid (addSe t n = ⟨t.id, t.home, t.phase, t.count, t.reads, insSe t.sets n, t.stamp⟩ ∧ addSB t n = true) := ⟨by simp [addSe, hB, hO, hW, h12], by simp [addSB, hB, hO, hW, h12]⟩
          have hno : seW t.sets n.region n.slot = none := hW
          have hup := insSe_up HT.out.2.1 HT.out.1 HT.out.2.2 hno
          obtain ⟨⟨n0, n1, n2, n3, n4⟩, -⟩ := H3.out.1.below H6.out.2.1 (by have := H3.out.2.2.2.1; have := H3.out.2.2.2.2.2.2.2; omega)
          simp only [Nat.zero_add] at n1 n2 n3 n4
          have cP := sePutAny w6' X3.heap.size p mb m pv t.sets n H6.out.1 (by omega) (by omega) HT.out.2.2 hno H6.out.2.1.size (seUp2_hp HT.out.2.1)
          have KU0 := hidOf hup
          clear hup d12 hno
          go_wp2_with fail
          refine cP.mono ?_
          clear cP n0 n1 n2 n3 n4
          rintro e w7 ⟨rfl, q, cap, m', ys, hm', hp7, hpm, hhp, b7⟩
          have b37 : Below X3.heap.size X3 w7 := H6.out.2.1.trans b7
          have hyl : ys.length = t.sets.length + 1 := by have := hpm.length_eq; simpa using this
          have hdis : ys.Pairwise (fun a b => seR a ≠ seR b) := ((hpm.trans (insSe_perm t.sets n).symm).symm.pairwise_iff (fun {a b} (h : seR a ≠ seR b) => h.symm)).1 (KU0.out.imp (fun h => Int.ne_of_lt h))
          have cI := seInOrder_any w7 X3.heap.size p q mb m' cap ys hp7 (by omega) (by omega) hhp hdis
          have H7 : Hid (Below X3.heap.size X3 w7 ∧ X3.heap.size ≤ p ∧ X3.heap.size ≤ q ∧ X3.heap.size ≤ mb ∧ ys.Perm (t.sets ++ [n])) := ⟨b37, hp7.bp, hp7.bq, hp7.bm, hpm⟩
          clear b37 b7 hp7 hpm hhp hdis hm' hyl H6
          go_wp2_with fail
          refine cI.mono ?_
          clear cI
          rintro e w8 ⟨v8, zs, rfl, row8, pm8, up8, k8⟩
          have b38 : Below X3.heap.size X3 w8 := H7.out.1.trans (k8.below (fun x hx => by obtain ⟨-, h1, h2, h3, -⟩ := H7.out; rcases hx with rfl | rfl | rfl <;> assumption) H7.out.1.size)
          have hzs : zs = insSe t.sets n := HeapP.rise_eq seR up8 KU0.out (pm8.trans (H7.out.2.2.2.2.trans (insSe_perm t.sets n).symm))
          have HZ := hidOf hzs
          obtain ⟨a2, c2, rfl, -⟩ := row8.form
          have xB : BT w8 w3.heap.size ⟨a4, c4, h4, d4⟩ t := H3.out.2.2.2.2.1.later b38
          have k4 := xB.c5
          have k4f := xB.fz 5
          dsimp only at k4
          have h77 : X3.heap.size ≤ w7.heap.size := H7.out.1.size
          have KF : Hid (BT (w8.setCell ⟨w3.heap.size, 5, none⟩ (.slice a2 zs.length c2)) w3.heap.size ⟨a4, c4, a2, c2⟩ (⟨t.id, t.home, t.phase, t.count, t.reads, zs, t.stamp⟩ : T7) ∧ BT (w8.setCell ⟨w3.heap.size, 5, none⟩ (.slice a2 zs.length c2)) (w.heap.size + 2) ⟨none, 0, none, 0⟩ ⟨0, 0, 0, 0, [], [], 0⟩ ∧ RowS w8 w7.heap.size (.slice a2 zs.length c2) zs ∧ Below X3.heap.size X3 w8 ∧ X3.heap.size ≤ w7.heap.size) := ⟨xB.set5 a2 c2 zs, (H3.out.2.1.later b38).far (by dsimp only; have := H3.out.2.2.2.1; omega) _, row8, b38, h77⟩
          clear hzs row8 pm8 up8 k8 b38 xB h77 H7 KU0
          have yR5 := KF.out.2.1.put ⟨a4, c4, a2, c2⟩ (⟨t.id, t.home, t.phase, t.count, t.reads, zs, t.stamp⟩ : T7)
          simp only [putT] at yR5
          obtain ⟨u0, u1, u2, u3, u4, u5, u6, -, -⟩ := yR5
          have KU := hidOf (And.intro u0 (And.intro u1 (And.intro u2 (And.intro u3 (And.intro u4 (And.intro u5 u6))))))
          clear u0 u1 u2 u3 u4 u5 u6
          obtain ⟨o0, o1, o2, o3, o4, o5, o6, -, -⟩ := KF.out.1
          obtain ⟨r0, r1, r2, r3, r4, r5, r6, fr, -⟩ := KF.out.2.1
          have f0 := fr 0
          have f1 := fr 1
          have f2 := fr 2
          have f3 := fr 3
          have f4 := fr 4
          have f5 := fr 5
          have f6 := fr 6
          clear fr
          dsimp only at o0 o1 o2 o3 o4 o5 o6 r4 r5
          go_wp2
          obtain ⟨u0, u1, u2, u3, u4, u5, u6⟩ := KU.out
          refine bodyPost_ret (v := .tuple #[.agg #[.int .i64 t.id, .int .i64 t.home, .int .i64 t.phase, .int .i64 t.count, .slice a4 t.reads.length c4, .slice a2 zs.length c2, .int .i64 t.stamp], .bool true]) (by simp [results, Try.results12, go_sem, u0, u1, u2, u3, u4, u5, u6]) rfl ?_
          rw [HN.out.1, HN.out.2, ← HZ.out]
          obtain ⟨g1, g2, g3, g4, g5⟩ := KF.out
          obtain ⟨-, -, j4, j6, -, j8, j9, j10⟩ := H3.out
          have bX : Below w.heap.size w (w8.setCell ⟨w3.heap.size, 5, none⟩ (.slice a2 zs.length c2)) := (j4.trans (g4.mono j4.size)).setCell (p := ⟨w3.heap.size, 5, none⟩) (by dsimp only; omega) _
          refine ⟨a4, c4, a2, c2, PR, fun q => (Value.slice a2 zs.length c2).ownBlock = some q, rfl, ?_, putT_below (s := w.heap.size + 2) (v := ⟨a4, c4, a2, c2⟩) (t := (⟨t.id, t.home, t.phase, t.count, t.reads, zs, t.stamp⟩ : T7)) bX (by omega)⟩
          obtain ⟨_, _, e2, ow2⟩ := g3.form
          cases e2
          have ot : OT w8 w.heap.size ⟨a4, c4, a2, c2⟩ (⟨t.id, t.home, t.phase, t.count, t.reads, zs, t.stamp⟩ : T7) PR (fun q => (Value.slice a2 zs.length c2).ownBlock = some q) := ⟨(j8.later g4).r, ow2, fun q h1 h2 => by have := (g3.lt h2).1; have := (j9 q (.inl h1)).2; omega, fun q h1 => ⟨by have := (j9 q (.inl h1)).1; omega, ((j8.later g4).rB q h1).2⟩, fun q h1 => ⟨by have := (g3.lt h1).1; omega, (g3.lt h1).2⟩⟩
          have hne : ∀ q, OfT PR (fun q => (Value.slice a2 zs.length c2).ownBlock = some q) q → q ≠ w3.heap.size ∧ q ≠ w.heap.size + 2 := fun q hq => by
            rcases hq with hq | hq
            · have := j9 q (.inl hq); omega
            · have := (g3.lt hq).1; omega
          have ot2 : OT (w8.setCell ⟨w3.heap.size, 5, none⟩ (.slice a2 zs.length c2)) w.heap.size ⟨a4, c4, a2, c2⟩ (⟨t.id, t.home, t.phase, t.count, t.reads, zs, t.stamp⟩ : T7) PR (fun q => (Value.slice a2 zs.length c2).ownBlock = some q) := ot.keep (by simp [World.setCell]) (fun q _ hq => Below.heap_setCell _ _ _ _ (hne q hq).1)
          exact ot2.keep (w' := putT (w8.setCell ⟨w3.heap.size, 5, none⟩ (.slice a2 zs.length c2)) (w.heap.size + 2) ⟨a4, c4, a2, c2⟩ (⟨t.id, t.home, t.phase, t.count, t.reads, zs, t.stamp⟩ : T7)) (by rw [putT_size]; exact Nat.le_refl _) (fun q _ hq => putT_block (hne q hq).2)
end Go.Proofs.Ytcanaklameddbaa
