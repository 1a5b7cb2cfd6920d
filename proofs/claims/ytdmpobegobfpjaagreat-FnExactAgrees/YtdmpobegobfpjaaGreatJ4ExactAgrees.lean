/- YTxL; YTxM; YTxE0; YTxSl; KdT; KdTS; PlsO; PlsL2: joined. -/
import Derived.Test.YtdmpobegobfpjaaGreatRows
import Derived.Test.YtdmpobegobfpjaaGreatJ1ExactAgrees
import Derived.WalkKit
import Derived.WalkSpells
import Derived.WalkLawsBesides
import Derived.Below
import Derived.Test.YtdmpobegobfpjaaGreatJ2ExactAgrees
import Derived.Test.YtdmpobegobfpjaaGreatJ3ExactAgrees
import Derived.Lib.QuietBelow
import Derived.BigQuiet
import Derived.Test.YtdmpobegobfpjaaGreatJ0ExactAgrees
import Derived.Deep.QuietTactic
namespace Go.Proofs.YtdmpobegobfpjaaGreat.tx
open Go.RowKit
def CpAns (w : World) (t : T7) (e : Ending) (w' : World) : Prop := ∃ (a4 : Option Addr) (c4 : Nat) (h4 : Option Addr) (d4 : Nat) (PR PS : Nat → Prop), e = .returned ((TV.mk a4 c4 h4 d4).val t) ∧ OT w' w.heap.size ⟨a4, c4, h4, d4⟩ t PR PS ∧ Below w.heap.size w w' ∧ t.reads.length ≤ c4 ∧ t.sets.length ≤ d4
set_option maxHeartbeats 2000000 in
theorem toTx_anyC (w : World) (v : TV) (t : T7) (hr : t.reads.length ≤ 1048576) (hss : t.sets.length ≤ 1048576) (h : SlT w v t) :
    Calls Tryz.prog 61 #[v.val t] w (CpAns w t) := by
  obtain ⟨ar, cr, ah, ch⟩ := v
  simp only [TV.val]
  obtain ⟨W, hW⟩ : ∃ W, W = ((w.alloc (.cells #[.int .i64 t.id, .int .i64 t.home, .int .i64 t.phase, .int .i64 t.count, .slice ar t.reads.length cr, .slice ah t.sets.length ch, .int .i64 t.stamp] 97)).alloc (.cells #[.int .i64 0, .int .i64 0, .int .i64 0, .int .i64 0, .slice none 0 0, .slice none 0 0, .int .i64 0] 55)).alloc (.cells #[.int .i64 t.id, .int .i64 t.home, .int .i64 t.phase, .int .i64 t.count, .slice none 0 0, .slice none 0 0, .int .i64 0] 55) := ⟨_, rfl⟩
  obtain ⟨W1, hW1⟩ : ∃ W1, W1 = (w.alloc (.cells #[.int .i64 t.id, .int .i64 t.home, .int .i64 t.phase, .int .i64 t.count, .slice ar t.reads.length cr, .slice ah t.sets.length ch, .int .i64 t.stamp] 97)) := ⟨_, rfl⟩
  have z1 : W1.heap.size = w.heap.size + 1 := by rw [hW1]; simp
  have x1 : BT W1 w.heap.size ⟨ar, cr, ah, ch⟩ t := by rw [hW1]; exact BT.box w ⟨ar, cr, ah, ch⟩ t _
  have b1 : Below w.heap.size w W1 := by rw [hW1]; exact (Below.refl _ _).alloc (Nat.le_refl _) _
  obtain ⟨W2, hW2⟩ : ∃ W2, W2 = W1.alloc (.cells #[.int .i64 0, .int .i64 0, .int .i64 0, .int .i64 0, .slice none 0 0, .slice none 0 0, .int .i64 0] 55) := ⟨_, rfl⟩
  have b2 : Below W1.heap.size W1 W2 := by rw [hW2]; exact (Below.refl _ _).alloc (Nat.le_refl _) _
  have x2 : BT W2 (w.heap.size + 1) ⟨none, 0, none, 0⟩ ⟨0, 0, 0, 0, [], [], 0⟩ := by rw [hW2, ← z1]; exact BT.zero W1 _
  have z2 : W2.heap.size = w.heap.size + 1 + 1 := by rw [hW2]; simp [z1]
  have hW' : W = W2.alloc (.cells #[.int .i64 t.id, .int .i64 t.home, .int .i64 t.phase, .int .i64 t.count, .slice none 0 0, .slice none 0 0, .int .i64 0] 55) := by rw [hW, hW2, hW1]
  have b3 : Below W2.heap.size W2 W := by rw [hW']; exact (Below.refl _ _).alloc (Nat.le_refl _) _
  have yO : BT W (w.heap.size + 1 + 1) ⟨none, 0, none, 0⟩ ⟨t.id, t.home, t.phase, t.count, [], [], 0⟩ := by rw [hW', ← z2]; exact BT.box W2 ⟨none, 0, none, 0⟩ ⟨t.id, t.home, t.phase, t.count, [], [], 0⟩ _
  have sW : W.heap.size = w.heap.size + 3 := by rw [hW']; simp [z2]
  have yA : BT W w.heap.size ⟨ar, cr, ah, ch⟩ t := (x1.later b2).later b3
  have yR : BT W (w.heap.size + 1) ⟨none, 0, none, 0⟩ ⟨0, 0, 0, 0, [], [], 0⟩ := x2.later b3
  have bW : Below w.heap.size w W := (b1.trans (b2.mono b1.size)).trans (b3.mono (by omega))
  have c1 := toNoteS_anyR W ar t.reads.length cr t.reads hr (h.r.later bW)
  have H : Hid (BT W w.heap.size ⟨ar, cr, ah, ch⟩ t ∧ BT W (w.heap.size + 1) ⟨none, 0, none, 0⟩ ⟨0, 0, 0, 0, [], [], 0⟩ ∧ BT W (w.heap.size + 1 + 1) ⟨none, 0, none, 0⟩ ⟨t.id, t.home, t.phase, t.count, [], [], 0⟩ ∧ W.heap.size = w.heap.size + 3 ∧ Below w.heap.size w W ∧ Sl w w.heap.size ah t.sets.length t.sets ∧ t.sets.length ≤ 1048576) := ⟨yA, yR, yO, sW, bW, h.s, hss⟩
  clear hW' x1 x2 z1 z2 b1 b2 b3 yA yR yO sW bW h hss hr hW2 hW1
  go_enter Tryz.func61, Tryz.ntmps61
  go_wp2_with fail
  rw [← hW]
  clear hW
  refine c1.mono ?_
  clear c1
  rintro e w1 ⟨rfl, b1, l1, n1, r1⟩
  obtain ⟨yA, yR, yO, sW, bW, hs, hl⟩ := H.out
  have yA1 := yA.later b1
  have yR1 := yR.later b1
  have yO1 := yO.later b1
  have c4 := yO1.c4
  have f4 := yO1.fz 4
  have a5 := (yA1.far (p := ⟨w.heap.size + 1 + 1, 4, none⟩) (by dsimp only; omega) (.slice (some ⟨W.heap.size, 0, none⟩) t.reads.length t.reads.length)).c5
  have B1 : Below w.heap.size w (w1.setCell ⟨w.heap.size + 1 + 1, 4, none⟩ (.slice (some ⟨W.heap.size, 0, none⟩) t.reads.length t.reads.length)) := (bW.trans (b1.mono bW.size)).setCell (p := ⟨w.heap.size + 1 + 1, 4, none⟩) (by dsimp only; omega) _
  have c2 := toSetS_anyR (w1.setCell ⟨w.heap.size + 1 + 1, 4, none⟩ (.slice (some ⟨W.heap.size, 0, none⟩) t.reads.length t.reads.length)) ah t.sets.length ch t.sets hl ((hs.later B1))
  have H1 : Hid (BT (w1.setCell ⟨w.heap.size + 1 + 1, 4, none⟩ (.slice (some ⟨W.heap.size, 0, none⟩) t.reads.length t.reads.length)) w.heap.size ⟨ar, cr, ah, ch⟩ t ∧ BT (w1.setCell ⟨w.heap.size + 1 + 1, 4, none⟩ (.slice (some ⟨W.heap.size, 0, none⟩) t.reads.length t.reads.length)) (w.heap.size + 1) ⟨none, 0, none, 0⟩ ⟨0, 0, 0, 0, [], [], 0⟩ ∧ BT (w1.setCell ⟨w.heap.size + 1 + 1, 4, none⟩ (.slice (some ⟨W.heap.size, 0, none⟩) t.reads.length t.reads.length)) (w.heap.size + 1 + 1) ⟨some ⟨W.heap.size, 0, none⟩, t.reads.length, none, 0⟩ ⟨t.id, t.home, t.phase, t.count, t.reads, [], 0⟩ ∧ W.heap.size = w.heap.size + 3 ∧ Below w.heap.size w (w1.setCell ⟨w.heap.size + 1 + 1, 4, none⟩ (.slice (some ⟨W.heap.size, 0, none⟩) t.reads.length t.reads.length)) ∧ NotesAt (w1.setCell ⟨w.heap.size + 1 + 1, 4, none⟩ (.slice (some ⟨W.heap.size, 0, none⟩) t.reads.length t.reads.length)) W.heap.size 0 t.reads ∧ Room (w1.setCell ⟨w.heap.size + 1 + 1, 4, none⟩ (.slice (some ⟨W.heap.size, 0, none⟩) t.reads.length t.reads.length)) W.heap.size (t.reads.length * 5) ∧ W.heap.size < (w1.setCell ⟨w.heap.size + 1 + 1, 4, none⟩ (.slice (some ⟨W.heap.size, 0, none⟩) t.reads.length t.reads.length)).heap.size) :=
    ⟨yA1.far (by dsimp only; omega) _, yR1.far (by dsimp only; omega) _, yO1.set4 _ _ t.reads, sW, B1, n1.far (by dsimp only; omega) _, r1.of_block (Below.heap_setCell _ _ _ _ (by dsimp only; omega)), by simpa [World.setCell] using l1⟩
  clear yA yR yO sW bW hs hl yA1 yR1 yO1 B1 b1 l1 n1 r1 H
  go_wp2_with fail
  generalize (w1.setCell ⟨w.heap.size + 1 + 1, 4, none⟩ (.slice (some ⟨W.heap.size, 0, none⟩) t.reads.length t.reads.length)) = V1 at *
  refine c2.mono ?_
  clear c2 c4 f4 a5
  rintro e w2 ⟨rfl, b2, l2, n2, r2⟩
  obtain ⟨yA, yR, yO, sW, bW, q1, q2, q3⟩ := H1.out
  have yA2 := yA.later b2
  have yR2 := yR.later b2
  have yO2 := yO.later b2
  have yO3 := yO2.set5 (some ⟨V1.heap.size, 0, none⟩) t.sets.length t.sets
  have yA3 := yA2.far (p := ⟨w.heap.size + 1 + 1, 5, none⟩) (by dsimp only; omega) (.slice (some ⟨V1.heap.size, 0, none⟩) t.sets.length t.sets.length)
  have yR3 := yR2.far (p := ⟨w.heap.size + 1 + 1, 5, none⟩) (by dsimp only; omega) (.slice (some ⟨V1.heap.size, 0, none⟩) t.sets.length t.sets.length)
  have yO4 := yO3.set6 t.stamp
  have yR4 := yR3.far (p := ⟨w.heap.size + 1 + 1, 6, none⟩) (by dsimp only; omega) (.int .i64 t.stamp)
  have yR5 := yR4.put ⟨some ⟨W.heap.size, 0, none⟩, t.reads.length, some ⟨V1.heap.size, 0, none⟩, t.sets.length⟩ t
  have k5 := yO2.c5
  have k5f := yO2.fz 5
  have k6 := yO3.c6
  have k6f := yO3.fz 6
  have a6 := yA3.c6
  obtain ⟨o0, o1, o2, o3, o4, o5, o6, _, _⟩ := yO4
  obtain ⟨r0, r1, r2', r3, r4, r5, r6, fr, _⟩ := yR4
  have f0 := fr 0
  have f1 := fr 1
  have f2 := fr 2
  have f3 := fr 3
  have f4 := fr 4
  have f5 := fr 5
  have f6 := fr 6
  simp only [putT] at yR5
  obtain ⟨u0, u1, u2, u3, u4, u5, u6, _, _⟩ := yR5
  have KH : Hid (W.heap.size = w.heap.size + 3 ∧ Below w.heap.size w w2 ∧ NotesAt w2 W.heap.size 0 t.reads ∧ Room w2 W.heap.size (t.reads.length * 5) ∧ W.heap.size < V1.heap.size ∧ V1.heap.size < w2.heap.size ∧ SetsAt w2 V1.heap.size 0 t.sets ∧ Room w2 V1.heap.size (t.sets.length * 5)) := ⟨sW, bW.trans (b2.mono bW.size), q1.below b2 q3, q2.below b2 q3, q3, l2, n2, r2⟩
  clear yA yR yO sW bW q1 q2 q3 yA2 yR2 yO2 yO3 yA3 yR3 b2 l2 n2 r2 fr H1
  go_wp2
  refine bodyPost_ret (v := .agg #[.int .i64 t.id, .int .i64 t.home, .int .i64 t.phase, .int .i64 t.count, .slice (some ⟨W.heap.size, 0, none⟩) t.reads.length t.reads.length, .slice (some ⟨V1.heap.size, 0, none⟩) t.sets.length t.sets.length, .int .i64 t.stamp]) (by simp [results, Tryz.results61, go_sem, u0, u1, u2, u3, u4, u5, u6]) rfl ?_
  obtain ⟨sW, bW, q1, q2, q3, q4, q5, q6⟩ := KH.out
  refine ⟨some ⟨W.heap.size, 0, none⟩, t.reads.length, some ⟨V1.heap.size, 0, none⟩, t.sets.length, fun q => q = W.heap.size, fun q => q = V1.heap.size, rfl, ?_, ?_, Nat.le_refl _, Nat.le_refl _⟩
  · have ot : OT w2 w.heap.size ⟨some ⟨W.heap.size, 0, none⟩, t.reads.length, some ⟨V1.heap.size, 0, none⟩, t.sets.length⟩ t (fun q => q = W.heap.size) (fun q => q = V1.heap.size) :=
      ⟨.inr ⟨_, rfl, rfl, by omega, q1, q2⟩, .inr ⟨_, rfl, rfl, q4, q5, q6⟩, fun q hq hp => by omega, fun q hq => by omega, fun q hq => by omega⟩
    have ot2 := (ot.keep (w' := (w2.setCell ⟨w.heap.size + 1 + 1, 5, none⟩ (.slice (some ⟨V1.heap.size, 0, none⟩) t.sets.length t.sets.length)).setCell ⟨w.heap.size + 1 + 1, 6, none⟩ (.int .i64 t.stamp)) (by simp [World.setCell]) (fun q _ hq => (Below.heap_setCell _ _ _ _ (by show q ≠ w.heap.size + 1 + 1; rcases hq with h | h <;> omega)).trans (Below.heap_setCell _ _ _ _ (by show q ≠ w.heap.size + 1 + 1; rcases hq with h | h <;> omega))))
    exact ot2.keep (by simp [World.setCell]) (fun q _ hq => putT_block (s := w.heap.size + 1) (v := ⟨some ⟨W.heap.size, 0, none⟩, t.reads.length, some ⟨V1.heap.size, 0, none⟩, t.sets.length⟩) (t := t) (by rcases hq with h | h <;> omega))
  · exact putT_below (s := w.heap.size + 1) (v := ⟨some ⟨W.heap.size, 0, none⟩, t.reads.length, some ⟨V1.heap.size, 0, none⟩, t.sets.length⟩) (t := t) ((bW.setCell (p := ⟨w.heap.size + 1 + 1, 5, none⟩) (by dsimp only; omega) _).setCell (p := ⟨w.heap.size + 1 + 1, 6, none⟩) (by dsimp only; omega) _) (by omega)
set_option maxHeartbeats 2000000 in
theorem eqTx_same (w : World) (v v' : TV) (t : T7) (hl : TL t) (h1 : SlT w v t) (h2 : SlT w v' t) : Calls Tryz.prog 74 #[v.val t, v'.val t] w fun e w' => e = .returned (.bool true) ∧ Below w.heap.size w w' := by
  obtain ⟨ar, cr, ah, ch⟩ := v
  obtain ⟨ar', cr', ah', ch'⟩ := v'
  simp only [TV.val]
  obtain ⟨U, hU⟩ : ∃ U, U = ((w.alloc (.cells #[.int .i64 t.id, .int .i64 t.home, .int .i64 t.phase, .int .i64 t.count, .slice ar t.reads.length cr, .slice ah t.sets.length ch, .int .i64 t.stamp] 55)).alloc (.cells #[.int .i64 t.id, .int .i64 t.home, .int .i64 t.phase, .int .i64 t.count, .slice ar' t.reads.length cr', .slice ah' t.sets.length ch', .int .i64 t.stamp] 55)) := ⟨_, rfl⟩
  have z1 : (w.alloc (.cells #[.int .i64 t.id, .int .i64 t.home, .int .i64 t.phase, .int .i64 t.count, .slice ar t.reads.length cr, .slice ah t.sets.length ch, .int .i64 t.stamp] 55)).heap.size = w.heap.size + 1 := by simp
  have xB : BT U (w.heap.size + 1) ⟨ar', cr', ah', ch'⟩ t := by rw [hU, ← z1]; exact BT.box _ ⟨ar', cr', ah', ch'⟩ t _
  have xA : BT U w.heap.size ⟨ar, cr, ah, ch⟩ t := by rw [hU]; exact (BT.box w ⟨ar, cr, ah, ch⟩ t _).later ((Below.refl _ _).alloc (Nat.le_refl _) _)
  have b0 : Below w.heap.size w U := by rw [hU]; exact ((Below.refl _ _).alloc (Nat.le_refl _) _).alloc (by simp) _
  have c1 := eqNoteS_any U ar ar' t.reads.length cr cr' t.reads hl.r (h1.later b0).r (h2.later b0).r
  have H : Hid (BT U w.heap.size ⟨ar, cr, ah, ch⟩ t ∧ BT U (w.heap.size + 1) ⟨ar', cr', ah', ch'⟩ t ∧ Below w.heap.size w U ∧ SlT w ⟨ar, cr, ah, ch⟩ t ∧ SlT w ⟨ar', cr', ah', ch'⟩ t ∧ TL t) := ⟨xA, xB, b0, h1, h2, hl⟩
  have q0 : (t.id != t.id) = false := by simp
  have q1 : (t.home != t.home) = false := by simp
  have q2 : (t.phase != t.phase) = false := by simp
  have q3 : (t.count != t.count) = false := by simp
  have q6 : (t.stamp != t.stamp) = false := by simp
  clear z1 xA xB b0 h1 h2 hl
  go_enter Tryz.func74, Tryz.ntmps74
  go_wp2_with fail
  rw [← hU]
  clear hU
  refine c1.mono ?_
  clear c1 q0 q1 q2 q3
  rintro e w1 ⟨rfl, b1⟩
  obtain ⟨xA, xB, b0, h1, h2, hl⟩ := H.out
  have bw : Below w.heap.size w w1 := b0.trans (b1.mono b0.size)
  have a5 := (xA.later b1).c5
  have e5 := (xB.later b1).c5
  have c2 := eqSetS_any w1 ah ah' t.sets.length ch ch' t.sets hl.s (h1.later bw).s (h2.later bw).s
  have H1 : Hid (BT w1 w.heap.size ⟨ar, cr, ah, ch⟩ t ∧ BT w1 (w.heap.size + 1) ⟨ar', cr', ah', ch'⟩ t ∧ Below w.heap.size w w1) := ⟨xA.later b1, xB.later b1, bw⟩
  clear xA xB b0 h1 h2 hl b1 bw H
  go_wp2_with fail
  refine c2.mono ?_
  clear c2 a5 e5
  rintro e w2 ⟨rfl, b2⟩
  have a6 := (H1.out.1.later b2).c6
  have e6 := (H1.out.2.1.later b2).c6
  have KE : Hid (Below w.heap.size w w2) := H1.out.2.2.trans (b2.mono H1.out.2.2.size)
  clear b2 H1
  go_wp2
  go_ret
  exact ⟨rfl, KE.out⟩
def mkT (t : T7) (k : Int) : T7 := ⟨t.id, t.home, t.phase, t.count, mkNotes k t.reads.length, mkSets (k + 5 * (t.reads.length : Int)) t.sets.length, t.stamp⟩
def endT (t : T7) (k : Int) : Int := k + 5 * (t.reads.length : Int) + 5 * (t.sets.length : Int)
set_option maxHeartbeats 1000000 in
theorem szTx_l (w : World) (v : TV) (t : T7) (l0 : Nat) (hl0 : l0 ≤ 1048576) (hl : TL t) : Calls Tryz.prog 52 #[v.val t, .int .i64 (l0 : Int)] w fun e w' => e = .returned (.int .i64 (leftR l0 (szT t))) ∧ Below w.heap.size w w' := by
  obtain ⟨ar, cr, ah, ch⟩ := v
  simp only [TV.val]
  have b0 : Below w.heap.size w (w.alloc (.cells #[.int .i64 t.id, .int .i64 t.home, .int .i64 t.phase, .int .i64 t.count, .slice ar t.reads.length cr, .slice ah t.sets.length ch, .int .i64 t.stamp] 97)) := (Below.refl _ _).alloc (Nat.le_refl _) _
  have B0 := hidOf b0
  have h1 := szNoteS_l (w.alloc (.cells #[.int .i64 t.id, .int .i64 t.home, .int .i64 t.phase, .int .i64 t.count, .slice ar t.reads.length cr, .slice ah t.sets.length ch, .int .i64 t.stamp] 97)) ar t.reads.length cr l0 hl.r hl0
  have h2 := fun W l => szSetS_l W ah t.sets.length ch l hl.s
  have HS : Hid (szT t = t.reads.length + t.sets.length) := rfl
  clear b0 hl
  by_cases g1 : t.reads.length ≤ l0
  · rw [leftR_yes g1] at h1
    have d1 : decide (((l0 - t.reads.length : Nat) : Int) < 0) = false := by simp
    have h3 := h2 (w.alloc (.cells #[.int .i64 t.id, .int .i64 t.home, .int .i64 t.phase, .int .i64 t.count, .slice ar t.reads.length cr, .slice ah t.sets.length ch, .int .i64 t.stamp] 97)) (l0 - t.reads.length) (by omega)
    by_cases g2 : t.sets.length ≤ l0 - t.reads.length
    · rw [leftR_yes g2] at h3
      have d2 : decide (((l0 - t.reads.length - t.sets.length : Nat) : Int) < 0) = false := by simp
      have KE : Hid (leftR l0 (szT t) = ((l0 - t.reads.length - t.sets.length : Nat) : Int)) := by unfold Hid; rw [leftR_yes (by rw [HS.out]; omega), HS.out]; omega
      clear g1 g2
      generalize l0 - t.reads.length - t.sets.length = l2 at *
      generalize l0 - t.reads.length = l1 at *
      go_enter Tryz.func52, Tryz.ntmps52
      go_wp2_with fail
      refine h1.mono ?_
      rintro e w1 ⟨rfl, rfl⟩
      go_wp2_with fail
      refine h3.mono ?_
      rintro e w2 ⟨rfl, rfl⟩
      go_wp2
      go_ret
      exact ⟨by rw [KE.out]; rfl, B0.out⟩
    · rw [leftR_no g2] at h3
      have KE : Hid (leftR l0 (szT t) = -1) := by unfold Hid; rw [leftR_no (by rw [HS.out]; omega)]
      clear g1 g2
      generalize l0 - t.reads.length = l1 at *
      go_enter Tryz.func52, Tryz.ntmps52
      go_wp2_with fail
      refine h1.mono ?_
      rintro e w1 ⟨rfl, rfl⟩
      go_wp2_with fail
      refine h3.mono ?_
      rintro e w2 ⟨rfl, rfl⟩
      go_wp2
      go_ret
      exact ⟨by rw [KE.out]; rfl, B0.out⟩
  · rw [leftR_no g1] at h1
    have KE : Hid (leftR l0 (szT t) = -1) := by unfold Hid; rw [leftR_no (by rw [HS.out]; omega)]
    clear g1
    go_enter Tryz.func52, Tryz.ntmps52
    go_wp2_with fail
    refine h1.mono ?_
    rintro e w1 ⟨rfl, rfl⟩
    go_wp2
    go_ret
    exact ⟨by rw [KE.out]; rfl, B0.out⟩
end Go.Proofs.YtdmpobegobfpjaaGreat.tx
namespace Go.Proofs.YtdmpobegobfpjaaGreat
open Go.RowKit
def KT.Ow (w : World) (B : Nat) (a : Option Addr) (b : Nat) (c : Option Addr) (d : Nat) (t : tx.T7) (P : Nat → Prop) : Prop := ∃ PR PS, tx.OT w B ⟨a, b, c, d⟩ t PR PS ∧ (∀ q, tx.OfT PR PS q → P q) ∧ (∀ q, P q → B ≤ q ∧ q < w.heap.size) ∧ t.sets.length ≤ d
theorem KT.Ow.of {w : World} {B : Nat} {a : Option Addr} {b : Nat} {c : Option Addr} {d : Nat} {t : tx.T7} {P : Nat → Prop} (h : KT.Ow w B a b c d t P) {q : Nat} (hq : P q) : B ≤ q ∧ q < w.heap.size := by obtain ⟨_, _, _, _, h3, _⟩ := h; exact h3 q hq
theorem KT.Ow.sl {w : World} {B : Nat} {a : Option Addr} {b : Nat} {c : Option Addr} {d : Nat} {t : tx.T7} {P : Nat → Prop} (h : KT.Ow w B a b c d t P) : tx.SlT w ⟨a, b, c, d⟩ t := by obtain ⟨_, _, h1, _, _, _⟩ := h; exact h1.sl
theorem KT.Ow.keep {w : World} {B : Nat} {a : Option Addr} {b : Nat} {c : Option Addr} {d : Nat} {t : tx.T7} {P : Nat → Prop} {w' : World} (h : KT.Ow w B a b c d t P) (hs : w.heap.size ≤ w'.heap.size) (hk : ∀ q, P q → w'.heap[q]? = w.heap[q]?) : KT.Ow w' B a b c d t P := by
  obtain ⟨PR, PS, h1, h2, h3, h4⟩ := h
  exact ⟨PR, PS, h1.keep hs (fun q _ hq => hk q (h2 q hq)), h2, fun q hq => ⟨(h3 q hq).1, Nat.lt_of_lt_of_le (h3 q hq).2 hs⟩, h4⟩
theorem KT.Ow.later {w : World} {B : Nat} {a : Option Addr} {b : Nat} {c : Option Addr} {d : Nat} {t : tx.T7} {P : Nat → Prop} {w' : World} (h : KT.Ow w B a b c d t P) (hb : Below w.heap.size w w') : KT.Ow w' B a b c d t P := h.keep hb.size (fun q hq => hb.block q (h.of hq).2)
theorem KT.Ow.low {w : World} {B : Nat} {a : Option Addr} {b : Nat} {c : Option Addr} {d : Nat} {t : tx.T7} {P : Nat → Prop} {B' : Nat} (h : KT.Ow w B a b c d t P) (hb : B' ≤ B) : KT.Ow w B' a b c d t P := by
  obtain ⟨PR, PS, h1, h2, h3, h4⟩ := h
  exact ⟨PR, PS, h1.mono hb, h2, fun q hq => ⟨Nat.le_trans hb (h3 q hq).1, (h3 q hq).2⟩, h4⟩
theorem KT.ow {w : World} {B : Nat} {a : Option Addr} {b : Nat} {c : Option Addr} {d : Nat} {t : tx.T7} {PR PS : Nat → Prop} (h : tx.OT w B ⟨a, b, c, d⟩ t PR PS) (hc : t.sets.length ≤ d) : KT.Ow w B a b c d t (tx.OfT PR PS) := ⟨PR, PS, h, fun _ hq => hq, fun _ hq => h.of hq, hc⟩
def KT.S (t : tx.T7) : Prop := t.reads.length ≤ 1048576 ∧ t.sets.length ≤ 1048576
theorem KT.to (X : World) (a : Option Addr) (b : Nat) (c : Option Addr) (d : Nat) (t : tx.T7) (ht : KT.S t) (h : tx.SlT X ⟨a, b, c, d⟩ t) : Calls Tryz.prog 61 #[.agg #[.int .i64 t.id, .int .i64 t.home, .int .i64 t.phase, .int .i64 t.count, .slice a t.reads.length b, .slice c t.sets.length d, .int .i64 t.stamp]] X fun e w' =>
    ∃ (a : Option Addr) (b : Nat) (c : Option Addr) (d : Nat) (P : Nat → Prop), e = .returned (.agg #[.int .i64 t.id, .int .i64 t.home, .int .i64 t.phase, .int .i64 t.count, .slice a t.reads.length b, .slice c t.sets.length d, .int .i64 t.stamp]) ∧ KT.Ow w' X.heap.size a b c d t P ∧ Below X.heap.size X w' := by
  have hh := tx.toTx_anyC X ⟨a, b, c, d⟩ t ht.1 ht.2 h
  simp only [tx.TV.val] at hh
  refine hh.mono ?_
  rintro e w' ⟨a, b, c, d, PR, PS, rfl, o, bl, _, hc⟩
  exact ⟨a, b, c, d, _, rfl, KT.ow o hc, bl⟩
theorem KT.S.tl {t : tx.T7} (h : KT.S t) : tx.TL t := ⟨by have := h.1; unfold maxLen; omega, by have := h.2; unfold maxLen; omega⟩
theorem KT.eq (X : World) (a : Option Addr) (b : Nat) (c : Option Addr) (d : Nat) (a' : Option Addr) (b' : Nat) (c' : Option Addr) (d' : Nat) (t : tx.T7) (ht : KT.S t) (h1 : tx.SlT X ⟨a, b, c, d⟩ t) (h2 : tx.SlT X ⟨a', b', c', d'⟩ t) : Calls Tryz.prog 74 #[.agg #[.int .i64 t.id, .int .i64 t.home, .int .i64 t.phase, .int .i64 t.count, .slice a t.reads.length b, .slice c t.sets.length d, .int .i64 t.stamp], .agg #[.int .i64 t.id, .int .i64 t.home, .int .i64 t.phase, .int .i64 t.count, .slice a' t.reads.length b', .slice c' t.sets.length d', .int .i64 t.stamp]] X fun e w' => e = .returned (.bool true) ∧ Below X.heap.size X w' := by
  have hh := tx.eqTx_same X ⟨a, b, c, d⟩ ⟨a', b', c', d'⟩ t ht.tl h1 h2
  simp only [tx.TV.val] at hh
  exact hh
theorem KT.szl (X : World) (a : Option Addr) (b : Nat) (c : Option Addr) (d : Nat) (t : tx.T7) (l : Nat) (hl0 : l ≤ 1048576) (hl : tx.TL t) : Calls Tryz.prog 52 #[.agg #[.int .i64 t.id, .int .i64 t.home, .int .i64 t.phase, .int .i64 t.count, .slice a t.reads.length b, .slice c t.sets.length d, .int .i64 t.stamp], .int .i64 (l : Int)] X fun e w' => e = .returned (.int .i64 (leftR l (tx.szT t))) ∧ Below X.heap.size X w' := by
  have hh := tx.szTx_l X ⟨a, b, c, d⟩ t l hl0 hl
  simp only [tx.TV.val] at hh
  exact hh
def KTk : Kd tx.T7 tx.TV where
  n := 7
  cells v t := [.int .i64 t.id, .int .i64 t.home, .int .i64 t.phase, .int .i64 t.count, .slice v.ar t.reads.length v.cr, .slice v.ah t.sets.length v.ch, .int .i64 t.stamp]
  len := fun _ _ => rfl
  Rd := tx.SlT
  Ow w B v t P := KT.Ow w B v.ar v.cr v.ah v.ch t P
  later := fun h b => h.later b
  sl := fun h => h.sl
  of := fun h hq => h.of hq
  keep := fun h hs hk => h.keep hs hk
  low := fun h hb => h.low hb
def KTkC : Kd tx.T7 tx.TV where
  n := 7
  cells := KTk.cells
  len := KTk.len
  Rd w v t := tx.SlT w v t ∧ t.sets.length ≤ v.ch
  Ow w B v t P := KTk.Ow w B v t P
  later := fun h b => ⟨KTk.later h.1 b, h.2⟩
  sl := fun h => ⟨KTk.sl h, by obtain ⟨_, _, _, _, _, hc⟩ := h; exact hc⟩
  of := fun h hq => KTk.of h hq
  keep := fun h hs hk => KTk.keep h hs hk
  low := fun h hb => KTk.low h hb
theorem capS {w : World} {a : Option Addr} {xs : List tx.T7} (h : KTkC.RdS w a xs) : KTk.RdS w a xs := by
  rcases h with h | ⟨b, off, e, hb, h⟩
  · exact .inl h
  · exact .inr ⟨b, off, e, hb, fun i d hd => by obtain ⟨v, h1, h2⟩ := h i d hd; exact ⟨v, h1, h2.1⟩⟩
theorem capO {w : World} {B : Nat} {a : Option Addr} {xs : List tx.T7} {P : Nat → Prop} (h : KTk.OwS w B a xs P) : KTkC.RdS w a xs := by
  rcases h with ⟨h | ⟨b, g, e, hp, h, _⟩, hb⟩
  · exact .inl h
  · refine .inr ⟨b, 0, e, (hb b hp).2, fun i d hi => ?_⟩
    obtain ⟨v, h1, h2⟩ := h.at_ i d hi
    exact ⟨v, by rw [Nat.zero_add]; exact h1, KTkC.sl h2⟩
end Go.Proofs.YtdmpobegobfpjaaGreat
namespace Go.Proofs.YtdmpobegobfpjaaGreat
open Go.RowKit
open Go.Sort (grow)
theorem info_KTS : (Tryz.prog.info? 55).map (fun i => (i.zero, i.size, i.bytes)) = some (some (.agg #[.int .i64 0, .int .i64 0, .int .i64 0, .int .i64 0, .slice none 0 0, .slice none 0 0, .int .i64 0]), 7, 88) := by kernel_rfl
theorem make_KTS (n : Nat) (hn : n ≤ 1048576) (w : World) : (Instr.makeSlice 32 (.int .i64 (n : Int)) (.int .i64 (n : Int))).run Tryz.prog w = .ok (.slice (some ⟨w.heap.size, 0, none⟩) n n) (w.alloc (.cells (madeCells #[.int .i64 0, .int .i64 0, .int .i64 0, .int .i64 0, .slice none 0 0, .slice none 0 0, .int .i64 0] (n * 7)) 55)) := by
  obtain ⟨i, hi, hzz⟩ := Option.map_eq_some_iff.1 info_KTS
  simp only [Prod.mk.injEq] at hzz
  obtain ⟨hz, hs, hb⟩ := hzz
  have := run_make (P := Tryz.prog) w 32 55 i _ Tryz.underlying32 hi hz .i64 .i64 (n : Int) (n : Int) (by omega) (by omega) (by rw [hb]; omega) (by omega)
  rw [hs] at this
  simpa [Value.cells] using this
set_option maxRecDepth 100000 in
set_option maxHeartbeats 4000000 in
theorem KTS.to (w : World) (a : Option Addr) (cap : Nat) (xs : List tx.T7) (hn : xs.length ≤ 1048576) (ht : ∀ d ∈ xs, KT.S d) (hs : KTk.RdS w a xs) : Calls Tryz.prog 32 #[.slice a xs.length cap] w fun e w' =>
    ∃ P, e = .returned (.slice (some ⟨w.heap.size, 0, none⟩) xs.length xs.length) ∧ KTk.OwS w' w.heap.size (some ⟨w.heap.size, 0, none⟩) xs P ∧ Below w.heap.size w w' := by
  have hmk := make_KTS xs.length hn
  go_enter Tryz.func32, Tryz.ntmps32
  go_wp2
  go_loopw [4] (fun i wr => ∃ (j : Nat) (g : Nat → Nat → Prop), j ≤ xs.length ∧ i = .int .i64 j ∧ Below w.heap.size w wr ∧ w.heap.size < wr.heap.size ∧ KTk.Part wr w.heap.size w.heap.size xs.length (xs.take j) g) (fun i _ => xs.length - (intOf i).toNat)
  case atStart => exact ⟨0, fun _ _ => False, Nat.zero_le _, rfl, (Below.refl _ _).alloc (Nat.le_refl _) _, by simp, by rw [List.take_zero]; exact Kd.Part.nil _ _ (room_made _ _ _ _)⟩
  case round =>
    obtain ⟨j, g, hj, rfl, hbl, hsz, hpt⟩ := hrel
    by_cases hlt : j < xs.length
    · obtain ⟨d, hd⟩ : ∃ d, xs[j]? = some d := ⟨_, List.getElem?_eq_getElem hlt⟩
      rcases hs with hs | ⟨b, off, rfl, hb, h1⟩
      · rw [hs] at hlt; simp at hlt
      obtain ⟨⟨c0, c1, c2, c3⟩, hat, hrd⟩ := h1 j d hd
      have e0 : wr.cell? ⟨b, off + j * 7, none⟩ = some (.int .i64 d.id) := (hbl.cell (p := ⟨b, off + j * 7, none⟩) hb).trans (hat 0 _ rfl)
      have e1 : wr.cell? ⟨b, off + j * 7 + 1, none⟩ = some (.int .i64 d.home) := (hbl.cell (p := ⟨b, off + j * 7 + 1, none⟩) hb).trans (hat 1 _ rfl)
      have e2 : wr.cell? ⟨b, off + j * 7 + 2, none⟩ = some (.int .i64 d.phase) := (hbl.cell (p := ⟨b, off + j * 7 + 2, none⟩) hb).trans (hat 2 _ rfl)
      have e3 : wr.cell? ⟨b, off + j * 7 + 3, none⟩ = some (.int .i64 d.count) := (hbl.cell (p := ⟨b, off + j * 7 + 3, none⟩) hb).trans (hat 3 _ rfl)
      have e4 : wr.cell? ⟨b, off + j * 7 + 4, none⟩ = some (.slice c0 d.reads.length c1) := (hbl.cell (p := ⟨b, off + j * 7 + 4, none⟩) hb).trans (hat 4 _ rfl)
      have e5 : wr.cell? ⟨b, off + j * 7 + 5, none⟩ = some (.slice c2 d.sets.length c3) := (hbl.cell (p := ⟨b, off + j * 7 + 5, none⟩) hb).trans (hat 5 _ rfl)
      have e6 : wr.cell? ⟨b, off + j * 7 + 6, none⟩ = some (.int .i64 d.stamp) := (hbl.cell (p := ⟨b, off + j * 7 + 6, none⟩) hb).trans (hat 6 _ rfl)
      have hcl := KT.to wr c0 c1 c2 c3 d (ht d (List.mem_of_getElem? hd)) (KTk.later hrd hbl)
      have KH : Hid (KTk.Part wr w.heap.size w.heap.size xs.length (xs.take j) g ∧ Below w.heap.size w wr ∧ w.heap.size < wr.heap.size ∧ xs.take (j + 1) = xs.take j ++ [d] ∧ (xs.take j).length = j) := ⟨hpt, hbl, hsz, by rw [List.take_add_one, hd]; rfl, by rw [List.length_take]; omega⟩
      have jn : (j : Int) < (xs.length : Int) := by omega
      clear hpt hbl hmk h1 ht hat hrd hd
      go_wp2_with fail
      refine hcl.mono ?_
      clear hcl e0 e1 e2 e3 e4 e5 e6
      rintro e w1 ⟨u0, u1, u2, u3, P, rfl, ho, b1⟩
      have hp1 := KH.out.1.later b1 KH.out.2.2.1
      have hrm := hp1.rm
      have hjm : j * 7 + 7 ≤ xs.length * 7 := by omega
      obtain ⟨z0, d0, f0⟩ : ∃ v, w1.cell? ⟨w.heap.size, j * 7, none⟩ = some v ∧ w1.frozen? ⟨w.heap.size, j * 7, none⟩ = false := hrm (j * 7 + 0) (show _ < xs.length * 7 by omega)
      obtain ⟨z1, d1, f1⟩ : ∃ v, w1.cell? ⟨w.heap.size, j * 7 + 1, none⟩ = some v ∧ w1.frozen? ⟨w.heap.size, j * 7 + 1, none⟩ = false := hrm (j * 7 + 1) (show _ < xs.length * 7 by omega)
      obtain ⟨z2, d2, f2⟩ : ∃ v, w1.cell? ⟨w.heap.size, j * 7 + 2, none⟩ = some v ∧ w1.frozen? ⟨w.heap.size, j * 7 + 2, none⟩ = false := hrm (j * 7 + 2) (show _ < xs.length * 7 by omega)
      obtain ⟨z3, d3, f3⟩ : ∃ v, w1.cell? ⟨w.heap.size, j * 7 + 3, none⟩ = some v ∧ w1.frozen? ⟨w.heap.size, j * 7 + 3, none⟩ = false := hrm (j * 7 + 3) (show _ < xs.length * 7 by omega)
      obtain ⟨z4, d4, f4⟩ : ∃ v, w1.cell? ⟨w.heap.size, j * 7 + 4, none⟩ = some v ∧ w1.frozen? ⟨w.heap.size, j * 7 + 4, none⟩ = false := hrm (j * 7 + 4) (show _ < xs.length * 7 by omega)
      obtain ⟨z5, d5, f5⟩ : ∃ v, w1.cell? ⟨w.heap.size, j * 7 + 5, none⟩ = some v ∧ w1.frozen? ⟨w.heap.size, j * 7 + 5, none⟩ = false := hrm (j * 7 + 5) (show _ < xs.length * 7 by omega)
      obtain ⟨z6, d6, f6⟩ : ∃ v, w1.cell? ⟨w.heap.size, j * 7 + 6, none⟩ = some v ∧ w1.frozen? ⟨w.heap.size, j * 7 + 6, none⟩ = false := hrm (j * 7 + 6) (show _ < xs.length * 7 by omega)
      have K1 : Hid (KTk.Part w1 w.heap.size w.heap.size xs.length (xs.take j) g ∧ KTk.Ow w1 wr.heap.size ⟨u0, u1, u2, u3⟩ d P ∧ Below wr.heap.size wr w1) := ⟨hp1, ho, b1⟩
      clear hp1 ho b1 hrm hjm
      go_wp2
      obtain ⟨k1, k2, k3, k4, k5⟩ := KH.out
      obtain ⟨p1, p2, p3⟩ := K1.out
      have hpu := p1.push (by omega) ⟨u0, u1, u2, u3⟩ d P (KTk.low p2 (Nat.le_of_lt k3)) (fun q hq => by have := (KTk.of p2 hq).1; omega) (fun i q hi hq hq' => by have := (k1.gq hi hq).2; have := (KTk.of p2 hq').1; omega)
      rw [k5, ← k4] at hpu
      have hbe : Below w.heap.size w (putB w1 w.heap.size (j * 7) [.int .i64 d.id, .int .i64 d.home, .int .i64 d.phase, .int .i64 d.count, .slice u0 d.reads.length u1, .slice u2 d.sets.length u3, .int .i64 d.stamp]) := putB_below (Nat.le_refl _) _ _ _ (k2.trans (p3.mono k2.size))
      have hsz' : w.heap.size < (putB w1 w.heap.size (j * 7) [.int .i64 d.id, .int .i64 d.home, .int .i64 d.phase, .int .i64 d.count, .slice u0 d.reads.length u1, .slice u2 d.sets.length u3, .int .i64 d.stamp]).heap.size := by rw [putB_size]; exact Nat.lt_of_lt_of_le k3 p3.size
      exact ⟨⟨j + 1, _, by omega, by simp, hbe, hsz', hpu⟩, by simp [intOf]; omega⟩
    · obtain rfl : j = xs.length := by omega
      have hd : decide ((xs.length : Int) < (xs.length : Int)) = false := by simp
      rw [List.take_length] at hpt
      have KH : Hid (KTk.Part wr w.heap.size w.heap.size xs.length xs g ∧ Below w.heap.size w wr ∧ w.heap.size < wr.heap.size) := ⟨hpt, hbl, hsz⟩
      clear hpt hbl hs hmk ht
      go_wp2
      go_ret
      exact ⟨_, rfl, KH.out.1.own (Nat.le_refl _) KH.out.2.2, KH.out.2.1⟩
set_option maxRecDepth 100000 in
set_option maxHeartbeats 4000000 in
theorem KTS.eq (w : World) (a a' : Option Addr) (cap cap' : Nat) (xs : List tx.T7) (hn : xs.length ≤ 1048576) (ht : ∀ d ∈ xs, KT.S d) (h1 : KTk.RdS w a xs) (h2 : KTk.RdS w a' xs) : Calls Tryz.prog 37 #[.slice a xs.length cap, .slice a' xs.length cap'] w fun e w' => e = .returned (.bool true) ∧ Below w.heap.size w w' := by
  go_enter Tryz.func37, Tryz.ntmps37
  go_wp2
  go_loopw [5] (fun i wr => ∃ j : Nat, j ≤ xs.length ∧ i = .int .i64 j ∧ Below w.heap.size w wr) (fun i _ => xs.length - (intOf i).toNat)
  case atStart => exact ⟨0, Nat.zero_le _, rfl, Below.refl _ _⟩
  case round =>
    obtain ⟨j, hj, rfl, hbl⟩ := hrel
    by_cases hlt : j < xs.length
    · obtain ⟨d, hd⟩ : ∃ d, xs[j]? = some d := ⟨_, List.getElem?_eq_getElem hlt⟩
      rcases h1 with h1 | ⟨b, off, rfl, hb, h1⟩
      · rw [h1] at hlt; simp at hlt
      · rcases h2 with h2 | ⟨b', off', rfl, hb', h2⟩
        · rw [h2] at hlt; simp at hlt
        · obtain ⟨⟨c0, c1, c2, c3⟩, hat, hrd⟩ := h1 j d hd
          obtain ⟨⟨b0, b1, b2, b3⟩, hat', hrd'⟩ := h2 j d hd
          have x0 : ∀ dd os, (grow (redrawn wr dd) os).cell? ⟨b, off + j * 7, none⟩ = some (.int .i64 d.id) := fun dd os => ((below_regrown wr dd os).cell (p := ⟨b, off + j * 7, none⟩) (Nat.lt_of_lt_of_le hb hbl.size)).trans ((hbl.cell (p := ⟨b, off + j * 7, none⟩) hb).trans (hat 0 _ rfl))
          have x1 : ∀ dd os, (grow (redrawn wr dd) os).cell? ⟨b, off + j * 7 + 1, none⟩ = some (.int .i64 d.home) := fun dd os => ((below_regrown wr dd os).cell (p := ⟨b, off + j * 7 + 1, none⟩) (Nat.lt_of_lt_of_le hb hbl.size)).trans ((hbl.cell (p := ⟨b, off + j * 7 + 1, none⟩) hb).trans (hat 1 _ rfl))
          have x2 : ∀ dd os, (grow (redrawn wr dd) os).cell? ⟨b, off + j * 7 + 2, none⟩ = some (.int .i64 d.phase) := fun dd os => ((below_regrown wr dd os).cell (p := ⟨b, off + j * 7 + 2, none⟩) (Nat.lt_of_lt_of_le hb hbl.size)).trans ((hbl.cell (p := ⟨b, off + j * 7 + 2, none⟩) hb).trans (hat 2 _ rfl))
          have x3 : ∀ dd os, (grow (redrawn wr dd) os).cell? ⟨b, off + j * 7 + 3, none⟩ = some (.int .i64 d.count) := fun dd os => ((below_regrown wr dd os).cell (p := ⟨b, off + j * 7 + 3, none⟩) (Nat.lt_of_lt_of_le hb hbl.size)).trans ((hbl.cell (p := ⟨b, off + j * 7 + 3, none⟩) hb).trans (hat 3 _ rfl))
          have x4 : ∀ dd os, (grow (redrawn wr dd) os).cell? ⟨b, off + j * 7 + 4, none⟩ = some (.slice c0 d.reads.length c1) := fun dd os => ((below_regrown wr dd os).cell (p := ⟨b, off + j * 7 + 4, none⟩) (Nat.lt_of_lt_of_le hb hbl.size)).trans ((hbl.cell (p := ⟨b, off + j * 7 + 4, none⟩) hb).trans (hat 4 _ rfl))
          have x5 : ∀ dd os, (grow (redrawn wr dd) os).cell? ⟨b, off + j * 7 + 5, none⟩ = some (.slice c2 d.sets.length c3) := fun dd os => ((below_regrown wr dd os).cell (p := ⟨b, off + j * 7 + 5, none⟩) (Nat.lt_of_lt_of_le hb hbl.size)).trans ((hbl.cell (p := ⟨b, off + j * 7 + 5, none⟩) hb).trans (hat 5 _ rfl))
          have x6 : ∀ dd os, (grow (redrawn wr dd) os).cell? ⟨b, off + j * 7 + 6, none⟩ = some (.int .i64 d.stamp) := fun dd os => ((below_regrown wr dd os).cell (p := ⟨b, off + j * 7 + 6, none⟩) (Nat.lt_of_lt_of_le hb hbl.size)).trans ((hbl.cell (p := ⟨b, off + j * 7 + 6, none⟩) hb).trans (hat 6 _ rfl))
          have y0 : ∀ dd os, (grow (redrawn wr dd) os).cell? ⟨b', off' + j * 7, none⟩ = some (.int .i64 d.id) := fun dd os => ((below_regrown wr dd os).cell (p := ⟨b', off' + j * 7, none⟩) (Nat.lt_of_lt_of_le hb' hbl.size)).trans ((hbl.cell (p := ⟨b', off' + j * 7, none⟩) hb').trans (hat' 0 _ rfl))
          have y1 : ∀ dd os, (grow (redrawn wr dd) os).cell? ⟨b', off' + j * 7 + 1, none⟩ = some (.int .i64 d.home) := fun dd os => ((below_regrown wr dd os).cell (p := ⟨b', off' + j * 7 + 1, none⟩) (Nat.lt_of_lt_of_le hb' hbl.size)).trans ((hbl.cell (p := ⟨b', off' + j * 7 + 1, none⟩) hb').trans (hat' 1 _ rfl))
          have y2 : ∀ dd os, (grow (redrawn wr dd) os).cell? ⟨b', off' + j * 7 + 2, none⟩ = some (.int .i64 d.phase) := fun dd os => ((below_regrown wr dd os).cell (p := ⟨b', off' + j * 7 + 2, none⟩) (Nat.lt_of_lt_of_le hb' hbl.size)).trans ((hbl.cell (p := ⟨b', off' + j * 7 + 2, none⟩) hb').trans (hat' 2 _ rfl))
          have y3 : ∀ dd os, (grow (redrawn wr dd) os).cell? ⟨b', off' + j * 7 + 3, none⟩ = some (.int .i64 d.count) := fun dd os => ((below_regrown wr dd os).cell (p := ⟨b', off' + j * 7 + 3, none⟩) (Nat.lt_of_lt_of_le hb' hbl.size)).trans ((hbl.cell (p := ⟨b', off' + j * 7 + 3, none⟩) hb').trans (hat' 3 _ rfl))
          have y4 : ∀ dd os, (grow (redrawn wr dd) os).cell? ⟨b', off' + j * 7 + 4, none⟩ = some (.slice b0 d.reads.length b1) := fun dd os => ((below_regrown wr dd os).cell (p := ⟨b', off' + j * 7 + 4, none⟩) (Nat.lt_of_lt_of_le hb' hbl.size)).trans ((hbl.cell (p := ⟨b', off' + j * 7 + 4, none⟩) hb').trans (hat' 4 _ rfl))
          have y5 : ∀ dd os, (grow (redrawn wr dd) os).cell? ⟨b', off' + j * 7 + 5, none⟩ = some (.slice b2 d.sets.length b3) := fun dd os => ((below_regrown wr dd os).cell (p := ⟨b', off' + j * 7 + 5, none⟩) (Nat.lt_of_lt_of_le hb' hbl.size)).trans ((hbl.cell (p := ⟨b', off' + j * 7 + 5, none⟩) hb').trans (hat' 5 _ rfl))
          have y6 : ∀ dd os, (grow (redrawn wr dd) os).cell? ⟨b', off' + j * 7 + 6, none⟩ = some (.int .i64 d.stamp) := fun dd os => ((below_regrown wr dd os).cell (p := ⟨b', off' + j * 7 + 6, none⟩) (Nat.lt_of_lt_of_le hb' hbl.size)).trans ((hbl.cell (p := ⟨b', off' + j * 7 + 6, none⟩) hb').trans (hat' 6 _ rfl))
          have cQ : ∀ dd os, Calls Tryz.prog 74 #[.agg #[.int .i64 d.id, .int .i64 d.home, .int .i64 d.phase, .int .i64 d.count, .slice c0 d.reads.length c1, .slice c2 d.sets.length c3, .int .i64 d.stamp], .agg #[.int .i64 d.id, .int .i64 d.home, .int .i64 d.phase, .int .i64 d.count, .slice b0 d.reads.length b1, .slice b2 d.sets.length b3, .int .i64 d.stamp]] (grow (redrawn wr dd) os) fun e w'' => e = .returned (.bool true) ∧ ∃ p : Regrown, w'' = grow (redrawn wr p.d) p.os := fun dd os => Calls.regrown_of (KT.eq _ c0 c1 c2 c3 b0 b1 b2 b3 d (ht d (List.mem_of_getElem? hd)) (KTk.later hrd (hbl.trans ((below_regrown wr dd os).mono hbl.size))) (KTk.later hrd' (hbl.trans ((below_regrown wr dd os).mono hbl.size))))
          have K : Hid (Below w.heap.size w wr) := hbl
          have jn : (j : Int) < (xs.length : Int) := by omega
          clear hat hat' hrd hrd' hbl h1 h2 ht hd
          go_wp2_with fail
          refine wp_region_quiet_below (by kernel_rfl) (by kernel_rfl) ?_
          repeat (go_big_quiet_step (exact cQ _ _))
          refine wpQuiet_nil ?_
          intro _ hw'
          obtain ⟨⟨dq, osq⟩, hw''⟩ := hw'
          subst hw''
          have bq := below_regrown wr dq osq
          go_wp2
          exact ⟨⟨j + 1, by omega, by simp, K.out.trans (bq.mono K.out.size)⟩, by simp [intOf]; omega⟩
    · obtain rfl : j = xs.length := by omega
      have hd : decide ((xs.length : Int) < (xs.length : Int)) = false := by simp
      clear h1 h2 ht
      go_wp2
      go_ret
      exact ⟨rfl, hbl⟩
def KTS.szs (xs : List tx.T7) : Nat := (xs.map fun d => tx.szT d).sum
set_option maxRecDepth 100000 in
set_option maxHeartbeats 4000000 in
theorem KTS.sz (w : World) (a : Option Addr) (cap : Nat) (xs : List tx.T7) (l : Nat) (hl0 : l ≤ 1048576) (hn : xs.length ≤ maxLen) (hl : ∀ d ∈ xs, tx.TL d) (hs : KTk.RdS w a xs) :
    Calls Tryz.prog 27 #[.slice a xs.length cap, .int .i64 (l : Int)] w fun e w' => e = .returned (.int .i64 (leftR l (xs.length + KTS.szs xs))) ∧ Below w.heap.size w w' := by
  have hn' := hn
  unfold maxLen at hn'
  by_cases h0 : xs.length ≤ l
  · have d0 : decide ((l : Int) - (xs.length : Int) < 0) = false := by simp; omega
    go_enter Tryz.func27, Tryz.ntmps27
    go_wp2
    go_loopw [1, 5] (fun v1 v5 wr => ∃ j : Nat, j ≤ xs.length ∧ v5 = .int .i64 j ∧ xs.length + KTS.szs (xs.take j) ≤ l ∧ v1 = .int .i64 ((l - (xs.length + KTS.szs (xs.take j)) : Nat) : Int) ∧ Below w.heap.size w wr) (fun _ v5 _ => xs.length - (intOf v5).toNat)
    case atStart => exact ⟨0, Nat.zero_le _, rfl, by simpa [KTS.szs] using h0, by simp [KTS.szs]; try omega, Below.refl _ _⟩
    case round =>
      obtain ⟨j, hj, rfl, hle, rfl, hbl⟩ := hrel
      have KL : Hid (xs.length + KTS.szs (xs.take j) ≤ l) := hle
      by_cases hlt : j < xs.length
      · obtain ⟨d, hd⟩ : ∃ d, xs[j]? = some d := ⟨_, List.getElem?_eq_getElem hlt⟩
        rcases hs with hs | ⟨b, off, rfl, hb, h1⟩
        · rw [hs] at hlt; simp at hlt
        obtain ⟨⟨c0, c1, c2, c3⟩, hat, hrd⟩ := h1 j d hd
        have e0 : wr.cell? ⟨b, off + j * 7, none⟩ = some (.int .i64 d.id) := (hbl.cell (p := ⟨b, off + j * 7, none⟩) hb).trans (hat 0 _ rfl)
        have e1 : wr.cell? ⟨b, off + j * 7 + 1, none⟩ = some (.int .i64 d.home) := (hbl.cell (p := ⟨b, off + j * 7 + 1, none⟩) hb).trans (hat 1 _ rfl)
        have e2 : wr.cell? ⟨b, off + j * 7 + 2, none⟩ = some (.int .i64 d.phase) := (hbl.cell (p := ⟨b, off + j * 7 + 2, none⟩) hb).trans (hat 2 _ rfl)
        have e3 : wr.cell? ⟨b, off + j * 7 + 3, none⟩ = some (.int .i64 d.count) := (hbl.cell (p := ⟨b, off + j * 7 + 3, none⟩) hb).trans (hat 3 _ rfl)
        have e4 : wr.cell? ⟨b, off + j * 7 + 4, none⟩ = some (.slice c0 d.reads.length c1) := (hbl.cell (p := ⟨b, off + j * 7 + 4, none⟩) hb).trans (hat 4 _ rfl)
        have e5 : wr.cell? ⟨b, off + j * 7 + 5, none⟩ = some (.slice c2 d.sets.length c3) := (hbl.cell (p := ⟨b, off + j * 7 + 5, none⟩) hb).trans (hat 5 _ rfl)
        have e6 : wr.cell? ⟨b, off + j * 7 + 6, none⟩ = some (.int .i64 d.stamp) := (hbl.cell (p := ⟨b, off + j * 7 + 6, none⟩) hb).trans (hat 6 _ rfl)
        have hz := KT.szl wr c0 c1 c2 c3 d (l - (xs.length + KTS.szs (xs.take j))) (by omega) (hl d (List.mem_of_getElem? hd))
        have HST : Hid (KTS.szs (xs.take (j + 1)) = KTS.szs (xs.take j) + tx.szT d) := by
          unfold Hid KTS.szs
          rw [List.map_take, List.map_take]
          exact sum_take_succ (by rw [List.getElem?_map, hd]; rfl)
        have HLE : Hid (KTS.szs (xs.take (j + 1)) ≤ KTS.szs xs) := by unfold Hid KTS.szs; rw [List.map_take]; exact sum_take_le _ _
        have KB : Hid (Below w.heap.size w wr) := hbl
        have jn : (j : Int) < (xs.length : Int) := by omega
        generalize hLL : KTS.szs (xs.take j) = LL at *
        generalize tx.szT d = m at *
        clear h1 hbl hl hle hat hrd hd
        by_cases hfit : m ≤ l - (xs.length + LL)
        · rw [leftR_yes hfit] at hz
          have d1 : decide (((l - (xs.length + LL) - m : Nat) : Int) < 0) = false := by simp
          go_wp2_with fail
          refine hz.mono ?_
          clear hz
          rintro e w1 ⟨rfl, b1⟩
          go_wp2
          have h1 := KL.out
          refine ⟨⟨j + 1, by omega, by simp, by rw [HST.out]; omega, by rw [HST.out]; congr 2; omega, KB.out.trans (b1.mono KB.out.size)⟩, by simp [intOf]; omega⟩
        · rw [leftR_no hfit] at hz
          go_wp2_with fail
          refine hz.mono ?_
          clear hz
          rintro e w1 ⟨rfl, b1⟩
          go_wp2
          go_ret
          have h2 := HST.out
          have h3 := HLE.out
          refine ⟨by rw [leftR_no (by omega)]; rfl, KB.out.trans (b1.mono KB.out.size)⟩
      · obtain rfl : j = xs.length := by omega
        have hd : decide ((xs.length : Int) < (xs.length : Int)) = false := by simp
        rw [List.take_length] at hle ⊢
        clear hs hl KL
        go_wp2
        go_ret
        exact ⟨by rw [leftR_yes hle]; rfl, hbl⟩
  · have d0 : decide ((l : Int) - (xs.length : Int) < 0) = true := by simp; omega
    go_enter Tryz.func27, Tryz.ntmps27
    go_wp2
    go_ret
    exact ⟨by rw [leftR_no (by omega)]; rfl, Below.refl _ _⟩
end Go.Proofs.YtdmpobegobfpjaaGreat
namespace Go.Proofs.YtdmpobegobfpjaaGreat
open Go.RowKit
def OwnQ (w : World) (base : Nat) (a : Option Addr) (n : Nat) (zss : List (List Int)) (g : Nat → Nat) : Prop :=
  (a = none ∧ n = 0 ∧ zss = []) ∨ ∃ b, a = some ⟨b, 0, none⟩ ∧ base ≤ b ∧ b < w.heap.size ∧ OwnP w base b n zss g
theorem OwnQ.sl {w : World} {base : Nat} {a : Option Addr} {n : Nat} {zss : List (List Int)} {g : Nat → Nat} (h : OwnQ w base a n zss g) : SlP w w.heap.size a n zss := by
  rcases h with ⟨rfl, rfl, rfl⟩ | ⟨b, rfl, _, hb, ho⟩
  · exact ⟨rfl, .inl rfl⟩
  · exact ho.sl hb
theorem OwnQ.later {w w' : World} {base : Nat} {a : Option Addr} {n : Nat} {zss : List (List Int)} {g : Nat → Nat} (h : OwnQ w base a n zss g) (hb : Below w.heap.size w w') : OwnQ w' base a n zss g := by
  rcases h with h | ⟨b, rfl, hb1, hb2, ho⟩
  · exact .inl h
  · exact .inr ⟨b, rfl, hb1, Nat.lt_of_lt_of_le hb2 hb.size, ho.later hb hb2⟩
theorem OwnQ.low {w : World} {base : Nat} {a : Option Addr} {n : Nat} {zss : List (List Int)} {g : Nat → Nat} (h : OwnQ w base a n zss g) : ∀ i, i < n → base ≤ g i := by
  rcases h with ⟨_, rfl, _⟩ | ⟨b, rfl, _, _, ho⟩
  · intro i hi; omega
  · exact ho.low
theorem OwnQ.lt {w : World} {base : Nat} {a : Option Addr} {n : Nat} {zss : List (List Int)} {g : Nat → Nat} (h : OwnQ w base a n zss g) : ∀ i, i < n → g i < w.heap.size := by
  rcases h with ⟨_, rfl, _⟩ | ⟨b, rfl, _, _, ho⟩
  · intro i hi; omega
  · exact ho.lt
theorem OwnQ.kept {w w' : World} {base : Nat} {a : Option Addr} {n : Nat} {zss : List (List Int)} {g : Nat → Nat} (h : OwnQ w base a n zss g) (hs : w.heap.size ≤ w'.heap.size) (eb : ∀ b, a = some ⟨b, 0, none⟩ → w'.heap[b]? = w.heap[b]?) (eg : ∀ i, i < n → w'.heap[g i]? = w.heap[g i]?) : OwnQ w' base a n zss g := by
  rcases h with h | ⟨b, rfl, hb1, hb2, ho⟩
  · exact .inl h
  · exact .inr ⟨b, rfl, hb1, Nat.lt_of_lt_of_le hb2 hs, ho.of_blocks hs (eb b rfl) eg⟩
theorem OwnQ.lower {w : World} {base base' : Nat} {a : Option Addr} {n : Nat} {zss : List (List Int)} {g : Nat → Nat} (h : OwnQ w base a n zss g) (hb : base' ≤ base) : OwnQ w base' a n zss g := by
  rcases h with h | ⟨b, e, h1, h2, o⟩
  · exact .inl h
  · exact .inr ⟨b, e, Nat.le_trans hb h1, h2, ⟨o.len, o.cell, fun i hi => Nat.le_trans hb (o.low i hi), o.lt, o.ne, o.nums, o.room, o.inj⟩⟩
end Go.Proofs.YtdmpobegobfpjaaGreat
namespace Go.Proofs.YtdmpobegobfpjaaGreat
open Go.RowKit
open Go.Sort (grow)
set_option maxHeartbeats 1000000 in
theorem toPlace_any (w : World) (a : Option Addr) (n cap : Nat) (zs : List Int) (hn : n ≤ 1048576) (hs : SlN w w.heap.size a n zs) : Calls Tryz.prog 59 #[.agg #[.slice a n cap]] w fun e w' =>
    ∃ g, e = .returned (.agg #[.slice (some ⟨g, 0, none⟩) n n]) ∧ Below w.heap.size w w' ∧ w.heap.size ≤ g ∧ g < w'.heap.size ∧ NumsAt w' g 0 zs ∧ Room w' g n := by
  go_enter Tryz.func59, Tryz.ntmps59
  go_wp2_with fail
  obtain ⟨W, hW⟩ : ∃ W, W = ((w.alloc (.cells #[.slice a n cap] 87)).alloc (.cells #[.slice none 0 0] 100)).alloc (.cells #[.slice none 0 0] 100) := ⟨_, rfl⟩
  have bW : Below w.heap.size w W := by rw [hW]; exact (((Below.refl _ _).alloc (Nat.le_refl _) _).alloc (by simp) _).alloc (by simp; omega) _
  have zW : W.heap.size = w.heap.size + 3 := by rw [hW]; simp
  have c1 : W.cell? ⟨w.heap.size + 1, 0, none⟩ = some (.slice none 0 0) := by rw [hW]; go_simp
  have c2 : W.cell? ⟨w.heap.size + 2, 0, none⟩ = some (.slice none 0 0) := by rw [hW]; go_simp
  have f1 : W.frozen? ⟨w.heap.size + 1, 0, none⟩ = false := by rw [hW]; go_simp
  have f2 : W.frozen? ⟨w.heap.size + 2, 0, none⟩ = false := by rw [hW]; go_simp
  rw [← hW]
  clear hW
  refine (toInt64S_any W a n cap zs hn (hs.later bW)).mono ?_
  rintro e w1 ⟨rfl, b1, l1, n1, r1⟩
  have c1 := (b1.cell (p := ⟨w.heap.size + 1, 0, none⟩) (by simp; omega)).trans c1
  have c2 := (b1.cell (p := ⟨w.heap.size + 2, 0, none⟩) (by simp; omega)).trans c2
  have f1 := (b1.frozen (p := ⟨w.heap.size + 1, 0, none⟩) (by simp; omega)).trans f1
  have f2 := (b1.frozen (p := ⟨w.heap.size + 2, 0, none⟩) (by simp; omega)).trans f2
  have K : Hid (Below w.heap.size w w1 ∧ W.heap.size < w1.heap.size ∧ NumsAt w1 W.heap.size 0 zs ∧ Room w1 W.heap.size n ∧ W.heap.size = w.heap.size + 3) := ⟨bW.trans (b1.mono bW.size), l1, n1, r1, zW⟩
  clear bW zW b1 l1 n1 r1 hs
  generalize W.heap.size = g at *
  go_wp2
  refine bodyPost_ret (v := .agg #[.slice (some ⟨g, 0, none⟩) n n]) (by simp [results, Tryz.results59, go_sem, c1]) rfl ?_
  obtain ⟨b1, l1, n1, r1, zW⟩ := K.out
  have far : ∀ (V : World) (q o : Nat) (v : Value), q ≠ g → (V.setCell ⟨q, o, none⟩ v).heap[g]? = V.heap[g]? := fun V q o v h => Below.heap_setCell _ _ _ _ (fun e => h e.symm)
  have he := (far (w1.setCell ⟨w.heap.size + 2, 0, none⟩ (.slice (some ⟨g, 0, none⟩) n n)) (w.heap.size + 1) 0 (.slice (some ⟨g, 0, none⟩) n n) (by omega)).trans (far w1 (w.heap.size + 2) 0 (.slice (some ⟨g, 0, none⟩) n n) (by omega))
  exact ⟨g, rfl, (b1.setCell (p := ⟨w.heap.size + 2, 0, none⟩) (by simp) _).setCell (p := ⟨w.heap.size + 1, 0, none⟩) (by simp) _, by omega, by simpa [World.setCell] using l1, n1.of_block he, r1.of_block he⟩
theorem make_places (n : Nat) (hn : n ≤ 1048576) (w : World) : (Instr.makeSlice 30 (.int .i64 (n : Int)) (.int .i64 (n : Int))).run Tryz.prog w = .ok (.slice (some ⟨w.heap.size, 0, none⟩) n n) (w.alloc (.cells (madeCells #[.slice none 0 0] n) 100)) := by
  have info : (Tryz.prog.info? 100).map (fun i => (i.zero, i.size, i.bytes)) = some (some (.agg #[.slice none 0 0]), 1, 24) := by kernel_rfl
  obtain ⟨i, hi, hzz⟩ := Option.map_eq_some_iff.1 info
  simp only [Prod.mk.injEq] at hzz
  obtain ⟨hz, hs, hb⟩ := hzz
  have := run_make (P := Tryz.prog) w 30 100 i _ Tryz.underlying30 hi hz .i64 .i64 (n : Int) (n : Int) (by omega) (by omega) (by rw [hb]; omega) (by omega)
  rw [hs] at this
  simpa [Value.cells] using this
set_option maxHeartbeats 2000000 in
theorem toPlaceS_any (w : World) (a : Option Addr) (n cap : Nat) (zss : List (List Int)) (hn : n ≤ 1048576) (hl : ∀ zs ∈ zss, zs.length ≤ 1048576) (hs : SlP w w.heap.size a n zss) : Calls Tryz.prog 30 #[.slice a n cap] w fun e w' =>
    ∃ g, e = .returned (.slice (some ⟨w.heap.size, 0, none⟩) n n) ∧ Below w.heap.size w w' ∧ w.heap.size < w'.heap.size ∧ OwnP w' w.heap.size w.heap.size n zss g := by
  obtain ⟨hx, hs⟩ := hs
  have hmk := make_places n hn
  go_enter Tryz.func30, Tryz.ntmps30
  go_wp2
  go_loopw [4] (fun i wr => ∃ (j : Nat) (g : Nat → Nat), j ≤ n ∧ i = .int .i64 j ∧ Below w.heap.size w wr ∧ w.heap.size < wr.heap.size ∧ Room wr w.heap.size n ∧ OwnP wr w.heap.size w.heap.size j (zss.take j) g) (fun i _ => n - (intOf i).toNat)
  case atStart => exact ⟨0, fun _ => 0, Nat.zero_le _, rfl, (Below.refl _ _).alloc (Nat.le_refl _) _, by simp, room_made _ _ _ _, by rw [List.take_zero]; exact OwnP.nil _ _ _ _⟩
  case round =>
    obtain ⟨j, g, hj, rfl, hbl, hsz, hro, hown⟩ := hrel
    by_cases hlt : j < n
    · rcases hs with hs | ⟨b, off, rfl, hb, h1⟩
      · omega
      · obtain ⟨a', cap', hc, hsl, _⟩ := h1 j _ (atP_of (by omega))
        have c := (hbl.cell (p := ⟨b, off + j, none⟩) hb).trans hc
        have hcl := toPlace_any wr a' (atP zss j).length cap' (atP zss j) (hl _ (List.mem_of_getElem? (atP_of (by omega)))) ((hsl.below hbl).mono hbl.size)
        have K : Hid (Room wr w.heap.size n ∧ OwnP wr w.heap.size w.heap.size j (zss.take j) g ∧ Below w.heap.size w wr ∧ w.heap.size < wr.heap.size ∧ zss.take (j + 1) = zss.take j ++ [atP zss j]) := ⟨hro, hown, hbl, hsz, by rw [List.take_add_one, atP_of (by omega)]; rfl⟩
        clear hro hown hbl hmk h1 hx hl hsl hc
        go_wp2_with fail
        refine hcl.mono ?_
        clear hcl
        rintro e w1 ⟨q, rfl, b1, lq, hq, hnu, hrm⟩
        obtain ⟨v, d, f⟩ := (K.out.1.below b1 K.out.2.2.2.1) j hlt
        have K1 : Hid (Below wr.heap.size wr w1 ∧ wr.heap.size ≤ q ∧ q < w1.heap.size ∧ NumsAt w1 q 0 (atP zss j) ∧ Room w1 q (atP zss j).length) := ⟨b1, lq, hq, hnu, hrm⟩
        clear b1 lq hq hnu hrm
        go_wp2
        obtain ⟨hro, hown, hbl, hsz, htk⟩ := K.out
        obtain ⟨b1, lq, hq, hnu, hrm⟩ := K1.out
        have far : ∀ (V : World) (x o : Nat) (v : Value), x ≠ w.heap.size → (V.setCell ⟨w.heap.size, o, none⟩ v).heap[x]? = V.heap[x]? := fun V x o v h => Below.heap_setCell _ _ _ _ h
        have hsz1 : w.heap.size < w1.heap.size := Nat.lt_of_lt_of_le hsz b1.size
        have ho1 : OwnP (w1.setCell ⟨w.heap.size, j, none⟩ (.slice (some ⟨q, 0, none⟩) (atP zss j).length (atP zss j).length)) w.heap.size w.heap.size j (zss.take j) g := by
          have h1 := hown.later b1 hsz
          refine ⟨h1.len, fun i zs e => ?_, h1.low, fun i hi => by simpa [World.setCell] using h1.lt i hi, h1.ne, fun i zs e => (h1.nums i zs e).of_block (far _ _ _ _ (h1.ne i ?_)), fun i zs e => (h1.room i zs e).of_block (far _ _ _ _ (h1.ne i ?_)), h1.inj⟩
          · obtain ⟨cp, hcc, hcp⟩ := h1.cell i zs e
            have hi : i < j := by have := (List.getElem?_eq_some_iff.1 e).1; have := h1.len; omega
            exact ⟨cp, by rw [cell_set_other (by omega)]; exact hcc, hcp⟩
          · have := (List.getElem?_eq_some_iff.1 e).1; have := h1.len; omega
          · have := (List.getElem?_eq_some_iff.1 e).1; have := h1.len; omega
        have ho2 := ho1.snoc (zs := atP zss j) (q := q) (cap := (atP zss j).length) (cell_set_same d) (Nat.le_refl _) (by omega) (by simpa [World.setCell] using hq) (by omega) (hnu.of_block (far _ _ _ _ (by omega))) (hrm.of_block (far _ _ _ _ (by omega))) (fun i hi e => by have := hown.lt i hi; omega)
        rw [← htk] at ho2
        exact ⟨⟨j + 1, _, by omega, by simp, (hbl.trans (b1.mono hbl.size)).setCell (p := ⟨w.heap.size, j, none⟩) (Nat.le_refl _) _, by simpa [World.setCell] using hsz1, (hro.below b1 hsz).set _, ho2⟩, by simp [intOf]; omega⟩
    · have : j = n := by omega
      subst this
      have hd : decide (j < j) = false := by simp
      rw [← hx, List.take_length, hx] at hown
      have K : Hid (OwnP wr w.heap.size w.heap.size j zss g) := hown
      clear hown hs hro
      go_wp2
      go_ret
      exact ⟨g, rfl, hbl, hsz, K.out⟩
set_option maxHeartbeats 1000000 in
theorem eqPlace_same (w : World) (a a' : Option Addr) (n cap cap' : Nat) (zs : List Int) (hn : n ≤ maxLen) (h1 : SlN w w.heap.size a n zs) (h2 : SlN w w.heap.size a' n zs) :
    Calls Tryz.prog 72 #[.agg #[.slice a n cap], .agg #[.slice a' n cap']] w fun e w' => e = .returned (.bool true) ∧ Below w.heap.size w w' := by
  go_enter Tryz.func72, Tryz.ntmps72
  go_wp2_with fail
  have b0 : Below w.heap.size w ((w.alloc (.cells #[.slice a n cap] 100)).alloc (.cells #[.slice a' n cap'] 100)) := ((Below.refl _ _).alloc (Nat.le_refl _) _).alloc (by simp) _
  refine (eqInt64S_any _ a a' n cap cap' zs hn (h1.later b0) (h2.later b0)).mono ?_
  rintro e w' ⟨rfl, b1⟩
  go_wp2
  go_ret
  exact ⟨rfl, b0.trans (b1.mono b0.size)⟩
set_option maxHeartbeats 2000000 in
theorem eqPlaceS_any (w : World) (a a' : Option Addr) (n cap cap' : Nat) (zss : List (List Int)) (hn : n ≤ maxLen) (hl : ∀ zs ∈ zss, zs.length ≤ maxLen) (h1 : SlP w w.heap.size a n zss) (h2 : SlP w w.heap.size a' n zss) :
    Calls Tryz.prog 35 #[.slice a n cap, .slice a' n cap'] w fun e w' => e = .returned (.bool true) ∧ Below w.heap.size w w' := by
  unfold maxLen at hn
  obtain ⟨hx, h1⟩ := h1
  obtain ⟨_, h2⟩ := h2
  go_enter Tryz.func35, Tryz.ntmps35
  go_wp2
  go_loopw [5] (fun i wr => ∃ k : Nat, k ≤ n ∧ i = .int .i64 k ∧ Below w.heap.size w wr) (fun i _ => n - (intOf i).toNat)
  case atStart => exact ⟨0, Nat.zero_le _, rfl, Below.refl _ _⟩
  case round =>
    obtain ⟨k, hk, rfl, hbl⟩ := hrel
    by_cases hlt : k < n
    · rcases h1 with h1 | ⟨b, off, rfl, hb, h1⟩
      · omega
      · rcases h2 with h2 | ⟨b', off', rfl, hb', h2⟩
        · omega
        · obtain ⟨a1, k1, d1, s1, _⟩ := h1 k _ (atP_of (by omega))
          obtain ⟨a2, k2, d2, s2, _⟩ := h2 k _ (atP_of (by omega))
          have hll := hl _ (List.mem_of_getElem? (atP_of (zss := zss) (i := k) (by omega)))
          have hbW : b < wr.heap.size := Nat.lt_of_lt_of_le hb hbl.size
          have hbW' : b' < wr.heap.size := Nat.lt_of_lt_of_le hb' hbl.size
          have e1 := (hbl.cell (p := ⟨b, off + k, none⟩) hb).trans d1
          have e2 := (hbl.cell (p := ⟨b', off' + k, none⟩) hb').trans d2
          have c1 : ∀ d os, (grow (redrawn wr d) os).cell? ⟨b, off + k, none⟩ = some (.slice a1 (atP zss k).length k1) := fun d os => ((below_regrown wr d os).cell (p := ⟨b, off + k, none⟩) hbW).trans e1
          have c2 : ∀ d os, (grow (redrawn wr d) os).cell? ⟨b', off' + k, none⟩ = some (.slice a2 (atP zss k).length k2) := fun d os => ((below_regrown wr d os).cell (p := ⟨b', off' + k, none⟩) hbW').trans e2
          have t1 : SlN wr wr.heap.size a1 (atP zss k).length (atP zss k) := (s1.below hbl).mono hbl.size
          have t2 : SlN wr wr.heap.size a2 (atP zss k).length (atP zss k) := (s2.below hbl).mono hbl.size
          have cQ : ∀ d os, Calls Tryz.prog 72 #[.agg #[.slice a1 (atP zss k).length k1], .agg #[.slice a2 (atP zss k).length k2]] (grow (redrawn wr d) os) fun e w'' => e = .returned (.bool true) ∧ ∃ p : Regrown, w'' = grow (redrawn wr p.d) p.os := fun d os => Calls.regrown_of (eqPlace_same _ a1 a2 _ k1 k2 (atP zss k) hll (t1.later (below_regrown wr d os)) (t2.later (below_regrown wr d os)))
          have K : Hid (Below w.heap.size w wr) := hbl
          clear t1 t2 hbl h1 h2 s1 s2 e1 e2 d1 d2 hl hll hx
          go_wp2_with fail
          refine wp_region_quiet_below (by kernel_rfl) (by kernel_rfl) ?_
          repeat (go_big_quiet_step (exact cQ _ _))
          refine wpQuiet_nil ?_
          intro _ hw'
          obtain ⟨⟨dq, osq⟩, hw''⟩ := hw'
          subst hw''
          have bq := below_regrown wr dq osq
          go_wp2
          exact ⟨⟨k + 1, by omega, by simp, K.out.trans (bq.mono K.out.size)⟩, by simp [intOf]; omega⟩
    · have : k = n := by omega
      subst this
      have hd : decide (k < k) = false := by simp
      clear h1 h2
      go_wp2
      go_ret
      exact ⟨rfl, hbl⟩
end Go.Proofs.YtdmpobegobfpjaaGreat