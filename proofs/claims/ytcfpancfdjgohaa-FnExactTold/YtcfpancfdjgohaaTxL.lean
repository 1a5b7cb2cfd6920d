/- The laws' own copy of a transaction, its comparison and its marks. -/
import Derived.Test.YtcfpancfdjgohaaRows
import Derived.Test.YtcfpancfdjgohaaTxB
import Derived.WalkKit
import Derived.WalkSpells
import Derived.WalkLawsBesides
import Derived.Below
namespace Go.Proofs.Ytcfpancfdjgohaa
open Go.RowKit
set_option maxHeartbeats 2000000 in
theorem toTx_any (w : World) (v : TV) (t : T7) (hr : t.reads.length ≤ 1048576) (hss : t.sets.length ≤ 1048576) (h : SlT w v t) :
    Calls Try.prog 27 #[v.val t] w fun e w' => ∃ (a4 : Option Addr) (c4 : Nat) (h4 : Option Addr) (d4 : Nat) (PR PS : Nat → Prop), e = .returned ((TV.mk a4 c4 h4 d4).val t) ∧ OT w' w.heap.size ⟨a4, c4, h4, d4⟩ t PR PS ∧ Below w.heap.size w w' := by
  obtain ⟨ar, cr, ah, ch⟩ := v
  simp only [TV.val]
  obtain ⟨W, hW⟩ : ∃ W, W = ((w.alloc (.cells #[.int .i64 t.id, .int .i64 t.home, .int .i64 t.phase, .int .i64 t.count, .slice ar t.reads.length cr, .slice ah t.sets.length ch, .int .i64 t.stamp] 51)).alloc (.cells #[.int .i64 0, .int .i64 0, .int .i64 0, .int .i64 0, .slice none 0 0, .slice none 0 0, .int .i64 0] 27)).alloc (.cells #[.int .i64 t.id, .int .i64 t.home, .int .i64 t.phase, .int .i64 t.count, .slice none 0 0, .slice none 0 0, .int .i64 0] 27) := ⟨_, rfl⟩
  obtain ⟨W1, hW1⟩ : ∃ W1, W1 = (w.alloc (.cells #[.int .i64 t.id, .int .i64 t.home, .int .i64 t.phase, .int .i64 t.count, .slice ar t.reads.length cr, .slice ah t.sets.length ch, .int .i64 t.stamp] 51)) := ⟨_, rfl⟩
  have z1 : W1.heap.size = w.heap.size + 1 := by rw [hW1]; simp
  have x1 : BT W1 w.heap.size ⟨ar, cr, ah, ch⟩ t := by rw [hW1]; exact BT.box w ⟨ar, cr, ah, ch⟩ t _
  have b1 : Below w.heap.size w W1 := by rw [hW1]; exact (Below.refl _ _).alloc (Nat.le_refl _) _
  obtain ⟨W2, hW2⟩ : ∃ W2, W2 = W1.alloc (.cells #[.int .i64 0, .int .i64 0, .int .i64 0, .int .i64 0, .slice none 0 0, .slice none 0 0, .int .i64 0] 27) := ⟨_, rfl⟩
  have b2 : Below W1.heap.size W1 W2 := by rw [hW2]; exact (Below.refl _ _).alloc (Nat.le_refl _) _
  have x2 : BT W2 (w.heap.size + 1) ⟨none, 0, none, 0⟩ ⟨0, 0, 0, 0, [], [], 0⟩ := by rw [hW2, ← z1]; exact BT.zero W1 _
  have z2 : W2.heap.size = w.heap.size + 1 + 1 := by rw [hW2]; simp [z1]
  have hW' : W = W2.alloc (.cells #[.int .i64 t.id, .int .i64 t.home, .int .i64 t.phase, .int .i64 t.count, .slice none 0 0, .slice none 0 0, .int .i64 0] 27) := by rw [hW, hW2, hW1]
  have b3 : Below W2.heap.size W2 W := by rw [hW']; exact (Below.refl _ _).alloc (Nat.le_refl _) _
  have yO : BT W (w.heap.size + 1 + 1) ⟨none, 0, none, 0⟩ ⟨t.id, t.home, t.phase, t.count, [], [], 0⟩ := by rw [hW', ← z2]; exact BT.box W2 ⟨none, 0, none, 0⟩ ⟨t.id, t.home, t.phase, t.count, [], [], 0⟩ _
  have sW : W.heap.size = w.heap.size + 3 := by rw [hW']; simp [z2]
  have yA : BT W w.heap.size ⟨ar, cr, ah, ch⟩ t := (x1.later b2).later b3
  have yR : BT W (w.heap.size + 1) ⟨none, 0, none, 0⟩ ⟨0, 0, 0, 0, [], [], 0⟩ := x2.later b3
  have bW : Below w.heap.size w W := (b1.trans (b2.mono b1.size)).trans (b3.mono (by omega))
  have c1 := toNoteS_anyR W ar t.reads.length cr t.reads hr (h.r.later bW)
  have H : Hid (BT W w.heap.size ⟨ar, cr, ah, ch⟩ t ∧ BT W (w.heap.size + 1) ⟨none, 0, none, 0⟩ ⟨0, 0, 0, 0, [], [], 0⟩ ∧ BT W (w.heap.size + 1 + 1) ⟨none, 0, none, 0⟩ ⟨t.id, t.home, t.phase, t.count, [], [], 0⟩ ∧ W.heap.size = w.heap.size + 3 ∧ Below w.heap.size w W ∧ Sl w w.heap.size ah t.sets.length t.sets ∧ t.sets.length ≤ 1048576) := ⟨yA, yR, yO, sW, bW, h.s, hss⟩
  clear hW' x1 x2 z1 z2 b1 b2 b3 yA yR yO sW bW h hss hr hW2 hW1
  go_enter Try.func27, Try.ntmps27
  go_wp2_with fail
  rw [← hW]
  clear hW
  refine c1.mono ?_
  clear c1
  rintro e w1 ⟨rfl, b1, l1, n1, r1⟩
  obtain ⟨yA, yR, yO, sW, bW, hs, hl⟩ := H.out
  have yA1 := yA.later b1
  have yR1 := yR.later b1
  have yO1 := yO.later b1
  have c4 := yO1.c4
  have f4 := yO1.fz 4
  have a5 := (yA1.far (p := ⟨w.heap.size + 1 + 1, 4, none⟩) (by dsimp only; omega) (.slice (some ⟨W.heap.size, 0, none⟩) t.reads.length t.reads.length)).c5
  have B1 : Below w.heap.size w (w1.setCell ⟨w.heap.size + 1 + 1, 4, none⟩ (.slice (some ⟨W.heap.size, 0, none⟩) t.reads.length t.reads.length)) := (bW.trans (b1.mono bW.size)).setCell (p := ⟨w.heap.size + 1 + 1, 4, none⟩) (by dsimp only; omega) _
  have c2 := toSetS_anyR (w1.setCell ⟨w.heap.size + 1 + 1, 4, none⟩ (.slice (some ⟨W.heap.size, 0, none⟩) t.reads.length t.reads.length)) ah t.sets.length ch t.sets hl ((hs.later B1))
  have H1 : Hid (BT (w1.setCell ⟨w.heap.size + 1 + 1, 4, none⟩ (.slice (some ⟨W.heap.size, 0, none⟩) t.reads.length t.reads.length)) w.heap.size ⟨ar, cr, ah, ch⟩ t ∧ BT (w1.setCell ⟨w.heap.size + 1 + 1, 4, none⟩ (.slice (some ⟨W.heap.size, 0, none⟩) t.reads.length t.reads.length)) (w.heap.size + 1) ⟨none, 0, none, 0⟩ ⟨0, 0, 0, 0, [], [], 0⟩ ∧ BT (w1.setCell ⟨w.heap.size + 1 + 1, 4, none⟩ (.slice (some ⟨W.heap.size, 0, none⟩) t.reads.length t.reads.length)) (w.heap.size + 1 + 1) ⟨some ⟨W.heap.size, 0, none⟩, t.reads.length, none, 0⟩ ⟨t.id, t.home, t.phase, t.count, t.reads, [], 0⟩ ∧ W.heap.size = w.heap.size + 3 ∧ Below w.heap.size w (w1.setCell ⟨w.heap.size + 1 + 1, 4, none⟩ (.slice (some ⟨W.heap.size, 0, none⟩) t.reads.length t.reads.length)) ∧ NotesAt (w1.setCell ⟨w.heap.size + 1 + 1, 4, none⟩ (.slice (some ⟨W.heap.size, 0, none⟩) t.reads.length t.reads.length)) W.heap.size 0 t.reads ∧ Room (w1.setCell ⟨w.heap.size + 1 + 1, 4, none⟩ (.slice (some ⟨W.heap.size, 0, none⟩) t.reads.length t.reads.length)) W.heap.size (t.reads.length * 5) ∧ W.heap.size < (w1.setCell ⟨w.heap.size + 1 + 1, 4, none⟩ (.slice (some ⟨W.heap.size, 0, none⟩) t.reads.length t.reads.length)).heap.size) :=
    ⟨yA1.far (by dsimp only; omega) _, yR1.far (by dsimp only; omega) _, yO1.set4 _ _ t.reads, sW, B1, n1.far (by dsimp only; omega) _, r1.of_block (Below.heap_setCell _ _ _ _ (by dsimp only; omega)), by simpa [World.setCell] using l1⟩
  clear yA yR yO sW bW hs hl yA1 yR1 yO1 B1 b1 l1 n1 r1 H
  go_wp2_with fail
  generalize (w1.setCell ⟨w.heap.size + 1 + 1, 4, none⟩ (.slice (some ⟨W.heap.size, 0, none⟩) t.reads.length t.reads.length)) = V1 at *
  refine c2.mono ?_
  clear c2 c4 f4 a5
  rintro e w2 ⟨rfl, b2, l2, n2, r2⟩
  obtain ⟨yA, yR, yO, sW, bW, q1, q2, q3⟩ := H1.out
  have yA2 := yA.later b2
  have yR2 := yR.later b2
  have yO2 := yO.later b2
  have yO3 := yO2.set5 (some ⟨V1.heap.size, 0, none⟩) t.sets.length t.sets
  have yA3 := yA2.far (p := ⟨w.heap.size + 1 + 1, 5, none⟩) (by dsimp only; omega) (.slice (some ⟨V1.heap.size, 0, none⟩) t.sets.length t.sets.length)
  have yR3 := yR2.far (p := ⟨w.heap.size + 1 + 1, 5, none⟩) (by dsimp only; omega) (.slice (some ⟨V1.heap.size, 0, none⟩) t.sets.length t.sets.length)
  have yO4 := yO3.set6 t.stamp
  have yR4 := yR3.far (p := ⟨w.heap.size + 1 + 1, 6, none⟩) (by dsimp only; omega) (.int .i64 t.stamp)
  have yR5 := yR4.put ⟨some ⟨W.heap.size, 0, none⟩, t.reads.length, some ⟨V1.heap.size, 0, none⟩, t.sets.length⟩ t
  have k5 := yO2.c5
  have k5f := yO2.fz 5
  have k6 := yO3.c6
  have k6f := yO3.fz 6
  have a6 := yA3.c6
  obtain ⟨o0, o1, o2, o3, o4, o5, o6, _, _⟩ := yO4
  obtain ⟨r0, r1, r2', r3, r4, r5, r6, fr, _⟩ := yR4
  have f0 := fr 0
  have f1 := fr 1
  have f2 := fr 2
  have f3 := fr 3
  have f4 := fr 4
  have f5 := fr 5
  have f6 := fr 6
  simp only [putT] at yR5
  obtain ⟨u0, u1, u2, u3, u4, u5, u6, _, _⟩ := yR5
  have KH : Hid (W.heap.size = w.heap.size + 3 ∧ Below w.heap.size w w2 ∧ NotesAt w2 W.heap.size 0 t.reads ∧ Room w2 W.heap.size (t.reads.length * 5) ∧ W.heap.size < V1.heap.size ∧ V1.heap.size < w2.heap.size ∧ SetsAt w2 V1.heap.size 0 t.sets ∧ Room w2 V1.heap.size (t.sets.length * 5)) := ⟨sW, bW.trans (b2.mono bW.size), q1.below b2 q3, q2.below b2 q3, q3, l2, n2, r2⟩
  clear yA yR yO sW bW q1 q2 q3 yA2 yR2 yO2 yO3 yA3 yR3 b2 l2 n2 r2 fr H1
  go_wp2
  refine bodyPost_ret (v := .agg #[.int .i64 t.id, .int .i64 t.home, .int .i64 t.phase, .int .i64 t.count, .slice (some ⟨W.heap.size, 0, none⟩) t.reads.length t.reads.length, .slice (some ⟨V1.heap.size, 0, none⟩) t.sets.length t.sets.length, .int .i64 t.stamp]) (by simp [results, Try.results27, go_sem, u0, u1, u2, u3, u4, u5, u6]) rfl ?_
  obtain ⟨sW, bW, q1, q2, q3, q4, q5, q6⟩ := KH.out
  refine ⟨some ⟨W.heap.size, 0, none⟩, t.reads.length, some ⟨V1.heap.size, 0, none⟩, t.sets.length, fun q => q = W.heap.size, fun q => q = V1.heap.size, rfl, ?_, ?_⟩
  · have ot : OT w2 w.heap.size ⟨some ⟨W.heap.size, 0, none⟩, t.reads.length, some ⟨V1.heap.size, 0, none⟩, t.sets.length⟩ t (fun q => q = W.heap.size) (fun q => q = V1.heap.size) :=
      ⟨.inr ⟨_, rfl, rfl, by omega, q1, q2⟩, .inr ⟨_, rfl, rfl, q4, q5, q6⟩, fun q hq hp => by omega, fun q hq => by omega, fun q hq => by omega⟩
    have ot2 := (ot.keep (w' := (w2.setCell ⟨w.heap.size + 1 + 1, 5, none⟩ (.slice (some ⟨V1.heap.size, 0, none⟩) t.sets.length t.sets.length)).setCell ⟨w.heap.size + 1 + 1, 6, none⟩ (.int .i64 t.stamp)) (by simp [World.setCell]) (fun q _ hq => (Below.heap_setCell _ _ _ _ (by show q ≠ w.heap.size + 1 + 1; rcases hq with h | h <;> omega)).trans (Below.heap_setCell _ _ _ _ (by show q ≠ w.heap.size + 1 + 1; rcases hq with h | h <;> omega))))
    exact ot2.keep (by simp [World.setCell]) (fun q _ hq => putT_block (s := w.heap.size + 1) (v := ⟨some ⟨W.heap.size, 0, none⟩, t.reads.length, some ⟨V1.heap.size, 0, none⟩, t.sets.length⟩) (t := t) (by rcases hq with h | h <;> omega))
  · exact putT_below (s := w.heap.size + 1) (v := ⟨some ⟨W.heap.size, 0, none⟩, t.reads.length, some ⟨V1.heap.size, 0, none⟩, t.sets.length⟩) (t := t) ((bW.setCell (p := ⟨w.heap.size + 1 + 1, 5, none⟩) (by dsimp only; omega) _).setCell (p := ⟨w.heap.size + 1 + 1, 6, none⟩) (by dsimp only; omega) _) (by omega)
end Go.Proofs.Ytcfpancfdjgohaa
