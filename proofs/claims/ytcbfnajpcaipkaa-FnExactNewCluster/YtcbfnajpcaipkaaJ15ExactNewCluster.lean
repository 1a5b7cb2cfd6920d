/- YTxM; YTxE0; YTxSl; KdT: joined. -/
import Derived.Test.YtcbfnajpcaipkaaRows
import Derived.Test.YtcbfnajpcaipkaaJ14ExactNewCluster
import Derived.WalkKit
import Derived.WalkSpells
import Derived.WalkLawsBesides
import Derived.Below
import Derived.Test.YtcbfnajpcaipkaaJ10ExactNewCluster
import Derived.Test.YtcbfnajpcaipkaaJ7ExactNewCluster
namespace Go.Proofs.Ytcbfnajpcaipkaa.tx
open Go.RowKit
def CpAns (w : World) (t : T7) (e : Ending) (w' : World) : Prop := ∃ (a4 : Option Addr) (c4 : Nat) (h4 : Option Addr) (d4 : Nat) (PR PS : Nat → Prop), e = .returned ((TV.mk a4 c4 h4 d4).val t) ∧ OT w' w.heap.size ⟨a4, c4, h4, d4⟩ t PR PS ∧ Below w.heap.size w w' ∧ t.reads.length ≤ c4 ∧ t.sets.length ≤ d4
set_option maxHeartbeats 2000000 in
theorem toTx_anyC (w : World) (v : TV) (t : T7) (hr : t.reads.length ≤ 1048576) (hss : t.sets.length ≤ 1048576) (h : SlT w v t) :
    Calls Try.prog 29 #[v.val t] w (CpAns w t) := by
  obtain ⟨ar, cr, ah, ch⟩ := v
  simp only [TV.val]
  obtain ⟨W, hW⟩ : ∃ W, W = ((w.alloc (.cells #[.int .i64 t.id, .int .i64 t.home, .int .i64 t.phase, .int .i64 t.count, .slice ar t.reads.length cr, .slice ah t.sets.length ch, .int .i64 t.stamp] 52)).alloc (.cells #[.int .i64 0, .int .i64 0, .int .i64 0, .int .i64 0, .slice none 0 0, .slice none 0 0, .int .i64 0] 44)).alloc (.cells #[.int .i64 t.id, .int .i64 t.home, .int .i64 t.phase, .int .i64 t.count, .slice none 0 0, .slice none 0 0, .int .i64 0] 44) := ⟨_, rfl⟩
  obtain ⟨W1, hW1⟩ : ∃ W1, W1 = (w.alloc (.cells #[.int .i64 t.id, .int .i64 t.home, .int .i64 t.phase, .int .i64 t.count, .slice ar t.reads.length cr, .slice ah t.sets.length ch, .int .i64 t.stamp] 52)) := ⟨_, rfl⟩
  have z1 : W1.heap.size = w.heap.size + 1 := by rw [hW1]; simp
  have x1 : BT W1 w.heap.size ⟨ar, cr, ah, ch⟩ t := by rw [hW1]; exact BT.box w ⟨ar, cr, ah, ch⟩ t _
  have b1 : Below w.heap.size w W1 := by rw [hW1]; exact (Below.refl _ _).alloc (Nat.le_refl _) _
  obtain ⟨W2, hW2⟩ : ∃ W2, W2 = W1.alloc (.cells #[.int .i64 0, .int .i64 0, .int .i64 0, .int .i64 0, .slice none 0 0, .slice none 0 0, .int .i64 0] 44) := ⟨_, rfl⟩
  have b2 : Below W1.heap.size W1 W2 := by rw [hW2]; exact (Below.refl _ _).alloc (Nat.le_refl _) _
  have x2 : BT W2 (w.heap.size + 1) ⟨none, 0, none, 0⟩ ⟨0, 0, 0, 0, [], [], 0⟩ := by rw [hW2, ← z1]; exact BT.zero W1 _
  have z2 : W2.heap.size = w.heap.size + 1 + 1 := by rw [hW2]; simp [z1]
  have hW' : W = W2.alloc (.cells #[.int .i64 t.id, .int .i64 t.home, .int .i64 t.phase, .int .i64 t.count, .slice none 0 0, .slice none 0 0, .int .i64 0] 44) := by rw [hW, hW2, hW1]
  have b3 : Below W2.heap.size W2 W := by rw [hW']; exact (Below.refl _ _).alloc (Nat.le_refl _) _
  have yO : BT W (w.heap.size + 1 + 1) ⟨none, 0, none, 0⟩ ⟨t.id, t.home, t.phase, t.count, [], [], 0⟩ := by rw [hW', ← z2]; exact BT.box W2 ⟨none, 0, none, 0⟩ ⟨t.id, t.home, t.phase, t.count, [], [], 0⟩ _
  have sW : W.heap.size = w.heap.size + 3 := by rw [hW']; simp [z2]
  have yA : BT W w.heap.size ⟨ar, cr, ah, ch⟩ t := (x1.later b2).later b3
  have yR : BT W (w.heap.size + 1) ⟨none, 0, none, 0⟩ ⟨0, 0, 0, 0, [], [], 0⟩ := x2.later b3
  have bW : Below w.heap.size w W := (b1.trans (b2.mono b1.size)).trans (b3.mono (by omega))
  have c1 := toNoteS_anyR W ar t.reads.length cr t.reads hr (h.r.later bW)
  have H : Hid (BT W w.heap.size ⟨ar, cr, ah, ch⟩ t ∧ BT W (w.heap.size + 1) ⟨none, 0, none, 0⟩ ⟨0, 0, 0, 0, [], [], 0⟩ ∧ BT W (w.heap.size + 1 + 1) ⟨none, 0, none, 0⟩ ⟨t.id, t.home, t.phase, t.count, [], [], 0⟩ ∧ W.heap.size = w.heap.size + 3 ∧ Below w.heap.size w W ∧ Sl w w.heap.size ah t.sets.length t.sets ∧ t.sets.length ≤ 1048576) := ⟨yA, yR, yO, sW, bW, h.s, hss⟩
  clear hW' x1 x2 z1 z2 b1 b2 b3 yA yR yO sW bW h hss hr hW2 hW1
  go_enter Try.func29, Try.ntmps29
  go_wp2_with fail
  rw [← hW]
  clear hW
  refine c1.mono ?_
  clear c1
  rintro e w1 ⟨rfl, b1, l1, n1, r1⟩
  obtain ⟨yA, yR, yO, sW, bW, hs, hl⟩ := H.out
  have yA1 := yA.later b1
  have yR1 := yR.later b1
  have yO1 := yO.later b1
  have c4 := yO1.c4
  have f4 := yO1.fz 4
  have a5 := (yA1.far (p := ⟨w.heap.size + 1 + 1, 4, none⟩) (by dsimp only; omega) (.slice (some ⟨W.heap.size, 0, none⟩) t.reads.length t.reads.length)).c5
  have B1 : Below w.heap.size w (w1.setCell ⟨w.heap.size + 1 + 1, 4, none⟩ (.slice (some ⟨W.heap.size, 0, none⟩) t.reads.length t.reads.length)) := (bW.trans (b1.mono bW.size)).setCell (p := ⟨w.heap.size + 1 + 1, 4, none⟩) (by dsimp only; omega) _
  have c2 := toSetS_anyR (w1.setCell ⟨w.heap.size + 1 + 1, 4, none⟩ (.slice (some ⟨W.heap.size, 0, none⟩) t.reads.length t.reads.length)) ah t.sets.length ch t.sets hl ((hs.later B1))
  have H1 : Hid (BT (w1.setCell ⟨w.heap.size + 1 + 1, 4, none⟩ (.slice (some ⟨W.heap.size, 0, none⟩) t.reads.length t.reads.length)) w.heap.size ⟨ar, cr, ah, ch⟩ t ∧ BT (w1.setCell ⟨w.heap.size + 1 + 1, 4, none⟩ (.slice (some ⟨W.heap.size, 0, none⟩) t.reads.length t.reads.length)) (w.heap.size + 1) ⟨none, 0, none, 0⟩ ⟨0, 0, 0, 0, [], [], 0⟩ ∧ BT (w1.setCell ⟨w.heap.size + 1 + 1, 4, none⟩ (.slice (some ⟨W.heap.size, 0, none⟩) t.reads.length t.reads.length)) (w.heap.size + 1 + 1) ⟨some ⟨W.heap.size, 0, none⟩, t.reads.length, none, 0⟩ ⟨t.id, t.home, t.phase, t.count, t.reads, [], 0⟩ ∧ W.heap.size = w.heap.size + 3 ∧ Below w.heap.size w (w1.setCell ⟨w.heap.size + 1 + 1, 4, none⟩ (.slice (some ⟨W.heap.size, 0, none⟩) t.reads.length t.reads.length)) ∧ NotesAt (w1.setCell ⟨w.heap.size + 1 + 1, 4, none⟩ (.slice (some ⟨W.heap.size, 0, none⟩) t.reads.length t.reads.length)) W.heap.size 0 t.reads ∧ Room (w1.setCell ⟨w.heap.size + 1 + 1, 4, none⟩ (.slice (some ⟨W.heap.size, 0, none⟩) t.reads.length t.reads.length)) W.heap.size (t.reads.length * 5) ∧ W.heap.size < (w1.setCell ⟨w.heap.size + 1 + 1, 4, none⟩ (.slice (some ⟨W.heap.size, 0, none⟩) t.reads.length t.reads.length)).heap.size) :=
    ⟨yA1.far (by dsimp only; omega) _, yR1.far (by dsimp only; omega) _, yO1.set4 _ _ t.reads, sW, B1, n1.far (by dsimp only; omega) _, r1.of_block (Below.heap_setCell _ _ _ _ (by dsimp only; omega)), by simpa [World.setCell] using l1⟩
  clear yA yR yO sW bW hs hl yA1 yR1 yO1 B1 b1 l1 n1 r1 H
  go_wp2_with fail
  generalize (w1.setCell ⟨w.heap.size + 1 + 1, 4, none⟩ (.slice (some ⟨W.heap.size, 0, none⟩) t.reads.length t.reads.length)) = V1 at *
  refine c2.mono ?_
  clear c2 c4 f4 a5
  rintro e w2 ⟨rfl, b2, l2, n2, r2⟩
  obtain ⟨yA, yR, yO, sW, bW, q1, q2, q3⟩ := H1.out
  have yA2 := yA.later b2
  have yR2 := yR.later b2
  have yO2 := yO.later b2
  have yO3 := yO2.set5 (some ⟨V1.heap.size, 0, none⟩) t.sets.length t.sets
  have yA3 := yA2.far (p := ⟨w.heap.size + 1 + 1, 5, none⟩) (by dsimp only; omega) (.slice (some ⟨V1.heap.size, 0, none⟩) t.sets.length t.sets.length)
  have yR3 := yR2.far (p := ⟨w.heap.size + 1 + 1, 5, none⟩) (by dsimp only; omega) (.slice (some ⟨V1.heap.size, 0, none⟩) t.sets.length t.sets.length)
  have yO4 := yO3.set6 t.stamp
  have yR4 := yR3.far (p := ⟨w.heap.size + 1 + 1, 6, none⟩) (by dsimp only; omega) (.int .i64 t.stamp)
  have yR5 := yR4.put ⟨some ⟨W.heap.size, 0, none⟩, t.reads.length, some ⟨V1.heap.size, 0, none⟩, t.sets.length⟩ t
  have k5 := yO2.c5
  have k5f := yO2.fz 5
  have k6 := yO3.c6
  have k6f := yO3.fz 6
  have a6 := yA3.c6
  obtain ⟨o0, o1, o2, o3, o4, o5, o6, _, _⟩ := yO4
  obtain ⟨r0, r1, r2', r3, r4, r5, r6, fr, _⟩ := yR4
  have f0 := fr 0
  have f1 := fr 1
  have f2 := fr 2
  have f3 := fr 3
  have f4 := fr 4
  have f5 := fr 5
  have f6 := fr 6
  simp only [putT] at yR5
  obtain ⟨u0, u1, u2, u3, u4, u5, u6, _, _⟩ := yR5
  have KH : Hid (W.heap.size = w.heap.size + 3 ∧ Below w.heap.size w w2 ∧ NotesAt w2 W.heap.size 0 t.reads ∧ Room w2 W.heap.size (t.reads.length * 5) ∧ W.heap.size < V1.heap.size ∧ V1.heap.size < w2.heap.size ∧ SetsAt w2 V1.heap.size 0 t.sets ∧ Room w2 V1.heap.size (t.sets.length * 5)) := ⟨sW, bW.trans (b2.mono bW.size), q1.below b2 q3, q2.below b2 q3, q3, l2, n2, r2⟩
  clear yA yR yO sW bW q1 q2 q3 yA2 yR2 yO2 yO3 yA3 yR3 b2 l2 n2 r2 fr H1
  go_wp2
  refine bodyPost_ret (v := .agg #[.int .i64 t.id, .int .i64 t.home, .int .i64 t.phase, .int .i64 t.count, .slice (some ⟨W.heap.size, 0, none⟩) t.reads.length t.reads.length, .slice (some ⟨V1.heap.size, 0, none⟩) t.sets.length t.sets.length, .int .i64 t.stamp]) (by simp [results, Try.results29, go_sem, u0, u1, u2, u3, u4, u5, u6]) rfl ?_
  obtain ⟨sW, bW, q1, q2, q3, q4, q5, q6⟩ := KH.out
  refine ⟨some ⟨W.heap.size, 0, none⟩, t.reads.length, some ⟨V1.heap.size, 0, none⟩, t.sets.length, fun q => q = W.heap.size, fun q => q = V1.heap.size, rfl, ?_, ?_, Nat.le_refl _, Nat.le_refl _⟩
  · have ot : OT w2 w.heap.size ⟨some ⟨W.heap.size, 0, none⟩, t.reads.length, some ⟨V1.heap.size, 0, none⟩, t.sets.length⟩ t (fun q => q = W.heap.size) (fun q => q = V1.heap.size) :=
      ⟨.inr ⟨_, rfl, rfl, by omega, q1, q2⟩, .inr ⟨_, rfl, rfl, q4, q5, q6⟩, fun q hq hp => by omega, fun q hq => by omega, fun q hq => by omega⟩
    have ot2 := (ot.keep (w' := (w2.setCell ⟨w.heap.size + 1 + 1, 5, none⟩ (.slice (some ⟨V1.heap.size, 0, none⟩) t.sets.length t.sets.length)).setCell ⟨w.heap.size + 1 + 1, 6, none⟩ (.int .i64 t.stamp)) (by simp [World.setCell]) (fun q _ hq => (Below.heap_setCell _ _ _ _ (by show q ≠ w.heap.size + 1 + 1; rcases hq with h | h <;> omega)).trans (Below.heap_setCell _ _ _ _ (by show q ≠ w.heap.size + 1 + 1; rcases hq with h | h <;> omega))))
    exact ot2.keep (by simp [World.setCell]) (fun q _ hq => putT_block (s := w.heap.size + 1) (v := ⟨some ⟨W.heap.size, 0, none⟩, t.reads.length, some ⟨V1.heap.size, 0, none⟩, t.sets.length⟩) (t := t) (by rcases hq with h | h <;> omega))
  · exact putT_below (s := w.heap.size + 1) (v := ⟨some ⟨W.heap.size, 0, none⟩, t.reads.length, some ⟨V1.heap.size, 0, none⟩, t.sets.length⟩) (t := t) ((bW.setCell (p := ⟨w.heap.size + 1 + 1, 5, none⟩) (by dsimp only; omega) _).setCell (p := ⟨w.heap.size + 1 + 1, 6, none⟩) (by dsimp only; omega) _) (by omega)
set_option maxHeartbeats 2000000 in
theorem eqTx_same (w : World) (v v' : TV) (t : T7) (hl : TL t) (h1 : SlT w v t) (h2 : SlT w v' t) : Calls Try.prog 24 #[v.val t, v'.val t] w fun e w' => e = .returned (.bool true) ∧ Below w.heap.size w w' := by
  obtain ⟨ar, cr, ah, ch⟩ := v
  obtain ⟨ar', cr', ah', ch'⟩ := v'
  simp only [TV.val]
  obtain ⟨U, hU⟩ : ∃ U, U = ((w.alloc (.cells #[.int .i64 t.id, .int .i64 t.home, .int .i64 t.phase, .int .i64 t.count, .slice ar t.reads.length cr, .slice ah t.sets.length ch, .int .i64 t.stamp] 44)).alloc (.cells #[.int .i64 t.id, .int .i64 t.home, .int .i64 t.phase, .int .i64 t.count, .slice ar' t.reads.length cr', .slice ah' t.sets.length ch', .int .i64 t.stamp] 44)) := ⟨_, rfl⟩
  have z1 : (w.alloc (.cells #[.int .i64 t.id, .int .i64 t.home, .int .i64 t.phase, .int .i64 t.count, .slice ar t.reads.length cr, .slice ah t.sets.length ch, .int .i64 t.stamp] 44)).heap.size = w.heap.size + 1 := by simp
  have xB : BT U (w.heap.size + 1) ⟨ar', cr', ah', ch'⟩ t := by rw [hU, ← z1]; exact BT.box _ ⟨ar', cr', ah', ch'⟩ t _
  have xA : BT U w.heap.size ⟨ar, cr, ah, ch⟩ t := by rw [hU]; exact (BT.box w ⟨ar, cr, ah, ch⟩ t _).later ((Below.refl _ _).alloc (Nat.le_refl _) _)
  have b0 : Below w.heap.size w U := by rw [hU]; exact ((Below.refl _ _).alloc (Nat.le_refl _) _).alloc (by simp) _
  have c1 := eqNoteS_any U ar ar' t.reads.length cr cr' t.reads hl.r (h1.later b0).r (h2.later b0).r
  have H : Hid (BT U w.heap.size ⟨ar, cr, ah, ch⟩ t ∧ BT U (w.heap.size + 1) ⟨ar', cr', ah', ch'⟩ t ∧ Below w.heap.size w U ∧ SlT w ⟨ar, cr, ah, ch⟩ t ∧ SlT w ⟨ar', cr', ah', ch'⟩ t ∧ TL t) := ⟨xA, xB, b0, h1, h2, hl⟩
  have q0 : (t.id != t.id) = false := by simp
  have q1 : (t.home != t.home) = false := by simp
  have q2 : (t.phase != t.phase) = false := by simp
  have q3 : (t.count != t.count) = false := by simp
  have q6 : (t.stamp != t.stamp) = false := by simp
  clear z1 xA xB b0 h1 h2 hl
  go_enter Try.func24, Try.ntmps24
  go_wp2_with fail
  rw [← hU]
  clear hU
  refine c1.mono ?_
  clear c1 q0 q1 q2 q3
  rintro e w1 ⟨rfl, b1⟩
  obtain ⟨xA, xB, b0, h1, h2, hl⟩ := H.out
  have bw : Below w.heap.size w w1 := b0.trans (b1.mono b0.size)
  have a5 := (xA.later b1).c5
  have e5 := (xB.later b1).c5
  have c2 := eqSetS_any w1 ah ah' t.sets.length ch ch' t.sets hl.s (h1.later bw).s (h2.later bw).s
  have H1 : Hid (BT w1 w.heap.size ⟨ar, cr, ah, ch⟩ t ∧ BT w1 (w.heap.size + 1) ⟨ar', cr', ah', ch'⟩ t ∧ Below w.heap.size w w1) := ⟨xA.later b1, xB.later b1, bw⟩
  clear xA xB b0 h1 h2 hl b1 bw H
  go_wp2_with fail
  refine c2.mono ?_
  clear c2 a5 e5
  rintro e w2 ⟨rfl, b2⟩
  have a6 := (H1.out.1.later b2).c6
  have e6 := (H1.out.2.1.later b2).c6
  have KE : Hid (Below w.heap.size w w2) := H1.out.2.2.trans (b2.mono H1.out.2.2.size)
  clear b2 H1
  go_wp2
  go_ret
  exact ⟨rfl, KE.out⟩
def mkT (t : T7) (k : Int) : T7 := ⟨t.id, t.home, t.phase, t.count, mkNotes k t.reads.length, mkSets (k + 5 * (t.reads.length : Int)) t.sets.length, t.stamp⟩
def endT (t : T7) (k : Int) : Int := k + 5 * (t.reads.length : Int) + 5 * (t.sets.length : Int)
theorem markNo (w : World) (P : Nat → Prop) (a : Option Addr) (cap : Nat) (xs : List N5) (k : Int) (hk : 0 ≤ k) (hk' : k ≤ 1000000000) (hn : xs.length ≤ 1048576) (h : OwnNo w P a xs) :
    Calls Try.prog 57 #[.slice a xs.length cap, .int .i64 k] w fun e w' => e = .returned (.int .i64 (k + 5 * (xs.length : Int))) ∧ KeptP P w w' ∧ OwnNo w' P a (mkNotes k xs.length) := by
  rcases h with rfl | ⟨b, rfl, hp, hb, hx, hr⟩
  · refine (markNoteS_nil w a cap k).mono ?_
    rintro e w' ⟨rfl, rfl⟩
    exact ⟨by simp, KeptP.refl _ _, .inl rfl⟩
  · refine (markNoteS_k w b xs.length cap k hn hk hk' hr).mono ?_
    rintro e w' ⟨rfl, ho, hx', hr'⟩
    exact ⟨rfl, KeptP.of_only ho hp, .inr ⟨b, rfl, hp, by rw [ho.size]; exact hb, hx', by rw [mkNotes_len]; exact hr'⟩⟩
theorem markSe (w : World) (P : Nat → Prop) (a : Option Addr) (cap : Nat) (xs : List S5) (k : Int) (hk : 0 ≤ k) (hk' : k ≤ 1000000000) (hn : xs.length ≤ 1048576) (h : OwnSe w P a xs) :
    Calls Try.prog 58 #[.slice a xs.length cap, .int .i64 k] w fun e w' => e = .returned (.int .i64 (k + 5 * (xs.length : Int))) ∧ KeptP P w w' ∧ OwnSe w' P a (mkSets k xs.length) := by
  rcases h with rfl | ⟨b, rfl, hp, hb, hx, hr⟩
  · refine (markSetS_nil w a cap k).mono ?_
    rintro e w' ⟨rfl, rfl⟩
    exact ⟨by simp, KeptP.refl _ _, .inl rfl⟩
  · refine (markSetS_k w b xs.length cap k hn hk hk' hr).mono ?_
    rintro e w' ⟨rfl, ho, hx', hr'⟩
    exact ⟨rfl, KeptP.of_only ho hp, .inr ⟨b, rfl, hp, by rw [ho.size]; exact hb, hx', by rw [mkSets_len]; exact hr'⟩⟩
end Go.Proofs.Ytcbfnajpcaipkaa.tx
namespace Go.Proofs.Ytcbfnajpcaipkaa
open Go.RowKit
def KT.Ow (w : World) (B : Nat) (a : Option Addr) (b : Nat) (c : Option Addr) (d : Nat) (t : tx.T7) (P : Nat → Prop) : Prop := ∃ PR PS, tx.OT w B ⟨a, b, c, d⟩ t PR PS ∧ (∀ q, tx.OfT PR PS q → P q) ∧ (∀ q, P q → B ≤ q ∧ q < w.heap.size)
theorem KT.Ow.of {w : World} {B : Nat} {a : Option Addr} {b : Nat} {c : Option Addr} {d : Nat} {t : tx.T7} {P : Nat → Prop} (h : KT.Ow w B a b c d t P) {q : Nat} (hq : P q) : B ≤ q ∧ q < w.heap.size := by obtain ⟨_, _, _, _, h3⟩ := h; exact h3 q hq
theorem KT.Ow.sl {w : World} {B : Nat} {a : Option Addr} {b : Nat} {c : Option Addr} {d : Nat} {t : tx.T7} {P : Nat → Prop} (h : KT.Ow w B a b c d t P) : tx.SlT w ⟨a, b, c, d⟩ t := by obtain ⟨_, _, h1, _, _⟩ := h; exact h1.sl
theorem KT.Ow.keep {w : World} {B : Nat} {a : Option Addr} {b : Nat} {c : Option Addr} {d : Nat} {t : tx.T7} {P : Nat → Prop} {w' : World} (h : KT.Ow w B a b c d t P) (hs : w.heap.size ≤ w'.heap.size) (hk : ∀ q, P q → w'.heap[q]? = w.heap[q]?) : KT.Ow w' B a b c d t P := by
  obtain ⟨PR, PS, h1, h2, h3⟩ := h
  exact ⟨PR, PS, h1.keep hs (fun q _ hq => hk q (h2 q hq)), h2, fun q hq => ⟨(h3 q hq).1, Nat.lt_of_lt_of_le (h3 q hq).2 hs⟩⟩
theorem KT.Ow.later {w : World} {B : Nat} {a : Option Addr} {b : Nat} {c : Option Addr} {d : Nat} {t : tx.T7} {P : Nat → Prop} {w' : World} (h : KT.Ow w B a b c d t P) (hb : Below w.heap.size w w') : KT.Ow w' B a b c d t P := h.keep hb.size (fun q hq => hb.block q (h.of hq).2)
theorem KT.Ow.low {w : World} {B : Nat} {a : Option Addr} {b : Nat} {c : Option Addr} {d : Nat} {t : tx.T7} {P : Nat → Prop} {B' : Nat} (h : KT.Ow w B a b c d t P) (hb : B' ≤ B) : KT.Ow w B' a b c d t P := by
  obtain ⟨PR, PS, h1, h2, h3⟩ := h
  exact ⟨PR, PS, h1.mono hb, h2, fun q hq => ⟨Nat.le_trans hb (h3 q hq).1, (h3 q hq).2⟩⟩
theorem KT.ow {w : World} {B : Nat} {a : Option Addr} {b : Nat} {c : Option Addr} {d : Nat} {t : tx.T7} {PR PS : Nat → Prop} (h : tx.OT w B ⟨a, b, c, d⟩ t PR PS) : KT.Ow w B a b c d t (tx.OfT PR PS) := ⟨PR, PS, h, fun _ hq => hq, fun _ hq => h.of hq⟩
def KT.S (t : tx.T7) : Prop := t.reads.length ≤ 1048576 ∧ t.sets.length ≤ 1048576
theorem KT.to (X : World) (a : Option Addr) (b : Nat) (c : Option Addr) (d : Nat) (t : tx.T7) (ht : KT.S t) (h : tx.SlT X ⟨a, b, c, d⟩ t) : Calls Try.prog 29 #[.agg #[.int .i64 t.id, .int .i64 t.home, .int .i64 t.phase, .int .i64 t.count, .slice a t.reads.length b, .slice c t.sets.length d, .int .i64 t.stamp]] X fun e w' =>
    ∃ (a : Option Addr) (b : Nat) (c : Option Addr) (d : Nat) (P : Nat → Prop), e = .returned (.agg #[.int .i64 t.id, .int .i64 t.home, .int .i64 t.phase, .int .i64 t.count, .slice a t.reads.length b, .slice c t.sets.length d, .int .i64 t.stamp]) ∧ KT.Ow w' X.heap.size a b c d t P ∧ Below X.heap.size X w' := by
  have hh := tx.toTx_anyC X ⟨a, b, c, d⟩ t ht.1 ht.2 h
  simp only [tx.TV.val] at hh
  refine hh.mono ?_
  rintro e w' ⟨a, b, c, d, PR, PS, rfl, o, bl, _, _⟩
  exact ⟨a, b, c, d, _, rfl, KT.ow o, bl⟩
theorem KT.S.tl {t : tx.T7} (h : KT.S t) : tx.TL t := ⟨by have := h.1; unfold maxLen; omega, by have := h.2; unfold maxLen; omega⟩
theorem KT.eq (X : World) (a : Option Addr) (b : Nat) (c : Option Addr) (d : Nat) (a' : Option Addr) (b' : Nat) (c' : Option Addr) (d' : Nat) (t : tx.T7) (ht : KT.S t) (h1 : tx.SlT X ⟨a, b, c, d⟩ t) (h2 : tx.SlT X ⟨a', b', c', d'⟩ t) : Calls Try.prog 24 #[.agg #[.int .i64 t.id, .int .i64 t.home, .int .i64 t.phase, .int .i64 t.count, .slice a t.reads.length b, .slice c t.sets.length d, .int .i64 t.stamp], .agg #[.int .i64 t.id, .int .i64 t.home, .int .i64 t.phase, .int .i64 t.count, .slice a' t.reads.length b', .slice c' t.sets.length d', .int .i64 t.stamp]] X fun e w' => e = .returned (.bool true) ∧ Below X.heap.size X w' := by
  have hh := tx.eqTx_same X ⟨a, b, c, d⟩ ⟨a', b', c', d'⟩ t ht.tl h1 h2
  simp only [tx.TV.val] at hh
  exact hh
def KTk : Kd tx.T7 tx.TV where
  n := 7
  cells v t := [.int .i64 t.id, .int .i64 t.home, .int .i64 t.phase, .int .i64 t.count, .slice v.ar t.reads.length v.cr, .slice v.ah t.sets.length v.ch, .int .i64 t.stamp]
  len := fun _ _ => rfl
  Rd := tx.SlT
  Ow w B v t P := KT.Ow w B v.ar v.cr v.ah v.ch t P
  later := fun h b => h.later b
  sl := fun h => h.sl
  of := fun h hq => h.of hq
  keep := fun h hs hk => h.keep hs hk
  low := fun h hb => h.low hb
end Go.Proofs.Ytcbfnajpcaipkaa