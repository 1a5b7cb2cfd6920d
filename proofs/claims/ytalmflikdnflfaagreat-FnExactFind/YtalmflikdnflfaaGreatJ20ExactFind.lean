/- YTxE; YTxSl; KdT: joined. -/
import Derived.Test.YtalmflikdnflfaaGreatRows
import Derived.Test.YtalmflikdnflfaaGreatJ18ExactFind
import Derived.WalkKit
import Derived.WalkSpells
import Derived.WalkLawsBesides
import Derived.Below
import Derived.Test.YtalmflikdnflfaaGreatYTxDJ
import Derived.Test.YtalmflikdnflfaaGreatJ1ExactFind
import Derived.Test.YtalmflikdnflfaaGreatYTxMJ
import Derived.Test.YtalmflikdnflfaaGreatJ11ExactFind
/- The laws' comparison of transactions and their marks. -/
namespace Go.Proofs.YtalmflikdnflfaaGreat.tx
open Go.RowKit
set_option maxHeartbeats 2000000 in
theorem eqTx_same (w : World) (v v' : TV) (t : T7) (hl : TL t) (h1 : SlT w v t) (h2 : SlT w v' t) : Calls Tryz.prog 14 #[v.val t, v'.val t] w fun e w' => e = .returned (.bool true) ∧ Below w.heap.size w w' := by
  obtain ⟨ar, cr, ah, ch⟩ := v
  obtain ⟨ar', cr', ah', ch'⟩ := v'
  simp only [TV.val]
  obtain ⟨U, hU⟩ : ∃ U, U = ((w.alloc (.cells #[.int .i64 t.id, .int .i64 t.home, .int .i64 t.phase, .int .i64 t.count, .slice ar t.reads.length cr, .slice ah t.sets.length ch, .int .i64 t.stamp] 40)).alloc (.cells #[.int .i64 t.id, .int .i64 t.home, .int .i64 t.phase, .int .i64 t.count, .slice ar' t.reads.length cr', .slice ah' t.sets.length ch', .int .i64 t.stamp] 40)) := ⟨_, rfl⟩
  have z1 : (w.alloc (.cells #[.int .i64 t.id, .int .i64 t.home, .int .i64 t.phase, .int .i64 t.count, .slice ar t.reads.length cr, .slice ah t.sets.length ch, .int .i64 t.stamp] 40)).heap.size = w.heap.size + 1 := by simp
  have xB : BT U (w.heap.size + 1) ⟨ar', cr', ah', ch'⟩ t := by rw [hU, ← z1]; exact BT.box _ ⟨ar', cr', ah', ch'⟩ t _
  have xA : BT U w.heap.size ⟨ar, cr, ah, ch⟩ t := by rw [hU]; exact (BT.box w ⟨ar, cr, ah, ch⟩ t _).later ((Below.refl _ _).alloc (Nat.le_refl _) _)
  have b0 : Below w.heap.size w U := by rw [hU]; exact ((Below.refl _ _).alloc (Nat.le_refl _) _).alloc (by simp) _
  have c1 := eqNoteS_any U ar ar' t.reads.length cr cr' t.reads hl.r (h1.later b0).r (h2.later b0).r
  have H : Hid (BT U w.heap.size ⟨ar, cr, ah, ch⟩ t ∧ BT U (w.heap.size + 1) ⟨ar', cr', ah', ch'⟩ t ∧ Below w.heap.size w U ∧ SlT w ⟨ar, cr, ah, ch⟩ t ∧ SlT w ⟨ar', cr', ah', ch'⟩ t ∧ TL t) := ⟨xA, xB, b0, h1, h2, hl⟩
  have q0 : (t.id != t.id) = false := by simp
  have q1 : (t.home != t.home) = false := by simp
  have q2 : (t.phase != t.phase) = false := by simp
  have q3 : (t.count != t.count) = false := by simp
  have q6 : (t.stamp != t.stamp) = false := by simp
  clear z1 xA xB b0 h1 h2 hl
  go_enter Tryz.func14, Tryz.ntmps14
  go_wp2_with fail
  rw [← hU]
  clear hU
  refine c1.mono ?_
  clear c1 q0 q1 q2 q3
  rintro e w1 ⟨rfl, b1⟩
  obtain ⟨xA, xB, b0, h1, h2, hl⟩ := H.out
  have bw : Below w.heap.size w w1 := b0.trans (b1.mono b0.size)
  have a5 := (xA.later b1).c5
  have e5 := (xB.later b1).c5
  have c2 := eqSetS_any w1 ah ah' t.sets.length ch ch' t.sets hl.s (h1.later bw).s (h2.later bw).s
  have H1 : Hid (BT w1 w.heap.size ⟨ar, cr, ah, ch⟩ t ∧ BT w1 (w.heap.size + 1) ⟨ar', cr', ah', ch'⟩ t ∧ Below w.heap.size w w1) := ⟨xA.later b1, xB.later b1, bw⟩
  clear xA xB b0 h1 h2 hl b1 bw H
  go_wp2_with fail
  refine c2.mono ?_
  clear c2 a5 e5
  rintro e w2 ⟨rfl, b2⟩
  have a6 := (H1.out.1.later b2).c6
  have e6 := (H1.out.2.1.later b2).c6
  have KE : Hid (Below w.heap.size w w2) := H1.out.2.2.trans (b2.mono H1.out.2.2.size)
  clear b2 H1
  go_wp2
  go_ret
  exact ⟨rfl, KE.out⟩
/-- What the marks make of a transaction. -/
def mkT (t : T7) (k : Int) : T7 := ⟨t.id, t.home, t.phase, t.count, mkNotes k t.reads.length, mkSets (k + 5 * (t.reads.length : Int)) t.sets.length, t.stamp⟩
def endT (t : T7) (k : Int) : Int := k + 5 * (t.reads.length : Int) + 5 * (t.sets.length : Int)
theorem markNo (w : World) (P : Nat → Prop) (a : Option Addr) (cap : Nat) (xs : List N5) (k : Int) (hk : 0 ≤ k) (hk' : k ≤ 1000000000) (hn : xs.length ≤ 1048576) (h : OwnNo w P a xs) :
    Calls Tryz.prog 59 #[.slice a xs.length cap, .int .i64 k] w fun e w' => e = .returned (.int .i64 (k + 5 * (xs.length : Int))) ∧ KeptP P w w' ∧ OwnNo w' P a (mkNotes k xs.length) := by
  rcases h with rfl | ⟨b, rfl, hp, hb, hx, hr⟩
  · refine (markNoteS_nil w a cap k).mono ?_
    rintro e w' ⟨rfl, rfl⟩
    exact ⟨by simp, KeptP.refl _ _, .inl rfl⟩
  · refine (markNoteS_k w b xs.length cap k hn hk hk' hr).mono ?_
    rintro e w' ⟨rfl, ho, hx', hr'⟩
    exact ⟨rfl, KeptP.of_only ho hp, .inr ⟨b, rfl, hp, by rw [ho.size]; exact hb, hx', by rw [mkNotes_len]; exact hr'⟩⟩
theorem markSe (w : World) (P : Nat → Prop) (a : Option Addr) (cap : Nat) (xs : List S5) (k : Int) (hk : 0 ≤ k) (hk' : k ≤ 1000000000) (hn : xs.length ≤ 1048576) (h : OwnSe w P a xs) :
    Calls Tryz.prog 60 #[.slice a xs.length cap, .int .i64 k] w fun e w' => e = .returned (.int .i64 (k + 5 * (xs.length : Int))) ∧ KeptP P w w' ∧ OwnSe w' P a (mkSets k xs.length) := by
  rcases h with rfl | ⟨b, rfl, hp, hb, hx, hr⟩
  · refine (markSetS_nil w a cap k).mono ?_
    rintro e w' ⟨rfl, rfl⟩
    exact ⟨by simp, KeptP.refl _ _, .inl rfl⟩
  · refine (markSetS_k w b xs.length cap k hn hk hk' hr).mono ?_
    rintro e w' ⟨rfl, ho, hx', hr'⟩
    exact ⟨rfl, KeptP.of_only ho hp, .inr ⟨b, rfl, hp, by rw [ho.size]; exact hb, hx', by rw [mkSets_len]; exact hr'⟩⟩
set_option maxHeartbeats 2000000 in
theorem markTx_any (w : World) (B : Nat) (v : TV) (t : T7) (PR PS : Nat → Prop) (k : Int) (hk : 0 ≤ k) (hk' : k ≤ 100000000) (hr : t.reads.length ≤ 1048576) (hs : t.sets.length ≤ 1048576) (h : OT w B v t PR PS) :
    Calls Tryz.prog 16 #[v.val t, .int .i64 k] w fun e w' => e = .returned (.int .i64 (endT t k)) ∧ KeptP (OfT PR PS) w w' ∧ OT w' B v (mkT t k) PR PS := by
  obtain ⟨ar, cr, ah, ch⟩ := v
  simp only [TV.val]
  obtain ⟨W, hW⟩ : ∃ W, W = w.alloc (.cells #[.int .i64 t.id, .int .i64 t.home, .int .i64 t.phase, .int .i64 t.count, .slice ar t.reads.length cr, .slice ah t.sets.length ch, .int .i64 t.stamp] 40) := ⟨_, rfl⟩
  have b0 : Below w.heap.size w W := by rw [hW]; exact (Below.refl _ _).alloc (Nat.le_refl _) _
  have x0 : BT W w.heap.size ⟨ar, cr, ah, ch⟩ t := by rw [hW]; exact BT.box w ⟨ar, cr, ah, ch⟩ t _
  have h0 := h.later b0
  have c1 := markNo W PR ar cr t.reads k hk (by omega) hr h0.r
  have HX : Hid (endT t k = k + 5 * (t.reads.length : Int) + 5 * (t.sets.length : Int)) := rfl
  have H : Hid (OT w B ⟨ar, cr, ah, ch⟩ t PR PS ∧ OT W B ⟨ar, cr, ah, ch⟩ t PR PS ∧ BT W w.heap.size ⟨ar, cr, ah, ch⟩ t ∧ Below w.heap.size w W ∧ 0 ≤ k + 5 * (t.reads.length : Int) ∧ k + 5 * (t.reads.length : Int) ≤ 1000000000 ∧ t.sets.length ≤ 1048576) := ⟨h, h0, x0, b0, by omega, by omega, hs⟩
  clear b0 x0 h0 h hk hk' hr hs
  go_enter Tryz.func16, Tryz.ntmps16
  go_wp2_with fail
  rw [← hW]
  clear hW
  refine c1.mono ?_
  clear c1
  rintro e w1 ⟨rfl, k1, o1⟩
  obtain ⟨h, h0, x0, b0, g1, g2, g3⟩ := H.out
  have hw : ∀ q, PR q → q ≠ w.heap.size := fun q hq e => by have := (h.rB q hq).2; omega
  have a5 := (x0.of_block (k1.block _ x0.lt (fun e => hw _ e rfl)) k1.size).c5
  have s1 : OwnSe w1 PS ah t.sets := h0.s.keep k1.size (fun q hq hp => k1.block q hq (fun e => h.rs q e hp))
  have c2 := markSe w1 PS ah ch t.sets (k + 5 * (t.reads.length : Int)) g1 g2 g3 s1
  have H1 : Hid (KeptP (OfT PR PS) w w1 ∧ OwnNo w1 PR ar (mkNotes k t.reads.length)) := ⟨(KeptP.of_below b0).trans (k1.mono (fun q hq => .inl hq)), o1⟩
  clear h0 x0 b0 g1 g2 g3 hw s1 k1 o1
  have HE : Hid (OT w B ⟨ar, cr, ah, ch⟩ t PR PS) := h
  clear h H
  go_wp2_with fail
  refine c2.mono ?_
  clear c2 a5
  rintro e w2 ⟨rfl, k2, o2⟩
  have KE : Hid (KeptP (OfT PR PS) w w2 ∧ OT w2 B ⟨ar, cr, ah, ch⟩ (mkT t k) PR PS) := by
    have kk := H1.out.1.trans (k2.mono (fun q hq => .inr hq))
    exact ⟨kk, ⟨H1.out.2.keep k2.size (fun q hq hp => k2.block q hq (fun e => HE.out.rs q hp e)), o2, HE.out.rs, fun q hq => ⟨(HE.out.rB q hq).1, Nat.lt_of_lt_of_le (HE.out.rB q hq).2 kk.size⟩, fun q hq => ⟨(HE.out.sB q hq).1, Nat.lt_of_lt_of_le (HE.out.sB q hq).2 kk.size⟩⟩⟩
  clear k2 o2 HE H1
  go_wp2
  go_ret
  exact ⟨by rw [HX.out]; rfl, KE.out.1, KE.out.2⟩
set_option maxHeartbeats 2000000 in
theorem heldTx_any (w : World) (v : TV) (t : T7) (k : Int) (hk : 0 ≤ k) (hk' : k ≤ 100000000) (hr : t.reads.length ≤ 1048576) (hs : t.sets.length ≤ 1048576) (h : SlT w v (mkT t k)) :
    Calls Tryz.prog 17 #[v.val t, .int .i64 k] w fun e w' => e = .returned (.int .i64 (endT t k)) ∧ Below w.heap.size w w' := by
  obtain ⟨ar, cr, ah, ch⟩ := v
  simp only [TV.val]
  obtain ⟨W, hW⟩ : ∃ W, W = w.alloc (.cells #[.int .i64 t.id, .int .i64 t.home, .int .i64 t.phase, .int .i64 t.count, .slice ar t.reads.length cr, .slice ah t.sets.length ch, .int .i64 t.stamp] 40) := ⟨_, rfl⟩
  have b0 : Below w.heap.size w W := by rw [hW]; exact (Below.refl _ _).alloc (Nat.le_refl _) _
  have x0 : BT W w.heap.size ⟨ar, cr, ah, ch⟩ t := by rw [hW]; exact BT.box w ⟨ar, cr, ah, ch⟩ t _
  have h0 := h.later b0
  have hR := h0.r
  have hS := h0.s
  simp only [mkT, mkNotes_len, mkSets_len] at hR hS
  have c1 := heldNoteS_k W ar t.reads.length cr k hr hk (by omega) hR
  have c2 := heldSetS_k W ah t.sets.length ch (k + 5 * (t.reads.length : Int)) hs (by omega) (by omega) hS
  have a5 := x0.c5
  have HX : Hid (endT t k = k + 5 * (t.reads.length : Int) + 5 * (t.sets.length : Int)) := rfl
  have d1 : decide (k + 5 * (t.reads.length : Int) < 0) = false := by simp; omega
  have d2 : decide (k + 5 * (t.reads.length : Int) + 5 * (t.sets.length : Int) < 0) = false := by simp; omega
  have KE : Hid (Below w.heap.size w W) := b0
  clear b0 x0 h0 h hk hk' hr hs hR hS
  generalize k + 5 * (t.reads.length : Int) + 5 * (t.sets.length : Int) = k2 at *
  generalize k + 5 * (t.reads.length : Int) = k1 at *
  go_enter Tryz.func17, Tryz.ntmps17
  go_wp2_with fail
  rw [← hW]
  clear hW
  refine c1.mono ?_
  clear c1
  rintro e w1 ⟨rfl, rfl⟩
  go_wp2_with fail
  refine c2.mono ?_
  clear c2
  rintro e w2 ⟨rfl, rfl⟩
  go_wp2
  go_ret
  exact ⟨by rw [HX.out]; rfl, KE.out⟩
end Go.Proofs.YtalmflikdnflfaaGreat.tx
/- A transaction's size with any rest. -/
namespace Go.Proofs.YtalmflikdnflfaaGreat.tx
open Go.RowKit
set_option maxHeartbeats 1000000 in
theorem szTx_l (w : World) (v : TV) (t : T7) (l0 : Nat) (hl0 : l0 ≤ 1048576) (hl : TL t) : Calls Tryz.prog 74 #[v.val t, .int .i64 (l0 : Int)] w fun e w' => e = .returned (.int .i64 (leftR l0 (szT t))) ∧ Below w.heap.size w w' := by
  obtain ⟨ar, cr, ah, ch⟩ := v
  simp only [TV.val]
  have b0 : Below w.heap.size w (w.alloc (.cells #[.int .i64 t.id, .int .i64 t.home, .int .i64 t.phase, .int .i64 t.count, .slice ar t.reads.length cr, .slice ah t.sets.length ch, .int .i64 t.stamp] 124)) := (Below.refl _ _).alloc (Nat.le_refl _) _
  have B0 := hidOf b0
  have h1 := szNoteS_l (w.alloc (.cells #[.int .i64 t.id, .int .i64 t.home, .int .i64 t.phase, .int .i64 t.count, .slice ar t.reads.length cr, .slice ah t.sets.length ch, .int .i64 t.stamp] 124)) ar t.reads.length cr l0 hl.r hl0
  have h2 := fun W l => szSetS_l W ah t.sets.length ch l hl.s
  have HS : Hid (szT t = t.reads.length + t.sets.length) := rfl
  clear b0 hl
  by_cases g1 : t.reads.length ≤ l0
  · rw [leftR_yes g1] at h1
    have d1 : decide (((l0 - t.reads.length : Nat) : Int) < 0) = false := by simp
    have h3 := h2 (w.alloc (.cells #[.int .i64 t.id, .int .i64 t.home, .int .i64 t.phase, .int .i64 t.count, .slice ar t.reads.length cr, .slice ah t.sets.length ch, .int .i64 t.stamp] 124)) (l0 - t.reads.length) (by omega)
    by_cases g2 : t.sets.length ≤ l0 - t.reads.length
    · rw [leftR_yes g2] at h3
      have d2 : decide (((l0 - t.reads.length - t.sets.length : Nat) : Int) < 0) = false := by simp
      have KE : Hid (leftR l0 (szT t) = ((l0 - t.reads.length - t.sets.length : Nat) : Int)) := by unfold Hid; rw [leftR_yes (by rw [HS.out]; omega), HS.out]; omega
      clear g1 g2
      generalize l0 - t.reads.length - t.sets.length = l2 at *
      generalize l0 - t.reads.length = l1 at *
      go_enter Tryz.func74, Tryz.ntmps74
      go_wp2_with fail
      refine h1.mono ?_
      rintro e w1 ⟨rfl, rfl⟩
      go_wp2_with fail
      refine h3.mono ?_
      rintro e w2 ⟨rfl, rfl⟩
      go_wp2
      go_ret
      exact ⟨by rw [KE.out]; rfl, B0.out⟩
    · rw [leftR_no g2] at h3
      have KE : Hid (leftR l0 (szT t) = -1) := by unfold Hid; rw [leftR_no (by rw [HS.out]; omega)]
      clear g1 g2
      generalize l0 - t.reads.length = l1 at *
      go_enter Tryz.func74, Tryz.ntmps74
      go_wp2_with fail
      refine h1.mono ?_
      rintro e w1 ⟨rfl, rfl⟩
      go_wp2_with fail
      refine h3.mono ?_
      rintro e w2 ⟨rfl, rfl⟩
      go_wp2
      go_ret
      exact ⟨by rw [KE.out]; rfl, B0.out⟩
  · rw [leftR_no g1] at h1
    have KE : Hid (leftR l0 (szT t) = -1) := by unfold Hid; rw [leftR_no (by rw [HS.out]; omega)]
    clear g1
    go_enter Tryz.func74, Tryz.ntmps74
    go_wp2_with fail
    refine h1.mono ?_
    rintro e w1 ⟨rfl, rfl⟩
    go_wp2
    go_ret
    exact ⟨by rw [KE.out]; rfl, B0.out⟩
end Go.Proofs.YtalmflikdnflfaaGreat.tx
/- The transaction as a kind of data that a law hands over. -/
namespace Go.Proofs.YtalmflikdnflfaaGreat
open Go.RowKit
/-- A transaction of a call's own, in the blocks P. -/
def KT.Ow (w : World) (B : Nat) (a : Option Addr) (b : Nat) (c : Option Addr) (d : Nat) (t : tx.T7) (P : Nat → Prop) : Prop := ∃ PR PS, tx.OT w B ⟨a, b, c, d⟩ t PR PS ∧ (∀ q, tx.OfT PR PS q → P q) ∧ (∀ q, P q → B ≤ q ∧ q < w.heap.size)
theorem KT.Ow.of {w : World} {B : Nat} {a : Option Addr} {b : Nat} {c : Option Addr} {d : Nat} {t : tx.T7} {P : Nat → Prop} (h : KT.Ow w B a b c d t P) {q : Nat} (hq : P q) : B ≤ q ∧ q < w.heap.size := by obtain ⟨_, _, _, _, h3⟩ := h; exact h3 q hq
theorem KT.Ow.sl {w : World} {B : Nat} {a : Option Addr} {b : Nat} {c : Option Addr} {d : Nat} {t : tx.T7} {P : Nat → Prop} (h : KT.Ow w B a b c d t P) : tx.SlT w ⟨a, b, c, d⟩ t := by obtain ⟨_, _, h1, _, _⟩ := h; exact h1.sl
theorem KT.Ow.keep {w : World} {B : Nat} {a : Option Addr} {b : Nat} {c : Option Addr} {d : Nat} {t : tx.T7} {P : Nat → Prop} {w' : World} (h : KT.Ow w B a b c d t P) (hs : w.heap.size ≤ w'.heap.size) (hk : ∀ q, P q → w'.heap[q]? = w.heap[q]?) : KT.Ow w' B a b c d t P := by
  obtain ⟨PR, PS, h1, h2, h3⟩ := h
  exact ⟨PR, PS, h1.keep hs (fun q _ hq => hk q (h2 q hq)), h2, fun q hq => ⟨(h3 q hq).1, Nat.lt_of_lt_of_le (h3 q hq).2 hs⟩⟩
theorem KT.Ow.later {w : World} {B : Nat} {a : Option Addr} {b : Nat} {c : Option Addr} {d : Nat} {t : tx.T7} {P : Nat → Prop} {w' : World} (h : KT.Ow w B a b c d t P) (hb : Below w.heap.size w w') : KT.Ow w' B a b c d t P := h.keep hb.size (fun q hq => hb.block q (h.of hq).2)
theorem KT.Ow.low {w : World} {B : Nat} {a : Option Addr} {b : Nat} {c : Option Addr} {d : Nat} {t : tx.T7} {P : Nat → Prop} {B' : Nat} (h : KT.Ow w B a b c d t P) (hb : B' ≤ B) : KT.Ow w B' a b c d t P := by
  obtain ⟨PR, PS, h1, h2, h3⟩ := h
  exact ⟨PR, PS, h1.mono hb, h2, fun q hq => ⟨Nat.le_trans hb (h3 q hq).1, (h3 q hq).2⟩⟩
theorem KT.ow {w : World} {B : Nat} {a : Option Addr} {b : Nat} {c : Option Addr} {d : Nat} {t : tx.T7} {PR PS : Nat → Prop} (h : tx.OT w B ⟨a, b, c, d⟩ t PR PS) : KT.Ow w B a b c d t (tx.OfT PR PS) := ⟨PR, PS, h, fun _ hq => hq, fun _ hq => h.of hq⟩
/-- Lengths that the laws' helpers can count. -/
def KT.S (t : tx.T7) : Prop := t.reads.length ≤ 1048576 ∧ t.sets.length ≤ 1048576
theorem KT.to (X : World) (a : Option Addr) (b : Nat) (c : Option Addr) (d : Nat) (t : tx.T7) (ht : KT.S t) (h : tx.SlT X ⟨a, b, c, d⟩ t) : Calls Tryz.prog 86 #[.agg #[.int .i64 t.id, .int .i64 t.home, .int .i64 t.phase, .int .i64 t.count, .slice a t.reads.length b, .slice c t.sets.length d, .int .i64 t.stamp]] X fun e w' =>
    ∃ (a : Option Addr) (b : Nat) (c : Option Addr) (d : Nat) (P : Nat → Prop), e = .returned (.agg #[.int .i64 t.id, .int .i64 t.home, .int .i64 t.phase, .int .i64 t.count, .slice a t.reads.length b, .slice c t.sets.length d, .int .i64 t.stamp]) ∧ KT.Ow w' X.heap.size a b c d t P ∧ Below X.heap.size X w' := by
  have hh := tx.toTx_anyC X ⟨a, b, c, d⟩ t ht.1 ht.2 h
  simp only [tx.TV.val] at hh
  refine hh.mono ?_
  rintro e w' ⟨a, b, c, d, PR, PS, rfl, o, bl, _, _⟩
  exact ⟨a, b, c, d, _, rfl, KT.ow o, bl⟩
theorem KT.S.tl {t : tx.T7} (h : KT.S t) : tx.TL t := ⟨by have := h.1; unfold maxLen; omega, by have := h.2; unfold maxLen; omega⟩
theorem KT.eq (X : World) (a : Option Addr) (b : Nat) (c : Option Addr) (d : Nat) (a' : Option Addr) (b' : Nat) (c' : Option Addr) (d' : Nat) (t : tx.T7) (ht : KT.S t) (h1 : tx.SlT X ⟨a, b, c, d⟩ t) (h2 : tx.SlT X ⟨a', b', c', d'⟩ t) : Calls Tryz.prog 14 #[.agg #[.int .i64 t.id, .int .i64 t.home, .int .i64 t.phase, .int .i64 t.count, .slice a t.reads.length b, .slice c t.sets.length d, .int .i64 t.stamp], .agg #[.int .i64 t.id, .int .i64 t.home, .int .i64 t.phase, .int .i64 t.count, .slice a' t.reads.length b', .slice c' t.sets.length d', .int .i64 t.stamp]] X fun e w' => e = .returned (.bool true) ∧ Below X.heap.size X w' := by
  have hh := tx.eqTx_same X ⟨a, b, c, d⟩ ⟨a', b', c', d'⟩ t ht.tl h1 h2
  simp only [tx.TV.val] at hh
  exact hh
theorem KT.szl (X : World) (a : Option Addr) (b : Nat) (c : Option Addr) (d : Nat) (t : tx.T7) (l : Nat) (hl0 : l ≤ 1048576) (hl : tx.TL t) : Calls Tryz.prog 74 #[.agg #[.int .i64 t.id, .int .i64 t.home, .int .i64 t.phase, .int .i64 t.count, .slice a t.reads.length b, .slice c t.sets.length d, .int .i64 t.stamp], .int .i64 (l : Int)] X fun e w' => e = .returned (.int .i64 (leftR l (tx.szT t))) ∧ Below X.heap.size X w' := by
  have hh := tx.szTx_l X ⟨a, b, c, d⟩ t l hl0 hl
  simp only [tx.TV.val] at hh
  exact hh
def KTk : Kd tx.T7 tx.TV where
  n := 7
  cells v t := [.int .i64 t.id, .int .i64 t.home, .int .i64 t.phase, .int .i64 t.count, .slice v.ar t.reads.length v.cr, .slice v.ah t.sets.length v.ch, .int .i64 t.stamp]
  len := fun _ _ => rfl
  Rd := tx.SlT
  Ow w B v t P := KT.Ow w B v.ar v.cr v.ah v.ch t P
  later := fun h b => h.later b
  sl := fun h => h.sl
  of := fun h hq => h.of hq
  keep := fun h hs hk => h.keep hs hk
  low := fun h hb => h.low hb
end Go.Proofs.YtalmflikdnflfaaGreat
