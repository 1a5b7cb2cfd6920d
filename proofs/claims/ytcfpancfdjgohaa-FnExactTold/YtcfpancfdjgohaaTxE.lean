/- The laws' comparison of transactions and their marks. -/
import Derived.Test.YtcfpancfdjgohaaRows
import Derived.Test.YtcfpancfdjgohaaTxL
import Derived.WalkKit
import Derived.WalkSpells
import Derived.WalkLawsBesides
import Derived.Below
namespace Go.Proofs.Ytcfpancfdjgohaa
open Go.RowKit
set_option maxHeartbeats 2000000 in
theorem eqTx_same (w : World) (v v' : TV) (t : T7) (hl : TL t) (h1 : SlT w v t) (h2 : SlT w v' t) : Calls Try.prog 29 #[v.val t, v'.val t] w fun e w' => e = .returned (.bool true) ∧ Below w.heap.size w w' := by
  obtain ⟨ar, cr, ah, ch⟩ := v
  obtain ⟨ar', cr', ah', ch'⟩ := v'
  simp only [TV.val]
  obtain ⟨U, hU⟩ : ∃ U, U = ((w.alloc (.cells #[.int .i64 t.id, .int .i64 t.home, .int .i64 t.phase, .int .i64 t.count, .slice ar t.reads.length cr, .slice ah t.sets.length ch, .int .i64 t.stamp] 27)).alloc (.cells #[.int .i64 t.id, .int .i64 t.home, .int .i64 t.phase, .int .i64 t.count, .slice ar' t.reads.length cr', .slice ah' t.sets.length ch', .int .i64 t.stamp] 27)) := ⟨_, rfl⟩
  have z1 : (w.alloc (.cells #[.int .i64 t.id, .int .i64 t.home, .int .i64 t.phase, .int .i64 t.count, .slice ar t.reads.length cr, .slice ah t.sets.length ch, .int .i64 t.stamp] 27)).heap.size = w.heap.size + 1 := by simp
  have xB : BT U (w.heap.size + 1) ⟨ar', cr', ah', ch'⟩ t := by rw [hU, ← z1]; exact BT.box _ ⟨ar', cr', ah', ch'⟩ t _
  have xA : BT U w.heap.size ⟨ar, cr, ah, ch⟩ t := by rw [hU]; exact (BT.box w ⟨ar, cr, ah, ch⟩ t _).later ((Below.refl _ _).alloc (Nat.le_refl _) _)
  have b0 : Below w.heap.size w U := by rw [hU]; exact ((Below.refl _ _).alloc (Nat.le_refl _) _).alloc (by simp) _
  have c1 := eqNoteS_any U ar ar' t.reads.length cr cr' t.reads hl.r (h1.later b0).r (h2.later b0).r
  have H : Hid (BT U w.heap.size ⟨ar, cr, ah, ch⟩ t ∧ BT U (w.heap.size + 1) ⟨ar', cr', ah', ch'⟩ t ∧ Below w.heap.size w U ∧ SlT w ⟨ar, cr, ah, ch⟩ t ∧ SlT w ⟨ar', cr', ah', ch'⟩ t ∧ TL t) := ⟨xA, xB, b0, h1, h2, hl⟩
  have q0 : (t.id != t.id) = false := by simp
  have q1 : (t.home != t.home) = false := by simp
  have q2 : (t.phase != t.phase) = false := by simp
  have q3 : (t.count != t.count) = false := by simp
  have q6 : (t.stamp != t.stamp) = false := by simp
  clear z1 xA xB b0 h1 h2 hl
  go_enter Try.func29, Try.ntmps29
  go_wp2_with fail
  rw [← hU]
  clear hU
  refine c1.mono ?_
  clear c1 q0 q1 q2 q3
  rintro e w1 ⟨rfl, b1⟩
  obtain ⟨xA, xB, b0, h1, h2, hl⟩ := H.out
  have bw : Below w.heap.size w w1 := b0.trans (b1.mono b0.size)
  have a5 := (xA.later b1).c5
  have e5 := (xB.later b1).c5
  have c2 := eqSetS_any w1 ah ah' t.sets.length ch ch' t.sets hl.s (h1.later bw).s (h2.later bw).s
  have H1 : Hid (BT w1 w.heap.size ⟨ar, cr, ah, ch⟩ t ∧ BT w1 (w.heap.size + 1) ⟨ar', cr', ah', ch'⟩ t ∧ Below w.heap.size w w1) := ⟨xA.later b1, xB.later b1, bw⟩
  clear xA xB b0 h1 h2 hl b1 bw H
  go_wp2_with fail
  refine c2.mono ?_
  clear c2 a5 e5
  rintro e w2 ⟨rfl, b2⟩
  have a6 := (H1.out.1.later b2).c6
  have e6 := (H1.out.2.1.later b2).c6
  have KE : Hid (Below w.heap.size w w2) := H1.out.2.2.trans (b2.mono H1.out.2.2.size)
  clear b2 H1
  go_wp2
  go_ret
  exact ⟨rfl, KE.out⟩
/-- What the marks make of a transaction. -/
def mkT (t : T7) (k : Int) : T7 := ⟨t.id, t.home, t.phase, t.count, mkNotes k t.reads.length, mkSets (k + 5 * (t.reads.length : Int)) t.sets.length, t.stamp⟩
def endT (t : T7) (k : Int) : Int := k + 5 * (t.reads.length : Int) + 5 * (t.sets.length : Int)
theorem markNo (w : World) (P : Nat → Prop) (a : Option Addr) (cap : Nat) (xs : List N5) (k : Int) (hk : 0 ≤ k) (hk' : k ≤ 1000000000) (hn : xs.length ≤ 1048576) (h : OwnNo w P a xs) :
    Calls Try.prog 81 #[.slice a xs.length cap, .int .i64 k] w fun e w' => e = .returned (.int .i64 (k + 5 * (xs.length : Int))) ∧ KeptP P w w' ∧ OwnNo w' P a (mkNotes k xs.length) := by
  rcases h with rfl | ⟨b, rfl, hp, hb, hx, hr⟩
  · refine (markNoteS_nil w a cap k).mono ?_
    rintro e w' ⟨rfl, rfl⟩
    exact ⟨by simp, KeptP.refl _ _, .inl rfl⟩
  · refine (markNoteS_k w b xs.length cap k hn hk hk' hr).mono ?_
    rintro e w' ⟨rfl, ho, hx', hr'⟩
    exact ⟨rfl, KeptP.of_only ho hp, .inr ⟨b, rfl, hp, by rw [ho.size]; exact hb, hx', by rw [mkNotes_len]; exact hr'⟩⟩
theorem markSe (w : World) (P : Nat → Prop) (a : Option Addr) (cap : Nat) (xs : List S5) (k : Int) (hk : 0 ≤ k) (hk' : k ≤ 1000000000) (hn : xs.length ≤ 1048576) (h : OwnSe w P a xs) :
    Calls Try.prog 82 #[.slice a xs.length cap, .int .i64 k] w fun e w' => e = .returned (.int .i64 (k + 5 * (xs.length : Int))) ∧ KeptP P w w' ∧ OwnSe w' P a (mkSets k xs.length) := by
  rcases h with rfl | ⟨b, rfl, hp, hb, hx, hr⟩
  · refine (markSetS_nil w a cap k).mono ?_
    rintro e w' ⟨rfl, rfl⟩
    exact ⟨by simp, KeptP.refl _ _, .inl rfl⟩
  · refine (markSetS_k w b xs.length cap k hn hk hk' hr).mono ?_
    rintro e w' ⟨rfl, ho, hx', hr'⟩
    exact ⟨rfl, KeptP.of_only ho hp, .inr ⟨b, rfl, hp, by rw [ho.size]; exact hb, hx', by rw [mkSets_len]; exact hr'⟩⟩
set_option maxHeartbeats 2000000 in
theorem markTx_any (w : World) (B : Nat) (v : TV) (t : T7) (PR PS : Nat → Prop) (k : Int) (hk : 0 ≤ k) (hk' : k ≤ 100000000) (hr : t.reads.length ≤ 1048576) (hs : t.sets.length ≤ 1048576) (h : OT w B v t PR PS) :
    Calls Try.prog 31 #[v.val t, .int .i64 k] w fun e w' => e = .returned (.int .i64 (endT t k)) ∧ KeptP (OfT PR PS) w w' ∧ OT w' B v (mkT t k) PR PS := by
  obtain ⟨ar, cr, ah, ch⟩ := v
  simp only [TV.val]
  obtain ⟨W, hW⟩ : ∃ W, W = w.alloc (.cells #[.int .i64 t.id, .int .i64 t.home, .int .i64 t.phase, .int .i64 t.count, .slice ar t.reads.length cr, .slice ah t.sets.length ch, .int .i64 t.stamp] 27) := ⟨_, rfl⟩
  have b0 : Below w.heap.size w W := by rw [hW]; exact (Below.refl _ _).alloc (Nat.le_refl _) _
  have x0 : BT W w.heap.size ⟨ar, cr, ah, ch⟩ t := by rw [hW]; exact BT.box w ⟨ar, cr, ah, ch⟩ t _
  have h0 := h.later b0
  have c1 := markNo W PR ar cr t.reads k hk (by omega) hr h0.r
  have HX : Hid (endT t k = k + 5 * (t.reads.length : Int) + 5 * (t.sets.length : Int)) := rfl
  have H : Hid (OT w B ⟨ar, cr, ah, ch⟩ t PR PS ∧ OT W B ⟨ar, cr, ah, ch⟩ t PR PS ∧ BT W w.heap.size ⟨ar, cr, ah, ch⟩ t ∧ Below w.heap.size w W ∧ 0 ≤ k + 5 * (t.reads.length : Int) ∧ k + 5 * (t.reads.length : Int) ≤ 1000000000 ∧ t.sets.length ≤ 1048576) := ⟨h, h0, x0, b0, by omega, by omega, hs⟩
  clear b0 x0 h0 h hk hk' hr hs
  go_enter Try.func31, Try.ntmps31
  go_wp2_with fail
  rw [← hW]
  clear hW
  refine c1.mono ?_
  clear c1
  rintro e w1 ⟨rfl, k1, o1⟩
  obtain ⟨h, h0, x0, b0, g1, g2, g3⟩ := H.out
  have hw : ∀ q, PR q → q ≠ w.heap.size := fun q hq e => by have := (h.rB q hq).2; omega
  have a5 := (x0.of_block (k1.block _ x0.lt (fun e => hw _ e rfl)) k1.size).c5
  have s1 : OwnSe w1 PS ah t.sets := h0.s.keep k1.size (fun q hq hp => k1.block q hq (fun e => h.rs q e hp))
  have c2 := markSe w1 PS ah ch t.sets (k + 5 * (t.reads.length : Int)) g1 g2 g3 s1
  have H1 : Hid (KeptP (OfT PR PS) w w1 ∧ OwnNo w1 PR ar (mkNotes k t.reads.length)) := ⟨(KeptP.of_below b0).trans (k1.mono (fun q hq => .inl hq)), o1⟩
  clear h0 x0 b0 g1 g2 g3 hw s1 k1 o1
  have HE : Hid (OT w B ⟨ar, cr, ah, ch⟩ t PR PS) := h
  clear h H
  go_wp2_with fail
  refine c2.mono ?_
  clear c2 a5
  rintro e w2 ⟨rfl, k2, o2⟩
  have KE : Hid (KeptP (OfT PR PS) w w2 ∧ OT w2 B ⟨ar, cr, ah, ch⟩ (mkT t k) PR PS) := by
    have kk := H1.out.1.trans (k2.mono (fun q hq => .inr hq))
    exact ⟨kk, ⟨H1.out.2.keep k2.size (fun q hq hp => k2.block q hq (fun e => HE.out.rs q hp e)), o2, HE.out.rs, fun q hq => ⟨(HE.out.rB q hq).1, Nat.lt_of_lt_of_le (HE.out.rB q hq).2 kk.size⟩, fun q hq => ⟨(HE.out.sB q hq).1, Nat.lt_of_lt_of_le (HE.out.sB q hq).2 kk.size⟩⟩⟩
  clear k2 o2 HE H1
  go_wp2
  go_ret
  exact ⟨by rw [HX.out]; rfl, KE.out.1, KE.out.2⟩
set_option maxHeartbeats 2000000 in
theorem heldTx_any (w : World) (v : TV) (t : T7) (k : Int) (hk : 0 ≤ k) (hk' : k ≤ 100000000) (hr : t.reads.length ≤ 1048576) (hs : t.sets.length ≤ 1048576) (h : SlT w v (mkT t k)) :
    Calls Try.prog 32 #[v.val t, .int .i64 k] w fun e w' => e = .returned (.int .i64 (endT t k)) ∧ Below w.heap.size w w' := by
  obtain ⟨ar, cr, ah, ch⟩ := v
  simp only [TV.val]
  obtain ⟨W, hW⟩ : ∃ W, W = w.alloc (.cells #[.int .i64 t.id, .int .i64 t.home, .int .i64 t.phase, .int .i64 t.count, .slice ar t.reads.length cr, .slice ah t.sets.length ch, .int .i64 t.stamp] 27) := ⟨_, rfl⟩
  have b0 : Below w.heap.size w W := by rw [hW]; exact (Below.refl _ _).alloc (Nat.le_refl _) _
  have x0 : BT W w.heap.size ⟨ar, cr, ah, ch⟩ t := by rw [hW]; exact BT.box w ⟨ar, cr, ah, ch⟩ t _
  have h0 := h.later b0
  have hR := h0.r
  have hS := h0.s
  simp only [mkT, mkNotes_len, mkSets_len] at hR hS
  have c1 := heldNoteS_k W ar t.reads.length cr k hr hk (by omega) hR
  have c2 := heldSetS_k W ah t.sets.length ch (k + 5 * (t.reads.length : Int)) hs (by omega) (by omega) hS
  have a5 := x0.c5
  have HX : Hid (endT t k = k + 5 * (t.reads.length : Int) + 5 * (t.sets.length : Int)) := rfl
  have d1 : decide (k + 5 * (t.reads.length : Int) < 0) = false := by simp; omega
  have d2 : decide (k + 5 * (t.reads.length : Int) + 5 * (t.sets.length : Int) < 0) = false := by simp; omega
  have KE : Hid (Below w.heap.size w W) := b0
  clear b0 x0 h0 h hk hk' hr hs hR hS
  generalize k + 5 * (t.reads.length : Int) + 5 * (t.sets.length : Int) = k2 at *
  generalize k + 5 * (t.reads.length : Int) = k1 at *
  go_enter Try.func32, Try.ntmps32
  go_wp2_with fail
  rw [← hW]
  clear hW
  refine c1.mono ?_
  clear c1
  rintro e w1 ⟨rfl, rfl⟩
  go_wp2_with fail
  refine c2.mono ?_
  clear c2
  rintro e w2 ⟨rfl, rfl⟩
  go_wp2
  go_ret
  exact ⟨by rw [HX.out]; rfl, KE.out⟩
end Go.Proofs.Ytcfpancfdjgohaa
