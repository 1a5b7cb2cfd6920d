/- YTxSl; KdT: joined. -/
import Derived.Test.YtefffikmbjfdfaaGreatRows
import Derived.Test.YtefffikmbjfdfaaGreatYTxDJ
import Derived.WalkKit
import Derived.WalkSpells
import Derived.WalkLawsBesides
import Derived.Below
import Derived.Test.YtefffikmbjfdfaaGreatJ1ExactClusterOk
import Derived.Test.YtefffikmbjfdfaaGreatYTxMJ
import Derived.Test.YtefffikmbjfdfaaGreatYTxEJ
import Derived.Test.YtefffikmbjfdfaaGreatJ12ExactClusterOk
/- A transaction's size with any rest. -/
namespace Go.Proofs.YtefffikmbjfdfaaGreat.tx
open Go.RowKit
set_option maxHeartbeats 1000000 in
theorem szTx_l (w : World) (v : TV) (t : T7) (l0 : Nat) (hl0 : l0 ≤ 1048576) (hl : TL t) : Calls Tryz.prog 76 #[v.val t, .int .i64 (l0 : Int)] w fun e w' => e = .returned (.int .i64 (leftR l0 (szT t))) ∧ Below w.heap.size w w' := by
  obtain ⟨ar, cr, ah, ch⟩ := v
  simp only [TV.val]
  have b0 : Below w.heap.size w (w.alloc (.cells #[.int .i64 t.id, .int .i64 t.home, .int .i64 t.phase, .int .i64 t.count, .slice ar t.reads.length cr, .slice ah t.sets.length ch, .int .i64 t.stamp] 126)) := (Below.refl _ _).alloc (Nat.le_refl _) _
  have B0 := hidOf b0
  have h1 := szNoteS_l (w.alloc (.cells #[.int .i64 t.id, .int .i64 t.home, .int .i64 t.phase, .int .i64 t.count, .slice ar t.reads.length cr, .slice ah t.sets.length ch, .int .i64 t.stamp] 126)) ar t.reads.length cr l0 hl.r hl0
  have h2 := fun W l => szSetS_l W ah t.sets.length ch l hl.s
  have HS : Hid (szT t = t.reads.length + t.sets.length) := rfl
  clear b0 hl
  by_cases g1 : t.reads.length ≤ l0
  · rw [leftR_yes g1] at h1
    have d1 : decide (((l0 - t.reads.length : Nat) : Int) < 0) = false := by simp
    have h3 := h2 (w.alloc (.cells #[.int .i64 t.id, .int .i64 t.home, .int .i64 t.phase, .int .i64 t.count, .slice ar t.reads.length cr, .slice ah t.sets.length ch, .int .i64 t.stamp] 126)) (l0 - t.reads.length) (by omega)
    by_cases g2 : t.sets.length ≤ l0 - t.reads.length
    · rw [leftR_yes g2] at h3
      have d2 : decide (((l0 - t.reads.length - t.sets.length : Nat) : Int) < 0) = false := by simp
      have KE : Hid (leftR l0 (szT t) = ((l0 - t.reads.length - t.sets.length : Nat) : Int)) := by unfold Hid; rw [leftR_yes (by rw [HS.out]; omega), HS.out]; omega
      clear g1 g2
      generalize l0 - t.reads.length - t.sets.length = l2 at *
      generalize l0 - t.reads.length = l1 at *
      go_enter Tryz.func76, Tryz.ntmps76
      go_wp2_with fail
      refine h1.mono ?_
      rintro e w1 ⟨rfl, rfl⟩
      go_wp2_with fail
      refine h3.mono ?_
      rintro e w2 ⟨rfl, rfl⟩
      go_wp2
      go_ret
      exact ⟨by rw [KE.out]; rfl, B0.out⟩
    · rw [leftR_no g2] at h3
      have KE : Hid (leftR l0 (szT t) = -1) := by unfold Hid; rw [leftR_no (by rw [HS.out]; omega)]
      clear g1 g2
      generalize l0 - t.reads.length = l1 at *
      go_enter Tryz.func76, Tryz.ntmps76
      go_wp2_with fail
      refine h1.mono ?_
      rintro e w1 ⟨rfl, rfl⟩
      go_wp2_with fail
      refine h3.mono ?_
      rintro e w2 ⟨rfl, rfl⟩
      go_wp2
      go_ret
      exact ⟨by rw [KE.out]; rfl, B0.out⟩
  · rw [leftR_no g1] at h1
    have KE : Hid (leftR l0 (szT t) = -1) := by unfold Hid; rw [leftR_no (by rw [HS.out]; omega)]
    clear g1
    go_enter Tryz.func76, Tryz.ntmps76
    go_wp2_with fail
    refine h1.mono ?_
    rintro e w1 ⟨rfl, rfl⟩
    go_wp2
    go_ret
    exact ⟨by rw [KE.out]; rfl, B0.out⟩
end Go.Proofs.YtefffikmbjfdfaaGreat.tx
/- The transaction as a kind of data that a law hands over. -/
namespace Go.Proofs.YtefffikmbjfdfaaGreat
open Go.RowKit
/-- A transaction of a call's own, in the blocks P. -/
def KT.Ow (w : World) (B : Nat) (a : Option Addr) (b : Nat) (c : Option Addr) (d : Nat) (t : tx.T7) (P : Nat → Prop) : Prop := ∃ PR PS, tx.OT w B ⟨a, b, c, d⟩ t PR PS ∧ (∀ q, tx.OfT PR PS q → P q) ∧ (∀ q, P q → B ≤ q ∧ q < w.heap.size)
theorem KT.Ow.of {w : World} {B : Nat} {a : Option Addr} {b : Nat} {c : Option Addr} {d : Nat} {t : tx.T7} {P : Nat → Prop} (h : KT.Ow w B a b c d t P) {q : Nat} (hq : P q) : B ≤ q ∧ q < w.heap.size := by obtain ⟨_, _, _, _, h3⟩ := h; exact h3 q hq
theorem KT.Ow.sl {w : World} {B : Nat} {a : Option Addr} {b : Nat} {c : Option Addr} {d : Nat} {t : tx.T7} {P : Nat → Prop} (h : KT.Ow w B a b c d t P) : tx.SlT w ⟨a, b, c, d⟩ t := by obtain ⟨_, _, h1, _, _⟩ := h; exact h1.sl
theorem KT.Ow.keep {w : World} {B : Nat} {a : Option Addr} {b : Nat} {c : Option Addr} {d : Nat} {t : tx.T7} {P : Nat → Prop} {w' : World} (h : KT.Ow w B a b c d t P) (hs : w.heap.size ≤ w'.heap.size) (hk : ∀ q, P q → w'.heap[q]? = w.heap[q]?) : KT.Ow w' B a b c d t P := by
  obtain ⟨PR, PS, h1, h2, h3⟩ := h
  exact ⟨PR, PS, h1.keep hs (fun q _ hq => hk q (h2 q hq)), h2, fun q hq => ⟨(h3 q hq).1, Nat.lt_of_lt_of_le (h3 q hq).2 hs⟩⟩
theorem KT.Ow.later {w : World} {B : Nat} {a : Option Addr} {b : Nat} {c : Option Addr} {d : Nat} {t : tx.T7} {P : Nat → Prop} {w' : World} (h : KT.Ow w B a b c d t P) (hb : Below w.heap.size w w') : KT.Ow w' B a b c d t P := h.keep hb.size (fun q hq => hb.block q (h.of hq).2)
theorem KT.Ow.low {w : World} {B : Nat} {a : Option Addr} {b : Nat} {c : Option Addr} {d : Nat} {t : tx.T7} {P : Nat → Prop} {B' : Nat} (h : KT.Ow w B a b c d t P) (hb : B' ≤ B) : KT.Ow w B' a b c d t P := by
  obtain ⟨PR, PS, h1, h2, h3⟩ := h
  exact ⟨PR, PS, h1.mono hb, h2, fun q hq => ⟨Nat.le_trans hb (h3 q hq).1, (h3 q hq).2⟩⟩
theorem KT.ow {w : World} {B : Nat} {a : Option Addr} {b : Nat} {c : Option Addr} {d : Nat} {t : tx.T7} {PR PS : Nat → Prop} (h : tx.OT w B ⟨a, b, c, d⟩ t PR PS) : KT.Ow w B a b c d t (tx.OfT PR PS) := ⟨PR, PS, h, fun _ hq => hq, fun _ hq => h.of hq⟩
/-- Lengths that the laws' helpers can count. -/
def KT.S (t : tx.T7) : Prop := t.reads.length ≤ 1048576 ∧ t.sets.length ≤ 1048576
theorem KT.to (X : World) (a : Option Addr) (b : Nat) (c : Option Addr) (d : Nat) (t : tx.T7) (ht : KT.S t) (h : tx.SlT X ⟨a, b, c, d⟩ t) : Calls Tryz.prog 88 #[.agg #[.int .i64 t.id, .int .i64 t.home, .int .i64 t.phase, .int .i64 t.count, .slice a t.reads.length b, .slice c t.sets.length d, .int .i64 t.stamp]] X fun e w' =>
    ∃ (a : Option Addr) (b : Nat) (c : Option Addr) (d : Nat) (P : Nat → Prop), e = .returned (.agg #[.int .i64 t.id, .int .i64 t.home, .int .i64 t.phase, .int .i64 t.count, .slice a t.reads.length b, .slice c t.sets.length d, .int .i64 t.stamp]) ∧ KT.Ow w' X.heap.size a b c d t P ∧ Below X.heap.size X w' := by
  have hh := tx.toTx_anyC X ⟨a, b, c, d⟩ t ht.1 ht.2 h
  simp only [tx.TV.val] at hh
  refine hh.mono ?_
  rintro e w' ⟨a, b, c, d, PR, PS, rfl, o, bl, _, _⟩
  exact ⟨a, b, c, d, _, rfl, KT.ow o, bl⟩
theorem KT.S.tl {t : tx.T7} (h : KT.S t) : tx.TL t := ⟨by have := h.1; unfold maxLen; omega, by have := h.2; unfold maxLen; omega⟩
theorem KT.eq (X : World) (a : Option Addr) (b : Nat) (c : Option Addr) (d : Nat) (a' : Option Addr) (b' : Nat) (c' : Option Addr) (d' : Nat) (t : tx.T7) (ht : KT.S t) (h1 : tx.SlT X ⟨a, b, c, d⟩ t) (h2 : tx.SlT X ⟨a', b', c', d'⟩ t) : Calls Tryz.prog 14 #[.agg #[.int .i64 t.id, .int .i64 t.home, .int .i64 t.phase, .int .i64 t.count, .slice a t.reads.length b, .slice c t.sets.length d, .int .i64 t.stamp], .agg #[.int .i64 t.id, .int .i64 t.home, .int .i64 t.phase, .int .i64 t.count, .slice a' t.reads.length b', .slice c' t.sets.length d', .int .i64 t.stamp]] X fun e w' => e = .returned (.bool true) ∧ Below X.heap.size X w' := by
  have hh := tx.eqTx_same X ⟨a, b, c, d⟩ ⟨a', b', c', d'⟩ t ht.tl h1 h2
  simp only [tx.TV.val] at hh
  exact hh
theorem KT.szl (X : World) (a : Option Addr) (b : Nat) (c : Option Addr) (d : Nat) (t : tx.T7) (l : Nat) (hl0 : l ≤ 1048576) (hl : tx.TL t) : Calls Tryz.prog 76 #[.agg #[.int .i64 t.id, .int .i64 t.home, .int .i64 t.phase, .int .i64 t.count, .slice a t.reads.length b, .slice c t.sets.length d, .int .i64 t.stamp], .int .i64 (l : Int)] X fun e w' => e = .returned (.int .i64 (leftR l (tx.szT t))) ∧ Below X.heap.size X w' := by
  have hh := tx.szTx_l X ⟨a, b, c, d⟩ t l hl0 hl
  simp only [tx.TV.val] at hh
  exact hh
def KTk : Kd tx.T7 tx.TV where
  n := 7
  cells v t := [.int .i64 t.id, .int .i64 t.home, .int .i64 t.phase, .int .i64 t.count, .slice v.ar t.reads.length v.cr, .slice v.ah t.sets.length v.ch, .int .i64 t.stamp]
  len := fun _ _ => rfl
  Rd := tx.SlT
  Ow w B v t P := KT.Ow w B v.ar v.cr v.ah v.ch t P
  later := fun h b => h.later b
  sl := fun h => h.sl
  of := fun h hq => h.of hq
  keep := fun h hs hk => h.keep hs hk
  low := fun h hb => h.low hb
end Go.Proofs.YtefffikmbjfdfaaGreat
