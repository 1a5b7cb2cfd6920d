/- What Told answers at every transaction, on both sides. -/
import Derived.Test.YtcfpancfdjgohaaRows
import Derived.Test.YtcfpancfdjgohaaTxI
import Derived.Test.YtcfpancfdjgohaaTxS
import Derived.WalkKit
import Derived.WalkSpells
import Derived.WalkLawsBesides
import Derived.Below
namespace Go.Proofs.Ytcfpancfdjgohaa
open Go.RowKit
/-- What the client was told. -/
def toldP (phase count : Int) : Int := if phase = 5 then (if 0 < count then 1 else 0) else if phase = 6 ∨ phase = 7 then 1 else if phase = 8 ∨ phase = 9 then 2 else 0
def toldR (t : T7) : Int := if txB t = true then toldP t.phase t.count else -1
theorem txB_head {t : T7} (h : txB t = true) : 1 ≤ t.phase ∧ t.phase ≤ 9 ∧ 0 ≤ t.count := by
  simp only [txB, headB, Bool.and_eq_true] at h
  obtain ⟨⟨⟨⟨⟨⟨⟨⟨-, -⟩, h3⟩, h4⟩, -⟩, -⟩, -⟩, -⟩, -⟩ := h
  rw [inB_iff] at h3 h4
  omega
theorem nine {x : Int} (h : 1 ≤ x ∧ x ≤ 9) : x = 1 ∨ x = 2 ∨ x = 3 ∨ x = 4 ∨ x = 5 ∨ x = 6 ∨ x = 7 ∨ x = 8 ∨ x = 9 := by omega
set_option maxHeartbeats 4000000 in
theorem specTold_any (w : World) (v : TV) (t : T7) (hl : TL t) (hs : SlT w v t) :
    Calls Try.prog 26 #[v.val t] w fun e w' => e = .returned (.int .i64 (toldR t)) ∧ Below w.heap.size w w' := by
  obtain ⟨ar, cr, ah, ch⟩ := v
  obtain ⟨W, hW⟩ : ∃ W, W = w.alloc (.cells #[.int .i64 t.id, .int .i64 t.home, .int .i64 t.phase, .int .i64 t.count, .slice ar t.reads.length cr, .slice ah t.sets.length ch, .int .i64 t.stamp] 27) := ⟨_, rfl⟩
  have b0 : Below w.heap.size w W := by rw [hW]; exact (Below.refl _ _).alloc (Nat.le_refl _) _
  have x0 : BT W w.heap.size ⟨ar, cr, ah, ch⟩ t := by rw [hW]; exact BT.box w ⟨ar, cr, ah, ch⟩ t _
  have c1 := specTxOk_any W ⟨ar, cr, ah, ch⟩ t hl (hs.later b0)
  simp only [TV.val] at c1 ⊢
  have H : Hid (Below w.heap.size w W ∧ BT W w.heap.size ⟨ar, cr, ah, ch⟩ t) := ⟨b0, x0⟩
  clear hs hl b0 x0
  go_enter Try.func26, Try.ntmps26
  go_wp2_with fail
  rw [← hW]
  clear hW
  refine c1.mono ?_
  clear c1
  rintro e w1 ⟨rfl, b1⟩
  have BW : Hid (Below w.heap.size w w1) := H.out.1.trans (b1.mono H.out.1.size)
  obtain ⟨p0, p1, p2, p3, p4, p5, p6, -, -⟩ := H.out.2.later b1
  clear b1 H p0 p1 p4 p5 p6
  cases hb : txB t
  case false =>
    go_wp2
    go_ret
    exact ⟨by simp [toldR, hb], BW.out⟩
  case true =>
    have hr : toldR t = toldP t.phase t.count := by simp [toldR, hb]
    have HR : Hid (toldR t = toldP t.phase t.count) := hr
    clear hr
    obtain ⟨h1, h2, h3⟩ := txB_head hb
    clear hb
    have h9 := nine ⟨h1, h2⟩
    clear h1 h2
    generalize t.count = n at *
    generalize t.phase = f at *
    by_cases hn : n = 0
    all_goals (
      rcases h9 with rfl | rfl | rfl | rfl | rfl | rfl | rfl | rfl | rfl
      all_goals (
        go_wp2
        all_goals (go_ret; refine ⟨?_, BW.out⟩; rw [HR.out]; first | (simp [toldP]; done) | (simp [toldP]; omega) | (exfalso; omega))))
set_option maxHeartbeats 4000000 in
theorem implTold_any (w : World) (v : TV) (t : T7) (hl : TL t) (hs : SlT w v t) :
    Calls Try.prog 28 #[v.val t] w fun e w' => e = .returned (.int .i64 (toldR t)) ∧ Below w.heap.size w w' := by
  obtain ⟨ar, cr, ah, ch⟩ := v
  obtain ⟨W, hW⟩ : ∃ W, W = w.alloc (.cells #[.int .i64 t.id, .int .i64 t.home, .int .i64 t.phase, .int .i64 t.count, .slice ar t.reads.length cr, .slice ah t.sets.length ch, .int .i64 t.stamp] 27) := ⟨_, rfl⟩
  have b0 : Below w.heap.size w W := by rw [hW]; exact (Below.refl _ _).alloc (Nat.le_refl _) _
  have x0 : BT W w.heap.size ⟨ar, cr, ah, ch⟩ t := by rw [hW]; exact BT.box w ⟨ar, cr, ah, ch⟩ t _
  have c1 := implTxOk_any W ⟨ar, cr, ah, ch⟩ t hl (hs.later b0)
  simp only [TV.val] at c1 ⊢
  have H : Hid (Below w.heap.size w W ∧ BT W w.heap.size ⟨ar, cr, ah, ch⟩ t) := ⟨b0, x0⟩
  clear hs hl b0 x0
  go_enter Try.func28, Try.ntmps28
  go_wp2_with fail
  rw [← hW]
  clear hW
  refine c1.mono ?_
  clear c1
  rintro e w1 ⟨rfl, b1⟩
  have BW : Hid (Below w.heap.size w w1) := H.out.1.trans (b1.mono H.out.1.size)
  obtain ⟨p0, p1, p2, p3, p4, p5, p6, -, -⟩ := H.out.2.later b1
  clear b1 H p0 p1 p4 p5 p6
  cases hb : txB t
  case false =>
    go_wp2
    go_ret
    exact ⟨by simp [toldR, hb], BW.out⟩
  case true =>
    have hr : toldR t = toldP t.phase t.count := by simp [toldR, hb]
    have HR : Hid (toldR t = toldP t.phase t.count) := hr
    clear hr
    obtain ⟨h1, h2, h3⟩ := txB_head hb
    clear hb
    have h9 := nine ⟨h1, h2⟩
    clear h1 h2
    generalize t.count = n at *
    generalize t.phase = f at *
    by_cases hn : n = 0
    all_goals (
      rcases h9 with rfl | rfl | rfl | rfl | rfl | rfl | rfl | rfl | rfl
      all_goals (
        go_wp2
        all_goals (go_ret; refine ⟨?_, BW.out⟩; rw [HR.out]; first | (simp [toldP]; done) | (simp [toldP]; omega) | (exfalso; omega))))
end Go.Proofs.Ytcfpancfdjgohaa
