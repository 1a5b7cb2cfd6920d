/- What the program's TxOk answers at every transaction. -/
import Derived.Test.YtcfpancfdjgohaaRows
import Derived.Test.YtcfpancfdjgohaaTxK
import Derived.WalkKit
import Derived.WalkSpells
import Derived.WalkLawsBesides
import Derived.Below
namespace Go.Proofs.Ytcfpancfdjgohaa
open Go.RowKit
set_option maxHeartbeats 4000000 in
theorem implTxOk_any (w : World) (v : TV) (t : T7) (hl : TL t) (hs : SlT w v t) :
    Calls Try.prog 16 #[v.val t] w fun e w' => e = .returned (.bool (txB t)) ∧ Below w.heap.size w w' := by
  obtain ⟨ar, cr, ah, ch⟩ := v
  simp only [TV.val]
  obtain ⟨W, hW⟩ : ∃ W, W = w.alloc (.cells #[.int .i64 t.id, .int .i64 t.home, .int .i64 t.phase, .int .i64 t.count, .slice ar t.reads.length cr, .slice ah t.sets.length ch, .int .i64 t.stamp] 27) := ⟨_, rfl⟩
  have b0 : Below w.heap.size w W := by rw [hW]; exact (Below.refl _ _).alloc (Nat.le_refl _) _
  have x0 : BT W w.heap.size ⟨ar, cr, ah, ch⟩ t := by rw [hW]; exact BT.box w ⟨ar, cr, ah, ch⟩ t _
  have H : Hid (SlT W ⟨ar, cr, ah, ch⟩ t ∧ BT W w.heap.size ⟨ar, cr, ah, ch⟩ t ∧ TL t) := ⟨hs.later b0, x0, hl⟩
  have BW : Hid (Below w.heap.size w W) := b0
  clear hs b0 x0 hl
  by_cases g0 : inB 1 1000000 t.id = true
  case neg =>
    have d0 : inB 1 1000000 t.id = false := by simpa using g0
    have hb : txB t = false := by simp [txB, headB, d0]
    rw [hb]
    rw [hW] at BW
    clear H hW
    go_enter Try.func16, Try.ntmps16
    go_wp2_with (first | (go_at_call 63; refine (implId _ _).mono ?_; rintro e w' ⟨rfl, rfl⟩) | (go_at_call 64; refine (implMachine _ _).mono ?_; rintro e w' ⟨rfl, rfl⟩) | (go_at_call 65; refine (implPhase _ _).mono ?_; rintro e w' ⟨rfl, rfl⟩) | (go_at_call 66; refine (implDone _ _).mono ?_; rintro e w' ⟨rfl, rfl⟩) | (go_at_call 67; refine (implStamp _ _).mono ?_; rintro e w' ⟨rfl, rfl⟩))
    go_ret
    exact ⟨rfl, BW.out⟩
  by_cases g1 : inB 0 7 t.home = true
  case neg =>
    have d1 : inB 0 7 t.home = false := by simpa using g1
    have hb : txB t = false := by simp [txB, headB, d1]
    rw [hb]
    rw [hW] at BW
    clear H hW
    go_enter Try.func16, Try.ntmps16
    go_wp2_with (first | (go_at_call 63; refine (implId _ _).mono ?_; rintro e w' ⟨rfl, rfl⟩) | (go_at_call 64; refine (implMachine _ _).mono ?_; rintro e w' ⟨rfl, rfl⟩) | (go_at_call 65; refine (implPhase _ _).mono ?_; rintro e w' ⟨rfl, rfl⟩) | (go_at_call 66; refine (implDone _ _).mono ?_; rintro e w' ⟨rfl, rfl⟩) | (go_at_call 67; refine (implStamp _ _).mono ?_; rintro e w' ⟨rfl, rfl⟩))
    go_ret
    exact ⟨rfl, BW.out⟩
  by_cases g2 : inB 1 9 t.phase = true
  case neg =>
    have d2 : inB 1 9 t.phase = false := by simpa using g2
    have hb : txB t = false := by simp [txB, headB, d2]
    rw [hb]
    rw [hW] at BW
    clear H hW
    go_enter Try.func16, Try.ntmps16
    go_wp2_with (first | (go_at_call 63; refine (implId _ _).mono ?_; rintro e w' ⟨rfl, rfl⟩) | (go_at_call 64; refine (implMachine _ _).mono ?_; rintro e w' ⟨rfl, rfl⟩) | (go_at_call 65; refine (implPhase _ _).mono ?_; rintro e w' ⟨rfl, rfl⟩) | (go_at_call 66; refine (implDone _ _).mono ?_; rintro e w' ⟨rfl, rfl⟩) | (go_at_call 67; refine (implStamp _ _).mono ?_; rintro e w' ⟨rfl, rfl⟩))
    go_ret
    exact ⟨rfl, BW.out⟩
  by_cases g3 : inB 0 1000 t.count = true
  case neg =>
    have d3 : inB 0 1000 t.count = false := by simpa using g3
    have hb : txB t = false := by simp [txB, headB, d3]
    rw [hb]
    rw [hW] at BW
    clear H hW
    go_enter Try.func16, Try.ntmps16
    go_wp2_with (first | (go_at_call 63; refine (implId _ _).mono ?_; rintro e w' ⟨rfl, rfl⟩) | (go_at_call 64; refine (implMachine _ _).mono ?_; rintro e w' ⟨rfl, rfl⟩) | (go_at_call 65; refine (implPhase _ _).mono ?_; rintro e w' ⟨rfl, rfl⟩) | (go_at_call 66; refine (implDone _ _).mono ?_; rintro e w' ⟨rfl, rfl⟩) | (go_at_call 67; refine (implStamp _ _).mono ?_; rintro e w' ⟨rfl, rfl⟩))
    go_ret
    exact ⟨rfl, BW.out⟩
  by_cases g4 : inB 0 1000000 t.stamp = true
  case neg =>
    have d4 : inB 0 1000000 t.stamp = false := by simpa using g4
    have hb : txB t = false := by simp [txB, headB, d4]
    rw [hb]
    rw [hW] at BW
    clear H hW
    go_enter Try.func16, Try.ntmps16
    go_wp2_with (first | (go_at_call 63; refine (implId _ _).mono ?_; rintro e w' ⟨rfl, rfl⟩) | (go_at_call 64; refine (implMachine _ _).mono ?_; rintro e w' ⟨rfl, rfl⟩) | (go_at_call 65; refine (implPhase _ _).mono ?_; rintro e w' ⟨rfl, rfl⟩) | (go_at_call 66; refine (implDone _ _).mono ?_; rintro e w' ⟨rfl, rfl⟩) | (go_at_call 67; refine (implStamp _ _).mono ?_; rintro e w' ⟨rfl, rfl⟩))
    go_ret
    exact ⟨rfl, BW.out⟩
  have HM : Hid (txB t = ((decide (t.reads.length ≤ 12) && (List.range t.reads.length).all (noAt t.reads)) && (decide (t.sets.length ≤ 12) && (List.range t.sets.length).all (seAt t.sets)))) := by
    unfold Hid
    simp only [txB, headB, g0, g1, g2, g3, g4, Bool.true_and]
    cases decide (t.reads.length ≤ 12) <;> cases decide (t.sets.length ≤ 12) <;> simp
  have c1 := noEach_any W ar cr t.reads H.out.2.2.r H.out.1.r
  generalize hR : (decide (t.reads.length ≤ 12) && (List.range t.reads.length).all (noAt t.reads)) = R at *
  go_enter Try.func16, Try.ntmps16
  go_wp2_with (first | (go_at_call 63; refine (implId _ _).mono ?_; rintro e w' ⟨rfl, rfl⟩) | (go_at_call 64; refine (implMachine _ _).mono ?_; rintro e w' ⟨rfl, rfl⟩) | (go_at_call 65; refine (implPhase _ _).mono ?_; rintro e w' ⟨rfl, rfl⟩) | (go_at_call 66; refine (implDone _ _).mono ?_; rintro e w' ⟨rfl, rfl⟩) | (go_at_call 67; refine (implStamp _ _).mono ?_; rintro e w' ⟨rfl, rfl⟩) | fail)
  rw [← hW]
  clear hW g0 g1 g2 g3 g4
  refine c1.mono ?_
  clear c1
  rintro e w1 ⟨rfl, b1⟩
  have a5 := (H.out.2.1.later b1).c5
  have KB : Hid (Below w.heap.size w w1) := BW.out.trans (b1.mono BW.out.size)
  have c2 := seEach_any w1 ah ch t.sets H.out.2.2.s (H.out.1.later b1).s
  clear b1
  cases R with
  | false =>
    clear c2
    go_wp2
    go_ret
    exact ⟨by rw [HM.out]; rfl, KB.out⟩
  | true =>
    go_wp2_with fail
    refine c2.mono ?_
    clear c2
    rintro e w2 ⟨rfl, b2⟩
    go_wp2
    go_ret
    exact ⟨by rw [HM.out]; rfl, KB.out.trans (b2.mono KB.out.size)⟩
end Go.Proofs.Ytcfpancfdjgohaa
