/- What the program and the specification answer of a lease (LeaseOk, Ends, Renew), and what the law's copy of a lease is: one and the same, with no condition. -/
import Derived.Test.YtlnnghlmhmnnlaaRows
import Derived.Test.YtlnnghlmhmnnlaaIn
import Derived.WalkKit
import Derived.WalkSpells
import Derived.WalkLawsBesides
import Derived.Below
namespace Go.Proofs.Ytlnnghlmhmnnlaa
open Go.RowKit
/-- A lease's three fields. -/
structure L3 where
  holder : Int
  start : Int
  length : Int
def leaseB (l : L3) : Bool := inB 0 7 l.holder && inB 0 1000000000000 l.start && inB 1 1000000000000 l.length
def begunB (l : L3) (now : Int) : Bool := leaseB l && inB 0 1000000000000 now && decide (l.start ≤ now)
def endsR (l : L3) : Int := if leaseB l = true then l.start + l.length else -1
def renewL (l : L3) (now : Int) : L3 := if begunB l now = true then ⟨l.holder, now, l.length⟩ else ⟨0, 0, 0⟩
theorem lease_bd {l : L3} (h : leaseB l = true) : 0 ≤ l.start ∧ l.start ≤ 1000000000000 ∧ 1 ≤ l.length ∧ l.length ≤ 1000000000000 := by
  simp [leaseB, inB] at h; omega
theorem specTime (w : World) (x : Int) : Calls Try.prog 35 #[.int .i64 x] w fun e w' => e = .returned (.bool (inB 0 1000000000000 x)) ∧ w' = w := by
  go_enter Try.func35, Try.ntmps35
  go_wp2_with (go_at_call 37; refine (specIn _ _ _ _).mono ?_; rintro e w' ⟨rfl, rfl⟩)
  go_ret
  exact ⟨rfl, rfl⟩
theorem specMachine (w : World) (x : Int) : Calls Try.prog 36 #[.int .i64 x] w fun e w' => e = .returned (.bool (inB 0 7 x)) ∧ w' = w := by
  go_enter Try.func36, Try.ntmps36
  go_wp2_with (go_at_call 37; refine (specIn _ _ _ _).mono ?_; rintro e w' ⟨rfl, rfl⟩)
  go_ret
  exact ⟨rfl, rfl⟩
theorem implMachine (w : World) (x : Int) : Calls Try.prog 38 #[.int .i64 x] w fun e w' => e = .returned (.bool (inB 0 7 x)) ∧ w' = w := by
  go_enter Try.func38, Try.ntmps38
  go_wp2
  all_goals (go_ret; refine ⟨ret_bool ?_, rfl⟩; simp [inB_iff]; try omega)
theorem implTime (w : World) (x : Int) : Calls Try.prog 39 #[.int .i64 x] w fun e w' => e = .returned (.bool (inB 0 1000000000000 x)) ∧ w' = w := by
  go_enter Try.func39, Try.ntmps39
  go_wp2
  all_goals (go_ret; refine ⟨ret_bool ?_, rfl⟩; simp [inB_iff]; try omega)
theorem implLength (w : World) (x : Int) : Calls Try.prog 40 #[.int .i64 x] w fun e w' => e = .returned (.bool (inB 1 1000000000000 x)) ∧ w' = w := by
  go_enter Try.func40, Try.ntmps40
  go_wp2
  all_goals (go_ret; refine ⟨ret_bool ?_, rfl⟩; simp [inB_iff]; try omega)
theorem implDrift (w : World) (x : Int) : Calls Try.prog 31 #[.int .i64 x] w fun e w' => e = .returned (.bool (inB 0 100000 x)) ∧ w' = w := by
  go_enter Try.func31, Try.ntmps31
  go_wp2
  all_goals (go_ret; refine ⟨ret_bool ?_, rfl⟩; simp [inB_iff]; try omega)
theorem specLeaseOk (w : World) (l : L3) : Calls Try.prog 21 #[.agg #[.int .i64 l.holder, .int .i64 l.start, .int .i64 l.length]] w fun e w' => e = .returned (.bool (leaseB l)) ∧ Below w.heap.size w w' := by
  obtain ⟨h, s, n⟩ := l
  go_enter Try.func21, Try.ntmps21
  cases h1 : inB 0 7 h <;> cases h2 : inB 0 1000000000000 s
  all_goals go_wp2_with (first | (go_at_call 37; refine (specIn _ _ _ _).mono ?_; rintro e w' ⟨rfl, rfl⟩) | (go_at_call 36; refine (specMachine _ _).mono ?_; rintro e w' ⟨rfl, rfl⟩) | (go_at_call 35; refine (specTime _ _).mono ?_; rintro e w' ⟨rfl, rfl⟩))
  all_goals (go_ret; refine ⟨ret_bool ?_, (Below.refl _ _).alloc (Nat.le_refl _) _⟩; simp only [leaseB, h1, h2, Bool.and_true, Bool.and_false, Bool.false_and, Bool.true_and]; try simp [inB_iff]; try omega)
theorem implLeaseOk (w : World) (l : L3) : Calls Try.prog 23 #[.agg #[.int .i64 l.holder, .int .i64 l.start, .int .i64 l.length]] w fun e w' => e = .returned (.bool (leaseB l)) ∧ Below w.heap.size w w' := by
  obtain ⟨h, s, n⟩ := l
  go_enter Try.func23, Try.ntmps23
  cases h1 : inB 0 7 h <;> cases h2 : inB 0 1000000000000 s
  all_goals go_wp2_with (first | (go_at_call 38; refine (implMachine _ _).mono ?_; rintro e w' ⟨rfl, rfl⟩) | (go_at_call 39; refine (implTime _ _).mono ?_; rintro e w' ⟨rfl, rfl⟩) | (go_at_call 40; refine (implLength _ _).mono ?_; rintro e w' ⟨rfl, rfl⟩))
  all_goals (go_ret; refine ⟨ret_bool ?_, (Below.refl _ _).alloc (Nat.le_refl _) _⟩; simp only [leaseB, h1, h2, Bool.and_true, Bool.and_false, Bool.false_and, Bool.true_and]; try simp [inB_iff]; try omega)
theorem implEnds (w : World) (l : L3) : Calls Try.prog 19 #[.agg #[.int .i64 l.holder, .int .i64 l.start, .int .i64 l.length]] w fun e w' => e = .returned (.int .i64 (endsR l)) ∧ Below w.heap.size w w' := by
  go_enter Try.func19, Try.ntmps19
  go_wp2_with fail
  refine (implLeaseOk _ l).mono ?_
  have B0 : Below w.heap.size w (w.alloc (.cells #[.int .i64 l.holder, .int .i64 l.start, .int .i64 l.length] 25)) := (Below.refl _ _).alloc (Nat.le_refl _) _
  cases hb : leaseB l with
  | false =>
    rintro e w1 ⟨rfl, b1⟩
    go_wp2
    go_ret
    refine ⟨by simp [endsR, hb], B0.trans (b1.mono (by simp))⟩
  | true =>
    obtain ⟨h1, h2, h3, h4⟩ := lease_bd hb
    rintro e w1 ⟨rfl, b1⟩
    have c1 : w1.cell? ⟨w.heap.size, 1, none⟩ = some (.int .i64 l.start) := by rw [b1.cell (p := ⟨w.heap.size, 1, none⟩) (by simp)]; go_simp
    have c2 : w1.cell? ⟨w.heap.size, 2, none⟩ = some (.int .i64 l.length) := by rw [b1.cell (p := ⟨w.heap.size, 2, none⟩) (by simp)]; go_simp
    have B1 : Hid (Below w.heap.size w w1) := B0.trans (b1.mono (by simp))
    clear b1 B0
    go_wp2
    go_ret
    refine ⟨by simp [endsR, hb], B1.out⟩
theorem specEnds (w : World) (l : L3) : Calls Try.prog 24 #[.agg #[.int .i64 l.holder, .int .i64 l.start, .int .i64 l.length]] w fun e w' => e = .returned (.int .i64 (endsR l)) ∧ Below w.heap.size w w' := by
  go_enter Try.func24, Try.ntmps24
  go_wp2_with fail
  refine (specLeaseOk _ l).mono ?_
  have B0 : Below w.heap.size w (w.alloc (.cells #[.int .i64 l.holder, .int .i64 l.start, .int .i64 l.length] 25)) := (Below.refl _ _).alloc (Nat.le_refl _) _
  cases hb : leaseB l with
  | false =>
    rintro e w1 ⟨rfl, b1⟩
    go_wp2
    go_ret
    refine ⟨by simp [endsR, hb], B0.trans (b1.mono (by simp))⟩
  | true =>
    obtain ⟨h1, h2, h3, h4⟩ := lease_bd hb
    rintro e w1 ⟨rfl, b1⟩
    have c1 : w1.cell? ⟨w.heap.size, 1, none⟩ = some (.int .i64 l.start) := by rw [b1.cell (p := ⟨w.heap.size, 1, none⟩) (by simp)]; go_simp
    have c2 : w1.cell? ⟨w.heap.size, 2, none⟩ = some (.int .i64 l.length) := by rw [b1.cell (p := ⟨w.heap.size, 2, none⟩) (by simp)]; go_simp
    have B1 : Hid (Below w.heap.size w w1) := B0.trans (b1.mono (by simp))
    clear b1 B0
    go_wp2
    go_ret
    refine ⟨by simp [endsR, hb], B1.out⟩
end Go.Proofs.Ytlnnghlmhmnnlaa
