/- What the program and the specification answer by Renew; what the laws' copy and comparison of leases do: with no condition. -/
import Derived.Test.YtlnnghlmhmnnlaaRows
import Derived.Test.YtlnnghlmhmnnlaaLease
import Derived.WalkKit
import Derived.WalkSpells
import Derived.WalkLawsBesides
import Derived.Below
namespace Go.Proofs.Ytlnnghlmhmnnlaa
open Go.RowKit
set_option maxHeartbeats 1000000 in
theorem implBegun (w : World) (l : L3) (now : Int) : Calls Try.prog 30 #[.agg #[.int .i64 l.holder, .int .i64 l.start, .int .i64 l.length], .int .i64 now] w fun e w' => e = .returned (.bool (begunB l now)) ∧ Below w.heap.size w w' := by
  have B0 : Below w.heap.size w (w.alloc (.cells #[.int .i64 l.holder, .int .i64 l.start, .int .i64 l.length] 25)) := (Below.refl _ _).alloc (Nat.le_refl _) _
  go_enter Try.func30, Try.ntmps30
  go_wp2_with fail
  refine (implLeaseOk _ l).mono ?_
  cases hb : leaseB l with
  | false =>
    rintro e w1 ⟨rfl, b1⟩
    go_wp2
    go_ret
    refine ⟨by simp [begunB, hb], B0.trans (b1.mono (by simp))⟩
  | true =>
    rintro e w1 ⟨rfl, b1⟩
    have c1 : w1.cell? ⟨w.heap.size, 1, none⟩ = some (.int .i64 l.start) := by rw [b1.cell (p := ⟨w.heap.size, 1, none⟩) (by simp)]; go_simp
    have B1 : Hid (Below w.heap.size w w1) := B0.trans (b1.mono (by simp))
    clear b1 B0
    cases ht : inB 0 1000000000000 now with
    | false =>
      go_wp2_with (go_at_call 39; refine (implTime _ _).mono ?_; rw [ht]; rintro e w' ⟨rfl, rfl⟩)
      go_ret
      refine ⟨by simp [begunB, hb, ht], B1.out⟩
    | true =>
      go_wp2_with (go_at_call 39; refine (implTime _ _).mono ?_; rw [ht]; rintro e w' ⟨rfl, rfl⟩)
      go_ret
      refine ⟨by simp [begunB, hb, ht], B1.out⟩
/-- The two blocks of Renew: the lease's box and the answer's. -/
theorem renew_cells {w w1 : World} {l : L3} (b1 : Below (w.heap.size + 2) ((w.alloc (.cells #[.int .i64 l.holder, .int .i64 l.start, .int .i64 l.length] 25)).alloc (.cells #[.int .i64 0, .int .i64 0, .int .i64 0] 25)) w1) :
    w1.cell? ⟨w.heap.size + 1, 0, none⟩ = some (.int .i64 0) ∧ w1.cell? ⟨w.heap.size + 1, 1, none⟩ = some (.int .i64 0) ∧ w1.cell? ⟨w.heap.size + 1, 2, none⟩ = some (.int .i64 0)
    ∧ w1.frozen? ⟨w.heap.size + 1, 0, none⟩ = false ∧ w1.frozen? ⟨w.heap.size + 1, 1, none⟩ = false ∧ w1.frozen? ⟨w.heap.size + 1, 2, none⟩ = false
    ∧ w1.cell? ⟨w.heap.size, 0, none⟩ = some (.int .i64 l.holder) ∧ w1.cell? ⟨w.heap.size, 1, none⟩ = some (.int .i64 l.start) ∧ w1.cell? ⟨w.heap.size, 2, none⟩ = some (.int .i64 l.length) ∧ w1.frozen? ⟨w.heap.size, 1, none⟩ = false := by
  refine ⟨?_, ?_, ?_, ?_, ?_, ?_, ?_, ?_, ?_, ?_⟩
  · rw [b1.cell (p := ⟨w.heap.size + 1, 0, none⟩) (by simp)]; go_simp
  · rw [b1.cell (p := ⟨w.heap.size + 1, 1, none⟩) (by simp)]; go_simp
  · rw [b1.cell (p := ⟨w.heap.size + 1, 2, none⟩) (by simp)]; go_simp
  · rw [b1.frozen (p := ⟨w.heap.size + 1, 0, none⟩) (by simp)]; go_simp
  · rw [b1.frozen (p := ⟨w.heap.size + 1, 1, none⟩) (by simp)]; go_simp
  · rw [b1.frozen (p := ⟨w.heap.size + 1, 2, none⟩) (by simp)]; go_simp
  · rw [b1.cell (p := ⟨w.heap.size, 0, none⟩) (by simp)]; go_simp
  · rw [b1.cell (p := ⟨w.heap.size, 1, none⟩) (by simp)]; go_simp
  · rw [b1.cell (p := ⟨w.heap.size, 2, none⟩) (by simp)]; go_simp
  · rw [b1.frozen (p := ⟨w.heap.size, 1, none⟩) (by simp)]; go_simp
theorem renew_no {w w1 : World} (h : Below w.heap.size w w1) (u0 u1 u2 : Value) : Below w.heap.size w (((w1.setCell ⟨w.heap.size + 1, 0, none⟩ u0).setCell ⟨w.heap.size + 1, 1, none⟩ u1).setCell ⟨w.heap.size + 1, 2, none⟩ u2) :=
  ((h.setCell (p := ⟨w.heap.size + 1, 0, none⟩) (Nat.le_succ _) _).setCell (p := ⟨w.heap.size + 1, 1, none⟩) (Nat.le_succ _) _).setCell (p := ⟨w.heap.size + 1, 2, none⟩) (Nat.le_succ _) _
set_option maxHeartbeats 1000000 in
theorem implRenew (w : World) (l : L3) (now : Int) : Calls Try.prog 17 #[.agg #[.int .i64 l.holder, .int .i64 l.start, .int .i64 l.length], .int .i64 now] w fun e w' =>
    e = .returned (.agg #[.int .i64 (renewL l now).holder, .int .i64 (renewL l now).start, .int .i64 (renewL l now).length]) ∧ Below w.heap.size w w' := by
  go_enter Try.func17, Try.ntmps17
  go_wp2_with fail
  have B0 : Below w.heap.size w ((w.alloc (.cells #[.int .i64 l.holder, .int .i64 l.start, .int .i64 l.length] 25)).alloc (.cells #[.int .i64 0, .int .i64 0, .int .i64 0] 25)) := ((Below.refl _ _).alloc (Nat.le_refl _) _).alloc (by simp) _
  refine (implBegun _ l now).mono ?_
  cases hb : begunB l now with
  | false =>
    rintro e w1 ⟨rfl, b1⟩
    obtain ⟨d0, d1, d2, f0, f1, f2, c0, c1, c2, g1⟩ := renew_cells (b1.mono (by simp))
    have B1 : Hid (Below w.heap.size w w1) := B0.trans (b1.mono (by simp; omega))
    clear b1 B0
    go_wp2
    refine bodyPost_ret (v := .agg #[.int .i64 0, .int .i64 0, .int .i64 0]) (by simp [results, Try.results17, go_sem, d0, d1, d2]) rfl ⟨by simp [renewL, hb], ?_⟩
    exact renew_no B1.out _ _ _
  | true =>
    rintro e w1 ⟨rfl, b1⟩
    obtain ⟨d0, d1, d2, f0, f1, f2, c0, c1, c2, g1⟩ := renew_cells (b1.mono (by simp))
    have B1 : Hid (Below w.heap.size w w1) := B0.trans (b1.mono (by simp; omega))
    clear b1 B0
    go_wp2
    refine bodyPost_ret (v := .agg #[.int .i64 l.holder, .int .i64 now, .int .i64 l.length]) (by simp [results, Try.results17, go_sem, d0, d1, d2]) rfl ⟨by simp [renewL, hb], ?_⟩
    exact renew_no (B1.out.setCell (p := ⟨w.heap.size, 1, none⟩) (Nat.le_refl _) _) _ _ _
set_option maxHeartbeats 1000000 in
theorem specRenew (w : World) (l : L3) (now : Int) : Calls Try.prog 18 #[.agg #[.int .i64 l.holder, .int .i64 l.start, .int .i64 l.length], .int .i64 now] w fun e w' =>
    e = .returned (.agg #[.int .i64 (renewL l now).holder, .int .i64 (renewL l now).start, .int .i64 (renewL l now).length]) ∧ Below w.heap.size w w' := by
  go_enter Try.func18, Try.ntmps18
  go_wp2_with fail
  have B0 : Below w.heap.size w ((w.alloc (.cells #[.int .i64 l.holder, .int .i64 l.start, .int .i64 l.length] 25)).alloc (.cells #[.int .i64 0, .int .i64 0, .int .i64 0] 25)) := ((Below.refl _ _).alloc (Nat.le_refl _) _).alloc (by simp) _
  refine (specLeaseOk _ l).mono ?_
  cases hb : leaseB l with
  | false =>
    rintro e w1 ⟨rfl, b1⟩
    obtain ⟨d0, d1, d2, f0, f1, f2, c0, c1, c2, g1⟩ := renew_cells (b1.mono (by simp))
    have B1 : Hid (Below w.heap.size w w1) := B0.trans (b1.mono (by simp; omega))
    clear b1 B0
    go_wp2
    refine bodyPost_ret (v := .agg #[.int .i64 0, .int .i64 0, .int .i64 0]) (by simp [results, Try.results18, go_sem, d0, d1, d2]) rfl ⟨by simp [renewL, begunB, hb], ?_⟩
    exact renew_no B1.out _ _ _
  | true =>
    rintro e w1 ⟨rfl, b1⟩
    obtain ⟨d0, d1, d2, f0, f1, f2, c0, c1, c2, g1⟩ := renew_cells (b1.mono (by simp))
    have B1 : Hid (Below w.heap.size w w1) := B0.trans (b1.mono (by simp; omega))
    clear b1 B0
    cases ht : inB 0 1000000000000 now with
    | false =>
      go_wp2_with (go_at_call 35; refine (specTime _ _).mono ?_; rw [ht]; rintro e w' ⟨rfl, rfl⟩)
      refine bodyPost_ret (v := .agg #[.int .i64 0, .int .i64 0, .int .i64 0]) (by simp [results, Try.results18, go_sem, d0, d1, d2]) rfl ⟨by simp [renewL, begunB, hb, ht], ?_⟩
      exact renew_no B1.out _ _ _
    | true =>
      by_cases hs : now < l.start
      · go_wp2_with (go_at_call 35; refine (specTime _ _).mono ?_; rw [ht]; rintro e w' ⟨rfl, rfl⟩)
        refine bodyPost_ret (v := .agg #[.int .i64 0, .int .i64 0, .int .i64 0]) (by simp [results, Try.results18, go_sem, d0, d1, d2]) rfl ⟨by simp [renewL, begunB, hb, ht, show ¬ l.start ≤ now by omega], ?_⟩
        exact renew_no B1.out _ _ _
      · have hd : decide (now < l.start) = false := by simp [hs]
        go_wp2_with (go_at_call 35; refine (specTime _ _).mono ?_; rw [ht]; rintro e w' ⟨rfl, rfl⟩)
        refine bodyPost_ret (v := .agg #[.int .i64 l.holder, .int .i64 now, .int .i64 l.length]) (by simp [results, Try.results18, go_sem, d0, d1, d2]) rfl ⟨by simp [renewL, begunB, hb, ht, show l.start ≤ now by omega], ?_⟩
        exact renew_no (B1.out.setCell (p := ⟨w.heap.size, 1, none⟩) (Nat.le_refl _) _) _ _ _
end Go.Proofs.Ytlnnghlmhmnnlaa
