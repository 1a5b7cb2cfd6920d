/- What the program and the specification answer by Safe and Dead: with no condition. -/
import Derived.Test.YtlnnghlmhmnnlaaRows
import Derived.Test.YtlnnghlmhmnnlaaLease2
import Derived.WalkKit
import Derived.WalkSpells
import Derived.WalkLawsBesides
import Derived.Deep.QuietTactic
import Derived.BigQuiet
import Derived.Below
namespace Go.Proofs.Ytlnnghlmhmnnlaa
open Go.RowKit
theorem below_drewN {B : Nat} {a w : World} (h : Below B a w) (n : Nat) : Below B a (w.drewN n) := ⟨h.os, h.tape, h.output, h.size, h.block⟩
def toldB (l : L3) (now d : Int) : Bool := begunB l now && inB 0 100000 d
def safeB (l : L3) (now d : Int) : Bool := toldB l now d && decide ((now - l.start) * (1000000 + d) ≤ l.length * (1000000 - d))
def deadB (l : L3) (now d : Int) : Bool := toldB l now d && decide (l.length * (1000000 + d) < (now - l.start) * (1000000 - d))
theorem begun_bd {l : L3} {now : Int} (h : begunB l now = true) : 0 ≤ l.start ∧ l.start ≤ now ∧ now ≤ 1000000000000 ∧ 1 ≤ l.length ∧ l.length ≤ 1000000000000 := by
  simp [begunB, leaseB, inB] at h; omega
theorem wrap_mid (y : Int) (h : 0 ≤ y) (h' : y ≤ 4611686018427387904) : IntKind.i64.wrap y = y := by simp [IntKind.wrap, IntKind.bits, IntKind.signed]; omega
theorem count_bd {x m : Int} (h1 : 0 ≤ x) (h2 : x ≤ 1000000000000) (h3 : 0 ≤ m) (h4 : m ≤ 1100000) : 0 ≤ x * m ∧ x * m ≤ 1100000000000000000 := by
  refine ⟨Int.mul_nonneg h1 h3, ?_⟩
  have := Int.mul_le_mul h2 h4 h3 (by omega)
  omega
theorem count_wrap {x m : Int} (h1 : 0 ≤ x) (h2 : x ≤ 1000000000000) (h3 : 0 ≤ m) (h4 : m ≤ 1100000) : IntKind.i64.wrap (x * m) = x * m := by
  have := count_bd h1 h2 h3 h4
  exact wrap_mid _ this.1 (by omega)
theorem fastCall (w : World) (x d : Int) (b : Nat) (c : w.cell? ⟨b, 0, none⟩ = some (.int .i64 d)) (h1 : 0 ≤ x) (h2 : x ≤ 1000000000000) (h3 : 0 ≤ d) (h4 : d ≤ 100000) :
    Calls Try.prog 46 #[.int .i64 x, .pointer (some ⟨b, 0, none⟩)] w fun e w' => e = .returned (.int .i64 (x * (1000000 + d))) ∧ w' = w := by
  have hw : IntKind.i64.wrap (x * (1000000 + d)) = x * (1000000 + d) := count_wrap h1 h2 (by omega) (by omega)
  go_enter Try.func46, Try.ntmps46
  go_wp2
  go_ret
  exact ⟨rfl, rfl⟩
theorem slowCall (w : World) (x d : Int) (b : Nat) (c : w.cell? ⟨b, 0, none⟩ = some (.int .i64 d)) (h1 : 0 ≤ x) (h2 : x ≤ 1000000000000) (h3 : 0 ≤ d) (h4 : d ≤ 100000) :
    Calls Try.prog 47 #[.int .i64 x, .pointer (some ⟨b, 0, none⟩)] w fun e w' => e = .returned (.int .i64 (x * (1000000 - d))) ∧ w' = w := by
  have hw : IntKind.i64.wrap (x * (1000000 - d)) = x * (1000000 - d) := count_wrap h1 h2 (by omega) (by omega)
  go_enter Try.func47, Try.ntmps47
  go_wp2
  go_ret
  exact ⟨rfl, rfl⟩
theorem fastClock_any (w : World) (d : Int) :
    Calls Try.prog 32 #[.int .i64 d] w fun e w' => e = .returned (.func (.func 46) #[] #[.pointer (some ⟨w.heap.size, 0, none⟩)]) ∧ w' = w.alloc (.cells #[.int .i64 d] 2) := by
  go_enter Try.func32, Try.ntmps32
  go_wp2
  go_ret
  exact ⟨rfl, rfl⟩
theorem slowClock_any (w : World) (d : Int) :
    Calls Try.prog 33 #[.int .i64 d] w fun e w' => e = .returned (.func (.func 47) #[] #[.pointer (some ⟨w.heap.size, 0, none⟩)]) ∧ w' = w.alloc (.cells #[.int .i64 d] 2) := by
  go_enter Try.func33, Try.ntmps33
  go_wp2
  go_ret
  exact ⟨rfl, rfl⟩
set_option maxHeartbeats 2000000 in
theorem implSafe (w : World) (l : L3) (now d : Int) : Calls Try.prog 12 #[.agg #[.int .i64 l.holder, .int .i64 l.start, .int .i64 l.length], .int .i64 now, .int .i64 d] w fun e w' => e = .returned (.bool (safeB l now d)) ∧ Below w.heap.size w w' := by
  have B0 : Below w.heap.size w (w.alloc (.cells #[.int .i64 l.holder, .int .i64 l.start, .int .i64 l.length] 25)) := (Below.refl _ _).alloc (Nat.le_refl _) _
  go_enter Try.func12, Try.ntmps12
  go_wp2_with fail
  refine (implBegun _ l now).mono ?_
  cases hb : begunB l now with
  | false =>
    rintro e w1 ⟨rfl, b1⟩
    go_wp2
    go_ret
    refine ⟨by simp [safeB, toldB, hb], B0.trans (b1.mono (by simp))⟩
  | true =>
    rintro e w1 ⟨rfl, b1⟩
    have c1 : w1.cell? ⟨w.heap.size, 1, none⟩ = some (.int .i64 l.start) := by rw [b1.cell (p := ⟨w.heap.size, 1, none⟩) (by simp)]; go_simp
    have c2 : w1.cell? ⟨w.heap.size, 2, none⟩ = some (.int .i64 l.length) := by rw [b1.cell (p := ⟨w.heap.size, 2, none⟩) (by simp)]; go_simp
    have hlt : w.heap.size < w1.heap.size := by have := b1.size; simp at this; omega
    have B1 : Hid (Below w.heap.size w w1) := B0.trans (b1.mono (by simp))
    clear b1 B0
    cases ht : inB 0 100000 d with
    | false =>
      go_wp2_with (go_at_call 31; refine (implDrift _ _).mono ?_; rw [ht]; rintro e w' ⟨rfl, rfl⟩)
      go_ret
      refine ⟨by simp [safeB, toldB, hb, ht], B1.out⟩
    | true =>
      obtain ⟨k1, k2, k3, k4, k5⟩ := begun_bd hb
      obtain ⟨k6, k7⟩ := inB_iff.1 ht
      have hsub : IntKind.i64.wrap (now - l.start) = now - l.start := wrap_mid _ (by omega) (by omega)
      have cF : ∀ n, Calls Try.prog 46 #[.int .i64 (now - l.start), .pointer (some ⟨w1.heap.size, 0, none⟩)] (((w1.alloc (.cells #[.int .i64 d] 2)).alloc (.cells #[.int .i64 d] 2)).drewN n) fun e w'' => e = .returned (.int .i64 ((now - l.start) * (1000000 + d))) ∧ ∃ m, w'' = ((w1.alloc (.cells #[.int .i64 d] 2)).alloc (.cells #[.int .i64 d] 2)).drewN m :=
        fun n => Calls.quiet_of_same (fastCall _ _ d _ (by go_simp) (by omega) (by omega) k6 k7)
      have cS : ∀ n, Calls Try.prog 47 #[.int .i64 (l.length), .pointer (some ⟨w1.heap.size + 1, 0, none⟩)] (((w1.alloc (.cells #[.int .i64 d] 2)).alloc (.cells #[.int .i64 d] 2)).drewN n) fun e w'' => e = .returned (.int .i64 ((l.length) * (1000000 - d))) ∧ ∃ m, w'' = ((w1.alloc (.cells #[.int .i64 d] 2)).alloc (.cells #[.int .i64 d] 2)).drewN m :=
        fun n => Calls.quiet_of_same (slowCall _ _ d _ (by go_simp) (by omega) (by omega) k6 k7)
      have B2 : Hid (Below w.heap.size w ((w1.alloc (.cells #[.int .i64 d] 2)).alloc (.cells #[.int .i64 d] 2))) := (B1.out.alloc B1.out.size _).alloc (by have := B1.out.size; simp; omega) _
      go_wp2_with (first | (go_at_call 31; refine (implDrift _ _).mono ?_; rw [ht]; rintro e w1 ⟨rfl, rfl⟩) | (go_at_call 32; refine (fastClock_any _ _).mono ?_; rintro e w' ⟨rfl, rfl⟩) | (go_at_call 33; refine (slowClock_any _ _).mono ?_; rintro e w' ⟨rfl, rfl⟩))
      go_quiet (first | exact cF _ | exact cS _)
      go_wp2
      go_ret
      refine ⟨by simp [safeB, toldB, hb, ht], below_drewN B2.out _⟩
set_option maxHeartbeats 2000000 in
theorem implDead (w : World) (l : L3) (now d : Int) : Calls Try.prog 13 #[.agg #[.int .i64 l.holder, .int .i64 l.start, .int .i64 l.length], .int .i64 now, .int .i64 d] w fun e w' => e = .returned (.bool (deadB l now d)) ∧ Below w.heap.size w w' := by
  have B0 : Below w.heap.size w (w.alloc (.cells #[.int .i64 l.holder, .int .i64 l.start, .int .i64 l.length] 25)) := (Below.refl _ _).alloc (Nat.le_refl _) _
  go_enter Try.func13, Try.ntmps13
  go_wp2_with fail
  refine (implBegun _ l now).mono ?_
  cases hb : begunB l now with
  | false =>
    rintro e w1 ⟨rfl, b1⟩
    go_wp2
    go_ret
    refine ⟨by simp [deadB, toldB, hb], B0.trans (b1.mono (by simp))⟩
  | true =>
    rintro e w1 ⟨rfl, b1⟩
    have c1 : w1.cell? ⟨w.heap.size, 1, none⟩ = some (.int .i64 l.start) := by rw [b1.cell (p := ⟨w.heap.size, 1, none⟩) (by simp)]; go_simp
    have c2 : w1.cell? ⟨w.heap.size, 2, none⟩ = some (.int .i64 l.length) := by rw [b1.cell (p := ⟨w.heap.size, 2, none⟩) (by simp)]; go_simp
    have hlt : w.heap.size < w1.heap.size := by have := b1.size; simp at this; omega
    have B1 : Hid (Below w.heap.size w w1) := B0.trans (b1.mono (by simp))
    clear b1 B0
    cases ht : inB 0 100000 d with
    | false =>
      go_wp2_with (go_at_call 31; refine (implDrift _ _).mono ?_; rw [ht]; rintro e w' ⟨rfl, rfl⟩)
      go_ret
      refine ⟨by simp [deadB, toldB, hb, ht], B1.out⟩
    | true =>
      obtain ⟨k1, k2, k3, k4, k5⟩ := begun_bd hb
      obtain ⟨k6, k7⟩ := inB_iff.1 ht
      have hsub : IntKind.i64.wrap (now - l.start) = now - l.start := wrap_mid _ (by omega) (by omega)
      have cF : ∀ n, Calls Try.prog 46 #[.int .i64 (l.length), .pointer (some ⟨w1.heap.size, 0, none⟩)] (((w1.alloc (.cells #[.int .i64 d] 2)).alloc (.cells #[.int .i64 d] 2)).drewN n) fun e w'' => e = .returned (.int .i64 ((l.length) * (1000000 + d))) ∧ ∃ m, w'' = ((w1.alloc (.cells #[.int .i64 d] 2)).alloc (.cells #[.int .i64 d] 2)).drewN m :=
        fun n => Calls.quiet_of_same (fastCall _ _ d _ (by go_simp) (by omega) (by omega) k6 k7)
      have cS : ∀ n, Calls Try.prog 47 #[.int .i64 (now - l.start), .pointer (some ⟨w1.heap.size + 1, 0, none⟩)] (((w1.alloc (.cells #[.int .i64 d] 2)).alloc (.cells #[.int .i64 d] 2)).drewN n) fun e w'' => e = .returned (.int .i64 ((now - l.start) * (1000000 - d))) ∧ ∃ m, w'' = ((w1.alloc (.cells #[.int .i64 d] 2)).alloc (.cells #[.int .i64 d] 2)).drewN m :=
        fun n => Calls.quiet_of_same (slowCall _ _ d _ (by go_simp) (by omega) (by omega) k6 k7)
      have B2 : Hid (Below w.heap.size w ((w1.alloc (.cells #[.int .i64 d] 2)).alloc (.cells #[.int .i64 d] 2))) := (B1.out.alloc B1.out.size _).alloc (by have := B1.out.size; simp; omega) _
      go_wp2_with (first | (go_at_call 31; refine (implDrift _ _).mono ?_; rw [ht]; rintro e w1 ⟨rfl, rfl⟩) | (go_at_call 32; refine (fastClock_any _ _).mono ?_; rintro e w' ⟨rfl, rfl⟩) | (go_at_call 33; refine (slowClock_any _ _).mono ?_; rintro e w' ⟨rfl, rfl⟩))
      go_quiet (first | exact cF _ | exact cS _)
      go_wp2
      go_ret
      refine ⟨by simp [deadB, toldB, hb, ht], below_drewN B2.out _⟩
set_option maxHeartbeats 1000000 in
theorem specTold (w : World) (l : L3) (now d : Int) : Calls Try.prog 34 #[.agg #[.int .i64 l.holder, .int .i64 l.start, .int .i64 l.length], .int .i64 now, .int .i64 d] w fun e w' => e = .returned (.bool (toldB l now d)) ∧ Below w.heap.size w w' := by
  have B0 : Below w.heap.size w (w.alloc (.cells #[.int .i64 l.holder, .int .i64 l.start, .int .i64 l.length] 25)) := (Below.refl _ _).alloc (Nat.le_refl _) _
  go_enter Try.func34, Try.ntmps34
  go_wp2_with fail
  refine (specLeaseOk _ l).mono ?_
  cases hb : leaseB l with
  | false =>
    rintro e w1 ⟨rfl, b1⟩
    go_wp2
    go_ret
    refine ⟨by simp [toldB, begunB, hb], B0.trans (b1.mono (by simp))⟩
  | true =>
    rintro e w1 ⟨rfl, b1⟩
    have c1 : w1.cell? ⟨w.heap.size, 1, none⟩ = some (.int .i64 l.start) := by rw [b1.cell (p := ⟨w.heap.size, 1, none⟩) (by simp)]; go_simp
    have B1 : Hid (Below w.heap.size w w1) := B0.trans (b1.mono (by simp))
    clear b1 B0
    cases ht : inB 0 1000000000000 now with
    | false =>
      go_wp2_with (go_at_call 35; refine (specTime _ _).mono ?_; rw [ht]; rintro e w1 ⟨rfl, rfl⟩)
      go_ret
      refine ⟨by simp [toldB, begunB, hb, ht], B1.out⟩
    | true =>
      by_cases hs : l.start ≤ now
      · have hd : decide (l.start ≤ now) = true := by simp [hs]
        go_wp2_with (first | (go_at_call 35; refine (specTime _ _).mono ?_; rw [ht]; rintro e w1 ⟨rfl, rfl⟩) | (go_at_call 37; refine (specIn _ _ _ _).mono ?_; rintro e w1 ⟨rfl, rfl⟩))
        go_ret
        refine ⟨by simp [toldB, begunB, hb, ht, hs], B1.out⟩
      · have hd : decide (l.start ≤ now) = false := by simp [hs]
        go_wp2_with (first | (go_at_call 35; refine (specTime _ _).mono ?_; rw [ht]; rintro e w1 ⟨rfl, rfl⟩) | (go_at_call 37; refine (specIn _ _ _ _).mono ?_; rintro e w1 ⟨rfl, rfl⟩))
        go_ret
        refine ⟨by simp only [toldB, begunB, hb, ht, hd]; rfl, B1.out⟩
theorem told_bd {l : L3} {now d : Int} (h : toldB l now d = true) : 0 ≤ l.start ∧ l.start ≤ now ∧ now ≤ 1000000000000 ∧ 1 ≤ l.length ∧ l.length ≤ 1000000000000 ∧ 0 ≤ d ∧ d ≤ 100000 := by
  simp [toldB, begunB, leaseB, inB] at h; omega
set_option maxHeartbeats 1000000 in
theorem specSafe (w : World) (l : L3) (now d : Int) : Calls Try.prog 14 #[.agg #[.int .i64 l.holder, .int .i64 l.start, .int .i64 l.length], .int .i64 now, .int .i64 d] w fun e w' => e = .returned (.bool (safeB l now d)) ∧ Below w.heap.size w w' := by
  have B0 : Below w.heap.size w (w.alloc (.cells #[.int .i64 l.holder, .int .i64 l.start, .int .i64 l.length] 25)) := (Below.refl _ _).alloc (Nat.le_refl _) _
  go_enter Try.func14, Try.ntmps14
  go_wp2_with fail
  refine (specTold _ l now d).mono ?_
  cases hb : toldB l now d with
  | false =>
    rintro e w1 ⟨rfl, b1⟩
    go_wp2
    go_ret
    refine ⟨by simp [safeB, hb], B0.trans (b1.mono (by simp))⟩
  | true =>
    rintro e w1 ⟨rfl, b1⟩
    have c1 : w1.cell? ⟨w.heap.size, 1, none⟩ = some (.int .i64 l.start) := by rw [b1.cell (p := ⟨w.heap.size, 1, none⟩) (by simp)]; go_simp
    have c2 : w1.cell? ⟨w.heap.size, 2, none⟩ = some (.int .i64 l.length) := by rw [b1.cell (p := ⟨w.heap.size, 2, none⟩) (by simp)]; go_simp
    have B1 : Hid (Below w.heap.size w w1) := B0.trans (b1.mono (by simp))
    clear b1 B0
    obtain ⟨k1, k2, k3, k4, k5, k6, k7⟩ := told_bd hb
    have w1' : IntKind.i64.wrap ((now - l.start) * (1000000 + d)) = (now - l.start) * (1000000 + d) := count_wrap (by omega) (by omega) (by omega) (by omega)
    have w2' : IntKind.i64.wrap (l.length * (1000000 - d)) = l.length * (1000000 - d) := count_wrap (by omega) (by omega) (by omega) (by omega)
    go_wp2
    go_ret
    refine ⟨by simp [safeB, hb], B1.out⟩
set_option maxHeartbeats 1000000 in
theorem specDead (w : World) (l : L3) (now d : Int) : Calls Try.prog 15 #[.agg #[.int .i64 l.holder, .int .i64 l.start, .int .i64 l.length], .int .i64 now, .int .i64 d] w fun e w' => e = .returned (.bool (deadB l now d)) ∧ Below w.heap.size w w' := by
  have B0 : Below w.heap.size w (w.alloc (.cells #[.int .i64 l.holder, .int .i64 l.start, .int .i64 l.length] 25)) := (Below.refl _ _).alloc (Nat.le_refl _) _
  go_enter Try.func15, Try.ntmps15
  go_wp2_with fail
  refine (specTold _ l now d).mono ?_
  cases hb : toldB l now d with
  | false =>
    rintro e w1 ⟨rfl, b1⟩
    go_wp2
    go_ret
    refine ⟨by simp [deadB, hb], B0.trans (b1.mono (by simp))⟩
  | true =>
    rintro e w1 ⟨rfl, b1⟩
    have c1 : w1.cell? ⟨w.heap.size, 1, none⟩ = some (.int .i64 l.start) := by rw [b1.cell (p := ⟨w.heap.size, 1, none⟩) (by simp)]; go_simp
    have c2 : w1.cell? ⟨w.heap.size, 2, none⟩ = some (.int .i64 l.length) := by rw [b1.cell (p := ⟨w.heap.size, 2, none⟩) (by simp)]; go_simp
    have B1 : Hid (Below w.heap.size w w1) := B0.trans (b1.mono (by simp))
    clear b1 B0
    obtain ⟨k1, k2, k3, k4, k5, k6, k7⟩ := told_bd hb
    have w1' : IntKind.i64.wrap ((now - l.start) * (1000000 - d)) = (now - l.start) * (1000000 - d) := count_wrap (by omega) (by omega) (by omega) (by omega)
    have w2' : IntKind.i64.wrap (l.length * (1000000 + d)) = l.length * (1000000 + d) := count_wrap (by omega) (by omega) (by omega) (by omega)
    go_wp2
    go_ret
    refine ⟨by simp [deadB, hb], B1.out⟩
end Go.Proofs.Ytlnnghlmhmnnlaa
