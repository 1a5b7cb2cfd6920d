/- FnLeases: who is safe is not dead at the same moment, and a renewed lease ends later, at every code: no condition. -/
import Derived.Test.YtlnnghlmhmnnlaaRows
import Derived.Test.YtlnnghlmhmnnlaaDrawL2
import Derived.Test.YtlnnghlmhmnnlaaBytesIn
import Derived.Test.YtlnnghlmhmnnlaaLease3
import Derived.WalkKit
import Derived.ProofKit
import Derived.OpenShut
import Derived.WalkSpells
import Derived.WalkLawsBesides
import Derived.Lib.QuietBelow
import Derived.BigQuiet
namespace Go.Proofs.Ytlnnghlmhmnnlaa
theorem safe_not_dead {l : L3} {now d : Int} (h : safeB l now d = true) : deadB l now d = false := by
  simp only [safeB, Bool.and_eq_true, decide_eq_true_eq] at h
  obtain ⟨k1, k2, k3, k4, k5, k6, k7⟩ := told_bd h.1
  have a1 : (now - l.start) * (1000000 - d) ≤ (now - l.start) * (1000000 + d) := Int.mul_le_mul_of_nonneg_left (by omega) (by omega)
  have a2 : l.length * (1000000 - d) ≤ l.length * (1000000 + d) := Int.mul_le_mul_of_nonneg_left (by omega) (by omega)
  have : ¬ l.length * (1000000 + d) < (now - l.start) * (1000000 - d) := by have := h.2; omega
  simp only [deadB, decide_eq_false this, Bool.and_false]
/-- What a renewed lease is. -/
theorem renew_yes {l : L3} {now : Int} (h : begunB l now = true) : (renewL l now).length ≠ 0 ∧ endsR l ≤ endsR (renewL l now) ∧ safeB (renewL l now) now 0 = true ∧ deadB (renewL l now) now 0 = false := by
  have hR : renewL l now = ⟨l.holder, now, l.length⟩ := by simp [renewL, h]
  simp only [begunB, leaseB, inB, Bool.and_eq_true, decide_eq_true_eq] at h
  have hl : leaseB l = true := by simp [leaseB, inB]; omega
  have hl' : leaseB ⟨l.holder, now, l.length⟩ = true := by simp [leaseB, inB]; omega
  have hs : safeB ⟨l.holder, now, l.length⟩ now 0 = true := by
    simp only [safeB, toldB, begunB, hl', inB, Bool.and_eq_true, decide_eq_true_eq]
    simp
    omega
  rw [hR]
  refine ⟨by simp; omega, ?_, hs, safe_not_dead hs⟩
  simp only [endsR, hl, hl', if_true]
  omega
theorem renew_no_zero {l : L3} {now : Int} (h : begunB l now = false) : renewL l now = ⟨0, 0, 0⟩ := by simp [renewL, h]
end Go.Proofs.Ytlnnghlmhmnnlaa
namespace Go.Proofs.Ytlnnghlmhmnnlaa.fnLeases
open Go.ChangeShapes Go.WideShapes Go.ChangeAt Go.RowKit
open Go.Sort (grow)
theorem own : ownKnob Try.prog.godebug = none := by kernel_rfl
theorem laidOut : laidOutB Try.prog = true := by kernel_rfl
set_option maxHeartbeats 4000000 in
theorem walk (a : Option Addr) (n k : Nat) (w : World) (hb : Bytes w w.heap.size a n) :
    Calls Try.prog 3 #[.slice a n k] w fun e w' => e = .returned (.bool true) ∧ Below w.heap.size w w' := by
  have hmm := hb.1
  unfold maxLen at hmm
  by_cases hn : n ≤ 4096
  · go_enter Try.func3, Try.ntmps3
    go_wp2_with (go_at_call 10; go_in)
    refine (DrawSafe_any w a n k hb hn).mono ?_
    rintro e w1 ⟨l, now, d, rfl, b1⟩
    go_wp2_with fail
    have HB : Hid (Bytes w w.heap.size a n) := hb
    have bx := LBox.new w1 l 25
    have zx : w1.heap.size < (w1.alloc (.cells #[.int .i64 l.holder, .int .i64 l.start, .int .i64 l.length] 25)).heap.size := by simp
    have BV : Hid (Below w.heap.size w (w1.alloc (.cells #[.int .i64 l.holder, .int .i64 l.start, .int .i64 l.length] 25))) := b1.alloc b1.size _
    clear hb b1
    generalize w1.alloc (.cells #[.int .i64 l.holder, .int .i64 l.start, .int .i64 l.length] 25) = V1 at *
    obtain ⟨c0, c1, c2, f0, f1, f2⟩ := bx
    clear f0 f1 f2
    have SND : Hid (safeB l now d = true → deadB l now d = false) := safe_not_dead
    refine (implSafe V1 l now d).mono ?_
    obtain ⟨S, hS⟩ : ∃ S, safeB l now d = S := ⟨_, rfl⟩
    rw [hS]
    rintro e V2 ⟨rfl, b2⟩
    have c0 := (b2.cell (p := ⟨w1.heap.size, 0, none⟩) zx).trans c0
    have c1 := (b2.cell (p := ⟨w1.heap.size, 1, none⟩) zx).trans c1
    have c2 := (b2.cell (p := ⟨w1.heap.size, 2, none⟩) zx).trans c2
    have zx2 := Nat.lt_of_lt_of_le zx b2.size
    have BV2 : Hid (Below w.heap.size w V2) := BV.out.trans (b2.mono BV.out.size)
    clear b2 zx BV
    go_wp2_with fail
    refine (implDead V2 l now d).mono ?_
    obtain ⟨E, hE⟩ : ∃ E, deadB l now d = E := ⟨_, rfl⟩
    rw [hE]
    rintro e V3 ⟨rfl, b3⟩
    have c0 := (b3.cell (p := ⟨w1.heap.size, 0, none⟩) zx2).trans c0
    have c1 := (b3.cell (p := ⟨w1.heap.size, 1, none⟩) zx2).trans c1
    have c2 := (b3.cell (p := ⟨w1.heap.size, 2, none⟩) zx2).trans c2
    have zx3 := Nat.lt_of_lt_of_le zx2 b3.size
    have BV3 : Hid (Below w.heap.size w V3) := BV2.out.trans (b3.mono BV2.out.size)
    clear b3 zx2 BV2
    go_wp2_with fail
    have hSp := specSafe V3 l now d
    rw [hS] at hSp
    refine hSp.mono ?_
    clear hSp
    rintro e V4 ⟨rfl, b4⟩
    have c0 := (b4.cell (p := ⟨w1.heap.size, 0, none⟩) zx3).trans c0
    have c1 := (b4.cell (p := ⟨w1.heap.size, 1, none⟩) zx3).trans c1
    have c2 := (b4.cell (p := ⟨w1.heap.size, 2, none⟩) zx3).trans c2
    have BV4 : Hid (Below w.heap.size w V4) := BV3.out.trans (b4.mono BV3.out.size)
    clear b4 zx3 BV3
    have dS : (S != S) = false := by cases S <;> rfl
    have dE : (E != E) = false := by cases E <;> rfl
    have SE : Hid (S = true → E = false) := fun h => hE ▸ SND.out (hS.trans h)
    go_wp2_with fail
    have hDp := specDead V4 l now d
    rw [hE] at hDp
    refine hDp.mono ?_
    clear hDp
    rintro e V5 ⟨rfl, b5⟩
    have BV5 : Hid (Below w.heap.size w V5) := BV4.out.trans (b5.mono BV4.out.size)
    clear b5 BV4 hS hE SND c0 c1 c2
    have DR := DrawRenew_any V5 a n k ((HB.out.below BV5.out).mono BV5.out.size) hn
    cases S with
    | false =>
      go_wp2_with fail
      refine DR.mono ?_
      rintro e u1 ⟨r, t, rfl, b1⟩
      have bx := LBox.new u1 r 25
      have zr : u1.heap.size < (u1.alloc (.cells #[.int .i64 r.holder, .int .i64 r.start, .int .i64 r.length] 25)).heap.size := by simp
      have BU : Hid (Below w.heap.size w (u1.alloc (.cells #[.int .i64 r.holder, .int .i64 r.start, .int .i64 r.length] 25))) := (BV5.out.trans (b1.mono BV5.out.size)).alloc (Nat.le_trans BV5.out.size b1.size) _
      clear b1 BV5 DR
      go_wp2_with fail
      generalize u1.alloc (.cells #[.int .i64 r.holder, .int .i64 r.start, .int .i64 r.length] 25) = U1 at *
      obtain ⟨d0, d1, d2, f0, f1, f2⟩ := bx
      clear f0 f1 f2
      obtain ⟨R, hR⟩ : ∃ R, renewL r t = R := ⟨_, rfl⟩
      have hI := implRenew U1 r t
      rw [hR] at hI
      refine hI.mono ?_
      clear hI
      rintro e U2 ⟨rfl, b2⟩
      have d0 := (b2.cell (p := ⟨u1.heap.size, 0, none⟩) zr).trans d0
      have d1 := (b2.cell (p := ⟨u1.heap.size, 1, none⟩) zr).trans d1
      have d2 := (b2.cell (p := ⟨u1.heap.size, 2, none⟩) zr).trans d2
      have zr2 := Nat.lt_of_lt_of_le zr b2.size
      have BU2 : Hid (Below w.heap.size w U2) := BU.out.trans (b2.mono BU.out.size)
      have bx := LBox.new U2 R 25
      have zR : U2.heap.size < (U2.alloc (.cells #[.int .i64 R.holder, .int .i64 R.start, .int .i64 R.length] 25)).heap.size := by simp
      have bA : Below U2.heap.size U2 (U2.alloc (.cells #[.int .i64 R.holder, .int .i64 R.start, .int .i64 R.length] 25)) := (Below.refl _ _).alloc (Nat.le_refl _) _
      have BU3 : Hid (Below w.heap.size w (U2.alloc (.cells #[.int .i64 R.holder, .int .i64 R.start, .int .i64 R.length] 25))) := BU2.out.alloc BU2.out.size _
      clear b2 BU zr BU2
      go_wp2_with fail
      generalize U2.alloc (.cells #[.int .i64 R.holder, .int .i64 R.start, .int .i64 R.length] 25) = U3 at *
      obtain ⟨e0, e1, e2, f0, f1, f2⟩ := bx
      clear f0 f1 f2
      have d0 := (bA.cell (p := ⟨u1.heap.size, 0, none⟩) zr2).trans d0
      have d1 := (bA.cell (p := ⟨u1.heap.size, 1, none⟩) zr2).trans d1
      have d2 := (bA.cell (p := ⟨u1.heap.size, 2, none⟩) zr2).trans d2
      have zr3 := Nat.lt_of_lt_of_le zr2 bA.size
      clear bA zr2
      have g0 : ∀ dd os, (grow (redrawn U3 dd) os).cell? ⟨u1.heap.size, 0, none⟩ = some (.int .i64 (r.holder)) := fun dd os => ((below_regrown U3 dd os).cell (p := ⟨u1.heap.size, 0, none⟩) zr3).trans d0
      have g1 : ∀ dd os, (grow (redrawn U3 dd) os).cell? ⟨u1.heap.size, 1, none⟩ = some (.int .i64 (r.start)) := fun dd os => ((below_regrown U3 dd os).cell (p := ⟨u1.heap.size, 1, none⟩) zr3).trans d1
      have g2 : ∀ dd os, (grow (redrawn U3 dd) os).cell? ⟨u1.heap.size, 2, none⟩ = some (.int .i64 (r.length)) := fun dd os => ((below_regrown U3 dd os).cell (p := ⟨u1.heap.size, 2, none⟩) zr3).trans d2
      have h0 : ∀ dd os, (grow (redrawn U3 dd) os).cell? ⟨U2.heap.size, 0, none⟩ = some (.int .i64 (R.holder)) := fun dd os => ((below_regrown U3 dd os).cell (p := ⟨U2.heap.size, 0, none⟩) zR).trans e0
      have h1 : ∀ dd os, (grow (redrawn U3 dd) os).cell? ⟨U2.heap.size, 1, none⟩ = some (.int .i64 (R.start)) := fun dd os => ((below_regrown U3 dd os).cell (p := ⟨U2.heap.size, 1, none⟩) zR).trans e1
      have h2 : ∀ dd os, (grow (redrawn U3 dd) os).cell? ⟨U2.heap.size, 2, none⟩ = some (.int .i64 (R.length)) := fun dd os => ((below_regrown U3 dd os).cell (p := ⟨U2.heap.size, 2, none⟩) zR).trans e2
      have hSR := fun W => specRenew W r t
      simp only [hR] at hSR
      have cS : ∀ dd os, Calls Try.prog 18 #[.agg #[.int .i64 r.holder, .int .i64 r.start, .int .i64 r.length], .int .i64 t] (grow (redrawn U3 dd) os) fun e w'' => e = .returned (.agg #[.int .i64 R.holder, .int .i64 R.start, .int .i64 R.length]) ∧ ∃ p : Regrown, w'' = grow (redrawn U3 p.d) p.os := fun dd os => Calls.regrown_of (hSR _)
      refine wp_region_quiet_below (by kernel_rfl) (by kernel_rfl) ?_
      repeat (go_big_quiet_step (exact cS _ _))
      refine wpQuiet_nil ?_
      intro _ hw'
      obtain ⟨⟨dq, osq⟩, hw''⟩ := hw'
      subst hw''
      have bq := below_regrown U3 dq osq
      generalize grow (redrawn U3 dq) osq = U4 at *
      have d0 := (bq.cell (p := ⟨u1.heap.size, 0, none⟩) zr3).trans d0
      have d1 := (bq.cell (p := ⟨u1.heap.size, 1, none⟩) zr3).trans d1
      have d2 := (bq.cell (p := ⟨u1.heap.size, 2, none⟩) zr3).trans d2
      have e0 := (bq.cell (p := ⟨U2.heap.size, 0, none⟩) zR).trans e0
      have e1 := (bq.cell (p := ⟨U2.heap.size, 1, none⟩) zR).trans e1
      have e2 := (bq.cell (p := ⟨U2.heap.size, 2, none⟩) zR).trans e2
      have zr4 := Nat.lt_of_lt_of_le zr3 bq.size
      have zR4 := Nat.lt_of_lt_of_le zR bq.size
      have BU4 : Hid (Below w.heap.size w U4) := BU3.out.trans (bq.mono BU3.out.size)
      clear bq BU3 g0 g1 g2 h0 h1 h2 cS hSR zr3 zR
      go_wp2_with fail
      cases hbg : begunB r t with
      | false =>
        have hz := hR.symm.trans (renew_no_zero hbg)
        subst hz
        simp only at e0 e1 e2
        have g0 : ∀ dd os, (grow (redrawn U4 dd) os).cell? ⟨u1.heap.size, 0, none⟩ = some (.int .i64 (r.holder)) := fun dd os => ((below_regrown U4 dd os).cell (p := ⟨u1.heap.size, 0, none⟩) zr4).trans d0
        have g1 : ∀ dd os, (grow (redrawn U4 dd) os).cell? ⟨u1.heap.size, 1, none⟩ = some (.int .i64 (r.start)) := fun dd os => ((below_regrown U4 dd os).cell (p := ⟨u1.heap.size, 1, none⟩) zr4).trans d1
        have g2 : ∀ dd os, (grow (redrawn U4 dd) os).cell? ⟨u1.heap.size, 2, none⟩ = some (.int .i64 (r.length)) := fun dd os => ((below_regrown U4 dd os).cell (p := ⟨u1.heap.size, 2, none⟩) zr4).trans d2
        have h0 : ∀ dd os, (grow (redrawn U4 dd) os).cell? ⟨U2.heap.size, 0, none⟩ = some (.int .i64 (0)) := fun dd os => ((below_regrown U4 dd os).cell (p := ⟨U2.heap.size, 0, none⟩) zR4).trans e0
        have h1 : ∀ dd os, (grow (redrawn U4 dd) os).cell? ⟨U2.heap.size, 1, none⟩ = some (.int .i64 (0)) := fun dd os => ((below_regrown U4 dd os).cell (p := ⟨U2.heap.size, 1, none⟩) zR4).trans e1
        have h2 : ∀ dd os, (grow (redrawn U4 dd) os).cell? ⟨U2.heap.size, 2, none⟩ = some (.int .i64 (0)) := fun dd os => ((below_regrown U4 dd os).cell (p := ⟨U2.heap.size, 2, none⟩) zR4).trans e2
        refine wp_region_quiet_below (by kernel_rfl) (by kernel_rfl) ?_
        repeat (go_big_quiet_step (fail))
        refine wpQuiet_nil ?_
        intro _ hw'
        obtain ⟨⟨dq, osq⟩, hw''⟩ := hw'
        subst hw''
        have bq := below_regrown U4 dq osq
        go_wp2
        go_ret
        exact ⟨by simp, BU4.out.trans (bq.mono BU4.out.size)⟩
      | true =>
        have hY := renew_yes hbg
        rw [hR] at hY
        obtain ⟨hl, hends, hsf, hdd⟩ := hY
        have hl' : (R.length == 0) = false := by simp [hl]
        have g0 : ∀ dd os, (grow (redrawn U4 dd) os).cell? ⟨u1.heap.size, 0, none⟩ = some (.int .i64 (r.holder)) := fun dd os => ((below_regrown U4 dd os).cell (p := ⟨u1.heap.size, 0, none⟩) zr4).trans d0
        have g1 : ∀ dd os, (grow (redrawn U4 dd) os).cell? ⟨u1.heap.size, 1, none⟩ = some (.int .i64 (r.start)) := fun dd os => ((below_regrown U4 dd os).cell (p := ⟨u1.heap.size, 1, none⟩) zr4).trans d1
        have g2 : ∀ dd os, (grow (redrawn U4 dd) os).cell? ⟨u1.heap.size, 2, none⟩ = some (.int .i64 (r.length)) := fun dd os => ((below_regrown U4 dd os).cell (p := ⟨u1.heap.size, 2, none⟩) zr4).trans d2
        have h0 : ∀ dd os, (grow (redrawn U4 dd) os).cell? ⟨U2.heap.size, 0, none⟩ = some (.int .i64 (R.holder)) := fun dd os => ((below_regrown U4 dd os).cell (p := ⟨U2.heap.size, 0, none⟩) zR4).trans e0
        have h1 : ∀ dd os, (grow (redrawn U4 dd) os).cell? ⟨U2.heap.size, 1, none⟩ = some (.int .i64 (R.start)) := fun dd os => ((below_regrown U4 dd os).cell (p := ⟨U2.heap.size, 1, none⟩) zR4).trans e1
        have h2 : ∀ dd os, (grow (redrawn U4 dd) os).cell? ⟨U2.heap.size, 2, none⟩ = some (.int .i64 (R.length)) := fun dd os => ((below_regrown U4 dd os).cell (p := ⟨U2.heap.size, 2, none⟩) zR4).trans e2
        have cE1 := fun W => implEnds W R
        have cE2 := fun W => implEnds W r
        have cSf := fun W => implSafe W R t 0
        have cDd := fun W => implDead W R t 0
        simp only [hsf] at cSf
        simp only [hdd] at cDd
        obtain ⟨x1, hx1⟩ : ∃ x, endsR R = x := ⟨_, rfl⟩
        obtain ⟨x2, hx2⟩ : ∃ x, endsR r = x := ⟨_, rfl⟩
        simp only [hx1] at cE1
        simp only [hx2] at cE2
        rw [hx1, hx2] at hends
        have hge : decide (x2 ≤ x1) = true := by simp [hends]
        have q1 : ∀ dd os, Calls Try.prog 19 #[.agg #[.int .i64 R.holder, .int .i64 R.start, .int .i64 R.length]] (grow (redrawn U4 dd) os) fun e w'' => e = .returned (.int .i64 x1) ∧ ∃ p : Regrown, w'' = grow (redrawn U4 p.d) p.os := fun dd os => Calls.regrown_of (cE1 _)
        have q2 : ∀ dd os, Calls Try.prog 19 #[.agg #[.int .i64 r.holder, .int .i64 r.start, .int .i64 r.length]] (grow (redrawn U4 dd) os) fun e w'' => e = .returned (.int .i64 x2) ∧ ∃ p : Regrown, w'' = grow (redrawn U4 p.d) p.os := fun dd os => Calls.regrown_of (cE2 _)
        have q3 : ∀ dd os, Calls Try.prog 12 #[.agg #[.int .i64 R.holder, .int .i64 R.start, .int .i64 R.length], .int .i64 t, .int .i64 0] (grow (redrawn U4 dd) os) fun e w'' => e = .returned (.bool true) ∧ ∃ p : Regrown, w'' = grow (redrawn U4 p.d) p.os := fun dd os => Calls.regrown_of (cSf _)
        have q4 : ∀ dd os, Calls Try.prog 13 #[.agg #[.int .i64 R.holder, .int .i64 R.start, .int .i64 R.length], .int .i64 t, .int .i64 0] (grow (redrawn U4 dd) os) fun e w'' => e = .returned (.bool false) ∧ ∃ p : Regrown, w'' = grow (redrawn U4 p.d) p.os := fun dd os => Calls.regrown_of (cDd _)
        clear cE1 cE2 cSf cDd hx1 hx2 hends hsf hdd hR hbg
        refine wp_region_quiet_below (by kernel_rfl) (by kernel_rfl) ?_
        repeat (go_big_quiet_step (first | (go_at_call_of 19 (Value.agg #[.int .i64 R.holder, .int .i64 R.start, .int .i64 R.length]); exact q1 _ _) | (go_at_call_of 19 (Value.agg #[.int .i64 r.holder, .int .i64 r.start, .int .i64 r.length]); exact q2 _ _) | (go_at_call 12; exact q3 _ _) | (go_at_call 13; exact q4 _ _)))
        refine wpQuiet_nil ?_
        intro _ hw'
        obtain ⟨⟨dq, osq⟩, hw''⟩ := hw'
        subst hw''
        have bq := below_regrown U4 dq osq
        go_wp2
        go_ret
        exact ⟨by simp, BU4.out.trans (bq.mono BU4.out.size)⟩
    | true =>
      have hE := SE.out rfl
      subst hE
      go_wp2_with fail
      refine DR.mono ?_
      rintro e u1 ⟨r, t, rfl, b1⟩
      have bx := LBox.new u1 r 25
      have zr : u1.heap.size < (u1.alloc (.cells #[.int .i64 r.holder, .int .i64 r.start, .int .i64 r.length] 25)).heap.size := by simp
      have BU : Hid (Below w.heap.size w (u1.alloc (.cells #[.int .i64 r.holder, .int .i64 r.start, .int .i64 r.length] 25))) := (BV5.out.trans (b1.mono BV5.out.size)).alloc (Nat.le_trans BV5.out.size b1.size) _
      clear b1 BV5 DR
      go_wp2_with fail
      generalize u1.alloc (.cells #[.int .i64 r.holder, .int .i64 r.start, .int .i64 r.length] 25) = U1 at *
      obtain ⟨d0, d1, d2, f0, f1, f2⟩ := bx
      clear f0 f1 f2
      obtain ⟨R, hR⟩ : ∃ R, renewL r t = R := ⟨_, rfl⟩
      have hI := implRenew U1 r t
      rw [hR] at hI
      refine hI.mono ?_
      clear hI
      rintro e U2 ⟨rfl, b2⟩
      have d0 := (b2.cell (p := ⟨u1.heap.size, 0, none⟩) zr).trans d0
      have d1 := (b2.cell (p := ⟨u1.heap.size, 1, none⟩) zr).trans d1
      have d2 := (b2.cell (p := ⟨u1.heap.size, 2, none⟩) zr).trans d2
      have zr2 := Nat.lt_of_lt_of_le zr b2.size
      have BU2 : Hid (Below w.heap.size w U2) := BU.out.trans (b2.mono BU.out.size)
      have bx := LBox.new U2 R 25
      have zR : U2.heap.size < (U2.alloc (.cells #[.int .i64 R.holder, .int .i64 R.start, .int .i64 R.length] 25)).heap.size := by simp
      have bA : Below U2.heap.size U2 (U2.alloc (.cells #[.int .i64 R.holder, .int .i64 R.start, .int .i64 R.length] 25)) := (Below.refl _ _).alloc (Nat.le_refl _) _
      have BU3 : Hid (Below w.heap.size w (U2.alloc (.cells #[.int .i64 R.holder, .int .i64 R.start, .int .i64 R.length] 25))) := BU2.out.alloc BU2.out.size _
      clear b2 BU zr BU2
      go_wp2_with fail
      generalize U2.alloc (.cells #[.int .i64 R.holder, .int .i64 R.start, .int .i64 R.length] 25) = U3 at *
      obtain ⟨e0, e1, e2, f0, f1, f2⟩ := bx
      clear f0 f1 f2
      have d0 := (bA.cell (p := ⟨u1.heap.size, 0, none⟩) zr2).trans d0
      have d1 := (bA.cell (p := ⟨u1.heap.size, 1, none⟩) zr2).trans d1
      have d2 := (bA.cell (p := ⟨u1.heap.size, 2, none⟩) zr2).trans d2
      have zr3 := Nat.lt_of_lt_of_le zr2 bA.size
      clear bA zr2
      have g0 : ∀ dd os, (grow (redrawn U3 dd) os).cell? ⟨u1.heap.size, 0, none⟩ = some (.int .i64 (r.holder)) := fun dd os => ((below_regrown U3 dd os).cell (p := ⟨u1.heap.size, 0, none⟩) zr3).trans d0
      have g1 : ∀ dd os, (grow (redrawn U3 dd) os).cell? ⟨u1.heap.size, 1, none⟩ = some (.int .i64 (r.start)) := fun dd os => ((below_regrown U3 dd os).cell (p := ⟨u1.heap.size, 1, none⟩) zr3).trans d1
      have g2 : ∀ dd os, (grow (redrawn U3 dd) os).cell? ⟨u1.heap.size, 2, none⟩ = some (.int .i64 (r.length)) := fun dd os => ((below_regrown U3 dd os).cell (p := ⟨u1.heap.size, 2, none⟩) zr3).trans d2
      have h0 : ∀ dd os, (grow (redrawn U3 dd) os).cell? ⟨U2.heap.size, 0, none⟩ = some (.int .i64 (R.holder)) := fun dd os => ((below_regrown U3 dd os).cell (p := ⟨U2.heap.size, 0, none⟩) zR).trans e0
      have h1 : ∀ dd os, (grow (redrawn U3 dd) os).cell? ⟨U2.heap.size, 1, none⟩ = some (.int .i64 (R.start)) := fun dd os => ((below_regrown U3 dd os).cell (p := ⟨U2.heap.size, 1, none⟩) zR).trans e1
      have h2 : ∀ dd os, (grow (redrawn U3 dd) os).cell? ⟨U2.heap.size, 2, none⟩ = some (.int .i64 (R.length)) := fun dd os => ((below_regrown U3 dd os).cell (p := ⟨U2.heap.size, 2, none⟩) zR).trans e2
      have hSR := fun W => specRenew W r t
      simp only [hR] at hSR
      have cS : ∀ dd os, Calls Try.prog 18 #[.agg #[.int .i64 r.holder, .int .i64 r.start, .int .i64 r.length], .int .i64 t] (grow (redrawn U3 dd) os) fun e w'' => e = .returned (.agg #[.int .i64 R.holder, .int .i64 R.start, .int .i64 R.length]) ∧ ∃ p : Regrown, w'' = grow (redrawn U3 p.d) p.os := fun dd os => Calls.regrown_of (hSR _)
      refine wp_region_quiet_below (by kernel_rfl) (by kernel_rfl) ?_
      repeat (go_big_quiet_step (exact cS _ _))
      refine wpQuiet_nil ?_
      intro _ hw'
      obtain ⟨⟨dq, osq⟩, hw''⟩ := hw'
      subst hw''
      have bq := below_regrown U3 dq osq
      generalize grow (redrawn U3 dq) osq = U4 at *
      have d0 := (bq.cell (p := ⟨u1.heap.size, 0, none⟩) zr3).trans d0
      have d1 := (bq.cell (p := ⟨u1.heap.size, 1, none⟩) zr3).trans d1
      have d2 := (bq.cell (p := ⟨u1.heap.size, 2, none⟩) zr3).trans d2
      have e0 := (bq.cell (p := ⟨U2.heap.size, 0, none⟩) zR).trans e0
      have e1 := (bq.cell (p := ⟨U2.heap.size, 1, none⟩) zR).trans e1
      have e2 := (bq.cell (p := ⟨U2.heap.size, 2, none⟩) zR).trans e2
      have zr4 := Nat.lt_of_lt_of_le zr3 bq.size
      have zR4 := Nat.lt_of_lt_of_le zR bq.size
      have BU4 : Hid (Below w.heap.size w U4) := BU3.out.trans (bq.mono BU3.out.size)
      clear bq BU3 g0 g1 g2 h0 h1 h2 cS hSR zr3 zR
      go_wp2_with fail
      cases hbg : begunB r t with
      | false =>
        have hz := hR.symm.trans (renew_no_zero hbg)
        subst hz
        simp only at e0 e1 e2
        have g0 : ∀ dd os, (grow (redrawn U4 dd) os).cell? ⟨u1.heap.size, 0, none⟩ = some (.int .i64 (r.holder)) := fun dd os => ((below_regrown U4 dd os).cell (p := ⟨u1.heap.size, 0, none⟩) zr4).trans d0
        have g1 : ∀ dd os, (grow (redrawn U4 dd) os).cell? ⟨u1.heap.size, 1, none⟩ = some (.int .i64 (r.start)) := fun dd os => ((below_regrown U4 dd os).cell (p := ⟨u1.heap.size, 1, none⟩) zr4).trans d1
        have g2 : ∀ dd os, (grow (redrawn U4 dd) os).cell? ⟨u1.heap.size, 2, none⟩ = some (.int .i64 (r.length)) := fun dd os => ((below_regrown U4 dd os).cell (p := ⟨u1.heap.size, 2, none⟩) zr4).trans d2
        have h0 : ∀ dd os, (grow (redrawn U4 dd) os).cell? ⟨U2.heap.size, 0, none⟩ = some (.int .i64 (0)) := fun dd os => ((below_regrown U4 dd os).cell (p := ⟨U2.heap.size, 0, none⟩) zR4).trans e0
        have h1 : ∀ dd os, (grow (redrawn U4 dd) os).cell? ⟨U2.heap.size, 1, none⟩ = some (.int .i64 (0)) := fun dd os => ((below_regrown U4 dd os).cell (p := ⟨U2.heap.size, 1, none⟩) zR4).trans e1
        have h2 : ∀ dd os, (grow (redrawn U4 dd) os).cell? ⟨U2.heap.size, 2, none⟩ = some (.int .i64 (0)) := fun dd os => ((below_regrown U4 dd os).cell (p := ⟨U2.heap.size, 2, none⟩) zR4).trans e2
        refine wp_region_quiet_below (by kernel_rfl) (by kernel_rfl) ?_
        repeat (go_big_quiet_step (fail))
        refine wpQuiet_nil ?_
        intro _ hw'
        obtain ⟨⟨dq, osq⟩, hw''⟩ := hw'
        subst hw''
        have bq := below_regrown U4 dq osq
        go_wp2
        go_ret
        exact ⟨by simp, BU4.out.trans (bq.mono BU4.out.size)⟩
      | true =>
        have hY := renew_yes hbg
        rw [hR] at hY
        obtain ⟨hl, hends, hsf, hdd⟩ := hY
        have hl' : (R.length == 0) = false := by simp [hl]
        have g0 : ∀ dd os, (grow (redrawn U4 dd) os).cell? ⟨u1.heap.size, 0, none⟩ = some (.int .i64 (r.holder)) := fun dd os => ((below_regrown U4 dd os).cell (p := ⟨u1.heap.size, 0, none⟩) zr4).trans d0
        have g1 : ∀ dd os, (grow (redrawn U4 dd) os).cell? ⟨u1.heap.size, 1, none⟩ = some (.int .i64 (r.start)) := fun dd os => ((below_regrown U4 dd os).cell (p := ⟨u1.heap.size, 1, none⟩) zr4).trans d1
        have g2 : ∀ dd os, (grow (redrawn U4 dd) os).cell? ⟨u1.heap.size, 2, none⟩ = some (.int .i64 (r.length)) := fun dd os => ((below_regrown U4 dd os).cell (p := ⟨u1.heap.size, 2, none⟩) zr4).trans d2
        have h0 : ∀ dd os, (grow (redrawn U4 dd) os).cell? ⟨U2.heap.size, 0, none⟩ = some (.int .i64 (R.holder)) := fun dd os => ((below_regrown U4 dd os).cell (p := ⟨U2.heap.size, 0, none⟩) zR4).trans e0
        have h1 : ∀ dd os, (grow (redrawn U4 dd) os).cell? ⟨U2.heap.size, 1, none⟩ = some (.int .i64 (R.start)) := fun dd os => ((below_regrown U4 dd os).cell (p := ⟨U2.heap.size, 1, none⟩) zR4).trans e1
        have h2 : ∀ dd os, (grow (redrawn U4 dd) os).cell? ⟨U2.heap.size, 2, none⟩ = some (.int .i64 (R.length)) := fun dd os => ((below_regrown U4 dd os).cell (p := ⟨U2.heap.size, 2, none⟩) zR4).trans e2
        have cE1 := fun W => implEnds W R
        have cE2 := fun W => implEnds W r
        have cSf := fun W => implSafe W R t 0
        have cDd := fun W => implDead W R t 0
        simp only [hsf] at cSf
        simp only [hdd] at cDd
        obtain ⟨x1, hx1⟩ : ∃ x, endsR R = x := ⟨_, rfl⟩
        obtain ⟨x2, hx2⟩ : ∃ x, endsR r = x := ⟨_, rfl⟩
        simp only [hx1] at cE1
        simp only [hx2] at cE2
        rw [hx1, hx2] at hends
        have hge : decide (x2 ≤ x1) = true := by simp [hends]
        have q1 : ∀ dd os, Calls Try.prog 19 #[.agg #[.int .i64 R.holder, .int .i64 R.start, .int .i64 R.length]] (grow (redrawn U4 dd) os) fun e w'' => e = .returned (.int .i64 x1) ∧ ∃ p : Regrown, w'' = grow (redrawn U4 p.d) p.os := fun dd os => Calls.regrown_of (cE1 _)
        have q2 : ∀ dd os, Calls Try.prog 19 #[.agg #[.int .i64 r.holder, .int .i64 r.start, .int .i64 r.length]] (grow (redrawn U4 dd) os) fun e w'' => e = .returned (.int .i64 x2) ∧ ∃ p : Regrown, w'' = grow (redrawn U4 p.d) p.os := fun dd os => Calls.regrown_of (cE2 _)
        have q3 : ∀ dd os, Calls Try.prog 12 #[.agg #[.int .i64 R.holder, .int .i64 R.start, .int .i64 R.length], .int .i64 t, .int .i64 0] (grow (redrawn U4 dd) os) fun e w'' => e = .returned (.bool true) ∧ ∃ p : Regrown, w'' = grow (redrawn U4 p.d) p.os := fun dd os => Calls.regrown_of (cSf _)
        have q4 : ∀ dd os, Calls Try.prog 13 #[.agg #[.int .i64 R.holder, .int .i64 R.start, .int .i64 R.length], .int .i64 t, .int .i64 0] (grow (redrawn U4 dd) os) fun e w'' => e = .returned (.bool false) ∧ ∃ p : Regrown, w'' = grow (redrawn U4 p.d) p.os := fun dd os => Calls.regrown_of (cDd _)
        clear cE1 cE2 cSf cDd hx1 hx2 hends hsf hdd hR hbg
        refine wp_region_quiet_below (by kernel_rfl) (by kernel_rfl) ?_
        repeat (go_big_quiet_step (first | (go_at_call_of 19 (Value.agg #[.int .i64 R.holder, .int .i64 R.start, .int .i64 R.length]); exact q1 _ _) | (go_at_call_of 19 (Value.agg #[.int .i64 r.holder, .int .i64 r.start, .int .i64 r.length]); exact q2 _ _) | (go_at_call 12; exact q3 _ _) | (go_at_call 13; exact q4 _ _)))
        refine wpQuiet_nil ?_
        intro _ hw'
        obtain ⟨⟨dq, osq⟩, hw''⟩ := hw'
        subst hw''
        have bq := below_regrown U4 dq osq
        go_wp2
        go_ret
        exact ⟨by simp, BU4.out.trans (bq.mono BU4.out.size)⟩
  · go_enter Try.func3, Try.ntmps3
    have hbig : (4096 : Int) < (n : Int) := by omega
    go_wp2_with (go_at_call 10; go_in)
    go_ret
    exact ⟨rfl, Below.refl _ _⟩
set_option maxRecDepth 100000 in
theorem lifted (os : Os) (started : os.Started) (H : Type) (enc : TypeId × Value → H) :
    ReturnsInHanded {} Try.checked os 3 .any (Rows.fnLeasesSpec.pre6 enc Try.prog Try.f3 Rows.fnLeasesRow.domain false) (Rows.fnLeasesSpec.post enc Try.prog Try.f3 false true false false) := by
  refine returnsInHanded_of_change (C := Try.checked) own started (by kernel_rfl) Try.func3
    (ChangeSpec.witness6 (enc := enc) (C := Try.checked) false ⟨#[], #[.slice none 0 0], []⟩ 8 (by kernel_rfl) (by kernel_rfl) (by kernel_rfl) (by kernel_rfl)) ?_
  intro W base args ds gs before hval0 hW hcnd _
  have hval : ∀ (j : Nat) t v, Try.f3.params[j]? = some t → args[j]? = some v → Value.okWide Try.prog W .any base t v := hval0
  have hW' := hW
  obtain ⟨p, q, hA0, hV, rfl, hfz, hnd⟩ := hW
  have hA : DataW.TrodAll enc Try.prog W 0 (fun _ => true) true Try.f3.params.toList args.toList ds p := hA0
  rw [Try.params3] at hA hval
  obtain ⟨v0, vs0, d0, ds0, p0, q0, hargs, rfl, rfl, h0, r0⟩ := trodAll_cons hA
  obtain ⟨rfl, rfl, rfl⟩ := trodAll_nil r0
  obtain rfl : args = #[v0] := by cases args; simp_all
  obtain ⟨rfl, rfl⟩ := trodVars_none hV
  obtain ⟨a0, len0, cap0, rfl⟩ := okWide_slice Try.underlying22 (hval 0 22 v0 rfl rfl)
  have k0 := h0
  have lt0 : ∀ x ∈ p0, x.block < W.heap.size := by obtain ⟨m, hm⟩ := k0; exact DataW.trod_lt m _ _ _ hm
  obtain ⟨z0, w0⟩ : ∃ zs, IsRow .u8 W a0 len0 cap0 zs := by
    obtain ⟨fuel, hf⟩ := h0
    rcases open_ints Try.underlying22 Try.underlying5 (by kernel_rfl) hf with ⟨hcs, _⟩ | ⟨x, l, c, zs, hcs, _, hl, hm, hz, _, hcell, hwz⟩
    · simp [Value.cells] at hcs
      obtain ⟨rfl, rfl, rfl⟩ := hcs
      exact ⟨[], .inl ⟨rfl, rfl, rfl, rfl⟩⟩
    · simp [Value.cells] at hcs
      obtain ⟨rfl, rfl, rfl⟩ := hcs
      exact ⟨zs, .inr ⟨_, rfl, hl, hm, by simpa using hz, hcell, hwz⟩⟩
  clear hA0 hval0
  refine (walk a0 len0 cap0 W w0.bytes).mono fun e W' ⟨he, bel⟩ => ?_
  subst he
  exact ⟨_, rfl, _, _, _, [], _, [], hW', trodAll_mk1 (shut_bool Try.underlying4 _), (trodAll_cons_mk (Below.trod laidOut (by kernel_rfl) (of_decide_eq_true (by kernel_rfl)) k0 bel lt0) trodAll_mk0), rfl, bel.frame _, fun h => by cases h⟩

theorem over : Rows.fnLeasesRow.holds Try.pinned (OpenSpec.ofChange Rows.fnLeasesSpec) :=
  OpenClaim.holds_of_wide 3 Try.f3 rfl rfl rfl rfl rfl rfl rfl ⟨rfl, rfl, rfl, rfl, rfl⟩ rfl rfl rfl rfl rfl (by kernel_rfl) Try.func3 (by kernel_rfl)
    (of_decide_eq_true (by kernel_rfl)) (by unfold Func.isWrapper; first | (rw [if_pos (by decide +kernel)]; kernel_rfl) | (rw [if_neg (by decide +kernel)]; exact ⟨rfl, rfl⟩))
    (fun os started H enc _ => lifted os started H enc)

end Go.Proofs.Ytlnnghlmhmnnlaa.fnLeases
namespace Go.Proofs.Ytlnnghlmhmnnlaa
theorem fnLeases_holds : Rows.FnLeasesSaid := fnLeases.over
#print axioms fnLeases_holds
end Go.Proofs.Ytlnnghlmhmnnlaa
