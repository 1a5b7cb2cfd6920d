/- What the program's and the specification's SetOk answer at every Set, and what the law's copy of a Set is: one and the same, with no condition. -/
import Derived.Test.YthadnikhnikceaaRows
import Derived.WalkKit
import Derived.WalkSpells
import Derived.WalkLawsBesides
import Derived.Below
namespace Go.Proofs.Ythadnikhnikceaa
open Go.RowKit
/-- A Set's five fields. -/
structure S5 where
  region : Int
  slot : Int
  value : Int
  used : Bool
  version : Int
def inB (lo hi x : Int) : Bool := decide (lo ≤ x) && decide (x ≤ hi)
def setOkB (s : S5) : Bool := inB 0 5 s.region && inB 0 5 s.slot && inB (-1000000000) 1000000000 s.value && inB 0 999999 s.version
theorem inB_yes {lo hi x : Int} (h : lo ≤ x) (h' : x ≤ hi) : inB lo hi x = true := by simp [inB, h, h']
theorem inB_low {lo hi x : Int} (h : x < lo) : inB lo hi x = false := by simp [inB]; omega
theorem inB_high {lo hi x : Int} (h : hi < x) : inB lo hi x = false := by simp [inB]; omega
theorem inB_iff {lo hi x : Int} : inB lo hi x = true ↔ lo ≤ x ∧ x ≤ hi := by simp [inB]
theorem ret_bool {b b' : Bool} (h : b = true ↔ b' = true) : Ending.returned (Value.bool b) = Ending.returned (Value.bool b') := by rw [Bool.eq_iff_iff.2 h]
theorem specIn (w : World) (x lo hi : Int) : Calls Try.prog 103 #[.int .i64 x, .int .i64 lo, .int .i64 hi] w fun e w' => e = .returned (.bool (inB lo hi x)) ∧ w' = w := by
  go_enter Try.func103, Try.ntmps103
  go_wp2
  all_goals (go_ret; refine ⟨ret_bool ?_, rfl⟩; simp [inB_iff]; try omega)
theorem specRegion (w : World) (x : Int) : Calls Try.prog 111 #[.int .i64 x] w fun e w' => e = .returned (.bool (inB 0 5 x)) ∧ w' = w := by
  go_enter Try.func111, Try.ntmps111
  go_wp2_with (go_at_call 103; refine (specIn _ _ _ _).mono ?_; rintro e w' ⟨rfl, rfl⟩)
  go_ret
  exact ⟨rfl, rfl⟩
theorem specSlot (w : World) (x : Int) : Calls Try.prog 71 #[.int .i64 x] w fun e w' => e = .returned (.bool (inB 0 5 x)) ∧ w' = w := by
  go_enter Try.func71, Try.ntmps71
  go_wp2_with (go_at_call 103; refine (specIn _ _ _ _).mono ?_; rintro e w' ⟨rfl, rfl⟩)
  go_ret
  exact ⟨rfl, rfl⟩
theorem specValue (w : World) (x : Int) : Calls Try.prog 68 #[.int .i64 x] w fun e w' => e = .returned (.bool (inB (-1000000000) 1000000000 x)) ∧ w' = w := by
  go_enter Try.func68, Try.ntmps68
  go_wp2_with (go_at_call 103; refine (specIn _ _ _ _).mono ?_; rintro e w' ⟨rfl, rfl⟩)
  go_ret
  exact ⟨rfl, rfl⟩
theorem implRegion (w : World) (x : Int) : Calls Try.prog 99 #[.int .i64 x] w fun e w' => e = .returned (.bool (inB 0 5 x)) ∧ w' = w := by
  go_enter Try.func99, Try.ntmps99
  go_wp2
  all_goals (go_ret; refine ⟨ret_bool ?_, rfl⟩; simp [inB_iff]; try omega)
theorem implSlot (w : World) (x : Int) : Calls Try.prog 72 #[.int .i64 x] w fun e w' => e = .returned (.bool (inB 0 5 x)) ∧ w' = w := by
  go_enter Try.func72, Try.ntmps72
  go_wp2
  all_goals (go_ret; refine ⟨ret_bool ?_, rfl⟩; simp [inB_iff]; try omega)
theorem implValue (w : World) (x : Int) : Calls Try.prog 91 #[.int .i64 x] w fun e w' => e = .returned (.bool (inB (-1000000000) 1000000000 x)) ∧ w' = w := by
  go_enter Try.func91, Try.ntmps91
  go_wp2
  all_goals (go_ret; refine ⟨ret_bool ?_, rfl⟩; simp [inB_iff]; try omega)
set_option maxHeartbeats 1000000 in
theorem toSet_any (w : World) (s : S5) : Calls Try.prog 76 #[.agg #[.int .i64 s.region, .int .i64 s.slot, .int .i64 s.value, .bool s.used, .int .i64 s.version]] w fun e w' =>
    e = .returned (.agg #[.int .i64 s.region, .int .i64 s.slot, .int .i64 s.value, .bool s.used, .int .i64 s.version]) ∧ Below w.heap.size w w' := by
  obtain ⟨r, l, v, u, x⟩ := s
  go_enter Try.func76, Try.ntmps76
  go_wp2
  refine bodyPost_ret (v := .agg #[.int .i64 r, .int .i64 l, .int .i64 v, .bool u, .int .i64 x]) (by simp [results, Try.results76, go_sem]) rfl ⟨rfl, ?_⟩
  exact (((Below.refl _ _).alloc (Nat.le_refl _) _).alloc (by simp) _).alloc (by simp; omega) _
theorem specSetOk (w : World) (s : S5) : Calls Try.prog 104 #[.agg #[.int .i64 s.region, .int .i64 s.slot, .int .i64 s.value, .bool s.used, .int .i64 s.version]] w fun e w' => e = .returned (.bool (setOkB s)) ∧ Below w.heap.size w w' := by
  obtain ⟨r, l, v, u, x⟩ := s
  go_enter Try.func104, Try.ntmps104
  cases h1 : inB 0 5 r <;> cases h2 : inB 0 5 l <;> cases h3 : inB (-1000000000) 1000000000 v
  all_goals go_wp2_with (first | (go_at_call 103; refine (specIn _ _ _ _).mono ?_; rintro e w' ⟨rfl, rfl⟩) | (go_at_call 111; refine (specRegion _ _).mono ?_; rintro e w' ⟨rfl, rfl⟩) | (go_at_call 71; refine (specSlot _ _).mono ?_; rintro e w' ⟨rfl, rfl⟩) | (go_at_call 68; refine (specValue _ _).mono ?_; rintro e w' ⟨rfl, rfl⟩))
  all_goals (go_ret; refine ⟨ret_bool ?_, (Below.refl _ _).alloc (Nat.le_refl _) _⟩; simp only [setOkB, h1, h2, h3, Bool.and_true, Bool.and_false, Bool.false_and, Bool.true_and]; try simp [inB_iff]; try omega)
theorem implSetOk (w : World) (s : S5) : Calls Try.prog 114 #[.agg #[.int .i64 s.region, .int .i64 s.slot, .int .i64 s.value, .bool s.used, .int .i64 s.version]] w fun e w' => e = .returned (.bool (setOkB s)) ∧ Below w.heap.size w w' := by
  obtain ⟨r, l, v, u, x⟩ := s
  go_enter Try.func114, Try.ntmps114
  cases h1 : inB 0 5 r <;> cases h2 : inB 0 5 l <;> cases h3 : inB (-1000000000) 1000000000 v
  all_goals go_wp2_with (first | (go_at_call 99; refine (implRegion _ _).mono ?_; rintro e w' ⟨rfl, rfl⟩) | (go_at_call 72; refine (implSlot _ _).mono ?_; rintro e w' ⟨rfl, rfl⟩) | (go_at_call 91; refine (implValue _ _).mono ?_; rintro e w' ⟨rfl, rfl⟩))
  all_goals (go_ret; refine ⟨ret_bool ?_, (Below.refl _ _).alloc (Nat.le_refl _) _⟩; simp only [setOkB, h1, h2, h3, Bool.and_true, Bool.and_false, Bool.false_and, Bool.true_and]; try simp [inB_iff]; try omega)
end Go.Proofs.Ythadnikhnikceaa
