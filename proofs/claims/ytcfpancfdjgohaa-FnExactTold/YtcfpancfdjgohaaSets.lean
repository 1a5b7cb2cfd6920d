/- What the program's and the specification's SetOk answer at every Set, and what the law's copy of a Set is: one and the same, with no condition. -/
import Derived.Test.YtcfpancfdjgohaaRows
import Derived.Test.YtcfpancfdjgohaaIn
import Derived.WalkKit
import Derived.WalkSpells
import Derived.WalkLawsBesides
import Derived.Below
namespace Go.Proofs.Ytcfpancfdjgohaa
open Go.RowKit
/-- A Set's five fields. -/
structure S5 where
  region : Int
  slot : Int
  value : Int
  used : Bool
  version : Int
def setOkB (s : S5) : Bool := inB 0 5 s.region && inB 0 5 s.slot && inB (-1000000000) 1000000000 s.value && inB 0 999999 s.version
theorem specRegion (w : World) (x : Int) : Calls Try.prog 96 #[.int .i64 x] w fun e w' => e = .returned (.bool (inB 0 5 x)) ∧ w' = w := by
  go_enter Try.func96, Try.ntmps96
  go_wp2_with (go_at_call 95; refine (specIn _ _ _ _).mono ?_; rintro e w' ⟨rfl, rfl⟩)
  go_ret
  exact ⟨rfl, rfl⟩
theorem specSlot (w : World) (x : Int) : Calls Try.prog 97 #[.int .i64 x] w fun e w' => e = .returned (.bool (inB 0 5 x)) ∧ w' = w := by
  go_enter Try.func97, Try.ntmps97
  go_wp2_with (go_at_call 95; refine (specIn _ _ _ _).mono ?_; rintro e w' ⟨rfl, rfl⟩)
  go_ret
  exact ⟨rfl, rfl⟩
theorem specValue (w : World) (x : Int) : Calls Try.prog 99 #[.int .i64 x] w fun e w' => e = .returned (.bool (inB (-1000000000) 1000000000 x)) ∧ w' = w := by
  go_enter Try.func99, Try.ntmps99
  go_wp2_with (go_at_call 95; refine (specIn _ _ _ _).mono ?_; rintro e w' ⟨rfl, rfl⟩)
  go_ret
  exact ⟨rfl, rfl⟩
theorem implRegion (w : World) (x : Int) : Calls Try.prog 89 #[.int .i64 x] w fun e w' => e = .returned (.bool (inB 0 5 x)) ∧ w' = w := by
  go_enter Try.func89, Try.ntmps89
  go_wp2
  all_goals (go_ret; refine ⟨ret_bool ?_, rfl⟩; simp [inB_iff]; try omega)
theorem implSlot (w : World) (x : Int) : Calls Try.prog 90 #[.int .i64 x] w fun e w' => e = .returned (.bool (inB 0 5 x)) ∧ w' = w := by
  go_enter Try.func90, Try.ntmps90
  go_wp2
  all_goals (go_ret; refine ⟨ret_bool ?_, rfl⟩; simp [inB_iff]; try omega)
theorem implValue (w : World) (x : Int) : Calls Try.prog 92 #[.int .i64 x] w fun e w' => e = .returned (.bool (inB (-1000000000) 1000000000 x)) ∧ w' = w := by
  go_enter Try.func92, Try.ntmps92
  go_wp2
  all_goals (go_ret; refine ⟨ret_bool ?_, rfl⟩; simp [inB_iff]; try omega)
set_option maxHeartbeats 1000000 in
theorem toSet_any (w : World) (s : S5) : Calls Try.prog 30 #[.agg #[.int .i64 s.region, .int .i64 s.slot, .int .i64 s.value, .bool s.used, .int .i64 s.version]] w fun e w' =>
    e = .returned (.agg #[.int .i64 s.region, .int .i64 s.slot, .int .i64 s.value, .bool s.used, .int .i64 s.version]) ∧ Below w.heap.size w w' := by
  obtain ⟨r, l, v, u, x⟩ := s
  go_enter Try.func30, Try.ntmps30
  go_wp2
  refine bodyPost_ret (v := .agg #[.int .i64 r, .int .i64 l, .int .i64 v, .bool u, .int .i64 x]) (by simp [results, Try.results30, go_sem]) rfl ⟨rfl, ?_⟩
  exact (((Below.refl _ _).alloc (Nat.le_refl _) _).alloc (by simp) _).alloc (by simp; omega) _
theorem specSetOk (w : World) (s : S5) : Calls Try.prog 61 #[.agg #[.int .i64 s.region, .int .i64 s.slot, .int .i64 s.value, .bool s.used, .int .i64 s.version]] w fun e w' => e = .returned (.bool (setOkB s)) ∧ Below w.heap.size w w' := by
  obtain ⟨r, l, v, u, x⟩ := s
  go_enter Try.func61, Try.ntmps61
  cases h1 : inB 0 5 r <;> cases h2 : inB 0 5 l <;> cases h3 : inB (-1000000000) 1000000000 v
  all_goals go_wp2_with (first | (go_at_call 95; refine (specIn _ _ _ _).mono ?_; rintro e w' ⟨rfl, rfl⟩) | (go_at_call 96; refine (specRegion _ _).mono ?_; rintro e w' ⟨rfl, rfl⟩) | (go_at_call 97; refine (specSlot _ _).mono ?_; rintro e w' ⟨rfl, rfl⟩) | (go_at_call 99; refine (specValue _ _).mono ?_; rintro e w' ⟨rfl, rfl⟩))
  all_goals (go_ret; refine ⟨ret_bool ?_, (Below.refl _ _).alloc (Nat.le_refl _) _⟩; simp only [setOkB, h1, h2, h3, Bool.and_true, Bool.and_false, Bool.false_and, Bool.true_and]; try simp [inB_iff]; try omega)
theorem implSetOk (w : World) (s : S5) : Calls Try.prog 54 #[.agg #[.int .i64 s.region, .int .i64 s.slot, .int .i64 s.value, .bool s.used, .int .i64 s.version]] w fun e w' => e = .returned (.bool (setOkB s)) ∧ Below w.heap.size w w' := by
  obtain ⟨r, l, v, u, x⟩ := s
  go_enter Try.func54, Try.ntmps54
  cases h1 : inB 0 5 r <;> cases h2 : inB 0 5 l <;> cases h3 : inB (-1000000000) 1000000000 v
  all_goals go_wp2_with (first | (go_at_call 89; refine (implRegion _ _).mono ?_; rintro e w' ⟨rfl, rfl⟩) | (go_at_call 90; refine (implSlot _ _).mono ?_; rintro e w' ⟨rfl, rfl⟩) | (go_at_call 92; refine (implValue _ _).mono ?_; rintro e w' ⟨rfl, rfl⟩))
  all_goals (go_ret; refine ⟨ret_bool ?_, (Below.refl _ _).alloc (Nat.le_refl _) _⟩; simp only [setOkB, h1, h2, h3, Bool.and_true, Bool.and_false, Bool.false_and, Bool.true_and]; try simp [inB_iff]; try omega)
end Go.Proofs.Ytcfpancfdjgohaa
