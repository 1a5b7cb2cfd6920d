/- What each function on heads, of the program and of the specification, returns; none of them changes the world. -/
import Derived.Test.YtilgcdlicklaeaaRows
import Derived.Test.YtilgcdlicklaeaaPlain
import Derived.WalkKit
import Derived.WalkSpells
import Derived.WalkLawsBesides
namespace Go.Proofs.Ytilgcdlicklaeaa
open Go.RowKit
set_option maxHeartbeats 400000 in
theorem implPack_yes (v : Int) (u l : Bool) (w : World) (h1 : 0 ≤ v) (h2 : v ≤ 1000000) :
    Calls Try.prog 12 #[.int .i64 v, .bool u, .bool l] w fun e w' => e = .returned (.tuple #[.int .i64 (v * 4 + bump u l), .bool true]) ∧ w' = w := by
  have b1 := or4_2 v h1 h2
  have b2 := or4_1 v h1 h2
  have b3 := or42_1 v h1 h2
  cases u <;> cases l
  all_goals
    go_enter Try.func12, Try.ntmps12
    go_wp2
    go_ret2
    exact ⟨by simp [bump], rfl⟩
set_option maxHeartbeats 400000 in
theorem implPack_no (v : Int) (u l : Bool) (w : World) (h : v < 0 ∨ 1000000 < v) :
    Calls Try.prog 12 #[.int .i64 v, .bool u, .bool l] w fun e w' => e = .returned (.tuple #[.int .i64 0, .bool false]) ∧ w' = w := by
  rcases h with h | h
  all_goals
    go_enter Try.func12, Try.ntmps12
    go_wp2
    go_ret2
    exact ⟨rfl, rfl⟩
set_option maxHeartbeats 400000 in
theorem specPack_yes (v : Int) (u l : Bool) (w : World) (h1 : 0 ≤ v) (h2 : v ≤ 1000000) :
    Calls Try.prog 13 #[.int .i64 v, .bool u, .bool l] w fun e w' => e = .returned (.tuple #[.int .i64 (v * 4 + bump u l), .bool true]) ∧ w' = w := by
  cases u <;> cases l
  all_goals
    go_enter Try.func13, Try.ntmps13
    go_wp2
    go_ret2
    exact ⟨by simp [bump]; try omega, rfl⟩
set_option maxHeartbeats 400000 in
theorem specPack_no (v : Int) (u l : Bool) (w : World) (h : v < 0 ∨ 1000000 < v) :
    Calls Try.prog 13 #[.int .i64 v, .bool u, .bool l] w fun e w' => e = .returned (.tuple #[.int .i64 0, .bool false]) ∧ w' = w := by
  rcases h with h | h
  · go_enter Try.func13, Try.ntmps13
    go_wp2
    go_ret2
    exact ⟨rfl, rfl⟩
  · have d : decide (v ≤ 1000000) = false := by simp; omega
    go_enter Try.func13, Try.ntmps13
    go_wp2
    go_ret2
    exact ⟨rfl, rfl⟩
set_option maxHeartbeats 400000 in
theorem implHeadOk_yes (h : Int) (w : World) (h1 : 0 ≤ h) (h2 : h ≤ 4000003) :
    Calls Try.prog 17 #[.int .i64 h] w fun e w' => e = .returned (.bool true) ∧ w' = w := by
  go_enter Try.func17, Try.ntmps17
  go_wp2
  go_ret
  exact ⟨by simp [*], rfl⟩
set_option maxHeartbeats 400000 in
theorem implHeadOk_no (h : Int) (w : World) (hh : h < 0 ∨ 4000003 < h) :
    Calls Try.prog 17 #[.int .i64 h] w fun e w' => e = .returned (.bool false) ∧ w' = w := by
  rcases hh with hh | hh
  all_goals
    go_enter Try.func17, Try.ntmps17
    go_wp2
    go_ret
    exact ⟨by simp; try omega, rfl⟩
set_option maxHeartbeats 400000 in
theorem specHeadOk_yes (h : Int) (w : World) (h1 : 0 ≤ h) (h2 : h ≤ 4000003) :
    Calls Try.prog 21 #[.int .i64 h] w fun e w' => e = .returned (.bool true) ∧ w' = w := by
  go_enter Try.func21, Try.ntmps21
  go_wp2
  go_ret
  exact ⟨by simp [*], rfl⟩
set_option maxHeartbeats 400000 in
theorem specHeadOk_no (h : Int) (w : World) (hh : h < 0 ∨ 4000003 < h) :
    Calls Try.prog 21 #[.int .i64 h] w fun e w' => e = .returned (.bool false) ∧ w' = w := by
  rcases hh with hh | hh
  all_goals
    go_enter Try.func21, Try.ntmps21
    go_wp2
    go_ret
    exact ⟨by simp; try omega, rfl⟩
set_option maxHeartbeats 400000 in
theorem implVersion_yes (h : Int) (w : World) (h1 : 0 ≤ h) (h2 : h ≤ 4000003) :
    Calls Try.prog 14 #[.int .i64 h] w fun e w' => e = .returned (.int .i64 (h / 4)) ∧ w' = w := by
  · go_enter Try.func14, Try.ntmps14
    go_wp2
    go_ret
    exact ⟨rfl, rfl⟩
set_option maxHeartbeats 400000 in
theorem implVersion_no (h : Int) (w : World) (hh : h < 0 ∨ 4000003 < h) :
    Calls Try.prog 14 #[.int .i64 h] w fun e w' => e = .returned (.int .i64 (-1)) ∧ w' = w := by
  rcases hh with hh | hh
  · have d : decide (0 ≤ h) = false := by simp; omega
    go_enter Try.func14, Try.ntmps14
    go_wp2
    go_ret
    exact ⟨rfl, rfl⟩
  · have d : decide (h ≤ 4000003) = false := by simp; omega
    go_enter Try.func14, Try.ntmps14
    go_wp2
    go_ret
    exact ⟨rfl, rfl⟩
set_option maxHeartbeats 400000 in
theorem implUsed_yes (h : Int) (w : World) (h1 : 0 ≤ h) (h2 : h ≤ 4000003) :
    Calls Try.prog 15 #[.int .i64 h] w fun e w' => e = .returned (.bool (usedB h)) ∧ w' = w := by
  · have b2 := and_2 h h1 h2
    go_enter Try.func15, Try.ntmps15
    go_wp2
    go_ret
    exact ⟨ret_bool (used_ne h), rfl⟩
set_option maxHeartbeats 400000 in
theorem implUsed_no (h : Int) (w : World) (hh : h < 0 ∨ 4000003 < h) :
    Calls Try.prog 15 #[.int .i64 h] w fun e w' => e = .returned (.bool false) ∧ w' = w := by
  rcases hh with hh | hh
  · have d : decide (0 ≤ h) = false := by simp; omega
    go_enter Try.func15, Try.ntmps15
    go_wp2
    go_ret
    exact ⟨rfl, rfl⟩
  · have d : decide (h ≤ 4000003) = false := by simp; omega
    go_enter Try.func15, Try.ntmps15
    go_wp2
    go_ret
    exact ⟨rfl, rfl⟩
set_option maxHeartbeats 400000 in
theorem implLocked_yes (h : Int) (w : World) (h1 : 0 ≤ h) (h2 : h ≤ 4000003) :
    Calls Try.prog 16 #[.int .i64 h] w fun e w' => e = .returned (.bool (lockedB h)) ∧ w' = w := by
  · have b1 := and_1 h h1 h2
    go_enter Try.func16, Try.ntmps16
    go_wp2
    go_ret
    exact ⟨ret_bool (locked_ne h), rfl⟩
set_option maxHeartbeats 400000 in
theorem implLocked_no (h : Int) (w : World) (hh : h < 0 ∨ 4000003 < h) :
    Calls Try.prog 16 #[.int .i64 h] w fun e w' => e = .returned (.bool false) ∧ w' = w := by
  rcases hh with hh | hh
  · have d : decide (0 ≤ h) = false := by simp; omega
    go_enter Try.func16, Try.ntmps16
    go_wp2
    go_ret
    exact ⟨rfl, rfl⟩
  · have d : decide (h ≤ 4000003) = false := by simp; omega
    go_enter Try.func16, Try.ntmps16
    go_wp2
    go_ret
    exact ⟨rfl, rfl⟩
set_option maxHeartbeats 400000 in
theorem specVersion_yes (h : Int) (w : World) (h1 : 0 ≤ h) (h2 : h ≤ 4000003) :
    Calls Try.prog 22 #[.int .i64 h] w fun e w' => e = .returned (.int .i64 (h / 4)) ∧ w' = w := by
  · go_enter Try.func22, Try.ntmps22
    go_wp2
    go_ret
    exact ⟨rfl, rfl⟩
set_option maxHeartbeats 400000 in
theorem specVersion_no (h : Int) (w : World) (hh : h < 0 ∨ 4000003 < h) :
    Calls Try.prog 22 #[.int .i64 h] w fun e w' => e = .returned (.int .i64 (-1)) ∧ w' = w := by
  rcases hh with hh | hh
  · have d : decide (0 ≤ h) = false := by simp; omega
    go_enter Try.func22, Try.ntmps22
    go_wp2
    go_ret
    exact ⟨rfl, rfl⟩
  · have d : decide (h ≤ 4000003) = false := by simp; omega
    go_enter Try.func22, Try.ntmps22
    go_wp2
    go_ret
    exact ⟨rfl, rfl⟩
set_option maxHeartbeats 400000 in
theorem specUsed_yes (h : Int) (w : World) (h1 : 0 ≤ h) (h2 : h ≤ 4000003) :
    Calls Try.prog 23 #[.int .i64 h] w fun e w' => e = .returned (.bool (usedB h)) ∧ w' = w := by
  · go_enter Try.func23, Try.ntmps23
    go_wp2
    go_ret
    exact ⟨rfl, rfl⟩
set_option maxHeartbeats 400000 in
theorem specUsed_no (h : Int) (w : World) (hh : h < 0 ∨ 4000003 < h) :
    Calls Try.prog 23 #[.int .i64 h] w fun e w' => e = .returned (.bool false) ∧ w' = w := by
  rcases hh with hh | hh
  · have d : decide (0 ≤ h) = false := by simp; omega
    go_enter Try.func23, Try.ntmps23
    go_wp2
    go_ret
    exact ⟨rfl, rfl⟩
  · have d : decide (h ≤ 4000003) = false := by simp; omega
    go_enter Try.func23, Try.ntmps23
    go_wp2
    go_ret
    exact ⟨rfl, rfl⟩
set_option maxHeartbeats 400000 in
theorem specLocked_yes (h : Int) (w : World) (h1 : 0 ≤ h) (h2 : h ≤ 4000003) :
    Calls Try.prog 24 #[.int .i64 h] w fun e w' => e = .returned (.bool (lockedB h)) ∧ w' = w := by
  · go_enter Try.func24, Try.ntmps24
    go_wp2
    go_ret
    exact ⟨rfl, rfl⟩
set_option maxHeartbeats 400000 in
theorem specLocked_no (h : Int) (w : World) (hh : h < 0 ∨ 4000003 < h) :
    Calls Try.prog 24 #[.int .i64 h] w fun e w' => e = .returned (.bool false) ∧ w' = w := by
  rcases hh with hh | hh
  · have d : decide (0 ≤ h) = false := by simp; omega
    go_enter Try.func24, Try.ntmps24
    go_wp2
    go_ret
    exact ⟨rfl, rfl⟩
  · have d : decide (h ≤ 4000003) = false := by simp; omega
    go_enter Try.func24, Try.ntmps24
    go_wp2
    go_ret
    exact ⟨rfl, rfl⟩
set_option maxHeartbeats 400000 in
theorem implNext_yes (h : Int) (u : Bool) (w : World) (h1 : 0 ≤ h) (h2 : h < 4000000) :
    Calls Try.prog 19 #[.int .i64 h, .bool u] w fun e w' => e = .returned (.tuple #[.int .i64 ((h / 4 + 1) * 4 + bump u false), .bool true]) ∧ w' = w := by
  go_enter Try.func19, Try.ntmps19
  go_wp2_with (first | (go_at_call 17; refine (implHeadOk_yes _ _ (by omega) (by omega)).mono ?_; rintro e w' ⟨rfl, rfl⟩) | (go_at_call 14; refine (implVersion_yes _ _ (by omega) (by omega)).mono ?_; rintro e w' ⟨rfl, rfl⟩) | (go_at_call 12; refine (implPack_yes _ _ _ _ (by omega) (by omega)).mono ?_; rintro e w' ⟨rfl, rfl⟩))
  go_ret2
  exact ⟨rfl, rfl⟩
set_option maxHeartbeats 400000 in
theorem implNext_no (h : Int) (u : Bool) (w : World) (hh : h < 0 ∨ 4000003 < h) :
    Calls Try.prog 19 #[.int .i64 h, .bool u] w fun e w' => e = .returned (.tuple #[.int .i64 0, .bool false]) ∧ w' = w := by
  go_enter Try.func19, Try.ntmps19
  go_wp2_with (go_at_call 17; refine (implHeadOk_no _ _ hh).mono ?_; rintro e w' ⟨rfl, rfl⟩)
  go_ret2
  exact ⟨rfl, rfl⟩
set_option maxHeartbeats 400000 in
theorem implNext_last (h : Int) (u : Bool) (w : World) (h1 : 4000000 ≤ h) (h2 : h ≤ 4000003) :
    Calls Try.prog 19 #[.int .i64 h, .bool u] w fun e w' => e = .returned (.tuple #[.int .i64 0, .bool false]) ∧ w' = w := by
  go_enter Try.func19, Try.ntmps19
  go_wp2_with (first | (go_at_call 17; refine (implHeadOk_yes _ _ (by omega) (by omega)).mono ?_; rintro e w' ⟨rfl, rfl⟩) | (go_at_call 14; refine (implVersion_yes _ _ (by omega) (by omega)).mono ?_; rintro e w' ⟨rfl, rfl⟩) | (go_at_call 12; refine (implPack_no _ _ _ _ (by omega)).mono ?_; rintro e w' ⟨rfl, rfl⟩))
  go_ret2
  exact ⟨rfl, rfl⟩
set_option maxHeartbeats 400000 in
theorem specNext_yes (h : Int) (u : Bool) (w : World) (h1 : 0 ≤ h) (h2 : h < 4000000) :
    Calls Try.prog 20 #[.int .i64 h, .bool u] w fun e w' => e = .returned (.tuple #[.int .i64 ((h / 4 + 1) * 4 + bump u false), .bool true]) ∧ w' = w := by
  have d : (h / 4 == 1000000) = false := by simp; omega
  cases u
  all_goals
    go_enter Try.func20, Try.ntmps20
    go_wp2
    go_ret2
    exact ⟨by simp [bump]; try omega, rfl⟩
set_option maxHeartbeats 400000 in
theorem specNext_no (h : Int) (u : Bool) (w : World) (hh : h < 0 ∨ 4000003 < h) :
    Calls Try.prog 20 #[.int .i64 h, .bool u] w fun e w' => e = .returned (.tuple #[.int .i64 0, .bool false]) ∧ w' = w := by
  go_enter Try.func20, Try.ntmps20
  go_wp2_with (go_at_call 21; refine (specHeadOk_no _ _ hh).mono ?_; rintro e w' ⟨rfl, rfl⟩)
  go_ret2
  exact ⟨rfl, rfl⟩
set_option maxHeartbeats 400000 in
theorem specNext_last (h : Int) (u : Bool) (w : World) (h1 : 4000000 ≤ h) (h2 : h ≤ 4000003) :
    Calls Try.prog 20 #[.int .i64 h, .bool u] w fun e w' => e = .returned (.tuple #[.int .i64 0, .bool false]) ∧ w' = w := by
  have d : (h / 4 == 1000000) = true := by simp; omega
  go_enter Try.func20, Try.ntmps20
  go_wp2_with (go_at_call 21; refine (specHeadOk_yes _ _ (by omega) h2).mono ?_; rintro e w' ⟨rfl, rfl⟩)
  go_ret2
  exact ⟨rfl, rfl⟩
end Go.Proofs.Ytilgcdlicklaeaa
