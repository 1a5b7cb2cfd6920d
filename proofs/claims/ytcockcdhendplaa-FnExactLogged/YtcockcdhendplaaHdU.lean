/- What HeadOk and Used, of the program and of the specification, return at every number; none of them changes the world. -/
import Derived.Test.YtcockcdhendplaaRows
import Derived.Test.YtcockcdhendplaaPlain
import Derived.Test.YtcockcdhendplaaSets
import Derived.WalkKit
import Derived.WalkSpells
import Derived.WalkLawsBesides
namespace Go.Proofs.Ytcockcdhendplaa
open Go.RowKit
set_option maxHeartbeats 400000 in
theorem implHeadOk_yes (h : Int) (w : World) (h1 : 0 ≤ h) (h2 : h ≤ 4000003) :
    Calls Try.prog 104 #[.int .i64 h] w fun e w' => e = .returned (.bool true) ∧ w' = w := by
  go_enter Try.func104, Try.ntmps104
  go_wp2
  go_ret
  exact ⟨by simp [*], rfl⟩
set_option maxHeartbeats 400000 in
theorem implHeadOk_no (h : Int) (w : World) (hh : h < 0 ∨ 4000003 < h) :
    Calls Try.prog 104 #[.int .i64 h] w fun e w' => e = .returned (.bool false) ∧ w' = w := by
  rcases hh with hh | hh
  all_goals
    go_enter Try.func104, Try.ntmps104
    go_wp2
    go_ret
    exact ⟨by simp; try omega, rfl⟩
set_option maxHeartbeats 400000 in
theorem specHeadOk_yes (h : Int) (w : World) (h1 : 0 ≤ h) (h2 : h ≤ 4000003) :
    Calls Try.prog 56 #[.int .i64 h] w fun e w' => e = .returned (.bool true) ∧ w' = w := by
  go_enter Try.func56, Try.ntmps56
  go_wp2
  go_ret
  exact ⟨by simp [*], rfl⟩
set_option maxHeartbeats 400000 in
theorem specHeadOk_no (h : Int) (w : World) (hh : h < 0 ∨ 4000003 < h) :
    Calls Try.prog 56 #[.int .i64 h] w fun e w' => e = .returned (.bool false) ∧ w' = w := by
  rcases hh with hh | hh
  all_goals
    go_enter Try.func56, Try.ntmps56
    go_wp2
    go_ret
    exact ⟨by simp; try omega, rfl⟩
set_option maxHeartbeats 400000 in
theorem implUsed_yes (h : Int) (w : World) (h1 : 0 ≤ h) (h2 : h ≤ 4000003) :
    Calls Try.prog 106 #[.int .i64 h] w fun e w' => e = .returned (.bool (usedB h)) ∧ w' = w := by
  · have b2 := and_2 h h1 h2
    go_enter Try.func106, Try.ntmps106
    go_wp2
    go_ret
    exact ⟨ret_eqb (used_ne h), rfl⟩
set_option maxHeartbeats 400000 in
theorem implUsed_no (h : Int) (w : World) (hh : h < 0 ∨ 4000003 < h) :
    Calls Try.prog 106 #[.int .i64 h] w fun e w' => e = .returned (.bool false) ∧ w' = w := by
  rcases hh with hh | hh
  · have d : decide (0 ≤ h) = false := by simp; omega
    go_enter Try.func106, Try.ntmps106
    go_wp2
    go_ret
    exact ⟨rfl, rfl⟩
  · have d : decide (h ≤ 4000003) = false := by simp; omega
    go_enter Try.func106, Try.ntmps106
    go_wp2
    go_ret
    exact ⟨rfl, rfl⟩
set_option maxHeartbeats 400000 in
theorem specUsed_yes (h : Int) (w : World) (h1 : 0 ≤ h) (h2 : h ≤ 4000003) :
    Calls Try.prog 58 #[.int .i64 h] w fun e w' => e = .returned (.bool (usedB h)) ∧ w' = w := by
  · go_enter Try.func58, Try.ntmps58
    go_wp2
    go_ret
    exact ⟨rfl, rfl⟩
set_option maxHeartbeats 400000 in
theorem specUsed_no (h : Int) (w : World) (hh : h < 0 ∨ 4000003 < h) :
    Calls Try.prog 58 #[.int .i64 h] w fun e w' => e = .returned (.bool false) ∧ w' = w := by
  rcases hh with hh | hh
  · have d : decide (0 ≤ h) = false := by simp; omega
    go_enter Try.func58, Try.ntmps58
    go_wp2
    go_ret
    exact ⟨rfl, rfl⟩
  · have d : decide (h ≤ 4000003) = false := by simp; omega
    go_enter Try.func58, Try.ntmps58
    go_wp2
    go_ret
    exact ⟨rfl, rfl⟩
theorem implHeadOk_any (h : Int) (w : World) : Calls Try.prog 104 #[.int .i64 h] w fun e w' => e = .returned (.bool (inB 0 4000003 h)) ∧ w' = w := by
  by_cases hh : 0 ≤ h ∧ h ≤ 4000003
  · rw [inB_yes hh.1 hh.2]; exact implHeadOk_yes h w hh.1 hh.2
  · have e : inB 0 4000003 h = false := by simp [inB]; omega
    rw [e]; exact implHeadOk_no h w (by omega)
theorem implUsed_any (h : Int) (w : World) : Calls Try.prog 106 #[.int .i64 h] w fun e w' => e = .returned (.bool (inB 0 4000003 h && usedB h)) ∧ w' = w := by
  by_cases hh : 0 ≤ h ∧ h ≤ 4000003
  · rw [inB_yes hh.1 hh.2, Bool.true_and]; exact implUsed_yes h w hh.1 hh.2
  · have e : inB 0 4000003 h = false := by simp [inB]; omega
    rw [e, Bool.false_and]; exact implUsed_no h w (by omega)
theorem specHeadOk_any (h : Int) (w : World) : Calls Try.prog 56 #[.int .i64 h] w fun e w' => e = .returned (.bool (inB 0 4000003 h)) ∧ w' = w := by
  by_cases hh : 0 ≤ h ∧ h ≤ 4000003
  · rw [inB_yes hh.1 hh.2]; exact specHeadOk_yes h w hh.1 hh.2
  · have e : inB 0 4000003 h = false := by simp [inB]; omega
    rw [e]; exact specHeadOk_no h w (by omega)
theorem specUsed_any (h : Int) (w : World) : Calls Try.prog 58 #[.int .i64 h] w fun e w' => e = .returned (.bool (inB 0 4000003 h && usedB h)) ∧ w' = w := by
  by_cases hh : 0 ≤ h ∧ h ≤ 4000003
  · rw [inB_yes hh.1 hh.2, Bool.true_and]; exact specUsed_yes h w hh.1 hh.2
  · have e : inB 0 4000003 h = false := by simp [inB]; omega
    rw [e, Bool.false_and]; exact specUsed_no h w (by omega)
end Go.Proofs.Ytcockcdhendplaa
