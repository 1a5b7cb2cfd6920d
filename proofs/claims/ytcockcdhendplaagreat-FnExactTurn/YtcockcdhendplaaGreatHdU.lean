/- What HeadOk and Used, of the program and of the specification, return at every number; none of them changes the world. -/
import Derived.Test.YtcockcdhendplaaGreatRows
import Derived.Test.YtcockcdhendplaaGreatPlain
import Derived.Test.YtcockcdhendplaaGreatSets
import Derived.WalkKit
import Derived.WalkSpells
import Derived.WalkLawsBesides
namespace Go.Proofs.YtcockcdhendplaaGreat
open Go.RowKit
set_option maxHeartbeats 400000 in
theorem implHeadOk_yes (h : Int) (w : World) (h1 : 0 ≤ h) (h2 : h ≤ 4000003) :
    Calls Tryz.prog 152 #[.int .i64 h] w fun e w' => e = .returned (.bool true) ∧ w' = w := by
  go_enter Tryz.func152, Tryz.ntmps152
  go_wp2
  go_ret
  exact ⟨by simp [*], rfl⟩
set_option maxHeartbeats 400000 in
theorem implHeadOk_no (h : Int) (w : World) (hh : h < 0 ∨ 4000003 < h) :
    Calls Tryz.prog 152 #[.int .i64 h] w fun e w' => e = .returned (.bool false) ∧ w' = w := by
  rcases hh with hh | hh
  all_goals
    go_enter Tryz.func152, Tryz.ntmps152
    go_wp2
    go_ret
    exact ⟨by simp; try omega, rfl⟩
set_option maxHeartbeats 400000 in
theorem specHeadOk_yes (h : Int) (w : World) (h1 : 0 ≤ h) (h2 : h ≤ 4000003) :
    Calls Tryz.prog 109 #[.int .i64 h] w fun e w' => e = .returned (.bool true) ∧ w' = w := by
  go_enter Tryz.func109, Tryz.ntmps109
  go_wp2
  go_ret
  exact ⟨by simp [*], rfl⟩
set_option maxHeartbeats 400000 in
theorem specHeadOk_no (h : Int) (w : World) (hh : h < 0 ∨ 4000003 < h) :
    Calls Tryz.prog 109 #[.int .i64 h] w fun e w' => e = .returned (.bool false) ∧ w' = w := by
  rcases hh with hh | hh
  all_goals
    go_enter Tryz.func109, Tryz.ntmps109
    go_wp2
    go_ret
    exact ⟨by simp; try omega, rfl⟩
set_option maxHeartbeats 400000 in
theorem implUsed_yes (h : Int) (w : World) (h1 : 0 ≤ h) (h2 : h ≤ 4000003) :
    Calls Tryz.prog 154 #[.int .i64 h] w fun e w' => e = .returned (.bool (usedB h)) ∧ w' = w := by
  · have b2 := and_2 h h1 h2
    go_enter Tryz.func154, Tryz.ntmps154
    go_wp2
    go_ret
    exact ⟨ret_eqb (used_ne h), rfl⟩
set_option maxHeartbeats 400000 in
theorem implUsed_no (h : Int) (w : World) (hh : h < 0 ∨ 4000003 < h) :
    Calls Tryz.prog 154 #[.int .i64 h] w fun e w' => e = .returned (.bool false) ∧ w' = w := by
  rcases hh with hh | hh
  · have d : decide (0 ≤ h) = false := by simp; omega
    go_enter Tryz.func154, Tryz.ntmps154
    go_wp2
    go_ret
    exact ⟨rfl, rfl⟩
  · have d : decide (h ≤ 4000003) = false := by simp; omega
    go_enter Tryz.func154, Tryz.ntmps154
    go_wp2
    go_ret
    exact ⟨rfl, rfl⟩
set_option maxHeartbeats 400000 in
theorem specUsed_yes (h : Int) (w : World) (h1 : 0 ≤ h) (h2 : h ≤ 4000003) :
    Calls Tryz.prog 111 #[.int .i64 h] w fun e w' => e = .returned (.bool (usedB h)) ∧ w' = w := by
  · go_enter Tryz.func111, Tryz.ntmps111
    go_wp2
    go_ret
    exact ⟨rfl, rfl⟩
set_option maxHeartbeats 400000 in
theorem specUsed_no (h : Int) (w : World) (hh : h < 0 ∨ 4000003 < h) :
    Calls Tryz.prog 111 #[.int .i64 h] w fun e w' => e = .returned (.bool false) ∧ w' = w := by
  rcases hh with hh | hh
  · have d : decide (0 ≤ h) = false := by simp; omega
    go_enter Tryz.func111, Tryz.ntmps111
    go_wp2
    go_ret
    exact ⟨rfl, rfl⟩
  · have d : decide (h ≤ 4000003) = false := by simp; omega
    go_enter Tryz.func111, Tryz.ntmps111
    go_wp2
    go_ret
    exact ⟨rfl, rfl⟩
theorem implHeadOk_any (h : Int) (w : World) : Calls Tryz.prog 152 #[.int .i64 h] w fun e w' => e = .returned (.bool (inB 0 4000003 h)) ∧ w' = w := by
  by_cases hh : 0 ≤ h ∧ h ≤ 4000003
  · rw [inB_yes hh.1 hh.2]; exact implHeadOk_yes h w hh.1 hh.2
  · have e : inB 0 4000003 h = false := by simp [inB]; omega
    rw [e]; exact implHeadOk_no h w (by omega)
theorem implUsed_any (h : Int) (w : World) : Calls Tryz.prog 154 #[.int .i64 h] w fun e w' => e = .returned (.bool (inB 0 4000003 h && usedB h)) ∧ w' = w := by
  by_cases hh : 0 ≤ h ∧ h ≤ 4000003
  · rw [inB_yes hh.1 hh.2, Bool.true_and]; exact implUsed_yes h w hh.1 hh.2
  · have e : inB 0 4000003 h = false := by simp [inB]; omega
    rw [e, Bool.false_and]; exact implUsed_no h w (by omega)
theorem specHeadOk_any (h : Int) (w : World) : Calls Tryz.prog 109 #[.int .i64 h] w fun e w' => e = .returned (.bool (inB 0 4000003 h)) ∧ w' = w := by
  by_cases hh : 0 ≤ h ∧ h ≤ 4000003
  · rw [inB_yes hh.1 hh.2]; exact specHeadOk_yes h w hh.1 hh.2
  · have e : inB 0 4000003 h = false := by simp [inB]; omega
    rw [e]; exact specHeadOk_no h w (by omega)
theorem specUsed_any (h : Int) (w : World) : Calls Tryz.prog 111 #[.int .i64 h] w fun e w' => e = .returned (.bool (inB 0 4000003 h && usedB h)) ∧ w' = w := by
  by_cases hh : 0 ≤ h ∧ h ≤ 4000003
  · rw [inB_yes hh.1 hh.2, Bool.true_and]; exact specUsed_yes h w hh.1 hh.2
  · have e : inB 0 4000003 h = false := by simp [inB]; omega
    rw [e, Bool.false_and]; exact specUsed_no h w (by omega)
end Go.Proofs.YtcockcdhendplaaGreat
