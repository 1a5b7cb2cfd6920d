/- Numbers within two ends, as both sides ask for them. -/
import Derived.Test.YtcfpancfdjgohaaRows
import Derived.WalkKit
import Derived.WalkSpells
import Derived.WalkLawsBesides
import Derived.Below
namespace Go.Proofs.Ytcfpancfdjgohaa
open Go.RowKit
def inB (lo hi x : Int) : Bool := decide (lo ≤ x) && decide (x ≤ hi)
theorem inB_yes {lo hi x : Int} (h : lo ≤ x) (h' : x ≤ hi) : inB lo hi x = true := by simp [inB, h, h']
theorem inB_low {lo hi x : Int} (h : x < lo) : inB lo hi x = false := by simp [inB]; omega
theorem inB_high {lo hi x : Int} (h : hi < x) : inB lo hi x = false := by simp [inB]; omega
theorem inB_iff {lo hi x : Int} : inB lo hi x = true ↔ lo ≤ x ∧ x ≤ hi := by simp [inB]
theorem ret_bool {b b' : Bool} (h : b = true ↔ b' = true) : Ending.returned (Value.bool b) = Ending.returned (Value.bool b') := by rw [Bool.eq_iff_iff.2 h]
theorem specIn (w : World) (x lo hi : Int) : Calls Try.prog 95 #[.int .i64 x, .int .i64 lo, .int .i64 hi] w fun e w' => e = .returned (.bool (inB lo hi x)) ∧ w' = w := by
  go_enter Try.func95, Try.ntmps95
  go_wp2
  all_goals (go_ret; refine ⟨ret_bool ?_, rfl⟩; simp [inB_iff]; try omega)
end Go.Proofs.Ytcfpancfdjgohaa
