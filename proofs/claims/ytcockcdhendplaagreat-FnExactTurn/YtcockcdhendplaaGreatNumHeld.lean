/- The laws' marks in rows of numbers, held. -/
import Derived.Test.YtcockcdhendplaaGreatRows
import Derived.Test.YtcockcdhendplaaGreatNumMark
import Derived.WalkKit
import Derived.WalkSpells
import Derived.WalkLawsBesides
import Derived.Below
namespace Go.Proofs.YtcockcdhendplaaGreat
open Go.RowKit
set_option maxHeartbeats 1000000 in
/-- Where the marks stand as they were set. -/
theorem heldInt64S_any (w : World) (a : Option Addr) (n cap : Nat) (k : Int) (hn : n ≤ 1048576) (hk : 0 ≤ k) (hk' : k ≤ 1000000000) (hs : SlN w w.heap.size a n (marks n k)) :
    Calls Tryz.prog 94 #[.slice a n cap, .int .i64 k] w fun e w' => e = .returned (.int .i64 (k + n)) ∧ w' = w := by
  obtain ⟨_, hs⟩ := hs
  go_enter Tryz.func94, Tryz.ntmps94
  go_wp2
  go_loop [1, 5] (fun v1 v5 => ∃ j : Nat, j ≤ n ∧ v5 = .int .i64 j ∧ v1 = .int .i64 (k + j)) (fun _ v5 => n - (intOf v5).toNat)
  case atStart => exact ⟨0, Nat.zero_le _, rfl, by simp⟩
  case round =>
    obtain ⟨j, hj, rfl, rfl⟩ := hrel
    by_cases hlt : j < n
    · rcases hs with hs | ⟨b, off, rfl, hb, h1⟩
      · omega
      · have c := h1 j _ (marks_at n k j hlt)
        have hq : (k + (j : Int) != k + (j : Int)) = false := by simp
        clear h1
        go_wp2
        exact ⟨⟨j + 1, by omega, by simp, by simp; omega⟩, by simp [intOf]; omega⟩
    · have : j = n := by omega
      subst this
      have hd : decide ((j : Int) < (j : Int)) = false := by simp
      clear hs
      go_wp2
      go_ret
      exact ⟨by simp, rfl⟩
end Go.Proofs.YtcockcdhendplaaGreat
