/- What the laws' copy and comparison of leases do: with no condition. -/
import Derived.Test.YtlnnghlmhmnnlaaRows
import Derived.Test.YtlnnghlmhmnnlaaLease
import Derived.WalkKit
import Derived.WalkSpells
import Derived.WalkLawsBesides
import Derived.Below
namespace Go.Proofs.Ytlnnghlmhmnnlaa
open Go.RowKit
set_option maxHeartbeats 1000000 in
theorem toLease_any (w : World) (l : L3) : Calls Try.prog 22 #[.agg #[.int .i64 l.holder, .int .i64 l.start, .int .i64 l.length]] w fun e w' =>
    e = .returned (.agg #[.int .i64 l.holder, .int .i64 l.start, .int .i64 l.length]) ∧ Below w.heap.size w w' := by
  obtain ⟨h, s, n⟩ := l
  go_enter Try.func22, Try.ntmps22
  go_wp2
  refine bodyPost_ret (v := .agg #[.int .i64 h, .int .i64 s, .int .i64 n]) (by simp [results, Try.results22, go_sem]) rfl ⟨rfl, ?_⟩
  exact (((Below.refl _ _).alloc (Nat.le_refl _) _).alloc (by simp) _).alloc (by simp; omega) _
set_option maxHeartbeats 1000000 in
theorem eqLease_same (w : World) (l : L3) : Calls Try.prog 25 #[.agg #[.int .i64 l.holder, .int .i64 l.start, .int .i64 l.length], .agg #[.int .i64 l.holder, .int .i64 l.start, .int .i64 l.length]] w fun e w' =>
    e = .returned (.bool true) ∧ Below w.heap.size w w' := by
  obtain ⟨h, s, n⟩ := l
  go_enter Try.func25, Try.ntmps25
  go_wp2
  go_ret
  exact ⟨rfl, ((Below.refl _ _).alloc (Nat.le_refl _) _).alloc (by simp) _⟩
end Go.Proofs.Ytlnnghlmhmnnlaa
