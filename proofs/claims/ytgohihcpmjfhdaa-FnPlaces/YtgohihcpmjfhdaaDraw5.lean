/- What the specification's draws for Spread do: two numbers. -/
import Derived.Test.YtgohihcpmjfhdaaRows
import Derived.Test.YtgohihcpmjfhdaaDraw1
import Derived.WalkKit
import Derived.WalkSpells
import Derived.WalkLawsBesides
import Derived.Below
namespace Go.Proofs.Ytgohihcpmjfhdaa
open Go.RowKit
theorem l1From_on (w : World) (B c : Nat) (a : Option Addr) (n k : Nat) (lo hi : Int) (h1 : -100 ≤ lo) (h2 : lo ≤ hi) (h3 : hi ≤ 100) (hc : Cur w c a n k) (hb : Bytes w B a n) (hB : B ≤ c) :
    Calls Try.prog 42 #[.pointer (some ⟨c, 0, none⟩), .int .i64 lo, .int .i64 hi] w fun e w' => ∃ z : Int, e = .returned (.int .i64 z) ∧ lo ≤ z ∧ z ≤ hi ∧ Cur w' c a n k ∧ Turned c w w' := by
  go_enter Try.func42, Try.ntmps42
  go_wp2_with fail
  refine (l1Below_any _ B c a n k _ hc hb hB (by omega)).mono ?_
  rintro e w1 ⟨y, rfl, hy0, hy1, hc1, ht1⟩
  go_wp2
  go_ret
  exact ⟨_, rfl, by omega, by omega, hc1, ht1⟩
set_option maxHeartbeats 1000000 in
theorem DrawSpread_any (w : World) (a : Option Addr) (n k : Nat) (hb : Bytes w w.heap.size a n) (hn : n ≤ 4096) :
    Calls Try.prog 15 #[.slice a n k] w fun e w' => ∃ R M : Int, e = .returned (.tuple #[.int .i64 R, .int .i64 M]) ∧ Below w.heap.size w w' := by
  go_enter Try.func15, Try.ntmps15
  go_wp2_with fail
  refine (l1New_any w a n k hb hn).mono ?_
  rintro e w1 ⟨c, rfl, hc, hcur1, b1⟩
  go_wp2_with fail
  refine (l1From_on w1 w.heap.size c a n k _ _ (by omega) (by omega) (by omega) hcur1 (hb.below b1) hc).mono ?_
  rintro e w2 ⟨R, rfl, _, _, hcur2, t2⟩
  have b2 : Below w.heap.size w w2 := b1.trans (t2.below hc b1.size)
  go_wp2_with fail
  refine (l1From_on w2 w.heap.size c a n k _ _ (by omega) (by omega) (by omega) hcur2 (hb.below b2) hc).mono ?_
  rintro e w3 ⟨M, rfl, _, _, hcur3, t3⟩
  go_wp2
  refine bodyPost_ret (v := .tuple #[.int .i64 R, .int .i64 M]) (by simp [results, Try.results15, go_sem]) rfl ?_
  exact ⟨R, M, rfl, b2.trans (t3.below hc b2.size)⟩
end Go.Proofs.Ytgohihcpmjfhdaa
