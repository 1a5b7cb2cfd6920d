/- The laws' marks in rows of numbers, and that they stand. -/
import Derived.Test.YtcockcdhendplaaGreatRows
import Derived.Test.YtcockcdhendplaaGreatNumRow
import Derived.WalkKit
import Derived.WalkSpells
import Derived.WalkLawsBesides
import Derived.Below
namespace Go.Proofs.YtcockcdhendplaaGreat
open Go.RowKit
/-- Consecutive numbers from k on. -/
def marks : Nat → Int → List Int
  | 0, _ => []
  | n + 1, k => k :: marks n (k + 1)
theorem marks_len : ∀ (n : Nat) (k : Int), (marks n k).length = n
  | 0, _ => rfl
  | n + 1, k => by simp [marks, marks_len n]
theorem marks_at : ∀ (n : Nat) (k : Int) (i : Nat), i < n → (marks n k)[i]? = some (k + i)
  | 0, _, _, h => by omega
  | n + 1, k, 0, _ => by simp [marks]
  | n + 1, k, i + 1, h => by
    rw [marks, List.getElem?_cons_succ, marks_at n (k + 1) i (by omega)]
    congr 1; omega
theorem marks_take (n : Nat) (k : Int) (i : Nat) (h : i ≤ n) : (marks n k).take i = marks i k := by
  induction n generalizing k i with
  | zero => obtain rfl : i = 0 := by omega
            simp [marks]
  | succ n ih =>
    cases i with
    | zero => simp [marks]
    | succ i => simp [marks, ih (k + 1) i (by omega)]
set_option maxHeartbeats 1000000 in
/-- The laws' marks in a row of the call's own: consecutive numbers; no other block is turned. -/
theorem markInt64S_own (w : World) (g n cap : Nat) (k : Int) (hn : n ≤ 1048576) (hk : 0 ≤ k) (hk' : k ≤ 1000000000) (hr : Room w g n) :
    Calls Tryz.prog 91 #[.slice (some ⟨g, 0, none⟩) n cap, .int .i64 k] w fun e w' => e = .returned (.int .i64 (k + n)) ∧ OnlyBlock g w w' ∧ NumsAt w' g 0 (marks n k) ∧ Room w' g n := by
  go_enter Tryz.func91, Tryz.ntmps91
  go_wp2
  go_loopw [1, 5] (fun v1 v5 wr => ∃ j : Nat, j ≤ n ∧ v5 = .int .i64 j ∧ v1 = .int .i64 (k + j) ∧ OnlyBlock g w wr ∧ Room wr g n ∧ NumsAt wr g 0 ((marks n k).take j)) (fun _ v5 _ => n - (intOf v5).toNat)
  case atStart => exact ⟨0, Nat.zero_le _, rfl, by simp, OnlyBlock.refl _ _, hr, fun i s e => by simp at e⟩
  case round =>
    obtain ⟨j, hj, rfl, rfl, ho, hro, hdo⟩ := hrel
    by_cases hlt : j < n
    · obtain ⟨v, d, f⟩ := hro j hlt
      have K : Hid (OnlyBlock g w wr ∧ Room wr g n ∧ NumsAt wr g 0 ((marks n k).take j)) := ⟨ho, hro, hdo⟩
      clear ho hro hdo hr
      go_wp2
      obtain ⟨ho, hro, hdo⟩ := K.out
      exact ⟨⟨j + 1, by omega, by simp, by simp; omega, ho.setCell _ _, hro.set _, hdo.put (marks_at n k j hlt) d⟩, by simp [intOf]; omega⟩
    · have : j = n := by omega
      subst this
      have hd : decide ((j : Int) < (j : Int)) = false := by simp
      rw [show (marks j k).take j = marks j k from List.take_of_length_le (by rw [marks_len]; omega)] at hdo
      have K : Hid (OnlyBlock g w wr ∧ NumsAt wr g 0 (marks j k) ∧ Room wr g j) := ⟨ho, hdo, hro⟩
      clear ho hdo hro hr
      go_wp2
      go_ret
      exact ⟨by simp, K.out.1, K.out.2.1, K.out.2.2⟩
set_option maxHeartbeats 1000000 in
theorem markInt64S_none (w : World) (a : Option Addr) (cap : Nat) (k : Int) : Calls Tryz.prog 91 #[.slice a 0 cap, .int .i64 k] w fun e w' => e = .returned (.int .i64 k) ∧ w' = w := by
  go_enter Tryz.func91, Tryz.ntmps91
  go_wp2
  go_loop [1, 5] (fun v1 v5 => v5 = .int .i64 0 ∧ v1 = .int .i64 k) (fun _ _ => 0)
  case atStart => exact ⟨rfl, rfl⟩
  case round =>
    obtain ⟨rfl, rfl⟩ := hrel
    go_wp2
    go_ret
    exact ⟨rfl, rfl⟩
end Go.Proofs.YtcockcdhendplaaGreat
