/- The laws' comparisons of rows of numbers and of Places that are alike. -/
import Derived.Test.YtgohihcpmjfhdaaRows
import Derived.Test.YtgohihcpmjfhdaaPls
import Derived.WalkKit
import Derived.WalkSpells
import Derived.WalkLawsBesides
import Derived.Below
import Derived.BigQuiet
import Derived.Deep.QuietTactic
import Derived.Lib.QuietBelow
namespace Go.Proofs.Ytgohihcpmjfhdaa
open Go.RowKit
open Go.Sort (grow)
set_option maxHeartbeats 1000000 in
theorem likeInts_any (w : World) (a a' : Option Addr) (n cap cap' : Nat) (zs : List Int) (hn : n ≤ maxLen) (h1 : SlN w w.heap.size a n zs) (h2 : SlN w w.heap.size a' n zs) :
    Calls Try.prog 14 #[.slice a n cap, .slice a' n cap'] w fun e w' => e = .returned (.bool true) ∧ Below w.heap.size w w' := by
  unfold maxLen at hn
  obtain ⟨hx, h1⟩ := h1
  obtain ⟨_, h2⟩ := h2
  go_enter Try.func14, Try.ntmps14
  go_wp2
  go_loopw [5] (fun i wr => ∃ k : Nat, k ≤ n ∧ i = .int .i64 k ∧ Below w.heap.size w wr) (fun i _ => n - (intOf i).toNat)
  case atStart => exact ⟨0, Nat.zero_le _, rfl, Below.refl _ _⟩
  case round =>
    obtain ⟨k, hk, rfl, hbl⟩ := hrel
    by_cases hlt : k < n
    · rcases h1 with h1 | ⟨b, off, rfl, hb, h1⟩
      · omega
      · rcases h2 with h2 | ⟨b', off', rfl, hb', h2⟩
        · omega
        · have c1 := (hbl.cell (p := ⟨b, off + k, none⟩) hb).trans (h1 k _ (atN_of (by omega)))
          have c2 := (hbl.cell (p := ⟨b', off' + k, none⟩) hb').trans (h2 k _ (atN_of (by omega)))
          have hlt' : (k : Int) < (n : Int) := by omega
          have K : Hid (Below w.heap.size w wr) := hbl
          clear h1 h2 hbl hx
          go_wp2_with fail
          go_quiet (fail)
          go_wp2
          exact ⟨⟨k + 1, by omega, by simp, below_dn K.out _⟩, by simp [intOf]; omega⟩
    · have : k = n := by omega
      subst this
      have hd : decide (k < k) = false := by simp
      clear h1 h2
      go_wp2
      go_ret
      exact ⟨rfl, hbl⟩
set_option maxHeartbeats 2000000 in
theorem likePlaces_any (w : World) (a a' : Option Addr) (n cap cap' : Nat) (zss : List (List Int)) (hn : n ≤ maxLen) (hl : ∀ zs ∈ zss, zs.length ≤ maxLen) (h1 : SlP w w.heap.size a n zss) (h2 : SlP w w.heap.size a' n zss) :
    Calls Try.prog 13 #[.slice a n cap, .slice a' n cap'] w fun e w' => e = .returned (.bool true) ∧ Below w.heap.size w w' := by
  unfold maxLen at hn
  obtain ⟨hx, h1⟩ := h1
  obtain ⟨_, h2⟩ := h2
  go_enter Try.func13, Try.ntmps13
  go_wp2
  go_loopw [5] (fun i wr => ∃ k : Nat, k ≤ n ∧ i = .int .i64 k ∧ Below w.heap.size w wr) (fun i _ => n - (intOf i).toNat)
  case atStart => exact ⟨0, Nat.zero_le _, rfl, Below.refl _ _⟩
  case round =>
    obtain ⟨k, hk, rfl, hbl⟩ := hrel
    by_cases hlt : k < n
    · rcases h1 with h1 | ⟨b, off, rfl, hb, h1⟩
      · omega
      · rcases h2 with h2 | ⟨b', off', rfl, hb', h2⟩
        · omega
        · obtain ⟨a1, k1, d1, s1, _⟩ := h1 k _ (atP_of (by omega))
          obtain ⟨a2, k2, d2, s2, _⟩ := h2 k _ (atP_of (by omega))
          have hll := hl _ (List.mem_of_getElem? (atP_of (zss := zss) (i := k) (by omega)))
          have hbW : b < wr.heap.size := Nat.lt_of_lt_of_le hb hbl.size
          have hbW' : b' < wr.heap.size := Nat.lt_of_lt_of_le hb' hbl.size
          have e1 := (hbl.cell (p := ⟨b, off + k, none⟩) hb).trans d1
          have e2 := (hbl.cell (p := ⟨b', off' + k, none⟩) hb').trans d2
          have c1 : ∀ d os, (grow (redrawn wr d) os).cell? ⟨b, off + k, none⟩ = some (.slice a1 (atP zss k).length k1) := fun d os => ((below_regrown wr d os).cell (p := ⟨b, off + k, none⟩) hbW).trans e1
          have c2 : ∀ d os, (grow (redrawn wr d) os).cell? ⟨b', off' + k, none⟩ = some (.slice a2 (atP zss k).length k2) := fun d os => ((below_regrown wr d os).cell (p := ⟨b', off' + k, none⟩) hbW').trans e2
          have t1 : SlN wr wr.heap.size a1 (atP zss k).length (atP zss k) := (s1.below hbl).mono hbl.size
          have t2 : SlN wr wr.heap.size a2 (atP zss k).length (atP zss k) := (s2.below hbl).mono hbl.size
          have cQ : ∀ d os, Calls Try.prog 14 #[.slice a1 (atP zss k).length k1, .slice a2 (atP zss k).length k2] (grow (redrawn wr d) os) fun e w'' => e = .returned (.bool true) ∧ ∃ p : Regrown, w'' = grow (redrawn wr p.d) p.os := fun d os => Calls.regrown_of (likeInts_any _ a1 a2 _ k1 k2 (atP zss k) hll (t1.later (below_regrown wr d os)) (t2.later (below_regrown wr d os)))
          have K : Hid (Below w.heap.size w wr) := hbl
          clear t1 t2 hbl h1 h2 s1 s2 e1 e2 d1 d2 hl hll hx
          go_wp2_with fail
          refine wp_region_quiet_below (by kernel_rfl) (by kernel_rfl) ?_
          repeat (go_big_quiet_step (exact cQ _ _))
          refine wpQuiet_nil ?_
          intro _ hw'
          obtain ⟨⟨dq, osq⟩, hw''⟩ := hw'
          subst hw''
          have bq := below_regrown wr dq osq
          go_wp2
          exact ⟨⟨k + 1, by omega, by simp, K.out.trans (bq.mono K.out.size)⟩, by simp [intOf]; omega⟩
    · have : k = n := by omega
      subst this
      have hd : decide (k < k) = false := by simp
      clear h1 h2
      go_wp2
      go_ret
      exact ⟨rfl, hbl⟩
end Go.Proofs.Ytgohihcpmjfhdaa
