/- What the specification's l6Rises answers: Ids, each above the one ahead of it. -/
import Derived.Test.YtcockcdhendplaaGreatRows
import Derived.Test.YtcockcdhendplaaGreatIn
import Derived.Test.YtcockcdhendplaaGreatNumRow
import Derived.WalkKit
import Derived.WalkSpells
import Derived.WalkLawsBesides
import Derived.Below
import Derived.Lib.QuietBelow
import Derived.BigQuiet
namespace Go.Proofs.YtcockcdhendplaaGreat
open Go.RowKit
open Go.Sort (grow)
theorem specId_q (w : World) (x : Int) : Calls Tryz.prog 73 #[.int .i64 x] w fun e w' => e = .returned (.bool (inB 1 1000000 x)) ∧ Below w.heap.size w w' := by
  go_enter Tryz.func73, Tryz.ntmps73
  go_wp2_with (go_at_call 108; refine (specIn _ _ _ _).mono ?_; rintro e w' ⟨rfl, rfl⟩)
  go_ret
  exact ⟨rfl, Below.refl _ _⟩
def idAt (zs : List Int) (i : Nat) : Bool := inB 1 1000000 (atN zs i) && (decide (i = 0) || decide (atN zs (i - 1) < atN zs i))
/-- Ids, each above the one ahead of it. -/
def idsB (zs : List Int) : Bool := (List.range zs.length).all (idAt zs)
theorem ids_step {f : Nat → Bool} {k : Nat} (h : (List.range k).all f = true) (h' : f k = true) : (List.range (k + 1)).all f = true := by
  rw [List.range_succ, List.all_append, h]; simp [h']
theorem ids_fail {f : Nat → Bool} {k n : Nat} (hk : k < n) (h : f k = false) : (List.range n).all f = false := by
  rw [List.all_eq_false]; exact ⟨k, List.mem_range.2 hk, by simp [h]⟩
theorem id_bad {zs : List Int} {k : Nat} (h : inB 1 1000000 (atN zs k) = false) : idAt zs k = false := by simp [idAt, h]
theorem id_low {zs : List Int} {j : Nat} (h : atN zs (j + 1) ≤ atN zs j) : idAt zs (j + 1) = false := by simp [idAt]; intro _; omega
theorem id_first {zs : List Int} (h : inB 1 1000000 (atN zs 0) = true) : idAt zs 0 = true := by simp [idAt, h]
theorem id_good {zs : List Int} {j : Nat} (h : inB 1 1000000 (atN zs (j + 1)) = true) (h' : ¬ atN zs (j + 1) ≤ atN zs j) : idAt zs (j + 1) = true := by simp [idAt, h]; omega
set_option maxHeartbeats 4000000 in
theorem l6Rises_any (w : World) (a : Option Addr) (n cap : Nat) (zs : List Int) (hn : n ≤ maxLen) (hs : SlN w w.heap.size a n zs) :
    Calls Tryz.prog 107 #[.slice a n cap] w fun e w' => e = .returned (.bool (idsB zs)) ∧ Below w.heap.size w w' := by
  unfold maxLen at hn
  obtain ⟨hx, hs⟩ := hs
  go_enter Tryz.func107, Tryz.ntmps107
  go_wp2
  go_loopw [3] (fun i wr => ∃ k : Nat, k ≤ n ∧ i = .int .i64 k ∧ Below w.heap.size w wr ∧ (List.range k).all (idAt zs) = true) (fun i _ => n - (intOf i).toNat)
  case atStart => exact ⟨0, Nat.zero_le _, rfl, Below.refl _ _, rfl⟩
  case round =>
    obtain ⟨k, hk, rfl, hbl, hall⟩ := hrel
    have K : Hid (Below w.heap.size w wr ∧ (List.range k).all (idAt zs) = true ∧ zs.length = n) := ⟨hbl, hall, hx⟩
    by_cases hlt : k < n
    · rcases hs with hs | ⟨b, off, rfl, hb, h1⟩
      · omega
      have hbW : b < wr.heap.size := Nat.lt_of_lt_of_le hb hbl.size
      have t1 := (h1.below hbl hb) k _ (atN_of (by omega))
      have c0 : ∀ d os, (grow (redrawn wr d) os).cell? ⟨b, off + k, none⟩ = some (.int .i64 (atN zs k)) := fun d os => ((below_regrown wr d os).cell (p := ⟨b, off + k, none⟩) hbW).trans t1
      have cQ : ∀ d os, Calls Tryz.prog 73 #[.int .i64 (atN zs k)] (grow (redrawn wr d) os) fun e w'' => e = .returned (.bool (inB 1 1000000 (atN zs k))) ∧ ∃ p : Regrown, w'' = grow (redrawn wr p.d) p.os := fun d os => Calls.regrown_of (specId_q _ (atN zs k))
      cases hok : inB 1 1000000 (atN zs k) with
      | false =>
        rw [hok] at cQ
        clear t1 hbl hall h1 hx
        go_wp2_with fail
        refine wp_region_quiet_below (by kernel_rfl) (by kernel_rfl) ?_
        repeat (go_big_quiet_step (exact cQ _ _))
        refine wpQuiet_nil ?_
        intro _ hw'
        obtain ⟨⟨dq, osq⟩, hw''⟩ := hw'
        subst hw''
        have bq := below_regrown wr dq osq
        go_wp2
        go_ret
        exact ⟨by rw [idsB, K.out.2.2, ids_fail hlt (id_bad hok)]; rfl, K.out.1.trans (bq.mono K.out.1.size)⟩
      | true =>
        rw [hok] at cQ
        rcases k with _ | j
        · simp only [Nat.add_zero] at c0
          clear t1 hbl hall h1 hx
          go_wp2_with fail
          refine wp_region_quiet_below (by kernel_rfl) (by kernel_rfl) ?_
          repeat (go_big_quiet_step (exact cQ _ _))
          refine wpQuiet_nil ?_
          intro _ hw'
          obtain ⟨⟨dq, osq⟩, hw''⟩ := hw'
          subst hw''
          have bq := below_regrown wr dq osq
          go_wp2
          exact ⟨⟨1, by omega, by simp, K.out.1.trans (bq.mono K.out.1.size), ids_step K.out.2.1 (id_first hok)⟩, by simp [intOf]; omega⟩
        · have t2 := (h1.below hbl hb) j _ (atN_of (by omega))
          have e1 : ∀ d os, (grow (redrawn wr d) os).cell? ⟨b, off + j, none⟩ = some (.int .i64 (atN zs j)) := fun d os => ((below_regrown wr d os).cell (p := ⟨b, off + j, none⟩) hbW).trans t2
          have hj : (j : Int) < (n : Int) := by omega
          by_cases hq : atN zs (j + 1) ≤ atN zs j
          · clear t1 t2 hbl hall h1 hx
            go_wp2_with fail
            refine wp_region_quiet_below (by kernel_rfl) (by kernel_rfl) ?_
            repeat (go_big_quiet_step (exact cQ _ _))
            refine wpQuiet_nil ?_
            intro _ hw'
            obtain ⟨⟨dq, osq⟩, hw''⟩ := hw'
            subst hw''
            have bq := below_regrown wr dq osq
            go_wp2
            go_ret
            exact ⟨by rw [idsB, K.out.2.2, ids_fail hlt (id_low hq)]; rfl, K.out.1.trans (bq.mono K.out.1.size)⟩
          · have hq' : decide (atN zs (j + 1) ≤ atN zs j) = false := by simp; omega
            clear t1 t2 hbl hall h1 hx
            go_wp2_with fail
            refine wp_region_quiet_below (by kernel_rfl) (by kernel_rfl) ?_
            repeat (go_big_quiet_step (exact cQ _ _))
            refine wpQuiet_nil ?_
            intro _ hw'
            obtain ⟨⟨dq, osq⟩, hw''⟩ := hw'
            subst hw''
            have bq := below_regrown wr dq osq
            go_wp2
            exact ⟨⟨j + 1 + 1, by omega, by simp, K.out.1.trans (bq.mono K.out.1.size), ids_step K.out.2.1 (id_good hok (Int.not_le.2 hq))⟩, by simp [intOf]; omega⟩
    · have : k = n := by omega
      subst this
      have hd : decide (k < k) = false := by simp
      go_wp2
      go_ret
      exact ⟨by rw [idsB, hx, hall]; rfl, hbl⟩
end Go.Proofs.YtcockcdhendplaaGreat
