/- What the program's and the specification's RecordOk answer at every Record: one and the same. -/
import Derived.Test.YtooalbdlknheeaaGreatRows
import Derived.Test.YtooalbdlknheeaaGreatJ0LawMachines
import Derived.Test.YtooalbdlknheeaaGreatJ7LawMachines
import Derived.WalkKit
import Derived.WalkSpells
import Derived.WalkLawsBesides
import Derived.Below
import Derived.Lib.QuietBelow
import Derived.BigQuiet
namespace Go.Proofs.YtooalbdlknheeaaGreat
open Go.RowKit
open Go.Sort (grow)
def at5 (xs : List S5) (i : Nat) : S5 := xs[i]?.getD ⟨0, 0, 0, false, 0⟩
def riseAt (xs : List S5) (i : Nat) : Bool := setOkB (at5 xs i) && (decide (i = 0) || decide ((at5 xs (i - 1)).slot < (at5 xs i).slot))
def l2At (xs : List S5) (i : Nat) : Bool := riseAt xs i && (decide (i = 0) || decide ((at5 xs i).region = (at5 xs 0).region))
def riseB (xs : List S5) : Bool := (List.range xs.length).all (riseAt xs)
def l2B (xs : List S5) : Bool := (List.range xs.length).all (l2At xs)
def sameB (r : Int) (xs : List S5) : Bool := xs.all (fun s => decide (s.region = r))
theorem all_step {f : Nat → Bool} {k : Nat} (h : (List.range k).all f = true) (h' : f k = true) : (List.range (k + 1)).all f = true := by
  rw [List.range_succ, List.all_append, h]; simp [h']
theorem all_fail {f : Nat → Bool} {k n : Nat} (hk : k < n) (h : f k = false) : (List.range n).all f = false := by
  rw [List.all_eq_false]; exact ⟨k, by simpa using hk, by simp [h]⟩
theorem at5_of {xs : List S5} {i : Nat} (h : i < xs.length) : xs[i]? = some (at5 xs i) := by
  simp [at5, List.getElem?_eq_getElem h]
theorem SetsAt.get {w : World} {b off : Nat} {xs : List S5} (h : SetsAt w b off xs) {i : Nat} (hi : i < xs.length) : SetAt w b (off + i * 5) (at5 xs i) := h i _ (at5_of hi)
theorem rise_bad {xs : List S5} {k : Nat} (h : setOkB (at5 xs k) = false) : riseAt xs k = false := by simp [riseAt, h]
theorem rise_slot {xs : List S5} {j : Nat} (h : (at5 xs (j + 1)).slot ≤ (at5 xs j).slot) : riseAt xs (j + 1) = false := by simp [riseAt]; intro _; omega
theorem rise_first {xs : List S5} (h : setOkB (at5 xs 0) = true) : riseAt xs 0 = true := by simp [riseAt, h]
theorem rise_good {xs : List S5} {j : Nat} (h : setOkB (at5 xs (j + 1)) = true) (h' : (at5 xs j).slot < (at5 xs (j + 1)).slot) : riseAt xs (j + 1) = true := by simp [riseAt, h, h']
set_option maxHeartbeats 2000000 in
theorem l2Sets_some (w : World) (b off cap n : Nat) (xs : List S5) (hx : xs.length = n) (hn : n ≤ maxLen) (h1 : SetsAt w b off xs) (hb : b < w.heap.size) :
    Calls Tryz.prog 139 #[.slice (some ⟨b, off, none⟩) n cap] w fun e w' => e = .returned (.bool (l2B xs)) ∧ Below w.heap.size w w' := by
  unfold maxLen at hn
  go_enter Tryz.func139, Tryz.ntmps139
  go_wp2
  go_loopw [3] (fun i wr => ∃ k : Nat, k ≤ n ∧ i = .int .i64 k ∧ Below w.heap.size w wr ∧ (List.range k).all (l2At xs) = true) (fun i _ => n - (intOf i).toNat)
  case atStart => exact ⟨0, Nat.zero_le _, rfl, Below.refl _ _, rfl⟩
  case round =>
    obtain ⟨k, hk, rfl, hbl, hall⟩ := hrel
    have K : Hid (Below w.heap.size w wr ∧ (List.range k).all (l2At xs) = true ∧ xs.length = n) := ⟨hbl, hall, hx⟩
    by_cases hlt : k < n
    · have t1 := ((h1.get (i := k) (by omega)).below hbl hb).regrown
      have c0 := fun d os => (t1 d os).c0
      have c1 := fun d os => (t1 d os).c1
      have c2 := fun d os => (t1 d os).c2
      have c3 := fun d os => (t1 d os).c3
      have c4 := fun d os => (t1 d os).c4
      have cQ : ∀ d os, Calls Tryz.prog 170 #[.agg #[.int .i64 (at5 xs k).region, .int .i64 (at5 xs k).slot, .int .i64 (at5 xs k).value, .bool (at5 xs k).used, .int .i64 (at5 xs k).version]] (grow (redrawn wr d) os) fun e w'' => e = .returned (.bool (setOkB (at5 xs k))) ∧ ∃ p : Regrown, w'' = grow (redrawn wr p.d) p.os := fun d os => Calls.regrown_of (specSetOk _ (at5 xs k))
      cases hok : setOkB (at5 xs k) with
      | false =>
        rw [hok] at cQ
        clear t1 hbl hall h1 hx
        go_wp2_with fail
        refine wp_region_quiet_below (by kernel_rfl) (by kernel_rfl) ?_
        repeat (go_big_quiet_step (exact cQ _ _))
        refine wpQuiet_nil ?_
        intro _ hw'
        obtain ⟨⟨dq, osq⟩, hw''⟩ := hw'
        subst hw''
        have bq := below_regrown wr dq osq
        go_wp2
        go_ret
        exact ⟨by rw [l2B, K.out.2.2, all_fail hlt (by simp [l2At, rise_bad hok])]; rfl, K.out.1.trans (bq.mono K.out.1.size)⟩
      | true =>
        rw [hok] at cQ
        rcases k with _ | j
        · simp only [Nat.zero_mul, Nat.add_zero] at c0 c1 c2 c3 c4
          clear t1 hbl hall h1 hx
          go_wp2_with fail
          refine wp_region_quiet_below (by kernel_rfl) (by kernel_rfl) ?_
          repeat (go_big_quiet_step (exact cQ _ _))
          refine wpQuiet_nil ?_
          intro _ hw'
          obtain ⟨⟨dq, osq⟩, hw''⟩ := hw'
          subst hw''
          have bq := below_regrown wr dq osq
          go_wp2
          exact ⟨⟨1, by omega, by simp, K.out.1.trans (bq.mono K.out.1.size), all_step K.out.2.1 (by simp [l2At, rise_first hok])⟩, by simp [intOf]; omega⟩
        · have t2 := ((h1.get (i := j) (by omega)).below hbl hb).regrown
          have t3 := ((h1.get (i := 0) (by omega)).below hbl hb).regrown
          have e1 := fun d os => (t2 d os).c1
          have f0 := fun d os => (t3 d os).c0
          simp only [Nat.zero_mul, Nat.add_zero] at f0
          have hj : (j : Int) < (n : Int) := by omega
          have h0n : (0 : Int) < (n : Int) := by omega
          by_cases hs : (at5 xs (j + 1)).slot ≤ (at5 xs j).slot
          · clear t1 t2 t3 hbl hall h1 hx
            go_wp2_with fail
            refine wp_region_quiet_below (by kernel_rfl) (by kernel_rfl) ?_
            repeat (go_big_quiet_step (exact cQ _ _))
            refine wpQuiet_nil ?_
            intro _ hw'
            obtain ⟨⟨dq, osq⟩, hw''⟩ := hw'
            subst hw''
            have bq := below_regrown wr dq osq
            go_wp2
            go_ret
            exact ⟨by rw [l2B, K.out.2.2, all_fail hlt (by simp [l2At, rise_slot hs])]; rfl, K.out.1.trans (bq.mono K.out.1.size)⟩
          · have hs' : decide ((at5 xs (j + 1)).slot ≤ (at5 xs j).slot) = false := by simp; omega
            by_cases hr : (at5 xs (j + 1)).region = (at5 xs 0).region
            · clear t1 t2 t3 hbl hall h1 hx
              have hr' : ((at5 xs (j + 1)).region == (at5 xs 0).region) = true := by simp [hr]
              have HR : Hid ((at5 xs (j + 1)).region = (at5 xs 0).region) := hr
              clear hr
              go_wp2_with fail
              refine wp_region_quiet_below (by kernel_rfl) (by kernel_rfl) ?_
              repeat (go_big_quiet_step (exact cQ _ _))
              refine wpQuiet_nil ?_
              intro _ hw'
              obtain ⟨⟨dq, osq⟩, hw''⟩ := hw'
              subst hw''
              have bq := below_regrown wr dq osq
              go_wp2
              exact ⟨⟨j + 1 + 1, by omega, by simp, K.out.1.trans (bq.mono K.out.1.size), all_step K.out.2.1 (by simp [l2At, rise_good hok hs, HR.out])⟩, by simp [intOf]; omega⟩
            · clear t1 t2 t3 hbl hall h1 hx
              have hr' : ((at5 xs (j + 1)).region == (at5 xs 0).region) = false := by simp [hr]
              have HR : Hid (¬ (at5 xs (j + 1)).region = (at5 xs 0).region) := hr
              clear hr
              go_wp2_with fail
              refine wp_region_quiet_below (by kernel_rfl) (by kernel_rfl) ?_
              repeat (go_big_quiet_step (exact cQ _ _))
              refine wpQuiet_nil ?_
              intro _ hw'
              obtain ⟨⟨dq, osq⟩, hw''⟩ := hw'
              subst hw''
              have bq := below_regrown wr dq osq
              go_wp2
              go_ret
              exact ⟨by rw [l2B, K.out.2.2, all_fail hlt (by simp [l2At, HR.out])]; rfl, K.out.1.trans (bq.mono K.out.1.size)⟩
    · have : k = n := by omega
      subst this
      have hd : decide (k < k) = false := by simp
      go_wp2
      go_ret
      exact ⟨by rw [l2B, hx, hall]; rfl, hbl⟩
set_option maxHeartbeats 2000000 in
theorem setsRise_some (w : World) (b off cap n : Nat) (xs : List S5) (hx : xs.length = n) (hn : n ≤ maxLen) (h1 : SetsAt w b off xs) (hb : b < w.heap.size) :
    Calls Tryz.prog 136 #[.slice (some ⟨b, off, none⟩) n cap] w fun e w' => e = .returned (.bool (riseB xs)) ∧ Below w.heap.size w w' := by
  unfold maxLen at hn
  go_enter Tryz.func136, Tryz.ntmps136
  go_wp2
  go_loopw [7] (fun i wr => ∃ k : Nat, k ≤ n ∧ i = .int .i64 k ∧ Below w.heap.size w wr ∧ (List.range k).all (riseAt xs) = true) (fun i _ => n - (intOf i).toNat)
  case atStart => exact ⟨0, Nat.zero_le _, rfl, Below.refl _ _, rfl⟩
  case round =>
    obtain ⟨k, hk, rfl, hbl, hall⟩ := hrel
    have K : Hid (Below w.heap.size w wr ∧ (List.range k).all (riseAt xs) = true ∧ xs.length = n) := ⟨hbl, hall, hx⟩
    by_cases hlt : k < n
    · obtain ⟨c0, c1, c2, c3, c4⟩ := (h1.get (i := k) (by omega)).below hbl hb
      have hprev : ∀ j, k = j + 1 → wr.cell? ⟨b, off + j * 5 + 1, none⟩ = some (.int .i64 (at5 xs j).slot) := fun j e => ((h1.get (i := j) (by omega)).below hbl hb).c1
      have KP : Hid (∀ j, k = j + 1 → wr.cell? ⟨b, off + j * 5 + 1, none⟩ = some (.int .i64 (at5 xs j).slot)) := hprev
      have hbr : b < wr.heap.size := Nat.lt_of_lt_of_le hb hbl.size
      clear hprev hbl hall h1 hx
      have tz : SetAt (wr.alloc (.cells #[.int .i64 (at5 xs k).region, .int .i64 (at5 xs k).slot, .int .i64 (at5 xs k).value, .bool (at5 xs k).used, .int .i64 (at5 xs k).version] 139)) wr.heap.size 0 (at5 xs k) := ⟨by go_simp, by go_simp, by go_simp, by go_simp, by go_simp⟩
      have TZ : Hid (SetAt (wr.alloc (.cells #[.int .i64 (at5 xs k).region, .int .i64 (at5 xs k).slot, .int .i64 (at5 xs k).value, .bool (at5 xs k).used, .int .i64 (at5 xs k).version] 139)) wr.heap.size 0 (at5 xs k)) := tz
      clear tz
      rcases k with _ | j
      · simp only [Nat.zero_mul, Nat.add_zero] at c0 c1 c2 c3 c4
        go_wp2_with fail
        generalize hW : wr.alloc (.cells #[.int .i64 (at5 xs 0).region, .int .i64 (at5 xs 0).slot, .int .i64 (at5 xs 0).value, .bool (at5 xs 0).used, .int .i64 (at5 xs 0).version] 139) = W at TZ ⊢
        have bW : Below wr.heap.size wr W := by subst hW; exact (Below.refl _ _).alloc (Nat.le_refl _) _
        have t1 := TZ.out.regrown
        have d0 := fun d os => (t1 d os).c0
        have d1 := fun d os => (t1 d os).c1
        have d2 := fun d os => (t1 d os).c2
        have d3 := fun d os => (t1 d os).c3
        have d4 := fun d os => (t1 d os).c4
        simp only [Nat.zero_add] at d1 d2 d3 d4
        have cQ : ∀ d os, Calls Tryz.prog 168 #[.agg #[.int .i64 (at5 xs 0).region, .int .i64 (at5 xs 0).slot, .int .i64 (at5 xs 0).value, .bool (at5 xs 0).used, .int .i64 (at5 xs 0).version]] (grow (redrawn W d) os) fun e w'' => e = .returned (.bool (setOkB (at5 xs 0))) ∧ ∃ p : Regrown, w'' = grow (redrawn W p.d) p.os := fun d os => Calls.regrown_of (implSetOk _ (at5 xs 0))
        clear hW c0 c1 c2 c3 c4 t1
        cases hok : setOkB (at5 xs 0) with
        | false =>
          rw [hok] at cQ
          refine wp_region_quiet_below (by kernel_rfl) (by kernel_rfl) ?_
          repeat (go_big_quiet_step (exact cQ _ _))
          refine wpQuiet_nil ?_
          intro _ hw'
          obtain ⟨⟨dq, osq⟩, hw''⟩ := hw'
          subst hw''
          have bq := below_regrown W dq osq
          go_wp2
          go_ret
          exact ⟨by rw [riseB, K.out.2.2, all_fail hlt (rise_bad hok)]; rfl, K.out.1.trans ((bW.trans (bq.mono bW.size)).mono K.out.1.size)⟩
        | true =>
          rw [hok] at cQ
          refine wp_region_quiet_below (by kernel_rfl) (by kernel_rfl) ?_
          repeat (go_big_quiet_step (exact cQ _ _))
          refine wpQuiet_nil ?_
          intro _ hw'
          obtain ⟨⟨dq, osq⟩, hw''⟩ := hw'
          subst hw''
          have bq := below_regrown W dq osq
          go_wp2
          exact ⟨⟨1, by omega, by simp, K.out.1.trans ((bW.trans (bq.mono bW.size)).mono K.out.1.size), all_step K.out.2.1 (rise_first hok)⟩, by simp [intOf]; omega⟩
      · have hj : (j : Int) < (n : Int) := by omega
        have hp := KP.out j rfl
        go_wp2_with fail
        generalize hW : wr.alloc (.cells #[.int .i64 (at5 xs (j + 1)).region, .int .i64 (at5 xs (j + 1)).slot, .int .i64 (at5 xs (j + 1)).value, .bool (at5 xs (j + 1)).used, .int .i64 (at5 xs (j + 1)).version] 139) = W at TZ ⊢
        have bW : Below wr.heap.size wr W := by subst hW; exact (Below.refl _ _).alloc (Nat.le_refl _) _
        have t1 := TZ.out.regrown
        have d0 := fun d os => (t1 d os).c0
        have d1 := fun d os => (t1 d os).c1
        have d2 := fun d os => (t1 d os).c2
        have d3 := fun d os => (t1 d os).c3
        have d4 := fun d os => (t1 d os).c4
        simp only [Nat.zero_add] at d1 d2 d3 d4
        have p1 := cell_regrown ((bW.cell (p := ⟨b, off + j * 5 + 1, none⟩) hbr).trans hp)
        have cQ : ∀ d os, Calls Tryz.prog 168 #[.agg #[.int .i64 (at5 xs (j + 1)).region, .int .i64 (at5 xs (j + 1)).slot, .int .i64 (at5 xs (j + 1)).value, .bool (at5 xs (j + 1)).used, .int .i64 (at5 xs (j + 1)).version]] (grow (redrawn W d) os) fun e w'' => e = .returned (.bool (setOkB (at5 xs (j + 1)))) ∧ ∃ p : Regrown, w'' = grow (redrawn W p.d) p.os := fun d os => Calls.regrown_of (implSetOk _ (at5 xs (j + 1)))
        clear hW c0 c1 c2 c3 c4 t1 hp
        cases hok : setOkB (at5 xs (j + 1)) with
        | false =>
          rw [hok] at cQ
          refine wp_region_quiet_below (by kernel_rfl) (by kernel_rfl) ?_
          repeat (go_big_quiet_step (exact cQ _ _))
          refine wpQuiet_nil ?_
          intro _ hw'
          obtain ⟨⟨dq, osq⟩, hw''⟩ := hw'
          subst hw''
          have bq := below_regrown W dq osq
          go_wp2
          go_ret
          exact ⟨by rw [riseB, K.out.2.2, all_fail hlt (rise_bad hok)]; rfl, K.out.1.trans ((bW.trans (bq.mono bW.size)).mono K.out.1.size)⟩
        | true =>
          rw [hok] at cQ
          by_cases hs : (at5 xs (j + 1)).slot ≤ (at5 xs j).slot
          · skip
            refine wp_region_quiet_below (by kernel_rfl) (by kernel_rfl) ?_
            repeat (go_big_quiet_step (exact cQ _ _))
            refine wpQuiet_nil ?_
            intro _ hw'
            obtain ⟨⟨dq, osq⟩, hw''⟩ := hw'
            subst hw''
            have bq := below_regrown W dq osq
            go_wp2
            go_ret
            exact ⟨by rw [riseB, K.out.2.2, all_fail hlt (rise_slot hs)]; rfl, K.out.1.trans ((bW.trans (bq.mono bW.size)).mono K.out.1.size)⟩
          · have hs' : decide ((at5 xs (j + 1)).slot ≤ (at5 xs j).slot) = false := by simp; omega
            refine wp_region_quiet_below (by kernel_rfl) (by kernel_rfl) ?_
            repeat (go_big_quiet_step (exact cQ _ _))
            refine wpQuiet_nil ?_
            intro _ hw'
            obtain ⟨⟨dq, osq⟩, hw''⟩ := hw'
            subst hw''
            have bq := below_regrown W dq osq
            go_wp2
            exact ⟨⟨j + 1 + 1, by omega, by simp, K.out.1.trans ((bW.trans (bq.mono bW.size)).mono K.out.1.size), all_step K.out.2.1 (rise_good hok (by omega))⟩, by simp [intOf]; omega⟩
    · have : k = n := by omega
      subst this
      have hd : decide (k < k) = false := by simp
      go_wp2
      go_ret
      exact ⟨by rw [riseB, hx, hall]; rfl, hbl⟩
end Go.Proofs.YtooalbdlknheeaaGreat
