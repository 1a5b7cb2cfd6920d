/- Oks; Oks2; MacOk2; Oks3: joined. -/
import Derived.Test.YtphpcgmnljhimaaGreatRows
import Derived.Test.YtphpcgmnljhimaaGreatJ0ExactSettled
import Derived.Test.YtphpcgmnljhimaaGreatJ1ExactSettled
import Derived.WalkKit
import Derived.WalkSpells
import Derived.WalkLawsBesides
import Derived.Below
import Derived.Lib.QuietBelow
import Derived.BigQuiet
import Derived.Test.YtphpcgmnljhimaaGreatJ5ExactSettled
namespace Go.Proofs.YtphpcgmnljhimaaGreat
open Go.RowKit
open Go.Sort (grow)
def at5 (xs : List S5) (i : Nat) : S5 := xs[i]?.getD ⟨0, 0, 0, false, 0⟩
def riseAt (xs : List S5) (i : Nat) : Bool := setOkB (at5 xs i) && (decide (i = 0) || decide ((at5 xs (i - 1)).slot < (at5 xs i).slot))
def l2At (xs : List S5) (i : Nat) : Bool := riseAt xs i && (decide (i = 0) || decide ((at5 xs i).region = (at5 xs 0).region))
def riseB (xs : List S5) : Bool := (List.range xs.length).all (riseAt xs)
def l2B (xs : List S5) : Bool := (List.range xs.length).all (l2At xs)
def sameB (r : Int) (xs : List S5) : Bool := xs.all (fun s => decide (s.region = r))
theorem all_step {f : Nat → Bool} {k : Nat} (h : (List.range k).all f = true) (h' : f k = true) : (List.range (k + 1)).all f = true := by
  rw [List.range_succ, List.all_append, h]; simp [h']
theorem all_fail {f : Nat → Bool} {k n : Nat} (hk : k < n) (h : f k = false) : (List.range n).all f = false := by
  rw [List.all_eq_false]; exact ⟨k, by simpa using hk, by simp [h]⟩
theorem at5_of {xs : List S5} {i : Nat} (h : i < xs.length) : xs[i]? = some (at5 xs i) := by
  simp [at5, List.getElem?_eq_getElem h]
theorem SetsAt.get {w : World} {b off : Nat} {xs : List S5} (h : SetsAt w b off xs) {i : Nat} (hi : i < xs.length) : SetAt w b (off + i * 5) (at5 xs i) := h i _ (at5_of hi)
theorem rise_bad {xs : List S5} {k : Nat} (h : setOkB (at5 xs k) = false) : riseAt xs k = false := by simp [riseAt, h]
theorem rise_slot {xs : List S5} {j : Nat} (h : (at5 xs (j + 1)).slot ≤ (at5 xs j).slot) : riseAt xs (j + 1) = false := by simp [riseAt]; intro _; omega
theorem rise_first {xs : List S5} (h : setOkB (at5 xs 0) = true) : riseAt xs 0 = true := by simp [riseAt, h]
theorem rise_good {xs : List S5} {j : Nat} (h : setOkB (at5 xs (j + 1)) = true) (h' : (at5 xs j).slot < (at5 xs (j + 1)).slot) : riseAt xs (j + 1) = true := by simp [riseAt, h, h']
set_option maxHeartbeats 2000000 in
theorem l2Sets_some (w : World) (b off cap n : Nat) (xs : List S5) (hx : xs.length = n) (hn : n ≤ maxLen) (h1 : SetsAt w b off xs) (hb : b < w.heap.size) :
    Calls Tryz.prog 137 #[.slice (some ⟨b, off, none⟩) n cap] w fun e w' => e = .returned (.bool (l2B xs)) ∧ Below w.heap.size w w' := by
  unfold maxLen at hn
  go_enter Tryz.func137, Tryz.ntmps137
  go_wp2
  go_loopw [3] (fun i wr => ∃ k : Nat, k ≤ n ∧ i = .int .i64 k ∧ Below w.heap.size w wr ∧ (List.range k).all (l2At xs) = true) (fun i _ => n - (intOf i).toNat)
  case atStart => exact ⟨0, Nat.zero_le _, rfl, Below.refl _ _, rfl⟩
  case round =>
    obtain ⟨k, hk, rfl, hbl, hall⟩ := hrel
    have K : Hid (Below w.heap.size w wr ∧ (List.range k).all (l2At xs) = true ∧ xs.length = n) := ⟨hbl, hall, hx⟩
    by_cases hlt : k < n
    · have t1 := ((h1.get (i := k) (by omega)).below hbl hb).regrown
      have c0 := fun d os => (t1 d os).c0
      have c1 := fun d os => (t1 d os).c1
      have c2 := fun d os => (t1 d os).c2
      have c3 := fun d os => (t1 d os).c3
      have c4 := fun d os => (t1 d os).c4
      have cQ : ∀ d os, Calls Tryz.prog 88 #[.agg #[.int .i64 (at5 xs k).region, .int .i64 (at5 xs k).slot, .int .i64 (at5 xs k).value, .bool (at5 xs k).used, .int .i64 (at5 xs k).version]] (grow (redrawn wr d) os) fun e w'' => e = .returned (.bool (setOkB (at5 xs k))) ∧ ∃ p : Regrown, w'' = grow (redrawn wr p.d) p.os := fun d os => Calls.regrown_of (specSetOk _ (at5 xs k))
      cases hok : setOkB (at5 xs k) with
      | false =>
        rw [hok] at cQ
        clear t1 hbl hall h1 hx
        go_wp2_with fail
        refine wp_region_quiet_below (by kernel_rfl) (by kernel_rfl) ?_
        repeat (go_big_quiet_step (exact cQ _ _))
        refine wpQuiet_nil ?_
        intro _ hw'
        obtain ⟨⟨dq, osq⟩, hw''⟩ := hw'
        subst hw''
        have bq := below_regrown wr dq osq
        go_wp2
        go_ret
        exact ⟨by rw [l2B, K.out.2.2, all_fail hlt (by simp [l2At, rise_bad hok])]; rfl, K.out.1.trans (bq.mono K.out.1.size)⟩
      | true =>
        rw [hok] at cQ
        rcases k with _ | j
        · simp only [Nat.zero_mul, Nat.add_zero] at c0 c1 c2 c3 c4
          clear t1 hbl hall h1 hx
          go_wp2_with fail
          refine wp_region_quiet_below (by kernel_rfl) (by kernel_rfl) ?_
          repeat (go_big_quiet_step (exact cQ _ _))
          refine wpQuiet_nil ?_
          intro _ hw'
          obtain ⟨⟨dq, osq⟩, hw''⟩ := hw'
          subst hw''
          have bq := below_regrown wr dq osq
          go_wp2
          exact ⟨⟨1, by omega, by simp, K.out.1.trans (bq.mono K.out.1.size), all_step K.out.2.1 (by simp [l2At, rise_first hok])⟩, by simp [intOf]; omega⟩
        · have t2 := ((h1.get (i := j) (by omega)).below hbl hb).regrown
          have t3 := ((h1.get (i := 0) (by omega)).below hbl hb).regrown
          have e1 := fun d os => (t2 d os).c1
          have f0 := fun d os => (t3 d os).c0
          simp only [Nat.zero_mul, Nat.add_zero] at f0
          have hj : (j : Int) < (n : Int) := by omega
          have h0n : (0 : Int) < (n : Int) := by omega
          by_cases hs : (at5 xs (j + 1)).slot ≤ (at5 xs j).slot
          · clear t1 t2 t3 hbl hall h1 hx
            go_wp2_with fail
            refine wp_region_quiet_below (by kernel_rfl) (by kernel_rfl) ?_
            repeat (go_big_quiet_step (exact cQ _ _))
            refine wpQuiet_nil ?_
            intro _ hw'
            obtain ⟨⟨dq, osq⟩, hw''⟩ := hw'
            subst hw''
            have bq := below_regrown wr dq osq
            go_wp2
            go_ret
            exact ⟨by rw [l2B, K.out.2.2, all_fail hlt (by simp [l2At, rise_slot hs])]; rfl, K.out.1.trans (bq.mono K.out.1.size)⟩
          · have hs' : decide ((at5 xs (j + 1)).slot ≤ (at5 xs j).slot) = false := by simp; omega
            by_cases hr : (at5 xs (j + 1)).region = (at5 xs 0).region
            · clear t1 t2 t3 hbl hall h1 hx
              have hr' : ((at5 xs (j + 1)).region == (at5 xs 0).region) = true := by simp [hr]
              have HR : Hid ((at5 xs (j + 1)).region = (at5 xs 0).region) := hr
              clear hr
              go_wp2_with fail
              refine wp_region_quiet_below (by kernel_rfl) (by kernel_rfl) ?_
              repeat (go_big_quiet_step (exact cQ _ _))
              refine wpQuiet_nil ?_
              intro _ hw'
              obtain ⟨⟨dq, osq⟩, hw''⟩ := hw'
              subst hw''
              have bq := below_regrown wr dq osq
              go_wp2
              exact ⟨⟨j + 1 + 1, by omega, by simp, K.out.1.trans (bq.mono K.out.1.size), all_step K.out.2.1 (by simp [l2At, rise_good hok hs, HR.out])⟩, by simp [intOf]; omega⟩
            · clear t1 t2 t3 hbl hall h1 hx
              have hr' : ((at5 xs (j + 1)).region == (at5 xs 0).region) = false := by simp [hr]
              have HR : Hid (¬ (at5 xs (j + 1)).region = (at5 xs 0).region) := hr
              clear hr
              go_wp2_with fail
              refine wp_region_quiet_below (by kernel_rfl) (by kernel_rfl) ?_
              repeat (go_big_quiet_step (exact cQ _ _))
              refine wpQuiet_nil ?_
              intro _ hw'
              obtain ⟨⟨dq, osq⟩, hw''⟩ := hw'
              subst hw''
              have bq := below_regrown wr dq osq
              go_wp2
              go_ret
              exact ⟨by rw [l2B, K.out.2.2, all_fail hlt (by simp [l2At, HR.out])]; rfl, K.out.1.trans (bq.mono K.out.1.size)⟩
    · have : k = n := by omega
      subst this
      have hd : decide (k < k) = false := by simp
      go_wp2
      go_ret
      exact ⟨by rw [l2B, hx, hall]; rfl, hbl⟩
set_option maxHeartbeats 2000000 in
theorem setsRise_some (w : World) (b off cap n : Nat) (xs : List S5) (hx : xs.length = n) (hn : n ≤ maxLen) (h1 : SetsAt w b off xs) (hb : b < w.heap.size) :
    Calls Tryz.prog 213 #[.slice (some ⟨b, off, none⟩) n cap] w fun e w' => e = .returned (.bool (riseB xs)) ∧ Below w.heap.size w w' := by
  unfold maxLen at hn
  go_enter Tryz.func213, Tryz.ntmps213
  go_wp2
  go_loopw [7] (fun i wr => ∃ k : Nat, k ≤ n ∧ i = .int .i64 k ∧ Below w.heap.size w wr ∧ (List.range k).all (riseAt xs) = true) (fun i _ => n - (intOf i).toNat)
  case atStart => exact ⟨0, Nat.zero_le _, rfl, Below.refl _ _, rfl⟩
  case round =>
    obtain ⟨k, hk, rfl, hbl, hall⟩ := hrel
    have K : Hid (Below w.heap.size w wr ∧ (List.range k).all (riseAt xs) = true ∧ xs.length = n) := ⟨hbl, hall, hx⟩
    by_cases hlt : k < n
    · obtain ⟨c0, c1, c2, c3, c4⟩ := (h1.get (i := k) (by omega)).below hbl hb
      have hprev : ∀ j, k = j + 1 → wr.cell? ⟨b, off + j * 5 + 1, none⟩ = some (.int .i64 (at5 xs j).slot) := fun j e => ((h1.get (i := j) (by omega)).below hbl hb).c1
      have KP : Hid (∀ j, k = j + 1 → wr.cell? ⟨b, off + j * 5 + 1, none⟩ = some (.int .i64 (at5 xs j).slot)) := hprev
      have hbr : b < wr.heap.size := Nat.lt_of_lt_of_le hb hbl.size
      clear hprev hbl hall h1 hx
      have tz : SetAt (wr.alloc (.cells #[.int .i64 (at5 xs k).region, .int .i64 (at5 xs k).slot, .int .i64 (at5 xs k).value, .bool (at5 xs k).used, .int .i64 (at5 xs k).version] 93)) wr.heap.size 0 (at5 xs k) := ⟨by go_simp, by go_simp, by go_simp, by go_simp, by go_simp⟩
      have TZ : Hid (SetAt (wr.alloc (.cells #[.int .i64 (at5 xs k).region, .int .i64 (at5 xs k).slot, .int .i64 (at5 xs k).value, .bool (at5 xs k).used, .int .i64 (at5 xs k).version] 93)) wr.heap.size 0 (at5 xs k)) := tz
      clear tz
      rcases k with _ | j
      · simp only [Nat.zero_mul, Nat.add_zero] at c0 c1 c2 c3 c4
        go_wp2_with fail
        generalize hW : wr.alloc (.cells #[.int .i64 (at5 xs 0).region, .int .i64 (at5 xs 0).slot, .int .i64 (at5 xs 0).value, .bool (at5 xs 0).used, .int .i64 (at5 xs 0).version] 93) = W at TZ ⊢
        have bW : Below wr.heap.size wr W := by subst hW; exact (Below.refl _ _).alloc (Nat.le_refl _) _
        have t1 := TZ.out.regrown
        have d0 := fun d os => (t1 d os).c0
        have d1 := fun d os => (t1 d os).c1
        have d2 := fun d os => (t1 d os).c2
        have d3 := fun d os => (t1 d os).c3
        have d4 := fun d os => (t1 d os).c4
        simp only [Nat.zero_add] at d1 d2 d3 d4
        have cQ : ∀ d os, Calls Tryz.prog 108 #[.agg #[.int .i64 (at5 xs 0).region, .int .i64 (at5 xs 0).slot, .int .i64 (at5 xs 0).value, .bool (at5 xs 0).used, .int .i64 (at5 xs 0).version]] (grow (redrawn W d) os) fun e w'' => e = .returned (.bool (setOkB (at5 xs 0))) ∧ ∃ p : Regrown, w'' = grow (redrawn W p.d) p.os := fun d os => Calls.regrown_of (implSetOk _ (at5 xs 0))
        clear hW c0 c1 c2 c3 c4 t1
        cases hok : setOkB (at5 xs 0) with
        | false =>
          rw [hok] at cQ
          refine wp_region_quiet_below (by kernel_rfl) (by kernel_rfl) ?_
          repeat (go_big_quiet_step (exact cQ _ _))
          refine wpQuiet_nil ?_
          intro _ hw'
          obtain ⟨⟨dq, osq⟩, hw''⟩ := hw'
          subst hw''
          have bq := below_regrown W dq osq
          go_wp2
          go_ret
          exact ⟨by rw [riseB, K.out.2.2, all_fail hlt (rise_bad hok)]; rfl, K.out.1.trans ((bW.trans (bq.mono bW.size)).mono K.out.1.size)⟩
        | true =>
          rw [hok] at cQ
          refine wp_region_quiet_below (by kernel_rfl) (by kernel_rfl) ?_
          repeat (go_big_quiet_step (exact cQ _ _))
          refine wpQuiet_nil ?_
          intro _ hw'
          obtain ⟨⟨dq, osq⟩, hw''⟩ := hw'
          subst hw''
          have bq := below_regrown W dq osq
          go_wp2
          exact ⟨⟨1, by omega, by simp, K.out.1.trans ((bW.trans (bq.mono bW.size)).mono K.out.1.size), all_step K.out.2.1 (rise_first hok)⟩, by simp [intOf]; omega⟩
      · have hj : (j : Int) < (n : Int) := by omega
        have hp := KP.out j rfl
        go_wp2_with fail
        generalize hW : wr.alloc (.cells #[.int .i64 (at5 xs (j + 1)).region, .int .i64 (at5 xs (j + 1)).slot, .int .i64 (at5 xs (j + 1)).value, .bool (at5 xs (j + 1)).used, .int .i64 (at5 xs (j + 1)).version] 93) = W at TZ ⊢
        have bW : Below wr.heap.size wr W := by subst hW; exact (Below.refl _ _).alloc (Nat.le_refl _) _
        have t1 := TZ.out.regrown
        have d0 := fun d os => (t1 d os).c0
        have d1 := fun d os => (t1 d os).c1
        have d2 := fun d os => (t1 d os).c2
        have d3 := fun d os => (t1 d os).c3
        have d4 := fun d os => (t1 d os).c4
        simp only [Nat.zero_add] at d1 d2 d3 d4
        have p1 := cell_regrown ((bW.cell (p := ⟨b, off + j * 5 + 1, none⟩) hbr).trans hp)
        have cQ : ∀ d os, Calls Tryz.prog 108 #[.agg #[.int .i64 (at5 xs (j + 1)).region, .int .i64 (at5 xs (j + 1)).slot, .int .i64 (at5 xs (j + 1)).value, .bool (at5 xs (j + 1)).used, .int .i64 (at5 xs (j + 1)).version]] (grow (redrawn W d) os) fun e w'' => e = .returned (.bool (setOkB (at5 xs (j + 1)))) ∧ ∃ p : Regrown, w'' = grow (redrawn W p.d) p.os := fun d os => Calls.regrown_of (implSetOk _ (at5 xs (j + 1)))
        clear hW c0 c1 c2 c3 c4 t1 hp
        cases hok : setOkB (at5 xs (j + 1)) with
        | false =>
          rw [hok] at cQ
          refine wp_region_quiet_below (by kernel_rfl) (by kernel_rfl) ?_
          repeat (go_big_quiet_step (exact cQ _ _))
          refine wpQuiet_nil ?_
          intro _ hw'
          obtain ⟨⟨dq, osq⟩, hw''⟩ := hw'
          subst hw''
          have bq := below_regrown W dq osq
          go_wp2
          go_ret
          exact ⟨by rw [riseB, K.out.2.2, all_fail hlt (rise_bad hok)]; rfl, K.out.1.trans ((bW.trans (bq.mono bW.size)).mono K.out.1.size)⟩
        | true =>
          rw [hok] at cQ
          by_cases hs : (at5 xs (j + 1)).slot ≤ (at5 xs j).slot
          · skip
            refine wp_region_quiet_below (by kernel_rfl) (by kernel_rfl) ?_
            repeat (go_big_quiet_step (exact cQ _ _))
            refine wpQuiet_nil ?_
            intro _ hw'
            obtain ⟨⟨dq, osq⟩, hw''⟩ := hw'
            subst hw''
            have bq := below_regrown W dq osq
            go_wp2
            go_ret
            exact ⟨by rw [riseB, K.out.2.2, all_fail hlt (rise_slot hs)]; rfl, K.out.1.trans ((bW.trans (bq.mono bW.size)).mono K.out.1.size)⟩
          · have hs' : decide ((at5 xs (j + 1)).slot ≤ (at5 xs j).slot) = false := by simp; omega
            refine wp_region_quiet_below (by kernel_rfl) (by kernel_rfl) ?_
            repeat (go_big_quiet_step (exact cQ _ _))
            refine wpQuiet_nil ?_
            intro _ hw'
            obtain ⟨⟨dq, osq⟩, hw''⟩ := hw'
            subst hw''
            have bq := below_regrown W dq osq
            go_wp2
            exact ⟨⟨j + 1 + 1, by omega, by simp, K.out.1.trans ((bW.trans (bq.mono bW.size)).mono K.out.1.size), all_step K.out.2.1 (rise_good hok (by omega))⟩, by simp [intOf]; omega⟩
    · have : k = n := by omega
      subst this
      have hd : decide (k < k) = false := by simp
      go_wp2
      go_ret
      exact ⟨by rw [riseB, hx, hall]; rfl, hbl⟩
theorem elsewhere (w : World) (g : Nat) (r : Int) (s : S5) (hg : w.cell? ⟨g, 2, none⟩ = some (.int .i64 r)) (hgb : g < w.heap.size) :
    Calls Tryz.prog 212 #[.agg #[.int .i64 s.region, .int .i64 s.slot, .int .i64 s.value, .bool s.used, .int .i64 s.version], .pointer (some ⟨g, 0, none⟩)] w fun e w' => e = .returned (.bool (!decide (s.region = r))) ∧ Below w.heap.size w w' := by
  go_enter Tryz.func212, Tryz.ntmps212
  go_wp2
  go_ret
  exact ⟨ret_bool (by simp), (Below.refl _ _).alloc (Nat.le_refl _) _⟩
theorem same_all {r : Int} {xs : List S5} (h : ∀ i, i < xs.length → (at5 xs i).region = r) : sameB r xs = true := by
  rw [sameB, List.all_eq_true]
  intro s hs
  obtain ⟨i, hi, rfl⟩ := List.getElem_of_mem hs
  have := h i hi
  rw [at5, List.getElem?_eq_getElem hi] at this
  simpa using this
theorem same_not {r : Int} {xs : List S5} {i : Nat} (hi : i < xs.length) (h : ¬ (at5 xs i).region = r) : sameB r xs = false := by
  rw [sameB, List.all_eq_false]
  refine ⟨xs[i], List.getElem_mem hi, ?_⟩
  rw [at5, List.getElem?_eq_getElem hi] at h
  simpa using h
set_option maxHeartbeats 2000000 in
theorem indexFunc_some (w : World) (g : Nat) (r : Int) (b off cap n : Nat) (xs : List S5) (hx : xs.length = n) (hn : n ≤ maxLen) (h1 : SetsAt w b off xs) (hb : b < w.heap.size) (hg : w.cell? ⟨g, 2, none⟩ = some (.int .i64 r)) (hgb : g < w.heap.size) :
    Calls Tryz.prog 185 #[.slice (some ⟨b, off, none⟩) n cap, .func (.func 212) #[] #[.pointer (some ⟨g, 0, none⟩)]] w fun e w' => ∃ i : Int, e = .returned (.int .i64 i) ∧ (0 ≤ i ↔ sameB r xs = false) ∧ Below w.heap.size w w' := by
  unfold maxLen at hn
  go_enter Tryz.func185, Tryz.ntmps185
  go_wp2
  go_loopw [8] (fun i wr => ∃ k : Nat, k ≤ n ∧ i = .int .i64 k ∧ Below w.heap.size w wr ∧ ∀ i, i < k → (at5 xs i).region = r) (fun i _ => n - (intOf i).toNat)
  case atStart => exact ⟨0, Nat.zero_le _, rfl, Below.refl _ _, fun i h => absurd h (by omega)⟩
  case round =>
    obtain ⟨k, hk, rfl, hbl, hall⟩ := hrel
    have K : Hid (Below w.heap.size w wr ∧ (∀ i, i < k → (at5 xs i).region = r) ∧ xs.length = n) := ⟨hbl, hall, hx⟩
    by_cases hlt : k < n
    · obtain ⟨c0, c1, c2, c3, c4⟩ := (h1.get (i := k) (by omega)).below hbl hb
      have hg' := (hbl.cell (p := ⟨g, 2, none⟩) hgb).trans hg
      clear hbl hall h1 hx
      by_cases hr : (at5 xs k).region = r
      · have hd : (!decide ((at5 xs k).region = r)) = false := by simp [hr]
        have HR : Hid ((at5 xs k).region = r) := hr
        clear hr
        go_wp2_with fail
        refine (elsewhere _ g r (at5 xs k) hg' (Nat.lt_of_lt_of_le hgb K.out.1.size)).mono ?_
        rw [hd]
        rintro e w1 ⟨rfl, b1⟩
        clear hd
        go_wp2
        refine ⟨⟨k + 1, by omega, by simp, K.out.1.trans (b1.mono K.out.1.size), fun i hi => ?_⟩, by simp [intOf]; omega⟩
        by_cases e : i = k
        · rw [e]; exact HR.out
        · exact K.out.2.1 i (by omega)
      · have hd : (!decide ((at5 xs k).region = r)) = true := by simp [hr]
        go_wp2_with fail
        refine (elsewhere _ g r (at5 xs k) hg' (Nat.lt_of_lt_of_le hgb K.out.1.size)).mono ?_
        rw [hd]
        rintro e w1 ⟨rfl, b1⟩
        clear hd
        go_wp2
        go_ret
        exact ⟨(k : Int), rfl, by simp [same_not (xs := xs) (i := k) (by rw [K.out.2.2]; exact hlt) hr], K.out.1.trans (b1.mono K.out.1.size)⟩
    · have : k = n := by omega
      subst this
      have hd : decide (k < k) = false := by simp
      go_wp2
      go_ret
      exact ⟨-1, rfl, by simp [same_all (r := r) (xs := xs) (by rw [hx]; exact hall)], hbl⟩
theorem containsFunc_some (w : World) (g : Nat) (r : Int) (b off cap n : Nat) (xs : List S5) (hx : xs.length = n) (hn : n ≤ maxLen) (h1 : SetsAt w b off xs) (hb : b < w.heap.size) (hg : w.cell? ⟨g, 2, none⟩ = some (.int .i64 r)) (hgb : g < w.heap.size) :
    Calls Tryz.prog 157 #[.slice (some ⟨b, off, none⟩) n cap, .func (.func 212) #[] #[.pointer (some ⟨g, 0, none⟩)]] w fun e w' => e = .returned (.bool (!sameB r xs)) ∧ Below w.heap.size w w' := by
  go_enter Tryz.func157, Tryz.ntmps157
  go_wp2_with fail
  refine (indexFunc_some w g r b off cap n xs hx hn h1 hb hg hgb).mono ?_
  rintro e w1 ⟨i, rfl, hi, b1⟩
  go_wp2
  go_ret
  refine ⟨ret_bool ?_, b1⟩
  simp
theorem specId (w : World) (x : Int) : Calls Tryz.prog 43 #[.int .i64 x] w fun e w' => e = .returned (.bool (inB 1 1000000 x)) ∧ w' = w := by
  go_enter Tryz.func43, Tryz.ntmps43
  go_wp2_with (go_at_call 44; refine (specIn _ _ _ _).mono ?_; rintro e w' ⟨rfl, rfl⟩)
  go_ret
  exact ⟨rfl, rfl⟩
theorem implId (w : World) (x : Int) : Calls Tryz.prog 101 #[.int .i64 x] w fun e w' => e = .returned (.bool (inB 1 1000000 x)) ∧ w' = w := by
  go_enter Tryz.func101, Tryz.ntmps101
  go_wp2
  all_goals (go_ret; refine ⟨ret_bool ?_, rfl⟩; simp [inB_iff]; try omega)
def recB (k t r : Int) (xs : List S5) : Bool := inB 1 3 k && inB 1 1000000 t && inB 0 5 r && decide (1 ≤ xs.length) && decide (xs.length ≤ 12) && riseB xs && sameB r xs
def specB (k t r : Int) (xs : List S5) : Bool := inB 1 3 k && inB 1 1000000 t && inB 0 5 r && decide (1 ≤ xs.length) && decide (xs.length ≤ 12) && l2B xs && decide ((at5 xs 0).region = r)
theorem specB_eq (k t r : Int) (xs : List S5) : specB k t r xs = recB k t r xs := by
  unfold specB recB
  by_cases h : 1 ≤ xs.length
  · have : (l2B xs && decide ((at5 xs 0).region = r)) = (riseB xs && sameB r xs) := by
      rw [Bool.eq_iff_iff]
      simp only [Bool.and_eq_true, decide_eq_true_eq, l2B, riseB, List.all_eq_true, List.mem_range, l2At, Bool.or_eq_true]
      constructor
      · rintro ⟨h1, h2⟩
        refine ⟨fun i hi => (h1 i hi).1, same_all fun i hi => ?_⟩
        rcases (h1 i hi).2 with e | e
        · rw [e]; exact h2
        · rw [e]; exact h2
      · rintro ⟨h1, h2⟩
        have ha : ∀ i, i < xs.length → (at5 xs i).region = r := fun i hi => by
          by_cases e : (at5 xs i).region = r
          · exact e
          · rw [same_not hi e] at h2; cases h2
        exact ⟨fun i hi => ⟨h1 i hi, .inr (by rw [ha i hi, ha 0 (by omega)])⟩, ha 0 (by omega)⟩
    simp only [Bool.and_assoc, this]
  · simp [h]
set_option maxHeartbeats 2000000 in
theorem specRecordOk_some (w : World) (k t r : Int) (b off cap n : Nat) (xs : List S5) (hx : xs.length = n) (hn : n ≤ maxLen) (h1 : SetsAt w b off xs) (hb : b < w.heap.size) :
    Calls Tryz.prog 85 #[.agg #[.int .i64 k, .int .i64 t, .int .i64 r, .slice (some ⟨b, off, none⟩) n cap]] w fun e w' => e = .returned (.bool (specB k t r xs)) ∧ Below w.heap.size w w' := by
  go_enter Tryz.func85, Tryz.ntmps85
  go_wp2_with fail
  have e0 : (w.alloc (.cells #[.int .i64 k, .int .i64 t, .int .i64 r, .slice (some ⟨b, off, none⟩) n cap] 133)).cell? ⟨w.heap.size, 0, none⟩ = some (.int .i64 k) := by go_simp
  have e1 : (w.alloc (.cells #[.int .i64 k, .int .i64 t, .int .i64 r, .slice (some ⟨b, off, none⟩) n cap] 133)).cell? ⟨w.heap.size, 1, none⟩ = some (.int .i64 t) := by go_simp
  have e2 : (w.alloc (.cells #[.int .i64 k, .int .i64 t, .int .i64 r, .slice (some ⟨b, off, none⟩) n cap] 133)).cell? ⟨w.heap.size, 2, none⟩ = some (.int .i64 r) := by go_simp
  have e3 : (w.alloc (.cells #[.int .i64 k, .int .i64 t, .int .i64 r, .slice (some ⟨b, off, none⟩) n cap] 133)).cell? ⟨w.heap.size, 3, none⟩ = some (.slice (some ⟨b, off, none⟩) n cap) := by go_simp
  generalize hW : w.alloc (.cells #[.int .i64 k, .int .i64 t, .int .i64 r, .slice (some ⟨b, off, none⟩) n cap] 133) = W at e0 e1 e2 e3 ⊢
  have bW : Below w.heap.size w W := by subst hW; exact (Below.refl _ _).alloc (Nat.le_refl _) _
  clear hW
  have h1' := h1.below bW hb
  have hb' : b < W.heap.size := Nat.lt_of_lt_of_le hb bW.size
  have d0 := cell_regrown e0
  have d1 := cell_regrown e1
  have d2 := cell_regrown e2
  have d3 := cell_regrown e3
  have cK : ∀ d os, Calls Tryz.prog 44 #[.int .i64 k, .int .i64 1, .int .i64 3] (grow (redrawn W d) os) fun e w'' => e = .returned (.bool (inB 1 3 k)) ∧ ∃ p : Regrown, w'' = grow (redrawn W p.d) p.os := fun d os => Calls.regrown_of ((specIn _ _ _ _).mono fun _ _ ⟨h, h'⟩ => ⟨h, by rw [h']; exact Below.refl _ _⟩)
  have cT : ∀ d os, Calls Tryz.prog 43 #[.int .i64 t] (grow (redrawn W d) os) fun e w'' => e = .returned (.bool (inB 1 1000000 t)) ∧ ∃ p : Regrown, w'' = grow (redrawn W p.d) p.os := fun d os => Calls.regrown_of ((specId _ _).mono fun _ _ ⟨h, h'⟩ => ⟨h, by rw [h']; exact Below.refl _ _⟩)
  have cR : ∀ d os, Calls Tryz.prog 83 #[.int .i64 r] (grow (redrawn W d) os) fun e w'' => e = .returned (.bool (inB 0 5 r)) ∧ ∃ p : Regrown, w'' = grow (redrawn W p.d) p.os := fun d os => Calls.regrown_of ((specRegion _ _).mono fun _ _ ⟨h, h'⟩ => ⟨h, by rw [h']; exact Below.refl _ _⟩)
  have cS : ∀ d os, Calls Tryz.prog 137 #[.slice (some ⟨b, off, none⟩) n cap] (grow (redrawn W d) os) fun e w'' => e = .returned (.bool (l2B xs)) ∧ ∃ p : Regrown, w'' = grow (redrawn W p.d) p.os := fun d os => Calls.regrown_of (l2Sets_some _ b off cap n xs hx hn (h1'.below (below_regrown W d os) hb') (Nat.lt_of_lt_of_le hb' (below_regrown W d os).size))
  have hn' : n ≤ 9223372036854775807 := hn
  clear e0 e1 e2 e3
  cases g1 : inB 1 3 k with
  | false =>
    rw [g1] at cK
    refine wp_region_quiet_below (by kernel_rfl) (by kernel_rfl) ?_
    repeat (go_big_quiet_step (first | (go_at_call 44; exact cK _ _) | (go_at_call 43; exact cT _ _) | (go_at_call 83; exact cR _ _) | (go_at_call 137; exact cS _ _)))
    refine wpQuiet_nil ?_
    intro _ hw'
    obtain ⟨⟨dq, osq⟩, hw''⟩ := hw'
    subst hw''
    have bq := below_regrown W dq osq
    go_wp2
    go_ret
    exact ⟨by rw [specB, g1]; rfl, bW.trans (bq.mono bW.size)⟩
  | true =>
    rw [g1] at cK
    cases g2 : inB 1 1000000 t with
    | false =>
      rw [g2] at cT
      refine wp_region_quiet_below (by kernel_rfl) (by kernel_rfl) ?_
      repeat (go_big_quiet_step (first | (go_at_call 44; exact cK _ _) | (go_at_call 43; exact cT _ _) | (go_at_call 83; exact cR _ _) | (go_at_call 137; exact cS _ _)))
      refine wpQuiet_nil ?_
      intro _ hw'
      obtain ⟨⟨dq, osq⟩, hw''⟩ := hw'
      subst hw''
      have bq := below_regrown W dq osq
      go_wp2
      go_ret
      exact ⟨by rw [specB, g1, g2]; rfl, bW.trans (bq.mono bW.size)⟩
    | true =>
      rw [g2] at cT
      cases g3 : inB 0 5 r with
      | false =>
        rw [g3] at cR
        refine wp_region_quiet_below (by kernel_rfl) (by kernel_rfl) ?_
        repeat (go_big_quiet_step (first | (go_at_call 44; exact cK _ _) | (go_at_call 43; exact cT _ _) | (go_at_call 83; exact cR _ _) | (go_at_call 137; exact cS _ _)))
        refine wpQuiet_nil ?_
        intro _ hw'
        obtain ⟨⟨dq, osq⟩, hw''⟩ := hw'
        subst hw''
        have bq := below_regrown W dq osq
        go_wp2
        go_ret
        exact ⟨by rw [specB, g1, g2, g3]; rfl, bW.trans (bq.mono bW.size)⟩
      | true =>
        rw [g3] at cR
        by_cases g4 : 1 ≤ n
        · have z := (h1'.get (i := 0) (by omega)).c0
          simp only [Nat.zero_mul, Nat.add_zero] at z
          have dz := cell_regrown z
          have HX : Hid (xs.length = n) := hx
          have g4' : (1 : Int) ≤ (n : Int) := by omega
          have g4'' : (0 : Int) < (n : Int) := by omega
          clear z hx h1 h1'
          by_cases g5 : n ≤ 12
          · have g5' : (n : Int) ≤ 12 := by omega
            cases g6 : l2B xs with
            | false =>
              rw [g6] at cS
              refine wp_region_quiet_below (by kernel_rfl) (by kernel_rfl) ?_
              repeat (go_big_quiet_step (first | (go_at_call 44; exact cK _ _) | (go_at_call 43; exact cT _ _) | (go_at_call 83; exact cR _ _) | (go_at_call 137; exact cS _ _)))
              refine wpQuiet_nil ?_
              intro _ hw'
              obtain ⟨⟨dq, osq⟩, hw''⟩ := hw'
              subst hw''
              have bq := below_regrown W dq osq
              go_wp2
              go_ret
              exact ⟨by rw [specB, g1, g2, g3, HX.out, decide_eq_true g4, decide_eq_true g5, g6]; rfl, bW.trans (bq.mono bW.size)⟩
            | true =>
              rw [g6] at cS
              by_cases g7 : (at5 xs 0).region = r
              · have g7' : ((at5 xs 0).region == r) = true := by simp [g7]
                have H7 : Hid ((at5 xs 0).region = r) := g7
                clear g7
                refine wp_region_quiet_below (by kernel_rfl) (by kernel_rfl) ?_
                repeat (go_big_quiet_step (first | (go_at_call 44; exact cK _ _) | (go_at_call 43; exact cT _ _) | (go_at_call 83; exact cR _ _) | (go_at_call 137; exact cS _ _)))
                refine wpQuiet_nil ?_
                intro _ hw'
                obtain ⟨⟨dq, osq⟩, hw''⟩ := hw'
                subst hw''
                have bq := below_regrown W dq osq
                go_wp2
                go_ret
                exact ⟨by rw [specB, g1, g2, g3, HX.out, decide_eq_true g4, decide_eq_true g5, g6, decide_eq_true H7.out]; rfl, bW.trans (bq.mono bW.size)⟩
              · have g7' : ((at5 xs 0).region == r) = false := by simp [g7]
                refine wp_region_quiet_below (by kernel_rfl) (by kernel_rfl) ?_
                repeat (go_big_quiet_step (first | (go_at_call 44; exact cK _ _) | (go_at_call 43; exact cT _ _) | (go_at_call 83; exact cR _ _) | (go_at_call 137; exact cS _ _)))
                refine wpQuiet_nil ?_
                intro _ hw'
                obtain ⟨⟨dq, osq⟩, hw''⟩ := hw'
                subst hw''
                have bq := below_regrown W dq osq
                go_wp2
                go_ret
                exact ⟨by rw [specB, g1, g2, g3, HX.out, decide_eq_true g4, decide_eq_true g5, g6, decide_eq_false g7]; rfl, bW.trans (bq.mono bW.size)⟩
          · have g5' : decide ((n : Int) ≤ 12) = false := by simp; omega
            refine wp_region_quiet_below (by kernel_rfl) (by kernel_rfl) ?_
            repeat (go_big_quiet_step (first | (go_at_call 44; exact cK _ _) | (go_at_call 43; exact cT _ _) | (go_at_call 83; exact cR _ _) | (go_at_call 137; exact cS _ _)))
            refine wpQuiet_nil ?_
            intro _ hw'
            obtain ⟨⟨dq, osq⟩, hw''⟩ := hw'
            subst hw''
            have bq := below_regrown W dq osq
            go_wp2
            go_ret
            exact ⟨by rw [specB, g1, g2, g3, HX.out, decide_eq_true g4, decide_eq_false (show ¬ n ≤ 12 by omega)]; rfl, bW.trans (bq.mono bW.size)⟩
        · have g4' : decide (1 ≤ (n : Int)) = false := by simp; omega
          have HX : Hid (xs.length = n) := hx
          clear hx h1 h1'
          refine wp_region_quiet_below (by kernel_rfl) (by kernel_rfl) ?_
          repeat (go_big_quiet_step (first | (go_at_call 44; exact cK _ _) | (go_at_call 43; exact cT _ _) | (go_at_call 83; exact cR _ _) | (go_at_call 137; exact cS _ _)))
          refine wpQuiet_nil ?_
          intro _ hw'
          obtain ⟨⟨dq, osq⟩, hw''⟩ := hw'
          subst hw''
          have bq := below_regrown W dq osq
          go_wp2
          go_ret
          exact ⟨by rw [specB, g1, g2, g3, HX.out, decide_eq_false (show ¬ 1 ≤ n by omega)]; rfl, bW.trans (bq.mono bW.size)⟩
set_option maxHeartbeats 2000000 in
theorem specRecordOk_none (w : World) (k t r : Int) (a : Option Addr) (cap : Nat) :
    Calls Tryz.prog 85 #[.agg #[.int .i64 k, .int .i64 t, .int .i64 r, .slice a 0 cap]] w fun e w' => e = .returned (.bool (specB k t r [])) ∧ Below w.heap.size w w' := by
  go_enter Tryz.func85, Tryz.ntmps85
  go_wp2_with fail
  have e0 : (w.alloc (.cells #[.int .i64 k, .int .i64 t, .int .i64 r, .slice a 0 cap] 133)).cell? ⟨w.heap.size, 0, none⟩ = some (.int .i64 k) := by go_simp
  have e1 : (w.alloc (.cells #[.int .i64 k, .int .i64 t, .int .i64 r, .slice a 0 cap] 133)).cell? ⟨w.heap.size, 1, none⟩ = some (.int .i64 t) := by go_simp
  have e2 : (w.alloc (.cells #[.int .i64 k, .int .i64 t, .int .i64 r, .slice a 0 cap] 133)).cell? ⟨w.heap.size, 2, none⟩ = some (.int .i64 r) := by go_simp
  have e3 : (w.alloc (.cells #[.int .i64 k, .int .i64 t, .int .i64 r, .slice a 0 cap] 133)).cell? ⟨w.heap.size, 3, none⟩ = some (.slice a 0 cap) := by go_simp
  generalize hW : w.alloc (.cells #[.int .i64 k, .int .i64 t, .int .i64 r, .slice a 0 cap] 133) = W at e0 e1 e2 e3 ⊢
  have bW : Below w.heap.size w W := by subst hW; exact (Below.refl _ _).alloc (Nat.le_refl _) _
  clear hW
  have d0 := cell_regrown e0
  have d1 := cell_regrown e1
  have d2 := cell_regrown e2
  have d3 := cell_regrown e3
  have cK : ∀ d os, Calls Tryz.prog 44 #[.int .i64 k, .int .i64 1, .int .i64 3] (grow (redrawn W d) os) fun e w'' => e = .returned (.bool (inB 1 3 k)) ∧ ∃ p : Regrown, w'' = grow (redrawn W p.d) p.os := fun d os => Calls.regrown_of ((specIn _ _ _ _).mono fun _ _ ⟨h, h'⟩ => ⟨h, by rw [h']; exact Below.refl _ _⟩)
  have cT : ∀ d os, Calls Tryz.prog 43 #[.int .i64 t] (grow (redrawn W d) os) fun e w'' => e = .returned (.bool (inB 1 1000000 t)) ∧ ∃ p : Regrown, w'' = grow (redrawn W p.d) p.os := fun d os => Calls.regrown_of ((specId _ _).mono fun _ _ ⟨h, h'⟩ => ⟨h, by rw [h']; exact Below.refl _ _⟩)
  have cR : ∀ d os, Calls Tryz.prog 83 #[.int .i64 r] (grow (redrawn W d) os) fun e w'' => e = .returned (.bool (inB 0 5 r)) ∧ ∃ p : Regrown, w'' = grow (redrawn W p.d) p.os := fun d os => Calls.regrown_of ((specRegion _ _).mono fun _ _ ⟨h, h'⟩ => ⟨h, by rw [h']; exact Below.refl _ _⟩)
  clear e0 e1 e2 e3
  cases g1 : inB 1 3 k with
  | false =>
    rw [g1] at cK
    refine wp_region_quiet_below (by kernel_rfl) (by kernel_rfl) ?_
    repeat (go_big_quiet_step (first | (go_at_call 44; exact cK _ _) | (go_at_call 43; exact cT _ _) | (go_at_call 83; exact cR _ _)))
    refine wpQuiet_nil ?_
    intro _ hw'
    obtain ⟨⟨dq, osq⟩, hw''⟩ := hw'
    subst hw''
    have bq := below_regrown W dq osq
    go_wp2
    go_ret
    exact ⟨by rw [specB, g1]; rfl, bW.trans (bq.mono bW.size)⟩
  | true =>
    rw [g1] at cK
    cases g2 : inB 1 1000000 t with
    | false =>
      rw [g2] at cT
      refine wp_region_quiet_below (by kernel_rfl) (by kernel_rfl) ?_
      repeat (go_big_quiet_step (first | (go_at_call 44; exact cK _ _) | (go_at_call 43; exact cT _ _) | (go_at_call 83; exact cR _ _)))
      refine wpQuiet_nil ?_
      intro _ hw'
      obtain ⟨⟨dq, osq⟩, hw''⟩ := hw'
      subst hw''
      have bq := below_regrown W dq osq
      go_wp2
      go_ret
      exact ⟨by rw [specB, g1, g2]; rfl, bW.trans (bq.mono bW.size)⟩
    | true =>
      rw [g2] at cT
      cases g3 : inB 0 5 r with
      | false =>
        rw [g3] at cR
        refine wp_region_quiet_below (by kernel_rfl) (by kernel_rfl) ?_
        repeat (go_big_quiet_step (first | (go_at_call 44; exact cK _ _) | (go_at_call 43; exact cT _ _) | (go_at_call 83; exact cR _ _)))
        refine wpQuiet_nil ?_
        intro _ hw'
        obtain ⟨⟨dq, osq⟩, hw''⟩ := hw'
        subst hw''
        have bq := below_regrown W dq osq
        go_wp2
        go_ret
        exact ⟨by rw [specB, g1, g2, g3]; rfl, bW.trans (bq.mono bW.size)⟩
      | true =>
        rw [g3] at cR
        refine wp_region_quiet_below (by kernel_rfl) (by kernel_rfl) ?_
        repeat (go_big_quiet_step (first | (go_at_call 44; exact cK _ _) | (go_at_call 43; exact cT _ _) | (go_at_call 83; exact cR _ _)))
        refine wpQuiet_nil ?_
        intro _ hw'
        obtain ⟨⟨dq, osq⟩, hw''⟩ := hw'
        subst hw''
        have bq := below_regrown W dq osq
        go_wp2
        go_ret
        exact ⟨by rw [specB, g1, g2, g3]; rfl, bW.trans (bq.mono bW.size)⟩
theorem specRecordOk_any (w : World) (k t r : Int) (a : Option Addr) (n cap : Nat) (xs : List S5) (hn : n ≤ maxLen) (hs : Sl w w.heap.size a n xs) :
    Calls Tryz.prog 85 #[.agg #[.int .i64 k, .int .i64 t, .int .i64 r, .slice a n cap]] w fun e w' => e = .returned (.bool (recB k t r xs)) ∧ Below w.heap.size w w' := by
  obtain ⟨h1, h2⟩ := hs
  rw [← specB_eq]
  rcases h2 with rfl | ⟨b, off, rfl, hb, hx⟩
  · rw [List.eq_nil_of_length_eq_zero h1]
    exact specRecordOk_none w k t r a cap
  · exact specRecordOk_some w k t r b off cap n xs h1 hn hx hb
def copB (ks : List K2) (i : Nat) : Bool := inB 0 5 (atK ks i).region && cellsB (atK ks i).cells && (decide (i = 0) || decide ((atK ks (i - 1)).region < (atK ks i).region))
def logB (rs : List R4) (i : Nat) : Bool := recB (atR rs i).kind (atR rs i).tx (atR rs i).region (atR rs i).sets
def machB (m : M4) : Bool := decide (m.copies.length ≤ 6) && decide (m.log.length ≤ 200) && decide (m.cleared.length ≤ 60) && idsB m.cleared && (List.range m.copies.length).all (copB m.copies) && (List.range m.log.length).all (logB m.log)
theorem cop_low {ks : List K2} {j : Nat} (h : (atK ks (j + 1)).region ≤ (atK ks j).region) : copB ks (j + 1) = false := by
  have : decide ((atK ks j).region < (atK ks (j + 1)).region) = false := by simp; omega
  simp [copB, this]
theorem cop_first {ks : List K2} (h : inB 0 5 (atK ks 0).region = true) (h' : cellsB (atK ks 0).cells = true) : copB ks 0 = true := by simp [copB, h, h']
theorem cop_good {ks : List K2} {j : Nat} (h : inB 0 5 (atK ks (j + 1)).region = true) (h' : cellsB (atK ks (j + 1)).cells = true) (hq : (atK ks j).region < (atK ks (j + 1)).region) : copB ks (j + 1) = true := by simp [copB, h, h', hq]
theorem specRegion_q (w : World) (x : Int) : Calls Tryz.prog 83 #[.int .i64 x] w fun e w' => e = .returned (.bool (inB 0 5 x)) ∧ Below w.heap.size w w' := (specRegion w x).mono (by rintro e w' ⟨h, rfl⟩; exact ⟨h, Below.refl _ _⟩)
set_option maxHeartbeats 8000000 in
theorem specMachineOk_any (w : World) (v : MV) (m : M4) (hk : m.copies.length ≤ maxLen) (hr : m.log.length ≤ maxLen) (hn : m.cleared.length ≤ maxLen) (hks : ∀ r ∈ m.copies, r.cells.length ≤ maxLen) (hrs : ∀ r ∈ m.log, r.sets.length ≤ maxLen) (hs : SlM w v m) :
    Calls Tryz.prog 46 #[v.val m] w fun e w' => e = .returned (.bool (machB m)) ∧ Below w.heap.size w w' := by
  obtain ⟨ac, cc, al, cl, ad, cd⟩ := v
  simp only [MV.val]
  have H : Hid (SlM w ⟨ac, cc, al, cl, ad, cd⟩ m ∧ (∀ r ∈ m.copies, r.cells.length ≤ maxLen) ∧ (∀ r ∈ m.log, r.sets.length ≤ maxLen) ∧ m.cleared.length ≤ maxLen) := ⟨hs, hks, hrs, hn⟩
  clear hs hks hrs
  unfold maxLen at hk hr hn
  have BW : Hid (Below w.heap.size w (w.alloc (.cells #[.bool m.alive, .slice ac m.copies.length cc, .slice al m.log.length cl, .slice ad m.cleared.length cd] 63))) := (Below.refl _ _).alloc (Nat.le_refl _) _
  by_cases g1 : m.copies.length ≤ 6
  case neg =>
    have hb : machB m = false := by simp [machB, g1]
    have d1 : decide ((6 : Int) < (m.copies.length : Int)) = true := by simp; omega
    rw [hb]
    go_enter Tryz.func46, Tryz.ntmps46
    go_wp2
    go_ret
    exact ⟨rfl, BW.out⟩
  have d1 : decide ((6 : Int) < (m.copies.length : Int)) = false := by simp; omega
  by_cases g2 : m.log.length ≤ 200
  case neg =>
    have hb : machB m = false := by simp [machB, g2]
    have d2 : decide ((200 : Int) < (m.log.length : Int)) = true := by simp; omega
    rw [hb]
    go_enter Tryz.func46, Tryz.ntmps46
    go_wp2
    go_ret
    exact ⟨rfl, BW.out⟩
  have d2 : decide ((200 : Int) < (m.log.length : Int)) = false := by simp; omega
  by_cases g3 : m.cleared.length ≤ 60
  case neg =>
    have hb : machB m = false := by simp [machB, g3]
    have d3 : decide ((60 : Int) < (m.cleared.length : Int)) = true := by simp; omega
    rw [hb]
    go_enter Tryz.func46, Tryz.ntmps46
    go_wp2
    go_ret
    exact ⟨rfl, BW.out⟩
  have d3 : decide ((60 : Int) < (m.cleared.length : Int)) = false := by simp; omega
  have HM : Hid (machB m = (idsB m.cleared && (List.range m.copies.length).all (copB m.copies) && (List.range m.log.length).all (logB m.log))) := by unfold Hid; simp [machB, g1, g2, g3]
  have q1 : (w.alloc (.cells #[.bool m.alive, .slice ac m.copies.length cc, .slice al m.log.length cl, .slice ad m.cleared.length cd] 63)).cell? ⟨w.heap.size, 1, none⟩ = some (.slice ac m.copies.length cc) := by go_simp
  have q2 : (w.alloc (.cells #[.bool m.alive, .slice ac m.copies.length cc, .slice al m.log.length cl, .slice ad m.cleared.length cd] 63)).cell? ⟨w.heap.size, 2, none⟩ = some (.slice al m.log.length cl) := by go_simp
  have qz : w.heap.size < (w.alloc (.cells #[.bool m.alive, .slice ac m.copies.length cc, .slice al m.log.length cl, .slice ad m.cleared.length cd] 63)).heap.size := by simp
  have Q : Hid ((w.alloc (.cells #[.bool m.alive, .slice ac m.copies.length cc, .slice al m.log.length cl, .slice ad m.cleared.length cd] 63)).cell? ⟨w.heap.size, 1, none⟩ = some (.slice ac m.copies.length cc) ∧ (w.alloc (.cells #[.bool m.alive, .slice ac m.copies.length cc, .slice al m.log.length cl, .slice ad m.cleared.length cd] 63)).cell? ⟨w.heap.size, 2, none⟩ = some (.slice al m.log.length cl) ∧ w.heap.size < (w.alloc (.cells #[.bool m.alive, .slice ac m.copies.length cc, .slice al m.log.length cl, .slice ad m.cleared.length cd] 63)).heap.size) := ⟨q1, q2, qz⟩
  clear q1 q2 qz
  go_enter Tryz.func46, Tryz.ntmps46
  go_wp2_with fail
  generalize w.alloc (.cells #[.bool m.alive, .slice ac m.copies.length cc, .slice al m.log.length cl, .slice ad m.cleared.length cd] 63) = W at *
  refine (l6Rises_any W ad m.cleared.length cd m.cleared H.out.2.2.2 (H.out.1.later BW.out).n).mono ?_
  rintro e w1 ⟨rfl, b1⟩
  have q1 := (b1.cell (p := ⟨w.heap.size, 1, none⟩) Q.out.2.2).trans Q.out.1
  have q2 := (b1.cell (p := ⟨w.heap.size, 2, none⟩) Q.out.2.2).trans Q.out.2.1
  have B1 : Hid (Below w.heap.size w w1 ∧ w.heap.size < w1.heap.size ∧ SlM w1 ⟨ac, cc, al, cl, ad, cd⟩ m) := ⟨BW.out.trans (b1.mono BW.out.size), Nat.lt_of_lt_of_le Q.out.2.2 b1.size, (H.out.1.later BW.out).later b1⟩
  clear b1
  cases gi : idsB m.cleared with
  | false =>
    go_wp2
    go_ret
    exact ⟨by rw [HM.out, gi]; rfl, B1.out.1⟩
  | true =>
    have HN : Hid (machB m = ((List.range m.copies.length).all (copB m.copies) && (List.range m.log.length).all (logB m.log))) := by unfold Hid; rw [HM.out, gi]; rfl
    clear gi HM
    have QQ : Hid (w1.cell? ⟨w.heap.size, 1, none⟩ = some (.slice ac m.copies.length cc) ∧ w1.cell? ⟨w.heap.size, 2, none⟩ = some (.slice al m.log.length cl)) := ⟨q1, q2⟩
    go_wp2
    go_loopw [3] (fun v3 wr => ∃ k : Nat, k ≤ m.copies.length ∧ v3 = .int .i64 k ∧ Below w1.heap.size w1 wr ∧ (List.range k).all (copB m.copies) = true) (fun v3 _ => m.copies.length - (intOf v3).toNat)
    case atStart => exact ⟨0, Nat.zero_le _, rfl, Below.refl _ _, rfl⟩
    case round =>
      obtain ⟨k, hkk, rfl, hbl, hall⟩ := hrel
      clear q1 q2
      have p1 := (hbl.cell (p := ⟨w.heap.size, 1, none⟩) B1.out.2.1).trans QQ.out.1
      have p2 := (hbl.cell (p := ⟨w.heap.size, 2, none⟩) B1.out.2.1).trans QQ.out.2
      have hzW : w.heap.size < wr.heap.size := Nat.lt_of_lt_of_le B1.out.2.1 hbl.size
      have K : Hid (Below w1.heap.size w1 wr ∧ (List.range k).all (copB m.copies) = true) := ⟨hbl, hall⟩
      have KF : Hid (∀ V, Below wr.heap.size wr V → Below w.heap.size w V) := fun V h => B1.out.1.trans ((K.out.1.trans (h.mono K.out.1.size)).mono B1.out.1.size)
      by_cases hlt : k < m.copies.length
      · obtain ⟨_, hsk⟩ := (B1.out.2.2.later hbl).k
        rcases hsk with hsk | ⟨b, off, rfl, hb, h1⟩
        · omega
        have t1 := h1 k _ (atK_of hlt)
        obtain ⟨a', cap', e1, s1, hcp⟩ := t1.c1
        have x1 : ∀ d os, (grow (redrawn wr d) os).cell? ⟨w.heap.size, 1, none⟩ = some (.slice (some ⟨b, off, none⟩) m.copies.length cc) := fun d os => ((below_regrown wr d os).cell (p := ⟨w.heap.size, 1, none⟩) hzW).trans p1
        have y0 : ∀ d os, (grow (redrawn wr d) os).cell? ⟨b, off + k * 2, none⟩ = some (.int .i64 (atK m.copies k).region) := fun d os => ((below_regrown wr d os).cell (p := ⟨b, off + k * 2, none⟩) hb).trans t1.c0
        have y1 : ∀ d os, (grow (redrawn wr d) os).cell? ⟨b, off + k * 2 + 1, none⟩ = some (.slice a' (atK m.copies k).cells.length cap') := fun d os => ((below_regrown wr d os).cell (p := ⟨b, off + k * 2 + 1, none⟩) hb).trans e1
        have hcl : (atK m.copies k).cells.length ≤ maxLen := H.out.2.1 _ (List.mem_of_getElem? (atK_of hlt))
        have cR : ∀ d os, Calls Tryz.prog 83 #[.int .i64 (atK m.copies k).region] (grow (redrawn wr d) os) fun e w'' => e = .returned (.bool (inB 0 5 (atK m.copies k).region)) ∧ ∃ p : Regrown, w'' = grow (redrawn wr p.d) p.os := fun d os => Calls.regrown_of (specRegion_q _ _)
        have cC : ∀ d os, Calls Tryz.prog 84 #[.slice a' (atK m.copies k).cells.length cap'] (grow (redrawn wr d) os) fun e w'' => e = .returned (.bool (cellsB (atK m.copies k).cells)) ∧ ∃ p : Regrown, w'' = grow (redrawn wr p.d) p.os := fun d os => Calls.regrown_of (specCellsOk_any _ a' _ cap' _ hcl ((s1.below (below_regrown wr d os)).mono (below_regrown wr d os).size))
        have HF : Hid (copB m.copies k = false → machB m = false) := fun h => by rw [HN.out, ids_fail hlt h]; rfl
        cases gr : inB 0 5 (atK m.copies k).region with
        | false =>
          rw [gr] at cR
          clear t1 hbl hall h1 s1 e1 hcl
          go_wp2_with fail
          refine wp_region_quiet_below (by kernel_rfl) (by kernel_rfl) ?_
          repeat (go_big_quiet_step (first | exact cR _ _ | exact cC _ _))
          refine wpQuiet_nil ?_
          intro _ hw'
          obtain ⟨⟨dq, osq⟩, hw''⟩ := hw'
          subst hw''
          have bq := below_regrown wr dq osq
          go_wp2
          go_ret
          exact ⟨by rw [HF.out (by simp [copB, gr])]; rfl, KF.out _ bq⟩
        | true =>
          rw [gr] at cR
          cases gc : cellsB (atK m.copies k).cells with
          | false =>
            rw [gc] at cC
            clear t1 hbl hall h1 s1 e1 hcl
            go_wp2_with fail
            refine wp_region_quiet_below (by kernel_rfl) (by kernel_rfl) ?_
            repeat (go_big_quiet_step (first | exact cR _ _ | exact cC _ _))
            refine wpQuiet_nil ?_
            intro _ hw'
            obtain ⟨⟨dq, osq⟩, hw''⟩ := hw'
            subst hw''
            have bq := below_regrown wr dq osq
            go_wp2
            go_ret
            exact ⟨by rw [HF.out (by simp [copB, gc])]; rfl, KF.out _ bq⟩
          | true =>
            rw [gc] at cC
            rcases k with _ | j
            · simp only [Nat.zero_mul, Nat.add_zero] at y0 y1
              clear t1 hbl hall h1 s1 e1 hcl
              go_wp2_with fail
              refine wp_region_quiet_below (by kernel_rfl) (by kernel_rfl) ?_
              repeat (go_big_quiet_step (first | exact cR _ _ | exact cC _ _))
              refine wpQuiet_nil ?_
              intro _ hw'
              obtain ⟨⟨dq, osq⟩, hw''⟩ := hw'
              subst hw''
              have bq := below_regrown wr dq osq
              go_wp2
              exact ⟨⟨1, by omega, by simp, K.out.1.trans (bq.mono K.out.1.size), ids_step K.out.2 (cop_first gr gc)⟩, by simp [intOf]; omega⟩
            · have t2 := h1 j _ (atK_of (by omega))
              have z0 : ∀ d os, (grow (redrawn wr d) os).cell? ⟨b, off + j * 2, none⟩ = some (.int .i64 (atK m.copies j).region) := fun d os => ((below_regrown wr d os).cell (p := ⟨b, off + j * 2, none⟩) hb).trans t2.c0
              have hj : (j : Int) < (m.copies.length : Int) := by omega
              by_cases hq : (atK m.copies (j + 1)).region ≤ (atK m.copies j).region
              · clear t1 t2 hbl hall h1 s1 e1 hcl
                go_wp2_with fail
                refine wp_region_quiet_below (by kernel_rfl) (by kernel_rfl) ?_
                repeat (go_big_quiet_step (first | exact cR _ _ | exact cC _ _))
                refine wpQuiet_nil ?_
                intro _ hw'
                obtain ⟨⟨dq, osq⟩, hw''⟩ := hw'
                subst hw''
                have bq := below_regrown wr dq osq
                go_wp2
                go_ret
                exact ⟨by rw [HF.out (cop_low hq)]; rfl, KF.out _ bq⟩
              · have hq' : decide ((atK m.copies (j + 1)).region ≤ (atK m.copies j).region) = false := by simp; omega
                have HQ : Hid ((atK m.copies j).region < (atK m.copies (j + 1)).region) := by unfold Hid; omega
                clear t1 t2 hbl hall h1 s1 e1 hcl hq
                go_wp2_with fail
                refine wp_region_quiet_below (by kernel_rfl) (by kernel_rfl) ?_
                repeat (go_big_quiet_step (first | exact cR _ _ | exact cC _ _))
                refine wpQuiet_nil ?_
                intro _ hw'
                obtain ⟨⟨dq, osq⟩, hw''⟩ := hw'
                subst hw''
                have bq := below_regrown wr dq osq
                go_wp2
                exact ⟨⟨j + 1 + 1, by omega, by simp, K.out.1.trans (bq.mono K.out.1.size), ids_step K.out.2 (cop_good gr gc HQ.out)⟩, by simp [intOf]; omega⟩
      · have : k = m.copies.length := by omega
        subst this
        have hd : decide ((m.copies.length : Int) < (m.copies.length : Int)) = false := by simp
        have HL : Hid (machB m = (List.range m.log.length).all (logB m.log)) := by unfold Hid; rw [HN.out, hall]; rfl
        have SR : Hid (SlM wr ⟨ac, cc, al, cl, ad, cd⟩ m ∧ w.heap.size < wr.heap.size ∧ wr.cell? ⟨w.heap.size, 2, none⟩ = some (.slice al m.log.length cl)) := ⟨B1.out.2.2.later hbl, hzW, p2⟩
        clear hall hbl
        go_wp2
        generalize wr = W2 at *
        go_loopw [4] (fun v4 wr => ∃ k : Nat, k ≤ m.log.length ∧ v4 = .int .i64 k ∧ Below W2.heap.size W2 wr ∧ (List.range k).all (logB m.log) = true) (fun v4 _ => m.log.length - (intOf v4).toNat)
        case atStart => exact ⟨0, Nat.zero_le _, rfl, Below.refl _ _, rfl⟩
        case round =>
          obtain ⟨j, hj, rfl, hb2, hal2⟩ := hrel
          have p3 := (hb2.cell (p := ⟨w.heap.size, 2, none⟩) SR.out.2.1).trans SR.out.2.2
          by_cases hlt : j < m.log.length
          · obtain ⟨_, hsr⟩ := (SR.out.1.later hb2).r
            rcases hsr with hsr | ⟨b, off, rfl, hb, h1⟩
            · omega
            have t1 := h1 j _ (atR_of hlt)
            obtain ⟨a', cap', e1, s1, hcp⟩ := t1.c3
            have c0 := t1.c0
            have c1 := t1.c1
            have c2 := t1.c2
            have HC : Hid (Sl wr wr.heap.size a' (atR m.log j).sets.length (atR m.log j).sets ∧ (atR m.log j).sets.length ≤ maxLen ∧ Below W2.heap.size W2 wr ∧ (List.range j).all (logB m.log) = true) := ⟨s1, H.out.2.2.1 _ (List.mem_of_getElem? (atR_of hlt)), hb2, hal2⟩
            have HF : Hid (logB m.log j = false → machB m = false) := fun h => by rw [HL.out]; exact ids_fail hlt h
            clear t1 h1 s1 hb2 hal2
            go_wp2_with fail
            refine (specRecordOk_any wr (atR m.log j).kind (atR m.log j).tx (atR m.log j).region a' _ cap' (atR m.log j).sets HC.out.2.1 HC.out.1).mono ?_
            rintro e w3 ⟨rfl, b3⟩
            cases gl : recB (atR m.log j).kind (atR m.log j).tx (atR m.log j).region (atR m.log j).sets with
            | false =>
              go_wp2
              go_ret
              exact ⟨by rw [HF.out gl]; rfl, KF.out _ (HC.out.2.2.1.trans (b3.mono HC.out.2.2.1.size))⟩
            | true =>
              go_wp2
              exact ⟨⟨j + 1, by omega, by simp, HC.out.2.2.1.trans (b3.mono HC.out.2.2.1.size), ids_step HC.out.2.2.2 gl⟩, by simp [intOf]; omega⟩
          · have : j = m.log.length := by omega
            subst this
            have hd2 : decide ((m.log.length : Int) < (m.log.length : Int)) = false := by simp
            go_wp2
            go_ret
            exact ⟨by rw [HL.out, hal2]; rfl, KF.out _ hb2⟩
set_option maxHeartbeats 2000000 in
theorem implRecordOk_low (w : World) (k t r : Int) (a : Option Addr) (n cap : Nat) (xs : List S5) (hb : inB 1 1000000 t = false ∨ inB 0 5 r = false ∨ ¬ (1 ≤ k ∧ k ≤ 3)) :
    Calls Tryz.prog 193 #[.agg #[.int .i64 k, .int .i64 t, .int .i64 r, .slice a n cap]] w fun e w' => e = .returned (.bool (recB k t r xs)) ∧ Below w.heap.size w w' := by
  have hk : recB k t r xs = false := by
    rcases hb with h | h | h
    · simp [recB, h]
    · simp [recB, h]
    · have : inB 1 3 k = false := by simp [inB]; omega
      simp [recB, this]
  rw [hk]
  clear hk
  by_cases k1 : k < 1
  · clear hb
    go_enter Tryz.func193, Tryz.ntmps193
    go_wp2_with (first | (go_at_call 101; refine (implId _ _).mono ?_; rw [g2]; rintro e w' ⟨rfl, rfl⟩) | (go_at_call 152; refine (implRegion _ _).mono ?_; rw [g3]; rintro e w' ⟨rfl, rfl⟩))
    go_ret
    exact ⟨rfl, (Below.refl _ _).alloc (Nat.le_refl _) _⟩
  · have k1' : decide (k < 1) = false := by simp; omega
    by_cases k2 : 3 < k
    · clear hb
      go_enter Tryz.func193, Tryz.ntmps193
      go_wp2_with (first | (go_at_call 101; refine (implId _ _).mono ?_; rw [g2]; rintro e w' ⟨rfl, rfl⟩) | (go_at_call 152; refine (implRegion _ _).mono ?_; rw [g3]; rintro e w' ⟨rfl, rfl⟩))
      go_ret
      exact ⟨rfl, (Below.refl _ _).alloc (Nat.le_refl _) _⟩
    · have k2' : decide (3 < k) = false := by simp; omega
      have hb2 : inB 1 1000000 t = false ∨ (inB 1 1000000 t = true ∧ inB 0 5 r = false) := by
        cases g2 : inB 1 1000000 t with
        | false => exact .inl rfl
        | true =>
          rcases hb with h | h | h
          · rw [h] at g2; cases g2
          · exact .inr ⟨rfl, h⟩
          · exact absurd ⟨by omega, by omega⟩ h
      clear hb
      rcases hb2 with g2 | ⟨g2, g3⟩
      · skip
        go_enter Tryz.func193, Tryz.ntmps193
        go_wp2_with (first | (go_at_call 101; refine (implId _ _).mono ?_; rw [g2]; rintro e w' ⟨rfl, rfl⟩) | (go_at_call 152; refine (implRegion _ _).mono ?_; rw [g3]; rintro e w' ⟨rfl, rfl⟩))
        go_ret
        exact ⟨rfl, (Below.refl _ _).alloc (Nat.le_refl _) _⟩
      · skip
        go_enter Tryz.func193, Tryz.ntmps193
        go_wp2_with (first | (go_at_call 101; refine (implId _ _).mono ?_; rw [g2]; rintro e w' ⟨rfl, rfl⟩) | (go_at_call 152; refine (implRegion _ _).mono ?_; rw [g3]; rintro e w' ⟨rfl, rfl⟩))
        go_ret
        exact ⟨rfl, (Below.refl _ _).alloc (Nat.le_refl _) _⟩
set_option maxHeartbeats 2000000 in
theorem implRecordOk_len (w : World) (k t r : Int) (a : Option Addr) (n cap : Nat) (xs : List S5) (hx : xs.length = n) (g2 : inB 1 1000000 t = true) (g3 : inB 0 5 r = true) (k1 : 1 ≤ k) (k2 : k ≤ 3) (hl : n < 1 ∨ 12 < n) :
    Calls Tryz.prog 193 #[.agg #[.int .i64 k, .int .i64 t, .int .i64 r, .slice a n cap]] w fun e w' => e = .returned (.bool (recB k t r xs)) ∧ Below w.heap.size w w' := by
  have hk : recB k t r xs = false := by
    rcases hl with h | h
    · simp [recB, hx, show ¬ 1 ≤ n by omega]
    · simp [recB, hx, show ¬ n ≤ 12 by omega]
  rw [hk]
  have k1' : decide (k < 1) = false := by simp; omega
  have k2' : decide (3 < k) = false := by simp; omega
  clear hk hx
  by_cases n1 : n < 1
  · have n1' : (n : Int) < 1 := by omega
    go_enter Tryz.func193, Tryz.ntmps193
    go_wp2_with (first | (go_at_call 101; refine (implId _ _).mono ?_; rw [g2]; rintro e w' ⟨rfl, rfl⟩) | (go_at_call 152; refine (implRegion _ _).mono ?_; rw [g3]; rintro e w' ⟨rfl, rfl⟩))
    go_ret
    exact ⟨rfl, (Below.refl _ _).alloc (Nat.le_refl _) _⟩
  · have n1' : decide ((n : Int) < 1) = false := by simp; omega
    have n2' : (12 : Int) < (n : Int) := by omega
    go_enter Tryz.func193, Tryz.ntmps193
    go_wp2_with (first | (go_at_call 101; refine (implId _ _).mono ?_; rw [g2]; rintro e w' ⟨rfl, rfl⟩) | (go_at_call 152; refine (implRegion _ _).mono ?_; rw [g3]; rintro e w' ⟨rfl, rfl⟩))
    go_ret
    exact ⟨rfl, (Below.refl _ _).alloc (Nat.le_refl _) _⟩
set_option maxHeartbeats 2000000 in
theorem implRecordOk_rest (w : World) (k t r : Int) (b off cap n : Nat) (xs : List S5) (hx : xs.length = n) (hn : n ≤ maxLen) (h1 : SetsAt w b off xs) (hb : b < w.heap.size) (g2 : inB 1 1000000 t = true) (g3 : inB 0 5 r = true) (k1 : 1 ≤ k) (k2 : k ≤ 3) (l1 : 1 ≤ n) (l2 : n ≤ 12) :
    Calls Tryz.prog 193 #[.agg #[.int .i64 k, .int .i64 t, .int .i64 r, .slice (some ⟨b, off, none⟩) n cap]] w fun e w' => e = .returned (.bool (recB k t r xs)) ∧ Below w.heap.size w w' := by
  have hk : recB k t r xs = (riseB xs && sameB r xs) := by simp [recB, hx, inB_yes k1 k2, g2, g3, l1, l2]
  rw [hk]
  have k1' : decide (k < 1) = false := by simp; omega
  have k2' : decide (3 < k) = false := by simp; omega
  have n1' : decide ((n : Int) < 1) = false := by simp; omega
  have n2' : decide ((12 : Int) < (n : Int)) = false := by simp; omega
  have bW : Below w.heap.size w (w.alloc (.cells #[.int .i64 k, .int .i64 t, .int .i64 r, .slice (some ⟨b, off, none⟩) n cap] 133)) := (Below.refl _ _).alloc (Nat.le_refl _) _
  have h1' := h1.below bW hb
  have hb' : b < (w.alloc (.cells #[.int .i64 k, .int .i64 t, .int .i64 r, .slice (some ⟨b, off, none⟩) n cap] 133)).heap.size := Nat.lt_of_lt_of_le hb bW.size
  have H1 : Hid (SetsAt (w.alloc (.cells #[.int .i64 k, .int .i64 t, .int .i64 r, .slice (some ⟨b, off, none⟩) n cap] 133)) b off xs ∧ xs.length = n ∧ Below w.heap.size w (w.alloc (.cells #[.int .i64 k, .int .i64 t, .int .i64 r, .slice (some ⟨b, off, none⟩) n cap] 133)) ∧ b < (w.alloc (.cells #[.int .i64 k, .int .i64 t, .int .i64 r, .slice (some ⟨b, off, none⟩) n cap] 133)).heap.size) := ⟨h1', hx, bW, hb'⟩
  clear hk h1 h1' hx bW hb'
  go_enter Tryz.func193, Tryz.ntmps193
  go_wp2_with (first | (go_at_call 101; refine (implId _ _).mono ?_; rw [g2]; rintro e w' ⟨rfl, rfl⟩) | (go_at_call 152; refine (implRegion _ _).mono ?_; rw [g3]; rintro e w' ⟨rfl, rfl⟩))
  obtain ⟨h1, hx, bW, hb'⟩ := H1.out
  refine (setsRise_some _ b off cap n xs hx hn h1 hb').mono ?_
  have e2 : (w.alloc (.cells #[.int .i64 k, .int .i64 t, .int .i64 r, .slice (some ⟨b, off, none⟩) n cap] 133)).cell? ⟨w.heap.size, 2, none⟩ = some (.int .i64 r) := by go_simp
  have e3 : (w.alloc (.cells #[.int .i64 k, .int .i64 t, .int .i64 r, .slice (some ⟨b, off, none⟩) n cap] 133)).cell? ⟨w.heap.size, 3, none⟩ = some (.slice (some ⟨b, off, none⟩) n cap) := by go_simp
  have hs : w.heap.size < (w.alloc (.cells #[.int .i64 k, .int .i64 t, .int .i64 r, .slice (some ⟨b, off, none⟩) n cap] 133)).heap.size := by simp
  generalize hW : w.alloc (.cells #[.int .i64 k, .int .i64 t, .int .i64 r, .slice (some ⟨b, off, none⟩) n cap] 133) = W at *
  clear hW H1
  rintro e w1 ⟨rfl, b1⟩
  have f2 := (b1.cell (p := ⟨w.heap.size, 2, none⟩) hs).trans e2
  have f3 := (b1.cell (p := ⟨w.heap.size, 3, none⟩) hs).trans e3
  have s1 := h1.below b1 hb'
  have H : Hid (SetsAt w1 b off xs ∧ xs.length = n) := ⟨s1, hx⟩
  clear s1 h1 hx e2 e3
  cases g6 : riseB xs with
  | false =>
    go_wp2
    go_ret
    exact ⟨by simp [g6], bW.trans (b1.mono bW.size)⟩
  | true =>
    go_wp2_with fail
    obtain ⟨s1, hx⟩ := H.out
    refine (containsFunc_some _ w.heap.size r b off cap n xs hx hn s1 (Nat.lt_of_lt_of_le hb' b1.size) f2 (Nat.lt_of_lt_of_le hs b1.size)).mono ?_
    clear s1 hx
    rintro e w2 ⟨rfl, b2⟩
    go_wp2
    go_ret
    exact ⟨ret_bool (by simp [g6]), bW.trans ((b1.trans (b2.mono b1.size)).mono bW.size)⟩
theorem implRecordOk_any (w : World) (k t r : Int) (a : Option Addr) (n cap : Nat) (xs : List S5) (hn : n ≤ maxLen) (hs : Sl w w.heap.size a n xs) :
    Calls Tryz.prog 193 #[.agg #[.int .i64 k, .int .i64 t, .int .i64 r, .slice a n cap]] w fun e w' => e = .returned (.bool (recB k t r xs)) ∧ Below w.heap.size w w' := by
  obtain ⟨h1, h2⟩ := hs
  by_cases hlow : inB 1 1000000 t = false ∨ inB 0 5 r = false ∨ ¬ (1 ≤ k ∧ k ≤ 3)
  · exact implRecordOk_low w k t r a n cap xs hlow
  · simp only [not_or, Bool.not_eq_false, Decidable.not_not] at hlow
    obtain ⟨g2, g3, k1, k2⟩ := hlow
    by_cases hl : n < 1 ∨ 12 < n
    · exact implRecordOk_len w k t r a n cap xs h1 g2 g3 k1 k2 hl
    · rcases h2 with rfl | ⟨b, off, rfl, hb, hx⟩
      · exact absurd (.inl (by omega)) hl
      · exact implRecordOk_rest w k t r b off cap n xs h1 hn hx hb g2 g3 k1 k2 (by omega) (by omega)
end Go.Proofs.YtphpcgmnljhimaaGreat