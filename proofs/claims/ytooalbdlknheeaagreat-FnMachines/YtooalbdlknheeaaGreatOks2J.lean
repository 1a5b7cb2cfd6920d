/- What the program's RecordOk and the specification's answer at every Record: one and the same. -/
import Derived.Test.YtooalbdlknheeaaGreatRows
import Derived.Test.YtooalbdlknheeaaGreatOksJ
import Derived.WalkKit
import Derived.WalkSpells
import Derived.WalkLawsBesides
import Derived.Below
import Derived.Lib.QuietBelow
import Derived.BigQuiet
namespace Go.Proofs.YtooalbdlknheeaaGreat
open Go.RowKit
open Go.Sort (grow)
theorem elsewhere (w : World) (g : Nat) (r : Int) (s : S5) (hg : w.cell? ⟨g, 2, none⟩ = some (.int .i64 r)) (hgb : g < w.heap.size) :
    Calls Tryz.prog 135 #[.agg #[.int .i64 s.region, .int .i64 s.slot, .int .i64 s.value, .bool s.used, .int .i64 s.version], .pointer (some ⟨g, 0, none⟩)] w fun e w' => e = .returned (.bool (!decide (s.region = r))) ∧ Below w.heap.size w w' := by
  go_enter Tryz.func135, Tryz.ntmps135
  go_wp2
  go_ret
  exact ⟨ret_bool (by simp), (Below.refl _ _).alloc (Nat.le_refl _) _⟩
theorem same_all {r : Int} {xs : List S5} (h : ∀ i, i < xs.length → (at5 xs i).region = r) : sameB r xs = true := by
  rw [sameB, List.all_eq_true]
  intro s hs
  obtain ⟨i, hi, rfl⟩ := List.getElem_of_mem hs
  have := h i hi
  rw [at5, List.getElem?_eq_getElem hi] at this
  simpa using this
theorem same_not {r : Int} {xs : List S5} {i : Nat} (hi : i < xs.length) (h : ¬ (at5 xs i).region = r) : sameB r xs = false := by
  rw [sameB, List.all_eq_false]
  refine ⟨xs[i], List.getElem_mem hi, ?_⟩
  rw [at5, List.getElem?_eq_getElem hi] at h
  simpa using h
set_option maxHeartbeats 2000000 in
theorem indexFunc_some (w : World) (g : Nat) (r : Int) (b off cap n : Nat) (xs : List S5) (hx : xs.length = n) (hn : n ≤ maxLen) (h1 : SetsAt w b off xs) (hb : b < w.heap.size) (hg : w.cell? ⟨g, 2, none⟩ = some (.int .i64 r)) (hgb : g < w.heap.size) :
    Calls Tryz.prog 169 #[.slice (some ⟨b, off, none⟩) n cap, .func (.func 135) #[] #[.pointer (some ⟨g, 0, none⟩)]] w fun e w' => ∃ i : Int, e = .returned (.int .i64 i) ∧ (0 ≤ i ↔ sameB r xs = false) ∧ Below w.heap.size w w' := by
  unfold maxLen at hn
  go_enter Tryz.func169, Tryz.ntmps169
  go_wp2
  go_loopw [8] (fun i wr => ∃ k : Nat, k ≤ n ∧ i = .int .i64 k ∧ Below w.heap.size w wr ∧ ∀ i, i < k → (at5 xs i).region = r) (fun i _ => n - (intOf i).toNat)
  case atStart => exact ⟨0, Nat.zero_le _, rfl, Below.refl _ _, fun i h => absurd h (by omega)⟩
  case round =>
    obtain ⟨k, hk, rfl, hbl, hall⟩ := hrel
    have K : Hid (Below w.heap.size w wr ∧ (∀ i, i < k → (at5 xs i).region = r) ∧ xs.length = n) := ⟨hbl, hall, hx⟩
    by_cases hlt : k < n
    · obtain ⟨c0, c1, c2, c3, c4⟩ := (h1.get (i := k) (by omega)).below hbl hb
      have hg' := (hbl.cell (p := ⟨g, 2, none⟩) hgb).trans hg
      clear hbl hall h1 hx
      by_cases hr : (at5 xs k).region = r
      · have hd : (!decide ((at5 xs k).region = r)) = false := by simp [hr]
        have HR : Hid ((at5 xs k).region = r) := hr
        clear hr
        go_wp2_with fail
        refine (elsewhere _ g r (at5 xs k) hg' (Nat.lt_of_lt_of_le hgb K.out.1.size)).mono ?_
        rw [hd]
        rintro e w1 ⟨rfl, b1⟩
        clear hd
        go_wp2
        refine ⟨⟨k + 1, by omega, by simp, K.out.1.trans (b1.mono K.out.1.size), fun i hi => ?_⟩, by simp [intOf]; omega⟩
        by_cases e : i = k
        · rw [e]; exact HR.out
        · exact K.out.2.1 i (by omega)
      · have hd : (!decide ((at5 xs k).region = r)) = true := by simp [hr]
        go_wp2_with fail
        refine (elsewhere _ g r (at5 xs k) hg' (Nat.lt_of_lt_of_le hgb K.out.1.size)).mono ?_
        rw [hd]
        rintro e w1 ⟨rfl, b1⟩
        clear hd
        go_wp2
        go_ret
        exact ⟨(k : Int), rfl, by simp [same_not (xs := xs) (i := k) (by rw [K.out.2.2]; exact hlt) hr], K.out.1.trans (b1.mono K.out.1.size)⟩
    · have : k = n := by omega
      subst this
      have hd : decide (k < k) = false := by simp
      go_wp2
      go_ret
      exact ⟨-1, rfl, by simp [same_all (r := r) (xs := xs) (by rw [hx]; exact hall)], hbl⟩
theorem containsFunc_some (w : World) (g : Nat) (r : Int) (b off cap n : Nat) (xs : List S5) (hx : xs.length = n) (hn : n ≤ maxLen) (h1 : SetsAt w b off xs) (hb : b < w.heap.size) (hg : w.cell? ⟨g, 2, none⟩ = some (.int .i64 r)) (hgb : g < w.heap.size) :
    Calls Tryz.prog 137 #[.slice (some ⟨b, off, none⟩) n cap, .func (.func 135) #[] #[.pointer (some ⟨g, 0, none⟩)]] w fun e w' => e = .returned (.bool (!sameB r xs)) ∧ Below w.heap.size w w' := by
  go_enter Tryz.func137, Tryz.ntmps137
  go_wp2_with fail
  refine (indexFunc_some w g r b off cap n xs hx hn h1 hb hg hgb).mono ?_
  rintro e w1 ⟨i, rfl, hi, b1⟩
  go_wp2
  go_ret
  refine ⟨ret_bool ?_, b1⟩
  simp
theorem specId (w : World) (x : Int) : Calls Tryz.prog 78 #[.int .i64 x] w fun e w' => e = .returned (.bool (inB 1 1000000 x)) ∧ w' = w := by
  go_enter Tryz.func78, Tryz.ntmps78
  go_wp2_with (go_at_call 116; refine (specIn _ _ _ _).mono ?_; rintro e w' ⟨rfl, rfl⟩)
  go_ret
  exact ⟨rfl, rfl⟩
theorem implId (w : World) (x : Int) : Calls Tryz.prog 72 #[.int .i64 x] w fun e w' => e = .returned (.bool (inB 1 1000000 x)) ∧ w' = w := by
  go_enter Tryz.func72, Tryz.ntmps72
  go_wp2
  all_goals (go_ret; refine ⟨ret_bool ?_, rfl⟩; simp [inB_iff]; try omega)
/-- A record that is right. -/
def recB (k t r : Int) (xs : List S5) : Bool := inB 1 3 k && inB 1 1000000 t && inB 0 5 r && decide (1 ≤ xs.length) && decide (xs.length ≤ 12) && riseB xs && sameB r xs
def specB (k t r : Int) (xs : List S5) : Bool := inB 1 3 k && inB 1 1000000 t && inB 0 5 r && decide (1 ≤ xs.length) && decide (xs.length ≤ 12) && l2B xs && decide ((at5 xs 0).region = r)
theorem specB_eq (k t r : Int) (xs : List S5) : specB k t r xs = recB k t r xs := by
  unfold specB recB
  by_cases h : 1 ≤ xs.length
  · have : (l2B xs && decide ((at5 xs 0).region = r)) = (riseB xs && sameB r xs) := by
      rw [Bool.eq_iff_iff]
      simp only [Bool.and_eq_true, decide_eq_true_eq, l2B, riseB, List.all_eq_true, List.mem_range, l2At, Bool.or_eq_true]
      constructor
      · rintro ⟨h1, h2⟩
        refine ⟨fun i hi => (h1 i hi).1, same_all fun i hi => ?_⟩
        rcases (h1 i hi).2 with e | e
        · rw [e]; exact h2
        · rw [e]; exact h2
      · rintro ⟨h1, h2⟩
        have ha : ∀ i, i < xs.length → (at5 xs i).region = r := fun i hi => by
          by_cases e : (at5 xs i).region = r
          · exact e
          · rw [same_not hi e] at h2; cases h2
        exact ⟨fun i hi => ⟨h1 i hi, .inr (by rw [ha i hi, ha 0 (by omega)])⟩, ha 0 (by omega)⟩
    simp only [Bool.and_assoc, this]
  · simp [h]
set_option maxHeartbeats 2000000 in
theorem specRecordOk_some (w : World) (k t r : Int) (b off cap n : Nat) (xs : List S5) (hx : xs.length = n) (hn : n ≤ maxLen) (h1 : SetsAt w b off xs) (hb : b < w.heap.size) :
    Calls Tryz.prog 69 #[.agg #[.int .i64 k, .int .i64 t, .int .i64 r, .slice (some ⟨b, off, none⟩) n cap]] w fun e w' => e = .returned (.bool (specB k t r xs)) ∧ Below w.heap.size w w' := by
  go_enter Tryz.func69, Tryz.ntmps69
  go_wp2_with fail
  have e0 : (w.alloc (.cells #[.int .i64 k, .int .i64 t, .int .i64 r, .slice (some ⟨b, off, none⟩) n cap] 41)).cell? ⟨w.heap.size, 0, none⟩ = some (.int .i64 k) := by go_simp
  have e1 : (w.alloc (.cells #[.int .i64 k, .int .i64 t, .int .i64 r, .slice (some ⟨b, off, none⟩) n cap] 41)).cell? ⟨w.heap.size, 1, none⟩ = some (.int .i64 t) := by go_simp
  have e2 : (w.alloc (.cells #[.int .i64 k, .int .i64 t, .int .i64 r, .slice (some ⟨b, off, none⟩) n cap] 41)).cell? ⟨w.heap.size, 2, none⟩ = some (.int .i64 r) := by go_simp
  have e3 : (w.alloc (.cells #[.int .i64 k, .int .i64 t, .int .i64 r, .slice (some ⟨b, off, none⟩) n cap] 41)).cell? ⟨w.heap.size, 3, none⟩ = some (.slice (some ⟨b, off, none⟩) n cap) := by go_simp
  generalize hW : w.alloc (.cells #[.int .i64 k, .int .i64 t, .int .i64 r, .slice (some ⟨b, off, none⟩) n cap] 41) = W at e0 e1 e2 e3 ⊢
  have bW : Below w.heap.size w W := by subst hW; exact (Below.refl _ _).alloc (Nat.le_refl _) _
  clear hW
  have h1' := h1.below bW hb
  have hb' : b < W.heap.size := Nat.lt_of_lt_of_le hb bW.size
  have d0 := cell_regrown e0
  have d1 := cell_regrown e1
  have d2 := cell_regrown e2
  have d3 := cell_regrown e3
  have cK : ∀ d os, Calls Tryz.prog 116 #[.int .i64 k, .int .i64 1, .int .i64 3] (grow (redrawn W d) os) fun e w'' => e = .returned (.bool (inB 1 3 k)) ∧ ∃ p : Regrown, w'' = grow (redrawn W p.d) p.os := fun d os => Calls.regrown_of ((specIn _ _ _ _).mono fun _ _ ⟨h, h'⟩ => ⟨h, by rw [h']; exact Below.refl _ _⟩)
  have cT : ∀ d os, Calls Tryz.prog 78 #[.int .i64 t] (grow (redrawn W d) os) fun e w'' => e = .returned (.bool (inB 1 1000000 t)) ∧ ∃ p : Regrown, w'' = grow (redrawn W p.d) p.os := fun d os => Calls.regrown_of ((specId _ _).mono fun _ _ ⟨h, h'⟩ => ⟨h, by rw [h']; exact Below.refl _ _⟩)
  have cR : ∀ d os, Calls Tryz.prog 56 #[.int .i64 r] (grow (redrawn W d) os) fun e w'' => e = .returned (.bool (inB 0 5 r)) ∧ ∃ p : Regrown, w'' = grow (redrawn W p.d) p.os := fun d os => Calls.regrown_of ((specRegion _ _).mono fun _ _ ⟨h, h'⟩ => ⟨h, by rw [h']; exact Below.refl _ _⟩)
  have cS : ∀ d os, Calls Tryz.prog 139 #[.slice (some ⟨b, off, none⟩) n cap] (grow (redrawn W d) os) fun e w'' => e = .returned (.bool (l2B xs)) ∧ ∃ p : Regrown, w'' = grow (redrawn W p.d) p.os := fun d os => Calls.regrown_of (l2Sets_some _ b off cap n xs hx hn (h1'.below (below_regrown W d os) hb') (Nat.lt_of_lt_of_le hb' (below_regrown W d os).size))
  have hn' : n ≤ 9223372036854775807 := hn
  clear e0 e1 e2 e3
  cases g1 : inB 1 3 k with
  | false =>
    rw [g1] at cK
    refine wp_region_quiet_below (by kernel_rfl) (by kernel_rfl) ?_
    repeat (go_big_quiet_step (first | (go_at_call 116; exact cK _ _) | (go_at_call 78; exact cT _ _) | (go_at_call 56; exact cR _ _) | (go_at_call 139; exact cS _ _)))
    refine wpQuiet_nil ?_
    intro _ hw'
    obtain ⟨⟨dq, osq⟩, hw''⟩ := hw'
    subst hw''
    have bq := below_regrown W dq osq
    go_wp2
    go_ret
    exact ⟨by rw [specB, g1]; rfl, bW.trans (bq.mono bW.size)⟩
  | true =>
    rw [g1] at cK
    cases g2 : inB 1 1000000 t with
    | false =>
      rw [g2] at cT
      refine wp_region_quiet_below (by kernel_rfl) (by kernel_rfl) ?_
      repeat (go_big_quiet_step (first | (go_at_call 116; exact cK _ _) | (go_at_call 78; exact cT _ _) | (go_at_call 56; exact cR _ _) | (go_at_call 139; exact cS _ _)))
      refine wpQuiet_nil ?_
      intro _ hw'
      obtain ⟨⟨dq, osq⟩, hw''⟩ := hw'
      subst hw''
      have bq := below_regrown W dq osq
      go_wp2
      go_ret
      exact ⟨by rw [specB, g1, g2]; rfl, bW.trans (bq.mono bW.size)⟩
    | true =>
      rw [g2] at cT
      cases g3 : inB 0 5 r with
      | false =>
        rw [g3] at cR
        refine wp_region_quiet_below (by kernel_rfl) (by kernel_rfl) ?_
        repeat (go_big_quiet_step (first | (go_at_call 116; exact cK _ _) | (go_at_call 78; exact cT _ _) | (go_at_call 56; exact cR _ _) | (go_at_call 139; exact cS _ _)))
        refine wpQuiet_nil ?_
        intro _ hw'
        obtain ⟨⟨dq, osq⟩, hw''⟩ := hw'
        subst hw''
        have bq := below_regrown W dq osq
        go_wp2
        go_ret
        exact ⟨by rw [specB, g1, g2, g3]; rfl, bW.trans (bq.mono bW.size)⟩
      | true =>
        rw [g3] at cR
        by_cases g4 : 1 ≤ n
        · have z := (h1'.get (i := 0) (by omega)).c0
          simp only [Nat.zero_mul, Nat.add_zero] at z
          have dz := cell_regrown z
          have HX : Hid (xs.length = n) := hx
          have g4' : (1 : Int) ≤ (n : Int) := by omega
          have g4'' : (0 : Int) < (n : Int) := by omega
          clear z hx h1 h1'
          by_cases g5 : n ≤ 12
          · have g5' : (n : Int) ≤ 12 := by omega
            cases g6 : l2B xs with
            | false =>
              rw [g6] at cS
              refine wp_region_quiet_below (by kernel_rfl) (by kernel_rfl) ?_
              repeat (go_big_quiet_step (first | (go_at_call 116; exact cK _ _) | (go_at_call 78; exact cT _ _) | (go_at_call 56; exact cR _ _) | (go_at_call 139; exact cS _ _)))
              refine wpQuiet_nil ?_
              intro _ hw'
              obtain ⟨⟨dq, osq⟩, hw''⟩ := hw'
              subst hw''
              have bq := below_regrown W dq osq
              go_wp2
              go_ret
              exact ⟨by rw [specB, g1, g2, g3, HX.out, decide_eq_true g4, decide_eq_true g5, g6]; rfl, bW.trans (bq.mono bW.size)⟩
            | true =>
              rw [g6] at cS
              by_cases g7 : (at5 xs 0).region = r
              · have g7' : ((at5 xs 0).region == r) = true := by simp [g7]
                have H7 : Hid ((at5 xs 0).region = r) := g7
                clear g7
                refine wp_region_quiet_below (by kernel_rfl) (by kernel_rfl) ?_
                repeat (go_big_quiet_step (first | (go_at_call 116; exact cK _ _) | (go_at_call 78; exact cT _ _) | (go_at_call 56; exact cR _ _) | (go_at_call 139; exact cS _ _)))
                refine wpQuiet_nil ?_
                intro _ hw'
                obtain ⟨⟨dq, osq⟩, hw''⟩ := hw'
                subst hw''
                have bq := below_regrown W dq osq
                go_wp2
                go_ret
                exact ⟨by rw [specB, g1, g2, g3, HX.out, decide_eq_true g4, decide_eq_true g5, g6, decide_eq_true H7.out]; rfl, bW.trans (bq.mono bW.size)⟩
              · have g7' : ((at5 xs 0).region == r) = false := by simp [g7]
                refine wp_region_quiet_below (by kernel_rfl) (by kernel_rfl) ?_
                repeat (go_big_quiet_step (first | (go_at_call 116; exact cK _ _) | (go_at_call 78; exact cT _ _) | (go_at_call 56; exact cR _ _) | (go_at_call 139; exact cS _ _)))
                refine wpQuiet_nil ?_
                intro _ hw'
                obtain ⟨⟨dq, osq⟩, hw''⟩ := hw'
                subst hw''
                have bq := below_regrown W dq osq
                go_wp2
                go_ret
                exact ⟨by rw [specB, g1, g2, g3, HX.out, decide_eq_true g4, decide_eq_true g5, g6, decide_eq_false g7]; rfl, bW.trans (bq.mono bW.size)⟩
          · have g5' : decide ((n : Int) ≤ 12) = false := by simp; omega
            refine wp_region_quiet_below (by kernel_rfl) (by kernel_rfl) ?_
            repeat (go_big_quiet_step (first | (go_at_call 116; exact cK _ _) | (go_at_call 78; exact cT _ _) | (go_at_call 56; exact cR _ _) | (go_at_call 139; exact cS _ _)))
            refine wpQuiet_nil ?_
            intro _ hw'
            obtain ⟨⟨dq, osq⟩, hw''⟩ := hw'
            subst hw''
            have bq := below_regrown W dq osq
            go_wp2
            go_ret
            exact ⟨by rw [specB, g1, g2, g3, HX.out, decide_eq_true g4, decide_eq_false (show ¬ n ≤ 12 by omega)]; rfl, bW.trans (bq.mono bW.size)⟩
        · have g4' : decide (1 ≤ (n : Int)) = false := by simp; omega
          have HX : Hid (xs.length = n) := hx
          clear hx h1 h1'
          refine wp_region_quiet_below (by kernel_rfl) (by kernel_rfl) ?_
          repeat (go_big_quiet_step (first | (go_at_call 116; exact cK _ _) | (go_at_call 78; exact cT _ _) | (go_at_call 56; exact cR _ _) | (go_at_call 139; exact cS _ _)))
          refine wpQuiet_nil ?_
          intro _ hw'
          obtain ⟨⟨dq, osq⟩, hw''⟩ := hw'
          subst hw''
          have bq := below_regrown W dq osq
          go_wp2
          go_ret
          exact ⟨by rw [specB, g1, g2, g3, HX.out, decide_eq_false (show ¬ 1 ≤ n by omega)]; rfl, bW.trans (bq.mono bW.size)⟩
set_option maxHeartbeats 2000000 in
theorem specRecordOk_none (w : World) (k t r : Int) (a : Option Addr) (cap : Nat) :
    Calls Tryz.prog 69 #[.agg #[.int .i64 k, .int .i64 t, .int .i64 r, .slice a 0 cap]] w fun e w' => e = .returned (.bool (specB k t r [])) ∧ Below w.heap.size w w' := by
  go_enter Tryz.func69, Tryz.ntmps69
  go_wp2_with fail
  have e0 : (w.alloc (.cells #[.int .i64 k, .int .i64 t, .int .i64 r, .slice a 0 cap] 41)).cell? ⟨w.heap.size, 0, none⟩ = some (.int .i64 k) := by go_simp
  have e1 : (w.alloc (.cells #[.int .i64 k, .int .i64 t, .int .i64 r, .slice a 0 cap] 41)).cell? ⟨w.heap.size, 1, none⟩ = some (.int .i64 t) := by go_simp
  have e2 : (w.alloc (.cells #[.int .i64 k, .int .i64 t, .int .i64 r, .slice a 0 cap] 41)).cell? ⟨w.heap.size, 2, none⟩ = some (.int .i64 r) := by go_simp
  have e3 : (w.alloc (.cells #[.int .i64 k, .int .i64 t, .int .i64 r, .slice a 0 cap] 41)).cell? ⟨w.heap.size, 3, none⟩ = some (.slice a 0 cap) := by go_simp
  generalize hW : w.alloc (.cells #[.int .i64 k, .int .i64 t, .int .i64 r, .slice a 0 cap] 41) = W at e0 e1 e2 e3 ⊢
  have bW : Below w.heap.size w W := by subst hW; exact (Below.refl _ _).alloc (Nat.le_refl _) _
  clear hW
  have d0 := cell_regrown e0
  have d1 := cell_regrown e1
  have d2 := cell_regrown e2
  have d3 := cell_regrown e3
  have cK : ∀ d os, Calls Tryz.prog 116 #[.int .i64 k, .int .i64 1, .int .i64 3] (grow (redrawn W d) os) fun e w'' => e = .returned (.bool (inB 1 3 k)) ∧ ∃ p : Regrown, w'' = grow (redrawn W p.d) p.os := fun d os => Calls.regrown_of ((specIn _ _ _ _).mono fun _ _ ⟨h, h'⟩ => ⟨h, by rw [h']; exact Below.refl _ _⟩)
  have cT : ∀ d os, Calls Tryz.prog 78 #[.int .i64 t] (grow (redrawn W d) os) fun e w'' => e = .returned (.bool (inB 1 1000000 t)) ∧ ∃ p : Regrown, w'' = grow (redrawn W p.d) p.os := fun d os => Calls.regrown_of ((specId _ _).mono fun _ _ ⟨h, h'⟩ => ⟨h, by rw [h']; exact Below.refl _ _⟩)
  have cR : ∀ d os, Calls Tryz.prog 56 #[.int .i64 r] (grow (redrawn W d) os) fun e w'' => e = .returned (.bool (inB 0 5 r)) ∧ ∃ p : Regrown, w'' = grow (redrawn W p.d) p.os := fun d os => Calls.regrown_of ((specRegion _ _).mono fun _ _ ⟨h, h'⟩ => ⟨h, by rw [h']; exact Below.refl _ _⟩)
  clear e0 e1 e2 e3
  cases g1 : inB 1 3 k with
  | false =>
    rw [g1] at cK
    refine wp_region_quiet_below (by kernel_rfl) (by kernel_rfl) ?_
    repeat (go_big_quiet_step (first | (go_at_call 116; exact cK _ _) | (go_at_call 78; exact cT _ _) | (go_at_call 56; exact cR _ _)))
    refine wpQuiet_nil ?_
    intro _ hw'
    obtain ⟨⟨dq, osq⟩, hw''⟩ := hw'
    subst hw''
    have bq := below_regrown W dq osq
    go_wp2
    go_ret
    exact ⟨by rw [specB, g1]; rfl, bW.trans (bq.mono bW.size)⟩
  | true =>
    rw [g1] at cK
    cases g2 : inB 1 1000000 t with
    | false =>
      rw [g2] at cT
      refine wp_region_quiet_below (by kernel_rfl) (by kernel_rfl) ?_
      repeat (go_big_quiet_step (first | (go_at_call 116; exact cK _ _) | (go_at_call 78; exact cT _ _) | (go_at_call 56; exact cR _ _)))
      refine wpQuiet_nil ?_
      intro _ hw'
      obtain ⟨⟨dq, osq⟩, hw''⟩ := hw'
      subst hw''
      have bq := below_regrown W dq osq
      go_wp2
      go_ret
      exact ⟨by rw [specB, g1, g2]; rfl, bW.trans (bq.mono bW.size)⟩
    | true =>
      rw [g2] at cT
      cases g3 : inB 0 5 r with
      | false =>
        rw [g3] at cR
        refine wp_region_quiet_below (by kernel_rfl) (by kernel_rfl) ?_
        repeat (go_big_quiet_step (first | (go_at_call 116; exact cK _ _) | (go_at_call 78; exact cT _ _) | (go_at_call 56; exact cR _ _)))
        refine wpQuiet_nil ?_
        intro _ hw'
        obtain ⟨⟨dq, osq⟩, hw''⟩ := hw'
        subst hw''
        have bq := below_regrown W dq osq
        go_wp2
        go_ret
        exact ⟨by rw [specB, g1, g2, g3]; rfl, bW.trans (bq.mono bW.size)⟩
      | true =>
        rw [g3] at cR
        refine wp_region_quiet_below (by kernel_rfl) (by kernel_rfl) ?_
        repeat (go_big_quiet_step (first | (go_at_call 116; exact cK _ _) | (go_at_call 78; exact cT _ _) | (go_at_call 56; exact cR _ _)))
        refine wpQuiet_nil ?_
        intro _ hw'
        obtain ⟨⟨dq, osq⟩, hw''⟩ := hw'
        subst hw''
        have bq := below_regrown W dq osq
        go_wp2
        go_ret
        exact ⟨by rw [specB, g1, g2, g3]; rfl, bW.trans (bq.mono bW.size)⟩
theorem specRecordOk_any (w : World) (k t r : Int) (a : Option Addr) (n cap : Nat) (xs : List S5) (hn : n ≤ maxLen) (hs : Sl w w.heap.size a n xs) :
    Calls Tryz.prog 69 #[.agg #[.int .i64 k, .int .i64 t, .int .i64 r, .slice a n cap]] w fun e w' => e = .returned (.bool (recB k t r xs)) ∧ Below w.heap.size w w' := by
  obtain ⟨h1, h2⟩ := hs
  rw [← specB_eq]
  rcases h2 with rfl | ⟨b, off, rfl, hb, hx⟩
  · rw [List.eq_nil_of_length_eq_zero h1]
    exact specRecordOk_none w k t r a cap
  · exact specRecordOk_some w k t r b off cap n xs h1 hn hx hb
end Go.Proofs.YtooalbdlknheeaaGreat
