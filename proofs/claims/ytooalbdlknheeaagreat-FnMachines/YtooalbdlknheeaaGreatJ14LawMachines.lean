/- MacOk1; Plain; HdU; CellOk: joined. -/
import Derived.Test.YtooalbdlknheeaaGreatRows
import Derived.Test.YtooalbdlknheeaaGreatJ0LawMachines
import Derived.Test.YtooalbdlknheeaaGreatJ2LawMachines
import Derived.WalkKit
import Derived.WalkSpells
import Derived.WalkLawsBesides
import Derived.Below
import Derived.Lib.QuietBelow
import Derived.BigQuiet
import Derived.Test.YtooalbdlknheeaaGreatCellsJ
/- What the specification's l6Rises answers: Ids, each above the one ahead of it. -/
namespace Go.Proofs.YtooalbdlknheeaaGreat
open Go.RowKit
open Go.Sort (grow)
theorem specId_q (w : World) (x : Int) : Calls Tryz.prog 78 #[.int .i64 x] w fun e w' => e = .returned (.bool (inB 1 1000000 x)) ∧ Below w.heap.size w w' := by
  go_enter Tryz.func78, Tryz.ntmps78
  go_wp2_with (go_at_call 116; refine (specIn _ _ _ _).mono ?_; rintro e w' ⟨rfl, rfl⟩)
  go_ret
  exact ⟨rfl, Below.refl _ _⟩
def idAt (zs : List Int) (i : Nat) : Bool := inB 1 1000000 (atN zs i) && (decide (i = 0) || decide (atN zs (i - 1) < atN zs i))
/-- Ids, each above the one ahead of it. -/
def idsB (zs : List Int) : Bool := (List.range zs.length).all (idAt zs)
theorem ids_step {f : Nat → Bool} {k : Nat} (h : (List.range k).all f = true) (h' : f k = true) : (List.range (k + 1)).all f = true := by
  rw [List.range_succ, List.all_append, h]; simp [h']
theorem ids_fail {f : Nat → Bool} {k n : Nat} (hk : k < n) (h : f k = false) : (List.range n).all f = false := by
  rw [List.all_eq_false]; exact ⟨k, List.mem_range.2 hk, by simp [h]⟩
theorem id_bad {zs : List Int} {k : Nat} (h : inB 1 1000000 (atN zs k) = false) : idAt zs k = false := by simp [idAt, h]
theorem id_low {zs : List Int} {j : Nat} (h : atN zs (j + 1) ≤ atN zs j) : idAt zs (j + 1) = false := by simp [idAt]; intro _; omega
theorem id_first {zs : List Int} (h : inB 1 1000000 (atN zs 0) = true) : idAt zs 0 = true := by simp [idAt, h]
theorem id_good {zs : List Int} {j : Nat} (h : inB 1 1000000 (atN zs (j + 1)) = true) (h' : ¬ atN zs (j + 1) ≤ atN zs j) : idAt zs (j + 1) = true := by simp [idAt, h]; omega
set_option maxHeartbeats 4000000 in
theorem l6Rises_any (w : World) (a : Option Addr) (n cap : Nat) (zs : List Int) (hn : n ≤ maxLen) (hs : SlN w w.heap.size a n zs) :
    Calls Tryz.prog 115 #[.slice a n cap] w fun e w' => e = .returned (.bool (idsB zs)) ∧ Below w.heap.size w w' := by
  unfold maxLen at hn
  obtain ⟨hx, hs⟩ := hs
  go_enter Tryz.func115, Tryz.ntmps115
  go_wp2
  go_loopw [3] (fun i wr => ∃ k : Nat, k ≤ n ∧ i = .int .i64 k ∧ Below w.heap.size w wr ∧ (List.range k).all (idAt zs) = true) (fun i _ => n - (intOf i).toNat)
  case atStart => exact ⟨0, Nat.zero_le _, rfl, Below.refl _ _, rfl⟩
  case round =>
    obtain ⟨k, hk, rfl, hbl, hall⟩ := hrel
    have K : Hid (Below w.heap.size w wr ∧ (List.range k).all (idAt zs) = true ∧ zs.length = n) := ⟨hbl, hall, hx⟩
    by_cases hlt : k < n
    · rcases hs with hs | ⟨b, off, rfl, hb, h1⟩
      · omega
      have hbW : b < wr.heap.size := Nat.lt_of_lt_of_le hb hbl.size
      have t1 := (h1.below hbl hb) k _ (atN_of (by omega))
      have c0 : ∀ d os, (grow (redrawn wr d) os).cell? ⟨b, off + k, none⟩ = some (.int .i64 (atN zs k)) := fun d os => ((below_regrown wr d os).cell (p := ⟨b, off + k, none⟩) hbW).trans t1
      have cQ : ∀ d os, Calls Tryz.prog 78 #[.int .i64 (atN zs k)] (grow (redrawn wr d) os) fun e w'' => e = .returned (.bool (inB 1 1000000 (atN zs k))) ∧ ∃ p : Regrown, w'' = grow (redrawn wr p.d) p.os := fun d os => Calls.regrown_of (specId_q _ (atN zs k))
      cases hok : inB 1 1000000 (atN zs k) with
      | false =>
        rw [hok] at cQ
        clear t1 hbl hall h1 hx
        go_wp2_with fail
        refine wp_region_quiet_below (by kernel_rfl) (by kernel_rfl) ?_
        repeat (go_big_quiet_step (exact cQ _ _))
        refine wpQuiet_nil ?_
        intro _ hw'
        obtain ⟨⟨dq, osq⟩, hw''⟩ := hw'
        subst hw''
        have bq := below_regrown wr dq osq
        go_wp2
        go_ret
        exact ⟨by rw [idsB, K.out.2.2, ids_fail hlt (id_bad hok)]; rfl, K.out.1.trans (bq.mono K.out.1.size)⟩
      | true =>
        rw [hok] at cQ
        rcases k with _ | j
        · simp only [Nat.add_zero] at c0
          clear t1 hbl hall h1 hx
          go_wp2_with fail
          refine wp_region_quiet_below (by kernel_rfl) (by kernel_rfl) ?_
          repeat (go_big_quiet_step (exact cQ _ _))
          refine wpQuiet_nil ?_
          intro _ hw'
          obtain ⟨⟨dq, osq⟩, hw''⟩ := hw'
          subst hw''
          have bq := below_regrown wr dq osq
          go_wp2
          exact ⟨⟨1, by omega, by simp, K.out.1.trans (bq.mono K.out.1.size), ids_step K.out.2.1 (id_first hok)⟩, by simp [intOf]; omega⟩
        · have t2 := (h1.below hbl hb) j _ (atN_of (by omega))
          have e1 : ∀ d os, (grow (redrawn wr d) os).cell? ⟨b, off + j, none⟩ = some (.int .i64 (atN zs j)) := fun d os => ((below_regrown wr d os).cell (p := ⟨b, off + j, none⟩) hbW).trans t2
          have hj : (j : Int) < (n : Int) := by omega
          by_cases hq : atN zs (j + 1) ≤ atN zs j
          · clear t1 t2 hbl hall h1 hx
            go_wp2_with fail
            refine wp_region_quiet_below (by kernel_rfl) (by kernel_rfl) ?_
            repeat (go_big_quiet_step (exact cQ _ _))
            refine wpQuiet_nil ?_
            intro _ hw'
            obtain ⟨⟨dq, osq⟩, hw''⟩ := hw'
            subst hw''
            have bq := below_regrown wr dq osq
            go_wp2
            go_ret
            exact ⟨by rw [idsB, K.out.2.2, ids_fail hlt (id_low hq)]; rfl, K.out.1.trans (bq.mono K.out.1.size)⟩
          · have hq' : decide (atN zs (j + 1) ≤ atN zs j) = false := by simp; omega
            clear t1 t2 hbl hall h1 hx
            go_wp2_with fail
            refine wp_region_quiet_below (by kernel_rfl) (by kernel_rfl) ?_
            repeat (go_big_quiet_step (exact cQ _ _))
            refine wpQuiet_nil ?_
            intro _ hw'
            obtain ⟨⟨dq, osq⟩, hw''⟩ := hw'
            subst hw''
            have bq := below_regrown wr dq osq
            go_wp2
            exact ⟨⟨j + 1 + 1, by omega, by simp, K.out.1.trans (bq.mono K.out.1.size), ids_step K.out.2.1 (id_good hok (Int.not_le.2 hq))⟩, by simp [intOf]; omega⟩
    · have : k = n := by omega
      subst this
      have hd : decide (k < k) = false := by simp
      go_wp2
      go_ret
      exact ⟨by rw [idsB, hx, hall]; rfl, hbl⟩
end Go.Proofs.YtooalbdlknheeaaGreat
/- Plain facts on int64's bitwise or and and, for numbers from 0 on that are far from the ends; no program in sight. -/
namespace Go.Proofs.YtooalbdlknheeaaGreat
theorem wrap_i64_small (n : Nat) (h : n < 4294967296) : IntKind.i64.wrap (n : Int) = (n : Int) := by
  simp [IntKind.wrap, IntKind.bits, IntKind.signed]; omega
theorem ofInt_i64 (a : Nat) (ha : a < 4294967296) : (BitVec.ofInt 64 (a : Int)).toNat = a := by
  rw [BitVec.ofInt_natCast, BitVec.toNat_ofNat]; exact Nat.mod_eq_of_lt (by omega)
theorem i64_or_nat (a b : Nat) (ha : a < 4294967296) (hb : b < 4294967296) : bits .or .i64 (a : Int) (b : Int) = ((a ||| b : Nat) : Int) := by
  have hx : a ||| b < 2 ^ 32 := Nat.or_lt_two_pow (by omega) (by omega)
  show IntKind.i64.wrap ((BitVec.ofInt 64 (a : Int) ||| BitVec.ofInt 64 (b : Int)).toNat : Int) = _
  rw [BitVec.toNat_or, ofInt_i64 a ha, ofInt_i64 b hb, wrap_i64_small _ (by omega)]
theorem i64_and_nat (a b : Nat) (ha : a < 4294967296) (hb : b < 4294967296) : bits .and .i64 (a : Int) (b : Int) = ((a &&& b : Nat) : Int) := by
  have hx : a &&& b < 2 ^ 32 := Nat.and_lt_two_pow _ (by omega)
  show IntKind.i64.wrap ((BitVec.ofInt 64 (a : Int) &&& BitVec.ofInt 64 (b : Int)).toNat : Int) = _
  rw [BitVec.toNat_and, ofInt_i64 a ha, ofInt_i64 b hb, wrap_i64_small _ (by omega)]
theorem or4_2 (v : Int) (h1 : 0 ≤ v) (h2 : v ≤ 1000000) : bits .or .i64 (v * 4) 2 = v * 4 + 2 := by
  obtain ⟨n, rfl⟩ := Int.eq_ofNat_of_zero_le h1
  have h := i64_or_nat (n * 4) 2 (by omega) (by omega)
  rw [nat_join 2 (n * 4) 2 (by omega) (by omega)] at h
  simpa using h
theorem or4_1 (v : Int) (h1 : 0 ≤ v) (h2 : v ≤ 1000000) : bits .or .i64 (v * 4) 1 = v * 4 + 1 := by
  obtain ⟨n, rfl⟩ := Int.eq_ofNat_of_zero_le h1
  have h := i64_or_nat (n * 4) 1 (by omega) (by omega)
  rw [nat_join 2 (n * 4) 1 (by omega) (by omega)] at h
  simpa using h
theorem or42_1 (v : Int) (h1 : 0 ≤ v) (h2 : v ≤ 1000000) : bits .or .i64 (v * 4 + 2) 1 = v * 4 + 3 := by
  obtain ⟨n, rfl⟩ := Int.eq_ofNat_of_zero_le h1
  have h := i64_or_nat (n * 4 + 2) 1 (by omega) (by omega)
  rw [nat_join 1 (n * 4 + 2) 1 (by omega) (by omega)] at h
  have e : ((n * 4 + 2 + 1 : Nat) : Int) = (n : Int) * 4 + 3 := by omega
  rw [e] at h
  simpa using h
theorem and_2 (x : Int) (h1 : 0 ≤ x) (h2 : x ≤ 4000003) : bits .and .i64 x 2 = x / 2 % 2 * 2 := by
  obtain ⟨n, rfl⟩ := Int.eq_ofNat_of_zero_le h1
  have h := i64_and_nat n 2 (by omega) (by omega)
  rw [show n &&& 2 = n / 2 % 2 * 2 from nat_bit 1 n] at h
  simpa using h
theorem and_1 (x : Int) (h1 : 0 ≤ x) (h2 : x ≤ 4000003) : bits .and .i64 x 1 = x % 2 := by
  obtain ⟨n, rfl⟩ := Int.eq_ofNat_of_zero_le h1
  have h := i64_and_nat n 1 (by omega) (by omega)
  rw [nat_mask1 n] at h
  simpa using h
def usedB (h : Int) : Bool := decide (h / 2 % 2 = 1)
def lockedB (h : Int) : Bool := decide (h % 2 = 1)
theorem used_ne (h : Int) : (h / 2 % 2 * 2 != 0) = usedB h := by
  unfold usedB; rw [Bool.eq_iff_iff]; simp; omega
theorem locked_ne (h : Int) : (h % 2 != 0) = lockedB h := by
  unfold lockedB; rw [Bool.eq_iff_iff]; simp; omega
theorem ret_eqb {a b : Bool} (h : a = b) : Ending.returned (.bool a) = .returned (.bool b) := by rw [h]
theorem ret_int {k : IntKind} {a b : Int} (h : a = b) : Ending.returned (.int k a) = .returned (.int k b) := by rw [h]
def bump (u l : Bool) : Int := (if u then 2 else 0) + (if l then 1 else 0)
theorem bump_cases (u l : Bool) : 0 ≤ bump u l ∧ bump u l ≤ 3 := by cases u <;> cases l <;> simp [bump]
theorem bump_used (v : Int) (u l : Bool) : usedB (v * 4 + bump u l) = u := by
  cases u <;> cases l <;> simp [bump, usedB] <;> omega
theorem bump_locked (v : Int) (u l : Bool) : lockedB (v * 4 + bump u l) = l := by
  cases u <;> cases l <;> simp [bump, lockedB] <;> omega
theorem bump_version (v : Int) (u l : Bool) : (v * 4 + bump u l) / 4 = v := by
  have := bump_cases u l; omega
end Go.Proofs.YtooalbdlknheeaaGreat
/- What HeadOk and Used, of the program and of the specification, return at every number; none of them changes the world. -/
namespace Go.Proofs.YtooalbdlknheeaaGreat
open Go.RowKit
set_option maxHeartbeats 400000 in
theorem implHeadOk_yes (h : Int) (w : World) (h1 : 0 ≤ h) (h2 : h ≤ 4000003) :
    Calls Tryz.prog 157 #[.int .i64 h] w fun e w' => e = .returned (.bool true) ∧ w' = w := by
  go_enter Tryz.func157, Tryz.ntmps157
  go_wp2
  go_ret
  exact ⟨by simp [*], rfl⟩
set_option maxHeartbeats 400000 in
theorem implHeadOk_no (h : Int) (w : World) (hh : h < 0 ∨ 4000003 < h) :
    Calls Tryz.prog 157 #[.int .i64 h] w fun e w' => e = .returned (.bool false) ∧ w' = w := by
  rcases hh with hh | hh
  all_goals
    go_enter Tryz.func157, Tryz.ntmps157
    go_wp2
    go_ret
    exact ⟨by simp; try omega, rfl⟩
set_option maxHeartbeats 400000 in
theorem specHeadOk_yes (h : Int) (w : World) (h1 : 0 ≤ h) (h2 : h ≤ 4000003) :
    Calls Tryz.prog 117 #[.int .i64 h] w fun e w' => e = .returned (.bool true) ∧ w' = w := by
  go_enter Tryz.func117, Tryz.ntmps117
  go_wp2
  go_ret
  exact ⟨by simp [*], rfl⟩
set_option maxHeartbeats 400000 in
theorem specHeadOk_no (h : Int) (w : World) (hh : h < 0 ∨ 4000003 < h) :
    Calls Tryz.prog 117 #[.int .i64 h] w fun e w' => e = .returned (.bool false) ∧ w' = w := by
  rcases hh with hh | hh
  all_goals
    go_enter Tryz.func117, Tryz.ntmps117
    go_wp2
    go_ret
    exact ⟨by simp; try omega, rfl⟩
set_option maxHeartbeats 400000 in
theorem implUsed_yes (h : Int) (w : World) (h1 : 0 ≤ h) (h2 : h ≤ 4000003) :
    Calls Tryz.prog 159 #[.int .i64 h] w fun e w' => e = .returned (.bool (usedB h)) ∧ w' = w := by
  · have b2 := and_2 h h1 h2
    go_enter Tryz.func159, Tryz.ntmps159
    go_wp2
    go_ret
    exact ⟨ret_eqb (used_ne h), rfl⟩
set_option maxHeartbeats 400000 in
theorem implUsed_no (h : Int) (w : World) (hh : h < 0 ∨ 4000003 < h) :
    Calls Tryz.prog 159 #[.int .i64 h] w fun e w' => e = .returned (.bool false) ∧ w' = w := by
  rcases hh with hh | hh
  · have d : decide (0 ≤ h) = false := by simp; omega
    go_enter Tryz.func159, Tryz.ntmps159
    go_wp2
    go_ret
    exact ⟨rfl, rfl⟩
  · have d : decide (h ≤ 4000003) = false := by simp; omega
    go_enter Tryz.func159, Tryz.ntmps159
    go_wp2
    go_ret
    exact ⟨rfl, rfl⟩
set_option maxHeartbeats 400000 in
theorem specUsed_yes (h : Int) (w : World) (h1 : 0 ≤ h) (h2 : h ≤ 4000003) :
    Calls Tryz.prog 119 #[.int .i64 h] w fun e w' => e = .returned (.bool (usedB h)) ∧ w' = w := by
  · go_enter Tryz.func119, Tryz.ntmps119
    go_wp2
    go_ret
    exact ⟨rfl, rfl⟩
set_option maxHeartbeats 400000 in
theorem specUsed_no (h : Int) (w : World) (hh : h < 0 ∨ 4000003 < h) :
    Calls Tryz.prog 119 #[.int .i64 h] w fun e w' => e = .returned (.bool false) ∧ w' = w := by
  rcases hh with hh | hh
  · have d : decide (0 ≤ h) = false := by simp; omega
    go_enter Tryz.func119, Tryz.ntmps119
    go_wp2
    go_ret
    exact ⟨rfl, rfl⟩
  · have d : decide (h ≤ 4000003) = false := by simp; omega
    go_enter Tryz.func119, Tryz.ntmps119
    go_wp2
    go_ret
    exact ⟨rfl, rfl⟩
theorem implHeadOk_any (h : Int) (w : World) : Calls Tryz.prog 157 #[.int .i64 h] w fun e w' => e = .returned (.bool (inB 0 4000003 h)) ∧ w' = w := by
  by_cases hh : 0 ≤ h ∧ h ≤ 4000003
  · rw [inB_yes hh.1 hh.2]; exact implHeadOk_yes h w hh.1 hh.2
  · have e : inB 0 4000003 h = false := by simp [inB]; omega
    rw [e]; exact implHeadOk_no h w (by omega)
theorem implUsed_any (h : Int) (w : World) : Calls Tryz.prog 159 #[.int .i64 h] w fun e w' => e = .returned (.bool (inB 0 4000003 h && usedB h)) ∧ w' = w := by
  by_cases hh : 0 ≤ h ∧ h ≤ 4000003
  · rw [inB_yes hh.1 hh.2, Bool.true_and]; exact implUsed_yes h w hh.1 hh.2
  · have e : inB 0 4000003 h = false := by simp [inB]; omega
    rw [e, Bool.false_and]; exact implUsed_no h w (by omega)
theorem specHeadOk_any (h : Int) (w : World) : Calls Tryz.prog 117 #[.int .i64 h] w fun e w' => e = .returned (.bool (inB 0 4000003 h)) ∧ w' = w := by
  by_cases hh : 0 ≤ h ∧ h ≤ 4000003
  · rw [inB_yes hh.1 hh.2]; exact specHeadOk_yes h w hh.1 hh.2
  · have e : inB 0 4000003 h = false := by simp [inB]; omega
    rw [e]; exact specHeadOk_no h w (by omega)
theorem specUsed_any (h : Int) (w : World) : Calls Tryz.prog 119 #[.int .i64 h] w fun e w' => e = .returned (.bool (inB 0 4000003 h && usedB h)) ∧ w' = w := by
  by_cases hh : 0 ≤ h ∧ h ≤ 4000003
  · rw [inB_yes hh.1 hh.2, Bool.true_and]; exact specUsed_yes h w hh.1 hh.2
  · have e : inB 0 4000003 h = false := by simp [inB]; omega
    rw [e, Bool.false_and]; exact specUsed_no h w (by omega)
end Go.Proofs.YtooalbdlknheeaaGreat
/- What the program's and the specification's CellsOk answer at every row of cells: one and the same. -/
namespace Go.Proofs.YtooalbdlknheeaaGreat
open Go.RowKit
def cellB (c : C2) : Bool := inB 0 4000003 c.head && inB (-1000000000) 1000000000 c.value && (usedB c.head || decide (c.value = 0))
def cellsB (xs : List C2) : Bool := decide (xs.length = 6) && xs.all cellB
theorem cells_all {xs : List C2} (h : ∀ i, i < xs.length → cellB (at2 xs i) = true) : xs.all cellB = true := by
  rw [List.all_eq_true]
  intro s hs
  obtain ⟨i, hi, rfl⟩ := List.getElem_of_mem hs
  have := h i hi
  rw [at2, List.getElem?_eq_getElem hi] at this
  simpa using this
theorem cells_not {xs : List C2} {i : Nat} (hi : i < xs.length) (h : cellB (at2 xs i) = false) : xs.all cellB = false := by
  rw [List.all_eq_false]
  refine ⟨xs[i], List.getElem_mem hi, ?_⟩
  rw [at2, List.getElem?_eq_getElem hi] at h
  simpa using h
set_option maxHeartbeats 1000000 in
theorem implCellOk (w : World) (s : C2) : Calls Tryz.prog 111 #[.agg #[.int .i64 s.head, .int .i64 s.value]] w fun e w' => e = .returned (.bool (cellB s)) ∧ Below w.heap.size w w' := by
  obtain ⟨h, v⟩ := s
  unfold cellB
  go_enter Tryz.func111, Tryz.ntmps111
  cases g1 : inB 0 4000003 h <;> cases g2 : inB (-1000000000) 1000000000 v <;> cases g3 : usedB h
  all_goals go_wp2_with (first | (go_at_call 157; refine (implHeadOk_any _ _).mono ?_; rw [g1]; rintro e w' ⟨rfl, rfl⟩) | (go_at_call 158; refine (implValue _ _).mono ?_; rw [g2]; rintro e w' ⟨rfl, rfl⟩) | (go_at_call 159; refine (implUsed_any _ _).mono ?_; rw [g1, g3]; rintro e w' ⟨rfl, rfl⟩))
  all_goals (go_ret; refine ⟨ret_bool ?_, (Below.refl _ _).alloc (Nat.le_refl _) _⟩; simp)
theorem wrongCell (w : World) (s : C2) : Calls Tryz.prog 110 #[.agg #[.int .i64 s.head, .int .i64 s.value]] w fun e w' => e = .returned (.bool (!cellB s)) ∧ Below w.heap.size w w' := by
  go_enter Tryz.func110, Tryz.ntmps110
  go_wp2_with fail
  refine (implCellOk _ s).mono ?_
  rintro e w1 ⟨rfl, b1⟩
  go_wp2
  go_ret
  exact ⟨rfl, ((Below.refl _ _).alloc (Nat.le_refl _) _).trans (b1.mono (by simp))⟩
set_option maxHeartbeats 2000000 in
theorem indexWrong_some (w : World) (b off cap n : Nat) (xs : List C2) (hx : xs.length = n) (hn : n ≤ maxLen) (h1 : CellsAt w b off xs) (hb : b < w.heap.size) :
    Calls Tryz.prog 160 #[.slice (some ⟨b, off, none⟩) n cap, .func (.func 110) #[] #[]] w fun e w' => ∃ i : Int, e = .returned (.int .i64 i) ∧ (0 ≤ i ↔ xs.all cellB = false) ∧ Below w.heap.size w w' := by
  unfold maxLen at hn
  go_enter Tryz.func160, Tryz.ntmps160
  go_wp2
  go_loopw [8] (fun i wr => ∃ k : Nat, k ≤ n ∧ i = .int .i64 k ∧ Below w.heap.size w wr ∧ ∀ i, i < k → cellB (at2 xs i) = true) (fun i _ => n - (intOf i).toNat)
  case atStart => exact ⟨0, Nat.zero_le _, rfl, Below.refl _ _, fun i h => absurd h (by omega)⟩
  case round =>
    obtain ⟨k, hk, rfl, hbl, hall⟩ := hrel
    have K : Hid (Below w.heap.size w wr ∧ (∀ i, i < k → cellB (at2 xs i) = true) ∧ xs.length = n) := ⟨hbl, hall, hx⟩
    by_cases hlt : k < n
    · obtain ⟨c0, c1⟩ := (h1.get (i := k) (by omega)).below hbl hb
      clear hbl hall h1 hx
      cases hr : cellB (at2 xs k) with
      | true =>
        go_wp2_with fail
        refine (wrongCell _ (at2 xs k)).mono ?_
        rw [hr]
        rintro e w1 ⟨rfl, b1⟩
        go_wp2
        refine ⟨⟨k + 1, by omega, by simp, K.out.1.trans (b1.mono K.out.1.size), fun i hi => ?_⟩, by simp [intOf]; omega⟩
        by_cases e : i = k
        · rw [e]; exact hr
        · exact K.out.2.1 i (by omega)
      | false =>
        go_wp2_with fail
        refine (wrongCell _ (at2 xs k)).mono ?_
        rw [hr]
        rintro e w1 ⟨rfl, b1⟩
        go_wp2
        go_ret
        exact ⟨(k : Int), rfl, by simp [cells_not (xs := xs) (i := k) (by rw [K.out.2.2]; exact hlt) hr], K.out.1.trans (b1.mono K.out.1.size)⟩
    · have : k = n := by omega
      subst this
      have hd : decide (k < k) = false := by simp
      go_wp2
      go_ret
      exact ⟨-1, rfl, by simp [cells_all (xs := xs) (by rw [hx]; exact hall)], hbl⟩
theorem containsWrong_some (w : World) (b off cap n : Nat) (xs : List C2) (hx : xs.length = n) (hn : n ≤ maxLen) (h1 : CellsAt w b off xs) (hb : b < w.heap.size) :
    Calls Tryz.prog 112 #[.slice (some ⟨b, off, none⟩) n cap, .func (.func 110) #[] #[]] w fun e w' => e = .returned (.bool (!xs.all cellB)) ∧ Below w.heap.size w w' := by
  go_enter Tryz.func112, Tryz.ntmps112
  go_wp2_with fail
  refine (indexWrong_some w b off cap n xs hx hn h1 hb).mono ?_
  rintro e w1 ⟨i, rfl, hi, b1⟩
  have HI : Hid (0 ≤ i ↔ xs.all cellB = false) := hi
  clear hi
  go_wp2
  go_ret
  refine ⟨ret_bool ?_, b1⟩
  rw [decide_eq_true_eq, HI.out, Bool.not_eq_true']
set_option maxHeartbeats 2000000 in
theorem implCellsOk_any (w : World) (a : Option Addr) (n cap : Nat) (xs : List C2) (hn : n ≤ maxLen) (hs : SlC w w.heap.size a n xs) :
    Calls Tryz.prog 52 #[.slice a n cap] w fun e w' => e = .returned (.bool (cellsB xs)) ∧ Below w.heap.size w w' := by
  obtain ⟨hx, hs⟩ := hs
  unfold cellsB
  rw [hx]
  by_cases h6 : n = 6
  · subst h6
    rcases hs with hs | ⟨b, off, rfl, hb, h1⟩
    · omega
    · go_enter Tryz.func52, Tryz.ntmps52
      go_wp2_with fail
      refine (containsWrong_some w b off cap 6 xs hx hn h1 hb).mono ?_
      rintro e w1 ⟨rfl, b1⟩
      go_wp2
      go_ret
      exact ⟨ret_bool (by simp), b1⟩
  · have q : ((n : Int) == 6) = false := by simp; omega
    go_enter Tryz.func52, Tryz.ntmps52
    go_wp2
    go_ret
    exact ⟨ret_bool (by simp [h6]), Below.refl _ _⟩
set_option maxHeartbeats 2000000 in
theorem specCellsOk_six (w : World) (b off cap : Nat) (xs : List C2) (hx : xs.length = 6) (h1 : CellsAt w b off xs) (hb : b < w.heap.size) :
    Calls Tryz.prog 57 #[.slice (some ⟨b, off, none⟩) 6 cap] w fun e w' => e = .returned (.bool (xs.all cellB)) ∧ Below w.heap.size w w' := by
  go_enter Tryz.func57, Tryz.ntmps57
  go_wp2
  go_loopw [3] (fun i wr => ∃ k : Nat, k ≤ 6 ∧ i = .int .i64 k ∧ Below w.heap.size w wr ∧ ∀ i, i < k → cellB (at2 xs i) = true) (fun i _ => 6 - (intOf i).toNat)
  case atStart => exact ⟨0, Nat.zero_le _, rfl, Below.refl _ _, fun i h => absurd h (by omega)⟩
  case round =>
    obtain ⟨k, hk, rfl, hbl, hall⟩ := hrel
    have K : Hid (Below w.heap.size w wr ∧ (∀ i, i < k → cellB (at2 xs i) = true) ∧ xs.length = 6) := ⟨hbl, hall, hx⟩
    by_cases hlt : k < 6
    · obtain ⟨c0, c1⟩ := (h1.get (i := k) (by omega)).below hbl hb
      clear hbl hall h1 hx
      generalize hC : at2 xs k = C at c0 c1
      obtain ⟨h, v⟩ := C
      have KC : Hid (at2 xs k = ⟨h, v⟩) := hC
      have hlt' : (k : Int) < 6 := by omega
      clear hC
      cases g1 : inB 0 4000003 h <;> cases g2 : inB (-1000000000) 1000000000 v <;> cases g3 : usedB h
      all_goals
        have HB : Hid (cellB (at2 xs k) = (inB 0 4000003 h && inB (-1000000000) 1000000000 v && (usedB h || decide (v = 0)))) := by unfold Hid; rw [KC.out]; rfl
        rw [g1, g2, g3] at HB
        go_wp2_with (first | (go_at_call 117; refine (specHeadOk_any _ _).mono ?_; rw [g1]; rintro e w' ⟨rfl, rfl⟩) | (go_at_call 118; refine (specValue _ _).mono ?_; rw [g2]; rintro e w' ⟨rfl, rfl⟩) | (go_at_call 119; refine (specUsed_any _ _).mono ?_; rw [g1, g3]; rintro e w' ⟨rfl, rfl⟩))
      all_goals first
        | (go_ret
           exact ⟨by rw [cells_not (xs := xs) (i := k) (by rw [K.out.2.2]; exact hlt) (by rw [HB.out]; simp; try simpa using ‹(v != 0) = true›)]; rfl, (K.out.1.alloc K.out.1.size _)⟩)
        | (refine ⟨⟨k + 1, by omega, by simp, K.out.1.alloc K.out.1.size _, fun i hi => ?_⟩, by simp [intOf]; omega⟩
           by_cases e : i = k
           · rw [e, HB.out]; simp; try simpa using ‹(v != 0) = false›
           · exact K.out.2.1 i (by omega))
    · have : k = 6 := by omega
      subst this
      go_wp2
      go_ret
      exact ⟨by rw [cells_all (xs := xs) (by rw [hx]; exact hall)]; rfl, hbl⟩
theorem specCellsOk_any (w : World) (a : Option Addr) (n cap : Nat) (xs : List C2) (hn : n ≤ maxLen) (hs : SlC w w.heap.size a n xs) :
    Calls Tryz.prog 57 #[.slice a n cap] w fun e w' => e = .returned (.bool (cellsB xs)) ∧ Below w.heap.size w w' := by
  obtain ⟨hx, hs⟩ := hs
  unfold cellsB
  rw [hx]
  unfold maxLen at hn
  by_cases h6 : n = 6
  · subst h6
    rcases hs with hs | ⟨b, off, rfl, hb, h1⟩
    · omega
    · exact specCellsOk_six w b off cap xs hx h1 hb
  · have q : ((n : Int) == 6) = false := by simp; omega
    go_enter Tryz.func57, Tryz.ntmps57
    go_wp2
    go_ret
    exact ⟨ret_bool (by simp [h6]), Below.refl _ _⟩
end Go.Proofs.YtooalbdlknheeaaGreat
