import Derived.Test.YtdmpobegobfpjaaGreatRows
import Derived.Test.YtdmpobegobfpjaaGreatJ0ExactOrder
import Derived.WalkKit
import Derived.WalkSpells
import Derived.WalkLawsBesides
import Derived.Below
import Derived.Lib.QuietBelow
import Derived.BigQuiet
namespace Go.Proofs.YtdmpobegobfpjaaGreat.tx
open Go.RowKit
open Go.Sort (grow)
theorem specId_e (w : World) (x : Int) : Calls Tryz.prog 53 #[.int .i64 x] w fun e w' => e = .returned (.bool (inB 1 1000000 x)) ∧ w' = w := by
  go_enter Tryz.func53, Tryz.ntmps53
  go_wp2_with (go_at_call 43; refine (specIn _ _ _ _).mono ?_; rintro e w' ⟨rfl, rfl⟩)
  go_ret
  exact ⟨rfl, rfl⟩
theorem specMachine_e (w : World) (x : Int) : Calls Tryz.prog 96 #[.int .i64 x] w fun e w' => e = .returned (.bool (inB 0 7 x)) ∧ w' = w := by
  go_enter Tryz.func96, Tryz.ntmps96
  go_wp2_with (go_at_call 43; refine (specIn _ _ _ _).mono ?_; rintro e w' ⟨rfl, rfl⟩)
  go_ret
  exact ⟨rfl, rfl⟩
theorem specVersion_e (w : World) (x : Int) : Calls Tryz.prog 150 #[.int .i64 x] w fun e w' => e = .returned (.bool (inB 0 1000000 x)) ∧ w' = w := by
  go_enter Tryz.func150, Tryz.ntmps150
  go_wp2_with (go_at_call 43; refine (specIn _ _ _ _).mono ?_; rintro e w' ⟨rfl, rfl⟩)
  go_ret
  exact ⟨rfl, rfl⟩
def noteOkB (n : N5) : Bool := inB 0 5 n.region && inB 0 5 n.slot && inB 0 1000000 n.version && inB (-1000000000) 1000000000 n.value
theorem specNote (w : World) (s : N5) : Calls Tryz.prog 102 #[.agg #[.int .i64 s.region, .int .i64 s.slot, .int .i64 s.version, .int .i64 s.value, .bool s.used]] w fun e w' => e = .returned (.bool (noteOkB s)) ∧ Below w.heap.size w w' := by
  obtain ⟨r, l, v, u, x⟩ := s
  go_enter Tryz.func102, Tryz.ntmps102
  cases h1 : inB 0 5 r <;> cases h2 : inB 0 5 l <;> cases h3 : inB 0 1000000 v
  all_goals go_wp2_with (first | (go_at_call 150; refine (specVersion_e _ _).mono ?_; rintro e w' ⟨rfl, rfl⟩) | (go_at_call 99; refine (specRegion _ _).mono ?_; rintro e w' ⟨rfl, rfl⟩) | (go_at_call 149; refine (specSlot _ _).mono ?_; rintro e w' ⟨rfl, rfl⟩) | (go_at_call 147; refine (specValue _ _).mono ?_; rintro e w' ⟨rfl, rfl⟩))
  all_goals (go_ret; refine ⟨ret_bool ?_, (Below.refl _ _).alloc (Nat.le_refl _) _⟩; simp only [noteOkB, h1, h2, h3, Bool.and_true, Bool.and_false, Bool.false_and, Bool.true_and]; try simp [inB_iff]; try omega)
def lessB (r s q t : Int) : Bool := decide (r < q) || (decide (r = q) && decide (s < t))
theorem specLess (w : World) (r s q t : Int) : Calls Tryz.prog 103 #[.int .i64 r, .int .i64 s, .int .i64 q, .int .i64 t] w fun e w' => e = .returned (.bool (lessB r s q t)) ∧ Below w.heap.size w w' := by
  go_enter Tryz.func103, Tryz.ntmps103
  go_wp2
  all_goals (go_ret; refine ⟨ret_bool ?_, Below.refl _ _⟩; simp [lessB]; try omega)
def atNo (xs : List N5) (i : Nat) : N5 := xs[i]?.getD ⟨0, 0, 0, 0, false⟩
theorem atNo_of {xs : List N5} {i : Nat} (h : i < xs.length) : xs[i]? = some (atNo xs i) := by simp [atNo, List.getElem?_eq_getElem h]
def atSe (xs : List S5) (i : Nat) : S5 := xs[i]?.getD ⟨0, 0, 0, false, 0⟩
theorem atSe_of {xs : List S5} {i : Nat} (h : i < xs.length) : xs[i]? = some (atSe xs i) := by simp [atSe, List.getElem?_eq_getElem h]
def noAt (xs : List N5) (i : Nat) : Bool := noteOkB (atNo xs i) && (decide (i = 0) || lessB (atNo xs (i - 1)).region (atNo xs (i - 1)).slot (atNo xs i).region (atNo xs i).slot)
def seAt (xs : List S5) (i : Nat) : Bool := setOkB (atSe xs i) && (decide (i = 0) || lessB (atSe xs (i - 1)).region (atSe xs (i - 1)).slot (atSe xs i).region (atSe xs i).slot)
def headB (t : T7) : Bool := inB 1 1000000 t.id && inB 0 7 t.home && inB 1 9 t.phase && inB 0 1000 t.count && inB 0 1000000 t.stamp
def txB (t : T7) : Bool := headB t && decide (t.reads.length ≤ 12) && decide (t.sets.length ≤ 12) && (List.range t.reads.length).all (noAt t.reads) && (List.range t.sets.length).all (seAt t.sets)
theorem alls_step {f : Nat → Bool} {k : Nat} (h : (List.range k).all f = true) (h' : f k = true) : (List.range (k + 1)).all f = true := by
  rw [List.range_succ, List.all_append, h]; simp [h']
theorem alls_fail {f : Nat → Bool} {k n : Nat} (hk : k < n) (h : f k = false) : (List.range n).all f = false := by
  rw [List.all_eq_false]; exact ⟨k, List.mem_range.2 hk, by simp [h]⟩
theorem no_bad {xs : List N5} {k : Nat} (h : noteOkB (atNo xs k) = false) : noAt xs k = false := by simp [noAt, h]
theorem no_low {xs : List N5} {j : Nat} (h : lessB (atNo xs j).region (atNo xs j).slot (atNo xs (j + 1)).region (atNo xs (j + 1)).slot = false) : noAt xs (j + 1) = false := by simp [noAt, h]
theorem no_first {xs : List N5} (h : noteOkB (atNo xs 0) = true) : noAt xs 0 = true := by simp [noAt, h]
theorem no_good {xs : List N5} {j : Nat} (h : noteOkB (atNo xs (j + 1)) = true) (h' : lessB (atNo xs j).region (atNo xs j).slot (atNo xs (j + 1)).region (atNo xs (j + 1)).slot = true) : noAt xs (j + 1) = true := by simp [noAt, h, h']
theorem se_bad {xs : List S5} {k : Nat} (h : setOkB (atSe xs k) = false) : seAt xs k = false := by simp [seAt, h]
theorem se_low {xs : List S5} {j : Nat} (h : lessB (atSe xs j).region (atSe xs j).slot (atSe xs (j + 1)).region (atSe xs (j + 1)).slot = false) : seAt xs (j + 1) = false := by simp [seAt, h]
theorem se_first {xs : List S5} (h : setOkB (atSe xs 0) = true) : seAt xs 0 = true := by simp [seAt, h]
theorem se_good {xs : List S5} {j : Nat} (h : setOkB (atSe xs (j + 1)) = true) (h' : lessB (atSe xs j).region (atSe xs j).slot (atSe xs (j + 1)).region (atSe xs (j + 1)).slot = true) : seAt xs (j + 1) = true := by simp [seAt, h, h']
set_option maxHeartbeats 8000000 in
theorem specTxOk_any (w : World) (v : TV) (t : T7) (hl : TL t) (hs : SlT w v t) :
    Calls Tryz.prog 57 #[v.val t] w fun e w' => e = .returned (.bool (txB t)) ∧ Below w.heap.size w w' := by
  obtain ⟨ar, cr, ah, ch⟩ := v
  simp only [TV.val]
  obtain ⟨W, hW⟩ : ∃ W, W = w.alloc (.cells #[.int .i64 t.id, .int .i64 t.home, .int .i64 t.phase, .int .i64 t.count, .slice ar t.reads.length cr, .slice ah t.sets.length ch, .int .i64 t.stamp] 55) := ⟨_, rfl⟩
  have b0 : Below w.heap.size w W := by rw [hW]; exact (Below.refl _ _).alloc (Nat.le_refl _) _
  have x0 : BT W w.heap.size ⟨ar, cr, ah, ch⟩ t := by rw [hW]; exact BT.box w ⟨ar, cr, ah, ch⟩ t _
  have H : Hid (SlT W ⟨ar, cr, ah, ch⟩ t ∧ BT W w.heap.size ⟨ar, cr, ah, ch⟩ t) := ⟨hs.later b0, x0⟩
  have BW : Hid (Below w.heap.size w W) := b0
  have hr := hl.r
  have hh := hl.s
  clear hs b0 x0 hl
  unfold maxLen at hr hh
  by_cases g0 : inB 1 1000000 t.id = true
  case neg =>
    have d0 : inB 1 1000000 t.id = false := by simpa using g0
    have hb : txB t = false := by simp [txB, headB, d0]
    rw [hb]
    rw [hW] at BW
    clear H hW
    go_enter Tryz.func57, Tryz.ntmps57
    go_wp2_with (first | (go_at_call 53; refine (specId_e _ _).mono ?_; rintro e w' ⟨rfl, rfl⟩) | (go_at_call 96; refine (specMachine_e _ _).mono ?_; rintro e w' ⟨rfl, rfl⟩) | (go_at_call 43; refine (specIn _ _ _ _).mono ?_; rintro e w' ⟨rfl, rfl⟩))
    go_ret
    exact ⟨rfl, BW.out⟩
  by_cases g1 : inB 0 7 t.home = true
  case neg =>
    have d1 : inB 0 7 t.home = false := by simpa using g1
    have hb : txB t = false := by simp [txB, headB, d1]
    rw [hb]
    rw [hW] at BW
    clear H hW
    go_enter Tryz.func57, Tryz.ntmps57
    go_wp2_with (first | (go_at_call 53; refine (specId_e _ _).mono ?_; rintro e w' ⟨rfl, rfl⟩) | (go_at_call 96; refine (specMachine_e _ _).mono ?_; rintro e w' ⟨rfl, rfl⟩) | (go_at_call 43; refine (specIn _ _ _ _).mono ?_; rintro e w' ⟨rfl, rfl⟩))
    go_ret
    exact ⟨rfl, BW.out⟩
  by_cases g2 : inB 1 9 t.phase = true
  case neg =>
    have d2 : inB 1 9 t.phase = false := by simpa using g2
    have hb : txB t = false := by simp [txB, headB, d2]
    rw [hb]
    rw [hW] at BW
    clear H hW
    go_enter Tryz.func57, Tryz.ntmps57
    go_wp2_with (first | (go_at_call 53; refine (specId_e _ _).mono ?_; rintro e w' ⟨rfl, rfl⟩) | (go_at_call 96; refine (specMachine_e _ _).mono ?_; rintro e w' ⟨rfl, rfl⟩) | (go_at_call 43; refine (specIn _ _ _ _).mono ?_; rintro e w' ⟨rfl, rfl⟩))
    go_ret
    exact ⟨rfl, BW.out⟩
  by_cases g3 : inB 0 1000 t.count = true
  case neg =>
    have d3 : inB 0 1000 t.count = false := by simpa using g3
    have hb : txB t = false := by simp [txB, headB, d3]
    rw [hb]
    rw [hW] at BW
    clear H hW
    go_enter Tryz.func57, Tryz.ntmps57
    go_wp2_with (first | (go_at_call 53; refine (specId_e _ _).mono ?_; rintro e w' ⟨rfl, rfl⟩) | (go_at_call 96; refine (specMachine_e _ _).mono ?_; rintro e w' ⟨rfl, rfl⟩) | (go_at_call 43; refine (specIn _ _ _ _).mono ?_; rintro e w' ⟨rfl, rfl⟩))
    go_ret
    exact ⟨rfl, BW.out⟩
  by_cases g4 : t.reads.length ≤ 12
  case neg =>
    have d4 : decide ((12 : Int) < (t.reads.length : Int)) = true := by simp; omega
    have hb : txB t = false := by simp [txB, g4]
    rw [hb]
    rw [hW] at BW
    clear H hW
    go_enter Tryz.func57, Tryz.ntmps57
    go_wp2_with (first | (go_at_call 53; refine (specId_e _ _).mono ?_; rintro e w' ⟨rfl, rfl⟩) | (go_at_call 96; refine (specMachine_e _ _).mono ?_; rintro e w' ⟨rfl, rfl⟩) | (go_at_call 43; refine (specIn _ _ _ _).mono ?_; rintro e w' ⟨rfl, rfl⟩))
    go_ret
    exact ⟨rfl, BW.out⟩
  have d4 : decide ((12 : Int) < (t.reads.length : Int)) = false := by simp; omega
  by_cases g5 : t.sets.length ≤ 12
  case neg =>
    have d5 : decide ((12 : Int) < (t.sets.length : Int)) = true := by simp; omega
    have hb : txB t = false := by simp [txB, g5]
    rw [hb]
    rw [hW] at BW
    clear H hW
    go_enter Tryz.func57, Tryz.ntmps57
    go_wp2_with (first | (go_at_call 53; refine (specId_e _ _).mono ?_; rintro e w' ⟨rfl, rfl⟩) | (go_at_call 96; refine (specMachine_e _ _).mono ?_; rintro e w' ⟨rfl, rfl⟩) | (go_at_call 43; refine (specIn _ _ _ _).mono ?_; rintro e w' ⟨rfl, rfl⟩))
    go_ret
    exact ⟨rfl, BW.out⟩
  have d5 : decide ((12 : Int) < (t.sets.length : Int)) = false := by simp; omega
  by_cases g6 : inB 0 1000000 t.stamp = true
  case neg =>
    have d6 : inB 0 1000000 t.stamp = false := by simpa using g6
    have hb : txB t = false := by simp [txB, headB, d6]
    rw [hb]
    rw [hW] at BW
    clear H hW
    go_enter Tryz.func57, Tryz.ntmps57
    go_wp2_with (first | (go_at_call 53; refine (specId_e _ _).mono ?_; rintro e w' ⟨rfl, rfl⟩) | (go_at_call 96; refine (specMachine_e _ _).mono ?_; rintro e w' ⟨rfl, rfl⟩) | (go_at_call 43; refine (specIn _ _ _ _).mono ?_; rintro e w' ⟨rfl, rfl⟩))
    go_ret
    exact ⟨rfl, BW.out⟩
  have HM : Hid (txB t = ((List.range t.reads.length).all (noAt t.reads) && (List.range t.sets.length).all (seAt t.sets))) := by unfold Hid; simp [txB, headB, g0, g1, g2, g3, g4, g5, g6]
  have KF : Hid (∀ V, Below W.heap.size W V → Below w.heap.size w V) := fun V h => BW.out.trans (h.mono BW.out.size)
  clear BW
  go_enter Tryz.func57, Tryz.ntmps57
  go_wp2_with (first | (go_at_call 53; refine (specId_e _ _).mono ?_; rintro e w' ⟨rfl, rfl⟩) | (go_at_call 96; refine (specMachine_e _ _).mono ?_; rintro e w' ⟨rfl, rfl⟩) | (go_at_call 43; refine (specIn _ _ _ _).mono ?_; rintro e w' ⟨rfl, rfl⟩))
  rw [← hW]
  clear hW d4 d5
  go_loopw [3] (fun v3 wr => ∃ k : Nat, k ≤ t.reads.length ∧ v3 = .int .i64 k ∧ Below W.heap.size W wr ∧ (List.range k).all (noAt t.reads) = true) (fun v3 _ => t.reads.length - (intOf v3).toNat)
  case atStart => exact ⟨0, Nat.zero_le _, rfl, Below.refl _ _, rfl⟩
  case round =>
    obtain ⟨k, hkk, rfl, hbl, hall⟩ := hrel
    have xr := H.out.2.later hbl
    have p4 := xr.c4
    have hzW := xr.lt
    have K : Hid (Below W.heap.size W wr ∧ (List.range k).all (noAt t.reads) = true) := ⟨hbl, hall⟩
    have sR := (H.out.1.later hbl).r
    clear xr hbl hall
    by_cases hlt : k < t.reads.length
    · obtain ⟨_, hsk⟩ := sR
      dsimp only at hsk
      rcases hsk with hsk | ⟨b, off, rfl, hb, h1⟩
      · omega
      obtain ⟨t0, t1, t2, t3, t4⟩ := h1 k _ (atNo_of hlt)
      cases gk : noteOkB (atNo t.reads k) with
      | false =>
        have bV : Below wr.heap.size wr (wr.alloc (.cells #[.int .i64 (atNo t.reads k).region, .int .i64 (atNo t.reads k).slot, .int .i64 (atNo t.reads k).version, .int .i64 (atNo t.reads k).value, .bool (atNo t.reads k).used] 104)) := (Below.refl _ _).alloc (Nat.le_refl _) _
        have sV : (wr.alloc (.cells #[.int .i64 (atNo t.reads k).region, .int .i64 (atNo t.reads k).slot, .int .i64 (atNo t.reads k).version, .int .i64 (atNo t.reads k).value, .bool (atNo t.reads k).used] 104)).heap.size = wr.heap.size + 1 := by simp
        have n0 : ∀ d os, (grow (redrawn (wr.alloc (.cells #[.int .i64 (atNo t.reads k).region, .int .i64 (atNo t.reads k).slot, .int .i64 (atNo t.reads k).version, .int .i64 (atNo t.reads k).value, .bool (atNo t.reads k).used] 104)) d) os).cell? ⟨wr.heap.size, 0, none⟩ = some (.int .i64 (atNo t.reads k).region) := fun d os => ((below_regrown (wr.alloc (.cells #[.int .i64 (atNo t.reads k).region, .int .i64 (atNo t.reads k).slot, .int .i64 (atNo t.reads k).version, .int .i64 (atNo t.reads k).value, .bool (atNo t.reads k).used] 104)) d os).cell (p := ⟨wr.heap.size, 0, none⟩) (by rw [sV]; simp)).trans (by go_simp)
        have n1 : ∀ d os, (grow (redrawn (wr.alloc (.cells #[.int .i64 (atNo t.reads k).region, .int .i64 (atNo t.reads k).slot, .int .i64 (atNo t.reads k).version, .int .i64 (atNo t.reads k).value, .bool (atNo t.reads k).used] 104)) d) os).cell? ⟨wr.heap.size, 1, none⟩ = some (.int .i64 (atNo t.reads k).slot) := fun d os => ((below_regrown (wr.alloc (.cells #[.int .i64 (atNo t.reads k).region, .int .i64 (atNo t.reads k).slot, .int .i64 (atNo t.reads k).version, .int .i64 (atNo t.reads k).value, .bool (atNo t.reads k).used] 104)) d os).cell (p := ⟨wr.heap.size, 1, none⟩) (by rw [sV]; simp)).trans (by go_simp)
        have n2 : ∀ d os, (grow (redrawn (wr.alloc (.cells #[.int .i64 (atNo t.reads k).region, .int .i64 (atNo t.reads k).slot, .int .i64 (atNo t.reads k).version, .int .i64 (atNo t.reads k).value, .bool (atNo t.reads k).used] 104)) d) os).cell? ⟨wr.heap.size, 2, none⟩ = some (.int .i64 (atNo t.reads k).version) := fun d os => ((below_regrown (wr.alloc (.cells #[.int .i64 (atNo t.reads k).region, .int .i64 (atNo t.reads k).slot, .int .i64 (atNo t.reads k).version, .int .i64 (atNo t.reads k).value, .bool (atNo t.reads k).used] 104)) d os).cell (p := ⟨wr.heap.size, 2, none⟩) (by rw [sV]; simp)).trans (by go_simp)
        have n3 : ∀ d os, (grow (redrawn (wr.alloc (.cells #[.int .i64 (atNo t.reads k).region, .int .i64 (atNo t.reads k).slot, .int .i64 (atNo t.reads k).version, .int .i64 (atNo t.reads k).value, .bool (atNo t.reads k).used] 104)) d) os).cell? ⟨wr.heap.size, 3, none⟩ = some (.int .i64 (atNo t.reads k).value) := fun d os => ((below_regrown (wr.alloc (.cells #[.int .i64 (atNo t.reads k).region, .int .i64 (atNo t.reads k).slot, .int .i64 (atNo t.reads k).version, .int .i64 (atNo t.reads k).value, .bool (atNo t.reads k).used] 104)) d os).cell (p := ⟨wr.heap.size, 3, none⟩) (by rw [sV]; simp)).trans (by go_simp)
        have n4 : ∀ d os, (grow (redrawn (wr.alloc (.cells #[.int .i64 (atNo t.reads k).region, .int .i64 (atNo t.reads k).slot, .int .i64 (atNo t.reads k).version, .int .i64 (atNo t.reads k).value, .bool (atNo t.reads k).used] 104)) d) os).cell? ⟨wr.heap.size, 4, none⟩ = some (.bool (atNo t.reads k).used) := fun d os => ((below_regrown (wr.alloc (.cells #[.int .i64 (atNo t.reads k).region, .int .i64 (atNo t.reads k).slot, .int .i64 (atNo t.reads k).version, .int .i64 (atNo t.reads k).value, .bool (atNo t.reads k).used] 104)) d os).cell (p := ⟨wr.heap.size, 4, none⟩) (by rw [sV]; simp)).trans (by go_simp)
        have p : ∀ d os, (grow (redrawn (wr.alloc (.cells #[.int .i64 (atNo t.reads k).region, .int .i64 (atNo t.reads k).slot, .int .i64 (atNo t.reads k).version, .int .i64 (atNo t.reads k).value, .bool (atNo t.reads k).used] 104)) d) os).cell? ⟨w.heap.size, 4, none⟩ = some (.slice (some ⟨b, off, none⟩) t.reads.length cr) := fun d os => ((below_regrown (wr.alloc (.cells #[.int .i64 (atNo t.reads k).region, .int .i64 (atNo t.reads k).slot, .int .i64 (atNo t.reads k).version, .int .i64 (atNo t.reads k).value, .bool (atNo t.reads k).used] 104)) d os).cell (p := ⟨w.heap.size, 4, none⟩) (by rw [sV]; dsimp only; omega)).trans ((bV.cell (p := ⟨w.heap.size, 4, none⟩) hzW).trans p4)
        have cN : ∀ d os, Calls Tryz.prog 102 #[.agg #[.int .i64 (atNo t.reads k).region, .int .i64 (atNo t.reads k).slot, .int .i64 (atNo t.reads k).version, .int .i64 (atNo t.reads k).value, .bool (atNo t.reads k).used]] (grow (redrawn (wr.alloc (.cells #[.int .i64 (atNo t.reads k).region, .int .i64 (atNo t.reads k).slot, .int .i64 (atNo t.reads k).version, .int .i64 (atNo t.reads k).value, .bool (atNo t.reads k).used] 104)) d) os) fun e w'' => e = .returned (.bool (noteOkB (atNo t.reads k))) ∧ ∃ p : Regrown, w'' = grow (redrawn (wr.alloc (.cells #[.int .i64 (atNo t.reads k).region, .int .i64 (atNo t.reads k).slot, .int .i64 (atNo t.reads k).version, .int .i64 (atNo t.reads k).value, .bool (atNo t.reads k).used] 104)) p.d) p.os := fun d os => Calls.regrown_of (specNote _ _)
        have KV : Hid (Below W.heap.size W (wr.alloc (.cells #[.int .i64 (atNo t.reads k).region, .int .i64 (atNo t.reads k).slot, .int .i64 (atNo t.reads k).version, .int .i64 (atNo t.reads k).value, .bool (atNo t.reads k).used] 104))) := K.out.1.trans (bV.mono K.out.1.size)
        rw [gk] at cN
        clear bV sV h1
        go_wp2_with fail
        generalize (wr.alloc (.cells #[.int .i64 (atNo t.reads k).region, .int .i64 (atNo t.reads k).slot, .int .i64 (atNo t.reads k).version, .int .i64 (atNo t.reads k).value, .bool (atNo t.reads k).used] 104)) = V at *
        refine wp_region_quiet_below (by kernel_rfl) (by kernel_rfl) ?_
        repeat (go_big_quiet_step (first | exact cN _ _))
        refine wpQuiet_nil ?_
        intro _ hw'
        obtain ⟨⟨dq, osq⟩, hw''⟩ := hw'
        subst hw''
        have bq := below_regrown V dq osq
        have KB : Hid (Below W.heap.size W (grow (redrawn V dq) osq)) := KV.out.trans (bq.mono KV.out.size)
        go_wp2
        go_ret
        exact ⟨by rw [HM.out, alls_fail hlt (no_bad gk)]; rfl, KF.out _ KB.out⟩
      | true =>
        rcases k with _ | j
        · simp only [Nat.zero_mul, Nat.add_zero] at t0 t1 t2 t3 t4
          have bV : Below wr.heap.size wr (wr.alloc (.cells #[.int .i64 (atNo t.reads 0).region, .int .i64 (atNo t.reads 0).slot, .int .i64 (atNo t.reads 0).version, .int .i64 (atNo t.reads 0).value, .bool (atNo t.reads 0).used] 104)) := (Below.refl _ _).alloc (Nat.le_refl _) _
          have sV : (wr.alloc (.cells #[.int .i64 (atNo t.reads 0).region, .int .i64 (atNo t.reads 0).slot, .int .i64 (atNo t.reads 0).version, .int .i64 (atNo t.reads 0).value, .bool (atNo t.reads 0).used] 104)).heap.size = wr.heap.size + 1 := by simp
          have n0 : ∀ d os, (grow (redrawn (wr.alloc (.cells #[.int .i64 (atNo t.reads 0).region, .int .i64 (atNo t.reads 0).slot, .int .i64 (atNo t.reads 0).version, .int .i64 (atNo t.reads 0).value, .bool (atNo t.reads 0).used] 104)) d) os).cell? ⟨wr.heap.size, 0, none⟩ = some (.int .i64 (atNo t.reads 0).region) := fun d os => ((below_regrown (wr.alloc (.cells #[.int .i64 (atNo t.reads 0).region, .int .i64 (atNo t.reads 0).slot, .int .i64 (atNo t.reads 0).version, .int .i64 (atNo t.reads 0).value, .bool (atNo t.reads 0).used] 104)) d os).cell (p := ⟨wr.heap.size, 0, none⟩) (by rw [sV]; simp)).trans (by go_simp)
          have n1 : ∀ d os, (grow (redrawn (wr.alloc (.cells #[.int .i64 (atNo t.reads 0).region, .int .i64 (atNo t.reads 0).slot, .int .i64 (atNo t.reads 0).version, .int .i64 (atNo t.reads 0).value, .bool (atNo t.reads 0).used] 104)) d) os).cell? ⟨wr.heap.size, 1, none⟩ = some (.int .i64 (atNo t.reads 0).slot) := fun d os => ((below_regrown (wr.alloc (.cells #[.int .i64 (atNo t.reads 0).region, .int .i64 (atNo t.reads 0).slot, .int .i64 (atNo t.reads 0).version, .int .i64 (atNo t.reads 0).value, .bool (atNo t.reads 0).used] 104)) d os).cell (p := ⟨wr.heap.size, 1, none⟩) (by rw [sV]; simp)).trans (by go_simp)
          have n2 : ∀ d os, (grow (redrawn (wr.alloc (.cells #[.int .i64 (atNo t.reads 0).region, .int .i64 (atNo t.reads 0).slot, .int .i64 (atNo t.reads 0).version, .int .i64 (atNo t.reads 0).value, .bool (atNo t.reads 0).used] 104)) d) os).cell? ⟨wr.heap.size, 2, none⟩ = some (.int .i64 (atNo t.reads 0).version) := fun d os => ((below_regrown (wr.alloc (.cells #[.int .i64 (atNo t.reads 0).region, .int .i64 (atNo t.reads 0).slot, .int .i64 (atNo t.reads 0).version, .int .i64 (atNo t.reads 0).value, .bool (atNo t.reads 0).used] 104)) d os).cell (p := ⟨wr.heap.size, 2, none⟩) (by rw [sV]; simp)).trans (by go_simp)
          have n3 : ∀ d os, (grow (redrawn (wr.alloc (.cells #[.int .i64 (atNo t.reads 0).region, .int .i64 (atNo t.reads 0).slot, .int .i64 (atNo t.reads 0).version, .int .i64 (atNo t.reads 0).value, .bool (atNo t.reads 0).used] 104)) d) os).cell? ⟨wr.heap.size, 3, none⟩ = some (.int .i64 (atNo t.reads 0).value) := fun d os => ((below_regrown (wr.alloc (.cells #[.int .i64 (atNo t.reads 0).region, .int .i64 (atNo t.reads 0).slot, .int .i64 (atNo t.reads 0).version, .int .i64 (atNo t.reads 0).value, .bool (atNo t.reads 0).used] 104)) d os).cell (p := ⟨wr.heap.size, 3, none⟩) (by rw [sV]; simp)).trans (by go_simp)
          have n4 : ∀ d os, (grow (redrawn (wr.alloc (.cells #[.int .i64 (atNo t.reads 0).region, .int .i64 (atNo t.reads 0).slot, .int .i64 (atNo t.reads 0).version, .int .i64 (atNo t.reads 0).value, .bool (atNo t.reads 0).used] 104)) d) os).cell? ⟨wr.heap.size, 4, none⟩ = some (.bool (atNo t.reads 0).used) := fun d os => ((below_regrown (wr.alloc (.cells #[.int .i64 (atNo t.reads 0).region, .int .i64 (atNo t.reads 0).slot, .int .i64 (atNo t.reads 0).version, .int .i64 (atNo t.reads 0).value, .bool (atNo t.reads 0).used] 104)) d os).cell (p := ⟨wr.heap.size, 4, none⟩) (by rw [sV]; simp)).trans (by go_simp)
          have p : ∀ d os, (grow (redrawn (wr.alloc (.cells #[.int .i64 (atNo t.reads 0).region, .int .i64 (atNo t.reads 0).slot, .int .i64 (atNo t.reads 0).version, .int .i64 (atNo t.reads 0).value, .bool (atNo t.reads 0).used] 104)) d) os).cell? ⟨w.heap.size, 4, none⟩ = some (.slice (some ⟨b, off, none⟩) t.reads.length cr) := fun d os => ((below_regrown (wr.alloc (.cells #[.int .i64 (atNo t.reads 0).region, .int .i64 (atNo t.reads 0).slot, .int .i64 (atNo t.reads 0).version, .int .i64 (atNo t.reads 0).value, .bool (atNo t.reads 0).used] 104)) d os).cell (p := ⟨w.heap.size, 4, none⟩) (by rw [sV]; dsimp only; omega)).trans ((bV.cell (p := ⟨w.heap.size, 4, none⟩) hzW).trans p4)
          have cN : ∀ d os, Calls Tryz.prog 102 #[.agg #[.int .i64 (atNo t.reads 0).region, .int .i64 (atNo t.reads 0).slot, .int .i64 (atNo t.reads 0).version, .int .i64 (atNo t.reads 0).value, .bool (atNo t.reads 0).used]] (grow (redrawn (wr.alloc (.cells #[.int .i64 (atNo t.reads 0).region, .int .i64 (atNo t.reads 0).slot, .int .i64 (atNo t.reads 0).version, .int .i64 (atNo t.reads 0).value, .bool (atNo t.reads 0).used] 104)) d) os) fun e w'' => e = .returned (.bool (noteOkB (atNo t.reads 0))) ∧ ∃ p : Regrown, w'' = grow (redrawn (wr.alloc (.cells #[.int .i64 (atNo t.reads 0).region, .int .i64 (atNo t.reads 0).slot, .int .i64 (atNo t.reads 0).version, .int .i64 (atNo t.reads 0).value, .bool (atNo t.reads 0).used] 104)) p.d) p.os := fun d os => Calls.regrown_of (specNote _ _)
          have KV : Hid (Below W.heap.size W (wr.alloc (.cells #[.int .i64 (atNo t.reads 0).region, .int .i64 (atNo t.reads 0).slot, .int .i64 (atNo t.reads 0).version, .int .i64 (atNo t.reads 0).value, .bool (atNo t.reads 0).used] 104))) := K.out.1.trans (bV.mono K.out.1.size)
          rw [gk] at cN
          clear bV sV h1
          go_wp2_with fail
          generalize (wr.alloc (.cells #[.int .i64 (atNo t.reads 0).region, .int .i64 (atNo t.reads 0).slot, .int .i64 (atNo t.reads 0).version, .int .i64 (atNo t.reads 0).value, .bool (atNo t.reads 0).used] 104)) = V at *
          refine wp_region_quiet_below (by kernel_rfl) (by kernel_rfl) ?_
          repeat (go_big_quiet_step (first | exact cN _ _))
          refine wpQuiet_nil ?_
          intro _ hw'
          obtain ⟨⟨dq, osq⟩, hw''⟩ := hw'
          subst hw''
          have bq := below_regrown V dq osq
          have KB : Hid (Below W.heap.size W (grow (redrawn V dq) osq)) := KV.out.trans (bq.mono KV.out.size)
          go_wp2
          exact ⟨⟨1, by omega, by simp, KB.out, alls_step K.out.2 (no_first gk)⟩, by simp [intOf]; omega⟩
        · obtain ⟨u0, u1, u2, u3, u4⟩ := h1 j _ (atNo_of (by omega))
          have hj : (j : Int) < (t.reads.length : Int) := by omega
          have bV : Below wr.heap.size wr (wr.alloc (.cells #[.int .i64 (atNo t.reads (j + 1)).region, .int .i64 (atNo t.reads (j + 1)).slot, .int .i64 (atNo t.reads (j + 1)).version, .int .i64 (atNo t.reads (j + 1)).value, .bool (atNo t.reads (j + 1)).used] 104)) := (Below.refl _ _).alloc (Nat.le_refl _) _
          have sV : (wr.alloc (.cells #[.int .i64 (atNo t.reads (j + 1)).region, .int .i64 (atNo t.reads (j + 1)).slot, .int .i64 (atNo t.reads (j + 1)).version, .int .i64 (atNo t.reads (j + 1)).value, .bool (atNo t.reads (j + 1)).used] 104)).heap.size = wr.heap.size + 1 := by simp
          have n0 : ∀ d os, (grow (redrawn (wr.alloc (.cells #[.int .i64 (atNo t.reads (j + 1)).region, .int .i64 (atNo t.reads (j + 1)).slot, .int .i64 (atNo t.reads (j + 1)).version, .int .i64 (atNo t.reads (j + 1)).value, .bool (atNo t.reads (j + 1)).used] 104)) d) os).cell? ⟨wr.heap.size, 0, none⟩ = some (.int .i64 (atNo t.reads (j + 1)).region) := fun d os => ((below_regrown (wr.alloc (.cells #[.int .i64 (atNo t.reads (j + 1)).region, .int .i64 (atNo t.reads (j + 1)).slot, .int .i64 (atNo t.reads (j + 1)).version, .int .i64 (atNo t.reads (j + 1)).value, .bool (atNo t.reads (j + 1)).used] 104)) d os).cell (p := ⟨wr.heap.size, 0, none⟩) (by rw [sV]; simp)).trans (by go_simp)
          have n1 : ∀ d os, (grow (redrawn (wr.alloc (.cells #[.int .i64 (atNo t.reads (j + 1)).region, .int .i64 (atNo t.reads (j + 1)).slot, .int .i64 (atNo t.reads (j + 1)).version, .int .i64 (atNo t.reads (j + 1)).value, .bool (atNo t.reads (j + 1)).used] 104)) d) os).cell? ⟨wr.heap.size, 1, none⟩ = some (.int .i64 (atNo t.reads (j + 1)).slot) := fun d os => ((below_regrown (wr.alloc (.cells #[.int .i64 (atNo t.reads (j + 1)).region, .int .i64 (atNo t.reads (j + 1)).slot, .int .i64 (atNo t.reads (j + 1)).version, .int .i64 (atNo t.reads (j + 1)).value, .bool (atNo t.reads (j + 1)).used] 104)) d os).cell (p := ⟨wr.heap.size, 1, none⟩) (by rw [sV]; simp)).trans (by go_simp)
          have n2 : ∀ d os, (grow (redrawn (wr.alloc (.cells #[.int .i64 (atNo t.reads (j + 1)).region, .int .i64 (atNo t.reads (j + 1)).slot, .int .i64 (atNo t.reads (j + 1)).version, .int .i64 (atNo t.reads (j + 1)).value, .bool (atNo t.reads (j + 1)).used] 104)) d) os).cell? ⟨wr.heap.size, 2, none⟩ = some (.int .i64 (atNo t.reads (j + 1)).version) := fun d os => ((below_regrown (wr.alloc (.cells #[.int .i64 (atNo t.reads (j + 1)).region, .int .i64 (atNo t.reads (j + 1)).slot, .int .i64 (atNo t.reads (j + 1)).version, .int .i64 (atNo t.reads (j + 1)).value, .bool (atNo t.reads (j + 1)).used] 104)) d os).cell (p := ⟨wr.heap.size, 2, none⟩) (by rw [sV]; simp)).trans (by go_simp)
          have n3 : ∀ d os, (grow (redrawn (wr.alloc (.cells #[.int .i64 (atNo t.reads (j + 1)).region, .int .i64 (atNo t.reads (j + 1)).slot, .int .i64 (atNo t.reads (j + 1)).version, .int .i64 (atNo t.reads (j + 1)).value, .bool (atNo t.reads (j + 1)).used] 104)) d) os).cell? ⟨wr.heap.size, 3, none⟩ = some (.int .i64 (atNo t.reads (j + 1)).value) := fun d os => ((below_regrown (wr.alloc (.cells #[.int .i64 (atNo t.reads (j + 1)).region, .int .i64 (atNo t.reads (j + 1)).slot, .int .i64 (atNo t.reads (j + 1)).version, .int .i64 (atNo t.reads (j + 1)).value, .bool (atNo t.reads (j + 1)).used] 104)) d os).cell (p := ⟨wr.heap.size, 3, none⟩) (by rw [sV]; simp)).trans (by go_simp)
          have n4 : ∀ d os, (grow (redrawn (wr.alloc (.cells #[.int .i64 (atNo t.reads (j + 1)).region, .int .i64 (atNo t.reads (j + 1)).slot, .int .i64 (atNo t.reads (j + 1)).version, .int .i64 (atNo t.reads (j + 1)).value, .bool (atNo t.reads (j + 1)).used] 104)) d) os).cell? ⟨wr.heap.size, 4, none⟩ = some (.bool (atNo t.reads (j + 1)).used) := fun d os => ((below_regrown (wr.alloc (.cells #[.int .i64 (atNo t.reads (j + 1)).region, .int .i64 (atNo t.reads (j + 1)).slot, .int .i64 (atNo t.reads (j + 1)).version, .int .i64 (atNo t.reads (j + 1)).value, .bool (atNo t.reads (j + 1)).used] 104)) d os).cell (p := ⟨wr.heap.size, 4, none⟩) (by rw [sV]; simp)).trans (by go_simp)
          have p : ∀ d os, (grow (redrawn (wr.alloc (.cells #[.int .i64 (atNo t.reads (j + 1)).region, .int .i64 (atNo t.reads (j + 1)).slot, .int .i64 (atNo t.reads (j + 1)).version, .int .i64 (atNo t.reads (j + 1)).value, .bool (atNo t.reads (j + 1)).used] 104)) d) os).cell? ⟨w.heap.size, 4, none⟩ = some (.slice (some ⟨b, off, none⟩) t.reads.length cr) := fun d os => ((below_regrown (wr.alloc (.cells #[.int .i64 (atNo t.reads (j + 1)).region, .int .i64 (atNo t.reads (j + 1)).slot, .int .i64 (atNo t.reads (j + 1)).version, .int .i64 (atNo t.reads (j + 1)).value, .bool (atNo t.reads (j + 1)).used] 104)) d os).cell (p := ⟨w.heap.size, 4, none⟩) (by rw [sV]; dsimp only; omega)).trans ((bV.cell (p := ⟨w.heap.size, 4, none⟩) hzW).trans p4)
          have cN : ∀ d os, Calls Tryz.prog 102 #[.agg #[.int .i64 (atNo t.reads (j + 1)).region, .int .i64 (atNo t.reads (j + 1)).slot, .int .i64 (atNo t.reads (j + 1)).version, .int .i64 (atNo t.reads (j + 1)).value, .bool (atNo t.reads (j + 1)).used]] (grow (redrawn (wr.alloc (.cells #[.int .i64 (atNo t.reads (j + 1)).region, .int .i64 (atNo t.reads (j + 1)).slot, .int .i64 (atNo t.reads (j + 1)).version, .int .i64 (atNo t.reads (j + 1)).value, .bool (atNo t.reads (j + 1)).used] 104)) d) os) fun e w'' => e = .returned (.bool (noteOkB (atNo t.reads (j + 1)))) ∧ ∃ p : Regrown, w'' = grow (redrawn (wr.alloc (.cells #[.int .i64 (atNo t.reads (j + 1)).region, .int .i64 (atNo t.reads (j + 1)).slot, .int .i64 (atNo t.reads (j + 1)).version, .int .i64 (atNo t.reads (j + 1)).value, .bool (atNo t.reads (j + 1)).used] 104)) p.d) p.os := fun d os => Calls.regrown_of (specNote _ _)
          have KV : Hid (Below W.heap.size W (wr.alloc (.cells #[.int .i64 (atNo t.reads (j + 1)).region, .int .i64 (atNo t.reads (j + 1)).slot, .int .i64 (atNo t.reads (j + 1)).version, .int .i64 (atNo t.reads (j + 1)).value, .bool (atNo t.reads (j + 1)).used] 104))) := K.out.1.trans (bV.mono K.out.1.size)
          rw [gk] at cN
          have m0 : ∀ d os, (grow (redrawn (wr.alloc (.cells #[.int .i64 (atNo t.reads (j + 1)).region, .int .i64 (atNo t.reads (j + 1)).slot, .int .i64 (atNo t.reads (j + 1)).version, .int .i64 (atNo t.reads (j + 1)).value, .bool (atNo t.reads (j + 1)).used] 104)) d) os).cell? ⟨b, off + j * 5, none⟩ = some (.int .i64 (atNo t.reads j).region) := fun d os => ((below_regrown (wr.alloc (.cells #[.int .i64 (atNo t.reads (j + 1)).region, .int .i64 (atNo t.reads (j + 1)).slot, .int .i64 (atNo t.reads (j + 1)).version, .int .i64 (atNo t.reads (j + 1)).value, .bool (atNo t.reads (j + 1)).used] 104)) d os).cell (p := ⟨b, off + j * 5, none⟩) (by rw [sV]; dsimp only; omega)).trans ((bV.cell (p := ⟨b, off + j * 5, none⟩) hb).trans u0)
          have m1 : ∀ d os, (grow (redrawn (wr.alloc (.cells #[.int .i64 (atNo t.reads (j + 1)).region, .int .i64 (atNo t.reads (j + 1)).slot, .int .i64 (atNo t.reads (j + 1)).version, .int .i64 (atNo t.reads (j + 1)).value, .bool (atNo t.reads (j + 1)).used] 104)) d) os).cell? ⟨b, off + j * 5 + 1, none⟩ = some (.int .i64 (atNo t.reads j).slot) := fun d os => ((below_regrown (wr.alloc (.cells #[.int .i64 (atNo t.reads (j + 1)).region, .int .i64 (atNo t.reads (j + 1)).slot, .int .i64 (atNo t.reads (j + 1)).version, .int .i64 (atNo t.reads (j + 1)).value, .bool (atNo t.reads (j + 1)).used] 104)) d os).cell (p := ⟨b, off + j * 5 + 1, none⟩) (by rw [sV]; dsimp only; omega)).trans ((bV.cell (p := ⟨b, off + j * 5 + 1, none⟩) hb).trans u1)
          have cL : ∀ d os, Calls Tryz.prog 103 #[.int .i64 (atNo t.reads j).region, .int .i64 (atNo t.reads j).slot, .int .i64 (atNo t.reads (j + 1)).region, .int .i64 (atNo t.reads (j + 1)).slot] (grow (redrawn (wr.alloc (.cells #[.int .i64 (atNo t.reads (j + 1)).region, .int .i64 (atNo t.reads (j + 1)).slot, .int .i64 (atNo t.reads (j + 1)).version, .int .i64 (atNo t.reads (j + 1)).value, .bool (atNo t.reads (j + 1)).used] 104)) d) os) fun e w'' => e = .returned (.bool (lessB (atNo t.reads j).region (atNo t.reads j).slot (atNo t.reads (j + 1)).region (atNo t.reads (j + 1)).slot)) ∧ ∃ p : Regrown, w'' = grow (redrawn (wr.alloc (.cells #[.int .i64 (atNo t.reads (j + 1)).region, .int .i64 (atNo t.reads (j + 1)).slot, .int .i64 (atNo t.reads (j + 1)).version, .int .i64 (atNo t.reads (j + 1)).value, .bool (atNo t.reads (j + 1)).used] 104)) p.d) p.os := fun d os => Calls.regrown_of (specLess _ _ _ _ _)
          clear bV sV h1 u0 u1 u2 u3 u4
          cases gl : lessB (atNo t.reads j).region (atNo t.reads j).slot (atNo t.reads (j + 1)).region (atNo t.reads (j + 1)).slot with
          | false =>
            rw [gl] at cL
            go_wp2_with fail
            generalize (wr.alloc (.cells #[.int .i64 (atNo t.reads (j + 1)).region, .int .i64 (atNo t.reads (j + 1)).slot, .int .i64 (atNo t.reads (j + 1)).version, .int .i64 (atNo t.reads (j + 1)).value, .bool (atNo t.reads (j + 1)).used] 104)) = V at *
            refine wp_region_quiet_below (by kernel_rfl) (by kernel_rfl) ?_
            repeat (go_big_quiet_step (first | exact cN _ _ | exact cL _ _))
            refine wpQuiet_nil ?_
            intro _ hw'
            obtain ⟨⟨dq, osq⟩, hw''⟩ := hw'
            subst hw''
            have bq := below_regrown V dq osq
            have KB : Hid (Below W.heap.size W (grow (redrawn V dq) osq)) := KV.out.trans (bq.mono KV.out.size)
            go_wp2
            go_ret
            exact ⟨by rw [HM.out, alls_fail hlt (no_low gl)]; rfl, KF.out _ KB.out⟩
          | true =>
            rw [gl] at cL
            go_wp2_with fail
            generalize (wr.alloc (.cells #[.int .i64 (atNo t.reads (j + 1)).region, .int .i64 (atNo t.reads (j + 1)).slot, .int .i64 (atNo t.reads (j + 1)).version, .int .i64 (atNo t.reads (j + 1)).value, .bool (atNo t.reads (j + 1)).used] 104)) = V at *
            refine wp_region_quiet_below (by kernel_rfl) (by kernel_rfl) ?_
            repeat (go_big_quiet_step (first | exact cN _ _ | exact cL _ _))
            refine wpQuiet_nil ?_
            intro _ hw'
            obtain ⟨⟨dq, osq⟩, hw''⟩ := hw'
            subst hw''
            have bq := below_regrown V dq osq
            have KB : Hid (Below W.heap.size W (grow (redrawn V dq) osq)) := KV.out.trans (bq.mono KV.out.size)
            go_wp2
            exact ⟨⟨j + 1 + 1, by omega, by simp, KB.out, alls_step K.out.2 (no_good gk gl)⟩, by simp [intOf]; omega⟩
    · obtain rfl : k = t.reads.length := by omega
      have hd : decide ((t.reads.length : Int) < (t.reads.length : Int)) = false := by simp
      clear sR
      have HN : Hid (txB t = (List.range t.sets.length).all (seAt t.sets)) := by unfold Hid; rw [HM.out, K.out.2]; rfl
      have KQ : Hid (Below W.heap.size W wr) := K.out.1
      clear hzW hkk K
      go_wp2
      clear hd p4
      generalize wr = W9 at *
      go_loopw [5] (fun v3 wr => ∃ k : Nat, k ≤ t.sets.length ∧ v3 = .int .i64 k ∧ Below W.heap.size W wr ∧ (List.range k).all (seAt t.sets) = true) (fun v3 _ => t.sets.length - (intOf v3).toNat)
      case atStart => exact ⟨0, Nat.zero_le _, rfl, KQ.out, rfl⟩
      case round =>
        obtain ⟨k, hkk, rfl, hbl, hall⟩ := hrel
        have xr := H.out.2.later hbl
        have p4 := xr.c5
        have hzW := xr.lt
        have K : Hid (Below W.heap.size W wr ∧ (List.range k).all (seAt t.sets) = true) := ⟨hbl, hall⟩
        have sR := (H.out.1.later hbl).s
        clear xr hbl hall
        by_cases hlt : k < t.sets.length
        · obtain ⟨_, hsk⟩ := sR
          dsimp only at hsk
          rcases hsk with hsk | ⟨b, off, rfl, hb, h1⟩
          · omega
          obtain ⟨t0, t1, t2, t3, t4⟩ := h1 k _ (atSe_of hlt)
          cases gk : setOkB (atSe t.sets k) with
          | false =>
            have bV : Below wr.heap.size wr (wr.alloc (.cells #[.int .i64 (atSe t.sets k).region, .int .i64 (atSe t.sets k).slot, .int .i64 (atSe t.sets k).value, .bool (atSe t.sets k).used, .int .i64 (atSe t.sets k).version] 106)) := (Below.refl _ _).alloc (Nat.le_refl _) _
            have sV : (wr.alloc (.cells #[.int .i64 (atSe t.sets k).region, .int .i64 (atSe t.sets k).slot, .int .i64 (atSe t.sets k).value, .bool (atSe t.sets k).used, .int .i64 (atSe t.sets k).version] 106)).heap.size = wr.heap.size + 1 := by simp
            have n0 : ∀ d os, (grow (redrawn (wr.alloc (.cells #[.int .i64 (atSe t.sets k).region, .int .i64 (atSe t.sets k).slot, .int .i64 (atSe t.sets k).value, .bool (atSe t.sets k).used, .int .i64 (atSe t.sets k).version] 106)) d) os).cell? ⟨wr.heap.size, 0, none⟩ = some (.int .i64 (atSe t.sets k).region) := fun d os => ((below_regrown (wr.alloc (.cells #[.int .i64 (atSe t.sets k).region, .int .i64 (atSe t.sets k).slot, .int .i64 (atSe t.sets k).value, .bool (atSe t.sets k).used, .int .i64 (atSe t.sets k).version] 106)) d os).cell (p := ⟨wr.heap.size, 0, none⟩) (by rw [sV]; simp)).trans (by go_simp)
            have n1 : ∀ d os, (grow (redrawn (wr.alloc (.cells #[.int .i64 (atSe t.sets k).region, .int .i64 (atSe t.sets k).slot, .int .i64 (atSe t.sets k).value, .bool (atSe t.sets k).used, .int .i64 (atSe t.sets k).version] 106)) d) os).cell? ⟨wr.heap.size, 1, none⟩ = some (.int .i64 (atSe t.sets k).slot) := fun d os => ((below_regrown (wr.alloc (.cells #[.int .i64 (atSe t.sets k).region, .int .i64 (atSe t.sets k).slot, .int .i64 (atSe t.sets k).value, .bool (atSe t.sets k).used, .int .i64 (atSe t.sets k).version] 106)) d os).cell (p := ⟨wr.heap.size, 1, none⟩) (by rw [sV]; simp)).trans (by go_simp)
            have n2 : ∀ d os, (grow (redrawn (wr.alloc (.cells #[.int .i64 (atSe t.sets k).region, .int .i64 (atSe t.sets k).slot, .int .i64 (atSe t.sets k).value, .bool (atSe t.sets k).used, .int .i64 (atSe t.sets k).version] 106)) d) os).cell? ⟨wr.heap.size, 2, none⟩ = some (.int .i64 (atSe t.sets k).value) := fun d os => ((below_regrown (wr.alloc (.cells #[.int .i64 (atSe t.sets k).region, .int .i64 (atSe t.sets k).slot, .int .i64 (atSe t.sets k).value, .bool (atSe t.sets k).used, .int .i64 (atSe t.sets k).version] 106)) d os).cell (p := ⟨wr.heap.size, 2, none⟩) (by rw [sV]; simp)).trans (by go_simp)
            have n3 : ∀ d os, (grow (redrawn (wr.alloc (.cells #[.int .i64 (atSe t.sets k).region, .int .i64 (atSe t.sets k).slot, .int .i64 (atSe t.sets k).value, .bool (atSe t.sets k).used, .int .i64 (atSe t.sets k).version] 106)) d) os).cell? ⟨wr.heap.size, 3, none⟩ = some (.bool (atSe t.sets k).used) := fun d os => ((below_regrown (wr.alloc (.cells #[.int .i64 (atSe t.sets k).region, .int .i64 (atSe t.sets k).slot, .int .i64 (atSe t.sets k).value, .bool (atSe t.sets k).used, .int .i64 (atSe t.sets k).version] 106)) d os).cell (p := ⟨wr.heap.size, 3, none⟩) (by rw [sV]; simp)).trans (by go_simp)
            have n4 : ∀ d os, (grow (redrawn (wr.alloc (.cells #[.int .i64 (atSe t.sets k).region, .int .i64 (atSe t.sets k).slot, .int .i64 (atSe t.sets k).value, .bool (atSe t.sets k).used, .int .i64 (atSe t.sets k).version] 106)) d) os).cell? ⟨wr.heap.size, 4, none⟩ = some (.int .i64 (atSe t.sets k).version) := fun d os => ((below_regrown (wr.alloc (.cells #[.int .i64 (atSe t.sets k).region, .int .i64 (atSe t.sets k).slot, .int .i64 (atSe t.sets k).value, .bool (atSe t.sets k).used, .int .i64 (atSe t.sets k).version] 106)) d os).cell (p := ⟨wr.heap.size, 4, none⟩) (by rw [sV]; simp)).trans (by go_simp)
            have p : ∀ d os, (grow (redrawn (wr.alloc (.cells #[.int .i64 (atSe t.sets k).region, .int .i64 (atSe t.sets k).slot, .int .i64 (atSe t.sets k).value, .bool (atSe t.sets k).used, .int .i64 (atSe t.sets k).version] 106)) d) os).cell? ⟨w.heap.size, 5, none⟩ = some (.slice (some ⟨b, off, none⟩) t.sets.length ch) := fun d os => ((below_regrown (wr.alloc (.cells #[.int .i64 (atSe t.sets k).region, .int .i64 (atSe t.sets k).slot, .int .i64 (atSe t.sets k).value, .bool (atSe t.sets k).used, .int .i64 (atSe t.sets k).version] 106)) d os).cell (p := ⟨w.heap.size, 5, none⟩) (by rw [sV]; dsimp only; omega)).trans ((bV.cell (p := ⟨w.heap.size, 5, none⟩) hzW).trans p4)
            have cN : ∀ d os, Calls Tryz.prog 104 #[.agg #[.int .i64 (atSe t.sets k).region, .int .i64 (atSe t.sets k).slot, .int .i64 (atSe t.sets k).value, .bool (atSe t.sets k).used, .int .i64 (atSe t.sets k).version]] (grow (redrawn (wr.alloc (.cells #[.int .i64 (atSe t.sets k).region, .int .i64 (atSe t.sets k).slot, .int .i64 (atSe t.sets k).value, .bool (atSe t.sets k).used, .int .i64 (atSe t.sets k).version] 106)) d) os) fun e w'' => e = .returned (.bool (setOkB (atSe t.sets k))) ∧ ∃ p : Regrown, w'' = grow (redrawn (wr.alloc (.cells #[.int .i64 (atSe t.sets k).region, .int .i64 (atSe t.sets k).slot, .int .i64 (atSe t.sets k).value, .bool (atSe t.sets k).used, .int .i64 (atSe t.sets k).version] 106)) p.d) p.os := fun d os => Calls.regrown_of (specSetOk _ _)
            have KV : Hid (Below W.heap.size W (wr.alloc (.cells #[.int .i64 (atSe t.sets k).region, .int .i64 (atSe t.sets k).slot, .int .i64 (atSe t.sets k).value, .bool (atSe t.sets k).used, .int .i64 (atSe t.sets k).version] 106))) := K.out.1.trans (bV.mono K.out.1.size)
            rw [gk] at cN
            clear bV sV h1
            go_wp2_with fail
            generalize (wr.alloc (.cells #[.int .i64 (atSe t.sets k).region, .int .i64 (atSe t.sets k).slot, .int .i64 (atSe t.sets k).value, .bool (atSe t.sets k).used, .int .i64 (atSe t.sets k).version] 106)) = V at *
            refine wp_region_quiet_below (by kernel_rfl) (by kernel_rfl) ?_
            repeat (go_big_quiet_step (first | exact cN _ _))
            refine wpQuiet_nil ?_
            intro _ hw'
            obtain ⟨⟨dq, osq⟩, hw''⟩ := hw'
            subst hw''
            have bq := below_regrown V dq osq
            have KB : Hid (Below W.heap.size W (grow (redrawn V dq) osq)) := KV.out.trans (bq.mono KV.out.size)
            go_wp2
            go_ret
            exact ⟨by rw [HN.out, alls_fail hlt (se_bad gk)]; rfl, KF.out _ KB.out⟩
          | true =>
            rcases k with _ | j
            · simp only [Nat.zero_mul, Nat.add_zero] at t0 t1 t2 t3 t4
              have bV : Below wr.heap.size wr (wr.alloc (.cells #[.int .i64 (atSe t.sets 0).region, .int .i64 (atSe t.sets 0).slot, .int .i64 (atSe t.sets 0).value, .bool (atSe t.sets 0).used, .int .i64 (atSe t.sets 0).version] 106)) := (Below.refl _ _).alloc (Nat.le_refl _) _
              have sV : (wr.alloc (.cells #[.int .i64 (atSe t.sets 0).region, .int .i64 (atSe t.sets 0).slot, .int .i64 (atSe t.sets 0).value, .bool (atSe t.sets 0).used, .int .i64 (atSe t.sets 0).version] 106)).heap.size = wr.heap.size + 1 := by simp
              have n0 : ∀ d os, (grow (redrawn (wr.alloc (.cells #[.int .i64 (atSe t.sets 0).region, .int .i64 (atSe t.sets 0).slot, .int .i64 (atSe t.sets 0).value, .bool (atSe t.sets 0).used, .int .i64 (atSe t.sets 0).version] 106)) d) os).cell? ⟨wr.heap.size, 0, none⟩ = some (.int .i64 (atSe t.sets 0).region) := fun d os => ((below_regrown (wr.alloc (.cells #[.int .i64 (atSe t.sets 0).region, .int .i64 (atSe t.sets 0).slot, .int .i64 (atSe t.sets 0).value, .bool (atSe t.sets 0).used, .int .i64 (atSe t.sets 0).version] 106)) d os).cell (p := ⟨wr.heap.size, 0, none⟩) (by rw [sV]; simp)).trans (by go_simp)
              have n1 : ∀ d os, (grow (redrawn (wr.alloc (.cells #[.int .i64 (atSe t.sets 0).region, .int .i64 (atSe t.sets 0).slot, .int .i64 (atSe t.sets 0).value, .bool (atSe t.sets 0).used, .int .i64 (atSe t.sets 0).version] 106)) d) os).cell? ⟨wr.heap.size, 1, none⟩ = some (.int .i64 (atSe t.sets 0).slot) := fun d os => ((below_regrown (wr.alloc (.cells #[.int .i64 (atSe t.sets 0).region, .int .i64 (atSe t.sets 0).slot, .int .i64 (atSe t.sets 0).value, .bool (atSe t.sets 0).used, .int .i64 (atSe t.sets 0).version] 106)) d os).cell (p := ⟨wr.heap.size, 1, none⟩) (by rw [sV]; simp)).trans (by go_simp)
              have n2 : ∀ d os, (grow (redrawn (wr.alloc (.cells #[.int .i64 (atSe t.sets 0).region, .int .i64 (atSe t.sets 0).slot, .int .i64 (atSe t.sets 0).value, .bool (atSe t.sets 0).used, .int .i64 (atSe t.sets 0).version] 106)) d) os).cell? ⟨wr.heap.size, 2, none⟩ = some (.int .i64 (atSe t.sets 0).value) := fun d os => ((below_regrown (wr.alloc (.cells #[.int .i64 (atSe t.sets 0).region, .int .i64 (atSe t.sets 0).slot, .int .i64 (atSe t.sets 0).value, .bool (atSe t.sets 0).used, .int .i64 (atSe t.sets 0).version] 106)) d os).cell (p := ⟨wr.heap.size, 2, none⟩) (by rw [sV]; simp)).trans (by go_simp)
              have n3 : ∀ d os, (grow (redrawn (wr.alloc (.cells #[.int .i64 (atSe t.sets 0).region, .int .i64 (atSe t.sets 0).slot, .int .i64 (atSe t.sets 0).value, .bool (atSe t.sets 0).used, .int .i64 (atSe t.sets 0).version] 106)) d) os).cell? ⟨wr.heap.size, 3, none⟩ = some (.bool (atSe t.sets 0).used) := fun d os => ((below_regrown (wr.alloc (.cells #[.int .i64 (atSe t.sets 0).region, .int .i64 (atSe t.sets 0).slot, .int .i64 (atSe t.sets 0).value, .bool (atSe t.sets 0).used, .int .i64 (atSe t.sets 0).version] 106)) d os).cell (p := ⟨wr.heap.size, 3, none⟩) (by rw [sV]; simp)).trans (by go_simp)
              have n4 : ∀ d os, (grow (redrawn (wr.alloc (.cells #[.int .i64 (atSe t.sets 0).region, .int .i64 (atSe t.sets 0).slot, .int .i64 (atSe t.sets 0).value, .bool (atSe t.sets 0).used, .int .i64 (atSe t.sets 0).version] 106)) d) os).cell? ⟨wr.heap.size, 4, none⟩ = some (.int .i64 (atSe t.sets 0).version) := fun d os => ((below_regrown (wr.alloc (.cells #[.int .i64 (atSe t.sets 0).region, .int .i64 (atSe t.sets 0).slot, .int .i64 (atSe t.sets 0).value, .bool (atSe t.sets 0).used, .int .i64 (atSe t.sets 0).version] 106)) d os).cell (p := ⟨wr.heap.size, 4, none⟩) (by rw [sV]; simp)).trans (by go_simp)
              have p : ∀ d os, (grow (redrawn (wr.alloc (.cells #[.int .i64 (atSe t.sets 0).region, .int .i64 (atSe t.sets 0).slot, .int .i64 (atSe t.sets 0).value, .bool (atSe t.sets 0).used, .int .i64 (atSe t.sets 0).version] 106)) d) os).cell? ⟨w.heap.size, 5, none⟩ = some (.slice (some ⟨b, off, none⟩) t.sets.length ch) := fun d os => ((below_regrown (wr.alloc (.cells #[.int .i64 (atSe t.sets 0).region, .int .i64 (atSe t.sets 0).slot, .int .i64 (atSe t.sets 0).value, .bool (atSe t.sets 0).used, .int .i64 (atSe t.sets 0).version] 106)) d os).cell (p := ⟨w.heap.size, 5, none⟩) (by rw [sV]; dsimp only; omega)).trans ((bV.cell (p := ⟨w.heap.size, 5, none⟩) hzW).trans p4)
              have cN : ∀ d os, Calls Tryz.prog 104 #[.agg #[.int .i64 (atSe t.sets 0).region, .int .i64 (atSe t.sets 0).slot, .int .i64 (atSe t.sets 0).value, .bool (atSe t.sets 0).used, .int .i64 (atSe t.sets 0).version]] (grow (redrawn (wr.alloc (.cells #[.int .i64 (atSe t.sets 0).region, .int .i64 (atSe t.sets 0).slot, .int .i64 (atSe t.sets 0).value, .bool (atSe t.sets 0).used, .int .i64 (atSe t.sets 0).version] 106)) d) os) fun e w'' => e = .returned (.bool (setOkB (atSe t.sets 0))) ∧ ∃ p : Regrown, w'' = grow (redrawn (wr.alloc (.cells #[.int .i64 (atSe t.sets 0).region, .int .i64 (atSe t.sets 0).slot, .int .i64 (atSe t.sets 0).value, .bool (atSe t.sets 0).used, .int .i64 (atSe t.sets 0).version] 106)) p.d) p.os := fun d os => Calls.regrown_of (specSetOk _ _)
              have KV : Hid (Below W.heap.size W (wr.alloc (.cells #[.int .i64 (atSe t.sets 0).region, .int .i64 (atSe t.sets 0).slot, .int .i64 (atSe t.sets 0).value, .bool (atSe t.sets 0).used, .int .i64 (atSe t.sets 0).version] 106))) := K.out.1.trans (bV.mono K.out.1.size)
              rw [gk] at cN
              clear bV sV h1
              go_wp2_with fail
              generalize (wr.alloc (.cells #[.int .i64 (atSe t.sets 0).region, .int .i64 (atSe t.sets 0).slot, .int .i64 (atSe t.sets 0).value, .bool (atSe t.sets 0).used, .int .i64 (atSe t.sets 0).version] 106)) = V at *
              refine wp_region_quiet_below (by kernel_rfl) (by kernel_rfl) ?_
              repeat (go_big_quiet_step (first | exact cN _ _))
              refine wpQuiet_nil ?_
              intro _ hw'
              obtain ⟨⟨dq, osq⟩, hw''⟩ := hw'
              subst hw''
              have bq := below_regrown V dq osq
              have KB : Hid (Below W.heap.size W (grow (redrawn V dq) osq)) := KV.out.trans (bq.mono KV.out.size)
              go_wp2
              exact ⟨⟨1, by omega, by simp, KB.out, alls_step K.out.2 (se_first gk)⟩, by simp [intOf]; omega⟩
            · obtain ⟨u0, u1, u2, u3, u4⟩ := h1 j _ (atSe_of (by omega))
              have hj : (j : Int) < (t.sets.length : Int) := by omega
              have bV : Below wr.heap.size wr (wr.alloc (.cells #[.int .i64 (atSe t.sets (j + 1)).region, .int .i64 (atSe t.sets (j + 1)).slot, .int .i64 (atSe t.sets (j + 1)).value, .bool (atSe t.sets (j + 1)).used, .int .i64 (atSe t.sets (j + 1)).version] 106)) := (Below.refl _ _).alloc (Nat.le_refl _) _
              have sV : (wr.alloc (.cells #[.int .i64 (atSe t.sets (j + 1)).region, .int .i64 (atSe t.sets (j + 1)).slot, .int .i64 (atSe t.sets (j + 1)).value, .bool (atSe t.sets (j + 1)).used, .int .i64 (atSe t.sets (j + 1)).version] 106)).heap.size = wr.heap.size + 1 := by simp
              have n0 : ∀ d os, (grow (redrawn (wr.alloc (.cells #[.int .i64 (atSe t.sets (j + 1)).region, .int .i64 (atSe t.sets (j + 1)).slot, .int .i64 (atSe t.sets (j + 1)).value, .bool (atSe t.sets (j + 1)).used, .int .i64 (atSe t.sets (j + 1)).version] 106)) d) os).cell? ⟨wr.heap.size, 0, none⟩ = some (.int .i64 (atSe t.sets (j + 1)).region) := fun d os => ((below_regrown (wr.alloc (.cells #[.int .i64 (atSe t.sets (j + 1)).region, .int .i64 (atSe t.sets (j + 1)).slot, .int .i64 (atSe t.sets (j + 1)).value, .bool (atSe t.sets (j + 1)).used, .int .i64 (atSe t.sets (j + 1)).version] 106)) d os).cell (p := ⟨wr.heap.size, 0, none⟩) (by rw [sV]; simp)).trans (by go_simp)
              have n1 : ∀ d os, (grow (redrawn (wr.alloc (.cells #[.int .i64 (atSe t.sets (j + 1)).region, .int .i64 (atSe t.sets (j + 1)).slot, .int .i64 (atSe t.sets (j + 1)).value, .bool (atSe t.sets (j + 1)).used, .int .i64 (atSe t.sets (j + 1)).version] 106)) d) os).cell? ⟨wr.heap.size, 1, none⟩ = some (.int .i64 (atSe t.sets (j + 1)).slot) := fun d os => ((below_regrown (wr.alloc (.cells #[.int .i64 (atSe t.sets (j + 1)).region, .int .i64 (atSe t.sets (j + 1)).slot, .int .i64 (atSe t.sets (j + 1)).value, .bool (atSe t.sets (j + 1)).used, .int .i64 (atSe t.sets (j + 1)).version] 106)) d os).cell (p := ⟨wr.heap.size, 1, none⟩) (by rw [sV]; simp)).trans (by go_simp)
              have n2 : ∀ d os, (grow (redrawn (wr.alloc (.cells #[.int .i64 (atSe t.sets (j + 1)).region, .int .i64 (atSe t.sets (j + 1)).slot, .int .i64 (atSe t.sets (j + 1)).value, .bool (atSe t.sets (j + 1)).used, .int .i64 (atSe t.sets (j + 1)).version] 106)) d) os).cell? ⟨wr.heap.size, 2, none⟩ = some (.int .i64 (atSe t.sets (j + 1)).value) := fun d os => ((below_regrown (wr.alloc (.cells #[.int .i64 (atSe t.sets (j + 1)).region, .int .i64 (atSe t.sets (j + 1)).slot, .int .i64 (atSe t.sets (j + 1)).value, .bool (atSe t.sets (j + 1)).used, .int .i64 (atSe t.sets (j + 1)).version] 106)) d os).cell (p := ⟨wr.heap.size, 2, none⟩) (by rw [sV]; simp)).trans (by go_simp)
              have n3 : ∀ d os, (grow (redrawn (wr.alloc (.cells #[.int .i64 (atSe t.sets (j + 1)).region, .int .i64 (atSe t.sets (j + 1)).slot, .int .i64 (atSe t.sets (j + 1)).value, .bool (atSe t.sets (j + 1)).used, .int .i64 (atSe t.sets (j + 1)).version] 106)) d) os).cell? ⟨wr.heap.size, 3, none⟩ = some (.bool (atSe t.sets (j + 1)).used) := fun d os => ((below_regrown (wr.alloc (.cells #[.int .i64 (atSe t.sets (j + 1)).region, .int .i64 (atSe t.sets (j + 1)).slot, .int .i64 (atSe t.sets (j + 1)).value, .bool (atSe t.sets (j + 1)).used, .int .i64 (atSe t.sets (j + 1)).version] 106)) d os).cell (p := ⟨wr.heap.size, 3, none⟩) (by rw [sV]; simp)).trans (by go_simp)
              have n4 : ∀ d os, (grow (redrawn (wr.alloc (.cells #[.int .i64 (atSe t.sets (j + 1)).region, .int .i64 (atSe t.sets (j + 1)).slot, .int .i64 (atSe t.sets (j + 1)).value, .bool (atSe t.sets (j + 1)).used, .int .i64 (atSe t.sets (j + 1)).version] 106)) d) os).cell? ⟨wr.heap.size, 4, none⟩ = some (.int .i64 (atSe t.sets (j + 1)).version) := fun d os => ((below_regrown (wr.alloc (.cells #[.int .i64 (atSe t.sets (j + 1)).region, .int .i64 (atSe t.sets (j + 1)).slot, .int .i64 (atSe t.sets (j + 1)).value, .bool (atSe t.sets (j + 1)).used, .int .i64 (atSe t.sets (j + 1)).version] 106)) d os).cell (p := ⟨wr.heap.size, 4, none⟩) (by rw [sV]; simp)).trans (by go_simp)
              have p : ∀ d os, (grow (redrawn (wr.alloc (.cells #[.int .i64 (atSe t.sets (j + 1)).region, .int .i64 (atSe t.sets (j + 1)).slot, .int .i64 (atSe t.sets (j + 1)).value, .bool (atSe t.sets (j + 1)).used, .int .i64 (atSe t.sets (j + 1)).version] 106)) d) os).cell? ⟨w.heap.size, 5, none⟩ = some (.slice (some ⟨b, off, none⟩) t.sets.length ch) := fun d os => ((below_regrown (wr.alloc (.cells #[.int .i64 (atSe t.sets (j + 1)).region, .int .i64 (atSe t.sets (j + 1)).slot, .int .i64 (atSe t.sets (j + 1)).value, .bool (atSe t.sets (j + 1)).used, .int .i64 (atSe t.sets (j + 1)).version] 106)) d os).cell (p := ⟨w.heap.size, 5, none⟩) (by rw [sV]; dsimp only; omega)).trans ((bV.cell (p := ⟨w.heap.size, 5, none⟩) hzW).trans p4)
              have cN : ∀ d os, Calls Tryz.prog 104 #[.agg #[.int .i64 (atSe t.sets (j + 1)).region, .int .i64 (atSe t.sets (j + 1)).slot, .int .i64 (atSe t.sets (j + 1)).value, .bool (atSe t.sets (j + 1)).used, .int .i64 (atSe t.sets (j + 1)).version]] (grow (redrawn (wr.alloc (.cells #[.int .i64 (atSe t.sets (j + 1)).region, .int .i64 (atSe t.sets (j + 1)).slot, .int .i64 (atSe t.sets (j + 1)).value, .bool (atSe t.sets (j + 1)).used, .int .i64 (atSe t.sets (j + 1)).version] 106)) d) os) fun e w'' => e = .returned (.bool (setOkB (atSe t.sets (j + 1)))) ∧ ∃ p : Regrown, w'' = grow (redrawn (wr.alloc (.cells #[.int .i64 (atSe t.sets (j + 1)).region, .int .i64 (atSe t.sets (j + 1)).slot, .int .i64 (atSe t.sets (j + 1)).value, .bool (atSe t.sets (j + 1)).used, .int .i64 (atSe t.sets (j + 1)).version] 106)) p.d) p.os := fun d os => Calls.regrown_of (specSetOk _ _)
              have KV : Hid (Below W.heap.size W (wr.alloc (.cells #[.int .i64 (atSe t.sets (j + 1)).region, .int .i64 (atSe t.sets (j + 1)).slot, .int .i64 (atSe t.sets (j + 1)).value, .bool (atSe t.sets (j + 1)).used, .int .i64 (atSe t.sets (j + 1)).version] 106))) := K.out.1.trans (bV.mono K.out.1.size)
              rw [gk] at cN
              have m0 : ∀ d os, (grow (redrawn (wr.alloc (.cells #[.int .i64 (atSe t.sets (j + 1)).region, .int .i64 (atSe t.sets (j + 1)).slot, .int .i64 (atSe t.sets (j + 1)).value, .bool (atSe t.sets (j + 1)).used, .int .i64 (atSe t.sets (j + 1)).version] 106)) d) os).cell? ⟨b, off + j * 5, none⟩ = some (.int .i64 (atSe t.sets j).region) := fun d os => ((below_regrown (wr.alloc (.cells #[.int .i64 (atSe t.sets (j + 1)).region, .int .i64 (atSe t.sets (j + 1)).slot, .int .i64 (atSe t.sets (j + 1)).value, .bool (atSe t.sets (j + 1)).used, .int .i64 (atSe t.sets (j + 1)).version] 106)) d os).cell (p := ⟨b, off + j * 5, none⟩) (by rw [sV]; dsimp only; omega)).trans ((bV.cell (p := ⟨b, off + j * 5, none⟩) hb).trans u0)
              have m1 : ∀ d os, (grow (redrawn (wr.alloc (.cells #[.int .i64 (atSe t.sets (j + 1)).region, .int .i64 (atSe t.sets (j + 1)).slot, .int .i64 (atSe t.sets (j + 1)).value, .bool (atSe t.sets (j + 1)).used, .int .i64 (atSe t.sets (j + 1)).version] 106)) d) os).cell? ⟨b, off + j * 5 + 1, none⟩ = some (.int .i64 (atSe t.sets j).slot) := fun d os => ((below_regrown (wr.alloc (.cells #[.int .i64 (atSe t.sets (j + 1)).region, .int .i64 (atSe t.sets (j + 1)).slot, .int .i64 (atSe t.sets (j + 1)).value, .bool (atSe t.sets (j + 1)).used, .int .i64 (atSe t.sets (j + 1)).version] 106)) d os).cell (p := ⟨b, off + j * 5 + 1, none⟩) (by rw [sV]; dsimp only; omega)).trans ((bV.cell (p := ⟨b, off + j * 5 + 1, none⟩) hb).trans u1)
              have cL : ∀ d os, Calls Tryz.prog 103 #[.int .i64 (atSe t.sets j).region, .int .i64 (atSe t.sets j).slot, .int .i64 (atSe t.sets (j + 1)).region, .int .i64 (atSe t.sets (j + 1)).slot] (grow (redrawn (wr.alloc (.cells #[.int .i64 (atSe t.sets (j + 1)).region, .int .i64 (atSe t.sets (j + 1)).slot, .int .i64 (atSe t.sets (j + 1)).value, .bool (atSe t.sets (j + 1)).used, .int .i64 (atSe t.sets (j + 1)).version] 106)) d) os) fun e w'' => e = .returned (.bool (lessB (atSe t.sets j).region (atSe t.sets j).slot (atSe t.sets (j + 1)).region (atSe t.sets (j + 1)).slot)) ∧ ∃ p : Regrown, w'' = grow (redrawn (wr.alloc (.cells #[.int .i64 (atSe t.sets (j + 1)).region, .int .i64 (atSe t.sets (j + 1)).slot, .int .i64 (atSe t.sets (j + 1)).value, .bool (atSe t.sets (j + 1)).used, .int .i64 (atSe t.sets (j + 1)).version] 106)) p.d) p.os := fun d os => Calls.regrown_of (specLess _ _ _ _ _)
              clear bV sV h1 u0 u1 u2 u3 u4
              cases gl : lessB (atSe t.sets j).region (atSe t.sets j).slot (atSe t.sets (j + 1)).region (atSe t.sets (j + 1)).slot with
              | false =>
                rw [gl] at cL
                go_wp2_with fail
                generalize (wr.alloc (.cells #[.int .i64 (atSe t.sets (j + 1)).region, .int .i64 (atSe t.sets (j + 1)).slot, .int .i64 (atSe t.sets (j + 1)).value, .bool (atSe t.sets (j + 1)).used, .int .i64 (atSe t.sets (j + 1)).version] 106)) = V at *
                refine wp_region_quiet_below (by kernel_rfl) (by kernel_rfl) ?_
                repeat (go_big_quiet_step (first | exact cN _ _ | exact cL _ _))
                refine wpQuiet_nil ?_
                intro _ hw'
                obtain ⟨⟨dq, osq⟩, hw''⟩ := hw'
                subst hw''
                have bq := below_regrown V dq osq
                have KB : Hid (Below W.heap.size W (grow (redrawn V dq) osq)) := KV.out.trans (bq.mono KV.out.size)
                go_wp2
                go_ret
                exact ⟨by rw [HN.out, alls_fail hlt (se_low gl)]; rfl, KF.out _ KB.out⟩
              | true =>
                rw [gl] at cL
                go_wp2_with fail
                generalize (wr.alloc (.cells #[.int .i64 (atSe t.sets (j + 1)).region, .int .i64 (atSe t.sets (j + 1)).slot, .int .i64 (atSe t.sets (j + 1)).value, .bool (atSe t.sets (j + 1)).used, .int .i64 (atSe t.sets (j + 1)).version] 106)) = V at *
                refine wp_region_quiet_below (by kernel_rfl) (by kernel_rfl) ?_
                repeat (go_big_quiet_step (first | exact cN _ _ | exact cL _ _))
                refine wpQuiet_nil ?_
                intro _ hw'
                obtain ⟨⟨dq, osq⟩, hw''⟩ := hw'
                subst hw''
                have bq := below_regrown V dq osq
                have KB : Hid (Below W.heap.size W (grow (redrawn V dq) osq)) := KV.out.trans (bq.mono KV.out.size)
                go_wp2
                exact ⟨⟨j + 1 + 1, by omega, by simp, KB.out, alls_step K.out.2 (se_good gk gl)⟩, by simp [intOf]; omega⟩
        · obtain rfl : k = t.sets.length := by omega
          have hd : decide ((t.sets.length : Int) < (t.sets.length : Int)) = false := by simp
          clear sR
          go_wp2
          go_ret
          exact ⟨by rw [HN.out, K.out.2]; rfl, KF.out _ K.out.1⟩
end Go.Proofs.YtdmpobegobfpjaaGreat.tx
