/- What the program's and the specification's CellsOk answer at every row of cells: one and the same. -/
import Derived.Test.YtbkcmbbeknljiaaGreatRows
import Derived.Test.YtbkcmbbeknljiaaGreatJ20ExactClear
import Derived.Test.YtbkcmbbeknljiaaGreatCellsJ
import Derived.WalkKit
import Derived.WalkSpells
import Derived.WalkLawsBesides
import Derived.Below
namespace Go.Proofs.YtbkcmbbeknljiaaGreat
open Go.RowKit
def cellB (c : C2) : Bool := inB 0 4000003 c.head && inB (-1000000000) 1000000000 c.value && (usedB c.head || decide (c.value = 0))
def cellsB (xs : List C2) : Bool := decide (xs.length = 6) && xs.all cellB
theorem cells_all {xs : List C2} (h : ∀ i, i < xs.length → cellB (at2 xs i) = true) : xs.all cellB = true := by
  rw [List.all_eq_true]
  intro s hs
  obtain ⟨i, hi, rfl⟩ := List.getElem_of_mem hs
  have := h i hi
  rw [at2, List.getElem?_eq_getElem hi] at this
  simpa using this
theorem cells_not {xs : List C2} {i : Nat} (hi : i < xs.length) (h : cellB (at2 xs i) = false) : xs.all cellB = false := by
  rw [List.all_eq_false]
  refine ⟨xs[i], List.getElem_mem hi, ?_⟩
  rw [at2, List.getElem?_eq_getElem hi] at h
  simpa using h
set_option maxHeartbeats 1000000 in
theorem implCellOk (w : World) (s : C2) : Calls Tryz.prog 102 #[.agg #[.int .i64 s.head, .int .i64 s.value]] w fun e w' => e = .returned (.bool (cellB s)) ∧ Below w.heap.size w w' := by
  obtain ⟨h, v⟩ := s
  unfold cellB
  go_enter Tryz.func102, Tryz.ntmps102
  cases g1 : inB 0 4000003 h <;> cases g2 : inB (-1000000000) 1000000000 v <;> cases g3 : usedB h
  all_goals go_wp2_with (first | (go_at_call 151; refine (implHeadOk_any _ _).mono ?_; rw [g1]; rintro e w' ⟨rfl, rfl⟩) | (go_at_call 152; refine (implValue _ _).mono ?_; rw [g2]; rintro e w' ⟨rfl, rfl⟩) | (go_at_call 153; refine (implUsed_any _ _).mono ?_; rw [g1, g3]; rintro e w' ⟨rfl, rfl⟩))
  all_goals (go_ret; refine ⟨ret_bool ?_, (Below.refl _ _).alloc (Nat.le_refl _) _⟩; simp)
theorem wrongCell (w : World) (s : C2) : Calls Tryz.prog 101 #[.agg #[.int .i64 s.head, .int .i64 s.value]] w fun e w' => e = .returned (.bool (!cellB s)) ∧ Below w.heap.size w w' := by
  go_enter Tryz.func101, Tryz.ntmps101
  go_wp2_with fail
  refine (implCellOk _ s).mono ?_
  rintro e w1 ⟨rfl, b1⟩
  go_wp2
  go_ret
  exact ⟨rfl, ((Below.refl _ _).alloc (Nat.le_refl _) _).trans (b1.mono (by simp))⟩
set_option maxHeartbeats 2000000 in
theorem indexWrong_some (w : World) (b off cap n : Nat) (xs : List C2) (hx : xs.length = n) (hn : n ≤ maxLen) (h1 : CellsAt w b off xs) (hb : b < w.heap.size) :
    Calls Tryz.prog 154 #[.slice (some ⟨b, off, none⟩) n cap, .func (.func 101) #[] #[]] w fun e w' => ∃ i : Int, e = .returned (.int .i64 i) ∧ (0 ≤ i ↔ xs.all cellB = false) ∧ Below w.heap.size w w' := by
  unfold maxLen at hn
  go_enter Tryz.func154, Tryz.ntmps154
  go_wp2
  go_loopw [8] (fun i wr => ∃ k : Nat, k ≤ n ∧ i = .int .i64 k ∧ Below w.heap.size w wr ∧ ∀ i, i < k → cellB (at2 xs i) = true) (fun i _ => n - (intOf i).toNat)
  case atStart => exact ⟨0, Nat.zero_le _, rfl, Below.refl _ _, fun i h => absurd h (by omega)⟩
  case round =>
    obtain ⟨k, hk, rfl, hbl, hall⟩ := hrel
    have K : Hid (Below w.heap.size w wr ∧ (∀ i, i < k → cellB (at2 xs i) = true) ∧ xs.length = n) := ⟨hbl, hall, hx⟩
    by_cases hlt : k < n
    · obtain ⟨c0, c1⟩ := (h1.get (i := k) (by omega)).below hbl hb
      clear hbl hall h1 hx
      cases hr : cellB (at2 xs k) with
      | true =>
        go_wp2_with fail
        refine (wrongCell _ (at2 xs k)).mono ?_
        rw [hr]
        rintro e w1 ⟨rfl, b1⟩
        go_wp2
        refine ⟨⟨k + 1, by omega, by simp, K.out.1.trans (b1.mono K.out.1.size), fun i hi => ?_⟩, by simp [intOf]; omega⟩
        by_cases e : i = k
        · rw [e]; exact hr
        · exact K.out.2.1 i (by omega)
      | false =>
        go_wp2_with fail
        refine (wrongCell _ (at2 xs k)).mono ?_
        rw [hr]
        rintro e w1 ⟨rfl, b1⟩
        go_wp2
        go_ret
        exact ⟨(k : Int), rfl, by simp [cells_not (xs := xs) (i := k) (by rw [K.out.2.2]; exact hlt) hr], K.out.1.trans (b1.mono K.out.1.size)⟩
    · have : k = n := by omega
      subst this
      have hd : decide (k < k) = false := by simp
      go_wp2
      go_ret
      exact ⟨-1, rfl, by simp [cells_all (xs := xs) (by rw [hx]; exact hall)], hbl⟩
theorem containsWrong_some (w : World) (b off cap n : Nat) (xs : List C2) (hx : xs.length = n) (hn : n ≤ maxLen) (h1 : CellsAt w b off xs) (hb : b < w.heap.size) :
    Calls Tryz.prog 103 #[.slice (some ⟨b, off, none⟩) n cap, .func (.func 101) #[] #[]] w fun e w' => e = .returned (.bool (!xs.all cellB)) ∧ Below w.heap.size w w' := by
  go_enter Tryz.func103, Tryz.ntmps103
  go_wp2_with fail
  refine (indexWrong_some w b off cap n xs hx hn h1 hb).mono ?_
  rintro e w1 ⟨i, rfl, hi, b1⟩
  have HI : Hid (0 ≤ i ↔ xs.all cellB = false) := hi
  clear hi
  go_wp2
  go_ret
  refine ⟨ret_bool ?_, b1⟩
  rw [decide_eq_true_eq, HI.out, Bool.not_eq_true']
set_option maxHeartbeats 2000000 in
theorem implCellsOk_any (w : World) (a : Option Addr) (n cap : Nat) (xs : List C2) (hn : n ≤ maxLen) (hs : SlC w w.heap.size a n xs) :
    Calls Tryz.prog 46 #[.slice a n cap] w fun e w' => e = .returned (.bool (cellsB xs)) ∧ Below w.heap.size w w' := by
  obtain ⟨hx, hs⟩ := hs
  unfold cellsB
  rw [hx]
  by_cases h6 : n = 6
  · subst h6
    rcases hs with hs | ⟨b, off, rfl, hb, h1⟩
    · omega
    · go_enter Tryz.func46, Tryz.ntmps46
      go_wp2_with fail
      refine (containsWrong_some w b off cap 6 xs hx hn h1 hb).mono ?_
      rintro e w1 ⟨rfl, b1⟩
      go_wp2
      go_ret
      exact ⟨ret_bool (by simp), b1⟩
  · have q : ((n : Int) == 6) = false := by simp; omega
    go_enter Tryz.func46, Tryz.ntmps46
    go_wp2
    go_ret
    exact ⟨ret_bool (by simp [h6]), Below.refl _ _⟩
set_option maxHeartbeats 2000000 in
theorem specCellsOk_six (w : World) (b off cap : Nat) (xs : List C2) (hx : xs.length = 6) (h1 : CellsAt w b off xs) (hb : b < w.heap.size) :
    Calls Tryz.prog 51 #[.slice (some ⟨b, off, none⟩) 6 cap] w fun e w' => e = .returned (.bool (xs.all cellB)) ∧ Below w.heap.size w w' := by
  go_enter Tryz.func51, Tryz.ntmps51
  go_wp2
  go_loopw [3] (fun i wr => ∃ k : Nat, k ≤ 6 ∧ i = .int .i64 k ∧ Below w.heap.size w wr ∧ ∀ i, i < k → cellB (at2 xs i) = true) (fun i _ => 6 - (intOf i).toNat)
  case atStart => exact ⟨0, Nat.zero_le _, rfl, Below.refl _ _, fun i h => absurd h (by omega)⟩
  case round =>
    obtain ⟨k, hk, rfl, hbl, hall⟩ := hrel
    have K : Hid (Below w.heap.size w wr ∧ (∀ i, i < k → cellB (at2 xs i) = true) ∧ xs.length = 6) := ⟨hbl, hall, hx⟩
    by_cases hlt : k < 6
    · obtain ⟨c0, c1⟩ := (h1.get (i := k) (by omega)).below hbl hb
      clear hbl hall h1 hx
      generalize hC : at2 xs k = C at c0 c1
      obtain ⟨h, v⟩ := C
      have KC : Hid (at2 xs k = ⟨h, v⟩) := hC
      have hlt' : (k : Int) < 6 := by omega
      clear hC
      cases g1 : inB 0 4000003 h <;> cases g2 : inB (-1000000000) 1000000000 v <;> cases g3 : usedB h
      all_goals
        have HB : Hid (cellB (at2 xs k) = (inB 0 4000003 h && inB (-1000000000) 1000000000 v && (usedB h || decide (v = 0)))) := by unfold Hid; rw [KC.out]; rfl
        rw [g1, g2, g3] at HB
        go_wp2_with (first | (go_at_call 108; refine (specHeadOk_any _ _).mono ?_; rw [g1]; rintro e w' ⟨rfl, rfl⟩) | (go_at_call 109; refine (specValue _ _).mono ?_; rw [g2]; rintro e w' ⟨rfl, rfl⟩) | (go_at_call 110; refine (specUsed_any _ _).mono ?_; rw [g1, g3]; rintro e w' ⟨rfl, rfl⟩))
      all_goals first
        | (go_ret
           exact ⟨by rw [cells_not (xs := xs) (i := k) (by rw [K.out.2.2]; exact hlt) (by rw [HB.out]; simp; try simpa using ‹(v != 0) = true›)]; rfl, (K.out.1.alloc K.out.1.size _)⟩)
        | (refine ⟨⟨k + 1, by omega, by simp, K.out.1.alloc K.out.1.size _, fun i hi => ?_⟩, by simp [intOf]; omega⟩
           by_cases e : i = k
           · rw [e, HB.out]; simp; try simpa using ‹(v != 0) = false›
           · exact K.out.2.1 i (by omega))
    · have : k = 6 := by omega
      subst this
      go_wp2
      go_ret
      exact ⟨by rw [cells_all (xs := xs) (by rw [hx]; exact hall)]; rfl, hbl⟩
theorem specCellsOk_any (w : World) (a : Option Addr) (n cap : Nat) (xs : List C2) (hn : n ≤ maxLen) (hs : SlC w w.heap.size a n xs) :
    Calls Tryz.prog 51 #[.slice a n cap] w fun e w' => e = .returned (.bool (cellsB xs)) ∧ Below w.heap.size w w' := by
  obtain ⟨hx, hs⟩ := hs
  unfold cellsB
  rw [hx]
  unfold maxLen at hn
  by_cases h6 : n = 6
  · subst h6
    rcases hs with hs | ⟨b, off, rfl, hb, h1⟩
    · omega
    · exact specCellsOk_six w b off cap xs hx h1 hb
  · have q : ((n : Int) == 6) = false := by simp; omega
    go_enter Tryz.func51, Tryz.ntmps51
    go_wp2
    go_ret
    exact ⟨ret_bool (by simp [h6]), Below.refl _ _⟩
end Go.Proofs.YtbkcmbbeknljiaaGreat
