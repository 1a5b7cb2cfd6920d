import Derived.Test.YteiofebmgilclaaRows
import Derived.Test.YteiofebmgilclaaNumRow
import Derived.Test.YteiofebmgilclaaNumHas
import Derived.WalkKit
import Derived.WalkSpells
import Derived.WalkLawsBesides
import Derived.Below
import Derived.Lib.QuietBelow
import Derived.BigQuiet
import Derived.Deep.CutRange
import Derived.LaidEql
import Derived.RowKitTokens
namespace Go.Proofs.Yteiofebmgilclaa
open Go.RowKit
open Go.Sort (grow)
def decB (zs : List Int) : Bool := hasB zs 4 || (hasB zs 3 && zs.all fun v => decide (2 ≤ v))
theorem all_lo {zs : List Int} {lo : Int} (h : 2 ≤ lo ↔ ∀ t, t < zs.length → 2 ≤ atN zs t) : decide (2 ≤ lo) = zs.all fun v => decide (2 ≤ v) := by
  rw [Bool.eq_iff_iff, decide_eq_true_eq, List.all_eq_true, h]
  constructor
  · intro h' v hv
    obtain ⟨i, hi, rfl⟩ := List.getElem_of_mem hv
    have := h' i hi
    simpa [atN, List.getElem?_eq_getElem hi] using this
  · intro h' t ht
    have := h' _ (List.getElem_mem ht)
    simpa [atN, List.getElem?_eq_getElem ht] using this
theorem l1Min_v (w : World) (x y : Int) : Calls Try.prog 8 #[.int .i64 x, .int .i64 y] w fun e w' => e = .returned (.int .i64 (min x y)) ∧ w' = w := by
  by_cases h : x < y
  · rw [Int.min_eq_left (by omega)]
    go_enter Try.func8, Try.ntmps8
    go_wp2
    go_ret
    exact ⟨rfl, rfl⟩
  · have hd : decide (x < y) = false := by simp [h]
    rw [Int.min_eq_right (by omega)]
    go_enter Try.func8, Try.ntmps8
    go_wp2
    go_ret
    exact ⟨rfl, rfl⟩
theorem l1Max_v (w : World) (x y : Int) : Calls Try.prog 9 #[.int .i64 x, .int .i64 y] w fun e w' => e = .returned (.int .i64 (max x y)) ∧ w' = w := by
  by_cases h : y < x
  · rw [Int.max_eq_left (by omega)]
    go_enter Try.func9, Try.ntmps9
    go_wp2
    go_ret
    exact ⟨rfl, rfl⟩
  · have hd : decide (y < x) = false := by simp [h]
    rw [Int.max_eq_right (by omega)]
    go_enter Try.func9, Try.ntmps9
    go_wp2
    go_ret
    exact ⟨rfl, rfl⟩
theorem has_hi {zs : List Int} {z hi : Int} (h : hasB zs z = true) (hh : ∀ t, t < zs.length → atN zs t ≤ hi) : z ≤ hi := by
  simp only [hasB, List.any_eq_true, decide_eq_true_eq] at h
  obtain ⟨v, hv, rfl⟩ := h
  obtain ⟨i, hi', rfl⟩ := List.getElem_of_mem hv
  have := hh i hi'
  simpa [atN, List.getElem?_eq_getElem hi'] using this
set_option maxHeartbeats 2000000 in
theorem specDecide_any (w : World) (a : Option Addr) (n cap : Nat) (zs : List Int) (hn : n ≤ maxLen) (hs : SlN w w.heap.size a n zs) :
    Calls Try.prog 4 #[.slice a n cap] w fun e w' => e = .returned (.bool (decB zs)) ∧ w' = w := by
  have hh4 := l3Has_any w a n cap 4 zs hn hs
  have hh3 := l3Has_any w a n cap 3 zs hn hs
  unfold maxLen at hn
  obtain ⟨hx, hs⟩ := hs
  have HX : Hid (zs.length = n) := hx
  clear hx
  go_enter Try.func4, Try.ntmps4
  go_wp2
  go_loop [3, 4, 5] (fun v3 v4 v5 => ∃ (j : Nat) (lo hi : Int), j ≤ n ∧ v5 = .int .i64 j ∧ v3 = .int .i64 lo ∧ v4 = .int .i64 hi ∧ (2 ≤ lo ↔ ∀ t, t < j → 2 ≤ atN zs t) ∧ ∀ t, t < j → atN zs t ≤ hi) (fun _ _ v5 => n - (intOf v5).toNat)
  case atStart => exact ⟨0, 4, 0, Nat.zero_le _, rfl, rfl, rfl, ⟨fun _ t h => absurd h (by omega), fun _ => by omega⟩, fun t h => absurd h (by omega)⟩
  case round =>
    obtain ⟨j, lo, hi, hj, rfl, rfl, rfl, h1, h2⟩ := hrel
    have HL : Hid ((2 ≤ lo ↔ ∀ t, t < j → 2 ≤ atN zs t) ∧ ∀ t, t < j → atN zs t ≤ hi) := ⟨h1, h2⟩
    clear h1 h2
    by_cases hlt : j < n
    · rcases hs with hs | ⟨b, off, rfl, hb, h1⟩
      · omega
      have k0 := h1 j _ (atN_of (by rw [HX.out]; exact hlt))
      have jn : (j : Int) < (n : Int) := by omega
      have HE : Hid ((2 ≤ min lo (atN zs j) ↔ ∀ t, t < j + 1 → 2 ≤ atN zs t) ∧ ∀ t, t < j + 1 → atN zs t ≤ max hi (atN zs j)) := ⟨by
        rw [Int.le_min, HL.out.1]
        constructor
        · rintro ⟨q1, q2⟩ t ht
          by_cases e : t = j
          · rw [e]; exact q2
          · exact q1 t (by omega)
        · intro q
          exact ⟨fun t ht => q t (by omega), q j (by omega)⟩, fun t ht => by
        by_cases e : t = j
        · rw [e]; exact Int.le_max_right _ _
        · exact Int.le_trans (HL.out.2 t (by omega)) (Int.le_max_left _ _)⟩
      clear h1 hh4 hh3
      generalize atN zs j = z at *
      go_wp2_with fail
      refine (l1Min_v w lo z).mono ?_
      rintro e w' ⟨rfl, hw'⟩
      subst w'
      go_wp2_with fail
      refine (l1Max_v w hi z).mono ?_
      rintro e w' ⟨rfl, hw'⟩
      subst w'
      go_wp2
      exact ⟨⟨j + 1, _, _, by omega, by simp, rfl, rfl, HE.out.1, HE.out.2⟩, by simp [intOf]; omega⟩
    · obtain rfl : n = j := by omega
      have hd : decide ((n : Int) < (n : Int)) = false := by simp
      have hlo := all_lo (zs := zs) (lo := lo) (by rw [HX.out]; exact HL.out.1)
      go_wp2_with fail
      refine hh4.mono ?_
      rintro e w' ⟨rfl, hw'⟩
      subst w'
      cases h4 : hasB zs 4 with
      | true =>
        have HD : Hid (decB zs = true) := by unfold Hid decB; rw [h4]; rfl
        clear hh3 hh4
        go_wp2
        go_ret
        exact ⟨by rw [HD.out]; rfl, rfl⟩
      | false =>
        clear hh4
        go_wp2_with fail
        refine hh3.mono ?_
        clear hh3
        rintro e w' ⟨rfl, hw'⟩
        subst w'
        cases h3 : hasB zs 3 with
        | false =>
          have HD : Hid (decB zs = false) := by unfold Hid decB; rw [h4, h3]; rfl
          go_wp2
          go_ret
          exact ⟨by rw [HD.out]; rfl, rfl⟩
        | true =>
          have hpos : decide (0 < hi) = true := by
            have := has_hi h3 (by rw [HX.out]; exact HL.out.2)
            simp; omega
          have HD : Hid (decB zs = zs.all fun v => decide (2 ≤ v)) := by unfold Hid decB; rw [h4, h3]; rfl
          cases hall : zs.all fun v => decide (2 ≤ v) with
          | true =>
            rw [hall] at hlo
            have HD2 : Hid (decB zs = true) := by unfold Hid; rw [HD.out, hall]
            go_wp2
            go_ret
            exact ⟨by rw [HD2.out]; rfl, rfl⟩
          | false =>
            rw [hall] at hlo
            have HD2 : Hid (decB zs = false) := by unfold Hid; rw [HD.out, hall]
            go_wp2
            go_ret
            exact ⟨by rw [HD2.out]; rfl, rfl⟩
end Go.Proofs.Yteiofebmgilclaa
