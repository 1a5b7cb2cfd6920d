/- Cmp; BinN: joined. -/
import Derived.Test.YtbkcmbbeknljiaaGreatRows
import Derived.WalkKit
import Derived.WalkSpells
import Derived.WalkLawsBesides
import Derived.Below
import Derived.Test.YtbkcmbbeknljiaaGreatMacOkIJ
import Derived.Lib.QuietBelow
import Derived.BigQuiet
import Derived.Deep.CutRange
/- cmp.Compare of int64. -/
namespace Go.Proofs.YtbkcmbbeknljiaaGreat
open Go.RowKit
theorem nan_any (w : World) (x : Int) : Calls Tryz.prog 157 #[.int .i64 x] w fun e w' => e = .returned (.bool false) ∧ w' = w := by
  have h : (x != x) = false := by simp
  go_enter Tryz.func157, Tryz.ntmps157
  go_wp2
  go_ret
  exact ⟨rfl, rfl⟩
def cmpI (x y : Int) : Int := if x < y then -1 else if y < x then 1 else 0
theorem compare_any (w : World) (x y : Int) : Calls Tryz.prog 114 #[.int .i64 x, .int .i64 y] w fun e w' => e = .returned (.int .i64 (cmpI x y)) ∧ w' = w := by
  by_cases h1 : x < y
  · have e : cmpI x y = -1 := if_pos h1
    rw [e]
    go_enter Tryz.func114, Tryz.ntmps114
    go_wp2_with (go_at_call 157; refine (nan_any _ _).mono ?_; rintro e w' ⟨rfl, rfl⟩)
    go_ret
    exact ⟨rfl, rfl⟩
  · have d1 : decide (x < y) = false := by simp; omega
    by_cases h2 : y < x
    · have e : cmpI x y = 1 := by rw [cmpI, if_neg h1, if_pos h2]
      have d2 : decide (y < x) = true := by simp [h2]
      rw [e]
      clear h1
      go_enter Tryz.func114, Tryz.ntmps114
      go_wp2_with (go_at_call 157; refine (nan_any _ _).mono ?_; rintro e w' ⟨rfl, rfl⟩)
      go_ret
      exact ⟨rfl, rfl⟩
    · have e : cmpI x y = 0 := by rw [cmpI, if_neg h1, if_neg h2]
      have d2 : decide (y < x) = false := by simp; omega
      rw [e]
      clear h1 h2
      go_enter Tryz.func114, Tryz.ntmps114
      go_wp2_with (go_at_call 157; refine (nan_any _ _).mono ?_; rintro e w' ⟨rfl, rfl⟩)
      go_ret
      exact ⟨rfl, rfl⟩
end Go.Proofs.YtbkcmbbeknljiaaGreat
/- slices.BinarySearch of int64; whether a number is in a row. -/
namespace Go.Proofs.YtbkcmbbeknljiaaGreat
open Go.RowKit
open Go.Sort (grow)
theorem nanS_any (w : World) (x : Int) : Calls Tryz.prog 166 #[.int .i64 x] w fun e w' => e = .returned (.bool false) ∧ w' = w := by
  have h : (x != x) = false := by simp
  go_enter Tryz.func166, Tryz.ntmps166
  go_wp2
  go_ret
  exact ⟨rfl, rfl⟩
set_option maxHeartbeats 1000000 in
theorem less_any (w : World) (x y : Int) : Calls Tryz.prog 165 #[.int .i64 x, .int .i64 y] w fun e w' => e = .returned (.bool (decide (x < y))) ∧ w' = w := by
  go_enter Tryz.func165, Tryz.ntmps165
  go_wp2_with (go_at_call 157; refine (nan_any _ _).mono ?_; rintro e w' ⟨rfl, rfl⟩)
  go_ret
  exact ⟨rfl, rfl⟩
/-- Numbers that rise. -/
def UpN (zs : List Int) : Prop := ∀ i j, i < j → j < zs.length → atN zs i < atN zs j
theorem UpN.of_all {zs : List Int} (h : (List.range zs.length).all (upN zs) = true) : UpN zs := by
  intro i j hij hj
  induction j with
  | zero => omega
  | succ j ih =>
    have h2 := List.all_eq_true.1 h (j + 1) (List.mem_range.2 hj)
    simp [upN] at h2
    by_cases e : i = j
    · rw [e]; exact h2
    · have := ih (by omega) (by omega); omega
/-- Where y is, or would have to be put. -/
structure PosN (zs : List Int) (y : Int) (i : Nat) : Prop where
  le : i ≤ zs.length
  lo : ∀ t, t < i → atN zs t < y
  hi : ∀ t, i ≤ t → t < zs.length → y ≤ atN zs t
def foundN (zs : List Int) (y : Int) (i : Nat) : Bool := decide (i < zs.length) && decide (atN zs i = y)
set_option maxRecDepth 100000 in
set_option maxHeartbeats 4000000 in
theorem bsearchN_any (w : World) (a : Option Addr) (n cap : Nat) (zs : List Int) (y : Int) (hn : n ≤ 1000) (hu : UpN zs) (hs : SlN w w.heap.size a n zs) :
    Calls Tryz.prog 135 #[.slice a n cap, .int .i64 y] w fun e w' => ∃ i : Nat, e = .returned (.tuple #[.int .i64 i, .bool (foundN zs y i)]) ∧ PosN zs y i ∧ w' = w := by
  obtain ⟨hx, hs⟩ := hs
  have HU : Hid (UpN zs ∧ zs.length = n) := ⟨hu, hx⟩
  clear hu hx
  go_enter Tryz.func135, Tryz.ntmps135
  go_wp2
  go_loop [7, 8] (fun v7 v8 => ∃ i j : Nat, i ≤ j ∧ j ≤ n ∧ v7 = .int .i64 i ∧ v8 = .int .i64 j ∧ (∀ t, t < i → atN zs t < y) ∧ (∀ t, j ≤ t → t < n → y ≤ atN zs t)) (fun v7 v8 => (intOf v8).toNat - (intOf v7).toNat)
  case atStart => exact ⟨0, n, Nat.zero_le _, Nat.le_refl _, rfl, rfl, fun t h => by omega, fun t h1 h2 => by omega⟩
  case round =>
    obtain ⟨i, j, hij, hjn, rfl, rfl, hlo, hhi⟩ := hrel
    by_cases hlt : i < j
    · rcases hs with hs | ⟨b, off, rfl, hb, h1⟩
      · omega
      have hd : (i + j) / 2 < n := by omega
      have k0 := h1 ((i + j) / 2) _ (atN_of (by rw [HU.out.2]; exact hd))
      have K : Hid ((∀ t, t < i → atN zs t < y) ∧ (∀ t, j ≤ t → t < n → y ≤ atN zs t)) := ⟨hlo, hhi⟩
      clear h1 hlo hhi
      have HI : Hid (∀ t, t ≤ (i + j) / 2 → atN zs t ≤ atN zs ((i + j) / 2)) := fun t ht => by
        by_cases e : t = (i + j) / 2
        · rw [e]; exact Int.le_refl _
        · exact Int.le_of_lt (HU.out.1 t _ (by omega) (by rw [HU.out.2]; exact hd))
      have HJ : Hid (∀ t, (i + j) / 2 ≤ t → t < n → atN zs ((i + j) / 2) ≤ atN zs t) := fun t ht htn => by
        by_cases e : t = (i + j) / 2
        · rw [e]; exact Int.le_refl _
        · exact Int.le_of_lt (HU.out.1 _ t (by omega) (by rw [HU.out.2]; exact htn))
      have hc := less_any w (atN zs ((i + j) / 2)) y
      generalize atN zs ((i + j) / 2) = x at *
      by_cases hq : x < y
      · have dq : decide (x < y) = true := by simp [hq]
        rw [dq] at hc
        have HQ := hidOf hq
        clear hq dq
        go_wp2_with fail
        refine hc.mono ?_
        clear hc
        rintro e w1 ⟨rfl, rfl⟩
        go_wp2
        exact ⟨⟨(i + j) / 2 + 1, j, by omega, hjn, by simp, rfl, fun t ht => by have := HI.out t (by omega); have := HQ.out; omega, K.out.2⟩, by simp [intOf]; omega⟩
      · have dq : decide (x < y) = false := by simp; omega
        rw [dq] at hc
        have HQ := hidOf hq
        clear hq dq
        go_wp2_with fail
        refine hc.mono ?_
        clear hc
        rintro e w1 ⟨rfl, rfl⟩
        go_wp2
        exact ⟨⟨i, (i + j) / 2, by omega, by omega, rfl, by simp, K.out.1, fun t ht htn => by have := HJ.out t ht htn; have := HQ.out; omega⟩, by simp [intOf]; omega⟩
    · obtain rfl : i = j := by omega
      have hd : decide ((i : Int) < (i : Int)) = false := by simp
      have HP : Hid (PosN zs y i) := ⟨by rw [HU.out.2]; exact hjn, hlo, fun t h1 h2 => hhi t h1 (by rw [← HU.out.2]; exact h2)⟩
      clear hlo hhi
      by_cases hin : i < n
      · rcases hs with hs | ⟨b, off, rfl, hb, h1⟩
        · omega
        have k0 := h1 i _ (atN_of (by rw [HU.out.2]; exact hin))
        have jn : (i : Int) < (n : Int) := by omega
        have HF : Hid (foundN zs y i = decide (atN zs i = y)) := by unfold Hid; simp [foundN, HU.out.2, hin]
        clear h1
        generalize atN zs i = x at *
        by_cases he : x = y
        · have hf : Hid (foundN zs y i = true) := by unfold Hid; rw [HF.out]; simp [he]
          subst he
          have q : (x == x) = true := by simp
          go_wp2_with (go_at_call 166; refine (nanS_any _ _).mono ?_; rintro e w' ⟨rfl, rfl⟩)
          exact bodyPost_ret (v := .tuple #[.int .i64 i, .bool true]) (by simp [results, Tryz.results135, go_sem]) rfl ⟨i, by rw [hf.out], HP.out, rfl⟩
        · have hf : Hid (foundN zs y i = false) := by unfold Hid; rw [HF.out]; simp [he]
          have q : (x == y) = false := by simp [he]
          clear he
          go_wp2_with (go_at_call 166; refine (nanS_any _ _).mono ?_; rintro e w' ⟨rfl, rfl⟩)
          exact bodyPost_ret (v := .tuple #[.int .i64 i, .bool false]) (by simp [results, Tryz.results135, go_sem]) rfl ⟨i, by rw [hf.out], HP.out, rfl⟩
      · have hdn : decide ((i : Int) < (n : Int)) = false := by simp; omega
        have HF : Hid (foundN zs y i = false) := by unfold Hid; simp [foundN, HU.out.2, hin]
        clear hs
        go_wp2
        exact bodyPost_ret (v := .tuple #[.int .i64 i, .bool false]) (by simp [results, Tryz.results135, go_sem]) rfl ⟨i, by rw [HF.out], HP.out, rfl⟩
/-- Whether n is in the row. -/
def hasN (zs : List Int) (y : Int) : Bool := zs.any fun z => decide (z = y)
theorem hasN_off {zs : List Int} {y : Int} (h : ∀ t, t < zs.length → atN zs t ≠ y) : hasN zs y = false := by
  unfold hasN
  rw [List.any_eq_false]
  intro z hz
  obtain ⟨i, hi, rfl⟩ := List.getElem_of_mem hz
  have := h i hi
  simpa [atN, List.getElem?_eq_getElem hi] using this
theorem hasN_on {zs : List Int} {y : Int} {t : Nat} (ht : t < zs.length) (h : atN zs t = y) : hasN zs y = true := by
  unfold hasN
  rw [List.any_eq_true]
  exact ⟨zs[t], List.getElem_mem ht, by simpa [atN, List.getElem?_eq_getElem ht] using h⟩
theorem hasN_found {zs : List Int} {y : Int} {i : Nat} (hu : UpN zs) (hp : PosN zs y i) : foundN zs y i = hasN zs y := by
  by_cases hf : i < zs.length ∧ atN zs i = y
  · rw [hasN_on hf.1 hf.2]; simp [foundN, hf.1, hf.2]
  · rw [hasN_off (fun t ht e => ?_)]
    · simp only [foundN, Bool.and_eq_false_iff, decide_eq_false_iff_not]
      by_cases h1 : i < zs.length
      · exact .inr (fun h2 => hf ⟨h1, h2⟩)
      · exact .inl h1
    · by_cases h1 : t < i
      · have := hp.lo t h1; omega
      · by_cases h2 : t = i
        · subst h2; exact hf ⟨ht, e⟩
        · have h3 := hp.hi i (Nat.le_refl _) (by omega)
          have h4 := hu i t (by omega) ht
          omega
set_option maxHeartbeats 1000000 in
theorem l3Has_any (w : World) (a : Option Addr) (n cap : Nat) (zs : List Int) (y : Int) (hn : n ≤ maxLen) (hs : SlN w w.heap.size a n zs) :
    Calls Tryz.prog 73 #[.slice a n cap, .int .i64 y] w fun e w' => e = .returned (.bool (hasN zs y)) ∧ w' = w := by
  unfold maxLen at hn
  obtain ⟨hx, hs⟩ := hs
  have HX : Hid (zs.length = n) := hx
  clear hx
  go_enter Tryz.func73, Tryz.ntmps73
  go_wp2
  go_loop [5] (fun v => ∃ j : Nat, j ≤ n ∧ v = .int .i64 j ∧ ∀ t, t < j → atN zs t ≠ y) (fun v => n - (intOf v).toNat)
  case atStart => exact ⟨0, Nat.zero_le _, rfl, fun t h => absurd h (by omega)⟩
  case round =>
    obtain ⟨j, hj, rfl, hlo⟩ := hrel
    have HL := hidOf hlo
    clear hlo
    by_cases hlt : j < n
    · rcases hs with hs | ⟨b, off, rfl, hb, h1⟩
      · omega
      have k0 := h1 j _ (atN_of (by rw [HX.out]; exact hlt))
      have jn : (j : Int) < (n : Int) := by omega
      clear h1
      by_cases he : atN zs j = y
      · have q : (atN zs j == y) = true := by simp [he]
        have HE := hidOf he
        clear he
        go_wp2
        go_ret
        exact ⟨by rw [hasN_on (by rw [HX.out]; exact hlt) HE.out]; rfl, rfl⟩
      · have q : (atN zs j == y) = false := by simp [he]
        have HE := hidOf he
        clear he
        go_wp2
        exact ⟨⟨j + 1, by omega, by simp, fun t ht => by
          by_cases e : t = j
          · rw [e]; exact HE.out
          · exact HL.out t (by omega)⟩, by simp [intOf]; omega⟩
    · obtain rfl : j = n := by omega
      have hd : decide ((j : Int) < (j : Int)) = false := by simp
      go_wp2
      go_ret
      exact ⟨by rw [hasN_off (fun t ht => HL.out t (by rw [← HX.out]; exact ht))]; rfl, rfl⟩
end Go.Proofs.YtbkcmbbeknljiaaGreat
