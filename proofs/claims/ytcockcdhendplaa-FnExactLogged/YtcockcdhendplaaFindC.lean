/- The program's search for a copy: cmp.Compare, slices.BinarySearchFunc over copies that rise, findCopy. -/
import Derived.Test.YtcockcdhendplaaRows
import Derived.Test.YtcockcdhendplaaOwnI
import Derived.Test.YtcockcdhendplaaMacOkI
import Derived.WalkKit
import Derived.WalkSpells
import Derived.WalkLawsBesides
import Derived.Below
namespace Go.Proofs.Ytcockcdhendplaa
open Go.RowKit
theorem nan_any (w : World) (x : Int) : Calls Try.prog 100 #[.int .i64 x] w fun e w' => e = .returned (.bool false) ∧ w' = w := by
  have h : (x != x) = false := by simp
  go_enter Try.func100, Try.ntmps100
  go_wp2
  go_ret
  exact ⟨rfl, rfl⟩
def cmpI (x y : Int) : Int := if x < y then -1 else if y < x then 1 else 0
theorem compare_any (w : World) (x y : Int) : Calls Try.prog 79 #[.int .i64 x, .int .i64 y] w fun e w' => e = .returned (.int .i64 (cmpI x y)) ∧ w' = w := by
  by_cases h1 : x < y
  · have e : cmpI x y = -1 := if_pos h1
    rw [e]
    go_enter Try.func79, Try.ntmps79
    go_wp2_with (go_at_call 100; refine (nan_any _ _).mono ?_; rintro e w' ⟨rfl, rfl⟩)
    go_ret
    exact ⟨rfl, rfl⟩
  · have d1 : decide (x < y) = false := by simp; omega
    by_cases h2 : y < x
    · have e : cmpI x y = 1 := by rw [cmpI, if_neg h1, if_pos h2]
      have d2 : decide (y < x) = true := by simp [h2]
      rw [e]
      clear h1
      go_enter Try.func79, Try.ntmps79
      go_wp2_with (go_at_call 100; refine (nan_any _ _).mono ?_; rintro e w' ⟨rfl, rfl⟩)
      go_ret
      exact ⟨rfl, rfl⟩
    · have e : cmpI x y = 0 := by rw [cmpI, if_neg h1, if_neg h2]
      have d2 : decide (y < x) = false := by simp; omega
      rw [e]
      clear h1 h2
      go_enter Try.func79, Try.ntmps79
      go_wp2_with (go_at_call 100; refine (nan_any _ _).mono ?_; rintro e w' ⟨rfl, rfl⟩)
      go_ret
      exact ⟨rfl, rfl⟩
theorem byRegion_any (w : World) (k : K2) (a : Option Addr) (cap : Nat) (y : Int) : Calls Try.prog 78 #[k.val a cap, .int .i64 y] w fun e w' => e = .returned (.int .i64 (cmpI k.region y)) ∧ Below w.heap.size w w' := by
  simp only [K2.val]
  have b0 : Below w.heap.size w (w.alloc (.cells #[.int .i64 k.region, .slice a k.cells.length cap] 57)) := (Below.refl _ _).alloc (Nat.le_refl _) _
  generalize k.cells.length = n at *
  go_enter Try.func78, Try.ntmps78
  go_wp2_with (go_at_call 79; refine (compare_any _ _ _).mono ?_; rintro e w' ⟨rfl, rfl⟩)
  go_ret
  exact ⟨rfl, b0⟩
/-- Copies whose regions rise. -/
def UpR (ks : List K2) : Prop := ∀ i j, i < j → j < ks.length → (atK ks i).region < (atK ks j).region
theorem UpR.of_all {ks : List K2} (h : (List.range ks.length).all (upK ks) = true) : UpR ks := by
  intro i j hij hj
  induction j with
  | zero => omega
  | succ j ih =>
    have h2 := List.all_eq_true.1 h (j + 1) (List.mem_range.2 hj)
    simp [upK] at h2
    by_cases e : i = j
    · rw [e]; exact h2
    · have := ih (by omega) (by omega); omega
/-- Where region y is, or would have to be put. -/
structure PosK (ks : List K2) (y : Int) (i : Nat) : Prop where
  le : i ≤ ks.length
  lo : ∀ t, t < i → (atK ks t).region < y
  hi : ∀ t, i ≤ t → t < ks.length → y ≤ (atK ks t).region
def foundK (ks : List K2) (y : Int) (i : Nat) : Bool := decide (i < ks.length) && decide ((atK ks i).region = y)
set_option maxHeartbeats 4000000 in
theorem bsearch_any (w : World) (a : Option Addr) (n cap : Nat) (ks : List K2) (y : Int) (hn : n ≤ 1000) (hu : UpR ks) (hs : SlK w w.heap.size a n ks) :
    Calls Try.prog 80 #[.slice a n cap, .int .i64 y, .func (.func 78) #[] #[]] w fun e w' => ∃ i : Nat, e = .returned (.tuple #[.int .i64 i, .bool (foundK ks y i)]) ∧ PosK ks y i ∧ Below w.heap.size w w' := by
  obtain ⟨hx, hs⟩ := hs
  have HU : Hid (UpR ks ∧ ks.length = n) := ⟨hu, hx⟩
  clear hu hx
  go_enter Try.func80, Try.ntmps80
  go_wp2
  go_loopw [9, 10] (fun v9 v10 wr => ∃ i j : Nat, i ≤ j ∧ j ≤ n ∧ v9 = .int .i64 i ∧ v10 = .int .i64 j ∧ Below w.heap.size w wr ∧ (∀ t, t < i → (atK ks t).region < y) ∧ (∀ t, j ≤ t → t < n → y ≤ (atK ks t).region)) (fun v9 v10 _ => (intOf v10).toNat - (intOf v9).toNat)
  case atStart => exact ⟨0, n, Nat.zero_le _, Nat.le_refl _, rfl, rfl, Below.refl _ _, fun t h => by omega, fun t h1 h2 => by omega⟩
  case round =>
    obtain ⟨i, j, hij, hjn, rfl, rfl, hbl, hlo, hhi⟩ := hrel
    by_cases hlt : i < j
    · rcases hs with hs | ⟨b, off, rfl, hb, h1⟩
      · omega
      have hd : (i + j) / 2 < n := by omega
      have hr := (h1 ((i + j) / 2) _ (atK_of (by rw [HU.out.2]; exact hd))).below hbl hb
      have k0 := hr.c0
      obtain ⟨a1, p1, k1, _, _⟩ := hr.c1
      have K : Hid (Below w.heap.size w wr ∧ (∀ t, t < i → (atK ks t).region < y) ∧ (∀ t, j ≤ t → t < n → y ≤ (atK ks t).region)) := ⟨hbl, hlo, hhi⟩
      have hc := byRegion_any wr (atK ks ((i + j) / 2)) a1 p1 y
      simp only [K2.val] at hc
      clear h1 hr hbl hlo hhi
      have HI : Hid (∀ t, t ≤ (i + j) / 2 → (atK ks t).region ≤ (atK ks ((i + j) / 2)).region) := fun t ht => by
        by_cases e : t = (i + j) / 2
        · rw [e]; exact Int.le_refl _
        · exact Int.le_of_lt (HU.out.1 t _ (by omega) (by rw [HU.out.2]; exact hd))
      have HJ : Hid (∀ t, (i + j) / 2 ≤ t → t < n → (atK ks ((i + j) / 2)).region ≤ (atK ks t).region) := fun t ht htn => by
        by_cases e : t = (i + j) / 2
        · rw [e]; exact Int.le_refl _
        · exact Int.le_of_lt (HU.out.1 _ t (by omega) (by rw [HU.out.2]; exact htn))
      generalize (atK ks ((i + j) / 2)).region = x at *
      generalize (atK ks ((i + j) / 2)).cells.length = lx at *
      by_cases hq : x < y
      · rw [show cmpI x y = -1 from if_pos hq] at hc
        have HQ := hidOf hq
        clear hq
        go_wp2_with fail
        refine hc.mono ?_
        clear hc
        rintro e w1 ⟨rfl, b1⟩
        go_wp2
        exact ⟨⟨(i + j) / 2 + 1, j, by omega, hjn, by simp, rfl, K.out.1.trans (b1.mono K.out.1.size), fun t ht => by have := HI.out t (by omega); have := HQ.out; omega, K.out.2.2⟩, by simp [intOf]; omega⟩
      · have hc0 : decide (cmpI x y < 0) = false := by
          rw [cmpI, if_neg hq]
          by_cases h2 : y < x
          · rw [if_pos h2]; rfl
          · rw [if_neg h2]; rfl
        have HQ := hidOf hq
        clear hq
        generalize cmpI x y = cv at *
        go_wp2_with fail
        refine hc.mono ?_
        clear hc
        rintro e w1 ⟨rfl, b1⟩
        go_wp2
        exact ⟨⟨i, (i + j) / 2, by omega, by omega, rfl, by simp, K.out.1.trans (b1.mono K.out.1.size), K.out.2.1, fun t ht htn => by have := HJ.out t ht htn; have := HQ.out; omega⟩, by simp [intOf]; omega⟩
    · obtain rfl : i = j := by omega
      have hd : decide ((i : Int) < (i : Int)) = false := by simp
      have HP : Hid (PosK ks y i) := ⟨by rw [HU.out.2]; exact hjn, hlo, fun t h1 h2 => hhi t h1 (by rw [← HU.out.2]; exact h2)⟩
      clear hlo hhi
      by_cases hin : i < n
      · rcases hs with hs | ⟨b, off, rfl, hb, h1⟩
        · omega
        have hr := (h1 i _ (atK_of (by rw [HU.out.2]; exact hin))).below hbl hb
        have k0 := hr.c0
        obtain ⟨a1, p1, k1, _, _⟩ := hr.c1
        have hc := byRegion_any wr (atK ks i) a1 p1 y
        simp only [K2.val] at hc
        have HF : Hid (foundK ks y i = decide ((atK ks i).region = y) ∧ Below w.heap.size w wr) := ⟨by simp [foundK, HU.out.2, hin], hbl⟩
        clear h1 hr hbl
        generalize (atK ks i).region = x at *
        generalize (atK ks i).cells.length = lx at *
        have he : (cmpI x y == 0) = decide (x = y) := by
          unfold cmpI
          by_cases h1 : x < y
          · rw [if_pos h1]; simp; omega
          · rw [if_neg h1]
            by_cases h2 : y < x
            · rw [if_pos h2]; simp; omega
            · rw [if_neg h2]; simp; omega
        generalize cmpI x y = cv at *
        go_wp2_with fail
        refine hc.mono ?_
        clear hc
        rintro e w1 ⟨rfl, b1⟩
        have HE := hidOf he
        clear he
        go_wp2
        refine bodyPost_ret (v := .tuple #[.int .i64 i, .bool (cv == 0)]) (by simp [results, Try.results80, go_sem]) rfl ⟨i, by rw [HF.out.1, ← HE.out], HP.out, HF.out.2.trans (b1.mono HF.out.2.size)⟩
      · have hdn : decide ((i : Int) < (n : Int)) = false := by simp; omega
        have HF : Hid (foundK ks y i = false) := by unfold Hid; simp [foundK, HU.out.2, hin]
        clear hs
        go_wp2
        refine bodyPost_ret (v := .tuple #[.int .i64 i, .bool false]) (by simp [results, Try.results80, go_sem]) rfl ⟨i, by rw [HF.out], HP.out, hbl⟩
set_option maxHeartbeats 1000000 in
theorem findCopy_any (w : World) (s : Nat) (a : Option Addr) (cap : Nat) (ks : List K2) (y : Int) (hn : ks.length ≤ 1000) (hu : UpR ks) (hs : SlK w w.heap.size a ks.length ks) (hc : w.cell? ⟨s, 2, none⟩ = some (.slice a ks.length cap)) :
    Calls Try.prog 41 #[.pointer (some ⟨s, 0, none⟩), .int .i64 y] w fun e w' => ∃ i : Nat, e = .returned (.tuple #[.int .i64 i, .bool (foundK ks y i)]) ∧ PosK ks y i ∧ Below w.heap.size w w' := by
  have hb := bsearch_any w a ks.length cap ks y hn hu hs
  clear hs hu
  generalize ks.length = n at *
  go_enter Try.func41, Try.ntmps41
  go_wp2_with fail
  refine hb.mono ?_
  clear hb
  rintro e w1 ⟨i, rfl, hp, b1⟩
  have K := hidOf hp
  clear hp
  go_wp2
  exact bodyPost_ret (v := .tuple #[.int .i64 i, .bool (foundK ks y i)]) (by simp [results, Try.results41, go_sem]) rfl ⟨i, rfl, K.out, b1⟩
end Go.Proofs.Ytcockcdhendplaa
