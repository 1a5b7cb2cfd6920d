/- What is true of the machine that Clear answers, and of the one that Turn answers: lists alone. -/
import Derived.Test.YtbkcmbbeknljiaaGreatRows
import Derived.Test.YtbkcmbbeknljiaaGreatJ30LawCleared
import Derived.Test.YtbkcmbbeknljiaaGreatLogIJ
import Derived.Test.YtbkcmbbeknljiaaGreatTurnAJ
import Derived.Test.YtbkcmbbeknljiaaGreatTakeJ
namespace Go.Proofs.YtbkcmbbeknljiaaGreat
open Go.RowKit
theorem posZ_le (zs : List Int) (y : Int) : posZ zs y ≤ zs.length := List.findIdx_le_length
theorem posZ_lo {zs : List Int} {y : Int} {j : Nat} (h : j < posZ zs y) : atN zs j < y := by
  have hl : j < zs.length := Nat.lt_of_lt_of_le h (posZ_le zs y)
  have := List.not_of_lt_findIdx (xs := zs) (p := fun z => !decide (z < y)) h
  rw [atN_get hl]
  simpa using this
theorem posZ_hi {zs : List Int} {y : Int} (h : posZ zs y < zs.length) : ¬ atN zs (posZ zs y) < y := by
  have := List.findIdx_getElem (xs := zs) (p := fun z => !decide (z < y)) (w := h)
  rw [atN_get h]
  unfold posZ
  simpa using this
theorem insZ_lo {zs : List Int} {i j : Nat} {y : Int} (hi : i ≤ zs.length) (h : j < i) : atN (insZ zs i y) j = atN zs j := by
  have htl : (zs.take i).length = i := by simp; omega
  simp only [atN, insZ]
  rw [List.getElem?_append_left (by omega), List.getElem?_take_of_lt h]
theorem insZ_mid {zs : List Int} {i : Nat} {y : Int} (hi : i ≤ zs.length) : atN (insZ zs i y) i = y := by
  have htl : (zs.take i).length = i := by simp; omega
  simp only [atN, insZ]
  rw [List.getElem?_append_right (by omega), htl, Nat.sub_self]
  rfl
theorem insZ_hi {zs : List Int} {i j : Nat} {y : Int} (hi : i ≤ zs.length) (h : i < j) : atN (insZ zs i y) j = atN zs (j - 1) := by
  have htl : (zs.take i).length = i := by simp; omega
  simp only [atN, insZ]
  rw [List.getElem?_append_right (by omega), htl, show j - i = (j - i - 1) + 1 by omega, List.getElem?_cons_succ, List.getElem?_drop, show i + (j - i - 1) = j - 1 by omega]
theorem ids_at {zs : List Int} (h : idsB zs = true) {i : Nat} (hi : i < zs.length) : (1 ≤ atN zs i ∧ atN zs i ≤ 1000000) ∧ (i = 0 ∨ atN zs (i - 1) < atN zs i) := by
  have := List.all_eq_true.1 h i (List.mem_range.2 hi)
  simp only [idAt, Bool.and_eq_true, Bool.or_eq_true, decide_eq_true_eq, inB_iff] at this
  exact this
theorem put_ids {zs : List Int} {y : Int} (h : idsB zs = true) (hy : inB 1 1000000 y = true) : idsB (putZ zs y) = true := by
  unfold putZ
  split
  · exact h
  · next hh =>
    have hi := posZ_le zs y
    have hlo := fun j => posZ_lo (zs := zs) (y := y) (j := j)
    have hhi := posZ_hi (zs := zs) (y := y)
    generalize posZ zs y = i at *
    refine List.all_eq_true.2 fun j hj => ?_
    rw [List.mem_range, insZ_len hi] at hj
    rw [inB_iff] at hy
    simp only [idAt, Bool.and_eq_true, Bool.or_eq_true, decide_eq_true_eq, inB_iff]
    by_cases h1 : j < i
    · rw [insZ_lo hi h1]
      obtain ⟨a, b⟩ := ids_at h (i := j) (by omega)
      refine ⟨a, ?_⟩
      rcases b with b | b
      · exact .inl b
      · exact .inr (by rw [insZ_lo hi (by omega)]; exact b)
    · by_cases h2 : j = i
      · subst h2
        rw [insZ_mid hi]
        refine ⟨hy, ?_⟩
        by_cases h0 : j = 0
        · exact .inl h0
        · exact .inr (by rw [insZ_lo hi (by omega)]; exact hlo _ (by omega))
      · rw [insZ_hi hi (by omega)]
        obtain ⟨a, b⟩ := ids_at h (i := j - 1) (by omega)
        refine ⟨a, .inr ?_⟩
        by_cases h3 : j - 1 = i
        · rw [h3, insZ_mid hi]
          have hx := hhi (by omega)
          have hne : atN zs i ≠ y := fun e => hh (by
            rw [hasN, List.any_eq_true]
            exact ⟨atN zs i, List.mem_of_getElem? (atN_of (by omega)), by simp [e]⟩)
          omega
        · rw [insZ_hi hi (by omega)]
          rcases b with b | b
          · omega
          · exact b
theorem put_has {zs : List Int} {y : Int} : hasN (putZ zs y) y = true := by
  unfold putZ
  split
  · next hh => exact hh
  · rw [hasN, List.any_eq_true]
    exact ⟨y, by simp [insZ], by simp⟩
theorem put_len {zs : List Int} {y : Int} (h : zs.length ≤ 60) (h' : hasN zs y = true ∨ zs.length ≠ 60) : (putZ zs y).length ≤ 60 := by
  unfold putZ
  split
  · exact h
  · next hh =>
    rw [insZ_len (posZ_le zs y)]
    rcases h' with h' | h'
    · exact absurd h' hh
    · omega
theorem hasN_take {zs : List Int} {z : Int} {k : Nat} (h : k < zs.length) : hasN (zs.take (k + 1)) z = (hasN (zs.take k) z || (atN zs k == z)) := by
  rw [List.take_add_one, atN_of h, hasN, hasN, List.any_append]
  simp
  rfl
theorem log_all {rs : List R4} : (List.range rs.length).all (logB rs) = rs.all (fun r => recB r.kind r.tx r.region r.sets) := by
  rw [Bool.eq_iff_iff, List.all_eq_true, List.all_eq_true]
  constructor
  · intro h r hr
    obtain ⟨i, hi, rfl⟩ := List.getElem_of_mem hr
    have := h i (List.mem_range.2 hi)
    simpa [logB, atR, List.getElem?_eq_getElem hi] using this
  · intro h i hi
    have hi := List.mem_range.1 hi
    exact h (atR rs i) (List.mem_of_getElem? (atR_of hi))
theorem clear_parts {m : M4} {t : Int} {d : Bool} (h : clearB m t d = true) : machB m = true ∧ inB 1 1000000 t = true ∧ (d = false ∨ hasN m.cleared t = true ∨ m.cleared.length ≠ 60) := by
  simp only [clearB, Bool.and_eq_true, Bool.or_eq_true, Bool.not_eq_true', decide_eq_false_iff_not] at h
  exact ⟨h.1.1, h.1.2, by
    rcases h.2 with (h | h) | h
    · exact .inl h
    · exact .inr (.inl h)
    · exact .inr (.inr h)⟩
theorem clear_mach {m : M4} {t g : Int} {d : Bool} (h : clearB m t d = true) : machB (clearM m t g d) = true := by
  obtain ⟨hm, ht, hd⟩ := clear_parts h
  rw [clearM, if_pos h]
  simp only [machB, Bool.and_eq_true, decide_eq_true_eq] at hm ⊢
  obtain ⟨⟨⟨⟨⟨h1, h2⟩, h3⟩, h4⟩, h5⟩, h6⟩ := hm
  refine ⟨⟨⟨⟨⟨h1, Nat.le_trans (List.length_filter_le _ _) h2⟩, ?_⟩, ?_⟩, h5⟩, ?_⟩
  · unfold clearD
    split
    · next e =>
      refine put_len h3 ?_
      rcases hd with hd | hd
      · rw [e] at hd; cases hd
      · exact hd
    · exact h3
  · unfold clearD
    split
    · exact put_ids h4 ht
    · exact h4
  · rw [log_all, List.all_eq_true] at h6 ⊢
    exact fun r hr => h6 r (List.mem_filter.1 hr).1
theorem clear_ml {m : M4} {t g : Int} {d : Bool} (hl : ML m) : ML (clearM m t g d) := by
  unfold clearM
  split
  · next h =>
    have h3 := (MSm.of_mach (clear_mach (g := g) h)).n
    rw [clearM, if_pos h] at h3
    exact ⟨hl.k, hl.ks, Nat.le_trans (List.length_filter_le _ _) hl.r, fun c hc => hl.rs c (List.mem_filter.1 hc).1, by unfold maxLen; simp only at h3 ⊢; omega⟩
  · exact ⟨by simp, by simp, by simp, by simp, by simp⟩
theorem clear_none {m : M4} {t g : Int} {d : Bool} (h : clearB m t d = true) {k : Nat} (hk : k < (clearM m t g d).log.length) : ofB t g (atR (clearM m t g d).log k) = false := by
  have := List.mem_of_getElem? (atR_of hk)
  generalize atR (clearM m t g d).log k = r at *
  rw [clearM, if_pos h] at this
  simpa using (List.mem_filter.1 this).2
theorem clear_has {m : M4} {t g : Int} {d : Bool} (h : clearB m t d = true) (hd : d = true) : hasN (clearM m t g d).cleared t = true := by
  rw [clearM, if_pos h]
  simp only [clearD, if_pos hd]
  exact put_has
theorem clear_not {m : M4} {t g : Int} {d : Bool} (h : clearB m t d = false) : clearM m t g d = ⟨false, [], [], []⟩ := by rw [clearM, if_neg (by rw [h]; simp)]
theorem turn_none (m : M4) (t g : Int) : ansH (ansT m t g) t g 1 = false := by
  unfold ansH ansR
  split
  · have : (ansT m t g).log.find? (lgB t g 1) = none := by
      rw [List.find?_eq_none]
      intro r hr
      unfold ansT at hr
      split at hr
      · simp only [tM] at hr
        obtain ⟨r0, _, rfl⟩ := List.mem_map.1 hr
        unfold trR
        split
        · simp [lgB]
        · next h => exact h
      · cases hr
    rw [this]; rfl
  · rfl
theorem turn_ml {m : M4} {t g : Int} (hl : ML m) : ML (ansT m t g) := by
  unfold ansT
  split
  · refine ⟨hl.k, hl.ks, by simpa [tM] using hl.r, fun c hc => ?_, hl.n⟩
    simp only [tM] at hc
    obtain ⟨r0, h0, rfl⟩ := List.mem_map.1 hc
    have := hl.rs r0 h0
    unfold trR
    split
    · exact this
    · exact this
  · exact ⟨by simp, by simp, by simp, by simp, by simp⟩
end Go.Proofs.YtbkcmbbeknljiaaGreat
