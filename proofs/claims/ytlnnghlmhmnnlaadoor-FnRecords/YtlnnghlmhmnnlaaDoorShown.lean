/- Of no program: a record's text is read as the record. -/
import Derived.Test.YtlnnghlmhmnnlaaDoorAccept
namespace Go.Proofs.YtlnnghlmhmnnlaaDoor
theorem flat_at (xs : List S5) : ∀ (j i : Nat) (s : S5), i < 4 → xs[j]? = some s → (xs.flatMap setNums)[4 * j + i]? = (setNums s)[i]? := by
  induction xs with
  | nil => intro j i s _ hs; simp at hs
  | cons x xs ih =>
    intro j i s hi hs
    cases j with
    | zero => simp at hs; subst hs; rw [List.flatMap_cons, List.getElem?_append_left (by simp [setNums]; omega)]; simp
    | succ j =>
      have hx : (setNums x).length = 4 := rfl
      rw [List.flatMap_cons, List.getElem?_append_right (by rw [hx]; omega), hx, show 4 * (j + 1) + i - 4 = 4 * j + i by omega]
      exact ih j i s hi (by simpa using hs)
theorem rec_at (k t r : Int) (xs : List S5) (j i : Nat) (s : S5) (hi : i < 4) (hs : xs[j]? = some s) : nthI (recNums k t r xs) (4 + 4 * j + i) = (setNums s)[i]?.getD 0 := by
  rw [nthI, recNums, List.getElem?_append_right (by simp; omega)]
  show ((xs.flatMap setNums)[4 + 4 * j + i - 4]?).getD 0 = _
  rw [show 4 + 4 * j + i - 4 = 4 * j + i by omega, flat_at xs j i s hi hs]
theorem shown_back {k t r : Int} {xs : List S5} (h : recB k t r xs = true) : Acc (recText k t r xs) (recNums k t r xs) xs.length ∧ setsOf (recNums k t r xs) xs.length = xs ∧ nthI (recNums k t r xs) 0 = k ∧ nthI (recNums k t r xs) 1 = t ∧ nthI (recNums k t r xs) 2 = r := by
  have n0 : nthI (recNums k t r xs) 0 = k := by simp [nthI, recNums]
  have n1 : nthI (recNums k t r xs) 1 = t := by simp [nthI, recNums]
  have n2 : nthI (recNums k t r xs) 2 = r := by simp [nthI, recNums]
  have n3 : nthI (recNums k t r xs) 3 = (xs.length : Int) := by simp [nthI, recNums]
  have hsame : sameB r xs = true := by simp only [recB, Bool.and_eq_true] at h; exact h.2
  have hsets : setsOf (recNums k t r xs) xs.length = xs := by
    apply List.ext_getElem?
    intro j
    by_cases hj : j < xs.length
    · have hs : xs[j]? = some xs[j] := List.getElem?_eq_getElem hj
      have hr : xs[j].region = r := by simpa using List.all_eq_true.1 hsame xs[j] (List.getElem_mem hj)
      have e0 := rec_at k t r xs j 0 _ (by omega) hs
      have e1 := rec_at k t r xs j 1 _ (by omega) hs
      have e2 := rec_at k t r xs j 2 _ (by omega) hs
      have e3 := rec_at k t r xs j 3 _ (by omega) hs
      have hg : (setsOf (recNums k t r xs) xs.length)[j]? = some (setNth (recNums k t r xs) j) := by simp [setsOf, hj]
      rw [hg, hs]
      congr 1
      rw [setNth, n2, e1, e2, e3]
      rw [Nat.add_zero] at e0
      rw [e0]
      generalize xs[j] = s at *
      obtain ⟨r', sl, v, u, x⟩ := s
      simp only at hr
      subst hr
      cases u <;> simp [setNums, flagInt]
    · rw [List.getElem?_eq_none (by rw [setsOf_len]; omega), List.getElem?_eq_none (by omega)]
  have hn : numsOf (splitW (recText k t r xs)) = some (recNums k t r xs) := by
    rw [← rec_join]
    exact nums_of_text (by simp [recNums]) (rec_bd h)
  refine ⟨⟨hn, recNums_len k t r xs, n3, ?_, ?_⟩, hsets, n0, n1, n2⟩
  · rw [flagsB, List.all_eq_true]
    intro j hj
    have hj := List.mem_range.1 hj
    have e2 := rec_at k t r xs j 2 _ (by omega) (List.getElem?_eq_getElem hj)
    simp only [flagB, Bool.or_eq_true, beq_iff_eq]
    rw [e2]
    have : flagInt xs[j].used = 0 ∨ flagInt xs[j].used = 1 := by unfold flagInt; split <;> simp
    simpa [setNums] using this
  · rw [n0, n1, n2, hsets]; exact h
theorem text_some (k t r : Int) (xs : List S5) : recText k t r xs ≠ [] := by
  intro e
  have := congrArg List.length e
  simp [recText, headText] at this
theorem rec_short {k t r : Int} {xs : List S5} (h : recB k t r xs = true) : (recText k t r xs).length ≤ 2000 := by
  obtain ⟨hk, ht, hr, hf, l1, l2⟩ := rec_fits h
  have h1 := sets_len hf
  have h2 := itoa_len hk
  have h3 := itoa_len ht
  have h4 := itoa_len hr
  have h5 := itoa_len (n := (xs.length : Int)) (by unfold i64; omega)
  simp only [recText, headText, List.length_append, List.length_cons, List.length_nil]
  omega
end Go.Proofs.YtlnnghlmhmnnlaaDoor
