/- AddRead: the row with the new note in it rises. -/
import Derived.Test.YtijphfbcojfjpaaRows
import Derived.Test.YtijphfbcojfjpaaAddS
import Derived.WalkKit
import Derived.WalkSpells
import Derived.WalkLawsBesides
import Derived.Below
import Derived.Lib.QuietBelow
import Derived.BigQuiet
namespace Go.Proofs.Ytijphfbcojfjpaa
open Go.RowKit
open Go.Sort (grow)
theorem rk_inj {r s q t : Int} (h1 : inB 0 5 s = true) (h2 : inB 0 5 t = true) (h : rk r s = rk q t) : r = q ∧ s = t := by
  rw [inB_iff] at h1 h2
  unfold rk at h
  omega
theorem noUp2_hp {xs : List N5} (h : noUp2 xs) : HeapP.Hp (noK xs) xs.length := fun i h0 hn => by
  have e1 : xs[(i - 1) / 2]? = some xs[(i - 1) / 2] := List.getElem?_eq_getElem (by omega)
  have e2 : xs[i]? = some xs[i] := List.getElem?_eq_getElem hn
  rw [noK_R e1, noK_R e2]
  exact Int.le_of_lt (noUp2_at h e1 e2 (by omega))
theorem insN_perm (xs : List N5) (n : N5) : (insN xs n).Perm (xs ++ [n]) := by
  unfold insN
  rw [List.append_assoc]
  refine ((List.Perm.refl _).append (List.perm_append_comm (l₁ := [n]) (l₂ := xs.drop (cutN xs n)))).trans ?_
  rw [← List.append_assoc, List.take_append_drop]
theorem insN_up {xs : List N5} {n : N5} (h : noUp2 xs) (hok : ∀ s ∈ xs, noteOkB s = true) (hn : noteOkB n = true) (hno : noW xs n.region n.slot = none) : (insN xs n).Pairwise (fun a b => noR a < noR b) := by
  have hn' := noOk_in hn
  have hlo : ∀ x ∈ xs.take (cutN xs n), noR x < noR n := fun x hx => by
    obtain ⟨i, hi, rfl⟩ := List.getElem_of_mem hx
    have hi' : i < cutN xs n := by rw [List.length_take] at hi; omega
    have hix : i < xs.length := by rw [List.length_take] at hi; omega
    have := List.not_of_lt_findIdx (p := fun x : N5 => !lessB x.region x.slot n.region n.slot) (xs := xs) hi'
    rw [List.getElem_take]
    have hk := (noOk_in (hok _ (List.getElem_mem hix))).2
    simp only [Bool.not_eq_false'] at this
    rw [less_rk hk hn'.2] at this
    simpa [noR] using this
  have hhi : ∀ x ∈ xs.drop (cutN xs n), noR n < noR x := fun x hx => by
    obtain ⟨i, hi, rfl⟩ := List.getElem_of_mem hx
    rw [List.length_drop] at hi
    have hc : cutN xs n < xs.length := by omega
    have h1 := List.findIdx_getElem (p := fun x : N5 => !lessB x.region x.slot n.region n.slot) (xs := xs) (w := hc)
    have hm : xs[cutN xs n] ∈ xs := List.getElem_mem hc
    have hk := (noOk_in (hok _ hm)).2
    change (!lessB xs[cutN xs n].region xs[cutN xs n].slot n.region n.slot) = true at h1
    rw [less_rk hk hn'.2] at h1
    simp only [Bool.not_eq_true', decide_eq_false_iff_not] at h1
    have h2 : noR n ≠ noR xs[cutN xs n] := fun e => by
      have := rk_inj hk hn'.2 e.symm
      exact noW_none.1 hno _ hm this
    have h3 : noR n < noR xs[cutN xs n] := by
      have : ¬ noR xs[cutN xs n] < noR n := h1
      omega
    rw [List.getElem_drop]
    rcases i with _ | i
    · simpa using h3
    · exact Int.lt_trans h3 (List.pairwise_iff_getElem.1 h _ _ hc (by omega) (by omega))
  unfold insN
  rw [List.pairwise_append, List.pairwise_append]
  refine ⟨⟨h.sublist (List.take_sublist _ _), by simp, fun a ha b hb => by simp at hb; subst hb; exact hlo a ha⟩, h.sublist (List.drop_sublist _ _), fun a ha b hb => ?_⟩
  rcases List.mem_append.1 ha with ha | ha
  · exact Int.lt_trans (hlo a ha) (hhi b hb)
  · simp at ha; subst ha; exact hhi b hb
theorem insN_len (xs : List N5) (n : N5) : (insN xs n).length = xs.length + 1 := by have := (insN_perm xs n).length_eq; simpa using this
end Go.Proofs.Ytijphfbcojfjpaa
