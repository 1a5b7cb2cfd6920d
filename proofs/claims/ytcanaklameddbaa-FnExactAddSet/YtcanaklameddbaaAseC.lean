/- AddSet: the row with the new Set in it rises. -/
import Derived.Test.YtcanaklameddbaaRows
import Derived.Test.YtcanaklameddbaaAseS
import Derived.WalkKit
import Derived.WalkSpells
import Derived.WalkLawsBesides
import Derived.Below
import Derived.Lib.QuietBelow
import Derived.BigQuiet
import Derived.Deep.CutRange
namespace Go.Proofs.Ytcanaklameddbaa
open Go.RowKit
open Go.Sort (grow)
theorem rk_inj' {r s q t : Int} (h1 : inB 0 5 s = true) (h2 : inB 0 5 t = true) (h : rk r s = rk q t) : r = q ∧ s = t := by
  rw [inB_iff] at h1 h2
  unfold rk at h
  omega
theorem insSe_perm (xs : List S5) (n : S5) : (insSe xs n).Perm (xs ++ [n]) := by
  unfold insSe
  rw [List.append_assoc]
  refine ((List.Perm.refl _).append (List.perm_append_comm (l₁ := [n]) (l₂ := xs.drop (cutSe xs n)))).trans ?_
  rw [← List.append_assoc, List.take_append_drop]
theorem insSe_up {xs : List S5} {n : S5} (h : seUp2 xs) (hok : ∀ s ∈ xs, setOkB s = true) (hn : setOkB n = true) (hno : seW xs n.region n.slot = none) : (insSe xs n).Pairwise (fun a b => seR a < seR b) := by
  have hn' := seOk_in hn
  have hlo : ∀ x ∈ xs.take (cutSe xs n), seR x < seR n := fun x hx => by
    obtain ⟨i, hi, rfl⟩ := List.getElem_of_mem hx
    have hi' : i < cutSe xs n := by rw [List.length_take] at hi; omega
    have hix : i < xs.length := by rw [List.length_take] at hi; omega
    have := List.not_of_lt_findIdx (p := fun x : S5 => !lessB x.region x.slot n.region n.slot) (xs := xs) hi'
    rw [List.getElem_take]
    have hk := (seOk_in (hok _ (List.getElem_mem hix))).2
    simp only [Bool.not_eq_false'] at this
    rw [less_rk hk hn'.2] at this
    simpa [seR] using this
  have hhi : ∀ x ∈ xs.drop (cutSe xs n), seR n < seR x := fun x hx => by
    obtain ⟨i, hi, rfl⟩ := List.getElem_of_mem hx
    rw [List.length_drop] at hi
    have hc : cutSe xs n < xs.length := by omega
    have h1 := List.findIdx_getElem (p := fun x : S5 => !lessB x.region x.slot n.region n.slot) (xs := xs) (w := hc)
    have hm : xs[cutSe xs n] ∈ xs := List.getElem_mem hc
    have hk := (seOk_in (hok _ hm)).2
    change (!lessB xs[cutSe xs n].region xs[cutSe xs n].slot n.region n.slot) = true at h1
    rw [less_rk hk hn'.2] at h1
    simp only [Bool.not_eq_true', decide_eq_false_iff_not] at h1
    have h2 : seR n ≠ seR xs[cutSe xs n] := fun e => by
      have := rk_inj' hk hn'.2 e.symm
      exact seW_none.1 hno _ hm this
    have h3 : seR n < seR xs[cutSe xs n] := by
      have : ¬ seR xs[cutSe xs n] < seR n := h1
      omega
    rw [List.getElem_drop]
    rcases i with _ | i
    · simpa using h3
    · exact Int.lt_trans h3 (List.pairwise_iff_getElem.1 h _ _ hc (by omega) (by omega))
  unfold insSe
  rw [List.pairwise_append, List.pairwise_append]
  refine ⟨⟨h.sublist (List.take_sublist _ _), by simp, fun a ha b hb => by simp at hb; subst hb; exact hlo a ha⟩, h.sublist (List.drop_sublist _ _), fun a ha b hb => ?_⟩
  rcases List.mem_append.1 ha with ha | ha
  · exact Int.lt_trans (hlo a ha) (hhi b hb)
  · simp at ha; subst ha; exact hhi b hb
theorem insSe_len (xs : List S5) (n : S5) : (insSe xs n).length = xs.length + 1 := by have := (insSe_perm xs n).length_eq; simpa using this
end Go.Proofs.Ytcanaklameddbaa
