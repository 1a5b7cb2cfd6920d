/- Rows of Sets that a call owns, read as Sets in memory. -/
import Derived.Test.YtlnnghlmhmnnlaaDoorRows
import Derived.Test.YtlnnghlmhmnnlaaDoorOpens
import Derived.Test.YtlnnghlmhmnnlaaDoorRecs
import Derived.WalkKit
import Derived.Below
import Derived.Deep.AppendLies
import Derived.Deep.Heap
namespace Go.Proofs.YtlnnghlmhmnnlaaDoor
open Go.RowKit
theorem flat5 : ∀ (xs : List S5) (i : Nat) (s : S5) (j : Nat), xs[i]? = some s → j < 5 → (xs.flatMap S5.cells)[i * 5 + j]? = s.cells[j]?
  | [], i, s, j, h, _ => by simp at h
  | x :: xs, 0, s, j, h, hj => by
    simp at h
    subst h
    rw [List.flatMap_cons, List.getElem?_append_left (by simp [S5.cells]; omega)]
    simp
  | x :: xs, i + 1, s, j, h, hj => by
    have hl : x.cells.length = 5 := rfl
    rw [List.flatMap_cons, List.getElem?_append_right (by rw [hl]; omega), hl, show (i + 1) * 5 + j - 5 = i * 5 + j by omega]
    exact flat5 xs i s j (by simpa using h) hj
theorem own_sets {w : World} {B : Nat} {t : TypeId} {g n cap : Nat} {xs : List S5} (h : w.ownsRow B t 5 (.slice (some ⟨g, 0, none⟩) n cap) n (xs.flatMap S5.cells)) : SetsAt w g 0 xs := by
  have key : ∀ (j : Nat) (u : Value), (xs.flatMap S5.cells)[j]? = some u → w.cell? ⟨g, j, none⟩ = some u := by
    intro j u e
    rcases h.2 with ⟨h0, _⟩ | ⟨g', cap', cur, hv, _, hg, _, _, _, ht⟩
    · cases h0
    · cases hv
      rw [cell_of_row w g j cur t (0, 0) hg]
      rw [← ht, List.getElem?_take] at e
      split at e
      · simpa using e
      · cases e
  intro i s e
  have f := fun j hj => flat5 xs i s j e hj
  rw [Nat.zero_add]
  exact ⟨key _ _ (by simpa [S5.cells] using f 0 (by omega)), key _ _ (by simpa [S5.cells] using f 1 (by omega)), key _ _ (by simpa [S5.cells] using f 2 (by omega)), key _ _ (by simpa [S5.cells] using f 3 (by omega)), key _ _ (by simpa [S5.cells] using f 4 (by omega))⟩
theorem own_room {w : World} {B : Nat} {t : TypeId} {g n cap : Nat} {vs : List Value} (h : w.ownsRow B t 5 (.slice (some ⟨g, 0, none⟩) n cap) n vs) : Room w g (n * 5) := by
  intro j hj
  rcases h.2 with ⟨h0, _⟩ | ⟨g', cap', cur, hv, _, hg, hn, _, hc, ht⟩
  · cases h0
  · cases hv
    have hlt : j < cur.size := by
      have : n * 5 ≤ cap * 5 := Nat.mul_le_mul_right 5 hn
      omega
    refine ⟨cur[j], ?_, ?_⟩
    · rw [cell_of_row w g j cur t (0, 0) hg, Array.getElem?_eq_getElem hlt]
    · simp [World.frozen?, hg]
theorem own_sl {w : World} {B : Nat} {t : TypeId} {a : Option Addr} {n cap : Nat} {xs : List S5} (h : w.ownsRow B t 5 (.slice a n cap) n (xs.flatMap S5.cells)) : n = 0 ∨ ∃ b, a = some ⟨b, 0, none⟩ ∧ B ≤ b ∧ b < w.heap.size ∧ SetsAt w b 0 xs ∧ Room w b (n * 5) := by
  rcases h.2 with ⟨_, h0⟩ | ⟨g, cap', cur, hv, _⟩
  · exact .inl h0
  · obtain ⟨rfl, _, _⟩ : a = some ⟨g, 0, none⟩ ∧ True ∧ True := by cases hv; exact ⟨rfl, trivial, trivial⟩
    exact .inr ⟨g, rfl, (h.lt g rfl).1, (h.lt g rfl).2, own_sets h, own_room h⟩
end Go.Proofs.YtlnnghlmhmnnlaaDoor
