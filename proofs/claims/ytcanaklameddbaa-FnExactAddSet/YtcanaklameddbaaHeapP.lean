/- Heaps of numbers, and rows that rise. No program in sight. -/
import Derived.Test.YtcanaklameddbaaRows
namespace Go.Proofs.Ytcanaklameddbaa
namespace HeapP
/-- Two places changed for one another. -/
def swF {α : Type} (k : Nat → α) (a b : Nat) : Nat → α := fun i => if i = a then k b else if i = b then k a else k i
/-- A heap of n keys, the least on top. -/
def Hp (k : Nat → Int) (n : Nat) : Prop := ∀ i, 0 < i → i < n → k ((i - 1) / 2) ≤ k i
/-- .. but for the one at c and what is above it. -/
def HpUp (k : Nat → Int) (n c : Nat) : Prop := (∀ i, 0 < i → i < n → i ≠ c → k ((i - 1) / 2) ≤ k i) ∧ (∀ i, 0 < i → i < n → (i - 1) / 2 = c → 0 < c → k ((c - 1) / 2) ≤ k i)
/-- .. but for the one at c and what is below it. -/
def HpDn (k : Nat → Int) (n c : Nat) : Prop := (∀ i, 0 < i → i < n → (i - 1) / 2 ≠ c → k ((i - 1) / 2) ≤ k i) ∧ (∀ i, 0 < i → i < n → (i - 1) / 2 = c → 0 < c → k ((c - 1) / 2) ≤ k i)
theorem HpUp.done {k : Nat → Int} {n c : Nat} (h : HpUp k n c) (hc : c = 0 ∨ k ((c - 1) / 2) ≤ k c) : Hp k n := fun i h0 hn => by
  by_cases e : i = c
  · subst e; rcases hc with hc | hc
    · omega
    · exact hc
  · exact h.1 i h0 hn e
theorem HpUp.step {k : Nat → Int} {n c : Nat} (h : HpUp k n c) (h0 : 0 < c) (hn : c < n) (hl : k c < k ((c - 1) / 2)) : HpUp (swF k c ((c - 1) / 2)) n ((c - 1) / 2) := by
  obtain ⟨h1, h2⟩ := h
  refine ⟨fun i i0 hi hne => ?_, fun i i0 hi hp hpc => ?_⟩
  · unfold swF
    by_cases e1 : i = c
    · subst e1
      simp [show ¬ (i - 1) / 2 = i by omega]; omega
    · by_cases e2 : (i - 1) / 2 = c
      · simp [e1, hne, e2]; exact h2 i i0 hi e2 h0
      · by_cases e3 : (i - 1) / 2 = (c - 1) / 2
        · simp [e1, hne, e3, show ¬ (c - 1) / 2 = c by omega]
          have := h1 i i0 hi e1
          rw [e3] at this
          omega
        · simp [e1, hne, e2, e3]
          exact h1 i i0 hi e1
  · unfold swF
    have hq := h1 ((c - 1) / 2) (by omega) (by omega) (by omega)
    by_cases e1 : i = c
    · subst e1
      simp [show ¬ ((i - 1) / 2 - 1) / 2 = i by omega, show ¬ ((i - 1) / 2 - 1) / 2 = (i - 1) / 2 by omega]
      exact hq
    · have hi' := h1 i i0 hi e1
      rw [hp] at hi'
      simp [e1, show ¬ i = (c - 1) / 2 by omega, show ¬ ((c - 1) / 2 - 1) / 2 = c by omega, show ¬ ((c - 1) / 2 - 1) / 2 = (c - 1) / 2 by omega]
      omega
theorem HpDn.done {k : Nat → Int} {n c : Nat} (h : HpDn k n c) (h1 : 2 * c + 1 < n → k c ≤ k (2 * c + 1)) (h2 : 2 * c + 2 < n → k c ≤ k (2 * c + 2)) : Hp k n := fun i h0 hn => by
  by_cases e : (i - 1) / 2 = c
  · rw [e]
    rcases (show i = 2 * c + 1 ∨ i = 2 * c + 2 by omega) with rfl | rfl
    · exact h1 hn
    · exact h2 hn
  · exact h.1 i h0 hn e
theorem HpDn.step {k : Nat → Int} {n c l : Nat} (h : HpDn k n c) (hl : l = 2 * c + 1 ∨ l = 2 * c + 2) (hn : l < n) (hlt : k l < k c) (h1 : 2 * c + 1 < n → k l ≤ k (2 * c + 1)) (h2 : 2 * c + 2 < n → k l ≤ k (2 * c + 2)) : HpDn (swF k c l) n l := by
  obtain ⟨g1, g2⟩ := h
  have hpl : (l - 1) / 2 = c := by omega
  refine ⟨fun i i0 hi hne => ?_, fun i i0 hi hp _ => ?_⟩
  · unfold swF
    by_cases e0 : i = c
    · subst e0
      simp [show ¬ (i - 1) / 2 = i by omega, hne]
      exact g2 l (by omega) hn hpl i0
    · by_cases e1 : (i - 1) / 2 = c
      · simp only [e1, e0, if_true, if_false]
        by_cases e2 : i = l
        · simp [e2]; omega
        · simp [e2]
          rcases (show i = 2 * c + 1 ∨ i = 2 * c + 2 by omega) with rfl | rfl
          · exact h1 hi
          · exact h2 hi
      · have := g1 i i0 hi e1
        by_cases e2 : i = l
        · omega
        · simp [e0, e1, e2, hne]; exact this
  · unfold swF
    have := g1 i i0 hi (by omega)
    rw [hp] at this
    simp [hpl, show ¬ i = c by omega, show ¬ i = l by omega]
    exact this
/-- The top is the least. -/
theorem Hp.top {k : Nat → Int} {n : Nat} (h : Hp k n) : ∀ i, i < n → k 0 ≤ k i := by
  intro i
  induction i using Nat.strongRecOn with
  | ind i ih =>
    intro hi
    by_cases e : i = 0
    · subst e; exact Int.le_refl _
    · have := ih ((i - 1) / 2) (by omega) (by omega)
      have := h i (by omega) hi
      omega
/-- Rising keys are a heap. -/
theorem Hp.of_rise {k : Nat → Int} {n : Nat} (h : ∀ i j, i < j → j < n → k i < k j) : Hp k n := fun i h0 hn => by
  have := h ((i - 1) / 2) i (by omega) hn
  omega
/-- One more behind a heap. -/
theorem HpUp.of_last {k : Nat → Int} {n : Nat} (h : Hp k n) : HpUp k (n + 1) n := ⟨fun i h0 hn hne => h i h0 (by omega), fun i h0 hn hp h' => by omega⟩
/-- The last one put on top. -/
theorem HpDn.of_top {k : Nat → Int} {n : Nat} (h : Hp k (n + 1)) : HpDn (swF k 0 n) n 0 := ⟨fun i h0 hn hne => by
  have := h i h0 (by omega)
  unfold swF
  simp [show ¬ i = 0 by omega, show ¬ i = n by omega, hne, show ¬ (i - 1) / 2 = n by omega]
  exact this, fun i h0 hn hp h' => by omega⟩
end HeapP
namespace HeapP
def swL {α : Type} (xs : List α) (a b : Nat) (x y : α) : List α := (xs.set a y).set b x
theorem set_set_perm {α : Type} : ∀ (xs : List α) (a b : Nat) (x y : α), xs[a]? = some x → xs[b]? = some y → ((xs.set a y).set b x).Perm xs := by
  intro xs a b x y ha hb
  have hla := (List.getElem?_eq_some_iff.1 ha).1
  have hlb := (List.getElem?_eq_some_iff.1 hb).1
  have hxa := (List.getElem?_eq_some_iff.1 ha).2
  have hxb := (List.getElem?_eq_some_iff.1 hb).2
  have := Array.swap_perm (xs := xs.toArray) (i := a) (j := b) (by simpa using hla) (by simpa using hlb)
  have h2 := Array.perm_iff_toList_perm.1 this
  simp [Array.swap, hxa, hxb] at h2
  exact h2
theorem rise_eq {α : Type} (rk : α → Int) : ∀ {l₁ l₂ : List α}, l₁.Pairwise (fun p q => rk p < rk q) → l₂.Pairwise (fun p q => rk p < rk q) → l₁.Perm l₂ → l₁ = l₂
  | [], l₂, _, _, h => (List.Perm.nil_eq h)
  | x :: r, [], _, _, h => by have := h.length_eq; simp at this
  | x :: r, y :: s, h1, h2, h => by
    obtain ⟨a1, a2⟩ := List.pairwise_cons.1 h1
    obtain ⟨b1, b2⟩ := List.pairwise_cons.1 h2
    have hx : x ∈ y :: s := h.mem_iff.1 (by simp)
    have hy : y ∈ x :: r := h.mem_iff.2 (by simp)
    have e : x = y := by
      rcases List.mem_cons.1 hx with e | hx
      · exact e
      · rcases List.mem_cons.1 hy with e | hy
        · exact e.symm
        · have := a1 y hy; have := b1 x hx; omega
    subst e
    rw [rise_eq rk a2 b2 (List.Perm.cons_inv h)]
theorem HpDn.congr {k k' : Nat → Int} {n : Nat} (h : HpDn k n 0) (e : ∀ i, i < n → k' i = k i) : HpDn k' n 0 :=
  ⟨fun i h0 hn hc => by rw [e i hn, e _ (by omega)]; exact h.1 i h0 hn hc, fun i _ _ _ h' => by omega⟩
end HeapP
end Go.Proofs.Ytcanaklameddbaa
