/- A row of structs of a call's own: some numbers, and behind them a row of each struct's own. No program in sight. -/
import Derived.Test.YtcockcdhendplaaGreatRows
import Derived.Test.YtcockcdhendplaaGreatMem
import Derived.Below
namespace Go.Proofs.YtcockcdhendplaaGreat
open Go.RowKit
/-- Block b holds the structs rs, each of sz cells: the numbers hd, and at the end a slice that lies at the head of block g i, as At says; all apart, from base on. -/
structure OwnG {α : Type} (sz : Nat) (hd : α → List Int) (ln : α → Nat) (At : World → Nat → α → Prop) (w : World) (base b n : Nat) (rs : List α) (g : Nat → Nat) : Prop where
  len : rs.length = n
  head : ∀ i r, rs[i]? = some r → ∀ t z, (hd r)[t]? = some z → w.cell? ⟨b, i * sz + t, none⟩ = some (.int .i64 z)
  tail : ∀ i r, rs[i]? = some r → ∃ cap, w.cell? ⟨b, i * sz + (sz - 1), none⟩ = some (.slice (some ⟨g i, 0, none⟩) (ln r) cap) ∧ ln r ≤ cap
  low : ∀ i, i < n → base ≤ g i
  lt : ∀ i, i < n → g i < w.heap.size
  ne : ∀ i, i < n → g i ≠ b
  sub : ∀ i r, rs[i]? = some r → At w (g i) r
  inj : ∀ i j, i < n → j < n → g i = g j → i = j
theorem OwnG.idx {α : Type} {sz : Nat} {hd : α → List Int} {ln : α → Nat} {At : World → Nat → α → Prop} {w : World} {base b n : Nat} {rs : List α} {g : Nat → Nat} (h : OwnG sz hd ln At w base b n rs g) {i : Nat} {r : α} (e : rs[i]? = some r) : i < n := by
  have := (List.getElem?_eq_some_iff.1 e).1; have := h.len; omega
theorem OwnG.nil {α : Type} {sz : Nat} {hd : α → List Int} {ln : α → Nat} {At : World → Nat → α → Prop} (w : World) (base b : Nat) (g : Nat → Nat) : OwnG sz hd ln At w base b 0 [] g :=
  ⟨rfl, fun i r e => by simp at e, fun i r e => by simp at e, fun i h => by omega, fun i h => by omega, fun i h => by omega, fun i r e => by simp at e, fun i j h => by omega⟩
theorem OwnG.of_blocks {α : Type} {sz : Nat} {hd : α → List Int} {ln : α → Nat} {At : World → Nat → α → Prop} (hAt : ∀ (w w' : World) (b : Nat) (r : α), w'.heap[b]? = w.heap[b]? → At w b r → At w' b r) {w w' : World} {base b n : Nat} {rs : List α} {g : Nat → Nat} (h : OwnG sz hd ln At w base b n rs g) (hs : w.heap.size ≤ w'.heap.size) (eb : w'.heap[b]? = w.heap[b]?) (eg : ∀ i, i < n → w'.heap[g i]? = w.heap[g i]?) : OwnG sz hd ln At w' base b n rs g := by
  refine ⟨h.len, fun i r e t z ht => (World.cell?_of_block (a := ⟨b, i * sz + t, none⟩) eb).trans (h.head i r e t z ht), fun i r e => ?_, h.low, fun i hi => Nat.lt_of_lt_of_le (h.lt i hi) hs, h.ne, fun i r e => hAt _ _ _ _ (eg i (h.idx e)) (h.sub i r e), h.inj⟩
  obtain ⟨cap, h1, h2⟩ := h.tail i r e
  exact ⟨cap, (World.cell?_of_block (a := ⟨b, i * sz + (sz - 1), none⟩) eb).trans h1, h2⟩
theorem OwnG.later {α : Type} {sz : Nat} {hd : α → List Int} {ln : α → Nat} {At : World → Nat → α → Prop} (hAt : ∀ (w w' : World) (b : Nat) (r : α), w'.heap[b]? = w.heap[b]? → At w b r → At w' b r) {w w' : World} {base b n : Nat} {rs : List α} {g : Nat → Nat} (h : OwnG sz hd ln At w base b n rs g) (hb : Below w.heap.size w w') (hlt : b < w.heap.size) : OwnG sz hd ln At w' base b n rs g :=
  h.of_blocks hAt hb.size (hb.block b hlt) (fun i hi => hb.block _ (h.lt i hi))
/-- One struct more, stored behind the others. -/
theorem OwnG.next {α : Type} {sz : Nat} {hd : α → List Int} {ln : α → Nat} {At : World → Nat → α → Prop} (hAt : ∀ (w w' : World) (b : Nat) (r : α), w'.heap[b]? = w.heap[b]? → At w b r → At w' b r) {w V : World} {base b j : Nat} {rs : List α} {g : Nat → Nat} {r : α} {q cap : Nat} (h : OwnG sz hd ln At w base b j rs g) (hz : 0 < sz) (hh : ∀ r : α, (hd r).length < sz)
    (hs : w.heap.size ≤ V.heap.size) (hb : ∀ x, x ≠ b → V.heap[x]? = w.heap[x]?) (hold : ∀ o, o < j * sz → V.cell? ⟨b, o, none⟩ = w.cell? ⟨b, o, none⟩) (hhd : ∀ t z, (hd r)[t]? = some z → V.cell? ⟨b, j * sz + t, none⟩ = some (.int .i64 z)) (htl : V.cell? ⟨b, j * sz + (sz - 1), none⟩ = some (.slice (some ⟨q, 0, none⟩) (ln r) cap)) (hcp : ln r ≤ cap)
    (hq : base ≤ q) (hl : q < V.heap.size) (hn : q ≠ b) (hat : At V q r) (hf : ∀ i, i < j → g i ≠ q) : OwnG sz hd ln At V base b (j + 1) (rs ++ [r]) (fun i => if i = j then q else g i) := by
  have hlen := h.len
  have lo : ∀ i t, i < j → t < sz → i * sz + t < j * sz := fun i t hi ht => by
    have : (i + 1) * sz ≤ j * sz := Nat.mul_le_mul_right sz (by omega)
    rw [Nat.add_mul] at this; omega
  have split : ∀ i y, (rs ++ [r])[i]? = some y → (i < j ∧ rs[i]? = some y) ∨ (i = j ∧ y = r) := fun i y e => by
    by_cases hi : i < rs.length
    · rw [List.getElem?_append_left hi] at e
      exact .inl ⟨by omega, e⟩
    · rw [List.getElem?_append_right (by omega)] at e
      have h0 : i - rs.length = 0 := by
        rcases Nat.eq_zero_or_pos (i - rs.length) with h | h
        · exact h
        · rw [List.getElem?_eq_none (by simp; omega)] at e; cases e
      rw [h0] at e
      simp at e
      exact .inr ⟨by omega, e.symm⟩
  refine ⟨by simp [hlen], fun i y e t z ht => ?_, fun i y e => ?_, fun i hi => ?_, fun i hi => ?_, fun i hi => ?_, fun i y e => ?_, fun i k hi hk e => ?_⟩
  · rcases split i y e with ⟨hi, e⟩ | ⟨rfl, rfl⟩
    · rw [hold _ (lo i t hi (Nat.lt_trans (List.getElem?_eq_some_iff.1 ht).1 (hh y)))]; exact h.head i y e t z ht
    · exact hhd t z ht
  · rcases split i y e with ⟨hi, e⟩ | ⟨rfl, rfl⟩
    · rw [if_neg (by omega), hold _ (lo i _ hi (by omega))]; exact h.tail i y e
    · rw [if_pos rfl]; exact ⟨cap, htl, hcp⟩
  · by_cases e : i = j
    · rw [if_pos e]; exact hq
    · rw [if_neg e]; exact h.low i (by omega)
  · by_cases e : i = j
    · rw [if_pos e]; exact hl
    · rw [if_neg e]; exact Nat.lt_of_lt_of_le (h.lt i (by omega)) hs
  · by_cases e : i = j
    · rw [if_pos e]; exact hn
    · rw [if_neg e]; exact h.ne i (by omega)
  · rcases split i y e with ⟨hi, e⟩ | ⟨rfl, rfl⟩
    · rw [if_neg (by omega)]; exact hAt _ _ _ _ (hb _ (h.ne i hi)) (h.sub i y e)
    · rw [if_pos rfl]; exact hat
  · by_cases ei : i = j <;> by_cases ek : k = j
    · omega
    · simp only [if_pos ei, if_neg ek] at e; exact absurd e.symm (hf k (by omega))
    · simp only [if_neg ei, if_pos ek] at e; exact absurd e (hf i (by omega))
    · simp only [if_neg ei, if_neg ek] at e; exact h.inj i k (by omega) (by omega) e
end Go.Proofs.YtcockcdhendplaaGreat
