/- What the laws of a machine share: a machine handed over as a copy of the law's own, marks in a row of cells of a call's own. -/
import Derived.Test.YtcockcdhendplaaRows
import Derived.Test.YtcockcdhendplaaCopJ
import Derived.WalkKit
import Derived.WalkSpells
import Derived.WalkLawsBesides
import Derived.Below
namespace Go.Proofs.Ytcockcdhendplaa
open Go.RowKit
theorem OM.mono {w : World} {B B' : Nat} {v : MV} {m : M4} {PK PR PD : Nat → Prop} (h : OM w B v m PK PR PD) (hb : B' ≤ B) : OM w B' v m PK PR PD := ⟨h.k, h.r, h.n, h.kr, h.kd, h.rd, fun q hq => Nat.le_trans hb (h.kB q hq), fun q hq => Nat.le_trans hb (h.rB q hq), fun q hq => Nat.le_trans hb (h.dB q hq)⟩
/-- The law's own copy of a machine: its blocks lie behind what was there. -/
theorem toM_any (w : World) (v : MV) (m : M4) (ht : MT m) (hs : SlM w v m) : Calls Try.prog 8 #[v.val m] w fun e w' =>
    ∃ (c4 : Option Addr) (k4 : Nat) (l4 : Option Addr) (j4 : Nat) (d4 : Option Addr) (i4 : Nat) (PK PR PD : Nat → Prop), e = .returned ((MV.mk c4 k4 l4 j4 d4 i4).val m) ∧ OM w' w.heap.size ⟨c4, k4, l4, j4, d4, i4⟩ m PK PR PD ∧ (∀ q, OfM PK PR PD q → q < w'.heap.size) ∧ Below w.heap.size w w' :=
  (toMachine_any w v m ht.k ht.ks ht.r ht.rs ht.n hs).mono (by
    rintro e w' ⟨⟨c4, k4, l4, j4, d4, i4⟩, B1, B2, B3, gk, gr, h1, h2, h3⟩
    have o1 := h2.o1; have o2 := h2.o2; have o3 := h2.o3; have o4 := h2.sz
    refine ⟨c4, k4, l4, j4, d4, i4, _, _, _, h1, h2.om.mono (by omega), fun q hq => ?_, h3⟩
    rcases hq with hq | hq | hq <;> omega)
theorem OwnCl.keep {w w' : World} {base : Nat} {a : Option Addr} {xs : List C2} (h : OwnCl w base a xs) (hs : w.heap.size ≤ w'.heap.size) (hk : ∀ q, base ≤ q → q < w.heap.size → w'.heap[q]? = w.heap[q]?) : OwnCl w' base a xs := by
  rcases h with h | ⟨q, ha, h1, h2, h3, h4⟩
  · exact .inl h
  · exact .inr ⟨q, ha, h1, Nat.lt_of_lt_of_le h2 hs, h3.of_block (hk q h1 h2), h4.of_block (hk q h1 h2)⟩
theorem OwnCl.later {w w' : World} {base : Nat} {a : Option Addr} {xs : List C2} (h : OwnCl w base a xs) (hb : Below w.heap.size w w') : OwnCl w' base a xs := h.keep hb.size (fun q _ hq => hb.block q hq)
theorem markCl (w : World) (base : Nat) (a : Option Addr) (cap : Nat) (xs : List C2) (k : Int) (hn : xs.length ≤ 1048576) (hk : 0 ≤ k) (hk' : k ≤ 1000000000) (hb : base ≤ w.heap.size) (h : OwnCl w base a xs) :
    Calls Try.prog 15 #[.slice a xs.length cap, .int .i64 k] w fun e w' => e = .returned (.int .i64 (k + 2 * (xs.length : Int))) ∧ Below base w w' ∧ w'.heap.size = w.heap.size ∧ OwnCl w' base a (mkCells k xs.length) := by
  rcases h with rfl | ⟨q, rfl, h1, h2, h3, h4⟩
  · refine (markCellS_nil w a cap k).mono ?_
    rintro e w' ⟨rfl, rfl⟩
    exact ⟨by simp, Below.refl _ _, rfl, .inl rfl⟩
  · refine (markCellS_k w q xs.length cap k hn hk hk' h4).mono ?_
    rintro e w' ⟨rfl, ho, hc, hr⟩
    exact ⟨rfl, ho.below h1, ho.size, .inr ⟨q, rfl, h1, by rw [ho.size]; exact h2, hc, by rw [mkCells_len]; exact hr⟩⟩
theorem ansL_len (m : M4) (y : Int) : (ansL m y).length ≤ 6 := by
  unfold ansL ansC
  by_cases hB : machB m = true
  · rw [if_pos hB]
    cases h : m.copies.find? fun k => decide (k.region = y) with
    | none => simp
    | some k => simp [(MSm.of_mach hB).ks k (List.mem_of_find?_eq_some h)]
  · rw [if_neg hB]; simp
theorem endM_nonneg (m : M4) : 0 ≤ endM m 1 := by unfold endM endR endK; omega
end Go.Proofs.Ytcockcdhendplaa
