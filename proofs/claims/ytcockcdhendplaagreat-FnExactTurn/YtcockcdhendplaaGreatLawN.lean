/- What the laws of an answered machine share. -/
import Derived.Test.YtcockcdhendplaaGreatRows
import Derived.Test.YtcockcdhendplaaGreatTurnA
import Derived.Test.YtcockcdhendplaaGreatMkH
import Derived.WalkKit
import Derived.WalkSpells
import Derived.WalkLawsBesides
import Derived.Below
namespace Go.Proofs.YtcockcdhendplaaGreat
open Go.RowKit
/-- The law's own copy of a machine: its blocks lie behind what was there. -/
theorem toM_any (w : World) (v : MV) (m : M4) (ht : MT m) (hs : SlM w v m) : Calls Tryz.prog 30 #[v.val m] w fun e w' =>
    ∃ (c4 : Option Addr) (k4 : Nat) (l4 : Option Addr) (j4 : Nat) (d4 : Option Addr) (i4 : Nat) (PK PR PD : Nat → Prop), e = .returned ((MV.mk c4 k4 l4 j4 d4 i4).val m) ∧ OM w' w.heap.size ⟨c4, k4, l4, j4, d4, i4⟩ m PK PR PD ∧ (∀ q, OfM PK PR PD q → q < w'.heap.size) ∧ Below w.heap.size w w' :=
  (toMachine_any w v m ht.k ht.ks ht.r ht.rs ht.n hs).mono (by
    rintro e w' ⟨⟨c4, k4, l4, j4, d4, i4⟩, B1, B2, B3, gk, gr, h1, h2, h3⟩
    have o1 := h2.o1; have o2 := h2.o2; have o3 := h2.o3; have o4 := h2.sz
    refine ⟨c4, k4, l4, j4, d4, i4, _, _, _, h1, h2.om.mono (by omega), fun q hq => ?_, h3⟩
    rcases hq with hq | hq | hq <;> omega)
theorem endM_nonneg (m : M4) : 0 ≤ endM m 1 := by unfold endM endR endK; omega
/-- A box that holds a machine, by its block. -/
structure BM (X : World) (s : Nat) (a : Option Addr) (b : Nat) (c : Option Addr) (d : Nat) (e : Option Addr) (f : Nat) (m : M4) : Prop where
  c0 : X.cell? ⟨s, 0, none⟩ = some (.bool m.alive)
  c1 : X.cell? ⟨s, 1, none⟩ = some (.slice a m.copies.length b)
  c2 : X.cell? ⟨s, 2, none⟩ = some (.slice c m.log.length d)
  c3 : X.cell? ⟨s, 3, none⟩ = some (.slice e m.cleared.length f)
theorem BM.of_block {X Y : World} {s : Nat} {a : Option Addr} {b : Nat} {c : Option Addr} {d : Nat} {e : Option Addr} {f : Nat} {m : M4} (h : BM X s a b c d e f m) (hb : Y.heap[s]? = X.heap[s]?) : BM Y s a b c d e f m :=
  ⟨(World.cell?_of_block (a := ⟨s, 0, none⟩) hb).trans h.c0, (World.cell?_of_block (a := ⟨s, 1, none⟩) hb).trans h.c1, (World.cell?_of_block (a := ⟨s, 2, none⟩) hb).trans h.c2, (World.cell?_of_block (a := ⟨s, 3, none⟩) hb).trans h.c3⟩
theorem MT.ml {m : M4} (h : MT m) : ML m := ⟨by have := h.k; unfold maxLen; omega, fun c hc => by have := h.ks c hc; unfold maxLen; omega, by have := h.r; unfold maxLen; omega, fun c hc => by have := h.rs c hc; unfold maxLen; omega, by have := h.n; unfold maxLen; omega⟩
theorem szM_turn (t g : Int) (m : M4) : szM (tM t g m) = szM m := by
  have h : ∀ r, (trR t g r).sets = r.sets := fun r => by unfold trR; split <;> rfl
  simp [szM, tM, lensR, lensK, List.map_map, Function.comp_def, h]
theorem ansT_sz (m : M4) (t g : Int) (h : szM m ≤ 1048576) : szM (ansT m t g) ≤ 1048576 := by
  unfold ansT
  by_cases hB : machB m = true
  · rw [if_pos hB, szM_turn]; exact h
  · rw [if_neg hB]; simp [szM, lensK, lensR]
end Go.Proofs.YtcockcdhendplaaGreat
