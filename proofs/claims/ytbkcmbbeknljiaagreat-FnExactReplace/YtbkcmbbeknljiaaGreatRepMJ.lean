/- Replace of the program, whole. -/
import Derived.Test.YtbkcmbbeknljiaaGreatRows
import Derived.Test.YtbkcmbbeknljiaaGreatRepIJ
import Derived.WalkKit
import Derived.WalkSpells
import Derived.WalkLawsBesides
import Derived.Below
import Derived.Deep.CutRange
namespace Go.Proofs.YtbkcmbbeknljiaaGreat
open Go.RowKit
/-- What Replace answers. -/
def repB (m : M4) (y : Int) (cs : List C2) : Bool := machB m && inB 0 5 y && cellsB cs
def repM (m : M4) (y : Int) (cs : List C2) : M4 := if repB m y cs = true then ⟨m.alive, repK m.copies y cs, m.log, m.cleared⟩ else ⟨false, [], [], []⟩
theorem cells_six {cs : List C2} (h : cellsB cs = true) : cs.length = 6 := by simp only [cellsB, Bool.and_eq_true, decide_eq_true_eq] at h; exact h.1
set_option maxRecDepth 100000 in
set_option maxHeartbeats 4000000 in
theorem implReplace_any (w : World) (v : MV) (m : M4) (y : Int) (a : Option Addr) (cap : Nat) (cs : List C2) (hl : ML m) (hs : SlM w v m) (hcl : cs.length ≤ maxLen) (hsc : SlC w w.heap.size a cs.length cs) : Calls Tryz.prog 10 #[v.val m, .int .i64 y, .slice a cs.length cap] w (MAnsB w (repM m y cs) (repB m y cs)) := by
  obtain ⟨ac, cc, al, cl, ad, cd⟩ := v
  simp only [MV.val]
  obtain ⟨W, hW⟩ : ∃ W, W = (w.alloc (.cells #[.bool m.alive, .slice ac m.copies.length cc, .slice al m.log.length cl, .slice ad m.cleared.length cd] 28)).alloc (.cells #[.bool false, .slice none 0 0, .slice none 0 0, .slice none 0 0] 28) := ⟨_, rfl⟩
  have b0 : Below w.heap.size w W := by subst hW; exact ((Below.refl _ _).alloc (Nat.le_refl _) _).alloc (by simp) _
  have s0 : W.heap.size = w.heap.size + 2 := by subst hW; simp
  have hz : W.heap[w.heap.size + 1]? = some (.cells #[.bool false, .slice none 0 0, .slice none 0 0, .slice none 0 0] 28 (0, 0)) := by
    have := heap_alloc_new (w.alloc (.cells #[.bool m.alive, .slice ac m.copies.length cc, .slice al m.log.length cl, .slice ad m.cleared.length cd] 28)) (.cells #[.bool false, .slice none 0 0, .slice none 0 0, .slice none 0 0] 28)
    rw [show (w.alloc (.cells #[.bool m.alive, .slice ac m.copies.length cc, .slice al m.log.length cl, .slice ad m.cleared.length cd] 28)).heap.size = w.heap.size + 1 by simp] at this
    rw [hW]; exact this
  have hk := take_any W ⟨ac, cc, al, cl, ad, cd⟩ m hl (hs.later b0)
  simp only [MV.val] at hk
  have H : Hid (Below w.heap.size w W ∧ W.heap.size = w.heap.size + 2 ∧ W.heap[w.heap.size + 1]? = some (.cells #[.bool false, .slice none 0 0, .slice none 0 0, .slice none 0 0] 28 (0, 0)) ∧ SlC W W.heap.size a cs.length cs) := ⟨b0, s0, hz, hsc.later b0⟩
  clear b0 s0 hz hs hl hsc
  go_enter Tryz.func10, Tryz.ntmps10
  go_wp2_with fail
  rw [← hW]
  clear hW
  refine hk.mono ?_
  clear hk
  rintro e w1 ⟨t1, t2, b1⟩
  cases hB : machB m with
  | false =>
    obtain rfl := t1 hB
    clear t1 t2
    simp only [noM]
    have HN : Hid (repM m y cs = zM ∧ repB m y cs = false) := by
      have e : repB m y cs = false := by simp [repB, hB]
      exact ⟨by simp [repM, e, zM], e⟩
    obtain ⟨X1, hX1⟩ : ∃ X, X = w1.alloc (.cells #[.slice none 0 0, .bool false, .slice none 0 0, .slice none 0 0] 83) := ⟨_, rfl⟩
    have bA : Below w1.heap.size w1 X1 := by rw [hX1]; exact (Below.refl _ _).alloc (Nat.le_refl _) _
    have b1A := b1.trans (bA.mono b1.size)
    obtain ⟨z0, z1, z2, z3, zf⟩ := zeroBoxM ((b1A.block _ (by have := H.out.2.1; omega)).trans H.out.2.2.1)
    have f0 := zf 0
    have f1 := zf 1
    have f2 := zf 2
    have f3 := zf 3
    have K := hidOf (H.out.1.trans (b1A.mono H.out.1.size))
    clear zf
    clear b1 bA b1A
    rw [hX1] at z0 z1 z2 z3 f0 f1 f2 f3 K
    go_wp2
    refine bodyPost_ret (v := .tuple #[.agg #[.bool false, .slice none 0 0, .slice none 0 0, .slice none 0 0], .bool false]) (by simp [results, Tryz.results10, go_sem, z0, z1, z2, z3]) rfl ?_
    rw [HN.out.1, HN.out.2]
    exact MAnsB.zero ((((K.out.setCell (p := ⟨w.heap.size + 1, _, none⟩) (by dsimp only; omega) _).setCell (p := ⟨w.heap.size + 1, _, none⟩) (by dsimp only; omega) _).setCell (p := ⟨w.heap.size + 1, _, none⟩) (by dsimp only; omega) _).setCell (p := ⟨w.heap.size + 1, _, none⟩) (by dsimp only; omega) _)
  | true =>
    obtain ⟨⟨uc, uk, ul, uj, ud, ui⟩, p, gk, gr, rfl, mr⟩ := t2 hB
    clear t1 t2
    simp only [MV.own]
    have hS := hidOf (MSm.of_mach hB)
    have HU : Hid (UpR m.copies) := mach_up hB
    obtain ⟨X1, hX1⟩ : ∃ X, X = w1.alloc (.cells #[.slice ul m.log.length uj, .bool m.alive, .slice uc m.copies.length uk, .slice ud m.cleared.length ui] 83) := ⟨_, rfl⟩
    have bA : Below w1.heap.size w1 X1 := by rw [hX1]; exact (Below.refl _ _).alloc (Nat.le_refl _) _
    have s1 : X1.heap.size = w1.heap.size + 1 := by rw [hX1]; simp
    have b1A := b1.trans (bA.mono b1.size)
    have u0 : X1.cell? ⟨w1.heap.size, 0, none⟩ = some (.slice ul m.log.length uj) := by rw [hX1]; go_simp
    have u1 : X1.cell? ⟨w1.heap.size, 1, none⟩ = some (.bool m.alive) := by rw [hX1]; go_simp
    have u2 : X1.cell? ⟨w1.heap.size, 2, none⟩ = some (.slice uc m.copies.length uk) := by rw [hX1]; go_simp
    have u3 : X1.cell? ⟨w1.heap.size, 3, none⟩ = some (.slice ud m.cleared.length ui) := by rw [hX1]; go_simp
    have uf : X1.frozen? ⟨w1.heap.size, 2, none⟩ = false := by rw [hX1]; go_simp
    have bw := H.out.1.trans (b1A.mono H.out.1.size)
    have K1 : Hid (Below w.heap.size w X1 ∧ X1.heap[w.heap.size + 1]? = some (.cells #[.bool false, .slice none 0 0, .slice none 0 0, .slice none 0 0] 28 (0, 0)) ∧ MR W.heap.size w1.heap.size X1 (.slice uc m.copies.length uk) (.slice ul m.log.length uj) (.slice ud m.cleared.length ui) m.copies m.log m.cleared gk gr ∧ w1.heap.size < X1.heap.size ∧ w.heap.size + 2 ≤ W.heap.size ∧ W.heap.size ≤ w1.heap.size ∧ SlC X1 W.heap.size a cs.length cs ∧ (X1.cell? ⟨w1.heap.size, 0, none⟩ = some (.slice ul m.log.length uj) ∧ X1.cell? ⟨w1.heap.size, 1, none⟩ = some (.bool m.alive) ∧ X1.cell? ⟨w1.heap.size, 2, none⟩ = some (.slice uc m.copies.length uk) ∧ X1.cell? ⟨w1.heap.size, 3, none⟩ = some (.slice ud m.cleared.length ui) ∧ X1.frozen? ⟨w1.heap.size, 2, none⟩ = false)) := ⟨bw, (b1A.block _ (by have := H.out.2.1; omega)).trans H.out.2.2.1, ((mr.mono (by omega)).out (.inr (Nat.le_refl _))).later bA, by omega, by have := H.out.2.1; omega, b1.size, H.out.2.2.2.below b1A, u0, u1, u2, u3, uf⟩
    have hc := implRegion X1 y
    clear mr bA b1A b1 s1 u0 u1 u2 u3 uf bw H
    go_wp2_with fail
    rw [← hX1]
    clear hX1
    refine hc.mono ?_
    clear hc
    rintro e w2 ⟨rfl, rfl⟩
    cases hI : inB 0 5 y with
    | false =>
      have HN : Hid (repM m y cs = zM ∧ repB m y cs = false) := by
        have e : repB m y cs = false := by simp [repB, hI]
        exact ⟨by simp [repM, e, zM], e⟩
      obtain ⟨z0, z1, z2, z3, zf⟩ := zeroBoxM (K1.out.2.1)
      have f0 := zf 0
      have f1 := zf 1
      have f2 := zf 2
      have f3 := zf 3
      have K := hidOf (K1.out.1)
      clear zf
      go_wp2
      refine bodyPost_ret (v := .tuple #[.agg #[.bool false, .slice none 0 0, .slice none 0 0, .slice none 0 0], .bool false]) (by simp [results, Tryz.results10, go_sem, z0, z1, z2, z3]) rfl ?_
      rw [HN.out.1, HN.out.2]
      exact MAnsB.zero ((((K.out.setCell (p := ⟨w.heap.size + 1, _, none⟩) (by dsimp only; omega) _).setCell (p := ⟨w.heap.size + 1, _, none⟩) (by dsimp only; omega) _).setCell (p := ⟨w.heap.size + 1, _, none⟩) (by dsimp only; omega) _).setCell (p := ⟨w.heap.size + 1, _, none⟩) (by dsimp only; omega) _)
    | true =>
      have hc := implCellsOk_any w2 a cs.length cap cs hcl (K1.out.2.2.2.2.2.2.1.mono (by have := K1.out; omega))
      go_wp2_with fail
      refine hc.mono ?_
      clear hc
      rintro e w3 ⟨rfl, b3⟩
      have K2 : Hid (Below w.heap.size w w3 ∧ w3.heap[w.heap.size + 1]? = some (.cells #[.bool false, .slice none 0 0, .slice none 0 0, .slice none 0 0] 28 (0, 0)) ∧ MR W.heap.size w1.heap.size w3 (.slice uc m.copies.length uk) (.slice ul m.log.length uj) (.slice ud m.cleared.length ui) m.copies m.log m.cleared gk gr ∧ w1.heap.size < w3.heap.size ∧ w.heap.size + 2 ≤ W.heap.size ∧ W.heap.size ≤ w1.heap.size ∧ SlC w3 W.heap.size a cs.length cs ∧ (w3.cell? ⟨w1.heap.size, 0, none⟩ = some (.slice ul m.log.length uj) ∧ w3.cell? ⟨w1.heap.size, 1, none⟩ = some (.bool m.alive) ∧ w3.cell? ⟨w1.heap.size, 2, none⟩ = some (.slice uc m.copies.length uk) ∧ w3.cell? ⟨w1.heap.size, 3, none⟩ = some (.slice ud m.cleared.length ui) ∧ w3.frozen? ⟨w1.heap.size, 2, none⟩ = false)) := by
        obtain ⟨k1, k2, k3, k4, k5, k6, k7, u0, u1, u2, u3, uf⟩ := K1.out
        exact ⟨k1.trans (b3.mono k1.size), (b3.block _ (by omega)).trans k2, k3.later b3, Nat.lt_of_lt_of_le k4 b3.size, k5, k6, k7.below (b3.mono (by omega)), (b3.cell (p := ⟨w1.heap.size, 0, none⟩) k4).trans u0, (b3.cell (p := ⟨w1.heap.size, 1, none⟩) k4).trans u1, (b3.cell (p := ⟨w1.heap.size, 2, none⟩) k4).trans u2, (b3.cell (p := ⟨w1.heap.size, 3, none⟩) k4).trans u3, (b3.frozen (p := ⟨w1.heap.size, 2, none⟩) k4).trans uf⟩
      clear b3 K1
      cases hC : cellsB cs with
      | false =>
        have HN : Hid (repM m y cs = zM ∧ repB m y cs = false) := by
          have e : repB m y cs = false := by simp [repB, hC]
          exact ⟨by simp [repM, e, zM], e⟩
        obtain ⟨z0, z1, z2, z3, zf⟩ := zeroBoxM (K2.out.2.1)
        have f0 := zf 0
        have f1 := zf 1
        have f2 := zf 2
        have f3 := zf 3
        have K := hidOf (K2.out.1)
        clear zf
        go_wp2
        refine bodyPost_ret (v := .tuple #[.agg #[.bool false, .slice none 0 0, .slice none 0 0, .slice none 0 0], .bool false]) (by simp [results, Tryz.results10, go_sem, z0, z1, z2, z3]) rfl ?_
        rw [HN.out.1, HN.out.2]
        exact MAnsB.zero ((((K.out.setCell (p := ⟨w.heap.size + 1, _, none⟩) (by dsimp only; omega) _).setCell (p := ⟨w.heap.size + 1, _, none⟩) (by dsimp only; omega) _).setCell (p := ⟨w.heap.size + 1, _, none⟩) (by dsimp only; omega) _).setCell (p := ⟨w.heap.size + 1, _, none⟩) (by dsimp only; omega) _)
      | true =>
        have HN : Hid (repM m y cs = (⟨m.alive, repK m.copies y cs, m.log, m.cleared⟩ : M4) ∧ repB m y cs = true) := by
          have e : repB m y cs = true := by simp [repB, hB, hI, hC]
          exact ⟨by simp [repM, e], e⟩
        have h6 := hidOf (cells_six hC)
        obtain ⟨k1, k2, k3, k4, k5, k6, k7, u0, u1, u2, u3, uf⟩ := K2.out
        have hc := replace_any w3 W.heap.size w1.heap.size (.slice ul m.log.length uj) (.slice ud m.cleared.length ui) uc uk m.copies m.log m.cleared gk gr y a cap cs k3 u2 uf k4 k6 (by have := hS.out.k; omega) HU.out (by have := h6.out; omega) (by have := h6.out; omega) k7
        obtain ⟨ks', hks⟩ : ∃ ks', ks' = repK m.copies y cs := ⟨_, rfl⟩
        rw [← hks] at hc
        have HKS := hidOf hks
        clear hks
        have KX : Hid (Below w.heap.size w w3 ∧ w3.heap[w.heap.size + 1]? = some (.cells #[.bool false, .slice none 0 0, .slice none 0 0, .slice none 0 0] 28 (0, 0)) ∧ w1.heap.size < w3.heap.size ∧ w.heap.size + 2 ≤ W.heap.size ∧ w3.cell? ⟨w1.heap.size, 0, none⟩ = some (.slice ul m.log.length uj) ∧ w3.cell? ⟨w1.heap.size, 1, none⟩ = some (.bool m.alive) ∧ w3.cell? ⟨w1.heap.size, 3, none⟩ = some (.slice ud m.cleared.length ui) ∧ W.heap.size ≤ w1.heap.size) := ⟨k1, k2, k4, k5, u0, u1, u3, k6⟩
        clear k1 k2 k3 k4 k5 k6 k7 u0 u1 u2 u3 uf K2
        go_wp2_with fail
        refine hc.mono ?_
        clear hc
        rintro e w4 ⟨⟨u, rfl⟩, ac', cc', gk', o2, mr4, ot, b4⟩
        obtain ⟨k1, k2, k4, k5, u0, u1, u3, k6⟩ := KX.out
        have hgv := given_any w4 w1.heap.size m.alive ul m.log.length uj ac' ks'.length cc' ud m.cleared.length ui ((ot 0 (by omega)).trans u0) ((ot 1 (by omega)).trans u1) o2 ((ot 3 (by omega)).trans u3) (Nat.lt_of_lt_of_le k4 b4.size)
        have K3 : Hid (Below w.heap.size w w4 ∧ w4.heap[w.heap.size + 1]? = some (.cells #[.bool false, .slice none 0 0, .slice none 0 0, .slice none 0 0] 28 (0, 0)) ∧ MR W.heap.size w1.heap.size w4 (.slice ac' ks'.length cc') (.slice ul m.log.length uj) (.slice ud m.cleared.length ui) ks' m.log m.cleared gk' gr ∧ w.heap.size + 2 ≤ W.heap.size) := ⟨k1.trans (b4.mono (by omega)), (b4.block _ (by omega)).trans k2, mr4, k5⟩
        have hl3 : w.heap.size + 1 < w4.heap.size := by have := b4.size; omega
        clear o2 mr4 ot b4 k1 k2 k4 k5 k6 u0 u1 u3 KX
        go_wp2_with fail
        refine hgv.mono ?_
        clear hgv
        rintro e w5 ⟨rfl, b5⟩
        have K4 : Hid (Below w.heap.size w w5 ∧ MR W.heap.size w1.heap.size w5 (.slice ac' ks'.length cc') (.slice ul m.log.length uj) (.slice ud m.cleared.length ui) ks' m.log m.cleared gk' gr ∧ w.heap.size + 2 ≤ W.heap.size) := ⟨K3.out.1.trans (b5.mono K3.out.1.size), K3.out.2.2.1.later b5, K3.out.2.2.2⟩
        obtain ⟨z0, z1, z2, z3, zf⟩ := zeroBoxM ((b5.block _ hl3).trans K3.out.2.1)
        have f0 := zf 0
        have f1 := zf 1
        have f2 := zf 2
        have f3 := zf 3
        clear zf b5 K3 hl3
        go_wp2
        refine bodyPost_ret (v := .tuple #[.agg #[.bool m.alive, .slice ac' ks'.length cc', .slice ul m.log.length uj, .slice ud m.cleared.length ui], .bool true]) (by simp [results, Tryz.results10, go_sem, z0, z1, z2, z3]) rfl ?_
        rw [HN.out.1, HN.out.2, ← HKS.out]
        exact MAnsB.of (m := (⟨m.alive, ks', m.log, m.cleared⟩ : M4)) (v := ⟨ac', cc', ul, uj, ud, ui⟩) (b := w.heap.size + 1) rfl rfl rfl K4.out.2.1 K4.out.1 (by have := K4.out.2.2; omega) (by omega)
end Go.Proofs.YtbkcmbbeknljiaaGreat
