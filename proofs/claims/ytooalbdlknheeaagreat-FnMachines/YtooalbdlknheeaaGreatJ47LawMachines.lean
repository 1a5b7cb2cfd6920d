/- RepM; CopN; MacF: joined. -/
import Derived.Test.YtooalbdlknheeaaGreatRows
import Derived.Test.YtooalbdlknheeaaGreatRepIJ
import Derived.WalkKit
import Derived.WalkSpells
import Derived.WalkLawsBesides
import Derived.Below
import Derived.Deep.CutRange
import Derived.Test.YtooalbdlknheeaaGreatJ45LawMachines
import Derived.Test.YtooalbdlknheeaaGreatJ39LawMachines
import Derived.Test.YtooalbdlknheeaaGreatAppSJ
/- Replace of the program, whole. -/
namespace Go.Proofs.YtooalbdlknheeaaGreat
open Go.RowKit
/-- What Replace answers. -/
def repB (m : M4) (y : Int) (cs : List C2) : Bool := machB m && inB 0 5 y && cellsB cs
def repM (m : M4) (y : Int) (cs : List C2) : M4 := if repB m y cs = true then ⟨m.alive, repK m.copies y cs, m.log, m.cleared⟩ else ⟨false, [], [], []⟩
theorem cells_six {cs : List C2} (h : cellsB cs = true) : cs.length = 6 := by simp only [cellsB, Bool.and_eq_true, decide_eq_true_eq] at h; exact h.1
set_option maxRecDepth 100000 in
set_option maxHeartbeats 4000000 in
theorem implReplace_any (w : World) (v : MV) (m : M4) (y : Int) (a : Option Addr) (cap : Nat) (cs : List C2) (hl : ML m) (hs : SlM w v m) (hcl : cs.length ≤ maxLen) (hsc : SlC w w.heap.size a cs.length cs) : Calls Tryz.prog 12 #[v.val m, .int .i64 y, .slice a cs.length cap] w (MAnsB w (repM m y cs) (repB m y cs)) := by
  obtain ⟨ac, cc, al, cl, ad, cd⟩ := v
  simp only [MV.val]
  obtain ⟨W, hW⟩ : ∃ W, W = (w.alloc (.cells #[.bool m.alive, .slice ac m.copies.length cc, .slice al m.log.length cl, .slice ad m.cleared.length cd] 28)).alloc (.cells #[.bool false, .slice none 0 0, .slice none 0 0, .slice none 0 0] 28) := ⟨_, rfl⟩
  have b0 : Below w.heap.size w W := by subst hW; exact ((Below.refl _ _).alloc (Nat.le_refl _) _).alloc (by simp) _
  have s0 : W.heap.size = w.heap.size + 2 := by subst hW; simp
  have hz : W.heap[w.heap.size + 1]? = some (.cells #[.bool false, .slice none 0 0, .slice none 0 0, .slice none 0 0] 28 (0, 0)) := by
    have := heap_alloc_new (w.alloc (.cells #[.bool m.alive, .slice ac m.copies.length cc, .slice al m.log.length cl, .slice ad m.cleared.length cd] 28)) (.cells #[.bool false, .slice none 0 0, .slice none 0 0, .slice none 0 0] 28)
    rw [show (w.alloc (.cells #[.bool m.alive, .slice ac m.copies.length cc, .slice al m.log.length cl, .slice ad m.cleared.length cd] 28)).heap.size = w.heap.size + 1 by simp] at this
    rw [hW]; exact this
  have hk := take_any W ⟨ac, cc, al, cl, ad, cd⟩ m hl (hs.later b0)
  simp only [MV.val] at hk
  have H : Hid (Below w.heap.size w W ∧ W.heap.size = w.heap.size + 2 ∧ W.heap[w.heap.size + 1]? = some (.cells #[.bool false, .slice none 0 0, .slice none 0 0, .slice none 0 0] 28 (0, 0)) ∧ SlC W W.heap.size a cs.length cs) := ⟨b0, s0, hz, hsc.later b0⟩
  clear b0 s0 hz hs hl hsc
  go_enter Tryz.func12, Tryz.ntmps12
  go_wp2_with fail
  rw [← hW]
  clear hW
  refine hk.mono ?_
  clear hk
  rintro e w1 ⟨t1, t2, b1⟩
  cases hB : machB m with
  | false =>
    obtain rfl := t1 hB
    clear t1 t2
    simp only [noM]
    have HN : Hid (repM m y cs = zM ∧ repB m y cs = false) := by
      have e : repB m y cs = false := by simp [repB, hB]
      exact ⟨by simp [repM, e, zM], e⟩
    obtain ⟨X1, hX1⟩ : ∃ X, X = w1.alloc (.cells #[.slice none 0 0, .bool false, .slice none 0 0, .slice none 0 0] 85) := ⟨_, rfl⟩
    have bA : Below w1.heap.size w1 X1 := by rw [hX1]; exact (Below.refl _ _).alloc (Nat.le_refl _) _
    have b1A := b1.trans (bA.mono b1.size)
    obtain ⟨z0, z1, z2, z3, zf⟩ := zeroBoxM ((b1A.block _ (by have := H.out.2.1; omega)).trans H.out.2.2.1)
    have f0 := zf 0
    have f1 := zf 1
    have f2 := zf 2
    have f3 := zf 3
    have K := hidOf (H.out.1.trans (b1A.mono H.out.1.size))
    clear zf
    clear b1 bA b1A
    rw [hX1] at z0 z1 z2 z3 f0 f1 f2 f3 K
    go_wp2
    refine bodyPost_ret (v := .tuple #[.agg #[.bool false, .slice none 0 0, .slice none 0 0, .slice none 0 0], .bool false]) (by simp [results, Tryz.results12, go_sem, z0, z1, z2, z3]) rfl ?_
    rw [HN.out.1, HN.out.2]
    exact MAnsB.zero ((((K.out.setCell (p := ⟨w.heap.size + 1, _, none⟩) (by dsimp only; omega) _).setCell (p := ⟨w.heap.size + 1, _, none⟩) (by dsimp only; omega) _).setCell (p := ⟨w.heap.size + 1, _, none⟩) (by dsimp only; omega) _).setCell (p := ⟨w.heap.size + 1, _, none⟩) (by dsimp only; omega) _)
  | true =>
    obtain ⟨⟨uc, uk, ul, uj, ud, ui⟩, p, gk, gr, rfl, mr⟩ := t2 hB
    clear t1 t2
    simp only [MV.own]
    have hS := hidOf (MSm.of_mach hB)
    have HU : Hid (UpR m.copies) := mach_up hB
    obtain ⟨X1, hX1⟩ : ∃ X, X = w1.alloc (.cells #[.slice ul m.log.length uj, .bool m.alive, .slice uc m.copies.length uk, .slice ud m.cleared.length ui] 85) := ⟨_, rfl⟩
    have bA : Below w1.heap.size w1 X1 := by rw [hX1]; exact (Below.refl _ _).alloc (Nat.le_refl _) _
    have s1 : X1.heap.size = w1.heap.size + 1 := by rw [hX1]; simp
    have b1A := b1.trans (bA.mono b1.size)
    have u0 : X1.cell? ⟨w1.heap.size, 0, none⟩ = some (.slice ul m.log.length uj) := by rw [hX1]; go_simp
    have u1 : X1.cell? ⟨w1.heap.size, 1, none⟩ = some (.bool m.alive) := by rw [hX1]; go_simp
    have u2 : X1.cell? ⟨w1.heap.size, 2, none⟩ = some (.slice uc m.copies.length uk) := by rw [hX1]; go_simp
    have u3 : X1.cell? ⟨w1.heap.size, 3, none⟩ = some (.slice ud m.cleared.length ui) := by rw [hX1]; go_simp
    have uf : X1.frozen? ⟨w1.heap.size, 2, none⟩ = false := by rw [hX1]; go_simp
    have bw := H.out.1.trans (b1A.mono H.out.1.size)
    have K1 : Hid (Below w.heap.size w X1 ∧ X1.heap[w.heap.size + 1]? = some (.cells #[.bool false, .slice none 0 0, .slice none 0 0, .slice none 0 0] 28 (0, 0)) ∧ MR W.heap.size w1.heap.size X1 (.slice uc m.copies.length uk) (.slice ul m.log.length uj) (.slice ud m.cleared.length ui) m.copies m.log m.cleared gk gr ∧ w1.heap.size < X1.heap.size ∧ w.heap.size + 2 ≤ W.heap.size ∧ W.heap.size ≤ w1.heap.size ∧ SlC X1 W.heap.size a cs.length cs ∧ (X1.cell? ⟨w1.heap.size, 0, none⟩ = some (.slice ul m.log.length uj) ∧ X1.cell? ⟨w1.heap.size, 1, none⟩ = some (.bool m.alive) ∧ X1.cell? ⟨w1.heap.size, 2, none⟩ = some (.slice uc m.copies.length uk) ∧ X1.cell? ⟨w1.heap.size, 3, none⟩ = some (.slice ud m.cleared.length ui) ∧ X1.frozen? ⟨w1.heap.size, 2, none⟩ = false)) := ⟨bw, (b1A.block _ (by have := H.out.2.1; omega)).trans H.out.2.2.1, ((mr.mono (by omega)).out (.inr (Nat.le_refl _))).later bA, by omega, by have := H.out.2.1; omega, b1.size, H.out.2.2.2.below b1A, u0, u1, u2, u3, uf⟩
    have hc := implRegion X1 y
    clear mr bA b1A b1 s1 u0 u1 u2 u3 uf bw H
    go_wp2_with fail
    rw [← hX1]
    clear hX1
    refine hc.mono ?_
    clear hc
    rintro e w2 ⟨rfl, rfl⟩
    cases hI : inB 0 5 y with
    | false =>
      have HN : Hid (repM m y cs = zM ∧ repB m y cs = false) := by
        have e : repB m y cs = false := by simp [repB, hI]
        exact ⟨by simp [repM, e, zM], e⟩
      obtain ⟨z0, z1, z2, z3, zf⟩ := zeroBoxM (K1.out.2.1)
      have f0 := zf 0
      have f1 := zf 1
      have f2 := zf 2
      have f3 := zf 3
      have K := hidOf (K1.out.1)
      clear zf
      go_wp2
      refine bodyPost_ret (v := .tuple #[.agg #[.bool false, .slice none 0 0, .slice none 0 0, .slice none 0 0], .bool false]) (by simp [results, Tryz.results12, go_sem, z0, z1, z2, z3]) rfl ?_
      rw [HN.out.1, HN.out.2]
      exact MAnsB.zero ((((K.out.setCell (p := ⟨w.heap.size + 1, _, none⟩) (by dsimp only; omega) _).setCell (p := ⟨w.heap.size + 1, _, none⟩) (by dsimp only; omega) _).setCell (p := ⟨w.heap.size + 1, _, none⟩) (by dsimp only; omega) _).setCell (p := ⟨w.heap.size + 1, _, none⟩) (by dsimp only; omega) _)
    | true =>
      have hc := implCellsOk_any w2 a cs.length cap cs hcl (K1.out.2.2.2.2.2.2.1.mono (by have := K1.out; omega))
      go_wp2_with fail
      refine hc.mono ?_
      clear hc
      rintro e w3 ⟨rfl, b3⟩
      have K2 : Hid (Below w.heap.size w w3 ∧ w3.heap[w.heap.size + 1]? = some (.cells #[.bool false, .slice none 0 0, .slice none 0 0, .slice none 0 0] 28 (0, 0)) ∧ MR W.heap.size w1.heap.size w3 (.slice uc m.copies.length uk) (.slice ul m.log.length uj) (.slice ud m.cleared.length ui) m.copies m.log m.cleared gk gr ∧ w1.heap.size < w3.heap.size ∧ w.heap.size + 2 ≤ W.heap.size ∧ W.heap.size ≤ w1.heap.size ∧ SlC w3 W.heap.size a cs.length cs ∧ (w3.cell? ⟨w1.heap.size, 0, none⟩ = some (.slice ul m.log.length uj) ∧ w3.cell? ⟨w1.heap.size, 1, none⟩ = some (.bool m.alive) ∧ w3.cell? ⟨w1.heap.size, 2, none⟩ = some (.slice uc m.copies.length uk) ∧ w3.cell? ⟨w1.heap.size, 3, none⟩ = some (.slice ud m.cleared.length ui) ∧ w3.frozen? ⟨w1.heap.size, 2, none⟩ = false)) := by
        obtain ⟨k1, k2, k3, k4, k5, k6, k7, u0, u1, u2, u3, uf⟩ := K1.out
        exact ⟨k1.trans (b3.mono k1.size), (b3.block _ (by omega)).trans k2, k3.later b3, Nat.lt_of_lt_of_le k4 b3.size, k5, k6, k7.below (b3.mono (by omega)), (b3.cell (p := ⟨w1.heap.size, 0, none⟩) k4).trans u0, (b3.cell (p := ⟨w1.heap.size, 1, none⟩) k4).trans u1, (b3.cell (p := ⟨w1.heap.size, 2, none⟩) k4).trans u2, (b3.cell (p := ⟨w1.heap.size, 3, none⟩) k4).trans u3, (b3.frozen (p := ⟨w1.heap.size, 2, none⟩) k4).trans uf⟩
      clear b3 K1
      cases hC : cellsB cs with
      | false =>
        have HN : Hid (repM m y cs = zM ∧ repB m y cs = false) := by
          have e : repB m y cs = false := by simp [repB, hC]
          exact ⟨by simp [repM, e, zM], e⟩
        obtain ⟨z0, z1, z2, z3, zf⟩ := zeroBoxM (K2.out.2.1)
        have f0 := zf 0
        have f1 := zf 1
        have f2 := zf 2
        have f3 := zf 3
        have K := hidOf (K2.out.1)
        clear zf
        go_wp2
        refine bodyPost_ret (v := .tuple #[.agg #[.bool false, .slice none 0 0, .slice none 0 0, .slice none 0 0], .bool false]) (by simp [results, Tryz.results12, go_sem, z0, z1, z2, z3]) rfl ?_
        rw [HN.out.1, HN.out.2]
        exact MAnsB.zero ((((K.out.setCell (p := ⟨w.heap.size + 1, _, none⟩) (by dsimp only; omega) _).setCell (p := ⟨w.heap.size + 1, _, none⟩) (by dsimp only; omega) _).setCell (p := ⟨w.heap.size + 1, _, none⟩) (by dsimp only; omega) _).setCell (p := ⟨w.heap.size + 1, _, none⟩) (by dsimp only; omega) _)
      | true =>
        have HN : Hid (repM m y cs = (⟨m.alive, repK m.copies y cs, m.log, m.cleared⟩ : M4) ∧ repB m y cs = true) := by
          have e : repB m y cs = true := by simp [repB, hB, hI, hC]
          exact ⟨by simp [repM, e], e⟩
        have h6 := hidOf (cells_six hC)
        obtain ⟨k1, k2, k3, k4, k5, k6, k7, u0, u1, u2, u3, uf⟩ := K2.out
        have hc := replace_any w3 W.heap.size w1.heap.size (.slice ul m.log.length uj) (.slice ud m.cleared.length ui) uc uk m.copies m.log m.cleared gk gr y a cap cs k3 u2 uf k4 k6 (by have := hS.out.k; omega) HU.out (by have := h6.out; omega) (by have := h6.out; omega) k7
        obtain ⟨ks', hks⟩ : ∃ ks', ks' = repK m.copies y cs := ⟨_, rfl⟩
        rw [← hks] at hc
        have HKS := hidOf hks
        clear hks
        have KX : Hid (Below w.heap.size w w3 ∧ w3.heap[w.heap.size + 1]? = some (.cells #[.bool false, .slice none 0 0, .slice none 0 0, .slice none 0 0] 28 (0, 0)) ∧ w1.heap.size < w3.heap.size ∧ w.heap.size + 2 ≤ W.heap.size ∧ w3.cell? ⟨w1.heap.size, 0, none⟩ = some (.slice ul m.log.length uj) ∧ w3.cell? ⟨w1.heap.size, 1, none⟩ = some (.bool m.alive) ∧ w3.cell? ⟨w1.heap.size, 3, none⟩ = some (.slice ud m.cleared.length ui) ∧ W.heap.size ≤ w1.heap.size) := ⟨k1, k2, k4, k5, u0, u1, u3, k6⟩
        clear k1 k2 k3 k4 k5 k6 k7 u0 u1 u2 u3 uf K2
        go_wp2_with fail
        refine hc.mono ?_
        clear hc
        rintro e w4 ⟨⟨u, rfl⟩, ac', cc', gk', o2, mr4, ot, b4⟩
        obtain ⟨k1, k2, k4, k5, u0, u1, u3, k6⟩ := KX.out
        have hgv := given_any w4 w1.heap.size m.alive ul m.log.length uj ac' ks'.length cc' ud m.cleared.length ui ((ot 0 (by omega)).trans u0) ((ot 1 (by omega)).trans u1) o2 ((ot 3 (by omega)).trans u3) (Nat.lt_of_lt_of_le k4 b4.size)
        have K3 : Hid (Below w.heap.size w w4 ∧ w4.heap[w.heap.size + 1]? = some (.cells #[.bool false, .slice none 0 0, .slice none 0 0, .slice none 0 0] 28 (0, 0)) ∧ MR W.heap.size w1.heap.size w4 (.slice ac' ks'.length cc') (.slice ul m.log.length uj) (.slice ud m.cleared.length ui) ks' m.log m.cleared gk' gr ∧ w.heap.size + 2 ≤ W.heap.size) := ⟨k1.trans (b4.mono (by omega)), (b4.block _ (by omega)).trans k2, mr4, k5⟩
        have hl3 : w.heap.size + 1 < w4.heap.size := by have := b4.size; omega
        clear o2 mr4 ot b4 k1 k2 k4 k5 k6 u0 u1 u3 KX
        go_wp2_with fail
        refine hgv.mono ?_
        clear hgv
        rintro e w5 ⟨rfl, b5⟩
        have K4 : Hid (Below w.heap.size w w5 ∧ MR W.heap.size w1.heap.size w5 (.slice ac' ks'.length cc') (.slice ul m.log.length uj) (.slice ud m.cleared.length ui) ks' m.log m.cleared gk' gr ∧ w.heap.size + 2 ≤ W.heap.size) := ⟨K3.out.1.trans (b5.mono K3.out.1.size), K3.out.2.2.1.later b5, K3.out.2.2.2⟩
        obtain ⟨z0, z1, z2, z3, zf⟩ := zeroBoxM ((b5.block _ hl3).trans K3.out.2.1)
        have f0 := zf 0
        have f1 := zf 1
        have f2 := zf 2
        have f3 := zf 3
        clear zf b5 K3 hl3
        go_wp2
        refine bodyPost_ret (v := .tuple #[.agg #[.bool m.alive, .slice ac' ks'.length cc', .slice ul m.log.length uj, .slice ud m.cleared.length ui], .bool true]) (by simp [results, Tryz.results12, go_sem, z0, z1, z2, z3]) rfl ?_
        rw [HN.out.1, HN.out.2, ← HKS.out]
        exact MAnsB.of (m := (⟨m.alive, ks', m.log, m.cleared⟩ : M4)) (v := ⟨ac', cc', ul, uj, ud, ui⟩) (b := w.heap.size + 1) rfl rfl rfl K4.out.2.1 K4.out.1 (by have := K4.out.2.2; omega) (by omega)
end Go.Proofs.YtooalbdlknheeaaGreat
/- What Copied answers: the specification's and the program's. -/
namespace Go.Proofs.YtooalbdlknheeaaGreat
open Go.RowKit
/-- What Copied answers, in memory of its own. -/
def CopAns (w : World) (m : M4) (y : Int) (e : Ending) (w' : World) : Prop :=
  ∃ (a : Option Addr) (cp : Nat), e = .returned (.tuple #[.slice a (ansL m y).length cp, .bool (ansB m y)]) ∧ OwnCl w' w.heap.size a (ansL m y) ∧ Below w.heap.size w w'
set_option maxHeartbeats 2000000 in
theorem implCopied_any (w : World) (v : MV) (m : M4) (y : Int) (hl : ML m) (hs : SlM w v m) : Calls Tryz.prog 15 #[v.val m, .int .i64 y] w (CopAns w m y) := by
  obtain ⟨ac, cc, al, cl, ad, cd⟩ := v
  simp only [MV.val]
  obtain ⟨W, hW⟩ : ∃ W, W = w.alloc (.cells #[.bool m.alive, .slice ac m.copies.length cc, .slice al m.log.length cl, .slice ad m.cleared.length cd] 28) := ⟨_, rfl⟩
  have b0 : Below w.heap.size w W := by subst hW; exact (Below.refl _ _).alloc (Nat.le_refl _) _
  have ht := take_any W ⟨ac, cc, al, cl, ad, cd⟩ m hl (hs.later b0)
  simp only [MV.val] at ht
  have H := hidOf b0
  clear hl hs b0
  subst hW
  go_enter Tryz.func15, Tryz.ntmps15
  go_wp2_with fail
  generalize w.alloc (.cells #[.bool m.alive, .slice ac m.copies.length cc, .slice al m.log.length cl, .slice ad m.cleared.length cd] 28) = W at *
  refine ht.mono ?_
  clear ht
  rintro e w1 ⟨t1, t2, b1⟩
  have B1 : Hid (Below w.heap.size w w1) := H.out.trans (b1.mono H.out.size)
  have bad : ∀ (X : World), Below w.heap.size w X → ansC m y = none → CopAns w m y (.returned (.tuple #[.slice none 0 0, .bool false])) X := fun X hX h =>
    ⟨none, 0, by simp [ansL, ansB, h], .inl (by simp [ansL, h]), hX⟩
  have BAD := hidOf bad
  clear bad
  cases hB : machB m with
  | false =>
    obtain rfl := t1 hB
    clear t1 t2 b1
    simp only [noM]
    go_wp2
    exact bodyPost_ret (v := .tuple #[.slice none 0 0, .bool false]) (by simp [results, Tryz.results15, go_sem]) rfl (BAD.out _ (B1.out.alloc B1.out.size _) (ansC_bad y hB))
  | true =>
    obtain ⟨⟨uc, uk, ul, uj, ud, ui⟩, p, gk, gr, rfl, mr⟩ := t2 hB
    clear t1 t2
    simp only [MV.own]
    have bA : Below w1.heap.size w1 (w1.alloc (.cells #[.slice ul m.log.length uj, .bool m.alive, .slice uc m.copies.length uk, .slice ud m.cleared.length ui] 85)) := (Below.refl _ _).alloc (Nat.le_refl _) _
    have mrA := mr.later bA
    have cA : (w1.alloc (.cells #[.slice ul m.log.length uj, .bool m.alive, .slice uc m.copies.length uk, .slice ud m.cleared.length ui] 85)).cell? ⟨w1.heap.size, 2, none⟩ = some (.slice uc m.copies.length uk) := by go_simp
    have hS := MSm.of_mach hB
    have hf := findCopy_any (w1.alloc (.cells #[.slice ul m.log.length uj, .bool m.alive, .slice uc m.copies.length uk, .slice ud m.cleared.length ui] 85)) w1.heap.size uc uk m.copies y (by have := hS.k; omega) (mach_up hB) (MR.om (v := ⟨uc, uk, ul, uj, ud, ui⟩) mrA).sl.k cA
    have K : Hid (MR (W.heap.size + 2) p (w1.alloc (.cells #[.slice ul m.log.length uj, .bool m.alive, .slice uc m.copies.length uk, .slice ud m.cleared.length ui] 85)) (.slice uc m.copies.length uk) (.slice ul m.log.length uj) (.slice ud m.cleared.length ui) m.copies m.log m.cleared gk gr ∧ Below w.heap.size w (w1.alloc (.cells #[.slice ul m.log.length uj, .bool m.alive, .slice uc m.copies.length uk, .slice ud m.cleared.length ui] 85)) ∧ w1.heap.size < (w1.alloc (.cells #[.slice ul m.log.length uj, .bool m.alive, .slice uc m.copies.length uk, .slice ud m.cleared.length ui] 85)).heap.size ∧ MSm m) := ⟨mrA, B1.out.trans (bA.mono B1.out.size), by simp, hS⟩
    clear mr mrA bA b1 hS
    go_wp2_with fail
    generalize (w1.alloc (.cells #[.slice ul m.log.length uj, .bool m.alive, .slice uc m.copies.length uk, .slice ud m.cleared.length ui] 85)) = W2 at *
    refine hf.mono ?_
    clear hf
    rintro e w3 ⟨i, rfl, hp, b3⟩
    have HP := hidOf hp
    clear hp
    cases hF : foundK m.copies y i with
    | false =>
      have HN : Hid (ansC m y = none) := ansC_none (fun j hj e => by
        rcases Nat.lt_or_ge j i with h | h
        · have := HP.out.lo j h; omega
        · have h1 := HP.out.hi j h hj
          by_cases h2 : i < m.copies.length
          · have h3 := HP.out.hi i (Nat.le_refl _) h2
            by_cases e' : i = j
            · subst e'; simp [foundK, h2, e] at hF
            · have := mach_up hB i j (by omega) hj
              have h4 : (atK m.copies i).region ≠ y := fun e'' => by simp [foundK, h2, e''] at hF
              omega
          · omega)
      have K3 : Hid (Below w.heap.size w w3) := K.out.2.1.trans (b3.mono K.out.2.1.size)
      clear b3
      go_wp2
      exact bodyPost_ret (v := .tuple #[.slice none 0 0, .bool false]) (by simp [results, Tryz.results15, go_sem]) rfl (BAD.out _ K3.out HN.out)
    | true =>
      simp only [foundK, Bool.and_eq_true, decide_eq_true_eq] at hF
      have HN : Hid (ansC m y = some (atK m.copies i).cells) := ansC_first hB hF.1 hF.2 (fun j hj e => by have := HP.out.lo j hj; omega)
      have hne : m.copies ≠ [] := fun e => by rw [e] at hF; simp at hF
      have mr3 := K.out.1.later b3
      obtain ⟨b, cap, ev, hb1, hb2, _, _, og⟩ := GrowG.own (hd := hdK) (sz := 2) (fun _ => rfl) mr3.gK hne
      have ea : uc = some ⟨b, 0, none⟩ := by injection ev
      subst ea
      obtain ⟨cp, t1, t2⟩ := og.tail i _ (atK_of hF.1)
      have at1 := og.sub i _ (atK_of hF.1)
      have lt1 := og.lt i hF.1
      have lo1 := og.low i hF.1
      simp only [lnK, Nat.reduceSub] at t1
      have c3 : w3.cell? ⟨w1.heap.size, 2, none⟩ = some (.slice (some ⟨b, 0, none⟩) m.copies.length uk) := (b3.cell (p := ⟨w1.heap.size, 2, none⟩) K.out.2.2.1).trans cA
      have hi2 : (i : Int) < (m.copies.length : Int) := by omega
      have KA : Hid (CopAns w m y (.returned (.tuple #[.slice (some ⟨gk i, 0, none⟩) (atK m.copies i).cells.length cp, .bool true])) w3) :=
        ⟨some ⟨gk i, 0, none⟩, cp, by simp [ansL, ansB, HN.out], .inr ⟨gk i, rfl, by have := H.out.size; omega, lt1, by simpa [ansL, HN.out] using at1.1, by simpa [ansL, HN.out] using at1.2⟩, K.out.2.1.trans (b3.mono K.out.2.1.size)⟩
      clear b3 mr3 og at1 lt1 lo1 ev hb1 hb2 t2 cA
      go_wp2
      exact bodyPost_ret (v := .tuple #[.slice (some ⟨gk i, 0, none⟩) (atK m.copies i).cells.length cp, .bool true]) (by simp [results, Tryz.results15, go_sem]) rfl KA.out
end Go.Proofs.YtooalbdlknheeaaGreat
/- What is true of the machines that Replace and Append answer: lists alone. -/
namespace Go.Proofs.YtooalbdlknheeaaGreat
open Go.RowKit
theorem ml_of_mach {m : M4} (h : machB m = true) : ML m := by
  have hs := MSm.of_mach h
  refine ⟨by have := hs.k; unfold maxLen; omega, fun c hc => by have := hs.ks c hc; unfold maxLen; omega, by have := hs.r; unfold maxLen; omega, fun c hc => by have := (hs.rs c hc).2; unfold maxLen; omega, by have := hs.n; unfold maxLen; omega⟩
theorem ml_zero : ML ⟨false, [], [], []⟩ := ⟨by simp, by simp, by simp, by simp, by simp⟩
theorem posR_le (ks : List K2) (y : Int) : posR ks y ≤ ks.length := List.findIdx_le_length
theorem posR_lo {ks : List K2} {y : Int} {j : Nat} (h : j < posR ks y) : (atK ks j).region < y := by
  have hl : j < ks.length := Nat.lt_of_lt_of_le h (posR_le ks y)
  have := List.not_of_lt_findIdx (xs := ks) (p := fun k : K2 => !decide (k.region < y)) h
  rw [atK_get hl]
  simpa using this
theorem posR_hi {ks : List K2} {y : Int} (h : posR ks y < ks.length) : ¬ (atK ks (posR ks y)).region < y := by
  have := List.findIdx_getElem (xs := ks) (p := fun k : K2 => !decide (k.region < y)) (w := h)
  rw [atK_get h]
  unfold posR
  simpa using this
theorem cop_at {ks : List K2} (h : (List.range ks.length).all (copB ks) = true) {i : Nat} (hi : i < ks.length) : (0 ≤ (atK ks i).region ∧ (atK ks i).region ≤ 5) ∧ cellsB (atK ks i).cells = true ∧ (i = 0 ∨ (atK ks (i - 1)).region < (atK ks i).region) := by
  have := List.all_eq_true.1 h i (List.mem_range.2 hi)
  simp only [copB, Bool.and_eq_true, Bool.or_eq_true, decide_eq_true_eq, inB_iff] at this
  exact ⟨this.1.1, this.1.2, this.2⟩
theorem cop_mk {ks : List K2} (h : ∀ i, i < ks.length → (0 ≤ (atK ks i).region ∧ (atK ks i).region ≤ 5) ∧ cellsB (atK ks i).cells = true ∧ (i = 0 ∨ (atK ks (i - 1)).region < (atK ks i).region)) : (List.range ks.length).all (copB ks) = true := by
  refine List.all_eq_true.2 fun i hi => ?_
  obtain ⟨a, b, c⟩ := h i (List.mem_range.1 hi)
  simp only [copB, Bool.and_eq_true, Bool.or_eq_true, decide_eq_true_eq, inB_iff]
  exact ⟨⟨a, b⟩, c⟩
theorem cop_len {ks : List K2} (h : (List.range ks.length).all (copB ks) = true) : ks.length ≤ 6 := by
  have key : ∀ j, j < ks.length → (j : Int) ≤ (atK ks j).region := by
    intro j
    induction j with
    | zero => intro hj; have := (cop_at h hj).1.1; simpa using this
    | succ j ih =>
      intro hj
      have h1 := ih (by omega)
      rcases (cop_at h hj).2.2 with h2 | h2
      · omega
      · rw [Nat.add_sub_cancel] at h2; omega
  by_cases e : ks.length = 0
  · omega
  · have h1 := key (ks.length - 1) (by omega)
    have h2 := (cop_at h (i := ks.length - 1) (by omega)).1.2
    omega
theorem rep_all {ks : List K2} {y : Int} {cs : List C2} (h : (List.range ks.length).all (copB ks) = true) (hy : 0 ≤ y ∧ y ≤ 5) (hc : cellsB cs = true) :
    (List.range (repK ks y cs).length).all (copB (repK ks y cs)) = true ∧ (repK ks y cs).find? (fun c => decide (c.region = y)) = some ⟨y, cs⟩ := by
  have hi := posR_le ks y
  have hlo := fun j => posR_lo (ks := ks) (y := y) (j := j)
  have hhi := posR_hi (ks := ks) (y := y)
  unfold repK
  generalize posR ks y = i at *
  split
  · next hf =>
    simp only [foundK, Bool.and_eq_true, decide_eq_true_eq] at hf
    obtain ⟨f1, f2⟩ := hf
    have hs : ∀ j, j ≠ i → atK (ks.set i ⟨y, cs⟩) j = atK ks j := fun j hj => by simp only [atK]; rw [List.getElem?_set_ne (Ne.symm hj)]
    have hm : atK (ks.set i ⟨y, cs⟩) i = ⟨y, cs⟩ := by simp only [atK]; rw [List.getElem?_set_self f1]; rfl
    have hr : ∀ j, (atK (ks.set i ⟨y, cs⟩) j).region = (atK ks j).region := fun j => by
      by_cases e : j = i
      · rw [e, hm, f2]
      · rw [hs j e]
    constructor
    · refine cop_mk fun j hj => ?_
      rw [List.length_set] at hj
      obtain ⟨a, b, c⟩ := cop_at h hj
      rw [hr, hr]
      refine ⟨a, ?_, c⟩
      by_cases e : j = i
      · rw [e, hm]; exact hc
      · rw [hs j e]; exact b
    · have := find_at (ks := ks.set i ⟨y, cs⟩) (y := y) (k := i) (by rw [List.length_set]; exact f1) (by rw [hm]) (fun j hj => by rw [hr]; have := hlo j hj; omega)
      rw [this, hm]
  · next hf =>
    have hlos : ∀ j, j < i → atK (insKL ks i ⟨y, cs⟩) j = atK ks j := fun j hj => by simp only [atK]; rw [insKL_get hi, if_pos hj]
    have hm : atK (insKL ks i ⟨y, cs⟩) i = ⟨y, cs⟩ := by simp only [atK]; rw [insKL_get hi, if_neg (by omega), if_pos rfl]; rfl
    have hhis : ∀ j, i < j → atK (insKL ks i ⟨y, cs⟩) j = atK ks (j - 1) := fun j hj => by simp only [atK]; rw [insKL_get hi, if_neg (by omega), if_neg (by omega)]
    constructor
    · refine cop_mk fun j hj => ?_
      rw [insKL_len hi] at hj
      by_cases h1 : j < i
      · rw [hlos j h1]
        obtain ⟨a, b, c⟩ := cop_at h (i := j) (by omega)
        refine ⟨a, b, ?_⟩
        rcases c with c | c
        · exact .inl c
        · exact .inr (by rw [hlos _ (by omega)]; exact c)
      · by_cases h2 : j = i
        · subst h2
          rw [hm]
          refine ⟨hy, hc, ?_⟩
          by_cases h0 : j = 0
          · exact .inl h0
          · exact .inr (by rw [hlos _ (by omega)]; exact hlo _ (by omega))
        · rw [hhis j (by omega)]
          obtain ⟨a, b, c⟩ := cop_at h (i := j - 1) (by omega)
          refine ⟨a, b, .inr ?_⟩
          by_cases h3 : j - 1 = i
          · rw [h3, hm]
            have hx := hhi (by omega)
            have hne : (atK ks i).region ≠ y := fun e => hf (by simp only [foundK, Bool.and_eq_true, decide_eq_true_eq]; exact ⟨by omega, e⟩)
            show y < _
            omega
          · rw [hhis _ (by omega)]
            rcases c with c | c
            · omega
            · exact c
    · have := find_at (ks := insKL ks i ⟨y, cs⟩) (y := y) (k := i) (by rw [insKL_len hi]; omega) (by rw [hm]) (fun j hj => by rw [hlos j hj]; have := hlo j hj; omega)
      rw [this, hm]
theorem rep_mach {m : M4} {y : Int} {cs : List C2} (h : repB m y cs = true) : machB (repM m y cs) = true ∧ ansL (repM m y cs) y = cs ∧ ansB (repM m y cs) y = true := by
  have h0 := h
  simp only [repB, Bool.and_eq_true] at h0
  obtain ⟨⟨hm, hy⟩, hc⟩ := h0
  rw [inB_iff] at hy
  have hM : repM m y cs = ⟨m.alive, repK m.copies y cs, m.log, m.cleared⟩ := by rw [repM, if_pos h]
  simp only [machB, Bool.and_eq_true, decide_eq_true_eq] at hm
  obtain ⟨⟨⟨⟨⟨h1, h2⟩, h3⟩, h4⟩, h5⟩, h6⟩ := hm
  obtain ⟨r1, r2⟩ := rep_all h5 hy hc
  have hB : machB (repM m y cs) = true := by
    rw [hM]
    simp only [machB, Bool.and_eq_true, decide_eq_true_eq]
    exact ⟨⟨⟨⟨⟨cop_len r1, h2⟩, h3⟩, h4⟩, r1⟩, h6⟩
  refine ⟨hB, ?_, ?_⟩
  · rw [ansL, ansC, if_pos hB, hM]
    simp only [r2]
    rfl
  · rw [ansB, ansC, if_pos hB, hM]
    simp only [r2]
    rfl
theorem rep_ml (m : M4) (y : Int) (cs : List C2) : ML (repM m y cs) := by
  by_cases h : repB m y cs = true
  · exact ml_of_mach (rep_mach h).1
  · rw [repM, if_neg h]; exact ml_zero
theorem app_parts {m : M4} {r : R4} (h : appB m r = true) : machB m = true ∧ recB r.kind r.tx r.region r.sets = true ∧ m.log.length ≠ 200 := by
  simp only [appB, Bool.and_eq_true, Bool.not_eq_true', decide_eq_false_iff_not] at h
  exact ⟨h.1.1, h.1.2, h.2⟩
theorem app_eq {m : M4} {r : R4} (h : appB m r = true) : appM m r = ⟨m.alive, m.copies, m.log ++ [r], m.cleared⟩ := by rw [appM, if_pos (app_parts h)]
theorem app_not {m : M4} {r : R4} (h : appB m r = false) : appM m r = ⟨false, [], [], []⟩ := by
  rw [appM, if_neg]
  · rfl
  · intro e
    have : appB m r = true := by simp only [appB, Bool.and_eq_true, Bool.not_eq_true', decide_eq_false_iff_not]; exact ⟨⟨e.1, e.2.1⟩, e.2.2⟩
    rw [this] at h; cases h
theorem app_mach {m : M4} {r : R4} (h : appB m r = true) : machB (appM m r) = true := by
  obtain ⟨hm, hr, hn⟩ := app_parts h
  rw [app_eq h]
  simp only [machB, Bool.and_eq_true, decide_eq_true_eq] at hm ⊢
  obtain ⟨⟨⟨⟨⟨h1, h2⟩, h3⟩, h4⟩, h5⟩, h6⟩ := hm
  refine ⟨⟨⟨⟨⟨h1, by simp; omega⟩, h3⟩, h4⟩, h5⟩, ?_⟩
  rw [log_all, List.all_eq_true] at h6 ⊢
  intro x hx
  rcases List.mem_append.1 hx with hx | hx
  · exact h6 x hx
  · rw [List.mem_singleton.1 hx]; exact hr
theorem app_ml (m : M4) (r : R4) : ML (appM m r) := by
  cases h : appB m r with
  | true => exact ml_of_mach (app_mach h)
  | false => rw [app_not h]; exact ml_zero
/-- What is asked of the machine that a record was put into. -/
theorem app_all {m : M4} {r : R4} (h : appB m r = true) :
    machB (appM m r) = true ∧ ansH (appM m r) r.tx r.region r.kind = true ∧ (ansV (appM m r) r.tx r.region r.kind).tx = r.tx ∧ clearB (appM m r) r.tx false = true ∧ ansH (clearM (appM m r) r.tx r.region false) r.tx r.region r.kind = false ∧ (appM m r).log.length = m.log.length + 1 ∧ (clearM (appM m r) r.tx r.region false).cleared = m.cleared := by
  have hB := app_mach h
  obtain ⟨hm, hr, hn⟩ := app_parts h
  have hmem : r ∈ (appM m r).log := by rw [app_eq h]; simp
  have hcl : clearB (appM m r) r.tx false = true := by
    have ht : inB 1 1000000 r.tx = true := by simp only [recB, Bool.and_eq_true] at hr; exact hr.1.1.1.1.1.2
    simp [clearB, hB, ht]
  have hfs : ((appM m r).log.find? (lgB r.tx r.region r.kind)).isSome = true := by
    rw [List.find?_isSome]
    exact ⟨r, hmem, by simp [lgB, ofB]⟩
  obtain ⟨f, hf⟩ := Option.isSome_iff_exists.1 hfs
  have hft := List.find?_some hf
  refine ⟨hB, ?_, ?_, hcl, ?_, ?_, ?_⟩
  · rw [ansH, ansR, if_pos hB]; exact hfs
  · rw [ansV, ansR, if_pos hB, hf]
    simp only [lgB, ofB, Bool.and_eq_true, beq_iff_eq] at hft
    exact hft.1.1
  · rw [ansH, ansR, if_pos (clear_mach hcl)]
    have : (clearM (appM m r) r.tx r.region false).log.find? (lgB r.tx r.region r.kind) = none := by
      rw [List.find?_eq_none]
      intro x hx
      rw [clearM, if_pos hcl] at hx
      have := (List.mem_filter.1 hx).2
      simp only [Bool.not_eq_true'] at this
      simp [lgB, this]
    rw [this]; rfl
  · rw [app_eq h]; simp
  · rw [clearM, if_pos hcl]
    simp only [clearD]
    rw [app_eq h]
    rfl
end Go.Proofs.YtooalbdlknheeaaGreat
