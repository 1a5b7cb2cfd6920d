/- Replace of the specification. -/
import Derived.Test.YtooalbdlknheeaaGreatRows
import Derived.Test.YtooalbdlknheeaaGreatRepLJ
import Derived.Test.YtooalbdlknheeaaGreatClrSJ
import Derived.WalkKit
import Derived.WalkSpells
import Derived.WalkLawsBesides
import Derived.Below
import Derived.Deep.CutRange
namespace Go.Proofs.YtooalbdlknheeaaGreat
open Go.RowKit
set_option maxRecDepth 100000 in
set_option maxHeartbeats 4000000 in
theorem specReplace_any (w : World) (v : MV) (m : M4) (y : Int) (a : Option Addr) (cap : Nat) (cs : List C2) (hl : ML m) (hs : SlM w v m) (hcl : cs.length ≤ maxLen) (hsc : SlC w w.heap.size a cs.length cs) : Calls Tryz.prog 13 #[v.val m, .int .i64 y, .slice a cs.length cap] w (MAnsB w (repM m y cs) (repB m y cs)) := by
  obtain ⟨ac, cc, al, cl, ad, cd⟩ := v
  simp only [MV.val]
  obtain ⟨W, hW⟩ : ∃ W, W = (w.alloc (.cells #[.bool m.alive, .slice ac m.copies.length cc, .slice al m.log.length cl, .slice ad m.cleared.length cd] 28)).alloc (.cells #[.bool false, .slice none 0 0, .slice none 0 0, .slice none 0 0] 28) := ⟨_, rfl⟩
  have b0 : Below w.heap.size w W := by subst hW; exact ((Below.refl _ _).alloc (Nat.le_refl _) _).alloc (by simp) _
  have x0 : BC w.heap.size m.alive (.slice ac m.copies.length cc) (.slice al m.log.length cl) (.slice ad m.cleared.length cd) W := by subst hW; exact BC.made w m ac cc al cl ad cd
  have hm := specMachineOk_any W ⟨ac, cc, al, cl, ad, cd⟩ m hl.k hl.r hl.n hl.ks hl.rs (hs.later b0)
  simp only [MV.val] at hm
  have H : Hid (Below w.heap.size w W ∧ BC w.heap.size m.alive (.slice ac m.copies.length cc) (.slice al m.log.length cl) (.slice ad m.cleared.length cd) W ∧ SlM w ⟨ac, cc, al, cl, ad, cd⟩ m ∧ SlC w w.heap.size a cs.length cs ∧ ML m) := ⟨b0, x0, hs, hsc, hl⟩
  clear b0 x0 hs hl hsc
  go_enter Tryz.func13, Tryz.ntmps13
  go_wp2_with fail
  rw [← hW]
  clear hW
  refine hm.mono ?_
  clear hm
  rintro e w1 ⟨rfl, b1⟩
  have K1 : Hid (Below w.heap.size w w1 ∧ BC w.heap.size m.alive (.slice ac m.copies.length cc) (.slice al m.log.length cl) (.slice ad m.cleared.length cd) w1 ∧ SlM w1 ⟨ac, cc, al, cl, ad, cd⟩ m ∧ SlC w1 w1.heap.size a cs.length cs) := by
    have bb := H.out.1.trans (b1.mono H.out.1.size)
    exact ⟨bb, H.out.2.1.later b1, H.out.2.2.1.later bb, H.out.2.2.2.1.later bb⟩
  have HML := hidOf H.out.2.2.2.2
  clear b1 H
  cases hB : machB m with
  | false =>
    have HN : Hid (repM m y cs = zM ∧ repB m y cs = false) := by
      have e : repB m y cs = false := by simp [repB, hB]
      exact ⟨by simp [repM, e, zM], e⟩
    obtain ⟨z0, z1, z2, z3, zf⟩ := zeroBoxM (K1.out.2.1.z)
    have f0 := zf 0
    have f1 := zf 1
    have f2 := zf 2
    have f3 := zf 3
    have K := hidOf (K1.out.1)
    clear zf
    go_wp2
    refine bodyPost_ret (v := .tuple #[.agg #[.bool false, .slice none 0 0, .slice none 0 0, .slice none 0 0], .bool false]) (by simp [results, Tryz.results13, go_sem, z0, z1, z2, z3]) rfl ?_
    rw [HN.out.1, HN.out.2]
    exact MAnsB.zero ((((K.out.setCell (p := ⟨w.heap.size + 1, _, none⟩) (by dsimp only; omega) _).setCell (p := ⟨w.heap.size + 1, _, none⟩) (by dsimp only; omega) _).setCell (p := ⟨w.heap.size + 1, _, none⟩) (by dsimp only; omega) _).setCell (p := ⟨w.heap.size + 1, _, none⟩) (by dsimp only; omega) _)
  | true =>
    have hc := specRegion w1 y
    go_wp2_with fail
    refine hc.mono ?_
    clear hc
    rintro e w1' ⟨rfl, rfl⟩
    cases hI : inB 0 5 y with
    | false =>
      have HN : Hid (repM m y cs = zM ∧ repB m y cs = false) := by
        have e : repB m y cs = false := by simp [repB, hI]
        exact ⟨by simp [repM, e, zM], e⟩
      obtain ⟨z0, z1, z2, z3, zf⟩ := zeroBoxM (K1.out.2.1.z)
      have f0 := zf 0
      have f1 := zf 1
      have f2 := zf 2
      have f3 := zf 3
      have K := hidOf (K1.out.1)
      clear zf
      go_wp2
      refine bodyPost_ret (v := .tuple #[.agg #[.bool false, .slice none 0 0, .slice none 0 0, .slice none 0 0], .bool false]) (by simp [results, Tryz.results13, go_sem, z0, z1, z2, z3]) rfl ?_
      rw [HN.out.1, HN.out.2]
      exact MAnsB.zero ((((K.out.setCell (p := ⟨w.heap.size + 1, _, none⟩) (by dsimp only; omega) _).setCell (p := ⟨w.heap.size + 1, _, none⟩) (by dsimp only; omega) _).setCell (p := ⟨w.heap.size + 1, _, none⟩) (by dsimp only; omega) _).setCell (p := ⟨w.heap.size + 1, _, none⟩) (by dsimp only; omega) _)
    | true =>
      have hc := specCellsOk_any w1' a cs.length cap cs hcl K1.out.2.2.2
      go_wp2_with fail
      refine hc.mono ?_
      clear hc
      rintro e w3 ⟨rfl, b3⟩
      have K2 : Hid (Below w.heap.size w w3 ∧ BC w.heap.size m.alive (.slice ac m.copies.length cc) (.slice al m.log.length cl) (.slice ad m.cleared.length cd) w3 ∧ SlM w3 ⟨ac, cc, al, cl, ad, cd⟩ m ∧ SlC w3 w3.heap.size a cs.length cs) := ⟨K1.out.1.trans (b3.mono K1.out.1.size), K1.out.2.1.later b3, K1.out.2.2.1.later b3, K1.out.2.2.2.later b3⟩
      clear b3 K1
      cases hC : cellsB cs with
      | false =>
        have HN : Hid (repM m y cs = zM ∧ repB m y cs = false) := by
          have e : repB m y cs = false := by simp [repB, hC]
          exact ⟨by simp [repM, e, zM], e⟩
        obtain ⟨z0, z1, z2, z3, zf⟩ := zeroBoxM (K2.out.2.1.z)
        have f0 := zf 0
        have f1 := zf 1
        have f2 := zf 2
        have f3 := zf 3
        have K := hidOf (K2.out.1)
        clear zf
        go_wp2
        refine bodyPost_ret (v := .tuple #[.agg #[.bool false, .slice none 0 0, .slice none 0 0, .slice none 0 0], .bool false]) (by simp [results, Tryz.results13, go_sem, z0, z1, z2, z3]) rfl ?_
        rw [HN.out.1, HN.out.2]
        exact MAnsB.zero ((((K.out.setCell (p := ⟨w.heap.size + 1, _, none⟩) (by dsimp only; omega) _).setCell (p := ⟨w.heap.size + 1, _, none⟩) (by dsimp only; omega) _).setCell (p := ⟨w.heap.size + 1, _, none⟩) (by dsimp only; omega) _).setCell (p := ⟨w.heap.size + 1, _, none⟩) (by dsimp only; omega) _)
      | true =>
        have HN : Hid (repM m y cs = (⟨m.alive, repK m.copies y cs, m.log, m.cleared⟩ : M4) ∧ repB m y cs = true) := by
          have e : repB m y cs = true := by simp [repB, hB, hI, hC]
          exact ⟨by simp [repM, e], e⟩
        have h6 := hidOf (cells_six hC)
        have hS := hidOf (MSm.of_mach hB)
        have HU : Hid (UpR m.copies) := mach_up hB
        obtain ⟨a0, a1, a2, a3, -, -⟩ := K2.out.2.1
        have hc := l6Copy_any w3 ⟨ac, cc, al, cl, ad, cd⟩ m hS.out K2.out.2.2.1
        simp only [MV.val] at hc
        go_wp2_with fail
        refine hc.mono ?_
        clear hc a0 a1 a2 a3
        rintro e w2 ⟨⟨uc, uk, ul, uj, ud, ui⟩, p, gk, gr, rfl, mr, b2⟩
        obtain ⟨W3, hW3⟩ : ∃ X, X = w2.alloc (.cells #[.bool m.alive, .slice uc m.copies.length uk, .slice ul m.log.length uj, .slice ud m.cleared.length ui] 28) := ⟨_, rfl⟩
        have b3 : Below w2.heap.size w2 W3 := by rw [hW3]; exact (Below.refl _ _).alloc (Nat.le_refl _) _
        have s3 : W3.heap.size = w2.heap.size + 1 := by rw [hW3]; simp
        have bb := b2.trans (b3.mono b2.size)
        have u0 : W3.cell? ⟨w2.heap.size, 0, none⟩ = some (.bool m.alive) := by rw [hW3]; go_simp
        have u1 : W3.cell? ⟨w2.heap.size, 1, none⟩ = some (.slice uc m.copies.length uk) := by rw [hW3]; go_simp
        have u2 : W3.cell? ⟨w2.heap.size, 2, none⟩ = some (.slice ul m.log.length uj) := by rw [hW3]; go_simp
        have u3 : W3.cell? ⟨w2.heap.size, 3, none⟩ = some (.slice ud m.cleared.length ui) := by rw [hW3]; go_simp
        have uf : W3.frozen? ⟨w2.heap.size, 1, none⟩ = false := by rw [hW3]; go_simp
        have hcp := l3Copy_any W3 a cap cs (by have := h6.out; omega) (by have := h6.out; omega) (K2.out.2.2.2.later bb)
        have K3 : Hid (Below w.heap.size w W3 ∧ BC w.heap.size m.alive (.slice ac m.copies.length cc) (.slice al m.log.length cl) (.slice ad m.cleared.length cd) W3 ∧ MR w3.heap.size w2.heap.size W3 (.slice uc m.copies.length uk) (.slice ul m.log.length uj) (.slice ud m.cleared.length ui) m.copies m.log m.cleared gk gr ∧ W3.cell? ⟨w2.heap.size, 0, none⟩ = some (.bool m.alive) ∧ W3.cell? ⟨w2.heap.size, 1, none⟩ = some (.slice uc m.copies.length uk) ∧ W3.cell? ⟨w2.heap.size, 2, none⟩ = some (.slice ul m.log.length uj) ∧ W3.cell? ⟨w2.heap.size, 3, none⟩ = some (.slice ud m.cleared.length ui) ∧ W3.frozen? ⟨w2.heap.size, 1, none⟩ = false ∧ w.heap.size + 2 ≤ w3.heap.size ∧ W3.heap.size = w2.heap.size + 1 ∧ w3.heap.size ≤ w2.heap.size) := ⟨K2.out.1.trans (bb.mono K2.out.1.size), K2.out.2.1.later bb, ((mr.mono (by omega)).out (.inr (Nat.le_refl _))).later b3, u0, u1, u2, u3, uf, by have := K2.out.2.1.lt; omega, s3, b2.size⟩
        clear mr b2 b3 bb s3 u0 u1 u2 u3 uf K2
        go_wp2_with fail
        rw [← hW3]
        clear hW3
        refine hcp.mono ?_
        clear hcp
        rintro e w4 ⟨q, cp, rfl, hq1, hq2, hq3, hq4, hq5, b4⟩
        obtain ⟨k1, k2, k3, u0, u1, u2, u3, uf, k4, k5, k6⟩ := K3.out
        have lt : w2.heap.size < W3.heap.size := by omega
        have hcl2 := l6Replace_any w4 w3.heap.size w2.heap.size m.alive ul ud uj ui uc uk m.copies m.log m.cleared gk gr y q cp cs (k3.later b4) HML.out ((b4.cell (p := ⟨w2.heap.size, 0, none⟩) lt).trans u0) ((b4.cell (p := ⟨w2.heap.size, 1, none⟩) lt).trans u1) ((b4.cell (p := ⟨w2.heap.size, 2, none⟩) lt).trans u2) ((b4.cell (p := ⟨w2.heap.size, 3, none⟩) lt).trans u3) ((b4.frozen (p := ⟨w2.heap.size, 1, none⟩) lt).trans uf) (Nat.lt_of_lt_of_le lt b4.size) k6 (by have := hS.out.k; omega) HU.out (by omega) hq2 (fun x hx => by
          have : x < W3.heap.size := by
            rcases hx with hx | hx | hx | hx
            · exact (k3.gK.blocks hx).2
            · exact (k3.gR.blocks hx).2
            · exact owns_lt k3.gD hx
            · omega
          omega) hq3 ⟨hq4, hq5⟩
        obtain ⟨ks', hks⟩ : ∃ ks', ks' = repK m.copies y cs := ⟨_, rfl⟩
        rw [← hks] at hcl2
        have HKS := hidOf hks
        clear hks
        have K5 : Hid (Below w.heap.size w w4 ∧ BC w.heap.size m.alive (.slice ac m.copies.length cc) (.slice al m.log.length cl) (.slice ad m.cleared.length cd) w4 ∧ w4.cell? ⟨w2.heap.size, 0, none⟩ = some (.bool m.alive) ∧ w4.cell? ⟨w2.heap.size, 2, none⟩ = some (.slice ul m.log.length uj) ∧ w4.cell? ⟨w2.heap.size, 3, none⟩ = some (.slice ud m.cleared.length ui) ∧ w.heap.size + 2 ≤ w3.heap.size) := ⟨k1.trans (b4.mono k1.size), k2.later b4, (b4.cell (p := ⟨w2.heap.size, 0, none⟩) lt).trans u0, (b4.cell (p := ⟨w2.heap.size, 2, none⟩) lt).trans u2, (b4.cell (p := ⟨w2.heap.size, 3, none⟩) lt).trans u3, k4⟩
        clear k1 k2 k3 u0 u1 u2 u3 uf k4 k5 k6 lt b4 hq1 hq2 hq3 hq4 hq5 K3
        go_wp2_with fail
        refine hcl2.mono ?_
        clear hcl2
        rintro e w5 ⟨⟨u, rfl⟩, ac', cc', gk', y1, mr5, ot, b5⟩
        have y0 := (ot 0 (by omega)).trans K5.out.2.2.1
        have y2 := (ot 2 (by omega)).trans K5.out.2.2.2.1
        have y3 := (ot 3 (by omega)).trans K5.out.2.2.2.2.1
        have K6 : Hid (Below w.heap.size w w5 ∧ MR w3.heap.size w2.heap.size w5 (.slice ac' ks'.length cc') (.slice ul m.log.length uj) (.slice ud m.cleared.length ui) ks' m.log m.cleared gk' gr ∧ w.heap.size + 2 ≤ w3.heap.size) := ⟨K5.out.1.trans (b5.mono (by have := K5.out.2.2.2.2.2; omega)), mr5, K5.out.2.2.2.2.2⟩
        obtain ⟨z0, z1, z2, z3, zf⟩ := zeroBoxM ((b5.block _ (by have := K5.out.2.2.2.2.2; omega)).trans K5.out.2.1.z)
        have f0 := zf 0
        have f1 := zf 1
        have f2 := zf 2
        have f3 := zf 3
        clear zf b5 K5 mr5 ot
        go_wp2
        refine bodyPost_ret (v := .tuple #[.agg #[.bool m.alive, .slice ac' ks'.length cc', .slice ul m.log.length uj, .slice ud m.cleared.length ui], .bool true]) (by simp [results, Tryz.results13, go_sem, z0, z1, z2, z3]) rfl ?_
        rw [HN.out.1, HN.out.2, ← HKS.out]
        exact MAnsB.of (m := (⟨m.alive, ks', m.log, m.cleared⟩ : M4)) (v := ⟨ac', cc', ul, uj, ud, ui⟩) (b := w.heap.size + 1) rfl rfl rfl K6.out.2.1 K6.out.1 (by have := K6.out.2.2; omega) (by omega)
end Go.Proofs.YtooalbdlknheeaaGreat
