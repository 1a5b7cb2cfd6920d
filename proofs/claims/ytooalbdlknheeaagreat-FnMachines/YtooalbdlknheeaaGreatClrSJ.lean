/- Clear of the specification. -/
import Derived.Test.YtooalbdlknheeaaGreatRows
import Derived.Test.YtooalbdlknheeaaGreatAppSJ
import Derived.Test.YtooalbdlknheeaaGreatJ49LawMachines
import Derived.WalkKit
import Derived.WalkSpells
import Derived.WalkLawsBesides
import Derived.Below
import Derived.Deep.CutRange
namespace Go.Proofs.YtooalbdlknheeaaGreat
open Go.RowKit
/-- The boxes of Clear: its machine's at s, its answer's at s + 1. -/
structure BC (s : Nat) (alive : Bool) (v1 v2 v3 : Value) (X : World) : Prop where
  a0 : X.cell? ⟨s, 0, none⟩ = some (.bool alive)
  a1 : X.cell? ⟨s, 1, none⟩ = some v1
  a2 : X.cell? ⟨s, 2, none⟩ = some v2
  a3 : X.cell? ⟨s, 3, none⟩ = some v3
  z : X.heap[s + 1]? = some (.cells #[.bool false, .slice none 0 0, .slice none 0 0, .slice none 0 0] 28 (0, 0))
  lt : s + 1 < X.heap.size
theorem BC.keep {s : Nat} {alive : Bool} {v1 v2 v3 : Value} {X Y : World} (h : BC s alive v1 v2 v3 X) (hs : X.heap.size ≤ Y.heap.size) (hb : ∀ x, x < s + 2 → Y.heap[x]? = X.heap[x]?) : BC s alive v1 v2 v3 Y := by
  have c : ∀ {b j : Nat} {u : Value}, b < s + 2 → X.cell? ⟨b, j, none⟩ = some u → Y.cell? ⟨b, j, none⟩ = some u := fun {b j u} e h => (World.cell?_of_block (a := ⟨b, j, none⟩) (hb b e)).trans h
  exact ⟨c (by omega) h.a0, c (by omega) h.a1, c (by omega) h.a2, c (by omega) h.a3, (hb _ (by omega)).trans h.z, Nat.lt_of_lt_of_le h.lt hs⟩
theorem BC.later {s : Nat} {alive : Bool} {v1 v2 v3 : Value} {X Y : World} (h : BC s alive v1 v2 v3 X) (hb : Below X.heap.size X Y) : BC s alive v1 v2 v3 Y := h.keep hb.size (fun x hx => hb.block x (by have := h.lt; omega))
theorem BC.made (w : World) (m : M4) (ac : Option Addr) (cc : Nat) (al : Option Addr) (cl : Nat) (ad : Option Addr) (cd : Nat) : BC w.heap.size m.alive (.slice ac m.copies.length cc) (.slice al m.log.length cl) (.slice ad m.cleared.length cd) ((w.alloc (.cells #[.bool m.alive, .slice ac m.copies.length cc, .slice al m.log.length cl, .slice ad m.cleared.length cd] 28)).alloc (.cells #[.bool false, .slice none 0 0, .slice none 0 0, .slice none 0 0] 28)) := by
  refine ⟨by go_simp, by go_simp, by go_simp, by go_simp, ?_, by simp⟩
  have := heap_alloc_new (w.alloc (.cells #[.bool m.alive, .slice ac m.copies.length cc, .slice al m.log.length cl, .slice ad m.cleared.length cd] 28)) (.cells #[.bool false, .slice none 0 0, .slice none 0 0, .slice none 0 0] 28)
  rwa [show (w.alloc (.cells #[.bool m.alive, .slice ac m.copies.length cc, .slice al m.log.length cl, .slice ad m.cleared.length cd] 28)).heap.size = w.heap.size + 1 by simp] at this
set_option maxRecDepth 100000 in
set_option maxHeartbeats 4000000 in
theorem specClear_any (w : World) (v : MV) (m : M4) (t g : Int) (d : Bool) (hl : ML m) (hs : SlM w v m) : Calls Tryz.prog 25 #[v.val m, .int .i64 t, .int .i64 g, .bool d] w (MAnsB w (clearM m t g d) (clearB m t d)) := by
  obtain ⟨ac, cc, al, cl, ad, cd⟩ := v
  simp only [MV.val]
  obtain ⟨W, hW⟩ : ∃ W, W = (w.alloc (.cells #[.bool m.alive, .slice ac m.copies.length cc, .slice al m.log.length cl, .slice ad m.cleared.length cd] 28)).alloc (.cells #[.bool false, .slice none 0 0, .slice none 0 0, .slice none 0 0] 28) := ⟨_, rfl⟩
  have b0 : Below w.heap.size w W := by subst hW; exact ((Below.refl _ _).alloc (Nat.le_refl _) _).alloc (by simp) _
  have x0 : BC w.heap.size m.alive (.slice ac m.copies.length cc) (.slice al m.log.length cl) (.slice ad m.cleared.length cd) W := by subst hW; exact BC.made w m ac cc al cl ad cd
  have hm := specMachineOk_any W ⟨ac, cc, al, cl, ad, cd⟩ m hl.k hl.r hl.n hl.ks hl.rs (hs.later b0)
  simp only [MV.val] at hm
  have H : Hid (Below w.heap.size w W ∧ BC w.heap.size m.alive (.slice ac m.copies.length cc) (.slice al m.log.length cl) (.slice ad m.cleared.length cd) W ∧ SlM w ⟨ac, cc, al, cl, ad, cd⟩ m) := ⟨b0, x0, hs⟩
  clear b0 x0 hs hl
  go_enter Tryz.func25, Tryz.ntmps25
  go_wp2_with fail
  rw [← hW]
  clear hW
  refine hm.mono ?_
  clear hm
  rintro e w1 ⟨rfl, b1⟩
  have K1 : Hid (Below w.heap.size w w1 ∧ BC w.heap.size m.alive (.slice ac m.copies.length cc) (.slice al m.log.length cl) (.slice ad m.cleared.length cd) w1 ∧ SlM w1 ⟨ac, cc, al, cl, ad, cd⟩ m) := by
    have bb := H.out.1.trans (b1.mono H.out.1.size)
    exact ⟨bb, H.out.2.1.later b1, H.out.2.2.later bb⟩
  clear b1 H
  cases hB : machB m with
  | false =>
    have HN : Hid (clearM m t g d = zM ∧ clearB m t d = false) := by
      have e : clearB m t d = false := by simp [clearB, hB]
      exact ⟨by simp [clearM, e, zM], e⟩
    obtain ⟨z0, z1, z2, z3, zf⟩ := zeroBoxM (K1.out.2.1.z)
    have f0 := zf 0
    have f1 := zf 1
    have f2 := zf 2
    have f3 := zf 3
    have K := hidOf (K1.out.1)
    clear zf
    go_wp2
    refine bodyPost_ret (v := .tuple #[.agg #[.bool false, .slice none 0 0, .slice none 0 0, .slice none 0 0], .bool false]) (by simp [results, Tryz.results25, go_sem, z0, z1, z2, z3]) rfl ?_
    rw [HN.out.1, HN.out.2]
    exact MAnsB.zero ((((K.out.setCell (p := ⟨w.heap.size + 1, _, none⟩) (by dsimp only; omega) _).setCell (p := ⟨w.heap.size + 1, _, none⟩) (by dsimp only; omega) _).setCell (p := ⟨w.heap.size + 1, _, none⟩) (by dsimp only; omega) _).setCell (p := ⟨w.heap.size + 1, _, none⟩) (by dsimp only; omega) _)
  | true =>
    have hc := specId w1 t
    go_wp2_with fail
    refine hc.mono ?_
    clear hc
    rintro e w1' ⟨rfl, rfl⟩
    cases hI : inB 1 1000000 t with
    | false =>
      have HN : Hid (clearM m t g d = zM ∧ clearB m t d = false) := by
        have e : clearB m t d = false := by simp [clearB, hI]
        exact ⟨by simp [clearM, e, zM], e⟩
      obtain ⟨z0, z1, z2, z3, zf⟩ := zeroBoxM (K1.out.2.1.z)
      have f0 := zf 0
      have f1 := zf 1
      have f2 := zf 2
      have f3 := zf 3
      have K := hidOf (K1.out.1)
      clear zf
      go_wp2
      refine bodyPost_ret (v := .tuple #[.agg #[.bool false, .slice none 0 0, .slice none 0 0, .slice none 0 0], .bool false]) (by simp [results, Tryz.results25, go_sem, z0, z1, z2, z3]) rfl ?_
      rw [HN.out.1, HN.out.2]
      exact MAnsB.zero ((((K.out.setCell (p := ⟨w.heap.size + 1, _, none⟩) (by dsimp only; omega) _).setCell (p := ⟨w.heap.size + 1, _, none⟩) (by dsimp only; omega) _).setCell (p := ⟨w.heap.size + 1, _, none⟩) (by dsimp only; omega) _).setCell (p := ⟨w.heap.size + 1, _, none⟩) (by dsimp only; omega) _)
    | true =>
      have hS := hidOf (MSm.of_mach hB)
      obtain ⟨a0, a1, a2, a3, -, -⟩ := K1.out.2.1
      cases d with
      | false =>
        have HN : Hid (clearM m t g false = (⟨m.alive, m.copies, m.log.filter (fun r => !ofB t g r), clearD m t false⟩ : M4) ∧ clearB m t false = true) := by
          have e : clearB m t false = true := by simp [clearB, hB, hI]
          exact ⟨by simp [clearM, e], e⟩
        have hc := l6Copy_any w1' ⟨ac, cc, al, cl, ad, cd⟩ m hS.out K1.out.2.2
        simp only [MV.val] at hc
        go_wp2_with fail
        refine hc.mono ?_
        clear hc a0 a1 a2 a3
        rintro e w2 ⟨⟨uc, uk, ul, uj, ud, ui⟩, p, gk, gr, rfl, mr, b2⟩
        obtain ⟨W3, hW3⟩ : ∃ X, X = w2.alloc (.cells #[.bool m.alive, .slice uc m.copies.length uk, .slice ul m.log.length uj, .slice ud m.cleared.length ui] 28) := ⟨_, rfl⟩
        have b3 : Below w2.heap.size w2 W3 := by rw [hW3]; exact (Below.refl _ _).alloc (Nat.le_refl _) _
        have s3 : W3.heap.size = w2.heap.size + 1 := by rw [hW3]; simp
        have bb := b2.trans (b3.mono b2.size)
        have u0 : W3.cell? ⟨w2.heap.size, 0, none⟩ = some (.bool m.alive) := by rw [hW3]; go_simp
        have u1 : W3.cell? ⟨w2.heap.size, 1, none⟩ = some (.slice uc m.copies.length uk) := by rw [hW3]; go_simp
        have u2 : W3.cell? ⟨w2.heap.size, 2, none⟩ = some (.slice ul m.log.length uj) := by rw [hW3]; go_simp
        have u3 : W3.cell? ⟨w2.heap.size, 3, none⟩ = some (.slice ud m.cleared.length ui) := by rw [hW3]; go_simp
        have uf : ∀ j, W3.frozen? ⟨w2.heap.size, j, none⟩ = false := fun j => by rw [hW3]; go_simp
        have hcl := l6Clear_any W3 w1'.heap.size w2.heap.size (.slice uc m.copies.length uk) ul ud uj ui m.copies m.log m.cleared gk gr t g false (((mr.mono (by omega)).out (.inr (Nat.le_refl _))).later b3) u2 u3 uf (by omega) b2.size (by have := hS.out.r; omega) (by have := hS.out.n; omega)
        have K3 : Hid (Below w.heap.size w W3 ∧ BC w.heap.size m.alive (.slice ac m.copies.length cc) (.slice al m.log.length cl) (.slice ad m.cleared.length cd) W3 ∧ W3.cell? ⟨w2.heap.size, 0, none⟩ = some (.bool m.alive) ∧ W3.cell? ⟨w2.heap.size, 1, none⟩ = some (.slice uc m.copies.length uk) ∧ w.heap.size + 2 ≤ w1'.heap.size) := ⟨K1.out.1.trans (bb.mono K1.out.1.size), K1.out.2.1.later bb, u0, u1, by have := K1.out.2.1.lt; omega⟩
        clear mr b2 b3 bb s3 u0 u1 u2 u3 uf K1
        obtain ⟨rs', hrs⟩ : ∃ rs', rs' = m.log.filter (fun r => !ofB t g r) := ⟨_, rfl⟩
        rw [← hrs] at hcl
        have HRS := hidOf hrs
        clear hrs
        obtain ⟨zs', hzs⟩ : ∃ zs', zs' = clearD m t false := ⟨_, rfl⟩
        rw [show (if false = true then putZ m.cleared t else m.cleared) = zs' from hzs.symm] at hcl
        have HZS := hidOf hzs
        clear hzs
        go_wp2_with fail
        rw [← hW3]
        clear hW3
        refine hcl.mono ?_
        clear hcl
        rintro e w4 ⟨⟨u, rfl⟩, al', cl', ad', cd', gr', y2, y3, mr4, ot, b4⟩
        have y0 := (ot 0 (by omega) (by omega)).trans K3.out.2.2.1
        have y1 := (ot 1 (by omega) (by omega)).trans K3.out.2.2.2.1
        have K4 : Hid (Below w.heap.size w w4 ∧ MR w1'.heap.size w2.heap.size w4 (.slice uc m.copies.length uk) (.slice al' rs'.length cl') (.slice ad' zs'.length cd') m.copies rs' zs' gk gr' ∧ w.heap.size + 2 ≤ w1'.heap.size) := ⟨K3.out.1.trans (b4.mono (by have := K3.out.2.2.2.2; omega)), mr4, K3.out.2.2.2.2⟩
        obtain ⟨z0, z1, z2, z3, zf⟩ := zeroBoxM ((b4.block _ (by have := K3.out.2.2.2.2; omega)).trans K3.out.2.1.z)
        have f0 := zf 0
        have f1 := zf 1
        have f2 := zf 2
        have f3 := zf 3
        clear zf b4 K3 mr4 ot
        go_wp2
        refine bodyPost_ret (v := .tuple #[.agg #[.bool m.alive, .slice uc m.copies.length uk, .slice al' rs'.length cl', .slice ad' zs'.length cd'], .bool true]) (by simp [results, Tryz.results25, go_sem, z0, z1, z2, z3]) rfl ?_
        rw [HN.out.1, HN.out.2, ← HRS.out, ← HZS.out]
        exact MAnsB.of (m := (⟨m.alive, m.copies, rs', zs'⟩ : M4)) (v := ⟨uc, uk, al', cl', ad', cd'⟩) (b := w.heap.size + 1) rfl rfl rfl K4.out.2.1 K4.out.1 (by have := K4.out.2.2; omega) (by omega)
      | true =>
        have hh := l3Has_any w1' ad m.cleared.length cd m.cleared t (by have := hS.out.n; unfold maxLen; omega) K1.out.2.2.n
        go_wp2_with fail
        refine hh.mono ?_
        clear hh
        rintro e w5 ⟨rfl, rfl⟩
        cases hh : hasN m.cleared t with
        | true =>
          have HN : Hid (clearM m t g true = (⟨m.alive, m.copies, m.log.filter (fun r => !ofB t g r), clearD m t true⟩ : M4) ∧ clearB m t true = true) := by
            have e : clearB m t true = true := by simp [clearB, hB, hI, hh]
            exact ⟨by simp [clearM, e], e⟩
          have hc := l6Copy_any w5 ⟨ac, cc, al, cl, ad, cd⟩ m hS.out K1.out.2.2
          simp only [MV.val] at hc
          go_wp2_with fail
          refine hc.mono ?_
          clear hc a0 a1 a2 a3
          rintro e w2 ⟨⟨uc, uk, ul, uj, ud, ui⟩, p, gk, gr, rfl, mr, b2⟩
          obtain ⟨W3, hW3⟩ : ∃ X, X = w2.alloc (.cells #[.bool m.alive, .slice uc m.copies.length uk, .slice ul m.log.length uj, .slice ud m.cleared.length ui] 28) := ⟨_, rfl⟩
          have b3 : Below w2.heap.size w2 W3 := by rw [hW3]; exact (Below.refl _ _).alloc (Nat.le_refl _) _
          have s3 : W3.heap.size = w2.heap.size + 1 := by rw [hW3]; simp
          have bb := b2.trans (b3.mono b2.size)
          have u0 : W3.cell? ⟨w2.heap.size, 0, none⟩ = some (.bool m.alive) := by rw [hW3]; go_simp
          have u1 : W3.cell? ⟨w2.heap.size, 1, none⟩ = some (.slice uc m.copies.length uk) := by rw [hW3]; go_simp
          have u2 : W3.cell? ⟨w2.heap.size, 2, none⟩ = some (.slice ul m.log.length uj) := by rw [hW3]; go_simp
          have u3 : W3.cell? ⟨w2.heap.size, 3, none⟩ = some (.slice ud m.cleared.length ui) := by rw [hW3]; go_simp
          have uf : ∀ j, W3.frozen? ⟨w2.heap.size, j, none⟩ = false := fun j => by rw [hW3]; go_simp
          have hcl := l6Clear_any W3 w5.heap.size w2.heap.size (.slice uc m.copies.length uk) ul ud uj ui m.copies m.log m.cleared gk gr t g true (((mr.mono (by omega)).out (.inr (Nat.le_refl _))).later b3) u2 u3 uf (by omega) b2.size (by have := hS.out.r; omega) (by have := hS.out.n; omega)
          have K3 : Hid (Below w.heap.size w W3 ∧ BC w.heap.size m.alive (.slice ac m.copies.length cc) (.slice al m.log.length cl) (.slice ad m.cleared.length cd) W3 ∧ W3.cell? ⟨w2.heap.size, 0, none⟩ = some (.bool m.alive) ∧ W3.cell? ⟨w2.heap.size, 1, none⟩ = some (.slice uc m.copies.length uk) ∧ w.heap.size + 2 ≤ w5.heap.size) := ⟨K1.out.1.trans (bb.mono K1.out.1.size), K1.out.2.1.later bb, u0, u1, by have := K1.out.2.1.lt; omega⟩
          clear mr b2 b3 bb s3 u0 u1 u2 u3 uf K1
          obtain ⟨rs', hrs⟩ : ∃ rs', rs' = m.log.filter (fun r => !ofB t g r) := ⟨_, rfl⟩
          rw [← hrs] at hcl
          have HRS := hidOf hrs
          clear hrs
          obtain ⟨zs', hzs⟩ : ∃ zs', zs' = clearD m t true := ⟨_, rfl⟩
          rw [show (if true = true then putZ m.cleared t else m.cleared) = zs' from hzs.symm] at hcl
          have HZS := hidOf hzs
          clear hzs
          go_wp2_with fail
          rw [← hW3]
          clear hW3
          refine hcl.mono ?_
          clear hcl
          rintro e w4 ⟨⟨u, rfl⟩, al', cl', ad', cd', gr', y2, y3, mr4, ot, b4⟩
          have y0 := (ot 0 (by omega) (by omega)).trans K3.out.2.2.1
          have y1 := (ot 1 (by omega) (by omega)).trans K3.out.2.2.2.1
          have K4 : Hid (Below w.heap.size w w4 ∧ MR w5.heap.size w2.heap.size w4 (.slice uc m.copies.length uk) (.slice al' rs'.length cl') (.slice ad' zs'.length cd') m.copies rs' zs' gk gr' ∧ w.heap.size + 2 ≤ w5.heap.size) := ⟨K3.out.1.trans (b4.mono (by have := K3.out.2.2.2.2; omega)), mr4, K3.out.2.2.2.2⟩
          obtain ⟨z0, z1, z2, z3, zf⟩ := zeroBoxM ((b4.block _ (by have := K3.out.2.2.2.2; omega)).trans K3.out.2.1.z)
          have f0 := zf 0
          have f1 := zf 1
          have f2 := zf 2
          have f3 := zf 3
          clear zf b4 K3 mr4 ot
          go_wp2
          refine bodyPost_ret (v := .tuple #[.agg #[.bool m.alive, .slice uc m.copies.length uk, .slice al' rs'.length cl', .slice ad' zs'.length cd'], .bool true]) (by simp [results, Tryz.results25, go_sem, z0, z1, z2, z3]) rfl ?_
          rw [HN.out.1, HN.out.2, ← HRS.out, ← HZS.out]
          exact MAnsB.of (m := (⟨m.alive, m.copies, rs', zs'⟩ : M4)) (v := ⟨uc, uk, al', cl', ad', cd'⟩) (b := w.heap.size + 1) rfl rfl rfl K4.out.2.1 K4.out.1 (by have := K4.out.2.2; omega) (by omega)
        | false =>
          by_cases h60 : m.cleared.length = 60
          · have q : ((m.cleared.length : Int) == 60) = true := by simp; omega
            have HN : Hid (clearM m t g true = zM ∧ clearB m t true = false) := by
              have e : clearB m t true = false := by simp [clearB, hh, h60]
              exact ⟨by simp [clearM, e, zM], e⟩
            obtain ⟨z0, z1, z2, z3, zf⟩ := zeroBoxM (K1.out.2.1.z)
            have f0 := zf 0
            have f1 := zf 1
            have f2 := zf 2
            have f3 := zf 3
            have K := hidOf (K1.out.1)
            clear zf
            go_wp2
            refine bodyPost_ret (v := .tuple #[.agg #[.bool false, .slice none 0 0, .slice none 0 0, .slice none 0 0], .bool false]) (by simp [results, Tryz.results25, go_sem, z0, z1, z2, z3]) rfl ?_
            rw [HN.out.1, HN.out.2]
            exact MAnsB.zero ((((K.out.setCell (p := ⟨w.heap.size + 1, _, none⟩) (by dsimp only; omega) _).setCell (p := ⟨w.heap.size + 1, _, none⟩) (by dsimp only; omega) _).setCell (p := ⟨w.heap.size + 1, _, none⟩) (by dsimp only; omega) _).setCell (p := ⟨w.heap.size + 1, _, none⟩) (by dsimp only; omega) _)
          · have q : ((m.cleared.length : Int) == 60) = false := by simp; omega
            have HN : Hid (clearM m t g true = (⟨m.alive, m.copies, m.log.filter (fun r => !ofB t g r), clearD m t true⟩ : M4) ∧ clearB m t true = true) := by
              have e : clearB m t true = true := by simp [clearB, hB, hI, h60]
              exact ⟨by simp [clearM, e], e⟩
            have hc := l6Copy_any w5 ⟨ac, cc, al, cl, ad, cd⟩ m hS.out K1.out.2.2
            simp only [MV.val] at hc
            go_wp2_with fail
            refine hc.mono ?_
            clear hc a0 a1 a2 a3
            rintro e w2 ⟨⟨uc, uk, ul, uj, ud, ui⟩, p, gk, gr, rfl, mr, b2⟩
            obtain ⟨W3, hW3⟩ : ∃ X, X = w2.alloc (.cells #[.bool m.alive, .slice uc m.copies.length uk, .slice ul m.log.length uj, .slice ud m.cleared.length ui] 28) := ⟨_, rfl⟩
            have b3 : Below w2.heap.size w2 W3 := by rw [hW3]; exact (Below.refl _ _).alloc (Nat.le_refl _) _
            have s3 : W3.heap.size = w2.heap.size + 1 := by rw [hW3]; simp
            have bb := b2.trans (b3.mono b2.size)
            have u0 : W3.cell? ⟨w2.heap.size, 0, none⟩ = some (.bool m.alive) := by rw [hW3]; go_simp
            have u1 : W3.cell? ⟨w2.heap.size, 1, none⟩ = some (.slice uc m.copies.length uk) := by rw [hW3]; go_simp
            have u2 : W3.cell? ⟨w2.heap.size, 2, none⟩ = some (.slice ul m.log.length uj) := by rw [hW3]; go_simp
            have u3 : W3.cell? ⟨w2.heap.size, 3, none⟩ = some (.slice ud m.cleared.length ui) := by rw [hW3]; go_simp
            have uf : ∀ j, W3.frozen? ⟨w2.heap.size, j, none⟩ = false := fun j => by rw [hW3]; go_simp
            have hcl := l6Clear_any W3 w5.heap.size w2.heap.size (.slice uc m.copies.length uk) ul ud uj ui m.copies m.log m.cleared gk gr t g true (((mr.mono (by omega)).out (.inr (Nat.le_refl _))).later b3) u2 u3 uf (by omega) b2.size (by have := hS.out.r; omega) (by have := hS.out.n; omega)
            have K3 : Hid (Below w.heap.size w W3 ∧ BC w.heap.size m.alive (.slice ac m.copies.length cc) (.slice al m.log.length cl) (.slice ad m.cleared.length cd) W3 ∧ W3.cell? ⟨w2.heap.size, 0, none⟩ = some (.bool m.alive) ∧ W3.cell? ⟨w2.heap.size, 1, none⟩ = some (.slice uc m.copies.length uk) ∧ w.heap.size + 2 ≤ w5.heap.size) := ⟨K1.out.1.trans (bb.mono K1.out.1.size), K1.out.2.1.later bb, u0, u1, by have := K1.out.2.1.lt; omega⟩
            clear mr b2 b3 bb s3 u0 u1 u2 u3 uf K1
            obtain ⟨rs', hrs⟩ : ∃ rs', rs' = m.log.filter (fun r => !ofB t g r) := ⟨_, rfl⟩
            rw [← hrs] at hcl
            have HRS := hidOf hrs
            clear hrs
            obtain ⟨zs', hzs⟩ : ∃ zs', zs' = clearD m t true := ⟨_, rfl⟩
            rw [show (if true = true then putZ m.cleared t else m.cleared) = zs' from hzs.symm] at hcl
            have HZS := hidOf hzs
            clear hzs
            go_wp2_with fail
            rw [← hW3]
            clear hW3
            refine hcl.mono ?_
            clear hcl
            rintro e w4 ⟨⟨u, rfl⟩, al', cl', ad', cd', gr', y2, y3, mr4, ot, b4⟩
            have y0 := (ot 0 (by omega) (by omega)).trans K3.out.2.2.1
            have y1 := (ot 1 (by omega) (by omega)).trans K3.out.2.2.2.1
            have K4 : Hid (Below w.heap.size w w4 ∧ MR w5.heap.size w2.heap.size w4 (.slice uc m.copies.length uk) (.slice al' rs'.length cl') (.slice ad' zs'.length cd') m.copies rs' zs' gk gr' ∧ w.heap.size + 2 ≤ w5.heap.size) := ⟨K3.out.1.trans (b4.mono (by have := K3.out.2.2.2.2; omega)), mr4, K3.out.2.2.2.2⟩
            obtain ⟨z0, z1, z2, z3, zf⟩ := zeroBoxM ((b4.block _ (by have := K3.out.2.2.2.2; omega)).trans K3.out.2.1.z)
            have f0 := zf 0
            have f1 := zf 1
            have f2 := zf 2
            have f3 := zf 3
            clear zf b4 K3 mr4 ot
            go_wp2
            refine bodyPost_ret (v := .tuple #[.agg #[.bool m.alive, .slice uc m.copies.length uk, .slice al' rs'.length cl', .slice ad' zs'.length cd'], .bool true]) (by simp [results, Tryz.results25, go_sem, z0, z1, z2, z3]) rfl ?_
            rw [HN.out.1, HN.out.2, ← HRS.out, ← HZS.out]
            exact MAnsB.of (m := (⟨m.alive, m.copies, rs', zs'⟩ : M4)) (v := ⟨uc, uk, al', cl', ad', cd'⟩) (b := w.heap.size + 1) rfl rfl rfl K4.out.2.1 K4.out.1 (by have := K4.out.2.2; omega) (by omega)
end Go.Proofs.YtooalbdlknheeaaGreat
