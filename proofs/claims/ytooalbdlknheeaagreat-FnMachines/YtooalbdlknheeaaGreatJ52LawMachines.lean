/- ClrI; BytesIn: joined. -/
import Derived.Test.YtooalbdlknheeaaGreatRows
import Derived.Test.YtooalbdlknheeaaGreatAppIJ
import Derived.Test.YtooalbdlknheeaaGreatJ25LawMachines
import Derived.WalkKit
import Derived.WalkSpells
import Derived.WalkLawsBesides
import Derived.Below
import Derived.Deep.CutRange
import Derived.Test.YtooalbdlknheeaaGreatJ30LawMachines
import Derived.ProofKit
import Derived.OpenShut
/- Clear of the program. -/
namespace Go.Proofs.YtooalbdlknheeaaGreat
open Go.RowKit
theorem filter_nilR (t g : Int) {rs : List R4} (h : rs = []) : rs.filter (fun r => !ofB t g r) = [] := by rw [h]; rfl
/-- Records struck out of a machine under way. -/
theorem strikeM (w : World) (base p : Nat) (vk vd : Value) (al : Option Addr) (cl : Nat) (ks : List K2) (rs : List R4) (zs : List Int) (gk gr : Nat → Nat) (t g : Int) (h : MR base p w vk (.slice al rs.length cl) vd ks rs zs gk gr) (c0 : w.cell? ⟨p, 0, none⟩ = some (.slice al rs.length cl)) (f0 : w.frozen? ⟨p, 0, none⟩ = false) (hp : p < w.heap.size) (hbp : base ≤ p) (hn : rs.length ≤ 1000) :
    Calls Tryz.prog 74 #[.pointer (some ⟨p, 0, none⟩), .int .i64 t, .int .i64 g] w fun e w' => e = .returned (.tuple #[]) ∧ ∃ al' cl' gr', w'.cell? ⟨p, 0, none⟩ = some (.slice al' (rs.filter (fun r => !ofB t g r)).length cl') ∧ MR base p w' vk (.slice al' (rs.filter (fun r => !ofB t g r)).length cl') vd ks (rs.filter (fun r => !ofB t g r)) zs gk gr' ∧ (∀ j, j ≠ 0 → w'.cell? ⟨p, j, none⟩ = w.cell? ⟨p, j, none⟩) ∧ Below base w w' := by
  by_cases e : rs = []
  · subst e
    refine (strike_nil w p al cl t g c0 f0 hp).mono ?_
    rintro e W' ⟨he, W, hb, rfl⟩
    have cW := (hb.cell (p := ⟨p, 0, none⟩) hp).trans c0
    exact ⟨he, al, cl, gr, cell_set_same cW, (h.later hb).set, fun j hj => (cell_set_other (by simpa using fun e => hj e)).trans (hb.cell (p := ⟨p, j, none⟩) hp), (hb.mono (by omega)).setCell (p := ⟨p, 0, none⟩) hbp _⟩
  · obtain ⟨b, cp, ev, h1, h2, h3, -, og⟩ := GrowG.own (hd := hdR) (sz := 4) (fun _ => rfl) h.gR e
    injection ev with ea _ ec
    subst ea ec
    obtain ⟨caps, hB, hrow, hcp, hle, hmx, hbb, hbl⟩ := h.gR.rows rfl
    have hpb : p ≠ b := fun e => h.rp b (.inl rfl) e.symm
    refine (strike_any w p b rs.length cl (cl * 4) rs (fun i => some ⟨gr i, 0, none⟩) caps t g c0 f0 hp hpb hn rfl hle hbl hB (Nat.mul_le_mul_right 4 hle) hrow (ownR_sl og h2)).mono ?_
    rintro e W' ⟨he, W, ht, hB', hat, rfl⟩
    have hKn : ∀ (x i : Nat), (keepI (fun i => ofB t g (atR rs i)) rs.length)[x]? = some i → i < rs.length := fun x i hx => keepI_lt hx
    have ms := h.struck rfl hcp hmx hbb hKn (keepI_nodup _ _) (Nat.le_trans (keepI_le _ _) hle) ht hB' hat
    have el : (keepI (fun i => ofB t g (atR rs i)) rs.length).length = (rs.filter (fun r => !ofB t g r)).length := by
      rw [← keepI_list rs (ofB t g), List.length_map]
    have em := keepI_list rs (ofB t g)
    rw [el, em] at ms
    rw [el]
    have cW := (ht.cell (p := ⟨p, 0, none⟩) hp hpb).trans c0
    refine ⟨he, _, _, _, cell_set_same cW, ms.set, fun j hj => (cell_set_other (by simpa using fun e => hj e)).trans (ht.cell (p := ⟨p, j, none⟩) hp hpb), Below.setCell (p := ⟨p, 0, none⟩) ⟨ht.os, ht.tape, ht.output, ht.size, fun k hk => ?_⟩ hbp _⟩
    by_cases hkw : k < w.heap.size
    · exact ht.block k hkw (by omega)
    · exact absurd hk (by have := hbb; omega)
set_option maxRecDepth 100000 in
set_option maxHeartbeats 4000000 in
theorem implClear_any (w : World) (v : MV) (m : M4) (t g : Int) (d : Bool) (hl : ML m) (hs : SlM w v m) : Calls Tryz.prog 22 #[v.val m, .int .i64 t, .int .i64 g, .bool d] w (MAnsB w (clearM m t g d) (clearB m t d)) := by
  obtain ⟨ac, cc, al, cl, ad, cd⟩ := v
  simp only [MV.val]
  obtain ⟨W, hW⟩ : ∃ W, W = (w.alloc (.cells #[.bool m.alive, .slice ac m.copies.length cc, .slice al m.log.length cl, .slice ad m.cleared.length cd] 28)).alloc (.cells #[.bool false, .slice none 0 0, .slice none 0 0, .slice none 0 0] 28) := ⟨_, rfl⟩
  have b0 : Below w.heap.size w W := by subst hW; exact ((Below.refl _ _).alloc (Nat.le_refl _) _).alloc (by simp) _
  have s0 : W.heap.size = w.heap.size + 2 := by subst hW; simp
  have hz : W.heap[w.heap.size + 1]? = some (.cells #[.bool false, .slice none 0 0, .slice none 0 0, .slice none 0 0] 28 (0, 0)) := by
    have := heap_alloc_new (w.alloc (.cells #[.bool m.alive, .slice ac m.copies.length cc, .slice al m.log.length cl, .slice ad m.cleared.length cd] 28)) (.cells #[.bool false, .slice none 0 0, .slice none 0 0, .slice none 0 0] 28)
    rw [show (w.alloc (.cells #[.bool m.alive, .slice ac m.copies.length cc, .slice al m.log.length cl, .slice ad m.cleared.length cd] 28)).heap.size = w.heap.size + 1 by simp] at this
    rw [hW]; exact this
  have hk := take_any W ⟨ac, cc, al, cl, ad, cd⟩ m hl (hs.later b0)
  simp only [MV.val] at hk
  have H : Hid (Below w.heap.size w W ∧ W.heap.size = w.heap.size + 2 ∧ W.heap[w.heap.size + 1]? = some (.cells #[.bool false, .slice none 0 0, .slice none 0 0, .slice none 0 0] 28 (0, 0))) := ⟨b0, s0, hz⟩
  clear b0 s0 hz hs hl
  go_enter Tryz.func22, Tryz.ntmps22
  go_wp2_with fail
  rw [← hW]
  clear hW
  refine hk.mono ?_
  clear hk
  rintro e w1 ⟨t1, t2, b1⟩
  cases hB : machB m with
  | false =>
    obtain rfl := t1 hB
    clear t1 t2
    simp only [noM]
    have HN : Hid (clearM m t g d = zM ∧ clearB m t d = false) := by
      have e : clearB m t d = false := by simp [clearB, hB]
      exact ⟨by simp [clearM, e, zM], e⟩
    obtain ⟨X1, hX1⟩ : ∃ X, X = w1.alloc (.cells #[.slice none 0 0, .bool false, .slice none 0 0, .slice none 0 0] 85) := ⟨_, rfl⟩
    have bA : Below w1.heap.size w1 X1 := by rw [hX1]; exact (Below.refl _ _).alloc (Nat.le_refl _) _
    have b1A := b1.trans (bA.mono b1.size)
    obtain ⟨z0, z1, z2, z3, zf⟩ := zeroBoxM ((b1A.block _ (by have := H.out.2.1; omega)).trans H.out.2.2)
    have f0 := zf 0
    have f1 := zf 1
    have f2 := zf 2
    have f3 := zf 3
    have K := hidOf (H.out.1.trans (b1A.mono H.out.1.size))
    clear zf
    clear b1 bA b1A
    rw [hX1] at z0 z1 z2 z3 f0 f1 f2 f3 K
    go_wp2
    refine bodyPost_ret (v := .tuple #[.agg #[.bool false, .slice none 0 0, .slice none 0 0, .slice none 0 0], .bool false]) (by simp [results, Tryz.results22, go_sem, z0, z1, z2, z3]) rfl ?_
    rw [HN.out.1, HN.out.2]
    exact MAnsB.zero ((((K.out.setCell (p := ⟨w.heap.size + 1, _, none⟩) (by dsimp only; omega) _).setCell (p := ⟨w.heap.size + 1, _, none⟩) (by dsimp only; omega) _).setCell (p := ⟨w.heap.size + 1, _, none⟩) (by dsimp only; omega) _).setCell (p := ⟨w.heap.size + 1, _, none⟩) (by dsimp only; omega) _)
  | true =>
    obtain ⟨⟨uc, uk, ul, uj, ud, ui⟩, p, gk, gr, rfl, mr⟩ := t2 hB
    clear t1 t2
    simp only [MV.own]
    have hS := hidOf (MSm.of_mach hB)
    have HU : Hid (UpN m.cleared) := mach_upN hB
    obtain ⟨X1, hX1⟩ : ∃ X, X = w1.alloc (.cells #[.slice ul m.log.length uj, .bool m.alive, .slice uc m.copies.length uk, .slice ud m.cleared.length ui] 85) := ⟨_, rfl⟩
    have bA : Below w1.heap.size w1 X1 := by rw [hX1]; exact (Below.refl _ _).alloc (Nat.le_refl _) _
    have s1 : X1.heap.size = w1.heap.size + 1 := by rw [hX1]; simp
    have b1A := b1.trans (bA.mono b1.size)
    have u0 : X1.cell? ⟨w1.heap.size, 0, none⟩ = some (.slice ul m.log.length uj) := by rw [hX1]; go_simp
    have u1 : X1.cell? ⟨w1.heap.size, 1, none⟩ = some (.bool m.alive) := by rw [hX1]; go_simp
    have u2 : X1.cell? ⟨w1.heap.size, 2, none⟩ = some (.slice uc m.copies.length uk) := by rw [hX1]; go_simp
    have u3 : X1.cell? ⟨w1.heap.size, 3, none⟩ = some (.slice ud m.cleared.length ui) := by rw [hX1]; go_simp
    have uf : ∀ j, X1.frozen? ⟨w1.heap.size, j, none⟩ = false := fun j => by rw [hX1]; go_simp
    have bw := H.out.1.trans (b1A.mono H.out.1.size)
    have K1 : Hid (Below w.heap.size w X1 ∧ X1.heap[w.heap.size + 1]? = some (.cells #[.bool false, .slice none 0 0, .slice none 0 0, .slice none 0 0] 28 (0, 0)) ∧ MR W.heap.size w1.heap.size X1 (.slice uc m.copies.length uk) (.slice ul m.log.length uj) (.slice ud m.cleared.length ui) m.copies m.log m.cleared gk gr ∧ w1.heap.size < X1.heap.size ∧ w.heap.size + 2 ≤ W.heap.size ∧ W.heap.size ≤ w1.heap.size ∧ (X1.cell? ⟨w1.heap.size, 0, none⟩ = some (.slice ul m.log.length uj) ∧ X1.cell? ⟨w1.heap.size, 1, none⟩ = some (.bool m.alive) ∧ X1.cell? ⟨w1.heap.size, 2, none⟩ = some (.slice uc m.copies.length uk) ∧ X1.cell? ⟨w1.heap.size, 3, none⟩ = some (.slice ud m.cleared.length ui) ∧ (∀ j, X1.frozen? ⟨w1.heap.size, j, none⟩ = false))) := ⟨bw, (b1A.block _ (by have := H.out.2.1; omega)).trans H.out.2.2, ((mr.mono (by omega)).out (.inr (Nat.le_refl _))).later bA, by omega, by have := H.out.2.1; omega, b1.size, u0, u1, u2, u3, uf⟩
    have hc := implId X1 t
    clear mr bA b1A b1 s1 u0 u1 u2 u3 uf bw H
    go_wp2_with fail
    rw [← hX1]
    clear hX1
    refine hc.mono ?_
    clear hc
    rintro e w2 ⟨rfl, rfl⟩
    cases hI : inB 1 1000000 t with
    | false =>
      have HN : Hid (clearM m t g d = zM ∧ clearB m t d = false) := by
        have e : clearB m t d = false := by simp [clearB, hI]
        exact ⟨by simp [clearM, e, zM], e⟩
      obtain ⟨z0, z1, z2, z3, zf⟩ := zeroBoxM (K1.out.2.1)
      have f0 := zf 0
      have f1 := zf 1
      have f2 := zf 2
      have f3 := zf 3
      have K := hidOf (K1.out.1)
      clear zf
      go_wp2
      refine bodyPost_ret (v := .tuple #[.agg #[.bool false, .slice none 0 0, .slice none 0 0, .slice none 0 0], .bool false]) (by simp [results, Tryz.results22, go_sem, z0, z1, z2, z3]) rfl ?_
      rw [HN.out.1, HN.out.2]
      exact MAnsB.zero ((((K.out.setCell (p := ⟨w.heap.size + 1, _, none⟩) (by dsimp only; omega) _).setCell (p := ⟨w.heap.size + 1, _, none⟩) (by dsimp only; omega) _).setCell (p := ⟨w.heap.size + 1, _, none⟩) (by dsimp only; omega) _).setCell (p := ⟨w.heap.size + 1, _, none⟩) (by dsimp only; omega) _)
    | true =>
      cases d with
      | false =>
        have HN : Hid (clearM m t g false = (⟨m.alive, m.copies, m.log.filter (fun r => !ofB t g r), m.cleared⟩ : M4) ∧ clearB m t false = true) := by
          have e : clearB m t false = true := by simp [clearB, hB, hI]
          exact ⟨by simp [clearM, e, clearD], e⟩
        obtain ⟨k1, k2, k3, k4, k5, k6, k7, k8, k9, k10, k11⟩ := K1.out
        have hc := strikeM w2 W.heap.size w1.heap.size (.slice uc m.copies.length uk) (.slice ud m.cleared.length ui) ul uj m.copies m.log (m.cleared) gk gr t g k3 k7 (k11 0) k4 k6 (by have := hS.out.r; omega)
        have KX : Hid (Below w.heap.size w w2 ∧ w2.heap[w.heap.size + 1]? = some (.cells #[.bool false, .slice none 0 0, .slice none 0 0, .slice none 0 0] 28 (0, 0)) ∧ w1.heap.size < w2.heap.size ∧ w.heap.size + 2 ≤ W.heap.size ∧ w2.cell? ⟨w1.heap.size, 1, none⟩ = some (.bool m.alive) ∧ w2.cell? ⟨w1.heap.size, 2, none⟩ = some (.slice uc m.copies.length uk) ∧ w2.cell? ⟨w1.heap.size, 3, none⟩ = some (.slice ud m.cleared.length ui) ∧ W.heap.size ≤ w1.heap.size) := ⟨k1, k2, k4, k5, k8, k9, k10, k6⟩
        clear k1 k2 k3 k4 k5 k6 k7 k8 k9 k10 k11 K1
        go_wp2_with fail
        refine hc.mono ?_
        clear hc
        rintro e w3 ⟨rfl, al', cl', gr', o0, mr3, ot, b3⟩
        obtain ⟨k1, k2, k4, k5, u1, u2, u3, k6⟩ := KX.out
        obtain ⟨rs', hrs⟩ : ∃ rs', rs' = m.log.filter (fun r => !ofB t g r) := ⟨_, rfl⟩
        rw [← hrs] at o0 mr3
        have HRS := hidOf hrs
        clear hrs
        have hgv := given_any w3 w1.heap.size m.alive al' rs'.length cl' uc m.copies.length uk ud m.cleared.length ui o0 ((ot 1 (by omega)).trans u1) ((ot 2 (by omega)).trans u2) ((ot 3 (by omega)).trans u3) (Nat.lt_of_lt_of_le k4 b3.size)
        have K3 : Hid (Below w.heap.size w w3 ∧ w3.heap[w.heap.size + 1]? = some (.cells #[.bool false, .slice none 0 0, .slice none 0 0, .slice none 0 0] 28 (0, 0)) ∧ MR W.heap.size w1.heap.size w3 (.slice uc m.copies.length uk) (.slice al' rs'.length cl') (.slice ud m.cleared.length ui) m.copies rs' (m.cleared) gk gr' ∧ w.heap.size + 2 ≤ W.heap.size) := ⟨k1.trans (b3.mono (by omega)), (b3.block _ (by omega)).trans k2, mr3, k5⟩
        have hl3 : w.heap.size + 1 < w3.heap.size := by have := b3.size; omega
        clear o0 mr3 ot b3 k1 k2 k4 k5 k6 u1 u2 u3 KX
        go_wp2_with fail
        refine hgv.mono ?_
        clear hgv
        rintro e w4 ⟨rfl, b4⟩
        have K4 : Hid (Below w.heap.size w w4 ∧ MR W.heap.size w1.heap.size w4 (.slice uc m.copies.length uk) (.slice al' rs'.length cl') (.slice ud m.cleared.length ui) m.copies rs' (m.cleared) gk gr' ∧ w.heap.size + 2 ≤ W.heap.size) := ⟨K3.out.1.trans (b4.mono K3.out.1.size), K3.out.2.2.1.later b4, K3.out.2.2.2⟩
        obtain ⟨z0, z1, z2, z3, zf⟩ := zeroBoxM ((b4.block _ hl3).trans K3.out.2.1)
        have f0 := zf 0
        have f1 := zf 1
        have f2 := zf 2
        have f3 := zf 3
        clear zf b4 K3 hl3
        go_wp2
        refine bodyPost_ret (v := .tuple #[.agg #[.bool m.alive, .slice uc m.copies.length uk, .slice al' rs'.length cl', .slice ud m.cleared.length ui], .bool true]) (by simp [results, Tryz.results22, go_sem, z0, z1, z2, z3]) rfl ?_
        rw [HN.out.1, HN.out.2, ← HRS.out]
        exact MAnsB.of (m := (⟨m.alive, m.copies, rs', m.cleared⟩ : M4)) (v := ⟨uc, uk, al', cl', ud, ui⟩) (b := w.heap.size + 1) rfl rfl rfl K4.out.2.1 K4.out.1 (by have := K4.out.2.2; omega) (by omega)
      | true =>
        obtain ⟨k1, k2, k3, k4, k5, k6, k7, k8, k9, k10, k11⟩ := K1.out
        have hc := markCleared_any w2 w1.heap.size W.heap.size (.slice ud m.cleared.length ui) m.cleared t k10 (k11 3) k4 k3.dp k3.gD (by have := hS.out.n; omega) HU.out (by omega)
        clear k1 k2 k3 k4 k5 k6 k7 k8 k9 k10 k11
        go_wp2_with fail
        refine hc.mono ?_
        clear hc
        rintro e w3 hm
        rcases hm with ⟨hh, rfl, rfl⟩ | ⟨hh, h60, rfl, rfl⟩ | ⟨hh, h60, i, vd', Y, hpos, rfl, ho, hg, hlie, rfl⟩
        · have HN : Hid (clearM m t g true = (⟨m.alive, m.copies, m.log.filter (fun r => !ofB t g r), m.cleared⟩ : M4) ∧ clearB m t true = true) := by
            have e : clearB m t true = true := by simp [clearB, hB, hI, hh]
            exact ⟨by simp [clearM, e, clearD, putZ_has hh], e⟩
          obtain ⟨k1, k2, k3, k4, k5, k6, k7, k8, k9, k10, k11⟩ := K1.out
          have hc := strikeM w3 W.heap.size w1.heap.size (.slice uc m.copies.length uk) (.slice ud m.cleared.length ui) ul uj m.copies m.log (m.cleared) gk gr t g k3 k7 (k11 0) k4 k6 (by have := hS.out.r; omega)
          have KX : Hid (Below w.heap.size w w3 ∧ w3.heap[w.heap.size + 1]? = some (.cells #[.bool false, .slice none 0 0, .slice none 0 0, .slice none 0 0] 28 (0, 0)) ∧ w1.heap.size < w3.heap.size ∧ w.heap.size + 2 ≤ W.heap.size ∧ w3.cell? ⟨w1.heap.size, 1, none⟩ = some (.bool m.alive) ∧ w3.cell? ⟨w1.heap.size, 2, none⟩ = some (.slice uc m.copies.length uk) ∧ w3.cell? ⟨w1.heap.size, 3, none⟩ = some (.slice ud m.cleared.length ui) ∧ W.heap.size ≤ w1.heap.size) := ⟨k1, k2, k4, k5, k8, k9, k10, k6⟩
          clear k1 k2 k3 k4 k5 k6 k7 k8 k9 k10 k11 K1
          go_wp2_with fail
          refine hc.mono ?_
          clear hc
          rintro e w3 ⟨rfl, al', cl', gr', o0, mr3, ot, b3⟩
          obtain ⟨k1, k2, k4, k5, u1, u2, u3, k6⟩ := KX.out
          obtain ⟨rs', hrs⟩ : ∃ rs', rs' = m.log.filter (fun r => !ofB t g r) := ⟨_, rfl⟩
          rw [← hrs] at o0 mr3
          have HRS := hidOf hrs
          clear hrs
          have hgv := given_any w3 w1.heap.size m.alive al' rs'.length cl' uc m.copies.length uk ud m.cleared.length ui o0 ((ot 1 (by omega)).trans u1) ((ot 2 (by omega)).trans u2) ((ot 3 (by omega)).trans u3) (Nat.lt_of_lt_of_le k4 b3.size)
          have K3 : Hid (Below w.heap.size w w3 ∧ w3.heap[w.heap.size + 1]? = some (.cells #[.bool false, .slice none 0 0, .slice none 0 0, .slice none 0 0] 28 (0, 0)) ∧ MR W.heap.size w1.heap.size w3 (.slice uc m.copies.length uk) (.slice al' rs'.length cl') (.slice ud m.cleared.length ui) m.copies rs' (m.cleared) gk gr' ∧ w.heap.size + 2 ≤ W.heap.size) := ⟨k1.trans (b3.mono (by omega)), (b3.block _ (by omega)).trans k2, mr3, k5⟩
          have hl3 : w.heap.size + 1 < w3.heap.size := by have := b3.size; omega
          clear o0 mr3 ot b3 k1 k2 k4 k5 k6 u1 u2 u3 KX
          go_wp2_with fail
          refine hgv.mono ?_
          clear hgv
          rintro e w4 ⟨rfl, b4⟩
          have K4 : Hid (Below w.heap.size w w4 ∧ MR W.heap.size w1.heap.size w4 (.slice uc m.copies.length uk) (.slice al' rs'.length cl') (.slice ud m.cleared.length ui) m.copies rs' (m.cleared) gk gr' ∧ w.heap.size + 2 ≤ W.heap.size) := ⟨K3.out.1.trans (b4.mono K3.out.1.size), K3.out.2.2.1.later b4, K3.out.2.2.2⟩
          obtain ⟨z0, z1, z2, z3, zf⟩ := zeroBoxM ((b4.block _ hl3).trans K3.out.2.1)
          have f0 := zf 0
          have f1 := zf 1
          have f2 := zf 2
          have f3 := zf 3
          clear zf b4 K3 hl3
          go_wp2
          refine bodyPost_ret (v := .tuple #[.agg #[.bool m.alive, .slice uc m.copies.length uk, .slice al' rs'.length cl', .slice ud m.cleared.length ui], .bool true]) (by simp [results, Tryz.results22, go_sem, z0, z1, z2, z3]) rfl ?_
          rw [HN.out.1, HN.out.2, ← HRS.out]
          exact MAnsB.of (m := (⟨m.alive, m.copies, rs', m.cleared⟩ : M4)) (v := ⟨uc, uk, al', cl', ud, ui⟩) (b := w.heap.size + 1) rfl rfl rfl K4.out.2.1 K4.out.1 (by have := K4.out.2.2; omega) (by omega)
        · have HN : Hid (clearM m t g true = zM ∧ clearB m t true = false) := by
            have e : clearB m t true = false := by simp [clearB, hh, h60]
            exact ⟨by simp [clearM, e, zM], e⟩
          obtain ⟨z0, z1, z2, z3, zf⟩ := zeroBoxM (K1.out.2.1)
          have f0 := zf 0
          have f1 := zf 1
          have f2 := zf 2
          have f3 := zf 3
          have K := hidOf (K1.out.1)
          clear zf
          go_wp2
          refine bodyPost_ret (v := .tuple #[.agg #[.bool false, .slice none 0 0, .slice none 0 0, .slice none 0 0], .bool false]) (by simp [results, Tryz.results22, go_sem, z0, z1, z2, z3]) rfl ?_
          rw [HN.out.1, HN.out.2]
          exact MAnsB.zero ((((K.out.setCell (p := ⟨w.heap.size + 1, _, none⟩) (by dsimp only; omega) _).setCell (p := ⟨w.heap.size + 1, _, none⟩) (by dsimp only; omega) _).setCell (p := ⟨w.heap.size + 1, _, none⟩) (by dsimp only; omega) _).setCell (p := ⟨w.heap.size + 1, _, none⟩) (by dsimp only; omega) _)
        · obtain ⟨zs', hzs⟩ : ∃ zs', zs' = insZ m.cleared i t := ⟨_, rfl⟩
          have HZ : Hid (zs' = putZ m.cleared t) := by rw [hzs]; exact putZ_of hpos hh
          have hL : zs'.length = m.cleared.length + 1 := by rw [hzs]; exact insZ_len hpos.le
          rw [← hzs] at ho
          rw [← hL] at ho
          clear hzs hL
          obtain ⟨ad', cd', rfl, -⟩ := owns_form ho rfl
          have HN : Hid (clearM m t g true = (⟨m.alive, m.copies, m.log.filter (fun r => !ofB t g r), zs'⟩ : M4) ∧ clearB m t true = true) := by
            have e : clearB m t true = true := by simp [clearB, hB, hI]; omega
            exact ⟨by simp [clearM, e, clearD, HZ.out], e⟩
          have K2 : Hid (Below w.heap.size w (Y.setCell ⟨w1.heap.size, 3, none⟩ (.slice ad' zs'.length cd')) ∧ (Y.setCell ⟨w1.heap.size, 3, none⟩ (.slice ad' zs'.length cd')).heap[w.heap.size + 1]? = some (.cells #[.bool false, .slice none 0 0, .slice none 0 0, .slice none 0 0] 28 (0, 0)) ∧ MR W.heap.size w1.heap.size (Y.setCell ⟨w1.heap.size, 3, none⟩ (.slice ad' zs'.length cd')) (.slice uc m.copies.length uk) (.slice ul m.log.length uj) (.slice ad' zs'.length cd') m.copies m.log zs' gk gr ∧ w1.heap.size < (Y.setCell ⟨w1.heap.size, 3, none⟩ (.slice ad' zs'.length cd')).heap.size ∧ w.heap.size + 2 ≤ W.heap.size ∧ W.heap.size ≤ w1.heap.size ∧ ((Y.setCell ⟨w1.heap.size, 3, none⟩ (.slice ad' zs'.length cd')).cell? ⟨w1.heap.size, 0, none⟩ = some (.slice ul m.log.length uj) ∧ (Y.setCell ⟨w1.heap.size, 3, none⟩ (.slice ad' zs'.length cd')).cell? ⟨w1.heap.size, 1, none⟩ = some (.bool m.alive) ∧ (Y.setCell ⟨w1.heap.size, 3, none⟩ (.slice ad' zs'.length cd')).cell? ⟨w1.heap.size, 2, none⟩ = some (.slice uc m.copies.length uk) ∧ (Y.setCell ⟨w1.heap.size, 3, none⟩ (.slice ad' zs'.length cd')).cell? ⟨w1.heap.size, 3, none⟩ = some (.slice ad' zs'.length cd') ∧ (∀ j, (Y.setCell ⟨w1.heap.size, 3, none⟩ (.slice ad' zs'.length cd')).frozen? ⟨w1.heap.size, j, none⟩ = false))) := by
            obtain ⟨k1, k2, k3, k4, k5, k6, k7, k8, k9, k10, k11⟩ := K1.out
            have hne : (Value.slice ud m.cleared.length ui).ownBlock ≠ some w1.heap.size := k3.dp
            have hlow : ∀ q, (Value.slice ud m.cleared.length ui).ownBlock = some q → W.heap.size ≤ q := fun q e => (World.ownsRow.lt k3.gD q e).1
            have hb1 : Y.heap[w1.heap.size]? = w2.heap[w1.heap.size]? := hg.block _ k4 (fun e => hne e.symm)
            have hb2 : Y.heap[w.heap.size + 1]? = w2.heap[w.heap.size + 1]? := hg.block _ (by omega) (fun e => by have := hlow _ e.symm; omega)
            refine ⟨(k1.grown hg k1.size (fun q e => by have := hlow q e; omega)).setCell (p := ⟨w1.heap.size, 3, none⟩) (by show w.heap.size ≤ w1.heap.size; omega) _, ?_, (k3.cleared k4 hg ho hlie).set, ?_, k5, k6, ?_, ?_, ?_, ?_, ?_⟩
            · exact (Below.heap_setCell _ _ _ _ (by show w.heap.size + 1 ≠ w1.heap.size; omega)).trans (hb2.trans k2)
            · simp only [World.setCell]; have := hg.size; simp; omega
            · exact (cell_set_other (by omega)).trans ((World.cell?_of_block (a := ⟨w1.heap.size, 0, none⟩) hb1).trans k7)
            · exact (cell_set_other (by omega)).trans ((World.cell?_of_block (a := ⟨w1.heap.size, 1, none⟩) hb1).trans k8)
            · exact (cell_set_other (by omega)).trans ((World.cell?_of_block (a := ⟨w1.heap.size, 2, none⟩) hb1).trans k9)
            · exact cell_set_same ((World.cell?_of_block (a := ⟨w1.heap.size, 3, none⟩) hb1).trans k10)
            · intro j
              simp only [World.frozen?_setCell]
              exact (World.frozen?_of_block (a := ⟨w1.heap.size, j, none⟩) hb1).trans (k11 j)
          clear ho hg hlie hpos K1
          generalize (Y.setCell ⟨w1.heap.size, 3, none⟩ (.slice ad' zs'.length cd')) = Y2 at *
          obtain ⟨k1, k2, k3, k4, k5, k6, k7, k8, k9, k10, k11⟩ := K2.out
          have hc := strikeM Y2 W.heap.size w1.heap.size (.slice uc m.copies.length uk) (.slice ad' zs'.length cd') ul uj m.copies m.log (zs') gk gr t g k3 k7 (k11 0) k4 k6 (by have := hS.out.r; omega)
          have KX : Hid (Below w.heap.size w Y2 ∧ Y2.heap[w.heap.size + 1]? = some (.cells #[.bool false, .slice none 0 0, .slice none 0 0, .slice none 0 0] 28 (0, 0)) ∧ w1.heap.size < Y2.heap.size ∧ w.heap.size + 2 ≤ W.heap.size ∧ Y2.cell? ⟨w1.heap.size, 1, none⟩ = some (.bool m.alive) ∧ Y2.cell? ⟨w1.heap.size, 2, none⟩ = some (.slice uc m.copies.length uk) ∧ Y2.cell? ⟨w1.heap.size, 3, none⟩ = some (.slice ad' zs'.length cd') ∧ W.heap.size ≤ w1.heap.size) := ⟨k1, k2, k4, k5, k8, k9, k10, k6⟩
          clear k1 k2 k3 k4 k5 k6 k7 k8 k9 k10 k11 K2
          go_wp2_with fail
          refine hc.mono ?_
          clear hc
          rintro e w3 ⟨rfl, al', cl', gr', o0, mr3, ot, b3⟩
          obtain ⟨k1, k2, k4, k5, u1, u2, u3, k6⟩ := KX.out
          obtain ⟨rs', hrs⟩ : ∃ rs', rs' = m.log.filter (fun r => !ofB t g r) := ⟨_, rfl⟩
          rw [← hrs] at o0 mr3
          have HRS := hidOf hrs
          clear hrs
          have hgv := given_any w3 w1.heap.size m.alive al' rs'.length cl' uc m.copies.length uk ad' zs'.length cd' o0 ((ot 1 (by omega)).trans u1) ((ot 2 (by omega)).trans u2) ((ot 3 (by omega)).trans u3) (Nat.lt_of_lt_of_le k4 b3.size)
          have K3 : Hid (Below w.heap.size w w3 ∧ w3.heap[w.heap.size + 1]? = some (.cells #[.bool false, .slice none 0 0, .slice none 0 0, .slice none 0 0] 28 (0, 0)) ∧ MR W.heap.size w1.heap.size w3 (.slice uc m.copies.length uk) (.slice al' rs'.length cl') (.slice ad' zs'.length cd') m.copies rs' (zs') gk gr' ∧ w.heap.size + 2 ≤ W.heap.size) := ⟨k1.trans (b3.mono (by omega)), (b3.block _ (by omega)).trans k2, mr3, k5⟩
          have hl3 : w.heap.size + 1 < w3.heap.size := by have := b3.size; omega
          clear o0 mr3 ot b3 k1 k2 k4 k5 k6 u1 u2 u3 KX
          go_wp2_with fail
          refine hgv.mono ?_
          clear hgv
          rintro e w4 ⟨rfl, b4⟩
          have K4 : Hid (Below w.heap.size w w4 ∧ MR W.heap.size w1.heap.size w4 (.slice uc m.copies.length uk) (.slice al' rs'.length cl') (.slice ad' zs'.length cd') m.copies rs' (zs') gk gr' ∧ w.heap.size + 2 ≤ W.heap.size) := ⟨K3.out.1.trans (b4.mono K3.out.1.size), K3.out.2.2.1.later b4, K3.out.2.2.2⟩
          obtain ⟨z0, z1, z2, z3, zf⟩ := zeroBoxM ((b4.block _ hl3).trans K3.out.2.1)
          have f0 := zf 0
          have f1 := zf 1
          have f2 := zf 2
          have f3 := zf 3
          clear zf b4 K3 hl3
          go_wp2
          refine bodyPost_ret (v := .tuple #[.agg #[.bool m.alive, .slice uc m.copies.length uk, .slice al' rs'.length cl', .slice ad' zs'.length cd'], .bool true]) (by simp [results, Tryz.results22, go_sem, z0, z1, z2, z3]) rfl ?_
          rw [HN.out.1, HN.out.2, ← HRS.out]
          exact MAnsB.of (m := (⟨m.alive, m.copies, rs', zs'⟩ : M4)) (v := ⟨uc, uk, al', cl', ad', cd'⟩) (b := w.heap.size + 1) rfl rfl rfl K4.out.2.1 K4.out.1 (by have := K4.out.2.2; omega) (by omega)
end Go.Proofs.YtooalbdlknheeaaGreat
/- A law's argument that is a row of bytes, opened. -/
namespace Go.Proofs.YtooalbdlknheeaaGreat
open Go.ChangeShapes Go.WideShapes Go.ChangeAt Go.RowKit
/-- What the walk is told of the bytes that came in. -/
def IsRow (k : IntKind) (w : World) (a : Option Addr) (len cap : Nat) (zs : List Int) : Prop :=
  (a = none ∧ len = 0 ∧ cap = 0 ∧ zs = []) ∨
  ∃ x, a = some x ∧ len ≤ cap ∧ cap ≤ maxLen ∧ zs.length = cap ∧ (∀ i, i < zs.length → w.cell? (x.add i) = some (.int k (zs.getD i 0))) ∧ ∀ n ∈ zs, (Lit.int k n).wf = true
theorem IsRow.bytes {w : World} {a : Option Addr} {n k : Nat} {zs : List Int} (h : IsRow .u8 w a n k zs) : Bytes w w.heap.size a n := by
  rcases h with ⟨rfl, rfl, rfl, rfl⟩ | ⟨x, rfl, hl, hm, hz, hc, hw⟩
  · exact ⟨by unfold maxLen; omega, .inl rfl⟩
  · refine ⟨by omega, ?_⟩
    by_cases h0 : n = 0
    · exact .inl h0
    · obtain ⟨b, off, rfl, hcc⟩ := ints_at hc (by omega)
      exact .inr ⟨b, off, rfl, World.block_lt_of_cell? w _ (hcc 0 (by omega)), fun i hi => ⟨zs.getD i 0, hcc i (by omega), by simpa using range_u8 hw i⟩⟩
end Go.Proofs.YtooalbdlknheeaaGreat
