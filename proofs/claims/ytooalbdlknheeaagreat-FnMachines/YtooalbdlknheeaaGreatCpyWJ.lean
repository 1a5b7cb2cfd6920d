/- The specification's l6Copy, its first statement: what it leaves. -/
import Derived.Test.YtooalbdlknheeaaGreatRows
import Derived.Test.YtooalbdlknheeaaGreatJ26LawMachines
import Derived.WalkKit
import Derived.WalkSpells
import Derived.WalkLawsBesides
import Derived.Below
import Derived.Deep.CutRange
namespace Go.Proofs.YtooalbdlknheeaaGreat
open Go.RowKit
/-- Behind the first statement. -/
def CpyFirst (w W0 : World) (m : M4) (s3 : Value) (wx : World) : Prop := ∃ (p : Nat) (a' : Option Addr) (c' : Nat), s3 = .pointer (some ⟨p, 0, none⟩) ∧ C3 w.heap.size p m.alive wx (.slice none 0 0) (.slice none 0 0) (.slice a' m.cleared.length c') ∧ MR (w.heap.size + 2) p wx (.slice none 0 0) (.slice none 0 0) (.slice a' m.cleared.length c') [] [] m.cleared gz gz ∧ Below (w.heap.size + 1) W0 wx
set_option maxRecDepth 100000 in
set_option maxHeartbeats 4000000 in
theorem l6Copy_any (w : World) (v : MV) (m : M4) (hm : MSm m) (hs : SlM w v m) :
    Calls Tryz.prog 58 #[v.val m] w fun e w' => ∃ (u : MV) (p : Nat) (gk gr : Nat → Nat), e = .returned (u.val m) ∧ MR (w.heap.size + 2) p w' (.slice u.ac m.copies.length u.cc) (.slice u.al m.log.length u.cl) (.slice u.ad m.cleared.length u.cd) m.copies m.log m.cleared gk gr ∧ Below w.heap.size w w' := by
  obtain ⟨ac, cc, al, cl, ad, cd⟩ := v
  simp only [MV.val]
  obtain ⟨W0, hW0⟩ : ∃ W0, W0 = w.alloc (.cells #[.bool m.alive, .slice ac m.copies.length cc, .slice al m.log.length cl, .slice ad m.cleared.length cd] 28) := ⟨_, rfl⟩
  have b0 : Below w.heap.size w W0 := by subst hW0; exact (Below.refl _ _).alloc (Nat.le_refl _) _
  have s0 : W0.heap.size = w.heap.size + 1 := by subst hW0; simp
  have c0 : ∀ X, Below (w.heap.size + 1) W0 X → X.cell? ⟨w.heap.size, 0, none⟩ = some (.bool m.alive) ∧ X.cell? ⟨w.heap.size, 1, none⟩ = some (.slice ac m.copies.length cc) ∧ X.cell? ⟨w.heap.size, 2, none⟩ = some (.slice al m.log.length cl) ∧ X.cell? ⟨w.heap.size, 3, none⟩ = some (.slice ad m.cleared.length cd) := fun X hX => by
    refine ⟨(hX.cell (p := ⟨w.heap.size, 0, none⟩) (by simp)).trans ?_, (hX.cell (p := ⟨w.heap.size, 1, none⟩) (by simp)).trans ?_, (hX.cell (p := ⟨w.heap.size, 2, none⟩) (by simp)).trans ?_, (hX.cell (p := ⟨w.heap.size, 3, none⟩) (by simp)).trans ?_⟩
    all_goals (subst hW0; go_simp)
  have H : Hid (MSm m ∧ SlM w ⟨ac, cc, al, cl, ad, cd⟩ m ∧ Below w.heap.size w W0 ∧ W0.heap.size = w.heap.size + 1) := ⟨hm, hs, b0, s0⟩
  have HC := hidOf c0
  clear hm hs b0 s0 c0
  go_enter Tryz.func58, Tryz.ntmps58
  go_upto_region 1 with fail
  go_cut [3] from 6 to 12 (fun s3 wx => CpyFirst w W0 m s3 wx)
  case first =>
    obtain ⟨W1, hW1⟩ : ∃ W1, W1 = (W0.alloc (.cells #[.bool false, .slice none 0 0, .slice none 0 0, .slice none 0 0] 28)).drew := ⟨_, rfl⟩
    have b1 : Below W0.heap.size W0 W1 := by subst hW1; exact ((Below.refl _ _).alloc (Nat.le_refl _) _).drew
    have s1 : W1.heap.size = w.heap.size + 2 := by subst hW1; simp [H.out.2.2.2]
    have b1' : Below (w.heap.size + 1) W0 W1 := b1.mono (by rw [H.out.2.2.2]; exact Nat.le_refl _)
    obtain ⟨ca, _, _, cd3⟩ := HC.out W1 b1'
    have hr1 : W1.heap[w.heap.size + 1]? = some (.cells #[.bool false, .slice none 0 0, .slice none 0 0, .slice none 0 0] 28 (0, 0)) := by
      subst hW1
      rw [← H.out.2.2.2]
      exact heap_alloc_new W0 _
    have hS0 : (fun X : World => X.cell? ⟨w.heap.size, 0, none⟩ = some (.bool m.alive) ∧ X.cell? ⟨w.heap.size, 3, none⟩ = some (.slice ad m.cleared.length cd)) W1 := ⟨ca, cd3⟩
    refine wp_region_until 8 (fun X : World => X.cell? ⟨w.heap.size, 0, none⟩ = some (.bool m.alive) ∧ X.cell? ⟨w.heap.size, 3, none⟩ = some (.slice ad m.cleared.length cd)) (by kernel_rfl) ?_
    have KW : Hid (Below w.heap.size w W1 ∧ Below (w.heap.size + 1) W0 W1 ∧ W1.heap.size = w.heap.size + 2 ∧ W1.heap[w.heap.size + 1]? = some (.cells #[.bool false, .slice none 0 0, .slice none 0 0, .slice none 0 0] 28 (0, 0)) ∧ (∀ X, Below W1.heap.size W1 X → (fun X : World => X.cell? ⟨w.heap.size, 0, none⟩ = some (.bool m.alive) ∧ X.cell? ⟨w.heap.size, 3, none⟩ = some (.slice ad m.cleared.length cd)) X)) := ⟨H.out.2.2.1.trans (b1'.mono (by omega)), b1', s1, hr1, fun X hX => ⟨(hX.cell (p := ⟨w.heap.size, 0, none⟩) (by show w.heap.size < W1.heap.size; omega)).trans ca, (hX.cell (p := ⟨w.heap.size, 3, none⟩) (by show w.heap.size < W1.heap.size; omega)).trans cd3⟩⟩
    clear b1 s1 b1' ca cd3 hr1
    subst hW0
    rw [← hW1]
    clear hW1
    refine wpUntil_take (i := 0) (v := ?_) rfl (by kernel_rfl) (fun _ _ _ h => h) (Or.inl ⟨by rfl, ?_⟩) hS0 ?_
    rotate_left
    · (intro w hSw; go_simp; first | done | with_reducible rfl | exact hSw.1 | exact hSw.2)
    simp only [Act.put]
    refine wpUntil_take (i := 1) (v := ?_) rfl (by kernel_rfl) (fun _ _ _ h => h) (Or.inl ⟨by rfl, ?_⟩) hS0 ?_
    rotate_left
    · (intro w hSw; go_simp; first | done | with_reducible rfl | exact hSw.1 | exact hSw.2)
    simp only [Act.put]
    refine wpUntil_take (i := 3) (v := ?_) rfl (by kernel_rfl) (fun _ _ _ h => h) (Or.inl ⟨by rfl, ?_⟩) hS0 ?_
    rotate_left
    · (intro w hSw; go_simp; first | done | with_reducible rfl | exact hSw.1 | exact hSw.2)
    simp only [Act.put]
    refine wpUntil_take (i := 4) (v := ?_) rfl (by kernel_rfl) (fun _ _ _ h => h) (Or.inl ⟨by rfl, ?_⟩) hS0 ?_
    rotate_left
    · (intro w hSw; go_simp; first | done | with_reducible rfl | exact hSw.1 | exact hSw.2)
    simp only [Act.put]
    refine wpUntil_ready (rs := [2, 7]) (by kernel_rfl) (by simp) ?_
    refine AllU.cons rfl (fun K hK => ?_) (AllU.cons rfl (fun K hK => ?_) AllU.nil)
    · have bE : Below W1.heap.size W1 (W1.alloc (.cells #[] 2)) := (Below.refl _ _).alloc (Nat.le_refl _) _
      have sE : (W1.alloc (.cells #[] 2)).heap.size = W1.heap.size + 1 := by simp
      have hE : (W1.alloc (.cells #[] 2)).heap[W1.heap.size]? = some (.cells #[] 2 (0, 0)) := heap_alloc_new W1 _
      have hSE := KW.out.2.2.2.2 _ bE
      go_simp
      refine hK.out _ _ (fun _ => hSE) ?_
      clear hK K
      refine wpUntil_ready (rs := [5, 7]) (by kernel_rfl) (by simp) ?_
      refine AllU.cons rfl (fun K hK => ?_) (AllU.cons rfl (fun K hK => ?_) AllU.nil)
      · obtain ⟨a', c', WA, hr, hd, hg, hl⟩ := appendN (W1.alloc (.cells #[] 2)) (w.heap.size + 2) (some ⟨W1.heap.size, 0, none⟩) 0 (owns_empty hE (by have := KW.out.2.2.1; omega)) m.cleared (by have := H.out.1.n; omega) 26 ad cd ((H.out.2.1.later KW.out.1).later bE).n (by have := KW.out.2.2.1; omega)
        have bA : Below W1.heap.size W1 WA := bE.grown hg bE.size (fun k h => by cases h; exact Nat.le_refl _)
        have hSA := KW.out.2.2.2.2 _ bA
        have KA : Hid (Below W1.heap.size W1 WA ∧ WA.ownsRow (w.heap.size + 2) 2 1 (.slice a' m.cleared.length c') m.cleared.length (m.cleared.map (Value.int .i64))) := ⟨bA, hd⟩
        clear hd hg hl bA bE sE hE
        refine step_known _ rfl (.tmp 8) (.tmp 10) 26 rfl _ _ _ _ (by first | rfl | simp [Act.eval, Act.put]) (by first | rfl | simp [Act.eval, Act.put]) hr ?_
        refine hK.out _ _ (fun _ => hSA) ?_
        clear hK K hr hS0 hSE
        simp only [Act.put]
        refine wpUntil_take (i := 6) (v := ?_) rfl (by kernel_rfl) (fun _ _ _ h => h) (Or.inl ⟨by rfl, ?_⟩) hSA ?_
        rotate_left
        · (intro w hSw; go_simp; first | done | with_reducible rfl | exact hSw.1 | exact hSw.2)
        simp only [Act.put]
        refine wpUntil_ready (rs := [7]) (by kernel_rfl) (by simp) ?_
        refine AllU.cons rfl (fun K hK => ?_) AllU.nil
        go_simp
        have bB : Below WA.heap.size WA (WA.alloc (.cells #[.bool false, .slice none 0 0, .slice none 0 0, .slice none 0 0] 28)) := (Below.refl _ _).alloc (Nat.le_refl _) _
        have hSB := KW.out.2.2.2.2 _ (KA.out.1.trans (bB.mono KA.out.1.size))
        refine hK.out _ _ (fun _ => hSB) ?_
        clear hK K bB hSB hSA
        refine wpUntil_ready (rs := [8]) (by kernel_rfl) (by simp) ?_
        refine AllU.cons rfl (fun K hK => ?_) AllU.nil
        go_simp
        refine hK.out _ _ (fun h => absurd rfl h) ?_
        clear hK K
        refine wpUntil_done (by kernel_rfl) ?_ _
        go_wp2_with fail
        go_meet
        have q1 := KA.out.1.size
        have q2 := KW.out.2.2.1
        obtain ⟨f1, f2⟩ := firstM_A (s := w.heap.size) (alive := m.alive) (X := WA) (by omega) ((KA.out.1.block _ (by omega)).trans KW.out.2.2.2.1) KA.out.2
        exact ⟨WA.heap.size, a', c', rfl, f1, f2, KW.out.2.1.trans ((KA.out.1.mono (by omega)).alloc (by omega) _)⟩
      · have bZ : Below (W1.heap.size + 1) (W1.alloc (.cells #[] 2)) ((W1.alloc (.cells #[] 2)).alloc (.cells #[.bool false, .slice none 0 0, .slice none 0 0, .slice none 0 0] 28)) := (Below.refl _ _).alloc (by rw [sE]; exact Nat.le_refl _) _
        have bX : Below W1.heap.size W1 ((W1.alloc (.cells #[] 2)).alloc (.cells #[.bool false, .slice none 0 0, .slice none 0 0, .slice none 0 0] 28)) := bE.trans (bZ.mono (by omega))
        have sX : ((W1.alloc (.cells #[] 2)).alloc (.cells #[.bool false, .slice none 0 0, .slice none 0 0, .slice none 0 0] 28)).heap.size = W1.heap.size + 2 := by simp
        have hq : ((W1.alloc (.cells #[] 2)).alloc (.cells #[.bool false, .slice none 0 0, .slice none 0 0, .slice none 0 0] 28)).heap[W1.heap.size]? = some (.cells #[] 2 (0, 0)) := (bZ.block _ (by omega)).trans hE
        have hp : ((W1.alloc (.cells #[] 2)).alloc (.cells #[.bool false, .slice none 0 0, .slice none 0 0, .slice none 0 0] 28)).heap[W1.heap.size + 1]? = some (.cells #[.bool false, .slice none 0 0, .slice none 0 0, .slice none 0 0] 28 (0, 0)) := by rw [← sE]; exact heap_alloc_new _ _
        have hSX := KW.out.2.2.2.2 _ bX
        obtain ⟨a', c', WA, hr, hd, hg, hl⟩ := appendN ((W1.alloc (.cells #[] 2)).alloc (.cells #[.bool false, .slice none 0 0, .slice none 0 0, .slice none 0 0] 28)) (w.heap.size + 2) (some ⟨W1.heap.size, 0, none⟩) 0 (owns_empty hq (by have := KW.out.2.2.1; omega)) m.cleared (by have := H.out.1.n; omega) 26 ad cd ((H.out.2.1.later KW.out.1).later bX).n (by have := KW.out.2.2.1; omega)
        have bA : Below W1.heap.size W1 WA := bX.grown hg bX.size (fun k h => by cases h; show W1.heap.size ≤ W1.heap.size; omega)
        have hpA : WA.heap[(W1.heap.size + 1)]? = some (.cells #[.bool false, .slice none 0 0, .slice none 0 0, .slice none 0 0] 28 (0, 0)) := (hg.block (W1.heap.size + 1) (by omega) (fun e => by have e' : (W1.heap.size + 1) = W1.heap.size := Option.some.inj e; omega)).trans hp
        have hne : (Value.slice a' m.cleared.length c').ownBlock ≠ some (W1.heap.size + 1) := fun e => by
          rcases hl with e' | e'
          · rw [e'] at e; have e'' : W1.heap.size = (W1.heap.size + 1) := Option.some.inj e; omega
          · rw [e'] at e; have := Option.some.inj e; omega
        have hpl : (W1.heap.size + 1) < WA.heap.size := by have := hg.size; omega
        obtain ⟨z0, z1, z2, z3, zf⟩ := zeroBoxM hpA
        have zf0 := zf 0
        have zf1 := zf 1
        have zf2 := zf 2
        have zf3 := zf 3
        have hSA := KW.out.2.2.2.2 _ bA
        have KA : Hid (Below W1.heap.size W1 WA ∧ WA.ownsRow (w.heap.size + 2) 2 1 (.slice a' m.cleared.length c') m.cleared.length (m.cleared.map (Value.int .i64)) ∧ WA.heap[(W1.heap.size + 1)]? = some (.cells #[.bool false, .slice none 0 0, .slice none 0 0, .slice none 0 0] 28 (0, 0)) ∧ (Value.slice a' m.cleared.length c').ownBlock ≠ some (W1.heap.size + 1) ∧ (W1.heap.size + 1) < WA.heap.size ∧ W1.heap.size ≤ (W1.heap.size + 1)) := ⟨bA, hd, hpA, hne, hpl, by omega⟩
        clear hd hg hl bA hpA hne hpl zf bX bZ hq hp bE hE
        go_simp
        refine hK.out _ _ (fun _ => hSX) ?_
        clear hK K hS0 hSE
        refine wpUntil_ready (rs := [5]) (by kernel_rfl) (by simp) ?_
        refine AllU.cons rfl (fun K hK => ?_) AllU.nil
        refine step_known _ rfl (.tmp 8) (.tmp 10) 26 rfl _ _ _ _ (by first | rfl | simp [Act.eval, Act.put]) (by first | rfl | simp [Act.eval, Act.put]) hr ?_
        refine hK.out _ _ (fun _ => hSA) ?_
        clear hK K hr hSX sX sE
        simp only [Act.put]
        refine wpUntil_take (i := 6) (v := ?_) rfl (by kernel_rfl) (fun _ _ _ h => h) (Or.inl ⟨by rfl, ?_⟩) hSA ?_
        rotate_left
        · (intro w hSw; go_simp; first | done | with_reducible rfl | exact hSw.1 | exact hSw.2)
        simp only [Act.put]
        refine wpUntil_ready (rs := [8]) (by kernel_rfl) (by simp) ?_
        refine AllU.cons rfl (fun K hK => ?_) AllU.nil
        go_simp
        refine hK.out _ _ (fun h => absurd rfl h) ?_
        clear hK K
        refine wpUntil_done (by kernel_rfl) ?_ _
        go_wp2_with fail
        go_meet
        have q2 := KW.out.2.2.1
        obtain ⟨k1, k2, k3, k4, k5, k6⟩ := KA.out
        obtain ⟨f1, f2⟩ := firstM_B (s := w.heap.size) (p := (W1.heap.size + 1)) (alive := m.alive) (X := WA) (by omega) k5 ((k1.block _ (by omega)).trans KW.out.2.2.2.1) k3 k2 k4
        exact ⟨(W1.heap.size + 1), a', c', rfl, f1, f2, ((((KW.out.2.1.trans (k1.mono (by omega))).setCell (p := ⟨_, _, none⟩) (by simp; omega) _).setCell (p := ⟨_, _, none⟩) (by simp; omega) _).setCell (p := ⟨_, _, none⟩) (by simp; omega) _).setCell (p := ⟨_, _, none⟩) (by simp; omega) _⟩
    · have bE : Below W1.heap.size W1 (W1.alloc (.cells #[.bool false, .slice none 0 0, .slice none 0 0, .slice none 0 0] 28)) := (Below.refl _ _).alloc (Nat.le_refl _) _
      have sE : (W1.alloc (.cells #[.bool false, .slice none 0 0, .slice none 0 0, .slice none 0 0] 28)).heap.size = W1.heap.size + 1 := by simp
      have hE : (W1.alloc (.cells #[.bool false, .slice none 0 0, .slice none 0 0, .slice none 0 0] 28)).heap[W1.heap.size]? = some (.cells #[.bool false, .slice none 0 0, .slice none 0 0, .slice none 0 0] 28 (0, 0)) := heap_alloc_new W1 _
      have bZ : Below (W1.heap.size + 1) (W1.alloc (.cells #[.bool false, .slice none 0 0, .slice none 0 0, .slice none 0 0] 28)) ((W1.alloc (.cells #[.bool false, .slice none 0 0, .slice none 0 0, .slice none 0 0] 28)).alloc (.cells #[] 2)) := (Below.refl _ _).alloc (by rw [sE]; exact Nat.le_refl _) _
      have bX : Below W1.heap.size W1 ((W1.alloc (.cells #[.bool false, .slice none 0 0, .slice none 0 0, .slice none 0 0] 28)).alloc (.cells #[] 2)) := bE.trans (bZ.mono (by omega))
      have sX : ((W1.alloc (.cells #[.bool false, .slice none 0 0, .slice none 0 0, .slice none 0 0] 28)).alloc (.cells #[] 2)).heap.size = W1.heap.size + 2 := by simp
      have hp : ((W1.alloc (.cells #[.bool false, .slice none 0 0, .slice none 0 0, .slice none 0 0] 28)).alloc (.cells #[] 2)).heap[W1.heap.size]? = some (.cells #[.bool false, .slice none 0 0, .slice none 0 0, .slice none 0 0] 28 (0, 0)) := (bZ.block _ (by omega)).trans hE
      have hq : ((W1.alloc (.cells #[.bool false, .slice none 0 0, .slice none 0 0, .slice none 0 0] 28)).alloc (.cells #[] 2)).heap[W1.heap.size + 1]? = some (.cells #[] 2 (0, 0)) := by rw [← sE]; exact heap_alloc_new _ _
      have hSE := KW.out.2.2.2.2 _ bE
      have hSX := KW.out.2.2.2.2 _ bX
      obtain ⟨a', c', WA, hr, hd, hg, hl⟩ := appendN ((W1.alloc (.cells #[.bool false, .slice none 0 0, .slice none 0 0, .slice none 0 0] 28)).alloc (.cells #[] 2)) (w.heap.size + 2) (some ⟨(W1.heap.size + 1), 0, none⟩) 0 (owns_empty hq (by have := KW.out.2.2.1; omega)) m.cleared (by have := H.out.1.n; omega) 26 ad cd ((H.out.2.1.later KW.out.1).later bX).n (by have := KW.out.2.2.1; omega)
      have bA : Below W1.heap.size W1 WA := bX.grown hg bX.size (fun k h => by cases h; show W1.heap.size ≤ (W1.heap.size + 1); omega)
      have hpA : WA.heap[W1.heap.size]? = some (.cells #[.bool false, .slice none 0 0, .slice none 0 0, .slice none 0 0] 28 (0, 0)) := (hg.block W1.heap.size (by omega) (fun e => by have e' : W1.heap.size = (W1.heap.size + 1) := Option.some.inj e; omega)).trans hp
      have hne : (Value.slice a' m.cleared.length c').ownBlock ≠ some W1.heap.size := fun e => by
        rcases hl with e' | e'
        · rw [e'] at e; have e'' : (W1.heap.size + 1) = W1.heap.size := Option.some.inj e; omega
        · rw [e'] at e; have := Option.some.inj e; omega
      have hpl : W1.heap.size < WA.heap.size := by have := hg.size; omega
      obtain ⟨z0, z1, z2, z3, zf⟩ := zeroBoxM hpA
      have zf0 := zf 0
      have zf1 := zf 1
      have zf2 := zf 2
      have zf3 := zf 3
      have hSA := KW.out.2.2.2.2 _ bA
      have KA : Hid (Below W1.heap.size W1 WA ∧ WA.ownsRow (w.heap.size + 2) 2 1 (.slice a' m.cleared.length c') m.cleared.length (m.cleared.map (Value.int .i64)) ∧ WA.heap[W1.heap.size]? = some (.cells #[.bool false, .slice none 0 0, .slice none 0 0, .slice none 0 0] 28 (0, 0)) ∧ (Value.slice a' m.cleared.length c').ownBlock ≠ some W1.heap.size ∧ W1.heap.size < WA.heap.size ∧ W1.heap.size ≤ W1.heap.size) := ⟨bA, hd, hpA, hne, hpl, by omega⟩
      clear hd hg hl bA hpA hne hpl zf bX bZ hq hp bE hE
      go_simp
      refine hK.out _ _ (fun _ => hSE) ?_
      clear hK K hS0
      refine wpUntil_ready (rs := [2]) (by kernel_rfl) (by simp) ?_
      refine AllU.cons rfl (fun K hK => ?_) AllU.nil
      go_simp
      refine hK.out _ _ (fun _ => hSX) ?_
      clear hK K hSE
      refine wpUntil_ready (rs := [5]) (by kernel_rfl) (by simp) ?_
      refine AllU.cons rfl (fun K hK => ?_) AllU.nil
      refine step_known _ rfl (.tmp 8) (.tmp 10) 26 rfl _ _ _ _ (by first | rfl | simp [Act.eval, Act.put]) (by first | rfl | simp [Act.eval, Act.put]) hr ?_
      refine hK.out _ _ (fun _ => hSA) ?_
      clear hK K hr hSX sX sE
      simp only [Act.put]
      refine wpUntil_take (i := 6) (v := ?_) rfl (by kernel_rfl) (fun _ _ _ h => h) (Or.inl ⟨by rfl, ?_⟩) hSA ?_
      rotate_left
      · (intro w hSw; go_simp; first | done | with_reducible rfl | exact hSw.1 | exact hSw.2)
      simp only [Act.put]
      refine wpUntil_ready (rs := [8]) (by kernel_rfl) (by simp) ?_
      refine AllU.cons rfl (fun K hK => ?_) AllU.nil
      go_simp
      refine hK.out _ _ (fun h => absurd rfl h) ?_
      clear hK K
      refine wpUntil_done (by kernel_rfl) ?_ _
      go_wp2_with fail
      go_meet
      have q2 := KW.out.2.2.1
      obtain ⟨k1, k2, k3, k4, k5, k6⟩ := KA.out
      obtain ⟨f1, f2⟩ := firstM_B (s := w.heap.size) (p := W1.heap.size) (alive := m.alive) (X := WA) (by omega) k5 ((k1.block _ (by omega)).trans KW.out.2.2.2.1) k3 k2 k4
      exact ⟨W1.heap.size, a', c', rfl, f1, f2, ((((KW.out.2.1.trans (k1.mono (by omega))).setCell (p := ⟨_, _, none⟩) (by simp; omega) _).setCell (p := ⟨_, _, none⟩) (by simp; omega) _).setCell (p := ⟨_, _, none⟩) (by simp; omega) _).setCell (p := ⟨_, _, none⟩) (by simp; omega) _⟩
  case rest =>
    obtain ⟨p, a', c', rfl, hb3, hmr, hbx⟩ := hcut
    have KC : Hid (C3 w.heap.size p m.alive wc (.slice none 0 0) (.slice none 0 0) (.slice a' m.cleared.length c') ∧ MR (w.heap.size + 2) p wc (.slice none 0 0) (.slice none 0 0) (.slice a' m.cleared.length c') [] [] m.cleared gz gz ∧ Below (w.heap.size + 1) W0 wc) := ⟨hb3, hmr, hbx⟩
    have hk6 : m.copies.length ≤ 6 := H.out.1.k
    clear hb3 hmr hbx
    go_wp2
    go_loopw [4] (fun v4 wr => ∃ (j : Nat) (ak : Option Addr) (ck : Nat) (gk : Nat → Nat), j ≤ m.copies.length ∧ v4 = .int .i64 j ∧ C3 w.heap.size p m.alive wr (.slice ak j ck) (.slice none 0 0) (.slice a' m.cleared.length c') ∧ MR (w.heap.size + 2) p wr (.slice ak j ck) (.slice none 0 0) (.slice a' m.cleared.length c') (m.copies.take j) [] m.cleared gk gz ∧ Below (w.heap.size + 1) W0 wr) (fun v4 _ => m.copies.length - (intOf v4).toNat)
    case atStart => exact ⟨0, none, 0, gz, Nat.zero_le _, rfl, KC.out.1, by rw [List.take_zero]; exact KC.out.2.1, KC.out.2.2⟩
    case round =>
      obtain ⟨j, ak, ck, gk, hj, rfl, hb3, hmr, hbx⟩ := hrel
      obtain ⟨_, c1, _, _⟩ := HC.out wr hbx
      by_cases hlt : j < m.copies.length
      · have hbw : Below w.heap.size w wr := H.out.2.2.1.trans (hbx.mono (by omega))
        obtain ⟨_, hsk⟩ := H.out.2.1.k
        have hkj : m.copies[j]? = some (atK m.copies j) := atK_of hlt
        have h6 : (atK m.copies j).cells.length = 6 := H.out.1.ks _ (List.mem_of_getElem? hkj)
        simp only [] at hsk
        rcases hsk with hsk | ⟨b, off, rfl, hb, h1⟩
        · omega
        have hr := (h1 j _ hkj).below hbw hb
        have k0 := hr.c0
        obtain ⟨a1, p1, k1, hsl, hcp⟩ := hr.c1
        have bX : Below wr.heap.size wr wr.drew := (Below.refl _ _).drew
        have hc := l3Copy_any wr.drew a1 p1 (atK m.copies j).cells (by omega) (by omega) ((hsl.mono hbw.size).later bX)
        have hSof : ∀ Y : World, (∀ x, x < w.heap.size + 1 → Y.heap[x]? = wr.heap[x]?) → Y.heap[p]? = wr.heap[p]? → (fun X : World => X.cell? ⟨p, 1, none⟩ = some (.slice ak j ck) ∧ X.cell? ⟨w.heap.size, 1, none⟩ = some (.slice (some ⟨b, off, none⟩) m.copies.length cc) ∧ X.cell? ⟨b, off + j * 2, none⟩ = some (.int .i64 (atK m.copies j).region) ∧ X.cell? ⟨b, off + j * 2 + 1, none⟩ = some (.slice a1 (atK m.copies j).cells.length p1)) Y := fun Y h1 h2 =>
          ⟨(World.cell?_of_block (a := ⟨p, 1, none⟩) h2).trans hb3.o1, (World.cell?_of_block (a := ⟨w.heap.size, 1, none⟩) (h1 w.heap.size (by omega))).trans c1, (World.cell?_of_block (a := ⟨b, off + j * 2, none⟩) (h1 b (by omega))).trans k0, (World.cell?_of_block (a := ⟨b, off + j * 2 + 1, none⟩) (h1 b (by omega))).trans k1⟩
        have hSX := hSof wr.drew (fun _ _ => rfl) rfl
        have KH : Hid (C3 w.heap.size p m.alive wr (.slice ak j ck) (.slice none 0 0) (.slice a' m.cleared.length c') ∧ MR (w.heap.size + 2) p wr (.slice ak j ck) (.slice none 0 0) (.slice a' m.cleared.length c') (m.copies.take j) [] m.cleared gk gz ∧ Below (w.heap.size + 1) W0 wr ∧ Below wr.heap.size wr wr.drew ∧ m.copies[j]? = some (atK m.copies j) ∧ (∀ Y : World, (∀ x, x < w.heap.size + 1 → Y.heap[x]? = wr.heap[x]?) → Y.heap[p]? = wr.heap[p]? → (fun X : World => X.cell? ⟨p, 1, none⟩ = some (.slice ak j ck) ∧ X.cell? ⟨w.heap.size, 1, none⟩ = some (.slice (some ⟨b, off, none⟩) m.copies.length cc) ∧ X.cell? ⟨b, off + j * 2, none⟩ = some (.int .i64 (atK m.copies j).region) ∧ X.cell? ⟨b, off + j * 2 + 1, none⟩ = some (.slice a1 (atK m.copies j).cells.length p1)) Y)) := ⟨hb3, hmr, hbx, bX, hkj, hSof⟩
        have hpw := hb3.pX
        have hjn : (j : Int) < (m.copies.length : Int) := by omega
        clear hb3 hmr hbx hbw h1 hr hsl hcp bX hkj h6 hSof
        go_wp2_with fail
        refine wp_region_until 19 (fun X : World => X.cell? ⟨p, 1, none⟩ = some (.slice ak j ck) ∧ X.cell? ⟨w.heap.size, 1, none⟩ = some (.slice (some ⟨b, off, none⟩) m.copies.length cc) ∧ X.cell? ⟨b, off + j * 2, none⟩ = some (.int .i64 (atK m.copies j).region) ∧ X.cell? ⟨b, off + j * 2 + 1, none⟩ = some (.slice a1 (atK m.copies j).cells.length p1)) (by kernel_rfl) ?_
        generalize hXX : wr.drew = X at *
        clear hXX k0 k1 c1
        refine wpUntil_take (i := 0) (v := ?_) rfl (by kernel_rfl) (fun _ _ _ h => h) (Or.inl ⟨by rfl, ?_⟩) hSX ?_
        rotate_left
        · (intro w hSw; obtain ⟨sw1, sw2, sw3, sw4⟩ := hSw; go_simp; first | done | with_reducible rfl | exact sw1 | exact sw2 | exact sw3 | exact sw4 | (rw [if_pos (by omega)]))
        simp only [Act.put]
        refine wpUntil_take (i := 1) (v := ?_) rfl (by kernel_rfl) (fun _ _ _ h => h) (Or.inl ⟨by rfl, ?_⟩) hSX ?_
        rotate_left
        · (intro w hSw; obtain ⟨sw1, sw2, sw3, sw4⟩ := hSw; go_simp; first | done | with_reducible rfl | exact sw1 | exact sw2 | exact sw3 | exact sw4 | (rw [if_pos (by omega)]))
        simp only [Act.put]
        refine wpUntil_take (i := 2) (v := ?_) rfl (by kernel_rfl) (fun _ _ _ h => h) (Or.inl ⟨by rfl, ?_⟩) hSX ?_
        rotate_left
        · (intro w hSw; obtain ⟨sw1, sw2, sw3, sw4⟩ := hSw; go_simp; first | done | with_reducible rfl | exact sw1 | exact sw2 | exact sw3 | exact sw4 | (rw [if_pos (by omega)]))
        simp only [Act.put]
        refine wpUntil_take (i := 3) (v := ?_) rfl (by kernel_rfl) (fun _ _ _ h => h) (Or.inl ⟨by rfl, ?_⟩) hSX ?_
        rotate_left
        · (intro w hSw; obtain ⟨sw1, sw2, sw3, sw4⟩ := hSw; go_simp; first | done | with_reducible rfl | exact sw1 | exact sw2 | exact sw3 | exact sw4 | (rw [if_pos (by omega)]))
        simp only [Act.put]
        refine wpUntil_take (i := 4) (v := ?_) rfl (by kernel_rfl) (fun _ _ _ h => h) (Or.inl ⟨by rfl, ?_⟩) hSX ?_
        rotate_left
        · (intro w hSw; obtain ⟨sw1, sw2, sw3, sw4⟩ := hSw; go_simp; first | done | with_reducible rfl | exact sw1 | exact sw2 | exact sw3 | exact sw4 | (rw [if_pos (by omega)]))
        simp only [Act.put]
        refine wpUntil_take (i := 5) (v := ?_) rfl (by kernel_rfl) (fun _ _ _ h => h) (Or.inl ⟨by rfl, ?_⟩) hSX ?_
        rotate_left
        · (intro w hSw; obtain ⟨sw1, sw2, sw3, sw4⟩ := hSw; go_simp; first | done | with_reducible rfl | exact sw1 | exact sw2 | exact sw3 | exact sw4 | (rw [if_pos (by omega)]))
        simp only [Act.put]
        refine wpUntil_take (i := 6) (v := ?_) rfl (by kernel_rfl) (fun _ _ _ h => h) (Or.inl ⟨by rfl, ?_⟩) hSX ?_
        rotate_left
        · (intro w hSw; obtain ⟨sw1, sw2, sw3, sw4⟩ := hSw; go_simp; first | done | with_reducible rfl | exact sw1 | exact sw2 | exact sw3 | exact sw4 | (rw [if_pos (by omega)]))
        simp only [Act.put]
        refine wpUntil_take (i := 7) (v := ?_) rfl (by kernel_rfl) (fun _ _ _ h => h) (Or.inl ⟨by rfl, ?_⟩) hSX ?_
        rotate_left
        · (intro w hSw; obtain ⟨sw1, sw2, sw3, sw4⟩ := hSw; go_simp; first | done | with_reducible rfl | exact sw1 | exact sw2 | exact sw3 | exact sw4 | (rw [if_pos (by omega)]))
        simp only [Act.put]
        refine wpUntil_take (i := 8) (v := ?_) rfl (by kernel_rfl) (fun _ _ _ h => h) (Or.inl ⟨by rfl, ?_⟩) hSX ?_
        rotate_left
        · (intro w hSw; obtain ⟨sw1, sw2, sw3, sw4⟩ := hSw; go_simp; first | done | with_reducible rfl | exact sw1 | exact sw2 | exact sw3 | exact sw4 | (rw [if_pos (by omega)]))
        simp only [Act.put]
        refine wpUntil_take (i := 9) (v := ?_) rfl (by kernel_rfl) (fun _ _ _ h => h) (Or.inl ⟨by rfl, ?_⟩) hSX ?_
        rotate_left
        · (intro w hSw; obtain ⟨sw1, sw2, sw3, sw4⟩ := hSw; go_simp; first | done | with_reducible rfl | exact sw1 | exact sw2 | exact sw3 | exact sw4 | (rw [if_pos (by omega)]))
        simp only [Act.put]
        refine wpUntil_take (i := 10) (v := ?_) rfl (by kernel_rfl) (fun _ _ _ h => h) (Or.inl ⟨by rfl, ?_⟩) hSX ?_
        rotate_left
        · (intro w hSw; obtain ⟨sw1, sw2, sw3, sw4⟩ := hSw; go_simp; first | done | with_reducible rfl | exact sw1 | exact sw2 | exact sw3 | exact sw4 | (rw [if_pos (by omega)]))
        simp only [Act.put]
        refine wpUntil_take (i := 11) (v := ?_) rfl (by kernel_rfl) (fun _ _ _ h => h) (Or.inl ⟨by rfl, ?_⟩) hSX ?_
        rotate_left
        · (intro w hSw; obtain ⟨sw1, sw2, sw3, sw4⟩ := hSw; go_simp; first | done | with_reducible rfl | exact sw1 | exact sw2 | exact sw3 | exact sw4 | (rw [if_pos (by omega)]))
        simp only [Act.put]
        refine wpUntil_take (i := 12) (v := ?_) rfl (by kernel_rfl) (fun _ _ _ h => h) (Or.inl ⟨by rfl, ?_⟩) hSX ?_
        rotate_left
        · (intro w hSw; obtain ⟨sw1, sw2, sw3, sw4⟩ := hSw; go_simp; first | done | with_reducible rfl | exact sw1 | exact sw2 | exact sw3 | exact sw4 | (rw [if_pos (by omega)]))
        simp only [Act.put]
        refine wpUntil_take (i := 13) (v := ?_) rfl (by kernel_rfl) (fun _ _ _ h => h) (Or.inl ⟨by rfl, ?_⟩) hSX ?_
        rotate_left
        · (intro w hSw; obtain ⟨sw1, sw2, sw3, sw4⟩ := hSw; go_simp; first | done | with_reducible rfl | exact sw1 | exact sw2 | exact sw3 | exact sw4 | (rw [if_pos (by omega)]))
        simp only [Act.put]
        refine wpUntil_ready (rs := [14]) (by kernel_rfl) (by simp) ?_
        refine AllU.cons rfl (fun K hK => ?_) AllU.nil
        go_simp
        refine hc.mono ?_
        clear hc
        rintro e X2 ⟨q, cp, rfl, hq1, hq2, hq3, hq4, hq5, b2⟩
        obtain ⟨hb3, hmr, hbx, bX, hkj, hSof⟩ := KH.out
        have hpl := hb3.pl
        have bX2 : Below wr.heap.size wr X2 := bX.trans (b2.mono bX.size)
        have hS2 := hSof X2 (fun x hx => bX2.block x (by omega)) (bX2.block p hpw)
        have b3 : Below X2.heap.size X2 (X2.alloc (.cells #[.int .i64 (atK m.copies j).region, .slice (some ⟨q, 0, none⟩) (atK m.copies j).cells.length cp] 97)) := (Below.refl _ _).alloc (Nat.le_refl _) _
        have s3 : (X2.alloc (.cells #[.int .i64 (atK m.copies j).region, .slice (some ⟨q, 0, none⟩) (atK m.copies j).cells.length cp] 97)).heap.size = X2.heap.size + 1 := by simp
        have bX3 : Below wr.heap.size wr (X2.alloc (.cells #[.int .i64 (atK m.copies j).region, .slice (some ⟨q, 0, none⟩) (atK m.copies j).cells.length cp] 97)) := bX2.trans (b3.mono bX2.size)
        have hS3 := hSof (X2.alloc (.cells #[.int .i64 (atK m.copies j).region, .slice (some ⟨q, 0, none⟩) (atK m.copies j).cells.length cp] 97)) (fun x hx => bX3.block x (by omega)) (bX3.block p hpw)
        obtain ⟨v', Y, hr, hmr', hgr, hol⟩ := hmr.pushK bX3 (by omega) hpw (atK m.copies j) q cp X2.heap.size (by simp; omega) 24 (by go_simp) (by go_simp) (AtK.of_block _ _ _ _ (b3.block q hq2) ⟨hq4, hq5⟩) hq3 (by have := bX.size; omega) (by omega)
        have htk : m.copies.take j ++ [(atK m.copies j)] = m.copies.take (j + 1) := by rw [List.take_add_one, hkj]; rfl
        have hfar : ∀ x, x = p ∨ x < w.heap.size + 2 → Y.heap[x]? = wr.heap[x]? := fun x hx => (hgr.block x (by have := bX3.size; omega) (fun e => by have := hol x e.symm; omega)).trans (bX3.block x (by omega))
        have hS4 := hSof Y (fun x hx => hfar x (by omega)) (hfar p (.inl rfl))
        have hlk : (m.copies.take (j + 1)).length = j + 1 := by rw [List.length_take]; omega
        rw [htk, List.length_take, Nat.min_eq_left (by omega)] at hmr'
        obtain ⟨yb, yc, rfl, -⟩ := GrowG.own (hd := hdK) (sz := 2) (fun _ => rfl) hmr'.gK (fun e => by rw [e] at hlk; simp at hlk)
        rw [hlk] at hr hmr'
        have hb3' : C3 w.heap.size p m.alive Y (.slice ak j ck) (.slice none 0 0) (.slice a' m.cleared.length c') := hb3.keep (Nat.le_trans bX3.size hgr.size) (hfar (w.heap.size + 1) (.inr (by omega))) (hfar p (.inl rfl))
        have o2 := hb3'.o1
        have fo2 := hb3'.fo 1
        have KE : Hid (C3 w.heap.size p m.alive (Y.setCell ⟨p, 1, none⟩ (.slice (some ⟨yb, 0, none⟩) (j + 1) yc)) (.slice (some ⟨yb, 0, none⟩) (j + 1) yc) (.slice none 0 0) (.slice a' m.cleared.length c') ∧ MR (w.heap.size + 2) p (Y.setCell ⟨p, 1, none⟩ (.slice (some ⟨yb, 0, none⟩) (j + 1) yc)) (.slice (some ⟨yb, 0, none⟩) (j + 1) yc) (.slice none 0 0) (.slice a' m.cleared.length c') (m.copies.take (j + 1)) [] m.cleared (fun i => if i = j then q else gk i) gz ∧ Below (w.heap.size + 1) W0 (Y.setCell ⟨p, 1, none⟩ (.slice (some ⟨yb, 0, none⟩) (j + 1) yc))) :=
          ⟨hb3'.setK _, hmr'.set, ((hbx.trans (bX3.mono (by omega))).grown hgr (by have := bX3.size; omega) (fun x e => by have := hol x e; omega)).setCell (p := ⟨p, 1, none⟩) (by show w.heap.size + 1 ≤ p; omega) _⟩
        refine hK.out _ _ (fun _ => hS2) ?_
        clear hK K hb3 hmr hbx bX hkj bX2 b3 s3 bX3 hmr' hgr hol htk hfar hlk hb3' hSX b2 hq1 hq2 hq3 hq4 hq5 KH hSof hpl
        refine wpUntil_take (i := 15) (v := ?_) rfl (by kernel_rfl) (fun _ _ _ h => h) (Or.inl ⟨by rfl, ?_⟩) hS2 ?_
        rotate_left
        · (intro w hSw; obtain ⟨sw1, sw2, sw3, sw4⟩ := hSw; go_simp; first | done | with_reducible rfl | exact sw1 | exact sw2 | exact sw3 | exact sw4 | (rw [if_pos (by omega)]))
        simp only [Act.put]
        refine wpUntil_ready (rs := [16]) (by kernel_rfl) (by simp) ?_
        refine AllU.cons rfl (fun K hK => ?_) AllU.nil
        go_simp
        refine hK.out _ _ (fun _ => hS3) ?_
        clear hK K hS2
        refine wpUntil_ready (rs := [17]) (by kernel_rfl) (by simp) ?_
        refine AllU.cons rfl (fun K hK => ?_) AllU.nil
        refine step_known _ rfl (.tmp 21) (.tmp 36) 24 rfl _ _ _ _ (by first | rfl | simp [Act.eval, Act.put]) (by first | rfl | simp [Act.eval, Act.put]) hr ?_
        refine hK.out _ _ (fun _ => hS4) ?_
        clear hK K hr hS3
        simp only [Act.put]
        refine wpUntil_ready (rs := [18]) (by kernel_rfl) (by simp) ?_
        refine AllU.cons rfl (fun K hK => ?_) AllU.nil
        go_simp
        refine hK.out _ _ (fun _ => hS4) ?_
        clear hK K
        refine wpUntil_ready (rs := [19]) (by kernel_rfl) (by simp) ?_
        refine AllU.cons rfl (fun K hK => ?_) AllU.nil
        go_simp
        refine hK.out _ _ (fun h => absurd rfl h) ?_
        clear hK K
        refine wpUntil_done (by kernel_rfl) ?_ _
        go_wp2
        exact ⟨⟨j + 1, some ⟨yb, 0, none⟩, yc, _, by omega, by simp, KE.out.1, KE.out.2.1, KE.out.2.2⟩, by simp [intOf]; omega⟩
      · obtain rfl : j = m.copies.length := by omega
        have hd : decide ((m.copies.length : Int) < (m.copies.length : Int)) = false := by simp
        rw [List.take_length] at hmr
        have KC2 : Hid (C3 w.heap.size p m.alive wr (.slice ak m.copies.length ck) (.slice none 0 0) (.slice a' m.cleared.length c') ∧ MR (w.heap.size + 2) p wr (.slice ak m.copies.length ck) (.slice none 0 0) (.slice a' m.cleared.length c') m.copies [] m.cleared gk gz ∧ Below (w.heap.size + 1) W0 wr) := ⟨hb3, hmr, hbx⟩
        have hr200 : m.log.length ≤ 200 := H.out.1.r
        clear hb3 hmr hbx KC hj hlt
        generalize wr = wk at *
        go_wp2
        clear c1
        go_loopw [5] (fun v5 wr => ∃ (j : Nat) (ar : Option Addr) (cr : Nat) (gr : Nat → Nat), j ≤ m.log.length ∧ v5 = .int .i64 j ∧ C3 w.heap.size p m.alive wr (.slice ak m.copies.length ck) (.slice ar j cr) (.slice a' m.cleared.length c') ∧ MR (w.heap.size + 2) p wr (.slice ak m.copies.length ck) (.slice ar j cr) (.slice a' m.cleared.length c') m.copies (m.log.take j) m.cleared gk gr ∧ Below (w.heap.size + 1) W0 wr) (fun v5 _ => m.log.length - (intOf v5).toNat)
        case atStart => exact ⟨0, none, 0, gz, Nat.zero_le _, rfl, KC2.out.1, by rw [List.take_zero]; exact KC2.out.2.1, KC2.out.2.2⟩
        case round =>
          obtain ⟨j, ar, cr, gr, hj, rfl, hb3, hmr, hbx⟩ := hrel
          obtain ⟨_, _, c2, _⟩ := HC.out wr hbx
          by_cases hlt : j < m.log.length
          · have hbw : Below w.heap.size w wr := H.out.2.2.1.trans (hbx.mono (by omega))
            obtain ⟨_, hsk⟩ := H.out.2.1.r
            have hkj : m.log[j]? = some (atR m.log j) := atR_of hlt
            have h6 := H.out.1.rs _ (List.mem_of_getElem? hkj)
            simp only [] at hsk
            rcases hsk with hsk | ⟨b, off, rfl, hb, h1⟩
            · omega
            have hr := (h1 j _ hkj).below hbw hb
            have k0 := hr.c0
            have k1 := hr.c1
            have k2 := hr.c2
            obtain ⟨a1, p1, k3, hsl, hcp⟩ := hr.c3
            have bX : Below wr.heap.size wr wr.drew := (Below.refl _ _).drew
            have hc := l6Record_any wr.drew (atR m.log j) a1 p1 h6.1 (by omega) (((hsl.mono hbw.size).below bX).mono bX.size)
            simp only [R4.val] at hc
            have hSof : ∀ Y : World, (∀ x, x < w.heap.size + 1 → Y.heap[x]? = wr.heap[x]?) → Y.heap[p]? = wr.heap[p]? → (fun X : World => X.cell? ⟨p, 2, none⟩ = some (.slice ar j cr) ∧ X.cell? ⟨w.heap.size, 2, none⟩ = some (.slice (some ⟨b, off, none⟩) m.log.length cl) ∧ X.cell? ⟨b, off + j * 4, none⟩ = some (.int .i64 (atR m.log j).kind) ∧ X.cell? ⟨b, off + j * 4 + 1, none⟩ = some (.int .i64 (atR m.log j).tx) ∧ X.cell? ⟨b, off + j * 4 + 2, none⟩ = some (.int .i64 (atR m.log j).region) ∧ X.cell? ⟨b, off + j * 4 + 3, none⟩ = some (.slice a1 (atR m.log j).sets.length p1)) Y := fun Y h1 h2 =>
              ⟨(World.cell?_of_block (a := ⟨p, 2, none⟩) h2).trans hb3.o2, (World.cell?_of_block (a := ⟨w.heap.size, 2, none⟩) (h1 w.heap.size (by omega))).trans c2, (World.cell?_of_block (a := ⟨b, off + j * 4, none⟩) (h1 b (by omega))).trans k0, (World.cell?_of_block (a := ⟨b, off + j * 4 + 1, none⟩) (h1 b (by omega))).trans k1, (World.cell?_of_block (a := ⟨b, off + j * 4 + 2, none⟩) (h1 b (by omega))).trans k2, (World.cell?_of_block (a := ⟨b, off + j * 4 + 3, none⟩) (h1 b (by omega))).trans k3⟩
            have hSX := hSof wr.drew (fun _ _ => rfl) rfl
            have KH : Hid (C3 w.heap.size p m.alive wr (.slice ak m.copies.length ck) (.slice ar j cr) (.slice a' m.cleared.length c') ∧ MR (w.heap.size + 2) p wr (.slice ak m.copies.length ck) (.slice ar j cr) (.slice a' m.cleared.length c') m.copies (m.log.take j) m.cleared gk gr ∧ Below (w.heap.size + 1) W0 wr ∧ Below wr.heap.size wr wr.drew ∧ m.log[j]? = some (atR m.log j) ∧ (∀ Y : World, (∀ x, x < w.heap.size + 1 → Y.heap[x]? = wr.heap[x]?) → Y.heap[p]? = wr.heap[p]? → (fun X : World => X.cell? ⟨p, 2, none⟩ = some (.slice ar j cr) ∧ X.cell? ⟨w.heap.size, 2, none⟩ = some (.slice (some ⟨b, off, none⟩) m.log.length cl) ∧ X.cell? ⟨b, off + j * 4, none⟩ = some (.int .i64 (atR m.log j).kind) ∧ X.cell? ⟨b, off + j * 4 + 1, none⟩ = some (.int .i64 (atR m.log j).tx) ∧ X.cell? ⟨b, off + j * 4 + 2, none⟩ = some (.int .i64 (atR m.log j).region) ∧ X.cell? ⟨b, off + j * 4 + 3, none⟩ = some (.slice a1 (atR m.log j).sets.length p1)) Y)) := ⟨hb3, hmr, hbx, bX, hkj, hSof⟩
            have hpw := hb3.pX
            have hjn : (j : Int) < (m.log.length : Int) := by omega
            clear hb3 hmr hbx hbw h1 hr hsl hcp bX hkj h6 hSof
            go_wp2_with fail
            refine wp_region_until 11 (fun X : World => X.cell? ⟨p, 2, none⟩ = some (.slice ar j cr) ∧ X.cell? ⟨w.heap.size, 2, none⟩ = some (.slice (some ⟨b, off, none⟩) m.log.length cl) ∧ X.cell? ⟨b, off + j * 4, none⟩ = some (.int .i64 (atR m.log j).kind) ∧ X.cell? ⟨b, off + j * 4 + 1, none⟩ = some (.int .i64 (atR m.log j).tx) ∧ X.cell? ⟨b, off + j * 4 + 2, none⟩ = some (.int .i64 (atR m.log j).region) ∧ X.cell? ⟨b, off + j * 4 + 3, none⟩ = some (.slice a1 (atR m.log j).sets.length p1)) (by kernel_rfl) ?_
            generalize hXX : wr.drew = X at *
            clear hXX k0 k1 k2 k3 c2
            refine wpUntil_take (i := 0) (v := ?_) rfl (by kernel_rfl) (fun _ _ _ h => h) (Or.inl ⟨by rfl, ?_⟩) hSX ?_
            rotate_left
            · (intro w hSw; obtain ⟨sw1, sw2, sw3, sw4, sw5, sw6⟩ := hSw; go_simp; first | done | with_reducible rfl | exact sw1 | exact sw2 | exact sw3 | exact sw4 | exact sw5 | exact sw6 | (rw [if_pos (by omega)]))
            simp only [Act.put]
            refine wpUntil_take (i := 1) (v := ?_) rfl (by kernel_rfl) (fun _ _ _ h => h) (Or.inl ⟨by rfl, ?_⟩) hSX ?_
            rotate_left
            · (intro w hSw; obtain ⟨sw1, sw2, sw3, sw4, sw5, sw6⟩ := hSw; go_simp; first | done | with_reducible rfl | exact sw1 | exact sw2 | exact sw3 | exact sw4 | exact sw5 | exact sw6 | (rw [if_pos (by omega)]))
            simp only [Act.put]
            refine wpUntil_take (i := 2) (v := ?_) rfl (by kernel_rfl) (fun _ _ _ h => h) (Or.inl ⟨by rfl, ?_⟩) hSX ?_
            rotate_left
            · (intro w hSw; obtain ⟨sw1, sw2, sw3, sw4, sw5, sw6⟩ := hSw; go_simp; first | done | with_reducible rfl | exact sw1 | exact sw2 | exact sw3 | exact sw4 | exact sw5 | exact sw6 | (rw [if_pos (by omega)]))
            simp only [Act.put]
            refine wpUntil_take (i := 3) (v := ?_) rfl (by kernel_rfl) (fun _ _ _ h => h) (Or.inl ⟨by rfl, ?_⟩) hSX ?_
            rotate_left
            · (intro w hSw; obtain ⟨sw1, sw2, sw3, sw4, sw5, sw6⟩ := hSw; go_simp; first | done | with_reducible rfl | exact sw1 | exact sw2 | exact sw3 | exact sw4 | exact sw5 | exact sw6 | (rw [if_pos (by omega)]))
            simp only [Act.put]
            refine wpUntil_take (i := 4) (v := ?_) rfl (by kernel_rfl) (fun _ _ _ h => h) (Or.inl ⟨by rfl, ?_⟩) hSX ?_
            rotate_left
            · (intro w hSw; obtain ⟨sw1, sw2, sw3, sw4, sw5, sw6⟩ := hSw; go_simp; first | done | with_reducible rfl | exact sw1 | exact sw2 | exact sw3 | exact sw4 | exact sw5 | exact sw6 | (rw [if_pos (by omega)]))
            simp only [Act.put]
            refine wpUntil_take (i := 5) (v := ?_) rfl (by kernel_rfl) (fun _ _ _ h => h) (Or.inl ⟨by rfl, ?_⟩) hSX ?_
            rotate_left
            · (intro w hSw; obtain ⟨sw1, sw2, sw3, sw4, sw5, sw6⟩ := hSw; go_simp; first | done | with_reducible rfl | exact sw1 | exact sw2 | exact sw3 | exact sw4 | exact sw5 | exact sw6 | (rw [if_pos (by omega)]))
            simp only [Act.put]
            refine wpUntil_take (i := 6) (v := ?_) rfl (by kernel_rfl) (fun _ _ _ h => h) (Or.inl ⟨by rfl, ?_⟩) hSX ?_
            rotate_left
            · (intro w hSw; obtain ⟨sw1, sw2, sw3, sw4, sw5, sw6⟩ := hSw; go_simp; first | done | with_reducible rfl | exact sw1 | exact sw2 | exact sw3 | exact sw4 | exact sw5 | exact sw6 | (rw [if_pos (by omega)]))
            simp only [Act.put]
            refine wpUntil_ready (rs := [7]) (by kernel_rfl) (by simp) ?_
            refine AllU.cons rfl (fun K hK => ?_) AllU.nil
            go_simp
            refine hc.mono ?_
            clear hc
            rintro e X2 ⟨q, cp, rfl, hq1, hq2, hq3, hq4, b2⟩
            obtain ⟨hb3, hmr, hbx, bX, hkj, hSof⟩ := KH.out
            have hpl := hb3.pl
            have bX2 : Below wr.heap.size wr X2 := bX.trans (b2.mono bX.size)
            have hS2 := hSof X2 (fun x hx => bX2.block x (by omega)) (bX2.block p hpw)
            have b3 : Below X2.heap.size X2 (X2.alloc (.cells #[.int .i64 (atR m.log j).kind, .int .i64 (atR m.log j).tx, .int .i64 (atR m.log j).region, .slice (some ⟨q, 0, none⟩) (atR m.log j).sets.length cp] 41)) := (Below.refl _ _).alloc (Nat.le_refl _) _
            have s3 : (X2.alloc (.cells #[.int .i64 (atR m.log j).kind, .int .i64 (atR m.log j).tx, .int .i64 (atR m.log j).region, .slice (some ⟨q, 0, none⟩) (atR m.log j).sets.length cp] 41)).heap.size = X2.heap.size + 1 := by simp
            have bX3 : Below wr.heap.size wr (X2.alloc (.cells #[.int .i64 (atR m.log j).kind, .int .i64 (atR m.log j).tx, .int .i64 (atR m.log j).region, .slice (some ⟨q, 0, none⟩) (atR m.log j).sets.length cp] 41)) := bX2.trans (b3.mono bX2.size)
            have hS3 := hSof (X2.alloc (.cells #[.int .i64 (atR m.log j).kind, .int .i64 (atR m.log j).tx, .int .i64 (atR m.log j).region, .slice (some ⟨q, 0, none⟩) (atR m.log j).sets.length cp] 41)) (fun x hx => bX3.block x (by omega)) (bX3.block p hpw)
            obtain ⟨v', Y, hr, hmr', hgr, hol⟩ := hmr.pushR bX3 (by omega) hpw (atR m.log j) q cp X2.heap.size (by simp; omega) 25 (by go_simp) (by go_simp) (by go_simp) (by go_simp) (AtR.of_block _ _ _ _ (b3.block q hq2) hq4) hq3 (by have := bX.size; omega) (by omega)
            have htk : m.log.take j ++ [(atR m.log j)] = m.log.take (j + 1) := by rw [List.take_add_one, hkj]; rfl
            have hfar : ∀ x, x = p ∨ x < w.heap.size + 2 → Y.heap[x]? = wr.heap[x]? := fun x hx => (hgr.block x (by have := bX3.size; omega) (fun e => by have := hol x e.symm; omega)).trans (bX3.block x (by omega))
            have hS4 := hSof Y (fun x hx => hfar x (by omega)) (hfar p (.inl rfl))
            have hlk : (m.log.take (j + 1)).length = j + 1 := by rw [List.length_take]; omega
            rw [htk, List.length_take, Nat.min_eq_left (by omega)] at hmr'
            obtain ⟨yb, yc, rfl, -⟩ := GrowG.own (hd := hdR) (sz := 4) (fun _ => rfl) hmr'.gR (fun e => by rw [e] at hlk; simp at hlk)
            rw [hlk] at hr hmr'
            have hb3' : C3 w.heap.size p m.alive Y (.slice ak m.copies.length ck) (.slice ar j cr) (.slice a' m.cleared.length c') := hb3.keep (Nat.le_trans bX3.size hgr.size) (hfar (w.heap.size + 1) (.inr (by omega))) (hfar p (.inl rfl))
            have o2 := hb3'.o2
            have fo2 := hb3'.fo 2
            have KE : Hid (C3 w.heap.size p m.alive (Y.setCell ⟨p, 2, none⟩ (.slice (some ⟨yb, 0, none⟩) (j + 1) yc)) (.slice ak m.copies.length ck) (.slice (some ⟨yb, 0, none⟩) (j + 1) yc) (.slice a' m.cleared.length c') ∧ MR (w.heap.size + 2) p (Y.setCell ⟨p, 2, none⟩ (.slice (some ⟨yb, 0, none⟩) (j + 1) yc)) (.slice ak m.copies.length ck) (.slice (some ⟨yb, 0, none⟩) (j + 1) yc) (.slice a' m.cleared.length c') m.copies (m.log.take (j + 1)) m.cleared gk (fun i => if i = j then q else gr i) ∧ Below (w.heap.size + 1) W0 (Y.setCell ⟨p, 2, none⟩ (.slice (some ⟨yb, 0, none⟩) (j + 1) yc))) :=
              ⟨hb3'.setR _, hmr'.set, ((hbx.trans (bX3.mono (by omega))).grown hgr (by have := bX3.size; omega) (fun x e => by have := hol x e; omega)).setCell (p := ⟨p, 2, none⟩) (by show w.heap.size + 1 ≤ p; omega) _⟩
            refine hK.out _ _ (fun _ => hS2) ?_
            clear hK K hb3 hmr hbx bX hkj bX2 b3 s3 bX3 hmr' hgr hol htk hfar hlk hb3' hSX b2 hq1 hq2 hq3 hq4 KH hSof hpl
            refine wpUntil_ready (rs := [8]) (by kernel_rfl) (by simp) ?_
            refine AllU.cons rfl (fun K hK => ?_) AllU.nil
            go_simp
            refine hK.out _ _ (fun _ => hS3) ?_
            clear hK K hS2
            refine wpUntil_ready (rs := [9]) (by kernel_rfl) (by simp) ?_
            refine AllU.cons rfl (fun K hK => ?_) AllU.nil
            refine step_known _ rfl (.tmp 47) (.tmp 54) 25 rfl _ _ _ _ (by first | rfl | simp [Act.eval, Act.put]) (by first | rfl | simp [Act.eval, Act.put]) hr ?_
            refine hK.out _ _ (fun _ => hS4) ?_
            clear hK K hr hS3
            simp only [Act.put]
            refine wpUntil_ready (rs := [10]) (by kernel_rfl) (by simp) ?_
            refine AllU.cons rfl (fun K hK => ?_) AllU.nil
            go_simp
            refine hK.out _ _ (fun _ => hS4) ?_
            clear hK K
            refine wpUntil_ready (rs := [11]) (by kernel_rfl) (by simp) ?_
            refine AllU.cons rfl (fun K hK => ?_) AllU.nil
            go_simp
            refine hK.out _ _ (fun h => absurd rfl h) ?_
            clear hK K
            refine wpUntil_done (by kernel_rfl) ?_ _
            go_wp2
            exact ⟨⟨j + 1, some ⟨yb, 0, none⟩, yc, _, by omega, by simp, KE.out.1, KE.out.2.1, KE.out.2.2⟩, by simp [intOf]; omega⟩
          · obtain rfl : j = m.log.length := by omega
            have hd' : decide ((m.log.length : Int) < (m.log.length : Int)) = false := by simp
            rw [List.take_length] at hmr
            have KF : Hid (MR (w.heap.size + 2) p wr (.slice ak m.copies.length ck) (.slice ar m.log.length cr) (.slice a' m.cleared.length c') m.copies m.log m.cleared gk gr ∧ Below (w.heap.size + 1) W0 wr) := ⟨hmr, hbx⟩
            obtain ⟨r0, r1, r2, r3, fr, o0, o1, o2, o3, fo, pl, pX⟩ := hb3
            have f0 := fr 0
            have f1 := fr 1
            have f2 := fr 2
            have f3 := fr 3
            clear hmr hbx KC2 hj hlt fr fo
            go_wp2
            refine bodyPost_ret (v := .agg #[.bool m.alive, .slice ak m.copies.length ck, .slice ar m.log.length cr, .slice a' m.cleared.length c']) (by simp [results, Tryz.results58, go_sem, r0, r1, r2, r3]) rfl ⟨⟨ak, ck, ar, cr, a', c'⟩, p, gk, gr, rfl, ?_, ?_⟩
            · refine KF.out.1.keep (by simp [World.setCell]) (fun x _ hx _ => ?_)
              exact (Below.heap_setCell _ _ _ _ (by show x ≠ w.heap.size + 1; omega)).trans ((Below.heap_setCell _ _ _ _ (by show x ≠ w.heap.size + 1; omega)).trans ((Below.heap_setCell _ _ _ _ (by show x ≠ w.heap.size + 1; omega)).trans (Below.heap_setCell _ _ _ _ (by show x ≠ w.heap.size + 1; omega))))
            · exact ((((H.out.2.2.1.trans (KF.out.2.mono (by omega))).setCell (p := ⟨_, _, none⟩) (by simp) _).setCell (p := ⟨_, _, none⟩) (by simp) _).setCell (p := ⟨_, _, none⟩) (by simp) _).setCell (p := ⟨_, _, none⟩) (by simp) _
end Go.Proofs.YtooalbdlknheeaaGreat
