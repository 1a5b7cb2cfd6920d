/- CpyW; YOwnTs; CpCl: joined. -/
import Derived.Test.YtnhjgomfkfehgaaGreatDoorRows
import Derived.Test.YtnhjgomfkfehgaaGreatDoorJ8ExactBegin
import Derived.WalkKit
import Derived.WalkSpells
import Derived.WalkLawsBesides
import Derived.Below
import Derived.Deep.CutRange
import Derived.Deep.Upon
import Derived.Test.YtnhjgomfkfehgaaGreatDoorJ2ExactBegin
import Derived.Lib.QuietBelow
import Derived.BigQuiet
namespace Go.Proofs.YtnhjgomfkfehgaaGreatDoor
open Go.RowKit
def CpyFirst (w W0 : World) (m : M4) (s3 : Value) (wx : World) : Prop := ∃ (p : Nat) (a' : Option Addr) (c' : Nat), s3 = .pointer (some ⟨p, 0, none⟩) ∧ C3 w.heap.size p m.alive wx (.slice none 0 0) (.slice none 0 0) (.slice a' m.cleared.length c') ∧ MR (w.heap.size + 2) p wx (.slice none 0 0) (.slice none 0 0) (.slice a' m.cleared.length c') [] [] m.cleared gz gz ∧ Below (w.heap.size + 1) W0 wx
set_option maxRecDepth 100000 in
set_option maxHeartbeats 4000000 in
theorem l6Copy_any (w : World) (v : MV) (m : M4) (hm : MSm m) (hs : SlM w v m) :
    Calls Tryz.prog 82 #[v.val m] w fun e w' => ∃ (u : MV) (p : Nat) (gk gr : Nat → Nat), e = .returned (u.val m) ∧ MR (w.heap.size + 2) p w' (.slice u.ac m.copies.length u.cc) (.slice u.al m.log.length u.cl) (.slice u.ad m.cleared.length u.cd) m.copies m.log m.cleared gk gr ∧ Below w.heap.size w w' := by
  obtain ⟨ac, cc, al, cl, ad, cd⟩ := v
  simp only [MV.val]
  obtain ⟨W0, hW0⟩ : ∃ W0, W0 = w.alloc (.cells #[.bool m.alive, .slice ac m.copies.length cc, .slice al m.log.length cl, .slice ad m.cleared.length cd] 62) := ⟨_, rfl⟩
  have b0 : Below w.heap.size w W0 := by subst hW0; exact (Below.refl _ _).alloc (Nat.le_refl _) _
  have s0 : W0.heap.size = w.heap.size + 1 := by subst hW0; simp
  have c0 : ∀ X, Below (w.heap.size + 1) W0 X → X.cell? ⟨w.heap.size, 0, none⟩ = some (.bool m.alive) ∧ X.cell? ⟨w.heap.size, 1, none⟩ = some (.slice ac m.copies.length cc) ∧ X.cell? ⟨w.heap.size, 2, none⟩ = some (.slice al m.log.length cl) ∧ X.cell? ⟨w.heap.size, 3, none⟩ = some (.slice ad m.cleared.length cd) := fun X hX => by
    refine ⟨(hX.cell (p := ⟨w.heap.size, 0, none⟩) (by simp)).trans ?_, (hX.cell (p := ⟨w.heap.size, 1, none⟩) (by simp)).trans ?_, (hX.cell (p := ⟨w.heap.size, 2, none⟩) (by simp)).trans ?_, (hX.cell (p := ⟨w.heap.size, 3, none⟩) (by simp)).trans ?_⟩
    all_goals (subst hW0; go_simp)
  have H : Hid (MSm m ∧ SlM w ⟨ac, cc, al, cl, ad, cd⟩ m ∧ Below w.heap.size w W0 ∧ W0.heap.size = w.heap.size + 1) := ⟨hm, hs, b0, s0⟩
  have HC := hidOf c0
  clear hm hs b0 s0 c0
  go_enter Tryz.func82, Tryz.ntmps82
  go_upto_region 1 with fail
  go_cut [3] from 6 to 12 (fun s3 wx => CpyFirst w W0 m s3 wx)
  case first =>
    obtain ⟨W1, hW1⟩ : ∃ W1, W1 = (W0.alloc (.cells #[.bool false, .slice none 0 0, .slice none 0 0, .slice none 0 0] 62)).drew := ⟨_, rfl⟩
    have b1 : Below W0.heap.size W0 W1 := by subst hW1; exact ((Below.refl _ _).alloc (Nat.le_refl _) _).drew
    have s1 : W1.heap.size = w.heap.size + 2 := by subst hW1; simp [H.out.2.2.2]
    have b1' : Below (w.heap.size + 1) W0 W1 := b1.mono (by rw [H.out.2.2.2]; exact Nat.le_refl _)
    obtain ⟨ca, _, _, cd3⟩ := HC.out W1 b1'
    have hr1 : W1.heap[w.heap.size + 1]? = some (.cells #[.bool false, .slice none 0 0, .slice none 0 0, .slice none 0 0] 62 (0, 0)) := by
      subst hW1
      rw [← H.out.2.2.2]
      exact heap_alloc_new W0 _
    have hS0 : (fun X : World => X.cell? ⟨w.heap.size, 0, none⟩ = some (.bool m.alive) ∧ X.cell? ⟨w.heap.size, 3, none⟩ = some (.slice ad m.cleared.length cd)) W1 := ⟨ca, cd3⟩
    refine wp_region_until 8 (fun X : World => X.cell? ⟨w.heap.size, 0, none⟩ = some (.bool m.alive) ∧ X.cell? ⟨w.heap.size, 3, none⟩ = some (.slice ad m.cleared.length cd)) (by kernel_rfl) ?_
    have KW : Hid (Below w.heap.size w W1 ∧ Below (w.heap.size + 1) W0 W1 ∧ W1.heap.size = w.heap.size + 2 ∧ W1.heap[w.heap.size + 1]? = some (.cells #[.bool false, .slice none 0 0, .slice none 0 0, .slice none 0 0] 62 (0, 0)) ∧ (∀ X, Below W1.heap.size W1 X → (fun X : World => X.cell? ⟨w.heap.size, 0, none⟩ = some (.bool m.alive) ∧ X.cell? ⟨w.heap.size, 3, none⟩ = some (.slice ad m.cleared.length cd)) X)) := ⟨H.out.2.2.1.trans (b1'.mono (by omega)), b1', s1, hr1, fun X hX => ⟨(hX.cell (p := ⟨w.heap.size, 0, none⟩) (by show w.heap.size < W1.heap.size; omega)).trans ca, (hX.cell (p := ⟨w.heap.size, 3, none⟩) (by show w.heap.size < W1.heap.size; omega)).trans cd3⟩⟩
    clear b1 s1 b1' ca cd3 hr1
    subst hW0
    rw [← hW1]
    clear hW1
    refine wpUntil_take (i := 0) (v := ?_) rfl (by kernel_rfl) (fun _ _ _ h => h) (Or.inl ⟨by rfl, ?_⟩) hS0 ?_
    rotate_left
    · (intro w hSw; go_simp; first | done | with_reducible rfl | exact hSw.1 | exact hSw.2)
    simp only [Act.put]
    refine wpUntil_take (i := 1) (v := ?_) rfl (by kernel_rfl) (fun _ _ _ h => h) (Or.inl ⟨by rfl, ?_⟩) hS0 ?_
    rotate_left
    · (intro w hSw; go_simp; first | done | with_reducible rfl | exact hSw.1 | exact hSw.2)
    simp only [Act.put]
    refine wpUntil_take (i := 3) (v := ?_) rfl (by kernel_rfl) (fun _ _ _ h => h) (Or.inl ⟨by rfl, ?_⟩) hS0 ?_
    rotate_left
    · (intro w hSw; go_simp; first | done | with_reducible rfl | exact hSw.1 | exact hSw.2)
    simp only [Act.put]
    refine wpUntil_take (i := 4) (v := ?_) rfl (by kernel_rfl) (fun _ _ _ h => h) (Or.inl ⟨by rfl, ?_⟩) hS0 ?_
    rotate_left
    · (intro w hSw; go_simp; first | done | with_reducible rfl | exact hSw.1 | exact hSw.2)
    simp only [Act.put]
    refine wpUntil_ready (rs := [2, 7]) (by kernel_rfl) (by simp) ?_
    refine AllU.cons rfl (fun K hK => ?_) (AllU.cons rfl (fun K hK => ?_) AllU.nil)
    · have bE : Below W1.heap.size W1 (W1.alloc (.cells #[] 2)) := (Below.refl _ _).alloc (Nat.le_refl _) _
      have sE : (W1.alloc (.cells #[] 2)).heap.size = W1.heap.size + 1 := by simp
      have hE : (W1.alloc (.cells #[] 2)).heap[W1.heap.size]? = some (.cells #[] 2 (0, 0)) := heap_alloc_new W1 _
      have hSE := KW.out.2.2.2.2 _ bE
      go_simp
      refine hK.out _ _ (fun _ => hSE) ?_
      clear hK K
      refine wpUntil_ready (rs := [5, 7]) (by kernel_rfl) (by simp) ?_
      refine AllU.cons rfl (fun K hK => ?_) (AllU.cons rfl (fun K hK => ?_) AllU.nil)
      · obtain ⟨a', c', WA, hr, hd, hg, hl⟩ := appendN (W1.alloc (.cells #[] 2)) (w.heap.size + 2) (some ⟨W1.heap.size, 0, none⟩) 0 (owns_empty hE (by have := KW.out.2.2.1; omega)) m.cleared (by have := H.out.1.n; omega) 60 ad cd ((H.out.2.1.later KW.out.1).later bE).n (by have := KW.out.2.2.1; omega)
        have bA : Below W1.heap.size W1 WA := bE.grown hg bE.size (fun k h => by cases h; exact Nat.le_refl _)
        have hSA := KW.out.2.2.2.2 _ bA
        have KA : Hid (Below W1.heap.size W1 WA ∧ WA.ownsRow (w.heap.size + 2) 2 1 (.slice a' m.cleared.length c') m.cleared.length (m.cleared.map (Value.int .i64))) := ⟨bA, hd⟩
        clear hd hg hl bA bE sE hE
        refine step_known _ rfl (.tmp 8) (.tmp 10) 60 rfl _ _ _ _ (by first | rfl | simp [Act.eval, Act.put]) (by first | rfl | simp [Act.eval, Act.put]) hr ?_
        refine hK.out _ _ (fun _ => hSA) ?_
        clear hK K hr hS0 hSE
        simp only [Act.put]
        refine wpUntil_take (i := 6) (v := ?_) rfl (by kernel_rfl) (fun _ _ _ h => h) (Or.inl ⟨by rfl, ?_⟩) hSA ?_
        rotate_left
        · (intro w hSw; go_simp; first | done | with_reducible rfl | exact hSw.1 | exact hSw.2)
        simp only [Act.put]
        refine wpUntil_ready (rs := [7]) (by kernel_rfl) (by simp) ?_
        refine AllU.cons rfl (fun K hK => ?_) AllU.nil
        go_simp
        have bB : Below WA.heap.size WA (WA.alloc (.cells #[.bool false, .slice none 0 0, .slice none 0 0, .slice none 0 0] 62)) := (Below.refl _ _).alloc (Nat.le_refl _) _
        have hSB := KW.out.2.2.2.2 _ (KA.out.1.trans (bB.mono KA.out.1.size))
        refine hK.out _ _ (fun _ => hSB) ?_
        clear hK K bB hSB hSA
        refine wpUntil_ready (rs := [8]) (by kernel_rfl) (by simp) ?_
        refine AllU.cons rfl (fun K hK => ?_) AllU.nil
        go_simp
        refine hK.out _ _ (fun h => absurd rfl h) ?_
        clear hK K
        refine wpUntil_done (by kernel_rfl) ?_ _
        go_wp2_with fail
        go_meet
        have q1 := KA.out.1.size
        have q2 := KW.out.2.2.1
        obtain ⟨f1, f2⟩ := firstM_A (s := w.heap.size) (alive := m.alive) (X := WA) (by omega) ((KA.out.1.block _ (by omega)).trans KW.out.2.2.2.1) KA.out.2
        exact ⟨WA.heap.size, a', c', rfl, f1, f2, KW.out.2.1.trans ((KA.out.1.mono (by omega)).alloc (by omega) _)⟩
      · have bZ : Below (W1.heap.size + 1) (W1.alloc (.cells #[] 2)) ((W1.alloc (.cells #[] 2)).alloc (.cells #[.bool false, .slice none 0 0, .slice none 0 0, .slice none 0 0] 62)) := (Below.refl _ _).alloc (by rw [sE]; exact Nat.le_refl _) _
        have bX : Below W1.heap.size W1 ((W1.alloc (.cells #[] 2)).alloc (.cells #[.bool false, .slice none 0 0, .slice none 0 0, .slice none 0 0] 62)) := bE.trans (bZ.mono (by omega))
        have sX : ((W1.alloc (.cells #[] 2)).alloc (.cells #[.bool false, .slice none 0 0, .slice none 0 0, .slice none 0 0] 62)).heap.size = W1.heap.size + 2 := by simp
        have hq : ((W1.alloc (.cells #[] 2)).alloc (.cells #[.bool false, .slice none 0 0, .slice none 0 0, .slice none 0 0] 62)).heap[W1.heap.size]? = some (.cells #[] 2 (0, 0)) := (bZ.block _ (by omega)).trans hE
        have hp : ((W1.alloc (.cells #[] 2)).alloc (.cells #[.bool false, .slice none 0 0, .slice none 0 0, .slice none 0 0] 62)).heap[W1.heap.size + 1]? = some (.cells #[.bool false, .slice none 0 0, .slice none 0 0, .slice none 0 0] 62 (0, 0)) := by rw [← sE]; exact heap_alloc_new _ _
        have hSX := KW.out.2.2.2.2 _ bX
        obtain ⟨a', c', WA, hr, hd, hg, hl⟩ := appendN ((W1.alloc (.cells #[] 2)).alloc (.cells #[.bool false, .slice none 0 0, .slice none 0 0, .slice none 0 0] 62)) (w.heap.size + 2) (some ⟨W1.heap.size, 0, none⟩) 0 (owns_empty hq (by have := KW.out.2.2.1; omega)) m.cleared (by have := H.out.1.n; omega) 60 ad cd ((H.out.2.1.later KW.out.1).later bX).n (by have := KW.out.2.2.1; omega)
        have bA : Below W1.heap.size W1 WA := bX.grown hg bX.size (fun k h => by cases h; show W1.heap.size ≤ W1.heap.size; omega)
        have hpA : WA.heap[(W1.heap.size + 1)]? = some (.cells #[.bool false, .slice none 0 0, .slice none 0 0, .slice none 0 0] 62 (0, 0)) := (hg.block (W1.heap.size + 1) (by omega) (fun e => by have e' : (W1.heap.size + 1) = W1.heap.size := Option.some.inj e; omega)).trans hp
        have hne : (Value.slice a' m.cleared.length c').ownBlock ≠ some (W1.heap.size + 1) := fun e => by
          rcases hl with e' | e'
          · rw [e'] at e; have e'' : W1.heap.size = (W1.heap.size + 1) := Option.some.inj e; omega
          · rw [e'] at e; have := Option.some.inj e; omega
        have hpl : (W1.heap.size + 1) < WA.heap.size := by have := hg.size; omega
        obtain ⟨z0, z1, z2, z3, zf⟩ := zeroBoxM hpA
        have zf0 := zf 0
        have zf1 := zf 1
        have zf2 := zf 2
        have zf3 := zf 3
        have hSA := KW.out.2.2.2.2 _ bA
        have KA : Hid (Below W1.heap.size W1 WA ∧ WA.ownsRow (w.heap.size + 2) 2 1 (.slice a' m.cleared.length c') m.cleared.length (m.cleared.map (Value.int .i64)) ∧ WA.heap[(W1.heap.size + 1)]? = some (.cells #[.bool false, .slice none 0 0, .slice none 0 0, .slice none 0 0] 62 (0, 0)) ∧ (Value.slice a' m.cleared.length c').ownBlock ≠ some (W1.heap.size + 1) ∧ (W1.heap.size + 1) < WA.heap.size ∧ W1.heap.size ≤ (W1.heap.size + 1)) := ⟨bA, hd, hpA, hne, hpl, by omega⟩
        clear hd hg hl bA hpA hne hpl zf bX bZ hq hp bE hE
        go_simp
        refine hK.out _ _ (fun _ => hSX) ?_
        clear hK K hS0 hSE
        refine wpUntil_ready (rs := [5]) (by kernel_rfl) (by simp) ?_
        refine AllU.cons rfl (fun K hK => ?_) AllU.nil
        refine step_known _ rfl (.tmp 8) (.tmp 10) 60 rfl _ _ _ _ (by first | rfl | simp [Act.eval, Act.put]) (by first | rfl | simp [Act.eval, Act.put]) hr ?_
        refine hK.out _ _ (fun _ => hSA) ?_
        clear hK K hr hSX sX sE
        simp only [Act.put]
        refine wpUntil_take (i := 6) (v := ?_) rfl (by kernel_rfl) (fun _ _ _ h => h) (Or.inl ⟨by rfl, ?_⟩) hSA ?_
        rotate_left
        · (intro w hSw; go_simp; first | done | with_reducible rfl | exact hSw.1 | exact hSw.2)
        simp only [Act.put]
        refine wpUntil_ready (rs := [8]) (by kernel_rfl) (by simp) ?_
        refine AllU.cons rfl (fun K hK => ?_) AllU.nil
        go_simp
        refine hK.out _ _ (fun h => absurd rfl h) ?_
        clear hK K
        refine wpUntil_done (by kernel_rfl) ?_ _
        go_wp2_with fail
        go_meet
        have q2 := KW.out.2.2.1
        obtain ⟨k1, k2, k3, k4, k5, k6⟩ := KA.out
        obtain ⟨f1, f2⟩ := firstM_B (s := w.heap.size) (p := (W1.heap.size + 1)) (alive := m.alive) (X := WA) (by omega) k5 ((k1.block _ (by omega)).trans KW.out.2.2.2.1) k3 k2 k4
        exact ⟨(W1.heap.size + 1), a', c', rfl, f1, f2, ((((KW.out.2.1.trans (k1.mono (by omega))).setCell (p := ⟨_, _, none⟩) (by simp; omega) _).setCell (p := ⟨_, _, none⟩) (by simp; omega) _).setCell (p := ⟨_, _, none⟩) (by simp; omega) _).setCell (p := ⟨_, _, none⟩) (by simp; omega) _⟩
    · have bE : Below W1.heap.size W1 (W1.alloc (.cells #[.bool false, .slice none 0 0, .slice none 0 0, .slice none 0 0] 62)) := (Below.refl _ _).alloc (Nat.le_refl _) _
      have sE : (W1.alloc (.cells #[.bool false, .slice none 0 0, .slice none 0 0, .slice none 0 0] 62)).heap.size = W1.heap.size + 1 := by simp
      have hE : (W1.alloc (.cells #[.bool false, .slice none 0 0, .slice none 0 0, .slice none 0 0] 62)).heap[W1.heap.size]? = some (.cells #[.bool false, .slice none 0 0, .slice none 0 0, .slice none 0 0] 62 (0, 0)) := heap_alloc_new W1 _
      have bZ : Below (W1.heap.size + 1) (W1.alloc (.cells #[.bool false, .slice none 0 0, .slice none 0 0, .slice none 0 0] 62)) ((W1.alloc (.cells #[.bool false, .slice none 0 0, .slice none 0 0, .slice none 0 0] 62)).alloc (.cells #[] 2)) := (Below.refl _ _).alloc (by rw [sE]; exact Nat.le_refl _) _
      have bX : Below W1.heap.size W1 ((W1.alloc (.cells #[.bool false, .slice none 0 0, .slice none 0 0, .slice none 0 0] 62)).alloc (.cells #[] 2)) := bE.trans (bZ.mono (by omega))
      have sX : ((W1.alloc (.cells #[.bool false, .slice none 0 0, .slice none 0 0, .slice none 0 0] 62)).alloc (.cells #[] 2)).heap.size = W1.heap.size + 2 := by simp
      have hp : ((W1.alloc (.cells #[.bool false, .slice none 0 0, .slice none 0 0, .slice none 0 0] 62)).alloc (.cells #[] 2)).heap[W1.heap.size]? = some (.cells #[.bool false, .slice none 0 0, .slice none 0 0, .slice none 0 0] 62 (0, 0)) := (bZ.block _ (by omega)).trans hE
      have hq : ((W1.alloc (.cells #[.bool false, .slice none 0 0, .slice none 0 0, .slice none 0 0] 62)).alloc (.cells #[] 2)).heap[W1.heap.size + 1]? = some (.cells #[] 2 (0, 0)) := by rw [← sE]; exact heap_alloc_new _ _
      have hSE := KW.out.2.2.2.2 _ bE
      have hSX := KW.out.2.2.2.2 _ bX
      obtain ⟨a', c', WA, hr, hd, hg, hl⟩ := appendN ((W1.alloc (.cells #[.bool false, .slice none 0 0, .slice none 0 0, .slice none 0 0] 62)).alloc (.cells #[] 2)) (w.heap.size + 2) (some ⟨(W1.heap.size + 1), 0, none⟩) 0 (owns_empty hq (by have := KW.out.2.2.1; omega)) m.cleared (by have := H.out.1.n; omega) 60 ad cd ((H.out.2.1.later KW.out.1).later bX).n (by have := KW.out.2.2.1; omega)
      have bA : Below W1.heap.size W1 WA := bX.grown hg bX.size (fun k h => by cases h; show W1.heap.size ≤ (W1.heap.size + 1); omega)
      have hpA : WA.heap[W1.heap.size]? = some (.cells #[.bool false, .slice none 0 0, .slice none 0 0, .slice none 0 0] 62 (0, 0)) := (hg.block W1.heap.size (by omega) (fun e => by have e' : W1.heap.size = (W1.heap.size + 1) := Option.some.inj e; omega)).trans hp
      have hne : (Value.slice a' m.cleared.length c').ownBlock ≠ some W1.heap.size := fun e => by
        rcases hl with e' | e'
        · rw [e'] at e; have e'' : (W1.heap.size + 1) = W1.heap.size := Option.some.inj e; omega
        · rw [e'] at e; have := Option.some.inj e; omega
      have hpl : W1.heap.size < WA.heap.size := by have := hg.size; omega
      obtain ⟨z0, z1, z2, z3, zf⟩ := zeroBoxM hpA
      have zf0 := zf 0
      have zf1 := zf 1
      have zf2 := zf 2
      have zf3 := zf 3
      have hSA := KW.out.2.2.2.2 _ bA
      have KA : Hid (Below W1.heap.size W1 WA ∧ WA.ownsRow (w.heap.size + 2) 2 1 (.slice a' m.cleared.length c') m.cleared.length (m.cleared.map (Value.int .i64)) ∧ WA.heap[W1.heap.size]? = some (.cells #[.bool false, .slice none 0 0, .slice none 0 0, .slice none 0 0] 62 (0, 0)) ∧ (Value.slice a' m.cleared.length c').ownBlock ≠ some W1.heap.size ∧ W1.heap.size < WA.heap.size ∧ W1.heap.size ≤ W1.heap.size) := ⟨bA, hd, hpA, hne, hpl, by omega⟩
      clear hd hg hl bA hpA hne hpl zf bX bZ hq hp bE hE
      go_simp
      refine hK.out _ _ (fun _ => hSE) ?_
      clear hK K hS0
      refine wpUntil_ready (rs := [2]) (by kernel_rfl) (by simp) ?_
      refine AllU.cons rfl (fun K hK => ?_) AllU.nil
      go_simp
      refine hK.out _ _ (fun _ => hSX) ?_
      clear hK K hSE
      refine wpUntil_ready (rs := [5]) (by kernel_rfl) (by simp) ?_
      refine AllU.cons rfl (fun K hK => ?_) AllU.nil
      refine step_known _ rfl (.tmp 8) (.tmp 10) 60 rfl _ _ _ _ (by first | rfl | simp [Act.eval, Act.put]) (by first | rfl | simp [Act.eval, Act.put]) hr ?_
      refine hK.out _ _ (fun _ => hSA) ?_
      clear hK K hr hSX sX sE
      simp only [Act.put]
      refine wpUntil_take (i := 6) (v := ?_) rfl (by kernel_rfl) (fun _ _ _ h => h) (Or.inl ⟨by rfl, ?_⟩) hSA ?_
      rotate_left
      · (intro w hSw; go_simp; first | done | with_reducible rfl | exact hSw.1 | exact hSw.2)
      simp only [Act.put]
      refine wpUntil_ready (rs := [8]) (by kernel_rfl) (by simp) ?_
      refine AllU.cons rfl (fun K hK => ?_) AllU.nil
      go_simp
      refine hK.out _ _ (fun h => absurd rfl h) ?_
      clear hK K
      refine wpUntil_done (by kernel_rfl) ?_ _
      go_wp2_with fail
      go_meet
      have q2 := KW.out.2.2.1
      obtain ⟨k1, k2, k3, k4, k5, k6⟩ := KA.out
      obtain ⟨f1, f2⟩ := firstM_B (s := w.heap.size) (p := W1.heap.size) (alive := m.alive) (X := WA) (by omega) k5 ((k1.block _ (by omega)).trans KW.out.2.2.2.1) k3 k2 k4
      exact ⟨W1.heap.size, a', c', rfl, f1, f2, ((((KW.out.2.1.trans (k1.mono (by omega))).setCell (p := ⟨_, _, none⟩) (by simp; omega) _).setCell (p := ⟨_, _, none⟩) (by simp; omega) _).setCell (p := ⟨_, _, none⟩) (by simp; omega) _).setCell (p := ⟨_, _, none⟩) (by simp; omega) _⟩
  case rest =>
    obtain ⟨p, a', c', rfl, hb3, hmr, hbx⟩ := hcut
    have KC : Hid (C3 w.heap.size p m.alive wc (.slice none 0 0) (.slice none 0 0) (.slice a' m.cleared.length c') ∧ MR (w.heap.size + 2) p wc (.slice none 0 0) (.slice none 0 0) (.slice a' m.cleared.length c') [] [] m.cleared gz gz ∧ Below (w.heap.size + 1) W0 wc) := ⟨hb3, hmr, hbx⟩
    have hk6 : m.copies.length ≤ 6 := H.out.1.k
    clear hb3 hmr hbx
    go_wp2
    go_loopw [4] (fun v4 wr => ∃ (j : Nat) (ak : Option Addr) (ck : Nat) (gk : Nat → Nat), j ≤ m.copies.length ∧ v4 = .int .i64 j ∧ C3 w.heap.size p m.alive wr (.slice ak j ck) (.slice none 0 0) (.slice a' m.cleared.length c') ∧ MR (w.heap.size + 2) p wr (.slice ak j ck) (.slice none 0 0) (.slice a' m.cleared.length c') (m.copies.take j) [] m.cleared gk gz ∧ Below (w.heap.size + 1) W0 wr) (fun v4 _ => m.copies.length - (intOf v4).toNat)
    case atStart => exact ⟨0, none, 0, gz, Nat.zero_le _, rfl, KC.out.1, by rw [List.take_zero]; exact KC.out.2.1, KC.out.2.2⟩
    case round =>
      obtain ⟨j, ak, ck, gk, hj, rfl, hb3, hmr, hbx⟩ := hrel
      obtain ⟨_, c1, _, _⟩ := HC.out wr hbx
      by_cases hlt : j < m.copies.length
      · have hbw : Below w.heap.size w wr := H.out.2.2.1.trans (hbx.mono (by omega))
        obtain ⟨_, hsk⟩ := H.out.2.1.k
        have hkj : m.copies[j]? = some (atK m.copies j) := atK_of hlt
        have h6 : (atK m.copies j).cells.length = 6 := H.out.1.ks _ (List.mem_of_getElem? hkj)
        simp only [] at hsk
        rcases hsk with hsk | ⟨b, off, rfl, hb, h1⟩
        · omega
        have hr := (h1 j _ hkj).below hbw hb
        have k0 := hr.c0
        obtain ⟨a1, p1, k1, hsl, hcp⟩ := hr.c1
        have bX : Below wr.heap.size wr wr.drew := (Below.refl _ _).drew
        have hc := l3Copy_any wr.drew a1 p1 (atK m.copies j).cells (by omega) (by omega) ((hsl.mono hbw.size).later bX)
        have hSof : ∀ Y : World, (∀ x, x < w.heap.size + 1 → Y.heap[x]? = wr.heap[x]?) → Y.heap[p]? = wr.heap[p]? → (fun X : World => X.cell? ⟨p, 1, none⟩ = some (.slice ak j ck) ∧ X.cell? ⟨w.heap.size, 1, none⟩ = some (.slice (some ⟨b, off, none⟩) m.copies.length cc) ∧ X.cell? ⟨b, off + j * 2, none⟩ = some (.int .i64 (atK m.copies j).region) ∧ X.cell? ⟨b, off + j * 2 + 1, none⟩ = some (.slice a1 (atK m.copies j).cells.length p1)) Y := fun Y h1 h2 =>
          ⟨(World.cell?_of_block (a := ⟨p, 1, none⟩) h2).trans hb3.o1, (World.cell?_of_block (a := ⟨w.heap.size, 1, none⟩) (h1 w.heap.size (by omega))).trans c1, (World.cell?_of_block (a := ⟨b, off + j * 2, none⟩) (h1 b (by omega))).trans k0, (World.cell?_of_block (a := ⟨b, off + j * 2 + 1, none⟩) (h1 b (by omega))).trans k1⟩
        have hSX := hSof wr.drew (fun _ _ => rfl) rfl
        have KH : Hid (C3 w.heap.size p m.alive wr (.slice ak j ck) (.slice none 0 0) (.slice a' m.cleared.length c') ∧ MR (w.heap.size + 2) p wr (.slice ak j ck) (.slice none 0 0) (.slice a' m.cleared.length c') (m.copies.take j) [] m.cleared gk gz ∧ Below (w.heap.size + 1) W0 wr ∧ Below wr.heap.size wr wr.drew ∧ m.copies[j]? = some (atK m.copies j) ∧ (∀ Y : World, (∀ x, x < w.heap.size + 1 → Y.heap[x]? = wr.heap[x]?) → Y.heap[p]? = wr.heap[p]? → (fun X : World => X.cell? ⟨p, 1, none⟩ = some (.slice ak j ck) ∧ X.cell? ⟨w.heap.size, 1, none⟩ = some (.slice (some ⟨b, off, none⟩) m.copies.length cc) ∧ X.cell? ⟨b, off + j * 2, none⟩ = some (.int .i64 (atK m.copies j).region) ∧ X.cell? ⟨b, off + j * 2 + 1, none⟩ = some (.slice a1 (atK m.copies j).cells.length p1)) Y)) := ⟨hb3, hmr, hbx, bX, hkj, hSof⟩
        have hpw := hb3.pX
        have hjn : (j : Int) < (m.copies.length : Int) := by omega
        clear hb3 hmr hbx hbw h1 hr hsl hcp bX hkj h6 hSof
        go_wp2_with fail
        refine wp_region_until 19 (fun X : World => X.cell? ⟨p, 1, none⟩ = some (.slice ak j ck) ∧ X.cell? ⟨w.heap.size, 1, none⟩ = some (.slice (some ⟨b, off, none⟩) m.copies.length cc) ∧ X.cell? ⟨b, off + j * 2, none⟩ = some (.int .i64 (atK m.copies j).region) ∧ X.cell? ⟨b, off + j * 2 + 1, none⟩ = some (.slice a1 (atK m.copies j).cells.length p1)) (by kernel_rfl) ?_
        generalize hXX : wr.drew = X at *
        clear hXX k0 k1 c1
        refine wpUntil_take (i := 0) (v := ?_) rfl (by kernel_rfl) (fun _ _ _ h => h) (Or.inl ⟨by rfl, ?_⟩) hSX ?_
        rotate_left
        · (intro w hSw; obtain ⟨sw1, sw2, sw3, sw4⟩ := hSw; go_simp; first | done | with_reducible rfl | exact sw1 | exact sw2 | exact sw3 | exact sw4 | (rw [if_pos (by omega)]))
        simp only [Act.put]
        refine wpUntil_take (i := 1) (v := ?_) rfl (by kernel_rfl) (fun _ _ _ h => h) (Or.inl ⟨by rfl, ?_⟩) hSX ?_
        rotate_left
        · (intro w hSw; obtain ⟨sw1, sw2, sw3, sw4⟩ := hSw; go_simp; first | done | with_reducible rfl | exact sw1 | exact sw2 | exact sw3 | exact sw4 | (rw [if_pos (by omega)]))
        simp only [Act.put]
        refine wpUntil_take (i := 2) (v := ?_) rfl (by kernel_rfl) (fun _ _ _ h => h) (Or.inl ⟨by rfl, ?_⟩) hSX ?_
        rotate_left
        · (intro w hSw; obtain ⟨sw1, sw2, sw3, sw4⟩ := hSw; go_simp; first | done | with_reducible rfl | exact sw1 | exact sw2 | exact sw3 | exact sw4 | (rw [if_pos (by omega)]))
        simp only [Act.put]
        refine wpUntil_take (i := 3) (v := ?_) rfl (by kernel_rfl) (fun _ _ _ h => h) (Or.inl ⟨by rfl, ?_⟩) hSX ?_
        rotate_left
        · (intro w hSw; obtain ⟨sw1, sw2, sw3, sw4⟩ := hSw; go_simp; first | done | with_reducible rfl | exact sw1 | exact sw2 | exact sw3 | exact sw4 | (rw [if_pos (by omega)]))
        simp only [Act.put]
        refine wpUntil_take (i := 4) (v := ?_) rfl (by kernel_rfl) (fun _ _ _ h => h) (Or.inl ⟨by rfl, ?_⟩) hSX ?_
        rotate_left
        · (intro w hSw; obtain ⟨sw1, sw2, sw3, sw4⟩ := hSw; go_simp; first | done | with_reducible rfl | exact sw1 | exact sw2 | exact sw3 | exact sw4 | (rw [if_pos (by omega)]))
        simp only [Act.put]
        refine wpUntil_take (i := 5) (v := ?_) rfl (by kernel_rfl) (fun _ _ _ h => h) (Or.inl ⟨by rfl, ?_⟩) hSX ?_
        rotate_left
        · (intro w hSw; obtain ⟨sw1, sw2, sw3, sw4⟩ := hSw; go_simp; first | done | with_reducible rfl | exact sw1 | exact sw2 | exact sw3 | exact sw4 | (rw [if_pos (by omega)]))
        simp only [Act.put]
        refine wpUntil_take (i := 6) (v := ?_) rfl (by kernel_rfl) (fun _ _ _ h => h) (Or.inl ⟨by rfl, ?_⟩) hSX ?_
        rotate_left
        · (intro w hSw; obtain ⟨sw1, sw2, sw3, sw4⟩ := hSw; go_simp; first | done | with_reducible rfl | exact sw1 | exact sw2 | exact sw3 | exact sw4 | (rw [if_pos (by omega)]))
        simp only [Act.put]
        refine wpUntil_take (i := 7) (v := ?_) rfl (by kernel_rfl) (fun _ _ _ h => h) (Or.inl ⟨by rfl, ?_⟩) hSX ?_
        rotate_left
        · (intro w hSw; obtain ⟨sw1, sw2, sw3, sw4⟩ := hSw; go_simp; first | done | with_reducible rfl | exact sw1 | exact sw2 | exact sw3 | exact sw4 | (rw [if_pos (by omega)]))
        simp only [Act.put]
        refine wpUntil_take (i := 8) (v := ?_) rfl (by kernel_rfl) (fun _ _ _ h => h) (Or.inl ⟨by rfl, ?_⟩) hSX ?_
        rotate_left
        · (intro w hSw; obtain ⟨sw1, sw2, sw3, sw4⟩ := hSw; go_simp; first | done | with_reducible rfl | exact sw1 | exact sw2 | exact sw3 | exact sw4 | (rw [if_pos (by omega)]))
        simp only [Act.put]
        refine wpUntil_take (i := 9) (v := ?_) rfl (by kernel_rfl) (fun _ _ _ h => h) (Or.inl ⟨by rfl, ?_⟩) hSX ?_
        rotate_left
        · (intro w hSw; obtain ⟨sw1, sw2, sw3, sw4⟩ := hSw; go_simp; first | done | with_reducible rfl | exact sw1 | exact sw2 | exact sw3 | exact sw4 | (rw [if_pos (by omega)]))
        simp only [Act.put]
        refine wpUntil_take (i := 10) (v := ?_) rfl (by kernel_rfl) (fun _ _ _ h => h) (Or.inl ⟨by rfl, ?_⟩) hSX ?_
        rotate_left
        · (intro w hSw; obtain ⟨sw1, sw2, sw3, sw4⟩ := hSw; go_simp; first | done | with_reducible rfl | exact sw1 | exact sw2 | exact sw3 | exact sw4 | (rw [if_pos (by omega)]))
        simp only [Act.put]
        refine wpUntil_take (i := 11) (v := ?_) rfl (by kernel_rfl) (fun _ _ _ h => h) (Or.inl ⟨by rfl, ?_⟩) hSX ?_
        rotate_left
        · (intro w hSw; obtain ⟨sw1, sw2, sw3, sw4⟩ := hSw; go_simp; first | done | with_reducible rfl | exact sw1 | exact sw2 | exact sw3 | exact sw4 | (rw [if_pos (by omega)]))
        simp only [Act.put]
        refine wpUntil_take (i := 12) (v := ?_) rfl (by kernel_rfl) (fun _ _ _ h => h) (Or.inl ⟨by rfl, ?_⟩) hSX ?_
        rotate_left
        · (intro w hSw; obtain ⟨sw1, sw2, sw3, sw4⟩ := hSw; go_simp; first | done | with_reducible rfl | exact sw1 | exact sw2 | exact sw3 | exact sw4 | (rw [if_pos (by omega)]))
        simp only [Act.put]
        refine wpUntil_take (i := 13) (v := ?_) rfl (by kernel_rfl) (fun _ _ _ h => h) (Or.inl ⟨by rfl, ?_⟩) hSX ?_
        rotate_left
        · (intro w hSw; obtain ⟨sw1, sw2, sw3, sw4⟩ := hSw; go_simp; first | done | with_reducible rfl | exact sw1 | exact sw2 | exact sw3 | exact sw4 | (rw [if_pos (by omega)]))
        simp only [Act.put]
        refine wpUntil_ready (rs := [14]) (by kernel_rfl) (by simp) ?_
        refine AllU.cons rfl (fun K hK => ?_) AllU.nil
        go_simp
        refine hc.mono ?_
        clear hc
        rintro e X2 ⟨q, cp, rfl, hq1, hq2, hq3, hq4, hq5, b2⟩
        obtain ⟨hb3, hmr, hbx, bX, hkj, hSof⟩ := KH.out
        have hpl := hb3.pl
        have bX2 : Below wr.heap.size wr X2 := bX.trans (b2.mono bX.size)
        have hS2 := hSof X2 (fun x hx => bX2.block x (by omega)) (bX2.block p hpw)
        have b3 : Below X2.heap.size X2 (X2.alloc (.cells #[.int .i64 (atK m.copies j).region, .slice (some ⟨q, 0, none⟩) (atK m.copies j).cells.length cp] 99)) := (Below.refl _ _).alloc (Nat.le_refl _) _
        have s3 : (X2.alloc (.cells #[.int .i64 (atK m.copies j).region, .slice (some ⟨q, 0, none⟩) (atK m.copies j).cells.length cp] 99)).heap.size = X2.heap.size + 1 := by simp
        have bX3 : Below wr.heap.size wr (X2.alloc (.cells #[.int .i64 (atK m.copies j).region, .slice (some ⟨q, 0, none⟩) (atK m.copies j).cells.length cp] 99)) := bX2.trans (b3.mono bX2.size)
        have hS3 := hSof (X2.alloc (.cells #[.int .i64 (atK m.copies j).region, .slice (some ⟨q, 0, none⟩) (atK m.copies j).cells.length cp] 99)) (fun x hx => bX3.block x (by omega)) (bX3.block p hpw)
        obtain ⟨v', Y, hr, hmr', hgr, hol⟩ := hmr.pushK bX3 (by omega) hpw (atK m.copies j) q cp X2.heap.size (by simp; omega) 58 (by go_simp) (by go_simp) (AtK.of_block _ _ _ _ (b3.block q hq2) ⟨hq4, hq5⟩) hq3 (by have := bX.size; omega) (by omega)
        have htk : m.copies.take j ++ [(atK m.copies j)] = m.copies.take (j + 1) := by rw [List.take_add_one, hkj]; rfl
        have hfar : ∀ x, x = p ∨ x < w.heap.size + 2 → Y.heap[x]? = wr.heap[x]? := fun x hx => (hgr.block x (by have := bX3.size; omega) (fun e => by have := hol x e.symm; omega)).trans (bX3.block x (by omega))
        have hS4 := hSof Y (fun x hx => hfar x (by omega)) (hfar p (.inl rfl))
        have hlk : (m.copies.take (j + 1)).length = j + 1 := by rw [List.length_take]; omega
        rw [htk, List.length_take, Nat.min_eq_left (by omega)] at hmr'
        obtain ⟨yb, yc, rfl, -⟩ := GrowG.own (hd := hdK) (sz := 2) (fun _ => rfl) hmr'.gK (fun e => by rw [e] at hlk; simp at hlk)
        rw [hlk] at hr hmr'
        have hb3' : C3 w.heap.size p m.alive Y (.slice ak j ck) (.slice none 0 0) (.slice a' m.cleared.length c') := hb3.keep (Nat.le_trans bX3.size hgr.size) (hfar (w.heap.size + 1) (.inr (by omega))) (hfar p (.inl rfl))
        have o2 := hb3'.o1
        have fo2 := hb3'.fo 1
        have KE : Hid (C3 w.heap.size p m.alive (Y.setCell ⟨p, 1, none⟩ (.slice (some ⟨yb, 0, none⟩) (j + 1) yc)) (.slice (some ⟨yb, 0, none⟩) (j + 1) yc) (.slice none 0 0) (.slice a' m.cleared.length c') ∧ MR (w.heap.size + 2) p (Y.setCell ⟨p, 1, none⟩ (.slice (some ⟨yb, 0, none⟩) (j + 1) yc)) (.slice (some ⟨yb, 0, none⟩) (j + 1) yc) (.slice none 0 0) (.slice a' m.cleared.length c') (m.copies.take (j + 1)) [] m.cleared (fun i => if i = j then q else gk i) gz ∧ Below (w.heap.size + 1) W0 (Y.setCell ⟨p, 1, none⟩ (.slice (some ⟨yb, 0, none⟩) (j + 1) yc))) :=
          ⟨hb3'.setK _, hmr'.set, ((hbx.trans (bX3.mono (by omega))).grown hgr (by have := bX3.size; omega) (fun x e => by have := hol x e; omega)).setCell (p := ⟨p, 1, none⟩) (by show w.heap.size + 1 ≤ p; omega) _⟩
        refine hK.out _ _ (fun _ => hS2) ?_
        clear hK K hb3 hmr hbx bX hkj bX2 b3 s3 bX3 hmr' hgr hol htk hfar hlk hb3' hSX b2 hq1 hq2 hq3 hq4 hq5 KH hSof hpl
        refine wpUntil_take (i := 15) (v := ?_) rfl (by kernel_rfl) (fun _ _ _ h => h) (Or.inl ⟨by rfl, ?_⟩) hS2 ?_
        rotate_left
        · (intro w hSw; obtain ⟨sw1, sw2, sw3, sw4⟩ := hSw; go_simp; first | done | with_reducible rfl | exact sw1 | exact sw2 | exact sw3 | exact sw4 | (rw [if_pos (by omega)]))
        simp only [Act.put]
        refine wpUntil_ready (rs := [16]) (by kernel_rfl) (by simp) ?_
        refine AllU.cons rfl (fun K hK => ?_) AllU.nil
        go_simp
        refine hK.out _ _ (fun _ => hS3) ?_
        clear hK K hS2
        refine wpUntil_ready (rs := [17]) (by kernel_rfl) (by simp) ?_
        refine AllU.cons rfl (fun K hK => ?_) AllU.nil
        refine step_known _ rfl (.tmp 21) (.tmp 36) 58 rfl _ _ _ _ (by first | rfl | simp [Act.eval, Act.put]) (by first | rfl | simp [Act.eval, Act.put]) hr ?_
        refine hK.out _ _ (fun _ => hS4) ?_
        clear hK K hr hS3
        simp only [Act.put]
        refine wpUntil_ready (rs := [18]) (by kernel_rfl) (by simp) ?_
        refine AllU.cons rfl (fun K hK => ?_) AllU.nil
        go_simp
        refine hK.out _ _ (fun _ => hS4) ?_
        clear hK K
        refine wpUntil_ready (rs := [19]) (by kernel_rfl) (by simp) ?_
        refine AllU.cons rfl (fun K hK => ?_) AllU.nil
        go_simp
        refine hK.out _ _ (fun h => absurd rfl h) ?_
        clear hK K
        refine wpUntil_done (by kernel_rfl) ?_ _
        go_wp2
        exact ⟨⟨j + 1, some ⟨yb, 0, none⟩, yc, _, by omega, by simp, KE.out.1, KE.out.2.1, KE.out.2.2⟩, by simp [intOf]; omega⟩
      · obtain rfl : j = m.copies.length := by omega
        have hd : decide ((m.copies.length : Int) < (m.copies.length : Int)) = false := by simp
        rw [List.take_length] at hmr
        have KC2 : Hid (C3 w.heap.size p m.alive wr (.slice ak m.copies.length ck) (.slice none 0 0) (.slice a' m.cleared.length c') ∧ MR (w.heap.size + 2) p wr (.slice ak m.copies.length ck) (.slice none 0 0) (.slice a' m.cleared.length c') m.copies [] m.cleared gk gz ∧ Below (w.heap.size + 1) W0 wr) := ⟨hb3, hmr, hbx⟩
        have hr200 : m.log.length ≤ 200 := H.out.1.r
        clear hb3 hmr hbx KC hj hlt
        generalize wr = wk at *
        go_wp2
        clear c1
        go_loopw [5] (fun v5 wr => ∃ (j : Nat) (ar : Option Addr) (cr : Nat) (gr : Nat → Nat), j ≤ m.log.length ∧ v5 = .int .i64 j ∧ C3 w.heap.size p m.alive wr (.slice ak m.copies.length ck) (.slice ar j cr) (.slice a' m.cleared.length c') ∧ MR (w.heap.size + 2) p wr (.slice ak m.copies.length ck) (.slice ar j cr) (.slice a' m.cleared.length c') m.copies (m.log.take j) m.cleared gk gr ∧ Below (w.heap.size + 1) W0 wr) (fun v5 _ => m.log.length - (intOf v5).toNat)
        case atStart => exact ⟨0, none, 0, gz, Nat.zero_le _, rfl, KC2.out.1, by rw [List.take_zero]; exact KC2.out.2.1, KC2.out.2.2⟩
        case round =>
          obtain ⟨j, ar, cr, gr, hj, rfl, hb3, hmr, hbx⟩ := hrel
          obtain ⟨_, _, c2, _⟩ := HC.out wr hbx
          by_cases hlt : j < m.log.length
          · have hbw : Below w.heap.size w wr := H.out.2.2.1.trans (hbx.mono (by omega))
            obtain ⟨_, hsk⟩ := H.out.2.1.r
            have hkj : m.log[j]? = some (atR m.log j) := atR_of hlt
            have h6 := H.out.1.rs _ (List.mem_of_getElem? hkj)
            simp only [] at hsk
            rcases hsk with hsk | ⟨b, off, rfl, hb, h1⟩
            · omega
            have hr := (h1 j _ hkj).below hbw hb
            have k0 := hr.c0
            have k1 := hr.c1
            have k2 := hr.c2
            obtain ⟨a1, p1, k3, hsl, hcp⟩ := hr.c3
            have bX : Below wr.heap.size wr wr.drew := (Below.refl _ _).drew
            have hc := l6Record_any wr.drew (atR m.log j) a1 p1 h6.1 (by omega) (((hsl.mono hbw.size).below bX).mono bX.size)
            simp only [R4.val] at hc
            have hSof : ∀ Y : World, (∀ x, x < w.heap.size + 1 → Y.heap[x]? = wr.heap[x]?) → Y.heap[p]? = wr.heap[p]? → (fun X : World => X.cell? ⟨p, 2, none⟩ = some (.slice ar j cr) ∧ X.cell? ⟨w.heap.size, 2, none⟩ = some (.slice (some ⟨b, off, none⟩) m.log.length cl) ∧ X.cell? ⟨b, off + j * 4, none⟩ = some (.int .i64 (atR m.log j).kind) ∧ X.cell? ⟨b, off + j * 4 + 1, none⟩ = some (.int .i64 (atR m.log j).tx) ∧ X.cell? ⟨b, off + j * 4 + 2, none⟩ = some (.int .i64 (atR m.log j).region) ∧ X.cell? ⟨b, off + j * 4 + 3, none⟩ = some (.slice a1 (atR m.log j).sets.length p1)) Y := fun Y h1 h2 =>
              ⟨(World.cell?_of_block (a := ⟨p, 2, none⟩) h2).trans hb3.o2, (World.cell?_of_block (a := ⟨w.heap.size, 2, none⟩) (h1 w.heap.size (by omega))).trans c2, (World.cell?_of_block (a := ⟨b, off + j * 4, none⟩) (h1 b (by omega))).trans k0, (World.cell?_of_block (a := ⟨b, off + j * 4 + 1, none⟩) (h1 b (by omega))).trans k1, (World.cell?_of_block (a := ⟨b, off + j * 4 + 2, none⟩) (h1 b (by omega))).trans k2, (World.cell?_of_block (a := ⟨b, off + j * 4 + 3, none⟩) (h1 b (by omega))).trans k3⟩
            have hSX := hSof wr.drew (fun _ _ => rfl) rfl
            have KH : Hid (C3 w.heap.size p m.alive wr (.slice ak m.copies.length ck) (.slice ar j cr) (.slice a' m.cleared.length c') ∧ MR (w.heap.size + 2) p wr (.slice ak m.copies.length ck) (.slice ar j cr) (.slice a' m.cleared.length c') m.copies (m.log.take j) m.cleared gk gr ∧ Below (w.heap.size + 1) W0 wr ∧ Below wr.heap.size wr wr.drew ∧ m.log[j]? = some (atR m.log j) ∧ (∀ Y : World, (∀ x, x < w.heap.size + 1 → Y.heap[x]? = wr.heap[x]?) → Y.heap[p]? = wr.heap[p]? → (fun X : World => X.cell? ⟨p, 2, none⟩ = some (.slice ar j cr) ∧ X.cell? ⟨w.heap.size, 2, none⟩ = some (.slice (some ⟨b, off, none⟩) m.log.length cl) ∧ X.cell? ⟨b, off + j * 4, none⟩ = some (.int .i64 (atR m.log j).kind) ∧ X.cell? ⟨b, off + j * 4 + 1, none⟩ = some (.int .i64 (atR m.log j).tx) ∧ X.cell? ⟨b, off + j * 4 + 2, none⟩ = some (.int .i64 (atR m.log j).region) ∧ X.cell? ⟨b, off + j * 4 + 3, none⟩ = some (.slice a1 (atR m.log j).sets.length p1)) Y)) := ⟨hb3, hmr, hbx, bX, hkj, hSof⟩
            have hpw := hb3.pX
            have hjn : (j : Int) < (m.log.length : Int) := by omega
            clear hb3 hmr hbx hbw h1 hr hsl hcp bX hkj h6 hSof
            go_wp2_with fail
            refine wp_region_until 11 (fun X : World => X.cell? ⟨p, 2, none⟩ = some (.slice ar j cr) ∧ X.cell? ⟨w.heap.size, 2, none⟩ = some (.slice (some ⟨b, off, none⟩) m.log.length cl) ∧ X.cell? ⟨b, off + j * 4, none⟩ = some (.int .i64 (atR m.log j).kind) ∧ X.cell? ⟨b, off + j * 4 + 1, none⟩ = some (.int .i64 (atR m.log j).tx) ∧ X.cell? ⟨b, off + j * 4 + 2, none⟩ = some (.int .i64 (atR m.log j).region) ∧ X.cell? ⟨b, off + j * 4 + 3, none⟩ = some (.slice a1 (atR m.log j).sets.length p1)) (by kernel_rfl) ?_
            generalize hXX : wr.drew = X at *
            clear hXX k0 k1 k2 k3 c2
            refine wpUntil_take (i := 0) (v := ?_) rfl (by kernel_rfl) (fun _ _ _ h => h) (Or.inl ⟨by rfl, ?_⟩) hSX ?_
            rotate_left
            · (intro w hSw; obtain ⟨sw1, sw2, sw3, sw4, sw5, sw6⟩ := hSw; go_simp; first | done | with_reducible rfl | exact sw1 | exact sw2 | exact sw3 | exact sw4 | exact sw5 | exact sw6 | (rw [if_pos (by omega)]))
            simp only [Act.put]
            refine wpUntil_take (i := 1) (v := ?_) rfl (by kernel_rfl) (fun _ _ _ h => h) (Or.inl ⟨by rfl, ?_⟩) hSX ?_
            rotate_left
            · (intro w hSw; obtain ⟨sw1, sw2, sw3, sw4, sw5, sw6⟩ := hSw; go_simp; first | done | with_reducible rfl | exact sw1 | exact sw2 | exact sw3 | exact sw4 | exact sw5 | exact sw6 | (rw [if_pos (by omega)]))
            simp only [Act.put]
            refine wpUntil_take (i := 2) (v := ?_) rfl (by kernel_rfl) (fun _ _ _ h => h) (Or.inl ⟨by rfl, ?_⟩) hSX ?_
            rotate_left
            · (intro w hSw; obtain ⟨sw1, sw2, sw3, sw4, sw5, sw6⟩ := hSw; go_simp; first | done | with_reducible rfl | exact sw1 | exact sw2 | exact sw3 | exact sw4 | exact sw5 | exact sw6 | (rw [if_pos (by omega)]))
            simp only [Act.put]
            refine wpUntil_take (i := 3) (v := ?_) rfl (by kernel_rfl) (fun _ _ _ h => h) (Or.inl ⟨by rfl, ?_⟩) hSX ?_
            rotate_left
            · (intro w hSw; obtain ⟨sw1, sw2, sw3, sw4, sw5, sw6⟩ := hSw; go_simp; first | done | with_reducible rfl | exact sw1 | exact sw2 | exact sw3 | exact sw4 | exact sw5 | exact sw6 | (rw [if_pos (by omega)]))
            simp only [Act.put]
            refine wpUntil_take (i := 4) (v := ?_) rfl (by kernel_rfl) (fun _ _ _ h => h) (Or.inl ⟨by rfl, ?_⟩) hSX ?_
            rotate_left
            · (intro w hSw; obtain ⟨sw1, sw2, sw3, sw4, sw5, sw6⟩ := hSw; go_simp; first | done | with_reducible rfl | exact sw1 | exact sw2 | exact sw3 | exact sw4 | exact sw5 | exact sw6 | (rw [if_pos (by omega)]))
            simp only [Act.put]
            refine wpUntil_take (i := 5) (v := ?_) rfl (by kernel_rfl) (fun _ _ _ h => h) (Or.inl ⟨by rfl, ?_⟩) hSX ?_
            rotate_left
            · (intro w hSw; obtain ⟨sw1, sw2, sw3, sw4, sw5, sw6⟩ := hSw; go_simp; first | done | with_reducible rfl | exact sw1 | exact sw2 | exact sw3 | exact sw4 | exact sw5 | exact sw6 | (rw [if_pos (by omega)]))
            simp only [Act.put]
            refine wpUntil_take (i := 6) (v := ?_) rfl (by kernel_rfl) (fun _ _ _ h => h) (Or.inl ⟨by rfl, ?_⟩) hSX ?_
            rotate_left
            · (intro w hSw; obtain ⟨sw1, sw2, sw3, sw4, sw5, sw6⟩ := hSw; go_simp; first | done | with_reducible rfl | exact sw1 | exact sw2 | exact sw3 | exact sw4 | exact sw5 | exact sw6 | (rw [if_pos (by omega)]))
            simp only [Act.put]
            refine wpUntil_ready (rs := [7]) (by kernel_rfl) (by simp) ?_
            refine AllU.cons rfl (fun K hK => ?_) AllU.nil
            go_simp
            refine hc.mono ?_
            clear hc
            rintro e X2 ⟨q, cp, rfl, hq1, hq2, hq3, hq4, b2⟩
            obtain ⟨hb3, hmr, hbx, bX, hkj, hSof⟩ := KH.out
            have hpl := hb3.pl
            have bX2 : Below wr.heap.size wr X2 := bX.trans (b2.mono bX.size)
            have hS2 := hSof X2 (fun x hx => bX2.block x (by omega)) (bX2.block p hpw)
            have b3 : Below X2.heap.size X2 (X2.alloc (.cells #[.int .i64 (atR m.log j).kind, .int .i64 (atR m.log j).tx, .int .i64 (atR m.log j).region, .slice (some ⟨q, 0, none⟩) (atR m.log j).sets.length cp] 178)) := (Below.refl _ _).alloc (Nat.le_refl _) _
            have s3 : (X2.alloc (.cells #[.int .i64 (atR m.log j).kind, .int .i64 (atR m.log j).tx, .int .i64 (atR m.log j).region, .slice (some ⟨q, 0, none⟩) (atR m.log j).sets.length cp] 178)).heap.size = X2.heap.size + 1 := by simp
            have bX3 : Below wr.heap.size wr (X2.alloc (.cells #[.int .i64 (atR m.log j).kind, .int .i64 (atR m.log j).tx, .int .i64 (atR m.log j).region, .slice (some ⟨q, 0, none⟩) (atR m.log j).sets.length cp] 178)) := bX2.trans (b3.mono bX2.size)
            have hS3 := hSof (X2.alloc (.cells #[.int .i64 (atR m.log j).kind, .int .i64 (atR m.log j).tx, .int .i64 (atR m.log j).region, .slice (some ⟨q, 0, none⟩) (atR m.log j).sets.length cp] 178)) (fun x hx => bX3.block x (by omega)) (bX3.block p hpw)
            obtain ⟨v', Y, hr, hmr', hgr, hol⟩ := hmr.pushR bX3 (by omega) hpw (atR m.log j) q cp X2.heap.size (by simp; omega) 59 (by go_simp) (by go_simp) (by go_simp) (by go_simp) (AtR.of_block _ _ _ _ (b3.block q hq2) hq4) hq3 (by have := bX.size; omega) (by omega)
            have htk : m.log.take j ++ [(atR m.log j)] = m.log.take (j + 1) := by rw [List.take_add_one, hkj]; rfl
            have hfar : ∀ x, x = p ∨ x < w.heap.size + 2 → Y.heap[x]? = wr.heap[x]? := fun x hx => (hgr.block x (by have := bX3.size; omega) (fun e => by have := hol x e.symm; omega)).trans (bX3.block x (by omega))
            have hS4 := hSof Y (fun x hx => hfar x (by omega)) (hfar p (.inl rfl))
            have hlk : (m.log.take (j + 1)).length = j + 1 := by rw [List.length_take]; omega
            rw [htk, List.length_take, Nat.min_eq_left (by omega)] at hmr'
            obtain ⟨yb, yc, rfl, -⟩ := GrowG.own (hd := hdR) (sz := 4) (fun _ => rfl) hmr'.gR (fun e => by rw [e] at hlk; simp at hlk)
            rw [hlk] at hr hmr'
            have hb3' : C3 w.heap.size p m.alive Y (.slice ak m.copies.length ck) (.slice ar j cr) (.slice a' m.cleared.length c') := hb3.keep (Nat.le_trans bX3.size hgr.size) (hfar (w.heap.size + 1) (.inr (by omega))) (hfar p (.inl rfl))
            have o2 := hb3'.o2
            have fo2 := hb3'.fo 2
            have KE : Hid (C3 w.heap.size p m.alive (Y.setCell ⟨p, 2, none⟩ (.slice (some ⟨yb, 0, none⟩) (j + 1) yc)) (.slice ak m.copies.length ck) (.slice (some ⟨yb, 0, none⟩) (j + 1) yc) (.slice a' m.cleared.length c') ∧ MR (w.heap.size + 2) p (Y.setCell ⟨p, 2, none⟩ (.slice (some ⟨yb, 0, none⟩) (j + 1) yc)) (.slice ak m.copies.length ck) (.slice (some ⟨yb, 0, none⟩) (j + 1) yc) (.slice a' m.cleared.length c') m.copies (m.log.take (j + 1)) m.cleared gk (fun i => if i = j then q else gr i) ∧ Below (w.heap.size + 1) W0 (Y.setCell ⟨p, 2, none⟩ (.slice (some ⟨yb, 0, none⟩) (j + 1) yc))) :=
              ⟨hb3'.setR _, hmr'.set, ((hbx.trans (bX3.mono (by omega))).grown hgr (by have := bX3.size; omega) (fun x e => by have := hol x e; omega)).setCell (p := ⟨p, 2, none⟩) (by show w.heap.size + 1 ≤ p; omega) _⟩
            refine hK.out _ _ (fun _ => hS2) ?_
            clear hK K hb3 hmr hbx bX hkj bX2 b3 s3 bX3 hmr' hgr hol htk hfar hlk hb3' hSX b2 hq1 hq2 hq3 hq4 KH hSof hpl
            refine wpUntil_ready (rs := [8]) (by kernel_rfl) (by simp) ?_
            refine AllU.cons rfl (fun K hK => ?_) AllU.nil
            go_simp
            refine hK.out _ _ (fun _ => hS3) ?_
            clear hK K hS2
            refine wpUntil_ready (rs := [9]) (by kernel_rfl) (by simp) ?_
            refine AllU.cons rfl (fun K hK => ?_) AllU.nil
            refine step_known _ rfl (.tmp 47) (.tmp 54) 59 rfl _ _ _ _ (by first | rfl | simp [Act.eval, Act.put]) (by first | rfl | simp [Act.eval, Act.put]) hr ?_
            refine hK.out _ _ (fun _ => hS4) ?_
            clear hK K hr hS3
            simp only [Act.put]
            refine wpUntil_ready (rs := [10]) (by kernel_rfl) (by simp) ?_
            refine AllU.cons rfl (fun K hK => ?_) AllU.nil
            go_simp
            refine hK.out _ _ (fun _ => hS4) ?_
            clear hK K
            refine wpUntil_ready (rs := [11]) (by kernel_rfl) (by simp) ?_
            refine AllU.cons rfl (fun K hK => ?_) AllU.nil
            go_simp
            refine hK.out _ _ (fun h => absurd rfl h) ?_
            clear hK K
            refine wpUntil_done (by kernel_rfl) ?_ _
            go_wp2
            exact ⟨⟨j + 1, some ⟨yb, 0, none⟩, yc, _, by omega, by simp, KE.out.1, KE.out.2.1, KE.out.2.2⟩, by simp [intOf]; omega⟩
          · obtain rfl : j = m.log.length := by omega
            have hd' : decide ((m.log.length : Int) < (m.log.length : Int)) = false := by simp
            rw [List.take_length] at hmr
            have KF : Hid (MR (w.heap.size + 2) p wr (.slice ak m.copies.length ck) (.slice ar m.log.length cr) (.slice a' m.cleared.length c') m.copies m.log m.cleared gk gr ∧ Below (w.heap.size + 1) W0 wr) := ⟨hmr, hbx⟩
            obtain ⟨r0, r1, r2, r3, fr, o0, o1, o2, o3, fo, pl, pX⟩ := hb3
            have f0 := fr 0
            have f1 := fr 1
            have f2 := fr 2
            have f3 := fr 3
            clear hmr hbx KC2 hj hlt fr fo
            go_wp2
            refine bodyPost_ret (v := .agg #[.bool m.alive, .slice ak m.copies.length ck, .slice ar m.log.length cr, .slice a' m.cleared.length c']) (by simp [results, Tryz.results82, go_sem, r0, r1, r2, r3]) rfl ⟨⟨ak, ck, ar, cr, a', c'⟩, p, gk, gr, rfl, ?_, ?_⟩
            · refine KF.out.1.keep (by simp [World.setCell]) (fun x _ hx _ => ?_)
              exact (Below.heap_setCell _ _ _ _ (by show x ≠ w.heap.size + 1; omega)).trans ((Below.heap_setCell _ _ _ _ (by show x ≠ w.heap.size + 1; omega)).trans ((Below.heap_setCell _ _ _ _ (by show x ≠ w.heap.size + 1; omega)).trans (Below.heap_setCell _ _ _ _ (by show x ≠ w.heap.size + 1; omega))))
            · exact ((((H.out.2.2.1.trans (KF.out.2.mono (by omega))).setCell (p := ⟨_, _, none⟩) (by simp) _).setCell (p := ⟨_, _, none⟩) (by simp) _).setCell (p := ⟨_, _, none⟩) (by simp) _).setCell (p := ⟨_, _, none⟩) (by simp) _
end Go.Proofs.YtnhjgomfkfehgaaGreatDoor
namespace Go.Proofs.YtnhjgomfkfehgaaGreatDoor.tx
open Go.RowKit
set_option maxRecDepth 100000 in
set_option maxHeartbeats 8000000 in
theorem l7Copy_any (w : World) (v : TV) (t : T7) (hr : t.reads.length ≤ 1048576) (hss : t.sets.length ≤ 1048576) (h : SlT w v t) :
    Calls Tryz.prog 83 #[v.val t] w (OAns w t) := by
  obtain ⟨ar, cr, ah, ch⟩ := v
  simp only [TV.val]
  obtain ⟨W1, hW1⟩ : ∃ W1, W1 = w.alloc (.cells #[.int .i64 t.id, .int .i64 t.home, .int .i64 t.phase, .int .i64 t.count, .slice ar t.reads.length cr, .slice ah t.sets.length ch, .int .i64 t.stamp] 56) := ⟨_, rfl⟩
  have z1 : W1.heap.size = w.heap.size + 1 := by rw [hW1]; simp
  have x1 : BT W1 w.heap.size ⟨ar, cr, ah, ch⟩ t := by rw [hW1]; exact BT.box w ⟨ar, cr, ah, ch⟩ t _
  have b1 : Below w.heap.size w W1 := by rw [hW1]; exact (Below.refl _ _).alloc (Nat.le_refl _) _
  obtain ⟨W, hW⟩ : ∃ W2, W2 = W1.alloc (.cells #[.int .i64 0, .int .i64 0, .int .i64 0, .int .i64 0, .slice none 0 0, .slice none 0 0, .int .i64 0] 56) := ⟨_, rfl⟩
  have b2 : Below W1.heap.size W1 W := by rw [hW]; exact (Below.refl _ _).alloc (Nat.le_refl _) _
  have yR : BT W (w.heap.size + 1) ⟨none, 0, none, 0⟩ ⟨0, 0, 0, 0, [], [], 0⟩ := by rw [hW, ← z1]; exact BT.zero W1 _
  have sW : W.heap.size = w.heap.size + 2 := by rw [hW]; simp [z1]
  have yA : BT W w.heap.size ⟨ar, cr, ah, ch⟩ t := x1.later b2
  have bW : Below w.heap.size w W := b1.trans (b2.mono b1.size)
  have bV1 : Below W.heap.size W (W.alloc (.cells #[] 106)) := (Below.refl _ _).alloc (Nat.le_refl _) _
  obtain ⟨a1, c1, Y1, run1, row1, gr1⟩ := copyNo (RowN.made W) t.reads hr 53 ar cr ((h.later (bW.trans (bV1.mono bW.size))).r) bV1.size
  have bY1 : Below W.heap.size W Y1 := bV1.grown gr1 bV1.size (fun q e => by cases e; exact Nat.le_refl _)
  have yA1 : BT Y1 w.heap.size ⟨ar, cr, ah, ch⟩ t := yA.later bY1
  have yR1 := yR.later bY1
  have yA2 : BT (Y1.setCell ⟨w.heap.size, 4, none⟩ (.slice a1 t.reads.length c1)) w.heap.size ⟨a1, c1, ah, ch⟩ t := yA1.set4 a1 c1 t.reads
  have yR2 := yR1.far (p := ⟨w.heap.size, 4, none⟩) (by dsimp only; omega) (.slice a1 t.reads.length c1)
  have bX1 : Below w.heap.size w (Y1.setCell ⟨w.heap.size, 4, none⟩ (.slice a1 t.reads.length c1)) := (bW.trans (bY1.mono bW.size)).setCell (p := ⟨w.heap.size, 4, none⟩) (Nat.le_refl _) _
  have row1' : RowN (Y1.setCell ⟨w.heap.size, 4, none⟩ (.slice a1 t.reads.length c1)) W.heap.size (.slice a1 t.reads.length c1) t.reads := row1.keep (fun q hq _ _ => Below.heap_setCell _ _ _ _ (by show q ≠ w.heap.size; omega))
  have zX1 : (Y1.setCell ⟨w.heap.size, 4, none⟩ (.slice a1 t.reads.length c1)).heap.size = Y1.heap.size := by simp [World.setCell]
  have bV2 : Below (Y1.setCell ⟨w.heap.size, 4, none⟩ (.slice a1 t.reads.length c1)).heap.size (Y1.setCell ⟨w.heap.size, 4, none⟩ (.slice a1 t.reads.length c1)) ((Y1.setCell ⟨w.heap.size, 4, none⟩ (.slice a1 t.reads.length c1)).alloc (.cells #[] 109)) := (Below.refl _ _).alloc (Nat.le_refl _) _
  obtain ⟨a2, c2, Y2, run2, row2, gr2⟩ := copySe (RowS.made (Y1.setCell ⟨w.heap.size, 4, none⟩ (.slice a1 t.reads.length c1))) t.sets hss 54 ah ch ((h.later (bX1.trans (bV2.mono bX1.size))).s) bV2.size
  have bY2 : Below (Y1.setCell ⟨w.heap.size, 4, none⟩ (.slice a1 t.reads.length c1)).heap.size (Y1.setCell ⟨w.heap.size, 4, none⟩ (.slice a1 t.reads.length c1)) Y2 := bV2.grown gr2 bV2.size (fun q e => by cases e; exact Nat.le_refl _)
  have yA3 : BT Y2 w.heap.size ⟨a1, c1, ah, ch⟩ t := yA2.later bY2
  have yR3 := yR2.later bY2
  have yA4 : BT (Y2.setCell ⟨w.heap.size, 5, none⟩ (.slice a2 t.sets.length c2)) w.heap.size ⟨a1, c1, a2, c2⟩ t := yA3.set5 a2 c2 t.sets
  have yR4 := yR3.far (p := ⟨w.heap.size, 5, none⟩) (by dsimp only; omega) (.slice a2 t.sets.length c2)
  have bX2 : Below w.heap.size w (Y2.setCell ⟨w.heap.size, 5, none⟩ (.slice a2 t.sets.length c2)) := (bX1.trans (bY2.mono bX1.size)).setCell (p := ⟨w.heap.size, 5, none⟩) (Nat.le_refl _) _
  have row1'' : RowN (Y2.setCell ⟨w.heap.size, 5, none⟩ (.slice a2 t.sets.length c2)) W.heap.size (.slice a1 t.reads.length c1) t.reads := (row1'.later bY2).keep (fun q hq _ _ => Below.heap_setCell _ _ _ _ (by show q ≠ w.heap.size; omega))
  have hs1 : W.heap.size ≤ (Y1.setCell ⟨w.heap.size, 4, none⟩ (.slice a1 t.reads.length c1)).heap.size := by rw [zX1]; exact bY1.size
  have row2' : RowS (Y2.setCell ⟨w.heap.size, 5, none⟩ (.slice a2 t.sets.length c2)) (Y1.setCell ⟨w.heap.size, 4, none⟩ (.slice a1 t.reads.length c1)).heap.size (.slice a2 t.sets.length c2) t.sets := row2.keep (fun q hq _ _ => Below.heap_setCell _ _ _ _ (by show q ≠ w.heap.size; omega))
  have yR5 := yR4.put ⟨a1, c1, a2, c2⟩ t
  have p4 := yA.c4
  have k4 := yA1.c4
  have k4f := yA1.fz 4
  have p5 := (yA2.later bV2).c5
  have k5 := yA3.c5
  have k5f := yA3.fz 5
  dsimp only at p4 k4 p5 k5
  obtain ⟨o0, o1, o2, o3, o4, o5, o6, -, -⟩ := yA4
  have KR := yR4
  have hlt1 : ∀ q, (Value.slice a1 t.reads.length c1).ownBlock = some q → W.heap.size ≤ q ∧ q < (Y1.setCell ⟨w.heap.size, 4, none⟩ (.slice a1 t.reads.length c1)).heap.size := fun q e => row1'.lt e
  have KO : OT (Y2.setCell ⟨w.heap.size, 5, none⟩ (.slice a2 t.sets.length c2)) w.heap.size ⟨a1, c1, a2, c2⟩ t (fun q => (Value.slice a1 t.reads.length c1).ownBlock = some q) (fun q => (Value.slice a2 t.sets.length c2).ownBlock = some q) := by
    obtain ⟨_, _, e1, o1⟩ := row1''.form
    obtain ⟨_, _, e2, o2⟩ := row2'.form
    cases e1; cases e2
    exact ⟨o1, o2, fun q h1 h2 => by have := (hlt1 q h1).2; have := (row2'.lt h2).1; omega, fun q h1 => ⟨by have := (row1''.lt h1).1; omega, (row1''.lt h1).2⟩, fun q h1 => ⟨by have := (row2'.lt h1).1; omega, (row2'.lt h1).2⟩⟩
  have KH : Hid (OT (Y2.setCell ⟨w.heap.size, 5, none⟩ (.slice a2 t.sets.length c2)) w.heap.size ⟨a1, c1, a2, c2⟩ t (fun q => (Value.slice a1 t.reads.length c1).ownBlock = some q) (fun q => (Value.slice a2 t.sets.length c2).ownBlock = some q) ∧ Below w.heap.size w (Y2.setCell ⟨w.heap.size, 5, none⟩ (.slice a2 t.sets.length c2)) ∧ (∀ q, OfT (fun q => (Value.slice a1 t.reads.length c1).ownBlock = some q) (fun q => (Value.slice a2 t.sets.length c2).ownBlock = some q) q → w.heap.size + 2 ≤ q)) := ⟨KO, bX2, fun q hq => by
    rcases hq with hq | hq
    · have := (row1''.lt hq).1; omega
    · have := (row2'.lt hq).1; omega⟩
  simp only [putT] at yR5
  obtain ⟨u0, u1, u2, u3, u4, u5, u6, -, -⟩ := yR5
  have KX : Hid (((Y2.setCell ⟨w.heap.size, 5, none⟩ (.slice a2 t.sets.length c2)).cell? ⟨w.heap.size, 0, none⟩ = some (.int .i64 t.id) ∧ (Y2.setCell ⟨w.heap.size, 5, none⟩ (.slice a2 t.sets.length c2)).cell? ⟨w.heap.size, 1, none⟩ = some (.int .i64 t.home) ∧ (Y2.setCell ⟨w.heap.size, 5, none⟩ (.slice a2 t.sets.length c2)).cell? ⟨w.heap.size, 2, none⟩ = some (.int .i64 t.phase) ∧ (Y2.setCell ⟨w.heap.size, 5, none⟩ (.slice a2 t.sets.length c2)).cell? ⟨w.heap.size, 3, none⟩ = some (.int .i64 t.count) ∧ (Y2.setCell ⟨w.heap.size, 5, none⟩ (.slice a2 t.sets.length c2)).cell? ⟨w.heap.size, 4, none⟩ = some (.slice a1 t.reads.length c1) ∧ (Y2.setCell ⟨w.heap.size, 5, none⟩ (.slice a2 t.sets.length c2)).cell? ⟨w.heap.size, 5, none⟩ = some (.slice a2 t.sets.length c2) ∧ (Y2.setCell ⟨w.heap.size, 5, none⟩ (.slice a2 t.sets.length c2)).cell? ⟨w.heap.size, 6, none⟩ = some (.int .i64 t.stamp)) ∧ BT (Y2.setCell ⟨w.heap.size, 5, none⟩ (.slice a2 t.sets.length c2)) (w.heap.size + 1) ⟨none, 0, none, 0⟩ ⟨0, 0, 0, 0, [], [], 0⟩) := ⟨⟨o0, o1, o2, o3, o4, o5, o6⟩, KR⟩
  have KU := hidOf (And.intro u0 (And.intro u1 (And.intro u2 (And.intro u3 (And.intro u4 (And.intro u5 u6))))))
  have K1 := hidOf (And.intro k4 (And.intro k4f p5))
  have K2 := hidOf (And.intro k5 k5f)
  have R1 := hidOf run1
  have R2 := hidOf run2
  rw [hW1] at hW
  have sW2 : W.heap.size = w.heap.size + 1 + 1 := by omega
  clear sW
  clear hW1 x1 b1 b2 z1 yA yR bW bV1 bY1 row1 gr1 yA1 yR1 yA2 yR2 bX1 row1' bV2 row2 gr2 bY2 yA3 yR3 bX2 row1'' row2' hs1 hlt1 h KO KR o0 o1 o2 o3 o4 o5 o6 u0 u1 u2 u3 u4 u5 u6 k4 k4f p5 k5 k5f run1 run2
  go_enter Tryz.func83, Tryz.ntmps83
  have r1 := R1.out
  have r2 := R2.out
  rw [sW2] at r1
  rw [zX1] at r2
  rw [hW] at r1
  obtain ⟨k4, k4f, p5⟩ := K1.out
  obtain ⟨k5, k5f⟩ := K2.out
  obtain ⟨⟨o0, o1, o2, o3, o4, o5, o6⟩, ⟨r0, r1', r2', r3, r4, r5, r6, fr, -⟩⟩ := KX.out
  have f0 := fr 0
  have f1 := fr 1
  have f2 := fr 2
  have f3 := fr 3
  have f4 := fr 4
  have f5 := fr 5
  have f6 := fr 6
  clear fr K1 K2 KX R1 R2 hW p4 zX1 sW2
  go_wp2_with (first | (at_builtin; refine append_known _ rfl (.tmp 3) (.tmp 5) 53 rfl _ _ _ _ rfl rfl r1 ?_) | (at_builtin; refine append_known _ rfl (.tmp 8) (.tmp 10) 54 rfl _ _ _ _ rfl rfl r2 ?_))
  obtain ⟨u0, u1, u2, u3, u4, u5, u6⟩ := KU.out
  refine bodyPost_ret (v := .agg #[.int .i64 t.id, .int .i64 t.home, .int .i64 t.phase, .int .i64 t.count, .slice a1 t.reads.length c1, .slice a2 t.sets.length c2, .int .i64 t.stamp]) (by simp [results, Tryz.results83, go_sem, u0, u1, u2, u3, u4, u5, u6]) rfl ?_
  obtain ⟨ot, bX, q2⟩ := KH.out
  refine ⟨a1, c1, a2, c2, fun q => (Value.slice a1 t.reads.length c1).ownBlock = some q, fun q => (Value.slice a2 t.sets.length c2).ownBlock = some q, rfl, ?_, ?_⟩
  · exact ot.keep (by simp [World.setCell]) (fun q _ hq => putT_block (s := w.heap.size + 1) (v := ⟨a1, c1, a2, c2⟩) (t := t) (by have := q2 q hq; omega))
  · exact putT_below (s := w.heap.size + 1) (v := ⟨a1, c1, a2, c2⟩) (t := t) bX (by omega)
end Go.Proofs.YtnhjgomfkfehgaaGreatDoor.tx
namespace Go.Proofs.YtnhjgomfkfehgaaGreatDoor
open Go.RowKit
open Go.Sort (grow)
def Sp (w : World) (A : List Value) (b o : Nat) (cs : List Value) (X : World) : Prop := Bx X w.heap.size A ∧ At X b o cs ∧ b < w.heap.size
theorem Sp.of {w : World} {A : List Value} {b o : Nat} {cs : List Value} {X Y : World} (h : Sp w A b o cs X) (hs : X.heap.size ≤ Y.heap.size) (hk : ∀ q, q < w.heap.size + 3 → Y.heap[q]? = X.heap[q]?) : Sp w A b o cs Y := ⟨h.1.of_block (hk _ (by omega)) hs, h.2.1.of_block (hk b (by have := h.2.2; omega)), h.2.2⟩
theorem Sp.later {w : World} {A : List Value} {b o : Nat} {cs : List Value} {X Y : World} (h : Sp w A b o cs X) (hb : Below X.heap.size X Y) : Sp w A b o cs Y := ⟨h.1.later hb, h.2.1.of_block (hb.block b (by have := h.2.2; have := h.1.2.2; omega)), h.2.2⟩
set_option maxRecDepth 100000 in
set_option maxHeartbeats 2500000 in
theorem l8Copy_any (w : World) (a1 : Option Addr) (c1 : Nat) (a2 : Option Addr) (c2 : Nat) (a3 : Option Addr) (c3 : Nat) (k : C6) (hk : clusterB k = true) (h : KCl.Rd w a1 c1 a2 c2 a3 c3 k) :
    Calls Tryz.prog 33 #[.agg #[.int .i64 k.config, .int .i64 k.clock, .slice a1 k.places.length c1, .slice a2 k.machines.length c2, .slice a3 k.txs.length c3, .bool k.lost]] w (ClAns w k) := by
  have H : Hid (CSm k ∧ KCl.Rd w a1 c1 a2 c2 a3 c3 k) := ⟨CSm.of hk, h⟩
  clear hk h
  obtain ⟨W0, hW0⟩ : ∃ X, X = ((w.alloc (.cells #[.int .i64 k.config, .int .i64 k.clock, .slice a1 k.places.length c1, .slice a2 k.machines.length c2, .slice a3 k.txs.length c3, .bool k.lost] 32)).alloc (.cells #[.int .i64 0, .int .i64 0, .slice none 0 0, .slice none 0 0, .slice none 0 0, .bool false] 32)).alloc (.cells #[.int .i64 k.config, .int .i64 k.clock, .slice none 0 0, .slice none 0 0, .slice none 0 0, .bool k.lost] 32) := ⟨_, rfl⟩
  have S0 : Hid (CSt w [.int .i64 k.config, .int .i64 k.clock, .slice a1 k.places.length c1, .slice a2 k.machines.length c2, .slice a3 k.txs.length c3, .bool k.lost] [.int .i64 0, .int .i64 0, .slice none 0 0, .slice none 0 0, .slice none 0 0, .bool false] k W0 (.slice none 0 0) (.slice none 0 0) (.slice none 0 0) [] gnone [] gnone [] gnone) := by
    obtain ⟨U1, hU1⟩ : ∃ X, X = w.alloc (.cells #[.int .i64 k.config, .int .i64 k.clock, .slice a1 k.places.length c1, .slice a2 k.machines.length c2, .slice a3 k.txs.length c3, .bool k.lost] 32) := ⟨_, rfl⟩
    have x1 : Bx U1 w.heap.size [.int .i64 k.config, .int .i64 k.clock, .slice a1 k.places.length c1, .slice a2 k.machines.length c2, .slice a3 k.txs.length c3, .bool k.lost] := by rw [hU1]; exact Bx.made w [.int .i64 k.config, .int .i64 k.clock, .slice a1 k.places.length c1, .slice a2 k.machines.length c2, .slice a3 k.txs.length c3, .bool k.lost] _
    have b1 : Below w.heap.size w U1 := by rw [hU1]; exact (Below.refl _ _).alloc (Nat.le_refl _) _
    have z1 : U1.heap.size = w.heap.size + 1 := by rw [hU1]; simp
    obtain ⟨U2, hU2⟩ : ∃ X, X = U1.alloc (.cells #[.int .i64 0, .int .i64 0, .slice none 0 0, .slice none 0 0, .slice none 0 0, .bool false] 32) := ⟨_, rfl⟩
    have x2 : Bx U2 U1.heap.size [.int .i64 0, .int .i64 0, .slice none 0 0, .slice none 0 0, .slice none 0 0, .bool false] := by rw [hU2]; exact Bx.made U1 [.int .i64 0, .int .i64 0, .slice none 0 0, .slice none 0 0, .slice none 0 0, .bool false] _
    have b2 : Below U1.heap.size U1 U2 := by rw [hU2]; exact (Below.refl _ _).alloc (Nat.le_refl _) _
    have z2 : U2.heap.size = U1.heap.size + 1 := by rw [hU2]; simp
    have x3 : Bx W0 U2.heap.size [.int .i64 k.config, .int .i64 k.clock, .slice none 0 0, .slice none 0 0, .slice none 0 0, .bool k.lost] := by rw [hW0, hU2, hU1]; exact Bx.made _ [.int .i64 k.config, .int .i64 k.clock, .slice none 0 0, .slice none 0 0, .slice none 0 0, .bool k.lost] _
    have b3 : Below U2.heap.size U2 W0 := by rw [hW0, hU2, hU1]; exact (Below.refl _ _).alloc (Nat.le_refl _) _
    rw [show U2.heap.size = w.heap.size + 2 by omega] at x3
    rw [show U1.heap.size = w.heap.size + 1 by omega] at x2
    exact ⟨(x1.later b2).later b3, x2.later b3, x3, CL3.nil _ _ _, bstep (bstep b1 b2) b3⟩
  have p2 := S0.out.arg.1 2 _ rfl
  rw [hW0] at p2
  go_enter Tryz.func33, Tryz.ntmps33
  go_wp2
  rw [← hW0]
  rw [← hW0] at p2
  clear hW0 p2
  go_loopw [4] (fun v wr => ∃ (j : Nat) (bP : Option Addr) (dP : Nat) (ps : List ((Nat × Nat) × List Int)) (gp : Nat → Nat → Prop), j ≤ k.places.length ∧ v = .int .i64 j ∧ ps.map (·.2) = k.places.take j ∧ CSt w [.int .i64 k.config, .int .i64 k.clock, .slice a1 k.places.length c1, .slice a2 k.machines.length c2, .slice a3 k.txs.length c3, .bool k.lost] [.int .i64 0, .int .i64 0, .slice none 0 0, .slice none 0 0, .slice none 0 0, .bool false] k wr (.slice bP j dP) (.slice none 0 0) (.slice none 0 0) ps gp [] gnone [] gnone) (fun v _ => k.places.length - (intOf v).toNat)
  case atStart => exact ⟨0, none, 0, [], gnone, Nat.zero_le _, rfl, by simp, S0.out⟩
  case round =>
    obtain ⟨j, bP, dP, ps, gp, hj, rfl, hmp, hst⟩ := hrel
    have hln : k.places.length ≤ 1000 := by have := H.out.1.p; omega
    have p2 := hst.arg.1 2 _ rfl
    have p3 := hst.arg.1 3 _ rfl
    have p4 := hst.arg.1 4 _ rfl
    by_cases hlt : j < k.places.length
    · skip
      have hat := atP_of hlt
      have hlp : ps.length = j := by have := congrArg List.length hmp; simpa [Nat.min_eq_left hj] using this
      have hrd := H.out.2.later hst.bel
      obtain ⟨_, hsl⟩ := hrd.p
      rcases hsl with h0 | ⟨b, off, rfl, hb, hsl⟩
      · omega
      obtain ⟨z0, z1, e0, ⟨_, hzs⟩, hcp⟩ := hsl j _ hat
      obtain ⟨hz1, hz3⟩ := H.out.1.ps _ (List.mem_of_getElem? hat)
      rcases hzs with h0 | ⟨zb, zo, rfl, hzb, hzn⟩
      · omega
      have es0 := e0
      clear hsl hrd
      have hel : At wr b (off + j) [.slice (some ⟨zb, zo, none⟩) (atP k.places j).length z1] := fun i u hu => by
        rcases i with _ | i
        · simp at hu; subst hu; exact e0
        · simp at hu
      have hbw : b < w.heap.size := by
        rcases H.out.2.p.2 with h0 | ⟨b', off', e', hb', _⟩
        · omega
        · cases e'; exact hb'
      have hSX : (fun X : World => Bx X (w.heap.size + 2) [.int .i64 k.config, .int .i64 k.clock, (.slice bP j dP), (.slice none 0 0), (.slice none 0 0), .bool k.lost] ∧ Sp w [.int .i64 k.config, .int .i64 k.clock, .slice (some ⟨b, off, none⟩) k.places.length c1, .slice a2 k.machines.length c2, .slice a3 k.txs.length c3, .bool k.lost] b (off + j) [.slice (some ⟨zb, zo, none⟩) (atP k.places j).length z1] X) wr.drew := ⟨hst.own.later (Below.refl _ _).drew, ⟨hst.arg.later (Below.refl _ _).drew, hel.of_block rfl, hbw⟩⟩
      have HD : Hid (Below wr.heap.size wr wr.drew) := (Below.refl _ _).drew
      have jn : (j : Int) < (k.places.length : Int) := by omega
      have HN : Hid (NumsAt wr.drew zb zo (atP k.places j) ∧ zb < wr.drew.heap.size) := ⟨hzn.below ((Below.refl _ _).drew) hzb, hzb⟩
      have HS := hidOf hst
      have HM : Hid (ps.map (·.2) = k.places.take j ∧ ps.length = j ∧ k.places[j]? = some (atP k.places j)) := ⟨hmp, hlp, hat⟩
      clear hst hmp hlp hat hel hbw hzn hzb hcp e0 es0
      go_wp2_with fail
      refine wp_region_until 14 (fun X : World => Bx X (w.heap.size + 2) [.int .i64 k.config, .int .i64 k.clock, (.slice bP j dP), (.slice none 0 0), (.slice none 0 0), .bool k.lost] ∧ Sp w [.int .i64 k.config, .int .i64 k.clock, .slice (some ⟨b, off, none⟩) k.places.length c1, .slice a2 k.machines.length c2, .slice a3 k.txs.length c3, .bool k.lost] b (off + j) [.slice (some ⟨zb, zo, none⟩) (atP k.places j).length z1] X) (by kernel_rfl) ?_
      generalize wr.drew = XD at *
      refine wpUntil_take (i := 0) (v := ?_) rfl (by kernel_rfl) (fun _ _ _ h => h) (Or.inl ⟨by rfl, ?_⟩) hSX ?_
      rotate_left
      · (intro w hSw; go_simp; first | done | with_reducible rfl)
      simp only [Act.put]
      refine wpUntil_take (i := 1) (v := ?_) rfl (by kernel_rfl) (fun _ _ _ h => h) (Or.inl ⟨by rfl, ?_⟩) hSX ?_
      rotate_left
      · (intro w hSw; have q := hSw.1.1 2 _ rfl; go_simp; first | done | with_reducible rfl | exact q)
      simp only [Act.put]
      refine wpUntil_take (i := 3) (v := ?_) rfl (by kernel_rfl) (fun _ _ _ h => h) (Or.inl ⟨by rfl, ?_⟩) hSX ?_
      rotate_left
      · (intro w hSw; go_simp; first | done | with_reducible rfl)
      simp only [Act.put]
      refine wpUntil_take (i := 4) (v := ?_) rfl (by kernel_rfl) (fun _ _ _ h => h) (Or.inl ⟨by rfl, ?_⟩) hSX ?_
      rotate_left
      · (intro w hSw; have q := hSw.2.1.1 2 _ rfl; go_simp; first | done | with_reducible rfl | exact q)
      simp only [Act.put]
      refine wpUntil_take (i := 5) (v := ?_) rfl (by kernel_rfl) (fun _ _ _ h => h) (Or.inl ⟨by rfl, ?_⟩) hSX ?_
      rotate_left
      · (intro w hSw; go_simp; first | done | with_reducible rfl)
      simp only [Act.put]
      refine wpUntil_take (i := 6) (v := ?_) rfl (by kernel_rfl) (fun _ _ _ h => h) (Or.inl ⟨by rfl, ?_⟩) hSX ?_
      rotate_left
      · (intro w hSw; go_simp; first | done | with_reducible rfl | (rw [if_pos (by omega)]))
      simp only [Act.put]
      refine wpUntil_take (i := 7) (v := ?_) rfl (by kernel_rfl) (fun _ _ _ h => h) (Or.inl ⟨by rfl, ?_⟩) hSX ?_
      rotate_left
      · (intro w hSw; go_simp; first | done | with_reducible rfl)
      simp only [Act.put]
      refine wpUntil_take (i := 8) (v := ?_) rfl (by kernel_rfl) (fun _ _ _ h => h) (Or.inl ⟨by rfl, ?_⟩) hSX ?_
      rotate_left
      · (intro w hSw; have q0 : w.cell? ⟨b, off + j, none⟩ = some (.slice (some ⟨zb, zo, none⟩) (atP k.places j).length z1) := hSw.2.2.1 0 _ rfl; go_simp; first | done | with_reducible rfl | rfl)
      simp only [Act.put]
      refine wpUntil_ready (rs := [2]) (by kernel_rfl) (by simp) ?_
      refine AllU.cons rfl (fun K hK => ?_) AllU.nil
      go_simp
      obtain ⟨XE, hXE⟩ : ∃ X, X = XD.alloc (.cells #[] 2) := ⟨_, rfl⟩
      have bE : Below XD.heap.size XD XE := by rw [hXE]; exact (Below.refl _ _).alloc (Nat.le_refl _) _
      have hSE : (fun X : World => Bx X (w.heap.size + 2) [.int .i64 k.config, .int .i64 k.clock, (.slice bP j dP), (.slice none 0 0), (.slice none 0 0), .bool k.lost] ∧ Sp w [.int .i64 k.config, .int .i64 k.clock, .slice (some ⟨b, off, none⟩) k.places.length c1, .slice a2 k.machines.length c2, .slice a3 k.txs.length c3, .bool k.lost] b (off + j) [.slice (some ⟨zb, zo, none⟩) (atP k.places j).length z1] X) XE := ⟨hSX.1.later bE, hSX.2.later bE⟩
      obtain ⟨v2, X2, hrA, hoA, hgA, hlA⟩ := on_append XE XD.heap.size _ [] (atP k.places j) zb zo z1 60 (by rw [hXE]; exact ON.empty XD) (HN.out.1.below bE HN.out.2) (by simp; omega) bE.size
      rw [List.nil_append] at hoA
      have b2 : Below XD.heap.size XD X2 := bE.grown hgA bE.size (fun k h => by cases h; exact Nat.le_refl _)
      obtain ⟨q, cp, rfl⟩ : ∃ g cp, v2 = .slice (some ⟨g, 0, none⟩) (atP k.places j).length cp := by
        rcases hoA.form with ⟨rfl, _⟩ | ⟨g, cp, e, _⟩
        · rcases hlA with h | h <;> cases h
        · exact ⟨g, cp, e⟩
      rw [← hXE]
      refine hK.out _ _ (fun _ => hSE) ?_
      clear hK K bE hgA hlA hXE
      refine wpUntil_ready (rs := [9]) (by kernel_rfl) (by simp) ?_
      refine AllU.cons rfl (fun K hK => ?_) AllU.nil
      refine step_known _ rfl (.tmp 23) (.tmp 29) 60 rfl _ _ _ _ (by first | rfl | simp [Act.eval, Act.put]) (by first | rfl | simp [Act.eval, Act.put]) hrA ?_
      clear hrA
      have hO : KPk.Ow X2 wr.heap.size (q, cp) (atP k.places j) (fun x => x = q) := KPk.low hoA.kp HD.out.size
      clear hoA hSE HN
      have HD' : Hid (Below wr.heap.size wr XD ∧ True) := ⟨HD.out, trivial⟩
      have HD := HD'
      clear HD'
      have bX2 : Below wr.heap.size wr X2 := bstep HD.out.1 b2
      have hS2 : (fun X : World => Bx X (w.heap.size + 2) [.int .i64 k.config, .int .i64 k.clock, (.slice bP j dP), (.slice none 0 0), (.slice none 0 0), .bool k.lost] ∧ Sp w [.int .i64 k.config, .int .i64 k.clock, .slice (some ⟨b, off, none⟩) k.places.length c1, .slice a2 k.machines.length c2, .slice a3 k.txs.length c3, .bool k.lost] b (off + j) [.slice (some ⟨zb, zo, none⟩) (atP k.places j).length z1] X) X2 := ⟨hSX.1.later b2, hSX.2.later b2⟩
      obtain ⟨X3, hX3⟩ : ∃ X, X = X2.alloc (.cells #[(.slice (some ⟨q, 0, none⟩) (atP k.places j).length cp)] 127) := ⟨_, rfl⟩
      have b3 : Below X2.heap.size X2 X3 := by rw [hX3]; exact (Below.refl _ _).alloc (Nat.le_refl _) _
      have x3 : Bx X3 X2.heap.size [(.slice (some ⟨q, 0, none⟩) (atP k.places j).length cp)] := by rw [hX3]; exact Bx.made X2 [(.slice (some ⟨q, 0, none⟩) (atP k.places j).length cp)] _
      have hS3 : (fun X : World => Bx X (w.heap.size + 2) [.int .i64 k.config, .int .i64 k.clock, (.slice bP j dP), (.slice none 0 0), (.slice none 0 0), .bool k.lost] ∧ Sp w [.int .i64 k.config, .int .i64 k.clock, .slice (some ⟨b, off, none⟩) k.places.length c1, .slice a2 k.machines.length c2, .slice a3 k.txs.length c3, .bool k.lost] b (off + j) [.slice (some ⟨zb, zo, none⟩) (atP k.places j).length z1] X) X3 := ⟨hS2.1.later b3, hS2.2.later b3⟩
      obtain ⟨v', Y, hr, hcs, hob, hfar, hsz, a', c', rfl⟩ := HS.out.pushP (bstep bX2 b3) (q, cp) (atP k.places j) (fun x => x = q) X2.heap.size (by rw [HM.out.2.1]; omega) 28 x3.1 (KPk.keep hO b3.size (fun q hq => b3.block q (KPk.of hO hq).2))
      have hS4 : (fun X : World => Bx X (w.heap.size + 2) [.int .i64 k.config, .int .i64 k.clock, (.slice bP j dP), (.slice none 0 0), (.slice none 0 0), .bool k.lost] ∧ Sp w [.int .i64 k.config, .int .i64 k.clock, .slice (some ⟨b, off, none⟩) k.places.length c1, .slice a2 k.machines.length c2, .slice a3 k.txs.length c3, .bool k.lost] b (off + j) [.slice (some ⟨zb, zo, none⟩) (atP k.places j).length z1] X) Y := ⟨hob, hS3.2.of hsz (fun q hq => hfar q (.inl hq))⟩
      have HE : Hid ((ps ++ [((q, cp), atP k.places j)]).map (·.2) = k.places.take (j + 1)) := by unfold Hid; rw [List.map_append, HM.out.1]; exact take_snoc HM.out.2.2
      rw [HM.out.2.1] at hr hcs
      have KE := hidOf hcs
      refine hK.out _ _ (fun _ => hS2) ?_
      clear hK K b2 bX2 b3 x3 hcs hob hfar hsz hO hSX
      refine wpUntil_take (i := 10) (v := ?_) rfl (by kernel_rfl) (fun _ _ _ h => h) (Or.inl ⟨by rfl, ?_⟩) hS2 ?_
      rotate_left
      · (intro w hSw; go_simp; first | done | with_reducible rfl)
      simp only [Act.put]
      refine wpUntil_ready (rs := [11]) (by kernel_rfl) (by simp) ?_
      refine AllU.cons rfl (fun K hK => ?_) AllU.nil
      go_simp
      rw [← hX3]
      refine hK.out _ _ (fun _ => hS3) ?_
      clear hK K hS2
      refine wpUntil_ready (rs := [12]) (by kernel_rfl) (by simp) ?_
      refine AllU.cons rfl (fun K hK => ?_) AllU.nil
      refine step_known _ rfl (.tmp 22) (.tmp 32) 28 rfl _ _ _ _ (by first | rfl | simp [Act.eval, Act.put]) (by first | rfl | simp [Act.eval, Act.put]) hr ?_
      refine hK.out _ _ (fun _ => hS4) ?_
      clear hK K hr hS3 hX3
      simp only [Act.put]
      refine wpUntil_ready (rs := [13]) (by kernel_rfl) (by simp) ?_
      refine AllU.cons rfl (fun K hK => ?_) AllU.nil
      go_simp
      refine hK.out _ _ (fun _ => hS4) ?_
      clear hK K
      refine wpUntil_ready (rs := [14]) (by kernel_rfl) (by simp) ?_
      refine AllU.cons rfl (fun K hK => ?_) AllU.nil
      have o2 := hS4.1.1 2 _ rfl
      have fo2 := hS4.1.2.1 2
      go_simp
      refine hK.out _ _ (fun h => absurd rfl h) ?_
      clear hK K
      refine wpUntil_done (by kernel_rfl) ?_ _
      go_wp2
      exact ⟨⟨j + 1, a', c', _, _, by omega, by simp, HE.out, KE.out⟩, by simp [intOf]; omega⟩
    · obtain rfl : k.places.length = j := by omega
      have hd : decide ((k.places.length : Int) < (k.places.length : Int)) = false := by simp
      rw [List.take_length] at hmp
      have EP : Hid (ps.map (·.2) = k.places) := hmp
      have S1 := hidOf hst
      clear hmp hst hj hlt hln
      go_wp2
      clear p2 p3 p4
      generalize wr = WP at *
      go_loopw [5] (fun v wr => ∃ (j : Nat) (bM : Option Addr) (dM : Nat) (ms : List ((MV) × M4)) (gm : Nat → Nat → Prop), j ≤ k.machines.length ∧ v = .int .i64 j ∧ ms.map (·.2) = k.machines.take j ∧ CSt w [.int .i64 k.config, .int .i64 k.clock, .slice a1 k.places.length c1, .slice a2 k.machines.length c2, .slice a3 k.txs.length c3, .bool k.lost] [.int .i64 0, .int .i64 0, .slice none 0 0, .slice none 0 0, .slice none 0 0, .bool false] k wr (.slice bP k.places.length dP) (.slice bM j dM) (.slice none 0 0) ps gp ms gm [] gnone) (fun v _ => k.machines.length - (intOf v).toNat)
      case atStart => exact ⟨0, none, 0, [], gnone, Nat.zero_le _, rfl, by simp, S1.out⟩
      case round =>
        obtain ⟨j, bM, dM, ms, gm, hj, rfl, hmp, hst⟩ := hrel
        have hln : k.machines.length ≤ 1000 := by have := H.out.1.m; omega
        have p2 := hst.arg.1 2 _ rfl
        have p3 := hst.arg.1 3 _ rfl
        have p4 := hst.arg.1 4 _ rfl
        by_cases hlt : j < k.machines.length
        · skip
          have hat := atM_of hlt
          have hlp : ms.length = j := by have := congrArg List.length hmp; simpa [Nat.min_eq_left hj] using this
          have hrd := H.out.2.later hst.bel
          rcases hrd.m with h0 | ⟨b, off, rfl, hb, hrd'⟩
          · rw [h0] at hlt; simp at hlt
          obtain ⟨⟨m0, m1, m2, m3, m4, m5⟩, hel, hsd⟩ := hrd' j _ hat
          have es0 : wr.cell? ⟨b, off + j * 4, none⟩ = some (.bool (atM k.machines j).alive) := hel 0 _ rfl
          have es1 : wr.cell? ⟨b, off + j * 4 + 1, none⟩ = some (.slice m0 (atM k.machines j).copies.length m1) := hel 1 _ rfl
          have es2 : wr.cell? ⟨b, off + j * 4 + 2, none⟩ = some (.slice m2 (atM k.machines j).log.length m3) := hel 2 _ rfl
          have es3 : wr.cell? ⟨b, off + j * 4 + 3, none⟩ = some (.slice m4 (atM k.machines j).cleared.length m5) := hel 3 _ rfl
          clear hrd' hrd hel
          have hel : At wr b (off + j * 4) [.bool (atM k.machines j).alive, .slice m0 (atM k.machines j).copies.length m1, .slice m2 (atM k.machines j).log.length m3, .slice m4 (atM k.machines j).cleared.length m5] := fun i u hu => by
            rcases i with _ | _ | _ | _ | i
            · simp at hu; subst hu; exact es0
            · simp at hu; subst hu; exact es1
            · simp at hu; subst hu; exact es2
            · simp at hu; subst hu; exact es3
            · simp at hu
          have hbw : b < w.heap.size := by
            rcases H.out.2.m with h0 | ⟨b', off', e', hb', _⟩
            · rw [h0] at hlt; simp at hlt
            · cases e'; exact hb'
          have hSX : (fun X : World => Bx X (w.heap.size + 2) [.int .i64 k.config, .int .i64 k.clock, (.slice bP k.places.length dP), (.slice bM j dM), (.slice none 0 0), .bool k.lost] ∧ Sp w [.int .i64 k.config, .int .i64 k.clock, .slice a1 k.places.length c1, .slice (some ⟨b, off, none⟩) k.machines.length c2, .slice a3 k.txs.length c3, .bool k.lost] b (off + j * 4) [.bool (atM k.machines j).alive, .slice m0 (atM k.machines j).copies.length m1, .slice m2 (atM k.machines j).log.length m3, .slice m4 (atM k.machines j).cleared.length m5] X) wr.drew := ⟨hst.own.later (Below.refl _ _).drew, ⟨hst.arg.later (Below.refl _ _).drew, hel.of_block rfl, hbw⟩⟩
          have HD : Hid (Below wr.heap.size wr wr.drew) := (Below.refl _ _).drew
          have jn : (j : Int) < (k.machines.length : Int) := by omega
          have hcl := l6Copy_any wr.drew ⟨m0, m1, m2, m3, m4, m5⟩ (atM k.machines j) (H.out.1.ms _ (List.mem_of_getElem? hat)) (SlM.later hsd (Below.refl _ _).drew)
          simp only [MV.val] at hcl
          have HS := hidOf hst
          have HM : Hid (ms.map (·.2) = k.machines.take j ∧ ms.length = j ∧ k.machines[j]? = some (atM k.machines j)) := ⟨hmp, hlp, hat⟩
          clear hst hmp hlp hat hel hbw hsd es0 es1 es2 es3
          go_wp2_with fail
          refine wp_region_until 11 (fun X : World => Bx X (w.heap.size + 2) [.int .i64 k.config, .int .i64 k.clock, (.slice bP k.places.length dP), (.slice bM j dM), (.slice none 0 0), .bool k.lost] ∧ Sp w [.int .i64 k.config, .int .i64 k.clock, .slice a1 k.places.length c1, .slice (some ⟨b, off, none⟩) k.machines.length c2, .slice a3 k.txs.length c3, .bool k.lost] b (off + j * 4) [.bool (atM k.machines j).alive, .slice m0 (atM k.machines j).copies.length m1, .slice m2 (atM k.machines j).log.length m3, .slice m4 (atM k.machines j).cleared.length m5] X) (by kernel_rfl) ?_
          generalize wr.drew = XD at *
          refine wpUntil_take (i := 0) (v := ?_) rfl (by kernel_rfl) (fun _ _ _ h => h) (Or.inl ⟨by rfl, ?_⟩) hSX ?_
          rotate_left
          · (intro w hSw; go_simp; first | done | with_reducible rfl)
          simp only [Act.put]
          refine wpUntil_take (i := 1) (v := ?_) rfl (by kernel_rfl) (fun _ _ _ h => h) (Or.inl ⟨by rfl, ?_⟩) hSX ?_
          rotate_left
          · (intro w hSw; have q := hSw.1.1 3 _ rfl; go_simp; first | done | with_reducible rfl | exact q)
          simp only [Act.put]
          refine wpUntil_take (i := 2) (v := ?_) rfl (by kernel_rfl) (fun _ _ _ h => h) (Or.inl ⟨by rfl, ?_⟩) hSX ?_
          rotate_left
          · (intro w hSw; go_simp; first | done | with_reducible rfl)
          simp only [Act.put]
          refine wpUntil_take (i := 3) (v := ?_) rfl (by kernel_rfl) (fun _ _ _ h => h) (Or.inl ⟨by rfl, ?_⟩) hSX ?_
          rotate_left
          · (intro w hSw; have q := hSw.2.1.1 3 _ rfl; go_simp; first | done | with_reducible rfl | exact q)
          simp only [Act.put]
          refine wpUntil_take (i := 4) (v := ?_) rfl (by kernel_rfl) (fun _ _ _ h => h) (Or.inl ⟨by rfl, ?_⟩) hSX ?_
          rotate_left
          · (intro w hSw; go_simp; first | done | with_reducible rfl)
          simp only [Act.put]
          refine wpUntil_take (i := 5) (v := ?_) rfl (by kernel_rfl) (fun _ _ _ h => h) (Or.inl ⟨by rfl, ?_⟩) hSX ?_
          rotate_left
          · (intro w hSw; go_simp; first | done | with_reducible rfl | (rw [if_pos (by omega)]))
          simp only [Act.put]
          refine wpUntil_take (i := 6) (v := ?_) rfl (by kernel_rfl) (fun _ _ _ h => h) (Or.inl ⟨by rfl, ?_⟩) hSX ?_
          rotate_left
          · (intro w hSw; have q0 : w.cell? ⟨b, off + j * 4, none⟩ = some (.bool (atM k.machines j).alive) := hSw.2.2.1 0 _ rfl; have q1 : w.cell? ⟨b, off + j * 4 + 1, none⟩ = some (.slice m0 (atM k.machines j).copies.length m1) := hSw.2.2.1 1 _ rfl; have q2 : w.cell? ⟨b, off + j * 4 + 2, none⟩ = some (.slice m2 (atM k.machines j).log.length m3) := hSw.2.2.1 2 _ rfl; have q3 : w.cell? ⟨b, off + j * 4 + 3, none⟩ = some (.slice m4 (atM k.machines j).cleared.length m5) := hSw.2.2.1 3 _ rfl; go_simp; first | done | with_reducible rfl | rfl)
          simp only [Act.put]
          refine wpUntil_ready (rs := [7]) (by kernel_rfl) (by simp) ?_
          refine AllU.cons rfl (fun K hK => ?_) AllU.nil
          go_simp
          refine hcl.mono ?_
          clear hcl
          rintro e X2 ⟨⟨u0, u1, u2, u3, u4, u5⟩, pp, gk, gr, rfl, hmr, b2⟩
          dsimp only
          obtain ⟨Q, hQ⟩ := MR.ow hmr
          have hO : KMk.Ow X2 wr.heap.size ⟨u0, u1, u2, u3, u4, u5⟩ (atM k.machines j) Q := KMk.low hQ (by have := HD.out.size; omega)
          clear hmr hQ
          have HD' : Hid (Below wr.heap.size wr XD ∧ True) := ⟨HD.out, trivial⟩
          have HD := HD'
          clear HD'
          have bX2 : Below wr.heap.size wr X2 := bstep HD.out.1 b2
          have hS2 : (fun X : World => Bx X (w.heap.size + 2) [.int .i64 k.config, .int .i64 k.clock, (.slice bP k.places.length dP), (.slice bM j dM), (.slice none 0 0), .bool k.lost] ∧ Sp w [.int .i64 k.config, .int .i64 k.clock, .slice a1 k.places.length c1, .slice (some ⟨b, off, none⟩) k.machines.length c2, .slice a3 k.txs.length c3, .bool k.lost] b (off + j * 4) [.bool (atM k.machines j).alive, .slice m0 (atM k.machines j).copies.length m1, .slice m2 (atM k.machines j).log.length m3, .slice m4 (atM k.machines j).cleared.length m5] X) X2 := ⟨hSX.1.later b2, hSX.2.later b2⟩
          obtain ⟨X3, hX3⟩ : ∃ X, X = X2.alloc (.cells #[(.bool (atM k.machines j).alive), (.slice u0 (atM k.machines j).copies.length u1), (.slice u2 (atM k.machines j).log.length u3), (.slice u4 (atM k.machines j).cleared.length u5)] 62) := ⟨_, rfl⟩
          have b3 : Below X2.heap.size X2 X3 := by rw [hX3]; exact (Below.refl _ _).alloc (Nat.le_refl _) _
          have x3 : Bx X3 X2.heap.size [(.bool (atM k.machines j).alive), (.slice u0 (atM k.machines j).copies.length u1), (.slice u2 (atM k.machines j).log.length u3), (.slice u4 (atM k.machines j).cleared.length u5)] := by rw [hX3]; exact Bx.made X2 [(.bool (atM k.machines j).alive), (.slice u0 (atM k.machines j).copies.length u1), (.slice u2 (atM k.machines j).log.length u3), (.slice u4 (atM k.machines j).cleared.length u5)] _
          have hS3 : (fun X : World => Bx X (w.heap.size + 2) [.int .i64 k.config, .int .i64 k.clock, (.slice bP k.places.length dP), (.slice bM j dM), (.slice none 0 0), .bool k.lost] ∧ Sp w [.int .i64 k.config, .int .i64 k.clock, .slice a1 k.places.length c1, .slice (some ⟨b, off, none⟩) k.machines.length c2, .slice a3 k.txs.length c3, .bool k.lost] b (off + j * 4) [.bool (atM k.machines j).alive, .slice m0 (atM k.machines j).copies.length m1, .slice m2 (atM k.machines j).log.length m3, .slice m4 (atM k.machines j).cleared.length m5] X) X3 := ⟨hS2.1.later b3, hS2.2.later b3⟩
          obtain ⟨v', Y, hr, hcs, hob, hfar, hsz, a', c', rfl⟩ := HS.out.pushM (bstep bX2 b3) (⟨u0, u1, u2, u3, u4, u5⟩ : MV) (atM k.machines j) Q X2.heap.size (by rw [HM.out.2.1]; omega) 29 x3.1 (KMk.keep hO b3.size (fun q hq => b3.block q (KMk.of hO hq).2))
          have hS4 : (fun X : World => Bx X (w.heap.size + 2) [.int .i64 k.config, .int .i64 k.clock, (.slice bP k.places.length dP), (.slice bM j dM), (.slice none 0 0), .bool k.lost] ∧ Sp w [.int .i64 k.config, .int .i64 k.clock, .slice a1 k.places.length c1, .slice (some ⟨b, off, none⟩) k.machines.length c2, .slice a3 k.txs.length c3, .bool k.lost] b (off + j * 4) [.bool (atM k.machines j).alive, .slice m0 (atM k.machines j).copies.length m1, .slice m2 (atM k.machines j).log.length m3, .slice m4 (atM k.machines j).cleared.length m5] X) Y := ⟨hob, hS3.2.of hsz (fun q hq => hfar q (.inl hq))⟩
          have HE : Hid ((ms ++ [((⟨u0, u1, u2, u3, u4, u5⟩ : MV), atM k.machines j)]).map (·.2) = k.machines.take (j + 1)) := by unfold Hid; rw [List.map_append, HM.out.1]; exact take_snoc HM.out.2.2
          rw [HM.out.2.1] at hr hcs
          have KE := hidOf hcs
          refine hK.out _ _ (fun _ => hS2) ?_
          clear hK K b2 bX2 b3 x3 hcs hob hfar hsz hO hSX
          refine wpUntil_ready (rs := [8]) (by kernel_rfl) (by simp) ?_
          refine AllU.cons rfl (fun K hK => ?_) AllU.nil
          go_simp
          rw [← hX3]
          refine hK.out _ _ (fun _ => hS3) ?_
          clear hK K hS2
          refine wpUntil_ready (rs := [9]) (by kernel_rfl) (by simp) ?_
          refine AllU.cons rfl (fun K hK => ?_) AllU.nil
          refine step_known _ rfl (.tmp 43) (.tmp 50) 29 rfl _ _ _ _ (by first | rfl | simp [Act.eval, Act.put]) (by first | rfl | simp [Act.eval, Act.put]) hr ?_
          refine hK.out _ _ (fun _ => hS4) ?_
          clear hK K hr hS3 hX3
          simp only [Act.put]
          refine wpUntil_ready (rs := [10]) (by kernel_rfl) (by simp) ?_
          refine AllU.cons rfl (fun K hK => ?_) AllU.nil
          go_simp
          refine hK.out _ _ (fun _ => hS4) ?_
          clear hK K
          refine wpUntil_ready (rs := [11]) (by kernel_rfl) (by simp) ?_
          refine AllU.cons rfl (fun K hK => ?_) AllU.nil
          have o3 := hS4.1.1 3 _ rfl
          have fo3 := hS4.1.2.1 3
          go_simp
          refine hK.out _ _ (fun h => absurd rfl h) ?_
          clear hK K
          refine wpUntil_done (by kernel_rfl) ?_ _
          go_wp2
          exact ⟨⟨j + 1, a', c', _, _, by omega, by simp, HE.out, KE.out⟩, by simp [intOf]; omega⟩
        · obtain rfl : k.machines.length = j := by omega
          have hd : decide ((k.machines.length : Int) < (k.machines.length : Int)) = false := by simp
          rw [List.take_length] at hmp
          have EM : Hid (ms.map (·.2) = k.machines) := hmp
          have S1 := hidOf hst
          clear hmp hst hj hlt hln
          go_wp2
          clear p2 p3 p4
          generalize wr = WM at *
          go_loopw [6] (fun v wr => ∃ (j : Nat) (bT : Option Addr) (dT : Nat) (ts : List ((tx.TV) × tx.T7)) (gt : Nat → Nat → Prop), j ≤ k.txs.length ∧ v = .int .i64 j ∧ ts.map (·.2) = k.txs.take j ∧ CSt w [.int .i64 k.config, .int .i64 k.clock, .slice a1 k.places.length c1, .slice a2 k.machines.length c2, .slice a3 k.txs.length c3, .bool k.lost] [.int .i64 0, .int .i64 0, .slice none 0 0, .slice none 0 0, .slice none 0 0, .bool false] k wr (.slice bP k.places.length dP) (.slice bM k.machines.length dM) (.slice bT j dT) ps gp ms gm ts gt) (fun v _ => k.txs.length - (intOf v).toNat)
          case atStart => exact ⟨0, none, 0, [], gnone, Nat.zero_le _, rfl, by simp, S1.out⟩
          case round =>
            obtain ⟨j, bT, dT, ts, gt, hj, rfl, hmp, hst⟩ := hrel
            have hln : k.txs.length ≤ 1000 := by have := H.out.1.t; omega
            have p2 := hst.arg.1 2 _ rfl
            have p3 := hst.arg.1 3 _ rfl
            have p4 := hst.arg.1 4 _ rfl
            by_cases hlt : j < k.txs.length
            · skip
              have hat := atT_of hlt
              have hlp : ts.length = j := by have := congrArg List.length hmp; simpa [Nat.min_eq_left hj] using this
              have hrd := H.out.2.later hst.bel
              rcases hrd.t with h0 | ⟨b, off, rfl, hb, hrd'⟩
              · rw [h0] at hlt; simp at hlt
              obtain ⟨⟨t0, t1, t2, t3⟩, hel, hsd⟩ := hrd' j _ hat
              have es0 : wr.cell? ⟨b, off + j * 7, none⟩ = some (.int .i64 (atT k.txs j).id) := hel 0 _ rfl
              have es1 : wr.cell? ⟨b, off + j * 7 + 1, none⟩ = some (.int .i64 (atT k.txs j).home) := hel 1 _ rfl
              have es2 : wr.cell? ⟨b, off + j * 7 + 2, none⟩ = some (.int .i64 (atT k.txs j).phase) := hel 2 _ rfl
              have es3 : wr.cell? ⟨b, off + j * 7 + 3, none⟩ = some (.int .i64 (atT k.txs j).count) := hel 3 _ rfl
              have es4 : wr.cell? ⟨b, off + j * 7 + 4, none⟩ = some (.slice t0 (atT k.txs j).reads.length t1) := hel 4 _ rfl
              have es5 : wr.cell? ⟨b, off + j * 7 + 5, none⟩ = some (.slice t2 (atT k.txs j).sets.length t3) := hel 5 _ rfl
              have es6 : wr.cell? ⟨b, off + j * 7 + 6, none⟩ = some (.int .i64 (atT k.txs j).stamp) := hel 6 _ rfl
              clear hrd' hrd hel
              have hel : At wr b (off + j * 7) [.int .i64 (atT k.txs j).id, .int .i64 (atT k.txs j).home, .int .i64 (atT k.txs j).phase, .int .i64 (atT k.txs j).count, .slice t0 (atT k.txs j).reads.length t1, .slice t2 (atT k.txs j).sets.length t3, .int .i64 (atT k.txs j).stamp] := fun i u hu => by
                rcases i with _ | _ | _ | _ | _ | _ | _ | i
                · simp at hu; subst hu; exact es0
                · simp at hu; subst hu; exact es1
                · simp at hu; subst hu; exact es2
                · simp at hu; subst hu; exact es3
                · simp at hu; subst hu; exact es4
                · simp at hu; subst hu; exact es5
                · simp at hu; subst hu; exact es6
                · simp at hu
              have hbw : b < w.heap.size := by
                rcases H.out.2.t with h0 | ⟨b', off', e', hb', _⟩
                · rw [h0] at hlt; simp at hlt
                · cases e'; exact hb'
              have hSX : (fun X : World => Bx X (w.heap.size + 2) [.int .i64 k.config, .int .i64 k.clock, (.slice bP k.places.length dP), (.slice bM k.machines.length dM), (.slice bT j dT), .bool k.lost] ∧ Sp w [.int .i64 k.config, .int .i64 k.clock, .slice a1 k.places.length c1, .slice a2 k.machines.length c2, .slice (some ⟨b, off, none⟩) k.txs.length c3, .bool k.lost] b (off + j * 7) [.int .i64 (atT k.txs j).id, .int .i64 (atT k.txs j).home, .int .i64 (atT k.txs j).phase, .int .i64 (atT k.txs j).count, .slice t0 (atT k.txs j).reads.length t1, .slice t2 (atT k.txs j).sets.length t3, .int .i64 (atT k.txs j).stamp] X) wr.drew := ⟨hst.own.later (Below.refl _ _).drew, ⟨hst.arg.later (Below.refl _ _).drew, hel.of_block rfl, hbw⟩⟩
              have HD : Hid (Below wr.heap.size wr wr.drew) := (Below.refl _ _).drew
              have jn : (j : Int) < (k.txs.length : Int) := by omega
              obtain ⟨l1, l2⟩ := H.out.1.ts _ (List.mem_of_getElem? hat)
              have hcl := tx.l7Copy_any wr.drew ⟨t0, t1, t2, t3⟩ (atT k.txs j) (by omega) (by omega) (tx.SlT.later hsd (Below.refl _ _).drew)
              simp only [tx.TV.val] at hcl
              clear l1 l2
              have HS := hidOf hst
              have HM : Hid (ts.map (·.2) = k.txs.take j ∧ ts.length = j ∧ k.txs[j]? = some (atT k.txs j)) := ⟨hmp, hlp, hat⟩
              clear hst hmp hlp hat hel hbw hsd es0 es1 es2 es3 es4 es5 es6
              go_wp2_with fail
              refine wp_region_until 11 (fun X : World => Bx X (w.heap.size + 2) [.int .i64 k.config, .int .i64 k.clock, (.slice bP k.places.length dP), (.slice bM k.machines.length dM), (.slice bT j dT), .bool k.lost] ∧ Sp w [.int .i64 k.config, .int .i64 k.clock, .slice a1 k.places.length c1, .slice a2 k.machines.length c2, .slice (some ⟨b, off, none⟩) k.txs.length c3, .bool k.lost] b (off + j * 7) [.int .i64 (atT k.txs j).id, .int .i64 (atT k.txs j).home, .int .i64 (atT k.txs j).phase, .int .i64 (atT k.txs j).count, .slice t0 (atT k.txs j).reads.length t1, .slice t2 (atT k.txs j).sets.length t3, .int .i64 (atT k.txs j).stamp] X) (by kernel_rfl) ?_
              generalize wr.drew = XD at *
              refine wpUntil_take (i := 0) (v := ?_) rfl (by kernel_rfl) (fun _ _ _ h => h) (Or.inl ⟨by rfl, ?_⟩) hSX ?_
              rotate_left
              · (intro w hSw; go_simp; first | done | with_reducible rfl)
              simp only [Act.put]
              refine wpUntil_take (i := 1) (v := ?_) rfl (by kernel_rfl) (fun _ _ _ h => h) (Or.inl ⟨by rfl, ?_⟩) hSX ?_
              rotate_left
              · (intro w hSw; have q := hSw.1.1 4 _ rfl; go_simp; first | done | with_reducible rfl | exact q)
              simp only [Act.put]
              refine wpUntil_take (i := 2) (v := ?_) rfl (by kernel_rfl) (fun _ _ _ h => h) (Or.inl ⟨by rfl, ?_⟩) hSX ?_
              rotate_left
              · (intro w hSw; go_simp; first | done | with_reducible rfl)
              simp only [Act.put]
              refine wpUntil_take (i := 3) (v := ?_) rfl (by kernel_rfl) (fun _ _ _ h => h) (Or.inl ⟨by rfl, ?_⟩) hSX ?_
              rotate_left
              · (intro w hSw; have q := hSw.2.1.1 4 _ rfl; go_simp; first | done | with_reducible rfl | exact q)
              simp only [Act.put]
              refine wpUntil_take (i := 4) (v := ?_) rfl (by kernel_rfl) (fun _ _ _ h => h) (Or.inl ⟨by rfl, ?_⟩) hSX ?_
              rotate_left
              · (intro w hSw; go_simp; first | done | with_reducible rfl)
              simp only [Act.put]
              refine wpUntil_take (i := 5) (v := ?_) rfl (by kernel_rfl) (fun _ _ _ h => h) (Or.inl ⟨by rfl, ?_⟩) hSX ?_
              rotate_left
              · (intro w hSw; go_simp; first | done | with_reducible rfl | (rw [if_pos (by omega)]))
              simp only [Act.put]
              refine wpUntil_take (i := 6) (v := ?_) rfl (by kernel_rfl) (fun _ _ _ h => h) (Or.inl ⟨by rfl, ?_⟩) hSX ?_
              rotate_left
              · (intro w hSw; have q0 : w.cell? ⟨b, off + j * 7, none⟩ = some (.int .i64 (atT k.txs j).id) := hSw.2.2.1 0 _ rfl; have q1 : w.cell? ⟨b, off + j * 7 + 1, none⟩ = some (.int .i64 (atT k.txs j).home) := hSw.2.2.1 1 _ rfl; have q2 : w.cell? ⟨b, off + j * 7 + 2, none⟩ = some (.int .i64 (atT k.txs j).phase) := hSw.2.2.1 2 _ rfl; have q3 : w.cell? ⟨b, off + j * 7 + 3, none⟩ = some (.int .i64 (atT k.txs j).count) := hSw.2.2.1 3 _ rfl; have q4 : w.cell? ⟨b, off + j * 7 + 4, none⟩ = some (.slice t0 (atT k.txs j).reads.length t1) := hSw.2.2.1 4 _ rfl; have q5 : w.cell? ⟨b, off + j * 7 + 5, none⟩ = some (.slice t2 (atT k.txs j).sets.length t3) := hSw.2.2.1 5 _ rfl; have q6 : w.cell? ⟨b, off + j * 7 + 6, none⟩ = some (.int .i64 (atT k.txs j).stamp) := hSw.2.2.1 6 _ rfl; go_simp; first | done | with_reducible rfl | rfl)
              simp only [Act.put]
              refine wpUntil_ready (rs := [7]) (by kernel_rfl) (by simp) ?_
              refine AllU.cons rfl (fun K hK => ?_) AllU.nil
              go_simp
              refine hcl.mono ?_
              clear hcl
              rintro e X2 ⟨u0, u1, u2, u3, PR, PS, rfl, ho, b2⟩
              simp only [tx.TV.val]
              have hO : KTk.Ow X2 wr.heap.size ⟨u0, u1, u2, u3⟩ (atT k.txs j) (tx.OfT PR PS) := KTk.low (KT.ow ho) HD.out.size
              have HD' : Hid (Below wr.heap.size wr XD ∧ True) := ⟨HD.out, trivial⟩
              have HD := HD'
              clear HD'
              have bX2 : Below wr.heap.size wr X2 := bstep HD.out.1 b2
              have hS2 : (fun X : World => Bx X (w.heap.size + 2) [.int .i64 k.config, .int .i64 k.clock, (.slice bP k.places.length dP), (.slice bM k.machines.length dM), (.slice bT j dT), .bool k.lost] ∧ Sp w [.int .i64 k.config, .int .i64 k.clock, .slice a1 k.places.length c1, .slice a2 k.machines.length c2, .slice (some ⟨b, off, none⟩) k.txs.length c3, .bool k.lost] b (off + j * 7) [.int .i64 (atT k.txs j).id, .int .i64 (atT k.txs j).home, .int .i64 (atT k.txs j).phase, .int .i64 (atT k.txs j).count, .slice t0 (atT k.txs j).reads.length t1, .slice t2 (atT k.txs j).sets.length t3, .int .i64 (atT k.txs j).stamp] X) X2 := ⟨hSX.1.later b2, hSX.2.later b2⟩
              obtain ⟨X3, hX3⟩ : ∃ X, X = X2.alloc (.cells #[(.int .i64 (atT k.txs j).id), (.int .i64 (atT k.txs j).home), (.int .i64 (atT k.txs j).phase), (.int .i64 (atT k.txs j).count), (.slice u0 (atT k.txs j).reads.length u1), (.slice u2 (atT k.txs j).sets.length u3), (.int .i64 (atT k.txs j).stamp)] 56) := ⟨_, rfl⟩
              have b3 : Below X2.heap.size X2 X3 := by rw [hX3]; exact (Below.refl _ _).alloc (Nat.le_refl _) _
              have x3 : Bx X3 X2.heap.size [(.int .i64 (atT k.txs j).id), (.int .i64 (atT k.txs j).home), (.int .i64 (atT k.txs j).phase), (.int .i64 (atT k.txs j).count), (.slice u0 (atT k.txs j).reads.length u1), (.slice u2 (atT k.txs j).sets.length u3), (.int .i64 (atT k.txs j).stamp)] := by rw [hX3]; exact Bx.made X2 [(.int .i64 (atT k.txs j).id), (.int .i64 (atT k.txs j).home), (.int .i64 (atT k.txs j).phase), (.int .i64 (atT k.txs j).count), (.slice u0 (atT k.txs j).reads.length u1), (.slice u2 (atT k.txs j).sets.length u3), (.int .i64 (atT k.txs j).stamp)] _
              have hS3 : (fun X : World => Bx X (w.heap.size + 2) [.int .i64 k.config, .int .i64 k.clock, (.slice bP k.places.length dP), (.slice bM k.machines.length dM), (.slice bT j dT), .bool k.lost] ∧ Sp w [.int .i64 k.config, .int .i64 k.clock, .slice a1 k.places.length c1, .slice a2 k.machines.length c2, .slice (some ⟨b, off, none⟩) k.txs.length c3, .bool k.lost] b (off + j * 7) [.int .i64 (atT k.txs j).id, .int .i64 (atT k.txs j).home, .int .i64 (atT k.txs j).phase, .int .i64 (atT k.txs j).count, .slice t0 (atT k.txs j).reads.length t1, .slice t2 (atT k.txs j).sets.length t3, .int .i64 (atT k.txs j).stamp] X) X3 := ⟨hS2.1.later b3, hS2.2.later b3⟩
              obtain ⟨v', Y, hr, hcs, hob, hfar, hsz, a', c', rfl⟩ := HS.out.pushT (bstep bX2 b3) (⟨u0, u1, u2, u3⟩ : tx.TV) (atT k.txs j) (tx.OfT PR PS) X2.heap.size (by rw [HM.out.2.1]; omega) 30 x3.1 (KTk.keep hO b3.size (fun q hq => b3.block q (KTk.of hO hq).2))
              have hS4 : (fun X : World => Bx X (w.heap.size + 2) [.int .i64 k.config, .int .i64 k.clock, (.slice bP k.places.length dP), (.slice bM k.machines.length dM), (.slice bT j dT), .bool k.lost] ∧ Sp w [.int .i64 k.config, .int .i64 k.clock, .slice a1 k.places.length c1, .slice a2 k.machines.length c2, .slice (some ⟨b, off, none⟩) k.txs.length c3, .bool k.lost] b (off + j * 7) [.int .i64 (atT k.txs j).id, .int .i64 (atT k.txs j).home, .int .i64 (atT k.txs j).phase, .int .i64 (atT k.txs j).count, .slice t0 (atT k.txs j).reads.length t1, .slice t2 (atT k.txs j).sets.length t3, .int .i64 (atT k.txs j).stamp] X) Y := ⟨hob, hS3.2.of hsz (fun q hq => hfar q (.inl hq))⟩
              have HE : Hid ((ts ++ [((⟨u0, u1, u2, u3⟩ : tx.TV), atT k.txs j)]).map (·.2) = k.txs.take (j + 1)) := by unfold Hid; rw [List.map_append, HM.out.1]; exact take_snoc HM.out.2.2
              rw [HM.out.2.1] at hr hcs
              have KE := hidOf hcs
              refine hK.out _ _ (fun _ => hS2) ?_
              clear hK K b2 bX2 b3 x3 hcs hob hfar hsz hO hSX
              refine wpUntil_ready (rs := [8]) (by kernel_rfl) (by simp) ?_
              refine AllU.cons rfl (fun K hK => ?_) AllU.nil
              go_simp
              rw [← hX3]
              refine hK.out _ _ (fun _ => hS3) ?_
              clear hK K hS2
              refine wpUntil_ready (rs := [9]) (by kernel_rfl) (by simp) ?_
              refine AllU.cons rfl (fun K hK => ?_) AllU.nil
              refine step_known _ rfl (.tmp 61) (.tmp 68) 30 rfl _ _ _ _ (by first | rfl | simp [Act.eval, Act.put]) (by first | rfl | simp [Act.eval, Act.put]) hr ?_
              refine hK.out _ _ (fun _ => hS4) ?_
              clear hK K hr hS3 hX3
              simp only [Act.put]
              refine wpUntil_ready (rs := [10]) (by kernel_rfl) (by simp) ?_
              refine AllU.cons rfl (fun K hK => ?_) AllU.nil
              go_simp
              refine hK.out _ _ (fun _ => hS4) ?_
              clear hK K
              refine wpUntil_ready (rs := [11]) (by kernel_rfl) (by simp) ?_
              refine AllU.cons rfl (fun K hK => ?_) AllU.nil
              have o4 := hS4.1.1 4 _ rfl
              have fo4 := hS4.1.2.1 4
              go_simp
              refine hK.out _ _ (fun h => absurd rfl h) ?_
              clear hK K
              refine wpUntil_done (by kernel_rfl) ?_ _
              go_wp2
              exact ⟨⟨j + 1, a', c', _, _, by omega, by simp, HE.out, KE.out⟩, by simp [intOf]; omega⟩
            · obtain rfl : k.txs.length = j := by omega
              have hd : decide ((k.txs.length : Int) < (k.txs.length : Int)) = false := by simp
              rw [List.take_length] at hmp
              have ET : Hid (ts.map (·.2) = k.txs) := hmp
              have S1 := hidOf hst
              clear hmp hst hj hlt hln
              have o0 := S1.out.own.1 0 _ rfl
              have o1 := S1.out.own.1 1 _ rfl
              have o2 := S1.out.own.1 2 _ rfl
              have o3 := S1.out.own.1 3 _ rfl
              have o4 := S1.out.own.1 4 _ rfl
              have o5 := S1.out.own.1 5 _ rfl
              have r0 := S1.out.res.1 0 _ rfl
              have r1 := S1.out.res.1 1 _ rfl
              have r2 := S1.out.res.1 2 _ rfl
              have r3 := S1.out.res.1 3 _ rfl
              have r4 := S1.out.res.1 4 _ rfl
              have r5 := S1.out.res.1 5 _ rfl
              have f0 := S1.out.res.2.1 0
              have f1 := S1.out.res.2.1 1
              have f2 := S1.out.res.2.1 2
              have f3 := S1.out.res.2.1 3
              have f4 := S1.out.res.2.1 4
              have f5 := S1.out.res.2.1 5
              go_wp2
              refine bodyPost_ret (v := .agg #[.int .i64 k.config, .int .i64 k.clock, .slice bP k.places.length dP, .slice bM k.machines.length dM, .slice bT k.txs.length dT, .bool k.lost]) (by simp [results, Tryz.results33, go_sem, r0, r1, r2, r3, r4, r5]) rfl ?_
              refine ⟨bP, dP, bM, dM, bT, dT, ps, gp, ms, gm, ts, gt, rfl, ?_, EP.out, EM.out, ET.out, ?_⟩
              · exact S1.out.rows.keep (Y := putB wr (w.heap.size + 1) 0 [.int .i64 k.config, .int .i64 k.clock, .slice bP k.places.length dP, .slice bM k.machines.length dM, .slice bT k.txs.length dT, .bool k.lost]) (by rw [putB_size]; exact Nat.le_refl _) (fun q _ hb _ => putB_block (by omega) _ _ _)
              · exact putB_below (w := w) (by omega) [.int .i64 k.config, .int .i64 k.clock, .slice bP k.places.length dP, .slice bM k.machines.length dM, .slice bT k.txs.length dT, .bool k.lost] wr 0 S1.out.bel
end Go.Proofs.YtnhjgomfkfehgaaGreatDoor