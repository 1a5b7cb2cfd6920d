/- What Turn answers: the specification's and the program's. -/
import Derived.Test.YtooalbdlknheeaaGreatRows
import Derived.Test.YtooalbdlknheeaaGreatJ28LawMachines
import Derived.WalkKit
import Derived.WalkSpells
import Derived.WalkLawsBesides
import Derived.Below
namespace Go.Proofs.YtooalbdlknheeaaGreat
open Go.RowKit
def ansT (m : M4) (t g : Int) : M4 := if machB m = true then tM t g m else ⟨false, [], [], []⟩
/-- A machine answered in memory of the call's own. -/
def MAns (w : World) (n : M4) (e : Ending) (w' : World) : Prop :=
  ∃ (a : Option Addr) (b : Nat) (c : Option Addr) (d : Nat) (f : Option Addr) (h : Nat) (PK PR PD : Nat → Prop), e = .returned ((MV.mk a b c d f h).val n) ∧ OM w' w.heap.size ⟨a, b, c, d, f, h⟩ n PK PR PD ∧ (∀ q, OfM PK PR PD q → q < w'.heap.size) ∧ Below w.heap.size w w'
theorem MAns.zero {w w' : World} (hb : Below w.heap.size w w') : MAns w ⟨false, [], [], []⟩ (.returned (.agg #[.bool false, .slice none 0 0, .slice none 0 0, .slice none 0 0])) w' :=
  ⟨none, 0, none, 0, none, 0, fun _ => False, fun _ => False, fun _ => False, rfl, ⟨.inl rfl, .inl rfl, .inl rfl, fun _ h => h.elim, fun _ h => h.elim, fun _ h => h.elim, fun _ h => h.elim, fun _ h => h.elim, fun _ h => h.elim⟩, fun q h => by rcases h with h | h | h <;> exact h.elim, hb⟩
theorem MR.lt {base p : Nat} {X : World} {vk vr vd : Value} {ks : List K2} {rs : List R4} {zs : List Int} {gk gr : Nat → Nat} (h : MR base p X vk vr vd ks rs zs gk gr) : ∀ q, OfM (blocksG vk ks gk) (blocksG vr rs gr) (fun q => vd.ownBlock = some q) q → base ≤ q ∧ q < X.heap.size := fun q hq => by
  rcases hq with hq | hq | hq
  · exact h.gK.blocks hq
  · exact h.gR.blocks hq
  · exact World.ownsRow.lt h.gD q hq
set_option maxHeartbeats 4000000 in
theorem specTurn_any (w : World) (v : MV) (m : M4) (t g : Int) (hl : ML m) (hs : SlM w v m) : Calls Tryz.prog 28 #[v.val m, .int .i64 t, .int .i64 g] w (MAns w (ansT m t g)) := by
  obtain ⟨ac, cc, al, cl, ad, cd⟩ := v
  simp only [MV.val]
  obtain ⟨W, hW⟩ : ∃ W, W = (w.alloc (.cells #[.bool m.alive, .slice ac m.copies.length cc, .slice al m.log.length cl, .slice ad m.cleared.length cd] 28)).alloc (.cells #[.bool false, .slice none 0 0, .slice none 0 0, .slice none 0 0] 28) := ⟨_, rfl⟩
  have b0 : Below w.heap.size w W := by subst hW; exact ((Below.refl _ _).alloc (Nat.le_refl _) _).alloc (by simp) _
  have s0 : W.heap.size = w.heap.size + 2 := by subst hW; simp
  have hz : W.heap[w.heap.size + 1]? = some (.cells #[.bool false, .slice none 0 0, .slice none 0 0, .slice none 0 0] 28 (0, 0)) := by
    have := heap_alloc_new (w.alloc (.cells #[.bool m.alive, .slice ac m.copies.length cc, .slice al m.log.length cl, .slice ad m.cleared.length cd] 28)) (.cells #[.bool false, .slice none 0 0, .slice none 0 0, .slice none 0 0] 28)
    rw [show (w.alloc (.cells #[.bool m.alive, .slice ac m.copies.length cc, .slice al m.log.length cl, .slice ad m.cleared.length cd] 28)).heap.size = w.heap.size + 1 by simp] at this
    rw [hW]; exact this
  have a0 : ∀ X, Below W.heap.size W X → X.cell? ⟨w.heap.size, 0, none⟩ = some (.bool m.alive) ∧ X.cell? ⟨w.heap.size, 1, none⟩ = some (.slice ac m.copies.length cc) ∧ X.cell? ⟨w.heap.size, 2, none⟩ = some (.slice al m.log.length cl) ∧ X.cell? ⟨w.heap.size, 3, none⟩ = some (.slice ad m.cleared.length cd) := fun X hX => by
    have l : w.heap.size < W.heap.size := by omega
    refine ⟨(hX.cell (p := ⟨w.heap.size, 0, none⟩) l).trans ?_, (hX.cell (p := ⟨w.heap.size, 1, none⟩) l).trans ?_, (hX.cell (p := ⟨w.heap.size, 2, none⟩) l).trans ?_, (hX.cell (p := ⟨w.heap.size, 3, none⟩) l).trans ?_⟩
    all_goals (subst hW; go_simp)
  have hm := specMachineOk_any W ⟨ac, cc, al, cl, ad, cd⟩ m hl.k hl.r hl.n hl.ks hl.rs (hs.later b0)
  simp only [MV.val] at hm
  have H : Hid (Below w.heap.size w W ∧ W.heap.size = w.heap.size + 2 ∧ W.heap[w.heap.size + 1]? = some (.cells #[.bool false, .slice none 0 0, .slice none 0 0, .slice none 0 0] 28 (0, 0)) ∧ SlM w ⟨ac, cc, al, cl, ad, cd⟩ m) := ⟨b0, s0, hz, hs⟩
  have HA := hidOf a0
  clear b0 s0 hz hs hl a0
  subst hW
  go_enter Tryz.func28, Tryz.ntmps28
  go_wp2_with fail
  generalize (w.alloc (.cells #[.bool m.alive, .slice ac m.copies.length cc, .slice al m.log.length cl, .slice ad m.cleared.length cd] 28)).alloc (.cells #[.bool false, .slice none 0 0, .slice none 0 0, .slice none 0 0] 28) = W at *
  refine hm.mono ?_
  clear hm
  rintro e w1 ⟨rfl, b1⟩
  cases hB : machB m with
  | false =>
    obtain ⟨z0, z1, z2, z3, zf⟩ := zeroBoxM ((b1.block _ (by have := H.out.2.1; omega)).trans H.out.2.2.1)
    have f0 := zf 0
    have f1 := zf 1
    have f2 := zf 2
    have f3 := zf 3
    have K := hidOf (H.out.1.trans (b1.mono H.out.1.size))
    have HN : Hid (ansT m t g = ⟨false, [], [], []⟩) := by unfold Hid; simp [ansT, hB]
    clear b1 zf
    go_wp2
    refine bodyPost_ret (v := .agg #[.bool false, .slice none 0 0, .slice none 0 0, .slice none 0 0]) (by simp [results, Tryz.results28, go_sem, z0, z1, z2, z3]) rfl ?_
    rw [HN.out]
    exact MAns.zero ((((K.out.setCell (p := ⟨_, _, none⟩) (by simp) _).setCell (p := ⟨_, _, none⟩) (by simp) _).setCell (p := ⟨_, _, none⟩) (by simp) _).setCell (p := ⟨_, _, none⟩) (by simp) _)
  | true =>
    have hS := hidOf (MSm.of_mach hB)
    obtain ⟨a0, a1, a2, a3⟩ := HA.out w1 b1
    have K1 : Hid (Below w.heap.size w w1 ∧ Below W.heap.size W w1) := ⟨H.out.1.trans (b1.mono H.out.1.size), b1⟩
    have hc := l6Copy_any w1 ⟨ac, cc, al, cl, ad, cd⟩ m hS.out (H.out.2.2.2.later K1.out.1)
    simp only [MV.val] at hc
    clear b1
    go_wp2_with fail
    refine hc.mono ?_
    clear hc
    rintro e w2 ⟨⟨uc, uk, ul, uj, ud, ui⟩, p, gk, gr, rfl, mr, b2⟩
    have b3 : Below w2.heap.size w2 (w2.alloc (.cells #[.bool m.alive, .slice uc m.copies.length uk, .slice ul m.log.length uj, .slice ud m.cleared.length ui] 28)) := (Below.refl _ _).alloc (Nat.le_refl _) _
    have s3 : (w2.alloc (.cells #[.bool m.alive, .slice uc m.copies.length uk, .slice ul m.log.length uj, .slice ud m.cleared.length ui] 28)).heap.size = w2.heap.size + 1 := by simp
    have mr3 := mr.later b3
    have om3 := MR.om (v := ⟨uc, uk, ul, uj, ud, ui⟩) mr3
    have hP : ∀ q, (blocksG (.slice ul m.log.length uj) m.log gr) q → w1.heap.size + 2 ≤ q ∧ q < w2.heap.size := fun q hq => mr.gR.blocks hq
    have ht := l6Turn_any (w2.alloc (.cells #[.bool m.alive, .slice uc m.copies.length uk, .slice ul m.log.length uj, .slice ud m.cleared.length ui] 28)) w2.heap.size (blocksG (.slice ul m.log.length uj) m.log gr) ul uj m.log t g (by have := hS.out.r; omega) (by go_simp) (fun e => by have := hP _ e; omega) om3.r
    have d0 : (w2.alloc (.cells #[.bool m.alive, .slice uc m.copies.length uk, .slice ul m.log.length uj, .slice ud m.cleared.length ui] 28)).cell? ⟨w2.heap.size, 0, none⟩ = some (.bool m.alive) := by go_simp
    have d1 : (w2.alloc (.cells #[.bool m.alive, .slice uc m.copies.length uk, .slice ul m.log.length uj, .slice ud m.cleared.length ui] 28)).cell? ⟨w2.heap.size, 1, none⟩ = some (.slice uc m.copies.length uk) := by go_simp
    have d2 : (w2.alloc (.cells #[.bool m.alive, .slice uc m.copies.length uk, .slice ul m.log.length uj, .slice ud m.cleared.length ui] 28)).cell? ⟨w2.heap.size, 2, none⟩ = some (.slice ul m.log.length uj) := by go_simp
    have d3 : (w2.alloc (.cells #[.bool m.alive, .slice uc m.copies.length uk, .slice ul m.log.length uj, .slice ud m.cleared.length ui] 28)).cell? ⟨w2.heap.size, 3, none⟩ = some (.slice ud m.cleared.length ui) := by go_simp
    have K3 : Hid (Below w.heap.size w (w2.alloc (.cells #[.bool m.alive, .slice uc m.copies.length uk, .slice ul m.log.length uj, .slice ud m.cleared.length ui] 28)) ∧ OM (w2.alloc (.cells #[.bool m.alive, .slice uc m.copies.length uk, .slice ul m.log.length uj, .slice ud m.cleared.length ui] 28)) (w1.heap.size + 2) ⟨uc, uk, ul, uj, ud, ui⟩ m (blocksG (.slice uc m.copies.length uk) m.copies gk) (blocksG (.slice ul m.log.length uj) m.log gr) (fun q => (Value.slice ud m.cleared.length ui).ownBlock = some q) ∧ (∀ q, OfM (blocksG (.slice uc m.copies.length uk) m.copies gk) (blocksG (.slice ul m.log.length uj) m.log gr) (fun q => (Value.slice ud m.cleared.length ui).ownBlock = some q) q → w1.heap.size + 2 ≤ q ∧ q < w2.heap.size) ∧ (w2.alloc (.cells #[.bool m.alive, .slice uc m.copies.length uk, .slice ul m.log.length uj, .slice ud m.cleared.length ui] 28)).heap.size = w2.heap.size + 1 ∧ (w2.alloc (.cells #[.bool m.alive, .slice uc m.copies.length uk, .slice ul m.log.length uj, .slice ud m.cleared.length ui] 28)).heap[w.heap.size + 1]? = some (.cells #[.bool false, .slice none 0 0, .slice none 0 0, .slice none 0 0] 28 (0, 0)) ∧ w.heap.size + 2 ≤ w1.heap.size ∧ (w2.alloc (.cells #[.bool m.alive, .slice uc m.copies.length uk, .slice ul m.log.length uj, .slice ud m.cleared.length ui] 28)).cell? ⟨w2.heap.size, 0, none⟩ = some (.bool m.alive) ∧ (w2.alloc (.cells #[.bool m.alive, .slice uc m.copies.length uk, .slice ul m.log.length uj, .slice ud m.cleared.length ui] 28)).cell? ⟨w2.heap.size, 1, none⟩ = some (.slice uc m.copies.length uk) ∧ (w2.alloc (.cells #[.bool m.alive, .slice uc m.copies.length uk, .slice ul m.log.length uj, .slice ud m.cleared.length ui] 28)).cell? ⟨w2.heap.size, 2, none⟩ = some (.slice ul m.log.length uj) ∧ (w2.alloc (.cells #[.bool m.alive, .slice uc m.copies.length uk, .slice ul m.log.length uj, .slice ud m.cleared.length ui] 28)).cell? ⟨w2.heap.size, 3, none⟩ = some (.slice ud m.cleared.length ui)) := by
      have b13 := b2.trans (b3.mono b2.size)
      have z1 := K1.out.2.size
      have z0 := H.out.2.1
      exact ⟨K1.out.1.trans (b13.mono K1.out.1.size), om3, mr.lt, s3, (b13.block _ (by omega)).trans ((K1.out.2.block _ (by omega)).trans H.out.2.2.1), by omega, d0, d1, d2, d3⟩
    have ZZ := hidOf b2.size
    clear b3 s3 mr3 om3 mr b2 a0 a1 a2 a3 hP d0 d1 d2 d3
    go_wp2_with fail
    generalize (w2.alloc (.cells #[.bool m.alive, .slice uc m.copies.length uk, .slice ul m.log.length uj, .slice ud m.cleared.length ui] 28)) = W3 at *
    refine ht.mono ?_
    clear ht
    rintro e w4 ⟨⟨u, rfl⟩, k4, o4⟩
    obtain ⟨q1, q2, q3, q4, q5, q6, d0, d1, d2, d3⟩ := K3.out
    have zz := ZZ.out
    have nP : ∀ x, x = w2.heap.size ∨ x < w1.heap.size + 2 → ¬ (blocksG (.slice ul m.log.length uj) m.log gr) x := fun x hx e => by have := q3 x (.inr (.inl e)); omega
    have eb := k4.block w2.heap.size (by omega) (nP _ (.inl rfl))
    have ez := (k4.block (w.heap.size + 1) (by have := q1.size; omega) (nP _ (.inr (by omega)))).trans q5
    have y0 := (World.cell?_of_block (a := ⟨w2.heap.size, 0, none⟩) eb).trans d0
    have y1 := (World.cell?_of_block (a := ⟨w2.heap.size, 1, none⟩) eb).trans d1
    have y2 := (World.cell?_of_block (a := ⟨w2.heap.size, 2, none⟩) eb).trans d2
    have y3 := (World.cell?_of_block (a := ⟨w2.heap.size, 3, none⟩) eb).trans d3
    obtain ⟨z0, z1, z2, z3, zf⟩ := zeroBoxM ez
    have f0 := zf 0
    have f1 := zf 1
    have f2 := zf 2
    have f3 := zf 3
    have KE : Hid (OM w4 (w1.heap.size + 2) ⟨uc, uk, ul, uj, ud, ui⟩ (tM t g m) (blocksG (.slice uc m.copies.length uk) m.copies gk) (blocksG (.slice ul m.log.length uj) m.log gr) (fun q => (Value.slice ud m.cleared.length ui).ownBlock = some q) ∧ Below w.heap.size w w4 ∧ (∀ q, OfM (blocksG (.slice uc m.copies.length uk) m.copies gk) (blocksG (.slice ul m.log.length uj) m.log gr) (fun q => (Value.slice ud m.cleared.length ui).ownBlock = some q) q → w1.heap.size + 2 ≤ q ∧ q < w4.heap.size) ∧ w.heap.size + 2 ≤ w1.heap.size) := ⟨q2.turn k4 o4, q1.trans (k4.below (B := w.heap.size) (fun q hq => by have := q3 q (.inr (.inl hq)); omega) q1.size), fun q hq => by have := q3 q hq; have := k4.size; omega, q6⟩
    have HN : Hid (ansT m t g = tM t g m) := by unfold Hid; simp [ansT, hB]
    clear zz k4 o4 q1 q2 q3 q4 q5 q6 d0 d1 d2 d3 nP eb ez zf
    go_wp2
    refine bodyPost_ret (v := .agg #[.bool m.alive, .slice uc m.copies.length uk, .slice ul m.log.length uj, .slice ud m.cleared.length ui]) (by simp [results, Tryz.results28, go_sem, z0, z1, z2, z3]) rfl ?_
    rw [HN.out]
    obtain ⟨e1, e2, e3, e4⟩ := KE.out
    refine ⟨uc, uk, ul, uj, ud, ui, _, _, _, by simp [MV.val, tM], (e1.keep (by simp [World.setCell]) (fun x _ hx => ?_)).mono (by omega), fun q hq => by have := e3 q hq; simp [World.setCell]; omega, ?_⟩
    · have := e3 x hx
      exact (Below.heap_setCell _ _ _ _ (by show x ≠ w.heap.size + 1; omega)).trans ((Below.heap_setCell _ _ _ _ (by show x ≠ w.heap.size + 1; omega)).trans ((Below.heap_setCell _ _ _ _ (by show x ≠ w.heap.size + 1; omega)).trans (Below.heap_setCell _ _ _ _ (by show x ≠ w.heap.size + 1; omega))))
    · exact (((e2.setCell (p := ⟨_, _, none⟩) (by simp) _).setCell (p := ⟨_, _, none⟩) (by simp) _).setCell (p := ⟨_, _, none⟩) (by simp) _).setCell (p := ⟨_, _, none⟩) (by simp) _
set_option maxHeartbeats 4000000 in
theorem implTurn_any (w : World) (v : MV) (m : M4) (t g : Int) (hl : ML m) (hs : SlM w v m) : Calls Tryz.prog 27 #[v.val m, .int .i64 t, .int .i64 g] w (MAns w (ansT m t g)) := by
  obtain ⟨ac, cc, al, cl, ad, cd⟩ := v
  simp only [MV.val]
  obtain ⟨W, hW⟩ : ∃ W, W = (w.alloc (.cells #[.bool m.alive, .slice ac m.copies.length cc, .slice al m.log.length cl, .slice ad m.cleared.length cd] 28)).alloc (.cells #[.bool false, .slice none 0 0, .slice none 0 0, .slice none 0 0] 28) := ⟨_, rfl⟩
  have b0 : Below w.heap.size w W := by subst hW; exact ((Below.refl _ _).alloc (Nat.le_refl _) _).alloc (by simp) _
  have s0 : W.heap.size = w.heap.size + 2 := by subst hW; simp
  have hz : W.heap[w.heap.size + 1]? = some (.cells #[.bool false, .slice none 0 0, .slice none 0 0, .slice none 0 0] 28 (0, 0)) := by
    have := heap_alloc_new (w.alloc (.cells #[.bool m.alive, .slice ac m.copies.length cc, .slice al m.log.length cl, .slice ad m.cleared.length cd] 28)) (.cells #[.bool false, .slice none 0 0, .slice none 0 0, .slice none 0 0] 28)
    rw [show (w.alloc (.cells #[.bool m.alive, .slice ac m.copies.length cc, .slice al m.log.length cl, .slice ad m.cleared.length cd] 28)).heap.size = w.heap.size + 1 by simp] at this
    rw [hW]; exact this
  have hk := take_any W ⟨ac, cc, al, cl, ad, cd⟩ m hl (hs.later b0)
  simp only [MV.val] at hk
  have H : Hid (Below w.heap.size w W ∧ W.heap.size = w.heap.size + 2 ∧ W.heap[w.heap.size + 1]? = some (.cells #[.bool false, .slice none 0 0, .slice none 0 0, .slice none 0 0] 28 (0, 0))) := ⟨b0, s0, hz⟩
  clear b0 s0 hz hs hl
  subst hW
  go_enter Tryz.func27, Tryz.ntmps27
  go_wp2_with fail
  generalize (w.alloc (.cells #[.bool m.alive, .slice ac m.copies.length cc, .slice al m.log.length cl, .slice ad m.cleared.length cd] 28)).alloc (.cells #[.bool false, .slice none 0 0, .slice none 0 0, .slice none 0 0] 28) = W at *
  refine hk.mono ?_
  clear hk
  rintro e w1 ⟨t1, t2, b1⟩
  cases hB : machB m with
  | false =>
    obtain rfl := t1 hB
    clear t1 t2
    simp only [noM]
    have bA : Below w1.heap.size w1 (w1.alloc (.cells #[.slice none 0 0, .bool false, .slice none 0 0, .slice none 0 0] 85)) := (Below.refl _ _).alloc (Nat.le_refl _) _
    have b1A := b1.trans (bA.mono b1.size)
    obtain ⟨z0, z1, z2, z3, zf⟩ := zeroBoxM ((b1A.block _ (by have := H.out.2.1; omega)).trans H.out.2.2)
    have f0 := zf 0
    have f1 := zf 1
    have f2 := zf 2
    have f3 := zf 3
    have K := hidOf (H.out.1.trans (b1A.mono H.out.1.size))
    have HN : Hid (ansT m t g = ⟨false, [], [], []⟩) := by unfold Hid; simp [ansT, hB]
    clear b1 bA b1A zf
    go_wp2
    refine bodyPost_ret (v := .agg #[.bool false, .slice none 0 0, .slice none 0 0, .slice none 0 0]) (by simp [results, Tryz.results27, go_sem, z0, z1, z2, z3]) rfl ?_
    rw [HN.out]
    exact MAns.zero ((((K.out.setCell (p := ⟨_, _, none⟩) (by simp) _).setCell (p := ⟨_, _, none⟩) (by simp) _).setCell (p := ⟨_, _, none⟩) (by simp) _).setCell (p := ⟨_, _, none⟩) (by simp) _)
  | true =>
    obtain ⟨⟨uc, uk, ul, uj, ud, ui⟩, p, gk, gr, rfl, mr⟩ := t2 hB
    clear t1 t2
    simp only [MV.own]
    have hS := MSm.of_mach hB
    have b3 : Below w1.heap.size w1 (w1.alloc (.cells #[.slice ul m.log.length uj, .bool m.alive, .slice uc m.copies.length uk, .slice ud m.cleared.length ui] 85)) := (Below.refl _ _).alloc (Nat.le_refl _) _
    have s3 : (w1.alloc (.cells #[.slice ul m.log.length uj, .bool m.alive, .slice uc m.copies.length uk, .slice ud m.cleared.length ui] 85)).heap.size = w1.heap.size + 1 := by simp
    have mr3 := mr.later b3
    have om3 := MR.om (v := ⟨uc, uk, ul, uj, ud, ui⟩) mr3
    have hP : ∀ q, (blocksG (.slice ul m.log.length uj) m.log gr) q → W.heap.size + 2 ≤ q ∧ q < w1.heap.size := fun q hq => mr.gR.blocks hq
    have ht := turn_any (w1.alloc (.cells #[.slice ul m.log.length uj, .bool m.alive, .slice uc m.copies.length uk, .slice ud m.cleared.length ui] 85)) w1.heap.size (blocksG (.slice ul m.log.length uj) m.log gr) ul uj m.log t g (by have := hS.r; omega) (by go_simp) (by simp) (fun e => by have := hP _ e; omega) om3.r
    have d0 : (w1.alloc (.cells #[.slice ul m.log.length uj, .bool m.alive, .slice uc m.copies.length uk, .slice ud m.cleared.length ui] 85)).cell? ⟨w1.heap.size, 0, none⟩ = some (.slice ul m.log.length uj) := by go_simp
    have d1 : (w1.alloc (.cells #[.slice ul m.log.length uj, .bool m.alive, .slice uc m.copies.length uk, .slice ud m.cleared.length ui] 85)).cell? ⟨w1.heap.size, 1, none⟩ = some (.bool m.alive) := by go_simp
    have d2 : (w1.alloc (.cells #[.slice ul m.log.length uj, .bool m.alive, .slice uc m.copies.length uk, .slice ud m.cleared.length ui] 85)).cell? ⟨w1.heap.size, 2, none⟩ = some (.slice uc m.copies.length uk) := by go_simp
    have d3 : (w1.alloc (.cells #[.slice ul m.log.length uj, .bool m.alive, .slice uc m.copies.length uk, .slice ud m.cleared.length ui] 85)).cell? ⟨w1.heap.size, 3, none⟩ = some (.slice ud m.cleared.length ui) := by go_simp
    have K3 : Hid (Below w.heap.size w (w1.alloc (.cells #[.slice ul m.log.length uj, .bool m.alive, .slice uc m.copies.length uk, .slice ud m.cleared.length ui] 85)) ∧ OM (w1.alloc (.cells #[.slice ul m.log.length uj, .bool m.alive, .slice uc m.copies.length uk, .slice ud m.cleared.length ui] 85)) (W.heap.size + 2) ⟨uc, uk, ul, uj, ud, ui⟩ m (blocksG (.slice uc m.copies.length uk) m.copies gk) (blocksG (.slice ul m.log.length uj) m.log gr) (fun q => (Value.slice ud m.cleared.length ui).ownBlock = some q) ∧ (∀ q, OfM (blocksG (.slice uc m.copies.length uk) m.copies gk) (blocksG (.slice ul m.log.length uj) m.log gr) (fun q => (Value.slice ud m.cleared.length ui).ownBlock = some q) q → W.heap.size + 2 ≤ q ∧ q < w1.heap.size) ∧ (w1.alloc (.cells #[.slice ul m.log.length uj, .bool m.alive, .slice uc m.copies.length uk, .slice ud m.cleared.length ui] 85)).heap.size = w1.heap.size + 1 ∧ (w1.alloc (.cells #[.slice ul m.log.length uj, .bool m.alive, .slice uc m.copies.length uk, .slice ud m.cleared.length ui] 85)).heap[w.heap.size + 1]? = some (.cells #[.bool false, .slice none 0 0, .slice none 0 0, .slice none 0 0] 28 (0, 0)) ∧ (w1.alloc (.cells #[.slice ul m.log.length uj, .bool m.alive, .slice uc m.copies.length uk, .slice ud m.cleared.length ui] 85)).cell? ⟨w1.heap.size, 0, none⟩ = some (.slice ul m.log.length uj) ∧ (w1.alloc (.cells #[.slice ul m.log.length uj, .bool m.alive, .slice uc m.copies.length uk, .slice ud m.cleared.length ui] 85)).cell? ⟨w1.heap.size, 1, none⟩ = some (.bool m.alive) ∧ (w1.alloc (.cells #[.slice ul m.log.length uj, .bool m.alive, .slice uc m.copies.length uk, .slice ud m.cleared.length ui] 85)).cell? ⟨w1.heap.size, 2, none⟩ = some (.slice uc m.copies.length uk) ∧ (w1.alloc (.cells #[.slice ul m.log.length uj, .bool m.alive, .slice uc m.copies.length uk, .slice ud m.cleared.length ui] 85)).cell? ⟨w1.heap.size, 3, none⟩ = some (.slice ud m.cleared.length ui)) := by
      have b13 := b1.trans (b3.mono b1.size)
      have z0 := H.out.2.1
      exact ⟨H.out.1.trans (b13.mono H.out.1.size), om3, mr.lt, s3, (b13.block _ (by omega)).trans H.out.2.2, d0, d1, d2, d3⟩
    have ZZ := hidOf b1.size
    clear b3 s3 mr3 om3 mr b1 hP d0 d1 d2 d3 hS
    go_wp2_with fail
    generalize (w1.alloc (.cells #[.slice ul m.log.length uj, .bool m.alive, .slice uc m.copies.length uk, .slice ud m.cleared.length ui] 85)) = W3 at *
    refine ht.mono ?_
    clear ht
    rintro e w4 ⟨⟨u, rfl⟩, k4, o4⟩
    obtain ⟨q1, q2, q3, q4, q5, d0, d1, d2, d3⟩ := K3.out
    have q6 := H.out.2.1
    have zz := ZZ.out
    have nP : ∀ x, x = w1.heap.size ∨ x < W.heap.size + 2 → ¬ (blocksG (.slice ul m.log.length uj) m.log gr) x := fun x hx e => by have := q3 x (.inr (.inl e)); omega
    have eb := k4.block w1.heap.size (by omega) (nP _ (.inl rfl))
    have ez := (k4.block (w.heap.size + 1) (by have := q1.size; omega) (nP _ (.inr (by omega)))).trans q5
    have hgv := given_any w4 w1.heap.size m.alive ul m.log.length uj uc m.copies.length uk ud m.cleared.length ui ((World.cell?_of_block (a := ⟨w1.heap.size, 0, none⟩) eb).trans d0) ((World.cell?_of_block (a := ⟨w1.heap.size, 1, none⟩) eb).trans d1) ((World.cell?_of_block (a := ⟨w1.heap.size, 2, none⟩) eb).trans d2) ((World.cell?_of_block (a := ⟨w1.heap.size, 3, none⟩) eb).trans d3) (by have := k4.size; omega)
    have KE : Hid (OM w4 (W.heap.size + 2) ⟨uc, uk, ul, uj, ud, ui⟩ (tM t g m) (blocksG (.slice uc m.copies.length uk) m.copies gk) (blocksG (.slice ul m.log.length uj) m.log gr) (fun q => (Value.slice ud m.cleared.length ui).ownBlock = some q) ∧ Below w.heap.size w w4 ∧ (∀ q, OfM (blocksG (.slice uc m.copies.length uk) m.copies gk) (blocksG (.slice ul m.log.length uj) m.log gr) (fun q => (Value.slice ud m.cleared.length ui).ownBlock = some q) q → W.heap.size + 2 ≤ q ∧ q < w4.heap.size) ∧ w4.heap[w.heap.size + 1]? = some (.cells #[.bool false, .slice none 0 0, .slice none 0 0, .slice none 0 0] 28 (0, 0)) ∧ w.heap.size + 2 ≤ w4.heap.size) := ⟨q2.turn k4 o4, q1.trans (k4.below (B := w.heap.size) (fun q hq => by have := q3 q (.inr (.inl hq)); omega) q1.size), fun q hq => by have := q3 q hq; have := k4.size; omega, ez, by have := k4.size; have := q1.size; omega⟩
    have HN : Hid (ansT m t g = tM t g m) := by unfold Hid; simp [ansT, hB]
    clear zz k4 o4 q1 q2 q3 q4 q5 d0 d1 d2 d3 nP eb ez
    go_wp2_with fail
    refine hgv.mono ?_
    clear hgv
    rintro e w5 ⟨rfl, b5⟩
    obtain ⟨z0, z1, z2, z3, zf⟩ := zeroBoxM ((b5.block _ (by have := KE.out.2.2.2.2; omega)).trans KE.out.2.2.2.1)
    have f0 := zf 0
    have f1 := zf 1
    have f2 := zf 2
    have f3 := zf 3
    have KF : Hid (OM w5 (W.heap.size + 2) ⟨uc, uk, ul, uj, ud, ui⟩ (tM t g m) (blocksG (.slice uc m.copies.length uk) m.copies gk) (blocksG (.slice ul m.log.length uj) m.log gr) (fun q => (Value.slice ud m.cleared.length ui).ownBlock = some q) ∧ Below w.heap.size w w5 ∧ (∀ q, OfM (blocksG (.slice uc m.copies.length uk) m.copies gk) (blocksG (.slice ul m.log.length uj) m.log gr) (fun q => (Value.slice ud m.cleared.length ui).ownBlock = some q) q → W.heap.size + 2 ≤ q ∧ q < w5.heap.size)) := ⟨KE.out.1.later b5, KE.out.2.1.trans (b5.mono KE.out.2.1.size), fun q hq => by have := KE.out.2.2.1 q hq; have := b5.size; omega⟩
    clear b5 zf q6
    go_wp2
    refine bodyPost_ret (v := .agg #[.bool m.alive, .slice uc m.copies.length uk, .slice ul m.log.length uj, .slice ud m.cleared.length ui]) (by simp [results, Tryz.results27, go_sem, z0, z1, z2, z3]) rfl ?_
    rw [HN.out]
    obtain ⟨e1, e2, e3⟩ := KF.out
    have e4 := H.out.2.1
    refine ⟨uc, uk, ul, uj, ud, ui, _, _, _, by simp [MV.val, tM], (e1.keep (by simp [World.setCell]) (fun x _ hx => ?_)).mono (by omega), fun q hq => by have := e3 q hq; simp [World.setCell]; omega, ?_⟩
    · have := e3 x hx
      exact (Below.heap_setCell _ _ _ _ (by show x ≠ w.heap.size + 1; omega)).trans ((Below.heap_setCell _ _ _ _ (by show x ≠ w.heap.size + 1; omega)).trans ((Below.heap_setCell _ _ _ _ (by show x ≠ w.heap.size + 1; omega)).trans (Below.heap_setCell _ _ _ _ (by show x ≠ w.heap.size + 1; omega))))
    · exact (((e2.setCell (p := ⟨_, _, none⟩) (by simp) _).setCell (p := ⟨_, _, none⟩) (by simp) _).setCell (p := ⟨_, _, none⟩) (by simp) _).setCell (p := ⟨_, _, none⟩) (by simp) _
end Go.Proofs.YtooalbdlknheeaaGreat
