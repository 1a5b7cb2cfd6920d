/- Append of the program. -/
import Derived.Test.YtooalbdlknheeaaGreatRows
import Derived.Test.YtooalbdlknheeaaGreatAppSJ
import Derived.Test.YtooalbdlknheeaaGreatUntZ
import Derived.WalkKit
import Derived.WalkSpells
import Derived.WalkLawsBesides
import Derived.Below
import Derived.Deep.CutRange
namespace Go.Proofs.YtooalbdlknheeaaGreat
open Go.RowKit
set_option maxHeartbeats 2000000 in
theorem add_full (w : World) (p : Nat) (ar : Option Addr) (cr : Nat) (r : R4) (a : Option Addr) (cap : Nat) (c0 : w.cell? ⟨p, 0, none⟩ = some (.slice ar 200 cr)) (hp : p < w.heap.size) :
    Calls Tryz.prog 68 #[.pointer (some ⟨p, 0, none⟩), r.val a cap] w fun e w' => e = .returned (.bool false) ∧ Below w.heap.size w w' := by
  simp only [R4.val]
  obtain ⟨W, hW⟩ : ∃ W, W = w.alloc (.cells #[.int .i64 r.kind, .int .i64 r.tx, .int .i64 r.region, .slice a r.sets.length cap] 41) := ⟨_, rfl⟩
  have b0 : Below w.heap.size w W := by rw [hW]; exact (Below.refl _ _).alloc (Nat.le_refl _) _
  have c0' : W.cell? ⟨p, 0, none⟩ = some (.slice ar 200 cr) := (b0.cell (p := ⟨p, 0, none⟩) hp).trans c0
  have KB := hidOf b0
  clear b0 c0 hp
  rw [hW] at c0'
  go_enter Tryz.func68, Tryz.ntmps68
  go_wp2
  rw [← hW]
  go_ret
  exact ⟨rfl, KB.out⟩
set_option maxRecDepth 100000 in
set_option maxHeartbeats 4000000 in
theorem add_any (w : World) (base p : Nat) (vk vd : Value) (ar : Option Addr) (cr : Nat) (ks : List K2) (rs : List R4) (zs : List Int) (gk gr : Nat → Nat) (r : R4) (a : Option Addr) (cap : Nat) (h : MR base p w vk (.slice ar rs.length cr) vd ks rs zs gk gr) (c0 : w.cell? ⟨p, 0, none⟩ = some (.slice ar rs.length cr)) (f0 : w.frozen? ⟨p, 0, none⟩ = false) (hp : p < w.heap.size) (hbp : base ≤ p) (hl : rs.length < 200) (h1 : 0 < r.sets.length) (h2 : r.sets.length ≤ 12) (hs : Sl w w.heap.size a r.sets.length r.sets) :
    Calls Tryz.prog 68 #[.pointer (some ⟨p, 0, none⟩), r.val a cap] w fun e w' => e = .returned (.bool true) ∧ ∃ yb yc gr', w'.cell? ⟨p, 0, none⟩ = some (.slice (some ⟨yb, 0, none⟩) (rs.length + 1) yc) ∧ MR base p w' vk (.slice (some ⟨yb, 0, none⟩) (rs.length + 1) yc) vd ks (rs ++ [r]) zs gk gr' ∧ (∀ j, j ≠ 0 → w'.cell? ⟨p, j, none⟩ = w.cell? ⟨p, j, none⟩) ∧ Below base w w' := by
  simp only [R4.val]
  obtain ⟨W, hW⟩ : ∃ W, W = w.alloc (.cells #[.int .i64 r.kind, .int .i64 r.tx, .int .i64 r.region, .slice a r.sets.length cap] 41) := ⟨_, rfl⟩
  have hMR := h
  have b0 : Below w.heap.size w W := by rw [hW]; exact (Below.refl _ _).alloc (Nat.le_refl _) _
  have s0 : W.heap.size = w.heap.size + 1 := by rw [hW]; simp
  have c0' : W.cell? ⟨p, 0, none⟩ = some (.slice ar rs.length cr) := (b0.cell (p := ⟨p, 0, none⟩) hp).trans c0
  have r0 : W.cell? ⟨w.heap.size, 0, none⟩ = some (.int .i64 r.kind) := by rw [hW]; go_simp
  have r1 : W.cell? ⟨w.heap.size, 1, none⟩ = some (.int .i64 r.tx) := by rw [hW]; go_simp
  have r2 : W.cell? ⟨w.heap.size, 2, none⟩ = some (.int .i64 r.region) := by rw [hW]; go_simp
  have r3 : W.cell? ⟨w.heap.size, 3, none⟩ = some (.slice a r.sets.length cap) := by rw [hW]; go_simp
  have d2 : ((rs.length : Int) == 200) = false := by simp; omega
  have bX : Below W.heap.size W W.drew := (Below.refl _ _).drew
  have bwX := b0.trans (bX.mono b0.size)
  have hc := ownRecord_any W.drew r a cap h1 (by omega) ((hs.below bwX).mono bwX.size)
  simp only [R4.val] at hc
  have hSof : ∀ Y : World, Y.heap[p]? = W.heap[p]? → Y.heap[w.heap.size]? = W.heap[w.heap.size]? → (fun X : World => X.cell? ⟨p, 0, none⟩ = some (.slice ar rs.length cr) ∧ X.cell? ⟨w.heap.size, 0, none⟩ = some (.int .i64 r.kind) ∧ X.cell? ⟨w.heap.size, 1, none⟩ = some (.int .i64 r.tx) ∧ X.cell? ⟨w.heap.size, 2, none⟩ = some (.int .i64 r.region) ∧ X.cell? ⟨w.heap.size, 3, none⟩ = some (.slice a r.sets.length cap)) Y := fun Y e1 e2 =>
    ⟨(World.cell?_of_block (a := ⟨p, 0, none⟩) e1).trans c0', (World.cell?_of_block (a := ⟨w.heap.size, 0, none⟩) e2).trans r0, (World.cell?_of_block (a := ⟨w.heap.size, 1, none⟩) e2).trans r1, (World.cell?_of_block (a := ⟨w.heap.size, 2, none⟩) e2).trans r2, (World.cell?_of_block (a := ⟨w.heap.size, 3, none⟩) e2).trans r3⟩
  have hSX := hSof W.drew rfl rfl
  have KH : Hid ((∀ Y : World, Y.heap[p]? = W.heap[p]? → Y.heap[w.heap.size]? = W.heap[w.heap.size]? → (fun X : World => X.cell? ⟨p, 0, none⟩ = some (.slice ar rs.length cr) ∧ X.cell? ⟨w.heap.size, 0, none⟩ = some (.int .i64 r.kind) ∧ X.cell? ⟨w.heap.size, 1, none⟩ = some (.int .i64 r.tx) ∧ X.cell? ⟨w.heap.size, 2, none⟩ = some (.int .i64 r.region) ∧ X.cell? ⟨w.heap.size, 3, none⟩ = some (.slice a r.sets.length cap)) Y) ∧ Below W.heap.size W W.drew ∧ MR base p W vk (.slice ar rs.length cr) vd ks rs zs gk gr ∧ Below w.heap.size w W ∧ W.heap.size = w.heap.size + 1 ∧ W.frozen? ⟨p, 0, none⟩ = false ∧ base ≤ p) := ⟨hSof, bX, h.later b0, b0, s0, (b0.frozen (p := ⟨p, 0, none⟩) hp).trans f0, hbp⟩
  have hMR := hidOf hMR
  clear hSof bX bwX b0 s0 h f0 hbp r0 r1 r2 r3 c0 hs
  rw [hW] at c0'
  go_enter Tryz.func68, Tryz.ntmps68
  go_upto_region 3 with fail
  rw [← hW]
  clear hW c0'
  refine wp_region_z (fun z => z == 11) (fun X : World => X.cell? ⟨p, 0, none⟩ = some (.slice ar rs.length cr) ∧ X.cell? ⟨w.heap.size, 0, none⟩ = some (.int .i64 r.kind) ∧ X.cell? ⟨w.heap.size, 1, none⟩ = some (.int .i64 r.tx) ∧ X.cell? ⟨w.heap.size, 2, none⟩ = some (.int .i64 r.region) ∧ X.cell? ⟨w.heap.size, 3, none⟩ = some (.slice a r.sets.length cap)) (by kernel_rfl) ?_
  generalize hXX : W.drew = X at *
  clear hXX
  refine wpZ_takeP (i := 0) (v := ?_) rfl (by kernel_rfl) (fun _ _ _ h => h) (Or.inl ⟨by rfl, ?_⟩) hSX ?_
  rotate_left
  · (intro w _; go_simp; first | done | with_reducible rfl | (rw [if_pos (by omega)]) | (rw [if_pos (by omega)]; go_simp))
  simp only [Act.put]
  refine wpZ_takeP (i := 1) (v := ?_) rfl (by kernel_rfl) (fun _ _ _ h => h) (Or.inl ⟨by rfl, ?_⟩) hSX ?_
  rotate_left
  · (intro w _; go_simp; first | done | with_reducible rfl | (rw [if_pos (by omega)]) | (rw [if_pos (by omega)]; go_simp))
  simp only [Act.put]
  refine wpZ_takeP (i := 2) (v := ?_) rfl (by kernel_rfl) (fun _ _ _ h => h) (Or.inl ⟨by rfl, ?_⟩) hSX ?_
  rotate_left
  · (intro w _; go_simp; first | done | with_reducible rfl | (rw [if_pos (by omega)]) | (rw [if_pos (by omega)]; go_simp))
  simp only [Act.put]
  refine wpZ_takeP (i := 3) (v := ?_) rfl (by kernel_rfl) (fun _ _ _ h => h) (Or.inl ⟨by rfl, ?_⟩) hSX ?_
  rotate_left
  · (intro w _; go_simp; first | done | with_reducible rfl | (rw [if_pos (by omega)]) | (rw [if_pos (by omega)]; go_simp))
  simp only [Act.put]
  refine wpZ_take (i := 4) (v := ?_) rfl (by kernel_rfl) (fun _ _ _ h => h) (Or.inl ⟨by rfl, ?_⟩) hSX ?_
  rotate_left
  · (intro w hSw; obtain ⟨sw1, sw2, sw3, sw4, sw5⟩ := hSw; go_simp; first | done | with_reducible rfl | exact sw1 | exact sw2 | exact sw3 | exact sw4 | exact sw5 | (rw [if_pos (by omega)]))
  simp only [Act.put]
  refine wpZ_take (i := 5) (v := ?_) rfl (by kernel_rfl) (fun _ _ _ h => h) (Or.inl ⟨by rfl, ?_⟩) hSX ?_
  rotate_left
  · (intro w hSw; obtain ⟨sw1, sw2, sw3, sw4, sw5⟩ := hSw; go_simp; first | done | with_reducible rfl | exact sw1 | exact sw2 | exact sw3 | exact sw4 | exact sw5 | (rw [if_pos (by omega)]))
  simp only [Act.put]
  refine wpZ_ready (rs := [6]) (by kernel_rfl) (by simp) ?_
  refine AllZ.cons rfl (fun K hK => ?_) AllZ.nil
  go_simp
  refine hc.mono ?_
  clear hc
  rintro e X2 ⟨q, cp, rfl, hq1, hq2, hq3, hq4, b2⟩
  obtain ⟨hSof, bX, k3, k1, k6, uf, k5⟩ := KH.out
  have bX2 : Below W.heap.size W X2 := bX.trans (b2.mono bX.size)
  have hS2 := hSof X2 (bX2.block _ (by omega)) (bX2.block _ (by omega))
  have b3 : Below X2.heap.size X2 (X2.alloc (.cells #[.int .i64 r.kind, .int .i64 r.tx, .int .i64 r.region, .slice (some ⟨q, 0, none⟩) r.sets.length cp] 41)) := (Below.refl _ _).alloc (Nat.le_refl _) _
  have s3 : (X2.alloc (.cells #[.int .i64 r.kind, .int .i64 r.tx, .int .i64 r.region, .slice (some ⟨q, 0, none⟩) r.sets.length cp] 41)).heap.size = X2.heap.size + 1 := by simp
  have bX3 : Below W.heap.size W (X2.alloc (.cells #[.int .i64 r.kind, .int .i64 r.tx, .int .i64 r.region, .slice (some ⟨q, 0, none⟩) r.sets.length cp] 41)) := bX2.trans (b3.mono bX2.size)
  have hS3 := hSof (X2.alloc (.cells #[.int .i64 r.kind, .int .i64 r.tx, .int .i64 r.region, .slice (some ⟨q, 0, none⟩) r.sets.length cp] 41)) (bX3.block _ (by omega)) (bX3.block _ (by omega))
  obtain ⟨v', Y, hr, hmr', hgr, hol⟩ := k3.pushR bX3 (by omega) (by omega) r q cp X2.heap.size (by omega) 25 (by go_simp) (by go_simp) (by go_simp) (by go_simp) (AtR.of_block _ _ _ _ (b3.block q hq2) hq4) hq3 (by have := bX.size; omega) (by omega)
  have hp' : Y.heap[p]? = W.heap[p]? := (hgr.block p (by have := bX3.size; omega) (fun e => by have := hol p e.symm; omega)).trans (bX3.block p (by omega))
  have hs' : (fun X : World => X.cell? ⟨p, 0, none⟩ = some (.slice ar rs.length cr) ∧ X.cell? ⟨w.heap.size, 0, none⟩ = some (.int .i64 r.kind) ∧ X.cell? ⟨w.heap.size, 1, none⟩ = some (.int .i64 r.tx) ∧ X.cell? ⟨w.heap.size, 2, none⟩ = some (.int .i64 r.region) ∧ X.cell? ⟨w.heap.size, 3, none⟩ = some (.slice a r.sets.length cap)) Y := by
    refine ⟨(World.cell?_of_block (a := ⟨p, 0, none⟩) hp').trans (hSof W rfl rfl).1, ?_⟩
    by_cases e : (Value.slice ar rs.length cr).ownBlock = some w.heap.size
    · exact absurd ((hMR.out.gR.lies e).2) (by omega)
    · have e2 : Y.heap[w.heap.size]? = W.heap[w.heap.size]? := (hgr.block w.heap.size (by have := bX3.size; omega) (fun e' => e e'.symm)).trans (bX3.block _ (by omega))
      exact (hSof Y hp' e2).2
  have hlk : (rs ++ [r]).length = rs.length + 1 := by simp
  obtain ⟨yb, yc, rfl, -⟩ := GrowG.own (hd := hdR) (sz := 4) (fun _ => rfl) hmr'.gR (fun e => by rw [e] at hlk; simp at hlk)
  rw [hlk] at hr hmr'
  have o2 := hs'.1
  have fo2 := (World.frozen?_of_block (a := ⟨p, 0, none⟩) hp').trans uf
  have KE : Hid ((Y.setCell ⟨p, 0, none⟩ (.slice (some ⟨yb, 0, none⟩) (rs.length + 1) yc)).cell? ⟨p, 0, none⟩ = some (.slice (some ⟨yb, 0, none⟩) (rs.length + 1) yc) ∧ MR base p (Y.setCell ⟨p, 0, none⟩ (.slice (some ⟨yb, 0, none⟩) (rs.length + 1) yc)) vk (.slice (some ⟨yb, 0, none⟩) (rs.length + 1) yc) vd ks (rs ++ [r]) zs gk (fun i => if i = rs.length then q else gr i) ∧ (∀ j, j ≠ 0 → (Y.setCell ⟨p, 0, none⟩ (.slice (some ⟨yb, 0, none⟩) (rs.length + 1) yc)).cell? ⟨p, j, none⟩ = w.cell? ⟨p, j, none⟩) ∧ Below base w (Y.setCell ⟨p, 0, none⟩ (.slice (some ⟨yb, 0, none⟩) (rs.length + 1) yc))) :=
    ⟨cell_set_same o2, hmr'.set, fun j hj => (cell_set_other (by simpa using fun e => hj e)).trans ((World.cell?_of_block (a := ⟨p, j, none⟩) hp').trans (k1.cell (p := ⟨p, j, none⟩) hp)), (((k1.mono (by omega)).trans (bX3.mono (by omega))).grown hgr (by have := bX3.size; omega) (fun x e => by have := hol x e; omega)).setCell (p := ⟨p, 0, none⟩) (by show base ≤ p; omega) _⟩
  refine hK.out _ _ (fun _ => hS2) ?_
  clear hK K bX bX2 b3 s3 bX3 hmr' hgr hol hp' hlk hSX b2 hq1 hq2 hq3 hq4 KH hSof k1 k3 k5 k6 uf
  refine wpZ_ready (rs := [7]) (by kernel_rfl) (by simp) ?_
  refine AllZ.cons rfl (fun K hK => ?_) AllZ.nil
  go_simp
  refine hK.out _ _ (fun _ => hS3) ?_
  clear hK K
  clear hS2
  refine wpZ_ready (rs := [8]) (by kernel_rfl) (by simp) ?_
  refine AllZ.cons rfl (fun K hK => ?_) AllZ.nil
  refine step_known _ rfl (.tmp 15) (.tmp 18) 25 rfl _ _ _ _ (by first | rfl | simp [Act.eval, Act.put]) (by first | rfl | simp [Act.eval, Act.put]) hr ?_
  refine hK.out _ _ (fun _ => hs') ?_
  clear hK K
  clear hr hS3
  simp only [Act.put]
  refine wpZ_takeP (i := 9) (v := ?_) rfl (by kernel_rfl) (fun _ _ _ h => h) (Or.inl ⟨by rfl, ?_⟩) hs' ?_
  rotate_left
  · (intro w _; go_simp; first | done | with_reducible rfl | (rw [if_pos (by omega)]) | (rw [if_pos (by omega)]; go_simp))
  simp only [Act.put]
  refine wpZ_takeP (i := 10) (v := ?_) rfl (by kernel_rfl) (fun _ _ _ h => h) (Or.inl ⟨by rfl, ?_⟩) hs' ?_
  rotate_left
  · (intro w _; go_simp; first | done | with_reducible rfl | (rw [if_pos (by omega)]) | (rw [if_pos (by omega)]; go_simp))
  simp only [Act.put]
  refine wpZ_ready (rs := [11]) (by kernel_rfl) (by simp) ?_
  refine AllZ.cons rfl (fun K hK => ?_) AllZ.nil
  go_simp
  refine hK.out _ _ (fun h => absurd (show false = true from h.symm.trans (by kernel_rfl)) (by decide)) ?_
  clear hK K
  refine wpZ_done (by kernel_rfl) ?_ _
  clear o2 fo2 hs'
  generalize (Y.setCell ⟨p, 0, none⟩ (.slice (some ⟨yb, 0, none⟩) (rs.length + 1) yc)) = Y1 at *
  go_wp2
  go_ret
  exact ⟨rfl, yb, yc, _, KE.out⟩
set_option maxRecDepth 100000 in
set_option maxHeartbeats 4000000 in
theorem implAppend_any (w : World) (v : MV) (m : M4) (r : R4) (a : Option Addr) (cap : Nat) (hl : ML m) (hs : SlM w v m) (hr : r.sets.length ≤ maxLen) (hsr : Sl w w.heap.size a r.sets.length r.sets) : Calls Tryz.prog 19 #[v.val m, r.val a cap] w (MAnsB w (appM m r) (appB m r)) := by
  obtain ⟨ac, cc, al, cl, ad, cd⟩ := v
  simp only [MV.val, R4.val]
  obtain ⟨W, hW⟩ : ∃ W, W = ((w.alloc (.cells #[.bool m.alive, .slice ac m.copies.length cc, .slice al m.log.length cl, .slice ad m.cleared.length cd] 28)).alloc (.cells #[.int .i64 r.kind, .int .i64 r.tx, .int .i64 r.region, .slice a r.sets.length cap] 41)).alloc (.cells #[.bool false, .slice none 0 0, .slice none 0 0, .slice none 0 0] 28) := ⟨_, rfl⟩
  have b0 : Below w.heap.size w W := by subst hW; exact (((Below.refl _ _).alloc (Nat.le_refl _) _).alloc (by simp) _).alloc (by simp; omega) _
  have s0 : W.heap.size = w.heap.size + 3 := by subst hW; simp
  have x0 : BA w.heap.size m.alive (.slice ac m.copies.length cc) (.slice al m.log.length cl) (.slice ad m.cleared.length cd) r (.slice a r.sets.length cap) W := by subst hW; exact BA.made w m r ac cc al cl ad cd a cap
  have hk := take_any W ⟨ac, cc, al, cl, ad, cd⟩ m hl (hs.later b0)
  simp only [MV.val] at hk
  have H : Hid (Below w.heap.size w W ∧ W.heap.size = w.heap.size + 3 ∧ BA w.heap.size m.alive (.slice ac m.copies.length cc) (.slice al m.log.length cl) (.slice ad m.cleared.length cd) r (.slice a r.sets.length cap) W ∧ Sl w w.heap.size a r.sets.length r.sets ∧ r.sets.length ≤ maxLen) := ⟨b0, s0, x0, hsr, hr⟩
  clear b0 s0 x0 hs hl hsr hr
  go_enter Tryz.func19, Tryz.ntmps19
  go_wp2_with fail
  rw [← hW]
  clear hW
  refine hk.mono ?_
  clear hk
  rintro e w1 ⟨t1, t2, b1⟩
  cases hB : machB m with
  | false =>
    obtain rfl := t1 hB
    clear t1 t2
    simp only [noM]
    have HN : Hid (appM m r = zM ∧ appB m r = false) := ⟨by simp [appM, hB], by simp [appB, hB]⟩
    obtain ⟨X1, hX1⟩ : ∃ X, X = w1.alloc (.cells #[.slice none 0 0, .bool false, .slice none 0 0, .slice none 0 0] 85) := ⟨_, rfl⟩
    have bA : Below w1.heap.size w1 X1 := by rw [hX1]; exact (Below.refl _ _).alloc (Nat.le_refl _) _
    have b1A := b1.trans (bA.mono b1.size)
    obtain ⟨z0, z1, z2, z3, zf⟩ := zeroBoxM (H.out.2.2.1.later b1A).z
    have f0 := zf 0
    have f1 := zf 1
    have f2 := zf 2
    have f3 := zf 3
    have K := hidOf (H.out.1.trans (b1A.mono H.out.1.size))
    clear zf
    clear b1 bA b1A
    rw [hX1] at z0 z1 z2 z3 f0 f1 f2 f3 K
    go_wp2
    refine bodyPost_ret (v := .tuple #[.agg #[.bool false, .slice none 0 0, .slice none 0 0, .slice none 0 0], .bool false]) (by simp [results, Tryz.results19, go_sem, z0, z1, z2, z3]) rfl ?_
    rw [HN.out.1, HN.out.2]
    exact MAnsB.zero ((((K.out.setCell (p := ⟨w.heap.size + 2, _, none⟩) (by dsimp only; omega) _).setCell (p := ⟨w.heap.size + 2, _, none⟩) (by dsimp only; omega) _).setCell (p := ⟨w.heap.size + 2, _, none⟩) (by dsimp only; omega) _).setCell (p := ⟨w.heap.size + 2, _, none⟩) (by dsimp only; omega) _)
  | true =>
    obtain ⟨⟨uc, uk, ul, uj, ud, ui⟩, p, gk, gr, rfl, mr⟩ := t2 hB
    clear t1 t2
    simp only [MV.own]
    have hS := hidOf (MSm.of_mach hB)
    obtain ⟨X1, hX1⟩ : ∃ X, X = w1.alloc (.cells #[.slice ul m.log.length uj, .bool m.alive, .slice uc m.copies.length uk, .slice ud m.cleared.length ui] 85) := ⟨_, rfl⟩
    have bA : Below w1.heap.size w1 X1 := by rw [hX1]; exact (Below.refl _ _).alloc (Nat.le_refl _) _
    have s1 : X1.heap.size = w1.heap.size + 1 := by rw [hX1]; simp
    have b1A := b1.trans (bA.mono b1.size)
    have u0 : X1.cell? ⟨w1.heap.size, 0, none⟩ = some (.slice ul m.log.length uj) := by rw [hX1]; go_simp
    have u1 : X1.cell? ⟨w1.heap.size, 1, none⟩ = some (.bool m.alive) := by rw [hX1]; go_simp
    have u2 : X1.cell? ⟨w1.heap.size, 2, none⟩ = some (.slice uc m.copies.length uk) := by rw [hX1]; go_simp
    have u3 : X1.cell? ⟨w1.heap.size, 3, none⟩ = some (.slice ud m.cleared.length ui) := by rw [hX1]; go_simp
    have uf : X1.frozen? ⟨w1.heap.size, 0, none⟩ = false := by rw [hX1]; go_simp
    have bw := H.out.1.trans (b1A.mono H.out.1.size)
    have x1 := H.out.2.2.1.later b1A
    have K1 : Hid (Below w.heap.size w X1 ∧ BA w.heap.size m.alive (.slice ac m.copies.length cc) (.slice al m.log.length cl) (.slice ad m.cleared.length cd) r (.slice a r.sets.length cap) X1 ∧ Sl X1 X1.heap.size a r.sets.length r.sets ∧ MR W.heap.size w1.heap.size X1 (.slice uc m.copies.length uk) (.slice ul m.log.length uj) (.slice ud m.cleared.length ui) m.copies m.log m.cleared gk gr ∧ X1.heap.size = w1.heap.size + 1 ∧ W.heap.size ≤ w1.heap.size ∧ (X1.cell? ⟨w1.heap.size, 0, none⟩ = some (.slice ul m.log.length uj) ∧ X1.cell? ⟨w1.heap.size, 1, none⟩ = some (.bool m.alive) ∧ X1.cell? ⟨w1.heap.size, 2, none⟩ = some (.slice uc m.copies.length uk) ∧ X1.cell? ⟨w1.heap.size, 3, none⟩ = some (.slice ud m.cleared.length ui) ∧ X1.frozen? ⟨w1.heap.size, 0, none⟩ = false)) := ⟨bw, x1, (H.out.2.2.2.1.below bw).mono bw.size, ((mr.mono (by omega)).out (.inr (Nat.le_refl _))).later bA, s1, b1.size, u0, u1, u2, u3, uf⟩
    have hsz := H.out.2.1
    have HSZ := hidOf hsz
    have hc := implRecordOk_any X1 r.kind r.tx r.region a r.sets.length cap r.sets H.out.2.2.2.2 K1.out.2.2.1
    obtain ⟨-, -, -, -, q0, q1, q2, q3, -, -⟩ := K1.out.2.1
    clear mr bA b1A b1 s1 u0 u1 u2 u3 uf bw x1 hsz
    rw [hX1] at q0 q1 q2 q3
    go_wp2_with fail
    rw [← hX1]
    clear hX1
    refine hc.mono ?_
    clear hc q0 q1 q2 q3
    rintro e w2 ⟨rfl, b2⟩
    have K2 : Hid (Below w.heap.size w w2 ∧ BA w.heap.size m.alive (.slice ac m.copies.length cc) (.slice al m.log.length cl) (.slice ad m.cleared.length cd) r (.slice a r.sets.length cap) w2 ∧ Sl w2 w2.heap.size a r.sets.length r.sets ∧ MR W.heap.size w1.heap.size w2 (.slice uc m.copies.length uk) (.slice ul m.log.length uj) (.slice ud m.cleared.length ui) m.copies m.log m.cleared gk gr ∧ w1.heap.size < w2.heap.size ∧ W.heap.size ≤ w1.heap.size ∧ (w2.cell? ⟨w1.heap.size, 0, none⟩ = some (.slice ul m.log.length uj) ∧ w2.cell? ⟨w1.heap.size, 1, none⟩ = some (.bool m.alive) ∧ w2.cell? ⟨w1.heap.size, 2, none⟩ = some (.slice uc m.copies.length uk) ∧ w2.cell? ⟨w1.heap.size, 3, none⟩ = some (.slice ud m.cleared.length ui) ∧ w2.frozen? ⟨w1.heap.size, 0, none⟩ = false)) := by
      obtain ⟨k1, k2, k3, k4, k5, k6, u0, u1, u2, u3, uf⟩ := K1.out
      have lt : w1.heap.size < X1.heap.size := by omega
      exact ⟨k1.trans (b2.mono k1.size), k2.later b2, (k3.below b2).mono b2.size, k4.later b2, Nat.lt_of_lt_of_le lt b2.size, k6, (b2.cell (p := ⟨w1.heap.size, 0, none⟩) lt).trans u0, (b2.cell (p := ⟨w1.heap.size, 1, none⟩) lt).trans u1, (b2.cell (p := ⟨w1.heap.size, 2, none⟩) lt).trans u2, (b2.cell (p := ⟨w1.heap.size, 3, none⟩) lt).trans u3, (b2.frozen (p := ⟨w1.heap.size, 0, none⟩) lt).trans uf⟩
    clear b2 K1
    cases hR : recB r.kind r.tx r.region r.sets with
    | false =>
      have HN : Hid (appM m r = zM ∧ appB m r = false) := ⟨by simp [appM, hR], by simp [appB, hR]⟩
      obtain ⟨z0, z1, z2, z3, zf⟩ := zeroBoxM (K2.out.2.1).z
      have f0 := zf 0
      have f1 := zf 1
      have f2 := zf 2
      have f3 := zf 3
      have K := hidOf (K2.out.1)
      clear zf
      go_wp2
      refine bodyPost_ret (v := .tuple #[.agg #[.bool false, .slice none 0 0, .slice none 0 0, .slice none 0 0], .bool false]) (by simp [results, Tryz.results19, go_sem, z0, z1, z2, z3]) rfl ?_
      rw [HN.out.1, HN.out.2]
      exact MAnsB.zero ((((K.out.setCell (p := ⟨w.heap.size + 2, _, none⟩) (by dsimp only; omega) _).setCell (p := ⟨w.heap.size + 2, _, none⟩) (by dsimp only; omega) _).setCell (p := ⟨w.heap.size + 2, _, none⟩) (by dsimp only; omega) _).setCell (p := ⟨w.heap.size + 2, _, none⟩) (by dsimp only; omega) _)
    | true =>
      have hrp := rec_pos hR
      obtain ⟨-, -, -, -, q0, q1, q2, q3, -, -⟩ := K2.out.2.1
      by_cases h2 : m.log.length = 200
      · have HN : Hid (appM m r = zM ∧ appB m r = false) := ⟨by simp [appM, h2], by simp [appB, h2]⟩
        have c0 := K2.out.2.2.2.2.2.2.1
        rw [h2] at c0
        have hc := add_full w2 w1.heap.size ul uj r a cap c0 K2.out.2.2.2.2.1
        simp only [R4.val] at hc
        clear c0
        go_wp2_with fail
        refine hc.mono ?_
        clear hc q0 q1 q2 q3
        rintro e w3 ⟨rfl, b3⟩
        obtain ⟨z0, z1, z2, z3, zf⟩ := zeroBoxM (K2.out.2.1.later b3).z
        have f0 := zf 0
        have f1 := zf 1
        have f2 := zf 2
        have f3 := zf 3
        have K := hidOf (K2.out.1.trans (b3.mono K2.out.1.size))
        clear zf
        clear b3
        go_wp2
        refine bodyPost_ret (v := .tuple #[.agg #[.bool false, .slice none 0 0, .slice none 0 0, .slice none 0 0], .bool false]) (by simp [results, Tryz.results19, go_sem, z0, z1, z2, z3]) rfl ?_
        rw [HN.out.1, HN.out.2]
        exact MAnsB.zero ((((K.out.setCell (p := ⟨w.heap.size + 2, _, none⟩) (by dsimp only; omega) _).setCell (p := ⟨w.heap.size + 2, _, none⟩) (by dsimp only; omega) _).setCell (p := ⟨w.heap.size + 2, _, none⟩) (by dsimp only; omega) _).setCell (p := ⟨w.heap.size + 2, _, none⟩) (by dsimp only; omega) _)
      · have HN : Hid (appM m r = (⟨m.alive, m.copies, m.log ++ [r], m.cleared⟩ : M4) ∧ appB m r = true) := ⟨by simp [appM, hB, hR, h2], by simp [appB, hB, hR, h2]⟩
        have hlt : m.log.length < 200 := by have := hS.out.r; omega
        have hc := add_any w2 W.heap.size w1.heap.size (.slice uc m.copies.length uk) (.slice ud m.cleared.length ui) ul uj m.copies m.log m.cleared gk gr r a cap K2.out.2.2.2.1 K2.out.2.2.2.2.2.2.1 K2.out.2.2.2.2.2.2.2.2.2.2 K2.out.2.2.2.2.1 K2.out.2.2.2.2.2.1 hlt hrp.1 hrp.2 K2.out.2.2.1
        simp only [R4.val] at hc
        go_wp2_with fail
        refine hc.mono ?_
        clear hc q0 q1 q2 q3
        rintro e w3 ⟨rfl, yb, yc, gr', o0, mr3, ot, b3⟩
        obtain ⟨k1, k2, -, -, k5, k6, -, u1, u2, u3, -⟩ := K2.out
        have hgv := given_any w3 w1.heap.size m.alive (some ⟨yb, 0, none⟩) (m.log.length + 1) yc uc m.copies.length uk ud m.cleared.length ui o0 ((ot 1 (by omega)).trans u1) ((ot 2 (by omega)).trans u2) ((ot 3 (by omega)).trans u3) (Nat.lt_of_lt_of_le k5 b3.size)
        have K3 : Hid (Below w.heap.size w w3 ∧ BA w.heap.size m.alive (.slice ac m.copies.length cc) (.slice al m.log.length cl) (.slice ad m.cleared.length cd) r (.slice a r.sets.length cap) w3 ∧ MR W.heap.size w1.heap.size w3 (.slice uc m.copies.length uk) (.slice (some ⟨yb, 0, none⟩) (m.log.length + 1) yc) (.slice ud m.cleared.length ui) m.copies (m.log ++ [r]) m.cleared gk gr') := by
          have e := HSZ.out
          exact ⟨k1.trans (b3.mono (by omega)), k2.keep b3.size (fun x hx => b3.block x (by omega)), mr3⟩
        clear o0 mr3 ot b3 k1 k2 k5 k6 u1 u2 u3 K2
        go_wp2_with fail
        refine hgv.mono ?_
        clear hgv
        rintro e w4 ⟨rfl, b4⟩
        have K4 : Hid (Below w.heap.size w w4 ∧ MR W.heap.size w1.heap.size w4 (.slice uc m.copies.length uk) (.slice (some ⟨yb, 0, none⟩) (m.log.length + 1) yc) (.slice ud m.cleared.length ui) m.copies (m.log ++ [r]) m.cleared gk gr') := ⟨K3.out.1.trans (b4.mono K3.out.1.size), K3.out.2.2.later b4⟩
        obtain ⟨z0, z1, z2, z3, zf⟩ := zeroBoxM (K3.out.2.1.later b4).z
        have f0 := zf 0
        have f1 := zf 1
        have f2 := zf 2
        have f3 := zf 3
        have K := hidOf (trivial)
        clear zf
        clear b4 K
        go_wp2
        refine bodyPost_ret (v := .tuple #[.agg #[.bool m.alive, .slice uc m.copies.length uk, .slice (some ⟨yb, 0, none⟩) (m.log.length + 1) yc, .slice ud m.cleared.length ui], .bool true]) (by simp [results, Tryz.results19, go_sem, z0, z1, z2, z3]) rfl ?_
        rw [HN.out.1, HN.out.2]
        have e := HSZ.out
        exact MAnsB.of (m := (⟨m.alive, m.copies, m.log ++ [r], m.cleared⟩ : M4)) (v := ⟨uc, uk, some ⟨yb, 0, none⟩, yc, ud, ui⟩) (b := w.heap.size + 2) rfl (by simp) rfl K4.out.2 K4.out.1 (by omega) (by omega)
end Go.Proofs.YtooalbdlknheeaaGreat
