/- DrwM; Opens; OwnSets: joined. -/
import Derived.Test.YtooalbdlknheeaaGreatRows
import Derived.Test.YtooalbdlknheeaaGreatJ25LawMachines
import Derived.Test.YtooalbdlknheeaaGreatTurnAJ
import Derived.Test.YtooalbdlknheeaaGreatJ30LawMachines
import Derived.Test.YtooalbdlknheeaaGreatJ31LawMachines
import Derived.WalkKit
import Derived.Below
import Derived.Test.YtooalbdlknheeaaGreatJ0LawMachines
import Derived.ProofKit
import Derived.OpenShut
import Derived.Deep.AppendLies
import Derived.Deep.Heap
/- A machine under way in the specification's draw. -/
namespace Go.Proofs.YtooalbdlknheeaaGreat
open Go.RowKit
theorem Cur.later {w w' : World} {c : Nat} {a : Option Addr} {n k : Nat} (h : Cur w c a n k) (hb : Below w.heap.size w w') : Cur w' c a n k :=
  h.turned (c' := w.heap.size) ((Turned.refl _ _).of_below hb) (by have := h.lt; omega)
/-- Cells of numbers, read as a region's cells. -/
theorem cells_of_room {w : World} {b off m : Nat} (h : IntRoom w b 12) (hm : off + m * 2 ≤ 12) : ∃ cs : List C2, cs.length = m ∧ CellsAt w b off cs := by
  obtain ⟨cs, hl, hx⟩ := some_of (p := fun i (s : C2) => CellAt w b (off + i * 2) s) m (fun i hi => by
    obtain ⟨z0, h0, _⟩ := h (off + i * 2) (by omega)
    obtain ⟨z1, h1, _⟩ := h (off + i * 2 + 1) (by omega)
    exact ⟨⟨z0, z1⟩, h0, h1⟩)
  exact ⟨cs, hl, hx⟩
theorem room_of_ints {w : World} {b m : Nat} (h : IntRoom w b m) : Room w b m := fun j hj => by
  obtain ⟨z, h1, h2⟩ := h j hj
  exact ⟨_, h1, h2⟩
theorem MR.pushK2 {base p : Nat} {W : World} {vk vr vd : Value} {ks : List K2} {rs : List R4} {zs : List Int} {gk gr : Nat → Nat} (h : MR base p W vk vr vd ks rs zs gk gr) (hX : base ≤ W.heap.size) (hpX : p < W.heap.size) (k : K2) (q cap e : Nat) (hm : ks.length ≤ 100000) (ty : TypeId)
    (e0 : W.cell? ⟨e, 0, none⟩ = some (.int .i64 k.region)) (e1 : W.cell? ⟨e, 1, none⟩ = some (.slice (some ⟨q, 0, none⟩) k.cells.length cap)) (hat : AtK W q k) (hc : k.cells.length ≤ cap) (hq : base ≤ q) (hql : q < W.heap.size) (hfar : ∀ x, (blocksG vk ks gk x ∨ blocksG vr rs gr x ∨ vd.ownBlock = some x) → x ≠ q) (hqp : q ≠ p) :
    ∃ v' Y, (Builtin.append_ #[24, 24] ty #[vk, .slice (some ⟨e, 0, none⟩) 1 1]).run Tryz.prog W = .ok v' Y ∧ MR base p Y v' vr vd (ks ++ [k]) rs zs (fun i => if i = ks.length then q else gk i) gr ∧ W.grownBy Y vk.ownBlock := by
  obtain ⟨i0, hi0, hz0, hz1, hz2⟩ := partsOf info_cops
  obtain ⟨v', Y, hr, hg, hgr, hl⟩ := GrowG.push (hd := hdK) (ln := lnK) (sz := 2) (e := e) AtK.of_block (fun _ => rfl) Tryz.underlying24 hi0 hz0 hz1 hz2 rfl (by omega) h.gK k q cap hm ty (fun j u hu => by
    rcases j with _ | _ | j
    · simp [cellsG, hdK] at hu; subst hu; exact e0
    · simp [cellsG, hdK, lnK] at hu; subst hu; exact e1
    · simp [cellsG, hdK] at hu) hat hc hq hql (fun e' => hfar q (.inl (.inl e')) rfl) (fun i hi e' => hfar q (.inl (.inr ⟨i, hi, e'⟩)) rfl) hX
  have fR : ∀ x, x < W.heap.size → vk.ownBlock ≠ some x → Y.heap[x]? = W.heap[x]? := fun x hx hne => hgr.block x hx (fun e' => hne e'.symm)
  refine ⟨v', Y, hr, ⟨hg, h.gR.keep AtR.of_block hgr.size (fun x hx hbx => fR x hx (fun e' => h.kr x (.inl e') hbx)), owns_keep h.gD (fun x hx => fR x (owns_lt h.gD hx) (fun e' => h.kd x (.inl e') hx)), fun x hx hbx => ?_, fun x hx hbx => ?_, h.rd, fun x hx hbx => ?_, h.rp, h.dp⟩, hgr⟩
  · rcases blocks_push hl hx with hn | rfl | rfl
    · exact h.kr x hn hbx
    · exact hfar x (.inr (.inl hbx)) rfl
    · have := (h.gR.blocks hbx).2; omega
  · rcases blocks_push hl hx with hn | rfl | rfl
    · exact h.kd x hn hbx
    · exact hfar x (.inr (.inr hbx)) rfl
    · have := owns_lt h.gD hbx; omega
  · rcases blocks_push hl hx with hn | rfl | rfl
    · exact h.kp x hn hbx
    · exact hqp hbx
    · omega
theorem MR.pushR2 {base p : Nat} {W : World} {vk vr vd : Value} {ks : List K2} {rs : List R4} {zs : List Int} {gk gr : Nat → Nat} (h : MR base p W vk vr vd ks rs zs gk gr) (hX : base ≤ W.heap.size) (hpX : p < W.heap.size) (k : R4) (q cap e : Nat) (hm : rs.length ≤ 100000) (ty : TypeId)
    (e0 : W.cell? ⟨e, 0, none⟩ = some (.int .i64 k.kind)) (e1 : W.cell? ⟨e, 1, none⟩ = some (.int .i64 k.tx)) (e2 : W.cell? ⟨e, 2, none⟩ = some (.int .i64 k.region)) (e3 : W.cell? ⟨e, 3, none⟩ = some (.slice (some ⟨q, 0, none⟩) k.sets.length cap)) (hat : AtR W q k) (hc : k.sets.length ≤ cap) (hq : base ≤ q) (hql : q < W.heap.size) (hfar : ∀ x, (blocksG vk ks gk x ∨ blocksG vr rs gr x ∨ vd.ownBlock = some x) → x ≠ q) (hqp : q ≠ p) :
    ∃ v' Y, (Builtin.append_ #[25, 25] ty #[vr, .slice (some ⟨e, 0, none⟩) 1 1]).run Tryz.prog W = .ok v' Y ∧ MR base p Y vk v' vd ks (rs ++ [k]) zs gk (fun i => if i = rs.length then q else gr i) ∧ W.grownBy Y vr.ownBlock := by
  obtain ⟨i0, hi0, hz0, hz1, hz2⟩ := partsOf info_recs
  obtain ⟨v', Y, hr, hg, hgr, hl⟩ := GrowG.push (hd := hdR) (ln := lnR) (sz := 4) (e := e) AtR.of_block (fun _ => rfl) Tryz.underlying25 hi0 hz0 hz1 hz2 rfl (by omega) h.gR k q cap hm ty (fun j u hu => by
    rcases j with _ | _ | _ | _ | j
    · simp [cellsG, hdR] at hu; subst hu; exact e0
    · simp [cellsG, hdR] at hu; subst hu; exact e1
    · simp [cellsG, hdR] at hu; subst hu; exact e2
    · simp [cellsG, hdR, lnR] at hu; subst hu; exact e3
    · simp [cellsG, hdR] at hu) hat hc hq hql (fun e' => hfar q (.inr (.inl (.inl e'))) rfl) (fun i hi e' => hfar q (.inr (.inl (.inr ⟨i, hi, e'⟩))) rfl) hX
  have fR : ∀ x, x < W.heap.size → vr.ownBlock ≠ some x → Y.heap[x]? = W.heap[x]? := fun x hx hne => hgr.block x hx (fun e' => hne e'.symm)
  refine ⟨v', Y, hr, ⟨h.gK.keep AtK.of_block hgr.size (fun x hx hbx => fR x hx (fun e' => h.kr x hbx (.inl e'))), hg, owns_keep h.gD (fun x hx => fR x (owns_lt h.gD hx) (fun e' => h.rd x (.inl e') hx)), fun x hbx hx => ?_, h.kd, fun x hx hbx => ?_, h.kp, fun x hx hbx => ?_, h.dp⟩, hgr⟩
  · rcases blocks_push hl hx with hn | rfl | rfl
    · exact h.kr x hbx hn
    · exact hfar x (.inl hbx) rfl
    · have := (h.gK.blocks hbx).2; omega
  · rcases blocks_push hl hx with hn | rfl | rfl
    · exact h.rd x hn hbx
    · exact hfar x (.inr (.inr hbx)) rfl
    · have := owns_lt h.gD hbx; omega
  · rcases blocks_push hl hx with hn | rfl | rfl
    · exact h.rp x hn hbx
    · exact hqp hbx
    · omega
/-- The draw's own place: the answer's block, the machine's box, its rows, the cursor. -/
structure DI (w : World) (c Q : Nat) (a : Option Addr) (n k : Nat) (alive : Bool) (vk vr vd : Value) (ks : List K2) (rs : List R4) (zs : List Int) (gk gr : Nat → Nat) (X : World) : Prop where
  z : X.heap[w.heap.size]? = some (.cells #[.bool false, .slice none 0 0, .slice none 0 0, .slice none 0 0] 28 (0, 0))
  a0 : X.cell? ⟨Q, 0, none⟩ = some (.bool alive)
  a1 : X.cell? ⟨Q, 1, none⟩ = some vk
  a2 : X.cell? ⟨Q, 2, none⟩ = some vr
  a3 : X.cell? ⟨Q, 3, none⟩ = some vd
  af : ∀ j, X.frozen? ⟨Q, j, none⟩ = false
  mr : MR (w.heap.size + 1) Q X vk vr vd ks rs zs gk gr
  cu : Cur X c a n k
  tu : Turned c w X
  lq : w.heap.size < Q ∧ Q < X.heap.size ∧ c < w.heap.size
  ml : ML ⟨alive, ks, rs, zs⟩
theorem DI.step {w : World} {c Q : Nat} {a : Option Addr} {n k : Nat} {alive : Bool} {vk vr vd : Value} {ks : List K2} {rs : List R4} {zs : List Int} {gk gr : Nat → Nat} {X Y : World} (h : DI w c Q a n k alive vk vr vd ks rs zs gk gr X) (hc : Cur Y c a n k) (ht : Turned c X Y) : DI w c Q a n k alive vk vr vd ks rs zs gk gr Y := by
  obtain ⟨l1, l2, l3⟩ := h.lq
  have hq : Q ≠ c := by omega
  exact ⟨(ht.block _ (by omega) (by omega)).trans h.z, (ht.cell (p := ⟨Q, 0, none⟩) l2 hq).trans h.a0, (ht.cell (p := ⟨Q, 1, none⟩) l2 hq).trans h.a1, (ht.cell (p := ⟨Q, 2, none⟩) l2 hq).trans h.a2, (ht.cell (p := ⟨Q, 3, none⟩) l2 hq).trans h.a3, fun j => (ht.frozen (p := ⟨Q, j, none⟩) l2 hq).trans (h.af j), h.mr.keep ht.size (fun q h1 h2 _ => ht.block q h1 (by omega)), hc, h.tu.trans ht, ⟨l1, Nat.lt_of_lt_of_le l2 ht.size, l3⟩, h.ml⟩
theorem DI.later {w : World} {c Q : Nat} {a : Option Addr} {n k : Nat} {alive : Bool} {vk vr vd : Value} {ks : List K2} {rs : List R4} {zs : List Int} {gk gr : Nat → Nat} {X Y : World} (h : DI w c Q a n k alive vk vr vd ks rs zs gk gr X) (hb : Below X.heap.size X Y) : DI w c Q a n k alive vk vr vd ks rs zs gk gr Y := h.step (h.cu.later hb) ((Turned.refl _ _).of_below hb)
/-- All blocks of the machine under way lie below the end of memory. -/
theorem DI.old {w : World} {c Q : Nat} {a : Option Addr} {n k : Nat} {alive : Bool} {vk vr vd : Value} {ks : List K2} {rs : List R4} {zs : List Int} {gk gr : Nat → Nat} {X : World} (h : DI w c Q a n k alive vk vr vd ks rs zs gk gr X) : ∀ x, (blocksG vk ks gk x ∨ blocksG vr rs gr x ∨ vd.ownBlock = some x) → x < X.heap.size := fun _ hx => hx.elim (fun e => (h.mr.gK.blocks e).2) (fun e => e.elim (fun e => (h.mr.gR.blocks e).2) (fun e => owns_lt h.mr.gD e))
theorem DI.put1 {w : World} {c Q : Nat} {a : Option Addr} {n k : Nat} {alive : Bool} {vk vr vd : Value} {ks : List K2} {rs : List R4} {zs : List Int} {gk gr : Nat → Nat} {X Y : World} {v' : Value} {ks' : List K2} {gk' : Nat → Nat} (h : DI w c Q a n k alive vk vr vd ks rs zs gk gr X) (hg : X.grownBy Y vk.ownBlock) (hm : MR (w.heap.size + 1) Q Y v' vr vd ks' rs zs gk' gr) (hml : ML ⟨alive, ks', rs, zs⟩) : DI w c Q a n k alive v' vr vd ks' rs zs gk' gr (Y.setCell ⟨Q, 1, none⟩ v') := by
  obtain ⟨l1, l2, l3⟩ := h.lq
  have low : ∀ x, vk.ownBlock = some x → w.heap.size + 1 ≤ x ∧ x ≠ Q := fun x e => ⟨(h.mr.gK.lies e).1, h.mr.kp x (.inl e)⟩
  have hk : ∀ x, x < X.heap.size → (x < w.heap.size + 1 ∨ x = Q) → Y.heap[x]? = X.heap[x]? := fun x hx hx' => hg.block x hx (fun e => by have := low x e.symm; omega)
  have hQ := hk Q l2 (.inr rfl)
  have hc0 : Y.cell? ⟨Q, 0, none⟩ = X.cell? ⟨Q, 0, none⟩ := World.cell?_of_block (a := ⟨Q, 0, none⟩) hQ
  have hc1 : Y.cell? ⟨Q, 1, none⟩ = X.cell? ⟨Q, 1, none⟩ := World.cell?_of_block (a := ⟨Q, 1, none⟩) hQ
  have hc2 : Y.cell? ⟨Q, 2, none⟩ = X.cell? ⟨Q, 2, none⟩ := World.cell?_of_block (a := ⟨Q, 2, none⟩) hQ
  have hc3 : Y.cell? ⟨Q, 3, none⟩ = X.cell? ⟨Q, 3, none⟩ := World.cell?_of_block (a := ⟨Q, 3, none⟩) hQ
  have tY : Turned c w Y := h.tu.grown hg (fun x e => by have := low x e; omega)
  have cY : Cur Y c a n k := by
    obtain ⟨j, u, q1, q2, q3, q4, q5, q6, q7⟩ := h.cu
    have hb := hk c (by omega) (.inl (by omega))
    exact ⟨j, u, Nat.lt_of_lt_of_le q1 hg.size, q2, (World.cell?_of_block (a := ⟨c, 0, none⟩) hb).trans q3, (World.cell?_of_block (a := ⟨c, 1, none⟩) hb).trans q4, (World.cell?_of_block (a := ⟨c, 2, none⟩) hb).trans q5, (World.frozen?_of_block (a := ⟨c, 1, none⟩) hb).trans q6, (World.frozen?_of_block (a := ⟨c, 2, none⟩) hb).trans q7⟩
  refine ⟨(Below.heap_setCell _ _ _ _ (by show w.heap.size ≠ Q; omega)).trans ((hk _ (by omega) (.inl (by omega))).trans h.z), (cell_set_other (by omega)).trans (hc0.trans h.a0), cell_set_same (hc1.trans h.a1), (cell_set_other (by omega)).trans (hc2.trans h.a2), (cell_set_other (by omega)).trans (hc3.trans h.a3), fun j => by rw [World.frozen?_setCell]; exact (World.frozen?_of_block (a := ⟨Q, j, none⟩) hQ).trans (h.af j), hm.set, cY.put (by omega) _ _, tY.put (by omega) _ _, ⟨l1, by simp only [World.setCell, Array.size_modify]; exact Nat.lt_of_lt_of_le l2 hg.size, l3⟩, hml⟩
theorem DI.put2 {w : World} {c Q : Nat} {a : Option Addr} {n k : Nat} {alive : Bool} {vk vr vd : Value} {ks : List K2} {rs : List R4} {zs : List Int} {gk gr : Nat → Nat} {X Y : World} {v' : Value} {rs' : List R4} {gr' : Nat → Nat} (h : DI w c Q a n k alive vk vr vd ks rs zs gk gr X) (hg : X.grownBy Y vr.ownBlock) (hm : MR (w.heap.size + 1) Q Y vk v' vd ks rs' zs gk gr') (hml : ML ⟨alive, ks, rs', zs⟩) : DI w c Q a n k alive vk v' vd ks rs' zs gk gr' (Y.setCell ⟨Q, 2, none⟩ v') := by
  obtain ⟨l1, l2, l3⟩ := h.lq
  have low : ∀ x, vr.ownBlock = some x → w.heap.size + 1 ≤ x ∧ x ≠ Q := fun x e => ⟨(h.mr.gR.lies e).1, h.mr.rp x (.inl e)⟩
  have hk : ∀ x, x < X.heap.size → (x < w.heap.size + 1 ∨ x = Q) → Y.heap[x]? = X.heap[x]? := fun x hx hx' => hg.block x hx (fun e => by have := low x e.symm; omega)
  have hQ := hk Q l2 (.inr rfl)
  have hc0 : Y.cell? ⟨Q, 0, none⟩ = X.cell? ⟨Q, 0, none⟩ := World.cell?_of_block (a := ⟨Q, 0, none⟩) hQ
  have hc1 : Y.cell? ⟨Q, 1, none⟩ = X.cell? ⟨Q, 1, none⟩ := World.cell?_of_block (a := ⟨Q, 1, none⟩) hQ
  have hc2 : Y.cell? ⟨Q, 2, none⟩ = X.cell? ⟨Q, 2, none⟩ := World.cell?_of_block (a := ⟨Q, 2, none⟩) hQ
  have hc3 : Y.cell? ⟨Q, 3, none⟩ = X.cell? ⟨Q, 3, none⟩ := World.cell?_of_block (a := ⟨Q, 3, none⟩) hQ
  have tY : Turned c w Y := h.tu.grown hg (fun x e => by have := low x e; omega)
  have cY : Cur Y c a n k := by
    obtain ⟨j, u, q1, q2, q3, q4, q5, q6, q7⟩ := h.cu
    have hb := hk c (by omega) (.inl (by omega))
    exact ⟨j, u, Nat.lt_of_lt_of_le q1 hg.size, q2, (World.cell?_of_block (a := ⟨c, 0, none⟩) hb).trans q3, (World.cell?_of_block (a := ⟨c, 1, none⟩) hb).trans q4, (World.cell?_of_block (a := ⟨c, 2, none⟩) hb).trans q5, (World.frozen?_of_block (a := ⟨c, 1, none⟩) hb).trans q6, (World.frozen?_of_block (a := ⟨c, 2, none⟩) hb).trans q7⟩
  refine ⟨(Below.heap_setCell _ _ _ _ (by show w.heap.size ≠ Q; omega)).trans ((hk _ (by omega) (.inl (by omega))).trans h.z), (cell_set_other (by omega)).trans (hc0.trans h.a0), (cell_set_other (by omega)).trans (hc1.trans h.a1), cell_set_same (hc2.trans h.a2), (cell_set_other (by omega)).trans (hc3.trans h.a3), fun j => by rw [World.frozen?_setCell]; exact (World.frozen?_of_block (a := ⟨Q, j, none⟩) hQ).trans (h.af j), hm.set, cY.put (by omega) _ _, tY.put (by omega) _ _, ⟨l1, by simp only [World.setCell, Array.size_modify]; exact Nat.lt_of_lt_of_le l2 hg.size, l3⟩, hml⟩
theorem DI.put3 {w : World} {c Q : Nat} {a : Option Addr} {n k : Nat} {alive : Bool} {vk vr vd : Value} {ks : List K2} {rs : List R4} {zs : List Int} {gk gr : Nat → Nat} {X Y : World} {v' : Value} {zs' : List Int} (h : DI w c Q a n k alive vk vr vd ks rs zs gk gr X) (hg : X.grownBy Y vd.ownBlock) (hm : MR (w.heap.size + 1) Q Y vk vr v' ks rs zs' gk gr) (hml : ML ⟨alive, ks, rs, zs'⟩) : DI w c Q a n k alive vk vr v' ks rs zs' gk gr (Y.setCell ⟨Q, 3, none⟩ v') := by
  obtain ⟨l1, l2, l3⟩ := h.lq
  have low : ∀ x, vd.ownBlock = some x → w.heap.size + 1 ≤ x ∧ x ≠ Q := fun x e => ⟨(World.ownsRow.lt h.mr.gD x e).1, fun e' => h.mr.dp (e' ▸ e)⟩
  have hk : ∀ x, x < X.heap.size → (x < w.heap.size + 1 ∨ x = Q) → Y.heap[x]? = X.heap[x]? := fun x hx hx' => hg.block x hx (fun e => by have := low x e.symm; omega)
  have hQ := hk Q l2 (.inr rfl)
  have hc0 : Y.cell? ⟨Q, 0, none⟩ = X.cell? ⟨Q, 0, none⟩ := World.cell?_of_block (a := ⟨Q, 0, none⟩) hQ
  have hc1 : Y.cell? ⟨Q, 1, none⟩ = X.cell? ⟨Q, 1, none⟩ := World.cell?_of_block (a := ⟨Q, 1, none⟩) hQ
  have hc2 : Y.cell? ⟨Q, 2, none⟩ = X.cell? ⟨Q, 2, none⟩ := World.cell?_of_block (a := ⟨Q, 2, none⟩) hQ
  have hc3 : Y.cell? ⟨Q, 3, none⟩ = X.cell? ⟨Q, 3, none⟩ := World.cell?_of_block (a := ⟨Q, 3, none⟩) hQ
  have tY : Turned c w Y := h.tu.grown hg (fun x e => by have := low x e; omega)
  have cY : Cur Y c a n k := by
    obtain ⟨j, u, q1, q2, q3, q4, q5, q6, q7⟩ := h.cu
    have hb := hk c (by omega) (.inl (by omega))
    exact ⟨j, u, Nat.lt_of_lt_of_le q1 hg.size, q2, (World.cell?_of_block (a := ⟨c, 0, none⟩) hb).trans q3, (World.cell?_of_block (a := ⟨c, 1, none⟩) hb).trans q4, (World.cell?_of_block (a := ⟨c, 2, none⟩) hb).trans q5, (World.frozen?_of_block (a := ⟨c, 1, none⟩) hb).trans q6, (World.frozen?_of_block (a := ⟨c, 2, none⟩) hb).trans q7⟩
  refine ⟨(Below.heap_setCell _ _ _ _ (by show w.heap.size ≠ Q; omega)).trans ((hk _ (by omega) (.inl (by omega))).trans h.z), (cell_set_other (by omega)).trans (hc0.trans h.a0), (cell_set_other (by omega)).trans (hc1.trans h.a1), (cell_set_other (by omega)).trans (hc2.trans h.a2), cell_set_same (hc3.trans h.a3), fun j => by rw [World.frozen?_setCell]; exact (World.frozen?_of_block (a := ⟨Q, j, none⟩) hQ).trans (h.af j), hm.set, cY.put (by omega) _ _, tY.put (by omega) _ _, ⟨l1, by simp only [World.setCell, Array.size_modify]; exact Nat.lt_of_lt_of_le l2 hg.size, l3⟩, hml⟩
/-- A machine under way, of so many of each. -/
def DX (w : World) (c Q : Nat) (a : Option Addr) (n k : Nat) (alive : Bool) (N : Nat) (X : World) : Prop := ∃ (vk vr vd : Value) (ks : List K2) (rs : List R4) (zs : List Int) (gk gr : Nat → Nat), DI w c Q a n k alive vk vr vd ks rs zs gk gr X ∧ ks.length ≤ N ∧ rs.length ≤ N ∧ zs.length ≤ N
theorem DX.step {w : World} {c Q : Nat} {a : Option Addr} {n k : Nat} {alive : Bool} {N : Nat} {X Y : World} (h : DX w c Q a n k alive N X) (hc : Cur Y c a n k) (ht : Turned c X Y) : DX w c Q a n k alive N Y := by
  obtain ⟨vk, vr, vd, ks, rs, zs, gk, gr, h, b⟩ := h
  exact ⟨vk, vr, vd, ks, rs, zs, gk, gr, h.step hc ht, b⟩
theorem DX.mono {w : World} {c Q : Nat} {a : Option Addr} {n k : Nat} {alive : Bool} {N M : Nat} {X : World} (h : DX w c Q a n k alive N X) (hM : N ≤ M) : DX w c Q a n k alive M X := by
  obtain ⟨vk, vr, vd, ks, rs, zs, gk, gr, h, b1, b2, b3⟩ := h
  exact ⟨vk, vr, vd, ks, rs, zs, gk, gr, h, by omega, by omega, by omega⟩
theorem DX.cu {w : World} {c Q : Nat} {a : Option Addr} {n k : Nat} {alive : Bool} {N : Nat} {X : World} (h : DX w c Q a n k alive N X) : Cur X c a n k ∧ Turned c w X := by
  obtain ⟨vk, vr, vd, ks, rs, zs, gk, gr, h, _⟩ := h
  exact ⟨h.cu, h.tu⟩
theorem ML.pushK {alive : Bool} {ks : List K2} {rs : List R4} {zs : List Int} (h : ML ⟨alive, ks, rs, zs⟩) (k : K2) (hk : k.cells.length ≤ maxLen) (hl : ks.length ≤ 100000) : ML ⟨alive, ks ++ [k], rs, zs⟩ :=
  ⟨by simp only [List.length_append, List.length_cons, List.length_nil]; unfold maxLen; omega, fun r hr => by
    rcases List.mem_append.1 hr with hr | hr
    · exact h.ks r hr
    · simp at hr; subst hr; exact hk, h.r, h.rs, h.n⟩
theorem ML.pushR {alive : Bool} {ks : List K2} {rs : List R4} {zs : List Int} (h : ML ⟨alive, ks, rs, zs⟩) (k : R4) (hk : k.sets.length ≤ maxLen) (hl : rs.length ≤ 100000) : ML ⟨alive, ks, rs ++ [k], zs⟩ :=
  ⟨h.k, h.ks, by simp only [List.length_append, List.length_cons, List.length_nil]; unfold maxLen; omega, fun r hr => by
    rcases List.mem_append.1 hr with hr | hr
    · exact h.rs r hr
    · simp at hr; subst hr; exact hk, h.n⟩
end Go.Proofs.YtooalbdlknheeaaGreat
/- An argument that is a Set, opened: its value is five plain cells, each number of its kind. -/
namespace Go.Proofs.YtooalbdlknheeaaGreat
open Go.ChangeShapes Go.WideShapes Go.ChangeAt Go.RowKit
def S5.cells (s : S5) : List Value := [.int .i64 s.region, .int .i64 s.slot, .int .i64 s.value, .bool s.used, .int .i64 s.version]
def S5.wf (s : S5) : Prop := (Lit.int .i64 s.region).wf = true ∧ (Lit.int .i64 s.slot).wf = true ∧ (Lit.int .i64 s.value).wf = true ∧ (Lit.int .i64 s.version).wf = true
theorem list5 {α : Type} {cs : List α} (h : cs.length = 5) : ∃ c0 c1 c2 c3 c4, cs = [c0, c1, c2, c3, c4] := by
  match cs, h with
  | [c0, c1, c2, c3, c4], _ => exact ⟨c0, c1, c2, c3, c4, rfl⟩
theorem cells_set : Tryz.prog.cellsOf 175 = 5 := by kernel_rfl
theorem cells_int : Tryz.prog.cellsOf 2 = 1 := by kernel_rfl
theorem cells_bool : Tryz.prog.cellsOf 4 = 1 := by kernel_rfl
theorem open_set {H : Type} {enc : TypeId × Value → H} {w : World} {base : Nat} {spare : Nat → Bool} {held : Bool} {fuel : Nat} {cs : List Value} {x : DataW H × List MemPlace}
    (h : DataW.trod enc Tryz.prog w base spare held fuel 175 cs = some x) : ∃ s : S5, cs = s.cells ∧ s.wf := by
  obtain ⟨xs, n, _, rfl, hl, hlen, hf⟩ := DataW.trod_struct Tryz.underlying175 h
  rw [cells_set] at hl
  obtain ⟨c0, c1, c2, c3, c4, rfl⟩ := list5 hl
  obtain ⟨y0, y1, y2, y3, y4, rfl⟩ := list5 hlen
  have h0 := hf 0 _ rfl
  have h1 := hf 1 _ rfl
  have h2 := hf 2 _ rfl
  have h3 := hf 3 _ rfl
  have h4 := hf 4 _ rfl
  simp [cells_int, cells_bool] at h0 h1 h2 h3 h4
  obtain ⟨z0, e0, _, f0⟩ := DataW.trod_int Tryz.underlying2 h0
  obtain ⟨z1, e1, _, f1⟩ := DataW.trod_int Tryz.underlying2 h1
  obtain ⟨z2, e2, _, f2⟩ := DataW.trod_int Tryz.underlying2 h2
  obtain ⟨z3, e3, _⟩ := DataW.trod_bool Tryz.underlying4 h3
  obtain ⟨z4, e4, _, f4⟩ := DataW.trod_int Tryz.underlying2 h4
  simp at e0 e1 e2 e3 e4
  subst e0 e1 e2 e3 e4
  exact ⟨⟨z0, z1, z2, z3, z4⟩, rfl, f0, f1, f2, f4⟩
end Go.Proofs.YtooalbdlknheeaaGreat
/- Rows of Sets that a call owns, read as Sets in memory. -/
namespace Go.Proofs.YtooalbdlknheeaaGreat
open Go.RowKit
theorem flat5 : ∀ (xs : List S5) (i : Nat) (s : S5) (j : Nat), xs[i]? = some s → j < 5 → (xs.flatMap S5.cells)[i * 5 + j]? = s.cells[j]?
  | [], i, s, j, h, _ => by simp at h
  | x :: xs, 0, s, j, h, hj => by
    simp at h
    subst h
    rw [List.flatMap_cons, List.getElem?_append_left (by simp [S5.cells]; omega)]
    simp
  | x :: xs, i + 1, s, j, h, hj => by
    have hl : x.cells.length = 5 := rfl
    rw [List.flatMap_cons, List.getElem?_append_right (by rw [hl]; omega), hl, show (i + 1) * 5 + j - 5 = i * 5 + j by omega]
    exact flat5 xs i s j (by simpa using h) hj
theorem own_sets {w : World} {B : Nat} {t : TypeId} {g n cap : Nat} {xs : List S5} (h : w.ownsRow B t 5 (.slice (some ⟨g, 0, none⟩) n cap) n (xs.flatMap S5.cells)) : SetsAt w g 0 xs := by
  have key : ∀ (j : Nat) (u : Value), (xs.flatMap S5.cells)[j]? = some u → w.cell? ⟨g, j, none⟩ = some u := by
    intro j u e
    rcases h.2 with ⟨h0, _⟩ | ⟨g', cap', cur, hv, _, hg, _, _, _, ht⟩
    · cases h0
    · cases hv
      rw [cell_of_row w g j cur t (0, 0) hg]
      rw [← ht, List.getElem?_take] at e
      split at e
      · simpa using e
      · cases e
  intro i s e
  have f := fun j hj => flat5 xs i s j e hj
  rw [Nat.zero_add]
  exact ⟨key _ _ (by simpa [S5.cells] using f 0 (by omega)), key _ _ (by simpa [S5.cells] using f 1 (by omega)), key _ _ (by simpa [S5.cells] using f 2 (by omega)), key _ _ (by simpa [S5.cells] using f 3 (by omega)), key _ _ (by simpa [S5.cells] using f 4 (by omega))⟩
theorem own_room {w : World} {B : Nat} {t : TypeId} {g n cap : Nat} {vs : List Value} (h : w.ownsRow B t 5 (.slice (some ⟨g, 0, none⟩) n cap) n vs) : Room w g (n * 5) := by
  intro j hj
  rcases h.2 with ⟨h0, _⟩ | ⟨g', cap', cur, hv, _, hg, hn, _, hc, ht⟩
  · cases h0
  · cases hv
    have hlt : j < cur.size := by
      have : n * 5 ≤ cap * 5 := Nat.mul_le_mul_right 5 hn
      omega
    refine ⟨cur[j], ?_, ?_⟩
    · rw [cell_of_row w g j cur t (0, 0) hg, Array.getElem?_eq_getElem hlt]
    · simp [World.frozen?, hg]
theorem own_sl {w : World} {B : Nat} {t : TypeId} {a : Option Addr} {n cap : Nat} {xs : List S5} (h : w.ownsRow B t 5 (.slice a n cap) n (xs.flatMap S5.cells)) : n = 0 ∨ ∃ b, a = some ⟨b, 0, none⟩ ∧ B ≤ b ∧ b < w.heap.size ∧ SetsAt w b 0 xs ∧ Room w b (n * 5) := by
  rcases h.2 with ⟨_, h0⟩ | ⟨g, cap', cur, hv, _⟩
  · exact .inl h0
  · obtain ⟨rfl, _, _⟩ : a = some ⟨g, 0, none⟩ ∧ True ∧ True := by cases hv; exact ⟨rfl, trivial, trivial⟩
    exact .inr ⟨g, rfl, (h.lt g rfl).1, (h.lt g rfl).2, own_sets h, own_room h⟩
end Go.Proofs.YtooalbdlknheeaaGreat
