/- TakeA; NumOwn; CpyG; CpyS; Givn; YNoA; YRowA; YOwnP; YOwnTi; OwCl: joined. -/
import Derived.Test.YtnhjgomfkfehgaaGreatDoorRows
import Derived.Test.YtnhjgomfkfehgaaGreatDoorJ7ExactBegin
import Derived.WalkKit
import Derived.WalkSpells
import Derived.WalkLawsBesides
import Derived.Below
import Derived.Test.YtnhjgomfkfehgaaGreatDoorJ2ExactBegin
import Derived.Maps.AppendAt
import Derived.Laws.OwnMore
import Derived.Deep.AppendLies
import Derived.Test.YtnhjgomfkfehgaaGreatDoorJ6ExactBegin
import Derived.Test.YtnhjgomfkfehgaaGreatDoorJ3ExactBegin
import Derived.Test.YtnhjgomfkfehgaaGreatDoorJ4ExactBegin
import Derived.Lib.QuietBelow
import Derived.BigQuiet
import Derived.Deep.CutRange
import Derived.Deep.Heap
import Derived.Deep.Upon
import Derived.Lib.SliceRun
namespace Go.Proofs.YtnhjgomfkfehgaaGreatDoor
open Go.RowKit
theorem MSm.of_mach {m : M4} (h : machB m = true) : MSm m := by
  simp only [machB, Bool.and_eq_true, decide_eq_true_eq] at h
  obtain ⟨⟨⟨⟨⟨h1, h2⟩, h3⟩, _⟩, h4⟩, h5⟩ := h
  refine ⟨h1, fun c hc => ?_, h2, fun c hc => ?_, h3⟩
  · obtain ⟨i, hi, rfl⟩ := List.getElem_of_mem hc
    have := List.all_eq_true.1 h4 i (List.mem_range.2 hi)
    simp only [copB, atK, List.getElem?_eq_getElem hi, Option.getD_some, Bool.and_eq_true, cellsB, decide_eq_true_eq] at this
    exact this.1.2.1
  · obtain ⟨i, hi, rfl⟩ := List.getElem_of_mem hc
    have := List.all_eq_true.1 h5 i (List.mem_range.2 hi)
    simp only [logB, atR, List.getElem?_eq_getElem hi, Option.getD_some, Bool.and_eq_true, recB, decide_eq_true_eq] at this
    exact ⟨this.1.1.1.2, this.1.1.2⟩
theorem GrowG.mono {α : Type} {T : TypeId} {sz : Nat} {hd : α → List Int} {ln : α → Nat} {At : World → Nat → α → Prop} {w : World} {base base' : Nat} {v : Value} {rs : List α} {g : Nat → Nat} (h : GrowG T sz hd ln At w base v rs g) (hb : base' ≤ base) : GrowG T sz hd ln At w base' v rs g := by
  obtain ⟨caps, ho, hc⟩ := h.row
  refine ⟨⟨caps, ⟨ho.1, ho.2.imp id ?_⟩, hc⟩, fun i hi => Nat.le_trans hb (h.low i hi), h.lt, h.ne, h.sub, h.inj⟩
  rintro ⟨q, cap, cur, rfl, l, r⟩
  exact ⟨q, cap, cur, rfl, Nat.le_trans hb l, r⟩
theorem MR.mono {base base' p : Nat} {X : World} {vk vr vd : Value} {ks : List K2} {rs : List R4} {zs : List Int} {gk gr : Nat → Nat} (h : MR base p X vk vr vd ks rs zs gk gr) (hb : base' ≤ base) : MR base' p X vk vr vd ks rs zs gk gr := by
  refine ⟨h.gK.mono hb, h.gR.mono hb, ⟨h.gD.1, h.gD.2.imp id ?_⟩, h.kr, h.kd, h.rd, h.kp, h.rp, h.dp⟩
  rintro ⟨q, cap, cur, rfl, l, r⟩
  exact ⟨q, cap, cur, rfl, Nat.le_trans hb l, r⟩
theorem MR.out {base p p' : Nat} {X : World} {vk vr vd : Value} {ks : List K2} {rs : List R4} {zs : List Int} {gk gr : Nat → Nat} (h : MR base p X vk vr vd ks rs zs gk gr) (hp : p' < base ∨ X.heap.size ≤ p') : MR base p' X vk vr vd ks rs zs gk gr :=
  ⟨h.gK, h.gR, h.gD, h.kr, h.kd, h.rd, fun q hq e => by have := h.gK.blocks hq; omega, fun q hq e => by have := h.gR.blocks hq; omega, fun e => by have := World.ownsRow.lt h.gD _ e; omega⟩
def ON (w : World) (base : Nat) (v : Value) (zs : List Int) : Prop := w.ownsRow base 2 1 v zs.length (zs.map (Value.int .i64))
theorem ON.nil (w : World) (base : Nat) : ON w base (.slice none 0 0) [] := World.ownsRow_nil w base _ 1
theorem ON.empty (w : World) : ON (w.alloc (.cells #[] 2)) w.heap.size (.slice (some ⟨w.heap.size, 0, none⟩) 0 0) [] := World.ownsRow_made w #[] 0 (Nat.le_refl _) (Nat.zero_le _) rfl
theorem ON.lower {w : World} {base base' : Nat} {v : Value} {zs : List Int} (h : ON w base v zs) (hb : base' ≤ base) : ON w base' v zs :=
  ⟨h.1, h.2.imp id (fun ⟨g', cap', cur, e, l, r⟩ => ⟨g', cap', cur, e, Nat.le_trans hb l, r⟩)⟩
theorem ON.form {w : World} {base : Nat} {v : Value} {zs : List Int} (h : ON w base v zs) : (v = .slice none 0 0 ∧ zs = []) ∨ ∃ g cap, v = .slice (some ⟨g, 0, none⟩) zs.length cap ∧ base ≤ g ∧ g < w.heap.size ∧ zs.length ≤ cap ∧ NumsAt w g 0 zs ∧ Room w g zs.length := by
  rcases h.2 with ⟨e, h0⟩ | ⟨g, cap, cur, rfl, hb, hg, hc, _⟩
  · exact .inl ⟨e, List.eq_nil_of_length_eq_zero h0⟩
  · refine .inr ⟨g, cap, rfl, hb, ?_, hc, fun i z e => ?_, fun i hi => ?_⟩
    · exact (World.ownsRow.lt h g rfl).2
    · have hi : i < zs.length := (List.getElem?_eq_some_iff.1 e).1
      rw [Nat.zero_add, World.ownsRow.cellAt h i (by omega)]
      rw [List.getElem?_map, e]; rfl
    · refine ⟨.int .i64 zs[i], ?_, World.ownsRow.frozenAt h i⟩
      rw [World.ownsRow.cellAt h i (by omega)]
      simp [hi]
theorem ON.kept {w w' : World} {base : Nat} {v : Value} {zs : List Int} (h : ON w base v zs) (hs : ∀ q, v.ownBlock = some q → w'.heap[q]? = w.heap[q]?) : ON w' base v zs := by
  refine ⟨h.1, h.2.imp id ?_⟩
  rintro ⟨g, cap, cur, rfl, l, hg, r⟩
  exact ⟨g, cap, cur, rfl, l, (hs g rfl).trans hg, r⟩
theorem ON.below {w w' : World} {base : Nat} {v : Value} {zs : List Int} (h : ON w base v zs) (hb : Below w.heap.size w w') : ON w' base v zs :=
  h.kept fun q e => hb.block q (World.ownsRow.lt h q e).2
theorem info_i64 : (Tryz.prog.info? 2).map (fun i => (i.zero, i.size, i.bytes)) = some (some (.int .i64 0), 1, 8) := by kernel_rfl
theorem on_append (W : World) (base : Nat) (v : Value) (zs ys : List Int) (b off k : Nat) (ty : TypeId) (h : ON W base v zs) (hx : NumsAt W b off ys) (hm : zs.length + ys.length ≤ 100000) (hbase : base ≤ W.heap.size) :
    ∃ v' W', (Builtin.append_ #[60, 60] ty #[v, .slice (some ⟨b, off, none⟩) ys.length k]).run Tryz.prog W = .ok v' W' ∧ ON W' base v' (zs ++ ys) ∧ W.grownBy W' v.ownBlock ∧ (v'.ownBlock = v.ownBlock ∨ v'.ownBlock = some W.heap.size) := by
  obtain ⟨i0, hi0, hz0, hz1, hz2⟩ := info_parts info_i64
  have hadd : ∀ (b o j : Nat), (⟨b, o, none⟩ : Addr).add j = ⟨b, o + j, none⟩ := fun b o j => by unfold Addr.add; split <;> simp_all
  obtain ⟨v', w', hrun, hown, hg, _, hl⟩ := run_append_own_at (P := Tryz.prog) W base 60 ty 2 i0 (.int .i64 0) 1 8 Tryz.underlying60 hi0 hz0 hz1 hz2 rfl (by decide)
    v zs.length _ h ⟨b, off, none⟩ ys.length k (ys.map (Value.int .i64)) (by simp) (fun j u h => by
      rw [List.getElem?_map] at h
      cases hx' : ys[j]? with
      | none => rw [hx'] at h; cases h
      | some x => rw [hx'] at h; simp at h; subst h; rw [hadd]; exact hx j x hx')
    (fun u hu => by obtain ⟨x, _, rfl⟩ := List.mem_map.1 hu; rfl) (by unfold maxLen; omega) (by omega) hbase
  refine ⟨v', w', hrun, ?_, hg, hl⟩
  unfold ON
  rw [List.map_append, List.length_append]
  exact hown
end Go.Proofs.YtnhjgomfkfehgaaGreatDoor
namespace Go.Proofs.YtnhjgomfkfehgaaGreatDoor
open Go.RowKit
open Go.Sort (grow)
structure CSm (k : C6) : Prop where
  p : k.places.length ≤ 6
  ps : ∀ zs ∈ k.places, 0 < zs.length ∧ zs.length ≤ 3
  m : k.machines.length ≤ 8
  ms : ∀ m ∈ k.machines, MSm m
  t : k.txs.length ≤ 60
  ts : ∀ t ∈ k.txs, t.reads.length ≤ 12 ∧ t.sets.length ≤ 12
theorem CSm.of {k : C6} (h : clusterB k = true) : CSm k := by
  simp only [clusterB, placesB, machsB, txsB, Bool.and_eq_true, decide_eq_true_eq] at h
  obtain ⟨⟨⟨⟨⟨⟨⟨⟨_, _⟩, _⟩, h4⟩, ⟨_, h5⟩, h6⟩, h7⟩, h8⟩, _⟩, h9⟩ := h
  refine ⟨h5, fun zs hz => ?_, h4, fun m hm => ?_, h7, fun t ht => ?_⟩
  · obtain ⟨i, hi, rfl⟩ := List.getElem_of_mem hz
    have := List.all_eq_true.1 h6 i (List.mem_range.2 hi)
    simp only [atP, List.getElem?_eq_getElem hi, Option.getD_some, placeB, Bool.and_eq_true, decide_eq_true_eq] at this
    omega
  · obtain ⟨i, hi, rfl⟩ := List.getElem_of_mem hm
    have := List.all_eq_true.1 h8 i (List.mem_range.2 hi)
    simp only [atM, List.getElem?_eq_getElem hi, Option.getD_some] at this
    exact MSm.of_mach this
  · obtain ⟨i, hi, rfl⟩ := List.getElem_of_mem ht
    have := List.all_eq_true.1 h9 i (List.mem_range.2 hi)
    simp only [txAtB, tx.txB, atT, List.getElem?_eq_getElem hi, Option.getD_some, Bool.and_eq_true, decide_eq_true_eq] at this
    omega
structure CSt (w : World) (A Z : List Value) (k : C6) (X : World) (vp vm vt : Value) (ps : List ((Nat × Nat) × List Int)) (gp : Nat → Nat → Prop) (ms : List (MV × M4)) (gm : Nat → Nat → Prop) (ts : List (tx.TV × tx.T7)) (gt : Nat → Nat → Prop) : Prop where
  arg : Bx X w.heap.size A
  res : Bx X (w.heap.size + 1) Z
  own : Bx X (w.heap.size + 2) [.int .i64 k.config, .int .i64 k.clock, vp, vm, vt, .bool k.lost]
  rows : CL3 (w.heap.size + 3) (w.heap.size + 2) X vp vm vt ps gp ms gm ts gt
  bel : Below w.heap.size w X
theorem CSt.later {w : World} {A Z : List Value} {k : C6} {X Y : World} {vp vm vt : Value} {ps : List ((Nat × Nat) × List Int)} {gp : Nat → Nat → Prop} {ms : List (MV × M4)} {gm : Nat → Nat → Prop} {ts : List (tx.TV × tx.T7)} {gt : Nat → Nat → Prop} (h : CSt w A Z k X vp vm vt ps gp ms gm ts gt) (b : Below X.heap.size X Y) : CSt w A Z k Y vp vm vt ps gp ms gm ts gt := ⟨h.arg.later b, h.res.later b, h.own.later b, h.rows.later b, bstep h.bel b⟩
theorem CSt.pushP {w : World} {A Z : List Value} {k : C6} {X W : World} {vp vm vt : Value} {ps : List ((Nat × Nat) × List Int)} {gp : Nat → Nat → Prop} {ms : List (MV × M4)} {gm : Nat → Nat → Prop} {ts : List (tx.TV × tx.T7)} {gt : Nat → Nat → Prop} (h : CSt w A Z k X vp vm vt ps gp ms gm ts gt) (hb : Below X.heap.size X W) (x : Nat × Nat) (d : List Int) (Q : Nat → Prop) (e : Nat) (hm : ps.length ≤ 1000) (ty : TypeId) (he : ∀ j u, (KPk.cells x d)[j]? = some u → W.cell? ⟨e, j, none⟩ = some u) (ho : KPk.Ow W X.heap.size x d Q) :
    ∃ v' Y, (Builtin.append_ #[28, 28] ty #[vp, .slice (some ⟨e, 0, none⟩) 1 1]).run Tryz.prog W = .ok v' Y ∧ CSt w A Z k (Y.setCell ⟨w.heap.size + 2, 2, none⟩ v') v' vm vt (ps ++ [(x, d)]) (fun i => if i = ps.length then Q else gp i) ms gm ts gt ∧ Bx Y (w.heap.size + 2) [.int .i64 k.config, .int .i64 k.clock, vp, vm, vt, .bool k.lost] ∧ (∀ q, q < w.heap.size + 3 ∨ (X.heap.size ≤ q ∧ q < W.heap.size) → Y.heap[q]? = W.heap[q]?) ∧ W.heap.size ≤ Y.heap.size ∧ (∃ a' c', v' = .slice a' (ps.length + 1) c') := by
  have hsz : w.heap.size + 2 < X.heap.size := h.own.2.2
  obtain ⟨v', Y, hr, hc, hg, hv⟩ := h.rows.pushP hb (by omega) hsz x d Q e hm ty he ho
  have hbs := hb.size
  have far : ∀ q, q < w.heap.size + 3 ∨ (X.heap.size ≤ q ∧ q < W.heap.size) → Y.heap[q]? = W.heap[q]? := fun q hq => hg.block q (by omega) (fun e' => by have := hv q e'.symm; omega)
  have hW := h.later hb
  have o' : Bx Y (w.heap.size + 2) [.int .i64 k.config, .int .i64 k.clock, vp, vm, vt, .bool k.lost] := hW.own.of_block (far _ (by omega)) hg.size
  have bY : Below w.heap.size w Y := hW.bel.grown hg (by omega) (fun q hq => by have := hv q hq; omega)
  refine ⟨v', Y, hr, ⟨(hW.arg.of_block (far _ (by omega)) hg.size).far (by omega) _, (hW.res.of_block (far _ (by omega)) hg.size).far (by omega) _, ?_, hc.set, bY.setCell (p := ⟨w.heap.size + 2, 2, none⟩) (by show w.heap.size ≤ w.heap.size + 2; omega) _⟩, o', far, hg.size, ?_⟩
  · exact o'.set (by simp) v'
  · obtain ⟨a', c', e'⟩ := hc.P.form
    exact ⟨a', c', by rw [e']; simp⟩
theorem CSt.pushM {w : World} {A Z : List Value} {k : C6} {X W : World} {vp vm vt : Value} {ps : List ((Nat × Nat) × List Int)} {gp : Nat → Nat → Prop} {ms : List (MV × M4)} {gm : Nat → Nat → Prop} {ts : List (tx.TV × tx.T7)} {gt : Nat → Nat → Prop} (h : CSt w A Z k X vp vm vt ps gp ms gm ts gt) (hb : Below X.heap.size X W) (x : MV) (d : M4) (Q : Nat → Prop) (e : Nat) (hm : ms.length ≤ 1000) (ty : TypeId) (he : ∀ j u, (KMk.cells x d)[j]? = some u → W.cell? ⟨e, j, none⟩ = some u) (ho : KMk.Ow W X.heap.size x d Q) :
    ∃ v' Y, (Builtin.append_ #[29, 29] ty #[vm, .slice (some ⟨e, 0, none⟩) 1 1]).run Tryz.prog W = .ok v' Y ∧ CSt w A Z k (Y.setCell ⟨w.heap.size + 2, 3, none⟩ v') vp v' vt ps gp (ms ++ [(x, d)]) (fun i => if i = ms.length then Q else gm i) ts gt ∧ Bx Y (w.heap.size + 2) [.int .i64 k.config, .int .i64 k.clock, vp, vm, vt, .bool k.lost] ∧ (∀ q, q < w.heap.size + 3 ∨ (X.heap.size ≤ q ∧ q < W.heap.size) → Y.heap[q]? = W.heap[q]?) ∧ W.heap.size ≤ Y.heap.size ∧ (∃ a' c', v' = .slice a' (ms.length + 1) c') := by
  have hsz : w.heap.size + 2 < X.heap.size := h.own.2.2
  obtain ⟨v', Y, hr, hc, hg, hv⟩ := h.rows.pushM hb (by omega) hsz x d Q e hm ty he ho
  have hbs := hb.size
  have far : ∀ q, q < w.heap.size + 3 ∨ (X.heap.size ≤ q ∧ q < W.heap.size) → Y.heap[q]? = W.heap[q]? := fun q hq => hg.block q (by omega) (fun e' => by have := hv q e'.symm; omega)
  have hW := h.later hb
  have o' : Bx Y (w.heap.size + 2) [.int .i64 k.config, .int .i64 k.clock, vp, vm, vt, .bool k.lost] := hW.own.of_block (far _ (by omega)) hg.size
  have bY : Below w.heap.size w Y := hW.bel.grown hg (by omega) (fun q hq => by have := hv q hq; omega)
  refine ⟨v', Y, hr, ⟨(hW.arg.of_block (far _ (by omega)) hg.size).far (by omega) _, (hW.res.of_block (far _ (by omega)) hg.size).far (by omega) _, ?_, hc.set, bY.setCell (p := ⟨w.heap.size + 2, 3, none⟩) (by show w.heap.size ≤ w.heap.size + 2; omega) _⟩, o', far, hg.size, ?_⟩
  · exact o'.set (by simp) v'
  · obtain ⟨a', c', e'⟩ := hc.M.form
    exact ⟨a', c', by rw [e']; simp⟩
theorem CSt.pushT {w : World} {A Z : List Value} {k : C6} {X W : World} {vp vm vt : Value} {ps : List ((Nat × Nat) × List Int)} {gp : Nat → Nat → Prop} {ms : List (MV × M4)} {gm : Nat → Nat → Prop} {ts : List (tx.TV × tx.T7)} {gt : Nat → Nat → Prop} (h : CSt w A Z k X vp vm vt ps gp ms gm ts gt) (hb : Below X.heap.size X W) (x : tx.TV) (d : tx.T7) (Q : Nat → Prop) (e : Nat) (hm : ts.length ≤ 1000) (ty : TypeId) (he : ∀ j u, (KTk.cells x d)[j]? = some u → W.cell? ⟨e, j, none⟩ = some u) (ho : KTk.Ow W X.heap.size x d Q) :
    ∃ v' Y, (Builtin.append_ #[30, 30] ty #[vt, .slice (some ⟨e, 0, none⟩) 1 1]).run Tryz.prog W = .ok v' Y ∧ CSt w A Z k (Y.setCell ⟨w.heap.size + 2, 4, none⟩ v') vp vm v' ps gp ms gm (ts ++ [(x, d)]) (fun i => if i = ts.length then Q else gt i) ∧ Bx Y (w.heap.size + 2) [.int .i64 k.config, .int .i64 k.clock, vp, vm, vt, .bool k.lost] ∧ (∀ q, q < w.heap.size + 3 ∨ (X.heap.size ≤ q ∧ q < W.heap.size) → Y.heap[q]? = W.heap[q]?) ∧ W.heap.size ≤ Y.heap.size ∧ (∃ a' c', v' = .slice a' (ts.length + 1) c') := by
  have hsz : w.heap.size + 2 < X.heap.size := h.own.2.2
  obtain ⟨v', Y, hr, hc, hg, hv⟩ := h.rows.pushT hb (by omega) hsz x d Q e hm ty he ho
  have hbs := hb.size
  have far : ∀ q, q < w.heap.size + 3 ∨ (X.heap.size ≤ q ∧ q < W.heap.size) → Y.heap[q]? = W.heap[q]? := fun q hq => hg.block q (by omega) (fun e' => by have := hv q e'.symm; omega)
  have hW := h.later hb
  have o' : Bx Y (w.heap.size + 2) [.int .i64 k.config, .int .i64 k.clock, vp, vm, vt, .bool k.lost] := hW.own.of_block (far _ (by omega)) hg.size
  have bY : Below w.heap.size w Y := hW.bel.grown hg (by omega) (fun q hq => by have := hv q hq; omega)
  refine ⟨v', Y, hr, ⟨(hW.arg.of_block (far _ (by omega)) hg.size).far (by omega) _, (hW.res.of_block (far _ (by omega)) hg.size).far (by omega) _, ?_, hc.set, bY.setCell (p := ⟨w.heap.size + 2, 4, none⟩) (by show w.heap.size ≤ w.heap.size + 2; omega) _⟩, o', far, hg.size, ?_⟩
  · exact o'.set (by simp) v'
  · obtain ⟨a', c', e'⟩ := hc.T.form
    exact ⟨a', c', by rw [e']; simp⟩
def ClAns (w : World) (k : C6) (e : Ending) (w' : World) : Prop := ∃ (a1 : Option Addr) (c1 : Nat) (a2 : Option Addr) (c2 : Nat) (a3 : Option Addr) (c3 : Nat) (ps : List ((Nat × Nat) × List Int)) (gp : Nat → Nat → Prop) (ms : List (MV × M4)) (gm : Nat → Nat → Prop) (ts : List (tx.TV × tx.T7)) (gt : Nat → Nat → Prop), e = .returned (.agg #[.int .i64 k.config, .int .i64 k.clock, .slice a1 k.places.length c1, .slice a2 k.machines.length c2, .slice a3 k.txs.length c3, .bool k.lost]) ∧ CL3 (w.heap.size + 3) (w.heap.size + 2) w' (.slice a1 k.places.length c1) (.slice a2 k.machines.length c2) (.slice a3 k.txs.length c3) ps gp ms gm ts gt ∧ ps.map (·.2) = k.places ∧ ms.map (·.2) = k.machines ∧ ts.map (·.2) = k.txs ∧ Below w.heap.size w w'
theorem take_snoc {α : Type} {l : List α} {j : Nat} {x : α} (h : l[j]? = some x) : l.take j ++ [x] = l.take (j + 1) := by rw [List.take_add_one, h]; rfl
theorem MR.ow {base p : Nat} {X : World} {u : MV} {m : M4} {gk gr : Nat → Nat} (h : MR base p X (.slice u.ac m.copies.length u.cc) (.slice u.al m.log.length u.cl) (.slice u.ad m.cleared.length u.cd) m.copies m.log m.cleared gk gr) : ∃ P, KMk.Ow X base u m P := by
  refine ⟨_, KM.of (h.om (v := u)) (fun q hq => ?_)⟩
  rcases hq with hq | hq | hq
  · exact (h.gK.blocks hq).2
  · exact (h.gR.blocks hq).2
  · exact (World.ownsRow.lt h.gD q hq).2
theorem ON.kp {w : World} {B q cp : Nat} {zs : List Int} (h : ON w B (.slice (some ⟨q, 0, none⟩) zs.length cp) zs) : KPk.Ow w B (q, cp) zs (fun x => x = q) := by
  rcases h.form with ⟨e, _⟩ | ⟨g, cap, e, h1, h2, h3, h4, h5⟩
  · cases e
  · cases e
    exact ⟨⟨rfl, h4, h5, h3⟩, fun x hx => by subst hx; exact ⟨h1, h2⟩⟩
end Go.Proofs.YtnhjgomfkfehgaaGreatDoor
namespace Go.Proofs.YtnhjgomfkfehgaaGreatDoor
open Go.RowKit
structure C3 (s p : Nat) (alive : Bool) (X : World) (vk vr vd : Value) : Prop where
  r0 : X.cell? ⟨s + 1, 0, none⟩ = some (.bool false)
  r1 : X.cell? ⟨s + 1, 1, none⟩ = some (.slice none 0 0)
  r2 : X.cell? ⟨s + 1, 2, none⟩ = some (.slice none 0 0)
  r3 : X.cell? ⟨s + 1, 3, none⟩ = some (.slice none 0 0)
  fr : ∀ j, X.frozen? ⟨s + 1, j, none⟩ = false
  o0 : X.cell? ⟨p, 0, none⟩ = some (.bool alive)
  o1 : X.cell? ⟨p, 1, none⟩ = some vk
  o2 : X.cell? ⟨p, 2, none⟩ = some vr
  o3 : X.cell? ⟨p, 3, none⟩ = some vd
  fo : ∀ j, X.frozen? ⟨p, j, none⟩ = false
  pl : s + 2 ≤ p
  pX : p < X.heap.size
theorem C3.keep {s p : Nat} {alive : Bool} {X Y : World} {vk vr vd : Value} (h : C3 s p alive X vk vr vd) (hs : X.heap.size ≤ Y.heap.size) (er : Y.heap[s + 1]? = X.heap[s + 1]?) (ep : Y.heap[p]? = X.heap[p]?) : C3 s p alive Y vk vr vd := by
  have c : ∀ {b j : Nat} {u : Value}, Y.heap[b]? = X.heap[b]? → X.cell? ⟨b, j, none⟩ = some u → Y.cell? ⟨b, j, none⟩ = some u := fun {b j u} e h => (World.cell?_of_block (a := ⟨b, j, none⟩) e).trans h
  exact ⟨c er h.r0, c er h.r1, c er h.r2, c er h.r3, fun j => (World.frozen?_of_block (a := ⟨s + 1, j, none⟩) er).trans (h.fr j), c ep h.o0, c ep h.o1, c ep h.o2, c ep h.o3, fun j => (World.frozen?_of_block (a := ⟨p, j, none⟩) ep).trans (h.fo j), h.pl, Nat.lt_of_lt_of_le h.pX hs⟩
theorem C3.later {s p : Nat} {alive : Bool} {X Y : World} {vk vr vd : Value} (h : C3 s p alive X vk vr vd) (hb : Below X.heap.size X Y) : C3 s p alive Y vk vr vd :=
  h.keep hb.size (hb.block _ (by have := h.pl; have := h.pX; omega)) (hb.block _ h.pX)
theorem C3.setK {s p : Nat} {alive : Bool} {X : World} {vk vr vd : Value} (h : C3 s p alive X vk vr vd) (u : Value) : C3 s p alive (X.setCell ⟨p, 1, none⟩ u) u vr vd :=
  have hp := h.pl
  have far : ∀ j, (X.setCell ⟨p, 1, none⟩ u).cell? ⟨s + 1, j, none⟩ = X.cell? ⟨s + 1, j, none⟩ := fun j => cell_set_far (by show p ≠ s + 1; omega) u
  ⟨(far 0).trans h.r0, (far 1).trans h.r1, (far 2).trans h.r2, (far 3).trans h.r3, fun j => by rw [World.frozen?_setCell]; exact h.fr j, (cell_set_other (by omega)).trans h.o0, cell_set_same h.o1, (cell_set_other (by omega)).trans h.o2, (cell_set_other (by omega)).trans h.o3, fun j => by rw [World.frozen?_setCell]; exact h.fo j, h.pl, by simpa [World.setCell] using h.pX⟩
theorem C3.setR {s p : Nat} {alive : Bool} {X : World} {vk vr vd : Value} (h : C3 s p alive X vk vr vd) (u : Value) : C3 s p alive (X.setCell ⟨p, 2, none⟩ u) vk u vd :=
  have hp := h.pl
  have far : ∀ j, (X.setCell ⟨p, 2, none⟩ u).cell? ⟨s + 1, j, none⟩ = X.cell? ⟨s + 1, j, none⟩ := fun j => cell_set_far (by show p ≠ s + 1; omega) u
  ⟨(far 0).trans h.r0, (far 1).trans h.r1, (far 2).trans h.r2, (far 3).trans h.r3, fun j => by rw [World.frozen?_setCell]; exact h.fr j, (cell_set_other (by omega)).trans h.o0, (cell_set_other (by omega)).trans h.o1, cell_set_same h.o2, (cell_set_other (by omega)).trans h.o3, fun j => by rw [World.frozen?_setCell]; exact h.fo j, h.pl, by simpa [World.setCell] using h.pX⟩
theorem zeroBoxM {X : World} {r : Nat} (h : X.heap[r]? = some (.cells #[.bool false, .slice none 0 0, .slice none 0 0, .slice none 0 0] 62 (0, 0))) :
    X.cell? ⟨r, 0, none⟩ = some (.bool false) ∧ X.cell? ⟨r, 1, none⟩ = some (.slice none 0 0) ∧ X.cell? ⟨r, 2, none⟩ = some (.slice none 0 0) ∧ X.cell? ⟨r, 3, none⟩ = some (.slice none 0 0) ∧ ∀ j, X.frozen? ⟨r, j, none⟩ = false :=
  ⟨by rw [cell_of_row X r 0 _ _ _ h]; rfl, by rw [cell_of_row X r 1 _ _ _ h]; rfl, by rw [cell_of_row X r 2 _ _ _ h]; rfl, by rw [cell_of_row X r 3 _ _ _ h]; rfl, fun j => frozen_of_row X r j _ _ h⟩
theorem owns_empty {X : World} {q base : Nat} (h : X.heap[q]? = some (.cells #[] 2 (0, 0))) (hb : base ≤ q) : X.ownsRow base 2 1 (.slice (some ⟨q, 0, none⟩) 0 0) 0 [] :=
  ⟨by simp, .inr ⟨q, 0, #[], rfl, hb, h, Nat.le_refl _, Nat.zero_le _, by simp, by simp⟩⟩
theorem firstM_A {s : Nat} {alive : Bool} {X : World} {vd : Value} {zs : List Int} (hX : s + 2 ≤ X.heap.size) (hr : X.heap[s + 1]? = some (.cells #[.bool false, .slice none 0 0, .slice none 0 0, .slice none 0 0] 62 (0, 0))) (hd : X.ownsRow (s + 2) 2 1 vd zs.length (zs.map (Value.int .i64))) :
    C3 s X.heap.size alive (X.alloc (.cells #[.bool alive, .slice none 0 0, .slice none 0 0, vd] 62)) (.slice none 0 0) (.slice none 0 0) vd ∧ MR (s + 2) X.heap.size (X.alloc (.cells #[.bool alive, .slice none 0 0, .slice none 0 0, vd] 62)) (.slice none 0 0) (.slice none 0 0) vd [] [] zs gz gz := by
  have bA : Below X.heap.size X (X.alloc (.cells #[.bool alive, .slice none 0 0, .slice none 0 0, vd] 62)) := (Below.refl _ _).alloc (Nat.le_refl _) _
  obtain ⟨z0, z1, z2, z3, zf⟩ := zeroBoxM ((bA.block (s + 1) (by omega)).trans hr)
  refine ⟨⟨z0, z1, z2, z3, zf, by go_simp, by go_simp, by go_simp, by go_simp, by intro j; go_simp, hX, by simp⟩, MR.start ?_ (fun e => by have := (World.ownsRow.lt hd _ e).2; omega)⟩
  refine ⟨hd.1, hd.2.imp id ?_⟩
  rintro ⟨q, cap, cur, rfl, l, hg, r⟩
  exact ⟨q, cap, cur, rfl, l, (bA.block q (World.ownsRow.lt hd q rfl).2).trans hg, r⟩
theorem firstM_B {s p : Nat} {alive : Bool} {X : World} {vd : Value} {zs : List Int} (hp : s + 2 ≤ p) (hpX : p < X.heap.size) (hr : X.heap[s + 1]? = some (.cells #[.bool false, .slice none 0 0, .slice none 0 0, .slice none 0 0] 62 (0, 0))) (hz : X.heap[p]? = some (.cells #[.bool false, .slice none 0 0, .slice none 0 0, .slice none 0 0] 62 (0, 0))) (hd : X.ownsRow (s + 2) 2 1 vd zs.length (zs.map (Value.int .i64))) (hne : vd.ownBlock ≠ some p) :
    C3 s p alive ((((X.setCell ⟨p, 0, none⟩ (.bool alive)).setCell ⟨p, 1, none⟩ (.slice none 0 0)).setCell ⟨p, 2, none⟩ (.slice none 0 0)).setCell ⟨p, 3, none⟩ vd) (.slice none 0 0) (.slice none 0 0) vd ∧ MR (s + 2) p ((((X.setCell ⟨p, 0, none⟩ (.bool alive)).setCell ⟨p, 1, none⟩ (.slice none 0 0)).setCell ⟨p, 2, none⟩ (.slice none 0 0)).setCell ⟨p, 3, none⟩ vd) (.slice none 0 0) (.slice none 0 0) vd [] [] zs gz gz := by
  obtain ⟨z0, z1, z2, z3, zf⟩ := zeroBoxM hr
  obtain ⟨y0, y1, y2, y3, yf⟩ := zeroBoxM hz
  have f : ∀ j, ((((X.setCell ⟨p, 0, none⟩ (.bool alive)).setCell ⟨p, 1, none⟩ (.slice none 0 0)).setCell ⟨p, 2, none⟩ (.slice none 0 0)).setCell ⟨p, 3, none⟩ vd).cell? ⟨s + 1, j, none⟩ = X.cell? ⟨s + 1, j, none⟩ := fun j => by
    rw [cell_set_far (by show p ≠ s + 1; omega), cell_set_far (by show p ≠ s + 1; omega), cell_set_far (by show p ≠ s + 1; omega), cell_set_far (by show p ≠ s + 1; omega)]
  refine ⟨⟨(f 0).trans z0, (f 1).trans z1, (f 2).trans z2, (f 3).trans z3, fun j => by simp only [World.frozen?_setCell]; exact zf j, ?_, ?_, ?_, ?_, fun j => by simp only [World.frozen?_setCell]; exact yf j, hp, by simpa [World.setCell] using hpX⟩, (((MR.start hd hne).set.set).set).set⟩
  · rw [cell_set_other (by omega), cell_set_other (by omega), cell_set_other (by omega)]; exact cell_set_same y0
  · rw [cell_set_other (by omega), cell_set_other (by omega)]; exact cell_set_same (by rw [cell_set_other (by omega)]; exact y1)
  · rw [cell_set_other (by omega)]; exact cell_set_same (by rw [cell_set_other (by omega), cell_set_other (by omega)]; exact y2)
  · exact cell_set_same (by rw [cell_set_other (by omega), cell_set_other (by omega), cell_set_other (by omega)]; exact y3)
set_option maxRecDepth 100000 in
set_option maxHeartbeats 4000000 in
theorem given_any (w : World) (p : Nat) (alive : Bool) (al : Option Addr) (nl cl : Nat) (ac : Option Addr) (nc cc : Nat) (ad : Option Addr) (nd cd : Nat) (h0 : w.cell? ⟨p, 0, none⟩ = some (.slice al nl cl)) (h1 : w.cell? ⟨p, 1, none⟩ = some (.bool alive)) (h2 : w.cell? ⟨p, 2, none⟩ = some (.slice ac nc cc)) (h3 : w.cell? ⟨p, 3, none⟩ = some (.slice ad nd cd)) (hp : p < w.heap.size) :
    Calls Tryz.prog 150 #[.pointer (some ⟨p, 0, none⟩)] w fun e w' => e = .returned (.agg #[.bool alive, .slice ac nc cc, .slice al nl cl, .slice ad nd cd]) ∧ Below w.heap.size w w' := by
  obtain ⟨W, hW⟩ : ∃ W, W = (w.alloc (.cells #[.bool false, .slice none 0 0, .slice none 0 0, .slice none 0 0] 62)).drew := ⟨_, rfl⟩
  have bW : Below w.heap.size w W := by subst hW; exact ((Below.refl _ _).alloc (Nat.le_refl _) _).drew
  have hS : (fun X : World => X.cell? ⟨p, 0, none⟩ = some (.slice al nl cl) ∧ X.cell? ⟨p, 1, none⟩ = some (.bool alive) ∧ X.cell? ⟨p, 2, none⟩ = some (.slice ac nc cc) ∧ X.cell? ⟨p, 3, none⟩ = some (.slice ad nd cd)) W := ⟨(bW.cell (p := ⟨p, 0, none⟩) hp).trans h0, (bW.cell (p := ⟨p, 1, none⟩) hp).trans h1, (bW.cell (p := ⟨p, 2, none⟩) hp).trans h2, (bW.cell (p := ⟨p, 3, none⟩) hp).trans h3⟩
  have hz : W.heap[w.heap.size]? = some (.cells #[.bool false, .slice none 0 0, .slice none 0 0, .slice none 0 0] 62 (0, 0)) := by subst hW; exact heap_alloc_new w _
  obtain ⟨z0, z1, z2, z3, zf⟩ := zeroBoxM hz
  have f0 := zf 0
  have f1 := zf 1
  have f2 := zf 2
  have f3 := zf 3
  have KB := hidOf bW
  clear bW h0 h1 h2 h3 zf hz
  go_enter Tryz.func150, Tryz.ntmps150
  go_wp2_with fail
  refine wp_region_until 18 (fun X : World => X.cell? ⟨p, 0, none⟩ = some (.slice al nl cl) ∧ X.cell? ⟨p, 1, none⟩ = some (.bool alive) ∧ X.cell? ⟨p, 2, none⟩ = some (.slice ac nc cc) ∧ X.cell? ⟨p, 3, none⟩ = some (.slice ad nd cd)) (by kernel_rfl) ?_
  rw [← hW]
  clear hW
  refine wpUntil_take (i := 0) (v := ?_) rfl (by kernel_rfl) (fun _ _ _ h => h) (Or.inl ⟨by rfl, ?_⟩) hS ?_
  rotate_left
  · (intro w hSw; obtain ⟨sw1, sw2, sw3, sw4⟩ := hSw; go_simp; first | done | with_reducible rfl | exact sw1 | exact sw2 | exact sw3 | exact sw4)
  simp only [Act.put]
  refine wpUntil_take (i := 1) (v := ?_) rfl (by kernel_rfl) (fun _ _ _ h => h) (Or.inl ⟨by rfl, ?_⟩) hS ?_
  rotate_left
  · (intro w hSw; obtain ⟨sw1, sw2, sw3, sw4⟩ := hSw; go_simp; first | done | with_reducible rfl | exact sw1 | exact sw2 | exact sw3 | exact sw4)
  simp only [Act.put]
  refine wpUntil_take (i := 2) (v := ?_) rfl (by kernel_rfl) (fun _ _ _ h => h) (Or.inl ⟨by rfl, ?_⟩) hS ?_
  rotate_left
  · (intro w hSw; obtain ⟨sw1, sw2, sw3, sw4⟩ := hSw; go_simp; first | done | with_reducible rfl | exact sw1 | exact sw2 | exact sw3 | exact sw4)
  simp only [Act.put]
  refine wpUntil_take (i := 3) (v := ?_) rfl (by kernel_rfl) (fun _ _ _ h => h) (Or.inl ⟨by rfl, ?_⟩) hS ?_
  rotate_left
  · (intro w hSw; obtain ⟨sw1, sw2, sw3, sw4⟩ := hSw; go_simp; first | done | with_reducible rfl | exact sw1 | exact sw2 | exact sw3 | exact sw4)
  simp only [Act.put]
  refine wpUntil_take (i := 4) (v := ?_) rfl (by kernel_rfl) (fun _ _ _ h => h) (Or.inl ⟨by rfl, ?_⟩) hS ?_
  rotate_left
  · (intro w hSw; obtain ⟨sw1, sw2, sw3, sw4⟩ := hSw; go_simp; first | done | with_reducible rfl | exact sw1 | exact sw2 | exact sw3 | exact sw4)
  simp only [Act.put]
  refine wpUntil_take (i := 5) (v := ?_) rfl (by kernel_rfl) (fun _ _ _ h => h) (Or.inl ⟨by rfl, ?_⟩) hS ?_
  rotate_left
  · (intro w hSw; obtain ⟨sw1, sw2, sw3, sw4⟩ := hSw; go_simp; first | done | with_reducible rfl | exact sw1 | exact sw2 | exact sw3 | exact sw4)
  simp only [Act.put]
  refine wpUntil_take (i := 6) (v := ?_) rfl (by kernel_rfl) (fun _ _ _ h => h) (Or.inl ⟨by rfl, ?_⟩) hS ?_
  rotate_left
  · (intro w hSw; obtain ⟨sw1, sw2, sw3, sw4⟩ := hSw; go_simp; first | done | with_reducible rfl | exact sw1 | exact sw2 | exact sw3 | exact sw4)
  simp only [Act.put]
  refine wpUntil_take (i := 7) (v := ?_) rfl (by kernel_rfl) (fun _ _ _ h => h) (Or.inl ⟨by rfl, ?_⟩) hS ?_
  rotate_left
  · (intro w hSw; obtain ⟨sw1, sw2, sw3, sw4⟩ := hSw; go_simp; first | done | with_reducible rfl | exact sw1 | exact sw2 | exact sw3 | exact sw4)
  simp only [Act.put]
  refine wpUntil_take (i := 8) (v := ?_) rfl (by kernel_rfl) (fun _ _ _ h => h) (Or.inl ⟨by rfl, ?_⟩) hS ?_
  rotate_left
  · (intro w hSw; obtain ⟨sw1, sw2, sw3, sw4⟩ := hSw; go_simp; first | done | with_reducible rfl | exact sw1 | exact sw2 | exact sw3 | exact sw4)
  simp only [Act.put]
  refine wpUntil_take (i := 9) (v := ?_) rfl (by kernel_rfl) (fun _ _ _ h => h) (Or.inl ⟨by rfl, ?_⟩) hS ?_
  rotate_left
  · (intro w hSw; obtain ⟨sw1, sw2, sw3, sw4⟩ := hSw; go_simp; first | done | with_reducible rfl | exact sw1 | exact sw2 | exact sw3 | exact sw4)
  simp only [Act.put]
  refine wpUntil_take (i := 10) (v := ?_) rfl (by kernel_rfl) (fun _ _ _ h => h) (Or.inl ⟨by rfl, ?_⟩) hS ?_
  rotate_left
  · (intro w hSw; obtain ⟨sw1, sw2, sw3, sw4⟩ := hSw; go_simp; first | done | with_reducible rfl | exact sw1 | exact sw2 | exact sw3 | exact sw4)
  simp only [Act.put]
  refine wpUntil_take (i := 11) (v := ?_) rfl (by kernel_rfl) (fun _ _ _ h => h) (Or.inl ⟨by rfl, ?_⟩) hS ?_
  rotate_left
  · (intro w hSw; obtain ⟨sw1, sw2, sw3, sw4⟩ := hSw; go_simp; first | done | with_reducible rfl | exact sw1 | exact sw2 | exact sw3 | exact sw4)
  simp only [Act.put]
  refine wpUntil_take (i := 12) (v := ?_) rfl (by kernel_rfl) (fun _ _ _ h => h) (Or.inl ⟨by rfl, ?_⟩) hS ?_
  rotate_left
  · (intro w hSw; obtain ⟨sw1, sw2, sw3, sw4⟩ := hSw; go_simp; first | done | with_reducible rfl | exact sw1 | exact sw2 | exact sw3 | exact sw4)
  simp only [Act.put]
  refine wpUntil_take (i := 13) (v := ?_) rfl (by kernel_rfl) (fun _ _ _ h => h) (Or.inl ⟨by rfl, ?_⟩) hS ?_
  rotate_left
  · (intro w hSw; obtain ⟨sw1, sw2, sw3, sw4⟩ := hSw; go_simp; first | done | with_reducible rfl | exact sw1 | exact sw2 | exact sw3 | exact sw4)
  simp only [Act.put]
  refine wpUntil_take (i := 14) (v := ?_) rfl (by kernel_rfl) (fun _ _ _ h => h) (Or.inl ⟨by rfl, ?_⟩) hS ?_
  rotate_left
  · (intro w hSw; obtain ⟨sw1, sw2, sw3, sw4⟩ := hSw; go_simp; first | done | with_reducible rfl | exact sw1 | exact sw2 | exact sw3 | exact sw4)
  simp only [Act.put]
  refine wpUntil_take (i := 15) (v := ?_) rfl (by kernel_rfl) (fun _ _ _ h => h) (Or.inl ⟨by rfl, ?_⟩) hS ?_
  rotate_left
  · (intro w hSw; obtain ⟨sw1, sw2, sw3, sw4⟩ := hSw; go_simp; first | done | with_reducible rfl | exact sw1 | exact sw2 | exact sw3 | exact sw4)
  simp only [Act.put]
  refine wpUntil_take (i := 16) (v := ?_) rfl (by kernel_rfl) (fun _ _ _ h => h) (Or.inl ⟨by rfl, ?_⟩) hS ?_
  rotate_left
  · (intro w hSw; obtain ⟨sw1, sw2, sw3, sw4⟩ := hSw; go_simp; first | done | with_reducible rfl | exact sw1 | exact sw2 | exact sw3 | exact sw4)
  simp only [Act.put]
  refine wpUntil_take (i := 17) (v := ?_) rfl (by kernel_rfl) (fun _ _ _ h => h) (Or.inl ⟨by rfl, ?_⟩) hS ?_
  rotate_left
  · (intro w hSw; obtain ⟨sw1, sw2, sw3, sw4⟩ := hSw; go_simp; first | done | with_reducible rfl | exact sw1 | exact sw2 | exact sw3 | exact sw4)
  simp only [Act.put]
  refine wpUntil_ready (rs := [18]) (by kernel_rfl) (by simp) ?_
  refine AllU.cons rfl (fun K hK => ?_) AllU.nil
  go_simp
  refine hK.out _ _ (fun h => absurd rfl h) ?_
  clear hK K
  refine wpUntil_done (by kernel_rfl) ?_ _
  go_wp2
  refine bodyPost_ret (v := .agg #[.bool alive, .slice ac nc cc, .slice al nl cl, .slice ad nd cd]) (by simp [results, Tryz.results150, go_sem, z0, z1, z2, z3]) rfl ⟨rfl, ?_⟩
  exact (((KB.out.setCell (p := ⟨_, _, none⟩) (by simp) _).setCell (p := ⟨_, _, none⟩) (by simp) _).setCell (p := ⟨_, _, none⟩) (by simp) _).setCell (p := ⟨_, _, none⟩) (by simp) _
end Go.Proofs.YtnhjgomfkfehgaaGreatDoor
namespace Go.Proofs.YtnhjgomfkfehgaaGreatDoor.tx
open Go.RowKit
def S5.cells (s : S5) : List Value := [.int .i64 s.region, .int .i64 s.slot, .int .i64 s.value, .bool s.used, .int .i64 s.version]
def N5.cells (s : N5) : List Value := [.int .i64 s.region, .int .i64 s.slot, .int .i64 s.version, .int .i64 s.value, .bool s.used]
theorem partsOf {P : Program} {t : TypeId} {z : Value} {s b : Nat} (h : (P.info? t).map (fun i => (i.zero, i.size, i.bytes)) = some (some z, s, b)) : ∃ i, P.info? t = some i ∧ i.zero = some z ∧ i.size = s ∧ i.bytes = b := by
  obtain ⟨i, hi, hzz⟩ := Option.map_eq_some_iff.1 h
  simp only [Prod.mk.injEq] at hzz
  exact ⟨i, hi, hzz.1, hzz.2.1, hzz.2.2⟩
theorem flat_at {β : Type} {f : β → List Value} {sz : Nat} : ∀ {l : List β} (_ : ∀ x ∈ l, (f x).length = sz) {i t : Nat} {x : β}, l[i]? = some x → t < sz → (l.flatMap f)[i * sz + t]? = (f x)[t]?
  | [], _, i, t, x, h, _ => by simp at h
  | y :: l, hf, 0, t, x, h, ht => by
    simp at h
    subst h
    rw [List.flatMap_cons, List.getElem?_append_left (by rw [hf y (by simp)]; omega)]
    simp
  | y :: l, hf, i + 1, t, x, h, ht => by
    have hl := hf y (by simp)
    rw [List.flatMap_cons, List.getElem?_append_right (by rw [hl, Nat.add_mul]; omega), hl, show (i + 1) * sz + t - sz = i * sz + t by rw [Nat.add_mul]; omega]
    exact flat_at (fun x hx => hf x (by simp [hx])) (by simpa using h) ht
theorem appendX {α : Type} {cells : α → List Value} {T ST : TypeId} {sz by_ : Nat} (hl : ∀ s, (cells s).length = sz) (h1 : ∀ s, ∀ u ∈ cells s, u.oneCell' = true) (hsz : 0 < sz) {P : Program} {i0 : TypeInfo} {z : Value} (ht : P.underlying ST = some (.slice T)) (hi : P.info? T = some i0) (hz : i0.zero = some z) (hs : i0.size = sz) (hby : i0.bytes = by_) (hzs : z.cells.size = sz) (hbb : by_ ≤ 1000)
    {W : World} {base : Nat} {v : Value} (h : W.ownsRow base T sz v 0 []) (xs : List α) (hx : 0 < xs.length) (hm : xs.length ≤ 1048576) (ty : TypeId) (b off k : Nat) (src : ∀ i s, xs[i]? = some s → ∀ t u, (cells s)[t]? = some u → W.cell? ⟨b, off + i * sz + t, none⟩ = some u) (hbase : base ≤ W.heap.size) :
    ∃ q cap W', (Builtin.append_ #[ST, ST] ty #[v, .slice (some ⟨b, off, none⟩) xs.length k]).run P W = .ok (.slice (some ⟨q, 0, none⟩) xs.length cap) W' ∧ base ≤ q ∧ q < W'.heap.size ∧ xs.length ≤ cap ∧ (∀ i s, xs[i]? = some s → ∀ t u, (cells s)[t]? = some u → W'.cell? ⟨q, i * sz + t, none⟩ = some u) ∧ Room W' q (xs.length * sz) ∧ W.grownBy W' v.ownBlock ∧ (v.ownBlock = some q ∨ q = W.heap.size) ∧ W'.ownsRow base T sz (.slice (some ⟨q, 0, none⟩) xs.length cap) xs.length (xs.flatMap cells) := by
  have hadd : ∀ (b o j : Nat), (⟨b, o, none⟩ : Addr).add j = ⟨b, o + j, none⟩ := fun b o j => by unfold Addr.add; split <;> simp_all
  have hfl : ∀ l : List α, (l.flatMap cells).length = l.length * sz := fun l => by
    induction l with
    | nil => simp
    | cons y l ih => rw [List.flatMap_cons, List.length_append, ih, hl, List.length_cons, Nat.add_mul]; omega
  obtain ⟨v', W', hrun, hown, hg, hnil, hlies⟩ := run_append_own_at (P := P) W base ST ty T i0 z sz by_ ht hi hz hs hby hzs hsz
    v 0 [] h ⟨b, off, none⟩ xs.length k (xs.flatMap cells) (hfl xs) (fun j u hu => by
      have hj : j < xs.length * sz := by rw [← hfl]; exact (List.getElem?_eq_some_iff.1 hu).1
      have hi : j / sz < xs.length := Nat.div_lt_of_lt_mul (by rw [Nat.mul_comm]; exact hj)
      have hxs := List.getElem?_eq_getElem hi
      have hjt : j / sz * sz + j % sz = j := Nat.div_add_mod' j sz
      have := flat_at (f := cells) (l := xs) (fun x _ => hl x) hxs (Nat.mod_lt j hsz)
      rw [hjt] at this
      rw [hadd, ← hjt, ← Nat.add_assoc]
      exact src _ _ hxs _ u (by rw [← this]; exact hu))
    (fun u hu => by obtain ⟨s, _, hs⟩ := List.mem_flatMap.1 hu; exact h1 s u hs) (by unfold maxLen; omega) (by
      have : (0 + xs.length) * by_ ≤ 1048576 * 1000 := Nat.mul_le_mul (by omega) hbb
      omega) hbase
  rw [Nat.zero_add, List.nil_append] at hown
  have hcap : ∃ q cap, v' = .slice (some ⟨q, 0, none⟩) xs.length cap ∧ xs.length ≤ cap := by
    rcases hown.2 with ⟨_, h0⟩ | ⟨q, cap, cur, rfl, _, _, hl, _⟩
    · omega
    · exact ⟨q, cap, rfl, hl⟩
  obtain ⟨q, cap, rfl, hc⟩ := hcap
  have hb := World.ownsRow.lt hown q rfl
  refine ⟨q, cap, W', hrun, hb.1, hb.2, hc, fun i s e t u hu => ?_, fun j hj => ?_, hg, ?_, hown⟩
  · have hi := (List.getElem?_eq_some_iff.1 e).1
    have ht := (List.getElem?_eq_some_iff.1 hu).1
    rw [hl] at ht
    have : (i + 1) * sz ≤ xs.length * sz := Nat.mul_le_mul_right sz hi
    rw [Nat.add_mul] at this
    rw [World.ownsRow.cellAt hown _ (by omega), flat_at (fun x _ => hl x) e ht]; exact hu
  · exact ⟨_, by rw [World.ownsRow.cellAt hown j hj]; exact List.getElem?_eq_getElem (by rw [hfl]; exact hj), World.ownsRow.frozenAt hown j⟩
  · rcases hlies with e | e
    · exact .inl e.symm
    · exact .inr (Option.some.inj e)
theorem flat5 : ∀ (xs : List S5) (i : Nat) (s : S5) (j : Nat), xs[i]? = some s → j < 5 → (xs.flatMap S5.cells)[i * 5 + j]? = (S5.cells s)[j]?
  | [], i, s, j, h, _ => by simp at h
  | x :: xs, 0, s, j, h, hj => by
    simp at h
    subst h
    rw [List.flatMap_cons, List.getElem?_append_left (by simp [S5.cells]; omega)]
    simp
  | x :: xs, i + 1, s, j, h, hj => by
    have hl : (S5.cells x).length = 5 := rfl
    rw [List.flatMap_cons, List.getElem?_append_right (by rw [hl]; omega), hl, show (i + 1) * 5 + j - 5 = i * 5 + j by omega]
    exact flat5 xs i s j (by simpa using h) hj
theorem own_sets {w : World} {B : Nat} {t : TypeId} {g n cap : Nat} {xs : List S5} (h : w.ownsRow B t 5 (.slice (some ⟨g, 0, none⟩) n cap) n (xs.flatMap S5.cells)) : SetsAt w g 0 xs := by
  have key : ∀ (j : Nat) (u : Value), (xs.flatMap S5.cells)[j]? = some u → w.cell? ⟨g, j, none⟩ = some u := by
    intro j u e
    rcases h.2 with ⟨h0, _⟩ | ⟨g', cap', cur, hv, _, hg, _, _, _, ht⟩
    · cases h0
    · cases hv
      rw [cell_of_row w g j cur t (0, 0) hg]
      rw [← ht, List.getElem?_take] at e
      split at e
      · simpa using e
      · cases e
  intro i s e
  have f := fun j hj => flat5 xs i s j e hj
  rw [Nat.zero_add]
  exact ⟨key _ _ (by simpa [S5.cells] using f 0 (by omega)), key _ _ (by simpa [S5.cells] using f 1 (by omega)), key _ _ (by simpa [S5.cells] using f 2 (by omega)), key _ _ (by simpa [S5.cells] using f 3 (by omega)), key _ _ (by simpa [S5.cells] using f 4 (by omega))⟩
theorem own_room {w : World} {B : Nat} {t : TypeId} {g n cap : Nat} {vs : List Value} (h : w.ownsRow B t 5 (.slice (some ⟨g, 0, none⟩) n cap) n vs) : Room w g (n * 5) := by
  intro j hj
  rcases h.2 with ⟨h0, _⟩ | ⟨g', cap', cur, hv, _, hg, hn, _, hc, ht⟩
  · cases h0
  · cases hv
    have hlt : j < cur.size := by
      have : n * 5 ≤ cap * 5 := Nat.mul_le_mul_right 5 hn
      omega
    refine ⟨cur[j], ?_, ?_⟩
    · rw [cell_of_row w g j cur t (0, 0) hg, Array.getElem?_eq_getElem hlt]
    · simp [World.frozen?, hg]
theorem infoSet : (Tryz.prog.info? 109).map (fun i => (i.zero, i.size, i.bytes)) = some (some (.agg #[.int .i64 0, .int .i64 0, .int .i64 0, .bool false, .int .i64 0]), 5, 40) := by kernel_rfl
theorem appendS (W : World) (base : Nat) (v : Value) (h : W.ownsRow base 109 5 v 0 []) (xs : List S5) (hx : 0 < xs.length) (hm : xs.length ≤ 1048576) (ty : TypeId) (b off k : Nat) (src : SetsAt W b off xs) (hbase : base ≤ W.heap.size) :
    ∃ q cap W', (Builtin.append_ #[54, 54] ty #[v, .slice (some ⟨b, off, none⟩) xs.length k]).run Tryz.prog W = .ok (.slice (some ⟨q, 0, none⟩) xs.length cap) W' ∧ base ≤ q ∧ q < W'.heap.size ∧ xs.length ≤ cap ∧ SetsAt W' q 0 xs ∧ Room W' q (xs.length * 5) ∧ W.grownBy W' v.ownBlock ∧ (v.ownBlock = some q ∨ q = W.heap.size) := by
  obtain ⟨i0, hi0, hz0, hz1, hz2⟩ := partsOf infoSet
  obtain ⟨q, cap, W', h1, h2, h3, h4, h5, h6, h7, h8, _⟩ := appendX (cells := S5.cells) (fun _ => rfl) (fun s u hu => by
    simp only [S5.cells, List.mem_cons, List.not_mem_nil, or_false] at hu
    rcases hu with rfl | rfl | rfl | rfl | rfl <;> rfl) (by omega) Tryz.underlying54 hi0 hz0 hz1 hz2 rfl (by omega) h xs hx hm ty b off k (fun i s e t u hu => by
      obtain ⟨c0, c1, c2, c3, c4⟩ := src i s e
      rcases t with _ | _ | _ | _ | _ | t
      · simp [S5.cells] at hu; subst hu; exact c0
      · simp [S5.cells] at hu; subst hu; exact c1
      · simp [S5.cells] at hu; subst hu; exact c2
      · simp [S5.cells] at hu; subst hu; exact c3
      · simp [S5.cells] at hu; subst hu; exact c4
      · simp [S5.cells] at hu) hbase
  refine ⟨q, cap, W', h1, h2, h3, h4, fun i s e => ⟨?_, ?_, ?_, ?_, ?_⟩, h6, h7, h8⟩
  · rw [Nat.zero_add]; exact h5 i s e 0 _ rfl
  · rw [Nat.zero_add]; exact h5 i s e 1 _ rfl
  · rw [Nat.zero_add]; exact h5 i s e 2 _ rfl
  · rw [Nat.zero_add]; exact h5 i s e 3 _ rfl
  · rw [Nat.zero_add]; exact h5 i s e 4 _ rfl
theorem flatNo : ∀ (xs : List N5) (i : Nat) (s : N5) (j : Nat), xs[i]? = some s → j < 5 → (xs.flatMap N5.cells)[i * 5 + j]? = s.cells[j]?
  | [], i, s, j, h, _ => by simp at h
  | x :: xs, 0, s, j, h, hj => by
    simp at h
    subst h
    rw [List.flatMap_cons, List.getElem?_append_left (by simp [N5.cells]; omega)]
    simp
  | x :: xs, i + 1, s, j, h, hj => by
    have hl : x.cells.length = 5 := rfl
    rw [List.flatMap_cons, List.getElem?_append_right (by rw [hl]; omega), hl, show (i + 1) * 5 + j - 5 = i * 5 + j by omega]
    exact flatNo xs i s j (by simpa using h) hj
theorem own_notes {w : World} {B : Nat} {t : TypeId} {g n cap : Nat} {xs : List N5} (h : w.ownsRow B t 5 (.slice (some ⟨g, 0, none⟩) n cap) n (xs.flatMap N5.cells)) : NotesAt w g 0 xs := by
  have key : ∀ (j : Nat) (u : Value), (xs.flatMap N5.cells)[j]? = some u → w.cell? ⟨g, j, none⟩ = some u := by
    intro j u e
    rcases h.2 with ⟨h0, _⟩ | ⟨g', cap', cur, hv, _, hg, _, _, _, ht⟩
    · cases h0
    · cases hv
      rw [cell_of_row w g j cur t (0, 0) hg]
      rw [← ht, List.getElem?_take] at e
      split at e
      · simpa using e
      · cases e
  intro i s e
  have f := fun j hj => flatNo xs i s j e hj
  rw [Nat.zero_add]
  exact ⟨key _ _ (by simpa [N5.cells] using f 0 (by omega)), key _ _ (by simpa [N5.cells] using f 1 (by omega)), key _ _ (by simpa [N5.cells] using f 2 (by omega)), key _ _ (by simpa [N5.cells] using f 3 (by omega)), key _ _ (by simpa [N5.cells] using f 4 (by omega))⟩
theorem own_roomNo {w : World} {B : Nat} {t : TypeId} {g n cap : Nat} {vs : List Value} (h : w.ownsRow B t 5 (.slice (some ⟨g, 0, none⟩) n cap) n vs) : Room w g (n * 5) := by
  intro j hj
  rcases h.2 with ⟨h0, _⟩ | ⟨g', cap', cur, hv, _, hg, hn, _, hc, ht⟩
  · cases h0
  · cases hv
    have hlt : j < cur.size := by
      have : n * 5 ≤ cap * 5 := Nat.mul_le_mul_right 5 hn
      omega
    refine ⟨cur[j], ?_, ?_⟩
    · rw [cell_of_row w g j cur t (0, 0) hg, Array.getElem?_eq_getElem hlt]
    · simp [World.frozen?, hg]
theorem infoNote : (Tryz.prog.info? 106).map (fun i => (i.zero, i.size, i.bytes)) = some (some (.agg #[.int .i64 0, .int .i64 0, .int .i64 0, .int .i64 0, .bool false]), 5, 40) := by kernel_rfl
theorem flat_len {α : Type} {cells : α → List Value} {sz : Nat} (hl : ∀ s, (cells s).length = sz) (l : List α) : (l.flatMap cells).length = l.length * sz := by
  induction l with
  | nil => simp
  | cons y l ih => rw [List.flatMap_cons, List.length_append, ih, hl, List.length_cons, Nat.add_mul]; omega
theorem pushX {α : Type} {cells : α → List Value} {T ST : TypeId} {sz by_ : Nat} (hl : ∀ s, (cells s).length = sz) (h1 : ∀ s, ∀ u ∈ cells s, u.oneCell' = true) (hsz : 0 < sz) {P : Program} {i0 : TypeInfo} {z : Value} (ht : P.underlying ST = some (.slice T)) (hi : P.info? T = some i0) (hz : i0.zero = some z) (hs : i0.size = sz) (hby : i0.bytes = by_) (hzs : z.cells.size = sz) (hbb : by_ ≤ 1000)
    {W : World} {base : Nat} {v : Value} {xs : List α} (h : W.ownsRow base T sz v xs.length (xs.flatMap cells)) (ys : List α) (hm : xs.length + ys.length ≤ 1048576) (ty : TypeId) (b off k : Nat) (src : ∀ i s, ys[i]? = some s → ∀ t u, (cells s)[t]? = some u → W.cell? ⟨b, off + i * sz + t, none⟩ = some u) (hbase : base ≤ W.heap.size) :
    ∃ v' W', (Builtin.append_ #[ST, ST] ty #[v, .slice (some ⟨b, off, none⟩) ys.length k]).run P W = .ok v' W' ∧ W'.ownsRow base T sz v' (xs ++ ys).length ((xs ++ ys).flatMap cells) ∧ W.grownBy W' v.ownBlock ∧ (v'.ownBlock = v.ownBlock ∨ v'.ownBlock = some W.heap.size) := by
  have hadd : ∀ (b o j : Nat), (⟨b, o, none⟩ : Addr).add j = ⟨b, o + j, none⟩ := fun b o j => by unfold Addr.add; split <;> simp_all
  obtain ⟨v', W', hrun, hown, hg, hnil, hlies⟩ := run_append_own_at (P := P) W base ST ty T i0 z sz by_ ht hi hz hs hby hzs hsz
    v xs.length _ h ⟨b, off, none⟩ ys.length k (ys.flatMap cells) (flat_len hl ys) (fun j u hu => by
      have hj : j < ys.length * sz := by rw [← flat_len hl]; exact (List.getElem?_eq_some_iff.1 hu).1
      have hi : j / sz < ys.length := Nat.div_lt_of_lt_mul (by rw [Nat.mul_comm]; exact hj)
      have hxs := List.getElem?_eq_getElem hi
      have hjt : j / sz * sz + j % sz = j := Nat.div_add_mod' j sz
      have := flat_at (f := cells) (l := ys) (fun x _ => hl x) hxs (Nat.mod_lt j hsz)
      rw [hjt] at this
      rw [hadd, ← hjt, ← Nat.add_assoc]
      exact src _ _ hxs _ u (by rw [← this]; exact hu))
    (fun u hu => by obtain ⟨s, _, hs⟩ := List.mem_flatMap.1 hu; exact h1 s u hs) (by unfold maxLen; omega) (by
      have : (xs.length + ys.length) * by_ ≤ 1048576 * 1000 := Nat.mul_le_mul hm hbb
      omega) hbase
  rw [← List.flatMap_append, ← List.length_append] at hown
  exact ⟨v', W', hrun, hown, hg, hlies⟩
theorem setOne : ∀ s : S5, ∀ u ∈ S5.cells s, u.oneCell' = true := fun s u hu => by
  simp only [S5.cells, List.mem_cons, List.not_mem_nil, or_false] at hu
  rcases hu with rfl | rfl | rfl | rfl | rfl <;> rfl
theorem noteOne : ∀ s : N5, ∀ u ∈ s.cells, u.oneCell' = true := fun s u hu => by
  simp only [N5.cells, List.mem_cons, List.not_mem_nil, or_false] at hu
  rcases hu with rfl | rfl | rfl | rfl | rfl <;> rfl
theorem SetAt.cellsAt {w : World} {b o : Nat} {s : S5} (h : SetAt w b o s) : ∀ t u, (S5.cells s)[t]? = some u → w.cell? ⟨b, o + t, none⟩ = some u := fun t u hu => by
  rcases t with _ | _ | _ | _ | _ | t
  · simp [S5.cells] at hu; subst hu; exact h.c0
  · simp [S5.cells] at hu; subst hu; exact h.c1
  · simp [S5.cells] at hu; subst hu; exact h.c2
  · simp [S5.cells] at hu; subst hu; exact h.c3
  · simp [S5.cells] at hu; subst hu; exact h.c4
  · simp [S5.cells] at hu
theorem NoteAt.cellsAt {w : World} {b o : Nat} {s : N5} (h : NoteAt w b o s) : ∀ t u, s.cells[t]? = some u → w.cell? ⟨b, o + t, none⟩ = some u := fun t u hu => by
  rcases t with _ | _ | _ | _ | _ | t
  · simp [N5.cells] at hu; subst hu; exact h.c0
  · simp [N5.cells] at hu; subst hu; exact h.c1
  · simp [N5.cells] at hu; subst hu; exact h.c2
  · simp [N5.cells] at hu; subst hu; exact h.c3
  · simp [N5.cells] at hu; subst hu; exact h.c4
  · simp [N5.cells] at hu
def RowS (W : World) (base : Nat) (v : Value) (xs : List S5) : Prop := W.ownsRow base 109 5 v xs.length (xs.flatMap S5.cells)
def RowN (W : World) (base : Nat) (v : Value) (xs : List N5) : Prop := W.ownsRow base 106 5 v xs.length (xs.flatMap N5.cells)
theorem pushSe {W : World} {base : Nat} {v : Value} {xs : List S5} (h : RowS W base v xs) (ys : List S5) (hm : xs.length + ys.length ≤ 1048576) (ty : TypeId) (b off k : Nat) (src : SetsAt W b off ys) (hbase : base ≤ W.heap.size) :
    ∃ v' W', (Builtin.append_ #[54, 54] ty #[v, .slice (some ⟨b, off, none⟩) ys.length k]).run Tryz.prog W = .ok v' W' ∧ RowS W' base v' (xs ++ ys) ∧ W.grownBy W' v.ownBlock ∧ (v'.ownBlock = v.ownBlock ∨ v'.ownBlock = some W.heap.size) := by
  obtain ⟨i0, hi0, hz0, hz1, hz2⟩ := partsOf infoSet
  exact pushX (cells := S5.cells) (fun _ => rfl) setOne (by omega) Tryz.underlying54 hi0 hz0 hz1 hz2 rfl (by omega) h ys hm ty b off k (fun i s e t u hu => (src i s e).cellsAt t u hu) hbase
theorem pushNo {W : World} {base : Nat} {v : Value} {xs : List N5} (h : RowN W base v xs) (ys : List N5) (hm : xs.length + ys.length ≤ 1048576) (ty : TypeId) (b off k : Nat) (src : NotesAt W b off ys) (hbase : base ≤ W.heap.size) :
    ∃ v' W', (Builtin.append_ #[53, 53] ty #[v, .slice (some ⟨b, off, none⟩) ys.length k]).run Tryz.prog W = .ok v' W' ∧ RowN W' base v' (xs ++ ys) ∧ W.grownBy W' v.ownBlock ∧ (v'.ownBlock = v.ownBlock ∨ v'.ownBlock = some W.heap.size) := by
  obtain ⟨i0, hi0, hz0, hz1, hz2⟩ := partsOf infoNote
  exact pushX (cells := N5.cells) (fun _ => rfl) noteOne (by omega) Tryz.underlying53 hi0 hz0 hz1 hz2 rfl (by omega) h ys hm ty b off k (fun i s e t u hu => (src i s e).cellsAt t u hu) hbase
theorem RowS.nil (W : World) (base : Nat) : RowS W base (.slice none 0 0) [] := ⟨rfl, .inl ⟨rfl, rfl⟩⟩
theorem RowN.nil (W : World) (base : Nat) : RowN W base (.slice none 0 0) [] := ⟨rfl, .inl ⟨rfl, rfl⟩⟩
theorem RowS.lt {W : World} {base : Nat} {v : Value} {xs : List S5} (h : RowS W base v xs) {q : Nat} (e : v.ownBlock = some q) : base ≤ q ∧ q < W.heap.size := World.ownsRow.lt h q e
theorem RowN.lt {W : World} {base : Nat} {v : Value} {xs : List N5} (h : RowN W base v xs) {q : Nat} (e : v.ownBlock = some q) : base ≤ q ∧ q < W.heap.size := World.ownsRow.lt h q e
theorem row_keep {W W' : World} {base : Nat} {v : Value} {T : TypeId} {sz n : Nat} {vs : List Value} (h : W.ownsRow base T sz v n vs) (hk : ∀ q, v.ownBlock = some q → W'.heap[q]? = W.heap[q]?) : W'.ownsRow base T sz v n vs := by
  refine ⟨h.1, h.2.imp id ?_⟩
  rintro ⟨q, cap, cur, rfl, l, hg, r⟩
  exact ⟨q, cap, cur, rfl, l, (hk q rfl).trans hg, r⟩
theorem RowS.keep {W W' : World} {base : Nat} {v : Value} {xs : List S5} (h : RowS W base v xs) (hk : ∀ q, base ≤ q → q < W.heap.size → v.ownBlock = some q → W'.heap[q]? = W.heap[q]?) : RowS W' base v xs := row_keep h (fun q e => hk q (h.lt e).1 (h.lt e).2 e)
theorem RowN.keep {W W' : World} {base : Nat} {v : Value} {xs : List N5} (h : RowN W base v xs) (hk : ∀ q, base ≤ q → q < W.heap.size → v.ownBlock = some q → W'.heap[q]? = W.heap[q]?) : RowN W' base v xs := row_keep h (fun q e => hk q (h.lt e).1 (h.lt e).2 e)
theorem RowS.later {W W' : World} {base : Nat} {v : Value} {xs : List S5} (h : RowS W base v xs) (hb : Below W.heap.size W W') : RowS W' base v xs := h.keep (fun q _ hq _ => hb.block q hq)
theorem RowN.later {W W' : World} {base : Nat} {v : Value} {xs : List N5} (h : RowN W base v xs) (hb : Below W.heap.size W W') : RowN W' base v xs := h.keep (fun q _ hq _ => hb.block q hq)
theorem RowS.form {W : World} {base : Nat} {v : Value} {xs : List S5} (h : RowS W base v xs) : ∃ a c, v = .slice a xs.length c ∧ OwnSe W (fun q => v.ownBlock = some q) a xs := by
  rcases h.2 with ⟨rfl, h0⟩ | ⟨q, cap, cur, rfl, hb, hg, hl, _⟩
  · exact ⟨none, 0, by rw [h0], .inl (List.eq_nil_of_length_eq_zero h0)⟩
  · refine ⟨some ⟨q, 0, none⟩, cap, rfl, .inr ⟨q, rfl, rfl, (World.ownsRow.lt h q rfl).2, own_sets h, own_room h⟩⟩
theorem RowN.form {W : World} {base : Nat} {v : Value} {xs : List N5} (h : RowN W base v xs) : ∃ a c, v = .slice a xs.length c ∧ OwnNo W (fun q => v.ownBlock = some q) a xs := by
  rcases h.2 with ⟨rfl, h0⟩ | ⟨q, cap, cur, rfl, hb, hg, hl, _⟩
  · exact ⟨none, 0, by rw [h0], .inl (List.eq_nil_of_length_eq_zero h0)⟩
  · refine ⟨some ⟨q, 0, none⟩, cap, rfl, .inr ⟨q, rfl, rfl, (World.ownsRow.lt h q rfl).2, own_notes h, own_roomNo h⟩⟩
theorem RowS.made (W : World) : RowS (W.alloc (.cells #[] 109)) W.heap.size (.slice (some ⟨W.heap.size, 0, none⟩) 0 0) [] := World.ownsRow_made W #[] 0 (Nat.le_refl _) (Nat.zero_le _) rfl
theorem RowN.made (W : World) : RowN (W.alloc (.cells #[] 106)) W.heap.size (.slice (some ⟨W.heap.size, 0, none⟩) 0 0) [] := World.ownsRow_made W #[] 0 (Nat.le_refl _) (Nat.zero_le _) rfl
theorem SetAt.box (W : World) (s : S5) (T : TypeId) : SetAt (W.alloc (.cells #[.int .i64 s.region, .int .i64 s.slot, .int .i64 s.value, .bool s.used, .int .i64 s.version] T)) W.heap.size 0 s := ⟨by go_simp, by go_simp, by go_simp, by go_simp, by go_simp⟩
theorem NoteAt.box (W : World) (s : N5) (T : TypeId) : NoteAt (W.alloc (.cells #[.int .i64 s.region, .int .i64 s.slot, .int .i64 s.version, .int .i64 s.value, .bool s.used] T)) W.heap.size 0 s := ⟨by go_simp, by go_simp, by go_simp, by go_simp, by go_simp⟩
theorem SetAt.one {W : World} {b o : Nat} {s : S5} (h : SetAt W b o s) : SetsAt W b o [s] := fun i x e => by
  rcases i with _ | i
  · simp at e; subst e; simpa using h
  · simp at e
theorem NoteAt.one {W : World} {b o : Nat} {s : N5} (h : NoteAt W b o s) : NotesAt W b o [s] := fun i x e => by
  rcases i with _ | i
  · simp at e; subst e; simpa using h
  · simp at e
def OAns (w : World) (t : T7) (e : Ending) (w' : World) : Prop := ∃ (a4 : Option Addr) (c4 : Nat) (h4 : Option Addr) (d4 : Nat) (PR PS : Nat → Prop), e = .returned ((TV.mk a4 c4 h4 d4).val t) ∧ OT w' w.heap.size ⟨a4, c4, h4, d4⟩ t PR PS ∧ Below w.heap.size w w'
theorem pushNoAny {W : World} {base : Nat} {v : Value} {xs : List N5} (h : RowN W base v xs) (ys : List N5) (hm : xs.length + ys.length ≤ 1048576) (ty : TypeId) (a : Option Addr) (k : Nat) (src : SlNo W W.heap.size a ys.length ys) (hbase : base ≤ W.heap.size) :
    ∃ a' c' W', (Builtin.append_ #[53, 53] ty #[v, .slice a ys.length k]).run Tryz.prog W = .ok (.slice a' (xs ++ ys).length c') W' ∧ RowN W' base (.slice a' (xs ++ ys).length c') (xs ++ ys) ∧ W.grownBy W' v.ownBlock ∧ ((Value.slice a' (xs ++ ys).length c').ownBlock = v.ownBlock ∨ (Value.slice a' (xs ++ ys).length c').ownBlock = some W.heap.size) := by
  by_cases e : ys = []
  · subst e
    obtain ⟨i0, hi0, hz0, hz1, hz2⟩ := partsOf infoNote
    obtain ⟨a0, c0, rfl, -⟩ := h.form
    have hle : xs.length ≤ c0 := by
      rcases h.2 with ⟨h0, h1⟩ | ⟨q', cap', cur, h0, _, _, hc, _⟩
      · rw [h1]; exact Nat.zero_le _
      · cases h0; exact hc
    simp only [List.append_nil]
    refine ⟨a0, c0, W, ?_, h, ⟨rfl, rfl, rfl, Nat.le_refl _, fun _ _ _ => rfl⟩, .inl rfl⟩
    refine run_append_nothing W 53 53 ty 106 i0 Tryz.underlying53 hi0 a0 xs.length c0 hle (.slice a 0 k) ?_
    cases a with
    | none => exact Src.ofNil W Tryz.underlying53 k
    | some x => exact Src.ofSlice W Tryz.underlying53 x 0 k [] (by simp) (fun j u hu => by simp at hu) (fun u hu => by cases hu)
  · have hpos : 0 < ys.length := List.length_pos_iff.2 e
    obtain ⟨_, src⟩ := src
    rcases src with src | ⟨b, off, rfl, hb, hx⟩
    · omega
    obtain ⟨v', W', h1, h2, h3, h4⟩ := pushNo h ys hm ty b off k hx hbase
    obtain ⟨a', c', rfl, -⟩ := h2.form
    exact ⟨a', c', W', h1, h2, h3, h4⟩
theorem copyNo {W : World} {base : Nat} {v : Value} (h : RowN W base v []) (ys : List N5) (hm : ys.length ≤ 1048576) (ty : TypeId) (a : Option Addr) (k : Nat) (src : SlNo W W.heap.size a ys.length ys) (hbase : base ≤ W.heap.size) :
    ∃ a' c' W', (Builtin.append_ #[53, 53] ty #[v, .slice a ys.length k]).run Tryz.prog W = .ok (.slice a' ys.length c') W' ∧ RowN W' base (.slice a' ys.length c') ys ∧ W.grownBy W' v.ownBlock :=
  let ⟨a', c', W', h1, h2, h3, _⟩ := pushNoAny h ys (by simpa using hm) ty a k src hbase
  ⟨a', c', W', h1, h2, h3⟩
theorem pushSeAny {W : World} {base : Nat} {v : Value} {xs : List S5} (h : RowS W base v xs) (ys : List S5) (hm : xs.length + ys.length ≤ 1048576) (ty : TypeId) (a : Option Addr) (k : Nat) (src : Sl W W.heap.size a ys.length ys) (hbase : base ≤ W.heap.size) :
    ∃ a' c' W', (Builtin.append_ #[54, 54] ty #[v, .slice a ys.length k]).run Tryz.prog W = .ok (.slice a' (xs ++ ys).length c') W' ∧ RowS W' base (.slice a' (xs ++ ys).length c') (xs ++ ys) ∧ W.grownBy W' v.ownBlock ∧ ((Value.slice a' (xs ++ ys).length c').ownBlock = v.ownBlock ∨ (Value.slice a' (xs ++ ys).length c').ownBlock = some W.heap.size) := by
  by_cases e : ys = []
  · subst e
    obtain ⟨i0, hi0, hz0, hz1, hz2⟩ := partsOf infoSet
    obtain ⟨a0, c0, rfl, -⟩ := h.form
    have hle : xs.length ≤ c0 := by
      rcases h.2 with ⟨h0, h1⟩ | ⟨q', cap', cur, h0, _, _, hc, _⟩
      · rw [h1]; exact Nat.zero_le _
      · cases h0; exact hc
    simp only [List.append_nil]
    refine ⟨a0, c0, W, ?_, h, ⟨rfl, rfl, rfl, Nat.le_refl _, fun _ _ _ => rfl⟩, .inl rfl⟩
    refine run_append_nothing W 54 54 ty 109 i0 Tryz.underlying54 hi0 a0 xs.length c0 hle (.slice a 0 k) ?_
    cases a with
    | none => exact Src.ofNil W Tryz.underlying54 k
    | some x => exact Src.ofSlice W Tryz.underlying54 x 0 k [] (by simp) (fun j u hu => by simp at hu) (fun u hu => by cases hu)
  · have hpos : 0 < ys.length := List.length_pos_iff.2 e
    obtain ⟨_, src⟩ := src
    rcases src with src | ⟨b, off, rfl, hb, hx⟩
    · omega
    obtain ⟨v', W', h1, h2, h3, h4⟩ := pushSe h ys hm ty b off k hx hbase
    obtain ⟨a', c', rfl, -⟩ := h2.form
    exact ⟨a', c', W', h1, h2, h3, h4⟩
theorem copySe {W : World} {base : Nat} {v : Value} (h : RowS W base v []) (ys : List S5) (hm : ys.length ≤ 1048576) (ty : TypeId) (a : Option Addr) (k : Nat) (src : Sl W W.heap.size a ys.length ys) (hbase : base ≤ W.heap.size) :
    ∃ a' c' W', (Builtin.append_ #[54, 54] ty #[v, .slice a ys.length k]).run Tryz.prog W = .ok (.slice a' ys.length c') W' ∧ RowS W' base (.slice a' ys.length c') ys ∧ W.grownBy W' v.ownBlock :=
  let ⟨a', c', W', h1, h2, h3, _⟩ := pushSeAny h ys (by simpa using hm) ty a k src hbase
  ⟨a', c', W', h1, h2, h3⟩
set_option maxRecDepth 100000 in
set_option maxHeartbeats 8000000 in
theorem ownTx_any (w : World) (v : TV) (t : T7) (hr : t.reads.length ≤ 1048576) (hss : t.sets.length ≤ 1048576) (h : SlT w v t) :
    Calls Tryz.prog 151 #[v.val t] w (OAns w t) := by
  obtain ⟨ar, cr, ah, ch⟩ := v
  simp only [TV.val]
  obtain ⟨W1, hW1⟩ : ∃ W1, W1 = w.alloc (.cells #[.int .i64 t.id, .int .i64 t.home, .int .i64 t.phase, .int .i64 t.count, .slice ar t.reads.length cr, .slice ah t.sets.length ch, .int .i64 t.stamp] 56) := ⟨_, rfl⟩
  have z1 : W1.heap.size = w.heap.size + 1 := by rw [hW1]; simp
  have x1 : BT W1 w.heap.size ⟨ar, cr, ah, ch⟩ t := by rw [hW1]; exact BT.box w ⟨ar, cr, ah, ch⟩ t _
  have b1 : Below w.heap.size w W1 := by rw [hW1]; exact (Below.refl _ _).alloc (Nat.le_refl _) _
  obtain ⟨W, hW⟩ : ∃ W2, W2 = W1.alloc (.cells #[.int .i64 0, .int .i64 0, .int .i64 0, .int .i64 0, .slice none 0 0, .slice none 0 0, .int .i64 0] 56) := ⟨_, rfl⟩
  have b2 : Below W1.heap.size W1 W := by rw [hW]; exact (Below.refl _ _).alloc (Nat.le_refl _) _
  have yR : BT W (w.heap.size + 1) ⟨none, 0, none, 0⟩ ⟨0, 0, 0, 0, [], [], 0⟩ := by rw [hW, ← z1]; exact BT.zero W1 _
  have sW : W.heap.size = w.heap.size + 2 := by rw [hW]; simp [z1]
  have yA : BT W w.heap.size ⟨ar, cr, ah, ch⟩ t := x1.later b2
  have bW : Below w.heap.size w W := b1.trans (b2.mono b1.size)
  have bV1 : Below W.heap.size W W := Below.refl _ _
  obtain ⟨a1, c1, Y1, run1, row1, gr1⟩ := copyNo (RowN.nil W W.heap.size) t.reads hr 53 ar cr ((h.later (bW.trans (bV1.mono bW.size))).r) bV1.size
  have bY1 : Below W.heap.size W Y1 := bV1.grown gr1 bV1.size (fun q e => by cases e)
  have yA1 : BT Y1 w.heap.size ⟨ar, cr, ah, ch⟩ t := yA.later bY1
  have yR1 := yR.later bY1
  have yA2 : BT (Y1.setCell ⟨w.heap.size, 4, none⟩ (.slice a1 t.reads.length c1)) w.heap.size ⟨a1, c1, ah, ch⟩ t := yA1.set4 a1 c1 t.reads
  have yR2 := yR1.far (p := ⟨w.heap.size, 4, none⟩) (by dsimp only; omega) (.slice a1 t.reads.length c1)
  have bX1 : Below w.heap.size w (Y1.setCell ⟨w.heap.size, 4, none⟩ (.slice a1 t.reads.length c1)) := (bW.trans (bY1.mono bW.size)).setCell (p := ⟨w.heap.size, 4, none⟩) (Nat.le_refl _) _
  have row1' : RowN (Y1.setCell ⟨w.heap.size, 4, none⟩ (.slice a1 t.reads.length c1)) W.heap.size (.slice a1 t.reads.length c1) t.reads := row1.keep (fun q hq _ _ => Below.heap_setCell _ _ _ _ (by show q ≠ w.heap.size; omega))
  have zX1 : (Y1.setCell ⟨w.heap.size, 4, none⟩ (.slice a1 t.reads.length c1)).heap.size = Y1.heap.size := by simp [World.setCell]
  have bV2 : Below (Y1.setCell ⟨w.heap.size, 4, none⟩ (.slice a1 t.reads.length c1)).heap.size (Y1.setCell ⟨w.heap.size, 4, none⟩ (.slice a1 t.reads.length c1)) (Y1.setCell ⟨w.heap.size, 4, none⟩ (.slice a1 t.reads.length c1)) := Below.refl _ _
  obtain ⟨a2, c2, Y2, run2, row2, gr2⟩ := copySe (RowS.nil (Y1.setCell ⟨w.heap.size, 4, none⟩ (.slice a1 t.reads.length c1)) (Y1.setCell ⟨w.heap.size, 4, none⟩ (.slice a1 t.reads.length c1)).heap.size) t.sets hss 54 ah ch ((h.later (bX1.trans (bV2.mono bX1.size))).s) bV2.size
  have bY2 : Below (Y1.setCell ⟨w.heap.size, 4, none⟩ (.slice a1 t.reads.length c1)).heap.size (Y1.setCell ⟨w.heap.size, 4, none⟩ (.slice a1 t.reads.length c1)) Y2 := bV2.grown gr2 bV2.size (fun q e => by cases e)
  have yA3 : BT Y2 w.heap.size ⟨a1, c1, ah, ch⟩ t := yA2.later bY2
  have yR3 := yR2.later bY2
  have yA4 : BT (Y2.setCell ⟨w.heap.size, 5, none⟩ (.slice a2 t.sets.length c2)) w.heap.size ⟨a1, c1, a2, c2⟩ t := yA3.set5 a2 c2 t.sets
  have yR4 := yR3.far (p := ⟨w.heap.size, 5, none⟩) (by dsimp only; omega) (.slice a2 t.sets.length c2)
  have bX2 : Below w.heap.size w (Y2.setCell ⟨w.heap.size, 5, none⟩ (.slice a2 t.sets.length c2)) := (bX1.trans (bY2.mono bX1.size)).setCell (p := ⟨w.heap.size, 5, none⟩) (Nat.le_refl _) _
  have row1'' : RowN (Y2.setCell ⟨w.heap.size, 5, none⟩ (.slice a2 t.sets.length c2)) W.heap.size (.slice a1 t.reads.length c1) t.reads := (row1'.later bY2).keep (fun q hq _ _ => Below.heap_setCell _ _ _ _ (by show q ≠ w.heap.size; omega))
  have hs1 : W.heap.size ≤ (Y1.setCell ⟨w.heap.size, 4, none⟩ (.slice a1 t.reads.length c1)).heap.size := by rw [zX1]; exact bY1.size
  have row2' : RowS (Y2.setCell ⟨w.heap.size, 5, none⟩ (.slice a2 t.sets.length c2)) (Y1.setCell ⟨w.heap.size, 4, none⟩ (.slice a1 t.reads.length c1)).heap.size (.slice a2 t.sets.length c2) t.sets := row2.keep (fun q hq _ _ => Below.heap_setCell _ _ _ _ (by show q ≠ w.heap.size; omega))
  have yR5 := yR4.put ⟨a1, c1, a2, c2⟩ t
  have p4 := yA.c4
  have k4 := yA1.c4
  have k4f := yA1.fz 4
  have p5 := (yA2.later bV2).c5
  have k5 := yA3.c5
  have k5f := yA3.fz 5
  dsimp only at p4 k4 p5 k5
  obtain ⟨o0, o1, o2, o3, o4, o5, o6, -, -⟩ := yA4
  have KR := yR4
  have hlt1 : ∀ q, (Value.slice a1 t.reads.length c1).ownBlock = some q → W.heap.size ≤ q ∧ q < (Y1.setCell ⟨w.heap.size, 4, none⟩ (.slice a1 t.reads.length c1)).heap.size := fun q e => row1'.lt e
  have KO : OT (Y2.setCell ⟨w.heap.size, 5, none⟩ (.slice a2 t.sets.length c2)) w.heap.size ⟨a1, c1, a2, c2⟩ t (fun q => (Value.slice a1 t.reads.length c1).ownBlock = some q) (fun q => (Value.slice a2 t.sets.length c2).ownBlock = some q) := by
    obtain ⟨_, _, e1, o1⟩ := row1''.form
    obtain ⟨_, _, e2, o2⟩ := row2'.form
    cases e1; cases e2
    exact ⟨o1, o2, fun q h1 h2 => by have := (hlt1 q h1).2; have := (row2'.lt h2).1; omega, fun q h1 => ⟨by have := (row1''.lt h1).1; omega, (row1''.lt h1).2⟩, fun q h1 => ⟨by have := (row2'.lt h1).1; omega, (row2'.lt h1).2⟩⟩
  have KH : Hid (OT (Y2.setCell ⟨w.heap.size, 5, none⟩ (.slice a2 t.sets.length c2)) w.heap.size ⟨a1, c1, a2, c2⟩ t (fun q => (Value.slice a1 t.reads.length c1).ownBlock = some q) (fun q => (Value.slice a2 t.sets.length c2).ownBlock = some q) ∧ Below w.heap.size w (Y2.setCell ⟨w.heap.size, 5, none⟩ (.slice a2 t.sets.length c2)) ∧ (∀ q, OfT (fun q => (Value.slice a1 t.reads.length c1).ownBlock = some q) (fun q => (Value.slice a2 t.sets.length c2).ownBlock = some q) q → w.heap.size + 2 ≤ q)) := ⟨KO, bX2, fun q hq => by
    rcases hq with hq | hq
    · have := (row1''.lt hq).1; omega
    · have := (row2'.lt hq).1; omega⟩
  simp only [putT] at yR5
  obtain ⟨u0, u1, u2, u3, u4, u5, u6, -, -⟩ := yR5
  have KX : Hid (((Y2.setCell ⟨w.heap.size, 5, none⟩ (.slice a2 t.sets.length c2)).cell? ⟨w.heap.size, 0, none⟩ = some (.int .i64 t.id) ∧ (Y2.setCell ⟨w.heap.size, 5, none⟩ (.slice a2 t.sets.length c2)).cell? ⟨w.heap.size, 1, none⟩ = some (.int .i64 t.home) ∧ (Y2.setCell ⟨w.heap.size, 5, none⟩ (.slice a2 t.sets.length c2)).cell? ⟨w.heap.size, 2, none⟩ = some (.int .i64 t.phase) ∧ (Y2.setCell ⟨w.heap.size, 5, none⟩ (.slice a2 t.sets.length c2)).cell? ⟨w.heap.size, 3, none⟩ = some (.int .i64 t.count) ∧ (Y2.setCell ⟨w.heap.size, 5, none⟩ (.slice a2 t.sets.length c2)).cell? ⟨w.heap.size, 4, none⟩ = some (.slice a1 t.reads.length c1) ∧ (Y2.setCell ⟨w.heap.size, 5, none⟩ (.slice a2 t.sets.length c2)).cell? ⟨w.heap.size, 5, none⟩ = some (.slice a2 t.sets.length c2) ∧ (Y2.setCell ⟨w.heap.size, 5, none⟩ (.slice a2 t.sets.length c2)).cell? ⟨w.heap.size, 6, none⟩ = some (.int .i64 t.stamp)) ∧ BT (Y2.setCell ⟨w.heap.size, 5, none⟩ (.slice a2 t.sets.length c2)) (w.heap.size + 1) ⟨none, 0, none, 0⟩ ⟨0, 0, 0, 0, [], [], 0⟩) := ⟨⟨o0, o1, o2, o3, o4, o5, o6⟩, KR⟩
  have KU := hidOf (And.intro u0 (And.intro u1 (And.intro u2 (And.intro u3 (And.intro u4 (And.intro u5 u6))))))
  have K1 := hidOf (And.intro k4 (And.intro k4f p5))
  have K2 := hidOf (And.intro k5 k5f)
  have R1 := hidOf run1
  have R2 := hidOf run2
  rw [hW1] at hW
  have sW2 : W.heap.size = w.heap.size + 1 + 1 := by omega
  clear sW
  clear hW1 x1 b1 b2 z1 yA yR bW bV1 bY1 row1 gr1 yA1 yR1 yA2 yR2 bX1 row1' bV2 row2 gr2 bY2 yA3 yR3 bX2 row1'' row2' hs1 hlt1 h KO KR o0 o1 o2 o3 o4 o5 o6 u0 u1 u2 u3 u4 u5 u6 k4 k4f p5 k5 k5f run1 run2
  go_enter Tryz.func151, Tryz.ntmps151
  have r1 := R1.out
  have r2 := R2.out
  skip
  skip
  rw [hW] at r1
  obtain ⟨k4, k4f, p5⟩ := K1.out
  obtain ⟨k5, k5f⟩ := K2.out
  obtain ⟨⟨o0, o1, o2, o3, o4, o5, o6⟩, ⟨r0, r1', r2', r3, r4, r5, r6, fr, -⟩⟩ := KX.out
  have f0 := fr 0
  have f1 := fr 1
  have f2 := fr 2
  have f3 := fr 3
  have f4 := fr 4
  have f5 := fr 5
  have f6 := fr 6
  clear fr K1 K2 KX R1 R2 hW p4 zX1 sW2
  go_wp2_with (first | (at_builtin; refine append_known _ rfl (.const (.slice none 0 0)) (.tmp 4) 53 rfl _ _ _ _ rfl rfl r1 ?_) | (at_builtin; refine append_known _ rfl (.const (.slice none 0 0)) (.tmp 8) 54 rfl _ _ _ _ rfl rfl r2 ?_))
  obtain ⟨u0, u1, u2, u3, u4, u5, u6⟩ := KU.out
  refine bodyPost_ret (v := .agg #[.int .i64 t.id, .int .i64 t.home, .int .i64 t.phase, .int .i64 t.count, .slice a1 t.reads.length c1, .slice a2 t.sets.length c2, .int .i64 t.stamp]) (by simp [results, Tryz.results151, go_sem, u0, u1, u2, u3, u4, u5, u6]) rfl ?_
  obtain ⟨ot, bX, q2⟩ := KH.out
  refine ⟨a1, c1, a2, c2, fun q => (Value.slice a1 t.reads.length c1).ownBlock = some q, fun q => (Value.slice a2 t.sets.length c2).ownBlock = some q, rfl, ?_, ?_⟩
  · exact ot.keep (by simp [World.setCell]) (fun q _ hq => putT_block (s := w.heap.size + 1) (v := ⟨a1, c1, a2, c2⟩) (t := t) (by have := q2 q hq; omega))
  · exact putT_below (s := w.heap.size + 1) (v := ⟨a1, c1, a2, c2⟩) (t := t) bX (by omega)
end Go.Proofs.YtnhjgomfkfehgaaGreatDoor.tx
namespace Go.Proofs.YtnhjgomfkfehgaaGreatDoor
open Go.RowKit
open Go.Sort (grow)
set_option maxHeartbeats 1000000 in
theorem clone_any (w : World) (b off cap : Nat) (zs : List Int) (hb : b < w.heap.size) (hs : NumsAt w b off zs) (hn : zs.length ≤ 1000) :
    Calls Tryz.prog 148 #[.slice (some ⟨b, off, none⟩) zs.length cap] w fun e w' => ∃ q cp, e = .returned (.slice (some ⟨q, 0, none⟩) zs.length cp) ∧ ON w' w.heap.size (.slice (some ⟨q, 0, none⟩) zs.length cp) zs ∧ Below w.heap.size w w' := by
  have bA : Below w.heap.size w (w.alloc (.cells #[] 2)) := (Below.refl _ _).alloc (Nat.le_refl _) _
  obtain ⟨v', W', hr, ho, hg, hl⟩ := on_append (w.alloc (.cells #[] 2)) w.heap.size _ [] zs b off cap 60 (ON.empty w) (hs.below bA hb) (by simp; omega) bA.size
  rw [List.nil_append] at ho
  have hb2 : Below w.heap.size w W' := bA.grown hg bA.size (fun k h => by cases h; exact Nat.le_refl _)
  obtain ⟨g, cp, rfl⟩ : ∃ g cp, v' = .slice (some ⟨g, 0, none⟩) zs.length cp := by
    rcases ho.form with ⟨rfl, _⟩ | ⟨g, cp, e, _⟩
    · rcases hl with h | h <;> cases h
    · exact ⟨g, cp, e⟩
  have HK : Hid (ON W' w.heap.size (.slice (some ⟨g, 0, none⟩) zs.length cp) zs ∧ Below w.heap.size w W') := ⟨ho, hb2⟩
  clear ho hg hl hb2 bA hs
  have heq : (binOp .eql 60 (.slice (some ⟨b, off, none⟩) zs.length cap) (.slice none 0 0)).run Tryz.prog w = .ok (.bool false) w := Go.Lib.run_eql_slice_nil w 60 2 (some ⟨b, off, none⟩) zs.length cap 0 0 Tryz.underlying60
  go_enter Tryz.func148, Tryz.ntmps148
  go_wp2_with (at_builtin; refine append_known _ rfl (.tmp 5) (.tmp 6) 60 rfl _ _ _ _ rfl rfl hr ?_)
  go_ret
  exact ⟨g, cp, rfl, HK.out.1, HK.out.2⟩
set_option maxRecDepth 100000 in
set_option maxHeartbeats 2500000 in
theorem ownCluster_any (w : World) (a1 : Option Addr) (c1 : Nat) (a2 : Option Addr) (c2 : Nat) (a3 : Option Addr) (c3 : Nat) (k : C6) (hk : clusterB k = true) (h : KCl.Rd w a1 c1 a2 c2 a3 c3 k) :
    Calls Tryz.prog 91 #[.agg #[.int .i64 k.config, .int .i64 k.clock, .slice a1 k.places.length c1, .slice a2 k.machines.length c2, .slice a3 k.txs.length c3, .bool k.lost]] w (ClAns w k) := by
  have H : Hid (CSm k ∧ KCl.Rd w a1 c1 a2 c2 a3 c3 k) := ⟨CSm.of hk, h⟩
  clear hk h
  obtain ⟨W0, hW0⟩ : ∃ X, X = ((w.alloc (.cells #[.int .i64 k.config, .int .i64 k.clock, .slice a1 k.places.length c1, .slice a2 k.machines.length c2, .slice a3 k.txs.length c3, .bool k.lost] 32)).alloc (.cells #[.int .i64 0, .int .i64 0, .slice none 0 0, .slice none 0 0, .slice none 0 0, .bool false] 32)).alloc (.cells #[.int .i64 k.config, .int .i64 k.clock, .slice none 0 0, .slice none 0 0, .slice none 0 0, .bool k.lost] 32) := ⟨_, rfl⟩
  have S0 : Hid (CSt w [.int .i64 k.config, .int .i64 k.clock, .slice a1 k.places.length c1, .slice a2 k.machines.length c2, .slice a3 k.txs.length c3, .bool k.lost] [.int .i64 0, .int .i64 0, .slice none 0 0, .slice none 0 0, .slice none 0 0, .bool false] k W0 (.slice none 0 0) (.slice none 0 0) (.slice none 0 0) [] gnone [] gnone [] gnone) := by
    obtain ⟨U1, hU1⟩ : ∃ X, X = w.alloc (.cells #[.int .i64 k.config, .int .i64 k.clock, .slice a1 k.places.length c1, .slice a2 k.machines.length c2, .slice a3 k.txs.length c3, .bool k.lost] 32) := ⟨_, rfl⟩
    have x1 : Bx U1 w.heap.size [.int .i64 k.config, .int .i64 k.clock, .slice a1 k.places.length c1, .slice a2 k.machines.length c2, .slice a3 k.txs.length c3, .bool k.lost] := by rw [hU1]; exact Bx.made w [.int .i64 k.config, .int .i64 k.clock, .slice a1 k.places.length c1, .slice a2 k.machines.length c2, .slice a3 k.txs.length c3, .bool k.lost] _
    have b1 : Below w.heap.size w U1 := by rw [hU1]; exact (Below.refl _ _).alloc (Nat.le_refl _) _
    have z1 : U1.heap.size = w.heap.size + 1 := by rw [hU1]; simp
    obtain ⟨U2, hU2⟩ : ∃ X, X = U1.alloc (.cells #[.int .i64 0, .int .i64 0, .slice none 0 0, .slice none 0 0, .slice none 0 0, .bool false] 32) := ⟨_, rfl⟩
    have x2 : Bx U2 U1.heap.size [.int .i64 0, .int .i64 0, .slice none 0 0, .slice none 0 0, .slice none 0 0, .bool false] := by rw [hU2]; exact Bx.made U1 [.int .i64 0, .int .i64 0, .slice none 0 0, .slice none 0 0, .slice none 0 0, .bool false] _
    have b2 : Below U1.heap.size U1 U2 := by rw [hU2]; exact (Below.refl _ _).alloc (Nat.le_refl _) _
    have z2 : U2.heap.size = U1.heap.size + 1 := by rw [hU2]; simp
    have x3 : Bx W0 U2.heap.size [.int .i64 k.config, .int .i64 k.clock, .slice none 0 0, .slice none 0 0, .slice none 0 0, .bool k.lost] := by rw [hW0, hU2, hU1]; exact Bx.made _ [.int .i64 k.config, .int .i64 k.clock, .slice none 0 0, .slice none 0 0, .slice none 0 0, .bool k.lost] _
    have b3 : Below U2.heap.size U2 W0 := by rw [hW0, hU2, hU1]; exact (Below.refl _ _).alloc (Nat.le_refl _) _
    rw [show U2.heap.size = w.heap.size + 2 by omega] at x3
    rw [show U1.heap.size = w.heap.size + 1 by omega] at x2
    exact ⟨(x1.later b2).later b3, x2.later b3, x3, CL3.nil _ _ _, bstep (bstep b1 b2) b3⟩
  have p2 := S0.out.arg.1 2 _ rfl
  rw [hW0] at p2
  go_enter Tryz.func91, Tryz.ntmps91
  go_wp2
  rw [← hW0]
  rw [← hW0] at p2
  clear hW0 p2
  go_loopw [21] (fun v wr => ∃ (j : Nat) (bP : Option Addr) (dP : Nat) (ps : List ((Nat × Nat) × List Int)) (gp : Nat → Nat → Prop), j ≤ k.places.length ∧ v = .int .i64 j ∧ ps.map (·.2) = k.places.take j ∧ CSt w [.int .i64 k.config, .int .i64 k.clock, .slice a1 k.places.length c1, .slice a2 k.machines.length c2, .slice a3 k.txs.length c3, .bool k.lost] [.int .i64 0, .int .i64 0, .slice none 0 0, .slice none 0 0, .slice none 0 0, .bool false] k wr (.slice bP j dP) (.slice none 0 0) (.slice none 0 0) ps gp [] gnone [] gnone) (fun v _ => k.places.length - (intOf v).toNat)
  case atStart => exact ⟨0, none, 0, [], gnone, Nat.zero_le _, rfl, by simp, S0.out⟩
  case round =>
    obtain ⟨j, bP, dP, ps, gp, hj, rfl, hmp, hst⟩ := hrel
    have hln : k.places.length ≤ 1000 := by have := H.out.1.p; omega
    have p2 := hst.arg.1 2 _ rfl
    have p3 := hst.arg.1 3 _ rfl
    have p4 := hst.arg.1 4 _ rfl
    by_cases hlt : j < k.places.length
    · skip
      have hat := atP_of hlt
      have hlp : ps.length = j := by have := congrArg List.length hmp; simpa [Nat.min_eq_left hj] using this
      have hrd := H.out.2.later hst.bel
      obtain ⟨_, hsl⟩ := hrd.p
      rcases hsl with h0 | ⟨b, off, rfl, hb, hsl⟩
      · omega
      obtain ⟨z0, z1, e0, ⟨_, hzs⟩, hcp⟩ := hsl j _ hat
      obtain ⟨hz1, hz3⟩ := H.out.1.ps _ (List.mem_of_getElem? hat)
      rcases hzs with h0 | ⟨zb, zo, rfl, hzb, hzn⟩
      · omega
      have es0 := e0
      clear hsl hrd
      obtain ⟨X0, hX0⟩ : ∃ X, X = wr.alloc (.cells #[.slice (some ⟨zb, zo, none⟩) (atP k.places j).length z1] 127) := ⟨_, rfl⟩
      have bX : Below wr.heap.size wr X0 := by rw [hX0]; exact (Below.refl _ _).alloc (Nat.le_refl _) _
      have xX : Bx X0 wr.heap.size [.slice (some ⟨zb, zo, none⟩) (atP k.places j).length z1] := by rw [hX0]; exact Bx.made wr [.slice (some ⟨zb, zo, none⟩) (atP k.places j).length z1] _
      have hcl := clone_any X0.drew zb zo z1 (atP k.places j) (by have := bX.size; show zb < X0.heap.size; omega) (hzn.below (bX.drew) hzb) (by omega)
      have HS := hidOf hst
      have HX : Hid (Below wr.heap.size wr X0 ∧ wr.heap.size + 1 ≤ X0.heap.size) := ⟨bX, by rw [hX0]; simp⟩
      have HB := hidOf xX
      have HM : Hid (ps.map (·.2) = k.places.take j ∧ ps.length = j ∧ k.places[j]? = some (atP k.places j)) := ⟨hmp, hlp, hat⟩
      clear hst bX xX hmp hlp hat hzn hzb hcp
      go_wp2_with fail
      rw [← hX0]
      clear hX0
      refine wp_region_until 9 (fun X : World => Bx X (w.heap.size + 2) [.int .i64 k.config, .int .i64 k.clock, (.slice bP j dP), (.slice none 0 0), (.slice none 0 0), .bool k.lost] ∧ Bx X wr.heap.size [.slice (some ⟨zb, zo, none⟩) (atP k.places j).length z1]) (by kernel_rfl) ?_
      have hSX : (fun X : World => Bx X (w.heap.size + 2) [.int .i64 k.config, .int .i64 k.clock, (.slice bP j dP), (.slice none 0 0), (.slice none 0 0), .bool k.lost] ∧ Bx X wr.heap.size [.slice (some ⟨zb, zo, none⟩) (atP k.places j).length z1]) X0.drew := ⟨(HS.out.own.later HX.out.1).later (Below.refl _ _).drew, (HB.out).later (Below.refl _ _).drew⟩
      have HD : Hid (Below wr.heap.size wr X0.drew ∧ X0.heap.size ≤ X0.drew.heap.size) := ⟨bstep HX.out.1 (Below.refl _ _).drew, Nat.le_refl _⟩
      have heb : wr.heap.size < X0.drew.heap.size := hSX.2.2.2
      generalize X0.drew = XD at *
      refine wpUntil_take (i := 0) (v := ?_) rfl (by kernel_rfl) (fun _ _ _ h => h) (Or.inl ⟨by rfl, ?_⟩) hSX ?_
      rotate_left
      · (intro w hSw; go_simp; first | done | with_reducible rfl)
      simp only [Act.put]
      refine wpUntil_take (i := 1) (v := ?_) rfl (by kernel_rfl) (fun _ _ _ h => h) (Or.inl ⟨by rfl, ?_⟩) hSX ?_
      rotate_left
      · (intro w hSw; have q := hSw.1.1 2 _ rfl; go_simp; first | done | with_reducible rfl | exact q)
      simp only [Act.put]
      refine wpUntil_take (i := 2) (v := ?_) rfl (by kernel_rfl) (fun _ _ _ h => h) (Or.inl ⟨by rfl, ?_⟩) hSX ?_
      rotate_left
      · (intro w hSw; go_simp; first | done | with_reducible rfl)
      simp only [Act.put]
      refine wpUntil_take (i := 3) (v := ?_) rfl (by kernel_rfl) (fun _ _ _ h => h) (Or.inl ⟨by rfl, ?_⟩) hSX ?_
      rotate_left
      · (intro w hSw; have q := hSw.2.1 0 _ rfl; go_simp; first | done | with_reducible rfl | exact q)
      simp only [Act.put]
      refine wpUntil_ready (rs := [4]) (by kernel_rfl) (by simp) ?_
      refine AllU.cons rfl (fun K hK => ?_) AllU.nil
      go_simp
      refine hcl.mono ?_
      clear hcl
      rintro e X2 ⟨q, cp, rfl, ho, b2⟩
      have hO : KPk.Ow X2 wr.heap.size (q, cp) (atP k.places j) (fun x => x = q) := KPk.low ho.kp HD.out.1.size
      have Q := fun x : Nat => x = q
      have bX2 : Below wr.heap.size wr X2 := bstep HD.out.1 b2
      have hS2 : (fun X : World => Bx X (w.heap.size + 2) [.int .i64 k.config, .int .i64 k.clock, (.slice bP j dP), (.slice none 0 0), (.slice none 0 0), .bool k.lost] ∧ Bx X wr.heap.size [.slice (some ⟨zb, zo, none⟩) (atP k.places j).length z1]) X2 := ⟨hSX.1.later b2, hSX.2.later b2⟩
      obtain ⟨X3, hX3⟩ : ∃ X, X = X2.alloc (.cells #[(.slice (some ⟨q, 0, none⟩) (atP k.places j).length cp)] 127) := ⟨_, rfl⟩
      have b3 : Below X2.heap.size X2 X3 := by rw [hX3]; exact (Below.refl _ _).alloc (Nat.le_refl _) _
      have x3 : Bx X3 X2.heap.size [(.slice (some ⟨q, 0, none⟩) (atP k.places j).length cp)] := by rw [hX3]; exact Bx.made X2 [(.slice (some ⟨q, 0, none⟩) (atP k.places j).length cp)] _
      have hS3 : (fun X : World => Bx X (w.heap.size + 2) [.int .i64 k.config, .int .i64 k.clock, (.slice bP j dP), (.slice none 0 0), (.slice none 0 0), .bool k.lost] ∧ Bx X wr.heap.size [.slice (some ⟨zb, zo, none⟩) (atP k.places j).length z1]) X3 := ⟨hS2.1.later b3, hS2.2.later b3⟩
      obtain ⟨v', Y, hr, hcs, hob, hfar, hsz, a', c', rfl⟩ := HS.out.pushP (bstep bX2 b3) (q, cp) (atP k.places j) (fun x => x = q) X2.heap.size (by rw [HM.out.2.1]; omega) 28 x3.1 (KPk.keep hO b3.size (fun q hq => b3.block q (KPk.of hO hq).2))
      have hS4 : (fun X : World => Bx X (w.heap.size + 2) [.int .i64 k.config, .int .i64 k.clock, (.slice bP j dP), (.slice none 0 0), (.slice none 0 0), .bool k.lost] ∧ Bx X wr.heap.size [.slice (some ⟨zb, zo, none⟩) (atP k.places j).length z1]) Y := ⟨hob, hS3.2.of_block (hfar _ (.inr ⟨by have := HD.out.1.size; omega, hS3.2.2.2⟩)) hsz⟩
      have HE : Hid ((ps ++ [((q, cp), atP k.places j)]).map (·.2) = k.places.take (j + 1)) := by unfold Hid; rw [List.map_append, HM.out.1]; exact take_snoc HM.out.2.2
      rw [HM.out.2.1] at hr hcs
      have KE := hidOf hcs
      refine hK.out _ _ (fun _ => hS2) ?_
      clear hK K b2 bX2 b3 x3 hcs hob hfar hsz hO hSX
      refine wpUntil_take (i := 5) (v := ?_) rfl (by kernel_rfl) (fun _ _ _ h => h) (Or.inl ⟨by rfl, ?_⟩) hS2 ?_
      rotate_left
      · (intro w hSw; go_simp; first | done | with_reducible rfl)
      simp only [Act.put]
      refine wpUntil_ready (rs := [6]) (by kernel_rfl) (by simp) ?_
      refine AllU.cons rfl (fun K hK => ?_) AllU.nil
      go_simp
      rw [← hX3]
      refine hK.out _ _ (fun _ => hS3) ?_
      clear hK K hS2
      refine wpUntil_ready (rs := [7]) (by kernel_rfl) (by simp) ?_
      refine AllU.cons rfl (fun K hK => ?_) AllU.nil
      refine step_known _ rfl (.tmp 26) (.tmp 31) 28 rfl _ _ _ _ (by first | rfl | simp [Act.eval, Act.put]) (by first | rfl | simp [Act.eval, Act.put]) hr ?_
      refine hK.out _ _ (fun _ => hS4) ?_
      clear hK K hr hS3 hX3
      simp only [Act.put]
      refine wpUntil_ready (rs := [8]) (by kernel_rfl) (by simp) ?_
      refine AllU.cons rfl (fun K hK => ?_) AllU.nil
      go_simp
      refine hK.out _ _ (fun _ => hS4) ?_
      clear hK K
      refine wpUntil_ready (rs := [9]) (by kernel_rfl) (by simp) ?_
      refine AllU.cons rfl (fun K hK => ?_) AllU.nil
      have o2 := hS4.1.1 2 _ rfl
      have fo2 := hS4.1.2.1 2
      go_simp
      refine hK.out _ _ (fun h => absurd rfl h) ?_
      clear hK K
      refine wpUntil_done (by kernel_rfl) ?_ _
      go_wp2
      exact ⟨⟨j + 1, a', c', _, _, by omega, by simp, HE.out, KE.out⟩, by simp [intOf]; omega⟩
    · obtain rfl : k.places.length = j := by omega
      have hd : decide ((k.places.length : Int) < (k.places.length : Int)) = false := by simp
      rw [List.take_length] at hmp
      have EP : Hid (ps.map (·.2) = k.places) := hmp
      have S1 := hidOf hst
      clear hmp hst hj hlt hln
      go_wp2
      clear p2 p3 p4
      generalize wr = WP at *
      go_loopw [38] (fun v wr => ∃ (j : Nat) (bM : Option Addr) (dM : Nat) (ms : List ((MV) × M4)) (gm : Nat → Nat → Prop), j ≤ k.machines.length ∧ v = .int .i64 j ∧ ms.map (·.2) = k.machines.take j ∧ CSt w [.int .i64 k.config, .int .i64 k.clock, .slice a1 k.places.length c1, .slice a2 k.machines.length c2, .slice a3 k.txs.length c3, .bool k.lost] [.int .i64 0, .int .i64 0, .slice none 0 0, .slice none 0 0, .slice none 0 0, .bool false] k wr (.slice bP k.places.length dP) (.slice bM j dM) (.slice none 0 0) ps gp ms gm [] gnone) (fun v _ => k.machines.length - (intOf v).toNat)
      case atStart => exact ⟨0, none, 0, [], gnone, Nat.zero_le _, rfl, by simp, S1.out⟩
      case round =>
        obtain ⟨j, bM, dM, ms, gm, hj, rfl, hmp, hst⟩ := hrel
        have hln : k.machines.length ≤ 1000 := by have := H.out.1.m; omega
        have p2 := hst.arg.1 2 _ rfl
        have p3 := hst.arg.1 3 _ rfl
        have p4 := hst.arg.1 4 _ rfl
        by_cases hlt : j < k.machines.length
        · skip
          have hat := atM_of hlt
          have hlp : ms.length = j := by have := congrArg List.length hmp; simpa [Nat.min_eq_left hj] using this
          have hrd := H.out.2.later hst.bel
          rcases hrd.m with h0 | ⟨b, off, rfl, hb, hrd'⟩
          · rw [h0] at hlt; simp at hlt
          obtain ⟨⟨m0, m1, m2, m3, m4, m5⟩, hel, hsd⟩ := hrd' j _ hat
          have es0 : wr.cell? ⟨b, off + j * 4, none⟩ = some (.bool (atM k.machines j).alive) := hel 0 _ rfl
          have es1 : wr.cell? ⟨b, off + j * 4 + 1, none⟩ = some (.slice m0 (atM k.machines j).copies.length m1) := hel 1 _ rfl
          have es2 : wr.cell? ⟨b, off + j * 4 + 2, none⟩ = some (.slice m2 (atM k.machines j).log.length m3) := hel 2 _ rfl
          have es3 : wr.cell? ⟨b, off + j * 4 + 3, none⟩ = some (.slice m4 (atM k.machines j).cleared.length m5) := hel 3 _ rfl
          clear hrd' hrd hel
          obtain ⟨X0, hX0⟩ : ∃ X, X = wr.alloc (.cells #[.bool (atM k.machines j).alive, .slice m0 (atM k.machines j).copies.length m1, .slice m2 (atM k.machines j).log.length m3, .slice m4 (atM k.machines j).cleared.length m5] 62) := ⟨_, rfl⟩
          have bX : Below wr.heap.size wr X0 := by rw [hX0]; exact (Below.refl _ _).alloc (Nat.le_refl _) _
          have xX : Bx X0 wr.heap.size [.bool (atM k.machines j).alive, .slice m0 (atM k.machines j).copies.length m1, .slice m2 (atM k.machines j).log.length m3, .slice m4 (atM k.machines j).cleared.length m5] := by rw [hX0]; exact Bx.made wr [.bool (atM k.machines j).alive, .slice m0 (atM k.machines j).copies.length m1, .slice m2 (atM k.machines j).log.length m3, .slice m4 (atM k.machines j).cleared.length m5] _
          have hcl := ownMachine_any X0 ⟨m0, m1, m2, m3, m4, m5⟩ (atM k.machines j) (H.out.1.ms _ (List.mem_of_getElem? hat)) (SlM.later hsd bX)
          simp only [MV.val] at hcl
          have HS := hidOf hst
          have HX : Hid (Below wr.heap.size wr X0 ∧ wr.heap.size + 1 ≤ X0.heap.size) := ⟨bX, by rw [hX0]; simp⟩
          have HB := hidOf xX
          have HM : Hid (ms.map (·.2) = k.machines.take j ∧ ms.length = j ∧ k.machines[j]? = some (atM k.machines j)) := ⟨hmp, hlp, hat⟩
          clear hst bX xX hmp hlp hat hsd
          go_wp2_with fail
          rw [← hX0]
          clear hX0
          refine hcl.mono ?_
          clear hcl
          rintro e w2 ⟨⟨u0, u1, u2, u3, u4, u5⟩, pp, gk, gr, rfl, hmr, b2⟩
          obtain ⟨X1, hX1⟩ : ∃ X, X = w2.alloc (.cells #[.slice u2 (atM k.machines j).log.length u3, .bool (atM k.machines j).alive, .slice u0 (atM k.machines j).copies.length u1, .slice u4 (atM k.machines j).cleared.length u5] 193) := ⟨_, rfl⟩
          have b3 : Below w2.heap.size w2 X1 := by rw [hX1]; exact (Below.refl _ _).alloc (Nat.le_refl _) _
          have xM : Bx X1 w2.heap.size [.slice u2 (atM k.machines j).log.length u3, .bool (atM k.machines j).alive, .slice u0 (atM k.machines j).copies.length u1, .slice u4 (atM k.machines j).cleared.length u5] := by rw [hX1]; exact Bx.made w2 [.slice u2 (atM k.machines j).log.length u3, .bool (atM k.machines j).alive, .slice u0 (atM k.machines j).copies.length u1, .slice u4 (atM k.machines j).cleared.length u5] _
          obtain ⟨Q, hQ⟩ := MR.ow hmr
          have hQ' : KMk.Ow X1 wr.heap.size ⟨u0, u1, u2, u3, u4, u5⟩ (atM k.machines j) Q := KMk.keep (KMk.low hQ (by have := HX.out.2; omega)) b3.size (fun q hq => b3.block q (KMk.of hQ hq).2)
          have bX1 : Below wr.heap.size wr X1 := bstep (bstep HX.out.1 b2) b3
          have hsw : wr.heap.size < w2.heap.size := by have := HX.out.2; have := b2.size; omega
          have HX1 : Hid (Below wr.heap.size wr X1 ∧ KMk.Ow X1 wr.heap.size ⟨u0, u1, u2, u3, u4, u5⟩ (atM k.machines j) Q) := ⟨bX1, hQ'⟩
          have HB1 : Hid (Bx X1 w2.heap.size [.slice u2 (atM k.machines j).log.length u3, .bool (atM k.machines j).alive, .slice u0 (atM k.machines j).copies.length u1, .slice u4 (atM k.machines j).cleared.length u5]) := xM
          have hcl := given_any X1.drew w2.heap.size (atM k.machines j).alive u2 (atM k.machines j).log.length u3 u0 (atM k.machines j).copies.length u1 u4 (atM k.machines j).cleared.length u5 (xM.1 0 _ rfl) (xM.1 1 _ rfl) (xM.1 2 _ rfl) (xM.1 3 _ rfl) xM.2.2
          clear hmr b2 b3 xM hQ hQ' bX1
          go_wp2_with fail
          rw [← hX1]
          clear hX1
          refine wp_region_until 6 (fun X : World => Bx X (w.heap.size + 2) [.int .i64 k.config, .int .i64 k.clock, (.slice bP k.places.length dP), (.slice bM j dM), (.slice none 0 0), .bool k.lost] ∧ Bx X w2.heap.size [.slice u2 (atM k.machines j).log.length u3, .bool (atM k.machines j).alive, .slice u0 (atM k.machines j).copies.length u1, .slice u4 (atM k.machines j).cleared.length u5]) (by kernel_rfl) ?_
          have hSX : (fun X : World => Bx X (w.heap.size + 2) [.int .i64 k.config, .int .i64 k.clock, (.slice bP k.places.length dP), (.slice bM j dM), (.slice none 0 0), .bool k.lost] ∧ Bx X w2.heap.size [.slice u2 (atM k.machines j).log.length u3, .bool (atM k.machines j).alive, .slice u0 (atM k.machines j).copies.length u1, .slice u4 (atM k.machines j).cleared.length u5]) X1.drew := ⟨(HS.out.own.later HX1.out.1).later (Below.refl _ _).drew, (HB1.out).later (Below.refl _ _).drew⟩
          have HD : Hid (Below wr.heap.size wr X1.drew ∧ X1.heap.size ≤ X1.drew.heap.size) := ⟨bstep HX1.out.1 (Below.refl _ _).drew, Nat.le_refl _⟩
          have HQ : Hid (KMk.Ow X1.drew wr.heap.size ⟨u0, u1, u2, u3, u4, u5⟩ (atM k.machines j) Q) := KMk.keep HX1.out.2 (Nat.le_refl _) (fun q _ => rfl)
          have heb : w2.heap.size < X1.drew.heap.size := hSX.2.2.2
          generalize X1.drew = XD at *
          refine wpUntil_take (i := 0) (v := ?_) rfl (by kernel_rfl) (fun _ _ _ h => h) (Or.inl ⟨by rfl, ?_⟩) hSX ?_
          rotate_left
          · (intro w hSw; go_simp; first | done | with_reducible rfl)
          simp only [Act.put]
          refine wpUntil_take (i := 1) (v := ?_) rfl (by kernel_rfl) (fun _ _ _ h => h) (Or.inl ⟨by rfl, ?_⟩) hSX ?_
          rotate_left
          · (intro w hSw; have q := hSw.1.1 3 _ rfl; go_simp; first | done | with_reducible rfl | exact q)
          simp only [Act.put]
          refine wpUntil_ready (rs := [2]) (by kernel_rfl) (by simp) ?_
          refine AllU.cons rfl (fun K hK => ?_) AllU.nil
          go_simp
          refine hcl.mono ?_
          clear hcl
          rintro e X2 ⟨rfl, b2⟩
          have hO : KMk.Ow X2 wr.heap.size ⟨u0, u1, u2, u3, u4, u5⟩ (atM k.machines j) Q := KMk.keep HQ.out b2.size (fun q hq => b2.block q (KMk.of HQ.out hq).2)
          have bX2 : Below wr.heap.size wr X2 := bstep HD.out.1 b2
          have hS2 : (fun X : World => Bx X (w.heap.size + 2) [.int .i64 k.config, .int .i64 k.clock, (.slice bP k.places.length dP), (.slice bM j dM), (.slice none 0 0), .bool k.lost] ∧ Bx X w2.heap.size [.slice u2 (atM k.machines j).log.length u3, .bool (atM k.machines j).alive, .slice u0 (atM k.machines j).copies.length u1, .slice u4 (atM k.machines j).cleared.length u5]) X2 := ⟨hSX.1.later b2, hSX.2.later b2⟩
          obtain ⟨X3, hX3⟩ : ∃ X, X = X2.alloc (.cells #[(.bool (atM k.machines j).alive), (.slice u0 (atM k.machines j).copies.length u1), (.slice u2 (atM k.machines j).log.length u3), (.slice u4 (atM k.machines j).cleared.length u5)] 62) := ⟨_, rfl⟩
          have b3 : Below X2.heap.size X2 X3 := by rw [hX3]; exact (Below.refl _ _).alloc (Nat.le_refl _) _
          have x3 : Bx X3 X2.heap.size [(.bool (atM k.machines j).alive), (.slice u0 (atM k.machines j).copies.length u1), (.slice u2 (atM k.machines j).log.length u3), (.slice u4 (atM k.machines j).cleared.length u5)] := by rw [hX3]; exact Bx.made X2 [(.bool (atM k.machines j).alive), (.slice u0 (atM k.machines j).copies.length u1), (.slice u2 (atM k.machines j).log.length u3), (.slice u4 (atM k.machines j).cleared.length u5)] _
          have hS3 : (fun X : World => Bx X (w.heap.size + 2) [.int .i64 k.config, .int .i64 k.clock, (.slice bP k.places.length dP), (.slice bM j dM), (.slice none 0 0), .bool k.lost] ∧ Bx X w2.heap.size [.slice u2 (atM k.machines j).log.length u3, .bool (atM k.machines j).alive, .slice u0 (atM k.machines j).copies.length u1, .slice u4 (atM k.machines j).cleared.length u5]) X3 := ⟨hS2.1.later b3, hS2.2.later b3⟩
          obtain ⟨v', Y, hr, hcs, hob, hfar, hsz, a', c', rfl⟩ := HS.out.pushM (bstep bX2 b3) (⟨u0, u1, u2, u3, u4, u5⟩ : MV) (atM k.machines j) Q X2.heap.size (by rw [HM.out.2.1]; omega) 29 x3.1 (KMk.keep hO b3.size (fun q hq => b3.block q (KMk.of hO hq).2))
          have hS4 : (fun X : World => Bx X (w.heap.size + 2) [.int .i64 k.config, .int .i64 k.clock, (.slice bP k.places.length dP), (.slice bM j dM), (.slice none 0 0), .bool k.lost] ∧ Bx X w2.heap.size [.slice u2 (atM k.machines j).log.length u3, .bool (atM k.machines j).alive, .slice u0 (atM k.machines j).copies.length u1, .slice u4 (atM k.machines j).cleared.length u5]) Y := ⟨hob, hS3.2.of_block (hfar _ (.inr ⟨by have := HD.out.1.size; omega, hS3.2.2.2⟩)) hsz⟩
          have HE : Hid ((ms ++ [((⟨u0, u1, u2, u3, u4, u5⟩ : MV), atM k.machines j)]).map (·.2) = k.machines.take (j + 1)) := by unfold Hid; rw [List.map_append, HM.out.1]; exact take_snoc HM.out.2.2
          rw [HM.out.2.1] at hr hcs
          have KE := hidOf hcs
          refine hK.out _ _ (fun _ => hS2) ?_
          clear hK K b2 bX2 b3 x3 hcs hob hfar hsz hO hSX
          refine wpUntil_ready (rs := [3]) (by kernel_rfl) (by simp) ?_
          refine AllU.cons rfl (fun K hK => ?_) AllU.nil
          go_simp
          rw [← hX3]
          refine hK.out _ _ (fun _ => hS3) ?_
          clear hK K hS2
          refine wpUntil_ready (rs := [4]) (by kernel_rfl) (by simp) ?_
          refine AllU.cons rfl (fun K hK => ?_) AllU.nil
          refine step_known _ rfl (.tmp 45) (.tmp 47) 29 rfl _ _ _ _ (by first | rfl | simp [Act.eval, Act.put]) (by first | rfl | simp [Act.eval, Act.put]) hr ?_
          refine hK.out _ _ (fun _ => hS4) ?_
          clear hK K hr hS3 hX3
          simp only [Act.put]
          refine wpUntil_ready (rs := [5]) (by kernel_rfl) (by simp) ?_
          refine AllU.cons rfl (fun K hK => ?_) AllU.nil
          go_simp
          refine hK.out _ _ (fun _ => hS4) ?_
          clear hK K
          refine wpUntil_ready (rs := [6]) (by kernel_rfl) (by simp) ?_
          refine AllU.cons rfl (fun K hK => ?_) AllU.nil
          have o3 := hS4.1.1 3 _ rfl
          have fo3 := hS4.1.2.1 3
          go_simp
          refine hK.out _ _ (fun h => absurd rfl h) ?_
          clear hK K
          refine wpUntil_done (by kernel_rfl) ?_ _
          go_wp2
          exact ⟨⟨j + 1, a', c', _, _, by omega, by simp, HE.out, KE.out⟩, by simp [intOf]; omega⟩
        · obtain rfl : k.machines.length = j := by omega
          have hd : decide ((k.machines.length : Int) < (k.machines.length : Int)) = false := by simp
          rw [List.take_length] at hmp
          have EM : Hid (ms.map (·.2) = k.machines) := hmp
          have S1 := hidOf hst
          clear hmp hst hj hlt hln
          go_wp2
          clear p2 p3 p4
          generalize wr = WM at *
          go_loopw [54] (fun v wr => ∃ (j : Nat) (bT : Option Addr) (dT : Nat) (ts : List ((tx.TV) × tx.T7)) (gt : Nat → Nat → Prop), j ≤ k.txs.length ∧ v = .int .i64 j ∧ ts.map (·.2) = k.txs.take j ∧ CSt w [.int .i64 k.config, .int .i64 k.clock, .slice a1 k.places.length c1, .slice a2 k.machines.length c2, .slice a3 k.txs.length c3, .bool k.lost] [.int .i64 0, .int .i64 0, .slice none 0 0, .slice none 0 0, .slice none 0 0, .bool false] k wr (.slice bP k.places.length dP) (.slice bM k.machines.length dM) (.slice bT j dT) ps gp ms gm ts gt) (fun v _ => k.txs.length - (intOf v).toNat)
          case atStart => exact ⟨0, none, 0, [], gnone, Nat.zero_le _, rfl, by simp, S1.out⟩
          case round =>
            obtain ⟨j, bT, dT, ts, gt, hj, rfl, hmp, hst⟩ := hrel
            have hln : k.txs.length ≤ 1000 := by have := H.out.1.t; omega
            have p2 := hst.arg.1 2 _ rfl
            have p3 := hst.arg.1 3 _ rfl
            have p4 := hst.arg.1 4 _ rfl
            by_cases hlt : j < k.txs.length
            · skip
              have hat := atT_of hlt
              have hlp : ts.length = j := by have := congrArg List.length hmp; simpa [Nat.min_eq_left hj] using this
              have hrd := H.out.2.later hst.bel
              rcases hrd.t with h0 | ⟨b, off, rfl, hb, hrd'⟩
              · rw [h0] at hlt; simp at hlt
              obtain ⟨⟨t0, t1, t2, t3⟩, hel, hsd⟩ := hrd' j _ hat
              have es0 : wr.cell? ⟨b, off + j * 7, none⟩ = some (.int .i64 (atT k.txs j).id) := hel 0 _ rfl
              have es1 : wr.cell? ⟨b, off + j * 7 + 1, none⟩ = some (.int .i64 (atT k.txs j).home) := hel 1 _ rfl
              have es2 : wr.cell? ⟨b, off + j * 7 + 2, none⟩ = some (.int .i64 (atT k.txs j).phase) := hel 2 _ rfl
              have es3 : wr.cell? ⟨b, off + j * 7 + 3, none⟩ = some (.int .i64 (atT k.txs j).count) := hel 3 _ rfl
              have es4 : wr.cell? ⟨b, off + j * 7 + 4, none⟩ = some (.slice t0 (atT k.txs j).reads.length t1) := hel 4 _ rfl
              have es5 : wr.cell? ⟨b, off + j * 7 + 5, none⟩ = some (.slice t2 (atT k.txs j).sets.length t3) := hel 5 _ rfl
              have es6 : wr.cell? ⟨b, off + j * 7 + 6, none⟩ = some (.int .i64 (atT k.txs j).stamp) := hel 6 _ rfl
              clear hrd' hrd hel
              obtain ⟨X0, hX0⟩ : ∃ X, X = wr.alloc (.cells #[.int .i64 (atT k.txs j).id, .int .i64 (atT k.txs j).home, .int .i64 (atT k.txs j).phase, .int .i64 (atT k.txs j).count, .slice t0 (atT k.txs j).reads.length t1, .slice t2 (atT k.txs j).sets.length t3, .int .i64 (atT k.txs j).stamp] 56) := ⟨_, rfl⟩
              have bX : Below wr.heap.size wr X0 := by rw [hX0]; exact (Below.refl _ _).alloc (Nat.le_refl _) _
              have xX : Bx X0 wr.heap.size [.int .i64 (atT k.txs j).id, .int .i64 (atT k.txs j).home, .int .i64 (atT k.txs j).phase, .int .i64 (atT k.txs j).count, .slice t0 (atT k.txs j).reads.length t1, .slice t2 (atT k.txs j).sets.length t3, .int .i64 (atT k.txs j).stamp] := by rw [hX0]; exact Bx.made wr [.int .i64 (atT k.txs j).id, .int .i64 (atT k.txs j).home, .int .i64 (atT k.txs j).phase, .int .i64 (atT k.txs j).count, .slice t0 (atT k.txs j).reads.length t1, .slice t2 (atT k.txs j).sets.length t3, .int .i64 (atT k.txs j).stamp] _
              obtain ⟨l1, l2⟩ := H.out.1.ts _ (List.mem_of_getElem? hat)
              have bXd : Below wr.heap.size wr X0.drew := bX.drew
              have hcl := tx.ownTx_any X0.drew ⟨t0, t1, t2, t3⟩ (atT k.txs j) (by omega) (by omega) (tx.SlT.later hsd bXd)
              simp only [tx.TV.val] at hcl
              have HS := hidOf hst
              have HX : Hid (Below wr.heap.size wr X0 ∧ wr.heap.size + 1 ≤ X0.heap.size) := ⟨bX, by rw [hX0]; simp⟩
              have HB := hidOf xX
              have HM : Hid (ts.map (·.2) = k.txs.take j ∧ ts.length = j ∧ k.txs[j]? = some (atT k.txs j)) := ⟨hmp, hlp, hat⟩
              clear hst bX xX hmp hlp hat hsd bXd l1 l2
              go_wp2_with fail
              rw [← hX0]
              clear hX0
              refine wp_region_until 7 (fun X : World => Bx X (w.heap.size + 2) [.int .i64 k.config, .int .i64 k.clock, (.slice bP k.places.length dP), (.slice bM k.machines.length dM), (.slice bT j dT), .bool k.lost] ∧ Bx X wr.heap.size [.int .i64 (atT k.txs j).id, .int .i64 (atT k.txs j).home, .int .i64 (atT k.txs j).phase, .int .i64 (atT k.txs j).count, .slice t0 (atT k.txs j).reads.length t1, .slice t2 (atT k.txs j).sets.length t3, .int .i64 (atT k.txs j).stamp]) (by kernel_rfl) ?_
              have hSX : (fun X : World => Bx X (w.heap.size + 2) [.int .i64 k.config, .int .i64 k.clock, (.slice bP k.places.length dP), (.slice bM k.machines.length dM), (.slice bT j dT), .bool k.lost] ∧ Bx X wr.heap.size [.int .i64 (atT k.txs j).id, .int .i64 (atT k.txs j).home, .int .i64 (atT k.txs j).phase, .int .i64 (atT k.txs j).count, .slice t0 (atT k.txs j).reads.length t1, .slice t2 (atT k.txs j).sets.length t3, .int .i64 (atT k.txs j).stamp]) X0.drew := ⟨(HS.out.own.later HX.out.1).later (Below.refl _ _).drew, (HB.out).later (Below.refl _ _).drew⟩
              have HD : Hid (Below wr.heap.size wr X0.drew ∧ X0.heap.size ≤ X0.drew.heap.size) := ⟨bstep HX.out.1 (Below.refl _ _).drew, Nat.le_refl _⟩
              have heb : wr.heap.size < X0.drew.heap.size := hSX.2.2.2
              generalize X0.drew = XD at *
              refine wpUntil_take (i := 0) (v := ?_) rfl (by kernel_rfl) (fun _ _ _ h => h) (Or.inl ⟨by rfl, ?_⟩) hSX ?_
              rotate_left
              · (intro w hSw; go_simp; first | done | with_reducible rfl)
              simp only [Act.put]
              refine wpUntil_take (i := 1) (v := ?_) rfl (by kernel_rfl) (fun _ _ _ h => h) (Or.inl ⟨by rfl, ?_⟩) hSX ?_
              rotate_left
              · (intro w hSw; have q := hSw.1.1 4 _ rfl; go_simp; first | done | with_reducible rfl | exact q)
              simp only [Act.put]
              refine wpUntil_take (i := 2) (v := ?_) rfl (by kernel_rfl) (fun _ _ _ h => h) (Or.inl ⟨by rfl, ?_⟩) hSX ?_
              rotate_left
              · (intro w hSw; have q0 := hSw.2.1 0 _ rfl; have q1 := hSw.2.1 1 _ rfl; have q2 := hSw.2.1 2 _ rfl; have q3 := hSw.2.1 3 _ rfl; have q4 := hSw.2.1 4 _ rfl; have q5 := hSw.2.1 5 _ rfl; have q6 := hSw.2.1 6 _ rfl; go_simp; first | done | rfl)
              simp only [Act.put]
              refine wpUntil_ready (rs := [3]) (by kernel_rfl) (by simp) ?_
              refine AllU.cons rfl (fun K hK => ?_) AllU.nil
              go_simp
              refine hcl.mono ?_
              clear hcl
              rintro e X2 ⟨u0, u1, u2, u3, PR, PS, rfl, ho, b2⟩
              simp only [tx.TV.val]
              have hO : KTk.Ow X2 wr.heap.size ⟨u0, u1, u2, u3⟩ (atT k.txs j) (tx.OfT PR PS) := KTk.low (KT.ow ho) HD.out.1.size
              have bX2 : Below wr.heap.size wr X2 := bstep HD.out.1 b2
              have hS2 : (fun X : World => Bx X (w.heap.size + 2) [.int .i64 k.config, .int .i64 k.clock, (.slice bP k.places.length dP), (.slice bM k.machines.length dM), (.slice bT j dT), .bool k.lost] ∧ Bx X wr.heap.size [.int .i64 (atT k.txs j).id, .int .i64 (atT k.txs j).home, .int .i64 (atT k.txs j).phase, .int .i64 (atT k.txs j).count, .slice t0 (atT k.txs j).reads.length t1, .slice t2 (atT k.txs j).sets.length t3, .int .i64 (atT k.txs j).stamp]) X2 := ⟨hSX.1.later b2, hSX.2.later b2⟩
              obtain ⟨X3, hX3⟩ : ∃ X, X = X2.alloc (.cells #[(.int .i64 (atT k.txs j).id), (.int .i64 (atT k.txs j).home), (.int .i64 (atT k.txs j).phase), (.int .i64 (atT k.txs j).count), (.slice u0 (atT k.txs j).reads.length u1), (.slice u2 (atT k.txs j).sets.length u3), (.int .i64 (atT k.txs j).stamp)] 56) := ⟨_, rfl⟩
              have b3 : Below X2.heap.size X2 X3 := by rw [hX3]; exact (Below.refl _ _).alloc (Nat.le_refl _) _
              have x3 : Bx X3 X2.heap.size [(.int .i64 (atT k.txs j).id), (.int .i64 (atT k.txs j).home), (.int .i64 (atT k.txs j).phase), (.int .i64 (atT k.txs j).count), (.slice u0 (atT k.txs j).reads.length u1), (.slice u2 (atT k.txs j).sets.length u3), (.int .i64 (atT k.txs j).stamp)] := by rw [hX3]; exact Bx.made X2 [(.int .i64 (atT k.txs j).id), (.int .i64 (atT k.txs j).home), (.int .i64 (atT k.txs j).phase), (.int .i64 (atT k.txs j).count), (.slice u0 (atT k.txs j).reads.length u1), (.slice u2 (atT k.txs j).sets.length u3), (.int .i64 (atT k.txs j).stamp)] _
              have hS3 : (fun X : World => Bx X (w.heap.size + 2) [.int .i64 k.config, .int .i64 k.clock, (.slice bP k.places.length dP), (.slice bM k.machines.length dM), (.slice bT j dT), .bool k.lost] ∧ Bx X wr.heap.size [.int .i64 (atT k.txs j).id, .int .i64 (atT k.txs j).home, .int .i64 (atT k.txs j).phase, .int .i64 (atT k.txs j).count, .slice t0 (atT k.txs j).reads.length t1, .slice t2 (atT k.txs j).sets.length t3, .int .i64 (atT k.txs j).stamp]) X3 := ⟨hS2.1.later b3, hS2.2.later b3⟩
              obtain ⟨v', Y, hr, hcs, hob, hfar, hsz, a', c', rfl⟩ := HS.out.pushT (bstep bX2 b3) (⟨u0, u1, u2, u3⟩ : tx.TV) (atT k.txs j) (tx.OfT PR PS) X2.heap.size (by rw [HM.out.2.1]; omega) 30 x3.1 (KTk.keep hO b3.size (fun q hq => b3.block q (KTk.of hO hq).2))
              have hS4 : (fun X : World => Bx X (w.heap.size + 2) [.int .i64 k.config, .int .i64 k.clock, (.slice bP k.places.length dP), (.slice bM k.machines.length dM), (.slice bT j dT), .bool k.lost] ∧ Bx X wr.heap.size [.int .i64 (atT k.txs j).id, .int .i64 (atT k.txs j).home, .int .i64 (atT k.txs j).phase, .int .i64 (atT k.txs j).count, .slice t0 (atT k.txs j).reads.length t1, .slice t2 (atT k.txs j).sets.length t3, .int .i64 (atT k.txs j).stamp]) Y := ⟨hob, hS3.2.of_block (hfar _ (.inr ⟨by have := HD.out.1.size; omega, hS3.2.2.2⟩)) hsz⟩
              have HE : Hid ((ts ++ [((⟨u0, u1, u2, u3⟩ : tx.TV), atT k.txs j)]).map (·.2) = k.txs.take (j + 1)) := by unfold Hid; rw [List.map_append, HM.out.1]; exact take_snoc HM.out.2.2
              rw [HM.out.2.1] at hr hcs
              have KE := hidOf hcs
              refine hK.out _ _ (fun _ => hS2) ?_
              clear hK K b2 bX2 b3 x3 hcs hob hfar hsz hO hSX
              refine wpUntil_ready (rs := [4]) (by kernel_rfl) (by simp) ?_
              refine AllU.cons rfl (fun K hK => ?_) AllU.nil
              go_simp
              rw [← hX3]
              refine hK.out _ _ (fun _ => hS3) ?_
              clear hK K hS2
              refine wpUntil_ready (rs := [5]) (by kernel_rfl) (by simp) ?_
              refine AllU.cons rfl (fun K hK => ?_) AllU.nil
              refine step_known _ rfl (.tmp 59) (.tmp 62) 30 rfl _ _ _ _ (by first | rfl | simp [Act.eval, Act.put]) (by first | rfl | simp [Act.eval, Act.put]) hr ?_
              refine hK.out _ _ (fun _ => hS4) ?_
              clear hK K hr hS3 hX3
              simp only [Act.put]
              refine wpUntil_ready (rs := [6]) (by kernel_rfl) (by simp) ?_
              refine AllU.cons rfl (fun K hK => ?_) AllU.nil
              go_simp
              refine hK.out _ _ (fun _ => hS4) ?_
              clear hK K
              refine wpUntil_ready (rs := [7]) (by kernel_rfl) (by simp) ?_
              refine AllU.cons rfl (fun K hK => ?_) AllU.nil
              have o4 := hS4.1.1 4 _ rfl
              have fo4 := hS4.1.2.1 4
              go_simp
              refine hK.out _ _ (fun h => absurd rfl h) ?_
              clear hK K
              refine wpUntil_done (by kernel_rfl) ?_ _
              go_wp2
              exact ⟨⟨j + 1, a', c', _, _, by omega, by simp, HE.out, KE.out⟩, by simp [intOf]; omega⟩
            · obtain rfl : k.txs.length = j := by omega
              have hd : decide ((k.txs.length : Int) < (k.txs.length : Int)) = false := by simp
              rw [List.take_length] at hmp
              have ET : Hid (ts.map (·.2) = k.txs) := hmp
              have S1 := hidOf hst
              clear hmp hst hj hlt hln
              have o0 := S1.out.own.1 0 _ rfl
              have o1 := S1.out.own.1 1 _ rfl
              have o2 := S1.out.own.1 2 _ rfl
              have o3 := S1.out.own.1 3 _ rfl
              have o4 := S1.out.own.1 4 _ rfl
              have o5 := S1.out.own.1 5 _ rfl
              have r0 := S1.out.res.1 0 _ rfl
              have r1 := S1.out.res.1 1 _ rfl
              have r2 := S1.out.res.1 2 _ rfl
              have r3 := S1.out.res.1 3 _ rfl
              have r4 := S1.out.res.1 4 _ rfl
              have r5 := S1.out.res.1 5 _ rfl
              have f0 := S1.out.res.2.1 0
              have f1 := S1.out.res.2.1 1
              have f2 := S1.out.res.2.1 2
              have f3 := S1.out.res.2.1 3
              have f4 := S1.out.res.2.1 4
              have f5 := S1.out.res.2.1 5
              go_wp2
              refine bodyPost_ret (v := .agg #[.int .i64 k.config, .int .i64 k.clock, .slice bP k.places.length dP, .slice bM k.machines.length dM, .slice bT k.txs.length dT, .bool k.lost]) (by simp [results, Tryz.results91, go_sem, r0, r1, r2, r3, r4, r5]) rfl ?_
              refine ⟨bP, dP, bM, dM, bT, dT, ps, gp, ms, gm, ts, gt, rfl, ?_, EP.out, EM.out, ET.out, ?_⟩
              · exact S1.out.rows.keep (Y := putB wr (w.heap.size + 1) 0 [.int .i64 k.config, .int .i64 k.clock, .slice bP k.places.length dP, .slice bM k.machines.length dM, .slice bT k.txs.length dT, .bool k.lost]) (by rw [putB_size]; exact Nat.le_refl _) (fun q _ hb _ => putB_block (by omega) _ _ _)
              · exact putB_below (w := w) (by omega) [.int .i64 k.config, .int .i64 k.clock, .slice bP k.places.length dP, .slice bM k.machines.length dM, .slice bT k.txs.length dT, .bool k.lost] wr 0 S1.out.bel
end Go.Proofs.YtnhjgomfkfehgaaGreatDoor