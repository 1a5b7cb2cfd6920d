/- A machine that grows row by row in memory of a call's own. -/
import Derived.Test.YtbkcmbbeknljiaaGreatRows
import Derived.Test.YtbkcmbbeknljiaaGreatJ16ExactClear
import Derived.Below
namespace Go.Proofs.YtbkcmbbeknljiaaGreat
open Go.RowKit
/-- The blocks of a row that append makes. -/
def blocksG {α : Type} (v : Value) (rs : List α) (g : Nat → Nat) (q : Nat) : Prop := v.ownBlock = some q ∨ ∃ i, i < rs.length ∧ g i = q
theorem GrowG.blocks {α : Type} {T : TypeId} {sz : Nat} {hd : α → List Int} {ln : α → Nat} {At : World → Nat → α → Prop} {w : World} {base : Nat} {v : Value} {rs : List α} {g : Nat → Nat} (h : GrowG T sz hd ln At w base v rs g) {q : Nat} (hq : blocksG v rs g q) : base ≤ q ∧ q < w.heap.size := by
  rcases hq with hq | ⟨i, hi, rfl⟩
  · exact h.lies hq
  · exact ⟨h.low i hi, h.lt i hi⟩
theorem blocks_push {α : Type} {v v' : Value} {rs : List α} {r : α} {g : Nat → Nat} {q S : Nat} (hl : v'.ownBlock = v.ownBlock ∨ v'.ownBlock = some S) {x : Nat} (h : blocksG v' (rs ++ [r]) (fun i => if i = rs.length then q else g i) x) : blocksG v rs g x ∨ x = q ∨ x = S := by
  rcases h with h | ⟨i, hi, h⟩
  · rcases hl with e | e
    · rw [e] at h; exact .inl (.inl h)
    · rw [e] at h; exact .inr (.inr (Option.some.inj h).symm)
  · by_cases e : i = rs.length
    · simp only [if_pos e] at h; exact .inr (.inl h.symm)
    · simp only [if_neg e] at h
      simp at hi
      exact .inl (.inr ⟨i, by omega, h⟩)
/-- The rows of a machine under way: of the call's own from base on, all apart, none of them in block p. -/
structure MR (base p : Nat) (X : World) (vk vr vd : Value) (ks : List K2) (rs : List R4) (zs : List Int) (gk gr : Nat → Nat) : Prop where
  gK : GrowG 95 2 hdK lnK AtK X base vk ks gk
  gR : GrowG 41 4 hdR lnR AtR X base vr rs gr
  gD : X.ownsRow base 2 1 vd zs.length (zs.map (Value.int .i64))
  kr : ∀ q, blocksG vk ks gk q → ¬ blocksG vr rs gr q
  kd : ∀ q, blocksG vk ks gk q → vd.ownBlock ≠ some q
  rd : ∀ q, blocksG vr rs gr q → vd.ownBlock ≠ some q
  kp : ∀ q, blocksG vk ks gk q → q ≠ p
  rp : ∀ q, blocksG vr rs gr q → q ≠ p
  dp : vd.ownBlock ≠ some p
theorem MR.keep {base p : Nat} {X Y : World} {vk vr vd : Value} {ks : List K2} {rs : List R4} {zs : List Int} {gk gr : Nat → Nat} (h : MR base p X vk vr vd ks rs zs gk gr) (hs : X.heap.size ≤ Y.heap.size) (hk : ∀ q, q < X.heap.size → base ≤ q → q ≠ p → Y.heap[q]? = X.heap[q]?) : MR base p Y vk vr vd ks rs zs gk gr := by
  refine ⟨h.gK.keep AtK.of_block hs (fun q hq hb => hk q hq (h.gK.blocks hb).1 (h.kp q hb)), h.gR.keep AtR.of_block hs (fun q hq hb => hk q hq (h.gR.blocks hb).1 (h.rp q hb)), ⟨h.gD.1, h.gD.2.imp id ?_⟩, h.kr, h.kd, h.rd, h.kp, h.rp, h.dp⟩
  rintro ⟨q, cap, cur, rfl, l, hg, r⟩
  exact ⟨q, cap, cur, rfl, l, (hk q (World.ownsRow.lt h.gD q rfl).2 l (fun e => h.dp (by rw [← e]; rfl))).trans hg, r⟩
theorem MR.later {base p : Nat} {X Y : World} {vk vr vd : Value} {ks : List K2} {rs : List R4} {zs : List Int} {gk gr : Nat → Nat} (h : MR base p X vk vr vd ks rs zs gk gr) (hb : Below X.heap.size X Y) : MR base p Y vk vr vd ks rs zs gk gr := h.keep hb.size (fun q hq _ _ => hb.block q hq)
theorem MR.set {base p o : Nat} {X : World} {u : Value} {vk vr vd : Value} {ks : List K2} {rs : List R4} {zs : List Int} {gk gr : Nat → Nat} (h : MR base p X vk vr vd ks rs zs gk gr) : MR base p (X.setCell ⟨p, o, none⟩ u) vk vr vd ks rs zs gk gr := h.keep (by simp [World.setCell]) (fun q _ _ hp => Below.heap_setCell _ _ _ _ hp)
/-- One copy more. -/
theorem MR.pushK {base p : Nat} {X W : World} {vk vr vd : Value} {ks : List K2} {rs : List R4} {zs : List Int} {gk gr : Nat → Nat} (h : MR base p X vk vr vd ks rs zs gk gr) (hb : Below X.heap.size X W) (hX : base ≤ X.heap.size) (hpX : p < X.heap.size) (k : K2) (q cap e : Nat) (hm : ks.length ≤ 100000) (ty : TypeId)
    (e0 : W.cell? ⟨e, 0, none⟩ = some (.int .i64 k.region)) (e1 : W.cell? ⟨e, 1, none⟩ = some (.slice (some ⟨q, 0, none⟩) k.cells.length cap)) (hat : AtK W q k) (hc : k.cells.length ≤ cap) (hq : X.heap.size ≤ q) (hql : q < W.heap.size) :
    ∃ v' Y, (Builtin.append_ #[24, 24] ty #[vk, .slice (some ⟨e, 0, none⟩) 1 1]).run Tryz.prog W = .ok v' Y ∧ MR base p Y v' vr vd (ks ++ [k]) rs zs (fun i => if i = ks.length then q else gk i) gr ∧ W.grownBy Y vk.ownBlock ∧ (∀ x, vk.ownBlock = some x → base ≤ x ∧ x < X.heap.size ∧ x ≠ p) := by
  have hW := h.later hb
  obtain ⟨i0, hi0, hz0, hz1, hz2⟩ := partsOf info_cops
  have old : ∀ x, blocksG vk ks gk x → x < X.heap.size := fun x hx => (h.gK.blocks hx).2
  obtain ⟨v', Y, hr, hg, hgr, hl⟩ := GrowG.push (hd := hdK) (ln := lnK) (sz := 2) (e := e) AtK.of_block (fun _ => rfl) Tryz.underlying24 hi0 hz0 hz1 hz2 rfl (by omega) hW.gK k q cap hm ty (fun j u hu => by
    rcases j with _ | _ | j
    · simp [cellsG, hdK] at hu; subst hu; exact e0
    · simp [cellsG, hdK, lnK] at hu; subst hu; exact e1
    · simp [cellsG, hdK] at hu) hat hc (by omega) hql (fun e' => by have := old q (.inl e'); omega) (fun i hi e' => by have := old q (.inr ⟨i, hi, e'⟩); omega) (Nat.le_trans hX hb.size)
  have new : ∀ x, blocksG v' (ks ++ [k]) (fun i => if i = ks.length then q else gk i) x → blocksG vk ks gk x ∨ X.heap.size ≤ x := fun x hx => by
    rcases blocks_push hl hx with h | h | h
    · exact .inl h
    · exact .inr (by omega)
    · exact .inr (by have := hb.size; omega)
  have fR : ∀ x, x < W.heap.size → vk.ownBlock ≠ some x → Y.heap[x]? = W.heap[x]? := fun x hx hne => hgr.block x hx (fun e' => hne e'.symm)
  refine ⟨v', Y, hr, ⟨hg, hW.gR.keep AtR.of_block hgr.size (fun x hx hbx => fR x hx (fun e' => h.kr x (.inl e') hbx)), ⟨hW.gD.1, hW.gD.2.imp id ?_⟩, fun x hx hbx => ?_, fun x hx hbx => ?_, h.rd, fun x hx hbx => ?_, h.rp, h.dp⟩, hgr, fun x hx => ⟨(h.gK.lies hx).1, (h.gK.lies hx).2, h.kp x (.inl hx)⟩⟩
  · rintro ⟨x, cp, cur, rfl, l, hgg, r⟩
    exact ⟨x, cp, cur, rfl, l, (fR x (World.ownsRow.lt hW.gD x rfl).2 (fun e' => h.kd x (.inl e') rfl)).trans hgg, r⟩
  · rcases new x hx with hn | hn
    · exact h.kr x hn hbx
    · have := (h.gR.blocks hbx).2; omega
  · rcases new x hx with hn | hn
    · exact h.kd x hn hbx
    · have := (World.ownsRow.lt h.gD x hbx).2; omega
  · rcases new x hx with hn | hn
    · exact h.kp x hn hbx
    · omega
theorem MR.pushR {base p : Nat} {X W : World} {vk vr vd : Value} {ks : List K2} {rs : List R4} {zs : List Int} {gk gr : Nat → Nat} (h : MR base p X vk vr vd ks rs zs gk gr) (hb : Below X.heap.size X W) (hX : base ≤ X.heap.size) (hpX : p < X.heap.size) (k : R4) (q cap e : Nat) (hm : rs.length ≤ 100000) (ty : TypeId)
    (e0 : W.cell? ⟨e, 0, none⟩ = some (.int .i64 k.kind)) (e1 : W.cell? ⟨e, 1, none⟩ = some (.int .i64 k.tx)) (e2 : W.cell? ⟨e, 2, none⟩ = some (.int .i64 k.region)) (e3 : W.cell? ⟨e, 3, none⟩ = some (.slice (some ⟨q, 0, none⟩) k.sets.length cap)) (hat : AtR W q k) (hc : k.sets.length ≤ cap) (hq : X.heap.size ≤ q) (hql : q < W.heap.size) :
    ∃ v' Y, (Builtin.append_ #[25, 25] ty #[vr, .slice (some ⟨e, 0, none⟩) 1 1]).run Tryz.prog W = .ok v' Y ∧ MR base p Y vk v' vd ks (rs ++ [k]) zs gk (fun i => if i = rs.length then q else gr i) ∧ W.grownBy Y vr.ownBlock ∧ (∀ x, vr.ownBlock = some x → base ≤ x ∧ x < X.heap.size ∧ x ≠ p) := by
  have hW := h.later hb
  obtain ⟨i0, hi0, hz0, hz1, hz2⟩ := partsOf info_recs
  have old : ∀ x, blocksG vr rs gr x → x < X.heap.size := fun x hx => (h.gR.blocks hx).2
  obtain ⟨v', Y, hr, hg, hgr, hl⟩ := GrowG.push (hd := hdR) (ln := lnR) (sz := 4) (e := e) AtR.of_block (fun _ => rfl) Tryz.underlying25 hi0 hz0 hz1 hz2 rfl (by omega) hW.gR k q cap hm ty (fun j u hu => by
    rcases j with _ | _ | _ | _ | j
    · simp [cellsG, hdR] at hu; subst hu; exact e0
    · simp [cellsG, hdR] at hu; subst hu; exact e1
    · simp [cellsG, hdR] at hu; subst hu; exact e2
    · simp [cellsG, hdR, lnR] at hu; subst hu; exact e3
    · simp [cellsG, hdR] at hu) hat hc (by omega) hql (fun e' => by have := old q (.inl e'); omega) (fun i hi e' => by have := old q (.inr ⟨i, hi, e'⟩); omega) (Nat.le_trans hX hb.size)
  have new : ∀ x, blocksG v' (rs ++ [k]) (fun i => if i = rs.length then q else gr i) x → blocksG vr rs gr x ∨ X.heap.size ≤ x := fun x hx => by
    rcases blocks_push hl hx with h | h | h
    · exact .inl h
    · exact .inr (by omega)
    · exact .inr (by have := hb.size; omega)
  have fR : ∀ x, x < W.heap.size → vr.ownBlock ≠ some x → Y.heap[x]? = W.heap[x]? := fun x hx hne => hgr.block x hx (fun e' => hne e'.symm)
  refine ⟨v', Y, hr, ⟨hW.gK.keep AtK.of_block hgr.size (fun x hx hbx => fR x hx (fun e' => h.kr x hbx (.inl e'))), hg, ⟨hW.gD.1, hW.gD.2.imp id ?_⟩, fun x hbx hx => ?_, h.kd, fun x hx hbx => ?_, h.kp, fun x hx hbx => ?_, h.dp⟩, hgr, fun x hx => ⟨(h.gR.lies hx).1, (h.gR.lies hx).2, h.rp x (.inl hx)⟩⟩
  · rintro ⟨x, cp, cur, rfl, l, hgg, r⟩
    exact ⟨x, cp, cur, rfl, l, (fR x (World.ownsRow.lt hW.gD x rfl).2 (fun e' => h.rd x (.inl e') rfl)).trans hgg, r⟩
  · rcases new x hx with hn | hn
    · exact h.kr x hbx hn
    · have := (h.gK.blocks hbx).2; omega
  · rcases new x hx with hn | hn
    · exact h.rd x hn hbx
    · have := (World.ownsRow.lt h.gD x hbx).2; omega
  · rcases new x hx with hn | hn
    · exact h.rp x hn hbx
    · omega
/-- As a machine of the call's own. -/
theorem MR.om {base p : Nat} {X : World} {v : MV} {m : M4} {gk gr : Nat → Nat} (h : MR base p X (.slice v.ac m.copies.length v.cc) (.slice v.al m.log.length v.cl) (.slice v.ad m.cleared.length v.cd) m.copies m.log m.cleared gk gr) :
    OM X base v m (blocksG (.slice v.ac m.copies.length v.cc) m.copies gk) (blocksG (.slice v.al m.log.length v.cl) m.log gr) (fun q => (Value.slice v.ad m.cleared.length v.cd).ownBlock = some q) := by
  refine ⟨?_, ?_, ?_, h.kr, h.kd, h.rd, fun q hq => (h.gK.blocks hq).1, fun q hq => (h.gR.blocks hq).1, fun q hq => (World.ownsRow.lt h.gD q hq).1⟩
  · by_cases e : m.copies = []
    · exact .inl e
    · obtain ⟨b, cap, ev, h1, h2, h3, h4, h5⟩ := GrowG.own (hd := hdK) (sz := 2) (fun _ => rfl) h.gK e
      have ea : v.ac = some ⟨b, 0, none⟩ := by injection ev
      exact .inr ⟨b, gk, ea, .inl (by rw [ea]; rfl), fun i hi => .inr ⟨i, hi, rfl⟩, h2, h4, h5.base⟩
  · by_cases e : m.log = []
    · exact .inl e
    · obtain ⟨b, cap, ev, h1, h2, h3, h4, h5⟩ := GrowG.own (hd := hdR) (sz := 4) (fun _ => rfl) h.gR e
      have ea : v.al = some ⟨b, 0, none⟩ := by injection ev
      exact .inr ⟨b, gr, ea, .inl (by rw [ea]; rfl), fun i hi => .inr ⟨i, hi, rfl⟩, h2, h4, h5.base⟩
  · by_cases e : m.cleared = []
    · exact .inl e
    · have hpos : 0 < m.cleared.length := List.length_pos_iff.2 e
      obtain ⟨b, cap, ev, h1, h2⟩ := World.ownsRow.form h.gD hpos
      have ea : v.ad = some ⟨b, 0, none⟩ := by injection ev
      have ec : v.cd = cap := by injection ev
      have hg := h.gD
      rw [ea] at hg
      refine .inr ⟨b, ea, by rw [ea]; rfl, h2, fun i z ez => ?_, fun j hj => ⟨.int .i64 (m.cleared[j]'hj), ?_, World.ownsRow.frozenAt hg j⟩⟩
      · have hi := (List.getElem?_eq_some_iff.1 ez).1
        rw [Nat.zero_add, World.ownsRow.cellAt hg i (by omega), List.getElem?_map, ez]; rfl
      · rw [World.ownsRow.cellAt hg j (by omega), List.getElem?_map, List.getElem?_eq_getElem hj]; rfl
end Go.Proofs.YtbkcmbbeknljiaaGreat
