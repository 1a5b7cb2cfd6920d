/- OwnS; Until: joined. -/
import Derived.Test.YtooalbdlknheeaaGreatRows
import Derived.Test.YtooalbdlknheeaaGreatJ11LawMachines
import Derived.Below
import Derived.OrdersHeld
import Derived.Deep.RegionHeld
/- A machine that grows row by row in memory of a call's own. -/
namespace Go.Proofs.YtooalbdlknheeaaGreat
open Go.RowKit
/-- The blocks of a row that append makes. -/
def blocksG {α : Type} (v : Value) (rs : List α) (g : Nat → Nat) (q : Nat) : Prop := v.ownBlock = some q ∨ ∃ i, i < rs.length ∧ g i = q
theorem GrowG.blocks {α : Type} {T : TypeId} {sz : Nat} {hd : α → List Int} {ln : α → Nat} {At : World → Nat → α → Prop} {w : World} {base : Nat} {v : Value} {rs : List α} {g : Nat → Nat} (h : GrowG T sz hd ln At w base v rs g) {q : Nat} (hq : blocksG v rs g q) : base ≤ q ∧ q < w.heap.size := by
  rcases hq with hq | ⟨i, hi, rfl⟩
  · exact h.lies hq
  · exact ⟨h.low i hi, h.lt i hi⟩
theorem blocks_push {α : Type} {v v' : Value} {rs : List α} {r : α} {g : Nat → Nat} {q S : Nat} (hl : v'.ownBlock = v.ownBlock ∨ v'.ownBlock = some S) {x : Nat} (h : blocksG v' (rs ++ [r]) (fun i => if i = rs.length then q else g i) x) : blocksG v rs g x ∨ x = q ∨ x = S := by
  rcases h with h | ⟨i, hi, h⟩
  · rcases hl with e | e
    · rw [e] at h; exact .inl (.inl h)
    · rw [e] at h; exact .inr (.inr (Option.some.inj h).symm)
  · by_cases e : i = rs.length
    · simp only [if_pos e] at h; exact .inr (.inl h.symm)
    · simp only [if_neg e] at h
      simp at hi
      exact .inl (.inr ⟨i, by omega, h⟩)
/-- The rows of a machine under way: of the call's own from base on, all apart, none of them in block p. -/
structure MR (base p : Nat) (X : World) (vk vr vd : Value) (ks : List K2) (rs : List R4) (zs : List Int) (gk gr : Nat → Nat) : Prop where
  gK : GrowG 97 2 hdK lnK AtK X base vk ks gk
  gR : GrowG 41 4 hdR lnR AtR X base vr rs gr
  gD : X.ownsRow base 2 1 vd zs.length (zs.map (Value.int .i64))
  kr : ∀ q, blocksG vk ks gk q → ¬ blocksG vr rs gr q
  kd : ∀ q, blocksG vk ks gk q → vd.ownBlock ≠ some q
  rd : ∀ q, blocksG vr rs gr q → vd.ownBlock ≠ some q
  kp : ∀ q, blocksG vk ks gk q → q ≠ p
  rp : ∀ q, blocksG vr rs gr q → q ≠ p
  dp : vd.ownBlock ≠ some p
theorem MR.keep {base p : Nat} {X Y : World} {vk vr vd : Value} {ks : List K2} {rs : List R4} {zs : List Int} {gk gr : Nat → Nat} (h : MR base p X vk vr vd ks rs zs gk gr) (hs : X.heap.size ≤ Y.heap.size) (hk : ∀ q, q < X.heap.size → base ≤ q → q ≠ p → Y.heap[q]? = X.heap[q]?) : MR base p Y vk vr vd ks rs zs gk gr := by
  refine ⟨h.gK.keep AtK.of_block hs (fun q hq hb => hk q hq (h.gK.blocks hb).1 (h.kp q hb)), h.gR.keep AtR.of_block hs (fun q hq hb => hk q hq (h.gR.blocks hb).1 (h.rp q hb)), ⟨h.gD.1, h.gD.2.imp id ?_⟩, h.kr, h.kd, h.rd, h.kp, h.rp, h.dp⟩
  rintro ⟨q, cap, cur, rfl, l, hg, r⟩
  exact ⟨q, cap, cur, rfl, l, (hk q (World.ownsRow.lt h.gD q rfl).2 l (fun e => h.dp (by rw [← e]; rfl))).trans hg, r⟩
theorem MR.later {base p : Nat} {X Y : World} {vk vr vd : Value} {ks : List K2} {rs : List R4} {zs : List Int} {gk gr : Nat → Nat} (h : MR base p X vk vr vd ks rs zs gk gr) (hb : Below X.heap.size X Y) : MR base p Y vk vr vd ks rs zs gk gr := h.keep hb.size (fun q hq _ _ => hb.block q hq)
theorem MR.set {base p o : Nat} {X : World} {u : Value} {vk vr vd : Value} {ks : List K2} {rs : List R4} {zs : List Int} {gk gr : Nat → Nat} (h : MR base p X vk vr vd ks rs zs gk gr) : MR base p (X.setCell ⟨p, o, none⟩ u) vk vr vd ks rs zs gk gr := h.keep (by simp [World.setCell]) (fun q _ _ hp => Below.heap_setCell _ _ _ _ hp)
/-- One copy more. -/
theorem MR.pushK {base p : Nat} {X W : World} {vk vr vd : Value} {ks : List K2} {rs : List R4} {zs : List Int} {gk gr : Nat → Nat} (h : MR base p X vk vr vd ks rs zs gk gr) (hb : Below X.heap.size X W) (hX : base ≤ X.heap.size) (hpX : p < X.heap.size) (k : K2) (q cap e : Nat) (hm : ks.length ≤ 100000) (ty : TypeId)
    (e0 : W.cell? ⟨e, 0, none⟩ = some (.int .i64 k.region)) (e1 : W.cell? ⟨e, 1, none⟩ = some (.slice (some ⟨q, 0, none⟩) k.cells.length cap)) (hat : AtK W q k) (hc : k.cells.length ≤ cap) (hq : X.heap.size ≤ q) (hql : q < W.heap.size) :
    ∃ v' Y, (Builtin.append_ #[24, 24] ty #[vk, .slice (some ⟨e, 0, none⟩) 1 1]).run Tryz.prog W = .ok v' Y ∧ MR base p Y v' vr vd (ks ++ [k]) rs zs (fun i => if i = ks.length then q else gk i) gr ∧ W.grownBy Y vk.ownBlock ∧ (∀ x, vk.ownBlock = some x → base ≤ x ∧ x < X.heap.size ∧ x ≠ p) := by
  have hW := h.later hb
  obtain ⟨i0, hi0, hz0, hz1, hz2⟩ := partsOf info_cops
  have old : ∀ x, blocksG vk ks gk x → x < X.heap.size := fun x hx => (h.gK.blocks hx).2
  obtain ⟨v', Y, hr, hg, hgr, hl⟩ := GrowG.push (hd := hdK) (ln := lnK) (sz := 2) (e := e) AtK.of_block (fun _ => rfl) Tryz.underlying24 hi0 hz0 hz1 hz2 rfl (by omega) hW.gK k q cap hm ty (fun j u hu => by
    rcases j with _ | _ | j
    · simp [cellsG, hdK] at hu; subst hu; exact e0
    · simp [cellsG, hdK, lnK] at hu; subst hu; exact e1
    · simp [cellsG, hdK] at hu) hat hc (by omega) hql (fun e' => by have := old q (.inl e'); omega) (fun i hi e' => by have := old q (.inr ⟨i, hi, e'⟩); omega) (Nat.le_trans hX hb.size)
  have new : ∀ x, blocksG v' (ks ++ [k]) (fun i => if i = ks.length then q else gk i) x → blocksG vk ks gk x ∨ X.heap.size ≤ x := fun x hx => by
    rcases blocks_push hl hx with h | h | h
    · exact .inl h
    · exact .inr (by omega)
    · exact .inr (by have := hb.size; omega)
  have fR : ∀ x, x < W.heap.size → vk.ownBlock ≠ some x → Y.heap[x]? = W.heap[x]? := fun x hx hne => hgr.block x hx (fun e' => hne e'.symm)
  refine ⟨v', Y, hr, ⟨hg, hW.gR.keep AtR.of_block hgr.size (fun x hx hbx => fR x hx (fun e' => h.kr x (.inl e') hbx)), ⟨hW.gD.1, hW.gD.2.imp id ?_⟩, fun x hx hbx => ?_, fun x hx hbx => ?_, h.rd, fun x hx hbx => ?_, h.rp, h.dp⟩, hgr, fun x hx => ⟨(h.gK.lies hx).1, (h.gK.lies hx).2, h.kp x (.inl hx)⟩⟩
  · rintro ⟨x, cp, cur, rfl, l, hgg, r⟩
    exact ⟨x, cp, cur, rfl, l, (fR x (World.ownsRow.lt hW.gD x rfl).2 (fun e' => h.kd x (.inl e') rfl)).trans hgg, r⟩
  · rcases new x hx with hn | hn
    · exact h.kr x hn hbx
    · have := (h.gR.blocks hbx).2; omega
  · rcases new x hx with hn | hn
    · exact h.kd x hn hbx
    · have := (World.ownsRow.lt h.gD x hbx).2; omega
  · rcases new x hx with hn | hn
    · exact h.kp x hn hbx
    · omega
theorem MR.pushR {base p : Nat} {X W : World} {vk vr vd : Value} {ks : List K2} {rs : List R4} {zs : List Int} {gk gr : Nat → Nat} (h : MR base p X vk vr vd ks rs zs gk gr) (hb : Below X.heap.size X W) (hX : base ≤ X.heap.size) (hpX : p < X.heap.size) (k : R4) (q cap e : Nat) (hm : rs.length ≤ 100000) (ty : TypeId)
    (e0 : W.cell? ⟨e, 0, none⟩ = some (.int .i64 k.kind)) (e1 : W.cell? ⟨e, 1, none⟩ = some (.int .i64 k.tx)) (e2 : W.cell? ⟨e, 2, none⟩ = some (.int .i64 k.region)) (e3 : W.cell? ⟨e, 3, none⟩ = some (.slice (some ⟨q, 0, none⟩) k.sets.length cap)) (hat : AtR W q k) (hc : k.sets.length ≤ cap) (hq : X.heap.size ≤ q) (hql : q < W.heap.size) :
    ∃ v' Y, (Builtin.append_ #[25, 25] ty #[vr, .slice (some ⟨e, 0, none⟩) 1 1]).run Tryz.prog W = .ok v' Y ∧ MR base p Y vk v' vd ks (rs ++ [k]) zs gk (fun i => if i = rs.length then q else gr i) ∧ W.grownBy Y vr.ownBlock ∧ (∀ x, vr.ownBlock = some x → base ≤ x ∧ x < X.heap.size ∧ x ≠ p) := by
  have hW := h.later hb
  obtain ⟨i0, hi0, hz0, hz1, hz2⟩ := partsOf info_recs
  have old : ∀ x, blocksG vr rs gr x → x < X.heap.size := fun x hx => (h.gR.blocks hx).2
  obtain ⟨v', Y, hr, hg, hgr, hl⟩ := GrowG.push (hd := hdR) (ln := lnR) (sz := 4) (e := e) AtR.of_block (fun _ => rfl) Tryz.underlying25 hi0 hz0 hz1 hz2 rfl (by omega) hW.gR k q cap hm ty (fun j u hu => by
    rcases j with _ | _ | _ | _ | j
    · simp [cellsG, hdR] at hu; subst hu; exact e0
    · simp [cellsG, hdR] at hu; subst hu; exact e1
    · simp [cellsG, hdR] at hu; subst hu; exact e2
    · simp [cellsG, hdR, lnR] at hu; subst hu; exact e3
    · simp [cellsG, hdR] at hu) hat hc (by omega) hql (fun e' => by have := old q (.inl e'); omega) (fun i hi e' => by have := old q (.inr ⟨i, hi, e'⟩); omega) (Nat.le_trans hX hb.size)
  have new : ∀ x, blocksG v' (rs ++ [k]) (fun i => if i = rs.length then q else gr i) x → blocksG vr rs gr x ∨ X.heap.size ≤ x := fun x hx => by
    rcases blocks_push hl hx with h | h | h
    · exact .inl h
    · exact .inr (by omega)
    · exact .inr (by have := hb.size; omega)
  have fR : ∀ x, x < W.heap.size → vr.ownBlock ≠ some x → Y.heap[x]? = W.heap[x]? := fun x hx hne => hgr.block x hx (fun e' => hne e'.symm)
  refine ⟨v', Y, hr, ⟨hW.gK.keep AtK.of_block hgr.size (fun x hx hbx => fR x hx (fun e' => h.kr x hbx (.inl e'))), hg, ⟨hW.gD.1, hW.gD.2.imp id ?_⟩, fun x hbx hx => ?_, h.kd, fun x hx hbx => ?_, h.kp, fun x hx hbx => ?_, h.dp⟩, hgr, fun x hx => ⟨(h.gR.lies hx).1, (h.gR.lies hx).2, h.rp x (.inl hx)⟩⟩
  · rintro ⟨x, cp, cur, rfl, l, hgg, r⟩
    exact ⟨x, cp, cur, rfl, l, (fR x (World.ownsRow.lt hW.gD x rfl).2 (fun e' => h.rd x (.inl e') rfl)).trans hgg, r⟩
  · rcases new x hx with hn | hn
    · exact h.kr x hbx hn
    · have := (h.gK.blocks hbx).2; omega
  · rcases new x hx with hn | hn
    · exact h.rd x hn hbx
    · have := (World.ownsRow.lt h.gD x hbx).2; omega
  · rcases new x hx with hn | hn
    · exact h.rp x hn hbx
    · omega
/-- As a machine of the call's own. -/
theorem MR.om {base p : Nat} {X : World} {v : MV} {m : M4} {gk gr : Nat → Nat} (h : MR base p X (.slice v.ac m.copies.length v.cc) (.slice v.al m.log.length v.cl) (.slice v.ad m.cleared.length v.cd) m.copies m.log m.cleared gk gr) :
    OM X base v m (blocksG (.slice v.ac m.copies.length v.cc) m.copies gk) (blocksG (.slice v.al m.log.length v.cl) m.log gr) (fun q => (Value.slice v.ad m.cleared.length v.cd).ownBlock = some q) := by
  refine ⟨?_, ?_, ?_, h.kr, h.kd, h.rd, fun q hq => (h.gK.blocks hq).1, fun q hq => (h.gR.blocks hq).1, fun q hq => (World.ownsRow.lt h.gD q hq).1⟩
  · by_cases e : m.copies = []
    · exact .inl e
    · obtain ⟨b, cap, ev, h1, h2, h3, h4, h5⟩ := GrowG.own (hd := hdK) (sz := 2) (fun _ => rfl) h.gK e
      have ea : v.ac = some ⟨b, 0, none⟩ := by injection ev
      exact .inr ⟨b, gk, ea, .inl (by rw [ea]; rfl), fun i hi => .inr ⟨i, hi, rfl⟩, h2, h4, h5.base⟩
  · by_cases e : m.log = []
    · exact .inl e
    · obtain ⟨b, cap, ev, h1, h2, h3, h4, h5⟩ := GrowG.own (hd := hdR) (sz := 4) (fun _ => rfl) h.gR e
      have ea : v.al = some ⟨b, 0, none⟩ := by injection ev
      exact .inr ⟨b, gr, ea, .inl (by rw [ea]; rfl), fun i hi => .inr ⟨i, hi, rfl⟩, h2, h4, h5.base⟩
  · by_cases e : m.cleared = []
    · exact .inl e
    · have hpos : 0 < m.cleared.length := List.length_pos_iff.2 e
      obtain ⟨b, cap, ev, h1, h2⟩ := World.ownsRow.form h.gD hpos
      have ea : v.ad = some ⟨b, 0, none⟩ := by injection ev
      have ec : v.cd = cap := by injection ev
      have hg := h.gD
      rw [ea] at hg
      refine .inr ⟨b, ea, by rw [ea]; rfl, h2, fun i z ez => ?_, fun j hj => ⟨.int .i64 (m.cleared[j]'hj), ?_, World.ownsRow.frozenAt hg j⟩⟩
      · have hi := (List.getElem?_eq_some_iff.1 ez).1
        rw [Nat.zero_add, World.ownsRow.cellAt hg i (by omega), List.getElem?_map, ez]; rfl
      · rw [World.ownsRow.cellAt hg j (by omega), List.getElem?_map, List.getElem?_eq_getElem hj]; rfl
end Go.Proofs.YtooalbdlknheeaaGreat
/- A region that draws its order and ends in one store: what the world holds till then. The loads are taken first though the last store turns what they read. No program in sight. -/
namespace Go.Proofs.YtooalbdlknheeaaGreat
/-- Whatever order is picked: S holds behind every operation but number s. -/
def wpUntil (P : Program) (md : Region.Mode) (ops : Array Oper) (Q : Exit → Act → World → Prop) (S : World → Prop) (s : Nat) : Nat → Array Bool → Act → World → Prop
  | 0, L, a, w => Region.ready md ops L = [] ∧ Q .normal a w
  | f + 1, L, a, w => (Region.ready md ops L = [] → Q .normal a w) ∧ ∀ i ∈ Region.ready md ops L, wpOp P ops Q i (fun a' w' => (i ≠ s → S w') ∧ wpUntil P md ops Q S s f (L.setIfInBounds i true) a' w') a w
theorem wpAny_of_until {P : Program} {ops : Array Oper} {Q : Exit → Act → World → Prop} {md : Region.Mode} {S : World → Prop} {s : Nat} : ∀ (f : Nat) (L : Array Bool) (a : Act) (w : World), wpUntil P md ops Q S s f L a w → wpAny P md ops Q f L a w := by
  intro f
  induction f with
  | zero => exact fun _ _ _ h => h
  | succ f ih => exact fun L a w h => ⟨h.1, fun i hi => wpOp_mono (fun a' w' k => ih _ a' w' k.2) (h.2 i hi)⟩
/-- Number s waits for number i by an edge of its own. -/
def waitsB (md : Region.Mode) (ops : Array Oper) (s i : Nat) : Bool := match ops[s]? with
  | some o => o.after.any fun e => Region.binds md e && e.on == i
  | none => false
theorem not_ready {md : Region.Mode} {ops : Array Oper} {i j : Nat} {oj : Oper} {L : Array Bool} (hr : i ∈ Region.ready md ops L) (hall : ∀ e ∈ oj.after, Region.binds md e = true → L.getD e.on false = true) (hj : ops[j]? = some oj) (hw : waitsB md ops j i = true) : False := by
  simp only [waitsB, hj, Array.any_eq_true, Bool.and_eq_true, beq_iff_eq] at hw
  obtain ⟨k, hk, hb, he⟩ := hw
  have h1 := hall _ (Array.getElem_mem hk) hb
  have h0 := (mem_ready.1 hr).1
  rw [he] at h1
  rcases Nat.lt_or_ge i L.size with h | h
  · simp [h] at h0 h1; rw [h0] at h1; cases h1
  · simp [Array.getElem?_eq_none h] at h1
/-- What yields one value wherever S holds, and is waited for by number s, is taken first. -/
theorem wpUntil_first {P : Program} {ops : Array Oper} {Q : Exit → Act → World → Prop} {md : Region.Mode} {S : World → Prop} {s : Nat} {i : Nat} {o : Oper} {v : Value} (ho : ops[i]? = some o) (hw : waitsB md ops s i = true) (hsel : ∀ (j : Nat) (o : Oper) cs b, ops[j]? = some o → o.op ≠ .select cs b) (hQ : ∀ c a w, Q (.panic c) (a.put o.dst v) w → Q (.panic c) a w) :
    ∀ (f : Nat) (L : Array Bool) (a : Act) (w : World),
      (∀ j oj, ops[j]? = some oj → j ≠ i → L.getD j true = false → (∀ e ∈ oj.after, Region.binds md e = true → e.on ≠ i) → o.apart ops oj = true) →
      i ∈ Region.ready md ops L → YieldsIf P ops S o v a → S w → wpUntil P md ops Q S s f (L.setIfInBounds i true) (a.put o.dst v) w → wpUntil P md ops Q S s (f + 1) L a w := by
  intro f
  induction f with
  | zero =>
    intro L a w _ hr hy hS H
    refine ⟨fun h => absurd hr (by rw [h]; simp), fun j hj => ?_⟩
    by_cases e : j = i
    · rw [e]; exact hy.wpOp ho hS ⟨fun _ => hS, H⟩
    · have := ready_mono hj e
      rw [H.1] at this
      cases this
  | succ f ih =>
    intro L a w hfree hr hy hS H
    refine ⟨fun h => absurd hr (by rw [h]; simp), fun j hj => ?_⟩
    by_cases e : j = i
    · rw [e]; exact hy.wpOp ho hS ⟨fun _ => hS, H⟩
    · obtain ⟨hun, oj, hoj, hall⟩ := mem_ready.1 hj
      have hjs : j ≠ s := fun e' => by rw [e'] at hoj; exact not_ready hr hall hoj hw
      have hno : ∀ x ∈ oj.after, Region.binds md x = true → x.on ≠ i := fun x hx hb he => not_ready hr hall hoj (by
        simp only [waitsB, hoj, Array.any_eq_true, Bool.and_eq_true, beq_iff_eq]
        obtain ⟨k, hk, rfl⟩ := Array.getElem_of_mem hx
        exact ⟨k, hk, hb, he⟩)
      have step := wpOp_putIf hoj (hfree j oj hoj e hun hno) (fun cs b => hsel i o cs b ho) (fun cs b => hsel j oj cs b hoj) hQ hy (H.2 j (ready_mono hj e))
      refine wpOp_mono (fun a' w' k => ⟨k.2.1, ih _ a' w' (fun x ox hx hxi hxu hxn => hfree x ox hx hxi ?_ hxn) (ready_mono hr (Ne.symm e)) k.1 (k.2.1 hjs) ?_⟩) step
      · by_cases h : j = x
        · rw [← h]; exact hun
        · rw [getD_set_ne true h] at hxu; exact hxu
      · rw [Array.setIfInBounds_comm _ _ e]; exact k.2.2
theorem wpUntil_take {P : Program} {ops : Array Oper} {Q : Exit → Act → World → Prop} {md : Region.Mode} {S : World → Prop} {s : Nat} {i : Nat} {o : Oper} {v : Value} {f : Nat} {L : Array Bool} {a : Act} {w : World} (ho : ops[i]? = some o) (hc : (waitsB md ops s i && Region.noSelect ops && Region.free md ops L i && (Region.ready md ops L).contains i) = true)
    (hQ : ∀ c a w, Q (.panic c) (a.put o.dst v) w → Q (.panic c) a w) (hy : YieldsIf P ops S o v a) (hS : S w) (h : wpUntil P md ops Q S s f (L.setIfInBounds i true) (a.put o.dst v) w) : wpUntil P md ops Q S s (f + 1) L a w := by
  simp only [Bool.and_eq_true] at hc
  obtain ⟨⟨⟨h1, h2⟩, h3⟩, h4⟩ := hc
  exact wpUntil_first ho h1 (Region.noSelect_spec h2) hQ f L a w (Region.free_spec ho h3) (by simpa using h4) hy hS h
/-- Each of the operations rs comes up next. -/
def AllU (P : Program) (md : Region.Mode) (ops : Array Oper) (Q : Exit → Act → World → Prop) (S : World → Prop) (s f : Nat) (L : Array Bool) (a : Act) (w : World) (rs : List Nat) : Prop :=
  ∀ i ∈ rs, wpOp P ops Q i (fun a' w' => (i ≠ s → S w') ∧ wpUntil P md ops Q S s f (L.setIfInBounds i true) a' w') a w
theorem AllU.nil {P : Program} {ops : Array Oper} {Q : Exit → Act → World → Prop} {md : Region.Mode} {S : World → Prop} {s : Nat} {f : Nat} {L : Array Bool} {a : Act} {w : World} : AllU P md ops Q S s f L a w [] := fun _ h => by cases h
theorem AllU.cons {P : Program} {ops : Array Oper} {Q : Exit → Act → World → Prop} {md : Region.Mode} {S : World → Prop} {s : Nat} {f : Nat} {L : Array Bool} {a : Act} {w : World} {i : Nat} {o : Oper} {rs : List Nat} (ho : ops[i]? = some o)
    (h : ∀ K' : Act → World → Prop, Shut (∀ a w, (i ≠ s → S w) → wpUntil P md ops Q S s f (L.setIfInBounds i true) a w → K' a w) → if Region.wanted o (yielded ops a.tmps) = true then Oper.wp P o a w K' Q else K' (a.put o.dst undef) w)
    (hs : AllU P md ops Q S s f L a w rs) : AllU P md ops Q S s f L a w (i :: rs) := fun j hj => by
  rcases List.mem_cons.1 hj with rfl | hj
  · exact wpOp_step ho (fun K' hK => h K' (fun a w hS hW => hK a w ⟨hS, hW⟩))
  · exact hs j hj
theorem wpUntil_ready {P : Program} {ops : Array Oper} {Q : Exit → Act → World → Prop} {md : Region.Mode} {S : World → Prop} {s : Nat} {rs : List Nat} {f : Nat} {L : Array Bool} {a : Act} {w : World} (hr : Region.ready md ops L = rs) (hne : rs ≠ []) (h : AllU P md ops Q S s f L a w rs) : wpUntil P md ops Q S s (f + 1) L a w :=
  ⟨fun h0 => absurd (hr.symm.trans h0) hne, fun i hi => h i (by rw [← hr]; exact hi)⟩
theorem wpUntil_done {P : Program} {ops : Array Oper} {Q : Exit → Act → World → Prop} {md : Region.Mode} {S : World → Prop} {s : Nat} {L : Array Bool} {a : Act} {w : World} (hr : Region.ready md ops L = []) (h : Q .normal a w) (f : Nat) : wpUntil P md ops Q S s f L a w := by
  cases f with
  | zero => exact ⟨hr, h⟩
  | succ f => exact ⟨fun _ => h, fun i hi => by rw [hr] at hi; cases hi⟩
theorem wp_region_until {P : Program} {ops : Array Oper} {Q : Exit → Act → World → Prop} {id : Nat} {a : Act} {w : World} (s : Nat) (S : World → Prop) (hm : P.follows .mixedOrders = true) (h : wpUntil P .any ops Q S s ops.size (Array.replicate ops.size false) a w.drew) : (Code.region id ops true).wp P Q a w :=
  wp_region_any hm (wpAny_of_until _ _ _ _ h)
end Go.Proofs.YtooalbdlknheeaaGreat
