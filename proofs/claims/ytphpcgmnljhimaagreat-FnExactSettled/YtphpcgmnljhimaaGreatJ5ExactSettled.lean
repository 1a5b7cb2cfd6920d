/- OwnS; KdCL3; PlsL; KdClS; MacOk1; Plain; HdU; CellOk: joined. -/
import Derived.Test.YtphpcgmnljhimaaGreatRows
import Derived.Test.YtphpcgmnljhimaaGreatJ4ExactSettled
import Derived.Below
import Derived.Test.YtphpcgmnljhimaaGreatJ2ExactSettled
import Derived.WalkKit
import Derived.WalkSpells
import Derived.WalkLawsBesides
import Derived.Lib.QuietBelow
import Derived.BigQuiet
import Derived.Deep.CutRange
import Derived.Maps.AppendAt
import Derived.Laws.OwnMore
import Derived.Deep.AppendLies
import Derived.Test.YtphpcgmnljhimaaGreatJ0ExactSettled
import Derived.Deep.QuietTactic
namespace Go.Proofs.YtphpcgmnljhimaaGreat
open Go.RowKit
def blocksG {α : Type} (v : Value) (rs : List α) (g : Nat → Nat) (q : Nat) : Prop := v.ownBlock = some q ∨ ∃ i, i < rs.length ∧ g i = q
theorem GrowG.blocks {α : Type} {T : TypeId} {sz : Nat} {hd : α → List Int} {ln : α → Nat} {At : World → Nat → α → Prop} {w : World} {base : Nat} {v : Value} {rs : List α} {g : Nat → Nat} (h : GrowG T sz hd ln At w base v rs g) {q : Nat} (hq : blocksG v rs g q) : base ≤ q ∧ q < w.heap.size := by
  rcases hq with hq | ⟨i, hi, rfl⟩
  · exact h.lies hq
  · exact ⟨h.low i hi, h.lt i hi⟩
theorem blocks_push {α : Type} {v v' : Value} {rs : List α} {r : α} {g : Nat → Nat} {q S : Nat} (hl : v'.ownBlock = v.ownBlock ∨ v'.ownBlock = some S) {x : Nat} (h : blocksG v' (rs ++ [r]) (fun i => if i = rs.length then q else g i) x) : blocksG v rs g x ∨ x = q ∨ x = S := by
  rcases h with h | ⟨i, hi, h⟩
  · rcases hl with e | e
    · rw [e] at h; exact .inl (.inl h)
    · rw [e] at h; exact .inr (.inr (Option.some.inj h).symm)
  · by_cases e : i = rs.length
    · simp only [if_pos e] at h; exact .inr (.inl h.symm)
    · simp only [if_neg e] at h
      simp at hi
      exact .inl (.inr ⟨i, by omega, h⟩)
structure MR (base p : Nat) (X : World) (vk vr vd : Value) (ks : List K2) (rs : List R4) (zs : List Int) (gk gr : Nat → Nat) : Prop where
  gK : GrowG 68 2 hdK lnK AtK X base vk ks gk
  gR : GrowG 133 4 hdR lnR AtR X base vr rs gr
  gD : X.ownsRow base 2 1 vd zs.length (zs.map (Value.int .i64))
  kr : ∀ q, blocksG vk ks gk q → ¬ blocksG vr rs gr q
  kd : ∀ q, blocksG vk ks gk q → vd.ownBlock ≠ some q
  rd : ∀ q, blocksG vr rs gr q → vd.ownBlock ≠ some q
  kp : ∀ q, blocksG vk ks gk q → q ≠ p
  rp : ∀ q, blocksG vr rs gr q → q ≠ p
  dp : vd.ownBlock ≠ some p
theorem MR.keep {base p : Nat} {X Y : World} {vk vr vd : Value} {ks : List K2} {rs : List R4} {zs : List Int} {gk gr : Nat → Nat} (h : MR base p X vk vr vd ks rs zs gk gr) (hs : X.heap.size ≤ Y.heap.size) (hk : ∀ q, q < X.heap.size → base ≤ q → q ≠ p → Y.heap[q]? = X.heap[q]?) : MR base p Y vk vr vd ks rs zs gk gr := by
  refine ⟨h.gK.keep AtK.of_block hs (fun q hq hb => hk q hq (h.gK.blocks hb).1 (h.kp q hb)), h.gR.keep AtR.of_block hs (fun q hq hb => hk q hq (h.gR.blocks hb).1 (h.rp q hb)), ⟨h.gD.1, h.gD.2.imp id ?_⟩, h.kr, h.kd, h.rd, h.kp, h.rp, h.dp⟩
  rintro ⟨q, cap, cur, rfl, l, hg, r⟩
  exact ⟨q, cap, cur, rfl, l, (hk q (World.ownsRow.lt h.gD q rfl).2 l (fun e => h.dp (by rw [← e]; rfl))).trans hg, r⟩
theorem MR.later {base p : Nat} {X Y : World} {vk vr vd : Value} {ks : List K2} {rs : List R4} {zs : List Int} {gk gr : Nat → Nat} (h : MR base p X vk vr vd ks rs zs gk gr) (hb : Below X.heap.size X Y) : MR base p Y vk vr vd ks rs zs gk gr := h.keep hb.size (fun q hq _ _ => hb.block q hq)
theorem MR.set {base p o : Nat} {X : World} {u : Value} {vk vr vd : Value} {ks : List K2} {rs : List R4} {zs : List Int} {gk gr : Nat → Nat} (h : MR base p X vk vr vd ks rs zs gk gr) : MR base p (X.setCell ⟨p, o, none⟩ u) vk vr vd ks rs zs gk gr := h.keep (by simp [World.setCell]) (fun q _ _ hp => Below.heap_setCell _ _ _ _ hp)
theorem MR.pushK {base p : Nat} {X W : World} {vk vr vd : Value} {ks : List K2} {rs : List R4} {zs : List Int} {gk gr : Nat → Nat} (h : MR base p X vk vr vd ks rs zs gk gr) (hb : Below X.heap.size X W) (hX : base ≤ X.heap.size) (hpX : p < X.heap.size) (k : K2) (q cap e : Nat) (hm : ks.length ≤ 100000) (ty : TypeId)
    (e0 : W.cell? ⟨e, 0, none⟩ = some (.int .i64 k.region)) (e1 : W.cell? ⟨e, 1, none⟩ = some (.slice (some ⟨q, 0, none⟩) k.cells.length cap)) (hat : AtK W q k) (hc : k.cells.length ≤ cap) (hq : X.heap.size ≤ q) (hql : q < W.heap.size) :
    ∃ v' Y, (Builtin.append_ #[60, 60] ty #[vk, .slice (some ⟨e, 0, none⟩) 1 1]).run Tryz.prog W = .ok v' Y ∧ MR base p Y v' vr vd (ks ++ [k]) rs zs (fun i => if i = ks.length then q else gk i) gr ∧ W.grownBy Y vk.ownBlock ∧ (∀ x, vk.ownBlock = some x → base ≤ x ∧ x < X.heap.size ∧ x ≠ p) := by
  have hW := h.later hb
  obtain ⟨i0, hi0, hz0, hz1, hz2⟩ := partsOf info_cops
  have old : ∀ x, blocksG vk ks gk x → x < X.heap.size := fun x hx => (h.gK.blocks hx).2
  obtain ⟨v', Y, hr, hg, hgr, hl⟩ := GrowG.push (hd := hdK) (ln := lnK) (sz := 2) (e := e) AtK.of_block (fun _ => rfl) Tryz.underlying60 hi0 hz0 hz1 hz2 rfl (by omega) hW.gK k q cap hm ty (fun j u hu => by
    rcases j with _ | _ | j
    · simp [cellsG, hdK] at hu; subst hu; exact e0
    · simp [cellsG, hdK, lnK] at hu; subst hu; exact e1
    · simp [cellsG, hdK] at hu) hat hc (by omega) hql (fun e' => by have := old q (.inl e'); omega) (fun i hi e' => by have := old q (.inr ⟨i, hi, e'⟩); omega) (Nat.le_trans hX hb.size)
  have new : ∀ x, blocksG v' (ks ++ [k]) (fun i => if i = ks.length then q else gk i) x → blocksG vk ks gk x ∨ X.heap.size ≤ x := fun x hx => by
    rcases blocks_push hl hx with h | h | h
    · exact .inl h
    · exact .inr (by omega)
    · exact .inr (by have := hb.size; omega)
  have fR : ∀ x, x < W.heap.size → vk.ownBlock ≠ some x → Y.heap[x]? = W.heap[x]? := fun x hx hne => hgr.block x hx (fun e' => hne e'.symm)
  refine ⟨v', Y, hr, ⟨hg, hW.gR.keep AtR.of_block hgr.size (fun x hx hbx => fR x hx (fun e' => h.kr x (.inl e') hbx)), ⟨hW.gD.1, hW.gD.2.imp id ?_⟩, fun x hx hbx => ?_, fun x hx hbx => ?_, h.rd, fun x hx hbx => ?_, h.rp, h.dp⟩, hgr, fun x hx => ⟨(h.gK.lies hx).1, (h.gK.lies hx).2, h.kp x (.inl hx)⟩⟩
  · rintro ⟨x, cp, cur, rfl, l, hgg, r⟩
    exact ⟨x, cp, cur, rfl, l, (fR x (World.ownsRow.lt hW.gD x rfl).2 (fun e' => h.kd x (.inl e') rfl)).trans hgg, r⟩
  · rcases new x hx with hn | hn
    · exact h.kr x hn hbx
    · have := (h.gR.blocks hbx).2; omega
  · rcases new x hx with hn | hn
    · exact h.kd x hn hbx
    · have := (World.ownsRow.lt h.gD x hbx).2; omega
  · rcases new x hx with hn | hn
    · exact h.kp x hn hbx
    · omega
theorem MR.pushR {base p : Nat} {X W : World} {vk vr vd : Value} {ks : List K2} {rs : List R4} {zs : List Int} {gk gr : Nat → Nat} (h : MR base p X vk vr vd ks rs zs gk gr) (hb : Below X.heap.size X W) (hX : base ≤ X.heap.size) (hpX : p < X.heap.size) (k : R4) (q cap e : Nat) (hm : rs.length ≤ 100000) (ty : TypeId)
    (e0 : W.cell? ⟨e, 0, none⟩ = some (.int .i64 k.kind)) (e1 : W.cell? ⟨e, 1, none⟩ = some (.int .i64 k.tx)) (e2 : W.cell? ⟨e, 2, none⟩ = some (.int .i64 k.region)) (e3 : W.cell? ⟨e, 3, none⟩ = some (.slice (some ⟨q, 0, none⟩) k.sets.length cap)) (hat : AtR W q k) (hc : k.sets.length ≤ cap) (hq : X.heap.size ≤ q) (hql : q < W.heap.size) :
    ∃ v' Y, (Builtin.append_ #[61, 61] ty #[vr, .slice (some ⟨e, 0, none⟩) 1 1]).run Tryz.prog W = .ok v' Y ∧ MR base p Y vk v' vd ks (rs ++ [k]) zs gk (fun i => if i = rs.length then q else gr i) ∧ W.grownBy Y vr.ownBlock ∧ (∀ x, vr.ownBlock = some x → base ≤ x ∧ x < X.heap.size ∧ x ≠ p) := by
  have hW := h.later hb
  obtain ⟨i0, hi0, hz0, hz1, hz2⟩ := partsOf info_recs
  have old : ∀ x, blocksG vr rs gr x → x < X.heap.size := fun x hx => (h.gR.blocks hx).2
  obtain ⟨v', Y, hr, hg, hgr, hl⟩ := GrowG.push (hd := hdR) (ln := lnR) (sz := 4) (e := e) AtR.of_block (fun _ => rfl) Tryz.underlying61 hi0 hz0 hz1 hz2 rfl (by omega) hW.gR k q cap hm ty (fun j u hu => by
    rcases j with _ | _ | _ | _ | j
    · simp [cellsG, hdR] at hu; subst hu; exact e0
    · simp [cellsG, hdR] at hu; subst hu; exact e1
    · simp [cellsG, hdR] at hu; subst hu; exact e2
    · simp [cellsG, hdR, lnR] at hu; subst hu; exact e3
    · simp [cellsG, hdR] at hu) hat hc (by omega) hql (fun e' => by have := old q (.inl e'); omega) (fun i hi e' => by have := old q (.inr ⟨i, hi, e'⟩); omega) (Nat.le_trans hX hb.size)
  have new : ∀ x, blocksG v' (rs ++ [k]) (fun i => if i = rs.length then q else gr i) x → blocksG vr rs gr x ∨ X.heap.size ≤ x := fun x hx => by
    rcases blocks_push hl hx with h | h | h
    · exact .inl h
    · exact .inr (by omega)
    · exact .inr (by have := hb.size; omega)
  have fR : ∀ x, x < W.heap.size → vr.ownBlock ≠ some x → Y.heap[x]? = W.heap[x]? := fun x hx hne => hgr.block x hx (fun e' => hne e'.symm)
  refine ⟨v', Y, hr, ⟨hW.gK.keep AtK.of_block hgr.size (fun x hx hbx => fR x hx (fun e' => h.kr x hbx (.inl e'))), hg, ⟨hW.gD.1, hW.gD.2.imp id ?_⟩, fun x hbx hx => ?_, h.kd, fun x hx hbx => ?_, h.kp, fun x hx hbx => ?_, h.dp⟩, hgr, fun x hx => ⟨(h.gR.lies hx).1, (h.gR.lies hx).2, h.rp x (.inl hx)⟩⟩
  · rintro ⟨x, cp, cur, rfl, l, hgg, r⟩
    exact ⟨x, cp, cur, rfl, l, (fR x (World.ownsRow.lt hW.gD x rfl).2 (fun e' => h.rd x (.inl e') rfl)).trans hgg, r⟩
  · rcases new x hx with hn | hn
    · exact h.kr x hbx hn
    · have := (h.gK.blocks hbx).2; omega
  · rcases new x hx with hn | hn
    · exact h.rd x hn hbx
    · have := (World.ownsRow.lt h.gD x hbx).2; omega
  · rcases new x hx with hn | hn
    · exact h.rp x hn hbx
    · omega
theorem MR.om {base p : Nat} {X : World} {v : MV} {m : M4} {gk gr : Nat → Nat} (h : MR base p X (.slice v.ac m.copies.length v.cc) (.slice v.al m.log.length v.cl) (.slice v.ad m.cleared.length v.cd) m.copies m.log m.cleared gk gr) :
    OM X base v m (blocksG (.slice v.ac m.copies.length v.cc) m.copies gk) (blocksG (.slice v.al m.log.length v.cl) m.log gr) (fun q => (Value.slice v.ad m.cleared.length v.cd).ownBlock = some q) := by
  refine ⟨?_, ?_, ?_, h.kr, h.kd, h.rd, fun q hq => (h.gK.blocks hq).1, fun q hq => (h.gR.blocks hq).1, fun q hq => (World.ownsRow.lt h.gD q hq).1⟩
  · by_cases e : m.copies = []
    · exact .inl e
    · obtain ⟨b, cap, ev, h1, h2, h3, h4, h5⟩ := GrowG.own (hd := hdK) (sz := 2) (fun _ => rfl) h.gK e
      have ea : v.ac = some ⟨b, 0, none⟩ := by injection ev
      exact .inr ⟨b, gk, ea, .inl (by rw [ea]; rfl), fun i hi => .inr ⟨i, hi, rfl⟩, h2, h4, h5.base⟩
  · by_cases e : m.log = []
    · exact .inl e
    · obtain ⟨b, cap, ev, h1, h2, h3, h4, h5⟩ := GrowG.own (hd := hdR) (sz := 4) (fun _ => rfl) h.gR e
      have ea : v.al = some ⟨b, 0, none⟩ := by injection ev
      exact .inr ⟨b, gr, ea, .inl (by rw [ea]; rfl), fun i hi => .inr ⟨i, hi, rfl⟩, h2, h4, h5.base⟩
  · by_cases e : m.cleared = []
    · exact .inl e
    · have hpos : 0 < m.cleared.length := List.length_pos_iff.2 e
      obtain ⟨b, cap, ev, h1, h2⟩ := World.ownsRow.form h.gD hpos
      have ea : v.ad = some ⟨b, 0, none⟩ := by injection ev
      have ec : v.cd = cap := by injection ev
      have hg := h.gD
      rw [ea] at hg
      refine .inr ⟨b, ea, by rw [ea]; rfl, h2, fun i z ez => ?_, fun j hj => ⟨.int .i64 (m.cleared[j]'hj), ?_, World.ownsRow.frozenAt hg j⟩⟩
      · have hi := (List.getElem?_eq_some_iff.1 ez).1
        rw [Nat.zero_add, World.ownsRow.cellAt hg i (by omega), List.getElem?_map, ez]; rfl
      · rw [World.ownsRow.cellAt hg j (by omega), List.getElem?_map, List.getElem?_eq_getElem hj]; rfl
end Go.Proofs.YtphpcgmnljhimaaGreat
namespace Go.Proofs.YtphpcgmnljhimaaGreat
open Go.RowKit
open Go.Sort (grow)
def KP1.Ow (w : World) (B : Nat) (v : Nat × Nat) (zs : List Int) (P : Nat → Prop) : Prop := (P v.1 ∧ NumsAt w v.1 0 zs ∧ Room w v.1 zs.length ∧ zs.length ≤ v.2) ∧ (∀ q, P q → B ≤ q ∧ q < w.heap.size)
def KPk : Kd (List Int) (Nat × Nat) where
  n := 1
  cells v zs := [.slice (some ⟨v.1, 0, none⟩) zs.length v.2]
  len := fun _ _ => rfl
  Rd X v zs := v.1 < X.heap.size ∧ NumsAt X v.1 0 zs
  Ow := KP1.Ow
  later := fun h b => ⟨Nat.lt_of_lt_of_le h.1 b.size, h.2.of_block (b.block _ h.1)⟩
  sl := fun h => ⟨(h.2 _ h.1.1).2, h.1.2.1⟩
  of := fun h hq => h.2 _ hq
  keep := fun h hs hk => ⟨⟨h.1.1, h.1.2.1.of_block (hk _ h.1.1), h.1.2.2.1.of_block (hk _ h.1.1), h.1.2.2.2⟩, fun q hq => ⟨(h.2 q hq).1, Nat.lt_of_lt_of_le (h.2 q hq).2 hs⟩⟩
  low := fun h hb => ⟨h.1, fun q hq => ⟨Nat.le_trans hb (h.2 q hq).1, (h.2 q hq).2⟩⟩
theorem placesOwn {X : World} {B : Nat} {a : Option Addr} {m cap : Nat} {ps : List ((Nat × Nat) × List Int)} {g : Nat → Nat → Prop} (h : KPk.Grow 65 X B (.slice a m cap) ps g) {zss : List (List Int)} (hd : ps.map (·.2) = zss) : KP.Ow X B a zss (Kd.blk (.slice a m cap) ps g) := by
  refine ⟨?_, fun q hq => h.blocks hq⟩
  have hl : zss.length = ps.length := by rw [← hd]; simp
  by_cases e : ps = []
  · refine ⟨fun _ => 0, ?_, fun b e' => .inl (by rw [e']; rfl), fun i hi => by rw [hl, e] at hi; simp at hi⟩
    have hz : zss = [] := by rw [← hd, e]; rfl
    rcases h.row.2 with ⟨e', _⟩ | ⟨q, cap', cur, e', hB, hg, r⟩
    · left
      exact ⟨by injection e', by rw [hz]; rfl, hz⟩
    · right
      have ea : a = some ⟨q, 0, none⟩ := by injection e'
      refine ⟨q, ea, hB, (World.ownsRow.lt h.row q (by rw [e']; rfl)).2, ?_⟩
      rw [hz]
      exact OwnP.nil X B q _
  have hpos : 0 < ps.length := List.length_pos_iff.2 e
  obtain ⟨b, cap', ev, hB, hlt⟩ := World.ownsRow.form h.row hpos
  have hrow := h.row
  rw [ev] at hrow
  have ea : a = some ⟨b, 0, none⟩ := by injection ev
  have eb : (Value.slice a m cap).ownBlock = some b := by rw [ea]; rfl
  have hx : ∀ i zs, zss[i]? = some zs → ∃ hi : i < ps.length, (ps[i]).2 = zs := fun i zs hi => by
    have hip : i < ps.length := by have := (List.getElem?_eq_some_iff.1 hi).1; omega
    refine ⟨hip, ?_⟩
    rw [← hd, List.getElem?_map, List.getElem?_eq_getElem hip] at hi
    simpa using hi
  have hs : ∀ i (hi : i < ps.length), KP1.Ow X B (ps[i]).1 (ps[i]).2 (g i) := fun i hi => h.sub i _ (List.getElem?_eq_getElem hi)
  have gq : ∀ i (hi : i < ps.length), (ps[i]?.getD ((0, 0), [])).1.1 = (ps[i]).1.1 := fun i hi => by simp [List.getElem?_eq_getElem hi]
  refine ⟨fun i => ((ps[i]?.getD ((0, 0), [])).1.1), .inr ⟨b, ea, hB, hlt, ⟨rfl, fun i zs hi => ?_, fun i hi => ?_, fun i hi => ?_, fun i hi => ?_, fun i zs hi => ?_, fun i zs hi => ?_, fun i j hi hj ee => ?_⟩⟩, fun b' e' => .inl (by rw [e']; rfl), fun i hi => ?_⟩
  · obtain ⟨hip, hz⟩ := hx i zs hi
    refine ⟨(ps[i]).1.2, ?_, ?_⟩
    · rw [gq i hip, ← hz]
      have hc := World.ownsRow.cellAt hrow i (by show i < ps.length * 1; omega)
      rw [hc]
      have := KPk.flat_at (t := 0) (List.getElem?_eq_getElem hip) (by decide)
      simpa [KPk] using this
    · rw [← hz]; exact (hs i hip).1.2.2.2
  · have hip : i < ps.length := by omega
    rw [gq i hip]; exact ((hs i hip).2 _ (hs i hip).1.1).1
  · have hip : i < ps.length := by omega
    rw [gq i hip]; exact ((hs i hip).2 _ (hs i hip).1.1).2
  · have hip : i < ps.length := by omega
    rw [gq i hip]; intro e'
    exact h.ne i b hip (by rw [← e']; exact (hs i hip).1.1) eb
  · obtain ⟨hip, hz⟩ := hx i zs hi
    rw [gq i hip, ← hz]; exact (hs i hip).1.2.1
  · obtain ⟨hip, hz⟩ := hx i zs hi
    rw [gq i hip, ← hz]; exact (hs i hip).1.2.2.1
  · have hip : i < ps.length := by omega
    have hjp : j < ps.length := by omega
    rw [gq i hip, gq j hjp] at ee
    by_cases hij : i = j
    · exact hij
    · exact absurd (by rw [ee]; exact (hs j hjp).1.1) (h.ap i j _ hip hjp hij (hs i hip).1.1)
  · have hip : i < ps.length := by omega
    show Kd.blk _ _ _ ((ps[i]?.getD ((0, 0), [])).1.1)
    rw [gq i hip]; exact .inr ⟨i, hip, (hs i hip).1.1⟩
structure CL3 (base p : Nat) (X : World) (vp vm vt : Value) (ps : List ((Nat × Nat) × List Int)) (gp : Nat → Nat → Prop) (ms : List (MV × M4)) (gm : Nat → Nat → Prop) (ts : List (tx.TV × tx.T7)) (gt : Nat → Nat → Prop) : Prop where
  P : KPk.Grow 65 X base vp ps gp
  M : KMk.Grow 63 X base vm ms gm
  T : KTk.Grow 47 X base vt ts gt
  pm : ∀ q, Kd.blk vp ps gp q → ¬ Kd.blk vm ms gm q
  pt : ∀ q, Kd.blk vp ps gp q → ¬ Kd.blk vt ts gt q
  mt : ∀ q, Kd.blk vm ms gm q → ¬ Kd.blk vt ts gt q
  pp : ∀ q, Kd.blk vp ps gp q → q ≠ p
  mp : ∀ q, Kd.blk vm ms gm q → q ≠ p
  tp : ∀ q, Kd.blk vt ts gt q → q ≠ p
theorem CL3.keep {base p : Nat} {X Y : World} {vp vm vt : Value} {ps : List ((Nat × Nat) × List Int)} {gp : Nat → Nat → Prop} {ms : List (MV × M4)} {gm : Nat → Nat → Prop} {ts : List (tx.TV × tx.T7)} {gt : Nat → Nat → Prop} (h : CL3 base p X vp vm vt ps gp ms gm ts gt) (hs : X.heap.size ≤ Y.heap.size) (hk : ∀ q, q < X.heap.size → base ≤ q → q ≠ p → Y.heap[q]? = X.heap[q]?) : CL3 base p Y vp vm vt ps gp ms gm ts gt :=
  ⟨h.P.keep hs (fun q hq => hk q (h.P.blocks hq).2 (h.P.blocks hq).1 (h.pp q hq)), h.M.keep hs (fun q hq => hk q (h.M.blocks hq).2 (h.M.blocks hq).1 (h.mp q hq)), h.T.keep hs (fun q hq => hk q (h.T.blocks hq).2 (h.T.blocks hq).1 (h.tp q hq)), h.pm, h.pt, h.mt, h.pp, h.mp, h.tp⟩
theorem CL3.later {base p : Nat} {X Y : World} {vp vm vt : Value} {ps : List ((Nat × Nat) × List Int)} {gp : Nat → Nat → Prop} {ms : List (MV × M4)} {gm : Nat → Nat → Prop} {ts : List (tx.TV × tx.T7)} {gt : Nat → Nat → Prop} (h : CL3 base p X vp vm vt ps gp ms gm ts gt) (hb : Below X.heap.size X Y) : CL3 base p Y vp vm vt ps gp ms gm ts gt := h.keep hb.size (fun q hq _ _ => hb.block q hq)
theorem CL3.set {base p o : Nat} {X : World} {u : Value} {vp vm vt : Value} {ps : List ((Nat × Nat) × List Int)} {gp : Nat → Nat → Prop} {ms : List (MV × M4)} {gm : Nat → Nat → Prop} {ts : List (tx.TV × tx.T7)} {gt : Nat → Nat → Prop} (h : CL3 base p X vp vm vt ps gp ms gm ts gt) : CL3 base p (X.setCell ⟨p, o, none⟩ u) vp vm vt ps gp ms gm ts gt := h.keep (by simp [World.setCell]) (fun q _ _ hp => Below.heap_setCell _ _ _ _ hp)
def gnone : Nat → Nat → Prop := fun _ _ => False
theorem blk_nil {D V : Type} {q : Nat} (h : Kd.blk (D := D) (V := V) (.slice none 0 0) [] gnone q) : False := by
  rcases h with h | ⟨i, hi, _⟩
  · cases h
  · simp at hi
theorem CL3.nil (base p : Nat) (X : World) : CL3 base p X (.slice none 0 0) (.slice none 0 0) (.slice none 0 0) [] gnone [] gnone [] gnone :=
  ⟨Kd.Grow.nil _ _ _ _ _, Kd.Grow.nil _ _ _ _ _, Kd.Grow.nil _ _ _ _ _, fun _ h => (blk_nil h).elim, fun _ h => (blk_nil h).elim, fun _ h => (blk_nil h).elim, fun _ h => (blk_nil h).elim, fun _ h => (blk_nil h).elim, fun _ h => (blk_nil h).elim⟩
theorem CL3.ow {base p : Nat} {X : World} {a1 : Option Addr} {c1 : Nat} {a2 : Option Addr} {c2 : Nat} {a3 : Option Addr} {c3 : Nat} {k : C6} {ps : List ((Nat × Nat) × List Int)} {gp : Nat → Nat → Prop} {ms : List (MV × M4)} {gm : Nat → Nat → Prop} {ts : List (tx.TV × tx.T7)} {gt : Nat → Nat → Prop} (h : CL3 base p X (.slice a1 k.places.length c1) (.slice a2 k.machines.length c2) (.slice a3 k.txs.length c3) ps gp ms gm ts gt) (e1 : ps.map (·.2) = k.places) (e2 : ms.map (·.2) = k.machines) (e3 : ts.map (·.2) = k.txs) :
    KCl.Ow X base a1 c1 a2 c2 a3 c3 k (fun q => Kd.blk (.slice a1 k.places.length c1) ps gp q ∨ Kd.blk (.slice a2 k.machines.length c2) ms gm q ∨ Kd.blk (.slice a3 k.txs.length c3) ts gt q) :=
  ⟨⟨_, _, _, placesOwn h.P e1, h.M.own e2, h.T.own e3, fun _ hq => .inl hq, fun _ hq => .inr (.inl hq), fun _ hq => .inr (.inr hq), h.pm, h.pt, h.mt⟩, fun q hq => by rcases hq with hq | hq | hq; exact h.P.blocks hq; exact h.M.blocks hq; exact h.T.blocks hq⟩
theorem szInt64S_any (w : World) (a : Option Addr) (n cap : Nat) (l : Nat) (hn : n ≤ maxLen) (hl : l ≤ 1048576) : Calls Tryz.prog 75 #[.slice a n cap, .int .i64 (l : Int)] w fun e w' => e = .returned (.int .i64 (if n ≤ l then ((l - n : Nat) : Int) else -1)) ∧ w' = w := by
  unfold maxLen at hn
  by_cases h : n ≤ l
  · rw [if_pos h]
    have d0 : decide ((l : Int) - (n : Int) < 0) = false := by simp; omega
    go_enter Tryz.func75, Tryz.ntmps75
    go_wp2
    go_ret
    have e : ((l - n : Nat) : Int) = (l : Int) - (n : Int) := by omega
    exact ⟨by rw [e]; rfl, rfl⟩
  · rw [if_neg h]
    have d0 : decide ((l : Int) - (n : Int) < 0) = true := by simp; omega
    go_enter Tryz.func75, Tryz.ntmps75
    go_wp2
    go_ret
    exact ⟨rfl, rfl⟩
theorem szPlace_any (w : World) (a : Option Addr) (n cap : Nat) (l : Nat) (hn : n ≤ maxLen) (hl : l ≤ 1048576) : Calls Tryz.prog 40 #[.agg #[.slice a n cap], .int .i64 (l : Int)] w fun e w' => e = .returned (.int .i64 (if n ≤ l then ((l - n : Nat) : Int) else -1)) ∧ Below w.heap.size w w' := by
  by_cases h : n ≤ l
  · rw [if_pos h]
    go_enter Tryz.func40, Tryz.ntmps40
    go_wp2_with fail
    have hz := szInt64S_any (w.alloc (.cells #[.slice a n cap] 76)) a n cap l hn hl
    rw [if_pos h] at hz
    refine hz.mono ?_
    rintro e w1 ⟨rfl, rfl⟩
    have d0 : decide (((l - n : Nat) : Int) < 0) = false := by simp
    go_wp2
    go_ret
    exact ⟨rfl, (Below.refl _ _).alloc (Nat.le_refl _) _⟩
  · rw [if_neg h]
    go_enter Tryz.func40, Tryz.ntmps40
    go_wp2_with fail
    have hz := szInt64S_any (w.alloc (.cells #[.slice a n cap] 76)) a n cap l hn hl
    rw [if_neg h] at hz
    refine hz.mono ?_
    rintro e w1 ⟨rfl, rfl⟩
    go_wp2
    go_ret
    exact ⟨rfl, (Below.refl _ _).alloc (Nat.le_refl _) _⟩
def szR (n : Nat) (zss : List (List Int)) : Int := if n + lens zss ≤ 1048576 then ((1048576 - (n + lens zss) : Nat) : Int) else -1
set_option maxHeartbeats 2000000 in
theorem szPlaceS_any (w : World) (a : Option Addr) (n cap : Nat) (zss : List (List Int)) (hn : n ≤ maxLen) (hs : SlP w w.heap.size a n zss) (hl : ∀ zs ∈ zss, zs.length ≤ maxLen) :
    Calls Tryz.prog 12 #[.slice a n cap, .int .i64 1048576] w fun e w' => e = .returned (.int .i64 (szR n zss)) ∧ Below w.heap.size w w' := by
  obtain ⟨hx, hs⟩ := hs
  have hn' := hn
  unfold maxLen at hn'
  by_cases h0 : n ≤ 1048576
  · have d0 : decide ((1048576 : Int) - (n : Int) < 0) = false := by simp; omega
    go_enter Tryz.func12, Tryz.ntmps12
    go_wp2
    go_loopw [1, 5] (fun v1 v5 wr => ∃ j : Nat, j ≤ n ∧ v5 = .int .i64 j ∧ n + lens (zss.take j) ≤ 1048576 ∧ v1 = .int .i64 ((1048576 - (n + lens (zss.take j)) : Nat) : Int) ∧ Below w.heap.size w wr) (fun _ v5 _ => n - (intOf v5).toNat)
    case atStart => exact ⟨0, Nat.zero_le _, rfl, by simpa [lens] using h0, by simp [lens]; omega, Below.refl _ _⟩
    case round =>
      obtain ⟨j, hj, rfl, hle, rfl, hbl⟩ := hrel
      have KL : Hid (n + lens (zss.take j) ≤ 1048576 ∧ zss.length = n ∧ (∀ zs ∈ zss, zs.length ≤ maxLen)) := ⟨hle, hx, hl⟩
      by_cases hlt : j < n
      · rcases hs with hs | ⟨b, off, rfl, hb, h1⟩
        · omega
        · obtain ⟨a', cap', hc, _, _⟩ := h1 j _ (atP_of (by omega))
          have c := (hbl.cell (p := ⟨b, off + j, none⟩) hb).trans hc
          have hz := szPlace_any wr a' (atP zss j).length cap' (1048576 - (n + lens (zss.take j))) (hl _ (List.mem_of_getElem? (atP_of (by omega)))) (by omega)
          have HST : Hid (lens (zss.take (j + 1)) = lens (zss.take j) + (atP zss j).length) := lens_take_succ (by omega)
          have HLE : Hid (lens (zss.take (j + 1)) ≤ lens zss) := lens_take_le _ _
          have KB : Hid (Below w.heap.size w wr) := hbl
          generalize hLL : lens (zss.take j) = LL at *
          generalize (atP zss j).length = m at *
          clear h1 hc hbl hl hx hle
          by_cases hfit : m ≤ 1048576 - (n + LL)
          · rw [if_pos hfit] at hz
            have d1 : decide (((1048576 - (n + LL) - m : Nat) : Int) < 0) = false := by simp
            go_wp2_with fail
            refine hz.mono ?_
            clear hz
            rintro e w1 ⟨rfl, b1⟩
            go_wp2
            have h1 := KL.out.1
            refine ⟨⟨j + 1, by omega, by simp, by rw [HST.out]; omega, by rw [HST.out]; congr 2; omega, KB.out.trans (b1.mono KB.out.size)⟩, by simp [intOf]; omega⟩
          · rw [if_neg hfit] at hz
            go_wp2_with fail
            refine hz.mono ?_
            clear hz
            rintro e w1 ⟨rfl, b1⟩
            go_wp2
            go_ret
            have h2 := HST.out
            have h3 := HLE.out
            refine ⟨by rw [szR, if_neg (by omega)]; rfl, KB.out.trans (b1.mono KB.out.size)⟩
      · have : j = n := by omega
        subst this
        have hd : decide ((j : Int) < (j : Int)) = false := by simp
        have ht : zss.take j = zss := List.take_of_length_le (by omega)
        rw [ht] at hle ⊢
        clear hs hl KL ht
        go_wp2
        go_ret
        exact ⟨by rw [szR, if_pos hle]; rfl, hbl⟩
  · have d0 : decide ((1048576 : Int) - (n : Int) < 0) = true := by simp; omega
    go_enter Tryz.func12, Tryz.ntmps12
    go_wp2
    go_ret
    exact ⟨by rw [szR, if_neg (by omega)]; rfl, Below.refl _ _⟩
end Go.Proofs.YtphpcgmnljhimaaGreat
namespace Go.Proofs.YtphpcgmnljhimaaGreat
open Go.RowKit
def szC (k : C6) : Nat := (k.places.length + lens k.places) + (k.machines.length + KMS.szs k.machines) + (k.txs.length + KTS.szs k.txs)
structure KCl.L (k : C6) : Prop where
  p : k.places.length ≤ maxLen
  ps : ∀ zs ∈ k.places, zs.length ≤ maxLen
  m : k.machines.length ≤ maxLen
  ms : ∀ m ∈ k.machines, ML m
  t : k.txs.length ≤ maxLen
  ts : ∀ t ∈ k.txs, tx.TL t
theorem sum_has {α : Type} (f : α → Nat) {x : α} : ∀ {l : List α}, x ∈ l → f x ≤ (l.map f).sum
  | y :: l, h => by
    simp only [List.map_cons, List.sum_cons]
    rcases List.mem_cons.1 h with rfl | h
    · omega
    · have := sum_has f h; omega
theorem KCl.S.of {k : C6} (h : szC k ≤ 1048576) : KCl.S k := by
  unfold szC at h
  refine ⟨by omega, fun zs hz => ?_, by omega, fun m hm => MT.of_sz ?_, by omega, fun t ht => ?_⟩
  · have := lens_mem hz; omega
  · have := sum_has (fun m => szM m) hm; unfold KMS.szs at h; omega
  · have h1 := sum_has (fun t => tx.szT t) ht
    unfold KTS.szs at h
    have h2 : tx.szT t = t.reads.length + t.sets.length := rfl
    exact ⟨by omega, by omega⟩
set_option maxRecDepth 100000 in
set_option maxHeartbeats 4000000 in
theorem KCl.sz (X : World) (a1 : Option Addr) (c1 : Nat) (a2 : Option Addr) (c2 : Nat) (a3 : Option Addr) (c3 : Nat) (k : C6) (hl : KCl.L k) (h : KCl.Rd X a1 c1 a2 c2 a3 c3 k) : Calls Tryz.prog 5 #[.agg #[.int .i64 k.config, .int .i64 k.clock, .slice a1 k.places.length c1, .slice a2 k.machines.length c2, .slice a3 k.txs.length c3, .bool k.lost], .int .i64 1048576] X fun e w' => e = .returned (.int .i64 (leftR 1048576 (szC k))) ∧ Below X.heap.size X w' := by
  obtain ⟨U, hU⟩ : ∃ Y, Y = X.alloc (.cells #[.int .i64 k.config, .int .i64 k.clock, .slice a1 k.places.length c1, .slice a2 k.machines.length c2, .slice a3 k.txs.length c3, .bool k.lost] 26) := ⟨_, rfl⟩
  have b0 : Below X.heap.size X U := by rw [hU]; exact (Below.refl _ _).alloc (Nat.le_refl _) _
  have FA : Hid (Bx U X.heap.size [.int .i64 k.config, .int .i64 k.clock, .slice a1 k.places.length c1, .slice a2 k.machines.length c2, .slice a3 k.txs.length c3, .bool k.lost]) := by rw [hU]; exact Bx.made X [.int .i64 k.config, .int .i64 k.clock, .slice a1 k.places.length c1, .slice a2 k.machines.length c2, .slice a3 k.txs.length c3, .bool k.lost] _
  have HR : Hid (KCl.Rd U a1 c1 a2 c2 a3 c3 k ∧ KCl.L k ∧ Below X.heap.size X U) := ⟨h.later b0, hl, b0⟩
  have hz1 := szPlaceS_any U a1 k.places.length c1 k.places hl.p (h.later b0).p hl.ps
  have e1 : szR k.places.length k.places = leftR 1048576 (k.places.length + lens k.places) := by unfold szR leftR; rfl
  rw [e1] at hz1
  have HS : Hid (szC k = (k.places.length + lens k.places) + (k.machines.length + KMS.szs k.machines) + (k.txs.length + KTS.szs k.txs)) := rfl
  have HM : Hid (∀ (w : World) (l : Nat), Below U.heap.size U w → l ≤ 1048576 → Calls Tryz.prog 13 #[.slice a2 k.machines.length c2, .int .i64 (l : Int)] w fun e w' => e = .returned (.int .i64 (leftR l (k.machines.length + KMS.szs k.machines))) ∧ Below w.heap.size w w') := fun w l hb hl0 => KMS.sz w a2 c2 k.machines l hl0 hl.m hl.ms ((h.later b0).later hb).m
  have HT : Hid (∀ (w : World) (l : Nat), Below U.heap.size U w → l ≤ 1048576 → Calls Tryz.prog 14 #[.slice a3 k.txs.length c3, .int .i64 (l : Int)] w fun e w' => e = .returned (.int .i64 (leftR l (k.txs.length + KTS.szs k.txs))) ∧ Below w.heap.size w w') := fun w l hb hl0 => KTS.sz w a3 c3 k.txs l hl0 hl.t hl.ts ((h.later b0).later hb).t
  rw [HS.out]
  generalize k.places.length + lens k.places = n1 at *
  generalize k.machines.length + KMS.szs k.machines = n2 at *
  generalize k.txs.length + KTS.szs k.txs = n3 at *
  have p2 := FA.out.1 2 _ rfl
  rw [hU] at p2
  clear b0 hl h e1 HS
  go_enter Tryz.func5, Tryz.ntmps5
  go_wp2_with fail
  rw [← hU]
  clear hU p2
  refine hz1.mono ?_
  clear hz1
  rintro e w1 ⟨rfl, b1⟩
  have B1 := tx.hidOf b1
  clear b1
  by_cases g1 : n1 ≤ 1048576
  · rw [leftR_yes g1]
    have d1 : decide (((1048576 - n1 : Nat) : Int) < 0) = false := by simp
    have p3 := (FA.out.later B1.out).1 3 _ rfl
    have hz := HM.out w1 (1048576 - n1) B1.out (by omega)
    go_wp2_with fail
    refine hz.mono ?_
    clear hz p3
    rintro e w2 ⟨rfl, b2⟩
    have B2 : Hid (Below U.heap.size U w2) := bstep B1.out b2
    clear b2
    by_cases g2 : n2 ≤ 1048576 - n1
    · rw [leftR_yes g2]
      have d2 : decide (((1048576 - n1 - n2 : Nat) : Int) < 0) = false := by simp
      have p4 := (FA.out.later B2.out).1 4 _ rfl
      have hz := HT.out w2 (1048576 - n1 - n2) B2.out (by omega)
      go_wp2_with fail
      refine hz.mono ?_
      clear hz p4
      rintro e w3 ⟨rfl, b3⟩
      have B3 : Hid (Below U.heap.size U w3) := bstep B2.out b3
      clear b3
      by_cases g3 : n3 ≤ 1048576 - n1 - n2
      · rw [leftR_yes g3]
        have d3 : decide (((1048576 - n1 - n2 - n3 : Nat) : Int) < 0) = false := by simp
        go_wp2
        go_ret
        exact ⟨by rw [leftR_yes (by omega), show 1048576 - (n1 + n2 + n3) = 1048576 - n1 - n2 - n3 by omega]; rfl, bstep HR.out.2.2 B3.out⟩
      · rw [leftR_no g3]
        go_wp2
        go_ret
        exact ⟨by rw [leftR_no (by omega)]; rfl, bstep HR.out.2.2 B3.out⟩
    · rw [leftR_no g2]
      go_wp2
      go_ret
      exact ⟨by rw [leftR_no (by omega)]; rfl, bstep HR.out.2.2 B2.out⟩
  · rw [leftR_no g1]
    go_wp2
    go_ret
    exact ⟨by rw [leftR_no (by omega)]; rfl, bstep HR.out.2.2 B1.out⟩
end Go.Proofs.YtphpcgmnljhimaaGreat
namespace Go.Proofs.YtphpcgmnljhimaaGreat
open Go.RowKit
open Go.Sort (grow)
theorem specId_q (w : World) (x : Int) : Calls Tryz.prog 43 #[.int .i64 x] w fun e w' => e = .returned (.bool (inB 1 1000000 x)) ∧ Below w.heap.size w w' := by
  go_enter Tryz.func43, Tryz.ntmps43
  go_wp2_with (go_at_call 44; refine (specIn _ _ _ _).mono ?_; rintro e w' ⟨rfl, rfl⟩)
  go_ret
  exact ⟨rfl, Below.refl _ _⟩
def idAt (zs : List Int) (i : Nat) : Bool := inB 1 1000000 (atN zs i) && (decide (i = 0) || decide (atN zs (i - 1) < atN zs i))
def idsB (zs : List Int) : Bool := (List.range zs.length).all (idAt zs)
theorem ids_step {f : Nat → Bool} {k : Nat} (h : (List.range k).all f = true) (h' : f k = true) : (List.range (k + 1)).all f = true := by
  rw [List.range_succ, List.all_append, h]; simp [h']
theorem ids_fail {f : Nat → Bool} {k n : Nat} (hk : k < n) (h : f k = false) : (List.range n).all f = false := by
  rw [List.all_eq_false]; exact ⟨k, List.mem_range.2 hk, by simp [h]⟩
theorem id_bad {zs : List Int} {k : Nat} (h : inB 1 1000000 (atN zs k) = false) : idAt zs k = false := by simp [idAt, h]
theorem id_low {zs : List Int} {j : Nat} (h : atN zs (j + 1) ≤ atN zs j) : idAt zs (j + 1) = false := by simp [idAt]; intro _; omega
theorem id_first {zs : List Int} (h : inB 1 1000000 (atN zs 0) = true) : idAt zs 0 = true := by simp [idAt, h]
theorem id_good {zs : List Int} {j : Nat} (h : inB 1 1000000 (atN zs (j + 1)) = true) (h' : ¬ atN zs (j + 1) ≤ atN zs j) : idAt zs (j + 1) = true := by simp [idAt, h]; omega
set_option maxHeartbeats 4000000 in
theorem l6Rises_any (w : World) (a : Option Addr) (n cap : Nat) (zs : List Int) (hn : n ≤ maxLen) (hs : SlN w w.heap.size a n zs) :
    Calls Tryz.prog 82 #[.slice a n cap] w fun e w' => e = .returned (.bool (idsB zs)) ∧ Below w.heap.size w w' := by
  unfold maxLen at hn
  obtain ⟨hx, hs⟩ := hs
  go_enter Tryz.func82, Tryz.ntmps82
  go_wp2
  go_loopw [3] (fun i wr => ∃ k : Nat, k ≤ n ∧ i = .int .i64 k ∧ Below w.heap.size w wr ∧ (List.range k).all (idAt zs) = true) (fun i _ => n - (intOf i).toNat)
  case atStart => exact ⟨0, Nat.zero_le _, rfl, Below.refl _ _, rfl⟩
  case round =>
    obtain ⟨k, hk, rfl, hbl, hall⟩ := hrel
    have K : Hid (Below w.heap.size w wr ∧ (List.range k).all (idAt zs) = true ∧ zs.length = n) := ⟨hbl, hall, hx⟩
    by_cases hlt : k < n
    · rcases hs with hs | ⟨b, off, rfl, hb, h1⟩
      · omega
      have hbW : b < wr.heap.size := Nat.lt_of_lt_of_le hb hbl.size
      have t1 := (h1.below hbl hb) k _ (atN_of (by omega))
      have c0 : ∀ d os, (grow (redrawn wr d) os).cell? ⟨b, off + k, none⟩ = some (.int .i64 (atN zs k)) := fun d os => ((below_regrown wr d os).cell (p := ⟨b, off + k, none⟩) hbW).trans t1
      have cQ : ∀ d os, Calls Tryz.prog 43 #[.int .i64 (atN zs k)] (grow (redrawn wr d) os) fun e w'' => e = .returned (.bool (inB 1 1000000 (atN zs k))) ∧ ∃ p : Regrown, w'' = grow (redrawn wr p.d) p.os := fun d os => Calls.regrown_of (specId_q _ (atN zs k))
      cases hok : inB 1 1000000 (atN zs k) with
      | false =>
        rw [hok] at cQ
        clear t1 hbl hall h1 hx
        go_wp2_with fail
        refine wp_region_quiet_below (by kernel_rfl) (by kernel_rfl) ?_
        repeat (go_big_quiet_step (exact cQ _ _))
        refine wpQuiet_nil ?_
        intro _ hw'
        obtain ⟨⟨dq, osq⟩, hw''⟩ := hw'
        subst hw''
        have bq := below_regrown wr dq osq
        go_wp2
        go_ret
        exact ⟨by rw [idsB, K.out.2.2, ids_fail hlt (id_bad hok)]; rfl, K.out.1.trans (bq.mono K.out.1.size)⟩
      | true =>
        rw [hok] at cQ
        rcases k with _ | j
        · simp only [Nat.add_zero] at c0
          clear t1 hbl hall h1 hx
          go_wp2_with fail
          refine wp_region_quiet_below (by kernel_rfl) (by kernel_rfl) ?_
          repeat (go_big_quiet_step (exact cQ _ _))
          refine wpQuiet_nil ?_
          intro _ hw'
          obtain ⟨⟨dq, osq⟩, hw''⟩ := hw'
          subst hw''
          have bq := below_regrown wr dq osq
          go_wp2
          exact ⟨⟨1, by omega, by simp, K.out.1.trans (bq.mono K.out.1.size), ids_step K.out.2.1 (id_first hok)⟩, by simp [intOf]; omega⟩
        · have t2 := (h1.below hbl hb) j _ (atN_of (by omega))
          have e1 : ∀ d os, (grow (redrawn wr d) os).cell? ⟨b, off + j, none⟩ = some (.int .i64 (atN zs j)) := fun d os => ((below_regrown wr d os).cell (p := ⟨b, off + j, none⟩) hbW).trans t2
          have hj : (j : Int) < (n : Int) := by omega
          by_cases hq : atN zs (j + 1) ≤ atN zs j
          · clear t1 t2 hbl hall h1 hx
            go_wp2_with fail
            refine wp_region_quiet_below (by kernel_rfl) (by kernel_rfl) ?_
            repeat (go_big_quiet_step (exact cQ _ _))
            refine wpQuiet_nil ?_
            intro _ hw'
            obtain ⟨⟨dq, osq⟩, hw''⟩ := hw'
            subst hw''
            have bq := below_regrown wr dq osq
            go_wp2
            go_ret
            exact ⟨by rw [idsB, K.out.2.2, ids_fail hlt (id_low hq)]; rfl, K.out.1.trans (bq.mono K.out.1.size)⟩
          · have hq' : decide (atN zs (j + 1) ≤ atN zs j) = false := by simp; omega
            clear t1 t2 hbl hall h1 hx
            go_wp2_with fail
            refine wp_region_quiet_below (by kernel_rfl) (by kernel_rfl) ?_
            repeat (go_big_quiet_step (exact cQ _ _))
            refine wpQuiet_nil ?_
            intro _ hw'
            obtain ⟨⟨dq, osq⟩, hw''⟩ := hw'
            subst hw''
            have bq := below_regrown wr dq osq
            go_wp2
            exact ⟨⟨j + 1 + 1, by omega, by simp, K.out.1.trans (bq.mono K.out.1.size), ids_step K.out.2.1 (id_good hok (Int.not_le.2 hq))⟩, by simp [intOf]; omega⟩
    · have : k = n := by omega
      subst this
      have hd : decide (k < k) = false := by simp
      go_wp2
      go_ret
      exact ⟨by rw [idsB, hx, hall]; rfl, hbl⟩
end Go.Proofs.YtphpcgmnljhimaaGreat
namespace Go.Proofs.YtphpcgmnljhimaaGreat
theorem wrap_i64_small (n : Nat) (h : n < 4294967296) : IntKind.i64.wrap (n : Int) = (n : Int) := by
  simp [IntKind.wrap, IntKind.bits, IntKind.signed]; omega
theorem ofInt_i64 (a : Nat) (ha : a < 4294967296) : (BitVec.ofInt 64 (a : Int)).toNat = a := by
  rw [BitVec.ofInt_natCast, BitVec.toNat_ofNat]; exact Nat.mod_eq_of_lt (by omega)
theorem i64_and_nat (a b : Nat) (ha : a < 4294967296) (hb : b < 4294967296) : bits .and .i64 (a : Int) (b : Int) = ((a &&& b : Nat) : Int) := by
  have hx : a &&& b < 2 ^ 32 := Nat.and_lt_two_pow _ (by omega)
  show IntKind.i64.wrap ((BitVec.ofInt 64 (a : Int) &&& BitVec.ofInt 64 (b : Int)).toNat : Int) = _
  rw [BitVec.toNat_and, ofInt_i64 a ha, ofInt_i64 b hb, wrap_i64_small _ (by omega)]
theorem and_2 (x : Int) (h1 : 0 ≤ x) (h2 : x ≤ 4000003) : bits .and .i64 x 2 = x / 2 % 2 * 2 := by
  obtain ⟨n, rfl⟩ := Int.eq_ofNat_of_zero_le h1
  have h := i64_and_nat n 2 (by omega) (by omega)
  rw [show n &&& 2 = n / 2 % 2 * 2 from nat_bit 1 n] at h
  simpa using h
theorem and_1 (x : Int) (h1 : 0 ≤ x) (h2 : x ≤ 4000003) : bits .and .i64 x 1 = x % 2 := by
  obtain ⟨n, rfl⟩ := Int.eq_ofNat_of_zero_le h1
  have h := i64_and_nat n 1 (by omega) (by omega)
  rw [nat_mask1 n] at h
  simpa using h
def usedB (h : Int) : Bool := decide (h / 2 % 2 = 1)
def lockedB (h : Int) : Bool := decide (h % 2 = 1)
theorem used_ne (h : Int) : (h / 2 % 2 * 2 != 0) = usedB h := by
  unfold usedB; rw [Bool.eq_iff_iff]; simp; omega
theorem locked_ne (h : Int) : (h % 2 != 0) = lockedB h := by
  unfold lockedB; rw [Bool.eq_iff_iff]; simp; omega
theorem ret_eqb {a b : Bool} (h : a = b) : Ending.returned (.bool a) = .returned (.bool b) := by rw [h]
def bump (u l : Bool) : Int := (if u then 2 else 0) + (if l then 1 else 0)
end Go.Proofs.YtphpcgmnljhimaaGreat
namespace Go.Proofs.YtphpcgmnljhimaaGreat
open Go.RowKit
set_option maxHeartbeats 400000 in
theorem implHeadOk_yes (h : Int) (w : World) (h1 : 0 ≤ h) (h2 : h ≤ 4000003) :
    Calls Tryz.prog 201 #[.int .i64 h] w fun e w' => e = .returned (.bool true) ∧ w' = w := by
  go_enter Tryz.func201, Tryz.ntmps201
  go_wp2
  go_ret
  exact ⟨by simp [*], rfl⟩
set_option maxHeartbeats 400000 in
theorem implHeadOk_no (h : Int) (w : World) (hh : h < 0 ∨ 4000003 < h) :
    Calls Tryz.prog 201 #[.int .i64 h] w fun e w' => e = .returned (.bool false) ∧ w' = w := by
  rcases hh with hh | hh
  all_goals
    go_enter Tryz.func201, Tryz.ntmps201
    go_wp2
    go_ret
    exact ⟨by simp; try omega, rfl⟩
set_option maxHeartbeats 400000 in
theorem specHeadOk_yes (h : Int) (w : World) (h1 : 0 ≤ h) (h2 : h ≤ 4000003) :
    Calls Tryz.prog 63 #[.int .i64 h] w fun e w' => e = .returned (.bool true) ∧ w' = w := by
  go_enter Tryz.func63, Tryz.ntmps63
  go_wp2
  go_ret
  exact ⟨by simp [*], rfl⟩
set_option maxHeartbeats 400000 in
theorem specHeadOk_no (h : Int) (w : World) (hh : h < 0 ∨ 4000003 < h) :
    Calls Tryz.prog 63 #[.int .i64 h] w fun e w' => e = .returned (.bool false) ∧ w' = w := by
  rcases hh with hh | hh
  all_goals
    go_enter Tryz.func63, Tryz.ntmps63
    go_wp2
    go_ret
    exact ⟨by simp; try omega, rfl⟩
set_option maxHeartbeats 400000 in
theorem implUsed_yes (h : Int) (w : World) (h1 : 0 ≤ h) (h2 : h ≤ 4000003) :
    Calls Tryz.prog 202 #[.int .i64 h] w fun e w' => e = .returned (.bool (usedB h)) ∧ w' = w := by
  · have b2 := and_2 h h1 h2
    go_enter Tryz.func202, Tryz.ntmps202
    go_wp2
    go_ret
    exact ⟨ret_eqb (used_ne h), rfl⟩
set_option maxHeartbeats 400000 in
theorem implUsed_no (h : Int) (w : World) (hh : h < 0 ∨ 4000003 < h) :
    Calls Tryz.prog 202 #[.int .i64 h] w fun e w' => e = .returned (.bool false) ∧ w' = w := by
  rcases hh with hh | hh
  · have d : decide (0 ≤ h) = false := by simp; omega
    go_enter Tryz.func202, Tryz.ntmps202
    go_wp2
    go_ret
    exact ⟨rfl, rfl⟩
  · have d : decide (h ≤ 4000003) = false := by simp; omega
    go_enter Tryz.func202, Tryz.ntmps202
    go_wp2
    go_ret
    exact ⟨rfl, rfl⟩
set_option maxHeartbeats 400000 in
theorem specUsed_yes (h : Int) (w : World) (h1 : 0 ≤ h) (h2 : h ≤ 4000003) :
    Calls Tryz.prog 136 #[.int .i64 h] w fun e w' => e = .returned (.bool (usedB h)) ∧ w' = w := by
  · go_enter Tryz.func136, Tryz.ntmps136
    go_wp2
    go_ret
    exact ⟨rfl, rfl⟩
set_option maxHeartbeats 400000 in
theorem specUsed_no (h : Int) (w : World) (hh : h < 0 ∨ 4000003 < h) :
    Calls Tryz.prog 136 #[.int .i64 h] w fun e w' => e = .returned (.bool false) ∧ w' = w := by
  rcases hh with hh | hh
  · have d : decide (0 ≤ h) = false := by simp; omega
    go_enter Tryz.func136, Tryz.ntmps136
    go_wp2
    go_ret
    exact ⟨rfl, rfl⟩
  · have d : decide (h ≤ 4000003) = false := by simp; omega
    go_enter Tryz.func136, Tryz.ntmps136
    go_wp2
    go_ret
    exact ⟨rfl, rfl⟩
theorem implHeadOk_any (h : Int) (w : World) : Calls Tryz.prog 201 #[.int .i64 h] w fun e w' => e = .returned (.bool (inB 0 4000003 h)) ∧ w' = w := by
  by_cases hh : 0 ≤ h ∧ h ≤ 4000003
  · rw [inB_yes hh.1 hh.2]; exact implHeadOk_yes h w hh.1 hh.2
  · have e : inB 0 4000003 h = false := by simp [inB]; omega
    rw [e]; exact implHeadOk_no h w (by omega)
theorem implUsed_any (h : Int) (w : World) : Calls Tryz.prog 202 #[.int .i64 h] w fun e w' => e = .returned (.bool (inB 0 4000003 h && usedB h)) ∧ w' = w := by
  by_cases hh : 0 ≤ h ∧ h ≤ 4000003
  · rw [inB_yes hh.1 hh.2, Bool.true_and]; exact implUsed_yes h w hh.1 hh.2
  · have e : inB 0 4000003 h = false := by simp [inB]; omega
    rw [e, Bool.false_and]; exact implUsed_no h w (by omega)
theorem specHeadOk_any (h : Int) (w : World) : Calls Tryz.prog 63 #[.int .i64 h] w fun e w' => e = .returned (.bool (inB 0 4000003 h)) ∧ w' = w := by
  by_cases hh : 0 ≤ h ∧ h ≤ 4000003
  · rw [inB_yes hh.1 hh.2]; exact specHeadOk_yes h w hh.1 hh.2
  · have e : inB 0 4000003 h = false := by simp [inB]; omega
    rw [e]; exact specHeadOk_no h w (by omega)
theorem specUsed_any (h : Int) (w : World) : Calls Tryz.prog 136 #[.int .i64 h] w fun e w' => e = .returned (.bool (inB 0 4000003 h && usedB h)) ∧ w' = w := by
  by_cases hh : 0 ≤ h ∧ h ≤ 4000003
  · rw [inB_yes hh.1 hh.2, Bool.true_and]; exact specUsed_yes h w hh.1 hh.2
  · have e : inB 0 4000003 h = false := by simp [inB]; omega
    rw [e, Bool.false_and]; exact specUsed_no h w (by omega)
def cellB (c : C2) : Bool := inB 0 4000003 c.head && inB (-1000000000) 1000000000 c.value && (usedB c.head || decide (c.value = 0))
def cellsB (xs : List C2) : Bool := decide (xs.length = 6) && xs.all cellB
theorem cells_all {xs : List C2} (h : ∀ i, i < xs.length → cellB (at2 xs i) = true) : xs.all cellB = true := by
  rw [List.all_eq_true]
  intro s hs
  obtain ⟨i, hi, rfl⟩ := List.getElem_of_mem hs
  have := h i hi
  rw [at2, List.getElem?_eq_getElem hi] at this
  simpa using this
theorem cells_not {xs : List C2} {i : Nat} (hi : i < xs.length) (h : cellB (at2 xs i) = false) : xs.all cellB = false := by
  rw [List.all_eq_false]
  refine ⟨xs[i], List.getElem_mem hi, ?_⟩
  rw [at2, List.getElem?_eq_getElem hi] at h
  simpa using h
set_option maxHeartbeats 1000000 in
theorem implCellOk (w : World) (s : C2) : Calls Tryz.prog 175 #[.agg #[.int .i64 s.head, .int .i64 s.value]] w fun e w' => e = .returned (.bool (cellB s)) ∧ Below w.heap.size w w' := by
  obtain ⟨h, v⟩ := s
  unfold cellB
  go_enter Tryz.func175, Tryz.ntmps175
  cases g1 : inB 0 4000003 h <;> cases g2 : inB (-1000000000) 1000000000 v <;> cases g3 : usedB h
  all_goals go_wp2_with (first | (go_at_call 201; refine (implHeadOk_any _ _).mono ?_; rw [g1]; rintro e w' ⟨rfl, rfl⟩) | (go_at_call 155; refine (implValue _ _).mono ?_; rw [g2]; rintro e w' ⟨rfl, rfl⟩) | (go_at_call 202; refine (implUsed_any _ _).mono ?_; rw [g1, g3]; rintro e w' ⟨rfl, rfl⟩))
  all_goals (go_ret; refine ⟨ret_bool ?_, (Below.refl _ _).alloc (Nat.le_refl _) _⟩; simp)
theorem wrongCell (w : World) (s : C2) : Calls Tryz.prog 174 #[.agg #[.int .i64 s.head, .int .i64 s.value]] w fun e w' => e = .returned (.bool (!cellB s)) ∧ Below w.heap.size w w' := by
  go_enter Tryz.func174, Tryz.ntmps174
  go_wp2_with fail
  refine (implCellOk _ s).mono ?_
  rintro e w1 ⟨rfl, b1⟩
  go_wp2
  go_ret
  exact ⟨rfl, ((Below.refl _ _).alloc (Nat.le_refl _) _).trans (b1.mono (by simp))⟩
set_option maxHeartbeats 2000000 in
theorem indexWrong_some (w : World) (b off cap n : Nat) (xs : List C2) (hx : xs.length = n) (hn : n ≤ maxLen) (h1 : CellsAt w b off xs) (hb : b < w.heap.size) :
    Calls Tryz.prog 180 #[.slice (some ⟨b, off, none⟩) n cap, .func (.func 174) #[] #[]] w fun e w' => ∃ i : Int, e = .returned (.int .i64 i) ∧ (0 ≤ i ↔ xs.all cellB = false) ∧ Below w.heap.size w w' := by
  unfold maxLen at hn
  go_enter Tryz.func180, Tryz.ntmps180
  go_wp2
  go_loopw [8] (fun i wr => ∃ k : Nat, k ≤ n ∧ i = .int .i64 k ∧ Below w.heap.size w wr ∧ ∀ i, i < k → cellB (at2 xs i) = true) (fun i _ => n - (intOf i).toNat)
  case atStart => exact ⟨0, Nat.zero_le _, rfl, Below.refl _ _, fun i h => absurd h (by omega)⟩
  case round =>
    obtain ⟨k, hk, rfl, hbl, hall⟩ := hrel
    have K : Hid (Below w.heap.size w wr ∧ (∀ i, i < k → cellB (at2 xs i) = true) ∧ xs.length = n) := ⟨hbl, hall, hx⟩
    by_cases hlt : k < n
    · obtain ⟨c0, c1⟩ := (h1.get (i := k) (by omega)).below hbl hb
      clear hbl hall h1 hx
      cases hr : cellB (at2 xs k) with
      | true =>
        go_wp2_with fail
        refine (wrongCell _ (at2 xs k)).mono ?_
        rw [hr]
        rintro e w1 ⟨rfl, b1⟩
        go_wp2
        refine ⟨⟨k + 1, by omega, by simp, K.out.1.trans (b1.mono K.out.1.size), fun i hi => ?_⟩, by simp [intOf]; omega⟩
        by_cases e : i = k
        · rw [e]; exact hr
        · exact K.out.2.1 i (by omega)
      | false =>
        go_wp2_with fail
        refine (wrongCell _ (at2 xs k)).mono ?_
        rw [hr]
        rintro e w1 ⟨rfl, b1⟩
        go_wp2
        go_ret
        exact ⟨(k : Int), rfl, by simp [cells_not (xs := xs) (i := k) (by rw [K.out.2.2]; exact hlt) hr], K.out.1.trans (b1.mono K.out.1.size)⟩
    · have : k = n := by omega
      subst this
      have hd : decide (k < k) = false := by simp
      go_wp2
      go_ret
      exact ⟨-1, rfl, by simp [cells_all (xs := xs) (by rw [hx]; exact hall)], hbl⟩
theorem containsWrong_some (w : World) (b off cap n : Nat) (xs : List C2) (hx : xs.length = n) (hn : n ≤ maxLen) (h1 : CellsAt w b off xs) (hb : b < w.heap.size) :
    Calls Tryz.prog 132 #[.slice (some ⟨b, off, none⟩) n cap, .func (.func 174) #[] #[]] w fun e w' => e = .returned (.bool (!xs.all cellB)) ∧ Below w.heap.size w w' := by
  go_enter Tryz.func132, Tryz.ntmps132
  go_wp2_with fail
  refine (indexWrong_some w b off cap n xs hx hn h1 hb).mono ?_
  rintro e w1 ⟨i, rfl, hi, b1⟩
  have HI : Hid (0 ≤ i ↔ xs.all cellB = false) := hi
  clear hi
  go_wp2
  go_ret
  refine ⟨ret_bool ?_, b1⟩
  rw [decide_eq_true_eq, HI.out, Bool.not_eq_true']
set_option maxHeartbeats 2000000 in
theorem implCellsOk_any (w : World) (a : Option Addr) (n cap : Nat) (xs : List C2) (hn : n ≤ maxLen) (hs : SlC w w.heap.size a n xs) :
    Calls Tryz.prog 128 #[.slice a n cap] w fun e w' => e = .returned (.bool (cellsB xs)) ∧ Below w.heap.size w w' := by
  obtain ⟨hx, hs⟩ := hs
  unfold cellsB
  rw [hx]
  by_cases h6 : n = 6
  · subst h6
    rcases hs with hs | ⟨b, off, rfl, hb, h1⟩
    · omega
    · go_enter Tryz.func128, Tryz.ntmps128
      go_wp2_with fail
      refine (containsWrong_some w b off cap 6 xs hx hn h1 hb).mono ?_
      rintro e w1 ⟨rfl, b1⟩
      go_wp2
      go_ret
      exact ⟨ret_bool (by simp), b1⟩
  · have q : ((n : Int) == 6) = false := by simp; omega
    go_enter Tryz.func128, Tryz.ntmps128
    go_wp2
    go_ret
    exact ⟨ret_bool (by simp [h6]), Below.refl _ _⟩
set_option maxHeartbeats 2000000 in
theorem specCellsOk_six (w : World) (b off cap : Nat) (xs : List C2) (hx : xs.length = 6) (h1 : CellsAt w b off xs) (hb : b < w.heap.size) :
    Calls Tryz.prog 84 #[.slice (some ⟨b, off, none⟩) 6 cap] w fun e w' => e = .returned (.bool (xs.all cellB)) ∧ Below w.heap.size w w' := by
  go_enter Tryz.func84, Tryz.ntmps84
  go_wp2
  go_loopw [3] (fun i wr => ∃ k : Nat, k ≤ 6 ∧ i = .int .i64 k ∧ Below w.heap.size w wr ∧ ∀ i, i < k → cellB (at2 xs i) = true) (fun i _ => 6 - (intOf i).toNat)
  case atStart => exact ⟨0, Nat.zero_le _, rfl, Below.refl _ _, fun i h => absurd h (by omega)⟩
  case round =>
    obtain ⟨k, hk, rfl, hbl, hall⟩ := hrel
    have K : Hid (Below w.heap.size w wr ∧ (∀ i, i < k → cellB (at2 xs i) = true) ∧ xs.length = 6) := ⟨hbl, hall, hx⟩
    by_cases hlt : k < 6
    · obtain ⟨c0, c1⟩ := (h1.get (i := k) (by omega)).below hbl hb
      clear hbl hall h1 hx
      generalize hC : at2 xs k = C at c0 c1
      obtain ⟨h, v⟩ := C
      have KC : Hid (at2 xs k = ⟨h, v⟩) := hC
      have hlt' : (k : Int) < 6 := by omega
      clear hC
      cases g1 : inB 0 4000003 h <;> cases g2 : inB (-1000000000) 1000000000 v <;> cases g3 : usedB h
      all_goals
        have HB : Hid (cellB (at2 xs k) = (inB 0 4000003 h && inB (-1000000000) 1000000000 v && (usedB h || decide (v = 0)))) := by unfold Hid; rw [KC.out]; rfl
        rw [g1, g2, g3] at HB
        go_wp2_with (first | (go_at_call 63; refine (specHeadOk_any _ _).mono ?_; rw [g1]; rintro e w' ⟨rfl, rfl⟩) | (go_at_call 135; refine (specValue _ _).mono ?_; rw [g2]; rintro e w' ⟨rfl, rfl⟩) | (go_at_call 136; refine (specUsed_any _ _).mono ?_; rw [g1, g3]; rintro e w' ⟨rfl, rfl⟩))
      all_goals first
        | (go_ret
           exact ⟨by rw [cells_not (xs := xs) (i := k) (by rw [K.out.2.2]; exact hlt) (by rw [HB.out]; simp; try simpa using ‹(v != 0) = true›)]; rfl, (K.out.1.alloc K.out.1.size _)⟩)
        | (refine ⟨⟨k + 1, by omega, by simp, K.out.1.alloc K.out.1.size _, fun i hi => ?_⟩, by simp [intOf]; omega⟩
           by_cases e : i = k
           · rw [e, HB.out]; simp; try simpa using ‹(v != 0) = false›
           · exact K.out.2.1 i (by omega))
    · have : k = 6 := by omega
      subst this
      go_wp2
      go_ret
      exact ⟨by rw [cells_all (xs := xs) (by rw [hx]; exact hall)]; rfl, hbl⟩
theorem specCellsOk_any (w : World) (a : Option Addr) (n cap : Nat) (xs : List C2) (hn : n ≤ maxLen) (hs : SlC w w.heap.size a n xs) :
    Calls Tryz.prog 84 #[.slice a n cap] w fun e w' => e = .returned (.bool (cellsB xs)) ∧ Below w.heap.size w w' := by
  obtain ⟨hx, hs⟩ := hs
  unfold cellsB
  rw [hx]
  unfold maxLen at hn
  by_cases h6 : n = 6
  · subst h6
    rcases hs with hs | ⟨b, off, rfl, hb, h1⟩
    · omega
    · exact specCellsOk_six w b off cap xs hx h1 hb
  · have q : ((n : Int) == 6) = false := by simp; omega
    go_enter Tryz.func84, Tryz.ntmps84
    go_wp2
    go_ret
    exact ⟨ret_bool (by simp [h6]), Below.refl _ _⟩
end Go.Proofs.YtphpcgmnljhimaaGreat