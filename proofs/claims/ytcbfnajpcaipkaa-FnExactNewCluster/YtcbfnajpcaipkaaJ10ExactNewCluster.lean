/- OwnC; OwnR; OwnS; BoxG; KdG: joined. -/
import Derived.Test.YtcbfnajpcaipkaaRows
import Derived.Test.YtcbfnajpcaipkaaJ9ExactNewCluster
import Derived.Test.YtcbfnajpcaipkaaJ3ExactNewCluster
import Derived.WalkKit
import Derived.WalkSpells
import Derived.WalkLawsBesides
import Derived.Below
import Derived.Test.YtcbfnajpcaipkaaJ0ExactNewCluster
namespace Go.Proofs.Ytcbfnajpcaipkaa
open Go.RowKit
theorem partsOf {P : Program} {t : TypeId} {z : Value} {s b : Nat} (h : (P.info? t).map (fun i => (i.zero, i.size, i.bytes)) = some (some z, s, b)) : ∃ i, P.info? t = some i ∧ i.zero = some z ∧ i.size = s ∧ i.bytes = b := by
  obtain ⟨i, hi, hzz⟩ := Option.map_eq_some_iff.1 h
  simp only [Prod.mk.injEq] at hzz
  exact ⟨i, hi, hzz.1, hzz.2.1, hzz.2.2⟩
def S5.cellsL (s : S5) : List Value := [.int .i64 s.region, .int .i64 s.slot, .int .i64 s.value, .bool s.used, .int .i64 s.version]
structure TR (s : Nat) (k t r : Int) (u : Value) (X : World) : Prop where
  d0 : X.cell? ⟨s, 0, none⟩ = some (.int .i64 k)
  d1 : X.cell? ⟨s, 1, none⟩ = some (.int .i64 t)
  d2 : X.cell? ⟨s, 2, none⟩ = some (.int .i64 r)
  d3 : X.cell? ⟨s, 3, none⟩ = some u
  fd : ∀ j, X.frozen? ⟨s, j, none⟩ = false
  e0 : X.cell? ⟨s + 1, 0, none⟩ = some (.int .i64 0)
  e1 : X.cell? ⟨s + 1, 1, none⟩ = some (.int .i64 0)
  e2 : X.cell? ⟨s + 1, 2, none⟩ = some (.int .i64 0)
  e3 : X.cell? ⟨s + 1, 3, none⟩ = some (.slice none 0 0)
  fe : ∀ j, X.frozen? ⟨s + 1, j, none⟩ = false
theorem TR.keep {s : Nat} {k t r : Int} {u : Value} {X Y : World} (h : TR s k t r u X) (ea : Y.heap[s]? = X.heap[s]?) (eb : Y.heap[s + 1]? = X.heap[s + 1]?) : TR s k t r u Y := by
  have c : ∀ {b j : Nat} {u : Value}, Y.heap[b]? = X.heap[b]? → X.cell? ⟨b, j, none⟩ = some u → Y.cell? ⟨b, j, none⟩ = some u := fun {b j u} e h => (World.cell?_of_block (a := ⟨b, j, none⟩) e).trans h
  exact ⟨c ea h.d0, c ea h.d1, c ea h.d2, c ea h.d3, fun j => (World.frozen?_of_block (a := ⟨s, j, none⟩) ea).trans (h.fd j), c eb h.e0, c eb h.e1, c eb h.e2, c eb h.e3, fun j => (World.frozen?_of_block (a := ⟨s + 1, j, none⟩) eb).trans (h.fe j)⟩
theorem AtR.far {w : World} {q : Nat} {r : R4} (h : AtR w q r) {p : Addr} (hp : p.block ≠ q) (v : Value) : AtR (w.setCell p v) q r := AtR.of_block _ _ _ _ (Below.heap_setCell _ _ _ _ (fun e => hp e.symm)) h
def blocksG {α : Type} (v : Value) (rs : List α) (g : Nat → Nat) (q : Nat) : Prop := v.ownBlock = some q ∨ ∃ i, i < rs.length ∧ g i = q
theorem GrowG.blocks {α : Type} {T : TypeId} {sz : Nat} {hd : α → List Int} {ln : α → Nat} {At : World → Nat → α → Prop} {w : World} {base : Nat} {v : Value} {rs : List α} {g : Nat → Nat} (h : GrowG T sz hd ln At w base v rs g) {q : Nat} (hq : blocksG v rs g q) : base ≤ q ∧ q < w.heap.size := by
  rcases hq with hq | ⟨i, hi, rfl⟩
  · exact h.lies hq
  · exact ⟨h.low i hi, h.lt i hi⟩
theorem blocks_push {α : Type} {v v' : Value} {rs : List α} {r : α} {g : Nat → Nat} {q S : Nat} (hl : v'.ownBlock = v.ownBlock ∨ v'.ownBlock = some S) {x : Nat} (h : blocksG v' (rs ++ [r]) (fun i => if i = rs.length then q else g i) x) : blocksG v rs g x ∨ x = q ∨ x = S := by
  rcases h with h | ⟨i, hi, h⟩
  · rcases hl with e | e
    · rw [e] at h; exact .inl (.inl h)
    · rw [e] at h; exact .inr (.inr (Option.some.inj h).symm)
  · by_cases e : i = rs.length
    · simp only [if_pos e] at h; exact .inr (.inl h.symm)
    · simp only [if_neg e] at h
      simp at hi
      exact .inl (.inr ⟨i, by omega, h⟩)
structure MR (base p : Nat) (X : World) (vk vr vd : Value) (ks : List K2) (rs : List R4) (zs : List Int) (gk gr : Nat → Nat) : Prop where
  gK : GrowG 68 2 hdK lnK AtK X base vk ks gk
  gR : GrowG 126 4 hdR lnR AtR X base vr rs gr
  gD : X.ownsRow base 2 1 vd zs.length (zs.map (Value.int .i64))
  kr : ∀ q, blocksG vk ks gk q → ¬ blocksG vr rs gr q
  kd : ∀ q, blocksG vk ks gk q → vd.ownBlock ≠ some q
  rd : ∀ q, blocksG vr rs gr q → vd.ownBlock ≠ some q
  kp : ∀ q, blocksG vk ks gk q → q ≠ p
  rp : ∀ q, blocksG vr rs gr q → q ≠ p
  dp : vd.ownBlock ≠ some p
theorem MR.keep {base p : Nat} {X Y : World} {vk vr vd : Value} {ks : List K2} {rs : List R4} {zs : List Int} {gk gr : Nat → Nat} (h : MR base p X vk vr vd ks rs zs gk gr) (hs : X.heap.size ≤ Y.heap.size) (hk : ∀ q, q < X.heap.size → base ≤ q → q ≠ p → Y.heap[q]? = X.heap[q]?) : MR base p Y vk vr vd ks rs zs gk gr := by
  refine ⟨h.gK.keep AtK.of_block hs (fun q hq hb => hk q hq (h.gK.blocks hb).1 (h.kp q hb)), h.gR.keep AtR.of_block hs (fun q hq hb => hk q hq (h.gR.blocks hb).1 (h.rp q hb)), ⟨h.gD.1, h.gD.2.imp id ?_⟩, h.kr, h.kd, h.rd, h.kp, h.rp, h.dp⟩
  rintro ⟨q, cap, cur, rfl, l, hg, r⟩
  exact ⟨q, cap, cur, rfl, l, (hk q (World.ownsRow.lt h.gD q rfl).2 l (fun e => h.dp (by rw [← e]; rfl))).trans hg, r⟩
theorem MR.later {base p : Nat} {X Y : World} {vk vr vd : Value} {ks : List K2} {rs : List R4} {zs : List Int} {gk gr : Nat → Nat} (h : MR base p X vk vr vd ks rs zs gk gr) (hb : Below X.heap.size X Y) : MR base p Y vk vr vd ks rs zs gk gr := h.keep hb.size (fun q hq _ _ => hb.block q hq)
theorem MR.set {base p o : Nat} {X : World} {u : Value} {vk vr vd : Value} {ks : List K2} {rs : List R4} {zs : List Int} {gk gr : Nat → Nat} (h : MR base p X vk vr vd ks rs zs gk gr) : MR base p (X.setCell ⟨p, o, none⟩ u) vk vr vd ks rs zs gk gr := h.keep (by simp [World.setCell]) (fun q _ _ hp => Below.heap_setCell _ _ _ _ hp)
theorem MR.pushK {base p : Nat} {X W : World} {vk vr vd : Value} {ks : List K2} {rs : List R4} {zs : List Int} {gk gr : Nat → Nat} (h : MR base p X vk vr vd ks rs zs gk gr) (hb : Below X.heap.size X W) (hX : base ≤ X.heap.size) (hpX : p < X.heap.size) (k : K2) (q cap e : Nat) (hm : ks.length ≤ 100000) (ty : TypeId)
    (e0 : W.cell? ⟨e, 0, none⟩ = some (.int .i64 k.region)) (e1 : W.cell? ⟨e, 1, none⟩ = some (.slice (some ⟨q, 0, none⟩) k.cells.length cap)) (hat : AtK W q k) (hc : k.cells.length ≤ cap) (hq : X.heap.size ≤ q) (hql : q < W.heap.size) :
    ∃ v' Y, (Builtin.append_ #[57, 57] ty #[vk, .slice (some ⟨e, 0, none⟩) 1 1]).run Try.prog W = .ok v' Y ∧ MR base p Y v' vr vd (ks ++ [k]) rs zs (fun i => if i = ks.length then q else gk i) gr ∧ W.grownBy Y vk.ownBlock ∧ (∀ x, vk.ownBlock = some x → base ≤ x ∧ x < X.heap.size ∧ x ≠ p) := by
  have hW := h.later hb
  obtain ⟨i0, hi0, hz0, hz1, hz2⟩ := partsOf info_cops
  have old : ∀ x, blocksG vk ks gk x → x < X.heap.size := fun x hx => (h.gK.blocks hx).2
  obtain ⟨v', Y, hr, hg, hgr, hl⟩ := GrowG.push (hd := hdK) (ln := lnK) (sz := 2) (e := e) AtK.of_block (fun _ => rfl) Try.underlying57 hi0 hz0 hz1 hz2 rfl (by omega) hW.gK k q cap hm ty (fun j u hu => by
    rcases j with _ | _ | j
    · simp [cellsG, hdK] at hu; subst hu; exact e0
    · simp [cellsG, hdK, lnK] at hu; subst hu; exact e1
    · simp [cellsG, hdK] at hu) hat hc (by omega) hql (fun e' => by have := old q (.inl e'); omega) (fun i hi e' => by have := old q (.inr ⟨i, hi, e'⟩); omega) (Nat.le_trans hX hb.size)
  have new : ∀ x, blocksG v' (ks ++ [k]) (fun i => if i = ks.length then q else gk i) x → blocksG vk ks gk x ∨ X.heap.size ≤ x := fun x hx => by
    rcases blocks_push hl hx with h | h | h
    · exact .inl h
    · exact .inr (by omega)
    · exact .inr (by have := hb.size; omega)
  have fR : ∀ x, x < W.heap.size → vk.ownBlock ≠ some x → Y.heap[x]? = W.heap[x]? := fun x hx hne => hgr.block x hx (fun e' => hne e'.symm)
  refine ⟨v', Y, hr, ⟨hg, hW.gR.keep AtR.of_block hgr.size (fun x hx hbx => fR x hx (fun e' => h.kr x (.inl e') hbx)), ⟨hW.gD.1, hW.gD.2.imp id ?_⟩, fun x hx hbx => ?_, fun x hx hbx => ?_, h.rd, fun x hx hbx => ?_, h.rp, h.dp⟩, hgr, fun x hx => ⟨(h.gK.lies hx).1, (h.gK.lies hx).2, h.kp x (.inl hx)⟩⟩
  · rintro ⟨x, cp, cur, rfl, l, hgg, r⟩
    exact ⟨x, cp, cur, rfl, l, (fR x (World.ownsRow.lt hW.gD x rfl).2 (fun e' => h.kd x (.inl e') rfl)).trans hgg, r⟩
  · rcases new x hx with hn | hn
    · exact h.kr x hn hbx
    · have := (h.gR.blocks hbx).2; omega
  · rcases new x hx with hn | hn
    · exact h.kd x hn hbx
    · have := (World.ownsRow.lt h.gD x hbx).2; omega
  · rcases new x hx with hn | hn
    · exact h.kp x hn hbx
    · omega
theorem MR.om {base p : Nat} {X : World} {v : MV} {m : M4} {gk gr : Nat → Nat} (h : MR base p X (.slice v.ac m.copies.length v.cc) (.slice v.al m.log.length v.cl) (.slice v.ad m.cleared.length v.cd) m.copies m.log m.cleared gk gr) :
    OM X base v m (blocksG (.slice v.ac m.copies.length v.cc) m.copies gk) (blocksG (.slice v.al m.log.length v.cl) m.log gr) (fun q => (Value.slice v.ad m.cleared.length v.cd).ownBlock = some q) := by
  refine ⟨?_, ?_, ?_, h.kr, h.kd, h.rd, fun q hq => (h.gK.blocks hq).1, fun q hq => (h.gR.blocks hq).1, fun q hq => (World.ownsRow.lt h.gD q hq).1⟩
  · by_cases e : m.copies = []
    · exact .inl e
    · obtain ⟨b, cap, ev, h1, h2, h3, h4, h5⟩ := GrowG.own (hd := hdK) (sz := 2) (fun _ => rfl) h.gK e
      have ea : v.ac = some ⟨b, 0, none⟩ := by injection ev
      exact .inr ⟨b, gk, ea, .inl (by rw [ea]; rfl), fun i hi => .inr ⟨i, hi, rfl⟩, h2, h4, h5.base⟩
  · by_cases e : m.log = []
    · exact .inl e
    · obtain ⟨b, cap, ev, h1, h2, h3, h4, h5⟩ := GrowG.own (hd := hdR) (sz := 4) (fun _ => rfl) h.gR e
      have ea : v.al = some ⟨b, 0, none⟩ := by injection ev
      exact .inr ⟨b, gr, ea, .inl (by rw [ea]; rfl), fun i hi => .inr ⟨i, hi, rfl⟩, h2, h4, h5.base⟩
  · by_cases e : m.cleared = []
    · exact .inl e
    · have hpos : 0 < m.cleared.length := List.length_pos_iff.2 e
      obtain ⟨b, cap, ev, h1, h2⟩ := World.ownsRow.form h.gD hpos
      have ea : v.ad = some ⟨b, 0, none⟩ := by injection ev
      have ec : v.cd = cap := by injection ev
      have hg := h.gD
      rw [ea] at hg
      refine .inr ⟨b, ea, by rw [ea]; rfl, h2, fun i z ez => ?_, fun j hj => ⟨.int .i64 (m.cleared[j]'hj), ?_, World.ownsRow.frozenAt hg j⟩⟩
      · have hi := (List.getElem?_eq_some_iff.1 ez).1
        rw [Nat.zero_add, World.ownsRow.cellAt hg i (by omega), List.getElem?_map, ez]; rfl
      · rw [World.ownsRow.cellAt hg j (by omega), List.getElem?_map, List.getElem?_eq_getElem hj]; rfl
theorem bstep {A X Y : World} (h : Below A.heap.size A X) (b : Below X.heap.size X Y) : Below A.heap.size A Y := h.trans (b.mono h.size)
def Bx (X : World) (s : Nat) (cs : List Value) : Prop := (∀ j u, cs[j]? = some u → X.cell? ⟨s, j, none⟩ = some u) ∧ (∀ j, X.frozen? ⟨s, j, none⟩ = false) ∧ s < X.heap.size
theorem Bx.of_block {X Y : World} {s : Nat} {cs : List Value} (h : Bx X s cs) (hb : Y.heap[s]? = X.heap[s]?) (hs : X.heap.size ≤ Y.heap.size) : Bx Y s cs :=
  ⟨fun j u e => (World.cell?_of_block (a := ⟨s, j, none⟩) hb).trans (h.1 j u e), fun j => (World.frozen?_of_block (a := ⟨s, j, none⟩) hb).trans (h.2.1 j), Nat.lt_of_lt_of_le h.2.2 hs⟩
theorem Bx.later {X Y : World} {s : Nat} {cs : List Value} (h : Bx X s cs) (hb : Below X.heap.size X Y) : Bx Y s cs := h.of_block (hb.block _ h.2.2) hb.size
theorem Bx.under {X Y : World} {B s : Nat} {cs : List Value} (h : Bx X s cs) (hb : Below B X Y) (hs : s < B) : Bx Y s cs := h.of_block (hb.block _ hs) hb.size
theorem Bx.far {X : World} {s b o : Nat} {cs : List Value} (h : Bx X s cs) (hb : s ≠ b) (u : Value) : Bx (X.setCell ⟨b, o, none⟩ u) s cs := h.of_block (Below.heap_setCell _ _ _ _ hb) (by simp [World.setCell])
theorem Bx.set {X : World} {s i : Nat} {cs : List Value} (h : Bx X s cs) (hi : i < cs.length) (u : Value) : Bx (X.setCell ⟨s, i, none⟩ u) s (cs.set i u) := by
  refine ⟨fun j v e => ?_, fun j => by rw [World.frozen?_setCell]; exact h.2.1 j, by simpa [World.setCell] using h.2.2⟩
  by_cases hj : i = j
  · subst hj
    rw [List.getElem?_set_self hi] at e
    obtain rfl := Option.some.inj e
    exact cell_set_same (h.1 i _ (List.getElem?_eq_getElem hi))
  · rw [List.getElem?_set_ne hj] at e
    exact (cell_set_other (by omega)).trans (h.1 j v e)
def putB (X : World) (s : Nat) : Nat → List Value → World
  | _, [] => X
  | i, c :: cs => putB (X.setCell ⟨s, i, none⟩ c) s (i + 1) cs
theorem putB_size (s : Nat) (cs : List Value) : ∀ (X : World) (i : Nat), (putB X s i cs).heap.size = X.heap.size := by
  induction cs with
  | nil => intro X i; rfl
  | cons c cs ih => intro X i; rw [putB, ih]; simp [World.setCell]
theorem putB_block {s q : Nat} (hq : q ≠ s) (cs : List Value) : ∀ (X : World) (i : Nat), (putB X s i cs).heap[q]? = X.heap[q]? := by
  induction cs with
  | nil => intro X i; rfl
  | cons c cs ih => intro X i; rw [putB, ih]; exact Below.heap_setCell _ _ _ _ hq
theorem putB_below {B s : Nat} {w : World} (hs : B ≤ s) (cs : List Value) : ∀ (X : World) (i : Nat), Below B w X → Below B w (putB X s i cs) := by
  induction cs with
  | nil => intro X i h; exact h
  | cons c cs ih => intro X i h; exact ih _ _ (h.setCell (p := ⟨s, i, none⟩) hs _)
theorem putB_frozen {s q j : Nat} (cs : List Value) : ∀ (X : World) (i : Nat), (putB X s i cs).frozen? ⟨q, j, none⟩ = X.frozen? ⟨q, j, none⟩ := by
  induction cs with
  | nil => intro X i; rfl
  | cons c cs ih => intro X i; rw [putB, ih, World.frozen?_setCell]
theorem putB_low {s j : Nat} (cs : List Value) : ∀ (X : World) (i : Nat), j < i → (putB X s i cs).cell? ⟨s, j, none⟩ = X.cell? ⟨s, j, none⟩ := by
  induction cs with
  | nil => intro X i _; rfl
  | cons c cs ih => intro X i h; rw [putB, ih _ _ (by omega)]; exact cell_set_other (by omega)
theorem putB_cell {s : Nat} (cs : List Value) : ∀ (X : World) (i : Nat), (∀ j, i ≤ j → j < i + cs.length → ∃ v, X.cell? ⟨s, j, none⟩ = some v) → ∀ j u, cs[j]? = some u → (putB X s i cs).cell? ⟨s, i + j, none⟩ = some u := by
  induction cs with
  | nil => intro X i _ j u e; simp at e
  | cons c cs ih =>
    intro X i h j u e
    rw [putB]
    rcases j with _ | j
    · simp at e
      subst e
      obtain ⟨v, hv⟩ := h i (Nat.le_refl _) (by simp)
      rw [Nat.add_zero, putB_low _ _ _ (by omega)]
      exact cell_set_same hv
    · have := ih (X.setCell ⟨s, i, none⟩ c) (i + 1) (fun j h1 h2 => by
        obtain ⟨v, hv⟩ := h j (by omega) (by simp only [List.length_cons]; omega)
        exact ⟨v, (cell_set_other (by omega)).trans hv⟩) j u (by simpa using e)
      rwa [show i + 1 + j = i + (j + 1) by omega] at this
theorem Bx.put {X : World} {s : Nat} {cs0 : List Value} (h : Bx X s cs0) (cs : List Value) (hl : cs.length = cs0.length) : Bx (putB X s 0 cs) s cs := by
  refine ⟨fun j u e => ?_, fun j => by rw [putB_frozen]; exact h.2.1 j, by rw [putB_size]; exact h.2.2⟩
  have := putB_cell (s := s) cs X 0 (fun j _ h2 => ⟨_, h.1 j _ (List.getElem?_eq_getElem (by omega))⟩) j u e
  rwa [Nat.zero_add] at this
theorem Bx.made (X : World) (cs : List Value) (T : TypeId) : Bx (X.alloc (.cells cs.toArray T)) X.heap.size cs := ⟨fun j u e => by go_simp, fun j => by go_simp, by simp⟩
theorem room_blk {w w' : World} {b m : Nat} (h : Room w b m) (e : w'.heap[b]? = w.heap[b]?) : Room w' b m := fun j hj => by
  obtain ⟨v, h1, h2⟩ := h j hj
  exact ⟨v, (World.cell?_of_block (a := ⟨b, j, none⟩) e).trans h1, (World.frozen?_of_block (a := ⟨b, j, none⟩) e).trans h2⟩
def At (X : World) (b o : Nat) (cs : List Value) : Prop := ∀ j u, cs[j]? = some u → X.cell? ⟨b, o + j, none⟩ = some u
theorem At.of_block {X Y : World} {b o : Nat} {cs : List Value} (h : At X b o cs) (e : Y.heap[b]? = X.heap[b]?) : At Y b o cs := fun j u hu => (World.cell?_of_block (a := ⟨b, o + j, none⟩) e).trans (h j u hu)
structure Kd (D V : Type) where
  n : Nat
  cells : V → D → List Value
  len : ∀ v d, (cells v d).length = n
  Rd : World → V → D → Prop
  Ow : World → Nat → V → D → (Nat → Prop) → Prop
  later : ∀ {w w' : World} {v : V} {d : D}, Rd w v d → Below w.heap.size w w' → Rd w' v d
  sl : ∀ {w : World} {B : Nat} {v : V} {d : D} {P : Nat → Prop}, Ow w B v d P → Rd w v d
  of : ∀ {w : World} {B : Nat} {v : V} {d : D} {P : Nat → Prop} {q : Nat}, Ow w B v d P → P q → B ≤ q ∧ q < w.heap.size
  keep : ∀ {w w' : World} {B : Nat} {v : V} {d : D} {P : Nat → Prop}, Ow w B v d P → w.heap.size ≤ w'.heap.size → (∀ q, P q → w'.heap[q]? = w.heap[q]?) → Ow w' B v d P
  low : ∀ {w : World} {B B' : Nat} {v : V} {d : D} {P : Nat → Prop}, Ow w B v d P → B' ≤ B → Ow w B' v d P
def Kd.RdS {D V : Type} (K : Kd D V) (X : World) (a : Option Addr) (xs : List D) : Prop := xs = [] ∨ ∃ b off, a = some ⟨b, off, none⟩ ∧ b < X.heap.size ∧ ∀ i d, xs[i]? = some d → ∃ v, At X b (off + i * K.n) (K.cells v d) ∧ K.Rd X v d
theorem Kd.RdS.later {D V : Type} {K : Kd D V} {X Y : World} {a : Option Addr} {xs : List D} (h : K.RdS X a xs) (hb : Below X.heap.size X Y) : K.RdS Y a xs := by
  rcases h with h | ⟨b, off, e, hl, h⟩
  · exact .inl h
  · refine .inr ⟨b, off, e, Nat.lt_of_lt_of_le hl hb.size, fun i d hi => ?_⟩
    obtain ⟨v, h1, h2⟩ := h i d hi
    exact ⟨v, h1.of_block (hb.block b hl), K.later h2 hb⟩
structure Kd.Part {D V : Type} (K : Kd D V) (X : World) (B b n : Nat) (ys : List D) (g : Nat → Nat → Prop) : Prop where
  rm : Room X b (n * K.n)
  at_ : ∀ i d, ys[i]? = some d → ∃ v, At X b (i * K.n) (K.cells v d) ∧ K.Ow X B v d (g i)
  ne : ∀ i q, i < ys.length → g i q → q ≠ b
  ap : ∀ i j q, i < ys.length → j < ys.length → i ≠ j → g i q → ¬ g j q
theorem Kd.Part.gq {D V : Type} {K : Kd D V} {X : World} {B b n : Nat} {ys : List D} {g : Nat → Nat → Prop} (h : K.Part X B b n ys g) {i q : Nat} (hi : i < ys.length) (hq : g i q) : B ≤ q ∧ q < X.heap.size := by
  obtain ⟨v, _, ho⟩ := h.at_ i _ (List.getElem?_eq_getElem hi)
  exact K.of ho hq
theorem Kd.Part.keep {D V : Type} {K : Kd D V} {X Y : World} {B b n : Nat} {ys : List D} {g : Nat → Nat → Prop} (h : K.Part X B b n ys g) (hs : X.heap.size ≤ Y.heap.size) (hb : Y.heap[b]? = X.heap[b]?) (hk : ∀ i q, i < ys.length → g i q → Y.heap[q]? = X.heap[q]?) : K.Part Y B b n ys g := by
  refine ⟨room_blk h.rm hb, fun i d hi => ?_, h.ne, h.ap⟩
  obtain ⟨v, h1, h2⟩ := h.at_ i d hi
  exact ⟨v, h1.of_block hb, K.keep h2 hs (fun q hq => hk i q (List.getElem?_eq_some_iff.1 hi).1 hq)⟩
theorem Kd.Part.later {D V : Type} {K : Kd D V} {X Y : World} {B b n : Nat} {ys : List D} {g : Nat → Nat → Prop} (h : K.Part X B b n ys g) (hb : Below X.heap.size X Y) (hl : b < X.heap.size) : K.Part Y B b n ys g := h.keep hb.size (hb.block b hl) (fun _ q hi hq => hb.block q (h.gq hi hq).2)
theorem Kd.Part.nil {D V : Type} (K : Kd D V) {X : World} {B b n : Nat} (g : Nat → Nat → Prop) (h : Room X b (n * K.n)) : K.Part X B b n [] g := ⟨h, fun i d hi => by simp at hi, fun i q hi => by simp at hi, fun i j q hi => by simp at hi⟩
theorem putB_out {s j : Nat} (cs : List Value) : ∀ (X : World) (i : Nat), (j < i ∨ i + cs.length ≤ j) → (putB X s i cs).cell? ⟨s, j, none⟩ = X.cell? ⟨s, j, none⟩ := by
  induction cs with
  | nil => intro X i _; rfl
  | cons c cs ih => intro X i h; simp only [List.length_cons] at h; rw [putB, ih _ _ (by omega)]; exact cell_set_other (by omega)
theorem putB_room {b m : Nat} (cs : List Value) : ∀ (X : World) (i : Nat), Room X b m → Room (putB X b i cs) b m := by
  induction cs with
  | nil => intro X i h; exact h
  | cons c cs ih => intro X i h; exact ih _ _ (h.set _)
theorem Kd.Part.push {D V : Type} {K : Kd D V} {X : World} {B b n : Nat} {ys : List D} {g : Nat → Nat → Prop} (h : K.Part X B b n ys g) (hn : ys.length < n) (v : V) (d : D) (P : Nat → Prop) (ho : K.Ow X B v d P) (hne : ∀ q, P q → q ≠ b) (hap : ∀ i q, i < ys.length → g i q → ¬ P q) :
    K.Part (putB X b (ys.length * K.n) (K.cells v d)) B b n (ys ++ [d]) (fun i => if i = ys.length then P else g i) := by
  have hc : ys.length * K.n + K.n ≤ n * K.n := by rw [← Nat.succ_mul]; exact Nat.mul_le_mul_right _ hn
  have hs : (putB X b (ys.length * K.n) (K.cells v d)).heap.size = X.heap.size := putB_size _ _ _ _
  have hk : ∀ q, q ≠ b → (putB X b (ys.length * K.n) (K.cells v d)).heap[q]? = X.heap[q]? := fun q hq => putB_block hq _ _ _
  refine ⟨putB_room _ _ _ h.rm, fun i e hi => ?_, fun i q hi hq => ?_, fun i j q hi hj hij h1 h2 => ?_⟩
  · by_cases hl : i < ys.length
    · rw [List.getElem?_append_left hl] at hi
      obtain ⟨v', h1, h2⟩ := h.at_ i e hi
      have e0 : i ≠ ys.length := by omega
      refine ⟨v', fun j u hu => ?_, by simp only [if_neg e0]; exact K.keep h2 (Nat.le_of_eq hs.symm) (fun q hq => hk q (h.ne i q hl hq))⟩
      have hj : j < K.n := by have := (List.getElem?_eq_some_iff.1 hu).1; rwa [K.len] at this
      have hm : i * K.n + K.n ≤ ys.length * K.n := by rw [← Nat.succ_mul]; exact Nat.mul_le_mul_right _ hl
      exact (putB_out _ _ _ (by omega)).trans (h1 j u hu)
    · have he : i = ys.length := by
        have := (List.getElem?_eq_some_iff.1 hi).1
        simp at this; omega
      subst he
      rw [List.getElem?_append_right (Nat.le_refl _)] at hi
      simp at hi
      subst hi
      refine ⟨v, fun j u hu => ?_, by simp only [if_pos]; exact K.keep ho (Nat.le_of_eq hs.symm) (fun q hq => hk q (hne q hq))⟩
      refine putB_cell _ _ _ (fun j h1 h2 => ?_) j u hu
      rw [K.len] at h2
      obtain ⟨z, hz, _⟩ := h.rm j (by omega)
      exact ⟨z, hz⟩
  · by_cases e : i = ys.length
    · simp only [if_pos e] at hq; exact hne q hq
    · simp only [if_neg e] at hq; simp at hi; exact h.ne i q (by omega) hq
  · simp only [List.length_append, List.length_cons, List.length_nil] at hi hj
    by_cases e1 : i = ys.length
    · by_cases e2 : j = ys.length
      · omega
      · simp only [if_pos e1] at h1; simp only [if_neg e2] at h2; exact hap j q (by omega) h2 h1
    · by_cases e2 : j = ys.length
      · simp only [if_neg e1] at h1; simp only [if_pos e2] at h2; exact hap i q (by omega) h1 h2
      · simp only [if_neg e1] at h1; simp only [if_neg e2] at h2; exact h.ap i j q (by omega) (by omega) hij h1 h2
def Kd.OwS {D V : Type} (K : Kd D V) (X : World) (B : Nat) (a : Option Addr) (xs : List D) (P : Nat → Prop) : Prop := (xs = [] ∨ ∃ b g, a = some ⟨b, 0, none⟩ ∧ P b ∧ K.Part X B b xs.length xs g ∧ (∀ i q, i < xs.length → g i q → P q)) ∧ (∀ q, P q → B ≤ q ∧ q < X.heap.size)
theorem Kd.OwS.of {D V : Type} {K : Kd D V} {X : World} {B : Nat} {a : Option Addr} {xs : List D} {P : Nat → Prop} (h : K.OwS X B a xs P) {q : Nat} (hq : P q) : B ≤ q ∧ q < X.heap.size := h.2 q hq
theorem Kd.OwS.sl {D V : Type} {K : Kd D V} {X : World} {B : Nat} {a : Option Addr} {xs : List D} {P : Nat → Prop} (h : K.OwS X B a xs P) : K.RdS X a xs := by
  rcases h with ⟨h | ⟨b, g, e, hp, h, _⟩, hb⟩
  · exact .inl h
  · refine .inr ⟨b, 0, e, (hb b hp).2, fun i d hi => ?_⟩
    obtain ⟨v, h1, h2⟩ := h.at_ i d hi
    exact ⟨v, by rw [Nat.zero_add]; exact h1, K.sl h2⟩
theorem Kd.OwS.keep {D V : Type} {K : Kd D V} {X Y : World} {B : Nat} {a : Option Addr} {xs : List D} {P : Nat → Prop} (h : K.OwS X B a xs P) (hs : X.heap.size ≤ Y.heap.size) (hk : ∀ q, P q → Y.heap[q]? = X.heap[q]?) : K.OwS Y B a xs P := by
  rcases h with ⟨h | ⟨b, g, e, hp, h, hg⟩, hb⟩
  · exact ⟨.inl h, fun q hq => ⟨(hb q hq).1, Nat.lt_of_lt_of_le (hb q hq).2 hs⟩⟩
  · exact ⟨.inr ⟨b, g, e, hp, h.keep hs (hk b hp) (fun i q hi hq => hk q (hg i q hi hq)), hg⟩, fun q hq => ⟨(hb q hq).1, Nat.lt_of_lt_of_le (hb q hq).2 hs⟩⟩
theorem Kd.OwS.later {D V : Type} {K : Kd D V} {X Y : World} {B : Nat} {a : Option Addr} {xs : List D} {P : Nat → Prop} (h : K.OwS X B a xs P) (hb : Below X.heap.size X Y) : K.OwS Y B a xs P := h.keep hb.size (fun q hq => hb.block q (h.of hq).2)
theorem Kd.OwS.low {D V : Type} {K : Kd D V} {X : World} {B B' : Nat} {a : Option Addr} {xs : List D} {P : Nat → Prop} (h : K.OwS X B a xs P) (hb : B' ≤ B) : K.OwS X B' a xs P := by
  rcases h with ⟨h | ⟨b, g, e, hp, h, hg⟩, hq⟩
  · exact ⟨.inl h, fun q h' => ⟨Nat.le_trans hb (hq q h').1, (hq q h').2⟩⟩
  · refine ⟨.inr ⟨b, g, e, hp, ⟨h.rm, fun i d hi => ?_, h.ne, h.ap⟩, hg⟩, fun q h' => ⟨Nat.le_trans hb (hq q h').1, (hq q h').2⟩⟩
    obtain ⟨v, h1, h2⟩ := h.at_ i d hi
    exact ⟨v, h1, K.low h2 hb⟩
theorem Kd.Part.own {D V : Type} {K : Kd D V} {X : World} {B b : Nat} {xs : List D} {g : Nat → Nat → Prop} (h : K.Part X B b xs.length xs g) (hB : B ≤ b) (hb : b < X.heap.size) : K.OwS X B (some ⟨b, 0, none⟩) xs (fun q => q = b ∨ ∃ i, i < xs.length ∧ g i q) :=
  ⟨.inr ⟨b, g, rfl, .inl rfl, h, fun i q hi hq => .inr ⟨i, hi, hq⟩⟩, fun q hq => by rcases hq with rfl | ⟨i, hi, hq⟩; exact ⟨hB, hb⟩; exact h.gq hi hq⟩
end Go.Proofs.Ytcbfnajpcaipkaa