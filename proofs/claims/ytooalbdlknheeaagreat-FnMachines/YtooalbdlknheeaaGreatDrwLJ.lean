/- What the specification's draw of a machine does: some machine that can be read; nothing but the cursor is turned. -/
import Derived.Test.YtooalbdlknheeaaGreatRows
import Derived.Test.YtooalbdlknheeaaGreatJ32LawMachines
import Derived.Test.YtooalbdlknheeaaGreatDrwRJ
import Derived.Test.YtooalbdlknheeaaGreatOks2J
import Derived.Test.YtooalbdlknheeaaGreatUntZ
import Derived.WalkKit
import Derived.WalkSpells
import Derived.WalkLawsBesides
import Derived.Below
import Derived.Deep.CutRange
namespace Go.Proofs.YtooalbdlknheeaaGreat
open Go.RowKit
theorem owns_slice' {W : World} {base n sz : Nat} {v : Value} {T : TypeId} {xs : List Value} (h : W.ownsRow base T sz v n xs) : ∃ a c, v = .slice a n c := by
  rcases h.2 with ⟨rfl, rfl⟩ | ⟨q, cap, cur, rfl, _⟩
  · exact ⟨none, 0, rfl⟩
  · exact ⟨_, cap, rfl⟩
/-- A machine that was drawn: it can be read as long as the blocks that the draw made stay. -/
def DrawnM (w : World) (c : Nat) (a : Option Addr) (n k : Nat) (e : Ending) (w' : World) : Prop :=
  ∃ (v : MV) (m : M4), e = .returned (v.val m) ∧ (∀ Y, w'.heap.size ≤ Y.heap.size → (∀ q, w.heap.size < q → q < w'.heap.size → Y.heap[q]? = w'.heap[q]?) → SlM Y v m) ∧ ML m ∧ Cur w' c a n k ∧ Turned c w w'
theorem MR.keepB {base p : Nat} {X Y : World} {vk vr vd : Value} {ks : List K2} {rs : List R4} {zs : List Int} {gk gr : Nat → Nat} (h : MR base p X vk vr vd ks rs zs gk gr) (hs : X.heap.size ≤ Y.heap.size) (hk : ∀ x, (blocksG vk ks gk x ∨ blocksG vr rs gr x ∨ vd.ownBlock = some x) → Y.heap[x]? = X.heap[x]?) : MR base p Y vk vr vd ks rs zs gk gr :=
  ⟨h.gK.keep AtK.of_block hs (fun q _ hb => hk q (.inl hb)), h.gR.keep AtR.of_block hs (fun q _ hb => hk q (.inr (.inl hb))), owns_keep h.gD (fun q e => hk q (.inr (.inr e))), h.kr, h.kd, h.rd, h.kp, h.rp, h.dp⟩
/-- A block that is none of the machine's is turned. -/
theorem DI.far {w : World} {c Q : Nat} {a : Option Addr} {n k : Nat} {alive : Bool} {vk vr vd : Value} {ks : List K2} {rs : List R4} {zs : List Int} {gk gr : Nat → Nat} {X : World} (h : DI w c Q a n k alive vk vr vd ks rs zs gk gr X) {b : Nat} (hb : ∀ x, (blocksG vk ks gk x ∨ blocksG vr rs gr x ∨ vd.ownBlock = some x) → x ≠ b) (hQ : Q ≠ b) (hA : w.heap.size < b) (o : Nat) (u : Value) : DI w c Q a n k alive vk vr vd ks rs zs gk gr (X.setCell ⟨b, o, none⟩ u) := by
  obtain ⟨l1, l2, l3⟩ := h.lq
  have hc : ∀ j, (X.setCell ⟨b, o, none⟩ u).cell? ⟨Q, j, none⟩ = X.cell? ⟨Q, j, none⟩ := fun j => World.cell?_of_block (a := ⟨Q, j, none⟩) (Below.heap_setCell _ _ _ _ hQ)
  exact ⟨(Below.heap_setCell _ _ _ _ (by show w.heap.size ≠ b; omega)).trans h.z, (hc 0).trans h.a0, (hc 1).trans h.a1, (hc 2).trans h.a2, (hc 3).trans h.a3, fun j => by rw [World.frozen?_setCell]; exact h.af j, h.mr.keepB (by simp [World.setCell]) (fun x hx => Below.heap_setCell _ _ _ _ (hb x hx)), h.cu.put (by omega) _ _, h.tu.put (by omega) _ _, ⟨l1, by simpa [World.setCell] using l2, l3⟩, h.ml⟩
/-- The machine is answered. -/
theorem DI.fin {w : World} {c Q : Nat} {a : Option Addr} {n k : Nat} {alive : Bool} {ac : Option Addr} {cc : Nat} {al : Option Addr} {cl : Nat} {ad : Option Addr} {cd : Nat} {ks : List K2} {rs : List R4} {zs : List Int} {gk gr : Nat → Nat} {X : World} (h : DI w c Q a n k alive (.slice ac ks.length cc) (.slice al rs.length cl) (.slice ad zs.length cd) ks rs zs gk gr X) (x0 x1 x2 x3 : Value) :
    DrawnM w c a n k (.returned (.agg #[.bool alive, .slice ac ks.length cc, .slice al rs.length cl, .slice ad zs.length cd])) ((((X.setCell ⟨w.heap.size, 0, none⟩ x0).setCell ⟨w.heap.size, 1, none⟩ x1).setCell ⟨w.heap.size, 2, none⟩ x2).setCell ⟨w.heap.size, 3, none⟩ x3) := by
  obtain ⟨l1, l2, l3⟩ := h.lq
  have hcn : w.heap.size ≠ c := by omega
  refine ⟨⟨ac, cc, al, cl, ad, cd⟩, ⟨alive, ks, rs, zs⟩, rfl, fun Y hYs hY => ?_, h.ml, (((h.cu.put hcn _ _).put hcn _ _).put hcn _ _).put hcn _ _, (((h.tu.put (Nat.le_refl _) _ _).put (Nat.le_refl _) _ _).put (Nat.le_refl _) _ _).put (Nat.le_refl _) _ _⟩
  have hm : MR (w.heap.size + 1) Q Y (.slice ac ks.length cc) (.slice al rs.length cl) (.slice ad zs.length cd) ks rs zs gk gr := by
    refine h.mr.keep (by simpa [World.setCell] using hYs) (fun q h1 h2 _ => ?_)
    have hq : q ≠ w.heap.size := by omega
    exact (hY q (by omega) (by simpa [World.setCell] using h1)).trans ((Below.heap_setCell _ _ _ _ hq).trans ((Below.heap_setCell _ _ _ _ hq).trans ((Below.heap_setCell _ _ _ _ hq).trans (Below.heap_setCell _ _ _ _ hq))))
  exact (MR.om (v := ⟨ac, cc, al, cl, ad, cd⟩) (m := ⟨alive, ks, rs, zs⟩) hm).sl
theorem owns_mono' {W : World} {base base' n sz : Nat} {v : Value} {T : TypeId} {xs : List Value} (h : W.ownsRow base T sz v n xs) (hb : base' ≤ base) : W.ownsRow base' T sz v n xs := by
  obtain ⟨h1, h2⟩ := h
  refine ⟨h1, h2.imp id ?_⟩
  rintro ⟨g, cap, cur, rfl, r1, r2⟩
  exact ⟨g, cap, cur, rfl, Nat.le_trans hb r1, r2⟩
theorem MR.emptyR {base p b : Nat} {X : World} {vk vr vd : Value} {ks : List K2} {rs : List R4} {zs : List Int} {gk gr : Nat → Nat} (h : MR base p X vk vr vd ks rs zs gk gr) (hr : X.ownsRow base 41 4 (.slice (some ⟨b, 0, none⟩) 0 0) 0 []) (hf : ∀ x, (blocksG vk ks gk x ∨ vd.ownBlock = some x) → x ≠ b) (hp : p ≠ b) : MR base p X vk (.slice (some ⟨b, 0, none⟩) 0 0) vd ks [] zs gk gz := by
  have nb : ∀ x, blocksG (.slice (some ⟨b, 0, none⟩) 0 0) ([] : List R4) gz x → b = x := fun x hx => by
    rcases hx with hx | ⟨i, hi, _⟩
    · exact Option.some.inj hx
    · simp at hi
  exact ⟨h.gK, ⟨⟨fun _ => 0, by simpa [flatG] using hr, fun i r e => by simp at e⟩, (fun i hi => by simp at hi), (fun i hi => by simp at hi), (fun i hi => by simp at hi), (fun i r e => by simp at e), fun i j hi => by simp at hi⟩, h.gD, fun q hq hq' => hf q (.inl hq) (nb q hq').symm, h.kd, fun q hq e => hf q (.inr e) (nb q hq).symm, h.kp, fun q hq e => hp (by rw [← e]; exact (nb q hq).symm), h.dp⟩
theorem new_inI (w : World) (zs : List Int) (t : TypeId) (i : Nat) (hi : i < zs.length) : ∃ x : Int, (w.alloc (.cells (zs.map fun z => Value.int .i64 z).toArray t)).cell? ⟨w.heap.size, i, none⟩ = some (.int .i64 x) := by
  refine ⟨zs[i], ?_⟩
  rw [World.cell?_alloc_new]
  simp [hi]
theorem new_in_turnedI {w w' : World} {c : Nat} (zs : List Int) (t : TypeId) (hc : c < w.heap.size) (ht : Turned c (w.alloc (.cells (zs.map fun z => Value.int .i64 z).toArray t)) w') (i : Nat) (hi : i < zs.length) : ∃ x : Int, w'.cell? ⟨w.heap.size, i, none⟩ = some (.int .i64 x) := by
  obtain ⟨x, hx⟩ := new_inI w zs t i hi
  exact ⟨x, (World.cell?_of_block (a := ⟨w.heap.size, i, none⟩) (ht.block w.heap.size (by simp) (by omega))).trans hx⟩
theorem pushAny {W : World} {base n : Nat} {v : Value} {xs : List Value} (h : W.ownsRow base 97 2 v n xs) (u0 u1 : Value) (hm : n + 1 ≤ 1048576) (ty : TypeId) (e : Nat) (e0 : W.cell? ⟨e, 0, none⟩ = some u0) (e1 : W.cell? ⟨e, 1, none⟩ = some u1) (h0 : u0.oneCell' = true) (h1 : u1.oneCell' = true) (hbase : base ≤ W.heap.size) :
    ∃ a' c' Y, (Builtin.append_ #[24, 24] ty #[v, .slice (some ⟨e, 0, none⟩) 1 1]).run Tryz.prog W = .ok (.slice a' (n + 1) c') Y ∧ Y.ownsRow base 97 2 (.slice a' (n + 1) c') (n + 1) (xs ++ [u0, u1]) ∧ W.grownBy Y v.ownBlock ∧ ((Value.slice a' (n + 1) c').ownBlock = v.ownBlock ∨ (Value.slice a' (n + 1) c').ownBlock = some W.heap.size) := by
  obtain ⟨i0, hi0, hz0, hz1, hz2⟩ := partsOf info_cops
  have hadd : ∀ (b o j : Nat), (⟨b, o, none⟩ : Addr).add j = ⟨b, o + j, none⟩ := fun b o j => by unfold Addr.add; split <;> simp_all
  obtain ⟨v', Y, hrun, hown, hg, _, hl⟩ := run_append_own_at (P := Tryz.prog) W base 24 ty 97 i0 _ 2 32 Tryz.underlying24 hi0 hz0 hz1 hz2 rfl (by omega) v n _ h ⟨e, 0, none⟩ 1 1 [u0, u1] rfl (fun j u hu => by
    rw [hadd]
    rcases j with _ | _ | j
    · simp at hu; subst hu; exact e0
    · simp at hu; subst hu; exact e1
    · simp at hu) (fun u hu => by simp at hu; rcases hu with rfl | rfl <;> assumption) (by unfold maxLen; omega) (by omega) hbase
  obtain ⟨a', c', rfl⟩ := owns_slice' hown
  exact ⟨a', c', Y, hrun, hown, hg, hl⟩
theorem GrowG.slR {w : World} {base c : Nat} {a : Option Addr} {rs : List R4} {g : Nat → Nat} (h : GrowG 41 4 hdR lnR AtR w base (.slice a rs.length c) rs g) : SlR w w.heap.size a rs.length rs := by
  by_cases e : rs = []
  · subst e; exact ⟨rfl, .inl rfl⟩
  · obtain ⟨b, cp, ev, -, h2, -, -, og⟩ := GrowG.own (hd := hdR) (sz := 4) (fun _ => rfl) h e
    injection ev with ea _ _
    subst ea
    exact ownR_sl og h2
theorem flatK_len2 (ks : List K2) (g caps : Nat → Nat) : (flatG hdK lnK ks g caps).length = ks.length * 2 := by
  have : ∀ l : List (K2 × Nat), (l.map fun _ => 2).sum = l.length * 2 := fun l => by
    induction l with
    | nil => rfl
    | cons _ l ih => simp only [List.map_cons, List.sum_cons, List.length_cons, ih]; omega
  have h := this ks.zipIdx
  rw [List.length_zipIdx] at h
  rw [← h]
  simp [flatG, List.length_flatMap, cellsG, hdK]
/-- The machine is answered with a copy more, its cells wherever they are. -/
theorem DI.last {w : World} {c Q : Nat} {a : Option Addr} {n k : Nat} {alive : Bool} {ak : Option Addr} {ck : Nat} {al : Option Addr} {cl : Nat} {ad : Option Addr} {cd : Nat} {ks : List K2} {rs : List R4} {zs : List Int} {gk gr caps : Nat → Nat} {X Y : World} {a' : Option Addr} {c' : Nat} {x : Int} {b off m cp : Nat}
    (h : DI w c Q a n k alive (.slice ak ks.length ck) (.slice al rs.length cl) (.slice ad zs.length cd) ks rs zs gk gr X) (hcp : ∀ i r, ks[i]? = some r → lnK r ≤ caps i) (hg : X.grownBy Y (Value.slice ak ks.length ck).ownBlock) (hrow : Y.ownsRow (w.heap.size + 1) 97 2 (.slice a' (ks.length + 1) c') (ks.length + 1) (flatG hdK lnK ks gk caps ++ [.int .i64 x, .slice (some ⟨b, off, none⟩) m cp])) (hl : (Value.slice a' (ks.length + 1) c').ownBlock = (Value.slice ak ks.length ck).ownBlock ∨ (Value.slice a' (ks.length + 1) c').ownBlock = some X.heap.size)
    (hb1 : w.heap.size < b ∧ b < X.heap.size ∧ b ≠ Q) (hb2 : (Value.slice ak ks.length ck).ownBlock ≠ some b) (hir : IntRoom X b 12) (hom : off + m * 2 ≤ 12) (hmc : m ≤ cp) (hkl : ks.length ≤ 1000) (x0 x1 x2 x3 : Value) :
    DrawnM w c a n k (.returned (.agg #[.bool alive, .slice a' (ks.length + 1) c', .slice al rs.length cl, .slice ad zs.length cd])) (((((Y.setCell ⟨Q, 1, none⟩ (.slice a' (ks.length + 1) c')).setCell ⟨w.heap.size, 0, none⟩ x0).setCell ⟨w.heap.size, 1, none⟩ x1).setCell ⟨w.heap.size, 2, none⟩ x2).setCell ⟨w.heap.size, 3, none⟩ x3) := by
  obtain ⟨l1, l2, l3⟩ := h.lq
  have hcn : w.heap.size ≠ c := by omega
  have low : ∀ q, (Value.slice ak ks.length ck).ownBlock = some q → w.heap.size + 1 ≤ q ∧ q ≠ Q := fun q e => ⟨(h.mr.gK.lies e).1, h.mr.kp q (.inl e)⟩
  obtain ⟨cs, hcl, hca⟩ := cells_of_room hir hom
  have cuY : Cur Y c a n k := by
    obtain ⟨j, u, q1, q2, q3, q4, q5, q6, q7⟩ := h.cu
    have hb := hg.block c (by omega) (fun e => by have := (low c e.symm).1; omega)
    exact ⟨j, u, Nat.lt_of_lt_of_le q1 hg.size, q2, (World.cell?_of_block (a := ⟨c, 0, none⟩) hb).trans q3, (World.cell?_of_block (a := ⟨c, 1, none⟩) hb).trans q4, (World.cell?_of_block (a := ⟨c, 2, none⟩) hb).trans q5, (World.frozen?_of_block (a := ⟨c, 1, none⟩) hb).trans q6, (World.frozen?_of_block (a := ⟨c, 2, none⟩) hb).trans q7⟩
  have tuY : Turned c w Y := h.tu.grown hg (fun q e => by have := low q e; omega)
  refine ⟨⟨a', c', al, cl, ad, cd⟩, ⟨alive, ks ++ [⟨x, cs⟩], rs, zs⟩, by simp [MV.val], fun Z hZs hZ => ?_, ⟨by simp only [List.length_append, List.length_cons, List.length_nil]; unfold maxLen; omega, fun r hr => ?_, h.ml.r, h.ml.rs, h.ml.n⟩, ((((cuY.put (by omega) _ _).put hcn _ _).put hcn _ _).put hcn _ _).put hcn _ _, ((((tuY.put (by omega) _ _).put (Nat.le_refl _) _ _).put (Nat.le_refl _) _ _).put (Nat.le_refl _) _ _).put (Nat.le_refl _) _ _⟩
  · have keep : ∀ q, q < Y.heap.size → w.heap.size < q → q ≠ Q → Z.heap[q]? = Y.heap[q]? := fun q h1 h2 h3 => by
      have hq : q ≠ w.heap.size := by omega
      exact (hZ q h2 (by simpa [World.setCell] using h1)).trans ((Below.heap_setCell _ _ _ _ hq).trans ((Below.heap_setCell _ _ _ _ hq).trans ((Below.heap_setCell _ _ _ _ hq).trans ((Below.heap_setCell _ _ _ _ hq).trans (Below.heap_setCell _ _ _ _ h3)))))
    have hsz : Y.heap.size ≤ Z.heap.size := by simpa [World.setCell] using hZs
    have hXY := hg.size
    have keepX : ∀ q, q < X.heap.size → w.heap.size < q → q ≠ Q → (Value.slice ak ks.length ck).ownBlock ≠ some q → Z.heap[q]? = X.heap[q]? := fun q h1 h2 h3 h4 => (keep q (by omega) h2 h3).trans (hg.block q h1 (fun e => h4 e.symm))
    have gR := h.mr.gR.keep (w' := Z) AtR.of_block (by omega) (fun q h1 hq => keepX q h1 (by have := (h.mr.gR.blocks hq).1; omega) (h.mr.rp q hq) (fun e => h.mr.kr q (.inl e) hq))
    have gD := owns_keep (w' := Z) h.mr.gD (fun q e => keepX q (owns_lt h.mr.gD e) (by have := (World.ownsRow.lt h.mr.gD q e).1; omega) (fun e' => h.mr.dp (e' ▸ e)) (fun e' => h.mr.kd q (.inl e') e))
    refine ⟨?_, gR.slR, ?_⟩
    · rcases hrow.2 with ⟨_, e0⟩ | ⟨r, cap', cur, ev, _, _, _, _⟩
      · omega
      injection ev with ea _ ec
      subst ea ec
      obtain ⟨-, hx, -, -, hr1, hr2⟩ := cells_of_owns hrow
      have hrQ : r ≠ Q := by
        rcases hl with hl | hl
        · exact (low r (hl ▸ rfl)).2
        · have : r = X.heap.size := Option.some.inj hl
          omega
      have cz : ∀ j u, (flatG hdK lnK ks gk caps ++ [Value.int .i64 x, Value.slice (some ⟨b, off, none⟩) m cp])[j]? = some u → Z.cell? ⟨r, j, none⟩ = some u := fun j u hu => (World.cell?_of_block (a := ⟨r, j, none⟩) (keep r hr2 (by omega) hrQ)).trans (hx j u hu)
      have hfl := flatK_len2 ks gk caps
      refine ⟨by simp, .inr ⟨r, 0, rfl, by omega, fun i kk hi => ?_⟩⟩
      rw [Nat.zero_add]
      by_cases hik : i < ks.length
      · rw [List.getElem?_append_left hik] at hi
        have f0 : (flatG hdK lnK ks gk caps)[i * 2 + 0]? = some (.int .i64 kk.region) := flatG_at (sz := 2) (fun _ => rfl) hi (t := 0) (by omega)
        have f1 : (flatG hdK lnK ks gk caps)[i * 2 + 1]? = some (.slice (some ⟨gk i, 0, none⟩) kk.cells.length (caps i)) := flatG_at (sz := 2) (fun _ => rfl) hi (t := 1) (by omega)
        refine ⟨cz _ _ (by rw [List.getElem?_append_left (by omega)]; exact f0), _, _, cz _ _ (by rw [List.getElem?_append_left (by omega)]; exact f1), ⟨rfl, .inr ⟨gk i, 0, rfl, ?_, ?_⟩⟩, hcp i kk hi⟩
        · have := h.mr.gK.lt i hik; omega
        · exact (h.mr.gK.sub i kk hi).1.of_block (keepX _ (h.mr.gK.lt i hik) (by have := h.mr.gK.low i hik; omega) (h.mr.kp _ (.inr ⟨i, hik, rfl⟩)) (h.mr.gK.ne i hik))
      · have hie : i = ks.length := by
          have := (List.getElem?_eq_some_iff.1 hi).1
          simp at this; omega
        subst hie
        simp at hi
        subst hi
        have hbz := keepX b hb1.2.1 hb1.1 hb1.2.2 hb2
        refine ⟨cz _ _ (by rw [List.getElem?_append_right (by omega), hfl, Nat.sub_self]; rfl), some ⟨b, off, none⟩, cp, cz _ _ (by rw [List.getElem?_append_right (by omega), hfl, Nat.add_sub_cancel_left]; show some (Value.slice (some ⟨b, off, none⟩) m cp) = some (.slice (some ⟨b, off, none⟩) cs.length cp); rw [hcl]), ⟨rfl, .inr ⟨b, off, rfl, by omega, hca.of_block hbz⟩⟩, by show cs.length ≤ cp; omega⟩
    · obtain ⟨a2, c2, ev, hs⟩ := owns_form gD rfl
      injection ev with ea _ _
      subst ea
      exact hs
  · rcases List.mem_append.1 hr with hr | hr
    · exact h.ml.ks r hr
    · simp at hr; subst hr; show cs.length ≤ maxLen; unfold maxLen; omega
theorem DI.forms {w : World} {c Q : Nat} {a : Option Addr} {n k : Nat} {alive : Bool} {vk vr vd : Value} {ks : List K2} {rs : List R4} {zs : List Int} {gk gr : Nat → Nat} {X : World} (h : DI w c Q a n k alive vk vr vd ks rs zs gk gr X) : (∃ ac cc, vk = .slice ac ks.length cc) ∧ (∃ al cl, vr = .slice al rs.length cl) ∧ ∃ ad cd, vd = .slice ad zs.length cd := by
  obtain ⟨_, h1, _⟩ := h.mr.gK.row
  obtain ⟨_, h2, _⟩ := h.mr.gR.row
  exact ⟨owns_slice' h1, owns_slice' h2, owns_slice' h.mr.gD⟩
set_option maxRecDepth 100000 in
set_option maxHeartbeats 8000000 in
theorem l6Draw_any (w : World) (B c : Nat) (a : Option Addr) (n k : Nat) (hcur : Cur w c a n k) (hb : Bytes w B a n) (hB : B ≤ c) :
    Calls Tryz.prog 47 #[.pointer (some ⟨c, 0, none⟩)] w (DrawnM w c a n k) := by
  have KB : Hid (Bytes w B a n ∧ B ≤ w.heap.size ∧ c < w.heap.size) := ⟨hb, by have := hcur.lt; omega, hcur.lt⟩
  have BY : Hid (∀ w', Turned c w w' → Bytes w' B a n) := fun w' h => KB.out.1.below (h.below hB KB.out.2.1)
  obtain ⟨W, hW⟩ : ∃ W, W = w.alloc (.cells #[.bool false, .slice none 0 0, .slice none 0 0, .slice none 0 0] 28) := ⟨_, rfl⟩
  have t0 : Turned c w W := by rw [hW]; exact (Turned.refl _ _).alloc _
  have c0 : Cur W c a n k := by rw [hW]; exact hcur.alloc _
  have z0 : W.heap[w.heap.size]? = some (.cells #[.bool false, .slice none 0 0, .slice none 0 0, .slice none 0 0] 28 (0, 0)) := by rw [hW]; exact heap_alloc_new w _
  have s0 : W.heap.size = w.heap.size + 1 := by rw [hW]; simp
  have K0 : Hid (Turned c w W ∧ Cur W c a n k ∧ W.heap[w.heap.size]? = some (.cells #[.bool false, .slice none 0 0, .slice none 0 0, .slice none 0 0] 28 (0, 0)) ∧ W.heap.size = w.heap.size + 1) := ⟨t0, c0, z0, s0⟩
  clear t0 c0 z0 s0 hcur hb
  go_enter Tryz.func47, Tryz.ntmps47
  go_wp2_with fail
  rw [← hW]
  clear hW
  refine (l1Once_any _ B c a n k _ K0.out.2.1 (BY.out _ K0.out.1) hB (by omega)).mono ?_
  rintro e w1 ⟨u, rfl, c1, t1⟩
  obtain ⟨alive, hal⟩ : ∃ b, b = !u := ⟨_, rfl⟩
  obtain ⟨Q, hQ⟩ : ∃ Q, Q = w1.heap.size := ⟨_, rfl⟩
  obtain ⟨X0, hX0⟩ : ∃ X, X = w1.alloc (.cells #[.bool alive, .slice none 0 0, .slice none 0 0, .slice none 0 0] 28) := ⟨_, rfl⟩
  have KD : Hid (DX w c Q a n k alive 0 X0) := by
    obtain ⟨t0, c0, z0, s0⟩ := K0.out
    have hs := t1.size
    have hl := KB.out.2.2
    have tX : Turned c w X0 := by rw [hX0]; exact (t0.trans t1).alloc _
    refine ⟨_, _, _, [], [], [], gz, gz, ⟨?_, ?_, ?_, ?_, ?_, ?_, MR.start (zs := []) ⟨rfl, .inl ⟨rfl, rfl⟩⟩ (by simp [Value.ownBlock]), ?_, tX, ⟨by omega, by rw [hX0, hQ]; simp, hl⟩, ⟨by simp, (fun r hr => by cases hr), by simp, (fun r hr => by cases hr), by simp⟩⟩, Nat.le_refl _, Nat.le_refl _, Nat.le_refl _⟩
    · rw [hX0, Below.heap_alloc _ _ _ (by omega)]; exact (t1.block _ (by omega) (by omega)).trans z0
    · rw [hX0, hQ]; go_simp
    · rw [hX0, hQ]; go_simp
    · rw [hX0, hQ]; go_simp
    · rw [hX0, hQ]; go_simp
    · intro j; rw [hX0, hQ]; go_simp
    · rw [hX0]; exact c1.alloc _
  have hq8 : w.heap.size < Q := by have := K0.out.2.2.2; have := t1.size; omega
  clear c1 t1 K0
  go_wp2
  rw [← hQ, ← hal, ← hX0]
  clear hal hX0 hQ
  go_loopw [4] (fun v4 wr => ∃ j : Nat, j ≤ 4 ∧ v4 = .int .i64 j ∧ DX w c Q a n k alive j wr) (fun v4 _ => 4 - (intOf v4).toNat)
  case atStart => exact ⟨0, by omega, rfl, KD.out⟩
  case round =>
    obtain ⟨N, hj, rfl, hdx⟩ := hrel
    have K1 := hidOf hdx
    clear hdx KD
    by_cases hlt : N < 4
    · have hlt' : (N : Int) < 4 := by omega
      go_wp2_with fail
      refine (l1Once_any _ B c a n k _ K1.out.cu.1 (BY.out _ K1.out.cu.2) hB (by omega)).mono ?_
      rintro e w2 ⟨u, rfl, c2, t2⟩
      have H2 : Hid (DX w c Q a n k alive N w2) := K1.out.step c2 t2
      clear c2 t2 K1
      cases u
      · go_wp2
        exact ⟨⟨N + 1, by omega, by simp, H2.out.mono (by omega)⟩, by simp [intOf]; omega⟩
      · obtain ⟨vk, vr, vd, ks, rs, zs, gk, gr, hD, hb1, hb2, hb3⟩ := H2.out
        obtain ⟨⟨ak, ck, rfl⟩, -, -⟩ := hD.forms
        have HD := hidOf hD
        clear hD
        have td : Turned c w2 w2.drew := (Turned.refl _ _).drew
        have DD := hidOf (HD.out.step (Y := w2.drew) (HD.out.cu.drewN 1) td)
        have hS : (fun Y : World => Y.cell? ⟨Q, 1, none⟩ = some (.slice ak ks.length ck)) w2.drew := DD.out.a1
        have hoc := l3Draw_any w2.drew B c a n k DD.out.cu (BY.out _ DD.out.tu) hB
        go_wp2_with fail
        refine wp_region_z (fun z => z == 9) (fun Y : World => Y.cell? ⟨Q, 1, none⟩ = some (.slice ak ks.length ck)) (by kernel_rfl) ?_
        generalize w2.drew = Xd at *
        refine wpZ_takeP (i := 0) (v := ?_) rfl (by kernel_rfl) (fun _ _ _ h => h) (Or.inl ⟨by rfl, ?_⟩) hS ?_
        rotate_left
        · (intro X _; go_simp; first | done | with_reducible rfl | (rw [if_pos (by omega)]) | (rw [if_pos (by omega)]; go_simp))
        simp only [Act.put]
        refine wpZ_take (i := 1) (v := ?_) rfl (by kernel_rfl) (fun _ _ _ h => h) (Or.inl ⟨by rfl, ?_⟩) hS ?_
        rotate_left
        · (intro X hSw; go_simp; first | done | with_reducible rfl)
        simp only [Act.put]
        refine wpZ_takeP (i := 2) (v := ?_) rfl (by kernel_rfl) (fun _ _ _ h => h) (Or.inl ⟨by rfl, ?_⟩) hS ?_
        rotate_left
        · (intro X _; go_simp; first | done | with_reducible rfl | (rw [if_pos (by omega)]) | (rw [if_pos (by omega)]; go_simp))
        simp only [Act.put]
        refine wpZ_takeP (i := 3) (v := ?_) rfl (by kernel_rfl) (fun _ _ _ h => h) (Or.inl ⟨by rfl, ?_⟩) hS ?_
        rotate_left
        · (intro X _; go_simp; first | done | with_reducible rfl | (rw [if_pos (by omega)]) | (rw [if_pos (by omega)]; go_simp))
        simp only [Act.put]
        refine wpZ_ready (rs := [4]) (by kernel_rfl) (by simp) ?_
        refine AllZ.cons rfl (fun K hK => ?_) AllZ.nil
        go_simp
        refine hoc.mono ?_
        clear hoc
        rintro e X2 ⟨b, rfl, hq1, hq2, hir, c2, t2⟩
        have D2 := DD.out.step c2 t2
        obtain ⟨cs, hcl, hca⟩ := cells_of_room (off := 0) (m := 6) hir (by omega)
        obtain ⟨V, hV⟩ : ∃ V, V = X2.alloc (.cells #[.int .i64 (N : Int), .slice (some ⟨b, 0, none⟩) 6 6] 97) := ⟨_, rfl⟩
        have bV : Below X2.heap.size X2 V := by rw [hV]; exact (Below.refl _ _).alloc (Nat.le_refl _) _
        have D3 := D2.later bV
        have hat : AtK V b ⟨(N : Int), cs⟩ := AtK.of_block _ _ _ _ (bV.block b hq2) ⟨hca, by show Room X2 b (cs.length * 2); rw [hcl]; exact room_of_ints hir⟩
        have hlo := DD.out.lq
        have ht2 := t2.size
        have hVs := bV.size
        obtain ⟨v', Y, hr, hmr', hgr⟩ := D3.mr.pushK2 (by omega) (by omega) ⟨(N : Int), cs⟩ b 6 X2.heap.size (by omega) 24 (by rw [hV]; go_simp) (by show V.cell? _ = some (.slice (some ⟨b, 0, none⟩) cs.length 6); rw [hcl, hV]; go_simp) hat (by show cs.length ≤ 6; omega) (by omega) (by omega) (fun x hx => by have := DD.out.old x hx; omega) (by omega)
        have hlen : (ks ++ [(⟨(N : Int), cs⟩ : K2)]).length = ks.length + 1 := by simp
        obtain ⟨_, hro, -⟩ := hmr'.gK.row
        obtain ⟨a', c', rfl⟩ := owns_slice' hro
        rw [hlen] at hmr' hr
        clear hro
        have D4 := D3.put1 hgr hmr' (D3.ml.pushK ⟨(N : Int), cs⟩ (by show cs.length ≤ maxLen; unfold maxLen; omega) (by omega))
        have KN : Hid (DX w c Q a n k alive (N + 1) (Y.setCell ⟨Q, 1, none⟩ (.slice a' (ks.length + 1) c'))) := ⟨_, _, _, _, _, _, _, _, D4, by rw [hlen]; omega, by omega, by omega⟩
        have s1 : (fun Y : World => Y.cell? ⟨Q, 1, none⟩ = some (.slice ak ks.length ck)) X2 := D2.a1
        have s2 : (fun Y : World => Y.cell? ⟨Q, 1, none⟩ = some (.slice ak ks.length ck)) V := D3.a1
        have lq3 := D3.lq
        have s3 : (fun Y : World => Y.cell? ⟨Q, 1, none⟩ = some (.slice ak ks.length ck)) Y := (World.cell?_of_block (a := ⟨Q, 1, none⟩) (hgr.block Q (by omega) (fun e => D3.mr.kp Q (.inl e.symm) rfl))).trans D3.a1
        have s3f : Y.frozen? ⟨Q, 1, none⟩ = false := (World.frozen?_of_block (a := ⟨Q, 1, none⟩) (hgr.block Q (by omega) (fun e => D3.mr.kp Q (.inl e.symm) rfl))).trans (D3.af 1)
        refine hK.out _ _ (fun _ => s1) ?_
        clear hK K hS D2 D3 D4 hmr' hgr hat bV hlen DD td lq3 hca hir c2 t2 hq1 hq2 ht2 hVs hlo
        have hS := s1
        clear s1
        refine wpZ_takeP (i := 5) (v := ?_) rfl (by kernel_rfl) (fun _ _ _ h => h) (Or.inl ⟨by rfl, ?_⟩) hS ?_
        rotate_left
        · (intro X _; go_simp; first | done | with_reducible rfl | (rw [if_pos (by omega)]) | (rw [if_pos (by omega)]; go_simp))
        simp only [Act.put]
        refine wpZ_ready (rs := [6]) (by kernel_rfl) (by simp) ?_
        refine AllZ.cons rfl (fun K hK => ?_) AllZ.nil
        go_simp
        refine hK.out _ _ (fun _ => by rw [← hV]; exact s2) ?_
        clear hK K
        rw [← hV]
        clear hV
        refine wpZ_ready (rs := [7]) (by kernel_rfl) (by simp) ?_
        refine AllZ.cons (o := ⟨some 27, _, _, _, _, _⟩) rfl (fun K hK => ?_) AllZ.nil
        refine step_known _ rfl (.tmp 21) (.tmp 26) 24 rfl _ _ _ _ (by first | rfl | simp [Act.eval, Act.put]) (by first | rfl | simp [Act.eval, Act.put]) hr ?_
        refine hK.out _ _ (fun _ => s3) ?_
        clear hK K hr hS
        simp only [Act.put]
        have hS := s3
        refine wpZ_takeP (i := 8) (v := ?_) rfl (by kernel_rfl) (fun _ _ _ h => h) (Or.inl ⟨by rfl, ?_⟩) hS ?_
        rotate_left
        · (intro X _; go_simp; first | done | with_reducible rfl | (rw [if_pos (by omega)]) | (rw [if_pos (by omega)]; go_simp))
        simp only [Act.put]
        have s4 : Y.cell? ⟨Q, 1, none⟩ = some (.slice ak ks.length ck) := s3
        refine wpZ_ready (rs := [9]) (by kernel_rfl) (by simp) ?_
        refine AllZ.cons rfl (fun K hK => ?_) AllZ.nil
        go_simp
        refine hK.out _ _ (fun h => absurd (show false = true from h.symm.trans (by kernel_rfl)) (by decide)) ?_
        clear hK K
        refine wpZ_done (by kernel_rfl) ?_ _
        clear s2 s3 s3f s4 hS HD
        generalize (Y.setCell ⟨Q, 1, none⟩ (.slice a' (ks.length + 1) c')) = Y1 at *
        go_wp2
        exact ⟨⟨N + 1, by omega, by simp, KN.out⟩, by simp [intOf]; omega⟩
    · obtain rfl : N = 4 := by omega
      have hge : ¬ ((4 : Int) < 4) := by omega
      go_wp2_with fail
      refine (l1Below_any _ B c a n k _ K1.out.cu.1 (BY.out _ K1.out.cu.2) hB (by omega)).mono ?_
      rintro e w3 ⟨y, rfl, hy0, hy1, c3, t3⟩
      have H3 : Hid (DX w c Q a n k alive 4 w3) := K1.out.step c3 t3
      obtain ⟨y, rfl⟩ := Int.eq_ofNat_of_zero_le hy0
      clear c3 t3 K1 hy0
      go_wp2
      go_loopw [5] (fun v5 wr => ∃ j : Nat, j ≤ 5 ∧ v5 = .int .i64 j ∧ DX w c Q a n k alive (9 - j) wr) (fun v5 _ => (intOf v5).toNat)
      case atStart => exact ⟨y, by omega, rfl, H3.out.mono (by omega)⟩
      case round =>
        obtain ⟨N, hj, rfl, hdx⟩ := hrel
        have K1 := hidOf hdx
        clear hdx H3 hy1
        by_cases hpos : 0 < N
        · have hgt : (0 : Int) < (N : Int) := by omega
          go_wp2_with fail
          refine (l2Draw_any _ B c a n k K1.out.cu.1 (BY.out _ K1.out.cu.2) hB).mono ?_
          rintro e w2 ⟨K, T, R, g, m, cap, xs, rfl, -, -, -, hxl, hm7, -, hg1, hgc, hg2, hsa, hro, c2, t2⟩
          obtain ⟨vk, vr, vd, ks, rs, zs, gk, gr, hD, hb1, hb2, hb3⟩ := K1.out
          obtain ⟨-, ⟨al, cl, rfl⟩, -⟩ := hD.forms
          have OLD : Hid (∀ x, (blocksG vk ks gk x ∨ blocksG (.slice al rs.length cl) rs gr x ∨ vd.ownBlock = some x) → x < wr.heap.size) := hD.old
          have hlq := hD.lq
          obtain ⟨V, hV⟩ : ∃ V, V = w2.alloc (.cells #[.int .i64 K, .int .i64 T, .int .i64 R, .slice (some ⟨g, 0, none⟩) m cap] 41) := ⟨_, rfl⟩
          have bV : Below w2.heap.size w2 V := by rw [hV]; exact (Below.refl _ _).alloc (Nat.le_refl _) _
          have sV : V.heap.size = w2.heap.size + 1 := by rw [hV]; simp
          have KV : Hid (DI w c Q a n k alive vk (.slice al rs.length cl) vd ks rs zs gk gr V ∧ RecBox V w2.heap.size K T R (.slice (some ⟨g, 0, none⟩) m cap) ∧ (SetsAt V g 0 xs ∧ Room V g (m * 5)) ∧ V.heap.size = w2.heap.size + 1 ∧ wr.heap.size ≤ w2.heap.size) :=
            ⟨(hD.step c2 t2).later bV, by rw [hV]; exact RecBox.new w2 K T R _ _, ⟨hsa.of_block (bV.block g hg2), hro.1.of_block (bV.block g hg2)⟩, sV, t2.size⟩
          have HG0 : Hid (wr.heap.size ≤ g ∧ g < w2.heap.size ∧ xs.length = m ∧ m ≤ cap ∧ m ≤ 7 ∧ Q < wr.heap.size ∧ w.heap.size < Q ∧ c < w.heap.size) := ⟨hg1, hg2, hxl, hro.2, hm7, by omega, by omega, by omega⟩
          clear hD c2 t2 bV sV hg1 hg2 hxl hro hm7 hgc hsa hlq K1
          go_wp2_with fail
          rw [← hV]
          clear hV
          refine (l1Below_any _ B c a n k _ KV.out.1.cu (BY.out _ KV.out.1.tu) hB (by omega)).mono ?_
          rintro e w4 ⟨y4, rfl, hy40, hy41, c4, t4⟩
          have hg8 := HG0.out
          have r4 := KV.out.2.1.turned t4 (by have := KV.out.2.2.2.1; omega) (by have := KV.out.2.2.2; omega)
          obtain ⟨X5, hX5⟩ : ∃ X, X = w4.setCell ⟨w2.heap.size, 1, none⟩ (.int .i64 (1 + y4)) := ⟨_, rfl⟩
          have hz4 := t4.size
          have D5 : DI w c Q a n k alive vk (.slice al rs.length cl) vd ks rs zs gk gr X5 := by
            rw [hX5]
            exact (KV.out.1.step c4 t4).far (fun x hx => by have := OLD.out x hx; have := KV.out.2.2.2; omega) (by have := KV.out.2.2.2; omega) (by have := KV.out.2.2.2; omega) _ _
          have r5 : RecBox X5 w2.heap.size K (1 + y4) R (.slice (some ⟨g, 0, none⟩) m cap) := by rw [hX5]; exact r4.put1 _
          have eg : X5.heap[g]? = V.heap[g]? := by
            rw [hX5]
            exact (Below.heap_setCell _ _ _ _ (by show g ≠ w2.heap.size; omega)).trans (t4.block g (by have := KV.out.2.2.2; omega) (by omega))
          have sX5 : V.heap.size ≤ X5.heap.size := by rw [hX5]; simpa [World.setCell] using t4.size
          have hc := specRecordOk_any X5 K (1 + y4) R (some ⟨g, 0, none⟩) m cap xs (by unfold maxLen; omega) ⟨hg8.2.2.1, .inr ⟨g, 0, rfl, by have := KV.out.2.2.2; omega, KV.out.2.2.1.1.of_block eg⟩⟩
          have K5 : Hid (DI w c Q a n k alive vk (.slice al rs.length cl) vd ks rs zs gk gr X5 ∧ RecBox X5 w2.heap.size K (1 + y4) R (.slice (some ⟨g, 0, none⟩) m cap) ∧ (SetsAt X5 g 0 xs ∧ Room X5 g (m * 5)) ∧ w2.heap.size < X5.heap.size) := ⟨D5, r5, ⟨KV.out.2.2.1.1.of_block eg, KV.out.2.2.1.2.of_block eg⟩, by have := KV.out.2.2.2; omega⟩
          obtain ⟨⟨b0, b1, b2, b3⟩, bf⟩ := r4
          have bf1 := bf 1 (by omega)
          obtain ⟨⟨p0, p1, p2, p3⟩, -⟩ := r5
          clear bf D5 eg sX5 c4 t4 KV hz4
          rw [hX5] at p0 p1 p2 p3
          go_wp2_with fail
          rw [← hX5]
          clear hX5 b0 b1 b2 b3 bf1 p0 p1 p2 p3
          refine hc.mono ?_
          clear hc
          rintro e w6 ⟨rfl, b6⟩
          have KD : Hid (DI w c Q a n k alive vk (.slice al rs.length cl) vd ks rs zs gk gr w6) := K5.out.1.later b6
          have r6 : RecBox w6 w2.heap.size K (1 + y4) R (.slice (some ⟨g, 0, none⟩) m cap) := K5.out.2.1.turned (c := c) ((Turned.refl _ _).of_below b6) K5.out.2.2.2 (by omega)
          have HAT : Hid (SetsAt w6 g 0 xs ∧ Room w6 g (xs.length * 5)) := ⟨K5.out.2.2.1.1.of_block (b6.block g (by have := K5.out.2.2.2; omega)), by rw [hg8.2.2.1]; exact K5.out.2.2.1.2.of_block (b6.block g (by have := K5.out.2.2.2; omega))⟩
          have HG : Hid (wr.heap.size ≤ g ∧ g < w6.heap.size ∧ xs.length = m ∧ m ≤ cap ∧ m ≤ 7 ∧ Q < wr.heap.size ∧ w.heap.size < Q) := ⟨hg8.1, by have := K5.out.2.2.2; have := b6.size; omega, hg8.2.2.1, hg8.2.2.2.1, hg8.2.2.2.2.1, hg8.2.2.2.2.2.1, hg8.2.2.2.2.2.2.1⟩
          clear b6 K5 hg8 HG0
          cases hR : recB K (1 + y4) R xs with
          | false =>
            have KN : Hid (DX w c Q a n k alive (9 - N) w6) := ⟨_, _, _, _, _, _, _, _, KD.out, hb1, hb2, hb3⟩
            clear KD r6 HAT HG OLD
            go_wp2
            exact ⟨⟨N - 1, by omega, by simp; omega, KN.out.mono (by omega)⟩, by simp [intOf]; omega⟩
          | true =>
            obtain ⟨V2, hV2⟩ : ∃ V, V = w6.alloc (.cells #[.int .i64 K, .int .i64 (1 + y4), .int .i64 R, .slice (some ⟨g, 0, none⟩) m cap] 41) := ⟨_, rfl⟩
            have bV2 : Below w6.heap.size w6 V2 := by rw [hV2]; exact (Below.refl _ _).alloc (Nat.le_refl _) _
            have D6 := KD.out.later bV2
            have lq6 := KD.out.lq
            have sV2 := bV2.size
            obtain ⟨v', Y, hr, hmr', hgr⟩ := D6.mr.pushR2 (by omega) (by omega) ⟨K, (1 + y4), R, xs⟩ g cap w6.heap.size (by omega) 25 (by rw [hV2]; go_simp) (by rw [hV2]; go_simp) (by rw [hV2]; go_simp) (by show V2.cell? _ = some (.slice (some ⟨g, 0, none⟩) xs.length cap); rw [HG.out.2.2.1, hV2]; go_simp) (AtR.of_block _ _ _ _ (bV2.block g HG.out.2.1) (show AtR w6 g ⟨K, (1 + y4), R, xs⟩ from HAT.out)) (by show xs.length ≤ cap; have := HG.out.2.2; omega) (by have := HG.out; omega) (by have := HG.out; omega) (fun x hx => by have := OLD.out x hx; have := HG.out.1; omega) (by have := HG.out; omega)
            have hlen : (rs ++ [(⟨K, (1 + y4), R, xs⟩ : R4)]).length = rs.length + 1 := by simp
            obtain ⟨_, hro, -⟩ := hmr'.gR.row
            obtain ⟨a', c', rfl⟩ := owns_slice' hro
            rw [hlen] at hmr' hr
            clear hro
            have D7 := D6.put2 hgr hmr' (D6.ml.pushR ⟨K, (1 + y4), R, xs⟩ (by show xs.length ≤ maxLen; have := HG.out.2.2; unfold maxLen; omega) (by omega))
            have KN : Hid (DX w c Q a n k alive ((9 - N) + 1) (Y.setCell ⟨Q, 2, none⟩ (.slice a' (rs.length + 1) c'))) := ⟨_, _, _, _, _, _, _, _, D7, by omega, by rw [hlen]; omega, by omega⟩
            have lq7 := D6.lq
            have s3 : Y.cell? ⟨Q, 2, none⟩ = some (.slice al rs.length cl) := (World.cell?_of_block (a := ⟨Q, 2, none⟩) (hgr.block Q (by omega) (fun e => D6.mr.rp Q (.inl e.symm) rfl))).trans D6.a2
            have s3f : Y.frozen? ⟨Q, 2, none⟩ = false := (World.frozen?_of_block (a := ⟨Q, 2, none⟩) (hgr.block Q (by omega) (fun e => D6.mr.rp Q (.inl e.symm) rfl))).trans (D6.af 2)
            obtain ⟨⟨p0, p1, p2, p3⟩, -⟩ := r6
            have a2 := KD.out.a2
            rw [hV2] at hr
            clear D6 D7 hmr' hgr bV2 lq6 lq7 sV2 hlen KD HAT HG OLD hV2
            go_wp2_with (at_builtin; refine append_known _ rfl (.tmp 44) (.tmp 46) 25 rfl _ _ _ _ rfl rfl hr ?_)
            exact ⟨⟨N - 1, by omega, by simp; omega, KN.out.mono (by omega)⟩, by simp [intOf]; omega⟩
        · have hN0 : (N : Int) = 0 := by omega
          rw [hN0]
          have H3 : Hid (DX w c Q a n k alive 9 wr) := K1.out.mono (by omega)
          generalize wr = W1 at *
          clear K1
          go_wp2
          go_loopw [7] (fun v7 wr => ∃ j : Nat, 1 ≤ j ∧ j ≤ 6 ∧ v7 = .int .i64 j ∧ DX w c Q a n k alive (8 + j) wr) (fun v7 _ => 6 - (intOf v7).toNat)
          case atStart => exact ⟨1, by omega, by omega, rfl, H3.out⟩
          case round =>
            obtain ⟨N, hj1, hj, rfl, hdx⟩ := hrel
            have K1 := hidOf hdx
            clear hdx H3
            by_cases hlt : N < 6
            · have hlt' : (N : Int) < 6 := by omega
              go_wp2_with fail
              refine (l1Once_any _ B c a n k _ K1.out.cu.1 (BY.out _ K1.out.cu.2) hB (by omega)).mono ?_
              rintro e w2 ⟨u, rfl, c2, t2⟩
              have H2 : Hid (DX w c Q a n k alive (8 + N) w2) := K1.out.step c2 t2
              clear c2 t2 K1
              cases u
              · go_wp2
                exact ⟨⟨N + 1, by omega, by omega, by simp, H2.out.mono (by omega)⟩, by simp [intOf]; omega⟩
              · obtain ⟨vk, vr, vd, ks, rs, zs, gk, gr, hD, hb1, hb2, hb3⟩ := H2.out
                obtain ⟨-, -, ⟨ad, cd, rfl⟩⟩ := hD.forms
                have KD := hidOf hD
                clear hD
                obtain ⟨V2, hV2⟩ : ∃ V, V = w2.alloc (.cells #[.int .i64 (N : Int)] 2) := ⟨_, rfl⟩
                have bV2 : Below w2.heap.size w2 V2 := by rw [hV2]; exact (Below.refl _ _).alloc (Nat.le_refl _) _
                have sV2 : V2.heap.size = w2.heap.size + 1 := by rw [hV2]; simp
                have D6 := KD.out.later bV2
                have hone : SlN V2 V2.heap.size (some ⟨w2.heap.size, 0, none⟩) [(N : Int)].length [(N : Int)] := ⟨rfl, .inr ⟨w2.heap.size, 0, rfl, by omega, fun j u e => by
                  rcases j with _ | j
                  · simp at e; subst e; rw [hV2]; go_simp
                  · simp at e⟩⟩
                have lq6 := KD.out.lq
                obtain ⟨a', c', Y, hr, hrow, hgr, hlies⟩ := pushZ (zs := zs) D6.mr.gD [(N : Int)] (by simp; omega) 26 (some ⟨w2.heap.size, 0, none⟩) 1 hone (by omega)
                have hlen : (zs ++ [(N : Int)]).length = zs.length + 1 := by simp
                rw [hlen] at hr hrow hlies
                have hmr' := D6.mr.cleared (zs' := zs ++ [(N : Int)]) (by have := D6.lq; omega) hgr (by rw [hlen]; exact (show Y.ownsRow _ _ _ _ _ _ from by have := hrow; unfold RowZ at this; rw [hlen] at this; exact this)) (hlies.imp id (fun e => ⟨_, e, Nat.le_refl _⟩))
                have D7 := D6.put3 hgr hmr' ⟨D6.ml.k, D6.ml.ks, D6.ml.r, D6.ml.rs, by show (zs ++ [(N : Int)]).length ≤ maxLen; rw [hlen]; unfold maxLen; omega⟩
                have KN : Hid (DX w c Q a n k alive (8 + N + 1) (Y.setCell ⟨Q, 3, none⟩ (.slice a' (zs.length + 1) c'))) := ⟨_, _, _, _, _, _, _, _, D7, by omega, by omega, by rw [hlen]; omega⟩
                have lq7 := D6.lq
                have s3 : Y.cell? ⟨Q, 3, none⟩ = some (.slice ad zs.length cd) := (World.cell?_of_block (a := ⟨Q, 3, none⟩) (hgr.block Q (by omega) (fun e => D6.mr.dp e.symm))).trans D6.a3
                have s3f : Y.frozen? ⟨Q, 3, none⟩ = false := (World.frozen?_of_block (a := ⟨Q, 3, none⟩) (hgr.block Q (by omega) (fun e => D6.mr.dp e.symm))).trans (D6.af 3)
                have a3 := KD.out.a3
                simp only [List.length_cons, List.length_nil, Nat.zero_add] at hr
                rw [hV2] at hr
                clear D6 D7 hmr' hgr hone bV2 hrow hlies lq7 hlen KD sV2 lq6 hV2
                go_wp2_with (at_builtin; refine append_known _ rfl (.tmp 56) (.tmp 58) 26 rfl _ _ _ _ rfl rfl hr ?_)
                exact ⟨⟨N + 1, by omega, by omega, by simp, KN.out⟩, by simp [intOf]; omega⟩
            · obtain rfl : N = 6 := by omega
              have HQ0 : Hid (DX w c Q a n k alive 14 wr) := K1.out
              generalize wr = W2 at *
              clear K1
              go_wp2_with fail
              refine (l1Once_any _ B c a n k _ HQ0.out.cu.1 (BY.out _ HQ0.out.cu.2) hB (by omega)).mono ?_
              rintro e w2 ⟨u, rfl, c2, t2⟩
              have HR : Hid (DX w c Q a n k alive 14 w2) := HQ0.out.step c2 t2
              clear c2 t2 HQ0
              cases u
              · obtain ⟨vk, vr, vd, ks, rs, zs, gk, gr, hD, -, -, -⟩ := HR.out
                obtain ⟨⟨ak, ck, rfl⟩, ⟨al, cl, rfl⟩, ⟨ad, cd, rfl⟩⟩ := hD.forms
                have HD := hidOf hD
                obtain ⟨z0, z1, z2, z3, zf⟩ := zeroBoxM hD.z
                have f0 := zf 0
                have f1 := zf 1
                have f2 := zf 2
                have f3 := zf 3
                obtain ⟨-, a0, a1, a2, a3, -, -, -, -, -, -⟩ := hD
                clear zf HR
                go_wp2
                refine bodyPost_ret (v := .agg #[.bool alive, .slice ak ks.length ck, .slice al rs.length cl, .slice ad zs.length cd]) (by simp [results, Tryz.results47, go_sem, z0, z1, z2, z3]) rfl ?_
                exact DI.fin HD.out _ _ _ _
              · go_wp2_with fail
                refine (l1Below_any _ B c a n k _ HR.out.cu.1 (BY.out _ HR.out.cu.2) hB (by omega)).mono ?_
                rintro e w3 ⟨y, rfl, hy0, hy1, c3, t3⟩
                have HR3 : Hid (DX w c Q a n k alive 14 w3) := HR.out.step c3 t3
                clear c3 t3 HR
                obtain rfl | rfl | rfl | rfl | rfl : y = 0 ∨ y = 1 ∨ y = 2 ∨ y = 3 ∨ y = 4 := by omega
                · clear hy0 hy1
                  obtain ⟨vk, vr, vd, ks, rs, zs, gk, gr, hD, hb1, hb2, hb3⟩ := HR3.out
                  obtain ⟨⟨ak, ck, rfl⟩, ⟨al, cl, rfl⟩, ⟨ad, cd, rfl⟩⟩ := hD.forms
                  have HD := hidOf hD
                  clear hD HR3
                  have td : Turned c w3 w3.drew := (Turned.refl _ _).drew
                  have DD := hidOf (HD.out.step (Y := w3.drew) (HD.out.cu.drewN 1) td)
                  have hS : (fun Y : World => Y.cell? ⟨Q, 1, none⟩ = some (.slice ak ks.length ck)) w3.drew := DD.out.a1
                  go_wp2_with fail
                  refine wp_region_z (fun z => z == 13) (fun Y : World => Y.cell? ⟨Q, 1, none⟩ = some (.slice ak ks.length ck)) (by kernel_rfl) ?_
                  generalize w3.drew = Xd at *
                  clear td HD
                  refine wpZ_takeP (i := 0) (v := ?_) rfl (by kernel_rfl) (fun _ _ _ h => h) (Or.inl ⟨by rfl, ?_⟩) hS ?_
                  rotate_left
                  · (intro X _; go_simp; first | done | with_reducible rfl | (rw [if_pos (by omega)]) | (rw [if_pos (by omega)]; go_simp))
                  simp only [Act.put]
                  refine wpZ_take (i := 1) (v := ?_) rfl (by kernel_rfl) (fun _ _ _ h => h) (Or.inl ⟨by rfl, ?_⟩) hS ?_
                  rotate_left
                  · (intro X hSw; go_simp; first | done | with_reducible rfl)
                  simp only [Act.put]
                  refine wpZ_takeP (i := 3) (v := ?_) rfl (by kernel_rfl) (fun _ _ _ h => h) (Or.inl ⟨by rfl, ?_⟩) hS ?_
                  rotate_left
                  · (intro X _; go_simp; first | done | with_reducible rfl | (rw [if_pos (by omega)]) | (rw [if_pos (by omega)]; go_simp))
                  simp only [Act.put]
                  refine wpZ_takeP (i := 7) (v := ?_) rfl (by kernel_rfl) (fun _ _ _ h => h) (Or.inl ⟨by rfl, ?_⟩) hS ?_
                  rotate_left
                  · (intro X _; go_simp; first | done | with_reducible rfl | (rw [if_pos (by omega)]) | (rw [if_pos (by omega)]; go_simp))
                  simp only [Act.put]
                  have hlq0 := DD.out.lq
                  refine wpZ_ready (rs := [2, 4]) (by kernel_rfl) (by simp) ?_
                  refine AllZ.cons rfl (fun K hK => ?_) (AllZ.cons rfl (fun K hK => ?_) AllZ.nil)
                  · go_simp
                    obtain ⟨E1, hE1⟩ : ∃ V, V = Xd.alloc (.cells #[.int .i64 (-1), .int .i64 0, .int .i64 5, .int .i64 6] 2) := ⟨_, rfl⟩
                    have bE1 : Below Xd.heap.size Xd E1 := by rw [hE1]; exact (Below.refl _ _).alloc (Nat.le_refl _) _
                    have DE1 := hidOf (DD.out.later bE1)
                    have HNX : Hid (∀ j, j < 4 → ∃ x : Int, E1.cell? ⟨Xd.heap.size, j, none⟩ = some (.int .i64 x)) := fun j hj => by rw [hE1]; exact new_inI Xd [-1, 0, 5, 6] _ j (by simpa using hj)
                    have HNB : Hid (Xd.heap.size < E1.heap.size ∧ Xd.heap.size ≠ c) := by unfold Hid; rw [hE1]; have := DD.out.lq; simp; omega
                    refine hK.out _ _ (fun _ => by rw [← hE1]; exact DE1.out.a1) ?_
                    clear hK K hS
                    rw [← hE1]
                    clear hE1
                    clear bE1
                    have hS := DE1.out.a1
                    refine wpZ_ready (rs := [4]) (by kernel_rfl) (by simp) ?_
                    refine AllZ.cons rfl (fun K hK => ?_) AllZ.nil
                    go_simp
                    refine (l1Below_any _ B c a n k _ DE1.out.cu (BY.out _ DE1.out.tu) hB (by omega)).mono ?_
                    rintro e E2 ⟨y5, rfl, hy50, hy51, c2, t2⟩
                    obtain ⟨q, rfl⟩ := Int.eq_ofNat_of_zero_le hy50
                    have hq4 : (q : Int) < 4 := by omega
                    have DE2 := hidOf (DE1.out.step c2 t2)
                    have hx' : ∃ x : Int, E2.cell? ⟨Xd.heap.size, q, none⟩ = some (.int .i64 x) := by
                      obtain ⟨x, hx⟩ := HNX.out q (by omega)
                      exact ⟨x, (t2.cell (p := ⟨Xd.heap.size, q, none⟩) HNB.out.1 HNB.out.2).trans hx⟩
                    obtain ⟨x, hx⟩ := hx'
                    have HNB : Hid (Xd.heap.size < E2.heap.size ∧ Xd.heap.size ≠ c) := ⟨Nat.lt_of_lt_of_le HNB.out.1 t2.size, HNB.out.2⟩
                    refine hK.out _ _ (fun _ => DE2.out.a1) ?_
                    clear hK K hS c2 t2 hy50
                    have hS := DE2.out.a1
                    refine wpZ_takeP (i := 5) (v := ?_) rfl (by kernel_rfl) (fun _ _ _ h => h) (Or.inl ⟨by rfl, ?_⟩) hS ?_
                    rotate_left
                    · (intro X _; go_simp; first | done | with_reducible rfl | (rw [if_pos (by omega)]) | (rw [if_pos (by omega)]; go_simp))
                    simp only [Act.put]
                    refine wpZ_ready (rs := [6, 8]) (by kernel_rfl) (by simp) ?_
                    refine AllZ.cons rfl (fun K hK => ?_) (AllZ.cons rfl (fun K hK => ?_) AllZ.nil)
                    · go_simp
                      refine hK.out _ _ (fun _ => hS) ?_
                      clear hK K hx
                      refine wpZ_ready (rs := [8]) (by kernel_rfl) (by simp) ?_
                      refine AllZ.cons rfl (fun K hK => ?_) AllZ.nil
                      go_simp
                      refine (l3DrawAny_any _ B c a n k DE2.out.cu (BY.out _ DE2.out.tu) hB).mono ?_
                      rintro e E4 ⟨vv, rfl, ⟨b, off, m, cp, rfl, hc1, hc2, hc3, hir, hom, hmc⟩, c2, t2⟩
                      have DE4 := hidOf (DE2.out.step c2 t2)
                      have HIR : Hid (IntRoom E4 b 12 ∧ off + m * 2 ≤ 12 ∧ m ≤ cp) := ⟨hir, hom, hmc⟩
                      have HBK : Hid (w.heap.size < b ∧ b < E4.heap.size ∧ b ≠ Q ∧ ∀ x, (blocksG (.slice ak ks.length ck) ks gk x ∨ blocksG (.slice al rs.length cl) rs gr x ∨ (Value.slice ad zs.length cd).ownBlock = some x) → x ≠ b) := by
                        have hl := DE2.out.lq
                        exact ⟨by omega, hc3, by omega, fun x hx => by have := DE2.out.old x hx; omega⟩
                      refine hK.out _ _ (fun _ => DE4.out.a1) ?_
                      clear hK K hS c2 t2 hc1 hc2 hc3 hir hom hmc
                      have hS := DE4.out.a1
                      have KD := hidOf (DE4).out
                      obtain ⟨V2, hV2⟩ : ∃ V, V = E4.alloc (.cells #[.int .i64 x, .slice (some ⟨b, off, none⟩) m cp] 97) := ⟨_, rfl⟩
                      have bV2 : Below E4.heap.size E4 V2 := by rw [hV2]; exact (Below.refl _ _).alloc (Nat.le_refl _) _
                      have D6 := KD.out.later bV2
                      have hsv := bV2.size
                      obtain ⟨caps, hrow0, hcp⟩ := D6.mr.gK.row
                      have lq6 := D6.lq
                      obtain ⟨a', c', Y, hr, hrow, hgr, hlies⟩ := pushAny hrow0 (.int .i64 x) (.slice (some ⟨b, off, none⟩) m cp) (by omega) 24 E4.heap.size (by rw [hV2]; go_simp) (by rw [hV2]; go_simp) rfl rfl (by omega)
                      have HB := hidOf HBK.out
                      have hir2 : IntRoom V2 b 12 := fun j hj => by
                        obtain ⟨z, h1, h2⟩ := HIR.out.1 j hj
                        exact ⟨z, (bV2.cell (p := ⟨b, j, none⟩) HB.out.2.1).trans h1, (bV2.frozen (p := ⟨b, j, none⟩) HB.out.2.1).trans h2⟩
                      have KN : Hid (∀ x0 x1 x2 x3, DrawnM w c a n k (.returned (.agg #[.bool alive, .slice a' (ks.length + 1) c', .slice al rs.length cl, .slice ad zs.length cd])) (((((Y.setCell ⟨Q, 1, none⟩ (.slice a' (ks.length + 1) c')).setCell ⟨w.heap.size, 0, none⟩ x0).setCell ⟨w.heap.size, 1, none⟩ x1).setCell ⟨w.heap.size, 2, none⟩ x2).setCell ⟨w.heap.size, 3, none⟩ x3)) := fun x0 x1 x2 x3 => DI.last D6 hcp hgr hrow hlies ⟨HB.out.1, by have := HB.out.2.1; omega, HB.out.2.2.1⟩ (fun e => HB.out.2.2.2 b (.inl (.inl e)) rfl) hir2 HIR.out.2.1 HIR.out.2.2 (by omega) x0 x1 x2 x3
                      have s1 : (fun Y : World => Y.cell? ⟨Q, 1, none⟩ = some (.slice ak ks.length ck)) E4 := KD.out.a1
                      have s2 : (fun Y : World => Y.cell? ⟨Q, 1, none⟩ = some (.slice ak ks.length ck)) V2 := D6.a1
                      have hkQ : Y.heap[Q]? = V2.heap[Q]? := hgr.block Q (by omega) (fun e => D6.mr.kp Q (.inl e.symm) rfl)
                      have hkA : Y.heap[w.heap.size]? = V2.heap[w.heap.size]? := hgr.block w.heap.size (by omega) (fun e => by have := (D6.mr.gK.lies e.symm).1; omega)
                      have s3 : (fun Y : World => Y.cell? ⟨Q, 1, none⟩ = some (.slice ak ks.length ck)) Y := (World.cell?_of_block (a := ⟨Q, 1, none⟩) hkQ).trans D6.a1
                      have s3f : Y.frozen? ⟨Q, 1, none⟩ = false := (World.frozen?_of_block (a := ⟨Q, 1, none⟩) hkQ).trans (D6.af 1)
                      have hfin : Hid (((Y.setCell ⟨Q, 1, none⟩ (.slice a' (ks.length + 1) c')).cell? ⟨Q, 0, none⟩ = some (.bool alive) ∧ (Y.setCell ⟨Q, 1, none⟩ (.slice a' (ks.length + 1) c')).cell? ⟨Q, 1, none⟩ = some (.slice a' (ks.length + 1) c') ∧ (Y.setCell ⟨Q, 1, none⟩ (.slice a' (ks.length + 1) c')).cell? ⟨Q, 2, none⟩ = some (.slice al rs.length cl) ∧ (Y.setCell ⟨Q, 1, none⟩ (.slice a' (ks.length + 1) c')).cell? ⟨Q, 3, none⟩ = some (.slice ad zs.length cd)) ∧ (Y.setCell ⟨Q, 1, none⟩ (.slice a' (ks.length + 1) c')).heap[w.heap.size]? = some (.cells #[.bool false, .slice none 0 0, .slice none 0 0, .slice none 0 0] 28 (0, 0))) :=
                        ⟨⟨(cell_set_other (by omega)).trans ((World.cell?_of_block (a := ⟨Q, 0, none⟩) hkQ).trans D6.a0), cell_set_same s3, (cell_set_other (by omega)).trans ((World.cell?_of_block (a := ⟨Q, 2, none⟩) hkQ).trans D6.a2), (cell_set_other (by omega)).trans ((World.cell?_of_block (a := ⟨Q, 3, none⟩) hkQ).trans D6.a3)⟩, (Below.heap_setCell _ _ _ _ (by show w.heap.size ≠ Q; omega)).trans (hkA.trans D6.z)⟩
                      clear D6 hgr hrow hrow0 hlies hcp bV2 lq6 hir2 hsv hkQ hkA HIR HB HBK KD
                      have hS := s1
                      refine wpZ_takeP (i := 9) (v := ?_) rfl (by kernel_rfl) (fun _ _ _ h => h) (Or.inl ⟨by rfl, ?_⟩) hS ?_
                      rotate_left
                      · (intro X _; go_simp; first | done | with_reducible rfl | (rw [if_pos (by omega)]) | (rw [if_pos (by omega)]; go_simp))
                      simp only [Act.put]
                      refine wpZ_ready (rs := [10]) (by kernel_rfl) (by simp) ?_
                      refine AllZ.cons rfl (fun K hK => ?_) AllZ.nil
                      go_simp
                      refine hK.out _ _ (fun _ => by rw [← hV2]; exact s2) ?_
                      clear hK K
                      rw [← hV2]
                      clear hV2
                      refine wpZ_ready (rs := [11]) (by kernel_rfl) (by simp) ?_
                      refine AllZ.cons (o := ⟨some 78, _, _, _, _, _⟩) rfl (fun K hK => ?_) AllZ.nil
                      refine step_known _ rfl (.tmp 68) (.tmp 77) 24 rfl _ _ _ _ (by first | rfl | simp [Act.eval, Act.put]) (by first | rfl | simp [Act.eval, Act.put]) hr ?_
                      refine hK.out _ _ (fun _ => s3) ?_
                      clear hK K hr hS
                      simp only [Act.put]
                      have hS := s3
                      refine wpZ_takeP (i := 12) (v := ?_) rfl (by kernel_rfl) (fun _ _ _ h => h) (Or.inl ⟨by rfl, ?_⟩) hS ?_
                      rotate_left
                      · (intro X _; go_simp; first | done | with_reducible rfl | (rw [if_pos (by omega)]) | (rw [if_pos (by omega)]; go_simp))
                      simp only [Act.put]
                      have s4 : Y.cell? ⟨Q, 1, none⟩ = some (.slice ak ks.length ck) := s3
                      refine wpZ_ready (rs := [13]) (by kernel_rfl) (by simp) ?_
                      refine AllZ.cons rfl (fun K hK => ?_) AllZ.nil
                      go_simp
                      refine hK.out _ _ (fun h => absurd (show false = true from h.symm.trans (by kernel_rfl)) (by decide)) ?_
                      clear hK K
                      refine wpZ_done (by kernel_rfl) ?_ _
                      clear s1 s2 s3 s3f s4 hS DD
                      generalize (Y.setCell ⟨Q, 1, none⟩ (.slice a' (ks.length + 1) c')) = Y1 at *
                      obtain ⟨⟨a0, a1, a2, a3⟩, hz⟩ := hfin.out
                      obtain ⟨z0, z1, z2, z3, zf⟩ := zeroBoxM hz
                      have f0 := zf 0
                      have f1 := zf 1
                      have f2 := zf 2
                      have f3 := zf 3
                      clear zf hz hfin
                      go_wp2
                      refine bodyPost_ret (v := .agg #[.bool alive, .slice a' (ks.length + 1) c', .slice al rs.length cl, .slice ad zs.length cd]) (by simp [results, Tryz.results47, go_sem, z0, z1, z2, z3]) rfl ?_
                      exact KN.out _ _ _ _
                    · go_simp
                      refine (l3DrawAny_any _ B c a n k DE2.out.cu (BY.out _ DE2.out.tu) hB).mono ?_
                      rintro e E5 ⟨vv, rfl, ⟨b, off, m, cp, rfl, hc1, hc2, hc3, hir, hom, hmc⟩, c2, t2⟩
                      have DE5 := hidOf (DE2.out.step c2 t2)
                      have HIR : Hid (IntRoom E5 b 12 ∧ off + m * 2 ≤ 12 ∧ m ≤ cp) := ⟨hir, hom, hmc⟩
                      have HBK : Hid (w.heap.size < b ∧ b < E5.heap.size ∧ b ≠ Q ∧ ∀ x, (blocksG (.slice ak ks.length ck) ks gk x ∨ blocksG (.slice al rs.length cl) rs gr x ∨ (Value.slice ad zs.length cd).ownBlock = some x) → x ≠ b) := by
                        have hl := DE2.out.lq
                        exact ⟨by omega, hc3, by omega, fun x hx => by have := DE2.out.old x hx; omega⟩
                      have hx := (t2.cell (p := ⟨Xd.heap.size, q, none⟩) HNB.out.1 HNB.out.2).trans hx
                      refine hK.out _ _ (fun _ => DE5.out.a1) ?_
                      clear hK K hS c2 t2 hc1 hc2 hc3 hir hom hmc
                      have hS := DE5.out.a1
                      refine wpZ_ready (rs := [6]) (by kernel_rfl) (by simp) ?_
                      refine AllZ.cons rfl (fun K hK => ?_) AllZ.nil
                      go_simp
                      refine hK.out _ _ (fun _ => hS) ?_
                      clear hK K hx
                      have KD := hidOf (DE5).out
                      obtain ⟨V2, hV2⟩ : ∃ V, V = E5.alloc (.cells #[.int .i64 x, .slice (some ⟨b, off, none⟩) m cp] 97) := ⟨_, rfl⟩
                      have bV2 : Below E5.heap.size E5 V2 := by rw [hV2]; exact (Below.refl _ _).alloc (Nat.le_refl _) _
                      have D6 := KD.out.later bV2
                      have hsv := bV2.size
                      obtain ⟨caps, hrow0, hcp⟩ := D6.mr.gK.row
                      have lq6 := D6.lq
                      obtain ⟨a', c', Y, hr, hrow, hgr, hlies⟩ := pushAny hrow0 (.int .i64 x) (.slice (some ⟨b, off, none⟩) m cp) (by omega) 24 E5.heap.size (by rw [hV2]; go_simp) (by rw [hV2]; go_simp) rfl rfl (by omega)
                      have HB := hidOf HBK.out
                      have hir2 : IntRoom V2 b 12 := fun j hj => by
                        obtain ⟨z, h1, h2⟩ := HIR.out.1 j hj
                        exact ⟨z, (bV2.cell (p := ⟨b, j, none⟩) HB.out.2.1).trans h1, (bV2.frozen (p := ⟨b, j, none⟩) HB.out.2.1).trans h2⟩
                      have KN : Hid (∀ x0 x1 x2 x3, DrawnM w c a n k (.returned (.agg #[.bool alive, .slice a' (ks.length + 1) c', .slice al rs.length cl, .slice ad zs.length cd])) (((((Y.setCell ⟨Q, 1, none⟩ (.slice a' (ks.length + 1) c')).setCell ⟨w.heap.size, 0, none⟩ x0).setCell ⟨w.heap.size, 1, none⟩ x1).setCell ⟨w.heap.size, 2, none⟩ x2).setCell ⟨w.heap.size, 3, none⟩ x3)) := fun x0 x1 x2 x3 => DI.last D6 hcp hgr hrow hlies ⟨HB.out.1, by have := HB.out.2.1; omega, HB.out.2.2.1⟩ (fun e => HB.out.2.2.2 b (.inl (.inl e)) rfl) hir2 HIR.out.2.1 HIR.out.2.2 (by omega) x0 x1 x2 x3
                      have s1 : (fun Y : World => Y.cell? ⟨Q, 1, none⟩ = some (.slice ak ks.length ck)) E5 := KD.out.a1
                      have s2 : (fun Y : World => Y.cell? ⟨Q, 1, none⟩ = some (.slice ak ks.length ck)) V2 := D6.a1
                      have hkQ : Y.heap[Q]? = V2.heap[Q]? := hgr.block Q (by omega) (fun e => D6.mr.kp Q (.inl e.symm) rfl)
                      have hkA : Y.heap[w.heap.size]? = V2.heap[w.heap.size]? := hgr.block w.heap.size (by omega) (fun e => by have := (D6.mr.gK.lies e.symm).1; omega)
                      have s3 : (fun Y : World => Y.cell? ⟨Q, 1, none⟩ = some (.slice ak ks.length ck)) Y := (World.cell?_of_block (a := ⟨Q, 1, none⟩) hkQ).trans D6.a1
                      have s3f : Y.frozen? ⟨Q, 1, none⟩ = false := (World.frozen?_of_block (a := ⟨Q, 1, none⟩) hkQ).trans (D6.af 1)
                      have hfin : Hid (((Y.setCell ⟨Q, 1, none⟩ (.slice a' (ks.length + 1) c')).cell? ⟨Q, 0, none⟩ = some (.bool alive) ∧ (Y.setCell ⟨Q, 1, none⟩ (.slice a' (ks.length + 1) c')).cell? ⟨Q, 1, none⟩ = some (.slice a' (ks.length + 1) c') ∧ (Y.setCell ⟨Q, 1, none⟩ (.slice a' (ks.length + 1) c')).cell? ⟨Q, 2, none⟩ = some (.slice al rs.length cl) ∧ (Y.setCell ⟨Q, 1, none⟩ (.slice a' (ks.length + 1) c')).cell? ⟨Q, 3, none⟩ = some (.slice ad zs.length cd)) ∧ (Y.setCell ⟨Q, 1, none⟩ (.slice a' (ks.length + 1) c')).heap[w.heap.size]? = some (.cells #[.bool false, .slice none 0 0, .slice none 0 0, .slice none 0 0] 28 (0, 0))) :=
                        ⟨⟨(cell_set_other (by omega)).trans ((World.cell?_of_block (a := ⟨Q, 0, none⟩) hkQ).trans D6.a0), cell_set_same s3, (cell_set_other (by omega)).trans ((World.cell?_of_block (a := ⟨Q, 2, none⟩) hkQ).trans D6.a2), (cell_set_other (by omega)).trans ((World.cell?_of_block (a := ⟨Q, 3, none⟩) hkQ).trans D6.a3)⟩, (Below.heap_setCell _ _ _ _ (by show w.heap.size ≠ Q; omega)).trans (hkA.trans D6.z)⟩
                      clear D6 hgr hrow hrow0 hlies hcp bV2 lq6 hir2 hsv hkQ hkA HIR HB HBK KD
                      have hS := s1
                      refine wpZ_takeP (i := 9) (v := ?_) rfl (by kernel_rfl) (fun _ _ _ h => h) (Or.inl ⟨by rfl, ?_⟩) hS ?_
                      rotate_left
                      · (intro X _; go_simp; first | done | with_reducible rfl | (rw [if_pos (by omega)]) | (rw [if_pos (by omega)]; go_simp))
                      simp only [Act.put]
                      refine wpZ_ready (rs := [10]) (by kernel_rfl) (by simp) ?_
                      refine AllZ.cons rfl (fun K hK => ?_) AllZ.nil
                      go_simp
                      refine hK.out _ _ (fun _ => by rw [← hV2]; exact s2) ?_
                      clear hK K
                      rw [← hV2]
                      clear hV2
                      refine wpZ_ready (rs := [11]) (by kernel_rfl) (by simp) ?_
                      refine AllZ.cons (o := ⟨some 78, _, _, _, _, _⟩) rfl (fun K hK => ?_) AllZ.nil
                      refine step_known _ rfl (.tmp 68) (.tmp 77) 24 rfl _ _ _ _ (by first | rfl | simp [Act.eval, Act.put]) (by first | rfl | simp [Act.eval, Act.put]) hr ?_
                      refine hK.out _ _ (fun _ => s3) ?_
                      clear hK K hr hS
                      simp only [Act.put]
                      have hS := s3
                      refine wpZ_takeP (i := 12) (v := ?_) rfl (by kernel_rfl) (fun _ _ _ h => h) (Or.inl ⟨by rfl, ?_⟩) hS ?_
                      rotate_left
                      · (intro X _; go_simp; first | done | with_reducible rfl | (rw [if_pos (by omega)]) | (rw [if_pos (by omega)]; go_simp))
                      simp only [Act.put]
                      have s4 : Y.cell? ⟨Q, 1, none⟩ = some (.slice ak ks.length ck) := s3
                      refine wpZ_ready (rs := [13]) (by kernel_rfl) (by simp) ?_
                      refine AllZ.cons rfl (fun K hK => ?_) AllZ.nil
                      go_simp
                      refine hK.out _ _ (fun h => absurd (show false = true from h.symm.trans (by kernel_rfl)) (by decide)) ?_
                      clear hK K
                      refine wpZ_done (by kernel_rfl) ?_ _
                      clear s1 s2 s3 s3f s4 hS DD
                      generalize (Y.setCell ⟨Q, 1, none⟩ (.slice a' (ks.length + 1) c')) = Y1 at *
                      obtain ⟨⟨a0, a1, a2, a3⟩, hz⟩ := hfin.out
                      obtain ⟨z0, z1, z2, z3, zf⟩ := zeroBoxM hz
                      have f0 := zf 0
                      have f1 := zf 1
                      have f2 := zf 2
                      have f3 := zf 3
                      clear zf hz hfin
                      go_wp2
                      refine bodyPost_ret (v := .agg #[.bool alive, .slice a' (ks.length + 1) c', .slice al rs.length cl, .slice ad zs.length cd]) (by simp [results, Tryz.results47, go_sem, z0, z1, z2, z3]) rfl ?_
                      exact KN.out _ _ _ _
                  · go_simp
                    refine (l1Below_any _ B c a n k _ DD.out.cu (BY.out _ DD.out.tu) hB (by omega)).mono ?_
                    rintro e E7 ⟨y5, rfl, hy50, hy51, c2, t2⟩
                    obtain ⟨q, rfl⟩ := Int.eq_ofNat_of_zero_le hy50
                    have hq4 : (q : Int) < 4 := by omega
                    have DE7 := hidOf (DD.out.step c2 t2)
                    refine hK.out _ _ (fun _ => DE7.out.a1) ?_
                    clear hK K hS c2 t2 hy50
                    have hS := DE7.out.a1
                    refine wpZ_ready (rs := [2, 8]) (by kernel_rfl) (by simp) ?_
                    refine AllZ.cons rfl (fun K hK => ?_) (AllZ.cons rfl (fun K hK => ?_) AllZ.nil)
                    · go_simp
                      obtain ⟨E8, hE8⟩ : ∃ V, V = E7.alloc (.cells #[.int .i64 (-1), .int .i64 0, .int .i64 5, .int .i64 6] 2) := ⟨_, rfl⟩
                      have bE8 : Below E7.heap.size E7 E8 := by rw [hE8]; exact (Below.refl _ _).alloc (Nat.le_refl _) _
                      have DE8 := hidOf (DE7.out.later bE8)
                      have HNX : Hid (∀ j, j < 4 → ∃ x : Int, E8.cell? ⟨E7.heap.size, j, none⟩ = some (.int .i64 x)) := fun j hj => by rw [hE8]; exact new_inI E7 [-1, 0, 5, 6] _ j (by simpa using hj)
                      have HNB : Hid (E7.heap.size < E8.heap.size ∧ E7.heap.size ≠ c) := by unfold Hid; rw [hE8]; have := DE7.out.lq; simp; omega
                      refine hK.out _ _ (fun _ => by rw [← hE8]; exact DE8.out.a1) ?_
                      clear hK K hS
                      rw [← hE8]
                      clear hE8
                      clear bE8
                      have hS := DE8.out.a1
                      obtain ⟨x, hx⟩ := HNX.out q (by omega)
                      refine wpZ_takeP (i := 5) (v := ?_) rfl (by kernel_rfl) (fun _ _ _ h => h) (Or.inl ⟨by rfl, ?_⟩) hS ?_
                      rotate_left
                      · (intro X _; go_simp; first | done | with_reducible rfl | (rw [if_pos (by omega)]) | (rw [if_pos (by omega)]; go_simp))
                      simp only [Act.put]
                      refine wpZ_ready (rs := [6, 8]) (by kernel_rfl) (by simp) ?_
                      refine AllZ.cons rfl (fun K hK => ?_) (AllZ.cons rfl (fun K hK => ?_) AllZ.nil)
                      · go_simp
                        refine hK.out _ _ (fun _ => hS) ?_
                        clear hK K hx
                        refine wpZ_ready (rs := [8]) (by kernel_rfl) (by simp) ?_
                        refine AllZ.cons rfl (fun K hK => ?_) AllZ.nil
                        go_simp
                        refine (l3DrawAny_any _ B c a n k DE8.out.cu (BY.out _ DE8.out.tu) hB).mono ?_
                        rintro e E10 ⟨vv, rfl, ⟨b, off, m, cp, rfl, hc1, hc2, hc3, hir, hom, hmc⟩, c2, t2⟩
                        have DE10 := hidOf (DE8.out.step c2 t2)
                        have HIR : Hid (IntRoom E10 b 12 ∧ off + m * 2 ≤ 12 ∧ m ≤ cp) := ⟨hir, hom, hmc⟩
                        have HBK : Hid (w.heap.size < b ∧ b < E10.heap.size ∧ b ≠ Q ∧ ∀ x, (blocksG (.slice ak ks.length ck) ks gk x ∨ blocksG (.slice al rs.length cl) rs gr x ∨ (Value.slice ad zs.length cd).ownBlock = some x) → x ≠ b) := by
                          have hl := DE8.out.lq
                          exact ⟨by omega, hc3, by omega, fun x hx => by have := DE8.out.old x hx; omega⟩
                        refine hK.out _ _ (fun _ => DE10.out.a1) ?_
                        clear hK K hS c2 t2 hc1 hc2 hc3 hir hom hmc
                        have hS := DE10.out.a1
                        have KD := hidOf (DE10).out
                        obtain ⟨V2, hV2⟩ : ∃ V, V = E10.alloc (.cells #[.int .i64 x, .slice (some ⟨b, off, none⟩) m cp] 97) := ⟨_, rfl⟩
                        have bV2 : Below E10.heap.size E10 V2 := by rw [hV2]; exact (Below.refl _ _).alloc (Nat.le_refl _) _
                        have D6 := KD.out.later bV2
                        have hsv := bV2.size
                        obtain ⟨caps, hrow0, hcp⟩ := D6.mr.gK.row
                        have lq6 := D6.lq
                        obtain ⟨a', c', Y, hr, hrow, hgr, hlies⟩ := pushAny hrow0 (.int .i64 x) (.slice (some ⟨b, off, none⟩) m cp) (by omega) 24 E10.heap.size (by rw [hV2]; go_simp) (by rw [hV2]; go_simp) rfl rfl (by omega)
                        have HB := hidOf HBK.out
                        have hir2 : IntRoom V2 b 12 := fun j hj => by
                          obtain ⟨z, h1, h2⟩ := HIR.out.1 j hj
                          exact ⟨z, (bV2.cell (p := ⟨b, j, none⟩) HB.out.2.1).trans h1, (bV2.frozen (p := ⟨b, j, none⟩) HB.out.2.1).trans h2⟩
                        have KN : Hid (∀ x0 x1 x2 x3, DrawnM w c a n k (.returned (.agg #[.bool alive, .slice a' (ks.length + 1) c', .slice al rs.length cl, .slice ad zs.length cd])) (((((Y.setCell ⟨Q, 1, none⟩ (.slice a' (ks.length + 1) c')).setCell ⟨w.heap.size, 0, none⟩ x0).setCell ⟨w.heap.size, 1, none⟩ x1).setCell ⟨w.heap.size, 2, none⟩ x2).setCell ⟨w.heap.size, 3, none⟩ x3)) := fun x0 x1 x2 x3 => DI.last D6 hcp hgr hrow hlies ⟨HB.out.1, by have := HB.out.2.1; omega, HB.out.2.2.1⟩ (fun e => HB.out.2.2.2 b (.inl (.inl e)) rfl) hir2 HIR.out.2.1 HIR.out.2.2 (by omega) x0 x1 x2 x3
                        have s1 : (fun Y : World => Y.cell? ⟨Q, 1, none⟩ = some (.slice ak ks.length ck)) E10 := KD.out.a1
                        have s2 : (fun Y : World => Y.cell? ⟨Q, 1, none⟩ = some (.slice ak ks.length ck)) V2 := D6.a1
                        have hkQ : Y.heap[Q]? = V2.heap[Q]? := hgr.block Q (by omega) (fun e => D6.mr.kp Q (.inl e.symm) rfl)
                        have hkA : Y.heap[w.heap.size]? = V2.heap[w.heap.size]? := hgr.block w.heap.size (by omega) (fun e => by have := (D6.mr.gK.lies e.symm).1; omega)
                        have s3 : (fun Y : World => Y.cell? ⟨Q, 1, none⟩ = some (.slice ak ks.length ck)) Y := (World.cell?_of_block (a := ⟨Q, 1, none⟩) hkQ).trans D6.a1
                        have s3f : Y.frozen? ⟨Q, 1, none⟩ = false := (World.frozen?_of_block (a := ⟨Q, 1, none⟩) hkQ).trans (D6.af 1)
                        have hfin : Hid (((Y.setCell ⟨Q, 1, none⟩ (.slice a' (ks.length + 1) c')).cell? ⟨Q, 0, none⟩ = some (.bool alive) ∧ (Y.setCell ⟨Q, 1, none⟩ (.slice a' (ks.length + 1) c')).cell? ⟨Q, 1, none⟩ = some (.slice a' (ks.length + 1) c') ∧ (Y.setCell ⟨Q, 1, none⟩ (.slice a' (ks.length + 1) c')).cell? ⟨Q, 2, none⟩ = some (.slice al rs.length cl) ∧ (Y.setCell ⟨Q, 1, none⟩ (.slice a' (ks.length + 1) c')).cell? ⟨Q, 3, none⟩ = some (.slice ad zs.length cd)) ∧ (Y.setCell ⟨Q, 1, none⟩ (.slice a' (ks.length + 1) c')).heap[w.heap.size]? = some (.cells #[.bool false, .slice none 0 0, .slice none 0 0, .slice none 0 0] 28 (0, 0))) :=
                          ⟨⟨(cell_set_other (by omega)).trans ((World.cell?_of_block (a := ⟨Q, 0, none⟩) hkQ).trans D6.a0), cell_set_same s3, (cell_set_other (by omega)).trans ((World.cell?_of_block (a := ⟨Q, 2, none⟩) hkQ).trans D6.a2), (cell_set_other (by omega)).trans ((World.cell?_of_block (a := ⟨Q, 3, none⟩) hkQ).trans D6.a3)⟩, (Below.heap_setCell _ _ _ _ (by show w.heap.size ≠ Q; omega)).trans (hkA.trans D6.z)⟩
                        clear D6 hgr hrow hrow0 hlies hcp bV2 lq6 hir2 hsv hkQ hkA HIR HB HBK KD
                        have hS := s1
                        refine wpZ_takeP (i := 9) (v := ?_) rfl (by kernel_rfl) (fun _ _ _ h => h) (Or.inl ⟨by rfl, ?_⟩) hS ?_
                        rotate_left
                        · (intro X _; go_simp; first | done | with_reducible rfl | (rw [if_pos (by omega)]) | (rw [if_pos (by omega)]; go_simp))
                        simp only [Act.put]
                        refine wpZ_ready (rs := [10]) (by kernel_rfl) (by simp) ?_
                        refine AllZ.cons rfl (fun K hK => ?_) AllZ.nil
                        go_simp
                        refine hK.out _ _ (fun _ => by rw [← hV2]; exact s2) ?_
                        clear hK K
                        rw [← hV2]
                        clear hV2
                        refine wpZ_ready (rs := [11]) (by kernel_rfl) (by simp) ?_
                        refine AllZ.cons (o := ⟨some 78, _, _, _, _, _⟩) rfl (fun K hK => ?_) AllZ.nil
                        refine step_known _ rfl (.tmp 68) (.tmp 77) 24 rfl _ _ _ _ (by first | rfl | simp [Act.eval, Act.put]) (by first | rfl | simp [Act.eval, Act.put]) hr ?_
                        refine hK.out _ _ (fun _ => s3) ?_
                        clear hK K hr hS
                        simp only [Act.put]
                        have hS := s3
                        refine wpZ_takeP (i := 12) (v := ?_) rfl (by kernel_rfl) (fun _ _ _ h => h) (Or.inl ⟨by rfl, ?_⟩) hS ?_
                        rotate_left
                        · (intro X _; go_simp; first | done | with_reducible rfl | (rw [if_pos (by omega)]) | (rw [if_pos (by omega)]; go_simp))
                        simp only [Act.put]
                        have s4 : Y.cell? ⟨Q, 1, none⟩ = some (.slice ak ks.length ck) := s3
                        refine wpZ_ready (rs := [13]) (by kernel_rfl) (by simp) ?_
                        refine AllZ.cons rfl (fun K hK => ?_) AllZ.nil
                        go_simp
                        refine hK.out _ _ (fun h => absurd (show false = true from h.symm.trans (by kernel_rfl)) (by decide)) ?_
                        clear hK K
                        refine wpZ_done (by kernel_rfl) ?_ _
                        clear s1 s2 s3 s3f s4 hS DD
                        generalize (Y.setCell ⟨Q, 1, none⟩ (.slice a' (ks.length + 1) c')) = Y1 at *
                        obtain ⟨⟨a0, a1, a2, a3⟩, hz⟩ := hfin.out
                        obtain ⟨z0, z1, z2, z3, zf⟩ := zeroBoxM hz
                        have f0 := zf 0
                        have f1 := zf 1
                        have f2 := zf 2
                        have f3 := zf 3
                        clear zf hz hfin
                        go_wp2
                        refine bodyPost_ret (v := .agg #[.bool alive, .slice a' (ks.length + 1) c', .slice al rs.length cl, .slice ad zs.length cd]) (by simp [results, Tryz.results47, go_sem, z0, z1, z2, z3]) rfl ?_
                        exact KN.out _ _ _ _
                      · go_simp
                        refine (l3DrawAny_any _ B c a n k DE8.out.cu (BY.out _ DE8.out.tu) hB).mono ?_
                        rintro e E11 ⟨vv, rfl, ⟨b, off, m, cp, rfl, hc1, hc2, hc3, hir, hom, hmc⟩, c2, t2⟩
                        have DE11 := hidOf (DE8.out.step c2 t2)
                        have HIR : Hid (IntRoom E11 b 12 ∧ off + m * 2 ≤ 12 ∧ m ≤ cp) := ⟨hir, hom, hmc⟩
                        have HBK : Hid (w.heap.size < b ∧ b < E11.heap.size ∧ b ≠ Q ∧ ∀ x, (blocksG (.slice ak ks.length ck) ks gk x ∨ blocksG (.slice al rs.length cl) rs gr x ∨ (Value.slice ad zs.length cd).ownBlock = some x) → x ≠ b) := by
                          have hl := DE8.out.lq
                          exact ⟨by omega, hc3, by omega, fun x hx => by have := DE8.out.old x hx; omega⟩
                        have hx := (t2.cell (p := ⟨E7.heap.size, q, none⟩) HNB.out.1 HNB.out.2).trans hx
                        refine hK.out _ _ (fun _ => DE11.out.a1) ?_
                        clear hK K hS c2 t2 hc1 hc2 hc3 hir hom hmc
                        have hS := DE11.out.a1
                        refine wpZ_ready (rs := [6]) (by kernel_rfl) (by simp) ?_
                        refine AllZ.cons rfl (fun K hK => ?_) AllZ.nil
                        go_simp
                        refine hK.out _ _ (fun _ => hS) ?_
                        clear hK K hx
                        have KD := hidOf (DE11).out
                        obtain ⟨V2, hV2⟩ : ∃ V, V = E11.alloc (.cells #[.int .i64 x, .slice (some ⟨b, off, none⟩) m cp] 97) := ⟨_, rfl⟩
                        have bV2 : Below E11.heap.size E11 V2 := by rw [hV2]; exact (Below.refl _ _).alloc (Nat.le_refl _) _
                        have D6 := KD.out.later bV2
                        have hsv := bV2.size
                        obtain ⟨caps, hrow0, hcp⟩ := D6.mr.gK.row
                        have lq6 := D6.lq
                        obtain ⟨a', c', Y, hr, hrow, hgr, hlies⟩ := pushAny hrow0 (.int .i64 x) (.slice (some ⟨b, off, none⟩) m cp) (by omega) 24 E11.heap.size (by rw [hV2]; go_simp) (by rw [hV2]; go_simp) rfl rfl (by omega)
                        have HB := hidOf HBK.out
                        have hir2 : IntRoom V2 b 12 := fun j hj => by
                          obtain ⟨z, h1, h2⟩ := HIR.out.1 j hj
                          exact ⟨z, (bV2.cell (p := ⟨b, j, none⟩) HB.out.2.1).trans h1, (bV2.frozen (p := ⟨b, j, none⟩) HB.out.2.1).trans h2⟩
                        have KN : Hid (∀ x0 x1 x2 x3, DrawnM w c a n k (.returned (.agg #[.bool alive, .slice a' (ks.length + 1) c', .slice al rs.length cl, .slice ad zs.length cd])) (((((Y.setCell ⟨Q, 1, none⟩ (.slice a' (ks.length + 1) c')).setCell ⟨w.heap.size, 0, none⟩ x0).setCell ⟨w.heap.size, 1, none⟩ x1).setCell ⟨w.heap.size, 2, none⟩ x2).setCell ⟨w.heap.size, 3, none⟩ x3)) := fun x0 x1 x2 x3 => DI.last D6 hcp hgr hrow hlies ⟨HB.out.1, by have := HB.out.2.1; omega, HB.out.2.2.1⟩ (fun e => HB.out.2.2.2 b (.inl (.inl e)) rfl) hir2 HIR.out.2.1 HIR.out.2.2 (by omega) x0 x1 x2 x3
                        have s1 : (fun Y : World => Y.cell? ⟨Q, 1, none⟩ = some (.slice ak ks.length ck)) E11 := KD.out.a1
                        have s2 : (fun Y : World => Y.cell? ⟨Q, 1, none⟩ = some (.slice ak ks.length ck)) V2 := D6.a1
                        have hkQ : Y.heap[Q]? = V2.heap[Q]? := hgr.block Q (by omega) (fun e => D6.mr.kp Q (.inl e.symm) rfl)
                        have hkA : Y.heap[w.heap.size]? = V2.heap[w.heap.size]? := hgr.block w.heap.size (by omega) (fun e => by have := (D6.mr.gK.lies e.symm).1; omega)
                        have s3 : (fun Y : World => Y.cell? ⟨Q, 1, none⟩ = some (.slice ak ks.length ck)) Y := (World.cell?_of_block (a := ⟨Q, 1, none⟩) hkQ).trans D6.a1
                        have s3f : Y.frozen? ⟨Q, 1, none⟩ = false := (World.frozen?_of_block (a := ⟨Q, 1, none⟩) hkQ).trans (D6.af 1)
                        have hfin : Hid (((Y.setCell ⟨Q, 1, none⟩ (.slice a' (ks.length + 1) c')).cell? ⟨Q, 0, none⟩ = some (.bool alive) ∧ (Y.setCell ⟨Q, 1, none⟩ (.slice a' (ks.length + 1) c')).cell? ⟨Q, 1, none⟩ = some (.slice a' (ks.length + 1) c') ∧ (Y.setCell ⟨Q, 1, none⟩ (.slice a' (ks.length + 1) c')).cell? ⟨Q, 2, none⟩ = some (.slice al rs.length cl) ∧ (Y.setCell ⟨Q, 1, none⟩ (.slice a' (ks.length + 1) c')).cell? ⟨Q, 3, none⟩ = some (.slice ad zs.length cd)) ∧ (Y.setCell ⟨Q, 1, none⟩ (.slice a' (ks.length + 1) c')).heap[w.heap.size]? = some (.cells #[.bool false, .slice none 0 0, .slice none 0 0, .slice none 0 0] 28 (0, 0))) :=
                          ⟨⟨(cell_set_other (by omega)).trans ((World.cell?_of_block (a := ⟨Q, 0, none⟩) hkQ).trans D6.a0), cell_set_same s3, (cell_set_other (by omega)).trans ((World.cell?_of_block (a := ⟨Q, 2, none⟩) hkQ).trans D6.a2), (cell_set_other (by omega)).trans ((World.cell?_of_block (a := ⟨Q, 3, none⟩) hkQ).trans D6.a3)⟩, (Below.heap_setCell _ _ _ _ (by show w.heap.size ≠ Q; omega)).trans (hkA.trans D6.z)⟩
                        clear D6 hgr hrow hrow0 hlies hcp bV2 lq6 hir2 hsv hkQ hkA HIR HB HBK KD
                        have hS := s1
                        refine wpZ_takeP (i := 9) (v := ?_) rfl (by kernel_rfl) (fun _ _ _ h => h) (Or.inl ⟨by rfl, ?_⟩) hS ?_
                        rotate_left
                        · (intro X _; go_simp; first | done | with_reducible rfl | (rw [if_pos (by omega)]) | (rw [if_pos (by omega)]; go_simp))
                        simp only [Act.put]
                        refine wpZ_ready (rs := [10]) (by kernel_rfl) (by simp) ?_
                        refine AllZ.cons rfl (fun K hK => ?_) AllZ.nil
                        go_simp
                        refine hK.out _ _ (fun _ => by rw [← hV2]; exact s2) ?_
                        clear hK K
                        rw [← hV2]
                        clear hV2
                        refine wpZ_ready (rs := [11]) (by kernel_rfl) (by simp) ?_
                        refine AllZ.cons (o := ⟨some 78, _, _, _, _, _⟩) rfl (fun K hK => ?_) AllZ.nil
                        refine step_known _ rfl (.tmp 68) (.tmp 77) 24 rfl _ _ _ _ (by first | rfl | simp [Act.eval, Act.put]) (by first | rfl | simp [Act.eval, Act.put]) hr ?_
                        refine hK.out _ _ (fun _ => s3) ?_
                        clear hK K hr hS
                        simp only [Act.put]
                        have hS := s3
                        refine wpZ_takeP (i := 12) (v := ?_) rfl (by kernel_rfl) (fun _ _ _ h => h) (Or.inl ⟨by rfl, ?_⟩) hS ?_
                        rotate_left
                        · (intro X _; go_simp; first | done | with_reducible rfl | (rw [if_pos (by omega)]) | (rw [if_pos (by omega)]; go_simp))
                        simp only [Act.put]
                        have s4 : Y.cell? ⟨Q, 1, none⟩ = some (.slice ak ks.length ck) := s3
                        refine wpZ_ready (rs := [13]) (by kernel_rfl) (by simp) ?_
                        refine AllZ.cons rfl (fun K hK => ?_) AllZ.nil
                        go_simp
                        refine hK.out _ _ (fun h => absurd (show false = true from h.symm.trans (by kernel_rfl)) (by decide)) ?_
                        clear hK K
                        refine wpZ_done (by kernel_rfl) ?_ _
                        clear s1 s2 s3 s3f s4 hS DD
                        generalize (Y.setCell ⟨Q, 1, none⟩ (.slice a' (ks.length + 1) c')) = Y1 at *
                        obtain ⟨⟨a0, a1, a2, a3⟩, hz⟩ := hfin.out
                        obtain ⟨z0, z1, z2, z3, zf⟩ := zeroBoxM hz
                        have f0 := zf 0
                        have f1 := zf 1
                        have f2 := zf 2
                        have f3 := zf 3
                        clear zf hz hfin
                        go_wp2
                        refine bodyPost_ret (v := .agg #[.bool alive, .slice a' (ks.length + 1) c', .slice al rs.length cl, .slice ad zs.length cd]) (by simp [results, Tryz.results47, go_sem, z0, z1, z2, z3]) rfl ?_
                        exact KN.out _ _ _ _
                    · go_simp
                      refine (l3DrawAny_any _ B c a n k DE7.out.cu (BY.out _ DE7.out.tu) hB).mono ?_
                      rintro e E13 ⟨vv, rfl, ⟨b, off, m, cp, rfl, hc1, hc2, hc3, hir, hom, hmc⟩, c2, t2⟩
                      have DE13 := hidOf (DE7.out.step c2 t2)
                      have HIR : Hid (IntRoom E13 b 12 ∧ off + m * 2 ≤ 12 ∧ m ≤ cp) := ⟨hir, hom, hmc⟩
                      have HBK : Hid (w.heap.size < b ∧ b < E13.heap.size ∧ b ≠ Q ∧ ∀ x, (blocksG (.slice ak ks.length ck) ks gk x ∨ blocksG (.slice al rs.length cl) rs gr x ∨ (Value.slice ad zs.length cd).ownBlock = some x) → x ≠ b) := by
                        have hl := DE7.out.lq
                        exact ⟨by omega, hc3, by omega, fun x hx => by have := DE7.out.old x hx; omega⟩
                      refine hK.out _ _ (fun _ => DE13.out.a1) ?_
                      clear hK K hS c2 t2 hc1 hc2 hc3 hir hom hmc
                      have hS := DE13.out.a1
                      refine wpZ_ready (rs := [2]) (by kernel_rfl) (by simp) ?_
                      refine AllZ.cons rfl (fun K hK => ?_) AllZ.nil
                      go_simp
                      obtain ⟨E14, hE14⟩ : ∃ V, V = E13.alloc (.cells #[.int .i64 (-1), .int .i64 0, .int .i64 5, .int .i64 6] 2) := ⟨_, rfl⟩
                      have bE14 : Below E13.heap.size E13 E14 := by rw [hE14]; exact (Below.refl _ _).alloc (Nat.le_refl _) _
                      have DE14 := hidOf (DE13.out.later bE14)
                      have HNX : Hid (∀ j, j < 4 → ∃ x : Int, E14.cell? ⟨E13.heap.size, j, none⟩ = some (.int .i64 x)) := fun j hj => by rw [hE14]; exact new_inI E13 [-1, 0, 5, 6] _ j (by simpa using hj)
                      have HNB : Hid (E13.heap.size < E14.heap.size ∧ E13.heap.size ≠ c) := by unfold Hid; rw [hE14]; have := DE13.out.lq; simp; omega
                      refine hK.out _ _ (fun _ => by rw [← hE14]; exact DE14.out.a1) ?_
                      clear hK K hS
                      rw [← hE14]
                      clear hE14
                      have HIR : Hid (IntRoom E14 b 12 ∧ off + m * 2 ≤ 12 ∧ m ≤ cp) := ⟨fun j hj => by
                        obtain ⟨z, h1, h2⟩ := HIR.out.1 j hj
                        exact ⟨z, (bE14.cell (p := ⟨b, j, none⟩) HBK.out.2.1).trans h1, (bE14.frozen (p := ⟨b, j, none⟩) HBK.out.2.1).trans h2⟩, HIR.out.2⟩
                      have HBK : Hid (w.heap.size < b ∧ b < E14.heap.size ∧ b ≠ Q ∧ ∀ x, (blocksG (.slice ak ks.length ck) ks gk x ∨ blocksG (.slice al rs.length cl) rs gr x ∨ (Value.slice ad zs.length cd).ownBlock = some x) → x ≠ b) := ⟨HBK.out.1, Nat.lt_of_lt_of_le HBK.out.2.1 bE14.size, HBK.out.2.2⟩
                      clear bE14
                      have hS := DE14.out.a1
                      obtain ⟨x, hx⟩ := HNX.out q (by omega)
                      refine wpZ_takeP (i := 5) (v := ?_) rfl (by kernel_rfl) (fun _ _ _ h => h) (Or.inl ⟨by rfl, ?_⟩) hS ?_
                      rotate_left
                      · (intro X _; go_simp; first | done | with_reducible rfl | (rw [if_pos (by omega)]) | (rw [if_pos (by omega)]; go_simp))
                      simp only [Act.put]
                      refine wpZ_ready (rs := [6]) (by kernel_rfl) (by simp) ?_
                      refine AllZ.cons rfl (fun K hK => ?_) AllZ.nil
                      go_simp
                      refine hK.out _ _ (fun _ => hS) ?_
                      clear hK K hx
                      have KD := hidOf (DE14).out
                      obtain ⟨V2, hV2⟩ : ∃ V, V = E14.alloc (.cells #[.int .i64 x, .slice (some ⟨b, off, none⟩) m cp] 97) := ⟨_, rfl⟩
                      have bV2 : Below E14.heap.size E14 V2 := by rw [hV2]; exact (Below.refl _ _).alloc (Nat.le_refl _) _
                      have D6 := KD.out.later bV2
                      have hsv := bV2.size
                      obtain ⟨caps, hrow0, hcp⟩ := D6.mr.gK.row
                      have lq6 := D6.lq
                      obtain ⟨a', c', Y, hr, hrow, hgr, hlies⟩ := pushAny hrow0 (.int .i64 x) (.slice (some ⟨b, off, none⟩) m cp) (by omega) 24 E14.heap.size (by rw [hV2]; go_simp) (by rw [hV2]; go_simp) rfl rfl (by omega)
                      have HB := hidOf HBK.out
                      have hir2 : IntRoom V2 b 12 := fun j hj => by
                        obtain ⟨z, h1, h2⟩ := HIR.out.1 j hj
                        exact ⟨z, (bV2.cell (p := ⟨b, j, none⟩) HB.out.2.1).trans h1, (bV2.frozen (p := ⟨b, j, none⟩) HB.out.2.1).trans h2⟩
                      have KN : Hid (∀ x0 x1 x2 x3, DrawnM w c a n k (.returned (.agg #[.bool alive, .slice a' (ks.length + 1) c', .slice al rs.length cl, .slice ad zs.length cd])) (((((Y.setCell ⟨Q, 1, none⟩ (.slice a' (ks.length + 1) c')).setCell ⟨w.heap.size, 0, none⟩ x0).setCell ⟨w.heap.size, 1, none⟩ x1).setCell ⟨w.heap.size, 2, none⟩ x2).setCell ⟨w.heap.size, 3, none⟩ x3)) := fun x0 x1 x2 x3 => DI.last D6 hcp hgr hrow hlies ⟨HB.out.1, by have := HB.out.2.1; omega, HB.out.2.2.1⟩ (fun e => HB.out.2.2.2 b (.inl (.inl e)) rfl) hir2 HIR.out.2.1 HIR.out.2.2 (by omega) x0 x1 x2 x3
                      have s1 : (fun Y : World => Y.cell? ⟨Q, 1, none⟩ = some (.slice ak ks.length ck)) E14 := KD.out.a1
                      have s2 : (fun Y : World => Y.cell? ⟨Q, 1, none⟩ = some (.slice ak ks.length ck)) V2 := D6.a1
                      have hkQ : Y.heap[Q]? = V2.heap[Q]? := hgr.block Q (by omega) (fun e => D6.mr.kp Q (.inl e.symm) rfl)
                      have hkA : Y.heap[w.heap.size]? = V2.heap[w.heap.size]? := hgr.block w.heap.size (by omega) (fun e => by have := (D6.mr.gK.lies e.symm).1; omega)
                      have s3 : (fun Y : World => Y.cell? ⟨Q, 1, none⟩ = some (.slice ak ks.length ck)) Y := (World.cell?_of_block (a := ⟨Q, 1, none⟩) hkQ).trans D6.a1
                      have s3f : Y.frozen? ⟨Q, 1, none⟩ = false := (World.frozen?_of_block (a := ⟨Q, 1, none⟩) hkQ).trans (D6.af 1)
                      have hfin : Hid (((Y.setCell ⟨Q, 1, none⟩ (.slice a' (ks.length + 1) c')).cell? ⟨Q, 0, none⟩ = some (.bool alive) ∧ (Y.setCell ⟨Q, 1, none⟩ (.slice a' (ks.length + 1) c')).cell? ⟨Q, 1, none⟩ = some (.slice a' (ks.length + 1) c') ∧ (Y.setCell ⟨Q, 1, none⟩ (.slice a' (ks.length + 1) c')).cell? ⟨Q, 2, none⟩ = some (.slice al rs.length cl) ∧ (Y.setCell ⟨Q, 1, none⟩ (.slice a' (ks.length + 1) c')).cell? ⟨Q, 3, none⟩ = some (.slice ad zs.length cd)) ∧ (Y.setCell ⟨Q, 1, none⟩ (.slice a' (ks.length + 1) c')).heap[w.heap.size]? = some (.cells #[.bool false, .slice none 0 0, .slice none 0 0, .slice none 0 0] 28 (0, 0))) :=
                        ⟨⟨(cell_set_other (by omega)).trans ((World.cell?_of_block (a := ⟨Q, 0, none⟩) hkQ).trans D6.a0), cell_set_same s3, (cell_set_other (by omega)).trans ((World.cell?_of_block (a := ⟨Q, 2, none⟩) hkQ).trans D6.a2), (cell_set_other (by omega)).trans ((World.cell?_of_block (a := ⟨Q, 3, none⟩) hkQ).trans D6.a3)⟩, (Below.heap_setCell _ _ _ _ (by show w.heap.size ≠ Q; omega)).trans (hkA.trans D6.z)⟩
                      clear D6 hgr hrow hrow0 hlies hcp bV2 lq6 hir2 hsv hkQ hkA HIR HB HBK KD
                      have hS := s1
                      refine wpZ_takeP (i := 9) (v := ?_) rfl (by kernel_rfl) (fun _ _ _ h => h) (Or.inl ⟨by rfl, ?_⟩) hS ?_
                      rotate_left
                      · (intro X _; go_simp; first | done | with_reducible rfl | (rw [if_pos (by omega)]) | (rw [if_pos (by omega)]; go_simp))
                      simp only [Act.put]
                      refine wpZ_ready (rs := [10]) (by kernel_rfl) (by simp) ?_
                      refine AllZ.cons rfl (fun K hK => ?_) AllZ.nil
                      go_simp
                      refine hK.out _ _ (fun _ => by rw [← hV2]; exact s2) ?_
                      clear hK K
                      rw [← hV2]
                      clear hV2
                      refine wpZ_ready (rs := [11]) (by kernel_rfl) (by simp) ?_
                      refine AllZ.cons (o := ⟨some 78, _, _, _, _, _⟩) rfl (fun K hK => ?_) AllZ.nil
                      refine step_known _ rfl (.tmp 68) (.tmp 77) 24 rfl _ _ _ _ (by first | rfl | simp [Act.eval, Act.put]) (by first | rfl | simp [Act.eval, Act.put]) hr ?_
                      refine hK.out _ _ (fun _ => s3) ?_
                      clear hK K hr hS
                      simp only [Act.put]
                      have hS := s3
                      refine wpZ_takeP (i := 12) (v := ?_) rfl (by kernel_rfl) (fun _ _ _ h => h) (Or.inl ⟨by rfl, ?_⟩) hS ?_
                      rotate_left
                      · (intro X _; go_simp; first | done | with_reducible rfl | (rw [if_pos (by omega)]) | (rw [if_pos (by omega)]; go_simp))
                      simp only [Act.put]
                      have s4 : Y.cell? ⟨Q, 1, none⟩ = some (.slice ak ks.length ck) := s3
                      refine wpZ_ready (rs := [13]) (by kernel_rfl) (by simp) ?_
                      refine AllZ.cons rfl (fun K hK => ?_) AllZ.nil
                      go_simp
                      refine hK.out _ _ (fun h => absurd (show false = true from h.symm.trans (by kernel_rfl)) (by decide)) ?_
                      clear hK K
                      refine wpZ_done (by kernel_rfl) ?_ _
                      clear s1 s2 s3 s3f s4 hS DD
                      generalize (Y.setCell ⟨Q, 1, none⟩ (.slice a' (ks.length + 1) c')) = Y1 at *
                      obtain ⟨⟨a0, a1, a2, a3⟩, hz⟩ := hfin.out
                      obtain ⟨z0, z1, z2, z3, zf⟩ := zeroBoxM hz
                      have f0 := zf 0
                      have f1 := zf 1
                      have f2 := zf 2
                      have f3 := zf 3
                      clear zf hz hfin
                      go_wp2
                      refine bodyPost_ret (v := .agg #[.bool alive, .slice a' (ks.length + 1) c', .slice al rs.length cl, .slice ad zs.length cd]) (by simp [results, Tryz.results47, go_sem, z0, z1, z2, z3]) rfl ?_
                      exact KN.out _ _ _ _
                · clear hy0 hy1
                  obtain ⟨vk, vr, vd, ks, rs, zs, gk, gr, hD, hb1, hb2, hb3⟩ := HR3.out
                  obtain ⟨-, ⟨al, cl, rfl⟩, -⟩ := hD.forms
                  have HD := hidOf hD
                  clear hD HR3
                  have td : Turned c w3 w3.drew := (Turned.refl _ _).drew
                  have DD := hidOf (HD.out.step (Y := w3.drew) (HD.out.cu.drewN 1) td)
                  have hS : (fun Y : World => Y.cell? ⟨Q, 2, none⟩ = some (.slice al rs.length cl)) w3.drew := DD.out.a2
                  have hoc := l2Draw_any w3.drew B c a n k DD.out.cu (BY.out _ DD.out.tu) hB
                  go_wp2_with fail
                  refine wp_region_z (fun z => z == 7) (fun Y : World => Y.cell? ⟨Q, 2, none⟩ = some (.slice al rs.length cl)) (by kernel_rfl) ?_
                  generalize w3.drew = Xd at *
                  refine wpZ_takeP (i := 0) (v := ?_) rfl (by kernel_rfl) (fun _ _ _ h => h) (Or.inl ⟨by rfl, ?_⟩) hS ?_
                  rotate_left
                  · (intro X _; go_simp; first | done | with_reducible rfl | (rw [if_pos (by omega)]) | (rw [if_pos (by omega)]; go_simp))
                  simp only [Act.put]
                  refine wpZ_take (i := 1) (v := ?_) rfl (by kernel_rfl) (fun _ _ _ h => h) (Or.inl ⟨by rfl, ?_⟩) hS ?_
                  rotate_left
                  · (intro X hSw; go_simp; first | done | with_reducible rfl)
                  simp only [Act.put]
                  refine wpZ_takeP (i := 2) (v := ?_) rfl (by kernel_rfl) (fun _ _ _ h => h) (Or.inl ⟨by rfl, ?_⟩) hS ?_
                  rotate_left
                  · (intro X _; go_simp; first | done | with_reducible rfl | (rw [if_pos (by omega)]) | (rw [if_pos (by omega)]; go_simp))
                  simp only [Act.put]
                  refine wpZ_ready (rs := [3]) (by kernel_rfl) (by simp) ?_
                  refine AllZ.cons rfl (fun K hK => ?_) AllZ.nil
                  go_simp
                  refine hoc.mono ?_
                  clear hoc
                  rintro e X2 ⟨K0, T0, R0, g, m, cap, xs, rfl, -, -, -, hxl, hm7, -, hg1, hgc, hg2, hsa, hro, c2, t2⟩
                  have KD := hidOf (DD.out.step c2 t2)
                  have lqd := DD.out.lq
                  have OLD : Hid (∀ x, (blocksG vk ks gk x ∨ blocksG (.slice al rs.length cl) rs gr x ∨ vd.ownBlock = some x) → x < Xd.heap.size) := DD.out.old
                  have HAT : Hid (SetsAt X2 g 0 xs ∧ Room X2 g (xs.length * 5)) := ⟨hsa, by rw [hxl]; exact hro.1⟩
                  have HG : Hid (Xd.heap.size ≤ g ∧ g < X2.heap.size ∧ xs.length = m ∧ m ≤ cap ∧ m ≤ 7 ∧ Q < Xd.heap.size ∧ w.heap.size < Q) := ⟨hg1, hg2, hxl, hro.2, hm7, by omega, by omega⟩
                  clear hsa hro hg1 hg2 hgc hxl hm7 c2 t2 lqd DD td
                  obtain ⟨V2, hV2⟩ : ∃ V, V = X2.alloc (.cells #[.int .i64 K0, .int .i64 T0, .int .i64 R0, .slice (some ⟨g, 0, none⟩) m cap] 41) := ⟨_, rfl⟩
                  have bV2 : Below X2.heap.size X2 V2 := by rw [hV2]; exact (Below.refl _ _).alloc (Nat.le_refl _) _
                  have D6 := KD.out.later bV2
                  have lq6 := KD.out.lq
                  have sV2 := bV2.size
                  obtain ⟨v', Y, hr, hmr', hgr⟩ := D6.mr.pushR2 (by omega) (by omega) ⟨K0, T0, R0, xs⟩ g cap X2.heap.size (by omega) 25 (by rw [hV2]; go_simp) (by rw [hV2]; go_simp) (by rw [hV2]; go_simp) (by show V2.cell? _ = some (.slice (some ⟨g, 0, none⟩) xs.length cap); rw [HG.out.2.2.1, hV2]; go_simp) (AtR.of_block _ _ _ _ (bV2.block g HG.out.2.1) (show AtR X2 g ⟨K0, T0, R0, xs⟩ from HAT.out)) (by show xs.length ≤ cap; have := HG.out.2.2; omega) (by have := HG.out; omega) (by have := HG.out; omega) (fun x hx => by have := OLD.out x hx; have := HG.out.1; omega) (by have := HG.out; omega)
                  have hlen : (rs ++ [(⟨K0, T0, R0, xs⟩ : R4)]).length = rs.length + 1 := by simp
                  obtain ⟨_, hro, -⟩ := hmr'.gR.row
                  obtain ⟨a', c', rfl⟩ := owns_slice' hro
                  rw [hlen] at hmr' hr
                  clear hro
                  have D7 := D6.put2 hgr hmr' (D6.ml.pushR ⟨K0, T0, R0, xs⟩ (by show xs.length ≤ maxLen; have := HG.out.2.2; unfold maxLen; omega) (by omega))
                  have KN : Hid (DX w c Q a n k alive (14 + 1) (Y.setCell ⟨Q, 2, none⟩ (.slice a' (rs.length + 1) c'))) := ⟨_, _, _, _, _, _, _, _, D7, by omega, by rw [hlen]; omega, by omega⟩
                  have lq7 := D6.lq
                  have s3 : Y.cell? ⟨Q, 2, none⟩ = some (.slice al rs.length cl) := (World.cell?_of_block (a := ⟨Q, 2, none⟩) (hgr.block Q (by omega) (fun e => D6.mr.rp Q (.inl e.symm) rfl))).trans D6.a2
                  have s3f : Y.frozen? ⟨Q, 2, none⟩ = false := (World.frozen?_of_block (a := ⟨Q, 2, none⟩) (hgr.block Q (by omega) (fun e => D6.mr.rp Q (.inl e.symm) rfl))).trans (D6.af 2)
                  have s1 : (fun Y : World => Y.cell? ⟨Q, 2, none⟩ = some (.slice al rs.length cl)) X2 := KD.out.a2
                  have s2 : (fun Y : World => Y.cell? ⟨Q, 2, none⟩ = some (.slice al rs.length cl)) V2 := D6.a2
                  refine hK.out _ _ (fun _ => s1) ?_
                  clear hK K hS D6 D7 hmr' hgr bV2 lq6 lq7 sV2 hlen KD HAT HG OLD
                  have hS := s1
                  clear s1
                  refine wpZ_ready (rs := [4]) (by kernel_rfl) (by simp) ?_
                  refine AllZ.cons rfl (fun K hK => ?_) AllZ.nil
                  go_simp
                  refine hK.out _ _ (fun _ => by rw [← hV2]; exact s2) ?_
                  clear hK K
                  rw [← hV2]
                  clear hV2
                  refine wpZ_ready (rs := [5]) (by kernel_rfl) (by simp) ?_
                  refine AllZ.cons (o := ⟨some 87, _, _, _, _, _⟩) rfl (fun K hK => ?_) AllZ.nil
                  refine step_known _ rfl (.tmp 83) (.tmp 86) 25 rfl _ _ _ _ (by first | rfl | simp [Act.eval, Act.put]) (by first | rfl | simp [Act.eval, Act.put]) hr ?_
                  refine hK.out _ _ (fun _ => s3) ?_
                  clear hK K hr hS
                  simp only [Act.put]
                  have hS := s3
                  refine wpZ_takeP (i := 6) (v := ?_) rfl (by kernel_rfl) (fun _ _ _ h => h) (Or.inl ⟨by rfl, ?_⟩) hS ?_
                  rotate_left
                  · (intro X _; go_simp; first | done | with_reducible rfl | (rw [if_pos (by omega)]) | (rw [if_pos (by omega)]; go_simp))
                  simp only [Act.put]
                  have s4 : Y.cell? ⟨Q, 2, none⟩ = some (.slice al rs.length cl) := s3
                  refine wpZ_ready (rs := [7]) (by kernel_rfl) (by simp) ?_
                  refine AllZ.cons rfl (fun K hK => ?_) AllZ.nil
                  go_simp
                  refine hK.out _ _ (fun h => absurd (show false = true from h.symm.trans (by kernel_rfl)) (by decide)) ?_
                  clear hK K
                  refine wpZ_done (by kernel_rfl) ?_ _
                  clear s2 s3 s3f s4 hS HD
                  generalize (Y.setCell ⟨Q, 2, none⟩ (.slice a' (rs.length + 1) c')) = Y1 at *
                  have HR := KN
                  clear KN
                  obtain ⟨vk, vr, vd, ks, rs, zs, gk, gr, hD, -, -, -⟩ := HR.out
                  obtain ⟨⟨ak, ck, rfl⟩, ⟨al, cl, rfl⟩, ⟨ad, cd, rfl⟩⟩ := hD.forms
                  have HD := hidOf hD
                  obtain ⟨z0, z1, z2, z3, zf⟩ := zeroBoxM hD.z
                  have f0 := zf 0
                  have f1 := zf 1
                  have f2 := zf 2
                  have f3 := zf 3
                  obtain ⟨-, a0, a1, a2, a3, -, -, -, -, -, -⟩ := hD
                  clear zf HR
                  go_wp2
                  refine bodyPost_ret (v := .agg #[.bool alive, .slice ak ks.length ck, .slice al rs.length cl, .slice ad zs.length cd]) (by simp [results, Tryz.results47, go_sem, z0, z1, z2, z3]) rfl ?_
                  exact DI.fin HD.out _ _ _ _
                · clear hy0 hy1
                  obtain ⟨vk, vr, vd, ks, rs, zs, gk, gr, hD, hb1, hb2, hb3⟩ := HR3.out
                  obtain ⟨-, -, ⟨ad, cd, rfl⟩⟩ := hD.forms
                  have HD := hidOf hD
                  clear hD HR3
                  have td : Turned c w3 w3.drew := (Turned.refl _ _).drew
                  have DD := hidOf (HD.out.step (Y := w3.drew) (HD.out.cu.drewN 1) td)
                  have hS : (fun Y : World => Y.cell? ⟨Q, 3, none⟩ = some (.slice ad zs.length cd)) w3.drew := DD.out.a3
                  go_wp2_with fail
                  refine wp_region_z (fun z => z == 10) (fun Y : World => Y.cell? ⟨Q, 3, none⟩ = some (.slice ad zs.length cd)) (by kernel_rfl) ?_
                  generalize w3.drew = Xd at *
                  clear td HD
                  refine wpZ_takeP (i := 0) (v := ?_) rfl (by kernel_rfl) (fun _ _ _ h => h) (Or.inl ⟨by rfl, ?_⟩) hS ?_
                  rotate_left
                  · (intro X _; go_simp; first | done | with_reducible rfl | (rw [if_pos (by omega)]) | (rw [if_pos (by omega)]; go_simp))
                  simp only [Act.put]
                  refine wpZ_take (i := 1) (v := ?_) rfl (by kernel_rfl) (fun _ _ _ h => h) (Or.inl ⟨by rfl, ?_⟩) hS ?_
                  rotate_left
                  · (intro X hSw; go_simp; first | done | with_reducible rfl)
                  simp only [Act.put]
                  refine wpZ_takeP (i := 3) (v := ?_) rfl (by kernel_rfl) (fun _ _ _ h => h) (Or.inl ⟨by rfl, ?_⟩) hS ?_
                  rotate_left
                  · (intro X _; go_simp; first | done | with_reducible rfl | (rw [if_pos (by omega)]) | (rw [if_pos (by omega)]; go_simp))
                  simp only [Act.put]
                  refine wpZ_ready (rs := [2, 4]) (by kernel_rfl) (by simp) ?_
                  refine AllZ.cons rfl (fun K hK => ?_) (AllZ.cons rfl (fun K hK => ?_) AllZ.nil)
                  · go_simp
                    obtain ⟨V4, hV4⟩ : ∃ V, V = Xd.alloc (.cells #[.int .i64 0, .int .i64 3, .int .i64 1000000, .int .i64 1000001] 2) := ⟨_, rfl⟩
                    have bV4 : Below Xd.heap.size Xd V4 := by rw [hV4]; exact (Below.refl _ _).alloc (Nat.le_refl _) _
                    have DV := hidOf (DD.out.later bV4)
                    have sv : (fun Y : World => Y.cell? ⟨Q, 3, none⟩ = some (.slice ad zs.length cd)) V4 := DV.out.a3
                    refine hK.out _ _ (fun _ => by rw [← hV4]; exact sv) ?_
                    clear hK K hS bV4
                    rw [← hV4]
                    have HV4 := hidOf hV4
                    clear hV4
                    have lqd := DD.out.lq
                    refine wpZ_ready (rs := [4]) (by kernel_rfl) (by simp) ?_
                    refine AllZ.cons rfl (fun K hK => ?_) AllZ.nil
                    go_simp
                    refine (l1Below_any _ B c a n k _ DV.out.cu (BY.out _ DV.out.tu) hB (by omega)).mono ?_
                    rintro e X2 ⟨y5, rfl, hy50, hy51, c2, t2⟩
                    obtain ⟨q, rfl⟩ := Int.eq_ofNat_of_zero_le hy50
                    have hx' : ∃ x : Int, X2.cell? ⟨Xd.heap.size, q, none⟩ = some (.int .i64 x) := by
                      rw [HV4.out] at t2
                      exact new_in_turnedI [0, 3, 1000000, 1000001] _ (by omega) t2 q (by simp; omega)
                    obtain ⟨x, hx⟩ := hx'
                    have KD := hidOf (DV.out.step c2 t2)
                    have hq4 : (q : Int) < 4 := by omega
                    refine hK.out _ _ (fun _ => KD.out.a3) ?_
                    clear hK K c2 t2 HV4 DV sv hy50 lqd
                    obtain ⟨V2, hV2⟩ : ∃ V, V = X2.alloc (.cells #[.int .i64 x] 2) := ⟨_, rfl⟩
                    have bV2 : Below X2.heap.size X2 V2 := by rw [hV2]; exact (Below.refl _ _).alloc (Nat.le_refl _) _
                    have sV2 : V2.heap.size = X2.heap.size + 1 := by rw [hV2]; simp
                    have D6 := KD.out.later bV2
                    have hone : SlN V2 V2.heap.size (some ⟨X2.heap.size, 0, none⟩) [x].length [x] := ⟨rfl, .inr ⟨X2.heap.size, 0, rfl, by omega, fun j u e => by
                      rcases j with _ | j
                      · simp at e; subst e; rw [hV2]; go_simp
                      · simp at e⟩⟩
                    have lq6 := KD.out.lq
                    obtain ⟨a', c', Y, hr, hrow, hgr, hlies⟩ := pushZ (zs := zs) D6.mr.gD [x] (by simp; omega) 26 (some ⟨X2.heap.size, 0, none⟩) 1 hone (by omega)
                    have hlen : (zs ++ [x]).length = zs.length + 1 := by simp
                    rw [hlen] at hr hrow hlies
                    have hmr' := D6.mr.cleared (zs' := zs ++ [x]) (by have := D6.lq; omega) hgr (by rw [hlen]; exact (show Y.ownsRow _ _ _ _ _ _ from by have := hrow; unfold RowZ at this; rw [hlen] at this; exact this)) (hlies.imp id (fun e => ⟨_, e, Nat.le_refl _⟩))
                    have D7 := D6.put3 hgr hmr' ⟨D6.ml.k, D6.ml.ks, D6.ml.r, D6.ml.rs, by show (zs ++ [x]).length ≤ maxLen; rw [hlen]; unfold maxLen; omega⟩
                    have KN : Hid (DX w c Q a n k alive (14 + 1) (Y.setCell ⟨Q, 3, none⟩ (.slice a' (zs.length + 1) c'))) := ⟨_, _, _, _, _, _, _, _, D7, by omega, by omega, by rw [hlen]; omega⟩
                    have lq7 := D6.lq
                    have s3 : Y.cell? ⟨Q, 3, none⟩ = some (.slice ad zs.length cd) := (World.cell?_of_block (a := ⟨Q, 3, none⟩) (hgr.block Q (by omega) (fun e => D6.mr.dp e.symm))).trans D6.a3
                    have s3f : Y.frozen? ⟨Q, 3, none⟩ = false := (World.frozen?_of_block (a := ⟨Q, 3, none⟩) (hgr.block Q (by omega) (fun e => D6.mr.dp e.symm))).trans (D6.af 3)
                    have s1 : (fun Y : World => Y.cell? ⟨Q, 3, none⟩ = some (.slice ad zs.length cd)) X2 := KD.out.a3
                    have s2 : (fun Y : World => Y.cell? ⟨Q, 3, none⟩ = some (.slice ad zs.length cd)) V2 := D6.a3
                    simp only [List.length_cons, List.length_nil, Nat.zero_add] at hr
                    clear D6 D7 hmr' hgr hone bV2 hrow hlies lq7 hlen sV2 lq6
                    have hS := s1
                    refine wpZ_takeP (i := 5) (v := ?_) rfl (by kernel_rfl) (fun _ _ _ h => h) (Or.inl ⟨by rfl, ?_⟩) hS ?_
                    rotate_left
                    · (intro X _; go_simp; first | done | with_reducible rfl | (rw [if_pos (by omega)]) | (rw [if_pos (by omega)]; go_simp))
                    simp only [Act.put]
                    refine wpZ_ready (rs := [6]) (by kernel_rfl) (by simp) ?_
                    refine AllZ.cons rfl (fun K hK => ?_) AllZ.nil
                    go_simp
                    refine hK.out _ _ (fun _ => s1) ?_
                    clear hK K hx
                    refine wpZ_ready (rs := [7]) (by kernel_rfl) (by simp) ?_
                    refine AllZ.cons rfl (fun K hK => ?_) AllZ.nil
                    go_simp
                    refine hK.out _ _ (fun _ => by rw [← hV2]; exact s2) ?_
                    clear hK K
                    rw [← hV2]
                    clear hV2
                    refine wpZ_ready (rs := [8]) (by kernel_rfl) (by simp) ?_
                    refine AllZ.cons (o := ⟨some 99, _, _, _, _, _⟩) rfl (fun K hK => ?_) AllZ.nil
                    refine step_known _ rfl (.tmp 92) (.tmp 98) 26 rfl _ _ _ _ (by first | rfl | simp [Act.eval, Act.put]) (by first | rfl | simp [Act.eval, Act.put]) hr ?_
                    refine hK.out _ _ (fun _ => s3) ?_
                    clear hK K hr hS
                    simp only [Act.put]
                    have hS := s3
                    refine wpZ_takeP (i := 9) (v := ?_) rfl (by kernel_rfl) (fun _ _ _ h => h) (Or.inl ⟨by rfl, ?_⟩) hS ?_
                    rotate_left
                    · (intro X _; go_simp; first | done | with_reducible rfl | (rw [if_pos (by omega)]) | (rw [if_pos (by omega)]; go_simp))
                    simp only [Act.put]
                    have s4 : Y.cell? ⟨Q, 3, none⟩ = some (.slice ad zs.length cd) := s3
                    refine wpZ_ready (rs := [10]) (by kernel_rfl) (by simp) ?_
                    refine AllZ.cons rfl (fun K hK => ?_) AllZ.nil
                    go_simp
                    refine hK.out _ _ (fun h => absurd (show false = true from h.symm.trans (by kernel_rfl)) (by decide)) ?_
                    clear hK K
                    refine wpZ_done (by kernel_rfl) ?_ _
                    clear s1 s2 s3 s3f s4 hS KD DD
                    generalize (Y.setCell ⟨Q, 3, none⟩ (.slice a' (zs.length + 1) c')) = Y1 at *
                    have HR := KN
                    clear KN
                    obtain ⟨vk, vr, vd, ks, rs, zs, gk, gr, hD, -, -, -⟩ := HR.out
                    obtain ⟨⟨ak, ck, rfl⟩, ⟨al, cl, rfl⟩, ⟨ad, cd, rfl⟩⟩ := hD.forms
                    have HD := hidOf hD
                    obtain ⟨z0, z1, z2, z3, zf⟩ := zeroBoxM hD.z
                    have f0 := zf 0
                    have f1 := zf 1
                    have f2 := zf 2
                    have f3 := zf 3
                    obtain ⟨-, a0, a1, a2, a3, -, -, -, -, -, -⟩ := hD
                    clear zf HR
                    go_wp2
                    refine bodyPost_ret (v := .agg #[.bool alive, .slice ak ks.length ck, .slice al rs.length cl, .slice ad zs.length cd]) (by simp [results, Tryz.results47, go_sem, z0, z1, z2, z3]) rfl ?_
                    exact DI.fin HD.out _ _ _ _
                  · go_simp
                    refine (l1Below_any _ B c a n k _ DD.out.cu (BY.out _ DD.out.tu) hB (by omega)).mono ?_
                    rintro e X2 ⟨y5, rfl, hy50, hy51, c2, t2⟩
                    obtain ⟨q, rfl⟩ := Int.eq_ofNat_of_zero_le hy50
                    have DV := hidOf (DD.out.step c2 t2)
                    have sv : (fun Y : World => Y.cell? ⟨Q, 3, none⟩ = some (.slice ad zs.length cd)) X2 := DV.out.a3
                    refine hK.out _ _ (fun _ => sv) ?_
                    clear hK K hS c2 t2
                    refine wpZ_ready (rs := [2]) (by kernel_rfl) (by simp) ?_
                    refine AllZ.cons rfl (fun K hK => ?_) AllZ.nil
                    go_simp
                    obtain ⟨V4, hV4⟩ : ∃ V, V = X2.alloc (.cells #[.int .i64 0, .int .i64 3, .int .i64 1000000, .int .i64 1000001] 2) := ⟨_, rfl⟩
                    have bV4 : Below X2.heap.size X2 V4 := by rw [hV4]; exact (Below.refl _ _).alloc (Nat.le_refl _) _
                    have hx' : ∃ x : Int, V4.cell? ⟨X2.heap.size, q, none⟩ = some (.int .i64 x) := by
                      rw [hV4]
                      exact new_inI X2 [0, 3, 1000000, 1000001] _ q (by simp; omega)
                    obtain ⟨x, hx⟩ := hx'
                    have KD := hidOf (DV.out.later bV4)
                    have hq4 : (q : Int) < 4 := by omega
                    refine hK.out _ _ (fun _ => by rw [← hV4]; exact KD.out.a3) ?_
                    clear hK K bV4 sv DV hy50
                    rw [← hV4]
                    clear hV4
                    obtain ⟨V2, hV2⟩ : ∃ V, V = V4.alloc (.cells #[.int .i64 x] 2) := ⟨_, rfl⟩
                    have bV2 : Below V4.heap.size V4 V2 := by rw [hV2]; exact (Below.refl _ _).alloc (Nat.le_refl _) _
                    have sV2 : V2.heap.size = V4.heap.size + 1 := by rw [hV2]; simp
                    have D6 := KD.out.later bV2
                    have hone : SlN V2 V2.heap.size (some ⟨V4.heap.size, 0, none⟩) [x].length [x] := ⟨rfl, .inr ⟨V4.heap.size, 0, rfl, by omega, fun j u e => by
                      rcases j with _ | j
                      · simp at e; subst e; rw [hV2]; go_simp
                      · simp at e⟩⟩
                    have lq6 := KD.out.lq
                    obtain ⟨a', c', Y, hr, hrow, hgr, hlies⟩ := pushZ (zs := zs) D6.mr.gD [x] (by simp; omega) 26 (some ⟨V4.heap.size, 0, none⟩) 1 hone (by omega)
                    have hlen : (zs ++ [x]).length = zs.length + 1 := by simp
                    rw [hlen] at hr hrow hlies
                    have hmr' := D6.mr.cleared (zs' := zs ++ [x]) (by have := D6.lq; omega) hgr (by rw [hlen]; exact (show Y.ownsRow _ _ _ _ _ _ from by have := hrow; unfold RowZ at this; rw [hlen] at this; exact this)) (hlies.imp id (fun e => ⟨_, e, Nat.le_refl _⟩))
                    have D7 := D6.put3 hgr hmr' ⟨D6.ml.k, D6.ml.ks, D6.ml.r, D6.ml.rs, by show (zs ++ [x]).length ≤ maxLen; rw [hlen]; unfold maxLen; omega⟩
                    have KN : Hid (DX w c Q a n k alive (14 + 1) (Y.setCell ⟨Q, 3, none⟩ (.slice a' (zs.length + 1) c'))) := ⟨_, _, _, _, _, _, _, _, D7, by omega, by omega, by rw [hlen]; omega⟩
                    have lq7 := D6.lq
                    have s3 : Y.cell? ⟨Q, 3, none⟩ = some (.slice ad zs.length cd) := (World.cell?_of_block (a := ⟨Q, 3, none⟩) (hgr.block Q (by omega) (fun e => D6.mr.dp e.symm))).trans D6.a3
                    have s3f : Y.frozen? ⟨Q, 3, none⟩ = false := (World.frozen?_of_block (a := ⟨Q, 3, none⟩) (hgr.block Q (by omega) (fun e => D6.mr.dp e.symm))).trans (D6.af 3)
                    have s1 : (fun Y : World => Y.cell? ⟨Q, 3, none⟩ = some (.slice ad zs.length cd)) V4 := KD.out.a3
                    have s2 : (fun Y : World => Y.cell? ⟨Q, 3, none⟩ = some (.slice ad zs.length cd)) V2 := D6.a3
                    simp only [List.length_cons, List.length_nil, Nat.zero_add] at hr
                    clear D6 D7 hmr' hgr hone bV2 hrow hlies lq7 hlen sV2 lq6
                    have hS := s1
                    refine wpZ_takeP (i := 5) (v := ?_) rfl (by kernel_rfl) (fun _ _ _ h => h) (Or.inl ⟨by rfl, ?_⟩) hS ?_
                    rotate_left
                    · (intro X _; go_simp; first | done | with_reducible rfl | (rw [if_pos (by omega)]) | (rw [if_pos (by omega)]; go_simp))
                    simp only [Act.put]
                    refine wpZ_ready (rs := [6]) (by kernel_rfl) (by simp) ?_
                    refine AllZ.cons rfl (fun K hK => ?_) AllZ.nil
                    go_simp
                    refine hK.out _ _ (fun _ => s1) ?_
                    clear hK K hx
                    refine wpZ_ready (rs := [7]) (by kernel_rfl) (by simp) ?_
                    refine AllZ.cons rfl (fun K hK => ?_) AllZ.nil
                    go_simp
                    refine hK.out _ _ (fun _ => by rw [← hV2]; exact s2) ?_
                    clear hK K
                    rw [← hV2]
                    clear hV2
                    refine wpZ_ready (rs := [8]) (by kernel_rfl) (by simp) ?_
                    refine AllZ.cons (o := ⟨some 99, _, _, _, _, _⟩) rfl (fun K hK => ?_) AllZ.nil
                    refine step_known _ rfl (.tmp 92) (.tmp 98) 26 rfl _ _ _ _ (by first | rfl | simp [Act.eval, Act.put]) (by first | rfl | simp [Act.eval, Act.put]) hr ?_
                    refine hK.out _ _ (fun _ => s3) ?_
                    clear hK K hr hS
                    simp only [Act.put]
                    have hS := s3
                    refine wpZ_takeP (i := 9) (v := ?_) rfl (by kernel_rfl) (fun _ _ _ h => h) (Or.inl ⟨by rfl, ?_⟩) hS ?_
                    rotate_left
                    · (intro X _; go_simp; first | done | with_reducible rfl | (rw [if_pos (by omega)]) | (rw [if_pos (by omega)]; go_simp))
                    simp only [Act.put]
                    have s4 : Y.cell? ⟨Q, 3, none⟩ = some (.slice ad zs.length cd) := s3
                    refine wpZ_ready (rs := [10]) (by kernel_rfl) (by simp) ?_
                    refine AllZ.cons rfl (fun K hK => ?_) AllZ.nil
                    go_simp
                    refine hK.out _ _ (fun h => absurd (show false = true from h.symm.trans (by kernel_rfl)) (by decide)) ?_
                    clear hK K
                    refine wpZ_done (by kernel_rfl) ?_ _
                    clear s1 s2 s3 s3f s4 hS KD DD
                    generalize (Y.setCell ⟨Q, 3, none⟩ (.slice a' (zs.length + 1) c')) = Y1 at *
                    have HR := KN
                    clear KN
                    obtain ⟨vk, vr, vd, ks, rs, zs, gk, gr, hD, -, -, -⟩ := HR.out
                    obtain ⟨⟨ak, ck, rfl⟩, ⟨al, cl, rfl⟩, ⟨ad, cd, rfl⟩⟩ := hD.forms
                    have HD := hidOf hD
                    obtain ⟨z0, z1, z2, z3, zf⟩ := zeroBoxM hD.z
                    have f0 := zf 0
                    have f1 := zf 1
                    have f2 := zf 2
                    have f3 := zf 3
                    obtain ⟨-, a0, a1, a2, a3, -, -, -, -, -, -⟩ := hD
                    clear zf HR
                    go_wp2
                    refine bodyPost_ret (v := .agg #[.bool alive, .slice ak ks.length ck, .slice al rs.length cl, .slice ad zs.length cd]) (by simp [results, Tryz.results47, go_sem, z0, z1, z2, z3]) rfl ?_
                    exact DI.fin HD.out _ _ _ _
                · clear hy0 hy1
                  obtain ⟨vk, vr, vd, ks, rs, zs, gk, gr, hD, hb1, hb2, hb3⟩ := HR3.out
                  have lq0 := hD.lq
                  obtain ⟨V, hV⟩ : ∃ V, V = w3.alloc (.cells #[] 2) := ⟨_, rfl⟩
                  have bV : Below w3.heap.size w3 V := by rw [hV]; exact (Below.refl _ _).alloc (Nat.le_refl _) _
                  have rV : RowZ V w3.heap.size (.slice (some ⟨w3.heap.size, 0, none⟩) 0 0) [] := by rw [hV]; exact RowZ.made w3
                  have gV : w3.grownBy V vd.ownBlock := ⟨bV.os, bV.tape, bV.output, bV.size, fun x hx _ => bV.block x hx⟩
                  have hm := hD.mr.cleared (zs' := []) (vd' := .slice (some ⟨w3.heap.size, 0, none⟩) 0 0) (by omega) gV (owns_mono' rV (by omega)) (.inr ⟨w3.heap.size, rfl, Nat.le_refl _⟩)
                  have D1 := hD.put3 gV hm ⟨hD.ml.k, hD.ml.ks, hD.ml.r, hD.ml.rs, by simp⟩
                  have KN : Hid (DX w c Q a n k alive 100 (V.setCell ⟨Q, 3, none⟩ (.slice (some ⟨w3.heap.size, 0, none⟩) 0 0))) := ⟨_, _, _, _, _, _, _, _, D1, by omega, by omega, by simp⟩
                  obtain ⟨-, -, ⟨ad, cd, rfl⟩⟩ := hD.forms
                  have d3 := (hD.later bV).a3
                  have df3 := (hD.later bV).af 3
                  clear D1 hm gV rV bV lq0 hD HR3
                  rw [hV] at d3 df3
                  go_wp2
                  rw [← hV]
                  clear hV d3 df3
                  generalize (V.setCell ⟨Q, 3, none⟩ (.slice (some ⟨w3.heap.size, 0, none⟩) 0 0)) = V0 at *
                  go_loopw [8] (fun v8 wr => ∃ j : Nat, j ≤ 61 ∧ v8 = .int .i64 j ∧ DX w c Q a n k alive (100 + j) wr) (fun v8 _ => 61 - (intOf v8).toNat)
                  case atStart => exact ⟨0, by omega, rfl, KN.out⟩
                  case round =>
                    obtain ⟨N, hj, rfl, hdx⟩ := hrel
                    have K1 := hidOf hdx
                    clear hdx KN
                    go_wp2_with fail
                    refine (l1Below_any _ B c a n k _ K1.out.cu.1 (BY.out _ K1.out.cu.2) hB (by omega)).mono ?_
                    rintro e w2 ⟨y2, rfl, hy20, hy21, c2, t2⟩
                    have H2 : Hid (DX w c Q a n k alive (100 + N) w2) := K1.out.step c2 t2
                    clear c2 t2 K1
                    by_cases hlt : (N : Int) < 60 + y2
                    · obtain ⟨vk, vr, vd, ks, rs, zs, gk, gr, hD, hb1, hb2, hb3⟩ := H2.out
                      obtain ⟨-, -, ⟨ad, cd, rfl⟩⟩ := hD.forms
                      have KD := hidOf hD
                      clear hD
                      obtain ⟨V2, hV2⟩ : ∃ V, V = w2.alloc (.cells #[.int .i64 ((N : Int) + 10)] 2) := ⟨_, rfl⟩
                      have bV2 : Below w2.heap.size w2 V2 := by rw [hV2]; exact (Below.refl _ _).alloc (Nat.le_refl _) _
                      have sV2 : V2.heap.size = w2.heap.size + 1 := by rw [hV2]; simp
                      have D6 := KD.out.later bV2
                      have hone : SlN V2 V2.heap.size (some ⟨w2.heap.size, 0, none⟩) [((N : Int) + 10)].length [((N : Int) + 10)] := ⟨rfl, .inr ⟨w2.heap.size, 0, rfl, by omega, fun j u e => by
                        rcases j with _ | j
                        · simp at e; subst e; rw [hV2]; go_simp
                        · simp at e⟩⟩
                      have lq6 := KD.out.lq
                      obtain ⟨a', c', Y, hr, hrow, hgr, hlies⟩ := pushZ (zs := zs) D6.mr.gD [((N : Int) + 10)] (by simp; omega) 26 (some ⟨w2.heap.size, 0, none⟩) 1 hone (by omega)
                      have hlen : (zs ++ [((N : Int) + 10)]).length = zs.length + 1 := by simp
                      rw [hlen] at hr hrow hlies
                      have hmr' := D6.mr.cleared (zs' := zs ++ [((N : Int) + 10)]) (by have := D6.lq; omega) hgr (by rw [hlen]; exact (show Y.ownsRow _ _ _ _ _ _ from by have := hrow; unfold RowZ at this; rw [hlen] at this; exact this)) (hlies.imp id (fun e => ⟨_, e, Nat.le_refl _⟩))
                      have D7 := D6.put3 hgr hmr' ⟨D6.ml.k, D6.ml.ks, D6.ml.r, D6.ml.rs, by show (zs ++ [((N : Int) + 10)]).length ≤ maxLen; rw [hlen]; unfold maxLen; omega⟩
                      have KN : Hid (DX w c Q a n k alive (100 + N + 1) (Y.setCell ⟨Q, 3, none⟩ (.slice a' (zs.length + 1) c'))) := ⟨_, _, _, _, _, _, _, _, D7, by omega, by omega, by rw [hlen]; omega⟩
                      have lq7 := D6.lq
                      have s3 : Y.cell? ⟨Q, 3, none⟩ = some (.slice ad zs.length cd) := (World.cell?_of_block (a := ⟨Q, 3, none⟩) (hgr.block Q (by omega) (fun e => D6.mr.dp e.symm))).trans D6.a3
                      have s3f : Y.frozen? ⟨Q, 3, none⟩ = false := (World.frozen?_of_block (a := ⟨Q, 3, none⟩) (hgr.block Q (by omega) (fun e => D6.mr.dp e.symm))).trans (D6.af 3)
                      have a3 := KD.out.a3
                      simp only [List.length_cons, List.length_nil, Nat.zero_add] at hr
                      rw [hV2] at hr
                      clear D6 D7 hmr' hgr hone bV2 hrow hlies lq7 hlen KD sV2 lq6 hV2
                      go_wp2_with (at_builtin; refine append_known _ rfl (.tmp 113) (.tmp 116) 26 rfl _ _ _ _ rfl rfl hr ?_)
                      exact ⟨⟨N + 1, by omega, by simp, KN.out⟩, by simp [intOf]; omega⟩
                    · have HR := H2
                      generalize wr = W3 at *
                      clear H2
                      obtain ⟨vk, vr, vd, ks, rs, zs, gk, gr, hD, -, -, -⟩ := HR.out
                      obtain ⟨⟨ak, ck, rfl⟩, ⟨al, cl, rfl⟩, ⟨ad, cd, rfl⟩⟩ := hD.forms
                      have HD := hidOf hD
                      obtain ⟨z0, z1, z2, z3, zf⟩ := zeroBoxM hD.z
                      have f0 := zf 0
                      have f1 := zf 1
                      have f2 := zf 2
                      have f3 := zf 3
                      obtain ⟨-, a0, a1, a2, a3, -, -, -, -, -, -⟩ := hD
                      clear zf HR
                      go_wp2
                      refine bodyPost_ret (v := .agg #[.bool alive, .slice ak ks.length ck, .slice al rs.length cl, .slice ad zs.length cd]) (by simp [results, Tryz.results47, go_sem, z0, z1, z2, z3]) rfl ?_
                      exact DI.fin HD.out _ _ _ _
                · clear hy0 hy1
                  obtain ⟨vk, vr, vd, ks, rs, zs, gk, gr, hD, hb1, hb2, hb3⟩ := HR3.out
                  have lq0 := hD.lq
                  obtain ⟨V, hV⟩ : ∃ V, V = w3.alloc (.cells #[] 41) := ⟨_, rfl⟩
                  have bV : Below w3.heap.size w3 V := by rw [hV]; exact (Below.refl _ _).alloc (Nat.le_refl _) _
                  have sV : V.heap.size = w3.heap.size + 1 := by rw [hV]; simp
                  have gV : w3.grownBy V vr.ownBlock := ⟨bV.os, bV.tape, bV.output, bV.size, fun x hx _ => bV.block x hx⟩
                  have hrow : V.ownsRow (w.heap.size + 1) 41 4 (.slice (some ⟨w3.heap.size, 0, none⟩) 0 0) 0 [] := by rw [hV]; exact owns_mono' (World.ownsRow_made w3 #[] 0 (Nat.le_refl _) (Nat.zero_le _) rfl) (by omega)
                  have hm : MR (w.heap.size + 1) Q V vk (.slice (some ⟨w3.heap.size, 0, none⟩) 0 0) vd ks [] zs gk gz := MR.emptyR (hD.mr.later bV) hrow (fun x hx => by have := hD.old x (hx.elim .inl (fun e => .inr (.inr e))); omega) (by omega)
                  have D1 := hD.put2 gV hm ⟨hD.ml.k, hD.ml.ks, by simp, (fun r hr => by cases hr), hD.ml.n⟩
                  have KN : Hid (DX w c Q a n k alive 100 (V.setCell ⟨Q, 2, none⟩ (.slice (some ⟨w3.heap.size, 0, none⟩) 0 0))) := ⟨_, _, _, _, _, _, _, _, D1, by omega, by simp, by omega⟩
                  obtain ⟨-, ⟨al, cl, rfl⟩, -⟩ := hD.forms
                  have d3 := (hD.later bV).a2
                  have df3 := (hD.later bV).af 2
                  clear D1 hm gV hrow bV sV lq0 hD HR3
                  rw [hV] at d3 df3
                  go_wp2
                  rw [← hV]
                  clear hV d3 df3
                  generalize (V.setCell ⟨Q, 2, none⟩ (.slice (some ⟨w3.heap.size, 0, none⟩) 0 0)) = V0 at *
                  go_loopw [9] (fun v9 wr => ∃ j : Nat, j ≤ 201 ∧ v9 = .int .i64 j ∧ DX w c Q a n k alive (100 + j) wr) (fun v9 _ => 201 - (intOf v9).toNat)
                  case atStart => exact ⟨0, by omega, rfl, KN.out⟩
                  case round =>
                    obtain ⟨N, hj, rfl, hdx⟩ := hrel
                    have K1 := hidOf hdx
                    clear hdx KN
                    go_wp2_with fail
                    refine (l1Below_any _ B c a n k _ K1.out.cu.1 (BY.out _ K1.out.cu.2) hB (by omega)).mono ?_
                    rintro e w2 ⟨y2, rfl, hy20, hy21, c2, t2⟩
                    have H2 : Hid (DX w c Q a n k alive (100 + N) w2) := K1.out.step c2 t2
                    clear c2 t2 K1
                    by_cases hlt : (N : Int) < 200 + y2
                    · obtain ⟨vk, vr, vd, ks, rs, zs, gk, gr, hD, hb1, hb2, hb3⟩ := H2.out
                      obtain ⟨-, ⟨al, cl, rfl⟩, -⟩ := hD.forms
                      have OLD : Hid (∀ x, (blocksG vk ks gk x ∨ blocksG (.slice al rs.length cl) rs gr x ∨ vd.ownBlock = some x) → x < w2.heap.size) := hD.old
                      have hlq := hD.lq
                      obtain ⟨U, hU⟩ : ∃ V, V = w2.alloc (.cells #[.int .i64 1, .int .i64 0, .int .i64 0, .bool false, .int .i64 0] 139) := ⟨_, rfl⟩
                      have bU : Below w2.heap.size w2 U := by rw [hU]; exact (Below.refl _ _).alloc (Nat.le_refl _) _
                      have sU : U.heap.size = w2.heap.size + 1 := by rw [hU]; simp
                      obtain ⟨xs, hxs⟩ : ∃ xs, xs = [(⟨1, 0, 0, false, 0⟩ : S5)] := ⟨_, rfl⟩
                      obtain ⟨m, hm⟩ : ∃ m, m = 1 := ⟨_, rfl⟩
                      obtain ⟨cap, hcap⟩ : ∃ m, m = 1 := ⟨_, rfl⟩
                      have hb := SetBox.new w2 (⟨1, 0, 0, false, 0⟩ : S5) 139
                      have HAT : Hid (SetsAt U w2.heap.size 0 xs ∧ Room U w2.heap.size (xs.length * 5)) := by
                        rw [hU, hxs]
                        refine ⟨fun i s e => ?_, fun j hj => ?_⟩
                        · rcases i with _ | i
                          · simp at e; subst e; exact hb.1
                          · simp at e
                        · have hf := hb.2 j (by simpa using hj)
                          obtain ⟨⟨e0, e1, e2, e3, e4⟩, _⟩ := hb
                          simp only [Nat.zero_add] at e1 e2 e3 e4
                          rcases j with _ | _ | _ | _ | _ | j
                          · exact ⟨_, e0, hf⟩
                          · exact ⟨_, e1, hf⟩
                          · exact ⟨_, e2, hf⟩
                          · exact ⟨_, e3, hf⟩
                          · exact ⟨_, e4, hf⟩
                          · simp at hj; omega
                      have HG : Hid (w2.heap.size ≤ w2.heap.size ∧ w2.heap.size < U.heap.size ∧ xs.length = m ∧ m ≤ cap ∧ m ≤ 7 ∧ Q < w2.heap.size ∧ w.heap.size < Q) := ⟨Nat.le_refl _, by omega, by rw [hxs, hm]; rfl, by omega, by omega, by omega, by omega⟩
                      have KD := hidOf (hD.later bU)
                      have aw2 := hD.a2
                      have HSU := hidOf sU
                      clear hb hxs hD bU sU hlq
                      obtain ⟨V2, hV2⟩ : ∃ V, V = U.alloc (.cells #[.int .i64 1, .int .i64 3, .int .i64 1, .slice (some ⟨w2.heap.size, 0, none⟩) m cap] 41) := ⟨_, rfl⟩
                      have bV2 : Below U.heap.size U V2 := by rw [hV2]; exact (Below.refl _ _).alloc (Nat.le_refl _) _
                      have D6 := KD.out.later bV2
                      have lq6 := KD.out.lq
                      have sV2 := bV2.size
                      obtain ⟨v', Y, hr, hmr', hgr⟩ := D6.mr.pushR2 (by omega) (by omega) ⟨1, 3, 1, xs⟩ w2.heap.size cap U.heap.size (by omega) 25 (by rw [hV2]; go_simp) (by rw [hV2]; go_simp) (by rw [hV2]; go_simp) (by show V2.cell? _ = some (.slice (some ⟨w2.heap.size, 0, none⟩) xs.length cap); rw [HG.out.2.2.1, hV2]; go_simp) (AtR.of_block _ _ _ _ (bV2.block w2.heap.size HG.out.2.1) (show AtR U w2.heap.size ⟨1, 3, 1, xs⟩ from HAT.out)) (by show xs.length ≤ cap; have := HG.out.2.2; omega) (by have := HG.out; omega) (by have := HG.out; omega) (fun x hx => by have := OLD.out x hx; have := HG.out.1; omega) (by have := HG.out; omega)
                      have hlen : (rs ++ [(⟨1, 3, 1, xs⟩ : R4)]).length = rs.length + 1 := by simp
                      obtain ⟨_, hro, -⟩ := hmr'.gR.row
                      obtain ⟨a', c', rfl⟩ := owns_slice' hro
                      rw [hlen] at hmr' hr
                      clear hro
                      have D7 := D6.put2 hgr hmr' (D6.ml.pushR ⟨1, 3, 1, xs⟩ (by show xs.length ≤ maxLen; have := HG.out.2.2; unfold maxLen; omega) (by omega))
                      have KN : Hid (DX w c Q a n k alive ((100 + N) + 1) (Y.setCell ⟨Q, 2, none⟩ (.slice a' (rs.length + 1) c'))) := ⟨_, _, _, _, _, _, _, _, D7, by omega, by rw [hlen]; omega, by omega⟩
                      have lq7 := D6.lq
                      have s3 : Y.cell? ⟨Q, 2, none⟩ = some (.slice al rs.length cl) := (World.cell?_of_block (a := ⟨Q, 2, none⟩) (hgr.block Q (by omega) (fun e => D6.mr.rp Q (.inl e.symm) rfl))).trans D6.a2
                      have s3f : Y.frozen? ⟨Q, 2, none⟩ = false := (World.frozen?_of_block (a := ⟨Q, 2, none⟩) (hgr.block Q (by omega) (fun e => D6.mr.rp Q (.inl e.symm) rfl))).trans (D6.af 2)
                      subst hm hcap
                      rw [HSU.out, hV2, hU] at hr
                      clear D6 D7 hmr' hgr bV2 lq6 lq7 sV2 hlen KD HAT HG OLD hV2 H2 hU
                      go_wp2_with (at_builtin; refine append_known _ rfl (.tmp 131) (.tmp 135) 25 rfl _ _ _ _ rfl rfl hr ?_)
                      exact ⟨⟨N + 1, by omega, by simp, KN.out⟩, by simp [intOf]; omega⟩
                    · have HR := H2
                      generalize wr = W3 at *
                      clear H2
                      obtain ⟨vk, vr, vd, ks, rs, zs, gk, gr, hD, -, -, -⟩ := HR.out
                      obtain ⟨⟨ak, ck, rfl⟩, ⟨al, cl, rfl⟩, ⟨ad, cd, rfl⟩⟩ := hD.forms
                      have HD := hidOf hD
                      obtain ⟨z0, z1, z2, z3, zf⟩ := zeroBoxM hD.z
                      have f0 := zf 0
                      have f1 := zf 1
                      have f2 := zf 2
                      have f3 := zf 3
                      obtain ⟨-, a0, a1, a2, a3, -, -, -, -, -, -⟩ := hD
                      clear zf HR
                      go_wp2
                      refine bodyPost_ret (v := .agg #[.bool alive, .slice ak ks.length ck, .slice al rs.length cl, .slice ad zs.length cd]) (by simp [results, Tryz.results47, go_sem, z0, z1, z2, z3]) rfl ?_
                      exact DI.fin HD.out _ _ _ _
end Go.Proofs.YtooalbdlknheeaaGreat
