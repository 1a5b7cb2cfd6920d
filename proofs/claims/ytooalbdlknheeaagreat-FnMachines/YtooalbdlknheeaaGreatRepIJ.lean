/- Replace of the program. -/
import Derived.Test.YtooalbdlknheeaaGreatRows
import Derived.Test.YtooalbdlknheeaaGreatAppIJ
import Derived.Test.YtooalbdlknheeaaGreatRepGJ
import Derived.Test.YtooalbdlknheeaaGreatJ45LawMachines
import Derived.WalkKit
import Derived.WalkSpells
import Derived.WalkLawsBesides
import Derived.Below
import Derived.Deep.CutRange
namespace Go.Proofs.YtooalbdlknheeaaGreat
open Go.RowKit
theorem GrowG.slK {w : World} {base c : Nat} {a : Option Addr} {ks : List K2} {g : Nat → Nat} (h : GrowG 97 2 hdK lnK AtK w base (.slice a ks.length c) ks g) : SlK w w.heap.size a ks.length ks := by
  by_cases e : ks = []
  · subst e; exact ⟨rfl, .inl rfl⟩
  · obtain ⟨b, cp, ev, -, h2, -, -, og⟩ := GrowG.own (hd := hdK) (sz := 2) (fun _ => rfl) h e
    injection ev with ea _ _
    subst ea
    exact ownK_sl og h2
/-- What replace leaves. -/
def RepAns (w : World) (base p o : Nat) (vr vd : Value) (ks' : List K2) (rs : List R4) (zs : List Int) (gr : Nat → Nat) (e : Ending) (w' : World) : Prop :=
  (∃ u, e = .returned u) ∧ ∃ a' c' gk', w'.cell? ⟨p, o, none⟩ = some (.slice a' ks'.length c') ∧ MR base p w' (.slice a' ks'.length c') vr vd ks' rs zs gk' gr ∧ (∀ j, j ≠ o → w'.cell? ⟨p, j, none⟩ = w.cell? ⟨p, j, none⟩) ∧ Below base w w'
theorem cell_far2 {w : World} {b o p j : Nat} {v : Value} (h : p ≠ b) : (w.setCell ⟨b, o, none⟩ v).cell? ⟨p, j, none⟩ = w.cell? ⟨p, j, none⟩ := World.cell?_of_block (a := ⟨p, j, none⟩) (Below.heap_setCell _ _ _ _ h)
theorem slc_to {w X : World} {base n : Nat} {a : Option Addr} {xs : List C2} (h : SlC w base a n xs) (hb : Below base w X) (hB : base ≤ w.heap.size) : SlC X X.heap.size a n xs := by
  obtain ⟨h1, h2⟩ := h
  refine ⟨h1, h2.imp id ?_⟩
  rintro ⟨b, off, rfl, hbl, hx⟩
  exact ⟨b, off, rfl, by have := hb.size; omega, hx.of_block (hb.block b hbl)⟩
theorem form_of {W : World} {base n sz : Nat} {v : Value} {T : TypeId} {xs : List Value} (h : W.ownsRow base T sz v n xs) (hn : 0 < n) : ∃ b c, v = .slice (some ⟨b, 0, none⟩) n c := by
  rcases h.2 with ⟨_, h0⟩ | ⟨q, cap, cur, rfl, _⟩
  · omega
  · exact ⟨q, cap, rfl⟩
/-- The last step, in lists and blocks: the cells' address comes into the row. -/
theorem rep_done {w X X2 : World} {base p b n c i q cp : Nat} {vo vr vd : Value} {ks ks' : List K2} {rs : List R4} {zs : List Int} {gk gr caps s : Nat → Nat} {ys : List Value} {k : K2}
    (h : MR base p w vo vr vd ks rs zs gk gr) (hcp : ∀ j x, ks[j]? = some x → lnK x ≤ caps j) (hwX : w.heap.size ≤ X.heap.size) (hgw : ∀ x, x < w.heap.size → x ≠ p → vo.ownBlock ≠ some x → X.heap[x]? = w.heap[x]?) (hp : p < w.heap.size)
    (hrow : X.ownsRow base 97 2 (.slice (some ⟨b, 0, none⟩) n c) n ys) (hbb : (Value.slice (some ⟨b, 0, none⟩) n c).ownBlock = vo.ownBlock ∨ w.heap.size ≤ b) (b2 : Below X.heap.size X X2) (hq1 : X.heap.size ≤ q) (hq2 : q < X2.heap.size) (hcap : lnK k ≤ cp) (hat : AtK X2 q k)
    (hn : ks'.length = n) (hin : i < n) (hys : ys.set (i * 2 + 1) (.slice (some ⟨q, 0, none⟩) k.cells.length cp) = flatG hdK lnK ks' (upTo i q s gk) (upTo i cp s caps)) (hi : ks'[i]? = some k) (hs : ∀ j x, ks'[j]? = some x → j ≠ i → ks[s j]? = some x) (hinj : ∀ j j', j < ks'.length → j' < ks'.length → j ≠ i → j' ≠ i → s j = s j' → j = j') :
    MR base p (X2.setCell ⟨b, i * 2 + 1, none⟩ (.slice (some ⟨q, 0, none⟩) k.cells.length cp)) (.slice (some ⟨b, 0, none⟩) n c) vr vd ks' rs zs (upTo i q s gk) gr ∧ base ≤ b ∧ b < X.heap.size ∧ b ≠ p := by
  have hbl := World.ownsRow.lt hrow b rfl
  have hob : ∀ x, x < w.heap.size → vo.ownBlock ≠ some x → x ≠ b := fun x hx hne e => by
    rcases hbb with h1 | h1
    · exact hne (by rw [← h1, e]; rfl)
    · omega
  have hpb : b ≠ p := fun e => hob p hp (fun e' => h.kp p (.inl e') rfl) e.symm
  have r2 : (X2.setCell ⟨b, i * 2 + 1, none⟩ (.slice (some ⟨q, 0, none⟩) k.cells.length cp)).ownsRow base 97 2 (.slice (some ⟨b, 0, none⟩) n c) n (ys.set (i * 2 + 1) (.slice (some ⟨q, 0, none⟩) k.cells.length cp)) :=
    owns_set (owns_keep hrow (fun x hx => b2.block x (owns_lt hrow hx))) (by omega) _
  rw [hys] at r2
  have keep : ∀ x, x < w.heap.size → x ≠ p → x ≠ b → vo.ownBlock ≠ some x → (X2.setCell ⟨b, i * 2 + 1, none⟩ (.slice (some ⟨q, 0, none⟩) k.cells.length cp)).heap[x]? = w.heap[x]? := fun x hx hxp hxb hne =>
    (Below.heap_setCell _ _ _ _ hxb).trans ((b2.block x (by omega)).trans (hgw x hx hxp hne))
  have kgk : ∀ j, j < ks.length → vo.ownBlock ≠ some (gk j) := fun j hj => h.gK.ne j hj
  have G : GrowG 97 2 hdK lnK AtK (X2.setCell ⟨b, i * 2 + 1, none⟩ (.slice (some ⟨q, 0, none⟩) k.cells.length cp)) base (.slice (some ⟨b, 0, none⟩) n c) ks' (upTo i q s gk) := by
    refine growK_new h.gK hcp (by simp only [World.setCell, Array.size_modify]; exact Nat.le_trans hwX b2.size) (fun j hj => keep _ (h.gK.lt j hj) (h.kp _ (.inr ⟨j, hj, rfl⟩)) (hob _ (h.gK.lt j hj) (kgk j hj)) (kgk j hj)) (AtK.of_block _ _ _ _ (Below.heap_setCell _ _ _ _ (by show q ≠ b; omega)) hat) (by omega) (by simpa [World.setCell] using hq2) (fun j hj e => by have := h.gK.lt j hj; omega) hcap hi hs hinj (by rw [hn]; exact r2) (fun e => by have e' : b = q := Option.some.inj e; omega) (fun j hj e => hob _ (h.gK.lt j hj) (kgk j hj) (Option.some.inj e).symm)
  refine ⟨h.withK G (by simp only [World.setCell, Array.size_modify]; exact Nat.le_trans hwX b2.size) (fun x hx => ?_) (fun x hx => ?_), hbl.1, hbl.2, hpb⟩
  · have hxl : x < w.heap.size := hx.elim (fun e => (h.gR.blocks e).2) (fun e => owns_lt h.gD e)
    have hxo : vo.ownBlock ≠ some x := fun e => hx.elim (fun e' => h.kr x (.inl e) e') (fun e' => h.kd x (.inl e) e')
    exact keep x hxl (fun e => hx.elim (fun e' => h.rp x e' e) (fun e' => h.dp (e ▸ e'))) (hob x hxl hxo) hxo
  · rcases hx with hx | ⟨j, hj, hx⟩
    · rcases hbb with h1 | h1
      · exact .inl (.inl (by rw [← h1]; exact hx))
      · have hx' : b = x := Option.some.inj hx
        subst hx'
        exact .inr ⟨fun e => by have := (h.gR.blocks e).2; omega, fun e => by have := owns_lt h.gD e; omega, hpb⟩
    · by_cases e1 : j = i
      · rw [upTo, if_pos e1] at hx
        subst hx
        exact .inr ⟨fun e => by have := (h.gR.blocks e).2; omega, fun e => by have := owns_lt h.gD e; omega, by omega⟩
      · rw [upTo, if_neg e1] at hx
        have hjs := hs j _ (List.getElem?_eq_getElem hj) e1
        exact .inl (.inr ⟨s j, (List.getElem?_eq_some_iff.1 hjs).1, hx⟩)
theorem sgI_hs {ks : List K2} {i : Nat} {k : K2} (hi : i ≤ ks.length) : ∀ j x, (insKL ks i k)[j]? = some x → j ≠ i → ks[sgI i j]? = some x := fun j x e hne => by
  rw [insKL_get hi] at e
  unfold sgI
  by_cases h : j < i
  · rw [if_pos h] at e ⊢; exact e
  · rw [if_neg h, if_neg hne] at e
    rw [if_neg h]; exact e
theorem sgI_inj {i : Nat} : ∀ j j', j ≠ i → j' ≠ i → sgI i j = sgI i j' → j = j' := fun j j' h1 h2 e => by
  unfold sgI at e
  split at e <;> split at e <;> omega
set_option maxRecDepth 100000 in
set_option maxHeartbeats 4000000 in
theorem replace_any (w : World) (base p : Nat) (vr vd : Value) (uc : Option Addr) (uk : Nat) (ks : List K2) (rs : List R4) (zs : List Int) (gk gr : Nat → Nat) (y : Int) (a : Option Addr) (cap : Nat) (cs : List C2) (h : MR base p w (.slice uc ks.length uk) vr vd ks rs zs gk gr) (c2 : w.cell? ⟨p, 2, none⟩ = some (.slice uc ks.length uk)) (f2 : w.frozen? ⟨p, 2, none⟩ = false) (hp : p < w.heap.size) (hbp : base ≤ p) (hn : ks.length ≤ 1000) (hu : UpR ks) (hc0 : 0 < cs.length) (hcm : cs.length ≤ 1048576) (hsc : SlC w base a cs.length cs) :
    Calls Tryz.prog 53 #[.pointer (some ⟨p, 0, none⟩), .int .i64 y, .slice a cs.length cap] w (RepAns w base p 2 vr vd (repK ks y cs) rs zs gr) := by
  obtain ⟨ks', hks⟩ : ∃ ks', ks' = repK ks y cs := ⟨_, rfl⟩
  rw [← hks]
  have HKS := hidOf hks
  clear hks
  have hf := findCopy_any w p uc uk ks y hn hu h.gK.slK c2
  obtain ⟨caps, ho, hcp⟩ := h.gK.row
  have H : Hid (MR base p w (.slice uc ks.length uk) vr vd ks rs zs gk gr ∧ w.cell? ⟨p, 2, none⟩ = some (.slice uc ks.length uk) ∧ w.frozen? ⟨p, 2, none⟩ = false ∧ SlC w base a cs.length cs ∧ (∀ j x, ks[j]? = some x → lnK x ≤ caps j) ∧ w.ownsRow base 97 2 (.slice uc ks.length uk) ks.length (flatG hdK lnK ks gk caps)) := ⟨h, c2, f2, hsc, hcp, ho⟩
  clear h c2 f2 hsc hcp ho hu
  go_enter Tryz.func53, Tryz.ntmps53
  go_wp2_with fail
  refine hf.mono ?_
  clear hf
  rintro e w1 ⟨i, rfl, hpos, b1⟩
  have hpr := posR_of hpos
  have HP := hidOf hpos
  clear hpos
  have p1 := (b1.cell (p := ⟨p, 2, none⟩) hp).trans H.out.2.1
  have pf := (b1.frozen (p := ⟨p, 2, none⟩) hp).trans H.out.2.2.1
  have hp1 : p < w1.heap.size := Nat.lt_of_lt_of_le hp b1.size
  cases hF : foundK ks y i with
  | true =>
    have hfi : i < ks.length ∧ (atK ks i).region = y := by simpa [foundK] using hF
    have HN : Hid (ks'.length = ks.length) := by unfold Hid; rw [HKS.out, repK, hpr, hF, if_pos rfl, List.length_set]
    have HE : Hid (ks' = ks.set i ⟨y, cs⟩) := by unfold Hid; rw [HKS.out, repK, hpr, hF, if_pos rfl]
    obtain ⟨b, cc, ev⟩ := form_of H.out.2.2.2.2.2 (by omega)
    injection ev with ea _ ec
    subst ea ec
    have KX : Hid (w1.cell? ⟨p, 2, none⟩ = some (.slice (some ⟨b, 0, none⟩) ks.length uk) ∧ w1.ownsRow base 97 2 (.slice (some ⟨b, 0, none⟩) ks.length uk) ks.length (flatG hdK lnK ks gk caps) ∧ (((.slice (some ⟨b, 0, none⟩) ks.length uk) : Value).ownBlock = (Value.slice (some ⟨b, 0, none⟩) ks.length uk).ownBlock ∨ w.heap.size ≤ b) ∧ p < w1.heap.size ∧ SlC w1 w1.heap.size a cs.length cs ∧ i < ks.length) := ⟨p1, owns_keep H.out.2.2.2.2.2 (fun x hx => b1.block x (owns_lt H.out.2.2.2.2.2 hx)), .inl rfl, hp1, slc_to H.out.2.2.2.1 (b1.mono (by omega)) (by omega), hfi.1⟩
    have KB : Hid (Below base w w1) := b1.mono (by omega)
    have KG : Hid (w.heap.size ≤ w1.heap.size ∧ ∀ x, x < w.heap.size → x ≠ p → (Value.slice (some ⟨b, 0, none⟩) ks.length uk).ownBlock ≠ some x → w1.heap[x]? = w.heap[x]?) := ⟨b1.size, fun x hx _ _ => b1.block x hx⟩
    have KC : Hid (∀ j, j ≠ 2 → w1.cell? ⟨p, j, none⟩ = w.cell? ⟨p, j, none⟩) := fun j _ => b1.cell (p := ⟨p, j, none⟩) hp
    have KR : Hid ((atK ks i).region = y ∧ i < ks.length) := ⟨hfi.2, hfi.1⟩
    clear b1 hfi pf hpr hp1
    have bd : Below w1.heap.size w1 w1.drew := (Below.refl _ _).drew
    have hS : (fun Y : World => Y.cell? ⟨p, 2, none⟩ = some (.slice (some ⟨b, 0, none⟩) ks.length uk)) w1.drew := (bd.cell (p := ⟨p, 2, none⟩) KX.out.2.2.2.1).trans KX.out.1
    have hoc := ownCells_any w1.drew a cap cs hc0 hcm (KX.out.2.2.2.2.1.later bd)
    have hil : (i : Int) < (ks.length : Int) := by have := KX.out.2.2.2.2.2; omega
    go_wp2_with fail
    refine wp_region_z (fun z => z == 9) (fun Y : World => Y.cell? ⟨p, 2, none⟩ = some (.slice (some ⟨b, 0, none⟩) ks.length uk)) (by kernel_rfl) ?_
    generalize hXd : w1.drew = Xd at *
    refine wpZ_takeP (i := 0) (v := ?_) rfl (by kernel_rfl) (fun _ _ _ h => h) (Or.inl ⟨by rfl, ?_⟩) hS ?_
    rotate_left
    · (intro X _; go_simp; first | done | with_reducible rfl | (rw [if_pos (by omega)]) | (rw [if_pos (by omega)]; go_simp))
    simp only [Act.put]
    refine wpZ_takeP (i := 1) (v := ?_) rfl (by kernel_rfl) (fun _ _ _ h => h) (Or.inl ⟨by rfl, ?_⟩) hS ?_
    rotate_left
    · (intro X _; go_simp; first | done | with_reducible rfl | (rw [if_pos (by omega)]) | (rw [if_pos (by omega)]; go_simp))
    simp only [Act.put]
    refine wpZ_takeP (i := 2) (v := ?_) rfl (by kernel_rfl) (fun _ _ _ h => h) (Or.inl ⟨by rfl, ?_⟩) hS ?_
    rotate_left
    · (intro X _; go_simp; first | done | with_reducible rfl | (rw [if_pos (by omega)]) | (rw [if_pos (by omega)]; go_simp))
    simp only [Act.put]
    refine wpZ_take (i := 3) (v := ?_) rfl (by kernel_rfl) (fun _ _ _ h => h) (Or.inl ⟨by rfl, ?_⟩) hS ?_
    rotate_left
    · (intro X hSw; go_simp; first | done | with_reducible rfl)
    simp only [Act.put]
    refine wpZ_takeP (i := 4) (v := ?_) rfl (by kernel_rfl) (fun _ _ _ h => h) (Or.inl ⟨by rfl, ?_⟩) hS ?_
    rotate_left
    · (intro X _; go_simp; first | done | with_reducible rfl | (rw [if_pos (by omega)]) | (rw [if_pos (by omega)]; go_simp))
    simp only [Act.put]
    refine wpZ_takeP (i := 5) (v := ?_) rfl (by kernel_rfl) (fun _ _ _ h => h) (Or.inl ⟨by rfl, ?_⟩) hS ?_
    rotate_left
    · (intro X _; go_simp; first | done | with_reducible rfl | (rw [if_pos (by omega)]) | (rw [if_pos (by omega)]; go_simp))
    simp only [Act.put]
    refine wpZ_ready (rs := [6]) (by kernel_rfl) (by simp) ?_
    refine AllZ.cons rfl (fun K hK => ?_) AllZ.nil
    go_simp
    refine hoc.mono ?_
    clear hoc
    rintro e X2 ⟨q, cp, rfl, hq1, hq2, hq3, hq4, hq5, b2⟩
    have bX2 : Below w1.heap.size w1 X2 := bd.trans (b2.mono bd.size)
    have hS2 : (fun Y : World => Y.cell? ⟨p, 2, none⟩ = some (.slice (some ⟨b, 0, none⟩) ks.length uk)) X2 := (bX2.cell (p := ⟨p, 2, none⟩) KX.out.2.2.2.1).trans KX.out.1
    have hsz := bd.size
    have RD := rep_done (k := ⟨y, cs⟩) (ks' := ks') (s := id) (i := i) H.out.1 H.out.2.2.2.2.1 KG.out.1 KG.out.2 hp KX.out.2.1 (.inl rfl) bX2 (by rw [← hXd] at hq1; exact hq1) hq2 hq3 (show AtK X2 q ⟨y, cs⟩ from ⟨hq4, hq5⟩) HN.out KX.out.2.2.2.2.2 (by rw [HE.out]; exact flatK_set KR.out.2 KR.out.1.symm) (by rw [HE.out]; exact List.getElem?_set_self KR.out.2) (fun j x e hne => by rw [HE.out, List.getElem?_set_ne (fun k => hne k.symm)] at e; exact e) (fun j j' _ _ _ _ e => e)
    have rc : ∃ u, X2.cell? ⟨b, i * 2 + 1, none⟩ = some u ∧ X2.frozen? ⟨b, i * 2 + 1, none⟩ = false := by
      obtain ⟨hB, -, hle, -, -, hbl⟩ := cells_of_owns KX.out.2.1
      obtain ⟨u, h1, h2⟩ := (hB.keep (bX2.block _ hbl)).room (i * 2 + 1) (by have := KX.out.2.2.2.2.2; omega)
      exact ⟨u, h1, h2⟩
    obtain ⟨u0, rc1, rc2⟩ := rc
    have KD : Hid (RepAns w base p 2 vr vd ks' rs zs gr (.returned (.tuple #[])) (X2.setCell ⟨b, i * 2 + 1, none⟩ (.slice (some ⟨q, 0, none⟩) cs.length cp))) := by
      obtain ⟨m1, m2, m3, m4⟩ := RD
      refine ⟨⟨_, rfl⟩, some ⟨b, 0, none⟩, uk, _, ?_, by rw [HN.out]; exact m1, fun j hj => ?_, ?_⟩
      · rw [HN.out]; exact (cell_far2 (fun e => m4 e.symm)).trans hS2
      · exact (cell_far2 (fun e => m4 e.symm)).trans ((bX2.cell (p := ⟨p, j, none⟩) KX.out.2.2.2.1).trans (KC.out j hj))
      · exact (KB.out.trans (bX2.mono (by have := KX.out.2.2.2.1; omega))).setCell (p := ⟨b, i * 2 + 1, none⟩) m2 _
    refine hK.out _ _ (fun _ => hS2) ?_
    clear hK K hS RD bX2 b2 hq1 hq2 hq3 hq4 hq5 bd hXd hsz
    have hS := hS2
    refine wpZ_takeP (i := 7) (v := ?_) rfl (by kernel_rfl) (fun _ _ _ h => h) (Or.inl ⟨by rfl, ?_⟩) hS ?_
    rotate_left
    · (intro X _; go_simp; first | done | with_reducible rfl | (rw [if_pos (by omega)]) | (rw [if_pos (by omega)]; go_simp))
    simp only [Act.put]
    refine wpZ_takeP (i := 8) (v := ?_) rfl (by kernel_rfl) (fun _ _ _ h => h) (Or.inl ⟨by rfl, ?_⟩) hS ?_
    rotate_left
    · (intro X _; go_simp; first | done | with_reducible rfl | (rw [if_pos (by omega)]) | (rw [if_pos (by omega)]; go_simp))
    simp only [Act.put]
    refine wpZ_ready (rs := [9]) (by kernel_rfl) (by simp) ?_
    refine AllZ.cons rfl (fun K hK => ?_) AllZ.nil
    go_simp
    refine hK.out _ _ (fun h => absurd (show false = true from h.symm.trans (by kernel_rfl)) (by decide)) ?_
    clear hK K
    refine wpZ_done (by kernel_rfl) ?_ _
    go_wp2
    exact bodyPost_end (v := .tuple #[]) (by simp [results, Tryz.results53, go_sem]) rfl KD.out
  | false =>
    have HN : Hid (ks'.length = ks.length + 1) := by unfold Hid; rw [HKS.out, repK, hpr, if_neg (by simp [hF]), insKL_len HP.out.le]
    have HE : Hid (ks' = insKL ks i ⟨y, cs⟩) := by unfold Hid; rw [HKS.out, repK, hpr, if_neg (by simp [hF])]
    obtain ⟨W0, hW0⟩ : ∃ X, X = w1.alloc (.cells #[.int .i64 y, .slice none 0 0] 97) := ⟨_, rfl⟩
    have b0 : Below w1.heap.size w1 W0 := by rw [hW0]; exact (Below.refl _ _).alloc (Nat.le_refl _) _
    have hV : Blk W0 w1.heap.size 97 2 := ⟨#[.int .i64 y, .slice none 0 0], by rw [hW0]; show (w1.heap.push _)[w1.heap.size]? = _; simp, rfl⟩
    have hv0 : W0.cell? ⟨w1.heap.size, 0, none⟩ = some (.int .i64 y) := by rw [hW0]; go_simp
    have hv1 : W0.cell? ⟨w1.heap.size, 1, none⟩ = some (.slice none 0 0) := by rw [hW0]; go_simp
    have hz : W0.heap.size = w1.heap.size + 1 := by rw [hW0]; simp
    have b01 : Below w.heap.size w W0 := b1.trans (b0.mono b1.size)
    have hoW := H.out.2.2.2.2.2
    have hc := insK_any W0 base (.slice uc ks.length uk) ks.length (flatG hdK lnK ks gk caps) (.int .i64 y) (.slice none 0 0) i w1.heap.size 1 (owns_keep hoW (fun x hx => b01.block x (owns_lt hoW hx))) hn HP.out.le (flatK_one _ _ _) hV (by omega) hv0 hv1 rfl rfl (fun e => by have := owns_lt hoW e; have := b1.size; omega) (by have := b1.size; omega)
    have KB0 : Hid (Below w.heap.size w W0 ∧ W0.heap.size = w1.heap.size + 1 ∧ w.heap.size ≤ w1.heap.size) := ⟨b01, hz, b1.size⟩
    have HS : Hid (w.cell? ⟨p, 2, none⟩ = some (.slice uc ks.length uk) ∧ w.frozen? ⟨p, 2, none⟩ = false) := ⟨H.out.2.1, H.out.2.2.1⟩
    clear b0 hV hv0 hv1 hz b01 hoW b1 hpr
    go_wp2_with fail
    rw [← hW0]
    clear hW0
    refine hc.mono ?_
    clear hc p1 pf
    rintro e W ⟨v', rfl, hown, hg, hl⟩
    obtain ⟨b, cc, rfl⟩ := form_of hown (by omega)
    have hgw : w.grownBy W (Value.slice uc ks.length uk).ownBlock := ⟨hg.os.trans KB0.out.1.os, hg.tape.trans KB0.out.1.tape, hg.output.trans KB0.out.1.output, Nat.le_trans KB0.out.1.size hg.size, fun k hk hx => (hg.block k (by have := KB0.out.2; omega) hx).trans (KB0.out.1.block k hk)⟩
    have hne : (Value.slice uc ks.length uk).ownBlock ≠ some p := fun e => H.out.1.kp p (.inl e) rfl
    have hbl : W.heap[p]? = w.heap[p]? := hgw.block p hp (fun e => hne e.symm)
    have c3 := (World.cell?_of_block (a := ⟨p, 2, none⟩) hbl).trans HS.out.1
    have f3 := (World.frozen?_of_block (a := ⟨p, 2, none⟩) hbl).trans HS.out.2
    obtain ⟨X1, hX1⟩ : ∃ X, X = W.setCell ⟨p, 2, none⟩ (.slice (some ⟨b, 0, none⟩) (ks.length + 1) cc) := ⟨_, rfl⟩
    have hbb : (Value.slice (some ⟨b, 0, none⟩) (ks.length + 1) cc).ownBlock = (Value.slice uc ks.length uk).ownBlock ∨ w.heap.size ≤ b := by
      rcases hl with hl | hl
      · exact .inl hl
      · right; have hl' : b = W0.heap.size := Option.some.inj hl; have := KB0.out.2; omega
    have hbp' : b ≠ p := fun e => by
      rcases hbb with h1 | h1
      · exact hne (by rw [← h1, e]; rfl)
      · omega
    have sX : X1.heap.size = W.heap.size := by rw [hX1]; simp [World.setCell]
    have hblk : ∀ x, x ≠ p → X1.heap[x]? = W.heap[x]? := fun x hx => by rw [hX1]; exact Below.heap_setCell _ _ _ _ hx
    have KB : Hid (Below base w X1) := by
      have hb : Below base w W := ⟨hgw.os, hgw.tape, hgw.output, hgw.size, fun k hk => hgw.block k (by omega) (fun e => by have := (World.ownsRow.lt H.out.2.2.2.2.2 k e.symm).1; omega)⟩
      rw [hX1]; exact hb.setCell (p := ⟨p, 2, none⟩) hbp _
    have KC : Hid (∀ j, j ≠ 2 → X1.cell? ⟨p, j, none⟩ = w.cell? ⟨p, j, none⟩) := fun j hj => by rw [hX1]; exact (cell_set_other (by simpa using fun e => hj e)).trans (World.cell?_of_block (a := ⟨p, j, none⟩) hbl)
    have KX : Hid (X1.cell? ⟨p, 2, none⟩ = some (.slice (some ⟨b, 0, none⟩) (ks.length + 1) cc) ∧ X1.ownsRow base 97 2 (.slice (some ⟨b, 0, none⟩) (ks.length + 1) cc) (ks.length + 1) (insV (flatG hdK lnK ks gk caps) (i * 2) (.int .i64 y) (.slice none 0 0)) ∧ (((.slice (some ⟨b, 0, none⟩) (ks.length + 1) cc) : Value).ownBlock = (Value.slice uc ks.length uk).ownBlock ∨ w.heap.size ≤ b) ∧ p < X1.heap.size ∧ SlC X1 X1.heap.size a cs.length cs ∧ i < (ks.length + 1)) := by
      refine ⟨by rw [hX1]; exact cell_set_same c3, owns_keep hown (fun x hx => hblk x (by have hx' : b = x := Option.some.inj hx; omega)), hbb, by have := hgw.size; omega, ?_, by have := HP.out.le; omega⟩
      exact slc_to H.out.2.2.2.1 KB.out (by omega)
    have KG : Hid (w.heap.size ≤ X1.heap.size ∧ ∀ x, x < w.heap.size → x ≠ p → (Value.slice uc ks.length uk).ownBlock ≠ some x → X1.heap[x]? = w.heap[x]?) := ⟨by have := hgw.size; omega, fun x hx hxp hne => (hblk x hxp).trans (hgw.block x hx (fun e => hne e.symm))⟩
    have HBB := hidOf hbb
    have HI : Hid (i ≤ ks.length) := HP.out.le
    have eX := hX1
    clear hown hg hgw hl hbl hne hbb hbp' sX hblk KB0 HS HP
    have bd : Below X1.heap.size X1 X1.drew := (Below.refl _ _).drew
    have hS : (fun Y : World => Y.cell? ⟨p, 2, none⟩ = some (.slice (some ⟨b, 0, none⟩) (ks.length + 1) cc)) X1.drew := (bd.cell (p := ⟨p, 2, none⟩) KX.out.2.2.2.1).trans KX.out.1
    have hoc := ownCells_any X1.drew a cap cs hc0 hcm (KX.out.2.2.2.2.1.later bd)
    have hil : (i : Int) < ((ks.length + 1) : Int) := by have := KX.out.2.2.2.2.2; omega
    rw [eX] at KX
    go_wp2_with fail
    rw [← eX] at KX ⊢
    clear c3 f3
    clear eX hX1
    refine wp_region_z (fun z => z == 9) (fun Y : World => Y.cell? ⟨p, 2, none⟩ = some (.slice (some ⟨b, 0, none⟩) (ks.length + 1) cc)) (by kernel_rfl) ?_
    generalize hXd : X1.drew = Xd at *
    refine wpZ_takeP (i := 0) (v := ?_) rfl (by kernel_rfl) (fun _ _ _ h => h) (Or.inl ⟨by rfl, ?_⟩) hS ?_
    rotate_left
    · (intro X _; go_simp; first | done | with_reducible rfl | (rw [if_pos (by omega)]) | (rw [if_pos (by omega)]; go_simp))
    simp only [Act.put]
    refine wpZ_takeP (i := 1) (v := ?_) rfl (by kernel_rfl) (fun _ _ _ h => h) (Or.inl ⟨by rfl, ?_⟩) hS ?_
    rotate_left
    · (intro X _; go_simp; first | done | with_reducible rfl | (rw [if_pos (by omega)]) | (rw [if_pos (by omega)]; go_simp))
    simp only [Act.put]
    refine wpZ_takeP (i := 2) (v := ?_) rfl (by kernel_rfl) (fun _ _ _ h => h) (Or.inl ⟨by rfl, ?_⟩) hS ?_
    rotate_left
    · (intro X _; go_simp; first | done | with_reducible rfl | (rw [if_pos (by omega)]) | (rw [if_pos (by omega)]; go_simp))
    simp only [Act.put]
    refine wpZ_take (i := 3) (v := ?_) rfl (by kernel_rfl) (fun _ _ _ h => h) (Or.inl ⟨by rfl, ?_⟩) hS ?_
    rotate_left
    · (intro X hSw; go_simp; first | done | with_reducible rfl)
    simp only [Act.put]
    refine wpZ_takeP (i := 4) (v := ?_) rfl (by kernel_rfl) (fun _ _ _ h => h) (Or.inl ⟨by rfl, ?_⟩) hS ?_
    rotate_left
    · (intro X _; go_simp; first | done | with_reducible rfl | (rw [if_pos (by omega)]) | (rw [if_pos (by omega)]; go_simp))
    simp only [Act.put]
    refine wpZ_takeP (i := 5) (v := ?_) rfl (by kernel_rfl) (fun _ _ _ h => h) (Or.inl ⟨by rfl, ?_⟩) hS ?_
    rotate_left
    · (intro X _; go_simp; first | done | with_reducible rfl | (rw [if_pos (by omega)]) | (rw [if_pos (by omega)]; go_simp))
    simp only [Act.put]
    refine wpZ_ready (rs := [6]) (by kernel_rfl) (by simp) ?_
    refine AllZ.cons rfl (fun K hK => ?_) AllZ.nil
    go_simp
    refine hoc.mono ?_
    clear hoc
    rintro e X2 ⟨q, cp, rfl, hq1, hq2, hq3, hq4, hq5, b2⟩
    have bX2 : Below X1.heap.size X1 X2 := bd.trans (b2.mono bd.size)
    have hS2 : (fun Y : World => Y.cell? ⟨p, 2, none⟩ = some (.slice (some ⟨b, 0, none⟩) (ks.length + 1) cc)) X2 := (bX2.cell (p := ⟨p, 2, none⟩) KX.out.2.2.2.1).trans KX.out.1
    have hsz := bd.size
    have RD := rep_done (k := ⟨y, cs⟩) (ks' := ks') (s := (sgI i)) (i := i) H.out.1 H.out.2.2.2.2.1 KG.out.1 KG.out.2 hp KX.out.2.1 HBB.out bX2 (by rw [← hXd] at hq1; exact hq1) hq2 hq3 (show AtK X2 q ⟨y, cs⟩ from ⟨hq4, hq5⟩) HN.out KX.out.2.2.2.2.2 (by rw [HE.out, insV_set _ _ _ (by rw [flatK_len]; have := HI.out; omega)]; exact flatK_ins (k := ⟨y, cs⟩) HI.out) (by rw [HE.out, insKL_get HI.out, if_neg (by omega), if_pos rfl]) (by rw [HE.out]; exact sgI_hs HI.out) (fun j j' _ _ h1 h2 e => sgI_inj j j' h1 h2 e)
    have rc : ∃ u, X2.cell? ⟨b, i * 2 + 1, none⟩ = some u ∧ X2.frozen? ⟨b, i * 2 + 1, none⟩ = false := by
      obtain ⟨hB, -, hle, -, -, hbl⟩ := cells_of_owns KX.out.2.1
      obtain ⟨u, h1, h2⟩ := (hB.keep (bX2.block _ hbl)).room (i * 2 + 1) (by have := KX.out.2.2.2.2.2; omega)
      exact ⟨u, h1, h2⟩
    obtain ⟨u0, rc1, rc2⟩ := rc
    have KD : Hid (RepAns w base p 2 vr vd ks' rs zs gr (.returned (.tuple #[])) (X2.setCell ⟨b, i * 2 + 1, none⟩ (.slice (some ⟨q, 0, none⟩) cs.length cp))) := by
      obtain ⟨m1, m2, m3, m4⟩ := RD
      refine ⟨⟨_, rfl⟩, some ⟨b, 0, none⟩, cc, _, ?_, by rw [HN.out]; exact m1, fun j hj => ?_, ?_⟩
      · rw [HN.out]; exact (cell_far2 (fun e => m4 e.symm)).trans hS2
      · exact (cell_far2 (fun e => m4 e.symm)).trans ((bX2.cell (p := ⟨p, j, none⟩) KX.out.2.2.2.1).trans (KC.out j hj))
      · exact (KB.out.trans (bX2.mono (by have := KX.out.2.2.2.1; omega))).setCell (p := ⟨b, i * 2 + 1, none⟩) m2 _
    refine hK.out _ _ (fun _ => hS2) ?_
    clear hK K hS RD bX2 b2 hq1 hq2 hq3 hq4 hq5 bd hXd hsz
    have hS := hS2
    refine wpZ_takeP (i := 7) (v := ?_) rfl (by kernel_rfl) (fun _ _ _ h => h) (Or.inl ⟨by rfl, ?_⟩) hS ?_
    rotate_left
    · (intro X _; go_simp; first | done | with_reducible rfl | (rw [if_pos (by omega)]) | (rw [if_pos (by omega)]; go_simp))
    simp only [Act.put]
    refine wpZ_takeP (i := 8) (v := ?_) rfl (by kernel_rfl) (fun _ _ _ h => h) (Or.inl ⟨by rfl, ?_⟩) hS ?_
    rotate_left
    · (intro X _; go_simp; first | done | with_reducible rfl | (rw [if_pos (by omega)]) | (rw [if_pos (by omega)]; go_simp))
    simp only [Act.put]
    refine wpZ_ready (rs := [9]) (by kernel_rfl) (by simp) ?_
    refine AllZ.cons rfl (fun K hK => ?_) AllZ.nil
    go_simp
    refine hK.out _ _ (fun h => absurd (show false = true from h.symm.trans (by kernel_rfl)) (by decide)) ?_
    clear hK K
    refine wpZ_done (by kernel_rfl) ?_ _
    go_wp2
    exact bodyPost_end (v := .tuple #[]) (by simp [results, Tryz.results53, go_sem]) rfl KD.out
end Go.Proofs.YtooalbdlknheeaaGreat
