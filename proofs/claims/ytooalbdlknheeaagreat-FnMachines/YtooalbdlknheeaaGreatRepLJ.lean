/- A copy's cells replaced, or the copy put in, by the specification. -/
import Derived.Test.YtooalbdlknheeaaGreatRows
import Derived.Test.YtooalbdlknheeaaGreatJ47LawMachines
import Derived.Test.YtooalbdlknheeaaGreatUntZ
import Derived.WalkKit
import Derived.WalkSpells
import Derived.WalkLawsBesides
import Derived.Below
import Derived.Deep.CutRange
namespace Go.Proofs.YtooalbdlknheeaaGreat
open Go.RowKit
theorem rep_put {w X : World} {base p b n c i q cp : Nat} {vo vr vd : Value} {ks ks' : List K2} {rs : List R4} {zs : List Int} {gk gr caps s : Nat → Nat} {k : K2}
    (h : MR base p w vo vr vd ks rs zs gk gr) (hcp : ∀ j x, ks[j]? = some x → lnK x ≤ caps j) (bX : Below w.heap.size w X) (hp : p < w.heap.size) (hbw : base ≤ w.heap.size)
    (hrow : X.ownsRow w.heap.size 97 2 (.slice (some ⟨b, 0, none⟩) n c) n (flatG hdK lnK ks' (upTo i q s gk) (upTo i cp s caps))) (hq1 : base ≤ q) (hq2 : q < w.heap.size) (hqf : ∀ x, (blocksG vo ks gk x ∨ blocksG vr rs gr x ∨ vd.ownBlock = some x ∨ x = p) → x ≠ q) (hcap : lnK k ≤ cp) (hat : AtK w q k)
    (hn : ks'.length = n) (hi : ks'[i]? = some k) (hs : ∀ j x, ks'[j]? = some x → j ≠ i → ks[s j]? = some x) (hinj : ∀ j j', j < ks'.length → j' < ks'.length → j ≠ i → j' ≠ i → s j = s j' → j = j') :
    MR base p X (.slice (some ⟨b, 0, none⟩) n c) vr vd ks' rs zs (upTo i q s gk) gr := by
  have hbl := World.ownsRow.lt hrow b rfl
  have G : GrowG 97 2 hdK lnK AtK X base (.slice (some ⟨b, 0, none⟩) n c) ks' (upTo i q s gk) :=
    growK_new h.gK hcp bX.size (fun j hj => bX.block _ (h.gK.lt j hj)) (AtK.of_block _ _ _ _ (bX.block q hq2) hat) hq1 (Nat.lt_of_lt_of_le hq2 bX.size) (fun j hj e => hqf _ (.inl (.inr ⟨j, hj, rfl⟩)) e) hcap hi hs hinj (by rw [hn]; exact owns_mono hrow hbw) (fun e => by have e' : b = q := Option.some.inj e; omega) (fun j hj e => by have e' : b = gk j := Option.some.inj e; have := h.gK.lt j hj; omega)
  refine h.withK G bX.size (fun x hx => bX.block x (hx.elim (fun e => (h.gR.blocks e).2) (fun e => owns_lt h.gD e))) (fun x hx => ?_)
  rcases hx with hx | ⟨j, hj, hx⟩
  · have hx' : b = x := Option.some.inj hx
    subst hx'
    exact .inr ⟨fun e => by have := (h.gR.blocks e).2; omega, fun e => by have := owns_lt h.gD e; omega, by omega⟩
  · by_cases e1 : j = i
    · rw [upTo, if_pos e1] at hx
      subst hx
      exact .inr ⟨fun e => hqf _ (.inr (.inl e)) rfl, fun e => hqf _ (.inr (.inr (.inl e))) rfl, fun e => hqf _ (.inr (.inr (.inr e))) rfl⟩
    · rw [upTo, if_neg e1] at hx
      have hjs := hs j _ (List.getElem?_eq_getElem hj) e1
      exact .inl (.inr ⟨s j, (List.getElem?_eq_some_iff.1 hjs).1, hx⟩)
theorem rep_set {w : World} {base p b n c i q cp : Nat} {vr vd : Value} {ks ks' : List K2} {rs : List R4} {zs : List Int} {gk gr caps : Nat → Nat} {k : K2}
    (h : MR base p w (.slice (some ⟨b, 0, none⟩) n c) vr vd ks rs zs gk gr) (hcp : ∀ j x, ks[j]? = some x → lnK x ≤ caps j) (hrow : w.ownsRow base 97 2 (.slice (some ⟨b, 0, none⟩) n c) n (flatG hdK lnK ks gk caps)) (hq1 : base ≤ q) (hq2 : q < w.heap.size) (hqf : ∀ x, (blocksG (.slice (some ⟨b, 0, none⟩) n c) ks gk x ∨ blocksG vr rs gr x ∨ vd.ownBlock = some x ∨ x = p) → x ≠ q) (hcap : lnK k ≤ cp) (hat : AtK w q k)
    (hn : ks.length = n) (hin : i < n) (hk : k.region = (atK ks i).region) (hks : ks' = ks.set i k) :
    MR base p (w.setCell ⟨b, i * 2 + 1, none⟩ (.slice (some ⟨q, 0, none⟩) k.cells.length cp)) (.slice (some ⟨b, 0, none⟩) n c) vr vd ks' rs zs (upTo i q id gk) gr := by
  subst hks hn
  have hbK : blocksG (.slice (some ⟨b, 0, none⟩) ks.length c) ks gk b := .inl rfl
  have r2 := owns_set hrow (o := i * 2 + 1) (by omega) (.slice (some ⟨q, 0, none⟩) k.cells.length cp)
  rw [flatK_set hin hk] at r2
  have hbq : b ≠ q := hqf b (.inl hbK)
  have keep : ∀ x, x ≠ b → (w.setCell ⟨b, i * 2 + 1, none⟩ (.slice (some ⟨q, 0, none⟩) k.cells.length cp)).heap[x]? = w.heap[x]? := fun x hx => Below.heap_setCell _ _ _ _ hx
  have gne : ∀ j, j < ks.length → gk j ≠ b := fun j hj e => h.gK.ne j hj (by rw [e]; rfl)
  have hsz : w.heap.size ≤ (w.setCell ⟨b, i * 2 + 1, none⟩ (.slice (some ⟨q, 0, none⟩) k.cells.length cp)).heap.size := by simp [World.setCell]
  have G : GrowG 97 2 hdK lnK AtK (w.setCell ⟨b, i * 2 + 1, none⟩ (.slice (some ⟨q, 0, none⟩) k.cells.length cp)) base (.slice (some ⟨b, 0, none⟩) ks.length c) (ks.set i k) (upTo i q id gk) :=
    growK_new h.gK hcp hsz (fun j hj => keep _ (gne j hj)) (AtK.of_block _ _ _ _ (keep q (fun e => hbq e.symm)) hat) hq1 (Nat.lt_of_lt_of_le hq2 hsz) (fun j hj e => hqf _ (.inl (.inr ⟨j, hj, rfl⟩)) e) hcap (List.getElem?_set_self hin) (fun j x e hne => by rw [List.getElem?_set_ne (fun k => hne k.symm)] at e; exact e) (fun j j' _ _ _ _ e => e) (by rw [List.length_set]; exact r2) (fun e => hbq (Option.some.inj e)) (fun j hj e => gne j hj (Option.some.inj e).symm)
  refine h.withK G hsz (fun x hx => keep x (fun e => ?_)) (fun x hx => ?_)
  · subst e
    exact hx.elim (fun e => h.kr _ hbK e) (fun e => h.kd _ hbK e)
  · rcases hx with hx | ⟨j, hj, hx⟩
    · exact .inl (.inl hx)
    · by_cases e1 : j = i
      · rw [upTo, if_pos e1] at hx
        subst hx
        exact .inr ⟨fun e => hqf _ (.inr (.inl e)) rfl, fun e => hqf _ (.inr (.inr (.inl e))) rfl, fun e => hqf _ (.inr (.inr (.inr e))) rfl⟩
      · rw [upTo, if_neg e1] at hx
        exact .inl (.inr ⟨j, by simpa using hj, hx⟩)
theorem row_drop {w : World} {uc a8 : Option Addr} {k n c : Nat} {xs : List Value} (hn : n ≤ c) (hx : n = 0 ∨ ∃ b, uc = some ⟨b, 0, none⟩ ∧ ∀ j u, xs[j]? = some u → w.cell? ⟨b, j, none⟩ = some u) (e : a8 = if c = k then uc else Option.map (fun x => x.add (k * 2)) uc) : n - k = 0 ∨ ∃ b' off, a8 = some ⟨b', off, none⟩ ∧ ∀ j u, (xs.drop (k * 2))[j]? = some u → w.cell? ⟨b', off + j, none⟩ = some u := by
  by_cases hz : n - k = 0
  · exact .inl hz
  · rcases hx with hx | ⟨b, rfl, hx⟩
    · omega
    rw [if_neg (by omega), Option.map_some, Addr.add_lit, Nat.zero_add] at e
    exact .inr ⟨b, k * 2, e, fun j u hu => by rw [List.getElem?_drop] at hu; exact hx _ u hu⟩
theorem take_two {xs : List Value} {k : Nat} {u0 u1 : Value} (h0 : xs[k * 2]? = some u0) (h1 : xs[k * 2 + 1]? = some u1) : xs.take (k * 2) ++ [u0, u1] = xs.take ((k + 1) * 2) := by
  rw [show (k + 1) * 2 = k * 2 + 1 + 1 by omega, List.take_add_one, List.take_add_one, h0, h1]; simp
set_option maxRecDepth 100000 in
set_option maxHeartbeats 4000000 in
theorem l6Replace_any (w : World) (base p : Nat) (alive : Bool) (ul ud : Option Addr) (uj ui : Nat) (uc : Option Addr) (uk : Nat) (ks : List K2) (rs : List R4) (zs : List Int) (gk gr : Nat → Nat) (y : Int) (q cp : Nat) (cs : List C2) (h : MR base p w (.slice uc ks.length uk) (.slice ul rs.length uj) (.slice ud zs.length ui) ks rs zs gk gr) (hML : ML ⟨alive, ks, rs, zs⟩) (c0 : w.cell? ⟨p, 0, none⟩ = some (.bool alive)) (c1 : w.cell? ⟨p, 1, none⟩ = some (.slice uc ks.length uk)) (c2 : w.cell? ⟨p, 2, none⟩ = some (.slice ul rs.length uj)) (c3 : w.cell? ⟨p, 3, none⟩ = some (.slice ud zs.length ui)) (f1 : w.frozen? ⟨p, 1, none⟩ = false) (hp : p < w.heap.size) (hbp : base ≤ p) (hn : ks.length ≤ 1000) (hu : UpR ks) (hq1 : base ≤ q) (hq2 : q < w.heap.size) (hqf : ∀ x, (blocksG (.slice uc ks.length uk) ks gk x ∨ blocksG (.slice ul rs.length uj) rs gr x ∨ (Value.slice ud zs.length ui).ownBlock = some x ∨ x = p) → x ≠ q) (hcap : cs.length ≤ cp) (hat : AtK w q ⟨y, cs⟩) :
    Calls Tryz.prog 59 #[.pointer (some ⟨p, 0, none⟩), .int .i64 y, .slice (some ⟨q, 0, none⟩) cs.length cp] w (RepAns w base p 1 (.slice ul rs.length uj) (.slice ud zs.length ui) (repK ks y cs) rs zs gr) := by
  obtain ⟨ks', hks⟩ : ∃ ks', ks' = repK ks y cs := ⟨_, rfl⟩
  rw [← hks]
  have HKS := hidOf hks
  clear hks
  have hAt := l6At_any w ⟨uc, uk, ul, uj, ud, ui⟩ ⟨alive, ks, rs, zs⟩ y hML (MR.om (v := ⟨uc, uk, ul, uj, ud, ui⟩) (m := ⟨alive, ks, rs, zs⟩) h).sl
  simp only [MV.val] at hAt
  obtain ⟨caps, ho, hcp⟩ := h.gK.row
  have H : Hid (MR base p w (.slice uc ks.length uk) (.slice ul rs.length uj) (.slice ud zs.length ui) ks rs zs gk gr ∧ w.cell? ⟨p, 1, none⟩ = some (.slice uc ks.length uk) ∧ w.frozen? ⟨p, 1, none⟩ = false ∧ (∀ j x, ks[j]? = some x → lnK x ≤ caps j) ∧ w.ownsRow base 97 2 (.slice uc ks.length uk) ks.length (flatG hdK lnK ks gk caps) ∧ (∀ x, (blocksG (.slice uc ks.length uk) ks gk x ∨ blocksG (.slice ul rs.length uj) rs gr x ∨ (Value.slice ud zs.length ui).ownBlock = some x ∨ x = p) → x ≠ q) ∧ AtK w q ⟨y, cs⟩ ∧ UpR ks ∧ base ≤ q ∧ q < w.heap.size ∧ cs.length ≤ cp) := ⟨h, c1, f1, hcp, ho, hqf, hat, hu, hq1, hq2, hcap⟩
  clear h hcp ho hqf hat hu hML hq1 hq2 hcap
  go_enter Tryz.func59, Tryz.ntmps59
  go_wp2_with fail
  refine hAt.mono ?_
  clear hAt
  rintro e w1 ⟨⟨i, rfl, hi⟩, b1⟩
  have B1 := hidOf b1
  have d1 := (b1.cell (p := ⟨p, 1, none⟩) hp).trans c1
  have df := (b1.frozen (p := ⟨p, 1, none⟩) hp).trans f1
  have hp1 : p < w1.heap.size := Nat.lt_of_lt_of_le hp b1.size
  have H1 : Hid (MR base p w1 (.slice uc ks.length uk) (.slice ul rs.length uj) (.slice ud zs.length ui) ks rs zs gk gr ∧ w1.ownsRow base 97 2 (.slice uc ks.length uk) ks.length (flatG hdK lnK ks gk caps) ∧ AtK w1 q ⟨y, cs⟩ ∧ q < w1.heap.size ∧ (∀ j, w1.cell? ⟨p, j, none⟩ = w.cell? ⟨p, j, none⟩) ∧ Below base w w1) :=
    ⟨H.out.1.later b1, owns_keep H.out.2.2.2.2.1 (fun x hx => b1.block x (owns_lt H.out.2.2.2.2.1 hx)), AtK.of_block _ _ _ _ (b1.block q H.out.2.2.2.2.2.2.2.2.2.1) H.out.2.2.2.2.2.2.1, Nat.lt_of_lt_of_le H.out.2.2.2.2.2.2.2.2.2.1 b1.size, fun j => b1.cell (p := ⟨p, j, none⟩) hp, b1.mono (by omega)⟩
  clear b1 c0 c1 c2 c3 f1
  rcases hi with ⟨rfl, hno⟩ | ⟨k, rfl, hk, hfk, hlo⟩
  · have hne : ∀ j, j < ks.length → (atK ks j).region ≠ y := fun j hj => by simpa using hno j hj
    have HNE := hidOf hne
    clear hno hne
    obtain ⟨W, hW⟩ : ∃ W, W = w1.alloc (.cells #[] 97) := ⟨_, rfl⟩
    have b0 : Below w1.heap.size w1 W := by rw [hW]; exact (Below.refl _ _).alloc (Nat.le_refl _) _
    have r0 : W.ownsRow w1.heap.size 97 2 (.slice (some ⟨w1.heap.size, 0, none⟩) 0 0) 0 [] := by rw [hW]; exact World.ownsRow_made w1 #[] 0 (Nat.le_refl _) (Nat.zero_le _) rfl
    have H0 : Hid (Below w1.heap.size w1 W ∧ W.ownsRow w1.heap.size 97 2 (.slice (some ⟨w1.heap.size, 0, none⟩) 0 0) 0 []) := ⟨b0, r0⟩
    obtain ⟨xs, hxs⟩ : ∃ xs, xs = flatG hdK lnK ks gk caps := ⟨_, rfl⟩
    have HX : Hid (xs.length = ks.length * 2 ∧ (∀ j x, ks[j]? = some x → xs[j * 2]? = some (.int .i64 x.region) ∧ xs[j * 2 + 1]? = some (.slice (some ⟨gk j, 0, none⟩) x.cells.length (caps j))) ∧ (∀ u ∈ xs, u.oneCell' = true) ∧ xs = flatG hdK lnK ks gk caps) := by
      refine ⟨by rw [hxs]; exact flatK_len _ _ _, fun j x e => by rw [hxs]; exact flatK_get e, by rw [hxs]; exact flatK_one _ _ _, hxs⟩
    have HY : Hid (ks.length ≤ uk ∧ (ks.length = 0 ∨ ∃ b, uc = some ⟨b, 0, none⟩ ∧ b < w1.heap.size ∧ ∀ j u, xs[j]? = some u → w1.cell? ⟨b, j, none⟩ = some u)) := by
      have hr := H1.out.2.1
      by_cases e : ks.length = 0
      · refine ⟨?_, .inl e⟩; omega
      · obtain ⟨b, cc, ev⟩ := form_of hr (by omega)
        injection ev with ea _ ec
        subst ea ec
        obtain ⟨-, hx, hle, -, -, hbl⟩ := cells_of_owns hr
        exact ⟨hle, .inr ⟨b, rfl, hbl, by rw [hxs]; exact hx⟩⟩
    clear b0 r0 hxs
    go_wp2
    rw [← hW]
    clear hW
    go_loopw [7, 8] (fun v7 v8 wr => ∃ k : Nat, k ≤ ks.length ∧ v8 = .int .i64 k ∧ wr.ownsRow w1.heap.size 97 2 v7 k (xs.take (k * 2)) ∧ Below w1.heap.size w1 wr ∧ (∀ j, j < k → (atK ks j).region < y)) (fun _ v8 _ => ks.length - (intOf v8).toNat)
    case atStart => exact ⟨0, Nat.zero_le _, rfl, by simpa using H0.out.2, H0.out.1, fun j hj => by omega⟩
    case round =>
      obtain ⟨k, hk, rfl, hrow, hbl, hall⟩ := hrel
      obtain ⟨a7, c7, rfl⟩ := owns_slice hrow
      have KA : Hid (wr.ownsRow w1.heap.size 97 2 (.slice a7 k c7) k (xs.take (k * 2)) ∧ Below w1.heap.size w1 wr ∧ (∀ j, j < k → (atK ks j).region < y)) := ⟨hrow, hbl, hall⟩
      have dd := (hbl.cell (p := ⟨p, 1, none⟩) hp1).trans d1
      clear hrow hall H0
      by_cases hlt : k < ks.length
      · have hk5 : (k : Int) < (ks.length : Int) := by omega
        rcases HY.out.2 with h0 | ⟨b, rfl, hb, hx⟩
        · omega
        have hg := HX.out.2.1 k _ (atK_of hlt)
        have e0 := (hbl.cell (p := ⟨b, k * 2, none⟩) hb).trans (hx _ _ hg.1)
        have e1 := (hbl.cell (p := ⟨b, k * 2 + 1, none⟩) hb).trans (hx _ _ hg.2)
        clear hx
        by_cases hy : (atK ks k).region < y
        · obtain ⟨V, hV⟩ : ∃ V, V = wr.alloc (.cells #[.int .i64 (atK ks k).region, .slice (some ⟨gk k, 0, none⟩) (atK ks k).cells.length (caps k)] 97) := ⟨_, rfl⟩
          have bV : Below wr.heap.size wr V := by rw [hV]; exact (Below.refl _ _).alloc (Nat.le_refl _) _
          have hone : ∀ j u, [Value.int .i64 (atK ks k).region, Value.slice (some ⟨gk k, 0, none⟩) (atK ks k).cells.length (caps k)][j]? = some u → V.cell? ⟨wr.heap.size, 0 + j, none⟩ = some u := fun j u hu => by
            rw [hV]
            rcases j with _ | _ | j <;> simp at hu <;> subst hu <;> go_simp
          obtain ⟨a8, c8, Y, hr, hrow', hgr, -⟩ := pushV (owns_keep KA.out.1 (fun x hx => bV.block x (owns_lt KA.out.1 hx))) [Value.int .i64 (atK ks k).region, Value.slice (some ⟨gk k, 0, none⟩) (atK ks k).cells.length (caps k)] 1 rfl (by omega) 24 (some ⟨wr.heap.size, 0, none⟩) 1 (.inr ⟨wr.heap.size, 0, rfl, hone⟩) (fun u hu => by simp at hu; rcases hu with rfl | rfl <;> rfl) (Nat.le_trans KA.out.2.1.size bV.size)
          rw [take_two hg.1 hg.2] at hrow'
          have KE : Hid (Y.ownsRow w1.heap.size 97 2 (.slice a8 (k + 1) c8) (k + 1) (xs.take ((k + 1) * 2)) ∧ Below w1.heap.size w1 Y ∧ (∀ j, j < k + 1 → (atK ks j).region < y)) := by
            refine ⟨hrow', (KA.out.2.1.trans (bV.mono KA.out.2.1.size)).grown hgr (Nat.le_trans KA.out.2.1.size bV.size) (fun x e => (World.ownsRow.lt KA.out.1 x e).1), fun j hj => ?_⟩
            by_cases ej : j = k
            · rw [ej]; exact hy
            · exact KA.out.2.2 j (by omega)
          rw [hV] at hr
          clear hV bV hone hrow' hgr hg hbl
          go_wp2_with (at_builtin; refine append_known _ rfl (.tmp 46) (.tmp 54) 24 rfl _ _ _ _ rfl rfl hr ?_)
          exact ⟨⟨k + 1, by omega, by simp, KE.out.1, KE.out.2.1, KE.out.2.2⟩, by simp [intOf]; omega⟩
        · have HC : Hid (posR ks y = k) := posR_at hlt hy KA.out.2.2
          have q9 : decide ((atK ks k).region < y) = false := by simpa using hy
          clear hg
          have bd : Below wr.heap.size wr wr.drew := (Below.refl _ _).drew
          have bW : Below w1.heap.size w1 wr.drew := KA.out.2.1.trans (bd.mono KA.out.2.1.size)
          have SFH : Hid (∀ Y, Below w1.heap.size w1 Y → (fun Y : World => Y.cell? ⟨p, 1, none⟩ = some (.slice (some (⟨b, 0, none⟩ : Addr)) ks.length uk)) Y) := fun Y hY => (hY.cell (p := ⟨p, 1, none⟩) hp1).trans d1
          have hS : (fun Y : World => Y.cell? ⟨p, 1, none⟩ = some (.slice (some (⟨b, 0, none⟩ : Addr)) ks.length uk)) wr.drew := SFH.out _ bW
          have rD : wr.drew.ownsRow w1.heap.size 97 2 (.slice a7 k c7) k (xs.take (k * 2)) := owns_keep KA.out.1 (fun x hx => bd.block x (owns_lt KA.out.1 hx))
          clear bd hbl
          go_wp2_with fail
          refine wp_region_z (fun _ => false) (fun Y : World => Y.cell? ⟨p, 1, none⟩ = some (.slice (some (⟨b, 0, none⟩ : Addr)) ks.length uk)) (by kernel_rfl) ?_
          generalize wr.drew = Ud at *
          obtain ⟨V1, hV1⟩ : ∃ V, V = Ud.alloc (.cells #[.int .i64 y, .slice (some ⟨q, 0, none⟩) cs.length cp] 97) := ⟨_, rfl⟩
          have bV1 : Below Ud.heap.size Ud V1 := by rw [hV1]; exact (Below.refl _ _).alloc (Nat.le_refl _) _
          have hone : ∀ j u, [Value.int .i64 y, Value.slice (some ⟨q, 0, none⟩) cs.length cp][j]? = some u → V1.cell? ⟨Ud.heap.size, 0 + j, none⟩ = some u := fun j u hu => by
            rw [hV1]
            rcases j with _ | _ | j <;> simp at hu <;> subst hu <;> go_simp
          obtain ⟨a1, c1, Y1, run1, row1, gr1, -⟩ := pushV (owns_keep rD (fun x hx => bV1.block x (owns_lt rD hx))) [Value.int .i64 y, Value.slice (some ⟨q, 0, none⟩) cs.length cp] 1 rfl (by omega) 24 (some ⟨Ud.heap.size, 0, none⟩) 1 (.inr ⟨Ud.heap.size, 0, rfl, hone⟩) (fun u hu => by simp at hu; rcases hu with rfl | rfl <;> rfl) (Nat.le_trans bW.size bV1.size)
          have bV1' : Below w1.heap.size w1 V1 := bW.trans (bV1.mono bW.size)
          have bY1 : Below w1.heap.size w1 Y1 := bV1'.grown gr1 bV1'.size (fun x e => (World.ownsRow.lt rD x e).1)
          obtain ⟨a8, ha8⟩ : ∃ a8 : Option Addr, a8 = (if uk = k then (some (⟨b, 0, none⟩ : Addr)) else Option.map (fun x => x.add (k * 2)) (some (⟨b, 0, none⟩ : Addr))) := ⟨_, rfl⟩
          have src := row_drop (w := Y1) (xs := xs) (k := k) (n := ks.length) HY.out.1 (HY.out.2.imp id (fun ⟨b, e, hb, hx⟩ => ⟨b, e, fun j u hu => (bY1.cell (p := ⟨b, j, none⟩) hb).trans (hx j u hu)⟩)) ha8
          obtain ⟨a2, c2, Y2, run2, row2, gr2, -⟩ := pushV row1 (xs.drop (k * 2)) (ks.length - k) (by rw [List.length_drop, HX.out.1]; omega) (by omega) 24 a8 (uk - k) src (fun u hu => HX.out.2.2.1 u (List.mem_of_mem_drop hu)) bY1.size
          have bY2 : Below w1.heap.size w1 Y2 := bY1.grown gr2 bY1.size (fun x e => (World.ownsRow.lt row1 x e).1)
          have eL : k + 1 + (ks.length - k) = ks.length + 1 := by omega
          rw [eL] at run2 row2
          have HE : Hid (ks' = insKL ks k ⟨y, cs⟩) := by
            unfold Hid
            rw [HKS.out, repK, HC.out, if_neg ?_]
            simp only [foundK, Bool.and_eq_true, decide_eq_true_eq]
            rintro ⟨h1, h2⟩
            exact HNE.out _ h1 h2
          have hN : ks'.length = ks.length + 1 := by rw [HE.out, insKL_len hk]
          obtain ⟨b', c', ev⟩ := form_of row2 (by omega)
          injection ev with ea _ ec
          subst ea ec
          have row3 : Y2.ownsRow w1.heap.size 97 2 (.slice (some ⟨b', 0, none⟩) (ks.length + 1) c2) (ks.length + 1) (flatG hdK lnK ks' (upTo k q (sgI k) gk) (upTo k cp (sgI k) caps)) := by
            rw [HE.out, ← flatK_ins (k := ⟨y, cs⟩) hk, ← HX.out.2.2.2]; exact row2
          have m1 := rep_put (k := ⟨y, cs⟩) (i := k) H1.out.1 H.out.2.2.2.1 bY2 hp1 (by omega) row3 H.out.2.2.2.2.2.2.2.2.1 H1.out.2.2.2.1 H.out.2.2.2.2.2.1 H.out.2.2.2.2.2.2.2.2.2.2 H1.out.2.2.1 hN (by rw [HE.out, insKL_get hk, if_neg (by omega), if_pos rfl]) (by rw [HE.out]; exact sgI_hs hk) (fun j j' _ _ h1 h2 e => sgI_inj j j' h1 h2 e)
          have s1 := SFH.out Y2 bY2
          have s2 := (bY2.frozen (p := ⟨p, 1, none⟩) hp1).trans df
          have KD : Hid (RepAns w base p 1 (.slice ul rs.length uj) (.slice ud zs.length ui) ks' rs zs gr (.returned (.tuple #[])) (Y2.setCell ⟨p, 1, none⟩ (.slice (some ⟨b', 0, none⟩) (ks.length + 1) c2))) := by
            refine ⟨⟨_, rfl⟩, some ⟨b', 0, none⟩, c2, _, by rw [hN]; exact cell_set_same s1, by rw [hN]; exact m1.set, fun j hj => (cell_set_other (by simpa using fun e => hj e)).trans ((bY2.cell (p := ⟨p, j, none⟩) hp1).trans (H1.out.2.2.2.2.1 j)), (H1.out.2.2.2.2.2.trans (bY2.mono (by omega))).setCell (p := ⟨p, 1, none⟩) hbp _⟩
          have S1 := hidOf (SFH.out _ bV1')
          have S2 := hidOf (SFH.out _ bY1)
          have S3 := hidOf (SFH.out _ bY2)
          have hcl : ks.length ≤ uk := HY.out.1
          clear eL hN row3 m1 bV1 hone gr1 bV1' bY1 row1 src gr2 bY2 row2 rD bW SFH
          refine wpZ_takeP (i := 0) (v := ?_) rfl (by kernel_rfl) (fun _ _ _ h => h) (Or.inl ⟨by rfl, ?_⟩) hS ?_
          rotate_left
          · (intro X _; go_simp; first | done | with_reducible rfl | (rw [if_pos (by omega)]) | (rw [if_pos (by omega)]; go_simp))
          simp only [Act.put]
          refine wpZ_takeP (i := 1) (v := ?_) rfl (by kernel_rfl) (fun _ _ _ h => h) (Or.inl ⟨by rfl, ?_⟩) hS ?_
          rotate_left
          · (intro X _; go_simp; first | done | with_reducible rfl | (rw [if_pos (by omega)]) | (rw [if_pos (by omega)]; go_simp))
          simp only [Act.put]
          refine wpZ_takeP (i := 2) (v := ?_) rfl (by kernel_rfl) (fun _ _ _ h => h) (Or.inl ⟨by rfl, ?_⟩) hS ?_
          rotate_left
          · (intro X _; go_simp; first | done | with_reducible rfl | (rw [if_pos (by omega)]) | (rw [if_pos (by omega)]; go_simp))
          simp only [Act.put]
          refine wpZ_takeP (i := 3) (v := ?_) rfl (by kernel_rfl) (fun _ _ _ h => h) (Or.inl ⟨by rfl, ?_⟩) hS ?_
          rotate_left
          · (intro X _; go_simp; first | done | with_reducible rfl | (rw [if_pos (by omega)]) | (rw [if_pos (by omega)]; go_simp))
          simp only [Act.put]
          refine wpZ_takeP (i := 6) (v := ?_) rfl (by kernel_rfl) (fun _ _ _ h => h) (Or.inl ⟨by rfl, ?_⟩) hS ?_
          rotate_left
          · (intro X _; go_simp; first | done | with_reducible rfl | (rw [if_pos (by omega)]) | (rw [if_pos (by omega)]; go_simp))
          simp only [Act.put]
          refine wpZ_takeP (i := 7) (v := ?_) rfl (by kernel_rfl) (fun _ _ _ h => h) (Or.inl ⟨by rfl, ?_⟩) hS ?_
          rotate_left
          · (intro X _; go_simp; first | done | with_reducible rfl | (rw [if_pos (by omega)]) | (rw [if_pos (by omega)]; go_simp))
          simp only [Act.put]
          refine wpZ_takeP (i := 8) (v := ?_) rfl (by kernel_rfl) (fun _ _ _ h => h) (Or.inl ⟨by rfl, ?_⟩) hS ?_
          rotate_left
          · (intro X _; go_simp; first | done | with_reducible rfl | (rw [if_pos (by omega)]) | (rw [if_pos (by omega)]; go_simp))
          simp only [Act.put]
          refine wpZ_take (i := 9) (v := ?_) rfl (by kernel_rfl) (fun _ _ _ h => h) (Or.inl ⟨by rfl, ?_⟩) hS ?_
          rotate_left
          · (intro X hSw; go_simp; first | done | with_reducible rfl)
          simp only [Act.put]
          refine wpZ_takeP (i := 10) (v := ?_) rfl (by kernel_rfl) (fun _ _ _ h => h) (Or.inl ⟨by rfl, ?_⟩) hS ?_
          rotate_left
          · (intro X _; go_simp; first | done | with_reducible rfl | (rw [if_pos (by omega)]) | (rw [if_pos (by omega)]; go_simp))
          simp only [Act.put]
          refine wpZ_takeP (i := 11) (v := ?_) rfl (by kernel_rfl) (fun _ _ _ h => h) (Or.inl ⟨by rfl, ?_⟩) hS ?_
          rotate_left
          · (intro X _; go_simp; first | done | with_reducible rfl | (rw [if_pos (by omega)]) | (rw [if_pos (by omega)]; go_simp))
          simp only [Act.put]
          refine wpZ_takeP (i := 12) (v := .slice a8 (ks.length - k) (uk - k)) rfl (by kernel_rfl) (fun _ _ _ h => h) (Or.inl ⟨by rfl, ?_⟩) hS ?_
          · (intro X _; rw [ha8]; go_simp; first | done | with_reducible rfl | rfl)
          clear ha8
          simp only [Act.put]
          refine wpZ_ready (rs := [4]) (by kernel_rfl) (by simp) ?_
          refine AllZ.cons rfl (fun K hK => ?_) AllZ.nil
          go_simp
          refine hK.out _ _ (fun _ => by rw [← hV1]; exact S1.out) ?_
          clear hK K
          rw [← hV1]
          clear hV1
          refine wpZ_ready (rs := [5]) (by kernel_rfl) (by simp) ?_
          refine AllZ.cons (o := ⟨some 61, _, _, _, _, _⟩) rfl (fun K hK => ?_) AllZ.nil
          refine step_known _ rfl (.tmp 56) (.tmp 60) 24 rfl _ _ _ _ (by first | rfl | simp [Act.eval, Act.put]) (by first | rfl | simp [Act.eval, Act.put]) run1 ?_
          refine hK.out _ _ (fun _ => S2.out) ?_
          clear hK K run1
          simp only [Act.put]
          refine wpZ_ready (rs := [13]) (by kernel_rfl) (by simp) ?_
          refine AllZ.cons (o := ⟨some 69, _, _, _, _, _⟩) rfl (fun K hK => ?_) AllZ.nil
          refine step_known _ rfl (.tmp 61) (.tmp 68) 24 rfl _ _ _ _ (by first | rfl | simp [Act.eval, Act.put]) (by first | rfl | simp [Act.eval]) run2 ?_
          refine hK.out _ _ (fun _ => S3.out) ?_
          clear hK K run2
          simp only [Act.put]
          refine wpZ_ready (rs := [14]) (by kernel_rfl) (by simp) ?_
          refine AllZ.cons rfl (fun K hK => ?_) AllZ.nil
          go_simp
          refine hK.out _ _ (fun _ => S3.out) ?_
          clear hK K
          refine wpZ_done (by kernel_rfl) ?_ _
          clear S1 S2 S3 hS
          go_wp2
          exact bodyPost_end (v := .tuple #[]) (by simp [results, Tryz.results59, go_sem]) rfl KD.out
      · obtain rfl : k = ks.length := by omega
        have hd : decide ((ks.length : Int) < (ks.length : Int)) = false := by simp
        have HC : Hid (posR ks y = ks.length) := posR_all KA.out.2.2
        have bd : Below wr.heap.size wr wr.drew := (Below.refl _ _).drew
        have bW : Below w1.heap.size w1 wr.drew := KA.out.2.1.trans (bd.mono KA.out.2.1.size)
        have SFH : Hid (∀ Y, Below w1.heap.size w1 Y → (fun Y : World => Y.cell? ⟨p, 1, none⟩ = some (.slice uc ks.length uk)) Y) := fun Y hY => (hY.cell (p := ⟨p, 1, none⟩) hp1).trans d1
        have hS : (fun Y : World => Y.cell? ⟨p, 1, none⟩ = some (.slice uc ks.length uk)) wr.drew := SFH.out _ bW
        have rD : wr.drew.ownsRow w1.heap.size 97 2 (.slice a7 ks.length c7) ks.length (xs.take (ks.length * 2)) := owns_keep KA.out.1 (fun x hx => bd.block x (owns_lt KA.out.1 hx))
        clear bd hbl
        go_wp2_with fail
        refine wp_region_z (fun _ => false) (fun Y : World => Y.cell? ⟨p, 1, none⟩ = some (.slice uc ks.length uk)) (by kernel_rfl) ?_
        generalize wr.drew = Ud at *
        obtain ⟨V1, hV1⟩ : ∃ V, V = Ud.alloc (.cells #[.int .i64 y, .slice (some ⟨q, 0, none⟩) cs.length cp] 97) := ⟨_, rfl⟩
        have bV1 : Below Ud.heap.size Ud V1 := by rw [hV1]; exact (Below.refl _ _).alloc (Nat.le_refl _) _
        have hone : ∀ j u, [Value.int .i64 y, Value.slice (some ⟨q, 0, none⟩) cs.length cp][j]? = some u → V1.cell? ⟨Ud.heap.size, 0 + j, none⟩ = some u := fun j u hu => by
          rw [hV1]
          rcases j with _ | _ | j <;> simp at hu <;> subst hu <;> go_simp
        obtain ⟨a1, c1, Y1, run1, row1, gr1, -⟩ := pushV (owns_keep rD (fun x hx => bV1.block x (owns_lt rD hx))) [Value.int .i64 y, Value.slice (some ⟨q, 0, none⟩) cs.length cp] 1 rfl (by omega) 24 (some ⟨Ud.heap.size, 0, none⟩) 1 (.inr ⟨Ud.heap.size, 0, rfl, hone⟩) (fun u hu => by simp at hu; rcases hu with rfl | rfl <;> rfl) (Nat.le_trans bW.size bV1.size)
        have bV1' : Below w1.heap.size w1 V1 := bW.trans (bV1.mono bW.size)
        have bY1 : Below w1.heap.size w1 Y1 := bV1'.grown gr1 bV1'.size (fun x e => (World.ownsRow.lt rD x e).1)
        obtain ⟨a8, ha8⟩ : ∃ a8 : Option Addr, a8 = (if uk = ks.length then uc else Option.map (fun x => x.add (ks.length * 2)) uc) := ⟨_, rfl⟩
        have src := row_drop (w := Y1) (xs := xs) (k := ks.length) (n := ks.length) HY.out.1 (HY.out.2.imp id (fun ⟨b, e, hb, hx⟩ => ⟨b, e, fun j u hu => (bY1.cell (p := ⟨b, j, none⟩) hb).trans (hx j u hu)⟩)) ha8
        obtain ⟨a2, c2, Y2, run2, row2, gr2, -⟩ := pushV row1 (xs.drop (ks.length * 2)) (ks.length - ks.length) (by rw [List.length_drop, HX.out.1]; omega) (by omega) 24 a8 (uk - ks.length) src (fun u hu => HX.out.2.2.1 u (List.mem_of_mem_drop hu)) bY1.size
        have bY2 : Below w1.heap.size w1 Y2 := bY1.grown gr2 bY1.size (fun x e => (World.ownsRow.lt row1 x e).1)
        have eL : ks.length + 1 + (ks.length - ks.length) = ks.length + 1 := by omega
        rw [eL] at run2 row2
        have HE : Hid (ks' = insKL ks ks.length ⟨y, cs⟩) := by
          unfold Hid
          rw [HKS.out, repK, HC.out, if_neg ?_]
          simp only [foundK, Bool.and_eq_true, decide_eq_true_eq]
          rintro ⟨h1, h2⟩
          exact HNE.out _ h1 h2
        have hN : ks'.length = ks.length + 1 := by rw [HE.out, insKL_len hk]
        obtain ⟨b', c', ev⟩ := form_of row2 (by omega)
        injection ev with ea _ ec
        subst ea ec
        have row3 : Y2.ownsRow w1.heap.size 97 2 (.slice (some ⟨b', 0, none⟩) (ks.length + 1) c2) (ks.length + 1) (flatG hdK lnK ks' (upTo ks.length q (sgI ks.length) gk) (upTo ks.length cp (sgI ks.length) caps)) := by
          rw [HE.out, ← flatK_ins (k := ⟨y, cs⟩) hk, ← HX.out.2.2.2]; exact row2
        have m1 := rep_put (k := ⟨y, cs⟩) (i := ks.length) H1.out.1 H.out.2.2.2.1 bY2 hp1 (by omega) row3 H.out.2.2.2.2.2.2.2.2.1 H1.out.2.2.2.1 H.out.2.2.2.2.2.1 H.out.2.2.2.2.2.2.2.2.2.2 H1.out.2.2.1 hN (by rw [HE.out, insKL_get hk, if_neg (by omega), if_pos rfl]) (by rw [HE.out]; exact sgI_hs hk) (fun j j' _ _ h1 h2 e => sgI_inj j j' h1 h2 e)
        have s1 := SFH.out Y2 bY2
        have s2 := (bY2.frozen (p := ⟨p, 1, none⟩) hp1).trans df
        have KD : Hid (RepAns w base p 1 (.slice ul rs.length uj) (.slice ud zs.length ui) ks' rs zs gr (.returned (.tuple #[])) (Y2.setCell ⟨p, 1, none⟩ (.slice (some ⟨b', 0, none⟩) (ks.length + 1) c2))) := by
          refine ⟨⟨_, rfl⟩, some ⟨b', 0, none⟩, c2, _, by rw [hN]; exact cell_set_same s1, by rw [hN]; exact m1.set, fun j hj => (cell_set_other (by simpa using fun e => hj e)).trans ((bY2.cell (p := ⟨p, j, none⟩) hp1).trans (H1.out.2.2.2.2.1 j)), (H1.out.2.2.2.2.2.trans (bY2.mono (by omega))).setCell (p := ⟨p, 1, none⟩) hbp _⟩
        have S1 := hidOf (SFH.out _ bV1')
        have S2 := hidOf (SFH.out _ bY1)
        have S3 := hidOf (SFH.out _ bY2)
        have hcl : ks.length ≤ uk := HY.out.1
        clear eL hN row3 m1 bV1 hone gr1 bV1' bY1 row1 src gr2 bY2 row2 rD bW SFH
        refine wpZ_takeP (i := 0) (v := ?_) rfl (by kernel_rfl) (fun _ _ _ h => h) (Or.inl ⟨by rfl, ?_⟩) hS ?_
        rotate_left
        · (intro X _; go_simp; first | done | with_reducible rfl | (rw [if_pos (by omega)]) | (rw [if_pos (by omega)]; go_simp))
        simp only [Act.put]
        refine wpZ_takeP (i := 1) (v := ?_) rfl (by kernel_rfl) (fun _ _ _ h => h) (Or.inl ⟨by rfl, ?_⟩) hS ?_
        rotate_left
        · (intro X _; go_simp; first | done | with_reducible rfl | (rw [if_pos (by omega)]) | (rw [if_pos (by omega)]; go_simp))
        simp only [Act.put]
        refine wpZ_takeP (i := 2) (v := ?_) rfl (by kernel_rfl) (fun _ _ _ h => h) (Or.inl ⟨by rfl, ?_⟩) hS ?_
        rotate_left
        · (intro X _; go_simp; first | done | with_reducible rfl | (rw [if_pos (by omega)]) | (rw [if_pos (by omega)]; go_simp))
        simp only [Act.put]
        refine wpZ_takeP (i := 3) (v := ?_) rfl (by kernel_rfl) (fun _ _ _ h => h) (Or.inl ⟨by rfl, ?_⟩) hS ?_
        rotate_left
        · (intro X _; go_simp; first | done | with_reducible rfl | (rw [if_pos (by omega)]) | (rw [if_pos (by omega)]; go_simp))
        simp only [Act.put]
        refine wpZ_takeP (i := 6) (v := ?_) rfl (by kernel_rfl) (fun _ _ _ h => h) (Or.inl ⟨by rfl, ?_⟩) hS ?_
        rotate_left
        · (intro X _; go_simp; first | done | with_reducible rfl | (rw [if_pos (by omega)]) | (rw [if_pos (by omega)]; go_simp))
        simp only [Act.put]
        refine wpZ_takeP (i := 7) (v := ?_) rfl (by kernel_rfl) (fun _ _ _ h => h) (Or.inl ⟨by rfl, ?_⟩) hS ?_
        rotate_left
        · (intro X _; go_simp; first | done | with_reducible rfl | (rw [if_pos (by omega)]) | (rw [if_pos (by omega)]; go_simp))
        simp only [Act.put]
        refine wpZ_takeP (i := 8) (v := ?_) rfl (by kernel_rfl) (fun _ _ _ h => h) (Or.inl ⟨by rfl, ?_⟩) hS ?_
        rotate_left
        · (intro X _; go_simp; first | done | with_reducible rfl | (rw [if_pos (by omega)]) | (rw [if_pos (by omega)]; go_simp))
        simp only [Act.put]
        refine wpZ_take (i := 9) (v := ?_) rfl (by kernel_rfl) (fun _ _ _ h => h) (Or.inl ⟨by rfl, ?_⟩) hS ?_
        rotate_left
        · (intro X hSw; go_simp; first | done | with_reducible rfl)
        simp only [Act.put]
        refine wpZ_takeP (i := 10) (v := ?_) rfl (by kernel_rfl) (fun _ _ _ h => h) (Or.inl ⟨by rfl, ?_⟩) hS ?_
        rotate_left
        · (intro X _; go_simp; first | done | with_reducible rfl | (rw [if_pos (by omega)]) | (rw [if_pos (by omega)]; go_simp))
        simp only [Act.put]
        refine wpZ_takeP (i := 11) (v := ?_) rfl (by kernel_rfl) (fun _ _ _ h => h) (Or.inl ⟨by rfl, ?_⟩) hS ?_
        rotate_left
        · (intro X _; go_simp; first | done | with_reducible rfl | (rw [if_pos (by omega)]) | (rw [if_pos (by omega)]; go_simp))
        simp only [Act.put]
        refine wpZ_takeP (i := 12) (v := .slice a8 (ks.length - ks.length) (uk - ks.length)) rfl (by kernel_rfl) (fun _ _ _ h => h) (Or.inl ⟨by rfl, ?_⟩) hS ?_
        · (intro X _; rw [ha8]; go_simp; first | done | with_reducible rfl | rfl)
        clear ha8
        simp only [Act.put]
        refine wpZ_ready (rs := [4]) (by kernel_rfl) (by simp) ?_
        refine AllZ.cons rfl (fun K hK => ?_) AllZ.nil
        go_simp
        refine hK.out _ _ (fun _ => by rw [← hV1]; exact S1.out) ?_
        clear hK K
        rw [← hV1]
        clear hV1
        refine wpZ_ready (rs := [5]) (by kernel_rfl) (by simp) ?_
        refine AllZ.cons (o := ⟨some 61, _, _, _, _, _⟩) rfl (fun K hK => ?_) AllZ.nil
        refine step_known _ rfl (.tmp 56) (.tmp 60) 24 rfl _ _ _ _ (by first | rfl | simp [Act.eval, Act.put]) (by first | rfl | simp [Act.eval, Act.put]) run1 ?_
        refine hK.out _ _ (fun _ => S2.out) ?_
        clear hK K run1
        simp only [Act.put]
        refine wpZ_ready (rs := [13]) (by kernel_rfl) (by simp) ?_
        refine AllZ.cons (o := ⟨some 69, _, _, _, _, _⟩) rfl (fun K hK => ?_) AllZ.nil
        refine step_known _ rfl (.tmp 61) (.tmp 68) 24 rfl _ _ _ _ (by first | rfl | simp [Act.eval, Act.put]) (by first | rfl | simp [Act.eval]) run2 ?_
        refine hK.out _ _ (fun _ => S3.out) ?_
        clear hK K run2
        simp only [Act.put]
        refine wpZ_ready (rs := [14]) (by kernel_rfl) (by simp) ?_
        refine AllZ.cons rfl (fun K hK => ?_) AllZ.nil
        go_simp
        refine hK.out _ _ (fun _ => S3.out) ?_
        clear hK K
        refine wpZ_done (by kernel_rfl) ?_ _
        clear S1 S2 S3 hS
        go_wp2
        exact bodyPost_end (v := .tuple #[]) (by simp [results, Tryz.results59, go_sem]) rfl KD.out
  · have hreg : (atK ks k).region = y := by simpa using hfk
    have hpr : posR ks y = k := posR_at hk (by omega) (fun j hj => by have := H.out.2.2.2.2.2.2.2.1 j k hj hk; omega)
    have hF : foundK ks y k = true := by simp [foundK, hk, hreg]
    have HE : Hid (ks' = ks.set k ⟨y, cs⟩) := by unfold Hid; rw [HKS.out, repK, hpr, hF, if_pos rfl]
    have hil : (k : Int) < (ks.length : Int) := by omega
    have hge : (0 : Int) ≤ (k : Int) := by omega
    obtain ⟨b, cc, ev⟩ := form_of H1.out.2.1 (by omega)
    injection ev with ea _ ec
    subst ea ec
    have rc : ∃ u, w1.cell? ⟨b, k * 2 + 1, none⟩ = some u ∧ w1.frozen? ⟨b, k * 2 + 1, none⟩ = false := by
      obtain ⟨hB, -, hle, -, -, hbl⟩ := cells_of_owns H1.out.2.1
      obtain ⟨u, h1, h2⟩ := hB.room (k * 2 + 1) (by omega)
      exact ⟨u, h1, h2⟩
    obtain ⟨u0, rc1, rc2⟩ := rc
    have KD : Hid (RepAns w base p 1 (.slice ul rs.length uj) (.slice ud zs.length ui) ks' rs zs gr (.returned (.tuple #[])) (w1.setCell ⟨b, k * 2 + 1, none⟩ (.slice (some ⟨q, 0, none⟩) cs.length cp))) := by
      have hl : ks'.length = ks.length := by rw [HE.out, List.length_set]
      have m1 := rep_set (k := ⟨y, cs⟩) (i := k) (ks' := ks') H1.out.1 H.out.2.2.2.1 H1.out.2.1 H.out.2.2.2.2.2.2.2.2.1 H1.out.2.2.2.1 H.out.2.2.2.2.2.1 H.out.2.2.2.2.2.2.2.2.2.2 H1.out.2.2.1 rfl hk hreg.symm HE.out
      have hpb : p ≠ b := fun e => H1.out.1.kp b (.inl rfl) e.symm
      refine ⟨⟨_, rfl⟩, some ⟨b, 0, none⟩, uk, _, ?_, by rw [hl]; exact m1, fun j hj => (cell_far2 hpb).trans (H1.out.2.2.2.2.1 j), H1.out.2.2.2.2.2.setCell (p := ⟨b, k * 2 + 1, none⟩) (World.ownsRow.lt H1.out.2.1 b rfl).1 _⟩
      rw [hl]; exact (cell_far2 hpb).trans d1
    clear hfk hlo hF hreg hpr
    go_wp2
    exact bodyPost_ret (v := .tuple #[]) (by simp [results, Tryz.results59, go_sem]) rfl KD.out
end Go.Proofs.YtooalbdlknheeaaGreat
