/- A number put into a row that rises, by the specification. -/
import Derived.Test.YtbkcmbbeknljiaaGreatRows
import Derived.Test.YtbkcmbbeknljiaaGreatJ30LawCleared
import Derived.Test.YtbkcmbbeknljiaaGreatUntZ
import Derived.WalkKit
import Derived.WalkSpells
import Derived.WalkLawsBesides
import Derived.Below
import Derived.Deep.CutRange
namespace Go.Proofs.YtbkcmbbeknljiaaGreat
open Go.RowKit
/-- What l6Put answers. -/
def PutAns (w : World) (a : Option Addr) (c : Nat) (zs : List Int) (y : Int) (e : Ending) (w' : World) : Prop :=
  (hasN zs y = true ∧ e = .returned (.slice a zs.length c) ∧ w' = w) ∨ (hasN zs y = false ∧ ∃ a' c', e = .returned (.slice a' (putZ zs y).length c') ∧ RowZ w' w.heap.size (.slice a' (putZ zs y).length c') (putZ zs y) ∧ Below w.heap.size w w')
theorem putZ_cut {zs : List Int} {y : Int} {k : Nat} (h : posZ zs y = k) (hh : hasN zs y = false) : putZ zs y = zs.take k ++ [y] ++ zs.drop k := by
  rw [putZ, if_neg (by simp [hh]), h, insZ]; simp
theorem SlN.drop {w : World} {a a8 : Option Addr} {zs : List Int} {k c : Nat} (h : SlN w w.heap.size a zs.length zs) (hc : zs.length ≤ c) (e : a8 = if c = k then a else Option.map (fun x => x.add k) a) : SlN w w.heap.size a8 (zs.drop k).length (zs.drop k) := by
  refine ⟨rfl, ?_⟩
  by_cases hz : (zs.drop k).length = 0
  · exact .inl hz
  · rw [List.length_drop] at hz
    obtain ⟨-, hq⟩ := h
    rcases hq with hq | ⟨b, off, rfl, hb, hx⟩
    · omega
    · refine .inr ⟨b, off + k, ?_, hb, fun i z hi => ?_⟩
      · rw [e, if_neg (by omega), Option.map_some]; congr 1; unfold Addr.add; split <;> simp_all
      · rw [List.getElem?_drop] at hi
        have := hx (k + i) z hi
        rwa [show off + k + i = off + (k + i) by omega]
set_option maxRecDepth 100000 in
set_option maxHeartbeats 4000000 in
theorem l6Put_any (w : World) (base : Nat) (a : Option Addr) (c : Nat) (zs : List Int) (y : Int) (h : RowZ w base (.slice a zs.length c) zs) (hn : zs.length ≤ 1000) :
    Calls Tryz.prog 140 #[.slice a zs.length c, .int .i64 y] w (PutAns w a c zs y) := by
  obtain ⟨a', c', e, hcap, hsl⟩ := h.form
  injection e with e1 _ e3
  subst e1 e3
  have hh := l3Has_any w a zs.length c zs y (by unfold maxLen; omega) hsl
  have H : Hid (SlN w w.heap.size a zs.length zs ∧ zs.length ≤ c) := ⟨hsl, hcap⟩
  clear h hcap hsl
  go_enter Tryz.func140, Tryz.ntmps140
  go_wp2_with fail
  refine hh.mono ?_
  clear hh
  rintro e w1 ⟨rfl, rfl⟩
  cases hB : hasN zs y with
  | true =>
    go_wp2
    go_ret
    exact .inl ⟨hB, rfl, rfl⟩
  | false =>
    obtain ⟨W, hW⟩ : ∃ W, W = w1.alloc (.cells #[] 2) := ⟨_, rfl⟩
    have b0 : Below w1.heap.size w1 W := by rw [hW]; exact (Below.refl _ _).alloc (Nat.le_refl _) _
    have r0 : RowZ W w1.heap.size (.slice (some ⟨w1.heap.size, 0, none⟩) 0 0) [] := by rw [hW]; exact RowZ.made w1
    have H0 : Hid (Below w1.heap.size w1 W ∧ RowZ W w1.heap.size (.slice (some ⟨w1.heap.size, 0, none⟩) 0 0) []) := ⟨b0, r0⟩
    clear b0 r0
    go_wp2
    rw [← hW]
    clear hW
    go_loopw [5, 6] (fun v5 v6 wr => ∃ k : Nat, k ≤ zs.length ∧ v6 = .int .i64 k ∧ RowZ wr w1.heap.size v5 (zs.take k) ∧ Below w1.heap.size w1 wr ∧ (∀ j, j < k → atN zs j < y)) (fun _ v6 _ => zs.length - (intOf v6).toNat)
    case atStart => exact ⟨0, Nat.zero_le _, rfl, H0.out.2, H0.out.1, fun j hj => by omega⟩
    case round =>
      obtain ⟨k, hk, rfl, hrow, hbl, hall⟩ := hrel
      obtain ⟨a7, c7, e7, -, -⟩ := hrow.form
      have hlk : (zs.take k).length = k := by rw [List.length_take]; omega
      rw [hlk] at e7
      subst e7
      have KA : Hid (RowZ wr w1.heap.size (.slice a7 k c7) (zs.take k) ∧ Below w1.heap.size w1 wr ∧ (∀ j, j < k → atN zs j < y)) := ⟨hrow, hbl, hall⟩
      have hsl := H.out.1.later hbl
      clear hrow hbl hall hlk H0
      by_cases hlt : k < zs.length
      · have hk5 : (k : Int) < (zs.length : Int) := by omega
        obtain ⟨_, hsk⟩ := hsl
        rcases hsk with hsk | ⟨b, off, rfl, hb, hx⟩
        · omega
        have c0 := hx k _ (atN_of hlt)
        clear hx
        by_cases hy : atN zs k < y
        · obtain ⟨V, hV⟩ : ∃ V, V = wr.alloc (.cells #[.int .i64 (atN zs k)] 2) := ⟨_, rfl⟩
          have bV : Below wr.heap.size wr V := by rw [hV]; exact (Below.refl _ _).alloc (Nat.le_refl _) _
          have sV : V.heap.size = wr.heap.size + 1 := by rw [hV]; simp
          have hone : SlN V V.heap.size (some ⟨wr.heap.size, 0, none⟩) [atN zs k].length [atN zs k] := ⟨rfl, .inr ⟨wr.heap.size, 0, rfl, by omega, fun j z e => by
            rcases j with _ | j
            · simp at e; subst e; rw [hV]; go_simp
            · simp at e⟩⟩
          obtain ⟨a8, c8, Y, hr, hrow', hgr, -⟩ := pushZ (KA.out.1.later bV) [atN zs k] (by rw [List.length_take]; simp; omega) 26 (some ⟨wr.heap.size, 0, none⟩) 1 hone (Nat.le_trans KA.out.2.1.size bV.size)
          have KE : Hid (RowZ Y w1.heap.size (.slice a8 (zs.take k ++ [atN zs k]).length c8) (zs.take (k + 1)) ∧ Below w1.heap.size w1 Y ∧ (∀ j, j < k + 1 → atN zs j < y)) := by
            refine ⟨by rw [List.take_add_one, atN_of hlt]; exact hrow', ?_, fun j hj => ?_⟩
            · exact (KA.out.2.1.trans (bV.mono KA.out.2.1.size)).grown hgr (Nat.le_trans KA.out.2.1.size bV.size) (fun q e => (KA.out.1.lt e).1)
            · by_cases ej : j = k
              · rw [ej]; exact hy
              · exact KA.out.2.2 j (by omega)
          rw [hV] at hr
          clear hV bV sV hone hrow' hgr
          simp only [List.length_cons, List.length_nil, Nat.zero_add] at hr
          generalize (Value.slice a8 (zs.take k ++ [atN zs k]).length c8) = v8 at *
          go_wp2_with (at_builtin; refine append_known _ rfl (.tmp 26) (.tmp 31) 26 rfl _ _ _ _ rfl rfl hr ?_)
          exact ⟨⟨k + 1, by omega, by simp, KE.out.1, KE.out.2.1, KE.out.2.2⟩, by simp [intOf]; omega⟩
        · have HC : Hid (posZ zs y = k) := posZ_at hlt hy KA.out.2.2
          obtain ⟨ab, hab⟩ : ∃ ab : Option Addr, ab = some ⟨b, off, none⟩ := ⟨_, rfl⟩
          have q9 : decide (atN zs k < y) = false := by simpa using hy
          have bD : Below wr.heap.size wr wr.drew := (Below.refl _ _).drew
          have rD : RowZ wr.drew w1.heap.size (.slice a7 k c7) (zs.take k) := KA.out.1.later bD
          have bW : Below w1.heap.size w1 wr.drew := KA.out.2.1.trans (bD.mono KA.out.2.1.size)
          clear bD
          go_wp2_with fail
          refine wp_region_z (fun _ => false) (fun _ : World => True) (by kernel_rfl) ?_
          generalize wr.drew = Ud at *
          obtain ⟨V1, hV1⟩ : ∃ V, V = Ud.alloc (.cells #[.int .i64 y] 2) := ⟨_, rfl⟩
          have bV1 : Below Ud.heap.size Ud V1 := by rw [hV1]; exact (Below.refl _ _).alloc (Nat.le_refl _) _
          have sV1 : V1.heap.size = Ud.heap.size + 1 := by rw [hV1]; simp
          have hone : SlN V1 V1.heap.size (some ⟨Ud.heap.size, 0, none⟩) [y].length [y] := ⟨rfl, .inr ⟨Ud.heap.size, 0, rfl, by omega, fun j z e => by
            rcases j with _ | j
            · simp at e; subst e; rw [hV1]; go_simp
            · simp at e⟩⟩
          have hlk : (zs.take k).length = k := by rw [List.length_take]; omega
          obtain ⟨a1, c1, Y1, run1, row1, gr1, -⟩ := pushZ (rD.later bV1) [y] (by rw [hlk]; simp; omega) 26 (some ⟨Ud.heap.size, 0, none⟩) 1 hone (Nat.le_trans bW.size bV1.size)
          have bV1' : Below w1.heap.size w1 V1 := bW.trans (bV1.mono bW.size)
          have bY1 : Below w1.heap.size w1 Y1 := bV1'.grown gr1 bV1'.size (fun q e => (rD.lt e).1)
          have hl1 : (zs.take k ++ [y]).length = k + 1 := by rw [List.length_append, hlk]; rfl
          obtain ⟨a8, ha8⟩ : ∃ a8 : Option Addr, a8 = (if c = k then (some (⟨b, off, none⟩ : Addr)) else Option.map (fun x => x.add k) ((some (⟨b, off, none⟩ : Addr)))) := ⟨_, rfl⟩
          have src : SlN Y1 Y1.heap.size a8 (zs.drop k).length (zs.drop k) := (H.out.1.later bY1).drop H.out.2 ha8
          obtain ⟨a2, c2, Y2, run2, row2, gr2, -⟩ := pushZ row1 (zs.drop k) (by rw [hl1, List.length_drop]; omega) 26 a8 (c - k) src bY1.size
          have bY2 : Below w1.heap.size w1 Y2 := bY1.grown gr2 bY1.size (fun q e => (row1.lt e).1)
          rw [← putZ_cut HC.out hB] at run2 row2
          have KF : Hid (RowZ Y2 w1.heap.size (.slice a2 (putZ zs y).length c2) (putZ zs y) ∧ Below w1.heap.size w1 Y2) := ⟨row2, bY2⟩
          generalize hzl : (putZ zs y).length = zl at *
          rw [hl1, List.length_drop] at run2
          rw [hl1] at run1
          simp only [List.length_cons, List.length_nil, Nat.zero_add] at run1
          have HZ := hidOf hzl
          have hcl : zs.length ≤ c := H.out.2
          clear hzl bV1 sV1 hone gr1 bV1' bY1 row1 src gr2 bY2 row2 rD bW hl1 hlk
          refine wpZ_takeP (i := 0) (v := ?_) rfl (by kernel_rfl) (fun _ _ _ h => h) (Or.inl ⟨by rfl, ?_⟩) trivial ?_
          rotate_left
          · (intro X _; go_simp; first | done | with_reducible rfl | (rw [if_pos (by omega)]) | (rw [if_pos (by omega)]; go_simp))
          simp only [Act.put]
          refine wpZ_takeP (i := 1) (v := ?_) rfl (by kernel_rfl) (fun _ _ _ h => h) (Or.inl ⟨by rfl, ?_⟩) trivial ?_
          rotate_left
          · (intro X _; go_simp; first | done | with_reducible rfl | (rw [if_pos (by omega)]) | (rw [if_pos (by omega)]; go_simp))
          simp only [Act.put]
          refine wpZ_takeP (i := 4) (v := ?_) rfl (by kernel_rfl) (fun _ _ _ h => h) (Or.inl ⟨by rfl, ?_⟩) trivial ?_
          rotate_left
          · (intro X _; go_simp; first | done | with_reducible rfl | (rw [if_pos (by omega)]) | (rw [if_pos (by omega)]; go_simp))
          simp only [Act.put]
          refine wpZ_takeP (i := 5) (v := ?_) rfl (by kernel_rfl) (fun _ _ _ h => h) (Or.inl ⟨by rfl, ?_⟩) trivial ?_
          rotate_left
          · (intro X _; go_simp; first | done | with_reducible rfl | (rw [if_pos (by omega)]) | (rw [if_pos (by omega)]; go_simp))
          simp only [Act.put]
          refine wpZ_takeP (i := 6) (v := ?_) rfl (by kernel_rfl) (fun _ _ _ h => h) (Or.inl ⟨by rfl, ?_⟩) trivial ?_
          rotate_left
          · (intro X _; go_simp; first | done | with_reducible rfl | (rw [if_pos (by omega)]) | (rw [if_pos (by omega)]; go_simp))
          simp only [Act.put]
          refine wpZ_takeP (i := 7) (v := .slice a8 (zs.length - k) (c - k)) rfl (by kernel_rfl) (fun _ _ _ h => h) (Or.inl ⟨by rfl, ?_⟩) trivial ?_
          · (intro X _; rw [ha8]; go_simp; first | done | with_reducible rfl | rfl)
          clear ha8
          simp only [Act.put]
          refine wpZ_ready (rs := [2]) (by kernel_rfl) (by simp) ?_
          refine AllZ.cons rfl (fun K hK => ?_) AllZ.nil
          go_simp
          refine hK.out _ _ (fun _ => trivial) ?_
          clear hK K
          rw [← hV1]
          clear hV1
          refine wpZ_ready (rs := [3]) (by kernel_rfl) (by simp) ?_
          refine AllZ.cons (o := ⟨some 36, _, _, _, _, _⟩) rfl (fun K hK => ?_) AllZ.nil
          refine step_known _ rfl (.tmp 33) (.tmp 35) 26 rfl _ _ _ _ (by first | rfl | simp [Act.eval, Act.put]) (by first | rfl | simp [Act.eval, Act.put]) run1 ?_
          refine hK.out _ _ (fun _ => trivial) ?_
          clear hK K run1
          simp only [Act.put]
          refine wpZ_ready (rs := [8]) (by kernel_rfl) (by simp) ?_
          refine AllZ.cons (o := ⟨some 41, _, _, _, _, _⟩) rfl (fun K hK => ?_) AllZ.nil
          refine step_known _ rfl (.tmp 36) (.tmp 40) 26 rfl _ _ _ _ (by first | rfl | simp [Act.eval, Act.put]) (by first | rfl | simp [Act.eval]) run2 ?_
          refine hK.out _ _ (fun _ => trivial) ?_
          clear hK K run2
          simp only [Act.put]
          refine wpZ_ready (rs := [9]) (by kernel_rfl) (by simp) ?_
          refine AllZ.cons rfl (fun K hK => ?_) AllZ.nil
          go_simp
          refine hK.out _ _ (fun _ => trivial) ?_
          clear hK K
          refine wpZ_done (by kernel_rfl) ?_ _
          go_wp2
          go_ret
          exact .inr ⟨hB, a2, c2, by rw [HZ.out]; rfl, by rw [HZ.out]; exact KF.out.1, KF.out.2⟩
      · obtain rfl : k = zs.length := by omega
        have hd : decide ((zs.length : Int) < (zs.length : Int)) = false := by simp
        have HC : Hid (posZ zs y = zs.length) := posZ_all KA.out.2.2
        have bD : Below wr.heap.size wr wr.drew := (Below.refl _ _).drew
        have rD : RowZ wr.drew w1.heap.size (.slice a7 zs.length c7) (zs.take zs.length) := KA.out.1.later bD
        have bW : Below w1.heap.size w1 wr.drew := KA.out.2.1.trans (bD.mono KA.out.2.1.size)
        clear bD
        go_wp2_with fail
        refine wp_region_z (fun _ => false) (fun _ : World => True) (by kernel_rfl) ?_
        generalize wr.drew = Ud at *
        obtain ⟨V1, hV1⟩ : ∃ V, V = Ud.alloc (.cells #[.int .i64 y] 2) := ⟨_, rfl⟩
        have bV1 : Below Ud.heap.size Ud V1 := by rw [hV1]; exact (Below.refl _ _).alloc (Nat.le_refl _) _
        have sV1 : V1.heap.size = Ud.heap.size + 1 := by rw [hV1]; simp
        have hone : SlN V1 V1.heap.size (some ⟨Ud.heap.size, 0, none⟩) [y].length [y] := ⟨rfl, .inr ⟨Ud.heap.size, 0, rfl, by omega, fun j z e => by
          rcases j with _ | j
          · simp at e; subst e; rw [hV1]; go_simp
          · simp at e⟩⟩
        have hlk : (zs.take zs.length).length = zs.length := by rw [List.length_take]; omega
        obtain ⟨a1, c1, Y1, run1, row1, gr1, -⟩ := pushZ (rD.later bV1) [y] (by rw [hlk]; simp; omega) 26 (some ⟨Ud.heap.size, 0, none⟩) 1 hone (Nat.le_trans bW.size bV1.size)
        have bV1' : Below w1.heap.size w1 V1 := bW.trans (bV1.mono bW.size)
        have bY1 : Below w1.heap.size w1 Y1 := bV1'.grown gr1 bV1'.size (fun q e => (rD.lt e).1)
        have hl1 : (zs.take zs.length ++ [y]).length = zs.length + 1 := by rw [List.length_append, hlk]; rfl
        obtain ⟨a8, ha8⟩ : ∃ a8 : Option Addr, a8 = (if c = zs.length then a else Option.map (fun x => x.add zs.length) (a)) := ⟨_, rfl⟩
        have src : SlN Y1 Y1.heap.size a8 (zs.drop zs.length).length (zs.drop zs.length) := (H.out.1.later bY1).drop H.out.2 ha8
        obtain ⟨a2, c2, Y2, run2, row2, gr2, -⟩ := pushZ row1 (zs.drop zs.length) (by rw [hl1, List.length_drop]; omega) 26 a8 (c - zs.length) src bY1.size
        have bY2 : Below w1.heap.size w1 Y2 := bY1.grown gr2 bY1.size (fun q e => (row1.lt e).1)
        rw [← putZ_cut HC.out hB] at run2 row2
        have KF : Hid (RowZ Y2 w1.heap.size (.slice a2 (putZ zs y).length c2) (putZ zs y) ∧ Below w1.heap.size w1 Y2) := ⟨row2, bY2⟩
        generalize hzl : (putZ zs y).length = zl at *
        rw [hl1, List.length_drop] at run2
        rw [hl1] at run1
        simp only [List.length_cons, List.length_nil, Nat.zero_add] at run1
        have HZ := hidOf hzl
        have hcl : zs.length ≤ c := H.out.2
        clear hzl bV1 sV1 hone gr1 bV1' bY1 row1 src gr2 bY2 row2 rD bW hl1 hlk
        refine wpZ_takeP (i := 0) (v := ?_) rfl (by kernel_rfl) (fun _ _ _ h => h) (Or.inl ⟨by rfl, ?_⟩) trivial ?_
        rotate_left
        · (intro X _; go_simp; first | done | with_reducible rfl | (rw [if_pos (by omega)]) | (rw [if_pos (by omega)]; go_simp))
        simp only [Act.put]
        refine wpZ_takeP (i := 1) (v := ?_) rfl (by kernel_rfl) (fun _ _ _ h => h) (Or.inl ⟨by rfl, ?_⟩) trivial ?_
        rotate_left
        · (intro X _; go_simp; first | done | with_reducible rfl | (rw [if_pos (by omega)]) | (rw [if_pos (by omega)]; go_simp))
        simp only [Act.put]
        refine wpZ_takeP (i := 4) (v := ?_) rfl (by kernel_rfl) (fun _ _ _ h => h) (Or.inl ⟨by rfl, ?_⟩) trivial ?_
        rotate_left
        · (intro X _; go_simp; first | done | with_reducible rfl | (rw [if_pos (by omega)]) | (rw [if_pos (by omega)]; go_simp))
        simp only [Act.put]
        refine wpZ_takeP (i := 5) (v := ?_) rfl (by kernel_rfl) (fun _ _ _ h => h) (Or.inl ⟨by rfl, ?_⟩) trivial ?_
        rotate_left
        · (intro X _; go_simp; first | done | with_reducible rfl | (rw [if_pos (by omega)]) | (rw [if_pos (by omega)]; go_simp))
        simp only [Act.put]
        refine wpZ_takeP (i := 6) (v := ?_) rfl (by kernel_rfl) (fun _ _ _ h => h) (Or.inl ⟨by rfl, ?_⟩) trivial ?_
        rotate_left
        · (intro X _; go_simp; first | done | with_reducible rfl | (rw [if_pos (by omega)]) | (rw [if_pos (by omega)]; go_simp))
        simp only [Act.put]
        refine wpZ_takeP (i := 7) (v := .slice a8 (zs.length - zs.length) (c - zs.length)) rfl (by kernel_rfl) (fun _ _ _ h => h) (Or.inl ⟨by rfl, ?_⟩) trivial ?_
        · (intro X _; rw [ha8]; go_simp; first | done | with_reducible rfl | rfl)
        clear ha8
        simp only [Act.put]
        refine wpZ_ready (rs := [2]) (by kernel_rfl) (by simp) ?_
        refine AllZ.cons rfl (fun K hK => ?_) AllZ.nil
        go_simp
        refine hK.out _ _ (fun _ => trivial) ?_
        clear hK K
        rw [← hV1]
        clear hV1
        refine wpZ_ready (rs := [3]) (by kernel_rfl) (by simp) ?_
        refine AllZ.cons (o := ⟨some 36, _, _, _, _, _⟩) rfl (fun K hK => ?_) AllZ.nil
        refine step_known _ rfl (.tmp 33) (.tmp 35) 26 rfl _ _ _ _ (by first | rfl | simp [Act.eval, Act.put]) (by first | rfl | simp [Act.eval, Act.put]) run1 ?_
        refine hK.out _ _ (fun _ => trivial) ?_
        clear hK K run1
        simp only [Act.put]
        refine wpZ_ready (rs := [8]) (by kernel_rfl) (by simp) ?_
        refine AllZ.cons (o := ⟨some 41, _, _, _, _, _⟩) rfl (fun K hK => ?_) AllZ.nil
        refine step_known _ rfl (.tmp 36) (.tmp 40) 26 rfl _ _ _ _ (by first | rfl | simp [Act.eval, Act.put]) (by first | rfl | simp [Act.eval]) run2 ?_
        refine hK.out _ _ (fun _ => trivial) ?_
        clear hK K run2
        simp only [Act.put]
        refine wpZ_ready (rs := [9]) (by kernel_rfl) (by simp) ?_
        refine AllZ.cons rfl (fun K hK => ?_) AllZ.nil
        go_simp
        refine hK.out _ _ (fun _ => trivial) ?_
        clear hK K
        refine wpZ_done (by kernel_rfl) ?_ _
        go_wp2
        go_ret
        exact .inr ⟨hB, a2, c2, by rw [HZ.out]; rfl, by rw [HZ.out]; exact KF.out.1, KF.out.2⟩
end Go.Proofs.YtbkcmbbeknljiaaGreat
