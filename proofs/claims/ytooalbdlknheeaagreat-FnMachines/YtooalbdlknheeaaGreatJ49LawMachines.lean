/- PutZ; ClrL: joined. -/
import Derived.Test.YtooalbdlknheeaaGreatRows
import Derived.Test.YtooalbdlknheeaaGreatJ25LawMachines
import Derived.Test.YtooalbdlknheeaaGreatUntZ
import Derived.WalkKit
import Derived.WalkSpells
import Derived.WalkLawsBesides
import Derived.Below
import Derived.Deep.CutRange
import Derived.Test.YtooalbdlknheeaaGreatJ43LawMachines
/- A number put into a row that rises, by the specification. -/
namespace Go.Proofs.YtooalbdlknheeaaGreat
open Go.RowKit
/-- What l6Put answers. -/
def PutAns (w : World) (a : Option Addr) (c : Nat) (zs : List Int) (y : Int) (e : Ending) (w' : World) : Prop :=
  (hasN zs y = true ∧ e = .returned (.slice a zs.length c) ∧ w' = w) ∨ (hasN zs y = false ∧ ∃ a' c', e = .returned (.slice a' (putZ zs y).length c') ∧ RowZ w' w.heap.size (.slice a' (putZ zs y).length c') (putZ zs y) ∧ Below w.heap.size w w')
theorem putZ_cut {zs : List Int} {y : Int} {k : Nat} (h : posZ zs y = k) (hh : hasN zs y = false) : putZ zs y = zs.take k ++ [y] ++ zs.drop k := by
  rw [putZ, if_neg (by simp [hh]), h, insZ]; simp
theorem SlN.drop {w : World} {a a8 : Option Addr} {zs : List Int} {k c : Nat} (h : SlN w w.heap.size a zs.length zs) (hc : zs.length ≤ c) (e : a8 = if c = k then a else Option.map (fun x => x.add k) a) : SlN w w.heap.size a8 (zs.drop k).length (zs.drop k) := by
  refine ⟨rfl, ?_⟩
  by_cases hz : (zs.drop k).length = 0
  · exact .inl hz
  · rw [List.length_drop] at hz
    obtain ⟨-, hq⟩ := h
    rcases hq with hq | ⟨b, off, rfl, hb, hx⟩
    · omega
    · refine .inr ⟨b, off + k, ?_, hb, fun i z hi => ?_⟩
      · rw [e, if_neg (by omega), Option.map_some]; congr 1; unfold Addr.add; split <;> simp_all
      · rw [List.getElem?_drop] at hi
        have := hx (k + i) z hi
        rwa [show off + k + i = off + (k + i) by omega]
set_option maxRecDepth 100000 in
set_option maxHeartbeats 4000000 in
theorem l6Put_any (w : World) (base : Nat) (a : Option Addr) (c : Nat) (zs : List Int) (y : Int) (h : RowZ w base (.slice a zs.length c) zs) (hn : zs.length ≤ 1000) :
    Calls Tryz.prog 148 #[.slice a zs.length c, .int .i64 y] w (PutAns w a c zs y) := by
  obtain ⟨a', c', e, hcap, hsl⟩ := h.form
  injection e with e1 _ e3
  subst e1 e3
  have hh := l3Has_any w a zs.length c zs y (by unfold maxLen; omega) hsl
  have H : Hid (SlN w w.heap.size a zs.length zs ∧ zs.length ≤ c) := ⟨hsl, hcap⟩
  clear h hcap hsl
  go_enter Tryz.func148, Tryz.ntmps148
  go_wp2_with fail
  refine hh.mono ?_
  clear hh
  rintro e w1 ⟨rfl, rfl⟩
  cases hB : hasN zs y with
  | true =>
    go_wp2
    go_ret
    exact .inl ⟨hB, rfl, rfl⟩
  | false =>
    obtain ⟨W, hW⟩ : ∃ W, W = w1.alloc (.cells #[] 2) := ⟨_, rfl⟩
    have b0 : Below w1.heap.size w1 W := by rw [hW]; exact (Below.refl _ _).alloc (Nat.le_refl _) _
    have r0 : RowZ W w1.heap.size (.slice (some ⟨w1.heap.size, 0, none⟩) 0 0) [] := by rw [hW]; exact RowZ.made w1
    have H0 : Hid (Below w1.heap.size w1 W ∧ RowZ W w1.heap.size (.slice (some ⟨w1.heap.size, 0, none⟩) 0 0) []) := ⟨b0, r0⟩
    clear b0 r0
    go_wp2
    rw [← hW]
    clear hW
    go_loopw [5, 6] (fun v5 v6 wr => ∃ k : Nat, k ≤ zs.length ∧ v6 = .int .i64 k ∧ RowZ wr w1.heap.size v5 (zs.take k) ∧ Below w1.heap.size w1 wr ∧ (∀ j, j < k → atN zs j < y)) (fun _ v6 _ => zs.length - (intOf v6).toNat)
    case atStart => exact ⟨0, Nat.zero_le _, rfl, H0.out.2, H0.out.1, fun j hj => by omega⟩
    case round =>
      obtain ⟨k, hk, rfl, hrow, hbl, hall⟩ := hrel
      obtain ⟨a7, c7, e7, -, -⟩ := hrow.form
      have hlk : (zs.take k).length = k := by rw [List.length_take]; omega
      rw [hlk] at e7
      subst e7
      have KA : Hid (RowZ wr w1.heap.size (.slice a7 k c7) (zs.take k) ∧ Below w1.heap.size w1 wr ∧ (∀ j, j < k → atN zs j < y)) := ⟨hrow, hbl, hall⟩
      have hsl := H.out.1.later hbl
      clear hrow hbl hall hlk H0
      by_cases hlt : k < zs.length
      · have hk5 : (k : Int) < (zs.length : Int) := by omega
        obtain ⟨_, hsk⟩ := hsl
        rcases hsk with hsk | ⟨b, off, rfl, hb, hx⟩
        · omega
        have c0 := hx k _ (atN_of hlt)
        clear hx
        by_cases hy : atN zs k < y
        · obtain ⟨V, hV⟩ : ∃ V, V = wr.alloc (.cells #[.int .i64 (atN zs k)] 2) := ⟨_, rfl⟩
          have bV : Below wr.heap.size wr V := by rw [hV]; exact (Below.refl _ _).alloc (Nat.le_refl _) _
          have sV : V.heap.size = wr.heap.size + 1 := by rw [hV]; simp
          have hone : SlN V V.heap.size (some ⟨wr.heap.size, 0, none⟩) [atN zs k].length [atN zs k] := ⟨rfl, .inr ⟨wr.heap.size, 0, rfl, by omega, fun j z e => by
            rcases j with _ | j
            · simp at e; subst e; rw [hV]; go_simp
            · simp at e⟩⟩
          obtain ⟨a8, c8, Y, hr, hrow', hgr, -⟩ := pushZ (KA.out.1.later bV) [atN zs k] (by rw [List.length_take]; simp; omega) 26 (some ⟨wr.heap.size, 0, none⟩) 1 hone (Nat.le_trans KA.out.2.1.size bV.size)
          have KE : Hid (RowZ Y w1.heap.size (.slice a8 (zs.take k ++ [atN zs k]).length c8) (zs.take (k + 1)) ∧ Below w1.heap.size w1 Y ∧ (∀ j, j < k + 1 → atN zs j < y)) := by
            refine ⟨by rw [List.take_add_one, atN_of hlt]; exact hrow', ?_, fun j hj => ?_⟩
            · exact (KA.out.2.1.trans (bV.mono KA.out.2.1.size)).grown hgr (Nat.le_trans KA.out.2.1.size bV.size) (fun q e => (KA.out.1.lt e).1)
            · by_cases ej : j = k
              · rw [ej]; exact hy
              · exact KA.out.2.2 j (by omega)
          rw [hV] at hr
          clear hV bV sV hone hrow' hgr
          simp only [List.length_cons, List.length_nil, Nat.zero_add] at hr
          generalize (Value.slice a8 (zs.take k ++ [atN zs k]).length c8) = v8 at *
          go_wp2_with (at_builtin; refine append_known _ rfl (.tmp 26) (.tmp 31) 26 rfl _ _ _ _ rfl rfl hr ?_)
          exact ⟨⟨k + 1, by omega, by simp, KE.out.1, KE.out.2.1, KE.out.2.2⟩, by simp [intOf]; omega⟩
        · have HC : Hid (posZ zs y = k) := posZ_at hlt hy KA.out.2.2
          obtain ⟨ab, hab⟩ : ∃ ab : Option Addr, ab = some ⟨b, off, none⟩ := ⟨_, rfl⟩
          have q9 : decide (atN zs k < y) = false := by simpa using hy
          have bD : Below wr.heap.size wr wr.drew := (Below.refl _ _).drew
          have rD : RowZ wr.drew w1.heap.size (.slice a7 k c7) (zs.take k) := KA.out.1.later bD
          have bW : Below w1.heap.size w1 wr.drew := KA.out.2.1.trans (bD.mono KA.out.2.1.size)
          clear bD
          go_wp2_with fail
          refine wp_region_z (fun _ => false) (fun _ : World => True) (by kernel_rfl) ?_
          generalize wr.drew = Ud at *
          obtain ⟨V1, hV1⟩ : ∃ V, V = Ud.alloc (.cells #[.int .i64 y] 2) := ⟨_, rfl⟩
          have bV1 : Below Ud.heap.size Ud V1 := by rw [hV1]; exact (Below.refl _ _).alloc (Nat.le_refl _) _
          have sV1 : V1.heap.size = Ud.heap.size + 1 := by rw [hV1]; simp
          have hone : SlN V1 V1.heap.size (some ⟨Ud.heap.size, 0, none⟩) [y].length [y] := ⟨rfl, .inr ⟨Ud.heap.size, 0, rfl, by omega, fun j z e => by
            rcases j with _ | j
            · simp at e; subst e; rw [hV1]; go_simp
            · simp at e⟩⟩
          have hlk : (zs.take k).length = k := by rw [List.length_take]; omega
          obtain ⟨a1, c1, Y1, run1, row1, gr1, -⟩ := pushZ (rD.later bV1) [y] (by rw [hlk]; simp; omega) 26 (some ⟨Ud.heap.size, 0, none⟩) 1 hone (Nat.le_trans bW.size bV1.size)
          have bV1' : Below w1.heap.size w1 V1 := bW.trans (bV1.mono bW.size)
          have bY1 : Below w1.heap.size w1 Y1 := bV1'.grown gr1 bV1'.size (fun q e => (rD.lt e).1)
          have hl1 : (zs.take k ++ [y]).length = k + 1 := by rw [List.length_append, hlk]; rfl
          obtain ⟨a8, ha8⟩ : ∃ a8 : Option Addr, a8 = (if c = k then (some (⟨b, off, none⟩ : Addr)) else Option.map (fun x => x.add k) ((some (⟨b, off, none⟩ : Addr)))) := ⟨_, rfl⟩
          have src : SlN Y1 Y1.heap.size a8 (zs.drop k).length (zs.drop k) := (H.out.1.later bY1).drop H.out.2 ha8
          obtain ⟨a2, c2, Y2, run2, row2, gr2, -⟩ := pushZ row1 (zs.drop k) (by rw [hl1, List.length_drop]; omega) 26 a8 (c - k) src bY1.size
          have bY2 : Below w1.heap.size w1 Y2 := bY1.grown gr2 bY1.size (fun q e => (row1.lt e).1)
          rw [← putZ_cut HC.out hB] at run2 row2
          have KF : Hid (RowZ Y2 w1.heap.size (.slice a2 (putZ zs y).length c2) (putZ zs y) ∧ Below w1.heap.size w1 Y2) := ⟨row2, bY2⟩
          generalize hzl : (putZ zs y).length = zl at *
          rw [hl1, List.length_drop] at run2
          rw [hl1] at run1
          simp only [List.length_cons, List.length_nil, Nat.zero_add] at run1
          have HZ := hidOf hzl
          have hcl : zs.length ≤ c := H.out.2
          clear hzl bV1 sV1 hone gr1 bV1' bY1 row1 src gr2 bY2 row2 rD bW hl1 hlk
          refine wpZ_takeP (i := 0) (v := ?_) rfl (by kernel_rfl) (fun _ _ _ h => h) (Or.inl ⟨by rfl, ?_⟩) trivial ?_
          rotate_left
          · (intro X _; go_simp; first | done | with_reducible rfl | (rw [if_pos (by omega)]) | (rw [if_pos (by omega)]; go_simp))
          simp only [Act.put]
          refine wpZ_takeP (i := 1) (v := ?_) rfl (by kernel_rfl) (fun _ _ _ h => h) (Or.inl ⟨by rfl, ?_⟩) trivial ?_
          rotate_left
          · (intro X _; go_simp; first | done | with_reducible rfl | (rw [if_pos (by omega)]) | (rw [if_pos (by omega)]; go_simp))
          simp only [Act.put]
          refine wpZ_takeP (i := 4) (v := ?_) rfl (by kernel_rfl) (fun _ _ _ h => h) (Or.inl ⟨by rfl, ?_⟩) trivial ?_
          rotate_left
          · (intro X _; go_simp; first | done | with_reducible rfl | (rw [if_pos (by omega)]) | (rw [if_pos (by omega)]; go_simp))
          simp only [Act.put]
          refine wpZ_takeP (i := 5) (v := ?_) rfl (by kernel_rfl) (fun _ _ _ h => h) (Or.inl ⟨by rfl, ?_⟩) trivial ?_
          rotate_left
          · (intro X _; go_simp; first | done | with_reducible rfl | (rw [if_pos (by omega)]) | (rw [if_pos (by omega)]; go_simp))
          simp only [Act.put]
          refine wpZ_takeP (i := 6) (v := ?_) rfl (by kernel_rfl) (fun _ _ _ h => h) (Or.inl ⟨by rfl, ?_⟩) trivial ?_
          rotate_left
          · (intro X _; go_simp; first | done | with_reducible rfl | (rw [if_pos (by omega)]) | (rw [if_pos (by omega)]; go_simp))
          simp only [Act.put]
          refine wpZ_takeP (i := 7) (v := .slice a8 (zs.length - k) (c - k)) rfl (by kernel_rfl) (fun _ _ _ h => h) (Or.inl ⟨by rfl, ?_⟩) trivial ?_
          · (intro X _; rw [ha8]; go_simp; first | done | with_reducible rfl | rfl)
          clear ha8
          simp only [Act.put]
          refine wpZ_ready (rs := [2]) (by kernel_rfl) (by simp) ?_
          refine AllZ.cons rfl (fun K hK => ?_) AllZ.nil
          go_simp
          refine hK.out _ _ (fun _ => trivial) ?_
          clear hK K
          rw [← hV1]
          clear hV1
          refine wpZ_ready (rs := [3]) (by kernel_rfl) (by simp) ?_
          refine AllZ.cons (o := ⟨some 36, _, _, _, _, _⟩) rfl (fun K hK => ?_) AllZ.nil
          refine step_known _ rfl (.tmp 33) (.tmp 35) 26 rfl _ _ _ _ (by first | rfl | simp [Act.eval, Act.put]) (by first | rfl | simp [Act.eval, Act.put]) run1 ?_
          refine hK.out _ _ (fun _ => trivial) ?_
          clear hK K run1
          simp only [Act.put]
          refine wpZ_ready (rs := [8]) (by kernel_rfl) (by simp) ?_
          refine AllZ.cons (o := ⟨some 41, _, _, _, _, _⟩) rfl (fun K hK => ?_) AllZ.nil
          refine step_known _ rfl (.tmp 36) (.tmp 40) 26 rfl _ _ _ _ (by first | rfl | simp [Act.eval, Act.put]) (by first | rfl | simp [Act.eval]) run2 ?_
          refine hK.out _ _ (fun _ => trivial) ?_
          clear hK K run2
          simp only [Act.put]
          refine wpZ_ready (rs := [9]) (by kernel_rfl) (by simp) ?_
          refine AllZ.cons rfl (fun K hK => ?_) AllZ.nil
          go_simp
          refine hK.out _ _ (fun _ => trivial) ?_
          clear hK K
          refine wpZ_done (by kernel_rfl) ?_ _
          go_wp2
          go_ret
          exact .inr ⟨hB, a2, c2, by rw [HZ.out]; rfl, by rw [HZ.out]; exact KF.out.1, KF.out.2⟩
      · obtain rfl : k = zs.length := by omega
        have hd : decide ((zs.length : Int) < (zs.length : Int)) = false := by simp
        have HC : Hid (posZ zs y = zs.length) := posZ_all KA.out.2.2
        have bD : Below wr.heap.size wr wr.drew := (Below.refl _ _).drew
        have rD : RowZ wr.drew w1.heap.size (.slice a7 zs.length c7) (zs.take zs.length) := KA.out.1.later bD
        have bW : Below w1.heap.size w1 wr.drew := KA.out.2.1.trans (bD.mono KA.out.2.1.size)
        clear bD
        go_wp2_with fail
        refine wp_region_z (fun _ => false) (fun _ : World => True) (by kernel_rfl) ?_
        generalize wr.drew = Ud at *
        obtain ⟨V1, hV1⟩ : ∃ V, V = Ud.alloc (.cells #[.int .i64 y] 2) := ⟨_, rfl⟩
        have bV1 : Below Ud.heap.size Ud V1 := by rw [hV1]; exact (Below.refl _ _).alloc (Nat.le_refl _) _
        have sV1 : V1.heap.size = Ud.heap.size + 1 := by rw [hV1]; simp
        have hone : SlN V1 V1.heap.size (some ⟨Ud.heap.size, 0, none⟩) [y].length [y] := ⟨rfl, .inr ⟨Ud.heap.size, 0, rfl, by omega, fun j z e => by
          rcases j with _ | j
          · simp at e; subst e; rw [hV1]; go_simp
          · simp at e⟩⟩
        have hlk : (zs.take zs.length).length = zs.length := by rw [List.length_take]; omega
        obtain ⟨a1, c1, Y1, run1, row1, gr1, -⟩ := pushZ (rD.later bV1) [y] (by rw [hlk]; simp; omega) 26 (some ⟨Ud.heap.size, 0, none⟩) 1 hone (Nat.le_trans bW.size bV1.size)
        have bV1' : Below w1.heap.size w1 V1 := bW.trans (bV1.mono bW.size)
        have bY1 : Below w1.heap.size w1 Y1 := bV1'.grown gr1 bV1'.size (fun q e => (rD.lt e).1)
        have hl1 : (zs.take zs.length ++ [y]).length = zs.length + 1 := by rw [List.length_append, hlk]; rfl
        obtain ⟨a8, ha8⟩ : ∃ a8 : Option Addr, a8 = (if c = zs.length then a else Option.map (fun x => x.add zs.length) (a)) := ⟨_, rfl⟩
        have src : SlN Y1 Y1.heap.size a8 (zs.drop zs.length).length (zs.drop zs.length) := (H.out.1.later bY1).drop H.out.2 ha8
        obtain ⟨a2, c2, Y2, run2, row2, gr2, -⟩ := pushZ row1 (zs.drop zs.length) (by rw [hl1, List.length_drop]; omega) 26 a8 (c - zs.length) src bY1.size
        have bY2 : Below w1.heap.size w1 Y2 := bY1.grown gr2 bY1.size (fun q e => (row1.lt e).1)
        rw [← putZ_cut HC.out hB] at run2 row2
        have KF : Hid (RowZ Y2 w1.heap.size (.slice a2 (putZ zs y).length c2) (putZ zs y) ∧ Below w1.heap.size w1 Y2) := ⟨row2, bY2⟩
        generalize hzl : (putZ zs y).length = zl at *
        rw [hl1, List.length_drop] at run2
        rw [hl1] at run1
        simp only [List.length_cons, List.length_nil, Nat.zero_add] at run1
        have HZ := hidOf hzl
        have hcl : zs.length ≤ c := H.out.2
        clear hzl bV1 sV1 hone gr1 bV1' bY1 row1 src gr2 bY2 row2 rD bW hl1 hlk
        refine wpZ_takeP (i := 0) (v := ?_) rfl (by kernel_rfl) (fun _ _ _ h => h) (Or.inl ⟨by rfl, ?_⟩) trivial ?_
        rotate_left
        · (intro X _; go_simp; first | done | with_reducible rfl | (rw [if_pos (by omega)]) | (rw [if_pos (by omega)]; go_simp))
        simp only [Act.put]
        refine wpZ_takeP (i := 1) (v := ?_) rfl (by kernel_rfl) (fun _ _ _ h => h) (Or.inl ⟨by rfl, ?_⟩) trivial ?_
        rotate_left
        · (intro X _; go_simp; first | done | with_reducible rfl | (rw [if_pos (by omega)]) | (rw [if_pos (by omega)]; go_simp))
        simp only [Act.put]
        refine wpZ_takeP (i := 4) (v := ?_) rfl (by kernel_rfl) (fun _ _ _ h => h) (Or.inl ⟨by rfl, ?_⟩) trivial ?_
        rotate_left
        · (intro X _; go_simp; first | done | with_reducible rfl | (rw [if_pos (by omega)]) | (rw [if_pos (by omega)]; go_simp))
        simp only [Act.put]
        refine wpZ_takeP (i := 5) (v := ?_) rfl (by kernel_rfl) (fun _ _ _ h => h) (Or.inl ⟨by rfl, ?_⟩) trivial ?_
        rotate_left
        · (intro X _; go_simp; first | done | with_reducible rfl | (rw [if_pos (by omega)]) | (rw [if_pos (by omega)]; go_simp))
        simp only [Act.put]
        refine wpZ_takeP (i := 6) (v := ?_) rfl (by kernel_rfl) (fun _ _ _ h => h) (Or.inl ⟨by rfl, ?_⟩) trivial ?_
        rotate_left
        · (intro X _; go_simp; first | done | with_reducible rfl | (rw [if_pos (by omega)]) | (rw [if_pos (by omega)]; go_simp))
        simp only [Act.put]
        refine wpZ_takeP (i := 7) (v := .slice a8 (zs.length - zs.length) (c - zs.length)) rfl (by kernel_rfl) (fun _ _ _ h => h) (Or.inl ⟨by rfl, ?_⟩) trivial ?_
        · (intro X _; rw [ha8]; go_simp; first | done | with_reducible rfl | rfl)
        clear ha8
        simp only [Act.put]
        refine wpZ_ready (rs := [2]) (by kernel_rfl) (by simp) ?_
        refine AllZ.cons rfl (fun K hK => ?_) AllZ.nil
        go_simp
        refine hK.out _ _ (fun _ => trivial) ?_
        clear hK K
        rw [← hV1]
        clear hV1
        refine wpZ_ready (rs := [3]) (by kernel_rfl) (by simp) ?_
        refine AllZ.cons (o := ⟨some 36, _, _, _, _, _⟩) rfl (fun K hK => ?_) AllZ.nil
        refine step_known _ rfl (.tmp 33) (.tmp 35) 26 rfl _ _ _ _ (by first | rfl | simp [Act.eval, Act.put]) (by first | rfl | simp [Act.eval, Act.put]) run1 ?_
        refine hK.out _ _ (fun _ => trivial) ?_
        clear hK K run1
        simp only [Act.put]
        refine wpZ_ready (rs := [8]) (by kernel_rfl) (by simp) ?_
        refine AllZ.cons (o := ⟨some 41, _, _, _, _, _⟩) rfl (fun K hK => ?_) AllZ.nil
        refine step_known _ rfl (.tmp 36) (.tmp 40) 26 rfl _ _ _ _ (by first | rfl | simp [Act.eval, Act.put]) (by first | rfl | simp [Act.eval]) run2 ?_
        refine hK.out _ _ (fun _ => trivial) ?_
        clear hK K run2
        simp only [Act.put]
        refine wpZ_ready (rs := [9]) (by kernel_rfl) (by simp) ?_
        refine AllZ.cons rfl (fun K hK => ?_) AllZ.nil
        go_simp
        refine hK.out _ _ (fun _ => trivial) ?_
        clear hK K
        refine wpZ_done (by kernel_rfl) ?_ _
        go_wp2
        go_ret
        exact .inr ⟨hB, a2, c2, by rw [HZ.out]; rfl, by rw [HZ.out]; exact KF.out.1, KF.out.2⟩
end Go.Proofs.YtooalbdlknheeaaGreat
/- Records struck out and an Id marked, by the specification. -/
namespace Go.Proofs.YtooalbdlknheeaaGreat
open Go.RowKit
def ClrAns (w : World) (base p : Nat) (vk : Value) (ks : List K2) (rs' : List R4) (zs' : List Int) (gk : Nat → Nat) (e : Ending) (w' : World) : Prop :=
  (∃ u, e = .returned u) ∧ ∃ al' cl' ad' cd' gr', w'.cell? ⟨p, 2, none⟩ = some (.slice al' rs'.length cl') ∧ w'.cell? ⟨p, 3, none⟩ = some (.slice ad' zs'.length cd') ∧ MR base p w' vk (.slice al' rs'.length cl') (.slice ad' zs'.length cd') ks rs' zs' gk gr' ∧ (∀ j, j ≠ 2 → j ≠ 3 → w'.cell? ⟨p, j, none⟩ = w.cell? ⟨p, j, none⟩) ∧ Below base w w'
set_option maxRecDepth 100000 in
set_option maxHeartbeats 4000000 in
theorem l6Clear_any (w : World) (base p : Nat) (vk : Value) (ul ud : Option Addr) (uj ui : Nat) (ks : List K2) (rs : List R4) (zs : List Int) (gk gr : Nat → Nat) (t g : Int) (d : Bool) (h : MR base p w vk (.slice ul rs.length uj) (.slice ud zs.length ui) ks rs zs gk gr) (c2 : w.cell? ⟨p, 2, none⟩ = some (.slice ul rs.length uj)) (c3 : w.cell? ⟨p, 3, none⟩ = some (.slice ud zs.length ui)) (hf : ∀ j, w.frozen? ⟨p, j, none⟩ = false) (hp : p < w.heap.size) (hbp : base ≤ p) (hn : rs.length ≤ 1000) (hz : zs.length ≤ 1000) :
    Calls Tryz.prog 80 #[.pointer (some ⟨p, 0, none⟩), .int .i64 t, .int .i64 g, .bool d] w (ClrAns w base p vk ks (rs.filter (fun r => !ofB t g r)) (if d = true then putZ zs t else zs) gk) := by
  obtain ⟨rs', hrs⟩ : ∃ rs', rs' = rs.filter (fun r => !ofB t g r) := ⟨_, rfl⟩
  obtain ⟨zs', hzs⟩ : ∃ zs', zs' = (if d = true then putZ zs t else zs) := ⟨_, rfl⟩
  rw [← hrs, ← hzs]
  have HR := hidOf hrs
  have HZ := hidOf hzs
  clear hrs hzs
  obtain ⟨caps, hcp, hlook⟩ := h.gR.look
  obtain ⟨W, hW⟩ : ∃ W, W = w.alloc (.cells #[] 41) := ⟨_, rfl⟩
  have b0 : Below w.heap.size w W := by rw [hW]; exact (Below.refl _ _).alloc (Nat.le_refl _) _
  have r0 : RowK W w.heap.size (.slice (some ⟨w.heap.size, 0, none⟩) 0 0) rs gr caps [] := by rw [hW]; exact RowK.made w rs gr caps
  have H0 : Hid (Below w.heap.size w W ∧ RowK W w.heap.size (.slice (some ⟨w.heap.size, 0, none⟩) 0 0) rs gr caps []) := ⟨b0, r0⟩
  have H : Hid (MR base p w vk (.slice ul rs.length uj) (.slice ud zs.length ui) ks rs zs gk gr ∧ w.cell? ⟨p, 2, none⟩ = some (.slice ul rs.length uj) ∧ w.cell? ⟨p, 3, none⟩ = some (.slice ud zs.length ui) ∧ (∀ j, w.frozen? ⟨p, j, none⟩ = false) ∧ (∀ i, i < rs.length → lnR (atR rs i) ≤ caps i) ∧ (∀ i, i < rs.length → ∃ b, ul = some ⟨b, 0, none⟩ ∧ b < w.heap.size ∧ At w b (i * 4) (pickC rs gr caps i))) := ⟨h, c2, c3, hf, hcp, hlook⟩
  clear h c2 c3 hf hcp hlook b0 r0
  go_enter Tryz.func80, Tryz.ntmps80
  go_wp2
  rw [← hW]
  clear hW
  go_loopw [8, 9] (fun v8 v9 wr => ∃ k : Nat, k ≤ rs.length ∧ v9 = .int .i64 k ∧ RowK wr w.heap.size v8 rs gr caps (keepI (fun i => ofB t g (atR rs i)) k) ∧ Below w.heap.size w wr) (fun _ v9 _ => rs.length - (intOf v9).toNat)
  case atStart => exact ⟨0, Nat.zero_le _, rfl, H0.out.2, H0.out.1⟩
  case round =>
    obtain ⟨k, hk, rfl, hrow, hbl⟩ := hrel
    obtain ⟨a8, c8, e8⟩ := owns_slice hrow
    have e2 := (hbl.cell (p := ⟨p, 2, none⟩) hp).trans H.out.2.1
    have KA : Hid (RowK wr w.heap.size u8 rs gr caps (keepI (fun i => ofB t g (atR rs i)) k) ∧ Below w.heap.size w wr) := ⟨hrow, hbl⟩
    clear hrow H0
    by_cases hlt : k < rs.length
    · have hk5 : (k : Int) < (rs.length : Int) := by omega
      obtain ⟨b, rfl, hb, hat⟩ := H.out.2.2.2.2.2 k hlt
      have k0 := (hbl.cell (p := ⟨b, k * 4 + 0, none⟩) hb).trans (hat 0 _ rfl)
      have k1 := (hbl.cell (p := ⟨b, k * 4 + 1, none⟩) hb).trans (hat 1 _ rfl)
      have k2 := (hbl.cell (p := ⟨b, k * 4 + 2, none⟩) hb).trans (hat 2 _ rfl)
      have k3 := (hbl.cell (p := ⟨b, k * 4 + 3, none⟩) hb).trans (hat 3 _ rfl)
      rw [Nat.add_zero] at k0
      clear hat e8
      have HV : Hid (ofB t g (atR rs k) = (((atR rs k).tx == t) && ((atR rs k).region == g))) := rfl
      obtain ⟨V, hV⟩ : ∃ V, V = wr.alloc (.cells #[.int .i64 (atR rs k).kind, .int .i64 (atR rs k).tx, .int .i64 (atR rs k).region, .slice (some ⟨gr k, 0, none⟩) (atR rs k).sets.length (caps k)] 41) := ⟨_, rfl⟩
      have bV : Below wr.heap.size wr V := by rw [hV]; exact (Below.refl _ _).alloc (Nat.le_refl _) _
      have hone : At V wr.heap.size 0 (pickC rs gr caps k) := fun j u hu => by
        rw [hV]
        rcases j with _ | _ | _ | _ | j <;> simp [pickC, rc] at hu <;> subst hu <;> go_simp
      obtain ⟨v', Y, hr, hrow', hgr⟩ := (KA.out.1.later bV).push k (by have := keepI_le (fun i => ofB t g (atR rs i)) k; omega) 25 wr.heap.size 1 hone (Nat.le_trans KA.out.2.size bV.size)
      have KE : Hid (ofB t g (atR rs k) = false → RowK Y w.heap.size v' rs gr caps (keepI (fun i => ofB t g (atR rs i)) (k + 1)) ∧ Below w.heap.size w Y) := fun e => by
        rw [keepI_on e]
        exact ⟨hrow', (KA.out.2.trans (bV.mono KA.out.2.size)).grown hgr (Nat.le_trans KA.out.2.size bV.size) (fun q e => (KA.out.1.lt e).1)⟩
      have KO : Hid (ofB t g (atR rs k) = true → RowK wr w.heap.size u8 rs gr caps (keepI (fun i => ofB t g (atR rs i)) (k + 1)) ∧ Below w.heap.size w wr) := fun e => by
        rw [keepI_off e]
        exact KA.out
      rw [hV] at hr
      clear hV bV hone hrow' hgr KA hbl
      generalize (atR rs k).tx = x1 at *
      generalize (atR rs k).region = x2 at *
      generalize (atR rs k).kind = x0 at *
      generalize (atR rs k).sets.length = x3 at *
      cases q1 : (x1 == t) with
      | false =>
        go_wp2_with (at_builtin; refine append_known _ rfl (.tmp 42) (.tmp 50) 25 rfl _ _ _ _ rfl rfl hr ?_)
        have := KE.out (by rw [HV.out, q1]; rfl)
        exact ⟨⟨k + 1, by omega, by simp, this.1, this.2⟩, by simp [intOf]; omega⟩
      | true =>
        have ex : x1 = t := by simpa using q1
        rw [ex] at hr k1 HV
        clear ex q1
        have q1 : (t == t) = true := by simp
        cases q2 : (x2 == g) with
        | false =>
          go_wp2_with (at_builtin; refine append_known _ rfl (.tmp 42) (.tmp 50) 25 rfl _ _ _ _ rfl rfl hr ?_)
          have := KE.out (by rw [HV.out, q1, q2]; rfl)
          exact ⟨⟨k + 1, by omega, by simp, this.1, this.2⟩, by simp [intOf]; omega⟩
        | true =>
          clear hr
          go_wp2
          have := KO.out (by rw [HV.out, q1, q2]; rfl)
          exact ⟨⟨k + 1, by omega, by simp, this.1, this.2⟩, by simp [intOf]; omega⟩
    · obtain rfl : k = rs.length := by omega
      have hd : decide ((rs.length : Int) < (rs.length : Int)) = false := by simp
      subst e8
      have ms := H.out.1.picked hbl (Nat.le_refl _) (by omega) hp KA.out.1 H.out.2.2.2.2.1 (fun x i hx => keepI_lt hx) (keepI_nodup _ _)
      have el : (keepI (fun i => ofB t g (atR rs i)) rs.length).length = rs'.length := by rw [HR.out, ← keepI_list rs (ofB t g), List.length_map]
      rw [el, keepI_list rs (ofB t g), ← HR.out] at ms
      have ef := (hbl.frozen (p := ⟨p, 2, none⟩) hp).trans (H.out.2.2.2.1 2)
      have e3 := (hbl.cell (p := ⟨p, 3, none⟩) hp).trans H.out.2.2.1
      have ef3 := (hbl.frozen (p := ⟨p, 3, none⟩) hp).trans (H.out.2.2.2.1 3)
      rw [el]
      obtain ⟨W5, hW5⟩ : ∃ W5, W5 = wr.setCell ⟨p, 2, none⟩ (.slice a8 rs'.length c8) := ⟨_, rfl⟩
      have p3 : W5.cell? ⟨p, 3, none⟩ = some (.slice ud zs.length ui) := by rw [hW5]; exact (cell_set_other (by omega)).trans e3
      have pf : W5.frozen? ⟨p, 3, none⟩ = false := by rw [hW5, World.frozen?_setCell]; exact ef3
      have K5 : Hid (W5.cell? ⟨p, 2, none⟩ = some (.slice a8 rs'.length c8) ∧ W5.cell? ⟨p, 3, none⟩ = some (.slice ud zs.length ui) ∧ MR base p W5 vk (.slice a8 rs'.length c8) (.slice ud zs.length ui) ks rs' zs gk (fun x => gr ((keepI (fun i => ofB t g (atR rs i)) rs.length)[x]?.getD 0)) ∧ (∀ j, j ≠ 2 → W5.cell? ⟨p, j, none⟩ = w.cell? ⟨p, j, none⟩) ∧ Below base w W5 ∧ w.heap.size ≤ W5.heap.size) := by
        rw [hW5]
        exact ⟨cell_set_same e2, (cell_set_other (by omega)).trans e3, ms.set, fun j hj => (cell_set_other (by simpa using fun e => hj e)).trans (hbl.cell (p := ⟨p, j, none⟩) hp), (hbl.mono (by omega)).setCell (p := ⟨p, 2, none⟩) hbp _, by simpa [World.setCell] using hbl.size⟩
      clear ms el KA hbl ef3 e3 H
      generalize (fun x : Nat => gr ((keepI (fun i => ofB t g (atR rs i)) rs.length)[x]?.getD 0)) = gr' at *
      cases d with
      | false =>
        go_wp2
        rw [← hW5]
        refine bodyPost_end (v := .tuple #[]) (by simp [results, Tryz.results80, go_sem]) rfl ⟨⟨_, rfl⟩, a8, c8, ud, ui, gr', ?_⟩
        obtain ⟨q1, q2, q3, q4, q5, -⟩ := K5.out
        have ez : zs' = zs := HZ.out
        rw [ez]
        exact ⟨q1, q2, q3, fun j h1 _ => q4 j h1, q5⟩
      | true =>
        have hput := l6Put_any W5 base ud ui zs t K5.out.2.2.1.gD hz
        rw [hW5] at p3 pf
        go_wp2_with fail
        rw [← hW5] at p3 pf ⊢
        clear hW5 e2 ef
        refine hput.mono ?_
        clear hput
        rintro e w6 hans
        rcases hans with ⟨hh, rfl, rfl⟩ | ⟨hh, a', c', rfl, hrow, b6⟩
        · go_wp2
          refine bodyPost_end (v := .tuple #[]) (by simp [results, Tryz.results80, go_sem]) rfl ⟨⟨_, rfl⟩, a8, c8, ud, ui, gr', ?_⟩
          obtain ⟨q1, q2, q3, q4, q5, -⟩ := K5.out
          have ez : zs' = zs := (show zs' = putZ zs t from HZ.out).trans (putZ_has hh)
          rw [ez]
          exact ⟨(cell_set_other (by omega)).trans q1, cell_set_same q2, q3.set, fun j h1 h2 => (cell_set_other (by simpa using fun e => h2 e)).trans (q4 j h1), q5.setCell (p := ⟨p, 3, none⟩) hbp _⟩
        · have hp5 : p < w6.heap.size := Nat.lt_of_lt_of_le hp (Nat.le_trans K5.out.2.2.2.2.2 b6.size)
          have hpW : p < W5.heap.size := Nat.lt_of_lt_of_le hp K5.out.2.2.2.2.2
          have s3 := (b6.cell (p := ⟨p, 3, none⟩) hpW).trans p3
          have s3f := (b6.frozen (p := ⟨p, 3, none⟩) hpW).trans pf
          have ez : zs' = putZ zs t := HZ.out
          have hzl : 0 < zs'.length := by rw [ez, putZ, if_neg (by simp [hh]), insZ, List.length_append, List.length_cons]; omega
          rw [← ez] at hrow ⊢
          clear ez
          have KP : Hid (w6.cell? ⟨p, 2, none⟩ = some (.slice a8 rs'.length c8) ∧ w6.cell? ⟨p, 3, none⟩ = some (.slice ud zs.length ui) ∧ MR base p w6 vk (.slice a8 rs'.length c8) (.slice a' zs'.length c') ks rs' zs' gk gr' ∧ (∀ j, j ≠ 2 → w6.cell? ⟨p, j, none⟩ = w.cell? ⟨p, j, none⟩) ∧ Below base w w6) := by
            obtain ⟨q1, q2, q3, q4, q5, q6⟩ := K5.out
            refine ⟨(b6.cell (p := ⟨p, 2, none⟩) hpW).trans q1, s3, q3.cleared hpW ⟨b6.os, b6.tape, b6.output, b6.size, fun x hx _ => b6.block x hx⟩ (owns_mono hrow (by omega)) (.inr ?_), fun j hj => (b6.cell (p := ⟨p, j, none⟩) hpW).trans (q4 j hj), q5.trans (b6.mono (by omega))⟩
            rcases hrow.2 with ⟨_, e0⟩ | ⟨q, cap, cur, e0, hq, _⟩
            · omega
            · exact ⟨q, by rw [e0]; rfl, hq⟩
          clear K5 hrow b6 p3 pf
          go_wp2
          refine bodyPost_end (v := .tuple #[]) (by simp [results, Tryz.results80, go_sem]) rfl ⟨⟨_, rfl⟩, a8, c8, a', c', gr', ?_⟩
          obtain ⟨q1, q2, q3, q4, q5⟩ := KP.out
          exact ⟨(cell_set_other (by omega)).trans q1, cell_set_same q2, q3.set, fun j h1 h2 => (cell_set_other (by simpa using fun e => h2 e)).trans (q4 j h1), q5.setCell (p := ⟨p, 3, none⟩) hbp _⟩
end Go.Proofs.YtooalbdlknheeaaGreat
