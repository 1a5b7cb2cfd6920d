/- The laws' marks in rows of copies and of records of a call's own. -/
import Derived.Test.YtbkcmbbeknljiaaGreatRows
import Derived.Test.YtbkcmbbeknljiaaGreatJ8LawCleared
import Derived.WalkKit
import Derived.WalkSpells
import Derived.WalkLawsBesides
import Derived.Below
namespace Go.Proofs.YtbkcmbbeknljiaaGreat
open Go.RowKit
def OfRow (b n : Nat) (g : Nat → Nat) (q : Nat) : Prop := q = b ∨ ∃ i, i < n ∧ q = g i
set_option maxHeartbeats 4000000 in
theorem markCopyS_own (w : World) (b n cap : Nat) (ks : List K2) (g : Nat → Nat) (k : Int) (hk : 0 ≤ k) (hk' : k ≤ 500000000) (ht : offG cK ks ks.length ≤ 100000000) (hn : n ≤ 1048576) (hl : ∀ c ∈ ks, c.cells.length ≤ 1048576) (hbw : b < w.heap.size) (hr : Room w b (n * 2)) (ho : OwnG 2 hdK lnK AtK w 0 b n ks g) :
    Calls Tryz.prog 88 #[.slice (some ⟨b, 0, none⟩) n cap, .int .i64 k] w fun e w' => e = .returned (.int .i64 (k + offG cK ks ks.length)) ∧ KeptP (OfRow b n g) w w' ∧ OwnG 2 hdK lnK AtK w' 0 b n (mkKs ks k) g ∧ Room w' b (n * 2) := by
  have hlen := ho.len
  have HO : Hid (OwnG 2 hdK lnK AtK w 0 b n ks g ∧ Room w b (n * 2) ∧ b < w.heap.size ∧ (∀ c ∈ ks, c.cells.length ≤ 1048576) ∧ ks.length = n) := ⟨ho, hr, hbw, hl, hlen⟩
  clear ho hr hbw hl hlen
  go_enter Tryz.func88, Tryz.ntmps88
  go_wp2
  go_loopw [1, 5] (fun v1 v5 wr => ∃ j : Nat, j ≤ n ∧ v5 = .int .i64 j ∧ v1 = .int .i64 (k + (offG cK ks j : Int)) ∧ KeptP (OfRow b n g) w wr ∧ OwnG 2 hdK lnK AtK wr 0 b n (mix (mkK ks k) ks j) g ∧ Room wr b (n * 2)) (fun _ v5 _ => n - (intOf v5).toNat)
  case atStart => exact ⟨0, Nat.zero_le _, rfl, by rw [offG_zero]; simp, KeptP.refl _ _, by rw [mix_zero]; exact HO.out.1, HO.out.2.1⟩
  case round =>
    obtain ⟨j, hj, rfl, rfl, hkp, how, hro⟩ := hrel
    have hb2 := offG_le cK ks j
    by_cases hlt : j < n
    · have hks : ks[j]? = some (atK ks j) := atK_of (by rw [HO.out.2.2.2.2]; exact hlt)
      have hcur := mix_cur (mkK ks k) ks j hks
      obtain ⟨v0, d0, f0⟩ := hro (j * 2) (by omega)
      obtain ⟨cap', c1, hcp⟩ := how.tail j _ hcur
      have hat := how.sub j _ hcur
      have hgn := how.ne j hlt
      have hgl := how.lt j hlt
      have hln : (atK ks j).cells.length ≤ 1048576 := HO.out.2.2.2.1 _ (List.mem_of_getElem? hks)
      have hoff : Hid (offG cK ks (j + 1) = offG cK ks j + cK (atK ks j)) := offG_succ cK hks
      have K : Hid (KeptP (OfRow b n g) w wr ∧ OwnG 2 hdK lnK AtK wr 0 b n (mix (mkK ks k) ks j) g ∧ Room wr b (n * 2) ∧ (mix (mkK ks k) ks j)[j]? = some (atK ks j)) := ⟨hkp, how, hro, hcur⟩
      have hro' : Room (wr.setCell ⟨b, j * 2, none⟩ (.int .i64 (k + (offG cK ks j : Int)))) (g j) ((atK ks j).cells.length * 2) := by
        refine hat.2.of_block ?_
        exact Below.heap_setCell _ _ _ _ hgn
      have hm := markCellS_k (wr.setCell ⟨b, j * 2, none⟩ (.int .i64 (k + (offG cK ks j : Int)))) (g j) (atK ks j).cells.length cap' (k + (offG cK ks j : Int) + 1) hln (by omega) (by omega) hro'
      simp only [lnK, Nat.reduceSub] at c1
      clear hkp how hro hcur hat hro' hcp hks
      go_wp2_with fail
      refine hm.mono ?_
      clear hm
      rintro e w1 ⟨rfl, hob, hce, hrm⟩
      go_wp2
      obtain ⟨hkp, how, hro, hcur⟩ := K.out
      have hs1 : (wr.setCell ⟨b, j * 2, none⟩ (.int .i64 (k + (offG cK ks j : Int)))).heap.size = wr.heap.size := by simp [World.setCell]
      have cb : ∀ o, w1.cell? ⟨b, o, none⟩ = (wr.setCell ⟨b, j * 2, none⟩ (.int .i64 (k + (offG cK ks j : Int)))).cell? ⟨b, o, none⟩ := fun o => World.cell?_of_block (a := ⟨b, o, none⟩) (hob.block b (fun e => hgn e.symm))
      refine ⟨⟨j + 1, by omega, by simp, by rw [hoff.out]; simp [cK]; omega, ?_, ?_, ?_⟩, by simp [intOf]; omega⟩
      · exact (hkp.trans (KeptP.of_set wr _ (.inl rfl))).trans (KeptP.of_only hob (.inr ⟨j, hlt, rfl⟩))
      · rw [mix_succ _ _ _ (by rw [HO.out.2.2.2.2]; exact hlt)]
        refine how.set AtK.of_block hcur (by simp [lnK, mkK, mkCells_len]) (by omega) (by intro r; simp [hdK]) (by rw [hob.size, hs1]; exact Nat.le_refl _) (fun x _ hx hg => (hob.block x hg).trans (Below.heap_setCell _ _ _ _ hx)) (fun o ho => ?_) (fun t z hz => ?_) ⟨by rw [mkK]; exact hce, by simp only [mkK, mkCells_len]; exact hrm⟩
        · rw [cb o, cell_set_other (by omega)]
        · have ht0 : t = 0 := by
            have := (List.getElem?_eq_some_iff.1 hz).1
            simp [hdK] at this; exact this
          subst ht0
          simp [hdK, mkK] at hz
          subst hz
          rw [Nat.add_zero, cb]
          exact cell_set_same d0
      · exact (hro.set _).of_block (hob.block b (fun e => hgn e.symm))
    · have : j = n := by omega
      subst this
      have hd : decide ((j : Int) < (j : Int)) = false := by simp
      have hkl : ks.length = j := HO.out.2.2.2.2
      have K : Hid (KeptP (OfRow b j g) w wr ∧ OwnG 2 hdK lnK AtK wr 0 b j (mkKs ks k) g ∧ Room wr b (j * 2)) := ⟨hkp, by
        have := mix_all (mkK ks k) ks
        rw [hkl] at this
        rw [this, ← hkl] at how
        rw [← hkl]; exact how, hro⟩
      have H : Hid (ks.length = j) := hkl
      clear hkp how hro hkl
      go_wp2
      go_ret
      exact ⟨by rw [H.out]; rfl, K.out.1, K.out.2.1, K.out.2.2⟩
set_option maxHeartbeats 4000000 in
theorem markRecordS_own (w : World) (b n cap : Nat) (ks : List R4) (g : Nat → Nat) (k : Int) (hk : 0 ≤ k) (hk' : k ≤ 500000000) (ht : offG cR ks ks.length ≤ 100000000) (hn : n ≤ 1048576) (hl : ∀ c ∈ ks, c.sets.length ≤ 1048576) (hbw : b < w.heap.size) (hr : Room w b (n * 4)) (ho : OwnG 4 hdR lnR AtR w 0 b n ks g) :
    Calls Tryz.prog 89 #[.slice (some ⟨b, 0, none⟩) n cap, .int .i64 k] w fun e w' => e = .returned (.int .i64 (k + offG cR ks ks.length)) ∧ KeptP (OfRow b n g) w w' ∧ OwnG 4 hdR lnR AtR w' 0 b n (mkRs ks k) g ∧ Room w' b (n * 4) := by
  have hlen := ho.len
  have HO : Hid (OwnG 4 hdR lnR AtR w 0 b n ks g ∧ Room w b (n * 4) ∧ b < w.heap.size ∧ (∀ c ∈ ks, c.sets.length ≤ 1048576) ∧ ks.length = n) := ⟨ho, hr, hbw, hl, hlen⟩
  clear ho hr hbw hl hlen
  go_enter Tryz.func89, Tryz.ntmps89
  go_wp2
  go_loopw [1, 5] (fun v1 v5 wr => ∃ j : Nat, j ≤ n ∧ v5 = .int .i64 j ∧ v1 = .int .i64 (k + (offG cR ks j : Int)) ∧ KeptP (OfRow b n g) w wr ∧ OwnG 4 hdR lnR AtR wr 0 b n (mix (mkR ks k) ks j) g ∧ Room wr b (n * 4)) (fun _ v5 _ => n - (intOf v5).toNat)
  case atStart => exact ⟨0, Nat.zero_le _, rfl, by rw [offG_zero]; simp, KeptP.refl _ _, by rw [mix_zero]; exact HO.out.1, HO.out.2.1⟩
  case round =>
    obtain ⟨j, hj, rfl, rfl, hkp, how, hro⟩ := hrel
    have hb2 := offG_le cR ks j
    by_cases hlt : j < n
    · have hks : ks[j]? = some (atR ks j) := atR_of (by rw [HO.out.2.2.2.2]; exact hlt)
      have hcur := mix_cur (mkR ks k) ks j hks
      obtain ⟨v0, d0, f0⟩ := hro (j * 4) (by omega)
      obtain ⟨v1, d1, f1⟩ := hro (j * 4 + 1) (by omega)
      obtain ⟨v2, d2, f2⟩ := hro (j * 4 + 2) (by omega)
      obtain ⟨cap', c1, hcp⟩ := how.tail j _ hcur
      have hat := how.sub j _ hcur
      have hgn := how.ne j hlt
      have hgl := how.lt j hlt
      have hln : (atR ks j).sets.length ≤ 1048576 := HO.out.2.2.2.1 _ (List.mem_of_getElem? hks)
      have hoff : Hid (offG cR ks (j + 1) = offG cR ks j + cR (atR ks j)) := offG_succ cR hks
      have K : Hid (KeptP (OfRow b n g) w wr ∧ OwnG 4 hdR lnR AtR wr 0 b n (mix (mkR ks k) ks j) g ∧ Room wr b (n * 4) ∧ (mix (mkR ks k) ks j)[j]? = some (atR ks j)) := ⟨hkp, how, hro, hcur⟩
      obtain ⟨X, hX⟩ : ∃ X, X = ((wr.setCell ⟨b, j * 4, none⟩ (.int .i64 (k + (offG cR ks j : Int)))).setCell ⟨b, j * 4 + 1, none⟩ (.int .i64 (k + (offG cR ks j : Int) + 1))).setCell ⟨b, j * 4 + 2, none⟩ (.int .i64 (k + (offG cR ks j : Int) + 1 + 1)) := ⟨_, rfl⟩
      have hX' : OnlyBlock b wr X := by rw [hX]; exact (((OnlyBlock.refl b wr).setCell _ _).setCell _ _).setCell _ _
      have e0 : X.cell? ⟨b, j * 4, none⟩ = some (.int .i64 (k + (offG cR ks j : Int))) := by
        rw [hX, cell_set_other (by omega), cell_set_other (by omega)]; exact cell_set_same d0
      have e1 : X.cell? ⟨b, j * 4 + 1, none⟩ = some (.int .i64 (k + (offG cR ks j : Int) + 1)) := by
        rw [hX, cell_set_other (by omega)]; exact cell_set_same (by rw [cell_set_other (by omega)]; exact d1)
      have e2 : X.cell? ⟨b, j * 4 + 2, none⟩ = some (.int .i64 (k + (offG cR ks j : Int) + 1 + 1)) := by
        rw [hX]; exact cell_set_same (by rw [cell_set_other (by omega), cell_set_other (by omega)]; exact d2)
      have eo : ∀ o, (o < j * 4 ∨ j * 4 + 3 ≤ o) → X.cell? ⟨b, o, none⟩ = wr.cell? ⟨b, o, none⟩ := fun o ho => by
        rw [hX, cell_set_other (by omega), cell_set_other (by omega), cell_set_other (by omega)]
      have er : Room X b (n * 4) := by rw [hX]; exact ((hro.set _).set _).set _
      have hro' : Room X (g j) ((atR ks j).sets.length * 5) := hat.2.of_block (hX'.block _ hgn)
      have hm := markSetS_k X (g j) (atR ks j).sets.length cap' (k + (offG cR ks j : Int) + 1 + 1 + 1) hln (by omega) (by omega) hro'
      have KX : Hid (OnlyBlock b wr X ∧ X.cell? ⟨b, j * 4, none⟩ = some (.int .i64 (k + (offG cR ks j : Int))) ∧ X.cell? ⟨b, j * 4 + 1, none⟩ = some (.int .i64 (k + (offG cR ks j : Int) + 1)) ∧ X.cell? ⟨b, j * 4 + 2, none⟩ = some (.int .i64 (k + (offG cR ks j : Int) + 1 + 1)) ∧ (∀ o, (o < j * 4 ∨ j * 4 + 3 ≤ o) → X.cell? ⟨b, o, none⟩ = wr.cell? ⟨b, o, none⟩) ∧ Room X b (n * 4)) := ⟨hX', e0, e1, e2, eo, er⟩
      simp only [lnR, Nat.reduceSub] at c1
      clear hkp how hro hcur hat hro' hcp hks hX' e0 e1 e2 eo er
      subst hX
      go_wp2_with fail
      refine hm.mono ?_
      clear hm
      rintro e w1 ⟨rfl, hob, hce, hrm⟩
      go_wp2
      obtain ⟨hkp, how, hro, hcur⟩ := K.out
      obtain ⟨hX', e0, e1, e2, eo, er⟩ := KX.out
      generalize ((wr.setCell ⟨b, j * 4, none⟩ (.int .i64 (k + (offG cR ks j : Int)))).setCell ⟨b, j * 4 + 1, none⟩ (.int .i64 (k + (offG cR ks j : Int) + 1))).setCell ⟨b, j * 4 + 2, none⟩ (.int .i64 (k + (offG cR ks j : Int) + 1 + 1)) = X at *
      have cb : ∀ o, w1.cell? ⟨b, o, none⟩ = X.cell? ⟨b, o, none⟩ := fun o => World.cell?_of_block (a := ⟨b, o, none⟩) (hob.block b (fun e => hgn e.symm))
      refine ⟨⟨j + 1, by omega, by simp, by rw [hoff.out]; simp [cR]; omega, ?_, ?_, ?_⟩, by simp [intOf]; omega⟩
      · exact (hkp.trans (KeptP.of_only hX' (.inl rfl))).trans (KeptP.of_only hob (.inr ⟨j, hlt, rfl⟩))
      · rw [mix_succ _ _ _ (by rw [HO.out.2.2.2.2]; exact hlt)]
        refine how.set AtR.of_block hcur (by simp [lnR, mkR, mkSets_len]) (by omega) (by intro r; simp [hdR]) (by rw [hob.size, hX'.size]; exact Nat.le_refl _) (fun x _ hx hg => (hob.block x hg).trans (hX'.block _ hx)) (fun o ho => ?_) (fun t z hz => ?_) ⟨by rw [mkR]; exact hce, by simp only [mkR, mkSets_len]; exact hrm⟩
        · rw [cb o, eo o (by omega)]
        · have ht0 := (List.getElem?_eq_some_iff.1 hz).1
          simp [hdR] at ht0
          rw [cb]
          rcases t with _ | _ | _ | t
          · simp [hdR, mkR] at hz; subst hz; exact e0
          · simp [hdR, mkR] at hz; subst hz; exact e1
          · simp [hdR, mkR] at hz; subst hz; exact e2
          · omega
      · exact er.of_block (hob.block b (fun e => hgn e.symm))
    · have : j = n := by omega
      subst this
      have hd : decide ((j : Int) < (j : Int)) = false := by simp
      have hkl : ks.length = j := HO.out.2.2.2.2
      have K : Hid (KeptP (OfRow b j g) w wr ∧ OwnG 4 hdR lnR AtR wr 0 b j (mkRs ks k) g ∧ Room wr b (j * 4)) := ⟨hkp, by
        have := mix_all (mkR ks k) ks
        rw [hkl] at this
        rw [this, ← hkl] at how
        rw [← hkl]; exact how, hro⟩
      have H : Hid (ks.length = j) := hkl
      clear hkp how hro hkl
      go_wp2
      go_ret
      exact ⟨by rw [H.out]; rfl, K.out.1, K.out.2.1, K.out.2.2⟩
set_option maxHeartbeats 1000000 in
theorem markCopyS_nil (w : World) (a : Option Addr) (cap : Nat) (k : Int) : Calls Tryz.prog 88 #[.slice a 0 cap, .int .i64 k] w fun e w' => e = .returned (.int .i64 k) ∧ w' = w := by
  go_enter Tryz.func88, Tryz.ntmps88
  go_wp2
  go_loop [1, 5] (fun v1 v5 => v1 = .int .i64 k ∧ v5 = .int .i64 0) (fun _ _ => 0)
  case atStart => exact ⟨rfl, rfl⟩
  case round =>
    obtain ⟨rfl, rfl⟩ := hrel
    go_wp2
    go_ret
    exact ⟨rfl, rfl⟩
set_option maxHeartbeats 1000000 in
theorem markRecordS_nil (w : World) (a : Option Addr) (cap : Nat) (k : Int) : Calls Tryz.prog 89 #[.slice a 0 cap, .int .i64 k] w fun e w' => e = .returned (.int .i64 k) ∧ w' = w := by
  go_enter Tryz.func89, Tryz.ntmps89
  go_wp2
  go_loop [1, 5] (fun v1 v5 => v1 = .int .i64 k ∧ v5 = .int .i64 0) (fun _ _ => 0)
  case atStart => exact ⟨rfl, rfl⟩
  case round =>
    obtain ⟨rfl, rfl⟩ := hrel
    go_wp2
    go_ret
    exact ⟨rfl, rfl⟩
end Go.Proofs.YtbkcmbbeknljiaaGreat
