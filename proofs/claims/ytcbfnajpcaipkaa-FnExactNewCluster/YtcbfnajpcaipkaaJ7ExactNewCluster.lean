/- MkC; MacSz; Eqs: joined. -/
import Derived.Test.YtcbfnajpcaipkaaRows
import Derived.Test.YtcbfnajpcaipkaaJ6ExactNewCluster
import Derived.WalkKit
import Derived.WalkSpells
import Derived.WalkLawsBesides
import Derived.Below
import Derived.Test.YtcbfnajpcaipkaaJ3ExactNewCluster
import Derived.Test.YtcbfnajpcaipkaaJ1ExactNewCluster
import Derived.Lib.QuietBelow
import Derived.BigQuiet
namespace Go.Proofs.Ytcbfnajpcaipkaa
open Go.RowKit
def OfRow (b n : Nat) (g : Nat → Nat) (q : Nat) : Prop := q = b ∨ ∃ i, i < n ∧ q = g i
set_option maxHeartbeats 4000000 in
theorem markCopyS_own (w : World) (b n cap : Nat) (ks : List K2) (g : Nat → Nat) (k : Int) (hk : 0 ≤ k) (hk' : k ≤ 500000000) (ht : offG cK ks ks.length ≤ 100000000) (hn : n ≤ 1048576) (hl : ∀ c ∈ ks, c.cells.length ≤ 1048576) (hbw : b < w.heap.size) (hr : Room w b (n * 2)) (ho : OwnG 2 hdK lnK AtK w 0 b n ks g) :
    Calls Try.prog 77 #[.slice (some ⟨b, 0, none⟩) n cap, .int .i64 k] w fun e w' => e = .returned (.int .i64 (k + offG cK ks ks.length)) ∧ KeptP (OfRow b n g) w w' ∧ OwnG 2 hdK lnK AtK w' 0 b n (mkKs ks k) g ∧ Room w' b (n * 2) := by
  have hlen := ho.len
  have HO : Hid (OwnG 2 hdK lnK AtK w 0 b n ks g ∧ Room w b (n * 2) ∧ b < w.heap.size ∧ (∀ c ∈ ks, c.cells.length ≤ 1048576) ∧ ks.length = n) := ⟨ho, hr, hbw, hl, hlen⟩
  clear ho hr hbw hl hlen
  go_enter Try.func77, Try.ntmps77
  go_wp2
  go_loopw [1, 5] (fun v1 v5 wr => ∃ j : Nat, j ≤ n ∧ v5 = .int .i64 j ∧ v1 = .int .i64 (k + (offG cK ks j : Int)) ∧ KeptP (OfRow b n g) w wr ∧ OwnG 2 hdK lnK AtK wr 0 b n (mix (mkK ks k) ks j) g ∧ Room wr b (n * 2)) (fun _ v5 _ => n - (intOf v5).toNat)
  case atStart => exact ⟨0, Nat.zero_le _, rfl, by rw [offG_zero]; simp, KeptP.refl _ _, by rw [mix_zero]; exact HO.out.1, HO.out.2.1⟩
  case round =>
    obtain ⟨j, hj, rfl, rfl, hkp, how, hro⟩ := hrel
    have hb2 := offG_le cK ks j
    by_cases hlt : j < n
    · have hks : ks[j]? = some (atK ks j) := atK_of (by rw [HO.out.2.2.2.2]; exact hlt)
      have hcur := mix_cur (mkK ks k) ks j hks
      obtain ⟨v0, d0, f0⟩ := hro (j * 2) (by omega)
      obtain ⟨cap', c1, hcp⟩ := how.tail j _ hcur
      have hat := how.sub j _ hcur
      have hgn := how.ne j hlt
      have hgl := how.lt j hlt
      have hln : (atK ks j).cells.length ≤ 1048576 := HO.out.2.2.2.1 _ (List.mem_of_getElem? hks)
      have hoff : Hid (offG cK ks (j + 1) = offG cK ks j + cK (atK ks j)) := offG_succ cK hks
      have K : Hid (KeptP (OfRow b n g) w wr ∧ OwnG 2 hdK lnK AtK wr 0 b n (mix (mkK ks k) ks j) g ∧ Room wr b (n * 2) ∧ (mix (mkK ks k) ks j)[j]? = some (atK ks j)) := ⟨hkp, how, hro, hcur⟩
      have hro' : Room (wr.setCell ⟨b, j * 2, none⟩ (.int .i64 (k + (offG cK ks j : Int)))) (g j) ((atK ks j).cells.length * 2) := by
        refine hat.2.of_block ?_
        exact Below.heap_setCell _ _ _ _ hgn
      have hm := markCellS_k (wr.setCell ⟨b, j * 2, none⟩ (.int .i64 (k + (offG cK ks j : Int)))) (g j) (atK ks j).cells.length cap' (k + (offG cK ks j : Int) + 1) hln (by omega) (by omega) hro'
      simp only [lnK, Nat.reduceSub] at c1
      clear hkp how hro hcur hat hro' hcp hks
      go_wp2_with fail
      refine hm.mono ?_
      clear hm
      rintro e w1 ⟨rfl, hob, hce, hrm⟩
      go_wp2
      obtain ⟨hkp, how, hro, hcur⟩ := K.out
      have hs1 : (wr.setCell ⟨b, j * 2, none⟩ (.int .i64 (k + (offG cK ks j : Int)))).heap.size = wr.heap.size := by simp [World.setCell]
      have cb : ∀ o, w1.cell? ⟨b, o, none⟩ = (wr.setCell ⟨b, j * 2, none⟩ (.int .i64 (k + (offG cK ks j : Int)))).cell? ⟨b, o, none⟩ := fun o => World.cell?_of_block (a := ⟨b, o, none⟩) (hob.block b (fun e => hgn e.symm))
      refine ⟨⟨j + 1, by omega, by simp, by rw [hoff.out]; simp [cK]; omega, ?_, ?_, ?_⟩, by simp [intOf]; omega⟩
      · exact (hkp.trans (KeptP.of_set wr _ (.inl rfl))).trans (KeptP.of_only hob (.inr ⟨j, hlt, rfl⟩))
      · rw [mix_succ _ _ _ (by rw [HO.out.2.2.2.2]; exact hlt)]
        refine how.set AtK.of_block hcur (by simp [lnK, mkK, mkCells_len]) (by omega) (by intro r; simp [hdK]) (by rw [hob.size, hs1]; exact Nat.le_refl _) (fun x _ hx hg => (hob.block x hg).trans (Below.heap_setCell _ _ _ _ hx)) (fun o ho => ?_) (fun t z hz => ?_) ⟨by rw [mkK]; exact hce, by simp only [mkK, mkCells_len]; exact hrm⟩
        · rw [cb o, cell_set_other (by omega)]
        · have ht0 : t = 0 := by
            have := (List.getElem?_eq_some_iff.1 hz).1
            simp [hdK] at this; exact this
          subst ht0
          simp [hdK, mkK] at hz
          subst hz
          rw [Nat.add_zero, cb]
          exact cell_set_same d0
      · exact (hro.set _).of_block (hob.block b (fun e => hgn e.symm))
    · have : j = n := by omega
      subst this
      have hd : decide ((j : Int) < (j : Int)) = false := by simp
      have hkl : ks.length = j := HO.out.2.2.2.2
      have K : Hid (KeptP (OfRow b j g) w wr ∧ OwnG 2 hdK lnK AtK wr 0 b j (mkKs ks k) g ∧ Room wr b (j * 2)) := ⟨hkp, by
        have := mix_all (mkK ks k) ks
        rw [hkl] at this
        rw [this, ← hkl] at how
        rw [← hkl]; exact how, hro⟩
      have H : Hid (ks.length = j) := hkl
      clear hkp how hro hkl
      go_wp2
      go_ret
      exact ⟨by rw [H.out]; rfl, K.out.1, K.out.2.1, K.out.2.2⟩
set_option maxHeartbeats 4000000 in
theorem markRecordS_own (w : World) (b n cap : Nat) (ks : List R4) (g : Nat → Nat) (k : Int) (hk : 0 ≤ k) (hk' : k ≤ 500000000) (ht : offG cR ks ks.length ≤ 100000000) (hn : n ≤ 1048576) (hl : ∀ c ∈ ks, c.sets.length ≤ 1048576) (hbw : b < w.heap.size) (hr : Room w b (n * 4)) (ho : OwnG 4 hdR lnR AtR w 0 b n ks g) :
    Calls Try.prog 78 #[.slice (some ⟨b, 0, none⟩) n cap, .int .i64 k] w fun e w' => e = .returned (.int .i64 (k + offG cR ks ks.length)) ∧ KeptP (OfRow b n g) w w' ∧ OwnG 4 hdR lnR AtR w' 0 b n (mkRs ks k) g ∧ Room w' b (n * 4) := by
  have hlen := ho.len
  have HO : Hid (OwnG 4 hdR lnR AtR w 0 b n ks g ∧ Room w b (n * 4) ∧ b < w.heap.size ∧ (∀ c ∈ ks, c.sets.length ≤ 1048576) ∧ ks.length = n) := ⟨ho, hr, hbw, hl, hlen⟩
  clear ho hr hbw hl hlen
  go_enter Try.func78, Try.ntmps78
  go_wp2
  go_loopw [1, 5] (fun v1 v5 wr => ∃ j : Nat, j ≤ n ∧ v5 = .int .i64 j ∧ v1 = .int .i64 (k + (offG cR ks j : Int)) ∧ KeptP (OfRow b n g) w wr ∧ OwnG 4 hdR lnR AtR wr 0 b n (mix (mkR ks k) ks j) g ∧ Room wr b (n * 4)) (fun _ v5 _ => n - (intOf v5).toNat)
  case atStart => exact ⟨0, Nat.zero_le _, rfl, by rw [offG_zero]; simp, KeptP.refl _ _, by rw [mix_zero]; exact HO.out.1, HO.out.2.1⟩
  case round =>
    obtain ⟨j, hj, rfl, rfl, hkp, how, hro⟩ := hrel
    have hb2 := offG_le cR ks j
    by_cases hlt : j < n
    · have hks : ks[j]? = some (atR ks j) := atR_of (by rw [HO.out.2.2.2.2]; exact hlt)
      have hcur := mix_cur (mkR ks k) ks j hks
      obtain ⟨v0, d0, f0⟩ := hro (j * 4) (by omega)
      obtain ⟨v1, d1, f1⟩ := hro (j * 4 + 1) (by omega)
      obtain ⟨v2, d2, f2⟩ := hro (j * 4 + 2) (by omega)
      obtain ⟨cap', c1, hcp⟩ := how.tail j _ hcur
      have hat := how.sub j _ hcur
      have hgn := how.ne j hlt
      have hgl := how.lt j hlt
      have hln : (atR ks j).sets.length ≤ 1048576 := HO.out.2.2.2.1 _ (List.mem_of_getElem? hks)
      have hoff : Hid (offG cR ks (j + 1) = offG cR ks j + cR (atR ks j)) := offG_succ cR hks
      have K : Hid (KeptP (OfRow b n g) w wr ∧ OwnG 4 hdR lnR AtR wr 0 b n (mix (mkR ks k) ks j) g ∧ Room wr b (n * 4) ∧ (mix (mkR ks k) ks j)[j]? = some (atR ks j)) := ⟨hkp, how, hro, hcur⟩
      obtain ⟨X, hX⟩ : ∃ X, X = ((wr.setCell ⟨b, j * 4, none⟩ (.int .i64 (k + (offG cR ks j : Int)))).setCell ⟨b, j * 4 + 1, none⟩ (.int .i64 (k + (offG cR ks j : Int) + 1))).setCell ⟨b, j * 4 + 2, none⟩ (.int .i64 (k + (offG cR ks j : Int) + 1 + 1)) := ⟨_, rfl⟩
      have hX' : OnlyBlock b wr X := by rw [hX]; exact (((OnlyBlock.refl b wr).setCell _ _).setCell _ _).setCell _ _
      have e0 : X.cell? ⟨b, j * 4, none⟩ = some (.int .i64 (k + (offG cR ks j : Int))) := by
        rw [hX, cell_set_other (by omega), cell_set_other (by omega)]; exact cell_set_same d0
      have e1 : X.cell? ⟨b, j * 4 + 1, none⟩ = some (.int .i64 (k + (offG cR ks j : Int) + 1)) := by
        rw [hX, cell_set_other (by omega)]; exact cell_set_same (by rw [cell_set_other (by omega)]; exact d1)
      have e2 : X.cell? ⟨b, j * 4 + 2, none⟩ = some (.int .i64 (k + (offG cR ks j : Int) + 1 + 1)) := by
        rw [hX]; exact cell_set_same (by rw [cell_set_other (by omega), cell_set_other (by omega)]; exact d2)
      have eo : ∀ o, (o < j * 4 ∨ j * 4 + 3 ≤ o) → X.cell? ⟨b, o, none⟩ = wr.cell? ⟨b, o, none⟩ := fun o ho => by
        rw [hX, cell_set_other (by omega), cell_set_other (by omega), cell_set_other (by omega)]
      have er : Room X b (n * 4) := by rw [hX]; exact ((hro.set _).set _).set _
      have hro' : Room X (g j) ((atR ks j).sets.length * 5) := hat.2.of_block (hX'.block _ hgn)
      have hm := markSetS_k X (g j) (atR ks j).sets.length cap' (k + (offG cR ks j : Int) + 1 + 1 + 1) hln (by omega) (by omega) hro'
      have KX : Hid (OnlyBlock b wr X ∧ X.cell? ⟨b, j * 4, none⟩ = some (.int .i64 (k + (offG cR ks j : Int))) ∧ X.cell? ⟨b, j * 4 + 1, none⟩ = some (.int .i64 (k + (offG cR ks j : Int) + 1)) ∧ X.cell? ⟨b, j * 4 + 2, none⟩ = some (.int .i64 (k + (offG cR ks j : Int) + 1 + 1)) ∧ (∀ o, (o < j * 4 ∨ j * 4 + 3 ≤ o) → X.cell? ⟨b, o, none⟩ = wr.cell? ⟨b, o, none⟩) ∧ Room X b (n * 4)) := ⟨hX', e0, e1, e2, eo, er⟩
      simp only [lnR, Nat.reduceSub] at c1
      clear hkp how hro hcur hat hro' hcp hks hX' e0 e1 e2 eo er
      subst hX
      go_wp2_with fail
      refine hm.mono ?_
      clear hm
      rintro e w1 ⟨rfl, hob, hce, hrm⟩
      go_wp2
      obtain ⟨hkp, how, hro, hcur⟩ := K.out
      obtain ⟨hX', e0, e1, e2, eo, er⟩ := KX.out
      generalize ((wr.setCell ⟨b, j * 4, none⟩ (.int .i64 (k + (offG cR ks j : Int)))).setCell ⟨b, j * 4 + 1, none⟩ (.int .i64 (k + (offG cR ks j : Int) + 1))).setCell ⟨b, j * 4 + 2, none⟩ (.int .i64 (k + (offG cR ks j : Int) + 1 + 1)) = X at *
      have cb : ∀ o, w1.cell? ⟨b, o, none⟩ = X.cell? ⟨b, o, none⟩ := fun o => World.cell?_of_block (a := ⟨b, o, none⟩) (hob.block b (fun e => hgn e.symm))
      refine ⟨⟨j + 1, by omega, by simp, by rw [hoff.out]; simp [cR]; omega, ?_, ?_, ?_⟩, by simp [intOf]; omega⟩
      · exact (hkp.trans (KeptP.of_only hX' (.inl rfl))).trans (KeptP.of_only hob (.inr ⟨j, hlt, rfl⟩))
      · rw [mix_succ _ _ _ (by rw [HO.out.2.2.2.2]; exact hlt)]
        refine how.set AtR.of_block hcur (by simp [lnR, mkR, mkSets_len]) (by omega) (by intro r; simp [hdR]) (by rw [hob.size, hX'.size]; exact Nat.le_refl _) (fun x _ hx hg => (hob.block x hg).trans (hX'.block _ hx)) (fun o ho => ?_) (fun t z hz => ?_) ⟨by rw [mkR]; exact hce, by simp only [mkR, mkSets_len]; exact hrm⟩
        · rw [cb o, eo o (by omega)]
        · have ht0 := (List.getElem?_eq_some_iff.1 hz).1
          simp [hdR] at ht0
          rw [cb]
          rcases t with _ | _ | _ | t
          · simp [hdR, mkR] at hz; subst hz; exact e0
          · simp [hdR, mkR] at hz; subst hz; exact e1
          · simp [hdR, mkR] at hz; subst hz; exact e2
          · omega
      · exact er.of_block (hob.block b (fun e => hgn e.symm))
    · have : j = n := by omega
      subst this
      have hd : decide ((j : Int) < (j : Int)) = false := by simp
      have hkl : ks.length = j := HO.out.2.2.2.2
      have K : Hid (KeptP (OfRow b j g) w wr ∧ OwnG 4 hdR lnR AtR wr 0 b j (mkRs ks k) g ∧ Room wr b (j * 4)) := ⟨hkp, by
        have := mix_all (mkR ks k) ks
        rw [hkl] at this
        rw [this, ← hkl] at how
        rw [← hkl]; exact how, hro⟩
      have H : Hid (ks.length = j) := hkl
      clear hkp how hro hkl
      go_wp2
      go_ret
      exact ⟨by rw [H.out]; rfl, K.out.1, K.out.2.1, K.out.2.2⟩
set_option maxHeartbeats 1000000 in
theorem markCopyS_nil (w : World) (a : Option Addr) (cap : Nat) (k : Int) : Calls Try.prog 77 #[.slice a 0 cap, .int .i64 k] w fun e w' => e = .returned (.int .i64 k) ∧ w' = w := by
  go_enter Try.func77, Try.ntmps77
  go_wp2
  go_loop [1, 5] (fun v1 v5 => v1 = .int .i64 k ∧ v5 = .int .i64 0) (fun _ _ => 0)
  case atStart => exact ⟨rfl, rfl⟩
  case round =>
    obtain ⟨rfl, rfl⟩ := hrel
    go_wp2
    go_ret
    exact ⟨rfl, rfl⟩
set_option maxHeartbeats 1000000 in
theorem markRecordS_nil (w : World) (a : Option Addr) (cap : Nat) (k : Int) : Calls Try.prog 78 #[.slice a 0 cap, .int .i64 k] w fun e w' => e = .returned (.int .i64 k) ∧ w' = w := by
  go_enter Try.func78, Try.ntmps78
  go_wp2
  go_loop [1, 5] (fun v1 v5 => v1 = .int .i64 k ∧ v5 = .int .i64 0) (fun _ _ => 0)
  case atStart => exact ⟨rfl, rfl⟩
  case round =>
    obtain ⟨rfl, rfl⟩ := hrel
    go_wp2
    go_ret
    exact ⟨rfl, rfl⟩
def leftR (l t : Nat) : Int := if t ≤ l then ((l - t : Nat) : Int) else -1
end Go.Proofs.Ytcbfnajpcaipkaa
namespace Go.Proofs.Ytcbfnajpcaipkaa
open Go.RowKit
open Go.Sort (grow)
theorem SetAt.regrown {w : World} {b o : Nat} {s : S5} (h : SetAt w b o s) (d : Nat) (os : Array Obj) : SetAt (grow (redrawn w d) os) b o s :=
  ⟨cell_regrown h.c0 d os, cell_regrown h.c1 d os, cell_regrown h.c2 d os, cell_regrown h.c3 d os, cell_regrown h.c4 d os⟩
set_option maxHeartbeats 1000000 in
theorem eqSet_same (w : World) (s : S5) : Calls Try.prog 87 #[.agg #[.int .i64 s.region, .int .i64 s.slot, .int .i64 s.value, .bool s.used, .int .i64 s.version], .agg #[.int .i64 s.region, .int .i64 s.slot, .int .i64 s.value, .bool s.used, .int .i64 s.version]] w fun e w' =>
    e = .returned (.bool true) ∧ Below w.heap.size w w' := by
  obtain ⟨r, l, v, u, x⟩ := s
  go_enter Try.func87, Try.ntmps87
  go_wp2
  go_ret
  exact ⟨rfl, ((Below.refl _ _).alloc (Nat.le_refl _) _).alloc (by simp) _⟩
set_option maxHeartbeats 1000000 in
theorem eqSetS_some (w : World) (b off cap b' off' cap' n : Nat) (xs : List S5) (hx : xs.length = n) (hn : n ≤ maxLen) (h1 : SetsAt w b off xs) (hb : b < w.heap.size) (h2 : SetsAt w b' off' xs) (hb' : b' < w.heap.size) :
    Calls Try.prog 56 #[.slice (some ⟨b, off, none⟩) n cap, .slice (some ⟨b', off', none⟩) n cap'] w fun e w' => e = .returned (.bool true) ∧ Below w.heap.size w w' := by
  unfold maxLen at hn
  go_enter Try.func56, Try.ntmps56
  go_wp2
  go_loopw [5] (fun i wr => ∃ k : Nat, k ≤ n ∧ i = .int .i64 k ∧ Below w.heap.size w wr) (fun i _ => n - (intOf i).toNat)
  case atStart => exact ⟨0, Nat.zero_le _, rfl, Below.refl _ _⟩
  case round =>
    obtain ⟨k, hk, rfl, hbl⟩ := hrel
    by_cases hlt : k < n
    · obtain ⟨s, hsk⟩ : ∃ s, xs[k]? = some s := ⟨xs[k]'(by omega), by simp⟩
      have t1 := (((h1 k s hsk).below hbl hb).regrown)
      have t2 := (((h2 k s hsk).below hbl hb').regrown)
      have c0 := fun d os => (t1 d os).c0
      have c1 := fun d os => (t1 d os).c1
      have c2 := fun d os => (t1 d os).c2
      have c3 := fun d os => (t1 d os).c3
      have c4 := fun d os => (t1 d os).c4
      have e0 := fun d os => (t2 d os).c0
      have e1 := fun d os => (t2 d os).c1
      have e2 := fun d os => (t2 d os).c2
      have e3 := fun d os => (t2 d os).c3
      have e4 := fun d os => (t2 d os).c4
      have cQ : ∀ d os, Calls Try.prog 87 #[.agg #[.int .i64 s.region, .int .i64 s.slot, .int .i64 s.value, .bool s.used, .int .i64 s.version], .agg #[.int .i64 s.region, .int .i64 s.slot, .int .i64 s.value, .bool s.used, .int .i64 s.version]] (grow (redrawn wr d) os) fun e w'' => e = .returned (.bool true) ∧ ∃ p : Regrown, w'' = grow (redrawn wr p.d) p.os := fun d os => Calls.regrown_of (eqSet_same _ s)
      have K : Hid (Below w.heap.size w wr) := hbl
      clear t1 t2 hbl hsk h1 h2
      go_wp2_with fail
      refine wp_region_quiet_below (by kernel_rfl) (by kernel_rfl) ?_
      repeat (quiet_step (exact cQ _ _))
      refine wpQuiet_nil ?_
      intro _ hw'
      obtain ⟨⟨dq, osq⟩, hw''⟩ := hw'
      subst hw''
      have bq := below_regrown wr dq osq
      go_wp2
      exact ⟨⟨k + 1, by omega, by simp, K.out.trans (bq.mono K.out.size)⟩, by simp [intOf]; omega⟩
    · have : k = n := by omega
      subst this
      have hd : decide (k < k) = false := by simp
      go_wp2
      go_ret
      exact ⟨rfl, hbl⟩
theorem eqSetS_none (w : World) (a a' : Option Addr) (cap cap' : Nat) : Calls Try.prog 56 #[.slice a 0 cap, .slice a' 0 cap'] w fun e w' => e = .returned (.bool true) ∧ Below w.heap.size w w' := by
  go_enter Try.func56, Try.ntmps56
  go_wp2
  go_loopw [5] (fun i wr => i = .int .i64 0 ∧ Below w.heap.size w wr) (fun _ _ => 0)
  case atStart => exact ⟨rfl, Below.refl _ _⟩
  case round =>
    obtain ⟨rfl, hbl⟩ := hrel
    go_wp2
    go_ret
    exact ⟨rfl, hbl⟩
theorem eqSetS_any (w : World) (a a' : Option Addr) (n cap cap' : Nat) (xs : List S5) (hn : n ≤ maxLen) (h1 : Sl w w.heap.size a n xs) (h2 : Sl w w.heap.size a' n xs) :
    Calls Try.prog 56 #[.slice a n cap, .slice a' n cap'] w fun e w' => e = .returned (.bool true) ∧ Below w.heap.size w w' := by
  obtain ⟨hx, h1⟩ := h1
  obtain ⟨_, h2⟩ := h2
  rcases h1 with rfl | ⟨b, off, rfl, hb, h1⟩
  · exact eqSetS_none w a a' cap cap'
  · rcases h2 with rfl | ⟨b', off', rfl, hb', h2⟩
    · exact eqSetS_none w _ a' cap cap'
    · exact eqSetS_some w b off cap b' off' cap' n xs hx hn h1 hb h2 hb'
set_option maxHeartbeats 1000000 in
theorem eqRecord_same (w : World) (k t r : Int) (a a' : Option Addr) (n cap cap' : Nat) (xs : List S5) (hn : n ≤ maxLen) (h1 : Sl w w.heap.size a n xs) (h2 : Sl w w.heap.size a' n xs) :
    Calls Try.prog 116 #[.agg #[.int .i64 k, .int .i64 t, .int .i64 r, .slice a n cap], .agg #[.int .i64 k, .int .i64 t, .int .i64 r, .slice a' n cap']] w fun e w' => e = .returned (.bool true) ∧ Below w.heap.size w w' := by
  go_enter Try.func116, Try.ntmps116
  go_wp2_with fail
  have b0 : Below w.heap.size w ((w.alloc (.cells #[.int .i64 k, .int .i64 t, .int .i64 r, .slice a n cap] 126)).alloc (.cells #[.int .i64 k, .int .i64 t, .int .i64 r, .slice a' n cap'] 126)) := ((Below.refl _ _).alloc (Nat.le_refl _) _).alloc (by simp) _
  refine (eqSetS_any _ a a' n cap cap' xs hn ((h1.below b0).mono b0.size) ((h2.below b0).mono b0.size)).mono ?_
  rintro e w' ⟨rfl, b1⟩
  go_wp2
  go_ret
  exact ⟨rfl, b0.trans (b1.mono b0.size)⟩
end Go.Proofs.Ytcbfnajpcaipkaa