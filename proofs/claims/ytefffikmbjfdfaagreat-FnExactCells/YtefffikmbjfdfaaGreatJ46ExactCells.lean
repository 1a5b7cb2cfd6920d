/- CluI7; CelD: joined. -/
import Derived.Test.YtefffikmbjfdfaaGreatRows
import Derived.Test.YtefffikmbjfdfaaGreatCluI6J
import Derived.Test.YtefffikmbjfdfaaGreatCluI1J
import Derived.Test.YtefffikmbjfdfaaGreatJ37ExactCells
import Derived.Test.YtefffikmbjfdfaaGreatJ45ExactCells
import Derived.WalkKit
import Derived.WalkSpells
import Derived.WalkLawsBesides
import Derived.Below
import Derived.Lib.QuietBelow
import Derived.BigQuiet
import Derived.Deep.CutRange
import Derived.Test.YtefffikmbjfdfaaGreatJ10ExactCells
/- impl.ClusterOk. -/
namespace Go.Proofs.YtefffikmbjfdfaaGreat
open Go.RowKit
open Go.Sort (grow)
set_option maxHeartbeats 1000000 in
theorem isConfig_any (w : World) (x : Int) : Calls Tryz.prog 40 #[.int .i64 x] w fun e w' => e = .returned (.bool (inB 1 1000000 x)) ∧ w' = w := by
  have hc := tx.implId w x
  go_enter Tryz.func40, Tryz.ntmps40
  go_wp2_with fail
  refine hc.mono ?_
  clear hc
  rintro e w1 ⟨rfl, rfl⟩
  go_wp2
  go_ret
  exact ⟨rfl, rfl⟩
theorem clusterB_eq (k : C6) : clusterB k = (inB 1 1000000 k.config && (inB 0 1000000 k.clock && ((decide (1 ≤ k.machines.length) && decide (k.machines.length ≤ 8) && machsB k.machines) && (placesB k.places && (placedB k.places k.machines && (decide (k.txs.length ≤ 60) && txsB k)))))) := by
  unfold clusterB
  ac_rfl
set_option maxRecDepth 100000 in
set_option maxHeartbeats 4000000 in
theorem implClusterOk_any (w : World) (a1 : Option Addr) (c1 : Nat) (a2 : Option Addr) (c2 : Nat) (a3 : Option Addr) (c3 : Nat) (k : C6) (hl : KCl.L k) (h : KCl.Rd w a1 c1 a2 c2 a3 c3 k) : Calls Tryz.prog 10 #[.agg #[.int .i64 k.config, .int .i64 k.clock, .slice a1 k.places.length c1, .slice a2 k.machines.length c2, .slice a3 k.txs.length c3, .bool k.lost]] w fun e w' => e = .returned (.bool (clusterB k)) ∧ Below w.heap.size w w' := by
  obtain ⟨U, hU⟩ : ∃ Y, Y = w.alloc (.cells #[.int .i64 k.config, .int .i64 k.clock, .slice a1 k.places.length c1, .slice a2 k.machines.length c2, .slice a3 k.txs.length c3, .bool k.lost] 33) := ⟨_, rfl⟩
  have b0 : Below w.heap.size w U := by rw [hU]; exact (Below.refl _ _).alloc (Nat.le_refl _) _
  have FA : Hid (Bx U w.heap.size [.int .i64 k.config, .int .i64 k.clock, .slice a1 k.places.length c1, .slice a2 k.machines.length c2, .slice a3 k.txs.length c3, .bool k.lost]) := by unfold Hid; rw [hU]; exact Bx.made w [.int .i64 k.config, .int .i64 k.clock, .slice a1 k.places.length c1, .slice a2 k.machines.length c2, .slice a3 k.txs.length c3, .bool k.lost] _
  have HR : Hid (KCl.Rd U a1 c1 a2 c2 a3 c3 k ∧ KCl.L k ∧ Below w.heap.size w U) := ⟨h.later b0, hl, b0⟩
  have HC : Hid (clusterB k = (inB 1 1000000 k.config && (inB 0 1000000 k.clock && ((decide (1 ≤ k.machines.length) && decide (k.machines.length ≤ 8) && machsB k.machines) && (placesB k.places && (placedB k.places k.machines && (decide (k.txs.length ≤ 60) && txsB k))))))) := clusterB_eq k
  have hc := isConfig_any U k.config
  clear b0 h hl
  go_enter Tryz.func10, Tryz.ntmps10
  go_wp2_with fail
  rw [← hU]
  clear hU
  refine hc.mono ?_
  clear hc
  rintro e w1 ⟨rfl, rfl⟩
  generalize w1 = U at *
  cases g1 : inB 1 1000000 k.config with
  | false =>
    have hb : Hid (clusterB k = false) := by unfold Hid; rw [HC.out, g1]; rfl
    go_wp2
    go_ret
    exact ⟨by rw [hb.out]; rfl, HR.out.2.2⟩
  | true =>
  have p1 := FA.out.1 1 _ rfl
  have hc := tx.implStamp U k.clock
  go_wp2_with fail
  refine hc.mono ?_
  clear hc p1
  rintro e w1 ⟨rfl, rfl⟩
  generalize w1 = U at *
  cases g2 : inB 0 1000000 k.clock with
  | false =>
    have hb : Hid (clusterB k = false) := by unfold Hid; rw [HC.out, g2]; simp
    go_wp2
    go_ret
    exact ⟨by rw [hb.out]; rfl, HR.out.2.2⟩
  | true =>
  have p3 := FA.out.1 3 _ rfl
  have hc := machinesOk_any U a2 c2 k.machines HR.out.2.1.m HR.out.2.1.ms HR.out.1.m
  go_wp2_with fail
  refine hc.mono ?_
  clear hc p3
  rintro e w1 ⟨rfl, b1⟩
  have B1 := hidOf b1
  clear b1
  cases g3 : (decide (1 ≤ k.machines.length) && decide (k.machines.length ≤ 8) && machsB k.machines) with
  | false =>
    have hb : Hid (clusterB k = false) := by unfold Hid; rw [HC.out, g3]; simp
    go_wp2
    go_ret
    exact ⟨by rw [hb.out]; rfl, bstep HR.out.2.2 B1.out⟩
  | true =>
  have p2 := (FA.out.later B1.out).1 2 _ rfl
  have hc := implPlacesOk_any w1 a1 k.places.length c1 k.places HR.out.2.1.p (HR.out.1.p.later B1.out)
  go_wp2_with fail
  refine hc.mono ?_
  clear hc p2
  rintro e w2 ⟨rfl, b2⟩
  have B2 : Hid (Below U.heap.size U w2) := bstep B1.out b2
  clear b2 B1
  generalize w1 = wA at *
  cases g4 : placesB k.places with
  | false =>
    have hb : Hid (clusterB k = false) := by unfold Hid; rw [HC.out, g4]; simp
    go_wp2
    go_ret
    exact ⟨by rw [hb.out]; rfl, bstep HR.out.2.2 B2.out⟩
  | true =>
  have HC2 : Hid (clusterB k = (placedB k.places k.machines && (decide (k.txs.length ≤ 60) && txsB k))) := by unfold Hid; rw [HC.out, g1, g2, g3, g4]; rfl
  have HG : Hid (k.machines.length ≤ 8 ∧ machsB k.machines = true ∧ placesB k.places = true) := by
    simp only [Bool.and_eq_true, decide_eq_true_eq] at g3
    exact ⟨g3.1.2, g3.2, g4⟩
  clear g1 g2 g3 g4 HC
  have SF : Hid (∀ X, Below U.heap.size U X → (fun X : World => Bx X w.heap.size [.int .i64 k.config, .int .i64 k.clock, .slice a1 k.places.length c1, .slice a2 k.machines.length c2, .slice a3 k.txs.length c3, .bool k.lost]) X) := fun X hX => FA.out.later hX
  go_wp2_with fail
  have bd : Below U.heap.size U w2.drew := B2.out.drew
  have hS := SF.out _ bd
  refine wp_region_z (fun z => z == 10) (fun X : World => Bx X w.heap.size [.int .i64 k.config, .int .i64 k.clock, .slice a1 k.places.length c1, .slice a2 k.machines.length c2, .slice a3 k.txs.length c3, .bool k.lost]) (by kernel_rfl) ?_
  generalize w2.drew = Wd at *
  refine wpZ_takeP (i := 0) (v := ?_) rfl (by kernel_rfl) (fun _ _ _ h => h) (Or.inl ⟨by rfl, ?_⟩) hS ?_
  rotate_left
  · (intro X _; go_simp; first | done | with_reducible rfl)
  simp only [Act.put]
  refine wpZ_take (i := 1) (v := ?_) rfl (by kernel_rfl) (fun _ _ _ h => h) (Or.inl ⟨by rfl, ?_⟩) hS ?_
  rotate_left
  · (intro X hSw; have c0 := hSw.1 0 _ rfl; have c1 := hSw.1 1 _ rfl; have c2 := hSw.1 2 _ rfl; have c3 := hSw.1 3 _ rfl; have c4 := hSw.1 4 _ rfl; have c5 := hSw.1 5 _ rfl; go_simp; first | done | with_reducible rfl)
  simp only [Act.put]
  refine wpZ_takeP (i := 2) (v := ?_) rfl (by kernel_rfl) (fun _ _ _ h => h) (Or.inl ⟨by rfl, ?_⟩) hS ?_
  rotate_left
  · (intro X _; go_simp; first | done | with_reducible rfl)
  simp only [Act.put]
  refine wpZ_take (i := 3) (v := ?_) rfl (by kernel_rfl) (fun _ _ _ h => h) (Or.inl ⟨by rfl, ?_⟩) hS ?_
  rotate_left
  · (intro X hSw; have c0 := hSw.1 0 _ rfl; have c1 := hSw.1 1 _ rfl; have c2 := hSw.1 2 _ rfl; have c3 := hSw.1 3 _ rfl; have c4 := hSw.1 4 _ rfl; have c5 := hSw.1 5 _ rfl; go_simp; first | done | with_reducible rfl)
  simp only [Act.put]
  refine wpZ_ready (rs := [4]) (by kernel_rfl) (by simp) ?_
  refine AllZ.cons rfl (fun K hK => ?_) AllZ.nil
  go_simp
  refine (membersOf_any Wd a2 c2 k.machines HG.out.1 (HR.out.1.m.later bd)).mono ?_
  rintro e X1 ⟨rfl, hma, hsz, b1⟩
  have bX := bstep bd b1
  refine hK.out _ _ (fun _ => SF.out _ bX) ?_
  clear hK K
  have hS := SF.out _ bX
  refine wpZ_ready (rs := [5]) (by kernel_rfl) (by simp) ?_
  refine AllZ.cons rfl (fun K hK => ?_) AllZ.nil
  go_simp
  refine (placed_any Wd X1 a1 c1 Wd.heap.size k.places k.machines HR.out.2.1.ms HG.out.2.1 HG.out.2.2 HR.out.2.1.p HR.out.2.1.ps b1 hsz hma (HR.out.1.p.later bX)).mono ?_
  rintro e X2 ⟨rfl, b2⟩
  have bY := bstep bX b2
  refine hK.out _ _ (fun _ => SF.out _ bY) ?_
  clear hK K
  have hS := SF.out _ bY
  cases g5 : placedB k.places k.machines with
  | false =>
    have hb : Hid (clusterB k = false) := by unfold Hid; rw [HC2.out, g5]; rfl
    refine wpZ_takeP (i := 6) (v := ?_) rfl (by kernel_rfl) (fun _ _ _ h => h) (Or.inl ⟨by rfl, ?_⟩) hS ?_
    rotate_left
    · (intro X _; go_simp; first | done | with_reducible rfl)
    simp only [Act.put]
    refine wpZ_takeP (i := 7) (v := undef) rfl (by kernel_rfl) (fun _ _ _ h => h) (Or.inr ⟨by rfl, rfl⟩) hS ?_
    simp only [Act.put]
    refine wpZ_takeP (i := 8) (v := undef) rfl (by kernel_rfl) (fun _ _ _ h => h) (Or.inr ⟨by rfl, rfl⟩) hS ?_
    simp only [Act.put]
    refine wpZ_takeP (i := 9) (v := ?_) rfl (by kernel_rfl) (fun _ _ _ h => h) (Or.inl ⟨by rfl, ?_⟩) hS ?_
    rotate_left
    · (intro X _; go_simp; first | done | with_reducible rfl)
    simp only [Act.put]
    refine wpZ_ready (rs := [10]) (by kernel_rfl) (by simp) ?_
    refine AllZ.cons rfl (fun K hK => ?_) AllZ.nil
    go_simp
    refine hK.out _ _ (fun h => absurd (show false = true from h.symm.trans (by kernel_rfl)) (by decide)) ?_
    clear hK K
    refine wpZ_done (by kernel_rfl) ?_ _
    go_wp2
    go_ret
    exact ⟨by rw [hb.out]; rfl, bstep HR.out.2.2 bY⟩
  | true =>
    have hb : Hid (clusterB k = (decide (k.txs.length ≤ 60) && txsB k)) := by unfold Hid; rw [HC2.out, g5]; rfl
    refine wpZ_takeP (i := 6) (v := ?_) rfl (by kernel_rfl) (fun _ _ _ h => h) (Or.inl ⟨by rfl, ?_⟩) hS ?_
    rotate_left
    · (intro X _; go_simp; first | done | with_reducible rfl)
    simp only [Act.put]
    refine wpZ_take (i := 7) (v := ?_) rfl (by kernel_rfl) (fun _ _ _ h => h) (Or.inl ⟨by rfl, ?_⟩) hS ?_
    rotate_left
    · (intro X hSw; have c0 := hSw.1 0 _ rfl; have c1 := hSw.1 1 _ rfl; have c2 := hSw.1 2 _ rfl; have c3 := hSw.1 3 _ rfl; have c4 := hSw.1 4 _ rfl; have c5 := hSw.1 5 _ rfl; go_simp; first | done | with_reducible rfl)
    simp only [Act.put]
    refine wpZ_ready (rs := [8]) (by kernel_rfl) (by simp) ?_
    refine AllZ.cons rfl (fun K hK => ?_) AllZ.nil
    go_simp
    refine (txsFit_any X2 a1 c1 a2 c2 a3 c3 k HR.out.2.1 (HR.out.1.later bY)).mono ?_
    rintro e X3 ⟨rfl, b3⟩
    have bZ := bstep bY b3
    refine hK.out _ _ (fun _ => SF.out _ bZ) ?_
    clear hK K
    have hS := SF.out _ bZ
    refine wpZ_takeP (i := 9) (v := ?_) rfl (by kernel_rfl) (fun _ _ _ h => h) (Or.inl ⟨by rfl, ?_⟩) hS ?_
    rotate_left
    · (intro X _; go_simp; first | done | with_reducible rfl)
    simp only [Act.put]
    refine wpZ_ready (rs := [10]) (by kernel_rfl) (by simp) ?_
    refine AllZ.cons rfl (fun K hK => ?_) AllZ.nil
    go_simp
    refine hK.out _ _ (fun h => absurd (show false = true from h.symm.trans (by kernel_rfl)) (by decide)) ?_
    clear hK K
    refine wpZ_done (by kernel_rfl) ?_ _
    go_wp2
    go_ret
    exact ⟨by rw [hb.out]; rfl, bstep HR.out.2.2 bZ⟩
end Go.Proofs.YtefffikmbjfdfaaGreat
/- What Cells answers. -/
namespace Go.Proofs.YtefffikmbjfdfaaGreat
open Go.RowKit
open Go.Sort (grow)
/-- The machine that is primary of region i. -/
def priM (k : C6) (i : Nat) : M4 := atM k.machines (atN (atP k.places i) 0).toNat
/-- The cells of a region, where there are any. -/
noncomputable def celO (k : C6) (y : Int) : Option (List C2) := if clusterB k = true ∧ 0 ≤ y ∧ y < (k.places.length : Int) ∧ (priM k y.toNat).alive = true then some (atK (priM k y.toNat).copies (idxC (priM k y.toNat) y).toNat).cells else none
noncomputable def celN (k : C6) (y : Int) : List C2 := (celO k y).getD []
noncomputable def celB (k : C6) (y : Int) : Bool := (celO k y).isSome
theorem cel_no {k : C6} {y : Int} (h : ¬ (clusterB k = true ∧ 0 ≤ y ∧ y < (k.places.length : Int) ∧ (priM k y.toNat).alive = true)) : celN k y = [] ∧ celB k y = false := ⟨by simp [celN, celO, h], by simp [celB, celO, h]⟩
theorem cel_yes {k : C6} {i : Nat} {j : Nat} (h1 : clusterB k = true) (h2 : i < k.places.length) (h3 : (priM k i).alive = true) (h4 : idxC (priM k i) (i : Int) = (j : Int)) : celN k (i : Int) = (atK (priM k i).copies j).cells ∧ celB k (i : Int) = true := by
  have h : clusterB k = true ∧ 0 ≤ (i : Int) ∧ (i : Int) < (k.places.length : Int) ∧ (priM k (i : Int).toNat).alive = true := ⟨h1, by omega, by omega, h3⟩
  have e : celO k (i : Int) = some (atK (priM k i).copies j).cells := by
    unfold celO
    rw [if_pos h]
    simp only [Int.toNat_natCast]
    rw [h4]
    rfl
  exact ⟨by rw [celN, e]; rfl, by rw [celB, e]; rfl⟩
theorem clu_pri {k : C6} (h : clusterB k = true) {i : Nat} (hi : i < k.places.length) : ∃ z : Nat, atN (atP k.places i) 0 = (z : Int) ∧ z < k.machines.length ∧ 0 < (atP k.places i).length ∧ priM k i = atM k.machines z ∧ machB (atM k.machines z) = true ∧ ((atM k.machines z).alive = true → hasC (atM k.machines z) (i : Int) = true) := by
  rw [clusterB_eq] at h
  simp only [Bool.and_eq_true, decide_eq_true_eq] at h
  obtain ⟨_, _, ⟨⟨_, _⟩, hm⟩, hp, hpl, _⟩ := h
  have hlen : 1 ≤ (atP k.places i).length := by
    have hp' := hp
    simp only [placesB, Bool.and_eq_true] at hp'
    have h1 := List.all_eq_true.1 hp'.2 i (List.mem_range.2 hi)
    simp only [placeB, Bool.and_eq_true, decide_eq_true_eq] at h1
    omega
  have hz := places_z hp hi (j := 0) (by omega)
  have hs := List.all_eq_true.1 (List.all_eq_true.1 hpl i (List.mem_range.2 hi)) 0 (List.mem_range.2 (by omega))
  obtain ⟨z, hz'⟩ : ∃ z : Nat, atN (atP k.places i) 0 = (z : Int) := ⟨_, (Int.toNat_of_nonneg hz.1).symm⟩
  simp only [servB, hz', Bool.and_eq_true, decide_eq_true_eq, Int.toNat_natCast] at hs
  have hzl : z < k.machines.length := by omega
  exact ⟨z, hz', hzl, by omega, by rw [priM, hz']; rfl, List.all_eq_true.1 hm z (List.mem_range.2 hzl), fun ha => by have := hs.2; rw [ha] at this; simpa using this⟩
/-- A row of cells of the call's own and a truth, answered. -/
def CAns (w : World) (N : List C2) (o : Bool) (e : Ending) (w' : World) : Prop := ∃ (a : Option Addr) (c : Nat) (P : Nat → Prop), e = .returned (.tuple #[.slice a N.length c, .bool o]) ∧ KC.Ow w' w.heap.size a c N P ∧ Below w.heap.size w w'
theorem CAns.zero {w w' : World} {k : C6} {y : Int} (hn : celN k y = [] ∧ celB k y = false) (a : Option Addr) (c : Nat) (h : Below w.heap.size w w') : CAns w (celN k y) (celB k y) (.returned (.tuple #[.slice a 0 c, .bool false])) w' := by
  rw [hn.1, hn.2]
  exact ⟨a, c, fun _ => False, rfl, ⟨.inl rfl, fun _ h => h.elim⟩, h⟩
theorem CAns.some {w w' : World} {k : C6} {y : Int} {xs : List C2} (hn : celN k y = xs ∧ celB k y = true) {q c : Nat} (h1 : w.heap.size ≤ q) (h2 : q < w'.heap.size) (h3 : CellsAt w' q 0 xs) (h4 : Room w' q (xs.length * 2)) (h : Below w.heap.size w w') : CAns w (celN k y) (celB k y) (.returned (.tuple #[.slice (some ⟨q, 0, none⟩) xs.length c, .bool true])) w' := by
  rw [hn.1, hn.2]
  exact ⟨_, c, fun x => x = q, rfl, ⟨.inr ⟨q, rfl, rfl, h3, h4⟩, fun x hx => by subst hx; exact ⟨h1, h2⟩⟩, h⟩
theorem celN_six (k : C6) (y : Int) : (celN k y).length ≤ 1048576 := by
  by_cases h : clusterB k = true ∧ 0 ≤ y ∧ y < (k.places.length : Int) ∧ (priM k y.toNat).alive = true
  · obtain ⟨i, rfl⟩ := Int.eq_ofNat_of_zero_le h.2.1
    simp only [Int.toNat_natCast] at h ⊢
    have hi : i < k.places.length := by omega
    obtain ⟨z, _, _, _, hp, hB, hh⟩ := clu_pri h.1 hi
    have hc := hh (by rw [← hp]; exact h.2.2.2)
    have hlt := idxC_lt (atM k.machines z) (i : Int)
    rw [hc] at hlt
    rcases idxC_first (atM k.machines z) (i : Int) with ⟨e, _⟩ | ⟨j, e, hj, _, _⟩
    · rw [e] at hlt; simp at hlt
    rw [(cel_yes (j := j) h.1 hi h.2.2.2 (by rw [hp]; exact e)).1, hp, mach_six hB _ (List.mem_of_getElem? (atK_of hj))]
    omega
  · rw [(cel_no h).1]; simp
end Go.Proofs.YtefffikmbjfdfaaGreat
