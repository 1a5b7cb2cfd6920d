/- CluI7; Cmp; FindT; DedD; DedO; DedP; SpcD; DedQ; ComI; KdMm: joined. -/
import Derived.Test.YtohcgfdnjgkfjaaGreatDoorRows
import Derived.Test.YtohcgfdnjgkfjaaGreatDoorJ11ExactCommit
import Derived.WalkKit
import Derived.WalkSpells
import Derived.WalkLawsBesides
import Derived.Below
import Derived.Lib.QuietBelow
import Derived.BigQuiet
import Derived.Deep.CutRange
import Derived.Test.YtohcgfdnjgkfjaaGreatDoorJ9ExactCommit
import Derived.Test.YtohcgfdnjgkfjaaGreatDoorJ10ExactCommit
import Derived.LaidEql
import Derived.Stop.Asserts
import Derived.RowKitTokens
import Derived.Deep.Upon
import Derived.Deep.RegionWith
import Derived.Test.YtohcgfdnjgkfjaaGreatDoorJ8ExactCommit
import Derived.Test.YtohcgfdnjgkfjaaGreatDoorJ3ExactCommit
namespace Go.Proofs.YtohcgfdnjgkfjaaGreatDoor
open Go.RowKit
open Go.Sort (grow)
set_option maxHeartbeats 1000000 in
theorem isConfig_any (w : World) (x : Int) : Calls Tryz.prog 189 #[.int .i64 x] w fun e w' => e = .returned (.bool (inB 1 1000000 x)) ∧ w' = w := by
  have hc := tx.implId w x
  go_enter Tryz.func189, Tryz.ntmps189
  go_wp2_with fail
  refine hc.mono ?_
  clear hc
  rintro e w1 ⟨rfl, rfl⟩
  go_wp2
  go_ret
  exact ⟨rfl, rfl⟩
theorem clusterB_eq (k : C6) : clusterB k = (inB 1 1000000 k.config && (inB 0 1000000 k.clock && ((decide (1 ≤ k.machines.length) && decide (k.machines.length ≤ 8) && machsB k.machines) && (placesB k.places && (placedB k.places k.machines && (decide (k.txs.length ≤ 60) && txsB k)))))) := by
  unfold clusterB
  ac_rfl
set_option maxRecDepth 100000 in
set_option maxHeartbeats 4000000 in
theorem implClusterOk_any (w : World) (a1 : Option Addr) (c1 : Nat) (a2 : Option Addr) (c2 : Nat) (a3 : Option Addr) (c3 : Nat) (k : C6) (hl : KCl.L k) (h : KCl.Rd w a1 c1 a2 c2 a3 c3 k) : Calls Tryz.prog 147 #[.agg #[.int .i64 k.config, .int .i64 k.clock, .slice a1 k.places.length c1, .slice a2 k.machines.length c2, .slice a3 k.txs.length c3, .bool k.lost]] w fun e w' => e = .returned (.bool (clusterB k)) ∧ Below w.heap.size w w' := by
  obtain ⟨U, hU⟩ : ∃ Y, Y = w.alloc (.cells #[.int .i64 k.config, .int .i64 k.clock, .slice a1 k.places.length c1, .slice a2 k.machines.length c2, .slice a3 k.txs.length c3, .bool k.lost] 32) := ⟨_, rfl⟩
  have b0 : Below w.heap.size w U := by rw [hU]; exact (Below.refl _ _).alloc (Nat.le_refl _) _
  have FA : Hid (Bx U w.heap.size [.int .i64 k.config, .int .i64 k.clock, .slice a1 k.places.length c1, .slice a2 k.machines.length c2, .slice a3 k.txs.length c3, .bool k.lost]) := by unfold Hid; rw [hU]; exact Bx.made w [.int .i64 k.config, .int .i64 k.clock, .slice a1 k.places.length c1, .slice a2 k.machines.length c2, .slice a3 k.txs.length c3, .bool k.lost] _
  have HR : Hid (KCl.Rd U a1 c1 a2 c2 a3 c3 k ∧ KCl.L k ∧ Below w.heap.size w U) := ⟨h.later b0, hl, b0⟩
  have HC : Hid (clusterB k = (inB 1 1000000 k.config && (inB 0 1000000 k.clock && ((decide (1 ≤ k.machines.length) && decide (k.machines.length ≤ 8) && machsB k.machines) && (placesB k.places && (placedB k.places k.machines && (decide (k.txs.length ≤ 60) && txsB k))))))) := clusterB_eq k
  have hc := isConfig_any U k.config
  clear b0 h hl
  go_enter Tryz.func147, Tryz.ntmps147
  go_wp2_with fail
  rw [← hU]
  clear hU
  refine hc.mono ?_
  clear hc
  rintro e w1 ⟨rfl, rfl⟩
  generalize w1 = U at *
  cases g1 : inB 1 1000000 k.config with
  | false =>
    have hb : Hid (clusterB k = false) := by unfold Hid; rw [HC.out, g1]; rfl
    go_wp2
    go_ret
    exact ⟨by rw [hb.out]; rfl, HR.out.2.2⟩
  | true =>
  have p1 := FA.out.1 1 _ rfl
  have hc := tx.implStamp U k.clock
  go_wp2_with fail
  refine hc.mono ?_
  clear hc p1
  rintro e w1 ⟨rfl, rfl⟩
  generalize w1 = U at *
  cases g2 : inB 0 1000000 k.clock with
  | false =>
    have hb : Hid (clusterB k = false) := by unfold Hid; rw [HC.out, g2]; simp
    go_wp2
    go_ret
    exact ⟨by rw [hb.out]; rfl, HR.out.2.2⟩
  | true =>
  have p3 := FA.out.1 3 _ rfl
  have hc := machinesOk_any U a2 c2 k.machines HR.out.2.1.m HR.out.2.1.ms HR.out.1.m
  go_wp2_with fail
  refine hc.mono ?_
  clear hc p3
  rintro e w1 ⟨rfl, b1⟩
  have B1 := hidOf b1
  clear b1
  cases g3 : (decide (1 ≤ k.machines.length) && decide (k.machines.length ≤ 8) && machsB k.machines) with
  | false =>
    have hb : Hid (clusterB k = false) := by unfold Hid; rw [HC.out, g3]; simp
    go_wp2
    go_ret
    exact ⟨by rw [hb.out]; rfl, bstep HR.out.2.2 B1.out⟩
  | true =>
  have p2 := (FA.out.later B1.out).1 2 _ rfl
  have hc := implPlacesOk_any w1 a1 k.places.length c1 k.places HR.out.2.1.p (HR.out.1.p.later B1.out)
  go_wp2_with fail
  refine hc.mono ?_
  clear hc p2
  rintro e w2 ⟨rfl, b2⟩
  have B2 : Hid (Below U.heap.size U w2) := bstep B1.out b2
  clear b2 B1
  generalize w1 = wA at *
  cases g4 : placesB k.places with
  | false =>
    have hb : Hid (clusterB k = false) := by unfold Hid; rw [HC.out, g4]; simp
    go_wp2
    go_ret
    exact ⟨by rw [hb.out]; rfl, bstep HR.out.2.2 B2.out⟩
  | true =>
  have HC2 : Hid (clusterB k = (placedB k.places k.machines && (decide (k.txs.length ≤ 60) && txsB k))) := by unfold Hid; rw [HC.out, g1, g2, g3, g4]; rfl
  have HG : Hid (k.machines.length ≤ 8 ∧ machsB k.machines = true ∧ placesB k.places = true) := by
    simp only [Bool.and_eq_true, decide_eq_true_eq] at g3
    exact ⟨g3.1.2, g3.2, g4⟩
  clear g1 g2 g3 g4 HC
  have SF : Hid (∀ X, Below U.heap.size U X → (fun X : World => Bx X w.heap.size [.int .i64 k.config, .int .i64 k.clock, .slice a1 k.places.length c1, .slice a2 k.machines.length c2, .slice a3 k.txs.length c3, .bool k.lost]) X) := fun X hX => FA.out.later hX
  go_wp2_with fail
  have bd : Below U.heap.size U w2.drew := B2.out.drew
  have hS := SF.out _ bd
  refine wp_region_z (fun z => z == 10) (fun X : World => Bx X w.heap.size [.int .i64 k.config, .int .i64 k.clock, .slice a1 k.places.length c1, .slice a2 k.machines.length c2, .slice a3 k.txs.length c3, .bool k.lost]) (by kernel_rfl) ?_
  generalize w2.drew = Wd at *
  refine wpZ_takeP (i := 0) (v := ?_) rfl (by kernel_rfl) (fun _ _ _ h => h) (Or.inl ⟨by rfl, ?_⟩) hS ?_
  rotate_left
  · (intro X _; go_simp; first | done | with_reducible rfl)
  simp only [Act.put]
  refine wpZ_take (i := 1) (v := ?_) rfl (by kernel_rfl) (fun _ _ _ h => h) (Or.inl ⟨by rfl, ?_⟩) hS ?_
  rotate_left
  · (intro X hSw; have c0 := hSw.1 0 _ rfl; have c1 := hSw.1 1 _ rfl; have c2 := hSw.1 2 _ rfl; have c3 := hSw.1 3 _ rfl; have c4 := hSw.1 4 _ rfl; have c5 := hSw.1 5 _ rfl; go_simp; first | done | with_reducible rfl)
  simp only [Act.put]
  refine wpZ_takeP (i := 2) (v := ?_) rfl (by kernel_rfl) (fun _ _ _ h => h) (Or.inl ⟨by rfl, ?_⟩) hS ?_
  rotate_left
  · (intro X _; go_simp; first | done | with_reducible rfl)
  simp only [Act.put]
  refine wpZ_take (i := 3) (v := ?_) rfl (by kernel_rfl) (fun _ _ _ h => h) (Or.inl ⟨by rfl, ?_⟩) hS ?_
  rotate_left
  · (intro X hSw; have c0 := hSw.1 0 _ rfl; have c1 := hSw.1 1 _ rfl; have c2 := hSw.1 2 _ rfl; have c3 := hSw.1 3 _ rfl; have c4 := hSw.1 4 _ rfl; have c5 := hSw.1 5 _ rfl; go_simp; first | done | with_reducible rfl)
  simp only [Act.put]
  refine wpZ_ready (rs := [4]) (by kernel_rfl) (by simp) ?_
  refine AllZ.cons rfl (fun K hK => ?_) AllZ.nil
  go_simp
  refine (membersOf_any Wd a2 c2 k.machines HG.out.1 (HR.out.1.m.later bd)).mono ?_
  rintro e X1 ⟨rfl, hma, hsz, b1⟩
  have bX := bstep bd b1
  refine hK.out _ _ (fun _ => SF.out _ bX) ?_
  clear hK K
  have hS := SF.out _ bX
  refine wpZ_ready (rs := [5]) (by kernel_rfl) (by simp) ?_
  refine AllZ.cons rfl (fun K hK => ?_) AllZ.nil
  go_simp
  refine (placed_any Wd X1 a1 c1 Wd.heap.size k.places k.machines HR.out.2.1.ms HG.out.2.1 HG.out.2.2 HR.out.2.1.p HR.out.2.1.ps b1 hsz hma (HR.out.1.p.later bX)).mono ?_
  rintro e X2 ⟨rfl, b2⟩
  have bY := bstep bX b2
  refine hK.out _ _ (fun _ => SF.out _ bY) ?_
  clear hK K
  have hS := SF.out _ bY
  cases g5 : placedB k.places k.machines with
  | false =>
    have hb : Hid (clusterB k = false) := by unfold Hid; rw [HC2.out, g5]; rfl
    refine wpZ_takeP (i := 6) (v := ?_) rfl (by kernel_rfl) (fun _ _ _ h => h) (Or.inl ⟨by rfl, ?_⟩) hS ?_
    rotate_left
    · (intro X _; go_simp; first | done | with_reducible rfl)
    simp only [Act.put]
    refine wpZ_takeP (i := 7) (v := undef) rfl (by kernel_rfl) (fun _ _ _ h => h) (Or.inr ⟨by rfl, rfl⟩) hS ?_
    simp only [Act.put]
    refine wpZ_takeP (i := 8) (v := undef) rfl (by kernel_rfl) (fun _ _ _ h => h) (Or.inr ⟨by rfl, rfl⟩) hS ?_
    simp only [Act.put]
    refine wpZ_takeP (i := 9) (v := ?_) rfl (by kernel_rfl) (fun _ _ _ h => h) (Or.inl ⟨by rfl, ?_⟩) hS ?_
    rotate_left
    · (intro X _; go_simp; first | done | with_reducible rfl)
    simp only [Act.put]
    refine wpZ_ready (rs := [10]) (by kernel_rfl) (by simp) ?_
    refine AllZ.cons rfl (fun K hK => ?_) AllZ.nil
    go_simp
    refine hK.out _ _ (fun h => absurd (show false = true from h.symm.trans (by kernel_rfl)) (by decide)) ?_
    clear hK K
    refine wpZ_done (by kernel_rfl) ?_ _
    go_wp2
    go_ret
    exact ⟨by rw [hb.out]; rfl, bstep HR.out.2.2 bY⟩
  | true =>
    have hb : Hid (clusterB k = (decide (k.txs.length ≤ 60) && txsB k)) := by unfold Hid; rw [HC2.out, g5]; rfl
    refine wpZ_takeP (i := 6) (v := ?_) rfl (by kernel_rfl) (fun _ _ _ h => h) (Or.inl ⟨by rfl, ?_⟩) hS ?_
    rotate_left
    · (intro X _; go_simp; first | done | with_reducible rfl)
    simp only [Act.put]
    refine wpZ_take (i := 7) (v := ?_) rfl (by kernel_rfl) (fun _ _ _ h => h) (Or.inl ⟨by rfl, ?_⟩) hS ?_
    rotate_left
    · (intro X hSw; have c0 := hSw.1 0 _ rfl; have c1 := hSw.1 1 _ rfl; have c2 := hSw.1 2 _ rfl; have c3 := hSw.1 3 _ rfl; have c4 := hSw.1 4 _ rfl; have c5 := hSw.1 5 _ rfl; go_simp; first | done | with_reducible rfl)
    simp only [Act.put]
    refine wpZ_ready (rs := [8]) (by kernel_rfl) (by simp) ?_
    refine AllZ.cons rfl (fun K hK => ?_) AllZ.nil
    go_simp
    refine (txsFit_any X2 a1 c1 a2 c2 a3 c3 k HR.out.2.1 (HR.out.1.later bY)).mono ?_
    rintro e X3 ⟨rfl, b3⟩
    have bZ := bstep bY b3
    refine hK.out _ _ (fun _ => SF.out _ bZ) ?_
    clear hK K
    have hS := SF.out _ bZ
    refine wpZ_takeP (i := 9) (v := ?_) rfl (by kernel_rfl) (fun _ _ _ h => h) (Or.inl ⟨by rfl, ?_⟩) hS ?_
    rotate_left
    · (intro X _; go_simp; first | done | with_reducible rfl)
    simp only [Act.put]
    refine wpZ_ready (rs := [10]) (by kernel_rfl) (by simp) ?_
    refine AllZ.cons rfl (fun K hK => ?_) AllZ.nil
    go_simp
    refine hK.out _ _ (fun h => absurd (show false = true from h.symm.trans (by kernel_rfl)) (by decide)) ?_
    clear hK K
    refine wpZ_done (by kernel_rfl) ?_ _
    go_wp2
    go_ret
    exact ⟨by rw [hb.out]; rfl, bstep HR.out.2.2 bZ⟩
end Go.Proofs.YtohcgfdnjgkfjaaGreatDoor
namespace Go.Proofs.YtohcgfdnjgkfjaaGreatDoor
open Go.RowKit
theorem nan_any (w : World) (x : Int) : Calls Tryz.prog 242 #[.int .i64 x] w fun e w' => e = .returned (.bool false) ∧ w' = w := by
  have h : (x != x) = false := by simp
  go_enter Tryz.func242, Tryz.ntmps242
  go_wp2
  go_ret
  exact ⟨rfl, rfl⟩
def cmpI (x y : Int) : Int := if x < y then -1 else if y < x then 1 else 0
theorem compare_any (w : World) (x y : Int) : Calls Tryz.prog 203 #[.int .i64 x, .int .i64 y] w fun e w' => e = .returned (.int .i64 (cmpI x y)) ∧ w' = w := by
  by_cases h1 : x < y
  · have e : cmpI x y = -1 := if_pos h1
    rw [e]
    go_enter Tryz.func203, Tryz.ntmps203
    go_wp2_with (go_at_call 242; refine (nan_any _ _).mono ?_; rintro e w' ⟨rfl, rfl⟩)
    go_ret
    exact ⟨rfl, rfl⟩
  · have d1 : decide (x < y) = false := by simp; omega
    by_cases h2 : y < x
    · have e : cmpI x y = 1 := by rw [cmpI, if_neg h1, if_pos h2]
      have d2 : decide (y < x) = true := by simp [h2]
      rw [e]
      clear h1
      go_enter Tryz.func203, Tryz.ntmps203
      go_wp2_with (go_at_call 242; refine (nan_any _ _).mono ?_; rintro e w' ⟨rfl, rfl⟩)
      go_ret
      exact ⟨rfl, rfl⟩
    · have e : cmpI x y = 0 := by rw [cmpI, if_neg h1, if_neg h2]
      have d2 : decide (y < x) = false := by simp; omega
      rw [e]
      clear h1 h2
      go_enter Tryz.func203, Tryz.ntmps203
      go_wp2_with (go_at_call 242; refine (nan_any _ _).mono ?_; rintro e w' ⟨rfl, rfl⟩)
      go_ret
      exact ⟨rfl, rfl⟩
end Go.Proofs.YtohcgfdnjgkfjaaGreatDoor
namespace Go.Proofs.YtohcgfdnjgkfjaaGreatDoor
open Go.RowKit
open Go.Sort (grow)
set_option maxHeartbeats 1000000 in
theorem byId_any (w : World) (t0 : Option Addr) (t1 : Nat) (t2 : Option Addr) (t3 : Nat) (t : tx.T7) (y : Int) : Calls Tryz.prog 202 #[.agg #[.int .i64 t.id, .int .i64 t.home, .int .i64 t.phase, .int .i64 t.count, .slice t0 t.reads.length t1, .slice t2 t.sets.length t3, .int .i64 t.stamp], .int .i64 y] w fun e w' => e = .returned (.int .i64 (cmpI t.id y)) ∧ Below w.heap.size w w' := by
  have b0 : Below w.heap.size w (w.alloc (.cells #[.int .i64 t.id, .int .i64 t.home, .int .i64 t.phase, .int .i64 t.count, .slice t0 t.reads.length t1, .slice t2 t.sets.length t3, .int .i64 t.stamp] 56)) := (Below.refl _ _).alloc (Nat.le_refl _) _
  go_enter Tryz.func202, Tryz.ntmps202
  go_wp2_with (go_at_call 203; refine (compare_any _ _ _).mono ?_; rintro e w' ⟨rfl, rfl⟩)
  go_ret
  exact ⟨rfl, b0⟩
def UpI (ts : List tx.T7) : Prop := ∀ i j, i < j → j < ts.length → (atT ts i).id < (atT ts j).id
theorem UpI.of_all {ts : List tx.T7} (h : (List.range ts.length).all (upT ts) = true) : UpI ts := by
  intro i j hij hj
  induction j with
  | zero => omega
  | succ j ih =>
    have h2 := List.all_eq_true.1 h (j + 1) (List.mem_range.2 hj)
    simp [upT] at h2
    by_cases e : i = j
    · rw [e]; exact h2
    · have := ih (by omega) (by omega); omega
structure PosT (ts : List tx.T7) (y : Int) (i : Nat) : Prop where
  le : i ≤ ts.length
  lo : ∀ t, t < i → (atT ts t).id < y
  hi : ∀ t, i ≤ t → t < ts.length → y ≤ (atT ts t).id
def foundT (ts : List tx.T7) (y : Int) (i : Nat) : Bool := decide (i < ts.length) && decide ((atT ts i).id = y)
set_option maxRecDepth 100000 in
set_option maxHeartbeats 4000000 in
theorem bsearchT_any (w : World) (a : Option Addr) (cap : Nat) (ts : List tx.T7) (y : Int) (hn : ts.length ≤ 1000) (hu : UpI ts) (hs : KTk.RdS w a ts) :
    Calls Tryz.prog 204 #[.slice a ts.length cap, .int .i64 y, .func (.func 202) #[] #[]] w fun e w' => ∃ i : Nat, e = .returned (.tuple #[.int .i64 i, .bool (foundT ts y i)]) ∧ PosT ts y i ∧ Below w.heap.size w w' := by
  have HU : Hid (UpI ts) := hu
  clear hu
  go_enter Tryz.func204, Tryz.ntmps204
  go_wp2
  go_loopw [9, 10] (fun v9 v10 wr => ∃ i j : Nat, i ≤ j ∧ j ≤ ts.length ∧ v9 = .int .i64 i ∧ v10 = .int .i64 j ∧ Below w.heap.size w wr ∧ (∀ t, t < i → (atT ts t).id < y) ∧ (∀ t, j ≤ t → t < ts.length → y ≤ (atT ts t).id)) (fun v9 v10 _ => (intOf v10).toNat - (intOf v9).toNat)
  case atStart => exact ⟨0, ts.length, Nat.zero_le _, Nat.le_refl _, rfl, rfl, Below.refl _ _, fun t h => by omega, fun t h1 h2 => by omega⟩
  case round =>
    obtain ⟨i, j, hij, hjn, rfl, rfl, hbl, hlo, hhi⟩ := hrel
    by_cases hlt : i < j
    · have hd : (i + j) / 2 < ts.length := by omega
      rcases hs with hs | ⟨b, off, rfl, hb, h1⟩
      · rw [hs] at hd; simp at hd
      obtain ⟨⟨t0, t1, t2, t3⟩, hat, hrd⟩ := h1 ((i + j) / 2) _ (atT_of hd)
      have e0 : wr.cell? ⟨b, off + ((i + j) / 2) * 7, none⟩ = some (.int .i64 (atT ts ((i + j) / 2)).id) := (hbl.cell (p := ⟨b, off + ((i + j) / 2) * 7, none⟩) hb).trans (hat 0 _ rfl)
      have e1 : wr.cell? ⟨b, off + ((i + j) / 2) * 7 + 1, none⟩ = some (.int .i64 (atT ts ((i + j) / 2)).home) := (hbl.cell (p := ⟨b, off + ((i + j) / 2) * 7 + 1, none⟩) hb).trans (hat 1 _ rfl)
      have e2 : wr.cell? ⟨b, off + ((i + j) / 2) * 7 + 2, none⟩ = some (.int .i64 (atT ts ((i + j) / 2)).phase) := (hbl.cell (p := ⟨b, off + ((i + j) / 2) * 7 + 2, none⟩) hb).trans (hat 2 _ rfl)
      have e3 : wr.cell? ⟨b, off + ((i + j) / 2) * 7 + 3, none⟩ = some (.int .i64 (atT ts ((i + j) / 2)).count) := (hbl.cell (p := ⟨b, off + ((i + j) / 2) * 7 + 3, none⟩) hb).trans (hat 3 _ rfl)
      have e4 : wr.cell? ⟨b, off + ((i + j) / 2) * 7 + 4, none⟩ = some (.slice t0 (atT ts ((i + j) / 2)).reads.length t1) := (hbl.cell (p := ⟨b, off + ((i + j) / 2) * 7 + 4, none⟩) hb).trans (hat 4 _ rfl)
      have e5 : wr.cell? ⟨b, off + ((i + j) / 2) * 7 + 5, none⟩ = some (.slice t2 (atT ts ((i + j) / 2)).sets.length t3) := (hbl.cell (p := ⟨b, off + ((i + j) / 2) * 7 + 5, none⟩) hb).trans (hat 5 _ rfl)
      have e6 : wr.cell? ⟨b, off + ((i + j) / 2) * 7 + 6, none⟩ = some (.int .i64 (atT ts ((i + j) / 2)).stamp) := (hbl.cell (p := ⟨b, off + ((i + j) / 2) * 7 + 6, none⟩) hb).trans (hat 6 _ rfl)
      have K : Hid (Below w.heap.size w wr ∧ (∀ t, t < i → (atT ts t).id < y) ∧ (∀ t, j ≤ t → t < ts.length → y ≤ (atT ts t).id)) := ⟨hbl, hlo, hhi⟩
      have hc := byId_any wr t0 t1 t2 t3 (atT ts ((i + j) / 2)) y
      clear h1 hat hrd hbl hlo hhi
      have HI : Hid (∀ t, t ≤ (i + j) / 2 → (atT ts t).id ≤ (atT ts ((i + j) / 2)).id) := fun t ht => by
        by_cases e : t = (i + j) / 2
        · rw [e]; exact Int.le_refl _
        · exact Int.le_of_lt (HU.out t _ (by omega) hd)
      have HJ : Hid (∀ t, (i + j) / 2 ≤ t → t < ts.length → (atT ts ((i + j) / 2)).id ≤ (atT ts t).id) := fun t ht htn => by
        by_cases e : t = (i + j) / 2
        · rw [e]; exact Int.le_refl _
        · exact Int.le_of_lt (HU.out _ t (by omega) htn)
      generalize (atT ts ((i + j) / 2)).id = x at *
      by_cases hq : x < y
      · rw [show cmpI x y = -1 from if_pos hq] at hc
        have HQ := hidOf hq
        clear hq
        go_wp2_with fail
        refine hc.mono ?_
        clear hc e0 e1 e2 e3 e4 e5 e6
        rintro e w1 ⟨rfl, b1⟩
        go_wp2
        exact ⟨⟨(i + j) / 2 + 1, j, by omega, hjn, by simp, rfl, K.out.1.trans (b1.mono K.out.1.size), fun t ht => by have := HI.out t (by omega); have := HQ.out; omega, K.out.2.2⟩, by simp [intOf]; omega⟩
      · have hc0 : decide (cmpI x y < 0) = false := by
          rw [cmpI, if_neg hq]
          by_cases h2 : y < x
          · rw [if_pos h2]; rfl
          · rw [if_neg h2]; rfl
        have HQ := hidOf hq
        clear hq
        generalize cmpI x y = cv at *
        go_wp2_with fail
        refine hc.mono ?_
        clear hc e0 e1 e2 e3 e4 e5 e6
        rintro e w1 ⟨rfl, b1⟩
        go_wp2
        exact ⟨⟨i, (i + j) / 2, by omega, by omega, rfl, by simp, K.out.1.trans (b1.mono K.out.1.size), K.out.2.1, fun t ht htn => by have := HJ.out t ht htn; have := HQ.out; omega⟩, by simp [intOf]; omega⟩
    · obtain rfl : i = j := by omega
      have hd : decide ((i : Int) < (i : Int)) = false := by simp
      have HP : Hid (PosT ts y i) := ⟨hjn, hlo, hhi⟩
      clear hlo hhi
      by_cases hin : i < ts.length
      · rcases hs with hs | ⟨b, off, rfl, hb, h1⟩
        · rw [hs] at hin; simp at hin
        obtain ⟨⟨t0, t1, t2, t3⟩, hat, hrd⟩ := h1 i _ (atT_of hin)
        have e0 : wr.cell? ⟨b, off + i * 7, none⟩ = some (.int .i64 (atT ts i).id) := (hbl.cell (p := ⟨b, off + i * 7, none⟩) hb).trans (hat 0 _ rfl)
        have e1 : wr.cell? ⟨b, off + i * 7 + 1, none⟩ = some (.int .i64 (atT ts i).home) := (hbl.cell (p := ⟨b, off + i * 7 + 1, none⟩) hb).trans (hat 1 _ rfl)
        have e2 : wr.cell? ⟨b, off + i * 7 + 2, none⟩ = some (.int .i64 (atT ts i).phase) := (hbl.cell (p := ⟨b, off + i * 7 + 2, none⟩) hb).trans (hat 2 _ rfl)
        have e3 : wr.cell? ⟨b, off + i * 7 + 3, none⟩ = some (.int .i64 (atT ts i).count) := (hbl.cell (p := ⟨b, off + i * 7 + 3, none⟩) hb).trans (hat 3 _ rfl)
        have e4 : wr.cell? ⟨b, off + i * 7 + 4, none⟩ = some (.slice t0 (atT ts i).reads.length t1) := (hbl.cell (p := ⟨b, off + i * 7 + 4, none⟩) hb).trans (hat 4 _ rfl)
        have e5 : wr.cell? ⟨b, off + i * 7 + 5, none⟩ = some (.slice t2 (atT ts i).sets.length t3) := (hbl.cell (p := ⟨b, off + i * 7 + 5, none⟩) hb).trans (hat 5 _ rfl)
        have e6 : wr.cell? ⟨b, off + i * 7 + 6, none⟩ = some (.int .i64 (atT ts i).stamp) := (hbl.cell (p := ⟨b, off + i * 7 + 6, none⟩) hb).trans (hat 6 _ rfl)
        have hc := byId_any wr t0 t1 t2 t3 (atT ts i) y
        have HF : Hid (foundT ts y i = decide ((atT ts i).id = y) ∧ Below w.heap.size w wr) := ⟨by simp [foundT, hin], hbl⟩
        clear h1 hat hrd hbl
        generalize (atT ts i).id = x at *
        have he : (cmpI x y == 0) = decide (x = y) := by
          unfold cmpI
          by_cases h1 : x < y
          · rw [if_pos h1]; simp; omega
          · rw [if_neg h1]
            by_cases h2 : y < x
            · rw [if_pos h2]; simp; omega
            · rw [if_neg h2]; simp; omega
        generalize cmpI x y = cv at *
        go_wp2_with fail
        refine hc.mono ?_
        clear hc e0 e1 e2 e3 e4 e5 e6
        rintro e w1 ⟨rfl, b1⟩
        have HE := hidOf he
        clear he
        go_wp2
        refine bodyPost_ret (v := .tuple #[.int .i64 i, .bool (cv == 0)]) (by simp [results, Tryz.results204, go_sem]) rfl ⟨i, by rw [HF.out.1, ← HE.out], HP.out, HF.out.2.trans (b1.mono HF.out.2.size)⟩
      · have hdn : decide ((i : Int) < (ts.length : Int)) = false := by simp; omega
        have HF : Hid (foundT ts y i = false) := by unfold Hid; simp [foundT, hin]
        clear hs
        go_wp2
        refine bodyPost_ret (v := .tuple #[.int .i64 i, .bool false]) (by simp [results, Tryz.results204, go_sem]) rfl ⟨i, by rw [HF.out], HP.out, hbl⟩
def findO (k : C6) (y : Int) : Option tx.T7 := if clusterB k then k.txs.find? (fun t => decide (t.id = y)) else none
def zT : tx.T7 := ⟨0, 0, 0, 0, [], [], 0⟩
def findT (k : C6) (y : Int) : tx.T7 := (findO k y).getD zT
def findB (k : C6) (y : Int) : Bool := (findO k y).isSome
theorem atT_eq {ts : List tx.T7} {i : Nat} (h : i < ts.length) : atT ts i = ts[i] := by simp [atT, List.getElem?_eq_getElem h]
theorem clu_up {k : C6} (h : clusterB k = true) : UpI k.txs ∧ (∀ i, i < k.txs.length → tx.txB (atT k.txs i) = true) ∧ k.txs.length ≤ 60 := by
  simp only [clusterB, Bool.and_eq_true, decide_eq_true_eq] at h
  have h2 := h.2
  rw [txsB_eq, Bool.and_eq_true] at h2
  refine ⟨UpI.of_all h2.1, fun i hi => ?_, h.1.1.1.2⟩
  have := List.all_eq_true.1 h2.2 i (List.mem_range.2 hi)
  simp only [fitB, Bool.and_eq_true] at this
  exact this.1.1.1.1
theorem tx_short {t : tx.T7} (h : tx.txB t = true) : t.reads.length ≤ 1048576 ∧ t.sets.length ≤ 1048576 := by
  simp only [tx.txB, Bool.and_eq_true, decide_eq_true_eq] at h
  exact ⟨by omega, by omega⟩
set_option maxRecDepth 100000 in
set_option maxHeartbeats 2000000 in
theorem l8Find_any (w : World) (a1 : Option Addr) (c1 : Nat) (a2 : Option Addr) (c2 : Nat) (a3 : Option Addr) (c3 : Nat) (k : C6) (y : Int) (hl : KCl.L k) (h : KCl.Rd w a1 c1 a2 c2 a3 c3 k) : Calls Tryz.prog 108 #[.agg #[.int .i64 k.config, .int .i64 k.clock, .slice a1 k.places.length c1, .slice a2 k.machines.length c2, .slice a3 k.txs.length c3, .bool k.lost], .int .i64 y] w fun e w' => (∃ i : Int, e = .returned (.int .i64 i) ∧ FirstAt (fun j => decide ((atT k.txs j).id = y)) k.txs.length i) ∧ Below w.heap.size w w' := by
  have hn := hl.t
  unfold maxLen at hn
  obtain ⟨U, hU⟩ : ∃ Y, Y = w.alloc (.cells #[.int .i64 k.config, .int .i64 k.clock, .slice a1 k.places.length c1, .slice a2 k.machines.length c2, .slice a3 k.txs.length c3, .bool k.lost] 32) := ⟨_, rfl⟩
  have b0 : Below w.heap.size w U := by rw [hU]; exact (Below.refl _ _).alloc (Nat.le_refl _) _
  have p4 : U.cell? ⟨w.heap.size, 4, none⟩ = some (.slice a3 k.txs.length c3) := by rw [hU]; go_simp
  have H : Hid (KCl.Rd U a1 c1 a2 c2 a3 c3 k ∧ Below w.heap.size w U) := ⟨h.later b0, b0⟩
  clear h b0 hl
  go_enter Tryz.func108, Tryz.ntmps108
  go_wp2
  rw [← hU]
  clear hU
  go_loop [5] (fun v => ∃ j : Nat, j ≤ k.txs.length ∧ v = .int .i64 j ∧ ∀ t, t < j → (atT k.txs t).id ≠ y) (fun v => k.txs.length - (intOf v).toNat)
  case atStart => exact ⟨0, Nat.zero_le _, rfl, fun t h => absurd h (by omega)⟩
  case round =>
    obtain ⟨j, hj, rfl, hlo⟩ := hrel
    have HL := hidOf hlo
    clear hlo
    by_cases hlt : j < k.txs.length
    · rcases H.out.1.t with hk | ⟨b, off, rfl, hb, h1⟩
      · rw [hk] at hlt; simp at hlt
      obtain ⟨v, hat, _⟩ := h1 j _ (atT_of hlt)
      have k0 : U.cell? ⟨b, off + j * 7, none⟩ = some (.int .i64 (atT k.txs j).id) := hat 0 _ rfl
      have jn : (j : Int) < (k.txs.length : Int) := by omega
      clear h1 hat
      by_cases he : (atT k.txs j).id = y
      · have q : ((atT k.txs j).id == y) = true := by simp [he]
        have HE := hidOf he
        clear he
        go_wp2
        go_ret
        exact ⟨⟨_, rfl, .inr ⟨j, rfl, hlt, by simp [HE.out], fun t ht => by simp [HL.out t ht]⟩⟩, H.out.2⟩
      · have q : ((atT k.txs j).id == y) = false := by simp [he]
        have HE := hidOf he
        clear he
        go_wp2
        exact ⟨⟨j + 1, by omega, by simp, fun t ht => by
          by_cases e : t = j
          · rw [e]; exact HE.out
          · exact HL.out t (by omega)⟩, by simp [intOf]; omega⟩
    · obtain rfl : j = k.txs.length := by omega
      have hd : decide ((k.txs.length : Int) < (k.txs.length : Int)) = false := by simp
      go_wp2
      go_ret
      exact ⟨⟨_, rfl, .inl ⟨rfl, fun t ht => by simp [HL.out t ht]⟩⟩, H.out.2⟩
set_option maxHeartbeats 1000000 in
theorem findTx_any (w : World) (a : Option Addr) (cap : Nat) (ts : List tx.T7) (y : Int) (hn : ts.length ≤ 1000) (hu : UpI ts) (hs : KTk.RdS w a ts) :
    Calls Tryz.prog 162 #[.slice a ts.length cap, .int .i64 y] w fun e w' => ∃ i : Nat, e = .returned (.tuple #[.int .i64 i, .bool (foundT ts y i)]) ∧ PosT ts y i ∧ Below w.heap.size w w' := by
  have hc := bsearchT_any w a cap ts y hn hu hs
  go_enter Tryz.func162, Tryz.ntmps162
  go_wp2_with fail
  refine hc.mono ?_
  clear hc
  rintro e w1 ⟨i, rfl, hp, b1⟩
  have K := hidOf (And.intro hp b1)
  clear hp b1
  go_wp2
  refine bodyPost_ret (v := .tuple #[.int .i64 i, .bool (foundT ts y i)]) (by simp [results, Tryz.results162, go_sem]) rfl ?_
  exact ⟨i, rfl, K.out.1, K.out.2⟩
def atId (ts : List tx.T7) (y : Int) : Nat := ts.findIdx fun t => decide (t.id = y)
theorem atId_some {ts : List tx.T7} {y : Int} {i : Nat} (hi : i < ts.length) (he : (atT ts i).id = y) (h : ∀ j, j < i → (atT ts j).id ≠ y) : atId ts y = i := by
  unfold atId
  rw [List.findIdx_eq hi]
  refine ⟨by rw [atT_eq hi] at he; simpa using he, fun j hj => ?_⟩
  have := h j hj
  rw [atT_eq (by omega)] at this
  simpa using this
theorem atId_none {ts : List tx.T7} {y : Int} (h : ∀ j, j < ts.length → (atT ts j).id ≠ y) : atId ts y = ts.length := by
  unfold atId
  refine List.findIdx_eq_length_of_false (fun t ht => ?_)
  obtain ⟨i, hi, rfl⟩ := List.getElem_of_mem ht
  have := h i hi
  rw [atT_eq hi] at this
  simpa using this
theorem atId_pos {ts : List tx.T7} {y : Int} {i : Nat} (hp : PosT ts y i) (hf : foundT ts y i = true) : i < ts.length ∧ atId ts y = i := by
  simp only [foundT, Bool.and_eq_true, decide_eq_true_eq] at hf
  exact ⟨hf.1, atId_some hf.1 hf.2 (fun j hj => by have := hp.lo j hj; omega)⟩
theorem atId_neg {ts : List tx.T7} {y : Int} {i : Nat} (hu : UpI ts) (hp : PosT ts y i) (hf : foundT ts y i = false) : atId ts y = ts.length := by
  refine atId_none (fun j hj e => ?_)
  by_cases h1 : j < i
  · have := hp.lo j h1; omega
  · have hi : i < ts.length := by omega
    have h2 := hp.hi i (Nat.le_refl _) hi
    have h3 : (atT ts i).id ≠ y := fun e' => by simp [foundT, hi, e'] at hf
    by_cases h4 : j = i
    · subst h4; exact h3 e
    · have := hu i j (by omega) hj; omega
theorem atId_first {ts : List tx.T7} {y i : Int} (h : FirstAt (fun j => decide ((atT ts j).id = y)) ts.length i) : (i = -1 ∧ atId ts y = ts.length) ∨ ∃ j : Nat, i = (j : Int) ∧ j < ts.length ∧ atId ts y = j := by
  rcases h with ⟨rfl, h⟩ | ⟨j, rfl, hj, h1, h2⟩
  · exact .inl ⟨rfl, atId_none (fun j hj => by simpa using h j hj)⟩
  · exact .inr ⟨j, rfl, hj, atId_some hj (by simpa using h1) (fun t ht => by simpa using h2 t ht)⟩
def zC : C6 := ⟨0, 0, [], [], [], false⟩
def txAt (k : C6) (y : Int) : tx.T7 := atT k.txs (atId k.txs y)
def homeB (k : C6) (y : Int) : Bool := (atM k.machines (txAt k y).home.toNat).alive
def codeB (k : C6) (y : Int) : Int := if clusterB k = true then (if atId k.txs y < k.txs.length then (if homeB k y = true then 0 else 3) else 2) else 1
def runC (k : C6) (y : Int) : Int := if codeB k y = 0 then (if (txAt k y).phase = 1 then 0 else 4) else codeB k y
def leftC (k : C6) : C6 := if clusterB k = true then k else zC
theorem clu_home {k : C6} (h : clusterB k = true) {i : Nat} (hi : i < k.txs.length) : 0 ≤ (atT k.txs i).home ∧ (atT k.txs i).home < (k.machines.length : Int) := by
  have h1 := (clu_up h).2.1 i hi
  simp only [clusterB, txsB, Bool.and_eq_true] at h
  have := List.all_eq_true.1 h.2 i (List.mem_range.2 hi)
  simp only [txAtB, Bool.and_eq_true, decide_eq_true_eq] at this
  simp only [tx.txB, tx.headB, Bool.and_eq_true] at h1
  have h3 := h1.1.1.1.1.1.1.1.2
  rw [inB_iff] at h3
  omega
def RAns (X : World) (k : C6) (n : Int) (e : Ending) (w' : World) : Prop := ∃ (a1 : Option Addr) (c1 : Nat) (a2 : Option Addr) (c2 : Nat) (a3 : Option Addr) (c3 : Nat) (P : Nat → Prop), e = .panicked [{ v := .iface 157 (.agg #[.iface 90 (.int .i64 n), .int .i64 k.config, .int .i64 k.clock, .slice a1 k.places.length c1, .slice a2 k.machines.length c2, .slice a3 k.txs.length c3, .bool k.lost]), recovered := false }] ∧ KCl.Ow w' X.heap.size a1 c1 a2 c2 a3 c3 k P ∧ Below X.heap.size X w'
theorem RAns.d {X : World} {k : C6} {n : Int} {e : Ending} {w' : World} (h : RAns X k n e w') (hn : n ≠ 0) : DAns X k n e w' := by
  obtain ⟨a1, c1, a2, c2, a3, c3, P, h1, h2, h3⟩ := h
  exact ⟨a1, c1, a2, c2, a3, c3, P, .inr ⟨hn, h1⟩, h2, h3⟩
theorem zC_ow (w : World) (B : Nat) : KCl.Ow w B none 0 none 0 none 0 zC (fun _ => False) :=
  ⟨⟨fun _ => False, fun _ => False, fun _ => False, ⟨⟨fun _ => 0, .inl ⟨rfl, rfl, rfl⟩, fun b e => (by cases e), fun i hi => (by simp [zC] at hi)⟩, fun q h => h.elim⟩, ⟨.inl rfl, fun q h => h.elim⟩, ⟨.inl rfl, fun q h => h.elim⟩, fun q h => h.elim, fun q h => h.elim, fun q h => h.elim, fun q h => h.elim, fun q h => h.elim, fun q h => h.elim⟩, fun q h => h.elim⟩
set_option maxHeartbeats 1000000 in
theorem needRight_yes (w : World) (a1 : Option Addr) (c1 : Nat) (a2 : Option Addr) (c2 : Nat) (a3 : Option Addr) (c3 : Nat) (k : C6) (hl : KCl.L k) (h : KCl.Rd w a1 c1 a2 c2 a3 c3 k) (hk : clusterB k = true) : Calls Tryz.prog 90 #[.agg #[.int .i64 k.config, .int .i64 k.clock, .slice a1 k.places.length c1, .slice a2 k.machines.length c2, .slice a3 k.txs.length c3, .bool k.lost]] w fun e w' => e = .returned (.tuple #[]) ∧ Below w.heap.size w w' := by
  obtain ⟨W, hW⟩ : ∃ Y, Y = w.alloc (.cells #[.int .i64 k.config, .int .i64 k.clock, .slice a1 k.places.length c1, .slice a2 k.machines.length c2, .slice a3 k.txs.length c3, .bool k.lost] 32) := ⟨_, rfl⟩
  have bW : Below w.heap.size w W := by rw [hW]; exact (Below.refl _ _).alloc (Nat.le_refl _) _
  have hc := implClusterOk_any W a1 c1 a2 c2 a3 c3 k hl (h.later bW)
  rw [hk] at hc
  have BW : Hid (Below w.heap.size w W) := bW
  clear bW h hl
  go_enter Tryz.func90, Tryz.ntmps90
  go_wp2_with fail
  rw [← hW]
  clear hW
  refine hc.mono ?_
  clear hc
  rintro e w1 ⟨rfl, b1⟩
  have B1 : Hid (Below w.heap.size w w1) := bstep BW.out b1
  clear b1
  go_wp2
  refine bodyPost_end (v := .tuple #[]) (by simp [results, Tryz.results90]) rfl ?_
  exact ⟨rfl, B1.out⟩
set_option maxHeartbeats 1000000 in
theorem needRight_no (w : World) (a1 : Option Addr) (c1 : Nat) (a2 : Option Addr) (c2 : Nat) (a3 : Option Addr) (c3 : Nat) (k : C6) (hl : KCl.L k) (h : KCl.Rd w a1 c1 a2 c2 a3 c3 k) (hk : clusterB k = false) : Calls Tryz.prog 90 #[.agg #[.int .i64 k.config, .int .i64 k.clock, .slice a1 k.places.length c1, .slice a2 k.machines.length c2, .slice a3 k.txs.length c3, .bool k.lost]] w (RAns w zC 1) := by
  obtain ⟨W, hW⟩ : ∃ Y, Y = w.alloc (.cells #[.int .i64 k.config, .int .i64 k.clock, .slice a1 k.places.length c1, .slice a2 k.machines.length c2, .slice a3 k.txs.length c3, .bool k.lost] 32) := ⟨_, rfl⟩
  have bW : Below w.heap.size w W := by rw [hW]; exact (Below.refl _ _).alloc (Nat.le_refl _) _
  have hc := implClusterOk_any W a1 c1 a2 c2 a3 c3 k hl (h.later bW)
  rw [hk] at hc
  have BW : Hid (Below w.heap.size w W) := bW
  clear bW h hl
  go_enter Tryz.func90, Tryz.ntmps90
  go_wp2_with fail
  rw [← hW]
  clear hW
  refine hc.mono ?_
  clear hc
  rintro e w1 ⟨rfl, b1⟩
  have B1 : Hid (Below w.heap.size w w1) := bstep BW.out b1
  clear b1
  go_wp2_with fail
  refine (refuse_any w1 1 (.int .i64 0) (.int .i64 0) (.slice none 0 0) (.slice none 0 0) (.slice none 0 0) (.bool false)).mono ?_
  rintro e w2 ⟨rfl, rfl⟩
  go_wp2
  exact ⟨rfl, none, 0, none, 0, none, 0, fun _ => False, rfl, zC_ow _ _, B1.out.alloc B1.out.size _⟩
set_option maxHeartbeats 1000000 in
theorem homeLives_any (w : World) (a1 : Option Addr) (c1 : Nat) (a2 : Option Addr) (c2 : Nat) (a3 : Option Addr) (c3 : Nat) (k : C6) (i : Nat) (hi : i < k.machines.length) (h : KCl.Rd w a1 c1 a2 c2 a3 c3 k) : Calls Tryz.prog 94 #[.agg #[.int .i64 k.config, .int .i64 k.clock, .slice a1 k.places.length c1, .slice a2 k.machines.length c2, .slice a3 k.txs.length c3, .bool k.lost], .int .i64 (i : Int)] w fun e w' => e = .returned (.bool (atM k.machines i).alive) ∧ Below w.heap.size w w' := by
  obtain ⟨W, hW⟩ : ∃ Y, Y = w.alloc (.cells #[.int .i64 k.config, .int .i64 k.clock, .slice a1 k.places.length c1, .slice a2 k.machines.length c2, .slice a3 k.txs.length c3, .bool k.lost] 32) := ⟨_, rfl⟩
  have bW : Below w.heap.size w W := by rw [hW]; exact (Below.refl _ _).alloc (Nat.le_refl _) _
  have p3 : W.cell? ⟨w.heap.size, 3, none⟩ = some (.slice a2 k.machines.length c2) := by rw [hW]; go_simp
  rcases (h.later bW).m with h0 | ⟨b, off, rfl, hb, hrd⟩
  · rw [h0] at hi; simp at hi
  obtain ⟨⟨m0, m1, m2, m3, m4, m5⟩, hel, -⟩ := hrd i _ (atM_of hi)
  have e0 : W.cell? ⟨b, off + i * 4, none⟩ = some (.bool (atM k.machines i).alive) := hel 0 _ rfl
  have e1 : W.cell? ⟨b, off + i * 4 + 1, none⟩ = some (.slice m0 (atM k.machines i).copies.length m1) := hel 1 _ rfl
  have e2 : W.cell? ⟨b, off + i * 4 + 2, none⟩ = some (.slice m2 (atM k.machines i).log.length m3) := hel 2 _ rfl
  have e3 : W.cell? ⟨b, off + i * 4 + 3, none⟩ = some (.slice m4 (atM k.machines i).cleared.length m5) := hel 3 _ rfl
  have d0 : decide (0 ≤ (i : Int)) = true := by simp
  have d1 : decide ((i : Int) < (k.machines.length : Int)) = true := by simp; omega
  have i0 : 0 ≤ (i : Int) := by omega
  have i1 : (i : Int) < (k.machines.length : Int) := by omega
  have BW : Hid (Below w.heap.size w W) := bW
  rw [hW] at p3 e0 e1 e2 e3
  have hmb := memberOf_any W m0 m1 m2 m3 m4 m5 (atM k.machines i)
  clear bW h hrd hel hb
  have hmL : ∀ (a : Option Addr) (n c : Nat) (w : World), (method 470 253 (.agg #[.slice a n c]) "loop.example/g00153/impl.lives").run Tryz.prog w = .ok (330, .agg #[.slice a n c]) w := fun _ _ _ _ => by kernel_rfl
  have hmD : ∀ w : World, (method 470 255 (.agg #[]) "loop.example/g00153/impl.lives").run Tryz.prog w = .ok (332, .agg #[]) w := fun _ => by kernel_rfl
  go_enter Tryz.func94, Tryz.ntmps94
  go_wp2_with fail
  rw [← hW]
  clear hW
  refine hmb.mono ?_
  clear hmb
  rintro e w1 ⟨rfl, b1⟩
  have B1 : Hid (Below w.heap.size w w1) := bstep BW.out b1
  clear b1 p3 e0 e1 e2 e3
  unfold memV
  cases ha : (atM k.machines i).alive with
  | true =>
    simp only [if_true]
    go_wp2_with fail
    refine (livesL_any w1 m0 (atM k.machines i).copies.length m1).mono ?_
    rintro e w2 ⟨rfl, b2⟩
    have B2 : Hid (Below w.heap.size w w2) := bstep B1.out b2
    clear b2
    go_wp2
    go_ret
    exact ⟨by rw [ha]; rfl, B2.out⟩
  | false =>
    simp only [Bool.false_eq_true, if_false]
    go_wp2_with fail
    refine (livesD_any w1).mono ?_
    rintro e w2 ⟨rfl, b2⟩
    have B2 : Hid (Below w.heap.size w w2) := bstep B1.out b2
    clear b2
    go_wp2
    go_ret
    exact ⟨by rw [ha]; rfl, B2.out⟩
set_option maxHeartbeats 1000000 in
theorem dRefuse_any (w : World) (d : Nat) (a1 : Option Addr) (c1 : Nat) (a2 : Option Addr) (c2 : Nat) (a3 : Option Addr) (c3 : Nat) (k : C6) (cs : List Value) (n : Int) (hk : clusterB k = true) (h : KCl.Rd w a1 c1 a2 c2 a3 c3 k) (hd : Bx w d ([.int .i64 k.config, .int .i64 k.clock, .slice a1 k.places.length c1, .slice a2 k.machines.length c2, .slice a3 k.txs.length c3, .bool k.lost] ++ cs)) : Calls Tryz.prog 62 #[.pointer (some ⟨d, 0, none⟩), .int .i64 n] w (RAns w k n) := by
  have p0 := hd.1 0 _ rfl
  have p1 := hd.1 1 _ rfl
  have p2 := hd.1 2 _ rfl
  have p3 := hd.1 3 _ rfl
  have p4 := hd.1 4 _ rfl
  have p5 := hd.1 5 _ rfl
  have hc := ownCluster_any w a1 c1 a2 c2 a3 c3 k hk h
  clear hd h
  go_enter Tryz.func62, Tryz.ntmps62
  go_wp2_with fail
  refine hc.mono ?_
  clear hc
  rintro e w1 ⟨b1, d1, b2, d2, b3, d3, ps, gp, ms, gm, ts, gt, rfl, hr, e1, e2, e3, bl⟩
  have K : Hid (KCl.Ow w1 w.heap.size b1 d1 b2 d2 b3 d3 k (fun q => Kd.blk (.slice b1 k.places.length d1) ps gp q ∨ Kd.blk (.slice b2 k.machines.length d2) ms gm q ∨ Kd.blk (.slice b3 k.txs.length d3) ts gt q) ∧ Below w.heap.size w w1) := ⟨(hr.ow e1 e2 e3).low (by omega), bl⟩
  clear hr e1 e2 e3 bl p0 p1 p2 p3 p4 p5
  go_wp2_with fail
  refine (refuse_any w1 n _ _ _ _ _ _).mono ?_
  rintro e w2 ⟨rfl, rfl⟩
  go_wp2
  have bA : Below w1.heap.size w1 (w1.alloc (.cells #[.int .i64 k.config, .int .i64 k.clock, .slice b1 k.places.length d1, .slice b2 k.machines.length d2, .slice b3 k.txs.length d3, .bool k.lost] 32)) := (Below.refl _ _).alloc (Nat.le_refl _) _
  exact ⟨rfl, b1, d1, b2, d2, b3, d3, _, rfl, K.out.1.later bA, bstep K.out.2 bA⟩
def DedAns (w : World) (a1 : Option Addr) (c1 : Nat) (a2 : Option Addr) (c2 : Nat) (a3 : Option Addr) (c3 : Nat) (k : C6) (y : Int) (n : Int) (e : Ending) (w' : World) : Prop :=
  (n ≠ 0 ∧ RAns w (leftC k) n e w') ∨ (n = 0 ∧ ∃ (d : Nat) (u0 : Option Addr) (u1 : Nat) (u2 : Option Addr) (u3 : Nat) (P : Nat → Prop), e = .returned (.pointer (some ⟨d, 0, none⟩)) ∧ Bx w' d [.int .i64 k.config, .int .i64 k.clock, .slice a1 k.places.length c1, .slice a2 k.machines.length c2, .slice a3 k.txs.length c3, .bool k.lost, .int .i64 (atId k.txs y), .int .i64 (txAt k y).id, .int .i64 (txAt k y).home, .int .i64 (txAt k y).phase, .int .i64 (txAt k y).count, .slice u0 (txAt k y).reads.length u1, .slice u2 (txAt k y).sets.length u3, .int .i64 (txAt k y).stamp] ∧ KT.Ow w' w.heap.size u0 u1 u2 u3 (txAt k y) P ∧ (∀ q, P q → q ≠ d) ∧ w.heap.size ≤ d ∧ Below w.heap.size w w')
theorem RAns.low {w X w' : World} {k : C6} {n : Int} {e : Ending} (h : RAns X k n e w') (b : Below w.heap.size w X) : RAns w k n e w' := by
  obtain ⟨a1, c1, a2, c2, a3, c3, P, h1, h2, h3⟩ := h
  exact ⟨a1, c1, a2, c2, a3, c3, P, h1, h2.low b.size, bstep b h3⟩
set_option maxRecDepth 100000 in
set_option maxHeartbeats 2500000 in
theorem deedOf_any (w : World) (a1 : Option Addr) (c1 : Nat) (a2 : Option Addr) (c2 : Nat) (a3 : Option Addr) (c3 : Nat) (k : C6) (y : Int) (hl : KCl.L k) (h : KCl.Rd w a1 c1 a2 c2 a3 c3 k) :
    Calls Tryz.prog 112 #[.agg #[.int .i64 k.config, .int .i64 k.clock, .slice a1 k.places.length c1, .slice a2 k.machines.length c2, .slice a3 k.txs.length c3, .bool k.lost], .int .i64 y] w (DedAns w a1 c1 a2 c2 a3 c3 k y (codeB k y)) := by
  obtain ⟨W0, hW0⟩ : ∃ Y, Y = w.alloc (.cells #[.int .i64 k.config, .int .i64 k.clock, .slice a1 k.places.length c1, .slice a2 k.machines.length c2, .slice a3 k.txs.length c3, .bool k.lost] 32) := ⟨_, rfl⟩
  have b0 : Below w.heap.size w W0 := by rw [hW0]; exact (Below.refl _ _).alloc (Nat.le_refl _) _
  have x0 : Bx W0 w.heap.size [.int .i64 k.config, .int .i64 k.clock, .slice a1 k.places.length c1, .slice a2 k.machines.length c2, .slice a3 k.txs.length c3, .bool k.lost] := by rw [hW0]; exact Bx.made w [.int .i64 k.config, .int .i64 k.clock, .slice a1 k.places.length c1, .slice a2 k.machines.length c2, .slice a3 k.txs.length c3, .bool k.lost] _
  have h0 := h.later b0
  cases hk : clusterB k with
  | false =>
    have hc := needRight_no W0 a1 c1 a2 c2 a3 c3 k hl h0 hk
    have hcode : codeB k y = 1 := by simp [codeB, hk]
    have hleft : leftC k = zC := by simp [leftC, hk]
    have B0 : Hid (Below w.heap.size w W0) := b0
    have HX : Hid (∀ e w', RAns W0 zC 1 e w' → DedAns w a1 c1 a2 c2 a3 c3 k y (codeB k y) e w') := fun e w' h => .inl ⟨by rw [hcode]; decide, by rw [hcode, hleft]; exact h.low B0.out⟩
    clear b0 x0 h0 h hl hcode hleft
    go_enter Tryz.func112, Tryz.ntmps112
    go_wp2_with fail
    rw [← hW0]
    clear hW0
    refine hc.mono ?_
    clear hc
    intro e w1 hr
    have hr' := hr
    obtain ⟨b1, d1, b2, d2, b3, d3, P, rfl, -, -⟩ := hr
    have HR := hidOf hr'
    clear hr'
    go_wp2
    exact ⟨rfl, HX.out _ _ HR.out⟩
  | true =>
    have hc := needRight_yes W0 a1 c1 a2 c2 a3 c3 k hl h0 hk
    obtain ⟨hup, htx, hn60⟩ := clu_up hk
    have hleft : leftC k = k := by simp [leftC, hk]
    have H : Hid (Below w.heap.size w W0 ∧ Bx W0 w.heap.size [.int .i64 k.config, .int .i64 k.clock, .slice a1 k.places.length c1, .slice a2 k.machines.length c2, .slice a3 k.txs.length c3, .bool k.lost] ∧ KCl.Rd w a1 c1 a2 c2 a3 c3 k ∧ UpI k.txs ∧ (∀ i, i < k.txs.length → tx.txB (atT k.txs i) = true) ∧ k.txs.length ≤ 60 ∧ clusterB k = true ∧ leftC k = k) := ⟨b0, x0, h, hup, htx, hn60, hk, hleft⟩
    clear b0 x0 h0 h hl hup htx hn60 hleft
    go_enter Tryz.func112, Tryz.ntmps112
    go_wp2_with fail
    rw [← hW0]
    clear hW0
    refine hc.mono ?_
    clear hc
    rintro e w1 ⟨rfl, b1⟩
    have B1 : Hid (Below w.heap.size w w1 ∧ Bx w1 w.heap.size [.int .i64 k.config, .int .i64 k.clock, .slice a1 k.places.length c1, .slice a2 k.machines.length c2, .slice a3 k.txs.length c3, .bool k.lost] ∧ KCl.Rd w1 a1 c1 a2 c2 a3 c3 k) := ⟨bstep H.out.1 b1, H.out.2.1.later b1, H.out.2.2.1.later (bstep H.out.1 b1)⟩
    clear b1
    have p4 := B1.out.2.1.1 4 _ rfl
    have hf := findTx_any w1 a3 c3 k.txs y (by have := H.out.2.2.2.2.2.1; omega) H.out.2.2.2.1 B1.out.2.2.t
    go_wp2_with fail
    refine hf.mono ?_
    clear hf
    rintro e w2 ⟨i, rfl, hpos, b2⟩
    have B2 : Hid (Below w.heap.size w w2 ∧ Bx w2 w.heap.size [.int .i64 k.config, .int .i64 k.clock, .slice a1 k.places.length c1, .slice a2 k.machines.length c2, .slice a3 k.txs.length c3, .bool k.lost] ∧ KCl.Rd w2 a1 c1 a2 c2 a3 c3 k) := ⟨bstep B1.out.1 b2, B1.out.2.1.later b2, B1.out.2.2.later b2⟩
    clear b2 p4 B1
    cases hfd : foundT k.txs y i with
    | false =>
      have hat := atId_neg H.out.2.2.2.1 hpos hfd
      have hcode : codeB k y = 2 := by simp [codeB, hk, hat]
      have HX : Hid (∀ e w', RAns w k 2 e w' → DedAns w a1 c1 a2 c2 a3 c3 k y (codeB k y) e w') := fun e w' h => .inl ⟨by rw [hcode]; decide, by rw [hcode, H.out.2.2.2.2.2.2.2]; exact h⟩
      have q0 := B2.out.2.1.1 0 _ rfl
      have q1 := B2.out.2.1.1 1 _ rfl
      have q2 := B2.out.2.1.1 2 _ rfl
      have q3 := B2.out.2.1.1 3 _ rfl
      have q4 := B2.out.2.1.1 4 _ rfl
      have q5 := B2.out.2.1.1 5 _ rfl
      have ho := ownCluster_any w2 a1 c1 a2 c2 a3 c3 k H.out.2.2.2.2.2.2.1 B2.out.2.2
      clear hat hcode hpos
      go_wp2_with fail
      refine ho.mono ?_
      clear ho
      rintro e w3 ⟨b1, d1, b2, d2, b3, d3, ps, gp, ms, gm, ts, gt, rfl, hr, e1, e2, e3, bl⟩
      have KO : Hid (KCl.Ow w3 w.heap.size b1 d1 b2 d2 b3 d3 k (fun q => Kd.blk (.slice b1 k.places.length d1) ps gp q ∨ Kd.blk (.slice b2 k.machines.length d2) ms gm q ∨ Kd.blk (.slice b3 k.txs.length d3) ts gt q) ∧ Below w.heap.size w w3) := ⟨(hr.ow e1 e2 e3).low (by have := B2.out.1.size; omega), bstep B2.out.1 bl⟩
      clear hr e1 e2 e3 bl q0 q1 q2 q3 q4 q5
      go_wp2_with fail
      refine (refuse_any w3 2 _ _ _ _ _ _).mono ?_
      rintro e w4 ⟨rfl, rfl⟩
      go_wp2
      have bA : Below w3.heap.size w3 (w3.alloc (.cells #[.int .i64 k.config, .int .i64 k.clock, .slice b1 k.places.length d1, .slice b2 k.machines.length d2, .slice b3 k.txs.length d3, .bool k.lost] 32)) := (Below.refl _ _).alloc (Nat.le_refl _) _
      exact ⟨rfl, HX.out _ _ ⟨b1, d1, b2, d2, b3, d3, _, rfl, KO.out.1.later bA, bstep KO.out.2 bA⟩⟩
    | true =>
      obtain ⟨hi, hat⟩ := atId_pos hpos hfd
      have htxi := tx_short (H.out.2.2.2.2.1 i hi)
      have hhome := clu_home H.out.2.2.2.2.2.2.1 hi
      have hm8 := (CSm.of H.out.2.2.2.2.2.2.1).m
      obtain ⟨hm, hhm⟩ : ∃ m : Nat, (atT k.txs i).home = (m : Int) := ⟨(atT k.txs i).home.toNat, by omega⟩
      have hcode : codeB k y = if (atM k.machines hm).alive = true then 0 else 3 := by
        simp only [codeB, hk, if_true, hat, hi, homeB, txAt, hhm, Int.toNat_natCast]
      have HC := hidOf hcode
      have HH := hidOf hhm
      have HT : Hid (txAt k y = atT k.txs i ∧ atId k.txs y = i) := ⟨by simp [txAt, hat], hat⟩
      rcases B2.out.2.2.t with e0 | ⟨b, off, rfl, hb, hrd⟩
      · rw [e0] at hi; simp at hi
      obtain ⟨⟨t0, t1, t2, t3⟩, hel, hsd⟩ := hrd i _ (atT_of hi)
      have hcl := tx.ownTx_any w2.drew ⟨t0, t1, t2, t3⟩ (atT k.txs i) htxi.1 htxi.2 (tx.SlT.later hsd (Below.refl _ _).drew)
      simp only [tx.TV.val] at hcl
      have jn : (i : Int) < (k.txs.length : Int) := by omega
      have hSX : (fun X : World => Bx X w.heap.size [.int .i64 k.config, .int .i64 k.clock, .slice a1 k.places.length c1, .slice a2 k.machines.length c2, .slice (some ⟨b, off, none⟩) k.txs.length c3, .bool k.lost] ∧ At X b (off + i * 7) [.int .i64 (atT k.txs i).id, .int .i64 (atT k.txs i).home, .int .i64 (atT k.txs i).phase, .int .i64 (atT k.txs i).count, .slice t0 (atT k.txs i).reads.length t1, .slice t2 (atT k.txs i).sets.length t3, .int .i64 (atT k.txs i).stamp]) w2.drew := ⟨B2.out.2.1.later (Below.refl _ _).drew, hel.of_block rfl⟩
      have HB : Hid (b < w2.drew.heap.size ∧ Below w.heap.size w w2.drew ∧ KCl.Rd w2.drew a1 c1 a2 c2 (some ⟨b, off, none⟩) c3 k ∧ hm < k.machines.length ∧ k.machines.length ≤ 8 ∧ i < k.txs.length) := ⟨hb, B2.out.1.drew, B2.out.2.2.later (Below.refl _ _).drew, by omega, hm8, hi⟩
      clear hat hcode hpos hrd hel hsd htxi hhome hm8 hb B2 hhm
      go_wp2_with fail
      refine wp_region_until 10 (fun X : World => Bx X w.heap.size [.int .i64 k.config, .int .i64 k.clock, .slice a1 k.places.length c1, .slice a2 k.machines.length c2, .slice (some ⟨b, off, none⟩) k.txs.length c3, .bool k.lost] ∧ At X b (off + i * 7) [.int .i64 (atT k.txs i).id, .int .i64 (atT k.txs i).home, .int .i64 (atT k.txs i).phase, .int .i64 (atT k.txs i).count, .slice t0 (atT k.txs i).reads.length t1, .slice t2 (atT k.txs i).sets.length t3, .int .i64 (atT k.txs i).stamp]) (by kernel_rfl) ?_
      generalize w2.drew = XD at *
      refine wpUntil_take (i := 0) (v := ?_) rfl (by kernel_rfl) (fun _ _ _ h => h) (Or.inl ⟨by rfl, ?_⟩) hSX ?_
      rotate_left
      · (intro w hSw; have q0 := hSw.1.1 0 _ rfl; have q1 := hSw.1.1 1 _ rfl; have q2 := hSw.1.1 2 _ rfl; have q3 := hSw.1.1 3 _ rfl; have q4 := hSw.1.1 4 _ rfl; have q5 := hSw.1.1 5 _ rfl; go_simp; first | done | with_reducible rfl | rfl)
      simp only [Act.put]
      refine wpUntil_take (i := 1) (v := ?_) rfl (by kernel_rfl) (fun _ _ _ h => h) (Or.inl ⟨by rfl, ?_⟩) hSX ?_
      rotate_left
      · (intro w hSw; go_simp; first | done | with_reducible rfl)
      simp only [Act.put]
      refine wpUntil_take (i := 2) (v := ?_) rfl (by kernel_rfl) (fun _ _ _ h => h) (Or.inl ⟨by rfl, ?_⟩) hSX ?_
      rotate_left
      · (intro w hSw; go_simp; first | done | with_reducible rfl)
      simp only [Act.put]
      refine wpUntil_take (i := 3) (v := ?_) rfl (by kernel_rfl) (fun _ _ _ h => h) (Or.inl ⟨by rfl, ?_⟩) hSX ?_
      rotate_left
      · (intro w hSw; have q4 := hSw.1.1 4 _ rfl; go_simp; first | done | with_reducible rfl | rfl)
      simp only [Act.put]
      refine wpUntil_take (i := 4) (v := ?_) rfl (by kernel_rfl) (fun _ _ _ h => h) (Or.inl ⟨by rfl, ?_⟩) hSX ?_
      rotate_left
      · (intro w hSw; go_simp; first | done | with_reducible rfl)
      simp only [Act.put]
      refine wpUntil_take (i := 5) (v := ?_) rfl (by kernel_rfl) (fun _ _ _ h => h) (Or.inl ⟨by rfl, ?_⟩) hSX ?_
      rotate_left
      · (intro w hSw; go_simp; first | done | with_reducible rfl | (rw [if_pos (by omega)]))
      simp only [Act.put]
      refine wpUntil_take (i := 6) (v := ?_) rfl (by kernel_rfl) (fun _ _ _ h => h) (Or.inl ⟨by rfl, ?_⟩) hSX ?_
      rotate_left
      · (intro w hSw; have q0 : w.cell? ⟨b, off + i * 7, none⟩ = some (.int .i64 (atT k.txs i).id) := hSw.2 0 _ rfl; have q1 : w.cell? ⟨b, off + i * 7 + 1, none⟩ = some (.int .i64 (atT k.txs i).home) := hSw.2 1 _ rfl; have q2 : w.cell? ⟨b, off + i * 7 + 2, none⟩ = some (.int .i64 (atT k.txs i).phase) := hSw.2 2 _ rfl; have q3 : w.cell? ⟨b, off + i * 7 + 3, none⟩ = some (.int .i64 (atT k.txs i).count) := hSw.2 3 _ rfl; have q4 : w.cell? ⟨b, off + i * 7 + 4, none⟩ = some (.slice t0 (atT k.txs i).reads.length t1) := hSw.2 4 _ rfl; have q5 : w.cell? ⟨b, off + i * 7 + 5, none⟩ = some (.slice t2 (atT k.txs i).sets.length t3) := hSw.2 5 _ rfl; have q6 : w.cell? ⟨b, off + i * 7 + 6, none⟩ = some (.int .i64 (atT k.txs i).stamp) := hSw.2 6 _ rfl; go_simp; first | done | with_reducible rfl | rfl)
      simp only [Act.put]
      refine wpUntil_ready (rs := [7]) (by kernel_rfl) (by simp) ?_
      refine AllU.cons rfl (fun K hK => ?_) AllU.nil
      go_simp
      refine hcl.mono ?_
      clear hcl
      rintro e X2 ⟨u0, u1, u2, u3, PR, PS, rfl, ho, b2⟩
      simp only [tx.TV.val]
      obtain ⟨hb, hbx, hrdx, hm1, hm8, hi7⟩ := HB.out
      have hS2 : (fun X : World => Bx X w.heap.size [.int .i64 k.config, .int .i64 k.clock, .slice a1 k.places.length c1, .slice a2 k.machines.length c2, .slice (some ⟨b, off, none⟩) k.txs.length c3, .bool k.lost] ∧ At X b (off + i * 7) [.int .i64 (atT k.txs i).id, .int .i64 (atT k.txs i).home, .int .i64 (atT k.txs i).phase, .int .i64 (atT k.txs i).count, .slice t0 (atT k.txs i).reads.length t1, .slice t2 (atT k.txs i).sets.length t3, .int .i64 (atT k.txs i).stamp]) X2 := ⟨hSX.1.later b2, hSX.2.of_block (b2.block b (by have := hbx.size; have := hSX.1.2.2; have := b2.size; omega))⟩
      obtain ⟨X3, hX3⟩ : ∃ X, X = X2.alloc (.cells #[.int .i64 k.config, .int .i64 k.clock, .slice a1 k.places.length c1, .slice a2 k.machines.length c2, .slice (some ⟨b, off, none⟩) k.txs.length c3, .bool k.lost, .int .i64 (i : Int), .int .i64 (atT k.txs i).id, .int .i64 (atT k.txs i).home, .int .i64 (atT k.txs i).phase, .int .i64 (atT k.txs i).count, .slice u0 (atT k.txs i).reads.length u1, .slice u2 (atT k.txs i).sets.length u3, .int .i64 (atT k.txs i).stamp] 111) := ⟨_, rfl⟩
      have b3 : Below X2.heap.size X2 X3 := by rw [hX3]; exact (Below.refl _ _).alloc (Nat.le_refl _) _
      have x3 : Bx X3 X2.heap.size [.int .i64 k.config, .int .i64 k.clock, .slice a1 k.places.length c1, .slice a2 k.machines.length c2, .slice (some ⟨b, off, none⟩) k.txs.length c3, .bool k.lost, .int .i64 (i : Int), .int .i64 (atT k.txs i).id, .int .i64 (atT k.txs i).home, .int .i64 (atT k.txs i).phase, .int .i64 (atT k.txs i).count, .slice u0 (atT k.txs i).reads.length u1, .slice u2 (atT k.txs i).sets.length u3, .int .i64 (atT k.txs i).stamp] := by rw [hX3]; exact Bx.made X2 [.int .i64 k.config, .int .i64 k.clock, .slice a1 k.places.length c1, .slice a2 k.machines.length c2, .slice (some ⟨b, off, none⟩) k.txs.length c3, .bool k.lost, .int .i64 (i : Int), .int .i64 (atT k.txs i).id, .int .i64 (atT k.txs i).home, .int .i64 (atT k.txs i).phase, .int .i64 (atT k.txs i).count, .slice u0 (atT k.txs i).reads.length u1, .slice u2 (atT k.txs i).sets.length u3, .int .i64 (atT k.txs i).stamp] _
      have hS3 : (fun X : World => Bx X w.heap.size [.int .i64 k.config, .int .i64 k.clock, .slice a1 k.places.length c1, .slice a2 k.machines.length c2, .slice (some ⟨b, off, none⟩) k.txs.length c3, .bool k.lost] ∧ At X b (off + i * 7) [.int .i64 (atT k.txs i).id, .int .i64 (atT k.txs i).home, .int .i64 (atT k.txs i).phase, .int .i64 (atT k.txs i).count, .slice t0 (atT k.txs i).reads.length t1, .slice t2 (atT k.txs i).sets.length t3, .int .i64 (atT k.txs i).stamp]) X3 := ⟨hS2.1.later b3, hS2.2.of_block (b3.block b (by have := hS2.1.2.2; have := hb; have := hbx.size; have := b2.size; have := hSX.1.2.2; omega))⟩
      have KD : Hid (Bx X3 X2.heap.size [.int .i64 k.config, .int .i64 k.clock, .slice a1 k.places.length c1, .slice a2 k.machines.length c2, .slice (some ⟨b, off, none⟩) k.txs.length c3, .bool k.lost, .int .i64 (i : Int), .int .i64 (atT k.txs i).id, .int .i64 (atT k.txs i).home, .int .i64 (atT k.txs i).phase, .int .i64 (atT k.txs i).count, .slice u0 (atT k.txs i).reads.length u1, .slice u2 (atT k.txs i).sets.length u3, .int .i64 (atT k.txs i).stamp] ∧ KT.Ow X3 w.heap.size u0 u1 u2 u3 (atT k.txs i) (tx.OfT PR PS) ∧ (∀ q, tx.OfT PR PS q → q ≠ X2.heap.size) ∧ w.heap.size ≤ X2.heap.size ∧ Below w.heap.size w X3 ∧ KCl.Rd X3 a1 c1 a2 c2 (some ⟨b, off, none⟩) c3 k ∧ Bx X3 w.heap.size [.int .i64 k.config, .int .i64 k.clock, .slice a1 k.places.length c1, .slice a2 k.machines.length c2, .slice (some ⟨b, off, none⟩) k.txs.length c3, .bool k.lost]) := ⟨x3, ((KT.ow ho).low hbx.size).later b3, fun q hq e => by have := (KT.ow ho).of hq; omega, Nat.le_trans hbx.size b2.size, bstep (bstep hbx b2) b3, (hrdx.later b2).later b3, hS3.1⟩
      refine hK.out _ _ (fun _ => hS2) ?_
      clear hK K hb hbx hrdx b2 b3 x3 ho
      refine wpUntil_take (i := 8) (v := ?_) rfl (by kernel_rfl) (fun _ _ _ h => h) (Or.inl ⟨by rfl, ?_⟩) hS2 ?_
      rotate_left
      · (intro w hSw; go_simp; first | done | with_reducible rfl)
      simp only [Act.put]
      refine wpUntil_ready (rs := [9]) (by kernel_rfl) (by simp) ?_
      refine AllU.cons rfl (fun K hK => ?_) AllU.nil
      go_simp
      rw [← hX3]
      refine hK.out _ _ (fun _ => hS3) ?_
      clear hK K hS2 hX3
      refine wpUntil_ready (rs := [10]) (by kernel_rfl) (by simp) ?_
      refine AllU.cons rfl (fun K hK => ?_) AllU.nil
      go_simp
      refine hK.out _ _ (fun h => absurd rfl h) ?_
      clear hK K hS3 hSX
      refine wpUntil_done (by kernel_rfl) ?_ _
      have cQ : ∀ dd os, Calls Tryz.prog 94 #[.agg #[.int .i64 k.config, .int .i64 k.clock, .slice a1 k.places.length c1, .slice a2 k.machines.length c2, .slice (some ⟨b, off, none⟩) k.txs.length c3, .bool k.lost], .int .i64 (atT k.txs i).home] (grow (redrawn X3 dd) os) fun e w'' => e = .returned (.bool (atM k.machines hm).alive) ∧ ∃ p : Regrown, w'' = grow (redrawn X3 p.d) p.os := fun dd os => by
        have hh := homeLives_any (grow (redrawn X3 dd) os) a1 c1 a2 c2 (some ⟨b, off, none⟩) c3 k hm hm1 (KD.out.2.2.2.2.2.1.later (below_regrown X3 dd os))
        rw [← HH.out] at hh
        exact Calls.regrown_of hh
      have c0 : ∀ dd os, (grow (redrawn X3 dd) os).cell? ⟨w.heap.size, 0, none⟩ = some (.int .i64 k.config) := fun dd os => (KD.out.2.2.2.2.2.2.later (below_regrown X3 dd os)).1 0 _ rfl
      have c1' : ∀ dd os, (grow (redrawn X3 dd) os).cell? ⟨w.heap.size, 1, none⟩ = some (.int .i64 k.clock) := fun dd os => (KD.out.2.2.2.2.2.2.later (below_regrown X3 dd os)).1 1 _ rfl
      have c2' : ∀ dd os, (grow (redrawn X3 dd) os).cell? ⟨w.heap.size, 2, none⟩ = some (.slice a1 k.places.length c1) := fun dd os => (KD.out.2.2.2.2.2.2.later (below_regrown X3 dd os)).1 2 _ rfl
      have c3' : ∀ dd os, (grow (redrawn X3 dd) os).cell? ⟨w.heap.size, 3, none⟩ = some (.slice a2 k.machines.length c2) := fun dd os => (KD.out.2.2.2.2.2.2.later (below_regrown X3 dd os)).1 3 _ rfl
      have c4' : ∀ dd os, (grow (redrawn X3 dd) os).cell? ⟨w.heap.size, 4, none⟩ = some (.slice (some ⟨b, off, none⟩) k.txs.length c3) := fun dd os => (KD.out.2.2.2.2.2.2.later (below_regrown X3 dd os)).1 4 _ rfl
      have c5' : ∀ dd os, (grow (redrawn X3 dd) os).cell? ⟨w.heap.size, 5, none⟩ = some (.bool k.lost) := fun dd os => (KD.out.2.2.2.2.2.2.later (below_regrown X3 dd os)).1 5 _ rfl
      have c8 : ∀ dd os, (grow (redrawn X3 dd) os).cell? ⟨X2.heap.size, 8, none⟩ = some (.int .i64 (atT k.txs i).home) := fun dd os => (KD.out.1.later (below_regrown X3 dd os)).1 8 _ rfl
      go_wp2_with fail
      refine wp_region_quiet_below (by kernel_rfl) (by kernel_rfl) ?_
      repeat (go_big_quiet_step (exact cQ _ _))
      refine wpQuiet_nil ?_
      intro _ hw'
      obtain ⟨⟨dq, osq⟩, hw''⟩ := hw'
      subst hw''
      have bq := below_regrown X3 dq osq
      have K5 : Hid (Bx (grow (redrawn X3 dq) osq) X2.heap.size [.int .i64 k.config, .int .i64 k.clock, .slice a1 k.places.length c1, .slice a2 k.machines.length c2, .slice (some ⟨b, off, none⟩) k.txs.length c3, .bool k.lost, .int .i64 (i : Int), .int .i64 (atT k.txs i).id, .int .i64 (atT k.txs i).home, .int .i64 (atT k.txs i).phase, .int .i64 (atT k.txs i).count, .slice u0 (atT k.txs i).reads.length u1, .slice u2 (atT k.txs i).sets.length u3, .int .i64 (atT k.txs i).stamp] ∧ KT.Ow (grow (redrawn X3 dq) osq) w.heap.size u0 u1 u2 u3 (atT k.txs i) (tx.OfT PR PS) ∧ (∀ q, tx.OfT PR PS q → q ≠ X2.heap.size) ∧ w.heap.size ≤ X2.heap.size ∧ Below w.heap.size w (grow (redrawn X3 dq) osq) ∧ KCl.Rd (grow (redrawn X3 dq) osq) a1 c1 a2 c2 (some ⟨b, off, none⟩) c3 k) := by
        obtain ⟨k1, k2, k3, k4, k5, k6, k7⟩ := KD.out
        exact ⟨k1.later bq, k2.later bq, k3, k4, bstep k5 bq, k6.later bq⟩
      clear bq cQ c0 c1' c2' c3' c4' c5' c8 KD
      generalize grow (redrawn X3 dq) osq = w5 at *
      cases hal : (atM k.machines hm).alive with
      | true =>
        have hz : codeB k y = 0 := by rw [HC.out, hal]; rfl
        have HZ := hidOf hz
        clear hz
        go_wp2
        go_ret
        refine .inr ⟨HZ.out, X2.heap.size, u0, u1, u2, u3, tx.OfT PR PS, rfl, ?_⟩
        rw [HT.out.1, HT.out.2]
        exact ⟨K5.out.1, K5.out.2.1, K5.out.2.2.1, K5.out.2.2.2.1, K5.out.2.2.2.2.1⟩
      | false =>
        have hz : codeB k y = 3 := by rw [HC.out, hal]; rfl
        have HX : Hid (∀ e w', RAns w5 k 3 e w' → DedAns w a1 c1 a2 c2 (some ⟨b, off, none⟩) c3 k y (codeB k y) e w') := fun e w' h => .inl ⟨by rw [hz]; decide, by rw [hz, H.out.2.2.2.2.2.2.2]; exact h.low K5.out.2.2.2.2.1⟩
        have hrf := dRefuse_any w5 X2.heap.size a1 c1 a2 c2 (some ⟨b, off, none⟩) c3 k [.int .i64 (i : Int), .int .i64 (atT k.txs i).id, .int .i64 (atT k.txs i).home, .int .i64 (atT k.txs i).phase, .int .i64 (atT k.txs i).count, .slice u0 (atT k.txs i).reads.length u1, .slice u2 (atT k.txs i).sets.length u3, .int .i64 (atT k.txs i).stamp] 3 H.out.2.2.2.2.2.2.1 K5.out.2.2.2.2.2 K5.out.1
        clear hz
        go_wp2_with fail
        refine hrf.mono ?_
        clear hrf
        intro e w6 hr
        have hr' := hr
        obtain ⟨b1, d1, b2, d2, b3, d3, P, rfl, -, -⟩ := hr
        have HR := hidOf hr'
        clear hr'
        go_wp2
        exact ⟨rfl, HX.out _ _ HR.out⟩
theorem Kd.Part.put {D V : Type} {K : Kd D V} {X : World} {B b n : Nat} {ys : List D} {g : Nat → Nat → Prop} (h : K.Part X B b n ys g) {i : Nat} (hi : i < ys.length) (hn : ys.length ≤ n) (v : V) (d : D) (Q : Nat → Prop) (ho : K.Ow X B v d Q) (hne : ∀ q, Q q → q ≠ b) (hap : ∀ j q, j < ys.length → g j q → ¬ Q q) :
    K.Part (putB X b (i * K.n) (K.cells v d)) B b n (ys.set i d) (fun j => if j = i then Q else g j) := by
  have hs : (putB X b (i * K.n) (K.cells v d)).heap.size = X.heap.size := putB_size _ _ _ _
  have hk : ∀ q, q ≠ b → (putB X b (i * K.n) (K.cells v d)).heap[q]? = X.heap[q]? := fun q hq => putB_block hq _ _ _
  have hc : i * K.n + K.n ≤ n * K.n := by rw [← Nat.succ_mul]; exact Nat.mul_le_mul_right _ (by omega)
  refine ⟨putB_room _ _ _ h.rm, fun j e hj => ?_, fun j q hj hq => ?_, fun j l q hj hl hjl h1 h2 => ?_⟩
  · by_cases hji : j = i
    · subst hji
      rw [List.getElem?_set_self hi] at hj
      obtain rfl := Option.some.inj hj
      refine ⟨v, fun t u hu => ?_, by simp only [if_pos]; exact K.keep ho (Nat.le_of_eq hs.symm) (fun q hq => hk q (hne q hq))⟩
      refine putB_cell _ _ _ (fun t h1 h2 => ?_) t u hu
      rw [K.len] at h2
      obtain ⟨z, hz, _⟩ := h.rm t (by omega)
      exact ⟨z, hz⟩
    · rw [List.getElem?_set_ne (fun e => hji e.symm)] at hj
      obtain ⟨v', h1, h2⟩ := h.at_ j e hj
      have hjl := (List.getElem?_eq_some_iff.1 hj).1
      refine ⟨v', fun t u hu => ?_, by simp only [if_neg hji]; exact K.keep h2 (Nat.le_of_eq hs.symm) (fun q hq => hk q (h.ne j q hjl hq))⟩
      have ht : t < K.n := by have := (List.getElem?_eq_some_iff.1 hu).1; rwa [K.len] at this
      refine (putB_out _ _ _ ?_).trans (h1 t u hu)
      rw [K.len]
      rcases Nat.lt_or_gt_of_ne hji with hlt | hgt
      · have := Nat.mul_le_mul_right K.n (Nat.succ_le_of_lt hlt); rw [Nat.succ_mul] at this; left; omega
      · have := Nat.mul_le_mul_right K.n (Nat.succ_le_of_lt hgt); rw [Nat.succ_mul] at this; right; omega
  · rw [List.length_set] at hj
    by_cases e : j = i
    · simp only [if_pos e] at hq; exact hne q hq
    · simp only [if_neg e] at hq; exact h.ne j q hj hq
  · rw [List.length_set] at hj hl
    by_cases e1 : j = i
    · by_cases e2 : l = i
      · omega
      · simp only [if_pos e1] at h1; simp only [if_neg e2] at h2; exact hap l q hl h2 h1
    · by_cases e2 : l = i
      · simp only [if_neg e1] at h1; simp only [if_pos e2] at h2; exact hap j q hj h1 h2
      · simp only [if_neg e1] at h1; simp only [if_neg e2] at h2; exact h.ap j l q hj hl hjl h1 h2
theorem KT.Ow.head {w : World} {B : Nat} {a : Option Addr} {b : Nat} {c : Option Addr} {d : Nat} {t : tx.T7} {P : Nat → Prop} (h : KT.Ow w B a b c d t P) (x1 x2 x3 x4 x5 : Int) : KT.Ow w B a b c d ⟨x1, x2, x3, x4, t.reads, t.sets, x5⟩ P := by
  obtain ⟨PR, PS, h1, h2, h3⟩ := h
  exact ⟨PR, PS, ⟨h1.r, h1.s, h1.rs, h1.rB, h1.sB⟩, h2, h3⟩
def setTx (k : C6) (i : Nat) (t : tx.T7) : C6 := ⟨k.config, k.clock, k.places, k.machines, k.txs.set i t, k.lost⟩
theorem clStore {Y : World} {B base p : Nat} {b1 : Option Addr} {d1 : Nat} {b2 : Option Addr} {d2 : Nat} {b3 : Option Addr} {d3 : Nat} {k : C6} {ps : List ((Nat × Nat) × List Int)} {gp : Nat → Nat → Prop} {ms : List (MV × M4)} {gm : Nat → Nat → Prop} {ts : List (tx.TV × tx.T7)} {gt : Nat → Nat → Prop}
    (hr : CL3 base p Y (.slice b1 k.places.length d1) (.slice b2 k.machines.length d2) (.slice b3 k.txs.length d3) ps gp ms gm ts gt) (e1 : ps.map (·.2) = k.places) (e2 : ms.map (·.2) = k.machines) (e3 : ts.map (·.2) = k.txs) {i : Nat} (hi : i < k.txs.length) (u0 : Option Addr) (u1 : Nat) (u2 : Option Addr) (u3 : Nat) (t' : tx.T7) (Q : Nat → Prop) (ho : KT.Ow Y B u0 u1 u2 u3 t' Q) (hB : B ≤ base) (hQ : ∀ q, Q q → q < base) :
    ∃ b, b3 = some ⟨b, 0, none⟩ ∧ base ≤ b ∧ b < Y.heap.size ∧ b ≠ p ∧ Room Y b (k.txs.length * 7) ∧ (∀ q, Q q → q ≠ b) ∧ ∃ P, (∀ q, P q → Q q ∨ base ≤ q) ∧ KCl.Ow (putB Y b (i * 7) (KTk.cells ⟨u0, u1, u2, u3⟩ t')) B b1 d1 b2 d2 b3 d3 (setTx k i t') P := by
  have ho1 := placesOwn hr.P e1
  have ho2 := hr.M.own e2
  have ho3 := hr.T.own e3
  obtain ⟨h3, hb3⟩ := ho3
  rcases h3 with h3 | ⟨b, g, rfl, hp, hpt, hg⟩
  · rw [h3] at hi; simp at hi
  have hbb := hb3 b hp
  have hgB : ∀ j q, j < k.txs.length → g j q → base ≤ q := fun j q hj hq => (hb3 q (hg j q hj hq)).1
  have hput := Kd.Part.put (K := KTk) (⟨hpt.rm, fun j d hj => by obtain ⟨v, h1, h2⟩ := hpt.at_ j d hj; exact ⟨v, h1, KTk.low h2 hB⟩, hpt.ne, hpt.ap⟩ : KTk.Part Y B b k.txs.length k.txs g) hi (Nat.le_refl _) ⟨u0, u1, u2, u3⟩ t' Q ho (fun q hq e => by have := hQ q hq; omega) (fun j q hj hq hq' => by have := hQ q hq'; have := hgB j q hj hq; omega)
  have far : ∀ q, q ≠ b → (putB Y b (i * 7) (KTk.cells ⟨u0, u1, u2, u3⟩ t')).heap[q]? = Y.heap[q]? := fun q hq => putB_block hq _ _ _
  have hsz : (putB Y b (i * 7) (KTk.cells ⟨u0, u1, u2, u3⟩ t')).heap.size = Y.heap.size := putB_size _ _ _ _
  have hbT : Kd.blk (.slice (some ⟨b, 0, none⟩) k.txs.length d3) ts gt b := .inl rfl
  have o1 : KP.Ow (putB Y b (i * 7) (KTk.cells ⟨u0, u1, u2, u3⟩ t')) B b1 k.places _ := (ho1.low hB).keep (Nat.le_of_eq hsz.symm) (fun q hq => far q (fun e => by subst e; exact hr.pt q hq hbT))
  have o2 : KMk.OwS (putB Y b (i * 7) (KTk.cells ⟨u0, u1, u2, u3⟩ t')) B b2 k.machines _ := (ho2.low hB).keep (Nat.le_of_eq hsz.symm) (fun q hq => far q (fun e => by subst e; exact hr.mt q hq hbT))
  refine ⟨b, rfl, hbb.1, hbb.2, hr.tp b hbT, hpt.rm, fun q hq e => by have := hQ q hq; omega, fun q => Kd.blk (.slice b1 k.places.length d1) ps gp q ∨ Kd.blk (.slice b2 k.machines.length d2) ms gm q ∨ (q = b ∨ (∃ j, j < k.txs.length ∧ j ≠ i ∧ g j q) ∨ Q q), fun q hq => by
    rcases hq with hq | hq | rfl | ⟨j, hj, _, hq⟩ | hq
    · exact .inr (hr.P.blocks hq).1
    · exact .inr (hr.M.blocks hq).1
    · exact .inr hbb.1
    · exact .inr (hb3 q (hg j q hj hq)).1
    · exact .inl hq, ⟨_, _, fun q => q = b ∨ (∃ j, j < k.txs.length ∧ j ≠ i ∧ g j q) ∨ Q q, o1, o2, ⟨.inr ⟨b, fun j => if j = i then Q else g j, rfl, .inl rfl, ?_, fun j q hj hq => ?_⟩, fun q hq => ?_⟩, fun _ hq => .inl hq, fun _ hq => .inr (.inl hq), fun _ hq => .inr (.inr hq), hr.pm, fun q hq hq' => ?_, fun q hq hq' => ?_⟩, fun q hq => ?_⟩
  · have : (k.txs.set i t').length = k.txs.length := by simp
    show KTk.Part _ B b (k.txs.set i t').length (k.txs.set i t') _
    rw [this]; exact hput
  · have hj' : j < k.txs.length := by simpa [setTx] using hj
    by_cases e : j = i
    · simp only [if_pos e] at hq; exact .inr (.inr hq)
    · simp only [if_neg e] at hq; exact .inr (.inl ⟨j, hj', e, hq⟩)
  · rw [hsz]
    rcases hq with rfl | ⟨j, hj, _, hq⟩ | hq
    · exact ⟨by omega, hbb.2⟩
    · have := hb3 q (hg j q hj hq); exact ⟨by omega, this.2⟩
    · exact ho.of hq
  · rcases hq' with rfl | ⟨j, hj, _, hx⟩ | hx
    · exact hr.pt q hq hbT
    · exact hr.pt q hq (hg j q hj hx)
    · have := (hr.P.blocks hq).1; have := hQ q hx; omega
  · rcases hq' with rfl | ⟨j, hj, _, hx⟩ | hx
    · exact hr.mt q hq hbT
    · exact hr.mt q hq (hg j q hj hx)
    · have := (hr.M.blocks hq).1; have := hQ q hx; omega
  · rw [hsz]
    rcases hq with hq | hq | rfl | ⟨j, hj, _, hq⟩ | hq
    · have := hr.P.blocks hq; exact ⟨by omega, this.2⟩
    · have := hr.M.blocks hq; exact ⟨by omega, this.2⟩
    · exact ⟨by omega, hbb.2⟩
    · have := hb3 q (hg j q hj hq); exact ⟨by omega, this.2⟩
    · exact ho.of hq
set_option maxRecDepth 100000 in
set_option maxHeartbeats 2000000 in
theorem runningDeed_any (w : World) (a1 : Option Addr) (c1 : Nat) (a2 : Option Addr) (c2 : Nat) (a3 : Option Addr) (c3 : Nat) (k : C6) (y : Int) (hl : KCl.L k) (h : KCl.Rd w a1 c1 a2 c2 a3 c3 k) :
    Calls Tryz.prog 53 #[.agg #[.int .i64 k.config, .int .i64 k.clock, .slice a1 k.places.length c1, .slice a2 k.machines.length c2, .slice a3 k.txs.length c3, .bool k.lost], .int .i64 y] w (DedAns w a1 c1 a2 c2 a3 c3 k y (runC k y)) := by
  obtain ⟨W0, hW0⟩ : ∃ Y, Y = w.alloc (.cells #[.int .i64 k.config, .int .i64 k.clock, .slice a1 k.places.length c1, .slice a2 k.machines.length c2, .slice a3 k.txs.length c3, .bool k.lost] 32) := ⟨_, rfl⟩
  have b0 : Below w.heap.size w W0 := by rw [hW0]; exact (Below.refl _ _).alloc (Nat.le_refl _) _
  have hc := deedOf_any W0 a1 c1 a2 c2 a3 c3 k y hl (h.later b0)
  have H : Hid (Below w.heap.size w W0 ∧ KCl.Rd w a1 c1 a2 c2 a3 c3 k) := ⟨b0, h⟩
  clear b0 h hl
  go_enter Tryz.func53, Tryz.ntmps53
  go_wp2_with fail
  rw [← hW0]
  clear hW0
  refine hc.mono ?_
  clear hc
  rintro e w1 (⟨hn, hr⟩ | ⟨hz, d, u0, u1, u2, u3, P, rfl, hbx, how, hpd, hdw, b1⟩)
  · have HX : Hid (DedAns w a1 c1 a2 c2 a3 c3 k y (runC k y) e w1) := .inl ⟨by simp [runC, hn], by rw [show runC k y = codeB k y by simp [runC, hn]]; exact hr.low H.out.1⟩
    obtain ⟨b1, d1, b2, d2, b3, d3, P, rfl, -, -⟩ := hr
    go_wp2
    exact ⟨rfl, HX.out⟩
  · have hk : clusterB k = true := by
      cases hk : clusterB k with
      | true => rfl
      | false => simp [codeB, hk] at hz
    have K1 : Hid (Bx w1 d [.int .i64 k.config, .int .i64 k.clock, .slice a1 k.places.length c1, .slice a2 k.machines.length c2, .slice a3 k.txs.length c3, .bool k.lost, .int .i64 (atId k.txs y), .int .i64 (txAt k y).id, .int .i64 (txAt k y).home, .int .i64 (txAt k y).phase, .int .i64 (txAt k y).count, .slice u0 (txAt k y).reads.length u1, .slice u2 (txAt k y).sets.length u3, .int .i64 (txAt k y).stamp] ∧ KT.Ow w1 w.heap.size u0 u1 u2 u3 (txAt k y) P ∧ (∀ q, P q → q ≠ d) ∧ w.heap.size ≤ d ∧ Below w.heap.size w w1 ∧ KCl.Rd w1 a1 c1 a2 c2 a3 c3 k) := ⟨hbx, how.low H.out.1.size, hpd, Nat.le_trans H.out.1.size hdw, bstep H.out.1 b1, H.out.2.later (bstep H.out.1 b1)⟩
    have p9 := hbx.1 9 _ rfl
    clear hbx how hpd hdw b1
    by_cases hph : (txAt k y).phase = 1
    · have hrun : runC k y = 0 := by simp [runC, hz, hph]
      have HZ := hidOf hrun
      rw [hph] at p9
      clear hz hrun hph
      go_wp2
      go_ret
      exact .inr ⟨HZ.out, d, u0, u1, u2, u3, P, rfl, K1.out.1, K1.out.2.1, K1.out.2.2.1, K1.out.2.2.2.1, K1.out.2.2.2.2.1⟩
    · have hrun : runC k y = 4 := by simp [runC, hz, hph]
      have hne : ((txAt k y).phase != 1) = true := by simpa using hph
      have hleft : leftC k = k := by simp [leftC, hk]
      have HX : Hid (∀ e w', RAns w1 k 4 e w' → DedAns w a1 c1 a2 c2 a3 c3 k y (runC k y) e w') := fun e w' h => .inl ⟨by rw [hrun]; decide, by rw [hrun, hleft]; exact h.low K1.out.2.2.2.2.1⟩
      have hrf := dRefuse_any w1 d a1 c1 a2 c2 a3 c3 k [.int .i64 (atId k.txs y), .int .i64 (txAt k y).id, .int .i64 (txAt k y).home, .int .i64 (txAt k y).phase, .int .i64 (txAt k y).count, .slice u0 (txAt k y).reads.length u1, .slice u2 (txAt k y).sets.length u3, .int .i64 (txAt k y).stamp] 4 hk K1.out.2.2.2.2.2 K1.out.1
      clear hz hrun hph hleft hk
      go_wp2_with fail
      refine hrf.mono ?_
      clear hrf
      intro e w6 hr
      have hr' := hr
      obtain ⟨b1, d1, b2, d2, b3, d3, P, rfl, -, -⟩ := hr
      have HR := hidOf hr'
      clear hr'
      go_wp2
      exact ⟨rfl, HX.out _ _ HR.out⟩
def runI (k : C6) (y : Int) : Int := if runC k y = 0 then (atId k.txs y : Int) else -1
theorem runI_no {k : C6} {y : Int} (h : runC k y ≠ 0) : runI k y = -1 := if_neg h
theorem runI_yes {k : C6} {y : Int} (h : runC k y = 0) : runI k y = (atId k.txs y : Int) := if_pos h
set_option maxRecDepth 100000 in
set_option maxHeartbeats 2000000 in
theorem l9No_any (w : World) (a1 : Option Addr) (c1 : Nat) (a2 : Option Addr) (c2 : Nat) (a3 : Option Addr) (c3 : Nat) (k : C6) (n : Int) (h : KCl.Rd w a1 c1 a2 c2 a3 c3 k) (hk : clusterB k = true ∨ n = 1) (hn : clusterB k = true → n ≠ 1) :
    Calls Tryz.prog 30 #[.agg #[.int .i64 k.config, .int .i64 k.clock, .slice a1 k.places.length c1, .slice a2 k.machines.length c2, .slice a3 k.txs.length c3, .bool k.lost], .int .i64 n] w (FcAns w (leftC k) n) := by
  obtain ⟨W0, hW0⟩ : ∃ Y, Y = (w.alloc (.cells #[.int .i64 k.config, .int .i64 k.clock, .slice a1 k.places.length c1, .slice a2 k.machines.length c2, .slice a3 k.txs.length c3, .bool k.lost] 32)).alloc (.cells #[.int .i64 0, .int .i64 0, .slice none 0 0, .slice none 0 0, .slice none 0 0, .bool false] 32) := ⟨_, rfl⟩
  have b0 : Below w.heap.size w W0 := by rw [hW0]; exact ((Below.refl _ _).alloc (Nat.le_refl _) _).alloc (by simp) _
  have s0 : W0.heap.size = w.heap.size + 2 := by rw [hW0]; simp
  have x0 : Bx W0 w.heap.size [.int .i64 k.config, .int .i64 k.clock, .slice a1 k.places.length c1, .slice a2 k.machines.length c2, .slice a3 k.txs.length c3, .bool k.lost] := by
    have := (Bx.made w [.int .i64 k.config, .int .i64 k.clock, .slice a1 k.places.length c1, .slice a2 k.machines.length c2, .slice a3 k.txs.length c3, .bool k.lost] 32).later ((Below.refl _ _).alloc (Nat.le_refl _) (.cells #[.int .i64 0, .int .i64 0, .slice none 0 0, .slice none 0 0, .slice none 0 0, .bool false] 32))
    rw [hW0]; exact this
  have x1 : Bx W0 (w.heap.size + 1) [.int .i64 0, .int .i64 0, .slice none 0 0, .slice none 0 0, .slice none 0 0, .bool false] := by
    have h := Bx.made (w.alloc (.cells #[.int .i64 k.config, .int .i64 k.clock, .slice a1 k.places.length c1, .slice a2 k.machines.length c2, .slice a3 k.txs.length c3, .bool k.lost] 32)) [.int .i64 0, .int .i64 0, .slice none 0 0, .slice none 0 0, .slice none 0 0, .bool false] 32
    rw [show (w.alloc (.cells #[.int .i64 k.config, .int .i64 k.clock, .slice a1 k.places.length c1, .slice a2 k.machines.length c2, .slice a3 k.txs.length c3, .bool k.lost] 32)).heap.size = w.heap.size + 1 by simp] at h
    rw [hW0]; exact h
  have H : Hid (Below w.heap.size w W0 ∧ W0.heap.size = w.heap.size + 2 ∧ Bx W0 (w.heap.size + 1) [.int .i64 0, .int .i64 0, .slice none 0 0, .slice none 0 0, .slice none 0 0, .bool false]) := ⟨b0, s0, x1⟩
  cases hkb : clusterB k with
  | false =>
    obtain rfl : n = 1 := by rcases hk with h1 | h1; rw [h1] at hkb; cases hkb; exact h1
    have hleft : leftC k = zC := by simp [leftC, hkb]
    have HL := hidOf hleft
    have r0 := x1.1 0 _ rfl
    have r1 := x1.1 1 _ rfl
    have r2 := x1.1 2 _ rfl
    have r3 := x1.1 3 _ rfl
    have r4 := x1.1 4 _ rfl
    have r5 := x1.1 5 _ rfl
    have f0 := x1.2.1 0
    have f1 := x1.2.1 1
    have f2 := x1.2.1 2
    have f3 := x1.2.1 3
    have f4 := x1.2.1 4
    have f5 := x1.2.1 5
    have q0 := r0
    have q1 := r1
    have q2 := r2
    have q3 := r3
    have q4 := r4
    have q5 := r5
    rw [hW0] at r0 r1 r2 r3 r4 r5 f0 f1 f2 f3 f4 f5
    clear b0 s0 x0 x1 h hk hn hleft hkb
    go_enter Tryz.func30, Tryz.ntmps30
    go_wp2
    rw [← hW0]
    refine bodyPost_ret (v := .tuple #[.agg #[.int .i64 0, .int .i64 0, .slice none 0 0, .slice none 0 0, .slice none 0 0, .bool false], .int .i64 1]) (by simp [results, Tryz.results30, go_sem, q0, q1, q2, q3, q4, q5]) rfl ?_
    rw [HL.out]
    refine ⟨none, 0, none, 0, none, 0, fun _ => False, rfl, zC_ow _ _, ?_⟩
    exact H.out.1
  | true =>
    have hne := hn hkb
    have hleft : leftC k = k := by simp [leftC, hkb]
    have HL := hidOf hleft
    have hb : (n == 1) = false := by simpa using hne
    have hc := l8Copy_any W0 a1 c1 a2 c2 a3 c3 k hkb (h.later b0)
    have p0 := x0.1 0 _ rfl
    have p1 := x0.1 1 _ rfl
    have p2 := x0.1 2 _ rfl
    have p3 := x0.1 3 _ rfl
    have p4 := x0.1 4 _ rfl
    have p5 := x0.1 5 _ rfl
    rw [hW0] at p0 p1 p2 p3 p4 p5
    clear b0 s0 x0 x1 h hk hn hleft hkb hne
    go_enter Tryz.func30, Tryz.ntmps30
    go_wp2_with fail
    rw [← hW0]
    clear hW0 p0 p1 p2 p3 p4 p5
    refine hc.mono ?_
    clear hc
    rintro e w1 ⟨b1, d1, b2, d2, b3, d3, ps, gp, ms, gm, ts, gt, rfl, hr, e1, e2, e3, bl⟩
    obtain ⟨h1, h2, h3⟩ := H.out
    have y0 := h3.later bl
    have r0 := y0.1 0 _ rfl
    have r1 := y0.1 1 _ rfl
    have r2 := y0.1 2 _ rfl
    have r3 := y0.1 3 _ rfl
    have r4 := y0.1 4 _ rfl
    have r5 := y0.1 5 _ rfl
    have f0 := y0.2.1 0
    have f1 := y0.2.1 1
    have f2 := y0.2.1 2
    have f3 := y0.2.1 3
    have f4 := y0.2.1 4
    have f5 := y0.2.1 5
    have KE : Hid (KCl.Ow w1 (W0.heap.size + 3) b1 d1 b2 d2 b3 d3 k (fun q => Kd.blk (.slice b1 k.places.length d1) ps gp q ∨ Kd.blk (.slice b2 k.machines.length d2) ms gm q ∨ Kd.blk (.slice b3 k.txs.length d3) ts gt q) ∧ Below w.heap.size w w1 ∧ W0.heap.size = w.heap.size + 2) := ⟨hr.ow e1 e2 e3, bstep h1 bl, h2⟩
    clear hr e1 e2 e3 bl y0 h1 h2 h3 H
    go_wp2
    refine bodyPost_ret (v := .tuple #[.agg #[.int .i64 k.config, .int .i64 k.clock, .slice b1 k.places.length d1, .slice b2 k.machines.length d2, .slice b3 k.txs.length d3, .bool k.lost], .int .i64 n]) (by simp [results, Tryz.results30, go_sem, r0, r1, r2, r3, r4, r5]) rfl ?_
    rw [HL.out]
    refine ⟨b1, d1, b2, d2, b3, d3, _, rfl, (KE.out.1.low (show w.heap.size ≤ _ by have := KE.out.2.2; omega)).keep (w' := putB w1 (w.heap.size + 1) 0 [.int .i64 k.config, .int .i64 k.clock, .slice b1 k.places.length d1, .slice b2 k.machines.length d2, .slice b3 k.txs.length d3, .bool k.lost]) (by rw [putB_size]; exact Nat.le_refl _) (fun q hq => putB_block (fun e => by have := (KE.out.1.of hq).1; have := KE.out.2.2; omega) _ _ _), ?_⟩
    exact putB_below (w := w) (by omega) [.int .i64 k.config, .int .i64 k.clock, .slice b1 k.places.length d1, .slice b2 k.machines.length d2, .slice b3 k.txs.length d3, .bool k.lost] w1 0 KE.out.2.1
set_option maxRecDepth 100000 in
set_option maxHeartbeats 2000000 in
theorem l9Runs_any (w : World) (a1 : Option Addr) (c1 : Nat) (a2 : Option Addr) (c2 : Nat) (a3 : Option Addr) (c3 : Nat) (k : C6) (y : Int) (hl : KCl.L k) (h : KCl.Rd w a1 c1 a2 c2 a3 c3 k) :
    Calls Tryz.prog 50 #[.agg #[.int .i64 k.config, .int .i64 k.clock, .slice a1 k.places.length c1, .slice a2 k.machines.length c2, .slice a3 k.txs.length c3, .bool k.lost], .int .i64 y] w fun e w' => e = .returned (.tuple #[.int .i64 (runI k y), .int .i64 (runC k y)]) ∧ Below w.heap.size w w' := by
  obtain ⟨W0, hW0⟩ : ∃ Y, Y = w.alloc (.cells #[.int .i64 k.config, .int .i64 k.clock, .slice a1 k.places.length c1, .slice a2 k.machines.length c2, .slice a3 k.txs.length c3, .bool k.lost] 32) := ⟨_, rfl⟩
  have b0 : Below w.heap.size w W0 := by rw [hW0]; exact (Below.refl _ _).alloc (Nat.le_refl _) _
  have x0 : Bx W0 w.heap.size [.int .i64 k.config, .int .i64 k.clock, .slice a1 k.places.length c1, .slice a2 k.machines.length c2, .slice a3 k.txs.length c3, .bool k.lost] := by rw [hW0]; exact Bx.made w [.int .i64 k.config, .int .i64 k.clock, .slice a1 k.places.length c1, .slice a2 k.machines.length c2, .slice a3 k.txs.length c3, .bool k.lost] _
  have hc := specClusterOk_any W0 a1 c1 a2 c2 a3 c3 k hl (h.later b0)
  have p0 := x0.1 0 _ rfl
  have p1 := x0.1 1 _ rfl
  have p2 := x0.1 2 _ rfl
  have p3 := x0.1 3 _ rfl
  have p4 := x0.1 4 _ rfl
  have p5 := x0.1 5 _ rfl
  have H : Hid (Below w.heap.size w W0 ∧ Bx W0 w.heap.size [.int .i64 k.config, .int .i64 k.clock, .slice a1 k.places.length c1, .slice a2 k.machines.length c2, .slice a3 k.txs.length c3, .bool k.lost] ∧ KCl.Rd W0 a1 c1 a2 c2 a3 c3 k ∧ KCl.L k) := ⟨b0, x0, h.later b0, hl⟩
  rw [hW0] at p0 p1 p2 p3 p4 p5
  clear b0 x0 h hl
  go_enter Tryz.func50, Tryz.ntmps50
  go_wp2_with fail
  rw [← hW0]
  clear hW0 p0 p1 p2 p3 p4 p5
  refine hc.mono ?_
  clear hc
  rintro e w1 ⟨rfl, b1⟩
  have B1 : Hid (Below w.heap.size w w1 ∧ Bx w1 w.heap.size [.int .i64 k.config, .int .i64 k.clock, .slice a1 k.places.length c1, .slice a2 k.machines.length c2, .slice a3 k.txs.length c3, .bool k.lost] ∧ KCl.Rd w1 a1 c1 a2 c2 a3 c3 k) := ⟨bstep H.out.1 b1, H.out.2.1.later b1, H.out.2.2.1.later b1⟩
  clear b1
  cases hk : clusterB k with
  | false =>
    have hr : runC k y = 1 := by simp [runC, codeB, hk]
    have HR := hidOf hr
    clear hr
    go_wp2
    refine bodyPost_ret (v := .tuple #[.int .i64 (-1), .int .i64 1]) (by simp [results, Tryz.results50, go_sem]) rfl ?_
    exact ⟨by rw [runI_no (by rw [HR.out]; decide), HR.out], B1.out.1⟩
  | true =>
    have hf := l8Find_any w1 a1 c1 a2 c2 a3 c3 k y H.out.2.2.2 B1.out.2.2
    have q0 := B1.out.2.1.1 0 _ rfl
    have q1 := B1.out.2.1.1 1 _ rfl
    have q2 := B1.out.2.1.1 2 _ rfl
    have q3 := B1.out.2.1.1 3 _ rfl
    have q4 := B1.out.2.1.1 4 _ rfl
    have q5 := B1.out.2.1.1 5 _ rfl
    have HK := hidOf hk
    clear hk
    go_wp2_with fail
    refine hf.mono ?_
    clear hf q0 q1 q2 q3 q4 q5
    rintro e w2 ⟨⟨z, rfl, hfirst⟩, b2⟩
    have B2 : Hid (Below w.heap.size w w2 ∧ Bx w2 w.heap.size [.int .i64 k.config, .int .i64 k.clock, .slice a1 k.places.length c1, .slice a2 k.machines.length c2, .slice a3 k.txs.length c3, .bool k.lost] ∧ KCl.Rd w2 a1 c1 a2 c2 a3 c3 k) := ⟨bstep B1.out.1 b2, B1.out.2.1.later b2, B1.out.2.2.later b2⟩
    clear b2 B1
    rcases atId_first hfirst with ⟨rfl, hat⟩ | ⟨i, rfl, hi, hat⟩
    · have hr : runC k y = 2 := by simp [runC, codeB, HK.out, hat]
      have HR := hidOf hr
      clear hr hat hfirst
      go_wp2
      refine bodyPost_ret (v := .tuple #[.int .i64 (-1), .int .i64 2]) (by simp [results, Tryz.results50, go_sem]) rfl ?_
      exact ⟨by rw [runI_no (by rw [HR.out]; decide), HR.out], B2.out.1⟩
    · clear hfirst
      obtain ⟨hm0, hm1⟩ := clu_home HK.out hi
      obtain ⟨hm, hhm⟩ : ∃ m : Nat, (atT k.txs i).home = (m : Int) := ⟨(atT k.txs i).home.toNat, by omega⟩
      have hml : hm < k.machines.length := by omega
      have hcode : codeB k y = if (atM k.machines hm).alive = true then 0 else 3 := by simp only [codeB, HK.out, if_true, hat, hi, homeB, txAt, hhm, Int.toNat_natCast]
      have HC : Hid (codeB k y = (if (atM k.machines hm).alive = true then 0 else 3) ∧ atId k.txs y = i ∧ txAt k y = atT k.txs i) := ⟨hcode, hat, by rw [txAt, hat]⟩
      rcases B2.out.2.2.t with e0 | ⟨b, off, rfl, hb, hrd⟩
      · rw [e0] at hi; simp at hi
      obtain ⟨⟨t0, t1, t2, t3⟩, hel, -⟩ := hrd i _ (atT_of hi)
      rcases B2.out.2.2.m with e0 | ⟨mb, mo, rfl, hmb, hmrd⟩
      · rw [e0] at hml; simp at hml
      obtain ⟨⟨m0, m1, m2, m3, m4, m5⟩, hmel, -⟩ := hmrd hm _ (atM_of hml)
      have g1 : w2.cell? ⟨b, off + i * 7 + 1, none⟩ = some (.int .i64 (hm : Int)) := by rw [← hhm]; exact hel 1 _ rfl
      have g2 : w2.cell? ⟨b, off + i * 7 + 2, none⟩ = some (.int .i64 (atT k.txs i).phase) := hel 2 _ rfl
      have g3 : w2.cell? ⟨mb, mo + hm * 4, none⟩ = some (.bool (atM k.machines hm).alive) := hmel 0 _ rfl
      have q3 := B2.out.2.1.1 3 _ rfl
      have q4 := B2.out.2.1.1 4 _ rfl
      have jn : (i : Int) < (k.txs.length : Int) := by omega
      have jm : (hm : Int) < (k.machines.length : Int) := by omega
      have dn : decide ((i : Int) < 0) = false := by simp
      have x1 : ∀ dd os, (grow (redrawn w2 dd) os).cell? ⟨b, off + i * 7 + 1, none⟩ = some (.int .i64 (hm : Int)) := fun dd os => ((below_regrown w2 dd os).cell (p := ⟨b, off + i * 7 + 1, none⟩) hb).trans g1
      have x3 : ∀ dd os, (grow (redrawn w2 dd) os).cell? ⟨mb, mo + hm * 4, none⟩ = some (.bool (atM k.machines hm).alive) := fun dd os => ((below_regrown w2 dd os).cell (p := ⟨mb, mo + hm * 4, none⟩) hmb).trans g3
      have x4 : ∀ dd os, (grow (redrawn w2 dd) os).cell? ⟨w.heap.size, 3, none⟩ = some (.slice (some ⟨mb, mo, none⟩) k.machines.length c2) := fun dd os => (B2.out.2.1.later (below_regrown w2 dd os)).1 3 _ rfl
      have x5 : ∀ dd os, (grow (redrawn w2 dd) os).cell? ⟨w.heap.size, 4, none⟩ = some (.slice (some ⟨b, off, none⟩) k.txs.length c3) := fun dd os => (B2.out.2.1.later (below_regrown w2 dd os)).1 4 _ rfl
      have HG2 : Hid (w2.cell? ⟨b, off + i * 7 + 2, none⟩ = some (.int .i64 (atT k.txs i).phase) ∧ b < w2.heap.size) := ⟨g2, hb⟩
      clear hm0 hm1 hcode hat hrd hel hmrd hmel g1 g2 g3 hhm q3 q4 hb hmb
      go_wp2_with fail
      refine wp_region_quiet_below (by kernel_rfl) (by kernel_rfl) ?_
      repeat (go_big_quiet_step (fail))
      refine wpQuiet_nil ?_
      intro _ hw'
      obtain ⟨⟨dq, osq⟩, hw''⟩ := hw'
      subst hw''
      have bq := below_regrown w2 dq osq
      have B3 : Hid (Below w.heap.size w (grow (redrawn w2 dq) osq)) := bstep B2.out.1 bq
      have y4 := x5 dq osq
      have y2 : (grow (redrawn w2 dq) osq).cell? ⟨b, off + i * 7 + 2, none⟩ = some (.int .i64 (atT k.txs i).phase) := (bq.cell (p := ⟨b, off + i * 7 + 2, none⟩) HG2.out.2).trans HG2.out.1
      clear bq x1 x3 x4 x5 B2 HG2
      generalize grow (redrawn w2 dq) osq = w3 at *
      cases hal : (atM k.machines hm).alive with
      | false =>
        have hr : runC k y = 3 := by
          have : codeB k y = 3 := by rw [HC.out.1, hal]; rfl
          simp [runC, this]
        have HR := hidOf hr
        clear hr
        go_wp2
        refine bodyPost_ret (v := .tuple #[.int .i64 (-1), .int .i64 3]) (by simp [results, Tryz.results50, go_sem]) rfl ?_
        exact ⟨by rw [runI_no (by rw [HR.out]; decide), HR.out], B3.out⟩
      | true =>
        have hc0 : codeB k y = 0 := by rw [HC.out.1, hal]; rfl
        by_cases hph : (atT k.txs i).phase = 1
        · have hr : runC k y = 0 := by simp [runC, hc0, HC.out.2.2, hph]
          have HR := hidOf hr
          rw [hph] at y2
          clear hr hc0 hph
          go_wp2
          refine bodyPost_ret (v := .tuple #[.int .i64 (i : Int), .int .i64 0]) (by simp [results, Tryz.results50, go_sem]) rfl ?_
          exact ⟨by rw [runI_yes HR.out, HR.out, HC.out.2.1], B3.out⟩
        · have hr : runC k y = 4 := by simp [runC, hc0, HC.out.2.2, hph]
          have HR := hidOf hr
          have hne : ((atT k.txs i).phase != 1) = true := by simpa using hph
          clear hr hc0 hph
          go_wp2
          refine bodyPost_ret (v := .tuple #[.int .i64 (-1), .int .i64 4]) (by simp [results, Tryz.results50, go_sem]) rfl ?_
          exact ⟨by rw [runI_no (by rw [HR.out]; decide), HR.out], B3.out⟩
def COw (X : World) (B : Nat) (k : C6) (e : Ending) (w' : World) : Prop := ∃ (a1 : Option Addr) (c1 : Nat) (a2 : Option Addr) (c2 : Nat) (a3 : Option Addr) (c3 : Nat) (P : Nat → Prop), e = .returned (.agg #[.int .i64 k.config, .int .i64 k.clock, .slice a1 k.places.length c1, .slice a2 k.machines.length c2, .slice a3 k.txs.length c3, .bool k.lost]) ∧ KCl.Ow w' B a1 c1 a2 c2 a3 c3 k P ∧ Below X.heap.size X w'
set_option maxRecDepth 100000 in
set_option maxHeartbeats 2000000 in
theorem done_any (w : World) (B d : Nat) (a1 : Option Addr) (c1 : Nat) (a2 : Option Addr) (c2 : Nat) (a3 : Option Addr) (c3 : Nat) (k : C6) (i : Nat) (t' : tx.T7) (u0 : Option Addr) (u1 : Nat) (u2 : Option Addr) (u3 : Nat) (P : Nat → Prop) (hk : clusterB k = true) (hi : i < k.txs.length) (h : KCl.Rd w a1 c1 a2 c2 a3 c3 k) (hd : Bx w d [.int .i64 k.config, .int .i64 k.clock, .slice a1 k.places.length c1, .slice a2 k.machines.length c2, .slice a3 k.txs.length c3, .bool k.lost, .int .i64 (i : Int), .int .i64 t'.id, .int .i64 t'.home, .int .i64 t'.phase, .int .i64 t'.count, .slice u0 t'.reads.length u1, .slice u2 t'.sets.length u3, .int .i64 t'.stamp]) (ho : KT.Ow w B u0 u1 u2 u3 t' P) (hB : B ≤ w.heap.size) :
    Calls Tryz.prog 57 #[.pointer (some ⟨d, 0, none⟩)] w (COw w B (setTx k i t')) := by
  obtain ⟨W0, hW0⟩ : ∃ Y, Y = w.alloc (.cells #[.int .i64 0, .int .i64 0, .slice none 0 0, .slice none 0 0, .slice none 0 0, .bool false] 32) := ⟨_, rfl⟩
  have b0 : Below w.heap.size w W0 := by rw [hW0]; exact (Below.refl _ _).alloc (Nat.le_refl _) _
  have x0 : Bx W0 w.heap.size [.int .i64 0, .int .i64 0, .slice none 0 0, .slice none 0 0, .slice none 0 0, .bool false] := by rw [hW0]; exact Bx.made w [.int .i64 0, .int .i64 0, .slice none 0 0, .slice none 0 0, .slice none 0 0, .bool false] _
  have d0 := hd.later b0
  have p0 := d0.1 0 _ rfl
  have p1 := d0.1 1 _ rfl
  have p2 := d0.1 2 _ rfl
  have p3 := d0.1 3 _ rfl
  have p4 := d0.1 4 _ rfl
  have p5 := d0.1 5 _ rfl
  have hc := ownCluster_any W0 a1 c1 a2 c2 a3 c3 k hk (h.later b0)
  have n60 := (CSm.of hk).t
  have H : Hid (Below w.heap.size w W0 ∧ Bx W0 w.heap.size [.int .i64 0, .int .i64 0, .slice none 0 0, .slice none 0 0, .slice none 0 0, .bool false] ∧ Bx W0 d [.int .i64 k.config, .int .i64 k.clock, .slice a1 k.places.length c1, .slice a2 k.machines.length c2, .slice a3 k.txs.length c3, .bool k.lost, .int .i64 (i : Int), .int .i64 t'.id, .int .i64 t'.home, .int .i64 t'.phase, .int .i64 t'.count, .slice u0 t'.reads.length u1, .slice u2 t'.sets.length u3, .int .i64 t'.stamp] ∧ KT.Ow W0 B u0 u1 u2 u3 t' P ∧ B ≤ w.heap.size ∧ (∀ q, P q → q < w.heap.size) ∧ d < w.heap.size) := ⟨b0, x0, d0, ho.later b0, hB, fun q hq => (ho.of hq).2, hd.2.2⟩
  rw [hW0] at p0 p1 p2 p3 p4 p5
  clear b0 x0 d0 h hd ho hB hk
  go_enter Tryz.func57, Tryz.ntmps57
  go_wp2_with fail
  rw [← hW0]
  clear hW0
  refine hc.mono ?_
  clear hc
  rintro e w1 ⟨b1, d1, b2, d2, b3, d3, ps, gp, ms, gm, ts, gt, rfl, hr, e1, e2, e3, bl⟩
  clear p0 p1 p2 p3 p4 p5
  obtain ⟨W2, hW2⟩ : ∃ Y, Y = w1.alloc (.cells #[.int .i64 k.config, .int .i64 k.clock, .slice b1 k.places.length d1, .slice b2 k.machines.length d2, .slice b3 k.txs.length d3, .bool k.lost] 32) := ⟨_, rfl⟩
  have bb2 : Below w1.heap.size w1 W2 := by rw [hW2]; exact (Below.refl _ _).alloc (Nat.le_refl _) _
  have x2 : Bx W2 w1.heap.size [.int .i64 k.config, .int .i64 k.clock, .slice b1 k.places.length d1, .slice b2 k.machines.length d2, .slice b3 k.txs.length d3, .bool k.lost] := by rw [hW2]; exact Bx.made w1 [.int .i64 k.config, .int .i64 k.clock, .slice b1 k.places.length d1, .slice b2 k.machines.length d2, .slice b3 k.txs.length d3, .bool k.lost] _
  obtain ⟨hw0, hx0, hd0, ho0, hB, hPq, hdw⟩ := H.out
  have bd : Below W2.heap.size W2 W2.drew := (Below.refl _ _).drew
  have bW : Below W0.heap.size W0 W2.drew := bstep (bstep bl bb2) bd
  have hW0s : w.heap.size < W0.heap.size := hx0.2.2
  obtain ⟨b, hb3, hb1, hb2', hbp, hroom, hQb, PP, hPP, hOW⟩ := clStore (hr.later (bstep bb2 bd)) e1 e2 e3 hi u0 u1 u2 u3 t' P (ho0.later bW) (show B ≤ W0.heap.size + 3 by omega) (fun q hq => by have := hPq q hq; omega)
  subst hb3
  have hSX : (fun X : World => Bx X w1.heap.size [.int .i64 k.config, .int .i64 k.clock, .slice b1 k.places.length d1, .slice b2 k.machines.length d2, .slice (some ⟨b, 0, none⟩) k.txs.length d3, .bool k.lost] ∧ Bx X d [.int .i64 k.config, .int .i64 k.clock, .slice a1 k.places.length c1, .slice a2 k.machines.length c2, .slice a3 k.txs.length c3, .bool k.lost, .int .i64 (i : Int), .int .i64 t'.id, .int .i64 t'.home, .int .i64 t'.phase, .int .i64 t'.count, .slice u0 t'.reads.length u1, .slice u2 t'.sets.length u3, .int .i64 t'.stamp]) W2.drew := ⟨x2.later bd, hd0.later bW⟩
  have HP : Hid (∀ q, PP q → q ≠ w.heap.size) := fun q hq e => by rcases hPP q hq with h | h; have := hPq q h; omega; omega
  have jn : (i : Int) < (k.txs.length : Int) := by omega
  have r0 : ∀ j, j < 7 → ∃ v, W2.drew.cell? ⟨b, i * 7 + j, none⟩ = some v ∧ W2.drew.frozen? ⟨b, i * 7 + j, none⟩ = false := fun j hj => hroom (i * 7 + j) (by omega)
  have hne1 : b ≠ w1.heap.size := fun e => by have := hbp; have hs := bl.size; have hc := (hr.T.blocks (.inl (by rfl : (Value.slice (some ⟨b, 0, none⟩) k.txs.length d3).ownBlock = some b))).2; omega
  have hne0 : b ≠ w.heap.size := fun e => by omega
  have KH : Hid (KCl.Ow (putB W2.drew b (i * 7) (KTk.cells ⟨u0, u1, u2, u3⟩ t')) B b1 d1 b2 d2 (some ⟨b, 0, none⟩) d3 (setTx k i t') PP ∧ Below w.heap.size w W2.drew ∧ Bx W2.drew w1.heap.size [.int .i64 k.config, .int .i64 k.clock, .slice b1 k.places.length d1, .slice b2 k.machines.length d2, .slice (some ⟨b, 0, none⟩) k.txs.length d3, .bool k.lost] ∧ Bx W2.drew w.heap.size [.int .i64 0, .int .i64 0, .slice none 0 0, .slice none 0 0, .slice none 0 0, .bool false] ∧ w.heap.size ≤ b ∧ b ≠ w1.heap.size ∧ b ≠ w.heap.size ∧ w.heap.size < w1.heap.size) := ⟨hOW, bstep hw0 bW, hSX.1, hx0.later bW, by omega, hne1, hne0, by have := bl.size; omega⟩
  obtain ⟨v0, g0, f0⟩ := r0 0 (by omega)
  obtain ⟨v1, g1, f1⟩ := r0 1 (by omega)
  obtain ⟨v2, g2, f2⟩ := r0 2 (by omega)
  obtain ⟨v3, g3, f3⟩ := r0 3 (by omega)
  obtain ⟨v4, g4, f4⟩ := r0 4 (by omega)
  obtain ⟨v5, g5, f5⟩ := r0 5 (by omega)
  obtain ⟨v6, g6, f6⟩ := r0 6 (by omega)
  rw [Nat.add_zero] at g0 f0
  clear bb2 x2 hw0 hx0 hd0 ho0 hB hPq hdw bd bW hW0s hb1 hb2' hbp hroom hQb hOW hPP r0 hr e1 e2 e3 bl H hne1 hne0
  go_wp2_with fail
  rw [← hW2]
  clear hW2
  refine wp_region_until 11 (fun X : World => Bx X w1.heap.size [.int .i64 k.config, .int .i64 k.clock, .slice b1 k.places.length d1, .slice b2 k.machines.length d2, .slice (some ⟨b, 0, none⟩) k.txs.length d3, .bool k.lost] ∧ Bx X d [.int .i64 k.config, .int .i64 k.clock, .slice a1 k.places.length c1, .slice a2 k.machines.length c2, .slice a3 k.txs.length c3, .bool k.lost, .int .i64 (i : Int), .int .i64 t'.id, .int .i64 t'.home, .int .i64 t'.phase, .int .i64 t'.count, .slice u0 t'.reads.length u1, .slice u2 t'.sets.length u3, .int .i64 t'.stamp]) (by kernel_rfl) ?_
  generalize W2.drew = XD at *
  refine wpUntil_take (i := 0) (v := ?_) rfl (by kernel_rfl) (fun _ _ _ h => h) (Or.inl ⟨by rfl, ?_⟩) hSX ?_
  rotate_left
  · (intro w hSw; go_simp; first | done | with_reducible rfl)
  simp only [Act.put]
  refine wpUntil_take (i := 1) (v := ?_) rfl (by kernel_rfl) (fun _ _ _ h => h) (Or.inl ⟨by rfl, ?_⟩) hSX ?_
  rotate_left
  · (intro w hSw; have q4 := hSw.1.1 4 _ rfl; go_simp; first | done | with_reducible rfl | rfl)
  simp only [Act.put]
  refine wpUntil_take (i := 2) (v := ?_) rfl (by kernel_rfl) (fun _ _ _ h => h) (Or.inl ⟨by rfl, ?_⟩) hSX ?_
  rotate_left
  · (intro w hSw; go_simp; first | done | with_reducible rfl)
  simp only [Act.put]
  refine wpUntil_take (i := 3) (v := ?_) rfl (by kernel_rfl) (fun _ _ _ h => h) (Or.inl ⟨by rfl, ?_⟩) hSX ?_
  rotate_left
  · (intro w hSw; go_simp; first | done | with_reducible rfl)
  simp only [Act.put]
  refine wpUntil_take (i := 4) (v := ?_) rfl (by kernel_rfl) (fun _ _ _ h => h) (Or.inl ⟨by rfl, ?_⟩) hSX ?_
  rotate_left
  · (intro w hSw; go_simp; first | done | with_reducible rfl)
  simp only [Act.put]
  refine wpUntil_take (i := 5) (v := ?_) rfl (by kernel_rfl) (fun _ _ _ h => h) (Or.inl ⟨by rfl, ?_⟩) hSX ?_
  rotate_left
  · (intro w hSw; have q6 := hSw.2.1 6 _ rfl; go_simp; first | done | with_reducible rfl | rfl)
  simp only [Act.put]
  refine wpUntil_take (i := 6) (v := ?_) rfl (by kernel_rfl) (fun _ _ _ h => h) (Or.inl ⟨by rfl, ?_⟩) hSX ?_
  rotate_left
  · (intro w hSw; go_simp; first | done | with_reducible rfl)
  simp only [Act.put]
  refine wpUntil_take (i := 7) (v := ?_) rfl (by kernel_rfl) (fun _ _ _ h => h) (Or.inl ⟨by rfl, ?_⟩) hSX ?_
  rotate_left
  · (intro w hSw; go_simp; first | done | with_reducible rfl)
  simp only [Act.put]
  refine wpUntil_take (i := 8) (v := ?_) rfl (by kernel_rfl) (fun _ _ _ h => h) (Or.inl ⟨by rfl, ?_⟩) hSX ?_
  rotate_left
  · (intro w hSw; go_simp; first | done | with_reducible rfl)
  simp only [Act.put]
  refine wpUntil_take (i := 9) (v := ?_) rfl (by kernel_rfl) (fun _ _ _ h => h) (Or.inl ⟨by rfl, ?_⟩) hSX ?_
  rotate_left
  · (intro w hSw; have q7 := hSw.2.1 7 _ rfl; have q8 := hSw.2.1 8 _ rfl; have q9 := hSw.2.1 9 _ rfl; have q10 := hSw.2.1 10 _ rfl; have q11 := hSw.2.1 11 _ rfl; have q12 := hSw.2.1 12 _ rfl; have q13 := hSw.2.1 13 _ rfl; go_simp; first | done | with_reducible rfl | rfl)
  simp only [Act.put]
  refine wpUntil_ready (rs := [10]) (by kernel_rfl) (by simp) ?_
  refine AllU.cons rfl (fun K hK => ?_) AllU.nil
  have hix : (i : Int) < (k.txs.length : Int) ∧ 0 ≤ (i : Int) := ⟨jn, by omega⟩
  go_simp
  refine hK.out _ _ (fun _ => hSX) ?_
  clear hK K hix
  refine wpUntil_ready (rs := [11]) (by kernel_rfl) (by simp) ?_
  refine AllU.cons rfl (fun K hK => ?_) AllU.nil
  obtain ⟨Y, hY⟩ : ∃ Y, Y = putB XD b (i * 7) (KTk.cells ⟨u0, u1, u2, u3⟩ t') := ⟨_, rfl⟩
  have KY : Hid (KCl.Ow Y B b1 d1 b2 d2 (some ⟨b, 0, none⟩) d3 (setTx k i t') PP ∧ Below w.heap.size w Y ∧ Bx Y w1.heap.size [.int .i64 k.config, .int .i64 k.clock, .slice b1 k.places.length d1, .slice b2 k.machines.length d2, .slice (some ⟨b, 0, none⟩) k.txs.length d3, .bool k.lost] ∧ Bx Y w.heap.size [.int .i64 0, .int .i64 0, .slice none 0 0, .slice none 0 0, .slice none 0 0, .bool false]) := by
    obtain ⟨k1, k2, k3, k4, k5, k6, k7, k8⟩ := KH.out
    rw [hY]
    exact ⟨k1, putB_below (w := w) k5 _ _ _ k2, k3.of_block (putB_block (fun e => k6 e.symm) _ _ _) (by rw [putB_size]; exact Nat.le_refl _), k4.of_block (putB_block (fun e => k7 e.symm) _ _ _) (by rw [putB_size]; exact Nat.le_refl _)⟩
  have HK8 : Hid (w.heap.size < w1.heap.size) := KH.out.2.2.2.2.2.2.2
  have hY' : Y = (((((((XD.setCell ⟨b, i * 7, none⟩ (.int .i64 t'.id)).setCell ⟨b, i * 7 + 1, none⟩ (.int .i64 t'.home)).setCell ⟨b, i * 7 + 2, none⟩ (.int .i64 t'.phase)).setCell ⟨b, i * 7 + 3, none⟩ (.int .i64 t'.count)).setCell ⟨b, i * 7 + 4, none⟩ (.slice u0 t'.reads.length u1)).setCell ⟨b, i * 7 + 5, none⟩ (.slice u2 t'.sets.length u3)).setCell ⟨b, i * 7 + 6, none⟩ (.int .i64 t'.stamp)) := by rw [hY]; rfl
  have HY := hidOf hY'
  clear hY hY' KH hSX
  go_simp
  rw [← HY.out]
  refine hK.out _ _ (fun h => absurd rfl h) ?_
  clear hK K g0 g1 g2 g3 g4 g5 g6 f0 f1 f2 f3 f4 f5 f6 HY
  refine wpUntil_done (by kernel_rfl) ?_ _
  have o0 := KY.out.2.2.1.1 0 _ rfl
  have o1 := KY.out.2.2.1.1 1 _ rfl
  have o2 := KY.out.2.2.1.1 2 _ rfl
  have o3 := KY.out.2.2.1.1 3 _ rfl
  have o4 := KY.out.2.2.1.1 4 _ rfl
  have o5 := KY.out.2.2.1.1 5 _ rfl
  have r0 := KY.out.2.2.2.1 0 _ rfl
  have r1 := KY.out.2.2.2.1 1 _ rfl
  have r2 := KY.out.2.2.2.1 2 _ rfl
  have r3 := KY.out.2.2.2.1 3 _ rfl
  have r4 := KY.out.2.2.2.1 4 _ rfl
  have r5 := KY.out.2.2.2.1 5 _ rfl
  have f0 := KY.out.2.2.2.2.1 0
  have f1 := KY.out.2.2.2.2.1 1
  have f2 := KY.out.2.2.2.2.1 2
  have f3 := KY.out.2.2.2.2.1 3
  have f4 := KY.out.2.2.2.2.1 4
  have f5 := KY.out.2.2.2.2.1 5
  go_wp2
  refine bodyPost_ret (v := .agg #[.int .i64 k.config, .int .i64 k.clock, .slice b1 k.places.length d1, .slice b2 k.machines.length d2, .slice (some ⟨b, 0, none⟩) k.txs.length d3, .bool k.lost]) (by simp [results, Tryz.results57, go_sem, r0, r1, r2, r3, r4, r5]) rfl ?_
  refine ⟨b1, d1, b2, d2, some ⟨b, 0, none⟩, d3, PP, by simp [setTx], ?_, ?_⟩
  · exact KY.out.1.keep (w' := putB Y w.heap.size 0 [.int .i64 k.config, .int .i64 k.clock, .slice b1 k.places.length d1, .slice b2 k.machines.length d2, .slice (some ⟨b, 0, none⟩) k.txs.length d3, .bool k.lost]) (by rw [putB_size]; exact Nat.le_refl _) (fun q hq => putB_block (fun e => HP.out q hq e) _ _ _)
  · exact putB_below (w := w) (Nat.le_refl _) [.int .i64 k.config, .int .i64 k.clock, .slice b1 k.places.length d1, .slice b2 k.machines.length d2, .slice (some ⟨b, 0, none⟩) k.txs.length d3, .bool k.lost] Y 0 KY.out.2.1
def lockT (t : tx.T7) : tx.T7 := ⟨t.id, t.home, 2, 0, t.reads, t.sets, t.stamp⟩
def comK (k : C6) (y : Int) : C6 := if runC k y = 0 then setTx k (atId k.txs y) (lockT (txAt k y)) else leftC k
theorem runC_zero {k : C6} {y : Int} (h : runC k y = 0) : clusterB k = true ∧ atId k.txs y < k.txs.length ∧ homeB k y = true ∧ (txAt k y).phase = 1 := by
  have h0 : codeB k y = 0 := by
    by_cases hc : codeB k y = 0
    · exact hc
    · simp only [runC, if_neg hc] at h; exact h
  have hp : (txAt k y).phase = 1 := by
    by_cases hp : (txAt k y).phase = 1
    · exact hp
    · simp [runC, h0, hp] at h
  cases hk : clusterB k with
  | false => simp [codeB, hk] at h0
  | true =>
    by_cases hi : atId k.txs y < k.txs.length
    · cases hh : homeB k y with
      | false => simp [codeB, hk, hi, hh] at h0
      | true => exact ⟨rfl, hi, rfl, hp⟩
    · simp [codeB, hk, hi] at h0
set_option maxRecDepth 100000 in
set_option maxHeartbeats 2000000 in
theorem commit1_any (w : World) (q1 q2 : Nat) (a1 : Option Addr) (c1 : Nat) (a2 : Option Addr) (c2 : Nat) (a3 : Option Addr) (c3 : Nat) (k : C6) (y : Int) (hl : KCl.L k) (h : KCl.Rd w a1 c1 a2 c2 a3 c3 k) (x1 : Bx w q1 [.int .i64 k.config, .int .i64 k.clock, .slice a1 k.places.length c1, .slice a2 k.machines.length c2, .slice a3 k.txs.length c3, .bool k.lost]) (x2 : Bx w q2 [.int .i64 y]) :
    Calls Tryz.prog 74 #[.pointer (some ⟨q1, 0, none⟩), .pointer (some ⟨q2, 0, none⟩)] w (DAns w (comK k y) (runC k y)) := by
  obtain ⟨W0, hW0⟩ : ∃ Y, Y = w.alloc (.cells #[.int .i64 0, .int .i64 0, .slice none 0 0, .slice none 0 0, .slice none 0 0, .bool false] 32) := ⟨_, rfl⟩
  have b0 : Below w.heap.size w W0 := by rw [hW0]; exact (Below.refl _ _).alloc (Nat.le_refl _) _
  have x0 : Bx W0 w.heap.size [.int .i64 0, .int .i64 0, .slice none 0 0, .slice none 0 0, .slice none 0 0, .bool false] := by rw [hW0]; exact Bx.made w [.int .i64 0, .int .i64 0, .slice none 0 0, .slice none 0 0, .slice none 0 0, .bool false] _
  have hc := runningDeed_any W0 a1 c1 a2 c2 a3 c3 k y hl (h.later b0)
  have y1 := x1.later b0
  have p0 := y1.1 0 _ rfl
  have p1 := y1.1 1 _ rfl
  have p2 := y1.1 2 _ rfl
  have p3 := y1.1 3 _ rfl
  have p4 := y1.1 4 _ rfl
  have p5 := y1.1 5 _ rfl
  have p6 := (x2.later b0).1 0 _ rfl
  have H : Hid (Below w.heap.size w W0 ∧ Bx W0 w.heap.size [.int .i64 0, .int .i64 0, .slice none 0 0, .slice none 0 0, .slice none 0 0, .bool false] ∧ KCl.Rd w a1 c1 a2 c2 a3 c3 k) := ⟨b0, x0, h⟩
  rw [hW0] at p0 p1 p2 p3 p4 p5 p6
  clear b0 x0 y1 h x1 x2 hl
  go_enter Tryz.func74, Tryz.ntmps74
  go_wp2_with fail
  rw [← hW0]
  clear hW0
  refine hc.mono ?_
  clear hc p0 p1 p2 p3 p4 p5 p6
  rintro e w1 (⟨hn, hr⟩ | ⟨hz, d, u0, u1, u2, u3, P, rfl, hbx, how, hpd, hdw, b1⟩)
  · have HX : Hid (DAns w (comK k y) (runC k y) e w1) := (RAns.low (by rw [comK, if_neg hn]; exact hr) H.out.1).d hn
    obtain ⟨b1, d1, b2, d2, b3, d3, P, rfl, -, -⟩ := hr
    go_wp2
    exact ⟨rfl, HX.out⟩
  · obtain ⟨hk, hi, -, -⟩ := runC_zero hz
    have hcom : comK k y = setTx k (atId k.txs y) (lockT (txAt k y)) := by rw [comK, if_pos hz]
    obtain ⟨W2, hW2⟩ : ∃ Y, Y = (w1.setCell ⟨d, 9, none⟩ (.int .i64 2)).setCell ⟨d, 10, none⟩ (.int .i64 0) := ⟨_, rfl⟩
    have hW0s := H.out.2.1.2.2
    have xd : Bx W2 d [.int .i64 k.config, .int .i64 k.clock, .slice a1 k.places.length c1, .slice a2 k.machines.length c2, .slice a3 k.txs.length c3, .bool k.lost, .int .i64 (atId k.txs y : Int), .int .i64 (lockT (txAt k y)).id, .int .i64 (lockT (txAt k y)).home, .int .i64 (lockT (txAt k y)).phase, .int .i64 (lockT (txAt k y)).count, .slice u0 (lockT (txAt k y)).reads.length u1, .slice u2 (lockT (txAt k y)).sets.length u3, .int .i64 (lockT (txAt k y)).stamp] := by rw [hW2]; exact (hbx.set (i := 9) (by simp) _).set (i := 10) (by simp) _
    have blk : ∀ q, q ≠ d → W2.heap[q]? = w1.heap[q]? := fun q hq => by rw [hW2]; exact (Below.heap_setCell _ _ _ _ hq).trans (Below.heap_setCell _ _ _ _ hq)
    have hsz : W2.heap.size = w1.heap.size := by rw [hW2]; simp [World.setCell]
    have bW2 : Below W0.heap.size W0 W2 := by rw [hW2]; exact (b1.setCell (p := ⟨d, 9, none⟩) hdw _).setCell (p := ⟨d, 10, none⟩) hdw _
    have how2 : KT.Ow W2 W0.heap.size u0 u1 u2 u3 (lockT (txAt k y)) P := (how.head _ _ _ _ _).keep (Nat.le_of_eq hsz.symm) (fun q hq => blk q (hpd q hq))
    have hdn := done_any W2 W0.heap.size d a1 c1 a2 c2 a3 c3 k (atId k.txs y) (lockT (txAt k y)) u0 u1 u2 u3 P hk hi (H.out.2.2.later (bstep H.out.1 bW2)) xd how2 bW2.size
    have g9 := hbx.1 9 _ rfl
    have g10 := hbx.1 10 _ rfl
    have f9 := hbx.2.1 9
    have f10 := hbx.2.1 10
    have K1 : Hid (runC k y = 0 ∧ comK k y = setTx k (atId k.txs y) (lockT (txAt k y)) ∧ Below w.heap.size w W2 ∧ Bx W2 w.heap.size [.int .i64 0, .int .i64 0, .slice none 0 0, .slice none 0 0, .slice none 0 0, .bool false] ∧ w.heap.size < W0.heap.size) := ⟨hz, hcom, bstep H.out.1 bW2, H.out.2.1.later bW2, hW0s⟩
    clear hz hk hi hcom hbx how hpd hdw b1 hW0s xd blk hsz bW2 how2 H
    go_wp2_with fail
    rw [← hW2]
    clear hW2 g9 g10 f9 f10
    refine hdn.mono ?_
    clear hdn
    rintro e w3 ⟨e1, g1, e2, g2, e3, g3, PP, rfl, how, b3⟩
    obtain ⟨hz, hcom, bw2, xz, hW0s⟩ := K1.out
    have y0 := xz.later b3
    have bw3 := bstep bw2 b3
    have r0 := y0.1 0 _ rfl
    have r1 := y0.1 1 _ rfl
    have r2 := y0.1 2 _ rfl
    have r3 := y0.1 3 _ rfl
    have r4 := y0.1 4 _ rfl
    have r5 := y0.1 5 _ rfl
    have f0 := y0.2.1 0
    have f1 := y0.2.1 1
    have f2 := y0.2.1 2
    have f3 := y0.2.1 3
    have f4 := y0.2.1 4
    have f5 := y0.2.1 5
    have KE : Hid (KCl.Ow w3 W0.heap.size e1 g1 e2 g2 e3 g3 (setTx k (atId k.txs y) (lockT (txAt k y))) PP ∧ Below w.heap.size w w3 ∧ w.heap.size < W0.heap.size ∧ runC k y = 0 ∧ comK k y = setTx k (atId k.txs y) (lockT (txAt k y))) := ⟨how, bw3, hW0s, hz, hcom⟩
    clear hz hcom bw2 xz hW0s y0 bw3 how b3 K1
    generalize setTx k (atId k.txs y) (lockT (txAt k y)) = N at *
    go_wp2
    refine bodyPost_ret (v := .agg #[.int .i64 N.config, .int .i64 N.clock, .slice e1 N.places.length g1, .slice e2 N.machines.length g2, .slice e3 N.txs.length g3, .bool N.lost]) (by simp [results, Tryz.results74, go_sem, r0, r1, r2, r3, r4, r5]) rfl ?_
    refine ⟨e1, g1, e2, g2, e3, g3, PP, .inl ⟨KE.out.2.2.2.1, ?_⟩, ?_, ?_⟩
    · rw [KE.out.2.2.2.2]
    · rw [KE.out.2.2.2.2]
      have hlow : w.heap.size ≤ W0.heap.size := Nat.le_of_lt KE.out.2.2.1
      exact (KE.out.1.low hlow).keep (w' := putB w3 w.heap.size 0 [.int .i64 N.config, .int .i64 N.clock, .slice e1 N.places.length g1, .slice e2 N.machines.length g2, .slice e3 N.txs.length g3, .bool N.lost]) (by rw [putB_size]; exact Nat.le_refl _) (fun q hq => putB_block (fun e => by have := (KE.out.1.of hq).1; have := KE.out.2.2.1; omega) _ _ _)
    · exact putB_below (w := w) (Nat.le_refl _) [.int .i64 N.config, .int .i64 N.clock, .slice e1 N.places.length g1, .slice e2 N.machines.length g2, .slice e3 N.txs.length g3, .bool N.lost] w3 0 KE.out.2.1
set_option maxRecDepth 100000 in
set_option maxHeartbeats 2000000 in
theorem implCommit_any (w : World) (a1 : Option Addr) (c1 : Nat) (a2 : Option Addr) (c2 : Nat) (a3 : Option Addr) (c3 : Nat) (k : C6) (y : Int) (hl : KCl.L k) (h : KCl.Rd w a1 c1 a2 c2 a3 c3 k) (hg : HG w) :
    Calls Tryz.prog 25 #[.agg #[.int .i64 k.config, .int .i64 k.clock, .slice a1 k.places.length c1, .slice a2 k.machines.length c2, .slice a3 k.txs.length c3, .bool k.lost], .int .i64 y] w (FcAns w (comK k y) (runC k y)) := by
  have hmf : ∀ (fn : Fn) (first cap : Array Value) (w : World), (Instr.makeFunc fn first cap).run Tryz.prog w = .ok (.func fn first cap) w := fun _ _ _ _ => rfl
  obtain ⟨W0, hW0⟩ : ∃ Y, Y = ((w.alloc (.cells #[.int .i64 k.config, .int .i64 k.clock, .slice a1 k.places.length c1, .slice a2 k.machines.length c2, .slice a3 k.txs.length c3, .bool k.lost] 32)).alloc (.cells #[.int .i64 y] 2)).alloc (.cells #[.int .i64 0, .int .i64 0, .slice none 0 0, .slice none 0 0, .slice none 0 0, .bool false] 32) := ⟨_, rfl⟩
  have b0 : Below w.heap.size w W0 := by rw [hW0]; exact (((Below.refl _ _).alloc (Nat.le_refl _) _).alloc (by simp) _).alloc (by simp; omega) _
  have s0 : W0.heap.size = w.heap.size + 3 := by rw [hW0]; simp
  have x0 : Bx W0 w.heap.size [.int .i64 k.config, .int .i64 k.clock, .slice a1 k.places.length c1, .slice a2 k.machines.length c2, .slice a3 k.txs.length c3, .bool k.lost] := by
    have := ((Bx.made w [.int .i64 k.config, .int .i64 k.clock, .slice a1 k.places.length c1, .slice a2 k.machines.length c2, .slice a3 k.txs.length c3, .bool k.lost] 32).later ((Below.refl _ _).alloc (Nat.le_refl _) (.cells #[.int .i64 y] 2))).later ((Below.refl _ _).alloc (Nat.le_refl _) (.cells #[.int .i64 0, .int .i64 0, .slice none 0 0, .slice none 0 0, .slice none 0 0, .bool false] 32))
    rw [hW0]; exact this
  have x1 : Bx W0 (w.heap.size + 1) [.int .i64 y] := by
    have h := Bx.made (w.alloc (.cells #[.int .i64 k.config, .int .i64 k.clock, .slice a1 k.places.length c1, .slice a2 k.machines.length c2, .slice a3 k.txs.length c3, .bool k.lost] 32)) [.int .i64 y] 2
    rw [show (w.alloc (.cells #[.int .i64 k.config, .int .i64 k.clock, .slice a1 k.places.length c1, .slice a2 k.machines.length c2, .slice a3 k.txs.length c3, .bool k.lost] 32)).heap.size = w.heap.size + 1 by simp] at h
    have := h.later ((Below.refl _ _).alloc (Nat.le_refl _) (.cells #[.int .i64 0, .int .i64 0, .slice none 0 0, .slice none 0 0, .slice none 0 0, .bool false] 32))
    rw [hW0]; exact this
  have x2 : Bx W0 (w.heap.size + 2) [.int .i64 0, .int .i64 0, .slice none 0 0, .slice none 0 0, .slice none 0 0, .bool false] := by
    have h := Bx.made ((w.alloc (.cells #[.int .i64 k.config, .int .i64 k.clock, .slice a1 k.places.length c1, .slice a2 k.machines.length c2, .slice a3 k.txs.length c3, .bool k.lost] 32)).alloc (.cells #[.int .i64 y] 2)) [.int .i64 0, .int .i64 0, .slice none 0 0, .slice none 0 0, .slice none 0 0, .bool false] 32
    rw [show ((w.alloc (.cells #[.int .i64 k.config, .int .i64 k.clock, .slice a1 k.places.length c1, .slice a2 k.machines.length c2, .slice a3 k.txs.length c3, .bool k.lost] 32)).alloc (.cells #[.int .i64 y] 2)).heap.size = w.heap.size + 2 by simp] at h
    rw [hW0]; exact h
  have hf := face_Commit W0 w.heap.size (w.heap.size + 1) (comK k y) (runC k y) (hg.later b0) (fun X hX => by
    have bX : Below W0.heap.size W0 X := by rw [hX]; exact ((Below.refl _ _).alloc (Nat.le_refl _) _).alloc (by simp) _
    exact commit1_any X w.heap.size (w.heap.size + 1) a1 c1 a2 c2 a3 c3 k y hl (h.later (bstep b0 bX)) (x0.later bX) (x1.later bX))
  have H : Hid (Below w.heap.size w W0 ∧ Bx W0 (w.heap.size + 2) [.int .i64 0, .int .i64 0, .slice none 0 0, .slice none 0 0, .slice none 0 0, .bool false] ∧ W0.heap.size = w.heap.size + 3) := ⟨b0, x2, s0⟩
  clear b0 s0 x0 x1 x2 h hg hl
  go_enter Tryz.func25, Tryz.ntmps25
  go_wp2_with fail
  rw [← hW0]
  clear hW0
  refine hf.mono ?_
  clear hf
  rintro e w3 ⟨e1, g1, e2, g2, e3, g3, PP, rfl, how, b3⟩
  have y0 := H.out.2.1.later b3
  have r0 := y0.1 0 _ rfl
  have r1 := y0.1 1 _ rfl
  have r2 := y0.1 2 _ rfl
  have r3 := y0.1 3 _ rfl
  have r4 := y0.1 4 _ rfl
  have r5 := y0.1 5 _ rfl
  have f0 := y0.2.1 0
  have f1 := y0.2.1 1
  have f2 := y0.2.1 2
  have f3 := y0.2.1 3
  have f4 := y0.2.1 4
  have f5 := y0.2.1 5
  have KE : Hid (KCl.Ow w3 W0.heap.size e1 g1 e2 g2 e3 g3 (comK k y) PP ∧ Below w.heap.size w w3 ∧ W0.heap.size = w.heap.size + 3) := ⟨how, bstep H.out.1 b3, H.out.2.2⟩
  clear y0 how b3 H
  generalize comK k y = N at *
  generalize runC k y = n at *
  go_wp2
  refine bodyPost_ret (v := .tuple #[.agg #[.int .i64 N.config, .int .i64 N.clock, .slice e1 N.places.length g1, .slice e2 N.machines.length g2, .slice e3 N.txs.length g3, .bool N.lost], .int .i64 n]) (by simp [results, Tryz.results25, go_sem, r0, r1, r2, r3, r4, r5]) rfl ?_
  refine ⟨e1, g1, e2, g2, e3, g3, PP, rfl, ?_, ?_⟩
  · exact (KE.out.1.low (by have := KE.out.2.2; omega)).keep (w' := putB w3 (w.heap.size + 2) 0 [.int .i64 N.config, .int .i64 N.clock, .slice e1 N.places.length g1, .slice e2 N.machines.length g2, .slice e3 N.txs.length g3, .bool N.lost]) (by rw [putB_size]; exact Nat.le_refl _) (fun q hq => putB_block (fun e => by have := (KE.out.1.of hq).1; have := KE.out.2.2; omega) _ _ _)
  · exact putB_below (w := w) (by omega) [.int .i64 N.config, .int .i64 N.clock, .slice e1 N.places.length g1, .slice e2 N.machines.length g2, .slice e3 N.txs.length g3, .bool N.lost] w3 0 KE.out.2.1
structure Kd.Rest {D V : Type} (K : Kd D V) (X : World) (B b n : Nat) (ys : List D) (g : Nat → Nat → Prop) (j : Nat) : Prop where
  rm : Room X b (n * K.n)
  at_ : ∀ i d, j ≤ i → ys[i]? = some d → ∃ v, At X b (i * K.n) (K.cells v d) ∧ K.Ow X B v d (g i)
  ne : ∀ i q, i < ys.length → g i q → q ≠ b
  ap : ∀ i j q, i < ys.length → j < ys.length → i ≠ j → g i q → ¬ g j q
theorem Kd.Part.rest {D V : Type} {K : Kd D V} {X : World} {B b n : Nat} {ys : List D} {g : Nat → Nat → Prop} (h : K.Part X B b n ys g) : K.Rest X B b n ys g 0 := ⟨h.rm, fun i d _ hi => h.at_ i d hi, h.ne, h.ap⟩
theorem Kd.Rest.up {D V : Type} {K : Kd D V} {X : World} {B b n : Nat} {ys : List D} {g : Nat → Nat → Prop} {j : Nat} (h : K.Rest X B b n ys g j) : K.Rest X B b n ys g (j + 1) := ⟨h.rm, fun i d hj hi => h.at_ i d (by omega) hi, h.ne, h.ap⟩
theorem Kd.Rest.set {D V : Type} {K : Kd D V} {X : World} {B b n : Nat} {ys : List D} {g : Nat → Nat → Prop} {j o : Nat} (h : K.Rest X B b n ys g (j + 1)) (ho : o < (j + 1) * K.n) (u : Value) : K.Rest (X.setCell ⟨b, o, none⟩ u) B b n ys g (j + 1) := by
  refine ⟨h.rm.set _, fun i d hj hi => ?_, h.ne, h.ap⟩
  obtain ⟨v, h1, h2⟩ := h.at_ i d hj hi
  have hm := Nat.mul_le_mul_right K.n hj
  exact ⟨v, fun q u' e => (cell_set_other (by omega)).trans (h1 q u' e), K.keep h2 (by simp [World.setCell]) (fun q hq => Below.heap_setCell _ _ _ _ (h.ne i q (List.getElem?_eq_some_iff.1 hi).1 hq))⟩
theorem Kd.Rest.kept {D V : Type} {K : Kd D V} {X Y : World} {B b n : Nat} {ys : List D} {g : Nat → Nat → Prop} {j : Nat} {Q : Nat → Prop} (h : K.Rest X B b n ys g (j + 1)) (hk : KeptP Q X Y) (hb : b < X.heap.size) (hj : j < ys.length) (hQ : ∀ q, Q q → g j q) : K.Rest Y B b n ys g (j + 1) := by
  have hbb : Y.heap[b]? = X.heap[b]? := hk.block b hb (fun e => h.ne j b hj (hQ b e) rfl)
  refine ⟨room_blk h.rm hbb, fun i d hji hi => ?_, h.ne, h.ap⟩
  obtain ⟨v, h1, h2⟩ := h.at_ i d hji hi
  have hl := (List.getElem?_eq_some_iff.1 hi).1
  exact ⟨v, h1.of_block hbb, K.keep h2 hk.size (fun q hq => hk.block q (K.of h2 hq).2 (fun e => h.ap i j q hl hj (by omega) hq (hQ q e)))⟩
def cM (m : M4) : Nat := 1 + (offG cK m.copies m.copies.length + offG cR m.log m.log.length + m.cleared.length)
structure MRow (w X : World) (B b : Nat) (ms : List M4) (g : Nat → Nat → Prop) (P : Nat → Prop) (j : Nat) (a2 : Option Addr) (c2 : Nat) (a3 : Option Addr) (c3 : Nat) (PR PD : Nat → Prop) : Prop where
  r : OwnL 4 hdR lnR AtR X PR a2 (atM ms j).log
  n : OwnN X PD a3 (atM ms j).cleared
  e2 : X.cell? ⟨b, j * 4 + 2, none⟩ = some (.slice a2 (atM ms j).log.length c2)
  e3 : X.cell? ⟨b, j * 4 + 3, none⟩ = some (.slice a3 (atM ms j).cleared.length c3)
  rest : KMk.Rest X B b ms.length ms g (j + 1)
  kp : KeptP P w X
  lt : b < X.heap.size
set_option maxRecDepth 100000 in
set_option maxHeartbeats 4000000 in
theorem markMs (w : World) (B b cap : Nat) (ms : List M4) (g : Nat → Nat → Prop) (P : Nat → Prop) (k : Int) (hk : 0 ≤ k) (hk' : k + (offG cM ms ms.length : Int) ≤ 100000000) (hn : ms.length ≤ 1048576) (ht : ∀ m ∈ ms, MT m) (hb : b < w.heap.size) (hPb : P b) (hPg : ∀ i q, i < ms.length → g i q → P q) (h : KMk.Part w B b ms.length ms g) :
    Calls Tryz.prog 45 #[.slice (some ⟨b, 0, none⟩) ms.length cap, .int .i64 k] w fun e w' => e = .returned (.int .i64 (k + (offG cM ms ms.length : Int))) ∧ KeptP P w w' := by
  have H : Hid ((∀ m ∈ ms, MT m) ∧ b < w.heap.size ∧ P b ∧ (∀ i q, i < ms.length → g i q → P q) ∧ KMk.Part w B b ms.length ms g) := ⟨ht, hb, hPb, hPg, h⟩
  clear ht hb hPb hPg h
  go_enter Tryz.func45, Tryz.ntmps45
  go_wp2
  go_loopw [1, 5] (fun v1 v5 wr => ∃ j : Nat, j ≤ ms.length ∧ v5 = .int .i64 j ∧ v1 = .int .i64 (k + (offG cM ms j : Int)) ∧ KeptP P w wr ∧ KMk.Rest wr B b ms.length ms g j) (fun _ v5 _ => ms.length - (intOf v5).toNat)
  case atStart => exact ⟨0, Nat.zero_le _, rfl, by rw [offG_zero]; simp, KeptP.refl _ _, H.out.2.2.2.2.rest⟩
  case round =>
    obtain ⟨j, hj, rfl, rfl, hkp, hrs⟩ := hrel
    have hb2 := offG_le cM ms j
    by_cases hlt : j < ms.length
    · have hd := atM_of hlt
      obtain ⟨⟨m0, m1, m2, m3, m4, m5⟩, hat, how⟩ := hrs.at_ j _ (Nat.le_refl _) hd
      obtain ⟨PK, PR, PD, om, hsub, hbd⟩ := how
      obtain ⟨z0, d0, f0⟩ : ∃ v, wr.cell? ⟨b, j * 4, none⟩ = some v ∧ wr.frozen? ⟨b, j * 4, none⟩ = false := hrs.rm (j * 4) (show _ < ms.length * 4 by omega)
      have e1 : wr.cell? ⟨b, j * 4 + 1, none⟩ = some (.slice m0 (atM ms j).copies.length m1) := hat 1 _ rfl
      have e2 : wr.cell? ⟨b, j * 4 + 2, none⟩ = some (.slice m2 (atM ms j).log.length m3) := hat 2 _ rfl
      have e3 : wr.cell? ⟨b, j * 4 + 3, none⟩ = some (.slice m4 (atM ms j).cleared.length m5) := hat 3 _ rfl
      have hT := H.out.1 _ (List.mem_of_getElem? hd)
      have hoff : offG cM ms (j + 1) = offG cM ms j + cM (atM ms j) := offG_succ cM hd
      have hle := offG_le cM ms (j + 1)
      have HO : Hid (offG cM ms (j + 1) = offG cM ms j + (1 + (offG cK (atM ms j).copies (atM ms j).copies.length + offG cR (atM ms j).log (atM ms j).log.length + (atM ms j).cleared.length)) ∧ k + (offG cM ms (j + 1) : Int) ≤ 100000000) := ⟨hoff, by omega⟩
      have hnb : ∀ q, g j q → q ≠ b := fun q hq => hrs.ne j q hlt hq
      have bl : b < wr.heap.size := Nat.lt_of_lt_of_le H.out.2.1 hkp.size
      have S1 : Hid (∀ u : Value, OwnL 2 hdK lnK AtK (wr.setCell ⟨b, j * 4, none⟩ u) PK m0 (atM ms j).copies ∧ MRow w (wr.setCell ⟨b, j * 4, none⟩ u) B b ms g P j m2 m3 m4 m5 PR PD) := fun u => by
        have hsz : wr.heap.size ≤ (wr.setCell ⟨b, j * 4, none⟩ u).heap.size := by simp [World.setCell]
        exact ⟨om.k.keep AtK.of_block hsz (fun q _ hp => Below.heap_setCell _ _ _ _ (hnb q (hsub q (.inl hp)))), om.r.keep AtR.of_block hsz (fun q _ hp => Below.heap_setCell _ _ _ _ (hnb q (hsub q (.inr (.inl hp))))), om.n.keep hsz (fun q _ hp => Below.heap_setCell _ _ _ _ (hnb q (hsub q (.inr (.inr hp))))),
          (cell_set_other (by omega)).trans e2, (cell_set_other (by omega)).trans e3, hrs.up.set (show j * 4 < (j + 1) * 4 by omega) u, hkp.trans (KeptP.of_set wr u H.out.2.2.1), Nat.lt_of_lt_of_le bl hsz⟩
      have HG : Hid ((∀ q, PK q → g j q) ∧ (∀ q, PR q → g j q) ∧ (∀ q, PD q → g j q) ∧ (∀ q, PK q → ¬ PR q) ∧ (∀ q, PK q → ¬ PD q) ∧ (∀ q, PR q → ¬ PD q) ∧ (∀ q, g j q → q ≠ b) ∧ (∀ q, g j q → P q)) := ⟨fun q hq => hsub q (.inl hq), fun q hq => hsub q (.inr (.inl hq)), fun q hq => hsub q (.inr (.inr hq)), om.kr, om.kd, om.rd, hnb, fun q hq => H.out.2.2.2.1 j q hlt hq⟩
      have S2 : Hid (∀ u w1, KeptP PK (wr.setCell ⟨b, j * 4, none⟩ u) w1 → MRow w w1 B b ms g P j m2 m3 m4 m5 PR PD) := fun u w1 k1 => by
        have R0 := (S1.out u).2
        have hbk := k1.block b R0.lt (fun e => HG.out.2.2.2.2.2.2.1 b (HG.out.1 b e) rfl)
        exact ⟨R0.r.keep AtR.of_block k1.size (fun q hq hp => k1.block q hq (fun e => HG.out.2.2.2.1 q e hp)), R0.n.keep k1.size (fun q hq hp => k1.block q hq (fun e => HG.out.2.2.2.2.1 q e hp)), (World.cell?_of_block (a := ⟨b, j * 4 + 2, none⟩) hbk).trans R0.e2, (World.cell?_of_block (a := ⟨b, j * 4 + 3, none⟩) hbk).trans R0.e3, R0.rest.kept k1 R0.lt hlt HG.out.1, R0.kp.trans (k1.mono (fun q hq => HG.out.2.2.2.2.2.2.2 q (HG.out.1 q hq))), Nat.lt_of_lt_of_le R0.lt k1.size⟩
      have HT : Hid (MT (atM ms j)) := hT
      have jn : (j : Int) < (ms.length : Int) := by omega
      have g0 : 0 ≤ k + (offG cM ms j : Int) := by omega
      have g1 : k + (offG cM ms j : Int) ≤ 100000000 := by omega
      clear hkp hrs hat om hsub hbd hd hoff hle hnb hT bl e2 e3 hb2
      generalize hK : k + (offG cM ms j : Int) = kj at *
      go_wp2_with fail
      refine (markK _ PK m0 m1 (atM ms j).copies (kj + 1) (by omega) (by omega) HT.out.tk HT.out.k HT.out.ks (S1.out _).1).mono ?_
      rintro e w1 ⟨rfl, k1, -⟩
      have R1 : Hid (MRow w w1 B b ms g P j m2 m3 m4 m5 PR PD) := S2.out _ _ k1
      clear k1 S1 S2 d0 f0 e1
      have e2 := R1.out.e2
      have tk := HT.out.tk
      have tr := HT.out.tr
      have tn := HT.out.n
      go_wp2_with fail
      refine (markR w1 PR m2 m3 (atM ms j).log _ (by omega) (by omega) HT.out.tr HT.out.r HT.out.rs R1.out.r).mono ?_
      rintro e w2 ⟨rfl, k2, -⟩
      have R2 : Hid (OwnN w2 PD m4 (atM ms j).cleared ∧ w2.cell? ⟨b, j * 4 + 3, none⟩ = some (.slice m4 (atM ms j).cleared.length m5) ∧ KMk.Rest w2 B b ms.length ms g (j + 1) ∧ KeptP P w w2 ∧ b < w2.heap.size) := by
        have R0 := R1.out
        have hbk := k2.block b R0.lt (fun e => HG.out.2.2.2.2.2.2.1 b (HG.out.2.1 b e) rfl)
        exact ⟨R0.n.keep k2.size (fun q hq hp => k2.block q hq (fun e => HG.out.2.2.2.2.2.1 q e hp)), (World.cell?_of_block (a := ⟨b, j * 4 + 3, none⟩) hbk).trans R0.e3, R0.rest.kept k2 R0.lt hlt HG.out.2.1, R0.kp.trans (k2.mono (fun q hq => HG.out.2.2.2.2.2.2.2 q (HG.out.2.1 q hq))), Nat.lt_of_lt_of_le R0.lt k2.size⟩
      clear k2 R1 e2
      have e3 := R2.out.2.1
      go_wp2_with fail
      refine (markN w2 PD m4 m5 (atM ms j).cleared _ (by omega) (by omega) HT.out.n R2.out.1).mono ?_
      rintro e w3 ⟨rfl, k3, -⟩
      have R3 : Hid (KMk.Rest w3 B b ms.length ms g (j + 1) ∧ KeptP P w w3) := ⟨R2.out.2.2.1.kept k3 R2.out.2.2.2.2 hlt HG.out.2.2.1, R2.out.2.2.2.1.trans (k3.mono (fun q hq => HG.out.2.2.2.2.2.2.2 q (HG.out.2.2.1 q hq)))⟩
      clear k3 R2 e3
      go_wp2
      exact ⟨⟨j + 1, by omega, by simp, by have := HO.out.1; rw [this]; congr 1; omega, R3.out.2, R3.out.1⟩, by simp [intOf]; omega⟩
    · obtain rfl : j = ms.length := by omega
      have hd : decide ((ms.length : Int) < (ms.length : Int)) = false := by simp
      have KH : Hid (KeptP P w wr) := hkp
      clear hkp hrs
      go_wp2
      go_ret
      exact ⟨rfl, KH.out⟩
end Go.Proofs.YtohcgfdnjgkfjaaGreatDoor