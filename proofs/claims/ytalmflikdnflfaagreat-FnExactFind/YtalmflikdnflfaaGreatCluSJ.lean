/- ClusterOk of the specification. -/
import Derived.Test.YtalmflikdnflfaaGreatRows
import Derived.Test.YtalmflikdnflfaaGreatJ32ExactFind
import Derived.Test.YtalmflikdnflfaaGreatMacOk2J
import Derived.WalkKit
import Derived.WalkSpells
import Derived.WalkLawsBesides
import Derived.Below
import Derived.Lib.QuietBelow
import Derived.BigQuiet
import Derived.Deep.CutRange
namespace Go.Proofs.YtalmflikdnflfaaGreat
open Go.RowKit
open Go.Sort (grow)
set_option maxRecDepth 100000 in
set_option maxHeartbeats 8000000 in
theorem specClusterOk_any (w : World) (a1 : Option Addr) (c1 : Nat) (a2 : Option Addr) (c2 : Nat) (a3 : Option Addr) (c3 : Nat) (k : C6) (hl : KCl.L k) (h : KCl.Rd w a1 c1 a2 c2 a3 c3 k) : Calls Tryz.prog 8 #[.agg #[.int .i64 k.config, .int .i64 k.clock, .slice a1 k.places.length c1, .slice a2 k.machines.length c2, .slice a3 k.txs.length c3, .bool k.lost]] w fun e w' => e = .returned (.bool (clusterB k)) ∧ Below w.heap.size w w' := by
  obtain ⟨U, hU⟩ : ∃ Y, Y = w.alloc (.cells #[.int .i64 k.config, .int .i64 k.clock, .slice a1 k.places.length c1, .slice a2 k.machines.length c2, .slice a3 k.txs.length c3, .bool k.lost] 33) := ⟨_, rfl⟩
  have b0 : Below w.heap.size w U := by rw [hU]; exact (Below.refl _ _).alloc (Nat.le_refl _) _
  have FA : Hid (Bx U w.heap.size [.int .i64 k.config, .int .i64 k.clock, .slice a1 k.places.length c1, .slice a2 k.machines.length c2, .slice a3 k.txs.length c3, .bool k.lost]) := by rw [hU]; exact Bx.made w [.int .i64 k.config, .int .i64 k.clock, .slice a1 k.places.length c1, .slice a2 k.machines.length c2, .slice a3 k.txs.length c3, .bool k.lost] _
  have HR : Hid (KCl.Rd U a1 c1 a2 c2 a3 c3 k ∧ KCl.L k) := ⟨h.later b0, hl⟩
  have BW : Hid (Below w.heap.size w U) := b0
  have lm := hl.m
  have lt := hl.t
  have lp := hl.p
  unfold maxLen at lm lt lp
  have p0 := FA.out.1 0 _ rfl
  have p1 := FA.out.1 1 _ rfl
  have p2 := FA.out.1 2 _ rfl
  have p3 := FA.out.1 3 _ rfl
  have p4 := FA.out.1 4 _ rfl
  clear b0 hl h
  by_cases g0 : inB 1 1000000 k.config = true
  case neg =>
    have d0 : inB 1 1000000 k.config = false := by simpa using g0
    have hb : clusterB k = false := by simp [clusterB, d0]
    rw [hb]
    rw [hU] at BW p0 p1 p2 p3 p4
    clear FA HR hU
    go_enter Tryz.func8, Tryz.ntmps8
    go_wp2_with (first | (go_at_call 31; refine (tx.specId_e _ _).mono ?_; rintro e w' ⟨rfl, rfl⟩) | (go_at_call 32; refine (specIn _ _ _ _).mono ?_; rintro e w' ⟨rfl, rfl⟩))
    go_ret
    exact ⟨rfl, BW.out⟩
  by_cases g1 : inB 0 1000000 k.clock = true
  case neg =>
    have d1 : inB 0 1000000 k.clock = false := by simpa using g1
    have hb : clusterB k = false := by simp [clusterB, d1]
    rw [hb]
    rw [hU] at BW p0 p1 p2 p3 p4
    clear FA HR hU
    go_enter Tryz.func8, Tryz.ntmps8
    go_wp2_with (first | (go_at_call 31; refine (tx.specId_e _ _).mono ?_; rintro e w' ⟨rfl, rfl⟩) | (go_at_call 32; refine (specIn _ _ _ _).mono ?_; rintro e w' ⟨rfl, rfl⟩))
    go_ret
    exact ⟨rfl, BW.out⟩
  by_cases g2 : 1 ≤ k.machines.length
  case neg =>
    have d2 : decide ((k.machines.length : Int) < 1) = true := by simp; omega
    have hb : clusterB k = false := by simp [clusterB, g2]
    rw [hb]
    rw [hU] at BW p0 p1 p2 p3 p4
    clear FA HR hU
    go_enter Tryz.func8, Tryz.ntmps8
    go_wp2_with (first | (go_at_call 31; refine (tx.specId_e _ _).mono ?_; rintro e w' ⟨rfl, rfl⟩) | (go_at_call 32; refine (specIn _ _ _ _).mono ?_; rintro e w' ⟨rfl, rfl⟩))
    go_ret
    exact ⟨rfl, BW.out⟩
  have d2 : decide ((k.machines.length : Int) < 1) = false := by simp; omega
  by_cases g3 : k.machines.length ≤ 8
  case neg =>
    have d3 : decide ((8 : Int) < (k.machines.length : Int)) = true := by simp; omega
    have hb : clusterB k = false := by simp [clusterB, g3]
    rw [hb]
    rw [hU] at BW p0 p1 p2 p3 p4
    clear FA HR hU
    go_enter Tryz.func8, Tryz.ntmps8
    go_wp2_with (first | (go_at_call 31; refine (tx.specId_e _ _).mono ?_; rintro e w' ⟨rfl, rfl⟩) | (go_at_call 32; refine (specIn _ _ _ _).mono ?_; rintro e w' ⟨rfl, rfl⟩))
    go_ret
    exact ⟨rfl, BW.out⟩
  have d3 : decide ((8 : Int) < (k.machines.length : Int)) = false := by simp; omega
  have BF : Hid (∀ V, Below U.heap.size U V → Below w.heap.size w V) := fun V hV => bstep BW.out hV
  have hc := specPlacesOk_any U a1 k.places.length c1 k.places HR.out.2.p HR.out.1.p
  rw [hU] at p0 p1 p2 p3 p4
  clear BW
  go_enter Tryz.func8, Tryz.ntmps8
  go_wp2_with (first | (go_at_call 31; refine (tx.specId_e _ _).mono ?_; rintro e w' ⟨rfl, rfl⟩) | (go_at_call 32; refine (specIn _ _ _ _).mono ?_; rintro e w' ⟨rfl, rfl⟩))
  rw [← hU]
  clear hU p0 p1 p2 p3 p4
  refine hc.mono ?_
  clear hc
  rintro e w1 ⟨rfl, b1⟩
  have B1 := tx.hidOf b1
  clear b1
  have p4 := (FA.out.later B1.out).1 4 _ rfl
  cases hP : placesB k.places with
  | false =>
    have hb : Hid (clusterB k = false) := by unfold Hid; simp [clusterB, hP]
    go_wp2
    go_ret
    exact ⟨by rw [hb.out]; rfl, BF.out _ B1.out⟩
  | true =>
  by_cases g5 : k.txs.length ≤ 60
  case neg =>
    have d5 : decide ((60 : Int) < (k.txs.length : Int)) = true := by simp; omega
    have hb : Hid (clusterB k = false) := by unfold Hid; simp [clusterB, g5]
    go_wp2
    go_ret
    exact ⟨by rw [hb.out]; rfl, BF.out _ B1.out⟩
  have d5 : decide ((60 : Int) < (k.txs.length : Int)) = false := by simp; omega
  have HC : Hid (clusterB k = (machsB k.machines && placedB k.places k.machines && txsB k)) := by unfold Hid; simp [clusterB, g0, g1, g2, g3, hP, g5]
  have HZ : Hid (∀ r j, r < k.places.length → j < (atP k.places r).length → 0 ≤ atN (atP k.places r) j ∧ atN (atP k.places r) j ≤ 7) := fun r j hr hj => places_z hP hr hj
  clear g0 g1 hP
  go_wp2
  clear p4 d2 d3 d5
  go_loopw [4] (fun v4 wr => ∃ i : Nat, i ≤ k.machines.length ∧ v4 = .int .i64 i ∧ Below U.heap.size U wr ∧ (List.range i).all (fun i => machB (atM k.machines i)) = true) (fun v4 _ => k.machines.length - (intOf v4).toNat)
  case atStart => exact ⟨0, Nat.zero_le _, rfl, B1.out, rfl⟩
  case round =>
  obtain ⟨i, hi, rfl, hbl, hall⟩ := hrel
  have KB : Hid (Below U.heap.size U wr ∧ (List.range i).all (fun i => machB (atM k.machines i)) = true) := ⟨hbl, hall⟩
  clear hbl hall
  by_cases hlt : i < k.machines.length
  case pos =>
    have hd := atM_of hlt
    rcases HR.out.1.m with hs | ⟨b, off, rfl, hb, h1⟩
    · rw [hs] at hlt; simp at hlt
    obtain ⟨⟨m0, m1, m2, m3, m4, m5⟩, hat, hrd⟩ := h1 i _ hd
    have e0 : wr.cell? ⟨b, off + i * 4, none⟩ = some (.bool (atM k.machines i).alive) := (KB.out.1.cell (p := ⟨b, off + i * 4, none⟩) hb).trans (hat 0 _ rfl)
    have e1 : wr.cell? ⟨b, off + i * 4 + 1, none⟩ = some (.slice m0 (atM k.machines i).copies.length m1) := (KB.out.1.cell (p := ⟨b, off + i * 4 + 1, none⟩) hb).trans (hat 1 _ rfl)
    have e2 : wr.cell? ⟨b, off + i * 4 + 2, none⟩ = some (.slice m2 (atM k.machines i).log.length m3) := (KB.out.1.cell (p := ⟨b, off + i * 4 + 2, none⟩) hb).trans (hat 2 _ rfl)
    have e3 : wr.cell? ⟨b, off + i * 4 + 3, none⟩ = some (.slice m4 (atM k.machines i).cleared.length m5) := (KB.out.1.cell (p := ⟨b, off + i * 4 + 3, none⟩) hb).trans (hat 3 _ rfl)
    have hML := HR.out.2.ms _ (List.mem_of_getElem? hd)
    have hc := specMachineOk_any wr ⟨m0, m1, m2, m3, m4, m5⟩ (atM k.machines i) hML.k hML.r hML.n hML.ks hML.rs (KMk.later hrd KB.out.1)
    simp only [MV.val] at hc
    have p3 := (FA.out.later KB.out.1).1 3 _ rfl
    have jn : (i : Int) < (k.machines.length : Int) := by omega
    clear hat hrd h1 hd hML hb
    go_wp2_with fail
    refine hc.mono ?_
    clear hc e0 e1 e2 e3 p3
    rintro e w2 ⟨rfl, b2⟩
    have K2 : Hid (Below U.heap.size U w2) := bstep KB.out.1 b2
    clear b2
    cases hB : machB (atM k.machines i) with
    | false =>
      have hb : Hid (clusterB k = false) := by unfold Hid; rw [HC.out]; simp [machsB, all_off (f := fun i => machB (atM k.machines i)) hlt hB]
      go_wp2
      go_ret
      exact ⟨by rw [hb.out]; rfl, BF.out _ K2.out⟩
    | true =>
      go_wp2
      exact ⟨⟨i + 1, by omega, by simp, K2.out, all_on KB.out.2 hB⟩, by simp [intOf]; omega⟩
  obtain rfl : i = k.machines.length := by omega
  have hdl : decide ((k.machines.length : Int) < (k.machines.length : Int)) = false := by simp
  have HC2 : Hid (clusterB k = (placedB k.places k.machines && txsB k)) := by unfold Hid; rw [HC.out, machsB, KB.out.2]; simp
  go_wp2
  generalize wr = wA at *
  clear hdl
  go_loopw [5] (fun v5 wr => ∃ r : Nat, r ≤ k.places.length ∧ v5 = .int .i64 r ∧ Below U.heap.size U wr ∧ (List.range r).all (fun r => placB k.machines r (atP k.places r)) = true) (fun v5 _ => k.places.length - (intOf v5).toNat)
  case atStart => exact ⟨0, Nat.zero_le _, rfl, KB.out.1, rfl⟩
  case round =>
  obtain ⟨r, hr, rfl, hbl, hall⟩ := hrel
  have KC : Hid (Below U.heap.size U wr ∧ (List.range r).all (fun r => placB k.machines r (atP k.places r)) = true) := ⟨hbl, hall⟩
  clear hbl hall
  have p2 := (FA.out.later KC.out.1).1 2 _ rfl
  by_cases hlr : r < k.places.length
  case pos =>
    obtain ⟨_, hsp⟩ := HR.out.1.p
    rcases hsp with hsp | ⟨b, off, rfl, hb, hpl⟩
    · omega
    obtain ⟨a', cap', hc, hsl, hcp⟩ := hpl r _ (atP_of hlr)
    have c := (KC.out.1.cell (p := ⟨b, off + r, none⟩) hb).trans hc
    have HSL : Hid (SlN U U.heap.size a' (atP k.places r).length (atP k.places r)) := hsl
    have jr : (r : Int) < (k.places.length : Int) := by omega
    have lz := HR.out.2.ps _ (List.mem_of_getElem? (atP_of hlr))
    unfold maxLen at lz
    have HF : Hid (placB k.machines r (atP k.places r) = false → clusterB k = false) := fun hh => by rw [HC2.out, placedB, all_off (f := fun r => placB k.machines r (atP k.places r)) hlr hh]; rfl
    have HZr : Hid (∀ j, j < (atP k.places r).length → 0 ≤ atN (atP k.places r) j ∧ atN (atP k.places r) j ≤ 7) := fun j hj => HZ.out r j hlr hj
    have HPL : Hid (placB k.machines r (atP k.places r) = (List.range (atP k.places r).length).all fun j => servB k.machines r (atN (atP k.places r) j)) := rfl
    have HON : Hid (placB k.machines r (atP k.places r) = true → (List.range (r + 1)).all (fun r => placB k.machines r (atP k.places r)) = true) := fun hh => all_on (f := fun r => placB k.machines r (atP k.places r)) KC.out.2 hh
    clear hpl hc hsl
    generalize hzs : atP k.places r = zs at *
    go_wp2
    clear c p2 jr hzs
    generalize wr = wC at *
    go_loopw [7] (fun v7 wr => ∃ j : Nat, j ≤ zs.length ∧ v7 = .int .i64 j ∧ Below U.heap.size U wr ∧ (List.range j).all (fun j => servB k.machines r (atN zs j)) = true) (fun v7 _ => zs.length - (intOf v7).toNat)
    case atStart => exact ⟨0, Nat.zero_le _, rfl, KC.out.1, rfl⟩
    case round =>
    obtain ⟨j, hj, rfl, hbl, hall⟩ := hrel
    have KD : Hid (Below U.heap.size U wr ∧ (List.range j).all (fun j => servB k.machines r (atN zs j)) = true) := ⟨hbl, hall⟩
    clear hbl hall
    by_cases hlj : j < zs.length
    case neg =>
      obtain rfl : j = zs.length := by omega
      have hdl : decide ((zs.length : Int) < (zs.length : Int)) = false := by simp
      have hh := HON.out (by rw [HPL.out]; exact KD.out.2)
      go_wp2
      exact ⟨⟨r + 1, by omega, by simp, KD.out.1, hh⟩, by simp [intOf]; omega⟩
    obtain ⟨_, hsn⟩ := HSL.out
    rcases hsn with hsn | ⟨b', off', rfl, hb', h2⟩
    · omega
    have hz := HZr.out j hlj
    obtain ⟨i, hi⟩ : ∃ i : Nat, atN zs j = (i : Int) := ⟨(atN zs j).toNat, by omega⟩
    have hck := h2 j _ (atN_of hlj)
    rw [hi] at hck
    have xz : ∀ dd os, (grow (redrawn wr dd) os).cell? ⟨b', off' + j, none⟩ = some (.int .i64 (i : Int)) := fun dd os => ((bstep KD.out.1 (below_regrown wr dd os)).cell (p := ⟨b', off' + j, none⟩) hb').trans (hck)
    have jz : (j : Int) < (zs.length : Int) := by omega
    have jc : j < cap' := by omega
    have HB : Hid (servB k.machines r (atN zs j) = (decide ((i : Int) < (k.machines.length : Int)) && (!(atM k.machines i).alive || hasC (atM k.machines i) (r : Int)))) := by unfold Hid servB; rw [hi]; rfl
    have HFF : Hid (servB k.machines r (atN zs j) = false → clusterB k = false) := fun hh => HF.out (by rw [HPL.out]; exact all_off (f := fun j => servB k.machines r (atN zs j)) hlj hh)
    clear hck h2 hz hi
    by_cases him : i < k.machines.length
    case neg =>
      have dz : decide ((k.machines.length : Int) ≤ (i : Int)) = true := by simp <;> omega
      have dz2 : decide (k.machines.length ≤ i) = true := by simp <;> omega
      have hb0 : Hid (clusterB k = false) := HFF.out (by rw [HB.out]; simp [him])
      go_wp2_with fail
      refine wp_region_quiet_below (by kernel_rfl) (by kernel_rfl) ?_
      repeat (go_big_quiet_step (fail))
      refine wpQuiet_nil ?_
      intro _ hw'
      obtain ⟨⟨dq, osq⟩, hw''⟩ := hw'
      subst hw''
      have bq := below_regrown wr dq osq
      go_wp2
      go_ret
      exact ⟨by rw [hb0.out]; rfl, BF.out _ (bstep KD.out.1 bq)⟩
    have dz : decide ((k.machines.length : Int) ≤ (i : Int)) = false := by simp <;> omega
    have dz2 : decide (k.machines.length ≤ i) = false := by simp <;> omega
    have hd := atM_of him
    rcases HR.out.1.m with hs | ⟨b2, off2, rfl, hb2, h1⟩
    · rw [hs] at him; simp at him
    obtain ⟨⟨m0, m1, m2, m3, m4, m5⟩, hat, hrd⟩ := h1 i _ hd
    have hbx := FA.out.1 3 _ rfl
    have x3 : ∀ dd os, (grow (redrawn wr dd) os).cell? ⟨w.heap.size, 3, none⟩ = some (.slice (some ⟨b2, off2, none⟩) k.machines.length c2) := fun dd os => ((bstep KD.out.1 (below_regrown wr dd os)).cell (p := ⟨w.heap.size, 3, none⟩) FA.out.2.2).trans (hbx)
    clear hbx
    have e0 : ∀ dd os, (grow (redrawn wr dd) os).cell? ⟨b2, off2 + i * 4, none⟩ = some (.bool (atM k.machines i).alive) := fun dd os => ((bstep KD.out.1 (below_regrown wr dd os)).cell (p := ⟨b2, off2 + i * 4, none⟩) hb2).trans (hat 0 _ rfl)
    have e1 : ∀ dd os, (grow (redrawn wr dd) os).cell? ⟨b2, off2 + i * 4 + 1, none⟩ = some (.slice m0 (atM k.machines i).copies.length m1) := fun dd os => ((bstep KD.out.1 (below_regrown wr dd os)).cell (p := ⟨b2, off2 + i * 4 + 1, none⟩) hb2).trans (hat 1 _ rfl)
    have e2 : ∀ dd os, (grow (redrawn wr dd) os).cell? ⟨b2, off2 + i * 4 + 2, none⟩ = some (.slice m2 (atM k.machines i).log.length m3) := fun dd os => ((bstep KD.out.1 (below_regrown wr dd os)).cell (p := ⟨b2, off2 + i * 4 + 2, none⟩) hb2).trans (hat 2 _ rfl)
    have e3 : ∀ dd os, (grow (redrawn wr dd) os).cell? ⟨b2, off2 + i * 4 + 3, none⟩ = some (.slice m4 (atM k.machines i).cleared.length m5) := fun dd os => ((bstep KD.out.1 (below_regrown wr dd os)).cell (p := ⟨b2, off2 + i * 4 + 3, none⟩) hb2).trans (hat 3 _ rfl)
    have hML := HR.out.2.ms _ (List.mem_of_getElem? hd)
    have cQ : ∀ dd os, Calls Tryz.prog 35 #[.agg #[.bool (atM k.machines i).alive, .slice m0 (atM k.machines i).copies.length m1, .slice m2 (atM k.machines i).log.length m3, .slice m4 (atM k.machines i).cleared.length m5], .int .i64 (r : Int)] (grow (redrawn wr dd) os) fun e w'' => e = .returned (.int .i64 (idxC (atM k.machines i) (r : Int))) ∧ ∃ p : Regrown, w'' = grow (redrawn wr p.d) p.os := fun dd os => Calls.regrown_of (l6At_v _ m0 m1 m2 m3 m4 m5 (atM k.machines i) r hML (KMk.later hrd (bstep KD.out.1 (below_regrown wr dd os))))
    have im : (i : Int) < (k.machines.length : Int) := by omega
    have dC := idxC_lt (atM k.machines i) (r : Int)
    clear hat hrd h1 hd hML
    cases ha : (atM k.machines i).alive with
    | false =>
      rw [ha] at e0
      have hon : Hid ((List.range (j + 1)).all (fun j => servB k.machines r (atN zs j)) = true) := all_on (f := fun j => servB k.machines r (atN zs j)) KD.out.2 (by rw [HB.out]; simp [him, ha])
      clear cQ dC e1 e2 e3
      go_wp2_with fail
      refine wp_region_quiet_below (by kernel_rfl) (by kernel_rfl) ?_
      repeat (go_big_quiet_step (fail))
      refine wpQuiet_nil ?_
      intro _ hw'
      obtain ⟨⟨dq, osq⟩, hw''⟩ := hw'
      subst hw''
      have bq := below_regrown wr dq osq
      go_wp2
      exact ⟨⟨j + 1, by omega, by simp, bstep KD.out.1 bq, hon.out⟩, by simp [intOf]; omega⟩
    | true =>
      rw [ha] at e0 cQ
      generalize idxC (atM k.machines i) (r : Int) = ic at *
      cases hh : hasC (atM k.machines i) (r : Int) with
      | false =>
        rw [hh] at dC
        have hb0 : Hid (clusterB k = false) := HFF.out (by rw [HB.out]; simp [him, ha, hh])
        go_wp2_with fail
        refine wp_region_quiet_below (by kernel_rfl) (by kernel_rfl) ?_
        repeat (go_big_quiet_step (exact cQ _ _))
        refine wpQuiet_nil ?_
        intro _ hw'
        obtain ⟨⟨dq, osq⟩, hw''⟩ := hw'
        subst hw''
        have bq := below_regrown wr dq osq
        go_wp2
        go_ret
        exact ⟨by rw [hb0.out]; rfl, BF.out _ (bstep KD.out.1 bq)⟩
      | true =>
        rw [hh] at dC
        have hon : Hid ((List.range (j + 1)).all (fun j => servB k.machines r (atN zs j)) = true) := all_on (f := fun j => servB k.machines r (atN zs j)) KD.out.2 (by rw [HB.out]; simp [him, ha, hh])
        go_wp2_with fail
        refine wp_region_quiet_below (by kernel_rfl) (by kernel_rfl) ?_
        repeat (go_big_quiet_step (exact cQ _ _))
        refine wpQuiet_nil ?_
        intro _ hw'
        obtain ⟨⟨dq, osq⟩, hw''⟩ := hw'
        subst hw''
        have bq := below_regrown wr dq osq
        go_wp2
        exact ⟨⟨j + 1, by omega, by simp, bstep KD.out.1 bq, hon.out⟩, by simp [intOf]; omega⟩
  obtain rfl : r = k.places.length := by omega
  have hdl : decide ((k.places.length : Int) < (k.places.length : Int)) = false := by simp
  have HC3 : Hid (clusterB k = txsB k) := by unfold Hid; rw [HC2.out, placedB, KC.out.2]; simp
  go_wp2
  generalize wr = wB at *
  clear hdl p2
  go_loopw [8] (fun v8 wr => ∃ i : Nat, i ≤ k.txs.length ∧ v8 = .int .i64 i ∧ Below U.heap.size U wr ∧ (List.range i).all (txAtB k) = true) (fun v8 _ => k.txs.length - (intOf v8).toNat)
  case atStart => exact ⟨0, Nat.zero_le _, rfl, KC.out.1, rfl⟩
  case round =>
  obtain ⟨i, hi, rfl, hbl, hall⟩ := hrel
  have KE : Hid (Below U.heap.size U wr ∧ (List.range i).all (txAtB k) = true) := ⟨hbl, hall⟩
  clear hbl hall
  have p4 := (FA.out.later KE.out.1).1 4 _ rfl
  by_cases hlt : i < k.txs.length
  case neg =>
    obtain rfl : i = k.txs.length := by omega
    have hdl : decide ((k.txs.length : Int) < (k.txs.length : Int)) = false := by simp
    have hb0 : Hid (clusterB k = true) := by unfold Hid; rw [HC3.out]; exact KE.out.2
    go_wp2
    go_ret
    exact ⟨by rw [hb0.out]; rfl, BF.out _ KE.out.1⟩
  have hd := atT_of hlt
  have HM : Hid (i = 0 ∨ ∃ j, i = j + 1 ∧ k.txs[j]? = some (atT k.txs j)) := by
    rcases i with _ | j
    · exact .inl rfl
    · exact .inr ⟨j, rfl, atT_of (by omega)⟩
  rcases HR.out.1.t with hs | ⟨b, off, rfl, hb, h1⟩
  · rw [hs] at hlt; simp at hlt
  have HX : Hid (txAtB k i = (tx.txB (atT k.txs i) && (decide (i = 0) || decide ((atT k.txs (i - 1)).id < (atT k.txs i).id)) && decide ((atT k.txs i).home < (k.machines.length : Int)) && decide ((atT k.txs i).stamp ≤ k.clock) && readsB k.places.length (atT k.txs i).reads && setsB k.places.length (atT k.txs i).sets)) := rfl
  have HFF : Hid (txAtB k i = false → clusterB k = false) := fun hh => by rw [HC3.out, txsB]; exact all_off (f := txAtB k) hlt hh
  have HON : Hid (txAtB k i = true → (List.range (i + 1)).all (txAtB k) = true) := fun hh => all_on (f := txAtB k) KE.out.2 hh
  obtain ⟨⟨t0, t1, t2, t3⟩, hat, hrd⟩ := h1 i _ hd
  have hTL := HR.out.2.ts _ (List.mem_of_getElem? hd)
  have HP : Hid (∀ j, i = j + 1 → U.cell? ⟨b, off + j * 7, none⟩ = some (.int .i64 (atT k.txs j).id)) := fun j e => by
    obtain ⟨v, hat', _⟩ := h1 j _ (atT_of (by omega))
    exact hat' 0 _ rfl
  generalize ht : atT k.txs i = t at *
  have e0 : wr.cell? ⟨b, off + i * 7, none⟩ = some (.int .i64 t.id) := (KE.out.1.cell (p := ⟨b, off + i * 7, none⟩) hb).trans (hat 0 _ rfl)
  have e1 : wr.cell? ⟨b, off + i * 7 + 1, none⟩ = some (.int .i64 t.home) := (KE.out.1.cell (p := ⟨b, off + i * 7 + 1, none⟩) hb).trans (hat 1 _ rfl)
  have e2 : wr.cell? ⟨b, off + i * 7 + 2, none⟩ = some (.int .i64 t.phase) := (KE.out.1.cell (p := ⟨b, off + i * 7 + 2, none⟩) hb).trans (hat 2 _ rfl)
  have e3 : wr.cell? ⟨b, off + i * 7 + 3, none⟩ = some (.int .i64 t.count) := (KE.out.1.cell (p := ⟨b, off + i * 7 + 3, none⟩) hb).trans (hat 3 _ rfl)
  have e4 : wr.cell? ⟨b, off + i * 7 + 4, none⟩ = some (.slice t0 t.reads.length t1) := (KE.out.1.cell (p := ⟨b, off + i * 7 + 4, none⟩) hb).trans (hat 4 _ rfl)
  have e5 : wr.cell? ⟨b, off + i * 7 + 5, none⟩ = some (.slice t2 t.sets.length t3) := (KE.out.1.cell (p := ⟨b, off + i * 7 + 5, none⟩) hb).trans (hat 5 _ rfl)
  have e6 : wr.cell? ⟨b, off + i * 7 + 6, none⟩ = some (.int .i64 t.stamp) := (KE.out.1.cell (p := ⟨b, off + i * 7 + 6, none⟩) hb).trans (hat 6 _ rfl)
  obtain ⟨V, hV⟩ : ∃ Y, Y = wr.alloc (.cells #[.int .i64 t.id, .int .i64 t.home, .int .i64 t.phase, .int .i64 t.count, .slice t0 t.reads.length t1, .slice t2 t.sets.length t3, .int .i64 t.stamp] 40) := ⟨_, rfl⟩
  have bV : Below wr.heap.size wr V := by rw [hV]; exact (Below.refl _ _).alloc (Nat.le_refl _) _
  have FT : Hid (Bx V wr.heap.size [.int .i64 t.id, .int .i64 t.home, .int .i64 t.phase, .int .i64 t.count, .slice t0 t.reads.length t1, .slice t2 t.sets.length t3, .int .i64 t.stamp]) := by rw [hV]; exact Bx.made wr [.int .i64 t.id, .int .i64 t.home, .int .i64 t.phase, .int .i64 t.count, .slice t0 t.reads.length t1, .slice t2 t.sets.length t3, .int .i64 t.stamp] _
  have KV : Hid (Below U.heap.size U V) := bstep KE.out.1 bV
  have HRT : Hid (tx.SlT U ⟨t0, t1, t2, t3⟩ t ∧ tx.TL t) := ⟨hrd, hTL⟩
  have ji : (i : Int) < (k.txs.length : Int) := by omega
  clear hat hrd h1 hd hTL bV
  go_upto_region 22 with fail
  rw [← hV]
  clear hV p4 e0 e1 e2 e3 e4 e5 e6 ji
  generalize wr.heap.size = s9 at *
  generalize wr = wD at *
  generalize V = wr at *
  have f0 : ∀ dd os, (grow (redrawn wr dd) os).cell? ⟨s9, 0, none⟩ = some (.int .i64 t.id) := fun dd os => (FT.out.later (below_regrown wr dd os)).1 0 _ rfl
  have f1 : ∀ dd os, (grow (redrawn wr dd) os).cell? ⟨s9, 1, none⟩ = some (.int .i64 t.home) := fun dd os => (FT.out.later (below_regrown wr dd os)).1 1 _ rfl
  have f2 : ∀ dd os, (grow (redrawn wr dd) os).cell? ⟨s9, 2, none⟩ = some (.int .i64 t.phase) := fun dd os => (FT.out.later (below_regrown wr dd os)).1 2 _ rfl
  have f3 : ∀ dd os, (grow (redrawn wr dd) os).cell? ⟨s9, 3, none⟩ = some (.int .i64 t.count) := fun dd os => (FT.out.later (below_regrown wr dd os)).1 3 _ rfl
  have f4 : ∀ dd os, (grow (redrawn wr dd) os).cell? ⟨s9, 4, none⟩ = some (.slice t0 t.reads.length t1) := fun dd os => (FT.out.later (below_regrown wr dd os)).1 4 _ rfl
  have f5 : ∀ dd os, (grow (redrawn wr dd) os).cell? ⟨s9, 5, none⟩ = some (.slice t2 t.sets.length t3) := fun dd os => (FT.out.later (below_regrown wr dd os)).1 5 _ rfl
  have f6 : ∀ dd os, (grow (redrawn wr dd) os).cell? ⟨s9, 6, none⟩ = some (.int .i64 t.stamp) := fun dd os => (FT.out.later (below_regrown wr dd os)).1 6 _ rfl
  have cT : ∀ dd os, Calls Tryz.prog 36 #[.agg #[.int .i64 t.id, .int .i64 t.home, .int .i64 t.phase, .int .i64 t.count, .slice t0 t.reads.length t1, .slice t2 t.sets.length t3, .int .i64 t.stamp]] (grow (redrawn wr dd) os) fun e w'' => e = .returned (.bool (tx.txB t)) ∧ ∃ p : Regrown, w'' = grow (redrawn wr p.d) p.os := fun dd os => by
    have hh := tx.specTxOk_any (grow (redrawn wr dd) os) ⟨t0, t1, t2, t3⟩ t HRT.out.2 (HRT.out.1.later (bstep KV.out (below_regrown wr dd os)))
    simp only [tx.TV.val] at hh
    exact Calls.regrown_of hh
  have hbx := FA.out.1 4 _ rfl
  have x4 : ∀ dd os, (grow (redrawn wr dd) os).cell? ⟨w.heap.size, 4, none⟩ = some (.slice (some ⟨b, off, none⟩) k.txs.length c3) := fun dd os => ((bstep KV.out (below_regrown wr dd os)).cell (p := ⟨w.heap.size, 4, none⟩) FA.out.2.2).trans (hbx)
  have hbx := FA.out.1 1 _ rfl
  have x1 : ∀ dd os, (grow (redrawn wr dd) os).cell? ⟨w.heap.size, 1, none⟩ = some (.int .i64 k.clock) := fun dd os => ((bstep KV.out (below_regrown wr dd os)).cell (p := ⟨w.heap.size, 1, none⟩) FA.out.2.2).trans (hbx)
  clear hbx
  have KD : Hid (Below U.heap.size U wr ∧ True) := ⟨KV.out, trivial⟩
  cases hB : tx.txB t with
  | false =>
    rw [hB] at cT
    have hb0 : Hid (clusterB k = false) := HFF.out (by rw [HX.out, hB]; rfl)
    go_wp2_with fail
    refine wp_region_quiet_below (by kernel_rfl) (by kernel_rfl) ?_
    repeat (go_big_quiet_step (exact cT _ _))
    refine wpQuiet_nil ?_
    intro _ hw'
    obtain ⟨⟨dq, osq⟩, hw''⟩ := hw'
    subst hw''
    have bq := below_regrown wr dq osq
    go_wp2
    go_ret
    exact ⟨by rw [hb0.out]; rfl, BF.out _ (bstep KD.out.1 bq)⟩
  | true =>
  rw [hB] at cT
  by_cases gi : i = 0 ∨ (atT k.txs (i - 1)).id < t.id
  case neg =>
    obtain ⟨j, rfl, -⟩ := HM.out.resolve_left (fun e => gi (.inl e))
    have hle : ¬ (atT k.txs j).id < t.id := fun e => gi (.inr e)
    have hid := HP.out j rfl
    have xj : ∀ dd os, (grow (redrawn wr dd) os).cell? ⟨b, off + j * 7, none⟩ = some (.int .i64 (atT k.txs j).id) := fun dd os => ((bstep KV.out (below_regrown wr dd os)).cell (p := ⟨b, off + j * 7, none⟩) hb).trans (hid)
    have d0 : decide ((0 : Int) < ((j + 1 : Nat) : Int)) = true := by simp <;> omega
    have ej : ((j + 1 : Nat) : Int) - 1 = (j : Int) := by omega
    have d1 : decide (t.id ≤ (atT k.txs j).id) = true := by simp <;> omega
    have jn : (j : Int) < (k.txs.length : Int) := by omega
    have hb0 : Hid (clusterB k = false) := HFF.out (by rw [HX.out]; simp [hle])
    clear hid gi hle
    go_wp2_with fail
    refine wp_region_quiet_below (by kernel_rfl) (by kernel_rfl) ?_
    repeat (go_big_quiet_step (exact cT _ _))
    refine wpQuiet_nil ?_
    intro _ hw'
    obtain ⟨⟨dq, osq⟩, hw''⟩ := hw'
    subst hw''
    have bq := below_regrown wr dq osq
    go_wp2
    go_ret
    exact ⟨by rw [hb0.out]; rfl, BF.out _ (bstep KD.out.1 bq)⟩
  by_cases gh : t.home < (k.machines.length : Int)
  case neg =>
    have dh : decide ((k.machines.length : Int) ≤ t.home) = true := by simp <;> omega
    have hb0 : Hid (clusterB k = false) := HFF.out (by rw [HX.out]; simp [gh])
    rcases HM.out with rfl | ⟨j, rfl, -⟩
    · have d0 : decide ((0 : Int) < ((0 : Nat) : Int)) = false := by simp
      go_wp2_with fail
      refine wp_region_quiet_below (by kernel_rfl) (by kernel_rfl) ?_
      repeat (go_big_quiet_step (exact cT _ _))
      refine wpQuiet_nil ?_
      intro _ hw'
      obtain ⟨⟨dq, osq⟩, hw''⟩ := hw'
      subst hw''
      have bq := below_regrown wr dq osq
      go_wp2
      go_ret
      exact ⟨by rw [hb0.out]; rfl, BF.out _ (bstep KD.out.1 bq)⟩
    · have hlt' : (atT k.txs j).id < t.id := by rcases gi with e | e; omega; exact e
      have hid := HP.out j rfl
      have xj : ∀ dd os, (grow (redrawn wr dd) os).cell? ⟨b, off + j * 7, none⟩ = some (.int .i64 (atT k.txs j).id) := fun dd os => ((bstep KV.out (below_regrown wr dd os)).cell (p := ⟨b, off + j * 7, none⟩) hb).trans (hid)
      have d0 : decide ((0 : Int) < ((j + 1 : Nat) : Int)) = true := by simp <;> omega
      have ej : ((j + 1 : Nat) : Int) - 1 = (j : Int) := by omega
      have d1 : decide (t.id ≤ (atT k.txs j).id) = false := by simp <;> omega
      have jn : (j : Int) < (k.txs.length : Int) := by omega
      clear hid hlt'
      go_wp2_with fail
      refine wp_region_quiet_below (by kernel_rfl) (by kernel_rfl) ?_
      repeat (go_big_quiet_step (exact cT _ _))
      refine wpQuiet_nil ?_
      intro _ hw'
      obtain ⟨⟨dq, osq⟩, hw''⟩ := hw'
      subst hw''
      have bq := below_regrown wr dq osq
      go_wp2
      go_ret
      exact ⟨by rw [hb0.out]; rfl, BF.out _ (bstep KD.out.1 bq)⟩
  have dh : decide ((k.machines.length : Int) ≤ t.home) = false := by simp <;> omega
  by_cases gs : t.stamp ≤ k.clock
  case neg =>
    have ds : decide (k.clock < t.stamp) = true := by simp <;> omega
    have hb0 : Hid (clusterB k = false) := HFF.out (by rw [HX.out]; simp [gs])
    rcases HM.out with rfl | ⟨j, rfl, -⟩
    · have d0 : decide ((0 : Int) < ((0 : Nat) : Int)) = false := by simp
      go_wp2_with fail
      refine wp_region_quiet_below (by kernel_rfl) (by kernel_rfl) ?_
      repeat (go_big_quiet_step (exact cT _ _))
      refine wpQuiet_nil ?_
      intro _ hw'
      obtain ⟨⟨dq, osq⟩, hw''⟩ := hw'
      subst hw''
      have bq := below_regrown wr dq osq
      go_wp2
      go_ret
      exact ⟨by rw [hb0.out]; rfl, BF.out _ (bstep KD.out.1 bq)⟩
    · have hlt' : (atT k.txs j).id < t.id := by rcases gi with e | e; omega; exact e
      have hid := HP.out j rfl
      have xj : ∀ dd os, (grow (redrawn wr dd) os).cell? ⟨b, off + j * 7, none⟩ = some (.int .i64 (atT k.txs j).id) := fun dd os => ((bstep KV.out (below_regrown wr dd os)).cell (p := ⟨b, off + j * 7, none⟩) hb).trans (hid)
      have d0 : decide ((0 : Int) < ((j + 1 : Nat) : Int)) = true := by simp <;> omega
      have ej : ((j + 1 : Nat) : Int) - 1 = (j : Int) := by omega
      have d1 : decide (t.id ≤ (atT k.txs j).id) = false := by simp <;> omega
      have jn : (j : Int) < (k.txs.length : Int) := by omega
      clear hid hlt'
      go_wp2_with fail
      refine wp_region_quiet_below (by kernel_rfl) (by kernel_rfl) ?_
      repeat (go_big_quiet_step (exact cT _ _))
      refine wpQuiet_nil ?_
      intro _ hw'
      obtain ⟨⟨dq, osq⟩, hw''⟩ := hw'
      subst hw''
      have bq := below_regrown wr dq osq
      go_wp2
      go_ret
      exact ⟨by rw [hb0.out]; rfl, BF.out _ (bstep KD.out.1 bq)⟩
  have ds : decide (k.clock < t.stamp) = false := by simp <;> omega
  have HY : Hid (txAtB k i = (readsB k.places.length t.reads && setsB k.places.length t.sets)) := by
    unfold Hid
    rw [HX.out]
    rcases gi with gi | gi <;> simp [hB, gi, gh, gs]
  have lr := HRT.out.2.r
  have ls := HRT.out.2.s
  unfold maxLen at lr ls
  have CUT : Hid (∀ X, Below wr.heap.size wr X → Below U.heap.size U X) := fun X hX => bstep KV.out hX
  go_cut [149] from 118 to 149 (fun s149 wx => s149 = .bool false ∧ Below wr.heap.size wr wx)
  case first =>
    rcases HM.out with rfl | ⟨j, rfl, -⟩
    · have d0 : decide ((0 : Int) < ((0 : Nat) : Int)) = false := by simp
      go_wp2_with fail
      refine wp_region_quiet_below (by kernel_rfl) (by kernel_rfl) ?_
      repeat (go_big_quiet_step (exact cT _ _))
      refine wpQuiet_nil ?_
      intro _ hw'
      obtain ⟨⟨dq, osq⟩, hw''⟩ := hw'
      subst hw''
      have bq := below_regrown wr dq osq
      go_wp2_with fail
      go_meet
      exact ⟨rfl, bq⟩
    · have hlt' : (atT k.txs j).id < t.id := by rcases gi with e | e; omega; exact e
      have hid := HP.out j rfl
      have xj : ∀ dd os, (grow (redrawn wr dd) os).cell? ⟨b, off + j * 7, none⟩ = some (.int .i64 (atT k.txs j).id) := fun dd os => ((bstep KV.out (below_regrown wr dd os)).cell (p := ⟨b, off + j * 7, none⟩) hb).trans (hid)
      have d0 : decide ((0 : Int) < ((j + 1 : Nat) : Int)) = true := by simp <;> omega
      have ej : ((j + 1 : Nat) : Int) - 1 = (j : Int) := by omega
      have d1 : decide (t.id ≤ (atT k.txs j).id) = false := by simp <;> omega
      have jn : (j : Int) < (k.txs.length : Int) := by omega
      clear hid hlt'
      go_wp2_with fail
      refine wp_region_quiet_below (by kernel_rfl) (by kernel_rfl) ?_
      repeat (go_big_quiet_step (exact cT _ _))
      refine wpQuiet_nil ?_
      intro _ hw'
      obtain ⟨⟨dq, osq⟩, hw''⟩ := hw'
      subst hw''
      have bq := below_regrown wr dq osq
      go_wp2_with fail
      go_meet
      exact ⟨rfl, bq⟩
  case rest =>
  obtain ⟨rfl, bx⟩ := hcut
  have KW : Hid (Below wr.heap.size wr wc ∧ Below U.heap.size U wc) := ⟨bx, bstep KV.out bx⟩
  clear bx f0 f1 f2 f3 f4 f5 f6 cT x4 x1 dh ds KD
  generalize wc = wE at *
  go_wp2
  generalize wr = wF at *
  go_loopw [10] (fun v wr => ∃ j : Nat, j ≤ t.reads.length ∧ v = .int .i64 j ∧ Below wF.heap.size wF wr ∧ (List.range j).all (fun j => decide ((tx.atNo t.reads j).region < (k.places.length : Int))) = true) (fun v _ => t.reads.length - (intOf v).toNat)
  case atStart => exact ⟨0, Nat.zero_le _, rfl, KW.out.1, rfl⟩
  case round =>
  obtain ⟨j, hj, rfl, hbl, hall⟩ := hrel
  have KD : Hid (Below U.heap.size U wr ∧ Below wF.heap.size wF wr ∧ (List.range j).all (fun j => decide ((tx.atNo t.reads j).region < (k.places.length : Int))) = true) := ⟨CUT.out _ hbl, hbl, hall⟩
  clear hbl hall
  have p9 := (FT.out.later KD.out.2.1).1 4 _ rfl
  by_cases hlj : j < t.reads.length
  case pos =>
    obtain ⟨_, hsn⟩ := HRT.out.1.r
    dsimp only at hsn
    rcases hsn with hsn | ⟨b', off', rfl, hb', h2⟩
    · omega
    have hck := (h2 j _ (tx.atNo_of hlj)).c0
    have xz : ∀ dd os, (grow (redrawn wr dd) os).cell? ⟨b', off' + j * 5, none⟩ = some (.int .i64 (tx.atNo t.reads j).region) := fun dd os => ((bstep KD.out.1 (below_regrown wr dd os)).cell (p := ⟨b', off' + j * 5, none⟩) hb').trans (hck)
    have hbx := FA.out.1 2 _ rfl
    have x2 : ∀ dd os, (grow (redrawn wr dd) os).cell? ⟨w.heap.size, 2, none⟩ = some (.slice a1 k.places.length c1) := fun dd os => ((bstep KD.out.1 (below_regrown wr dd os)).cell (p := ⟨w.heap.size, 2, none⟩) FA.out.2.2).trans (hbx)
    have x9 : ∀ dd os, (grow (redrawn wr dd) os).cell? ⟨s9, 4, none⟩ = some (.slice (some ⟨b', off', none⟩) t.reads.length t1) := fun dd os => (FT.out.later (bstep KD.out.2.1 (below_regrown wr dd os))).1 4 _ rfl
    have jz : (j : Int) < (t.reads.length : Int) := by omega
    clear hck h2 hbx
    by_cases hz : (tx.atNo t.reads j).region < (k.places.length : Int)
    case neg =>
      have dz : decide ((k.places.length : Int) ≤ (tx.atNo t.reads j).region) = true := by simp <;> omega
      have hb0 : Hid (clusterB k = false) := HFF.out (by rw [HY.out, readsB, all_off (f := fun j => decide ((tx.atNo t.reads j).region < (k.places.length : Int))) hlj (by simpa using hz)]; simp)
      go_wp2_with fail
      refine wp_region_quiet_below (by kernel_rfl) (by kernel_rfl) ?_
      repeat (go_big_quiet_step (fail))
      refine wpQuiet_nil ?_
      intro _ hw'
      obtain ⟨⟨dq, osq⟩, hw''⟩ := hw'
      subst hw''
      have bq := below_regrown wr dq osq
      go_wp2
      go_ret
      exact ⟨by rw [hb0.out]; rfl, BF.out _ (bstep KD.out.1 bq)⟩
    have dz : decide ((k.places.length : Int) ≤ (tx.atNo t.reads j).region) = false := by simp <;> omega
    have hon : Hid ((List.range (j + 1)).all (fun j => decide ((tx.atNo t.reads j).region < (k.places.length : Int))) = true) := all_on (f := fun j => decide ((tx.atNo t.reads j).region < (k.places.length : Int))) KD.out.2.2 (by simpa using hz)
    go_wp2_with fail
    refine wp_region_quiet_below (by kernel_rfl) (by kernel_rfl) ?_
    repeat (go_big_quiet_step (fail))
    refine wpQuiet_nil ?_
    intro _ hw'
    obtain ⟨⟨dq, osq⟩, hw''⟩ := hw'
    subst hw''
    have bq := below_regrown wr dq osq
    go_wp2
    exact ⟨⟨j + 1, by omega, by simp, bstep KD.out.2.1 bq, hon.out⟩, by simp [intOf]; omega⟩
  obtain rfl : j = t.reads.length := by omega
  have hdl : decide ((t.reads.length : Int) < (t.reads.length : Int)) = false := by simp
  have HY2 : Hid (txAtB k i = setsB k.places.length t.sets) := by unfold Hid; rw [HY.out, readsB, KD.out.2.2]; simp
  have KX : Hid (Below wF.heap.size wF wr) := KD.out.2.1
  go_wp2
  clear p9 hdl
  generalize wr = wG at *
  go_loopw [11] (fun v wr => ∃ j : Nat, j ≤ t.sets.length ∧ v = .int .i64 j ∧ Below wF.heap.size wF wr ∧ (List.range j).all (fun j => decide ((tx.atSe t.sets j).region < (k.places.length : Int))) = true) (fun v _ => t.sets.length - (intOf v).toNat)
  case atStart => exact ⟨0, Nat.zero_le _, rfl, KX.out, rfl⟩
  case round =>
  obtain ⟨j, hj, rfl, hbl, hall⟩ := hrel
  have KD : Hid (Below U.heap.size U wr ∧ Below wF.heap.size wF wr ∧ (List.range j).all (fun j => decide ((tx.atSe t.sets j).region < (k.places.length : Int))) = true) := ⟨CUT.out _ hbl, hbl, hall⟩
  clear hbl hall
  have p9 := (FT.out.later KD.out.2.1).1 5 _ rfl
  by_cases hlj : j < t.sets.length
  case pos =>
    obtain ⟨_, hsn⟩ := HRT.out.1.s
    dsimp only at hsn
    rcases hsn with hsn | ⟨b', off', rfl, hb', h2⟩
    · omega
    have hck := (h2 j _ (tx.atSe_of hlj)).c0
    have xz : ∀ dd os, (grow (redrawn wr dd) os).cell? ⟨b', off' + j * 5, none⟩ = some (.int .i64 (tx.atSe t.sets j).region) := fun dd os => ((bstep KD.out.1 (below_regrown wr dd os)).cell (p := ⟨b', off' + j * 5, none⟩) hb').trans (hck)
    have hbx := FA.out.1 2 _ rfl
    have x2 : ∀ dd os, (grow (redrawn wr dd) os).cell? ⟨w.heap.size, 2, none⟩ = some (.slice a1 k.places.length c1) := fun dd os => ((bstep KD.out.1 (below_regrown wr dd os)).cell (p := ⟨w.heap.size, 2, none⟩) FA.out.2.2).trans (hbx)
    have x9 : ∀ dd os, (grow (redrawn wr dd) os).cell? ⟨s9, 5, none⟩ = some (.slice (some ⟨b', off', none⟩) t.sets.length t3) := fun dd os => (FT.out.later (bstep KD.out.2.1 (below_regrown wr dd os))).1 5 _ rfl
    have jz : (j : Int) < (t.sets.length : Int) := by omega
    clear hck h2 hbx
    by_cases hz : (tx.atSe t.sets j).region < (k.places.length : Int)
    case neg =>
      have dz : decide ((k.places.length : Int) ≤ (tx.atSe t.sets j).region) = true := by simp <;> omega
      have hb0 : Hid (clusterB k = false) := HFF.out (by rw [HY2.out, setsB, all_off (f := fun j => decide ((tx.atSe t.sets j).region < (k.places.length : Int))) hlj (by simpa using hz)])
      go_wp2_with fail
      refine wp_region_quiet_below (by kernel_rfl) (by kernel_rfl) ?_
      repeat (go_big_quiet_step (fail))
      refine wpQuiet_nil ?_
      intro _ hw'
      obtain ⟨⟨dq, osq⟩, hw''⟩ := hw'
      subst hw''
      have bq := below_regrown wr dq osq
      go_wp2
      go_ret
      exact ⟨by rw [hb0.out]; rfl, BF.out _ (bstep KD.out.1 bq)⟩
    have dz : decide ((k.places.length : Int) ≤ (tx.atSe t.sets j).region) = false := by simp <;> omega
    have hon : Hid ((List.range (j + 1)).all (fun j => decide ((tx.atSe t.sets j).region < (k.places.length : Int))) = true) := all_on (f := fun j => decide ((tx.atSe t.sets j).region < (k.places.length : Int))) KD.out.2.2 (by simpa using hz)
    go_wp2_with fail
    refine wp_region_quiet_below (by kernel_rfl) (by kernel_rfl) ?_
    repeat (go_big_quiet_step (fail))
    refine wpQuiet_nil ?_
    intro _ hw'
    obtain ⟨⟨dq, osq⟩, hw''⟩ := hw'
    subst hw''
    have bq := below_regrown wr dq osq
    go_wp2
    exact ⟨⟨j + 1, by omega, by simp, bstep KD.out.2.1 bq, hon.out⟩, by simp [intOf]; omega⟩
  obtain rfl : j = t.sets.length := by omega
  have hdl : decide ((t.sets.length : Int) < (t.sets.length : Int)) = false := by simp
  have hh := HON.out (by rw [HY2.out, setsB]; exact KD.out.2.2)
  go_wp2
  exact ⟨⟨i + 1, by omega, by simp, KD.out.1, hh⟩, by simp [intOf]; omega⟩
end Go.Proofs.YtalmflikdnflfaaGreat
