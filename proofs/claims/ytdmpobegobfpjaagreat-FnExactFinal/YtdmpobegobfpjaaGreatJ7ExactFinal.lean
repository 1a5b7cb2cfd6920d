/- CluS; Until; OwnI; TakeA; NumOwn; CpyG; OrS: joined. -/
import Derived.Test.YtdmpobegobfpjaaGreatRows
import Derived.Test.YtdmpobegobfpjaaGreatJ6ExactFinal
import Derived.Test.YtdmpobegobfpjaaGreatJ5ExactFinal
import Derived.WalkKit
import Derived.WalkSpells
import Derived.WalkLawsBesides
import Derived.Below
import Derived.Lib.QuietBelow
import Derived.BigQuiet
import Derived.Deep.CutRange
import Derived.OrdersHeld
import Derived.Deep.RegionHeld
import Derived.Deep.Upon
import Derived.Test.YtdmpobegobfpjaaGreatJ0ExactFinal
import Derived.Maps.AppendAt
import Derived.Laws.OwnMore
import Derived.Deep.AppendLies
import Derived.Test.YtdmpobegobfpjaaGreatJ3ExactFinal
import Derived.Test.YtdmpobegobfpjaaGreatJ4ExactFinal
import Derived.LaidEql
import Derived.RowKitTokens
namespace Go.Proofs.YtdmpobegobfpjaaGreat
open Go.RowKit
open Go.Sort (grow)
set_option maxRecDepth 100000 in
set_option maxHeartbeats 8000000 in
theorem specClusterOk_any (w : World) (a1 : Option Addr) (c1 : Nat) (a2 : Option Addr) (c2 : Nat) (a3 : Option Addr) (c3 : Nat) (k : C6) (hl : KCl.L k) (h : KCl.Rd w a1 c1 a2 c2 a3 c3 k) : Calls Tryz.prog 28 #[.agg #[.int .i64 k.config, .int .i64 k.clock, .slice a1 k.places.length c1, .slice a2 k.machines.length c2, .slice a3 k.txs.length c3, .bool k.lost]] w fun e w' => e = .returned (.bool (clusterB k)) ∧ Below w.heap.size w w' := by
  obtain ⟨U, hU⟩ : ∃ Y, Y = w.alloc (.cells #[.int .i64 k.config, .int .i64 k.clock, .slice a1 k.places.length c1, .slice a2 k.machines.length c2, .slice a3 k.txs.length c3, .bool k.lost] 34) := ⟨_, rfl⟩
  have b0 : Below w.heap.size w U := by rw [hU]; exact (Below.refl _ _).alloc (Nat.le_refl _) _
  have FA : Hid (Bx U w.heap.size [.int .i64 k.config, .int .i64 k.clock, .slice a1 k.places.length c1, .slice a2 k.machines.length c2, .slice a3 k.txs.length c3, .bool k.lost]) := by rw [hU]; exact Bx.made w [.int .i64 k.config, .int .i64 k.clock, .slice a1 k.places.length c1, .slice a2 k.machines.length c2, .slice a3 k.txs.length c3, .bool k.lost] _
  have HR : Hid (KCl.Rd U a1 c1 a2 c2 a3 c3 k ∧ KCl.L k) := ⟨h.later b0, hl⟩
  have BW : Hid (Below w.heap.size w U) := b0
  have lm := hl.m
  have lt := hl.t
  have lp := hl.p
  unfold maxLen at lm lt lp
  have p0 := FA.out.1 0 _ rfl
  have p1 := FA.out.1 1 _ rfl
  have p2 := FA.out.1 2 _ rfl
  have p3 := FA.out.1 3 _ rfl
  have p4 := FA.out.1 4 _ rfl
  clear b0 hl h
  by_cases g0 : inB 1 1000000 k.config = true
  case neg =>
    have d0 : inB 1 1000000 k.config = false := by simpa using g0
    have hb : clusterB k = false := by simp [clusterB, d0]
    rw [hb]
    rw [hU] at BW p0 p1 p2 p3 p4
    clear FA HR hU
    go_enter Tryz.func28, Tryz.ntmps28
    go_wp2_with (first | (go_at_call 53; refine (tx.specId_e _ _).mono ?_; rintro e w' ⟨rfl, rfl⟩) | (go_at_call 43; refine (specIn _ _ _ _).mono ?_; rintro e w' ⟨rfl, rfl⟩))
    go_ret
    exact ⟨rfl, BW.out⟩
  by_cases g1 : inB 0 1000000 k.clock = true
  case neg =>
    have d1 : inB 0 1000000 k.clock = false := by simpa using g1
    have hb : clusterB k = false := by simp [clusterB, d1]
    rw [hb]
    rw [hU] at BW p0 p1 p2 p3 p4
    clear FA HR hU
    go_enter Tryz.func28, Tryz.ntmps28
    go_wp2_with (first | (go_at_call 53; refine (tx.specId_e _ _).mono ?_; rintro e w' ⟨rfl, rfl⟩) | (go_at_call 43; refine (specIn _ _ _ _).mono ?_; rintro e w' ⟨rfl, rfl⟩))
    go_ret
    exact ⟨rfl, BW.out⟩
  by_cases g2 : 1 ≤ k.machines.length
  case neg =>
    have d2 : decide ((k.machines.length : Int) < 1) = true := by simp; omega
    have hb : clusterB k = false := by simp [clusterB, g2]
    rw [hb]
    rw [hU] at BW p0 p1 p2 p3 p4
    clear FA HR hU
    go_enter Tryz.func28, Tryz.ntmps28
    go_wp2_with (first | (go_at_call 53; refine (tx.specId_e _ _).mono ?_; rintro e w' ⟨rfl, rfl⟩) | (go_at_call 43; refine (specIn _ _ _ _).mono ?_; rintro e w' ⟨rfl, rfl⟩))
    go_ret
    exact ⟨rfl, BW.out⟩
  have d2 : decide ((k.machines.length : Int) < 1) = false := by simp; omega
  by_cases g3 : k.machines.length ≤ 8
  case neg =>
    have d3 : decide ((8 : Int) < (k.machines.length : Int)) = true := by simp; omega
    have hb : clusterB k = false := by simp [clusterB, g3]
    rw [hb]
    rw [hU] at BW p0 p1 p2 p3 p4
    clear FA HR hU
    go_enter Tryz.func28, Tryz.ntmps28
    go_wp2_with (first | (go_at_call 53; refine (tx.specId_e _ _).mono ?_; rintro e w' ⟨rfl, rfl⟩) | (go_at_call 43; refine (specIn _ _ _ _).mono ?_; rintro e w' ⟨rfl, rfl⟩))
    go_ret
    exact ⟨rfl, BW.out⟩
  have d3 : decide ((8 : Int) < (k.machines.length : Int)) = false := by simp; omega
  have BF : Hid (∀ V, Below U.heap.size U V → Below w.heap.size w V) := fun V hV => bstep BW.out hV
  have hc := specPlacesOk_any U a1 k.places.length c1 k.places HR.out.2.p HR.out.1.p
  rw [hU] at p0 p1 p2 p3 p4
  clear BW
  go_enter Tryz.func28, Tryz.ntmps28
  go_wp2_with (first | (go_at_call 53; refine (tx.specId_e _ _).mono ?_; rintro e w' ⟨rfl, rfl⟩) | (go_at_call 43; refine (specIn _ _ _ _).mono ?_; rintro e w' ⟨rfl, rfl⟩))
  rw [← hU]
  clear hU p0 p1 p2 p3 p4
  refine hc.mono ?_
  clear hc
  rintro e w1 ⟨rfl, b1⟩
  have B1 := tx.hidOf b1
  clear b1
  have p4 := (FA.out.later B1.out).1 4 _ rfl
  cases hP : placesB k.places with
  | false =>
    have hb : Hid (clusterB k = false) := by unfold Hid; simp [clusterB, hP]
    go_wp2
    go_ret
    exact ⟨by rw [hb.out]; rfl, BF.out _ B1.out⟩
  | true =>
  by_cases g5 : k.txs.length ≤ 60
  case neg =>
    have d5 : decide ((60 : Int) < (k.txs.length : Int)) = true := by simp; omega
    have hb : Hid (clusterB k = false) := by unfold Hid; simp [clusterB, g5]
    go_wp2
    go_ret
    exact ⟨by rw [hb.out]; rfl, BF.out _ B1.out⟩
  have d5 : decide ((60 : Int) < (k.txs.length : Int)) = false := by simp; omega
  have HC : Hid (clusterB k = (machsB k.machines && placedB k.places k.machines && txsB k)) := by unfold Hid; simp [clusterB, g0, g1, g2, g3, hP, g5]
  have HZ : Hid (∀ r j, r < k.places.length → j < (atP k.places r).length → 0 ≤ atN (atP k.places r) j ∧ atN (atP k.places r) j ≤ 7) := fun r j hr hj => places_z hP hr hj
  clear g0 g1 hP
  go_wp2
  clear p4 d2 d3 d5
  go_loopw [4] (fun v4 wr => ∃ i : Nat, i ≤ k.machines.length ∧ v4 = .int .i64 i ∧ Below U.heap.size U wr ∧ (List.range i).all (fun i => machB (atM k.machines i)) = true) (fun v4 _ => k.machines.length - (intOf v4).toNat)
  case atStart => exact ⟨0, Nat.zero_le _, rfl, B1.out, rfl⟩
  case round =>
  obtain ⟨i, hi, rfl, hbl, hall⟩ := hrel
  have KB : Hid (Below U.heap.size U wr ∧ (List.range i).all (fun i => machB (atM k.machines i)) = true) := ⟨hbl, hall⟩
  clear hbl hall
  by_cases hlt : i < k.machines.length
  case pos =>
    have hd := atM_of hlt
    rcases HR.out.1.m with hs | ⟨b, off, rfl, hb, h1⟩
    · rw [hs] at hlt; simp at hlt
    obtain ⟨⟨m0, m1, m2, m3, m4, m5⟩, hat, hrd⟩ := h1 i _ hd
    have e0 : wr.cell? ⟨b, off + i * 4, none⟩ = some (.bool (atM k.machines i).alive) := (KB.out.1.cell (p := ⟨b, off + i * 4, none⟩) hb).trans (hat 0 _ rfl)
    have e1 : wr.cell? ⟨b, off + i * 4 + 1, none⟩ = some (.slice m0 (atM k.machines i).copies.length m1) := (KB.out.1.cell (p := ⟨b, off + i * 4 + 1, none⟩) hb).trans (hat 1 _ rfl)
    have e2 : wr.cell? ⟨b, off + i * 4 + 2, none⟩ = some (.slice m2 (atM k.machines i).log.length m3) := (KB.out.1.cell (p := ⟨b, off + i * 4 + 2, none⟩) hb).trans (hat 2 _ rfl)
    have e3 : wr.cell? ⟨b, off + i * 4 + 3, none⟩ = some (.slice m4 (atM k.machines i).cleared.length m5) := (KB.out.1.cell (p := ⟨b, off + i * 4 + 3, none⟩) hb).trans (hat 3 _ rfl)
    have hML := HR.out.2.ms _ (List.mem_of_getElem? hd)
    have hc := specMachineOk_any wr ⟨m0, m1, m2, m3, m4, m5⟩ (atM k.machines i) hML.k hML.r hML.n hML.ks hML.rs (KMk.later hrd KB.out.1)
    simp only [MV.val] at hc
    have p3 := (FA.out.later KB.out.1).1 3 _ rfl
    have jn : (i : Int) < (k.machines.length : Int) := by omega
    clear hat hrd h1 hd hML hb
    go_wp2_with fail
    refine hc.mono ?_
    clear hc e0 e1 e2 e3 p3
    rintro e w2 ⟨rfl, b2⟩
    have K2 : Hid (Below U.heap.size U w2) := bstep KB.out.1 b2
    clear b2
    cases hB : machB (atM k.machines i) with
    | false =>
      have hb : Hid (clusterB k = false) := by unfold Hid; rw [HC.out]; simp [machsB, all_off (f := fun i => machB (atM k.machines i)) hlt hB]
      go_wp2
      go_ret
      exact ⟨by rw [hb.out]; rfl, BF.out _ K2.out⟩
    | true =>
      go_wp2
      exact ⟨⟨i + 1, by omega, by simp, K2.out, all_on KB.out.2 hB⟩, by simp [intOf]; omega⟩
  obtain rfl : i = k.machines.length := by omega
  have hdl : decide ((k.machines.length : Int) < (k.machines.length : Int)) = false := by simp
  have HC2 : Hid (clusterB k = (placedB k.places k.machines && txsB k)) := by unfold Hid; rw [HC.out, machsB, KB.out.2]; simp
  go_wp2
  generalize wr = wA at *
  clear hdl
  go_loopw [5] (fun v5 wr => ∃ r : Nat, r ≤ k.places.length ∧ v5 = .int .i64 r ∧ Below U.heap.size U wr ∧ (List.range r).all (fun r => placB k.machines r (atP k.places r)) = true) (fun v5 _ => k.places.length - (intOf v5).toNat)
  case atStart => exact ⟨0, Nat.zero_le _, rfl, KB.out.1, rfl⟩
  case round =>
  obtain ⟨r, hr, rfl, hbl, hall⟩ := hrel
  have KC : Hid (Below U.heap.size U wr ∧ (List.range r).all (fun r => placB k.machines r (atP k.places r)) = true) := ⟨hbl, hall⟩
  clear hbl hall
  have p2 := (FA.out.later KC.out.1).1 2 _ rfl
  by_cases hlr : r < k.places.length
  case pos =>
    obtain ⟨_, hsp⟩ := HR.out.1.p
    rcases hsp with hsp | ⟨b, off, rfl, hb, hpl⟩
    · omega
    obtain ⟨a', cap', hc, hsl, hcp⟩ := hpl r _ (atP_of hlr)
    have c := (KC.out.1.cell (p := ⟨b, off + r, none⟩) hb).trans hc
    have HSL : Hid (SlN U U.heap.size a' (atP k.places r).length (atP k.places r)) := hsl
    have jr : (r : Int) < (k.places.length : Int) := by omega
    have lz := HR.out.2.ps _ (List.mem_of_getElem? (atP_of hlr))
    unfold maxLen at lz
    have HF : Hid (placB k.machines r (atP k.places r) = false → clusterB k = false) := fun hh => by rw [HC2.out, placedB, all_off (f := fun r => placB k.machines r (atP k.places r)) hlr hh]; rfl
    have HZr : Hid (∀ j, j < (atP k.places r).length → 0 ≤ atN (atP k.places r) j ∧ atN (atP k.places r) j ≤ 7) := fun j hj => HZ.out r j hlr hj
    have HPL : Hid (placB k.machines r (atP k.places r) = (List.range (atP k.places r).length).all fun j => servB k.machines r (atN (atP k.places r) j)) := rfl
    have HON : Hid (placB k.machines r (atP k.places r) = true → (List.range (r + 1)).all (fun r => placB k.machines r (atP k.places r)) = true) := fun hh => all_on (f := fun r => placB k.machines r (atP k.places r)) KC.out.2 hh
    clear hpl hc hsl
    generalize hzs : atP k.places r = zs at *
    go_wp2
    clear c p2 jr hzs
    generalize wr = wC at *
    go_loopw [7] (fun v7 wr => ∃ j : Nat, j ≤ zs.length ∧ v7 = .int .i64 j ∧ Below U.heap.size U wr ∧ (List.range j).all (fun j => servB k.machines r (atN zs j)) = true) (fun v7 _ => zs.length - (intOf v7).toNat)
    case atStart => exact ⟨0, Nat.zero_le _, rfl, KC.out.1, rfl⟩
    case round =>
    obtain ⟨j, hj, rfl, hbl, hall⟩ := hrel
    have KD : Hid (Below U.heap.size U wr ∧ (List.range j).all (fun j => servB k.machines r (atN zs j)) = true) := ⟨hbl, hall⟩
    clear hbl hall
    by_cases hlj : j < zs.length
    case neg =>
      obtain rfl : j = zs.length := by omega
      have hdl : decide ((zs.length : Int) < (zs.length : Int)) = false := by simp
      have hh := HON.out (by rw [HPL.out]; exact KD.out.2)
      go_wp2
      exact ⟨⟨r + 1, by omega, by simp, KD.out.1, hh⟩, by simp [intOf]; omega⟩
    obtain ⟨_, hsn⟩ := HSL.out
    rcases hsn with hsn | ⟨b', off', rfl, hb', h2⟩
    · omega
    have hz := HZr.out j hlj
    obtain ⟨i, hi⟩ : ∃ i : Nat, atN zs j = (i : Int) := ⟨(atN zs j).toNat, by omega⟩
    have hck := h2 j _ (atN_of hlj)
    rw [hi] at hck
    have xz : ∀ dd os, (grow (redrawn wr dd) os).cell? ⟨b', off' + j, none⟩ = some (.int .i64 (i : Int)) := fun dd os => ((bstep KD.out.1 (below_regrown wr dd os)).cell (p := ⟨b', off' + j, none⟩) hb').trans (hck)
    have jz : (j : Int) < (zs.length : Int) := by omega
    have jc : j < cap' := by omega
    have HB : Hid (servB k.machines r (atN zs j) = (decide ((i : Int) < (k.machines.length : Int)) && (!(atM k.machines i).alive || hasC (atM k.machines i) (r : Int)))) := by unfold Hid servB; rw [hi]; rfl
    have HFF : Hid (servB k.machines r (atN zs j) = false → clusterB k = false) := fun hh => HF.out (by rw [HPL.out]; exact all_off (f := fun j => servB k.machines r (atN zs j)) hlj hh)
    clear hck h2 hz hi
    by_cases him : i < k.machines.length
    case neg =>
      have dz : decide ((k.machines.length : Int) ≤ (i : Int)) = true := by simp <;> omega
      have dz2 : decide (k.machines.length ≤ i) = true := by simp <;> omega
      have hb0 : Hid (clusterB k = false) := HFF.out (by rw [HB.out]; simp [him])
      go_wp2_with fail
      refine wp_region_quiet_below (by kernel_rfl) (by kernel_rfl) ?_
      repeat (go_big_quiet_step (fail))
      refine wpQuiet_nil ?_
      intro _ hw'
      obtain ⟨⟨dq, osq⟩, hw''⟩ := hw'
      subst hw''
      have bq := below_regrown wr dq osq
      go_wp2
      go_ret
      exact ⟨by rw [hb0.out]; rfl, BF.out _ (bstep KD.out.1 bq)⟩
    have dz : decide ((k.machines.length : Int) ≤ (i : Int)) = false := by simp <;> omega
    have dz2 : decide (k.machines.length ≤ i) = false := by simp <;> omega
    have hd := atM_of him
    rcases HR.out.1.m with hs | ⟨b2, off2, rfl, hb2, h1⟩
    · rw [hs] at him; simp at him
    obtain ⟨⟨m0, m1, m2, m3, m4, m5⟩, hat, hrd⟩ := h1 i _ hd
    have hbx := FA.out.1 3 _ rfl
    have x3 : ∀ dd os, (grow (redrawn wr dd) os).cell? ⟨w.heap.size, 3, none⟩ = some (.slice (some ⟨b2, off2, none⟩) k.machines.length c2) := fun dd os => ((bstep KD.out.1 (below_regrown wr dd os)).cell (p := ⟨w.heap.size, 3, none⟩) FA.out.2.2).trans (hbx)
    clear hbx
    have e0 : ∀ dd os, (grow (redrawn wr dd) os).cell? ⟨b2, off2 + i * 4, none⟩ = some (.bool (atM k.machines i).alive) := fun dd os => ((bstep KD.out.1 (below_regrown wr dd os)).cell (p := ⟨b2, off2 + i * 4, none⟩) hb2).trans (hat 0 _ rfl)
    have e1 : ∀ dd os, (grow (redrawn wr dd) os).cell? ⟨b2, off2 + i * 4 + 1, none⟩ = some (.slice m0 (atM k.machines i).copies.length m1) := fun dd os => ((bstep KD.out.1 (below_regrown wr dd os)).cell (p := ⟨b2, off2 + i * 4 + 1, none⟩) hb2).trans (hat 1 _ rfl)
    have e2 : ∀ dd os, (grow (redrawn wr dd) os).cell? ⟨b2, off2 + i * 4 + 2, none⟩ = some (.slice m2 (atM k.machines i).log.length m3) := fun dd os => ((bstep KD.out.1 (below_regrown wr dd os)).cell (p := ⟨b2, off2 + i * 4 + 2, none⟩) hb2).trans (hat 2 _ rfl)
    have e3 : ∀ dd os, (grow (redrawn wr dd) os).cell? ⟨b2, off2 + i * 4 + 3, none⟩ = some (.slice m4 (atM k.machines i).cleared.length m5) := fun dd os => ((bstep KD.out.1 (below_regrown wr dd os)).cell (p := ⟨b2, off2 + i * 4 + 3, none⟩) hb2).trans (hat 3 _ rfl)
    have hML := HR.out.2.ms _ (List.mem_of_getElem? hd)
    have cQ : ∀ dd os, Calls Tryz.prog 56 #[.agg #[.bool (atM k.machines i).alive, .slice m0 (atM k.machines i).copies.length m1, .slice m2 (atM k.machines i).log.length m3, .slice m4 (atM k.machines i).cleared.length m5], .int .i64 (r : Int)] (grow (redrawn wr dd) os) fun e w'' => e = .returned (.int .i64 (idxC (atM k.machines i) (r : Int))) ∧ ∃ p : Regrown, w'' = grow (redrawn wr p.d) p.os := fun dd os => Calls.regrown_of (l6At_v _ m0 m1 m2 m3 m4 m5 (atM k.machines i) r hML (KMk.later hrd (bstep KD.out.1 (below_regrown wr dd os))))
    have im : (i : Int) < (k.machines.length : Int) := by omega
    have dC := idxC_lt (atM k.machines i) (r : Int)
    clear hat hrd h1 hd hML
    cases ha : (atM k.machines i).alive with
    | false =>
      rw [ha] at e0
      have hon : Hid ((List.range (j + 1)).all (fun j => servB k.machines r (atN zs j)) = true) := all_on (f := fun j => servB k.machines r (atN zs j)) KD.out.2 (by rw [HB.out]; simp [him, ha])
      clear cQ dC e1 e2 e3
      go_wp2_with fail
      refine wp_region_quiet_below (by kernel_rfl) (by kernel_rfl) ?_
      repeat (go_big_quiet_step (fail))
      refine wpQuiet_nil ?_
      intro _ hw'
      obtain ⟨⟨dq, osq⟩, hw''⟩ := hw'
      subst hw''
      have bq := below_regrown wr dq osq
      go_wp2
      exact ⟨⟨j + 1, by omega, by simp, bstep KD.out.1 bq, hon.out⟩, by simp [intOf]; omega⟩
    | true =>
      rw [ha] at e0 cQ
      generalize idxC (atM k.machines i) (r : Int) = ic at *
      cases hh : hasC (atM k.machines i) (r : Int) with
      | false =>
        rw [hh] at dC
        have hb0 : Hid (clusterB k = false) := HFF.out (by rw [HB.out]; simp [him, ha, hh])
        go_wp2_with fail
        refine wp_region_quiet_below (by kernel_rfl) (by kernel_rfl) ?_
        repeat (go_big_quiet_step (exact cQ _ _))
        refine wpQuiet_nil ?_
        intro _ hw'
        obtain ⟨⟨dq, osq⟩, hw''⟩ := hw'
        subst hw''
        have bq := below_regrown wr dq osq
        go_wp2
        go_ret
        exact ⟨by rw [hb0.out]; rfl, BF.out _ (bstep KD.out.1 bq)⟩
      | true =>
        rw [hh] at dC
        have hon : Hid ((List.range (j + 1)).all (fun j => servB k.machines r (atN zs j)) = true) := all_on (f := fun j => servB k.machines r (atN zs j)) KD.out.2 (by rw [HB.out]; simp [him, ha, hh])
        go_wp2_with fail
        refine wp_region_quiet_below (by kernel_rfl) (by kernel_rfl) ?_
        repeat (go_big_quiet_step (exact cQ _ _))
        refine wpQuiet_nil ?_
        intro _ hw'
        obtain ⟨⟨dq, osq⟩, hw''⟩ := hw'
        subst hw''
        have bq := below_regrown wr dq osq
        go_wp2
        exact ⟨⟨j + 1, by omega, by simp, bstep KD.out.1 bq, hon.out⟩, by simp [intOf]; omega⟩
  obtain rfl : r = k.places.length := by omega
  have hdl : decide ((k.places.length : Int) < (k.places.length : Int)) = false := by simp
  have HC3 : Hid (clusterB k = txsB k) := by unfold Hid; rw [HC2.out, placedB, KC.out.2]; simp
  go_wp2
  generalize wr = wB at *
  clear hdl p2
  go_loopw [8] (fun v8 wr => ∃ i : Nat, i ≤ k.txs.length ∧ v8 = .int .i64 i ∧ Below U.heap.size U wr ∧ (List.range i).all (txAtB k) = true) (fun v8 _ => k.txs.length - (intOf v8).toNat)
  case atStart => exact ⟨0, Nat.zero_le _, rfl, KC.out.1, rfl⟩
  case round =>
  obtain ⟨i, hi, rfl, hbl, hall⟩ := hrel
  have KE : Hid (Below U.heap.size U wr ∧ (List.range i).all (txAtB k) = true) := ⟨hbl, hall⟩
  clear hbl hall
  have p4 := (FA.out.later KE.out.1).1 4 _ rfl
  by_cases hlt : i < k.txs.length
  case neg =>
    obtain rfl : i = k.txs.length := by omega
    have hdl : decide ((k.txs.length : Int) < (k.txs.length : Int)) = false := by simp
    have hb0 : Hid (clusterB k = true) := by unfold Hid; rw [HC3.out]; exact KE.out.2
    go_wp2
    go_ret
    exact ⟨by rw [hb0.out]; rfl, BF.out _ KE.out.1⟩
  have hd := atT_of hlt
  have HM : Hid (i = 0 ∨ ∃ j, i = j + 1 ∧ k.txs[j]? = some (atT k.txs j)) := by
    rcases i with _ | j
    · exact .inl rfl
    · exact .inr ⟨j, rfl, atT_of (by omega)⟩
  rcases HR.out.1.t with hs | ⟨b, off, rfl, hb, h1⟩
  · rw [hs] at hlt; simp at hlt
  have HX : Hid (txAtB k i = (tx.txB (atT k.txs i) && (decide (i = 0) || decide ((atT k.txs (i - 1)).id < (atT k.txs i).id)) && decide ((atT k.txs i).home < (k.machines.length : Int)) && decide ((atT k.txs i).stamp ≤ k.clock) && readsB k.places.length (atT k.txs i).reads && setsB k.places.length (atT k.txs i).sets)) := rfl
  have HFF : Hid (txAtB k i = false → clusterB k = false) := fun hh => by rw [HC3.out, txsB]; exact all_off (f := txAtB k) hlt hh
  have HON : Hid (txAtB k i = true → (List.range (i + 1)).all (txAtB k) = true) := fun hh => all_on (f := txAtB k) KE.out.2 hh
  obtain ⟨⟨t0, t1, t2, t3⟩, hat, hrd⟩ := h1 i _ hd
  have hTL := HR.out.2.ts _ (List.mem_of_getElem? hd)
  have HP : Hid (∀ j, i = j + 1 → U.cell? ⟨b, off + j * 7, none⟩ = some (.int .i64 (atT k.txs j).id)) := fun j e => by
    obtain ⟨v, hat', _⟩ := h1 j _ (atT_of (by omega))
    exact hat' 0 _ rfl
  generalize ht : atT k.txs i = t at *
  have e0 : wr.cell? ⟨b, off + i * 7, none⟩ = some (.int .i64 t.id) := (KE.out.1.cell (p := ⟨b, off + i * 7, none⟩) hb).trans (hat 0 _ rfl)
  have e1 : wr.cell? ⟨b, off + i * 7 + 1, none⟩ = some (.int .i64 t.home) := (KE.out.1.cell (p := ⟨b, off + i * 7 + 1, none⟩) hb).trans (hat 1 _ rfl)
  have e2 : wr.cell? ⟨b, off + i * 7 + 2, none⟩ = some (.int .i64 t.phase) := (KE.out.1.cell (p := ⟨b, off + i * 7 + 2, none⟩) hb).trans (hat 2 _ rfl)
  have e3 : wr.cell? ⟨b, off + i * 7 + 3, none⟩ = some (.int .i64 t.count) := (KE.out.1.cell (p := ⟨b, off + i * 7 + 3, none⟩) hb).trans (hat 3 _ rfl)
  have e4 : wr.cell? ⟨b, off + i * 7 + 4, none⟩ = some (.slice t0 t.reads.length t1) := (KE.out.1.cell (p := ⟨b, off + i * 7 + 4, none⟩) hb).trans (hat 4 _ rfl)
  have e5 : wr.cell? ⟨b, off + i * 7 + 5, none⟩ = some (.slice t2 t.sets.length t3) := (KE.out.1.cell (p := ⟨b, off + i * 7 + 5, none⟩) hb).trans (hat 5 _ rfl)
  have e6 : wr.cell? ⟨b, off + i * 7 + 6, none⟩ = some (.int .i64 t.stamp) := (KE.out.1.cell (p := ⟨b, off + i * 7 + 6, none⟩) hb).trans (hat 6 _ rfl)
  obtain ⟨V, hV⟩ : ∃ Y, Y = wr.alloc (.cells #[.int .i64 t.id, .int .i64 t.home, .int .i64 t.phase, .int .i64 t.count, .slice t0 t.reads.length t1, .slice t2 t.sets.length t3, .int .i64 t.stamp] 55) := ⟨_, rfl⟩
  have bV : Below wr.heap.size wr V := by rw [hV]; exact (Below.refl _ _).alloc (Nat.le_refl _) _
  have FT : Hid (Bx V wr.heap.size [.int .i64 t.id, .int .i64 t.home, .int .i64 t.phase, .int .i64 t.count, .slice t0 t.reads.length t1, .slice t2 t.sets.length t3, .int .i64 t.stamp]) := by rw [hV]; exact Bx.made wr [.int .i64 t.id, .int .i64 t.home, .int .i64 t.phase, .int .i64 t.count, .slice t0 t.reads.length t1, .slice t2 t.sets.length t3, .int .i64 t.stamp] _
  have KV : Hid (Below U.heap.size U V) := bstep KE.out.1 bV
  have HRT : Hid (tx.SlT U ⟨t0, t1, t2, t3⟩ t ∧ tx.TL t) := ⟨hrd, hTL⟩
  have ji : (i : Int) < (k.txs.length : Int) := by omega
  clear hat hrd h1 hd hTL bV
  go_upto_region 22 with fail
  rw [← hV]
  clear hV p4 e0 e1 e2 e3 e4 e5 e6 ji
  generalize wr.heap.size = s9 at *
  generalize wr = wD at *
  generalize V = wr at *
  have f0 : ∀ dd os, (grow (redrawn wr dd) os).cell? ⟨s9, 0, none⟩ = some (.int .i64 t.id) := fun dd os => (FT.out.later (below_regrown wr dd os)).1 0 _ rfl
  have f1 : ∀ dd os, (grow (redrawn wr dd) os).cell? ⟨s9, 1, none⟩ = some (.int .i64 t.home) := fun dd os => (FT.out.later (below_regrown wr dd os)).1 1 _ rfl
  have f2 : ∀ dd os, (grow (redrawn wr dd) os).cell? ⟨s9, 2, none⟩ = some (.int .i64 t.phase) := fun dd os => (FT.out.later (below_regrown wr dd os)).1 2 _ rfl
  have f3 : ∀ dd os, (grow (redrawn wr dd) os).cell? ⟨s9, 3, none⟩ = some (.int .i64 t.count) := fun dd os => (FT.out.later (below_regrown wr dd os)).1 3 _ rfl
  have f4 : ∀ dd os, (grow (redrawn wr dd) os).cell? ⟨s9, 4, none⟩ = some (.slice t0 t.reads.length t1) := fun dd os => (FT.out.later (below_regrown wr dd os)).1 4 _ rfl
  have f5 : ∀ dd os, (grow (redrawn wr dd) os).cell? ⟨s9, 5, none⟩ = some (.slice t2 t.sets.length t3) := fun dd os => (FT.out.later (below_regrown wr dd os)).1 5 _ rfl
  have f6 : ∀ dd os, (grow (redrawn wr dd) os).cell? ⟨s9, 6, none⟩ = some (.int .i64 t.stamp) := fun dd os => (FT.out.later (below_regrown wr dd os)).1 6 _ rfl
  have cT : ∀ dd os, Calls Tryz.prog 57 #[.agg #[.int .i64 t.id, .int .i64 t.home, .int .i64 t.phase, .int .i64 t.count, .slice t0 t.reads.length t1, .slice t2 t.sets.length t3, .int .i64 t.stamp]] (grow (redrawn wr dd) os) fun e w'' => e = .returned (.bool (tx.txB t)) ∧ ∃ p : Regrown, w'' = grow (redrawn wr p.d) p.os := fun dd os => by
    have hh := tx.specTxOk_any (grow (redrawn wr dd) os) ⟨t0, t1, t2, t3⟩ t HRT.out.2 (HRT.out.1.later (bstep KV.out (below_regrown wr dd os)))
    simp only [tx.TV.val] at hh
    exact Calls.regrown_of hh
  have hbx := FA.out.1 4 _ rfl
  have x4 : ∀ dd os, (grow (redrawn wr dd) os).cell? ⟨w.heap.size, 4, none⟩ = some (.slice (some ⟨b, off, none⟩) k.txs.length c3) := fun dd os => ((bstep KV.out (below_regrown wr dd os)).cell (p := ⟨w.heap.size, 4, none⟩) FA.out.2.2).trans (hbx)
  have hbx := FA.out.1 1 _ rfl
  have x1 : ∀ dd os, (grow (redrawn wr dd) os).cell? ⟨w.heap.size, 1, none⟩ = some (.int .i64 k.clock) := fun dd os => ((bstep KV.out (below_regrown wr dd os)).cell (p := ⟨w.heap.size, 1, none⟩) FA.out.2.2).trans (hbx)
  clear hbx
  have KD : Hid (Below U.heap.size U wr ∧ True) := ⟨KV.out, trivial⟩
  cases hB : tx.txB t with
  | false =>
    rw [hB] at cT
    have hb0 : Hid (clusterB k = false) := HFF.out (by rw [HX.out, hB]; rfl)
    go_wp2_with fail
    refine wp_region_quiet_below (by kernel_rfl) (by kernel_rfl) ?_
    repeat (go_big_quiet_step (exact cT _ _))
    refine wpQuiet_nil ?_
    intro _ hw'
    obtain ⟨⟨dq, osq⟩, hw''⟩ := hw'
    subst hw''
    have bq := below_regrown wr dq osq
    go_wp2
    go_ret
    exact ⟨by rw [hb0.out]; rfl, BF.out _ (bstep KD.out.1 bq)⟩
  | true =>
  rw [hB] at cT
  by_cases gi : i = 0 ∨ (atT k.txs (i - 1)).id < t.id
  case neg =>
    obtain ⟨j, rfl, -⟩ := HM.out.resolve_left (fun e => gi (.inl e))
    have hle : ¬ (atT k.txs j).id < t.id := fun e => gi (.inr e)
    have hid := HP.out j rfl
    have xj : ∀ dd os, (grow (redrawn wr dd) os).cell? ⟨b, off + j * 7, none⟩ = some (.int .i64 (atT k.txs j).id) := fun dd os => ((bstep KV.out (below_regrown wr dd os)).cell (p := ⟨b, off + j * 7, none⟩) hb).trans (hid)
    have d0 : decide ((0 : Int) < ((j + 1 : Nat) : Int)) = true := by simp <;> omega
    have ej : ((j + 1 : Nat) : Int) - 1 = (j : Int) := by omega
    have d1 : decide (t.id ≤ (atT k.txs j).id) = true := by simp <;> omega
    have jn : (j : Int) < (k.txs.length : Int) := by omega
    have hb0 : Hid (clusterB k = false) := HFF.out (by rw [HX.out]; simp [hle])
    clear hid gi hle
    go_wp2_with fail
    refine wp_region_quiet_below (by kernel_rfl) (by kernel_rfl) ?_
    repeat (go_big_quiet_step (exact cT _ _))
    refine wpQuiet_nil ?_
    intro _ hw'
    obtain ⟨⟨dq, osq⟩, hw''⟩ := hw'
    subst hw''
    have bq := below_regrown wr dq osq
    go_wp2
    go_ret
    exact ⟨by rw [hb0.out]; rfl, BF.out _ (bstep KD.out.1 bq)⟩
  by_cases gh : t.home < (k.machines.length : Int)
  case neg =>
    have dh : decide ((k.machines.length : Int) ≤ t.home) = true := by simp <;> omega
    have hb0 : Hid (clusterB k = false) := HFF.out (by rw [HX.out]; simp [gh])
    rcases HM.out with rfl | ⟨j, rfl, -⟩
    · have d0 : decide ((0 : Int) < ((0 : Nat) : Int)) = false := by simp
      go_wp2_with fail
      refine wp_region_quiet_below (by kernel_rfl) (by kernel_rfl) ?_
      repeat (go_big_quiet_step (exact cT _ _))
      refine wpQuiet_nil ?_
      intro _ hw'
      obtain ⟨⟨dq, osq⟩, hw''⟩ := hw'
      subst hw''
      have bq := below_regrown wr dq osq
      go_wp2
      go_ret
      exact ⟨by rw [hb0.out]; rfl, BF.out _ (bstep KD.out.1 bq)⟩
    · have hlt' : (atT k.txs j).id < t.id := by rcases gi with e | e; omega; exact e
      have hid := HP.out j rfl
      have xj : ∀ dd os, (grow (redrawn wr dd) os).cell? ⟨b, off + j * 7, none⟩ = some (.int .i64 (atT k.txs j).id) := fun dd os => ((bstep KV.out (below_regrown wr dd os)).cell (p := ⟨b, off + j * 7, none⟩) hb).trans (hid)
      have d0 : decide ((0 : Int) < ((j + 1 : Nat) : Int)) = true := by simp <;> omega
      have ej : ((j + 1 : Nat) : Int) - 1 = (j : Int) := by omega
      have d1 : decide (t.id ≤ (atT k.txs j).id) = false := by simp <;> omega
      have jn : (j : Int) < (k.txs.length : Int) := by omega
      clear hid hlt'
      go_wp2_with fail
      refine wp_region_quiet_below (by kernel_rfl) (by kernel_rfl) ?_
      repeat (go_big_quiet_step (exact cT _ _))
      refine wpQuiet_nil ?_
      intro _ hw'
      obtain ⟨⟨dq, osq⟩, hw''⟩ := hw'
      subst hw''
      have bq := below_regrown wr dq osq
      go_wp2
      go_ret
      exact ⟨by rw [hb0.out]; rfl, BF.out _ (bstep KD.out.1 bq)⟩
  have dh : decide ((k.machines.length : Int) ≤ t.home) = false := by simp <;> omega
  by_cases gs : t.stamp ≤ k.clock
  case neg =>
    have ds : decide (k.clock < t.stamp) = true := by simp <;> omega
    have hb0 : Hid (clusterB k = false) := HFF.out (by rw [HX.out]; simp [gs])
    rcases HM.out with rfl | ⟨j, rfl, -⟩
    · have d0 : decide ((0 : Int) < ((0 : Nat) : Int)) = false := by simp
      go_wp2_with fail
      refine wp_region_quiet_below (by kernel_rfl) (by kernel_rfl) ?_
      repeat (go_big_quiet_step (exact cT _ _))
      refine wpQuiet_nil ?_
      intro _ hw'
      obtain ⟨⟨dq, osq⟩, hw''⟩ := hw'
      subst hw''
      have bq := below_regrown wr dq osq
      go_wp2
      go_ret
      exact ⟨by rw [hb0.out]; rfl, BF.out _ (bstep KD.out.1 bq)⟩
    · have hlt' : (atT k.txs j).id < t.id := by rcases gi with e | e; omega; exact e
      have hid := HP.out j rfl
      have xj : ∀ dd os, (grow (redrawn wr dd) os).cell? ⟨b, off + j * 7, none⟩ = some (.int .i64 (atT k.txs j).id) := fun dd os => ((bstep KV.out (below_regrown wr dd os)).cell (p := ⟨b, off + j * 7, none⟩) hb).trans (hid)
      have d0 : decide ((0 : Int) < ((j + 1 : Nat) : Int)) = true := by simp <;> omega
      have ej : ((j + 1 : Nat) : Int) - 1 = (j : Int) := by omega
      have d1 : decide (t.id ≤ (atT k.txs j).id) = false := by simp <;> omega
      have jn : (j : Int) < (k.txs.length : Int) := by omega
      clear hid hlt'
      go_wp2_with fail
      refine wp_region_quiet_below (by kernel_rfl) (by kernel_rfl) ?_
      repeat (go_big_quiet_step (exact cT _ _))
      refine wpQuiet_nil ?_
      intro _ hw'
      obtain ⟨⟨dq, osq⟩, hw''⟩ := hw'
      subst hw''
      have bq := below_regrown wr dq osq
      go_wp2
      go_ret
      exact ⟨by rw [hb0.out]; rfl, BF.out _ (bstep KD.out.1 bq)⟩
  have ds : decide (k.clock < t.stamp) = false := by simp <;> omega
  have HY : Hid (txAtB k i = (readsB k.places.length t.reads && setsB k.places.length t.sets)) := by
    unfold Hid
    rw [HX.out]
    rcases gi with gi | gi <;> simp [hB, gi, gh, gs]
  have lr := HRT.out.2.r
  have ls := HRT.out.2.s
  unfold maxLen at lr ls
  have CUT : Hid (∀ X, Below wr.heap.size wr X → Below U.heap.size U X) := fun X hX => bstep KV.out hX
  go_cut [149] from 118 to 149 (fun s149 wx => s149 = .bool false ∧ Below wr.heap.size wr wx)
  case first =>
    rcases HM.out with rfl | ⟨j, rfl, -⟩
    · have d0 : decide ((0 : Int) < ((0 : Nat) : Int)) = false := by simp
      go_wp2_with fail
      refine wp_region_quiet_below (by kernel_rfl) (by kernel_rfl) ?_
      repeat (go_big_quiet_step (exact cT _ _))
      refine wpQuiet_nil ?_
      intro _ hw'
      obtain ⟨⟨dq, osq⟩, hw''⟩ := hw'
      subst hw''
      have bq := below_regrown wr dq osq
      go_wp2_with fail
      go_meet
      exact ⟨rfl, bq⟩
    · have hlt' : (atT k.txs j).id < t.id := by rcases gi with e | e; omega; exact e
      have hid := HP.out j rfl
      have xj : ∀ dd os, (grow (redrawn wr dd) os).cell? ⟨b, off + j * 7, none⟩ = some (.int .i64 (atT k.txs j).id) := fun dd os => ((bstep KV.out (below_regrown wr dd os)).cell (p := ⟨b, off + j * 7, none⟩) hb).trans (hid)
      have d0 : decide ((0 : Int) < ((j + 1 : Nat) : Int)) = true := by simp <;> omega
      have ej : ((j + 1 : Nat) : Int) - 1 = (j : Int) := by omega
      have d1 : decide (t.id ≤ (atT k.txs j).id) = false := by simp <;> omega
      have jn : (j : Int) < (k.txs.length : Int) := by omega
      clear hid hlt'
      go_wp2_with fail
      refine wp_region_quiet_below (by kernel_rfl) (by kernel_rfl) ?_
      repeat (go_big_quiet_step (exact cT _ _))
      refine wpQuiet_nil ?_
      intro _ hw'
      obtain ⟨⟨dq, osq⟩, hw''⟩ := hw'
      subst hw''
      have bq := below_regrown wr dq osq
      go_wp2_with fail
      go_meet
      exact ⟨rfl, bq⟩
  case rest =>
  obtain ⟨rfl, bx⟩ := hcut
  have KW : Hid (Below wr.heap.size wr wc ∧ Below U.heap.size U wc) := ⟨bx, bstep KV.out bx⟩
  clear bx f0 f1 f2 f3 f4 f5 f6 cT x4 x1 dh ds KD
  generalize wc = wE at *
  go_wp2
  generalize wr = wF at *
  go_loopw [10] (fun v wr => ∃ j : Nat, j ≤ t.reads.length ∧ v = .int .i64 j ∧ Below wF.heap.size wF wr ∧ (List.range j).all (fun j => decide ((tx.atNo t.reads j).region < (k.places.length : Int))) = true) (fun v _ => t.reads.length - (intOf v).toNat)
  case atStart => exact ⟨0, Nat.zero_le _, rfl, KW.out.1, rfl⟩
  case round =>
  obtain ⟨j, hj, rfl, hbl, hall⟩ := hrel
  have KD : Hid (Below U.heap.size U wr ∧ Below wF.heap.size wF wr ∧ (List.range j).all (fun j => decide ((tx.atNo t.reads j).region < (k.places.length : Int))) = true) := ⟨CUT.out _ hbl, hbl, hall⟩
  clear hbl hall
  have p9 := (FT.out.later KD.out.2.1).1 4 _ rfl
  by_cases hlj : j < t.reads.length
  case pos =>
    obtain ⟨_, hsn⟩ := HRT.out.1.r
    dsimp only at hsn
    rcases hsn with hsn | ⟨b', off', rfl, hb', h2⟩
    · omega
    have hck := (h2 j _ (tx.atNo_of hlj)).c0
    have xz : ∀ dd os, (grow (redrawn wr dd) os).cell? ⟨b', off' + j * 5, none⟩ = some (.int .i64 (tx.atNo t.reads j).region) := fun dd os => ((bstep KD.out.1 (below_regrown wr dd os)).cell (p := ⟨b', off' + j * 5, none⟩) hb').trans (hck)
    have hbx := FA.out.1 2 _ rfl
    have x2 : ∀ dd os, (grow (redrawn wr dd) os).cell? ⟨w.heap.size, 2, none⟩ = some (.slice a1 k.places.length c1) := fun dd os => ((bstep KD.out.1 (below_regrown wr dd os)).cell (p := ⟨w.heap.size, 2, none⟩) FA.out.2.2).trans (hbx)
    have x9 : ∀ dd os, (grow (redrawn wr dd) os).cell? ⟨s9, 4, none⟩ = some (.slice (some ⟨b', off', none⟩) t.reads.length t1) := fun dd os => (FT.out.later (bstep KD.out.2.1 (below_regrown wr dd os))).1 4 _ rfl
    have jz : (j : Int) < (t.reads.length : Int) := by omega
    clear hck h2 hbx
    by_cases hz : (tx.atNo t.reads j).region < (k.places.length : Int)
    case neg =>
      have dz : decide ((k.places.length : Int) ≤ (tx.atNo t.reads j).region) = true := by simp <;> omega
      have hb0 : Hid (clusterB k = false) := HFF.out (by rw [HY.out, readsB, all_off (f := fun j => decide ((tx.atNo t.reads j).region < (k.places.length : Int))) hlj (by simpa using hz)]; simp)
      go_wp2_with fail
      refine wp_region_quiet_below (by kernel_rfl) (by kernel_rfl) ?_
      repeat (go_big_quiet_step (fail))
      refine wpQuiet_nil ?_
      intro _ hw'
      obtain ⟨⟨dq, osq⟩, hw''⟩ := hw'
      subst hw''
      have bq := below_regrown wr dq osq
      go_wp2
      go_ret
      exact ⟨by rw [hb0.out]; rfl, BF.out _ (bstep KD.out.1 bq)⟩
    have dz : decide ((k.places.length : Int) ≤ (tx.atNo t.reads j).region) = false := by simp <;> omega
    have hon : Hid ((List.range (j + 1)).all (fun j => decide ((tx.atNo t.reads j).region < (k.places.length : Int))) = true) := all_on (f := fun j => decide ((tx.atNo t.reads j).region < (k.places.length : Int))) KD.out.2.2 (by simpa using hz)
    go_wp2_with fail
    refine wp_region_quiet_below (by kernel_rfl) (by kernel_rfl) ?_
    repeat (go_big_quiet_step (fail))
    refine wpQuiet_nil ?_
    intro _ hw'
    obtain ⟨⟨dq, osq⟩, hw''⟩ := hw'
    subst hw''
    have bq := below_regrown wr dq osq
    go_wp2
    exact ⟨⟨j + 1, by omega, by simp, bstep KD.out.2.1 bq, hon.out⟩, by simp [intOf]; omega⟩
  obtain rfl : j = t.reads.length := by omega
  have hdl : decide ((t.reads.length : Int) < (t.reads.length : Int)) = false := by simp
  have HY2 : Hid (txAtB k i = setsB k.places.length t.sets) := by unfold Hid; rw [HY.out, readsB, KD.out.2.2]; simp
  have KX : Hid (Below wF.heap.size wF wr) := KD.out.2.1
  go_wp2
  clear p9 hdl
  generalize wr = wG at *
  go_loopw [11] (fun v wr => ∃ j : Nat, j ≤ t.sets.length ∧ v = .int .i64 j ∧ Below wF.heap.size wF wr ∧ (List.range j).all (fun j => decide ((tx.atSe t.sets j).region < (k.places.length : Int))) = true) (fun v _ => t.sets.length - (intOf v).toNat)
  case atStart => exact ⟨0, Nat.zero_le _, rfl, KX.out, rfl⟩
  case round =>
  obtain ⟨j, hj, rfl, hbl, hall⟩ := hrel
  have KD : Hid (Below U.heap.size U wr ∧ Below wF.heap.size wF wr ∧ (List.range j).all (fun j => decide ((tx.atSe t.sets j).region < (k.places.length : Int))) = true) := ⟨CUT.out _ hbl, hbl, hall⟩
  clear hbl hall
  have p9 := (FT.out.later KD.out.2.1).1 5 _ rfl
  by_cases hlj : j < t.sets.length
  case pos =>
    obtain ⟨_, hsn⟩ := HRT.out.1.s
    dsimp only at hsn
    rcases hsn with hsn | ⟨b', off', rfl, hb', h2⟩
    · omega
    have hck := (h2 j _ (tx.atSe_of hlj)).c0
    have xz : ∀ dd os, (grow (redrawn wr dd) os).cell? ⟨b', off' + j * 5, none⟩ = some (.int .i64 (tx.atSe t.sets j).region) := fun dd os => ((bstep KD.out.1 (below_regrown wr dd os)).cell (p := ⟨b', off' + j * 5, none⟩) hb').trans (hck)
    have hbx := FA.out.1 2 _ rfl
    have x2 : ∀ dd os, (grow (redrawn wr dd) os).cell? ⟨w.heap.size, 2, none⟩ = some (.slice a1 k.places.length c1) := fun dd os => ((bstep KD.out.1 (below_regrown wr dd os)).cell (p := ⟨w.heap.size, 2, none⟩) FA.out.2.2).trans (hbx)
    have x9 : ∀ dd os, (grow (redrawn wr dd) os).cell? ⟨s9, 5, none⟩ = some (.slice (some ⟨b', off', none⟩) t.sets.length t3) := fun dd os => (FT.out.later (bstep KD.out.2.1 (below_regrown wr dd os))).1 5 _ rfl
    have jz : (j : Int) < (t.sets.length : Int) := by omega
    clear hck h2 hbx
    by_cases hz : (tx.atSe t.sets j).region < (k.places.length : Int)
    case neg =>
      have dz : decide ((k.places.length : Int) ≤ (tx.atSe t.sets j).region) = true := by simp <;> omega
      have hb0 : Hid (clusterB k = false) := HFF.out (by rw [HY2.out, setsB, all_off (f := fun j => decide ((tx.atSe t.sets j).region < (k.places.length : Int))) hlj (by simpa using hz)])
      go_wp2_with fail
      refine wp_region_quiet_below (by kernel_rfl) (by kernel_rfl) ?_
      repeat (go_big_quiet_step (fail))
      refine wpQuiet_nil ?_
      intro _ hw'
      obtain ⟨⟨dq, osq⟩, hw''⟩ := hw'
      subst hw''
      have bq := below_regrown wr dq osq
      go_wp2
      go_ret
      exact ⟨by rw [hb0.out]; rfl, BF.out _ (bstep KD.out.1 bq)⟩
    have dz : decide ((k.places.length : Int) ≤ (tx.atSe t.sets j).region) = false := by simp <;> omega
    have hon : Hid ((List.range (j + 1)).all (fun j => decide ((tx.atSe t.sets j).region < (k.places.length : Int))) = true) := all_on (f := fun j => decide ((tx.atSe t.sets j).region < (k.places.length : Int))) KD.out.2.2 (by simpa using hz)
    go_wp2_with fail
    refine wp_region_quiet_below (by kernel_rfl) (by kernel_rfl) ?_
    repeat (go_big_quiet_step (fail))
    refine wpQuiet_nil ?_
    intro _ hw'
    obtain ⟨⟨dq, osq⟩, hw''⟩ := hw'
    subst hw''
    have bq := below_regrown wr dq osq
    go_wp2
    exact ⟨⟨j + 1, by omega, by simp, bstep KD.out.2.1 bq, hon.out⟩, by simp [intOf]; omega⟩
  obtain rfl : j = t.sets.length := by omega
  have hdl : decide ((t.sets.length : Int) < (t.sets.length : Int)) = false := by simp
  have hh := HON.out (by rw [HY2.out, setsB]; exact KD.out.2.2)
  go_wp2
  exact ⟨⟨i + 1, by omega, by simp, KD.out.1, hh⟩, by simp [intOf]; omega⟩
end Go.Proofs.YtdmpobegobfpjaaGreat
namespace Go.Proofs.YtdmpobegobfpjaaGreat
def wpUntil (P : Program) (md : Region.Mode) (ops : Array Oper) (Q : Exit → Act → World → Prop) (S : World → Prop) (s : Nat) : Nat → Array Bool → Act → World → Prop
  | 0, L, a, w => Region.ready md ops L = [] ∧ Q .normal a w
  | f + 1, L, a, w => (Region.ready md ops L = [] → Q .normal a w) ∧ ∀ i ∈ Region.ready md ops L, wpOp P ops Q i (fun a' w' => (i ≠ s → S w') ∧ wpUntil P md ops Q S s f (L.setIfInBounds i true) a' w') a w
theorem wpAny_of_until {P : Program} {ops : Array Oper} {Q : Exit → Act → World → Prop} {md : Region.Mode} {S : World → Prop} {s : Nat} : ∀ (f : Nat) (L : Array Bool) (a : Act) (w : World), wpUntil P md ops Q S s f L a w → wpAny P md ops Q f L a w := by
  intro f
  induction f with
  | zero => exact fun _ _ _ h => h
  | succ f ih => exact fun L a w h => ⟨h.1, fun i hi => wpOp_mono (fun a' w' k => ih _ a' w' k.2) (h.2 i hi)⟩
def waitsB (md : Region.Mode) (ops : Array Oper) (s i : Nat) : Bool := match ops[s]? with
  | some o => o.after.any fun e => Region.binds md e && e.on == i
  | none => false
theorem not_ready {md : Region.Mode} {ops : Array Oper} {i j : Nat} {oj : Oper} {L : Array Bool} (hr : i ∈ Region.ready md ops L) (hall : ∀ e ∈ oj.after, Region.binds md e = true → L.getD e.on false = true) (hj : ops[j]? = some oj) (hw : waitsB md ops j i = true) : False := by
  simp only [waitsB, hj, Array.any_eq_true, Bool.and_eq_true, beq_iff_eq] at hw
  obtain ⟨k, hk, hb, he⟩ := hw
  have h1 := hall _ (Array.getElem_mem hk) hb
  have h0 := (mem_ready.1 hr).1
  rw [he] at h1
  rcases Nat.lt_or_ge i L.size with h | h
  · simp [h] at h0 h1; rw [h0] at h1; cases h1
  · simp [Array.getElem?_eq_none h] at h1
theorem wpUntil_first {P : Program} {ops : Array Oper} {Q : Exit → Act → World → Prop} {md : Region.Mode} {S : World → Prop} {s : Nat} {i : Nat} {o : Oper} {v : Value} (ho : ops[i]? = some o) (hw : waitsB md ops s i = true) (hsel : ∀ (j : Nat) (o : Oper) cs b, ops[j]? = some o → o.op ≠ .select cs b) (hQ : ∀ c a w, Q (.panic c) (a.put o.dst v) w → Q (.panic c) a w) :
    ∀ (f : Nat) (L : Array Bool) (a : Act) (w : World),
      (∀ j oj, ops[j]? = some oj → j ≠ i → L.getD j true = false → (∀ e ∈ oj.after, Region.binds md e = true → e.on ≠ i) → o.apart ops oj = true) →
      i ∈ Region.ready md ops L → YieldsIf P ops S o v a → S w → wpUntil P md ops Q S s f (L.setIfInBounds i true) (a.put o.dst v) w → wpUntil P md ops Q S s (f + 1) L a w := by
  intro f
  induction f with
  | zero =>
    intro L a w _ hr hy hS H
    refine ⟨fun h => absurd hr (by rw [h]; simp), fun j hj => ?_⟩
    by_cases e : j = i
    · rw [e]; exact hy.wpOp ho hS ⟨fun _ => hS, H⟩
    · have := ready_mono hj e
      rw [H.1] at this
      cases this
  | succ f ih =>
    intro L a w hfree hr hy hS H
    refine ⟨fun h => absurd hr (by rw [h]; simp), fun j hj => ?_⟩
    by_cases e : j = i
    · rw [e]; exact hy.wpOp ho hS ⟨fun _ => hS, H⟩
    · obtain ⟨hun, oj, hoj, hall⟩ := mem_ready.1 hj
      have hjs : j ≠ s := fun e' => by rw [e'] at hoj; exact not_ready hr hall hoj hw
      have hno : ∀ x ∈ oj.after, Region.binds md x = true → x.on ≠ i := fun x hx hb he => not_ready hr hall hoj (by
        simp only [waitsB, hoj, Array.any_eq_true, Bool.and_eq_true, beq_iff_eq]
        obtain ⟨k, hk, rfl⟩ := Array.getElem_of_mem hx
        exact ⟨k, hk, hb, he⟩)
      have step := wpOp_putIf hoj (hfree j oj hoj e hun hno) (fun cs b => hsel i o cs b ho) (fun cs b => hsel j oj cs b hoj) hQ hy (H.2 j (ready_mono hj e))
      refine wpOp_mono (fun a' w' k => ⟨k.2.1, ih _ a' w' (fun x ox hx hxi hxu hxn => hfree x ox hx hxi ?_ hxn) (ready_mono hr (Ne.symm e)) k.1 (k.2.1 hjs) ?_⟩) step
      · by_cases h : j = x
        · rw [← h]; exact hun
        · rw [getD_set_ne true h] at hxu; exact hxu
      · rw [Array.setIfInBounds_comm _ _ e]; exact k.2.2
theorem wpUntil_take {P : Program} {ops : Array Oper} {Q : Exit → Act → World → Prop} {md : Region.Mode} {S : World → Prop} {s : Nat} {i : Nat} {o : Oper} {v : Value} {f : Nat} {L : Array Bool} {a : Act} {w : World} (ho : ops[i]? = some o) (hc : (waitsB md ops s i && Region.noSelect ops && Region.free md ops L i && (Region.ready md ops L).contains i) = true)
    (hQ : ∀ c a w, Q (.panic c) (a.put o.dst v) w → Q (.panic c) a w) (hy : YieldsIf P ops S o v a) (hS : S w) (h : wpUntil P md ops Q S s f (L.setIfInBounds i true) (a.put o.dst v) w) : wpUntil P md ops Q S s (f + 1) L a w := by
  simp only [Bool.and_eq_true] at hc
  obtain ⟨⟨⟨h1, h2⟩, h3⟩, h4⟩ := hc
  exact wpUntil_first ho h1 (Region.noSelect_spec h2) hQ f L a w (Region.free_spec ho h3) (by simpa using h4) hy hS h
def AllU (P : Program) (md : Region.Mode) (ops : Array Oper) (Q : Exit → Act → World → Prop) (S : World → Prop) (s f : Nat) (L : Array Bool) (a : Act) (w : World) (rs : List Nat) : Prop :=
  ∀ i ∈ rs, wpOp P ops Q i (fun a' w' => (i ≠ s → S w') ∧ wpUntil P md ops Q S s f (L.setIfInBounds i true) a' w') a w
theorem AllU.nil {P : Program} {ops : Array Oper} {Q : Exit → Act → World → Prop} {md : Region.Mode} {S : World → Prop} {s : Nat} {f : Nat} {L : Array Bool} {a : Act} {w : World} : AllU P md ops Q S s f L a w [] := fun _ h => by cases h
theorem AllU.cons {P : Program} {ops : Array Oper} {Q : Exit → Act → World → Prop} {md : Region.Mode} {S : World → Prop} {s : Nat} {f : Nat} {L : Array Bool} {a : Act} {w : World} {i : Nat} {o : Oper} {rs : List Nat} (ho : ops[i]? = some o)
    (h : ∀ K' : Act → World → Prop, Shut (∀ a w, (i ≠ s → S w) → wpUntil P md ops Q S s f (L.setIfInBounds i true) a w → K' a w) → if Region.wanted o (yielded ops a.tmps) = true then Oper.wp P o a w K' Q else K' (a.put o.dst undef) w)
    (hs : AllU P md ops Q S s f L a w rs) : AllU P md ops Q S s f L a w (i :: rs) := fun j hj => by
  rcases List.mem_cons.1 hj with rfl | hj
  · exact wpOp_step ho (fun K' hK => h K' (fun a w hS hW => hK a w ⟨hS, hW⟩))
  · exact hs j hj
theorem wpUntil_ready {P : Program} {ops : Array Oper} {Q : Exit → Act → World → Prop} {md : Region.Mode} {S : World → Prop} {s : Nat} {rs : List Nat} {f : Nat} {L : Array Bool} {a : Act} {w : World} (hr : Region.ready md ops L = rs) (hne : rs ≠ []) (h : AllU P md ops Q S s f L a w rs) : wpUntil P md ops Q S s (f + 1) L a w :=
  ⟨fun h0 => absurd (hr.symm.trans h0) hne, fun i hi => h i (by rw [← hr]; exact hi)⟩
theorem wpUntil_done {P : Program} {ops : Array Oper} {Q : Exit → Act → World → Prop} {md : Region.Mode} {S : World → Prop} {s : Nat} {L : Array Bool} {a : Act} {w : World} (hr : Region.ready md ops L = []) (h : Q .normal a w) (f : Nat) : wpUntil P md ops Q S s f L a w := by
  cases f with
  | zero => exact ⟨hr, h⟩
  | succ f => exact ⟨fun _ => h, fun i hi => by rw [hr] at hi; cases hi⟩
theorem wp_region_until {P : Program} {ops : Array Oper} {Q : Exit → Act → World → Prop} {id : Nat} {a : Act} {w : World} (s : Nat) (S : World → Prop) (hm : P.follows .mixedOrders = true) (h : wpUntil P .any ops Q S s ops.size (Array.replicate ops.size false) a w.drew) : (Code.region id ops true).wp P Q a w :=
  wp_region_any hm (wpAny_of_until _ _ _ _ h)
end Go.Proofs.YtdmpobegobfpjaaGreat
namespace Go.Proofs.YtdmpobegobfpjaaGreat
open Go.RowKit
structure B3 (s p : Nat) (alive : Bool) (X : World) (vk vr vd : Value) : Prop where
  r0 : X.cell? ⟨s + 1, 0, none⟩ = some (.slice none 0 0)
  r1 : X.cell? ⟨s + 1, 1, none⟩ = some (.bool false)
  r2 : X.cell? ⟨s + 1, 2, none⟩ = some (.slice none 0 0)
  r3 : X.cell? ⟨s + 1, 3, none⟩ = some (.slice none 0 0)
  fr : ∀ j, X.frozen? ⟨s + 1, j, none⟩ = false
  o0 : X.cell? ⟨p, 0, none⟩ = some vr
  o1 : X.cell? ⟨p, 1, none⟩ = some (.bool alive)
  o2 : X.cell? ⟨p, 2, none⟩ = some vk
  o3 : X.cell? ⟨p, 3, none⟩ = some vd
  fo : ∀ j, X.frozen? ⟨p, j, none⟩ = false
  pl : s + 2 ≤ p
  pX : p < X.heap.size
theorem B3.keep {s p : Nat} {alive : Bool} {X Y : World} {vk vr vd : Value} (h : B3 s p alive X vk vr vd) (hs : X.heap.size ≤ Y.heap.size) (er : Y.heap[s + 1]? = X.heap[s + 1]?) (ep : Y.heap[p]? = X.heap[p]?) : B3 s p alive Y vk vr vd := by
  have c : ∀ {b j : Nat} {u : Value}, Y.heap[b]? = X.heap[b]? → X.cell? ⟨b, j, none⟩ = some u → Y.cell? ⟨b, j, none⟩ = some u := fun {b j u} e h => (World.cell?_of_block (a := ⟨b, j, none⟩) e).trans h
  exact ⟨c er h.r0, c er h.r1, c er h.r2, c er h.r3, fun j => (World.frozen?_of_block (a := ⟨s + 1, j, none⟩) er).trans (h.fr j), c ep h.o0, c ep h.o1, c ep h.o2, c ep h.o3, fun j => (World.frozen?_of_block (a := ⟨p, j, none⟩) ep).trans (h.fo j), h.pl, Nat.lt_of_lt_of_le h.pX hs⟩
theorem B3.later {s p : Nat} {alive : Bool} {X Y : World} {vk vr vd : Value} (h : B3 s p alive X vk vr vd) (hb : Below X.heap.size X Y) : B3 s p alive Y vk vr vd :=
  h.keep hb.size (hb.block _ (by have := h.pl; have := h.pX; omega)) (hb.block _ h.pX)
def gz : Nat → Nat := fun _ => 0
structure MSm (m : M4) : Prop where
  k : m.copies.length ≤ 6
  ks : ∀ c ∈ m.copies, c.cells.length = 6
  r : m.log.length ≤ 200
  rs : ∀ c ∈ m.log, 0 < c.sets.length ∧ c.sets.length ≤ 12
  n : m.cleared.length ≤ 60
theorem MSm.of_mach {m : M4} (h : machB m = true) : MSm m := by
  simp only [machB, Bool.and_eq_true, decide_eq_true_eq] at h
  obtain ⟨⟨⟨⟨⟨h1, h2⟩, h3⟩, _⟩, h4⟩, h5⟩ := h
  refine ⟨h1, fun c hc => ?_, h2, fun c hc => ?_, h3⟩
  · obtain ⟨i, hi, rfl⟩ := List.getElem_of_mem hc
    have := List.all_eq_true.1 h4 i (List.mem_range.2 hi)
    simp only [copB, atK, List.getElem?_eq_getElem hi, Option.getD_some, Bool.and_eq_true, cellsB, decide_eq_true_eq] at this
    exact this.1.2.1
  · obtain ⟨i, hi, rfl⟩ := List.getElem_of_mem hc
    have := List.all_eq_true.1 h5 i (List.mem_range.2 hi)
    simp only [logB, atR, List.getElem?_eq_getElem hi, Option.getD_some, Bool.and_eq_true, recB, decide_eq_true_eq] at this
    exact ⟨this.1.1.1.2, this.1.1.2⟩
theorem GrowG.mono {α : Type} {T : TypeId} {sz : Nat} {hd : α → List Int} {ln : α → Nat} {At : World → Nat → α → Prop} {w : World} {base base' : Nat} {v : Value} {rs : List α} {g : Nat → Nat} (h : GrowG T sz hd ln At w base v rs g) (hb : base' ≤ base) : GrowG T sz hd ln At w base' v rs g := by
  obtain ⟨caps, ho, hc⟩ := h.row
  refine ⟨⟨caps, ⟨ho.1, ho.2.imp id ?_⟩, hc⟩, fun i hi => Nat.le_trans hb (h.low i hi), h.lt, h.ne, h.sub, h.inj⟩
  rintro ⟨q, cap, cur, rfl, l, r⟩
  exact ⟨q, cap, cur, rfl, Nat.le_trans hb l, r⟩
theorem MR.mono {base base' p : Nat} {X : World} {vk vr vd : Value} {ks : List K2} {rs : List R4} {zs : List Int} {gk gr : Nat → Nat} (h : MR base p X vk vr vd ks rs zs gk gr) (hb : base' ≤ base) : MR base' p X vk vr vd ks rs zs gk gr := by
  refine ⟨h.gK.mono hb, h.gR.mono hb, ⟨h.gD.1, h.gD.2.imp id ?_⟩, h.kr, h.kd, h.rd, h.kp, h.rp, h.dp⟩
  rintro ⟨q, cap, cur, rfl, l, r⟩
  exact ⟨q, cap, cur, rfl, Nat.le_trans hb l, r⟩
theorem MR.out {base p p' : Nat} {X : World} {vk vr vd : Value} {ks : List K2} {rs : List R4} {zs : List Int} {gk gr : Nat → Nat} (h : MR base p X vk vr vd ks rs zs gk gr) (hp : p' < base ∨ X.heap.size ≤ p') : MR base p' X vk vr vd ks rs zs gk gr :=
  ⟨h.gK, h.gR, h.gD, h.kr, h.kd, h.rd, fun q hq e => by have := h.gK.blocks hq; omega, fun q hq e => by have := h.gR.blocks hq; omega, fun e => by have := World.ownsRow.lt h.gD _ e; omega⟩
def ON (w : World) (base : Nat) (v : Value) (zs : List Int) : Prop := w.ownsRow base 2 1 v zs.length (zs.map (Value.int .i64))
theorem ON.nil (w : World) (base : Nat) : ON w base (.slice none 0 0) [] := World.ownsRow_nil w base _ 1
theorem ON.empty (w : World) : ON (w.alloc (.cells #[] 2)) w.heap.size (.slice (some ⟨w.heap.size, 0, none⟩) 0 0) [] := World.ownsRow_made w #[] 0 (Nat.le_refl _) (Nat.zero_le _) rfl
theorem ON.lower {w : World} {base base' : Nat} {v : Value} {zs : List Int} (h : ON w base v zs) (hb : base' ≤ base) : ON w base' v zs :=
  ⟨h.1, h.2.imp id (fun ⟨g', cap', cur, e, l, r⟩ => ⟨g', cap', cur, e, Nat.le_trans hb l, r⟩)⟩
theorem ON.form {w : World} {base : Nat} {v : Value} {zs : List Int} (h : ON w base v zs) : (v = .slice none 0 0 ∧ zs = []) ∨ ∃ g cap, v = .slice (some ⟨g, 0, none⟩) zs.length cap ∧ base ≤ g ∧ g < w.heap.size ∧ zs.length ≤ cap ∧ NumsAt w g 0 zs ∧ Room w g zs.length := by
  rcases h.2 with ⟨e, h0⟩ | ⟨g, cap, cur, rfl, hb, hg, hc, _⟩
  · exact .inl ⟨e, List.eq_nil_of_length_eq_zero h0⟩
  · refine .inr ⟨g, cap, rfl, hb, ?_, hc, fun i z e => ?_, fun i hi => ?_⟩
    · exact (World.ownsRow.lt h g rfl).2
    · have hi : i < zs.length := (List.getElem?_eq_some_iff.1 e).1
      rw [Nat.zero_add, World.ownsRow.cellAt h i (by omega)]
      rw [List.getElem?_map, e]; rfl
    · refine ⟨.int .i64 zs[i], ?_, World.ownsRow.frozenAt h i⟩
      rw [World.ownsRow.cellAt h i (by omega)]
      simp [hi]
theorem ON.kept {w w' : World} {base : Nat} {v : Value} {zs : List Int} (h : ON w base v zs) (hs : ∀ q, v.ownBlock = some q → w'.heap[q]? = w.heap[q]?) : ON w' base v zs := by
  refine ⟨h.1, h.2.imp id ?_⟩
  rintro ⟨g, cap, cur, rfl, l, hg, r⟩
  exact ⟨g, cap, cur, rfl, l, (hs g rfl).trans hg, r⟩
theorem ON.below {w w' : World} {base : Nat} {v : Value} {zs : List Int} (h : ON w base v zs) (hb : Below w.heap.size w w') : ON w' base v zs :=
  h.kept fun q e => hb.block q (World.ownsRow.lt h q e).2
end Go.Proofs.YtdmpobegobfpjaaGreat
namespace Go.Proofs.YtdmpobegobfpjaaGreat
open Go.RowKit
open Go.Sort (grow)
structure CSm (k : C6) : Prop where
  p : k.places.length ≤ 6
  ps : ∀ zs ∈ k.places, 0 < zs.length ∧ zs.length ≤ 3
  m : k.machines.length ≤ 8
  ms : ∀ m ∈ k.machines, MSm m
  t : k.txs.length ≤ 60
  ts : ∀ t ∈ k.txs, t.reads.length ≤ 12 ∧ t.sets.length ≤ 12
theorem CSm.of {k : C6} (h : clusterB k = true) : CSm k := by
  simp only [clusterB, placesB, machsB, txsB, Bool.and_eq_true, decide_eq_true_eq] at h
  obtain ⟨⟨⟨⟨⟨⟨⟨⟨_, _⟩, _⟩, h4⟩, ⟨_, h5⟩, h6⟩, h7⟩, h8⟩, _⟩, h9⟩ := h
  refine ⟨h5, fun zs hz => ?_, h4, fun m hm => ?_, h7, fun t ht => ?_⟩
  · obtain ⟨i, hi, rfl⟩ := List.getElem_of_mem hz
    have := List.all_eq_true.1 h6 i (List.mem_range.2 hi)
    simp only [atP, List.getElem?_eq_getElem hi, Option.getD_some, placeB, Bool.and_eq_true, decide_eq_true_eq] at this
    omega
  · obtain ⟨i, hi, rfl⟩ := List.getElem_of_mem hm
    have := List.all_eq_true.1 h8 i (List.mem_range.2 hi)
    simp only [atM, List.getElem?_eq_getElem hi, Option.getD_some] at this
    exact MSm.of_mach this
  · obtain ⟨i, hi, rfl⟩ := List.getElem_of_mem ht
    have := List.all_eq_true.1 h9 i (List.mem_range.2 hi)
    simp only [txAtB, tx.txB, atT, List.getElem?_eq_getElem hi, Option.getD_some, Bool.and_eq_true, decide_eq_true_eq] at this
    omega
structure CSt (w : World) (A Z : List Value) (k : C6) (X : World) (vp vm vt : Value) (ps : List ((Nat × Nat) × List Int)) (gp : Nat → Nat → Prop) (ms : List (MV × M4)) (gm : Nat → Nat → Prop) (ts : List (tx.TV × tx.T7)) (gt : Nat → Nat → Prop) : Prop where
  arg : Bx X w.heap.size A
  res : Bx X (w.heap.size + 1) Z
  own : Bx X (w.heap.size + 2) [.int .i64 k.config, .int .i64 k.clock, vp, vm, vt, .bool k.lost]
  rows : CL3 (w.heap.size + 3) (w.heap.size + 2) X vp vm vt ps gp ms gm ts gt
  bel : Below w.heap.size w X
theorem CSt.later {w : World} {A Z : List Value} {k : C6} {X Y : World} {vp vm vt : Value} {ps : List ((Nat × Nat) × List Int)} {gp : Nat → Nat → Prop} {ms : List (MV × M4)} {gm : Nat → Nat → Prop} {ts : List (tx.TV × tx.T7)} {gt : Nat → Nat → Prop} (h : CSt w A Z k X vp vm vt ps gp ms gm ts gt) (b : Below X.heap.size X Y) : CSt w A Z k Y vp vm vt ps gp ms gm ts gt := ⟨h.arg.later b, h.res.later b, h.own.later b, h.rows.later b, bstep h.bel b⟩
def ClAns (w : World) (k : C6) (e : Ending) (w' : World) : Prop := ∃ (a1 : Option Addr) (c1 : Nat) (a2 : Option Addr) (c2 : Nat) (a3 : Option Addr) (c3 : Nat) (ps : List ((Nat × Nat) × List Int)) (gp : Nat → Nat → Prop) (ms : List (MV × M4)) (gm : Nat → Nat → Prop) (ts : List (tx.TV × tx.T7)) (gt : Nat → Nat → Prop), e = .returned (.agg #[.int .i64 k.config, .int .i64 k.clock, .slice a1 k.places.length c1, .slice a2 k.machines.length c2, .slice a3 k.txs.length c3, .bool k.lost]) ∧ CL3 (w.heap.size + 3) (w.heap.size + 2) w' (.slice a1 k.places.length c1) (.slice a2 k.machines.length c2) (.slice a3 k.txs.length c3) ps gp ms gm ts gt ∧ ps.map (·.2) = k.places ∧ ms.map (·.2) = k.machines ∧ ts.map (·.2) = k.txs ∧ Below w.heap.size w w'
theorem MR.ow {base p : Nat} {X : World} {u : MV} {m : M4} {gk gr : Nat → Nat} (h : MR base p X (.slice u.ac m.copies.length u.cc) (.slice u.al m.log.length u.cl) (.slice u.ad m.cleared.length u.cd) m.copies m.log m.cleared gk gr) : ∃ P, KMk.Ow X base u m P := by
  refine ⟨_, KM.of (h.om (v := u)) (fun q hq => ?_)⟩
  rcases hq with hq | hq | hq
  · exact (h.gK.blocks hq).2
  · exact (h.gR.blocks hq).2
  · exact (World.ownsRow.lt h.gD q hq).2
theorem ON.kp {w : World} {B q cp : Nat} {zs : List Int} (h : ON w B (.slice (some ⟨q, 0, none⟩) zs.length cp) zs) : KPk.Ow w B (q, cp) zs (fun x => x = q) := by
  rcases h.form with ⟨e, _⟩ | ⟨g, cap, e, h1, h2, h3, h4, h5⟩
  · cases e
  · cases e
    exact ⟨⟨rfl, h4, h5, h3⟩, fun x hx => by subst hx; exact ⟨h1, h2⟩⟩
def ordX (k : C6) (tv : Nat → tx.TV) (n : Nat) : List (tx.TV × tx.T7) := (ordJ k n).map fun j => (tv j, atT k.txs j)
theorem ordX_len (k : C6) (tv : Nat → tx.TV) (n : Nat) : (ordX k tv n).length = (ordJ k n).length := by simp [ordX]
def OAnsX (w : World) (k : C6) (tv : Nat → tx.TV) (e : Ending) (w' : World) : Prop := ∃ b c, e = .returned (.slice (some ⟨b, 0, none⟩) (ordX k tv k.txs.length).length c) ∧ RowX w' w.heap.size (.slice (some ⟨b, 0, none⟩) (ordX k tv k.txs.length).length c) (ordX k tv k.txs.length) ∧ Below w.heap.size w w'
theorem RowX.at {W : World} {base b c : Nat} {xs : List (tx.TV × tx.T7)} (h : RowX W base (.slice (some ⟨b, 0, none⟩) xs.length c) xs) : AtX W b 0 xs ∧ base ≤ b ∧ b < W.heap.size ∧ xs.length ≤ c := by
  have h1 := h.lt (q := b) rfl
  obtain ⟨a', c', e, hle, hr⟩ := h.form
  cases e
  rcases hr with rfl | ⟨b', e', _, _, hx⟩
  · exact ⟨fun i x hx => by simp at hx, h1.1, h1.2, hle⟩
  · cases e'; exact ⟨hx, h1.1, h1.2, hle⟩
theorem RowX.up {W : World} {base base' : Nat} {v : Value} {xs : List (tx.TV × tx.T7)} (h : RowX W base' v xs) (hb : base ≤ base') : RowX W base v xs := by
  obtain ⟨h1, h2⟩ := h
  refine ⟨h1, h2.imp id ?_⟩
  rintro ⟨g, cap, cur, e, hg, r⟩
  exact ⟨g, cap, cur, e, Nat.le_trans hb hg, r⟩
set_option maxRecDepth 100000 in
set_option maxHeartbeats 16000000 in
theorem l13Order_any (w : World) (a1 : Option Addr) (c1 : Nat) (a2 : Option Addr) (c2 : Nat) (a3 : Option Addr) (c3 : Nat) (k : C6) (tv : Nat → tx.TV) (hk : clusterB k = true) (hl : KCl.L k) (ht : k.txs = [] ∨ ∃ b off, a3 = some ⟨b, off, none⟩ ∧ b < w.heap.size ∧ AtX w b off ((List.range k.txs.length).map fun j => (tv j, atT k.txs j)) ∧ ∀ j, j < k.txs.length → tx.SlT w (tv j) (atT k.txs j)) :
    Calls Tryz.prog 29 #[.agg #[.int .i64 k.config, .int .i64 k.clock, .slice a1 k.places.length c1, .slice a2 k.machines.length c2, .slice a3 k.txs.length c3, .bool k.lost]] w (OAnsX w k tv) := by
  have hn := (CSm.of hk).t
  obtain ⟨U, hU⟩ : ∃ Y, Y = w.alloc (.cells #[.int .i64 k.config, .int .i64 k.clock, .slice a1 k.places.length c1, .slice a2 k.machines.length c2, .slice a3 k.txs.length c3, .bool k.lost] 34) := ⟨_, rfl⟩
  have bU : Below w.heap.size w U := by rw [hU]; exact (Below.refl _ _).alloc (Nat.le_refl _) _
  have FA : Hid (Bx U w.heap.size [.int .i64 k.config, .int .i64 k.clock, .slice a1 k.places.length c1, .slice a2 k.machines.length c2, .slice a3 k.txs.length c3, .bool k.lost]) := by unfold Hid; rw [hU]; exact Bx.made w [.int .i64 k.config, .int .i64 k.clock, .slice a1 k.places.length c1, .slice a2 k.machines.length c2, .slice a3 k.txs.length c3, .bool k.lost] _
  obtain ⟨V, hV⟩ : ∃ Y, Y = U.alloc (.cells #[] 55) := ⟨_, rfl⟩
  have bV : Below U.heap.size U V := by rw [hV]; exact (Below.refl _ _).alloc (Nat.le_refl _) _
  have RV : Hid (RowX V U.heap.size (.slice (some ⟨U.heap.size, 0, none⟩) 0 0) []) := by unfold Hid; rw [hV]; exact RowX.made U
  have BU := hidOf bU
  have BV := hidOf bV
  have HT := hidOf ht
  have HTS : Hid (∀ t ∈ k.txs, tx.TL t) := hl.ts
  have hVV : V = (w.alloc (.cells #[.int .i64 k.config, .int .i64 k.clock, .slice a1 k.places.length c1, .slice a2 k.machines.length c2, .slice a3 k.txs.length c3, .bool k.lost] 34)).alloc (.cells #[] 55) := by rw [hV, hU]
  have sU : U.heap.size = w.heap.size + 1 := by rw [hU]; simp
  have SU := hidOf sU
  rw [sU] at RV
  clear bU bV hU hV ht hl hk sU
  go_enter Tryz.func29, Tryz.ntmps29
  go_wp2
  rw [← hVV]
  clear hVV
  go_loopw [3, 4] (fun v3 v4 wr => ∃ (i b c : Nat), i ≤ k.txs.length ∧ v4 = .int .i64 i ∧ v3 = .slice (some ⟨b, 0, none⟩) (ordX k tv i).length c ∧ RowX wr (w.heap.size + 1) (.slice (some ⟨b, 0, none⟩) (ordX k tv i).length c) (ordX k tv i) ∧ Below U.heap.size U wr) (fun _ v4 _ => k.txs.length - (intOf v4).toNat)
  case atStart => exact ⟨0, w.heap.size + 1, 0, Nat.zero_le _, rfl, rfl, RV.out, BV.out⟩
  case round =>
    obtain ⟨i, b, c, hi, rfl, rfl, hrow, hbl⟩ := hrel
    have KD : Hid (RowX wr (w.heap.size + 1) (.slice (some ⟨b, 0, none⟩) (ordX k tv i).length c) (ordX k tv i) ∧ Below U.heap.size U wr) := ⟨hrow, hbl⟩
    clear hrow hbl
    have q4 := (FA.out.later KD.out.2).1 4 _ rfl
    by_cases hlt : i < k.txs.length
    · rcases HT.out with e0 | ⟨tb, tq, rfl, htb, hat, hsl⟩
      · rw [e0] at hlt; simp at hlt
      have bwr : Below w.heap.size w wr := bstep BU.out KD.out.2
      have hx := hat i (tv i, atT k.txs i) (by rw [List.getElem?_map, List.getElem?_range hlt]; rfl)
      have g0 : wr.cell? ⟨tb, tq + i * 7, none⟩ = some (.int .i64 (atT k.txs i).id) := (bwr.cell (p := ⟨tb, tq + i * 7, none⟩) htb).trans (hx 0 _ rfl)
      have g1 : wr.cell? ⟨tb, tq + i * 7 + 1, none⟩ = some (.int .i64 (atT k.txs i).home) := (bwr.cell (p := ⟨tb, tq + i * 7 + 1, none⟩) htb).trans (hx 1 _ rfl)
      have g2 : wr.cell? ⟨tb, tq + i * 7 + 2, none⟩ = some (.int .i64 (atT k.txs i).phase) := (bwr.cell (p := ⟨tb, tq + i * 7 + 2, none⟩) htb).trans (hx 2 _ rfl)
      have g3 : wr.cell? ⟨tb, tq + i * 7 + 3, none⟩ = some (.int .i64 (atT k.txs i).count) := (bwr.cell (p := ⟨tb, tq + i * 7 + 3, none⟩) htb).trans (hx 3 _ rfl)
      have g4 : wr.cell? ⟨tb, tq + i * 7 + 4, none⟩ = some (.slice (tv i).ar (atT k.txs i).reads.length (tv i).cr) := (bwr.cell (p := ⟨tb, tq + i * 7 + 4, none⟩) htb).trans (hx 4 _ rfl)
      have g5 : wr.cell? ⟨tb, tq + i * 7 + 5, none⟩ = some (.slice (tv i).ah (atT k.txs i).sets.length (tv i).ch) := (bwr.cell (p := ⟨tb, tq + i * 7 + 5, none⟩) htb).trans (hx 5 _ rfl)
      have g6 : wr.cell? ⟨tb, tq + i * 7 + 6, none⟩ = some (.int .i64 (atT k.txs i).stamp) := (bwr.cell (p := ⟨tb, tq + i * 7 + 6, none⟩) htb).trans (hx 6 _ rfl)
      obtain ⟨X, hX⟩ : ∃ Y, Y = wr.alloc (.cells #[.int .i64 (atT k.txs i).id, .int .i64 (atT k.txs i).home, .int .i64 (atT k.txs i).phase, .int .i64 (atT k.txs i).count, .slice (tv i).ar (atT k.txs i).reads.length (tv i).cr, .slice (tv i).ah (atT k.txs i).sets.length (tv i).ch, .int .i64 (atT k.txs i).stamp] 55) := ⟨_, rfl⟩
      have bX : Below wr.heap.size wr X := by rw [hX]; exact (Below.refl _ _).alloc (Nat.le_refl _) _
      have XT : Hid (Bx X wr.heap.size [.int .i64 (atT k.txs i).id, .int .i64 (atT k.txs i).home, .int .i64 (atT k.txs i).phase, .int .i64 (atT k.txs i).count, .slice (tv i).ar (atT k.txs i).reads.length (tv i).cr, .slice (tv i).ah (atT k.txs i).sets.length (tv i).ch, .int .i64 (atT k.txs i).stamp]) := by unfold Hid; rw [hX]; exact Bx.made wr [.int .i64 (atT k.txs i).id, .int .i64 (atT k.txs i).home, .int .i64 (atT k.txs i).phase, .int .i64 (atT k.txs i).count, .slice (tv i).ar (atT k.txs i).reads.length (tv i).cr, .slice (tv i).ah (atT k.txs i).sets.length (tv i).ch, .int .i64 (atT k.txs i).stamp] _
      have BX := hidOf bX
      have htd := tx.specTold_any X (tv i) (atT k.txs i) (HTS.out _ (List.mem_of_getElem? (atT_of hlt))) ((hsl i hlt).later (bstep bwr bX))
      simp only [tx.TV.val] at htd
      have jn : (i : Int) < (k.txs.length : Int) := by omega
      clear hx hat hsl bX bwr htb
      go_wp2_with fail
      rw [← hX]
      clear hX g0 g1 g2 g3 g4 g5 g6 q4
      refine htd.mono ?_
      clear htd
      rintro e W1 ⟨rfl, b1⟩
      have B1 : Hid (Below wr.heap.size wr W1) := bstep BX.out b1
      have XT1 : Hid (Bx W1 wr.heap.size [.int .i64 (atT k.txs i).id, .int .i64 (atT k.txs i).home, .int .i64 (atT k.txs i).phase, .int .i64 (atT k.txs i).count, .slice (tv i).ar (atT k.txs i).reads.length (tv i).cr, .slice (tv i).ah (atT k.txs i).sets.length (tv i).ch, .int .i64 (atT k.txs i).stamp]) := XT.out.later b1
      clear b1 XT BX
      have KR : Hid (RowX W1 (w.heap.size + 1) (.slice (some ⟨b, 0, none⟩) (ordX k tv i).length c) (ordX k tv i) ∧ Below U.heap.size U W1) := ⟨KD.out.1.later B1.out, bstep KD.out.2 B1.out⟩
      generalize wr.heap.size = s at *
      by_cases htl : tx.toldR (atT k.txs i) = 1
      case neg =>
        have d1 : (tx.toldR (atT k.txs i) != 1) = true := by simp [htl]
        have HE : Hid (ordX k tv (i + 1) = ordX k tv i) := by unfold Hid ordX; rw [ordJ, if_neg htl]
        clear htl
        generalize tx.toldR (atT k.txs i) = tr at *
        go_wp2
        exact ⟨⟨i + 1, b, c, by omega, by simp, by rw [HE.out], by rw [HE.out]; exact KR.out.1, KR.out.2⟩, by simp [intOf]; omega⟩
      case pos =>
        have d1 : (tx.toldR (atT k.txs i) != 1) = false := by simp [htl]
        have HE : Hid (ordJ k (i + 1) = insJ k i (ordJ k i)) := by unfold Hid; rw [ordJ, if_pos htl]
        clear htl
        generalize tx.toldR (atT k.txs i) = tr at *
        obtain ⟨n, hnn⟩ : ∃ n, (ordX k tv i).length = n := ⟨_, rfl⟩
        have HN : Hid ((ordX k tv i).length = n ∧ n ≤ 60) := ⟨hnn, by rw [← hnn, ordX_len]; have := ordJ_len k i; omega⟩
        rw [hnn] at KR
        rw [hnn]
        clear hnn
        generalize wr = wO at *
        go_wp2
        obtain ⟨f, hf⟩ : ∃ f : Nat → Bool, f = fun q => decide (stpJ k i < stpJ k ((ordJ k i)[q]?.getD 0)) := ⟨_, rfl⟩
        go_loopw [6] (fun v6 wr => ∃ q : Nat, q ≤ n ∧ v6 = .int .i64 q ∧ Below W1.heap.size W1 wr ∧ cutK f n = cutK f q) (fun v6 _ => (intOf v6).toNat)
        case atStart => exact ⟨n, Nat.le_refl _, rfl, Below.refl _ _, rfl⟩
        case round =>
          obtain ⟨q, hq, rfl, hbl, hct⟩ := hrel
          have KQ : Hid (Below W1.heap.size W1 wr ∧ cutK f n = cutK f q) := ⟨hbl, hct⟩
          clear hbl hct
          have hz60 := HN.out.2
          by_cases hgo : ∃ p, q = p + 1 ∧ f p = true
          · obtain ⟨p, rfl, hfp⟩ := hgo
            have HF : Hid (cutK f n = cutK f p) := by unfold Hid; rw [KQ.out.2, cutK, if_pos hfp]
            have hat := RowX.at (by rw [HN.out.1]; exact KR.out.1.later KQ.out.1)
            have hpl : p < (ordJ k i).length := by rw [← ordX_len k tv, HN.out.1]; omega
            have hst := hat.1 p (tv (ordJ k i)[p], atT k.txs (ordJ k i)[p]) (by rw [ordX, List.getElem?_map, List.getElem?_eq_getElem hpl]; rfl) 6 _ rfl
            rw [hf, decide_eq_true_eq, List.getElem?_eq_getElem hpl] at hfp
            simp only [Option.getD_some, stpJ] at hfp
            rw [Nat.zero_add] at hst
            have c6 := (XT1.out.later KQ.out.1).1 6 _ rfl
            obtain ⟨sp, hsp⟩ : ∃ z, (atT k.txs (ordJ k i)[p]).stamp = z := ⟨_, rfl⟩
            obtain ⟨si, hsi⟩ : ∃ z, (atT k.txs i).stamp = z := ⟨_, rfl⟩
            rw [hsp] at hst hfp
            rw [hsi] at c6 hfp
            have dq : decide ((0 : Int) < ((p + 1 : Nat) : Int)) = true := by simp
            have dp : decide (si < sp) = true := by simp [hfp]
            have pn : (p : Int) < (n : Int) := by omega
            have KS : Hid (Below W1.heap.size W1 wr) := KQ.out.1
            clear hat hpl hsp hsi hfp hf
            go_wp2_with fail
            go_quiet (fail)
            go_wp2
            exact ⟨⟨p, by omega, by simp, below_dn KS.out _, HF.out⟩, by simp [intOf]⟩
          · have HCQ : Hid (cutK f n = q) := by
              unfold Hid
              rw [KQ.out.2]
              cases q with
              | zero => rfl
              | succ p =>
                rw [cutK, if_neg (fun h => hgo ⟨p, rfl, h⟩)]
            have hX : RowX wr (w.heap.size + 1) (.slice (some ⟨b, 0, none⟩) n c) (ordX k tv i) := KR.out.1.later KQ.out.1
            have hat := RowX.at (W := wr) (base := w.heap.size + 1) (b := b) (c := c) (xs := ordX k tv i) (by rw [HN.out.1]; exact hX)
            have hcn : n ≤ c := by have := hat.2.2.2; rw [HN.out.1] at this; exact this
            have c6 := (XT1.out.later KQ.out.1).1 6 _ rfl
            have HQ : Hid (Below W1.heap.size W1 wr) := KQ.out.1
            have HAT : Hid (AtX wr b 0 (ordX k tv i) ∧ b < wr.heap.size) := ⟨hat.1, hat.2.2.1⟩
            clear hX KQ
            -- the test is false
            have hmeet : q = 0 ∨ ∃ p sp si, q = p + 1 ∧ wr.cell? ⟨b, p * 7 + 6, none⟩ = some (.int .i64 sp) ∧ wr.cell? ⟨s, 6, none⟩ = some (.int .i64 si) ∧ decide (si < sp) = false := by
              cases q with
              | zero => exact .inl rfl
              | succ p =>
                refine .inr ⟨p, (atT k.txs ((ordJ k i)[p]?.getD 0)).stamp, (atT k.txs i).stamp, rfl, ?_, c6, ?_⟩
                · have hpl : p < (ordJ k i).length := by rw [← ordX_len k tv, HN.out.1]; omega
                  have hst := hat.1 p (tv (ordJ k i)[p], atT k.txs (ordJ k i)[p]) (by rw [ordX, List.getElem?_map, List.getElem?_eq_getElem hpl]; rfl) 6 _ rfl
                  rw [Nat.zero_add] at hst
                  rw [List.getElem?_eq_getElem hpl]
                  exact hst
                · have h9 : ¬ stpJ k i < stpJ k ((ordJ k i)[p]?.getD 0) := fun h => hgo ⟨p, rfl, by rw [hf]; exact decide_eq_true h⟩
                  exact decide_eq_false_iff_not.2 h9
            clear hgo hat c6
            have qc : (q : Int) ≤ (c : Int) := by omega
            have qn : (q : Int) ≤ (n : Int) := by omega
            rcases hmeet with rfl | ⟨p, sp, si, rfl, x1, x2, dp⟩
            · go_wp2_with fail
              go_quiet (fail)
              have KY : Hid (Below W1.heap.size W1 (wr.drewN nq)) := below_dn HQ.out _
              have HAY : Hid (AtX (wr.drewN nq) b 0 (ordX k tv i) ∧ b < (wr.drewN nq).heap.size) := HAT.out
              clear HQ HAT
              generalize wr.drewN nq = Y at *
              have hlq : ((ordX k tv i).take 0).length = 0 := by rw [List.length_take, HN.out.1]; omega
              obtain ⟨p1, e1, Z1, run1, row1, gr1⟩ := pushXs (RowX.made Y) ((ordX k tv i).take 0) (by have := HN.out.2; simp only [hlq, List.length_nil]; omega) 32 (some ⟨b, 0, none⟩) c (.inr ⟨b, 0, rfl, (HAY.out.1.below ((Below.refl _ _).alloc (Nat.le_refl _) _) HAY.out.2).take 0⟩) (by simp)
              rw [List.nil_append] at run1 row1
              rw [hlq] at run1
              have b1 : Below Y.heap.size Y Z1 := ((Below.refl _ _).alloc (Nat.le_refl _) _).grown gr1 (by simp) (fun z e => by cases e; exact Nat.le_refl _)
              have XZ : Bx Z1 s [.int .i64 (atT k.txs i).id, .int .i64 (atT k.txs i).home, .int .i64 (atT k.txs i).phase, .int .i64 (atT k.txs i).count, .slice (tv i).ar (atT k.txs i).reads.length (tv i).cr, .slice (tv i).ah (atT k.txs i).sets.length (tv i).ch, .int .i64 (atT k.txs i).stamp] := (XT1.out.later KY.out).later b1
              have h0 := XZ.1 0 _ rfl
              have h1 := XZ.1 1 _ rfl
              have h2 := XZ.1 2 _ rfl
              have h3 := XZ.1 3 _ rfl
              have h4 := XZ.1 4 _ rfl
              have h5 := XZ.1 5 _ rfl
              have h6 := XZ.1 6 _ rfl
              obtain ⟨Z1a, hZ1a⟩ : ∃ Y, Y = Z1.alloc (.cells #[.int .i64 (atT k.txs i).id, .int .i64 (atT k.txs i).home, .int .i64 (atT k.txs i).phase, .int .i64 (atT k.txs i).count, .slice (tv i).ar (atT k.txs i).reads.length (tv i).cr, .slice (tv i).ah (atT k.txs i).sets.length (tv i).ch, .int .i64 (atT k.txs i).stamp] 55) := ⟨_, rfl⟩
              have bZ1a : Below Z1.heap.size Z1 Z1a := by rw [hZ1a]; exact (Below.refl _ _).alloc (Nat.le_refl _) _
              have x1a : Bx Z1a Z1.heap.size [.int .i64 (atT k.txs i).id, .int .i64 (atT k.txs i).home, .int .i64 (atT k.txs i).phase, .int .i64 (atT k.txs i).count, .slice (tv i).ar (atT k.txs i).reads.length (tv i).cr, .slice (tv i).ah (atT k.txs i).sets.length (tv i).ch, .int .i64 (atT k.txs i).stamp] := by rw [hZ1a]; exact Bx.made Z1 [.int .i64 (atT k.txs i).id, .int .i64 (atT k.txs i).home, .int .i64 (atT k.txs i).phase, .int .i64 (atT k.txs i).count, .slice (tv i).ar (atT k.txs i).reads.length (tv i).cr, .slice (tv i).ah (atT k.txs i).sets.length (tv i).ch, .int .i64 (atT k.txs i).stamp] _
              obtain ⟨p2, e2, Z2, run2, row2, gr2⟩ := pushXs (row1.later bZ1a) [(tv i, atT k.txs i)] (by have := HN.out.2; simp only [hlq, List.length_cons, List.length_nil]; omega) 32 (some ⟨Z1.heap.size, 0, none⟩) 1 (.inr ⟨Z1.heap.size, 0, rfl, fun z x hx t u hu => by
                have hz : z = 0 := by have := (List.getElem?_eq_some_iff.1 hx).1; simp at this; exact this
                subst hz
                cases hx
                have := x1a.1 t u hu
                rw [show 0 + 0 * 7 + t = t by omega]
                exact this⟩) (by have := b1.size; have := bZ1a.size; omega)
              have hl2 : ((ordX k tv i).take 0 ++ [(tv i, atT k.txs i)]).length = 0 + 1 := by rw [List.length_append, hlq]; rfl
              have b2 : Below Y.heap.size Y Z2 := (bstep b1 bZ1a).grown gr2 (bstep b1 bZ1a).size (fun z e => ((row1.later bZ1a).lt e).1)
              have row2' : RowX Z2 Y.heap.size (.slice p2 ((ordX k tv i).take 0 ++ [(tv i, atT k.txs i)]).length e2) ((ordX k tv i).take 0 ++ [(tv i, atT k.txs i)]) := row2
              have hld : ((ordX k tv i).drop 0).length = n - 0 := by rw [List.length_drop, HN.out.1]
              rw [hl2] at run2
              rw [hlq] at run2
              rw [hZ1a] at run2
              obtain ⟨da, hda⟩ : ∃ a, a = (if c = 0 then (some ⟨b, 0, none⟩ : Option Addr) else some ⟨b, 0 * 7, none⟩) := ⟨_, rfl⟩
              obtain ⟨p3, e3, Z3, run3, row3, gr3⟩ := pushXs row2' ((ordX k tv i).drop 0) (by rw [hl2, hld]; omega) 32 da (c - 0) (by
                by_cases hcq : c = 0
                · exact .inl (List.eq_nil_of_length_eq_zero (by rw [hld]; omega))
                · refine .inr ⟨b, 0 * 7, by rw [hda, if_neg hcq], ?_⟩
                  have := (HAY.out.1.below b2 HAY.out.2).drop 0
                  rw [Nat.zero_add] at this
                  exact this) (by have := b2.size; omega)
              have b3 : Below Y.heap.size Y Z3 := b2.grown gr3 b2.size (fun z e => (row2'.lt e).1)
              rw [hl2, hld] at run3
              have HZ3 : Hid (ordX k tv (i + 1) = (ordX k tv i).take 0 ++ [(tv i, atT k.txs i)] ++ (ordX k tv i).drop 0) := by
                unfold Hid ordX
                rw [HE.out, insJ, ← hf, show (ordJ k i).length = n by rw [← ordX_len k tv, HN.out.1], HCQ.out]
                simp only [List.map_append, List.map_take, List.map_drop, List.map_cons, List.map_nil]
              have hl3 : ((ordX k tv i).take 0 ++ [(tv i, atT k.txs i)] ++ (ordX k tv i).drop 0).length = n + 1 := by rw [List.length_append, hl2, hld]; omega
              have hl3' : (ordX k tv (i + 1)).length = n + 1 := by rw [HZ3.out]; exact hl3
              rw [← HZ3.out] at row3 run3
              obtain ⟨b9, rfl⟩ : ∃ b9, p3 = some ⟨b9, 0, none⟩ := by
                obtain ⟨a9, c9, e9, _, h9⟩ := row3.form
                cases e9
                rcases h9 with h9 | ⟨b9, e9, _⟩
                · rw [h9] at hl3'; simp at hl3'
                · exact ⟨b9, e9⟩
              have KE : Hid (RowX Z3 (w.heap.size + 1) (.slice (some ⟨b9, 0, none⟩) (ordX k tv (i + 1)).length e3) (ordX k tv (i + 1)) ∧ Below U.heap.size U Z3) := ⟨row3.up (by have := SU.out; have := KR.out.2.size; have := KY.out.size; omega), bstep (bstep KR.out.2 KY.out) b3⟩
              have HL9 : Hid ((ordX k tv (i + 1)).length = n + 1) := hl3'
              clear row1 row2 row2' row3 gr1 gr2 gr3 b1 b2 b3 bZ1a x1a hZ1a XZ hlq hl2 hld hl3 hl3' HZ3 HE HCQ hf
              by_cases hcq : c = 0
              case' pos => rw [if_pos hcq] at hda
              case' neg => rw [if_neg hcq] at hda
              all_goals
                subst hda
                go_wp2_with (first | (at_builtin; refine append_known _ rfl (.tmp 41) (.tmp 44) 32 rfl _ _ _ _ rfl rfl run1 ?_) | (at_builtin; refine append_known _ rfl (.tmp 46) (.tmp 48) 32 rfl _ _ _ _ rfl rfl run2 ?_) | (at_builtin; refine append_known _ rfl (.tmp 50) (.tmp 53) 32 rfl _ _ _ _ rfl rfl run3 ?_))
                exact ⟨⟨i + 1, b9, e3, by omega, by simp, rfl, KE.out.1, KE.out.2⟩, by simp [intOf]; omega⟩
            · have dq : decide ((0 : Int) < ((p + 1 : Nat) : Int)) = true := by simp
              have pn : (p : Int) < (n : Int) := by omega
              go_wp2_with fail
              go_quiet (fail)
              have KY : Hid (Below W1.heap.size W1 (wr.drewN nq)) := below_dn HQ.out _
              have HAY : Hid (AtX (wr.drewN nq) b 0 (ordX k tv i) ∧ b < (wr.drewN nq).heap.size) := HAT.out
              clear HQ HAT x1 x2
              generalize wr.drewN nq = Y at *
              have hlq : ((ordX k tv i).take (p + 1)).length = (p + 1) := by rw [List.length_take, HN.out.1]; omega
              obtain ⟨p1, e1, Z1, run1, row1, gr1⟩ := pushXs (RowX.made Y) ((ordX k tv i).take (p + 1)) (by have := HN.out.2; simp only [hlq, List.length_nil]; omega) 32 (some ⟨b, 0, none⟩) c (.inr ⟨b, 0, rfl, (HAY.out.1.below ((Below.refl _ _).alloc (Nat.le_refl _) _) HAY.out.2).take (p + 1)⟩) (by simp)
              rw [List.nil_append] at run1 row1
              rw [hlq] at run1
              have b1 : Below Y.heap.size Y Z1 := ((Below.refl _ _).alloc (Nat.le_refl _) _).grown gr1 (by simp) (fun z e => by cases e; exact Nat.le_refl _)
              have XZ : Bx Z1 s [.int .i64 (atT k.txs i).id, .int .i64 (atT k.txs i).home, .int .i64 (atT k.txs i).phase, .int .i64 (atT k.txs i).count, .slice (tv i).ar (atT k.txs i).reads.length (tv i).cr, .slice (tv i).ah (atT k.txs i).sets.length (tv i).ch, .int .i64 (atT k.txs i).stamp] := (XT1.out.later KY.out).later b1
              have h0 := XZ.1 0 _ rfl
              have h1 := XZ.1 1 _ rfl
              have h2 := XZ.1 2 _ rfl
              have h3 := XZ.1 3 _ rfl
              have h4 := XZ.1 4 _ rfl
              have h5 := XZ.1 5 _ rfl
              have h6 := XZ.1 6 _ rfl
              obtain ⟨Z1a, hZ1a⟩ : ∃ Y, Y = Z1.alloc (.cells #[.int .i64 (atT k.txs i).id, .int .i64 (atT k.txs i).home, .int .i64 (atT k.txs i).phase, .int .i64 (atT k.txs i).count, .slice (tv i).ar (atT k.txs i).reads.length (tv i).cr, .slice (tv i).ah (atT k.txs i).sets.length (tv i).ch, .int .i64 (atT k.txs i).stamp] 55) := ⟨_, rfl⟩
              have bZ1a : Below Z1.heap.size Z1 Z1a := by rw [hZ1a]; exact (Below.refl _ _).alloc (Nat.le_refl _) _
              have x1a : Bx Z1a Z1.heap.size [.int .i64 (atT k.txs i).id, .int .i64 (atT k.txs i).home, .int .i64 (atT k.txs i).phase, .int .i64 (atT k.txs i).count, .slice (tv i).ar (atT k.txs i).reads.length (tv i).cr, .slice (tv i).ah (atT k.txs i).sets.length (tv i).ch, .int .i64 (atT k.txs i).stamp] := by rw [hZ1a]; exact Bx.made Z1 [.int .i64 (atT k.txs i).id, .int .i64 (atT k.txs i).home, .int .i64 (atT k.txs i).phase, .int .i64 (atT k.txs i).count, .slice (tv i).ar (atT k.txs i).reads.length (tv i).cr, .slice (tv i).ah (atT k.txs i).sets.length (tv i).ch, .int .i64 (atT k.txs i).stamp] _
              obtain ⟨p2, e2, Z2, run2, row2, gr2⟩ := pushXs (row1.later bZ1a) [(tv i, atT k.txs i)] (by have := HN.out.2; simp only [hlq, List.length_cons, List.length_nil]; omega) 32 (some ⟨Z1.heap.size, 0, none⟩) 1 (.inr ⟨Z1.heap.size, 0, rfl, fun z x hx t u hu => by
                have hz : z = 0 := by have := (List.getElem?_eq_some_iff.1 hx).1; simp at this; exact this
                subst hz
                cases hx
                have := x1a.1 t u hu
                rw [show 0 + 0 * 7 + t = t by omega]
                exact this⟩) (by have := b1.size; have := bZ1a.size; omega)
              have hl2 : ((ordX k tv i).take (p + 1) ++ [(tv i, atT k.txs i)]).length = (p + 1) + 1 := by rw [List.length_append, hlq]; rfl
              have b2 : Below Y.heap.size Y Z2 := (bstep b1 bZ1a).grown gr2 (bstep b1 bZ1a).size (fun z e => ((row1.later bZ1a).lt e).1)
              have row2' : RowX Z2 Y.heap.size (.slice p2 ((ordX k tv i).take (p + 1) ++ [(tv i, atT k.txs i)]).length e2) ((ordX k tv i).take (p + 1) ++ [(tv i, atT k.txs i)]) := row2
              have hld : ((ordX k tv i).drop (p + 1)).length = n - (p + 1) := by rw [List.length_drop, HN.out.1]
              rw [hl2] at run2
              rw [hlq] at run2
              rw [hZ1a] at run2
              obtain ⟨da, hda⟩ : ∃ a, a = (if c = (p + 1) then (some ⟨b, 0, none⟩ : Option Addr) else some ⟨b, (p + 1) * 7, none⟩) := ⟨_, rfl⟩
              obtain ⟨p3, e3, Z3, run3, row3, gr3⟩ := pushXs row2' ((ordX k tv i).drop (p + 1)) (by rw [hl2, hld]; omega) 32 da (c - (p + 1)) (by
                by_cases hcq : c = (p + 1)
                · exact .inl (List.eq_nil_of_length_eq_zero (by rw [hld]; omega))
                · refine .inr ⟨b, (p + 1) * 7, by rw [hda, if_neg hcq], ?_⟩
                  have := (HAY.out.1.below b2 HAY.out.2).drop (p + 1)
                  rw [Nat.zero_add] at this
                  exact this) (by have := b2.size; omega)
              have b3 : Below Y.heap.size Y Z3 := b2.grown gr3 b2.size (fun z e => (row2'.lt e).1)
              rw [hl2, hld] at run3
              have HZ3 : Hid (ordX k tv (i + 1) = (ordX k tv i).take (p + 1) ++ [(tv i, atT k.txs i)] ++ (ordX k tv i).drop (p + 1)) := by
                unfold Hid ordX
                rw [HE.out, insJ, ← hf, show (ordJ k i).length = n by rw [← ordX_len k tv, HN.out.1], HCQ.out]
                simp only [List.map_append, List.map_take, List.map_drop, List.map_cons, List.map_nil]
              have hl3 : ((ordX k tv i).take (p + 1) ++ [(tv i, atT k.txs i)] ++ (ordX k tv i).drop (p + 1)).length = n + 1 := by rw [List.length_append, hl2, hld]; omega
              have hl3' : (ordX k tv (i + 1)).length = n + 1 := by rw [HZ3.out]; exact hl3
              rw [← HZ3.out] at row3 run3
              obtain ⟨b9, rfl⟩ : ∃ b9, p3 = some ⟨b9, 0, none⟩ := by
                obtain ⟨a9, c9, e9, _, h9⟩ := row3.form
                cases e9
                rcases h9 with h9 | ⟨b9, e9, _⟩
                · rw [h9] at hl3'; simp at hl3'
                · exact ⟨b9, e9⟩
              have KE : Hid (RowX Z3 (w.heap.size + 1) (.slice (some ⟨b9, 0, none⟩) (ordX k tv (i + 1)).length e3) (ordX k tv (i + 1)) ∧ Below U.heap.size U Z3) := ⟨row3.up (by have := SU.out; have := KR.out.2.size; have := KY.out.size; omega), bstep (bstep KR.out.2 KY.out) b3⟩
              have HL9 : Hid ((ordX k tv (i + 1)).length = n + 1) := hl3'
              clear row1 row2 row2' row3 gr1 gr2 gr3 b1 b2 b3 bZ1a x1a hZ1a XZ hlq hl2 hld hl3 hl3' HZ3 HE HCQ hf
              by_cases hcq : c = (p + 1)
              case' pos => rw [if_pos hcq] at hda
              case' neg => rw [if_neg hcq] at hda
              all_goals
                subst hda
                go_wp2_with (first | (at_builtin; refine append_known _ rfl (.tmp 41) (.tmp 44) 32 rfl _ _ _ _ rfl rfl run1 ?_) | (at_builtin; refine append_known _ rfl (.tmp 46) (.tmp 48) 32 rfl _ _ _ _ rfl rfl run2 ?_) | (at_builtin; refine append_known _ rfl (.tmp 50) (.tmp 53) 32 rfl _ _ _ _ rfl rfl run3 ?_))
                exact ⟨⟨i + 1, b9, e3, by omega, by simp, rfl, KE.out.1, KE.out.2⟩, by simp [intOf]; omega⟩
    · obtain rfl : i = k.txs.length := by omega
      have hd : decide ((k.txs.length : Int) < (k.txs.length : Int)) = false := by simp
      obtain ⟨xs, hxs⟩ : ∃ xs, ordX k tv k.txs.length = xs := ⟨_, rfl⟩
      have HO : Hid (OAnsX w k tv = fun e w' => ∃ b c, e = .returned (.slice (some ⟨b, 0, none⟩) xs.length c) ∧ RowX w' w.heap.size (.slice (some ⟨b, 0, none⟩) xs.length c) xs ∧ Below w.heap.size w w') := by unfold Hid; funext e w'; rw [OAnsX, hxs]
      rw [hxs] at KD
      rw [hxs]
      clear hxs
      go_wp2
      go_ret
      rw [HO.out]
      exact ⟨b, c, rfl, KD.out.1.up (by omega), bstep BU.out KD.out.2⟩
end Go.Proofs.YtdmpobegobfpjaaGreat