/- SeS; Copy; SeA; Cmp; FindC; CopI; CopN; SeC; CluI1: joined. -/
import Derived.Test.YtphpcgmnljhimaaGreatRows
import Derived.Test.YtphpcgmnljhimaaGreatJ0ExactSettled
import Derived.Test.YtphpcgmnljhimaaGreatJ9ExactSettled
import Derived.Test.YtphpcgmnljhimaaGreatJ7ExactSettled
import Derived.Test.YtphpcgmnljhimaaGreatJ10ExactSettled
import Derived.Test.YtphpcgmnljhimaaGreatJ8ExactSettled
import Derived.Deep.Upon
import Derived.Deep.RegionWith
import Derived.WalkKit
import Derived.WalkSpells
import Derived.WalkLawsBesides
import Derived.Below
import Derived.Lib.QuietBelow
import Derived.BigQuiet
import Derived.Deep.CutRange
import Derived.LaidEql
import Derived.RowKitTokens
import Derived.Laws.CopyOwn
import Derived.Test.YtphpcgmnljhimaaGreatJ5ExactSettled
import Derived.Laws.StructEq
import Derived.ChangeKeysEq
import Derived.Deep.Heap
import Derived.Deep.AppendLies
namespace Go.Proofs.YtphpcgmnljhimaaGreat
open Go.RowKit
open Go.Sort (grow)
noncomputable def zcC (k : C6) (r : Nat) (z : Int) : List C2 := (atK (atM k.machines z.toNat).copies (idxC (atM k.machines z.toNat) (r : Int)).toNat).cells
def lokB (xs : List C2) : Bool := (List.range 6).any fun s => inB 0 4000003 (atC2 xs s).head && lockedB (atC2 xs s).head
theorem lokB_no {xs : List C2} (h : ∀ s, s < 6 → (inB 0 4000003 (atC2 xs s).head && lockedB (atC2 xs s).head) = false) : lokB xs = false := by
  rw [lokB, List.any_eq_false]
  exact fun s hs => by rw [h s (List.mem_range.1 hs)]; simp
theorem lokB_yes {xs : List C2} {s : Nat} (hs : s < 6) (h : (inB 0 4000003 (atC2 xs s).head && lockedB (atC2 xs s).head) = true) : lokB xs = true := List.any_eq_true.2 ⟨s, List.mem_range.2 hs, h⟩
noncomputable def goodJ (k : C6) (r j : Nat) : Bool := samB (zcC k r (atN (atP k.places r) 0)) (zcC k r (atN (atP k.places r) j)) && !lokB (zcC k r (atN (atP k.places r) j))
noncomputable def setR (k : C6) (r : Nat) : Bool := !downB k (atP k.places r) && (List.range (atP k.places r).length).all (goodJ k r)
noncomputable def setB (k : C6) : Bool := clusterB k && !k.lost && (List.range k.machines.length).all (fun i => decide ((atM k.machines i).log.length = 0)) && (List.range k.places.length).all (setR k)
theorem all_lt {f : Nat → Bool} {n : Nat} (h : ∀ i, i < n → f i = true) : (List.range n).all f = true := List.all_eq_true.2 fun i hi => h i (List.mem_range.1 hi)
theorem all_not {f : Nat → Bool} {n i : Nat} (hi : i < n) (h : f i = false) : (List.range n).all f = false := by
  rw [List.all_eq_false]
  exact ⟨i, List.mem_range.2 hi, by rw [h]; simp⟩
theorem clu_cell {k : C6} (hk : clusterB k = true) {r j : Nat} (hr : r < k.places.length) (hj : j < (atP k.places r).length) (hd : downB k (atP k.places r) = false) : ∃ z t : Nat, atN (atP k.places r) j = (z : Int) ∧ z < k.machines.length ∧ idxC (atM k.machines z) (r : Int) = (t : Int) ∧ t < (atM k.machines z).copies.length ∧ zcC k r (atN (atP k.places r) j) = (atK (atM k.machines z).copies t).cells ∧ (atK (atM k.machines z).copies t).cells.length = 6 := by
  have hz := clu_z hk hr hj
  obtain ⟨z, hz'⟩ : ∃ z : Nat, atN (atP k.places r) j = (z : Int) := ⟨_, (Int.toNat_of_nonneg hz.1).symm⟩
  have hzl : z < k.machines.length := by omega
  have hal : (atM k.machines z).alive = true := by
    rw [downB, List.any_eq_false] at hd
    have := hd _ (List.mem_of_getElem? (atN_of hj))
    simpa [alB, hz'] using this
  have hk' := hk
  simp only [clusterB, Bool.and_eq_true] at hk'
  have hm : machB (atM k.machines z) = true := List.all_eq_true.1 hk'.1.1.2 z (List.mem_range.2 hzl)
  have hs := List.all_eq_true.1 (List.all_eq_true.1 hk'.1.2 r (List.mem_range.2 hr)) j (List.mem_range.2 hj)
  simp only [servB, hz', Bool.and_eq_true, decide_eq_true_eq, Int.toNat_natCast] at hs
  have hhas : hasC (atM k.machines z) (r : Int) = true := by have := hs.2; rw [hal] at this; simpa using this
  have hlt := idxC_lt (atM k.machines z) (r : Int)
  rw [hhas] at hlt
  rcases idxC_first (atM k.machines z) (r : Int) with ⟨e, _⟩ | ⟨t, e, ht, _, _⟩
  · rw [e] at hlt; cases hlt
  · exact ⟨z, t, hz', hzl, e, ht, by rw [zcC, hz', Int.toNat_natCast, e, Int.toNat_natCast], mach_six hm _ (List.mem_of_getElem? (atK_of ht))⟩
set_option maxRecDepth 100000 in
set_option maxHeartbeats 16000000 in
theorem specSettled_any (w : World) (a1 : Option Addr) (c1 : Nat) (a2 : Option Addr) (c2 : Nat) (a3 : Option Addr) (c3 : Nat) (k : C6) (hl : KCl.L k) (h : KCl.Rd w a1 c1 a2 c2 a3 c3 k) :
    Calls Tryz.prog 10 #[.agg #[.int .i64 k.config, .int .i64 k.clock, .slice a1 k.places.length c1, .slice a2 k.machines.length c2, .slice a3 k.txs.length c3, .bool k.lost]] w fun e w' => e = .returned (.bool (setB k)) ∧ Below w.heap.size w w' := by
  obtain ⟨U, hU⟩ : ∃ Y, Y = w.alloc (.cells #[.int .i64 k.config, .int .i64 k.clock, .slice a1 k.places.length c1, .slice a2 k.machines.length c2, .slice a3 k.txs.length c3, .bool k.lost] 33) := ⟨_, rfl⟩
  have BU : Hid (Below w.heap.size w U) := by unfold Hid; rw [hU]; exact (Below.refl _ _).alloc (Nat.le_refl _) _
  have FA : Hid (Bx U w.heap.size [.int .i64 k.config, .int .i64 k.clock, .slice a1 k.places.length c1, .slice a2 k.machines.length c2, .slice a3 k.txs.length c3, .bool k.lost]) := by unfold Hid; rw [hU]; exact Bx.made w [.int .i64 k.config, .int .i64 k.clock, .slice a1 k.places.length c1, .slice a2 k.machines.length c2, .slice a3 k.txs.length c3, .bool k.lost] _
  have HR : Hid (KCl.Rd U a1 c1 a2 c2 a3 c3 k ∧ KCl.L k) := ⟨h.later BU.out, hl⟩
  have hc := specClusterOk_any U a1 c1 a2 c2 a3 c3 k hl HR.out.1
  clear h hl
  go_enter Tryz.func10, Tryz.ntmps10
  go_wp2_with fail
  rw [← hU]
  clear hU
  refine hc.mono ?_
  clear hc
  rintro e W1 ⟨rfl, b1⟩
  have B1 : Hid (Below U.heap.size U W1) := b1
  clear b1
  cases hk : clusterB k with
  | false =>
    have HV : Hid (setB k = false) := by unfold Hid setB; rw [hk]; rfl
    clear hk
    go_wp2
    go_ret
    exact ⟨by rw [HV.out]; rfl, bstep BU.out B1.out⟩
  | true =>
  have HK := hidOf hk
  have p5 := (FA.out.later B1.out).1 5 _ rfl
  cases hlo : k.lost with
  | true =>
    have HV : Hid (setB k = false) := by unfold Hid setB; rw [hlo]; simp
    rw [hlo] at p5
    clear hk hlo
    go_wp2
    go_ret
    exact ⟨by rw [HV.out]; rfl, bstep BU.out B1.out⟩
  | false =>
  have HS0 : Hid (setB k = ((List.range k.machines.length).all (fun i => decide ((atM k.machines i).log.length = 0)) && (List.range k.places.length).all (setR k))) := by unfold Hid setB; rw [hk, hlo]; rfl
  have HSZ : Hid (k.machines.length ≤ 8 ∧ k.places.length ≤ 6 ∧ 0 < k.machines.length) := ⟨(CSm.of hk).m, (CSm.of hk).p, by
    simp only [clusterB, Bool.and_eq_true, decide_eq_true_eq] at hk
    omega⟩
  have m8 := HSZ.out.1
  have m6 := HSZ.out.2.1
  rcases HR.out.1.m with hs | ⟨mb, mo, rfl, hmb, hmrd⟩
  · have := HSZ.out.2.2; rw [hs] at this; simp at this
  have HMR := hidOf hmrd
  have HMX := hidOf hmb
  have LO := hidOf hlo
  rw [hlo] at p5
  clear hk hmrd hmb hlo
  go_wp2
  clear p5
  go_loopw [3] (fun v wr => ∃ j : Nat, j ≤ k.machines.length ∧ v = .int .i64 j ∧ Below U.heap.size U wr ∧ ∀ i, i < j → decide ((atM k.machines i).log.length = 0) = true) (fun v _ => k.machines.length - (intOf v).toNat)
  case atStart => exact ⟨0, Nat.zero_le _, rfl, B1.out, fun i hi => absurd hi (by omega)⟩
  case round =>
    obtain ⟨j, hj, rfl, hbl, hall⟩ := hrel
    have KD : Hid (Below U.heap.size U wr ∧ ∀ i, i < j → decide ((atM k.machines i).log.length = 0) = true) := ⟨hbl, hall⟩
    clear hbl hall
    have q3 := (FA.out.later KD.out.1).1 3 _ rfl
    by_cases hlt : j < k.machines.length
    · obtain ⟨⟨m0, m1, m2, m3, m4, m5⟩, hmel, -⟩ := HMR.out j _ (atM_of hlt)
      have g2 : wr.cell? ⟨mb, mo + j * 4 + 2, none⟩ = some (.slice m2 (atM k.machines j).log.length m3) := (KD.out.1.cell (p := ⟨mb, mo + j * 4 + 2, none⟩) HMX.out).trans (hmel 2 _ rfl)
      have jm : (j : Int) < (k.machines.length : Int) := by omega
      clear hmel
      by_cases hz : (atM k.machines j).log.length = 0
      · rw [hz] at g2
        have HA : Hid (∀ i, i < j + 1 → decide ((atM k.machines i).log.length = 0) = true) := fun i hi => by
          by_cases e : i = j
          · rw [e, hz]; rfl
          · exact KD.out.2 i (by omega)
        clear hz
        go_wp2
        exact ⟨⟨j + 1, by omega, by simp, KD.out.1, HA.out⟩, by simp [intOf]; omega⟩
      · have d1 : 0 < (atM k.machines j).log.length := by omega
        have d0 : (0 : Int) < (((atM k.machines j).log.length : Nat) : Int) := by omega
        have HV : Hid (setB k = false) := by unfold Hid; rw [HS0.out, all_not hlt (by simp [hz])]; rfl
        clear hz
        generalize (atM k.machines j).log.length = ln at *
        go_wp2
        go_ret
        exact ⟨by rw [HV.out]; rfl, bstep BU.out KD.out.1⟩
    · obtain rfl : j = k.machines.length := by omega
      have hd : decide ((k.machines.length : Int) < (k.machines.length : Int)) = false := by simp
      have HS1 : Hid (setB k = (List.range k.places.length).all (setR k)) := by unfold Hid; rw [HS0.out, all_lt KD.out.2]; rfl
      have KB : Hid (Below U.heap.size U wr) := KD.out.1
      clear KD HS0
      generalize wr = W2 at *
      go_wp2
      clear q3 hd
      go_loopw [4] (fun v wr => ∃ r : Nat, r ≤ k.places.length ∧ v = .int .i64 r ∧ Below U.heap.size U wr ∧ ∀ i, i < r → setR k i = true) (fun v _ => k.places.length - (intOf v).toNat)
      case atStart => exact ⟨0, Nat.zero_le _, rfl, KB.out, fun i hi => absurd hi (by omega)⟩
      case round =>
        obtain ⟨r, hr, rfl, hbl, hall⟩ := hrel
        have KD : Hid (Below U.heap.size U wr ∧ ∀ i, i < r → setR k i = true) := ⟨hbl, hall⟩
        clear hbl hall
        have q2 := (FA.out.later KD.out.1).1 2 _ rfl
        by_cases hrl : r < k.places.length
        · obtain ⟨_, hsp⟩ := HR.out.1.p
          rcases hsp with hsp | ⟨pb, po, rfl, hpb, hpl⟩
          · omega
          obtain ⟨a', cap', hc, hsl, hcp⟩ := hpl r _ (atP_of hrl)
          have hlen := (CSm.of HK.out).ps _ (List.mem_of_getElem? (atP_of hrl))
          obtain ⟨_, hsn⟩ := hsl
          rcases hsn with hsn | ⟨b, off, rfl, hb, hns⟩
          · omega
          have e1 : wr.cell? ⟨pb, po + r, none⟩ = some (.slice (some ⟨b, off, none⟩) (atP k.places r).length cap') := (KD.out.1.cell (p := ⟨pb, po + r, none⟩) hpb).trans hc
          have HNS : Hid (NumsAt U b off (atP k.places r) ∧ b < U.heap.size) := ⟨hns, hb⟩
          have HLE : Hid (0 < (atP k.places r).length ∧ (atP k.places r).length ≤ 3) := hlen
          have jr : (r : Int) < (k.places.length : Int) := by omega
          have q0 := (FA.out.later KD.out.1).1 0 _ rfl
          have q1 := (FA.out.later KD.out.1).1 1 _ rfl
          have q3 := (FA.out.later KD.out.1).1 3 _ rfl
          have q4 := (FA.out.later KD.out.1).1 4 _ rfl
          have q5 := (FA.out.later KD.out.1).1 5 _ rfl
          have hdn := l11Down_any wr (some ⟨pb, po, none⟩) c1 (some ⟨mb, mo, none⟩) c2 a3 c3 k r HK.out hrl (HR.out.1.later KD.out.1)
          clear hc hpl hpb hcp hns hb hlen
          go_wp2_with fail
          refine hdn.mono ?_
          clear hdn e1 q0 q1 q2 q3 q4 q5
          rintro e w3 ⟨rfl, b3⟩
          have K3 : Hid (Below U.heap.size U w3) := bstep KD.out.1 b3
          clear b3
          cases hdw : downB k (atP k.places r) with
          | true =>
            have HV : Hid (setB k = false) := by unfold Hid; rw [HS1.out, all_not hrl (by rw [setR, hdw]; rfl)]
            clear hdw
            go_wp2
            go_ret
            exact ⟨by rw [HV.out]; rfl, bstep BU.out K3.out⟩
          | false =>
          have HDW := hidOf hdw
          have HSR : Hid (setR k r = (List.range (atP k.places r).length).all (goodJ k r)) := by unfold Hid; rw [setR, hdw]; rfl
          clear hdw
          obtain ⟨i, t, hi, him, hit, htl, hzc, h6⟩ := clu_cell HK.out hrl (j := 0) HLE.out.1 HDW.out
          obtain ⟨⟨m0, m1, m2, m3, m4, m5⟩, hmel, hmr⟩ := HMR.out i _ (atM_of him)
          have g0 : U.cell? ⟨mb, mo + i * 4, none⟩ = some (.bool (atM k.machines i).alive) := hmel 0 _ rfl
          have g1 : U.cell? ⟨mb, mo + i * 4 + 1, none⟩ = some (.slice m0 (atM k.machines i).copies.length m1) := hmel 1 _ rfl
          have g2 : U.cell? ⟨mb, mo + i * 4 + 2, none⟩ = some (.slice m2 (atM k.machines i).log.length m3) := hmel 2 _ rfl
          have g3 : U.cell? ⟨mb, mo + i * 4 + 3, none⟩ = some (.slice m4 (atM k.machines i).cleared.length m5) := hmel 3 _ rfl
          have HMA : Hid (ML (atM k.machines i) ∧ SlM U ⟨m0, m1, m2, m3, m4, m5⟩ (atM k.machines i)) := ⟨HR.out.2.ms _ (List.mem_of_getElem? (atM_of him)), hmr⟩
          obtain ⟨_, hkk⟩ := HMA.out.2.k
          rcases hkk with hkk | ⟨cb, co, hce, hcb, hkc⟩
          · omega
          have hce' : m0 = some ⟨cb, co, none⟩ := hce
          subst hce'
          obtain ⟨caA, ccA, hcc, hsc, -⟩ := (hkc t _ (atK_of htl)).c1
          rw [h6] at hcc hsc
          have HCA : Hid (U.cell? ⟨cb, co + t * 2 + 1, none⟩ = some (.slice caA 6 ccA) ∧ cb < U.heap.size ∧ SlC U U.heap.size caA 6 (atK (atM k.machines i).copies t).cells) := ⟨hcc, hcb, hsc⟩
          have HIA : Hid (idxC (atM k.machines i) (r : Int) = (t : Int) ∧ t < (atM k.machines i).copies.length) := ⟨hit, htl⟩
          have HZA : Hid (zcC k r (atN (atP k.places r) 0) = (atK (atM k.machines i).copies t).cells) := hzc
          have hck : U.cell? ⟨b, off, none⟩ = some (.int .i64 (i : Int)) := by have := HNS.out.1 0 _ (atN_of HLE.out.1); rw [hi, Nat.add_zero] at this; exact this
          have im : (i : Int) < (k.machines.length : Int) := by omega
          have zl : (0 : Int) < ((atP k.places r).length : Int) := by have := HLE.out.1; omega
          have z0n : 0 < (atP k.places r).length := HLE.out.1
          clear hmel hmr hkc hcc hsc hcb hit htl hzc h6 hi
          generalize hzz : (atP k.places r).length = nz at *
          have HZZ := hidOf hzz
          clear hzz
          go_wp2_with fail
          refine wp_region_until 8 (fun X : World => Below w3.heap.size w3 X) (by kernel_rfl) ?_
          have hSX : (fun X : World => Below w3.heap.size w3 X) w3.drew := (Below.refl _ _).drew
          have KS := hidOf hSX
          generalize w3.drew = XD at *
          refine wpUntil_take (i := 0) (v := ?_) rfl (by kernel_rfl) (fun _ _ _ h => h) (Or.inl ⟨by rfl, ?_⟩) hSX ?_
          rotate_left
          · (intro w hSw; go_simp; first | done | with_reducible rfl | rfl | (rw [if_pos (by omega)]))
          simp only [Act.put]
          refine wpUntil_take (i := 1) (v := ?_) rfl (by kernel_rfl) (fun _ _ _ h => h) (Or.inl ⟨by rfl, ?_⟩) hSX ?_
          rotate_left
          · (intro w hSw; have q := (FA.out.later (bstep K3.out hSw)).1 3 _ rfl; go_simp; first | done | with_reducible rfl | rfl | (rw [if_pos (by omega)]))
          simp only [Act.put]
          refine wpUntil_take (i := 2) (v := ?_) rfl (by kernel_rfl) (fun _ _ _ h => h) (Or.inl ⟨by rfl, ?_⟩) hSX ?_
          rotate_left
          · (intro w hSw; go_simp; first | done | with_reducible rfl | rfl | (rw [if_pos (by omega)]))
          simp only [Act.put]
          refine wpUntil_take (i := 3) (v := ?_) rfl (by kernel_rfl) (fun _ _ _ h => h) (Or.inl ⟨by rfl, ?_⟩) hSX ?_
          rotate_left
          · (intro w hSw; go_simp; first | done | with_reducible rfl | rfl | (rw [if_pos (by omega)]))
          simp only [Act.put]
          refine wpUntil_take (i := 4) (v := ?_) rfl (by kernel_rfl) (fun _ _ _ h => h) (Or.inl ⟨by rfl, ?_⟩) hSX ?_
          rotate_left
          · (intro w hSw; have q := ((bstep K3.out hSw).cell (p := ⟨b, off, none⟩) HNS.out.2).trans hck; go_simp; first | done | with_reducible rfl | rfl | (rw [if_pos (by omega)]))
          simp only [Act.put]
          refine wpUntil_take (i := 5) (v := ?_) rfl (by kernel_rfl) (fun _ _ _ h => h) (Or.inl ⟨by rfl, ?_⟩) hSX ?_
          rotate_left
          · (intro w hSw; go_simp; first | done | with_reducible rfl | rfl | (rw [if_pos (by omega)]))
          simp only [Act.put]
          refine wpUntil_take (i := 6) (v := ?_) rfl (by kernel_rfl) (fun _ _ _ h => h) (Or.inl ⟨by rfl, ?_⟩) hSX ?_
          rotate_left
          · (intro w hSw; have q0 := ((bstep K3.out hSw).cell (p := ⟨mb, mo + i * 4, none⟩) HMX.out).trans g0; have q1 := ((bstep K3.out hSw).cell (p := ⟨mb, mo + i * 4 + 1, none⟩) HMX.out).trans g1; have q2 := ((bstep K3.out hSw).cell (p := ⟨mb, mo + i * 4 + 2, none⟩) HMX.out).trans g2; have q3 := ((bstep K3.out hSw).cell (p := ⟨mb, mo + i * 4 + 3, none⟩) HMX.out).trans g3; go_simp; first | done | with_reducible rfl | rfl | (rw [if_pos (by omega)]))
          simp only [Act.put]
          refine wpUntil_ready (rs := [7]) (by kernel_rfl) (by simp) ?_
          refine AllU.cons rfl (fun K hK => ?_) AllU.nil
          obtain ⟨Y, hY⟩ : ∃ Y, Y = XD.alloc (.cells #[.bool false, .slice none 0 0, .slice none 0 0, .slice none 0 0] 63) := ⟨_, rfl⟩
          have bY : Below XD.heap.size XD Y := by rw [hY]; exact (Below.refl _ _).alloc (Nat.le_refl _) _
          have xY : Bx Y XD.heap.size [.bool false, .slice none 0 0, .slice none 0 0, .slice none 0 0] := by rw [hY]; exact Bx.made XD [.bool false, .slice none 0 0, .slice none 0 0, .slice none 0 0] _
          have hSY : (fun X : World => Below w3.heap.size w3 X) Y := bstep hSX bY
          have y0 := xY.1 0 _ rfl
          have y1 := xY.1 1 _ rfl
          have y2 := xY.1 2 _ rfl
          have y3 := xY.1 3 _ rfl
          have f0 := xY.2.1 0
          have f1 := xY.2.1 1
          have f2 := xY.2.1 2
          have f3 := xY.2.1 3
          obtain ⟨VA, hV⟩ : ∃ V, V = putB Y XD.heap.size 0 [.bool (atM k.machines i).alive, .slice (some ⟨cb, co, none⟩) (atM k.machines i).copies.length m1, .slice m2 (atM k.machines i).log.length m3, .slice m4 (atM k.machines i).cleared.length m5] := ⟨_, rfl⟩
          have KVA : Hid (Bx VA XD.heap.size [.bool (atM k.machines i).alive, .slice (some ⟨cb, co, none⟩) (atM k.machines i).copies.length m1, .slice m2 (atM k.machines i).log.length m3, .slice m4 (atM k.machines i).cleared.length m5] ∧ Below U.heap.size U VA ∧ Below w3.heap.size w3 VA) := by
            rw [hV]
            have bb := putB_below (w := w3) KS.out.size [.bool (atM k.machines i).alive, .slice (some ⟨cb, co, none⟩) (atM k.machines i).copies.length m1, .slice m2 (atM k.machines i).log.length m3, .slice m4 (atM k.machines i).cleared.length m5] Y 0 hSY
            exact ⟨xY.put [.bool (atM k.machines i).alive, .slice (some ⟨cb, co, none⟩) (atM k.machines i).copies.length m1, .slice m2 (atM k.machines i).log.length m3, .slice m4 (atM k.machines i).cleared.length m5] rfl, bstep K3.out bb, bb⟩
          simp only [putB] at hV
          go_simp
          rw [← hY]
          refine hK.out _ _ (fun _ => hSY) ?_
          clear hK K hSX bY xY hY
          refine wpUntil_ready (rs := [8]) (by kernel_rfl) (by simp) ?_
          refine AllU.cons rfl (fun K hK => ?_) AllU.nil
          go_simp
          rw [← hV]
          refine hK.out _ _ (fun h => absurd rfl h) ?_
          clear hK K hSY y0 y1 y2 y3 f0 f1 f2 f3 hV KS
          refine wpUntil_done (by kernel_rfl) ?_ _
          generalize XD.heap.size = sA at *
          clear hck g0 g1 g2 g3 im zl z0n
          have z0 : ∀ dd os, (grow (redrawn VA dd) os).cell? ⟨sA, 0, none⟩ = some (.bool (atM k.machines i).alive) := fun dd os => ((below_regrown VA dd os).cell (p := ⟨sA, 0, none⟩) KVA.out.1.2.2).trans (KVA.out.1.1 0 _ rfl)
          have z1 : ∀ dd os, (grow (redrawn VA dd) os).cell? ⟨sA, 1, none⟩ = some (.slice (some ⟨cb, co, none⟩) (atM k.machines i).copies.length m1) := fun dd os => ((below_regrown VA dd os).cell (p := ⟨sA, 1, none⟩) KVA.out.1.2.2).trans (KVA.out.1.1 1 _ rfl)
          have z2 : ∀ dd os, (grow (redrawn VA dd) os).cell? ⟨sA, 2, none⟩ = some (.slice m2 (atM k.machines i).log.length m3) := fun dd os => ((below_regrown VA dd os).cell (p := ⟨sA, 2, none⟩) KVA.out.1.2.2).trans (KVA.out.1.1 2 _ rfl)
          have z3 : ∀ dd os, (grow (redrawn VA dd) os).cell? ⟨sA, 3, none⟩ = some (.slice m4 (atM k.machines i).cleared.length m5) := fun dd os => ((below_regrown VA dd os).cell (p := ⟨sA, 3, none⟩) KVA.out.1.2.2).trans (KVA.out.1.1 3 _ rfl)
          have zc : ∀ dd os, (grow (redrawn VA dd) os).cell? ⟨cb, co + t * 2 + 1, none⟩ = some (.slice caA 6 ccA) := fun dd os => ((bstep KVA.out.2.1 (below_regrown VA dd os)).cell (p := ⟨cb, co + t * 2 + 1, none⟩) HCA.out.2.1).trans HCA.out.1
          have cQ : ∀ dd os, Calls Tryz.prog 33 #[.agg #[.bool (atM k.machines i).alive, .slice (some ⟨cb, co, none⟩) (atM k.machines i).copies.length m1, .slice m2 (atM k.machines i).log.length m3, .slice m4 (atM k.machines i).cleared.length m5], .int .i64 (r : Int)] (grow (redrawn VA dd) os) fun e w'' => e = .returned (.int .i64 (t : Int)) ∧ ∃ p : Regrown, w'' = grow (redrawn VA p.d) p.os := fun dd os => Calls.regrown_of (by
            have := l6At_v (grow (redrawn VA dd) os) (some ⟨cb, co, none⟩) m1 m2 m3 m4 m5 (atM k.machines i) (r : Int) HMA.out.1 (HMA.out.2.later (bstep KVA.out.2.1 (below_regrown VA dd os)))
            rw [HIA.out.1] at this
            exact this)
          have it : (t : Int) < ((atM k.machines i).copies.length : Int) := by have := HIA.out.2; omega
          go_wp2_with fail
          refine wp_region_quiet_below (by kernel_rfl) (by kernel_rfl) ?_
          repeat (go_big_quiet_step (exact cQ _ _))
          refine wpQuiet_nil ?_
          intro _ hw'
          obtain ⟨⟨dq, osq⟩, hw''⟩ := hw'
          subst hw''
          have KWA : Hid (Below U.heap.size U (grow (redrawn VA dq) osq)) := bstep KVA.out.2.1 (below_regrown VA dq osq)
          clear z0 z1 z2 z3 zc cQ it
          generalize grow (redrawn VA dq) osq = WA at *
          have HXA : Hid (SlC U U.heap.size caA 6 (zcC k r (atN (atP k.places r) 0))) := by unfold Hid; rw [HZA.out]; exact HCA.out.2.2
          clear KVA HMA HIA HCA HZA him K3
          generalize sA = sX at *
          go_wp2
          go_loopw [8] (fun v wr => ∃ q : Nat, q ≤ nz ∧ v = .int .i64 q ∧ Below U.heap.size U wr ∧ ∀ i, i < q → goodJ k r i = true) (fun v _ => nz - (intOf v).toNat)
          case atStart => exact ⟨0, Nat.zero_le _, rfl, KWA.out, fun i hi => absurd hi (by omega)⟩
          case round =>
            obtain ⟨q, hq, rfl, hbl, hall⟩ := hrel
            have KQ : Hid (Below U.heap.size U wr ∧ ∀ i, i < q → goodJ k r i = true) := ⟨hbl, hall⟩
            have KQ1 : Hid (Below U.heap.size U wr) := hbl
            clear hbl hall
            have hnz := HLE.out.2
            by_cases hql : q < nz
            · have hqz : q < (atP k.places r).length := by rw [HZZ.out]; exact hql
              obtain ⟨i2, t2, hi, him, hit, htl, hzc, h6⟩ := clu_cell HK.out hrl (j := q) hqz HDW.out
              obtain ⟨⟨n0, n1, n2, n3, n4, n5⟩, hmel, hmr⟩ := HMR.out i2 _ (atM_of him)
              have e0 : U.cell? ⟨mb, mo + i2 * 4, none⟩ = some (.bool (atM k.machines i2).alive) := hmel 0 _ rfl
              have e1 : U.cell? ⟨mb, mo + i2 * 4 + 1, none⟩ = some (.slice n0 (atM k.machines i2).copies.length n1) := hmel 1 _ rfl
              have e2 : U.cell? ⟨mb, mo + i2 * 4 + 2, none⟩ = some (.slice n2 (atM k.machines i2).log.length n3) := hmel 2 _ rfl
              have e3 : U.cell? ⟨mb, mo + i2 * 4 + 3, none⟩ = some (.slice n4 (atM k.machines i2).cleared.length n5) := hmel 3 _ rfl
              have HMB : Hid (ML (atM k.machines i2) ∧ SlM U ⟨n0, n1, n2, n3, n4, n5⟩ (atM k.machines i2)) := ⟨HR.out.2.ms _ (List.mem_of_getElem? (atM_of him)), hmr⟩
              obtain ⟨_, hkk⟩ := HMB.out.2.k
              rcases hkk with hkk | ⟨db, do_, hce, hcb, hkc⟩
              · omega
              have hce' : n0 = some ⟨db, do_, none⟩ := hce
              subst hce'
              obtain ⟨caB, ccB, hcc, hsc, -⟩ := (hkc t2 _ (atK_of htl)).c1
              rw [h6] at hcc hsc
              have HCB : Hid (U.cell? ⟨db, do_ + t2 * 2 + 1, none⟩ = some (.slice caB 6 ccB) ∧ db < U.heap.size ∧ SlC U U.heap.size caB 6 (atK (atM k.machines i2).copies t2).cells) := ⟨hcc, hcb, hsc⟩
              have HIB : Hid (idxC (atM k.machines i2) (r : Int) = (t2 : Int) ∧ t2 < (atM k.machines i2).copies.length) := ⟨hit, htl⟩
              have HZB : Hid (zcC k r (atN (atP k.places r) q) = (atK (atM k.machines i2).copies t2).cells) := hzc
              have hck : U.cell? ⟨b, off + q, none⟩ = some (.int .i64 (i2 : Int)) := by have := HNS.out.1 q _ (atN_of hqz); rw [hi] at this; exact this
              have im : (i2 : Int) < (k.machines.length : Int) := by omega
              have zl : (q : Int) < (nz : Int) := by omega
              clear hmel hmr hkc hcc hsc hcb hit htl hzc h6 hi him hqz
              generalize wr = W5 at *
              go_wp2_with fail
              refine wp_region_until 9 (fun X : World => Below W5.heap.size W5 X) (by kernel_rfl) ?_
              have hSX : (fun X : World => Below W5.heap.size W5 X) W5.drew := (Below.refl _ _).drew
              have KS := hidOf hSX
              generalize W5.drew = XD at *
              refine wpUntil_take (i := 0) (v := ?_) rfl (by kernel_rfl) (fun _ _ _ h => h) (Or.inl ⟨by rfl, ?_⟩) hSX ?_
              rotate_left
              · (intro w hSw; go_simp; first | done | with_reducible rfl | rfl | (rw [if_pos (by omega)]))
              simp only [Act.put]
              refine wpUntil_take (i := 1) (v := ?_) rfl (by kernel_rfl) (fun _ _ _ h => h) (Or.inl ⟨by rfl, ?_⟩) hSX ?_
              rotate_left
              · (intro w hSw; have q := (FA.out.later (bstep KQ1.out hSw)).1 3 _ rfl; go_simp; first | done | with_reducible rfl | rfl | (rw [if_pos (by omega)]))
              simp only [Act.put]
              refine wpUntil_take (i := 2) (v := ?_) rfl (by kernel_rfl) (fun _ _ _ h => h) (Or.inl ⟨by rfl, ?_⟩) hSX ?_
              rotate_left
              · (intro w hSw; go_simp; first | done | with_reducible rfl | rfl | (rw [if_pos (by omega)]))
              simp only [Act.put]
              refine wpUntil_take (i := 3) (v := ?_) rfl (by kernel_rfl) (fun _ _ _ h => h) (Or.inl ⟨by rfl, ?_⟩) hSX ?_
              rotate_left
              · (intro w hSw; go_simp; first | done | with_reducible rfl | rfl | (rw [if_pos (by omega)]))
              simp only [Act.put]
              refine wpUntil_take (i := 4) (v := ?_) rfl (by kernel_rfl) (fun _ _ _ h => h) (Or.inl ⟨by rfl, ?_⟩) hSX ?_
              rotate_left
              · (intro w hSw; go_simp; first | done | with_reducible rfl | rfl | (rw [if_pos (by omega)]))
              simp only [Act.put]
              refine wpUntil_take (i := 5) (v := ?_) rfl (by kernel_rfl) (fun _ _ _ h => h) (Or.inl ⟨by rfl, ?_⟩) hSX ?_
              rotate_left
              · (intro w hSw; have q := ((bstep KQ1.out hSw).cell (p := ⟨b, off + q, none⟩) HNS.out.2).trans hck; go_simp; first | done | with_reducible rfl | rfl | (rw [if_pos (by omega)]))
              simp only [Act.put]
              refine wpUntil_take (i := 6) (v := ?_) rfl (by kernel_rfl) (fun _ _ _ h => h) (Or.inl ⟨by rfl, ?_⟩) hSX ?_
              rotate_left
              · (intro w hSw; go_simp; first | done | with_reducible rfl | rfl | (rw [if_pos (by omega)]))
              simp only [Act.put]
              refine wpUntil_take (i := 7) (v := ?_) rfl (by kernel_rfl) (fun _ _ _ h => h) (Or.inl ⟨by rfl, ?_⟩) hSX ?_
              rotate_left
              · (intro w hSw; have q0 := ((bstep KQ1.out hSw).cell (p := ⟨mb, mo + i2 * 4, none⟩) HMX.out).trans e0; have q1 := ((bstep KQ1.out hSw).cell (p := ⟨mb, mo + i2 * 4 + 1, none⟩) HMX.out).trans e1; have q2 := ((bstep KQ1.out hSw).cell (p := ⟨mb, mo + i2 * 4 + 2, none⟩) HMX.out).trans e2; have q3 := ((bstep KQ1.out hSw).cell (p := ⟨mb, mo + i2 * 4 + 3, none⟩) HMX.out).trans e3; go_simp; first | done | with_reducible rfl | rfl | (rw [if_pos (by omega)]))
              simp only [Act.put]
              refine wpUntil_ready (rs := [8]) (by kernel_rfl) (by simp) ?_
              refine AllU.cons rfl (fun K hK => ?_) AllU.nil
              obtain ⟨Y, hY⟩ : ∃ Y, Y = XD.alloc (.cells #[.bool false, .slice none 0 0, .slice none 0 0, .slice none 0 0] 63) := ⟨_, rfl⟩
              have bY : Below XD.heap.size XD Y := by rw [hY]; exact (Below.refl _ _).alloc (Nat.le_refl _) _
              have xY : Bx Y XD.heap.size [.bool false, .slice none 0 0, .slice none 0 0, .slice none 0 0] := by rw [hY]; exact Bx.made XD [.bool false, .slice none 0 0, .slice none 0 0, .slice none 0 0] _
              have hSY : (fun X : World => Below W5.heap.size W5 X) Y := bstep hSX bY
              have y0 := xY.1 0 _ rfl
              have y1 := xY.1 1 _ rfl
              have y2 := xY.1 2 _ rfl
              have y3 := xY.1 3 _ rfl
              have f0 := xY.2.1 0
              have f1 := xY.2.1 1
              have f2 := xY.2.1 2
              have f3 := xY.2.1 3
              obtain ⟨VB, hV⟩ : ∃ V, V = putB Y XD.heap.size 0 [.bool (atM k.machines i2).alive, .slice (some ⟨db, do_, none⟩) (atM k.machines i2).copies.length n1, .slice n2 (atM k.machines i2).log.length n3, .slice n4 (atM k.machines i2).cleared.length n5] := ⟨_, rfl⟩
              have KVB : Hid (Bx VB XD.heap.size [.bool (atM k.machines i2).alive, .slice (some ⟨db, do_, none⟩) (atM k.machines i2).copies.length n1, .slice n2 (atM k.machines i2).log.length n3, .slice n4 (atM k.machines i2).cleared.length n5] ∧ Below U.heap.size U VB ∧ Below W5.heap.size W5 VB) := by
                rw [hV]
                have bb := putB_below (w := W5) KS.out.size [.bool (atM k.machines i2).alive, .slice (some ⟨db, do_, none⟩) (atM k.machines i2).copies.length n1, .slice n2 (atM k.machines i2).log.length n3, .slice n4 (atM k.machines i2).cleared.length n5] Y 0 hSY
                exact ⟨xY.put [.bool (atM k.machines i2).alive, .slice (some ⟨db, do_, none⟩) (atM k.machines i2).copies.length n1, .slice n2 (atM k.machines i2).log.length n3, .slice n4 (atM k.machines i2).cleared.length n5] rfl, bstep KQ1.out bb, bb⟩
              simp only [putB] at hV
              go_simp
              rw [← hY]
              refine hK.out _ _ (fun _ => hSY) ?_
              clear hK K hSX bY xY hY
              refine wpUntil_ready (rs := [9]) (by kernel_rfl) (by simp) ?_
              refine AllU.cons rfl (fun K hK => ?_) AllU.nil
              go_simp
              rw [← hV]
              refine hK.out _ _ (fun h => absurd rfl h) ?_
              clear hK K hSY y0 y1 y2 y3 f0 f1 f2 f3 hV KS
              refine wpUntil_done (by kernel_rfl) ?_ _
              generalize XD.heap.size = sB at *
              clear hck e0 e1 e2 e3 im
              have z0 : ∀ dd os, (grow (redrawn VB dd) os).cell? ⟨sB, 0, none⟩ = some (.bool (atM k.machines i2).alive) := fun dd os => ((below_regrown VB dd os).cell (p := ⟨sB, 0, none⟩) KVB.out.1.2.2).trans (KVB.out.1.1 0 _ rfl)
              have z1 : ∀ dd os, (grow (redrawn VB dd) os).cell? ⟨sB, 1, none⟩ = some (.slice (some ⟨db, do_, none⟩) (atM k.machines i2).copies.length n1) := fun dd os => ((below_regrown VB dd os).cell (p := ⟨sB, 1, none⟩) KVB.out.1.2.2).trans (KVB.out.1.1 1 _ rfl)
              have z2 : ∀ dd os, (grow (redrawn VB dd) os).cell? ⟨sB, 2, none⟩ = some (.slice n2 (atM k.machines i2).log.length n3) := fun dd os => ((below_regrown VB dd os).cell (p := ⟨sB, 2, none⟩) KVB.out.1.2.2).trans (KVB.out.1.1 2 _ rfl)
              have z3 : ∀ dd os, (grow (redrawn VB dd) os).cell? ⟨sB, 3, none⟩ = some (.slice n4 (atM k.machines i2).cleared.length n5) := fun dd os => ((below_regrown VB dd os).cell (p := ⟨sB, 3, none⟩) KVB.out.1.2.2).trans (KVB.out.1.1 3 _ rfl)
              have zc : ∀ dd os, (grow (redrawn VB dd) os).cell? ⟨db, do_ + t2 * 2 + 1, none⟩ = some (.slice caB 6 ccB) := fun dd os => ((bstep KVB.out.2.1 (below_regrown VB dd os)).cell (p := ⟨db, do_ + t2 * 2 + 1, none⟩) HCB.out.2.1).trans HCB.out.1
              have cQ : ∀ dd os, Calls Tryz.prog 33 #[.agg #[.bool (atM k.machines i2).alive, .slice (some ⟨db, do_, none⟩) (atM k.machines i2).copies.length n1, .slice n2 (atM k.machines i2).log.length n3, .slice n4 (atM k.machines i2).cleared.length n5], .int .i64 (r : Int)] (grow (redrawn VB dd) os) fun e w'' => e = .returned (.int .i64 (t2 : Int)) ∧ ∃ p : Regrown, w'' = grow (redrawn VB p.d) p.os := fun dd os => Calls.regrown_of (by
                have := l6At_v (grow (redrawn VB dd) os) (some ⟨db, do_, none⟩) n1 n2 n3 n4 n5 (atM k.machines i2) (r : Int) HMB.out.1 (HMB.out.2.later (bstep KVB.out.2.1 (below_regrown VB dd os)))
                rw [HIB.out.1] at this
                exact this)
              have it : (t2 : Int) < ((atM k.machines i2).copies.length : Int) := by have := HIB.out.2; omega
              go_wp2_with fail
              refine wp_region_quiet_below (by kernel_rfl) (by kernel_rfl) ?_
              repeat (go_big_quiet_step (exact cQ _ _))
              refine wpQuiet_nil ?_
              intro _ hw'
              obtain ⟨⟨dq, osq⟩, hw''⟩ := hw'
              subst hw''
              have KWB : Hid (Below U.heap.size U (grow (redrawn VB dq) osq)) := bstep KVB.out.2.1 (below_regrown VB dq osq)
              clear z0 z1 z2 z3 zc cQ it
              generalize grow (redrawn VB dq) osq = WB at *
              have HXB : Hid (SlC U U.heap.size caB 6 (zcC k r (atN (atP k.places r) q))) := by unfold Hid; rw [HZB.out]; exact HCB.out.2.2
              have hsame := l12Same_any WB caA caB ccA ccB _ _ (HXA.out.later KWB.out) (HXB.out.later KWB.out)
              clear KVB HIB HCB HZB KQ1
              generalize sB = sY at *
              go_wp2_with fail
              refine hsame.mono ?_
              clear hsame
              rintro e WC ⟨rfl, bC⟩
              have KC : Hid (Below U.heap.size U WC) := bstep KWB.out bC
              have HBAD : Hid (goodJ k r q = false → setB k = false) := fun hb => by rw [HS1.out, all_not hrl (by rw [HSR.out]; exact all_not hql hb)]
              clear bC KWB
              cases hsm : samB (zcC k r (atN (atP k.places r) 0)) (zcC k r (atN (atP k.places r) q)) with
              | false =>
                have HV : Hid (setB k = false) := HBAD.out (by rw [goodJ, hsm]; rfl)
                clear hsm
                go_wp2
                go_ret
                exact ⟨by rw [HV.out]; rfl, bstep BU.out KC.out⟩
              | true =>
              have HGJ : Hid (goodJ k r q = !lokB (zcC k r (atN (atP k.places r) q))) := by unfold Hid; rw [goodJ, hsm]; rfl
              clear hsm
              obtain ⟨l6, hx6⟩ := HXB.out
              rcases hx6 with hx6 | ⟨xb, xo, rfl, hxb, hxc⟩
              · omega
              have HXC : Hid (CellsAt U xb xo (zcC k r (atN (atP k.places r) q)) ∧ xb < U.heap.size ∧ (zcC k r (atN (atP k.places r) q)).length = 6) := ⟨hxc, hxb, l6⟩
              clear l6 hxb hxc HXB
              obtain ⟨xs, hxs⟩ : ∃ xs, zcC k r (atN (atP k.places r) q) = xs := ⟨_, rfl⟩
              rw [hxs] at HGJ HXC
              clear hxs
              go_wp2
              go_loopw [11] (fun v wr => ∃ s : Nat, s ≤ 6 ∧ v = .int .i64 s ∧ Below U.heap.size U wr ∧ ∀ i, i < s → (inB 0 4000003 (atC2 xs i).head && lockedB (atC2 xs i).head) = false) (fun v _ => 6 - (intOf v).toNat)
              case atStart => exact ⟨0, Nat.zero_le _, rfl, KC.out, fun i hi => absurd hi (by omega)⟩
              case round =>
                obtain ⟨s, hs, rfl, hbl, hall⟩ := hrel
                have KS : Hid (Below U.heap.size U wr ∧ ∀ i, i < s → (inB 0 4000003 (atC2 xs i).head && lockedB (atC2 xs i).head) = false) := ⟨hbl, hall⟩
                clear hbl hall
                by_cases hsl : s < 6
                · have c0 := (KS.out.1.cell (p := ⟨xb, xo + s * 2, none⟩) HXC.out.2.1).trans (HXC.out.1 s _ (atC2_of (by rw [HXC.out.2.2]; exact hsl))).c0
                  have js : (s : Int) < 6 := by omega
                  have hlk := specLocked_any (atC2 xs s).head wr
                  obtain ⟨d, hd⟩ : ∃ d, (inB 0 4000003 (atC2 xs s).head && lockedB (atC2 xs s).head) = d := ⟨_, rfl⟩
                  rw [hd] at hlk
                  have HD := hidOf hd
                  clear hd
                  obtain ⟨hh, hhe⟩ : ∃ z, (atC2 xs s).head = z := ⟨_, rfl⟩
                  rw [hhe] at hlk c0
                  clear hhe
                  go_wp2_with fail
                  refine hlk.mono ?_
                  clear hlk c0
                  rintro e w9 ⟨rfl, hw9⟩
                  subst hw9
                  cases d with
                  | true =>
                    have HV : Hid (setB k = false) := HBAD.out (by rw [HGJ.out, lokB_yes hsl HD.out]; rfl)
                    go_wp2
                    go_ret
                    exact ⟨by rw [HV.out]; rfl, bstep BU.out KS.out.1⟩
                  | false =>
                    have HN : Hid (∀ i, i < s + 1 → (inB 0 4000003 (atC2 xs i).head && lockedB (atC2 xs i).head) = false) := fun i hi => by
                      by_cases e : i = s
                      · rw [e]; exact HD.out
                      · exact KS.out.2 i (by omega)
                    go_wp2
                    exact ⟨⟨s + 1, by omega, by simp, KS.out.1, HN.out⟩, by simp [intOf]; omega⟩
                · obtain rfl : s = 6 := by omega
                  have HG : Hid (∀ i, i < q + 1 → goodJ k r i = true) := fun i hi => by
                    by_cases e : i = q
                    · rw [e, HGJ.out, lokB_no KS.out.2]; rfl
                    · exact KQ.out.2 i (by omega)
                  go_wp2
                  exact ⟨⟨q + 1, by omega, by simp, KS.out.1, HG.out⟩, by simp [intOf]; omega⟩
            · obtain rfl : q = nz := by omega
              have hd : decide ((q : Int) < (q : Int)) = false := by simp
              have HG : Hid (∀ i, i < r + 1 → setR k i = true) := fun i hi => by
                by_cases e : i = r
                · rw [e, HSR.out]; exact all_lt KQ.out.2
                · exact KD.out.2 i (by omega)
              go_wp2
              exact ⟨⟨r + 1, by omega, by simp, KQ.out.1, HG.out⟩, by simp [intOf]; omega⟩
        · obtain rfl : r = k.places.length := by omega
          have hd : decide ((k.places.length : Int) < (k.places.length : Int)) = false := by simp
          have HV : Hid (setB k = true) := by unfold Hid; rw [HS1.out]; exact all_lt KD.out.2
          go_wp2
          go_ret
          exact ⟨by rw [HV.out]; rfl, bstep BU.out KD.out.1⟩
end Go.Proofs.YtphpcgmnljhimaaGreat
namespace Go.Proofs.YtphpcgmnljhimaaGreat
theorem run_copy_wide {P : Program} (w : World) (dT sT ty elem : TypeId) (g o dLen dCap : Nat) (a : Addr) (sLen sCap : Nat) (cur : Array Value) (t : TypeId) (cs : List Value) (sz : Nat)
    (hu : P.underlying dT = some (.slice elem)) (hs : (P.info? elem).map (·.size) = some sz)
    (hg : w.heap[g]? = some (.cells cur t (0, 0))) (hn : cs.length = Nat.min sLen dLen * sz)
    (hsrc : ∀ j v, cs[j]? = some v → w.cell? (a.add j) = some v) (hfit : o + cs.length ≤ cur.size) (h1 : ∀ v ∈ cs, v.oneCell' = true) :
    (Builtin.copy_ #[dT, sT] ty #[.slice (some ⟨g, o, none⟩) dLen dCap, .slice (some a) sLen sCap]).run P w =
      .ok (goInt (Nat.min sLen dLen)) (w.setRow g (cur.toList.take o ++ cs ++ cur.toList.drop (o + cs.length)).toArray) := by
  have hl := run_loadCells_list (P := P) w a cs hsrc
  have hst := run_storeCells_at P g o t cs 0 cur w hg (by simpa using hfit) h1
  cases hq : P.info? elem with
  | none => simp [hq] at hs
  | some i =>
    have hi : i.size = sz := by simpa [hq] using hs
    simp [Builtin.copy_, run_underlying hu, Builtin.lenOf, Builtin.firstCells, sizeOf, typeInfo, hq, hi, ← hn, hl, hst]
end Go.Proofs.YtphpcgmnljhimaaGreat
namespace Go.Proofs.YtphpcgmnljhimaaGreat
open Go.RowKit
theorem six_of {xs : List C2} (h : xs.length = 6) : ∃ a b c d e f : C2, xs = [a, b, c, d, e, f] := by
  match xs, h with
  | [a, b, c, d, e, f], _ => exact ⟨a, b, c, d, e, f, rfl⟩
def arr6 (xs : List C2) : Array Value := (xs.flatMap C2.cells).toArray
theorem eqCell_at (d : Nat) (a b c e : Int) (w : World) : (Op.equalIn (d + 2) 72 (.agg #[.int .i64 a, .int .i64 b]) (.agg #[.int .i64 c, .int .i64 e])).run Tryz.prog w = .ok (a == c && b == e) w := by
  have hS : Tryz.prog.underlying 72 = some (.struct (Tryz.prog.fieldsOf 72)) := by kernel_rfl
  have hp : Tryz.prog.stoodInHeld 72 = false := by kernel_rfl
  rw [run_equalIn_agg w (d + 1) 72 _ _ hS hp]
  simp only [Program.fieldsOf, Tryz.underlying72]
  go_simp
  by_cases h1 : a = c <;> by_cases h2 : b = e <;> simp [h1, h2]
theorem part_cell (a b c d e f g h i j k l : Int) (w : World) :
    (part 72 #[.int .i64 a, .int .i64 b, .int .i64 c, .int .i64 d, .int .i64 e, .int .i64 f, .int .i64 g, .int .i64 h, .int .i64 i, .int .i64 j, .int .i64 k, .int .i64 l] 0).run Tryz.prog w = .ok (.agg #[.int .i64 a, .int .i64 b]) w ∧
    (part 72 #[.int .i64 a, .int .i64 b, .int .i64 c, .int .i64 d, .int .i64 e, .int .i64 f, .int .i64 g, .int .i64 h, .int .i64 i, .int .i64 j, .int .i64 k, .int .i64 l] 2).run Tryz.prog w = .ok (.agg #[.int .i64 c, .int .i64 d]) w ∧
    (part 72 #[.int .i64 a, .int .i64 b, .int .i64 c, .int .i64 d, .int .i64 e, .int .i64 f, .int .i64 g, .int .i64 h, .int .i64 i, .int .i64 j, .int .i64 k, .int .i64 l] 4).run Tryz.prog w = .ok (.agg #[.int .i64 e, .int .i64 f]) w ∧
    (part 72 #[.int .i64 a, .int .i64 b, .int .i64 c, .int .i64 d, .int .i64 e, .int .i64 f, .int .i64 g, .int .i64 h, .int .i64 i, .int .i64 j, .int .i64 k, .int .i64 l] 6).run Tryz.prog w = .ok (.agg #[.int .i64 g, .int .i64 h]) w ∧
    (part 72 #[.int .i64 a, .int .i64 b, .int .i64 c, .int .i64 d, .int .i64 e, .int .i64 f, .int .i64 g, .int .i64 h, .int .i64 i, .int .i64 j, .int .i64 k, .int .i64 l] 8).run Tryz.prog w = .ok (.agg #[.int .i64 i, .int .i64 j]) w ∧
    (part 72 #[.int .i64 a, .int .i64 b, .int .i64 c, .int .i64 d, .int .i64 e, .int .i64 f, .int .i64 g, .int .i64 h, .int .i64 i, .int .i64 j, .int .i64 k, .int .i64 l] 10).run Tryz.prog w = .ok (.agg #[.int .i64 k, .int .i64 l]) w := by
  refine ⟨?_, ?_, ?_, ?_, ?_, ?_⟩ <;> kernel_rfl
theorem info_cellT : ∃ i, Tryz.prog.info? 72 = some i := by
  have h := info_cell
  cases hq : Tryz.prog.info? 72 with
  | none => rw [hq] at h; cases h
  | some i => exact ⟨i, rfl⟩
theorem eqItems_cons {i : Nat} {is : List Nat} {X Y : Array Value} {a b c d : Int} {w : World} (hp : (part 72 X (i * 2)).run Tryz.prog w = .ok (.agg #[.int .i64 a, .int .i64 b]) w) (hq : (part 72 Y (i * 2)).run Tryz.prog w = .ok (.agg #[.int .i64 c, .int .i64 d]) w) :
    (Op.eqItems 9999 72 2 X Y (i :: is)).run Tryz.prog w = bif (a == c && b == d) then (Op.eqItems 9999 72 2 X Y is).run Tryz.prog w else .ok false w := by
  simp only [Op.eqItems, Sem.run_bind, hp, hq, Result.andThen_ok, eqCell_at 9997]
  cases (a == c && b == d) <;> simp
theorem eqArr_run (xs ys : List C2) (h1 : xs.length = 6) (h2 : ys.length = 6) (w : World) : (Op.equalIn 10000 119 (.agg (arr6 xs)) (.agg (arr6 ys))).run Tryz.prog w = .ok (samB xs ys) w := by
  obtain ⟨a, b, c, d, e, f, rfl⟩ := six_of h1
  obtain ⟨a', b', c', d', e', f', rfl⟩ := six_of h2
  have hu : Tryz.prog.underlying 119 = some (.array 6 72) := by kernel_rfl
  have hc : Tryz.prog.cellsOf 72 = 2 := by kernel_rfl
  obtain ⟨i, hi⟩ := info_cellT
  rw [show (10000 : Nat) = 9999 + 1 from rfl, run_equalIn_array w 9999 _ _ hu hi, hc]
  have hs : samB [a, b, c, d, e, f] [a', b', c', d', e', f'] = (eqC2 a a' && (eqC2 b b' && (eqC2 c c' && (eqC2 d d' && (eqC2 e e' && eqC2 f f'))))) := by
    simp [samB, atC2, List.range, List.range.loop]
  rw [hs, show List.range 6 = [0, 1, 2, 3, 4, 5] from rfl]
  obtain ⟨p0, p1, p2, p3, p4, p5⟩ := part_cell a.head a.value b.head b.value c.head c.value d.head d.value e.head e.value f.head f.value w
  obtain ⟨q0, q1, q2, q3, q4, q5⟩ := part_cell a'.head a'.value b'.head b'.value c'.head c'.value d'.head d'.value e'.head e'.value f'.head f'.value w
  simp only [arr6, List.flatMap_cons, List.flatMap_nil, C2.cells, List.cons_append, List.nil_append, List.append_nil]
  rw [eqItems_cons (i := 0) p0 q0, eqItems_cons (i := 1) p1 q1, eqItems_cons (i := 2) p2 q2, eqItems_cons (i := 3) p3 q3, eqItems_cons (i := 4) p4 q4, eqItems_cons (i := 5) p5 q5]
  clear p0 p1 p2 p3 p4 p5 q0 q1 q2 q3 q4 q5 hs
  simp only [eqC2, Op.eqItems, Sem.run_pure]
  cases (a.head == a'.head && a.value == a'.value) <;> cases (b.head == b'.head && b.value == b'.value) <;> cases (c.head == c'.head && c.value == c'.value) <;> cases (d.head == d'.head && d.value == d'.value) <;> cases (e.head == e'.head && e.value == e'.value) <;> cases (f.head == f'.head && f.value == f'.value) <;> rfl
theorem eqArr_guard : Tryz.prog.eqGuardType Tryz.prog.depth 119 = false := by kernel_rfl
def zer6 : List C2 := [⟨0, 0⟩, ⟨0, 0⟩, ⟨0, 0⟩, ⟨0, 0⟩, ⟨0, 0⟩, ⟨0, 0⟩]
def tk6 (xs : List C2) : List C2 := if cellsB xs = true then xs else zer6
theorem tk6_len (xs : List C2) : (tk6 xs).length = 6 := by
  unfold tk6
  split
  · rename_i h
    simp only [cellsB, Bool.and_eq_true, decide_eq_true_eq] at h
    exact h.1
  · rfl
theorem zcell {w : World} {b : Nat} {t : TypeId} {xs : List C2} (h : w.heap[b]? = some (.cells (arr6 xs) t (0, 0))) (i : Nat) (v : Value) (hv : (arr6 xs)[i]? = some v) : w.cell? ⟨b, i, none⟩ = some v := by
  have := World.news_of_block (w := w) (cs := arr6 xs) (t := t) (fr := (0, 0)) h i v (by simpa using hv)
  have e : (⟨b, 0, none⟩ : Addr).add i = ⟨b, i, none⟩ := by by_cases h0 : i = 0 <;> simp [Addr.add, h0]
  rwa [e] at this
set_option maxRecDepth 100000 in
set_option maxHeartbeats 4000000 in
theorem takeCells_any (w : World) (a : Option Addr) (n cap : Nat) (xs : List C2) (hn : n ≤ maxLen) (hs : SlC w w.heap.size a n xs) :
    Calls Tryz.prog 72 #[.slice a n cap] w fun e w' => e = .returned (.tuple #[.agg (arr6 (tk6 xs)), .bool (cellsB xs)]) ∧ Below w.heap.size w w' := by
  obtain ⟨U1, hU1⟩ : ∃ Y, Y = w.alloc (.cells #[.int .i64 0, .int .i64 0, .int .i64 0, .int .i64 0, .int .i64 0, .int .i64 0, .int .i64 0, .int .i64 0, .int .i64 0, .int .i64 0, .int .i64 0, .int .i64 0] 119) := ⟨_, rfl⟩
  obtain ⟨U, hU⟩ : ∃ Y, Y = U1.alloc (.cells #[.int .i64 0, .int .i64 0, .int .i64 0, .int .i64 0, .int .i64 0, .int .i64 0, .int .i64 0, .int .i64 0, .int .i64 0, .int .i64 0, .int .i64 0, .int .i64 0] 119) := ⟨_, rfl⟩
  have b1 : Below w.heap.size w U1 := by rw [hU1]; exact (Below.refl _ _).alloc (Nat.le_refl _) _
  have b2 : Below U1.heap.size U1 U := by rw [hU]; exact (Below.refl _ _).alloc (Nat.le_refl _) _
  have s1 : U1.heap.size = w.heap.size + 1 := by rw [hU1]; simp
  have s2 : U.heap.size = w.heap.size + 2 := by rw [hU]; simp [s1]
  have g1 : U1.heap[w.heap.size]? = some (.cells (arr6 zer6) 119 (0, 0)) := by rw [hU1]; exact Go.Deep.blk_alloc_new w _
  have g2 : U.heap[w.heap.size + 1]? = some (.cells (arr6 zer6) 119 (0, 0)) := by
    have := Go.Deep.blk_alloc_new U1 (.cells #[.int .i64 0, .int .i64 0, .int .i64 0, .int .i64 0, .int .i64 0, .int .i64 0, .int .i64 0, .int .i64 0, .int .i64 0, .int .i64 0, .int .i64 0, .int .i64 0] 119)
    rw [s1] at this
    rw [hU]; exact this
  have g1' : U.heap[w.heap.size]? = some (.cells (arr6 zer6) 119 (0, 0)) := (b2.block _ (by omega)).trans g1
  have bU : Below w.heap.size w U := b1.trans (b2.mono (by omega))
  have XU : Hid (Bx U w.heap.size [.int .i64 0, .int .i64 0, .int .i64 0, .int .i64 0, .int .i64 0, .int .i64 0, .int .i64 0, .int .i64 0, .int .i64 0, .int .i64 0, .int .i64 0, .int .i64 0]) := by
    have h0 : Bx U1 w.heap.size [.int .i64 0, .int .i64 0, .int .i64 0, .int .i64 0, .int .i64 0, .int .i64 0, .int .i64 0, .int .i64 0, .int .i64 0, .int .i64 0, .int .i64 0, .int .i64 0] := by rw [hU1]; exact Bx.made w [.int .i64 0, .int .i64 0, .int .i64 0, .int .i64 0, .int .i64 0, .int .i64 0, .int .i64 0, .int .i64 0, .int .i64 0, .int .i64 0, .int .i64 0, .int .i64 0] _
    exact h0.later b2
  have hc := implCellsOk_any U a n cap xs hn (hs.later bU)
  have hUU : U = (w.alloc (.cells #[.int .i64 0, .int .i64 0, .int .i64 0, .int .i64 0, .int .i64 0, .int .i64 0, .int .i64 0, .int .i64 0, .int .i64 0, .int .i64 0, .int .i64 0, .int .i64 0] 119)).alloc (.cells #[.int .i64 0, .int .i64 0, .int .i64 0, .int .i64 0, .int .i64 0, .int .i64 0, .int .i64 0, .int .i64 0, .int .i64 0, .int .i64 0, .int .i64 0, .int .i64 0] 119) := by rw [hU, hU1]
  have KU : Hid (Below w.heap.size w U ∧ U.heap.size = w.heap.size + 2 ∧ U.heap[w.heap.size]? = some (.cells (arr6 zer6) 119 (0, 0)) ∧ U.heap[w.heap.size + 1]? = some (.cells (arr6 zer6) 119 (0, 0))) := ⟨bU, s2, g1', g2⟩
  have HS : Hid (SlC w w.heap.size a n xs) := hs
  clear hs b1 b2 s1 s2 g1 g2 g1' bU hU hU1
  go_enter Tryz.func72, Tryz.ntmps72
  go_wp2_with fail
  rw [← hUU]
  clear hUU
  refine hc.mono ?_
  clear hc
  rintro e W ⟨rfl, bW⟩
  obtain ⟨kb, ks, kg, kh⟩ := KU.out
  have k2 : W.heap[w.heap.size + 1]? = some (.cells (arr6 zer6) 119 (0, 0)) := (bW.block _ (by omega)).trans kh
  have X1 : Bx W w.heap.size [.int .i64 0, .int .i64 0, .int .i64 0, .int .i64 0, .int .i64 0, .int .i64 0, .int .i64 0, .int .i64 0, .int .i64 0, .int .i64 0, .int .i64 0, .int .i64 0] := XU.out.later bW
  have KW : Hid (Below w.heap.size w W ∧ w.heap.size + 2 ≤ W.heap.size) := ⟨kb.trans (bW.mono kb.size), by have := bW.size; omega⟩
  clear kb ks kg kh
  cases hB : cellsB xs with
  | false =>
    have HT : Hid (tk6 xs = zer6 ∧ cellsB xs = false) := ⟨by simp [tk6, hB], hB⟩
    have KP : Hid (Below w.heap.size w (putB W w.heap.size 0 [.int .i64 0, .int .i64 0, .int .i64 0, .int .i64 0, .int .i64 0, .int .i64 0, .int .i64 0, .int .i64 0, .int .i64 0, .int .i64 0, .int .i64 0, .int .i64 0]) ∧ Bx (putB W w.heap.size 0 [.int .i64 0, .int .i64 0, .int .i64 0, .int .i64 0, .int .i64 0, .int .i64 0, .int .i64 0, .int .i64 0, .int .i64 0, .int .i64 0, .int .i64 0, .int .i64 0]) w.heap.size [.int .i64 0, .int .i64 0, .int .i64 0, .int .i64 0, .int .i64 0, .int .i64 0, .int .i64 0, .int .i64 0, .int .i64 0, .int .i64 0, .int .i64 0, .int .i64 0]) := ⟨putB_below (Nat.le_refl _) _ _ _ KW.out.1, X1.put _ rfl⟩
    have p0 := X1.1 0 _ rfl
    have f0 := X1.2.1 0
    have p1 := X1.1 1 _ rfl
    have f1 := X1.2.1 1
    have p2 := X1.1 2 _ rfl
    have f2 := X1.2.1 2
    have p3 := X1.1 3 _ rfl
    have f3 := X1.2.1 3
    have p4 := X1.1 4 _ rfl
    have f4 := X1.2.1 4
    have p5 := X1.1 5 _ rfl
    have f5 := X1.2.1 5
    have p6 := X1.1 6 _ rfl
    have f6 := X1.2.1 6
    have p7 := X1.1 7 _ rfl
    have f7 := X1.2.1 7
    have p8 := X1.1 8 _ rfl
    have f8 := X1.2.1 8
    have p9 := X1.1 9 _ rfl
    have f9 := X1.2.1 9
    have p10 := X1.1 10 _ rfl
    have f10 := X1.2.1 10
    have p11 := X1.1 11 _ rfl
    have f11 := X1.2.1 11
    have q0 : W.cell? ⟨w.heap.size + 1, 0, none⟩ = some (.int .i64 0) := zcell (xs := zer6) k2 0 _ rfl
    have q1 : W.cell? ⟨w.heap.size + 1, 1, none⟩ = some (.int .i64 0) := zcell (xs := zer6) k2 1 _ rfl
    have q2 : W.cell? ⟨w.heap.size + 1, 2, none⟩ = some (.int .i64 0) := zcell (xs := zer6) k2 2 _ rfl
    have q3 : W.cell? ⟨w.heap.size + 1, 3, none⟩ = some (.int .i64 0) := zcell (xs := zer6) k2 3 _ rfl
    have q4 : W.cell? ⟨w.heap.size + 1, 4, none⟩ = some (.int .i64 0) := zcell (xs := zer6) k2 4 _ rfl
    have q5 : W.cell? ⟨w.heap.size + 1, 5, none⟩ = some (.int .i64 0) := zcell (xs := zer6) k2 5 _ rfl
    have q6 : W.cell? ⟨w.heap.size + 1, 6, none⟩ = some (.int .i64 0) := zcell (xs := zer6) k2 6 _ rfl
    have q7 : W.cell? ⟨w.heap.size + 1, 7, none⟩ = some (.int .i64 0) := zcell (xs := zer6) k2 7 _ rfl
    have q8 : W.cell? ⟨w.heap.size + 1, 8, none⟩ = some (.int .i64 0) := zcell (xs := zer6) k2 8 _ rfl
    have q9 : W.cell? ⟨w.heap.size + 1, 9, none⟩ = some (.int .i64 0) := zcell (xs := zer6) k2 9 _ rfl
    have q10 : W.cell? ⟨w.heap.size + 1, 10, none⟩ = some (.int .i64 0) := zcell (xs := zer6) k2 10 _ rfl
    have q11 : W.cell? ⟨w.heap.size + 1, 11, none⟩ = some (.int .i64 0) := zcell (xs := zer6) k2 11 _ rfl
    clear X1 k2 bW hB
    go_wp2
    obtain ⟨Z, hZ⟩ : ∃ Z, Z = putB W w.heap.size 0 [.int .i64 0, .int .i64 0, .int .i64 0, .int .i64 0, .int .i64 0, .int .i64 0, .int .i64 0, .int .i64 0, .int .i64 0, .int .i64 0, .int .i64 0, .int .i64 0] := ⟨_, rfl⟩
    rw [← hZ] at KP
    simp only [putB, Nat.zero_add, Nat.reduceAdd] at hZ
    rw [← hZ]
    clear hZ
    have r0 := KP.out.2.1 0 _ rfl
    have r1 := KP.out.2.1 1 _ rfl
    have r2 := KP.out.2.1 2 _ rfl
    have r3 := KP.out.2.1 3 _ rfl
    have r4 := KP.out.2.1 4 _ rfl
    have r5 := KP.out.2.1 5 _ rfl
    have r6 := KP.out.2.1 6 _ rfl
    have r7 := KP.out.2.1 7 _ rfl
    have r8 := KP.out.2.1 8 _ rfl
    have r9 := KP.out.2.1 9 _ rfl
    have r10 := KP.out.2.1 10 _ rfl
    have r11 := KP.out.2.1 11 _ rfl
    exact bodyPost_ret (v := .tuple #[.agg #[.int .i64 0, .int .i64 0, .int .i64 0, .int .i64 0, .int .i64 0, .int .i64 0, .int .i64 0, .int .i64 0, .int .i64 0, .int .i64 0, .int .i64 0, .int .i64 0], .bool false]) (by simp [results, Tryz.results72, go_sem, r0, r1, r2, r3, r4, r5, r6, r7, r8, r9, r10, r11]) rfl ⟨by rw [HT.out.1, HT.out.2]; rfl, KP.out.1⟩
  | true =>
    have HT : Hid (tk6 xs = xs ∧ cellsB xs = true) := ⟨by simp [tk6, hB], hB⟩
    have hx6 : xs.length = 6 := by simp only [cellsB, Bool.and_eq_true, decide_eq_true_eq] at hB; exact hB.1
    clear hB
    obtain ⟨hx, hs⟩ := HS.out
    obtain rfl : n = 6 := by omega
    rcases hs with hs | ⟨b, off, rfl, hb, h1⟩
    · omega
    have hsrc : ∀ j v, (xs.flatMap C2.cells)[j]? = some v → W.cell? ((⟨b, off, none⟩ : Addr).add j) = some v := by
      intro j v hv
      have hj : j < 12 := by
        rcases Nat.lt_or_ge j 12 with h | h
        · exact h
        · rw [List.getElem?_eq_none (by rw [flat2_len, hx6]; exact h)] at hv; cases hv
      obtain ⟨i, r, rfl, hr⟩ : ∃ i r, j = i * 2 + r ∧ r < 2 := ⟨j / 2, j % 2, by omega, by omega⟩
      have hi : i < xs.length := by omega
      rw [flat2 xs i _ r (at2_of hi) hr] at hv
      have hc := (h1.get hi).below KW.out.1 hb
      have ea : (⟨b, off, none⟩ : Addr).add (i * 2 + r) = ⟨b, off + i * 2 + r, none⟩ := by
        by_cases h0 : i * 2 + r = 0
        · have : i = 0 := by omega
          have : r = 0 := by omega
          subst i; subst r
          simp [Addr.add]
        · simp only [Addr.add, if_neg h0, Nat.add_assoc]
      rw [ea]
      match r, hr with
      | 0, _ => simp only [C2.cells, List.getElem?_cons_zero, Option.some.injEq] at hv; subst hv; exact hc.c0
      | 1, _ => simp only [C2.cells, List.getElem?_cons_succ, List.getElem?_cons_zero, Option.some.injEq] at hv; subst hv; exact hc.c1
    have h1c : ∀ v ∈ xs.flatMap C2.cells, v.oneCell' = true := by
      intro v hv
      obtain ⟨c, -, hc⟩ := List.mem_flatMap.1 hv
      simp only [C2.cells, List.mem_cons, List.not_mem_nil, or_false] at hc
      rcases hc with rfl | rfl <;> rfl
    have hfl : (xs.flatMap C2.cells).length = 12 := by rw [flat2_len, hx6]
    have hz : (arr6 zer6).size = 12 := by rfl
    have hrun := run_copy_wide (P := Tryz.prog) W 66 66 3 72 (w.heap.size + 1) 0 6 6 ⟨b, off, none⟩ 6 cap (arr6 zer6) 119 (xs.flatMap C2.cells) 2 Tryz.underlying66 (by kernel_rfl) k2 (by rw [hfl]; rfl) hsrc (by rw [hfl, hz]; omega) h1c
    have hl : ((arr6 zer6).toList.take 0 ++ xs.flatMap C2.cells ++ (arr6 zer6).toList.drop (0 + (xs.flatMap C2.cells).length)).toArray = arr6 xs := by
      rw [hfl]; simp [arr6, zer6, C2.cells]
    rw [hl] at hrun
    have k3 := setRow_heap W (w.heap.size + 1) _ (arr6 xs) _ _ k2
    have b3 : Below (w.heap.size + 1) W (W.setRow (w.heap.size + 1) (arr6 xs)) := below_setRow (Below.refl _ _) (Nat.le_refl _) _
    have b4 : Below w.heap.size w (W.setRow (w.heap.size + 1) (arr6 xs)) := below_setRow KW.out.1 (by omega) _
    have X3 := X1.under b3 (by omega)
    generalize W.setRow (w.heap.size + 1) (arr6 xs) = V at *
    obtain ⟨a0, a1, a2, a3, a4, a5, rfl⟩ := six_of hx6
    have X1 := X3
    have KP : Hid (Below w.heap.size w (putB V w.heap.size 0 [.int .i64 a0.head, .int .i64 a0.value, .int .i64 a1.head, .int .i64 a1.value, .int .i64 a2.head, .int .i64 a2.value, .int .i64 a3.head, .int .i64 a3.value, .int .i64 a4.head, .int .i64 a4.value, .int .i64 a5.head, .int .i64 a5.value]) ∧ Bx (putB V w.heap.size 0 [.int .i64 a0.head, .int .i64 a0.value, .int .i64 a1.head, .int .i64 a1.value, .int .i64 a2.head, .int .i64 a2.value, .int .i64 a3.head, .int .i64 a3.value, .int .i64 a4.head, .int .i64 a4.value, .int .i64 a5.head, .int .i64 a5.value]) w.heap.size [.int .i64 a0.head, .int .i64 a0.value, .int .i64 a1.head, .int .i64 a1.value, .int .i64 a2.head, .int .i64 a2.value, .int .i64 a3.head, .int .i64 a3.value, .int .i64 a4.head, .int .i64 a4.value, .int .i64 a5.head, .int .i64 a5.value]) := ⟨putB_below (Nat.le_refl _) _ _ _ b4, X1.put _ rfl⟩
    have p0 := X1.1 0 _ rfl
    have f0 := X1.2.1 0
    have p1 := X1.1 1 _ rfl
    have f1 := X1.2.1 1
    have p2 := X1.1 2 _ rfl
    have f2 := X1.2.1 2
    have p3 := X1.1 3 _ rfl
    have f3 := X1.2.1 3
    have p4 := X1.1 4 _ rfl
    have f4 := X1.2.1 4
    have p5 := X1.1 5 _ rfl
    have f5 := X1.2.1 5
    have p6 := X1.1 6 _ rfl
    have f6 := X1.2.1 6
    have p7 := X1.1 7 _ rfl
    have f7 := X1.2.1 7
    have p8 := X1.1 8 _ rfl
    have f8 := X1.2.1 8
    have p9 := X1.1 9 _ rfl
    have f9 := X1.2.1 9
    have p10 := X1.1 10 _ rfl
    have f10 := X1.2.1 10
    have p11 := X1.1 11 _ rfl
    have f11 := X1.2.1 11
    have q0 : V.cell? ⟨w.heap.size + 1, 0, none⟩ = some (.int .i64 a0.head) := zcell (xs := [a0, a1, a2, a3, a4, a5]) k3 0 _ rfl
    have q1 : V.cell? ⟨w.heap.size + 1, 1, none⟩ = some (.int .i64 a0.value) := zcell (xs := [a0, a1, a2, a3, a4, a5]) k3 1 _ rfl
    have q2 : V.cell? ⟨w.heap.size + 1, 2, none⟩ = some (.int .i64 a1.head) := zcell (xs := [a0, a1, a2, a3, a4, a5]) k3 2 _ rfl
    have q3 : V.cell? ⟨w.heap.size + 1, 3, none⟩ = some (.int .i64 a1.value) := zcell (xs := [a0, a1, a2, a3, a4, a5]) k3 3 _ rfl
    have q4 : V.cell? ⟨w.heap.size + 1, 4, none⟩ = some (.int .i64 a2.head) := zcell (xs := [a0, a1, a2, a3, a4, a5]) k3 4 _ rfl
    have q5 : V.cell? ⟨w.heap.size + 1, 5, none⟩ = some (.int .i64 a2.value) := zcell (xs := [a0, a1, a2, a3, a4, a5]) k3 5 _ rfl
    have q6 : V.cell? ⟨w.heap.size + 1, 6, none⟩ = some (.int .i64 a3.head) := zcell (xs := [a0, a1, a2, a3, a4, a5]) k3 6 _ rfl
    have q7 : V.cell? ⟨w.heap.size + 1, 7, none⟩ = some (.int .i64 a3.value) := zcell (xs := [a0, a1, a2, a3, a4, a5]) k3 7 _ rfl
    have q8 : V.cell? ⟨w.heap.size + 1, 8, none⟩ = some (.int .i64 a4.head) := zcell (xs := [a0, a1, a2, a3, a4, a5]) k3 8 _ rfl
    have q9 : V.cell? ⟨w.heap.size + 1, 9, none⟩ = some (.int .i64 a4.value) := zcell (xs := [a0, a1, a2, a3, a4, a5]) k3 9 _ rfl
    have q10 : V.cell? ⟨w.heap.size + 1, 10, none⟩ = some (.int .i64 a5.head) := zcell (xs := [a0, a1, a2, a3, a4, a5]) k3 10 _ rfl
    have q11 : V.cell? ⟨w.heap.size + 1, 11, none⟩ = some (.int .i64 a5.value) := zcell (xs := [a0, a1, a2, a3, a4, a5]) k3 11 _ rfl
    clear X1 X3 k2 k3 bW b3 b4 hsrc h1c hfl hz hl h1 hx hx6
    go_wp2
    obtain ⟨Z, hZ⟩ : ∃ Z, Z = putB V w.heap.size 0 [.int .i64 a0.head, .int .i64 a0.value, .int .i64 a1.head, .int .i64 a1.value, .int .i64 a2.head, .int .i64 a2.value, .int .i64 a3.head, .int .i64 a3.value, .int .i64 a4.head, .int .i64 a4.value, .int .i64 a5.head, .int .i64 a5.value] := ⟨_, rfl⟩
    rw [← hZ] at KP
    simp only [putB, Nat.zero_add, Nat.reduceAdd] at hZ
    rw [← hZ]
    clear hZ
    have r0 := KP.out.2.1 0 _ rfl
    have r1 := KP.out.2.1 1 _ rfl
    have r2 := KP.out.2.1 2 _ rfl
    have r3 := KP.out.2.1 3 _ rfl
    have r4 := KP.out.2.1 4 _ rfl
    have r5 := KP.out.2.1 5 _ rfl
    have r6 := KP.out.2.1 6 _ rfl
    have r7 := KP.out.2.1 7 _ rfl
    have r8 := KP.out.2.1 8 _ rfl
    have r9 := KP.out.2.1 9 _ rfl
    have r10 := KP.out.2.1 10 _ rfl
    have r11 := KP.out.2.1 11 _ rfl
    exact bodyPost_ret (v := .tuple #[.agg #[.int .i64 a0.head, .int .i64 a0.value, .int .i64 a1.head, .int .i64 a1.value, .int .i64 a2.head, .int .i64 a2.value, .int .i64 a3.head, .int .i64 a3.value, .int .i64 a4.head, .int .i64 a4.value, .int .i64 a5.head, .int .i64 a5.value], .bool true]) (by simp [results, Tryz.results72, go_sem, r0, r1, r2, r3, r4, r5, r6, r7, r8, r9, r10, r11]) rfl ⟨by rw [HT.out.1, HT.out.2]; rfl, KP.out.1⟩
theorem nan_any (w : World) (x : Int) : Calls Tryz.prog 144 #[.int .i64 x] w fun e w' => e = .returned (.bool false) ∧ w' = w := by
  have h : (x != x) = false := by simp
  go_enter Tryz.func144, Tryz.ntmps144
  go_wp2
  go_ret
  exact ⟨rfl, rfl⟩
def cmpI (x y : Int) : Int := if x < y then -1 else if y < x then 1 else 0
theorem compare_any (w : World) (x y : Int) : Calls Tryz.prog 96 #[.int .i64 x, .int .i64 y] w fun e w' => e = .returned (.int .i64 (cmpI x y)) ∧ w' = w := by
  by_cases h1 : x < y
  · have e : cmpI x y = -1 := if_pos h1
    rw [e]
    go_enter Tryz.func96, Tryz.ntmps96
    go_wp2_with (go_at_call 144; refine (nan_any _ _).mono ?_; rintro e w' ⟨rfl, rfl⟩)
    go_ret
    exact ⟨rfl, rfl⟩
  · have d1 : decide (x < y) = false := by simp; omega
    by_cases h2 : y < x
    · have e : cmpI x y = 1 := by rw [cmpI, if_neg h1, if_pos h2]
      have d2 : decide (y < x) = true := by simp [h2]
      rw [e]
      clear h1
      go_enter Tryz.func96, Tryz.ntmps96
      go_wp2_with (go_at_call 144; refine (nan_any _ _).mono ?_; rintro e w' ⟨rfl, rfl⟩)
      go_ret
      exact ⟨rfl, rfl⟩
    · have e : cmpI x y = 0 := by rw [cmpI, if_neg h1, if_neg h2]
      have d2 : decide (y < x) = false := by simp; omega
      rw [e]
      clear h1 h2
      go_enter Tryz.func96, Tryz.ntmps96
      go_wp2_with (go_at_call 144; refine (nan_any _ _).mono ?_; rintro e w' ⟨rfl, rfl⟩)
      go_ret
      exact ⟨rfl, rfl⟩
theorem byRegion_any (w : World) (k : K2) (a : Option Addr) (cap : Nat) (y : Int) : Calls Tryz.prog 204 #[k.val a cap, .int .i64 y] w fun e w' => e = .returned (.int .i64 (cmpI k.region y)) ∧ Below w.heap.size w w' := by
  simp only [K2.val]
  have b0 : Below w.heap.size w (w.alloc (.cells #[.int .i64 k.region, .slice a k.cells.length cap] 68)) := (Below.refl _ _).alloc (Nat.le_refl _) _
  generalize k.cells.length = n at *
  go_enter Tryz.func204, Tryz.ntmps204
  go_wp2_with (go_at_call 96; refine (compare_any _ _ _).mono ?_; rintro e w' ⟨rfl, rfl⟩)
  go_ret
  exact ⟨rfl, b0⟩
def UpR (ks : List K2) : Prop := ∀ i j, i < j → j < ks.length → (atK ks i).region < (atK ks j).region
theorem UpR.of_all {ks : List K2} (h : (List.range ks.length).all (upK ks) = true) : UpR ks := by
  intro i j hij hj
  induction j with
  | zero => omega
  | succ j ih =>
    have h2 := List.all_eq_true.1 h (j + 1) (List.mem_range.2 hj)
    simp [upK] at h2
    by_cases e : i = j
    · rw [e]; exact h2
    · have := ih (by omega) (by omega); omega
structure PosK (ks : List K2) (y : Int) (i : Nat) : Prop where
  le : i ≤ ks.length
  lo : ∀ t, t < i → (atK ks t).region < y
  hi : ∀ t, i ≤ t → t < ks.length → y ≤ (atK ks t).region
def foundK (ks : List K2) (y : Int) (i : Nat) : Bool := decide (i < ks.length) && decide ((atK ks i).region = y)
set_option maxHeartbeats 4000000 in
theorem bsearch_any (w : World) (a : Option Addr) (n cap : Nat) (ks : List K2) (y : Int) (hn : n ≤ 1000) (hu : UpR ks) (hs : SlK w w.heap.size a n ks) :
    Calls Tryz.prog 205 #[.slice a n cap, .int .i64 y, .func (.func 204) #[] #[]] w fun e w' => ∃ i : Nat, e = .returned (.tuple #[.int .i64 i, .bool (foundK ks y i)]) ∧ PosK ks y i ∧ Below w.heap.size w w' := by
  obtain ⟨hx, hs⟩ := hs
  have HU : Hid (UpR ks ∧ ks.length = n) := ⟨hu, hx⟩
  clear hu hx
  go_enter Tryz.func205, Tryz.ntmps205
  go_wp2
  go_loopw [9, 10] (fun v9 v10 wr => ∃ i j : Nat, i ≤ j ∧ j ≤ n ∧ v9 = .int .i64 i ∧ v10 = .int .i64 j ∧ Below w.heap.size w wr ∧ (∀ t, t < i → (atK ks t).region < y) ∧ (∀ t, j ≤ t → t < n → y ≤ (atK ks t).region)) (fun v9 v10 _ => (intOf v10).toNat - (intOf v9).toNat)
  case atStart => exact ⟨0, n, Nat.zero_le _, Nat.le_refl _, rfl, rfl, Below.refl _ _, fun t h => by omega, fun t h1 h2 => by omega⟩
  case round =>
    obtain ⟨i, j, hij, hjn, rfl, rfl, hbl, hlo, hhi⟩ := hrel
    by_cases hlt : i < j
    · rcases hs with hs | ⟨b, off, rfl, hb, h1⟩
      · omega
      have hd : (i + j) / 2 < n := by omega
      have hr := (h1 ((i + j) / 2) _ (atK_of (by rw [HU.out.2]; exact hd))).below hbl hb
      have k0 := hr.c0
      obtain ⟨a1, p1, k1, _, _⟩ := hr.c1
      have K : Hid (Below w.heap.size w wr ∧ (∀ t, t < i → (atK ks t).region < y) ∧ (∀ t, j ≤ t → t < n → y ≤ (atK ks t).region)) := ⟨hbl, hlo, hhi⟩
      have hc := byRegion_any wr (atK ks ((i + j) / 2)) a1 p1 y
      simp only [K2.val] at hc
      clear h1 hr hbl hlo hhi
      have HI : Hid (∀ t, t ≤ (i + j) / 2 → (atK ks t).region ≤ (atK ks ((i + j) / 2)).region) := fun t ht => by
        by_cases e : t = (i + j) / 2
        · rw [e]; exact Int.le_refl _
        · exact Int.le_of_lt (HU.out.1 t _ (by omega) (by rw [HU.out.2]; exact hd))
      have HJ : Hid (∀ t, (i + j) / 2 ≤ t → t < n → (atK ks ((i + j) / 2)).region ≤ (atK ks t).region) := fun t ht htn => by
        by_cases e : t = (i + j) / 2
        · rw [e]; exact Int.le_refl _
        · exact Int.le_of_lt (HU.out.1 _ t (by omega) (by rw [HU.out.2]; exact htn))
      generalize (atK ks ((i + j) / 2)).region = x at *
      generalize (atK ks ((i + j) / 2)).cells.length = lx at *
      by_cases hq : x < y
      · rw [show cmpI x y = -1 from if_pos hq] at hc
        have HQ := hidOf hq
        clear hq
        go_wp2_with fail
        refine hc.mono ?_
        clear hc
        rintro e w1 ⟨rfl, b1⟩
        go_wp2
        exact ⟨⟨(i + j) / 2 + 1, j, by omega, hjn, by simp, rfl, K.out.1.trans (b1.mono K.out.1.size), fun t ht => by have := HI.out t (by omega); have := HQ.out; omega, K.out.2.2⟩, by simp [intOf]; omega⟩
      · have hc0 : decide (cmpI x y < 0) = false := by
          rw [cmpI, if_neg hq]
          by_cases h2 : y < x
          · rw [if_pos h2]; rfl
          · rw [if_neg h2]; rfl
        have HQ := hidOf hq
        clear hq
        generalize cmpI x y = cv at *
        go_wp2_with fail
        refine hc.mono ?_
        clear hc
        rintro e w1 ⟨rfl, b1⟩
        go_wp2
        exact ⟨⟨i, (i + j) / 2, by omega, by omega, rfl, by simp, K.out.1.trans (b1.mono K.out.1.size), K.out.2.1, fun t ht htn => by have := HJ.out t ht htn; have := HQ.out; omega⟩, by simp [intOf]; omega⟩
    · obtain rfl : i = j := by omega
      have hd : decide ((i : Int) < (i : Int)) = false := by simp
      have HP : Hid (PosK ks y i) := ⟨by rw [HU.out.2]; exact hjn, hlo, fun t h1 h2 => hhi t h1 (by rw [← HU.out.2]; exact h2)⟩
      clear hlo hhi
      by_cases hin : i < n
      · rcases hs with hs | ⟨b, off, rfl, hb, h1⟩
        · omega
        have hr := (h1 i _ (atK_of (by rw [HU.out.2]; exact hin))).below hbl hb
        have k0 := hr.c0
        obtain ⟨a1, p1, k1, _, _⟩ := hr.c1
        have hc := byRegion_any wr (atK ks i) a1 p1 y
        simp only [K2.val] at hc
        have HF : Hid (foundK ks y i = decide ((atK ks i).region = y) ∧ Below w.heap.size w wr) := ⟨by simp [foundK, HU.out.2, hin], hbl⟩
        clear h1 hr hbl
        generalize (atK ks i).region = x at *
        generalize (atK ks i).cells.length = lx at *
        have he : (cmpI x y == 0) = decide (x = y) := by
          unfold cmpI
          by_cases h1 : x < y
          · rw [if_pos h1]; simp; omega
          · rw [if_neg h1]
            by_cases h2 : y < x
            · rw [if_pos h2]; simp; omega
            · rw [if_neg h2]; simp; omega
        generalize cmpI x y = cv at *
        go_wp2_with fail
        refine hc.mono ?_
        clear hc
        rintro e w1 ⟨rfl, b1⟩
        have HE := hidOf he
        clear he
        go_wp2
        refine bodyPost_ret (v := .tuple #[.int .i64 i, .bool (cv == 0)]) (by simp [results, Tryz.results205, go_sem]) rfl ⟨i, by rw [HF.out.1, ← HE.out], HP.out, HF.out.2.trans (b1.mono HF.out.2.size)⟩
      · have hdn : decide ((i : Int) < (n : Int)) = false := by simp; omega
        have HF : Hid (foundK ks y i = false) := by unfold Hid; simp [foundK, HU.out.2, hin]
        clear hs
        go_wp2
        refine bodyPost_ret (v := .tuple #[.int .i64 i, .bool false]) (by simp [results, Tryz.results205, go_sem]) rfl ⟨i, by rw [HF.out], HP.out, hbl⟩
set_option maxHeartbeats 1000000 in
theorem findCopy_any (w : World) (s : Nat) (a : Option Addr) (cap : Nat) (ks : List K2) (y : Int) (hn : ks.length ≤ 1000) (hu : UpR ks) (hs : SlK w w.heap.size a ks.length ks) (hc : w.cell? ⟨s, 2, none⟩ = some (.slice a ks.length cap)) :
    Calls Tryz.prog 177 #[.pointer (some ⟨s, 0, none⟩), .int .i64 y] w fun e w' => ∃ i : Nat, e = .returned (.tuple #[.int .i64 i, .bool (foundK ks y i)]) ∧ PosK ks y i ∧ Below w.heap.size w w' := by
  have hb := bsearch_any w a ks.length cap ks y hn hu hs
  clear hs hu
  generalize ks.length = n at *
  go_enter Tryz.func177, Tryz.ntmps177
  go_wp2_with fail
  refine hb.mono ?_
  clear hb
  rintro e w1 ⟨i, rfl, hp, b1⟩
  have K := hidOf hp
  clear hp
  go_wp2
  exact bodyPost_ret (v := .tuple #[.int .i64 i, .bool (foundK ks y i)]) (by simp [results, Tryz.results177, go_sem]) rfl ⟨i, rfl, K.out, b1⟩
def ansC (m : M4) (y : Int) : Option (List C2) := if machB m = true then (m.copies.find? fun k => decide (k.region = y)).map K2.cells else none
def ansL (m : M4) (y : Int) : List C2 := (ansC m y).getD []
def ansB (m : M4) (y : Int) : Bool := (ansC m y).isSome
def OwnCl (w : World) (base : Nat) (a : Option Addr) (xs : List C2) : Prop := xs = [] ∨ ∃ q, a = some ⟨q, 0, none⟩ ∧ base ≤ q ∧ q < w.heap.size ∧ CellsAt w q 0 xs ∧ Room w q (xs.length * 2)
theorem OwnCl.sl {w : World} {base : Nat} {a : Option Addr} {xs : List C2} (h : OwnCl w base a xs) : SlC w w.heap.size a xs.length xs := by
  rcases h with rfl | ⟨q, rfl, h1, h2, h3, _⟩
  · exact ⟨rfl, .inl rfl⟩
  · exact ⟨rfl, .inr ⟨q, 0, rfl, h2, h3⟩⟩
theorem find_at {ks : List K2} {y : Int} {k : Nat} (hk : k < ks.length) (h : (atK ks k).region = y) (hlo : ∀ j, j < k → (atK ks j).region ≠ y) : ks.find? (fun c => decide (c.region = y)) = some (atK ks k) := by
  induction ks generalizing k with
  | nil => simp at hk
  | cons c ks ih =>
    cases k with
    | zero =>
      have h0 : c.region = y := h
      rw [List.find?_cons_of_pos (by simpa using h0)]; rfl
    | succ k =>
      have h0 : c.region ≠ y := hlo 0 (by omega)
      rw [List.find?_cons_of_neg (by simpa using h0)]
      exact ih (k := k) (by simpa using hk) h (fun j hj => hlo (j + 1) (by omega))
theorem find_none {ks : List K2} {y : Int} (h : ∀ j, j < ks.length → (atK ks j).region ≠ y) : ks.find? (fun c => decide (c.region = y)) = none := by
  rw [List.find?_eq_none]
  intro c hc
  obtain ⟨i, hi, rfl⟩ := List.getElem_of_mem hc
  have := h i hi
  rw [atK, List.getElem?_eq_getElem hi] at this
  simpa using this
theorem ansC_first {m : M4} {y : Int} {k : Nat} (hB : machB m = true) (hk : k < m.copies.length) (h : (atK m.copies k).region = y) (hlo : ∀ j, j < k → (atK m.copies j).region ≠ y) : ansC m y = some (atK m.copies k).cells := by
  rw [ansC, if_pos hB, find_at hk h hlo]; rfl
theorem ansC_none {m : M4} {y : Int} (h : ∀ j, j < m.copies.length → (atK m.copies j).region ≠ y) : ansC m y = none := by
  unfold ansC
  rw [find_none h]; simp
theorem ansC_bad {m : M4} (y : Int) (hB : machB m = false) : ansC m y = none := by simp [ansC, hB]
theorem mach_up {m : M4} (hB : machB m = true) : UpR m.copies := by
  rw [machB_eq] at hB
  simp only [Bool.and_eq_true] at hB
  have := hB.1.1
  rw [copsB, copB_eq, Bool.and_eq_true] at this
  exact UpR.of_all this.1
def CopAns (w : World) (m : M4) (y : Int) (e : Ending) (w' : World) : Prop :=
  ∃ (a : Option Addr) (cp : Nat), e = .returned (.tuple #[.slice a (ansL m y).length cp, .bool (ansB m y)]) ∧ OwnCl w' w.heap.size a (ansL m y) ∧ Below w.heap.size w w'
set_option maxHeartbeats 2000000 in
theorem implCopied_any (w : World) (v : MV) (m : M4) (y : Int) (hl : ML m) (hs : SlM w v m) : Calls Tryz.prog 129 #[v.val m, .int .i64 y] w (CopAns w m y) := by
  obtain ⟨ac, cc, al, cl, ad, cd⟩ := v
  simp only [MV.val]
  obtain ⟨W, hW⟩ : ∃ W, W = w.alloc (.cells #[.bool m.alive, .slice ac m.copies.length cc, .slice al m.log.length cl, .slice ad m.cleared.length cd] 63) := ⟨_, rfl⟩
  have b0 : Below w.heap.size w W := by subst hW; exact (Below.refl _ _).alloc (Nat.le_refl _) _
  have ht := take_any W ⟨ac, cc, al, cl, ad, cd⟩ m hl (hs.later b0)
  simp only [MV.val] at ht
  have H := hidOf b0
  clear hl hs b0
  subst hW
  go_enter Tryz.func129, Tryz.ntmps129
  go_wp2_with fail
  generalize w.alloc (.cells #[.bool m.alive, .slice ac m.copies.length cc, .slice al m.log.length cl, .slice ad m.cleared.length cd] 63) = W at *
  refine ht.mono ?_
  clear ht
  rintro e w1 ⟨t1, t2, b1⟩
  have B1 : Hid (Below w.heap.size w w1) := H.out.trans (b1.mono H.out.size)
  have bad : ∀ (X : World), Below w.heap.size w X → ansC m y = none → CopAns w m y (.returned (.tuple #[.slice none 0 0, .bool false])) X := fun X hX h =>
    ⟨none, 0, by simp [ansL, ansB, h], .inl (by simp [ansL, h]), hX⟩
  have BAD := hidOf bad
  clear bad
  cases hB : machB m with
  | false =>
    obtain rfl := t1 hB
    clear t1 t2 b1
    simp only [noM]
    go_wp2
    exact bodyPost_ret (v := .tuple #[.slice none 0 0, .bool false]) (by simp [results, Tryz.results129, go_sem]) rfl (BAD.out _ (B1.out.alloc B1.out.size _) (ansC_bad y hB))
  | true =>
    obtain ⟨⟨uc, uk, ul, uj, ud, ui⟩, p, gk, gr, rfl, mr⟩ := t2 hB
    clear t1 t2
    simp only [MV.own]
    have bA : Below w1.heap.size w1 (w1.alloc (.cells #[.slice ul m.log.length uj, .bool m.alive, .slice uc m.copies.length uk, .slice ud m.cleared.length ui] 215)) := (Below.refl _ _).alloc (Nat.le_refl _) _
    have mrA := mr.later bA
    have cA : (w1.alloc (.cells #[.slice ul m.log.length uj, .bool m.alive, .slice uc m.copies.length uk, .slice ud m.cleared.length ui] 215)).cell? ⟨w1.heap.size, 2, none⟩ = some (.slice uc m.copies.length uk) := by go_simp
    have hS := MSm.of_mach hB
    have hf := findCopy_any (w1.alloc (.cells #[.slice ul m.log.length uj, .bool m.alive, .slice uc m.copies.length uk, .slice ud m.cleared.length ui] 215)) w1.heap.size uc uk m.copies y (by have := hS.k; omega) (mach_up hB) (MR.om (v := ⟨uc, uk, ul, uj, ud, ui⟩) mrA).sl.k cA
    have K : Hid (MR (W.heap.size + 2) p (w1.alloc (.cells #[.slice ul m.log.length uj, .bool m.alive, .slice uc m.copies.length uk, .slice ud m.cleared.length ui] 215)) (.slice uc m.copies.length uk) (.slice ul m.log.length uj) (.slice ud m.cleared.length ui) m.copies m.log m.cleared gk gr ∧ Below w.heap.size w (w1.alloc (.cells #[.slice ul m.log.length uj, .bool m.alive, .slice uc m.copies.length uk, .slice ud m.cleared.length ui] 215)) ∧ w1.heap.size < (w1.alloc (.cells #[.slice ul m.log.length uj, .bool m.alive, .slice uc m.copies.length uk, .slice ud m.cleared.length ui] 215)).heap.size ∧ MSm m) := ⟨mrA, B1.out.trans (bA.mono B1.out.size), by simp, hS⟩
    clear mr mrA bA b1 hS
    go_wp2_with fail
    generalize (w1.alloc (.cells #[.slice ul m.log.length uj, .bool m.alive, .slice uc m.copies.length uk, .slice ud m.cleared.length ui] 215)) = W2 at *
    refine hf.mono ?_
    clear hf
    rintro e w3 ⟨i, rfl, hp, b3⟩
    have HP := hidOf hp
    clear hp
    cases hF : foundK m.copies y i with
    | false =>
      have HN : Hid (ansC m y = none) := ansC_none (fun j hj e => by
        rcases Nat.lt_or_ge j i with h | h
        · have := HP.out.lo j h; omega
        · have h1 := HP.out.hi j h hj
          by_cases h2 : i < m.copies.length
          · have h3 := HP.out.hi i (Nat.le_refl _) h2
            by_cases e' : i = j
            · subst e'; simp [foundK, h2, e] at hF
            · have := mach_up hB i j (by omega) hj
              have h4 : (atK m.copies i).region ≠ y := fun e'' => by simp [foundK, h2, e''] at hF
              omega
          · omega)
      have K3 : Hid (Below w.heap.size w w3) := K.out.2.1.trans (b3.mono K.out.2.1.size)
      clear b3
      go_wp2
      exact bodyPost_ret (v := .tuple #[.slice none 0 0, .bool false]) (by simp [results, Tryz.results129, go_sem]) rfl (BAD.out _ K3.out HN.out)
    | true =>
      simp only [foundK, Bool.and_eq_true, decide_eq_true_eq] at hF
      have HN : Hid (ansC m y = some (atK m.copies i).cells) := ansC_first hB hF.1 hF.2 (fun j hj e => by have := HP.out.lo j hj; omega)
      have hne : m.copies ≠ [] := fun e => by rw [e] at hF; simp at hF
      have mr3 := K.out.1.later b3
      obtain ⟨b, cap, ev, hb1, hb2, _, _, og⟩ := GrowG.own (hd := hdK) (sz := 2) (fun _ => rfl) mr3.gK hne
      have ea : uc = some ⟨b, 0, none⟩ := by injection ev
      subst ea
      obtain ⟨cp, t1, t2⟩ := og.tail i _ (atK_of hF.1)
      have at1 := og.sub i _ (atK_of hF.1)
      have lt1 := og.lt i hF.1
      have lo1 := og.low i hF.1
      simp only [lnK, Nat.reduceSub] at t1
      have c3 : w3.cell? ⟨w1.heap.size, 2, none⟩ = some (.slice (some ⟨b, 0, none⟩) m.copies.length uk) := (b3.cell (p := ⟨w1.heap.size, 2, none⟩) K.out.2.2.1).trans cA
      have hi2 : (i : Int) < (m.copies.length : Int) := by omega
      have KA : Hid (CopAns w m y (.returned (.tuple #[.slice (some ⟨gk i, 0, none⟩) (atK m.copies i).cells.length cp, .bool true])) w3) :=
        ⟨some ⟨gk i, 0, none⟩, cp, by simp [ansL, ansB, HN.out], .inr ⟨gk i, rfl, by have := H.out.size; omega, lt1, by simpa [ansL, HN.out] using at1.1, by simpa [ansL, HN.out] using at1.2⟩, K.out.2.1.trans (b3.mono K.out.2.1.size)⟩
      clear b3 mr3 og at1 lt1 lo1 ev hb1 hb2 t2 cA
      go_wp2
      exact bodyPost_ret (v := .tuple #[.slice (some ⟨gk i, 0, none⟩) (atK m.copies i).cells.length cp, .bool true]) (by simp [results, Tryz.results129, go_sem]) rfl KA.out
end Go.Proofs.YtphpcgmnljhimaaGreat
namespace Go.Proofs.YtphpcgmnljhimaaGreat
open Go.RowKit
open Go.Sort (grow)
def loB (s : C2) : Bool := inB 0 4000003 s.head && lockedB s.head
theorem lockedCell (w : World) (s : C2) : Calls Tryz.prog 130 #[.agg #[.int .i64 s.head, .int .i64 s.value]] w fun e w' => e = .returned (.bool (loB s)) ∧ Below w.heap.size w w' := by
  go_enter Tryz.func130, Tryz.ntmps130
  go_wp2_with fail
  refine (implLocked_any s.head _).mono ?_
  rintro e w1 ⟨rfl, rfl⟩
  go_wp2
  go_ret
  exact ⟨rfl, (Below.refl _ _).alloc (Nat.le_refl _) _⟩
theorem lo_none {xs : List C2} (h : ∀ i, i < xs.length → loB (at2 xs i) = false) : xs.any loB = false := by
  rw [List.any_eq_false]
  intro s hs
  obtain ⟨i, hi, rfl⟩ := List.getElem_of_mem hs
  have := h i hi
  simpa [at2, List.getElem?_eq_getElem hi] using this
theorem lo_some {xs : List C2} {i : Nat} (hi : i < xs.length) (h : loB (at2 xs i) = true) : xs.any loB = true := List.any_eq_true.2 ⟨_, List.mem_of_getElem? (at2_of hi), h⟩
set_option maxHeartbeats 2000000 in
theorem indexLock_some (w : World) (b off cap n : Nat) (xs : List C2) (hx : xs.length = n) (hn : n ≤ maxLen) (h1 : CellsAt w b off xs) (hb : b < w.heap.size) :
    Calls Tryz.prog 180 #[.slice (some ⟨b, off, none⟩) n cap, .func (.func 130) #[] #[]] w fun e w' => ∃ i : Int, e = .returned (.int .i64 i) ∧ (0 ≤ i ↔ xs.any loB = true) ∧ Below w.heap.size w w' := by
  unfold maxLen at hn
  go_enter Tryz.func180, Tryz.ntmps180
  go_wp2
  go_loopw [8] (fun i wr => ∃ k : Nat, k ≤ n ∧ i = .int .i64 k ∧ Below w.heap.size w wr ∧ ∀ i, i < k → loB (at2 xs i) = false) (fun i _ => n - (intOf i).toNat)
  case atStart => exact ⟨0, Nat.zero_le _, rfl, Below.refl _ _, fun i h => absurd h (by omega)⟩
  case round =>
    obtain ⟨k, hk, rfl, hbl, hall⟩ := hrel
    have K : Hid (Below w.heap.size w wr ∧ (∀ i, i < k → loB (at2 xs i) = false) ∧ xs.length = n) := ⟨hbl, hall, hx⟩
    by_cases hlt : k < n
    · obtain ⟨c0, c1⟩ := (h1.get (i := k) (by omega)).below hbl hb
      clear hbl hall h1 hx
      cases hr : loB (at2 xs k) with
      | false =>
        go_wp2_with fail
        refine (lockedCell _ (at2 xs k)).mono ?_
        rw [hr]
        rintro e w1 ⟨rfl, b1⟩
        go_wp2
        refine ⟨⟨k + 1, by omega, by simp, K.out.1.trans (b1.mono K.out.1.size), fun i hi => ?_⟩, by simp [intOf]; omega⟩
        by_cases e : i = k
        · rw [e]; exact hr
        · exact K.out.2.1 i (by omega)
      | true =>
        go_wp2_with fail
        refine (lockedCell _ (at2 xs k)).mono ?_
        rw [hr]
        rintro e w1 ⟨rfl, b1⟩
        go_wp2
        go_ret
        exact ⟨(k : Int), rfl, by simp [lo_some (xs := xs) (i := k) (by rw [K.out.2.2]; exact hlt) hr], K.out.1.trans (b1.mono K.out.1.size)⟩
    · have : k = n := by omega
      subst this
      have hd : decide (k < k) = false := by simp
      go_wp2
      go_ret
      exact ⟨-1, rfl, by simp [lo_none (xs := xs) (by rw [hx]; exact hall)], hbl⟩
theorem containsLock_some (w : World) (b off cap n : Nat) (xs : List C2) (hx : xs.length = n) (hn : n ≤ maxLen) (h1 : CellsAt w b off xs) (hb : b < w.heap.size) :
    Calls Tryz.prog 132 #[.slice (some ⟨b, off, none⟩) n cap, .func (.func 130) #[] #[]] w fun e w' => e = .returned (.bool (xs.any loB)) ∧ Below w.heap.size w w' := by
  go_enter Tryz.func132, Tryz.ntmps132
  go_wp2_with fail
  refine (indexLock_some w b off cap n xs hx hn h1 hb).mono ?_
  rintro e w1 ⟨i, rfl, hi, b1⟩
  have HI : Hid (0 ≤ i ↔ xs.any loB = true) := hi
  clear hi
  go_wp2
  go_ret
  refine ⟨ret_bool ?_, b1⟩
  rw [decide_eq_true_eq, HI.out]
theorem isOpen_any (w : World) (b off cap : Nat) (xs : List C2) (hx : xs.length = 6) (h1 : CellsAt w b off xs) (hb : b < w.heap.size) :
    Calls Tryz.prog 74 #[.slice (some ⟨b, off, none⟩) 6 cap] w fun e w' => e = .returned (.bool (!xs.any loB)) ∧ Below w.heap.size w w' := by
  go_enter Tryz.func74, Tryz.ntmps74
  go_wp2_with fail
  refine (containsLock_some w b off cap 6 xs hx (by unfold maxLen; omega) h1 hb).mono ?_
  rintro e w1 ⟨rfl, b1⟩
  have KB := hidOf b1
  clear b1
  go_wp2
  go_ret
  exact ⟨rfl, KB.out⟩
def CofAns (w : World) (m : M4) (y : Int) (e : Ending) (w' : World) : Prop :=
  ∃ (a : Option Addr) (cp : Nat), e = .returned (.slice a (ansL m y).length cp) ∧ OwnCl w' w.heap.size a (ansL m y) ∧ Below w.heap.size w w'
set_option maxHeartbeats 2000000 in
theorem cellsOf_any (w : World) (m0 : Option Addr) (m1 : Nat) (m2 : Option Addr) (m3 : Nat) (m4 : Option Addr) (m5 : Nat) (m : M4) (y : Int) (hl : ML m) (hs : SlM w ⟨m0, m1, m2, m3, m4, m5⟩ m) :
    Calls Tryz.prog 73 #[.agg #[.bool m.alive, .slice m0 m.copies.length m1, .slice m2 m.log.length m3, .slice m4 m.cleared.length m5], .int .i64 y] w (CofAns w m y) := by
  obtain ⟨U, hU⟩ : ∃ Y, Y = w.alloc (.cells #[.bool m.alive, .slice m0 m.copies.length m1, .slice m2 m.log.length m3, .slice m4 m.cleared.length m5] 63) := ⟨_, rfl⟩
  have b0 : Below w.heap.size w U := by rw [hU]; exact (Below.refl _ _).alloc (Nat.le_refl _) _
  have hc := implCopied_any U ⟨m0, m1, m2, m3, m4, m5⟩ m y hl (hs.later b0)
  simp only [MV.val] at hc
  have KB := hidOf b0
  clear b0 hl hs
  go_enter Tryz.func73, Tryz.ntmps73
  go_wp2_with fail
  rw [← hU]
  clear hU
  refine hc.mono ?_
  clear hc
  rintro e w1 ⟨a, cp, rfl, ho, b1⟩
  have KO : Hid (OwnCl w1 w.heap.size a (ansL m y) ∧ Below w.heap.size w w1) := ⟨by
    rcases ho with h | ⟨q, h1, h2, h3⟩
    · exact .inl h
    · exact .inr ⟨q, h1, Nat.le_trans KB.out.size h2, h3⟩, bstep KB.out b1⟩
  clear ho b1
  go_wp2
  go_ret
  exact ⟨a, cp, rfl, KO.out⟩
def idxMF (w : World) (xs : List M4)  (f : Nat → Bool) : Prop :=
  ∀ (X : World) (i : Nat) (m0 : Option Addr) (m1 : Nat) (m2 : Option Addr) (m3 : Nat) (m4 : Option Addr) (m5 : Nat), Below w.heap.size w X → i < xs.length → KMk.Rd X ⟨m0, m1, m2, m3, m4, m5⟩ (atM xs i) → Calls Tryz.prog 117 #[.agg #[.bool (atM xs i).alive, .slice m0 (atM xs i).copies.length m1, .slice m2 (atM xs i).log.length m3, .slice m4 (atM xs i).cleared.length m5]] X fun e w' => e = .returned (.bool (f i)) ∧ Below X.heap.size X w'
set_option maxRecDepth 100000 in
set_option maxHeartbeats 2000000 in
theorem idxM (w : World) (a : Option Addr) (cap : Nat) (xs : List M4)  (f : Nat → Bool) (hn : xs.length ≤ maxLen) (hs : KMk.RdS w a xs) (hf : idxMF w xs  f) :
    Calls Tryz.prog 71 #[.slice a xs.length cap, .func (.func 117) #[] #[]] w fun e w' => (∃ i : Int, e = .returned (.int .i64 i) ∧ FirstAt f xs.length i) ∧ Below w.heap.size w w' := by
  unfold maxLen at hn
  have HF := hidOf hf
  clear hf
  go_enter Tryz.func71, Tryz.ntmps71
  go_wp2
  go_loopw [8] (fun v wr => ∃ j : Nat, j ≤ xs.length ∧ v = .int .i64 j ∧ Below w.heap.size w wr ∧ ∀ i, i < j → f i = false) (fun v _ => xs.length - (intOf v).toNat)
  case atStart => exact ⟨0, Nat.zero_le _, rfl, Below.refl _ _, fun i h => absurd h (by omega)⟩
  case round =>
    obtain ⟨j, hj, rfl, hbl, hall⟩ := hrel
    by_cases hlt : j < xs.length
    · rcases hs with hs | ⟨b, off, rfl, hb, h1⟩
      · rw [hs] at hlt; simp at hlt
      obtain ⟨⟨m0, m1, m2, m3, m4, m5⟩, hat, hrd⟩ := h1 j _ (atM_of hlt)
      have e0 : wr.cell? ⟨b, off + j * 4, none⟩ = some (.bool (atM xs j).alive) := (hbl.cell (p := ⟨b, off + j * 4, none⟩) hb).trans (hat 0 _ rfl)
      have e1 : wr.cell? ⟨b, off + j * 4 + 1, none⟩ = some (.slice m0 (atM xs j).copies.length m1) := (hbl.cell (p := ⟨b, off + j * 4 + 1, none⟩) hb).trans (hat 1 _ rfl)
      have e2 : wr.cell? ⟨b, off + j * 4 + 2, none⟩ = some (.slice m2 (atM xs j).log.length m3) := (hbl.cell (p := ⟨b, off + j * 4 + 2, none⟩) hb).trans (hat 2 _ rfl)
      have e3 : wr.cell? ⟨b, off + j * 4 + 3, none⟩ = some (.slice m4 (atM xs j).cleared.length m5) := (hbl.cell (p := ⟨b, off + j * 4 + 3, none⟩) hb).trans (hat 3 _ rfl)
      have hw := HF.out wr j m0 m1 m2 m3 m4 m5 hbl hlt (KMk.later hrd hbl)
      have KA : Hid ((∀ i, i < j → f i = false) ∧ Below w.heap.size w wr) := ⟨hall, hbl⟩
      have jn : (j : Int) < (xs.length : Int) := by omega
      clear h1 hat hrd hall hbl
      cases hp : f j with
      | true =>
        rw [hp] at hw
        go_wp2_with fail
        refine hw.mono ?_
        clear hw
        rintro e w1 ⟨rfl, b1⟩
        go_wp2
        go_ret
        exact ⟨⟨_, rfl, .inr ⟨j, rfl, hlt, hp, KA.out.1⟩⟩, KA.out.2.trans (b1.mono KA.out.2.size)⟩
      | false =>
        rw [hp] at hw
        go_wp2_with fail
        refine hw.mono ?_
        clear hw
        rintro e w1 ⟨rfl, b1⟩
        go_wp2
        exact ⟨⟨j + 1, by omega, by simp, KA.out.2.trans (b1.mono KA.out.2.size), fun i hi => by
          by_cases e : i = j
          · rw [e]; exact hp
          · exact KA.out.1 i (by omega)⟩, by simp [intOf]; omega⟩
    · obtain rfl : j = xs.length := by omega
      have hd : decide ((xs.length : Int) < (xs.length : Int)) = false := by simp
      have KA : Hid ((∀ i, i < xs.length → f i = false) ∧ Below w.heap.size w wr) := ⟨hall, hbl⟩
      clear hall hbl hs
      go_wp2
      go_ret
      exact ⟨⟨_, rfl, .inl ⟨rfl, KA.out.1⟩⟩, KA.out.2⟩
set_option maxHeartbeats 1000000 in
theorem idxM_has (w : World) (a : Option Addr) (cap : Nat) (xs : List M4)  (f : Nat → Bool) (hn : xs.length ≤ maxLen) (hs : KMk.RdS w a xs) (hf : idxMF w xs  f) :
    Calls Tryz.prog 38 #[.slice a xs.length cap, .func (.func 117) #[] #[]] w fun e w' => e = .returned (.bool (!((List.range xs.length).all fun j => !f j))) ∧ Below w.heap.size w w' := by
  have hc := idxM w a cap xs  f hn hs hf
  clear hs hf
  go_enter Tryz.func38, Tryz.ntmps38
  go_wp2_with fail
  refine hc.mono ?_
  clear hc
  rintro e w1 ⟨⟨i, rfl, hi⟩, b1⟩
  have h := first_has hi
  have KB := hidOf b1
  clear b1 hi
  go_wp2
  go_ret
  exact ⟨by rw [← h]; rfl, KB.out⟩
set_option maxHeartbeats 1000000 in
theorem machWrong (X : World) (m0 : Option Addr) (m1 : Nat) (m2 : Option Addr) (m3 : Nat) (m4 : Option Addr) (m5 : Nat) (m : M4) (hl : ML m) (h : SlM X ⟨m0, m1, m2, m3, m4, m5⟩ m) : Calls Tryz.prog 117 #[.agg #[.bool m.alive, .slice m0 m.copies.length m1, .slice m2 m.log.length m3, .slice m4 m.cleared.length m5]] X fun e w' => e = .returned (.bool (!machB m)) ∧ Below X.heap.size X w' := by
  obtain ⟨U, hU⟩ : ∃ Y, Y = X.alloc (.cells #[.bool m.alive, .slice m0 m.copies.length m1, .slice m2 m.log.length m3, .slice m4 m.cleared.length m5] 63) := ⟨_, rfl⟩
  have b0 : Below X.heap.size X U := by rw [hU]; exact (Below.refl _ _).alloc (Nat.le_refl _) _
  have hc := implMachineOk_any U ⟨m0, m1, m2, m3, m4, m5⟩ m hl (h.later b0)
  simp only [MV.val] at hc
  have KB := hidOf b0
  clear b0 hl h
  go_enter Tryz.func117, Tryz.ntmps117
  go_wp2_with fail
  rw [← hU]
  clear hU
  refine hc.mono ?_
  clear hc
  rintro e w1 ⟨rfl, b1⟩
  go_wp2
  go_ret
  exact ⟨rfl, bstep KB.out b1⟩
set_option maxHeartbeats 1000000 in
theorem machinesOk_any (w : World) (a : Option Addr) (cap : Nat) (ms : List M4) (hn : ms.length ≤ maxLen) (hl : ∀ m ∈ ms, ML m) (hs : KMk.RdS w a ms) :
    Calls Tryz.prog 66 #[.slice a ms.length cap] w fun e w' => e = .returned (.bool (decide (1 ≤ ms.length) && decide (ms.length ≤ 8) && machsB ms)) ∧ Below w.heap.size w w' := by
  have hc := idxM_has w a cap ms (fun i => !machB (atM ms i)) hn hs (fun X i m0 m1 m2 m3 m4 m5 hb hi hr => machWrong X m0 m1 m2 m3 m4 m5 (atM ms i) (hl _ (List.mem_of_getElem? (atM_of hi))) hr)
  have he : (!((List.range ms.length).all fun j => !(fun i => !machB (atM ms i)) j)) = !machsB ms := by simp [machsB]
  rw [he] at hc
  clear hs hl he
  unfold maxLen at hn
  by_cases g1 : 1 ≤ ms.length
  case neg =>
    have d1 : decide ((1 : Int) ≤ (ms.length : Int)) = false := by simp <;> omega
    have hb : (decide (1 ≤ ms.length) && decide (ms.length ≤ 8) && machsB ms) = false := by simp [g1]
    rw [hb]
    clear hc g1 hb
    go_enter Tryz.func66, Tryz.ntmps66
    go_wp2
    go_ret
    exact ⟨rfl, Below.refl _ _⟩
  have d1 : decide ((1 : Int) ≤ (ms.length : Int)) = true := by simp <;> omega
  by_cases g2 : ms.length ≤ 8
  case neg =>
    have d2 : decide ((ms.length : Int) ≤ 8) = false := by simp <;> omega
    have hb : (decide (1 ≤ ms.length) && decide (ms.length ≤ 8) && machsB ms) = false := by simp [g2]
    rw [hb]
    clear hc g2 hb g1
    go_enter Tryz.func66, Tryz.ntmps66
    go_wp2
    go_ret
    exact ⟨rfl, Below.refl _ _⟩
  have d2 : decide ((ms.length : Int) ≤ 8) = true := by simp <;> omega
  have hb : (decide (1 ≤ ms.length) && decide (ms.length ≤ 8) && machsB ms) = machsB ms := by simp [g1, g2]
  rw [hb]
  clear g1 g2 hb
  go_enter Tryz.func66, Tryz.ntmps66
  go_wp2_with fail
  refine hc.mono ?_
  clear hc
  rintro e w1 ⟨rfl, b1⟩
  have KB := hidOf b1
  clear b1
  go_wp2
  go_ret
  exact ⟨by simp, KB.out⟩
end Go.Proofs.YtphpcgmnljhimaaGreat