/- FnPlaces: Remap keeps a region's living machines in their order and fills it up to as many as there can be, Spread makes Places, and both answer as the specification does, at every code: no condition. -/
import Derived.Test.YtgohihcpmjfhdaaRows
import Derived.Test.YtgohihcpmjfhdaaRemapI
import Derived.Test.YtgohihcpmjfhdaaSpreadI
import Derived.Test.YtgohihcpmjfhdaaPlacesI
import Derived.Test.YtgohihcpmjfhdaaRemapS2
import Derived.Test.YtgohihcpmjfhdaaMarkOwn
import Derived.Test.YtgohihcpmjfhdaaLikePl
import Derived.Test.YtgohihcpmjfhdaaDrawR
import Derived.Test.YtgohihcpmjfhdaaDraw5
import Derived.Test.YtgohihcpmjfhdaaFills
import Derived.Test.YtgohihcpmjfhdaaBytesIn
import Derived.WalkKit
import Derived.ProofKit
import Derived.OpenShut
import Derived.WalkSpells
import Derived.WalkLawsBesides
import Derived.Lib.QuietBelow
import Derived.BigQuiet
namespace Go.Proofs.Ytgohihcpmjfhdaa
open Go.RowKit
/-- What was drawn and what Remap answered, as they lie. -/
structure PS (w : World) (x : Option Addr) (m : Nat) (zss : List (List Int)) (y : Option Addr) (l : Nat) (al : List Bool) (a7 : Option Addr) (zr : List (List Int)) (p7 : Option Addr) (lr : List Int) (W : World) : Prop where
  p : SlP W W.heap.size x m zss
  a : SlB W W.heap.size y l al
  r : SlP W W.heap.size a7 zr.length zr
  l : SlN W W.heap.size p7 lr.length lr
  b : Below w.heap.size w W
theorem PS.later {w : World} {x : Option Addr} {m : Nat} {zss : List (List Int)} {y : Option Addr} {l : Nat} {al : List Bool} {a7 : Option Addr} {zr : List (List Int)} {p7 : Option Addr} {lr : List Int} {W V : World} (h : PS w x m zss y l al a7 zr p7 lr W) (hb : Below W.heap.size W V) : PS w x m zss y l al a7 zr p7 lr V :=
  ⟨h.p.later hb, (h.a.below hb).mono hb.size, h.r.later hb, h.l.later hb, h.b.trans (hb.mono h.b.size)⟩
theorem remap_small (zss : List (List Int)) (al : List Bool) : (remapL zss al).length ≤ 6 ∧ (∀ zs ∈ remapL zss al, zs.length ≤ 3) ∧ lens (remapL zss al) ≤ 18 ∧ (lostL zss al).length ≤ 6 := by
  have key : (remapL zss al).length ≤ 6 ∧ (∀ zs ∈ remapL zss al, zs.length ≤ 3) ∧ (lostL zss al).length ≤ 6 := by
    cases h : remapB zss al with
    | false => simp [remapL, lostL, h]
    | true =>
      have h' := h
      simp only [remapB, Bool.and_eq_true, decide_eq_true_eq] at h'
      obtain ⟨p6, pin⟩ := places_in h'.1
      have hR : remapL zss al = remapN al zss zss.length := by simp [remapL, h]
      have hL : lostL zss al = lostN al zss zss.length := by simp [lostL, h]
      rw [hR, hL, remapN_len]
      refine ⟨p6, fun zs hz => ?_, Nat.le_trans (lostN_len al zss _) p6⟩
      obtain ⟨i, hi, rfl⟩ := List.mem_map.1 hz
      have z3 := (place_in (pin i (List.mem_range.1 hi))).2.1
      rw [rowR]
      split
      · exact z3
      · exact (fillTo_len al _ (Nat.le_trans (keepL_len al _) z3) _).2
  refine ⟨key.1, key.2.1, ?_, key.2.2⟩
  have := lens_le key.2.1
  omega
theorem cntB_le (al : List Bool) : ∀ m, cntB al m ≤ m
  | 0 => Nat.le_refl _
  | m + 1 => by
    have := cntB_le al m
    rw [cntB]
    split <;> omega
theorem hasB_take {zs : List Int} {z : Int} {k : Nat} (h : k < zs.length) : hasB (zs.take (k + 1)) z = (hasB (zs.take k) z || (atN zs k == z)) := by
  rw [List.take_add_one, atN_of h, hasB, hasB, List.any_append]
  simp
  rfl
end Go.Proofs.Ytgohihcpmjfhdaa
namespace Go.Proofs.Ytgohihcpmjfhdaa.fnPlaces
open Go.ChangeShapes Go.WideShapes Go.ChangeAt Go.RowKit
open Go.Sort (grow)
theorem own : ownKnob Try.prog.godebug = none := by kernel_rfl
theorem laidOut : laidOutB Try.prog = true := by kernel_rfl
set_option maxRecDepth 100000 in
set_option maxHeartbeats 16000000 in
theorem walk (a : Option Addr) (n k : Nat) (w : World) (hb : Bytes w w.heap.size a n) :
    Calls Try.prog 3 #[.slice a n k] w fun e w' => e = .returned (.bool true) ∧ Below w.heap.size w w' := by
  have hmm := hb.1
  unfold maxLen at hmm
  by_cases hn : n ≤ 4096
  · have HB : Hid (Bytes w w.heap.size a n) := hb
    clear hb
    go_enter Try.func3, Try.ntmps3
    go_wp2_with (go_at_call 9; go_in)
    refine (DrawRemap_any w a n k HB.out hn).mono ?_
    rintro e w1 ⟨x, m, cap, zss, y, l, cl, al, rfl, sp, m7, z4, sb, l9, be⟩
    have K1 : Hid (SlP w1 w1.heap.size x m zss ∧ SlB w1 w1.heap.size y l al ∧ Below w.heap.size w w1) := ⟨sp, sb, be⟩
    have hx : zss.length = m := sp.1
    have hal : al.length = l := sb.1
    have hmx : m ≤ maxLen := by unfold maxLen; omega
    clear sp sb be
    obtain ⟨r6, r3, r18, l6⟩ := remap_small zss al
    have hI := implRemap_any w1 x m cap zss y l cl al hmx K1.out.1 K1.out.2.1
    have hS := fun W h h' => specRemap_any W x m cap zss y l cl al hmx h h'
    unfold RemapPostI at hI
    unfold RemapPost at hS
    have HR : Hid (∀ zs ∈ remapL zss al, zs.length ≤ maxLen) := fun zs h => by have := r3 zs h; unfold maxLen; omega
    have HZ : Hid (remapB zss al = true → (remapL zss al).length = m ∧ placesB (remapL zss al) = true ∧ (∀ i, i < m → (remapL zss al)[i]? = some (rowR al (atP zss i))) ∧ (∀ i, i < m → placeB (atP zss i) = true) ∧ al.length ≤ 8 ∧ lostL zss al = lostN al zss m) := fun h => by
      have h' := h
      simp only [remapB, Bool.and_eq_true, decide_eq_true_eq] at h'
      have pin := (places_in h'.1).2
      exact ⟨by simp [remapL, h, remapN_len, hx], remap_places h, fun i hi => remap_at h (by omega), fun i hi => pin i (by omega), h'.2, by simp [lostL, h, hx]⟩
    have HZ0 : Hid (remapB zss al = false → remapL zss al = []) := fun h => by simp [remapL, h]
    obtain ⟨zr, hzr⟩ : ∃ zr, remapL zss al = zr := ⟨_, rfl⟩
    obtain ⟨lr, hlr⟩ : ∃ lr, lostL zss al = lr := ⟨_, rfl⟩
    simp only [hzr, hlr] at hI hS HR HZ HZ0 r6 l6
    have HS : Hid _ := hS
    clear hS hzr hlr r3 r18
    have zm : zr.length ≤ maxLen := by unfold maxLen; omega
    have lm : lr.length ≤ maxLen := by unfold maxLen; omega
    go_wp2_with fail
    refine hI.mono ?_
    clear hI
    rintro e w2 ⟨a7, c7, g7, p7, cq7, rfl, q7, n7, -, be2⟩
    have K2 : Hid (PS w x m zss y l al a7 zr p7 lr w2) := ⟨K1.out.1.later be2, (K1.out.2.1.below be2).mono be2.size, q7.sl, n7.sl rfl, K1.out.2.2.trans (be2.mono K1.out.2.2.size)⟩
    clear q7 n7 be2 K1
    go_wp2_with fail
    refine (HS.out w2 K2.out.p K2.out.a).mono ?_
    rintro e w3 ⟨b3, c3, g3, q3, cq3, rfl, o3, l3, n3, -, -, be3⟩
    have K3 : Hid (PS w x m zss y l al a7 zr p7 lr w3 ∧ SlP w3 w3.heap.size (some ⟨b3, 0, none⟩) zr.length zr ∧ SlN w3 w3.heap.size (some ⟨q3, 0, none⟩) lr.length lr) := ⟨K2.out.later be3, o3.sl l3, n3.sl rfl⟩
    clear o3 l3 n3 be3 K2 HS
    go_wp2_with fail
    refine (likePlaces_any w3 _ _ zr.length c7 c3 zr zm HR.out K3.out.1.r K3.out.2.1).mono ?_
    rintro e w4 ⟨rfl, be4⟩
    have K4 : Hid (PS w x m zss y l al a7 zr p7 lr w4 ∧ SlN w4 w4.heap.size (some ⟨q3, 0, none⟩) lr.length lr) := ⟨K3.out.1.later be4, K3.out.2.2.later be4⟩
    clear be4 K3
    go_wp2_with fail
    refine (likeInts_any w4 _ _ lr.length cq7 cq3 lr lm K4.out.1.l K4.out.2).mono ?_
    rintro e w5 ⟨rfl, be5⟩
    have K5 : Hid (PS w x m zss y l al a7 zr p7 lr w5) := K4.out.1.later be5
    clear be5 K4
    go_wp2_with fail
    refine (DrawSpread_any w5 a n k ((HB.out.below K5.out.b).mono K5.out.b.size) hn).mono ?_
    rintro e w6 ⟨R, M, rfl, be6⟩
    have K6 : Hid (PS w x m zss y l al a7 zr p7 lr w6) := K5.out.later be6
    clear be6 K5
    obtain ⟨s6, s3, _⟩ := spreadL_small R M
    have hSI := implSpread_any w6 R M
    have hSS := fun W => specSpread_any W R M
    have HSP : Hid (spreadB R M = true → placesB (spreadL R M) = true ∧ primR (spreadL R M) 0 = 0) := fun h => spread_places h
    have HSL : Hid (∀ zs ∈ spreadL R M, zs.length ≤ maxLen) := fun zs h => by have := s3 zs h; unfold maxLen; omega
    obtain ⟨ss, hss⟩ : ∃ ss, spreadL R M = ss := ⟨_, rfl⟩
    obtain ⟨sB, hsB⟩ : ∃ sB, spreadB R M = sB := ⟨_, rfl⟩
    simp only [hss, hsB] at hSI hSS HSP HSL s6
    have HSS : Hid _ := hSS
    clear hSS s3 hss hsB
    have sm : ss.length ≤ maxLen := by unfold maxLen; omega
    go_wp2_with fail
    refine hSI.mono ?_
    clear hSI
    rintro e w7 ⟨a8, c8, g8, rfl, q8, be8⟩
    have K7 : Hid (PS w x m zss y l al a7 zr p7 lr w7 ∧ SlP w7 w7.heap.size a8 ss.length ss) := ⟨K6.out.later be8, q8.sl⟩
    clear q8 be8 K6
    go_wp2_with fail
    refine (HSS.out w7).mono ?_
    rintro e w8 ⟨b9, c9, g9, rfl, o9, l9', be9⟩
    have K8 : Hid (PS w x m zss y l al a7 zr p7 lr w8 ∧ SlP w8 w8.heap.size a8 ss.length ss ∧ SlP w8 w8.heap.size (some ⟨b9, 0, none⟩) ss.length ss) := ⟨K7.out.1.later be9, K7.out.2.later be9, o9.sl l9'⟩
    clear o9 l9' be9 K7 HSS
    have dB : (sB != sB) = false := by cases sB <;> rfl
    go_wp2_with fail
    refine (likePlaces_any w8 _ _ ss.length c8 c9 ss sm HSL.out K8.out.2.1 K8.out.2.2).mono ?_
    rintro e w9 ⟨rfl, be10⟩
    have K9 : Hid (PS w x m zss y l al a7 zr p7 lr w9 ∧ SlP w9 w9.heap.size a8 ss.length ss) := ⟨K8.out.1.later be10, K8.out.2.1.later be10⟩
    clear be10 K8
    have hrB2 : remapB zss al = false ∨ remapB zss al = true := by cases remapB zss al <;> simp
    rcases hrB2 with hrb | hrb
    · have HRB : Hid (remapB zss al = false) := hrb
      have hz0 : zr = [] := HZ0.out hrb
      have zl0 : ((zr.length : Int) == 0) = true := by rw [hz0]; rfl
      clear hz0 hrb
      have hB2 : sB = false ∨ sB = true := by cases sB <;> simp
      rcases hB2 with rfl | rfl
      case' inl =>
        have BW : Hid (PS w x m zss y l al a7 zr p7 lr w9) := K9.out.1
        clear K9 HSP
        go_wp2_with fail
        generalize w9 = W9 at *
      case' inr =>
        go_wp2_with fail
        have hpk := implPlacesOk_any w9 a8 ss.length c8 ss sm K9.out.2
        rw [(HSP.out (by simp)).1] at hpk
        refine hpk.mono ?_
        clear hpk
        rintro e w10 ⟨rfl, be11⟩
        have K10 : Hid (PS w x m zss y l al a7 zr p7 lr w10 ∧ SlP w10 w10.heap.size a8 ss.length ss) := ⟨K9.out.1.later be11, K9.out.2.later be11⟩
        clear be11 K9
        go_wp2_with fail
        have hpr := implPrimary_any w10 a8 ss.length c8 0 ss sm K10.out.2
        rw [(HSP.out (by simp)).2] at hpr
        refine hpr.mono ?_
        clear hpr
        rintro e w11 ⟨rfl, be12⟩
        have BW : Hid (PS w x m zss y l al a7 zr p7 lr w11) := K10.out.1.later be12
        clear be12 K10 HSP
        go_wp2_with fail
        generalize w11 = W9 at *
      all_goals
        have hpk := implPlacesOk_any W9 x m cap zss hmx BW.out.p
        refine hpk.mono ?_
        clear hpk
        cases hpz : placesB zss with
        | false =>
          rintro e w12 ⟨rfl, be13⟩
          have B12 : Hid (Below w.heap.size w w12) := BW.out.b.trans (be13.mono BW.out.b.size)
          clear be13
          go_wp2
          go_ret
          exact ⟨rfl, B12.out⟩
        | true =>
          have d8 : decide ((8 : Int) < (l : Int)) = true := by
            have := HRB.out
            simp only [remapB, hpz, Bool.true_and, decide_eq_false_iff_not] at this
            simp; omega
          rintro e w12 ⟨rfl, be13⟩
          have B12 : Hid (Below w.heap.size w w12) := BW.out.b.trans (be13.mono BW.out.b.size)
          clear be13
          go_wp2
          go_ret
          exact ⟨rfl, B12.out⟩
    · obtain ⟨zl, zp, zat, zpl, al8, hlr⟩ := HZ.out hrb
      have HZA : Hid (placesB zr = true ∧ (∀ i, i < m → zr[i]? = some (rowR al (atP zss i))) ∧ (∀ i, i < m → placeB (atP zss i) = true) ∧ al.length ≤ 8 ∧ lr = lostN al zss m ∧ zr.length = m) := ⟨zp, zat, zpl, al8, hlr, zl⟩
      have hm1 : 1 ≤ m := by
        simp only [placesB, Bool.and_eq_true, decide_eq_true_eq] at zp
        omega
      have zl0 : ((zr.length : Int) == 0) = false := by simp; intro h; rw [h] at zl; simp at zl; omega
      clear zp zat zpl al8 hlr hrb HZ HZ0 zl
      have hB2 : sB = false ∨ sB = true := by cases sB <;> simp
      rcases hB2 with rfl | rfl
      case' inl =>
        have BW : Hid (PS w x m zss y l al a7 zr p7 lr w9) := K9.out.1
        clear K9 HSP
        go_wp2_with fail
        generalize w9 = W9 at *
      case' inr =>
        go_wp2_with fail
        have hpk := implPlacesOk_any w9 a8 ss.length c8 ss sm K9.out.2
        rw [(HSP.out (by simp)).1] at hpk
        refine hpk.mono ?_
        clear hpk
        rintro e w10 ⟨rfl, be11⟩
        have K10 : Hid (PS w x m zss y l al a7 zr p7 lr w10 ∧ SlP w10 w10.heap.size a8 ss.length ss) := ⟨K9.out.1.later be11, K9.out.2.later be11⟩
        clear be11 K9
        go_wp2_with fail
        have hpr := implPrimary_any w10 a8 ss.length c8 0 ss sm K10.out.2
        rw [(HSP.out (by simp)).2] at hpr
        refine hpr.mono ?_
        clear hpr
        rintro e w11 ⟨rfl, be12⟩
        have BW : Hid (PS w x m zss y l al a7 zr p7 lr w11) := K10.out.1.later be12
        clear be12 K10 HSP
        go_wp2_with fail
        generalize w11 = W9 at *
      all_goals
        go_loop [15, 16] (fun v15 v16 => ∃ i : Nat, i ≤ l ∧ v16 = .int .i64 i ∧ v15 = .int .i64 (cntB al i : Int)) (fun _ v16 => l - (intOf v16).toNat)
        case atStart => exact ⟨0, Nat.zero_le _, rfl, rfl⟩
        case round =>
          obtain ⟨i, hi, rfl, rfl⟩ := hrel
          have hcl := cntB_le al i
          by_cases hlt : i < l
          · have hlt' : (i : Int) < (l : Int) := by omega
            obtain ⟨_, hsb⟩ := BW.out.a
            rcases hsb with h0 | ⟨ba, oa, rfl, hba, hbo⟩
            · omega
            · have ca := hbo i _ (atB_of (by omega))
              have HCS : Hid (cntB al (i + 1) = if atB al i = true then cntB al i + 1 else cntB al i) := rfl
              clear hbo hba
              cases hv : atB al i with
              | true =>
                rw [hv] at ca
                go_wp2
                exact ⟨⟨i + 1, by omega, by simp, by rw [HCS.out, if_pos hv]; simp⟩, by simp [intOf]; omega⟩
              | false =>
                rw [hv] at ca
                go_wp2
                exact ⟨⟨i + 1, by omega, by simp, by rw [HCS.out, if_neg (by rw [hv]; simp)]⟩, by simp [intOf]; omega⟩
          · obtain rfl : l = i := by omega
            have hd : decide ((l : Int) < (l : Int)) = false := by simp
            obtain ⟨ct, hct⟩ : ∃ ct, cntB al l = ct := ⟨_, rfl⟩
            have HCT : Hid (cntB al al.length = ct) := by unfold Hid; rw [hal, hct]
            rw [hct] at hcl
            rw [hct]
            clear hct
            go_wp2
            go_loopw [17, 18] (fun v17 v18 wr => ∃ i : Nat, i ≤ m ∧ v18 = .int .i64 i ∧ v17 = .int .i64 ((lostN al zss i).length : Int) ∧ PS w x m zss y l al a7 zr p7 lr wr) (fun _ v18 _ => m - (intOf v18).toNat)
            case atStart => exact ⟨0, Nat.zero_le _, rfl, rfl, BW.out⟩
            case round =>
              clear BW
              obtain ⟨i, hi, rfl, rfl, ps⟩ := hrel
              have K : Hid (PS w x m zss y l al a7 zr p7 lr wr) := ps
              clear ps
              have hnl := lostN_len al zss i
              by_cases hlt : i < m
              · have hlt' : (i : Int) < (m : Int) := by omega
                have HLS : Hid (lostN al zss (i + 1) = if keepL al (atP zss i) = [] then lostN al zss i ++ [(i : Int)] else lostN al zss i) := lostN_succ al zss i
                have HGO : Hid (hasB lr (i : Int) = decide (keepL al (atP zss i) = [])) := by unfold Hid; rw [HZA.out.2.2.2.2.1]; exact lost_has al zss hlt
                obtain ⟨nl, hnl'⟩ : ∃ nl, (lostN al zss i).length = nl := ⟨_, rfl⟩
                have HNL : Hid ((lostN al zss i).length = nl) := hnl'
                rw [hnl'] at hnl
                rw [hnl']
                clear hnl'
                go_wp2
                go_loop [19, 20] (fun v19 v20 => ∃ q : Nat, q ≤ lr.length ∧ v20 = .int .i64 q ∧ v19 = .bool (hasB (lr.take q) (i : Int))) (fun _ v20 => lr.length - (intOf v20).toNat)
                case atStart => exact ⟨0, Nat.zero_le _, rfl, rfl⟩
                case round =>
                  obtain ⟨q, hq, rfl, rfl⟩ := hrel
                  by_cases hql : q < lr.length
                  · have hql' : (q : Int) < (lr.length : Int) := by omega
                    have HTK : Hid (hasB (lr.take (q + 1)) (i : Int) = (hasB (lr.take q) (i : Int) || (atN lr q == (i : Int)))) := hasB_take hql
                    cases hg : hasB (lr.take q) (i : Int) with
                    | true =>
                      go_wp2
                      exact ⟨⟨q + 1, by omega, by simp, by rw [HTK.out, hg]; rfl⟩, by simp [intOf]; omega⟩
                    | false =>
                      obtain ⟨_, hsl⟩ := K.out.l
                      rcases hsl with h0 | ⟨bl, ol, rfl, hbl, hno⟩
                      · omega
                      · have cl := hno q _ (atN_of hql)
                        clear hno hbl
                        obtain ⟨ev, hev⟩ : ∃ ev, (atN lr q == (i : Int)) = ev := ⟨_, rfl⟩
                        go_wp2
                        exact ⟨⟨q + 1, by omega, by simp, by rw [HTK.out, hg, hev]; rfl⟩, by simp [intOf]; omega⟩
                  · obtain rfl : lr.length = q := by omega
                    have hdq : decide ((lr.length : Int) < (lr.length : Int)) = false := by simp
                    rw [List.take_length, HGO.out]
                    obtain ⟨row, hrow⟩ : ∃ row, rowR al (atP zss i) = row := ⟨_, rfl⟩
                    have hat := HZA.out.2.1 i hlt
                    rw [hrow] at hat
                    have hzl : zr.length = m := HZA.out.2.2.2.2.2
                    by_cases hk : keepL al (atP zss i) = []
                    · rw [decide_eq_true hk]
                      have HKL : Hid (keepL al (atP zss i) = []) := hk
                      have erow : row = atP zss i := by rw [← hrow]; exact row_lost hk
                      have hml : row.length ≤ maxLen := HR.out row (List.mem_of_getElem? hat)
                      obtain ⟨_, hsr⟩ := K.out.r
                      obtain ⟨_, hsp⟩ := K.out.p
                      rcases hsr with h0 | ⟨bx, ox, rfl, hbx, hx1⟩
                      · omega
                      · rcases hsp with h0 | ⟨bp, op, rfl, hbp, hp1⟩
                        · omega
                        · obtain ⟨a1, k1, d1, s1, _⟩ := hx1 i row hat
                          obtain ⟨a2, k2, d2, s2, _⟩ := hp1 i (atP zss i) (atP_of (by omega))
                          rw [← erow] at d2 s2
                          have c1 : ∀ d os, (grow (redrawn wr d) os).cell? ⟨bx, ox + i, none⟩ = some (.slice a1 row.length k1) := fun d os => ((below_regrown wr d os).cell (p := ⟨bx, ox + i, none⟩) hbx).trans d1
                          have c2 : ∀ d os, (grow (redrawn wr d) os).cell? ⟨bp, op + i, none⟩ = some (.slice a2 row.length k2) := fun d os => ((below_regrown wr d os).cell (p := ⟨bp, op + i, none⟩) hbp).trans d2
                          have cQ : ∀ d os, Calls Try.prog 14 #[.slice a1 row.length k1, .slice a2 row.length k2] (grow (redrawn wr d) os) fun e w'' => e = .returned (.bool true) ∧ ∃ p : Regrown, w'' = grow (redrawn wr p.d) p.os := fun d os => Calls.regrown_of (likeInts_any _ a1 a2 _ k1 k2 row hml (s1.later (below_regrown wr d os)) (s2.later (below_regrown wr d os)))
                          have hzi : (i : Int) < (zr.length : Int) := by omega
                          clear hx1 hp1 s1 s2 d1 d2 hat hrow erow hml hk hzl
                          go_wp2_with fail
                          refine wp_region_quiet_below (by kernel_rfl) (by kernel_rfl) ?_
                          repeat (go_big_quiet_step (exact cQ _ _))
                          refine wpQuiet_nil ?_
                          intro _ hw'
                          obtain ⟨⟨dq, osq⟩, hw''⟩ := hw'
                          subst hw''
                          have bq := below_regrown wr dq osq
                          go_wp2
                          exact ⟨⟨i + 1, by omega, by simp, by rw [HLS.out, if_pos HKL.out, List.length_append, HNL.out]; simp, K.out.later bq⟩, by simp [intOf]; omega⟩
                    · rw [decide_eq_false hk]
                      have HKL : Hid (keepL al (atP zss i) ≠ []) := hk
                      obtain ⟨rk1, rk2, rk3⟩ := row_kept (HZA.out.2.2.1 i hlt) HZA.out.2.2.2.1 hk
                      rw [hrow] at rk1 rk2
                      rw [HCT.out] at rk1
                      have HRK : Hid (∀ z ∈ row, z ∈ livL al al.length) := rk2
                      have hr3 : row.length ≤ 3 := by omega
                      have hrg : regionB zr (i : Int) = true := by rw [regionB, HZA.out.1, Bool.true_and, inB_iff]; omega
                      have hbk : (backL zr (i : Int)).length = row.length - 1 := by
                        rw [backL, if_pos hrg, Int.toNat_natCast, atP, hat]; simp
                      have hbc := fun W (h : SlP W W.heap.size a7 zr.length zr) => implBackups_any W a7 zr.length c7 (i : Int) zr zm h
                      rw [hbk] at hbc
                      have HBC : Hid (∀ W, SlP W W.heap.size a7 zr.length zr → Calls Try.prog 20 #[.slice a7 zr.length c7, .int .i64 (i : Int)] W fun e w' => ∃ b cap', e = .returned (.slice b (row.length - 1) cap') ∧ Below W.heap.size W w') := fun W h => (hbc W h).mono fun e w' ⟨b, cp, h1, _, h3⟩ => ⟨b, cp, h1, h3⟩
                      have HAT : Hid (zr[i]? = some row) := hat
                      clear hbc hbk hrg rk2 rk3 hat hrow hk
                      obtain ⟨_, hsr⟩ := K.out.r
                      rcases hsr with h0 | ⟨bx, ox, rfl, hbx, hx1⟩
                      · omega
                      · obtain ⟨a1, k1, d1, s1, _⟩ := hx1 i row HAT.out
                        have hzi : (i : Int) < (zr.length : Int) := by omega
                        have S1 : Hid (SlN wr wr.heap.size a1 row.length row ∧ bx < wr.heap.size) := ⟨s1, hbx⟩
                        clear hx1 s1 hbx
                        have hr1 : 1 ≤ row.length := by
                          have := (placeB_iff.1 (List.all_eq_true.1 (by have := HZA.out.1; simp only [placesB, Bool.and_eq_true] at this; exact this.2) i (List.mem_range.2 (by omega)))).1
                          rw [atP, HAT.out] at this
                          exact this
                        clear hzl
                        have hct3 : 3 < ct ∨ ct ≤ 3 := by omega
                        rcases hct3 with h3 | h3
                        case' inl =>
                          have e3 : row.length = 3 := by omega
                          have g3 : (3 : Int) < (ct : Int) := by omega
                          have q1 : ((row.length : Int) != 3) = false := by rw [e3]; rfl
                          have q2 : (((row.length - 1 : Nat) : Int) != 2) = false := by rw [e3]; rfl
                          clear e3 rk1
                          go_wp2_with fail
                        case' inr =>
                          have e3 : row.length = ct := by omega
                          have g3 : decide ((3 : Int) < (ct : Int)) = false := by simp; omega
                          have q1 : ((row.length : Int) != (ct : Int)) = false := by rw [e3]; simp
                          have q2 : (((row.length - 1 : Nat) : Int) != (ct : Int) - 1) = false := by rw [e3]; simp; omega
                          clear e3 rk1
                          go_wp2_with fail
                        all_goals
                          refine (HBC.out wr K.out.r).mono ?_
                          rintro e W12 ⟨bb, cbb, rfl, be14⟩
                          have dx := (be14.cell (p := ⟨bx, ox + i, none⟩) S1.out.2).trans d1
                          have K12 : Hid (PS w x m zss y l al (some ⟨bx, ox, none⟩) zr p7 lr W12 ∧ SlN W12 W12.heap.size a1 row.length row) := ⟨K.out.later be14, S1.out.1.later be14⟩
                          clear be14
                          go_wp2
                          go_loop [22] (fun v22 => ∃ q : Nat, q ≤ row.length ∧ v22 = .int .i64 q) (fun v22 => row.length - (intOf v22).toNat)
                          case atStart => exact ⟨0, Nat.zero_le _, rfl⟩
                          case round =>
                            obtain ⟨q, hq, rfl⟩ := hrel
                            by_cases hql : q < row.length
                            · have hql' : (q : Int) < (row.length : Int) := by omega
                              obtain ⟨_, hsn⟩ := K12.out.2
                              rcases hsn with h0 | ⟨b1, o1, rfl, hb1, hn1⟩
                              · omega
                              · have cz := hn1 q _ (atN_of hql)
                                obtain ⟨jz, hjz, hjl, hjb⟩ := livL_mem.1 (HRK.out _ (List.mem_of_getElem? (atN_of hql)))
                                rw [hjz] at cz
                                obtain ⟨_, hsb⟩ := K12.out.1.a
                                rcases hsb with h0 | ⟨ba, oa, rfl, hba, hbo⟩
                                · omega
                                · have ca := hbo jz _ (atB_of hjl)
                                  rw [hjb] at ca
                                  have hj1 : (jz : Int) < (l : Int) := by omega
                                  have hj2 : decide ((l : Int) ≤ (jz : Int)) = false := by simp; omega
                                  clear hbo hba hn1 hb1 hjz
                                  go_wp2
                                  exact ⟨⟨q + 1, by omega, by simp⟩, by simp [intOf]; omega⟩
                            · obtain rfl : row.length = q := by omega
                              have hdr : decide ((row.length : Int) < (row.length : Int)) = false := by simp
                              go_wp2
                              exact ⟨⟨i + 1, by omega, by simp, by rw [HLS.out, if_neg HKL.out, HNL.out], K12.out.1⟩, by simp [intOf]; omega⟩
              · obtain rfl : m = i := by omega
                have hdm : decide ((m : Int) < (m : Int)) = false := by simp
                have hll : (lostN al zss m).length = lr.length := by rw [HZA.out.2.2.2.2.1]
                rw [hll]
                clear hll hnl
                go_wp2_with fail
                have hpk := implPlacesOk_any wr a7 zr.length c7 zr zm K.out.r
                rw [HZA.out.1] at hpk
                refine hpk.mono ?_
                clear hpk
                rintro e w12 ⟨rfl, be13⟩
                have B12 : Hid (Below w.heap.size w w12) := K.out.b.trans (be13.mono K.out.b.size)
                clear be13
                go_wp2
                go_ret
                exact ⟨rfl, B12.out⟩
  · go_enter Try.func3, Try.ntmps3
    have hbig : (4096 : Int) < (n : Int) := by omega
    go_wp2_with (go_at_call 9; go_in)
    go_ret
    exact ⟨rfl, Below.refl _ _⟩
set_option maxRecDepth 100000 in
theorem lifted (os : Os) (started : os.Started) (H : Type) (enc : TypeId × Value → H) :
    ReturnsInHanded {} Try.checked os 3 .any (Rows.fnPlacesSpec.pre6 enc Try.prog Try.f3 Rows.fnPlacesRow.domain false) (Rows.fnPlacesSpec.post enc Try.prog Try.f3 false true false false) := by
  refine returnsInHanded_of_change (C := Try.checked) own started (by kernel_rfl) Try.func3
    (ChangeSpec.witness6 (enc := enc) (C := Try.checked) false ⟨#[], #[.slice none 0 0], []⟩ 8 (by kernel_rfl) (by kernel_rfl) (by kernel_rfl) (by kernel_rfl)) ?_
  intro W base args ds gs before hval0 hW hcnd _
  have hval : ∀ (j : Nat) t v, Try.f3.params[j]? = some t → args[j]? = some v → Value.okWide Try.prog W .any base t v := hval0
  have hW' := hW
  obtain ⟨p, q, hA0, hV, rfl, hfz, hnd⟩ := hW
  have hA : DataW.TrodAll enc Try.prog W 0 (fun _ => true) true Try.f3.params.toList args.toList ds p := hA0
  rw [Try.params3] at hA hval
  obtain ⟨v0, vs0, d0, ds0, p0, q0, hargs, rfl, rfl, h0, r0⟩ := trodAll_cons hA
  obtain ⟨rfl, rfl, rfl⟩ := trodAll_nil r0
  obtain rfl : args = #[v0] := by cases args; simp_all
  obtain ⟨rfl, rfl⟩ := trodVars_none hV
  obtain ⟨a0, len0, cap0, rfl⟩ := okWide_slice Try.underlying22 (hval 0 22 v0 rfl rfl)
  have k0 := h0
  have lt0 : ∀ x ∈ p0, x.block < W.heap.size := by obtain ⟨m, hm⟩ := k0; exact DataW.trod_lt m _ _ _ hm
  obtain ⟨z0, w0⟩ : ∃ zs, IsRow .u8 W a0 len0 cap0 zs := by
    obtain ⟨fuel, hf⟩ := h0
    rcases open_ints Try.underlying22 Try.underlying5 (by kernel_rfl) hf with ⟨hcs, _⟩ | ⟨x, l, c, zs, hcs, _, hl, hm, hz, _, hcell, hwz⟩
    · simp [Value.cells] at hcs
      obtain ⟨rfl, rfl, rfl⟩ := hcs
      exact ⟨[], .inl ⟨rfl, rfl, rfl, rfl⟩⟩
    · simp [Value.cells] at hcs
      obtain ⟨rfl, rfl, rfl⟩ := hcs
      exact ⟨zs, .inr ⟨_, rfl, hl, hm, by simpa using hz, hcell, hwz⟩⟩
  clear hA0 hval0
  refine (walk a0 len0 cap0 W w0.bytes).mono fun e W' ⟨he, bel⟩ => ?_
  subst he
  exact ⟨_, rfl, _, _, _, [], _, [], hW', trodAll_mk1 (shut_bool Try.underlying4 _), (trodAll_cons_mk (Below.trod laidOut (by kernel_rfl) (of_decide_eq_true (by kernel_rfl)) k0 bel lt0) trodAll_mk0), rfl, bel.frame _, fun h => by cases h⟩

theorem over : Rows.fnPlacesRow.holds Try.pinned (OpenSpec.ofChange Rows.fnPlacesSpec) :=
  OpenClaim.holds_of_wide 3 Try.f3 rfl rfl rfl rfl rfl rfl rfl ⟨rfl, rfl, rfl, rfl, rfl⟩ rfl rfl rfl rfl rfl (by kernel_rfl) Try.func3 (by kernel_rfl)
    (of_decide_eq_true (by kernel_rfl)) (by unfold Func.isWrapper; first | (rw [if_pos (by decide +kernel)]; kernel_rfl) | (rw [if_neg (by decide +kernel)]; exact ⟨rfl, rfl⟩))
    (fun os started H enc _ => lifted os started H enc)

end Go.Proofs.Ytgohihcpmjfhdaa.fnPlaces
namespace Go.Proofs.Ytgohihcpmjfhdaa
theorem fnPlaces_holds : Rows.FnPlacesSaid := fnPlaces.over
#print axioms fnPlaces_holds
end Go.Proofs.Ytgohihcpmjfhdaa
