/- PlacesI1; PlacesIa; CluI7; Cmp; FindT; YSofD; YPilM; YPilC; YPilN; HeapP; YLftN; YSnkN; YTakN; YInoN; YPutN; YPOfN; YPilS; YLftS; YSnkS; YTakS; YInoS; YPutS; YPOfS; YChkS: joined. -/
import Derived.Test.YtdmpobegobfpjaaGreatRows
import Derived.Test.YtdmpobegobfpjaaGreatJ6ExactSerial
import Derived.WalkKit
import Derived.WalkSpells
import Derived.WalkLawsBesides
import Derived.Below
import Derived.BigQuiet
import Derived.Deep.QuietTactic
import Derived.Test.YtdmpobegobfpjaaGreatJ8ExactSerial
import Derived.Test.YtdmpobegobfpjaaGreatJ0ExactSerial
import Derived.Lib.QuietBelow
import Derived.Deep.CutRange
import Derived.Test.YtdmpobegobfpjaaGreatJ7ExactSerial
import Derived.Test.YtdmpobegobfpjaaGreatJ2ExactSerial
import Derived.Maps.OwnSet
import Derived.Maps.Views
import Derived.DeepKeys4
import Derived.Deep.RegionWith
namespace Go.Proofs.YtdmpobegobfpjaaGreat
open Go.RowKit
theorem implMachine (w : World) (x : Int) : Calls Tryz.prog 159 #[.int .i64 x] w fun e w' => e = .returned (.bool (inB 0 7 x)) ∧ w' = w := by
  by_cases h0 : 0 ≤ x
  · by_cases h8 : x < 8
    · rw [inB_yes (by omega) (by omega)]
      go_enter Tryz.func159, Tryz.ntmps159
      go_wp2
      go_ret
      exact ⟨rfl, rfl⟩
    · have hd : decide (x < 8) = false := by simp; omega
      have hb : inB 0 7 x = false := by cases h : inB 0 7 x with | false => rfl | true => rw [inB_iff] at h; omega
      rw [hb]
      go_enter Tryz.func159, Tryz.ntmps159
      go_wp2
      go_ret
      exact ⟨rfl, rfl⟩
  · have hd : decide (0 ≤ x) = false := by simp; omega
    have hb : inB 0 7 x = false := by cases h : inB 0 7 x with | false => rfl | true => rw [inB_iff] at h; omega
    rw [hb]
    go_enter Tryz.func159, Tryz.ntmps159
    go_wp2
    go_ret
    exact ⟨rfl, rfl⟩
set_option maxHeartbeats 1000000 in
theorem index_any (w : World) (a : Option Addr) (n cap : Nat) (z : Int) (zs : List Int) (hn : n ≤ maxLen) (hs : SlN w w.heap.size a n zs) :
    Calls Tryz.prog 194 #[.slice a n cap, .int .i64 z] w fun e w' => (∃ i : Int, e = .returned (.int .i64 i) ∧ decide (0 ≤ i) = hasB zs z) ∧ w' = w := by
  unfold maxLen at hn
  obtain ⟨hx, hs⟩ := hs
  go_enter Tryz.func194, Tryz.ntmps194
  go_wp2
  go_loop [8] (fun v => ∃ k : Nat, k ≤ n ∧ v = .int .i64 k ∧ ∀ i, i < k → atN zs i ≠ z) (fun v => n - (intOf v).toNat)
  case atStart => exact ⟨0, Nat.zero_le _, rfl, fun i h => absurd h (by omega)⟩
  case round =>
    obtain ⟨k, hk, rfl, hall⟩ := hrel
    have K : Hid ((∀ i, i < k → atN zs i ≠ z) ∧ zs.length = n) := ⟨hall, hx⟩
    by_cases hlt : k < n
    · rcases hs with hs | ⟨b, off, rfl, hb, h1⟩
      · omega
      · have c := h1 k _ (atN_of (by omega))
        clear h1 hall hx
        by_cases he : atN zs k = z
        · have q : (z == atN zs k) = true := by simp [he]
          have HE : Hid (atN zs k = z) := he
          clear he
          go_wp2
          go_ret
          exact ⟨⟨_, rfl, by rw [has_yes (by rw [K.out.2]; exact hlt) HE.out]; simp⟩, rfl⟩
        · have q : (z == atN zs k) = false := by simp; exact fun h => he h.symm
          have HE : Hid (atN zs k ≠ z) := he
          clear he
          go_wp2
          refine ⟨⟨k + 1, by omega, by simp, fun i hi => ?_⟩, by simp [intOf]; omega⟩
          by_cases e : i = k
          · rw [e]; exact HE.out
          · exact K.out.1 i (by omega)
    · have : k = n := by omega
      subst this
      have hd : decide ((k : Int) < (k : Int)) = false := by simp
      clear hall hx hs
      go_wp2
      go_ret
      exact ⟨⟨_, rfl, by rw [has_no (by rw [K.out.2]; exact K.out.1)]; rfl⟩, rfl⟩
theorem contains_any (w : World) (a : Option Addr) (n cap : Nat) (z : Int) (zs : List Int) (hn : n ≤ maxLen) (hs : SlN w w.heap.size a n zs) :
    Calls Tryz.prog 160 #[.slice a n cap, .int .i64 z] w fun e w' => e = .returned (.bool (hasB zs z)) ∧ w' = w := by
  have hi := index_any w a n cap z zs hn hs
  clear hs
  go_enter Tryz.func160, Tryz.ntmps160
  go_wp2_with fail
  refine hi.mono ?_
  clear hi
  rintro e w1 ⟨⟨i, rfl, hb⟩, rfl⟩
  go_wp2
  go_ret
  exact ⟨rfl, rfl⟩
set_option maxHeartbeats 4000000 in
theorem placeOk_any (w : World) (a : Option Addr) (cap : Nat) (zs : List Int) (hs : SlN w w.heap.size a zs.length zs) (hcp : zs.length ≤ cap) :
    Calls Tryz.prog 115 #[.agg #[.slice a zs.length cap]] w fun e w' => e = .returned (.bool (placeB zs)) ∧ Below w.heap.size w w' := by
  have b0 : Below w.heap.size w (w.alloc (.cells #[.slice a zs.length cap] 100)) := (Below.refl _ _).alloc (Nat.le_refl _) _
  by_cases h3 : zs.length < 1 ∨ 3 < zs.length
  · have hpf : placeB zs = false := by
      rcases h3 with h | h
      · simp [placeB, show ¬ 1 ≤ zs.length by omega]
      · simp [placeB, show ¬ zs.length ≤ 3 by omega]
    rw [hpf]
    rcases h3 with h | h
    · have d3 : decide ((zs.length : Int) < 1) = true := by simp; omega
      go_enter Tryz.func115, Tryz.ntmps115
      go_wp2
      go_ret
      exact ⟨rfl, b0⟩
    · have d3 : decide ((zs.length : Int) < 1) = false := by simp; omega
      have d4 : decide ((3 : Int) < (zs.length : Int)) = true := by simp; omega
      go_enter Tryz.func115, Tryz.ntmps115
      go_wp2
      go_ret
      exact ⟨rfl, b0⟩
  · have d3 : decide ((zs.length : Int) < 1) = false := by simp; omega
    have d4 : decide ((3 : Int) < (zs.length : Int)) = false := by simp; omega
    have HG : Hid (placeB zs = (List.range zs.length).all (goodAt zs)) := by unfold Hid; simp [placeB, show 1 ≤ zs.length by omega, show zs.length ≤ 3 by omega]
    have KS : Hid (SlN w w.heap.size a zs.length zs) := hs
    have KB : Hid (Below w.heap.size w (w.alloc (.cells #[.slice a zs.length cap] 100))) := b0
    clear hs b0
    go_enter Tryz.func115, Tryz.ntmps115
    go_wp2
    go_loopw [18] (fun v18 wr => ∃ k : Nat, k ≤ zs.length ∧ v18 = .int .i64 k ∧ Below (w.heap.size + 1) (w.alloc (.cells #[.slice a zs.length cap] 100)) wr ∧ (List.range k).all (goodAt zs) = true) (fun v18 _ => zs.length - (intOf v18).toNat)
    case atStart => exact ⟨0, Nat.zero_le _, rfl, Below.refl _ _, rfl⟩
    case round =>
      obtain ⟨k, hk, rfl, hbq, hgk⟩ := hrel
      have hbw : Below w.heap.size w wr := KB.out.trans (hbq.mono (by omega))
      by_cases hkl : k < zs.length
      · obtain ⟨_, hsn⟩ := KS.out
        rcases hsn with hsn | ⟨b', off', rfl, hb', h2⟩
        · omega
        · have cp : wr.cell? ⟨w.heap.size, 0, none⟩ = some (.slice (some ⟨b', off', none⟩) zs.length cap) := (hbq.cell (p := ⟨w.heap.size, 0, none⟩) (by simp)).trans (by go_simp)
          have ck := (hbw.cell (p := ⟨b', off' + k, none⟩) hb').trans (h2 k _ (atN_of hkl))
          have hst : SlN wr wr.heap.size (some ⟨b', off', none⟩) k (zs.take k) := ⟨by rw [List.length_take]; omega, .inr ⟨b', off', rfl, Nat.lt_of_lt_of_le hb' hbw.size, fun i z e => by
            rw [List.getElem?_take] at e
            split at e
            · exact (h2.below hbw hb') i z e
            · cases e⟩⟩
          have KQ : Hid (Below (w.heap.size + 1) (w.alloc (.cells #[.slice (some ⟨b', off', none⟩) zs.length cap] 100)) wr ∧ (List.range k).all (goodAt zs) = true ∧ Below w.heap.size w wr) := ⟨hbq, hgk, hbw⟩
          have hkm : k ≤ maxLen := by unfold maxLen; omega
          have cH : Calls Tryz.prog 160 #[.slice (some ⟨b', off', none⟩) k cap, .int .i64 (atN zs k)] wr fun e w'' => e = .returned (.bool (hasB (zs.take k) (atN zs k))) ∧ w'' = wr := contains_any wr _ k cap (atN zs k) (zs.take k) hkm hst
          have cM := implMachine wr (atN zs k)
          have HK : Hid (goodAt zs k = (inB 0 7 (atN zs k) && !hasB (zs.take k) (atN zs k))) := rfl
          have hkc : k ≤ cap := by omega
          clear h2 hbq hgk hst hbw
          generalize atN zs k = z at *
          cases g1 : inB 0 7 z with
          | false =>
            rw [g1] at cM
            have hgf : goodAt zs k = false := by rw [HK.out, g1]; rfl
            go_wp2_with fail
            refine cM.mono ?_
            clear cM cH
            rintro e wr ⟨rfl, rfl⟩
            go_wp2
            go_ret
            exact ⟨by rw [HG.out, all_off hkl hgf]; rfl, KQ.out.2.2⟩
          | true =>
            rw [g1] at cM
            cases g2 : hasB (zs.take k) z with
            | true =>
              rw [g2] at cH
              have hgf : goodAt zs k = false := by rw [HK.out, g1, g2]; rfl
              go_wp2_with fail
              refine cM.mono ?_
              clear cM
              rintro e wr ⟨rfl, rfl⟩
              go_wp2_with fail
              refine cH.mono ?_
              clear cH
              rintro e wr ⟨rfl, rfl⟩
              go_wp2
              go_ret
              exact ⟨by rw [HG.out, all_off hkl hgf]; rfl, KQ.out.2.2⟩
            | false =>
              rw [g2] at cH
              have hgt : goodAt zs k = true := by rw [HK.out, g1, g2]; rfl
              go_wp2_with fail
              refine cM.mono ?_
              clear cM
              rintro e wr ⟨rfl, rfl⟩
              go_wp2_with fail
              refine cH.mono ?_
              clear cH
              rintro e wr ⟨rfl, rfl⟩
              go_wp2
              exact ⟨⟨k + 1, by omega, by simp, KQ.out.1, all_on KQ.out.2.1 hgt⟩, by simp [intOf]; omega⟩
      · have : k = zs.length := by omega
        subst this
        have hd : decide ((zs.length : Int) < (zs.length : Int)) = false := by simp
        go_wp2
        go_ret
        exact ⟨by rw [HG.out, hgk]; rfl, hbw⟩
theorem wrong_any (w : World) (a : Option Addr) (cap : Nat) (zs : List Int) (hs : SlN w w.heap.size a zs.length zs) (hcp : zs.length ≤ cap) :
    Calls Tryz.prog 114 #[.agg #[.slice a zs.length cap]] w fun e w' => e = .returned (.bool (!placeB zs)) ∧ Below w.heap.size w w' := by
  have b0 : Below w.heap.size w (w.alloc (.cells #[.slice a zs.length cap] 100)) := (Below.refl _ _).alloc (Nat.le_refl _) _
  have hc := placeOk_any (w.alloc (.cells #[.slice a zs.length cap] 100)) a cap zs (hs.later b0) hcp
  have B0 : Hid (Below w.heap.size w (w.alloc (.cells #[.slice a zs.length cap] 100))) := b0
  clear hs b0
  generalize placeB zs = V at *
  generalize zs.length = n at *
  go_enter Tryz.func114, Tryz.ntmps114
  go_wp2_with fail
  refine hc.mono ?_
  clear hc
  rintro e w1 ⟨rfl, b1⟩
  go_wp2
  go_ret
  exact ⟨rfl, B0.out.trans (b1.mono (by simp))⟩
set_option maxHeartbeats 2000000 in
theorem indexFunc_any (w : World) (a : Option Addr) (n cap : Nat) (zss : List (List Int)) (hn : n ≤ maxLen) (hs : SlP w w.heap.size a n zss) :
    Calls Tryz.prog 161 #[.slice a n cap, .func (.func 114) #[] #[]] w fun e w' => (∃ i : Int, e = .returned (.int .i64 i) ∧ decide (0 ≤ i) = !((List.range n).all fun i => placeB (atP zss i))) ∧ Below w.heap.size w w' := by
  unfold maxLen at hn
  obtain ⟨hx, hs⟩ := hs
  go_enter Tryz.func161, Tryz.ntmps161
  go_wp2
  go_loopw [8] (fun v wr => ∃ j : Nat, j ≤ n ∧ v = .int .i64 j ∧ Below w.heap.size w wr ∧ (List.range j).all (fun i => placeB (atP zss i)) = true) (fun v _ => n - (intOf v).toNat)
  case atStart => exact ⟨0, Nat.zero_le _, rfl, Below.refl _ _, rfl⟩
  case round =>
    obtain ⟨j, hj, rfl, hbl, hall⟩ := hrel
    by_cases hlt : j < n
    · rcases hs with hs | ⟨b, off, rfl, hb, h1⟩
      · omega
      · obtain ⟨a', cap', hc, hsl, hcp⟩ := h1 j _ (atP_of (by omega))
        have c := (hbl.cell (p := ⟨b, off + j, none⟩) hb).trans hc
        have KA : Hid ((List.range j).all (fun i => placeB (atP zss i)) = true ∧ Below w.heap.size w wr) := ⟨hall, hbl⟩
        have hw := wrong_any wr a' cap' (atP zss j) ((hsl.below hbl).mono hbl.size) hcp
        have HF : Hid (placeB (atP zss j) = false → ((List.range n).all fun i => placeB (atP zss i)) = false) := fun h => all_off hlt h
        have HT : Hid (placeB (atP zss j) = true → ((List.range (j + 1)).all fun i => placeB (atP zss i)) = true) := fun h => all_on hall h
        clear h1 hc hall hsl hbl hcp
        generalize (atP zss j).length = m at *
        cases hp : placeB (atP zss j) with
        | false =>
          rw [hp] at hw
          go_wp2_with fail
          refine hw.mono ?_
          clear hw
          rintro e w1 ⟨rfl, b1⟩
          go_wp2
          go_ret
          exact ⟨⟨_, rfl, by rw [HF.out hp]; simp⟩, KA.out.2.trans (b1.mono KA.out.2.size)⟩
        | true =>
          rw [hp] at hw
          go_wp2_with fail
          refine hw.mono ?_
          clear hw
          rintro e w1 ⟨rfl, b1⟩
          go_wp2
          exact ⟨⟨j + 1, by omega, by simp, KA.out.2.trans (b1.mono KA.out.2.size), HT.out hp⟩, by simp [intOf]; omega⟩
    · have : j = n := by omega
      subst this
      have hd : decide ((j : Int) < (j : Int)) = false := by simp
      clear hs
      go_wp2
      go_ret
      exact ⟨⟨_, rfl, by rw [hall]; rfl⟩, hbl⟩
theorem containsFunc_any (w : World) (a : Option Addr) (n cap : Nat) (zss : List (List Int)) (hn : n ≤ maxLen) (hs : SlP w w.heap.size a n zss) :
    Calls Tryz.prog 116 #[.slice a n cap, .func (.func 114) #[] #[]] w fun e w' => e = .returned (.bool (!((List.range n).all fun i => placeB (atP zss i)))) ∧ Below w.heap.size w w' := by
  have hi := indexFunc_any w a n cap zss hn hs
  clear hs
  generalize (!((List.range n).all fun i => placeB (atP zss i))) = V at *
  go_enter Tryz.func116, Tryz.ntmps116
  go_wp2_with fail
  refine hi.mono ?_
  clear hi
  rintro e w1 ⟨⟨i, rfl, hb⟩, b1⟩
  go_wp2
  go_ret
  exact ⟨rfl, b1⟩
set_option maxHeartbeats 1000000 in
theorem implPlacesOk_any (w : World) (a : Option Addr) (n cap : Nat) (zss : List (List Int)) (hn : n ≤ maxLen) (hs : SlP w w.heap.size a n zss) :
    Calls Tryz.prog 65 #[.slice a n cap] w fun e w' => e = .returned (.bool (placesB zss)) ∧ Below w.heap.size w w' := by
  have hx := hs.1
  have hc := containsFunc_any w a n cap zss hn hs
  unfold maxLen at hn
  by_cases h1 : 1 ≤ n
  · by_cases h6 : n ≤ 6
    · have d1 : (1 : Int) ≤ (n : Int) := by omega
      have d6 : (n : Int) ≤ 6 := by omega
      have hV : placesB zss = ((List.range n).all fun i => placeB (atP zss i)) := by simp [placesB, hx, h1, h6]
      rw [hV]
      generalize ((List.range n).all fun i => placeB (atP zss i)) = V at *
      clear hs hV
      go_enter Tryz.func65, Tryz.ntmps65
      go_wp2_with fail
      refine hc.mono ?_
      clear hc
      rintro e w1 ⟨rfl, b1⟩
      go_wp2
      go_ret
      exact ⟨by simp, b1⟩
    · have d1 : (1 : Int) ≤ (n : Int) := by omega
      have d6 : decide ((n : Int) ≤ 6) = false := by simp; omega
      have hV : placesB zss = false := by simp [placesB, hx, h6]
      rw [hV]
      clear hs hV hc
      go_enter Tryz.func65, Tryz.ntmps65
      go_wp2
      go_ret
      exact ⟨rfl, Below.refl _ _⟩
  · obtain rfl : n = 0 := by omega
    have hV : placesB zss = false := by simp [placesB, hx]
    rw [hV]
    clear hs hV hc
    go_enter Tryz.func65, Tryz.ntmps65
    go_wp2
    go_ret
    exact ⟨rfl, Below.refl _ _⟩
end Go.Proofs.YtdmpobegobfpjaaGreat
namespace Go.Proofs.YtdmpobegobfpjaaGreat
open Go.RowKit
open Go.Sort (grow)
set_option maxHeartbeats 1000000 in
theorem isConfig_any (w : World) (x : Int) : Calls Tryz.prog 62 #[.int .i64 x] w fun e w' => e = .returned (.bool (inB 1 1000000 x)) ∧ w' = w := by
  have hc := tx.implId w x
  go_enter Tryz.func62, Tryz.ntmps62
  go_wp2_with fail
  refine hc.mono ?_
  clear hc
  rintro e w1 ⟨rfl, rfl⟩
  go_wp2
  go_ret
  exact ⟨rfl, rfl⟩
theorem clusterB_eq (k : C6) : clusterB k = (inB 1 1000000 k.config && (inB 0 1000000 k.clock && ((decide (1 ≤ k.machines.length) && decide (k.machines.length ≤ 8) && machsB k.machines) && (placesB k.places && (placedB k.places k.machines && (decide (k.txs.length ≤ 60) && txsB k)))))) := by
  unfold clusterB
  ac_rfl
set_option maxRecDepth 100000 in
set_option maxHeartbeats 4000000 in
theorem implClusterOk_any (w : World) (a1 : Option Addr) (c1 : Nat) (a2 : Option Addr) (c2 : Nat) (a3 : Option Addr) (c3 : Nat) (k : C6) (hl : KCl.L k) (h : KCl.Rd w a1 c1 a2 c2 a3 c3 k) : Calls Tryz.prog 33 #[.agg #[.int .i64 k.config, .int .i64 k.clock, .slice a1 k.places.length c1, .slice a2 k.machines.length c2, .slice a3 k.txs.length c3, .bool k.lost]] w fun e w' => e = .returned (.bool (clusterB k)) ∧ Below w.heap.size w w' := by
  obtain ⟨U, hU⟩ : ∃ Y, Y = w.alloc (.cells #[.int .i64 k.config, .int .i64 k.clock, .slice a1 k.places.length c1, .slice a2 k.machines.length c2, .slice a3 k.txs.length c3, .bool k.lost] 34) := ⟨_, rfl⟩
  have b0 : Below w.heap.size w U := by rw [hU]; exact (Below.refl _ _).alloc (Nat.le_refl _) _
  have FA : Hid (Bx U w.heap.size [.int .i64 k.config, .int .i64 k.clock, .slice a1 k.places.length c1, .slice a2 k.machines.length c2, .slice a3 k.txs.length c3, .bool k.lost]) := by unfold Hid; rw [hU]; exact Bx.made w [.int .i64 k.config, .int .i64 k.clock, .slice a1 k.places.length c1, .slice a2 k.machines.length c2, .slice a3 k.txs.length c3, .bool k.lost] _
  have HR : Hid (KCl.Rd U a1 c1 a2 c2 a3 c3 k ∧ KCl.L k ∧ Below w.heap.size w U) := ⟨h.later b0, hl, b0⟩
  have HC : Hid (clusterB k = (inB 1 1000000 k.config && (inB 0 1000000 k.clock && ((decide (1 ≤ k.machines.length) && decide (k.machines.length ≤ 8) && machsB k.machines) && (placesB k.places && (placedB k.places k.machines && (decide (k.txs.length ≤ 60) && txsB k))))))) := clusterB_eq k
  have hc := isConfig_any U k.config
  clear b0 h hl
  go_enter Tryz.func33, Tryz.ntmps33
  go_wp2_with fail
  rw [← hU]
  clear hU
  refine hc.mono ?_
  clear hc
  rintro e w1 ⟨rfl, rfl⟩
  generalize w1 = U at *
  cases g1 : inB 1 1000000 k.config with
  | false =>
    have hb : Hid (clusterB k = false) := by unfold Hid; rw [HC.out, g1]; rfl
    go_wp2
    go_ret
    exact ⟨by rw [hb.out]; rfl, HR.out.2.2⟩
  | true =>
  have p1 := FA.out.1 1 _ rfl
  have hc := tx.implStamp U k.clock
  go_wp2_with fail
  refine hc.mono ?_
  clear hc p1
  rintro e w1 ⟨rfl, rfl⟩
  generalize w1 = U at *
  cases g2 : inB 0 1000000 k.clock with
  | false =>
    have hb : Hid (clusterB k = false) := by unfold Hid; rw [HC.out, g2]; simp
    go_wp2
    go_ret
    exact ⟨by rw [hb.out]; rfl, HR.out.2.2⟩
  | true =>
  have p3 := FA.out.1 3 _ rfl
  have hc := machinesOk_any U a2 c2 k.machines HR.out.2.1.m HR.out.2.1.ms HR.out.1.m
  go_wp2_with fail
  refine hc.mono ?_
  clear hc p3
  rintro e w1 ⟨rfl, b1⟩
  have B1 := hidOf b1
  clear b1
  cases g3 : (decide (1 ≤ k.machines.length) && decide (k.machines.length ≤ 8) && machsB k.machines) with
  | false =>
    have hb : Hid (clusterB k = false) := by unfold Hid; rw [HC.out, g3]; simp
    go_wp2
    go_ret
    exact ⟨by rw [hb.out]; rfl, bstep HR.out.2.2 B1.out⟩
  | true =>
  have p2 := (FA.out.later B1.out).1 2 _ rfl
  have hc := implPlacesOk_any w1 a1 k.places.length c1 k.places HR.out.2.1.p (HR.out.1.p.later B1.out)
  go_wp2_with fail
  refine hc.mono ?_
  clear hc p2
  rintro e w2 ⟨rfl, b2⟩
  have B2 : Hid (Below U.heap.size U w2) := bstep B1.out b2
  clear b2 B1
  generalize w1 = wA at *
  cases g4 : placesB k.places with
  | false =>
    have hb : Hid (clusterB k = false) := by unfold Hid; rw [HC.out, g4]; simp
    go_wp2
    go_ret
    exact ⟨by rw [hb.out]; rfl, bstep HR.out.2.2 B2.out⟩
  | true =>
  have HC2 : Hid (clusterB k = (placedB k.places k.machines && (decide (k.txs.length ≤ 60) && txsB k))) := by unfold Hid; rw [HC.out, g1, g2, g3, g4]; rfl
  have HG : Hid (k.machines.length ≤ 8 ∧ machsB k.machines = true ∧ placesB k.places = true) := by
    simp only [Bool.and_eq_true, decide_eq_true_eq] at g3
    exact ⟨g3.1.2, g3.2, g4⟩
  clear g1 g2 g3 g4 HC
  have SF : Hid (∀ X, Below U.heap.size U X → (fun X : World => Bx X w.heap.size [.int .i64 k.config, .int .i64 k.clock, .slice a1 k.places.length c1, .slice a2 k.machines.length c2, .slice a3 k.txs.length c3, .bool k.lost]) X) := fun X hX => FA.out.later hX
  go_wp2_with fail
  have bd : Below U.heap.size U w2.drew := B2.out.drew
  have hS := SF.out _ bd
  refine wp_region_z (fun z => z == 10) (fun X : World => Bx X w.heap.size [.int .i64 k.config, .int .i64 k.clock, .slice a1 k.places.length c1, .slice a2 k.machines.length c2, .slice a3 k.txs.length c3, .bool k.lost]) (by kernel_rfl) ?_
  generalize w2.drew = Wd at *
  refine wpZ_takeP (i := 0) (v := ?_) rfl (by kernel_rfl) (fun _ _ _ h => h) (Or.inl ⟨by rfl, ?_⟩) hS ?_
  rotate_left
  · (intro X _; go_simp; first | done | with_reducible rfl)
  simp only [Act.put]
  refine wpZ_take (i := 1) (v := ?_) rfl (by kernel_rfl) (fun _ _ _ h => h) (Or.inl ⟨by rfl, ?_⟩) hS ?_
  rotate_left
  · (intro X hSw; have c0 := hSw.1 0 _ rfl; have c1 := hSw.1 1 _ rfl; have c2 := hSw.1 2 _ rfl; have c3 := hSw.1 3 _ rfl; have c4 := hSw.1 4 _ rfl; have c5 := hSw.1 5 _ rfl; go_simp; first | done | with_reducible rfl)
  simp only [Act.put]
  refine wpZ_takeP (i := 2) (v := ?_) rfl (by kernel_rfl) (fun _ _ _ h => h) (Or.inl ⟨by rfl, ?_⟩) hS ?_
  rotate_left
  · (intro X _; go_simp; first | done | with_reducible rfl)
  simp only [Act.put]
  refine wpZ_take (i := 3) (v := ?_) rfl (by kernel_rfl) (fun _ _ _ h => h) (Or.inl ⟨by rfl, ?_⟩) hS ?_
  rotate_left
  · (intro X hSw; have c0 := hSw.1 0 _ rfl; have c1 := hSw.1 1 _ rfl; have c2 := hSw.1 2 _ rfl; have c3 := hSw.1 3 _ rfl; have c4 := hSw.1 4 _ rfl; have c5 := hSw.1 5 _ rfl; go_simp; first | done | with_reducible rfl)
  simp only [Act.put]
  refine wpZ_ready (rs := [4]) (by kernel_rfl) (by simp) ?_
  refine AllZ.cons rfl (fun K hK => ?_) AllZ.nil
  go_simp
  refine (membersOf_any Wd a2 c2 k.machines HG.out.1 (HR.out.1.m.later bd)).mono ?_
  rintro e X1 ⟨rfl, hma, hsz, b1⟩
  have bX := bstep bd b1
  refine hK.out _ _ (fun _ => SF.out _ bX) ?_
  clear hK K
  have hS := SF.out _ bX
  refine wpZ_ready (rs := [5]) (by kernel_rfl) (by simp) ?_
  refine AllZ.cons rfl (fun K hK => ?_) AllZ.nil
  go_simp
  refine (placed_any Wd X1 a1 c1 Wd.heap.size k.places k.machines HR.out.2.1.ms HG.out.2.1 HG.out.2.2 HR.out.2.1.p HR.out.2.1.ps b1 hsz hma (HR.out.1.p.later bX)).mono ?_
  rintro e X2 ⟨rfl, b2⟩
  have bY := bstep bX b2
  refine hK.out _ _ (fun _ => SF.out _ bY) ?_
  clear hK K
  have hS := SF.out _ bY
  cases g5 : placedB k.places k.machines with
  | false =>
    have hb : Hid (clusterB k = false) := by unfold Hid; rw [HC2.out, g5]; rfl
    refine wpZ_takeP (i := 6) (v := ?_) rfl (by kernel_rfl) (fun _ _ _ h => h) (Or.inl ⟨by rfl, ?_⟩) hS ?_
    rotate_left
    · (intro X _; go_simp; first | done | with_reducible rfl)
    simp only [Act.put]
    refine wpZ_takeP (i := 7) (v := undef) rfl (by kernel_rfl) (fun _ _ _ h => h) (Or.inr ⟨by rfl, rfl⟩) hS ?_
    simp only [Act.put]
    refine wpZ_takeP (i := 8) (v := undef) rfl (by kernel_rfl) (fun _ _ _ h => h) (Or.inr ⟨by rfl, rfl⟩) hS ?_
    simp only [Act.put]
    refine wpZ_takeP (i := 9) (v := ?_) rfl (by kernel_rfl) (fun _ _ _ h => h) (Or.inl ⟨by rfl, ?_⟩) hS ?_
    rotate_left
    · (intro X _; go_simp; first | done | with_reducible rfl)
    simp only [Act.put]
    refine wpZ_ready (rs := [10]) (by kernel_rfl) (by simp) ?_
    refine AllZ.cons rfl (fun K hK => ?_) AllZ.nil
    go_simp
    refine hK.out _ _ (fun h => absurd (show false = true from h.symm.trans (by kernel_rfl)) (by decide)) ?_
    clear hK K
    refine wpZ_done (by kernel_rfl) ?_ _
    go_wp2
    go_ret
    exact ⟨by rw [hb.out]; rfl, bstep HR.out.2.2 bY⟩
  | true =>
    have hb : Hid (clusterB k = (decide (k.txs.length ≤ 60) && txsB k)) := by unfold Hid; rw [HC2.out, g5]; rfl
    refine wpZ_takeP (i := 6) (v := ?_) rfl (by kernel_rfl) (fun _ _ _ h => h) (Or.inl ⟨by rfl, ?_⟩) hS ?_
    rotate_left
    · (intro X _; go_simp; first | done | with_reducible rfl)
    simp only [Act.put]
    refine wpZ_take (i := 7) (v := ?_) rfl (by kernel_rfl) (fun _ _ _ h => h) (Or.inl ⟨by rfl, ?_⟩) hS ?_
    rotate_left
    · (intro X hSw; have c0 := hSw.1 0 _ rfl; have c1 := hSw.1 1 _ rfl; have c2 := hSw.1 2 _ rfl; have c3 := hSw.1 3 _ rfl; have c4 := hSw.1 4 _ rfl; have c5 := hSw.1 5 _ rfl; go_simp; first | done | with_reducible rfl)
    simp only [Act.put]
    refine wpZ_ready (rs := [8]) (by kernel_rfl) (by simp) ?_
    refine AllZ.cons rfl (fun K hK => ?_) AllZ.nil
    go_simp
    refine (txsFit_any X2 a1 c1 a2 c2 a3 c3 k HR.out.2.1 (HR.out.1.later bY)).mono ?_
    rintro e X3 ⟨rfl, b3⟩
    have bZ := bstep bY b3
    refine hK.out _ _ (fun _ => SF.out _ bZ) ?_
    clear hK K
    have hS := SF.out _ bZ
    refine wpZ_takeP (i := 9) (v := ?_) rfl (by kernel_rfl) (fun _ _ _ h => h) (Or.inl ⟨by rfl, ?_⟩) hS ?_
    rotate_left
    · (intro X _; go_simp; first | done | with_reducible rfl)
    simp only [Act.put]
    refine wpZ_ready (rs := [10]) (by kernel_rfl) (by simp) ?_
    refine AllZ.cons rfl (fun K hK => ?_) AllZ.nil
    go_simp
    refine hK.out _ _ (fun h => absurd (show false = true from h.symm.trans (by kernel_rfl)) (by decide)) ?_
    clear hK K
    refine wpZ_done (by kernel_rfl) ?_ _
    go_wp2
    go_ret
    exact ⟨by rw [hb.out]; rfl, bstep HR.out.2.2 bZ⟩
end Go.Proofs.YtdmpobegobfpjaaGreat
namespace Go.Proofs.YtdmpobegobfpjaaGreat
open Go.RowKit
theorem nan_any (w : World) (x : Int) : Calls Tryz.prog 166 #[.int .i64 x] w fun e w' => e = .returned (.bool false) ∧ w' = w := by
  have h : (x != x) = false := by simp
  go_enter Tryz.func166, Tryz.ntmps166
  go_wp2
  go_ret
  exact ⟨rfl, rfl⟩
def cmpI (x y : Int) : Int := if x < y then -1 else if y < x then 1 else 0
theorem compare_any (w : World) (x y : Int) : Calls Tryz.prog 126 #[.int .i64 x, .int .i64 y] w fun e w' => e = .returned (.int .i64 (cmpI x y)) ∧ w' = w := by
  by_cases h1 : x < y
  · have e : cmpI x y = -1 := if_pos h1
    rw [e]
    go_enter Tryz.func126, Tryz.ntmps126
    go_wp2_with (go_at_call 166; refine (nan_any _ _).mono ?_; rintro e w' ⟨rfl, rfl⟩)
    go_ret
    exact ⟨rfl, rfl⟩
  · have d1 : decide (x < y) = false := by simp; omega
    by_cases h2 : y < x
    · have e : cmpI x y = 1 := by rw [cmpI, if_neg h1, if_pos h2]
      have d2 : decide (y < x) = true := by simp [h2]
      rw [e]
      clear h1
      go_enter Tryz.func126, Tryz.ntmps126
      go_wp2_with (go_at_call 166; refine (nan_any _ _).mono ?_; rintro e w' ⟨rfl, rfl⟩)
      go_ret
      exact ⟨rfl, rfl⟩
    · have e : cmpI x y = 0 := by rw [cmpI, if_neg h1, if_neg h2]
      have d2 : decide (y < x) = false := by simp; omega
      rw [e]
      clear h1 h2
      go_enter Tryz.func126, Tryz.ntmps126
      go_wp2_with (go_at_call 166; refine (nan_any _ _).mono ?_; rintro e w' ⟨rfl, rfl⟩)
      go_ret
      exact ⟨rfl, rfl⟩
end Go.Proofs.YtdmpobegobfpjaaGreat
namespace Go.Proofs.YtdmpobegobfpjaaGreat
open Go.RowKit
open Go.Sort (grow)
def UpI (ts : List tx.T7) : Prop := ∀ i j, i < j → j < ts.length → (atT ts i).id < (atT ts j).id
theorem UpI.of_all {ts : List tx.T7} (h : (List.range ts.length).all (upT ts) = true) : UpI ts := by
  intro i j hij hj
  induction j with
  | zero => omega
  | succ j ih =>
    have h2 := List.all_eq_true.1 h (j + 1) (List.mem_range.2 hj)
    simp [upT] at h2
    by_cases e : i = j
    · rw [e]; exact h2
    · have := ih (by omega) (by omega); omega
structure PosT (ts : List tx.T7) (y : Int) (i : Nat) : Prop where
  le : i ≤ ts.length
  lo : ∀ t, t < i → (atT ts t).id < y
  hi : ∀ t, i ≤ t → t < ts.length → y ≤ (atT ts t).id
def foundT (ts : List tx.T7) (y : Int) (i : Nat) : Bool := decide (i < ts.length) && decide ((atT ts i).id = y)
def findO (k : C6) (y : Int) : Option tx.T7 := if clusterB k then k.txs.find? (fun t => decide (t.id = y)) else none
def zT : tx.T7 := ⟨0, 0, 0, 0, [], [], 0⟩
def findT (k : C6) (y : Int) : tx.T7 := (findO k y).getD zT
def findB (k : C6) (y : Int) : Bool := (findO k y).isSome
theorem clu_up {k : C6} (h : clusterB k = true) : UpI k.txs ∧ (∀ i, i < k.txs.length → tx.txB (atT k.txs i) = true) ∧ k.txs.length ≤ 60 := by
  simp only [clusterB, Bool.and_eq_true, decide_eq_true_eq] at h
  have h2 := h.2
  rw [txsB_eq, Bool.and_eq_true] at h2
  refine ⟨UpI.of_all h2.1, fun i hi => ?_, h.1.1.1.2⟩
  have := List.all_eq_true.1 h2.2 i (List.mem_range.2 hi)
  simp only [fitB, Bool.and_eq_true] at this
  exact this.1.1.1.1
end Go.Proofs.YtdmpobegobfpjaaGreat
namespace Go.Proofs.YtdmpobegobfpjaaGreat.tx
open Go.RowKit
def SAns (w : World) (xs : List S5) (e : Ending) (w' : World) : Prop :=
  ∃ (a : Option Addr) (c : Nat) (PS : Nat → Prop), e = .returned (.slice a xs.length c) ∧ OwnSe w' PS a xs ∧ (∀ q, PS q → w.heap.size ≤ q ∧ q < w'.heap.size) ∧ Below w.heap.size w w'
theorem SAns.of {w w' : World} {base : Nat} {v : Value} {xs : List S5} (h : RowS w' base v xs) (hb : w.heap.size ≤ base) (b : Below w.heap.size w w') : SAns w xs (.returned v) w' := by
  obtain ⟨a, c, e, ho⟩ := h.form
  exact ⟨a, c, _, by rw [e], ho, fun q hq => ⟨Nat.le_trans hb (h.lt hq).1, (h.lt hq).2⟩, b⟩
theorem SAns.none {w w' : World} (b : Below w.heap.size w w') : SAns w [] (.returned (.slice Option.none 0 0)) w' := ⟨Option.none, 0, fun _ => False, rfl, .inl rfl, fun _ h => h.elim, b⟩
def ofR (g : Int) (xs : List S5) : List S5 := xs.filter fun s => decide (s.region = g)
theorem ofR_yes {g : Int} {xs : List S5} {k : Nat} {s : S5} (h : xs[k]? = some s) (hg : s.region = g) : ofR g (xs.take (k + 1)) = ofR g (xs.take k) ++ [s] := by
  rw [List.take_add_one, h, ofR, List.filter_append]; simp [hg, ofR]
theorem ofR_no {g : Int} {xs : List S5} {k : Nat} {s : S5} (h : xs[k]? = some s) (hg : ¬ s.region = g) : ofR g (xs.take (k + 1)) = ofR g (xs.take k) := by
  rw [List.take_add_one, h, ofR, List.filter_append]; simp [hg, ofR]
theorem ofR_len (g : Int) (xs : List S5) : (ofR g xs).length ≤ xs.length := List.length_filter_le _ _
theorem txB_lens {t : T7} (h : txB t = true) : t.reads.length ≤ 12 ∧ t.sets.length ≤ 12 := by
  simp only [txB, Bool.and_eq_true, decide_eq_true_eq] at h
  exact ⟨h.1.1.1.2, h.1.1.2⟩
def setsOfT (t : T7) (g : Int) : List S5 := if txB t = true then ofR g t.sets else []
end Go.Proofs.YtdmpobegobfpjaaGreat.tx
namespace Go.Proofs.YtdmpobegobfpjaaGreat.tx
open Go.RowKit Go.Maps
def cKey (r s : Int) : Value := .agg #[.int .i64 r, .int .i64 s]
theorem six {r : Int} (h : inB 0 5 r = true) : r = 0 ∨ r = 1 ∨ r = 2 ∨ r = 3 ∨ r = 4 ∨ r = 5 := by
  rw [inB_iff] at h; omega
def MapF (W : World) (b n : Nat) (f : Int → Int → Option Nat) : Prop :=
  ∃ D : DataW Unit, W.ownsMap Tryz.prog 169 (plainElem Tryz.prog 3) b n D ∧ ∀ r s l, keyOf Tryz.prog 169 (cKey r s) = some l → (f r s = none → has D l = false) ∧ (∀ i, f r s = some i → has D l = true ∧ ∀ z, D.atKey l z = .lit (.int .i64 (i : Int)))
theorem MapF.lt {W : World} {b n : Nat} {f : Int → Int → Option Nat} (h : MapF W b n f) : b < W.heap.size := by obtain ⟨D, h, _⟩ := h; exact h.lt
theorem MapF.mono {W : World} {b n n' : Nat} {f : Int → Int → Option Nat} (h : MapF W b n f) (hn : n ≤ n') : MapF W b n' f := by obtain ⟨D, h, h'⟩ := h; exact ⟨D, h.mono hn, h'⟩
theorem MapF.of_block {W W' : World} {b n : Nat} {f : Int → Int → Option Nat} (h : MapF W b n f) (e : W'.heap[b]? = W.heap[b]?) : MapF W' b n f := by
  obtain ⟨D, ⟨es, clock, hb, r⟩, h'⟩ := h
  exact ⟨D, ⟨es, clock, e.trans hb, r⟩, h'⟩
theorem MapF.later {W W' : World} {b n : Nat} {f : Int → Int → Option Nat} (h : MapF W b n f) (hb : Below W.heap.size W W') : MapF W' b n f := h.of_block (hb.block _ h.lt)
theorem MapF.made (W : World) : MapF (W.alloc (.map #[] 0)) W.heap.size 0 (fun _ _ => none) :=
  ⟨.map [], World.ownsMap_made W _ _ _, fun r s l _ => ⟨fun _ => rfl, fun i h => by cases h⟩⟩
def putF (f : Int → Int → Option Nat) (r s : Int) (i : Nat) : Int → Int → Option Nat := fun q t => if q = r ∧ t = s then some i else f q t
def MapN (W : World) (b n : Nat) : Prop := ∃ D : DataW Unit, W.ownsMap Tryz.prog 169 (plainElem Tryz.prog 3) b n D
theorem MapF.any {W : World} {b n : Nat} {f : Int → Int → Option Nat} (h : MapF W b n f) : MapN W b n := by obtain ⟨D, h, _⟩ := h; exact ⟨D, h⟩
theorem MapN.lt {W : World} {b n : Nat} (h : MapN W b n) : b < W.heap.size := by obtain ⟨D, h⟩ := h; exact h.lt
theorem MapN.mono {W : World} {b n n' : Nat} (h : MapN W b n) (hn : n ≤ n') : MapN W b n' := by obtain ⟨D, h⟩ := h; exact ⟨D, h.mono hn⟩
theorem MapN.of_block {W W' : World} {b n : Nat} (h : MapN W b n) (e : W'.heap[b]? = W.heap[b]?) : MapN W' b n := by
  obtain ⟨D, es, clock, hb, r⟩ := h
  exact ⟨D, es, clock, e.trans hb, r⟩
theorem MapN.later {W W' : World} {b n : Nat} (h : MapN W b n) (hb : Below W.heap.size W W') : MapN W' b n := h.of_block (hb.block _ h.lt)
end Go.Proofs.YtdmpobegobfpjaaGreat.tx
namespace Go.Proofs.YtdmpobegobfpjaaGreat.tx
open Go.RowKit
def OfP (p q mb : Nat) (x : Nat) : Prop := x = p ∨ x = q ∨ x = mb
structure Pin (W : World) (base p q mb n cap : Nat) (xs : List N5) : Prop where
  c0 : W.cell? ⟨p, 0, none⟩ = some (.slice (some ⟨q, 0, none⟩) xs.length cap)
  c1 : W.cell? ⟨p, 1, none⟩ = some (.map (some mb))
  fz : ∀ j, W.frozen? ⟨p, j, none⟩ = false
  at_ : NotesAt W q 0 xs
  rm : Room W q (xs.length * 5)
  cp : xs.length ≤ cap
  mp : MapN W mb n
  ok : ∀ s ∈ xs, noteOkB s = true
  pq : p ≠ q
  pm : p ≠ mb
  qm : q ≠ mb
  bp : base ≤ p
  bq : base ≤ q
  bm : base ≤ mb
  lp : p < W.heap.size
  lq : q < W.heap.size
theorem Pin.keep {W V : World} {base p q mb n cap : Nat} {xs : List N5} (h : Pin W base p q mb n cap xs) (hs : W.heap.size ≤ V.heap.size) (hk : ∀ x, OfP p q mb x → V.heap[x]? = W.heap[x]?) : Pin V base p q mb n cap xs :=
  ⟨(World.cell?_of_block (a := ⟨p, 0, none⟩) (hk p (.inl rfl))).trans h.c0, (World.cell?_of_block (a := ⟨p, 1, none⟩) (hk p (.inl rfl))).trans h.c1, fun j => (World.frozen?_of_block (a := ⟨p, j, none⟩) (hk p (.inl rfl))).trans (h.fz j), h.at_.of_block (hk q (.inr (.inl rfl))), h.rm.of_block (hk q (.inr (.inl rfl))), h.cp, h.mp.of_block (hk mb (.inr (.inr rfl))), h.ok, h.pq, h.pm, h.qm, h.bp, h.bq, h.bm, Nat.lt_of_lt_of_le h.lp hs, Nat.lt_of_lt_of_le h.lq hs⟩
theorem Pin.later {W V : World} {base p q mb n cap : Nat} {xs : List N5} (h : Pin W base p q mb n cap xs) (hb : Below W.heap.size W V) : Pin V base p q mb n cap xs := h.keep hb.size (fun x hx => hb.block x (by rcases hx with rfl | rfl | rfl; exact h.lp; exact h.lq; exact h.mp.lt))
theorem Pin.mono {W : World} {base p q mb n n' cap : Nat} {xs : List N5} (h : Pin W base p q mb n cap xs) (hn : n ≤ n') : Pin W base p q mb n' cap xs := ⟨h.c0, h.c1, h.fz, h.at_, h.rm, h.cp, h.mp.mono hn, h.ok, h.pq, h.pm, h.qm, h.bp, h.bq, h.bm, h.lp, h.lq⟩
end Go.Proofs.YtdmpobegobfpjaaGreat.tx
namespace Go.Proofs.YtdmpobegobfpjaaGreat
namespace HeapP
def swF {α : Type} (k : Nat → α) (a b : Nat) : Nat → α := fun i => if i = a then k b else if i = b then k a else k i
def Hp (k : Nat → Int) (n : Nat) : Prop := ∀ i, 0 < i → i < n → k ((i - 1) / 2) ≤ k i
def HpUp (k : Nat → Int) (n c : Nat) : Prop := (∀ i, 0 < i → i < n → i ≠ c → k ((i - 1) / 2) ≤ k i) ∧ (∀ i, 0 < i → i < n → (i - 1) / 2 = c → 0 < c → k ((c - 1) / 2) ≤ k i)
def HpDn (k : Nat → Int) (n c : Nat) : Prop := (∀ i, 0 < i → i < n → (i - 1) / 2 ≠ c → k ((i - 1) / 2) ≤ k i) ∧ (∀ i, 0 < i → i < n → (i - 1) / 2 = c → 0 < c → k ((c - 1) / 2) ≤ k i)
theorem HpUp.done {k : Nat → Int} {n c : Nat} (h : HpUp k n c) (hc : c = 0 ∨ k ((c - 1) / 2) ≤ k c) : Hp k n := fun i h0 hn => by
  by_cases e : i = c
  · subst e; rcases hc with hc | hc
    · omega
    · exact hc
  · exact h.1 i h0 hn e
theorem HpUp.step {k : Nat → Int} {n c : Nat} (h : HpUp k n c) (h0 : 0 < c) (hn : c < n) (hl : k c < k ((c - 1) / 2)) : HpUp (swF k c ((c - 1) / 2)) n ((c - 1) / 2) := by
  obtain ⟨h1, h2⟩ := h
  refine ⟨fun i i0 hi hne => ?_, fun i i0 hi hp hpc => ?_⟩
  · unfold swF
    by_cases e1 : i = c
    · subst e1
      simp [show ¬ (i - 1) / 2 = i by omega]; omega
    · by_cases e2 : (i - 1) / 2 = c
      · simp [e1, hne, e2]; exact h2 i i0 hi e2 h0
      · by_cases e3 : (i - 1) / 2 = (c - 1) / 2
        · simp [e1, hne, e3, show ¬ (c - 1) / 2 = c by omega]
          have := h1 i i0 hi e1
          rw [e3] at this
          omega
        · simp [e1, hne, e2, e3]
          exact h1 i i0 hi e1
  · unfold swF
    have hq := h1 ((c - 1) / 2) (by omega) (by omega) (by omega)
    by_cases e1 : i = c
    · subst e1
      simp [show ¬ ((i - 1) / 2 - 1) / 2 = i by omega, show ¬ ((i - 1) / 2 - 1) / 2 = (i - 1) / 2 by omega]
      exact hq
    · have hi' := h1 i i0 hi e1
      rw [hp] at hi'
      simp [e1, show ¬ i = (c - 1) / 2 by omega, show ¬ ((c - 1) / 2 - 1) / 2 = c by omega, show ¬ ((c - 1) / 2 - 1) / 2 = (c - 1) / 2 by omega]
      omega
theorem HpDn.done {k : Nat → Int} {n c : Nat} (h : HpDn k n c) (h1 : 2 * c + 1 < n → k c ≤ k (2 * c + 1)) (h2 : 2 * c + 2 < n → k c ≤ k (2 * c + 2)) : Hp k n := fun i h0 hn => by
  by_cases e : (i - 1) / 2 = c
  · rw [e]
    rcases (show i = 2 * c + 1 ∨ i = 2 * c + 2 by omega) with rfl | rfl
    · exact h1 hn
    · exact h2 hn
  · exact h.1 i h0 hn e
theorem HpDn.step {k : Nat → Int} {n c l : Nat} (h : HpDn k n c) (hl : l = 2 * c + 1 ∨ l = 2 * c + 2) (hn : l < n) (hlt : k l < k c) (h1 : 2 * c + 1 < n → k l ≤ k (2 * c + 1)) (h2 : 2 * c + 2 < n → k l ≤ k (2 * c + 2)) : HpDn (swF k c l) n l := by
  obtain ⟨g1, g2⟩ := h
  have hpl : (l - 1) / 2 = c := by omega
  refine ⟨fun i i0 hi hne => ?_, fun i i0 hi hp _ => ?_⟩
  · unfold swF
    by_cases e0 : i = c
    · subst e0
      simp [show ¬ (i - 1) / 2 = i by omega, hne]
      exact g2 l (by omega) hn hpl i0
    · by_cases e1 : (i - 1) / 2 = c
      · simp only [e1, e0, if_true, if_false]
        by_cases e2 : i = l
        · simp [e2]; omega
        · simp [e2]
          rcases (show i = 2 * c + 1 ∨ i = 2 * c + 2 by omega) with rfl | rfl
          · exact h1 hi
          · exact h2 hi
      · have := g1 i i0 hi e1
        by_cases e2 : i = l
        · omega
        · simp [e0, e1, e2, hne]; exact this
  · unfold swF
    have := g1 i i0 hi (by omega)
    rw [hp] at this
    simp [hpl, show ¬ i = c by omega, show ¬ i = l by omega]
    exact this
theorem Hp.top {k : Nat → Int} {n : Nat} (h : Hp k n) : ∀ i, i < n → k 0 ≤ k i := by
  intro i
  induction i using Nat.strongRecOn with
  | ind i ih =>
    intro hi
    by_cases e : i = 0
    · subst e; exact Int.le_refl _
    · have := ih ((i - 1) / 2) (by omega) (by omega)
      have := h i (by omega) hi
      omega
end HeapP
namespace HeapP
def swL {α : Type} (xs : List α) (a b : Nat) (x y : α) : List α := (xs.set a y).set b x
theorem HpDn.congr {k k' : Nat → Int} {n : Nat} (h : HpDn k n 0) (e : ∀ i, i < n → k' i = k i) : HpDn k' n 0 :=
  ⟨fun i h0 hn hc => by rw [e i hn, e _ (by omega)]; exact h.1 i h0 hn hc, fun i _ _ _ h' => by omega⟩
end HeapP
end Go.Proofs.YtdmpobegobfpjaaGreat
namespace Go.Proofs.YtdmpobegobfpjaaGreat.tx
open Go.RowKit
open Go.Sort (grow)
def noK (xs : List N5) (i : Nat) : Int := rk (atNo xs i).region (atNo xs i).slot
end Go.Proofs.YtdmpobegobfpjaaGreat.tx
namespace Go.Proofs.YtdmpobegobfpjaaGreat.tx
open Go.RowKit
theorem NoteAt.of_blk {W V : World} {b o : Nat} {s : N5} (h : NoteAt W b o s) (e : V.heap[b]? = W.heap[b]?) : NoteAt V b o s :=
  ⟨(World.cell?_of_block (a := ⟨b, o, none⟩) e).trans h.c0, (World.cell?_of_block (a := ⟨b, o + 1, none⟩) e).trans h.c1, (World.cell?_of_block (a := ⟨b, o + 2, none⟩) e).trans h.c2, (World.cell?_of_block (a := ⟨b, o + 3, none⟩) e).trans h.c3, (World.cell?_of_block (a := ⟨b, o + 4, none⟩) e).trans h.c4⟩
def noR (s : N5) : Int := rk s.region s.slot
def noLen : Value → Nat
  | .slice _ n _ => n
  | _ => 0
end Go.Proofs.YtdmpobegobfpjaaGreat.tx
namespace Go.Proofs.YtdmpobegobfpjaaGreat.tx
open Go.RowKit
open Go.Sort (grow)
def noW (xs : List N5) (r s : Int) : Option Nat := xs.findIdx? fun x => decide (x.region = r) && decide (x.slot = s)
structure PinB (W : World) (base p mb n : Nat) (v : Value) (xs : List N5) : Prop where
  c0 : W.cell? ⟨p, 0, none⟩ = some v
  c1 : W.cell? ⟨p, 1, none⟩ = some (.map (some mb))
  fz : ∀ j, W.frozen? ⟨p, j, none⟩ = false
  row : RowN W base v xs
  mp : MapF W mb n (noW xs)
  ok : ∀ s ∈ xs, noteOkB s = true
  vp : v.ownBlock ≠ some p
  vm : v.ownBlock ≠ some mb
  pm : p ≠ mb
  bp : base ≤ p
  bm : base ≤ mb
  lp : p < W.heap.size
theorem PinB.later {W V : World} {base p mb n : Nat} {v : Value} {xs : List N5} (h : PinB W base p mb n v xs) (hb : Below W.heap.size W V) : PinB V base p mb n v xs :=
  ⟨(hb.cell (p := ⟨p, 0, none⟩) h.lp).trans h.c0, (hb.cell (p := ⟨p, 1, none⟩) h.lp).trans h.c1, fun j => (hb.frozen (p := ⟨p, j, none⟩) h.lp).trans (h.fz j), h.row.later hb, h.mp.later hb, h.ok, h.vp, h.vm, h.pm, h.bp, h.bm, Nat.lt_of_lt_of_le h.lp hb.size⟩
def noUp2 (xs : List N5) : Prop := xs.Pairwise fun a b => noR a < noR b
end Go.Proofs.YtdmpobegobfpjaaGreat.tx
namespace Go.Proofs.YtdmpobegobfpjaaGreat.tx
open Go.RowKit
structure Pis (W : World) (base p q mb n cap : Nat) (xs : List S5) : Prop where
  c0 : W.cell? ⟨p, 0, none⟩ = some (.slice (some ⟨q, 0, none⟩) xs.length cap)
  c1 : W.cell? ⟨p, 1, none⟩ = some (.map (some mb))
  fz : ∀ j, W.frozen? ⟨p, j, none⟩ = false
  at_ : SetsAt W q 0 xs
  rm : Room W q (xs.length * 5)
  cp : xs.length ≤ cap
  mp : MapN W mb n
  ok : ∀ s ∈ xs, setOkB s = true
  pq : p ≠ q
  pm : p ≠ mb
  qm : q ≠ mb
  bp : base ≤ p
  bq : base ≤ q
  bm : base ≤ mb
  lp : p < W.heap.size
  lq : q < W.heap.size
theorem Pis.keep {W V : World} {base p q mb n cap : Nat} {xs : List S5} (h : Pis W base p q mb n cap xs) (hs : W.heap.size ≤ V.heap.size) (hk : ∀ x, OfP p q mb x → V.heap[x]? = W.heap[x]?) : Pis V base p q mb n cap xs :=
  ⟨(World.cell?_of_block (a := ⟨p, 0, none⟩) (hk p (.inl rfl))).trans h.c0, (World.cell?_of_block (a := ⟨p, 1, none⟩) (hk p (.inl rfl))).trans h.c1, fun j => (World.frozen?_of_block (a := ⟨p, j, none⟩) (hk p (.inl rfl))).trans (h.fz j), h.at_.of_block (hk q (.inr (.inl rfl))), h.rm.of_block (hk q (.inr (.inl rfl))), h.cp, h.mp.of_block (hk mb (.inr (.inr rfl))), h.ok, h.pq, h.pm, h.qm, h.bp, h.bq, h.bm, Nat.lt_of_lt_of_le h.lp hs, Nat.lt_of_lt_of_le h.lq hs⟩
theorem Pis.later {W V : World} {base p q mb n cap : Nat} {xs : List S5} (h : Pis W base p q mb n cap xs) (hb : Below W.heap.size W V) : Pis V base p q mb n cap xs := h.keep hb.size (fun x hx => hb.block x (by rcases hx with rfl | rfl | rfl; exact h.lp; exact h.lq; exact h.mp.lt))
theorem Pis.mono {W : World} {base p q mb n n' cap : Nat} {xs : List S5} (h : Pis W base p q mb n cap xs) (hn : n ≤ n') : Pis W base p q mb n' cap xs := ⟨h.c0, h.c1, h.fz, h.at_, h.rm, h.cp, h.mp.mono hn, h.ok, h.pq, h.pm, h.qm, h.bp, h.bq, h.bm, h.lp, h.lq⟩
end Go.Proofs.YtdmpobegobfpjaaGreat.tx
namespace Go.Proofs.YtdmpobegobfpjaaGreat.tx
open Go.RowKit
open Go.Sort (grow)
def seK (xs : List S5) (i : Nat) : Int := rk (atSe xs i).region (atSe xs i).slot
end Go.Proofs.YtdmpobegobfpjaaGreat.tx
namespace Go.Proofs.YtdmpobegobfpjaaGreat.tx
open Go.RowKit
theorem SetAt.of_blk {W V : World} {b o : Nat} {s : S5} (h : SetAt W b o s) (e : V.heap[b]? = W.heap[b]?) : SetAt V b o s :=
  ⟨(World.cell?_of_block (a := ⟨b, o, none⟩) e).trans h.c0, (World.cell?_of_block (a := ⟨b, o + 1, none⟩) e).trans h.c1, (World.cell?_of_block (a := ⟨b, o + 2, none⟩) e).trans h.c2, (World.cell?_of_block (a := ⟨b, o + 3, none⟩) e).trans h.c3, (World.cell?_of_block (a := ⟨b, o + 4, none⟩) e).trans h.c4⟩
def seR (s : S5) : Int := rk s.region s.slot
def seLen : Value → Nat
  | .slice _ n _ => n
  | _ => 0
end Go.Proofs.YtdmpobegobfpjaaGreat.tx
namespace Go.Proofs.YtdmpobegobfpjaaGreat.tx
open Go.RowKit
open Go.Sort (grow)
def seW (xs : List S5) (r s : Int) : Option Nat := xs.findIdx? fun x => decide (x.region = r) && decide (x.slot = s)
structure PisB (W : World) (base p mb n : Nat) (v : Value) (xs : List S5) : Prop where
  c0 : W.cell? ⟨p, 0, none⟩ = some v
  c1 : W.cell? ⟨p, 1, none⟩ = some (.map (some mb))
  fz : ∀ j, W.frozen? ⟨p, j, none⟩ = false
  row : RowS W base v xs
  mp : MapF W mb n (seW xs)
  ok : ∀ s ∈ xs, setOkB s = true
  vp : v.ownBlock ≠ some p
  vm : v.ownBlock ≠ some mb
  pm : p ≠ mb
  bp : base ≤ p
  bm : base ≤ mb
  lp : p < W.heap.size
theorem PisB.later {W V : World} {base p mb n : Nat} {v : Value} {xs : List S5} (h : PisB W base p mb n v xs) (hb : Below W.heap.size W V) : PisB V base p mb n v xs :=
  ⟨(hb.cell (p := ⟨p, 0, none⟩) h.lp).trans h.c0, (hb.cell (p := ⟨p, 1, none⟩) h.lp).trans h.c1, fun j => (hb.frozen (p := ⟨p, j, none⟩) h.lp).trans (h.fz j), h.row.later hb, h.mp.later hb, h.ok, h.vp, h.vm, h.pm, h.bp, h.bm, Nat.lt_of_lt_of_le h.lp hb.size⟩
def seUp2 (xs : List S5) : Prop := xs.Pairwise fun a b => seR a < seR b
theorem rise_all {f : Nat → Int} {n : Nat} (h : ∀ i, i + 1 < n → f i < f (i + 1)) {i j : Nat} (hij : i < j) (hj : j < n) : f i < f j := by
  induction j with
  | zero => omega
  | succ j ih =>
    by_cases e : i = j
    · subst e; exact h i hj
    · exact Int.lt_trans (ih (by omega) (by omega)) (h j hj)
theorem txB_no {t : T7} (h : txB t = true) : (∀ s ∈ t.reads, noteOkB s = true) ∧ noUp2 t.reads := by
  simp only [txB, Bool.and_eq_true] at h
  have g := h.1.2
  rw [noAt_all, Bool.and_eq_true, List.all_eq_true, List.all_eq_true] at g
  refine ⟨fun s hs => ?_, ?_⟩
  · obtain ⟨i, hi, rfl⟩ := List.getElem_of_mem hs
    have := g.1 i (List.mem_range.2 hi)
    rwa [show atNo t.reads i = t.reads[i] from by have := atNo_of hi; rw [List.getElem?_eq_getElem hi] at this; exact (Option.some.inj this).symm] at this
  · refine List.pairwise_iff_getElem.2 fun i j hi hj hij => ?_
    have := rise_all (f := fun i => noR (atNo t.reads i)) (n := t.reads.length) (fun i hi => by
      have := g.2 (i + 1) (List.mem_range.2 hi)
      simp only [noUp, Nat.add_sub_cancel, Bool.or_eq_true, decide_eq_true_eq] at this
      rcases this with h | h
      · omega
      · exact h) hij hj
    have e : ∀ i (hi : i < t.reads.length), atNo t.reads i = t.reads[i] := fun i hi => by have := atNo_of hi; rw [List.getElem?_eq_getElem hi] at this; exact (Option.some.inj this).symm
    rwa [e i hi, e j hj] at this
theorem txB_se {t : T7} (h : txB t = true) : (∀ s ∈ t.sets, setOkB s = true) ∧ seUp2 t.sets := by
  simp only [txB, Bool.and_eq_true] at h
  have g := h.2
  rw [seAt_all, Bool.and_eq_true, List.all_eq_true, List.all_eq_true] at g
  refine ⟨fun s hs => ?_, ?_⟩
  · obtain ⟨i, hi, rfl⟩ := List.getElem_of_mem hs
    have := g.1 i (List.mem_range.2 hi)
    rwa [show atSe t.sets i = t.sets[i] from by have := atSe_of hi; rw [List.getElem?_eq_getElem hi] at this; exact (Option.some.inj this).symm] at this
  · refine List.pairwise_iff_getElem.2 fun i j hi hj hij => ?_
    have := rise_all (f := fun i => seR (atSe t.sets i)) (n := t.sets.length) (fun i hi => by
      have := g.2 (i + 1) (List.mem_range.2 hi)
      simp only [seUp, Nat.add_sub_cancel, Bool.or_eq_true, decide_eq_true_eq] at this
      rcases this with h | h
      · omega
      · exact h) hij hj
    have e : ∀ i (hi : i < t.sets.length), atSe t.sets i = t.sets[i] := fun i hi => by have := atSe_of hi; rw [List.getElem?_eq_getElem hi] at this; exact (Option.some.inj this).symm
    rwa [e i hi, e j hj] at this
def CAns (w : World) (xs : List N5) (e : Ending) (w' : World) : Prop :=
  ∃ (a : Option Addr) (c : Nat) (PS : Nat → Prop), e = .returned (.slice a xs.length c) ∧ OwnNo w' PS a xs ∧ (∀ q, PS q → w.heap.size ≤ q ∧ q < w'.heap.size) ∧ Below w.heap.size w w'
theorem CAns.of {w w' : World} {base : Nat} {v : Value} {xs : List N5} (h : RowN w' base v xs) (hb : w.heap.size ≤ base) (b : Below w.heap.size w w') : CAns w xs (.returned v) w' := by
  obtain ⟨a, c, e, ho⟩ := h.form
  exact ⟨a, c, _, by rw [e], ho, fun q hq => ⟨Nat.le_trans hb (h.lt hq).1, (h.lt hq).2⟩, b⟩
theorem CAns.none {w w' : World} (b : Below w.heap.size w w') : CAns w [] (.returned (.slice Option.none 0 0)) w' := ⟨Option.none, 0, fun _ => False, rfl, .inl rfl, fun _ h => h.elim, b⟩
def ofC (ss : List S5) (xs : List N5) : List N5 := xs.filter fun n => (seW ss n.region n.slot).isNone
def checksT (t : T7) : List N5 := if txB t = true then ofC t.sets t.reads else []
def setAt (xs : List S5) (r s : Int) : Int := match seW xs r s with | some i => (i : Int) | none => -1
end Go.Proofs.YtdmpobegobfpjaaGreat.tx