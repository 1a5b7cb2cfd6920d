/- PlacesI1; PlacesIa; CluI7; Cmp; FindT; YSofD; YPilM; YPilC; YPilN; HeapP; YLftN; YSnkN; YTakN; YInoN; YPutN; YPOfN; YPilS; YLftS; YSnkS; YTakS; YInoS; YPutS; YPOfS; YChkS; RpS: joined. -/
import Derived.Test.YtdmpobegobfpjaaGreatRows
import Derived.Test.YtdmpobegobfpjaaGreatJ6ExactFinal
import Derived.WalkKit
import Derived.WalkSpells
import Derived.WalkLawsBesides
import Derived.Below
import Derived.BigQuiet
import Derived.Deep.QuietTactic
import Derived.Test.YtdmpobegobfpjaaGreatJ8ExactFinal
import Derived.Test.YtdmpobegobfpjaaGreatJ0ExactFinal
import Derived.Lib.QuietBelow
import Derived.Deep.CutRange
import Derived.Test.YtdmpobegobfpjaaGreatJ7ExactFinal
import Derived.Test.YtdmpobegobfpjaaGreatJ2ExactFinal
import Derived.Maps.OwnSet
import Derived.Maps.Views
import Derived.DeepKeys4
import Derived.Deep.RegionWith
import Derived.Test.YtdmpobegobfpjaaGreatJ5ExactFinal
import Derived.LaidEql
import Derived.RowKitTokens
import Derived.Deep.Upon
namespace Go.Proofs.YtdmpobegobfpjaaGreat
open Go.RowKit
theorem implMachine (w : World) (x : Int) : Calls Tryz.prog 159 #[.int .i64 x] w fun e w' => e = .returned (.bool (inB 0 7 x)) ∧ w' = w := by
  by_cases h0 : 0 ≤ x
  · by_cases h8 : x < 8
    · rw [inB_yes (by omega) (by omega)]
      go_enter Tryz.func159, Tryz.ntmps159
      go_wp2
      go_ret
      exact ⟨rfl, rfl⟩
    · have hd : decide (x < 8) = false := by simp; omega
      have hb : inB 0 7 x = false := by cases h : inB 0 7 x with | false => rfl | true => rw [inB_iff] at h; omega
      rw [hb]
      go_enter Tryz.func159, Tryz.ntmps159
      go_wp2
      go_ret
      exact ⟨rfl, rfl⟩
  · have hd : decide (0 ≤ x) = false := by simp; omega
    have hb : inB 0 7 x = false := by cases h : inB 0 7 x with | false => rfl | true => rw [inB_iff] at h; omega
    rw [hb]
    go_enter Tryz.func159, Tryz.ntmps159
    go_wp2
    go_ret
    exact ⟨rfl, rfl⟩
set_option maxHeartbeats 1000000 in
theorem index_any (w : World) (a : Option Addr) (n cap : Nat) (z : Int) (zs : List Int) (hn : n ≤ maxLen) (hs : SlN w w.heap.size a n zs) :
    Calls Tryz.prog 194 #[.slice a n cap, .int .i64 z] w fun e w' => (∃ i : Int, e = .returned (.int .i64 i) ∧ decide (0 ≤ i) = hasB zs z) ∧ w' = w := by
  unfold maxLen at hn
  obtain ⟨hx, hs⟩ := hs
  go_enter Tryz.func194, Tryz.ntmps194
  go_wp2
  go_loop [8] (fun v => ∃ k : Nat, k ≤ n ∧ v = .int .i64 k ∧ ∀ i, i < k → atN zs i ≠ z) (fun v => n - (intOf v).toNat)
  case atStart => exact ⟨0, Nat.zero_le _, rfl, fun i h => absurd h (by omega)⟩
  case round =>
    obtain ⟨k, hk, rfl, hall⟩ := hrel
    have K : Hid ((∀ i, i < k → atN zs i ≠ z) ∧ zs.length = n) := ⟨hall, hx⟩
    by_cases hlt : k < n
    · rcases hs with hs | ⟨b, off, rfl, hb, h1⟩
      · omega
      · have c := h1 k _ (atN_of (by omega))
        clear h1 hall hx
        by_cases he : atN zs k = z
        · have q : (z == atN zs k) = true := by simp [he]
          have HE : Hid (atN zs k = z) := he
          clear he
          go_wp2
          go_ret
          exact ⟨⟨_, rfl, by rw [has_yes (by rw [K.out.2]; exact hlt) HE.out]; simp⟩, rfl⟩
        · have q : (z == atN zs k) = false := by simp; exact fun h => he h.symm
          have HE : Hid (atN zs k ≠ z) := he
          clear he
          go_wp2
          refine ⟨⟨k + 1, by omega, by simp, fun i hi => ?_⟩, by simp [intOf]; omega⟩
          by_cases e : i = k
          · rw [e]; exact HE.out
          · exact K.out.1 i (by omega)
    · have : k = n := by omega
      subst this
      have hd : decide ((k : Int) < (k : Int)) = false := by simp
      clear hall hx hs
      go_wp2
      go_ret
      exact ⟨⟨_, rfl, by rw [has_no (by rw [K.out.2]; exact K.out.1)]; rfl⟩, rfl⟩
theorem contains_any (w : World) (a : Option Addr) (n cap : Nat) (z : Int) (zs : List Int) (hn : n ≤ maxLen) (hs : SlN w w.heap.size a n zs) :
    Calls Tryz.prog 160 #[.slice a n cap, .int .i64 z] w fun e w' => e = .returned (.bool (hasB zs z)) ∧ w' = w := by
  have hi := index_any w a n cap z zs hn hs
  clear hs
  go_enter Tryz.func160, Tryz.ntmps160
  go_wp2_with fail
  refine hi.mono ?_
  clear hi
  rintro e w1 ⟨⟨i, rfl, hb⟩, rfl⟩
  go_wp2
  go_ret
  exact ⟨rfl, rfl⟩
set_option maxHeartbeats 4000000 in
theorem placeOk_any (w : World) (a : Option Addr) (cap : Nat) (zs : List Int) (hs : SlN w w.heap.size a zs.length zs) (hcp : zs.length ≤ cap) :
    Calls Tryz.prog 115 #[.agg #[.slice a zs.length cap]] w fun e w' => e = .returned (.bool (placeB zs)) ∧ Below w.heap.size w w' := by
  have b0 : Below w.heap.size w (w.alloc (.cells #[.slice a zs.length cap] 100)) := (Below.refl _ _).alloc (Nat.le_refl _) _
  by_cases h3 : zs.length < 1 ∨ 3 < zs.length
  · have hpf : placeB zs = false := by
      rcases h3 with h | h
      · simp [placeB, show ¬ 1 ≤ zs.length by omega]
      · simp [placeB, show ¬ zs.length ≤ 3 by omega]
    rw [hpf]
    rcases h3 with h | h
    · have d3 : decide ((zs.length : Int) < 1) = true := by simp; omega
      go_enter Tryz.func115, Tryz.ntmps115
      go_wp2
      go_ret
      exact ⟨rfl, b0⟩
    · have d3 : decide ((zs.length : Int) < 1) = false := by simp; omega
      have d4 : decide ((3 : Int) < (zs.length : Int)) = true := by simp; omega
      go_enter Tryz.func115, Tryz.ntmps115
      go_wp2
      go_ret
      exact ⟨rfl, b0⟩
  · have d3 : decide ((zs.length : Int) < 1) = false := by simp; omega
    have d4 : decide ((3 : Int) < (zs.length : Int)) = false := by simp; omega
    have HG : Hid (placeB zs = (List.range zs.length).all (goodAt zs)) := by unfold Hid; simp [placeB, show 1 ≤ zs.length by omega, show zs.length ≤ 3 by omega]
    have KS : Hid (SlN w w.heap.size a zs.length zs) := hs
    have KB : Hid (Below w.heap.size w (w.alloc (.cells #[.slice a zs.length cap] 100))) := b0
    clear hs b0
    go_enter Tryz.func115, Tryz.ntmps115
    go_wp2
    go_loopw [18] (fun v18 wr => ∃ k : Nat, k ≤ zs.length ∧ v18 = .int .i64 k ∧ Below (w.heap.size + 1) (w.alloc (.cells #[.slice a zs.length cap] 100)) wr ∧ (List.range k).all (goodAt zs) = true) (fun v18 _ => zs.length - (intOf v18).toNat)
    case atStart => exact ⟨0, Nat.zero_le _, rfl, Below.refl _ _, rfl⟩
    case round =>
      obtain ⟨k, hk, rfl, hbq, hgk⟩ := hrel
      have hbw : Below w.heap.size w wr := KB.out.trans (hbq.mono (by omega))
      by_cases hkl : k < zs.length
      · obtain ⟨_, hsn⟩ := KS.out
        rcases hsn with hsn | ⟨b', off', rfl, hb', h2⟩
        · omega
        · have cp : wr.cell? ⟨w.heap.size, 0, none⟩ = some (.slice (some ⟨b', off', none⟩) zs.length cap) := (hbq.cell (p := ⟨w.heap.size, 0, none⟩) (by simp)).trans (by go_simp)
          have ck := (hbw.cell (p := ⟨b', off' + k, none⟩) hb').trans (h2 k _ (atN_of hkl))
          have hst : SlN wr wr.heap.size (some ⟨b', off', none⟩) k (zs.take k) := ⟨by rw [List.length_take]; omega, .inr ⟨b', off', rfl, Nat.lt_of_lt_of_le hb' hbw.size, fun i z e => by
            rw [List.getElem?_take] at e
            split at e
            · exact (h2.below hbw hb') i z e
            · cases e⟩⟩
          have KQ : Hid (Below (w.heap.size + 1) (w.alloc (.cells #[.slice (some ⟨b', off', none⟩) zs.length cap] 100)) wr ∧ (List.range k).all (goodAt zs) = true ∧ Below w.heap.size w wr) := ⟨hbq, hgk, hbw⟩
          have hkm : k ≤ maxLen := by unfold maxLen; omega
          have cH : Calls Tryz.prog 160 #[.slice (some ⟨b', off', none⟩) k cap, .int .i64 (atN zs k)] wr fun e w'' => e = .returned (.bool (hasB (zs.take k) (atN zs k))) ∧ w'' = wr := contains_any wr _ k cap (atN zs k) (zs.take k) hkm hst
          have cM := implMachine wr (atN zs k)
          have HK : Hid (goodAt zs k = (inB 0 7 (atN zs k) && !hasB (zs.take k) (atN zs k))) := rfl
          have hkc : k ≤ cap := by omega
          clear h2 hbq hgk hst hbw
          generalize atN zs k = z at *
          cases g1 : inB 0 7 z with
          | false =>
            rw [g1] at cM
            have hgf : goodAt zs k = false := by rw [HK.out, g1]; rfl
            go_wp2_with fail
            refine cM.mono ?_
            clear cM cH
            rintro e wr ⟨rfl, rfl⟩
            go_wp2
            go_ret
            exact ⟨by rw [HG.out, all_off hkl hgf]; rfl, KQ.out.2.2⟩
          | true =>
            rw [g1] at cM
            cases g2 : hasB (zs.take k) z with
            | true =>
              rw [g2] at cH
              have hgf : goodAt zs k = false := by rw [HK.out, g1, g2]; rfl
              go_wp2_with fail
              refine cM.mono ?_
              clear cM
              rintro e wr ⟨rfl, rfl⟩
              go_wp2_with fail
              refine cH.mono ?_
              clear cH
              rintro e wr ⟨rfl, rfl⟩
              go_wp2
              go_ret
              exact ⟨by rw [HG.out, all_off hkl hgf]; rfl, KQ.out.2.2⟩
            | false =>
              rw [g2] at cH
              have hgt : goodAt zs k = true := by rw [HK.out, g1, g2]; rfl
              go_wp2_with fail
              refine cM.mono ?_
              clear cM
              rintro e wr ⟨rfl, rfl⟩
              go_wp2_with fail
              refine cH.mono ?_
              clear cH
              rintro e wr ⟨rfl, rfl⟩
              go_wp2
              exact ⟨⟨k + 1, by omega, by simp, KQ.out.1, all_on KQ.out.2.1 hgt⟩, by simp [intOf]; omega⟩
      · have : k = zs.length := by omega
        subst this
        have hd : decide ((zs.length : Int) < (zs.length : Int)) = false := by simp
        go_wp2
        go_ret
        exact ⟨by rw [HG.out, hgk]; rfl, hbw⟩
theorem wrong_any (w : World) (a : Option Addr) (cap : Nat) (zs : List Int) (hs : SlN w w.heap.size a zs.length zs) (hcp : zs.length ≤ cap) :
    Calls Tryz.prog 114 #[.agg #[.slice a zs.length cap]] w fun e w' => e = .returned (.bool (!placeB zs)) ∧ Below w.heap.size w w' := by
  have b0 : Below w.heap.size w (w.alloc (.cells #[.slice a zs.length cap] 100)) := (Below.refl _ _).alloc (Nat.le_refl _) _
  have hc := placeOk_any (w.alloc (.cells #[.slice a zs.length cap] 100)) a cap zs (hs.later b0) hcp
  have B0 : Hid (Below w.heap.size w (w.alloc (.cells #[.slice a zs.length cap] 100))) := b0
  clear hs b0
  generalize placeB zs = V at *
  generalize zs.length = n at *
  go_enter Tryz.func114, Tryz.ntmps114
  go_wp2_with fail
  refine hc.mono ?_
  clear hc
  rintro e w1 ⟨rfl, b1⟩
  go_wp2
  go_ret
  exact ⟨rfl, B0.out.trans (b1.mono (by simp))⟩
set_option maxHeartbeats 2000000 in
theorem indexFunc_any (w : World) (a : Option Addr) (n cap : Nat) (zss : List (List Int)) (hn : n ≤ maxLen) (hs : SlP w w.heap.size a n zss) :
    Calls Tryz.prog 161 #[.slice a n cap, .func (.func 114) #[] #[]] w fun e w' => (∃ i : Int, e = .returned (.int .i64 i) ∧ decide (0 ≤ i) = !((List.range n).all fun i => placeB (atP zss i))) ∧ Below w.heap.size w w' := by
  unfold maxLen at hn
  obtain ⟨hx, hs⟩ := hs
  go_enter Tryz.func161, Tryz.ntmps161
  go_wp2
  go_loopw [8] (fun v wr => ∃ j : Nat, j ≤ n ∧ v = .int .i64 j ∧ Below w.heap.size w wr ∧ (List.range j).all (fun i => placeB (atP zss i)) = true) (fun v _ => n - (intOf v).toNat)
  case atStart => exact ⟨0, Nat.zero_le _, rfl, Below.refl _ _, rfl⟩
  case round =>
    obtain ⟨j, hj, rfl, hbl, hall⟩ := hrel
    by_cases hlt : j < n
    · rcases hs with hs | ⟨b, off, rfl, hb, h1⟩
      · omega
      · obtain ⟨a', cap', hc, hsl, hcp⟩ := h1 j _ (atP_of (by omega))
        have c := (hbl.cell (p := ⟨b, off + j, none⟩) hb).trans hc
        have KA : Hid ((List.range j).all (fun i => placeB (atP zss i)) = true ∧ Below w.heap.size w wr) := ⟨hall, hbl⟩
        have hw := wrong_any wr a' cap' (atP zss j) ((hsl.below hbl).mono hbl.size) hcp
        have HF : Hid (placeB (atP zss j) = false → ((List.range n).all fun i => placeB (atP zss i)) = false) := fun h => all_off hlt h
        have HT : Hid (placeB (atP zss j) = true → ((List.range (j + 1)).all fun i => placeB (atP zss i)) = true) := fun h => all_on hall h
        clear h1 hc hall hsl hbl hcp
        generalize (atP zss j).length = m at *
        cases hp : placeB (atP zss j) with
        | false =>
          rw [hp] at hw
          go_wp2_with fail
          refine hw.mono ?_
          clear hw
          rintro e w1 ⟨rfl, b1⟩
          go_wp2
          go_ret
          exact ⟨⟨_, rfl, by rw [HF.out hp]; simp⟩, KA.out.2.trans (b1.mono KA.out.2.size)⟩
        | true =>
          rw [hp] at hw
          go_wp2_with fail
          refine hw.mono ?_
          clear hw
          rintro e w1 ⟨rfl, b1⟩
          go_wp2
          exact ⟨⟨j + 1, by omega, by simp, KA.out.2.trans (b1.mono KA.out.2.size), HT.out hp⟩, by simp [intOf]; omega⟩
    · have : j = n := by omega
      subst this
      have hd : decide ((j : Int) < (j : Int)) = false := by simp
      clear hs
      go_wp2
      go_ret
      exact ⟨⟨_, rfl, by rw [hall]; rfl⟩, hbl⟩
theorem containsFunc_any (w : World) (a : Option Addr) (n cap : Nat) (zss : List (List Int)) (hn : n ≤ maxLen) (hs : SlP w w.heap.size a n zss) :
    Calls Tryz.prog 116 #[.slice a n cap, .func (.func 114) #[] #[]] w fun e w' => e = .returned (.bool (!((List.range n).all fun i => placeB (atP zss i)))) ∧ Below w.heap.size w w' := by
  have hi := indexFunc_any w a n cap zss hn hs
  clear hs
  generalize (!((List.range n).all fun i => placeB (atP zss i))) = V at *
  go_enter Tryz.func116, Tryz.ntmps116
  go_wp2_with fail
  refine hi.mono ?_
  clear hi
  rintro e w1 ⟨⟨i, rfl, hb⟩, b1⟩
  go_wp2
  go_ret
  exact ⟨rfl, b1⟩
set_option maxHeartbeats 1000000 in
theorem implPlacesOk_any (w : World) (a : Option Addr) (n cap : Nat) (zss : List (List Int)) (hn : n ≤ maxLen) (hs : SlP w w.heap.size a n zss) :
    Calls Tryz.prog 65 #[.slice a n cap] w fun e w' => e = .returned (.bool (placesB zss)) ∧ Below w.heap.size w w' := by
  have hx := hs.1
  have hc := containsFunc_any w a n cap zss hn hs
  unfold maxLen at hn
  by_cases h1 : 1 ≤ n
  · by_cases h6 : n ≤ 6
    · have d1 : (1 : Int) ≤ (n : Int) := by omega
      have d6 : (n : Int) ≤ 6 := by omega
      have hV : placesB zss = ((List.range n).all fun i => placeB (atP zss i)) := by simp [placesB, hx, h1, h6]
      rw [hV]
      generalize ((List.range n).all fun i => placeB (atP zss i)) = V at *
      clear hs hV
      go_enter Tryz.func65, Tryz.ntmps65
      go_wp2_with fail
      refine hc.mono ?_
      clear hc
      rintro e w1 ⟨rfl, b1⟩
      go_wp2
      go_ret
      exact ⟨by simp, b1⟩
    · have d1 : (1 : Int) ≤ (n : Int) := by omega
      have d6 : decide ((n : Int) ≤ 6) = false := by simp; omega
      have hV : placesB zss = false := by simp [placesB, hx, h6]
      rw [hV]
      clear hs hV hc
      go_enter Tryz.func65, Tryz.ntmps65
      go_wp2
      go_ret
      exact ⟨rfl, Below.refl _ _⟩
  · obtain rfl : n = 0 := by omega
    have hV : placesB zss = false := by simp [placesB, hx]
    rw [hV]
    clear hs hV hc
    go_enter Tryz.func65, Tryz.ntmps65
    go_wp2
    go_ret
    exact ⟨rfl, Below.refl _ _⟩
end Go.Proofs.YtdmpobegobfpjaaGreat
namespace Go.Proofs.YtdmpobegobfpjaaGreat
open Go.RowKit
open Go.Sort (grow)
set_option maxHeartbeats 1000000 in
theorem isConfig_any (w : World) (x : Int) : Calls Tryz.prog 62 #[.int .i64 x] w fun e w' => e = .returned (.bool (inB 1 1000000 x)) ∧ w' = w := by
  have hc := tx.implId w x
  go_enter Tryz.func62, Tryz.ntmps62
  go_wp2_with fail
  refine hc.mono ?_
  clear hc
  rintro e w1 ⟨rfl, rfl⟩
  go_wp2
  go_ret
  exact ⟨rfl, rfl⟩
theorem clusterB_eq (k : C6) : clusterB k = (inB 1 1000000 k.config && (inB 0 1000000 k.clock && ((decide (1 ≤ k.machines.length) && decide (k.machines.length ≤ 8) && machsB k.machines) && (placesB k.places && (placedB k.places k.machines && (decide (k.txs.length ≤ 60) && txsB k)))))) := by
  unfold clusterB
  ac_rfl
set_option maxRecDepth 100000 in
set_option maxHeartbeats 4000000 in
theorem implClusterOk_any (w : World) (a1 : Option Addr) (c1 : Nat) (a2 : Option Addr) (c2 : Nat) (a3 : Option Addr) (c3 : Nat) (k : C6) (hl : KCl.L k) (h : KCl.Rd w a1 c1 a2 c2 a3 c3 k) : Calls Tryz.prog 33 #[.agg #[.int .i64 k.config, .int .i64 k.clock, .slice a1 k.places.length c1, .slice a2 k.machines.length c2, .slice a3 k.txs.length c3, .bool k.lost]] w fun e w' => e = .returned (.bool (clusterB k)) ∧ Below w.heap.size w w' := by
  obtain ⟨U, hU⟩ : ∃ Y, Y = w.alloc (.cells #[.int .i64 k.config, .int .i64 k.clock, .slice a1 k.places.length c1, .slice a2 k.machines.length c2, .slice a3 k.txs.length c3, .bool k.lost] 34) := ⟨_, rfl⟩
  have b0 : Below w.heap.size w U := by rw [hU]; exact (Below.refl _ _).alloc (Nat.le_refl _) _
  have FA : Hid (Bx U w.heap.size [.int .i64 k.config, .int .i64 k.clock, .slice a1 k.places.length c1, .slice a2 k.machines.length c2, .slice a3 k.txs.length c3, .bool k.lost]) := by unfold Hid; rw [hU]; exact Bx.made w [.int .i64 k.config, .int .i64 k.clock, .slice a1 k.places.length c1, .slice a2 k.machines.length c2, .slice a3 k.txs.length c3, .bool k.lost] _
  have HR : Hid (KCl.Rd U a1 c1 a2 c2 a3 c3 k ∧ KCl.L k ∧ Below w.heap.size w U) := ⟨h.later b0, hl, b0⟩
  have HC : Hid (clusterB k = (inB 1 1000000 k.config && (inB 0 1000000 k.clock && ((decide (1 ≤ k.machines.length) && decide (k.machines.length ≤ 8) && machsB k.machines) && (placesB k.places && (placedB k.places k.machines && (decide (k.txs.length ≤ 60) && txsB k))))))) := clusterB_eq k
  have hc := isConfig_any U k.config
  clear b0 h hl
  go_enter Tryz.func33, Tryz.ntmps33
  go_wp2_with fail
  rw [← hU]
  clear hU
  refine hc.mono ?_
  clear hc
  rintro e w1 ⟨rfl, rfl⟩
  generalize w1 = U at *
  cases g1 : inB 1 1000000 k.config with
  | false =>
    have hb : Hid (clusterB k = false) := by unfold Hid; rw [HC.out, g1]; rfl
    go_wp2
    go_ret
    exact ⟨by rw [hb.out]; rfl, HR.out.2.2⟩
  | true =>
  have p1 := FA.out.1 1 _ rfl
  have hc := tx.implStamp U k.clock
  go_wp2_with fail
  refine hc.mono ?_
  clear hc p1
  rintro e w1 ⟨rfl, rfl⟩
  generalize w1 = U at *
  cases g2 : inB 0 1000000 k.clock with
  | false =>
    have hb : Hid (clusterB k = false) := by unfold Hid; rw [HC.out, g2]; simp
    go_wp2
    go_ret
    exact ⟨by rw [hb.out]; rfl, HR.out.2.2⟩
  | true =>
  have p3 := FA.out.1 3 _ rfl
  have hc := machinesOk_any U a2 c2 k.machines HR.out.2.1.m HR.out.2.1.ms HR.out.1.m
  go_wp2_with fail
  refine hc.mono ?_
  clear hc p3
  rintro e w1 ⟨rfl, b1⟩
  have B1 := hidOf b1
  clear b1
  cases g3 : (decide (1 ≤ k.machines.length) && decide (k.machines.length ≤ 8) && machsB k.machines) with
  | false =>
    have hb : Hid (clusterB k = false) := by unfold Hid; rw [HC.out, g3]; simp
    go_wp2
    go_ret
    exact ⟨by rw [hb.out]; rfl, bstep HR.out.2.2 B1.out⟩
  | true =>
  have p2 := (FA.out.later B1.out).1 2 _ rfl
  have hc := implPlacesOk_any w1 a1 k.places.length c1 k.places HR.out.2.1.p (HR.out.1.p.later B1.out)
  go_wp2_with fail
  refine hc.mono ?_
  clear hc p2
  rintro e w2 ⟨rfl, b2⟩
  have B2 : Hid (Below U.heap.size U w2) := bstep B1.out b2
  clear b2 B1
  generalize w1 = wA at *
  cases g4 : placesB k.places with
  | false =>
    have hb : Hid (clusterB k = false) := by unfold Hid; rw [HC.out, g4]; simp
    go_wp2
    go_ret
    exact ⟨by rw [hb.out]; rfl, bstep HR.out.2.2 B2.out⟩
  | true =>
  have HC2 : Hid (clusterB k = (placedB k.places k.machines && (decide (k.txs.length ≤ 60) && txsB k))) := by unfold Hid; rw [HC.out, g1, g2, g3, g4]; rfl
  have HG : Hid (k.machines.length ≤ 8 ∧ machsB k.machines = true ∧ placesB k.places = true) := by
    simp only [Bool.and_eq_true, decide_eq_true_eq] at g3
    exact ⟨g3.1.2, g3.2, g4⟩
  clear g1 g2 g3 g4 HC
  have SF : Hid (∀ X, Below U.heap.size U X → (fun X : World => Bx X w.heap.size [.int .i64 k.config, .int .i64 k.clock, .slice a1 k.places.length c1, .slice a2 k.machines.length c2, .slice a3 k.txs.length c3, .bool k.lost]) X) := fun X hX => FA.out.later hX
  go_wp2_with fail
  have bd : Below U.heap.size U w2.drew := B2.out.drew
  have hS := SF.out _ bd
  refine wp_region_z (fun z => z == 10) (fun X : World => Bx X w.heap.size [.int .i64 k.config, .int .i64 k.clock, .slice a1 k.places.length c1, .slice a2 k.machines.length c2, .slice a3 k.txs.length c3, .bool k.lost]) (by kernel_rfl) ?_
  generalize w2.drew = Wd at *
  refine wpZ_takeP (i := 0) (v := ?_) rfl (by kernel_rfl) (fun _ _ _ h => h) (Or.inl ⟨by rfl, ?_⟩) hS ?_
  rotate_left
  · (intro X _; go_simp; first | done | with_reducible rfl)
  simp only [Act.put]
  refine wpZ_take (i := 1) (v := ?_) rfl (by kernel_rfl) (fun _ _ _ h => h) (Or.inl ⟨by rfl, ?_⟩) hS ?_
  rotate_left
  · (intro X hSw; have c0 := hSw.1 0 _ rfl; have c1 := hSw.1 1 _ rfl; have c2 := hSw.1 2 _ rfl; have c3 := hSw.1 3 _ rfl; have c4 := hSw.1 4 _ rfl; have c5 := hSw.1 5 _ rfl; go_simp; first | done | with_reducible rfl)
  simp only [Act.put]
  refine wpZ_takeP (i := 2) (v := ?_) rfl (by kernel_rfl) (fun _ _ _ h => h) (Or.inl ⟨by rfl, ?_⟩) hS ?_
  rotate_left
  · (intro X _; go_simp; first | done | with_reducible rfl)
  simp only [Act.put]
  refine wpZ_take (i := 3) (v := ?_) rfl (by kernel_rfl) (fun _ _ _ h => h) (Or.inl ⟨by rfl, ?_⟩) hS ?_
  rotate_left
  · (intro X hSw; have c0 := hSw.1 0 _ rfl; have c1 := hSw.1 1 _ rfl; have c2 := hSw.1 2 _ rfl; have c3 := hSw.1 3 _ rfl; have c4 := hSw.1 4 _ rfl; have c5 := hSw.1 5 _ rfl; go_simp; first | done | with_reducible rfl)
  simp only [Act.put]
  refine wpZ_ready (rs := [4]) (by kernel_rfl) (by simp) ?_
  refine AllZ.cons rfl (fun K hK => ?_) AllZ.nil
  go_simp
  refine (membersOf_any Wd a2 c2 k.machines HG.out.1 (HR.out.1.m.later bd)).mono ?_
  rintro e X1 ⟨rfl, hma, hsz, b1⟩
  have bX := bstep bd b1
  refine hK.out _ _ (fun _ => SF.out _ bX) ?_
  clear hK K
  have hS := SF.out _ bX
  refine wpZ_ready (rs := [5]) (by kernel_rfl) (by simp) ?_
  refine AllZ.cons rfl (fun K hK => ?_) AllZ.nil
  go_simp
  refine (placed_any Wd X1 a1 c1 Wd.heap.size k.places k.machines HR.out.2.1.ms HG.out.2.1 HG.out.2.2 HR.out.2.1.p HR.out.2.1.ps b1 hsz hma (HR.out.1.p.later bX)).mono ?_
  rintro e X2 ⟨rfl, b2⟩
  have bY := bstep bX b2
  refine hK.out _ _ (fun _ => SF.out _ bY) ?_
  clear hK K
  have hS := SF.out _ bY
  cases g5 : placedB k.places k.machines with
  | false =>
    have hb : Hid (clusterB k = false) := by unfold Hid; rw [HC2.out, g5]; rfl
    refine wpZ_takeP (i := 6) (v := ?_) rfl (by kernel_rfl) (fun _ _ _ h => h) (Or.inl ⟨by rfl, ?_⟩) hS ?_
    rotate_left
    · (intro X _; go_simp; first | done | with_reducible rfl)
    simp only [Act.put]
    refine wpZ_takeP (i := 7) (v := undef) rfl (by kernel_rfl) (fun _ _ _ h => h) (Or.inr ⟨by rfl, rfl⟩) hS ?_
    simp only [Act.put]
    refine wpZ_takeP (i := 8) (v := undef) rfl (by kernel_rfl) (fun _ _ _ h => h) (Or.inr ⟨by rfl, rfl⟩) hS ?_
    simp only [Act.put]
    refine wpZ_takeP (i := 9) (v := ?_) rfl (by kernel_rfl) (fun _ _ _ h => h) (Or.inl ⟨by rfl, ?_⟩) hS ?_
    rotate_left
    · (intro X _; go_simp; first | done | with_reducible rfl)
    simp only [Act.put]
    refine wpZ_ready (rs := [10]) (by kernel_rfl) (by simp) ?_
    refine AllZ.cons rfl (fun K hK => ?_) AllZ.nil
    go_simp
    refine hK.out _ _ (fun h => absurd (show false = true from h.symm.trans (by kernel_rfl)) (by decide)) ?_
    clear hK K
    refine wpZ_done (by kernel_rfl) ?_ _
    go_wp2
    go_ret
    exact ⟨by rw [hb.out]; rfl, bstep HR.out.2.2 bY⟩
  | true =>
    have hb : Hid (clusterB k = (decide (k.txs.length ≤ 60) && txsB k)) := by unfold Hid; rw [HC2.out, g5]; rfl
    refine wpZ_takeP (i := 6) (v := ?_) rfl (by kernel_rfl) (fun _ _ _ h => h) (Or.inl ⟨by rfl, ?_⟩) hS ?_
    rotate_left
    · (intro X _; go_simp; first | done | with_reducible rfl)
    simp only [Act.put]
    refine wpZ_take (i := 7) (v := ?_) rfl (by kernel_rfl) (fun _ _ _ h => h) (Or.inl ⟨by rfl, ?_⟩) hS ?_
    rotate_left
    · (intro X hSw; have c0 := hSw.1 0 _ rfl; have c1 := hSw.1 1 _ rfl; have c2 := hSw.1 2 _ rfl; have c3 := hSw.1 3 _ rfl; have c4 := hSw.1 4 _ rfl; have c5 := hSw.1 5 _ rfl; go_simp; first | done | with_reducible rfl)
    simp only [Act.put]
    refine wpZ_ready (rs := [8]) (by kernel_rfl) (by simp) ?_
    refine AllZ.cons rfl (fun K hK => ?_) AllZ.nil
    go_simp
    refine (txsFit_any X2 a1 c1 a2 c2 a3 c3 k HR.out.2.1 (HR.out.1.later bY)).mono ?_
    rintro e X3 ⟨rfl, b3⟩
    have bZ := bstep bY b3
    refine hK.out _ _ (fun _ => SF.out _ bZ) ?_
    clear hK K
    have hS := SF.out _ bZ
    refine wpZ_takeP (i := 9) (v := ?_) rfl (by kernel_rfl) (fun _ _ _ h => h) (Or.inl ⟨by rfl, ?_⟩) hS ?_
    rotate_left
    · (intro X _; go_simp; first | done | with_reducible rfl)
    simp only [Act.put]
    refine wpZ_ready (rs := [10]) (by kernel_rfl) (by simp) ?_
    refine AllZ.cons rfl (fun K hK => ?_) AllZ.nil
    go_simp
    refine hK.out _ _ (fun h => absurd (show false = true from h.symm.trans (by kernel_rfl)) (by decide)) ?_
    clear hK K
    refine wpZ_done (by kernel_rfl) ?_ _
    go_wp2
    go_ret
    exact ⟨by rw [hb.out]; rfl, bstep HR.out.2.2 bZ⟩
end Go.Proofs.YtdmpobegobfpjaaGreat
namespace Go.Proofs.YtdmpobegobfpjaaGreat
open Go.RowKit
theorem nan_any (w : World) (x : Int) : Calls Tryz.prog 166 #[.int .i64 x] w fun e w' => e = .returned (.bool false) ∧ w' = w := by
  have h : (x != x) = false := by simp
  go_enter Tryz.func166, Tryz.ntmps166
  go_wp2
  go_ret
  exact ⟨rfl, rfl⟩
def cmpI (x y : Int) : Int := if x < y then -1 else if y < x then 1 else 0
theorem compare_any (w : World) (x y : Int) : Calls Tryz.prog 126 #[.int .i64 x, .int .i64 y] w fun e w' => e = .returned (.int .i64 (cmpI x y)) ∧ w' = w := by
  by_cases h1 : x < y
  · have e : cmpI x y = -1 := if_pos h1
    rw [e]
    go_enter Tryz.func126, Tryz.ntmps126
    go_wp2_with (go_at_call 166; refine (nan_any _ _).mono ?_; rintro e w' ⟨rfl, rfl⟩)
    go_ret
    exact ⟨rfl, rfl⟩
  · have d1 : decide (x < y) = false := by simp; omega
    by_cases h2 : y < x
    · have e : cmpI x y = 1 := by rw [cmpI, if_neg h1, if_pos h2]
      have d2 : decide (y < x) = true := by simp [h2]
      rw [e]
      clear h1
      go_enter Tryz.func126, Tryz.ntmps126
      go_wp2_with (go_at_call 166; refine (nan_any _ _).mono ?_; rintro e w' ⟨rfl, rfl⟩)
      go_ret
      exact ⟨rfl, rfl⟩
    · have e : cmpI x y = 0 := by rw [cmpI, if_neg h1, if_neg h2]
      have d2 : decide (y < x) = false := by simp; omega
      rw [e]
      clear h1 h2
      go_enter Tryz.func126, Tryz.ntmps126
      go_wp2_with (go_at_call 166; refine (nan_any _ _).mono ?_; rintro e w' ⟨rfl, rfl⟩)
      go_ret
      exact ⟨rfl, rfl⟩
end Go.Proofs.YtdmpobegobfpjaaGreat
namespace Go.Proofs.YtdmpobegobfpjaaGreat
open Go.RowKit
open Go.Sort (grow)
def UpI (ts : List tx.T7) : Prop := ∀ i j, i < j → j < ts.length → (atT ts i).id < (atT ts j).id
theorem UpI.of_all {ts : List tx.T7} (h : (List.range ts.length).all (upT ts) = true) : UpI ts := by
  intro i j hij hj
  induction j with
  | zero => omega
  | succ j ih =>
    have h2 := List.all_eq_true.1 h (j + 1) (List.mem_range.2 hj)
    simp [upT] at h2
    by_cases e : i = j
    · rw [e]; exact h2
    · have := ih (by omega) (by omega); omega
structure PosT (ts : List tx.T7) (y : Int) (i : Nat) : Prop where
  le : i ≤ ts.length
  lo : ∀ t, t < i → (atT ts t).id < y
  hi : ∀ t, i ≤ t → t < ts.length → y ≤ (atT ts t).id
def foundT (ts : List tx.T7) (y : Int) (i : Nat) : Bool := decide (i < ts.length) && decide ((atT ts i).id = y)
def findO (k : C6) (y : Int) : Option tx.T7 := if clusterB k then k.txs.find? (fun t => decide (t.id = y)) else none
def zT : tx.T7 := ⟨0, 0, 0, 0, [], [], 0⟩
def findT (k : C6) (y : Int) : tx.T7 := (findO k y).getD zT
def findB (k : C6) (y : Int) : Bool := (findO k y).isSome
theorem clu_up {k : C6} (h : clusterB k = true) : UpI k.txs ∧ (∀ i, i < k.txs.length → tx.txB (atT k.txs i) = true) ∧ k.txs.length ≤ 60 := by
  simp only [clusterB, Bool.and_eq_true, decide_eq_true_eq] at h
  have h2 := h.2
  rw [txsB_eq, Bool.and_eq_true] at h2
  refine ⟨UpI.of_all h2.1, fun i hi => ?_, h.1.1.1.2⟩
  have := List.all_eq_true.1 h2.2 i (List.mem_range.2 hi)
  simp only [fitB, Bool.and_eq_true] at this
  exact this.1.1.1.1
end Go.Proofs.YtdmpobegobfpjaaGreat
namespace Go.Proofs.YtdmpobegobfpjaaGreat.tx
open Go.RowKit
def SAns (w : World) (xs : List S5) (e : Ending) (w' : World) : Prop :=
  ∃ (a : Option Addr) (c : Nat) (PS : Nat → Prop), e = .returned (.slice a xs.length c) ∧ OwnSe w' PS a xs ∧ (∀ q, PS q → w.heap.size ≤ q ∧ q < w'.heap.size) ∧ Below w.heap.size w w'
theorem SAns.of {w w' : World} {base : Nat} {v : Value} {xs : List S5} (h : RowS w' base v xs) (hb : w.heap.size ≤ base) (b : Below w.heap.size w w') : SAns w xs (.returned v) w' := by
  obtain ⟨a, c, e, ho⟩ := h.form
  exact ⟨a, c, _, by rw [e], ho, fun q hq => ⟨Nat.le_trans hb (h.lt hq).1, (h.lt hq).2⟩, b⟩
theorem SAns.none {w w' : World} (b : Below w.heap.size w w') : SAns w [] (.returned (.slice Option.none 0 0)) w' := ⟨Option.none, 0, fun _ => False, rfl, .inl rfl, fun _ h => h.elim, b⟩
def ofR (g : Int) (xs : List S5) : List S5 := xs.filter fun s => decide (s.region = g)
theorem ofR_yes {g : Int} {xs : List S5} {k : Nat} {s : S5} (h : xs[k]? = some s) (hg : s.region = g) : ofR g (xs.take (k + 1)) = ofR g (xs.take k) ++ [s] := by
  rw [List.take_add_one, h, ofR, List.filter_append]; simp [hg, ofR]
theorem ofR_no {g : Int} {xs : List S5} {k : Nat} {s : S5} (h : xs[k]? = some s) (hg : ¬ s.region = g) : ofR g (xs.take (k + 1)) = ofR g (xs.take k) := by
  rw [List.take_add_one, h, ofR, List.filter_append]; simp [hg, ofR]
theorem ofR_len (g : Int) (xs : List S5) : (ofR g xs).length ≤ xs.length := List.length_filter_le _ _
theorem txB_lens {t : T7} (h : txB t = true) : t.reads.length ≤ 12 ∧ t.sets.length ≤ 12 := by
  simp only [txB, Bool.and_eq_true, decide_eq_true_eq] at h
  exact ⟨h.1.1.1.2, h.1.1.2⟩
def setsOfT (t : T7) (g : Int) : List S5 := if txB t = true then ofR g t.sets else []
end Go.Proofs.YtdmpobegobfpjaaGreat.tx
namespace Go.Proofs.YtdmpobegobfpjaaGreat.tx
open Go.RowKit Go.Maps
def cKey (r s : Int) : Value := .agg #[.int .i64 r, .int .i64 s]
theorem six {r : Int} (h : inB 0 5 r = true) : r = 0 ∨ r = 1 ∨ r = 2 ∨ r = 3 ∨ r = 4 ∨ r = 5 := by
  rw [inB_iff] at h; omega
def MapF (W : World) (b n : Nat) (f : Int → Int → Option Nat) : Prop :=
  ∃ D : DataW Unit, W.ownsMap Tryz.prog 169 (plainElem Tryz.prog 3) b n D ∧ ∀ r s l, keyOf Tryz.prog 169 (cKey r s) = some l → (f r s = none → has D l = false) ∧ (∀ i, f r s = some i → has D l = true ∧ ∀ z, D.atKey l z = .lit (.int .i64 (i : Int)))
theorem MapF.lt {W : World} {b n : Nat} {f : Int → Int → Option Nat} (h : MapF W b n f) : b < W.heap.size := by obtain ⟨D, h, _⟩ := h; exact h.lt
theorem MapF.mono {W : World} {b n n' : Nat} {f : Int → Int → Option Nat} (h : MapF W b n f) (hn : n ≤ n') : MapF W b n' f := by obtain ⟨D, h, h'⟩ := h; exact ⟨D, h.mono hn, h'⟩
theorem MapF.of_block {W W' : World} {b n : Nat} {f : Int → Int → Option Nat} (h : MapF W b n f) (e : W'.heap[b]? = W.heap[b]?) : MapF W' b n f := by
  obtain ⟨D, ⟨es, clock, hb, r⟩, h'⟩ := h
  exact ⟨D, ⟨es, clock, e.trans hb, r⟩, h'⟩
theorem MapF.later {W W' : World} {b n : Nat} {f : Int → Int → Option Nat} (h : MapF W b n f) (hb : Below W.heap.size W W') : MapF W' b n f := h.of_block (hb.block _ h.lt)
theorem MapF.made (W : World) : MapF (W.alloc (.map #[] 0)) W.heap.size 0 (fun _ _ => none) :=
  ⟨.map [], World.ownsMap_made W _ _ _, fun r s l _ => ⟨fun _ => rfl, fun i h => by cases h⟩⟩
def putF (f : Int → Int → Option Nat) (r s : Int) (i : Nat) : Int → Int → Option Nat := fun q t => if q = r ∧ t = s then some i else f q t
def MapN (W : World) (b n : Nat) : Prop := ∃ D : DataW Unit, W.ownsMap Tryz.prog 169 (plainElem Tryz.prog 3) b n D
theorem MapF.any {W : World} {b n : Nat} {f : Int → Int → Option Nat} (h : MapF W b n f) : MapN W b n := by obtain ⟨D, h, _⟩ := h; exact ⟨D, h⟩
theorem MapN.lt {W : World} {b n : Nat} (h : MapN W b n) : b < W.heap.size := by obtain ⟨D, h⟩ := h; exact h.lt
theorem MapN.mono {W : World} {b n n' : Nat} (h : MapN W b n) (hn : n ≤ n') : MapN W b n' := by obtain ⟨D, h⟩ := h; exact ⟨D, h.mono hn⟩
theorem MapN.of_block {W W' : World} {b n : Nat} (h : MapN W b n) (e : W'.heap[b]? = W.heap[b]?) : MapN W' b n := by
  obtain ⟨D, es, clock, hb, r⟩ := h
  exact ⟨D, es, clock, e.trans hb, r⟩
theorem MapN.later {W W' : World} {b n : Nat} (h : MapN W b n) (hb : Below W.heap.size W W') : MapN W' b n := h.of_block (hb.block _ h.lt)
end Go.Proofs.YtdmpobegobfpjaaGreat.tx
namespace Go.Proofs.YtdmpobegobfpjaaGreat.tx
open Go.RowKit
def OfP (p q mb : Nat) (x : Nat) : Prop := x = p ∨ x = q ∨ x = mb
structure Pin (W : World) (base p q mb n cap : Nat) (xs : List N5) : Prop where
  c0 : W.cell? ⟨p, 0, none⟩ = some (.slice (some ⟨q, 0, none⟩) xs.length cap)
  c1 : W.cell? ⟨p, 1, none⟩ = some (.map (some mb))
  fz : ∀ j, W.frozen? ⟨p, j, none⟩ = false
  at_ : NotesAt W q 0 xs
  rm : Room W q (xs.length * 5)
  cp : xs.length ≤ cap
  mp : MapN W mb n
  ok : ∀ s ∈ xs, noteOkB s = true
  pq : p ≠ q
  pm : p ≠ mb
  qm : q ≠ mb
  bp : base ≤ p
  bq : base ≤ q
  bm : base ≤ mb
  lp : p < W.heap.size
  lq : q < W.heap.size
theorem Pin.keep {W V : World} {base p q mb n cap : Nat} {xs : List N5} (h : Pin W base p q mb n cap xs) (hs : W.heap.size ≤ V.heap.size) (hk : ∀ x, OfP p q mb x → V.heap[x]? = W.heap[x]?) : Pin V base p q mb n cap xs :=
  ⟨(World.cell?_of_block (a := ⟨p, 0, none⟩) (hk p (.inl rfl))).trans h.c0, (World.cell?_of_block (a := ⟨p, 1, none⟩) (hk p (.inl rfl))).trans h.c1, fun j => (World.frozen?_of_block (a := ⟨p, j, none⟩) (hk p (.inl rfl))).trans (h.fz j), h.at_.of_block (hk q (.inr (.inl rfl))), h.rm.of_block (hk q (.inr (.inl rfl))), h.cp, h.mp.of_block (hk mb (.inr (.inr rfl))), h.ok, h.pq, h.pm, h.qm, h.bp, h.bq, h.bm, Nat.lt_of_lt_of_le h.lp hs, Nat.lt_of_lt_of_le h.lq hs⟩
theorem Pin.later {W V : World} {base p q mb n cap : Nat} {xs : List N5} (h : Pin W base p q mb n cap xs) (hb : Below W.heap.size W V) : Pin V base p q mb n cap xs := h.keep hb.size (fun x hx => hb.block x (by rcases hx with rfl | rfl | rfl; exact h.lp; exact h.lq; exact h.mp.lt))
theorem Pin.mono {W : World} {base p q mb n n' cap : Nat} {xs : List N5} (h : Pin W base p q mb n cap xs) (hn : n ≤ n') : Pin W base p q mb n' cap xs := ⟨h.c0, h.c1, h.fz, h.at_, h.rm, h.cp, h.mp.mono hn, h.ok, h.pq, h.pm, h.qm, h.bp, h.bq, h.bm, h.lp, h.lq⟩
end Go.Proofs.YtdmpobegobfpjaaGreat.tx
namespace Go.Proofs.YtdmpobegobfpjaaGreat
namespace HeapP
def swF {α : Type} (k : Nat → α) (a b : Nat) : Nat → α := fun i => if i = a then k b else if i = b then k a else k i
def Hp (k : Nat → Int) (n : Nat) : Prop := ∀ i, 0 < i → i < n → k ((i - 1) / 2) ≤ k i
def HpUp (k : Nat → Int) (n c : Nat) : Prop := (∀ i, 0 < i → i < n → i ≠ c → k ((i - 1) / 2) ≤ k i) ∧ (∀ i, 0 < i → i < n → (i - 1) / 2 = c → 0 < c → k ((c - 1) / 2) ≤ k i)
def HpDn (k : Nat → Int) (n c : Nat) : Prop := (∀ i, 0 < i → i < n → (i - 1) / 2 ≠ c → k ((i - 1) / 2) ≤ k i) ∧ (∀ i, 0 < i → i < n → (i - 1) / 2 = c → 0 < c → k ((c - 1) / 2) ≤ k i)
theorem HpUp.done {k : Nat → Int} {n c : Nat} (h : HpUp k n c) (hc : c = 0 ∨ k ((c - 1) / 2) ≤ k c) : Hp k n := fun i h0 hn => by
  by_cases e : i = c
  · subst e; rcases hc with hc | hc
    · omega
    · exact hc
  · exact h.1 i h0 hn e
theorem HpUp.step {k : Nat → Int} {n c : Nat} (h : HpUp k n c) (h0 : 0 < c) (hn : c < n) (hl : k c < k ((c - 1) / 2)) : HpUp (swF k c ((c - 1) / 2)) n ((c - 1) / 2) := by
  obtain ⟨h1, h2⟩ := h
  refine ⟨fun i i0 hi hne => ?_, fun i i0 hi hp hpc => ?_⟩
  · unfold swF
    by_cases e1 : i = c
    · subst e1
      simp [show ¬ (i - 1) / 2 = i by omega]; omega
    · by_cases e2 : (i - 1) / 2 = c
      · simp [e1, hne, e2]; exact h2 i i0 hi e2 h0
      · by_cases e3 : (i - 1) / 2 = (c - 1) / 2
        · simp [e1, hne, e3, show ¬ (c - 1) / 2 = c by omega]
          have := h1 i i0 hi e1
          rw [e3] at this
          omega
        · simp [e1, hne, e2, e3]
          exact h1 i i0 hi e1
  · unfold swF
    have hq := h1 ((c - 1) / 2) (by omega) (by omega) (by omega)
    by_cases e1 : i = c
    · subst e1
      simp [show ¬ ((i - 1) / 2 - 1) / 2 = i by omega, show ¬ ((i - 1) / 2 - 1) / 2 = (i - 1) / 2 by omega]
      exact hq
    · have hi' := h1 i i0 hi e1
      rw [hp] at hi'
      simp [e1, show ¬ i = (c - 1) / 2 by omega, show ¬ ((c - 1) / 2 - 1) / 2 = c by omega, show ¬ ((c - 1) / 2 - 1) / 2 = (c - 1) / 2 by omega]
      omega
theorem HpDn.done {k : Nat → Int} {n c : Nat} (h : HpDn k n c) (h1 : 2 * c + 1 < n → k c ≤ k (2 * c + 1)) (h2 : 2 * c + 2 < n → k c ≤ k (2 * c + 2)) : Hp k n := fun i h0 hn => by
  by_cases e : (i - 1) / 2 = c
  · rw [e]
    rcases (show i = 2 * c + 1 ∨ i = 2 * c + 2 by omega) with rfl | rfl
    · exact h1 hn
    · exact h2 hn
  · exact h.1 i h0 hn e
theorem HpDn.step {k : Nat → Int} {n c l : Nat} (h : HpDn k n c) (hl : l = 2 * c + 1 ∨ l = 2 * c + 2) (hn : l < n) (hlt : k l < k c) (h1 : 2 * c + 1 < n → k l ≤ k (2 * c + 1)) (h2 : 2 * c + 2 < n → k l ≤ k (2 * c + 2)) : HpDn (swF k c l) n l := by
  obtain ⟨g1, g2⟩ := h
  have hpl : (l - 1) / 2 = c := by omega
  refine ⟨fun i i0 hi hne => ?_, fun i i0 hi hp _ => ?_⟩
  · unfold swF
    by_cases e0 : i = c
    · subst e0
      simp [show ¬ (i - 1) / 2 = i by omega, hne]
      exact g2 l (by omega) hn hpl i0
    · by_cases e1 : (i - 1) / 2 = c
      · simp only [e1, e0, if_true, if_false]
        by_cases e2 : i = l
        · simp [e2]; omega
        · simp [e2]
          rcases (show i = 2 * c + 1 ∨ i = 2 * c + 2 by omega) with rfl | rfl
          · exact h1 hi
          · exact h2 hi
      · have := g1 i i0 hi e1
        by_cases e2 : i = l
        · omega
        · simp [e0, e1, e2, hne]; exact this
  · unfold swF
    have := g1 i i0 hi (by omega)
    rw [hp] at this
    simp [hpl, show ¬ i = c by omega, show ¬ i = l by omega]
    exact this
theorem Hp.top {k : Nat → Int} {n : Nat} (h : Hp k n) : ∀ i, i < n → k 0 ≤ k i := by
  intro i
  induction i using Nat.strongRecOn with
  | ind i ih =>
    intro hi
    by_cases e : i = 0
    · subst e; exact Int.le_refl _
    · have := ih ((i - 1) / 2) (by omega) (by omega)
      have := h i (by omega) hi
      omega
end HeapP
namespace HeapP
def swL {α : Type} (xs : List α) (a b : Nat) (x y : α) : List α := (xs.set a y).set b x
theorem HpDn.congr {k k' : Nat → Int} {n : Nat} (h : HpDn k n 0) (e : ∀ i, i < n → k' i = k i) : HpDn k' n 0 :=
  ⟨fun i h0 hn hc => by rw [e i hn, e _ (by omega)]; exact h.1 i h0 hn hc, fun i _ _ _ h' => by omega⟩
end HeapP
end Go.Proofs.YtdmpobegobfpjaaGreat
namespace Go.Proofs.YtdmpobegobfpjaaGreat.tx
open Go.RowKit
open Go.Sort (grow)
def noK (xs : List N5) (i : Nat) : Int := rk (atNo xs i).region (atNo xs i).slot
end Go.Proofs.YtdmpobegobfpjaaGreat.tx
namespace Go.Proofs.YtdmpobegobfpjaaGreat.tx
open Go.RowKit
theorem NoteAt.of_blk {W V : World} {b o : Nat} {s : N5} (h : NoteAt W b o s) (e : V.heap[b]? = W.heap[b]?) : NoteAt V b o s :=
  ⟨(World.cell?_of_block (a := ⟨b, o, none⟩) e).trans h.c0, (World.cell?_of_block (a := ⟨b, o + 1, none⟩) e).trans h.c1, (World.cell?_of_block (a := ⟨b, o + 2, none⟩) e).trans h.c2, (World.cell?_of_block (a := ⟨b, o + 3, none⟩) e).trans h.c3, (World.cell?_of_block (a := ⟨b, o + 4, none⟩) e).trans h.c4⟩
def noR (s : N5) : Int := rk s.region s.slot
def noLen : Value → Nat
  | .slice _ n _ => n
  | _ => 0
end Go.Proofs.YtdmpobegobfpjaaGreat.tx
namespace Go.Proofs.YtdmpobegobfpjaaGreat.tx
open Go.RowKit
open Go.Sort (grow)
def noW (xs : List N5) (r s : Int) : Option Nat := xs.findIdx? fun x => decide (x.region = r) && decide (x.slot = s)
structure PinB (W : World) (base p mb n : Nat) (v : Value) (xs : List N5) : Prop where
  c0 : W.cell? ⟨p, 0, none⟩ = some v
  c1 : W.cell? ⟨p, 1, none⟩ = some (.map (some mb))
  fz : ∀ j, W.frozen? ⟨p, j, none⟩ = false
  row : RowN W base v xs
  mp : MapF W mb n (noW xs)
  ok : ∀ s ∈ xs, noteOkB s = true
  vp : v.ownBlock ≠ some p
  vm : v.ownBlock ≠ some mb
  pm : p ≠ mb
  bp : base ≤ p
  bm : base ≤ mb
  lp : p < W.heap.size
theorem PinB.later {W V : World} {base p mb n : Nat} {v : Value} {xs : List N5} (h : PinB W base p mb n v xs) (hb : Below W.heap.size W V) : PinB V base p mb n v xs :=
  ⟨(hb.cell (p := ⟨p, 0, none⟩) h.lp).trans h.c0, (hb.cell (p := ⟨p, 1, none⟩) h.lp).trans h.c1, fun j => (hb.frozen (p := ⟨p, j, none⟩) h.lp).trans (h.fz j), h.row.later hb, h.mp.later hb, h.ok, h.vp, h.vm, h.pm, h.bp, h.bm, Nat.lt_of_lt_of_le h.lp hb.size⟩
def noUp2 (xs : List N5) : Prop := xs.Pairwise fun a b => noR a < noR b
end Go.Proofs.YtdmpobegobfpjaaGreat.tx
namespace Go.Proofs.YtdmpobegobfpjaaGreat.tx
open Go.RowKit
structure Pis (W : World) (base p q mb n cap : Nat) (xs : List S5) : Prop where
  c0 : W.cell? ⟨p, 0, none⟩ = some (.slice (some ⟨q, 0, none⟩) xs.length cap)
  c1 : W.cell? ⟨p, 1, none⟩ = some (.map (some mb))
  fz : ∀ j, W.frozen? ⟨p, j, none⟩ = false
  at_ : SetsAt W q 0 xs
  rm : Room W q (xs.length * 5)
  cp : xs.length ≤ cap
  mp : MapN W mb n
  ok : ∀ s ∈ xs, setOkB s = true
  pq : p ≠ q
  pm : p ≠ mb
  qm : q ≠ mb
  bp : base ≤ p
  bq : base ≤ q
  bm : base ≤ mb
  lp : p < W.heap.size
  lq : q < W.heap.size
theorem Pis.keep {W V : World} {base p q mb n cap : Nat} {xs : List S5} (h : Pis W base p q mb n cap xs) (hs : W.heap.size ≤ V.heap.size) (hk : ∀ x, OfP p q mb x → V.heap[x]? = W.heap[x]?) : Pis V base p q mb n cap xs :=
  ⟨(World.cell?_of_block (a := ⟨p, 0, none⟩) (hk p (.inl rfl))).trans h.c0, (World.cell?_of_block (a := ⟨p, 1, none⟩) (hk p (.inl rfl))).trans h.c1, fun j => (World.frozen?_of_block (a := ⟨p, j, none⟩) (hk p (.inl rfl))).trans (h.fz j), h.at_.of_block (hk q (.inr (.inl rfl))), h.rm.of_block (hk q (.inr (.inl rfl))), h.cp, h.mp.of_block (hk mb (.inr (.inr rfl))), h.ok, h.pq, h.pm, h.qm, h.bp, h.bq, h.bm, Nat.lt_of_lt_of_le h.lp hs, Nat.lt_of_lt_of_le h.lq hs⟩
theorem Pis.later {W V : World} {base p q mb n cap : Nat} {xs : List S5} (h : Pis W base p q mb n cap xs) (hb : Below W.heap.size W V) : Pis V base p q mb n cap xs := h.keep hb.size (fun x hx => hb.block x (by rcases hx with rfl | rfl | rfl; exact h.lp; exact h.lq; exact h.mp.lt))
theorem Pis.mono {W : World} {base p q mb n n' cap : Nat} {xs : List S5} (h : Pis W base p q mb n cap xs) (hn : n ≤ n') : Pis W base p q mb n' cap xs := ⟨h.c0, h.c1, h.fz, h.at_, h.rm, h.cp, h.mp.mono hn, h.ok, h.pq, h.pm, h.qm, h.bp, h.bq, h.bm, h.lp, h.lq⟩
end Go.Proofs.YtdmpobegobfpjaaGreat.tx
namespace Go.Proofs.YtdmpobegobfpjaaGreat.tx
open Go.RowKit
open Go.Sort (grow)
def seK (xs : List S5) (i : Nat) : Int := rk (atSe xs i).region (atSe xs i).slot
end Go.Proofs.YtdmpobegobfpjaaGreat.tx
namespace Go.Proofs.YtdmpobegobfpjaaGreat.tx
open Go.RowKit
theorem SetAt.of_blk {W V : World} {b o : Nat} {s : S5} (h : SetAt W b o s) (e : V.heap[b]? = W.heap[b]?) : SetAt V b o s :=
  ⟨(World.cell?_of_block (a := ⟨b, o, none⟩) e).trans h.c0, (World.cell?_of_block (a := ⟨b, o + 1, none⟩) e).trans h.c1, (World.cell?_of_block (a := ⟨b, o + 2, none⟩) e).trans h.c2, (World.cell?_of_block (a := ⟨b, o + 3, none⟩) e).trans h.c3, (World.cell?_of_block (a := ⟨b, o + 4, none⟩) e).trans h.c4⟩
def seR (s : S5) : Int := rk s.region s.slot
def seLen : Value → Nat
  | .slice _ n _ => n
  | _ => 0
end Go.Proofs.YtdmpobegobfpjaaGreat.tx
namespace Go.Proofs.YtdmpobegobfpjaaGreat.tx
open Go.RowKit
open Go.Sort (grow)
def seW (xs : List S5) (r s : Int) : Option Nat := xs.findIdx? fun x => decide (x.region = r) && decide (x.slot = s)
structure PisB (W : World) (base p mb n : Nat) (v : Value) (xs : List S5) : Prop where
  c0 : W.cell? ⟨p, 0, none⟩ = some v
  c1 : W.cell? ⟨p, 1, none⟩ = some (.map (some mb))
  fz : ∀ j, W.frozen? ⟨p, j, none⟩ = false
  row : RowS W base v xs
  mp : MapF W mb n (seW xs)
  ok : ∀ s ∈ xs, setOkB s = true
  vp : v.ownBlock ≠ some p
  vm : v.ownBlock ≠ some mb
  pm : p ≠ mb
  bp : base ≤ p
  bm : base ≤ mb
  lp : p < W.heap.size
theorem PisB.later {W V : World} {base p mb n : Nat} {v : Value} {xs : List S5} (h : PisB W base p mb n v xs) (hb : Below W.heap.size W V) : PisB V base p mb n v xs :=
  ⟨(hb.cell (p := ⟨p, 0, none⟩) h.lp).trans h.c0, (hb.cell (p := ⟨p, 1, none⟩) h.lp).trans h.c1, fun j => (hb.frozen (p := ⟨p, j, none⟩) h.lp).trans (h.fz j), h.row.later hb, h.mp.later hb, h.ok, h.vp, h.vm, h.pm, h.bp, h.bm, Nat.lt_of_lt_of_le h.lp hb.size⟩
def seUp2 (xs : List S5) : Prop := xs.Pairwise fun a b => seR a < seR b
theorem rise_all {f : Nat → Int} {n : Nat} (h : ∀ i, i + 1 < n → f i < f (i + 1)) {i j : Nat} (hij : i < j) (hj : j < n) : f i < f j := by
  induction j with
  | zero => omega
  | succ j ih =>
    by_cases e : i = j
    · subst e; exact h i hj
    · exact Int.lt_trans (ih (by omega) (by omega)) (h j hj)
theorem txB_no {t : T7} (h : txB t = true) : (∀ s ∈ t.reads, noteOkB s = true) ∧ noUp2 t.reads := by
  simp only [txB, Bool.and_eq_true] at h
  have g := h.1.2
  rw [noAt_all, Bool.and_eq_true, List.all_eq_true, List.all_eq_true] at g
  refine ⟨fun s hs => ?_, ?_⟩
  · obtain ⟨i, hi, rfl⟩ := List.getElem_of_mem hs
    have := g.1 i (List.mem_range.2 hi)
    rwa [show atNo t.reads i = t.reads[i] from by have := atNo_of hi; rw [List.getElem?_eq_getElem hi] at this; exact (Option.some.inj this).symm] at this
  · refine List.pairwise_iff_getElem.2 fun i j hi hj hij => ?_
    have := rise_all (f := fun i => noR (atNo t.reads i)) (n := t.reads.length) (fun i hi => by
      have := g.2 (i + 1) (List.mem_range.2 hi)
      simp only [noUp, Nat.add_sub_cancel, Bool.or_eq_true, decide_eq_true_eq] at this
      rcases this with h | h
      · omega
      · exact h) hij hj
    have e : ∀ i (hi : i < t.reads.length), atNo t.reads i = t.reads[i] := fun i hi => by have := atNo_of hi; rw [List.getElem?_eq_getElem hi] at this; exact (Option.some.inj this).symm
    rwa [e i hi, e j hj] at this
theorem txB_se {t : T7} (h : txB t = true) : (∀ s ∈ t.sets, setOkB s = true) ∧ seUp2 t.sets := by
  simp only [txB, Bool.and_eq_true] at h
  have g := h.2
  rw [seAt_all, Bool.and_eq_true, List.all_eq_true, List.all_eq_true] at g
  refine ⟨fun s hs => ?_, ?_⟩
  · obtain ⟨i, hi, rfl⟩ := List.getElem_of_mem hs
    have := g.1 i (List.mem_range.2 hi)
    rwa [show atSe t.sets i = t.sets[i] from by have := atSe_of hi; rw [List.getElem?_eq_getElem hi] at this; exact (Option.some.inj this).symm] at this
  · refine List.pairwise_iff_getElem.2 fun i j hi hj hij => ?_
    have := rise_all (f := fun i => seR (atSe t.sets i)) (n := t.sets.length) (fun i hi => by
      have := g.2 (i + 1) (List.mem_range.2 hi)
      simp only [seUp, Nat.add_sub_cancel, Bool.or_eq_true, decide_eq_true_eq] at this
      rcases this with h | h
      · omega
      · exact h) hij hj
    have e : ∀ i (hi : i < t.sets.length), atSe t.sets i = t.sets[i] := fun i hi => by have := atSe_of hi; rw [List.getElem?_eq_getElem hi] at this; exact (Option.some.inj this).symm
    rwa [e i hi, e j hj] at this
def CAns (w : World) (xs : List N5) (e : Ending) (w' : World) : Prop :=
  ∃ (a : Option Addr) (c : Nat) (PS : Nat → Prop), e = .returned (.slice a xs.length c) ∧ OwnNo w' PS a xs ∧ (∀ q, PS q → w.heap.size ≤ q ∧ q < w'.heap.size) ∧ Below w.heap.size w w'
theorem CAns.of {w w' : World} {base : Nat} {v : Value} {xs : List N5} (h : RowN w' base v xs) (hb : w.heap.size ≤ base) (b : Below w.heap.size w w') : CAns w xs (.returned v) w' := by
  obtain ⟨a, c, e, ho⟩ := h.form
  exact ⟨a, c, _, by rw [e], ho, fun q hq => ⟨Nat.le_trans hb (h.lt hq).1, (h.lt hq).2⟩, b⟩
theorem CAns.none {w w' : World} (b : Below w.heap.size w w') : CAns w [] (.returned (.slice Option.none 0 0)) w' := ⟨Option.none, 0, fun _ => False, rfl, .inl rfl, fun _ h => h.elim, b⟩
def ofC (ss : List S5) (xs : List N5) : List N5 := xs.filter fun n => (seW ss n.region n.slot).isNone
def checksT (t : T7) : List N5 := if txB t = true then ofC t.sets t.reads else []
def setAt (xs : List S5) (r s : Int) : Int := match seW xs r s with | some i => (i : Int) | none => -1
end Go.Proofs.YtdmpobegobfpjaaGreat.tx
namespace Go.Proofs.YtdmpobegobfpjaaGreat
open Go.RowKit
open Go.Sort (grow)
theorem clu_setP {k : C6} (h : clusterB k = true) {i : Nat} (hi : i < k.txs.length) {s : S5} (hs : s ∈ (atT k.txs i).sets) : 0 ≤ s.region ∧ s.region < (k.places.length : Int) := by
  have h1 := (clu_up h).2.1 i hi
  have h2 := (tx.txB_se h1).1 s hs
  simp only [clusterB, txsB, Bool.and_eq_true] at h
  have h3 := List.all_eq_true.1 h.2 i (List.mem_range.2 hi)
  simp only [txAtB, setsB, Bool.and_eq_true] at h3
  obtain ⟨j, hj, rfl⟩ := List.getElem_of_mem hs
  have h4 := List.all_eq_true.1 h3.2 j (List.mem_range.2 hj)
  simp only [tx.atSe, List.getElem?_eq_getElem hj, Option.getD_some, decide_eq_true_eq] at h4
  simp only [setOkB, Bool.and_eq_true, inB_iff] at h2
  exact ⟨h2.1.1.1.1, h4⟩
theorem clu_readP {k : C6} (h : clusterB k = true) {i : Nat} (hi : i < k.txs.length) {s : tx.N5} (hs : s ∈ (atT k.txs i).reads) : 0 ≤ s.region ∧ s.region < (k.places.length : Int) := by
  have h1 := (clu_up h).2.1 i hi
  have h2 := (tx.txB_no h1).1 s hs
  simp only [clusterB, txsB, Bool.and_eq_true] at h
  have h3 := List.all_eq_true.1 h.2 i (List.mem_range.2 hi)
  simp only [txAtB, readsB, Bool.and_eq_true] at h3
  obtain ⟨j, hj, rfl⟩ := List.getElem_of_mem hs
  have h4 := List.all_eq_true.1 h3.1.2 j (List.mem_range.2 hj)
  simp only [tx.atNo, List.getElem?_eq_getElem hj, Option.getD_some, decide_eq_true_eq] at h4
  simp only [tx.noteOkB, Bool.and_eq_true, inB_iff] at h2
  exact ⟨by omega, h4⟩
def rep0 (k : C6) : List (List C2) × Bool := repl k (List.replicate k.places.length zeros) (ordJ k k.txs.length)
def RAnsP (w : World) (k : C6) (e : Ending) (w' : World) : Prop := ∃ v gs, e = .returned (.tuple #[v, .bool (rep0 k).2]) ∧ All w' w.heap.size v gs (rep0 k).1 ∧ Below w.heap.size w w'
theorem All.up {W : World} {base base' : Nat} {v : Value} {gs : List (Nat × Nat)} {css : List (List C2)} (h : All W base' v gs css) (hb : base ≤ base') : All W base v gs css := by
  refine ⟨?_, h.len, fun r x xs hx hc => ?_, h.inj⟩
  · obtain ⟨h1, h2⟩ := h.row
    refine ⟨h1, h2.imp id ?_⟩
    rintro ⟨g, cap, cur, e, hg, r⟩
    exact ⟨g, cap, cur, e, Nat.le_trans hb hg, r⟩
  · obtain ⟨h1, h2⟩ := h.cs r x xs hx hc
    exact ⟨Nat.le_trans hb h1, h2⟩
set_option maxRecDepth 100000 in
set_option maxHeartbeats 16000000 in
theorem l13Replay_any (w : World) (a1 : Option Addr) (c1 : Nat) (a2 : Option Addr) (c2 : Nat) (a3 : Option Addr) (c3 : Nat) (k : C6) (tv : Nat → tx.TV) (hk : clusterB k = true) (hl : KCl.L k) (ht : k.txs = [] ∨ ∃ b off, a3 = some ⟨b, off, none⟩ ∧ b < w.heap.size ∧ AtX w b off ((List.range k.txs.length).map fun j => (tv j, atT k.txs j)) ∧ ∀ j, j < k.txs.length → tx.SlT w (tv j) (atT k.txs j)) (hcp : ∀ j, j < k.txs.length → (atT k.txs j).sets.length ≤ (tv j).ch) :
    Calls Tryz.prog 41 #[.agg #[.int .i64 k.config, .int .i64 k.clock, .slice a1 k.places.length c1, .slice a2 k.machines.length c2, .slice a3 k.txs.length c3, .bool k.lost]] w (RAnsP w k) := by
  have hn := (CSm.of hk).t
  have hp6 := (CSm.of hk).p
  obtain ⟨U, hU⟩ : ∃ Y, Y = w.alloc (.cells #[.int .i64 k.config, .int .i64 k.clock, .slice a1 k.places.length c1, .slice a2 k.machines.length c2, .slice a3 k.txs.length c3, .bool k.lost] 34) := ⟨_, rfl⟩
  have bU : Below w.heap.size w U := by rw [hU]; exact (Below.refl _ _).alloc (Nat.le_refl _) _
  have sU : U.heap.size = w.heap.size + 1 := by rw [hU]; simp
  have FA : Hid (Bx U w.heap.size [.int .i64 k.config, .int .i64 k.clock, .slice a1 k.places.length c1, .slice a2 k.machines.length c2, .slice a3 k.txs.length c3, .bool k.lost]) := by unfold Hid; rw [hU]; exact Bx.made w [.int .i64 k.config, .int .i64 k.clock, .slice a1 k.places.length c1, .slice a2 k.machines.length c2, .slice a3 k.txs.length c3, .bool k.lost] _
  obtain ⟨V, hV⟩ : ∃ Y, Y = U.alloc (.cells #[] 42) := ⟨_, rfl⟩
  have bV : Below U.heap.size U V := by rw [hV]; exact (Below.refl _ _).alloc (Nat.le_refl _) _
  have AV : Hid (All V (w.heap.size + 1) (.slice (some ⟨w.heap.size + 1, 0, none⟩) 0 0) [] []) := ⟨by rw [hV, ← sU]; exact RowC.made U, rfl, fun r x xs hx => by simp at hx, fun r r' x x' hx => by simp at hx⟩
  have BU := hidOf bU
  have BV := hidOf bV
  have HT := hidOf ht
  have HCP := hidOf hcp
  have SU := hidOf sU
  have HKL : Hid (clusterB k = true ∧ KCl.L k) := ⟨hk, hl⟩
  have hVV : V = (w.alloc (.cells #[.int .i64 k.config, .int .i64 k.clock, .slice a1 k.places.length c1, .slice a2 k.machines.length c2, .slice a3 k.txs.length c3, .bool k.lost] 34)).alloc (.cells #[] 42) := by rw [hV, hU]
  clear bU bV hU hV ht hl hk sU hcp
  go_enter Tryz.func41, Tryz.ntmps41
  go_wp2
  rw [← hVV]
  clear hVV
  go_loopw [4, 5] (fun v4 v5 wr => ∃ (r : Nat) (gs : List (Nat × Nat)), r ≤ k.places.length ∧ v5 = .int .i64 r ∧ gs.length = r ∧ All wr (w.heap.size + 1) v4 gs (List.replicate r zeros) ∧ Below U.heap.size U wr) (fun _ v5 _ => k.places.length - (intOf v5).toNat)
  case atStart => exact ⟨0, [], Nat.zero_le _, rfl, rfl, AV.out, BV.out⟩
  case round =>
    obtain ⟨r, gs, hr, rfl, hgl, hal, hbl⟩ := hrel
    obtain ⟨va, vc, rfl, hrow⟩ := hal.row.at
    have KD : Hid (All wr (w.heap.size + 1) (.slice va gs.length vc) gs (List.replicate r zeros) ∧ Below U.heap.size U wr ∧ gs.length = r) := ⟨hal, hbl, hgl⟩
    have q2 := (FA.out.later hbl).1 2 _ rfl
    clear hal hbl hgl hrow
    by_cases hlt : r < k.places.length
    · obtain ⟨v', W', run1, al1, b1⟩ := KD.out.1.push (by have := KD.out.2.1.size; have := SU.out; omega) (by have := KD.out.2.2; omega) 65
      have KE : Hid (All W' (w.heap.size + 1) v' (gs ++ [(wr.heap.size, 6)]) (List.replicate (r + 1) zeros) ∧ Below U.heap.size U W' ∧ (gs ++ [(wr.heap.size, 6)]).length = r + 1) := by
        refine ⟨by rw [List.replicate_succ']; exact al1, ?_, by rw [List.length_append, KD.out.2.2]; rfl⟩
        have hs := SU.out
        rw [← hs] at b1
        exact KD.out.2.1.trans b1
      have jr : (r : Int) < (k.places.length : Int) := by omega
      have hnc := specNewCells_any wr
      have hgl := KD.out.2.2
      rw [hgl] at run1
      rw [hgl]
      clear al1 b1 hgl
      go_wp2_with fail
      refine hnc.mono ?_
      clear hnc q2
      rintro e w1 ⟨rfl, rfl⟩
      go_wp2_with (at_builtin; refine append_known _ rfl (.tmp 23) (.tmp 25) 65 rfl _ _ _ _ rfl rfl run1 ?_)
      exact ⟨⟨r + 1, gs ++ [(wr.heap.size, 6)], by omega, by simp, KE.out.2.2, KE.out.1, KE.out.2.1⟩, by simp [intOf]; omega⟩
    · obtain rfl : r = k.places.length := by omega
      have hd : decide ((k.places.length : Int) < (k.places.length : Int)) = false := by simp
      have hord := l13Order_any wr a1 c1 a2 c2 a3 c3 k tv HKL.out.1 HKL.out.2 (HT.out.imp id (fun ⟨b, off, e, h1, h2, h3⟩ => ⟨b, off, e, Nat.lt_of_lt_of_le h1 (bstep BU.out KD.out.2.1).size, h2.below (bstep BU.out KD.out.2.1) h1, fun j hj => (h3 j hj).later (bstep BU.out KD.out.2.1)⟩))
      have p0 := (FA.out.later KD.out.2.1).1 0 _ rfl
      have p1 := (FA.out.later KD.out.2.1).1 1 _ rfl
      have p3 := (FA.out.later KD.out.2.1).1 3 _ rfl
      have p4 := (FA.out.later KD.out.2.1).1 4 _ rfl
      have p5 := (FA.out.later KD.out.2.1).1 5 _ rfl
      go_wp2_with fail
      refine hord.mono ?_
      clear hord p0 p1 q2 p3 p4 p5 hd
      rintro e W2 ⟨lb, lc, rfl, hrx, b2⟩
      have hat := RowX.at hrx
      have KL : Hid (AtX W2 lb 0 (ordX k tv k.txs.length) ∧ lb < W2.heap.size ∧ wr.heap.size ≤ lb) := ⟨hat.1, hat.2.2.1, hat.2.1⟩
      have KA : Hid (All W2 (w.heap.size + 1) (.slice va gs.length vc) gs (List.replicate k.places.length zeros) ∧ Below U.heap.size U W2) := ⟨KD.out.1.later b2, bstep KD.out.2.1 b2⟩
      have KG : Hid (gs.length = k.places.length ∧ ∀ (r : Nat) (x : Nat × Nat), gs[r]? = some x → x.1 < wr.heap.size) := ⟨KD.out.2.2, fun r x hx => by
        obtain ⟨xs, hxs⟩ : ∃ xs, (List.replicate k.places.length zeros)[r]? = some xs := ⟨_, List.getElem?_eq_getElem (by rw [KD.out.1.len]; exact (List.getElem?_eq_some_iff.1 hx).1)⟩
        exact (KD.out.1.cs r x xs hx hxs).2.1⟩
      clear hrx hat b2 KD
      generalize wr = wO at *
      obtain ⟨ab, rfl⟩ : ∃ ab, va = some ⟨ab, 0, none⟩ := by
        obtain ⟨a', c', e', hat'⟩ := KA.out.1.row.at
        cases e'
        have hp1 : 0 < k.places.length := by
          have := HKL.out.1
          simp only [clusterB, placesB, Bool.and_eq_true, decide_eq_true_eq] at this
          omega
        obtain ⟨x0, hx0⟩ : ∃ x, gs[0]? = some x := ⟨_, List.getElem?_eq_getElem (by rw [KG.out.1]; exact hp1)⟩
        obtain ⟨ab, ea, _⟩ := hat' 0 x0 hx0
        exact ⟨ab, ea⟩
      obtain ⟨js, hjs⟩ : ∃ js, ordJ k k.txs.length = js := ⟨_, rfl⟩
      have HJS : Hid (ordX k tv k.txs.length = js.map (fun j => (tv j, atT k.txs j)) ∧ (∀ j ∈ js, j < k.txs.length) ∧ js.length ≤ 60 ∧ (ordX k tv k.txs.length).length = js.length ∧ repl k (List.replicate k.places.length zeros) js = rep0 k) := ⟨by rw [ordX, hjs], fun j hj => ordJ_lt k _ j (by rw [hjs]; exact hj), by rw [← hjs]; exact Nat.le_trans (ordJ_len k _) hn, by rw [ordX_len, hjs], by rw [rep0, hjs]⟩
      have hln := HJS.out.2.2.2.1
      rw [hln]
      clear hjs hln
      go_wp2
      go_loopw [7] (fun v7 wr => ∃ (i : Nat) (css : List (List C2)), i ≤ js.length ∧ v7 = .int .i64 i ∧ All wr (w.heap.size + 1) (.slice (some ⟨ab, 0, none⟩) gs.length vc) gs css ∧ repl k css (js.drop i) = rep0 k ∧ AtX wr lb 0 (ordX k tv k.txs.length) ∧ lb < wr.heap.size ∧ Below U.heap.size U wr) (fun v7 _ => js.length - (intOf v7).toNat)
      case atStart => exact ⟨0, _, Nat.zero_le _, rfl, KA.out.1, by rw [List.drop_zero]; exact HJS.out.2.2.2.2, KL.out.1, KL.out.2.1, KA.out.2⟩
      case round =>
        obtain ⟨i, css, hi, rfl, hal, hrp, hax, hlb, hbl⟩ := hrel
        have KI : Hid (All wr (w.heap.size + 1) (.slice (some ⟨ab, 0, none⟩) gs.length vc) gs css ∧ repl k css (js.drop i) = rep0 k ∧ AtX wr lb 0 (ordX k tv k.txs.length) ∧ lb < wr.heap.size ∧ Below U.heap.size U wr) := ⟨hal, hrp, hax, hlb, hbl⟩
        clear hal hrp hax hlb hbl
        by_cases hil : i < js.length
        · obtain ⟨j, hj⟩ : ∃ j, js[i]? = some j := ⟨_, List.getElem?_eq_getElem hil⟩
          have hjl : j < k.txs.length := HJS.out.2.1 j (List.mem_of_getElem? hj)
          have hx := KI.out.2.2.1 i (tv j, atT k.txs j) (by rw [HJS.out.1, List.getElem?_map, hj]; rfl)
          have hsl : tx.SlT w (tv j) (atT k.txs j) := by
            rcases HT.out with e0 | ⟨_, _, _, _, _, h3⟩
            · rw [e0] at hjl; simp at hjl
            · exact h3 j hjl
          have hdr : js.drop i = j :: js.drop (i + 1) := by rw [List.drop_eq_getElem_cons hil]; congr 1; rw [List.getElem?_eq_getElem hil] at hj; exact Option.some.inj hj
          have hTB := (clu_up HKL.out.1).2.1 j hjl
          have HRD : Hid (∀ s ∈ (atT k.txs j).reads, (0 ≤ s.region ∧ s.region < (k.places.length : Int)) ∧ 0 ≤ s.slot ∧ s.slot ≤ 5) := fun s hs => ⟨clu_readP HKL.out.1 hjl hs, by have := (tx.txB_no hTB).1 s hs; simp only [tx.noteOkB, Bool.and_eq_true, inB_iff] at this; omega⟩
          have HST : Hid (∀ s ∈ (atT k.txs j).sets, (0 ≤ s.region ∧ s.region < (k.places.length : Int)) ∧ 0 ≤ s.slot ∧ s.slot ≤ 5 ∧ 0 ≤ s.version ∧ s.version < 1000000) := fun s hs => ⟨clu_setP HKL.out.1 hjl hs, by have := (tx.txB_se hTB).1 s hs; simp only [setOkB, Bool.and_eq_true, inB_iff] at this; omega⟩
          have HLN : Hid ((atT k.txs j).reads.length ≤ 12 ∧ (atT k.txs j).sets.length ≤ 12) := (CSm.of HKL.out.1).ts _ (List.mem_of_getElem? (atT_of hjl))
          have HRP : Hid (rep0 k = if ((atT k.txs j).reads.all (rdOk css) && (atT k.txs j).sets.all (stOk css)) = true then repl k ((atT k.txs j).sets.foldl insA css) (js.drop (i + 1)) else (css, false)) := by unfold Hid; rw [← KI.out.2.1, hdr, repl]
          have HSL := hidOf hsl
          obtain ⟨t, htj⟩ : ∃ t, atT k.txs j = t := ⟨_, rfl⟩
          have HCJ : Hid ((atT k.txs j).sets.length ≤ (tv j).ch) := HCP.out j hjl
          rw [htj] at hx HRD HST HLN HRP HSL HCJ
          clear hTB hsl hdr hjl hj htj
          have g0 : wr.cell? ⟨lb, i * 7, none⟩ = some (.int .i64 t.id) := by have := hx 0 _ rfl; rwa [Nat.zero_add, Nat.add_zero] at this
          have g1 : wr.cell? ⟨lb, i * 7 + 1, none⟩ = some (.int .i64 t.home) := by have := hx 1 _ rfl; rwa [Nat.zero_add] at this
          have g2 : wr.cell? ⟨lb, i * 7 + 2, none⟩ = some (.int .i64 t.phase) := by have := hx 2 _ rfl; rwa [Nat.zero_add] at this
          have g3 : wr.cell? ⟨lb, i * 7 + 3, none⟩ = some (.int .i64 t.count) := by have := hx 3 _ rfl; rwa [Nat.zero_add] at this
          have g4 : wr.cell? ⟨lb, i * 7 + 4, none⟩ = some (.slice (tv j).ar t.reads.length (tv j).cr) := by have := hx 4 _ rfl; rwa [Nat.zero_add] at this
          have g5 : wr.cell? ⟨lb, i * 7 + 5, none⟩ = some (.slice (tv j).ah t.sets.length (tv j).ch) := by have := hx 5 _ rfl; rwa [Nat.zero_add] at this
          have g6 : wr.cell? ⟨lb, i * 7 + 6, none⟩ = some (.int .i64 t.stamp) := by have := hx 6 _ rfl; rwa [Nat.zero_add] at this
          obtain ⟨X, hX⟩ : ∃ Y, Y = wr.alloc (.cells #[.int .i64 t.id, .int .i64 t.home, .int .i64 t.phase, .int .i64 t.count, .slice (tv j).ar t.reads.length (tv j).cr, .slice (tv j).ah t.sets.length (tv j).ch, .int .i64 t.stamp] 55) := ⟨_, rfl⟩
          have bX : Below wr.heap.size wr X := by rw [hX]; exact (Below.refl _ _).alloc (Nat.le_refl _) _
          have XT : Hid (Bx X wr.heap.size [.int .i64 t.id, .int .i64 t.home, .int .i64 t.phase, .int .i64 t.count, .slice (tv j).ar t.reads.length (tv j).cr, .slice (tv j).ah t.sets.length (tv j).ch, .int .i64 t.stamp]) := by unfold Hid; rw [hX]; exact Bx.made wr [.int .i64 t.id, .int .i64 t.home, .int .i64 t.phase, .int .i64 t.count, .slice (tv j).ar t.reads.length (tv j).cr, .slice (tv j).ah t.sets.length (tv j).ch, .int .i64 t.stamp] _
          have KX : Hid (All X (w.heap.size + 1) (.slice (some ⟨ab, 0, none⟩) gs.length vc) gs css ∧ AtX X lb 0 (ordX k tv k.txs.length) ∧ lb < X.heap.size ∧ Below U.heap.size U X) := ⟨KI.out.1.later bX, KI.out.2.2.1.below bX KI.out.2.2.2.1, Nat.lt_of_lt_of_le KI.out.2.2.2.1 bX.size, bstep KI.out.2.2.2.2 bX⟩
          have jn : (i : Int) < (js.length : Int) := by omega
          have HGT : Hid (∀ (r : Nat) (x : Nat × Nat), gs[r]? = some x → x.1 < wr.heap.size ∧ x.1 < lb) := fun r x hx => by
            have h1 := KG.out.2 r x hx
            have h2 := KL.out.2.2
            have h3 := KI.out.2.2.2.1
            omega
          clear hx bX KI
          go_wp2
          rw [← hX]
          clear hX g0 g1 g2 g3 g4 g5 g6 jn
          generalize wr.heap.size = sT at *
          have HALL : Hid (∀ W, Below X.heap.size X W → ∀ (rn sn : Nat), (rn : Int) < (k.places.length : Int) → sn < 6 → ∃ (gb cg : Nat) (cc : C2), (W.cell? ⟨ab, rn, none⟩ = some (.slice (some ⟨gb, 0, none⟩) 6 cg) ∧ ab < W.heap.size ∧ W.cell? ⟨gb, sn * 2, none⟩ = some (.int .i64 cc.head) ∧ W.cell? ⟨gb, sn * 2 + 1, none⟩ = some (.int .i64 cc.value) ∧ gb < W.heap.size) ∧ atCC css (rn : Int) (sn : Int) = cc) := fun W hW rn sn hrn hsn => by
            have hA := KX.out.1.later hW
            obtain ⟨a', c', e', hat⟩ := hA.row.at
            cases e'
            have hrl : rn < gs.length := by rw [KG.out.1]; omega
            obtain ⟨x, hx⟩ : ∃ x, gs[rn]? = some x := ⟨_, List.getElem?_eq_getElem hrl⟩
            obtain ⟨ab', ea, hab, hca⟩ := hat rn x hx
            cases ea
            obtain ⟨xs, hxs⟩ : ∃ xs, css[rn]? = some xs := ⟨_, List.getElem?_eq_getElem (by rw [hA.len]; exact hrl)⟩
            obtain ⟨_, h2, h3, _, h5, _⟩ := hA.cs rn x xs hx hxs
            have hc := h3 sn _ (atC2_of (by rw [h5]; exact hsn))
            refine ⟨x.1, x.2, atC2 xs sn, ⟨hca, hab, ?_, ?_, h2⟩, ?_⟩
            · have := hc.c0; rwa [Nat.zero_add] at this
            · have := hc.c1; rwa [Nat.zero_add] at this
            · rw [atCC, Int.toNat_natCast, Int.toNat_natCast, hxs]; rfl
          go_loopw [9] (fun v9 wr => ∃ q : Nat, q ≤ t.reads.length ∧ v9 = .int .i64 q ∧ Below X.heap.size X wr ∧ ∀ i, i < q → rdOk css (tx.atNo t.reads i) = true) (fun v9 _ => t.reads.length - (intOf v9).toNat)
          case atStart => exact ⟨0, Nat.zero_le _, rfl, Below.refl _ _, fun i hi => absurd hi (by omega)⟩
          case round =>
            obtain ⟨q, hq, rfl, hbq, hallq⟩ := hrel
            have KQ : Hid (Below X.heap.size X wr ∧ ∀ i, i < q → rdOk css (tx.atNo t.reads i) = true) := ⟨hbq, hallq⟩
            clear hbq hallq
            have z4 := (XT.out.later KQ.out.1).1 4 _ rfl
            have hl12 := HLN.out.1
            by_cases hql : q < t.reads.length
            · obtain ⟨_, hrs⟩ := HSL.out.r
              rcases hrs with hrs | ⟨nb, no, hna, hnb, hns⟩
              · omega
              rw [hna] at z4
              clear hna
              have hnt := hns q _ (tx.atNo_of hql)
              have hmem := HRD.out _ (List.mem_of_getElem? (tx.atNo_of hql))
              obtain ⟨nt, hnte⟩ : ∃ nt, tx.atNo t.reads q = nt := ⟨_, rfl⟩
              rw [hnte] at hnt hmem
              obtain ⟨rn, hrn⟩ := Int.eq_ofNat_of_zero_le hmem.1.1
              obtain ⟨sn, hsn⟩ := Int.eq_ofNat_of_zero_le hmem.2.1
              have bww : Below w.heap.size w wr := bstep BU.out (bstep KX.out.2.2.2 KQ.out.1)
              have d0 : wr.cell? ⟨nb, no + q * 5, none⟩ = some (.int .i64 (rn : Int)) := (bww.cell (p := ⟨nb, no + q * 5, none⟩) hnb).trans (by rw [← hrn]; exact hnt.c0)
              have d1 : wr.cell? ⟨nb, no + q * 5 + 1, none⟩ = some (.int .i64 (sn : Int)) := (bww.cell (p := ⟨nb, no + q * 5 + 1, none⟩) hnb).trans (by rw [← hsn]; exact hnt.c1)
              have d2 : wr.cell? ⟨nb, no + q * 5 + 2, none⟩ = some (.int .i64 nt.version) := (bww.cell (p := ⟨nb, no + q * 5 + 2, none⟩) hnb).trans hnt.c2
              have d3 : wr.cell? ⟨nb, no + q * 5 + 3, none⟩ = some (.int .i64 nt.value) := (bww.cell (p := ⟨nb, no + q * 5 + 3, none⟩) hnb).trans hnt.c3
              have d4 : wr.cell? ⟨nb, no + q * 5 + 4, none⟩ = some (.bool nt.used) := (bww.cell (p := ⟨nb, no + q * 5 + 4, none⟩) hnb).trans hnt.c4
              obtain ⟨Z, hZ⟩ : ∃ Y, Y = wr.alloc (.cells #[.int .i64 (rn : Int), .int .i64 (sn : Int), .int .i64 nt.version, .int .i64 nt.value, .bool nt.used] 104) := ⟨_, rfl⟩
              have bZ : Below wr.heap.size wr Z := by rw [hZ]; exact (Below.refl _ _).alloc (Nat.le_refl _) _
              have NB : Hid (Bx Z wr.heap.size [.int .i64 (rn : Int), .int .i64 (sn : Int), .int .i64 nt.version, .int .i64 nt.value, .bool nt.used]) := by unfold Hid; rw [hZ]; exact Bx.made wr [.int .i64 (rn : Int), .int .i64 (sn : Int), .int .i64 nt.version, .int .i64 nt.value, .bool nt.used] _
              have BZ : Hid (Below X.heap.size X Z) := bstep KQ.out.1 bZ
              have hsn6 : sn < 6 := by omega
              have hrnp : (rn : Int) < (k.places.length : Int) := by omega
              obtain ⟨gb, cg, cc, hac, hcc⟩ := HALL.out Z BZ.out rn sn hrnp hsn6
              have HAC := hidOf hac
              have HRO : Hid (rdOk css (tx.atNo t.reads q) = ((verV cc.head == nt.version) && (cc.value == nt.value) && (usedV cc.head == nt.used))) := by unfold Hid; rw [hnte, rdOk, hrn, hsn, hcc]
              have rg : (rn : Int) < (gs.length : Int) := by rw [KG.out.1]; exact hrnp
              have s6 : (sn : Int) < 6 := by omega
              have jq : (q : Int) < (t.reads.length : Int) := by omega
              clear hac hcc hnt hmem hrn hsn bww hnte hns bZ
              go_wp2_with fail
              rw [← hZ]
              clear hZ d0 d1 d2 d3 d4 z4
              generalize wr.heap.size = sN at *
              refine wp_region_until 10 (fun X : World => Below Z.heap.size Z X) (by kernel_rfl) ?_
              have hSX : (fun X : World => Below Z.heap.size Z X) Z.drew := (Below.refl _ _).drew
              have KS := hidOf hSX
              generalize Z.drew = XD at *
              refine wpUntil_take (i := 0) (v := ?_) rfl (by kernel_rfl) (fun _ _ _ h => h) (Or.inl ⟨by rfl, ?_⟩) hSX ?_
              rotate_left
              · (intro w hSw; go_simp; first | done | with_reducible rfl | rfl | (rw [if_pos (by omega)]))
              simp only [Act.put]
              refine wpUntil_take (i := 1) (v := ?_) rfl (by kernel_rfl) (fun _ _ _ h => h) (Or.inl ⟨by rfl, ?_⟩) hSX ?_
              rotate_left
              · (intro w hSw; go_simp; first | done | with_reducible rfl | rfl | (rw [if_pos (by omega)]))
              simp only [Act.put]
              refine wpUntil_take (i := 2) (v := ?_) rfl (by kernel_rfl) (fun _ _ _ h => h) (Or.inl ⟨by rfl, ?_⟩) hSX ?_
              rotate_left
              · (intro w hSw; have q := (NB.out.later hSw).1 0 _ rfl; go_simp; first | done | with_reducible rfl | rfl | (rw [if_pos (by omega)]))
              simp only [Act.put]
              refine wpUntil_take (i := 3) (v := ?_) rfl (by kernel_rfl) (fun _ _ _ h => h) (Or.inl ⟨by rfl, ?_⟩) hSX ?_
              rotate_left
              · (intro w hSw; go_simp; first | done | with_reducible rfl | rfl | (rw [if_pos (by omega)]))
              simp only [Act.put]
              refine wpUntil_take (i := 4) (v := ?_) rfl (by kernel_rfl) (fun _ _ _ h => h) (Or.inl ⟨by rfl, ?_⟩) hSX ?_
              rotate_left
              · (intro w hSw; have q := (hSw.cell (p := ⟨ab, rn, none⟩) HAC.out.2.1).trans HAC.out.1; go_simp; first | done | with_reducible rfl | rfl | (rw [if_pos (by omega)]))
              simp only [Act.put]
              refine wpUntil_take (i := 5) (v := ?_) rfl (by kernel_rfl) (fun _ _ _ h => h) (Or.inl ⟨by rfl, ?_⟩) hSX ?_
              rotate_left
              · (intro w hSw; go_simp; first | done | with_reducible rfl | rfl | (rw [if_pos (by omega)]))
              simp only [Act.put]
              refine wpUntil_take (i := 6) (v := ?_) rfl (by kernel_rfl) (fun _ _ _ h => h) (Or.inl ⟨by rfl, ?_⟩) hSX ?_
              rotate_left
              · (intro w hSw; have q := (NB.out.later hSw).1 1 _ rfl; go_simp; first | done | with_reducible rfl | rfl | (rw [if_pos (by omega)]))
              simp only [Act.put]
              refine wpUntil_take (i := 7) (v := ?_) rfl (by kernel_rfl) (fun _ _ _ h => h) (Or.inl ⟨by rfl, ?_⟩) hSX ?_
              rotate_left
              · (intro w hSw; go_simp; first | done | with_reducible rfl | rfl | (rw [if_pos (by omega)]))
              simp only [Act.put]
              refine wpUntil_take (i := 8) (v := ?_) rfl (by kernel_rfl) (fun _ _ _ h => h) (Or.inl ⟨by rfl, ?_⟩) hSX ?_
              rotate_left
              · (intro w hSw; have q0 := (hSw.cell (p := ⟨gb, sn * 2, none⟩) HAC.out.2.2.2.2).trans HAC.out.2.2.1; have q1 := (hSw.cell (p := ⟨gb, sn * 2 + 1, none⟩) HAC.out.2.2.2.2).trans HAC.out.2.2.2.1; go_simp; first | done | with_reducible rfl | rfl | (rw [if_pos (by omega)]))
              simp only [Act.put]
              refine wpUntil_ready (rs := [9]) (by kernel_rfl) (by simp) ?_
              refine AllU.cons rfl (fun K hK => ?_) AllU.nil
              obtain ⟨Y, hY⟩ : ∃ Y, Y = XD.alloc (.cells #[.int .i64 0, .int .i64 0] 75) := ⟨_, rfl⟩
              have bY : Below XD.heap.size XD Y := by rw [hY]; exact (Below.refl _ _).alloc (Nat.le_refl _) _
              have xY : Bx Y XD.heap.size [.int .i64 0, .int .i64 0] := by rw [hY]; exact Bx.made XD [.int .i64 0, .int .i64 0] _
              have hSY : (fun X : World => Below Z.heap.size Z X) Y := bstep hSX bY
              have y0 := xY.1 0 _ rfl
              have y1 := xY.1 1 _ rfl
              have f0 := xY.2.1 0
              have f1 := xY.2.1 1
              obtain ⟨VC, hVC⟩ : ∃ V, V = putB Y XD.heap.size 0 [.int .i64 cc.head, .int .i64 cc.value] := ⟨_, rfl⟩
              have KVC : Hid (Bx VC XD.heap.size [.int .i64 cc.head, .int .i64 cc.value] ∧ Below Z.heap.size Z VC) := by
                rw [hVC]
                exact ⟨xY.put [.int .i64 cc.head, .int .i64 cc.value] rfl, putB_below (w := Z) KS.out.size [.int .i64 cc.head, .int .i64 cc.value] Y 0 hSY⟩
              simp only [putB] at hVC
              go_simp
              rw [← hY]
              refine hK.out _ _ (fun _ => hSY) ?_
              clear hK K hSX bY xY hY
              refine wpUntil_ready (rs := [10]) (by kernel_rfl) (by simp) ?_
              refine AllU.cons rfl (fun K hK => ?_) AllU.nil
              go_simp
              rw [← hVC]
              refine hK.out _ _ (fun h => absurd rfl h) ?_
              clear hK K hSY y0 y1 f0 f1 hVC KS
              refine wpUntil_done (by kernel_rfl) ?_ _
              generalize XD.heap.size = sC at *
              have x0 : ∀ dd os, (grow (redrawn VC dd) os).cell? ⟨sC, 0, none⟩ = some (.int .i64 cc.head) := fun dd os => ((below_regrown VC dd os).cell (p := ⟨sC, 0, none⟩) KVC.out.1.2.2).trans (KVC.out.1.1 0 _ rfl)
              have x1 : ∀ dd os, (grow (redrawn VC dd) os).cell? ⟨sC, 1, none⟩ = some (.int .i64 cc.value) := fun dd os => ((below_regrown VC dd os).cell (p := ⟨sC, 1, none⟩) KVC.out.1.2.2).trans (KVC.out.1.1 1 _ rfl)
              have n2 : ∀ dd os, (grow (redrawn VC dd) os).cell? ⟨sN, 2, none⟩ = some (.int .i64 nt.version) := fun dd os => (NB.out.later (bstep KVC.out.2 (below_regrown VC dd os))).1 2 _ rfl
              have n3 : ∀ dd os, (grow (redrawn VC dd) os).cell? ⟨sN, 3, none⟩ = some (.int .i64 nt.value) := fun dd os => (NB.out.later (bstep KVC.out.2 (below_regrown VC dd os))).1 3 _ rfl
              have n4 : ∀ dd os, (grow (redrawn VC dd) os).cell? ⟨sN, 4, none⟩ = some (.bool nt.used) := fun dd os => (NB.out.later (bstep KVC.out.2 (below_regrown VC dd os))).1 4 _ rfl
              have cQ1 : ∀ dd os, Calls Tryz.prog 80 #[.int .i64 cc.head] (grow (redrawn VC dd) os) fun e w'' => e = .returned (.int .i64 (verV cc.head)) ∧ ∃ p : Regrown, w'' = grow (redrawn VC p.d) p.os := fun dd os => (specVersion_any cc.head (grow (redrawn VC dd) os)).mono fun e w'' h => ⟨h.1, ⟨⟨dd, os⟩, h.2⟩⟩
              have cQ2 : ∀ dd os, Calls Tryz.prog 81 #[.int .i64 cc.head] (grow (redrawn VC dd) os) fun e w'' => e = .returned (.bool (usedV cc.head)) ∧ ∃ p : Regrown, w'' = grow (redrawn VC p.d) p.os := fun dd os => (specUsed_any cc.head (grow (redrawn VC dd) os)).mono fun e w'' h => ⟨h.1, ⟨⟨dd, os⟩, h.2⟩⟩
              generalize verV cc.head = vv at *
              generalize usedV cc.head = uu at *
              cases k1 : (vv == nt.version) with
              | false =>
                have m1 : (vv != nt.version) = true := by simp only [bne, k1]; rfl
                go_wp2_with fail
                refine wp_region_quiet_below (by kernel_rfl) (by kernel_rfl) ?_
                repeat (go_big_quiet_step (first | exact cQ1 _ _ | exact cQ2 _ _))
                refine wpQuiet_nil ?_
                intro _ hw'
                obtain ⟨⟨dq, osq⟩, hw''⟩ := hw'
                subst hw''
                have KN : Hid (Below X.heap.size X (grow (redrawn VC dq) osq)) := bstep (bstep BZ.out KVC.out.2) (below_regrown VC dq osq)
                clear x0 x1 n2 n3 n4 cQ1 cQ2
                generalize grow (redrawn VC dq) osq = WN at *
                have HE : Hid (rep0 k = (css, false)) := by
                  unfold Hid
                  rw [HRP.out, if_neg (fun h => by
                    rw [Bool.and_eq_true] at h
                    have := List.all_eq_true.1 h.1 _ (List.mem_of_getElem? (tx.atNo_of hql))
                    rw [HRO.out] at this
                    simp [k1] at this)]
                go_wp2
                refine bodyPost_ret (v := .tuple #[.slice (some ⟨ab, 0, none⟩) gs.length vc, .bool false]) (by simp [results, Tryz.results41, go_sem]) rfl ?_
                unfold RAnsP
                rw [HE.out]
                exact ⟨_, gs, rfl, (KX.out.1.later KN.out).up (by omega), bstep BU.out (bstep KX.out.2.2.2 KN.out)⟩
              | true =>
                have m1 : (vv != nt.version) = false := by simp only [bne, k1]; rfl
                cases k2 : (cc.value == nt.value) with
                | false =>
                  have m2 : (cc.value != nt.value) = true := by simp only [bne, k2]; rfl
                  go_wp2_with fail
                  refine wp_region_quiet_below (by kernel_rfl) (by kernel_rfl) ?_
                  repeat (go_big_quiet_step (first | exact cQ1 _ _ | exact cQ2 _ _))
                  refine wpQuiet_nil ?_
                  intro _ hw'
                  obtain ⟨⟨dq, osq⟩, hw''⟩ := hw'
                  subst hw''
                  have KN : Hid (Below X.heap.size X (grow (redrawn VC dq) osq)) := bstep (bstep BZ.out KVC.out.2) (below_regrown VC dq osq)
                  clear x0 x1 n2 n3 n4 cQ1 cQ2
                  generalize grow (redrawn VC dq) osq = WN at *
                  have HE : Hid (rep0 k = (css, false)) := by
                    unfold Hid
                    rw [HRP.out, if_neg (fun h => by
                      rw [Bool.and_eq_true] at h
                      have := List.all_eq_true.1 h.1 _ (List.mem_of_getElem? (tx.atNo_of hql))
                      rw [HRO.out] at this
                      simp [k1, k2] at this)]
                  go_wp2
                  refine bodyPost_ret (v := .tuple #[.slice (some ⟨ab, 0, none⟩) gs.length vc, .bool false]) (by simp [results, Tryz.results41, go_sem]) rfl ?_
                  unfold RAnsP
                  rw [HE.out]
                  exact ⟨_, gs, rfl, (KX.out.1.later KN.out).up (by omega), bstep BU.out (bstep KX.out.2.2.2 KN.out)⟩
                | true =>
                  have m2 : (cc.value != nt.value) = false := by simp only [bne, k2]; rfl
                  obtain ⟨us, hus⟩ : ∃ b, nt.used = b := ⟨_, rfl⟩
                  rw [hus] at n4 HRO
                  clear hus
                  cases uu <;> cases us
                  · go_wp2_with fail
                    refine wp_region_quiet_below (by kernel_rfl) (by kernel_rfl) ?_
                    repeat (go_big_quiet_step (first | exact cQ1 _ _ | exact cQ2 _ _))
                    refine wpQuiet_nil ?_
                    intro _ hw'
                    obtain ⟨⟨dq, osq⟩, hw''⟩ := hw'
                    subst hw''
                    have KN : Hid (Below X.heap.size X (grow (redrawn VC dq) osq)) := bstep (bstep BZ.out KVC.out.2) (below_regrown VC dq osq)
                    clear x0 x1 n2 n3 n4 cQ1 cQ2
                    generalize grow (redrawn VC dq) osq = WN at *
                    have HN : Hid (∀ i, i < q + 1 → rdOk css (tx.atNo t.reads i) = true) := fun i hi => by
                      by_cases e : i = q
                      · rw [e, HRO.out]; simp [k1, k2]
                      · exact KQ.out.2 i (by omega)
                    go_wp2
                    exact ⟨⟨q + 1, by omega, by simp, KN.out, HN.out⟩, by simp [intOf]; omega⟩
                  · go_wp2_with fail
                    refine wp_region_quiet_below (by kernel_rfl) (by kernel_rfl) ?_
                    repeat (go_big_quiet_step (first | exact cQ1 _ _ | exact cQ2 _ _))
                    refine wpQuiet_nil ?_
                    intro _ hw'
                    obtain ⟨⟨dq, osq⟩, hw''⟩ := hw'
                    subst hw''
                    have KN : Hid (Below X.heap.size X (grow (redrawn VC dq) osq)) := bstep (bstep BZ.out KVC.out.2) (below_regrown VC dq osq)
                    clear x0 x1 n2 n3 n4 cQ1 cQ2
                    generalize grow (redrawn VC dq) osq = WN at *
                    have HE : Hid (rep0 k = (css, false)) := by
                      unfold Hid
                      rw [HRP.out, if_neg (fun h => by
                        rw [Bool.and_eq_true] at h
                        have := List.all_eq_true.1 h.1 _ (List.mem_of_getElem? (tx.atNo_of hql))
                        rw [HRO.out] at this
                        simp [k1, k2] at this)]
                    go_wp2
                    refine bodyPost_ret (v := .tuple #[.slice (some ⟨ab, 0, none⟩) gs.length vc, .bool false]) (by simp [results, Tryz.results41, go_sem]) rfl ?_
                    unfold RAnsP
                    rw [HE.out]
                    exact ⟨_, gs, rfl, (KX.out.1.later KN.out).up (by omega), bstep BU.out (bstep KX.out.2.2.2 KN.out)⟩
                  · go_wp2_with fail
                    refine wp_region_quiet_below (by kernel_rfl) (by kernel_rfl) ?_
                    repeat (go_big_quiet_step (first | exact cQ1 _ _ | exact cQ2 _ _))
                    refine wpQuiet_nil ?_
                    intro _ hw'
                    obtain ⟨⟨dq, osq⟩, hw''⟩ := hw'
                    subst hw''
                    have KN : Hid (Below X.heap.size X (grow (redrawn VC dq) osq)) := bstep (bstep BZ.out KVC.out.2) (below_regrown VC dq osq)
                    clear x0 x1 n2 n3 n4 cQ1 cQ2
                    generalize grow (redrawn VC dq) osq = WN at *
                    have HE : Hid (rep0 k = (css, false)) := by
                      unfold Hid
                      rw [HRP.out, if_neg (fun h => by
                        rw [Bool.and_eq_true] at h
                        have := List.all_eq_true.1 h.1 _ (List.mem_of_getElem? (tx.atNo_of hql))
                        rw [HRO.out] at this
                        simp [k1, k2] at this)]
                    go_wp2
                    refine bodyPost_ret (v := .tuple #[.slice (some ⟨ab, 0, none⟩) gs.length vc, .bool false]) (by simp [results, Tryz.results41, go_sem]) rfl ?_
                    unfold RAnsP
                    rw [HE.out]
                    exact ⟨_, gs, rfl, (KX.out.1.later KN.out).up (by omega), bstep BU.out (bstep KX.out.2.2.2 KN.out)⟩
                  · go_wp2_with fail
                    refine wp_region_quiet_below (by kernel_rfl) (by kernel_rfl) ?_
                    repeat (go_big_quiet_step (first | exact cQ1 _ _ | exact cQ2 _ _))
                    refine wpQuiet_nil ?_
                    intro _ hw'
                    obtain ⟨⟨dq, osq⟩, hw''⟩ := hw'
                    subst hw''
                    have KN : Hid (Below X.heap.size X (grow (redrawn VC dq) osq)) := bstep (bstep BZ.out KVC.out.2) (below_regrown VC dq osq)
                    clear x0 x1 n2 n3 n4 cQ1 cQ2
                    generalize grow (redrawn VC dq) osq = WN at *
                    have HN : Hid (∀ i, i < q + 1 → rdOk css (tx.atNo t.reads i) = true) := fun i hi => by
                      by_cases e : i = q
                      · rw [e, HRO.out]; simp [k1, k2]
                      · exact KQ.out.2 i (by omega)
                    go_wp2
                    exact ⟨⟨q + 1, by omega, by simp, KN.out, HN.out⟩, by simp [intOf]; omega⟩
            · obtain rfl : q = t.reads.length := by omega
              have hd : decide ((t.reads.length : Int) < (t.reads.length : Int)) = false := by simp
              have HRA : Hid (rep0 k = if t.sets.all (stOk css) = true then repl k (t.sets.foldl insA css) (js.drop (i + 1)) else (css, false)) := by
                unfold Hid
                have : t.reads.all (rdOk css) = true := List.all_eq_true.2 fun s hs => by
                  obtain ⟨z, hz, rfl⟩ := List.getElem_of_mem hs
                  have := KQ.out.2 z hz
                  rwa [tx.atNo, List.getElem?_eq_getElem hz] at this
                rw [HRP.out, this, Bool.true_and]
              have KB : Hid (Below X.heap.size X wr) := KQ.out.1
              clear KQ HRP
              generalize wr = WA at *
              go_wp2
              go_loopw [12] (fun v12 wr => ∃ q : Nat, q ≤ t.sets.length ∧ v12 = .int .i64 q ∧ Below X.heap.size X wr ∧ ∀ i, i < q → stOk css (tx.atSe t.sets i) = true) (fun v12 _ => t.sets.length - (intOf v12).toNat)
              case atStart => exact ⟨0, Nat.zero_le _, rfl, KB.out, fun i hi => absurd hi (by omega)⟩
              case round =>
                obtain ⟨q, hq, rfl, hbq, hallq⟩ := hrel
                have KQ : Hid (Below X.heap.size X wr ∧ ∀ i, i < q → stOk css (tx.atSe t.sets i) = true) := ⟨hbq, hallq⟩
                clear hbq hallq
                have z5 := (XT.out.later KQ.out.1).1 5 _ rfl
                have hl12 := HLN.out.2
                by_cases hql : q < t.sets.length
                · obtain ⟨_, hrs⟩ := HSL.out.s
                  rcases hrs with hrs | ⟨nb, no, hna, hnb, hns⟩
                  · omega
                  rw [hna] at z5
                  clear hna
                  have hnt := hns q _ (tx.atSe_of hql)
                  have hmem := HST.out _ (List.mem_of_getElem? (tx.atSe_of hql))
                  obtain ⟨st, hste⟩ : ∃ st, tx.atSe t.sets q = st := ⟨_, rfl⟩
                  rw [hste] at hnt hmem
                  obtain ⟨rn, hrn⟩ := Int.eq_ofNat_of_zero_le hmem.1.1
                  obtain ⟨sn, hsn⟩ := Int.eq_ofNat_of_zero_le hmem.2.1
                  have bww : Below w.heap.size w wr := bstep BU.out (bstep KX.out.2.2.2 KQ.out.1)
                  have d0 : wr.cell? ⟨nb, no + q * 5, none⟩ = some (.int .i64 (rn : Int)) := (bww.cell (p := ⟨nb, no + q * 5, none⟩) hnb).trans (by rw [← hrn]; exact hnt.c0)
                  have d1 : wr.cell? ⟨nb, no + q * 5 + 1, none⟩ = some (.int .i64 (sn : Int)) := (bww.cell (p := ⟨nb, no + q * 5 + 1, none⟩) hnb).trans (by rw [← hsn]; exact hnt.c1)
                  have d2 : wr.cell? ⟨nb, no + q * 5 + 2, none⟩ = some (.int .i64 st.value) := (bww.cell (p := ⟨nb, no + q * 5 + 2, none⟩) hnb).trans hnt.c2
                  have d3 : wr.cell? ⟨nb, no + q * 5 + 3, none⟩ = some (.bool st.used) := (bww.cell (p := ⟨nb, no + q * 5 + 3, none⟩) hnb).trans hnt.c3
                  have d4 : wr.cell? ⟨nb, no + q * 5 + 4, none⟩ = some (.int .i64 st.version) := (bww.cell (p := ⟨nb, no + q * 5 + 4, none⟩) hnb).trans hnt.c4
                  obtain ⟨Z, hZ⟩ : ∃ Y, Y = wr.alloc (.cells #[.int .i64 (rn : Int), .int .i64 (sn : Int), .int .i64 st.value, .bool st.used, .int .i64 st.version] 106) := ⟨_, rfl⟩
                  have bZ : Below wr.heap.size wr Z := by rw [hZ]; exact (Below.refl _ _).alloc (Nat.le_refl _) _
                  have NB : Hid (Bx Z wr.heap.size [.int .i64 (rn : Int), .int .i64 (sn : Int), .int .i64 st.value, .bool st.used, .int .i64 st.version]) := by unfold Hid; rw [hZ]; exact Bx.made wr [.int .i64 (rn : Int), .int .i64 (sn : Int), .int .i64 st.value, .bool st.used, .int .i64 st.version] _
                  have BZ : Hid (Below X.heap.size X Z) := bstep KQ.out.1 bZ
                  have hsn6 : sn < 6 := by omega
                  have hrnp : (rn : Int) < (k.places.length : Int) := by omega
                  obtain ⟨gb, cg, cc, hac, hcc⟩ := HALL.out Z BZ.out rn sn hrnp hsn6
                  have HAC := hidOf hac
                  have HSO : Hid (stOk css (tx.atSe t.sets q) = (verV cc.head == st.version)) := by unfold Hid; rw [hste, stOk, hrn, hsn, hcc]
                  have rg : (rn : Int) < (gs.length : Int) := by rw [KG.out.1]; exact hrnp
                  have s6 : (sn : Int) < 6 := by omega
                  have jq : (q : Int) < (t.sets.length : Int) := by omega
                  clear hac hcc hnt hmem hrn hsn bww hste hns bZ
                  go_wp2_with fail
                  rw [← hZ]
                  clear hZ d0 d1 d2 d3 d4 z5
                  generalize wr.heap.size = sN at *
                  have n0 : ∀ dd os, (grow (redrawn Z dd) os).cell? ⟨sN, 0, none⟩ = some (.int .i64 (rn : Int)) := fun dd os => (NB.out.later (below_regrown Z dd os)).1 0 _ rfl
                  have n1 : ∀ dd os, (grow (redrawn Z dd) os).cell? ⟨sN, 1, none⟩ = some (.int .i64 (sn : Int)) := fun dd os => (NB.out.later (below_regrown Z dd os)).1 1 _ rfl
                  have n4 : ∀ dd os, (grow (redrawn Z dd) os).cell? ⟨sN, 4, none⟩ = some (.int .i64 st.version) := fun dd os => (NB.out.later (below_regrown Z dd os)).1 4 _ rfl
                  have ca : ∀ dd os, (grow (redrawn Z dd) os).cell? ⟨ab, rn, none⟩ = some (.slice (some ⟨gb, 0, none⟩) 6 cg) := fun dd os => ((below_regrown Z dd os).cell (p := ⟨ab, rn, none⟩) HAC.out.2.1).trans HAC.out.1
                  have ch0 : ∀ dd os, (grow (redrawn Z dd) os).cell? ⟨gb, sn * 2, none⟩ = some (.int .i64 cc.head) := fun dd os => ((below_regrown Z dd os).cell (p := ⟨gb, sn * 2, none⟩) HAC.out.2.2.2.2).trans HAC.out.2.2.1
                  have cQ1 : ∀ dd os, Calls Tryz.prog 80 #[.int .i64 cc.head] (grow (redrawn Z dd) os) fun e w'' => e = .returned (.int .i64 (verV cc.head)) ∧ ∃ p : Regrown, w'' = grow (redrawn Z p.d) p.os := fun dd os => (specVersion_any cc.head (grow (redrawn Z dd) os)).mono fun e w'' h => ⟨h.1, ⟨⟨dd, os⟩, h.2⟩⟩
                  generalize verV cc.head = vv at *
                  cases k1 : (vv == st.version) with
                  | false =>
                    have m1 : (vv != st.version) = true := by simp only [bne, k1]; rfl
                    go_wp2_with fail
                    refine wp_region_quiet_below (by kernel_rfl) (by kernel_rfl) ?_
                    repeat (go_big_quiet_step (exact cQ1 _ _))
                    refine wpQuiet_nil ?_
                    intro _ hw'
                    obtain ⟨⟨dq, osq⟩, hw''⟩ := hw'
                    subst hw''
                    have KN : Hid (Below X.heap.size X (grow (redrawn Z dq) osq)) := bstep BZ.out (below_regrown Z dq osq)
                    clear n0 n1 n4 ca ch0 cQ1
                    generalize grow (redrawn Z dq) osq = WN at *
                    have HE : Hid (rep0 k = (css, false)) := by
                      unfold Hid
                      rw [HRA.out, if_neg (fun h => by
                        have := List.all_eq_true.1 h _ (List.mem_of_getElem? (tx.atSe_of hql))
                        rw [HSO.out, k1] at this
                        cases this)]
                    go_wp2
                    refine bodyPost_ret (v := .tuple #[.slice (some ⟨ab, 0, none⟩) gs.length vc, .bool false]) (by simp [results, Tryz.results41, go_sem]) rfl ?_
                    unfold RAnsP
                    rw [HE.out]
                    exact ⟨_, gs, rfl, (KX.out.1.later KN.out).up (by omega), bstep BU.out (bstep KX.out.2.2.2 KN.out)⟩
                  | true =>
                    have m1 : (vv != st.version) = false := by simp only [bne, k1]; rfl
                    go_wp2_with fail
                    refine wp_region_quiet_below (by kernel_rfl) (by kernel_rfl) ?_
                    repeat (go_big_quiet_step (exact cQ1 _ _))
                    refine wpQuiet_nil ?_
                    intro _ hw'
                    obtain ⟨⟨dq, osq⟩, hw''⟩ := hw'
                    subst hw''
                    have KN : Hid (Below X.heap.size X (grow (redrawn Z dq) osq)) := bstep BZ.out (below_regrown Z dq osq)
                    clear n0 n1 n4 ca ch0 cQ1
                    generalize grow (redrawn Z dq) osq = WN at *
                    have HN : Hid (∀ i, i < q + 1 → stOk css (tx.atSe t.sets i) = true) := fun i hi => by
                      by_cases e : i = q
                      · rw [e, HSO.out, k1]
                      · exact KQ.out.2 i (by omega)
                    go_wp2
                    exact ⟨⟨q + 1, by omega, by simp, KN.out, HN.out⟩, by simp [intOf]; omega⟩
                · obtain rfl : q = t.sets.length := by omega
                  have hd : decide ((t.sets.length : Int) < (t.sets.length : Int)) = false := by simp
                  have HRB : Hid (repl k (t.sets.foldl insA css) (js.drop (i + 1)) = rep0 k) := by
                    unfold Hid
                    have : t.sets.all (stOk css) = true := List.all_eq_true.2 fun s hs => by
                      obtain ⟨z, hz, rfl⟩ := List.getElem_of_mem hs
                      have := KQ.out.2 z hz
                      rwa [tx.atSe, List.getElem?_eq_getElem hz] at this
                    rw [HRA.out, if_pos this]
                  have KC : Hid (Below X.heap.size X wr) := KQ.out.1
                  clear KQ HRA KB HALL
                  generalize wr = WB at *
                  go_wp2
                  clear z5 hd
                  go_loopw [14] (fun v14 wr => ∃ q : Nat, q ≤ t.sets.length ∧ v14 = .int .i64 q ∧ All wr (w.heap.size + 1) (.slice (some ⟨ab, 0, none⟩) gs.length vc) gs ((t.sets.take q).foldl insA css) ∧ Bx wr sT [.int .i64 t.id, .int .i64 t.home, .int .i64 t.phase, .int .i64 t.count, .slice (tv j).ar t.reads.length (tv j).cr, .slice (tv j).ah t.sets.length (tv j).ch, .int .i64 t.stamp] ∧ AtX wr lb 0 (ordX k tv k.txs.length) ∧ lb < wr.heap.size ∧ Below U.heap.size U wr) (fun v14 _ => t.sets.length - (intOf v14).toNat)
                  case atStart => exact ⟨0, Nat.zero_le _, rfl, by rw [List.take_zero]; exact KX.out.1.later KC.out, XT.out.later KC.out, KX.out.2.1.below KC.out KX.out.2.2.1, Nat.lt_of_lt_of_le KX.out.2.2.1 KC.out.size, bstep KX.out.2.2.2 KC.out⟩
                  case round =>
                    obtain ⟨q, hq, rfl, hal, hbx, hax, hlb, hbl⟩ := hrel
                    have KR : Hid (All wr (w.heap.size + 1) (.slice (some ⟨ab, 0, none⟩) gs.length vc) gs ((t.sets.take q).foldl insA css) ∧ Bx wr sT [.int .i64 t.id, .int .i64 t.home, .int .i64 t.phase, .int .i64 t.count, .slice (tv j).ar t.reads.length (tv j).cr, .slice (tv j).ah t.sets.length (tv j).ch, .int .i64 t.stamp] ∧ AtX wr lb 0 (ordX k tv k.txs.length) ∧ lb < wr.heap.size ∧ Below U.heap.size U wr) := ⟨hal, hbx, hax, hlb, hbl⟩
                    clear hal hbx hax hlb hbl
                    have z5 := KR.out.2.1.1 5 _ rfl
                    by_cases hql : q < t.sets.length
                    · obtain ⟨_, hrs⟩ := HSL.out.s
                      rcases hrs with hrs | ⟨nb, no, hna, hnb, hns⟩
                      · omega
                      have hnt := hns q _ (tx.atSe_of hql)
                      have hmem := HST.out _ (List.mem_of_getElem? (tx.atSe_of hql))
                      have htk : (t.sets.take (q + 1)).foldl insA css = insA ((t.sets.take q).foldl insA css) (tx.atSe t.sets q) := by rw [List.take_add_one, tx.atSe_of hql, List.foldl_append]; rfl
                      obtain ⟨st, hste⟩ : ∃ st, tx.atSe t.sets q = st := ⟨_, rfl⟩
                      rw [hste] at hnt hmem htk
                      obtain ⟨rn, hrn⟩ := Int.eq_ofNat_of_zero_le hmem.1.1
                      obtain ⟨sn, hsn⟩ := Int.eq_ofNat_of_zero_le hmem.2.1
                      obtain ⟨css', hcs'⟩ : ∃ c, (t.sets.take q).foldl insA css = c := ⟨_, rfl⟩
                      rw [hcs'] at KR htk
                      have hrl : rn < gs.length := by rw [KG.out.1]; omega
                      obtain ⟨x, hx⟩ : ∃ x, gs[rn]? = some x := ⟨_, List.getElem?_eq_getElem hrl⟩
                      obtain ⟨xs, hxs⟩ : ∃ xs, css'[rn]? = some xs := ⟨_, List.getElem?_eq_getElem (by rw [KR.out.1.len]; exact hrl)⟩
                      have hcl := KR.out.1.cs rn x xs hx hxs
                      obtain ⟨a', c', e', hat⟩ := KR.out.1.row.at
                      cases e'
                      obtain ⟨ab', ea, hab, hca⟩ := hat rn x hx
                      cases ea
                      have bww : Below w.heap.size w wr := bstep BU.out KR.out.2.2.2.2
                      have hnt' := hnt.below bww hnb
                      have HNT : Hid (tx.SetAt wr nb (no + q * 5) st ∧ nb < wr.heap.size) := ⟨hnt', Nat.lt_of_lt_of_le hnb bww.size⟩
                      have HSS : Hid (st.region = (rn : Int) ∧ st.slot = (sn : Int) ∧ sn < 6 ∧ 0 ≤ st.version ∧ st.version < 1000000) := ⟨hrn, hsn, by omega, hmem.2.2.2.1, hmem.2.2.2.2⟩
                      have HCL : Hid (CellsAt wr x.1 0 xs ∧ Room wr x.1 12 ∧ xs.length = 6 ∧ x.1 < wr.heap.size ∧ w.heap.size + 1 ≤ x.1 ∧ ab ≠ x.1) := ⟨hcl.2.2.1, hcl.2.2.2.1, hcl.2.2.2.2.1, hcl.2.1, hcl.1, fun e => hcl.2.2.2.2.2 (by rw [← e]; rfl)⟩
                      have HXS : Hid (gs[rn]? = some x ∧ css'[rn]? = some xs) := ⟨hx, hxs⟩
                      have HAB : Hid (wr.cell? ⟨ab, rn, none⟩ = some (.slice (some ⟨x.1, 0, none⟩) 6 x.2) ∧ ab < wr.heap.size) := ⟨hca, hab⟩
                      have HTK : Hid ((t.sets.take (q + 1)).foldl insA css = insA css' st) := htk
                      have HNA := hidOf hna
                      have rg : (rn : Int) < (gs.length : Int) := by omega
                      have jq : (q : Int) < (t.sets.length : Int) := by omega
                      have hl12 := HLN.out.2
                      have jc : q + 1 ≤ (tv j).ch := by have := HCJ.out; omega
                      have jc' : ((q : Int) + 1 ≤ ((tv j).ch : Int)) := by omega
                      have hwq : IntKind.i64.wrap ((q : Int) + 1) = (q : Int) + 1 := by rw [IntKind.wrap_i64]; omega
                      have hq1 : ((q : Int) + 1).toNat = q + 1 := by omega
                      rw [hna] at z5
                      clear hna hns hnt hmem hrn hsn hcs' hste hx hxs hcl hat hab hca bww hnt' htk hrl
                      go_wp2_with fail
                      have bD : Below wr.heap.size wr wr.drew := (Below.refl _ _).drew
                      have SF : Hid (∀ Y, Y.heap[sT]? = wr.heap[sT]? → Y.heap[nb]? = wr.heap[nb]? → Y.heap[ab]? = wr.heap[ab]? → (fun Y : World => Y.cell? ⟨sT, 5, none⟩ = some (.slice (some ⟨nb, no, none⟩) t.sets.length (tv j).ch) ∧ Y.cell? ⟨nb, no + q * 5, none⟩ = some (.int .i64 (rn : Int)) ∧ Y.cell? ⟨ab, rn, none⟩ = some (.slice (some ⟨x.1, 0, none⟩) 6 x.2)) Y) := fun Y e1 e2 e3 => by
                        refine ⟨?_, ?_, ?_⟩
                        · have := KR.out.2.1.1 5 _ rfl
                          rw [HNA.out] at this
                          exact (World.cell?_of_block (a := ⟨sT, 5, none⟩) e1).trans this
                        · have := HNT.out.1.c0
                          rw [HSS.out.1] at this
                          exact (World.cell?_of_block (a := ⟨nb, no + q * 5, none⟩) e2).trans this
                        · exact (World.cell?_of_block (a := ⟨ab, rn, none⟩) e3).trans HAB.out.1
                      have hS : (fun Y : World => Y.cell? ⟨sT, 5, none⟩ = some (.slice (some ⟨nb, no, none⟩) t.sets.length (tv j).ch) ∧ Y.cell? ⟨nb, no + q * 5, none⟩ = some (.int .i64 (rn : Int)) ∧ Y.cell? ⟨ab, rn, none⟩ = some (.slice (some ⟨x.1, 0, none⟩) 6 x.2)) wr.drew := SF.out _ (bD.block _ KR.out.2.1.2.2) (bD.block _ HNT.out.2) (bD.block _ HAB.out.2)
                      have BD := hidOf bD
                      clear bD
                      refine wp_region_z (fun _ => false) (fun Y : World => Y.cell? ⟨sT, 5, none⟩ = some (.slice (some ⟨nb, no, none⟩) t.sets.length (tv j).ch) ∧ Y.cell? ⟨nb, no + q * 5, none⟩ = some (.int .i64 (rn : Int)) ∧ Y.cell? ⟨ab, rn, none⟩ = some (.slice (some ⟨x.1, 0, none⟩) 6 x.2)) (by kernel_rfl) ?_
                      generalize wr.drew = XD at *
                      refine wpZ_take (i := 0) (v := ?_) rfl (by kernel_rfl) (fun _ _ _ h => h) (Or.inl ⟨by rfl, ?_⟩) hS ?_
                      rotate_left
                      · (intro Y hSw; go_simp; first | done | with_reducible rfl | rfl | (rw [if_pos (by omega)]))
                      simp only [Act.put]
                      refine wpZ_take (i := 1) (v := ?_) rfl (by kernel_rfl) (fun _ _ _ h => h) (Or.inl ⟨by rfl, ?_⟩) hS ?_
                      rotate_left
                      · (intro Y hSw; go_simp; first | done | with_reducible rfl | rfl | (rw [if_pos (by omega)]))
                      simp only [Act.put]
                      refine wpZ_take (i := 2) (v := ?_) rfl (by kernel_rfl) (fun _ _ _ h => h) (Or.inl ⟨by rfl, ?_⟩) hS ?_
                      rotate_left
                      · (intro Y hSw; obtain ⟨s1, s2, s3⟩ := hSw; go_simp; first | done | with_reducible rfl | rfl | (rw [if_pos (by omega)]))
                      simp only [Act.put]
                      refine wpZ_take (i := 3) (v := ?_) rfl (by kernel_rfl) (fun _ _ _ h => h) (Or.inl ⟨by rfl, ?_⟩) hS ?_
                      rotate_left
                      · (intro Y hSw; go_simp; first | done | with_reducible rfl | rfl | (rw [if_pos (by omega)]))
                      simp only [Act.put]
                      refine wpZ_take (i := 4) (v := ?_) rfl (by kernel_rfl) (fun _ _ _ h => h) (Or.inl ⟨by rfl, ?_⟩) hS ?_
                      rotate_left
                      · (intro Y hSw; go_simp; first | done | with_reducible rfl | rfl | (rw [if_pos (by omega)]))
                      simp only [Act.put]
                      refine wpZ_take (i := 5) (v := ?_) rfl (by kernel_rfl) (fun _ _ _ h => h) (Or.inl ⟨by rfl, ?_⟩) hS ?_
                      rotate_left
                      · (intro Y hSw; go_simp; first | done | with_reducible rfl | rfl | (rw [if_pos (by omega)]))
                      simp only [Act.put]
                      refine wpZ_take (i := 6) (v := ?_) rfl (by kernel_rfl) (fun _ _ _ h => h) (Or.inl ⟨by rfl, ?_⟩) hS ?_
                      rotate_left
                      · (intro Y hSw; obtain ⟨s1, s2, s3⟩ := hSw; go_simp; first | done | with_reducible rfl | rfl | (rw [if_pos (by omega)]))
                      simp only [Act.put]
                      refine wpZ_take (i := 7) (v := ?_) rfl (by kernel_rfl) (fun _ _ _ h => h) (Or.inl ⟨by rfl, ?_⟩) hS ?_
                      rotate_left
                      · (intro Y hSw; go_simp; first | done | with_reducible rfl | rfl | (rw [if_pos (by omega)]))
                      simp only [Act.put]
                      refine wpZ_take (i := 8) (v := ?_) rfl (by kernel_rfl) (fun _ _ _ h => h) (Or.inl ⟨by rfl, ?_⟩) hS ?_
                      rotate_left
                      · (intro Y hSw; obtain ⟨s1, s2, s3⟩ := hSw; go_simp; first | done | with_reducible rfl | rfl | (rw [if_pos (by omega)]))
                      simp only [Act.put]
                      refine wpZ_take (i := 9) (v := ?_) rfl (by kernel_rfl) (fun _ _ _ h => h) (Or.inl ⟨by rfl, ?_⟩) hS ?_
                      rotate_left
                      · (intro Y hSw; go_simp; first | done | with_reducible rfl | rfl | (rw [if_pos (by omega)]))
                      simp only [Act.put]
                      refine wpZ_take (i := 10) (v := ?_) rfl (by kernel_rfl) (fun _ _ _ h => h) (Or.inl ⟨by rfl, ?_⟩) hS ?_
                      rotate_left
                      · (intro Y hSw; obtain ⟨s1, s2, s3⟩ := hSw; go_simp; first | done | with_reducible rfl | rfl | (rw [if_pos (by omega)]))
                      simp only [Act.put]
                      refine wpZ_take (i := 11) (v := ?_) rfl (by kernel_rfl) (fun _ _ _ h => h) (Or.inl ⟨by rfl, ?_⟩) hS ?_
                      rotate_left
                      · (intro Y hSw; go_simp; first | done | with_reducible rfl | rfl | (rw [if_pos (by omega)]))
                      simp only [Act.put]
                      refine wpZ_take (i := 12) (v := ?_) rfl (by kernel_rfl) (fun _ _ _ h => h) (Or.inl ⟨by rfl, ?_⟩) hS ?_
                      rotate_left
                      · (intro Y hSw; go_simp; first | done | with_reducible rfl | rfl | (rw [if_pos (by omega)]))
                      simp only [Act.put]
                      refine wpZ_take (i := 13) (v := .int .i64 ((q : Int) + 1)) rfl (by kernel_rfl) (fun _ _ _ h => h) (Or.inl ⟨by rfl, ?_⟩) hS ?_
                      · (intro Y hSw; go_simp; first | done | (rw [hwq]))
                      simp only [Act.put]
                      refine wpZ_take (i := 14) (v := .slice (some ⟨nb, no + q * 5, none⟩) 1 ((tv j).ch - q)) rfl (by kernel_rfl) (fun _ _ _ h => h) (Or.inl ⟨by rfl, ?_⟩) hS ?_
                      · (intro Y hSw; go_simp; rw [if_pos (by omega), if_neg (by omega)])
                      simp only [Act.put]
                      refine wpZ_ready (rs := [15]) (by kernel_rfl) (by simp) ?_
                      refine AllZ.cons rfl (fun K hK => ?_) AllZ.nil
                      go_simp
                      refine (l3Install1_any XD x.1 x.2 nb (no + q * 5) ((tv j).ch - q) sn xs st (Nat.lt_of_lt_of_le HCL.out.2.2.2.1 BD.out.size) (HCL.out.1.below BD.out HCL.out.2.2.2.1) (by rw [HCL.out.2.2.1]; exact HCL.out.2.1.of_block (BD.out.block _ HCL.out.2.2.2.1)) HCL.out.2.2.1 (HNT.out.1.below BD.out HNT.out.2) HSS.out.2.1 HSS.out.2.2.1 HSS.out.2.2.2.1 HSS.out.2.2.2.2).mono ?_
                      rintro e W' ⟨⟨v, rfl⟩, htn, hcn, hrn⟩
                      have hgt := HGT.out rn x HXS.out.1
                      have hof : ∀ b, b < wr.heap.size → b ≠ x.1 → W'.heap[b]? = wr.heap[b]? := fun b hb hne => (htn.block b (Nat.lt_of_lt_of_le hb BD.out.size) hne).trans (BD.out.block b hb)
                      have e1 := hof sT KR.out.2.1.2.2 (by omega)
                      have e2 := hof nb HNT.out.2 (by have := HCL.out.2.2.2.2.1; omega)
                      have e3 := hof ab HAB.out.2 HCL.out.2.2.2.2.2
                      have hsz : wr.heap.size ≤ W'.heap.size := Nat.le_trans BD.out.size htn.size
                      have hWs := SF.out W' e1 e2 e3
                      have KN : Hid (All W' (w.heap.size + 1) (.slice (some ⟨ab, 0, none⟩) gs.length vc) gs ((t.sets.take (q + 1)).foldl insA css) ∧ Bx W' sT [.int .i64 t.id, .int .i64 t.home, .int .i64 t.phase, .int .i64 t.count, .slice (tv j).ar t.reads.length (tv j).cr, .slice (tv j).ah t.sets.length (tv j).ch, .int .i64 t.stamp] ∧ AtX W' lb 0 (ordX k tv k.txs.length) ∧ lb < W'.heap.size ∧ Below U.heap.size U W') := by
                        refine ⟨?_, KR.out.2.1.of_block e1 hsz, ?_, Nat.lt_of_lt_of_le KR.out.2.2.2.1 hsz, ?_⟩
                        · rw [HTK.out]
                          have h6 := HCL.out.2.2.1
                          have := (KR.out.1.later BD.out).put HXS.out.1 htn (by rw [insC_len]; exact h6) hcn (by rw [h6] at hrn; exact hrn)
                          rw [insA, HSS.out.1, Int.toNat_natCast, HXS.out.2]
                          exact this
                        · exact fun i y hy t u hu => (World.cell?_of_block (a := ⟨lb, _, none⟩) (hof lb KR.out.2.2.2.1 (by omega))).trans (KR.out.2.2.1 i y hy t u hu)
                        · have hsu := SU.out
                          have hxb := HCL.out.2.2.2.2.1
                          have b1 := bstep KR.out.2.2.2.2 BD.out
                          exact b1.trans (htn.below (by omega) b1.size)
                      clear e1 e2 e3 hof hgt htn hcn hrn hsz
                      refine hK.out _ _ (fun _ => hWs) ?_
                      clear hK K hWs
                      refine wpZ_done (by kernel_rfl) ?_ _
                      go_wp2
                      exact ⟨⟨q + 1, by omega, by simp, KN.out⟩, by simp [intOf]; omega⟩
                    · obtain rfl : q = t.sets.length := by omega
                      have hd : decide ((t.sets.length : Int) < (t.sets.length : Int)) = false := by simp
                      have KF : Hid (All wr (w.heap.size + 1) (.slice (some ⟨ab, 0, none⟩) gs.length vc) gs (t.sets.foldl insA css) ∧ AtX wr lb 0 (ordX k tv k.txs.length) ∧ lb < wr.heap.size ∧ Below U.heap.size U wr) := ⟨by have := KR.out.1; rwa [List.take_length] at this, KR.out.2.2⟩
                      clear KR
                      have h60 := HJS.out.2.2.1
                      go_wp2
                      exact ⟨⟨i + 1, _, by omega, by simp, KF.out.1, HRB.out, KF.out.2.1, KF.out.2.2.1, KF.out.2.2.2⟩, by simp [intOf]; omega⟩
        · obtain rfl : i = js.length := by omega
          have hd : decide ((js.length : Int) < (js.length : Int)) = false := by simp
          have HE : Hid (rep0 k = (css, true)) := by unfold Hid; rw [← KI.out.2.1, List.drop_length]; rfl
          go_wp2
          refine bodyPost_ret (v := .tuple #[.slice (some ⟨ab, 0, none⟩) gs.length vc, .bool true]) (by simp [results, Tryz.results41, go_sem]) rfl ?_
          unfold RAnsP
          rw [HE.out]
          exact ⟨_, gs, rfl, KI.out.1.up (by omega), bstep BU.out KI.out.2.2.2.2⟩
end Go.Proofs.YtdmpobegobfpjaaGreat