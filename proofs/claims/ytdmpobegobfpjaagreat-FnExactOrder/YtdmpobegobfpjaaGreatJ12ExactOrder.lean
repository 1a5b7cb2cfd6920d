/- PlacesI1; PlacesIa; CluI7; OrI; SeS1; InsS; NewCs; RpD; FindT; YSofD; YPilM; YPilC; YPilN; HeapP; YLftN; YSnkN; YTakN; YInoN; YPutN; YPOfN; YPilS; YLftS; YSnkS; YTakS; YInoS; YPutS; YPOfS; YChkS; RpS; CapT; SerS; KdC; CelD; FinS; Six; Opens; OpenCells: joined. -/
import Derived.Test.YtdmpobegobfpjaaGreatRows
import Derived.Test.YtdmpobegobfpjaaGreatJ7ExactOrder
import Derived.WalkKit
import Derived.WalkSpells
import Derived.WalkLawsBesides
import Derived.Below
import Derived.BigQuiet
import Derived.Deep.QuietTactic
import Derived.Test.YtdmpobegobfpjaaGreatJ11ExactOrder
import Derived.Test.YtdmpobegobfpjaaGreatJ9ExactOrder
import Derived.Lib.QuietBelow
import Derived.Deep.CutRange
import Derived.Test.YtdmpobegobfpjaaGreatJ10ExactOrder
import Derived.LaidEql
import Derived.RowKitTokens
import Derived.Test.YtdmpobegobfpjaaGreatJ2ExactOrder
import Derived.Test.YtdmpobegobfpjaaGreatJ0ExactOrder
import Derived.Laws.StructEq
import Derived.Test.YtdmpobegobfpjaaGreatJ6ExactOrder
import Derived.Deep.Upon
import Derived.Deep.RegionWith
import Derived.Deep.Heap
import Derived.Deep.AppendLies
import Derived.RangeFuncBox
import Derived.Test.YtdmpobegobfpjaaGreatJ8ExactOrder
import Derived.Maps.OwnSet
import Derived.Maps.Views
import Derived.DeepKeys4
import Derived.Test.YtdmpobegobfpjaaGreatJ5ExactOrder
import Derived.Test.YtdmpobegobfpjaaGreatJ3ExactOrder
import Derived.ProofKit
import Derived.OpenShut
import Derived.Deep.Slices
import Derived.Lib.SmallJoins
namespace Go.Proofs.YtdmpobegobfpjaaGreat
open Go.RowKit
theorem implMachine (w : World) (x : Int) : Calls Tryz.prog 159 #[.int .i64 x] w fun e w' => e = .returned (.bool (inB 0 7 x)) ∧ w' = w := by
  by_cases h0 : 0 ≤ x
  · by_cases h8 : x < 8
    · rw [inB_yes (by omega) (by omega)]
      go_enter Tryz.func159, Tryz.ntmps159
      go_wp2
      go_ret
      exact ⟨rfl, rfl⟩
    · have hd : decide (x < 8) = false := by simp; omega
      have hb : inB 0 7 x = false := by cases h : inB 0 7 x with | false => rfl | true => rw [inB_iff] at h; omega
      rw [hb]
      go_enter Tryz.func159, Tryz.ntmps159
      go_wp2
      go_ret
      exact ⟨rfl, rfl⟩
  · have hd : decide (0 ≤ x) = false := by simp; omega
    have hb : inB 0 7 x = false := by cases h : inB 0 7 x with | false => rfl | true => rw [inB_iff] at h; omega
    rw [hb]
    go_enter Tryz.func159, Tryz.ntmps159
    go_wp2
    go_ret
    exact ⟨rfl, rfl⟩
set_option maxHeartbeats 1000000 in
theorem index_any (w : World) (a : Option Addr) (n cap : Nat) (z : Int) (zs : List Int) (hn : n ≤ maxLen) (hs : SlN w w.heap.size a n zs) :
    Calls Tryz.prog 194 #[.slice a n cap, .int .i64 z] w fun e w' => (∃ i : Int, e = .returned (.int .i64 i) ∧ decide (0 ≤ i) = hasB zs z) ∧ w' = w := by
  unfold maxLen at hn
  obtain ⟨hx, hs⟩ := hs
  go_enter Tryz.func194, Tryz.ntmps194
  go_wp2
  go_loop [8] (fun v => ∃ k : Nat, k ≤ n ∧ v = .int .i64 k ∧ ∀ i, i < k → atN zs i ≠ z) (fun v => n - (intOf v).toNat)
  case atStart => exact ⟨0, Nat.zero_le _, rfl, fun i h => absurd h (by omega)⟩
  case round =>
    obtain ⟨k, hk, rfl, hall⟩ := hrel
    have K : Hid ((∀ i, i < k → atN zs i ≠ z) ∧ zs.length = n) := ⟨hall, hx⟩
    by_cases hlt : k < n
    · rcases hs with hs | ⟨b, off, rfl, hb, h1⟩
      · omega
      · have c := h1 k _ (atN_of (by omega))
        clear h1 hall hx
        by_cases he : atN zs k = z
        · have q : (z == atN zs k) = true := by simp [he]
          have HE : Hid (atN zs k = z) := he
          clear he
          go_wp2
          go_ret
          exact ⟨⟨_, rfl, by rw [has_yes (by rw [K.out.2]; exact hlt) HE.out]; simp⟩, rfl⟩
        · have q : (z == atN zs k) = false := by simp; exact fun h => he h.symm
          have HE : Hid (atN zs k ≠ z) := he
          clear he
          go_wp2
          refine ⟨⟨k + 1, by omega, by simp, fun i hi => ?_⟩, by simp [intOf]; omega⟩
          by_cases e : i = k
          · rw [e]; exact HE.out
          · exact K.out.1 i (by omega)
    · have : k = n := by omega
      subst this
      have hd : decide ((k : Int) < (k : Int)) = false := by simp
      clear hall hx hs
      go_wp2
      go_ret
      exact ⟨⟨_, rfl, by rw [has_no (by rw [K.out.2]; exact K.out.1)]; rfl⟩, rfl⟩
theorem contains_any (w : World) (a : Option Addr) (n cap : Nat) (z : Int) (zs : List Int) (hn : n ≤ maxLen) (hs : SlN w w.heap.size a n zs) :
    Calls Tryz.prog 160 #[.slice a n cap, .int .i64 z] w fun e w' => e = .returned (.bool (hasB zs z)) ∧ w' = w := by
  have hi := index_any w a n cap z zs hn hs
  clear hs
  go_enter Tryz.func160, Tryz.ntmps160
  go_wp2_with fail
  refine hi.mono ?_
  clear hi
  rintro e w1 ⟨⟨i, rfl, hb⟩, rfl⟩
  go_wp2
  go_ret
  exact ⟨rfl, rfl⟩
set_option maxHeartbeats 4000000 in
theorem placeOk_any (w : World) (a : Option Addr) (cap : Nat) (zs : List Int) (hs : SlN w w.heap.size a zs.length zs) (hcp : zs.length ≤ cap) :
    Calls Tryz.prog 115 #[.agg #[.slice a zs.length cap]] w fun e w' => e = .returned (.bool (placeB zs)) ∧ Below w.heap.size w w' := by
  have b0 : Below w.heap.size w (w.alloc (.cells #[.slice a zs.length cap] 100)) := (Below.refl _ _).alloc (Nat.le_refl _) _
  by_cases h3 : zs.length < 1 ∨ 3 < zs.length
  · have hpf : placeB zs = false := by
      rcases h3 with h | h
      · simp [placeB, show ¬ 1 ≤ zs.length by omega]
      · simp [placeB, show ¬ zs.length ≤ 3 by omega]
    rw [hpf]
    rcases h3 with h | h
    · have d3 : decide ((zs.length : Int) < 1) = true := by simp; omega
      go_enter Tryz.func115, Tryz.ntmps115
      go_wp2
      go_ret
      exact ⟨rfl, b0⟩
    · have d3 : decide ((zs.length : Int) < 1) = false := by simp; omega
      have d4 : decide ((3 : Int) < (zs.length : Int)) = true := by simp; omega
      go_enter Tryz.func115, Tryz.ntmps115
      go_wp2
      go_ret
      exact ⟨rfl, b0⟩
  · have d3 : decide ((zs.length : Int) < 1) = false := by simp; omega
    have d4 : decide ((3 : Int) < (zs.length : Int)) = false := by simp; omega
    have HG : Hid (placeB zs = (List.range zs.length).all (goodAt zs)) := by unfold Hid; simp [placeB, show 1 ≤ zs.length by omega, show zs.length ≤ 3 by omega]
    have KS : Hid (SlN w w.heap.size a zs.length zs) := hs
    have KB : Hid (Below w.heap.size w (w.alloc (.cells #[.slice a zs.length cap] 100))) := b0
    clear hs b0
    go_enter Tryz.func115, Tryz.ntmps115
    go_wp2
    go_loopw [18] (fun v18 wr => ∃ k : Nat, k ≤ zs.length ∧ v18 = .int .i64 k ∧ Below (w.heap.size + 1) (w.alloc (.cells #[.slice a zs.length cap] 100)) wr ∧ (List.range k).all (goodAt zs) = true) (fun v18 _ => zs.length - (intOf v18).toNat)
    case atStart => exact ⟨0, Nat.zero_le _, rfl, Below.refl _ _, rfl⟩
    case round =>
      obtain ⟨k, hk, rfl, hbq, hgk⟩ := hrel
      have hbw : Below w.heap.size w wr := KB.out.trans (hbq.mono (by omega))
      by_cases hkl : k < zs.length
      · obtain ⟨_, hsn⟩ := KS.out
        rcases hsn with hsn | ⟨b', off', rfl, hb', h2⟩
        · omega
        · have cp : wr.cell? ⟨w.heap.size, 0, none⟩ = some (.slice (some ⟨b', off', none⟩) zs.length cap) := (hbq.cell (p := ⟨w.heap.size, 0, none⟩) (by simp)).trans (by go_simp)
          have ck := (hbw.cell (p := ⟨b', off' + k, none⟩) hb').trans (h2 k _ (atN_of hkl))
          have hst : SlN wr wr.heap.size (some ⟨b', off', none⟩) k (zs.take k) := ⟨by rw [List.length_take]; omega, .inr ⟨b', off', rfl, Nat.lt_of_lt_of_le hb' hbw.size, fun i z e => by
            rw [List.getElem?_take] at e
            split at e
            · exact (h2.below hbw hb') i z e
            · cases e⟩⟩
          have KQ : Hid (Below (w.heap.size + 1) (w.alloc (.cells #[.slice (some ⟨b', off', none⟩) zs.length cap] 100)) wr ∧ (List.range k).all (goodAt zs) = true ∧ Below w.heap.size w wr) := ⟨hbq, hgk, hbw⟩
          have hkm : k ≤ maxLen := by unfold maxLen; omega
          have cH : Calls Tryz.prog 160 #[.slice (some ⟨b', off', none⟩) k cap, .int .i64 (atN zs k)] wr fun e w'' => e = .returned (.bool (hasB (zs.take k) (atN zs k))) ∧ w'' = wr := contains_any wr _ k cap (atN zs k) (zs.take k) hkm hst
          have cM := implMachine wr (atN zs k)
          have HK : Hid (goodAt zs k = (inB 0 7 (atN zs k) && !hasB (zs.take k) (atN zs k))) := rfl
          have hkc : k ≤ cap := by omega
          clear h2 hbq hgk hst hbw
          generalize atN zs k = z at *
          cases g1 : inB 0 7 z with
          | false =>
            rw [g1] at cM
            have hgf : goodAt zs k = false := by rw [HK.out, g1]; rfl
            go_wp2_with fail
            refine cM.mono ?_
            clear cM cH
            rintro e wr ⟨rfl, rfl⟩
            go_wp2
            go_ret
            exact ⟨by rw [HG.out, all_off hkl hgf]; rfl, KQ.out.2.2⟩
          | true =>
            rw [g1] at cM
            cases g2 : hasB (zs.take k) z with
            | true =>
              rw [g2] at cH
              have hgf : goodAt zs k = false := by rw [HK.out, g1, g2]; rfl
              go_wp2_with fail
              refine cM.mono ?_
              clear cM
              rintro e wr ⟨rfl, rfl⟩
              go_wp2_with fail
              refine cH.mono ?_
              clear cH
              rintro e wr ⟨rfl, rfl⟩
              go_wp2
              go_ret
              exact ⟨by rw [HG.out, all_off hkl hgf]; rfl, KQ.out.2.2⟩
            | false =>
              rw [g2] at cH
              have hgt : goodAt zs k = true := by rw [HK.out, g1, g2]; rfl
              go_wp2_with fail
              refine cM.mono ?_
              clear cM
              rintro e wr ⟨rfl, rfl⟩
              go_wp2_with fail
              refine cH.mono ?_
              clear cH
              rintro e wr ⟨rfl, rfl⟩
              go_wp2
              exact ⟨⟨k + 1, by omega, by simp, KQ.out.1, all_on KQ.out.2.1 hgt⟩, by simp [intOf]; omega⟩
      · have : k = zs.length := by omega
        subst this
        have hd : decide ((zs.length : Int) < (zs.length : Int)) = false := by simp
        go_wp2
        go_ret
        exact ⟨by rw [HG.out, hgk]; rfl, hbw⟩
theorem wrong_any (w : World) (a : Option Addr) (cap : Nat) (zs : List Int) (hs : SlN w w.heap.size a zs.length zs) (hcp : zs.length ≤ cap) :
    Calls Tryz.prog 114 #[.agg #[.slice a zs.length cap]] w fun e w' => e = .returned (.bool (!placeB zs)) ∧ Below w.heap.size w w' := by
  have b0 : Below w.heap.size w (w.alloc (.cells #[.slice a zs.length cap] 100)) := (Below.refl _ _).alloc (Nat.le_refl _) _
  have hc := placeOk_any (w.alloc (.cells #[.slice a zs.length cap] 100)) a cap zs (hs.later b0) hcp
  have B0 : Hid (Below w.heap.size w (w.alloc (.cells #[.slice a zs.length cap] 100))) := b0
  clear hs b0
  generalize placeB zs = V at *
  generalize zs.length = n at *
  go_enter Tryz.func114, Tryz.ntmps114
  go_wp2_with fail
  refine hc.mono ?_
  clear hc
  rintro e w1 ⟨rfl, b1⟩
  go_wp2
  go_ret
  exact ⟨rfl, B0.out.trans (b1.mono (by simp))⟩
set_option maxHeartbeats 2000000 in
theorem indexFunc_any (w : World) (a : Option Addr) (n cap : Nat) (zss : List (List Int)) (hn : n ≤ maxLen) (hs : SlP w w.heap.size a n zss) :
    Calls Tryz.prog 161 #[.slice a n cap, .func (.func 114) #[] #[]] w fun e w' => (∃ i : Int, e = .returned (.int .i64 i) ∧ decide (0 ≤ i) = !((List.range n).all fun i => placeB (atP zss i))) ∧ Below w.heap.size w w' := by
  unfold maxLen at hn
  obtain ⟨hx, hs⟩ := hs
  go_enter Tryz.func161, Tryz.ntmps161
  go_wp2
  go_loopw [8] (fun v wr => ∃ j : Nat, j ≤ n ∧ v = .int .i64 j ∧ Below w.heap.size w wr ∧ (List.range j).all (fun i => placeB (atP zss i)) = true) (fun v _ => n - (intOf v).toNat)
  case atStart => exact ⟨0, Nat.zero_le _, rfl, Below.refl _ _, rfl⟩
  case round =>
    obtain ⟨j, hj, rfl, hbl, hall⟩ := hrel
    by_cases hlt : j < n
    · rcases hs with hs | ⟨b, off, rfl, hb, h1⟩
      · omega
      · obtain ⟨a', cap', hc, hsl, hcp⟩ := h1 j _ (atP_of (by omega))
        have c := (hbl.cell (p := ⟨b, off + j, none⟩) hb).trans hc
        have KA : Hid ((List.range j).all (fun i => placeB (atP zss i)) = true ∧ Below w.heap.size w wr) := ⟨hall, hbl⟩
        have hw := wrong_any wr a' cap' (atP zss j) ((hsl.below hbl).mono hbl.size) hcp
        have HF : Hid (placeB (atP zss j) = false → ((List.range n).all fun i => placeB (atP zss i)) = false) := fun h => all_off hlt h
        have HT : Hid (placeB (atP zss j) = true → ((List.range (j + 1)).all fun i => placeB (atP zss i)) = true) := fun h => all_on hall h
        clear h1 hc hall hsl hbl hcp
        generalize (atP zss j).length = m at *
        cases hp : placeB (atP zss j) with
        | false =>
          rw [hp] at hw
          go_wp2_with fail
          refine hw.mono ?_
          clear hw
          rintro e w1 ⟨rfl, b1⟩
          go_wp2
          go_ret
          exact ⟨⟨_, rfl, by rw [HF.out hp]; simp⟩, KA.out.2.trans (b1.mono KA.out.2.size)⟩
        | true =>
          rw [hp] at hw
          go_wp2_with fail
          refine hw.mono ?_
          clear hw
          rintro e w1 ⟨rfl, b1⟩
          go_wp2
          exact ⟨⟨j + 1, by omega, by simp, KA.out.2.trans (b1.mono KA.out.2.size), HT.out hp⟩, by simp [intOf]; omega⟩
    · have : j = n := by omega
      subst this
      have hd : decide ((j : Int) < (j : Int)) = false := by simp
      clear hs
      go_wp2
      go_ret
      exact ⟨⟨_, rfl, by rw [hall]; rfl⟩, hbl⟩
theorem containsFunc_any (w : World) (a : Option Addr) (n cap : Nat) (zss : List (List Int)) (hn : n ≤ maxLen) (hs : SlP w w.heap.size a n zss) :
    Calls Tryz.prog 116 #[.slice a n cap, .func (.func 114) #[] #[]] w fun e w' => e = .returned (.bool (!((List.range n).all fun i => placeB (atP zss i)))) ∧ Below w.heap.size w w' := by
  have hi := indexFunc_any w a n cap zss hn hs
  clear hs
  generalize (!((List.range n).all fun i => placeB (atP zss i))) = V at *
  go_enter Tryz.func116, Tryz.ntmps116
  go_wp2_with fail
  refine hi.mono ?_
  clear hi
  rintro e w1 ⟨⟨i, rfl, hb⟩, b1⟩
  go_wp2
  go_ret
  exact ⟨rfl, b1⟩
set_option maxHeartbeats 1000000 in
theorem implPlacesOk_any (w : World) (a : Option Addr) (n cap : Nat) (zss : List (List Int)) (hn : n ≤ maxLen) (hs : SlP w w.heap.size a n zss) :
    Calls Tryz.prog 65 #[.slice a n cap] w fun e w' => e = .returned (.bool (placesB zss)) ∧ Below w.heap.size w w' := by
  have hx := hs.1
  have hc := containsFunc_any w a n cap zss hn hs
  unfold maxLen at hn
  by_cases h1 : 1 ≤ n
  · by_cases h6 : n ≤ 6
    · have d1 : (1 : Int) ≤ (n : Int) := by omega
      have d6 : (n : Int) ≤ 6 := by omega
      have hV : placesB zss = ((List.range n).all fun i => placeB (atP zss i)) := by simp [placesB, hx, h1, h6]
      rw [hV]
      generalize ((List.range n).all fun i => placeB (atP zss i)) = V at *
      clear hs hV
      go_enter Tryz.func65, Tryz.ntmps65
      go_wp2_with fail
      refine hc.mono ?_
      clear hc
      rintro e w1 ⟨rfl, b1⟩
      go_wp2
      go_ret
      exact ⟨by simp, b1⟩
    · have d1 : (1 : Int) ≤ (n : Int) := by omega
      have d6 : decide ((n : Int) ≤ 6) = false := by simp; omega
      have hV : placesB zss = false := by simp [placesB, hx, h6]
      rw [hV]
      clear hs hV hc
      go_enter Tryz.func65, Tryz.ntmps65
      go_wp2
      go_ret
      exact ⟨rfl, Below.refl _ _⟩
  · obtain rfl : n = 0 := by omega
    have hV : placesB zss = false := by simp [placesB, hx]
    rw [hV]
    clear hs hV hc
    go_enter Tryz.func65, Tryz.ntmps65
    go_wp2
    go_ret
    exact ⟨rfl, Below.refl _ _⟩
end Go.Proofs.YtdmpobegobfpjaaGreat
namespace Go.Proofs.YtdmpobegobfpjaaGreat
open Go.RowKit
open Go.Sort (grow)
set_option maxHeartbeats 1000000 in
theorem isConfig_any (w : World) (x : Int) : Calls Tryz.prog 62 #[.int .i64 x] w fun e w' => e = .returned (.bool (inB 1 1000000 x)) ∧ w' = w := by
  have hc := tx.implId w x
  go_enter Tryz.func62, Tryz.ntmps62
  go_wp2_with fail
  refine hc.mono ?_
  clear hc
  rintro e w1 ⟨rfl, rfl⟩
  go_wp2
  go_ret
  exact ⟨rfl, rfl⟩
theorem clusterB_eq (k : C6) : clusterB k = (inB 1 1000000 k.config && (inB 0 1000000 k.clock && ((decide (1 ≤ k.machines.length) && decide (k.machines.length ≤ 8) && machsB k.machines) && (placesB k.places && (placedB k.places k.machines && (decide (k.txs.length ≤ 60) && txsB k)))))) := by
  unfold clusterB
  ac_rfl
set_option maxRecDepth 100000 in
set_option maxHeartbeats 4000000 in
theorem implClusterOk_any (w : World) (a1 : Option Addr) (c1 : Nat) (a2 : Option Addr) (c2 : Nat) (a3 : Option Addr) (c3 : Nat) (k : C6) (hl : KCl.L k) (h : KCl.Rd w a1 c1 a2 c2 a3 c3 k) : Calls Tryz.prog 33 #[.agg #[.int .i64 k.config, .int .i64 k.clock, .slice a1 k.places.length c1, .slice a2 k.machines.length c2, .slice a3 k.txs.length c3, .bool k.lost]] w fun e w' => e = .returned (.bool (clusterB k)) ∧ Below w.heap.size w w' := by
  obtain ⟨U, hU⟩ : ∃ Y, Y = w.alloc (.cells #[.int .i64 k.config, .int .i64 k.clock, .slice a1 k.places.length c1, .slice a2 k.machines.length c2, .slice a3 k.txs.length c3, .bool k.lost] 34) := ⟨_, rfl⟩
  have b0 : Below w.heap.size w U := by rw [hU]; exact (Below.refl _ _).alloc (Nat.le_refl _) _
  have FA : Hid (Bx U w.heap.size [.int .i64 k.config, .int .i64 k.clock, .slice a1 k.places.length c1, .slice a2 k.machines.length c2, .slice a3 k.txs.length c3, .bool k.lost]) := by unfold Hid; rw [hU]; exact Bx.made w [.int .i64 k.config, .int .i64 k.clock, .slice a1 k.places.length c1, .slice a2 k.machines.length c2, .slice a3 k.txs.length c3, .bool k.lost] _
  have HR : Hid (KCl.Rd U a1 c1 a2 c2 a3 c3 k ∧ KCl.L k ∧ Below w.heap.size w U) := ⟨h.later b0, hl, b0⟩
  have HC : Hid (clusterB k = (inB 1 1000000 k.config && (inB 0 1000000 k.clock && ((decide (1 ≤ k.machines.length) && decide (k.machines.length ≤ 8) && machsB k.machines) && (placesB k.places && (placedB k.places k.machines && (decide (k.txs.length ≤ 60) && txsB k))))))) := clusterB_eq k
  have hc := isConfig_any U k.config
  clear b0 h hl
  go_enter Tryz.func33, Tryz.ntmps33
  go_wp2_with fail
  rw [← hU]
  clear hU
  refine hc.mono ?_
  clear hc
  rintro e w1 ⟨rfl, rfl⟩
  generalize w1 = U at *
  cases g1 : inB 1 1000000 k.config with
  | false =>
    have hb : Hid (clusterB k = false) := by unfold Hid; rw [HC.out, g1]; rfl
    go_wp2
    go_ret
    exact ⟨by rw [hb.out]; rfl, HR.out.2.2⟩
  | true =>
  have p1 := FA.out.1 1 _ rfl
  have hc := tx.implStamp U k.clock
  go_wp2_with fail
  refine hc.mono ?_
  clear hc p1
  rintro e w1 ⟨rfl, rfl⟩
  generalize w1 = U at *
  cases g2 : inB 0 1000000 k.clock with
  | false =>
    have hb : Hid (clusterB k = false) := by unfold Hid; rw [HC.out, g2]; simp
    go_wp2
    go_ret
    exact ⟨by rw [hb.out]; rfl, HR.out.2.2⟩
  | true =>
  have p3 := FA.out.1 3 _ rfl
  have hc := machinesOk_any U a2 c2 k.machines HR.out.2.1.m HR.out.2.1.ms HR.out.1.m
  go_wp2_with fail
  refine hc.mono ?_
  clear hc p3
  rintro e w1 ⟨rfl, b1⟩
  have B1 := hidOf b1
  clear b1
  cases g3 : (decide (1 ≤ k.machines.length) && decide (k.machines.length ≤ 8) && machsB k.machines) with
  | false =>
    have hb : Hid (clusterB k = false) := by unfold Hid; rw [HC.out, g3]; simp
    go_wp2
    go_ret
    exact ⟨by rw [hb.out]; rfl, bstep HR.out.2.2 B1.out⟩
  | true =>
  have p2 := (FA.out.later B1.out).1 2 _ rfl
  have hc := implPlacesOk_any w1 a1 k.places.length c1 k.places HR.out.2.1.p (HR.out.1.p.later B1.out)
  go_wp2_with fail
  refine hc.mono ?_
  clear hc p2
  rintro e w2 ⟨rfl, b2⟩
  have B2 : Hid (Below U.heap.size U w2) := bstep B1.out b2
  clear b2 B1
  generalize w1 = wA at *
  cases g4 : placesB k.places with
  | false =>
    have hb : Hid (clusterB k = false) := by unfold Hid; rw [HC.out, g4]; simp
    go_wp2
    go_ret
    exact ⟨by rw [hb.out]; rfl, bstep HR.out.2.2 B2.out⟩
  | true =>
  have HC2 : Hid (clusterB k = (placedB k.places k.machines && (decide (k.txs.length ≤ 60) && txsB k))) := by unfold Hid; rw [HC.out, g1, g2, g3, g4]; rfl
  have HG : Hid (k.machines.length ≤ 8 ∧ machsB k.machines = true ∧ placesB k.places = true) := by
    simp only [Bool.and_eq_true, decide_eq_true_eq] at g3
    exact ⟨g3.1.2, g3.2, g4⟩
  clear g1 g2 g3 g4 HC
  have SF : Hid (∀ X, Below U.heap.size U X → (fun X : World => Bx X w.heap.size [.int .i64 k.config, .int .i64 k.clock, .slice a1 k.places.length c1, .slice a2 k.machines.length c2, .slice a3 k.txs.length c3, .bool k.lost]) X) := fun X hX => FA.out.later hX
  go_wp2_with fail
  have bd : Below U.heap.size U w2.drew := B2.out.drew
  have hS := SF.out _ bd
  refine wp_region_z (fun z => z == 10) (fun X : World => Bx X w.heap.size [.int .i64 k.config, .int .i64 k.clock, .slice a1 k.places.length c1, .slice a2 k.machines.length c2, .slice a3 k.txs.length c3, .bool k.lost]) (by kernel_rfl) ?_
  generalize w2.drew = Wd at *
  refine wpZ_takeP (i := 0) (v := ?_) rfl (by kernel_rfl) (fun _ _ _ h => h) (Or.inl ⟨by rfl, ?_⟩) hS ?_
  rotate_left
  · (intro X _; go_simp; first | done | with_reducible rfl)
  simp only [Act.put]
  refine wpZ_take (i := 1) (v := ?_) rfl (by kernel_rfl) (fun _ _ _ h => h) (Or.inl ⟨by rfl, ?_⟩) hS ?_
  rotate_left
  · (intro X hSw; have c0 := hSw.1 0 _ rfl; have c1 := hSw.1 1 _ rfl; have c2 := hSw.1 2 _ rfl; have c3 := hSw.1 3 _ rfl; have c4 := hSw.1 4 _ rfl; have c5 := hSw.1 5 _ rfl; go_simp; first | done | with_reducible rfl)
  simp only [Act.put]
  refine wpZ_takeP (i := 2) (v := ?_) rfl (by kernel_rfl) (fun _ _ _ h => h) (Or.inl ⟨by rfl, ?_⟩) hS ?_
  rotate_left
  · (intro X _; go_simp; first | done | with_reducible rfl)
  simp only [Act.put]
  refine wpZ_take (i := 3) (v := ?_) rfl (by kernel_rfl) (fun _ _ _ h => h) (Or.inl ⟨by rfl, ?_⟩) hS ?_
  rotate_left
  · (intro X hSw; have c0 := hSw.1 0 _ rfl; have c1 := hSw.1 1 _ rfl; have c2 := hSw.1 2 _ rfl; have c3 := hSw.1 3 _ rfl; have c4 := hSw.1 4 _ rfl; have c5 := hSw.1 5 _ rfl; go_simp; first | done | with_reducible rfl)
  simp only [Act.put]
  refine wpZ_ready (rs := [4]) (by kernel_rfl) (by simp) ?_
  refine AllZ.cons rfl (fun K hK => ?_) AllZ.nil
  go_simp
  refine (membersOf_any Wd a2 c2 k.machines HG.out.1 (HR.out.1.m.later bd)).mono ?_
  rintro e X1 ⟨rfl, hma, hsz, b1⟩
  have bX := bstep bd b1
  refine hK.out _ _ (fun _ => SF.out _ bX) ?_
  clear hK K
  have hS := SF.out _ bX
  refine wpZ_ready (rs := [5]) (by kernel_rfl) (by simp) ?_
  refine AllZ.cons rfl (fun K hK => ?_) AllZ.nil
  go_simp
  refine (placed_any Wd X1 a1 c1 Wd.heap.size k.places k.machines HR.out.2.1.ms HG.out.2.1 HG.out.2.2 HR.out.2.1.p HR.out.2.1.ps b1 hsz hma (HR.out.1.p.later bX)).mono ?_
  rintro e X2 ⟨rfl, b2⟩
  have bY := bstep bX b2
  refine hK.out _ _ (fun _ => SF.out _ bY) ?_
  clear hK K
  have hS := SF.out _ bY
  cases g5 : placedB k.places k.machines with
  | false =>
    have hb : Hid (clusterB k = false) := by unfold Hid; rw [HC2.out, g5]; rfl
    refine wpZ_takeP (i := 6) (v := ?_) rfl (by kernel_rfl) (fun _ _ _ h => h) (Or.inl ⟨by rfl, ?_⟩) hS ?_
    rotate_left
    · (intro X _; go_simp; first | done | with_reducible rfl)
    simp only [Act.put]
    refine wpZ_takeP (i := 7) (v := undef) rfl (by kernel_rfl) (fun _ _ _ h => h) (Or.inr ⟨by rfl, rfl⟩) hS ?_
    simp only [Act.put]
    refine wpZ_takeP (i := 8) (v := undef) rfl (by kernel_rfl) (fun _ _ _ h => h) (Or.inr ⟨by rfl, rfl⟩) hS ?_
    simp only [Act.put]
    refine wpZ_takeP (i := 9) (v := ?_) rfl (by kernel_rfl) (fun _ _ _ h => h) (Or.inl ⟨by rfl, ?_⟩) hS ?_
    rotate_left
    · (intro X _; go_simp; first | done | with_reducible rfl)
    simp only [Act.put]
    refine wpZ_ready (rs := [10]) (by kernel_rfl) (by simp) ?_
    refine AllZ.cons rfl (fun K hK => ?_) AllZ.nil
    go_simp
    refine hK.out _ _ (fun h => absurd (show false = true from h.symm.trans (by kernel_rfl)) (by decide)) ?_
    clear hK K
    refine wpZ_done (by kernel_rfl) ?_ _
    go_wp2
    go_ret
    exact ⟨by rw [hb.out]; rfl, bstep HR.out.2.2 bY⟩
  | true =>
    have hb : Hid (clusterB k = (decide (k.txs.length ≤ 60) && txsB k)) := by unfold Hid; rw [HC2.out, g5]; rfl
    refine wpZ_takeP (i := 6) (v := ?_) rfl (by kernel_rfl) (fun _ _ _ h => h) (Or.inl ⟨by rfl, ?_⟩) hS ?_
    rotate_left
    · (intro X _; go_simp; first | done | with_reducible rfl)
    simp only [Act.put]
    refine wpZ_take (i := 7) (v := ?_) rfl (by kernel_rfl) (fun _ _ _ h => h) (Or.inl ⟨by rfl, ?_⟩) hS ?_
    rotate_left
    · (intro X hSw; have c0 := hSw.1 0 _ rfl; have c1 := hSw.1 1 _ rfl; have c2 := hSw.1 2 _ rfl; have c3 := hSw.1 3 _ rfl; have c4 := hSw.1 4 _ rfl; have c5 := hSw.1 5 _ rfl; go_simp; first | done | with_reducible rfl)
    simp only [Act.put]
    refine wpZ_ready (rs := [8]) (by kernel_rfl) (by simp) ?_
    refine AllZ.cons rfl (fun K hK => ?_) AllZ.nil
    go_simp
    refine (txsFit_any X2 a1 c1 a2 c2 a3 c3 k HR.out.2.1 (HR.out.1.later bY)).mono ?_
    rintro e X3 ⟨rfl, b3⟩
    have bZ := bstep bY b3
    refine hK.out _ _ (fun _ => SF.out _ bZ) ?_
    clear hK K
    have hS := SF.out _ bZ
    refine wpZ_takeP (i := 9) (v := ?_) rfl (by kernel_rfl) (fun _ _ _ h => h) (Or.inl ⟨by rfl, ?_⟩) hS ?_
    rotate_left
    · (intro X _; go_simp; first | done | with_reducible rfl)
    simp only [Act.put]
    refine wpZ_ready (rs := [10]) (by kernel_rfl) (by simp) ?_
    refine AllZ.cons rfl (fun K hK => ?_) AllZ.nil
    go_simp
    refine hK.out _ _ (fun h => absurd (show false = true from h.symm.trans (by kernel_rfl)) (by decide)) ?_
    clear hK K
    refine wpZ_done (by kernel_rfl) ?_ _
    go_wp2
    go_ret
    exact ⟨by rw [hb.out]; rfl, bstep HR.out.2.2 bZ⟩
set_option maxRecDepth 100000 in
set_option maxHeartbeats 8000000 in
theorem implOrder_any (w : World) (a1 : Option Addr) (c1 : Nat) (a2 : Option Addr) (c2 : Nat) (a3 : Option Addr) (c3 : Nat) (k : C6) (hl : KCl.L k) (h : KCl.Rd w a1 c1 a2 c2 a3 c3 k) : Calls Tryz.prog 10 #[.agg #[.int .i64 k.config, .int .i64 k.clock, .slice a1 k.places.length c1, .slice a2 k.machines.length c2, .slice a3 k.txs.length c3, .bool k.lost]] w fun e w' => ∃ (a : Option Addr) (c : Nat) (P : Nat → Prop), e = .returned (.slice a (ordR k).length c) ∧ KN.Ow w' w.heap.size a c (ordR k) P ∧ Below w.heap.size w w' := by
  obtain ⟨ro, hro⟩ : ∃ ro, ordR k = ro := ⟨_, rfl⟩
  have HRO := hidOf hro
  rw [hro]
  clear hro
  obtain ⟨U, hU⟩ : ∃ Y, Y = w.alloc (.cells #[.int .i64 k.config, .int .i64 k.clock, .slice a1 k.places.length c1, .slice a2 k.machines.length c2, .slice a3 k.txs.length c3, .bool k.lost] 34) := ⟨_, rfl⟩
  have bU : Below w.heap.size w U := by rw [hU]; exact (Below.refl _ _).alloc (Nat.le_refl _) _
  have FA : Hid (Bx U w.heap.size [.int .i64 k.config, .int .i64 k.clock, .slice a1 k.places.length c1, .slice a2 k.machines.length c2, .slice a3 k.txs.length c3, .bool k.lost]) := by unfold Hid; rw [hU]; exact Bx.made w [.int .i64 k.config, .int .i64 k.clock, .slice a1 k.places.length c1, .slice a2 k.machines.length c2, .slice a3 k.txs.length c3, .bool k.lost] _
  have BU := hidOf bU
  have HR : Hid (KCl.Rd U a1 c1 a2 c2 a3 c3 k ∧ KCl.L k) := ⟨h.later BU.out, hl⟩
  have hc := implClusterOk_any U a1 c1 a2 c2 a3 c3 k hl HR.out.1
  clear h hl bU
  go_enter Tryz.func10, Tryz.ntmps10
  go_wp2_with fail
  rw [← hU]
  clear hU
  refine hc.mono ?_
  clear hc
  rintro e W1 ⟨rfl, b1⟩
  have B1 : Hid (Below U.heap.size U W1) := b1
  clear b1
  cases hk : clusterB k with
  | false =>
    have HO : Hid (ordR k = []) := by unfold Hid ordR; rw [hk]; rfl
    clear hk
    have H0 : Hid (ro = []) := HRO.out.symm.trans HO.out
    go_wp2
    go_ret
    exact ⟨none, 0, fun _ => False, by rw [H0.out]; rfl, ⟨.inl H0.out, fun q hq => hq.elim⟩, bstep BU.out B1.out⟩
  | true =>
  have HO : Hid (ordR k = (ordJ k k.txs.length).map fun j => (atT k.txs j).id) := by unfold Hid ordR; rw [if_pos hk]
  have hn60 := (CSm.of hk).t
  obtain ⟨tv, htv⟩ := txs_at (HR.out.1.later B1.out).t
  have ho := ordered_any W1 a1 c1 a2 c2 a3 c3 k tv hk HR.out.2 htv
  have hlen : (ordX k tv k.txs.length).length ≤ 60 := by rw [ordX_len]; exact Nat.le_trans (ordJ_len k _) hn60
  have p0 := (FA.out.later B1.out).1 0 _ rfl
  have p1 := (FA.out.later B1.out).1 1 _ rfl
  have p2 := (FA.out.later B1.out).1 2 _ rfl
  have p3 := (FA.out.later B1.out).1 3 _ rfl
  have p4 := (FA.out.later B1.out).1 4 _ rfl
  have p5 := (FA.out.later B1.out).1 5 _ rfl
  clear hk htv hn60
  go_wp2_with fail
  refine ho.mono ?_
  clear ho p0 p1 p2 p3 p4 p5
  rintro e W2 ⟨a, c, rfl, hrx, b2⟩
  have HXS : Hid ((ordX k tv k.txs.length).map (fun x => x.2.id) = ro) := by unfold Hid; rw [← HRO.out, HO.out, ordX, List.map_map]; rfl
  have K2 : Hid ((ordX k tv k.txs.length = [] ∨ ∃ b, a = some ⟨b, 0, none⟩ ∧ RwX W2 W1.heap.size b (ordX k tv k.txs.length)) ∧ Below w.heap.size w W2) := ⟨hrx, bstep BU.out (bstep B1.out b2)⟩
  clear hrx b2
  generalize ordX k tv k.txs.length = xs at *
  go_wp2
  go_loopw [3, 12] (fun v3 v12 wr => ∃ j : Nat, j ≤ xs.length ∧ v12 = .int .i64 j ∧ tx.RowI wr W2.heap.size v3 ((xs.take j).map fun x => x.2.id) ∧ Below W2.heap.size W2 wr) (fun _ v12 _ => xs.length - (intOf v12).toNat)
  case atStart => exact ⟨0, Nat.zero_le _, rfl, by simpa using tx.RowI.nil W2 W2.heap.size, Below.refl _ _⟩
  case round =>
    obtain ⟨j, hj, rfl, hrow, hbl⟩ := hrel
    by_cases hlt : j < xs.length
    · obtain ⟨x, hx⟩ : ∃ x, xs[j]? = some x := ⟨_, List.getElem?_eq_getElem hlt⟩
      rcases K2.out.1 with e0 | ⟨b, rfl, hrw⟩
      · rw [e0] at hlt; simp at hlt
      have hat := (hrw.1.below hbl hrw.2.2.2) j x hx
      have g0 := hat 0 _ rfl
      have g1 := hat 1 _ rfl
      have g2 := hat 2 _ rfl
      have g3 := hat 3 _ rfl
      have g4 := hat 4 _ rfl
      have g5 := hat 5 _ rfl
      have g6 := hat 6 _ rfl
      rw [Nat.zero_add] at g0 g1 g2 g3 g4 g5 g6
      rw [Nat.add_zero] at g0
      obtain ⟨X, hX⟩ : ∃ Y, Y = wr.alloc (.cells #[.int .i64 (x.2).id, .int .i64 (x.2).home, .int .i64 (x.2).phase, .int .i64 (x.2).count, .slice (x.1).ar (x.2).reads.length (x.1).cr, .slice (x.1).ah (x.2).sets.length (x.1).ch, .int .i64 (x.2).stamp] 55) := ⟨_, rfl⟩
      have bX : Below wr.heap.size wr X := by rw [hX]; exact (Below.refl _ _).alloc (Nat.le_refl _) _
      have xx : Bx X wr.heap.size [.int .i64 (x.2).id, .int .i64 (x.2).home, .int .i64 (x.2).phase, .int .i64 (x.2).count, .slice (x.1).ar (x.2).reads.length (x.1).cr, .slice (x.1).ah (x.2).sets.length (x.1).ch, .int .i64 (x.2).stamp] := by rw [hX]; exact Bx.made wr [.int .i64 (x.2).id, .int .i64 (x.2).home, .int .i64 (x.2).phase, .int .i64 (x.2).count, .slice (x.1).ar (x.2).reads.length (x.1).cr, .slice (x.1).ah (x.2).sets.length (x.1).ch, .int .i64 (x.2).stamp] _
      obtain ⟨V, hV⟩ : ∃ Y, Y = X.alloc (.cells #[.int .i64 x.2.id] 2) := ⟨_, rfl⟩
      have bV : Below X.heap.size X V := by rw [hV]; exact (Below.refl _ _).alloc (Nat.le_refl _) _
      have hone : V.cell? ⟨X.heap.size, 0, none⟩ = some (.int .i64 x.2.id) := by rw [hV]; go_simp
      have hlk : ((xs.take j).map fun x => x.2.id).length + 1 ≤ 1048576 := by rw [List.length_map, List.length_take]; omega
      have hr1 := (hrow.later bX).later bV
      obtain ⟨v', Y, hr, hrow', hgr, hlies⟩ := tx.pushI hr1 x.2.id hlk 28 X.heap.size 1 hone (by have := hbl.size; have := bX.size; have := bV.size; omega)
      have KE : Hid (tx.RowI Y W2.heap.size v' ((xs.take (j + 1)).map fun x => x.2.id) ∧ Below W2.heap.size W2 Y) := by
        have hb9 := bstep (bstep hbl bX) bV
        refine ⟨by rw [List.take_add_one, hx, Option.toList_some, List.map_append]; exact hrow', hb9.grown hgr hb9.size (fun z e => (hr1.lt e).1)⟩
      have sX : X.heap.size = wr.heap.size + 1 := by rw [hX]; simp
      rw [sX, hV, hX] at hr
      have q0 := xx.1 0 _ rfl
      rw [hX] at q0
      clear hX hV bX bV hone hrow' hgr hlies hrow hbl hat hlk hr1 xx sX hrw
      go_wp2_with (at_builtin; refine append_known _ rfl (.tmp 16) (.tmp 19) 28 rfl _ _ _ _ rfl rfl hr ?_)
      exact ⟨⟨j + 1, by omega, by simp, KE.out.1, KE.out.2⟩, by simp [intOf]; omega⟩
    · obtain rfl : j = xs.length := by omega
      have hd : decide ((xs.length : Int) < (xs.length : Int)) = false := by simp
      rw [List.take_length] at hrow
      obtain ⟨va, vc, P, rfl, how⟩ := KN.of_row hrow
      have KE : Hid (KN.Ow wr w.heap.size va vc ro P ∧ Below w.heap.size w wr ∧ (xs.map fun x => x.2.id).length = ro.length) := ⟨by rw [← HXS.out]; exact how.low K2.out.2.size, bstep K2.out.2 hbl, by rw [HXS.out]⟩
      rw [KE.out.2.2]
      clear hrow hbl how
      go_wp2
      go_ret
      exact ⟨_, _, P, rfl, KE.out.1, KE.out.2.1⟩
def atC2 (xs : List C2) (i : Nat) : C2 := xs[i]?.getD ⟨0, 0⟩
def eqC2 (x y : C2) : Bool := (x.head == y.head) && (x.value == y.value)
def samB (xs ys : List C2) : Bool := (List.range 6).all fun s => eqC2 (atC2 xs s) (atC2 ys s)
def verV (h : Int) : Int := if inB 0 4000003 h = true then h / 4 else -1
def hdV (v : Int) (u : Bool) : Int := 4 * v + (if u = true then 2 else 0)
def insC (xs : List C2) (s : S5) : List C2 := if s.version < verV (atC2 xs s.slot.toNat).head then xs else xs.set s.slot.toNat ⟨hdV (s.version + 1) s.used, if s.used = true then s.value else 0⟩
end Go.Proofs.YtdmpobegobfpjaaGreat
namespace Go.Proofs.YtdmpobegobfpjaaGreat
open Go.RowKit
def zeros : List C2 := List.replicate 6 ⟨0, 0⟩
theorem zeros_made : (madeCells #[.int .i64 0, .int .i64 0] 12) = (zeros.flatMap C2.cells).toArray := by kernel_rfl
def cellC (x : Nat × Nat) : List Value := [.slice (some ⟨x.1, 0, none⟩) 6 x.2]
theorem cellC_len (x : Nat × Nat) : (cellC x).length = 1 := rfl
theorem cellC_one : ∀ x, ∀ u ∈ cellC x, u.oneCell' = true := fun x u hu => by
  simp only [cellC, List.mem_cons, List.not_mem_nil, or_false] at hu
  subst hu; rfl
def RowC (W : World) (base : Nat) (v : Value) (gs : List (Nat × Nat)) : Prop := W.ownsRow base 42 1 v gs.length (gs.flatMap cellC)
theorem RowC.lt {W : World} {base : Nat} {v : Value} {gs : List (Nat × Nat)} (h : RowC W base v gs) {q : Nat} (e : v.ownBlock = some q) : base ≤ q ∧ q < W.heap.size := World.ownsRow.lt h q e
theorem RowC.made (W : World) : RowC (W.alloc (.cells #[] 42)) W.heap.size (.slice (some ⟨W.heap.size, 0, none⟩) 0 0) [] := World.ownsRow_made W #[] 0 (Nat.le_refl _) (Nat.zero_le _) rfl
theorem RowC.at {W : World} {base : Nat} {v : Value} {gs : List (Nat × Nat)} (h : RowC W base v gs) : ∃ a c, v = .slice a gs.length c ∧ ∀ r x, gs[r]? = some x → ∃ b, a = some ⟨b, 0, none⟩ ∧ b < W.heap.size ∧ W.cell? ⟨b, r, none⟩ = some (.slice (some ⟨x.1, 0, none⟩) 6 x.2) := by
  have h' := h
  rcases h.2 with ⟨rfl, h0⟩ | ⟨q, cap, cur, rfl, hb, hg, hl, hm, hsz, hcur⟩
  · have := List.eq_nil_of_length_eq_zero h0
    subst this
    exact ⟨none, 0, rfl, fun r x hx => by simp at hx⟩
  · refine ⟨some ⟨q, 0, none⟩, cap, rfl, fun r x hx => ⟨q, rfl, (h'.lt rfl).2, ?_⟩⟩
    have hi : r < gs.length := (List.getElem?_eq_some_iff.1 hx).1
    have hf := tx.flat_at (f := cellC) (l := gs) (fun x _ => cellC_len x) hx (t := 0) (by omega)
    rw [Nat.mul_one, Nat.add_zero, ← hcur, List.getElem?_take, if_pos (by omega), Array.getElem?_toList] at hf
    simp only [World.cell?, hg]
    simpa [cellC] using hf
theorem infoCellS : (Tryz.prog.info? 42).map (fun i => (i.zero, i.size, i.bytes)) = some (some (.slice none 0 0), 1, 24) := by kernel_rfl
theorem pushC {W : World} {base : Nat} {v : Value} {gs : List (Nat × Nat)} (h : RowC W base v gs) (x : Nat × Nat) (hm : gs.length + 1 ≤ 1048576) (ty : TypeId) (b k : Nat) (src : W.cell? ⟨b, 0, none⟩ = some (.slice (some ⟨x.1, 0, none⟩) 6 x.2)) (hbase : base ≤ W.heap.size) :
    ∃ v' W', (Builtin.append_ #[65, 65] ty #[v, .slice (some ⟨b, 0, none⟩) 1 k]).run Tryz.prog W = .ok v' W' ∧ RowC W' base v' (gs ++ [x]) ∧ W.grownBy W' v.ownBlock ∧ (v'.ownBlock = v.ownBlock ∨ v'.ownBlock = some W.heap.size) := by
  obtain ⟨i0, hi0, hz0, hz1, hz2⟩ := partsOf infoCellS
  exact tx.pushX (cells := cellC) (sz := 1) (by_ := 24) cellC_len cellC_one (by omega) Tryz.underlying65 hi0 hz0 hz1 hz2 rfl (by omega) h [x] hm ty b 0 k (fun i s e t u hu => by
    have hi : i = 0 := by have := (List.getElem?_eq_some_iff.1 e).1; simp at this; exact this
    subst hi
    cases e
    have ht : t = 0 := by have := (List.getElem?_eq_some_iff.1 hu).1; simp [cellC] at this; exact this
    subst ht
    cases hu
    exact src) hbase
structure All (W : World) (base : Nat) (v : Value) (gs : List (Nat × Nat)) (css : List (List C2)) : Prop where
  row : RowC W base v gs
  len : css.length = gs.length
  cs : ∀ (r : Nat) (x : Nat × Nat) (xs : List C2), gs[r]? = some x → css[r]? = some xs → base ≤ x.1 ∧ x.1 < W.heap.size ∧ CellsAt W x.1 0 xs ∧ Room W x.1 12 ∧ xs.length = 6 ∧ v.ownBlock ≠ some x.1
  inj : ∀ (r r' : Nat) (x x' : Nat × Nat), gs[r]? = some x → gs[r']? = some x' → x.1 = x'.1 → r = r'
theorem All.keep {W W' : World} {base : Nat} {v : Value} {gs : List (Nat × Nat)} {css : List (List C2)} (h : All W base v gs css) (hs : W.heap.size ≤ W'.heap.size) (hk : ∀ q, base ≤ q → q < W.heap.size → W'.heap[q]? = W.heap[q]?) : All W' base v gs css :=
  ⟨tx.row_keep h.row (fun q e => hk q (h.row.lt e).1 (h.row.lt e).2), h.len, fun r x xs hx hc => by
    obtain ⟨h1, h2, h3, h4, h5, h6⟩ := h.cs r x xs hx hc
    have e := hk x.1 h1 h2
    exact ⟨h1, Nat.lt_of_lt_of_le h2 hs, fun i s hi => ⟨(World.cell?_of_block (a := ⟨x.1, _, none⟩) e).trans (h3 i s hi).c0, (World.cell?_of_block (a := ⟨x.1, _, none⟩) e).trans (h3 i s hi).c1⟩, h4.of_block e, h5, h6⟩, h.inj⟩
theorem All.later {W W' : World} {base : Nat} {v : Value} {gs : List (Nat × Nat)} {css : List (List C2)} (h : All W base v gs css) (hb : Below W.heap.size W W') : All W' base v gs css := h.keep hb.size (fun q _ hq => hb.block q hq)
theorem All.put {W W' : World} {base : Nat} {v : Value} {gs : List (Nat × Nat)} {css : List (List C2)} (h : All W base v gs css) {r : Nat} {x : Nat × Nat} (hx : gs[r]? = some x) (ht : Turned x.1 W W') {ys : List C2} (hy : ys.length = 6) (hc : CellsAt W' x.1 0 ys) (hr : Room W' x.1 12) : All W' base v gs (css.set r ys) := by
  have hrl : r < gs.length := (List.getElem?_eq_some_iff.1 hx).1
  obtain ⟨xs0, hxs0⟩ : ∃ xs, css[r]? = some xs := ⟨_, List.getElem?_eq_getElem (by rw [h.len]; exact hrl)⟩
  have h0 := h.cs r x xs0 hx hxs0
  refine ⟨tx.row_keep h.row (fun q e => ht.block q (h.row.lt e).2 (fun e' => h0.2.2.2.2.2 (by rw [e, e']))), by rw [List.length_set, h.len], fun r' x' xs' hx' hc' => ?_, h.inj⟩
  by_cases e : r' = r
  · subst e
    rw [hx] at hx'; cases hx'
    rw [List.getElem?_set_self (by rw [h.len]; exact hrl)] at hc'
    cases hc'
    exact ⟨h0.1, Nat.lt_of_lt_of_le h0.2.1 ht.size, hc, hr, hy, h0.2.2.2.2.2⟩
  · rw [List.getElem?_set_ne (fun h => e h.symm)] at hc'
    obtain ⟨h1, h2, h3, h4, h5, h6⟩ := h.cs r' x' xs' hx' hc'
    have hb := ht.block x'.1 h2 (fun e' => e (h.inj r' r x' x hx' hx e'))
    exact ⟨h1, Nat.lt_of_lt_of_le h2 ht.size, fun i s hi => ⟨(World.cell?_of_block (a := ⟨x'.1, _, none⟩) hb).trans (h3 i s hi).c0, (World.cell?_of_block (a := ⟨x'.1, _, none⟩) hb).trans (h3 i s hi).c1⟩, h4.of_block hb, h5, h6⟩
theorem All.push {W : World} {base : Nat} {v : Value} {gs : List (Nat × Nat)} {css : List (List C2)} (h : All W base v gs css) (hb : base ≤ W.heap.size) (hm : gs.length + 1 ≤ 1048576) (ty : TypeId) :
    ∃ v' W', (Builtin.append_ #[65, 65] ty #[v, .slice (some ⟨W.heap.size + 1, 0, none⟩) 1 1]).run Tryz.prog ((W.alloc (.cells (madeCells #[.int .i64 0, .int .i64 0] 12) 75)).alloc (.cells #[.slice (some ⟨W.heap.size, 0, none⟩) 6 6] 42)) = .ok v' W' ∧ All W' base v' (gs ++ [(W.heap.size, 6)]) (css ++ [zeros]) ∧ Below base W W' := by
  obtain ⟨Y, hY⟩ : ∃ Y, Y = W.alloc (.cells (madeCells #[.int .i64 0, .int .i64 0] 12) 75) := ⟨_, rfl⟩
  obtain ⟨Z, hZ⟩ : ∃ Z, Z = Y.alloc (.cells #[.slice (some ⟨W.heap.size, 0, none⟩) 6 6] 42) := ⟨_, rfl⟩
  have sY : Y.heap.size = W.heap.size + 1 := by rw [hY]; simp
  have sZ : Z.heap.size = W.heap.size + 2 := by rw [hZ]; simp [sY]
  have bY : Below W.heap.size W Y := by rw [hY]; exact (Below.refl _ _).alloc (Nat.le_refl _) _
  have bYZ : Below Y.heap.size Y Z := by rw [hZ]; exact (Below.refl _ _).alloc (Nat.le_refl _) _
  have bZ : Below W.heap.size W Z := bstep bY bYZ
  have hone : Z.cell? ⟨W.heap.size + 1, 0, none⟩ = some (.slice (some ⟨W.heap.size, 0, none⟩) 6 6) := by rw [hZ, ← sY]; go_simp
  have hnew : Y.heap[W.heap.size]? = some (.cells (zeros.flatMap C2.cells).toArray 75 (0, 0)) := by rw [hY, zeros_made]; exact World.alloc_heap_new W _
  have row0 : RowC Z base v gs := tx.row_keep h.row (fun q e => bZ.block q (h.row.lt e).2)
  obtain ⟨v', W', run1, row1, gr, hl⟩ := pushC row0 (W.heap.size, 6) hm ty (W.heap.size + 1) 1 hone (by omega)
  rw [← hY, ← hZ]
  refine ⟨v', W', run1, ⟨row1, by rw [List.length_append, List.length_append, h.len]; rfl, fun r x xs hx hc => ?_, fun r r' x x' hx hx' e => ?_⟩, (bZ.mono hb).grown gr (by omega) (fun q e => (h.row.lt e).1)⟩
  · have hnb : ∀ q, q < W.heap.size → v.ownBlock ≠ some q → v'.ownBlock ≠ some q := fun q hq hv => by
      rcases hl with e | e
      · rw [e]; exact hv
      · rw [e]; intro e'; have := Option.some.inj e'; omega
    by_cases hr : r < gs.length
    · rw [List.getElem?_append_left hr] at hx
      rw [List.getElem?_append_left (by rw [h.len]; exact hr)] at hc
      obtain ⟨h1, h2, h3, h4, h5, h6⟩ := h.cs r x xs hx hc
      have e : W'.heap[x.1]? = W.heap[x.1]? := (gr.block x.1 (by omega) (fun e => h6 e.symm)).trans (bZ.block x.1 h2)
      exact ⟨h1, by have := gr.size; omega, fun i s hi => ⟨(World.cell?_of_block (a := ⟨x.1, _, none⟩) e).trans (h3 i s hi).c0, (World.cell?_of_block (a := ⟨x.1, _, none⟩) e).trans (h3 i s hi).c1⟩, h4.of_block e, h5, hnb x.1 h2 h6⟩
    · have hre : r = gs.length := by have := (List.getElem?_eq_some_iff.1 hx).1; simp at this; omega
      subst hre
      rw [List.getElem?_append_right (Nat.le_refl _), Nat.sub_self] at hx
      rw [List.getElem?_append_right (by rw [h.len]; exact Nat.le_refl _), h.len, Nat.sub_self] at hc
      cases hx
      cases hc
      have hvn : v.ownBlock ≠ some W.heap.size := fun e => by have := (h.row.lt e).2; omega
      have e : W'.heap[W.heap.size]? = some (.cells (zeros.flatMap C2.cells).toArray 75 (0, 0)) := (gr.block W.heap.size (by omega) (fun e => hvn e.symm)).trans ((bYZ.block W.heap.size (by omega)).trans hnew)
      refine ⟨hb, by have := gr.size; show W.heap.size < _; omega, fun i s hi => ?_, fun j hj => ?_, rfl, ?_⟩
      · have h6 : i < 6 := (List.getElem?_eq_some_iff.1 hi).1
        have hs : s = ⟨0, 0⟩ := by
          rw [zeros, List.getElem?_replicate, if_pos h6] at hi
          cases hi; rfl
        subst hs
        have hz : ∀ n, n < 12 → W'.cell? ⟨W.heap.size, n, none⟩ = some (.int .i64 0) := fun n hn => by
          have h12 : zeros.flatMap C2.cells = List.replicate 12 (.int .i64 0) := rfl
          have : (zeros.flatMap C2.cells).toArray[n]? = some (.int .i64 0) := by rw [h12, List.getElem?_toArray, List.getElem?_replicate, if_pos hn]
          simp only [World.cell?, e]
          simpa using this
        exact ⟨hz _ (by omega), hz _ (by omega)⟩
      · have h12 : zeros.flatMap C2.cells = List.replicate 12 (.int .i64 0) := rfl
        have hu : (zeros.flatMap C2.cells).toArray[j]? = some (.int .i64 0) := by rw [h12, List.getElem?_toArray, List.getElem?_replicate, if_pos hj]
        exact ⟨.int .i64 0, by simp only [World.cell?, e]; simpa using hu, by simp [World.frozen?, e]⟩
      · rcases hl with e' | e'
        · rw [e']; exact hvn
        · rw [e']; intro e2; have := Option.some.inj e2; omega
  · have key : ∀ r x, (gs ++ [(W.heap.size, 6)])[r]? = some x → (r < gs.length ∧ gs[r]? = some x ∧ x.1 < W.heap.size) ∨ (r = gs.length ∧ x.1 = W.heap.size) := fun r x hx => by
      by_cases hr : r < gs.length
      · rw [List.getElem?_append_left hr] at hx
        obtain ⟨xs, hxs⟩ : ∃ xs, css[r]? = some xs := ⟨_, List.getElem?_eq_getElem (by rw [h.len]; exact hr)⟩
        exact .inl ⟨hr, hx, (h.cs r x xs hx hxs).2.1⟩
      · have hre : r = gs.length := by have := (List.getElem?_eq_some_iff.1 hx).1; simp at this; omega
        subst hre
        rw [List.getElem?_append_right (Nat.le_refl _), Nat.sub_self] at hx
        cases hx
        exact .inr ⟨rfl, rfl⟩
    rcases key r x hx with ⟨_, h1, h2⟩ | ⟨h1, h2⟩ <;> rcases key r' x' hx' with ⟨_, g1, g2⟩ | ⟨g1, g2⟩
    · exact h.inj r r' x x' h1 g1 e
    · omega
    · omega
    · omega
def atCC (css : List (List C2)) (r t : Int) : C2 := atC2 (css[r.toNat]?.getD []) t.toNat
def usedV (h : Int) : Bool := inB 0 4000003 h && usedB h
def rdOk (css : List (List C2)) (n : tx.N5) : Bool := (verV (atCC css n.region n.slot).head == n.version) && ((atCC css n.region n.slot).value == n.value) && (usedV (atCC css n.region n.slot).head == n.used)
def stOk (css : List (List C2)) (s : S5) : Bool := verV (atCC css s.region s.slot).head == s.version
def insA (css : List (List C2)) (s : S5) : List (List C2) := css.set s.region.toNat (insC (css[s.region.toNat]?.getD []) s)
def repl (k : C6) : List (List C2) → List Nat → List (List C2) × Bool
  | css, [] => (css, true)
  | css, j :: js => if ((atT k.txs j).reads.all (rdOk css) && (atT k.txs j).sets.all (stOk css)) = true then repl k ((atT k.txs j).sets.foldl insA css) js else (css, false)
end Go.Proofs.YtdmpobegobfpjaaGreat
namespace Go.Proofs.YtdmpobegobfpjaaGreat
open Go.RowKit
open Go.Sort (grow)
def UpI (ts : List tx.T7) : Prop := ∀ i j, i < j → j < ts.length → (atT ts i).id < (atT ts j).id
structure PosT (ts : List tx.T7) (y : Int) (i : Nat) : Prop where
  le : i ≤ ts.length
  lo : ∀ t, t < i → (atT ts t).id < y
  hi : ∀ t, i ≤ t → t < ts.length → y ≤ (atT ts t).id
def foundT (ts : List tx.T7) (y : Int) (i : Nat) : Bool := decide (i < ts.length) && decide ((atT ts i).id = y)
def findO (k : C6) (y : Int) : Option tx.T7 := if clusterB k then k.txs.find? (fun t => decide (t.id = y)) else none
def zT : tx.T7 := ⟨0, 0, 0, 0, [], [], 0⟩
def findT (k : C6) (y : Int) : tx.T7 := (findO k y).getD zT
def findB (k : C6) (y : Int) : Bool := (findO k y).isSome
end Go.Proofs.YtdmpobegobfpjaaGreat
namespace Go.Proofs.YtdmpobegobfpjaaGreat.tx
open Go.RowKit
def SAns (w : World) (xs : List S5) (e : Ending) (w' : World) : Prop :=
  ∃ (a : Option Addr) (c : Nat) (PS : Nat → Prop), e = .returned (.slice a xs.length c) ∧ OwnSe w' PS a xs ∧ (∀ q, PS q → w.heap.size ≤ q ∧ q < w'.heap.size) ∧ Below w.heap.size w w'
theorem SAns.of {w w' : World} {base : Nat} {v : Value} {xs : List S5} (h : RowS w' base v xs) (hb : w.heap.size ≤ base) (b : Below w.heap.size w w') : SAns w xs (.returned v) w' := by
  obtain ⟨a, c, e, ho⟩ := h.form
  exact ⟨a, c, _, by rw [e], ho, fun q hq => ⟨Nat.le_trans hb (h.lt hq).1, (h.lt hq).2⟩, b⟩
theorem SAns.none {w w' : World} (b : Below w.heap.size w w') : SAns w [] (.returned (.slice Option.none 0 0)) w' := ⟨Option.none, 0, fun _ => False, rfl, .inl rfl, fun _ h => h.elim, b⟩
def ofR (g : Int) (xs : List S5) : List S5 := xs.filter fun s => decide (s.region = g)
def setsOfT (t : T7) (g : Int) : List S5 := if txB t = true then ofR g t.sets else []
end Go.Proofs.YtdmpobegobfpjaaGreat.tx
namespace Go.Proofs.YtdmpobegobfpjaaGreat.tx
open Go.RowKit Go.Maps
def cKey (r s : Int) : Value := .agg #[.int .i64 r, .int .i64 s]
theorem six {r : Int} (h : inB 0 5 r = true) : r = 0 ∨ r = 1 ∨ r = 2 ∨ r = 3 ∨ r = 4 ∨ r = 5 := by
  rw [inB_iff] at h; omega
def MapF (W : World) (b n : Nat) (f : Int → Int → Option Nat) : Prop :=
  ∃ D : DataW Unit, W.ownsMap Tryz.prog 169 (plainElem Tryz.prog 3) b n D ∧ ∀ r s l, keyOf Tryz.prog 169 (cKey r s) = some l → (f r s = none → has D l = false) ∧ (∀ i, f r s = some i → has D l = true ∧ ∀ z, D.atKey l z = .lit (.int .i64 (i : Int)))
theorem MapF.lt {W : World} {b n : Nat} {f : Int → Int → Option Nat} (h : MapF W b n f) : b < W.heap.size := by obtain ⟨D, h, _⟩ := h; exact h.lt
theorem MapF.mono {W : World} {b n n' : Nat} {f : Int → Int → Option Nat} (h : MapF W b n f) (hn : n ≤ n') : MapF W b n' f := by obtain ⟨D, h, h'⟩ := h; exact ⟨D, h.mono hn, h'⟩
theorem MapF.of_block {W W' : World} {b n : Nat} {f : Int → Int → Option Nat} (h : MapF W b n f) (e : W'.heap[b]? = W.heap[b]?) : MapF W' b n f := by
  obtain ⟨D, ⟨es, clock, hb, r⟩, h'⟩ := h
  exact ⟨D, ⟨es, clock, e.trans hb, r⟩, h'⟩
theorem MapF.later {W W' : World} {b n : Nat} {f : Int → Int → Option Nat} (h : MapF W b n f) (hb : Below W.heap.size W W') : MapF W' b n f := h.of_block (hb.block _ h.lt)
theorem MapF.made (W : World) : MapF (W.alloc (.map #[] 0)) W.heap.size 0 (fun _ _ => none) :=
  ⟨.map [], World.ownsMap_made W _ _ _, fun r s l _ => ⟨fun _ => rfl, fun i h => by cases h⟩⟩
def putF (f : Int → Int → Option Nat) (r s : Int) (i : Nat) : Int → Int → Option Nat := fun q t => if q = r ∧ t = s then some i else f q t
def MapN (W : World) (b n : Nat) : Prop := ∃ D : DataW Unit, W.ownsMap Tryz.prog 169 (plainElem Tryz.prog 3) b n D
theorem MapF.any {W : World} {b n : Nat} {f : Int → Int → Option Nat} (h : MapF W b n f) : MapN W b n := by obtain ⟨D, h, _⟩ := h; exact ⟨D, h⟩
theorem MapN.lt {W : World} {b n : Nat} (h : MapN W b n) : b < W.heap.size := by obtain ⟨D, h⟩ := h; exact h.lt
theorem MapN.mono {W : World} {b n n' : Nat} (h : MapN W b n) (hn : n ≤ n') : MapN W b n' := by obtain ⟨D, h⟩ := h; exact ⟨D, h.mono hn⟩
theorem MapN.of_block {W W' : World} {b n : Nat} (h : MapN W b n) (e : W'.heap[b]? = W.heap[b]?) : MapN W' b n := by
  obtain ⟨D, es, clock, hb, r⟩ := h
  exact ⟨D, es, clock, e.trans hb, r⟩
theorem MapN.later {W W' : World} {b n : Nat} (h : MapN W b n) (hb : Below W.heap.size W W') : MapN W' b n := h.of_block (hb.block _ h.lt)
end Go.Proofs.YtdmpobegobfpjaaGreat.tx
namespace Go.Proofs.YtdmpobegobfpjaaGreat.tx
open Go.RowKit
def OfP (p q mb : Nat) (x : Nat) : Prop := x = p ∨ x = q ∨ x = mb
structure Pin (W : World) (base p q mb n cap : Nat) (xs : List N5) : Prop where
  c0 : W.cell? ⟨p, 0, none⟩ = some (.slice (some ⟨q, 0, none⟩) xs.length cap)
  c1 : W.cell? ⟨p, 1, none⟩ = some (.map (some mb))
  fz : ∀ j, W.frozen? ⟨p, j, none⟩ = false
  at_ : NotesAt W q 0 xs
  rm : Room W q (xs.length * 5)
  cp : xs.length ≤ cap
  mp : MapN W mb n
  ok : ∀ s ∈ xs, noteOkB s = true
  pq : p ≠ q
  pm : p ≠ mb
  qm : q ≠ mb
  bp : base ≤ p
  bq : base ≤ q
  bm : base ≤ mb
  lp : p < W.heap.size
  lq : q < W.heap.size
theorem Pin.keep {W V : World} {base p q mb n cap : Nat} {xs : List N5} (h : Pin W base p q mb n cap xs) (hs : W.heap.size ≤ V.heap.size) (hk : ∀ x, OfP p q mb x → V.heap[x]? = W.heap[x]?) : Pin V base p q mb n cap xs :=
  ⟨(World.cell?_of_block (a := ⟨p, 0, none⟩) (hk p (.inl rfl))).trans h.c0, (World.cell?_of_block (a := ⟨p, 1, none⟩) (hk p (.inl rfl))).trans h.c1, fun j => (World.frozen?_of_block (a := ⟨p, j, none⟩) (hk p (.inl rfl))).trans (h.fz j), h.at_.of_block (hk q (.inr (.inl rfl))), h.rm.of_block (hk q (.inr (.inl rfl))), h.cp, h.mp.of_block (hk mb (.inr (.inr rfl))), h.ok, h.pq, h.pm, h.qm, h.bp, h.bq, h.bm, Nat.lt_of_lt_of_le h.lp hs, Nat.lt_of_lt_of_le h.lq hs⟩
theorem Pin.later {W V : World} {base p q mb n cap : Nat} {xs : List N5} (h : Pin W base p q mb n cap xs) (hb : Below W.heap.size W V) : Pin V base p q mb n cap xs := h.keep hb.size (fun x hx => hb.block x (by rcases hx with rfl | rfl | rfl; exact h.lp; exact h.lq; exact h.mp.lt))
theorem Pin.mono {W : World} {base p q mb n n' cap : Nat} {xs : List N5} (h : Pin W base p q mb n cap xs) (hn : n ≤ n') : Pin W base p q mb n' cap xs := ⟨h.c0, h.c1, h.fz, h.at_, h.rm, h.cp, h.mp.mono hn, h.ok, h.pq, h.pm, h.qm, h.bp, h.bq, h.bm, h.lp, h.lq⟩
end Go.Proofs.YtdmpobegobfpjaaGreat.tx
namespace Go.Proofs.YtdmpobegobfpjaaGreat
namespace HeapP
def swF {α : Type} (k : Nat → α) (a b : Nat) : Nat → α := fun i => if i = a then k b else if i = b then k a else k i
def Hp (k : Nat → Int) (n : Nat) : Prop := ∀ i, 0 < i → i < n → k ((i - 1) / 2) ≤ k i
def HpUp (k : Nat → Int) (n c : Nat) : Prop := (∀ i, 0 < i → i < n → i ≠ c → k ((i - 1) / 2) ≤ k i) ∧ (∀ i, 0 < i → i < n → (i - 1) / 2 = c → 0 < c → k ((c - 1) / 2) ≤ k i)
def HpDn (k : Nat → Int) (n c : Nat) : Prop := (∀ i, 0 < i → i < n → (i - 1) / 2 ≠ c → k ((i - 1) / 2) ≤ k i) ∧ (∀ i, 0 < i → i < n → (i - 1) / 2 = c → 0 < c → k ((c - 1) / 2) ≤ k i)
theorem HpUp.done {k : Nat → Int} {n c : Nat} (h : HpUp k n c) (hc : c = 0 ∨ k ((c - 1) / 2) ≤ k c) : Hp k n := fun i h0 hn => by
  by_cases e : i = c
  · subst e; rcases hc with hc | hc
    · omega
    · exact hc
  · exact h.1 i h0 hn e
theorem HpUp.step {k : Nat → Int} {n c : Nat} (h : HpUp k n c) (h0 : 0 < c) (hn : c < n) (hl : k c < k ((c - 1) / 2)) : HpUp (swF k c ((c - 1) / 2)) n ((c - 1) / 2) := by
  obtain ⟨h1, h2⟩ := h
  refine ⟨fun i i0 hi hne => ?_, fun i i0 hi hp hpc => ?_⟩
  · unfold swF
    by_cases e1 : i = c
    · subst e1
      simp [show ¬ (i - 1) / 2 = i by omega]; omega
    · by_cases e2 : (i - 1) / 2 = c
      · simp [e1, hne, e2]; exact h2 i i0 hi e2 h0
      · by_cases e3 : (i - 1) / 2 = (c - 1) / 2
        · simp [e1, hne, e3, show ¬ (c - 1) / 2 = c by omega]
          have := h1 i i0 hi e1
          rw [e3] at this
          omega
        · simp [e1, hne, e2, e3]
          exact h1 i i0 hi e1
  · unfold swF
    have hq := h1 ((c - 1) / 2) (by omega) (by omega) (by omega)
    by_cases e1 : i = c
    · subst e1
      simp [show ¬ ((i - 1) / 2 - 1) / 2 = i by omega, show ¬ ((i - 1) / 2 - 1) / 2 = (i - 1) / 2 by omega]
      exact hq
    · have hi' := h1 i i0 hi e1
      rw [hp] at hi'
      simp [e1, show ¬ i = (c - 1) / 2 by omega, show ¬ ((c - 1) / 2 - 1) / 2 = c by omega, show ¬ ((c - 1) / 2 - 1) / 2 = (c - 1) / 2 by omega]
      omega
theorem HpDn.done {k : Nat → Int} {n c : Nat} (h : HpDn k n c) (h1 : 2 * c + 1 < n → k c ≤ k (2 * c + 1)) (h2 : 2 * c + 2 < n → k c ≤ k (2 * c + 2)) : Hp k n := fun i h0 hn => by
  by_cases e : (i - 1) / 2 = c
  · rw [e]
    rcases (show i = 2 * c + 1 ∨ i = 2 * c + 2 by omega) with rfl | rfl
    · exact h1 hn
    · exact h2 hn
  · exact h.1 i h0 hn e
theorem HpDn.step {k : Nat → Int} {n c l : Nat} (h : HpDn k n c) (hl : l = 2 * c + 1 ∨ l = 2 * c + 2) (hn : l < n) (hlt : k l < k c) (h1 : 2 * c + 1 < n → k l ≤ k (2 * c + 1)) (h2 : 2 * c + 2 < n → k l ≤ k (2 * c + 2)) : HpDn (swF k c l) n l := by
  obtain ⟨g1, g2⟩ := h
  have hpl : (l - 1) / 2 = c := by omega
  refine ⟨fun i i0 hi hne => ?_, fun i i0 hi hp _ => ?_⟩
  · unfold swF
    by_cases e0 : i = c
    · subst e0
      simp [show ¬ (i - 1) / 2 = i by omega, hne]
      exact g2 l (by omega) hn hpl i0
    · by_cases e1 : (i - 1) / 2 = c
      · simp only [e1, e0, if_true, if_false]
        by_cases e2 : i = l
        · simp [e2]; omega
        · simp [e2]
          rcases (show i = 2 * c + 1 ∨ i = 2 * c + 2 by omega) with rfl | rfl
          · exact h1 hi
          · exact h2 hi
      · have := g1 i i0 hi e1
        by_cases e2 : i = l
        · omega
        · simp [e0, e1, e2, hne]; exact this
  · unfold swF
    have := g1 i i0 hi (by omega)
    rw [hp] at this
    simp [hpl, show ¬ i = c by omega, show ¬ i = l by omega]
    exact this
theorem Hp.top {k : Nat → Int} {n : Nat} (h : Hp k n) : ∀ i, i < n → k 0 ≤ k i := by
  intro i
  induction i using Nat.strongRecOn with
  | ind i ih =>
    intro hi
    by_cases e : i = 0
    · subst e; exact Int.le_refl _
    · have := ih ((i - 1) / 2) (by omega) (by omega)
      have := h i (by omega) hi
      omega
end HeapP
namespace HeapP
def swL {α : Type} (xs : List α) (a b : Nat) (x y : α) : List α := (xs.set a y).set b x
theorem HpDn.congr {k k' : Nat → Int} {n : Nat} (h : HpDn k n 0) (e : ∀ i, i < n → k' i = k i) : HpDn k' n 0 :=
  ⟨fun i h0 hn hc => by rw [e i hn, e _ (by omega)]; exact h.1 i h0 hn hc, fun i _ _ _ h' => by omega⟩
end HeapP
end Go.Proofs.YtdmpobegobfpjaaGreat
namespace Go.Proofs.YtdmpobegobfpjaaGreat.tx
open Go.RowKit
open Go.Sort (grow)
def noK (xs : List N5) (i : Nat) : Int := rk (atNo xs i).region (atNo xs i).slot
end Go.Proofs.YtdmpobegobfpjaaGreat.tx
namespace Go.Proofs.YtdmpobegobfpjaaGreat.tx
open Go.RowKit
theorem NoteAt.of_blk {W V : World} {b o : Nat} {s : N5} (h : NoteAt W b o s) (e : V.heap[b]? = W.heap[b]?) : NoteAt V b o s :=
  ⟨(World.cell?_of_block (a := ⟨b, o, none⟩) e).trans h.c0, (World.cell?_of_block (a := ⟨b, o + 1, none⟩) e).trans h.c1, (World.cell?_of_block (a := ⟨b, o + 2, none⟩) e).trans h.c2, (World.cell?_of_block (a := ⟨b, o + 3, none⟩) e).trans h.c3, (World.cell?_of_block (a := ⟨b, o + 4, none⟩) e).trans h.c4⟩
def noR (s : N5) : Int := rk s.region s.slot
def noLen : Value → Nat
  | .slice _ n _ => n
  | _ => 0
end Go.Proofs.YtdmpobegobfpjaaGreat.tx
namespace Go.Proofs.YtdmpobegobfpjaaGreat.tx
open Go.RowKit
open Go.Sort (grow)
def noW (xs : List N5) (r s : Int) : Option Nat := xs.findIdx? fun x => decide (x.region = r) && decide (x.slot = s)
structure PinB (W : World) (base p mb n : Nat) (v : Value) (xs : List N5) : Prop where
  c0 : W.cell? ⟨p, 0, none⟩ = some v
  c1 : W.cell? ⟨p, 1, none⟩ = some (.map (some mb))
  fz : ∀ j, W.frozen? ⟨p, j, none⟩ = false
  row : RowN W base v xs
  mp : MapF W mb n (noW xs)
  ok : ∀ s ∈ xs, noteOkB s = true
  vp : v.ownBlock ≠ some p
  vm : v.ownBlock ≠ some mb
  pm : p ≠ mb
  bp : base ≤ p
  bm : base ≤ mb
  lp : p < W.heap.size
theorem PinB.later {W V : World} {base p mb n : Nat} {v : Value} {xs : List N5} (h : PinB W base p mb n v xs) (hb : Below W.heap.size W V) : PinB V base p mb n v xs :=
  ⟨(hb.cell (p := ⟨p, 0, none⟩) h.lp).trans h.c0, (hb.cell (p := ⟨p, 1, none⟩) h.lp).trans h.c1, fun j => (hb.frozen (p := ⟨p, j, none⟩) h.lp).trans (h.fz j), h.row.later hb, h.mp.later hb, h.ok, h.vp, h.vm, h.pm, h.bp, h.bm, Nat.lt_of_lt_of_le h.lp hb.size⟩
def noUp2 (xs : List N5) : Prop := xs.Pairwise fun a b => noR a < noR b
end Go.Proofs.YtdmpobegobfpjaaGreat.tx
namespace Go.Proofs.YtdmpobegobfpjaaGreat.tx
open Go.RowKit
structure Pis (W : World) (base p q mb n cap : Nat) (xs : List S5) : Prop where
  c0 : W.cell? ⟨p, 0, none⟩ = some (.slice (some ⟨q, 0, none⟩) xs.length cap)
  c1 : W.cell? ⟨p, 1, none⟩ = some (.map (some mb))
  fz : ∀ j, W.frozen? ⟨p, j, none⟩ = false
  at_ : SetsAt W q 0 xs
  rm : Room W q (xs.length * 5)
  cp : xs.length ≤ cap
  mp : MapN W mb n
  ok : ∀ s ∈ xs, setOkB s = true
  pq : p ≠ q
  pm : p ≠ mb
  qm : q ≠ mb
  bp : base ≤ p
  bq : base ≤ q
  bm : base ≤ mb
  lp : p < W.heap.size
  lq : q < W.heap.size
theorem Pis.keep {W V : World} {base p q mb n cap : Nat} {xs : List S5} (h : Pis W base p q mb n cap xs) (hs : W.heap.size ≤ V.heap.size) (hk : ∀ x, OfP p q mb x → V.heap[x]? = W.heap[x]?) : Pis V base p q mb n cap xs :=
  ⟨(World.cell?_of_block (a := ⟨p, 0, none⟩) (hk p (.inl rfl))).trans h.c0, (World.cell?_of_block (a := ⟨p, 1, none⟩) (hk p (.inl rfl))).trans h.c1, fun j => (World.frozen?_of_block (a := ⟨p, j, none⟩) (hk p (.inl rfl))).trans (h.fz j), h.at_.of_block (hk q (.inr (.inl rfl))), h.rm.of_block (hk q (.inr (.inl rfl))), h.cp, h.mp.of_block (hk mb (.inr (.inr rfl))), h.ok, h.pq, h.pm, h.qm, h.bp, h.bq, h.bm, Nat.lt_of_lt_of_le h.lp hs, Nat.lt_of_lt_of_le h.lq hs⟩
theorem Pis.later {W V : World} {base p q mb n cap : Nat} {xs : List S5} (h : Pis W base p q mb n cap xs) (hb : Below W.heap.size W V) : Pis V base p q mb n cap xs := h.keep hb.size (fun x hx => hb.block x (by rcases hx with rfl | rfl | rfl; exact h.lp; exact h.lq; exact h.mp.lt))
theorem Pis.mono {W : World} {base p q mb n n' cap : Nat} {xs : List S5} (h : Pis W base p q mb n cap xs) (hn : n ≤ n') : Pis W base p q mb n' cap xs := ⟨h.c0, h.c1, h.fz, h.at_, h.rm, h.cp, h.mp.mono hn, h.ok, h.pq, h.pm, h.qm, h.bp, h.bq, h.bm, h.lp, h.lq⟩
end Go.Proofs.YtdmpobegobfpjaaGreat.tx
namespace Go.Proofs.YtdmpobegobfpjaaGreat.tx
open Go.RowKit
open Go.Sort (grow)
def seK (xs : List S5) (i : Nat) : Int := rk (atSe xs i).region (atSe xs i).slot
end Go.Proofs.YtdmpobegobfpjaaGreat.tx
namespace Go.Proofs.YtdmpobegobfpjaaGreat.tx
open Go.RowKit
theorem SetAt.of_blk {W V : World} {b o : Nat} {s : S5} (h : SetAt W b o s) (e : V.heap[b]? = W.heap[b]?) : SetAt V b o s :=
  ⟨(World.cell?_of_block (a := ⟨b, o, none⟩) e).trans h.c0, (World.cell?_of_block (a := ⟨b, o + 1, none⟩) e).trans h.c1, (World.cell?_of_block (a := ⟨b, o + 2, none⟩) e).trans h.c2, (World.cell?_of_block (a := ⟨b, o + 3, none⟩) e).trans h.c3, (World.cell?_of_block (a := ⟨b, o + 4, none⟩) e).trans h.c4⟩
def seR (s : S5) : Int := rk s.region s.slot
def seLen : Value → Nat
  | .slice _ n _ => n
  | _ => 0
end Go.Proofs.YtdmpobegobfpjaaGreat.tx
namespace Go.Proofs.YtdmpobegobfpjaaGreat.tx
open Go.RowKit
open Go.Sort (grow)
def seW (xs : List S5) (r s : Int) : Option Nat := xs.findIdx? fun x => decide (x.region = r) && decide (x.slot = s)
structure PisB (W : World) (base p mb n : Nat) (v : Value) (xs : List S5) : Prop where
  c0 : W.cell? ⟨p, 0, none⟩ = some v
  c1 : W.cell? ⟨p, 1, none⟩ = some (.map (some mb))
  fz : ∀ j, W.frozen? ⟨p, j, none⟩ = false
  row : RowS W base v xs
  mp : MapF W mb n (seW xs)
  ok : ∀ s ∈ xs, setOkB s = true
  vp : v.ownBlock ≠ some p
  vm : v.ownBlock ≠ some mb
  pm : p ≠ mb
  bp : base ≤ p
  bm : base ≤ mb
  lp : p < W.heap.size
theorem PisB.later {W V : World} {base p mb n : Nat} {v : Value} {xs : List S5} (h : PisB W base p mb n v xs) (hb : Below W.heap.size W V) : PisB V base p mb n v xs :=
  ⟨(hb.cell (p := ⟨p, 0, none⟩) h.lp).trans h.c0, (hb.cell (p := ⟨p, 1, none⟩) h.lp).trans h.c1, fun j => (hb.frozen (p := ⟨p, j, none⟩) h.lp).trans (h.fz j), h.row.later hb, h.mp.later hb, h.ok, h.vp, h.vm, h.pm, h.bp, h.bm, Nat.lt_of_lt_of_le h.lp hb.size⟩
def seUp2 (xs : List S5) : Prop := xs.Pairwise fun a b => seR a < seR b
def CAns (w : World) (xs : List N5) (e : Ending) (w' : World) : Prop :=
  ∃ (a : Option Addr) (c : Nat) (PS : Nat → Prop), e = .returned (.slice a xs.length c) ∧ OwnNo w' PS a xs ∧ (∀ q, PS q → w.heap.size ≤ q ∧ q < w'.heap.size) ∧ Below w.heap.size w w'
theorem CAns.of {w w' : World} {base : Nat} {v : Value} {xs : List N5} (h : RowN w' base v xs) (hb : w.heap.size ≤ base) (b : Below w.heap.size w w') : CAns w xs (.returned v) w' := by
  obtain ⟨a, c, e, ho⟩ := h.form
  exact ⟨a, c, _, by rw [e], ho, fun q hq => ⟨Nat.le_trans hb (h.lt hq).1, (h.lt hq).2⟩, b⟩
theorem CAns.none {w w' : World} (b : Below w.heap.size w w') : CAns w [] (.returned (.slice Option.none 0 0)) w' := ⟨Option.none, 0, fun _ => False, rfl, .inl rfl, fun _ h => h.elim, b⟩
def ofC (ss : List S5) (xs : List N5) : List N5 := xs.filter fun n => (seW ss n.region n.slot).isNone
def checksT (t : T7) : List N5 := if txB t = true then ofC t.sets t.reads else []
def setAt (xs : List S5) (r s : Int) : Int := match seW xs r s with | some i => (i : Int) | none => -1
end Go.Proofs.YtdmpobegobfpjaaGreat.tx
namespace Go.Proofs.YtdmpobegobfpjaaGreat
open Go.RowKit
open Go.Sort (grow)
def rep0 (k : C6) : List (List C2) × Bool := repl k (List.replicate k.places.length zeros) (ordJ k k.txs.length)
def RAnsP (w : World) (k : C6) (e : Ending) (w' : World) : Prop := ∃ v gs, e = .returned (.tuple #[v, .bool (rep0 k).2]) ∧ All w' w.heap.size v gs (rep0 k).1 ∧ Below w.heap.size w w'
theorem All.up {W : World} {base base' : Nat} {v : Value} {gs : List (Nat × Nat)} {css : List (List C2)} (h : All W base' v gs css) (hb : base ≤ base') : All W base v gs css := by
  refine ⟨?_, h.len, fun r x xs hx hc => ?_, h.inj⟩
  · obtain ⟨h1, h2⟩ := h.row
    refine ⟨h1, h2.imp id ?_⟩
    rintro ⟨g, cap, cur, e, hg, r⟩
    exact ⟨g, cap, cur, e, Nat.le_trans hb hg, r⟩
  · obtain ⟨h1, h2⟩ := h.cs r x xs hx hc
    exact ⟨Nat.le_trans hb h1, h2⟩
end Go.Proofs.YtdmpobegobfpjaaGreat
namespace Go.Proofs.YtdmpobegobfpjaaGreat
open Go.RowKit
end Go.Proofs.YtdmpobegobfpjaaGreat
namespace Go.Proofs.YtdmpobegobfpjaaGreat
open Go.RowKit
open Go.Sort (grow)
def serB (k : C6) : Bool := clusterB k && (rep0 k).2
def KC.Rd (X : World) (a : Option Addr) (_ : Nat) (xs : List C2) : Prop := SlC X X.heap.size a xs.length xs
theorem KC.Rd.later {X Y : World} {a : Option Addr} {c : Nat} {xs : List C2} (h : KC.Rd X a c xs) (b : Below X.heap.size X Y) : KC.Rd Y a c xs := SlC.later h b
def KC.Ow (w : World) (B : Nat) (a : Option Addr) (_ : Nat) (xs : List C2) (P : Nat → Prop) : Prop := (xs = [] ∨ ∃ q, a = some ⟨q, 0, none⟩ ∧ P q ∧ CellsAt w q 0 xs ∧ Room w q (xs.length * 2)) ∧ (∀ q, P q → B ≤ q ∧ q < w.heap.size)
theorem KC.Ow.of {w : World} {B : Nat} {a : Option Addr} {c : Nat} {xs : List C2} {P : Nat → Prop} (h : KC.Ow w B a c xs P) {q : Nat} (hq : P q) : B ≤ q ∧ q < w.heap.size := h.2 q hq
theorem KC.Ow.sl {w : World} {B : Nat} {a : Option Addr} {c : Nat} {xs : List C2} {P : Nat → Prop} (h : KC.Ow w B a c xs P) : KC.Rd w a c xs := by
  rcases h with ⟨rfl | ⟨q, rfl, hp, h1, h2⟩, hb⟩
  · exact ⟨rfl, .inl rfl⟩
  · exact ⟨rfl, .inr ⟨q, 0, rfl, (hb q hp).2, h1⟩⟩
theorem KC.Ow.keep {w : World} {B : Nat} {a : Option Addr} {c : Nat} {xs : List C2} {P : Nat → Prop} {w' : World} (h : KC.Ow w B a c xs P) (hs : w.heap.size ≤ w'.heap.size) (hk : ∀ q, P q → w'.heap[q]? = w.heap[q]?) : KC.Ow w' B a c xs P := by
  rcases h with ⟨h | ⟨q, e, hp, h1, h2⟩, hb⟩
  · exact ⟨.inl h, fun q hq => ⟨(hb q hq).1, Nat.lt_of_lt_of_le (hb q hq).2 hs⟩⟩
  · exact ⟨.inr ⟨q, e, hp, h1.of_block (hk q hp), room_blk h2 (hk q hp)⟩, fun q hq => ⟨(hb q hq).1, Nat.lt_of_lt_of_le (hb q hq).2 hs⟩⟩
theorem KC.Ow.later {w : World} {B : Nat} {a : Option Addr} {c : Nat} {xs : List C2} {P : Nat → Prop} {w' : World} (h : KC.Ow w B a c xs P) (hb : Below w.heap.size w w') : KC.Ow w' B a c xs P := h.keep hb.size (fun q hq => hb.block q (h.of hq).2)
theorem KC.Ow.low {w : World} {B : Nat} {a : Option Addr} {c : Nat} {xs : List C2} {P : Nat → Prop} {B' : Nat} (h : KC.Ow w B a c xs P) (hb : B' ≤ B) : KC.Ow w B' a c xs P := ⟨h.1, fun q hq => ⟨Nat.le_trans hb (h.2 q hq).1, (h.2 q hq).2⟩⟩
theorem KC.eq (X : World) (a : Option Addr) (c : Nat) (a' : Option Addr) (c' : Nat) (xs : List C2) (ht : xs.length ≤ 1048576) (h1 : KC.Rd X a c xs) (h2 : KC.Rd X a' c' xs) : Calls Tryz.prog 20 #[.slice a xs.length c, .slice a' xs.length c'] X fun e w' => e = .returned (.bool true) ∧ Below X.heap.size X w' := eqCellS_any X a a' xs.length c c' xs (by unfold maxLen; omega) h1 h2
theorem KC.mark (X : World) (B : Nat) (a : Option Addr) (c : Nat) (xs : List C2) (P : Nat → Prop) (k : Int) (hk : 0 ≤ k) (hk' : k ≤ 1000000000) (ht : xs.length ≤ 1048576) (h : KC.Ow X B a c xs P) : Calls Tryz.prog 21 #[.slice a xs.length c, .int .i64 k] X fun r w' => r = .returned (.int .i64 (k + 2 * (xs.length : Int))) ∧ KeptP P X w' ∧ KC.Rd w' a c (mkCells k xs.length) := by
  rcases h with ⟨rfl | ⟨q, rfl, hp, h1, h2⟩, hb⟩
  · refine (markCellS_nil X a c k).mono ?_
    rintro e w' ⟨rfl, rfl⟩
    exact ⟨by simp, KeptP.refl _ _, by simp [KC.Rd, mkCells, SlC]⟩
  · refine (markCellS_k X q xs.length c k ht hk hk' h2).mono ?_
    rintro e w' ⟨rfl, ho, hc, hr⟩
    exact ⟨rfl, KeptP.of_only ho hp, by unfold KC.Rd; exact ⟨rfl, .inr ⟨q, 0, rfl, by rw [ho.size]; exact (hb q hp).2, hc⟩⟩⟩
theorem KC.held (X : World) (a : Option Addr) (c : Nat) (xs : List C2) (k : Int) (hk : 0 ≤ k) (hk' : k ≤ 1000000000) (ht : xs.length ≤ 1048576) (h : KC.Rd X a c (mkCells k xs.length)) : Calls Tryz.prog 22 #[.slice a xs.length c, .int .i64 k] X fun r w' => r = .returned (.int .i64 (k + 2 * (xs.length : Int))) ∧ Below X.heap.size X w' := by
  unfold KC.Rd at h
  rw [mkCells_len] at h
  refine (heldCellS_k X a xs.length c k ht hk hk' h).mono ?_
  rintro e w' ⟨rfl, rfl⟩
  exact ⟨rfl, Below.refl _ _⟩
def priM (k : C6) (i : Nat) : M4 := atM k.machines (atN (atP k.places i) 0).toNat
noncomputable def celO (k : C6) (y : Int) : Option (List C2) := if clusterB k = true ∧ 0 ≤ y ∧ y < (k.places.length : Int) ∧ (priM k y.toNat).alive = true then some (atK (priM k y.toNat).copies (idxC (priM k y.toNat) y).toNat).cells else none
noncomputable def celN (k : C6) (y : Int) : List C2 := (celO k y).getD []
noncomputable def celB (k : C6) (y : Int) : Bool := (celO k y).isSome
def CAns (w : World) (N : List C2) (o : Bool) (e : Ending) (w' : World) : Prop := ∃ (a : Option Addr) (c : Nat) (P : Nat → Prop), e = .returned (.tuple #[.slice a N.length c, .bool o]) ∧ KC.Ow w' w.heap.size a c N P ∧ Below w.heap.size w w'
theorem CAns.zero {w w' : World} {k : C6} {y : Int} (hn : celN k y = [] ∧ celB k y = false) (a : Option Addr) (c : Nat) (h : Below w.heap.size w w') : CAns w (celN k y) (celB k y) (.returned (.tuple #[.slice a 0 c, .bool false])) w' := by
  rw [hn.1, hn.2]
  exact ⟨a, c, fun _ => False, rfl, ⟨.inl rfl, fun _ h => h.elim⟩, h⟩
theorem CAns.some {w w' : World} {k : C6} {y : Int} {xs : List C2} (hn : celN k y = xs ∧ celB k y = true) {q c : Nat} (h1 : w.heap.size ≤ q) (h2 : q < w'.heap.size) (h3 : CellsAt w' q 0 xs) (h4 : Room w' q (xs.length * 2)) (h : Below w.heap.size w w') : CAns w (celN k y) (celB k y) (.returned (.tuple #[.slice (some ⟨q, 0, none⟩) xs.length c, .bool true])) w' := by
  rw [hn.1, hn.2]
  exact ⟨_, c, fun x => x = q, rfl, ⟨.inr ⟨q, rfl, rfl, h3, h4⟩, fun x hx => by subst hx; exact ⟨h1, h2⟩⟩, h⟩
def finB (k : C6) (y : Int) : Bool := serB k && inB 0 ((k.places.length : Int) - 1) y
def finL (k : C6) (y : Int) : List C2 := if finB k y = true then (rep0 k).1[y.toNat]?.getD [] else []
end Go.Proofs.YtdmpobegobfpjaaGreat
namespace Go.Proofs.YtdmpobegobfpjaaGreat
open Go.RowKit
theorem ordR_len (k : C6) : (ordR k).length ≤ 1048576 := by
  unfold ordR
  split
  · rename_i h
    have h1 := (CSm.of h).t
    have h2 := ordJ_len k k.txs.length
    rw [List.length_map]
    omega
  · simp
end Go.Proofs.YtdmpobegobfpjaaGreat
namespace Go.Proofs.YtdmpobegobfpjaaGreat
open Go.ChangeShapes Go.WideShapes Go.ChangeAt Go.RowKit
def S5.cells (s : S5) : List Value := [.int .i64 s.region, .int .i64 s.slot, .int .i64 s.value, .bool s.used, .int .i64 s.version]
def S5.wf (s : S5) : Prop := (Lit.int .i64 s.region).wf = true ∧ (Lit.int .i64 s.slot).wf = true ∧ (Lit.int .i64 s.value).wf = true ∧ (Lit.int .i64 s.version).wf = true
theorem list5 {α : Type} {cs : List α} (h : cs.length = 5) : ∃ c0 c1 c2 c3 c4, cs = [c0, c1, c2, c3, c4] := by
  match cs, h with
  | [c0, c1, c2, c3, c4], _ => exact ⟨c0, c1, c2, c3, c4, rfl⟩
theorem cells_set : Tryz.prog.cellsOf 200 = 5 := by kernel_rfl
theorem cells_int : Tryz.prog.cellsOf 2 = 1 := by kernel_rfl
theorem cells_bool : Tryz.prog.cellsOf 4 = 1 := by kernel_rfl
theorem open_set {H : Type} {enc : TypeId × Value → H} {w : World} {base : Nat} {spare : Nat → Bool} {held : Bool} {fuel : Nat} {cs : List Value} {x : DataW H × List MemPlace}
    (h : DataW.trod enc Tryz.prog w base spare held fuel 200 cs = some x) : ∃ s : S5, cs = s.cells ∧ s.wf := by
  obtain ⟨xs, n, _, rfl, hl, hlen, hf⟩ := DataW.trod_struct Tryz.underlying200 h
  rw [cells_set] at hl
  obtain ⟨c0, c1, c2, c3, c4, rfl⟩ := list5 hl
  obtain ⟨y0, y1, y2, y3, y4, rfl⟩ := list5 hlen
  have h0 := hf 0 _ rfl
  have h1 := hf 1 _ rfl
  have h2 := hf 2 _ rfl
  have h3 := hf 3 _ rfl
  have h4 := hf 4 _ rfl
  simp [cells_int, cells_bool] at h0 h1 h2 h3 h4
  obtain ⟨z0, e0, _, f0⟩ := DataW.trod_int Tryz.underlying2 h0
  obtain ⟨z1, e1, _, f1⟩ := DataW.trod_int Tryz.underlying2 h1
  obtain ⟨z2, e2, _, f2⟩ := DataW.trod_int Tryz.underlying2 h2
  obtain ⟨z3, e3, _⟩ := DataW.trod_bool Tryz.underlying4 h3
  obtain ⟨z4, e4, _, f4⟩ := DataW.trod_int Tryz.underlying2 h4
  simp at e0 e1 e2 e3 e4
  subst e0 e1 e2 e3 e4
  exact ⟨⟨z0, z1, z2, z3, z4⟩, rfl, f0, f1, f2, f4⟩
end Go.Proofs.YtdmpobegobfpjaaGreat
namespace Go.Proofs.YtdmpobegobfpjaaGreat
open Go.ChangeShapes Go.WideShapes Go.ChangeAt Go.RowKit Go.Deep
theorem list2 {α : Type} {cs : List α} (h : cs.length = 2) : ∃ c0 c1, cs = [c0, c1] := by
  match cs, h with
  | [c0, c1], _ => exact ⟨c0, c1, rfl⟩
theorem cells_cell : Tryz.prog.cellsOf 235 = 2 := by kernel_rfl
theorem cells_num : Tryz.prog.cellsOf 2 = 1 := by kernel_rfl
theorem open_cell {H : Type} {enc : TypeId × Value → H} {w : World} {base : Nat} {spare : Nat → Bool} {held : Bool} {fuel : Nat} {cs : List Value} {x : DataW H × List MemPlace}
    (h : DataW.trod enc Tryz.prog w base spare held fuel 235 cs = some x) : ∃ s : C2, cs = s.cells := by
  obtain ⟨xs, n, _, rfl, hl, hlen, hf⟩ := DataW.trod_struct Tryz.underlying235 h
  rw [cells_cell] at hl
  obtain ⟨c0, c1, rfl⟩ := list2 hl
  obtain ⟨y0, y1, rfl⟩ := list2 hlen
  have h0 := hf 0 _ rfl
  have h1 := hf 1 _ rfl
  simp [cells_num] at h0 h1
  obtain ⟨z0, e0, _, _⟩ := DataW.trod_int Tryz.underlying2 h0
  obtain ⟨z1, e1, _, _⟩ := DataW.trod_int Tryz.underlying2 h1
  simp at e0 e1
  subst e0 e1
  exact ⟨⟨z0, z1⟩, rfl⟩
theorem some_of {α : Type} {p : Nat → α → Prop} (n : Nat) (h : ∀ i, i < n → ∃ x, p i x) : ∃ xs : List α, xs.length = n ∧ ∀ i x, xs[i]? = some x → p i x := by
  induction n with
  | zero => exact ⟨[], rfl, fun i x e => by simp at e⟩
  | succ n ih =>
    obtain ⟨xs, hl, hx⟩ := ih fun i hi => h i (by omega)
    obtain ⟨y, hy⟩ := h n (by omega)
    refine ⟨xs ++ [y], by simp [hl], fun i x e => ?_⟩
    by_cases hi : i < xs.length
    · rw [List.getElem?_append_left hi] at e
      exact hx i x e
    · rw [List.getElem?_append_right (by omega)] at e
      have : i = xs.length := by
        by_cases h2 : i - xs.length = 0
        · omega
        · rw [List.getElem?_eq_none (by simp; omega)] at e; cases e
      subst this
      simp at e
      subst e
      rw [hl]; exact hy
end Go.Proofs.YtdmpobegobfpjaaGreat