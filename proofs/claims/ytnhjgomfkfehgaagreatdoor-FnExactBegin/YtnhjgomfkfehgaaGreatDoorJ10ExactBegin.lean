/- PlacesI1; PlacesIa; CluI7; HomL; CluS; Cmp; FindT; AtId; DedD; YTxN: joined. -/
import Derived.Test.YtnhjgomfkfehgaaGreatDoorRows
import Derived.Test.YtnhjgomfkfehgaaGreatDoorJ7ExactBegin
import Derived.WalkKit
import Derived.WalkSpells
import Derived.WalkLawsBesides
import Derived.Below
import Derived.BigQuiet
import Derived.Deep.QuietTactic
import Derived.Test.YtnhjgomfkfehgaaGreatDoorJ9ExactBegin
import Derived.Lib.QuietBelow
import Derived.Deep.CutRange
import Derived.Test.YtnhjgomfkfehgaaGreatDoorJ6ExactBegin
import Derived.Test.YtnhjgomfkfehgaaGreatDoorJ5ExactBegin
import Derived.Test.YtnhjgomfkfehgaaGreatDoorJ8ExactBegin
import Derived.LaidEql
import Derived.Stop.Asserts
import Derived.RowKitTokens
import Derived.Deep.Upon
import Derived.Deep.RegionWith
import Derived.Test.YtnhjgomfkfehgaaGreatDoorJ4ExactBegin
namespace Go.Proofs.YtnhjgomfkfehgaaGreatDoor
open Go.RowKit
theorem implMachine (w : World) (x : Int) : Calls Tryz.prog 153 #[.int .i64 x] w fun e w' => e = .returned (.bool (inB 0 7 x)) ∧ w' = w := by
  by_cases h0 : 0 ≤ x
  · by_cases h8 : x < 8
    · rw [inB_yes (by omega) (by omega)]
      go_enter Tryz.func153, Tryz.ntmps153
      go_wp2
      go_ret
      exact ⟨rfl, rfl⟩
    · have hd : decide (x < 8) = false := by simp; omega
      have hb : inB 0 7 x = false := by cases h : inB 0 7 x with | false => rfl | true => rw [inB_iff] at h; omega
      rw [hb]
      go_enter Tryz.func153, Tryz.ntmps153
      go_wp2
      go_ret
      exact ⟨rfl, rfl⟩
  · have hd : decide (0 ≤ x) = false := by simp; omega
    have hb : inB 0 7 x = false := by cases h : inB 0 7 x with | false => rfl | true => rw [inB_iff] at h; omega
    rw [hb]
    go_enter Tryz.func153, Tryz.ntmps153
    go_wp2
    go_ret
    exact ⟨rfl, rfl⟩
set_option maxHeartbeats 1000000 in
theorem index_any (w : World) (a : Option Addr) (n cap : Nat) (z : Int) (zs : List Int) (hn : n ≤ maxLen) (hs : SlN w w.heap.size a n zs) :
    Calls Tryz.prog 220 #[.slice a n cap, .int .i64 z] w fun e w' => (∃ i : Int, e = .returned (.int .i64 i) ∧ decide (0 ≤ i) = hasB zs z) ∧ w' = w := by
  unfold maxLen at hn
  obtain ⟨hx, hs⟩ := hs
  go_enter Tryz.func220, Tryz.ntmps220
  go_wp2
  go_loop [8] (fun v => ∃ k : Nat, k ≤ n ∧ v = .int .i64 k ∧ ∀ i, i < k → atN zs i ≠ z) (fun v => n - (intOf v).toNat)
  case atStart => exact ⟨0, Nat.zero_le _, rfl, fun i h => absurd h (by omega)⟩
  case round =>
    obtain ⟨k, hk, rfl, hall⟩ := hrel
    have K : Hid ((∀ i, i < k → atN zs i ≠ z) ∧ zs.length = n) := ⟨hall, hx⟩
    by_cases hlt : k < n
    · rcases hs with hs | ⟨b, off, rfl, hb, h1⟩
      · omega
      · have c := h1 k _ (atN_of (by omega))
        clear h1 hall hx
        by_cases he : atN zs k = z
        · have q : (z == atN zs k) = true := by simp [he]
          have HE : Hid (atN zs k = z) := he
          clear he
          go_wp2
          go_ret
          exact ⟨⟨_, rfl, by rw [has_yes (by rw [K.out.2]; exact hlt) HE.out]; simp⟩, rfl⟩
        · have q : (z == atN zs k) = false := by simp; exact fun h => he h.symm
          have HE : Hid (atN zs k ≠ z) := he
          clear he
          go_wp2
          refine ⟨⟨k + 1, by omega, by simp, fun i hi => ?_⟩, by simp [intOf]; omega⟩
          by_cases e : i = k
          · rw [e]; exact HE.out
          · exact K.out.1 i (by omega)
    · have : k = n := by omega
      subst this
      have hd : decide ((k : Int) < (k : Int)) = false := by simp
      clear hall hx hs
      go_wp2
      go_ret
      exact ⟨⟨_, rfl, by rw [has_no (by rw [K.out.2]; exact K.out.1)]; rfl⟩, rfl⟩
theorem contains_any (w : World) (a : Option Addr) (n cap : Nat) (z : Int) (zs : List Int) (hn : n ≤ maxLen) (hs : SlN w w.heap.size a n zs) :
    Calls Tryz.prog 172 #[.slice a n cap, .int .i64 z] w fun e w' => e = .returned (.bool (hasB zs z)) ∧ w' = w := by
  have hi := index_any w a n cap z zs hn hs
  clear hs
  go_enter Tryz.func172, Tryz.ntmps172
  go_wp2_with fail
  refine hi.mono ?_
  clear hi
  rintro e w1 ⟨⟨i, rfl, hb⟩, rfl⟩
  go_wp2
  go_ret
  exact ⟨rfl, rfl⟩
set_option maxHeartbeats 4000000 in
theorem placeOk_any (w : World) (a : Option Addr) (cap : Nat) (zs : List Int) (hs : SlN w w.heap.size a zs.length zs) (hcp : zs.length ≤ cap) :
    Calls Tryz.prog 233 #[.agg #[.slice a zs.length cap]] w fun e w' => e = .returned (.bool (placeB zs)) ∧ Below w.heap.size w w' := by
  have b0 : Below w.heap.size w (w.alloc (.cells #[.slice a zs.length cap] 127)) := (Below.refl _ _).alloc (Nat.le_refl _) _
  by_cases h3 : zs.length < 1 ∨ 3 < zs.length
  · have hpf : placeB zs = false := by
      rcases h3 with h | h
      · simp [placeB, show ¬ 1 ≤ zs.length by omega]
      · simp [placeB, show ¬ zs.length ≤ 3 by omega]
    rw [hpf]
    rcases h3 with h | h
    · have d3 : decide ((zs.length : Int) < 1) = true := by simp; omega
      go_enter Tryz.func233, Tryz.ntmps233
      go_wp2
      go_ret
      exact ⟨rfl, b0⟩
    · have d3 : decide ((zs.length : Int) < 1) = false := by simp; omega
      have d4 : decide ((3 : Int) < (zs.length : Int)) = true := by simp; omega
      go_enter Tryz.func233, Tryz.ntmps233
      go_wp2
      go_ret
      exact ⟨rfl, b0⟩
  · have d3 : decide ((zs.length : Int) < 1) = false := by simp; omega
    have d4 : decide ((3 : Int) < (zs.length : Int)) = false := by simp; omega
    have HG : Hid (placeB zs = (List.range zs.length).all (goodAt zs)) := by unfold Hid; simp [placeB, show 1 ≤ zs.length by omega, show zs.length ≤ 3 by omega]
    have KS : Hid (SlN w w.heap.size a zs.length zs) := hs
    have KB : Hid (Below w.heap.size w (w.alloc (.cells #[.slice a zs.length cap] 127))) := b0
    clear hs b0
    go_enter Tryz.func233, Tryz.ntmps233
    go_wp2
    go_loopw [18] (fun v18 wr => ∃ k : Nat, k ≤ zs.length ∧ v18 = .int .i64 k ∧ Below (w.heap.size + 1) (w.alloc (.cells #[.slice a zs.length cap] 127)) wr ∧ (List.range k).all (goodAt zs) = true) (fun v18 _ => zs.length - (intOf v18).toNat)
    case atStart => exact ⟨0, Nat.zero_le _, rfl, Below.refl _ _, rfl⟩
    case round =>
      obtain ⟨k, hk, rfl, hbq, hgk⟩ := hrel
      have hbw : Below w.heap.size w wr := KB.out.trans (hbq.mono (by omega))
      by_cases hkl : k < zs.length
      · obtain ⟨_, hsn⟩ := KS.out
        rcases hsn with hsn | ⟨b', off', rfl, hb', h2⟩
        · omega
        · have cp : wr.cell? ⟨w.heap.size, 0, none⟩ = some (.slice (some ⟨b', off', none⟩) zs.length cap) := (hbq.cell (p := ⟨w.heap.size, 0, none⟩) (by simp)).trans (by go_simp)
          have ck := (hbw.cell (p := ⟨b', off' + k, none⟩) hb').trans (h2 k _ (atN_of hkl))
          have hst : SlN wr wr.heap.size (some ⟨b', off', none⟩) k (zs.take k) := ⟨by rw [List.length_take]; omega, .inr ⟨b', off', rfl, Nat.lt_of_lt_of_le hb' hbw.size, fun i z e => by
            rw [List.getElem?_take] at e
            split at e
            · exact (h2.below hbw hb') i z e
            · cases e⟩⟩
          have KQ : Hid (Below (w.heap.size + 1) (w.alloc (.cells #[.slice (some ⟨b', off', none⟩) zs.length cap] 127)) wr ∧ (List.range k).all (goodAt zs) = true ∧ Below w.heap.size w wr) := ⟨hbq, hgk, hbw⟩
          have hkm : k ≤ maxLen := by unfold maxLen; omega
          have cH : Calls Tryz.prog 172 #[.slice (some ⟨b', off', none⟩) k cap, .int .i64 (atN zs k)] wr fun e w'' => e = .returned (.bool (hasB (zs.take k) (atN zs k))) ∧ w'' = wr := contains_any wr _ k cap (atN zs k) (zs.take k) hkm hst
          have cM := implMachine wr (atN zs k)
          have HK : Hid (goodAt zs k = (inB 0 7 (atN zs k) && !hasB (zs.take k) (atN zs k))) := rfl
          have hkc : k ≤ cap := by omega
          clear h2 hbq hgk hst hbw
          generalize atN zs k = z at *
          cases g1 : inB 0 7 z with
          | false =>
            rw [g1] at cM
            have hgf : goodAt zs k = false := by rw [HK.out, g1]; rfl
            go_wp2_with fail
            refine cM.mono ?_
            clear cM cH
            rintro e wr ⟨rfl, rfl⟩
            go_wp2
            go_ret
            exact ⟨by rw [HG.out, all_off hkl hgf]; rfl, KQ.out.2.2⟩
          | true =>
            rw [g1] at cM
            cases g2 : hasB (zs.take k) z with
            | true =>
              rw [g2] at cH
              have hgf : goodAt zs k = false := by rw [HK.out, g1, g2]; rfl
              go_wp2_with fail
              refine cM.mono ?_
              clear cM
              rintro e wr ⟨rfl, rfl⟩
              go_wp2_with fail
              refine cH.mono ?_
              clear cH
              rintro e wr ⟨rfl, rfl⟩
              go_wp2
              go_ret
              exact ⟨by rw [HG.out, all_off hkl hgf]; rfl, KQ.out.2.2⟩
            | false =>
              rw [g2] at cH
              have hgt : goodAt zs k = true := by rw [HK.out, g1, g2]; rfl
              go_wp2_with fail
              refine cM.mono ?_
              clear cM
              rintro e wr ⟨rfl, rfl⟩
              go_wp2_with fail
              refine cH.mono ?_
              clear cH
              rintro e wr ⟨rfl, rfl⟩
              go_wp2
              exact ⟨⟨k + 1, by omega, by simp, KQ.out.1, all_on KQ.out.2.1 hgt⟩, by simp [intOf]; omega⟩
      · have : k = zs.length := by omega
        subst this
        have hd : decide ((zs.length : Int) < (zs.length : Int)) = false := by simp
        go_wp2
        go_ret
        exact ⟨by rw [HG.out, hgk]; rfl, hbw⟩
theorem wrong_any (w : World) (a : Option Addr) (cap : Nat) (zs : List Int) (hs : SlN w w.heap.size a zs.length zs) (hcp : zs.length ≤ cap) :
    Calls Tryz.prog 232 #[.agg #[.slice a zs.length cap]] w fun e w' => e = .returned (.bool (!placeB zs)) ∧ Below w.heap.size w w' := by
  have b0 : Below w.heap.size w (w.alloc (.cells #[.slice a zs.length cap] 127)) := (Below.refl _ _).alloc (Nat.le_refl _) _
  have hc := placeOk_any (w.alloc (.cells #[.slice a zs.length cap] 127)) a cap zs (hs.later b0) hcp
  have B0 : Hid (Below w.heap.size w (w.alloc (.cells #[.slice a zs.length cap] 127))) := b0
  clear hs b0
  generalize placeB zs = V at *
  generalize zs.length = n at *
  go_enter Tryz.func232, Tryz.ntmps232
  go_wp2_with fail
  refine hc.mono ?_
  clear hc
  rintro e w1 ⟨rfl, b1⟩
  go_wp2
  go_ret
  exact ⟨rfl, B0.out.trans (b1.mono (by simp))⟩
set_option maxHeartbeats 2000000 in
theorem indexFunc_any (w : World) (a : Option Addr) (n cap : Nat) (zss : List (List Int)) (hn : n ≤ maxLen) (hs : SlP w w.heap.size a n zss) :
    Calls Tryz.prog 266 #[.slice a n cap, .func (.func 232) #[] #[]] w fun e w' => (∃ i : Int, e = .returned (.int .i64 i) ∧ decide (0 ≤ i) = !((List.range n).all fun i => placeB (atP zss i))) ∧ Below w.heap.size w w' := by
  unfold maxLen at hn
  obtain ⟨hx, hs⟩ := hs
  go_enter Tryz.func266, Tryz.ntmps266
  go_wp2
  go_loopw [8] (fun v wr => ∃ j : Nat, j ≤ n ∧ v = .int .i64 j ∧ Below w.heap.size w wr ∧ (List.range j).all (fun i => placeB (atP zss i)) = true) (fun v _ => n - (intOf v).toNat)
  case atStart => exact ⟨0, Nat.zero_le _, rfl, Below.refl _ _, rfl⟩
  case round =>
    obtain ⟨j, hj, rfl, hbl, hall⟩ := hrel
    by_cases hlt : j < n
    · rcases hs with hs | ⟨b, off, rfl, hb, h1⟩
      · omega
      · obtain ⟨a', cap', hc, hsl, hcp⟩ := h1 j _ (atP_of (by omega))
        have c := (hbl.cell (p := ⟨b, off + j, none⟩) hb).trans hc
        have KA : Hid ((List.range j).all (fun i => placeB (atP zss i)) = true ∧ Below w.heap.size w wr) := ⟨hall, hbl⟩
        have hw := wrong_any wr a' cap' (atP zss j) ((hsl.below hbl).mono hbl.size) hcp
        have HF : Hid (placeB (atP zss j) = false → ((List.range n).all fun i => placeB (atP zss i)) = false) := fun h => all_off hlt h
        have HT : Hid (placeB (atP zss j) = true → ((List.range (j + 1)).all fun i => placeB (atP zss i)) = true) := fun h => all_on hall h
        clear h1 hc hall hsl hbl hcp
        generalize (atP zss j).length = m at *
        cases hp : placeB (atP zss j) with
        | false =>
          rw [hp] at hw
          go_wp2_with fail
          refine hw.mono ?_
          clear hw
          rintro e w1 ⟨rfl, b1⟩
          go_wp2
          go_ret
          exact ⟨⟨_, rfl, by rw [HF.out hp]; simp⟩, KA.out.2.trans (b1.mono KA.out.2.size)⟩
        | true =>
          rw [hp] at hw
          go_wp2_with fail
          refine hw.mono ?_
          clear hw
          rintro e w1 ⟨rfl, b1⟩
          go_wp2
          exact ⟨⟨j + 1, by omega, by simp, KA.out.2.trans (b1.mono KA.out.2.size), HT.out hp⟩, by simp [intOf]; omega⟩
    · have : j = n := by omega
      subst this
      have hd : decide ((j : Int) < (j : Int)) = false := by simp
      clear hs
      go_wp2
      go_ret
      exact ⟨⟨_, rfl, by rw [hall]; rfl⟩, hbl⟩
theorem containsFunc_any (w : World) (a : Option Addr) (n cap : Nat) (zss : List (List Int)) (hn : n ≤ maxLen) (hs : SlP w w.heap.size a n zss) :
    Calls Tryz.prog 234 #[.slice a n cap, .func (.func 232) #[] #[]] w fun e w' => e = .returned (.bool (!((List.range n).all fun i => placeB (atP zss i)))) ∧ Below w.heap.size w w' := by
  have hi := indexFunc_any w a n cap zss hn hs
  clear hs
  generalize (!((List.range n).all fun i => placeB (atP zss i))) = V at *
  go_enter Tryz.func234, Tryz.ntmps234
  go_wp2_with fail
  refine hi.mono ?_
  clear hi
  rintro e w1 ⟨⟨i, rfl, hb⟩, b1⟩
  go_wp2
  go_ret
  exact ⟨rfl, b1⟩
set_option maxHeartbeats 1000000 in
theorem implPlacesOk_any (w : World) (a : Option Addr) (n cap : Nat) (zss : List (List Int)) (hn : n ≤ maxLen) (hs : SlP w w.heap.size a n zss) :
    Calls Tryz.prog 192 #[.slice a n cap] w fun e w' => e = .returned (.bool (placesB zss)) ∧ Below w.heap.size w w' := by
  have hx := hs.1
  have hc := containsFunc_any w a n cap zss hn hs
  unfold maxLen at hn
  by_cases h1 : 1 ≤ n
  · by_cases h6 : n ≤ 6
    · have d1 : (1 : Int) ≤ (n : Int) := by omega
      have d6 : (n : Int) ≤ 6 := by omega
      have hV : placesB zss = ((List.range n).all fun i => placeB (atP zss i)) := by simp [placesB, hx, h1, h6]
      rw [hV]
      generalize ((List.range n).all fun i => placeB (atP zss i)) = V at *
      clear hs hV
      go_enter Tryz.func192, Tryz.ntmps192
      go_wp2_with fail
      refine hc.mono ?_
      clear hc
      rintro e w1 ⟨rfl, b1⟩
      go_wp2
      go_ret
      exact ⟨by simp, b1⟩
    · have d1 : (1 : Int) ≤ (n : Int) := by omega
      have d6 : decide ((n : Int) ≤ 6) = false := by simp; omega
      have hV : placesB zss = false := by simp [placesB, hx, h6]
      rw [hV]
      clear hs hV hc
      go_enter Tryz.func192, Tryz.ntmps192
      go_wp2
      go_ret
      exact ⟨rfl, Below.refl _ _⟩
  · obtain rfl : n = 0 := by omega
    have hV : placesB zss = false := by simp [placesB, hx]
    rw [hV]
    clear hs hV hc
    go_enter Tryz.func192, Tryz.ntmps192
    go_wp2
    go_ret
    exact ⟨rfl, Below.refl _ _⟩
end Go.Proofs.YtnhjgomfkfehgaaGreatDoor
namespace Go.Proofs.YtnhjgomfkfehgaaGreatDoor
open Go.RowKit
open Go.Sort (grow)
set_option maxHeartbeats 1000000 in
theorem isConfig_any (w : World) (x : Int) : Calls Tryz.prog 189 #[.int .i64 x] w fun e w' => e = .returned (.bool (inB 1 1000000 x)) ∧ w' = w := by
  have hc := tx.implId w x
  go_enter Tryz.func189, Tryz.ntmps189
  go_wp2_with fail
  refine hc.mono ?_
  clear hc
  rintro e w1 ⟨rfl, rfl⟩
  go_wp2
  go_ret
  exact ⟨rfl, rfl⟩
theorem clusterB_eq (k : C6) : clusterB k = (inB 1 1000000 k.config && (inB 0 1000000 k.clock && ((decide (1 ≤ k.machines.length) && decide (k.machines.length ≤ 8) && machsB k.machines) && (placesB k.places && (placedB k.places k.machines && (decide (k.txs.length ≤ 60) && txsB k)))))) := by
  unfold clusterB
  ac_rfl
set_option maxRecDepth 100000 in
set_option maxHeartbeats 4000000 in
theorem implClusterOk_any (w : World) (a1 : Option Addr) (c1 : Nat) (a2 : Option Addr) (c2 : Nat) (a3 : Option Addr) (c3 : Nat) (k : C6) (hl : KCl.L k) (h : KCl.Rd w a1 c1 a2 c2 a3 c3 k) : Calls Tryz.prog 147 #[.agg #[.int .i64 k.config, .int .i64 k.clock, .slice a1 k.places.length c1, .slice a2 k.machines.length c2, .slice a3 k.txs.length c3, .bool k.lost]] w fun e w' => e = .returned (.bool (clusterB k)) ∧ Below w.heap.size w w' := by
  obtain ⟨U, hU⟩ : ∃ Y, Y = w.alloc (.cells #[.int .i64 k.config, .int .i64 k.clock, .slice a1 k.places.length c1, .slice a2 k.machines.length c2, .slice a3 k.txs.length c3, .bool k.lost] 32) := ⟨_, rfl⟩
  have b0 : Below w.heap.size w U := by rw [hU]; exact (Below.refl _ _).alloc (Nat.le_refl _) _
  have FA : Hid (Bx U w.heap.size [.int .i64 k.config, .int .i64 k.clock, .slice a1 k.places.length c1, .slice a2 k.machines.length c2, .slice a3 k.txs.length c3, .bool k.lost]) := by unfold Hid; rw [hU]; exact Bx.made w [.int .i64 k.config, .int .i64 k.clock, .slice a1 k.places.length c1, .slice a2 k.machines.length c2, .slice a3 k.txs.length c3, .bool k.lost] _
  have HR : Hid (KCl.Rd U a1 c1 a2 c2 a3 c3 k ∧ KCl.L k ∧ Below w.heap.size w U) := ⟨h.later b0, hl, b0⟩
  have HC : Hid (clusterB k = (inB 1 1000000 k.config && (inB 0 1000000 k.clock && ((decide (1 ≤ k.machines.length) && decide (k.machines.length ≤ 8) && machsB k.machines) && (placesB k.places && (placedB k.places k.machines && (decide (k.txs.length ≤ 60) && txsB k))))))) := clusterB_eq k
  have hc := isConfig_any U k.config
  clear b0 h hl
  go_enter Tryz.func147, Tryz.ntmps147
  go_wp2_with fail
  rw [← hU]
  clear hU
  refine hc.mono ?_
  clear hc
  rintro e w1 ⟨rfl, rfl⟩
  generalize w1 = U at *
  cases g1 : inB 1 1000000 k.config with
  | false =>
    have hb : Hid (clusterB k = false) := by unfold Hid; rw [HC.out, g1]; rfl
    go_wp2
    go_ret
    exact ⟨by rw [hb.out]; rfl, HR.out.2.2⟩
  | true =>
  have p1 := FA.out.1 1 _ rfl
  have hc := tx.implStamp U k.clock
  go_wp2_with fail
  refine hc.mono ?_
  clear hc p1
  rintro e w1 ⟨rfl, rfl⟩
  generalize w1 = U at *
  cases g2 : inB 0 1000000 k.clock with
  | false =>
    have hb : Hid (clusterB k = false) := by unfold Hid; rw [HC.out, g2]; simp
    go_wp2
    go_ret
    exact ⟨by rw [hb.out]; rfl, HR.out.2.2⟩
  | true =>
  have p3 := FA.out.1 3 _ rfl
  have hc := machinesOk_any U a2 c2 k.machines HR.out.2.1.m HR.out.2.1.ms HR.out.1.m
  go_wp2_with fail
  refine hc.mono ?_
  clear hc p3
  rintro e w1 ⟨rfl, b1⟩
  have B1 := hidOf b1
  clear b1
  cases g3 : (decide (1 ≤ k.machines.length) && decide (k.machines.length ≤ 8) && machsB k.machines) with
  | false =>
    have hb : Hid (clusterB k = false) := by unfold Hid; rw [HC.out, g3]; simp
    go_wp2
    go_ret
    exact ⟨by rw [hb.out]; rfl, bstep HR.out.2.2 B1.out⟩
  | true =>
  have p2 := (FA.out.later B1.out).1 2 _ rfl
  have hc := implPlacesOk_any w1 a1 k.places.length c1 k.places HR.out.2.1.p (HR.out.1.p.later B1.out)
  go_wp2_with fail
  refine hc.mono ?_
  clear hc p2
  rintro e w2 ⟨rfl, b2⟩
  have B2 : Hid (Below U.heap.size U w2) := bstep B1.out b2
  clear b2 B1
  generalize w1 = wA at *
  cases g4 : placesB k.places with
  | false =>
    have hb : Hid (clusterB k = false) := by unfold Hid; rw [HC.out, g4]; simp
    go_wp2
    go_ret
    exact ⟨by rw [hb.out]; rfl, bstep HR.out.2.2 B2.out⟩
  | true =>
  have HC2 : Hid (clusterB k = (placedB k.places k.machines && (decide (k.txs.length ≤ 60) && txsB k))) := by unfold Hid; rw [HC.out, g1, g2, g3, g4]; rfl
  have HG : Hid (k.machines.length ≤ 8 ∧ machsB k.machines = true ∧ placesB k.places = true) := by
    simp only [Bool.and_eq_true, decide_eq_true_eq] at g3
    exact ⟨g3.1.2, g3.2, g4⟩
  clear g1 g2 g3 g4 HC
  have SF : Hid (∀ X, Below U.heap.size U X → (fun X : World => Bx X w.heap.size [.int .i64 k.config, .int .i64 k.clock, .slice a1 k.places.length c1, .slice a2 k.machines.length c2, .slice a3 k.txs.length c3, .bool k.lost]) X) := fun X hX => FA.out.later hX
  go_wp2_with fail
  have bd : Below U.heap.size U w2.drew := B2.out.drew
  have hS := SF.out _ bd
  refine wp_region_z (fun z => z == 10) (fun X : World => Bx X w.heap.size [.int .i64 k.config, .int .i64 k.clock, .slice a1 k.places.length c1, .slice a2 k.machines.length c2, .slice a3 k.txs.length c3, .bool k.lost]) (by kernel_rfl) ?_
  generalize w2.drew = Wd at *
  refine wpZ_takeP (i := 0) (v := ?_) rfl (by kernel_rfl) (fun _ _ _ h => h) (Or.inl ⟨by rfl, ?_⟩) hS ?_
  rotate_left
  · (intro X _; go_simp; first | done | with_reducible rfl)
  simp only [Act.put]
  refine wpZ_take (i := 1) (v := ?_) rfl (by kernel_rfl) (fun _ _ _ h => h) (Or.inl ⟨by rfl, ?_⟩) hS ?_
  rotate_left
  · (intro X hSw; have c0 := hSw.1 0 _ rfl; have c1 := hSw.1 1 _ rfl; have c2 := hSw.1 2 _ rfl; have c3 := hSw.1 3 _ rfl; have c4 := hSw.1 4 _ rfl; have c5 := hSw.1 5 _ rfl; go_simp; first | done | with_reducible rfl)
  simp only [Act.put]
  refine wpZ_takeP (i := 2) (v := ?_) rfl (by kernel_rfl) (fun _ _ _ h => h) (Or.inl ⟨by rfl, ?_⟩) hS ?_
  rotate_left
  · (intro X _; go_simp; first | done | with_reducible rfl)
  simp only [Act.put]
  refine wpZ_take (i := 3) (v := ?_) rfl (by kernel_rfl) (fun _ _ _ h => h) (Or.inl ⟨by rfl, ?_⟩) hS ?_
  rotate_left
  · (intro X hSw; have c0 := hSw.1 0 _ rfl; have c1 := hSw.1 1 _ rfl; have c2 := hSw.1 2 _ rfl; have c3 := hSw.1 3 _ rfl; have c4 := hSw.1 4 _ rfl; have c5 := hSw.1 5 _ rfl; go_simp; first | done | with_reducible rfl)
  simp only [Act.put]
  refine wpZ_ready (rs := [4]) (by kernel_rfl) (by simp) ?_
  refine AllZ.cons rfl (fun K hK => ?_) AllZ.nil
  go_simp
  refine (membersOf_any Wd a2 c2 k.machines HG.out.1 (HR.out.1.m.later bd)).mono ?_
  rintro e X1 ⟨rfl, hma, hsz, b1⟩
  have bX := bstep bd b1
  refine hK.out _ _ (fun _ => SF.out _ bX) ?_
  clear hK K
  have hS := SF.out _ bX
  refine wpZ_ready (rs := [5]) (by kernel_rfl) (by simp) ?_
  refine AllZ.cons rfl (fun K hK => ?_) AllZ.nil
  go_simp
  refine (placed_any Wd X1 a1 c1 Wd.heap.size k.places k.machines HR.out.2.1.ms HG.out.2.1 HG.out.2.2 HR.out.2.1.p HR.out.2.1.ps b1 hsz hma (HR.out.1.p.later bX)).mono ?_
  rintro e X2 ⟨rfl, b2⟩
  have bY := bstep bX b2
  refine hK.out _ _ (fun _ => SF.out _ bY) ?_
  clear hK K
  have hS := SF.out _ bY
  cases g5 : placedB k.places k.machines with
  | false =>
    have hb : Hid (clusterB k = false) := by unfold Hid; rw [HC2.out, g5]; rfl
    refine wpZ_takeP (i := 6) (v := ?_) rfl (by kernel_rfl) (fun _ _ _ h => h) (Or.inl ⟨by rfl, ?_⟩) hS ?_
    rotate_left
    · (intro X _; go_simp; first | done | with_reducible rfl)
    simp only [Act.put]
    refine wpZ_takeP (i := 7) (v := undef) rfl (by kernel_rfl) (fun _ _ _ h => h) (Or.inr ⟨by rfl, rfl⟩) hS ?_
    simp only [Act.put]
    refine wpZ_takeP (i := 8) (v := undef) rfl (by kernel_rfl) (fun _ _ _ h => h) (Or.inr ⟨by rfl, rfl⟩) hS ?_
    simp only [Act.put]
    refine wpZ_takeP (i := 9) (v := ?_) rfl (by kernel_rfl) (fun _ _ _ h => h) (Or.inl ⟨by rfl, ?_⟩) hS ?_
    rotate_left
    · (intro X _; go_simp; first | done | with_reducible rfl)
    simp only [Act.put]
    refine wpZ_ready (rs := [10]) (by kernel_rfl) (by simp) ?_
    refine AllZ.cons rfl (fun K hK => ?_) AllZ.nil
    go_simp
    refine hK.out _ _ (fun h => absurd (show false = true from h.symm.trans (by kernel_rfl)) (by decide)) ?_
    clear hK K
    refine wpZ_done (by kernel_rfl) ?_ _
    go_wp2
    go_ret
    exact ⟨by rw [hb.out]; rfl, bstep HR.out.2.2 bY⟩
  | true =>
    have hb : Hid (clusterB k = (decide (k.txs.length ≤ 60) && txsB k)) := by unfold Hid; rw [HC2.out, g5]; rfl
    refine wpZ_takeP (i := 6) (v := ?_) rfl (by kernel_rfl) (fun _ _ _ h => h) (Or.inl ⟨by rfl, ?_⟩) hS ?_
    rotate_left
    · (intro X _; go_simp; first | done | with_reducible rfl)
    simp only [Act.put]
    refine wpZ_take (i := 7) (v := ?_) rfl (by kernel_rfl) (fun _ _ _ h => h) (Or.inl ⟨by rfl, ?_⟩) hS ?_
    rotate_left
    · (intro X hSw; have c0 := hSw.1 0 _ rfl; have c1 := hSw.1 1 _ rfl; have c2 := hSw.1 2 _ rfl; have c3 := hSw.1 3 _ rfl; have c4 := hSw.1 4 _ rfl; have c5 := hSw.1 5 _ rfl; go_simp; first | done | with_reducible rfl)
    simp only [Act.put]
    refine wpZ_ready (rs := [8]) (by kernel_rfl) (by simp) ?_
    refine AllZ.cons rfl (fun K hK => ?_) AllZ.nil
    go_simp
    refine (txsFit_any X2 a1 c1 a2 c2 a3 c3 k HR.out.2.1 (HR.out.1.later bY)).mono ?_
    rintro e X3 ⟨rfl, b3⟩
    have bZ := bstep bY b3
    refine hK.out _ _ (fun _ => SF.out _ bZ) ?_
    clear hK K
    have hS := SF.out _ bZ
    refine wpZ_takeP (i := 9) (v := ?_) rfl (by kernel_rfl) (fun _ _ _ h => h) (Or.inl ⟨by rfl, ?_⟩) hS ?_
    rotate_left
    · (intro X _; go_simp; first | done | with_reducible rfl)
    simp only [Act.put]
    refine wpZ_ready (rs := [10]) (by kernel_rfl) (by simp) ?_
    refine AllZ.cons rfl (fun K hK => ?_) AllZ.nil
    go_simp
    refine hK.out _ _ (fun h => absurd (show false = true from h.symm.trans (by kernel_rfl)) (by decide)) ?_
    clear hK K
    refine wpZ_done (by kernel_rfl) ?_ _
    go_wp2
    go_ret
    exact ⟨by rw [hb.out]; rfl, bstep HR.out.2.2 bZ⟩
set_option maxHeartbeats 1000000 in
theorem homeLives_any (w : World) (a1 : Option Addr) (c1 : Nat) (a2 : Option Addr) (c2 : Nat) (a3 : Option Addr) (c3 : Nat) (k : C6) (i : Nat) (hi : i < k.machines.length) (h : KCl.Rd w a1 c1 a2 c2 a3 c3 k) : Calls Tryz.prog 94 #[.agg #[.int .i64 k.config, .int .i64 k.clock, .slice a1 k.places.length c1, .slice a2 k.machines.length c2, .slice a3 k.txs.length c3, .bool k.lost], .int .i64 (i : Int)] w fun e w' => e = .returned (.bool (atM k.machines i).alive) ∧ Below w.heap.size w w' := by
  obtain ⟨W, hW⟩ : ∃ Y, Y = w.alloc (.cells #[.int .i64 k.config, .int .i64 k.clock, .slice a1 k.places.length c1, .slice a2 k.machines.length c2, .slice a3 k.txs.length c3, .bool k.lost] 32) := ⟨_, rfl⟩
  have bW : Below w.heap.size w W := by rw [hW]; exact (Below.refl _ _).alloc (Nat.le_refl _) _
  have p3 : W.cell? ⟨w.heap.size, 3, none⟩ = some (.slice a2 k.machines.length c2) := by rw [hW]; go_simp
  rcases (h.later bW).m with h0 | ⟨b, off, rfl, hb, hrd⟩
  · rw [h0] at hi; simp at hi
  obtain ⟨⟨m0, m1, m2, m3, m4, m5⟩, hel, -⟩ := hrd i _ (atM_of hi)
  have e0 : W.cell? ⟨b, off + i * 4, none⟩ = some (.bool (atM k.machines i).alive) := hel 0 _ rfl
  have e1 : W.cell? ⟨b, off + i * 4 + 1, none⟩ = some (.slice m0 (atM k.machines i).copies.length m1) := hel 1 _ rfl
  have e2 : W.cell? ⟨b, off + i * 4 + 2, none⟩ = some (.slice m2 (atM k.machines i).log.length m3) := hel 2 _ rfl
  have e3 : W.cell? ⟨b, off + i * 4 + 3, none⟩ = some (.slice m4 (atM k.machines i).cleared.length m5) := hel 3 _ rfl
  have d0 : decide (0 ≤ (i : Int)) = true := by simp
  have d1 : decide ((i : Int) < (k.machines.length : Int)) = true := by simp; omega
  have i0 : 0 ≤ (i : Int) := by omega
  have i1 : (i : Int) < (k.machines.length : Int) := by omega
  have BW : Hid (Below w.heap.size w W) := bW
  rw [hW] at p3 e0 e1 e2 e3
  have hmb := memberOf_any W m0 m1 m2 m3 m4 m5 (atM k.machines i)
  clear bW h hrd hel hb
  have hmL : ∀ (a : Option Addr) (n c : Nat) (w : World), (method 470 253 (.agg #[.slice a n c]) "loop.example/g00153/impl.lives").run Tryz.prog w = .ok (330, .agg #[.slice a n c]) w := fun _ _ _ _ => by kernel_rfl
  have hmD : ∀ w : World, (method 470 255 (.agg #[]) "loop.example/g00153/impl.lives").run Tryz.prog w = .ok (332, .agg #[]) w := fun _ => by kernel_rfl
  go_enter Tryz.func94, Tryz.ntmps94
  go_wp2_with fail
  rw [← hW]
  clear hW
  refine hmb.mono ?_
  clear hmb
  rintro e w1 ⟨rfl, b1⟩
  have B1 : Hid (Below w.heap.size w w1) := bstep BW.out b1
  clear b1 p3 e0 e1 e2 e3
  unfold memV
  cases ha : (atM k.machines i).alive with
  | true =>
    simp only [if_true]
    go_wp2_with fail
    refine (livesL_any w1 m0 (atM k.machines i).copies.length m1).mono ?_
    rintro e w2 ⟨rfl, b2⟩
    have B2 : Hid (Below w.heap.size w w2) := bstep B1.out b2
    clear b2
    go_wp2
    go_ret
    exact ⟨by rw [ha]; rfl, B2.out⟩
  | false =>
    simp only [Bool.false_eq_true, if_false]
    go_wp2_with fail
    refine (livesD_any w1).mono ?_
    rintro e w2 ⟨rfl, b2⟩
    have B2 : Hid (Below w.heap.size w w2) := bstep B1.out b2
    clear b2
    go_wp2
    go_ret
    exact ⟨by rw [ha]; rfl, B2.out⟩
set_option maxRecDepth 100000 in
set_option maxHeartbeats 8000000 in
theorem specClusterOk_any (w : World) (a1 : Option Addr) (c1 : Nat) (a2 : Option Addr) (c2 : Nat) (a3 : Option Addr) (c3 : Nat) (k : C6) (hl : KCl.L k) (h : KCl.Rd w a1 c1 a2 c2 a3 c3 k) : Calls Tryz.prog 29 #[.agg #[.int .i64 k.config, .int .i64 k.clock, .slice a1 k.places.length c1, .slice a2 k.machines.length c2, .slice a3 k.txs.length c3, .bool k.lost]] w fun e w' => e = .returned (.bool (clusterB k)) ∧ Below w.heap.size w w' := by
  obtain ⟨U, hU⟩ : ∃ Y, Y = w.alloc (.cells #[.int .i64 k.config, .int .i64 k.clock, .slice a1 k.places.length c1, .slice a2 k.machines.length c2, .slice a3 k.txs.length c3, .bool k.lost] 32) := ⟨_, rfl⟩
  have b0 : Below w.heap.size w U := by rw [hU]; exact (Below.refl _ _).alloc (Nat.le_refl _) _
  have FA : Hid (Bx U w.heap.size [.int .i64 k.config, .int .i64 k.clock, .slice a1 k.places.length c1, .slice a2 k.machines.length c2, .slice a3 k.txs.length c3, .bool k.lost]) := by rw [hU]; exact Bx.made w [.int .i64 k.config, .int .i64 k.clock, .slice a1 k.places.length c1, .slice a2 k.machines.length c2, .slice a3 k.txs.length c3, .bool k.lost] _
  have HR : Hid (KCl.Rd U a1 c1 a2 c2 a3 c3 k ∧ KCl.L k) := ⟨h.later b0, hl⟩
  have BW : Hid (Below w.heap.size w U) := b0
  have lm := hl.m
  have lt := hl.t
  have lp := hl.p
  unfold maxLen at lm lt lp
  have p0 := FA.out.1 0 _ rfl
  have p1 := FA.out.1 1 _ rfl
  have p2 := FA.out.1 2 _ rfl
  have p3 := FA.out.1 3 _ rfl
  have p4 := FA.out.1 4 _ rfl
  clear b0 hl h
  by_cases g0 : inB 1 1000000 k.config = true
  case neg =>
    have d0 : inB 1 1000000 k.config = false := by simpa using g0
    have hb : clusterB k = false := by simp [clusterB, d0]
    rw [hb]
    rw [hU] at BW p0 p1 p2 p3 p4
    clear FA HR hU
    go_enter Tryz.func29, Tryz.ntmps29
    go_wp2_with (first | (go_at_call 31; refine (tx.specId_e _ _).mono ?_; rintro e w' ⟨rfl, rfl⟩) | (go_at_call 32; refine (specIn _ _ _ _).mono ?_; rintro e w' ⟨rfl, rfl⟩))
    go_ret
    exact ⟨rfl, BW.out⟩
  by_cases g1 : inB 0 1000000 k.clock = true
  case neg =>
    have d1 : inB 0 1000000 k.clock = false := by simpa using g1
    have hb : clusterB k = false := by simp [clusterB, d1]
    rw [hb]
    rw [hU] at BW p0 p1 p2 p3 p4
    clear FA HR hU
    go_enter Tryz.func29, Tryz.ntmps29
    go_wp2_with (first | (go_at_call 31; refine (tx.specId_e _ _).mono ?_; rintro e w' ⟨rfl, rfl⟩) | (go_at_call 32; refine (specIn _ _ _ _).mono ?_; rintro e w' ⟨rfl, rfl⟩))
    go_ret
    exact ⟨rfl, BW.out⟩
  by_cases g2 : 1 ≤ k.machines.length
  case neg =>
    have d2 : decide ((k.machines.length : Int) < 1) = true := by simp; omega
    have hb : clusterB k = false := by simp [clusterB, g2]
    rw [hb]
    rw [hU] at BW p0 p1 p2 p3 p4
    clear FA HR hU
    go_enter Tryz.func29, Tryz.ntmps29
    go_wp2_with (first | (go_at_call 31; refine (tx.specId_e _ _).mono ?_; rintro e w' ⟨rfl, rfl⟩) | (go_at_call 32; refine (specIn _ _ _ _).mono ?_; rintro e w' ⟨rfl, rfl⟩))
    go_ret
    exact ⟨rfl, BW.out⟩
  have d2 : decide ((k.machines.length : Int) < 1) = false := by simp; omega
  by_cases g3 : k.machines.length ≤ 8
  case neg =>
    have d3 : decide ((8 : Int) < (k.machines.length : Int)) = true := by simp; omega
    have hb : clusterB k = false := by simp [clusterB, g3]
    rw [hb]
    rw [hU] at BW p0 p1 p2 p3 p4
    clear FA HR hU
    go_enter Tryz.func29, Tryz.ntmps29
    go_wp2_with (first | (go_at_call 31; refine (tx.specId_e _ _).mono ?_; rintro e w' ⟨rfl, rfl⟩) | (go_at_call 32; refine (specIn _ _ _ _).mono ?_; rintro e w' ⟨rfl, rfl⟩))
    go_ret
    exact ⟨rfl, BW.out⟩
  have d3 : decide ((8 : Int) < (k.machines.length : Int)) = false := by simp; omega
  have BF : Hid (∀ V, Below U.heap.size U V → Below w.heap.size w V) := fun V hV => bstep BW.out hV
  have hc := specPlacesOk_any U a1 k.places.length c1 k.places HR.out.2.p HR.out.1.p
  rw [hU] at p0 p1 p2 p3 p4
  clear BW
  go_enter Tryz.func29, Tryz.ntmps29
  go_wp2_with (first | (go_at_call 31; refine (tx.specId_e _ _).mono ?_; rintro e w' ⟨rfl, rfl⟩) | (go_at_call 32; refine (specIn _ _ _ _).mono ?_; rintro e w' ⟨rfl, rfl⟩))
  rw [← hU]
  clear hU p0 p1 p2 p3 p4
  refine hc.mono ?_
  clear hc
  rintro e w1 ⟨rfl, b1⟩
  have B1 := tx.hidOf b1
  clear b1
  have p4 := (FA.out.later B1.out).1 4 _ rfl
  cases hP : placesB k.places with
  | false =>
    have hb : Hid (clusterB k = false) := by unfold Hid; simp [clusterB, hP]
    go_wp2
    go_ret
    exact ⟨by rw [hb.out]; rfl, BF.out _ B1.out⟩
  | true =>
  by_cases g5 : k.txs.length ≤ 60
  case neg =>
    have d5 : decide ((60 : Int) < (k.txs.length : Int)) = true := by simp; omega
    have hb : Hid (clusterB k = false) := by unfold Hid; simp [clusterB, g5]
    go_wp2
    go_ret
    exact ⟨by rw [hb.out]; rfl, BF.out _ B1.out⟩
  have d5 : decide ((60 : Int) < (k.txs.length : Int)) = false := by simp; omega
  have HC : Hid (clusterB k = (machsB k.machines && placedB k.places k.machines && txsB k)) := by unfold Hid; simp [clusterB, g0, g1, g2, g3, hP, g5]
  have HZ : Hid (∀ r j, r < k.places.length → j < (atP k.places r).length → 0 ≤ atN (atP k.places r) j ∧ atN (atP k.places r) j ≤ 7) := fun r j hr hj => places_z hP hr hj
  clear g0 g1 hP
  go_wp2
  clear p4 d2 d3 d5
  go_loopw [4] (fun v4 wr => ∃ i : Nat, i ≤ k.machines.length ∧ v4 = .int .i64 i ∧ Below U.heap.size U wr ∧ (List.range i).all (fun i => machB (atM k.machines i)) = true) (fun v4 _ => k.machines.length - (intOf v4).toNat)
  case atStart => exact ⟨0, Nat.zero_le _, rfl, B1.out, rfl⟩
  case round =>
  obtain ⟨i, hi, rfl, hbl, hall⟩ := hrel
  have KB : Hid (Below U.heap.size U wr ∧ (List.range i).all (fun i => machB (atM k.machines i)) = true) := ⟨hbl, hall⟩
  clear hbl hall
  by_cases hlt : i < k.machines.length
  case pos =>
    have hd := atM_of hlt
    rcases HR.out.1.m with hs | ⟨b, off, rfl, hb, h1⟩
    · rw [hs] at hlt; simp at hlt
    obtain ⟨⟨m0, m1, m2, m3, m4, m5⟩, hat, hrd⟩ := h1 i _ hd
    have e0 : wr.cell? ⟨b, off + i * 4, none⟩ = some (.bool (atM k.machines i).alive) := (KB.out.1.cell (p := ⟨b, off + i * 4, none⟩) hb).trans (hat 0 _ rfl)
    have e1 : wr.cell? ⟨b, off + i * 4 + 1, none⟩ = some (.slice m0 (atM k.machines i).copies.length m1) := (KB.out.1.cell (p := ⟨b, off + i * 4 + 1, none⟩) hb).trans (hat 1 _ rfl)
    have e2 : wr.cell? ⟨b, off + i * 4 + 2, none⟩ = some (.slice m2 (atM k.machines i).log.length m3) := (KB.out.1.cell (p := ⟨b, off + i * 4 + 2, none⟩) hb).trans (hat 2 _ rfl)
    have e3 : wr.cell? ⟨b, off + i * 4 + 3, none⟩ = some (.slice m4 (atM k.machines i).cleared.length m5) := (KB.out.1.cell (p := ⟨b, off + i * 4 + 3, none⟩) hb).trans (hat 3 _ rfl)
    have hML := HR.out.2.ms _ (List.mem_of_getElem? hd)
    have hc := specMachineOk_any wr ⟨m0, m1, m2, m3, m4, m5⟩ (atM k.machines i) hML.k hML.r hML.n hML.ks hML.rs (KMk.later hrd KB.out.1)
    simp only [MV.val] at hc
    have p3 := (FA.out.later KB.out.1).1 3 _ rfl
    have jn : (i : Int) < (k.machines.length : Int) := by omega
    clear hat hrd h1 hd hML hb
    go_wp2_with fail
    refine hc.mono ?_
    clear hc e0 e1 e2 e3 p3
    rintro e w2 ⟨rfl, b2⟩
    have K2 : Hid (Below U.heap.size U w2) := bstep KB.out.1 b2
    clear b2
    cases hB : machB (atM k.machines i) with
    | false =>
      have hb : Hid (clusterB k = false) := by unfold Hid; rw [HC.out]; simp [machsB, all_off (f := fun i => machB (atM k.machines i)) hlt hB]
      go_wp2
      go_ret
      exact ⟨by rw [hb.out]; rfl, BF.out _ K2.out⟩
    | true =>
      go_wp2
      exact ⟨⟨i + 1, by omega, by simp, K2.out, all_on KB.out.2 hB⟩, by simp [intOf]; omega⟩
  obtain rfl : i = k.machines.length := by omega
  have hdl : decide ((k.machines.length : Int) < (k.machines.length : Int)) = false := by simp
  have HC2 : Hid (clusterB k = (placedB k.places k.machines && txsB k)) := by unfold Hid; rw [HC.out, machsB, KB.out.2]; simp
  go_wp2
  generalize wr = wA at *
  clear hdl
  go_loopw [5] (fun v5 wr => ∃ r : Nat, r ≤ k.places.length ∧ v5 = .int .i64 r ∧ Below U.heap.size U wr ∧ (List.range r).all (fun r => placB k.machines r (atP k.places r)) = true) (fun v5 _ => k.places.length - (intOf v5).toNat)
  case atStart => exact ⟨0, Nat.zero_le _, rfl, KB.out.1, rfl⟩
  case round =>
  obtain ⟨r, hr, rfl, hbl, hall⟩ := hrel
  have KC : Hid (Below U.heap.size U wr ∧ (List.range r).all (fun r => placB k.machines r (atP k.places r)) = true) := ⟨hbl, hall⟩
  clear hbl hall
  have p2 := (FA.out.later KC.out.1).1 2 _ rfl
  by_cases hlr : r < k.places.length
  case pos =>
    obtain ⟨_, hsp⟩ := HR.out.1.p
    rcases hsp with hsp | ⟨b, off, rfl, hb, hpl⟩
    · omega
    obtain ⟨a', cap', hc, hsl, hcp⟩ := hpl r _ (atP_of hlr)
    have c := (KC.out.1.cell (p := ⟨b, off + r, none⟩) hb).trans hc
    have HSL : Hid (SlN U U.heap.size a' (atP k.places r).length (atP k.places r)) := hsl
    have jr : (r : Int) < (k.places.length : Int) := by omega
    have lz := HR.out.2.ps _ (List.mem_of_getElem? (atP_of hlr))
    unfold maxLen at lz
    have HF : Hid (placB k.machines r (atP k.places r) = false → clusterB k = false) := fun hh => by rw [HC2.out, placedB, all_off (f := fun r => placB k.machines r (atP k.places r)) hlr hh]; rfl
    have HZr : Hid (∀ j, j < (atP k.places r).length → 0 ≤ atN (atP k.places r) j ∧ atN (atP k.places r) j ≤ 7) := fun j hj => HZ.out r j hlr hj
    have HPL : Hid (placB k.machines r (atP k.places r) = (List.range (atP k.places r).length).all fun j => servB k.machines r (atN (atP k.places r) j)) := rfl
    have HON : Hid (placB k.machines r (atP k.places r) = true → (List.range (r + 1)).all (fun r => placB k.machines r (atP k.places r)) = true) := fun hh => all_on (f := fun r => placB k.machines r (atP k.places r)) KC.out.2 hh
    clear hpl hc hsl
    generalize hzs : atP k.places r = zs at *
    go_wp2
    clear c p2 jr hzs
    generalize wr = wC at *
    go_loopw [7] (fun v7 wr => ∃ j : Nat, j ≤ zs.length ∧ v7 = .int .i64 j ∧ Below U.heap.size U wr ∧ (List.range j).all (fun j => servB k.machines r (atN zs j)) = true) (fun v7 _ => zs.length - (intOf v7).toNat)
    case atStart => exact ⟨0, Nat.zero_le _, rfl, KC.out.1, rfl⟩
    case round =>
    obtain ⟨j, hj, rfl, hbl, hall⟩ := hrel
    have KD : Hid (Below U.heap.size U wr ∧ (List.range j).all (fun j => servB k.machines r (atN zs j)) = true) := ⟨hbl, hall⟩
    clear hbl hall
    by_cases hlj : j < zs.length
    case neg =>
      obtain rfl : j = zs.length := by omega
      have hdl : decide ((zs.length : Int) < (zs.length : Int)) = false := by simp
      have hh := HON.out (by rw [HPL.out]; exact KD.out.2)
      go_wp2
      exact ⟨⟨r + 1, by omega, by simp, KD.out.1, hh⟩, by simp [intOf]; omega⟩
    obtain ⟨_, hsn⟩ := HSL.out
    rcases hsn with hsn | ⟨b', off', rfl, hb', h2⟩
    · omega
    have hz := HZr.out j hlj
    obtain ⟨i, hi⟩ : ∃ i : Nat, atN zs j = (i : Int) := ⟨(atN zs j).toNat, by omega⟩
    have hck := h2 j _ (atN_of hlj)
    rw [hi] at hck
    have xz : ∀ dd os, (grow (redrawn wr dd) os).cell? ⟨b', off' + j, none⟩ = some (.int .i64 (i : Int)) := fun dd os => ((bstep KD.out.1 (below_regrown wr dd os)).cell (p := ⟨b', off' + j, none⟩) hb').trans (hck)
    have jz : (j : Int) < (zs.length : Int) := by omega
    have jc : j < cap' := by omega
    have HB : Hid (servB k.machines r (atN zs j) = (decide ((i : Int) < (k.machines.length : Int)) && (!(atM k.machines i).alive || hasC (atM k.machines i) (r : Int)))) := by unfold Hid servB; rw [hi]; rfl
    have HFF : Hid (servB k.machines r (atN zs j) = false → clusterB k = false) := fun hh => HF.out (by rw [HPL.out]; exact all_off (f := fun j => servB k.machines r (atN zs j)) hlj hh)
    clear hck h2 hz hi
    by_cases him : i < k.machines.length
    case neg =>
      have dz : decide ((k.machines.length : Int) ≤ (i : Int)) = true := by simp <;> omega
      have dz2 : decide (k.machines.length ≤ i) = true := by simp <;> omega
      have hb0 : Hid (clusterB k = false) := HFF.out (by rw [HB.out]; simp [him])
      go_wp2_with fail
      refine wp_region_quiet_below (by kernel_rfl) (by kernel_rfl) ?_
      repeat (go_big_quiet_step (fail))
      refine wpQuiet_nil ?_
      intro _ hw'
      obtain ⟨⟨dq, osq⟩, hw''⟩ := hw'
      subst hw''
      have bq := below_regrown wr dq osq
      go_wp2
      go_ret
      exact ⟨by rw [hb0.out]; rfl, BF.out _ (bstep KD.out.1 bq)⟩
    have dz : decide ((k.machines.length : Int) ≤ (i : Int)) = false := by simp <;> omega
    have dz2 : decide (k.machines.length ≤ i) = false := by simp <;> omega
    have hd := atM_of him
    rcases HR.out.1.m with hs | ⟨b2, off2, rfl, hb2, h1⟩
    · rw [hs] at him; simp at him
    obtain ⟨⟨m0, m1, m2, m3, m4, m5⟩, hat, hrd⟩ := h1 i _ hd
    have hbx := FA.out.1 3 _ rfl
    have x3 : ∀ dd os, (grow (redrawn wr dd) os).cell? ⟨w.heap.size, 3, none⟩ = some (.slice (some ⟨b2, off2, none⟩) k.machines.length c2) := fun dd os => ((bstep KD.out.1 (below_regrown wr dd os)).cell (p := ⟨w.heap.size, 3, none⟩) FA.out.2.2).trans (hbx)
    clear hbx
    have e0 : ∀ dd os, (grow (redrawn wr dd) os).cell? ⟨b2, off2 + i * 4, none⟩ = some (.bool (atM k.machines i).alive) := fun dd os => ((bstep KD.out.1 (below_regrown wr dd os)).cell (p := ⟨b2, off2 + i * 4, none⟩) hb2).trans (hat 0 _ rfl)
    have e1 : ∀ dd os, (grow (redrawn wr dd) os).cell? ⟨b2, off2 + i * 4 + 1, none⟩ = some (.slice m0 (atM k.machines i).copies.length m1) := fun dd os => ((bstep KD.out.1 (below_regrown wr dd os)).cell (p := ⟨b2, off2 + i * 4 + 1, none⟩) hb2).trans (hat 1 _ rfl)
    have e2 : ∀ dd os, (grow (redrawn wr dd) os).cell? ⟨b2, off2 + i * 4 + 2, none⟩ = some (.slice m2 (atM k.machines i).log.length m3) := fun dd os => ((bstep KD.out.1 (below_regrown wr dd os)).cell (p := ⟨b2, off2 + i * 4 + 2, none⟩) hb2).trans (hat 2 _ rfl)
    have e3 : ∀ dd os, (grow (redrawn wr dd) os).cell? ⟨b2, off2 + i * 4 + 3, none⟩ = some (.slice m4 (atM k.machines i).cleared.length m5) := fun dd os => ((bstep KD.out.1 (below_regrown wr dd os)).cell (p := ⟨b2, off2 + i * 4 + 3, none⟩) hb2).trans (hat 3 _ rfl)
    have hML := HR.out.2.ms _ (List.mem_of_getElem? hd)
    have cQ : ∀ dd os, Calls Tryz.prog 80 #[.agg #[.bool (atM k.machines i).alive, .slice m0 (atM k.machines i).copies.length m1, .slice m2 (atM k.machines i).log.length m3, .slice m4 (atM k.machines i).cleared.length m5], .int .i64 (r : Int)] (grow (redrawn wr dd) os) fun e w'' => e = .returned (.int .i64 (idxC (atM k.machines i) (r : Int))) ∧ ∃ p : Regrown, w'' = grow (redrawn wr p.d) p.os := fun dd os => Calls.regrown_of (l6At_v _ m0 m1 m2 m3 m4 m5 (atM k.machines i) r hML (KMk.later hrd (bstep KD.out.1 (below_regrown wr dd os))))
    have im : (i : Int) < (k.machines.length : Int) := by omega
    have dC := idxC_lt (atM k.machines i) (r : Int)
    clear hat hrd h1 hd hML
    cases ha : (atM k.machines i).alive with
    | false =>
      rw [ha] at e0
      have hon : Hid ((List.range (j + 1)).all (fun j => servB k.machines r (atN zs j)) = true) := all_on (f := fun j => servB k.machines r (atN zs j)) KD.out.2 (by rw [HB.out]; simp [him, ha])
      clear cQ dC e1 e2 e3
      go_wp2_with fail
      refine wp_region_quiet_below (by kernel_rfl) (by kernel_rfl) ?_
      repeat (go_big_quiet_step (fail))
      refine wpQuiet_nil ?_
      intro _ hw'
      obtain ⟨⟨dq, osq⟩, hw''⟩ := hw'
      subst hw''
      have bq := below_regrown wr dq osq
      go_wp2
      exact ⟨⟨j + 1, by omega, by simp, bstep KD.out.1 bq, hon.out⟩, by simp [intOf]; omega⟩
    | true =>
      rw [ha] at e0 cQ
      generalize idxC (atM k.machines i) (r : Int) = ic at *
      cases hh : hasC (atM k.machines i) (r : Int) with
      | false =>
        rw [hh] at dC
        have hb0 : Hid (clusterB k = false) := HFF.out (by rw [HB.out]; simp [him, ha, hh])
        go_wp2_with fail
        refine wp_region_quiet_below (by kernel_rfl) (by kernel_rfl) ?_
        repeat (go_big_quiet_step (exact cQ _ _))
        refine wpQuiet_nil ?_
        intro _ hw'
        obtain ⟨⟨dq, osq⟩, hw''⟩ := hw'
        subst hw''
        have bq := below_regrown wr dq osq
        go_wp2
        go_ret
        exact ⟨by rw [hb0.out]; rfl, BF.out _ (bstep KD.out.1 bq)⟩
      | true =>
        rw [hh] at dC
        have hon : Hid ((List.range (j + 1)).all (fun j => servB k.machines r (atN zs j)) = true) := all_on (f := fun j => servB k.machines r (atN zs j)) KD.out.2 (by rw [HB.out]; simp [him, ha, hh])
        go_wp2_with fail
        refine wp_region_quiet_below (by kernel_rfl) (by kernel_rfl) ?_
        repeat (go_big_quiet_step (exact cQ _ _))
        refine wpQuiet_nil ?_
        intro _ hw'
        obtain ⟨⟨dq, osq⟩, hw''⟩ := hw'
        subst hw''
        have bq := below_regrown wr dq osq
        go_wp2
        exact ⟨⟨j + 1, by omega, by simp, bstep KD.out.1 bq, hon.out⟩, by simp [intOf]; omega⟩
  obtain rfl : r = k.places.length := by omega
  have hdl : decide ((k.places.length : Int) < (k.places.length : Int)) = false := by simp
  have HC3 : Hid (clusterB k = txsB k) := by unfold Hid; rw [HC2.out, placedB, KC.out.2]; simp
  go_wp2
  generalize wr = wB at *
  clear hdl p2
  go_loopw [8] (fun v8 wr => ∃ i : Nat, i ≤ k.txs.length ∧ v8 = .int .i64 i ∧ Below U.heap.size U wr ∧ (List.range i).all (txAtB k) = true) (fun v8 _ => k.txs.length - (intOf v8).toNat)
  case atStart => exact ⟨0, Nat.zero_le _, rfl, KC.out.1, rfl⟩
  case round =>
  obtain ⟨i, hi, rfl, hbl, hall⟩ := hrel
  have KE : Hid (Below U.heap.size U wr ∧ (List.range i).all (txAtB k) = true) := ⟨hbl, hall⟩
  clear hbl hall
  have p4 := (FA.out.later KE.out.1).1 4 _ rfl
  by_cases hlt : i < k.txs.length
  case neg =>
    obtain rfl : i = k.txs.length := by omega
    have hdl : decide ((k.txs.length : Int) < (k.txs.length : Int)) = false := by simp
    have hb0 : Hid (clusterB k = true) := by unfold Hid; rw [HC3.out]; exact KE.out.2
    go_wp2
    go_ret
    exact ⟨by rw [hb0.out]; rfl, BF.out _ KE.out.1⟩
  have hd := atT_of hlt
  have HM : Hid (i = 0 ∨ ∃ j, i = j + 1 ∧ k.txs[j]? = some (atT k.txs j)) := by
    rcases i with _ | j
    · exact .inl rfl
    · exact .inr ⟨j, rfl, atT_of (by omega)⟩
  rcases HR.out.1.t with hs | ⟨b, off, rfl, hb, h1⟩
  · rw [hs] at hlt; simp at hlt
  have HX : Hid (txAtB k i = (tx.txB (atT k.txs i) && (decide (i = 0) || decide ((atT k.txs (i - 1)).id < (atT k.txs i).id)) && decide ((atT k.txs i).home < (k.machines.length : Int)) && decide ((atT k.txs i).stamp ≤ k.clock) && readsB k.places.length (atT k.txs i).reads && setsB k.places.length (atT k.txs i).sets)) := rfl
  have HFF : Hid (txAtB k i = false → clusterB k = false) := fun hh => by rw [HC3.out, txsB]; exact all_off (f := txAtB k) hlt hh
  have HON : Hid (txAtB k i = true → (List.range (i + 1)).all (txAtB k) = true) := fun hh => all_on (f := txAtB k) KE.out.2 hh
  obtain ⟨⟨t0, t1, t2, t3⟩, hat, hrd⟩ := h1 i _ hd
  have hTL := HR.out.2.ts _ (List.mem_of_getElem? hd)
  have HP : Hid (∀ j, i = j + 1 → U.cell? ⟨b, off + j * 7, none⟩ = some (.int .i64 (atT k.txs j).id)) := fun j e => by
    obtain ⟨v, hat', _⟩ := h1 j _ (atT_of (by omega))
    exact hat' 0 _ rfl
  generalize ht : atT k.txs i = t at *
  have e0 : wr.cell? ⟨b, off + i * 7, none⟩ = some (.int .i64 t.id) := (KE.out.1.cell (p := ⟨b, off + i * 7, none⟩) hb).trans (hat 0 _ rfl)
  have e1 : wr.cell? ⟨b, off + i * 7 + 1, none⟩ = some (.int .i64 t.home) := (KE.out.1.cell (p := ⟨b, off + i * 7 + 1, none⟩) hb).trans (hat 1 _ rfl)
  have e2 : wr.cell? ⟨b, off + i * 7 + 2, none⟩ = some (.int .i64 t.phase) := (KE.out.1.cell (p := ⟨b, off + i * 7 + 2, none⟩) hb).trans (hat 2 _ rfl)
  have e3 : wr.cell? ⟨b, off + i * 7 + 3, none⟩ = some (.int .i64 t.count) := (KE.out.1.cell (p := ⟨b, off + i * 7 + 3, none⟩) hb).trans (hat 3 _ rfl)
  have e4 : wr.cell? ⟨b, off + i * 7 + 4, none⟩ = some (.slice t0 t.reads.length t1) := (KE.out.1.cell (p := ⟨b, off + i * 7 + 4, none⟩) hb).trans (hat 4 _ rfl)
  have e5 : wr.cell? ⟨b, off + i * 7 + 5, none⟩ = some (.slice t2 t.sets.length t3) := (KE.out.1.cell (p := ⟨b, off + i * 7 + 5, none⟩) hb).trans (hat 5 _ rfl)
  have e6 : wr.cell? ⟨b, off + i * 7 + 6, none⟩ = some (.int .i64 t.stamp) := (KE.out.1.cell (p := ⟨b, off + i * 7 + 6, none⟩) hb).trans (hat 6 _ rfl)
  obtain ⟨V, hV⟩ : ∃ Y, Y = wr.alloc (.cells #[.int .i64 t.id, .int .i64 t.home, .int .i64 t.phase, .int .i64 t.count, .slice t0 t.reads.length t1, .slice t2 t.sets.length t3, .int .i64 t.stamp] 56) := ⟨_, rfl⟩
  have bV : Below wr.heap.size wr V := by rw [hV]; exact (Below.refl _ _).alloc (Nat.le_refl _) _
  have FT : Hid (Bx V wr.heap.size [.int .i64 t.id, .int .i64 t.home, .int .i64 t.phase, .int .i64 t.count, .slice t0 t.reads.length t1, .slice t2 t.sets.length t3, .int .i64 t.stamp]) := by rw [hV]; exact Bx.made wr [.int .i64 t.id, .int .i64 t.home, .int .i64 t.phase, .int .i64 t.count, .slice t0 t.reads.length t1, .slice t2 t.sets.length t3, .int .i64 t.stamp] _
  have KV : Hid (Below U.heap.size U V) := bstep KE.out.1 bV
  have HRT : Hid (tx.SlT U ⟨t0, t1, t2, t3⟩ t ∧ tx.TL t) := ⟨hrd, hTL⟩
  have ji : (i : Int) < (k.txs.length : Int) := by omega
  clear hat hrd h1 hd hTL bV
  go_upto_region 22 with fail
  rw [← hV]
  clear hV p4 e0 e1 e2 e3 e4 e5 e6 ji
  generalize wr.heap.size = s9 at *
  generalize wr = wD at *
  generalize V = wr at *
  have f0 : ∀ dd os, (grow (redrawn wr dd) os).cell? ⟨s9, 0, none⟩ = some (.int .i64 t.id) := fun dd os => (FT.out.later (below_regrown wr dd os)).1 0 _ rfl
  have f1 : ∀ dd os, (grow (redrawn wr dd) os).cell? ⟨s9, 1, none⟩ = some (.int .i64 t.home) := fun dd os => (FT.out.later (below_regrown wr dd os)).1 1 _ rfl
  have f2 : ∀ dd os, (grow (redrawn wr dd) os).cell? ⟨s9, 2, none⟩ = some (.int .i64 t.phase) := fun dd os => (FT.out.later (below_regrown wr dd os)).1 2 _ rfl
  have f3 : ∀ dd os, (grow (redrawn wr dd) os).cell? ⟨s9, 3, none⟩ = some (.int .i64 t.count) := fun dd os => (FT.out.later (below_regrown wr dd os)).1 3 _ rfl
  have f4 : ∀ dd os, (grow (redrawn wr dd) os).cell? ⟨s9, 4, none⟩ = some (.slice t0 t.reads.length t1) := fun dd os => (FT.out.later (below_regrown wr dd os)).1 4 _ rfl
  have f5 : ∀ dd os, (grow (redrawn wr dd) os).cell? ⟨s9, 5, none⟩ = some (.slice t2 t.sets.length t3) := fun dd os => (FT.out.later (below_regrown wr dd os)).1 5 _ rfl
  have f6 : ∀ dd os, (grow (redrawn wr dd) os).cell? ⟨s9, 6, none⟩ = some (.int .i64 t.stamp) := fun dd os => (FT.out.later (below_regrown wr dd os)).1 6 _ rfl
  have cT : ∀ dd os, Calls Tryz.prog 81 #[.agg #[.int .i64 t.id, .int .i64 t.home, .int .i64 t.phase, .int .i64 t.count, .slice t0 t.reads.length t1, .slice t2 t.sets.length t3, .int .i64 t.stamp]] (grow (redrawn wr dd) os) fun e w'' => e = .returned (.bool (tx.txB t)) ∧ ∃ p : Regrown, w'' = grow (redrawn wr p.d) p.os := fun dd os => by
    have hh := tx.specTxOk_any (grow (redrawn wr dd) os) ⟨t0, t1, t2, t3⟩ t HRT.out.2 (HRT.out.1.later (bstep KV.out (below_regrown wr dd os)))
    simp only [tx.TV.val] at hh
    exact Calls.regrown_of hh
  have hbx := FA.out.1 4 _ rfl
  have x4 : ∀ dd os, (grow (redrawn wr dd) os).cell? ⟨w.heap.size, 4, none⟩ = some (.slice (some ⟨b, off, none⟩) k.txs.length c3) := fun dd os => ((bstep KV.out (below_regrown wr dd os)).cell (p := ⟨w.heap.size, 4, none⟩) FA.out.2.2).trans (hbx)
  have hbx := FA.out.1 1 _ rfl
  have x1 : ∀ dd os, (grow (redrawn wr dd) os).cell? ⟨w.heap.size, 1, none⟩ = some (.int .i64 k.clock) := fun dd os => ((bstep KV.out (below_regrown wr dd os)).cell (p := ⟨w.heap.size, 1, none⟩) FA.out.2.2).trans (hbx)
  clear hbx
  have KD : Hid (Below U.heap.size U wr ∧ True) := ⟨KV.out, trivial⟩
  cases hB : tx.txB t with
  | false =>
    rw [hB] at cT
    have hb0 : Hid (clusterB k = false) := HFF.out (by rw [HX.out, hB]; rfl)
    go_wp2_with fail
    refine wp_region_quiet_below (by kernel_rfl) (by kernel_rfl) ?_
    repeat (go_big_quiet_step (exact cT _ _))
    refine wpQuiet_nil ?_
    intro _ hw'
    obtain ⟨⟨dq, osq⟩, hw''⟩ := hw'
    subst hw''
    have bq := below_regrown wr dq osq
    go_wp2
    go_ret
    exact ⟨by rw [hb0.out]; rfl, BF.out _ (bstep KD.out.1 bq)⟩
  | true =>
  rw [hB] at cT
  by_cases gi : i = 0 ∨ (atT k.txs (i - 1)).id < t.id
  case neg =>
    obtain ⟨j, rfl, -⟩ := HM.out.resolve_left (fun e => gi (.inl e))
    have hle : ¬ (atT k.txs j).id < t.id := fun e => gi (.inr e)
    have hid := HP.out j rfl
    have xj : ∀ dd os, (grow (redrawn wr dd) os).cell? ⟨b, off + j * 7, none⟩ = some (.int .i64 (atT k.txs j).id) := fun dd os => ((bstep KV.out (below_regrown wr dd os)).cell (p := ⟨b, off + j * 7, none⟩) hb).trans (hid)
    have d0 : decide ((0 : Int) < ((j + 1 : Nat) : Int)) = true := by simp <;> omega
    have ej : ((j + 1 : Nat) : Int) - 1 = (j : Int) := by omega
    have d1 : decide (t.id ≤ (atT k.txs j).id) = true := by simp <;> omega
    have jn : (j : Int) < (k.txs.length : Int) := by omega
    have hb0 : Hid (clusterB k = false) := HFF.out (by rw [HX.out]; simp [hle])
    clear hid gi hle
    go_wp2_with fail
    refine wp_region_quiet_below (by kernel_rfl) (by kernel_rfl) ?_
    repeat (go_big_quiet_step (exact cT _ _))
    refine wpQuiet_nil ?_
    intro _ hw'
    obtain ⟨⟨dq, osq⟩, hw''⟩ := hw'
    subst hw''
    have bq := below_regrown wr dq osq
    go_wp2
    go_ret
    exact ⟨by rw [hb0.out]; rfl, BF.out _ (bstep KD.out.1 bq)⟩
  by_cases gh : t.home < (k.machines.length : Int)
  case neg =>
    have dh : decide ((k.machines.length : Int) ≤ t.home) = true := by simp <;> omega
    have hb0 : Hid (clusterB k = false) := HFF.out (by rw [HX.out]; simp [gh])
    rcases HM.out with rfl | ⟨j, rfl, -⟩
    · have d0 : decide ((0 : Int) < ((0 : Nat) : Int)) = false := by simp
      go_wp2_with fail
      refine wp_region_quiet_below (by kernel_rfl) (by kernel_rfl) ?_
      repeat (go_big_quiet_step (exact cT _ _))
      refine wpQuiet_nil ?_
      intro _ hw'
      obtain ⟨⟨dq, osq⟩, hw''⟩ := hw'
      subst hw''
      have bq := below_regrown wr dq osq
      go_wp2
      go_ret
      exact ⟨by rw [hb0.out]; rfl, BF.out _ (bstep KD.out.1 bq)⟩
    · have hlt' : (atT k.txs j).id < t.id := by rcases gi with e | e; omega; exact e
      have hid := HP.out j rfl
      have xj : ∀ dd os, (grow (redrawn wr dd) os).cell? ⟨b, off + j * 7, none⟩ = some (.int .i64 (atT k.txs j).id) := fun dd os => ((bstep KV.out (below_regrown wr dd os)).cell (p := ⟨b, off + j * 7, none⟩) hb).trans (hid)
      have d0 : decide ((0 : Int) < ((j + 1 : Nat) : Int)) = true := by simp <;> omega
      have ej : ((j + 1 : Nat) : Int) - 1 = (j : Int) := by omega
      have d1 : decide (t.id ≤ (atT k.txs j).id) = false := by simp <;> omega
      have jn : (j : Int) < (k.txs.length : Int) := by omega
      clear hid hlt'
      go_wp2_with fail
      refine wp_region_quiet_below (by kernel_rfl) (by kernel_rfl) ?_
      repeat (go_big_quiet_step (exact cT _ _))
      refine wpQuiet_nil ?_
      intro _ hw'
      obtain ⟨⟨dq, osq⟩, hw''⟩ := hw'
      subst hw''
      have bq := below_regrown wr dq osq
      go_wp2
      go_ret
      exact ⟨by rw [hb0.out]; rfl, BF.out _ (bstep KD.out.1 bq)⟩
  have dh : decide ((k.machines.length : Int) ≤ t.home) = false := by simp <;> omega
  by_cases gs : t.stamp ≤ k.clock
  case neg =>
    have ds : decide (k.clock < t.stamp) = true := by simp <;> omega
    have hb0 : Hid (clusterB k = false) := HFF.out (by rw [HX.out]; simp [gs])
    rcases HM.out with rfl | ⟨j, rfl, -⟩
    · have d0 : decide ((0 : Int) < ((0 : Nat) : Int)) = false := by simp
      go_wp2_with fail
      refine wp_region_quiet_below (by kernel_rfl) (by kernel_rfl) ?_
      repeat (go_big_quiet_step (exact cT _ _))
      refine wpQuiet_nil ?_
      intro _ hw'
      obtain ⟨⟨dq, osq⟩, hw''⟩ := hw'
      subst hw''
      have bq := below_regrown wr dq osq
      go_wp2
      go_ret
      exact ⟨by rw [hb0.out]; rfl, BF.out _ (bstep KD.out.1 bq)⟩
    · have hlt' : (atT k.txs j).id < t.id := by rcases gi with e | e; omega; exact e
      have hid := HP.out j rfl
      have xj : ∀ dd os, (grow (redrawn wr dd) os).cell? ⟨b, off + j * 7, none⟩ = some (.int .i64 (atT k.txs j).id) := fun dd os => ((bstep KV.out (below_regrown wr dd os)).cell (p := ⟨b, off + j * 7, none⟩) hb).trans (hid)
      have d0 : decide ((0 : Int) < ((j + 1 : Nat) : Int)) = true := by simp <;> omega
      have ej : ((j + 1 : Nat) : Int) - 1 = (j : Int) := by omega
      have d1 : decide (t.id ≤ (atT k.txs j).id) = false := by simp <;> omega
      have jn : (j : Int) < (k.txs.length : Int) := by omega
      clear hid hlt'
      go_wp2_with fail
      refine wp_region_quiet_below (by kernel_rfl) (by kernel_rfl) ?_
      repeat (go_big_quiet_step (exact cT _ _))
      refine wpQuiet_nil ?_
      intro _ hw'
      obtain ⟨⟨dq, osq⟩, hw''⟩ := hw'
      subst hw''
      have bq := below_regrown wr dq osq
      go_wp2
      go_ret
      exact ⟨by rw [hb0.out]; rfl, BF.out _ (bstep KD.out.1 bq)⟩
  have ds : decide (k.clock < t.stamp) = false := by simp <;> omega
  have HY : Hid (txAtB k i = (readsB k.places.length t.reads && setsB k.places.length t.sets)) := by
    unfold Hid
    rw [HX.out]
    rcases gi with gi | gi <;> simp [hB, gi, gh, gs]
  have lr := HRT.out.2.r
  have ls := HRT.out.2.s
  unfold maxLen at lr ls
  have CUT : Hid (∀ X, Below wr.heap.size wr X → Below U.heap.size U X) := fun X hX => bstep KV.out hX
  go_cut [149] from 118 to 149 (fun s149 wx => s149 = .bool false ∧ Below wr.heap.size wr wx)
  case first =>
    rcases HM.out with rfl | ⟨j, rfl, -⟩
    · have d0 : decide ((0 : Int) < ((0 : Nat) : Int)) = false := by simp
      go_wp2_with fail
      refine wp_region_quiet_below (by kernel_rfl) (by kernel_rfl) ?_
      repeat (go_big_quiet_step (exact cT _ _))
      refine wpQuiet_nil ?_
      intro _ hw'
      obtain ⟨⟨dq, osq⟩, hw''⟩ := hw'
      subst hw''
      have bq := below_regrown wr dq osq
      go_wp2_with fail
      go_meet
      exact ⟨rfl, bq⟩
    · have hlt' : (atT k.txs j).id < t.id := by rcases gi with e | e; omega; exact e
      have hid := HP.out j rfl
      have xj : ∀ dd os, (grow (redrawn wr dd) os).cell? ⟨b, off + j * 7, none⟩ = some (.int .i64 (atT k.txs j).id) := fun dd os => ((bstep KV.out (below_regrown wr dd os)).cell (p := ⟨b, off + j * 7, none⟩) hb).trans (hid)
      have d0 : decide ((0 : Int) < ((j + 1 : Nat) : Int)) = true := by simp <;> omega
      have ej : ((j + 1 : Nat) : Int) - 1 = (j : Int) := by omega
      have d1 : decide (t.id ≤ (atT k.txs j).id) = false := by simp <;> omega
      have jn : (j : Int) < (k.txs.length : Int) := by omega
      clear hid hlt'
      go_wp2_with fail
      refine wp_region_quiet_below (by kernel_rfl) (by kernel_rfl) ?_
      repeat (go_big_quiet_step (exact cT _ _))
      refine wpQuiet_nil ?_
      intro _ hw'
      obtain ⟨⟨dq, osq⟩, hw''⟩ := hw'
      subst hw''
      have bq := below_regrown wr dq osq
      go_wp2_with fail
      go_meet
      exact ⟨rfl, bq⟩
  case rest =>
  obtain ⟨rfl, bx⟩ := hcut
  have KW : Hid (Below wr.heap.size wr wc ∧ Below U.heap.size U wc) := ⟨bx, bstep KV.out bx⟩
  clear bx f0 f1 f2 f3 f4 f5 f6 cT x4 x1 dh ds KD
  generalize wc = wE at *
  go_wp2
  generalize wr = wF at *
  go_loopw [10] (fun v wr => ∃ j : Nat, j ≤ t.reads.length ∧ v = .int .i64 j ∧ Below wF.heap.size wF wr ∧ (List.range j).all (fun j => decide ((tx.atNo t.reads j).region < (k.places.length : Int))) = true) (fun v _ => t.reads.length - (intOf v).toNat)
  case atStart => exact ⟨0, Nat.zero_le _, rfl, KW.out.1, rfl⟩
  case round =>
  obtain ⟨j, hj, rfl, hbl, hall⟩ := hrel
  have KD : Hid (Below U.heap.size U wr ∧ Below wF.heap.size wF wr ∧ (List.range j).all (fun j => decide ((tx.atNo t.reads j).region < (k.places.length : Int))) = true) := ⟨CUT.out _ hbl, hbl, hall⟩
  clear hbl hall
  have p9 := (FT.out.later KD.out.2.1).1 4 _ rfl
  by_cases hlj : j < t.reads.length
  case pos =>
    obtain ⟨_, hsn⟩ := HRT.out.1.r
    dsimp only at hsn
    rcases hsn with hsn | ⟨b', off', rfl, hb', h2⟩
    · omega
    have hck := (h2 j _ (tx.atNo_of hlj)).c0
    have xz : ∀ dd os, (grow (redrawn wr dd) os).cell? ⟨b', off' + j * 5, none⟩ = some (.int .i64 (tx.atNo t.reads j).region) := fun dd os => ((bstep KD.out.1 (below_regrown wr dd os)).cell (p := ⟨b', off' + j * 5, none⟩) hb').trans (hck)
    have hbx := FA.out.1 2 _ rfl
    have x2 : ∀ dd os, (grow (redrawn wr dd) os).cell? ⟨w.heap.size, 2, none⟩ = some (.slice a1 k.places.length c1) := fun dd os => ((bstep KD.out.1 (below_regrown wr dd os)).cell (p := ⟨w.heap.size, 2, none⟩) FA.out.2.2).trans (hbx)
    have x9 : ∀ dd os, (grow (redrawn wr dd) os).cell? ⟨s9, 4, none⟩ = some (.slice (some ⟨b', off', none⟩) t.reads.length t1) := fun dd os => (FT.out.later (bstep KD.out.2.1 (below_regrown wr dd os))).1 4 _ rfl
    have jz : (j : Int) < (t.reads.length : Int) := by omega
    clear hck h2 hbx
    by_cases hz : (tx.atNo t.reads j).region < (k.places.length : Int)
    case neg =>
      have dz : decide ((k.places.length : Int) ≤ (tx.atNo t.reads j).region) = true := by simp <;> omega
      have hb0 : Hid (clusterB k = false) := HFF.out (by rw [HY.out, readsB, all_off (f := fun j => decide ((tx.atNo t.reads j).region < (k.places.length : Int))) hlj (by simpa using hz)]; simp)
      go_wp2_with fail
      refine wp_region_quiet_below (by kernel_rfl) (by kernel_rfl) ?_
      repeat (go_big_quiet_step (fail))
      refine wpQuiet_nil ?_
      intro _ hw'
      obtain ⟨⟨dq, osq⟩, hw''⟩ := hw'
      subst hw''
      have bq := below_regrown wr dq osq
      go_wp2
      go_ret
      exact ⟨by rw [hb0.out]; rfl, BF.out _ (bstep KD.out.1 bq)⟩
    have dz : decide ((k.places.length : Int) ≤ (tx.atNo t.reads j).region) = false := by simp <;> omega
    have hon : Hid ((List.range (j + 1)).all (fun j => decide ((tx.atNo t.reads j).region < (k.places.length : Int))) = true) := all_on (f := fun j => decide ((tx.atNo t.reads j).region < (k.places.length : Int))) KD.out.2.2 (by simpa using hz)
    go_wp2_with fail
    refine wp_region_quiet_below (by kernel_rfl) (by kernel_rfl) ?_
    repeat (go_big_quiet_step (fail))
    refine wpQuiet_nil ?_
    intro _ hw'
    obtain ⟨⟨dq, osq⟩, hw''⟩ := hw'
    subst hw''
    have bq := below_regrown wr dq osq
    go_wp2
    exact ⟨⟨j + 1, by omega, by simp, bstep KD.out.2.1 bq, hon.out⟩, by simp [intOf]; omega⟩
  obtain rfl : j = t.reads.length := by omega
  have hdl : decide ((t.reads.length : Int) < (t.reads.length : Int)) = false := by simp
  have HY2 : Hid (txAtB k i = setsB k.places.length t.sets) := by unfold Hid; rw [HY.out, readsB, KD.out.2.2]; simp
  have KX : Hid (Below wF.heap.size wF wr) := KD.out.2.1
  go_wp2
  clear p9 hdl
  generalize wr = wG at *
  go_loopw [11] (fun v wr => ∃ j : Nat, j ≤ t.sets.length ∧ v = .int .i64 j ∧ Below wF.heap.size wF wr ∧ (List.range j).all (fun j => decide ((tx.atSe t.sets j).region < (k.places.length : Int))) = true) (fun v _ => t.sets.length - (intOf v).toNat)
  case atStart => exact ⟨0, Nat.zero_le _, rfl, KX.out, rfl⟩
  case round =>
  obtain ⟨j, hj, rfl, hbl, hall⟩ := hrel
  have KD : Hid (Below U.heap.size U wr ∧ Below wF.heap.size wF wr ∧ (List.range j).all (fun j => decide ((tx.atSe t.sets j).region < (k.places.length : Int))) = true) := ⟨CUT.out _ hbl, hbl, hall⟩
  clear hbl hall
  have p9 := (FT.out.later KD.out.2.1).1 5 _ rfl
  by_cases hlj : j < t.sets.length
  case pos =>
    obtain ⟨_, hsn⟩ := HRT.out.1.s
    dsimp only at hsn
    rcases hsn with hsn | ⟨b', off', rfl, hb', h2⟩
    · omega
    have hck := (h2 j _ (tx.atSe_of hlj)).c0
    have xz : ∀ dd os, (grow (redrawn wr dd) os).cell? ⟨b', off' + j * 5, none⟩ = some (.int .i64 (tx.atSe t.sets j).region) := fun dd os => ((bstep KD.out.1 (below_regrown wr dd os)).cell (p := ⟨b', off' + j * 5, none⟩) hb').trans (hck)
    have hbx := FA.out.1 2 _ rfl
    have x2 : ∀ dd os, (grow (redrawn wr dd) os).cell? ⟨w.heap.size, 2, none⟩ = some (.slice a1 k.places.length c1) := fun dd os => ((bstep KD.out.1 (below_regrown wr dd os)).cell (p := ⟨w.heap.size, 2, none⟩) FA.out.2.2).trans (hbx)
    have x9 : ∀ dd os, (grow (redrawn wr dd) os).cell? ⟨s9, 5, none⟩ = some (.slice (some ⟨b', off', none⟩) t.sets.length t3) := fun dd os => (FT.out.later (bstep KD.out.2.1 (below_regrown wr dd os))).1 5 _ rfl
    have jz : (j : Int) < (t.sets.length : Int) := by omega
    clear hck h2 hbx
    by_cases hz : (tx.atSe t.sets j).region < (k.places.length : Int)
    case neg =>
      have dz : decide ((k.places.length : Int) ≤ (tx.atSe t.sets j).region) = true := by simp <;> omega
      have hb0 : Hid (clusterB k = false) := HFF.out (by rw [HY2.out, setsB, all_off (f := fun j => decide ((tx.atSe t.sets j).region < (k.places.length : Int))) hlj (by simpa using hz)])
      go_wp2_with fail
      refine wp_region_quiet_below (by kernel_rfl) (by kernel_rfl) ?_
      repeat (go_big_quiet_step (fail))
      refine wpQuiet_nil ?_
      intro _ hw'
      obtain ⟨⟨dq, osq⟩, hw''⟩ := hw'
      subst hw''
      have bq := below_regrown wr dq osq
      go_wp2
      go_ret
      exact ⟨by rw [hb0.out]; rfl, BF.out _ (bstep KD.out.1 bq)⟩
    have dz : decide ((k.places.length : Int) ≤ (tx.atSe t.sets j).region) = false := by simp <;> omega
    have hon : Hid ((List.range (j + 1)).all (fun j => decide ((tx.atSe t.sets j).region < (k.places.length : Int))) = true) := all_on (f := fun j => decide ((tx.atSe t.sets j).region < (k.places.length : Int))) KD.out.2.2 (by simpa using hz)
    go_wp2_with fail
    refine wp_region_quiet_below (by kernel_rfl) (by kernel_rfl) ?_
    repeat (go_big_quiet_step (fail))
    refine wpQuiet_nil ?_
    intro _ hw'
    obtain ⟨⟨dq, osq⟩, hw''⟩ := hw'
    subst hw''
    have bq := below_regrown wr dq osq
    go_wp2
    exact ⟨⟨j + 1, by omega, by simp, bstep KD.out.2.1 bq, hon.out⟩, by simp [intOf]; omega⟩
  obtain rfl : j = t.sets.length := by omega
  have hdl : decide ((t.sets.length : Int) < (t.sets.length : Int)) = false := by simp
  have hh := HON.out (by rw [HY2.out, setsB]; exact KD.out.2.2)
  go_wp2
  exact ⟨⟨i + 1, by omega, by simp, KD.out.1, hh⟩, by simp [intOf]; omega⟩
end Go.Proofs.YtnhjgomfkfehgaaGreatDoor
namespace Go.Proofs.YtnhjgomfkfehgaaGreatDoor
open Go.RowKit
def cmpI (x y : Int) : Int := if x < y then -1 else if y < x then 1 else 0
end Go.Proofs.YtnhjgomfkfehgaaGreatDoor
namespace Go.Proofs.YtnhjgomfkfehgaaGreatDoor
open Go.RowKit
open Go.Sort (grow)
def UpI (ts : List tx.T7) : Prop := ∀ i j, i < j → j < ts.length → (atT ts i).id < (atT ts j).id
structure PosT (ts : List tx.T7) (y : Int) (i : Nat) : Prop where
  le : i ≤ ts.length
  lo : ∀ t, t < i → (atT ts t).id < y
  hi : ∀ t, i ≤ t → t < ts.length → y ≤ (atT ts t).id
def foundT (ts : List tx.T7) (y : Int) (i : Nat) : Bool := decide (i < ts.length) && decide ((atT ts i).id = y)
def findO (k : C6) (y : Int) : Option tx.T7 := if clusterB k then k.txs.find? (fun t => decide (t.id = y)) else none
def zT : tx.T7 := ⟨0, 0, 0, 0, [], [], 0⟩
def findT (k : C6) (y : Int) : tx.T7 := (findO k y).getD zT
def findB (k : C6) (y : Int) : Bool := (findO k y).isSome
end Go.Proofs.YtnhjgomfkfehgaaGreatDoor
namespace Go.Proofs.YtnhjgomfkfehgaaGreatDoor
open Go.RowKit
def atId (ts : List tx.T7) (y : Int) : Nat := ts.findIdx fun t => decide (t.id = y)
end Go.Proofs.YtnhjgomfkfehgaaGreatDoor
namespace Go.Proofs.YtnhjgomfkfehgaaGreatDoor
open Go.RowKit
open Go.Sort (grow)
def zC : C6 := ⟨0, 0, [], [], [], false⟩
def txAt (k : C6) (y : Int) : tx.T7 := atT k.txs (atId k.txs y)
def homeB (k : C6) (y : Int) : Bool := (atM k.machines (txAt k y).home.toNat).alive
def codeB (k : C6) (y : Int) : Int := if clusterB k = true then (if atId k.txs y < k.txs.length then (if homeB k y = true then 0 else 3) else 2) else 1
def runC (k : C6) (y : Int) : Int := if codeB k y = 0 then (if (txAt k y).phase = 1 then 0 else 4) else codeB k y
def leftC (k : C6) : C6 := if clusterB k = true then k else zC
def RAns (X : World) (k : C6) (n : Int) (e : Ending) (w' : World) : Prop := ∃ (a1 : Option Addr) (c1 : Nat) (a2 : Option Addr) (c2 : Nat) (a3 : Option Addr) (c3 : Nat) (P : Nat → Prop), e = .panicked [{ v := .iface 157 (.agg #[.iface 90 (.int .i64 n), .int .i64 k.config, .int .i64 k.clock, .slice a1 k.places.length c1, .slice a2 k.machines.length c2, .slice a3 k.txs.length c3, .bool k.lost]), recovered := false }] ∧ KCl.Ow w' X.heap.size a1 c1 a2 c2 a3 c3 k P ∧ Below X.heap.size X w'
theorem RAns.d {X : World} {k : C6} {n : Int} {e : Ending} {w' : World} (h : RAns X k n e w') (hn : n ≠ 0) : DAns X k n e w' := by
  obtain ⟨a1, c1, a2, c2, a3, c3, P, h1, h2, h3⟩ := h
  exact ⟨a1, c1, a2, c2, a3, c3, P, .inr ⟨hn, h1⟩, h2, h3⟩
theorem zC_ow (w : World) (B : Nat) : KCl.Ow w B none 0 none 0 none 0 zC (fun _ => False) :=
  ⟨⟨fun _ => False, fun _ => False, fun _ => False, ⟨⟨fun _ => 0, .inl ⟨rfl, rfl, rfl⟩, fun b e => (by cases e), fun i hi => (by simp [zC] at hi)⟩, fun q h => h.elim⟩, ⟨.inl rfl, fun q h => h.elim⟩, ⟨.inl rfl, fun q h => h.elim⟩, fun q h => h.elim, fun q h => h.elim, fun q h => h.elim, fun q h => h.elim, fun q h => h.elim, fun q h => h.elim⟩, fun q h => h.elim⟩
set_option maxHeartbeats 1000000 in
theorem needRight_yes (w : World) (a1 : Option Addr) (c1 : Nat) (a2 : Option Addr) (c2 : Nat) (a3 : Option Addr) (c3 : Nat) (k : C6) (hl : KCl.L k) (h : KCl.Rd w a1 c1 a2 c2 a3 c3 k) (hk : clusterB k = true) : Calls Tryz.prog 90 #[.agg #[.int .i64 k.config, .int .i64 k.clock, .slice a1 k.places.length c1, .slice a2 k.machines.length c2, .slice a3 k.txs.length c3, .bool k.lost]] w fun e w' => e = .returned (.tuple #[]) ∧ Below w.heap.size w w' := by
  obtain ⟨W, hW⟩ : ∃ Y, Y = w.alloc (.cells #[.int .i64 k.config, .int .i64 k.clock, .slice a1 k.places.length c1, .slice a2 k.machines.length c2, .slice a3 k.txs.length c3, .bool k.lost] 32) := ⟨_, rfl⟩
  have bW : Below w.heap.size w W := by rw [hW]; exact (Below.refl _ _).alloc (Nat.le_refl _) _
  have hc := implClusterOk_any W a1 c1 a2 c2 a3 c3 k hl (h.later bW)
  rw [hk] at hc
  have BW : Hid (Below w.heap.size w W) := bW
  clear bW h hl
  go_enter Tryz.func90, Tryz.ntmps90
  go_wp2_with fail
  rw [← hW]
  clear hW
  refine hc.mono ?_
  clear hc
  rintro e w1 ⟨rfl, b1⟩
  have B1 : Hid (Below w.heap.size w w1) := bstep BW.out b1
  clear b1
  go_wp2
  refine bodyPost_end (v := .tuple #[]) (by simp [results, Tryz.results90]) rfl ?_
  exact ⟨rfl, B1.out⟩
set_option maxHeartbeats 1000000 in
theorem needRight_no (w : World) (a1 : Option Addr) (c1 : Nat) (a2 : Option Addr) (c2 : Nat) (a3 : Option Addr) (c3 : Nat) (k : C6) (hl : KCl.L k) (h : KCl.Rd w a1 c1 a2 c2 a3 c3 k) (hk : clusterB k = false) : Calls Tryz.prog 90 #[.agg #[.int .i64 k.config, .int .i64 k.clock, .slice a1 k.places.length c1, .slice a2 k.machines.length c2, .slice a3 k.txs.length c3, .bool k.lost]] w (RAns w zC 1) := by
  obtain ⟨W, hW⟩ : ∃ Y, Y = w.alloc (.cells #[.int .i64 k.config, .int .i64 k.clock, .slice a1 k.places.length c1, .slice a2 k.machines.length c2, .slice a3 k.txs.length c3, .bool k.lost] 32) := ⟨_, rfl⟩
  have bW : Below w.heap.size w W := by rw [hW]; exact (Below.refl _ _).alloc (Nat.le_refl _) _
  have hc := implClusterOk_any W a1 c1 a2 c2 a3 c3 k hl (h.later bW)
  rw [hk] at hc
  have BW : Hid (Below w.heap.size w W) := bW
  clear bW h hl
  go_enter Tryz.func90, Tryz.ntmps90
  go_wp2_with fail
  rw [← hW]
  clear hW
  refine hc.mono ?_
  clear hc
  rintro e w1 ⟨rfl, b1⟩
  have B1 : Hid (Below w.heap.size w w1) := bstep BW.out b1
  clear b1
  go_wp2_with fail
  refine (refuse_any w1 1 (.int .i64 0) (.int .i64 0) (.slice none 0 0) (.slice none 0 0) (.slice none 0 0) (.bool false)).mono ?_
  rintro e w2 ⟨rfl, rfl⟩
  go_wp2
  exact ⟨rfl, none, 0, none, 0, none, 0, fun _ => False, rfl, zC_ow _ _, B1.out.alloc B1.out.size _⟩
end Go.Proofs.YtnhjgomfkfehgaaGreatDoor
namespace Go.Proofs.YtnhjgomfkfehgaaGreatDoor.tx
open Go.RowKit
def TAns (w : World) (N : T7) (ok : Bool) (e : Ending) (w' : World) : Prop :=
  ∃ (a : Option Addr) (c : Nat) (h : Option Addr) (d : Nat) (PR PS : Nat → Prop), e = .returned (.tuple #[.agg #[.int .i64 N.id, .int .i64 N.home, .int .i64 N.phase, .int .i64 N.count, .slice a N.reads.length c, .slice h N.sets.length d, .int .i64 N.stamp], .bool ok]) ∧ OT w' w.heap.size ⟨a, c, h, d⟩ N PR PS ∧ Below w.heap.size w w'
def noT : T7 := ⟨0, 0, 0, 0, [], [], 0⟩
theorem OT.none {w : World} {B : Nat} {N : T7} (h1 : N.reads = []) (h2 : N.sets = []) : OT w B ⟨none, 0, none, 0⟩ N (fun _ => False) (fun _ => False) := ⟨.inl h1, .inl h2, fun _ h => h.elim, fun _ h => h.elim, fun _ h => h.elim⟩
theorem TAns.zero {w w' : World} (hb : Below w.heap.size w w') : TAns w noT false (.returned (.tuple #[.agg #[.int .i64 0, .int .i64 0, .int .i64 0, .int .i64 0, .slice none 0 0, .slice none 0 0, .int .i64 0], .bool false])) w' :=
  ⟨none, 0, none, 0, fun _ => False, fun _ => False, rfl, OT.none rfl rfl, hb⟩
def newT (i h : Int) : T7 := if inB 1 1000000 i && inB 0 7 h then ⟨i, h, 1, 0, [], [], 0⟩ else noT
def newB (i h : Int) : Bool := inB 1 1000000 i && inB 0 7 h
set_option maxHeartbeats 1000000 in
theorem specNewTx_any (w : World) (i h : Int) : Calls Tryz.prog 34 #[.int .i64 i, .int .i64 h] w (TAns w (newT i h) (newB i h)) := by
  have b0 : Hid (∀ o, Below w.heap.size w (w.alloc o)) := fun o => (Below.refl _ _).alloc (Nat.le_refl _) _
  cases h1 : inB 1 1000000 i with
  | false =>
    have e1 : newT i h = noT := by simp [newT, h1]
    have e2 : newB i h = false := by simp [newB, h1]
    rw [e1, e2]
    go_enter Tryz.func34, Tryz.ntmps34
    go_wp2_with (first | (go_at_call 31; refine (specId_e _ _).mono ?_; rintro e w' ⟨rfl, rfl⟩) | (go_at_call 84; refine (specMachine_e _ _).mono ?_; rintro e w' ⟨rfl, rfl⟩))
    refine bodyPost_ret (v := .tuple #[.agg #[.int .i64 0, .int .i64 0, .int .i64 0, .int .i64 0, .slice none 0 0, .slice none 0 0, .int .i64 0], .bool false]) (by simp [results, Tryz.results34, go_sem]) rfl ?_
    exact TAns.zero (b0.out _)
  | true =>
    cases h2 : inB 0 7 h with
    | false =>
      have e1 : newT i h = noT := by simp [newT, h2]
      have e2 : newB i h = false := by simp [newB, h2]
      rw [e1, e2]
      go_enter Tryz.func34, Tryz.ntmps34
      go_wp2_with (first | (go_at_call 31; refine (specId_e _ _).mono ?_; rintro e w' ⟨rfl, rfl⟩) | (go_at_call 84; refine (specMachine_e _ _).mono ?_; rintro e w' ⟨rfl, rfl⟩))
      refine bodyPost_ret (v := .tuple #[.agg #[.int .i64 0, .int .i64 0, .int .i64 0, .int .i64 0, .slice none 0 0, .slice none 0 0, .int .i64 0], .bool false]) (by simp [results, Tryz.results34, go_sem]) rfl ?_
      exact TAns.zero (b0.out _)
    | true =>
      have e1 : newT i h = ⟨i, h, 1, 0, [], [], 0⟩ := by simp [newT, h1, h2]
      have e2 : newB i h = true := by simp [newB, h1, h2]
      rw [e1, e2]
      go_enter Tryz.func34, Tryz.ntmps34
      go_wp2_with (first | (go_at_call 31; refine (specId_e _ _).mono ?_; rintro e w' ⟨rfl, rfl⟩) | (go_at_call 84; refine (specMachine_e _ _).mono ?_; rintro e w' ⟨rfl, rfl⟩))
      refine bodyPost_ret (v := .tuple #[.agg #[.int .i64 i, .int .i64 h, .int .i64 1, .int .i64 0, .slice none 0 0, .slice none 0 0, .int .i64 0], .bool true]) (by simp [results, Tryz.results34, go_sem]) rfl ?_
      exact ⟨none, 0, none, 0, fun _ => False, fun _ => False, rfl, OT.none rfl rfl, b0.out _⟩
structure TS (t : T7) : Prop where
  r : t.reads.length ≤ 1048576
  s : t.sets.length ≤ 1048576
theorem TS.tl {t : T7} (h : TS t) : TL t := ⟨by have := h.r; unfold maxLen; omega, by have := h.s; unfold maxLen; omega⟩
end Go.Proofs.YtnhjgomfkfehgaaGreatDoor.tx