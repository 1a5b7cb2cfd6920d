/- PlacesI1; PlacesIa; CluI7; Cmp; FindT; AtId; YNoA; YRowA: joined. -/
import Derived.Test.YteiofebmgilclaaGreatRows
import Derived.Test.YteiofebmgilclaaGreatJ5ExactVote
import Derived.WalkKit
import Derived.WalkSpells
import Derived.WalkLawsBesides
import Derived.Below
import Derived.BigQuiet
import Derived.Deep.QuietTactic
import Derived.Test.YteiofebmgilclaaGreatJ9ExactVote
import Derived.Test.YteiofebmgilclaaGreatJ8ExactVote
import Derived.Lib.QuietBelow
import Derived.Deep.CutRange
import Derived.Test.YteiofebmgilclaaGreatJ6ExactVote
import Derived.Test.YteiofebmgilclaaGreatJ2ExactVote
import Derived.Maps.AppendAt
import Derived.Laws.OwnMore
import Derived.Deep.AppendLies
import Derived.Deep.Heap
namespace Go.Proofs.YteiofebmgilclaaGreat
open Go.RowKit
theorem implMachine (w : World) (x : Int) : Calls Tryz.prog 100 #[.int .i64 x] w fun e w' => e = .returned (.bool (inB 0 7 x)) ∧ w' = w := by
  by_cases h0 : 0 ≤ x
  · by_cases h8 : x < 8
    · rw [inB_yes (by omega) (by omega)]
      go_enter Tryz.func100, Tryz.ntmps100
      go_wp2
      go_ret
      exact ⟨rfl, rfl⟩
    · have hd : decide (x < 8) = false := by simp; omega
      have hb : inB 0 7 x = false := by cases h : inB 0 7 x with | false => rfl | true => rw [inB_iff] at h; omega
      rw [hb]
      go_enter Tryz.func100, Tryz.ntmps100
      go_wp2
      go_ret
      exact ⟨rfl, rfl⟩
  · have hd : decide (0 ≤ x) = false := by simp; omega
    have hb : inB 0 7 x = false := by cases h : inB 0 7 x with | false => rfl | true => rw [inB_iff] at h; omega
    rw [hb]
    go_enter Tryz.func100, Tryz.ntmps100
    go_wp2
    go_ret
    exact ⟨rfl, rfl⟩
set_option maxHeartbeats 1000000 in
theorem index_any (w : World) (a : Option Addr) (n cap : Nat) (z : Int) (zs : List Int) (hn : n ≤ maxLen) (hs : SlN w w.heap.size a n zs) :
    Calls Tryz.prog 111 #[.slice a n cap, .int .i64 z] w fun e w' => (∃ i : Int, e = .returned (.int .i64 i) ∧ decide (0 ≤ i) = hasB zs z) ∧ w' = w := by
  unfold maxLen at hn
  obtain ⟨hx, hs⟩ := hs
  go_enter Tryz.func111, Tryz.ntmps111
  go_wp2
  go_loop [8] (fun v => ∃ k : Nat, k ≤ n ∧ v = .int .i64 k ∧ ∀ i, i < k → atN zs i ≠ z) (fun v => n - (intOf v).toNat)
  case atStart => exact ⟨0, Nat.zero_le _, rfl, fun i h => absurd h (by omega)⟩
  case round =>
    obtain ⟨k, hk, rfl, hall⟩ := hrel
    have K : Hid ((∀ i, i < k → atN zs i ≠ z) ∧ zs.length = n) := ⟨hall, hx⟩
    by_cases hlt : k < n
    · rcases hs with hs | ⟨b, off, rfl, hb, h1⟩
      · omega
      · have c := h1 k _ (atN_of (by omega))
        clear h1 hall hx
        by_cases he : atN zs k = z
        · have q : (z == atN zs k) = true := by simp [he]
          have HE : Hid (atN zs k = z) := he
          clear he
          go_wp2
          go_ret
          exact ⟨⟨_, rfl, by rw [has_yes (by rw [K.out.2]; exact hlt) HE.out]; simp⟩, rfl⟩
        · have q : (z == atN zs k) = false := by simp; exact fun h => he h.symm
          have HE : Hid (atN zs k ≠ z) := he
          clear he
          go_wp2
          refine ⟨⟨k + 1, by omega, by simp, fun i hi => ?_⟩, by simp [intOf]; omega⟩
          by_cases e : i = k
          · rw [e]; exact HE.out
          · exact K.out.1 i (by omega)
    · have : k = n := by omega
      subst this
      have hd : decide ((k : Int) < (k : Int)) = false := by simp
      clear hall hx hs
      go_wp2
      go_ret
      exact ⟨⟨_, rfl, by rw [has_no (by rw [K.out.2]; exact K.out.1)]; rfl⟩, rfl⟩
theorem contains_any (w : World) (a : Option Addr) (n cap : Nat) (z : Int) (zs : List Int) (hn : n ≤ maxLen) (hs : SlN w w.heap.size a n zs) :
    Calls Tryz.prog 60 #[.slice a n cap, .int .i64 z] w fun e w' => e = .returned (.bool (hasB zs z)) ∧ w' = w := by
  have hi := index_any w a n cap z zs hn hs
  clear hs
  go_enter Tryz.func60, Tryz.ntmps60
  go_wp2_with fail
  refine hi.mono ?_
  clear hi
  rintro e w1 ⟨⟨i, rfl, hb⟩, rfl⟩
  go_wp2
  go_ret
  exact ⟨rfl, rfl⟩
set_option maxHeartbeats 4000000 in
theorem placeOk_any (w : World) (a : Option Addr) (cap : Nat) (zs : List Int) (hs : SlN w w.heap.size a zs.length zs) (hcp : zs.length ≤ cap) :
    Calls Tryz.prog 138 #[.agg #[.slice a zs.length cap]] w fun e w' => e = .returned (.bool (placeB zs)) ∧ Below w.heap.size w w' := by
  have b0 : Below w.heap.size w (w.alloc (.cells #[.slice a zs.length cap] 86)) := (Below.refl _ _).alloc (Nat.le_refl _) _
  by_cases h3 : zs.length < 1 ∨ 3 < zs.length
  · have hpf : placeB zs = false := by
      rcases h3 with h | h
      · simp [placeB, show ¬ 1 ≤ zs.length by omega]
      · simp [placeB, show ¬ zs.length ≤ 3 by omega]
    rw [hpf]
    rcases h3 with h | h
    · have d3 : decide ((zs.length : Int) < 1) = true := by simp; omega
      go_enter Tryz.func138, Tryz.ntmps138
      go_wp2
      go_ret
      exact ⟨rfl, b0⟩
    · have d3 : decide ((zs.length : Int) < 1) = false := by simp; omega
      have d4 : decide ((3 : Int) < (zs.length : Int)) = true := by simp; omega
      go_enter Tryz.func138, Tryz.ntmps138
      go_wp2
      go_ret
      exact ⟨rfl, b0⟩
  · have d3 : decide ((zs.length : Int) < 1) = false := by simp; omega
    have d4 : decide ((3 : Int) < (zs.length : Int)) = false := by simp; omega
    have HG : Hid (placeB zs = (List.range zs.length).all (goodAt zs)) := by unfold Hid; simp [placeB, show 1 ≤ zs.length by omega, show zs.length ≤ 3 by omega]
    have KS : Hid (SlN w w.heap.size a zs.length zs) := hs
    have KB : Hid (Below w.heap.size w (w.alloc (.cells #[.slice a zs.length cap] 86))) := b0
    clear hs b0
    go_enter Tryz.func138, Tryz.ntmps138
    go_wp2
    go_loopw [18] (fun v18 wr => ∃ k : Nat, k ≤ zs.length ∧ v18 = .int .i64 k ∧ Below (w.heap.size + 1) (w.alloc (.cells #[.slice a zs.length cap] 86)) wr ∧ (List.range k).all (goodAt zs) = true) (fun v18 _ => zs.length - (intOf v18).toNat)
    case atStart => exact ⟨0, Nat.zero_le _, rfl, Below.refl _ _, rfl⟩
    case round =>
      obtain ⟨k, hk, rfl, hbq, hgk⟩ := hrel
      have hbw : Below w.heap.size w wr := KB.out.trans (hbq.mono (by omega))
      by_cases hkl : k < zs.length
      · obtain ⟨_, hsn⟩ := KS.out
        rcases hsn with hsn | ⟨b', off', rfl, hb', h2⟩
        · omega
        · have cp : wr.cell? ⟨w.heap.size, 0, none⟩ = some (.slice (some ⟨b', off', none⟩) zs.length cap) := (hbq.cell (p := ⟨w.heap.size, 0, none⟩) (by simp)).trans (by go_simp)
          have ck := (hbw.cell (p := ⟨b', off' + k, none⟩) hb').trans (h2 k _ (atN_of hkl))
          have hst : SlN wr wr.heap.size (some ⟨b', off', none⟩) k (zs.take k) := ⟨by rw [List.length_take]; omega, .inr ⟨b', off', rfl, Nat.lt_of_lt_of_le hb' hbw.size, fun i z e => by
            rw [List.getElem?_take] at e
            split at e
            · exact (h2.below hbw hb') i z e
            · cases e⟩⟩
          have KQ : Hid (Below (w.heap.size + 1) (w.alloc (.cells #[.slice (some ⟨b', off', none⟩) zs.length cap] 86)) wr ∧ (List.range k).all (goodAt zs) = true ∧ Below w.heap.size w wr) := ⟨hbq, hgk, hbw⟩
          have hkm : k ≤ maxLen := by unfold maxLen; omega
          have cH : Calls Tryz.prog 60 #[.slice (some ⟨b', off', none⟩) k cap, .int .i64 (atN zs k)] wr fun e w'' => e = .returned (.bool (hasB (zs.take k) (atN zs k))) ∧ w'' = wr := contains_any wr _ k cap (atN zs k) (zs.take k) hkm hst
          have cM := implMachine wr (atN zs k)
          have HK : Hid (goodAt zs k = (inB 0 7 (atN zs k) && !hasB (zs.take k) (atN zs k))) := rfl
          have hkc : k ≤ cap := by omega
          clear h2 hbq hgk hst hbw
          generalize atN zs k = z at *
          cases g1 : inB 0 7 z with
          | false =>
            rw [g1] at cM
            have hgf : goodAt zs k = false := by rw [HK.out, g1]; rfl
            go_wp2_with fail
            refine cM.mono ?_
            clear cM cH
            rintro e wr ⟨rfl, rfl⟩
            go_wp2
            go_ret
            exact ⟨by rw [HG.out, all_off hkl hgf]; rfl, KQ.out.2.2⟩
          | true =>
            rw [g1] at cM
            cases g2 : hasB (zs.take k) z with
            | true =>
              rw [g2] at cH
              have hgf : goodAt zs k = false := by rw [HK.out, g1, g2]; rfl
              go_wp2_with fail
              refine cM.mono ?_
              clear cM
              rintro e wr ⟨rfl, rfl⟩
              go_wp2_with fail
              refine cH.mono ?_
              clear cH
              rintro e wr ⟨rfl, rfl⟩
              go_wp2
              go_ret
              exact ⟨by rw [HG.out, all_off hkl hgf]; rfl, KQ.out.2.2⟩
            | false =>
              rw [g2] at cH
              have hgt : goodAt zs k = true := by rw [HK.out, g1, g2]; rfl
              go_wp2_with fail
              refine cM.mono ?_
              clear cM
              rintro e wr ⟨rfl, rfl⟩
              go_wp2_with fail
              refine cH.mono ?_
              clear cH
              rintro e wr ⟨rfl, rfl⟩
              go_wp2
              exact ⟨⟨k + 1, by omega, by simp, KQ.out.1, all_on KQ.out.2.1 hgt⟩, by simp [intOf]; omega⟩
      · have : k = zs.length := by omega
        subst this
        have hd : decide ((zs.length : Int) < (zs.length : Int)) = false := by simp
        go_wp2
        go_ret
        exact ⟨by rw [HG.out, hgk]; rfl, hbw⟩
theorem wrong_any (w : World) (a : Option Addr) (cap : Nat) (zs : List Int) (hs : SlN w w.heap.size a zs.length zs) (hcp : zs.length ≤ cap) :
    Calls Tryz.prog 137 #[.agg #[.slice a zs.length cap]] w fun e w' => e = .returned (.bool (!placeB zs)) ∧ Below w.heap.size w w' := by
  have b0 : Below w.heap.size w (w.alloc (.cells #[.slice a zs.length cap] 86)) := (Below.refl _ _).alloc (Nat.le_refl _) _
  have hc := placeOk_any (w.alloc (.cells #[.slice a zs.length cap] 86)) a cap zs (hs.later b0) hcp
  have B0 : Hid (Below w.heap.size w (w.alloc (.cells #[.slice a zs.length cap] 86))) := b0
  clear hs b0
  generalize placeB zs = V at *
  generalize zs.length = n at *
  go_enter Tryz.func137, Tryz.ntmps137
  go_wp2_with fail
  refine hc.mono ?_
  clear hc
  rintro e w1 ⟨rfl, b1⟩
  go_wp2
  go_ret
  exact ⟨rfl, B0.out.trans (b1.mono (by simp))⟩
set_option maxHeartbeats 2000000 in
theorem indexFunc_any (w : World) (a : Option Addr) (n cap : Nat) (zss : List (List Int)) (hn : n ≤ maxLen) (hs : SlP w w.heap.size a n zss) :
    Calls Tryz.prog 172 #[.slice a n cap, .func (.func 137) #[] #[]] w fun e w' => (∃ i : Int, e = .returned (.int .i64 i) ∧ decide (0 ≤ i) = !((List.range n).all fun i => placeB (atP zss i))) ∧ Below w.heap.size w w' := by
  unfold maxLen at hn
  obtain ⟨hx, hs⟩ := hs
  go_enter Tryz.func172, Tryz.ntmps172
  go_wp2
  go_loopw [8] (fun v wr => ∃ j : Nat, j ≤ n ∧ v = .int .i64 j ∧ Below w.heap.size w wr ∧ (List.range j).all (fun i => placeB (atP zss i)) = true) (fun v _ => n - (intOf v).toNat)
  case atStart => exact ⟨0, Nat.zero_le _, rfl, Below.refl _ _, rfl⟩
  case round =>
    obtain ⟨j, hj, rfl, hbl, hall⟩ := hrel
    by_cases hlt : j < n
    · rcases hs with hs | ⟨b, off, rfl, hb, h1⟩
      · omega
      · obtain ⟨a', cap', hc, hsl, hcp⟩ := h1 j _ (atP_of (by omega))
        have c := (hbl.cell (p := ⟨b, off + j, none⟩) hb).trans hc
        have KA : Hid ((List.range j).all (fun i => placeB (atP zss i)) = true ∧ Below w.heap.size w wr) := ⟨hall, hbl⟩
        have hw := wrong_any wr a' cap' (atP zss j) ((hsl.below hbl).mono hbl.size) hcp
        have HF : Hid (placeB (atP zss j) = false → ((List.range n).all fun i => placeB (atP zss i)) = false) := fun h => all_off hlt h
        have HT : Hid (placeB (atP zss j) = true → ((List.range (j + 1)).all fun i => placeB (atP zss i)) = true) := fun h => all_on hall h
        clear h1 hc hall hsl hbl hcp
        generalize (atP zss j).length = m at *
        cases hp : placeB (atP zss j) with
        | false =>
          rw [hp] at hw
          go_wp2_with fail
          refine hw.mono ?_
          clear hw
          rintro e w1 ⟨rfl, b1⟩
          go_wp2
          go_ret
          exact ⟨⟨_, rfl, by rw [HF.out hp]; simp⟩, KA.out.2.trans (b1.mono KA.out.2.size)⟩
        | true =>
          rw [hp] at hw
          go_wp2_with fail
          refine hw.mono ?_
          clear hw
          rintro e w1 ⟨rfl, b1⟩
          go_wp2
          exact ⟨⟨j + 1, by omega, by simp, KA.out.2.trans (b1.mono KA.out.2.size), HT.out hp⟩, by simp [intOf]; omega⟩
    · have : j = n := by omega
      subst this
      have hd : decide ((j : Int) < (j : Int)) = false := by simp
      clear hs
      go_wp2
      go_ret
      exact ⟨⟨_, rfl, by rw [hall]; rfl⟩, hbl⟩
theorem containsFunc_any (w : World) (a : Option Addr) (n cap : Nat) (zss : List (List Int)) (hn : n ≤ maxLen) (hs : SlP w w.heap.size a n zss) :
    Calls Tryz.prog 139 #[.slice a n cap, .func (.func 137) #[] #[]] w fun e w' => e = .returned (.bool (!((List.range n).all fun i => placeB (atP zss i)))) ∧ Below w.heap.size w w' := by
  have hi := indexFunc_any w a n cap zss hn hs
  clear hs
  generalize (!((List.range n).all fun i => placeB (atP zss i))) = V at *
  go_enter Tryz.func139, Tryz.ntmps139
  go_wp2_with fail
  refine hi.mono ?_
  clear hi
  rintro e w1 ⟨⟨i, rfl, hb⟩, b1⟩
  go_wp2
  go_ret
  exact ⟨rfl, b1⟩
set_option maxHeartbeats 1000000 in
theorem implPlacesOk_any (w : World) (a : Option Addr) (n cap : Nat) (zss : List (List Int)) (hn : n ≤ maxLen) (hs : SlP w w.heap.size a n zss) :
    Calls Tryz.prog 92 #[.slice a n cap] w fun e w' => e = .returned (.bool (placesB zss)) ∧ Below w.heap.size w w' := by
  have hx := hs.1
  have hc := containsFunc_any w a n cap zss hn hs
  unfold maxLen at hn
  by_cases h1 : 1 ≤ n
  · by_cases h6 : n ≤ 6
    · have d1 : (1 : Int) ≤ (n : Int) := by omega
      have d6 : (n : Int) ≤ 6 := by omega
      have hV : placesB zss = ((List.range n).all fun i => placeB (atP zss i)) := by simp [placesB, hx, h1, h6]
      rw [hV]
      generalize ((List.range n).all fun i => placeB (atP zss i)) = V at *
      clear hs hV
      go_enter Tryz.func92, Tryz.ntmps92
      go_wp2_with fail
      refine hc.mono ?_
      clear hc
      rintro e w1 ⟨rfl, b1⟩
      go_wp2
      go_ret
      exact ⟨by simp, b1⟩
    · have d1 : (1 : Int) ≤ (n : Int) := by omega
      have d6 : decide ((n : Int) ≤ 6) = false := by simp; omega
      have hV : placesB zss = false := by simp [placesB, hx, h6]
      rw [hV]
      clear hs hV hc
      go_enter Tryz.func92, Tryz.ntmps92
      go_wp2
      go_ret
      exact ⟨rfl, Below.refl _ _⟩
  · obtain rfl : n = 0 := by omega
    have hV : placesB zss = false := by simp [placesB, hx]
    rw [hV]
    clear hs hV hc
    go_enter Tryz.func92, Tryz.ntmps92
    go_wp2
    go_ret
    exact ⟨rfl, Below.refl _ _⟩
end Go.Proofs.YteiofebmgilclaaGreat
namespace Go.Proofs.YteiofebmgilclaaGreat
open Go.RowKit
open Go.Sort (grow)
set_option maxHeartbeats 1000000 in
theorem isConfig_any (w : World) (x : Int) : Calls Tryz.prog 89 #[.int .i64 x] w fun e w' => e = .returned (.bool (inB 1 1000000 x)) ∧ w' = w := by
  have hc := tx.implId w x
  go_enter Tryz.func89, Tryz.ntmps89
  go_wp2_with fail
  refine hc.mono ?_
  clear hc
  rintro e w1 ⟨rfl, rfl⟩
  go_wp2
  go_ret
  exact ⟨rfl, rfl⟩
theorem clusterB_eq (k : C6) : clusterB k = (inB 1 1000000 k.config && (inB 0 1000000 k.clock && ((decide (1 ≤ k.machines.length) && decide (k.machines.length ≤ 8) && machsB k.machines) && (placesB k.places && (placedB k.places k.machines && (decide (k.txs.length ≤ 60) && txsB k)))))) := by
  unfold clusterB
  ac_rfl
set_option maxRecDepth 100000 in
set_option maxHeartbeats 4000000 in
theorem implClusterOk_any (w : World) (a1 : Option Addr) (c1 : Nat) (a2 : Option Addr) (c2 : Nat) (a3 : Option Addr) (c3 : Nat) (k : C6) (hl : KCl.L k) (h : KCl.Rd w a1 c1 a2 c2 a3 c3 k) : Calls Tryz.prog 52 #[.agg #[.int .i64 k.config, .int .i64 k.clock, .slice a1 k.places.length c1, .slice a2 k.machines.length c2, .slice a3 k.txs.length c3, .bool k.lost]] w fun e w' => e = .returned (.bool (clusterB k)) ∧ Below w.heap.size w w' := by
  obtain ⟨U, hU⟩ : ∃ Y, Y = w.alloc (.cells #[.int .i64 k.config, .int .i64 k.clock, .slice a1 k.places.length c1, .slice a2 k.machines.length c2, .slice a3 k.txs.length c3, .bool k.lost] 33) := ⟨_, rfl⟩
  have b0 : Below w.heap.size w U := by rw [hU]; exact (Below.refl _ _).alloc (Nat.le_refl _) _
  have FA : Hid (Bx U w.heap.size [.int .i64 k.config, .int .i64 k.clock, .slice a1 k.places.length c1, .slice a2 k.machines.length c2, .slice a3 k.txs.length c3, .bool k.lost]) := by unfold Hid; rw [hU]; exact Bx.made w [.int .i64 k.config, .int .i64 k.clock, .slice a1 k.places.length c1, .slice a2 k.machines.length c2, .slice a3 k.txs.length c3, .bool k.lost] _
  have HR : Hid (KCl.Rd U a1 c1 a2 c2 a3 c3 k ∧ KCl.L k ∧ Below w.heap.size w U) := ⟨h.later b0, hl, b0⟩
  have HC : Hid (clusterB k = (inB 1 1000000 k.config && (inB 0 1000000 k.clock && ((decide (1 ≤ k.machines.length) && decide (k.machines.length ≤ 8) && machsB k.machines) && (placesB k.places && (placedB k.places k.machines && (decide (k.txs.length ≤ 60) && txsB k))))))) := clusterB_eq k
  have hc := isConfig_any U k.config
  clear b0 h hl
  go_enter Tryz.func52, Tryz.ntmps52
  go_wp2_with fail
  rw [← hU]
  clear hU
  refine hc.mono ?_
  clear hc
  rintro e w1 ⟨rfl, rfl⟩
  generalize w1 = U at *
  cases g1 : inB 1 1000000 k.config with
  | false =>
    have hb : Hid (clusterB k = false) := by unfold Hid; rw [HC.out, g1]; rfl
    go_wp2
    go_ret
    exact ⟨by rw [hb.out]; rfl, HR.out.2.2⟩
  | true =>
  have p1 := FA.out.1 1 _ rfl
  have hc := tx.implStamp U k.clock
  go_wp2_with fail
  refine hc.mono ?_
  clear hc p1
  rintro e w1 ⟨rfl, rfl⟩
  generalize w1 = U at *
  cases g2 : inB 0 1000000 k.clock with
  | false =>
    have hb : Hid (clusterB k = false) := by unfold Hid; rw [HC.out, g2]; simp
    go_wp2
    go_ret
    exact ⟨by rw [hb.out]; rfl, HR.out.2.2⟩
  | true =>
  have p3 := FA.out.1 3 _ rfl
  have hc := machinesOk_any U a2 c2 k.machines HR.out.2.1.m HR.out.2.1.ms HR.out.1.m
  go_wp2_with fail
  refine hc.mono ?_
  clear hc p3
  rintro e w1 ⟨rfl, b1⟩
  have B1 := hidOf b1
  clear b1
  cases g3 : (decide (1 ≤ k.machines.length) && decide (k.machines.length ≤ 8) && machsB k.machines) with
  | false =>
    have hb : Hid (clusterB k = false) := by unfold Hid; rw [HC.out, g3]; simp
    go_wp2
    go_ret
    exact ⟨by rw [hb.out]; rfl, bstep HR.out.2.2 B1.out⟩
  | true =>
  have p2 := (FA.out.later B1.out).1 2 _ rfl
  have hc := implPlacesOk_any w1 a1 k.places.length c1 k.places HR.out.2.1.p (HR.out.1.p.later B1.out)
  go_wp2_with fail
  refine hc.mono ?_
  clear hc p2
  rintro e w2 ⟨rfl, b2⟩
  have B2 : Hid (Below U.heap.size U w2) := bstep B1.out b2
  clear b2 B1
  generalize w1 = wA at *
  cases g4 : placesB k.places with
  | false =>
    have hb : Hid (clusterB k = false) := by unfold Hid; rw [HC.out, g4]; simp
    go_wp2
    go_ret
    exact ⟨by rw [hb.out]; rfl, bstep HR.out.2.2 B2.out⟩
  | true =>
  have HC2 : Hid (clusterB k = (placedB k.places k.machines && (decide (k.txs.length ≤ 60) && txsB k))) := by unfold Hid; rw [HC.out, g1, g2, g3, g4]; rfl
  have HG : Hid (k.machines.length ≤ 8 ∧ machsB k.machines = true ∧ placesB k.places = true) := by
    simp only [Bool.and_eq_true, decide_eq_true_eq] at g3
    exact ⟨g3.1.2, g3.2, g4⟩
  clear g1 g2 g3 g4 HC
  have SF : Hid (∀ X, Below U.heap.size U X → (fun X : World => Bx X w.heap.size [.int .i64 k.config, .int .i64 k.clock, .slice a1 k.places.length c1, .slice a2 k.machines.length c2, .slice a3 k.txs.length c3, .bool k.lost]) X) := fun X hX => FA.out.later hX
  go_wp2_with fail
  have bd : Below U.heap.size U w2.drew := B2.out.drew
  have hS := SF.out _ bd
  refine wp_region_z (fun z => z == 10) (fun X : World => Bx X w.heap.size [.int .i64 k.config, .int .i64 k.clock, .slice a1 k.places.length c1, .slice a2 k.machines.length c2, .slice a3 k.txs.length c3, .bool k.lost]) (by kernel_rfl) ?_
  generalize w2.drew = Wd at *
  refine wpZ_takeP (i := 0) (v := ?_) rfl (by kernel_rfl) (fun _ _ _ h => h) (Or.inl ⟨by rfl, ?_⟩) hS ?_
  rotate_left
  · (intro X _; go_simp; first | done | with_reducible rfl)
  simp only [Act.put]
  refine wpZ_take (i := 1) (v := ?_) rfl (by kernel_rfl) (fun _ _ _ h => h) (Or.inl ⟨by rfl, ?_⟩) hS ?_
  rotate_left
  · (intro X hSw; have c0 := hSw.1 0 _ rfl; have c1 := hSw.1 1 _ rfl; have c2 := hSw.1 2 _ rfl; have c3 := hSw.1 3 _ rfl; have c4 := hSw.1 4 _ rfl; have c5 := hSw.1 5 _ rfl; go_simp; first | done | with_reducible rfl)
  simp only [Act.put]
  refine wpZ_takeP (i := 2) (v := ?_) rfl (by kernel_rfl) (fun _ _ _ h => h) (Or.inl ⟨by rfl, ?_⟩) hS ?_
  rotate_left
  · (intro X _; go_simp; first | done | with_reducible rfl)
  simp only [Act.put]
  refine wpZ_take (i := 3) (v := ?_) rfl (by kernel_rfl) (fun _ _ _ h => h) (Or.inl ⟨by rfl, ?_⟩) hS ?_
  rotate_left
  · (intro X hSw; have c0 := hSw.1 0 _ rfl; have c1 := hSw.1 1 _ rfl; have c2 := hSw.1 2 _ rfl; have c3 := hSw.1 3 _ rfl; have c4 := hSw.1 4 _ rfl; have c5 := hSw.1 5 _ rfl; go_simp; first | done | with_reducible rfl)
  simp only [Act.put]
  refine wpZ_ready (rs := [4]) (by kernel_rfl) (by simp) ?_
  refine AllZ.cons rfl (fun K hK => ?_) AllZ.nil
  go_simp
  refine (membersOf_any Wd a2 c2 k.machines HG.out.1 (HR.out.1.m.later bd)).mono ?_
  rintro e X1 ⟨rfl, hma, hsz, b1⟩
  have bX := bstep bd b1
  refine hK.out _ _ (fun _ => SF.out _ bX) ?_
  clear hK K
  have hS := SF.out _ bX
  refine wpZ_ready (rs := [5]) (by kernel_rfl) (by simp) ?_
  refine AllZ.cons rfl (fun K hK => ?_) AllZ.nil
  go_simp
  refine (placed_any Wd X1 a1 c1 Wd.heap.size k.places k.machines HR.out.2.1.ms HG.out.2.1 HG.out.2.2 HR.out.2.1.p HR.out.2.1.ps b1 hsz hma (HR.out.1.p.later bX)).mono ?_
  rintro e X2 ⟨rfl, b2⟩
  have bY := bstep bX b2
  refine hK.out _ _ (fun _ => SF.out _ bY) ?_
  clear hK K
  have hS := SF.out _ bY
  cases g5 : placedB k.places k.machines with
  | false =>
    have hb : Hid (clusterB k = false) := by unfold Hid; rw [HC2.out, g5]; rfl
    refine wpZ_takeP (i := 6) (v := ?_) rfl (by kernel_rfl) (fun _ _ _ h => h) (Or.inl ⟨by rfl, ?_⟩) hS ?_
    rotate_left
    · (intro X _; go_simp; first | done | with_reducible rfl)
    simp only [Act.put]
    refine wpZ_takeP (i := 7) (v := undef) rfl (by kernel_rfl) (fun _ _ _ h => h) (Or.inr ⟨by rfl, rfl⟩) hS ?_
    simp only [Act.put]
    refine wpZ_takeP (i := 8) (v := undef) rfl (by kernel_rfl) (fun _ _ _ h => h) (Or.inr ⟨by rfl, rfl⟩) hS ?_
    simp only [Act.put]
    refine wpZ_takeP (i := 9) (v := ?_) rfl (by kernel_rfl) (fun _ _ _ h => h) (Or.inl ⟨by rfl, ?_⟩) hS ?_
    rotate_left
    · (intro X _; go_simp; first | done | with_reducible rfl)
    simp only [Act.put]
    refine wpZ_ready (rs := [10]) (by kernel_rfl) (by simp) ?_
    refine AllZ.cons rfl (fun K hK => ?_) AllZ.nil
    go_simp
    refine hK.out _ _ (fun h => absurd (show false = true from h.symm.trans (by kernel_rfl)) (by decide)) ?_
    clear hK K
    refine wpZ_done (by kernel_rfl) ?_ _
    go_wp2
    go_ret
    exact ⟨by rw [hb.out]; rfl, bstep HR.out.2.2 bY⟩
  | true =>
    have hb : Hid (clusterB k = (decide (k.txs.length ≤ 60) && txsB k)) := by unfold Hid; rw [HC2.out, g5]; rfl
    refine wpZ_takeP (i := 6) (v := ?_) rfl (by kernel_rfl) (fun _ _ _ h => h) (Or.inl ⟨by rfl, ?_⟩) hS ?_
    rotate_left
    · (intro X _; go_simp; first | done | with_reducible rfl)
    simp only [Act.put]
    refine wpZ_take (i := 7) (v := ?_) rfl (by kernel_rfl) (fun _ _ _ h => h) (Or.inl ⟨by rfl, ?_⟩) hS ?_
    rotate_left
    · (intro X hSw; have c0 := hSw.1 0 _ rfl; have c1 := hSw.1 1 _ rfl; have c2 := hSw.1 2 _ rfl; have c3 := hSw.1 3 _ rfl; have c4 := hSw.1 4 _ rfl; have c5 := hSw.1 5 _ rfl; go_simp; first | done | with_reducible rfl)
    simp only [Act.put]
    refine wpZ_ready (rs := [8]) (by kernel_rfl) (by simp) ?_
    refine AllZ.cons rfl (fun K hK => ?_) AllZ.nil
    go_simp
    refine (txsFit_any X2 a1 c1 a2 c2 a3 c3 k HR.out.2.1 (HR.out.1.later bY)).mono ?_
    rintro e X3 ⟨rfl, b3⟩
    have bZ := bstep bY b3
    refine hK.out _ _ (fun _ => SF.out _ bZ) ?_
    clear hK K
    have hS := SF.out _ bZ
    refine wpZ_takeP (i := 9) (v := ?_) rfl (by kernel_rfl) (fun _ _ _ h => h) (Or.inl ⟨by rfl, ?_⟩) hS ?_
    rotate_left
    · (intro X _; go_simp; first | done | with_reducible rfl)
    simp only [Act.put]
    refine wpZ_ready (rs := [10]) (by kernel_rfl) (by simp) ?_
    refine AllZ.cons rfl (fun K hK => ?_) AllZ.nil
    go_simp
    refine hK.out _ _ (fun h => absurd (show false = true from h.symm.trans (by kernel_rfl)) (by decide)) ?_
    clear hK K
    refine wpZ_done (by kernel_rfl) ?_ _
    go_wp2
    go_ret
    exact ⟨by rw [hb.out]; rfl, bstep HR.out.2.2 bZ⟩
end Go.Proofs.YteiofebmgilclaaGreat
namespace Go.Proofs.YteiofebmgilclaaGreat
open Go.RowKit
theorem nan_any (w : World) (x : Int) : Calls Tryz.prog 146 #[.int .i64 x] w fun e w' => e = .returned (.bool false) ∧ w' = w := by
  have h : (x != x) = false := by simp
  go_enter Tryz.func146, Tryz.ntmps146
  go_wp2
  go_ret
  exact ⟨rfl, rfl⟩
def cmpI (x y : Int) : Int := if x < y then -1 else if y < x then 1 else 0
theorem compare_any (w : World) (x y : Int) : Calls Tryz.prog 97 #[.int .i64 x, .int .i64 y] w fun e w' => e = .returned (.int .i64 (cmpI x y)) ∧ w' = w := by
  by_cases h1 : x < y
  · have e : cmpI x y = -1 := if_pos h1
    rw [e]
    go_enter Tryz.func97, Tryz.ntmps97
    go_wp2_with (go_at_call 146; refine (nan_any _ _).mono ?_; rintro e w' ⟨rfl, rfl⟩)
    go_ret
    exact ⟨rfl, rfl⟩
  · have d1 : decide (x < y) = false := by simp; omega
    by_cases h2 : y < x
    · have e : cmpI x y = 1 := by rw [cmpI, if_neg h1, if_pos h2]
      have d2 : decide (y < x) = true := by simp [h2]
      rw [e]
      clear h1
      go_enter Tryz.func97, Tryz.ntmps97
      go_wp2_with (go_at_call 146; refine (nan_any _ _).mono ?_; rintro e w' ⟨rfl, rfl⟩)
      go_ret
      exact ⟨rfl, rfl⟩
    · have e : cmpI x y = 0 := by rw [cmpI, if_neg h1, if_neg h2]
      have d2 : decide (y < x) = false := by simp; omega
      rw [e]
      clear h1 h2
      go_enter Tryz.func97, Tryz.ntmps97
      go_wp2_with (go_at_call 146; refine (nan_any _ _).mono ?_; rintro e w' ⟨rfl, rfl⟩)
      go_ret
      exact ⟨rfl, rfl⟩
end Go.Proofs.YteiofebmgilclaaGreat
namespace Go.Proofs.YteiofebmgilclaaGreat
open Go.RowKit
open Go.Sort (grow)
set_option maxHeartbeats 1000000 in
theorem byId_any (w : World) (t0 : Option Addr) (t1 : Nat) (t2 : Option Addr) (t3 : Nat) (t : tx.T7) (y : Int) : Calls Tryz.prog 96 #[.agg #[.int .i64 t.id, .int .i64 t.home, .int .i64 t.phase, .int .i64 t.count, .slice t0 t.reads.length t1, .slice t2 t.sets.length t3, .int .i64 t.stamp], .int .i64 y] w fun e w' => e = .returned (.int .i64 (cmpI t.id y)) ∧ Below w.heap.size w w' := by
  have b0 : Below w.heap.size w (w.alloc (.cells #[.int .i64 t.id, .int .i64 t.home, .int .i64 t.phase, .int .i64 t.count, .slice t0 t.reads.length t1, .slice t2 t.sets.length t3, .int .i64 t.stamp] 48)) := (Below.refl _ _).alloc (Nat.le_refl _) _
  go_enter Tryz.func96, Tryz.ntmps96
  go_wp2_with (go_at_call 97; refine (compare_any _ _ _).mono ?_; rintro e w' ⟨rfl, rfl⟩)
  go_ret
  exact ⟨rfl, b0⟩
def UpI (ts : List tx.T7) : Prop := ∀ i j, i < j → j < ts.length → (atT ts i).id < (atT ts j).id
theorem UpI.of_all {ts : List tx.T7} (h : (List.range ts.length).all (upT ts) = true) : UpI ts := by
  intro i j hij hj
  induction j with
  | zero => omega
  | succ j ih =>
    have h2 := List.all_eq_true.1 h (j + 1) (List.mem_range.2 hj)
    simp [upT] at h2
    by_cases e : i = j
    · rw [e]; exact h2
    · have := ih (by omega) (by omega); omega
structure PosT (ts : List tx.T7) (y : Int) (i : Nat) : Prop where
  le : i ≤ ts.length
  lo : ∀ t, t < i → (atT ts t).id < y
  hi : ∀ t, i ≤ t → t < ts.length → y ≤ (atT ts t).id
def foundT (ts : List tx.T7) (y : Int) (i : Nat) : Bool := decide (i < ts.length) && decide ((atT ts i).id = y)
set_option maxRecDepth 100000 in
set_option maxHeartbeats 4000000 in
theorem bsearchT_any (w : World) (a : Option Addr) (cap : Nat) (ts : List tx.T7) (y : Int) (hn : ts.length ≤ 1000) (hu : UpI ts) (hs : KTk.RdS w a ts) :
    Calls Tryz.prog 98 #[.slice a ts.length cap, .int .i64 y, .func (.func 96) #[] #[]] w fun e w' => ∃ i : Nat, e = .returned (.tuple #[.int .i64 i, .bool (foundT ts y i)]) ∧ PosT ts y i ∧ Below w.heap.size w w' := by
  have HU : Hid (UpI ts) := hu
  clear hu
  go_enter Tryz.func98, Tryz.ntmps98
  go_wp2
  go_loopw [9, 10] (fun v9 v10 wr => ∃ i j : Nat, i ≤ j ∧ j ≤ ts.length ∧ v9 = .int .i64 i ∧ v10 = .int .i64 j ∧ Below w.heap.size w wr ∧ (∀ t, t < i → (atT ts t).id < y) ∧ (∀ t, j ≤ t → t < ts.length → y ≤ (atT ts t).id)) (fun v9 v10 _ => (intOf v10).toNat - (intOf v9).toNat)
  case atStart => exact ⟨0, ts.length, Nat.zero_le _, Nat.le_refl _, rfl, rfl, Below.refl _ _, fun t h => by omega, fun t h1 h2 => by omega⟩
  case round =>
    obtain ⟨i, j, hij, hjn, rfl, rfl, hbl, hlo, hhi⟩ := hrel
    by_cases hlt : i < j
    · have hd : (i + j) / 2 < ts.length := by omega
      rcases hs with hs | ⟨b, off, rfl, hb, h1⟩
      · rw [hs] at hd; simp at hd
      obtain ⟨⟨t0, t1, t2, t3⟩, hat, hrd⟩ := h1 ((i + j) / 2) _ (atT_of hd)
      have e0 : wr.cell? ⟨b, off + ((i + j) / 2) * 7, none⟩ = some (.int .i64 (atT ts ((i + j) / 2)).id) := (hbl.cell (p := ⟨b, off + ((i + j) / 2) * 7, none⟩) hb).trans (hat 0 _ rfl)
      have e1 : wr.cell? ⟨b, off + ((i + j) / 2) * 7 + 1, none⟩ = some (.int .i64 (atT ts ((i + j) / 2)).home) := (hbl.cell (p := ⟨b, off + ((i + j) / 2) * 7 + 1, none⟩) hb).trans (hat 1 _ rfl)
      have e2 : wr.cell? ⟨b, off + ((i + j) / 2) * 7 + 2, none⟩ = some (.int .i64 (atT ts ((i + j) / 2)).phase) := (hbl.cell (p := ⟨b, off + ((i + j) / 2) * 7 + 2, none⟩) hb).trans (hat 2 _ rfl)
      have e3 : wr.cell? ⟨b, off + ((i + j) / 2) * 7 + 3, none⟩ = some (.int .i64 (atT ts ((i + j) / 2)).count) := (hbl.cell (p := ⟨b, off + ((i + j) / 2) * 7 + 3, none⟩) hb).trans (hat 3 _ rfl)
      have e4 : wr.cell? ⟨b, off + ((i + j) / 2) * 7 + 4, none⟩ = some (.slice t0 (atT ts ((i + j) / 2)).reads.length t1) := (hbl.cell (p := ⟨b, off + ((i + j) / 2) * 7 + 4, none⟩) hb).trans (hat 4 _ rfl)
      have e5 : wr.cell? ⟨b, off + ((i + j) / 2) * 7 + 5, none⟩ = some (.slice t2 (atT ts ((i + j) / 2)).sets.length t3) := (hbl.cell (p := ⟨b, off + ((i + j) / 2) * 7 + 5, none⟩) hb).trans (hat 5 _ rfl)
      have e6 : wr.cell? ⟨b, off + ((i + j) / 2) * 7 + 6, none⟩ = some (.int .i64 (atT ts ((i + j) / 2)).stamp) := (hbl.cell (p := ⟨b, off + ((i + j) / 2) * 7 + 6, none⟩) hb).trans (hat 6 _ rfl)
      have K : Hid (Below w.heap.size w wr ∧ (∀ t, t < i → (atT ts t).id < y) ∧ (∀ t, j ≤ t → t < ts.length → y ≤ (atT ts t).id)) := ⟨hbl, hlo, hhi⟩
      have hc := byId_any wr t0 t1 t2 t3 (atT ts ((i + j) / 2)) y
      clear h1 hat hrd hbl hlo hhi
      have HI : Hid (∀ t, t ≤ (i + j) / 2 → (atT ts t).id ≤ (atT ts ((i + j) / 2)).id) := fun t ht => by
        by_cases e : t = (i + j) / 2
        · rw [e]; exact Int.le_refl _
        · exact Int.le_of_lt (HU.out t _ (by omega) hd)
      have HJ : Hid (∀ t, (i + j) / 2 ≤ t → t < ts.length → (atT ts ((i + j) / 2)).id ≤ (atT ts t).id) := fun t ht htn => by
        by_cases e : t = (i + j) / 2
        · rw [e]; exact Int.le_refl _
        · exact Int.le_of_lt (HU.out _ t (by omega) htn)
      generalize (atT ts ((i + j) / 2)).id = x at *
      by_cases hq : x < y
      · rw [show cmpI x y = -1 from if_pos hq] at hc
        have HQ := hidOf hq
        clear hq
        go_wp2_with fail
        refine hc.mono ?_
        clear hc e0 e1 e2 e3 e4 e5 e6
        rintro e w1 ⟨rfl, b1⟩
        go_wp2
        exact ⟨⟨(i + j) / 2 + 1, j, by omega, hjn, by simp, rfl, K.out.1.trans (b1.mono K.out.1.size), fun t ht => by have := HI.out t (by omega); have := HQ.out; omega, K.out.2.2⟩, by simp [intOf]; omega⟩
      · have hc0 : decide (cmpI x y < 0) = false := by
          rw [cmpI, if_neg hq]
          by_cases h2 : y < x
          · rw [if_pos h2]; rfl
          · rw [if_neg h2]; rfl
        have HQ := hidOf hq
        clear hq
        generalize cmpI x y = cv at *
        go_wp2_with fail
        refine hc.mono ?_
        clear hc e0 e1 e2 e3 e4 e5 e6
        rintro e w1 ⟨rfl, b1⟩
        go_wp2
        exact ⟨⟨i, (i + j) / 2, by omega, by omega, rfl, by simp, K.out.1.trans (b1.mono K.out.1.size), K.out.2.1, fun t ht htn => by have := HJ.out t ht htn; have := HQ.out; omega⟩, by simp [intOf]; omega⟩
    · obtain rfl : i = j := by omega
      have hd : decide ((i : Int) < (i : Int)) = false := by simp
      have HP : Hid (PosT ts y i) := ⟨hjn, hlo, hhi⟩
      clear hlo hhi
      by_cases hin : i < ts.length
      · rcases hs with hs | ⟨b, off, rfl, hb, h1⟩
        · rw [hs] at hin; simp at hin
        obtain ⟨⟨t0, t1, t2, t3⟩, hat, hrd⟩ := h1 i _ (atT_of hin)
        have e0 : wr.cell? ⟨b, off + i * 7, none⟩ = some (.int .i64 (atT ts i).id) := (hbl.cell (p := ⟨b, off + i * 7, none⟩) hb).trans (hat 0 _ rfl)
        have e1 : wr.cell? ⟨b, off + i * 7 + 1, none⟩ = some (.int .i64 (atT ts i).home) := (hbl.cell (p := ⟨b, off + i * 7 + 1, none⟩) hb).trans (hat 1 _ rfl)
        have e2 : wr.cell? ⟨b, off + i * 7 + 2, none⟩ = some (.int .i64 (atT ts i).phase) := (hbl.cell (p := ⟨b, off + i * 7 + 2, none⟩) hb).trans (hat 2 _ rfl)
        have e3 : wr.cell? ⟨b, off + i * 7 + 3, none⟩ = some (.int .i64 (atT ts i).count) := (hbl.cell (p := ⟨b, off + i * 7 + 3, none⟩) hb).trans (hat 3 _ rfl)
        have e4 : wr.cell? ⟨b, off + i * 7 + 4, none⟩ = some (.slice t0 (atT ts i).reads.length t1) := (hbl.cell (p := ⟨b, off + i * 7 + 4, none⟩) hb).trans (hat 4 _ rfl)
        have e5 : wr.cell? ⟨b, off + i * 7 + 5, none⟩ = some (.slice t2 (atT ts i).sets.length t3) := (hbl.cell (p := ⟨b, off + i * 7 + 5, none⟩) hb).trans (hat 5 _ rfl)
        have e6 : wr.cell? ⟨b, off + i * 7 + 6, none⟩ = some (.int .i64 (atT ts i).stamp) := (hbl.cell (p := ⟨b, off + i * 7 + 6, none⟩) hb).trans (hat 6 _ rfl)
        have hc := byId_any wr t0 t1 t2 t3 (atT ts i) y
        have HF : Hid (foundT ts y i = decide ((atT ts i).id = y) ∧ Below w.heap.size w wr) := ⟨by simp [foundT, hin], hbl⟩
        clear h1 hat hrd hbl
        generalize (atT ts i).id = x at *
        have he : (cmpI x y == 0) = decide (x = y) := by
          unfold cmpI
          by_cases h1 : x < y
          · rw [if_pos h1]; simp; omega
          · rw [if_neg h1]
            by_cases h2 : y < x
            · rw [if_pos h2]; simp; omega
            · rw [if_neg h2]; simp; omega
        generalize cmpI x y = cv at *
        go_wp2_with fail
        refine hc.mono ?_
        clear hc e0 e1 e2 e3 e4 e5 e6
        rintro e w1 ⟨rfl, b1⟩
        have HE := hidOf he
        clear he
        go_wp2
        refine bodyPost_ret (v := .tuple #[.int .i64 i, .bool (cv == 0)]) (by simp [results, Tryz.results98, go_sem]) rfl ⟨i, by rw [HF.out.1, ← HE.out], HP.out, HF.out.2.trans (b1.mono HF.out.2.size)⟩
      · have hdn : decide ((i : Int) < (ts.length : Int)) = false := by simp; omega
        have HF : Hid (foundT ts y i = false) := by unfold Hid; simp [foundT, hin]
        clear hs
        go_wp2
        refine bodyPost_ret (v := .tuple #[.int .i64 i, .bool false]) (by simp [results, Tryz.results98, go_sem]) rfl ⟨i, by rw [HF.out], HP.out, hbl⟩
def findO (k : C6) (y : Int) : Option tx.T7 := if clusterB k then k.txs.find? (fun t => decide (t.id = y)) else none
def zT : tx.T7 := ⟨0, 0, 0, 0, [], [], 0⟩
def findT (k : C6) (y : Int) : tx.T7 := (findO k y).getD zT
def findB (k : C6) (y : Int) : Bool := (findO k y).isSome
theorem atT_eq {ts : List tx.T7} {i : Nat} (h : i < ts.length) : atT ts i = ts[i] := by simp [atT, List.getElem?_eq_getElem h]
theorem find_none' {ts : List tx.T7} {y : Int} (h : ∀ j, j < ts.length → (atT ts j).id ≠ y) : ts.find? (fun t => decide (t.id = y)) = none := by
  rw [List.find?_eq_none]
  intro t ht
  obtain ⟨i, hi, rfl⟩ := List.getElem_of_mem ht
  have := h i hi
  rw [atT_eq hi] at this
  simpa using this
theorem find_some' {ts : List tx.T7} {y : Int} {i : Nat} (hi : i < ts.length) (he : (atT ts i).id = y) (h : ∀ j, j < i → (atT ts j).id ≠ y) : ts.find? (fun t => decide (t.id = y)) = some (atT ts i) := by
  rw [List.find?_eq_some_iff_getElem]
  refine ⟨by simpa using he, i, hi, (atT_eq hi).symm, fun j hj => ?_⟩
  have := h j hj
  rw [atT_eq (by omega)] at this
  simpa using this
theorem find_pos {ts : List tx.T7} {y : Int} {i : Nat} (hp : PosT ts y i) (hf : foundT ts y i = true) : i < ts.length ∧ ts.find? (fun t => decide (t.id = y)) = some (atT ts i) := by
  simp only [foundT, Bool.and_eq_true, decide_eq_true_eq] at hf
  exact ⟨hf.1, find_some' hf.1 hf.2 (fun j hj => by have := hp.lo j hj; omega)⟩
theorem find_neg {ts : List tx.T7} {y : Int} {i : Nat} (hu : UpI ts) (hp : PosT ts y i) (hf : foundT ts y i = false) : ts.find? (fun t => decide (t.id = y)) = none := by
  refine find_none' (fun j hj e => ?_)
  by_cases h1 : j < i
  · have := hp.lo j h1; omega
  · have hi : i < ts.length := by omega
    have h2 := hp.hi i (Nat.le_refl _) hi
    have h3 : (atT ts i).id ≠ y := fun e' => by simp [foundT, hi, e'] at hf
    by_cases h4 : j = i
    · subst h4; exact h3 e
    · have := hu i j (by omega) hj; omega
theorem clu_up {k : C6} (h : clusterB k = true) : UpI k.txs ∧ (∀ i, i < k.txs.length → tx.txB (atT k.txs i) = true) ∧ k.txs.length ≤ 60 := by
  simp only [clusterB, Bool.and_eq_true, decide_eq_true_eq] at h
  have h2 := h.2
  rw [txsB_eq, Bool.and_eq_true] at h2
  refine ⟨UpI.of_all h2.1, fun i hi => ?_, h.1.1.1.2⟩
  have := List.all_eq_true.1 h2.2 i (List.mem_range.2 hi)
  simp only [fitB, Bool.and_eq_true] at this
  exact this.1.1.1.1
theorem tx_short {t : tx.T7} (h : tx.txB t = true) : t.reads.length ≤ 1048576 ∧ t.sets.length ≤ 1048576 := by
  simp only [tx.txB, Bool.and_eq_true, decide_eq_true_eq] at h
  exact ⟨by omega, by omega⟩
set_option maxRecDepth 100000 in
set_option maxHeartbeats 2000000 in
theorem l8Find_any (w : World) (a1 : Option Addr) (c1 : Nat) (a2 : Option Addr) (c2 : Nat) (a3 : Option Addr) (c3 : Nat) (k : C6) (y : Int) (hl : KCl.L k) (h : KCl.Rd w a1 c1 a2 c2 a3 c3 k) : Calls Tryz.prog 15 #[.agg #[.int .i64 k.config, .int .i64 k.clock, .slice a1 k.places.length c1, .slice a2 k.machines.length c2, .slice a3 k.txs.length c3, .bool k.lost], .int .i64 y] w fun e w' => (∃ i : Int, e = .returned (.int .i64 i) ∧ FirstAt (fun j => decide ((atT k.txs j).id = y)) k.txs.length i) ∧ Below w.heap.size w w' := by
  have hn := hl.t
  unfold maxLen at hn
  obtain ⟨U, hU⟩ : ∃ Y, Y = w.alloc (.cells #[.int .i64 k.config, .int .i64 k.clock, .slice a1 k.places.length c1, .slice a2 k.machines.length c2, .slice a3 k.txs.length c3, .bool k.lost] 33) := ⟨_, rfl⟩
  have b0 : Below w.heap.size w U := by rw [hU]; exact (Below.refl _ _).alloc (Nat.le_refl _) _
  have p4 : U.cell? ⟨w.heap.size, 4, none⟩ = some (.slice a3 k.txs.length c3) := by rw [hU]; go_simp
  have H : Hid (KCl.Rd U a1 c1 a2 c2 a3 c3 k ∧ Below w.heap.size w U) := ⟨h.later b0, b0⟩
  clear h b0 hl
  go_enter Tryz.func15, Tryz.ntmps15
  go_wp2
  rw [← hU]
  clear hU
  go_loop [5] (fun v => ∃ j : Nat, j ≤ k.txs.length ∧ v = .int .i64 j ∧ ∀ t, t < j → (atT k.txs t).id ≠ y) (fun v => k.txs.length - (intOf v).toNat)
  case atStart => exact ⟨0, Nat.zero_le _, rfl, fun t h => absurd h (by omega)⟩
  case round =>
    obtain ⟨j, hj, rfl, hlo⟩ := hrel
    have HL := hidOf hlo
    clear hlo
    by_cases hlt : j < k.txs.length
    · rcases H.out.1.t with hk | ⟨b, off, rfl, hb, h1⟩
      · rw [hk] at hlt; simp at hlt
      obtain ⟨v, hat, _⟩ := h1 j _ (atT_of hlt)
      have k0 : U.cell? ⟨b, off + j * 7, none⟩ = some (.int .i64 (atT k.txs j).id) := hat 0 _ rfl
      have jn : (j : Int) < (k.txs.length : Int) := by omega
      clear h1 hat
      by_cases he : (atT k.txs j).id = y
      · have q : ((atT k.txs j).id == y) = true := by simp [he]
        have HE := hidOf he
        clear he
        go_wp2
        go_ret
        exact ⟨⟨_, rfl, .inr ⟨j, rfl, hlt, by simp [HE.out], fun t ht => by simp [HL.out t ht]⟩⟩, H.out.2⟩
      · have q : ((atT k.txs j).id == y) = false := by simp [he]
        have HE := hidOf he
        clear he
        go_wp2
        exact ⟨⟨j + 1, by omega, by simp, fun t ht => by
          by_cases e : t = j
          · rw [e]; exact HE.out
          · exact HL.out t (by omega)⟩, by simp [intOf]; omega⟩
    · obtain rfl : j = k.txs.length := by omega
      have hd : decide ((k.txs.length : Int) < (k.txs.length : Int)) = false := by simp
      go_wp2
      go_ret
      exact ⟨⟨_, rfl, .inl ⟨rfl, fun t ht => by simp [HL.out t ht]⟩⟩, H.out.2⟩
set_option maxHeartbeats 1000000 in
theorem findTx_any (w : World) (a : Option Addr) (cap : Nat) (ts : List tx.T7) (y : Int) (hn : ts.length ≤ 1000) (hu : UpI ts) (hs : KTk.RdS w a ts) :
    Calls Tryz.prog 53 #[.slice a ts.length cap, .int .i64 y] w fun e w' => ∃ i : Nat, e = .returned (.tuple #[.int .i64 i, .bool (foundT ts y i)]) ∧ PosT ts y i ∧ Below w.heap.size w w' := by
  have hc := bsearchT_any w a cap ts y hn hu hs
  go_enter Tryz.func53, Tryz.ntmps53
  go_wp2_with fail
  refine hc.mono ?_
  clear hc
  rintro e w1 ⟨i, rfl, hp, b1⟩
  have K := hidOf (And.intro hp b1)
  clear hp b1
  go_wp2
  refine bodyPost_ret (v := .tuple #[.int .i64 i, .bool (foundT ts y i)]) (by simp [results, Tryz.results53, go_sem]) rfl ?_
  exact ⟨i, rfl, K.out.1, K.out.2⟩
end Go.Proofs.YteiofebmgilclaaGreat
namespace Go.Proofs.YteiofebmgilclaaGreat
open Go.RowKit
def atId (ts : List tx.T7) (y : Int) : Nat := ts.findIdx fun t => decide (t.id = y)
theorem atId_some {ts : List tx.T7} {y : Int} {i : Nat} (hi : i < ts.length) (he : (atT ts i).id = y) (h : ∀ j, j < i → (atT ts j).id ≠ y) : atId ts y = i := by
  unfold atId
  rw [List.findIdx_eq hi]
  refine ⟨by rw [atT_eq hi] at he; simpa using he, fun j hj => ?_⟩
  have := h j hj
  rw [atT_eq (by omega)] at this
  simpa using this
theorem atId_none {ts : List tx.T7} {y : Int} (h : ∀ j, j < ts.length → (atT ts j).id ≠ y) : atId ts y = ts.length := by
  unfold atId
  refine List.findIdx_eq_length_of_false (fun t ht => ?_)
  obtain ⟨i, hi, rfl⟩ := List.getElem_of_mem ht
  have := h i hi
  rw [atT_eq hi] at this
  simpa using this
theorem atId_first {ts : List tx.T7} {y i : Int} (h : FirstAt (fun j => decide ((atT ts j).id = y)) ts.length i) : (i = -1 ∧ atId ts y = ts.length) ∨ ∃ j : Nat, i = (j : Int) ∧ j < ts.length ∧ atId ts y = j := by
  rcases h with ⟨rfl, h⟩ | ⟨j, rfl, hj, h1, h2⟩
  · exact .inl ⟨rfl, atId_none (fun j hj => by simpa using h j hj)⟩
  · exact .inr ⟨j, rfl, hj, atId_some hj (by simpa using h1) (fun t ht => by simpa using h2 t ht)⟩
end Go.Proofs.YteiofebmgilclaaGreat
namespace Go.Proofs.YteiofebmgilclaaGreat.tx
open Go.RowKit
def S5.cells (s : S5) : List Value := [.int .i64 s.region, .int .i64 s.slot, .int .i64 s.value, .bool s.used, .int .i64 s.version]
def N5.cells (s : N5) : List Value := [.int .i64 s.region, .int .i64 s.slot, .int .i64 s.version, .int .i64 s.value, .bool s.used]
theorem partsOf {P : Program} {t : TypeId} {z : Value} {s b : Nat} (h : (P.info? t).map (fun i => (i.zero, i.size, i.bytes)) = some (some z, s, b)) : ∃ i, P.info? t = some i ∧ i.zero = some z ∧ i.size = s ∧ i.bytes = b := by
  obtain ⟨i, hi, hzz⟩ := Option.map_eq_some_iff.1 h
  simp only [Prod.mk.injEq] at hzz
  exact ⟨i, hi, hzz.1, hzz.2.1, hzz.2.2⟩
theorem flat_at {β : Type} {f : β → List Value} {sz : Nat} : ∀ {l : List β} (_ : ∀ x ∈ l, (f x).length = sz) {i t : Nat} {x : β}, l[i]? = some x → t < sz → (l.flatMap f)[i * sz + t]? = (f x)[t]?
  | [], _, i, t, x, h, _ => by simp at h
  | y :: l, hf, 0, t, x, h, ht => by
    simp at h
    subst h
    rw [List.flatMap_cons, List.getElem?_append_left (by rw [hf y (by simp)]; omega)]
    simp
  | y :: l, hf, i + 1, t, x, h, ht => by
    have hl := hf y (by simp)
    rw [List.flatMap_cons, List.getElem?_append_right (by rw [hl, Nat.add_mul]; omega), hl, show (i + 1) * sz + t - sz = i * sz + t by rw [Nat.add_mul]; omega]
    exact flat_at (fun x hx => hf x (by simp [hx])) (by simpa using h) ht
theorem appendX {α : Type} {cells : α → List Value} {T ST : TypeId} {sz by_ : Nat} (hl : ∀ s, (cells s).length = sz) (h1 : ∀ s, ∀ u ∈ cells s, u.oneCell' = true) (hsz : 0 < sz) {P : Program} {i0 : TypeInfo} {z : Value} (ht : P.underlying ST = some (.slice T)) (hi : P.info? T = some i0) (hz : i0.zero = some z) (hs : i0.size = sz) (hby : i0.bytes = by_) (hzs : z.cells.size = sz) (hbb : by_ ≤ 1000)
    {W : World} {base : Nat} {v : Value} (h : W.ownsRow base T sz v 0 []) (xs : List α) (hx : 0 < xs.length) (hm : xs.length ≤ 1048576) (ty : TypeId) (b off k : Nat) (src : ∀ i s, xs[i]? = some s → ∀ t u, (cells s)[t]? = some u → W.cell? ⟨b, off + i * sz + t, none⟩ = some u) (hbase : base ≤ W.heap.size) :
    ∃ q cap W', (Builtin.append_ #[ST, ST] ty #[v, .slice (some ⟨b, off, none⟩) xs.length k]).run P W = .ok (.slice (some ⟨q, 0, none⟩) xs.length cap) W' ∧ base ≤ q ∧ q < W'.heap.size ∧ xs.length ≤ cap ∧ (∀ i s, xs[i]? = some s → ∀ t u, (cells s)[t]? = some u → W'.cell? ⟨q, i * sz + t, none⟩ = some u) ∧ Room W' q (xs.length * sz) ∧ W.grownBy W' v.ownBlock ∧ (v.ownBlock = some q ∨ q = W.heap.size) ∧ W'.ownsRow base T sz (.slice (some ⟨q, 0, none⟩) xs.length cap) xs.length (xs.flatMap cells) := by
  have hadd : ∀ (b o j : Nat), (⟨b, o, none⟩ : Addr).add j = ⟨b, o + j, none⟩ := fun b o j => by unfold Addr.add; split <;> simp_all
  have hfl : ∀ l : List α, (l.flatMap cells).length = l.length * sz := fun l => by
    induction l with
    | nil => simp
    | cons y l ih => rw [List.flatMap_cons, List.length_append, ih, hl, List.length_cons, Nat.add_mul]; omega
  obtain ⟨v', W', hrun, hown, hg, hnil, hlies⟩ := run_append_own_at (P := P) W base ST ty T i0 z sz by_ ht hi hz hs hby hzs hsz
    v 0 [] h ⟨b, off, none⟩ xs.length k (xs.flatMap cells) (hfl xs) (fun j u hu => by
      have hj : j < xs.length * sz := by rw [← hfl]; exact (List.getElem?_eq_some_iff.1 hu).1
      have hi : j / sz < xs.length := Nat.div_lt_of_lt_mul (by rw [Nat.mul_comm]; exact hj)
      have hxs := List.getElem?_eq_getElem hi
      have hjt : j / sz * sz + j % sz = j := Nat.div_add_mod' j sz
      have := flat_at (f := cells) (l := xs) (fun x _ => hl x) hxs (Nat.mod_lt j hsz)
      rw [hjt] at this
      rw [hadd, ← hjt, ← Nat.add_assoc]
      exact src _ _ hxs _ u (by rw [← this]; exact hu))
    (fun u hu => by obtain ⟨s, _, hs⟩ := List.mem_flatMap.1 hu; exact h1 s u hs) (by unfold maxLen; omega) (by
      have : (0 + xs.length) * by_ ≤ 1048576 * 1000 := Nat.mul_le_mul (by omega) hbb
      omega) hbase
  rw [Nat.zero_add, List.nil_append] at hown
  have hcap : ∃ q cap, v' = .slice (some ⟨q, 0, none⟩) xs.length cap ∧ xs.length ≤ cap := by
    rcases hown.2 with ⟨_, h0⟩ | ⟨q, cap, cur, rfl, _, _, hl, _⟩
    · omega
    · exact ⟨q, cap, rfl, hl⟩
  obtain ⟨q, cap, rfl, hc⟩ := hcap
  have hb := World.ownsRow.lt hown q rfl
  refine ⟨q, cap, W', hrun, hb.1, hb.2, hc, fun i s e t u hu => ?_, fun j hj => ?_, hg, ?_, hown⟩
  · have hi := (List.getElem?_eq_some_iff.1 e).1
    have ht := (List.getElem?_eq_some_iff.1 hu).1
    rw [hl] at ht
    have : (i + 1) * sz ≤ xs.length * sz := Nat.mul_le_mul_right sz hi
    rw [Nat.add_mul] at this
    rw [World.ownsRow.cellAt hown _ (by omega), flat_at (fun x _ => hl x) e ht]; exact hu
  · exact ⟨_, by rw [World.ownsRow.cellAt hown j hj]; exact List.getElem?_eq_getElem (by rw [hfl]; exact hj), World.ownsRow.frozenAt hown j⟩
  · rcases hlies with e | e
    · exact .inl e.symm
    · exact .inr (Option.some.inj e)
theorem flat5 : ∀ (xs : List S5) (i : Nat) (s : S5) (j : Nat), xs[i]? = some s → j < 5 → (xs.flatMap S5.cells)[i * 5 + j]? = (S5.cells s)[j]?
  | [], i, s, j, h, _ => by simp at h
  | x :: xs, 0, s, j, h, hj => by
    simp at h
    subst h
    rw [List.flatMap_cons, List.getElem?_append_left (by simp [S5.cells]; omega)]
    simp
  | x :: xs, i + 1, s, j, h, hj => by
    have hl : (S5.cells x).length = 5 := rfl
    rw [List.flatMap_cons, List.getElem?_append_right (by rw [hl]; omega), hl, show (i + 1) * 5 + j - 5 = i * 5 + j by omega]
    exact flat5 xs i s j (by simpa using h) hj
theorem own_sets {w : World} {B : Nat} {t : TypeId} {g n cap : Nat} {xs : List S5} (h : w.ownsRow B t 5 (.slice (some ⟨g, 0, none⟩) n cap) n (xs.flatMap S5.cells)) : SetsAt w g 0 xs := by
  have key : ∀ (j : Nat) (u : Value), (xs.flatMap S5.cells)[j]? = some u → w.cell? ⟨g, j, none⟩ = some u := by
    intro j u e
    rcases h.2 with ⟨h0, _⟩ | ⟨g', cap', cur, hv, _, hg, _, _, _, ht⟩
    · cases h0
    · cases hv
      rw [cell_of_row w g j cur t (0, 0) hg]
      rw [← ht, List.getElem?_take] at e
      split at e
      · simpa using e
      · cases e
  intro i s e
  have f := fun j hj => flat5 xs i s j e hj
  rw [Nat.zero_add]
  exact ⟨key _ _ (by simpa [S5.cells] using f 0 (by omega)), key _ _ (by simpa [S5.cells] using f 1 (by omega)), key _ _ (by simpa [S5.cells] using f 2 (by omega)), key _ _ (by simpa [S5.cells] using f 3 (by omega)), key _ _ (by simpa [S5.cells] using f 4 (by omega))⟩
theorem own_room {w : World} {B : Nat} {t : TypeId} {g n cap : Nat} {vs : List Value} (h : w.ownsRow B t 5 (.slice (some ⟨g, 0, none⟩) n cap) n vs) : Room w g (n * 5) := by
  intro j hj
  rcases h.2 with ⟨h0, _⟩ | ⟨g', cap', cur, hv, _, hg, hn, _, hc, ht⟩
  · cases h0
  · cases hv
    have hlt : j < cur.size := by
      have : n * 5 ≤ cap * 5 := Nat.mul_le_mul_right 5 hn
      omega
    refine ⟨cur[j], ?_, ?_⟩
    · rw [cell_of_row w g j cur t (0, 0) hg, Array.getElem?_eq_getElem hlt]
    · simp [World.frozen?, hg]
theorem infoSet : (Tryz.prog.info? 92).map (fun i => (i.zero, i.size, i.bytes)) = some (some (.agg #[.int .i64 0, .int .i64 0, .int .i64 0, .bool false, .int .i64 0]), 5, 40) := by kernel_rfl
theorem appendS (W : World) (base : Nat) (v : Value) (h : W.ownsRow base 92 5 v 0 []) (xs : List S5) (hx : 0 < xs.length) (hm : xs.length ≤ 1048576) (ty : TypeId) (b off k : Nat) (src : SetsAt W b off xs) (hbase : base ≤ W.heap.size) :
    ∃ q cap W', (Builtin.append_ #[44, 44] ty #[v, .slice (some ⟨b, off, none⟩) xs.length k]).run Tryz.prog W = .ok (.slice (some ⟨q, 0, none⟩) xs.length cap) W' ∧ base ≤ q ∧ q < W'.heap.size ∧ xs.length ≤ cap ∧ SetsAt W' q 0 xs ∧ Room W' q (xs.length * 5) ∧ W.grownBy W' v.ownBlock ∧ (v.ownBlock = some q ∨ q = W.heap.size) := by
  obtain ⟨i0, hi0, hz0, hz1, hz2⟩ := partsOf infoSet
  obtain ⟨q, cap, W', h1, h2, h3, h4, h5, h6, h7, h8, _⟩ := appendX (cells := S5.cells) (fun _ => rfl) (fun s u hu => by
    simp only [S5.cells, List.mem_cons, List.not_mem_nil, or_false] at hu
    rcases hu with rfl | rfl | rfl | rfl | rfl <;> rfl) (by omega) Tryz.underlying44 hi0 hz0 hz1 hz2 rfl (by omega) h xs hx hm ty b off k (fun i s e t u hu => by
      obtain ⟨c0, c1, c2, c3, c4⟩ := src i s e
      rcases t with _ | _ | _ | _ | _ | t
      · simp [S5.cells] at hu; subst hu; exact c0
      · simp [S5.cells] at hu; subst hu; exact c1
      · simp [S5.cells] at hu; subst hu; exact c2
      · simp [S5.cells] at hu; subst hu; exact c3
      · simp [S5.cells] at hu; subst hu; exact c4
      · simp [S5.cells] at hu) hbase
  refine ⟨q, cap, W', h1, h2, h3, h4, fun i s e => ⟨?_, ?_, ?_, ?_, ?_⟩, h6, h7, h8⟩
  · rw [Nat.zero_add]; exact h5 i s e 0 _ rfl
  · rw [Nat.zero_add]; exact h5 i s e 1 _ rfl
  · rw [Nat.zero_add]; exact h5 i s e 2 _ rfl
  · rw [Nat.zero_add]; exact h5 i s e 3 _ rfl
  · rw [Nat.zero_add]; exact h5 i s e 4 _ rfl
theorem flatNo : ∀ (xs : List N5) (i : Nat) (s : N5) (j : Nat), xs[i]? = some s → j < 5 → (xs.flatMap N5.cells)[i * 5 + j]? = s.cells[j]?
  | [], i, s, j, h, _ => by simp at h
  | x :: xs, 0, s, j, h, hj => by
    simp at h
    subst h
    rw [List.flatMap_cons, List.getElem?_append_left (by simp [N5.cells]; omega)]
    simp
  | x :: xs, i + 1, s, j, h, hj => by
    have hl : x.cells.length = 5 := rfl
    rw [List.flatMap_cons, List.getElem?_append_right (by rw [hl]; omega), hl, show (i + 1) * 5 + j - 5 = i * 5 + j by omega]
    exact flatNo xs i s j (by simpa using h) hj
theorem own_notes {w : World} {B : Nat} {t : TypeId} {g n cap : Nat} {xs : List N5} (h : w.ownsRow B t 5 (.slice (some ⟨g, 0, none⟩) n cap) n (xs.flatMap N5.cells)) : NotesAt w g 0 xs := by
  have key : ∀ (j : Nat) (u : Value), (xs.flatMap N5.cells)[j]? = some u → w.cell? ⟨g, j, none⟩ = some u := by
    intro j u e
    rcases h.2 with ⟨h0, _⟩ | ⟨g', cap', cur, hv, _, hg, _, _, _, ht⟩
    · cases h0
    · cases hv
      rw [cell_of_row w g j cur t (0, 0) hg]
      rw [← ht, List.getElem?_take] at e
      split at e
      · simpa using e
      · cases e
  intro i s e
  have f := fun j hj => flatNo xs i s j e hj
  rw [Nat.zero_add]
  exact ⟨key _ _ (by simpa [N5.cells] using f 0 (by omega)), key _ _ (by simpa [N5.cells] using f 1 (by omega)), key _ _ (by simpa [N5.cells] using f 2 (by omega)), key _ _ (by simpa [N5.cells] using f 3 (by omega)), key _ _ (by simpa [N5.cells] using f 4 (by omega))⟩
theorem own_roomNo {w : World} {B : Nat} {t : TypeId} {g n cap : Nat} {vs : List Value} (h : w.ownsRow B t 5 (.slice (some ⟨g, 0, none⟩) n cap) n vs) : Room w g (n * 5) := by
  intro j hj
  rcases h.2 with ⟨h0, _⟩ | ⟨g', cap', cur, hv, _, hg, hn, _, hc, ht⟩
  · cases h0
  · cases hv
    have hlt : j < cur.size := by
      have : n * 5 ≤ cap * 5 := Nat.mul_le_mul_right 5 hn
      omega
    refine ⟨cur[j], ?_, ?_⟩
    · rw [cell_of_row w g j cur t (0, 0) hg, Array.getElem?_eq_getElem hlt]
    · simp [World.frozen?, hg]
theorem infoNote : (Tryz.prog.info? 90).map (fun i => (i.zero, i.size, i.bytes)) = some (some (.agg #[.int .i64 0, .int .i64 0, .int .i64 0, .int .i64 0, .bool false]), 5, 40) := by kernel_rfl
theorem flat_len {α : Type} {cells : α → List Value} {sz : Nat} (hl : ∀ s, (cells s).length = sz) (l : List α) : (l.flatMap cells).length = l.length * sz := by
  induction l with
  | nil => simp
  | cons y l ih => rw [List.flatMap_cons, List.length_append, ih, hl, List.length_cons, Nat.add_mul]; omega
theorem pushX {α : Type} {cells : α → List Value} {T ST : TypeId} {sz by_ : Nat} (hl : ∀ s, (cells s).length = sz) (h1 : ∀ s, ∀ u ∈ cells s, u.oneCell' = true) (hsz : 0 < sz) {P : Program} {i0 : TypeInfo} {z : Value} (ht : P.underlying ST = some (.slice T)) (hi : P.info? T = some i0) (hz : i0.zero = some z) (hs : i0.size = sz) (hby : i0.bytes = by_) (hzs : z.cells.size = sz) (hbb : by_ ≤ 1000)
    {W : World} {base : Nat} {v : Value} {xs : List α} (h : W.ownsRow base T sz v xs.length (xs.flatMap cells)) (ys : List α) (hm : xs.length + ys.length ≤ 1048576) (ty : TypeId) (b off k : Nat) (src : ∀ i s, ys[i]? = some s → ∀ t u, (cells s)[t]? = some u → W.cell? ⟨b, off + i * sz + t, none⟩ = some u) (hbase : base ≤ W.heap.size) :
    ∃ v' W', (Builtin.append_ #[ST, ST] ty #[v, .slice (some ⟨b, off, none⟩) ys.length k]).run P W = .ok v' W' ∧ W'.ownsRow base T sz v' (xs ++ ys).length ((xs ++ ys).flatMap cells) ∧ W.grownBy W' v.ownBlock ∧ (v'.ownBlock = v.ownBlock ∨ v'.ownBlock = some W.heap.size) := by
  have hadd : ∀ (b o j : Nat), (⟨b, o, none⟩ : Addr).add j = ⟨b, o + j, none⟩ := fun b o j => by unfold Addr.add; split <;> simp_all
  obtain ⟨v', W', hrun, hown, hg, hnil, hlies⟩ := run_append_own_at (P := P) W base ST ty T i0 z sz by_ ht hi hz hs hby hzs hsz
    v xs.length _ h ⟨b, off, none⟩ ys.length k (ys.flatMap cells) (flat_len hl ys) (fun j u hu => by
      have hj : j < ys.length * sz := by rw [← flat_len hl]; exact (List.getElem?_eq_some_iff.1 hu).1
      have hi : j / sz < ys.length := Nat.div_lt_of_lt_mul (by rw [Nat.mul_comm]; exact hj)
      have hxs := List.getElem?_eq_getElem hi
      have hjt : j / sz * sz + j % sz = j := Nat.div_add_mod' j sz
      have := flat_at (f := cells) (l := ys) (fun x _ => hl x) hxs (Nat.mod_lt j hsz)
      rw [hjt] at this
      rw [hadd, ← hjt, ← Nat.add_assoc]
      exact src _ _ hxs _ u (by rw [← this]; exact hu))
    (fun u hu => by obtain ⟨s, _, hs⟩ := List.mem_flatMap.1 hu; exact h1 s u hs) (by unfold maxLen; omega) (by
      have : (xs.length + ys.length) * by_ ≤ 1048576 * 1000 := Nat.mul_le_mul hm hbb
      omega) hbase
  rw [← List.flatMap_append, ← List.length_append] at hown
  exact ⟨v', W', hrun, hown, hg, hlies⟩
theorem setOne : ∀ s : S5, ∀ u ∈ S5.cells s, u.oneCell' = true := fun s u hu => by
  simp only [S5.cells, List.mem_cons, List.not_mem_nil, or_false] at hu
  rcases hu with rfl | rfl | rfl | rfl | rfl <;> rfl
theorem noteOne : ∀ s : N5, ∀ u ∈ s.cells, u.oneCell' = true := fun s u hu => by
  simp only [N5.cells, List.mem_cons, List.not_mem_nil, or_false] at hu
  rcases hu with rfl | rfl | rfl | rfl | rfl <;> rfl
theorem SetAt.cellsAt {w : World} {b o : Nat} {s : S5} (h : SetAt w b o s) : ∀ t u, (S5.cells s)[t]? = some u → w.cell? ⟨b, o + t, none⟩ = some u := fun t u hu => by
  rcases t with _ | _ | _ | _ | _ | t
  · simp [S5.cells] at hu; subst hu; exact h.c0
  · simp [S5.cells] at hu; subst hu; exact h.c1
  · simp [S5.cells] at hu; subst hu; exact h.c2
  · simp [S5.cells] at hu; subst hu; exact h.c3
  · simp [S5.cells] at hu; subst hu; exact h.c4
  · simp [S5.cells] at hu
theorem NoteAt.cellsAt {w : World} {b o : Nat} {s : N5} (h : NoteAt w b o s) : ∀ t u, s.cells[t]? = some u → w.cell? ⟨b, o + t, none⟩ = some u := fun t u hu => by
  rcases t with _ | _ | _ | _ | _ | t
  · simp [N5.cells] at hu; subst hu; exact h.c0
  · simp [N5.cells] at hu; subst hu; exact h.c1
  · simp [N5.cells] at hu; subst hu; exact h.c2
  · simp [N5.cells] at hu; subst hu; exact h.c3
  · simp [N5.cells] at hu; subst hu; exact h.c4
  · simp [N5.cells] at hu
def RowS (W : World) (base : Nat) (v : Value) (xs : List S5) : Prop := W.ownsRow base 92 5 v xs.length (xs.flatMap S5.cells)
def RowN (W : World) (base : Nat) (v : Value) (xs : List N5) : Prop := W.ownsRow base 90 5 v xs.length (xs.flatMap N5.cells)
theorem pushSe {W : World} {base : Nat} {v : Value} {xs : List S5} (h : RowS W base v xs) (ys : List S5) (hm : xs.length + ys.length ≤ 1048576) (ty : TypeId) (b off k : Nat) (src : SetsAt W b off ys) (hbase : base ≤ W.heap.size) :
    ∃ v' W', (Builtin.append_ #[44, 44] ty #[v, .slice (some ⟨b, off, none⟩) ys.length k]).run Tryz.prog W = .ok v' W' ∧ RowS W' base v' (xs ++ ys) ∧ W.grownBy W' v.ownBlock ∧ (v'.ownBlock = v.ownBlock ∨ v'.ownBlock = some W.heap.size) := by
  obtain ⟨i0, hi0, hz0, hz1, hz2⟩ := partsOf infoSet
  exact pushX (cells := S5.cells) (fun _ => rfl) setOne (by omega) Tryz.underlying44 hi0 hz0 hz1 hz2 rfl (by omega) h ys hm ty b off k (fun i s e t u hu => (src i s e).cellsAt t u hu) hbase
theorem pushNo {W : World} {base : Nat} {v : Value} {xs : List N5} (h : RowN W base v xs) (ys : List N5) (hm : xs.length + ys.length ≤ 1048576) (ty : TypeId) (b off k : Nat) (src : NotesAt W b off ys) (hbase : base ≤ W.heap.size) :
    ∃ v' W', (Builtin.append_ #[46, 46] ty #[v, .slice (some ⟨b, off, none⟩) ys.length k]).run Tryz.prog W = .ok v' W' ∧ RowN W' base v' (xs ++ ys) ∧ W.grownBy W' v.ownBlock ∧ (v'.ownBlock = v.ownBlock ∨ v'.ownBlock = some W.heap.size) := by
  obtain ⟨i0, hi0, hz0, hz1, hz2⟩ := partsOf infoNote
  exact pushX (cells := N5.cells) (fun _ => rfl) noteOne (by omega) Tryz.underlying46 hi0 hz0 hz1 hz2 rfl (by omega) h ys hm ty b off k (fun i s e t u hu => (src i s e).cellsAt t u hu) hbase
theorem RowS.nil (W : World) (base : Nat) : RowS W base (.slice none 0 0) [] := ⟨rfl, .inl ⟨rfl, rfl⟩⟩
theorem RowN.nil (W : World) (base : Nat) : RowN W base (.slice none 0 0) [] := ⟨rfl, .inl ⟨rfl, rfl⟩⟩
theorem RowS.lt {W : World} {base : Nat} {v : Value} {xs : List S5} (h : RowS W base v xs) {q : Nat} (e : v.ownBlock = some q) : base ≤ q ∧ q < W.heap.size := World.ownsRow.lt h q e
theorem RowN.lt {W : World} {base : Nat} {v : Value} {xs : List N5} (h : RowN W base v xs) {q : Nat} (e : v.ownBlock = some q) : base ≤ q ∧ q < W.heap.size := World.ownsRow.lt h q e
theorem row_keep {W W' : World} {base : Nat} {v : Value} {T : TypeId} {sz n : Nat} {vs : List Value} (h : W.ownsRow base T sz v n vs) (hk : ∀ q, v.ownBlock = some q → W'.heap[q]? = W.heap[q]?) : W'.ownsRow base T sz v n vs := by
  refine ⟨h.1, h.2.imp id ?_⟩
  rintro ⟨q, cap, cur, rfl, l, hg, r⟩
  exact ⟨q, cap, cur, rfl, l, (hk q rfl).trans hg, r⟩
theorem RowS.keep {W W' : World} {base : Nat} {v : Value} {xs : List S5} (h : RowS W base v xs) (hk : ∀ q, base ≤ q → q < W.heap.size → v.ownBlock = some q → W'.heap[q]? = W.heap[q]?) : RowS W' base v xs := row_keep h (fun q e => hk q (h.lt e).1 (h.lt e).2 e)
theorem RowN.keep {W W' : World} {base : Nat} {v : Value} {xs : List N5} (h : RowN W base v xs) (hk : ∀ q, base ≤ q → q < W.heap.size → v.ownBlock = some q → W'.heap[q]? = W.heap[q]?) : RowN W' base v xs := row_keep h (fun q e => hk q (h.lt e).1 (h.lt e).2 e)
theorem RowS.later {W W' : World} {base : Nat} {v : Value} {xs : List S5} (h : RowS W base v xs) (hb : Below W.heap.size W W') : RowS W' base v xs := h.keep (fun q _ hq _ => hb.block q hq)
theorem RowN.later {W W' : World} {base : Nat} {v : Value} {xs : List N5} (h : RowN W base v xs) (hb : Below W.heap.size W W') : RowN W' base v xs := h.keep (fun q _ hq _ => hb.block q hq)
theorem RowS.form {W : World} {base : Nat} {v : Value} {xs : List S5} (h : RowS W base v xs) : ∃ a c, v = .slice a xs.length c ∧ OwnSe W (fun q => v.ownBlock = some q) a xs := by
  rcases h.2 with ⟨rfl, h0⟩ | ⟨q, cap, cur, rfl, hb, hg, hl, _⟩
  · exact ⟨none, 0, by rw [h0], .inl (List.eq_nil_of_length_eq_zero h0)⟩
  · refine ⟨some ⟨q, 0, none⟩, cap, rfl, .inr ⟨q, rfl, rfl, (World.ownsRow.lt h q rfl).2, own_sets h, own_room h⟩⟩
theorem RowN.form {W : World} {base : Nat} {v : Value} {xs : List N5} (h : RowN W base v xs) : ∃ a c, v = .slice a xs.length c ∧ OwnNo W (fun q => v.ownBlock = some q) a xs := by
  rcases h.2 with ⟨rfl, h0⟩ | ⟨q, cap, cur, rfl, hb, hg, hl, _⟩
  · exact ⟨none, 0, by rw [h0], .inl (List.eq_nil_of_length_eq_zero h0)⟩
  · refine ⟨some ⟨q, 0, none⟩, cap, rfl, .inr ⟨q, rfl, rfl, (World.ownsRow.lt h q rfl).2, own_notes h, own_roomNo h⟩⟩
theorem RowS.made (W : World) : RowS (W.alloc (.cells #[] 92)) W.heap.size (.slice (some ⟨W.heap.size, 0, none⟩) 0 0) [] := World.ownsRow_made W #[] 0 (Nat.le_refl _) (Nat.zero_le _) rfl
theorem RowN.made (W : World) : RowN (W.alloc (.cells #[] 90)) W.heap.size (.slice (some ⟨W.heap.size, 0, none⟩) 0 0) [] := World.ownsRow_made W #[] 0 (Nat.le_refl _) (Nat.zero_le _) rfl
theorem SetAt.box (W : World) (s : S5) (T : TypeId) : SetAt (W.alloc (.cells #[.int .i64 s.region, .int .i64 s.slot, .int .i64 s.value, .bool s.used, .int .i64 s.version] T)) W.heap.size 0 s := ⟨by go_simp, by go_simp, by go_simp, by go_simp, by go_simp⟩
theorem NoteAt.box (W : World) (s : N5) (T : TypeId) : NoteAt (W.alloc (.cells #[.int .i64 s.region, .int .i64 s.slot, .int .i64 s.version, .int .i64 s.value, .bool s.used] T)) W.heap.size 0 s := ⟨by go_simp, by go_simp, by go_simp, by go_simp, by go_simp⟩
theorem SetAt.one {W : World} {b o : Nat} {s : S5} (h : SetAt W b o s) : SetsAt W b o [s] := fun i x e => by
  rcases i with _ | i
  · simp at e; subst e; simpa using h
  · simp at e
theorem NoteAt.one {W : World} {b o : Nat} {s : N5} (h : NoteAt W b o s) : NotesAt W b o [s] := fun i x e => by
  rcases i with _ | i
  · simp at e; subst e; simpa using h
  · simp at e
end Go.Proofs.YteiofebmgilclaaGreat.tx