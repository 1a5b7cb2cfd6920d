/- What the specification answers of Places: PlacesOk, Primary. -/
import Derived.Test.YtgohihcpmjfhdaaRows
import Derived.Test.YtgohihcpmjfhdaaMach
import Derived.Test.YtgohihcpmjfhdaaPls
import Derived.WalkKit
import Derived.WalkSpells
import Derived.WalkLawsBesides
import Derived.Below
import Derived.BigQuiet
import Derived.Deep.QuietTactic
namespace Go.Proofs.Ytgohihcpmjfhdaa
open Go.RowKit
def goodAt (zs : List Int) (k : Nat) : Bool := inB 0 7 (atN zs k) && !hasB (zs.take k) (atN zs k)
def placeB (zs : List Int) : Bool := decide (1 ≤ zs.length) && decide (zs.length ≤ 3) && (List.range zs.length).all (goodAt zs)
def placesB (zss : List (List Int)) : Bool := decide (1 ≤ zss.length) && decide (zss.length ≤ 6) && (List.range zss.length).all (fun i => placeB (atP zss i))
theorem all_on {f : Nat → Bool} {k : Nat} (h : (List.range k).all f = true) (h' : f k = true) : (List.range (k + 1)).all f = true := by
  rw [List.range_succ, List.all_append, h]; simp [h']
theorem all_off {f : Nat → Bool} {k n : Nat} (hk : k < n) (h : f k = false) : (List.range n).all f = false := by
  rw [List.all_eq_false]; exact ⟨k, List.mem_range.2 hk, by simp [h]⟩
set_option maxHeartbeats 4000000 in
theorem specPlacesOk_any (w : World) (a : Option Addr) (n cap : Nat) (zss : List (List Int)) (hn : n ≤ maxLen) (hs : SlP w w.heap.size a n zss) :
    Calls Try.prog 22 #[.slice a n cap] w fun e w' => e = .returned (.bool (placesB zss)) ∧ Below w.heap.size w w' := by
  unfold maxLen at hn
  obtain ⟨hx, hs⟩ := hs
  by_cases h0 : n < 1 ∨ 6 < n
  · have hb : placesB zss = false := by
      rcases h0 with h | h
      · simp [placesB, hx, show ¬ 1 ≤ n by omega]
      · simp [placesB, hx, show ¬ n ≤ 6 by omega]
    rw [hb]
    rcases h0 with h | h
    · obtain rfl : n = 0 := by omega
      go_enter Try.func22, Try.ntmps22
      go_wp2
      go_ret
      exact ⟨rfl, Below.refl _ _⟩
    · have d1 : decide ((n : Int) < 1) = false := by simp; omega
      have d2 : decide ((6 : Int) < (n : Int)) = true := by simp; omega
      go_enter Try.func22, Try.ntmps22
      go_wp2
      go_ret
      exact ⟨rfl, Below.refl _ _⟩
  · have d1 : decide ((n : Int) < 1) = false := by simp; omega
    have d2 : decide ((6 : Int) < (n : Int)) = false := by simp; omega
    have HP : Hid (placesB zss = (List.range n).all (fun i => placeB (atP zss i))) := by unfold Hid; simp [placesB, hx, show 1 ≤ n by omega, show n ≤ 6 by omega]
    go_enter Try.func22, Try.ntmps22
    go_wp2
    go_loopw [3] (fun v3 wr => ∃ j : Nat, j ≤ n ∧ v3 = .int .i64 j ∧ Below w.heap.size w wr ∧ (List.range j).all (fun i => placeB (atP zss i)) = true) (fun v3 _ => n - (intOf v3).toNat)
    case atStart => exact ⟨0, Nat.zero_le _, rfl, Below.refl _ _, rfl⟩
    case round =>
      obtain ⟨j, hj, rfl, hbl, hall⟩ := hrel
      by_cases hlt : j < n
      · rcases hs with hs | ⟨b, off, rfl, hb, h1⟩
        · omega
        · obtain ⟨a', cap', hc, hsl, hcp⟩ := h1 j _ (atP_of (by omega))
          have c := (hbl.cell (p := ⟨b, off + j, none⟩) hb).trans hc
          have KA : Hid ((List.range j).all (fun i => placeB (atP zss i)) = true ∧ Below w.heap.size w wr) := ⟨hall, hbl⟩
          have HF : Hid (placeB (atP zss j) = false → placesB zss = false) := fun h => by rw [HP.out]; exact all_off hlt h
          have hsl' : SlN wr wr.heap.size a' (atP zss j).length (atP zss j) := (hsl.below hbl).mono hbl.size
          clear h1 hc hall hsl hbl
          generalize hzs : atP zss j = zs at *
          by_cases h3 : zs.length < 1 ∨ 3 < zs.length
          · have hpf : placeB zs = false := by
              rcases h3 with h | h
              · simp [placeB, show ¬ 1 ≤ zs.length by omega]
              · simp [placeB, show ¬ zs.length ≤ 3 by omega]
            rcases h3 with h | h
            · have d3 : decide ((zs.length : Int) < 1) = true := by simp; omega
              go_wp2
              go_ret
              exact ⟨by rw [HF.out hpf]; rfl, KA.out.2⟩
            · have d3 : decide ((zs.length : Int) < 1) = false := by simp; omega
              have d4 : decide ((3 : Int) < (zs.length : Int)) = true := by simp; omega
              go_wp2
              go_ret
              exact ⟨by rw [HF.out hpf]; rfl, KA.out.2⟩
          · have d3 : decide ((zs.length : Int) < 1) = false := by simp; omega
            have d4 : decide ((3 : Int) < (zs.length : Int)) = false := by simp; omega
            have HG : Hid (placeB zs = (List.range zs.length).all (goodAt zs)) := by unfold Hid; simp [placeB, show 1 ≤ zs.length by omega, show zs.length ≤ 3 by omega]
            have KS : Hid (SlN wr wr.heap.size a' zs.length zs) := hsl'
            clear hsl'
            go_wp2
            generalize wr = W1 at *
            go_loopw [5] (fun v5 wr => ∃ k : Nat, k ≤ zs.length ∧ v5 = .int .i64 k ∧ Below W1.heap.size W1 wr ∧ (List.range k).all (goodAt zs) = true) (fun v5 _ => zs.length - (intOf v5).toNat)
            case atStart => exact ⟨0, Nat.zero_le _, rfl, Below.refl _ _, rfl⟩
            case round =>
              obtain ⟨k, hk, rfl, hbq, hgk⟩ := hrel
              by_cases hkl : k < zs.length
              · obtain ⟨_, hsn⟩ := KS.out
                rcases hsn with hsn | ⟨b', off', rfl, hb', h2⟩
                · omega
                · have ck := (hbq.cell (p := ⟨b', off' + k, none⟩) hb').trans (h2 k _ (atN_of hkl))
                  have hst : SlN wr wr.heap.size (some ⟨b', off', none⟩) k (zs.take k) := ⟨by rw [List.length_take]; omega, .inr ⟨b', off', rfl, Nat.lt_of_lt_of_le hb' hbq.size, fun i z e => by
                    rw [List.getElem?_take] at e
                    split at e
                    · exact (h2.below hbq hb') i z e
                    · cases e⟩⟩
                  have KQ : Hid (Below W1.heap.size W1 wr ∧ (List.range k).all (goodAt zs) = true) := ⟨hbq, hgk⟩
                  have hkm : k ≤ maxLen := by unfold maxLen; omega
                  have cH : ∀ q, Calls Try.prog 41 #[.slice (some ⟨b', off', none⟩) k cap', .int .i64 (atN zs k)] (wr.drewN q) fun e w'' => e = .returned (.bool (hasB (zs.take k) (atN zs k))) ∧ ∃ m, w'' = wr.drewN m := fun q => Calls.quiet_of_same (l3Has_any (wr.drewN q) _ k cap' (atN zs k) (zs.take k) hkm hst)
                  have cM : ∀ q, Calls Try.prog 51 #[.int .i64 (atN zs k)] (wr.drewN q) fun e w'' => e = .returned (.bool (inB 0 7 (atN zs k))) ∧ ∃ m, w'' = wr.drewN m := fun q => Calls.quiet_of_same (specMachine _ _)
                  have HK : Hid (goodAt zs k = (inB 0 7 (atN zs k) && !hasB (zs.take k) (atN zs k))) := rfl
                  have hkc : k ≤ cap' := by omega
                  clear h2 hbq hgk hst
                  generalize atN zs k = z at *
                  cases g1 : inB 0 7 z with
                  | false =>
                    rw [g1] at cM
                    have hgf : goodAt zs k = false := by rw [HK.out, g1]; rfl
                    go_wp2_with fail
                    go_quiet (first | exact cM _ | exact cH _)
                    go_wp2
                    go_ret
                    exact ⟨by rw [HF.out (by rw [HG.out]; exact all_off hkl hgf)]; rfl, below_dn (KA.out.2.trans (KQ.out.1.mono KA.out.2.size)) _⟩
                  | true =>
                    rw [g1] at cM
                    cases g2 : hasB (zs.take k) z with
                    | true =>
                      rw [g2] at cH
                      have hgf : goodAt zs k = false := by rw [HK.out, g1, g2]; rfl
                      go_wp2_with fail
                      go_quiet (first | exact cM _ | exact cH _)
                      go_wp2
                      go_ret
                      exact ⟨by rw [HF.out (by rw [HG.out]; exact all_off hkl hgf)]; rfl, below_dn (KA.out.2.trans (KQ.out.1.mono KA.out.2.size)) _⟩
                    | false =>
                      rw [g2] at cH
                      have hgt : goodAt zs k = true := by rw [HK.out, g1, g2]; rfl
                      go_wp2_with fail
                      go_quiet (first | exact cM _ | exact cH _)
                      go_wp2
                      exact ⟨⟨k + 1, by omega, by simp, below_dn KQ.out.1 _, all_on KQ.out.2 hgt⟩, by simp [intOf]; omega⟩
              · have : k = zs.length := by omega
                subst this
                have hd : decide ((zs.length : Int) < (zs.length : Int)) = false := by simp
                have hpt : placeB zs = true := by rw [HG.out]; exact hgk
                go_wp2
                exact ⟨⟨j + 1, by omega, by simp, KA.out.2.trans (hbq.mono KA.out.2.size), all_on KA.out.1 (by rw [hzs]; exact hpt)⟩, by simp [intOf]; omega⟩
      · have : j = n := by omega
        subst this
        have hd : decide ((j : Int) < (j : Int)) = false := by simp
        clear hs
        go_wp2
        go_ret
        exact ⟨by rw [HP.out, hall]; rfl, hbl⟩
end Go.Proofs.Ytgohihcpmjfhdaa
