/- L6At; NumHas; Mach; PlacesS: joined. -/
import Derived.Test.YtalmflikdnflfaaGreatRows
import Derived.Test.YtalmflikdnflfaaGreatMacOkIJ
import Derived.WalkKit
import Derived.WalkSpells
import Derived.WalkLawsBesides
import Derived.Below
import Derived.Test.YtalmflikdnflfaaGreatJ4ExactFind
import Derived.Test.YtalmflikdnflfaaGreatJ1ExactFind
import Derived.BigQuiet
import Derived.Deep.QuietTactic
/- Where a machine's copy of a region is, by the specification. -/
namespace Go.Proofs.YtalmflikdnflfaaGreat
open Go.RowKit
set_option maxHeartbeats 2000000 in
theorem l6At_any (w : World) (v : MV) (m : M4) (y : Int) (hl : ML m) (hs : SlM w v m) :
    Calls Tryz.prog 35 #[v.val m, .int .i64 y] w fun e w' => (∃ i : Int, e = .returned (.int .i64 i) ∧ FirstAt (fun j => decide ((atK m.copies j).region = y)) m.copies.length i) ∧ Below w.heap.size w w' := by
  obtain ⟨ac, cc, al, cl, ad, cd⟩ := v
  simp only [MV.val]
  have hn := hl.k
  unfold maxLen at hn
  have b0 : Below w.heap.size w (w.alloc (.cells #[.bool m.alive, .slice ac m.copies.length cc, .slice al m.log.length cl, .slice ad m.cleared.length cd] 66)) := (Below.refl _ _).alloc (Nat.le_refl _) _
  have c1 : (w.alloc (.cells #[.bool m.alive, .slice ac m.copies.length cc, .slice al m.log.length cl, .slice ad m.cleared.length cd] 66)).cell? ⟨w.heap.size, 1, none⟩ = some (.slice ac m.copies.length cc) := by go_simp
  have H : Hid (SlM (w.alloc (.cells #[.bool m.alive, .slice ac m.copies.length cc, .slice al m.log.length cl, .slice ad m.cleared.length cd] 66)) ⟨ac, cc, al, cl, ad, cd⟩ m ∧ Below w.heap.size w (w.alloc (.cells #[.bool m.alive, .slice ac m.copies.length cc, .slice al m.log.length cl, .slice ad m.cleared.length cd] 66))) := ⟨hs.later b0, b0⟩
  clear hs b0 hl
  go_enter Tryz.func35, Tryz.ntmps35
  go_wp2
  generalize w.alloc (.cells #[.bool m.alive, .slice ac m.copies.length cc, .slice al m.log.length cl, .slice ad m.cleared.length cd] 66) = W at *
  go_loop [5] (fun v => ∃ j : Nat, j ≤ m.copies.length ∧ v = .int .i64 j ∧ ∀ t, t < j → (atK m.copies t).region ≠ y) (fun v => m.copies.length - (intOf v).toNat)
  case atStart => exact ⟨0, Nat.zero_le _, rfl, fun t h => absurd h (by omega)⟩
  case round =>
    obtain ⟨j, hj, rfl, hlo⟩ := hrel
    have HL := hidOf hlo
    clear hlo
    by_cases hlt : j < m.copies.length
    · obtain ⟨_, hk⟩ := H.out.1.k
      simp only [] at hk
      rcases hk with hk | ⟨b, off, rfl, hb, h1⟩
      · omega
      have k0 := (h1 j _ (atK_of hlt)).c0
      clear h1
      by_cases he : (atK m.copies j).region = y
      · have q : ((atK m.copies j).region == y) = true := by simp [he]
        have HE := hidOf he
        clear he
        go_wp2
        go_ret
        exact ⟨⟨_, rfl, .inr ⟨j, rfl, hlt, by simp [HE.out], fun t ht => by simp [HL.out t ht]⟩⟩, H.out.2⟩
      · have q : ((atK m.copies j).region == y) = false := by simp [he]
        have HE := hidOf he
        clear he
        go_wp2
        exact ⟨⟨j + 1, by omega, by simp, fun t ht => by
          by_cases e : t = j
          · rw [e]; exact HE.out
          · exact HL.out t (by omega)⟩, by simp [intOf]; omega⟩
    · obtain rfl : j = m.copies.length := by omega
      have hd : decide ((m.copies.length : Int) < (m.copies.length : Int)) = false := by simp
      go_wp2
      go_ret
      exact ⟨⟨_, rfl, .inl ⟨rfl, fun t ht => by simp [HL.out t ht]⟩⟩, H.out.2⟩
theorem first_ex (f : Nat → Bool) : ∀ n, ∃ i, FirstAt f n i
  | 0 => ⟨-1, .inl ⟨rfl, fun j hj => by omega⟩⟩
  | n + 1 => by
    obtain ⟨i, h⟩ := first_ex f n
    rcases h with ⟨rfl, h⟩ | ⟨k, rfl, hk, h1, h2⟩
    · by_cases e : f n = true
      · exact ⟨n, .inr ⟨n, rfl, by omega, e, h⟩⟩
      · refine ⟨-1, .inl ⟨rfl, fun j hj => ?_⟩⟩
        by_cases ej : j = n
        · rw [ej]; simpa using e
        · exact h j (by omega)
    · exact ⟨k, .inr ⟨k, rfl, by omega, h1, h2⟩⟩
theorem first_un {f : Nat → Bool} {n : Nat} {i j : Int} (h : FirstAt f n i) (h' : FirstAt f n j) : i = j := by
  rcases h with ⟨rfl, h⟩ | ⟨k, rfl, hk, h1, h2⟩ <;> rcases h' with ⟨rfl, h'⟩ | ⟨l, rfl, hl, g1, g2⟩
  · rfl
  · rw [h l hl] at g1; cases g1
  · rw [h' k hk] at h1; cases h1
  · have : ¬ k < l := fun e => by rw [g2 k e] at h1; cases h1
    have : ¬ l < k := fun e => by rw [h2 l e] at g1; cases g1
    omega
/-- Where a machine's copy of a region is, or -1. -/
noncomputable def idxC (m : M4) (y : Int) : Int := Classical.choose (first_ex (fun j => decide ((atK m.copies j).region = y)) m.copies.length)
theorem idxC_first (m : M4) (y : Int) : FirstAt (fun j => decide ((atK m.copies j).region = y)) m.copies.length (idxC m y) := Classical.choose_spec _
/-- Has a machine a copy of a region? -/
def hasC (m : M4) (y : Int) : Bool := !((List.range m.copies.length).all fun j => !decide ((atK m.copies j).region = y))
theorem idxC_lt (m : M4) (y : Int) : decide (idxC m y < 0) = !hasC m y := by
  have h := first_has (idxC_first m y)
  unfold hasC
  rw [← h]
  by_cases e : 0 ≤ idxC m y
  · simp [e, show ¬ idxC m y < 0 by omega]
  · simp [e, show idxC m y < 0 by omega]
theorem l6At_v (w : World) (a : Option Addr) (b : Nat) (c : Option Addr) (d : Nat) (e : Option Addr) (f : Nat) (m : M4) (y : Int) (hl : ML m) (hs : SlM w ⟨a, b, c, d, e, f⟩ m) :
    Calls Tryz.prog 35 #[.agg #[.bool m.alive, .slice a m.copies.length b, .slice c m.log.length d, .slice e m.cleared.length f], .int .i64 y] w fun r w' => r = .returned (.int .i64 (idxC m y)) ∧ Below w.heap.size w w' := by
  have hh := l6At_any w ⟨a, b, c, d, e, f⟩ m y hl hs
  simp only [MV.val] at hh
  refine hh.mono ?_
  rintro r w' ⟨⟨i, rfl, hi⟩, hb⟩
  exact ⟨by rw [first_un hi (idxC_first m y)], hb⟩
end Go.Proofs.YtalmflikdnflfaaGreat
/- The specification's l3Has over a row of numbers. -/
namespace Go.Proofs.YtalmflikdnflfaaGreat
open Go.RowKit
set_option maxHeartbeats 1000000 in
theorem l3Has_any (w : World) (a : Option Addr) (n cap : Nat) (z : Int) (zs : List Int) (hn : n ≤ maxLen) (hs : SlN w w.heap.size a n zs) :
    Calls Tryz.prog 76 #[.slice a n cap, .int .i64 z] w fun e w' => e = .returned (.bool (hasB zs z)) ∧ w' = w := by
  unfold maxLen at hn
  obtain ⟨hx, hs⟩ := hs
  go_enter Tryz.func76, Tryz.ntmps76
  go_wp2
  go_loop [5] (fun v => ∃ k : Nat, k ≤ n ∧ v = .int .i64 k ∧ ∀ i, i < k → atN zs i ≠ z) (fun v => n - (intOf v).toNat)
  case atStart => exact ⟨0, Nat.zero_le _, rfl, fun i h => absurd h (by omega)⟩
  case round =>
    obtain ⟨k, hk, rfl, hall⟩ := hrel
    have K : Hid ((∀ i, i < k → atN zs i ≠ z) ∧ zs.length = n) := ⟨hall, hx⟩
    by_cases hlt : k < n
    · rcases hs with hs | ⟨b, off, rfl, hb, h1⟩
      · omega
      · have c := h1 k _ (atN_of (by omega))
        clear h1 hall hx
        by_cases he : atN zs k = z
        · have q : (atN zs k == z) = true := by simp [he]
          have HE : Hid (atN zs k = z) := he
          clear he
          go_wp2
          go_ret
          exact ⟨by rw [has_yes (by rw [K.out.2]; exact hlt) HE.out]; rfl, rfl⟩
        · have q : (atN zs k == z) = false := by simp [he]
          have HE : Hid (atN zs k ≠ z) := he
          clear he
          go_wp2
          refine ⟨⟨k + 1, by omega, by simp, fun i hi => ?_⟩, by simp [intOf]; omega⟩
          by_cases e : i = k
          · rw [e]; exact HE.out
          · exact K.out.1 i (by omega)
    · have : k = n := by omega
      subst this
      have hd : decide ((k : Int) < (k : Int)) = false := by simp
      clear hall hx hs
      go_wp2
      go_ret
      exact ⟨by rw [has_no (by rw [K.out.2]; exact K.out.1)]; rfl, rfl⟩
end Go.Proofs.YtalmflikdnflfaaGreat
/- What the specification takes for a machine. -/
namespace Go.Proofs.YtalmflikdnflfaaGreat
open Go.RowKit
theorem specMachine (w : World) (x : Int) : Calls Tryz.prog 75 #[.int .i64 x] w fun e w' => e = .returned (.bool (inB 0 7 x)) ∧ w' = w := by
  go_enter Tryz.func75, Tryz.ntmps75
  go_wp2_with (go_at_call 32; refine (specIn _ _ _ _).mono ?_; rintro e w' ⟨rfl, rfl⟩)
  go_ret
  exact ⟨rfl, rfl⟩
end Go.Proofs.YtalmflikdnflfaaGreat
/- What the specification answers of Places: PlacesOk, Primary. -/
namespace Go.Proofs.YtalmflikdnflfaaGreat
open Go.RowKit
def goodAt (zs : List Int) (k : Nat) : Bool := inB 0 7 (atN zs k) && !hasB (zs.take k) (atN zs k)
def placeB (zs : List Int) : Bool := decide (1 ≤ zs.length) && decide (zs.length ≤ 3) && (List.range zs.length).all (goodAt zs)
def placesB (zss : List (List Int)) : Bool := decide (1 ≤ zss.length) && decide (zss.length ≤ 6) && (List.range zss.length).all (fun i => placeB (atP zss i))
theorem all_on {f : Nat → Bool} {k : Nat} (h : (List.range k).all f = true) (h' : f k = true) : (List.range (k + 1)).all f = true := by
  rw [List.range_succ, List.all_append, h]; simp [h']
theorem all_off {f : Nat → Bool} {k n : Nat} (hk : k < n) (h : f k = false) : (List.range n).all f = false := by
  rw [List.all_eq_false]; exact ⟨k, List.mem_range.2 hk, by simp [h]⟩
set_option maxHeartbeats 4000000 in
theorem specPlacesOk_any (w : World) (a : Option Addr) (n cap : Nat) (zss : List (List Int)) (hn : n ≤ maxLen) (hs : SlP w w.heap.size a n zss) :
    Calls Tryz.prog 33 #[.slice a n cap] w fun e w' => e = .returned (.bool (placesB zss)) ∧ Below w.heap.size w w' := by
  unfold maxLen at hn
  obtain ⟨hx, hs⟩ := hs
  by_cases h0 : n < 1 ∨ 6 < n
  · have hb : placesB zss = false := by
      rcases h0 with h | h
      · simp [placesB, hx, show ¬ 1 ≤ n by omega]
      · simp [placesB, hx, show ¬ n ≤ 6 by omega]
    rw [hb]
    rcases h0 with h | h
    · obtain rfl : n = 0 := by omega
      go_enter Tryz.func33, Tryz.ntmps33
      go_wp2
      go_ret
      exact ⟨rfl, Below.refl _ _⟩
    · have d1 : decide ((n : Int) < 1) = false := by simp; omega
      have d2 : decide ((6 : Int) < (n : Int)) = true := by simp; omega
      go_enter Tryz.func33, Tryz.ntmps33
      go_wp2
      go_ret
      exact ⟨rfl, Below.refl _ _⟩
  · have d1 : decide ((n : Int) < 1) = false := by simp; omega
    have d2 : decide ((6 : Int) < (n : Int)) = false := by simp; omega
    have HP : Hid (placesB zss = (List.range n).all (fun i => placeB (atP zss i))) := by unfold Hid; simp [placesB, hx, show 1 ≤ n by omega, show n ≤ 6 by omega]
    go_enter Tryz.func33, Tryz.ntmps33
    go_wp2
    go_loopw [3] (fun v3 wr => ∃ j : Nat, j ≤ n ∧ v3 = .int .i64 j ∧ Below w.heap.size w wr ∧ (List.range j).all (fun i => placeB (atP zss i)) = true) (fun v3 _ => n - (intOf v3).toNat)
    case atStart => exact ⟨0, Nat.zero_le _, rfl, Below.refl _ _, rfl⟩
    case round =>
      obtain ⟨j, hj, rfl, hbl, hall⟩ := hrel
      by_cases hlt : j < n
      · rcases hs with hs | ⟨b, off, rfl, hb, h1⟩
        · omega
        · obtain ⟨a', cap', hc, hsl, hcp⟩ := h1 j _ (atP_of (by omega))
          have c := (hbl.cell (p := ⟨b, off + j, none⟩) hb).trans hc
          have KA : Hid ((List.range j).all (fun i => placeB (atP zss i)) = true ∧ Below w.heap.size w wr) := ⟨hall, hbl⟩
          have HF : Hid (placeB (atP zss j) = false → placesB zss = false) := fun h => by rw [HP.out]; exact all_off hlt h
          have hsl' : SlN wr wr.heap.size a' (atP zss j).length (atP zss j) := (hsl.below hbl).mono hbl.size
          clear h1 hc hall hsl hbl
          generalize hzs : atP zss j = zs at *
          by_cases h3 : zs.length < 1 ∨ 3 < zs.length
          · have hpf : placeB zs = false := by
              rcases h3 with h | h
              · simp [placeB, show ¬ 1 ≤ zs.length by omega]
              · simp [placeB, show ¬ zs.length ≤ 3 by omega]
            rcases h3 with h | h
            · have d3 : decide ((zs.length : Int) < 1) = true := by simp; omega
              go_wp2
              go_ret
              exact ⟨by rw [HF.out hpf]; rfl, KA.out.2⟩
            · have d3 : decide ((zs.length : Int) < 1) = false := by simp; omega
              have d4 : decide ((3 : Int) < (zs.length : Int)) = true := by simp; omega
              go_wp2
              go_ret
              exact ⟨by rw [HF.out hpf]; rfl, KA.out.2⟩
          · have d3 : decide ((zs.length : Int) < 1) = false := by simp; omega
            have d4 : decide ((3 : Int) < (zs.length : Int)) = false := by simp; omega
            have HG : Hid (placeB zs = (List.range zs.length).all (goodAt zs)) := by unfold Hid; simp [placeB, show 1 ≤ zs.length by omega, show zs.length ≤ 3 by omega]
            have KS : Hid (SlN wr wr.heap.size a' zs.length zs) := hsl'
            clear hsl'
            go_wp2
            generalize wr = W1 at *
            go_loopw [5] (fun v5 wr => ∃ k : Nat, k ≤ zs.length ∧ v5 = .int .i64 k ∧ Below W1.heap.size W1 wr ∧ (List.range k).all (goodAt zs) = true) (fun v5 _ => zs.length - (intOf v5).toNat)
            case atStart => exact ⟨0, Nat.zero_le _, rfl, Below.refl _ _, rfl⟩
            case round =>
              obtain ⟨k, hk, rfl, hbq, hgk⟩ := hrel
              by_cases hkl : k < zs.length
              · obtain ⟨_, hsn⟩ := KS.out
                rcases hsn with hsn | ⟨b', off', rfl, hb', h2⟩
                · omega
                · have ck := (hbq.cell (p := ⟨b', off' + k, none⟩) hb').trans (h2 k _ (atN_of hkl))
                  have hst : SlN wr wr.heap.size (some ⟨b', off', none⟩) k (zs.take k) := ⟨by rw [List.length_take]; omega, .inr ⟨b', off', rfl, Nat.lt_of_lt_of_le hb' hbq.size, fun i z e => by
                    rw [List.getElem?_take] at e
                    split at e
                    · exact (h2.below hbq hb') i z e
                    · cases e⟩⟩
                  have KQ : Hid (Below W1.heap.size W1 wr ∧ (List.range k).all (goodAt zs) = true) := ⟨hbq, hgk⟩
                  have hkm : k ≤ maxLen := by unfold maxLen; omega
                  have cH : ∀ q, Calls Tryz.prog 76 #[.slice (some ⟨b', off', none⟩) k cap', .int .i64 (atN zs k)] (wr.drewN q) fun e w'' => e = .returned (.bool (hasB (zs.take k) (atN zs k))) ∧ ∃ m, w'' = wr.drewN m := fun q => Calls.quiet_of_same (l3Has_any (wr.drewN q) _ k cap' (atN zs k) (zs.take k) hkm hst)
                  have cM : ∀ q, Calls Tryz.prog 75 #[.int .i64 (atN zs k)] (wr.drewN q) fun e w'' => e = .returned (.bool (inB 0 7 (atN zs k))) ∧ ∃ m, w'' = wr.drewN m := fun q => Calls.quiet_of_same (specMachine _ _)
                  have HK : Hid (goodAt zs k = (inB 0 7 (atN zs k) && !hasB (zs.take k) (atN zs k))) := rfl
                  have hkc : k ≤ cap' := by omega
                  clear h2 hbq hgk hst
                  generalize atN zs k = z at *
                  cases g1 : inB 0 7 z with
                  | false =>
                    rw [g1] at cM
                    have hgf : goodAt zs k = false := by rw [HK.out, g1]; rfl
                    go_wp2_with fail
                    go_quiet (first | exact cM _ | exact cH _)
                    go_wp2
                    go_ret
                    exact ⟨by rw [HF.out (by rw [HG.out]; exact all_off hkl hgf)]; rfl, below_dn (KA.out.2.trans (KQ.out.1.mono KA.out.2.size)) _⟩
                  | true =>
                    rw [g1] at cM
                    cases g2 : hasB (zs.take k) z with
                    | true =>
                      rw [g2] at cH
                      have hgf : goodAt zs k = false := by rw [HK.out, g1, g2]; rfl
                      go_wp2_with fail
                      go_quiet (first | exact cM _ | exact cH _)
                      go_wp2
                      go_ret
                      exact ⟨by rw [HF.out (by rw [HG.out]; exact all_off hkl hgf)]; rfl, below_dn (KA.out.2.trans (KQ.out.1.mono KA.out.2.size)) _⟩
                    | false =>
                      rw [g2] at cH
                      have hgt : goodAt zs k = true := by rw [HK.out, g1, g2]; rfl
                      go_wp2_with fail
                      go_quiet (first | exact cM _ | exact cH _)
                      go_wp2
                      exact ⟨⟨k + 1, by omega, by simp, below_dn KQ.out.1 _, all_on KQ.out.2 hgt⟩, by simp [intOf]; omega⟩
              · have : k = zs.length := by omega
                subst this
                have hd : decide ((zs.length : Int) < (zs.length : Int)) = false := by simp
                have hpt : placeB zs = true := by rw [HG.out]; exact hgk
                go_wp2
                exact ⟨⟨j + 1, by omega, by simp, KA.out.2.trans (hbq.mono KA.out.2.size), all_on KA.out.1 (by rw [hzs]; exact hpt)⟩, by simp [intOf]; omega⟩
      · have : j = n := by omega
        subst this
        have hd : decide ((j : Int) < (j : Int)) = false := by simp
        clear hs
        go_wp2
        go_ret
        exact ⟨by rw [HP.out, hall]; rfl, hbl⟩
end Go.Proofs.YtalmflikdnflfaaGreat
