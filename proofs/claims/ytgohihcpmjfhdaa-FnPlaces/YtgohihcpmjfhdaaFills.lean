/- As many as there can be: what the filling up of a Place comes to; lists alone. -/
import Derived.Test.YtgohihcpmjfhdaaRows
import Derived.Test.YtgohihcpmjfhdaaRemapS2
import Derived.Test.YtgohihcpmjfhdaaSpreadS
import Derived.Test.YtgohihcpmjfhdaaPlacesS2
namespace Go.Proofs.Ytgohihcpmjfhdaa
theorem nodup_sub {α : Type} [DecidableEq α] : ∀ (l m : List α), l.Nodup → (∀ x ∈ l, x ∈ m) → l.length ≤ m.length
  | [], _, _, _ => Nat.zero_le _
  | x :: l, m, hn, hs => by
    have hx : x ∈ m := hs x (by simp)
    rw [List.nodup_cons] at hn
    have ih := nodup_sub l (m.erase x) hn.2 (fun y hy => (List.mem_erase_of_ne (fun e => hn.1 (by rw [← e]; exact hy))).2 (hs y (by simp [hy])))
    rw [List.length_erase_of_mem hx] at ih
    have := List.length_pos_of_mem hx
    simp
    omega
theorem hasB_iff {zs : List Int} {z : Int} : hasB zs z = true ↔ z ∈ zs := by
  simp [hasB, List.any_eq_true]
theorem hasB_no {zs : List Int} {z : Int} : hasB zs z = false ↔ z ∉ zs := by
  rw [← hasB_iff]; simp
theorem placeB_iff {zs : List Int} : placeB zs = true ↔ 1 ≤ zs.length ∧ zs.length ≤ 3 ∧ (∀ z ∈ zs, 0 ≤ z ∧ z ≤ 7) ∧ zs.Nodup := by
  simp only [placeB, Bool.and_eq_true, decide_eq_true_eq, List.all_eq_true, List.mem_range, goodAt, inB_iff, Bool.not_eq_true', hasB_no]
  constructor
  · rintro ⟨⟨h1, h2⟩, h3⟩
    refine ⟨h1, h2, fun z hz => ?_, ?_⟩
    · obtain ⟨i, hi, rfl⟩ := List.getElem_of_mem hz
      have := (h3 i hi).1
      rwa [atN, List.getElem?_eq_getElem hi] at this
    · rw [List.Nodup, List.pairwise_iff_getElem]
      intro i j hi hj hij e
      have := (h3 j hj).2
      rw [atN, List.getElem?_eq_getElem hj] at this
      refine this (List.mem_of_getElem? (i := i) ?_)
      rw [List.getElem?_take, if_pos hij, List.getElem?_eq_getElem hi, e]; rfl
  · rintro ⟨h1, h2, h3, h4⟩
    refine ⟨⟨h1, h2⟩, fun k hk => ⟨?_, fun hm => ?_⟩⟩
    · rw [atN, List.getElem?_eq_getElem hk]; exact h3 _ (List.getElem_mem hk)
    · rw [atN, List.getElem?_eq_getElem hk] at hm
      obtain ⟨i, hi, e⟩ := List.getElem_of_mem hm
      rw [List.length_take] at hi
      rw [List.getElem_take] at e
      rw [List.Nodup, List.pairwise_iff_getElem] at h4
      exact h4 i k (by omega) hk (by omega) e
/-- How many live below m. -/
def cntB (al : List Bool) : Nat → Nat
  | 0 => 0
  | m + 1 => if atB al m = true then cntB al m + 1 else cntB al m
def livL (al : List Bool) (m : Nat) : List Int := ((List.range m).filter (atB al)).map fun (i : Nat) => (i : Int)
theorem livL_len (al : List Bool) : ∀ m, (livL al m).length = cntB al m
  | 0 => rfl
  | m + 1 => by
    have ih := livL_len al m
    simp only [livL, List.length_map] at ih ⊢
    rw [List.range_succ, List.filter_append, List.length_append, ih, cntB]
    by_cases h : atB al m = true
    · simp [h]
    · simp [h]
theorem livL_nodup (al : List Bool) (m : Nat) : (livL al m).Nodup := by
  rw [livL, List.Nodup, List.pairwise_map]
  exact (List.Pairwise.filter _ List.nodup_range).imp (fun h e => h (by omega))
theorem livL_mem {al : List Bool} {m : Nat} {z : Int} : z ∈ livL al m ↔ ∃ i : Nat, z = (i : Int) ∧ i < m ∧ atB al i = true := by
  simp only [livL, List.mem_map, List.mem_filter, List.mem_range]
  constructor
  · rintro ⟨i, ⟨h1, h2⟩, rfl⟩; exact ⟨i, rfl, h1, h2⟩
  · rintro ⟨i, rfl, h1, h2⟩; exact ⟨i, ⟨h1, h2⟩, rfl⟩
theorem lives_mem {al : List Bool} {z : Int} (h0 : 0 ≤ z) : livesB al z = true ↔ z ∈ livL al al.length := by
  obtain ⟨i, rfl⟩ := Int.eq_ofNat_of_zero_le h0
  rw [livL_mem]
  simp only [livesB, Bool.and_eq_true, decide_eq_true_eq]
  constructor
  · rintro ⟨h1, h2⟩; exact ⟨i, rfl, by omega, h2⟩
  · rintro ⟨j, e, h1, h2⟩
    obtain rfl : i = j := by omega
    exact ⟨by omega, h2⟩
theorem fill_facts (al : List Bool) (p : List Int) (hn : p.Nodup) (hp : ∀ z ∈ p, z ∈ livL al al.length) : ∀ m, m ≤ al.length → (fillTo al p m).Nodup ∧ (∀ z ∈ fillTo al p m, z ∈ livL al al.length) ∧ ((fillTo al p m).length < 3 → ∀ i, i < m → atB al i = true → (i : Int) ∈ fillTo al p m)
  | 0, _ => ⟨hn, hp, fun _ i hi => by omega⟩
  | m + 1, hm => by
    obtain ⟨f1, f2, f3⟩ := fill_facts al p hn hp m (by omega)
    rw [fillTo]
    split
    · rename_i h
      obtain ⟨h1, h2, h3⟩ := h
      rw [hasB_no] at h3
      refine ⟨?_, fun z hz => ?_, fun hl i hi hb => ?_⟩
      · rw [List.nodup_append]
        refine ⟨f1, by simp, fun x hx y hy e => ?_⟩
        simp at hy
        subst hy e
        exact h3 hx
      · rcases List.mem_append.1 hz with hz | hz
        · exact f2 z hz
        · simp at hz; subst hz; exact livL_mem.2 ⟨m, rfl, by omega, h2⟩
      · rw [List.mem_append]
        by_cases e : i = m
        · right; simp [e]
        · left; exact f3 h1 i (by omega) hb
    · rename_i h
      refine ⟨f1, f2, fun hl i hi hb => ?_⟩
      by_cases e : i = m
      · subst e
        by_cases hh : hasB (fillTo al p i) (i : Int) = true
        · exact hasB_iff.1 hh
        · exact absurd ⟨hl, hb, by simpa using hh⟩ h
      · exact f3 hl i (by omega) hb
theorem fill_len (al : List Bool) (p : List Int) (hn : p.Nodup) (hp : ∀ z ∈ p, z ∈ livL al al.length) (h3 : p.length ≤ 3) : (fillTo al p al.length).length = min (cntB al al.length) 3 := by
  obtain ⟨f1, f2, f3⟩ := fill_facts al p hn hp al.length (Nat.le_refl _)
  have l1 := nodup_sub _ _ f1 f2
  rw [livL_len] at l1
  have l2 := (fillTo_len al p h3 al.length).2
  by_cases h : (fillTo al p al.length).length < 3
  · have l3 := nodup_sub _ _ (livL_nodup al al.length) (fun z hz => by
      obtain ⟨i, rfl, hi, hb⟩ := livL_mem.1 hz
      exact f3 h i hi hb)
    rw [livL_len] at l3
    omega
  · omega
theorem keep_facts {al : List Bool} {zs : List Int} (hz : placeB zs = true) : (keepL al zs).Nodup ∧ (∀ z ∈ keepL al zs, z ∈ livL al al.length) ∧ (keepL al zs).length ≤ 3 := by
  obtain ⟨_, h2, h3, h4⟩ := placeB_iff.1 hz
  refine ⟨h4.filter _, fun z hz => ?_, Nat.le_trans (keepL_len al zs) h2⟩
  obtain ⟨k1, k2⟩ := List.mem_filter.1 hz
  exact (lives_mem (h3 z k1).1).1 k2
/-- What the law asks of a region that is not lost. -/
theorem row_kept {al : List Bool} {zs : List Int} (hz : placeB zs = true) (h8 : al.length ≤ 8) (hk : keepL al zs ≠ []) : (rowR al zs).length = min (cntB al al.length) 3 ∧ (∀ z ∈ rowR al zs, z ∈ livL al al.length) ∧ placeB (rowR al zs) = true := by
  obtain ⟨k1, k2, k3⟩ := keep_facts (al := al) hz
  have hr : rowR al zs = fillTo al (keepL al zs) al.length := by rw [rowR, if_neg hk]
  obtain ⟨f1, f2, _⟩ := fill_facts al (keepL al zs) k1 k2 al.length (Nat.le_refl _)
  have l := fillTo_len al (keepL al zs) k3 al.length
  have hk1 : 1 ≤ (keepL al zs).length := by
    rcases Nat.eq_zero_or_pos (keepL al zs).length with h | h
    · exact absurd (List.eq_nil_of_length_eq_zero h) hk
    · exact h
  rw [hr]
  refine ⟨fill_len al _ k1 k2 k3, f2, placeB_iff.2 ⟨by omega, l.2, fun z hz => ?_, f1⟩⟩
  obtain ⟨i, rfl, hi, _⟩ := livL_mem.1 (f2 z hz)
  omega
theorem row_lost {al : List Bool} {zs : List Int} (hk : keepL al zs = []) : rowR al zs = zs := by rw [rowR, if_pos hk]
theorem lost_has (al : List Bool) (zss : List (List Int)) {i n : Nat} (hi : i < n) : hasB (lostN al zss n) (i : Int) = decide (keepL al (atP zss i) = []) := by
  by_cases h : keepL al (atP zss i) = []
  · rw [decide_eq_true h, hasB_iff, lostN, List.mem_map]
    exact ⟨i, List.mem_filter.2 ⟨List.mem_range.2 hi, by simp [h]⟩, rfl⟩
  · rw [decide_eq_false h, hasB_no, lostN, List.mem_map]
    rintro ⟨j, hj, e⟩
    obtain rfl : j = i := by omega
    have := (List.mem_filter.1 hj).2
    simp [h] at this
theorem remap_places {zss : List (List Int)} {al : List Bool} (h : remapB zss al = true) : placesB (remapL zss al) = true := by
  have h' := h
  simp only [remapB, Bool.and_eq_true, decide_eq_true_eq] at h'
  obtain ⟨hp, h8⟩ := h'
  have hR : remapL zss al = remapN al zss zss.length := by simp [remapL, h]
  simp only [placesB, Bool.and_eq_true, decide_eq_true_eq] at hp
  rw [hR, placesB, remapN_len]
  simp only [Bool.and_eq_true, decide_eq_true_eq]
  refine ⟨hp.1, List.all_eq_true.2 fun i hi => ?_⟩
  have hi' := List.mem_range.1 hi
  have hz := List.all_eq_true.1 hp.2 i hi
  have e : atP (remapN al zss zss.length) i = rowR al (atP zss i) := by simp [atP, remapN, hi']
  rw [e]
  by_cases hk : keepL al (atP zss i) = []
  · rw [row_lost hk]; exact hz
  · exact (row_kept hz h8 hk).2.2
theorem remap_at {zss : List (List Int)} {al : List Bool} (h : remapB zss al = true) {i : Nat} (hi : i < zss.length) : (remapL zss al)[i]? = some (rowR al (atP zss i)) := by
  have hR : remapL zss al = remapN al zss zss.length := by simp [remapL, h]
  rw [hR]; simp [remapN, hi]
set_option maxRecDepth 100000 in
theorem spread_small : ∀ n, n < 7 → ∀ m, m < 9 → 1 ≤ n → 1 ≤ m → placesB (spreadN n m) = true ∧ primR (spreadN n m) 0 = 0 := by decide +kernel
theorem spread_places {R M : Int} (h : spreadB R M = true) : placesB (spreadL R M) = true ∧ primR (spreadL R M) 0 = 0 := by
  obtain ⟨n, m, rfl, rfl, h1, h2, h3, h4⟩ := spread_bd h
  have hL : spreadL (n : Int) (m : Int) = spreadN n m := by simp [spreadL, h]
  rw [hL]
  exact spread_small n (by omega) m (by omega) h1 h3
end Go.Proofs.Ytgohihcpmjfhdaa
