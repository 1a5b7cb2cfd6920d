/- What the specification answers of Places: Primary, Backups. -/
import Derived.Test.YtgohihcpmjfhdaaRows
import Derived.Test.YtgohihcpmjfhdaaPlacesS
import Derived.Test.YtgohihcpmjfhdaaNumOwn
import Derived.WalkKit
import Derived.WalkSpells
import Derived.WalkLawsBesides
import Derived.Below
namespace Go.Proofs.Ytgohihcpmjfhdaa
open Go.RowKit
def regionB (zss : List (List Int)) (r : Int) : Bool := placesB zss && inB 0 ((zss.length : Int) - 1) r
def primR (zss : List (List Int)) (r : Int) : Int := if regionB zss r = true then atN (atP zss r.toNat) 0 else -1
def backL (zss : List (List Int)) (r : Int) : List Int := if regionB zss r = true then (atP zss r.toNat).drop 1 else []
theorem region_bd {zss : List (List Int)} {r : Int} (h : regionB zss r = true) : ∃ i : Nat, r = (i : Int) ∧ i < zss.length ∧ 1 ≤ (atP zss i).length ∧ (atP zss i).length ≤ 3 := by
  simp only [regionB, Bool.and_eq_true, inB_iff] at h
  obtain ⟨i, rfl⟩ := Int.eq_ofNat_of_zero_le h.2.1
  have hi : i < zss.length := by omega
  have hp := h.1
  simp only [placesB, Bool.and_eq_true] at hp
  have := List.all_eq_true.1 hp.2 i (List.mem_range.2 hi)
  simp only [placeB, Bool.and_eq_true, decide_eq_true_eq] at this
  exact ⟨i, rfl, hi, this.1.1, this.1.2⟩
theorem backL_len (zss : List (List Int)) (r : Int) : (backL zss r).length ≤ 3 := by
  cases h : regionB zss r with
  | false => simp [backL, h]
  | true =>
    obtain ⟨i, rfl, _, _, l2⟩ := region_bd h
    simp [backL, h]; omega
theorem specRegionP_any (w : World) (a : Option Addr) (n cap : Nat) (r : Int) (zss : List (List Int)) (hn : n ≤ maxLen) (hs : SlP w w.heap.size a n zss) :
    Calls Try.prog 54 #[.slice a n cap, .int .i64 r] w fun e w' => e = .returned (.bool (regionB zss r)) ∧ Below w.heap.size w w' := by
  have hx := hs.1
  have hn' := hn
  unfold maxLen at hn'
  go_enter Try.func54, Try.ntmps54
  go_wp2_with fail
  refine (specPlacesOk_any w a n cap zss hn hs).mono ?_
  clear hs
  cases hp : placesB zss with
  | false =>
    rintro e w1 ⟨rfl, b1⟩
    go_wp2
    go_ret
    exact ⟨by simp [regionB, hp], b1⟩
  | true =>
    rintro e w1 ⟨rfl, b1⟩
    have B1 : Hid (Below w.heap.size w w1) := b1
    clear b1
    go_wp2_with (go_at_call 44; refine (specIn _ _ _ _).mono ?_; rintro e w1 ⟨rfl, rfl⟩)
    go_ret
    exact ⟨by simp [regionB, hp, hx], B1.out⟩
set_option maxHeartbeats 1000000 in
theorem specPrimary_any (w : World) (a : Option Addr) (n cap : Nat) (r : Int) (zss : List (List Int)) (hn : n ≤ maxLen) (hs : SlP w w.heap.size a n zss) :
    Calls Try.prog 27 #[.slice a n cap, .int .i64 r] w fun e w' => e = .returned (.int .i64 (primR zss r)) ∧ Below w.heap.size w w' := by
  go_enter Try.func27, Try.ntmps27
  go_wp2_with fail
  refine (specRegionP_any w a n cap r zss hn hs).mono ?_
  cases hp : regionB zss r with
  | false =>
    rintro e w1 ⟨rfl, b1⟩
    go_wp2
    go_ret
    exact ⟨by simp [primR, hp], b1⟩
  | true =>
    obtain ⟨i, rfl, hi, l1, l2⟩ := region_bd hp
    rintro e w1 ⟨rfl, b1⟩
    obtain ⟨hx, hs⟩ := hs
    unfold maxLen at hn
    rcases hs with hs | ⟨b, off, rfl, hb, h1⟩
    · omega
    · obtain ⟨a', cap', hc, ⟨_, hsn⟩, hcp⟩ := h1 i _ (atP_of hi)
      rcases hsn with hsn | ⟨b', off', rfl, hb', h2⟩
      · omega
      · have c1 := (b1.cell (p := ⟨b, off + i, none⟩) hb).trans hc
        have c2 := (b1.cell (p := ⟨b', off' + 0, none⟩) hb').trans (h2 0 _ (atN_of (by omega)))
        have hin : (i : Int) < (n : Int) := by omega
        have l1' : (0 : Int) < ((atP zss i).length : Int) := by omega
        have HR : Hid (primR zss (i : Int) = atN (atP zss i) 0) := by unfold Hid; simp [primR, hp]
        have B1 : Hid (Below w.heap.size w w1) := b1
        rw [Nat.add_zero] at c2
        clear h1 h2 hc b1 hp
        generalize (atP zss i).length = m at *
        go_wp2
        go_ret
        exact ⟨by rw [HR.out]; rfl, B1.out⟩
set_option maxHeartbeats 1000000 in
theorem specBackups_any (w : World) (a : Option Addr) (n cap : Nat) (r : Int) (zss : List (List Int)) (hn : n ≤ maxLen) (hs : SlP w w.heap.size a n zss) :
    Calls Try.prog 28 #[.slice a n cap, .int .i64 r] w fun e w' => ∃ g cap', e = .returned (.slice (some ⟨g, 0, none⟩) (backL zss r).length cap') ∧ ON w' w.heap.size (.slice (some ⟨g, 0, none⟩) (backL zss r).length cap') (backL zss r) ∧ Below w.heap.size w w' := by
  obtain ⟨L, hL⟩ : ∃ L, backL zss r = L := ⟨_, rfl⟩
  rw [hL]
  go_enter Try.func28, Try.ntmps28
  go_wp2_with fail
  refine (specRegionP_any w a n cap r zss hn hs).mono ?_
  cases hp : regionB zss r with
  | false =>
    rintro e w1 ⟨rfl, b1⟩
    obtain rfl : L = [] := by rw [← hL]; simp [backL, hp]
    go_wp2
    go_ret
    exact ⟨w1.heap.size, 0, rfl, (ON.empty w1).lower b1.size, b1.alloc b1.size _⟩
  | true =>
    obtain ⟨i, rfl, hi, l1, l2⟩ := region_bd hp
    rintro e w1 ⟨rfl, b1⟩
    obtain ⟨hx, hs⟩ := hs
    unfold maxLen at hn
    rcases hs with hs | ⟨b, off, rfl, hb, h1⟩
    · omega
    · obtain ⟨a', cap', hc, ⟨_, hsn⟩, hcp⟩ := h1 i _ (atP_of hi)
      rcases hsn with hsn | ⟨b', off', rfl, hb', h2⟩
      · omega
      · have c1 := (b1.cell (p := ⟨b, off + i, none⟩) hb).trans hc
        have hbw1 : b < w1.heap.size := Nat.lt_of_lt_of_le hb b1.size
        have hin : (i : Int) < (n : Int) := by omega
        have hLz : L = (atP zss i).drop 1 := by rw [← hL]; simp [backL, hp]
        clear hL
        generalize hzs : atP zss i = zs at *
        have bA : Below w.heap.size w (w1.alloc (.cells #[] 2)) := b1.alloc b1.size _
        have h2' : NumsAt (w1.alloc (.cells #[] 2)) b' off' zs := h2.below bA hb'
        have hon : ON (w1.alloc (.cells #[] 2)) w.heap.size (.slice (some ⟨w1.heap.size, 0, none⟩) 0 0) [] := (ON.empty w1).lower b1.size
        have hdl : L.length = zs.length - 1 := by rw [hLz]; simp
        obtain ⟨v', W', hr, ho, hg, hl⟩ := on_append (w1.alloc (.cells #[] 2)) w.heap.size _ [] L b' (if cap' = 1 then off' else off' + 1) (cap' - 1) 28 hon (fun j z e => by
          rw [hLz, List.getElem?_drop] at e
          by_cases hc1 : cap' = 1
          · have := (List.getElem?_eq_some_iff.1 e).1; omega
          · rw [if_neg hc1, Nat.add_assoc]; exact h2' (1 + j) z e) (by simp [hdl]; omega) bA.size
        rw [List.nil_append] at ho
        have hb2 : Below w.heap.size w W' := bA.grown hg bA.size (fun k h => by cases h; exact b1.size)
        obtain ⟨g, cp, rfl⟩ : ∃ g cp, v' = .slice (some ⟨g, 0, none⟩) L.length cp := by
          rcases ho.form with ⟨rfl, _⟩ | ⟨g, cp, e, _⟩
          · rcases hl with h | h <;> cases h
          · exact ⟨g, cp, e⟩
        have HK : Hid (ON W' w.heap.size (.slice (some ⟨g, 0, none⟩) L.length cp) L ∧ Below w.heap.size w W') := ⟨ho, hb2⟩
        clear h1 h2 h2' hc b1 bA hon ho hg hl hb2 hp hLz
        rw [hdl] at hr
        by_cases hc1 : cap' = 1
        · have hz1 : zs.length = 1 := by omega
          rw [if_pos hc1] at hr
          subst hc1
          rw [hz1] at hr c1
          have d : (1 : Int) ≤ 1 := by omega
          go_wp2_with (at_builtin; refine append_known _ rfl (.tmp 10) (.tmp 16) 28 rfl _ _ _ _ rfl rfl hr ?_)
          go_ret
          exact ⟨g, cp, by rw [hdl]; first | rfl | (rw [hz1]; rfl), HK.out.1, HK.out.2⟩
        · rw [if_neg hc1] at hr
          have d : (1 : Int) ≤ (zs.length : Int) := by omega
          go_wp2_with (at_builtin; refine append_known _ rfl (.tmp 10) (.tmp 16) 28 rfl _ _ _ _ rfl rfl hr ?_)
          go_ret
          exact ⟨g, cp, by rw [hdl]; rfl, HK.out.1, HK.out.2⟩
end Go.Proofs.Ytgohihcpmjfhdaa
