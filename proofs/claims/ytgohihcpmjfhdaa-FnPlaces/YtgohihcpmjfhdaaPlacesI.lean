/- What the program answers of Places: PlacesOk, Primary, Backups. -/
import Derived.Test.YtgohihcpmjfhdaaRows
import Derived.Test.YtgohihcpmjfhdaaPlacesI1
import Derived.Test.YtgohihcpmjfhdaaPlacesS2
import Derived.WalkKit
import Derived.WalkSpells
import Derived.WalkLawsBesides
import Derived.Below
namespace Go.Proofs.Ytgohihcpmjfhdaa
open Go.RowKit
theorem wrong_any (w : World) (a : Option Addr) (cap : Nat) (zs : List Int) (hs : SlN w w.heap.size a zs.length zs) (hcp : zs.length ≤ cap) :
    Calls Try.prog 46 #[.agg #[.slice a zs.length cap]] w fun e w' => e = .returned (.bool (!placeB zs)) ∧ Below w.heap.size w w' := by
  have b0 : Below w.heap.size w (w.alloc (.cells #[.slice a zs.length cap] 40)) := (Below.refl _ _).alloc (Nat.le_refl _) _
  have hc := placeOk_any (w.alloc (.cells #[.slice a zs.length cap] 40)) a cap zs (hs.later b0) hcp
  have B0 : Hid (Below w.heap.size w (w.alloc (.cells #[.slice a zs.length cap] 40))) := b0
  clear hs b0
  generalize placeB zs = V at *
  generalize zs.length = n at *
  go_enter Try.func46, Try.ntmps46
  go_wp2_with fail
  refine hc.mono ?_
  clear hc
  rintro e w1 ⟨rfl, b1⟩
  go_wp2
  go_ret
  exact ⟨rfl, B0.out.trans (b1.mono (by simp))⟩
set_option maxHeartbeats 2000000 in
theorem indexFunc_any (w : World) (a : Option Addr) (n cap : Nat) (zss : List (List Int)) (hn : n ≤ maxLen) (hs : SlP w w.heap.size a n zss) :
    Calls Try.prog 62 #[.slice a n cap, .func (.func 46) #[] #[]] w fun e w' => (∃ i : Int, e = .returned (.int .i64 i) ∧ decide (0 ≤ i) = !((List.range n).all fun i => placeB (atP zss i))) ∧ Below w.heap.size w w' := by
  unfold maxLen at hn
  obtain ⟨hx, hs⟩ := hs
  go_enter Try.func62, Try.ntmps62
  go_wp2
  go_loopw [8] (fun v wr => ∃ j : Nat, j ≤ n ∧ v = .int .i64 j ∧ Below w.heap.size w wr ∧ (List.range j).all (fun i => placeB (atP zss i)) = true) (fun v _ => n - (intOf v).toNat)
  case atStart => exact ⟨0, Nat.zero_le _, rfl, Below.refl _ _, rfl⟩
  case round =>
    obtain ⟨j, hj, rfl, hbl, hall⟩ := hrel
    by_cases hlt : j < n
    · rcases hs with hs | ⟨b, off, rfl, hb, h1⟩
      · omega
      · obtain ⟨a', cap', hc, hsl, hcp⟩ := h1 j _ (atP_of (by omega))
        have c := (hbl.cell (p := ⟨b, off + j, none⟩) hb).trans hc
        have KA : Hid ((List.range j).all (fun i => placeB (atP zss i)) = true ∧ Below w.heap.size w wr) := ⟨hall, hbl⟩
        have hw := wrong_any wr a' cap' (atP zss j) ((hsl.below hbl).mono hbl.size) hcp
        have HF : Hid (placeB (atP zss j) = false → ((List.range n).all fun i => placeB (atP zss i)) = false) := fun h => all_off hlt h
        have HT : Hid (placeB (atP zss j) = true → ((List.range (j + 1)).all fun i => placeB (atP zss i)) = true) := fun h => all_on hall h
        clear h1 hc hall hsl hbl hcp
        generalize (atP zss j).length = m at *
        cases hp : placeB (atP zss j) with
        | false =>
          rw [hp] at hw
          go_wp2_with fail
          refine hw.mono ?_
          clear hw
          rintro e w1 ⟨rfl, b1⟩
          go_wp2
          go_ret
          exact ⟨⟨_, rfl, by rw [HF.out hp]; simp⟩, KA.out.2.trans (b1.mono KA.out.2.size)⟩
        | true =>
          rw [hp] at hw
          go_wp2_with fail
          refine hw.mono ?_
          clear hw
          rintro e w1 ⟨rfl, b1⟩
          go_wp2
          exact ⟨⟨j + 1, by omega, by simp, KA.out.2.trans (b1.mono KA.out.2.size), HT.out hp⟩, by simp [intOf]; omega⟩
    · have : j = n := by omega
      subst this
      have hd : decide ((j : Int) < (j : Int)) = false := by simp
      clear hs
      go_wp2
      go_ret
      exact ⟨⟨_, rfl, by rw [hall]; rfl⟩, hbl⟩
theorem containsFunc_any (w : World) (a : Option Addr) (n cap : Nat) (zss : List (List Int)) (hn : n ≤ maxLen) (hs : SlP w w.heap.size a n zss) :
    Calls Try.prog 48 #[.slice a n cap, .func (.func 46) #[] #[]] w fun e w' => e = .returned (.bool (!((List.range n).all fun i => placeB (atP zss i)))) ∧ Below w.heap.size w w' := by
  have hi := indexFunc_any w a n cap zss hn hs
  clear hs
  generalize (!((List.range n).all fun i => placeB (atP zss i))) = V at *
  go_enter Try.func48, Try.ntmps48
  go_wp2_with fail
  refine hi.mono ?_
  clear hi
  rintro e w1 ⟨⟨i, rfl, hb⟩, b1⟩
  go_wp2
  go_ret
  exact ⟨rfl, b1⟩
set_option maxHeartbeats 1000000 in
theorem implPlacesOk_any (w : World) (a : Option Addr) (n cap : Nat) (zss : List (List Int)) (hn : n ≤ maxLen) (hs : SlP w w.heap.size a n zss) :
    Calls Try.prog 18 #[.slice a n cap] w fun e w' => e = .returned (.bool (placesB zss)) ∧ Below w.heap.size w w' := by
  have hx := hs.1
  have hc := containsFunc_any w a n cap zss hn hs
  unfold maxLen at hn
  by_cases h1 : 1 ≤ n
  · by_cases h6 : n ≤ 6
    · have d1 : (1 : Int) ≤ (n : Int) := by omega
      have d6 : (n : Int) ≤ 6 := by omega
      have hV : placesB zss = ((List.range n).all fun i => placeB (atP zss i)) := by simp [placesB, hx, h1, h6]
      rw [hV]
      generalize ((List.range n).all fun i => placeB (atP zss i)) = V at *
      clear hs hV
      go_enter Try.func18, Try.ntmps18
      go_wp2_with fail
      refine hc.mono ?_
      clear hc
      rintro e w1 ⟨rfl, b1⟩
      go_wp2
      go_ret
      exact ⟨by simp, b1⟩
    · have d1 : (1 : Int) ≤ (n : Int) := by omega
      have d6 : decide ((n : Int) ≤ 6) = false := by simp; omega
      have hV : placesB zss = false := by simp [placesB, hx, h6]
      rw [hV]
      clear hs hV hc
      go_enter Try.func18, Try.ntmps18
      go_wp2
      go_ret
      exact ⟨rfl, Below.refl _ _⟩
  · obtain rfl : n = 0 := by omega
    have hV : placesB zss = false := by simp [placesB, hx]
    rw [hV]
    clear hs hV hc
    go_enter Try.func18, Try.ntmps18
    go_wp2
    go_ret
    exact ⟨rfl, Below.refl _ _⟩
set_option maxHeartbeats 1000000 in
theorem hasPlace_any (w : World) (a : Option Addr) (n cap : Nat) (r : Int) (zss : List (List Int)) (hn : n ≤ maxLen) (hs : SlP w w.heap.size a n zss) :
    Calls Try.prog 49 #[.slice a n cap, .int .i64 r] w fun e w' => e = .returned (.bool (regionB zss r)) ∧ Below w.heap.size w w' := by
  have hx := hs.1
  have hc := implPlacesOk_any w a n cap zss hn hs
  unfold maxLen at hn
  clear hs
  cases hp : placesB zss with
  | false =>
    rw [hp] at hc
    have hV : regionB zss r = false := by simp [regionB, hp]
    rw [hV]
    go_enter Try.func49, Try.ntmps49
    go_wp2_with fail
    refine hc.mono ?_
    clear hc
    rintro e w1 ⟨rfl, b1⟩
    go_wp2
    go_ret
    exact ⟨rfl, b1⟩
  | true =>
    rw [hp] at hc
    have hV : regionB zss r = inB 0 ((n : Int) - 1) r := by simp [regionB, hp, hx]
    rw [hV]
    by_cases h0 : 0 ≤ r
    · by_cases h8 : r < (n : Int)
      · rw [inB_yes (by omega) (by omega)]
        go_enter Try.func49, Try.ntmps49
        go_wp2_with fail
        refine hc.mono ?_
        clear hc
        rintro e w1 ⟨rfl, b1⟩
        go_wp2
        go_ret
        exact ⟨rfl, b1⟩
      · have hd : decide (r < (n : Int)) = false := by simp; omega
        have hb : inB 0 ((n : Int) - 1) r = false := by cases h : inB 0 ((n : Int) - 1) r with | false => rfl | true => rw [inB_iff] at h; omega
        rw [hb]
        go_enter Try.func49, Try.ntmps49
        go_wp2_with fail
        refine hc.mono ?_
        clear hc
        rintro e w1 ⟨rfl, b1⟩
        go_wp2
        go_ret
        exact ⟨rfl, b1⟩
    · have hd : decide (0 ≤ r) = false := by simp; omega
      have hb : inB 0 ((n : Int) - 1) r = false := by cases h : inB 0 ((n : Int) - 1) r with | false => rfl | true => rw [inB_iff] at h; omega
      rw [hb]
      go_enter Try.func49, Try.ntmps49
      go_wp2_with fail
      refine hc.mono ?_
      clear hc
      rintro e w1 ⟨rfl, b1⟩
      go_wp2
      go_ret
      exact ⟨rfl, b1⟩
set_option maxHeartbeats 1000000 in
theorem implPrimary_any (w : World) (a : Option Addr) (n cap : Nat) (r : Int) (zss : List (List Int)) (hn : n ≤ maxLen) (hs : SlP w w.heap.size a n zss) :
    Calls Try.prog 19 #[.slice a n cap, .int .i64 r] w fun e w' => e = .returned (.int .i64 (primR zss r)) ∧ Below w.heap.size w w' := by
  go_enter Try.func19, Try.ntmps19
  go_wp2_with fail
  refine (hasPlace_any w a n cap r zss hn hs).mono ?_
  cases hp : regionB zss r with
  | false =>
    rintro e w1 ⟨rfl, b1⟩
    go_wp2
    go_ret
    exact ⟨by simp [primR, hp], b1⟩
  | true =>
    obtain ⟨i, rfl, hi, l1, l2⟩ := region_bd hp
    rintro e w1 ⟨rfl, b1⟩
    obtain ⟨hx, hs⟩ := hs
    unfold maxLen at hn
    rcases hs with hs | ⟨b, off, rfl, hb, h1⟩
    · omega
    · obtain ⟨a', cap', hc, ⟨_, hsn⟩, hcp⟩ := h1 i _ (atP_of hi)
      rcases hsn with hsn | ⟨b', off', rfl, hb', h2⟩
      · omega
      · have c1 := (b1.cell (p := ⟨b, off + i, none⟩) hb).trans hc
        have c2 := (b1.cell (p := ⟨b', off' + 0, none⟩) hb').trans (h2 0 _ (atN_of (by omega)))
        have hin : (i : Int) < (n : Int) := by omega
        have l1' : (0 : Int) < ((atP zss i).length : Int) := by omega
        have HR : Hid (primR zss (i : Int) = atN (atP zss i) 0) := by unfold Hid; simp [primR, hp]
        have B1 : Hid (Below w.heap.size w w1) := b1
        rw [Nat.add_zero] at c2
        clear h1 h2 hc b1 hp
        generalize (atP zss i).length = m at *
        go_wp2
        go_ret
        exact ⟨by rw [HR.out]; rfl, B1.out⟩
set_option maxHeartbeats 1000000 in
theorem implBackups_any (w : World) (a : Option Addr) (n cap : Nat) (r : Int) (zss : List (List Int)) (hn : n ≤ maxLen) (hs : SlP w w.heap.size a n zss) :
    Calls Try.prog 20 #[.slice a n cap, .int .i64 r] w fun e w' => ∃ b cap', e = .returned (.slice b (backL zss r).length cap') ∧ ON w' w.heap.size (.slice b (backL zss r).length cap') (backL zss r) ∧ Below w.heap.size w w' := by
  obtain ⟨L, hL⟩ : ∃ L, backL zss r = L := ⟨_, rfl⟩
  rw [hL]
  go_enter Try.func20, Try.ntmps20
  go_wp2_with fail
  refine (hasPlace_any w a n cap r zss hn hs).mono ?_
  cases hp : regionB zss r with
  | false =>
    rintro e w1 ⟨rfl, b1⟩
    obtain rfl : L = [] := by rw [← hL]; simp [backL, hp]
    go_wp2
    go_ret
    exact ⟨none, 0, rfl, ON.nil _ _, b1⟩
  | true =>
    obtain ⟨i, rfl, hi, l1, l2⟩ := region_bd hp
    rintro e w1 ⟨rfl, b1⟩
    obtain ⟨hx, hs⟩ := hs
    unfold maxLen at hn
    rcases hs with hs | ⟨b, off, rfl, hb, h1⟩
    · omega
    · obtain ⟨a', cap', hc, ⟨_, hsn⟩, hcp⟩ := h1 i _ (atP_of hi)
      rcases hsn with hsn | ⟨b', off', rfl, hb', h2⟩
      · omega
      · have c1 := (b1.cell (p := ⟨b, off + i, none⟩) hb).trans hc
        have hin : (i : Int) < (n : Int) := by omega
        have hLz : L = (atP zss i).drop 1 := by rw [← hL]; simp [backL, hp]
        clear hL
        generalize hzs : atP zss i = zs at *
        have h2' : NumsAt w1 b' off' zs := h2.below b1 hb'
        have hdl : L.length = zs.length - 1 := by rw [hLz]; simp
        obtain ⟨v', W', hr, ho, hg, hl'⟩ := on_append w1 w.heap.size _ [] L b' (if cap' = 1 then off' else off' + 1) (cap' - 1) 28 (ON.nil w1 w.heap.size) (fun j z e => by
          rw [hLz, List.getElem?_drop] at e
          by_cases hc1 : cap' = 1
          · have := (List.getElem?_eq_some_iff.1 e).1; omega
          · rw [if_neg hc1, Nat.add_assoc]; exact h2' (1 + j) z e) (by simp [hdl]; omega) b1.size
        rw [List.nil_append] at ho
        have hb2 : Below w.heap.size w W' := b1.grown hg b1.size (fun k h => by cases h)
        obtain ⟨g, cp, rfl⟩ : ∃ g cp, v' = .slice g L.length cp := by
          rcases ho.form with ⟨rfl, e⟩ | ⟨g, cp, e, _⟩
          · exact ⟨none, 0, by rw [e]; rfl⟩
          · exact ⟨_, cp, e⟩
        have HK : Hid (ON W' w.heap.size (.slice g L.length cp) L ∧ Below w.heap.size w W') := ⟨ho, hb2⟩
        clear h1 h2 h2' hc b1 ho hg hl' hb2 hp hLz
        rw [hdl] at hr
        by_cases hc1 : cap' = 1
        · have hz1 : zs.length = 1 := by omega
          rw [if_pos hc1] at hr
          subst hc1
          rw [hz1] at hr c1
          have d : (1 : Int) ≤ 1 := by omega
          go_wp2_with (at_builtin; refine append_known _ rfl (.const (.slice none 0 0)) (.tmp 14) 28 rfl _ _ _ _ rfl rfl hr ?_)
          go_ret
          exact ⟨g, cp, by rw [hdl]; first | rfl | (rw [hz1]; rfl), HK.out.1, HK.out.2⟩
        · rw [if_neg hc1] at hr
          have d : (1 : Int) ≤ (zs.length : Int) := by omega
          go_wp2_with (at_builtin; refine append_known _ rfl (.const (.slice none 0 0)) (.tmp 14) 28 rfl _ _ _ _ rfl rfl hr ?_)
          go_ret
          exact ⟨g, cp, by rw [hdl]; rfl, HK.out.1, HK.out.2⟩
end Go.Proofs.Ytgohihcpmjfhdaa
