/- What the specification's l2Number answers at every word: what num says. -/
import Derived.Test.YtlnnghlmhmnnlaaDoorRows
import Derived.Test.YtlnnghlmhmnnlaaDoorWords
import Derived.WalkKit
import Derived.WalkSpells
import Derived.WalkLawsBesides
import Derived.Below
namespace Go.Proofs.YtlnnghlmhmnnlaaDoor
open Go.RowKit
theorem val_take {ds : List UInt8} {j : Nat} (h : j < ds.length) : val 0 (ds.take (j + 1)) = val 0 (ds.take j) * 10 + ((ds[j].toNat : Int) - 48) := by
  rw [List.take_add_one, List.getElem?_eq_getElem h, val, List.foldl_append]
  rfl
theorem val_bound : ∀ (ds : List UInt8) (acc : Int) (m : Nat), 0 ≤ acc → acc < 10 ^ m → ds.all isDig = true → 0 ≤ val acc ds ∧ val acc ds < 10 ^ (m + ds.length)
  | [], acc, m, h0, h1, _ => ⟨h0, h1⟩
  | c :: cs, acc, m, h0, h1, h => by
    simp only [List.all_cons, Bool.and_eq_true] at h
    obtain ⟨x, hx, hc, _⟩ := dig_of h.1
    have e : ((c.toNat : Int) - 48) = (x : Int) := by omega
    have := val_bound cs (acc * 10 + ((c.toNat : Int) - 48)) (m + 1) (by omega) (by rw [e]; have : (10 : Int) ^ (m + 1) = 10 ^ m * 10 := Int.pow_succ 10 m; omega) h.2
    rw [List.length_cons, show m + (cs.length + 1) = m + 1 + cs.length by omega]
    exact this
theorem val_small {ds : List UInt8} (h : ds.all isDig = true) (hl : ds.length ≤ 10) : 0 ≤ val 0 ds ∧ val 0 ds < 10000000000 := by
  have := val_bound ds 0 0 (by omega) (by simp) h
  refine ⟨this.1, Int.lt_of_lt_of_le this.2 ?_⟩
  have e : (10 : Int) ^ (0 + ds.length) ≤ 10 ^ 10 := by
    have : (10 : Nat) ^ (0 + ds.length) ≤ 10 ^ 10 := Nat.pow_le_pow_right (by omega) (by omega)
    exact_mod_cast this
  exact e
theorem take_dig {ds : List UInt8} {j : Nat} (hj : j < ds.length) (h : (ds.take j).all isDig = true) (hd : isDig ds[j] = true) : (ds.take (j + 1)).all isDig = true := by
  rw [List.take_add_one, List.getElem?_eq_getElem hj, List.all_append, h]
  simp [hd]
theorem not_dig {ds : List UInt8} {j : Nat} (hj : j < ds.length) (hd : isDig ds[j] = false) : ds.all isDig = false := by
  rw [List.all_eq_false]
  exact ⟨ds[j], List.getElem_mem hj, by simp [hd]⟩
theorem num_long {c : UInt8} {cs : List UInt8} (hc : c ≠ 45) (h : 10 < (c :: cs).length) : num (c :: cs) = none := by
  have hn : cs ≠ [] := by rintro rfl; simp at h
  rw [num, if_neg hc]
  split
  · simp_all
  · rw [numD, if_neg (by omega)]
theorem num_nodig {c : UInt8} {cs : List UInt8} (hc : c ≠ 45) (h : (c :: cs).all isDig = false) : num (c :: cs) = none := by
  rw [num, if_neg hc]
  split
  · rename_i e
    subst e
    by_cases hn : cs = []
    · subst hn; simp [isDig] at h
    · simp [hn]
  · rw [numD, if_neg (by rw [h]; simp)]
theorem num_zero {cs : List UInt8} (h : cs ≠ []) : num (48 :: cs) = none := by
  rw [num, if_neg (by decide), if_pos rfl, if_neg h]
theorem num_good {c : UInt8} {cs : List UInt8} (hc : c ≠ 45) (h : c ≠ 48 ∨ cs = []) (h1 : (c :: cs).length ≤ 10) (h2 : (c :: cs).all isDig = true) : num (c :: cs) = some (val 0 (c :: cs)) := by
  rw [num, if_neg hc]
  split
  · rename_i e
    subst e
    rcases h with h | h
    · exact absurd rfl h
    · subst h; rfl
  · rw [numD, if_pos ⟨by simpa using h1, h2⟩]
theorem dig_iff (c : UInt8) : isDig c = true ↔ (48 ≤ (c.toNat : Int) ∧ (c.toNat : Int) ≤ 57) := by simp [isDig]; omega
set_option maxHeartbeats 4000000 in
/-- A word that does not open with a minus. -/
theorem l2Number_plain (w : World) (c : UInt8) (cs : List UInt8) (hc : c ≠ 45) (hl : cs.length ≤ 2000000) :
    Calls Tryd.prog 34 #[.string ⟨(c :: cs).toArray⟩] w fun e w' => e = .returned (.tuple #[.int .i64 ((num (c :: cs)).getD 0), .bool (num (c :: cs)).isSome]) ∧ w' = w := by
  have hc45 : ((c.toNat : Int) == 45) = false := by
    simp only [beq_eq_false_iff_ne, ne_eq]
    intro e
    exact hc (UInt8.toNat_inj.1 (by show c.toNat = 45; omega))
  have hx0 : ((ByteArray.mk (c :: cs).toArray)[0]'(by show 0 < (c :: cs).length; simp)).toNat = c.toNat := rfl
  by_cases h10 : cs.length + 1 ≤ 10
  · have d1 : decide ((cs.length : Int) + 1 < 1) = false := by simp; omega
    have d2 : decide ((10 : Int) < (cs.length : Int) + 1) = false := by simp; omega
    go_enter Tryd.func34, Tryd.ntmps34
    go_wp2
    go_loop [6, 7] (fun v6 v7 => ∃ j : Nat, j ≤ cs.length + 1 ∧ v7 = .int .i64 j ∧ v6 = .int .i64 (val 0 ((c :: cs).take j)) ∧ ((c :: cs).take j).all isDig = true) (fun _ v7 => cs.length + 1 - (intOf v7).toNat)
    case atStart => exact ⟨0, by omega, rfl, rfl, rfl⟩
    case round =>
      obtain ⟨j, hj, rfl, rfl, hall⟩ := hrel
      by_cases hlt : j < cs.length + 1
      · have hlt' : j < (c :: cs).length := by simpa using hlt
        obtain ⟨x, hx⟩ : ∃ x : Nat, x = (c :: cs)[j].toNat := ⟨_, rfl⟩
        have hbyte : ((ByteArray.mk (c :: cs).toArray)[j]'(by show j < (c :: cs).length; exact hlt')).toNat = x := by rw [hx]; rfl
        have hsm := val_small (ds := (c :: cs).take j) hall (by simp; omega)
        have hvt := val_take (ds := c :: cs) hlt'
        rw [← hx] at hvt
        have hx256 : x < 256 := by rw [hx]; exact UInt8.toNat_lt _
        by_cases hdig : 48 ≤ x ∧ x ≤ 57
        · have hd : isDig (c :: cs)[j] = true := by rw [dig_iff, ← hx]; omega
          have H : Hid (val 0 ((c :: cs).take (j + 1)) = val 0 ((c :: cs).take j) * 10 + ((x : Int) - 48) ∧ ((c :: cs).take (j + 1)).all isDig = true) := ⟨hvt, take_dig hlt' hall hd⟩
          have q1 : decide ((x : Int) < 48) = false := by simp; omega
          have q2 : decide ((57 : Int) < (x : Int)) = false := by simp; omega
          generalize hV : val 0 ((c :: cs).take j) = V at *
          clear hvt hall hd hx
          go_wp2
          refine ⟨⟨j + 1, by omega, by simp, by rw [H.out.1], H.out.2⟩, by simp [intOf]; omega⟩
        · have hd : isDig (c :: cs)[j] = false := by
            cases hq : isDig (c :: cs)[j] with
            | false => rfl
            | true => rw [dig_iff, ← hx] at hq; exact absurd ⟨by omega, by omega⟩ hdig
          have hnum := num_nodig hc (not_dig hlt' hd)
          have HN : Hid (num (c :: cs) = none) := hnum
          clear hvt hall hd hx hnum hsm
          by_cases q : x < 48
          · have q1 : (x : Int) < 48 := by omega
            go_wp2
            go_ret2
            exact ⟨by rw [HN.out]; rfl, rfl⟩
          · have q1 : decide ((x : Int) < 48) = false := by simp; omega
            have q2 : (57 : Int) < (x : Int) := by omega
            go_wp2
            go_ret2
            exact ⟨by rw [HN.out]; rfl, rfl⟩
      · have : j = cs.length + 1 := by omega
        subst this
        have htk : (c :: cs).take (cs.length + 1) = c :: cs := List.take_length (l := c :: cs)
        rw [htk] at hall ⊢
        have hsm := val_small (ds := c :: cs) hall (by simpa using h10)
        by_cases h48 : c = 48
        · have e48 : ((c.toNat : Int) == 48) = true := by rw [h48]; rfl
          by_cases hn : cs = []
          · have hnum := num_good hc (.inr hn) (by simpa using h10) hall
            have HN : Hid (num (c :: cs) = some (val 0 (c :: cs))) := hnum
            have hl0 : decide ((1 : Int) < (cs.length : Int) + 1) = false := by rw [hn]; rfl
            have hd : decide (((cs.length + 1 : Nat) : Int) < (cs.length : Int) + 1) = false := by simp
            generalize hV : val 0 (c :: cs) = V at *
            clear hall hnum hV htk hn h48
            go_wp2
            go_ret2
            exact ⟨by rw [HN.out]; rfl, rfl⟩
          · have hnum : num (c :: cs) = none := by rw [h48]; exact num_zero hn
            have HN : Hid (num (c :: cs) = none) := hnum
            have hl0 : (1 : Int) < (cs.length : Int) + 1 := by have : cs.length ≠ 0 := fun e => hn (List.eq_nil_of_length_eq_zero e); omega
            generalize hV : val 0 (c :: cs) = V at *
            clear hall hnum hV htk hn h48
            go_wp2
            go_ret2
            exact ⟨by rw [HN.out]; rfl, rfl⟩
        · have e48 : ((c.toNat : Int) == 48) = false := by
            simp only [beq_eq_false_iff_ne, ne_eq]
            intro e
            exact h48 (UInt8.toNat_inj.1 (by show c.toNat = 48; omega))
          have hnum := num_good hc (.inl h48) (by simpa using h10) hall
          have HN : Hid (num (c :: cs) = some (val 0 (c :: cs))) := hnum
          generalize hV : val 0 (c :: cs) = V at *
          clear hall hnum hV htk
          go_wp2
          go_ret2
          exact ⟨by rw [HN.out]; rfl, rfl⟩
  · have d1 : decide ((cs.length : Int) + 1 < 1) = false := by simp; omega
    have d2 : (10 : Int) < (cs.length : Int) + 1 := by omega
    rw [num_long hc (by rw [List.length_cons]; omega)]
    go_enter Tryd.func34, Tryd.ntmps34
    go_wp2
    go_ret2
    exact ⟨rfl, rfl⟩
theorem numm_none {cs : List UInt8} (h : 10 < cs.length ∨ cs.all isDig = false ∨ cs = [] ∨ cs.head? = some 48) : num (45 :: cs) = none := by
  rw [num, if_pos rfl]
  split
  · rfl
  · rename_i hn
    rw [numD, if_neg, Option.map_none]
    rintro ⟨h1, h2⟩
    rcases h with h | h | h | h
    · omega
    · rw [h] at h2; cases h2
    · exact hn (.inl h)
    · exact hn (.inr h)
theorem numm_good {d : UInt8} {ds : List UInt8} (hd : d ≠ 48) (h1 : (d :: ds).length ≤ 10) (h2 : (d :: ds).all isDig = true) : num (45 :: d :: ds) = some (-(val 0 (d :: ds))) := by
  rw [num, if_pos rfl, if_neg (by simp [hd]), numD, if_pos ⟨by simpa using h1, h2⟩]
  rfl
set_option maxHeartbeats 4000000 in
/-- A word that opens with a minus and goes on. -/
theorem l2Number_minus (w : World) (d : UInt8) (ds : List UInt8) (hl : ds.length ≤ 2000000) :
    Calls Tryd.prog 34 #[.string ⟨(45 :: d :: ds).toArray⟩] w fun e w' => e = .returned (.tuple #[.int .i64 ((num (45 :: d :: ds)).getD 0), .bool (num (45 :: d :: ds)).isSome]) ∧ w' = w := by
  have hx0 : ((ByteArray.mk (45 :: d :: ds).toArray)[0]'(by show 0 < (45 :: d :: ds).length; simp)).toNat = 45 := rfl
  have hx1 : ((ByteArray.mk (45 :: d :: ds).toArray)[1]'(by show 1 < (45 :: d :: ds).length; simp)).toNat = d.toNat := rfl
  by_cases h10 : ds.length + 1 ≤ 10
  · have d1 : decide ((ds.length : Int) + 1 + 1 - 1 < 1) = false := by simp; omega
    have d2 : decide ((10 : Int) < (ds.length : Int) + 1 + 1 - 1) = false := by simp; omega
    have d1' : decide ((ds.length : Int) + 1 < 1) = false := by simp; omega
    have d2' : decide ((10 : Int) < (ds.length : Int) + 1) = false := by simp; omega
    go_enter Tryd.func34, Tryd.ntmps34
    go_wp2
    go_loop [6, 7] (fun v6 v7 => ∃ j : Nat, j ≤ ds.length + 1 ∧ v7 = .int .i64 ((j : Int) + 1) ∧ v6 = .int .i64 (val 0 ((d :: ds).take j)) ∧ ((d :: ds).take j).all isDig = true) (fun _ v7 => ds.length + 3 - (intOf v7).toNat)
    case atStart => exact ⟨0, by omega, rfl, rfl, rfl⟩
    case round =>
      obtain ⟨j, hj, rfl, rfl, hall⟩ := hrel
      by_cases hlt : j < ds.length + 1
      · have hlt' : j < (d :: ds).length := by simpa using hlt
        obtain ⟨x, hx⟩ : ∃ x : Nat, x = (d :: ds)[j].toNat := ⟨_, rfl⟩
        have hbyte : ((ByteArray.mk (45 :: d :: ds).toArray)[j + 1]'(by show j + 1 < (45 :: d :: ds).length; simp at hlt' ⊢; omega)).toNat = x := by rw [hx]; rfl
        have hsm := val_small (ds := (d :: ds).take j) hall (by simp; omega)
        have hvt := val_take (ds := d :: ds) hlt'
        rw [← hx] at hvt
        have hx256 : x < 256 := by rw [hx]; exact UInt8.toNat_lt _
        by_cases hdig : 48 ≤ x ∧ x ≤ 57
        · have hd : isDig (d :: ds)[j] = true := by rw [dig_iff, ← hx]; omega
          have H : Hid (val 0 ((d :: ds).take (j + 1)) = val 0 ((d :: ds).take j) * 10 + ((x : Int) - 48) ∧ ((d :: ds).take (j + 1)).all isDig = true) := ⟨hvt, take_dig hlt' hall hd⟩
          have q1 : decide ((x : Int) < 48) = false := by simp; omega
          have q2 : decide ((57 : Int) < (x : Int)) = false := by simp; omega
          generalize hV : val 0 ((d :: ds).take j) = V at *
          clear hvt hall hd hx
          go_wp2
          refine ⟨⟨j + 1, by omega, by simp, by rw [H.out.1], H.out.2⟩, by simp [intOf]; omega⟩
        · have hd : isDig (d :: ds)[j] = false := by
            cases hq : isDig (d :: ds)[j] with
            | false => rfl
            | true => rw [dig_iff, ← hx] at hq; exact absurd ⟨by omega, by omega⟩ hdig
          have HN : Hid (num (45 :: d :: ds) = none) := numm_none (.inr (.inl (not_dig hlt' hd)))
          clear hvt hall hd hx hsm
          by_cases q : x < 48
          · have q1 : (x : Int) < 48 := by omega
            go_wp2
            go_ret2
            exact ⟨by rw [HN.out]; rfl, rfl⟩
          · have q1 : decide ((x : Int) < 48) = false := by simp; omega
            have q2 : (57 : Int) < (x : Int) := by omega
            go_wp2
            go_ret2
            exact ⟨by rw [HN.out]; rfl, rfl⟩
      · have : j = ds.length + 1 := by omega
        subst this
        have htk : (d :: ds).take (ds.length + 1) = d :: ds := List.take_length (l := d :: ds)
        rw [htk] at hall ⊢
        have hsm := val_small (ds := d :: ds) hall (by simpa using h10)
        by_cases h48 : d = 48
        · have e48 : ((d.toNat : Int) == 48) = true := by rw [h48]; rfl
          have HN : Hid (num (45 :: d :: ds) = none) := numm_none (.inr (.inr (.inr (by rw [h48]; rfl))))
          generalize hV : val 0 (d :: ds) = V at *
          clear hall hV htk h48
          go_wp2
          go_ret2
          exact ⟨by rw [HN.out]; rfl, rfl⟩
        · have e48 : ((d.toNat : Int) == 48) = false := by
            simp only [beq_eq_false_iff_ne, ne_eq]
            intro e
            exact h48 (UInt8.toNat_inj.1 (by show d.toNat = 48; omega))
          have HN : Hid (num (45 :: d :: ds) = some (-(val 0 (d :: ds)))) := numm_good h48 (by simpa using h10) hall
          generalize hV : val 0 (d :: ds) = V at *
          clear hall hV htk
          go_wp2
          go_ret2
          exact ⟨by rw [HN.out]; rfl, rfl⟩
  · have d1 : decide ((ds.length : Int) + 1 < 1) = false := by simp; omega
    have d2 : (10 : Int) < (ds.length : Int) + 1 := by omega
    rw [numm_none (.inl (by rw [List.length_cons]; omega))]
    go_enter Tryd.func34, Tryd.ntmps34
    go_wp2
    go_ret2
    exact ⟨rfl, rfl⟩
theorem l2Number_empty (w : World) : Calls Tryd.prog 34 #[.string ⟨#[]⟩] w fun e w' => e = .returned (.tuple #[.int .i64 0, .bool false]) ∧ w' = w := by
  go_enter Tryd.func34, Tryd.ntmps34
  go_wp2
  go_ret2
  exact ⟨rfl, rfl⟩
theorem l2Number_bare (w : World) : Calls Tryd.prog 34 #[.string ⟨#[45]⟩] w fun e w' => e = .returned (.tuple #[.int .i64 0, .bool false]) ∧ w' = w := by
  go_enter Tryd.func34, Tryd.ntmps34
  go_wp2
  go_ret2
  exact ⟨rfl, rfl⟩
theorem l2Number_any (w : World) (ws : List UInt8) (hl : ws.length ≤ 2000000) :
    Calls Tryd.prog 34 #[.string ⟨ws.toArray⟩] w fun e w' => e = .returned (.tuple #[.int .i64 ((num ws).getD 0), .bool (num ws).isSome]) ∧ w' = w := by
  cases ws with
  | nil => exact l2Number_empty w
  | cons c cs =>
    by_cases hc : c = 45
    · subst hc
      cases cs with
      | nil => exact l2Number_bare w
      | cons d ds => exact l2Number_minus w d ds (by simp at hl; omega)
    · exact l2Number_plain w c cs hc (by simp at hl; omega)
end Go.Proofs.YtlnnghlmhmnnlaaDoor
