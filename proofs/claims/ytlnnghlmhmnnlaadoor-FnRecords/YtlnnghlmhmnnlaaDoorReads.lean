/- Of no program: numerals are read as what they say, and a text that is read is the one of what it says. -/
import Derived.Test.YtlnnghlmhmnnlaaDoorWords
import Derived.Test.YtlnnghlmhmnnlaaDoorTexts
namespace Go.Proofs.YtlnnghlmhmnnlaaDoor
theorem join_eq : ∀ ws : List (List UInt8), Lib.join ws [32] = joinW ws
  | [] => rfl
  | [w] => by rw [Lib.join_one]; rfl
  | w :: v :: ws => by
    have ih := join_eq (v :: ws)
    rw [Lib.join_cons] at ih ⊢
    rw [joinW, ← ih]
    simp [Lib.joinTail]
theorem digit_byte {x : Nat} (h : x < 10) : (UInt8.ofNat (48 + x)).toNat = 48 + x := by
  rw [UInt8.toNat_ofNat']; omega
theorem isDig_of {x : Nat} (h : x < 10) : isDig (UInt8.ofNat (48 + x)) = true := by
  simp only [isDig, digit_byte h, Bool.and_eq_true, decide_eq_true_eq]; omega
theorem dec_all (u : Nat) : (Lib.decDigits u).all isDig = true := by
  induction u using Nat.strongRecOn with
  | _ u ih =>
    rw [Lib.decDigits]
    split
    · rename_i h; rw [List.all_cons, isDig_of h]; rfl
    · rw [List.all_append, ih (u / 10) (by omega), List.all_cons, isDig_of (show u % 10 < 10 by omega)]; rfl
theorem val_append (acc : Int) (a b : List UInt8) : val acc (a ++ b) = val (val acc a) b := by simp [val]
theorem val_dec (u : Nat) : val 0 (Lib.decDigits u) = u := by
  induction u using Nat.strongRecOn with
  | _ u ih =>
    rw [Lib.decDigits]
    split
    · rename_i h
      show (0 : Int) * 10 + (((UInt8.ofNat (48 + u)).toNat : Int) - 48) = u
      rw [digit_byte h]; omega
    · rw [val_append, ih (u / 10) (by omega)]
      show ((u / 10 : Nat) : Int) * 10 + (((UInt8.ofNat (48 + u % 10)).toNat : Int) - 48) = u
      rw [digit_byte (show u % 10 < 10 by omega)]; omega
theorem dec_head (u : Nat) : ∃ c cs, Lib.decDigits u = c :: cs ∧ (0 < u → c ≠ 48) := by
  induction u using Nat.strongRecOn with
  | _ u ih =>
    rw [Lib.decDigits]
    split
    · rename_i h
      refine ⟨_, [], rfl, fun h0 e => ?_⟩
      have := congrArg UInt8.toNat e
      rw [digit_byte h] at this
      have : (48 : UInt8).toNat = 48 := rfl
      omega
    · obtain ⟨c, cs, e, h1⟩ := ih (u / 10) (by omega)
      exact ⟨c, cs ++ [_], by rw [e]; rfl, fun _ => h1 (by omega)⟩
theorem num_of_itoa {v : Int} (h0 : -10000000000 < v) (h1 : v < 10000000000) : num (Lib.itoa v) = some v := by
  unfold Lib.itoa
  split
  · rename_i hv
    obtain ⟨c, cs, e, hc⟩ := dec_head v.natAbs
    have hl := digits_len 9 v.natAbs (by omega)
    have ha := dec_all v.natAbs
    have hvv := val_dec v.natAbs
    rw [e] at hl ha hvv ⊢
    rw [num, if_pos rfl, if_neg (by simp [hc (by omega)]), numD, if_pos ⟨by simpa using hl, ha⟩, hvv]
    simp; omega
  · rename_i hv
    obtain ⟨c, cs, e, hc⟩ := dec_head v.toNat
    have hl := digits_len 9 v.toNat (by omega)
    have ha := dec_all v.toNat
    have hvv := val_dec v.toNat
    by_cases h00 : v = 0
    · subst h00
      rw [show (0 : Int).toNat = 0 from rfl, Lib.decDigits_one (by omega)]; rfl
    · have hc' := hc (by omega)
      have h45 : c ≠ 45 := by
        rintro rfl
        rw [e] at ha
        simp [isDig] at ha
      rw [e] at hl ha hvv ⊢
      rw [num, if_neg h45, if_neg hc', numD, if_pos ⟨by simpa using hl, ha⟩, hvv]
      simp; omega
theorem dig_not_blank {c : UInt8} (h : isDig c = true) : c ≠ 32 := by
  rintro rfl
  simp [isDig] at h
theorem itoa_no_blank (v : Int) : noBlank (Lib.itoa v) := by
  intro c hc
  unfold Lib.itoa at hc
  split at hc
  · rcases List.mem_cons.1 hc with rfl | h
    · decide
    · exact dig_not_blank (List.all_eq_true.1 (dec_all _) c h)
  · exact dig_not_blank (List.all_eq_true.1 (dec_all _) c hc)
/-- The numbers of a text, all of them, or none at all. -/
def numsOf (ws : List (List UInt8)) : Option (List Int) := ws.mapM num
theorem numsOf_itoa : ∀ {ws : List (List UInt8)} {ns : List Int}, numsOf ws = some ns → ws = ns.map Lib.itoa
  | [], ns, h => by cases h; rfl
  | w :: ws, ns, h => by
    simp only [numsOf, List.mapM_cons, Option.bind_eq_bind, Option.bind_eq_some_iff, Option.pure_def, Option.some.injEq] at h
    obtain ⟨v, hv, vs, hvs, rfl⟩ := h
    rw [List.map_cons, ← num_itoa hv, ← numsOf_itoa (ws := ws) (ns := vs) hvs]
/-- A text whose words are all numbers is their numerals with a blank between each two. -/
theorem text_of_nums {bs : List UInt8} {ns : List Int} (h : numsOf (splitW bs) = some ns) : bs = Lib.join (ns.map Lib.itoa) [32] := by
  rw [join_eq, ← numsOf_itoa h, join_split]
/-- Numerals with a blank between each two are read as their numbers. -/
theorem nums_of_text {ns : List Int} (hne : ns ≠ []) (h : ∀ v ∈ ns, -10000000000 < v ∧ v < 10000000000) : numsOf (splitW (Lib.join (ns.map Lib.itoa) [32])) = some ns := by
  rw [join_eq, split_join (by simpa using hne) (fun w hw => by obtain ⟨v, _, rfl⟩ := List.mem_map.1 hw; exact itoa_no_blank v)]
  clear hne
  induction ns with
  | nil => rfl
  | cons v ns ih =>
    have h1 := h v (by simp)
    have h2 := ih fun v hv => h v (by simp [hv])
    simp only [numsOf] at h2 ⊢
    rw [List.map_cons, List.mapM_cons, num_of_itoa h1.1 h1.2, h2]
    rfl
end Go.Proofs.YtlnnghlmhmnnlaaDoor
