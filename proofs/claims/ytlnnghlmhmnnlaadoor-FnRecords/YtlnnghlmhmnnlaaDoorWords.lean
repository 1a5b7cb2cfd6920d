/- Words between blanks, decimal numerals and what they say: of no program. -/
import Derived.Lib.ItoaNum
namespace Go.Proofs.YtlnnghlmhmnnlaaDoor
/-- The words between blanks. -/
def splitW : List UInt8 → List (List UInt8)
  | [] => [[]]
  | c :: cs => if c = 32 then [] :: splitW cs else (c :: (splitW cs).headD []) :: (splitW cs).tail
def hd (l : List UInt8) : List UInt8 := (splitW l).headD []
def tl (l : List UInt8) : List (List UInt8) := (splitW l).tail
theorem split_ne (l : List UInt8) : splitW l ≠ [] := by
  cases l with
  | nil => simp [splitW]
  | cons c cs => unfold splitW; split <;> simp
theorem split_eq (l : List UInt8) : splitW l = hd l :: tl l := by
  unfold hd tl
  cases h : splitW l with
  | nil => exact absurd h (split_ne l)
  | cons w ws => rfl
theorem hd_nil : hd [] = [] := rfl
theorem tl_nil : tl [] = [] := rfl
theorem hd_blank (cs : List UInt8) : hd (32 :: cs) = [] := by simp [hd, splitW]
theorem tl_blank (cs : List UInt8) : tl (32 :: cs) = splitW cs := by simp [tl, splitW]
theorem hd_cons {c : UInt8} (h : c ≠ 32) (cs : List UInt8) : hd (c :: cs) = c :: hd cs := by simp [hd, splitW, h]
theorem tl_cons {c : UInt8} (h : c ≠ 32) (cs : List UInt8) : tl (c :: cs) = tl cs := by simp [tl, splitW, h]
def joinW : List (List UInt8) → List UInt8
  | [] => []
  | [w] => w
  | w :: v :: ws => w ++ 32 :: joinW (v :: ws)
theorem join_cons (w : List UInt8) {ws : List (List UInt8)} (h : ws ≠ []) : joinW (w :: ws) = w ++ 32 :: joinW ws := by
  cases ws with
  | nil => exact absurd rfl h
  | cons v ws => rfl
theorem join_split (l : List UInt8) : joinW (splitW l) = l := by
  induction l with
  | nil => rfl
  | cons c cs ih =>
    rw [split_eq (c :: cs)]
    by_cases h : c = 32
    · subst h
      rw [hd_blank, tl_blank, join_cons _ (split_ne cs), ih]; rfl
    · rw [hd_cons h, tl_cons h]
      rw [split_eq cs] at ih
      cases ht : tl cs with
      | nil => rw [ht] at ih; simp only [joinW] at ih ⊢; rw [ih]
      | cons v ws => rw [ht] at ih; simp only [joinW] at ih ⊢; rw [List.cons_append, ih]
def noBlank (w : List UInt8) : Prop := ∀ c ∈ w, c ≠ 32
theorem hd_word {w : List UInt8} (h : noBlank w) (cs : List UInt8) : hd (w ++ 32 :: cs) = w ∧ tl (w ++ 32 :: cs) = splitW cs := by
  induction w with
  | nil => exact ⟨hd_blank cs, tl_blank cs⟩
  | cons c w ih =>
    have h1 : c ≠ 32 := h c (by simp)
    have h2 := ih fun c hc => h c (by simp [hc])
    rw [List.cons_append, hd_cons h1, tl_cons h1, h2.1, h2.2]
    exact ⟨rfl, rfl⟩
theorem hd_last {w : List UInt8} (h : noBlank w) : hd w = w ∧ tl w = [] := by
  induction w with
  | nil => exact ⟨rfl, rfl⟩
  | cons c w ih =>
    have h1 : c ≠ 32 := h c (by simp)
    have h2 := ih fun c hc => h c (by simp [hc])
    rw [hd_cons h1, tl_cons h1, h2.1, h2.2]
    exact ⟨rfl, rfl⟩
theorem split_join : ∀ {ws : List (List UInt8)}, ws ≠ [] → (∀ w ∈ ws, noBlank w) → splitW (joinW ws) = ws
  | [], h, _ => absurd rfl h
  | [w], _, h => by rw [joinW, split_eq, (hd_last (h w (by simp))).1, (hd_last (h w (by simp))).2]
  | w :: v :: ws, _, h => by
    have e := hd_word (h w (by simp)) (joinW (v :: ws))
    rw [joinW, split_eq, e.1, e.2, split_join (by simp) fun w hw => h w (by simp [hw])]
/-! ### Numbers -/
def isDig (c : UInt8) : Bool := decide (48 ≤ c.toNat) && decide (c.toNat ≤ 57)
def val (acc : Int) (ds : List UInt8) : Int := ds.foldl (fun a c => a * 10 + ((c.toNat : Int) - 48)) acc
/-- What digits say that come behind d digits that say acc: at most ten in all. -/
def numD (acc : Int) (d : Nat) (w : List UInt8) : Option Int := if w.length + d ≤ 10 ∧ w.all isDig = true then some (val acc w) else none
def num : List UInt8 → Option Int
  | [] => none
  | c :: cs => if c = 45 then (if cs = [] ∨ cs.head? = some 48 then none else (numD 0 0 cs).map (fun v => -v)) else if c = 48 then (if cs = [] then some 0 else none) else numD 0 0 (c :: cs)
theorem numD_nil {acc : Int} {d : Nat} (h : d ≤ 10) : numD acc d [] = some acc := by simp [numD, h, val]
theorem numD_yes {acc : Int} {d : Nat} {c : UInt8} (hc : isDig c = true) (_hd : d < 10) (cs : List UInt8) : numD acc d (c :: cs) = numD (acc * 10 + ((c.toNat : Int) - 48)) (d + 1) cs := by
  unfold numD
  have : ((c :: cs).length + d ≤ 10 ∧ (c :: cs).all isDig = true) ↔ (cs.length + (d + 1) ≤ 10 ∧ cs.all isDig = true) := by simp [hc]; omega
  by_cases h : cs.length + (d + 1) ≤ 10 ∧ cs.all isDig = true
  · rw [if_pos (this.2 h), if_pos h]; rfl
  · rw [if_neg (fun e => h (this.1 e)), if_neg h]
theorem numD_no {acc : Int} {d : Nat} {c : UInt8} (h : isDig c = false ∨ 10 ≤ d) (cs : List UInt8) : numD acc d (c :: cs) = none := by
  unfold numD
  rw [if_neg]
  rintro ⟨h1, h2⟩
  rcases h with h | h
  · simp [h] at h2
  · simp at h1; omega
theorem numD_some {acc v : Int} {d : Nat} {w : List UInt8} (h : numD acc d w = some v) : w.length + d ≤ 10 ∧ w.all isDig = true ∧ v = val acc w := by
  unfold numD at h
  split at h
  · rename_i e; exact ⟨e.1, e.2, (Option.some.inj h).symm⟩
  · cases h
theorem step_digits (u x : Nat) (hu : 0 < u) (hx : x < 10) : Lib.decDigits (u * 10 + x) = Lib.decDigits u ++ [UInt8.ofNat (48 + x)] := by
  rw [Lib.decDigits, dif_neg (by omega), show (u * 10 + x) / 10 = u by omega, show (u * 10 + x) % 10 = x by omega]
theorem dig_of {c : UInt8} (h : isDig c = true) : ∃ x, x < 10 ∧ c.toNat = 48 + x ∧ c = UInt8.ofNat (48 + x) := by
  simp [isDig] at h
  refine ⟨c.toNat - 48, by omega, by omega, ?_⟩
  rw [show 48 + (c.toNat - 48) = c.toNat by omega]
  exact (UInt8.ofNat_toNat).symm
/-- Digits behind a number above 0 are its numeral's. -/
theorem val_digits : ∀ (w : List UInt8) (u : Nat), 0 < u → w.all isDig = true → ∃ v : Nat, val (u : Int) w = v ∧ 0 < v ∧ Lib.decDigits v = Lib.decDigits u ++ w
  | [], u, hu, _ => ⟨u, rfl, hu, by simp⟩
  | c :: w, u, hu, h => by
    simp only [List.all_cons, Bool.and_eq_true] at h
    obtain ⟨x, hx, hc, e⟩ := dig_of h.1
    obtain ⟨v, h1, h2, h3⟩ := val_digits w (u * 10 + x) (by omega) h.2
    refine ⟨v, ?_, h2, ?_⟩
    · rw [← h1]
      show val ((u : Int) * 10 + ((c.toNat : Int) - 48)) w = _
      rw [hc]; congr 1; omega
    · rw [h3, step_digits u x hu hx, ← e]; simp
theorem val_first {c : UInt8} {cs : List UInt8} (hc : c ≠ 48) (h : (c :: cs).all isDig = true) : ∃ v : Nat, val 0 (c :: cs) = v ∧ 0 < v ∧ Lib.decDigits v = c :: cs := by
  simp only [List.all_cons, Bool.and_eq_true] at h
  obtain ⟨x, hx, hcx, e⟩ := dig_of h.1
  have hx0 : 0 < x := by
    by_cases e0 : x = 0
    · subst e0; exact absurd e hc
    · omega
  obtain ⟨v, h1, h2, h3⟩ := val_digits cs x hx0 h.2
  refine ⟨v, ?_, h2, ?_⟩
  · rw [← h1]
    show val (0 * 10 + ((c.toNat : Int) - 48)) cs = _
    rw [hcx]; congr 1; omega
  · rw [h3, Lib.decDigits_one hx, ← e]; rfl
theorem num_itoa {w : List UInt8} {v : Int} (h : num w = some v) : w = Lib.itoa v := by
  cases w with
  | nil => cases h
  | cons c cs =>
    simp only [num] at h
    split at h
    · rename_i hc
      subst hc
      split at h
      · cases h
      · rename_i hne
        simp only [not_or] at hne
        cases hn : numD 0 0 cs with
        | none => rw [hn] at h; cases h
        | some u =>
          rw [hn] at h
          simp at h
          obtain ⟨_, h2, h3⟩ := numD_some hn
          cases cs with
          | nil => exact absurd rfl hne.1
          | cons d ds =>
            obtain ⟨z, e1, e2, e3⟩ := val_first (c := d) (cs := ds) (fun e => hne.2 (by rw [e]; rfl)) h2
            rw [e1] at h3
            subst h3 h
            rw [Lib.itoa, if_pos (by omega), show (-(z : Int)).natAbs = z by omega, e3]
    · split at h
      · rename_i hc
        subst hc
        split at h
        · rename_i e
          subst e
          obtain rfl := Option.some.inj h
          rw [Lib.itoa, if_neg (by omega), show (0 : Int).toNat = 0 from rfl, Lib.decDigits_one (by omega)]; rfl
        · cases h
      · rename_i h1 h2
        obtain ⟨_, h3, h4⟩ := numD_some h
        obtain ⟨z, e1, e2, e3⟩ := val_first h2 h3
        rw [e1] at h4
        subst h4
        rw [Lib.itoa, if_neg (by omega), show (z : Int).toNat = z by omega, e3]
end Go.Proofs.YtlnnghlmhmnnlaaDoor
