/- Of no program: what is read by the program's states, told by the words between blanks. -/
import Derived.Test.YtlnnghlmhmnnlaaDoorWords
namespace Go.Proofs.YtlnnghlmhmnnlaaDoor
/-- The numbers of words, behind those that are read; no more than so many. -/
def readW (most : Nat) : List Int → List (List UInt8) → Option (List Int)
  | ns, [] => some ns
  | ns, w :: ws => if ns.length = most then none else (num w).bind fun v => readW most (ns ++ [v]) ws
/-- At the state 'begin', with 'rest' to be read. -/
def atBegin (most : Nat) (ns : List Int) (rest : List UInt8) : Option (List Int) := readW most ns (splitW rest)
/-- At the state 'digit': d digits that say acc are read. -/
def atDigit (most : Nat) (ns : List Int) (sg acc : Int) (d : Nat) (rest : List UInt8) : Option (List Int) :=
  if rest.head? = some 32 then none else (numD acc d (hd rest)).bind fun v => readW most (ns ++ [sg * v]) (tl rest)
/-- At the state 'end': a number is read. -/
def atEnd (most : Nat) (ns : List Int) (v : Int) : List UInt8 → Option (List Int)
  | [] => some (ns ++ [v])
  | c :: r => if c = 32 then atBegin most (ns ++ [v]) r else none
theorem begin_full {most : Nat} {ns : List Int} (h : ns.length = most) (rest : List UInt8) : atBegin most ns rest = none := by
  rw [atBegin, split_eq, readW, if_pos h]
theorem begin_nil {most : Nat} (ns : List Int) : atBegin most ns [] = none := by
  rw [atBegin, split_eq, readW]
  split
  · rfl
  · rfl
theorem end_of {most : Nat} {ns : List Int} (v : Int) (r : List UInt8) : (if hd r = [] then readW most (ns ++ [v]) (tl r) else none) = atEnd most ns v r := by
  cases r with
  | nil => rfl
  | cons c r =>
    by_cases hc : c = 32
    · subst hc; rw [hd_blank, tl_blank, if_pos rfl, atEnd, if_pos rfl, atBegin]
    · rw [hd_cons hc, if_neg (by simp), atEnd, if_neg hc]
theorem begin_zero {most : Nat} {ns : List Int} (h : ns.length ≠ most) (r : List UInt8) : atBegin most ns (48 :: r) = atEnd most ns 0 r := by
  rw [atBegin, split_eq, readW, if_neg h, hd_cons (by decide), tl_cons (by decide), num, if_neg (by decide), if_pos rfl, ← end_of]
  split
  · rfl
  · rfl
theorem begin_minus_nil {most : Nat} {ns : List Int} : atBegin most ns [45] = none := by
  rw [atBegin, split_eq, readW]
  split
  · rfl
  · rfl
theorem begin_minus_zero {most : Nat} {ns : List Int} (r : List UInt8) : atBegin most ns (45 :: 48 :: r) = none := by
  have hn : num (45 :: 48 :: hd r) = none := by rw [num, if_pos rfl, if_pos (.inr rfl)]
  rw [atBegin, split_eq, readW, hd_cons (by decide), hd_cons (by decide), hn]
  split
  · rfl
  · rfl
theorem map_bind_neg {most : Nat} {ns : List Int} {ws : List (List UInt8)} (o : Option Int) : ((o.map fun v => -v).bind fun v => readW most (ns ++ [v]) ws) = o.bind fun v => readW most (ns ++ [(-1) * v]) ws := by
  cases o with
  | none => rfl
  | some v => simp
theorem begin_minus {most : Nat} {ns : List Int} (h : ns.length ≠ most) {c : UInt8} (hc : c ≠ 48) (r : List UInt8) : atBegin most ns (45 :: c :: r) = atDigit most ns (-1) 0 0 (c :: r) := by
  rw [atBegin, split_eq, readW, if_neg h, hd_cons (by decide), tl_cons (by decide), num, if_pos rfl, atDigit]
  by_cases h32 : c = 32
  · subst h32
    rw [hd_blank, if_pos (.inl rfl)]; rfl
  · rw [if_neg (show ¬ (hd (c :: r) = [] ∨ (hd (c :: r)).head? = some 48) by rw [hd_cons h32]; simp [hc]), if_neg (show ¬ (c :: r).head? = some 32 by simp [h32]), map_bind_neg]
theorem begin_digit {most : Nat} {ns : List Int} (h : ns.length ≠ most) {c : UInt8} (h48 : c ≠ 48) (h45 : c ≠ 45) (r : List UInt8) : atBegin most ns (c :: r) = atDigit most ns 1 0 0 (c :: r) := by
  rw [atBegin, split_eq, readW, if_neg h, atDigit]
  by_cases h32 : c = 32
  · subst h32
    rw [hd_blank]; rfl
  · rw [if_neg (show ¬ (c :: r).head? = some 32 by simp [h32]), hd_cons h32, num, if_neg h45, if_neg h48]
    simp
theorem digit_no {most : Nat} {ns : List Int} {sg acc : Int} {d : Nat} {c : UInt8} (h : isDig c = false ∨ 10 ≤ d) (r : List UInt8) : atDigit most ns sg acc d (c :: r) = none := by
  rw [atDigit]
  by_cases h32 : c = 32
  · rw [if_pos (by rw [h32]; rfl)]
  · rw [if_neg (by simp [h32]), hd_cons h32, numD_no h]; rfl
theorem digit_on {most : Nat} {ns : List Int} {sg acc : Int} {d : Nat} {c c' : UInt8} (hc : isDig c = true) (hd10 : d < 10) (h' : c' ≠ 32) (r : List UInt8) :
    atDigit most ns sg acc d (c :: c' :: r) = atDigit most ns sg (acc * 10 + ((c.toNat : Int) - 48)) (d + 1) (c' :: r) := by
  have h32 : c ≠ 32 := by rintro rfl; simp [isDig] at hc
  rw [atDigit, if_neg (by simp [h32]), hd_cons h32, tl_cons h32, numD_yes hc hd10, atDigit, if_neg (by simp [h'])]
theorem digit_last {most : Nat} {ns : List Int} {sg acc : Int} {d : Nat} {c : UInt8} (hc : isDig c = true) (hd10 : d < 10) {r : List UInt8} (hr : r = [] ∨ r.head? = some 32) :
    atDigit most ns sg acc d (c :: r) = atEnd most ns (sg * (acc * 10 + ((c.toNat : Int) - 48))) r := by
  have h32 : c ≠ 32 := by rintro rfl; simp [isDig] at hc
  have hh : hd r = [] := by
    rcases hr with rfl | h
    · rfl
    · cases r with
      | nil => rfl
      | cons c' r => simp at h; subst h; exact hd_blank r
  rw [atDigit, if_neg (by simp [h32]), hd_cons h32, tl_cons h32, numD_yes hc hd10, hh, numD_nil (by omega), ← end_of, if_pos hh]; rfl
end Go.Proofs.YtlnnghlmhmnnlaaDoor
