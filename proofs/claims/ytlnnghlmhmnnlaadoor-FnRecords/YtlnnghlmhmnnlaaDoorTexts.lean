/- The numbers that a record is shown by, and its text as their numerals with a blank between each two. -/
import Derived.Test.YtlnnghlmhmnnlaaDoorShows
import Derived.Lib.Join
namespace Go.Proofs.YtlnnghlmhmnnlaaDoor
theorem join_bytes (ws : List (List UInt8)) : Lib.join ((ws.map fun l => ByteArray.mk l.toArray).map (·.data.toList)) (ByteArray.mk #[32]).data.toList = Lib.join ws [32] := by
  have e : (ws.map fun l => ByteArray.mk l.toArray).map (·.data.toList) = ws := by
    induction ws with
    | nil => rfl
    | cons w ws ih => rw [List.map_cons, List.map_cons, ih]
  rw [e]
theorem lens_le {zs : List Int} (hf : ∀ z ∈ zs, i64 z) : Lib.lens (zs.map Lib.itoa) ≤ 20 * zs.length := by
  induction zs with
  | nil => simp [Lib.lens]
  | cons z zs ih =>
    have h1 := itoa_len (hf z (by simp))
    have h2 := ih fun z hz => hf z (by simp [hz])
    simp only [Lib.lens, List.map_cons, List.sum_cons, List.length_cons] at h2 ⊢
    omega
theorem join_len (zs : List Int) (hf : ∀ z ∈ zs, i64 z) : (Lib.join (zs.map Lib.itoa) [32]).length ≤ 21 * zs.length := by
  cases zs with
  | nil => simp [Lib.join_nil]
  | cons z zs =>
    have h1 := itoa_len (hf z (by simp))
    have h2 := lens_le (zs := zs) fun z hz => hf z (by simp [hz])
    rw [List.map_cons, Lib.join_cons, List.length_append, Lib.joinTail_length]
    simp only [List.length_cons, List.length_nil, List.length_map]
    omega
/-- The numbers that a record is shown by. -/
def flagInt (u : Bool) : Int := if u then 1 else 0
def setNums (s : S5) : List Int := [s.slot, s.value, flagInt s.used, s.version]
def recNums (k t r : Int) (xs : List S5) : List Int := [k, t, r, (xs.length : Int)] ++ xs.flatMap setNums
theorem tail_append (sep : List UInt8) (a b : List (List UInt8)) : Lib.joinTail sep (a ++ b) = Lib.joinTail sep a ++ Lib.joinTail sep b := by simp [Lib.joinTail]
theorem flag_text (u : Bool) : [32] ++ Lib.itoa (flagInt u) ++ [32] = flagText u := by
  cases u
  · rw [flagInt, if_neg (by simp), Lib.itoa, if_neg (by omega), show (0 : Int).toNat = 0 from rfl, Lib.decDigits_one (by omega)]; rfl
  · rw [flagInt, if_pos rfl, Lib.itoa, if_neg (by omega), show (1 : Int).toNat = 1 from rfl, Lib.decDigits_one (by omega)]; rfl
theorem set_tail (s : S5) : Lib.joinTail [32] ((setNums s).map Lib.itoa) = setText s := by
  have := flag_text s.used
  simp only [setText, ← this]
  simp [Lib.joinTail, setNums]
theorem sets_tail (xs : List S5) : Lib.joinTail [32] ((xs.flatMap setNums).map Lib.itoa) = xs.flatMap setText := by
  induction xs with
  | nil => rfl
  | cons s xs ih => rw [List.flatMap_cons, List.map_append, tail_append, ih, set_tail, List.flatMap_cons]
theorem rec_join (k t r : Int) (xs : List S5) : Lib.join ((recNums k t r xs).map Lib.itoa) [32] = recText k t r xs := by
  rw [recNums, List.map_append, List.map_cons, List.cons_append, Lib.join_cons, tail_append, sets_tail, recText, headText]
  simp [Lib.joinTail]
theorem recNums_len (k t r : Int) (xs : List S5) : (recNums k t r xs).length = 4 + 4 * xs.length := by
  have : (xs.flatMap setNums).length = 4 * xs.length := by
    induction xs with
    | nil => rfl
    | cons s xs ih => rw [List.flatMap_cons, List.length_append, ih]; simp [setNums]; omega
  simp [recNums, this]; omega
end Go.Proofs.YtlnnghlmhmnnlaaDoor
