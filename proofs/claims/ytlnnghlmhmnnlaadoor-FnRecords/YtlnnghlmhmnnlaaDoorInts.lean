/- The specification's own numeral of a number is the decimal numeral. -/
import Derived.Test.YtlnnghlmhmnnlaaDoorRows
import Derived.WalkKit
import Derived.WalkSpells
import Derived.WalkLawsBesides
import Derived.Below
import Derived.Lib.ItoaNum
import Derived.Laws.IdiomStrings
namespace Go.Proofs.YtlnnghlmhmnnlaaDoor
open Go.RowKit
def strLen : Value → Nat | .string s => s.size | _ => 0
/-- The digits ahead: none of 0. -/
def upper (m : Nat) : List UInt8 := if m = 0 then [] else Lib.decDigits m
theorem decDigits_step (u : Nat) : Lib.decDigits u = upper (u / 10) ++ [UInt8.ofNat (48 + u % 10)] := by
  rw [Lib.decDigits]
  by_cases h : u < 10
  · rw [dif_pos h, upper, if_pos (by omega), show u % 10 = u by omega]; rfl
  · rw [dif_neg h, upper, if_neg (by omega)]
theorem convert_digit (d : Nat) (hd : d < 10) (wr : World) : (convert 22 9 (.slice (some ⟨wr.heap.size, 0, none⟩) 1 1)).run Tryd.prog (wr.alloc (.cells #[.int .u8 (48 + (d : Int))] 5)) = .ok (.string ⟨#[UInt8.ofNat (48 + d)]⟩) (wr.alloc (.cells #[.int .u8 (48 + (d : Int))] 5)) := by
  have := run_convert_bytes_back (P := Tryd.prog) (wr.alloc (.cells #[.int .u8 (48 + (d : Int))] 5)) 22 9 5 ⟨wr.heap.size, 0, none⟩ 1 [UInt8.ofNat (48 + d)] Tryd.underlying22 Tryd.underlying5 Tryd.underlying9 (fun j hj => by
    have : j = 0 := by simpa using hj
    subst this
    simp [Addr.add]; omega)
  simpa using this
theorem pow_room {u k : Nat} (hu : u ≤ 9223372036854775808) (h : u / 10 ^ k ≠ 0) : k < 20 := by
  have h1 : 10 ^ k ≤ u := by
    by_cases e : 10 ^ k ≤ u
    · exact e
    · exact absurd (Nat.div_eq_of_lt (by omega)) h
  by_cases e : k < 20
  · exact e
  · have : 10 ^ 20 ≤ 10 ^ k := Nat.pow_le_pow_right (by omega) (by omega)
    omega
set_option maxHeartbeats 2000000 in
theorem l2Int_any (w : World) (n : Int) (h0 : -9223372036854775808 ≤ n) (h1 : n ≤ 9223372036854775807) : Calls Tryd.prog 44 #[.int .i64 n] w fun e w' => e = .returned (.string ⟨(Lib.itoa n).toArray⟩) ∧ Below w.heap.size w w' := by
  go_enter Tryd.func44, Tryd.ntmps44
  go_wp2
  go_loopw [0, 3] (fun v0 v3 wr => ∃ (m : Int) (l : List UInt8), v0 = .int .i64 m ∧ v3 = .string ⟨l.toArray⟩ ∧ Below w.heap.size w wr ∧ m.natAbs = n.natAbs / 10 ^ l.length ∧ l.length ≤ 20 ∧ (0 ≤ n → 0 ≤ m) ∧ (n < 0 → m ≤ 0) ∧ ((l = [] ∧ m = n) ∨ (l ≠ [] ∧ Lib.decDigits n.natAbs = upper m.natAbs ++ l)))
    (fun v0 v3 _ => (intOf v0).natAbs + (1 - strLen v3))
  case atStart => exact ⟨n, [], rfl, rfl, Below.refl _ _, by simp, by simp, fun h => h, fun h => by omega, .inl ⟨rfl, rfl⟩⟩
  case round =>
    obtain ⟨m, l, rfl, rfl, hbl, hm, hl, hp, hq, hcase⟩ := hrel
    have step : (l = [] ∨ m ≠ 0) → Lib.decDigits n.natAbs = upper (m.natAbs / 10) ++ (UInt8.ofNat (48 + m.natAbs % 10) :: l) := by
      intro hne
      rcases hcase with ⟨rfl, rfl⟩ | ⟨h2, h3⟩
      · exact decDigits_step _
      · rcases hne with h | h
        · exact absurd h h2
        · rw [h3, upper, if_neg (by omega), decDigits_step m.natAbs]; simp
    have hroom : (l = [] ∨ m ≠ 0) → l.length < 20 := by
      intro hne
      rcases hne with rfl | h
      · simp
      · exact pow_room (u := n.natAbs) (by omega) (by omega)
    have hdiv : m.natAbs / 10 = n.natAbs / 10 ^ (l.length + 1) := by rw [hm, Nat.div_div_eq_div_mul, Nat.pow_succ]
    obtain ⟨d, hd⟩ : ∃ d, d = m.natAbs % 10 := ⟨_, rfl⟩
    have hd10 : d < 10 := by omega
    obtain ⟨q, hq0⟩ : ∃ q, q = m.tdiv 10 := ⟨_, rfl⟩
    have hqa : q.natAbs = m.natAbs / 10 := by rw [hq0, Int.natAbs_tdiv]; rfl
    have hcv := convert_digit d hd10
    have K : Hid (Below w.heap.size w wr ∧ (0 ≤ n → 0 ≤ q) ∧ (n < 0 → q ≤ 0) ∧ q.natAbs = n.natAbs / 10 ^ (l.length + 1) ∧ q.natAbs = m.natAbs / 10 ∧ ((l = [] ∨ m ≠ 0) → l.length < 20) ∧ ((l = [] ∨ m ≠ 0) → Lib.decDigits n.natAbs = upper q.natAbs ++ (UInt8.ofNat (48 + d) :: l)) ∧ ((l = [] ∧ m = n) ∨ (l ≠ [] ∧ Lib.decDigits n.natAbs = upper m.natAbs ++ l))) :=
      ⟨hbl, fun h => by rw [hq0]; exact Int.tdiv_nonneg (hp h) (by omega), fun h => by rw [hq0]; have := hq h; have := Int.tdiv_nonneg (a := -m) (b := 10) (by omega) (by omega); rw [Int.neg_tdiv] at this; omega, by rw [hqa, hdiv], hqa, hroom, by rw [hqa, hd]; exact step, hcase⟩
    have hmod : m.tmod 10 = (d : Int) ∨ (m.tmod 10 = -(d : Int) ∧ 0 < d) := by
      by_cases hm0 : 0 ≤ m
      · left
        rw [Int.tmod_eq_emod_of_nonneg hm0]; omega
      · have := Int.neg_tmod (-m) 10
        rw [Int.neg_neg] at this
        rw [this, Int.tmod_eq_emod_of_nonneg (by omega)]; omega
    have hq1 : m.tdiv 10 = q := hq0.symm
    clear hq0 hbl hm hp hq hcase step hroom hdiv hqa hd
    have hqb : -9223372036854775808 ≤ q ∧ q ≤ 9223372036854775807 := by
      have e1 := K.out.2.2.2.2.1
      have e2 := K.out.2.2.2.1
      have : n.natAbs / 10 ^ (l.length + 1) ≤ n.natAbs := Nat.div_le_self _ _
      by_cases hn : 0 ≤ n
      · have := K.out.2.1 hn; omega
      · have := K.out.2.2.1 (by omega); omega
    have HW : Hid (wrap64 q = q) := by unfold Hid; simp only [wrap64]; omega
    have hstr : (ByteArray.mk #[48 + UInt8.ofNat d] ++ ByteArray.mk l.toArray) = ByteArray.mk (UInt8.ofNat (48 + d) :: l).toArray := by
      have e : (48 + UInt8.ofNat d) = UInt8.ofNat (48 + d) := by simp
      rw [e]
      exact ByteArray.mk_append_mk [UInt8.ofNat (48 + d)] l
    have HS : Hid ((ByteArray.mk #[48 + UInt8.ofNat d] ++ ByteArray.mk l.toArray) = ByteArray.mk (UInt8.ofNat (48 + d) :: l).toArray) := hstr
    clear hqb hstr
    by_cases hend : l ≠ [] ∧ m = 0
    · obtain ⟨hln, rfl⟩ := hend
      obtain ⟨c, l, rfl⟩ : ∃ c l', l = c :: l' := by cases l with | nil => exact absurd rfl hln | cons c l => exact ⟨c, l, rfl⟩
      have he : (ByteArray.mk (c :: l).toArray).toList = c :: l := ByteArray.toList_mk _
      simp only [List.length_cons] at hl
      have HD : Hid (Lib.decDigits n.natAbs = c :: l) := by
        rcases K.out.2.2.2.2.2.2.2 with ⟨h, _⟩ | ⟨_, h⟩
        · exact absurd h hln
        · rw [h]; rfl
      clear hmod hq1 hcv hln
      go_wp2
      · rename_i hneg _
        go_ret
        refine ⟨?_, K.out.1⟩
        have e1 : Lib.itoa n = 45 :: c :: l := by rw [Lib.itoa, if_pos (by assumption), HD.out]
        rw [e1]
        exact congrArg (fun b => Ending.returned (Value.string b)) (ByteArray.mk_append_mk [45] (c :: l))
      · go_ret
        refine ⟨?_, K.out.1⟩
        have e1 : Lib.itoa n = c :: l := by rw [Lib.itoa, if_neg (by omega), show n.toNat = n.natAbs by omega, HD.out]
        rw [e1]
        rfl
    · have hne : l = [] ∨ m ≠ 0 := by by_cases e : l = [] <;> simp_all
      have hl20 := K.out.2.2.2.2.2.1 hne
      have HN : Hid (l = [] ∨ m ≠ 0) := hne
      have fin : ∀ wr', Below w.heap.size w wr' → (∃ (m' : Int) (l' : List UInt8), Value.int .i64 q = .int .i64 m' ∧ Value.string (ByteArray.mk #[48 + UInt8.ofNat d] ++ ByteArray.mk l.toArray) = .string ⟨l'.toArray⟩ ∧ Below w.heap.size w wr' ∧ m'.natAbs = n.natAbs / 10 ^ l'.length ∧ l'.length ≤ 20 ∧ (0 ≤ n → 0 ≤ m') ∧ (n < 0 → m' ≤ 0) ∧ ((l' = [] ∧ m' = n) ∨ (l' ≠ [] ∧ Lib.decDigits n.natAbs = upper m'.natAbs ++ l'))) ∧
          (intOf (.int .i64 q)).natAbs + (1 - strLen (.string (ByteArray.mk #[48 + UInt8.ofNat d] ++ ByteArray.mk l.toArray))) < (intOf (.int .i64 m)).natAbs + (1 - strLen (.string ⟨l.toArray⟩)) := by
        intro wr' hb'
        refine ⟨⟨q, UInt8.ofNat (48 + d) :: l, rfl, by rw [HS.out], hb', by simpa using K.out.2.2.2.1, by simp; omega, K.out.2.1, K.out.2.2.1, .inr ⟨by simp, K.out.2.2.2.2.2.2.1 HN.out⟩⟩, ?_⟩
        have e1 := K.out.2.2.2.2.1
        rw [HS.out]
        simp only [intOf, strLen, ByteArray.size_mk', List.size_toArray, List.length_cons]
        rcases HN.out with rfl | h
        · simp; omega
        · omega
      have FIN := fun wr' (h : Below w.heap.size w wr') => (show Hid _ from fin wr' h)
      clear fin hne hend
      have bnew : Below w.heap.size w (wr.alloc (.cells #[.int .u8 (48 + (d : Int))] 5)) := K.out.1.alloc K.out.1.size _
      have F := FIN _ bnew
      clear FIN bnew
      cases l with
      | nil =>
        rcases hmod with hmod | ⟨hmod, hm0⟩
        · go_wp2
          rw [HW.out]
          exact F.out
        · go_wp2
          rw [HW.out]
          exact F.out
      | cons c l =>
        have hmz : m ≠ 0 := by rcases HN.out with h | h; exact absurd h (by simp); exact h
        have he : (ByteArray.mk (c :: l).toArray).toList = c :: l := ByteArray.toList_mk _
        have hmb : (m != 0) = true := by simp [hmz]
        simp only [List.length_cons] at hl20
        rcases hmod with hmod | ⟨hmod, hm0⟩
        · go_wp2
          rw [HW.out]
          exact F.out
        · go_wp2
          rw [HW.out]
          exact F.out
end Go.Proofs.YtlnnghlmhmnnlaaDoor
