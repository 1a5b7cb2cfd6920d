/- Plain facts on int64's bitwise or and and, for numbers from 0 on that are far from the ends; no program in sight. -/
import Derived.WalkKit
namespace Go.Proofs.YtcockcdhendplaaGreat
theorem wrap_i64_small (n : Nat) (h : n < 4294967296) : IntKind.i64.wrap (n : Int) = (n : Int) := by
  simp [IntKind.wrap, IntKind.bits, IntKind.signed]; omega
theorem ofInt_i64 (a : Nat) (ha : a < 4294967296) : (BitVec.ofInt 64 (a : Int)).toNat = a := by
  rw [BitVec.ofInt_natCast, BitVec.toNat_ofNat]; exact Nat.mod_eq_of_lt (by omega)
theorem i64_or_nat (a b : Nat) (ha : a < 4294967296) (hb : b < 4294967296) : bits .or .i64 (a : Int) (b : Int) = ((a ||| b : Nat) : Int) := by
  have hx : a ||| b < 2 ^ 32 := Nat.or_lt_two_pow (by omega) (by omega)
  show IntKind.i64.wrap ((BitVec.ofInt 64 (a : Int) ||| BitVec.ofInt 64 (b : Int)).toNat : Int) = _
  rw [BitVec.toNat_or, ofInt_i64 a ha, ofInt_i64 b hb, wrap_i64_small _ (by omega)]
theorem i64_and_nat (a b : Nat) (ha : a < 4294967296) (hb : b < 4294967296) : bits .and .i64 (a : Int) (b : Int) = ((a &&& b : Nat) : Int) := by
  have hx : a &&& b < 2 ^ 32 := Nat.and_lt_two_pow _ (by omega)
  show IntKind.i64.wrap ((BitVec.ofInt 64 (a : Int) &&& BitVec.ofInt 64 (b : Int)).toNat : Int) = _
  rw [BitVec.toNat_and, ofInt_i64 a ha, ofInt_i64 b hb, wrap_i64_small _ (by omega)]
theorem or4_2 (v : Int) (h1 : 0 ≤ v) (h2 : v ≤ 1000000) : bits .or .i64 (v * 4) 2 = v * 4 + 2 := by
  obtain ⟨n, rfl⟩ := Int.eq_ofNat_of_zero_le h1
  have h := i64_or_nat (n * 4) 2 (by omega) (by omega)
  rw [nat_join 2 (n * 4) 2 (by omega) (by omega)] at h
  simpa using h
theorem or4_1 (v : Int) (h1 : 0 ≤ v) (h2 : v ≤ 1000000) : bits .or .i64 (v * 4) 1 = v * 4 + 1 := by
  obtain ⟨n, rfl⟩ := Int.eq_ofNat_of_zero_le h1
  have h := i64_or_nat (n * 4) 1 (by omega) (by omega)
  rw [nat_join 2 (n * 4) 1 (by omega) (by omega)] at h
  simpa using h
theorem or42_1 (v : Int) (h1 : 0 ≤ v) (h2 : v ≤ 1000000) : bits .or .i64 (v * 4 + 2) 1 = v * 4 + 3 := by
  obtain ⟨n, rfl⟩ := Int.eq_ofNat_of_zero_le h1
  have h := i64_or_nat (n * 4 + 2) 1 (by omega) (by omega)
  rw [nat_join 1 (n * 4 + 2) 1 (by omega) (by omega)] at h
  have e : ((n * 4 + 2 + 1 : Nat) : Int) = (n : Int) * 4 + 3 := by omega
  rw [e] at h
  simpa using h
theorem and_2 (x : Int) (h1 : 0 ≤ x) (h2 : x ≤ 4000003) : bits .and .i64 x 2 = x / 2 % 2 * 2 := by
  obtain ⟨n, rfl⟩ := Int.eq_ofNat_of_zero_le h1
  have h := i64_and_nat n 2 (by omega) (by omega)
  rw [show n &&& 2 = n / 2 % 2 * 2 from nat_bit 1 n] at h
  simpa using h
theorem and_1 (x : Int) (h1 : 0 ≤ x) (h2 : x ≤ 4000003) : bits .and .i64 x 1 = x % 2 := by
  obtain ⟨n, rfl⟩ := Int.eq_ofNat_of_zero_le h1
  have h := i64_and_nat n 1 (by omega) (by omega)
  rw [nat_mask1 n] at h
  simpa using h
def usedB (h : Int) : Bool := decide (h / 2 % 2 = 1)
def lockedB (h : Int) : Bool := decide (h % 2 = 1)
theorem used_ne (h : Int) : (h / 2 % 2 * 2 != 0) = usedB h := by
  unfold usedB; rw [Bool.eq_iff_iff]; simp; omega
theorem locked_ne (h : Int) : (h % 2 != 0) = lockedB h := by
  unfold lockedB; rw [Bool.eq_iff_iff]; simp; omega
theorem ret_eqb {a b : Bool} (h : a = b) : Ending.returned (.bool a) = .returned (.bool b) := by rw [h]
theorem ret_int {k : IntKind} {a b : Int} (h : a = b) : Ending.returned (.int k a) = .returned (.int k b) := by rw [h]
def bump (u l : Bool) : Int := (if u then 2 else 0) + (if l then 1 else 0)
theorem bump_cases (u l : Bool) : 0 ≤ bump u l ∧ bump u l ≤ 3 := by cases u <;> cases l <;> simp [bump]
theorem bump_used (v : Int) (u l : Bool) : usedB (v * 4 + bump u l) = u := by
  cases u <;> cases l <;> simp [bump, usedB] <;> omega
theorem bump_locked (v : Int) (u l : Bool) : lockedB (v * 4 + bump u l) = l := by
  cases u <;> cases l <;> simp [bump, lockedB] <;> omega
theorem bump_version (v : Int) (u l : Bool) : (v * 4 + bump u l) / 4 = v := by
  have := bump_cases u l; omega
end Go.Proofs.YtcockcdhendplaaGreat
