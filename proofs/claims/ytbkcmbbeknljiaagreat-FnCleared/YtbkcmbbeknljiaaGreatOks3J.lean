/- What the program's RecordOk answers at every Record: what the specification's answers. -/
import Derived.Test.YtbkcmbbeknljiaaGreatRows
import Derived.Test.YtbkcmbbeknljiaaGreatOks2J
import Derived.WalkKit
import Derived.WalkSpells
import Derived.WalkLawsBesides
import Derived.Below
import Derived.Lib.QuietBelow
import Derived.BigQuiet
namespace Go.Proofs.YtbkcmbbeknljiaaGreat
open Go.RowKit
open Go.Sort (grow)
set_option maxHeartbeats 2000000 in
theorem implRecordOk_low (w : World) (k t r : Int) (a : Option Addr) (n cap : Nat) (xs : List S5) (hb : inB 1 1000000 t = false ∨ inB 0 5 r = false ∨ ¬ (1 ≤ k ∧ k ≤ 3)) :
    Calls Tryz.prog 61 #[.agg #[.int .i64 k, .int .i64 t, .int .i64 r, .slice a n cap]] w fun e w' => e = .returned (.bool (recB k t r xs)) ∧ Below w.heap.size w w' := by
  have hk : recB k t r xs = false := by
    rcases hb with h | h | h
    · simp [recB, h]
    · simp [recB, h]
    · have : inB 1 3 k = false := by simp [inB]; omega
      simp [recB, this]
  rw [hk]
  clear hk
  by_cases k1 : k < 1
  · clear hb
    go_enter Tryz.func61, Tryz.ntmps61
    go_wp2_with (first | (go_at_call 66; refine (implId _ _).mono ?_; rw [g2]; rintro e w' ⟨rfl, rfl⟩) | (go_at_call 45; refine (implRegion _ _).mono ?_; rw [g3]; rintro e w' ⟨rfl, rfl⟩))
    go_ret
    exact ⟨rfl, (Below.refl _ _).alloc (Nat.le_refl _) _⟩
  · have k1' : decide (k < 1) = false := by simp; omega
    by_cases k2 : 3 < k
    · clear hb
      go_enter Tryz.func61, Tryz.ntmps61
      go_wp2_with (first | (go_at_call 66; refine (implId _ _).mono ?_; rw [g2]; rintro e w' ⟨rfl, rfl⟩) | (go_at_call 45; refine (implRegion _ _).mono ?_; rw [g3]; rintro e w' ⟨rfl, rfl⟩))
      go_ret
      exact ⟨rfl, (Below.refl _ _).alloc (Nat.le_refl _) _⟩
    · have k2' : decide (3 < k) = false := by simp; omega
      have hb2 : inB 1 1000000 t = false ∨ (inB 1 1000000 t = true ∧ inB 0 5 r = false) := by
        cases g2 : inB 1 1000000 t with
        | false => exact .inl rfl
        | true =>
          rcases hb with h | h | h
          · rw [h] at g2; cases g2
          · exact .inr ⟨rfl, h⟩
          · exact absurd ⟨by omega, by omega⟩ h
      clear hb
      rcases hb2 with g2 | ⟨g2, g3⟩
      · skip
        go_enter Tryz.func61, Tryz.ntmps61
        go_wp2_with (first | (go_at_call 66; refine (implId _ _).mono ?_; rw [g2]; rintro e w' ⟨rfl, rfl⟩) | (go_at_call 45; refine (implRegion _ _).mono ?_; rw [g3]; rintro e w' ⟨rfl, rfl⟩))
        go_ret
        exact ⟨rfl, (Below.refl _ _).alloc (Nat.le_refl _) _⟩
      · skip
        go_enter Tryz.func61, Tryz.ntmps61
        go_wp2_with (first | (go_at_call 66; refine (implId _ _).mono ?_; rw [g2]; rintro e w' ⟨rfl, rfl⟩) | (go_at_call 45; refine (implRegion _ _).mono ?_; rw [g3]; rintro e w' ⟨rfl, rfl⟩))
        go_ret
        exact ⟨rfl, (Below.refl _ _).alloc (Nat.le_refl _) _⟩
set_option maxHeartbeats 2000000 in
theorem implRecordOk_len (w : World) (k t r : Int) (a : Option Addr) (n cap : Nat) (xs : List S5) (hx : xs.length = n) (g2 : inB 1 1000000 t = true) (g3 : inB 0 5 r = true) (k1 : 1 ≤ k) (k2 : k ≤ 3) (hl : n < 1 ∨ 12 < n) :
    Calls Tryz.prog 61 #[.agg #[.int .i64 k, .int .i64 t, .int .i64 r, .slice a n cap]] w fun e w' => e = .returned (.bool (recB k t r xs)) ∧ Below w.heap.size w w' := by
  have hk : recB k t r xs = false := by
    rcases hl with h | h
    · simp [recB, hx, show ¬ 1 ≤ n by omega]
    · simp [recB, hx, show ¬ n ≤ 12 by omega]
  rw [hk]
  have k1' : decide (k < 1) = false := by simp; omega
  have k2' : decide (3 < k) = false := by simp; omega
  clear hk hx
  by_cases n1 : n < 1
  · have n1' : (n : Int) < 1 := by omega
    go_enter Tryz.func61, Tryz.ntmps61
    go_wp2_with (first | (go_at_call 66; refine (implId _ _).mono ?_; rw [g2]; rintro e w' ⟨rfl, rfl⟩) | (go_at_call 45; refine (implRegion _ _).mono ?_; rw [g3]; rintro e w' ⟨rfl, rfl⟩))
    go_ret
    exact ⟨rfl, (Below.refl _ _).alloc (Nat.le_refl _) _⟩
  · have n1' : decide ((n : Int) < 1) = false := by simp; omega
    have n2' : (12 : Int) < (n : Int) := by omega
    go_enter Tryz.func61, Tryz.ntmps61
    go_wp2_with (first | (go_at_call 66; refine (implId _ _).mono ?_; rw [g2]; rintro e w' ⟨rfl, rfl⟩) | (go_at_call 45; refine (implRegion _ _).mono ?_; rw [g3]; rintro e w' ⟨rfl, rfl⟩))
    go_ret
    exact ⟨rfl, (Below.refl _ _).alloc (Nat.le_refl _) _⟩
set_option maxHeartbeats 2000000 in
theorem implRecordOk_rest (w : World) (k t r : Int) (b off cap n : Nat) (xs : List S5) (hx : xs.length = n) (hn : n ≤ maxLen) (h1 : SetsAt w b off xs) (hb : b < w.heap.size) (g2 : inB 1 1000000 t = true) (g3 : inB 0 5 r = true) (k1 : 1 ≤ k) (k2 : k ≤ 3) (l1 : 1 ≤ n) (l2 : n ≤ 12) :
    Calls Tryz.prog 61 #[.agg #[.int .i64 k, .int .i64 t, .int .i64 r, .slice (some ⟨b, off, none⟩) n cap]] w fun e w' => e = .returned (.bool (recB k t r xs)) ∧ Below w.heap.size w w' := by
  have hk : recB k t r xs = (riseB xs && sameB r xs) := by simp [recB, hx, inB_yes k1 k2, g2, g3, l1, l2]
  rw [hk]
  have k1' : decide (k < 1) = false := by simp; omega
  have k2' : decide (3 < k) = false := by simp; omega
  have n1' : decide ((n : Int) < 1) = false := by simp; omega
  have n2' : decide ((12 : Int) < (n : Int)) = false := by simp; omega
  have bW : Below w.heap.size w (w.alloc (.cells #[.int .i64 k, .int .i64 t, .int .i64 r, .slice (some ⟨b, off, none⟩) n cap] 41)) := (Below.refl _ _).alloc (Nat.le_refl _) _
  have h1' := h1.below bW hb
  have hb' : b < (w.alloc (.cells #[.int .i64 k, .int .i64 t, .int .i64 r, .slice (some ⟨b, off, none⟩) n cap] 41)).heap.size := Nat.lt_of_lt_of_le hb bW.size
  have H1 : Hid (SetsAt (w.alloc (.cells #[.int .i64 k, .int .i64 t, .int .i64 r, .slice (some ⟨b, off, none⟩) n cap] 41)) b off xs ∧ xs.length = n ∧ Below w.heap.size w (w.alloc (.cells #[.int .i64 k, .int .i64 t, .int .i64 r, .slice (some ⟨b, off, none⟩) n cap] 41)) ∧ b < (w.alloc (.cells #[.int .i64 k, .int .i64 t, .int .i64 r, .slice (some ⟨b, off, none⟩) n cap] 41)).heap.size) := ⟨h1', hx, bW, hb'⟩
  clear hk h1 h1' hx bW hb'
  go_enter Tryz.func61, Tryz.ntmps61
  go_wp2_with (first | (go_at_call 66; refine (implId _ _).mono ?_; rw [g2]; rintro e w' ⟨rfl, rfl⟩) | (go_at_call 45; refine (implRegion _ _).mono ?_; rw [g3]; rintro e w' ⟨rfl, rfl⟩))
  obtain ⟨h1, hx, bW, hb'⟩ := H1.out
  refine (setsRise_some _ b off cap n xs hx hn h1 hb').mono ?_
  have e2 : (w.alloc (.cells #[.int .i64 k, .int .i64 t, .int .i64 r, .slice (some ⟨b, off, none⟩) n cap] 41)).cell? ⟨w.heap.size, 2, none⟩ = some (.int .i64 r) := by go_simp
  have e3 : (w.alloc (.cells #[.int .i64 k, .int .i64 t, .int .i64 r, .slice (some ⟨b, off, none⟩) n cap] 41)).cell? ⟨w.heap.size, 3, none⟩ = some (.slice (some ⟨b, off, none⟩) n cap) := by go_simp
  have hs : w.heap.size < (w.alloc (.cells #[.int .i64 k, .int .i64 t, .int .i64 r, .slice (some ⟨b, off, none⟩) n cap] 41)).heap.size := by simp
  generalize hW : w.alloc (.cells #[.int .i64 k, .int .i64 t, .int .i64 r, .slice (some ⟨b, off, none⟩) n cap] 41) = W at *
  clear hW H1
  rintro e w1 ⟨rfl, b1⟩
  have f2 := (b1.cell (p := ⟨w.heap.size, 2, none⟩) hs).trans e2
  have f3 := (b1.cell (p := ⟨w.heap.size, 3, none⟩) hs).trans e3
  have s1 := h1.below b1 hb'
  have H : Hid (SetsAt w1 b off xs ∧ xs.length = n) := ⟨s1, hx⟩
  clear s1 h1 hx e2 e3
  cases g6 : riseB xs with
  | false =>
    go_wp2
    go_ret
    exact ⟨by simp [g6], bW.trans (b1.mono bW.size)⟩
  | true =>
    go_wp2_with fail
    obtain ⟨s1, hx⟩ := H.out
    refine (containsFunc_some _ w.heap.size r b off cap n xs hx hn s1 (Nat.lt_of_lt_of_le hb' b1.size) f2 (Nat.lt_of_lt_of_le hs b1.size)).mono ?_
    clear s1 hx
    rintro e w2 ⟨rfl, b2⟩
    go_wp2
    go_ret
    exact ⟨ret_bool (by simp [g6]), bW.trans ((b1.trans (b2.mono b1.size)).mono bW.size)⟩
theorem implRecordOk_any (w : World) (k t r : Int) (a : Option Addr) (n cap : Nat) (xs : List S5) (hn : n ≤ maxLen) (hs : Sl w w.heap.size a n xs) :
    Calls Tryz.prog 61 #[.agg #[.int .i64 k, .int .i64 t, .int .i64 r, .slice a n cap]] w fun e w' => e = .returned (.bool (recB k t r xs)) ∧ Below w.heap.size w w' := by
  obtain ⟨h1, h2⟩ := hs
  by_cases hlow : inB 1 1000000 t = false ∨ inB 0 5 r = false ∨ ¬ (1 ≤ k ∧ k ≤ 3)
  · exact implRecordOk_low w k t r a n cap xs hlow
  · simp only [not_or, Bool.not_eq_false, Decidable.not_not] at hlow
    obtain ⟨g2, g3, k1, k2⟩ := hlow
    by_cases hl : n < 1 ∨ 12 < n
    · exact implRecordOk_len w k t r a n cap xs h1 g2 g3 k1 k2 hl
    · rcases h2 with rfl | ⟨b, off, rfl, hb, hx⟩
      · exact absurd (.inl (by omega)) hl
      · exact implRecordOk_rest w k t r b off cap n xs h1 hn hx hb g2 g3 k1 k2 (by omega) (by omega)
end Go.Proofs.YtbkcmbbeknljiaaGreat
