/- What the program's and the specification's Look answer at every row of cells and every slot: one and the same. -/
import Derived.Test.YthadnikhnikceaaRows
import Derived.Test.YthadnikhnikceaaCellOk
import Derived.WalkKit
import Derived.WalkSpells
import Derived.WalkLawsBesides
import Derived.Below
namespace Go.Proofs.Ythadnikhnikceaa
open Go.RowKit
def lookB (xs : List C2) (i : Int) : Bool := cellsB xs && inB 0 5 i && !lockedB (at2 xs i.toNat).head
def lookC (xs : List C2) (i : Int) : C2 := if lookB xs i then at2 xs i.toNat else ⟨0, 0⟩
theorem cells_six {xs : List C2} (h : cellsB xs = true) : xs.length = 6 := by
  simp [cellsB] at h; exact h.1
theorem cells_head {xs : List C2} (h : cellsB xs = true) {i : Nat} (hi : i < 6) : inB 0 4000003 (at2 xs i).head = true := by
  have h6 := cells_six h
  have ha : xs.all cellB = true := by simp only [cellsB, Bool.and_eq_true] at h; exact h.2
  have := List.all_eq_true.1 ha (at2 xs i) (List.mem_of_getElem? (at2_of (by omega)))
  simp only [cellB, Bool.and_eq_true] at this
  exact this.1.1
set_option maxHeartbeats 2000000 in
theorem implLook_any (w : World) (a : Option Addr) (n cap : Nat) (i : Int) (xs : List C2) (hn : n ≤ maxLen) (hs : SlC w w.heap.size a n xs) :
    Calls Try.prog 33 #[.slice a n cap, .int .i64 i] w fun e w' => e = .returned (.tuple #[.agg #[.int .i64 (lookC xs i).head, .int .i64 (lookC xs i).value], .bool (lookB xs i)]) ∧ Below w.heap.size w w' := by
  have S0 : Hid (SlC w w.heap.size a n xs) := hs
  clear hs
  go_enter Try.func33, Try.ntmps33
  go_wp2_with fail
  have e0 : (w.alloc (.cells #[.int .i64 0, .int .i64 0] 32)).cell? ⟨w.heap.size, 0, none⟩ = some (.int .i64 0) := by go_simp
  have e1 : (w.alloc (.cells #[.int .i64 0, .int .i64 0] 32)).cell? ⟨w.heap.size, 1, none⟩ = some (.int .i64 0) := by go_simp
  have ef : ∀ j, (w.alloc (.cells #[.int .i64 0, .int .i64 0] 32)).frozen? ⟨w.heap.size, j, none⟩ = false := by intro j; go_simp
  have zs : w.heap.size < (w.alloc (.cells #[.int .i64 0, .int .i64 0] 32)).heap.size := by simp
  generalize hW : w.alloc (.cells #[.int .i64 0, .int .i64 0] 32) = W at e0 e1 ef zs ⊢
  have bW : Below w.heap.size w W := by subst hW; exact (Below.refl _ _).alloc (Nat.le_refl _) _
  clear hW
  refine (implCellsOk_any W a n cap xs hn (S0.out.later bW)).mono ?_
  rintro e w1 ⟨rfl, b1⟩
  have c0 := (b1.cell (p := ⟨w.heap.size, 0, none⟩) zs).trans e0
  have c1 := (b1.cell (p := ⟨w.heap.size, 1, none⟩) zs).trans e1
  have f0 := (b1.frozen (p := ⟨w.heap.size, 0, none⟩) zs).trans (ef 0)
  have f1 := (b1.frozen (p := ⟨w.heap.size, 1, none⟩) zs).trans (ef 1)
  have B1 : Hid (Below w.heap.size w w1) := bW.trans (b1.mono bW.size)
  clear e0 e1 ef bW b1 zs
  cases g1 : cellsB xs with
  | false =>
    have HB : Hid (lookB xs i = false) := by unfold Hid lookB; rw [g1]; rfl
    have HC : Hid (lookC xs i = ⟨0, 0⟩) := by unfold Hid lookC; rw [HB.out]; rfl
    go_wp2
    refine bodyPost_ret (v := .tuple #[.agg #[.int .i64 0, .int .i64 0], .bool false]) (by simp [results, Try.results33, go_sem, c0, c1]) rfl ⟨by rw [HB.out, HC.out], ?_⟩
    exact (B1.out.setCell (p := ⟨w.heap.size, 0, none⟩) (Nat.le_refl _) _).setCell (p := ⟨w.heap.size, 1, none⟩) (Nat.le_refl _) _
  | true =>
    cases g2 : inB 0 5 i with
    | false =>
      have HB : Hid (lookB xs i = false) := by unfold Hid lookB; rw [g1, g2]; rfl
      have HC : Hid (lookC xs i = ⟨0, 0⟩) := by unfold Hid lookC; rw [HB.out]; rfl
      go_wp2_with (go_at_call 72; refine (implSlot _ _).mono ?_; rw [g2]; rintro e w' ⟨rfl, rfl⟩)
      refine bodyPost_ret (v := .tuple #[.agg #[.int .i64 0, .int .i64 0], .bool false]) (by simp [results, Try.results33, go_sem, c0, c1]) rfl ⟨by rw [HB.out, HC.out], ?_⟩
      exact (B1.out.setCell (p := ⟨w.heap.size, 0, none⟩) (Nat.le_refl _) _).setCell (p := ⟨w.heap.size, 1, none⟩) (Nat.le_refl _) _
    | true =>
      obtain ⟨i0, i5⟩ := inB_iff.1 g2
      obtain ⟨j, rfl⟩ := Int.eq_ofNat_of_zero_le i0
      obtain ⟨hx, hsl⟩ := S0.out
      have h6 := cells_six g1
      have hg := cells_head g1 (i := j) (by omega)
      rcases hsl with h0 | ⟨b, off, rfl, hb, h1⟩
      · omega
      · obtain ⟨d0, d1⟩ := (h1.get (i := j) (by omega)).below B1.out hb
        have hne : b ≠ w.heap.size := by omega
        have hjn : (j : Int) < (n : Int) := by omega
        cases g3 : lockedB (at2 xs j).head with
        | true =>
          have HB : Hid (lookB xs (j : Int) = false) := by unfold Hid lookB; rw [g1, g2, Int.toNat_natCast, g3]; rfl
          have HC : Hid (lookC xs (j : Int) = ⟨0, 0⟩) := by unfold Hid lookC; rw [HB.out]; rfl
          clear hx h6 h1
          go_wp2_with (first | (go_at_call 72; refine (implSlot _ _).mono ?_; rw [g2]; rintro e w' ⟨rfl, rfl⟩) | (go_at_call 18; refine (implLocked_any _ _).mono ?_; rw [hg, g3]; rintro e w' ⟨rfl, rfl⟩))
          refine bodyPost_ret (v := .tuple #[.agg #[.int .i64 0, .int .i64 0], .bool false]) (by simp [results, Try.results33, go_sem, c0, c1]) rfl ⟨by rw [HB.out, HC.out], ?_⟩
          exact (B1.out.setCell (p := ⟨w.heap.size, 0, none⟩) (Nat.le_refl _) _).setCell (p := ⟨w.heap.size, 1, none⟩) (Nat.le_refl _) _
        | false =>
          have HB : Hid (lookB xs (j : Int) = true) := by unfold Hid lookB; rw [g1, g2, Int.toNat_natCast, g3]; rfl
          have HC : Hid (lookC xs (j : Int) = at2 xs j) := by unfold Hid lookC; rw [HB.out, Int.toNat_natCast]; rfl
          clear hx h6 h1
          go_wp2_with (first | (go_at_call 72; refine (implSlot _ _).mono ?_; rw [g2]; rintro e w' ⟨rfl, rfl⟩) | (go_at_call 18; refine (implLocked_any _ _).mono ?_; rw [hg, g3]; rintro e w' ⟨rfl, rfl⟩))
          refine bodyPost_ret (v := .tuple #[.agg #[.int .i64 (at2 xs j).head, .int .i64 (at2 xs j).value], .bool true]) (by simp [results, Try.results33, go_sem, c0, c1]) rfl ⟨by rw [HB.out, HC.out], ?_⟩
          exact (B1.out.setCell (p := ⟨w.heap.size, 0, none⟩) (Nat.le_refl _) _).setCell (p := ⟨w.heap.size, 1, none⟩) (Nat.le_refl _) _
set_option maxHeartbeats 2000000 in
theorem specLook_any (w : World) (a : Option Addr) (n cap : Nat) (i : Int) (xs : List C2) (hn : n ≤ maxLen) (hs : SlC w w.heap.size a n xs) :
    Calls Try.prog 32 #[.slice a n cap, .int .i64 i] w fun e w' => e = .returned (.tuple #[.agg #[.int .i64 (lookC xs i).head, .int .i64 (lookC xs i).value], .bool (lookB xs i)]) ∧ Below w.heap.size w w' := by
  have S0 : Hid (SlC w w.heap.size a n xs) := hs
  clear hs
  go_enter Try.func32, Try.ntmps32
  go_wp2_with fail
  have e0 : (w.alloc (.cells #[.int .i64 0, .int .i64 0] 32)).cell? ⟨w.heap.size, 0, none⟩ = some (.int .i64 0) := by go_simp
  have e1 : (w.alloc (.cells #[.int .i64 0, .int .i64 0] 32)).cell? ⟨w.heap.size, 1, none⟩ = some (.int .i64 0) := by go_simp
  have ef : ∀ j, (w.alloc (.cells #[.int .i64 0, .int .i64 0] 32)).frozen? ⟨w.heap.size, j, none⟩ = false := by intro j; go_simp
  have zs : w.heap.size < (w.alloc (.cells #[.int .i64 0, .int .i64 0] 32)).heap.size := by simp
  generalize hW : w.alloc (.cells #[.int .i64 0, .int .i64 0] 32) = W at e0 e1 ef zs ⊢
  have bW : Below w.heap.size w W := by subst hW; exact (Below.refl _ _).alloc (Nat.le_refl _) _
  clear hW
  refine (specCellsOk_any W a n cap xs hn (S0.out.later bW)).mono ?_
  rintro e w1 ⟨rfl, b1⟩
  have c0 := (b1.cell (p := ⟨w.heap.size, 0, none⟩) zs).trans e0
  have c1 := (b1.cell (p := ⟨w.heap.size, 1, none⟩) zs).trans e1
  have f0 := (b1.frozen (p := ⟨w.heap.size, 0, none⟩) zs).trans (ef 0)
  have f1 := (b1.frozen (p := ⟨w.heap.size, 1, none⟩) zs).trans (ef 1)
  have B1 : Hid (Below w.heap.size w w1) := bW.trans (b1.mono bW.size)
  clear e0 e1 ef bW b1 zs
  cases g1 : cellsB xs with
  | false =>
    have HB : Hid (lookB xs i = false) := by unfold Hid lookB; rw [g1]; rfl
    have HC : Hid (lookC xs i = ⟨0, 0⟩) := by unfold Hid lookC; rw [HB.out]; rfl
    go_wp2
    refine bodyPost_ret (v := .tuple #[.agg #[.int .i64 0, .int .i64 0], .bool false]) (by simp [results, Try.results32, go_sem, c0, c1]) rfl ⟨by rw [HB.out, HC.out], ?_⟩
    exact (B1.out.setCell (p := ⟨w.heap.size, 0, none⟩) (Nat.le_refl _) _).setCell (p := ⟨w.heap.size, 1, none⟩) (Nat.le_refl _) _
  | true =>
    cases g2 : inB 0 5 i with
    | false =>
      have HB : Hid (lookB xs i = false) := by unfold Hid lookB; rw [g1, g2]; rfl
      have HC : Hid (lookC xs i = ⟨0, 0⟩) := by unfold Hid lookC; rw [HB.out]; rfl
      go_wp2_with (go_at_call 71; refine (specSlot _ _).mono ?_; rw [g2]; rintro e w' ⟨rfl, rfl⟩)
      refine bodyPost_ret (v := .tuple #[.agg #[.int .i64 0, .int .i64 0], .bool false]) (by simp [results, Try.results32, go_sem, c0, c1]) rfl ⟨by rw [HB.out, HC.out], ?_⟩
      exact (B1.out.setCell (p := ⟨w.heap.size, 0, none⟩) (Nat.le_refl _) _).setCell (p := ⟨w.heap.size, 1, none⟩) (Nat.le_refl _) _
    | true =>
      obtain ⟨i0, i5⟩ := inB_iff.1 g2
      obtain ⟨j, rfl⟩ := Int.eq_ofNat_of_zero_le i0
      obtain ⟨hx, hsl⟩ := S0.out
      have h6 := cells_six g1
      have hg := cells_head g1 (i := j) (by omega)
      rcases hsl with h0 | ⟨b, off, rfl, hb, h1⟩
      · omega
      · obtain ⟨d0, d1⟩ := (h1.get (i := j) (by omega)).below B1.out hb
        have hne : b ≠ w.heap.size := by omega
        have hjn : (j : Int) < (n : Int) := by omega
        cases g3 : lockedB (at2 xs j).head with
        | true =>
          have HB : Hid (lookB xs (j : Int) = false) := by unfold Hid lookB; rw [g1, g2, Int.toNat_natCast, g3]; rfl
          have HC : Hid (lookC xs (j : Int) = ⟨0, 0⟩) := by unfold Hid lookC; rw [HB.out]; rfl
          clear hx h6 h1
          go_wp2_with (first | (go_at_call 71; refine (specSlot _ _).mono ?_; rw [g2]; rintro e w' ⟨rfl, rfl⟩) | (go_at_call 52; refine (specLocked_any _ _).mono ?_; rw [hg, g3]; rintro e w' ⟨rfl, rfl⟩))
          refine bodyPost_ret (v := .tuple #[.agg #[.int .i64 0, .int .i64 0], .bool false]) (by simp [results, Try.results32, go_sem, c0, c1]) rfl ⟨by rw [HB.out, HC.out], ?_⟩
          exact (B1.out.setCell (p := ⟨w.heap.size, 0, none⟩) (Nat.le_refl _) _).setCell (p := ⟨w.heap.size, 1, none⟩) (Nat.le_refl _) _
        | false =>
          have HB : Hid (lookB xs (j : Int) = true) := by unfold Hid lookB; rw [g1, g2, Int.toNat_natCast, g3]; rfl
          have HC : Hid (lookC xs (j : Int) = at2 xs j) := by unfold Hid lookC; rw [HB.out, Int.toNat_natCast]; rfl
          clear hx h6 h1
          go_wp2_with (first | (go_at_call 71; refine (specSlot _ _).mono ?_; rw [g2]; rintro e w' ⟨rfl, rfl⟩) | (go_at_call 52; refine (specLocked_any _ _).mono ?_; rw [hg, g3]; rintro e w' ⟨rfl, rfl⟩))
          refine bodyPost_ret (v := .tuple #[.agg #[.int .i64 (at2 xs j).head, .int .i64 (at2 xs j).value], .bool true]) (by simp [results, Try.results32, go_sem, c0, c1]) rfl ⟨by rw [HB.out, HC.out], ?_⟩
          exact (B1.out.setCell (p := ⟨w.heap.size, 0, none⟩) (Nat.le_refl _) _).setCell (p := ⟨w.heap.size, 1, none⟩) (Nat.le_refl _) _
end Go.Proofs.Ythadnikhnikceaa
