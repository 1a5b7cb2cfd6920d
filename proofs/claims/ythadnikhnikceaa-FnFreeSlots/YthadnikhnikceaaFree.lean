/- Rows of numbers in memory, the law's own copies and comparisons of them, and what the program's and the specification's FreeSlot answer: one and the same. -/
import Derived.Test.YthadnikhnikceaaRows
import Derived.Test.YthadnikhnikceaaCellOk
import Derived.Test.YthadnikhnikceaaLook
import Derived.WalkKit
import Derived.WalkSpells
import Derived.WalkLawsBesides
import Derived.Below
import Derived.BigQuiet
import Derived.Deep.QuietTactic
namespace Go.Proofs.Ythadnikhnikceaa
open Go.RowKit
def NumsAt (w : World) (b off : Nat) (zs : List Int) : Prop := ∀ i z, zs[i]? = some z → w.cell? ⟨b, off + i, none⟩ = some (.int .i64 z)
theorem NumsAt.below {w w' : World} {B b off : Nat} {zs : List Int} (h : NumsAt w b off zs) (hb : Below B w w') (hB : b < B) : NumsAt w' b off zs := fun i z e => by rw [hb.cell (p := ⟨b, off + i, none⟩) hB]; exact h i z e
/-- The slice (a, n) holds the numbers zs, in a block below B. -/
def SlN (w : World) (B : Nat) (a : Option Addr) (n : Nat) (zs : List Int) : Prop := zs.length = n ∧ (n = 0 ∨ ∃ b off, a = some ⟨b, off, none⟩ ∧ b < B ∧ NumsAt w b off zs)
theorem SlN.later {w w' : World} {a : Option Addr} {n : Nat} {zs : List Int} (h : SlN w w.heap.size a n zs) (hb : Below w.heap.size w w') : SlN w' w'.heap.size a n zs := by
  obtain ⟨h1, h2⟩ := h
  refine ⟨h1, ?_⟩
  rcases h2 with h2 | ⟨b, off, ha, hB, hx⟩
  · exact .inl h2
  · exact .inr ⟨b, off, ha, Nat.lt_of_lt_of_le hB hb.size, hx.below hb hB⟩
def atN (zs : List Int) (i : Nat) : Int := zs[i]?.getD 0
theorem atN_of {zs : List Int} {i : Nat} (h : i < zs.length) : zs[i]? = some (atN zs i) := by simp [atN, List.getElem?_eq_getElem h]
def hasB (zs : List Int) (z : Int) : Bool := zs.any (fun y => decide (y = z))
theorem has_yes {zs : List Int} {z : Int} {i : Nat} (hi : i < zs.length) (h : atN zs i = z) : hasB zs z = true := by
  rw [hasB, List.any_eq_true]
  exact ⟨atN zs i, List.mem_of_getElem? (atN_of hi), by simp [h]⟩
theorem has_no {zs : List Int} {z : Int} (h : ∀ i, i < zs.length → atN zs i ≠ z) : hasB zs z = false := by
  rw [hasB, List.any_eq_false]
  intro y hy
  obtain ⟨i, hi, rfl⟩ := List.getElem_of_mem hy
  have := h i hi
  rw [atN, List.getElem?_eq_getElem hi] at this
  simpa using this
set_option maxHeartbeats 1000000 in
theorem l3Has_any (w : World) (a : Option Addr) (n cap : Nat) (z : Int) (zs : List Int) (hn : n ≤ maxLen) (hs : SlN w w.heap.size a n zs) :
    Calls Try.prog 53 #[.slice a n cap, .int .i64 z] w fun e w' => e = .returned (.bool (hasB zs z)) ∧ w' = w := by
  unfold maxLen at hn
  obtain ⟨hx, hs⟩ := hs
  go_enter Try.func53, Try.ntmps53
  go_wp2
  go_loop [5] (fun v => ∃ k : Nat, k ≤ n ∧ v = .int .i64 k ∧ ∀ i, i < k → atN zs i ≠ z) (fun v => n - (intOf v).toNat)
  case atStart => exact ⟨0, Nat.zero_le _, rfl, fun i h => absurd h (by omega)⟩
  case round =>
    obtain ⟨k, hk, rfl, hall⟩ := hrel
    have K : Hid ((∀ i, i < k → atN zs i ≠ z) ∧ zs.length = n) := ⟨hall, hx⟩
    by_cases hlt : k < n
    · rcases hs with hs | ⟨b, off, rfl, hb, h1⟩
      · omega
      · have c := h1 k _ (atN_of (by omega))
        clear h1 hall hx
        by_cases he : atN zs k = z
        · have q : (atN zs k == z) = true := by simp [he]
          have HE : Hid (atN zs k = z) := he
          clear he
          go_wp2
          go_ret
          exact ⟨by rw [has_yes (by rw [K.out.2]; exact hlt) HE.out]; rfl, rfl⟩
        · have q : (atN zs k == z) = false := by simp [he]
          have HE : Hid (atN zs k ≠ z) := he
          clear he
          go_wp2
          refine ⟨⟨k + 1, by omega, by simp, fun i hi => ?_⟩, by simp [intOf]; omega⟩
          by_cases e : i = k
          · rw [e]; exact HE.out
          · exact K.out.1 i (by omega)
    · have : k = n := by omega
      subst this
      have hd : decide ((k : Int) < (k : Int)) = false := by simp
      clear hall hx hs
      go_wp2
      go_ret
      exact ⟨by rw [has_no (by rw [K.out.2]; exact K.out.1)]; rfl, rfl⟩
set_option maxHeartbeats 1000000 in
theorem index_any (w : World) (a : Option Addr) (n cap : Nat) (z : Int) (zs : List Int) (hn : n ≤ maxLen) (hs : SlN w w.heap.size a n zs) :
    Calls Try.prog 89 #[.slice a n cap, .int .i64 z] w fun e w' => ∃ i : Int, e = .returned (.int .i64 i) ∧ (0 ≤ i ↔ hasB zs z = true) ∧ w' = w := by
  unfold maxLen at hn
  obtain ⟨hx, hs⟩ := hs
  go_enter Try.func89, Try.ntmps89
  go_wp2
  go_loop [8] (fun v => ∃ k : Nat, k ≤ n ∧ v = .int .i64 k ∧ ∀ i, i < k → atN zs i ≠ z) (fun v => n - (intOf v).toNat)
  case atStart => exact ⟨0, Nat.zero_le _, rfl, fun i h => absurd h (by omega)⟩
  case round =>
    obtain ⟨k, hk, rfl, hall⟩ := hrel
    have K : Hid ((∀ i, i < k → atN zs i ≠ z) ∧ zs.length = n) := ⟨hall, hx⟩
    by_cases hlt : k < n
    · rcases hs with hs | ⟨b, off, rfl, hb, h1⟩
      · omega
      · have c := h1 k _ (atN_of (by omega))
        clear h1 hall hx
        by_cases he : atN zs k = z
        · have q : (z == atN zs k) = true := by simp [he]
          have HE : Hid (atN zs k = z) := he
          clear he
          go_wp2
          go_ret
          exact ⟨(k : Int), rfl, by simp [has_yes (by rw [K.out.2]; exact hlt) HE.out], rfl⟩
        · have q : (z == atN zs k) = false := by simp only [beq_eq_false_iff_ne, ne_eq]; exact fun h => he h.symm
          have HE : Hid (atN zs k ≠ z) := he
          clear he
          go_wp2
          refine ⟨⟨k + 1, by omega, by simp, fun i hi => ?_⟩, by simp [intOf]; omega⟩
          by_cases e : i = k
          · rw [e]; exact HE.out
          · exact K.out.1 i (by omega)
    · have : k = n := by omega
      subst this
      have hd : decide ((k : Int) < (k : Int)) = false := by simp
      clear hall hx hs
      go_wp2
      go_ret
      exact ⟨-1, rfl, by simp [has_no (zs := zs) (z := z) (by rw [K.out.2]; exact K.out.1)], rfl⟩
theorem contains_any (w : World) (a : Option Addr) (n cap : Nat) (z : Int) (zs : List Int) (hn : n ≤ maxLen) (hs : SlN w w.heap.size a n zs) :
    Calls Try.prog 50 #[.slice a n cap, .int .i64 z] w fun e w' => e = .returned (.bool (hasB zs z)) ∧ w' = w := by
  go_enter Try.func50, Try.ntmps50
  go_wp2_with fail
  refine (index_any w a n cap z zs hn hs).mono ?_
  rintro e w ⟨i, rfl, hi, rfl⟩
  have HI : Hid (0 ≤ i ↔ hasB zs z = true) := hi
  clear hi hs
  go_wp2
  go_ret
  exact ⟨ret_bool (by rw [decide_eq_true_eq, HI.out]), rfl⟩
/-! ### FreeSlot -/
def freeB (xs : List C2) (zs : List Int) (i : Nat) : Bool := !usedB (at2 xs i).head && !lockedB (at2 xs i).head && !hasB zs (i : Int)
/-- The first of the slots from i on that is free, m of them being left. -/
def freeFrom (xs : List C2) (zs : List Int) : Nat → Nat → Int
  | _, 0 => -1
  | i, m + 1 => if freeB xs zs i = true then (i : Int) else freeFrom xs zs (i + 1) m
def freeR (xs : List C2) (zs : List Int) : Int := if cellsB xs = true then freeFrom xs zs 0 6 else -1
set_option maxHeartbeats 4000000 in
theorem specFreeSlot_any (w : World) (a : Option Addr) (n cap : Nat) (a' : Option Addr) (n' cap' : Nat) (xs : List C2) (zs : List Int) (hn : n ≤ maxLen) (hs : SlC w w.heap.size a n xs) (hn' : n' ≤ maxLen) (hs' : SlN w w.heap.size a' n' zs) :
    Calls Try.prog 15 #[.slice a n cap, .slice a' n' cap'] w fun e w' => e = .returned (.int .i64 (freeR xs zs)) ∧ Below w.heap.size w w' := by
  have S0 : Hid (SlC w w.heap.size a n xs ∧ SlN w w.heap.size a' n' zs) := ⟨hs, hs'⟩
  clear hs hs'
  go_enter Try.func15, Try.ntmps15
  go_wp2_with fail
  refine (specCellsOk_any w a n cap xs hn S0.out.1).mono ?_
  cases g1 : cellsB xs with
  | false =>
    rintro e w1 ⟨rfl, b1⟩
    go_wp2
    go_ret
    exact ⟨by rw [freeR, g1]; rfl, b1⟩
  | true =>
    rintro e w1 ⟨rfl, b1⟩
    have h6 := cells_six g1
    obtain ⟨hx, hsl⟩ := S0.out.1
    have h6n : n = 6 := by omega
    subst h6n
    rcases hsl with h0 | ⟨b, off, rfl, hb, h1⟩
    · omega
    · have K0 : Hid (CellsAt w1 b off xs ∧ SlN w1 w1.heap.size a' n' zs ∧ Below w.heap.size w w1 ∧ cellsB xs = true ∧ xs.length = 6) := ⟨h1.below b1 hb, S0.out.2.later b1, b1, g1, h6⟩
      have hb1 : b < w1.heap.size := Nat.lt_of_lt_of_le hb b1.size
      clear h1 b1 g1 hx h6 hn
      go_wp2
      go_loopw [5] (fun v wr => ∃ k : Nat, k ≤ 6 ∧ v = .int .i64 k ∧ Below w1.heap.size w1 wr ∧ freeR xs zs = freeFrom xs zs k (6 - k)) (fun v _ => 6 - (intOf v).toNat)
      case atStart => exact ⟨0, Nat.zero_le _, rfl, Below.refl _ _, by rw [freeR, K0.out.2.2.2.1]; rfl⟩
      case round =>
        obtain ⟨k, hk, rfl, hbl, hfr⟩ := hrel
        by_cases hlt : k < 6
        · obtain ⟨c0, c1⟩ := (K0.out.1.get (i := k) (by rw [K0.out.2.2.2.2]; exact hlt)).below hbl hb1
          have hg := cells_head K0.out.2.2.2.1 hlt
          have hstep : freeR xs zs = if freeB xs zs k = true then (k : Int) else freeFrom xs zs (k + 1) (6 - (k + 1)) := by rw [hfr, show 6 - k = (6 - (k + 1)) + 1 by omega, freeFrom]
          have K : Hid (Below w1.heap.size w1 wr ∧ SlN wr wr.heap.size a' n' zs ∧ (freeR xs zs = if freeB xs zs k = true then (k : Int) else freeFrom xs zs (k + 1) (6 - (k + 1)))) := ⟨hbl, K0.out.2.1.later hbl, hstep⟩
          have HFB : Hid (freeB xs zs k = (!usedB (at2 xs k).head && !lockedB (at2 xs k).head && !hasB zs (k : Int))) := rfl
          have hlt' : (k : Int) < 6 := by omega
          clear hbl hfr hstep
          generalize at2 xs k = C at c0 c1 hg HFB
          obtain ⟨h, v⟩ := C
          simp only at c0 c1 hg HFB
          cases g2 : usedB h <;> cases g3 : lockedB h <;> cases g4 : hasB zs (k : Int)
          all_goals
            rw [g2, g3, g4] at HFB
            go_wp2_with (first | (go_at_call 51; refine (specUsed_any _ _).mono ?_; rw [hg, g2]; rintro e w' ⟨rfl, rfl⟩) | (go_at_call 52; refine (specLocked_any _ _).mono ?_; rw [hg, g3]; rintro e w' ⟨rfl, rfl⟩) | (go_at_call 53; refine (l3Has_any _ a' n' cap' _ zs hn' (K.out.2.1)).mono ?_; rw [g4]; rintro e w' ⟨rfl, rfl⟩))
          all_goals first
            | (go_ret
               exact ⟨by rw [K.out.2.2, HFB.out]; rfl, K0.out.2.2.1.trans ((K.out.1).mono K0.out.2.2.1.size)⟩)
            | exact ⟨⟨k + 1, by omega, by simp, K.out.1, by rw [K.out.2.2, HFB.out]; rfl⟩, by simp [intOf]; omega⟩
        · have : k = 6 := by omega
          subst this
          have HF : Hid (freeR xs zs = -1) := by unfold Hid; rw [hfr]; rfl
          clear hfr
          go_wp2
          go_ret
          exact ⟨by rw [HF.out]; rfl, K0.out.2.2.1.trans (hbl.mono K0.out.2.2.1.size)⟩
set_option maxHeartbeats 4000000 in
theorem implFreeSlot_any (w : World) (a : Option Addr) (n cap : Nat) (a' : Option Addr) (n' cap' : Nat) (xs : List C2) (zs : List Int) (hn : n ≤ maxLen) (hs : SlC w w.heap.size a n xs) (hn' : n' ≤ maxLen) (hs' : SlN w w.heap.size a' n' zs) :
    Calls Try.prog 14 #[.slice a n cap, .slice a' n' cap'] w fun e w' => e = .returned (.int .i64 (freeR xs zs)) ∧ Below w.heap.size w w' := by
  have S0 : Hid (SlC w w.heap.size a n xs ∧ SlN w w.heap.size a' n' zs) := ⟨hs, hs'⟩
  clear hs hs'
  go_enter Try.func14, Try.ntmps14
  go_wp2_with fail
  refine (implCellsOk_any w a n cap xs hn S0.out.1).mono ?_
  cases g1 : cellsB xs with
  | false =>
    rintro e w1 ⟨rfl, b1⟩
    go_wp2
    go_ret
    exact ⟨by rw [freeR, g1]; rfl, b1⟩
  | true =>
    rintro e w1 ⟨rfl, b1⟩
    have h6 := cells_six g1
    obtain ⟨hx, hsl⟩ := S0.out.1
    have h6n : n = 6 := by omega
    subst h6n
    rcases hsl with h0 | ⟨b, off, rfl, hb, h1⟩
    · omega
    · have K0 : Hid (CellsAt w1 b off xs ∧ SlN w1 w1.heap.size a' n' zs ∧ Below w.heap.size w w1 ∧ cellsB xs = true ∧ xs.length = 6) := ⟨h1.below b1 hb, S0.out.2.later b1, b1, g1, h6⟩
      have hb1 : b < w1.heap.size := Nat.lt_of_lt_of_le hb b1.size
      clear h1 b1 g1 hx h6 hn
      go_wp2
      go_loopw [12] (fun v wr => ∃ k : Nat, k ≤ 6 ∧ v = .int .i64 k ∧ Below w1.heap.size w1 wr ∧ freeR xs zs = freeFrom xs zs k (6 - k)) (fun v _ => 6 - (intOf v).toNat)
      case atStart => exact ⟨0, Nat.zero_le _, rfl, Below.refl _ _, by rw [freeR, K0.out.2.2.2.1]; rfl⟩
      case round =>
        obtain ⟨k, hk, rfl, hbl, hfr⟩ := hrel
        by_cases hlt : k < 6
        · obtain ⟨c0, c1⟩ := (K0.out.1.get (i := k) (by rw [K0.out.2.2.2.2]; exact hlt)).below hbl hb1
          have hg := cells_head K0.out.2.2.2.1 hlt
          have hstep : freeR xs zs = if freeB xs zs k = true then (k : Int) else freeFrom xs zs (k + 1) (6 - (k + 1)) := by rw [hfr, show 6 - k = (6 - (k + 1)) + 1 by omega, freeFrom]
          have K : Hid (Below w1.heap.size w1 wr ∧ SlN wr wr.heap.size a' n' zs ∧ (freeR xs zs = if freeB xs zs k = true then (k : Int) else freeFrom xs zs (k + 1) (6 - (k + 1)))) := ⟨hbl, K0.out.2.1.later hbl, hstep⟩
          have HFB : Hid (freeB xs zs k = (!usedB (at2 xs k).head && !lockedB (at2 xs k).head && !hasB zs (k : Int))) := rfl
          have hlt' : (k : Int) < 6 := by omega
          clear hbl hfr hstep
          generalize at2 xs k = C at c0 c1 hg HFB
          obtain ⟨h, v⟩ := C
          simp only at c0 c1 hg HFB
          cases g2 : usedB h <;> cases g3 : lockedB h <;> cases g4 : hasB zs (k : Int)
          all_goals
            rw [g2, g3, g4] at HFB
            go_wp2_with (first | (go_at_call 17; refine (implUsed_any _ _).mono ?_; rw [hg, g2]; rintro e w' ⟨rfl, rfl⟩) | (go_at_call 18; refine (implLocked_any _ _).mono ?_; rw [hg, g3]; rintro e w' ⟨rfl, rfl⟩) | (go_at_call 50; refine (contains_any _ a' n' cap' _ zs hn' (K.out.2.1.later ((Below.refl _ _).alloc (Nat.le_refl _) _))).mono ?_; rw [g4]; rintro e w' ⟨rfl, rfl⟩))
          all_goals first
            | (go_ret
               exact ⟨by rw [K.out.2.2, HFB.out]; rfl, K0.out.2.2.1.trans ((K.out.1.alloc K.out.1.size _).mono K0.out.2.2.1.size)⟩)
            | exact ⟨⟨k + 1, by omega, by simp, K.out.1.alloc K.out.1.size _, by rw [K.out.2.2, HFB.out]; rfl⟩, by simp [intOf]; omega⟩
        · have : k = 6 := by omega
          subst this
          have HF : Hid (freeR xs zs = -1) := by unfold Hid; rw [hfr]; rfl
          clear hfr
          go_wp2
          go_ret
          exact ⟨by rw [HF.out]; rfl, K0.out.2.2.1.trans (hbl.mono K0.out.2.2.1.size)⟩
set_option maxHeartbeats 1000000 in
theorem make_nums (n : Nat) (hn : n ≤ 1048576) (w : World) : (Instr.makeSlice 25 (.int .i64 (n : Int)) (.int .i64 (n : Int))).run Try.prog w = .ok (.slice (some ⟨w.heap.size, 0, none⟩) n n) (w.alloc (.cells (madeCells #[.int .i64 0] n) 2)) := by
  have info : (Try.prog.info? 2).map (fun i => (i.zero, i.size, i.bytes)) = some (some (.int .i64 0), 1, 8) := by kernel_rfl
  obtain ⟨i, hi, hzz⟩ := Option.map_eq_some_iff.1 info
  simp only [Prod.mk.injEq] at hzz
  obtain ⟨hz, hs, hb⟩ := hzz
  have := run_make (P := Try.prog) w 25 2 i _ Try.underlying25 hi hz .i64 .i64 (n : Int) (n : Int) (by omega) (by omega) (by rw [hb]; omega) (by omega)
  rw [hs] at this
  simpa [Value.cells] using this
theorem NumsAt.put {w : World} {b k : Nat} {zs : List Int} {z : Int} (h : NumsAt w b 0 (zs.take k)) (hz : zs[k]? = some z) {v : Value} (hv : w.cell? ⟨b, k, none⟩ = some v) : NumsAt (w.setCell ⟨b, k, none⟩ (.int .i64 z)) b 0 (zs.take (k + 1)) := by
  intro i t e
  rw [List.getElem?_take] at e
  split at e
  · rename_i hi
    by_cases hik : i = k
    · subst hik
      rw [hz] at e
      obtain rfl := Option.some.inj e
      simpa using cell_set_same hv
    · have := h i t (by rw [List.getElem?_take, if_pos (by omega)]; exact e)
      rw [cell_set_other (by omega)]; exact this
  · cases e
set_option maxHeartbeats 1000000 in
theorem toInt64S_any (w : World) (a : Option Addr) (n cap : Nat) (zs : List Int) (hn : n ≤ 1048576) (hs : SlN w w.heap.size a n zs) : Calls Try.prog 45 #[.slice a n cap] w fun e w' =>
    e = .returned (.slice (some ⟨w.heap.size, 0, none⟩) n n) ∧ Below w.heap.size w w' ∧ w.heap.size < w'.heap.size ∧ NumsAt w' w.heap.size 0 zs := by
  obtain ⟨hx, hs⟩ := hs
  have hmk := make_nums n hn
  go_enter Try.func45, Try.ntmps45
  go_wp2
  go_loopw [4] (fun i wr => ∃ k : Nat, k ≤ n ∧ i = .int .i64 k ∧ Below w.heap.size w wr ∧ w.heap.size < wr.heap.size ∧ Room wr w.heap.size n ∧ NumsAt wr w.heap.size 0 (zs.take k)) (fun i _ => n - (intOf i).toNat)
  case atStart => exact ⟨0, Nat.zero_le _, rfl, (Below.refl _ _).alloc (Nat.le_refl _) _, by simp, room_made _ _ _ _, fun i s e => by simp at e⟩
  case round =>
    obtain ⟨k, hk, rfl, hbl, hsz, hro, hdo⟩ := hrel
    by_cases hlt : k < n
    · rcases hs with hs | ⟨b, off, rfl, hb, h1⟩
      · omega
      · have c := (hbl.cell (p := ⟨b, off + k, none⟩) hb).trans (h1 k _ (atN_of (by omega)))
        obtain ⟨v, d, f⟩ := hro k hlt
        have K : Hid (Room wr w.heap.size n ∧ NumsAt wr w.heap.size 0 (zs.take k) ∧ zs[k]? = some (atN zs k) ∧ Below w.heap.size w wr) := ⟨hro, hdo, atN_of (by omega), hbl⟩
        clear hro hdo hbl hmk h1 hx
        go_wp2
        obtain ⟨hro, hdo, hz, hbl⟩ := K.out
        exact ⟨⟨k + 1, by omega, by simp, hbl.setCell (p := ⟨w.heap.size, k, none⟩) (Nat.le_refl _) _, by simpa [World.setCell] using hsz, hro.set _, hdo.put hz d⟩, by simp [intOf]; omega⟩
    · have : k = n := by omega
      subst this
      have hd : decide (k < k) = false := by simp
      rw [← hx, List.take_length] at hdo
      have K : Hid (NumsAt wr w.heap.size 0 zs) := hdo
      clear hdo hs hro
      go_wp2
      go_ret
      exact ⟨rfl, hbl, hsz, K.out⟩
set_option maxHeartbeats 1000000 in
theorem eqInt64S_any (w : World) (a a' : Option Addr) (n cap cap' : Nat) (zs : List Int) (hn : n ≤ maxLen) (h1 : SlN w w.heap.size a n zs) (h2 : SlN w w.heap.size a' n zs) :
    Calls Try.prog 46 #[.slice a n cap, .slice a' n cap'] w fun e w' => e = .returned (.bool true) ∧ Below w.heap.size w w' := by
  unfold maxLen at hn
  obtain ⟨hx, h1⟩ := h1
  obtain ⟨_, h2⟩ := h2
  go_enter Try.func46, Try.ntmps46
  go_wp2
  go_loopw [5] (fun i wr => ∃ k : Nat, k ≤ n ∧ i = .int .i64 k ∧ Below w.heap.size w wr) (fun i _ => n - (intOf i).toNat)
  case atStart => exact ⟨0, Nat.zero_le _, rfl, Below.refl _ _⟩
  case round =>
    obtain ⟨k, hk, rfl, hbl⟩ := hrel
    by_cases hlt : k < n
    · rcases h1 with h1 | ⟨b, off, rfl, hb, h1⟩
      · omega
      · rcases h2 with h2 | ⟨b', off', rfl, hb', h2⟩
        · omega
        · have c1 := (hbl.cell (p := ⟨b, off + k, none⟩) hb).trans (h1 k _ (atN_of (by omega)))
          have c2 := (hbl.cell (p := ⟨b', off' + k, none⟩) hb').trans (h2 k _ (atN_of (by omega)))
          have hlt' : (k : Int) < (n : Int) := by omega
          have K : Hid (Below w.heap.size w wr) := hbl
          clear h1 h2 hbl hx
          go_wp2_with fail
          go_quiet (fail)
          go_wp2
          exact ⟨⟨k + 1, by omega, by simp, below_drewN K.out _⟩, by simp [intOf]; omega⟩
    · have : k = n := by omega
      subst this
      have hd : decide (k < k) = false := by simp
      clear h1 h2
      go_wp2
      go_ret
      exact ⟨rfl, hbl⟩
end Go.Proofs.Ythadnikhnikceaa
