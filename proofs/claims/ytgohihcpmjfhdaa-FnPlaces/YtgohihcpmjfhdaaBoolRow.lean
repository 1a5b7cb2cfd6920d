/- Rows of bools: the laws' own copies, comparisons and marks. -/
import Derived.Test.YtgohihcpmjfhdaaRows
import Derived.Test.YtgohihcpmjfhdaaRemapA
import Derived.WalkKit
import Derived.WalkSpells
import Derived.WalkLawsBesides
import Derived.Below
import Derived.BigQuiet
import Derived.Deep.QuietTactic
namespace Go.Proofs.Ytgohihcpmjfhdaa
open Go.RowKit
set_option maxHeartbeats 1000000 in
theorem make_bools (n : Nat) (hn : n ≤ 1048576) (w : World) : (Instr.makeSlice 25 (.int .i64 (n : Int)) (.int .i64 (n : Int))).run Try.prog w = .ok (.slice (some ⟨w.heap.size, 0, none⟩) n n) (w.alloc (.cells (madeCells #[.bool false] n) 4)) := by
  have info : (Try.prog.info? 4).map (fun i => (i.zero, i.size, i.bytes)) = some (some (.bool false), 1, 1) := by kernel_rfl
  obtain ⟨i, hi, hzz⟩ := Option.map_eq_some_iff.1 info
  simp only [Prod.mk.injEq] at hzz
  obtain ⟨hz, hs, hb⟩ := hzz
  have := run_make (P := Try.prog) w 25 4 i _ Try.underlying25 hi hz .i64 .i64 (n : Int) (n : Int) (by omega) (by omega) (by rw [hb]; omega) (by omega)
  rw [hs] at this
  simpa [Value.cells] using this
theorem BoolsAt.put {w : World} {b k : Nat} {zs : List Bool} {z : Bool} (h : BoolsAt w b 0 (zs.take k)) (hz : zs[k]? = some z) {v : Value} (hv : w.cell? ⟨b, k, none⟩ = some v) : BoolsAt (w.setCell ⟨b, k, none⟩ (.bool z)) b 0 (zs.take (k + 1)) := by
  intro i t e
  rw [List.getElem?_take] at e
  split at e
  · rename_i hi
    by_cases hik : i = k
    · subst hik
      rw [hz] at e
      obtain rfl := Option.some.inj e
      simpa using cell_set_same hv
    · have := h i t (by rw [List.getElem?_take, if_pos (by omega)]; exact e)
      rw [cell_set_other (by omega)]; exact this
  · cases e
set_option maxHeartbeats 1000000 in
theorem toBoolS_any (w : World) (a : Option Addr) (n cap : Nat) (zs : List Bool) (hn : n ≤ 1048576) (hs : SlB w w.heap.size a n zs) : Calls Try.prog 32 #[.slice a n cap] w fun e w' =>
    e = .returned (.slice (some ⟨w.heap.size, 0, none⟩) n n) ∧ Below w.heap.size w w' ∧ w.heap.size < w'.heap.size ∧ BoolsAt w' w.heap.size 0 zs ∧ Room w' w.heap.size n := by
  obtain ⟨hx, hs⟩ := hs
  have hmk := make_bools n hn
  go_enter Try.func32, Try.ntmps32
  go_wp2
  go_loopw [4] (fun i wr => ∃ k : Nat, k ≤ n ∧ i = .int .i64 k ∧ Below w.heap.size w wr ∧ w.heap.size < wr.heap.size ∧ Room wr w.heap.size n ∧ BoolsAt wr w.heap.size 0 (zs.take k)) (fun i _ => n - (intOf i).toNat)
  case atStart => exact ⟨0, Nat.zero_le _, rfl, (Below.refl _ _).alloc (Nat.le_refl _) _, by simp, room_made _ _ _ _, fun i s e => by simp at e⟩
  case round =>
    obtain ⟨k, hk, rfl, hbl, hsz, hro, hdo⟩ := hrel
    by_cases hlt : k < n
    · rcases hs with hs | ⟨b, off, rfl, hb, h1⟩
      · omega
      · have c := (hbl.cell (p := ⟨b, off + k, none⟩) hb).trans (h1 k _ (atB_of (by omega)))
        obtain ⟨v, d, f⟩ := hro k hlt
        have K : Hid (Room wr w.heap.size n ∧ BoolsAt wr w.heap.size 0 (zs.take k) ∧ zs[k]? = some (atB zs k) ∧ Below w.heap.size w wr) := ⟨hro, hdo, atB_of (by omega), hbl⟩
        clear hro hdo hbl hmk h1 hx
        go_wp2
        obtain ⟨hro, hdo, hz, hbl⟩ := K.out
        exact ⟨⟨k + 1, by omega, by simp, hbl.setCell (p := ⟨w.heap.size, k, none⟩) (Nat.le_refl _) _, by simpa [World.setCell] using hsz, hro.set _, hdo.put hz d⟩, by simp [intOf]; omega⟩
    · have : k = n := by omega
      subst this
      have hd : decide (k < k) = false := by simp
      rw [← hx, List.take_length] at hdo
      have K : Hid (BoolsAt wr w.heap.size 0 zs ∧ Room wr w.heap.size k) := ⟨hdo, hro⟩
      clear hdo hs hro
      go_wp2
      go_ret
      exact ⟨rfl, hbl, hsz, K.out.1, K.out.2⟩
set_option maxHeartbeats 1000000 in
theorem eqBoolS_any (w : World) (a a' : Option Addr) (n cap cap' : Nat) (zs : List Bool) (hn : n ≤ maxLen) (h1 : SlB w w.heap.size a n zs) (h2 : SlB w w.heap.size a' n zs) :
    Calls Try.prog 33 #[.slice a n cap, .slice a' n cap'] w fun e w' => e = .returned (.bool true) ∧ Below w.heap.size w w' := by
  unfold maxLen at hn
  obtain ⟨hx, h1⟩ := h1
  obtain ⟨_, h2⟩ := h2
  go_enter Try.func33, Try.ntmps33
  go_wp2
  go_loopw [5] (fun i wr => ∃ k : Nat, k ≤ n ∧ i = .int .i64 k ∧ Below w.heap.size w wr) (fun i _ => n - (intOf i).toNat)
  case atStart => exact ⟨0, Nat.zero_le _, rfl, Below.refl _ _⟩
  case round =>
    obtain ⟨k, hk, rfl, hbl⟩ := hrel
    by_cases hlt : k < n
    · rcases h1 with h1 | ⟨b, off, rfl, hb, h1⟩
      · omega
      · rcases h2 with h2 | ⟨b', off', rfl, hb', h2⟩
        · omega
        · have c1 := (hbl.cell (p := ⟨b, off + k, none⟩) hb).trans (h1 k _ (atB_of (by omega)))
          have c2 := (hbl.cell (p := ⟨b', off' + k, none⟩) hb').trans (h2 k _ (atB_of (by omega)))
          have hlt' : (k : Int) < (n : Int) := by omega
          have K : Hid (Below w.heap.size w wr) := hbl
          clear h1 h2 hbl hx
          go_wp2_with fail
          go_quiet (fail)
          go_wp2
          exact ⟨⟨k + 1, by omega, by simp, below_dn K.out _⟩, by simp [intOf]; omega⟩
    · have : k = n := by omega
      subst this
      have hd : decide (k < k) = false := by simp
      clear h1 h2
      go_wp2
      go_ret
      exact ⟨rfl, hbl⟩
set_option maxHeartbeats 1000000 in
/-- Marks in a row of bools of the call's own. -/
theorem markBoolS_own (w : World) (g n cap : Nat) (k : Int) (hn : n ≤ 1048576) (hk : 0 ≤ k) (hk' : k ≤ 1000000000) (hr : Room w g n) :
    Calls Try.prog 34 #[.slice (some ⟨g, 0, none⟩) n cap, .int .i64 k] w fun e w' => e = .returned (.int .i64 (k + n)) ∧ OnlyBlock g w w' := by
  go_enter Try.func34, Try.ntmps34
  go_wp2
  go_loopw [1, 5] (fun v1 v5 wr => ∃ j : Nat, j ≤ n ∧ v5 = .int .i64 j ∧ v1 = .int .i64 (k + j) ∧ OnlyBlock g w wr ∧ Room wr g n) (fun _ v5 _ => n - (intOf v5).toNat)
  case atStart => exact ⟨0, Nat.zero_le _, rfl, by simp, OnlyBlock.refl _ _, hr⟩
  case round =>
    obtain ⟨j, hj, rfl, rfl, ho, hro⟩ := hrel
    by_cases hlt : j < n
    · obtain ⟨v, d, f⟩ := hro j hlt
      have K : Hid (OnlyBlock g w wr ∧ Room wr g n) := ⟨ho, hro⟩
      clear ho hro hr
      go_wp2
      obtain ⟨ho, hro⟩ := K.out
      exact ⟨⟨j + 1, by omega, by simp, by simp; omega, ho.setCell _ _, hro.set _⟩, by simp [intOf]; omega⟩
    · have : j = n := by omega
      subst this
      have hd : decide ((j : Int) < (j : Int)) = false := by simp
      have K : Hid (OnlyBlock g w wr) := ho
      clear ho hro hr
      go_wp2
      go_ret
      exact ⟨by simp, K.out⟩
end Go.Proofs.Ytgohihcpmjfhdaa
