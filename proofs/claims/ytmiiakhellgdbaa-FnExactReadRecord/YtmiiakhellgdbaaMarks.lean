/- The law's marks: written into every field of every Set of an answer, and held against what is there. -/
import Derived.Test.YtmiiakhellgdbaaRows
import Derived.Test.YtmiiakhellgdbaaRecs
import Derived.WalkKit
import Derived.WalkSpells
import Derived.WalkLawsBesides
import Derived.Below
namespace Go.Proofs.Ytmiiakhellgdbaa
open Go.RowKit
def markSet (j : Nat) : S5 := ⟨1 + 5 * (j : Int), 1 + 5 * (j : Int) + 1, 1 + 5 * (j : Int) + 1 + 1, (1 + 5 * (j : Int) + 1 + 1 + 1) % 3 == 0, 1 + 5 * (j : Int) + 1 + 1 + 1 + 1⟩
def markSets (n : Nat) : List S5 := (List.range n).map markSet
theorem marks_at {n j : Nat} (h : j < n) : (markSets n)[j]? = some (markSet j) := by simp [markSets, h]
set_option maxHeartbeats 4000000 in
theorem markSetS_some (w : World) (b n cap : Nat) (hn : n ≤ 1000000) (hr : Room w b (n * 5)) :
    Calls Try.prog 73 #[.slice (some ⟨b, 0, none⟩) n cap, .int .i64 1] w fun e w' => e = .returned (.int .i64 (1 + 5 * (n : Int))) ∧ OnlyBlock b w w' ∧ SetsAt w' b 0 (markSets n) := by
  go_enter Try.func73, Try.ntmps73
  go_wp2
  go_loopw [1, 5] (fun v1 v5 wr => ∃ j : Nat, j ≤ n ∧ v5 = .int .i64 j ∧ v1 = .int .i64 (1 + 5 * (j : Int)) ∧ OnlyBlock b w wr ∧ Room wr b (n * 5) ∧ SetsAt wr b 0 ((markSets n).take j)) (fun _ v5 _ => n - (intOf v5).toNat)
  case atStart => exact ⟨0, Nat.zero_le _, rfl, rfl, OnlyBlock.refl _ _, hr, fun i s e => by simp at e⟩
  case round =>
    obtain ⟨j, hj, rfl, rfl, hob, hro, hse⟩ := hrel
    by_cases hlt : j < n
    · obtain ⟨v0, d0, f0⟩ := hro (j * 5) (by omega)
      obtain ⟨v1, d1, f1⟩ := hro (j * 5 + 1) (by omega)
      obtain ⟨v2, d2, f2⟩ := hro (j * 5 + 2) (by omega)
      obtain ⟨v3, d3, f3⟩ := hro (j * 5 + 3) (by omega)
      obtain ⟨v4, d4, f4⟩ := hro (j * 5 + 4) (by omega)
      have K : Hid (OnlyBlock b w wr ∧ Room wr b (n * 5) ∧ SetsAt wr b 0 ((markSets n).take j)) := ⟨hob, hro, hse⟩
      clear hob hro hse hr
      go_wp2
      obtain ⟨hob, hro, hse⟩ := K.out
      refine ⟨⟨j + 1, by omega, by simp, by congr 1, ((((hob.setCell _ _).setCell _ _).setCell _ _).setCell _ _).setCell _ _, ((((hro.set _).set _).set _).set _).set _, hse.put (s := markSet j) (marks_at hlt) hro (by omega)⟩, by simp [intOf]; omega⟩
    · have : j = n := by omega
      subst this
      have hd : decide ((j : Int) < (j : Int)) = false := by simp
      have htk : (markSets j).take j = markSets j := by
        have : (markSets j).length = j := by simp [markSets]
        exact List.take_of_length_le (by omega)
      rw [htk] at hse
      have K : Hid (OnlyBlock b w wr ∧ SetsAt wr b 0 (markSets j)) := ⟨hob, hse⟩
      clear hob hro hse hr htk
      go_wp2
      go_ret
      exact ⟨rfl, K.out.1, K.out.2⟩
theorem markSetS_none (w : World) (a : Option Addr) (cap : Nat) : Calls Try.prog 73 #[.slice a 0 cap, .int .i64 1] w fun e w' => e = .returned (.int .i64 1) ∧ w' = w := by
  go_enter Try.func73, Try.ntmps73
  go_wp2
  go_loop [1, 5] (fun v1 v5 => v1 = .int .i64 1 ∧ v5 = .int .i64 0) (fun _ _ => 0)
  case atStart => exact ⟨rfl, rfl⟩
  case round =>
    obtain ⟨rfl, rfl⟩ := hrel
    go_wp2
    go_ret
    exact ⟨rfl, rfl⟩
theorem heldSetS_none (w : World) (a : Option Addr) (cap : Nat) : Calls Try.prog 74 #[.slice a 0 cap, .int .i64 1] w fun e w' => e = .returned (.int .i64 1) ∧ w' = w := by
  go_enter Try.func74, Try.ntmps74
  go_wp2
  go_loop [1, 5] (fun v1 v5 => v1 = .int .i64 1 ∧ v5 = .int .i64 0) (fun _ _ => 0)
  case atStart => exact ⟨rfl, rfl⟩
  case round =>
    obtain ⟨rfl, rfl⟩ := hrel
    go_wp2
    go_ret
    exact ⟨rfl, rfl⟩
set_option maxHeartbeats 4000000 in
theorem heldSetS_some (w : World) (b n cap : Nat) (hn : n ≤ 1000000) (hs : SetsAt w b 0 (markSets n)) :
    Calls Try.prog 74 #[.slice (some ⟨b, 0, none⟩) n cap, .int .i64 1] w fun e w' => e = .returned (.int .i64 (1 + 5 * (n : Int))) ∧ w' = w := by
  go_enter Try.func74, Try.ntmps74
  go_wp2
  go_loop [1, 5] (fun v1 v5 => ∃ j : Nat, j ≤ n ∧ v5 = .int .i64 j ∧ v1 = .int .i64 (1 + 5 * (j : Int))) (fun _ v5 => n - (intOf v5).toNat)
  case atStart => exact ⟨0, Nat.zero_le _, rfl, rfl⟩
  case round =>
    obtain ⟨j, hj, rfl, rfl⟩ := hrel
    by_cases hlt : j < n
    · obtain ⟨c0, c1, c2, c3, c4⟩ := hs j (markSet j) (marks_at hlt)
      simp only [markSet, Nat.zero_add] at c0 c1 c2 c3 c4
      clear hs
      go_wp2
      exact ⟨⟨j + 1, by omega, by simp, by congr 1⟩, by simp [intOf]; omega⟩
    · have : j = n := by omega
      subst this
      have hd : decide ((j : Int) < (j : Int)) = false := by simp
      clear hs
      go_wp2
      go_ret
      exact ⟨rfl, rfl⟩
set_option maxHeartbeats 2000000 in
theorem markRecord_some (w : World) (k t r : Int) (b n cap : Nat) (hn : n ≤ 1000000) (hr : Room w b (n * 5)) (hb : b < w.heap.size) :
    Calls Try.prog 38 #[.agg #[.int .i64 k, .int .i64 t, .int .i64 r, .slice (some ⟨b, 0, none⟩) n cap], .int .i64 1] w fun e w' => e = .returned (.int .i64 (1 + 5 * (n : Int))) ∧ Below b w w' ∧ (∀ q, q ≠ b → q < w.heap.size → w'.heap[q]? = w.heap[q]?) ∧ SetsAt w' b 0 (markSets n) := by
  go_enter Try.func38, Try.ntmps38
  go_wp2_with fail
  have bW : Below w.heap.size w (w.alloc (.cells #[.int .i64 k, .int .i64 t, .int .i64 r, .slice (some ⟨b, 0, none⟩) n cap] 47)) := (Below.refl _ _).alloc (Nat.le_refl _) _
  refine (markSetS_some _ b n cap hn (hr.alloc hb _)).mono ?_
  rintro e w1 ⟨rfl, ho, hs⟩
  go_wp2
  go_ret
  exact ⟨rfl, (bW.mono (Nat.le_of_lt hb)).trans (ho.below (Nat.le_refl _)), fun q hq hl => (ho.block q hq).trans (bW.block q hl), hs⟩
theorem markRecord_none (w : World) (k t r : Int) (a : Option Addr) (cap : Nat) :
    Calls Try.prog 38 #[.agg #[.int .i64 k, .int .i64 t, .int .i64 r, .slice a 0 cap], .int .i64 1] w fun e w' => e = .returned (.int .i64 1) ∧ Below w.heap.size w w' := by
  go_enter Try.func38, Try.ntmps38
  go_wp2_with (go_at_call 73; refine (markSetS_none _ _ _).mono ?_; rintro e w' ⟨rfl, rfl⟩)
  go_ret
  exact ⟨rfl, (Below.refl _ _).alloc (Nat.le_refl _) _⟩
theorem heldRecord_none (w : World) (k t r : Int) (a : Option Addr) (cap : Nat) :
    Calls Try.prog 39 #[.agg #[.int .i64 k, .int .i64 t, .int .i64 r, .slice a 0 cap], .int .i64 1] w fun e w' => e = .returned (.int .i64 1) ∧ Below w.heap.size w w' := by
  go_enter Try.func39, Try.ntmps39
  go_wp2_with (go_at_call 74; refine (heldSetS_none _ _ _).mono ?_; rintro e w' ⟨rfl, rfl⟩)
  go_ret
  exact ⟨rfl, (Below.refl _ _).alloc (Nat.le_refl _) _⟩
set_option maxHeartbeats 2000000 in
theorem heldRecord_some (w : World) (k t r : Int) (b n cap : Nat) (hn : n ≤ 1000000) (hs : SetsAt w b 0 (markSets n)) (hb : b < w.heap.size) :
    Calls Try.prog 39 #[.agg #[.int .i64 k, .int .i64 t, .int .i64 r, .slice (some ⟨b, 0, none⟩) n cap], .int .i64 1] w fun e w' => e = .returned (.int .i64 (1 + 5 * (n : Int))) ∧ Below w.heap.size w w' := by
  have bW : Below w.heap.size w (w.alloc (.cells #[.int .i64 k, .int .i64 t, .int .i64 r, .slice (some ⟨b, 0, none⟩) n cap] 47)) := (Below.refl _ _).alloc (Nat.le_refl _) _
  have q : decide (1 + 5 * (n : Int) < 0) = false := by simp; omega
  have K : Hid (SetsAt (w.alloc (.cells #[.int .i64 k, .int .i64 t, .int .i64 r, .slice (some ⟨b, 0, none⟩) n cap] 47)) b 0 (markSets n)) := hs.below bW hb
  clear hs
  go_enter Try.func39, Try.ntmps39
  go_wp2_with (go_at_call 74; refine (heldSetS_some _ b n cap hn K.out).mono ?_; rintro e w' ⟨rfl, rfl⟩)
  go_ret
  exact ⟨rfl, bW⟩
end Go.Proofs.Ytmiiakhellgdbaa
