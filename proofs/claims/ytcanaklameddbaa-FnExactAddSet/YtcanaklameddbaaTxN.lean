/- A transaction answered in memory of the call's own; NewTx. -/
import Derived.Test.YtcanaklameddbaaRows
import Derived.Test.YtcanaklameddbaaTxR
import Derived.Test.YtcanaklameddbaaTxE
import Derived.WalkKit
import Derived.WalkSpells
import Derived.WalkLawsBesides
import Derived.Below
namespace Go.Proofs.Ytcanaklameddbaa
open Go.RowKit
/-- A transaction, and whether there is one, answered in memory of the call's own. -/
def TAns (w : World) (N : T7) (ok : Bool) (e : Ending) (w' : World) : Prop :=
  ∃ (a : Option Addr) (c : Nat) (h : Option Addr) (d : Nat) (PR PS : Nat → Prop), e = .returned (.tuple #[.agg #[.int .i64 N.id, .int .i64 N.home, .int .i64 N.phase, .int .i64 N.count, .slice a N.reads.length c, .slice h N.sets.length d, .int .i64 N.stamp], .bool ok]) ∧ OT w' w.heap.size ⟨a, c, h, d⟩ N PR PS ∧ Below w.heap.size w w'
def noT : T7 := ⟨0, 0, 0, 0, [], [], 0⟩
theorem OT.none {w : World} {B : Nat} {N : T7} (h1 : N.reads = []) (h2 : N.sets = []) : OT w B ⟨none, 0, none, 0⟩ N (fun _ => False) (fun _ => False) := ⟨.inl h1, .inl h2, fun _ h => h.elim, fun _ h => h.elim, fun _ h => h.elim⟩
theorem TAns.zero {w w' : World} (hb : Below w.heap.size w w') : TAns w noT false (.returned (.tuple #[.agg #[.int .i64 0, .int .i64 0, .int .i64 0, .int .i64 0, .slice none 0 0, .slice none 0 0, .int .i64 0], .bool false])) w' :=
  ⟨none, 0, none, 0, fun _ => False, fun _ => False, rfl, OT.none rfl rfl, hb⟩
def newT (i h : Int) : T7 := if inB 1 1000000 i && inB 0 7 h then ⟨i, h, 1, 0, [], [], 0⟩ else noT
def newB (i h : Int) : Bool := inB 1 1000000 i && inB 0 7 h
set_option maxHeartbeats 1000000 in
theorem specNewTx_any (w : World) (i h : Int) : Calls Try.prog 79 #[.int .i64 i, .int .i64 h] w (TAns w (newT i h) (newB i h)) := by
  have b0 : Hid (∀ o, Below w.heap.size w (w.alloc o)) := fun o => (Below.refl _ _).alloc (Nat.le_refl _) _
  cases h1 : inB 1 1000000 i with
  | false =>
    have e1 : newT i h = noT := by simp [newT, h1]
    have e2 : newB i h = false := by simp [newB, h1]
    rw [e1, e2]
    go_enter Try.func79, Try.ntmps79
    go_wp2_with (first | (go_at_call 88; refine (specId_e _ _).mono ?_; rintro e w' ⟨rfl, rfl⟩) | (go_at_call 89; refine (specMachine_e _ _).mono ?_; rintro e w' ⟨rfl, rfl⟩))
    refine bodyPost_ret (v := .tuple #[.agg #[.int .i64 0, .int .i64 0, .int .i64 0, .int .i64 0, .slice none 0 0, .slice none 0 0, .int .i64 0], .bool false]) (by simp [results, Try.results79, go_sem]) rfl ?_
    exact TAns.zero (b0.out _)
  | true =>
    cases h2 : inB 0 7 h with
    | false =>
      have e1 : newT i h = noT := by simp [newT, h2]
      have e2 : newB i h = false := by simp [newB, h2]
      rw [e1, e2]
      go_enter Try.func79, Try.ntmps79
      go_wp2_with (first | (go_at_call 88; refine (specId_e _ _).mono ?_; rintro e w' ⟨rfl, rfl⟩) | (go_at_call 89; refine (specMachine_e _ _).mono ?_; rintro e w' ⟨rfl, rfl⟩))
      refine bodyPost_ret (v := .tuple #[.agg #[.int .i64 0, .int .i64 0, .int .i64 0, .int .i64 0, .slice none 0 0, .slice none 0 0, .int .i64 0], .bool false]) (by simp [results, Try.results79, go_sem]) rfl ?_
      exact TAns.zero (b0.out _)
    | true =>
      have e1 : newT i h = ⟨i, h, 1, 0, [], [], 0⟩ := by simp [newT, h1, h2]
      have e2 : newB i h = true := by simp [newB, h1, h2]
      rw [e1, e2]
      go_enter Try.func79, Try.ntmps79
      go_wp2_with (first | (go_at_call 88; refine (specId_e _ _).mono ?_; rintro e w' ⟨rfl, rfl⟩) | (go_at_call 89; refine (specMachine_e _ _).mono ?_; rintro e w' ⟨rfl, rfl⟩))
      refine bodyPost_ret (v := .tuple #[.agg #[.int .i64 i, .int .i64 h, .int .i64 1, .int .i64 0, .slice none 0 0, .slice none 0 0, .int .i64 0], .bool true]) (by simp [results, Try.results79, go_sem]) rfl ?_
      exact ⟨none, 0, none, 0, fun _ => False, fun _ => False, rfl, OT.none rfl rfl, b0.out _⟩
structure TS (t : T7) : Prop where
  r : t.reads.length ≤ 1048576
  s : t.sets.length ≤ 1048576
theorem TS.tl {t : T7} (h : TS t) : TL t := ⟨by have := h.r; unfold maxLen; omega, by have := h.s; unfold maxLen; omega⟩
theorem endT_nonneg (t : T7) : 0 ≤ endT t 1 := by unfold endT; omega
theorem newT_short (i h : Int) : TS (newT i h) := by unfold newT noT; split <;> exact ⟨by simp, by simp⟩
end Go.Proofs.Ytcanaklameddbaa
