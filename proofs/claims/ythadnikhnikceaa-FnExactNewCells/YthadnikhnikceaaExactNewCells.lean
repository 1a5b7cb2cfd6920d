/- NewCells of the program answers as the specification's NewCells does, in memory of its own, each time anew, and changes nothing: no condition. -/
import Derived.Test.YthadnikhnikceaaRows
import Derived.Test.YthadnikhnikceaaNewCells
import Derived.Test.YthadnikhnikceaaOpenCells
import Derived.WalkKit
import Derived.ProofKit
import Derived.OpenShut
import Derived.WalkSpells
namespace Go.Proofs.Ythadnikhnikceaa.fnExactNewCells
open Go.ChangeShapes Go.WideShapes Go.ChangeAt Go.RowKit
theorem own : ownKnob Try.prog.godebug = none := by kernel_rfl
theorem laidOut : laidOutB Try.prog = true := by kernel_rfl
set_option maxHeartbeats 2000000 in
theorem walk (w : World) : Calls Try.prog 6 #[] w fun e w' => e = .returned (.bool true) ∧ Below w.heap.size w w' := by
  have hm : 6 ≤ maxLen := by unfold maxLen; omega
  go_enter Try.func6, Try.ntmps6
  go_wp2_with fail
  refine (specNewCells_any _).mono ?_
  rintro e w1 ⟨rfl, h1⟩
  have b1 : Below w.heap.size w w1 := by rw [h1]; exact (Below.refl _ _).alloc (Nat.le_refl _) _
  have z1 : w.heap.size < w1.heap.size := by rw [h1]; simp
  have g1 : w1.heap[w.heap.size]? = some (.cells (zeros.flatMap C2.cells).toArray 32 (0, 0)) := by rw [h1, ← zeros_made]; exact Go.Deep.blk_alloc_new w _
  have S1 : Hid (CellsAt w1 w.heap.size 0 zeros ∧ Below w.heap.size w w1) := ⟨row_cellsAt g1, b1⟩
  clear h1 g1 b1
  go_wp2_with fail
  refine (implNewCells_any _).mono ?_
  rintro e w2 ⟨rfl, b2, g2⟩
  have z2 : w1.heap.size + 1 < w2.heap.size := by
    rcases Nat.lt_or_ge (w1.heap.size + 1) w2.heap.size with h | h
    · exact h
    · rw [Array.getElem?_eq_none h] at g2; cases g2
  have S2 : Hid (CellsAt w2 w.heap.size 0 zeros ∧ CellsAt w2 (w1.heap.size + 1) 0 zeros ∧ Room w2 (w1.heap.size + 1) (6 * 2) ∧ Below w.heap.size w w2) := ⟨S1.out.1.below b2 z1, row_cellsAt g2, row_room g2, S1.out.2.trans (b2.mono S1.out.2.size)⟩
  clear b2 g2
  have z12 : w.heap.size < w2.heap.size := by omega
  go_wp2_with fail
  refine (eqCellS_any _ _ _ 6 6 6 zeros hm ⟨rfl, .inr ⟨_, 0, rfl, z2, S2.out.2.1⟩⟩ ⟨rfl, .inr ⟨_, 0, rfl, z12, S2.out.1⟩⟩).mono ?_
  rintro e w3 ⟨rfl, b3⟩
  have S3 : Hid (CellsAt w3 w.heap.size 0 zeros ∧ Room w3 (w1.heap.size + 1) (6 * 2) ∧ Below w.heap.size w w3 ∧ w2.heap.size ≤ w3.heap.size) := ⟨S2.out.1.below b3 z12, S2.out.2.2.1.below b3 z2, S2.out.2.2.2.trans (b3.mono (Nat.le_of_lt z12)), b3.size⟩
  clear b3
  go_wp2_with fail
  refine (markCellS_some _ (w1.heap.size + 1) 6 6 (by omega) S3.out.2.1).mono ?_
  rintro e w4 ⟨rfl, o4, s4⟩
  have S4 : Hid (CellsAt w4 w.heap.size 0 zeros ∧ CellsAt w4 (w1.heap.size + 1) 0 (markCells 6) ∧ Below w.heap.size w w4 ∧ w2.heap.size ≤ w4.heap.size) := by
    have bo := o4.below (B := w1.heap.size + 1) (Nat.le_refl _)
    exact ⟨S3.out.1.below bo (by omega), s4, S3.out.2.2.1.trans (bo.mono (by omega)), by rw [o4.size]; exact S3.out.2.2.2⟩
  clear o4 s4
  go_wp2_with fail
  refine (heldCellS_some _ (w1.heap.size + 1) 6 6 (by omega) S4.out.2.1).mono ?_
  rintro e w4 ⟨rfl, rfl⟩
  go_wp2_with fail
  refine (implNewCells_any _).mono ?_
  rintro e w5 ⟨rfl, b5, g5⟩
  have z5 : w4.heap.size + 1 < w5.heap.size := by
    rcases Nat.lt_or_ge (w4.heap.size + 1) w5.heap.size with h | h
    · exact h
    · rw [Array.getElem?_eq_none h] at g5; cases g5
  have hz4 := S4.out.2.2.2
  have S5 : Hid (CellsAt w5 w.heap.size 0 zeros ∧ CellsAt w5 (w4.heap.size + 1) 0 zeros ∧ CellsAt w5 (w1.heap.size + 1) 0 (markCells 6) ∧ Below w.heap.size w w5) := ⟨S4.out.1.below b5 (by omega), row_cellsAt g5, S4.out.2.1.below b5 (by omega), S4.out.2.2.1.trans (b5.mono S4.out.2.2.1.size)⟩
  clear b5 g5
  have z15 : w.heap.size < w5.heap.size := by omega
  go_wp2_with fail
  refine (eqCellS_any _ _ _ 6 6 6 zeros hm ⟨rfl, .inr ⟨_, 0, rfl, z5, S5.out.2.1⟩⟩ ⟨rfl, .inr ⟨_, 0, rfl, z15, S5.out.1⟩⟩).mono ?_
  rintro e w6 ⟨rfl, b6⟩
  have S6 : Hid (CellsAt w6 (w1.heap.size + 1) 0 (markCells 6) ∧ Below w.heap.size w w6) := ⟨S5.out.2.2.1.below b6 (by omega), S5.out.2.2.2.trans (b6.mono (Nat.le_of_lt z15))⟩
  clear b6
  go_wp2_with fail
  refine (heldCellS_some _ (w1.heap.size + 1) 6 6 (by omega) S6.out.1).mono ?_
  rintro e w7 ⟨rfl, rfl⟩
  go_wp2
  go_ret
  exact ⟨rfl, S6.out.2⟩
set_option maxRecDepth 100000 in
theorem lifted (os : Os) (started : os.Started) (H : Type) (enc : TypeId × Value → H) :
    ReturnsInHanded {} Try.checked os 6 .any (Rows.fnExactNewCellsSpec.pre6 enc Try.prog Try.f6 Rows.fnExactNewCellsRow.domain false) (Rows.fnExactNewCellsSpec.post enc Try.prog Try.f6 false true false false) := by
  refine returnsInHanded_of_change (C := Try.checked) own started (by kernel_rfl) Try.func6
    (ChangeSpec.witness6 (enc := enc) (C := Try.checked) false ⟨#[], #[], []⟩ 8 (by kernel_rfl) (by kernel_rfl) (by kernel_rfl) (by kernel_rfl)) ?_
  intro W base args ds gs before hval0 hW hcnd _
  have hval : ∀ (j : Nat) t v, Try.f6.params[j]? = some t → args[j]? = some v → Value.okWide Try.prog W .any base t v := hval0
  have hW' := hW
  obtain ⟨p, q, hA0, hV, rfl, hfz, hnd⟩ := hW
  have hA : DataW.TrodAll enc Try.prog W 0 (fun _ => true) true Try.f6.params.toList args.toList ds p := hA0
  rw [Try.params6] at hA hval
  obtain ⟨hargs, rfl, rfl⟩ := trodAll_nil hA
  obtain rfl : args = #[] := by cases args; simp_all
  obtain ⟨rfl, rfl⟩ := trodVars_none hV
  clear hA0 hval0
  refine (walk W).mono fun e W' ⟨he, bel⟩ => ?_
  subst he
  exact ⟨_, rfl, _, _, _, [], _, [], hW', trodAll_mk1 (shut_bool Try.underlying4 _), trodAll_mk0, rfl, bel.frame _, fun h => by cases h⟩

theorem over : Rows.fnExactNewCellsRow.holds Try.pinned (OpenSpec.ofChange Rows.fnExactNewCellsSpec) :=
  OpenClaim.holds_of_wide 6 Try.f6 rfl rfl rfl rfl rfl rfl rfl ⟨rfl, rfl, rfl, rfl, rfl⟩ rfl rfl rfl rfl rfl (by kernel_rfl) Try.func6 (by kernel_rfl)
    (of_decide_eq_true (by kernel_rfl)) (by unfold Func.isWrapper; first | (rw [if_pos (by decide +kernel)]; kernel_rfl) | (rw [if_neg (by decide +kernel)]; exact ⟨rfl, rfl⟩))
    (fun os started H enc _ => lifted os started H enc)

end Go.Proofs.Ythadnikhnikceaa.fnExactNewCells
namespace Go.Proofs.Ythadnikhnikceaa
theorem fnExactNewCells_holds : Rows.FnExactNewCellsSaid := fnExactNewCells.over
#print axioms fnExactNewCells_holds
end Go.Proofs.Ythadnikhnikceaa
