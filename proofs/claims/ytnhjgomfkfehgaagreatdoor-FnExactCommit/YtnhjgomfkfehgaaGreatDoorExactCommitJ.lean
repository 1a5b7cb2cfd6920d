/- Commit of the program answers, at every Cluster and Id, as the specification's Commit does, in memory of its own, and changes nothing; the library's variable errors.errorType holds what its text lays. No other condition. -/
import Derived.Test.YtnhjgomfkfehgaaGreatDoorRows
import Derived.Test.YtnhjgomfkfehgaaGreatDoorJ13ExactCommit
import Derived.Test.YtnhjgomfkfehgaaGreatDoorTie
import Derived.Test.YtnhjgomfkfehgaaGreatDoorCards
import Derived.Test.YtnhjgomfkfehgaaGreatDoorJ12ExactCommit
import Derived.Test.YtnhjgomfkfehgaaGreatDoorJ9ExactCommit
import Derived.WalkKit
import Derived.ChangeSame
import Derived.ChangeVars
import Derived.JoinedOf
import Derived.RowKit
import Derived.RowKitTokens
import Derived.LaidLaws
import Derived.LaidHandle
import Derived.Stop.Joined
import Derived.SevenTiedAt
import Derived.ProofKit
import Derived.OpenShut
import Derived.Deep.RegionWith
import Derived.Deep.CutRange
import Derived.WalkSpells
namespace Go.Proofs.YtnhjgomfkfehgaaGreatDoor.fnExactCommit
open Go.ChangeShapes Go.WideShapes Go.ChangeAt Go.RowKit
set_option maxHeartbeats 0 in
theorem joined : joinedFacts Tryz.pinned.checked.prog 8 Tryz.f8 Rows.fnExactCommitSpec Rows.fnExactCommitRow = true := by
  unfold joinedFacts
  simp only [Bool.and_eq_true]
  refine ⟨?_, by as_aux_lemma => kernel_rfl⟩
  refine ⟨?_, by as_aux_lemma => kernel_rfl⟩
  refine ⟨?_, by as_aux_lemma => kernel_rfl⟩
  refine ⟨?_, by as_aux_lemma => kernel_rfl⟩
  refine ⟨?_, by as_aux_lemma => kernel_rfl⟩
  refine ⟨?_, by as_aux_lemma => kernel_rfl⟩
  refine ⟨?_, by as_aux_lemma => kernel_rfl⟩
  refine ⟨?_, by as_aux_lemma => kernel_rfl⟩
  refine ⟨?_, by as_aux_lemma => kernel_rfl⟩
  refine ⟨?_, by as_aux_lemma => kernel_rfl⟩
  refine ⟨?_, by as_aux_lemma => kernel_rfl⟩
  refine ⟨?_, by as_aux_lemma => kernel_rfl⟩
  refine ⟨?_, by as_aux_lemma => kernel_rfl⟩
  refine ⟨?_, by as_aux_lemma => kernel_rfl⟩
  refine ⟨?_, by as_aux_lemma => kernel_rfl⟩
  refine ⟨?_, by as_aux_lemma => kernel_rfl⟩
  refine ⟨?_, by as_aux_lemma => kernel_rfl⟩
  refine ⟨?_, by as_aux_lemma => kernel_rfl⟩
  refine ⟨?_, by as_aux_lemma => kernel_rfl⟩
  refine ⟨?_, by as_aux_lemma => kernel_rfl⟩
  refine ⟨?_, by as_aux_lemma => kernel_rfl⟩
  refine ⟨?_, by as_aux_lemma => kernel_rfl⟩
  refine ⟨?_, by as_aux_lemma => kernel_rfl⟩
  refine ⟨?_, by as_aux_lemma => kernel_rfl⟩
  refine ⟨?_, by as_aux_lemma => kernel_rfl⟩
  refine ⟨?_, by as_aux_lemma => kernel_rfl⟩
  refine ⟨?_, by as_aux_lemma => kernel_rfl⟩
  refine ⟨?_, by as_aux_lemma => kernel_rfl⟩
  refine ⟨?_, by as_aux_lemma => kernel_rfl⟩
  refine ⟨?_, by as_aux_lemma => kernel_rfl⟩
  refine ⟨?_, by as_aux_lemma => kernel_rfl⟩
  as_aux_lemma => kernel_rfl
theorem over : Rows.fnExactCommitRow.holds Tryz.pinned (OpenSpec.ofChange Rows.fnExactCommitSpec) :=
  OpenClaim.holds_of_wide 8 Tryz.f8 rfl rfl rfl rfl rfl rfl rfl ⟨rfl, rfl, rfl, rfl, rfl⟩ rfl rfl rfl rfl rfl (by kernel_rfl) Tryz.func8 joined
    (of_decide_eq_true (by kernel_rfl)) (by unfold Func.isWrapper; first | (rw [if_pos (by decide +kernel)]; kernel_rfl) | (rw [if_neg (by decide +kernel)]; exact ⟨rfl, rfl⟩))
    (fun os started H enc _ => lifted os started H enc)
theorem card : Rows.FnExactCommitCardSaid :=
  Claim7.holds_tied_plain_at .later [] [.handle] true Rows.fnExactCommitCard.stood.harness true
    over (fun _ h => by cases h) (by kernel_rfl) (fun _ h => by cases h) fnExactCommit_row_tie rfl ⟨rfl, rfl⟩ (by kernel_rfl) rfl
    (fun f fn hf hfn => by
      obtain rfl : f = 8 := Option.some.inj ((show Tryz.prog.funcNamed Rows.fnExactCommitRow.func = some 8 by kernel_rfl).symm.trans hf) |>.symm
      obtain rfl : fn = Tryz.f8 := (Option.some.inj (Tryz.func8.symm.trans hfn)).symm
      exact ⟨by kernel_rfl, fun j t ht => by
        rw [Tryz.params8] at ht
        have hm : t ∈ [26, 2] := by simpa using Array.mem_of_getElem? ht
        have hall : ([26, 2].all fun u => !Tryz.prog.wantsStandIn u) = true := by kernel_rfl
        exact (show Tryz.prog.wantsStandIn t = false by simpa using List.all_eq_true.1 hall t hm)⟩)
    (by kernel_rfl)
end Go.Proofs.YtnhjgomfkfehgaaGreatDoor.fnExactCommit
namespace Go.Proofs.YtnhjgomfkfehgaaGreatDoor
theorem fnExactCommit_holds : Rows.FnExactCommitCardSaid := fnExactCommit.card
#print axioms fnExactCommit_holds
end Go.Proofs.YtnhjgomfkfehgaaGreatDoor
