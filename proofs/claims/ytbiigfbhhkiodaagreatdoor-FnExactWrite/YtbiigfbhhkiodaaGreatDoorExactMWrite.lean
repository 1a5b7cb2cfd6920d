/- Write of the program answers, at every Cluster, Id, region, slot and value, as the specification's Write does, in memory of its own, and changes nothing; the library's variable errors.errorType holds what its text lays. No other condition. -/
import Derived.Test.YtbiigfbhhkiodaaGreatDoorJ11Write
set_option maxHeartbeats 16000000
set_option maxRecDepth 100000
namespace Go.Proofs.YtbiigfbhhkiodaaGreatDoor
open Go.RowKit
open Go.Sort (grow)
namespace fnExactWrite
open Go.Proofs.Tryz
open Go.ChangeShapes Go.WideShapes Go.ChangeAt Go.RowKit
set_option maxHeartbeats 0 in
theorem joined:joinedFacts Tryz.pinned.checked.prog 4 Tryz.f4 Rows.fnExactWriteSpec Rows.fnExactWriteRow=true:=by
 unfold joinedFacts;simp only[Bool.and_eq_true];refine⟨?_,by as_aux_lemma=>kernel_rfl⟩;refine⟨?_,by as_aux_lemma=>kernel_rfl⟩;refine⟨?_,by as_aux_lemma=>kernel_rfl⟩;refine⟨?_,by as_aux_lemma=>kernel_rfl⟩;refine⟨?_,by as_aux_lemma=>kernel_rfl⟩;refine⟨?_,by as_aux_lemma=>kernel_rfl⟩;refine⟨?_,by as_aux_lemma=>kernel_rfl⟩;refine⟨?_,by as_aux_lemma=>kernel_rfl⟩;refine⟨?_,by as_aux_lemma=>kernel_rfl⟩;refine⟨?_,by as_aux_lemma=>kernel_rfl⟩;refine⟨?_,by as_aux_lemma=>kernel_rfl⟩;refine⟨?_,by as_aux_lemma=>kernel_rfl⟩;refine⟨?_,by as_aux_lemma=>kernel_rfl⟩;refine⟨?_,by as_aux_lemma=>kernel_rfl⟩;refine⟨?_,by as_aux_lemma=>kernel_rfl⟩;refine⟨?_,by as_aux_lemma=>kernel_rfl⟩;refine⟨?_,by as_aux_lemma=>kernel_rfl⟩;refine⟨?_,by as_aux_lemma=>kernel_rfl⟩;refine⟨?_,by as_aux_lemma=>kernel_rfl⟩;refine⟨?_,by as_aux_lemma=>kernel_rfl⟩;refine⟨?_,by as_aux_lemma=>kernel_rfl⟩;refine⟨?_,by as_aux_lemma=>kernel_rfl⟩;refine⟨?_,by as_aux_lemma=>kernel_rfl⟩;refine⟨?_,by as_aux_lemma=>kernel_rfl⟩;refine⟨?_,by as_aux_lemma=>kernel_rfl⟩;refine⟨?_,by as_aux_lemma=>kernel_rfl⟩;refine⟨?_,by as_aux_lemma=>kernel_rfl⟩;refine⟨?_,by as_aux_lemma=>kernel_rfl⟩;refine⟨?_,by as_aux_lemma=>kernel_rfl⟩;refine⟨?_,by as_aux_lemma=>kernel_rfl⟩;refine⟨?_,by as_aux_lemma=>kernel_rfl⟩;as_aux_lemma=>kernel_rfl
theorem over:Rows.fnExactWriteRow.holds Tryz.pinned (OpenSpec.ofChange Rows.fnExactWriteSpec):=
 OpenClaim.holds_of_wide 4 Tryz.f4 rfl rfl rfl rfl rfl rfl rfl ⟨rfl,rfl,rfl,rfl,rfl⟩ rfl rfl rfl rfl rfl (by kernel_rfl) func4 joined
  (of_decide_eq_true (by kernel_rfl)) (by unfold Func.isWrapper;first|(rw[if_pos (by decide +kernel)];kernel_rfl)|(rw[if_neg (by decide +kernel)];exact⟨rfl,rfl⟩))
  (fun os started H enc _=>lifted os started H enc)
theorem card:Rows.FnExactWriteCardSaid:=
 Claim7.holds_tied_plain_at .later [] [.handle] true Rows.fnExactWriteCard.stood.harness true
  over (fun _ h=>by cases h) (by kernel_rfl) (fun _ h=>by cases h) fnExactWrite_row_tie rfl ⟨rfl,rfl⟩ (by kernel_rfl) rfl
  (fun f fn hf iv=>by
   obtain rfl:f=4:=Option.some.inj ((show prog.funcNamed Rows.fnExactWriteRow.func=some 4 by kernel_rfl).symm.trans hf) |>.symm
   obtain rfl:fn=Tryz.f4:=(Option.some.inj (func4.symm.trans iv)).symm
   exact⟨by kernel_rfl,fun j t ht=>by
    rw[params4]at ht;have hm:t∈[26,2,2,2,2]:=by simpa using Array.mem_of_getElem? ht
    have aQ:([26,2,2,2,2].all fun u=>!prog.wantsStandIn u)=true:=by kernel_rfl
    exact(show prog.wantsStandIn t=false by simpa using List.all_eq_true.1 aQ t hm)⟩)
  (by kernel_rfl)
end fnExactWrite
section
open Go.Proofs.Tryz
theorem fnExactWrite_holds:Rows.FnExactWriteCardSaid:=fnExactWrite.card
#print axioms fnExactWrite_holds
end
end Go.Proofs.YtbiigfbhhkiodaaGreatDoor
