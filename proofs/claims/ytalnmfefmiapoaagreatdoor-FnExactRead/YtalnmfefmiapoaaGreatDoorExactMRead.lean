/- Read of the program answers, at every Cluster, Id, region and slot, as the specification's Read does, in memory of its own, and changes nothing; the library's variable errors.errorType holds what its text lays. No other condition. -/
import Derived.Test.YtalnmfefmiapoaaGreatDoorJ11Read
set_option maxHeartbeats 16000000
set_option maxRecDepth 100000
namespace Go.Proofs.YtalnmfefmiapoaaGreatDoor
open Go.RowKit
open Go.Sort (grow)
namespace fnExactRead
open Go.ChangeShapes Go.WideShapes Go.ChangeAt Go.RowKit
set_option maxHeartbeats 0 in
theorem joined:joinedFacts Tryz.pinned.checked.prog 3 Tryz.f3 Rows.fnExactReadSpec Rows.fnExactReadRow=true:=by
 unfold joinedFacts;simp only[Bool.and_eq_true];refine⟨?_,by as_aux_lemma=>kernel_rfl⟩;refine⟨?_,by as_aux_lemma=>kernel_rfl⟩;refine⟨?_,by as_aux_lemma=>kernel_rfl⟩;refine⟨?_,by as_aux_lemma=>kernel_rfl⟩;refine⟨?_,by as_aux_lemma=>kernel_rfl⟩;refine⟨?_,by as_aux_lemma=>kernel_rfl⟩;refine⟨?_,by as_aux_lemma=>kernel_rfl⟩;refine⟨?_,by as_aux_lemma=>kernel_rfl⟩;refine⟨?_,by as_aux_lemma=>kernel_rfl⟩;refine⟨?_,by as_aux_lemma=>kernel_rfl⟩;refine⟨?_,by as_aux_lemma=>kernel_rfl⟩;refine⟨?_,by as_aux_lemma=>kernel_rfl⟩;refine⟨?_,by as_aux_lemma=>kernel_rfl⟩;refine⟨?_,by as_aux_lemma=>kernel_rfl⟩;refine⟨?_,by as_aux_lemma=>kernel_rfl⟩;refine⟨?_,by as_aux_lemma=>kernel_rfl⟩;refine⟨?_,by as_aux_lemma=>kernel_rfl⟩;refine⟨?_,by as_aux_lemma=>kernel_rfl⟩;refine⟨?_,by as_aux_lemma=>kernel_rfl⟩;refine⟨?_,by as_aux_lemma=>kernel_rfl⟩;refine⟨?_,by as_aux_lemma=>kernel_rfl⟩;refine⟨?_,by as_aux_lemma=>kernel_rfl⟩;refine⟨?_,by as_aux_lemma=>kernel_rfl⟩;refine⟨?_,by as_aux_lemma=>kernel_rfl⟩;refine⟨?_,by as_aux_lemma=>kernel_rfl⟩;refine⟨?_,by as_aux_lemma=>kernel_rfl⟩;refine⟨?_,by as_aux_lemma=>kernel_rfl⟩;refine⟨?_,by as_aux_lemma=>kernel_rfl⟩;refine⟨?_,by as_aux_lemma=>kernel_rfl⟩;refine⟨?_,by as_aux_lemma=>kernel_rfl⟩;refine⟨?_,by as_aux_lemma=>kernel_rfl⟩;as_aux_lemma=>kernel_rfl
theorem over:Rows.fnExactReadRow.holds Tryz.pinned (OpenSpec.ofChange Rows.fnExactReadSpec):=
 OpenClaim.holds_of_wide 3 Tryz.f3 rfl rfl rfl rfl rfl rfl rfl ⟨rfl,rfl,rfl,rfl,rfl⟩ rfl rfl rfl rfl rfl (by kernel_rfl) Tryz.func3 joined
  (of_decide_eq_true (by kernel_rfl)) (by unfold Func.isWrapper;first|(rw[if_pos (by decide +kernel)];kernel_rfl)|(rw[if_neg (by decide +kernel)];exact⟨rfl,rfl⟩))
  (fun os started H enc _=>lifted os started H enc)
theorem card:Rows.FnExactReadCardSaid:=
 Claim7.holds_tied_plain_at .later [] [.handle] true Rows.fnExactReadCard.stood.harness true
  over (fun _ h=>by cases h) (by kernel_rfl) (fun _ h=>by cases h) fnExactRead_row_tie rfl ⟨rfl,rfl⟩ (by kernel_rfl) rfl
  (fun f fn hf kn=>by
   obtain rfl:f=3:=Option.some.inj ((show Tryz.prog.funcNamed Rows.fnExactReadRow.func=some 3 by kernel_rfl).symm.trans hf) |>.symm
   obtain rfl:fn=Tryz.f3:=(Option.some.inj (Tryz.func3.symm.trans kn)).symm
   exact⟨by kernel_rfl,fun j t ht=>by
    rw[Tryz.params3]at ht;have hm:t∈[26,2,2,2]:=by simpa using Array.mem_of_getElem? ht
    have aP:([26,2,2,2].all fun u=>!Tryz.prog.wantsStandIn u)=true:=by kernel_rfl
    exact(show Tryz.prog.wantsStandIn t=false by simpa using List.all_eq_true.1 aP t hm)⟩)
  (by kernel_rfl)
end fnExactRead
theorem fnExactRead_holds:Rows.FnExactReadCardSaid:=fnExactRead.card
#print axioms fnExactRead_holds
end Go.Proofs.YtalnmfefmiapoaaGreatDoor
