/- Alloc of the program answers, at every Cluster, Id and region, as the specification's Alloc does, in memory of its own, and changes nothing; the library's variable errors.errorType holds what its text lays. No other condition. -/
import Derived.Test.YtajmlpgodcfghaaGreatDoorJ10Alloc
set_option maxHeartbeats 16000000
set_option maxRecDepth 100000
namespace Go.Proofs.YtajmlpgodcfghaaGreatDoor
open Go.RowKit
open Go.Sort (grow)
namespace fnExactAlloc
open Go.Proofs.Tryz
open Go.ChangeShapes Go.WideShapes Go.ChangeAt Go.RowKit
set_option maxHeartbeats 0 in
theorem joined:joinedFacts Tryz.pinned.checked.prog 3 Tryz.f3 Rows.fnExactAllocSpec Rows.fnExactAllocRow=true:=by
 unfold joinedFacts;simp only[Bool.and_eq_true];refine⟨?_,by as_aux_lemma=>kernel_rfl⟩;refine⟨?_,by as_aux_lemma=>kernel_rfl⟩;refine⟨?_,by as_aux_lemma=>kernel_rfl⟩;refine⟨?_,by as_aux_lemma=>kernel_rfl⟩;refine⟨?_,by as_aux_lemma=>kernel_rfl⟩;refine⟨?_,by as_aux_lemma=>kernel_rfl⟩;refine⟨?_,by as_aux_lemma=>kernel_rfl⟩;refine⟨?_,by as_aux_lemma=>kernel_rfl⟩;refine⟨?_,by as_aux_lemma=>kernel_rfl⟩;refine⟨?_,by as_aux_lemma=>kernel_rfl⟩;refine⟨?_,by as_aux_lemma=>kernel_rfl⟩;refine⟨?_,by as_aux_lemma=>kernel_rfl⟩;refine⟨?_,by as_aux_lemma=>kernel_rfl⟩;refine⟨?_,by as_aux_lemma=>kernel_rfl⟩;refine⟨?_,by as_aux_lemma=>kernel_rfl⟩;refine⟨?_,by as_aux_lemma=>kernel_rfl⟩;refine⟨?_,by as_aux_lemma=>kernel_rfl⟩;refine⟨?_,by as_aux_lemma=>kernel_rfl⟩;refine⟨?_,by as_aux_lemma=>kernel_rfl⟩;refine⟨?_,by as_aux_lemma=>kernel_rfl⟩;refine⟨?_,by as_aux_lemma=>kernel_rfl⟩;refine⟨?_,by as_aux_lemma=>kernel_rfl⟩;refine⟨?_,by as_aux_lemma=>kernel_rfl⟩;refine⟨?_,by as_aux_lemma=>kernel_rfl⟩;refine⟨?_,by as_aux_lemma=>kernel_rfl⟩;refine⟨?_,by as_aux_lemma=>kernel_rfl⟩;refine⟨?_,by as_aux_lemma=>kernel_rfl⟩;refine⟨?_,by as_aux_lemma=>kernel_rfl⟩;refine⟨?_,by as_aux_lemma=>kernel_rfl⟩;refine⟨?_,by as_aux_lemma=>kernel_rfl⟩;refine⟨?_,by as_aux_lemma=>kernel_rfl⟩;as_aux_lemma=>kernel_rfl
theorem over:Rows.fnExactAllocRow.holds Tryz.pinned (OpenSpec.ofChange Rows.fnExactAllocSpec):=
 OpenClaim.holds_of_wide 3 Tryz.f3 rfl rfl rfl rfl rfl rfl rfl ⟨rfl,rfl,rfl,rfl,rfl⟩ rfl rfl rfl rfl rfl (by kernel_rfl) func3 joined
  (of_decide_eq_true (by kernel_rfl)) (by unfold Func.isWrapper;first|(rw[if_pos (by decide +kernel)];kernel_rfl)|(rw[if_neg (by decide +kernel)];exact⟨rfl,rfl⟩))
  (fun os started H enc _=>lifted os started H enc)
theorem card:Rows.FnExactAllocCardSaid:=
 Claim7.holds_tied_plain_at .later [] [.handle] true Rows.fnExactAllocCard.stood.harness true
  over (fun _ h=>by cases h) (by kernel_rfl) (fun _ h=>by cases h) fnExactAlloc_row_tie rfl ⟨rfl,rfl⟩ (by kernel_rfl) rfl
  (fun f fn hf r8=>by
   obtain rfl:f=3:=Option.some.inj ((show prog.funcNamed Rows.fnExactAllocRow.func=some 3 by kernel_rfl).symm.trans hf) |>.symm
   obtain rfl:fn=Tryz.f3:=(Option.some.inj (func3.symm.trans r8)).symm
   exact⟨by kernel_rfl,fun j t ht=>by
    rw[params3]at ht;have hm:t∈[26,2,2]:=by simpa using Array.mem_of_getElem? ht
    have aO:([26,2,2].all fun u=>!prog.wantsStandIn u)=true:=by kernel_rfl
    exact(show prog.wantsStandIn t=false by simpa using List.all_eq_true.1 aO t hm)⟩)
  (by kernel_rfl)
end fnExactAlloc
section
open Go.Proofs.Tryz
theorem fnExactAlloc_holds:Rows.FnExactAllocCardSaid:=fnExactAlloc.card
#print axioms fnExactAlloc_holds
end
end Go.Proofs.YtajmlpgodcfghaaGreatDoor
