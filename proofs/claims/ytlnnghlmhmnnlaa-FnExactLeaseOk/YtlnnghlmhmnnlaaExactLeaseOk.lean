/- LeaseOk of the program answers, at every lease, as the specification's LeaseOk does, and changes nothing: no condition. -/
import Derived.Test.YtlnnghlmhmnnlaaRows
import Derived.Test.YtlnnghlmhmnnlaaLease
import Derived.Test.YtlnnghlmhmnnlaaLeaseL
import Derived.Test.YtlnnghlmhmnnlaaOpenLease
import Derived.WalkKit
import Derived.ProofKit
import Derived.OpenShut
namespace Go.Proofs.Ytlnnghlmhmnnlaa.fnExactLeaseOk
open Go.ChangeShapes Go.WideShapes Go.ChangeAt Go.RowKit
theorem own : ownKnob Try.prog.godebug = none := by kernel_rfl
theorem laidOut : laidOutB Try.prog = true := by kernel_rfl
set_option maxHeartbeats 1000000 in
theorem walk (l : L3) (w : World) :
    Calls Try.prog 5 #[.agg #[.int .i64 l.holder, .int .i64 l.start, .int .i64 l.length]] w fun e w' => e = .returned (.bool true) ∧ Below w.heap.size w w' := by
  go_enter Try.func5, Try.ntmps5
  go_wp2_with fail
  have B0 : Below w.heap.size w (w.alloc (.cells #[.int .i64 l.holder, .int .i64 l.start, .int .i64 l.length] 34)) := (Below.refl _ _).alloc (Nat.le_refl _) _
  have z0 : w.heap.size < (w.alloc (.cells #[.int .i64 l.holder, .int .i64 l.start, .int .i64 l.length] 34)).heap.size := by simp
  have c0 : (w.alloc (.cells #[.int .i64 l.holder, .int .i64 l.start, .int .i64 l.length] 34)).cell? ⟨w.heap.size, 0, none⟩ = some (.int .i64 l.holder) := by go_simp
  have c1 : (w.alloc (.cells #[.int .i64 l.holder, .int .i64 l.start, .int .i64 l.length] 34)).cell? ⟨w.heap.size, 1, none⟩ = some (.int .i64 l.start) := by go_simp
  have c2 : (w.alloc (.cells #[.int .i64 l.holder, .int .i64 l.start, .int .i64 l.length] 34)).cell? ⟨w.heap.size, 2, none⟩ = some (.int .i64 l.length) := by go_simp
  generalize w.alloc (.cells #[.int .i64 l.holder, .int .i64 l.start, .int .i64 l.length] 34) = W at *
  refine (toLease_any _ l).mono ?_
  rintro e w1 ⟨rfl, b1⟩
  go_wp2_with fail
  refine (specLeaseOk _ l).mono ?_
  rintro e w2 ⟨rfl, b2⟩
  have B2 : Below W.heap.size W w2 := b1.trans (b2.mono b1.size)
  have c0 := (B2.cell (p := ⟨w.heap.size, 0, none⟩) z0).trans c0
  have c1 := (B2.cell (p := ⟨w.heap.size, 1, none⟩) z0).trans c1
  have c2 := (B2.cell (p := ⟨w.heap.size, 2, none⟩) z0).trans c2
  have BB : Hid (Below w.heap.size w w2) := B0.trans (B2.mono B0.size)
  clear b1 b2 B0 B2 z0
  go_wp2_with fail
  refine (toLease_any _ l).mono ?_
  rintro e w3 ⟨rfl, b3⟩
  go_wp2_with fail
  refine (implLeaseOk _ l).mono ?_
  rintro e w4 ⟨rfl, b4⟩
  have BE : Hid (Below w.heap.size w w4) := BB.out.trans ((b3.trans (b4.mono b3.size)).mono BB.out.size)
  clear b3 b4 BB
  go_wp2
  go_ret
  exact ⟨by simp, BE.out⟩
set_option maxRecDepth 100000 in
theorem lifted (os : Os) (started : os.Started) (H : Type) (enc : TypeId × Value → H) :
    ReturnsInHanded {} Try.checked os 5 .any (Rows.fnExactLeaseOkSpec.pre6 enc Try.prog Try.f5 Rows.fnExactLeaseOkRow.domain false) (Rows.fnExactLeaseOkSpec.post enc Try.prog Try.f5 false true false false) := by
  refine returnsInHanded_of_change (C := Try.checked) own started (by kernel_rfl) Try.func5
    (ChangeSpec.witness6 (enc := enc) (C := Try.checked) false ⟨#[], #[.agg #[.int .i64 0, .int .i64 0, .int .i64 0]], []⟩ 8 (by kernel_rfl) (by kernel_rfl) (by kernel_rfl) (by kernel_rfl)) ?_
  intro W base args ds gs before hval0 hW hcnd _
  have hval : ∀ (j : Nat) t v, Try.f5.params[j]? = some t → args[j]? = some v → Value.okWide Try.prog W .any base t v := hval0
  have hW' := hW
  obtain ⟨p, q, hA0, hV, rfl, hfz, hnd⟩ := hW
  have hA : DataW.TrodAll enc Try.prog W 0 (fun _ => true) true Try.f5.params.toList args.toList ds p := hA0
  rw [Try.params5] at hA hval
  obtain ⟨v0, vs0, d0, ds0, p0, q0, hargs, rfl, rfl, h0, r0⟩ := trodAll_cons hA
  obtain ⟨rfl, rfl, rfl⟩ := trodAll_nil r0
  obtain rfl : args = #[v0] := by cases args; simp_all
  obtain ⟨rfl, rfl⟩ := trodVars_none hV
  obtain ⟨cs, rfl, hcs⟩ := okWide_struct Try.underlying34 (hval 0 34 v0 rfl rfl)
  have k0 := h0
  have lt0 : ∀ x ∈ p0, x.block < W.heap.size := by obtain ⟨m, hm⟩ := k0; exact DataW.trod_lt m _ _ _ hm
  obtain ⟨l, rfl, ws⟩ : ∃ l : L3, cs = l.cells.toArray ∧ l.wf := by
    obtain ⟨fuel, hf⟩ := h0
    obtain ⟨l, e, ws⟩ := open_lease hf
    exact ⟨l, by cases cs; simpa [Value.cells] using e, ws⟩
  clear hA0 hval0
  refine (walk l W).mono fun e W' ⟨he, bel⟩ => ?_
  subst he
  exact ⟨_, rfl, _, _, _, [], _, [], hW', trodAll_mk1 (shut_bool Try.underlying4 _), (trodAll_cons_mk (Below.trod laidOut (by kernel_rfl) (of_decide_eq_true (by kernel_rfl)) k0 bel lt0) trodAll_mk0), rfl, bel.frame _, fun h => by cases h⟩

theorem over : Rows.fnExactLeaseOkRow.holds Try.pinned (OpenSpec.ofChange Rows.fnExactLeaseOkSpec) :=
  OpenClaim.holds_of_wide 5 Try.f5 rfl rfl rfl rfl rfl rfl rfl ⟨rfl, rfl, rfl, rfl, rfl⟩ rfl rfl rfl rfl rfl (by kernel_rfl) Try.func5 (by kernel_rfl)
    (of_decide_eq_true (by kernel_rfl)) (by unfold Func.isWrapper; first | (rw [if_pos (by decide +kernel)]; kernel_rfl) | (rw [if_neg (by decide +kernel)]; exact ⟨rfl, rfl⟩))
    (fun os started H enc _ => lifted os started H enc)

end Go.Proofs.Ytlnnghlmhmnnlaa.fnExactLeaseOk
namespace Go.Proofs.Ytlnnghlmhmnnlaa
theorem fnExactLeaseOk_holds : Rows.FnExactLeaseOkSaid := fnExactLeaseOk.over
#print axioms fnExactLeaseOk_holds
end Go.Proofs.Ytlnnghlmhmnnlaa
