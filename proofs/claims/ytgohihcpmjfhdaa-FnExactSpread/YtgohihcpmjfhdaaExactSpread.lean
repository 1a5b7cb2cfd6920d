/- Spread of the program answers, at every two numbers, as the specification's Spread does; its answer owns its memory, and nothing that was there is changed: no condition. -/
import Derived.Test.YtgohihcpmjfhdaaRows
import Derived.Test.YtgohihcpmjfhdaaSpreadS
import Derived.Test.YtgohihcpmjfhdaaSpreadI
import Derived.Test.YtgohihcpmjfhdaaPlsL2
import Derived.Test.YtgohihcpmjfhdaaPlsM
import Derived.WalkKit
import Derived.ProofKit
import Derived.OpenShut
import Derived.WalkSpells
namespace Go.Proofs.Ytgohihcpmjfhdaa.fnExactSpread
open Go.ChangeShapes Go.WideShapes Go.ChangeAt Go.RowKit
theorem own : ownKnob Try.prog.godebug = none := by kernel_rfl
theorem laidOut : laidOutB Try.prog = true := by kernel_rfl
set_option maxHeartbeats 4000000 in
theorem walk (w : World) (R M : Int) :
    Calls Try.prog 5 #[.int .i64 R, .int .i64 M] w fun e w' => e = .returned (.bool true) ∧ Below w.heap.size w w' := by
  obtain ⟨hn6, hz3, hl18⟩ := spreadL_small R M
  have hS := fun W => specSpread_any W R M
  have hI := fun W => implSpread_any W R M
  obtain ⟨zss, hzss⟩ : ∃ zss, spreadL R M = zss := ⟨_, rfl⟩
  obtain ⟨B, hB⟩ : ∃ B, spreadB R M = B := ⟨_, rfl⟩
  simp only [hzss, hB] at hS hI hn6 hz3 hl18
  have HI : Hid (∀ W, Calls Try.prog 16 #[.int .i64 R, .int .i64 M] W fun e w' => ∃ a cap g, e = .returned (.tuple #[.slice a zss.length cap, .bool B]) ∧ OwnQ w' W.heap.size a zss.length zss g ∧ Below W.heap.size W w') := hI
  have hmx : zss.length ≤ maxLen := by unfold maxLen; omega
  have hm20 : zss.length ≤ 1048576 := by omega
  have hl20 : lens zss ≤ 1048576 := by omega
  have HM : Hid (∀ zs ∈ zss, zs.length ≤ maxLen) := fun zs h => by have := hz3 zs h; unfold maxLen; omega
  have dB : (B != B) = false := by cases B <;> rfl
  clear hzss hB hz3 hl18 hI
  go_enter Try.func5, Try.ntmps5
  go_wp2_with fail
  refine (hS w).mono ?_
  clear hS
  rintro e w1 ⟨b1, cap1, g1, rfl, o1, l1, be1⟩
  have S1 : Hid (SlP w1 w1.heap.size (some ⟨b1, 0, none⟩) zss.length zss ∧ Below w.heap.size w w1) := ⟨o1.sl l1, be1⟩
  clear o1 l1 be1
  go_wp2_with fail
  refine (HI.out w1).mono ?_
  rintro e w2 ⟨a2, cap2, g2, rfl, o2, be2⟩
  have S2 : Hid (OwnQ w2 w1.heap.size a2 zss.length zss g2 ∧ Below w1.heap.size w1 w2) := ⟨o2, be2⟩
  clear o2 be2
  go_wp2_with fail
  refine (eqPlaceS_any w2 _ _ zss.length cap2 cap1 zss hmx HM.out S2.out.1.sl (S1.out.1.later S2.out.2)).mono ?_
  rintro e w3 ⟨rfl, be3⟩
  have S3 : Hid (OwnQ w3 w1.heap.size a2 zss.length zss g2 ∧ Below w1.heap.size w1 w3) := ⟨S2.out.1.later be3, S2.out.2.trans (be3.mono S2.out.2.size)⟩
  clear be3 S2
  go_wp2_with fail
  refine (markPlaceS_q w3 w1.heap.size a2 zss.length cap2 zss g2 1 hm20 hl20 (by omega) (by omega) S3.out.1).mono ?_
  rintro e w4 ⟨rfl, kp, o4⟩
  have S4 : Hid (OwnQ w4 w1.heap.size a2 zss.length (markPs zss 1) g2 ∧ Below w1.heap.size w1 w4) := ⟨o4, S3.out.2.trans (kp.below S3.out.1.low)⟩
  clear kp o4 S3
  go_wp2_with fail
  refine (heldPlaceS_any w4 a2 zss.length cap2 zss 1 hm20 hl20 (by omega) (by omega) S4.out.1.sl).mono ?_
  rintro e w4 ⟨rfl, rfl⟩
  have d4 : decide ((1 : Int) + (lens zss : Int) < 0) = false := by simp; omega
  have q4 : ((1 : Int) + (lens zss : Int) != (1 : Int) + (lens zss : Int)) = false := by simp
  go_wp2_with fail
  refine (HI.out w4).mono ?_
  rintro e w5 ⟨a5, cap5, g5, rfl, o5, be5⟩
  have S5 : Hid (OwnQ w5 w1.heap.size a2 zss.length (markPs zss 1) g2 ∧ Below w1.heap.size w1 w5 ∧ SlP w5 w5.heap.size a5 zss.length zss) := ⟨S4.out.1.later be5, S4.out.2.trans (be5.mono S4.out.2.size), o5.sl⟩
  clear o5 be5 S4
  go_wp2_with fail
  refine (eqPlaceS_any w5 _ _ zss.length cap5 cap1 zss hmx HM.out S5.out.2.2 (S1.out.1.later S5.out.2.1)).mono ?_
  rintro e w6 ⟨rfl, be6⟩
  have S6 : Hid (OwnQ w6 w1.heap.size a2 zss.length (markPs zss 1) g2 ∧ Below w1.heap.size w1 w6) := ⟨S5.out.1.later be6, S5.out.2.1.trans (be6.mono S5.out.2.1.size)⟩
  clear be6 S5
  go_wp2_with fail
  refine (heldPlaceS_any w6 a2 zss.length cap2 zss 1 hm20 hl20 (by omega) (by omega) S6.out.1.sl).mono ?_
  rintro e w6 ⟨rfl, rfl⟩
  go_wp2
  go_ret
  exact ⟨rfl, S1.out.2.trans (S6.out.2.mono S1.out.2.size)⟩
set_option maxRecDepth 100000 in
theorem lifted (os : Os) (started : os.Started) (H : Type) (enc : TypeId × Value → H) :
    ReturnsInHanded {} Try.checked os 5 .any (Rows.fnExactSpreadSpec.pre6 enc Try.prog Try.f5 Rows.fnExactSpreadRow.domain false) (Rows.fnExactSpreadSpec.post enc Try.prog Try.f5 false true false false) := by
  refine returnsInHanded_of_change (C := Try.checked) own started (by kernel_rfl) Try.func5
    (ChangeSpec.witness6 (enc := enc) (C := Try.checked) false ⟨#[], #[.int .i64 0, .int .i64 0], []⟩ 8 (by kernel_rfl) (by kernel_rfl) (by kernel_rfl) (by kernel_rfl)) ?_
  intro W base args ds gs before hval0 hW hcnd _
  have hval : ∀ (j : Nat) t v, Try.f5.params[j]? = some t → args[j]? = some v → Value.okWide Try.prog W .any base t v := hval0
  have hW' := hW
  obtain ⟨p, q, hA0, hV, rfl, hfz, hnd⟩ := hW
  have hA : DataW.TrodAll enc Try.prog W 0 (fun _ => true) true Try.f5.params.toList args.toList ds p := hA0
  rw [Try.params5] at hA hval
  obtain ⟨v0, vs0, d0, ds0, p0, q0, hargs, rfl, rfl, h0, r0⟩ := trodAll_cons hA
  obtain ⟨v1, vs1, d1, ds1, p1, q1, rfl, rfl, rfl, h1, r1⟩ := trodAll_cons r0
  obtain ⟨rfl, rfl, rfl⟩ := trodAll_nil r1
  obtain rfl : args = #[v0, v1] := by cases args; simp_all
  obtain ⟨rfl, rfl⟩ := trodVars_none hV
  obtain ⟨R, rfl, rfl, rfl, wi0⟩ := open_int Try.underlying2 (hval 0 2 v0 rfl rfl) h0
  obtain ⟨M, rfl, rfl, rfl, wi1⟩ := open_int Try.underlying2 (hval 1 2 v1 rfl rfl) h1
  clear hA0 hval0
  refine (walk W R M).mono fun e W' ⟨he, bel⟩ => ?_
  subst he
  exact ⟨_, rfl, _, _, _, [], _, [], hW', trodAll_mk1 (shut_bool Try.underlying4 _), (trodAll_cons_mk (shut_int Try.underlying2 wi0) (trodAll_cons_mk (shut_int Try.underlying2 wi1) trodAll_mk0)), rfl, bel.frame _, fun h => by cases h⟩

theorem over : Rows.fnExactSpreadRow.holds Try.pinned (OpenSpec.ofChange Rows.fnExactSpreadSpec) :=
  OpenClaim.holds_of_wide 5 Try.f5 rfl rfl rfl rfl rfl rfl rfl ⟨rfl, rfl, rfl, rfl, rfl⟩ rfl rfl rfl rfl rfl (by kernel_rfl) Try.func5 (by kernel_rfl)
    (of_decide_eq_true (by kernel_rfl)) (by unfold Func.isWrapper; first | (rw [if_pos (by decide +kernel)]; kernel_rfl) | (rw [if_neg (by decide +kernel)]; exact ⟨rfl, rfl⟩))
    (fun os started H enc _ => lifted os started H enc)

end Go.Proofs.Ytgohihcpmjfhdaa.fnExactSpread
namespace Go.Proofs.Ytgohihcpmjfhdaa
theorem fnExactSpread_holds : Rows.FnExactSpreadSaid := fnExactSpread.over
#print axioms fnExactSpread_holds
end Go.Proofs.Ytgohihcpmjfhdaa
