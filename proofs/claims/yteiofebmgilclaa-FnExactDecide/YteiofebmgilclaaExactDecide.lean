/- Decide of the program answers, at every row of votes, as the specification's Decide does, and changes nothing: no condition. -/
import Derived.Test.YteiofebmgilclaaRows
import Derived.Test.YteiofebmgilclaaVdS
import Derived.Test.YteiofebmgilclaaVdI
import Derived.Test.YteiofebmgilclaaOpenNums
import Derived.WalkKit
import Derived.ProofKit
import Derived.OpenShut
import Derived.WalkSpells
namespace Go.Proofs.Yteiofebmgilclaa.fnExactDecide
open Go.ChangeShapes Go.WideShapes Go.ChangeAt Go.RowKit
theorem own : ownKnob Try.prog.godebug = none := by kernel_rfl
theorem laidOut : laidOutB Try.prog = true := by kernel_rfl
theorem walk_great (w : World) (a : Option Addr) (n cap : Nat) (hn : n ≤ maxLen) (hg : ¬ n ≤ 1048576) :
    Calls Try.prog 3 #[.slice a n cap] w fun e w' => e = .returned (.bool true) ∧ Below w.heap.size w w' := by
  unfold maxLen at hn
  have q : (1048576 : Int) < (n : Int) := by omega
  go_enter Try.func3, Try.ntmps3
  go_wp2
  go_ret
  exact ⟨rfl, Below.refl _ _⟩
set_option maxHeartbeats 2000000 in
theorem walk_small (w : World) (a : Option Addr) (n cap : Nat) (zs : List Int) (hn : n ≤ 1048576) (hs : SlN w w.heap.size a n zs) :
    Calls Try.prog 3 #[.slice a n cap] w fun e w' => e = .returned (.bool true) ∧ Below w.heap.size w w' := by
  have hm : n ≤ maxLen := by unfold maxLen; omega
  have q : decide ((1048576 : Int) < (n : Int)) = false := by simp; omega
  have S0 : Hid (SlN w w.heap.size a n zs) := hs
  clear hs
  have dd : (decB zs != decB zs) = false := by simp
  go_enter Try.func3, Try.ntmps3
  go_wp2_with fail
  refine (toInt64S_any _ a n cap zs hn S0.out).mono ?_
  rintro e w1 ⟨rfl, b1, l1, s1, _⟩
  have S1 : Hid (SlN w1 w1.heap.size (some ⟨w.heap.size, 0, none⟩) n zs ∧ Below w.heap.size w w1) := ⟨⟨S0.out.1, .inr ⟨_, 0, rfl, l1, s1⟩⟩, b1⟩
  clear b1 l1 s1
  go_wp2_with fail
  refine (specDecide_any w1 _ n n zs hm S1.out.1).mono ?_
  rintro e w' ⟨rfl, hw'⟩
  subst w'
  generalize hdb : decB zs = db at *
  go_wp2_with fail
  refine (toInt64S_any _ a n cap zs hn (S0.out.later S1.out.2)).mono ?_
  rintro e w4 ⟨rfl, b4, l4, s4, _⟩
  have S4 : Hid (SlN w4 w4.heap.size (some ⟨w1.heap.size, 0, none⟩) n zs ∧ Below w.heap.size w w4) := ⟨⟨S0.out.1, .inr ⟨_, 0, rfl, l4, s4⟩⟩, S1.out.2.trans (b4.mono S1.out.2.size)⟩
  clear b4 l4 s4
  have hid := implDecide_any w4 (some ⟨w1.heap.size, 0, none⟩) n n zs hm S4.out.1
  rw [hdb] at hid
  clear hdb
  go_wp2_with fail
  refine hid.mono ?_
  clear hid
  rintro e w5 ⟨rfl, b5⟩
  have S5 : Hid (SlN w5 w5.heap.size (some ⟨w1.heap.size, 0, none⟩) n zs ∧ Below w.heap.size w w5) := ⟨S4.out.1.later b5, S4.out.2.trans (b5.mono S4.out.2.size)⟩
  clear b5
  go_wp2_with fail
  refine (toInt64S_any _ a n cap zs hn (S0.out.later S5.out.2)).mono ?_
  rintro e w9 ⟨rfl, b9, l9, s9, _⟩
  have S9 : Hid (SlN w9 w9.heap.size (some ⟨w5.heap.size, 0, none⟩) n zs ∧ SlN w9 w9.heap.size (some ⟨w1.heap.size, 0, none⟩) n zs ∧ Below w.heap.size w w9) := ⟨⟨S0.out.1, .inr ⟨_, 0, rfl, l9, s9⟩⟩, S5.out.1.later b9, S5.out.2.trans (b9.mono S5.out.2.size)⟩
  clear b9 l9 s9
  go_wp2_with fail
  refine (eqInt64S_any _ _ _ n n n zs hm S9.out.2.1 S9.out.1).mono ?_
  rintro e w10 ⟨rfl, b10⟩
  go_wp2
  go_ret
  exact ⟨rfl, S9.out.2.2.trans (b10.mono S9.out.2.2.size)⟩
theorem walk (w : World) (a : Option Addr) (n cap : Nat) (zs : List Int) (hm : n ≤ maxLen) (hs : SlN w w.heap.size a n zs) :
    Calls Try.prog 3 #[.slice a n cap] w fun e w' => e = .returned (.bool true) ∧ Below w.heap.size w w' := by
  by_cases h : n ≤ 1048576
  · exact walk_small w a n cap zs h hs
  · exact walk_great w a n cap hm h
set_option maxRecDepth 100000 in
theorem lifted (os : Os) (started : os.Started) (H : Type) (enc : TypeId × Value → H) :
    ReturnsInHanded {} Try.checked os 3 .any (Rows.fnExactDecideSpec.pre6 enc Try.prog Try.f3 Rows.fnExactDecideRow.domain false) (Rows.fnExactDecideSpec.post enc Try.prog Try.f3 false true false false) := by
  refine returnsInHanded_of_change (C := Try.checked) own started (by kernel_rfl) Try.func3
    (ChangeSpec.witness6 (enc := enc) (C := Try.checked) false ⟨#[], #[.slice none 0 0], []⟩ 8 (by kernel_rfl) (by kernel_rfl) (by kernel_rfl) (by kernel_rfl)) ?_
  intro W base args ds gs before hval0 hW hcnd _
  have hval : ∀ (j : Nat) t v, Try.f3.params[j]? = some t → args[j]? = some v → Value.okWide Try.prog W .any base t v := hval0
  have hW' := hW
  obtain ⟨p, q, hA0, hV, rfl, hfz, hnd⟩ := hW
  have hA : DataW.TrodAll enc Try.prog W 0 (fun _ => true) true Try.f3.params.toList args.toList ds p := hA0
  rw [Try.params3] at hA hval
  obtain ⟨v0, vs0, d0, ds0, p0, q0, hargs, rfl, rfl, h0, r0⟩ := trodAll_cons hA
  obtain ⟨rfl, rfl, rfl⟩ := trodAll_nil r0
  obtain rfl : args = #[v0] := by cases args; simp_all
  obtain ⟨rfl, rfl⟩ := trodVars_none hV
  obtain ⟨a, n, cap, rfl⟩ := okWide_slice Try.underlying22 (hval 0 22 v0 rfl rfl)
  have k0 := h0
  have lt0 : ∀ x ∈ p0, x.block < W.heap.size := by obtain ⟨m, hm⟩ := k0; exact DataW.trod_lt m _ _ _ hm
  obtain ⟨zs, hm, hs⟩ : ∃ (zs : List Int), n ≤ maxLen ∧ SlN W W.heap.size a n zs := by
    obtain ⟨fuel, hf⟩ := h0
    obtain ⟨a2, n2, cap2, zs, e, hm, hs⟩ := open_numsV hf
    simp [Value.cells] at e
    obtain ⟨rfl, rfl, rfl⟩ := e
    exact ⟨zs, hm, hs⟩
  clear hA0 hval0
  refine (walk W a n cap zs hm hs).mono fun e W' ⟨he, bel⟩ => ?_
  subst he
  exact ⟨_, rfl, _, _, _, [], _, [], hW', trodAll_mk1 (shut_bool Try.underlying4 _), (trodAll_cons_mk (Below.trod laidOut (by kernel_rfl) (of_decide_eq_true (by kernel_rfl)) k0 bel lt0) trodAll_mk0), rfl, bel.frame _, fun h => by cases h⟩

theorem over : Rows.fnExactDecideRow.holds Try.pinned (OpenSpec.ofChange Rows.fnExactDecideSpec) :=
  OpenClaim.holds_of_wide 3 Try.f3 rfl rfl rfl rfl rfl rfl rfl ⟨rfl, rfl, rfl, rfl, rfl⟩ rfl rfl rfl rfl rfl (by kernel_rfl) Try.func3 (by kernel_rfl)
    (of_decide_eq_true (by kernel_rfl)) (by unfold Func.isWrapper; first | (rw [if_pos (by decide +kernel)]; kernel_rfl) | (rw [if_neg (by decide +kernel)]; exact ⟨rfl, rfl⟩))
    (fun os started H enc _ => lifted os started H enc)

end Go.Proofs.Yteiofebmgilclaa.fnExactDecide
namespace Go.Proofs.Yteiofebmgilclaa
theorem fnExactDecide_holds : Rows.FnExactDecideSaid := fnExactDecide.over
#print axioms fnExactDecide_holds
end Go.Proofs.Yteiofebmgilclaa
