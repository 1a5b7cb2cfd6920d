/- CellsOk of the program answers, at every row of cells, as the specification's CellsOk does, and changes nothing: no condition. -/
import Derived.Test.YthadnikhnikceaaRows
import Derived.Test.YthadnikhnikceaaCellOk
import Derived.Test.YthadnikhnikceaaOpenCells
import Derived.WalkKit
import Derived.ProofKit
import Derived.OpenShut
import Derived.WalkSpells
namespace Go.Proofs.Ythadnikhnikceaa.fnExactCellsOk
open Go.ChangeShapes Go.WideShapes Go.ChangeAt Go.RowKit
theorem own : ownKnob Try.prog.godebug = none := by kernel_rfl
theorem laidOut : laidOutB Try.prog = true := by kernel_rfl
theorem walk_great (w : World) (a : Option Addr) (n cap : Nat) (hn : n ≤ maxLen) (hg : ¬ n ≤ 1048576) :
    Calls Try.prog 5 #[.slice a n cap] w fun e w' => e = .returned (.bool true) ∧ Below w.heap.size w w' := by
  go_enter Try.func5, Try.ntmps5
  go_wp2_with fail
  refine (szCellS_any _ a n cap hn).mono ?_
  rw [if_neg hg]
  rintro e w1 ⟨rfl, rfl⟩
  go_wp2
  go_ret
  exact ⟨rfl, Below.refl _ _⟩
set_option maxHeartbeats 2000000 in
theorem walk_small (w : World) (a : Option Addr) (n cap : Nat) (xs : List C2) (hn : n ≤ 1048576) (hs : SlC w w.heap.size a n xs) :
    Calls Try.prog 5 #[.slice a n cap] w fun e w' => e = .returned (.bool true) ∧ Below w.heap.size w w' := by
  have hm : n ≤ maxLen := by unfold maxLen; omega
  have d0 : decide ((1048576 : Int) - (n : Int) < 0) = false := by simp; omega
  have S0 : Hid (SlC w w.heap.size a n xs) := hs
  clear hs
  go_enter Try.func5, Try.ntmps5
  go_wp2_with fail
  refine (szCellS_any _ a n cap hm).mono ?_
  rw [if_pos hn]
  rintro e w ⟨rfl, rfl⟩
  go_wp2_with fail
  refine (toCellS_any _ a n cap xs hn S0.out).mono ?_
  rintro e w1 ⟨rfl, b1, l1, s1⟩
  have S1 : Hid (SlC w1 w1.heap.size (some ⟨w.heap.size, 0, none⟩) n xs ∧ Below w.heap.size w w1) := ⟨⟨S0.out.1, .inr ⟨_, 0, rfl, l1, s1⟩⟩, b1⟩
  clear b1 l1 s1
  go_wp2_with fail
  refine (specCellsOk_any _ _ n n xs hm S1.out.1).mono ?_
  rintro e w2 ⟨rfl, b2⟩
  have B2 : Hid (Below w.heap.size w w2) := S1.out.2.trans (b2.mono S1.out.2.size)
  clear b2
  go_wp2_with fail
  refine (toCellS_any _ a n cap xs hn (S0.out.later B2.out)).mono ?_
  rintro e w3 ⟨rfl, b3, l3, s3⟩
  have S3 : Hid (SlC w3 w3.heap.size (some ⟨w2.heap.size, 0, none⟩) n xs ∧ Below w.heap.size w w3) := ⟨⟨S0.out.1, .inr ⟨_, 0, rfl, l3, s3⟩⟩, B2.out.trans (b3.mono B2.out.size)⟩
  clear b3 l3 s3
  go_wp2_with fail
  refine (implCellsOk_any _ _ n n xs hm S3.out.1).mono ?_
  rintro e w4 ⟨rfl, b4⟩
  have S4 : Hid (SlC w4 w4.heap.size (some ⟨w2.heap.size, 0, none⟩) n xs ∧ Below w.heap.size w w4) := ⟨S3.out.1.later b4, S3.out.2.trans (b4.mono S3.out.2.size)⟩
  clear b4
  go_wp2_with fail
  refine (toCellS_any _ a n cap xs hn (S0.out.later S4.out.2)).mono ?_
  rintro e w5 ⟨rfl, b5, l5, s5⟩
  have S5 : Hid (SlC w5 w5.heap.size (some ⟨w4.heap.size, 0, none⟩) n xs ∧ SlC w5 w5.heap.size (some ⟨w2.heap.size, 0, none⟩) n xs ∧ Below w.heap.size w w5) := ⟨⟨S0.out.1, .inr ⟨_, 0, rfl, l5, s5⟩⟩, S4.out.1.later b5, S4.out.2.trans (b5.mono S4.out.2.size)⟩
  clear b5 l5 s5
  go_wp2_with fail
  refine (eqCellS_any _ _ _ n n n xs hm S5.out.2.1 S5.out.1).mono ?_
  rintro e w6 ⟨rfl, b6⟩
  go_wp2
  go_ret
  exact ⟨rfl, S5.out.2.2.trans (b6.mono S5.out.2.2.size)⟩
theorem walk (w : World) (a : Option Addr) (n cap : Nat) (xs : List C2) (hm : n ≤ maxLen) (hs : SlC w w.heap.size a n xs) :
    Calls Try.prog 5 #[.slice a n cap] w fun e w' => e = .returned (.bool true) ∧ Below w.heap.size w w' := by
  by_cases h : n ≤ 1048576
  · exact walk_small w a n cap xs h hs
  · exact walk_great w a n cap hm h
set_option maxRecDepth 100000 in
theorem lifted (os : Os) (started : os.Started) (H : Type) (enc : TypeId × Value → H) :
    ReturnsInHanded {} Try.checked os 5 .any (Rows.fnExactCellsOkSpec.pre6 enc Try.prog Try.f5 Rows.fnExactCellsOkRow.domain false) (Rows.fnExactCellsOkSpec.post enc Try.prog Try.f5 false true false false) := by
  refine returnsInHanded_of_change (C := Try.checked) own started (by kernel_rfl) Try.func5
    (ChangeSpec.witness6 (enc := enc) (C := Try.checked) false ⟨#[], #[.slice none 0 0], []⟩ 8 (by kernel_rfl) (by kernel_rfl) (by kernel_rfl) (by kernel_rfl)) ?_
  intro W base args ds gs before hval0 hW hcnd _
  have hval : ∀ (j : Nat) t v, Try.f5.params[j]? = some t → args[j]? = some v → Value.okWide Try.prog W .any base t v := hval0
  have hW' := hW
  obtain ⟨p, q, hA0, hV, rfl, hfz, hnd⟩ := hW
  have hA : DataW.TrodAll enc Try.prog W 0 (fun _ => true) true Try.f5.params.toList args.toList ds p := hA0
  rw [Try.params5] at hA hval
  obtain ⟨v0, vs0, d0, ds0, p0, q0, hargs, rfl, rfl, h0, r0⟩ := trodAll_cons hA
  obtain ⟨rfl, rfl, rfl⟩ := trodAll_nil r0
  obtain rfl : args = #[v0] := by cases args; simp_all
  obtain ⟨rfl, rfl⟩ := trodVars_none hV
  obtain ⟨a, n, cap, rfl⟩ := okWide_slice Try.underlying41 (hval 0 41 v0 rfl rfl)
  have k0 := h0
  have lt0 : ∀ x ∈ p0, x.block < W.heap.size := by obtain ⟨m, hm⟩ := k0; exact DataW.trod_lt m _ _ _ hm
  obtain ⟨xs, hm, hs⟩ : ∃ (xs : List C2), n ≤ maxLen ∧ SlC W W.heap.size a n xs := by
    obtain ⟨fuel, hf⟩ := h0
    obtain ⟨a', n', cap', xs, e, hm, hs⟩ := open_cellrow hf
    simp [Value.cells] at e
    obtain ⟨rfl, rfl, rfl⟩ := e
    exact ⟨xs, hm, hs⟩
  clear hA0 hval0
  refine (walk W a n cap xs hm hs).mono fun e W' ⟨he, bel⟩ => ?_
  subst he
  exact ⟨_, rfl, _, _, _, [], _, [], hW', trodAll_mk1 (shut_bool Try.underlying4 _), (trodAll_cons_mk (Below.trod laidOut (by kernel_rfl) (of_decide_eq_true (by kernel_rfl)) k0 bel lt0) trodAll_mk0), rfl, bel.frame _, fun h => by cases h⟩

theorem over : Rows.fnExactCellsOkRow.holds Try.pinned (OpenSpec.ofChange Rows.fnExactCellsOkSpec) :=
  OpenClaim.holds_of_wide 5 Try.f5 rfl rfl rfl rfl rfl rfl rfl ⟨rfl, rfl, rfl, rfl, rfl⟩ rfl rfl rfl rfl rfl (by kernel_rfl) Try.func5 (by kernel_rfl)
    (of_decide_eq_true (by kernel_rfl)) (by unfold Func.isWrapper; first | (rw [if_pos (by decide +kernel)]; kernel_rfl) | (rw [if_neg (by decide +kernel)]; exact ⟨rfl, rfl⟩))
    (fun os started H enc _ => lifted os started H enc)

end Go.Proofs.Ythadnikhnikceaa.fnExactCellsOk
namespace Go.Proofs.Ythadnikhnikceaa
theorem fnExactCellsOk_holds : Rows.FnExactCellsOkSaid := fnExactCellsOk.over
#print axioms fnExactCellsOk_holds
end Go.Proofs.Ythadnikhnikceaa
