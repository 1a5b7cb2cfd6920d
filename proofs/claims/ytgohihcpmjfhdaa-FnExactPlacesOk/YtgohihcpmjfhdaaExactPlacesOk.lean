/- PlacesOk of the program answers, at every Places, as the specification's PlacesOk does, and changes nothing: no condition. -/
import Derived.Test.YtgohihcpmjfhdaaRows
import Derived.Test.YtgohihcpmjfhdaaPlacesS
import Derived.Test.YtgohihcpmjfhdaaPlacesI
import Derived.Test.YtgohihcpmjfhdaaPlsL
import Derived.Test.YtgohihcpmjfhdaaPlsL2
import Derived.Test.YtgohihcpmjfhdaaOpenPls
import Derived.WalkKit
import Derived.ProofKit
import Derived.OpenShut
import Derived.WalkSpells
namespace Go.Proofs.Ytgohihcpmjfhdaa.fnExactPlacesOk
open Go.ChangeShapes Go.WideShapes Go.ChangeAt Go.RowKit
theorem own : ownKnob Try.prog.godebug = none := by kernel_rfl
theorem laidOut : laidOutB Try.prog = true := by kernel_rfl
set_option maxHeartbeats 2000000 in
theorem walk (w : World) (a : Option Addr) (n cap : Nat) (zss : List (List Int)) (hn : n ≤ maxLen) (hs : SlP w w.heap.size a n zss) (hl : ∀ zs ∈ zss, zs.length ≤ maxLen) :
    Calls Try.prog 4 #[.slice a n cap] w fun e w' => e = .returned (.bool true) ∧ Below w.heap.size w w' := by
  have hsz := szPlaceS_any w a n cap zss hn hs hl
  by_cases hfit : n + lens zss ≤ 1048576
  · have hz : szR n zss = ((1048576 - (n + lens zss) : Nat) : Int) := by rw [szR, if_pos hfit]
    rw [hz] at hsz
    have d0 : decide (((1048576 - (n + lens zss) : Nat) : Int) < 0) = false := by simp
    have hn' : n ≤ 1048576 := by omega
    have HL : Hid (∀ zs ∈ zss, zs.length ≤ 1048576) := fun zs h => by have := lens_mem h; omega
    have HLM : Hid (∀ zs ∈ zss, zs.length ≤ maxLen) := hl
    have S0 : Hid (SlP w w.heap.size a n zss) := hs
    clear hs hl hz
    go_enter Try.func4, Try.ntmps4
    go_wp2_with fail
    refine hsz.mono ?_
    clear hsz
    rintro e w1 ⟨rfl, b1⟩
    have B1 : Hid (Below w.heap.size w w1) := b1
    clear b1
    go_wp2_with fail
    refine (toPlaceS_any w1 a n cap zss hn' HL.out (S0.out.later B1.out)).mono ?_
    rintro e w2 ⟨g2, rfl, b2, l2, o2⟩
    have S2 : Hid (SlP w2 w2.heap.size (some ⟨w1.heap.size, 0, none⟩) n zss ∧ Below w.heap.size w w2) := ⟨o2.sl l2, B1.out.trans (b2.mono B1.out.size)⟩
    clear b2 l2 o2
    go_wp2_with fail
    refine (specPlacesOk_any w2 _ n n zss hn S2.out.1).mono ?_
    obtain ⟨V, hV⟩ : ∃ V, placesB zss = V := ⟨_, rfl⟩
    rw [hV]
    rintro e w3 ⟨rfl, b3⟩
    have B3 : Hid (Below w.heap.size w w3) := S2.out.2.trans (b3.mono S2.out.2.size)
    clear b3
    go_wp2_with fail
    refine (toPlaceS_any w3 a n cap zss hn' HL.out (S0.out.later B3.out)).mono ?_
    rintro e w4 ⟨g4, rfl, b4, l4, o4⟩
    have S4 : Hid (SlP w4 w4.heap.size (some ⟨w3.heap.size, 0, none⟩) n zss ∧ Below w.heap.size w w4) := ⟨o4.sl l4, B3.out.trans (b4.mono B3.out.size)⟩
    clear b4 l4 o4
    go_wp2_with fail
    have hI := implPlacesOk_any w4 (some ⟨w3.heap.size, 0, none⟩) n n zss hn S4.out.1
    rw [hV] at hI
    refine hI.mono ?_
    clear hI hV
    rintro e w5 ⟨rfl, b5⟩
    have S5 : Hid (SlP w5 w5.heap.size (some ⟨w3.heap.size, 0, none⟩) n zss ∧ Below w.heap.size w w5) := ⟨S4.out.1.later b5, S4.out.2.trans (b5.mono S4.out.2.size)⟩
    clear b5
    have dV : (V != V) = false := by cases V <;> rfl
    go_wp2_with fail
    refine (toPlaceS_any w5 a n cap zss hn' HL.out (S0.out.later S5.out.2)).mono ?_
    rintro e w6 ⟨g6, rfl, b6, l6, o6⟩
    have S6 : Hid (SlP w6 w6.heap.size (some ⟨w5.heap.size, 0, none⟩) n zss ∧ SlP w6 w6.heap.size (some ⟨w3.heap.size, 0, none⟩) n zss ∧ Below w.heap.size w w6) := ⟨o6.sl l6, S5.out.1.later b6, S5.out.2.trans (b6.mono S5.out.2.size)⟩
    clear b6 l6 o6
    go_wp2_with fail
    refine (eqPlaceS_any w6 _ _ n n n zss hn HLM.out S6.out.2.1 S6.out.1).mono ?_
    rintro e w7 ⟨rfl, b7⟩
    go_wp2
    go_ret
    exact ⟨rfl, S6.out.2.2.trans (b7.mono S6.out.2.2.size)⟩
  · have hz : szR n zss = -1 := by rw [szR, if_neg hfit]
    rw [hz] at hsz
    clear hs hl
    go_enter Try.func4, Try.ntmps4
    go_wp2_with fail
    refine hsz.mono ?_
    clear hsz
    rintro e w1 ⟨rfl, b1⟩
    go_wp2
    go_ret
    exact ⟨rfl, b1⟩
set_option maxRecDepth 100000 in
theorem lifted (os : Os) (started : os.Started) (H : Type) (enc : TypeId × Value → H) :
    ReturnsInHanded {} Try.checked os 4 .any (Rows.fnExactPlacesOkSpec.pre6 enc Try.prog Try.f4 Rows.fnExactPlacesOkRow.domain false) (Rows.fnExactPlacesOkSpec.post enc Try.prog Try.f4 false true false false) := by
  refine returnsInHanded_of_change (C := Try.checked) own started (by kernel_rfl) Try.func4
    (ChangeSpec.witness6 (enc := enc) (C := Try.checked) false ⟨#[], #[.slice none 0 0], []⟩ 8 (by kernel_rfl) (by kernel_rfl) (by kernel_rfl) (by kernel_rfl)) ?_
  intro W base args ds gs before hval0 hW hcnd _
  have hval : ∀ (j : Nat) t v, Try.f4.params[j]? = some t → args[j]? = some v → Value.okWide Try.prog W .any base t v := hval0
  have hW' := hW
  obtain ⟨p, q, hA0, hV, rfl, hfz, hnd⟩ := hW
  have hA : DataW.TrodAll enc Try.prog W 0 (fun _ => true) true Try.f4.params.toList args.toList ds p := hA0
  rw [Try.params4] at hA hval
  obtain ⟨v0, vs0, d0, ds0, p0, q0, hargs, rfl, rfl, h0, r0⟩ := trodAll_cons hA
  obtain ⟨rfl, rfl, rfl⟩ := trodAll_nil r0
  obtain rfl : args = #[v0] := by cases args; simp_all
  obtain ⟨rfl, rfl⟩ := trodVars_none hV
  obtain ⟨a, n, cap, rfl⟩ := okWide_slice Try.underlying42 (hval 0 42 v0 rfl rfl)
  have k0 := h0
  have lt0 : ∀ x ∈ p0, x.block < W.heap.size := by obtain ⟨m, hm⟩ := k0; exact DataW.trod_lt m _ _ _ hm
  obtain ⟨zss, hm, hs, hl⟩ : ∃ (zss : List (List Int)), n ≤ maxLen ∧ SlP W W.heap.size a n zss ∧ ∀ zs ∈ zss, zs.length ≤ maxLen := by
    obtain ⟨fuel, hf⟩ := h0
    obtain ⟨a', n', cap', zss, e, hm, hs, hl⟩ := open_placerow hf
    simp [Value.cells] at e
    obtain ⟨rfl, rfl, rfl⟩ := e
    exact ⟨zss, hm, hs, hl⟩
  clear hA0 hval0
  refine (walk W a n cap zss hm hs hl).mono fun e W' ⟨he, bel⟩ => ?_
  subst he
  exact ⟨_, rfl, _, _, _, [], _, [], hW', trodAll_mk1 (shut_bool Try.underlying4 _), (trodAll_cons_mk (Below.trod laidOut (by kernel_rfl) (of_decide_eq_true (by kernel_rfl)) k0 bel lt0) trodAll_mk0), rfl, bel.frame _, fun h => by cases h⟩

theorem over : Rows.fnExactPlacesOkRow.holds Try.pinned (OpenSpec.ofChange Rows.fnExactPlacesOkSpec) :=
  OpenClaim.holds_of_wide 4 Try.f4 rfl rfl rfl rfl rfl rfl rfl ⟨rfl, rfl, rfl, rfl, rfl⟩ rfl rfl rfl rfl rfl (by kernel_rfl) Try.func4 (by kernel_rfl)
    (of_decide_eq_true (by kernel_rfl)) (by unfold Func.isWrapper; first | (rw [if_pos (by decide +kernel)]; kernel_rfl) | (rw [if_neg (by decide +kernel)]; exact ⟨rfl, rfl⟩))
    (fun os started H enc _ => lifted os started H enc)

end Go.Proofs.Ytgohihcpmjfhdaa.fnExactPlacesOk
namespace Go.Proofs.Ytgohihcpmjfhdaa
theorem fnExactPlacesOk_holds : Rows.FnExactPlacesOkSaid := fnExactPlacesOk.over
#print axioms fnExactPlacesOk_holds
end Go.Proofs.Ytgohihcpmjfhdaa
