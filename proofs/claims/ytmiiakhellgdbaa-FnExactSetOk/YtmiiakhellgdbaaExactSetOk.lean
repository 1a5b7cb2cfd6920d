/- SetOk of the program answers, at every Set, as the specification's SetOk does, and changes nothing: no condition. -/
import Derived.Test.YtmiiakhellgdbaaRows
import Derived.Test.YtmiiakhellgdbaaSets
import Derived.Test.YtmiiakhellgdbaaOpens
import Derived.WalkKit
import Derived.ProofKit
import Derived.OpenShut
namespace Go.Proofs.Ytmiiakhellgdbaa.fnExactSetOk
open Go.ChangeShapes Go.WideShapes Go.ChangeAt Go.RowKit
theorem own : ownKnob Try.prog.godebug = none := by kernel_rfl
theorem laidOut : laidOutB Try.prog = true := by kernel_rfl
theorem walk (s : S5) (w : World) :
    Calls Try.prog 10 #[.agg #[.int .i64 s.region, .int .i64 s.slot, .int .i64 s.value, .bool s.used, .int .i64 s.version]] w fun e w' => e = .returned (.bool true) ∧ Below w.heap.size w w' := by
  go_enter Try.func10, Try.ntmps10
  go_wp2_with fail
  refine (toSet_any _ s).mono ?_
  rintro e w1 ⟨rfl, b1⟩
  go_wp2_with fail
  refine (specSetOk _ s).mono ?_
  rintro e w2 ⟨rfl, b2⟩
  have b0 := ((Below.refl w.heap.size w).alloc (Nat.le_refl _) (Obj.cells #[.int .i64 s.region, .int .i64 s.slot, .int .i64 s.value, .bool s.used, .int .i64 s.version] 35))
  have b12 : Below (w.heap.size + 1) _ w2 := (b1.mono (by simp)).trans (b2.mono (by have := b1.size; simpa using this))
  have c0 : w2.cell? ⟨w.heap.size, 0, none⟩ = some (.int .i64 s.region) := by rw [b12.cell (p := ⟨w.heap.size, 0, none⟩) (by simp)]; go_simp
  have c1 : w2.cell? ⟨w.heap.size, 1, none⟩ = some (.int .i64 s.slot) := by rw [b12.cell (p := ⟨w.heap.size, 1, none⟩) (by simp)]; go_simp
  have c2 : w2.cell? ⟨w.heap.size, 2, none⟩ = some (.int .i64 s.value) := by rw [b12.cell (p := ⟨w.heap.size, 2, none⟩) (by simp)]; go_simp
  have c3 : w2.cell? ⟨w.heap.size, 3, none⟩ = some (.bool s.used) := by rw [b12.cell (p := ⟨w.heap.size, 3, none⟩) (by simp)]; go_simp
  have c4 : w2.cell? ⟨w.heap.size, 4, none⟩ = some (.int .i64 s.version) := by rw [b12.cell (p := ⟨w.heap.size, 4, none⟩) (by simp)]; go_simp
  go_wp2_with fail
  refine (toSet_any _ s).mono ?_
  rintro e w3 ⟨rfl, b3⟩
  go_wp2_with fail
  refine (implSetOk _ s).mono ?_
  rintro e w4 ⟨rfl, b4⟩
  go_wp2
  go_ret
  refine ⟨rfl, b0.trans ((b12.mono (Nat.le_succ _)).trans ((b3.mono ?_).trans (b4.mono ?_)))⟩
  · have := b1.size; have := b2.size; simp at *; omega
  · have := b1.size; have := b2.size; have := b3.size; simp at *; omega
set_option maxRecDepth 100000 in
theorem lifted (os : Os) (started : os.Started) (H : Type) (enc : TypeId × Value → H) :
    ReturnsInHanded {} Try.checked os 10 .any (Rows.fnExactSetOkSpec.pre6 enc Try.prog Try.f10 Rows.fnExactSetOkRow.domain false) (Rows.fnExactSetOkSpec.post enc Try.prog Try.f10 false true false false) := by
  refine returnsInHanded_of_change (C := Try.checked) own started (by kernel_rfl) Try.func10
    (ChangeSpec.witness6 (enc := enc) (C := Try.checked) false ⟨#[], #[.agg #[.int .i64 0, .int .i64 0, .int .i64 0, .bool false, .int .i64 0]], []⟩ 8 (by kernel_rfl) (by kernel_rfl) (by kernel_rfl) (by kernel_rfl)) ?_
  intro W base args ds gs before hval0 hW hcnd _
  have hval : ∀ (j : Nat) t v, Try.f10.params[j]? = some t → args[j]? = some v → Value.okWide Try.prog W .any base t v := hval0
  have hW' := hW
  obtain ⟨p, q, hA0, hV, rfl, hfz, hnd⟩ := hW
  have hA : DataW.TrodAll enc Try.prog W 0 (fun _ => true) true Try.f10.params.toList args.toList ds p := hA0
  rw [Try.params10] at hA hval
  obtain ⟨v0, vs0, d0, ds0, p0, q0, hargs, rfl, rfl, h0, r0⟩ := trodAll_cons hA
  obtain ⟨rfl, rfl, rfl⟩ := trodAll_nil r0
  obtain rfl : args = #[v0] := by cases args; simp_all
  obtain ⟨rfl, rfl⟩ := trodVars_none hV
  obtain ⟨cs, rfl, hcs⟩ := okWide_struct Try.underlying35 (hval 0 35 v0 rfl rfl)
  have k0 := h0
  have lt0 : ∀ x ∈ p0, x.block < W.heap.size := by obtain ⟨m, hm⟩ := k0; exact DataW.trod_lt m _ _ _ hm
  obtain ⟨s, rfl, ws⟩ : ∃ s : S5, cs = s.cells.toArray ∧ s.wf := by
    obtain ⟨fuel, hf⟩ := h0
    obtain ⟨s, e, ws⟩ := open_set hf
    exact ⟨s, by cases cs; simpa [Value.cells] using e, ws⟩
  clear hA0 hval0
  refine (walk s W).mono fun e W' ⟨he, bel⟩ => ?_
  subst he
  exact ⟨_, rfl, _, _, _, [], _, [], hW', trodAll_mk1 (shut_bool Try.underlying4 _), (trodAll_cons_mk (Below.trod laidOut (by kernel_rfl) (of_decide_eq_true (by kernel_rfl)) k0 bel lt0) trodAll_mk0), rfl, bel.frame _, fun h => by cases h⟩

theorem over : Rows.fnExactSetOkRow.holds Try.pinned (OpenSpec.ofChange Rows.fnExactSetOkSpec) :=
  OpenClaim.holds_of_wide 10 Try.f10 rfl rfl rfl rfl rfl rfl rfl ⟨rfl, rfl, rfl, rfl, rfl⟩ rfl rfl rfl rfl rfl (by kernel_rfl) Try.func10 (by kernel_rfl)
    (of_decide_eq_true (by kernel_rfl)) (by unfold Func.isWrapper; first | (rw [if_pos (by decide +kernel)]; kernel_rfl) | (rw [if_neg (by decide +kernel)]; exact ⟨rfl, rfl⟩))
    (fun os started H enc _ => lifted os started H enc)

end Go.Proofs.Ytmiiakhellgdbaa.fnExactSetOk
namespace Go.Proofs.Ytmiiakhellgdbaa
theorem fnExactSetOk_holds : Rows.FnExactSetOkSaid := fnExactSetOk.over
#print axioms fnExactSetOk_holds
end Go.Proofs.Ytmiiakhellgdbaa
