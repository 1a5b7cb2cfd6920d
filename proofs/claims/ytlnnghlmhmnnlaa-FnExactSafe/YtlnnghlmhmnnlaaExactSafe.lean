/- Safe of the program answers, at every lease and every number beside it, as the specification's Safe does, and changes nothing: no condition. -/
import Derived.Test.YtlnnghlmhmnnlaaRows
import Derived.Test.YtlnnghlmhmnnlaaLease3
import Derived.Test.YtlnnghlmhmnnlaaLeaseL
import Derived.Test.YtlnnghlmhmnnlaaOpenLease
import Derived.WalkKit
import Derived.ProofKit
import Derived.OpenShut
namespace Go.Proofs.Ytlnnghlmhmnnlaa.fnExactSafe
open Go.ChangeShapes Go.WideShapes Go.ChangeAt Go.RowKit
theorem own : ownKnob Try.prog.godebug = none := by kernel_rfl
theorem laidOut : laidOutB Try.prog = true := by kernel_rfl
set_option maxHeartbeats 1000000 in
theorem walk (l : L3) (now d : Int) (w : World) :
    Calls Try.prog 8 #[.agg #[.int .i64 l.holder, .int .i64 l.start, .int .i64 l.length], .int .i64 now, .int .i64 d] w fun e w' => e = .returned (.bool true) ∧ Below w.heap.size w w' := by
  go_enter Try.func8, Try.ntmps8
  go_wp2_with fail
  have B0 : Below w.heap.size w (w.alloc (.cells #[.int .i64 l.holder, .int .i64 l.start, .int .i64 l.length] 34)) := (Below.refl _ _).alloc (Nat.le_refl _) _
  have z0 : w.heap.size < (w.alloc (.cells #[.int .i64 l.holder, .int .i64 l.start, .int .i64 l.length] 34)).heap.size := by simp
  have c0 : (w.alloc (.cells #[.int .i64 l.holder, .int .i64 l.start, .int .i64 l.length] 34)).cell? ⟨w.heap.size, 0, none⟩ = some (.int .i64 l.holder) := by go_simp
  have c1 : (w.alloc (.cells #[.int .i64 l.holder, .int .i64 l.start, .int .i64 l.length] 34)).cell? ⟨w.heap.size, 1, none⟩ = some (.int .i64 l.start) := by go_simp
  have c2 : (w.alloc (.cells #[.int .i64 l.holder, .int .i64 l.start, .int .i64 l.length] 34)).cell? ⟨w.heap.size, 2, none⟩ = some (.int .i64 l.length) := by go_simp
  generalize w.alloc (.cells #[.int .i64 l.holder, .int .i64 l.start, .int .i64 l.length] 34) = W at *
  refine (toLease_any _ l).mono ?_
  rintro e w1 ⟨rfl, b1⟩
  go_wp2_with fail
  refine (specSafe _ l now d).mono ?_
  rintro e w2 ⟨rfl, b2⟩
  have B2 : Below W.heap.size W w2 := b1.trans (b2.mono b1.size)
  have c0 := (B2.cell (p := ⟨w.heap.size, 0, none⟩) z0).trans c0
  have c1 := (B2.cell (p := ⟨w.heap.size, 1, none⟩) z0).trans c1
  have c2 := (B2.cell (p := ⟨w.heap.size, 2, none⟩) z0).trans c2
  have BB : Hid (Below w.heap.size w w2) := B0.trans (B2.mono B0.size)
  clear b1 b2 B0 B2 z0
  go_wp2_with fail
  refine (toLease_any _ l).mono ?_
  rintro e w3 ⟨rfl, b3⟩
  go_wp2_with fail
  refine (implSafe _ l now d).mono ?_
  rintro e w4 ⟨rfl, b4⟩
  have BE : Hid (Below w.heap.size w w4) := BB.out.trans ((b3.trans (b4.mono b3.size)).mono BB.out.size)
  clear b3 b4 BB
  go_wp2
  go_ret
  exact ⟨by simp, BE.out⟩
set_option maxRecDepth 100000 in
theorem lifted (os : Os) (started : os.Started) (H : Type) (enc : TypeId × Value → H) :
    ReturnsInHanded {} Try.checked os 8 .any (Rows.fnExactSafeSpec.pre6 enc Try.prog Try.f8 Rows.fnExactSafeRow.domain false) (Rows.fnExactSafeSpec.post enc Try.prog Try.f8 false true false false) := by
  refine returnsInHanded_of_change (C := Try.checked) own started (by kernel_rfl) Try.func8
    (ChangeSpec.witness6 (enc := enc) (C := Try.checked) false ⟨#[], #[.agg #[.int .i64 0, .int .i64 0, .int .i64 0], .int .i64 0, .int .i64 0], []⟩ 8 (by kernel_rfl) (by kernel_rfl) (by kernel_rfl) (by kernel_rfl)) ?_
  intro W base args ds gs before hval0 hW hcnd _
  have hval : ∀ (j : Nat) t v, Try.f8.params[j]? = some t → args[j]? = some v → Value.okWide Try.prog W .any base t v := hval0
  have hW' := hW
  obtain ⟨p, q, hA0, hV, rfl, hfz, hnd⟩ := hW
  have hA : DataW.TrodAll enc Try.prog W 0 (fun _ => true) true Try.f8.params.toList args.toList ds p := hA0
  rw [Try.params8] at hA hval
  obtain ⟨v0, vs0, d0, ds0, p0, q0, hargs, rfl, rfl, h0, r0⟩ := trodAll_cons hA
  obtain ⟨v1, vs1, d1, ds1, p1, q1, rfl, rfl, rfl, h1, r1⟩ := trodAll_cons r0
  obtain ⟨v2, vs2, d2, ds2, p2, q2, rfl, rfl, rfl, h2, r2⟩ := trodAll_cons r1
  obtain ⟨rfl, rfl, rfl⟩ := trodAll_nil r2
  obtain rfl : args = #[v0, v1, v2] := by cases args; simp_all
  obtain ⟨rfl, rfl⟩ := trodVars_none hV
  obtain ⟨cs, rfl, hcs⟩ := okWide_struct Try.underlying34 (hval 0 34 v0 rfl rfl)
  obtain ⟨now, rfl, rfl, rfl, wi1⟩ := open_int Try.underlying2 (hval 1 2 v1 rfl rfl) h1
  obtain ⟨d, rfl, rfl, rfl, wi2⟩ := open_int Try.underlying2 (hval 2 2 v2 rfl rfl) h2
  have k0 := h0
  have lt0 : ∀ x ∈ p0, x.block < W.heap.size := by obtain ⟨m, hm⟩ := k0; exact DataW.trod_lt m _ _ _ hm
  obtain ⟨l, rfl, ws⟩ : ∃ l : L3, cs = l.cells.toArray ∧ l.wf := by
    obtain ⟨fuel, hf⟩ := h0
    obtain ⟨l, e, ws⟩ := open_lease hf
    exact ⟨l, by cases cs; simpa [Value.cells] using e, ws⟩
  clear hA0 hval0
  refine (walk l now d W).mono fun e W' ⟨he, bel⟩ => ?_
  subst he
  exact ⟨_, rfl, _, _, _, [], _, [], hW', trodAll_mk1 (shut_bool Try.underlying4 _), (trodAll_cons_mk (Below.trod laidOut (by kernel_rfl) (of_decide_eq_true (by kernel_rfl)) k0 bel lt0) (trodAll_cons_mk (shut_int Try.underlying2 wi1) (trodAll_cons_mk (shut_int Try.underlying2 wi2) trodAll_mk0))), rfl, bel.frame _, fun h => by cases h⟩

theorem over : Rows.fnExactSafeRow.holds Try.pinned (OpenSpec.ofChange Rows.fnExactSafeSpec) :=
  OpenClaim.holds_of_wide 8 Try.f8 rfl rfl rfl rfl rfl rfl rfl ⟨rfl, rfl, rfl, rfl, rfl⟩ rfl rfl rfl rfl rfl (by kernel_rfl) Try.func8 (by kernel_rfl)
    (of_decide_eq_true (by kernel_rfl)) (by unfold Func.isWrapper; first | (rw [if_pos (by decide +kernel)]; kernel_rfl) | (rw [if_neg (by decide +kernel)]; exact ⟨rfl, rfl⟩))
    (fun os started H enc _ => lifted os started H enc)

end Go.Proofs.Ytlnnghlmhmnnlaa.fnExactSafe
namespace Go.Proofs.Ytlnnghlmhmnnlaa
theorem fnExactSafe_holds : Rows.FnExactSafeSaid := fnExactSafe.over
#print axioms fnExactSafe_holds
end Go.Proofs.Ytlnnghlmhmnnlaa
