/- NewTx of the program answers, at every two numbers, as the specification's NewTx does, in memory of its own: no condition. -/
import Derived.Test.YtijphfbcojfjpaaRows
import Derived.Test.YtijphfbcojfjpaaTxN
import Derived.WalkKit
import Derived.ProofKit
import Derived.OpenShut
import Derived.WalkSpells
namespace Go.Proofs.Ytijphfbcojfjpaa.fnExactNewTx
open Go.ChangeShapes Go.WideShapes Go.ChangeAt Go.RowKit
theorem own : ownKnob Try.prog.godebug = none := by kernel_rfl
set_option maxHeartbeats 8000000 in
theorem walk (w : World) (i h : Int) :
    Calls Try.prog 6 #[.int .i64 i, .int .i64 h] w fun e w' => e = .returned (.bool true) ∧ Below w.heap.size w w' := by
  have HN : Hid (TS (newT i h)) := newT_short i h
  have A1 : Hid (∀ X, Calls Try.prog 33 #[.int .i64 i, .int .i64 h] X (TAns X (newT i h) (newB i h))) := fun X => specNewTx_any X i h
  have A2 : Hid (∀ X, Calls Try.prog 34 #[.int .i64 i, .int .i64 h] X (TAns X (newT i h) (newB i h))) := fun X => implNewTx_any X i h
  generalize newT i h = N at *
  generalize newB i h = ok at *
  have CE : Hid (∀ X a c h d a' c' h' d', SlT X ⟨a, c, h, d⟩ N → SlT X ⟨a', c', h', d'⟩ N → Calls Try.prog 32 #[.agg #[.int .i64 N.id, .int .i64 N.home, .int .i64 N.phase, .int .i64 N.count, .slice a N.reads.length c, .slice h N.sets.length d, .int .i64 N.stamp], .agg #[.int .i64 N.id, .int .i64 N.home, .int .i64 N.phase, .int .i64 N.count, .slice a' N.reads.length c', .slice h' N.sets.length d', .int .i64 N.stamp]] X fun e w' => e = .returned (.bool true) ∧ Below X.heap.size X w') := fun X a c h d a' c' h' d' h1 h2 => eqTx_same X ⟨a, c, h, d⟩ ⟨a', c', h', d'⟩ N HN.out.tl h1 h2
  have CM : Hid (∀ X B a c h d PR PS, OT X B ⟨a, c, h, d⟩ N PR PS → Calls Try.prog 35 #[.agg #[.int .i64 N.id, .int .i64 N.home, .int .i64 N.phase, .int .i64 N.count, .slice a N.reads.length c, .slice h N.sets.length d, .int .i64 N.stamp], .int .i64 1] X fun e w' => e = .returned (.int .i64 (endT N 1)) ∧ KeptP (OfT PR PS) X w' ∧ OT w' B ⟨a, c, h, d⟩ (mkT N 1) PR PS) := fun X B a c h d PR PS h1 => markTx_any X B ⟨a, c, h, d⟩ N PR PS 1 (by omega) (by omega) HN.out.r HN.out.s h1
  have CH : Hid (∀ X a c h d, SlT X ⟨a, c, h, d⟩ (mkT N 1) → Calls Try.prog 36 #[.agg #[.int .i64 N.id, .int .i64 N.home, .int .i64 N.phase, .int .i64 N.count, .slice a N.reads.length c, .slice h N.sets.length d, .int .i64 N.stamp], .int .i64 1] X fun e w' => e = .returned (.int .i64 (endT N 1)) ∧ Below X.heap.size X w') := fun X a c h d h1 => heldTx_any X ⟨a, c, h, d⟩ N 1 (by omega) (by omega) HN.out.r HN.out.s h1
  have dF : decide (endT N 1 < 0) = false := by have := endT_nonneg N; simp; omega
  have dM : (endT N 1 != endT N 1) = false := by simp
  have dB : (ok != ok) = false := by simp
  generalize endT N 1 = F at *
  go_enter Try.func6, Try.ntmps6
  go_wp2_with fail
  refine (A1.out w).mono ?_
  rintro e w1 ⟨wa, wc, wh, wd, _, _, rfl, ow, b1⟩
  have bV : Below w1.heap.size w1 (w1.alloc (.cells #[.int .i64 N.id, .int .i64 N.home, .int .i64 N.phase, .int .i64 N.count, .slice wa N.reads.length wc, .slice wh N.sets.length wd, .int .i64 N.stamp] 27)) := (Below.refl _ _).alloc (Nat.le_refl _) _
  have S1 : Hid (Below w.heap.size w (w1.alloc (.cells #[.int .i64 N.id, .int .i64 N.home, .int .i64 N.phase, .int .i64 N.count, .slice wa N.reads.length wc, .slice wh N.sets.length wd, .int .i64 N.stamp] 27)) ∧ SlT (w1.alloc (.cells #[.int .i64 N.id, .int .i64 N.home, .int .i64 N.phase, .int .i64 N.count, .slice wa N.reads.length wc, .slice wh N.sets.length wd, .int .i64 N.stamp] 27)) ⟨wa, wc, wh, wd⟩ N ∧ BT (w1.alloc (.cells #[.int .i64 N.id, .int .i64 N.home, .int .i64 N.phase, .int .i64 N.count, .slice wa N.reads.length wc, .slice wh N.sets.length wd, .int .i64 N.stamp] 27)) w1.heap.size ⟨wa, wc, wh, wd⟩ N) := ⟨b1.trans (bV.mono b1.size), ow.sl.later bV, BT.box w1 ⟨wa, wc, wh, wd⟩ N _⟩
  clear b1 ow bV A1
  go_wp2_with fail
  generalize w1.alloc (.cells #[.int .i64 N.id, .int .i64 N.home, .int .i64 N.phase, .int .i64 N.count, .slice wa N.reads.length wc, .slice wh N.sets.length wd, .int .i64 N.stamp] 27) = v1 at *
  refine (A2.out v1).mono ?_
  rintro e w2 ⟨ga, gc, gh, gd, QR, QS, rfl, og, b2⟩
  have bV : Below w2.heap.size w2 (w2.alloc (.cells #[.int .i64 N.id, .int .i64 N.home, .int .i64 N.phase, .int .i64 N.count, .slice ga N.reads.length gc, .slice gh N.sets.length gd, .int .i64 N.stamp] 27)) := (Below.refl _ _).alloc (Nat.le_refl _) _
  have b12 : Below v1.heap.size v1 (w2.alloc (.cells #[.int .i64 N.id, .int .i64 N.home, .int .i64 N.phase, .int .i64 N.count, .slice ga N.reads.length gc, .slice gh N.sets.length gd, .int .i64 N.stamp] 27)) := b2.trans (bV.mono b2.size)
  have S2 : Hid (Below v1.heap.size v1 (w2.alloc (.cells #[.int .i64 N.id, .int .i64 N.home, .int .i64 N.phase, .int .i64 N.count, .slice ga N.reads.length gc, .slice gh N.sets.length gd, .int .i64 N.stamp] 27)) ∧ OT (w2.alloc (.cells #[.int .i64 N.id, .int .i64 N.home, .int .i64 N.phase, .int .i64 N.count, .slice ga N.reads.length gc, .slice gh N.sets.length gd, .int .i64 N.stamp] 27)) v1.heap.size ⟨ga, gc, gh, gd⟩ N QR QS ∧ BT (w2.alloc (.cells #[.int .i64 N.id, .int .i64 N.home, .int .i64 N.phase, .int .i64 N.count, .slice ga N.reads.length gc, .slice gh N.sets.length gd, .int .i64 N.stamp] 27)) w2.heap.size ⟨ga, gc, gh, gd⟩ N ∧ v1.heap.size ≤ w2.heap.size ∧ (∀ q, OfT QR QS q → q < w2.heap.size)) := ⟨b12, og.later bV, BT.box w2 ⟨ga, gc, gh, gd⟩ N _, b2.size, fun q hq => (og.of hq).2⟩
  clear b2 og bV b12
  obtain ⟨y0, y1, y2, y3, y4, y5, y6, -, -⟩ := S1.out.2.2.later S2.out.1
  obtain ⟨g0, g1, g2, g3, g4, g5, g6, -, -⟩ := S2.out.2.2.1
  go_wp2_with fail
  generalize w2.alloc (.cells #[.int .i64 N.id, .int .i64 N.home, .int .i64 N.phase, .int .i64 N.count, .slice ga N.reads.length gc, .slice gh N.sets.length gd, .int .i64 N.stamp] 27) = v2 at *
  refine (CE.out v2 ga gc gh gd wa wc wh wd S2.out.2.1.sl (S1.out.2.1.later S2.out.1)).mono ?_
  clear y0 y1 y2 y3 y4 y5 y6 g0 g1 g2 g3 g4 g5 g6
  rintro e w3 ⟨rfl, b3⟩
  have S3 : Hid (Below v1.heap.size v1 w3 ∧ OT w3 v1.heap.size ⟨ga, gc, gh, gd⟩ N QR QS ∧ BT w3 w2.heap.size ⟨ga, gc, gh, gd⟩ N) := ⟨S2.out.1.trans (b3.mono S2.out.1.size), S2.out.2.1.later b3, S2.out.2.2.1.later b3⟩
  clear b3
  obtain ⟨g0, g1, g2, g3, g4, g5, g6, -, -⟩ := S3.out.2.2
  go_wp2_with fail
  refine (CM.out w3 v1.heap.size ga gc gh gd QR QS S3.out.2.1).mono ?_
  clear g0 g1 g2 g3 g4 g5 g6
  rintro e w4 ⟨rfl, k4, o4⟩
  have S4 : Hid (Below v1.heap.size v1 w4 ∧ SlT w4 ⟨ga, gc, gh, gd⟩ (mkT N 1) ∧ BT w4 w2.heap.size ⟨ga, gc, gh, gd⟩ N) := by
    have bk : Below v1.heap.size w3 w4 := k4.below (fun q hq => (S3.out.2.1.of hq).1) S3.out.1.size
    exact ⟨S3.out.1.trans bk, o4.sl, S3.out.2.2.of_block (k4.block _ S3.out.2.2.lt (fun e => by have := S2.out.2.2.2.2 _ e; omega)) k4.size⟩
  clear k4 o4 S3
  obtain ⟨g0, g1, g2, g3, g4, g5, g6, -, -⟩ := S4.out.2.2
  go_wp2_with fail
  refine (CH.out w4 ga gc gh gd S4.out.2.1).mono ?_
  clear g0 g1 g2 g3 g4 g5 g6
  rintro e w5 ⟨rfl, b5⟩
  have S5 : Hid (Below v1.heap.size v1 w5 ∧ SlT w5 ⟨ga, gc, gh, gd⟩ (mkT N 1) ∧ BT w5 w2.heap.size ⟨ga, gc, gh, gd⟩ N) := ⟨S4.out.1.trans (b5.mono S4.out.1.size), S4.out.2.1.later b5, S4.out.2.2.later b5⟩
  clear b5 S4
  go_wp2_with fail
  refine (A2.out w5).mono ?_
  rintro e w6 ⟨ha, hc, hh, hd, _, _, rfl, oh, b6⟩
  have bV : Below w6.heap.size w6 (w6.alloc (.cells #[.int .i64 N.id, .int .i64 N.home, .int .i64 N.phase, .int .i64 N.count, .slice ha N.reads.length hc, .slice hh N.sets.length hd, .int .i64 N.stamp] 27)) := (Below.refl _ _).alloc (Nat.le_refl _) _
  have b56 : Below w5.heap.size w5 (w6.alloc (.cells #[.int .i64 N.id, .int .i64 N.home, .int .i64 N.phase, .int .i64 N.count, .slice ha N.reads.length hc, .slice hh N.sets.length hd, .int .i64 N.stamp] 27)) := b6.trans (bV.mono b6.size)
  have S6 : Hid (Below v1.heap.size v1 (w6.alloc (.cells #[.int .i64 N.id, .int .i64 N.home, .int .i64 N.phase, .int .i64 N.count, .slice ha N.reads.length hc, .slice hh N.sets.length hd, .int .i64 N.stamp] 27)) ∧ SlT (w6.alloc (.cells #[.int .i64 N.id, .int .i64 N.home, .int .i64 N.phase, .int .i64 N.count, .slice ha N.reads.length hc, .slice hh N.sets.length hd, .int .i64 N.stamp] 27)) ⟨ga, gc, gh, gd⟩ (mkT N 1) ∧ BT (w6.alloc (.cells #[.int .i64 N.id, .int .i64 N.home, .int .i64 N.phase, .int .i64 N.count, .slice ha N.reads.length hc, .slice hh N.sets.length hd, .int .i64 N.stamp] 27)) w2.heap.size ⟨ga, gc, gh, gd⟩ N ∧ SlT (w6.alloc (.cells #[.int .i64 N.id, .int .i64 N.home, .int .i64 N.phase, .int .i64 N.count, .slice ha N.reads.length hc, .slice hh N.sets.length hd, .int .i64 N.stamp] 27)) ⟨ha, hc, hh, hd⟩ N ∧ BT (w6.alloc (.cells #[.int .i64 N.id, .int .i64 N.home, .int .i64 N.phase, .int .i64 N.count, .slice ha N.reads.length hc, .slice hh N.sets.length hd, .int .i64 N.stamp] 27)) w6.heap.size ⟨ha, hc, hh, hd⟩ N) := ⟨S5.out.1.trans (b56.mono S5.out.1.size), S5.out.2.1.later b56, S5.out.2.2.later b56, oh.sl.later bV, BT.box w6 ⟨ha, hc, hh, hd⟩ N _⟩
  clear b6 oh bV b56 S5 A2
  obtain ⟨y0, y1, y2, y3, y4, y5, y6, -, -⟩ := S1.out.2.2.later S6.out.1
  obtain ⟨g0, g1, g2, g3, g4, g5, g6, -, -⟩ := S6.out.2.2.2.2
  go_wp2_with fail
  generalize w6.alloc (.cells #[.int .i64 N.id, .int .i64 N.home, .int .i64 N.phase, .int .i64 N.count, .slice ha N.reads.length hc, .slice hh N.sets.length hd, .int .i64 N.stamp] 27) = v6 at *
  refine (CE.out v6 ha hc hh hd wa wc wh wd S6.out.2.2.2.1 (S1.out.2.1.later S6.out.1)).mono ?_
  clear y0 y1 y2 y3 y4 y5 y6 g0 g1 g2 g3 g4 g5 g6
  rintro e w7 ⟨rfl, b7⟩
  have S7 : Hid (Below w.heap.size w w7 ∧ SlT w7 ⟨ga, gc, gh, gd⟩ (mkT N 1) ∧ BT w7 w2.heap.size ⟨ga, gc, gh, gd⟩ N) := ⟨S1.out.1.trans ((S6.out.1.trans (b7.mono S6.out.1.size)).mono S1.out.1.size), S6.out.2.1.later b7, S6.out.2.2.1.later b7⟩
  clear b7 S6
  obtain ⟨g0, g1, g2, g3, g4, g5, g6, -, -⟩ := S7.out.2.2
  go_wp2_with fail
  refine (CH.out w7 ga gc gh gd S7.out.2.1).mono ?_
  clear g0 g1 g2 g3 g4 g5 g6
  rintro e w8 ⟨rfl, b8⟩
  go_wp2
  go_ret
  exact ⟨rfl, S7.out.1.trans (b8.mono S7.out.1.size)⟩
set_option maxRecDepth 100000 in
theorem lifted (os : Os) (started : os.Started) (H : Type) (enc : TypeId × Value → H) :
    ReturnsInHanded {} Try.checked os 6 .any (Rows.fnExactNewTxSpec.pre6 enc Try.prog Try.f6 Rows.fnExactNewTxRow.domain false) (Rows.fnExactNewTxSpec.post enc Try.prog Try.f6 false true false false) := by
  refine returnsInHanded_of_change (C := Try.checked) own started (by kernel_rfl) Try.func6
    (ChangeSpec.witness6 (enc := enc) (C := Try.checked) false ⟨#[], #[.int .i64 0, .int .i64 0], []⟩ 8 (by kernel_rfl) (by kernel_rfl) (by kernel_rfl) (by kernel_rfl)) ?_
  intro W base args ds gs before hval0 hW hcnd _
  have hval : ∀ (j : Nat) t v, Try.f6.params[j]? = some t → args[j]? = some v → Value.okWide Try.prog W .any base t v := hval0
  have hW' := hW
  obtain ⟨p, q, hA0, hV, rfl, hfz, hnd⟩ := hW
  have hA : DataW.TrodAll enc Try.prog W 0 (fun _ => true) true Try.f6.params.toList args.toList ds p := hA0
  rw [Try.params6] at hA hval
  obtain ⟨v0, vs0, d0, ds0, p0, q0, hargs, rfl, rfl, h0, r0⟩ := trodAll_cons hA
  obtain ⟨v1, vs1, d1, ds1, p1, q1, rfl, rfl, rfl, h1, r1⟩ := trodAll_cons r0
  obtain ⟨rfl, rfl, rfl⟩ := trodAll_nil r1
  obtain rfl : args = #[v0, v1] := by cases args; simp_all
  obtain ⟨rfl, rfl⟩ := trodVars_none hV
  obtain ⟨i0, rfl, rfl, rfl, wi0⟩ := open_int Try.underlying2 (hval 0 2 v0 rfl rfl) h0
  obtain ⟨i1, rfl, rfl, rfl, wi1⟩ := open_int Try.underlying2 (hval 1 2 v1 rfl rfl) h1
  clear hA0 hval0
  refine (walk W i0 i1).mono fun e W' ⟨he, bel⟩ => ?_
  subst he
  exact ⟨_, rfl, _, _, _, [], _, [], hW', trodAll_mk1 (shut_bool Try.underlying4 _), (trodAll_cons_mk (shut_int Try.underlying2 wi0) (trodAll_cons_mk (shut_int Try.underlying2 wi1) trodAll_mk0)), rfl, bel.frame _, fun h => by cases h⟩
theorem over : Rows.fnExactNewTxRow.holds Try.pinned (OpenSpec.ofChange Rows.fnExactNewTxSpec) :=
  OpenClaim.holds_of_wide 6 Try.f6 rfl rfl rfl rfl rfl rfl rfl ⟨rfl, rfl, rfl, rfl, rfl⟩ rfl rfl rfl rfl rfl (by kernel_rfl) Try.func6 (by kernel_rfl)
    (of_decide_eq_true (by kernel_rfl)) (by unfold Func.isWrapper; first | (rw [if_pos (by decide +kernel)]; kernel_rfl) | (rw [if_neg (by decide +kernel)]; exact ⟨rfl, rfl⟩))
    (fun os started H enc _ => lifted os started H enc)
end Go.Proofs.Ytijphfbcojfjpaa.fnExactNewTx
namespace Go.Proofs.Ytijphfbcojfjpaa
theorem fnExactNewTx_holds : Rows.FnExactNewTxSaid := fnExactNewTx.over
#print axioms fnExactNewTx_holds
end Go.Proofs.Ytijphfbcojfjpaa
