/- Told of the program answers, at every transaction, as the specification's Told does, and changes nothing: no condition. -/
import Derived.Test.YtcfpancfdjgohaaRows
import Derived.Test.YtcfpancfdjgohaaTold
import Derived.Test.YtcfpancfdjgohaaTxE
import Derived.Test.YtcfpancfdjgohaaOpenTx
import Derived.WalkKit
import Derived.ProofKit
import Derived.OpenShut
import Derived.Deep.RegionWith
import Derived.WalkSpells
namespace Go.Proofs.Ytcfpancfdjgohaa.fnExactTold
open Go.ChangeShapes Go.WideShapes Go.ChangeAt Go.RowKit
theorem own : ownKnob Try.prog.godebug = none := by kernel_rfl
theorem laidOut : laidOutB Try.prog = true := by kernel_rfl
set_option maxHeartbeats 2000000 in
theorem walk_great (w : World) (v : TV) (t : T7) (hl : TL t) (hg : ¬ szT t ≤ 1048576) :
    Calls Try.prog 5 #[v.val t] w fun e w' => e = .returned (.bool true) ∧ Below w.heap.size w w' := by
  obtain ⟨ar, cr, ah, ch⟩ := v
  simp only [TV.val]
  obtain ⟨W, hW⟩ : ∃ W, W = w.alloc (.cells #[.int .i64 t.id, .int .i64 t.home, .int .i64 t.phase, .int .i64 t.count, .slice ar t.reads.length cr, .slice ah t.sets.length ch, .int .i64 t.stamp] 51) := ⟨_, rfl⟩
  have b0 : Hid (Below w.heap.size w W) := by rw [hW]; exact (Below.refl _ _).alloc (Nat.le_refl _) _
  have c1 := szTx_any W ⟨ar, cr, ah, ch⟩ t hl
  rw [leftR_no hg] at c1
  simp only [TV.val] at c1
  clear hg hl
  go_enter Try.func5, Try.ntmps5
  go_wp2_with fail
  rw [← hW]
  clear hW
  refine c1.mono ?_
  clear c1
  rintro e w1 ⟨rfl, b1⟩
  go_wp2
  go_ret
  exact ⟨rfl, b0.out.trans (b1.mono b0.out.size)⟩
set_option maxHeartbeats 8000000 in
theorem walk_small (w : World) (v : TV) (t : T7) (hl : TL t) (hs : SlT w v t) (hg : szT t ≤ 1048576) :
    Calls Try.prog 5 #[v.val t] w fun e w' => e = .returned (.bool true) ∧ Below w.heap.size w w' := by
  have l1 : t.reads.length ≤ 1048576 := by unfold szT at hg; omega
  have l2 : t.sets.length ≤ 1048576 := by unfold szT at hg; omega
  obtain ⟨ar, cr, ah, ch⟩ := v
  have T : Hid (∀ X, SlT X ⟨ar, cr, ah, ch⟩ t → Calls Try.prog 27 #[(TV.mk ar cr ah ch).val t] X fun e w' => ∃ a4 c4 h4 d4, e = .returned ((TV.mk a4 c4 h4 d4).val t) ∧ SlT w' ⟨a4, c4, h4, d4⟩ t ∧ Below X.heap.size X w') := fun X h => (toTx_any X ⟨ar, cr, ah, ch⟩ t l1 l2 h).mono (by rintro e w' ⟨a4, c4, h4, d4, PR, PS, h1, h2, h3⟩; exact ⟨a4, c4, h4, d4, h1, h2.sl, h3⟩)
  have CS : Hid (∀ X a c h d, SlT X ⟨a, c, h, d⟩ t → Calls Try.prog 26 #[(TV.mk a c h d).val t] X fun e w' => e = .returned (.int .i64 (toldR t)) ∧ Below X.heap.size X w') := fun X a c h d hh => specTold_any X ⟨a, c, h, d⟩ t hl hh
  have CI : Hid (∀ X a c h d, SlT X ⟨a, c, h, d⟩ t → Calls Try.prog 28 #[(TV.mk a c h d).val t] X fun e w' => e = .returned (.int .i64 (toldR t)) ∧ Below X.heap.size X w') := fun X a c h d hh => implTold_any X ⟨a, c, h, d⟩ t hl hh
  have CE : Hid (∀ X a c h d a' c' h' d', SlT X ⟨a, c, h, d⟩ t → SlT X ⟨a', c', h', d'⟩ t → Calls Try.prog 29 #[(TV.mk a c h d).val t, (TV.mk a' c' h' d').val t] X fun e w' => e = .returned (.bool true) ∧ Below X.heap.size X w') := fun X a c h d a' c' h' d' h1 h2 => eqTx_same X ⟨a, c, h, d⟩ ⟨a', c', h', d'⟩ t hl h1 h2
  simp only [TV.val] at T CS CI CE ⊢
  obtain ⟨W, hW⟩ : ∃ W, W = w.alloc (.cells #[.int .i64 t.id, .int .i64 t.home, .int .i64 t.phase, .int .i64 t.count, .slice ar t.reads.length cr, .slice ah t.sets.length ch, .int .i64 t.stamp] 51) := ⟨_, rfl⟩
  have b0 : Below w.heap.size w W := by rw [hW]; exact (Below.refl _ _).alloc (Nat.le_refl _) _
  have x0 : BT W w.heap.size ⟨ar, cr, ah, ch⟩ t := by rw [hW]; exact BT.box w ⟨ar, cr, ah, ch⟩ t _
  have c1 := szTx_any W ⟨ar, cr, ah, ch⟩ t hl
  rw [leftR_yes hg] at c1
  simp only [TV.val] at c1
  have d0 : decide (((1048576 - szT t : Nat) : Int) < 0) = false := by simp
  have S0 : Hid (Below w.heap.size w W ∧ SlT W ⟨ar, cr, ah, ch⟩ t ∧ BT W w.heap.size ⟨ar, cr, ah, ch⟩ t) := ⟨b0, hs.later b0, x0⟩
  clear l1 l2 hs hl hg b0 x0
  generalize 1048576 - szT t = lf at *
  go_enter Try.func5, Try.ntmps5
  go_wp2_with fail
  rw [← hW]
  clear hW
  refine c1.mono ?_
  clear c1
  rintro e w1 ⟨rfl, b1⟩
  have S1 : Hid (Below w.heap.size w w1 ∧ SlT w1 ⟨ar, cr, ah, ch⟩ t ∧ BT w1 w.heap.size ⟨ar, cr, ah, ch⟩ t) := ⟨S0.out.1.trans (b1.mono S0.out.1.size), S0.out.2.1.later b1, S0.out.2.2.later b1⟩
  clear b1 S0
  obtain ⟨p0, p1, p2, p3, p4, p5, p6, -, -⟩ := S1.out.2.2
  go_wp2_with fail
  refine (T.out w1 S1.out.2.1).mono ?_
  rintro e w2 ⟨a2, c2, h2, d2, rfl, s2, b2⟩
  have S2 : Hid (Below w.heap.size w w2 ∧ SlT w2 ⟨ar, cr, ah, ch⟩ t ∧ BT w2 w.heap.size ⟨ar, cr, ah, ch⟩ t ∧ SlT w2 ⟨a2, c2, h2, d2⟩ t) := ⟨S1.out.1.trans (b2.mono S1.out.1.size), S1.out.2.1.later b2, S1.out.2.2.later b2, s2⟩
  clear b2 s2 S1 p0 p1 p2 p3 p4 p5 p6
  go_wp2_with fail
  refine (CS.out w2 a2 c2 h2 d2 S2.out.2.2.2).mono ?_
  rintro e w3 ⟨rfl, b3⟩
  have S3 : Hid (Below w.heap.size w w3 ∧ SlT w3 ⟨ar, cr, ah, ch⟩ t ∧ BT w3 w.heap.size ⟨ar, cr, ah, ch⟩ t) := ⟨S2.out.1.trans (b3.mono S2.out.1.size), S2.out.2.1.later b3, S2.out.2.2.1.later b3⟩
  clear b3 S2
  obtain ⟨p0, p1, p2, p3, p4, p5, p6, -, -⟩ := S3.out.2.2
  go_wp2_with fail
  refine (T.out w3 S3.out.2.1).mono ?_
  rintro e w4 ⟨a4, c4, h4, d4, rfl, s4, b4⟩
  have b5 : Below w4.heap.size w4 (w4.alloc (.cells #[.int .i64 t.id, .int .i64 t.home, .int .i64 t.phase, .int .i64 t.count, .slice a4 t.reads.length c4, .slice h4 t.sets.length d4, .int .i64 t.stamp] 27)) := (Below.refl _ _).alloc (Nat.le_refl _) _
  have S5 : Hid (Below w.heap.size w (w4.alloc (.cells #[.int .i64 t.id, .int .i64 t.home, .int .i64 t.phase, .int .i64 t.count, .slice a4 t.reads.length c4, .slice h4 t.sets.length d4, .int .i64 t.stamp] 27)) ∧ SlT (w4.alloc (.cells #[.int .i64 t.id, .int .i64 t.home, .int .i64 t.phase, .int .i64 t.count, .slice a4 t.reads.length c4, .slice h4 t.sets.length d4, .int .i64 t.stamp] 27)) ⟨ar, cr, ah, ch⟩ t ∧ BT (w4.alloc (.cells #[.int .i64 t.id, .int .i64 t.home, .int .i64 t.phase, .int .i64 t.count, .slice a4 t.reads.length c4, .slice h4 t.sets.length d4, .int .i64 t.stamp] 27)) w.heap.size ⟨ar, cr, ah, ch⟩ t ∧ SlT (w4.alloc (.cells #[.int .i64 t.id, .int .i64 t.home, .int .i64 t.phase, .int .i64 t.count, .slice a4 t.reads.length c4, .slice h4 t.sets.length d4, .int .i64 t.stamp] 27)) ⟨a4, c4, h4, d4⟩ t ∧ BT (w4.alloc (.cells #[.int .i64 t.id, .int .i64 t.home, .int .i64 t.phase, .int .i64 t.count, .slice a4 t.reads.length c4, .slice h4 t.sets.length d4, .int .i64 t.stamp] 27)) w4.heap.size ⟨a4, c4, h4, d4⟩ t) := ⟨(S3.out.1.trans (b4.mono S3.out.1.size)).trans (b5.mono (Nat.le_trans S3.out.1.size b4.size)), (S3.out.2.1.later b4).later b5, (S3.out.2.2.later b4).later b5, s4.later b5, BT.box w4 ⟨a4, c4, h4, d4⟩ t _⟩
  clear b4 s4 b5 S3 p0 p1 p2 p3 p4 p5 p6
  go_wp2_with fail
  generalize w4.alloc (.cells #[.int .i64 t.id, .int .i64 t.home, .int .i64 t.phase, .int .i64 t.count, .slice a4 t.reads.length c4, .slice h4 t.sets.length d4, .int .i64 t.stamp] 27) = w5 at *
  refine (CI.out w5 a4 c4 h4 d4 S5.out.2.2.2.1).mono ?_
  rintro e w6 ⟨rfl, b6⟩
  have bd : Below w6.heap.size w6 w6.drew := (Below.refl _ _).drew
  have b6d : Below w5.heap.size w5 w6.drew := b6.trans (bd.mono b6.size)
  have S6 : Hid (Below w.heap.size w w6.drew ∧ SlT w6.drew ⟨ar, cr, ah, ch⟩ t ∧ BT w6 w.heap.size ⟨ar, cr, ah, ch⟩ t ∧ SlT w6.drew ⟨a4, c4, h4, d4⟩ t ∧ BT w6 w4.heap.size ⟨a4, c4, h4, d4⟩ t) := ⟨S5.out.1.trans (b6d.mono S5.out.1.size), S5.out.2.1.later b6d, S5.out.2.2.1.later b6, S5.out.2.2.2.1.later b6d, S5.out.2.2.2.2.later b6⟩
  clear b6 bd b6d S5
  have de : (toldR t != toldR t) = false := by simp
  obtain ⟨p0, p1, p2, p3, p4, p5, p6, -, -⟩ := S6.out.2.2.1
  obtain ⟨e0, e1, e2, e3, e4, e5, e6, -, h46⟩ := S6.out.2.2.2.2
  clear d0
  go_wp2_with fail
  go_region_with (first
    | (go_at_call 27
       refine (T.out w6.drew S6.out.2.1).mono ?_
       rintro e w7 ⟨a7, c7, h7, d7, rfl, s7, b7⟩
       have e0' : w7.cell? ⟨w4.heap.size, 0, none⟩ = some (.int .i64 t.id) := (b7.cell (p := ⟨w4.heap.size, 0, none⟩) h46).trans e0
       have e1' : w7.cell? ⟨w4.heap.size, 1, none⟩ = some (.int .i64 t.home) := (b7.cell (p := ⟨w4.heap.size, 1, none⟩) h46).trans e1
       have e2' : w7.cell? ⟨w4.heap.size, 2, none⟩ = some (.int .i64 t.phase) := (b7.cell (p := ⟨w4.heap.size, 2, none⟩) h46).trans e2
       have e3' : w7.cell? ⟨w4.heap.size, 3, none⟩ = some (.int .i64 t.count) := (b7.cell (p := ⟨w4.heap.size, 3, none⟩) h46).trans e3
       have e4' : w7.cell? ⟨w4.heap.size, 4, none⟩ = some (.slice a4 t.reads.length c4) := (b7.cell (p := ⟨w4.heap.size, 4, none⟩) h46).trans e4
       have e5' : w7.cell? ⟨w4.heap.size, 5, none⟩ = some (.slice h4 t.sets.length d4) := (b7.cell (p := ⟨w4.heap.size, 5, none⟩) h46).trans e5
       have e6' : w7.cell? ⟨w4.heap.size, 6, none⟩ = some (.int .i64 t.stamp) := (b7.cell (p := ⟨w4.heap.size, 6, none⟩) h46).trans e6
       have S7 : Hid (SlT w7 ⟨a4, c4, h4, d4⟩ t ∧ SlT w7 ⟨a7, c7, h7, d7⟩ t ∧ Below w.heap.size w w7) := ⟨S6.out.2.2.2.1.later b7, s7, S6.out.1.trans (b7.mono S6.out.1.size)⟩
       clear s7 b7)
    | (go_at_call 29
       refine (CE.out w7 a4 c4 h4 d4 a7 c7 h7 d7 S7.out.1 S7.out.2.1).mono ?_
       rintro e w8 ⟨rfl, b8⟩))
  all_goals (
    go_wp2
    go_ret
    exact ⟨rfl, S7.out.2.2.trans (b8.mono S7.out.2.2.size)⟩)
theorem walk (w : World) (v : TV) (t : T7) (hl : TL t) (hs : SlT w v t) :
    Calls Try.prog 5 #[v.val t] w fun e w' => e = .returned (.bool true) ∧ Below w.heap.size w w' := by
  by_cases h : szT t ≤ 1048576
  · exact walk_small w v t hl hs h
  · exact walk_great w v t hl h
set_option maxRecDepth 100000 in
theorem lifted (os : Os) (started : os.Started) (H : Type) (enc : TypeId × Value → H) :
    ReturnsInHanded {} Try.checked os 5 .any (Rows.fnExactToldSpec.pre6 enc Try.prog Try.f5 Rows.fnExactToldRow.domain false) (Rows.fnExactToldSpec.post enc Try.prog Try.f5 false true false false) := by
  refine returnsInHanded_of_change (C := Try.checked) own started (by kernel_rfl) Try.func5
    (ChangeSpec.witness6 (enc := enc) (C := Try.checked) false ⟨#[], #[.agg #[.int .i64 0, .int .i64 0, .int .i64 0, .int .i64 0, .slice none 0 0, .slice none 0 0, .int .i64 0]], []⟩ 8 (by kernel_rfl) (by kernel_rfl) (by kernel_rfl) (by kernel_rfl)) ?_
  intro W base args ds gs before hval0 hW hcnd _
  have hval : ∀ (j : Nat) t v, Try.f5.params[j]? = some t → args[j]? = some v → Value.okWide Try.prog W .any base t v := hval0
  have hW' := hW
  obtain ⟨p, q, hA0, hV, rfl, hfz, hnd⟩ := hW
  have hA : DataW.TrodAll enc Try.prog W 0 (fun _ => true) true Try.f5.params.toList args.toList ds p := hA0
  rw [Try.params5] at hA hval
  obtain ⟨v0, vs0, d0, ds0, p0, q0, hargs, rfl, rfl, h0, r0⟩ := trodAll_cons hA
  obtain ⟨rfl, rfl, rfl⟩ := trodAll_nil r0
  obtain rfl : args = #[v0] := by cases args; simp_all
  obtain ⟨rfl, rfl⟩ := trodVars_none hV
  obtain ⟨cs, rfl, hcs⟩ := okWide_struct Try.underlying51 (hval 0 51 v0 rfl rfl)
  have k0 := h0
  have lt0 : ∀ x ∈ p0, x.block < W.heap.size := by obtain ⟨m, hm⟩ := k0; exact DataW.trod_lt m _ _ _ hm
  obtain ⟨v, t, rfl, hs, hl⟩ : ∃ (v : TV) (t : T7), cs = #[.int .i64 t.id, .int .i64 t.home, .int .i64 t.phase, .int .i64 t.count, .slice v.ar t.reads.length v.cr, .slice v.ah t.sets.length v.ch, .int .i64 t.stamp] ∧ SlT W v t ∧ TL t := by
    obtain ⟨fuel, hf⟩ := h0
    obtain ⟨v, t, e, hs, l1⟩ := ot.open_tx hf
    exact ⟨v, t, by cases cs; simpa [Value.cells] using e, hs, l1⟩
  clear hA0 hval0
  refine (walk W v t hl hs).mono fun e W' ⟨he, bel⟩ => ?_
  subst he
  exact ⟨_, rfl, _, _, _, [], _, [], hW', trodAll_mk1 (shut_bool Try.underlying4 _), (trodAll_cons_mk (Below.trod laidOut (by kernel_rfl) (of_decide_eq_true (by kernel_rfl)) k0 bel lt0) trodAll_mk0), rfl, bel.frame _, fun h => by cases h⟩
theorem over : Rows.fnExactToldRow.holds Try.pinned (OpenSpec.ofChange Rows.fnExactToldSpec) :=
  OpenClaim.holds_of_wide 5 Try.f5 rfl rfl rfl rfl rfl rfl rfl ⟨rfl, rfl, rfl, rfl, rfl⟩ rfl rfl rfl rfl rfl (by kernel_rfl) Try.func5 (by kernel_rfl)
    (of_decide_eq_true (by kernel_rfl)) (by unfold Func.isWrapper; first | (rw [if_pos (by decide +kernel)]; kernel_rfl) | (rw [if_neg (by decide +kernel)]; exact ⟨rfl, rfl⟩))
    (fun os started H enc _ => lifted os started H enc)
end Go.Proofs.Ytcfpancfdjgohaa.fnExactTold
namespace Go.Proofs.Ytcfpancfdjgohaa
theorem fnExactTold_holds : Rows.FnExactToldSaid := fnExactTold.over
#print axioms fnExactTold_holds
end Go.Proofs.Ytcfpancfdjgohaa
