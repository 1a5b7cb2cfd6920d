/- MachineOk of the program answers, at every Machine, as the specification's MachineOk does, and changes nothing: no condition. -/
import Derived.Test.YtcockcdhendplaaRows
import Derived.Test.YtcockcdhendplaaOpenMac
import Derived.Test.YtcockcdhendplaaMacEq
import Derived.Test.YtcockcdhendplaaMacTo4
import Derived.Test.YtcockcdhendplaaMacOk2
import Derived.Test.YtcockcdhendplaaMacOkI
import Derived.WalkKit
import Derived.ProofKit
import Derived.OpenShut
import Derived.Deep.RegionWith
import Derived.WalkSpells
namespace Go.Proofs.Ytcockcdhendplaa.fnExactMachineOk
open Go.ChangeShapes Go.WideShapes Go.ChangeAt Go.RowKit
theorem own : ownKnob Try.prog.godebug = none := by kernel_rfl
theorem laidOut : laidOutB Try.prog = true := by kernel_rfl
/-- A box that holds a machine. -/
structure BoxM (X : World) (s : Nat) (v : MV) (m : M4) : Prop where
  c0 : X.cell? ⟨s, 0, none⟩ = some (.bool m.alive)
  c1 : X.cell? ⟨s, 1, none⟩ = some (.slice v.ac m.copies.length v.cc)
  c2 : X.cell? ⟨s, 2, none⟩ = some (.slice v.al m.log.length v.cl)
  c3 : X.cell? ⟨s, 3, none⟩ = some (.slice v.ad m.cleared.length v.cd)
  lt : s < X.heap.size
theorem BoxM.later {X Y : World} {s : Nat} {v : MV} {m : M4} (h : BoxM X s v m) (hb : Below X.heap.size X Y) : BoxM Y s v m :=
  ⟨(hb.cell (p := ⟨s, 0, none⟩) h.lt).trans h.c0, (hb.cell (p := ⟨s, 1, none⟩) h.lt).trans h.c1, (hb.cell (p := ⟨s, 2, none⟩) h.lt).trans h.c2, (hb.cell (p := ⟨s, 3, none⟩) h.lt).trans h.c3, Nat.lt_of_lt_of_le h.lt hb.size⟩
set_option maxHeartbeats 2000000 in
theorem walk_great (w : World) (v : MV) (m : M4) (hl : ML m) (hs : SlM w v m) (hg : ¬ szM m ≤ 1048576) :
    Calls Try.prog 3 #[v.val m] w fun e w' => e = .returned (.bool true) ∧ Below w.heap.size w w' := by
  obtain ⟨ac, cc, al, cl, ad, cd⟩ := v
  simp only [MV.val]
  have b0 : Below w.heap.size w (w.alloc (.cells #[.bool m.alive, .slice ac m.copies.length cc, .slice al m.log.length cl, .slice ad m.cleared.length cd] 26)) := (Below.refl _ _).alloc (Nat.le_refl _) _
  have S0 : Hid (Below w.heap.size w (w.alloc (.cells #[.bool m.alive, .slice ac m.copies.length cc, .slice al m.log.length cl, .slice ad m.cleared.length cd] 26)) ∧ SlM (w.alloc (.cells #[.bool m.alive, .slice ac m.copies.length cc, .slice al m.log.length cl, .slice ad m.cleared.length cd] 26)) ⟨ac, cc, al, cl, ad, cd⟩ m ∧ ML m) := ⟨b0, hs.later b0, hl⟩
  clear b0 hs hl
  go_enter Try.func3, Try.ntmps3
  go_wp2_with fail
  generalize w.alloc (.cells #[.bool m.alive, .slice ac m.copies.length cc, .slice al m.log.length cl, .slice ad m.cleared.length cd] 26) = W at *
  refine (szMachine_any W ⟨ac, cc, al, cl, ad, cd⟩ m S0.out.2.2 S0.out.2.1).mono ?_
  rw [leftR_no hg]
  rintro e w1 ⟨rfl, b1⟩
  go_wp2
  go_ret
  exact ⟨rfl, S0.out.1.trans (b1.mono S0.out.1.size)⟩
set_option maxHeartbeats 8000000 in
theorem walk_small (w : World) (v : MV) (m : M4) (hl : ML m) (hs : SlM w v m) (hg : szM m ≤ 1048576) :
    Calls Try.prog 3 #[v.val m] w fun e w' => e = .returned (.bool true) ∧ Below w.heap.size w w' := by
  have l1 : m.copies.length ≤ 1048576 := by unfold szM at hg; omega
  have l2 : m.log.length ≤ 1048576 := by unfold szM at hg; omega
  have l3 : m.cleared.length ≤ 1048576 := by unfold szM at hg; omega
  have k1 : ∀ r ∈ m.copies, r.cells.length ≤ 1048576 := fun r h => by
    have : r.cells.length ≤ lensK m.copies := sum_mem (List.mem_map.2 ⟨r, h, rfl⟩)
    unfold szM at hg; omega
  have k2 : ∀ r ∈ m.log, r.sets.length ≤ 1048576 := fun r h => by
    have : r.sets.length ≤ lensR m.log := sum_mem (List.mem_map.2 ⟨r, h, rfl⟩)
    unfold szM at hg; omega
  obtain ⟨ac, cc, al, cl, ad, cd⟩ := v
  have T : Hid (∀ w, SlM w ⟨ac, cc, al, cl, ad, cd⟩ m → Calls Try.prog 8 #[(MV.mk ac cc al cl ad cd).val m] w fun e w' => ∃ c4 k4 l4 j4 d4 i4, e = .returned ((MV.mk c4 k4 l4 j4 d4 i4).val m) ∧ SlM w' ⟨c4, k4, l4, j4, d4, i4⟩ m ∧ Below w.heap.size w w') := fun w h => (toMachine_any w ⟨ac, cc, al, cl, ad, cd⟩ m l1 k1 l2 k2 l3 h).mono (by rintro e w' ⟨⟨c4, k4, l4, j4, d4, i4⟩, _, _, _, _, _, h1, h2, h3⟩; exact ⟨c4, k4, l4, j4, d4, i4, h1, h2.sl, h3⟩)
  simp only [MV.val] at T ⊢
  have HG : Hid (szM m ≤ 1048576) := hg
  have b0 : Below w.heap.size w (w.alloc (.cells #[.bool m.alive, .slice ac m.copies.length cc, .slice al m.log.length cl, .slice ad m.cleared.length cd] 26)) := (Below.refl _ _).alloc (Nat.le_refl _) _
  have x0 : BoxM (w.alloc (.cells #[.bool m.alive, .slice ac m.copies.length cc, .slice al m.log.length cl, .slice ad m.cleared.length cd] 26)) w.heap.size ⟨ac, cc, al, cl, ad, cd⟩ m := by
    refine ⟨?_, ?_, ?_, ?_, ?_⟩
    all_goals first | (go_simp; done) | (simp; done)
  have S0 : Hid (Below w.heap.size w (w.alloc (.cells #[.bool m.alive, .slice ac m.copies.length cc, .slice al m.log.length cl, .slice ad m.cleared.length cd] 26)) ∧ SlM (w.alloc (.cells #[.bool m.alive, .slice ac m.copies.length cc, .slice al m.log.length cl, .slice ad m.cleared.length cd] 26)) ⟨ac, cc, al, cl, ad, cd⟩ m ∧ ML m ∧ BoxM (w.alloc (.cells #[.bool m.alive, .slice ac m.copies.length cc, .slice al m.log.length cl, .slice ad m.cleared.length cd] 26)) w.heap.size ⟨ac, cc, al, cl, ad, cd⟩ m) := ⟨b0, hs.later b0, hl, x0⟩
  clear l1 l2 l3 k1 k2 hs hl hg b0 x0
  go_enter Try.func3, Try.ntmps3
  go_wp2_with fail
  generalize w.alloc (.cells #[.bool m.alive, .slice ac m.copies.length cc, .slice al m.log.length cl, .slice ad m.cleared.length cd] 26) = W at *
  refine (szMachine_any W ⟨ac, cc, al, cl, ad, cd⟩ m S0.out.2.2.1 S0.out.2.1).mono ?_
  rw [leftR_yes HG.out]
  rintro e w1 ⟨rfl, b1⟩
  have S1 : Hid (SlM w1 ⟨ac, cc, al, cl, ad, cd⟩ m ∧ Below w.heap.size w w1 ∧ BoxM w1 w.heap.size ⟨ac, cc, al, cl, ad, cd⟩ m) := ⟨S0.out.2.1.later b1, S0.out.1.trans (b1.mono S0.out.1.size), S0.out.2.2.2.later b1⟩
  clear b1
  have d0 : decide (((1048576 - szM m : Nat) : Int) < 0) = false := by simp
  generalize 1048576 - szM m = lf at *
  have a0 := S1.out.2.2.c0
  have a1 := S1.out.2.2.c1
  have a2 := S1.out.2.2.c2
  have a3 := S1.out.2.2.c3
  go_wp2_with fail
  refine (T.out w1 S1.out.1).mono ?_
  rintro e w2 ⟨c2, k2, l2, j2, d2, i2, rfl, s2, b2⟩
  have S2 : Hid (SlM w2 ⟨ac, cc, al, cl, ad, cd⟩ m ∧ Below w.heap.size w w2 ∧ SlM w2 ⟨c2, k2, l2, j2, d2, i2⟩ m ∧ BoxM w2 w.heap.size ⟨ac, cc, al, cl, ad, cd⟩ m) := ⟨S1.out.1.later b2, S1.out.2.1.trans (b2.mono S1.out.2.1.size), s2, S1.out.2.2.later b2⟩
  clear b2 s2 a0 a1 a2 a3
  go_wp2_with fail
  refine (specMachineOk_any w2 ⟨c2, k2, l2, j2, d2, i2⟩ m S0.out.2.2.1.k S0.out.2.2.1.r S0.out.2.2.1.n S0.out.2.2.1.ks S0.out.2.2.1.rs S2.out.2.2.1).mono ?_
  rintro e w3 ⟨rfl, b3⟩
  have S3 : Hid (SlM w3 ⟨ac, cc, al, cl, ad, cd⟩ m ∧ Below w.heap.size w w3 ∧ BoxM w3 w.heap.size ⟨ac, cc, al, cl, ad, cd⟩ m) := ⟨S2.out.1.later b3, S2.out.2.1.trans (b3.mono S2.out.2.1.size), S2.out.2.2.2.later b3⟩
  clear b3
  have a0 := S3.out.2.2.c0
  have a1 := S3.out.2.2.c1
  have a2 := S3.out.2.2.c2
  have a3 := S3.out.2.2.c3
  go_wp2_with fail
  refine (T.out w3 S3.out.1).mono ?_
  rintro e w4 ⟨c4, k4, l4, j4, d4, i4, rfl, s4, b4⟩
  have b5 : Below w4.heap.size w4 (w4.alloc (.cells #[.bool m.alive, .slice c4 m.copies.length k4, .slice l4 m.log.length j4, .slice d4 m.cleared.length i4] 32)) := (Below.refl _ _).alloc (Nat.le_refl _) _
  have x5 : BoxM (w4.alloc (.cells #[.bool m.alive, .slice c4 m.copies.length k4, .slice l4 m.log.length j4, .slice d4 m.cleared.length i4] 32)) w4.heap.size ⟨c4, k4, l4, j4, d4, i4⟩ m := by
    refine ⟨?_, ?_, ?_, ?_, ?_⟩
    all_goals first | (go_simp; done) | (simp; done)
  have S5 : Hid (SlM (w4.alloc (.cells #[.bool m.alive, .slice c4 m.copies.length k4, .slice l4 m.log.length j4, .slice d4 m.cleared.length i4] 32)) ⟨ac, cc, al, cl, ad, cd⟩ m ∧ Below w.heap.size w (w4.alloc (.cells #[.bool m.alive, .slice c4 m.copies.length k4, .slice l4 m.log.length j4, .slice d4 m.cleared.length i4] 32)) ∧ SlM (w4.alloc (.cells #[.bool m.alive, .slice c4 m.copies.length k4, .slice l4 m.log.length j4, .slice d4 m.cleared.length i4] 32)) ⟨c4, k4, l4, j4, d4, i4⟩ m ∧ BoxM (w4.alloc (.cells #[.bool m.alive, .slice c4 m.copies.length k4, .slice l4 m.log.length j4, .slice d4 m.cleared.length i4] 32)) w.heap.size ⟨ac, cc, al, cl, ad, cd⟩ m ∧ BoxM (w4.alloc (.cells #[.bool m.alive, .slice c4 m.copies.length k4, .slice l4 m.log.length j4, .slice d4 m.cleared.length i4] 32)) w4.heap.size ⟨c4, k4, l4, j4, d4, i4⟩ m) := ⟨(S3.out.1.later b4).later b5, (S3.out.2.1.trans (b4.mono S3.out.2.1.size)).trans (b5.mono (Nat.le_trans S3.out.2.1.size b4.size)), s4.later b5, (S3.out.2.2.later b4).later b5, x5⟩
  clear b4 s4 b5 x5 a0 a1 a2 a3
  go_wp2_with fail
  generalize w4.alloc (.cells #[.bool m.alive, .slice c4 m.copies.length k4, .slice l4 m.log.length j4, .slice d4 m.cleared.length i4] 32) = w5 at *
  refine (implMachineOk_any w5 ⟨c4, k4, l4, j4, d4, i4⟩ m S0.out.2.2.1 S5.out.2.2.1).mono ?_
  rintro e w6 ⟨rfl, b6⟩
  have bd : Below w6.heap.size w6 w6.drew := (Below.refl _ _).drew
  have b6d : Below w5.heap.size w5 w6.drew := b6.trans (bd.mono b6.size)
  have S6 : Hid (SlM w6.drew ⟨ac, cc, al, cl, ad, cd⟩ m ∧ Below w.heap.size w w6.drew ∧ SlM w6.drew ⟨c4, k4, l4, j4, d4, i4⟩ m ∧ BoxM w6 w.heap.size ⟨ac, cc, al, cl, ad, cd⟩ m ∧ BoxM w6 w4.heap.size ⟨c4, k4, l4, j4, d4, i4⟩ m) := ⟨S5.out.1.later b6d, S5.out.2.1.trans (b6d.mono S5.out.2.1.size), S5.out.2.2.1.later b6d, S5.out.2.2.2.1.later b6, S5.out.2.2.2.2.later b6⟩
  clear b6 bd b6d
  have de : (machB m != machB m) = false := by simp
  have a0 := S6.out.2.2.2.1.c0
  have a1 := S6.out.2.2.2.1.c1
  have a2 := S6.out.2.2.2.1.c2
  have a3 := S6.out.2.2.2.1.c3
  have e0 := S6.out.2.2.2.2.c0
  have e1 := S6.out.2.2.2.2.c1
  have e2 := S6.out.2.2.2.2.c2
  have e3 := S6.out.2.2.2.2.c3
  have h46 := S6.out.2.2.2.2.lt
  clear d0
  go_wp2_with fail
  go_region_with (first
    | (go_at_call 8
       refine (T.out w6.drew S6.out.1).mono ?_
       rintro e w7 ⟨c7, k7, l7, j7, d7, i7, rfl, s7, b7⟩
       have e0' : w7.cell? ⟨w4.heap.size, 0, none⟩ = some (.bool m.alive) := (b7.cell (p := ⟨w4.heap.size, 0, none⟩) h46).trans e0
       have e1' : w7.cell? ⟨w4.heap.size, 1, none⟩ = some (.slice c4 m.copies.length k4) := (b7.cell (p := ⟨w4.heap.size, 1, none⟩) h46).trans e1
       have e2' : w7.cell? ⟨w4.heap.size, 2, none⟩ = some (.slice l4 m.log.length j4) := (b7.cell (p := ⟨w4.heap.size, 2, none⟩) h46).trans e2
       have e3' : w7.cell? ⟨w4.heap.size, 3, none⟩ = some (.slice d4 m.cleared.length i4) := (b7.cell (p := ⟨w4.heap.size, 3, none⟩) h46).trans e3
       have S7 : Hid (SlM w7 ⟨c4, k4, l4, j4, d4, i4⟩ m ∧ SlM w7 ⟨c7, k7, l7, j7, d7, i7⟩ m ∧ Below w.heap.size w w7) := ⟨S6.out.2.2.1.later b7, s7, S6.out.2.1.trans (b7.mono S6.out.2.1.size)⟩
       clear s7 b7)
    | (go_at_call 10
       refine (eqMachine_same w7 ⟨c4, k4, l4, j4, d4, i4⟩ ⟨c7, k7, l7, j7, d7, i7⟩ m S0.out.2.2.1 S7.out.1 S7.out.2.1).mono ?_
       rintro e w8 ⟨rfl, b8⟩))
  all_goals (
    go_wp2
    go_ret
    exact ⟨rfl, S7.out.2.2.trans (b8.mono S7.out.2.2.size)⟩)
theorem walk (w : World) (v : MV) (m : M4) (hl : ML m) (hs : SlM w v m) :
    Calls Try.prog 3 #[v.val m] w fun e w' => e = .returned (.bool true) ∧ Below w.heap.size w w' := by
  by_cases h : szM m ≤ 1048576
  · exact walk_small w v m hl hs h
  · exact walk_great w v m hl hs h
set_option maxRecDepth 100000 in
theorem lifted (os : Os) (started : os.Started) (H : Type) (enc : TypeId × Value → H) :
    ReturnsInHanded {} Try.checked os 3 .any (Rows.fnExactMachineOkSpec.pre6 enc Try.prog Try.f3 Rows.fnExactMachineOkRow.domain false) (Rows.fnExactMachineOkSpec.post enc Try.prog Try.f3 false true false false) := by
  refine returnsInHanded_of_change (C := Try.checked) own started (by kernel_rfl) Try.func3
    (ChangeSpec.witness6 (enc := enc) (C := Try.checked) false ⟨#[], #[.agg #[.bool false, .slice none 0 0, .slice none 0 0, .slice none 0 0]], []⟩ 8 (by kernel_rfl) (by kernel_rfl) (by kernel_rfl) (by kernel_rfl)) ?_
  intro W base args ds gs before hval0 hW hcnd _
  have hval : ∀ (j : Nat) t v, Try.f3.params[j]? = some t → args[j]? = some v → Value.okWide Try.prog W .any base t v := hval0
  have hW' := hW
  obtain ⟨p, q, hA0, hV, rfl, hfz, hnd⟩ := hW
  have hA : DataW.TrodAll enc Try.prog W 0 (fun _ => true) true Try.f3.params.toList args.toList ds p := hA0
  rw [Try.params3] at hA hval
  obtain ⟨v0, vs0, d0, ds0, p0, q0, hargs, rfl, rfl, h0, r0⟩ := trodAll_cons hA
  obtain ⟨rfl, rfl, rfl⟩ := trodAll_nil r0
  obtain rfl : args = #[v0] := by cases args; simp_all
  obtain ⟨rfl, rfl⟩ := trodVars_none hV
  obtain ⟨cs, rfl, hcs⟩ := okWide_struct Try.underlying26 (hval 0 26 v0 rfl rfl)
  have k0 := h0
  have lt0 : ∀ x ∈ p0, x.block < W.heap.size := by obtain ⟨m, hm⟩ := k0; exact DataW.trod_lt m _ _ _ hm
  obtain ⟨v, m, rfl, hs, hl⟩ : ∃ (v : MV) (m : M4), cs = #[.bool m.alive, .slice v.ac m.copies.length v.cc, .slice v.al m.log.length v.cl, .slice v.ad m.cleared.length v.cd] ∧ SlM W v m ∧ ML m := by
    obtain ⟨fuel, hf⟩ := h0
    obtain ⟨v, m, e, hs, l1, l2, l3, k1, k2, _⟩ := om.open_machine hf
    exact ⟨v, m, by cases cs; simpa [Value.cells] using e, hs, ⟨l1, k1, l2, k2, l3⟩⟩
  clear hA0 hval0
  refine (walk W v m hl hs).mono fun e W' ⟨he, bel⟩ => ?_
  subst he
  exact ⟨_, rfl, _, _, _, [], _, [], hW', trodAll_mk1 (shut_bool Try.underlying4 _), (trodAll_cons_mk (Below.trod laidOut (by kernel_rfl) (of_decide_eq_true (by kernel_rfl)) k0 bel lt0) trodAll_mk0), rfl, bel.frame _, fun h => by cases h⟩

theorem over : Rows.fnExactMachineOkRow.holds Try.pinned (OpenSpec.ofChange Rows.fnExactMachineOkSpec) :=
  OpenClaim.holds_of_wide 3 Try.f3 rfl rfl rfl rfl rfl rfl rfl ⟨rfl, rfl, rfl, rfl, rfl⟩ rfl rfl rfl rfl rfl (by kernel_rfl) Try.func3 (by kernel_rfl)
    (of_decide_eq_true (by kernel_rfl)) (by unfold Func.isWrapper; first | (rw [if_pos (by decide +kernel)]; kernel_rfl) | (rw [if_neg (by decide +kernel)]; exact ⟨rfl, rfl⟩))
    (fun os started H enc _ => lifted os started H enc)

end Go.Proofs.Ytcockcdhendplaa.fnExactMachineOk
namespace Go.Proofs.Ytcockcdhendplaa
theorem fnExactMachineOk_holds : Rows.FnExactMachineOkSaid := fnExactMachineOk.over
#print axioms fnExactMachineOk_holds
end Go.Proofs.Ytcockcdhendplaa
