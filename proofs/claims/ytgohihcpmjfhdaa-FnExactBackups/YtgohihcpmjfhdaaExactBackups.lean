/- Backups of the program answers, at every Places and every number, as the specification's Backups does, its answer owns its memory, and nothing that was there is changed: no condition. -/
import Derived.Test.YtgohihcpmjfhdaaRows
import Derived.Test.YtgohihcpmjfhdaaPlacesS2
import Derived.Test.YtgohihcpmjfhdaaPlacesI
import Derived.Test.YtgohihcpmjfhdaaPlsL
import Derived.Test.YtgohihcpmjfhdaaPlsL2
import Derived.Test.YtgohihcpmjfhdaaOpenPls
import Derived.Test.YtgohihcpmjfhdaaPlsM
import Derived.Test.YtgohihcpmjfhdaaMarkOwn
import Derived.WalkKit
import Derived.ProofKit
import Derived.OpenShut
import Derived.WalkSpells
namespace Go.Proofs.Ytgohihcpmjfhdaa.fnExactBackups
open Go.ChangeShapes Go.WideShapes Go.ChangeAt Go.RowKit
theorem own : ownKnob Try.prog.godebug = none := by kernel_rfl
theorem laidOut : laidOutB Try.prog = true := by kernel_rfl
set_option maxHeartbeats 4000000 in
theorem walk (w : World) (a : Option Addr) (n cap : Nat) (r : Int) (zss : List (List Int)) (hn : n ≤ maxLen) (hs : SlP w w.heap.size a n zss) (hl : ∀ zs ∈ zss, zs.length ≤ maxLen) :
    Calls Try.prog 7 #[.slice a n cap, .int .i64 r] w fun e w' => e = .returned (.bool true) ∧ Below w.heap.size w w' := by
  have hsz := szPlaceS_any w a n cap zss hn hs hl
  by_cases hfit : n + lens zss ≤ 1048576
  · have hz : szR n zss = ((1048576 - (n + lens zss) : Nat) : Int) := by rw [szR, if_pos hfit]
    rw [hz] at hsz
    have d0 : decide (((1048576 - (n + lens zss) : Nat) : Int) < 0) = false := by simp
    have hn' : n ≤ 1048576 := by omega
    have hl' : lens zss ≤ 1048576 := by omega
    have HL : Hid (∀ zs ∈ zss, zs.length ≤ 1048576) := fun zs h => by have := lens_mem h; omega
    have HLM : Hid (∀ zs ∈ zss, zs.length ≤ maxLen) := hl
    have S0 : Hid (SlP w w.heap.size a n zss) := hs
    have hL3 : (backL zss r).length ≤ 3 := backL_len zss r
    have hSB := fun W a' c' (h : SlP W W.heap.size a' n zss) => specBackups_any W a' n c' r zss hn h
    have hIB := fun W a' c' (h : SlP W W.heap.size a' n zss) => implBackups_any W a' n c' r zss hn h
    generalize backL zss r = L at *
    have HSB : Hid _ := hSB
    have HIB : Hid (∀ (W : World) (a' : Option Addr) (c' : Nat), SlP W W.heap.size a' n zss → Calls Try.prog 20 #[.slice a' n c', .int .i64 r] W fun e w' => ∃ b cap', e = .returned (.slice b L.length cap') ∧ ON w' W.heap.size (.slice b L.length cap') L ∧ Below W.heap.size W w') := hIB
    have hLm : L.length ≤ maxLen := by unfold maxLen; omega
    have hL20 : L.length ≤ 1048576 := by omega
    clear hs hl hz hSB hIB
    go_enter Try.func7, Try.ntmps7
    go_wp2_with fail
    refine hsz.mono ?_
    clear hsz
    rintro e w1 ⟨rfl, b1⟩
    have B1 : Hid (Below w.heap.size w w1) := b1
    clear b1
    go_wp2_with fail
    refine (toPlaceS_any w1 a n cap zss hn' HL.out (S0.out.later B1.out)).mono ?_
    rintro e w2 ⟨g2, rfl, b2, l2, o2⟩
    have S2 : Hid (SlP w2 w2.heap.size (some ⟨w1.heap.size, 0, none⟩) n zss ∧ Below w.heap.size w w2) := ⟨o2.sl l2, B1.out.trans (b2.mono B1.out.size)⟩
    clear b2 l2 o2
    go_wp2_with fail
    refine (HSB.out w2 _ n S2.out.1).mono ?_
    rintro e w3 ⟨q3, c3, rfl, o3, b3⟩
    have S3 : Hid (SlN w3 w3.heap.size (some ⟨q3, 0, none⟩) L.length L ∧ Below w.heap.size w w3) := ⟨o3.sl rfl, S2.out.2.trans (b3.mono S2.out.2.size)⟩
    clear b3 o3
    go_wp2_with fail
    refine (toPlaceS_any w3 a n cap zss hn' HL.out (S0.out.later S3.out.2)).mono ?_
    rintro e w4 ⟨g4, rfl, b4, l4, o4⟩
    have S4 : Hid (OwnP w4 w3.heap.size w3.heap.size n zss g4 ∧ w3.heap.size < w4.heap.size ∧ Below w3.heap.size w3 w4) := ⟨o4, l4, b4⟩
    clear b4 l4 o4
    go_wp2_with fail
    refine (HIB.out w4 _ n (S4.out.1.sl S4.out.2.1)).mono ?_
    rintro e w5 ⟨a5, c5, rfl, o5, b5⟩
    have S5 : Hid (OwnP w5 w3.heap.size w3.heap.size n zss g4 ∧ w3.heap.size < w5.heap.size ∧ Below w3.heap.size w3 w5 ∧ ON w5 w4.heap.size (.slice a5 L.length c5) L ∧ w4.heap.size ≤ w5.heap.size ∧ (∀ i, i < n → g4 i < w4.heap.size) ∧ w3.heap.size < w4.heap.size) := ⟨S4.out.1.later b5 S4.out.2.1, Nat.lt_of_lt_of_le S4.out.2.1 b5.size, S4.out.2.2.trans (b5.mono S4.out.2.2.size), o5, b5.size, S4.out.1.lt, S4.out.2.1⟩
    have W34 : Hid (w3.heap.size ≤ w4.heap.size) := Nat.le_of_lt S4.out.2.1
    have W45 : Hid (w4.heap.size ≤ w5.heap.size) := b5.size
    clear b5 o5 S4
    go_wp2_with fail
    refine (eqInt64S_any w5 _ _ L.length c5 c3 L hLm (S5.out.2.2.2.1.sl rfl) (S3.out.1.later S5.out.2.2.1)).mono ?_
    rintro e w6 ⟨rfl, b6⟩
    have S6 : Hid (OwnP w6 w3.heap.size w3.heap.size n zss g4 ∧ w3.heap.size < w6.heap.size ∧ Below w3.heap.size w3 w6 ∧ ON w6 w4.heap.size (.slice a5 L.length c5) L ∧ w4.heap.size ≤ w6.heap.size ∧ (∀ i, i < n → g4 i < w4.heap.size) ∧ w3.heap.size < w4.heap.size) := ⟨S5.out.1.later b6 S5.out.2.1, Nat.lt_of_lt_of_le S5.out.2.1 b6.size, S5.out.2.2.1.trans (b6.mono S5.out.2.2.1.size), S5.out.2.2.2.1.below b6, Nat.le_trans S5.out.2.2.2.2.1 b6.size, S5.out.2.2.2.2.2⟩
    have W46 : Hid (w4.heap.size ≤ w6.heap.size) := Nat.le_trans W45.out b6.size
    clear b6 S5
    go_wp2_with fail
    refine (toPlaceS_any w6 a n cap zss hn' HL.out (S0.out.later (S3.out.2.trans (S6.out.2.2.1.mono S3.out.2.size)))).mono ?_
    rintro e w7 ⟨g7, rfl, b7, l7, o7⟩
    have S7 : Hid (OwnP w7 w3.heap.size w3.heap.size n zss g4 ∧ w3.heap.size < w7.heap.size ∧ Below w3.heap.size w3 w7 ∧ ON w7 w4.heap.size (.slice a5 L.length c5) L ∧ (∀ i, i < n → g4 i < w4.heap.size) ∧ w3.heap.size < w4.heap.size ∧ SlP w7 w7.heap.size (some ⟨w6.heap.size, 0, none⟩) n zss) := ⟨S6.out.1.later b7 S6.out.2.1, Nat.lt_of_lt_of_le S6.out.2.1 b7.size, S6.out.2.2.1.trans (b7.mono S6.out.2.2.1.size), S6.out.2.2.2.1.below b7, S6.out.2.2.2.2.2.1, S6.out.2.2.2.2.2.2, o7.sl l7⟩
    have W47 : Hid (w4.heap.size ≤ w7.heap.size) := Nat.le_trans W46.out b7.size
    clear b7 l7 o7 S6
    go_wp2_with fail
    refine (eqPlaceS_any w7 _ _ n n n zss hn HLM.out (S7.out.1.sl S7.out.2.1) S7.out.2.2.2.2.2.2).mono ?_
    rintro e w8 ⟨rfl, b8⟩
    have S8 : Hid (OwnP w8 w3.heap.size w3.heap.size n zss g4 ∧ w3.heap.size < w8.heap.size ∧ Below w3.heap.size w3 w8 ∧ ON w8 w4.heap.size (.slice a5 L.length c5) L ∧ (∀ i, i < n → g4 i < w4.heap.size) ∧ w3.heap.size < w4.heap.size) := ⟨S7.out.1.later b8 S7.out.2.1, Nat.lt_of_lt_of_le S7.out.2.1 b8.size, S7.out.2.2.1.trans (b8.mono S7.out.2.2.1.size), S7.out.2.2.2.1.below b8, S7.out.2.2.2.2.1, S7.out.2.2.2.2.2.1⟩
    have W48 : Hid (w4.heap.size ≤ w8.heap.size) := Nat.le_trans W47.out b8.size
    clear b8 S7
    go_wp2_with fail
    refine (markPlaceS_own w8 w3.heap.size w3.heap.size n n zss g4 1 hn' hl' (by omega) (by omega) S8.out.1).mono ?_
    rintro e w9 ⟨rfl, kp, _⟩
    have S9 : Hid (Below w3.heap.size w3 w9 ∧ ON w9 w4.heap.size (.slice a5 L.length c5) L ∧ w4.heap.size ≤ w9.heap.size) := by
      refine ⟨S8.out.2.2.1.trans (kp.below S8.out.1.low), S8.out.2.2.2.1.kept fun x e => kp.block x (fun i hi e' => ?_), ?_⟩
      · have h1 := (World.ownsRow.lt S8.out.2.2.2.1 x e).1
        have h2 := S8.out.2.2.2.2.1 i hi
        omega
      · rw [kp.size]; exact W48.out
    clear kp S8
    have d9 : decide ((1 : Int) + (lens zss : Int) < 0) = false := by simp; omega
    go_wp2_with fail
    refine (eqInt64S_any w9 _ _ L.length c5 c3 L hLm (S9.out.2.1.sl rfl) (S3.out.1.later S9.out.1)).mono ?_
    rintro e w10 ⟨rfl, b10⟩
    have S10 : Hid (Below w3.heap.size w3 w10 ∧ ON w10 w4.heap.size (.slice a5 L.length c5) L ∧ w3.heap.size ≤ w4.heap.size) := ⟨S9.out.1.trans (b10.mono S9.out.1.size), S9.out.2.1.below b10, W34.out⟩
    clear b10 S9
    go_wp2_with fail
    refine (mark_on w10 w4.heap.size a5 L.length c5 L 1 rfl hL20 (by omega) (by omega) S10.out.2.1).mono ?_
    rintro e w11 ⟨rfl, b11, s11, -, -⟩
    have S11 : Hid (Below w3.heap.size w3 w11 ∧ SlN w11 w11.heap.size a5 L.length (marks L.length 1)) := ⟨S10.out.1.trans (b11.mono S10.out.2.2), s11⟩
    clear b11 s11 S10
    go_wp2_with fail
    refine (heldInt64S_any w11 a5 L.length c5 1 hL20 (by omega) (by omega) S11.out.2).mono ?_
    rintro e w11 ⟨rfl, rfl⟩
    have d11 : decide ((1 : Int) + (L.length : Int) < 0) = false := by simp; omega
    have q11 : ((1 : Int) + (L.length : Int) != (1 : Int) + (L.length : Int)) = false := by simp
    go_wp2_with fail
    refine (toPlaceS_any w11 a n cap zss hn' HL.out (S0.out.later (S3.out.2.trans (S11.out.1.mono S3.out.2.size)))).mono ?_
    rintro e w12 ⟨g12, rfl, b12, l12, o12⟩
    have S12 : Hid (Below w3.heap.size w3 w12 ∧ SlN w12 w12.heap.size a5 L.length (marks L.length 1) ∧ SlP w12 w12.heap.size (some ⟨w11.heap.size, 0, none⟩) n zss) := ⟨S11.out.1.trans (b12.mono S11.out.1.size), S11.out.2.later b12, o12.sl l12⟩
    clear b12 l12 o12 S11
    go_wp2_with fail
    refine (HIB.out w12 _ n S12.out.2.2).mono ?_
    rintro e w13 ⟨a13, c13, rfl, o13, b13⟩
    have S13 : Hid (Below w3.heap.size w3 w13 ∧ SlN w13 w13.heap.size a5 L.length (marks L.length 1) ∧ SlN w13 w13.heap.size a13 L.length L) := ⟨S12.out.1.trans (b13.mono S12.out.1.size), S12.out.2.1.later b13, o13.sl rfl⟩
    clear b13 o13 S12
    go_wp2_with fail
    refine (eqInt64S_any w13 _ _ L.length c13 c3 L hLm S13.out.2.2 (S3.out.1.later S13.out.1)).mono ?_
    rintro e w14 ⟨rfl, b14⟩
    have S14 : Hid (Below w3.heap.size w3 w14 ∧ SlN w14 w14.heap.size a5 L.length (marks L.length 1)) := ⟨S13.out.1.trans (b14.mono S13.out.1.size), S13.out.2.1.later b14⟩
    clear b14 S13
    go_wp2_with fail
    refine (heldInt64S_any w14 a5 L.length c5 1 hL20 (by omega) (by omega) S14.out.2).mono ?_
    rintro e w14 ⟨rfl, rfl⟩
    go_wp2
    go_ret
    exact ⟨rfl, S3.out.2.trans (S14.out.1.mono S3.out.2.size)⟩
  · have hz : szR n zss = -1 := by rw [szR, if_neg hfit]
    rw [hz] at hsz
    clear hs hl
    go_enter Try.func7, Try.ntmps7
    go_wp2_with fail
    refine hsz.mono ?_
    clear hsz
    rintro e w1 ⟨rfl, b1⟩
    go_wp2
    go_ret
    exact ⟨rfl, b1⟩
set_option maxRecDepth 100000 in
theorem lifted (os : Os) (started : os.Started) (H : Type) (enc : TypeId × Value → H) :
    ReturnsInHanded {} Try.checked os 7 .any (Rows.fnExactBackupsSpec.pre6 enc Try.prog Try.f7 Rows.fnExactBackupsRow.domain false) (Rows.fnExactBackupsSpec.post enc Try.prog Try.f7 false true false false) := by
  refine returnsInHanded_of_change (C := Try.checked) own started (by kernel_rfl) Try.func7
    (ChangeSpec.witness6 (enc := enc) (C := Try.checked) false ⟨#[], #[.slice none 0 0, .int .i64 0], []⟩ 8 (by kernel_rfl) (by kernel_rfl) (by kernel_rfl) (by kernel_rfl)) ?_
  intro W base args ds gs before hval0 hW hcnd _
  have hval : ∀ (j : Nat) t v, Try.f7.params[j]? = some t → args[j]? = some v → Value.okWide Try.prog W .any base t v := hval0
  have hW' := hW
  obtain ⟨p, q, hA0, hV, rfl, hfz, hnd⟩ := hW
  have hA : DataW.TrodAll enc Try.prog W 0 (fun _ => true) true Try.f7.params.toList args.toList ds p := hA0
  rw [Try.params7] at hA hval
  obtain ⟨v0, vs0, d0, ds0, p0, q0, hargs, rfl, rfl, h0, r0⟩ := trodAll_cons hA
  obtain ⟨v1, vs1, d1, ds1, p1, q1, rfl, rfl, rfl, h1, r1⟩ := trodAll_cons r0
  obtain ⟨rfl, rfl, rfl⟩ := trodAll_nil r1
  obtain rfl : args = #[v0, v1] := by cases args; simp_all
  obtain ⟨rfl, rfl⟩ := trodVars_none hV
  obtain ⟨a, n, cap, rfl⟩ := okWide_slice Try.underlying42 (hval 0 42 v0 rfl rfl)
  obtain ⟨r, rfl, rfl, rfl, wi⟩ := open_int Try.underlying2 (hval 1 2 v1 rfl rfl) h1
  have k0 := h0
  have lt0 : ∀ x ∈ p0, x.block < W.heap.size := by obtain ⟨m, hm⟩ := k0; exact DataW.trod_lt m _ _ _ hm
  obtain ⟨zss, hm, hs, hl⟩ : ∃ (zss : List (List Int)), n ≤ maxLen ∧ SlP W W.heap.size a n zss ∧ ∀ zs ∈ zss, zs.length ≤ maxLen := by
    obtain ⟨fuel, hf⟩ := h0
    obtain ⟨a', n', cap', zss, e, hm, hs, hl⟩ := open_placerow hf
    simp [Value.cells] at e
    obtain ⟨rfl, rfl, rfl⟩ := e
    exact ⟨zss, hm, hs, hl⟩
  clear hA0 hval0
  refine (walk W a n cap r zss hm hs hl).mono fun e W' ⟨he, bel⟩ => ?_
  subst he
  exact ⟨_, rfl, _, _, _, [], _, [], hW', trodAll_mk1 (shut_bool Try.underlying4 _), (trodAll_cons_mk (Below.trod laidOut (by kernel_rfl) (of_decide_eq_true (by kernel_rfl)) k0 bel lt0) (trodAll_cons_mk (shut_int Try.underlying2 wi) trodAll_mk0)), rfl, bel.frame _, fun h => by cases h⟩

theorem over : Rows.fnExactBackupsRow.holds Try.pinned (OpenSpec.ofChange Rows.fnExactBackupsSpec) :=
  OpenClaim.holds_of_wide 7 Try.f7 rfl rfl rfl rfl rfl rfl rfl ⟨rfl, rfl, rfl, rfl, rfl⟩ rfl rfl rfl rfl rfl (by kernel_rfl) Try.func7 (by kernel_rfl)
    (of_decide_eq_true (by kernel_rfl)) (by unfold Func.isWrapper; first | (rw [if_pos (by decide +kernel)]; kernel_rfl) | (rw [if_neg (by decide +kernel)]; exact ⟨rfl, rfl⟩))
    (fun os started H enc _ => lifted os started H enc)

end Go.Proofs.Ytgohihcpmjfhdaa.fnExactBackups
namespace Go.Proofs.Ytgohihcpmjfhdaa
theorem fnExactBackups_holds : Rows.FnExactBackupsSaid := fnExactBackups.over
#print axioms fnExactBackups_holds
end Go.Proofs.Ytgohihcpmjfhdaa
