/- Look of the program answers, at every row of cells and every slot, as the specification's Look does, and changes nothing: no condition. -/
import Derived.Test.YthadnikhnikceaaRows
import Derived.Test.YthadnikhnikceaaLook
import Derived.Test.YthadnikhnikceaaOpenCells
import Derived.WalkKit
import Derived.ProofKit
import Derived.OpenShut
import Derived.WalkSpells
namespace Go.Proofs.Ythadnikhnikceaa.fnExactLook
open Go.ChangeShapes Go.WideShapes Go.ChangeAt Go.RowKit
theorem own : ownKnob Try.prog.godebug = none := by kernel_rfl
theorem laidOut : laidOutB Try.prog = true := by kernel_rfl
theorem walk_great (w : World) (a : Option Addr) (n cap : Nat) (i : Int) (hn : n ≤ maxLen) (hg : ¬ n ≤ 1048576) :
    Calls Try.prog 7 #[.slice a n cap, .int .i64 i] w fun e w' => e = .returned (.bool true) ∧ Below w.heap.size w w' := by
  go_enter Try.func7, Try.ntmps7
  go_wp2_with fail
  refine (szCellS_any _ a n cap hn).mono ?_
  rw [if_neg hg]
  rintro e w1 ⟨rfl, rfl⟩
  go_wp2
  go_ret
  exact ⟨rfl, Below.refl _ _⟩
set_option maxHeartbeats 2000000 in
theorem walk_small (w : World) (a : Option Addr) (n cap : Nat) (i : Int) (xs : List C2) (hn : n ≤ 1048576) (hs : SlC w w.heap.size a n xs) :
    Calls Try.prog 7 #[.slice a n cap, .int .i64 i] w fun e w' => e = .returned (.bool true) ∧ Below w.heap.size w w' := by
  have hm : n ≤ maxLen := by unfold maxLen; omega
  have d0 : decide ((1048576 : Int) - (n : Int) < 0) = false := by simp; omega
  have S0 : Hid (SlC w w.heap.size a n xs) := hs
  clear hs
  go_enter Try.func7, Try.ntmps7
  go_wp2_with fail
  refine (szCellS_any _ a n cap hm).mono ?_
  rw [if_pos hn]
  rintro e w ⟨rfl, rfl⟩
  go_wp2_with fail
  refine (toCellS_any _ a n cap xs hn S0.out).mono ?_
  rintro e w1 ⟨rfl, b1, l1, s1⟩
  have S1 : Hid (SlC w1 w1.heap.size (some ⟨w.heap.size, 0, none⟩) n xs ∧ Below w.heap.size w w1) := ⟨⟨S0.out.1, .inr ⟨_, 0, rfl, l1, s1⟩⟩, b1⟩
  clear b1 l1 s1
  go_wp2_with fail
  refine (specLook_any _ _ n n i xs hm S1.out.1).mono ?_
  obtain ⟨C, hC⟩ : ∃ C, lookC xs i = C := ⟨_, rfl⟩
  obtain ⟨L, hL⟩ : ∃ L, lookB xs i = L := ⟨_, rfl⟩
  rw [hC, hL]
  have HCL : Hid (lookC xs i = C ∧ lookB xs i = L) := ⟨hC, hL⟩
  clear hC hL
  rintro e w2 ⟨rfl, b2⟩
  have B2 : Hid (Below w.heap.size w w2) := S1.out.2.trans (b2.mono S1.out.2.size)
  clear b2
  go_wp2_with fail
  have c0 : (w2.alloc (.cells #[.int .i64 C.head, .int .i64 C.value] 32)).cell? ⟨w2.heap.size, 0, none⟩ = some (.int .i64 C.head) := by go_simp
  have c1 : (w2.alloc (.cells #[.int .i64 C.head, .int .i64 C.value] 32)).cell? ⟨w2.heap.size, 1, none⟩ = some (.int .i64 C.value) := by go_simp
  have z2 : w2.heap.size < (w2.alloc (.cells #[.int .i64 C.head, .int .i64 C.value] 32)).heap.size := by simp
  have bV : Below w2.heap.size w2 (w2.alloc (.cells #[.int .i64 C.head, .int .i64 C.value] 32)) := (Below.refl _ _).alloc (Nat.le_refl _) _
  generalize w2.alloc (.cells #[.int .i64 C.head, .int .i64 C.value] 32) = V2 at *
  have BV : Hid (Below w.heap.size w V2) := B2.out.trans (bV.mono B2.out.size)
  clear bV
  refine (toCellS_any _ a n cap xs hn (S0.out.later BV.out)).mono ?_
  rintro e w3 ⟨rfl, b3, l3, s3⟩
  have S3 : Hid (SlC w3 w3.heap.size (some ⟨V2.heap.size, 0, none⟩) n xs ∧ Below V2.heap.size V2 w3) := ⟨⟨S0.out.1, .inr ⟨_, 0, rfl, l3, s3⟩⟩, b3⟩
  clear b3 l3 s3
  go_wp2_with fail
  have hlk := implLook_any w3 (some ⟨V2.heap.size, 0, none⟩) n n i xs hm S3.out.1
  rw [HCL.out.1, HCL.out.2] at hlk
  refine hlk.mono ?_
  clear hlk
  rintro e w4 ⟨rfl, b4⟩
  have S4 : Hid (SlC w4 w4.heap.size (some ⟨V2.heap.size, 0, none⟩) n xs ∧ Below V2.heap.size V2 w4) := ⟨S3.out.1.later b4, S3.out.2.trans (b4.mono S3.out.2.size)⟩
  clear b4
  have c0 := (S4.out.2.cell (p := ⟨w2.heap.size, 0, none⟩) z2).trans c0
  have c1 := (S4.out.2.cell (p := ⟨w2.heap.size, 1, none⟩) z2).trans c1
  have z4 : w2.heap.size < w4.heap.size := Nat.lt_of_lt_of_le z2 S4.out.2.size
  go_wp2_with fail
  have bV : Below w4.heap.size w4 (w4.alloc (.cells #[.int .i64 C.head, .int .i64 C.value] 32)) := (Below.refl _ _).alloc (Nat.le_refl _) _
  refine (eqCell_same _ C).mono ?_
  rintro e w5 ⟨rfl, b5⟩
  have B5 : Below w4.heap.size w4 w5 := bV.trans (b5.mono bV.size)
  have S5 : Hid (SlC w5 w5.heap.size (some ⟨V2.heap.size, 0, none⟩) n xs ∧ Below w.heap.size w w5) := ⟨S4.out.1.later B5, BV.out.trans ((S4.out.2.trans (B5.mono S4.out.2.size)).mono BV.out.size)⟩
  clear bV b5 B5 c0 c1
  have dL : (L != L) = false := by cases L <;> rfl
  go_wp2_with fail
  refine (toCellS_any _ a n cap xs hn (S0.out.later S5.out.2)).mono ?_
  rintro e w6 ⟨rfl, b6, l6, s6⟩
  have S6 : Hid (SlC w6 w6.heap.size (some ⟨w5.heap.size, 0, none⟩) n xs ∧ SlC w6 w6.heap.size (some ⟨V2.heap.size, 0, none⟩) n xs ∧ Below w.heap.size w w6) := ⟨⟨S0.out.1, .inr ⟨_, 0, rfl, l6, s6⟩⟩, S5.out.1.later b6, S5.out.2.trans (b6.mono S5.out.2.size)⟩
  clear b6 l6 s6
  go_wp2_with fail
  refine (eqCellS_any _ _ _ n n n xs hm S6.out.2.1 S6.out.1).mono ?_
  rintro e w7 ⟨rfl, b7⟩
  go_wp2
  go_ret
  exact ⟨rfl, S6.out.2.2.trans (b7.mono S6.out.2.2.size)⟩
theorem walk (w : World) (a : Option Addr) (n cap : Nat) (i : Int) (xs : List C2) (hm : n ≤ maxLen) (hs : SlC w w.heap.size a n xs) :
    Calls Try.prog 7 #[.slice a n cap, .int .i64 i] w fun e w' => e = .returned (.bool true) ∧ Below w.heap.size w w' := by
  by_cases h : n ≤ 1048576
  · exact walk_small w a n cap i xs h hs
  · exact walk_great w a n cap i hm h
set_option maxRecDepth 100000 in
theorem lifted (os : Os) (started : os.Started) (H : Type) (enc : TypeId × Value → H) :
    ReturnsInHanded {} Try.checked os 7 .any (Rows.fnExactLookSpec.pre6 enc Try.prog Try.f7 Rows.fnExactLookRow.domain false) (Rows.fnExactLookSpec.post enc Try.prog Try.f7 false true false false) := by
  refine returnsInHanded_of_change (C := Try.checked) own started (by kernel_rfl) Try.func7
    (ChangeSpec.witness6 (enc := enc) (C := Try.checked) false ⟨#[], #[.slice none 0 0, .int .i64 0], []⟩ 8 (by kernel_rfl) (by kernel_rfl) (by kernel_rfl) (by kernel_rfl)) ?_
  intro W base args ds gs before hval0 hW hcnd _
  have hval : ∀ (j : Nat) t v, Try.f7.params[j]? = some t → args[j]? = some v → Value.okWide Try.prog W .any base t v := hval0
  have hW' := hW
  obtain ⟨p, q, hA0, hV, rfl, hfz, hnd⟩ := hW
  have hA : DataW.TrodAll enc Try.prog W 0 (fun _ => true) true Try.f7.params.toList args.toList ds p := hA0
  rw [Try.params7] at hA hval
  obtain ⟨v0, vs0, d0, ds0, p0, q0, hargs, rfl, rfl, h0, r0⟩ := trodAll_cons hA
  obtain ⟨v1, vs1, d1, ds1, p1, q1, rfl, rfl, rfl, h1, r1⟩ := trodAll_cons r0
  obtain ⟨rfl, rfl, rfl⟩ := trodAll_nil r1
  obtain rfl : args = #[v0, v1] := by cases args; simp_all
  obtain ⟨rfl, rfl⟩ := trodVars_none hV
  obtain ⟨a, n, cap, rfl⟩ := okWide_slice Try.underlying41 (hval 0 41 v0 rfl rfl)
  obtain ⟨i, rfl, rfl, rfl, wi⟩ := open_int Try.underlying2 (hval 1 2 v1 rfl rfl) h1
  have k0 := h0
  have k1 := h1
  have lt0 : ∀ x ∈ p0, x.block < W.heap.size := by obtain ⟨m, hm⟩ := k0; exact DataW.trod_lt m _ _ _ hm
  obtain ⟨xs, hm, hs⟩ : ∃ (xs : List C2), n ≤ maxLen ∧ SlC W W.heap.size a n xs := by
    obtain ⟨fuel, hf⟩ := h0
    obtain ⟨a', n', cap', xs, e, hm, hs⟩ := open_cellrow hf
    simp [Value.cells] at e
    obtain ⟨rfl, rfl, rfl⟩ := e
    exact ⟨xs, hm, hs⟩
  clear hA0 hval0
  refine (walk W a n cap i xs hm hs).mono fun e W' ⟨he, bel⟩ => ?_
  subst he
  exact ⟨_, rfl, _, _, _, [], _, [], hW', trodAll_mk1 (shut_bool Try.underlying4 _), (trodAll_cons_mk (Below.trod laidOut (by kernel_rfl) (of_decide_eq_true (by kernel_rfl)) k0 bel lt0) (trodAll_cons_mk (shut_int Try.underlying2 wi) trodAll_mk0)), rfl, bel.frame _, fun h => by cases h⟩

theorem over : Rows.fnExactLookRow.holds Try.pinned (OpenSpec.ofChange Rows.fnExactLookSpec) :=
  OpenClaim.holds_of_wide 7 Try.f7 rfl rfl rfl rfl rfl rfl rfl ⟨rfl, rfl, rfl, rfl, rfl⟩ rfl rfl rfl rfl rfl (by kernel_rfl) Try.func7 (by kernel_rfl)
    (of_decide_eq_true (by kernel_rfl)) (by unfold Func.isWrapper; first | (rw [if_pos (by decide +kernel)]; kernel_rfl) | (rw [if_neg (by decide +kernel)]; exact ⟨rfl, rfl⟩))
    (fun os started H enc _ => lifted os started H enc)

end Go.Proofs.Ythadnikhnikceaa.fnExactLook
namespace Go.Proofs.Ythadnikhnikceaa
theorem fnExactLook_holds : Rows.FnExactLookSaid := fnExactLook.over
#print axioms fnExactLook_holds
end Go.Proofs.Ythadnikhnikceaa
