/- FreeSlot of the program answers, at every row of cells and every list of numbers, as the specification's FreeSlot does, and changes nothing: no condition. -/
import Derived.Test.YthadnikhnikceaaRows
import Derived.Test.YthadnikhnikceaaFree
import Derived.Lib.SmallJoins
import Derived.Test.YthadnikhnikceaaOpenCells
import Derived.WalkKit
import Derived.ProofKit
import Derived.OpenShut
import Derived.WalkSpells
namespace Go.Proofs.Ythadnikhnikceaa.fnExactFreeSlot
open Go.ChangeShapes Go.WideShapes Go.ChangeAt Go.RowKit
theorem own : ownKnob Try.prog.godebug = none := by kernel_rfl
theorem laidOut : laidOutB Try.prog = true := by kernel_rfl
set_option maxHeartbeats 2000000 in
theorem walk_but (w : World) (a : Option Addr) (n cap : Nat) (a' : Option Addr) (n' cap' : Nat) (hn' : n' ≤ maxLen) (hg : ¬ n' ≤ 1048576) :
    Calls Try.prog 11 #[.slice a n cap, .slice a' n' cap'] w fun e w' => e = .returned (.bool true) ∧ Below w.heap.size w w' := by
  unfold maxLen at hn'
  have q : (1048576 : Int) < (n' : Int) := by omega
  go_enter Try.func11, Try.ntmps11
  go_wp2
  go_ret
  exact ⟨rfl, Below.refl _ _⟩
theorem walk_great (w : World) (a : Option Addr) (n cap : Nat) (a' : Option Addr) (n' cap' : Nat) (hn : n ≤ maxLen) (hg : ¬ n ≤ 1048576) (hn' : n' ≤ 1048576) :
    Calls Try.prog 11 #[.slice a n cap, .slice a' n' cap'] w fun e w' => e = .returned (.bool true) ∧ Below w.heap.size w w' := by
  have q : decide ((1048576 : Int) < (n' : Int)) = false := by simp; omega
  go_enter Try.func11, Try.ntmps11
  go_wp2_with fail
  refine (szCellS_any _ a n cap hn).mono ?_
  rw [if_neg hg]
  rintro e w1 ⟨rfl, rfl⟩
  go_wp2
  go_ret
  exact ⟨rfl, Below.refl _ _⟩
set_option maxHeartbeats 2000000 in
theorem walk_small (w : World) (a : Option Addr) (n cap : Nat) (a' : Option Addr) (n' cap' : Nat) (xs : List C2) (zs : List Int) (hn : n ≤ 1048576) (hs : SlC w w.heap.size a n xs) (hn' : n' ≤ 1048576) (hs' : SlN w w.heap.size a' n' zs) :
    Calls Try.prog 11 #[.slice a n cap, .slice a' n' cap'] w fun e w' => e = .returned (.bool true) ∧ Below w.heap.size w w' := by
  have hm : n ≤ maxLen := by unfold maxLen; omega
  have hm' : n' ≤ maxLen := by unfold maxLen; omega
  have q : decide ((1048576 : Int) < (n' : Int)) = false := by simp; omega
  have d0 : decide ((1048576 : Int) - (n : Int) < 0) = false := by simp; omega
  have S0 : Hid (SlC w w.heap.size a n xs ∧ SlN w w.heap.size a' n' zs) := ⟨hs, hs'⟩
  clear hs hs'
  go_enter Try.func11, Try.ntmps11
  go_wp2_with fail
  refine (szCellS_any _ a n cap hm).mono ?_
  rw [if_pos hn]
  rintro e w ⟨rfl, rfl⟩
  go_wp2_with fail
  refine (toCellS_any _ a n cap xs hn S0.out.1).mono ?_
  rintro e w1 ⟨rfl, b1, l1, s1⟩
  have S1 : Hid (SlC w1 w1.heap.size (some ⟨w.heap.size, 0, none⟩) n xs ∧ Below w.heap.size w w1) := ⟨⟨S0.out.1.1, .inr ⟨_, 0, rfl, l1, s1⟩⟩, b1⟩
  clear b1 l1 s1
  go_wp2_with fail
  refine (toInt64S_any _ a' n' cap' zs hn' (S0.out.2.later S1.out.2)).mono ?_
  rintro e w2 ⟨rfl, b2, l2, s2⟩
  have S2 : Hid (SlC w2 w2.heap.size (some ⟨w.heap.size, 0, none⟩) n xs ∧ SlN w2 w2.heap.size (some ⟨w1.heap.size, 0, none⟩) n' zs ∧ Below w.heap.size w w2) := ⟨S1.out.1.later b2, ⟨S0.out.2.1, .inr ⟨_, 0, rfl, l2, s2⟩⟩, S1.out.2.trans (b2.mono S1.out.2.size)⟩
  clear b2 l2 s2
  go_wp2_with fail
  refine (specFreeSlot_any _ _ n n _ n' n' xs zs hm S2.out.1 hm' S2.out.2.1).mono ?_
  rintro e w3 ⟨rfl, b3⟩
  have B3 : Hid (Below w.heap.size w w3) := S2.out.2.2.trans (b3.mono S2.out.2.2.size)
  clear b3
  go_wp2_with fail
  refine (toCellS_any _ a n cap xs hn (S0.out.1.later B3.out)).mono ?_
  rintro e w4 ⟨rfl, b4, l4, s4⟩
  have S4 : Hid (SlC w4 w4.heap.size (some ⟨w3.heap.size, 0, none⟩) n xs ∧ Below w.heap.size w w4) := ⟨⟨S0.out.1.1, .inr ⟨_, 0, rfl, l4, s4⟩⟩, B3.out.trans (b4.mono B3.out.size)⟩
  clear b4 l4 s4
  go_wp2_with fail
  refine (toInt64S_any _ a' n' cap' zs hn' (S0.out.2.later S4.out.2)).mono ?_
  rintro e w5 ⟨rfl, b5, l5, s5⟩
  have S5 : Hid (SlC w5 w5.heap.size (some ⟨w3.heap.size, 0, none⟩) n xs ∧ SlN w5 w5.heap.size (some ⟨w4.heap.size, 0, none⟩) n' zs ∧ Below w.heap.size w w5) := ⟨S4.out.1.later b5, ⟨S0.out.2.1, .inr ⟨_, 0, rfl, l5, s5⟩⟩, S4.out.2.trans (b5.mono S4.out.2.size)⟩
  clear b5 l5 s5
  go_wp2_with fail
  refine (implFreeSlot_any _ _ n n _ n' n' xs zs hm S5.out.1 hm' S5.out.2.1).mono ?_
  rintro e w6 ⟨rfl, b6⟩
  have S6 : Hid (SlC w6 w6.heap.size (some ⟨w3.heap.size, 0, none⟩) n xs ∧ SlN w6 w6.heap.size (some ⟨w4.heap.size, 0, none⟩) n' zs ∧ Below w.heap.size w w6) := ⟨S5.out.1.later b6, S5.out.2.1.later b6, S5.out.2.2.trans (b6.mono S5.out.2.2.size)⟩
  clear b6
  go_wp2_with fail
  refine (toCellS_any _ a n cap xs hn (S0.out.1.later S6.out.2.2)).mono ?_
  rintro e w7 ⟨rfl, b7, l7, s7⟩
  have S7 : Hid (SlC w7 w7.heap.size (some ⟨w6.heap.size, 0, none⟩) n xs ∧ SlC w7 w7.heap.size (some ⟨w3.heap.size, 0, none⟩) n xs ∧ SlN w7 w7.heap.size (some ⟨w4.heap.size, 0, none⟩) n' zs ∧ Below w.heap.size w w7) := ⟨⟨S0.out.1.1, .inr ⟨_, 0, rfl, l7, s7⟩⟩, S6.out.1.later b7, S6.out.2.1.later b7, S6.out.2.2.trans (b7.mono S6.out.2.2.size)⟩
  clear b7 l7 s7
  go_wp2_with fail
  refine (eqCellS_any _ _ _ n n n xs hm S7.out.2.1 S7.out.1).mono ?_
  rintro e w8 ⟨rfl, b8⟩
  have S8 : Hid (SlN w8 w8.heap.size (some ⟨w4.heap.size, 0, none⟩) n' zs ∧ Below w.heap.size w w8) := ⟨S7.out.2.2.1.later b8, S7.out.2.2.2.trans (b8.mono S7.out.2.2.2.size)⟩
  clear b8
  go_wp2_with fail
  refine (toInt64S_any _ a' n' cap' zs hn' (S0.out.2.later S8.out.2)).mono ?_
  rintro e w9 ⟨rfl, b9, l9, s9⟩
  have S9 : Hid (SlN w9 w9.heap.size (some ⟨w8.heap.size, 0, none⟩) n' zs ∧ SlN w9 w9.heap.size (some ⟨w4.heap.size, 0, none⟩) n' zs ∧ Below w.heap.size w w9) := ⟨⟨S0.out.2.1, .inr ⟨_, 0, rfl, l9, s9⟩⟩, S8.out.1.later b9, S8.out.2.trans (b9.mono S8.out.2.size)⟩
  clear b9 l9 s9
  go_wp2_with fail
  refine (eqInt64S_any _ _ _ n' n' n' zs hm' S9.out.2.1 S9.out.1).mono ?_
  rintro e w10 ⟨rfl, b10⟩
  go_wp2
  go_ret
  exact ⟨rfl, S9.out.2.2.trans (b10.mono S9.out.2.2.size)⟩
theorem walk (w : World) (a : Option Addr) (n cap : Nat) (a' : Option Addr) (n' cap' : Nat) (xs : List C2) (zs : List Int) (hm : n ≤ maxLen) (hs : SlC w w.heap.size a n xs) (hm' : n' ≤ maxLen) (hs' : SlN w w.heap.size a' n' zs) :
    Calls Try.prog 11 #[.slice a n cap, .slice a' n' cap'] w fun e w' => e = .returned (.bool true) ∧ Below w.heap.size w w' := by
  by_cases h' : n' ≤ 1048576
  · by_cases h : n ≤ 1048576
    · exact walk_small w a n cap a' n' cap' xs zs h hs h' hs'
    · exact walk_great w a n cap a' n' cap' hm h h'
  · exact walk_but w a n cap a' n' cap' hm' h'
theorem open_nums {H : Type} {enc : TypeId × Value → H} {w : World} {spare : Nat → Bool} {held : Bool} {fuel : Nat} {cs : List Value} {x : DataW H × List MemPlace}
    (h : DataW.trod enc Try.prog w 0 spare held fuel 25 cs = some x) : ∃ a n cap zs, cs = [.slice a n cap] ∧ n ≤ maxLen ∧ SlN w w.heap.size a n zs := by
  rcases Go.Deep.open_slice Try.underlying25 h with ⟨rfl, _⟩ | ⟨a, len, cap, m, n, D, Pl, rfl, _, hl, hm, hmm, _, hx⟩
  · exact ⟨none, 0, 0, [], rfl, Nat.zero_le _, ⟨rfl, .inl rfl⟩⟩
  · have hlm : len ≤ m := by rw [hmm]; split <;> omega
    have key : ∀ i, i < len → ∃ z : Int, w.cell? (a.add i) = some (.int .i64 z) := fun i hi => by
      obtain ⟨cs', h1, h2⟩ := hx i (by omega)
      rw [cells_num] at h1
      obtain ⟨z, e, _, _⟩ := DataW.trod_int Try.underlying2 h2
      subst e
      have := (World.cells?_some h1).2.2 0 (by omega)
      refine ⟨z, ?_⟩
      simpa [Addr.add] using this
    obtain ⟨zs, hlen, hzs⟩ := some_of len key
    refine ⟨some a, len, cap, zs, rfl, by omega, ⟨hlen, ?_⟩⟩
    by_cases h0 : len = 0
    · exact .inl h0
    · right
      obtain ⟨b, off, spot⟩ := a
      obtain ⟨z, hz⟩ := key 0 (by omega)
      have c0 : w.cell? ⟨b, off, spot⟩ = some (.int .i64 z) := by simpa [Addr.add] using hz
      have hspot : spot = none := by simpa using World.cell?_spot c0
      subst hspot
      refine ⟨b, off, rfl, block_lt_of_cell c0, fun i z e => ?_⟩
      have hk := hzs i z e
      simpa [add_plain] using hk
set_option maxRecDepth 100000 in
theorem lifted (os : Os) (started : os.Started) (H : Type) (enc : TypeId × Value → H) :
    ReturnsInHanded {} Try.checked os 11 .any (Rows.fnExactFreeSlotSpec.pre6 enc Try.prog Try.f11 Rows.fnExactFreeSlotRow.domain false) (Rows.fnExactFreeSlotSpec.post enc Try.prog Try.f11 false true false false) := by
  refine returnsInHanded_of_change (C := Try.checked) own started (by kernel_rfl) Try.func11
    (ChangeSpec.witness6 (enc := enc) (C := Try.checked) false ⟨#[], #[.slice none 0 0, .slice none 0 0], []⟩ 8 (by kernel_rfl) (by kernel_rfl) (by kernel_rfl) (by kernel_rfl)) ?_
  intro W base args ds gs before hval0 hW hcnd _
  have hval : ∀ (j : Nat) t v, Try.f11.params[j]? = some t → args[j]? = some v → Value.okWide Try.prog W .any base t v := hval0
  have hW' := hW
  obtain ⟨p, q, hA0, hV, rfl, hfz, hnd⟩ := hW
  have hA : DataW.TrodAll enc Try.prog W 0 (fun _ => true) true Try.f11.params.toList args.toList ds p := hA0
  rw [Try.params11] at hA hval
  obtain ⟨v0, vs0, d0, ds0, p0, q0, hargs, rfl, rfl, h0, r0⟩ := trodAll_cons hA
  obtain ⟨v1, vs1, d1, ds1, p1, q1, rfl, rfl, rfl, h1, r1⟩ := trodAll_cons r0
  obtain ⟨rfl, rfl, rfl⟩ := trodAll_nil r1
  obtain rfl : args = #[v0, v1] := by cases args; simp_all
  obtain ⟨rfl, rfl⟩ := trodVars_none hV
  obtain ⟨a, n, cap, rfl⟩ := okWide_slice Try.underlying41 (hval 0 41 v0 rfl rfl)
  obtain ⟨a', n', cap', rfl⟩ := okWide_slice Try.underlying25 (hval 1 25 v1 rfl rfl)
  have k0 := h0
  have k1 := h1
  have lt1 : ∀ x ∈ p1, x.block < W.heap.size := by obtain ⟨m, hm⟩ := k1; exact DataW.trod_lt m _ _ _ hm
  have lt0 : ∀ x ∈ p0, x.block < W.heap.size := by obtain ⟨m, hm⟩ := k0; exact DataW.trod_lt m _ _ _ hm
  obtain ⟨xs, hm, hs⟩ : ∃ (xs : List C2), n ≤ maxLen ∧ SlC W W.heap.size a n xs := by
    obtain ⟨fuel, hf⟩ := h0
    obtain ⟨a2, n2, cap2, xs, e, hm, hs⟩ := open_cellrow hf
    simp [Value.cells] at e
    obtain ⟨rfl, rfl, rfl⟩ := e
    exact ⟨xs, hm, hs⟩
  obtain ⟨zs, hm', hs'⟩ : ∃ (zs : List Int), n' ≤ maxLen ∧ SlN W W.heap.size a' n' zs := by
    obtain ⟨fuel, hf⟩ := h1
    obtain ⟨a2, n2, cap2, zs, e, hm, hs⟩ := open_nums hf
    simp [Value.cells] at e
    obtain ⟨rfl, rfl, rfl⟩ := e
    exact ⟨zs, hm, hs⟩
  clear hA0 hval0
  refine (walk W a n cap a' n' cap' xs zs hm hs hm' hs').mono fun e W' ⟨he, bel⟩ => ?_
  subst he
  exact ⟨_, rfl, _, _, _, [], _, [], hW', trodAll_mk1 (shut_bool Try.underlying4 _), (trodAll_cons_mk (Below.trod laidOut (by kernel_rfl) (of_decide_eq_true (by kernel_rfl)) k0 bel lt0) (trodAll_cons_mk (Below.trod laidOut (by kernel_rfl) (of_decide_eq_true (by kernel_rfl)) k1 bel lt1) trodAll_mk0)), rfl, bel.frame _, fun h => by cases h⟩

theorem over : Rows.fnExactFreeSlotRow.holds Try.pinned (OpenSpec.ofChange Rows.fnExactFreeSlotSpec) :=
  OpenClaim.holds_of_wide 11 Try.f11 rfl rfl rfl rfl rfl rfl rfl ⟨rfl, rfl, rfl, rfl, rfl⟩ rfl rfl rfl rfl rfl (by kernel_rfl) Try.func11 (by kernel_rfl)
    (of_decide_eq_true (by kernel_rfl)) (by unfold Func.isWrapper; first | (rw [if_pos (by decide +kernel)]; kernel_rfl) | (rw [if_neg (by decide +kernel)]; exact ⟨rfl, rfl⟩))
    (fun os started H enc _ => lifted os started H enc)

end Go.Proofs.Ythadnikhnikceaa.fnExactFreeSlot
namespace Go.Proofs.Ythadnikhnikceaa
theorem fnExactFreeSlot_holds : Rows.FnExactFreeSlotSaid := fnExactFreeSlot.over
#print axioms fnExactFreeSlot_holds
end Go.Proofs.Ythadnikhnikceaa
