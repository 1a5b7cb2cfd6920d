/- The law FnHeads returns true whatever its bytes: a head is told apart into what it was packed of, and the next one's version is one more. No condition. -/
import Derived.Test.YtilgcdlicklaeaaRows
import Derived.Test.YtilgcdlicklaeaaHeads
import Derived.Test.YtilgcdlicklaeaaDraw
import Derived.WalkKit
import Derived.ProofKit
import Derived.OpenShut
import Derived.ShutString
import Derived.ChangeOld
import Derived.Below
namespace Go.Proofs.Ytilgcdlicklaeaa.fnHeads
open Go.ChangeShapes Go.WideShapes Go.ChangeAt Go.RowKit
open Go.ChangeMaps (open_string shut_string)
set_option linter.unusedVariables false

theorem own : ownKnob Try.prog.godebug = none := by kernel_rfl
theorem laidOut : laidOutB Try.prog = true := by kernel_rfl

/-- What the walk is told of the bytes that came in. -/
def IsRow (k : IntKind) (w : World) (a : Option Addr) (len cap : Nat) (zs : List Int) : Prop :=
  (a = none ∧ len = 0 ∧ cap = 0 ∧ zs = []) ∨
  ∃ x, a = some x ∧ len ≤ cap ∧ cap ≤ maxLen ∧ zs.length = cap ∧ (∀ i, i < zs.length → w.cell? (x.add i) = some (.int k (zs.getD i 0))) ∧ ∀ n ∈ zs, (Lit.int k n).wf = true
theorem IsRow.bytes {w : World} {a : Option Addr} {n k : Nat} {zs : List Int} (h : IsRow .u8 w a n k zs) : Bytes w w.heap.size a n := by
  rcases h with ⟨rfl, rfl, rfl, rfl⟩ | ⟨x, rfl, hl, hm, hz, hc, hw⟩
  · exact ⟨by unfold maxLen; omega, .inl rfl⟩
  · refine ⟨by omega, ?_⟩
    by_cases h0 : n = 0
    · exact .inl h0
    · obtain ⟨b, off, rfl, hcc⟩ := ints_at hc (by omega)
      exact .inr ⟨b, off, rfl, World.block_lt_of_cell? w _ (hcc 0 (by omega)), fun i hi => ⟨zs.getD i 0, hcc i (by omega), by simpa using range_u8 hw i⟩⟩
set_option maxHeartbeats 1000000 in
theorem walk (a0 : Option Addr) (len0 cap0 : Nat) (z0 : List Int) (w : World) (w0 : IsRow .u8 w a0 len0 cap0 z0) :
    Calls Try.prog 3 #[.slice a0 len0 cap0] w fun e w' => e = .returned (.bool true) ∧ Below w.heap.size w w' := by
  have hb := w0.bytes
  clear w0
  by_cases hn : len0 ≤ 4096
  · go_enter Try.func3, Try.ntmps3
    go_wp2_with (go_at_call 10; go_in)
    refine (DrawPack_any _ a0 len0 cap0 hb hn).mono ?_
    rintro e w1 ⟨v, u, l, rfl, hbe1⟩
    have hb1 := (hb.below hbe1).mono hbe1.size
    by_cases hv : v < 0 ∨ 1000000 < v
    · go_wp2_with (first | (go_at_call 12; refine (implPack_no _ _ _ _ hv).mono ?_; rintro e w' ⟨rfl, rfl⟩) | (go_at_call 13; refine (specPack_no _ _ _ _ hv).mono ?_; rintro e w' ⟨rfl, rfl⟩))
      refine (DrawNext_any _ a0 len0 cap0 hb1 hn).mono ?_
      rintro e w2 ⟨x, t, rfl, hbe2⟩
      have hbe := hbe1.trans (hbe2.mono hbe1.size)
      by_cases hx : x < 0 ∨ 4000003 < x
      · go_wp2_with (first | (go_at_call 19; refine (implNext_no _ _ _ hx).mono ?_; rintro e w' ⟨rfl, rfl⟩) | (go_at_call 20; refine (specNext_no _ _ _ hx).mono ?_; rintro e w' ⟨rfl, rfl⟩) | (go_at_call 17; refine (implHeadOk_no _ _ hx).mono ?_; rintro e w' ⟨rfl, rfl⟩))
        go_ret
        exact ⟨rfl, hbe⟩
      · by_cases hl : x < 4000000
        · have hx0 : 0 ≤ x := by omega
          clear hx
          obtain ⟨hbd0, hbd1⟩ := bump_cases t false
          have g1 := bump_version (x / 4 + 1) t false
          have g2 := bump_used (x / 4 + 1) t false
          have g3 := bump_locked (x / 4 + 1) t false
          go_wp2_with (first | (go_at_call 19; refine (implNext_yes _ _ _ hx0 hl).mono ?_; rintro e w' ⟨rfl, rfl⟩) | (go_at_call 20; refine (specNext_yes _ _ _ hx0 hl).mono ?_; rintro e w' ⟨rfl, rfl⟩) | (go_at_call 14; refine (implVersion_yes _ _ (by omega) (by omega)).mono ?_; rintro e w' ⟨rfl, rfl⟩) | (go_at_call 15; refine (implUsed_yes _ _ (by omega) (by omega)).mono ?_; rintro e w' ⟨rfl, rfl⟩) | (go_at_call 16; refine (implLocked_yes _ _ (by omega) (by omega)).mono ?_; rintro e w' ⟨rfl, rfl⟩) | (go_at_call 17; refine (implHeadOk_yes _ _ (by omega) (by omega)).mono ?_; rintro e w' ⟨rfl, rfl⟩))
          go_ret
          exact ⟨rfl, hbe⟩
        · have hx0 : 4000000 ≤ x := by omega
          have hx1 : x ≤ 4000003 := by omega
          clear hx hl
          have d : (x / 4 == 1000000) = true := by simp; omega
          go_wp2_with (first | (go_at_call 19; refine (implNext_last _ _ _ hx0 hx1).mono ?_; rintro e w' ⟨rfl, rfl⟩) | (go_at_call 20; refine (specNext_last _ _ _ hx0 hx1).mono ?_; rintro e w' ⟨rfl, rfl⟩) | (go_at_call 14; refine (implVersion_yes _ _ (by omega) (by omega)).mono ?_; rintro e w' ⟨rfl, rfl⟩) | (go_at_call 15; refine (implUsed_yes _ _ (by omega) (by omega)).mono ?_; rintro e w' ⟨rfl, rfl⟩) | (go_at_call 16; refine (implLocked_yes _ _ (by omega) (by omega)).mono ?_; rintro e w' ⟨rfl, rfl⟩) | (go_at_call 17; refine (implHeadOk_yes _ _ (by omega) (by omega)).mono ?_; rintro e w' ⟨rfl, rfl⟩))
          go_ret
          exact ⟨rfl, hbe⟩
    · have hv0 : 0 ≤ v := by omega
      have hv1 : v ≤ 1000000 := by omega
      clear hv
      have hbc := bump_cases u l
      obtain ⟨hbc0, hbc1⟩ := hbc
      have e1 := bump_version v u l
      have e2 := bump_used v u l
      have e3 := bump_locked v u l
      go_wp2_with (first | (go_at_call 12; refine (implPack_yes _ _ _ _ hv0 hv1).mono ?_; rintro e w' ⟨rfl, rfl⟩) | (go_at_call 13; refine (specPack_yes _ _ _ _ hv0 hv1).mono ?_; rintro e w' ⟨rfl, rfl⟩) | (go_at_call 14; refine (implVersion_yes _ _ (by omega) (by omega)).mono ?_; rintro e w' ⟨rfl, rfl⟩) | (go_at_call 15; refine (implUsed_yes _ _ (by omega) (by omega)).mono ?_; rintro e w' ⟨rfl, rfl⟩) | (go_at_call 16; refine (implLocked_yes _ _ (by omega) (by omega)).mono ?_; rintro e w' ⟨rfl, rfl⟩) | (go_at_call 17; refine (implHeadOk_yes _ _ (by omega) (by omega)).mono ?_; rintro e w' ⟨rfl, rfl⟩))
      clear e1 e2 e3 hbc0 hbc1 hv0 hv1
      refine (DrawNext_any _ a0 len0 cap0 hb1 hn).mono ?_
      rintro e w2 ⟨x, t, rfl, hbe2⟩
      have hbe := hbe1.trans (hbe2.mono hbe1.size)
      by_cases hx : x < 0 ∨ 4000003 < x
      · go_wp2_with (first | (go_at_call 19; refine (implNext_no _ _ _ hx).mono ?_; rintro e w' ⟨rfl, rfl⟩) | (go_at_call 20; refine (specNext_no _ _ _ hx).mono ?_; rintro e w' ⟨rfl, rfl⟩) | (go_at_call 17; refine (implHeadOk_no _ _ hx).mono ?_; rintro e w' ⟨rfl, rfl⟩))
        go_ret
        exact ⟨rfl, hbe⟩
      · by_cases hl : x < 4000000
        · have hx0 : 0 ≤ x := by omega
          clear hx
          obtain ⟨hbd0, hbd1⟩ := bump_cases t false
          have g1 := bump_version (x / 4 + 1) t false
          have g2 := bump_used (x / 4 + 1) t false
          have g3 := bump_locked (x / 4 + 1) t false
          go_wp2_with (first | (go_at_call 19; refine (implNext_yes _ _ _ hx0 hl).mono ?_; rintro e w' ⟨rfl, rfl⟩) | (go_at_call 20; refine (specNext_yes _ _ _ hx0 hl).mono ?_; rintro e w' ⟨rfl, rfl⟩) | (go_at_call 14; refine (implVersion_yes _ _ (by omega) (by omega)).mono ?_; rintro e w' ⟨rfl, rfl⟩) | (go_at_call 15; refine (implUsed_yes _ _ (by omega) (by omega)).mono ?_; rintro e w' ⟨rfl, rfl⟩) | (go_at_call 16; refine (implLocked_yes _ _ (by omega) (by omega)).mono ?_; rintro e w' ⟨rfl, rfl⟩) | (go_at_call 17; refine (implHeadOk_yes _ _ (by omega) (by omega)).mono ?_; rintro e w' ⟨rfl, rfl⟩))
          go_ret
          exact ⟨rfl, hbe⟩
        · have hx0 : 4000000 ≤ x := by omega
          have hx1 : x ≤ 4000003 := by omega
          clear hx hl
          have d : (x / 4 == 1000000) = true := by simp; omega
          go_wp2_with (first | (go_at_call 19; refine (implNext_last _ _ _ hx0 hx1).mono ?_; rintro e w' ⟨rfl, rfl⟩) | (go_at_call 20; refine (specNext_last _ _ _ hx0 hx1).mono ?_; rintro e w' ⟨rfl, rfl⟩) | (go_at_call 14; refine (implVersion_yes _ _ (by omega) (by omega)).mono ?_; rintro e w' ⟨rfl, rfl⟩) | (go_at_call 15; refine (implUsed_yes _ _ (by omega) (by omega)).mono ?_; rintro e w' ⟨rfl, rfl⟩) | (go_at_call 16; refine (implLocked_yes _ _ (by omega) (by omega)).mono ?_; rintro e w' ⟨rfl, rfl⟩) | (go_at_call 17; refine (implHeadOk_yes _ _ (by omega) (by omega)).mono ?_; rintro e w' ⟨rfl, rfl⟩))
          go_ret
          exact ⟨rfl, hbe⟩
  · have hd : decide ((4096 : Int) < (len0 : Int)) = true := by simp; omega
    go_enter Try.func3, Try.ntmps3
    go_wp2
    go_ret
    exact ⟨rfl, Below.refl _ _⟩

set_option maxRecDepth 100000 in
theorem lifted (os : Os) (started : os.Started) (H : Type) (enc : TypeId × Value → H) :
    ReturnsInHanded {} Try.checked os 3 .any (Rows.fnHeadsSpec.pre6 enc Try.prog Try.f3 Rows.fnHeadsRow.domain false) (Rows.fnHeadsSpec.post enc Try.prog Try.f3 false true false false) := by
  refine returnsInHanded_of_change (C := Try.checked) own started (by kernel_rfl) Try.func3
    (ChangeSpec.witness6 (enc := enc) (C := Try.checked) false ⟨#[], #[.slice none 0 0], []⟩ 8 (by kernel_rfl) (by kernel_rfl) (by kernel_rfl) (by kernel_rfl)) ?_
  intro W base args ds gs before hval0 hW hcnd _
  have hval : ∀ (j : Nat) t v, Try.f3.params[j]? = some t → args[j]? = some v → Value.okWide Try.prog W .any base t v := hval0
  have hW' := hW
  obtain ⟨p, q, hA0, hV, rfl, hfz, hnd⟩ := hW
  have hA : DataW.TrodAll enc Try.prog W 0 (fun _ => true) true Try.f3.params.toList args.toList ds p := hA0
  rw [Try.params3] at hA hval
  obtain ⟨v0, vs0, d0, ds0, p0, q0, hargs, rfl, rfl, h0, r0⟩ := trodAll_cons hA
  obtain ⟨rfl, rfl, rfl⟩ := trodAll_nil r0
  obtain rfl : args = #[v0] := by cases args; simp_all
  obtain ⟨rfl, rfl⟩ := trodVars_none hV
  obtain ⟨a0, len0, cap0, rfl⟩ := okWide_slice Try.underlying22 (hval 0 22 v0 rfl rfl)
  have k0 := h0
  have lt0 : ∀ x ∈ p0, x.block < W.heap.size := by obtain ⟨m, hm⟩ := k0; exact DataW.trod_lt m _ _ _ hm
  obtain ⟨z0, w0⟩ : ∃ zs, IsRow .u8 W a0 len0 cap0 zs := by
    obtain ⟨fuel, hf⟩ := h0
    rcases open_ints Try.underlying22 Try.underlying5 (by kernel_rfl) hf with ⟨hcs, _⟩ | ⟨x, l, c, zs, hcs, _, hl, hm, hz, _, hcell, hwz⟩
    · simp [Value.cells] at hcs
      obtain ⟨rfl, rfl, rfl⟩ := hcs
      exact ⟨[], .inl ⟨rfl, rfl, rfl, rfl⟩⟩
    · simp [Value.cells] at hcs
      obtain ⟨rfl, rfl, rfl⟩ := hcs
      exact ⟨zs, .inr ⟨_, rfl, hl, hm, by simpa using hz, hcell, hwz⟩⟩
  clear hA0 hval0
  refine (walk a0 len0 cap0 z0 W w0).mono fun e W' ⟨he, bel⟩ => ?_
  subst he
  exact ⟨_, rfl, _, _, _, [], _, [], hW', trodAll_mk1 (shut_bool Try.underlying4 _), (trodAll_cons_mk (Below.trod laidOut (by kernel_rfl) (of_decide_eq_true (by kernel_rfl)) k0 bel lt0) trodAll_mk0), rfl, bel.frame _, fun h => by cases h⟩

theorem over : Rows.fnHeadsRow.holds Try.pinned (OpenSpec.ofChange Rows.fnHeadsSpec) :=
  OpenClaim.holds_of_wide 3 Try.f3 rfl rfl rfl rfl rfl rfl rfl ⟨rfl, rfl, rfl, rfl, rfl⟩ rfl rfl rfl rfl rfl (by kernel_rfl) Try.func3 (by kernel_rfl)
    (of_decide_eq_true (by kernel_rfl)) (by unfold Func.isWrapper; first | (rw [if_pos (by decide +kernel)]; kernel_rfl) | (rw [if_neg (by decide +kernel)]; exact ⟨rfl, rfl⟩))
    (fun os started H enc _ => lifted os started H enc)

end Go.Proofs.Ytilgcdlicklaeaa.fnHeads
namespace Go.Proofs.Ytilgcdlicklaeaa
theorem fnHeads_holds : Rows.FnHeadsSaid := fnHeads.over
#print axioms fnHeads_holds
end Go.Proofs.Ytilgcdlicklaeaa
