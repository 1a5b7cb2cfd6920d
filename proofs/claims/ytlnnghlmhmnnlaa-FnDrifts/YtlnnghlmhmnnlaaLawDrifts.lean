/- FnDrifts: of two clocks that drift no more than is told, where the one holds the lease for safe the other never holds it for dead, at every code: no condition. -/
import Derived.Test.YtlnnghlmhmnnlaaRows
import Derived.Test.YtlnnghlmhmnnlaaPick
import Derived.Test.YtlnnghlmhmnnlaaBytesIn
import Derived.Test.YtlnnghlmhmnnlaaLease3
import Derived.WalkKit
import Derived.ProofKit
import Derived.OpenShut
import Derived.WalkSpells
import Derived.WalkLawsBesides
import Derived.Lib.QuietBelow
import Derived.BigQuiet
namespace Go.Proofs.Ytlnnghlmhmnnlaa
theorem wrap64_mid (y : Int) (h : 0 ≤ y ∧ y ≤ 4611686018427387904) : RowKit.wrap64 y = y := by unfold RowKit.wrap64; omega
theorem drift_apart (t d L : Int) (h0 : 0 ≤ t) (h1 : 0 ≤ d) (h2 : d < 1000000) (hs : (t * (1000000 - d) / 1000000 + 1) * (1000000 + d) ≤ L * (1000000 - d)) : ¬ L * (1000000 + d) < t * (1000000 + d) / 1000000 * (1000000 - d) := by
  intro hd
  have a1 : t * (1000000 - d) < 1000000 * (t * (1000000 - d) / 1000000 + 1) := by
    generalize t * (1000000 - d) = p
    omega
  generalize t * (1000000 - d) / 1000000 + 1 = s at *
  have a2 : 1000000 * (t * (1000000 + d) / 1000000) ≤ t * (1000000 + d) := by
    generalize t * (1000000 + d) = p
    omega
  have a3 : 0 ≤ t * (1000000 + d) := Int.mul_nonneg h0 (by omega)
  have a4 : 0 ≤ t * (1000000 + d) / 1000000 := by
    generalize t * (1000000 + d) = p at a3
    omega
  generalize hf : t * (1000000 + d) / 1000000 = f at *
  have b1 : t * (1000000 - d) * (1000000 + d) < 1000000 * s * (1000000 + d) := Int.mul_lt_mul_of_pos_right a1 (by omega)
  have b2 : 1000000 * (s * (1000000 + d)) ≤ 1000000 * (L * (1000000 - d)) := Int.mul_le_mul_of_nonneg_left hs (by omega)
  have b3 : t * (1000000 + d) * (1000000 - d) < 1000000 * L * (1000000 - d) := by
    rw [Int.mul_right_comm, Int.mul_assoc 1000000 L]
    rw [Int.mul_assoc 1000000 s] at b1
    exact Int.lt_of_lt_of_le b1 b2
  have b4 : t * (1000000 + d) < 1000000 * L := Int.lt_of_mul_lt_mul_right b3 (by omega)
  have b5 : f * (1000000 - d) ≤ f * (1000000 + d) := Int.mul_le_mul_of_nonneg_left (by omega) a4
  have b6 : L * (1000000 + d) < f * (1000000 + d) := by omega
  have b7 : L < f := Int.lt_of_mul_lt_mul_right b6 (by omega)
  omega
end Go.Proofs.Ytlnnghlmhmnnlaa
namespace Go.Proofs.Ytlnnghlmhmnnlaa.fnDrifts
open Go.ChangeShapes Go.WideShapes Go.ChangeAt Go.RowKit
open Go.Sort (grow)
theorem own : ownKnob Try.prog.godebug = none := by kernel_rfl
theorem laidOut : laidOutB Try.prog = true := by kernel_rfl
set_option maxHeartbeats 4000000 in
theorem walk (a : Option Addr) (n k : Nat) (w : World) (hb : Bytes w w.heap.size a n) :
    Calls Try.prog 4 #[.slice a n k] w fun e w' => e = .returned (.bool true) ∧ Below w.heap.size w w' := by
  have hmm := hb.1
  unfold maxLen at hmm
  by_cases hn : n ≤ 4096
  · go_enter Try.func4, Try.ntmps4
    go_wp2_with (go_at_call 10; go_in)
    refine (pick_any _ a n k _ hb (by omega) (by omega)).mono ?_
    rintro e w ⟨d, rfl, hd0, hd1, rfl⟩
    obtain ⟨a1, k1, v1, hr1, hb1, be1⟩ := code_append w 1 a n k 5 22 hb (by omega) hn
    go_wp2_with (at_builtin; refine append_known _ rfl (.tmp 12) (.tmp 13) 22 rfl _ _ _ _ rfl rfl hr1 ?_)
    refine (pick_any v1 a1 (1 + n) k1 _ hb1 (by omega) (by omega)).mono ?_
    rintro e v1 ⟨x, rfl, hx0, hx1, rfl⟩
    clear hr1 hb1
    have bV : Below v1.heap.size v1 (v1.alloc (.cells #[.int .i64 1, .int .i64 0, .int .i64 (1000 + x)] 25)) := (Below.refl _ _).alloc (Nat.le_refl _) _
    have beV := be1.trans (bV.mono be1.size)
    obtain ⟨a2, k2, v2, hr2, hb2, be2⟩ := code_append (v1.alloc (.cells #[.int .i64 1, .int .i64 0, .int .i64 (1000 + x)] 25)) 2 a n k 5 22 ((hb.below beV).mono beV.size) (by omega) hn
    have hsz : (v1.alloc (.cells #[.int .i64 1, .int .i64 0, .int .i64 (1000 + x)] 25)).heap.size = v1.heap.size + 1 := by simp
    rw [hsz] at hr2
    go_wp2_with (at_builtin; refine append_known _ rfl (.tmp 18) (.tmp 19) 22 rfl _ _ _ _ rfl rfl hr2 ?_)
    refine (pick_any v2 a2 (1 + n) k2 _ hb2 (by omega) (by omega)).mono ?_
    rintro e v2 ⟨t, rfl, ht0, ht1, rfl⟩
    clear hr2 hb2
    have c0 : v2.cell? ⟨v1.heap.size, 0, none⟩ = some (.int .i64 1) := by rw [be2.cell (p := ⟨v1.heap.size, 0, none⟩) (by simp)]; go_simp
    have c1 : v2.cell? ⟨v1.heap.size, 1, none⟩ = some (.int .i64 0) := by rw [be2.cell (p := ⟨v1.heap.size, 1, none⟩) (by simp)]; go_simp
    have c2 : v2.cell? ⟨v1.heap.size, 2, none⟩ = some (.int .i64 (1000 + x)) := by rw [be2.cell (p := ⟨v1.heap.size, 2, none⟩) (by simp)]; go_simp
    have zL : v1.heap.size < v2.heap.size := by have := be2.size; simp at this; omega
    have B2 : Hid (Below w.heap.size w v2) := beV.trans (be2.mono beV.size)
    clear be1 bV beV be2 hsz hb
    have w1 : IntKind.i64.wrap (t * (1000000 - d)) = t * (1000000 - d) := count_wrap (by omega) (by omega) (by omega) (by omega)
    have w2 : IntKind.i64.wrap (t * (1000000 + d)) = t * (1000000 + d) := count_wrap (by omega) (by omega) (by omega) (by omega)
    have n1 : 0 ≤ t * (1000000 - d) := Int.mul_nonneg ht0 (by omega)
    have n2 : 0 ≤ t * (1000000 + d) := Int.mul_nonneg ht0 (by omega)
    have q1 : wrap64 ((t * (1000000 - d)).tdiv 1000000) = t * (1000000 - d) / 1000000 := by
      have := count_bd (x := t) (m := 1000000 - d) (by omega) (by omega) (by omega) (by omega)
      rw [Int.tdiv_eq_ediv_of_nonneg n1, wrap64_mid _ (by omega)]
    have q2 : wrap64 ((t * (1000000 + d)).tdiv 1000000) = t * (1000000 + d) / 1000000 := by
      have := count_bd (x := t) (m := 1000000 + d) (by omega) (by omega) (by omega) (by omega)
      rw [Int.tdiv_eq_ediv_of_nonneg n2, wrap64_mid _ (by omega)]
    have APART : Hid (safeB ⟨1, 0, 1000 + x⟩ (t * (1000000 - d) / 1000000 + 1) d = true → deadB ⟨1, 0, 1000 + x⟩ (t * (1000000 + d) / 1000000) d = false) := by
      intro hs
      simp only [safeB, Bool.and_eq_true, decide_eq_true_eq, Int.sub_zero] at hs
      have := drift_apart t d (1000 + x) ht0 hd0 (by omega) hs.2
      simp only [deadB, Int.sub_zero, decide_eq_false this, Bool.and_false]
    have ss : 0 ≤ t * (1000000 - d) / 1000000 ∧ t * (1000000 - d) / 1000000 ≤ 2000000000000 := by
      have := count_bd (x := t) (m := 1000000 - d) (by omega) (by omega) (by omega) (by omega)
      generalize t * (1000000 - d) = p at *
      omega
    have g0 : ∀ d os, (grow (redrawn v2 d) os).cell? ⟨v1.heap.size, 0, none⟩ = some (.int .i64 1) := fun d os => ((below_regrown v2 d os).cell (p := ⟨v1.heap.size, 0, none⟩) zL).trans c0
    have g1 : ∀ d os, (grow (redrawn v2 d) os).cell? ⟨v1.heap.size, 1, none⟩ = some (.int .i64 0) := fun d os => ((below_regrown v2 d os).cell (p := ⟨v1.heap.size, 1, none⟩) zL).trans c1
    have g2 : ∀ d os, (grow (redrawn v2 d) os).cell? ⟨v1.heap.size, 2, none⟩ = some (.int .i64 (1000 + x)) := fun d os => ((below_regrown v2 d os).cell (p := ⟨v1.heap.size, 2, none⟩) zL).trans c2
    have cI : ∀ dd os, Calls Try.prog 12 #[.agg #[.int .i64 1, .int .i64 0, .int .i64 (1000 + x)], .int .i64 t, .int .i64 d] (grow (redrawn v2 dd) os) fun e w'' => e = .returned (.bool (safeB ⟨1, 0, 1000 + x⟩ t d)) ∧ ∃ p : Regrown, w'' = grow (redrawn v2 p.d) p.os := fun dd os => Calls.regrown_of (implSafe _ ⟨1, 0, 1000 + x⟩ t d)
    have cS : ∀ dd os, Calls Try.prog 14 #[.agg #[.int .i64 1, .int .i64 0, .int .i64 (1000 + x)], .int .i64 t, .int .i64 d] (grow (redrawn v2 dd) os) fun e w'' => e = .returned (.bool (safeB ⟨1, 0, 1000 + x⟩ t d)) ∧ ∃ p : Regrown, w'' = grow (redrawn v2 p.d) p.os := fun dd os => Calls.regrown_of (specSafe _ ⟨1, 0, 1000 + x⟩ t d)
    go_wp2_with fail
    simp only [q2]
    clear q1 q2 w1 w2
    generalize t * (1000000 - d) / 1000000 = s at *
    generalize t * (1000000 + d) / 1000000 = f at *
    refine wp_region_quiet_below (by kernel_rfl) (by kernel_rfl) ?_
    repeat (go_big_quiet_step (first | (go_at_call 12; exact cI _ _) | (go_at_call 14; exact cS _ _)))
    refine wpQuiet_nil ?_
    intro _ hw'
    obtain ⟨⟨dq, osq⟩, hw''⟩ := hw'
    subst hw''
    have bq := below_regrown v2 dq osq
    generalize grow (redrawn v2 dq) osq = v3 at *
    have c0 := (bq.cell (p := ⟨v1.heap.size, 0, none⟩) zL).trans c0
    have c1 := (bq.cell (p := ⟨v1.heap.size, 1, none⟩) zL).trans c1
    have c2 := (bq.cell (p := ⟨v1.heap.size, 2, none⟩) zL).trans c2
    have B3 : Hid (Below w.heap.size w v3) := B2.out.trans (bq.mono B2.out.size)
    have zL := Nat.lt_of_lt_of_le zL bq.size
    clear bq B2 cI cS g0 g1 g2 n1 n2
    generalize safeB ⟨1, 0, 1000 + x⟩ t d = S
    have dS : (S != S) = false := by cases S <;> rfl
    go_wp2_with fail
    refine (implSafe _ ⟨1, 0, 1000 + x⟩ _ _).mono ?_
    cases hs : safeB ⟨1, 0, 1000 + x⟩ (s + 1) d with
    | false =>
      rintro e v4 ⟨rfl, b4⟩
      go_wp2
      go_ret
      exact ⟨by simp, B3.out.trans (b4.mono B3.out.size)⟩
    | true =>
      rintro e v4 ⟨rfl, b4⟩
      have c0 := (b4.cell (p := ⟨v1.heap.size, 0, none⟩) zL).trans c0
      have c1 := (b4.cell (p := ⟨v1.heap.size, 1, none⟩) zL).trans c1
      have c2 := (b4.cell (p := ⟨v1.heap.size, 2, none⟩) zL).trans c2
      have B4 : Hid (Below w.heap.size w v4) := B3.out.trans (b4.mono B3.out.size)
      clear b4 B3
      go_wp2_with fail
      have hD := implDead v4 ⟨1, 0, 1000 + x⟩ f d
      rw [APART.out hs] at hD
      refine hD.mono ?_
      rintro e v5 ⟨rfl, b5⟩
      clear hD
      go_wp2
      go_ret
      exact ⟨by simp, B4.out.trans (b5.mono B4.out.size)⟩
  · go_enter Try.func4, Try.ntmps4
    have hbig : (4096 : Int) < (n : Int) := by omega
    go_wp2_with (go_at_call 10; go_in)
    go_ret
    exact ⟨rfl, Below.refl _ _⟩
set_option maxRecDepth 100000 in
theorem lifted (os : Os) (started : os.Started) (H : Type) (enc : TypeId × Value → H) :
    ReturnsInHanded {} Try.checked os 4 .any (Rows.fnDriftsSpec.pre6 enc Try.prog Try.f4 Rows.fnDriftsRow.domain false) (Rows.fnDriftsSpec.post enc Try.prog Try.f4 false true false false) := by
  refine returnsInHanded_of_change (C := Try.checked) own started (by kernel_rfl) Try.func4
    (ChangeSpec.witness6 (enc := enc) (C := Try.checked) false ⟨#[], #[.slice none 0 0], []⟩ 8 (by kernel_rfl) (by kernel_rfl) (by kernel_rfl) (by kernel_rfl)) ?_
  intro W base args ds gs before hval0 hW hcnd _
  have hval : ∀ (j : Nat) t v, Try.f4.params[j]? = some t → args[j]? = some v → Value.okWide Try.prog W .any base t v := hval0
  have hW' := hW
  obtain ⟨p, q, hA0, hV, rfl, hfz, hnd⟩ := hW
  have hA : DataW.TrodAll enc Try.prog W 0 (fun _ => true) true Try.f4.params.toList args.toList ds p := hA0
  rw [Try.params4] at hA hval
  obtain ⟨v0, vs0, d0, ds0, p0, q0, hargs, rfl, rfl, h0, r0⟩ := trodAll_cons hA
  obtain ⟨rfl, rfl, rfl⟩ := trodAll_nil r0
  obtain rfl : args = #[v0] := by cases args; simp_all
  obtain ⟨rfl, rfl⟩ := trodVars_none hV
  obtain ⟨a0, len0, cap0, rfl⟩ := okWide_slice Try.underlying22 (hval 0 22 v0 rfl rfl)
  have k0 := h0
  have lt0 : ∀ x ∈ p0, x.block < W.heap.size := by obtain ⟨m, hm⟩ := k0; exact DataW.trod_lt m _ _ _ hm
  obtain ⟨z0, w0⟩ : ∃ zs, IsRow .u8 W a0 len0 cap0 zs := by
    obtain ⟨fuel, hf⟩ := h0
    rcases open_ints Try.underlying22 Try.underlying5 (by kernel_rfl) hf with ⟨hcs, _⟩ | ⟨x, l, c, zs, hcs, _, hl, hm, hz, _, hcell, hwz⟩
    · simp [Value.cells] at hcs
      obtain ⟨rfl, rfl, rfl⟩ := hcs
      exact ⟨[], .inl ⟨rfl, rfl, rfl, rfl⟩⟩
    · simp [Value.cells] at hcs
      obtain ⟨rfl, rfl, rfl⟩ := hcs
      exact ⟨zs, .inr ⟨_, rfl, hl, hm, by simpa using hz, hcell, hwz⟩⟩
  clear hA0 hval0
  refine (walk a0 len0 cap0 W w0.bytes).mono fun e W' ⟨he, bel⟩ => ?_
  subst he
  exact ⟨_, rfl, _, _, _, [], _, [], hW', trodAll_mk1 (shut_bool Try.underlying4 _), (trodAll_cons_mk (Below.trod laidOut (by kernel_rfl) (of_decide_eq_true (by kernel_rfl)) k0 bel lt0) trodAll_mk0), rfl, bel.frame _, fun h => by cases h⟩

theorem over : Rows.fnDriftsRow.holds Try.pinned (OpenSpec.ofChange Rows.fnDriftsSpec) :=
  OpenClaim.holds_of_wide 4 Try.f4 rfl rfl rfl rfl rfl rfl rfl ⟨rfl, rfl, rfl, rfl, rfl⟩ rfl rfl rfl rfl rfl (by kernel_rfl) Try.func4 (by kernel_rfl)
    (of_decide_eq_true (by kernel_rfl)) (by unfold Func.isWrapper; first | (rw [if_pos (by decide +kernel)]; kernel_rfl) | (rw [if_neg (by decide +kernel)]; exact ⟨rfl, rfl⟩))
    (fun os started H enc _ => lifted os started H enc)

end Go.Proofs.Ytlnnghlmhmnnlaa.fnDrifts
namespace Go.Proofs.Ytlnnghlmhmnnlaa
theorem fnDrifts_holds : Rows.FnDriftsSaid := fnDrifts.over
#print axioms fnDrifts_holds
end Go.Proofs.Ytlnnghlmhmnnlaa
