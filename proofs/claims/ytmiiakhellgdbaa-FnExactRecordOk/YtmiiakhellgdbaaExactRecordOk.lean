/- RecordOk of the program answers, at every Record, as the specification's RecordOk does, and changes nothing: no condition. -/
import Derived.Test.YtmiiakhellgdbaaRows
import Derived.Test.YtmiiakhellgdbaaOpenRec
import Derived.Test.YtmiiakhellgdbaaOks3
import Derived.WalkKit
import Derived.ProofKit
import Derived.OpenShut
import Derived.Deep.RegionWith
import Derived.WalkSpells
namespace Go.Proofs.Ytmiiakhellgdbaa.fnExactRecordOk
open Go.ChangeShapes Go.WideShapes Go.ChangeAt Go.RowKit
theorem own : ownKnob Try.prog.godebug = none := by kernel_rfl
theorem laidOut : laidOutB Try.prog = true := by kernel_rfl
set_option maxHeartbeats 2000000 in
theorem walk_great (w : World) (k t r : Int) (a : Option Addr) (n cap : Nat) (hn : n ≤ maxLen) (hg : ¬ n ≤ 1048576) :
    Calls Try.prog 11 #[.agg #[.int .i64 k, .int .i64 t, .int .i64 r, .slice a n cap]] w fun e w' => e = .returned (.bool true) ∧ Below w.heap.size w w' := by
  go_enter Try.func11, Try.ntmps11
  go_wp2_with fail
  refine (szRecord_any _ k t r a n cap hn).mono ?_
  rw [if_neg hg]
  rintro e w1 ⟨rfl, b1⟩
  go_wp2
  go_ret
  exact ⟨rfl, ((Below.refl _ _).alloc (Nat.le_refl _) _).trans (b1.mono (by simp))⟩
set_option maxHeartbeats 2000000 in
theorem walk_small (w : World) (k t r : Int) (a : Option Addr) (n cap : Nat) (xs : List S5) (hn : n ≤ 1048576) (hs : Sl w w.heap.size a n xs) :
    Calls Try.prog 11 #[.agg #[.int .i64 k, .int .i64 t, .int .i64 r, .slice a n cap]] w fun e w' => e = .returned (.bool true) ∧ Below w.heap.size w w' := by
  have hm : n ≤ maxLen := by unfold maxLen; omega
  go_enter Try.func11, Try.ntmps11
  go_wp2_with fail
  have a0 : (w.alloc (.cells #[.int .i64 k, .int .i64 t, .int .i64 r, .slice a n cap] 42)).cell? ⟨w.heap.size, 0, none⟩ = some (.int .i64 k) := by go_simp
  have a1 : (w.alloc (.cells #[.int .i64 k, .int .i64 t, .int .i64 r, .slice a n cap] 42)).cell? ⟨w.heap.size, 1, none⟩ = some (.int .i64 t) := by go_simp
  have a2 : (w.alloc (.cells #[.int .i64 k, .int .i64 t, .int .i64 r, .slice a n cap] 42)).cell? ⟨w.heap.size, 2, none⟩ = some (.int .i64 r) := by go_simp
  have a3 : (w.alloc (.cells #[.int .i64 k, .int .i64 t, .int .i64 r, .slice a n cap] 42)).cell? ⟨w.heap.size, 3, none⟩ = some (.slice a n cap) := by go_simp
  have z0 : (w.alloc (.cells #[.int .i64 k, .int .i64 t, .int .i64 r, .slice a n cap] 42)).heap.size = w.heap.size + 1 := by simp
  have b0 : Below w.heap.size w (w.alloc (.cells #[.int .i64 k, .int .i64 t, .int .i64 r, .slice a n cap] 42)) := (Below.refl _ _).alloc (Nat.le_refl _) _
  generalize hW : w.alloc (.cells #[.int .i64 k, .int .i64 t, .int .i64 r, .slice a n cap] 42) = W at *
  clear hW
  refine (szRecord_any _ k t r a n cap hm).mono ?_
  rw [if_pos hn]
  rintro e w1 ⟨rfl, b1⟩
  -- whatever world comes behind: the argument's box holds the same, and the Sets lie there
  have keep : ∀ w', Below W.heap.size W w' → w'.cell? ⟨w.heap.size, 0, none⟩ = some (.int .i64 k) ∧ w'.cell? ⟨w.heap.size, 1, none⟩ = some (.int .i64 t) ∧ w'.cell? ⟨w.heap.size, 2, none⟩ = some (.int .i64 r) ∧ w'.cell? ⟨w.heap.size, 3, none⟩ = some (.slice a n cap) ∧ Sl w' w'.heap.size a n xs := fun w' h =>
    ⟨(h.cell (by simp; omega)).trans a0, (h.cell (by simp; omega)).trans a1, (h.cell (by simp; omega)).trans a2, (h.cell (by simp; omega)).trans a3, (((hs.below b0).mono b0.size).below h).mono h.size⟩
  have KEEP := fun w' (h : Below W.heap.size W w') => (show Hid _ from keep w' h)
  clear keep a0 a1 a2 a3 hs
  have d0 : decide ((1048576 : Int) - (n : Int) < 0) = false := by simp; omega
  obtain ⟨a0, a1, a2, a3, s1⟩ := (KEEP w1 b1).out
  have S1 : Hid (Sl w1 w1.heap.size a n xs) := s1
  have KEEP' : Hid (∀ w', Below W.heap.size W w' → w'.cell? ⟨w.heap.size, 0, none⟩ = some (.int .i64 k) ∧ w'.cell? ⟨w.heap.size, 1, none⟩ = some (.int .i64 t) ∧ w'.cell? ⟨w.heap.size, 2, none⟩ = some (.int .i64 r) ∧ w'.cell? ⟨w.heap.size, 3, none⟩ = some (.slice a n cap) ∧ Sl w' w'.heap.size a n xs) := fun w' h => (KEEP w' h).out
  clear s1 KEEP
  go_wp2_with fail
  refine (toRecord_any _ k t r a n cap xs hn S1.out).mono ?_
  rintro e w2 ⟨g, rfl, b2, hg1, hg2, s2⟩
  have S2 : Hid (SetsAt w2 g 0 xs) := s2
  clear s2 a0 a1 a2 a3
  go_wp2_with fail
  have hlen : xs.length = n := S1.out.1
  refine (specRecordOk_any _ k t r (some ⟨g, 0, none⟩) n n xs hm ⟨hlen, .inr ⟨g, 0, rfl, hg2, S2.out⟩⟩).mono ?_
  clear hlen
  rintro e w3 ⟨rfl, b3⟩
  have B3 : Below W.heap.size W w3 := (b1.trans (b2.mono b1.size)).trans (b3.mono (Nat.le_trans b1.size b2.size))
  obtain ⟨a0, a1, a2, a3, s3⟩ := KEEP'.out w3 B3
  have S3 : Hid (Sl w3 w3.heap.size a n xs ∧ Below W.heap.size W w3) := ⟨s3, B3⟩
  clear s3 b1 b2 b3 S1 S2 hg1 hg2 B3
  go_wp2_with fail
  refine (toRecord_any _ k t r a n cap xs hn S3.out.1).mono ?_
  rintro e w4 ⟨g4, rfl, b4, hg41, hg42, s4⟩
  have S4 : Hid (SetsAt w4 g4 0 xs) := s4
  clear s4 a0 a1 a2 a3
  go_wp2_with fail
  have c0 : (w4.alloc (.cells #[.int .i64 k, .int .i64 t, .int .i64 r, .slice (some ⟨g4, 0, none⟩) n n] 47)).cell? ⟨w4.heap.size, 0, none⟩ = some (.int .i64 k) := by go_simp
  have c1 : (w4.alloc (.cells #[.int .i64 k, .int .i64 t, .int .i64 r, .slice (some ⟨g4, 0, none⟩) n n] 47)).cell? ⟨w4.heap.size, 1, none⟩ = some (.int .i64 t) := by go_simp
  have c2 : (w4.alloc (.cells #[.int .i64 k, .int .i64 t, .int .i64 r, .slice (some ⟨g4, 0, none⟩) n n] 47)).cell? ⟨w4.heap.size, 2, none⟩ = some (.int .i64 r) := by go_simp
  have c3 : (w4.alloc (.cells #[.int .i64 k, .int .i64 t, .int .i64 r, .slice (some ⟨g4, 0, none⟩) n n] 47)).cell? ⟨w4.heap.size, 3, none⟩ = some (.slice (some ⟨g4, 0, none⟩) n n) := by go_simp
  have z5 : w4.heap.size < (w4.alloc (.cells #[.int .i64 k, .int .i64 t, .int .i64 r, .slice (some ⟨g4, 0, none⟩) n n] 47)).heap.size := by simp
  have b5 : Below w4.heap.size w4 (w4.alloc (.cells #[.int .i64 k, .int .i64 t, .int .i64 r, .slice (some ⟨g4, 0, none⟩) n n] 47)) := (Below.refl _ _).alloc (Nat.le_refl _) _
  generalize hW5 : (w4.alloc (.cells #[.int .i64 k, .int .i64 t, .int .i64 r, .slice (some ⟨g4, 0, none⟩) n n] 47)) = w5 at *
  clear hW5
  have s5 : SetsAt w5 g4 0 xs := S4.out.below b5 hg42
  have hlen : xs.length = n := S3.out.1.1
  have h45 : g4 < w5.heap.size := Nat.lt_of_lt_of_le hg42 b5.size
  refine (implRecordOk_any _ k t r (some ⟨g4, 0, none⟩) n n xs hm ⟨hlen, .inr ⟨g4, 0, rfl, h45, s5⟩⟩).mono ?_
  rintro e w6 ⟨rfl, b6⟩
  have B6 : Below W.heap.size W w6 := S3.out.2.trans (((b4.trans (b5.mono b4.size)).trans (b6.mono (Nat.le_trans b4.size b5.size))).mono S3.out.2.size)
  have e0 := (b6.cell (p := ⟨w4.heap.size, 0, none⟩) z5).trans c0
  have e1 := (b6.cell (p := ⟨w4.heap.size, 1, none⟩) z5).trans c1
  have e2 := (b6.cell (p := ⟨w4.heap.size, 2, none⟩) z5).trans c2
  have e3 := (b6.cell (p := ⟨w4.heap.size, 3, none⟩) z5).trans c3
  have h46 : w4.heap.size < w6.heap.size := Nat.lt_of_lt_of_le z5 b6.size
  obtain ⟨a0, a1, a2, a3, s6⟩ := KEEP'.out w6 B6
  have hw6 : w.heap.size < w6.heap.size := by have := B6.size; omega
  have bd : Below w6.heap.size w6 w6.drew := (Below.refl _ _).drew
  have S6 : Hid (Sl w6.drew w6.drew.heap.size a n xs ∧ Sl w6.drew w6.drew.heap.size (some ⟨g4, 0, none⟩) n xs ∧ Below W.heap.size W w6) := ⟨s6.below bd, Sl.below (w := w6) ⟨hlen, .inr ⟨g4, 0, rfl, Nat.lt_of_lt_of_le h45 b6.size, s5.below b6 h45⟩⟩ bd, B6⟩
  clear s6 s5 S4 S3 c0 c1 c2 c3 b4 b5 b6 z5 hg41 hg42 h45 hlen B6 KEEP' d0 bd
  go_wp2_with fail
  go_region_with (first
    | (go_at_call 33
       refine (toRecord_any w6.drew k t r a n cap xs hn S6.out.1).mono ?_
       rintro e w7 ⟨g7, rfl, b7, hg71, hg72, s7⟩
       have e0' : w7.cell? ⟨w4.heap.size, 0, none⟩ = some (.int .i64 k) := (b7.cell (p := ⟨w4.heap.size, 0, none⟩) h46).trans e0
       have e1' : w7.cell? ⟨w4.heap.size, 1, none⟩ = some (.int .i64 t) := (b7.cell (p := ⟨w4.heap.size, 1, none⟩) h46).trans e1
       have e2' : w7.cell? ⟨w4.heap.size, 2, none⟩ = some (.int .i64 r) := (b7.cell (p := ⟨w4.heap.size, 2, none⟩) h46).trans e2
       have e3' : w7.cell? ⟨w4.heap.size, 3, none⟩ = some (.slice (some ⟨g4, 0, none⟩) n n) := (b7.cell (p := ⟨w4.heap.size, 3, none⟩) h46).trans e3
       have S7 : Hid (Sl w7 w7.heap.size (some ⟨g4, 0, none⟩) n xs ∧ Sl w7 w7.heap.size (some ⟨g7, 0, none⟩) n xs ∧ Below w6.drew.heap.size w6.drew w7) := ⟨Sl.mono (Sl.below (w := w6.drew) S6.out.2.1 b7) b7.size, ⟨S6.out.1.1, .inr ⟨g7, 0, rfl, hg72, s7⟩⟩, b7⟩
       clear s7 b7 hg71 hg72)
    | (go_at_call 35
       refine (eqRecord_same _ k t r _ _ n n n xs hm S7.out.1 S7.out.2.1).mono ?_
       rintro e w8 ⟨rfl, b8⟩))
  all_goals (
    go_wp2
    go_ret
    refine ⟨rfl, b0.trans ((S6.out.2.2.trans (Below.mono (B' := W.heap.size) (Below.trans (Below.mono (B' := w6.heap.size) ((Below.refl _ w6).drew) (Nat.le_refl _)) (S7.out.2.2.trans (b8.mono S7.out.2.2.size))) S6.out.2.2.size)).mono b0.size)⟩)
theorem walk (w : World) (k t r : Int) (a : Option Addr) (n cap : Nat) (xs : List S5) (hm : n ≤ maxLen) (hs : Sl w w.heap.size a n xs) :
    Calls Try.prog 11 #[.agg #[.int .i64 k, .int .i64 t, .int .i64 r, .slice a n cap]] w fun e w' => e = .returned (.bool true) ∧ Below w.heap.size w w' := by
  by_cases h : n ≤ 1048576
  · exact walk_small w k t r a n cap xs h hs
  · exact walk_great w k t r a n cap hm h
set_option maxRecDepth 100000 in
theorem lifted (os : Os) (started : os.Started) (H : Type) (enc : TypeId × Value → H) :
    ReturnsInHanded {} Try.checked os 11 .any (Rows.fnExactRecordOkSpec.pre6 enc Try.prog Try.f11 Rows.fnExactRecordOkRow.domain false) (Rows.fnExactRecordOkSpec.post enc Try.prog Try.f11 false true false false) := by
  refine returnsInHanded_of_change (C := Try.checked) own started (by kernel_rfl) Try.func11
    (ChangeSpec.witness6 (enc := enc) (C := Try.checked) false ⟨#[], #[.agg #[.int .i64 0, .int .i64 0, .int .i64 0, .slice none 0 0]], []⟩ 8 (by kernel_rfl) (by kernel_rfl) (by kernel_rfl) (by kernel_rfl)) ?_
  intro W base args ds gs before hval0 hW hcnd _
  have hval : ∀ (j : Nat) t v, Try.f11.params[j]? = some t → args[j]? = some v → Value.okWide Try.prog W .any base t v := hval0
  have hW' := hW
  obtain ⟨p, q, hA0, hV, rfl, hfz, hnd⟩ := hW
  have hA : DataW.TrodAll enc Try.prog W 0 (fun _ => true) true Try.f11.params.toList args.toList ds p := hA0
  rw [Try.params11] at hA hval
  obtain ⟨v0, vs0, d0, ds0, p0, q0, hargs, rfl, rfl, h0, r0⟩ := trodAll_cons hA
  obtain ⟨rfl, rfl, rfl⟩ := trodAll_nil r0
  obtain rfl : args = #[v0] := by cases args; simp_all
  obtain ⟨rfl, rfl⟩ := trodVars_none hV
  obtain ⟨cs, rfl, hcs⟩ := okWide_struct Try.underlying42 (hval 0 42 v0 rfl rfl)
  have k0 := h0
  have lt0 : ∀ x ∈ p0, x.block < W.heap.size := by obtain ⟨m, hm⟩ := k0; exact DataW.trod_lt m _ _ _ hm
  obtain ⟨k, t, r, a, n, cap, xs, rfl, hm, hs, _⟩ : ∃ (k t r : Int) (a : Option Addr) (n cap : Nat) (xs : List S5), cs = #[.int .i64 k, .int .i64 t, .int .i64 r, .slice a n cap] ∧ n ≤ maxLen ∧ Sl W W.heap.size a n xs ∧ True := by
    obtain ⟨fuel, hf⟩ := h0
    obtain ⟨k, t, r, a, n, cap, xs, e, hm, hs, _⟩ := open_record hf
    exact ⟨k, t, r, a, n, cap, xs, by cases cs; simpa [Value.cells] using e, hm, hs, trivial⟩
  clear hA0 hval0
  refine (walk W k t r a n cap xs hm hs).mono fun e W' ⟨he, bel⟩ => ?_
  subst he
  exact ⟨_, rfl, _, _, _, [], _, [], hW', trodAll_mk1 (shut_bool Try.underlying4 _), (trodAll_cons_mk (Below.trod laidOut (by kernel_rfl) (of_decide_eq_true (by kernel_rfl)) k0 bel lt0) trodAll_mk0), rfl, bel.frame _, fun h => by cases h⟩

theorem over : Rows.fnExactRecordOkRow.holds Try.pinned (OpenSpec.ofChange Rows.fnExactRecordOkSpec) :=
  OpenClaim.holds_of_wide 11 Try.f11 rfl rfl rfl rfl rfl rfl rfl ⟨rfl, rfl, rfl, rfl, rfl⟩ rfl rfl rfl rfl rfl (by kernel_rfl) Try.func11 (by kernel_rfl)
    (of_decide_eq_true (by kernel_rfl)) (by unfold Func.isWrapper; first | (rw [if_pos (by decide +kernel)]; kernel_rfl) | (rw [if_neg (by decide +kernel)]; exact ⟨rfl, rfl⟩))
    (fun os started H enc _ => lifted os started H enc)

end Go.Proofs.Ytmiiakhellgdbaa.fnExactRecordOk
namespace Go.Proofs.Ytmiiakhellgdbaa
theorem fnExactRecordOk_holds : Rows.FnExactRecordOkSaid := fnExactRecordOk.over
#print axioms fnExactRecordOk_holds
end Go.Proofs.Ytmiiakhellgdbaa
