/- ShowRecord of the program answers, at every Record, as the specification's ShowRecord does, and changes nothing, where the library's tables lie as the program's text lays them (the card ties them to it). -/
import Derived.Test.YtmiiakhellgdbaaDoorRows
import Derived.Test.YtmiiakhellgdbaaDoorCards
import Derived.Test.YtmiiakhellgdbaaDoorTie
import Derived.Test.YtmiiakhellgdbaaDoorOpenRec
import Derived.Test.YtmiiakhellgdbaaDoorShowI
import Derived.WalkKit
import Derived.ProofKit
import Derived.OpenShut
import Derived.Deep.RegionWith
import Derived.WalkSpells
import Derived.LaidMore
import Derived.SevenTiedAt
import Derived.Stop.Joined
import Derived.Stop.LaidErr
import Derived.Shelf.Unicode.PredsPay
namespace Go.Proofs.YtmiiakhellgdbaaDoor.fnExactShowRecord
open Go.ChangeShapes Go.WideShapes Go.ChangeAt Go.RowKit
theorem own : ownKnob Tryd.prog.godebug = none := by kernel_rfl
theorem laidOut : laidOutB Tryd.prog = true := by kernel_rfl
set_option maxHeartbeats 2000000 in
theorem walk_great (w : World) (k t r : Int) (a : Option Addr) (n cap : Nat) (hn : n ≤ maxLen) (hg : ¬ n ≤ 1048576) :
    Calls Tryd.prog 4 #[.agg #[.int .i64 k, .int .i64 t, .int .i64 r, .slice a n cap]] w fun e w' => e = .returned (.bool true) ∧ Below w.heap.size w w' := by
  go_enter Tryd.func4, Tryd.ntmps4
  go_wp2_with fail
  refine (szRecord_any _ k t r a n cap hn).mono ?_
  rw [if_neg hg]
  rintro e w1 ⟨rfl, b1⟩
  go_wp2
  go_ret
  exact ⟨rfl, ((Below.refl _ _).alloc (Nat.le_refl _) _).trans (b1.mono (by simp))⟩
set_option maxHeartbeats 2000000 in
theorem walk_small (w : World) (k t r : Int) (a : Option Addr) (n cap : Nat) (xs : List S5) (hn : n ≤ 1048576) (hs : Sl w w.heap.size a n xs) (ht : ∀ w', Below w.heap.size w w' → Tab w') :
    Calls Tryd.prog 4 #[.agg #[.int .i64 k, .int .i64 t, .int .i64 r, .slice a n cap]] w fun e w' => e = .returned (.bool true) ∧ Below w.heap.size w w' := by
  have hm : n ≤ maxLen := by unfold maxLen; omega
  have HT : Hid (∀ w', Below w.heap.size w w' → Tab w') := ht
  clear ht
  go_enter Tryd.func4, Tryd.ntmps4
  go_wp2_with fail
  have a0 : (w.alloc (.cells #[.int .i64 k, .int .i64 t, .int .i64 r, .slice a n cap] 36)).cell? ⟨w.heap.size, 0, none⟩ = some (.int .i64 k) := by go_simp
  have a1 : (w.alloc (.cells #[.int .i64 k, .int .i64 t, .int .i64 r, .slice a n cap] 36)).cell? ⟨w.heap.size, 1, none⟩ = some (.int .i64 t) := by go_simp
  have a2 : (w.alloc (.cells #[.int .i64 k, .int .i64 t, .int .i64 r, .slice a n cap] 36)).cell? ⟨w.heap.size, 2, none⟩ = some (.int .i64 r) := by go_simp
  have a3 : (w.alloc (.cells #[.int .i64 k, .int .i64 t, .int .i64 r, .slice a n cap] 36)).cell? ⟨w.heap.size, 3, none⟩ = some (.slice a n cap) := by go_simp
  have z0 : (w.alloc (.cells #[.int .i64 k, .int .i64 t, .int .i64 r, .slice a n cap] 36)).heap.size = w.heap.size + 1 := by simp
  have b0 : Below w.heap.size w (w.alloc (.cells #[.int .i64 k, .int .i64 t, .int .i64 r, .slice a n cap] 36)) := (Below.refl _ _).alloc (Nat.le_refl _) _
  generalize hW : w.alloc (.cells #[.int .i64 k, .int .i64 t, .int .i64 r, .slice a n cap] 36) = W at *
  clear hW
  refine (szRecord_any _ k t r a n cap hm).mono ?_
  rw [if_pos hn]
  rintro e w1 ⟨rfl, b1⟩
  -- whatever world comes behind: the argument's box holds the same, and the Sets lie there
  have keep : ∀ w', Below W.heap.size W w' → w'.cell? ⟨w.heap.size, 0, none⟩ = some (.int .i64 k) ∧ w'.cell? ⟨w.heap.size, 1, none⟩ = some (.int .i64 t) ∧ w'.cell? ⟨w.heap.size, 2, none⟩ = some (.int .i64 r) ∧ w'.cell? ⟨w.heap.size, 3, none⟩ = some (.slice a n cap) ∧ Sl w' w'.heap.size a n xs := fun w' h =>
    ⟨(h.cell (by simp; omega)).trans a0, (h.cell (by simp; omega)).trans a1, (h.cell (by simp; omega)).trans a2, (h.cell (by simp; omega)).trans a3, (((hs.below b0).mono b0.size).below h).mono h.size⟩
  have KEEP := fun w' (h : Below W.heap.size W w') => (show Hid _ from keep w' h)
  clear keep a0 a1 a2 a3 hs
  have d0 : decide ((1048576 : Int) - (n : Int) < 0) = false := by simp; omega
  obtain ⟨a0, a1, a2, a3, s1⟩ := (KEEP w1 b1).out
  have S1 : Hid (Sl w1 w1.heap.size a n xs) := s1
  have KEEP' : Hid (∀ w', Below W.heap.size W w' → w'.cell? ⟨w.heap.size, 0, none⟩ = some (.int .i64 k) ∧ w'.cell? ⟨w.heap.size, 1, none⟩ = some (.int .i64 t) ∧ w'.cell? ⟨w.heap.size, 2, none⟩ = some (.int .i64 r) ∧ w'.cell? ⟨w.heap.size, 3, none⟩ = some (.slice a n cap) ∧ Sl w' w'.heap.size a n xs) := fun w' h => (KEEP w' h).out
  clear s1 KEEP
  go_wp2_with fail
  refine (toRecord_any _ k t r a n cap xs hn S1.out).mono ?_
  rintro e w2 ⟨g, rfl, b2, hg1, hg2, s2⟩
  have S2 : Hid (SetsAt w2 g 0 xs) := s2
  clear s2 a0 a1 a2 a3
  go_wp2_with fail
  have hlen : xs.length = n := S1.out.1
  refine (specShow_any _ k t r (some ⟨g, 0, none⟩) n n xs hm ⟨hlen, .inr ⟨g, 0, rfl, hg2, S2.out⟩⟩).mono ?_
  clear hlen
  rintro e w3 ⟨rfl, b3⟩
  have B3 : Below W.heap.size W w3 := (b1.trans (b2.mono b1.size)).trans (b3.mono (Nat.le_trans b1.size b2.size))
  obtain ⟨a0, a1, a2, a3, s3⟩ := KEEP'.out w3 B3
  have S3 : Hid (Sl w3 w3.heap.size a n xs ∧ Below W.heap.size W w3) := ⟨s3, B3⟩
  clear s3 b1 b2 b3 S1 S2 hg1 hg2 B3
  go_wp2_with fail
  refine (toRecord_any _ k t r a n cap xs hn S3.out.1).mono ?_
  rintro e w4 ⟨g4, rfl, b4, hg41, hg42, s4⟩
  have S4 : Hid (SetsAt w4 g4 0 xs) := s4
  clear s4 a0 a1 a2 a3
  go_wp2_with fail
  have c0 : (w4.alloc (.cells #[.int .i64 k, .int .i64 t, .int .i64 r, .slice (some ⟨g4, 0, none⟩) n n] 26)).cell? ⟨w4.heap.size, 0, none⟩ = some (.int .i64 k) := by go_simp
  have c1 : (w4.alloc (.cells #[.int .i64 k, .int .i64 t, .int .i64 r, .slice (some ⟨g4, 0, none⟩) n n] 26)).cell? ⟨w4.heap.size, 1, none⟩ = some (.int .i64 t) := by go_simp
  have c2 : (w4.alloc (.cells #[.int .i64 k, .int .i64 t, .int .i64 r, .slice (some ⟨g4, 0, none⟩) n n] 26)).cell? ⟨w4.heap.size, 2, none⟩ = some (.int .i64 r) := by go_simp
  have c3 : (w4.alloc (.cells #[.int .i64 k, .int .i64 t, .int .i64 r, .slice (some ⟨g4, 0, none⟩) n n] 26)).cell? ⟨w4.heap.size, 3, none⟩ = some (.slice (some ⟨g4, 0, none⟩) n n) := by go_simp
  have z5 : w4.heap.size < (w4.alloc (.cells #[.int .i64 k, .int .i64 t, .int .i64 r, .slice (some ⟨g4, 0, none⟩) n n] 26)).heap.size := by simp
  have b5 : Below w4.heap.size w4 (w4.alloc (.cells #[.int .i64 k, .int .i64 t, .int .i64 r, .slice (some ⟨g4, 0, none⟩) n n] 26)) := (Below.refl _ _).alloc (Nat.le_refl _) _
  generalize hW5 : (w4.alloc (.cells #[.int .i64 k, .int .i64 t, .int .i64 r, .slice (some ⟨g4, 0, none⟩) n n] 26)) = w5 at *
  clear hW5
  have s5 : SetsAt w5 g4 0 xs := S4.out.below b5 hg42
  have hlen : xs.length = n := S3.out.1.1
  have h45 : g4 < w5.heap.size := Nat.lt_of_lt_of_le hg42 b5.size
  have B5 : Below w.heap.size w w5 := b0.trans ((S3.out.2.trans ((b4.trans (b5.mono b4.size)).mono S3.out.2.size)).mono b0.size)
  refine (implShow_any w5 k t r (some ⟨g4, 0, none⟩) n n xs hm ⟨hlen, .inr ⟨g4, 0, rfl, h45, s5⟩⟩ (fun w' h => HT.out w' (B5.trans (h.mono B5.size)))).mono ?_
  clear B5
  rintro e w6 ⟨rfl, b6⟩
  have B6 : Below W.heap.size W w6 := S3.out.2.trans (((b4.trans (b5.mono b4.size)).trans (b6.mono (Nat.le_trans b4.size b5.size))).mono S3.out.2.size)
  have e0 := (b6.cell (p := ⟨w4.heap.size, 0, none⟩) z5).trans c0
  have e1 := (b6.cell (p := ⟨w4.heap.size, 1, none⟩) z5).trans c1
  have e2 := (b6.cell (p := ⟨w4.heap.size, 2, none⟩) z5).trans c2
  have e3 := (b6.cell (p := ⟨w4.heap.size, 3, none⟩) z5).trans c3
  have h46 : w4.heap.size < w6.heap.size := Nat.lt_of_lt_of_le z5 b6.size
  obtain ⟨a0, a1, a2, a3, s6⟩ := KEEP'.out w6 B6
  have hw6 : w.heap.size < w6.heap.size := by have := B6.size; omega
  have bd : Below w6.heap.size w6 w6.drew := (Below.refl _ _).drew
  have S6 : Hid (Sl w6.drew w6.drew.heap.size a n xs ∧ Sl w6.drew w6.drew.heap.size (some ⟨g4, 0, none⟩) n xs ∧ Below W.heap.size W w6) := ⟨s6.below bd, Sl.below (w := w6) ⟨hlen, .inr ⟨g4, 0, rfl, Nat.lt_of_lt_of_le h45 b6.size, s5.below b6 h45⟩⟩ bd, B6⟩
  clear s6 s5 S4 S3 c0 c1 c2 c3 b4 b5 b6 z5 hg41 hg42 h45 hlen B6 KEEP' d0 bd
  go_wp2_with fail
  go_region_with (first
    | (go_at_call 15
       refine (toRecord_any w6.drew k t r a n cap xs hn S6.out.1).mono ?_
       rintro e w7 ⟨g7, rfl, b7, hg71, hg72, s7⟩
       have e0' : w7.cell? ⟨w4.heap.size, 0, none⟩ = some (.int .i64 k) := (b7.cell (p := ⟨w4.heap.size, 0, none⟩) h46).trans e0
       have e1' : w7.cell? ⟨w4.heap.size, 1, none⟩ = some (.int .i64 t) := (b7.cell (p := ⟨w4.heap.size, 1, none⟩) h46).trans e1
       have e2' : w7.cell? ⟨w4.heap.size, 2, none⟩ = some (.int .i64 r) := (b7.cell (p := ⟨w4.heap.size, 2, none⟩) h46).trans e2
       have e3' : w7.cell? ⟨w4.heap.size, 3, none⟩ = some (.slice (some ⟨g4, 0, none⟩) n n) := (b7.cell (p := ⟨w4.heap.size, 3, none⟩) h46).trans e3
       have S7 : Hid (Sl w7 w7.heap.size (some ⟨g4, 0, none⟩) n xs ∧ Sl w7 w7.heap.size (some ⟨g7, 0, none⟩) n xs ∧ Below w6.drew.heap.size w6.drew w7) := ⟨Sl.mono (Sl.below (w := w6.drew) S6.out.2.1 b7) b7.size, ⟨S6.out.1.1, .inr ⟨g7, 0, rfl, hg72, s7⟩⟩, b7⟩
       clear s7 b7 hg71 hg72)
    | (go_at_call 16
       refine (eqRecord_same _ k t r _ _ n n n xs hm S7.out.1 S7.out.2.1).mono ?_
       rintro e w8 ⟨rfl, b8⟩))
  all_goals (
    go_wp2
    go_ret
    refine ⟨rfl, b0.trans ((S6.out.2.2.trans (Below.mono (B' := W.heap.size) (Below.trans (Below.mono (B' := w6.heap.size) ((Below.refl _ w6).drew) (Nat.le_refl _)) (S7.out.2.2.trans (b8.mono S7.out.2.2.size))) S6.out.2.2.size)).mono b0.size)⟩)
theorem walk (w : World) (k t r : Int) (a : Option Addr) (n cap : Nat) (xs : List S5) (hm : n ≤ maxLen) (hs : Sl w w.heap.size a n xs) (ht : ∀ w', Below w.heap.size w w' → Tab w') :
    Calls Tryd.prog 4 #[.agg #[.int .i64 k, .int .i64 t, .int .i64 r, .slice a n cap]] w fun e w' => e = .returned (.bool true) ∧ Below w.heap.size w w' := by
  by_cases h : n ≤ 1048576
  · exact walk_small w k t r a n cap xs h hs ht
  · exact walk_great w k t r a n cap hm h
theorem tab_name : ∃ g t, Tryd.prog.globalNamed "internal/strconv.uint64pow10" = some g ∧ (Tryd.prog.globals[g]?).map (·.type) = some t ∧ Tryd.prog.underlying t = some (.array 20 95) ∧ Tryd.prog.cellsOf t = 20 :=
  ⟨0, 104, by kernel_rfl, by kernel_rfl, by kernel_rfl, by kernel_rfl⟩
theorem tab_of_laid {W : World} (h : laidMetH Tryd.prog Rows.fnExactShowRecordRow.laid W) : ∀ w', Below W.heap.size W w' → Tab w' := by
  rw [MakeChecks.laidMetH_plain _ _ _ (by kernel_rfl)] at h
  obtain ⟨g, t, h1, h2, h3, h4⟩ := tab_name
  have hT : Tab W := Lib.tabIs_of_head (k := .u64) (zs := Lib.pow10Tab) h1 h2 h3 Tryd.underlying95 (by kernel_rfl) h4 (laidMet.tail (laidMet.tail h))
  exact fun w' hb => TabIs_below h1 hT hb
theorem door_met (os : Os) (args : Array Value) : laidMetH Tryd.prog Rows.fnExactShowRecordRow.laid ((World.doorLaid Tryd.prog 400 os).forCall (fun _ _ => 0) ⟨#[], args, []⟩).memory :=
  laidMetH_of_parts3 (fuel := 8) (laidMet_of_run' 8 (by kernel_rfl) (by kernel_rfl)) (by kernel_rfl) (by kernel_rfl)
set_option maxRecDepth 100000 in
theorem lifted (os : Os) (started : os.Started) (H : Type) (enc : TypeId × Value → H) :
    ReturnsInHanded {} Tryd.checked os 4 .any (fun w args => (Rows.fnExactShowRecordSpec.pre enc Tryd.prog Tryd.f4 [] false w args ∧ laidMetH Tryd.prog Rows.fnExactShowRecordRow.laid w) ∧ sizedMet enc Tryd.prog Tryd.f4 (OpenSpec.ofChange Rows.fnExactShowRecordSpec) false w args)
      (Rows.fnExactShowRecordSpec.post enc Tryd.prog Tryd.f4 false true false false) := by
  refine returnsInHanded_of_change_and (C := Tryd.checked) (X := fun w _ => laidMetH Tryd.prog Rows.fnExactShowRecordRow.laid w) (fun _ _ _ hh h => h.of_heap hh) own started (by kernel_rfl) Tryd.func4
    (ChangeSpec.witness_shaped (enc := enc) (C := Tryd.checked) (os := os) (X := fun w _ => laidMetH Tryd.prog Rows.fnExactShowRecordRow.laid w) false (World.doorLaid Tryd.prog 400 os) #[.agg #[.int .i64 0, .int .i64 0, .int .i64 0, .slice none 0 0]] 8 rfl (World.shaped_of_RefB (by kernel_rfl) (by kernel_rfl)) (by kernel_rfl) (by kernel_rfl) (by kernel_rfl) (door_met os _)) ?_
  intro W base args ds gs before hval0 hW _ _ hL _
  have hval : ∀ (j : Nat) t v, Tryd.f4.params[j]? = some t → args[j]? = some v → Value.okWide Tryd.prog W .any base t v := hval0
  have hW' := hW
  obtain ⟨p, q, hA0, hV, rfl, hfz, hnd⟩ := hW
  have hA : DataW.TrodAll enc Tryd.prog W 0 (fun _ => true) true Tryd.f4.params.toList args.toList ds p := hA0
  rw [Tryd.params4] at hA hval
  obtain ⟨v0, vs0, d0, ds0, p0, q0, hargs, rfl, rfl, h0, r0⟩ := trodAll_cons hA
  obtain ⟨rfl, rfl, rfl⟩ := trodAll_nil r0
  obtain rfl : args = #[v0] := by cases args; simp_all
  obtain ⟨rfl, rfl⟩ := trodVars_none hV
  obtain ⟨cs, rfl, hcs⟩ := okWide_struct Tryd.underlying36 (hval 0 36 v0 rfl rfl)
  have k0 := h0
  have lt0 : ∀ x ∈ p0, x.block < W.heap.size := by obtain ⟨m, hm⟩ := k0; exact DataW.trod_lt m _ _ _ hm
  obtain ⟨k, t, r, a, n, cap, xs, rfl, hm, hs, _⟩ : ∃ (k t r : Int) (a : Option Addr) (n cap : Nat) (xs : List S5), cs = #[.int .i64 k, .int .i64 t, .int .i64 r, .slice a n cap] ∧ n ≤ maxLen ∧ Sl W W.heap.size a n xs ∧ True := by
    obtain ⟨fuel, hf⟩ := h0
    obtain ⟨k, t, r, a, n, cap, xs, e, hm, hs, _⟩ := open_record hf
    exact ⟨k, t, r, a, n, cap, xs, by cases cs; simpa [Value.cells] using e, hm, hs, trivial⟩
  clear hA0 hval0
  refine (walk W k t r a n cap xs hm hs (tab_of_laid hL)).mono fun e W' ⟨he, bel⟩ => ?_
  subst he
  exact ⟨_, rfl, _, _, _, [], _, [], hW', trodAll_mk1 (shut_bool Tryd.underlying4 _), (trodAll_cons_mk (Below.trod laidOut (by kernel_rfl) (of_decide_eq_true (by kernel_rfl)) k0 bel lt0) trodAll_mk0), rfl, bel.frame _, fun h => by cases h⟩

theorem over : Rows.fnExactShowRecordRow.holds Tryd.pinned (OpenSpec.ofChange Rows.fnExactShowRecordSpec) :=
  OpenClaim.holds_of_wide 4 Tryd.f4 rfl rfl rfl rfl rfl rfl rfl ⟨rfl, rfl, rfl, rfl, rfl⟩ rfl rfl rfl rfl rfl (by kernel_rfl) Tryd.func4 (by kernel_rfl)
    (of_decide_eq_true (by kernel_rfl)) (by unfold Func.isWrapper; first | (rw [if_pos (by decide +kernel)]; kernel_rfl) | (rw [if_neg (by decide +kernel)]; exact ⟨rfl, rfl⟩))
    (fun os started H enc _ => lifted os started H enc)

theorem card : Rows.FnExactShowRecordCardSaid :=
  Claim7.holds_tied_plain_at .later [] [.data, .data, .data] true Rows.fnExactShowRecordCard.stood.harness false
    over (fun _ h => by cases h) (by kernel_rfl) (fun _ h => by cases h) fnExactShowRecord_row_tie rfl ⟨rfl, rfl⟩ (by kernel_rfl) rfl
    (fun f fn hf hfn => by
      obtain rfl : f = 4 := Option.some.inj ((show Tryd.prog.funcNamed Rows.fnExactShowRecordRow.func = some 4 by kernel_rfl).symm.trans hf) |>.symm
      obtain rfl : fn = Tryd.f4 := (Option.some.inj (Tryd.func4.symm.trans hfn)).symm
      exact ⟨by kernel_rfl, fun j t ht => by
        rw [Tryd.params4] at ht
        have hm : t ∈ [36] := by simpa using Array.mem_of_getElem? ht
        have hall : ([36].all fun u => !Tryd.prog.wantsStandIn u) = true := by kernel_rfl
        exact (show Tryd.prog.wantsStandIn t = false by simpa using List.all_eq_true.1 hall t hm)⟩)
    (by kernel_rfl)
end Go.Proofs.YtmiiakhellgdbaaDoor.fnExactShowRecord
namespace Go.Proofs.YtmiiakhellgdbaaDoor
theorem fnExactShowRecord_holds : Rows.FnExactShowRecordCardSaid := fnExactShowRecord.card
#print axioms fnExactShowRecord_holds
end Go.Proofs.YtmiiakhellgdbaaDoor
