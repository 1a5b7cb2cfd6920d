/- OrN; OrP; NumHeld; KdN; CluI2: joined. -/
import Derived.Test.YtdmpobegobfpjaaGreatRows
import Derived.Test.YtdmpobegobfpjaaGreatJ9ExactOrder
import Derived.WalkKit
import Derived.WalkSpells
import Derived.WalkLawsBesides
import Derived.Below
import Derived.Lib.QuietBelow
import Derived.Lib.SliceRun
import Derived.BigQuiet
import Derived.Deep.CutRange
import Derived.Deep.RegionWith
import Derived.LaidEql
import Derived.RowKitTokens
import Derived.Test.YtdmpobegobfpjaaGreatJ2ExactOrder
import Derived.Test.YtdmpobegobfpjaaGreatJ0ExactOrder
import Derived.Test.YtdmpobegobfpjaaGreatJ3ExactOrder
import Derived.Test.YtdmpobegobfpjaaGreatJ7ExactOrder
import Derived.Test.YtdmpobegobfpjaaGreatJ6ExactOrder
namespace Go.Proofs.YtdmpobegobfpjaaGreat
open Go.RowKit
open Go.Sort (grow)
set_option maxHeartbeats 2000000 in
theorem cloneX_any (w : World) (b c : Nat) (xs : List (tx.TV × tx.T7)) (hn : xs.length ≤ 60) (hb : b < w.heap.size) (hx : AtX w b 0 xs) (hne : xs ≠ []) :
    Calls Tryz.prog 124 #[.slice (some ⟨b, 0, none⟩) xs.length c] w fun e w' => ∃ q cp, e = .returned (.slice (some ⟨q, 0, none⟩) xs.length cp) ∧ RwX w' w.heap.size q xs ∧ Below w.heap.size w w' := by
  have bA : Below w.heap.size w (w.alloc (.cells #[] 55)) := (Below.refl _ _).alloc (Nat.le_refl _) _
  obtain ⟨p1, e1, Z1, run1, row1, gr1⟩ := pushXs (RowX.made w) xs (by simp; omega) 32 (some ⟨b, 0, none⟩) c (.inr ⟨b, 0, rfl, hx.below bA hb⟩) bA.size
  rw [List.nil_append] at run1 row1
  obtain ⟨q, rfl⟩ : ∃ q, p1 = some ⟨q, 0, none⟩ := by
    obtain ⟨a9, c9, e9, _, h9⟩ := row1.form
    cases e9
    rcases h9 with h9 | ⟨q, e9, _⟩
    · exact absurd h9 hne
    · exact ⟨q, e9⟩
  have HK : Hid (RwX Z1 w.heap.size q xs ∧ Below w.heap.size w Z1) := ⟨row1.rw, bA.grown gr1 bA.size (fun z e => by cases e; exact Nat.le_refl _)⟩
  have heq : (binOp .eql 32 (.slice (some ⟨b, 0, none⟩) xs.length c) (.slice none 0 0)).run Tryz.prog w = .ok (.bool false) w := Go.Lib.run_eql_slice_nil w 32 55 (some ⟨b, 0, none⟩) xs.length c 0 0 Tryz.underlying32
  clear row1 gr1 bA hx hne
  go_enter Tryz.func124, Tryz.ntmps124
  go_wp2_with (at_builtin; refine append_known _ rfl (.tmp 5) (.tmp 6) 32 rfl _ _ _ _ rfl rfl run1 ?_)
  go_ret
  exact ⟨q, e1, rfl, HK.out.1, HK.out.2⟩
theorem cloneN_any (w : World) : Calls Tryz.prog 124 #[.slice none 0 0] w fun e w' => e = .returned (.slice none 0 0) ∧ w' = w := by
  have heq : (binOp .eql 32 (.slice none 0 0) (.slice none 0 0)).run Tryz.prog w = .ok (.bool true) w := Go.Lib.run_eql_slice_nil w 32 55 none 0 0 0 0 Tryz.underlying32
  go_enter Tryz.func124, Tryz.ntmps124
  go_wp2
  go_ret
  exact ⟨rfl, rfl⟩
def rowJ (k : C6) (tv : Nat → tx.TV) (l : List Nat) : List (tx.TV × tx.T7) := l.map fun j => (tv j, atT k.txs j)
theorem rowJ_len (k : C6) (tv : Nat → tx.TV) (l : List Nat) : (rowJ k tv l).length = l.length := by simp [rowJ]
theorem rowJ_at {k : C6} {tv : Nat → tx.TV} {l : List Nat} {i j : Nat} (h : l[i]? = some j) : (rowJ k tv l)[i]? = some (tv j, atT k.txs j) := by rw [rowJ, List.getElem?_map, h]; rfl
theorem rowJ_set (k : C6) (tv : Nat → tx.TV) (l : List Nat) (i j : Nat) : (rowJ k tv l).set i (tv j, atT k.txs j) = rowJ k tv (l.set i j) := by rw [rowJ, rowJ, List.map_set]
set_option maxRecDepth 10000 in
set_option maxHeartbeats 2000000 in
theorem sortedN_any (w : World) : Calls Tryz.prog 70 #[.slice none 0 0, .func (.func 71) #[] #[]] w fun e w' => e = .returned (.slice none 0 0) ∧ w' = w := by
  go_enter Tryz.func70, Tryz.ntmps70
  go_wp2_with fail
  refine (cloneN_any w).mono ?_
  rintro e w1 ⟨rfl, rfl⟩
  go_wp2
  go_loopw [12] (fun v wr => v = .int .i64 0 ∧ wr = w1) (fun _ _ => 0)
  case atStart => exact ⟨rfl, rfl⟩
  case round =>
    obtain ⟨rfl, rfl⟩ := hrel
    go_wp2
    go_ret
    exact ⟨rfl, rfl⟩
def SrtR (w : World) (xs : List (tx.TV × tx.T7)) (e : Ending) (w' : World) : Prop := ∃ q c, e = .returned (.slice (some ⟨q, 0, none⟩) xs.length c) ∧ RwX w' w.heap.size q xs ∧ Below w.heap.size w w'
set_option maxRecDepth 100000 in
set_option maxHeartbeats 16000000 in
theorem sortedBy_any (w : World) (b c : Nat) (k : C6) (tv : Nat → tx.TV) (l : List Nat) (hk : clusterB k = true) (hl : l = tolJ k k.txs.length) (hb : b < w.heap.size) (hx : AtX w b 0 (rowJ k tv l)) (hne : l ≠ []) :
    Calls Tryz.prog 70 #[.slice (some ⟨b, 0, none⟩) l.length c, .func (.func 71) #[] #[]] w (SrtR w (rowJ k tv (ordJ k k.txs.length))) := by
  have hn : l.length ≤ 60 := by rw [hl]; exact Nat.le_trans (tolJ_len k _) (CSm.of hk).t
  have hc := cloneX_any w b c (rowJ k tv l) (by rw [rowJ_len]; exact hn) hb hx (fun e => hne (by simpa [rowJ] using e))
  rw [rowJ_len] at hc
  have HK : Hid (clusterB k = true ∧ l = tolJ k k.txs.length) := ⟨hk, hl⟩
  clear hb hx hne hk hl
  go_enter Tryz.func70, Tryz.ntmps70
  go_wp2_with fail
  refine hc.mono ?_
  clear hc
  rintro e W1 ⟨q, cp, rfl, hrw, b1⟩
  have H1 : Hid (RwX W1 w.heap.size q (rowJ k tv l) ∧ Below w.heap.size w W1) := ⟨hrw, b1⟩
  clear hrw b1
  obtain ⟨n, hnn⟩ : ∃ n, n = l.length := ⟨_, rfl⟩
  rw [← hnn] at hn
  rw [← hnn]
  have HN : Hid (n = l.length) := hnn
  clear hnn
  go_wp2
  go_loopw [12] (fun v wr => ∃ e : Nat, e ≤ n ∧ v = .int .i64 e ∧ RwX wr w.heap.size q (rowJ k tv (bakJ k l e)) ∧ Below w.heap.size w wr) (fun v _ => n - (intOf v).toNat)
  case atStart => exact ⟨0, Nat.zero_le _, rfl, by rw [show bakJ k l 0 = l from rfl]; exact H1.out.1, H1.out.2⟩
  case round =>
    obtain ⟨e, he, rfl, hrw, hbl⟩ := hrel
    by_cases hlt : e < n
    · obtain ⟨f, hf⟩ : ∃ f : Nat → Bool, f = fun q => decide (stpJ k (l[e]?.getD 0) < stpJ k ((srtJ k l e)[q]?.getD 0)) := ⟨_, rfl⟩
      have HF := hidOf hf
      clear hf
      have K0 : Hid (RwX wr w.heap.size q (rowJ k tv (curJ k l e e)) ∧ Below w.heap.size w wr) := ⟨by rw [curJ_start k (by rw [← HN.out]; exact hlt)]; exact hrw, hbl⟩
      clear hrw hbl
      generalize wr = W2 at *
      go_wp2
      go_loopw [7] (fun v wr => ∃ a : Nat, a ≤ e ∧ v = .int .i64 a ∧ RwX wr w.heap.size q (rowJ k tv (curJ k l e a)) ∧ Below w.heap.size w wr ∧ cutK f e = cutK f a) (fun v _ => (intOf v).toNat)
      case atStart => exact ⟨e, Nat.le_refl _, rfl, K0.out.1, K0.out.2, rfl⟩
      case round =>
        obtain ⟨a, ha, rfl, hrw, hbl, hct⟩ := hrel
        have KQ : Hid (RwX wr w.heap.size q (rowJ k tv (curJ k l e a)) ∧ Below w.heap.size w wr ∧ cutK f e = cutK f a) := ⟨hrw, hbl, hct⟩
        clear hrw hbl hct
        rcases a with _ | p
        · have KE : Hid (RwX wr w.heap.size q (rowJ k tv (bakJ k l (e + 1))) ∧ Below w.heap.size w wr) := ⟨by rw [← curJ_end k (a := 0) (by rw [← HF.out, KQ.out.2.2]; rfl)]; exact KQ.out.1, KQ.out.2.1⟩
          have d0 : decide ((0 : Int) < ((0 : Nat) : Int)) = false := by simp
          go_wp2_with fail
          go_quiet (fail)
          go_wp2
          exact ⟨⟨e + 1, by omega, by simp, KE.out.1, below_dn KE.out.2 _⟩, by simp [intOf]; omega⟩
        · obtain ⟨xi, hxi⟩ : ∃ z, z = l[e]?.getD 0 := ⟨_, rfl⟩
          obtain ⟨yi, hyi⟩ : ∃ z, z = (srtJ k l e)[p]?.getD 0 := ⟨_, rfl⟩
          have hX := rowJ_at (k := k) (tv := tv) (curJ_at k (l := l) ha)
          have hY := rowJ_at (k := k) (tv := tv) (curJ_low k (l := l) ha)
          rw [← hxi] at hX
          rw [← hyi] at hY
          have hless : (atT k.txs yi).id < (atT k.txs xi).id := by
            rw [hxi, hyi]
            have := HK.out.2
            subst this
            exact met_less HK.out.1 (Nat.le_refl _) (by rw [← HN.out]; exact hlt) (by omega)
          have hsc := stmC_less hless
          have hfp : f p = decide ((atT k.txs xi).stamp < (atT k.txs yi).stamp) := by rw [HF.out, hxi, hyi]; rfl
          rw [← hfp] at hsc
          have cA : ∀ d os, Calls Tryz.prog 71 #[.agg #[.int .i64 ((atT k.txs xi)).id, .int .i64 ((atT k.txs xi)).home, .int .i64 ((atT k.txs xi)).phase, .int .i64 ((atT k.txs xi)).count, .slice ((tv xi)).ar ((atT k.txs xi)).reads.length ((tv xi)).cr, .slice ((tv xi)).ah ((atT k.txs xi)).sets.length ((tv xi)).ch, .int .i64 ((atT k.txs xi)).stamp], .agg #[.int .i64 ((atT k.txs yi)).id, .int .i64 ((atT k.txs yi)).home, .int .i64 ((atT k.txs yi)).phase, .int .i64 ((atT k.txs yi)).count, .slice ((tv yi)).ar ((atT k.txs yi)).reads.length ((tv yi)).cr, .slice ((tv yi)).ah ((atT k.txs yi)).sets.length ((tv yi)).ch, .int .i64 ((atT k.txs yi)).stamp]] (grow (redrawn wr d) os) fun e w'' => e = .returned (.int .i64 (stmC (atT k.txs xi) (atT k.txs yi))) ∧ ∃ p : Regrown, w'' = grow (redrawn wr p.d) p.os := fun d os => Calls.regrown_of (byStamp_any _ (tv xi) (tv yi) _ _)
          have x0 : wr.cell? ⟨q, (p + 1) * 7, none⟩ = some (.int .i64 ((atT k.txs xi)).id) := by have := KQ.out.1.1 (p + 1) _ hX 0 _ rfl; rwa [Nat.zero_add] at this
          have x1 : wr.cell? ⟨q, (p + 1) * 7 + 1, none⟩ = some (.int .i64 ((atT k.txs xi)).home) := by have := KQ.out.1.1 (p + 1) _ hX 1 _ rfl; rwa [Nat.zero_add] at this
          have x2 : wr.cell? ⟨q, (p + 1) * 7 + 2, none⟩ = some (.int .i64 ((atT k.txs xi)).phase) := by have := KQ.out.1.1 (p + 1) _ hX 2 _ rfl; rwa [Nat.zero_add] at this
          have x3 : wr.cell? ⟨q, (p + 1) * 7 + 3, none⟩ = some (.int .i64 ((atT k.txs xi)).count) := by have := KQ.out.1.1 (p + 1) _ hX 3 _ rfl; rwa [Nat.zero_add] at this
          have x4 : wr.cell? ⟨q, (p + 1) * 7 + 4, none⟩ = some (.slice ((tv xi)).ar ((atT k.txs xi)).reads.length ((tv xi)).cr) := by have := KQ.out.1.1 (p + 1) _ hX 4 _ rfl; rwa [Nat.zero_add] at this
          have x5 : wr.cell? ⟨q, (p + 1) * 7 + 5, none⟩ = some (.slice ((tv xi)).ah ((atT k.txs xi)).sets.length ((tv xi)).ch) := by have := KQ.out.1.1 (p + 1) _ hX 5 _ rfl; rwa [Nat.zero_add] at this
          have x6 : wr.cell? ⟨q, (p + 1) * 7 + 6, none⟩ = some (.int .i64 ((atT k.txs xi)).stamp) := by have := KQ.out.1.1 (p + 1) _ hX 6 _ rfl; rwa [Nat.zero_add] at this
          have y0 : wr.cell? ⟨q, p * 7, none⟩ = some (.int .i64 ((atT k.txs yi)).id) := by have := KQ.out.1.1 p _ hY 0 _ rfl; rwa [Nat.zero_add] at this
          have y1 : wr.cell? ⟨q, p * 7 + 1, none⟩ = some (.int .i64 ((atT k.txs yi)).home) := by have := KQ.out.1.1 p _ hY 1 _ rfl; rwa [Nat.zero_add] at this
          have y2 : wr.cell? ⟨q, p * 7 + 2, none⟩ = some (.int .i64 ((atT k.txs yi)).phase) := by have := KQ.out.1.1 p _ hY 2 _ rfl; rwa [Nat.zero_add] at this
          have y3 : wr.cell? ⟨q, p * 7 + 3, none⟩ = some (.int .i64 ((atT k.txs yi)).count) := by have := KQ.out.1.1 p _ hY 3 _ rfl; rwa [Nat.zero_add] at this
          have y4 : wr.cell? ⟨q, p * 7 + 4, none⟩ = some (.slice ((tv yi)).ar ((atT k.txs yi)).reads.length ((tv yi)).cr) := by have := KQ.out.1.1 p _ hY 4 _ rfl; rwa [Nat.zero_add] at this
          have y5 : wr.cell? ⟨q, p * 7 + 5, none⟩ = some (.slice ((tv yi)).ah ((atT k.txs yi)).sets.length ((tv yi)).ch) := by have := KQ.out.1.1 p _ hY 5 _ rfl; rwa [Nat.zero_add] at this
          have y6 : wr.cell? ⟨q, p * 7 + 6, none⟩ = some (.int .i64 ((atT k.txs yi)).stamp) := by have := KQ.out.1.1 p _ hY 6 _ rfl; rwa [Nat.zero_add] at this
          have HXY : Hid (xi = l[e]?.getD 0 ∧ yi = (srtJ k l e)[p]?.getD 0) := ⟨hxi, hyi⟩
          have d0 : decide ((0 : Int) < ((p + 1 : Nat) : Int)) = true := by simp
          have pn : (p : Int) < (n : Int) := by omega
          have pn1 : (p : Int) + 1 < (n : Int) := by omega
          have lift : ∀ {o : Nat} {u : Value}, wr.cell? ⟨q, o, none⟩ = some u → ∀ d os, (grow (redrawn wr d) os).cell? ⟨q, o, none⟩ = some u := fun {o u} hh d os => ((below_regrown wr d os).cell (p := ⟨q, o, none⟩) KQ.out.1.2.2.2).trans hh
          replace x0 := lift x0
          replace x1 := lift x1
          replace x2 := lift x2
          replace x3 := lift x3
          replace x4 := lift x4
          replace x5 := lift x5
          replace x6 := lift x6
          replace y0 := lift y0
          replace y1 := lift y1
          replace y2 := lift y2
          replace y3 := lift y3
          replace y4 := lift y4
          replace y5 := lift y5
          replace y6 := lift y6
          clear lift
          clear hX hY hless hfp hxi hyi
          generalize stmC (atT k.txs xi) (atT k.txs yi) = sc at *
          cases hfb : f p with
          | false =>
            rw [hfb] at hsc
            have KE : Hid (RwX wr w.heap.size q (rowJ k tv (bakJ k l (e + 1))) ∧ Below w.heap.size w wr) := ⟨by rw [← curJ_end k (a := p + 1) (by rw [← HF.out, KQ.out.2.2, cutK, if_neg (by rw [hfb]; decide)])]; exact KQ.out.1, KQ.out.2.1⟩
            clear hfb
            generalize (atT k.txs xi).id = a0 at *
            generalize (atT k.txs xi).home = a1 at *
            generalize (atT k.txs xi).phase = a2 at *
            generalize (atT k.txs xi).count = a3 at *
            generalize (tv xi).ar = a4 at *
            generalize (atT k.txs xi).reads.length = a4l at *
            generalize (tv xi).cr = a4c at *
            generalize (tv xi).ah = a5 at *
            generalize (atT k.txs xi).sets.length = a5l at *
            generalize (tv xi).ch = a5c at *
            generalize (atT k.txs xi).stamp = a6 at *
            generalize (atT k.txs yi).id = e0 at *
            generalize (atT k.txs yi).home = e1 at *
            generalize (atT k.txs yi).phase = e2 at *
            generalize (atT k.txs yi).count = e3 at *
            generalize (tv yi).ar = e4 at *
            generalize (atT k.txs yi).reads.length = e4l at *
            generalize (tv yi).cr = e4c at *
            generalize (tv yi).ah = e5 at *
            generalize (atT k.txs yi).sets.length = e5l at *
            generalize (tv yi).ch = e5c at *
            generalize (atT k.txs yi).stamp = e6 at *
            go_wp2_with fail
            refine wp_region_quiet_below (by kernel_rfl) (by kernel_rfl) ?_
            repeat (go_big_quiet_step (first | (go_at_call 71; exact cA _ _)))
            refine wpQuiet_nil ?_
            intro _ hw'
            obtain ⟨⟨dq', osq⟩, hw''⟩ := hw'
            subst hw''
            have BQ : Hid (Below wr.heap.size wr (grow (redrawn wr dq') osq)) := below_regrown wr dq' osq
            clear cA
            go_wp2
            exact ⟨⟨e + 1, by omega, by simp, KE.out.1.later BQ.out, bstep KE.out.2 BQ.out⟩, by simp [intOf]; omega⟩
          | true =>
            rw [hfb] at hsc
            have HFB : Hid (cutK f e = cutK f p) := by unfold Hid; rw [KQ.out.2.2, cutK, if_pos hfb]
            clear hfb
            go_wp2_with fail
            refine wp_region_quiet_below (by kernel_rfl) (by kernel_rfl) ?_
            repeat (go_big_quiet_step (first | (go_at_call 71; exact cA _ _)))
            refine wpQuiet_nil ?_
            intro _ hw'
            obtain ⟨⟨dq', osq⟩, hw''⟩ := hw'
            subst hw''
            have BQ : Hid (Below wr.heap.size wr (grow (redrawn wr dq') osq)) := below_regrown wr dq' osq
            clear cA
            generalize grow (redrawn wr dq') osq = V at *
            clear x0 x1 x2 x3 x4 x5 x6 y0 y1 y2 y3 y4 y5 y6
            have hR := KQ.out.1.later BQ.out
            have hX := rowJ_at (k := k) (tv := tv) (curJ_at k (l := l) ha)
            have hY := rowJ_at (k := k) (tv := tv) (curJ_low k (l := l) ha)
            rw [← HXY.out.1] at hX
            rw [← HXY.out.2] at hY
            have hlen : (rowJ k tv (curJ k l e (p + 1))).length = n := by rw [rowJ_len, curJ_len k (by rw [← HN.out]; exact hlt) ha, HN.out]
            have rd : Room V.drew q (n * 7) := by have := hR.2.1; rw [hlen] at this; exact this
            have hS : (fun Z : World => Z.cell? ⟨q, (p + 1) * 7, none⟩ = some (.int .i64 ((atT k.txs xi)).id) ∧ Z.cell? ⟨q, (p + 1) * 7 + 1, none⟩ = some (.int .i64 ((atT k.txs xi)).home) ∧ Z.cell? ⟨q, (p + 1) * 7 + 2, none⟩ = some (.int .i64 ((atT k.txs xi)).phase) ∧ Z.cell? ⟨q, (p + 1) * 7 + 3, none⟩ = some (.int .i64 ((atT k.txs xi)).count) ∧ Z.cell? ⟨q, (p + 1) * 7 + 4, none⟩ = some (.slice ((tv xi)).ar ((atT k.txs xi)).reads.length ((tv xi)).cr) ∧ Z.cell? ⟨q, (p + 1) * 7 + 5, none⟩ = some (.slice ((tv xi)).ah ((atT k.txs xi)).sets.length ((tv xi)).ch) ∧ Z.cell? ⟨q, (p + 1) * 7 + 6, none⟩ = some (.int .i64 ((atT k.txs xi)).stamp) ∧ Z.cell? ⟨q, p * 7, none⟩ = some (.int .i64 ((atT k.txs yi)).id) ∧ Z.cell? ⟨q, p * 7 + 1, none⟩ = some (.int .i64 ((atT k.txs yi)).home) ∧ Z.cell? ⟨q, p * 7 + 2, none⟩ = some (.int .i64 ((atT k.txs yi)).phase) ∧ Z.cell? ⟨q, p * 7 + 3, none⟩ = some (.int .i64 ((atT k.txs yi)).count) ∧ Z.cell? ⟨q, p * 7 + 4, none⟩ = some (.slice ((tv yi)).ar ((atT k.txs yi)).reads.length ((tv yi)).cr) ∧ Z.cell? ⟨q, p * 7 + 5, none⟩ = some (.slice ((tv yi)).ah ((atT k.txs yi)).sets.length ((tv yi)).ch) ∧ Z.cell? ⟨q, p * 7 + 6, none⟩ = some (.int .i64 ((atT k.txs yi)).stamp)) V.drew := ⟨by have := hR.1 (p + 1) _ hX 0 _ rfl; rw [Nat.zero_add] at this; exact this, by have := hR.1 (p + 1) _ hX 1 _ rfl; rw [Nat.zero_add] at this; exact this, by have := hR.1 (p + 1) _ hX 2 _ rfl; rw [Nat.zero_add] at this; exact this, by have := hR.1 (p + 1) _ hX 3 _ rfl; rw [Nat.zero_add] at this; exact this, by have := hR.1 (p + 1) _ hX 4 _ rfl; rw [Nat.zero_add] at this; exact this, by have := hR.1 (p + 1) _ hX 5 _ rfl; rw [Nat.zero_add] at this; exact this, by have := hR.1 (p + 1) _ hX 6 _ rfl; rw [Nat.zero_add] at this; exact this, by have := hR.1 p _ hY 0 _ rfl; rw [Nat.zero_add] at this; exact this, by have := hR.1 p _ hY 1 _ rfl; rw [Nat.zero_add] at this; exact this, by have := hR.1 p _ hY 2 _ rfl; rw [Nat.zero_add] at this; exact this, by have := hR.1 p _ hY 3 _ rfl; rw [Nat.zero_add] at this; exact this, by have := hR.1 p _ hY 4 _ rfl; rw [Nat.zero_add] at this; exact this, by have := hR.1 p _ hY 5 _ rfl; rw [Nat.zero_add] at this; exact this, by have := hR.1 p _ hY 6 _ rfl; rw [Nat.zero_add] at this; exact this⟩
            have HP : Hid (RwX V.drew w.heap.size q (rowJ k tv (curJ k l e (p + 1))) ∧ Below w.heap.size w V.drew) := ⟨hR.later ((Below.refl _ _).drew), (bstep KQ.out.2.1 BQ.out).drew⟩
            have HL := hidOf hlen
            have HY := hidOf hY
            clear hR hX hY hlen
            have hwp : IntKind.i64.wrap (p : Int) = (p : Int) := by rw [IntKind.wrap_i64]; omega
            go_wp2_with fail
            refine wp_region_z (fun z => z == 15 || z == 17) (fun Z : World => Z.cell? ⟨q, (p + 1) * 7, none⟩ = some (.int .i64 ((atT k.txs xi)).id) ∧ Z.cell? ⟨q, (p + 1) * 7 + 1, none⟩ = some (.int .i64 ((atT k.txs xi)).home) ∧ Z.cell? ⟨q, (p + 1) * 7 + 2, none⟩ = some (.int .i64 ((atT k.txs xi)).phase) ∧ Z.cell? ⟨q, (p + 1) * 7 + 3, none⟩ = some (.int .i64 ((atT k.txs xi)).count) ∧ Z.cell? ⟨q, (p + 1) * 7 + 4, none⟩ = some (.slice ((tv xi)).ar ((atT k.txs xi)).reads.length ((tv xi)).cr) ∧ Z.cell? ⟨q, (p + 1) * 7 + 5, none⟩ = some (.slice ((tv xi)).ah ((atT k.txs xi)).sets.length ((tv xi)).ch) ∧ Z.cell? ⟨q, (p + 1) * 7 + 6, none⟩ = some (.int .i64 ((atT k.txs xi)).stamp) ∧ Z.cell? ⟨q, p * 7, none⟩ = some (.int .i64 ((atT k.txs yi)).id) ∧ Z.cell? ⟨q, p * 7 + 1, none⟩ = some (.int .i64 ((atT k.txs yi)).home) ∧ Z.cell? ⟨q, p * 7 + 2, none⟩ = some (.int .i64 ((atT k.txs yi)).phase) ∧ Z.cell? ⟨q, p * 7 + 3, none⟩ = some (.int .i64 ((atT k.txs yi)).count) ∧ Z.cell? ⟨q, p * 7 + 4, none⟩ = some (.slice ((tv yi)).ar ((atT k.txs yi)).reads.length ((tv yi)).cr) ∧ Z.cell? ⟨q, p * 7 + 5, none⟩ = some (.slice ((tv yi)).ah ((atT k.txs yi)).sets.length ((tv yi)).ch) ∧ Z.cell? ⟨q, p * 7 + 6, none⟩ = some (.int .i64 ((atT k.txs yi)).stamp)) (by kernel_rfl) ?_
            generalize V.drew = Wd at *
            refine wpZ_takeP (i := 0) (v := ?_) rfl (by kernel_rfl) (fun _ _ _ h => h) (Or.inl ⟨by rfl, ?_⟩) hS ?_
            rotate_left
            · (intro w _; go_simp; first | done | with_reducible rfl | (rw [if_pos (by omega)]) | (rw [if_pos (by omega)]; go_simp))
            simp only [Act.put]
            refine wpZ_takeP (i := 1) (v := ?_) rfl (by kernel_rfl) (fun _ _ _ h => h) (Or.inl ⟨by rfl, ?_⟩) hS ?_
            rotate_left
            · (intro w _; go_simp; first | done | with_reducible rfl | (rw [if_pos (by omega)]) | (rw [if_pos (by omega)]; go_simp))
            simp only [Act.put]
            refine wpZ_takeP (i := 2) (v := ?_) rfl (by kernel_rfl) (fun _ _ _ h => h) (Or.inl ⟨by rfl, ?_⟩) hS ?_
            rotate_left
            · (intro w _; go_simp; first | done | with_reducible rfl | (rw [if_pos (by omega)]) | (rw [if_pos (by omega)]; go_simp))
            simp only [Act.put]
            refine wpZ_takeP (i := 3) (v := ?_) rfl (by kernel_rfl) (fun _ _ _ h => h) (Or.inl ⟨by rfl, ?_⟩) hS ?_
            rotate_left
            · (intro w _; go_simp; first | done | with_reducible rfl | (rw [if_pos (by omega)]) | (rw [if_pos (by omega)]; go_simp))
            simp only [Act.put]
            refine wpZ_takeP (i := 4) (v := ?_) rfl (by kernel_rfl) (fun _ _ _ h => h) (Or.inl ⟨by rfl, ?_⟩) hS ?_
            rotate_left
            · (intro w _; go_simp; first | done | with_reducible rfl | (rw [if_pos (by omega)]) | (rw [if_pos (by omega)]; go_simp))
            simp only [Act.put]
            refine wpZ_takeP (i := 5) (v := ?_) rfl (by kernel_rfl) (fun _ _ _ h => h) (Or.inl ⟨by rfl, ?_⟩) hS ?_
            rotate_left
            · (intro w _; go_simp; first | done | with_reducible rfl | (rw [if_pos (by omega)]) | (rw [if_pos (by omega)]; go_simp))
            simp only [Act.put]
            refine wpZ_takeP (i := 6) (v := ?_) rfl (by kernel_rfl) (fun _ _ _ h => h) (Or.inl ⟨by rfl, ?_⟩) hS ?_
            rotate_left
            · (intro w _; go_simp; first | done | with_reducible rfl | (rw [if_pos (by omega)]) | (rw [if_pos (by omega)]; go_simp))
            simp only [Act.put]
            refine wpZ_takeP (i := 7) (v := ?_) rfl (by kernel_rfl) (fun _ _ _ h => h) (Or.inl ⟨by rfl, ?_⟩) hS ?_
            rotate_left
            · (intro w _; go_simp; first | done | with_reducible rfl | (rw [if_pos (by omega)]) | (rw [if_pos (by omega)]; go_simp))
            simp only [Act.put]
            refine wpZ_takeP (i := 8) (v := ?_) rfl (by kernel_rfl) (fun _ _ _ h => h) (Or.inl ⟨by rfl, ?_⟩) hS ?_
            rotate_left
            · (intro w _; go_simp; first | done | with_reducible rfl | (rw [if_pos (by omega)]) | (rw [if_pos (by omega)]; go_simp))
            simp only [Act.put]
            refine wpZ_take (i := 9) (v := .agg #[.int .i64 ((atT k.txs yi)).id, .int .i64 ((atT k.txs yi)).home, .int .i64 ((atT k.txs yi)).phase, .int .i64 ((atT k.txs yi)).count, .slice ((tv yi)).ar ((atT k.txs yi)).reads.length ((tv yi)).cr, .slice ((tv yi)).ah ((atT k.txs yi)).sets.length ((tv yi)).ch, .int .i64 ((atT k.txs yi)).stamp]) rfl (by kernel_rfl) (fun _ _ _ h => h) (Or.inl ⟨by rfl, ?_⟩) hS ?_
            · (intro w hSw; obtain ⟨-, -, -, -, -, -, -, s7, s8, s9, s10, s11, s12, s13⟩ := hSw; clear hS rd HP; go_simp)
            simp only [Act.put]
            refine wpZ_takeP (i := 10) (v := ?_) rfl (by kernel_rfl) (fun _ _ _ h => h) (Or.inl ⟨by rfl, ?_⟩) hS ?_
            rotate_left
            · (intro w _; go_simp; first | done | with_reducible rfl | (rw [if_pos (by omega)]) | (rw [if_pos (by omega)]; go_simp))
            simp only [Act.put]
            refine wpZ_takeP (i := 11) (v := ?_) rfl (by kernel_rfl) (fun _ _ _ h => h) (Or.inl ⟨by rfl, ?_⟩) hS ?_
            rotate_left
            · (intro w _; go_simp; first | done | with_reducible rfl | (rw [if_pos (by omega)]) | (rw [if_pos (by omega)]; go_simp))
            simp only [Act.put]
            refine wpZ_takeP (i := 12) (v := ?_) rfl (by kernel_rfl) (fun _ _ _ h => h) (Or.inl ⟨by rfl, ?_⟩) hS ?_
            rotate_left
            · (intro w _; go_simp; first | done | with_reducible rfl | (rw [if_pos (by omega)]) | (rw [if_pos (by omega)]; go_simp))
            simp only [Act.put]
            refine wpZ_take (i := 13) (v := .agg #[.int .i64 ((atT k.txs xi)).id, .int .i64 ((atT k.txs xi)).home, .int .i64 ((atT k.txs xi)).phase, .int .i64 ((atT k.txs xi)).count, .slice ((tv xi)).ar ((atT k.txs xi)).reads.length ((tv xi)).cr, .slice ((tv xi)).ah ((atT k.txs xi)).sets.length ((tv xi)).ch, .int .i64 ((atT k.txs xi)).stamp]) rfl (by kernel_rfl) (fun _ _ _ h => h) (Or.inl ⟨by rfl, ?_⟩) hS ?_
            · (intro w hSw; obtain ⟨s0, s1, s2, s3, s4, s5, s6, -, -, -, -, -, -, -⟩ := hSw; clear hS rd HP; go_simp)
            simp only [Act.put]
            refine wpZ_takeP (i := 14) (v := ?_) rfl (by kernel_rfl) (fun _ _ _ h => h) (Or.inl ⟨by rfl, ?_⟩) hS ?_
            rotate_left
            · (intro w _; go_simp; first | done | with_reducible rfl | (rw [if_pos (by omega)]) | (rw [if_pos (by omega)]; go_simp))
            simp only [Act.put]
            have c0 := hS.1
            have f0 := (rd ((p + 1) * 7) (by omega)).choose_spec.2
            have c1 := hS.2.1
            have f1 := (rd ((p + 1) * 7 + 1) (by omega)).choose_spec.2
            have c2 := hS.2.2.1
            have f2 := (rd ((p + 1) * 7 + 2) (by omega)).choose_spec.2
            have c3 := hS.2.2.2.1
            have f3 := (rd ((p + 1) * 7 + 3) (by omega)).choose_spec.2
            have c4 := hS.2.2.2.2.1
            have f4 := (rd ((p + 1) * 7 + 4) (by omega)).choose_spec.2
            have c5 := hS.2.2.2.2.2.1
            have f5 := (rd ((p + 1) * 7 + 5) (by omega)).choose_spec.2
            have c6 := hS.2.2.2.2.2.2.1
            have f6 := (rd ((p + 1) * 7 + 6) (by omega)).choose_spec.2
            refine wpZ_ready (rs := [15]) (by kernel_rfl) (by simp) ?_
            refine AllZ.cons rfl (fun K hK => ?_) AllZ.nil
            go_simp
            refine hK.out _ _ (fun h => absurd (show false = true from h.symm.trans (by kernel_rfl)) (by decide)) ?_
            clear hK K
            refine wpZ_ready (rs := [16]) (by kernel_rfl) (by simp) ?_
            refine AllZ.cons rfl (fun K hK => ?_) AllZ.nil
            go_simp
            refine hK.out _ _ (fun h => absurd (show false = true from h.symm.trans (by kernel_rfl)) (by decide)) ?_
            clear hK K
            obtain ⟨Wp, hWp⟩ : ∃ Y, Y = putB Wd q ((p + 1) * 7) (cellsT (tv yi, atT k.txs yi)) := ⟨_, rfl⟩
            have R1 := HP.out.1.put (i := p + 1) (by rw [HL.out]; omega) (tv yi, atT k.txs yi)
            rw [← hWp] at R1
            have rd1 : Room Wp q (n * 7) := by have := R1.2.1; rw [List.length_set, HL.out] at this; exact this
            have hWn : Wp = (((((((Wd.setCell ⟨q, (p + 1) * 7, none⟩ (.int .i64 ((atT k.txs yi)).id)).setCell ⟨q, (p + 1) * 7 + 1, none⟩ (.int .i64 ((atT k.txs yi)).home)).setCell ⟨q, (p + 1) * 7 + 2, none⟩ (.int .i64 ((atT k.txs yi)).phase)).setCell ⟨q, (p + 1) * 7 + 3, none⟩ (.int .i64 ((atT k.txs yi)).count)).setCell ⟨q, (p + 1) * 7 + 4, none⟩ (.slice ((tv yi)).ar ((atT k.txs yi)).reads.length ((tv yi)).cr)).setCell ⟨q, (p + 1) * 7 + 5, none⟩ (.slice ((tv yi)).ah ((atT k.txs yi)).sets.length ((tv yi)).ch)).setCell ⟨q, (p + 1) * 7 + 6, none⟩ (.int .i64 ((atT k.txs yi)).stamp)) := hWp
            rw [← hWn]
            have hYs : ((rowJ k tv (curJ k l e (p + 1))).set (p + 1) (tv yi, atT k.txs yi))[p]? = some (tv yi, atT k.txs yi) := by rw [List.getElem?_set_ne (by omega)]; exact HY.out
            have HWp := hidOf hWp
            clear hWn hWp c0 f0 c1 f1 c2 f2 c3 f3 c4 f4 c5 f5 c6 f6
            have g0 : Wp.cell? ⟨q, p * 7, none⟩ = some (.int .i64 ((atT k.txs yi)).id) := by have := R1.1 p _ hYs 0 _ rfl; rw [Nat.zero_add] at this; exact this
            have h0 := (rd1 (p * 7) (by omega)).choose_spec.2
            have g1 : Wp.cell? ⟨q, p * 7 + 1, none⟩ = some (.int .i64 ((atT k.txs yi)).home) := by have := R1.1 p _ hYs 1 _ rfl; rw [Nat.zero_add] at this; exact this
            have h1 := (rd1 (p * 7 + 1) (by omega)).choose_spec.2
            have g2 : Wp.cell? ⟨q, p * 7 + 2, none⟩ = some (.int .i64 ((atT k.txs yi)).phase) := by have := R1.1 p _ hYs 2 _ rfl; rw [Nat.zero_add] at this; exact this
            have h2 := (rd1 (p * 7 + 2) (by omega)).choose_spec.2
            have g3 : Wp.cell? ⟨q, p * 7 + 3, none⟩ = some (.int .i64 ((atT k.txs yi)).count) := by have := R1.1 p _ hYs 3 _ rfl; rw [Nat.zero_add] at this; exact this
            have h3 := (rd1 (p * 7 + 3) (by omega)).choose_spec.2
            have g4 : Wp.cell? ⟨q, p * 7 + 4, none⟩ = some (.slice ((tv yi)).ar ((atT k.txs yi)).reads.length ((tv yi)).cr) := by have := R1.1 p _ hYs 4 _ rfl; rw [Nat.zero_add] at this; exact this
            have h4 := (rd1 (p * 7 + 4) (by omega)).choose_spec.2
            have g5 : Wp.cell? ⟨q, p * 7 + 5, none⟩ = some (.slice ((tv yi)).ah ((atT k.txs yi)).sets.length ((tv yi)).ch) := by have := R1.1 p _ hYs 5 _ rfl; rw [Nat.zero_add] at this; exact this
            have h5 := (rd1 (p * 7 + 5) (by omega)).choose_spec.2
            have g6 : Wp.cell? ⟨q, p * 7 + 6, none⟩ = some (.int .i64 ((atT k.txs yi)).stamp) := by have := R1.1 p _ hYs 6 _ rfl; rw [Nat.zero_add] at this; exact this
            have h6 := (rd1 (p * 7 + 6) (by omega)).choose_spec.2
            refine wpZ_ready (rs := [17]) (by kernel_rfl) (by simp) ?_
            refine AllZ.cons rfl (fun K hK => ?_) AllZ.nil
            go_simp
            refine hK.out _ _ (fun h => absurd (show false = true from h.symm.trans (by kernel_rfl)) (by decide)) ?_
            clear hK K
            refine wpZ_done (by kernel_rfl) ?_ _
            obtain ⟨Wq, hWq⟩ : ∃ Y, Y = putB Wp q (p * 7) (cellsT (tv xi, atT k.txs xi)) := ⟨_, rfl⟩
            have R2 := R1.put (i := p) (by rw [List.length_set, HL.out]; omega) (tv xi, atT k.txs xi)
            rw [← hWq, rowJ_set, rowJ_set, HXY.out.1, HXY.out.2, curJ_swap k ha] at R2
            have KE : Hid (RwX Wq w.heap.size q (rowJ k tv (curJ k l e p)) ∧ Below w.heap.size w Wq) := ⟨R2, by rw [hWq, HWp.out]; exact putB_below R1.2.2.1 _ _ _ (putB_below R1.2.2.1 _ _ _ HP.out.2)⟩
            have hWn2 : Wq = (((((((Wp.setCell ⟨q, p * 7, none⟩ (.int .i64 ((atT k.txs xi)).id)).setCell ⟨q, p * 7 + 1, none⟩ (.int .i64 ((atT k.txs xi)).home)).setCell ⟨q, p * 7 + 2, none⟩ (.int .i64 ((atT k.txs xi)).phase)).setCell ⟨q, p * 7 + 3, none⟩ (.int .i64 ((atT k.txs xi)).count)).setCell ⟨q, p * 7 + 4, none⟩ (.slice ((tv xi)).ar ((atT k.txs xi)).reads.length ((tv xi)).cr)).setCell ⟨q, p * 7 + 5, none⟩ (.slice ((tv xi)).ah ((atT k.txs xi)).sets.length ((tv xi)).ch)).setCell ⟨q, p * 7 + 6, none⟩ (.int .i64 ((atT k.txs xi)).stamp)) := hWq
            rw [← hWn2]
            clear hWn2 hWq R1 R2 rd1 rd hS hYs g0 h0 g1 h1 g2 h2 g3 h3 g4 h4 g5 h5 g6 h6
            go_wp2
            exact ⟨⟨p, by omega, by simp, KE.out.1, KE.out.2, HFB.out⟩, by simp [intOf]⟩
    · obtain rfl : e = n := by omega
      have hd : decide ((e : Int) < (e : Int)) = false := by simp
      have KE : Hid (SrtR w (rowJ k tv (ordJ k k.txs.length)) (.returned (.slice (some ⟨q, 0, none⟩) e cp)) wr) := by
        have h1 : bakJ k l e = ordJ k k.txs.length := by rw [bakJ, HN.out, List.drop_length, List.append_nil, HK.out.2]; exact srt_ord k _
        rw [h1] at hrw
        refine ⟨q, cp, ?_, hrw, hbl⟩
        rw [rowJ_len, ← srt_ord k, srtJ_len, ← HK.out.2, HN.out]
      clear hrw hbl
      go_wp2
      go_ret
      exact KE.out
set_option maxHeartbeats 2000000 in
theorem toldC_any (w : World) (v : tx.TV) (t : tx.T7) (hl : tx.TL t) (hs : tx.SlT w v t) : Calls Tryz.prog 69 #[.agg #[.int .i64 (t).id, .int .i64 (t).home, .int .i64 (t).phase, .int .i64 (t).count, .slice (v).ar (t).reads.length (v).cr, .slice (v).ah (t).sets.length (v).ch, .int .i64 (t).stamp]] w fun e w' => e = .returned (.bool (tx.toldR t == 1)) ∧ Below w.heap.size w w' := by
  obtain ⟨U, hU⟩ : ∃ Y, Y = w.alloc (.cells #[.int .i64 (t).id, .int .i64 (t).home, .int .i64 (t).phase, .int .i64 (t).count, .slice (v).ar (t).reads.length (v).cr, .slice (v).ah (t).sets.length (v).ch, .int .i64 (t).stamp] 55) := ⟨_, rfl⟩
  have bU : Below w.heap.size w U := by rw [hU]; exact (Below.refl _ _).alloc (Nat.le_refl _) _
  have XT : Bx U w.heap.size [.int .i64 (t).id, .int .i64 (t).home, .int .i64 (t).phase, .int .i64 (t).count, .slice (v).ar (t).reads.length (v).cr, .slice (v).ah (t).sets.length (v).ch, .int .i64 (t).stamp] := by rw [hU]; exact Bx.made w [.int .i64 (t).id, .int .i64 (t).home, .int .i64 (t).phase, .int .i64 (t).count, .slice (v).ar (t).reads.length (v).cr, .slice (v).ah (t).sets.length (v).ch, .int .i64 (t).stamp] _
  have htd := tx.implTold_any U v t hl (hs.later bU)
  simp only [tx.TV.val] at htd
  have p0 := XT.1 0 _ rfl
  have p1 := XT.1 1 _ rfl
  have p2 := XT.1 2 _ rfl
  have p3 := XT.1 3 _ rfl
  have p4 := XT.1 4 _ rfl
  have p5 := XT.1 5 _ rfl
  have p6 := XT.1 6 _ rfl
  rw [hU] at p0 p1 p2 p3 p4 p5 p6
  have BU := hidOf bU
  clear XT bU hl hs
  go_enter Tryz.func69, Tryz.ntmps69
  go_wp2_with fail
  rw [← hU]
  clear hU p0 p1 p2 p3 p4 p5 p6
  refine htd.mono ?_
  clear htd
  rintro e W1 ⟨rfl, b1⟩
  go_wp2
  go_ret
  exact ⟨rfl, bstep BU.out b1⟩
def OrdR (w : World) (xs : List (tx.TV × tx.T7)) (e : Ending) (w' : World) : Prop := ∃ a c, e = .returned (.slice a xs.length c) ∧ (xs = [] ∨ ∃ b, a = some ⟨b, 0, none⟩ ∧ RwX w' w.heap.size b xs) ∧ Below w.heap.size w w'
theorem RwX.up {W : World} {base base' b : Nat} {xs : List (tx.TV × tx.T7)} (h : RwX W base' b xs) (hb : base ≤ base') : RwX W base b xs := ⟨h.1, h.2.1, Nat.le_trans hb h.2.2.1, h.2.2.2⟩
set_option maxRecDepth 100000 in
set_option maxHeartbeats 16000000 in
theorem ordered_any (w : World) (a1 : Option Addr) (c1 : Nat) (a2 : Option Addr) (c2 : Nat) (a3 : Option Addr) (c3 : Nat) (k : C6) (tv : Nat → tx.TV) (hk : clusterB k = true) (hl : KCl.L k) (ht : k.txs = [] ∨ ∃ b off, a3 = some ⟨b, off, none⟩ ∧ b < w.heap.size ∧ AtX w b off ((List.range k.txs.length).map fun j => (tv j, atT k.txs j)) ∧ ∀ j, j < k.txs.length → tx.SlT w (tv j) (atT k.txs j)) :
    Calls Tryz.prog 34 #[.agg #[.int .i64 k.config, .int .i64 k.clock, .slice a1 k.places.length c1, .slice a2 k.machines.length c2, .slice a3 k.txs.length c3, .bool k.lost]] w (OrdR w (ordX k tv k.txs.length)) := by
  have hn := (CSm.of hk).t
  obtain ⟨U, hU⟩ : ∃ Y, Y = w.alloc (.cells #[.int .i64 k.config, .int .i64 k.clock, .slice a1 k.places.length c1, .slice a2 k.machines.length c2, .slice a3 k.txs.length c3, .bool k.lost] 34) := ⟨_, rfl⟩
  have bU : Below w.heap.size w U := by rw [hU]; exact (Below.refl _ _).alloc (Nat.le_refl _) _
  have FA : Hid (Bx U w.heap.size [.int .i64 k.config, .int .i64 k.clock, .slice a1 k.places.length c1, .slice a2 k.machines.length c2, .slice a3 k.txs.length c3, .bool k.lost]) := by unfold Hid; rw [hU]; exact Bx.made w [.int .i64 k.config, .int .i64 k.clock, .slice a1 k.places.length c1, .slice a2 k.machines.length c2, .slice a3 k.txs.length c3, .bool k.lost] _
  have sU : U.heap.size = w.heap.size + 1 := by rw [hU]; simp
  have BU := hidOf bU
  have SU := hidOf sU
  have HT := hidOf ht
  have HK := hidOf hk
  have HTS : Hid (∀ t ∈ k.txs, tx.TL t) := hl.ts
  have p4 := FA.out.1 4 _ rfl
  rw [hU] at p4
  clear bU sU ht hl hk
  go_enter Tryz.func34, Tryz.ntmps34
  go_wp2
  rw [← hU]
  clear hU p4
  go_loopw [3, 9] (fun v3 v9 wr => ∃ i : Nat, i ≤ k.txs.length ∧ v9 = .int .i64 i ∧ RowX wr U.heap.size v3 (rowJ k tv (tolJ k i)) ∧ (tolJ k i = [] → v3 = .slice none 0 0) ∧ Below U.heap.size U wr) (fun _ v9 _ => k.txs.length - (intOf v9).toNat)
  case atStart => exact ⟨0, Nat.zero_le _, rfl, RowX.nil _ _, fun _ => rfl, Below.refl _ _⟩
  case round =>
    obtain ⟨i, hi, rfl, hrow, hnil, hbl⟩ := hrel
    have KD : Hid (RowX wr U.heap.size u3 (rowJ k tv (tolJ k i)) ∧ (tolJ k i = [] → u3 = .slice none 0 0) ∧ Below U.heap.size U wr) := ⟨hrow, hnil, hbl⟩
    clear hrow hnil hbl
    by_cases hlt : i < k.txs.length
    · rcases HT.out with e0 | ⟨tb, tq, rfl, htb, hat, hsl⟩
      · rw [e0] at hlt; simp at hlt
      have bwr : Below w.heap.size w wr := bstep BU.out KD.out.2.2
      have hx := hat i (tv i, atT k.txs i) (by rw [List.getElem?_map, List.getElem?_range hlt]; rfl)
      have g0 : wr.cell? ⟨tb, tq + i * 7, none⟩ = some (.int .i64 (atT k.txs i).id) := (bwr.cell (p := ⟨tb, tq + i * 7, none⟩) htb).trans (hx 0 _ rfl)
      have g1 : wr.cell? ⟨tb, tq + i * 7 + 1, none⟩ = some (.int .i64 (atT k.txs i).home) := (bwr.cell (p := ⟨tb, tq + i * 7 + 1, none⟩) htb).trans (hx 1 _ rfl)
      have g2 : wr.cell? ⟨tb, tq + i * 7 + 2, none⟩ = some (.int .i64 (atT k.txs i).phase) := (bwr.cell (p := ⟨tb, tq + i * 7 + 2, none⟩) htb).trans (hx 2 _ rfl)
      have g3 : wr.cell? ⟨tb, tq + i * 7 + 3, none⟩ = some (.int .i64 (atT k.txs i).count) := (bwr.cell (p := ⟨tb, tq + i * 7 + 3, none⟩) htb).trans (hx 3 _ rfl)
      have g4 : wr.cell? ⟨tb, tq + i * 7 + 4, none⟩ = some (.slice (tv i).ar (atT k.txs i).reads.length (tv i).cr) := (bwr.cell (p := ⟨tb, tq + i * 7 + 4, none⟩) htb).trans (hx 4 _ rfl)
      have g5 : wr.cell? ⟨tb, tq + i * 7 + 5, none⟩ = some (.slice (tv i).ah (atT k.txs i).sets.length (tv i).ch) := (bwr.cell (p := ⟨tb, tq + i * 7 + 5, none⟩) htb).trans (hx 5 _ rfl)
      have g6 : wr.cell? ⟨tb, tq + i * 7 + 6, none⟩ = some (.int .i64 (atT k.txs i).stamp) := (bwr.cell (p := ⟨tb, tq + i * 7 + 6, none⟩) htb).trans (hx 6 _ rfl)
      obtain ⟨X, hX⟩ : ∃ Y, Y = wr.alloc (.cells #[.int .i64 (atT k.txs i).id, .int .i64 (atT k.txs i).home, .int .i64 (atT k.txs i).phase, .int .i64 (atT k.txs i).count, .slice (tv i).ar (atT k.txs i).reads.length (tv i).cr, .slice (tv i).ah (atT k.txs i).sets.length (tv i).ch, .int .i64 (atT k.txs i).stamp] 55) := ⟨_, rfl⟩
      have bX : Below wr.heap.size wr X := by rw [hX]; exact (Below.refl _ _).alloc (Nat.le_refl _) _
      have XT : Hid (Bx X wr.heap.size [.int .i64 (atT k.txs i).id, .int .i64 (atT k.txs i).home, .int .i64 (atT k.txs i).phase, .int .i64 (atT k.txs i).count, .slice (tv i).ar (atT k.txs i).reads.length (tv i).cr, .slice (tv i).ah (atT k.txs i).sets.length (tv i).ch, .int .i64 (atT k.txs i).stamp]) := by unfold Hid; rw [hX]; exact Bx.made wr [.int .i64 (atT k.txs i).id, .int .i64 (atT k.txs i).home, .int .i64 (atT k.txs i).phase, .int .i64 (atT k.txs i).count, .slice (tv i).ar (atT k.txs i).reads.length (tv i).cr, .slice (tv i).ah (atT k.txs i).sets.length (tv i).ch, .int .i64 (atT k.txs i).stamp] _
      have BX := hidOf bX
      have htd := toldC_any X (tv i) (atT k.txs i) (HTS.out _ (List.mem_of_getElem? (atT_of hlt))) ((hsl i hlt).later (bstep bwr bX))
      have jn : (i : Int) < (k.txs.length : Int) := by omega
      clear hx hat hsl bX bwr htb
      go_wp2_with fail
      rw [← hX]
      clear hX g0 g1 g2 g3 g4 g5 g6
      refine htd.mono ?_
      clear htd
      rintro e W1 ⟨rfl, b1⟩
      have B1 : Hid (Below wr.heap.size wr W1) := bstep BX.out b1
      have XT1 : Hid (Bx W1 wr.heap.size [.int .i64 (atT k.txs i).id, .int .i64 (atT k.txs i).home, .int .i64 (atT k.txs i).phase, .int .i64 (atT k.txs i).count, .slice (tv i).ar (atT k.txs i).reads.length (tv i).cr, .slice (tv i).ah (atT k.txs i).sets.length (tv i).ch, .int .i64 (atT k.txs i).stamp]) := XT.out.later b1
      clear b1 XT BX
      have KR : Hid (RowX W1 U.heap.size u3 (rowJ k tv (tolJ k i)) ∧ Below U.heap.size U W1) := ⟨KD.out.1.later B1.out, bstep KD.out.2.2 B1.out⟩
      generalize wr.heap.size = s at *
      by_cases htl : tx.toldR (atT k.txs i) = 1
      case neg =>
        have d1 : (tx.toldR (atT k.txs i) == 1) = false := by simp [htl]
        have HE : Hid (tolJ k (i + 1) = tolJ k i) := by unfold Hid; rw [tolJ, if_neg htl]
        clear htl
        generalize (tx.toldR (atT k.txs i) == 1) = tr at *
        subst d1
        go_wp2
        exact ⟨⟨i + 1, by omega, by simp, by rw [HE.out]; exact KR.out.1, by rw [HE.out]; exact KD.out.2.1, KR.out.2⟩, by simp [intOf]; omega⟩
      case pos =>
        have d1 : (tx.toldR (atT k.txs i) == 1) = true := by simp [htl]
        have HE : Hid (rowJ k tv (tolJ k (i + 1)) = rowJ k tv (tolJ k i) ++ [(tv i, atT k.txs i)] ∧ tolJ k (i + 1) ≠ []) := by
          have : tolJ k (i + 1) = tolJ k i ++ [i] := by rw [tolJ, if_pos htl]
          exact ⟨by rw [this, rowJ, List.map_append]; rfl, by rw [this]; simp⟩
        clear htl
        generalize (tx.toldR (atT k.txs i) == 1) = tr at *
        subst d1
        have h0 := XT1.out.1 0 _ rfl
        have h1 := XT1.out.1 1 _ rfl
        have h2 := XT1.out.1 2 _ rfl
        have h3 := XT1.out.1 3 _ rfl
        have h4 := XT1.out.1 4 _ rfl
        have h5 := XT1.out.1 5 _ rfl
        have h6 := XT1.out.1 6 _ rfl
        obtain ⟨Z, hZ⟩ : ∃ Y, Y = W1.alloc (.cells #[.int .i64 (atT k.txs i).id, .int .i64 (atT k.txs i).home, .int .i64 (atT k.txs i).phase, .int .i64 (atT k.txs i).count, .slice (tv i).ar (atT k.txs i).reads.length (tv i).cr, .slice (tv i).ah (atT k.txs i).sets.length (tv i).ch, .int .i64 (atT k.txs i).stamp] 55) := ⟨_, rfl⟩
        have bZ : Below W1.heap.size W1 Z := by rw [hZ]; exact (Below.refl _ _).alloc (Nat.le_refl _) _
        have xz : Bx Z W1.heap.size [.int .i64 (atT k.txs i).id, .int .i64 (atT k.txs i).home, .int .i64 (atT k.txs i).phase, .int .i64 (atT k.txs i).count, .slice (tv i).ar (atT k.txs i).reads.length (tv i).cr, .slice (tv i).ah (atT k.txs i).sets.length (tv i).ch, .int .i64 (atT k.txs i).stamp] := by rw [hZ]; exact Bx.made W1 [.int .i64 (atT k.txs i).id, .int .i64 (atT k.txs i).home, .int .i64 (atT k.txs i).phase, .int .i64 (atT k.txs i).count, .slice (tv i).ar (atT k.txs i).reads.length (tv i).cr, .slice (tv i).ah (atT k.txs i).sets.length (tv i).ch, .int .i64 (atT k.txs i).stamp] _
        obtain ⟨p2, e2, Z2, run2, row2, gr2⟩ := pushXs (KR.out.1.later bZ) [(tv i, atT k.txs i)] (by rw [rowJ_len]; have := tolJ_len k i; simp only [List.length_cons, List.length_nil]; omega) 32 (some ⟨W1.heap.size, 0, none⟩) 1 (.inr ⟨W1.heap.size, 0, rfl, fun z x hx t u hu => by
          have hz : z = 0 := by have := (List.getElem?_eq_some_iff.1 hx).1; simp at this; exact this
          subst hz
          cases hx
          have := xz.1 t u hu
          rw [show 0 + 0 * 7 + t = t by omega]
          exact this⟩) (by have := KR.out.2.size; have := bZ.size; omega)
        have KE : Hid (RowX Z2 U.heap.size (.slice p2 (rowJ k tv (tolJ k i) ++ [(tv i, atT k.txs i)]).length e2) (rowJ k tv (tolJ k (i + 1))) ∧ Below U.heap.size U Z2) := by
          refine ⟨by rw [HE.out.1]; exact row2, ?_⟩
          exact (bstep KR.out.2 bZ).grown gr2 (bstep KR.out.2 bZ).size (fun z e => ((KR.out.1.later bZ).lt e).1)
        rw [hZ] at run2
        generalize (rowJ k tv (tolJ k i) ++ [(tv i, atT k.txs i)]).length = nl at *
        clear row2 gr2 bZ xz hZ
        go_wp2_with (at_builtin; refine append_known _ rfl (.tmp 15) (.tmp 17) 32 rfl _ _ _ _ rfl rfl run2 ?_)
        exact ⟨⟨i + 1, by omega, by simp, KE.out.1, fun h => absurd h HE.out.2, KE.out.2⟩, by simp [intOf]; omega⟩
    · obtain rfl : i = k.txs.length := by omega
      have hd : decide ((k.txs.length : Int) < (k.txs.length : Int)) = false := by simp
      have HO : Hid (rowJ k tv (ordJ k k.txs.length) = ordX k tv k.txs.length) := rfl
      obtain ⟨xs, hxs⟩ : ∃ xs, ordX k tv k.txs.length = xs := ⟨_, rfl⟩
      by_cases hnl : tolJ k k.txs.length = []
      · have hu := KD.out.2.1 hnl
        subst hu
        have hx0 : xs = [] := by
          have h1 := srt_ord k k.txs.length
          rw [hnl] at h1
          rw [← hxs, ordX, ← h1]
          rfl
        have HX0 : Hid (ordX k tv k.txs.length = []) := hxs.trans hx0
        have KE : Hid (Below w.heap.size w wr) := bstep BU.out KD.out.2.2
        have hso := sortedN_any wr
        clear hxs hx0 hnl
        go_wp2_with fail
        refine hso.mono ?_
        clear hso
        rintro e W1 ⟨rfl, rfl⟩
        go_wp2
        go_ret
        exact ⟨none, 0, by rw [HX0.out]; rfl, .inl HX0.out, KE.out⟩
      · obtain ⟨va, vc, rfl, -, hf⟩ := KD.out.1.form
        rcases hf with hf | ⟨b, rfl, hbb, hbw, hat⟩
        · exact absurd (by simpa [rowJ] using hf) hnl
        have hso := sortedBy_any wr b vc k tv _ HK.out rfl hbw hat hnl
        rw [HO.out] at hso
        have KE : Hid (Below w.heap.size w wr) := bstep BU.out KD.out.2.2
        rw [rowJ_len]
        have HXE := hidOf hxs
        rw [hxs] at hso
        clear hxs hnl hat
        generalize (tolJ k k.txs.length).length = ln at *
        go_wp2_with fail
        refine hso.mono ?_
        clear hso
        rintro e W1 ⟨q, cc, rfl, hrw, b1⟩
        have KF : Hid (RwX W1 w.heap.size q xs ∧ Below w.heap.size w W1) := ⟨hrw.up KE.out.size, bstep KE.out b1⟩
        clear hrw b1
        go_wp2
        go_ret
        exact ⟨some ⟨q, 0, none⟩, cc, by rw [HXE.out]; rfl, .inr ⟨q, rfl, by rw [HXE.out]; exact KF.out.1⟩, KF.out.2⟩
end Go.Proofs.YtdmpobegobfpjaaGreat
namespace Go.Proofs.YtdmpobegobfpjaaGreat
open Go.RowKit
set_option maxHeartbeats 1000000 in
theorem heldInt64S_any (w : World) (a : Option Addr) (n cap : Nat) (k : Int) (hn : n ≤ 1048576) (hk : 0 ≤ k) (hk' : k ≤ 1000000000) (hs : SlN w w.heap.size a n (marks n k)) :
    Calls Tryz.prog 15 #[.slice a n cap, .int .i64 k] w fun e w' => e = .returned (.int .i64 (k + n)) ∧ w' = w := by
  obtain ⟨_, hs⟩ := hs
  go_enter Tryz.func15, Tryz.ntmps15
  go_wp2
  go_loop [1, 5] (fun v1 v5 => ∃ j : Nat, j ≤ n ∧ v5 = .int .i64 j ∧ v1 = .int .i64 (k + j)) (fun _ v5 => n - (intOf v5).toNat)
  case atStart => exact ⟨0, Nat.zero_le _, rfl, by simp⟩
  case round =>
    obtain ⟨j, hj, rfl, rfl⟩ := hrel
    by_cases hlt : j < n
    · rcases hs with hs | ⟨b, off, rfl, hb, h1⟩
      · omega
      · have c := h1 j _ (marks_at n k j hlt)
        have hq : (k + (j : Int) != k + (j : Int)) = false := by simp
        clear h1
        go_wp2
        exact ⟨⟨j + 1, by omega, by simp, by simp; omega⟩, by simp [intOf]; omega⟩
    · have : j = n := by omega
      subst this
      have hd : decide ((j : Int) < (j : Int)) = false := by simp
      clear hs
      go_wp2
      go_ret
      exact ⟨by simp, rfl⟩
end Go.Proofs.YtdmpobegobfpjaaGreat
namespace Go.Proofs.YtdmpobegobfpjaaGreat
open Go.RowKit
open Go.Sort (grow)
def KN.Rd (X : World) (a : Option Addr) (_ : Nat) (xs : List Int) : Prop := SlN X X.heap.size a xs.length xs
theorem KN.Rd.later {X Y : World} {a : Option Addr} {c : Nat} {xs : List Int} (h : KN.Rd X a c xs) (b : Below X.heap.size X Y) : KN.Rd Y a c xs := SlN.later h b
def KN.Ow (w : World) (B : Nat) (a : Option Addr) (_ : Nat) (xs : List Int) (P : Nat → Prop) : Prop := (xs = [] ∨ ∃ q, a = some ⟨q, 0, none⟩ ∧ P q ∧ NumsAt w q 0 xs ∧ Room w q (xs.length)) ∧ (∀ q, P q → B ≤ q ∧ q < w.heap.size)
theorem KN.Ow.of {w : World} {B : Nat} {a : Option Addr} {c : Nat} {xs : List Int} {P : Nat → Prop} (h : KN.Ow w B a c xs P) {q : Nat} (hq : P q) : B ≤ q ∧ q < w.heap.size := h.2 q hq
theorem KN.Ow.sl {w : World} {B : Nat} {a : Option Addr} {c : Nat} {xs : List Int} {P : Nat → Prop} (h : KN.Ow w B a c xs P) : KN.Rd w a c xs := by
  rcases h with ⟨rfl | ⟨q, rfl, hp, h1, h2⟩, hb⟩
  · exact ⟨rfl, .inl rfl⟩
  · exact ⟨rfl, .inr ⟨q, 0, rfl, (hb q hp).2, h1⟩⟩
theorem KN.Ow.keep {w : World} {B : Nat} {a : Option Addr} {c : Nat} {xs : List Int} {P : Nat → Prop} {w' : World} (h : KN.Ow w B a c xs P) (hs : w.heap.size ≤ w'.heap.size) (hk : ∀ q, P q → w'.heap[q]? = w.heap[q]?) : KN.Ow w' B a c xs P := by
  rcases h with ⟨h | ⟨q, e, hp, h1, h2⟩, hb⟩
  · exact ⟨.inl h, fun q hq => ⟨(hb q hq).1, Nat.lt_of_lt_of_le (hb q hq).2 hs⟩⟩
  · exact ⟨.inr ⟨q, e, hp, fun i z e => (World.cell?_of_block (a := ⟨q, 0 + i, none⟩) (hk q hp)).trans (h1 i z e), room_blk h2 (hk q hp)⟩, fun q hq => ⟨(hb q hq).1, Nat.lt_of_lt_of_le (hb q hq).2 hs⟩⟩
theorem KN.Ow.later {w : World} {B : Nat} {a : Option Addr} {c : Nat} {xs : List Int} {P : Nat → Prop} {w' : World} (h : KN.Ow w B a c xs P) (hb : Below w.heap.size w w') : KN.Ow w' B a c xs P := h.keep hb.size (fun q hq => hb.block q (h.of hq).2)
theorem KN.Ow.low {w : World} {B : Nat} {a : Option Addr} {c : Nat} {xs : List Int} {P : Nat → Prop} {B' : Nat} (h : KN.Ow w B a c xs P) (hb : B' ≤ B) : KN.Ow w B' a c xs P := ⟨h.1, fun q hq => ⟨Nat.le_trans hb (h.2 q hq).1, (h.2 q hq).2⟩⟩
theorem KN.eq (X : World) (a : Option Addr) (c : Nat) (a' : Option Addr) (c' : Nat) (xs : List Int) (ht : xs.length ≤ 1048576) (h1 : KN.Rd X a c xs) (h2 : KN.Rd X a' c' xs) : Calls Tryz.prog 11 #[.slice a xs.length c, .slice a' xs.length c'] X fun e w' => e = .returned (.bool true) ∧ Below X.heap.size X w' := eqInt64S_any X a a' xs.length c c' xs (by unfold maxLen; omega) h1 h2
theorem KN.mark (X : World) (B : Nat) (a : Option Addr) (c : Nat) (xs : List Int) (P : Nat → Prop) (k : Int) (hk : 0 ≤ k) (hk' : k ≤ 1000000000) (ht : xs.length ≤ 1048576) (h : KN.Ow X B a c xs P) : Calls Tryz.prog 14 #[.slice a xs.length c, .int .i64 k] X fun r w' => r = .returned (.int .i64 (k + (xs.length : Int))) ∧ KeptP P X w' ∧ KN.Rd w' a c (marks xs.length k) := by
  rcases h with ⟨rfl | ⟨q, rfl, hp, h1, h2⟩, hb⟩
  · refine (markInt64S_none X a c k).mono ?_
    rintro e w' ⟨rfl, rfl⟩
    exact ⟨by simp, KeptP.refl _ _, by simp [KN.Rd, marks, SlN]⟩
  · refine (markInt64S_own X q xs.length c k ht hk hk' h2).mono ?_
    rintro e w' ⟨rfl, ho, hc, hr⟩
    exact ⟨rfl, KeptP.of_only ho hp, by unfold KN.Rd; rw [marks_len]; exact ⟨marks_len _ _, .inr ⟨q, 0, rfl, by rw [ho.size]; exact (hb q hp).2, hc⟩⟩⟩
theorem KN.held (X : World) (a : Option Addr) (c : Nat) (xs : List Int) (k : Int) (hk : 0 ≤ k) (hk' : k ≤ 1000000000) (ht : xs.length ≤ 1048576) (h : KN.Rd X a c (marks xs.length k)) : Calls Tryz.prog 15 #[.slice a xs.length c, .int .i64 k] X fun r w' => r = .returned (.int .i64 (k + (xs.length : Int))) ∧ Below X.heap.size X w' := by
  unfold KN.Rd at h
  rw [marks_len] at h
  refine (heldInt64S_any X a xs.length c k ht hk hk' h).mono ?_
  rintro e w' ⟨rfl, rfl⟩
  exact ⟨rfl, Below.refl _ _⟩
theorem KN.of_row {W : World} {base : Nat} {v : Value} {zs : List Int} (h : tx.RowI W base v zs) : ∃ a c P, v = .slice a zs.length c ∧ KN.Ow W base a c zs P := by
  obtain ⟨a, c, e, ho, -, -⟩ := h.form
  refine ⟨a, c, fun q => v.ownBlock = some q, e, ?_, fun q hq => h.lt hq⟩
  rcases ho with h0 | ⟨q, hq, hp, _, hn, hr⟩
  · exact .inl h0
  · exact .inr ⟨q, hq, hp, hn, hr⟩
set_option maxRecDepth 100000 in
set_option maxHeartbeats 2000000 in
theorem noBeyond (w : World) (s : tx.N5) (g n : Nat) (hg : w.cell? ⟨g, 0, none⟩ = some (.int .i64 (n : Int))) (hgl : g < w.heap.size) : Calls Tryz.prog 201 #[.agg #[.int .i64 s.region, .int .i64 s.slot, .int .i64 s.version, .int .i64 s.value, .bool s.used], .pointer (some ⟨g, 0, none⟩)] w fun e w' => e = .returned (.bool (decide ((n : Int) ≤ s.region))) ∧ Below w.heap.size w w' := by
  obtain ⟨wr, hW⟩ : ∃ Y, Y = w.alloc (.cells #[.int .i64 s.region, .int .i64 s.slot, .int .i64 s.version, .int .i64 s.value, .bool s.used] 104) := ⟨_, rfl⟩
  have b0 : Below w.heap.size w wr := by rw [hW]; exact (Below.refl _ _).alloc (Nat.le_refl _) _
  have FX : Hid (Bx wr w.heap.size [.int .i64 s.region, .int .i64 s.slot, .int .i64 s.version, .int .i64 s.value, .bool s.used]) := by rw [hW]; exact Bx.made w [.int .i64 s.region, .int .i64 s.slot, .int .i64 s.version, .int .i64 s.value, .bool s.used] _
  have hm : ∀ w : World, (method 366 104 (.agg #[.int .i64 s.region, .int .i64 s.slot, .int .i64 s.version, .int .i64 s.value, .bool s.used]) "loop.example/g00153/impl.cell").run Tryz.prog w = .ok (135, .agg #[.int .i64 s.region, .int .i64 s.slot, .int .i64 s.version, .int .i64 s.value, .bool s.used]) w := fun _ => by kernel_rfl
  have hfd : ∀ X : World, (Instr.field 169 (.agg #[.int .i64 s.region, .int .i64 s.slot]) 0).run Tryz.prog X = .ok (.int .i64 s.region) X := fun _ => by kernel_rfl
  have SF : Hid (∀ X, Below wr.heap.size wr X → (fun X : World => Bx X w.heap.size [.int .i64 s.region, .int .i64 s.slot, .int .i64 s.version, .int .i64 s.value, .bool s.used] ∧ X.cell? ⟨g, 0, none⟩ = some (.int .i64 (n : Int))) X) := fun X hX => ⟨FX.out.later hX, ((bstep b0 hX).cell (p := ⟨g, 0, none⟩) hgl).trans hg⟩
  have KB := hidOf b0
  clear b0 hg hgl
  go_enter Tryz.func201, Tryz.ntmps201
  go_wp2_with fail
  rw [← hW]
  clear hW
  have bd : Below wr.heap.size wr wr.drew := (Below.refl _ _).drew
  have hS := SF.out _ bd
  refine wp_region_z (fun z => z == 6) (fun X : World => Bx X w.heap.size [.int .i64 s.region, .int .i64 s.slot, .int .i64 s.version, .int .i64 s.value, .bool s.used] ∧ X.cell? ⟨g, 0, none⟩ = some (.int .i64 (n : Int))) (by kernel_rfl) ?_
  generalize wr.drew = Wd at *
  refine wpZ_take (i := 0) (v := ?_) rfl (by kernel_rfl) (fun _ _ _ h => h) (Or.inl ⟨by rfl, ?_⟩) hS ?_
  rotate_left
  · (intro X hSw; have c0 := hSw.1.1 0 _ rfl; have c1 := hSw.1.1 1 _ rfl; have c2 := hSw.1.1 2 _ rfl; have c3 := hSw.1.1 3 _ rfl; have c4 := hSw.1.1 4 _ rfl; go_simp; first | done | with_reducible rfl)
  simp only [Act.put]
  refine wpZ_take (i := 4) (v := ?_) rfl (by kernel_rfl) (fun _ _ _ h => h) (Or.inl ⟨by rfl, ?_⟩) hS ?_
  rotate_left
  · (intro X hSw; have c5 := hSw.2; go_simp; first | done | with_reducible rfl)
  simp only [Act.put]
  refine wpZ_takeP (i := 1) (v := ?_) rfl (by kernel_rfl) (fun _ _ _ h => h) (Or.inl ⟨by rfl, ?_⟩) hS ?_
  rotate_left
  · (intro X _; go_simp; first | done | with_reducible rfl)
  simp only [Act.put]
  refine wpZ_ready (rs := [2]) (by kernel_rfl) (by simp) ?_
  refine AllZ.cons rfl (fun K hK => ?_) AllZ.nil
  go_simp
  refine (tx.noCell_any Wd s).mono ?_
  rintro e X2 ⟨rfl, b2⟩
  have bX := bstep bd b2
  refine hK.out _ _ (fun _ => SF.out _ bX) ?_
  clear hK K
  have hS := SF.out _ bX
  refine wpZ_takeP (i := 3) (v := ?_) rfl (by kernel_rfl) (fun _ _ _ h => h) (Or.inl ⟨by rfl, ?_⟩) hS ?_
  rotate_left
  · (intro X _; go_simp; first | done | with_reducible rfl)
  simp only [Act.put]
  refine wpZ_takeP (i := 5) (v := ?_) rfl (by kernel_rfl) (fun _ _ _ h => h) (Or.inl ⟨by rfl, ?_⟩) hS ?_
  rotate_left
  · (intro X _; go_simp; first | done | with_reducible rfl)
  simp only [Act.put]
  refine wpZ_ready (rs := [6]) (by kernel_rfl) (by simp) ?_
  refine AllZ.cons rfl (fun K hK => ?_) AllZ.nil
  go_simp
  refine hK.out _ _ (fun h => absurd (show false = true from h.symm.trans (by kernel_rfl)) (by decide)) ?_
  clear hK K
  refine wpZ_done (by kernel_rfl) ?_ _
  go_wp2
  go_ret
  exact ⟨rfl, bstep KB.out bX⟩
set_option maxHeartbeats 2000000 in
theorem noBeyondIdx (w : World) (a : Option Addr) (cap : Nat) (xs : List tx.N5) (g n : Nat) (hn : xs.length ≤ maxLen) (hs : tx.SlNo w w.heap.size a xs.length xs) (hg : w.cell? ⟨g, 0, none⟩ = some (.int .i64 (n : Int))) (hgl : g < w.heap.size) :
    Calls Tryz.prog 173 #[.slice a xs.length cap, .func (.func 201) #[] #[.pointer (some ⟨g, 0, none⟩)]] w fun e w' => (∃ i : Int, e = .returned (.int .i64 i) ∧ FirstAt (fun i => decide ((n : Int) ≤ (tx.atNo xs i).region)) xs.length i) ∧ Below w.heap.size w w' := by
  unfold maxLen at hn
  obtain ⟨_, hs⟩ := hs
  obtain ⟨f, hf⟩ : ∃ f : Nat → Bool, f = fun i => decide ((n : Int) ≤ (tx.atNo xs i).region) := ⟨_, rfl⟩
  have HF : Hid (∀ (X : World) (i : Nat), Below w.heap.size w X → Calls Tryz.prog 201 #[.agg #[.int .i64 (tx.atNo xs i).region, .int .i64 (tx.atNo xs i).slot, .int .i64 (tx.atNo xs i).version, .int .i64 (tx.atNo xs i).value, .bool (tx.atNo xs i).used], .pointer (some ⟨g, 0, none⟩)] X fun e w' => e = .returned (.bool (f i)) ∧ Below X.heap.size X w') := fun X i hX => by
    rw [hf]; exact noBeyond X (tx.atNo xs i) g n ((hX.cell (p := ⟨g, 0, none⟩) hgl).trans hg) (Nat.lt_of_lt_of_le hgl hX.size)
  rw [← hf]
  clear hf hg
  go_enter Tryz.func173, Tryz.ntmps173
  go_wp2
  go_loopw [8] (fun v wr => ∃ j : Nat, j ≤ xs.length ∧ v = .int .i64 j ∧ Below w.heap.size w wr ∧ ∀ i, i < j → f i = false) (fun v _ => xs.length - (intOf v).toNat)
  case atStart => exact ⟨0, Nat.zero_le _, rfl, Below.refl _ _, fun i h => absurd h (by omega)⟩
  case round =>
    obtain ⟨j, hj, rfl, hbl, hall⟩ := hrel
    by_cases hlt : j < xs.length
    · rcases hs with hs | ⟨b, off, rfl, hb, h1⟩
      · omega
      · obtain ⟨c0, c1, c2, c3, c4⟩ := (h1.below hbl hb) j _ (tx.atNo_of hlt)
        have KA : Hid ((∀ i, i < j → f i = false) ∧ Below w.heap.size w wr) := ⟨hall, hbl⟩
        have hw := HF.out wr j hbl
        have jn : (j : Int) < (xs.length : Int) := by omega
        clear h1 hall hbl
        cases hp : f j with
        | true =>
          rw [hp] at hw
          go_wp2_with fail
          refine hw.mono ?_
          clear hw
          rintro e w1 ⟨rfl, b1⟩
          go_wp2
          go_ret
          exact ⟨⟨_, rfl, .inr ⟨j, rfl, hlt, hp, KA.out.1⟩⟩, KA.out.2.trans (b1.mono KA.out.2.size)⟩
        | false =>
          rw [hp] at hw
          go_wp2_with fail
          refine hw.mono ?_
          clear hw
          rintro e w1 ⟨rfl, b1⟩
          go_wp2
          exact ⟨⟨j + 1, by omega, by simp, KA.out.2.trans (b1.mono KA.out.2.size), fun i hi => by
            by_cases e : i = j
            · rw [e]; exact hp
            · exact KA.out.1 i (by omega)⟩, by simp [intOf]; omega⟩
    · obtain rfl : j = xs.length := by omega
      have hd : decide ((xs.length : Int) < (xs.length : Int)) = false := by simp
      have KA : Hid ((∀ i, i < xs.length → f i = false) ∧ Below w.heap.size w wr) := ⟨hall, hbl⟩
      clear hs hall hbl
      go_wp2
      go_ret
      exact ⟨⟨_, rfl, .inl ⟨rfl, KA.out.1⟩⟩, KA.out.2⟩
set_option maxHeartbeats 1000000 in
theorem noWithin (w : World) (a : Option Addr) (cap : Nat) (xs : List tx.N5) (n : Nat) (hn : xs.length ≤ maxLen) (hs : tx.SlNo w w.heap.size a xs.length xs) :
    Calls Tryz.prog 163 #[.slice a xs.length cap, .int .i64 (n : Int)] w fun e w' => e = .returned (.bool (readsB n xs)) ∧ Below w.heap.size w w' := by
  obtain ⟨W, hW⟩ : ∃ Y, Y = w.alloc (.cells #[.int .i64 (n : Int)] 3) := ⟨_, rfl⟩
  have b0 : Below w.heap.size w W := by rw [hW]; exact (Below.refl _ _).alloc (Nat.le_refl _) _
  have g0 : W.cell? ⟨w.heap.size, 0, none⟩ = some (.int .i64 (n : Int)) := by rw [hW]; go_simp
  have gl : w.heap.size < W.heap.size := by rw [hW]; simp
  have c1 := noBeyondIdx W a cap xs w.heap.size n hn ((hs.below b0).mono b0.size) g0 gl
  have HE : Hid (∀ i : Int, FirstAt (fun i => decide ((n : Int) ≤ (tx.atNo xs i).region)) xs.length i → (!decide (0 ≤ i)) = readsB n xs) := fun i h => by
    rw [first_has h, readsB]
    simp only [Bool.not_not]
    congr 1
    funext j
    rw [Bool.eq_iff_iff]
    simp
  have KB := hidOf b0
  clear b0 g0 gl hs hn
  have hcf : Calls Tryz.prog 138 #[.slice a xs.length cap, .func (.func 201) #[] #[.pointer (some ⟨w.heap.size, 0, none⟩)]] W fun e w' => e = .returned (.bool (!readsB n xs)) ∧ Below W.heap.size W w' := by
    clear hW KB
    go_enter Tryz.func138, Tryz.ntmps138
    go_wp2_with fail
    refine c1.mono ?_
    clear c1
    rintro e w1 ⟨⟨i, rfl, hi⟩, b1⟩
    have KE := hidOf (HE.out i hi)
    have K1 := hidOf b1
    clear hi HE b1
    go_wp2
    go_ret
    exact ⟨by rw [← KE.out]; simp, K1.out⟩
  clear c1 HE
  go_enter Tryz.func163, Tryz.ntmps163
  go_wp2_with fail
  rw [← hW]
  clear hW
  refine hcf.mono ?_
  clear hcf
  rintro e w1 ⟨rfl, b1⟩
  have K1 := hidOf b1
  clear b1
  go_wp2
  go_ret
  exact ⟨by simp, bstep KB.out K1.out⟩
set_option maxRecDepth 100000 in
set_option maxHeartbeats 2000000 in
theorem seBeyond (w : World) (s : S5) (g n : Nat) (hg : w.cell? ⟨g, 0, none⟩ = some (.int .i64 (n : Int))) (hgl : g < w.heap.size) : Calls Tryz.prog 202 #[.agg #[.int .i64 s.region, .int .i64 s.slot, .int .i64 s.value, .bool s.used, .int .i64 s.version], .pointer (some ⟨g, 0, none⟩)] w fun e w' => e = .returned (.bool (decide ((n : Int) ≤ s.region))) ∧ Below w.heap.size w w' := by
  obtain ⟨wr, hW⟩ : ∃ Y, Y = w.alloc (.cells #[.int .i64 s.region, .int .i64 s.slot, .int .i64 s.value, .bool s.used, .int .i64 s.version] 106) := ⟨_, rfl⟩
  have b0 : Below w.heap.size w wr := by rw [hW]; exact (Below.refl _ _).alloc (Nat.le_refl _) _
  have FX : Hid (Bx wr w.heap.size [.int .i64 s.region, .int .i64 s.slot, .int .i64 s.value, .bool s.used, .int .i64 s.version]) := by rw [hW]; exact Bx.made w [.int .i64 s.region, .int .i64 s.slot, .int .i64 s.value, .bool s.used, .int .i64 s.version] _
  have hm : ∀ w : World, (method 366 106 (.agg #[.int .i64 s.region, .int .i64 s.slot, .int .i64 s.value, .bool s.used, .int .i64 s.version]) "loop.example/g00153/impl.cell").run Tryz.prog w = .ok (137, .agg #[.int .i64 s.region, .int .i64 s.slot, .int .i64 s.value, .bool s.used, .int .i64 s.version]) w := fun _ => by kernel_rfl
  have hfd : ∀ X : World, (Instr.field 169 (.agg #[.int .i64 s.region, .int .i64 s.slot]) 0).run Tryz.prog X = .ok (.int .i64 s.region) X := fun _ => by kernel_rfl
  have SF : Hid (∀ X, Below wr.heap.size wr X → (fun X : World => Bx X w.heap.size [.int .i64 s.region, .int .i64 s.slot, .int .i64 s.value, .bool s.used, .int .i64 s.version] ∧ X.cell? ⟨g, 0, none⟩ = some (.int .i64 (n : Int))) X) := fun X hX => ⟨FX.out.later hX, ((bstep b0 hX).cell (p := ⟨g, 0, none⟩) hgl).trans hg⟩
  have KB := hidOf b0
  clear b0 hg hgl
  go_enter Tryz.func202, Tryz.ntmps202
  go_wp2_with fail
  rw [← hW]
  clear hW
  have bd : Below wr.heap.size wr wr.drew := (Below.refl _ _).drew
  have hS := SF.out _ bd
  refine wp_region_z (fun z => z == 6) (fun X : World => Bx X w.heap.size [.int .i64 s.region, .int .i64 s.slot, .int .i64 s.value, .bool s.used, .int .i64 s.version] ∧ X.cell? ⟨g, 0, none⟩ = some (.int .i64 (n : Int))) (by kernel_rfl) ?_
  generalize wr.drew = Wd at *
  refine wpZ_take (i := 0) (v := ?_) rfl (by kernel_rfl) (fun _ _ _ h => h) (Or.inl ⟨by rfl, ?_⟩) hS ?_
  rotate_left
  · (intro X hSw; have c0 := hSw.1.1 0 _ rfl; have c1 := hSw.1.1 1 _ rfl; have c2 := hSw.1.1 2 _ rfl; have c3 := hSw.1.1 3 _ rfl; have c4 := hSw.1.1 4 _ rfl; go_simp; first | done | with_reducible rfl)
  simp only [Act.put]
  refine wpZ_take (i := 4) (v := ?_) rfl (by kernel_rfl) (fun _ _ _ h => h) (Or.inl ⟨by rfl, ?_⟩) hS ?_
  rotate_left
  · (intro X hSw; have c5 := hSw.2; go_simp; first | done | with_reducible rfl)
  simp only [Act.put]
  refine wpZ_takeP (i := 1) (v := ?_) rfl (by kernel_rfl) (fun _ _ _ h => h) (Or.inl ⟨by rfl, ?_⟩) hS ?_
  rotate_left
  · (intro X _; go_simp; first | done | with_reducible rfl)
  simp only [Act.put]
  refine wpZ_ready (rs := [2]) (by kernel_rfl) (by simp) ?_
  refine AllZ.cons rfl (fun K hK => ?_) AllZ.nil
  go_simp
  refine (tx.seCell_any Wd s).mono ?_
  rintro e X2 ⟨rfl, b2⟩
  have bX := bstep bd b2
  refine hK.out _ _ (fun _ => SF.out _ bX) ?_
  clear hK K
  have hS := SF.out _ bX
  refine wpZ_takeP (i := 3) (v := ?_) rfl (by kernel_rfl) (fun _ _ _ h => h) (Or.inl ⟨by rfl, ?_⟩) hS ?_
  rotate_left
  · (intro X _; go_simp; first | done | with_reducible rfl)
  simp only [Act.put]
  refine wpZ_takeP (i := 5) (v := ?_) rfl (by kernel_rfl) (fun _ _ _ h => h) (Or.inl ⟨by rfl, ?_⟩) hS ?_
  rotate_left
  · (intro X _; go_simp; first | done | with_reducible rfl)
  simp only [Act.put]
  refine wpZ_ready (rs := [6]) (by kernel_rfl) (by simp) ?_
  refine AllZ.cons rfl (fun K hK => ?_) AllZ.nil
  go_simp
  refine hK.out _ _ (fun h => absurd (show false = true from h.symm.trans (by kernel_rfl)) (by decide)) ?_
  clear hK K
  refine wpZ_done (by kernel_rfl) ?_ _
  go_wp2
  go_ret
  exact ⟨rfl, bstep KB.out bX⟩
set_option maxHeartbeats 2000000 in
theorem seBeyondIdx (w : World) (a : Option Addr) (cap : Nat) (xs : List S5) (g n : Nat) (hn : xs.length ≤ maxLen) (hs : tx.Sl w w.heap.size a xs.length xs) (hg : w.cell? ⟨g, 0, none⟩ = some (.int .i64 (n : Int))) (hgl : g < w.heap.size) :
    Calls Tryz.prog 174 #[.slice a xs.length cap, .func (.func 202) #[] #[.pointer (some ⟨g, 0, none⟩)]] w fun e w' => (∃ i : Int, e = .returned (.int .i64 i) ∧ FirstAt (fun i => decide ((n : Int) ≤ (tx.atSe xs i).region)) xs.length i) ∧ Below w.heap.size w w' := by
  unfold maxLen at hn
  obtain ⟨_, hs⟩ := hs
  obtain ⟨f, hf⟩ : ∃ f : Nat → Bool, f = fun i => decide ((n : Int) ≤ (tx.atSe xs i).region) := ⟨_, rfl⟩
  have HF : Hid (∀ (X : World) (i : Nat), Below w.heap.size w X → Calls Tryz.prog 202 #[.agg #[.int .i64 (tx.atSe xs i).region, .int .i64 (tx.atSe xs i).slot, .int .i64 (tx.atSe xs i).value, .bool (tx.atSe xs i).used, .int .i64 (tx.atSe xs i).version], .pointer (some ⟨g, 0, none⟩)] X fun e w' => e = .returned (.bool (f i)) ∧ Below X.heap.size X w') := fun X i hX => by
    rw [hf]; exact seBeyond X (tx.atSe xs i) g n ((hX.cell (p := ⟨g, 0, none⟩) hgl).trans hg) (Nat.lt_of_lt_of_le hgl hX.size)
  rw [← hf]
  clear hf hg
  go_enter Tryz.func174, Tryz.ntmps174
  go_wp2
  go_loopw [8] (fun v wr => ∃ j : Nat, j ≤ xs.length ∧ v = .int .i64 j ∧ Below w.heap.size w wr ∧ ∀ i, i < j → f i = false) (fun v _ => xs.length - (intOf v).toNat)
  case atStart => exact ⟨0, Nat.zero_le _, rfl, Below.refl _ _, fun i h => absurd h (by omega)⟩
  case round =>
    obtain ⟨j, hj, rfl, hbl, hall⟩ := hrel
    by_cases hlt : j < xs.length
    · rcases hs with hs | ⟨b, off, rfl, hb, h1⟩
      · omega
      · obtain ⟨c0, c1, c2, c3, c4⟩ := (h1.below hbl hb) j _ (tx.atSe_of hlt)
        have KA : Hid ((∀ i, i < j → f i = false) ∧ Below w.heap.size w wr) := ⟨hall, hbl⟩
        have hw := HF.out wr j hbl
        have jn : (j : Int) < (xs.length : Int) := by omega
        clear h1 hall hbl
        cases hp : f j with
        | true =>
          rw [hp] at hw
          go_wp2_with fail
          refine hw.mono ?_
          clear hw
          rintro e w1 ⟨rfl, b1⟩
          go_wp2
          go_ret
          exact ⟨⟨_, rfl, .inr ⟨j, rfl, hlt, hp, KA.out.1⟩⟩, KA.out.2.trans (b1.mono KA.out.2.size)⟩
        | false =>
          rw [hp] at hw
          go_wp2_with fail
          refine hw.mono ?_
          clear hw
          rintro e w1 ⟨rfl, b1⟩
          go_wp2
          exact ⟨⟨j + 1, by omega, by simp, KA.out.2.trans (b1.mono KA.out.2.size), fun i hi => by
            by_cases e : i = j
            · rw [e]; exact hp
            · exact KA.out.1 i (by omega)⟩, by simp [intOf]; omega⟩
    · obtain rfl : j = xs.length := by omega
      have hd : decide ((xs.length : Int) < (xs.length : Int)) = false := by simp
      have KA : Hid ((∀ i, i < xs.length → f i = false) ∧ Below w.heap.size w wr) := ⟨hall, hbl⟩
      clear hs hall hbl
      go_wp2
      go_ret
      exact ⟨⟨_, rfl, .inl ⟨rfl, KA.out.1⟩⟩, KA.out.2⟩
set_option maxHeartbeats 1000000 in
theorem seWithin (w : World) (a : Option Addr) (cap : Nat) (xs : List S5) (n : Nat) (hn : xs.length ≤ maxLen) (hs : tx.Sl w w.heap.size a xs.length xs) :
    Calls Tryz.prog 164 #[.slice a xs.length cap, .int .i64 (n : Int)] w fun e w' => e = .returned (.bool (setsB n xs)) ∧ Below w.heap.size w w' := by
  obtain ⟨W, hW⟩ : ∃ Y, Y = w.alloc (.cells #[.int .i64 (n : Int)] 3) := ⟨_, rfl⟩
  have b0 : Below w.heap.size w W := by rw [hW]; exact (Below.refl _ _).alloc (Nat.le_refl _) _
  have g0 : W.cell? ⟨w.heap.size, 0, none⟩ = some (.int .i64 (n : Int)) := by rw [hW]; go_simp
  have gl : w.heap.size < W.heap.size := by rw [hW]; simp
  have c1 := seBeyondIdx W a cap xs w.heap.size n hn ((hs.below b0).mono b0.size) g0 gl
  have HE : Hid (∀ i : Int, FirstAt (fun i => decide ((n : Int) ≤ (tx.atSe xs i).region)) xs.length i → (!decide (0 ≤ i)) = setsB n xs) := fun i h => by
    rw [first_has h, setsB]
    simp only [Bool.not_not]
    congr 1
    funext j
    rw [Bool.eq_iff_iff]
    simp
  have KB := hidOf b0
  clear b0 g0 gl hs hn
  have hcf : Calls Tryz.prog 139 #[.slice a xs.length cap, .func (.func 202) #[] #[.pointer (some ⟨w.heap.size, 0, none⟩)]] W fun e w' => e = .returned (.bool (!setsB n xs)) ∧ Below W.heap.size W w' := by
    clear hW KB
    go_enter Tryz.func139, Tryz.ntmps139
    go_wp2_with fail
    refine c1.mono ?_
    clear c1
    rintro e w1 ⟨⟨i, rfl, hi⟩, b1⟩
    have KE := hidOf (HE.out i hi)
    have K1 := hidOf b1
    clear hi HE b1
    go_wp2
    go_ret
    exact ⟨by rw [← KE.out]; simp, K1.out⟩
  clear c1 HE
  go_enter Tryz.func164, Tryz.ntmps164
  go_wp2_with fail
  rw [← hW]
  clear hW
  refine hcf.mono ?_
  clear hcf
  rintro e w1 ⟨rfl, b1⟩
  have K1 := hidOf b1
  clear b1
  go_wp2
  go_ret
  exact ⟨by simp, bstep KB.out K1.out⟩
end Go.Proofs.YtdmpobegobfpjaaGreat