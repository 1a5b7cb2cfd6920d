/- OrN; OrP; RpR: joined. -/
import Derived.Test.YtdmpobegobfpjaaGreatRows
import Derived.Test.YtdmpobegobfpjaaGreatJ11ExactFinal
import Derived.WalkKit
import Derived.WalkSpells
import Derived.WalkLawsBesides
import Derived.Below
import Derived.Lib.QuietBelow
import Derived.Lib.SliceRun
import Derived.BigQuiet
import Derived.Deep.CutRange
import Derived.Deep.RegionWith
import Derived.LaidEql
import Derived.RowKitTokens
import Derived.Test.YtdmpobegobfpjaaGreatJ2ExactFinal
import Derived.Test.YtdmpobegobfpjaaGreatJ10ExactFinal
import Derived.Test.YtdmpobegobfpjaaGreatJ9ExactFinal
namespace Go.Proofs.YtdmpobegobfpjaaGreat
open Go.RowKit
open Go.Sort (grow)
set_option maxHeartbeats 2000000 in
theorem cloneX_any (w : World) (b c : Nat) (xs : List (tx.TV × tx.T7)) (hn : xs.length ≤ 60) (hb : b < w.heap.size) (hx : AtX w b 0 xs) (hne : xs ≠ []) :
    Calls Tryz.prog 124 #[.slice (some ⟨b, 0, none⟩) xs.length c] w fun e w' => ∃ q cp, e = .returned (.slice (some ⟨q, 0, none⟩) xs.length cp) ∧ RwX w' w.heap.size q xs ∧ Below w.heap.size w w' := by
  have bA : Below w.heap.size w (w.alloc (.cells #[] 55)) := (Below.refl _ _).alloc (Nat.le_refl _) _
  obtain ⟨p1, e1, Z1, run1, row1, gr1⟩ := pushXs (RowX.made w) xs (by simp; omega) 32 (some ⟨b, 0, none⟩) c (.inr ⟨b, 0, rfl, hx.below bA hb⟩) bA.size
  rw [List.nil_append] at run1 row1
  obtain ⟨q, rfl⟩ : ∃ q, p1 = some ⟨q, 0, none⟩ := by
    obtain ⟨a9, c9, e9, _, h9⟩ := row1.form
    cases e9
    rcases h9 with h9 | ⟨q, e9, _⟩
    · exact absurd h9 hne
    · exact ⟨q, e9⟩
  have HK : Hid (RwX Z1 w.heap.size q xs ∧ Below w.heap.size w Z1) := ⟨row1.rw, bA.grown gr1 bA.size (fun z e => by cases e; exact Nat.le_refl _)⟩
  have heq : (binOp .eql 32 (.slice (some ⟨b, 0, none⟩) xs.length c) (.slice none 0 0)).run Tryz.prog w = .ok (.bool false) w := Go.Lib.run_eql_slice_nil w 32 55 (some ⟨b, 0, none⟩) xs.length c 0 0 Tryz.underlying32
  clear row1 gr1 bA hx hne
  go_enter Tryz.func124, Tryz.ntmps124
  go_wp2_with (at_builtin; refine append_known _ rfl (.tmp 5) (.tmp 6) 32 rfl _ _ _ _ rfl rfl run1 ?_)
  go_ret
  exact ⟨q, e1, rfl, HK.out.1, HK.out.2⟩
theorem cloneN_any (w : World) : Calls Tryz.prog 124 #[.slice none 0 0] w fun e w' => e = .returned (.slice none 0 0) ∧ w' = w := by
  have heq : (binOp .eql 32 (.slice none 0 0) (.slice none 0 0)).run Tryz.prog w = .ok (.bool true) w := Go.Lib.run_eql_slice_nil w 32 55 none 0 0 0 0 Tryz.underlying32
  go_enter Tryz.func124, Tryz.ntmps124
  go_wp2
  go_ret
  exact ⟨rfl, rfl⟩
def rowJ (k : C6) (tv : Nat → tx.TV) (l : List Nat) : List (tx.TV × tx.T7) := l.map fun j => (tv j, atT k.txs j)
theorem rowJ_len (k : C6) (tv : Nat → tx.TV) (l : List Nat) : (rowJ k tv l).length = l.length := by simp [rowJ]
theorem rowJ_at {k : C6} {tv : Nat → tx.TV} {l : List Nat} {i j : Nat} (h : l[i]? = some j) : (rowJ k tv l)[i]? = some (tv j, atT k.txs j) := by rw [rowJ, List.getElem?_map, h]; rfl
theorem rowJ_set (k : C6) (tv : Nat → tx.TV) (l : List Nat) (i j : Nat) : (rowJ k tv l).set i (tv j, atT k.txs j) = rowJ k tv (l.set i j) := by rw [rowJ, rowJ, List.map_set]
set_option maxRecDepth 10000 in
set_option maxHeartbeats 2000000 in
theorem sortedN_any (w : World) : Calls Tryz.prog 70 #[.slice none 0 0, .func (.func 71) #[] #[]] w fun e w' => e = .returned (.slice none 0 0) ∧ w' = w := by
  go_enter Tryz.func70, Tryz.ntmps70
  go_wp2_with fail
  refine (cloneN_any w).mono ?_
  rintro e w1 ⟨rfl, rfl⟩
  go_wp2
  go_loopw [12] (fun v wr => v = .int .i64 0 ∧ wr = w1) (fun _ _ => 0)
  case atStart => exact ⟨rfl, rfl⟩
  case round =>
    obtain ⟨rfl, rfl⟩ := hrel
    go_wp2
    go_ret
    exact ⟨rfl, rfl⟩
def SrtR (w : World) (xs : List (tx.TV × tx.T7)) (e : Ending) (w' : World) : Prop := ∃ q c, e = .returned (.slice (some ⟨q, 0, none⟩) xs.length c) ∧ RwX w' w.heap.size q xs ∧ Below w.heap.size w w'
set_option maxRecDepth 100000 in
set_option maxHeartbeats 16000000 in
theorem sortedBy_any (w : World) (b c : Nat) (k : C6) (tv : Nat → tx.TV) (l : List Nat) (hk : clusterB k = true) (hl : l = tolJ k k.txs.length) (hb : b < w.heap.size) (hx : AtX w b 0 (rowJ k tv l)) (hne : l ≠ []) :
    Calls Tryz.prog 70 #[.slice (some ⟨b, 0, none⟩) l.length c, .func (.func 71) #[] #[]] w (SrtR w (rowJ k tv (ordJ k k.txs.length))) := by
  have hn : l.length ≤ 60 := by rw [hl]; exact Nat.le_trans (tolJ_len k _) (CSm.of hk).t
  have hc := cloneX_any w b c (rowJ k tv l) (by rw [rowJ_len]; exact hn) hb hx (fun e => hne (by simpa [rowJ] using e))
  rw [rowJ_len] at hc
  have HK : Hid (clusterB k = true ∧ l = tolJ k k.txs.length) := ⟨hk, hl⟩
  clear hb hx hne hk hl
  go_enter Tryz.func70, Tryz.ntmps70
  go_wp2_with fail
  refine hc.mono ?_
  clear hc
  rintro e W1 ⟨q, cp, rfl, hrw, b1⟩
  have H1 : Hid (RwX W1 w.heap.size q (rowJ k tv l) ∧ Below w.heap.size w W1) := ⟨hrw, b1⟩
  clear hrw b1
  obtain ⟨n, hnn⟩ : ∃ n, n = l.length := ⟨_, rfl⟩
  rw [← hnn] at hn
  rw [← hnn]
  have HN : Hid (n = l.length) := hnn
  clear hnn
  go_wp2
  go_loopw [12] (fun v wr => ∃ e : Nat, e ≤ n ∧ v = .int .i64 e ∧ RwX wr w.heap.size q (rowJ k tv (bakJ k l e)) ∧ Below w.heap.size w wr) (fun v _ => n - (intOf v).toNat)
  case atStart => exact ⟨0, Nat.zero_le _, rfl, by rw [show bakJ k l 0 = l from rfl]; exact H1.out.1, H1.out.2⟩
  case round =>
    obtain ⟨e, he, rfl, hrw, hbl⟩ := hrel
    by_cases hlt : e < n
    · obtain ⟨f, hf⟩ : ∃ f : Nat → Bool, f = fun q => decide (stpJ k (l[e]?.getD 0) < stpJ k ((srtJ k l e)[q]?.getD 0)) := ⟨_, rfl⟩
      have HF := hidOf hf
      clear hf
      have K0 : Hid (RwX wr w.heap.size q (rowJ k tv (curJ k l e e)) ∧ Below w.heap.size w wr) := ⟨by rw [curJ_start k (by rw [← HN.out]; exact hlt)]; exact hrw, hbl⟩
      clear hrw hbl
      generalize wr = W2 at *
      go_wp2
      go_loopw [7] (fun v wr => ∃ a : Nat, a ≤ e ∧ v = .int .i64 a ∧ RwX wr w.heap.size q (rowJ k tv (curJ k l e a)) ∧ Below w.heap.size w wr ∧ cutK f e = cutK f a) (fun v _ => (intOf v).toNat)
      case atStart => exact ⟨e, Nat.le_refl _, rfl, K0.out.1, K0.out.2, rfl⟩
      case round =>
        obtain ⟨a, ha, rfl, hrw, hbl, hct⟩ := hrel
        have KQ : Hid (RwX wr w.heap.size q (rowJ k tv (curJ k l e a)) ∧ Below w.heap.size w wr ∧ cutK f e = cutK f a) := ⟨hrw, hbl, hct⟩
        clear hrw hbl hct
        rcases a with _ | p
        · have KE : Hid (RwX wr w.heap.size q (rowJ k tv (bakJ k l (e + 1))) ∧ Below w.heap.size w wr) := ⟨by rw [← curJ_end k (a := 0) (by rw [← HF.out, KQ.out.2.2]; rfl)]; exact KQ.out.1, KQ.out.2.1⟩
          have d0 : decide ((0 : Int) < ((0 : Nat) : Int)) = false := by simp
          go_wp2_with fail
          go_quiet (fail)
          go_wp2
          exact ⟨⟨e + 1, by omega, by simp, KE.out.1, below_dn KE.out.2 _⟩, by simp [intOf]; omega⟩
        · obtain ⟨xi, hxi⟩ : ∃ z, z = l[e]?.getD 0 := ⟨_, rfl⟩
          obtain ⟨yi, hyi⟩ : ∃ z, z = (srtJ k l e)[p]?.getD 0 := ⟨_, rfl⟩
          have hX := rowJ_at (k := k) (tv := tv) (curJ_at k (l := l) ha)
          have hY := rowJ_at (k := k) (tv := tv) (curJ_low k (l := l) ha)
          rw [← hxi] at hX
          rw [← hyi] at hY
          have hless : (atT k.txs yi).id < (atT k.txs xi).id := by
            rw [hxi, hyi]
            have := HK.out.2
            subst this
            exact met_less HK.out.1 (Nat.le_refl _) (by rw [← HN.out]; exact hlt) (by omega)
          have hsc := stmC_less hless
          have hfp : f p = decide ((atT k.txs xi).stamp < (atT k.txs yi).stamp) := by rw [HF.out, hxi, hyi]; rfl
          rw [← hfp] at hsc
          have cA : ∀ d os, Calls Tryz.prog 71 #[.agg #[.int .i64 ((atT k.txs xi)).id, .int .i64 ((atT k.txs xi)).home, .int .i64 ((atT k.txs xi)).phase, .int .i64 ((atT k.txs xi)).count, .slice ((tv xi)).ar ((atT k.txs xi)).reads.length ((tv xi)).cr, .slice ((tv xi)).ah ((atT k.txs xi)).sets.length ((tv xi)).ch, .int .i64 ((atT k.txs xi)).stamp], .agg #[.int .i64 ((atT k.txs yi)).id, .int .i64 ((atT k.txs yi)).home, .int .i64 ((atT k.txs yi)).phase, .int .i64 ((atT k.txs yi)).count, .slice ((tv yi)).ar ((atT k.txs yi)).reads.length ((tv yi)).cr, .slice ((tv yi)).ah ((atT k.txs yi)).sets.length ((tv yi)).ch, .int .i64 ((atT k.txs yi)).stamp]] (grow (redrawn wr d) os) fun e w'' => e = .returned (.int .i64 (stmC (atT k.txs xi) (atT k.txs yi))) ∧ ∃ p : Regrown, w'' = grow (redrawn wr p.d) p.os := fun d os => Calls.regrown_of (byStamp_any _ (tv xi) (tv yi) _ _)
          have x0 : wr.cell? ⟨q, (p + 1) * 7, none⟩ = some (.int .i64 ((atT k.txs xi)).id) := by have := KQ.out.1.1 (p + 1) _ hX 0 _ rfl; rwa [Nat.zero_add] at this
          have x1 : wr.cell? ⟨q, (p + 1) * 7 + 1, none⟩ = some (.int .i64 ((atT k.txs xi)).home) := by have := KQ.out.1.1 (p + 1) _ hX 1 _ rfl; rwa [Nat.zero_add] at this
          have x2 : wr.cell? ⟨q, (p + 1) * 7 + 2, none⟩ = some (.int .i64 ((atT k.txs xi)).phase) := by have := KQ.out.1.1 (p + 1) _ hX 2 _ rfl; rwa [Nat.zero_add] at this
          have x3 : wr.cell? ⟨q, (p + 1) * 7 + 3, none⟩ = some (.int .i64 ((atT k.txs xi)).count) := by have := KQ.out.1.1 (p + 1) _ hX 3 _ rfl; rwa [Nat.zero_add] at this
          have x4 : wr.cell? ⟨q, (p + 1) * 7 + 4, none⟩ = some (.slice ((tv xi)).ar ((atT k.txs xi)).reads.length ((tv xi)).cr) := by have := KQ.out.1.1 (p + 1) _ hX 4 _ rfl; rwa [Nat.zero_add] at this
          have x5 : wr.cell? ⟨q, (p + 1) * 7 + 5, none⟩ = some (.slice ((tv xi)).ah ((atT k.txs xi)).sets.length ((tv xi)).ch) := by have := KQ.out.1.1 (p + 1) _ hX 5 _ rfl; rwa [Nat.zero_add] at this
          have x6 : wr.cell? ⟨q, (p + 1) * 7 + 6, none⟩ = some (.int .i64 ((atT k.txs xi)).stamp) := by have := KQ.out.1.1 (p + 1) _ hX 6 _ rfl; rwa [Nat.zero_add] at this
          have y0 : wr.cell? ⟨q, p * 7, none⟩ = some (.int .i64 ((atT k.txs yi)).id) := by have := KQ.out.1.1 p _ hY 0 _ rfl; rwa [Nat.zero_add] at this
          have y1 : wr.cell? ⟨q, p * 7 + 1, none⟩ = some (.int .i64 ((atT k.txs yi)).home) := by have := KQ.out.1.1 p _ hY 1 _ rfl; rwa [Nat.zero_add] at this
          have y2 : wr.cell? ⟨q, p * 7 + 2, none⟩ = some (.int .i64 ((atT k.txs yi)).phase) := by have := KQ.out.1.1 p _ hY 2 _ rfl; rwa [Nat.zero_add] at this
          have y3 : wr.cell? ⟨q, p * 7 + 3, none⟩ = some (.int .i64 ((atT k.txs yi)).count) := by have := KQ.out.1.1 p _ hY 3 _ rfl; rwa [Nat.zero_add] at this
          have y4 : wr.cell? ⟨q, p * 7 + 4, none⟩ = some (.slice ((tv yi)).ar ((atT k.txs yi)).reads.length ((tv yi)).cr) := by have := KQ.out.1.1 p _ hY 4 _ rfl; rwa [Nat.zero_add] at this
          have y5 : wr.cell? ⟨q, p * 7 + 5, none⟩ = some (.slice ((tv yi)).ah ((atT k.txs yi)).sets.length ((tv yi)).ch) := by have := KQ.out.1.1 p _ hY 5 _ rfl; rwa [Nat.zero_add] at this
          have y6 : wr.cell? ⟨q, p * 7 + 6, none⟩ = some (.int .i64 ((atT k.txs yi)).stamp) := by have := KQ.out.1.1 p _ hY 6 _ rfl; rwa [Nat.zero_add] at this
          have HXY : Hid (xi = l[e]?.getD 0 ∧ yi = (srtJ k l e)[p]?.getD 0) := ⟨hxi, hyi⟩
          have d0 : decide ((0 : Int) < ((p + 1 : Nat) : Int)) = true := by simp
          have pn : (p : Int) < (n : Int) := by omega
          have pn1 : (p : Int) + 1 < (n : Int) := by omega
          have lift : ∀ {o : Nat} {u : Value}, wr.cell? ⟨q, o, none⟩ = some u → ∀ d os, (grow (redrawn wr d) os).cell? ⟨q, o, none⟩ = some u := fun {o u} hh d os => ((below_regrown wr d os).cell (p := ⟨q, o, none⟩) KQ.out.1.2.2.2).trans hh
          replace x0 := lift x0
          replace x1 := lift x1
          replace x2 := lift x2
          replace x3 := lift x3
          replace x4 := lift x4
          replace x5 := lift x5
          replace x6 := lift x6
          replace y0 := lift y0
          replace y1 := lift y1
          replace y2 := lift y2
          replace y3 := lift y3
          replace y4 := lift y4
          replace y5 := lift y5
          replace y6 := lift y6
          clear lift
          clear hX hY hless hfp hxi hyi
          generalize stmC (atT k.txs xi) (atT k.txs yi) = sc at *
          cases hfb : f p with
          | false =>
            rw [hfb] at hsc
            have KE : Hid (RwX wr w.heap.size q (rowJ k tv (bakJ k l (e + 1))) ∧ Below w.heap.size w wr) := ⟨by rw [← curJ_end k (a := p + 1) (by rw [← HF.out, KQ.out.2.2, cutK, if_neg (by rw [hfb]; decide)])]; exact KQ.out.1, KQ.out.2.1⟩
            clear hfb
            generalize (atT k.txs xi).id = a0 at *
            generalize (atT k.txs xi).home = a1 at *
            generalize (atT k.txs xi).phase = a2 at *
            generalize (atT k.txs xi).count = a3 at *
            generalize (tv xi).ar = a4 at *
            generalize (atT k.txs xi).reads.length = a4l at *
            generalize (tv xi).cr = a4c at *
            generalize (tv xi).ah = a5 at *
            generalize (atT k.txs xi).sets.length = a5l at *
            generalize (tv xi).ch = a5c at *
            generalize (atT k.txs xi).stamp = a6 at *
            generalize (atT k.txs yi).id = e0 at *
            generalize (atT k.txs yi).home = e1 at *
            generalize (atT k.txs yi).phase = e2 at *
            generalize (atT k.txs yi).count = e3 at *
            generalize (tv yi).ar = e4 at *
            generalize (atT k.txs yi).reads.length = e4l at *
            generalize (tv yi).cr = e4c at *
            generalize (tv yi).ah = e5 at *
            generalize (atT k.txs yi).sets.length = e5l at *
            generalize (tv yi).ch = e5c at *
            generalize (atT k.txs yi).stamp = e6 at *
            go_wp2_with fail
            refine wp_region_quiet_below (by kernel_rfl) (by kernel_rfl) ?_
            repeat (go_big_quiet_step (first | (go_at_call 71; exact cA _ _)))
            refine wpQuiet_nil ?_
            intro _ hw'
            obtain ⟨⟨dq', osq⟩, hw''⟩ := hw'
            subst hw''
            have BQ : Hid (Below wr.heap.size wr (grow (redrawn wr dq') osq)) := below_regrown wr dq' osq
            clear cA
            go_wp2
            exact ⟨⟨e + 1, by omega, by simp, KE.out.1.later BQ.out, bstep KE.out.2 BQ.out⟩, by simp [intOf]; omega⟩
          | true =>
            rw [hfb] at hsc
            have HFB : Hid (cutK f e = cutK f p) := by unfold Hid; rw [KQ.out.2.2, cutK, if_pos hfb]
            clear hfb
            go_wp2_with fail
            refine wp_region_quiet_below (by kernel_rfl) (by kernel_rfl) ?_
            repeat (go_big_quiet_step (first | (go_at_call 71; exact cA _ _)))
            refine wpQuiet_nil ?_
            intro _ hw'
            obtain ⟨⟨dq', osq⟩, hw''⟩ := hw'
            subst hw''
            have BQ : Hid (Below wr.heap.size wr (grow (redrawn wr dq') osq)) := below_regrown wr dq' osq
            clear cA
            generalize grow (redrawn wr dq') osq = V at *
            clear x0 x1 x2 x3 x4 x5 x6 y0 y1 y2 y3 y4 y5 y6
            have hR := KQ.out.1.later BQ.out
            have hX := rowJ_at (k := k) (tv := tv) (curJ_at k (l := l) ha)
            have hY := rowJ_at (k := k) (tv := tv) (curJ_low k (l := l) ha)
            rw [← HXY.out.1] at hX
            rw [← HXY.out.2] at hY
            have hlen : (rowJ k tv (curJ k l e (p + 1))).length = n := by rw [rowJ_len, curJ_len k (by rw [← HN.out]; exact hlt) ha, HN.out]
            have rd : Room V.drew q (n * 7) := by have := hR.2.1; rw [hlen] at this; exact this
            have hS : (fun Z : World => Z.cell? ⟨q, (p + 1) * 7, none⟩ = some (.int .i64 ((atT k.txs xi)).id) ∧ Z.cell? ⟨q, (p + 1) * 7 + 1, none⟩ = some (.int .i64 ((atT k.txs xi)).home) ∧ Z.cell? ⟨q, (p + 1) * 7 + 2, none⟩ = some (.int .i64 ((atT k.txs xi)).phase) ∧ Z.cell? ⟨q, (p + 1) * 7 + 3, none⟩ = some (.int .i64 ((atT k.txs xi)).count) ∧ Z.cell? ⟨q, (p + 1) * 7 + 4, none⟩ = some (.slice ((tv xi)).ar ((atT k.txs xi)).reads.length ((tv xi)).cr) ∧ Z.cell? ⟨q, (p + 1) * 7 + 5, none⟩ = some (.slice ((tv xi)).ah ((atT k.txs xi)).sets.length ((tv xi)).ch) ∧ Z.cell? ⟨q, (p + 1) * 7 + 6, none⟩ = some (.int .i64 ((atT k.txs xi)).stamp) ∧ Z.cell? ⟨q, p * 7, none⟩ = some (.int .i64 ((atT k.txs yi)).id) ∧ Z.cell? ⟨q, p * 7 + 1, none⟩ = some (.int .i64 ((atT k.txs yi)).home) ∧ Z.cell? ⟨q, p * 7 + 2, none⟩ = some (.int .i64 ((atT k.txs yi)).phase) ∧ Z.cell? ⟨q, p * 7 + 3, none⟩ = some (.int .i64 ((atT k.txs yi)).count) ∧ Z.cell? ⟨q, p * 7 + 4, none⟩ = some (.slice ((tv yi)).ar ((atT k.txs yi)).reads.length ((tv yi)).cr) ∧ Z.cell? ⟨q, p * 7 + 5, none⟩ = some (.slice ((tv yi)).ah ((atT k.txs yi)).sets.length ((tv yi)).ch) ∧ Z.cell? ⟨q, p * 7 + 6, none⟩ = some (.int .i64 ((atT k.txs yi)).stamp)) V.drew := ⟨by have := hR.1 (p + 1) _ hX 0 _ rfl; rw [Nat.zero_add] at this; exact this, by have := hR.1 (p + 1) _ hX 1 _ rfl; rw [Nat.zero_add] at this; exact this, by have := hR.1 (p + 1) _ hX 2 _ rfl; rw [Nat.zero_add] at this; exact this, by have := hR.1 (p + 1) _ hX 3 _ rfl; rw [Nat.zero_add] at this; exact this, by have := hR.1 (p + 1) _ hX 4 _ rfl; rw [Nat.zero_add] at this; exact this, by have := hR.1 (p + 1) _ hX 5 _ rfl; rw [Nat.zero_add] at this; exact this, by have := hR.1 (p + 1) _ hX 6 _ rfl; rw [Nat.zero_add] at this; exact this, by have := hR.1 p _ hY 0 _ rfl; rw [Nat.zero_add] at this; exact this, by have := hR.1 p _ hY 1 _ rfl; rw [Nat.zero_add] at this; exact this, by have := hR.1 p _ hY 2 _ rfl; rw [Nat.zero_add] at this; exact this, by have := hR.1 p _ hY 3 _ rfl; rw [Nat.zero_add] at this; exact this, by have := hR.1 p _ hY 4 _ rfl; rw [Nat.zero_add] at this; exact this, by have := hR.1 p _ hY 5 _ rfl; rw [Nat.zero_add] at this; exact this, by have := hR.1 p _ hY 6 _ rfl; rw [Nat.zero_add] at this; exact this⟩
            have HP : Hid (RwX V.drew w.heap.size q (rowJ k tv (curJ k l e (p + 1))) ∧ Below w.heap.size w V.drew) := ⟨hR.later ((Below.refl _ _).drew), (bstep KQ.out.2.1 BQ.out).drew⟩
            have HL := hidOf hlen
            have HY := hidOf hY
            clear hR hX hY hlen
            have hwp : IntKind.i64.wrap (p : Int) = (p : Int) := by rw [IntKind.wrap_i64]; omega
            go_wp2_with fail
            refine wp_region_z (fun z => z == 15 || z == 17) (fun Z : World => Z.cell? ⟨q, (p + 1) * 7, none⟩ = some (.int .i64 ((atT k.txs xi)).id) ∧ Z.cell? ⟨q, (p + 1) * 7 + 1, none⟩ = some (.int .i64 ((atT k.txs xi)).home) ∧ Z.cell? ⟨q, (p + 1) * 7 + 2, none⟩ = some (.int .i64 ((atT k.txs xi)).phase) ∧ Z.cell? ⟨q, (p + 1) * 7 + 3, none⟩ = some (.int .i64 ((atT k.txs xi)).count) ∧ Z.cell? ⟨q, (p + 1) * 7 + 4, none⟩ = some (.slice ((tv xi)).ar ((atT k.txs xi)).reads.length ((tv xi)).cr) ∧ Z.cell? ⟨q, (p + 1) * 7 + 5, none⟩ = some (.slice ((tv xi)).ah ((atT k.txs xi)).sets.length ((tv xi)).ch) ∧ Z.cell? ⟨q, (p + 1) * 7 + 6, none⟩ = some (.int .i64 ((atT k.txs xi)).stamp) ∧ Z.cell? ⟨q, p * 7, none⟩ = some (.int .i64 ((atT k.txs yi)).id) ∧ Z.cell? ⟨q, p * 7 + 1, none⟩ = some (.int .i64 ((atT k.txs yi)).home) ∧ Z.cell? ⟨q, p * 7 + 2, none⟩ = some (.int .i64 ((atT k.txs yi)).phase) ∧ Z.cell? ⟨q, p * 7 + 3, none⟩ = some (.int .i64 ((atT k.txs yi)).count) ∧ Z.cell? ⟨q, p * 7 + 4, none⟩ = some (.slice ((tv yi)).ar ((atT k.txs yi)).reads.length ((tv yi)).cr) ∧ Z.cell? ⟨q, p * 7 + 5, none⟩ = some (.slice ((tv yi)).ah ((atT k.txs yi)).sets.length ((tv yi)).ch) ∧ Z.cell? ⟨q, p * 7 + 6, none⟩ = some (.int .i64 ((atT k.txs yi)).stamp)) (by kernel_rfl) ?_
            generalize V.drew = Wd at *
            refine wpZ_takeP (i := 0) (v := ?_) rfl (by kernel_rfl) (fun _ _ _ h => h) (Or.inl ⟨by rfl, ?_⟩) hS ?_
            rotate_left
            · (intro w _; go_simp; first | done | with_reducible rfl | (rw [if_pos (by omega)]) | (rw [if_pos (by omega)]; go_simp))
            simp only [Act.put]
            refine wpZ_takeP (i := 1) (v := ?_) rfl (by kernel_rfl) (fun _ _ _ h => h) (Or.inl ⟨by rfl, ?_⟩) hS ?_
            rotate_left
            · (intro w _; go_simp; first | done | with_reducible rfl | (rw [if_pos (by omega)]) | (rw [if_pos (by omega)]; go_simp))
            simp only [Act.put]
            refine wpZ_takeP (i := 2) (v := ?_) rfl (by kernel_rfl) (fun _ _ _ h => h) (Or.inl ⟨by rfl, ?_⟩) hS ?_
            rotate_left
            · (intro w _; go_simp; first | done | with_reducible rfl | (rw [if_pos (by omega)]) | (rw [if_pos (by omega)]; go_simp))
            simp only [Act.put]
            refine wpZ_takeP (i := 3) (v := ?_) rfl (by kernel_rfl) (fun _ _ _ h => h) (Or.inl ⟨by rfl, ?_⟩) hS ?_
            rotate_left
            · (intro w _; go_simp; first | done | with_reducible rfl | (rw [if_pos (by omega)]) | (rw [if_pos (by omega)]; go_simp))
            simp only [Act.put]
            refine wpZ_takeP (i := 4) (v := ?_) rfl (by kernel_rfl) (fun _ _ _ h => h) (Or.inl ⟨by rfl, ?_⟩) hS ?_
            rotate_left
            · (intro w _; go_simp; first | done | with_reducible rfl | (rw [if_pos (by omega)]) | (rw [if_pos (by omega)]; go_simp))
            simp only [Act.put]
            refine wpZ_takeP (i := 5) (v := ?_) rfl (by kernel_rfl) (fun _ _ _ h => h) (Or.inl ⟨by rfl, ?_⟩) hS ?_
            rotate_left
            · (intro w _; go_simp; first | done | with_reducible rfl | (rw [if_pos (by omega)]) | (rw [if_pos (by omega)]; go_simp))
            simp only [Act.put]
            refine wpZ_takeP (i := 6) (v := ?_) rfl (by kernel_rfl) (fun _ _ _ h => h) (Or.inl ⟨by rfl, ?_⟩) hS ?_
            rotate_left
            · (intro w _; go_simp; first | done | with_reducible rfl | (rw [if_pos (by omega)]) | (rw [if_pos (by omega)]; go_simp))
            simp only [Act.put]
            refine wpZ_takeP (i := 7) (v := ?_) rfl (by kernel_rfl) (fun _ _ _ h => h) (Or.inl ⟨by rfl, ?_⟩) hS ?_
            rotate_left
            · (intro w _; go_simp; first | done | with_reducible rfl | (rw [if_pos (by omega)]) | (rw [if_pos (by omega)]; go_simp))
            simp only [Act.put]
            refine wpZ_takeP (i := 8) (v := ?_) rfl (by kernel_rfl) (fun _ _ _ h => h) (Or.inl ⟨by rfl, ?_⟩) hS ?_
            rotate_left
            · (intro w _; go_simp; first | done | with_reducible rfl | (rw [if_pos (by omega)]) | (rw [if_pos (by omega)]; go_simp))
            simp only [Act.put]
            refine wpZ_take (i := 9) (v := .agg #[.int .i64 ((atT k.txs yi)).id, .int .i64 ((atT k.txs yi)).home, .int .i64 ((atT k.txs yi)).phase, .int .i64 ((atT k.txs yi)).count, .slice ((tv yi)).ar ((atT k.txs yi)).reads.length ((tv yi)).cr, .slice ((tv yi)).ah ((atT k.txs yi)).sets.length ((tv yi)).ch, .int .i64 ((atT k.txs yi)).stamp]) rfl (by kernel_rfl) (fun _ _ _ h => h) (Or.inl ⟨by rfl, ?_⟩) hS ?_
            · (intro w hSw; obtain ⟨-, -, -, -, -, -, -, s7, s8, s9, s10, s11, s12, s13⟩ := hSw; clear hS rd HP; go_simp)
            simp only [Act.put]
            refine wpZ_takeP (i := 10) (v := ?_) rfl (by kernel_rfl) (fun _ _ _ h => h) (Or.inl ⟨by rfl, ?_⟩) hS ?_
            rotate_left
            · (intro w _; go_simp; first | done | with_reducible rfl | (rw [if_pos (by omega)]) | (rw [if_pos (by omega)]; go_simp))
            simp only [Act.put]
            refine wpZ_takeP (i := 11) (v := ?_) rfl (by kernel_rfl) (fun _ _ _ h => h) (Or.inl ⟨by rfl, ?_⟩) hS ?_
            rotate_left
            · (intro w _; go_simp; first | done | with_reducible rfl | (rw [if_pos (by omega)]) | (rw [if_pos (by omega)]; go_simp))
            simp only [Act.put]
            refine wpZ_takeP (i := 12) (v := ?_) rfl (by kernel_rfl) (fun _ _ _ h => h) (Or.inl ⟨by rfl, ?_⟩) hS ?_
            rotate_left
            · (intro w _; go_simp; first | done | with_reducible rfl | (rw [if_pos (by omega)]) | (rw [if_pos (by omega)]; go_simp))
            simp only [Act.put]
            refine wpZ_take (i := 13) (v := .agg #[.int .i64 ((atT k.txs xi)).id, .int .i64 ((atT k.txs xi)).home, .int .i64 ((atT k.txs xi)).phase, .int .i64 ((atT k.txs xi)).count, .slice ((tv xi)).ar ((atT k.txs xi)).reads.length ((tv xi)).cr, .slice ((tv xi)).ah ((atT k.txs xi)).sets.length ((tv xi)).ch, .int .i64 ((atT k.txs xi)).stamp]) rfl (by kernel_rfl) (fun _ _ _ h => h) (Or.inl ⟨by rfl, ?_⟩) hS ?_
            · (intro w hSw; obtain ⟨s0, s1, s2, s3, s4, s5, s6, -, -, -, -, -, -, -⟩ := hSw; clear hS rd HP; go_simp)
            simp only [Act.put]
            refine wpZ_takeP (i := 14) (v := ?_) rfl (by kernel_rfl) (fun _ _ _ h => h) (Or.inl ⟨by rfl, ?_⟩) hS ?_
            rotate_left
            · (intro w _; go_simp; first | done | with_reducible rfl | (rw [if_pos (by omega)]) | (rw [if_pos (by omega)]; go_simp))
            simp only [Act.put]
            have c0 := hS.1
            have f0 := (rd ((p + 1) * 7) (by omega)).choose_spec.2
            have c1 := hS.2.1
            have f1 := (rd ((p + 1) * 7 + 1) (by omega)).choose_spec.2
            have c2 := hS.2.2.1
            have f2 := (rd ((p + 1) * 7 + 2) (by omega)).choose_spec.2
            have c3 := hS.2.2.2.1
            have f3 := (rd ((p + 1) * 7 + 3) (by omega)).choose_spec.2
            have c4 := hS.2.2.2.2.1
            have f4 := (rd ((p + 1) * 7 + 4) (by omega)).choose_spec.2
            have c5 := hS.2.2.2.2.2.1
            have f5 := (rd ((p + 1) * 7 + 5) (by omega)).choose_spec.2
            have c6 := hS.2.2.2.2.2.2.1
            have f6 := (rd ((p + 1) * 7 + 6) (by omega)).choose_spec.2
            refine wpZ_ready (rs := [15]) (by kernel_rfl) (by simp) ?_
            refine AllZ.cons rfl (fun K hK => ?_) AllZ.nil
            go_simp
            refine hK.out _ _ (fun h => absurd (show false = true from h.symm.trans (by kernel_rfl)) (by decide)) ?_
            clear hK K
            refine wpZ_ready (rs := [16]) (by kernel_rfl) (by simp) ?_
            refine AllZ.cons rfl (fun K hK => ?_) AllZ.nil
            go_simp
            refine hK.out _ _ (fun h => absurd (show false = true from h.symm.trans (by kernel_rfl)) (by decide)) ?_
            clear hK K
            obtain ⟨Wp, hWp⟩ : ∃ Y, Y = putB Wd q ((p + 1) * 7) (cellsT (tv yi, atT k.txs yi)) := ⟨_, rfl⟩
            have R1 := HP.out.1.put (i := p + 1) (by rw [HL.out]; omega) (tv yi, atT k.txs yi)
            rw [← hWp] at R1
            have rd1 : Room Wp q (n * 7) := by have := R1.2.1; rw [List.length_set, HL.out] at this; exact this
            have hWn : Wp = (((((((Wd.setCell ⟨q, (p + 1) * 7, none⟩ (.int .i64 ((atT k.txs yi)).id)).setCell ⟨q, (p + 1) * 7 + 1, none⟩ (.int .i64 ((atT k.txs yi)).home)).setCell ⟨q, (p + 1) * 7 + 2, none⟩ (.int .i64 ((atT k.txs yi)).phase)).setCell ⟨q, (p + 1) * 7 + 3, none⟩ (.int .i64 ((atT k.txs yi)).count)).setCell ⟨q, (p + 1) * 7 + 4, none⟩ (.slice ((tv yi)).ar ((atT k.txs yi)).reads.length ((tv yi)).cr)).setCell ⟨q, (p + 1) * 7 + 5, none⟩ (.slice ((tv yi)).ah ((atT k.txs yi)).sets.length ((tv yi)).ch)).setCell ⟨q, (p + 1) * 7 + 6, none⟩ (.int .i64 ((atT k.txs yi)).stamp)) := hWp
            rw [← hWn]
            have hYs : ((rowJ k tv (curJ k l e (p + 1))).set (p + 1) (tv yi, atT k.txs yi))[p]? = some (tv yi, atT k.txs yi) := by rw [List.getElem?_set_ne (by omega)]; exact HY.out
            have HWp := hidOf hWp
            clear hWn hWp c0 f0 c1 f1 c2 f2 c3 f3 c4 f4 c5 f5 c6 f6
            have g0 : Wp.cell? ⟨q, p * 7, none⟩ = some (.int .i64 ((atT k.txs yi)).id) := by have := R1.1 p _ hYs 0 _ rfl; rw [Nat.zero_add] at this; exact this
            have h0 := (rd1 (p * 7) (by omega)).choose_spec.2
            have g1 : Wp.cell? ⟨q, p * 7 + 1, none⟩ = some (.int .i64 ((atT k.txs yi)).home) := by have := R1.1 p _ hYs 1 _ rfl; rw [Nat.zero_add] at this; exact this
            have h1 := (rd1 (p * 7 + 1) (by omega)).choose_spec.2
            have g2 : Wp.cell? ⟨q, p * 7 + 2, none⟩ = some (.int .i64 ((atT k.txs yi)).phase) := by have := R1.1 p _ hYs 2 _ rfl; rw [Nat.zero_add] at this; exact this
            have h2 := (rd1 (p * 7 + 2) (by omega)).choose_spec.2
            have g3 : Wp.cell? ⟨q, p * 7 + 3, none⟩ = some (.int .i64 ((atT k.txs yi)).count) := by have := R1.1 p _ hYs 3 _ rfl; rw [Nat.zero_add] at this; exact this
            have h3 := (rd1 (p * 7 + 3) (by omega)).choose_spec.2
            have g4 : Wp.cell? ⟨q, p * 7 + 4, none⟩ = some (.slice ((tv yi)).ar ((atT k.txs yi)).reads.length ((tv yi)).cr) := by have := R1.1 p _ hYs 4 _ rfl; rw [Nat.zero_add] at this; exact this
            have h4 := (rd1 (p * 7 + 4) (by omega)).choose_spec.2
            have g5 : Wp.cell? ⟨q, p * 7 + 5, none⟩ = some (.slice ((tv yi)).ah ((atT k.txs yi)).sets.length ((tv yi)).ch) := by have := R1.1 p _ hYs 5 _ rfl; rw [Nat.zero_add] at this; exact this
            have h5 := (rd1 (p * 7 + 5) (by omega)).choose_spec.2
            have g6 : Wp.cell? ⟨q, p * 7 + 6, none⟩ = some (.int .i64 ((atT k.txs yi)).stamp) := by have := R1.1 p _ hYs 6 _ rfl; rw [Nat.zero_add] at this; exact this
            have h6 := (rd1 (p * 7 + 6) (by omega)).choose_spec.2
            refine wpZ_ready (rs := [17]) (by kernel_rfl) (by simp) ?_
            refine AllZ.cons rfl (fun K hK => ?_) AllZ.nil
            go_simp
            refine hK.out _ _ (fun h => absurd (show false = true from h.symm.trans (by kernel_rfl)) (by decide)) ?_
            clear hK K
            refine wpZ_done (by kernel_rfl) ?_ _
            obtain ⟨Wq, hWq⟩ : ∃ Y, Y = putB Wp q (p * 7) (cellsT (tv xi, atT k.txs xi)) := ⟨_, rfl⟩
            have R2 := R1.put (i := p) (by rw [List.length_set, HL.out]; omega) (tv xi, atT k.txs xi)
            rw [← hWq, rowJ_set, rowJ_set, HXY.out.1, HXY.out.2, curJ_swap k ha] at R2
            have KE : Hid (RwX Wq w.heap.size q (rowJ k tv (curJ k l e p)) ∧ Below w.heap.size w Wq) := ⟨R2, by rw [hWq, HWp.out]; exact putB_below R1.2.2.1 _ _ _ (putB_below R1.2.2.1 _ _ _ HP.out.2)⟩
            have hWn2 : Wq = (((((((Wp.setCell ⟨q, p * 7, none⟩ (.int .i64 ((atT k.txs xi)).id)).setCell ⟨q, p * 7 + 1, none⟩ (.int .i64 ((atT k.txs xi)).home)).setCell ⟨q, p * 7 + 2, none⟩ (.int .i64 ((atT k.txs xi)).phase)).setCell ⟨q, p * 7 + 3, none⟩ (.int .i64 ((atT k.txs xi)).count)).setCell ⟨q, p * 7 + 4, none⟩ (.slice ((tv xi)).ar ((atT k.txs xi)).reads.length ((tv xi)).cr)).setCell ⟨q, p * 7 + 5, none⟩ (.slice ((tv xi)).ah ((atT k.txs xi)).sets.length ((tv xi)).ch)).setCell ⟨q, p * 7 + 6, none⟩ (.int .i64 ((atT k.txs xi)).stamp)) := hWq
            rw [← hWn2]
            clear hWn2 hWq R1 R2 rd1 rd hS hYs g0 h0 g1 h1 g2 h2 g3 h3 g4 h4 g5 h5 g6 h6
            go_wp2
            exact ⟨⟨p, by omega, by simp, KE.out.1, KE.out.2, HFB.out⟩, by simp [intOf]⟩
    · obtain rfl : e = n := by omega
      have hd : decide ((e : Int) < (e : Int)) = false := by simp
      have KE : Hid (SrtR w (rowJ k tv (ordJ k k.txs.length)) (.returned (.slice (some ⟨q, 0, none⟩) e cp)) wr) := by
        have h1 : bakJ k l e = ordJ k k.txs.length := by rw [bakJ, HN.out, List.drop_length, List.append_nil, HK.out.2]; exact srt_ord k _
        rw [h1] at hrw
        refine ⟨q, cp, ?_, hrw, hbl⟩
        rw [rowJ_len, ← srt_ord k, srtJ_len, ← HK.out.2, HN.out]
      clear hrw hbl
      go_wp2
      go_ret
      exact KE.out
set_option maxHeartbeats 2000000 in
theorem toldC_any (w : World) (v : tx.TV) (t : tx.T7) (hl : tx.TL t) (hs : tx.SlT w v t) : Calls Tryz.prog 69 #[.agg #[.int .i64 (t).id, .int .i64 (t).home, .int .i64 (t).phase, .int .i64 (t).count, .slice (v).ar (t).reads.length (v).cr, .slice (v).ah (t).sets.length (v).ch, .int .i64 (t).stamp]] w fun e w' => e = .returned (.bool (tx.toldR t == 1)) ∧ Below w.heap.size w w' := by
  obtain ⟨U, hU⟩ : ∃ Y, Y = w.alloc (.cells #[.int .i64 (t).id, .int .i64 (t).home, .int .i64 (t).phase, .int .i64 (t).count, .slice (v).ar (t).reads.length (v).cr, .slice (v).ah (t).sets.length (v).ch, .int .i64 (t).stamp] 55) := ⟨_, rfl⟩
  have bU : Below w.heap.size w U := by rw [hU]; exact (Below.refl _ _).alloc (Nat.le_refl _) _
  have XT : Bx U w.heap.size [.int .i64 (t).id, .int .i64 (t).home, .int .i64 (t).phase, .int .i64 (t).count, .slice (v).ar (t).reads.length (v).cr, .slice (v).ah (t).sets.length (v).ch, .int .i64 (t).stamp] := by rw [hU]; exact Bx.made w [.int .i64 (t).id, .int .i64 (t).home, .int .i64 (t).phase, .int .i64 (t).count, .slice (v).ar (t).reads.length (v).cr, .slice (v).ah (t).sets.length (v).ch, .int .i64 (t).stamp] _
  have htd := tx.implTold_any U v t hl (hs.later bU)
  simp only [tx.TV.val] at htd
  have p0 := XT.1 0 _ rfl
  have p1 := XT.1 1 _ rfl
  have p2 := XT.1 2 _ rfl
  have p3 := XT.1 3 _ rfl
  have p4 := XT.1 4 _ rfl
  have p5 := XT.1 5 _ rfl
  have p6 := XT.1 6 _ rfl
  rw [hU] at p0 p1 p2 p3 p4 p5 p6
  have BU := hidOf bU
  clear XT bU hl hs
  go_enter Tryz.func69, Tryz.ntmps69
  go_wp2_with fail
  rw [← hU]
  clear hU p0 p1 p2 p3 p4 p5 p6
  refine htd.mono ?_
  clear htd
  rintro e W1 ⟨rfl, b1⟩
  go_wp2
  go_ret
  exact ⟨rfl, bstep BU.out b1⟩
def OrdR (w : World) (xs : List (tx.TV × tx.T7)) (e : Ending) (w' : World) : Prop := ∃ a c, e = .returned (.slice a xs.length c) ∧ (xs = [] ∨ ∃ b, a = some ⟨b, 0, none⟩ ∧ RwX w' w.heap.size b xs) ∧ Below w.heap.size w w'
theorem RwX.up {W : World} {base base' b : Nat} {xs : List (tx.TV × tx.T7)} (h : RwX W base' b xs) (hb : base ≤ base') : RwX W base b xs := ⟨h.1, h.2.1, Nat.le_trans hb h.2.2.1, h.2.2.2⟩
set_option maxRecDepth 100000 in
set_option maxHeartbeats 16000000 in
theorem ordered_any (w : World) (a1 : Option Addr) (c1 : Nat) (a2 : Option Addr) (c2 : Nat) (a3 : Option Addr) (c3 : Nat) (k : C6) (tv : Nat → tx.TV) (hk : clusterB k = true) (hl : KCl.L k) (ht : k.txs = [] ∨ ∃ b off, a3 = some ⟨b, off, none⟩ ∧ b < w.heap.size ∧ AtX w b off ((List.range k.txs.length).map fun j => (tv j, atT k.txs j)) ∧ ∀ j, j < k.txs.length → tx.SlT w (tv j) (atT k.txs j)) :
    Calls Tryz.prog 34 #[.agg #[.int .i64 k.config, .int .i64 k.clock, .slice a1 k.places.length c1, .slice a2 k.machines.length c2, .slice a3 k.txs.length c3, .bool k.lost]] w (OrdR w (ordX k tv k.txs.length)) := by
  have hn := (CSm.of hk).t
  obtain ⟨U, hU⟩ : ∃ Y, Y = w.alloc (.cells #[.int .i64 k.config, .int .i64 k.clock, .slice a1 k.places.length c1, .slice a2 k.machines.length c2, .slice a3 k.txs.length c3, .bool k.lost] 34) := ⟨_, rfl⟩
  have bU : Below w.heap.size w U := by rw [hU]; exact (Below.refl _ _).alloc (Nat.le_refl _) _
  have FA : Hid (Bx U w.heap.size [.int .i64 k.config, .int .i64 k.clock, .slice a1 k.places.length c1, .slice a2 k.machines.length c2, .slice a3 k.txs.length c3, .bool k.lost]) := by unfold Hid; rw [hU]; exact Bx.made w [.int .i64 k.config, .int .i64 k.clock, .slice a1 k.places.length c1, .slice a2 k.machines.length c2, .slice a3 k.txs.length c3, .bool k.lost] _
  have sU : U.heap.size = w.heap.size + 1 := by rw [hU]; simp
  have BU := hidOf bU
  have SU := hidOf sU
  have HT := hidOf ht
  have HK := hidOf hk
  have HTS : Hid (∀ t ∈ k.txs, tx.TL t) := hl.ts
  have p4 := FA.out.1 4 _ rfl
  rw [hU] at p4
  clear bU sU ht hl hk
  go_enter Tryz.func34, Tryz.ntmps34
  go_wp2
  rw [← hU]
  clear hU p4
  go_loopw [3, 9] (fun v3 v9 wr => ∃ i : Nat, i ≤ k.txs.length ∧ v9 = .int .i64 i ∧ RowX wr U.heap.size v3 (rowJ k tv (tolJ k i)) ∧ (tolJ k i = [] → v3 = .slice none 0 0) ∧ Below U.heap.size U wr) (fun _ v9 _ => k.txs.length - (intOf v9).toNat)
  case atStart => exact ⟨0, Nat.zero_le _, rfl, RowX.nil _ _, fun _ => rfl, Below.refl _ _⟩
  case round =>
    obtain ⟨i, hi, rfl, hrow, hnil, hbl⟩ := hrel
    have KD : Hid (RowX wr U.heap.size u3 (rowJ k tv (tolJ k i)) ∧ (tolJ k i = [] → u3 = .slice none 0 0) ∧ Below U.heap.size U wr) := ⟨hrow, hnil, hbl⟩
    clear hrow hnil hbl
    by_cases hlt : i < k.txs.length
    · rcases HT.out with e0 | ⟨tb, tq, rfl, htb, hat, hsl⟩
      · rw [e0] at hlt; simp at hlt
      have bwr : Below w.heap.size w wr := bstep BU.out KD.out.2.2
      have hx := hat i (tv i, atT k.txs i) (by rw [List.getElem?_map, List.getElem?_range hlt]; rfl)
      have g0 : wr.cell? ⟨tb, tq + i * 7, none⟩ = some (.int .i64 (atT k.txs i).id) := (bwr.cell (p := ⟨tb, tq + i * 7, none⟩) htb).trans (hx 0 _ rfl)
      have g1 : wr.cell? ⟨tb, tq + i * 7 + 1, none⟩ = some (.int .i64 (atT k.txs i).home) := (bwr.cell (p := ⟨tb, tq + i * 7 + 1, none⟩) htb).trans (hx 1 _ rfl)
      have g2 : wr.cell? ⟨tb, tq + i * 7 + 2, none⟩ = some (.int .i64 (atT k.txs i).phase) := (bwr.cell (p := ⟨tb, tq + i * 7 + 2, none⟩) htb).trans (hx 2 _ rfl)
      have g3 : wr.cell? ⟨tb, tq + i * 7 + 3, none⟩ = some (.int .i64 (atT k.txs i).count) := (bwr.cell (p := ⟨tb, tq + i * 7 + 3, none⟩) htb).trans (hx 3 _ rfl)
      have g4 : wr.cell? ⟨tb, tq + i * 7 + 4, none⟩ = some (.slice (tv i).ar (atT k.txs i).reads.length (tv i).cr) := (bwr.cell (p := ⟨tb, tq + i * 7 + 4, none⟩) htb).trans (hx 4 _ rfl)
      have g5 : wr.cell? ⟨tb, tq + i * 7 + 5, none⟩ = some (.slice (tv i).ah (atT k.txs i).sets.length (tv i).ch) := (bwr.cell (p := ⟨tb, tq + i * 7 + 5, none⟩) htb).trans (hx 5 _ rfl)
      have g6 : wr.cell? ⟨tb, tq + i * 7 + 6, none⟩ = some (.int .i64 (atT k.txs i).stamp) := (bwr.cell (p := ⟨tb, tq + i * 7 + 6, none⟩) htb).trans (hx 6 _ rfl)
      obtain ⟨X, hX⟩ : ∃ Y, Y = wr.alloc (.cells #[.int .i64 (atT k.txs i).id, .int .i64 (atT k.txs i).home, .int .i64 (atT k.txs i).phase, .int .i64 (atT k.txs i).count, .slice (tv i).ar (atT k.txs i).reads.length (tv i).cr, .slice (tv i).ah (atT k.txs i).sets.length (tv i).ch, .int .i64 (atT k.txs i).stamp] 55) := ⟨_, rfl⟩
      have bX : Below wr.heap.size wr X := by rw [hX]; exact (Below.refl _ _).alloc (Nat.le_refl _) _
      have XT : Hid (Bx X wr.heap.size [.int .i64 (atT k.txs i).id, .int .i64 (atT k.txs i).home, .int .i64 (atT k.txs i).phase, .int .i64 (atT k.txs i).count, .slice (tv i).ar (atT k.txs i).reads.length (tv i).cr, .slice (tv i).ah (atT k.txs i).sets.length (tv i).ch, .int .i64 (atT k.txs i).stamp]) := by unfold Hid; rw [hX]; exact Bx.made wr [.int .i64 (atT k.txs i).id, .int .i64 (atT k.txs i).home, .int .i64 (atT k.txs i).phase, .int .i64 (atT k.txs i).count, .slice (tv i).ar (atT k.txs i).reads.length (tv i).cr, .slice (tv i).ah (atT k.txs i).sets.length (tv i).ch, .int .i64 (atT k.txs i).stamp] _
      have BX := hidOf bX
      have htd := toldC_any X (tv i) (atT k.txs i) (HTS.out _ (List.mem_of_getElem? (atT_of hlt))) ((hsl i hlt).later (bstep bwr bX))
      have jn : (i : Int) < (k.txs.length : Int) := by omega
      clear hx hat hsl bX bwr htb
      go_wp2_with fail
      rw [← hX]
      clear hX g0 g1 g2 g3 g4 g5 g6
      refine htd.mono ?_
      clear htd
      rintro e W1 ⟨rfl, b1⟩
      have B1 : Hid (Below wr.heap.size wr W1) := bstep BX.out b1
      have XT1 : Hid (Bx W1 wr.heap.size [.int .i64 (atT k.txs i).id, .int .i64 (atT k.txs i).home, .int .i64 (atT k.txs i).phase, .int .i64 (atT k.txs i).count, .slice (tv i).ar (atT k.txs i).reads.length (tv i).cr, .slice (tv i).ah (atT k.txs i).sets.length (tv i).ch, .int .i64 (atT k.txs i).stamp]) := XT.out.later b1
      clear b1 XT BX
      have KR : Hid (RowX W1 U.heap.size u3 (rowJ k tv (tolJ k i)) ∧ Below U.heap.size U W1) := ⟨KD.out.1.later B1.out, bstep KD.out.2.2 B1.out⟩
      generalize wr.heap.size = s at *
      by_cases htl : tx.toldR (atT k.txs i) = 1
      case neg =>
        have d1 : (tx.toldR (atT k.txs i) == 1) = false := by simp [htl]
        have HE : Hid (tolJ k (i + 1) = tolJ k i) := by unfold Hid; rw [tolJ, if_neg htl]
        clear htl
        generalize (tx.toldR (atT k.txs i) == 1) = tr at *
        subst d1
        go_wp2
        exact ⟨⟨i + 1, by omega, by simp, by rw [HE.out]; exact KR.out.1, by rw [HE.out]; exact KD.out.2.1, KR.out.2⟩, by simp [intOf]; omega⟩
      case pos =>
        have d1 : (tx.toldR (atT k.txs i) == 1) = true := by simp [htl]
        have HE : Hid (rowJ k tv (tolJ k (i + 1)) = rowJ k tv (tolJ k i) ++ [(tv i, atT k.txs i)] ∧ tolJ k (i + 1) ≠ []) := by
          have : tolJ k (i + 1) = tolJ k i ++ [i] := by rw [tolJ, if_pos htl]
          exact ⟨by rw [this, rowJ, List.map_append]; rfl, by rw [this]; simp⟩
        clear htl
        generalize (tx.toldR (atT k.txs i) == 1) = tr at *
        subst d1
        have h0 := XT1.out.1 0 _ rfl
        have h1 := XT1.out.1 1 _ rfl
        have h2 := XT1.out.1 2 _ rfl
        have h3 := XT1.out.1 3 _ rfl
        have h4 := XT1.out.1 4 _ rfl
        have h5 := XT1.out.1 5 _ rfl
        have h6 := XT1.out.1 6 _ rfl
        obtain ⟨Z, hZ⟩ : ∃ Y, Y = W1.alloc (.cells #[.int .i64 (atT k.txs i).id, .int .i64 (atT k.txs i).home, .int .i64 (atT k.txs i).phase, .int .i64 (atT k.txs i).count, .slice (tv i).ar (atT k.txs i).reads.length (tv i).cr, .slice (tv i).ah (atT k.txs i).sets.length (tv i).ch, .int .i64 (atT k.txs i).stamp] 55) := ⟨_, rfl⟩
        have bZ : Below W1.heap.size W1 Z := by rw [hZ]; exact (Below.refl _ _).alloc (Nat.le_refl _) _
        have xz : Bx Z W1.heap.size [.int .i64 (atT k.txs i).id, .int .i64 (atT k.txs i).home, .int .i64 (atT k.txs i).phase, .int .i64 (atT k.txs i).count, .slice (tv i).ar (atT k.txs i).reads.length (tv i).cr, .slice (tv i).ah (atT k.txs i).sets.length (tv i).ch, .int .i64 (atT k.txs i).stamp] := by rw [hZ]; exact Bx.made W1 [.int .i64 (atT k.txs i).id, .int .i64 (atT k.txs i).home, .int .i64 (atT k.txs i).phase, .int .i64 (atT k.txs i).count, .slice (tv i).ar (atT k.txs i).reads.length (tv i).cr, .slice (tv i).ah (atT k.txs i).sets.length (tv i).ch, .int .i64 (atT k.txs i).stamp] _
        obtain ⟨p2, e2, Z2, run2, row2, gr2⟩ := pushXs (KR.out.1.later bZ) [(tv i, atT k.txs i)] (by rw [rowJ_len]; have := tolJ_len k i; simp only [List.length_cons, List.length_nil]; omega) 32 (some ⟨W1.heap.size, 0, none⟩) 1 (.inr ⟨W1.heap.size, 0, rfl, fun z x hx t u hu => by
          have hz : z = 0 := by have := (List.getElem?_eq_some_iff.1 hx).1; simp at this; exact this
          subst hz
          cases hx
          have := xz.1 t u hu
          rw [show 0 + 0 * 7 + t = t by omega]
          exact this⟩) (by have := KR.out.2.size; have := bZ.size; omega)
        have KE : Hid (RowX Z2 U.heap.size (.slice p2 (rowJ k tv (tolJ k i) ++ [(tv i, atT k.txs i)]).length e2) (rowJ k tv (tolJ k (i + 1))) ∧ Below U.heap.size U Z2) := by
          refine ⟨by rw [HE.out.1]; exact row2, ?_⟩
          exact (bstep KR.out.2 bZ).grown gr2 (bstep KR.out.2 bZ).size (fun z e => ((KR.out.1.later bZ).lt e).1)
        rw [hZ] at run2
        generalize (rowJ k tv (tolJ k i) ++ [(tv i, atT k.txs i)]).length = nl at *
        clear row2 gr2 bZ xz hZ
        go_wp2_with (at_builtin; refine append_known _ rfl (.tmp 15) (.tmp 17) 32 rfl _ _ _ _ rfl rfl run2 ?_)
        exact ⟨⟨i + 1, by omega, by simp, KE.out.1, fun h => absurd h HE.out.2, KE.out.2⟩, by simp [intOf]; omega⟩
    · obtain rfl : i = k.txs.length := by omega
      have hd : decide ((k.txs.length : Int) < (k.txs.length : Int)) = false := by simp
      have HO : Hid (rowJ k tv (ordJ k k.txs.length) = ordX k tv k.txs.length) := rfl
      obtain ⟨xs, hxs⟩ : ∃ xs, ordX k tv k.txs.length = xs := ⟨_, rfl⟩
      by_cases hnl : tolJ k k.txs.length = []
      · have hu := KD.out.2.1 hnl
        subst hu
        have hx0 : xs = [] := by
          have h1 := srt_ord k k.txs.length
          rw [hnl] at h1
          rw [← hxs, ordX, ← h1]
          rfl
        have HX0 : Hid (ordX k tv k.txs.length = []) := hxs.trans hx0
        have KE : Hid (Below w.heap.size w wr) := bstep BU.out KD.out.2.2
        have hso := sortedN_any wr
        clear hxs hx0 hnl
        go_wp2_with fail
        refine hso.mono ?_
        clear hso
        rintro e W1 ⟨rfl, rfl⟩
        go_wp2
        go_ret
        exact ⟨none, 0, by rw [HX0.out]; rfl, .inl HX0.out, KE.out⟩
      · obtain ⟨va, vc, rfl, -, hf⟩ := KD.out.1.form
        rcases hf with hf | ⟨b, rfl, hbb, hbw, hat⟩
        · exact absurd (by simpa [rowJ] using hf) hnl
        have hso := sortedBy_any wr b vc k tv _ HK.out rfl hbw hat hnl
        rw [HO.out] at hso
        have KE : Hid (Below w.heap.size w wr) := bstep BU.out KD.out.2.2
        rw [rowJ_len]
        have HXE := hidOf hxs
        rw [hxs] at hso
        clear hxs hnl hat
        generalize (tolJ k k.txs.length).length = ln at *
        go_wp2_with fail
        refine hso.mono ?_
        clear hso
        rintro e W1 ⟨q, cc, rfl, hrw, b1⟩
        have KF : Hid (RwX W1 w.heap.size q xs ∧ Below w.heap.size w W1) := ⟨hrw.up KE.out.size, bstep KE.out b1⟩
        clear hrw b1
        go_wp2
        go_ret
        exact ⟨some ⟨q, 0, none⟩, cc, by rw [HXE.out]; rfl, .inr ⟨q, rfl, by rw [HXE.out]; exact KF.out.1⟩, KF.out.2⟩
theorem Rep.low {W : World} {base base' b n : Nat} {g : Nat → Nat} {css : List (List C2)} (h : Rep W base b n g css) (hb : base' ≤ base) : Rep W base' b n g css :=
  ⟨Nat.le_trans hb h.lo, h.hi, h.rm, h.le, fun r xs hx => by
    obtain ⟨h1, h2, h3, h4, h5, h6, h7⟩ := h.cs r xs hx
    exact ⟨h1, Nat.le_trans hb h2, h3, h4, h5, h6, h7⟩⟩
theorem fold_len (ss : List S5) : ∀ css : List (List C2), (ss.foldl insA css).length = css.length := by
  induction ss with
  | nil => intro css; rfl
  | cons s ss ih => intro css; rw [List.foldl_cons, ih, insA_len]
theorem clu_nam {k : C6} (hk : clusterB k = true) {j : Nat} (hj : j < k.txs.length) : NamB (atT k.txs j) k.places.length := by
  have hB := (clu_up hk).2.1 j hj
  refine ⟨fun m hm => ?_, fun m hm => ?_⟩
  · have h1 := clu_readP hk hj hm
    have h2 := tx.noOk_in ((tx.txB_no hB).1 m hm)
    rw [inB_iff, inB_iff] at h2
    omega
  · have h1 := clu_setP hk hj hm
    have h2 := set_in hB hm
    omega
def RplR (w : World) (k : C6) (e : Ending) (w' : World) : Prop := ((serB k = false ∧ e = .returned (.tuple #[.slice none 0 0, .bool false])) ∨ (serB k = true ∧ ∃ b g, e = .returned (.tuple #[.slice (some ⟨b, 0, none⟩) k.places.length k.places.length, .bool true]) ∧ Rep w' w.heap.size b k.places.length g (rep0 k).1)) ∧ Below w.heap.size w w'
set_option maxRecDepth 100000 in
set_option maxHeartbeats 16000000 in
theorem replayed_any (w : World) (a1 : Option Addr) (c1 : Nat) (a2 : Option Addr) (c2 : Nat) (a3 : Option Addr) (c3 : Nat) (k : C6) (hl : KCl.L k) (h : KCl.Rd w a1 c1 a2 c2 a3 c3 k) : Calls Tryz.prog 42 #[.agg #[.int .i64 k.config, .int .i64 k.clock, .slice a1 k.places.length c1, .slice a2 k.machines.length c2, .slice a3 k.txs.length c3, .bool k.lost]] w (RplR w k) := by
  obtain ⟨U, hU⟩ : ∃ Y, Y = w.alloc (.cells #[.int .i64 k.config, .int .i64 k.clock, .slice a1 k.places.length c1, .slice a2 k.machines.length c2, .slice a3 k.txs.length c3, .bool k.lost] 34) := ⟨_, rfl⟩
  have bU : Below w.heap.size w U := by rw [hU]; exact (Below.refl _ _).alloc (Nat.le_refl _) _
  have xU : Bx U w.heap.size [.int .i64 k.config, .int .i64 k.clock, .slice a1 k.places.length c1, .slice a2 k.machines.length c2, .slice a3 k.txs.length c3, .bool k.lost] := by rw [hU]; exact Bx.made w [.int .i64 k.config, .int .i64 k.clock, .slice a1 k.places.length c1, .slice a2 k.machines.length c2, .slice a3 k.txs.length c3, .bool k.lost] _
  have sU : U.heap.size = w.heap.size + 1 := by rw [hU]; simp
  have FA : Hid (Bx U w.heap.size [.int .i64 k.config, .int .i64 k.clock, .slice a1 k.places.length c1, .slice a2 k.machines.length c2, .slice a3 k.txs.length c3, .bool k.lost]) := xU
  have BU := hidOf bU
  have HR : Hid (KCl.Rd U a1 c1 a2 c2 a3 c3 k ∧ KCl.L k) := ⟨h.later BU.out, hl⟩
  have hc := implClusterOk_any U a1 c1 a2 c2 a3 c3 k hl HR.out.1
  clear h hl bU xU sU
  go_enter Tryz.func42, Tryz.ntmps42
  go_wp2_with fail
  rw [← hU]
  clear hU
  refine hc.mono ?_
  clear hc
  rintro e W1 ⟨rfl, b1⟩
  have B1 : Hid (Below U.heap.size U W1) := b1
  clear b1
  cases hk : clusterB k with
  | false =>
    have HO : Hid (serB k = false) := by unfold Hid serB; rw [hk]; rfl
    clear hk
    go_wp2
    exact bodyPost_ret (v := .tuple #[.slice none 0 0, .bool false]) (by simp [results, Tryz.results42, go_sem]) rfl ⟨.inl ⟨HO.out, rfl⟩, bstep BU.out B1.out⟩
  | true =>
  have HK := hidOf hk
  have HV : Hid (serB k = (rep0 k).2) := by unfold Hid serB; rw [hk]; rfl
  have hp6 := (CSm.of hk).p
  have hn60 := (CSm.of hk).t
  obtain ⟨tv, htv⟩ := txs_at (HR.out.1.later B1.out).t
  have HTV := hidOf htv
  have hnr := newReplay_any W1 k.places.length hp6
  have p2 := (FA.out.later B1.out).1 2 _ rfl
  clear hk htv
  go_wp2_with fail
  refine hnr.mono ?_
  clear hnr p2
  rintro e W2 ⟨b, g, rfl, hrep, b2⟩
  have B2 : Hid (Below W1.heap.size W1 W2) := b2
  have R2 : Hid (Rep W2 W1.heap.size b k.places.length g (List.replicate k.places.length zeros)) := hrep
  have ho := ordered_any W2 a1 c1 a2 c2 a3 c3 k tv HK.out HR.out.2 (HTV.out.imp id (fun ⟨tb, tq, e, htb, hat, hsl⟩ => ⟨tb, tq, e, Nat.lt_of_lt_of_le htb b2.size, hat.below b2 htb, fun j hj => (hsl j hj).later b2⟩))
  have p0 := ((FA.out.later B1.out).later B2.out).1 0 _ rfl
  have p1 := ((FA.out.later B1.out).later B2.out).1 1 _ rfl
  have p2 := ((FA.out.later B1.out).later B2.out).1 2 _ rfl
  have p3 := ((FA.out.later B1.out).later B2.out).1 3 _ rfl
  have p4 := ((FA.out.later B1.out).later B2.out).1 4 _ rfl
  have p5 := ((FA.out.later B1.out).later B2.out).1 5 _ rfl
  clear hrep b2
  go_wp2_with fail
  refine ho.mono ?_
  clear ho p0 p1 p2 p3 p4 p5
  rintro e W3 ⟨ra, rc, rfl, hrx, b3⟩
  have hjl : (ordJ k k.txs.length).length ≤ 60 := Nat.le_trans (ordJ_len k _) hn60
  have HJ : Hid (∀ j ∈ ordJ k k.txs.length, j < k.txs.length) := ordJ_lt k _
  have HX : Hid (ordX k tv k.txs.length = [] ∨ ∃ b, ra = some ⟨b, 0, none⟩ ∧ RwX W3 W2.heap.size b (ordX k tv k.txs.length)) := hrx
  have HXE : Hid (ordX k tv k.txs.length = rowJ k tv (ordJ k k.txs.length)) := rfl
  have R3 : Hid (Rep W3 W1.heap.size b k.places.length g (List.replicate k.places.length zeros) ∧ Below W1.heap.size W1 W3 ∧ b < W2.heap.size) := ⟨R2.out.later b3, bstep B2.out b3, R2.out.hi⟩
  have HE : Hid (repl k (List.replicate k.places.length zeros) (ordJ k k.txs.length) = rep0 k) := rfl
  clear hrx b3
  rw [ordX_len]
  rw [HXE.out] at HX
  generalize ordJ k k.txs.length = js at *
  generalize hnp : k.places.length = np at *
  have HNP := hidOf hnp
  clear hnp HXE
  go_wp2
  go_loopw [17] (fun v17 wr => ∃ (m : Nat) (g' : Nat → Nat) (css : List (List C2)), m ≤ js.length ∧ v17 = .int .i64 m ∧ Rep wr W1.heap.size b np g' css ∧ css.length = np ∧ repl k css (js.drop m) = rep0 k ∧ Turned b W3 wr) (fun v17 _ => js.length - (intOf v17).toNat)
  case atStart => exact ⟨0, g, _, Nat.zero_le _, rfl, R3.out.1, by simp, by rw [List.drop_zero]; exact HE.out, Turned.refl _ _⟩
  case round =>
    obtain ⟨m, g', css, hm, rfl, hrep, hcl, hrp, htn⟩ := hrel
    have BW : Hid (Below W1.heap.size W1 wr) := R3.out.2.1.trans (htn.below hrep.lo R3.out.2.1.size)
    by_cases hlt : m < js.length
    · obtain ⟨j, hj⟩ : ∃ j, js[m]? = some j := ⟨_, List.getElem?_eq_getElem hlt⟩
      have hjn : j < k.txs.length := HJ.out j (List.mem_of_getElem? hj)
      obtain ⟨x, hx⟩ : ∃ x : tx.TV × tx.T7, x = (tv j, atT k.txs j) := ⟨_, rfl⟩
      have hx1 : x.1 = tv j := by rw [hx]
      have hx2 : x.2 = atT k.txs j := by rw [hx]
      rcases HX.out with h0 | ⟨rb, rfl, hrw⟩
      · rw [rowJ, List.map_eq_nil_iff] at h0; rw [h0] at hlt; simp at hlt
      have hat := hrw.1 m x (by rw [hx]; exact rowJ_at hj)
      have hne : rb ≠ b := by have := hrw.2.2.1; have := R3.out.2.2; omega
      have g0 : wr.cell? ⟨rb, m * 7, none⟩ = some (.int .i64 (x.2).id) := by have := hat 0 _ rfl; rw [Nat.zero_add] at this; exact (htn.cell (p := ⟨rb, m * 7, none⟩) hrw.2.2.2 hne).trans this
      have g1 : wr.cell? ⟨rb, m * 7 + 1, none⟩ = some (.int .i64 (x.2).home) := by have := hat 1 _ rfl; rw [Nat.zero_add] at this; exact (htn.cell (p := ⟨rb, m * 7 + 1, none⟩) hrw.2.2.2 hne).trans this
      have g2 : wr.cell? ⟨rb, m * 7 + 2, none⟩ = some (.int .i64 (x.2).phase) := by have := hat 2 _ rfl; rw [Nat.zero_add] at this; exact (htn.cell (p := ⟨rb, m * 7 + 2, none⟩) hrw.2.2.2 hne).trans this
      have g3 : wr.cell? ⟨rb, m * 7 + 3, none⟩ = some (.int .i64 (x.2).count) := by have := hat 3 _ rfl; rw [Nat.zero_add] at this; exact (htn.cell (p := ⟨rb, m * 7 + 3, none⟩) hrw.2.2.2 hne).trans this
      have g4 : wr.cell? ⟨rb, m * 7 + 4, none⟩ = some (.slice (x.1).ar (x.2).reads.length (x.1).cr) := by have := hat 4 _ rfl; rw [Nat.zero_add] at this; exact (htn.cell (p := ⟨rb, m * 7 + 4, none⟩) hrw.2.2.2 hne).trans this
      have g5 : wr.cell? ⟨rb, m * 7 + 5, none⟩ = some (.slice (x.1).ah (x.2).sets.length (x.1).ch) := by have := hat 5 _ rfl; rw [Nat.zero_add] at this; exact (htn.cell (p := ⟨rb, m * 7 + 5, none⟩) hrw.2.2.2 hne).trans this
      have g6 : wr.cell? ⟨rb, m * 7 + 6, none⟩ = some (.int .i64 (x.2).stamp) := by have := hat 6 _ rfl; rw [Nat.zero_add] at this; exact (htn.cell (p := ⟨rb, m * 7 + 6, none⟩) hrw.2.2.2 hne).trans this
      have hsl : tx.SlT W1 x.1 x.2 := by
        rcases HTV.out with h0 | ⟨tb, tq, _, _, _, hsl⟩
        · rw [h0] at hjn; simp at hjn
        · rw [hx1, hx2]; exact hsl j hjn
      have hTL : tx.TL x.2 := by rw [hx2]; exact HR.out.2.ts _ (List.mem_of_getElem? (atT_of hjn))
      have hNM : NamB x.2 css.length := by rw [hx2, hcl, ← HNP.out]; exact clu_nam HK.out hjn
      have hTB : tx.txB x.2 = true := by rw [hx2]; exact (clu_up HK.out).2.1 j hjn
      have hdr : js.drop m = j :: js.drop (m + 1) := by
        have := List.drop_eq_getElem_cons hlt
        rw [List.getElem?_eq_getElem hlt] at hj
        rw [this, Option.some.inj hj]
      have hrp2 : (if (x.2.reads.all (rdOk css) && x.2.sets.all (stOk css)) = true then repl k (x.2.sets.foldl insA css) (js.drop (m + 1)) else (css, false)) = rep0 k := by
        rw [← hrp, hdr, repl, hx2]
      have HP := hidOf hrp2
      have KX : Hid (tx.SlT W1 x.1 x.2 ∧ tx.TL x.2 ∧ NamB x.2 css.length ∧ tx.txB x.2 = true) := ⟨hsl, hTL, hNM, hTB⟩
      obtain ⟨X, hX⟩ : ∃ Y, Y = wr.alloc (.cells #[.int .i64 (x.2).id, .int .i64 (x.2).home, .int .i64 (x.2).phase, .int .i64 (x.2).count, .slice (x.1).ar (x.2).reads.length (x.1).cr, .slice (x.1).ah (x.2).sets.length (x.1).ch, .int .i64 (x.2).stamp] 55) := ⟨_, rfl⟩
      have bX : Below wr.heap.size wr X := by rw [hX]; exact (Below.refl _ _).alloc (Nat.le_refl _) _
      have xX : Bx X wr.heap.size [.int .i64 (x.2).id, .int .i64 (x.2).home, .int .i64 (x.2).phase, .int .i64 (x.2).count, .slice (x.1).ar (x.2).reads.length (x.1).cr, .slice (x.1).ah (x.2).sets.length (x.1).ch, .int .i64 (x.2).stamp] := by rw [hX]; exact Bx.made wr [.int .i64 (x.2).id, .int .i64 (x.2).home, .int .i64 (x.2).phase, .int .i64 (x.2).count, .slice (x.1).ar (x.2).reads.length (x.1).cr, .slice (x.1).ah (x.2).sets.length (x.1).ch, .int .i64 (x.2).stamp] _
      have sX : X.heap.size = wr.heap.size + 1 := by rw [hX]; simp
      have HS : Hid (X.heap.size = wr.heap.size + 1) := sX
      have KR : Hid (Rep wr W1.heap.size b np g' css ∧ css.length = np ∧ Turned b W3 wr) := ⟨hrep, hcl, htn⟩
      have XT : Hid (Bx X wr.heap.size [.int .i64 (x.2).id, .int .i64 (x.2).home, .int .i64 (x.2).phase, .int .i64 (x.2).count, .slice (x.1).ar (x.2).reads.length (x.1).cr, .slice (x.1).ah (x.2).sets.length (x.1).ch, .int .i64 (x.2).stamp]) := xX
      have BX := hidOf bX
      have cF := fits_any X W1.heap.size b np g' css (hrep.later bX) x.1 x.2 hTL (hsl.later (bstep BW.out bX)) hNM
      have mx : (m : Int) < (js.length : Int) := by omega
      have q0 := xX.1 0 _ rfl
      have q1 := xX.1 1 _ rfl
      have q2 := xX.1 2 _ rfl
      have q3 := xX.1 3 _ rfl
      have q4 := xX.1 4 _ rfl
      have q5 := xX.1 5 _ rfl
      have q6 := xX.1 6 _ rfl
      rw [hX] at q0 q1 q2 q3 q4 q5 q6
      clear hat hrw hne hsl hTL hNM hTB hdr hrp2 hrp hrep hcl htn xX bX sX hx1 hx2 hx hj
      go_wp2_with fail
      rw [← hX]
      clear hX q0 q1 q2 q3 q4 q5 q6 g0 g1 g2 g3 g4 g5 g6
      refine cF.mono ?_
      clear cF
      rintro e W4 ⟨rfl, b4⟩
      have T4 : Hid (Turned b W3 W4) := (KR.out.2.2.of_below BX.out).of_below b4
      have B4 : Hid (Below wr.heap.size wr W4) := bstep BX.out b4
      have XT4 : Hid (Bx W4 wr.heap.size [.int .i64 (x.2).id, .int .i64 (x.2).home, .int .i64 (x.2).phase, .int .i64 (x.2).count, .slice (x.1).ar (x.2).reads.length (x.1).cr, .slice (x.1).ah (x.2).sets.length (x.1).ch, .int .i64 (x.2).stamp]) := XT.out.later b4
      clear b4
      cases hft : (x.2.reads.all (rdOk css) && x.2.sets.all (stOk css)) with
      | false =>
        have HO : Hid (serB k = false) := by unfold Hid; rw [HV.out, ← HP.out, hft]; rfl
        clear hft
        have BE : Hid (Below w.heap.size w W4) := bstep (bstep BU.out B1.out) (bstep BW.out B4.out)
        go_wp2
        exact bodyPost_ret (v := .tuple #[.slice none 0 0, .bool false]) (by simp [results, Tryz.results42, go_sem]) rfl ⟨.inl ⟨HO.out, rfl⟩, BE.out⟩
      | true =>
        have HP2 : Hid (repl k (x.2.sets.foldl insA css) (js.drop (m + 1)) = rep0 k) := by unfold Hid; rw [← HP.out, if_pos hft]
        clear hft
        have cI := install_any W1 W4 W1.heap.size b np g' css (KR.out.1.later B4.out) x.1 x.2 KX.out.2.1 (bstep BW.out B4.out) (Nat.le_refl _) KX.out.1 KX.out.2.2.1 KX.out.2.2.2
        have q0 := XT4.out.1 0 _ rfl
        have q1 := XT4.out.1 1 _ rfl
        have q2 := XT4.out.1 2 _ rfl
        have q3 := XT4.out.1 3 _ rfl
        have q4 := XT4.out.1 4 _ rfl
        have q5 := XT4.out.1 5 _ rfl
        have q6 := XT4.out.1 6 _ rfl
        generalize wr.heap.size = sz at *
        go_wp2_with fail
        refine cI.mono ?_
        clear cI q0 q1 q2 q3 q4 q5 q6
        rintro e W5 ⟨rfl, ⟨g5, hg5⟩, t5⟩
        have KE : Hid (Rep W5 W1.heap.size b np g5 (x.2.sets.foldl insA css) ∧ (x.2.sets.foldl insA css).length = np ∧ Turned b W3 W5) := ⟨hg5, by rw [fold_len]; exact KR.out.2.1, T4.out.trans t5⟩
        clear hg5 t5
        go_wp2
        exact ⟨⟨m + 1, g5, _, by omega, by simp, KE.out.1, KE.out.2.1, HP2.out, KE.out.2.2⟩, by simp [intOf]; omega⟩
    · obtain rfl : m = js.length := by omega
      have hd : decide ((js.length : Int) < (js.length : Int)) = false := by simp
      rw [List.drop_length, repl] at hrp
      have KE : Hid (RplR w k (.returned (.tuple #[.slice (some ⟨b, 0, none⟩) np np, .bool true])) wr) := by
        refine ⟨.inr ⟨by rw [HV.out, ← hrp], b, g', by rw [HNP.out], ?_⟩, bstep (bstep BU.out B1.out) BW.out⟩
        rw [← hrp, HNP.out]
        exact hrep.low (bstep BU.out B1.out).size
      clear hrp hrep hcl htn
      go_wp2
      exact bodyPost_ret (v := .tuple #[.slice (some ⟨b, 0, none⟩) np np, .bool true]) (by simp [results, Tryz.results42, go_sem]) rfl KE.out
end Go.Proofs.YtdmpobegobfpjaaGreat