/- OrN; OrP; RpR; SrI; Opens; OpenCells; OpenMac; YOpenTx; OpenCl; KdClT; KdMm; KdTm; NumHeld; PlsMa; PlsQ; KdClM: joined. -/
import Derived.Test.YtdmpobegobfpjaaGreatRows
import Derived.Test.YtdmpobegobfpjaaGreatJ12ExactSerial
import Derived.WalkKit
import Derived.WalkSpells
import Derived.WalkLawsBesides
import Derived.Below
import Derived.Lib.QuietBelow
import Derived.Lib.SliceRun
import Derived.BigQuiet
import Derived.Deep.CutRange
import Derived.Deep.RegionWith
import Derived.LaidEql
import Derived.RowKitTokens
import Derived.Test.YtdmpobegobfpjaaGreatJ2ExactSerial
import Derived.Test.YtdmpobegobfpjaaGreatJ10ExactSerial
import Derived.Test.YtdmpobegobfpjaaGreatJ9ExactSerial
import Derived.Test.YtdmpobegobfpjaaGreatJ0ExactSerial
import Derived.ProofKit
import Derived.OpenShut
import Derived.Deep.Slices
import Derived.Lib.SmallJoins
import Derived.Test.YtdmpobegobfpjaaGreatJ1ExactSerial
import Derived.Test.YtdmpobegobfpjaaGreatJ5ExactSerial
import Derived.Test.YtdmpobegobfpjaaGreatJ6ExactSerial
import Derived.Test.YtdmpobegobfpjaaGreatJ3ExactSerial
import Derived.Test.YtdmpobegobfpjaaGreatJ4ExactSerial
namespace Go.Proofs.YtdmpobegobfpjaaGreat
open Go.RowKit
open Go.Sort (grow)
set_option maxHeartbeats 2000000 in
theorem cloneX_any (w : World) (b c : Nat) (xs : List (tx.TV × tx.T7)) (hn : xs.length ≤ 60) (hb : b < w.heap.size) (hx : AtX w b 0 xs) (hne : xs ≠ []) :
    Calls Tryz.prog 124 #[.slice (some ⟨b, 0, none⟩) xs.length c] w fun e w' => ∃ q cp, e = .returned (.slice (some ⟨q, 0, none⟩) xs.length cp) ∧ RwX w' w.heap.size q xs ∧ Below w.heap.size w w' := by
  have bA : Below w.heap.size w (w.alloc (.cells #[] 55)) := (Below.refl _ _).alloc (Nat.le_refl _) _
  obtain ⟨p1, e1, Z1, run1, row1, gr1⟩ := pushXs (RowX.made w) xs (by simp; omega) 32 (some ⟨b, 0, none⟩) c (.inr ⟨b, 0, rfl, hx.below bA hb⟩) bA.size
  rw [List.nil_append] at run1 row1
  obtain ⟨q, rfl⟩ : ∃ q, p1 = some ⟨q, 0, none⟩ := by
    obtain ⟨a9, c9, e9, _, h9⟩ := row1.form
    cases e9
    rcases h9 with h9 | ⟨q, e9, _⟩
    · exact absurd h9 hne
    · exact ⟨q, e9⟩
  have HK : Hid (RwX Z1 w.heap.size q xs ∧ Below w.heap.size w Z1) := ⟨row1.rw, bA.grown gr1 bA.size (fun z e => by cases e; exact Nat.le_refl _)⟩
  have heq : (binOp .eql 32 (.slice (some ⟨b, 0, none⟩) xs.length c) (.slice none 0 0)).run Tryz.prog w = .ok (.bool false) w := Go.Lib.run_eql_slice_nil w 32 55 (some ⟨b, 0, none⟩) xs.length c 0 0 Tryz.underlying32
  clear row1 gr1 bA hx hne
  go_enter Tryz.func124, Tryz.ntmps124
  go_wp2_with (at_builtin; refine append_known _ rfl (.tmp 5) (.tmp 6) 32 rfl _ _ _ _ rfl rfl run1 ?_)
  go_ret
  exact ⟨q, e1, rfl, HK.out.1, HK.out.2⟩
theorem cloneN_any (w : World) : Calls Tryz.prog 124 #[.slice none 0 0] w fun e w' => e = .returned (.slice none 0 0) ∧ w' = w := by
  have heq : (binOp .eql 32 (.slice none 0 0) (.slice none 0 0)).run Tryz.prog w = .ok (.bool true) w := Go.Lib.run_eql_slice_nil w 32 55 none 0 0 0 0 Tryz.underlying32
  go_enter Tryz.func124, Tryz.ntmps124
  go_wp2
  go_ret
  exact ⟨rfl, rfl⟩
def rowJ (k : C6) (tv : Nat → tx.TV) (l : List Nat) : List (tx.TV × tx.T7) := l.map fun j => (tv j, atT k.txs j)
theorem rowJ_len (k : C6) (tv : Nat → tx.TV) (l : List Nat) : (rowJ k tv l).length = l.length := by simp [rowJ]
theorem rowJ_at {k : C6} {tv : Nat → tx.TV} {l : List Nat} {i j : Nat} (h : l[i]? = some j) : (rowJ k tv l)[i]? = some (tv j, atT k.txs j) := by rw [rowJ, List.getElem?_map, h]; rfl
theorem rowJ_set (k : C6) (tv : Nat → tx.TV) (l : List Nat) (i j : Nat) : (rowJ k tv l).set i (tv j, atT k.txs j) = rowJ k tv (l.set i j) := by rw [rowJ, rowJ, List.map_set]
set_option maxRecDepth 10000 in
set_option maxHeartbeats 2000000 in
theorem sortedN_any (w : World) : Calls Tryz.prog 70 #[.slice none 0 0, .func (.func 71) #[] #[]] w fun e w' => e = .returned (.slice none 0 0) ∧ w' = w := by
  go_enter Tryz.func70, Tryz.ntmps70
  go_wp2_with fail
  refine (cloneN_any w).mono ?_
  rintro e w1 ⟨rfl, rfl⟩
  go_wp2
  go_loopw [12] (fun v wr => v = .int .i64 0 ∧ wr = w1) (fun _ _ => 0)
  case atStart => exact ⟨rfl, rfl⟩
  case round =>
    obtain ⟨rfl, rfl⟩ := hrel
    go_wp2
    go_ret
    exact ⟨rfl, rfl⟩
def SrtR (w : World) (xs : List (tx.TV × tx.T7)) (e : Ending) (w' : World) : Prop := ∃ q c, e = .returned (.slice (some ⟨q, 0, none⟩) xs.length c) ∧ RwX w' w.heap.size q xs ∧ Below w.heap.size w w'
set_option maxRecDepth 100000 in
set_option maxHeartbeats 16000000 in
theorem sortedBy_any (w : World) (b c : Nat) (k : C6) (tv : Nat → tx.TV) (l : List Nat) (hk : clusterB k = true) (hl : l = tolJ k k.txs.length) (hb : b < w.heap.size) (hx : AtX w b 0 (rowJ k tv l)) (hne : l ≠ []) :
    Calls Tryz.prog 70 #[.slice (some ⟨b, 0, none⟩) l.length c, .func (.func 71) #[] #[]] w (SrtR w (rowJ k tv (ordJ k k.txs.length))) := by
  have hn : l.length ≤ 60 := by rw [hl]; exact Nat.le_trans (tolJ_len k _) (CSm.of hk).t
  have hc := cloneX_any w b c (rowJ k tv l) (by rw [rowJ_len]; exact hn) hb hx (fun e => hne (by simpa [rowJ] using e))
  rw [rowJ_len] at hc
  have HK : Hid (clusterB k = true ∧ l = tolJ k k.txs.length) := ⟨hk, hl⟩
  clear hb hx hne hk hl
  go_enter Tryz.func70, Tryz.ntmps70
  go_wp2_with fail
  refine hc.mono ?_
  clear hc
  rintro e W1 ⟨q, cp, rfl, hrw, b1⟩
  have H1 : Hid (RwX W1 w.heap.size q (rowJ k tv l) ∧ Below w.heap.size w W1) := ⟨hrw, b1⟩
  clear hrw b1
  obtain ⟨n, hnn⟩ : ∃ n, n = l.length := ⟨_, rfl⟩
  rw [← hnn] at hn
  rw [← hnn]
  have HN : Hid (n = l.length) := hnn
  clear hnn
  go_wp2
  go_loopw [12] (fun v wr => ∃ e : Nat, e ≤ n ∧ v = .int .i64 e ∧ RwX wr w.heap.size q (rowJ k tv (bakJ k l e)) ∧ Below w.heap.size w wr) (fun v _ => n - (intOf v).toNat)
  case atStart => exact ⟨0, Nat.zero_le _, rfl, by rw [show bakJ k l 0 = l from rfl]; exact H1.out.1, H1.out.2⟩
  case round =>
    obtain ⟨e, he, rfl, hrw, hbl⟩ := hrel
    by_cases hlt : e < n
    · obtain ⟨f, hf⟩ : ∃ f : Nat → Bool, f = fun q => decide (stpJ k (l[e]?.getD 0) < stpJ k ((srtJ k l e)[q]?.getD 0)) := ⟨_, rfl⟩
      have HF := hidOf hf
      clear hf
      have K0 : Hid (RwX wr w.heap.size q (rowJ k tv (curJ k l e e)) ∧ Below w.heap.size w wr) := ⟨by rw [curJ_start k (by rw [← HN.out]; exact hlt)]; exact hrw, hbl⟩
      clear hrw hbl
      generalize wr = W2 at *
      go_wp2
      go_loopw [7] (fun v wr => ∃ a : Nat, a ≤ e ∧ v = .int .i64 a ∧ RwX wr w.heap.size q (rowJ k tv (curJ k l e a)) ∧ Below w.heap.size w wr ∧ cutK f e = cutK f a) (fun v _ => (intOf v).toNat)
      case atStart => exact ⟨e, Nat.le_refl _, rfl, K0.out.1, K0.out.2, rfl⟩
      case round =>
        obtain ⟨a, ha, rfl, hrw, hbl, hct⟩ := hrel
        have KQ : Hid (RwX wr w.heap.size q (rowJ k tv (curJ k l e a)) ∧ Below w.heap.size w wr ∧ cutK f e = cutK f a) := ⟨hrw, hbl, hct⟩
        clear hrw hbl hct
        rcases a with _ | p
        · have KE : Hid (RwX wr w.heap.size q (rowJ k tv (bakJ k l (e + 1))) ∧ Below w.heap.size w wr) := ⟨by rw [← curJ_end k (a := 0) (by rw [← HF.out, KQ.out.2.2]; rfl)]; exact KQ.out.1, KQ.out.2.1⟩
          have d0 : decide ((0 : Int) < ((0 : Nat) : Int)) = false := by simp
          go_wp2_with fail
          go_quiet (fail)
          go_wp2
          exact ⟨⟨e + 1, by omega, by simp, KE.out.1, below_dn KE.out.2 _⟩, by simp [intOf]; omega⟩
        · obtain ⟨xi, hxi⟩ : ∃ z, z = l[e]?.getD 0 := ⟨_, rfl⟩
          obtain ⟨yi, hyi⟩ : ∃ z, z = (srtJ k l e)[p]?.getD 0 := ⟨_, rfl⟩
          have hX := rowJ_at (k := k) (tv := tv) (curJ_at k (l := l) ha)
          have hY := rowJ_at (k := k) (tv := tv) (curJ_low k (l := l) ha)
          rw [← hxi] at hX
          rw [← hyi] at hY
          have hless : (atT k.txs yi).id < (atT k.txs xi).id := by
            rw [hxi, hyi]
            have := HK.out.2
            subst this
            exact met_less HK.out.1 (Nat.le_refl _) (by rw [← HN.out]; exact hlt) (by omega)
          have hsc := stmC_less hless
          have hfp : f p = decide ((atT k.txs xi).stamp < (atT k.txs yi).stamp) := by rw [HF.out, hxi, hyi]; rfl
          rw [← hfp] at hsc
          have cA : ∀ d os, Calls Tryz.prog 71 #[.agg #[.int .i64 ((atT k.txs xi)).id, .int .i64 ((atT k.txs xi)).home, .int .i64 ((atT k.txs xi)).phase, .int .i64 ((atT k.txs xi)).count, .slice ((tv xi)).ar ((atT k.txs xi)).reads.length ((tv xi)).cr, .slice ((tv xi)).ah ((atT k.txs xi)).sets.length ((tv xi)).ch, .int .i64 ((atT k.txs xi)).stamp], .agg #[.int .i64 ((atT k.txs yi)).id, .int .i64 ((atT k.txs yi)).home, .int .i64 ((atT k.txs yi)).phase, .int .i64 ((atT k.txs yi)).count, .slice ((tv yi)).ar ((atT k.txs yi)).reads.length ((tv yi)).cr, .slice ((tv yi)).ah ((atT k.txs yi)).sets.length ((tv yi)).ch, .int .i64 ((atT k.txs yi)).stamp]] (grow (redrawn wr d) os) fun e w'' => e = .returned (.int .i64 (stmC (atT k.txs xi) (atT k.txs yi))) ∧ ∃ p : Regrown, w'' = grow (redrawn wr p.d) p.os := fun d os => Calls.regrown_of (byStamp_any _ (tv xi) (tv yi) _ _)
          have x0 : wr.cell? ⟨q, (p + 1) * 7, none⟩ = some (.int .i64 ((atT k.txs xi)).id) := by have := KQ.out.1.1 (p + 1) _ hX 0 _ rfl; rwa [Nat.zero_add] at this
          have x1 : wr.cell? ⟨q, (p + 1) * 7 + 1, none⟩ = some (.int .i64 ((atT k.txs xi)).home) := by have := KQ.out.1.1 (p + 1) _ hX 1 _ rfl; rwa [Nat.zero_add] at this
          have x2 : wr.cell? ⟨q, (p + 1) * 7 + 2, none⟩ = some (.int .i64 ((atT k.txs xi)).phase) := by have := KQ.out.1.1 (p + 1) _ hX 2 _ rfl; rwa [Nat.zero_add] at this
          have x3 : wr.cell? ⟨q, (p + 1) * 7 + 3, none⟩ = some (.int .i64 ((atT k.txs xi)).count) := by have := KQ.out.1.1 (p + 1) _ hX 3 _ rfl; rwa [Nat.zero_add] at this
          have x4 : wr.cell? ⟨q, (p + 1) * 7 + 4, none⟩ = some (.slice ((tv xi)).ar ((atT k.txs xi)).reads.length ((tv xi)).cr) := by have := KQ.out.1.1 (p + 1) _ hX 4 _ rfl; rwa [Nat.zero_add] at this
          have x5 : wr.cell? ⟨q, (p + 1) * 7 + 5, none⟩ = some (.slice ((tv xi)).ah ((atT k.txs xi)).sets.length ((tv xi)).ch) := by have := KQ.out.1.1 (p + 1) _ hX 5 _ rfl; rwa [Nat.zero_add] at this
          have x6 : wr.cell? ⟨q, (p + 1) * 7 + 6, none⟩ = some (.int .i64 ((atT k.txs xi)).stamp) := by have := KQ.out.1.1 (p + 1) _ hX 6 _ rfl; rwa [Nat.zero_add] at this
          have y0 : wr.cell? ⟨q, p * 7, none⟩ = some (.int .i64 ((atT k.txs yi)).id) := by have := KQ.out.1.1 p _ hY 0 _ rfl; rwa [Nat.zero_add] at this
          have y1 : wr.cell? ⟨q, p * 7 + 1, none⟩ = some (.int .i64 ((atT k.txs yi)).home) := by have := KQ.out.1.1 p _ hY 1 _ rfl; rwa [Nat.zero_add] at this
          have y2 : wr.cell? ⟨q, p * 7 + 2, none⟩ = some (.int .i64 ((atT k.txs yi)).phase) := by have := KQ.out.1.1 p _ hY 2 _ rfl; rwa [Nat.zero_add] at this
          have y3 : wr.cell? ⟨q, p * 7 + 3, none⟩ = some (.int .i64 ((atT k.txs yi)).count) := by have := KQ.out.1.1 p _ hY 3 _ rfl; rwa [Nat.zero_add] at this
          have y4 : wr.cell? ⟨q, p * 7 + 4, none⟩ = some (.slice ((tv yi)).ar ((atT k.txs yi)).reads.length ((tv yi)).cr) := by have := KQ.out.1.1 p _ hY 4 _ rfl; rwa [Nat.zero_add] at this
          have y5 : wr.cell? ⟨q, p * 7 + 5, none⟩ = some (.slice ((tv yi)).ah ((atT k.txs yi)).sets.length ((tv yi)).ch) := by have := KQ.out.1.1 p _ hY 5 _ rfl; rwa [Nat.zero_add] at this
          have y6 : wr.cell? ⟨q, p * 7 + 6, none⟩ = some (.int .i64 ((atT k.txs yi)).stamp) := by have := KQ.out.1.1 p _ hY 6 _ rfl; rwa [Nat.zero_add] at this
          have HXY : Hid (xi = l[e]?.getD 0 ∧ yi = (srtJ k l e)[p]?.getD 0) := ⟨hxi, hyi⟩
          have d0 : decide ((0 : Int) < ((p + 1 : Nat) : Int)) = true := by simp
          have pn : (p : Int) < (n : Int) := by omega
          have pn1 : (p : Int) + 1 < (n : Int) := by omega
          have lift : ∀ {o : Nat} {u : Value}, wr.cell? ⟨q, o, none⟩ = some u → ∀ d os, (grow (redrawn wr d) os).cell? ⟨q, o, none⟩ = some u := fun {o u} hh d os => ((below_regrown wr d os).cell (p := ⟨q, o, none⟩) KQ.out.1.2.2.2).trans hh
          replace x0 := lift x0
          replace x1 := lift x1
          replace x2 := lift x2
          replace x3 := lift x3
          replace x4 := lift x4
          replace x5 := lift x5
          replace x6 := lift x6
          replace y0 := lift y0
          replace y1 := lift y1
          replace y2 := lift y2
          replace y3 := lift y3
          replace y4 := lift y4
          replace y5 := lift y5
          replace y6 := lift y6
          clear lift
          clear hX hY hless hfp hxi hyi
          generalize stmC (atT k.txs xi) (atT k.txs yi) = sc at *
          cases hfb : f p with
          | false =>
            rw [hfb] at hsc
            have KE : Hid (RwX wr w.heap.size q (rowJ k tv (bakJ k l (e + 1))) ∧ Below w.heap.size w wr) := ⟨by rw [← curJ_end k (a := p + 1) (by rw [← HF.out, KQ.out.2.2, cutK, if_neg (by rw [hfb]; decide)])]; exact KQ.out.1, KQ.out.2.1⟩
            clear hfb
            generalize (atT k.txs xi).id = a0 at *
            generalize (atT k.txs xi).home = a1 at *
            generalize (atT k.txs xi).phase = a2 at *
            generalize (atT k.txs xi).count = a3 at *
            generalize (tv xi).ar = a4 at *
            generalize (atT k.txs xi).reads.length = a4l at *
            generalize (tv xi).cr = a4c at *
            generalize (tv xi).ah = a5 at *
            generalize (atT k.txs xi).sets.length = a5l at *
            generalize (tv xi).ch = a5c at *
            generalize (atT k.txs xi).stamp = a6 at *
            generalize (atT k.txs yi).id = e0 at *
            generalize (atT k.txs yi).home = e1 at *
            generalize (atT k.txs yi).phase = e2 at *
            generalize (atT k.txs yi).count = e3 at *
            generalize (tv yi).ar = e4 at *
            generalize (atT k.txs yi).reads.length = e4l at *
            generalize (tv yi).cr = e4c at *
            generalize (tv yi).ah = e5 at *
            generalize (atT k.txs yi).sets.length = e5l at *
            generalize (tv yi).ch = e5c at *
            generalize (atT k.txs yi).stamp = e6 at *
            go_wp2_with fail
            refine wp_region_quiet_below (by kernel_rfl) (by kernel_rfl) ?_
            repeat (go_big_quiet_step (first | (go_at_call 71; exact cA _ _)))
            refine wpQuiet_nil ?_
            intro _ hw'
            obtain ⟨⟨dq', osq⟩, hw''⟩ := hw'
            subst hw''
            have BQ : Hid (Below wr.heap.size wr (grow (redrawn wr dq') osq)) := below_regrown wr dq' osq
            clear cA
            go_wp2
            exact ⟨⟨e + 1, by omega, by simp, KE.out.1.later BQ.out, bstep KE.out.2 BQ.out⟩, by simp [intOf]; omega⟩
          | true =>
            rw [hfb] at hsc
            have HFB : Hid (cutK f e = cutK f p) := by unfold Hid; rw [KQ.out.2.2, cutK, if_pos hfb]
            clear hfb
            go_wp2_with fail
            refine wp_region_quiet_below (by kernel_rfl) (by kernel_rfl) ?_
            repeat (go_big_quiet_step (first | (go_at_call 71; exact cA _ _)))
            refine wpQuiet_nil ?_
            intro _ hw'
            obtain ⟨⟨dq', osq⟩, hw''⟩ := hw'
            subst hw''
            have BQ : Hid (Below wr.heap.size wr (grow (redrawn wr dq') osq)) := below_regrown wr dq' osq
            clear cA
            generalize grow (redrawn wr dq') osq = V at *
            clear x0 x1 x2 x3 x4 x5 x6 y0 y1 y2 y3 y4 y5 y6
            have hR := KQ.out.1.later BQ.out
            have hX := rowJ_at (k := k) (tv := tv) (curJ_at k (l := l) ha)
            have hY := rowJ_at (k := k) (tv := tv) (curJ_low k (l := l) ha)
            rw [← HXY.out.1] at hX
            rw [← HXY.out.2] at hY
            have hlen : (rowJ k tv (curJ k l e (p + 1))).length = n := by rw [rowJ_len, curJ_len k (by rw [← HN.out]; exact hlt) ha, HN.out]
            have rd : Room V.drew q (n * 7) := by have := hR.2.1; rw [hlen] at this; exact this
            have hS : (fun Z : World => Z.cell? ⟨q, (p + 1) * 7, none⟩ = some (.int .i64 ((atT k.txs xi)).id) ∧ Z.cell? ⟨q, (p + 1) * 7 + 1, none⟩ = some (.int .i64 ((atT k.txs xi)).home) ∧ Z.cell? ⟨q, (p + 1) * 7 + 2, none⟩ = some (.int .i64 ((atT k.txs xi)).phase) ∧ Z.cell? ⟨q, (p + 1) * 7 + 3, none⟩ = some (.int .i64 ((atT k.txs xi)).count) ∧ Z.cell? ⟨q, (p + 1) * 7 + 4, none⟩ = some (.slice ((tv xi)).ar ((atT k.txs xi)).reads.length ((tv xi)).cr) ∧ Z.cell? ⟨q, (p + 1) * 7 + 5, none⟩ = some (.slice ((tv xi)).ah ((atT k.txs xi)).sets.length ((tv xi)).ch) ∧ Z.cell? ⟨q, (p + 1) * 7 + 6, none⟩ = some (.int .i64 ((atT k.txs xi)).stamp) ∧ Z.cell? ⟨q, p * 7, none⟩ = some (.int .i64 ((atT k.txs yi)).id) ∧ Z.cell? ⟨q, p * 7 + 1, none⟩ = some (.int .i64 ((atT k.txs yi)).home) ∧ Z.cell? ⟨q, p * 7 + 2, none⟩ = some (.int .i64 ((atT k.txs yi)).phase) ∧ Z.cell? ⟨q, p * 7 + 3, none⟩ = some (.int .i64 ((atT k.txs yi)).count) ∧ Z.cell? ⟨q, p * 7 + 4, none⟩ = some (.slice ((tv yi)).ar ((atT k.txs yi)).reads.length ((tv yi)).cr) ∧ Z.cell? ⟨q, p * 7 + 5, none⟩ = some (.slice ((tv yi)).ah ((atT k.txs yi)).sets.length ((tv yi)).ch) ∧ Z.cell? ⟨q, p * 7 + 6, none⟩ = some (.int .i64 ((atT k.txs yi)).stamp)) V.drew := ⟨by have := hR.1 (p + 1) _ hX 0 _ rfl; rw [Nat.zero_add] at this; exact this, by have := hR.1 (p + 1) _ hX 1 _ rfl; rw [Nat.zero_add] at this; exact this, by have := hR.1 (p + 1) _ hX 2 _ rfl; rw [Nat.zero_add] at this; exact this, by have := hR.1 (p + 1) _ hX 3 _ rfl; rw [Nat.zero_add] at this; exact this, by have := hR.1 (p + 1) _ hX 4 _ rfl; rw [Nat.zero_add] at this; exact this, by have := hR.1 (p + 1) _ hX 5 _ rfl; rw [Nat.zero_add] at this; exact this, by have := hR.1 (p + 1) _ hX 6 _ rfl; rw [Nat.zero_add] at this; exact this, by have := hR.1 p _ hY 0 _ rfl; rw [Nat.zero_add] at this; exact this, by have := hR.1 p _ hY 1 _ rfl; rw [Nat.zero_add] at this; exact this, by have := hR.1 p _ hY 2 _ rfl; rw [Nat.zero_add] at this; exact this, by have := hR.1 p _ hY 3 _ rfl; rw [Nat.zero_add] at this; exact this, by have := hR.1 p _ hY 4 _ rfl; rw [Nat.zero_add] at this; exact this, by have := hR.1 p _ hY 5 _ rfl; rw [Nat.zero_add] at this; exact this, by have := hR.1 p _ hY 6 _ rfl; rw [Nat.zero_add] at this; exact this⟩
            have HP : Hid (RwX V.drew w.heap.size q (rowJ k tv (curJ k l e (p + 1))) ∧ Below w.heap.size w V.drew) := ⟨hR.later ((Below.refl _ _).drew), (bstep KQ.out.2.1 BQ.out).drew⟩
            have HL := hidOf hlen
            have HY := hidOf hY
            clear hR hX hY hlen
            have hwp : IntKind.i64.wrap (p : Int) = (p : Int) := by rw [IntKind.wrap_i64]; omega
            go_wp2_with fail
            refine wp_region_z (fun z => z == 15 || z == 17) (fun Z : World => Z.cell? ⟨q, (p + 1) * 7, none⟩ = some (.int .i64 ((atT k.txs xi)).id) ∧ Z.cell? ⟨q, (p + 1) * 7 + 1, none⟩ = some (.int .i64 ((atT k.txs xi)).home) ∧ Z.cell? ⟨q, (p + 1) * 7 + 2, none⟩ = some (.int .i64 ((atT k.txs xi)).phase) ∧ Z.cell? ⟨q, (p + 1) * 7 + 3, none⟩ = some (.int .i64 ((atT k.txs xi)).count) ∧ Z.cell? ⟨q, (p + 1) * 7 + 4, none⟩ = some (.slice ((tv xi)).ar ((atT k.txs xi)).reads.length ((tv xi)).cr) ∧ Z.cell? ⟨q, (p + 1) * 7 + 5, none⟩ = some (.slice ((tv xi)).ah ((atT k.txs xi)).sets.length ((tv xi)).ch) ∧ Z.cell? ⟨q, (p + 1) * 7 + 6, none⟩ = some (.int .i64 ((atT k.txs xi)).stamp) ∧ Z.cell? ⟨q, p * 7, none⟩ = some (.int .i64 ((atT k.txs yi)).id) ∧ Z.cell? ⟨q, p * 7 + 1, none⟩ = some (.int .i64 ((atT k.txs yi)).home) ∧ Z.cell? ⟨q, p * 7 + 2, none⟩ = some (.int .i64 ((atT k.txs yi)).phase) ∧ Z.cell? ⟨q, p * 7 + 3, none⟩ = some (.int .i64 ((atT k.txs yi)).count) ∧ Z.cell? ⟨q, p * 7 + 4, none⟩ = some (.slice ((tv yi)).ar ((atT k.txs yi)).reads.length ((tv yi)).cr) ∧ Z.cell? ⟨q, p * 7 + 5, none⟩ = some (.slice ((tv yi)).ah ((atT k.txs yi)).sets.length ((tv yi)).ch) ∧ Z.cell? ⟨q, p * 7 + 6, none⟩ = some (.int .i64 ((atT k.txs yi)).stamp)) (by kernel_rfl) ?_
            generalize V.drew = Wd at *
            refine wpZ_takeP (i := 0) (v := ?_) rfl (by kernel_rfl) (fun _ _ _ h => h) (Or.inl ⟨by rfl, ?_⟩) hS ?_
            rotate_left
            · (intro w _; go_simp; first | done | with_reducible rfl | (rw [if_pos (by omega)]) | (rw [if_pos (by omega)]; go_simp))
            simp only [Act.put]
            refine wpZ_takeP (i := 1) (v := ?_) rfl (by kernel_rfl) (fun _ _ _ h => h) (Or.inl ⟨by rfl, ?_⟩) hS ?_
            rotate_left
            · (intro w _; go_simp; first | done | with_reducible rfl | (rw [if_pos (by omega)]) | (rw [if_pos (by omega)]; go_simp))
            simp only [Act.put]
            refine wpZ_takeP (i := 2) (v := ?_) rfl (by kernel_rfl) (fun _ _ _ h => h) (Or.inl ⟨by rfl, ?_⟩) hS ?_
            rotate_left
            · (intro w _; go_simp; first | done | with_reducible rfl | (rw [if_pos (by omega)]) | (rw [if_pos (by omega)]; go_simp))
            simp only [Act.put]
            refine wpZ_takeP (i := 3) (v := ?_) rfl (by kernel_rfl) (fun _ _ _ h => h) (Or.inl ⟨by rfl, ?_⟩) hS ?_
            rotate_left
            · (intro w _; go_simp; first | done | with_reducible rfl | (rw [if_pos (by omega)]) | (rw [if_pos (by omega)]; go_simp))
            simp only [Act.put]
            refine wpZ_takeP (i := 4) (v := ?_) rfl (by kernel_rfl) (fun _ _ _ h => h) (Or.inl ⟨by rfl, ?_⟩) hS ?_
            rotate_left
            · (intro w _; go_simp; first | done | with_reducible rfl | (rw [if_pos (by omega)]) | (rw [if_pos (by omega)]; go_simp))
            simp only [Act.put]
            refine wpZ_takeP (i := 5) (v := ?_) rfl (by kernel_rfl) (fun _ _ _ h => h) (Or.inl ⟨by rfl, ?_⟩) hS ?_
            rotate_left
            · (intro w _; go_simp; first | done | with_reducible rfl | (rw [if_pos (by omega)]) | (rw [if_pos (by omega)]; go_simp))
            simp only [Act.put]
            refine wpZ_takeP (i := 6) (v := ?_) rfl (by kernel_rfl) (fun _ _ _ h => h) (Or.inl ⟨by rfl, ?_⟩) hS ?_
            rotate_left
            · (intro w _; go_simp; first | done | with_reducible rfl | (rw [if_pos (by omega)]) | (rw [if_pos (by omega)]; go_simp))
            simp only [Act.put]
            refine wpZ_takeP (i := 7) (v := ?_) rfl (by kernel_rfl) (fun _ _ _ h => h) (Or.inl ⟨by rfl, ?_⟩) hS ?_
            rotate_left
            · (intro w _; go_simp; first | done | with_reducible rfl | (rw [if_pos (by omega)]) | (rw [if_pos (by omega)]; go_simp))
            simp only [Act.put]
            refine wpZ_takeP (i := 8) (v := ?_) rfl (by kernel_rfl) (fun _ _ _ h => h) (Or.inl ⟨by rfl, ?_⟩) hS ?_
            rotate_left
            · (intro w _; go_simp; first | done | with_reducible rfl | (rw [if_pos (by omega)]) | (rw [if_pos (by omega)]; go_simp))
            simp only [Act.put]
            refine wpZ_take (i := 9) (v := .agg #[.int .i64 ((atT k.txs yi)).id, .int .i64 ((atT k.txs yi)).home, .int .i64 ((atT k.txs yi)).phase, .int .i64 ((atT k.txs yi)).count, .slice ((tv yi)).ar ((atT k.txs yi)).reads.length ((tv yi)).cr, .slice ((tv yi)).ah ((atT k.txs yi)).sets.length ((tv yi)).ch, .int .i64 ((atT k.txs yi)).stamp]) rfl (by kernel_rfl) (fun _ _ _ h => h) (Or.inl ⟨by rfl, ?_⟩) hS ?_
            · (intro w hSw; obtain ⟨-, -, -, -, -, -, -, s7, s8, s9, s10, s11, s12, s13⟩ := hSw; clear hS rd HP; go_simp)
            simp only [Act.put]
            refine wpZ_takeP (i := 10) (v := ?_) rfl (by kernel_rfl) (fun _ _ _ h => h) (Or.inl ⟨by rfl, ?_⟩) hS ?_
            rotate_left
            · (intro w _; go_simp; first | done | with_reducible rfl | (rw [if_pos (by omega)]) | (rw [if_pos (by omega)]; go_simp))
            simp only [Act.put]
            refine wpZ_takeP (i := 11) (v := ?_) rfl (by kernel_rfl) (fun _ _ _ h => h) (Or.inl ⟨by rfl, ?_⟩) hS ?_
            rotate_left
            · (intro w _; go_simp; first | done | with_reducible rfl | (rw [if_pos (by omega)]) | (rw [if_pos (by omega)]; go_simp))
            simp only [Act.put]
            refine wpZ_takeP (i := 12) (v := ?_) rfl (by kernel_rfl) (fun _ _ _ h => h) (Or.inl ⟨by rfl, ?_⟩) hS ?_
            rotate_left
            · (intro w _; go_simp; first | done | with_reducible rfl | (rw [if_pos (by omega)]) | (rw [if_pos (by omega)]; go_simp))
            simp only [Act.put]
            refine wpZ_take (i := 13) (v := .agg #[.int .i64 ((atT k.txs xi)).id, .int .i64 ((atT k.txs xi)).home, .int .i64 ((atT k.txs xi)).phase, .int .i64 ((atT k.txs xi)).count, .slice ((tv xi)).ar ((atT k.txs xi)).reads.length ((tv xi)).cr, .slice ((tv xi)).ah ((atT k.txs xi)).sets.length ((tv xi)).ch, .int .i64 ((atT k.txs xi)).stamp]) rfl (by kernel_rfl) (fun _ _ _ h => h) (Or.inl ⟨by rfl, ?_⟩) hS ?_
            · (intro w hSw; obtain ⟨s0, s1, s2, s3, s4, s5, s6, -, -, -, -, -, -, -⟩ := hSw; clear hS rd HP; go_simp)
            simp only [Act.put]
            refine wpZ_takeP (i := 14) (v := ?_) rfl (by kernel_rfl) (fun _ _ _ h => h) (Or.inl ⟨by rfl, ?_⟩) hS ?_
            rotate_left
            · (intro w _; go_simp; first | done | with_reducible rfl | (rw [if_pos (by omega)]) | (rw [if_pos (by omega)]; go_simp))
            simp only [Act.put]
            have c0 := hS.1
            have f0 := (rd ((p + 1) * 7) (by omega)).choose_spec.2
            have c1 := hS.2.1
            have f1 := (rd ((p + 1) * 7 + 1) (by omega)).choose_spec.2
            have c2 := hS.2.2.1
            have f2 := (rd ((p + 1) * 7 + 2) (by omega)).choose_spec.2
            have c3 := hS.2.2.2.1
            have f3 := (rd ((p + 1) * 7 + 3) (by omega)).choose_spec.2
            have c4 := hS.2.2.2.2.1
            have f4 := (rd ((p + 1) * 7 + 4) (by omega)).choose_spec.2
            have c5 := hS.2.2.2.2.2.1
            have f5 := (rd ((p + 1) * 7 + 5) (by omega)).choose_spec.2
            have c6 := hS.2.2.2.2.2.2.1
            have f6 := (rd ((p + 1) * 7 + 6) (by omega)).choose_spec.2
            refine wpZ_ready (rs := [15]) (by kernel_rfl) (by simp) ?_
            refine AllZ.cons rfl (fun K hK => ?_) AllZ.nil
            go_simp
            refine hK.out _ _ (fun h => absurd (show false = true from h.symm.trans (by kernel_rfl)) (by decide)) ?_
            clear hK K
            refine wpZ_ready (rs := [16]) (by kernel_rfl) (by simp) ?_
            refine AllZ.cons rfl (fun K hK => ?_) AllZ.nil
            go_simp
            refine hK.out _ _ (fun h => absurd (show false = true from h.symm.trans (by kernel_rfl)) (by decide)) ?_
            clear hK K
            obtain ⟨Wp, hWp⟩ : ∃ Y, Y = putB Wd q ((p + 1) * 7) (cellsT (tv yi, atT k.txs yi)) := ⟨_, rfl⟩
            have R1 := HP.out.1.put (i := p + 1) (by rw [HL.out]; omega) (tv yi, atT k.txs yi)
            rw [← hWp] at R1
            have rd1 : Room Wp q (n * 7) := by have := R1.2.1; rw [List.length_set, HL.out] at this; exact this
            have hWn : Wp = (((((((Wd.setCell ⟨q, (p + 1) * 7, none⟩ (.int .i64 ((atT k.txs yi)).id)).setCell ⟨q, (p + 1) * 7 + 1, none⟩ (.int .i64 ((atT k.txs yi)).home)).setCell ⟨q, (p + 1) * 7 + 2, none⟩ (.int .i64 ((atT k.txs yi)).phase)).setCell ⟨q, (p + 1) * 7 + 3, none⟩ (.int .i64 ((atT k.txs yi)).count)).setCell ⟨q, (p + 1) * 7 + 4, none⟩ (.slice ((tv yi)).ar ((atT k.txs yi)).reads.length ((tv yi)).cr)).setCell ⟨q, (p + 1) * 7 + 5, none⟩ (.slice ((tv yi)).ah ((atT k.txs yi)).sets.length ((tv yi)).ch)).setCell ⟨q, (p + 1) * 7 + 6, none⟩ (.int .i64 ((atT k.txs yi)).stamp)) := hWp
            rw [← hWn]
            have hYs : ((rowJ k tv (curJ k l e (p + 1))).set (p + 1) (tv yi, atT k.txs yi))[p]? = some (tv yi, atT k.txs yi) := by rw [List.getElem?_set_ne (by omega)]; exact HY.out
            have HWp := hidOf hWp
            clear hWn hWp c0 f0 c1 f1 c2 f2 c3 f3 c4 f4 c5 f5 c6 f6
            have g0 : Wp.cell? ⟨q, p * 7, none⟩ = some (.int .i64 ((atT k.txs yi)).id) := by have := R1.1 p _ hYs 0 _ rfl; rw [Nat.zero_add] at this; exact this
            have h0 := (rd1 (p * 7) (by omega)).choose_spec.2
            have g1 : Wp.cell? ⟨q, p * 7 + 1, none⟩ = some (.int .i64 ((atT k.txs yi)).home) := by have := R1.1 p _ hYs 1 _ rfl; rw [Nat.zero_add] at this; exact this
            have h1 := (rd1 (p * 7 + 1) (by omega)).choose_spec.2
            have g2 : Wp.cell? ⟨q, p * 7 + 2, none⟩ = some (.int .i64 ((atT k.txs yi)).phase) := by have := R1.1 p _ hYs 2 _ rfl; rw [Nat.zero_add] at this; exact this
            have h2 := (rd1 (p * 7 + 2) (by omega)).choose_spec.2
            have g3 : Wp.cell? ⟨q, p * 7 + 3, none⟩ = some (.int .i64 ((atT k.txs yi)).count) := by have := R1.1 p _ hYs 3 _ rfl; rw [Nat.zero_add] at this; exact this
            have h3 := (rd1 (p * 7 + 3) (by omega)).choose_spec.2
            have g4 : Wp.cell? ⟨q, p * 7 + 4, none⟩ = some (.slice ((tv yi)).ar ((atT k.txs yi)).reads.length ((tv yi)).cr) := by have := R1.1 p _ hYs 4 _ rfl; rw [Nat.zero_add] at this; exact this
            have h4 := (rd1 (p * 7 + 4) (by omega)).choose_spec.2
            have g5 : Wp.cell? ⟨q, p * 7 + 5, none⟩ = some (.slice ((tv yi)).ah ((atT k.txs yi)).sets.length ((tv yi)).ch) := by have := R1.1 p _ hYs 5 _ rfl; rw [Nat.zero_add] at this; exact this
            have h5 := (rd1 (p * 7 + 5) (by omega)).choose_spec.2
            have g6 : Wp.cell? ⟨q, p * 7 + 6, none⟩ = some (.int .i64 ((atT k.txs yi)).stamp) := by have := R1.1 p _ hYs 6 _ rfl; rw [Nat.zero_add] at this; exact this
            have h6 := (rd1 (p * 7 + 6) (by omega)).choose_spec.2
            refine wpZ_ready (rs := [17]) (by kernel_rfl) (by simp) ?_
            refine AllZ.cons rfl (fun K hK => ?_) AllZ.nil
            go_simp
            refine hK.out _ _ (fun h => absurd (show false = true from h.symm.trans (by kernel_rfl)) (by decide)) ?_
            clear hK K
            refine wpZ_done (by kernel_rfl) ?_ _
            obtain ⟨Wq, hWq⟩ : ∃ Y, Y = putB Wp q (p * 7) (cellsT (tv xi, atT k.txs xi)) := ⟨_, rfl⟩
            have R2 := R1.put (i := p) (by rw [List.length_set, HL.out]; omega) (tv xi, atT k.txs xi)
            rw [← hWq, rowJ_set, rowJ_set, HXY.out.1, HXY.out.2, curJ_swap k ha] at R2
            have KE : Hid (RwX Wq w.heap.size q (rowJ k tv (curJ k l e p)) ∧ Below w.heap.size w Wq) := ⟨R2, by rw [hWq, HWp.out]; exact putB_below R1.2.2.1 _ _ _ (putB_below R1.2.2.1 _ _ _ HP.out.2)⟩
            have hWn2 : Wq = (((((((Wp.setCell ⟨q, p * 7, none⟩ (.int .i64 ((atT k.txs xi)).id)).setCell ⟨q, p * 7 + 1, none⟩ (.int .i64 ((atT k.txs xi)).home)).setCell ⟨q, p * 7 + 2, none⟩ (.int .i64 ((atT k.txs xi)).phase)).setCell ⟨q, p * 7 + 3, none⟩ (.int .i64 ((atT k.txs xi)).count)).setCell ⟨q, p * 7 + 4, none⟩ (.slice ((tv xi)).ar ((atT k.txs xi)).reads.length ((tv xi)).cr)).setCell ⟨q, p * 7 + 5, none⟩ (.slice ((tv xi)).ah ((atT k.txs xi)).sets.length ((tv xi)).ch)).setCell ⟨q, p * 7 + 6, none⟩ (.int .i64 ((atT k.txs xi)).stamp)) := hWq
            rw [← hWn2]
            clear hWn2 hWq R1 R2 rd1 rd hS hYs g0 h0 g1 h1 g2 h2 g3 h3 g4 h4 g5 h5 g6 h6
            go_wp2
            exact ⟨⟨p, by omega, by simp, KE.out.1, KE.out.2, HFB.out⟩, by simp [intOf]⟩
    · obtain rfl : e = n := by omega
      have hd : decide ((e : Int) < (e : Int)) = false := by simp
      have KE : Hid (SrtR w (rowJ k tv (ordJ k k.txs.length)) (.returned (.slice (some ⟨q, 0, none⟩) e cp)) wr) := by
        have h1 : bakJ k l e = ordJ k k.txs.length := by rw [bakJ, HN.out, List.drop_length, List.append_nil, HK.out.2]; exact srt_ord k _
        rw [h1] at hrw
        refine ⟨q, cp, ?_, hrw, hbl⟩
        rw [rowJ_len, ← srt_ord k, srtJ_len, ← HK.out.2, HN.out]
      clear hrw hbl
      go_wp2
      go_ret
      exact KE.out
set_option maxHeartbeats 2000000 in
theorem toldC_any (w : World) (v : tx.TV) (t : tx.T7) (hl : tx.TL t) (hs : tx.SlT w v t) : Calls Tryz.prog 69 #[.agg #[.int .i64 (t).id, .int .i64 (t).home, .int .i64 (t).phase, .int .i64 (t).count, .slice (v).ar (t).reads.length (v).cr, .slice (v).ah (t).sets.length (v).ch, .int .i64 (t).stamp]] w fun e w' => e = .returned (.bool (tx.toldR t == 1)) ∧ Below w.heap.size w w' := by
  obtain ⟨U, hU⟩ : ∃ Y, Y = w.alloc (.cells #[.int .i64 (t).id, .int .i64 (t).home, .int .i64 (t).phase, .int .i64 (t).count, .slice (v).ar (t).reads.length (v).cr, .slice (v).ah (t).sets.length (v).ch, .int .i64 (t).stamp] 55) := ⟨_, rfl⟩
  have bU : Below w.heap.size w U := by rw [hU]; exact (Below.refl _ _).alloc (Nat.le_refl _) _
  have XT : Bx U w.heap.size [.int .i64 (t).id, .int .i64 (t).home, .int .i64 (t).phase, .int .i64 (t).count, .slice (v).ar (t).reads.length (v).cr, .slice (v).ah (t).sets.length (v).ch, .int .i64 (t).stamp] := by rw [hU]; exact Bx.made w [.int .i64 (t).id, .int .i64 (t).home, .int .i64 (t).phase, .int .i64 (t).count, .slice (v).ar (t).reads.length (v).cr, .slice (v).ah (t).sets.length (v).ch, .int .i64 (t).stamp] _
  have htd := tx.implTold_any U v t hl (hs.later bU)
  simp only [tx.TV.val] at htd
  have p0 := XT.1 0 _ rfl
  have p1 := XT.1 1 _ rfl
  have p2 := XT.1 2 _ rfl
  have p3 := XT.1 3 _ rfl
  have p4 := XT.1 4 _ rfl
  have p5 := XT.1 5 _ rfl
  have p6 := XT.1 6 _ rfl
  rw [hU] at p0 p1 p2 p3 p4 p5 p6
  have BU := hidOf bU
  clear XT bU hl hs
  go_enter Tryz.func69, Tryz.ntmps69
  go_wp2_with fail
  rw [← hU]
  clear hU p0 p1 p2 p3 p4 p5 p6
  refine htd.mono ?_
  clear htd
  rintro e W1 ⟨rfl, b1⟩
  go_wp2
  go_ret
  exact ⟨rfl, bstep BU.out b1⟩
def OrdR (w : World) (xs : List (tx.TV × tx.T7)) (e : Ending) (w' : World) : Prop := ∃ a c, e = .returned (.slice a xs.length c) ∧ (xs = [] ∨ ∃ b, a = some ⟨b, 0, none⟩ ∧ RwX w' w.heap.size b xs) ∧ Below w.heap.size w w'
theorem RwX.up {W : World} {base base' b : Nat} {xs : List (tx.TV × tx.T7)} (h : RwX W base' b xs) (hb : base ≤ base') : RwX W base b xs := ⟨h.1, h.2.1, Nat.le_trans hb h.2.2.1, h.2.2.2⟩
set_option maxRecDepth 100000 in
set_option maxHeartbeats 16000000 in
theorem ordered_any (w : World) (a1 : Option Addr) (c1 : Nat) (a2 : Option Addr) (c2 : Nat) (a3 : Option Addr) (c3 : Nat) (k : C6) (tv : Nat → tx.TV) (hk : clusterB k = true) (hl : KCl.L k) (ht : k.txs = [] ∨ ∃ b off, a3 = some ⟨b, off, none⟩ ∧ b < w.heap.size ∧ AtX w b off ((List.range k.txs.length).map fun j => (tv j, atT k.txs j)) ∧ ∀ j, j < k.txs.length → tx.SlT w (tv j) (atT k.txs j)) :
    Calls Tryz.prog 34 #[.agg #[.int .i64 k.config, .int .i64 k.clock, .slice a1 k.places.length c1, .slice a2 k.machines.length c2, .slice a3 k.txs.length c3, .bool k.lost]] w (OrdR w (ordX k tv k.txs.length)) := by
  have hn := (CSm.of hk).t
  obtain ⟨U, hU⟩ : ∃ Y, Y = w.alloc (.cells #[.int .i64 k.config, .int .i64 k.clock, .slice a1 k.places.length c1, .slice a2 k.machines.length c2, .slice a3 k.txs.length c3, .bool k.lost] 34) := ⟨_, rfl⟩
  have bU : Below w.heap.size w U := by rw [hU]; exact (Below.refl _ _).alloc (Nat.le_refl _) _
  have FA : Hid (Bx U w.heap.size [.int .i64 k.config, .int .i64 k.clock, .slice a1 k.places.length c1, .slice a2 k.machines.length c2, .slice a3 k.txs.length c3, .bool k.lost]) := by unfold Hid; rw [hU]; exact Bx.made w [.int .i64 k.config, .int .i64 k.clock, .slice a1 k.places.length c1, .slice a2 k.machines.length c2, .slice a3 k.txs.length c3, .bool k.lost] _
  have sU : U.heap.size = w.heap.size + 1 := by rw [hU]; simp
  have BU := hidOf bU
  have SU := hidOf sU
  have HT := hidOf ht
  have HK := hidOf hk
  have HTS : Hid (∀ t ∈ k.txs, tx.TL t) := hl.ts
  have p4 := FA.out.1 4 _ rfl
  rw [hU] at p4
  clear bU sU ht hl hk
  go_enter Tryz.func34, Tryz.ntmps34
  go_wp2
  rw [← hU]
  clear hU p4
  go_loopw [3, 9] (fun v3 v9 wr => ∃ i : Nat, i ≤ k.txs.length ∧ v9 = .int .i64 i ∧ RowX wr U.heap.size v3 (rowJ k tv (tolJ k i)) ∧ (tolJ k i = [] → v3 = .slice none 0 0) ∧ Below U.heap.size U wr) (fun _ v9 _ => k.txs.length - (intOf v9).toNat)
  case atStart => exact ⟨0, Nat.zero_le _, rfl, RowX.nil _ _, fun _ => rfl, Below.refl _ _⟩
  case round =>
    obtain ⟨i, hi, rfl, hrow, hnil, hbl⟩ := hrel
    have KD : Hid (RowX wr U.heap.size u3 (rowJ k tv (tolJ k i)) ∧ (tolJ k i = [] → u3 = .slice none 0 0) ∧ Below U.heap.size U wr) := ⟨hrow, hnil, hbl⟩
    clear hrow hnil hbl
    by_cases hlt : i < k.txs.length
    · rcases HT.out with e0 | ⟨tb, tq, rfl, htb, hat, hsl⟩
      · rw [e0] at hlt; simp at hlt
      have bwr : Below w.heap.size w wr := bstep BU.out KD.out.2.2
      have hx := hat i (tv i, atT k.txs i) (by rw [List.getElem?_map, List.getElem?_range hlt]; rfl)
      have g0 : wr.cell? ⟨tb, tq + i * 7, none⟩ = some (.int .i64 (atT k.txs i).id) := (bwr.cell (p := ⟨tb, tq + i * 7, none⟩) htb).trans (hx 0 _ rfl)
      have g1 : wr.cell? ⟨tb, tq + i * 7 + 1, none⟩ = some (.int .i64 (atT k.txs i).home) := (bwr.cell (p := ⟨tb, tq + i * 7 + 1, none⟩) htb).trans (hx 1 _ rfl)
      have g2 : wr.cell? ⟨tb, tq + i * 7 + 2, none⟩ = some (.int .i64 (atT k.txs i).phase) := (bwr.cell (p := ⟨tb, tq + i * 7 + 2, none⟩) htb).trans (hx 2 _ rfl)
      have g3 : wr.cell? ⟨tb, tq + i * 7 + 3, none⟩ = some (.int .i64 (atT k.txs i).count) := (bwr.cell (p := ⟨tb, tq + i * 7 + 3, none⟩) htb).trans (hx 3 _ rfl)
      have g4 : wr.cell? ⟨tb, tq + i * 7 + 4, none⟩ = some (.slice (tv i).ar (atT k.txs i).reads.length (tv i).cr) := (bwr.cell (p := ⟨tb, tq + i * 7 + 4, none⟩) htb).trans (hx 4 _ rfl)
      have g5 : wr.cell? ⟨tb, tq + i * 7 + 5, none⟩ = some (.slice (tv i).ah (atT k.txs i).sets.length (tv i).ch) := (bwr.cell (p := ⟨tb, tq + i * 7 + 5, none⟩) htb).trans (hx 5 _ rfl)
      have g6 : wr.cell? ⟨tb, tq + i * 7 + 6, none⟩ = some (.int .i64 (atT k.txs i).stamp) := (bwr.cell (p := ⟨tb, tq + i * 7 + 6, none⟩) htb).trans (hx 6 _ rfl)
      obtain ⟨X, hX⟩ : ∃ Y, Y = wr.alloc (.cells #[.int .i64 (atT k.txs i).id, .int .i64 (atT k.txs i).home, .int .i64 (atT k.txs i).phase, .int .i64 (atT k.txs i).count, .slice (tv i).ar (atT k.txs i).reads.length (tv i).cr, .slice (tv i).ah (atT k.txs i).sets.length (tv i).ch, .int .i64 (atT k.txs i).stamp] 55) := ⟨_, rfl⟩
      have bX : Below wr.heap.size wr X := by rw [hX]; exact (Below.refl _ _).alloc (Nat.le_refl _) _
      have XT : Hid (Bx X wr.heap.size [.int .i64 (atT k.txs i).id, .int .i64 (atT k.txs i).home, .int .i64 (atT k.txs i).phase, .int .i64 (atT k.txs i).count, .slice (tv i).ar (atT k.txs i).reads.length (tv i).cr, .slice (tv i).ah (atT k.txs i).sets.length (tv i).ch, .int .i64 (atT k.txs i).stamp]) := by unfold Hid; rw [hX]; exact Bx.made wr [.int .i64 (atT k.txs i).id, .int .i64 (atT k.txs i).home, .int .i64 (atT k.txs i).phase, .int .i64 (atT k.txs i).count, .slice (tv i).ar (atT k.txs i).reads.length (tv i).cr, .slice (tv i).ah (atT k.txs i).sets.length (tv i).ch, .int .i64 (atT k.txs i).stamp] _
      have BX := hidOf bX
      have htd := toldC_any X (tv i) (atT k.txs i) (HTS.out _ (List.mem_of_getElem? (atT_of hlt))) ((hsl i hlt).later (bstep bwr bX))
      have jn : (i : Int) < (k.txs.length : Int) := by omega
      clear hx hat hsl bX bwr htb
      go_wp2_with fail
      rw [← hX]
      clear hX g0 g1 g2 g3 g4 g5 g6
      refine htd.mono ?_
      clear htd
      rintro e W1 ⟨rfl, b1⟩
      have B1 : Hid (Below wr.heap.size wr W1) := bstep BX.out b1
      have XT1 : Hid (Bx W1 wr.heap.size [.int .i64 (atT k.txs i).id, .int .i64 (atT k.txs i).home, .int .i64 (atT k.txs i).phase, .int .i64 (atT k.txs i).count, .slice (tv i).ar (atT k.txs i).reads.length (tv i).cr, .slice (tv i).ah (atT k.txs i).sets.length (tv i).ch, .int .i64 (atT k.txs i).stamp]) := XT.out.later b1
      clear b1 XT BX
      have KR : Hid (RowX W1 U.heap.size u3 (rowJ k tv (tolJ k i)) ∧ Below U.heap.size U W1) := ⟨KD.out.1.later B1.out, bstep KD.out.2.2 B1.out⟩
      generalize wr.heap.size = s at *
      by_cases htl : tx.toldR (atT k.txs i) = 1
      case neg =>
        have d1 : (tx.toldR (atT k.txs i) == 1) = false := by simp [htl]
        have HE : Hid (tolJ k (i + 1) = tolJ k i) := by unfold Hid; rw [tolJ, if_neg htl]
        clear htl
        generalize (tx.toldR (atT k.txs i) == 1) = tr at *
        subst d1
        go_wp2
        exact ⟨⟨i + 1, by omega, by simp, by rw [HE.out]; exact KR.out.1, by rw [HE.out]; exact KD.out.2.1, KR.out.2⟩, by simp [intOf]; omega⟩
      case pos =>
        have d1 : (tx.toldR (atT k.txs i) == 1) = true := by simp [htl]
        have HE : Hid (rowJ k tv (tolJ k (i + 1)) = rowJ k tv (tolJ k i) ++ [(tv i, atT k.txs i)] ∧ tolJ k (i + 1) ≠ []) := by
          have : tolJ k (i + 1) = tolJ k i ++ [i] := by rw [tolJ, if_pos htl]
          exact ⟨by rw [this, rowJ, List.map_append]; rfl, by rw [this]; simp⟩
        clear htl
        generalize (tx.toldR (atT k.txs i) == 1) = tr at *
        subst d1
        have h0 := XT1.out.1 0 _ rfl
        have h1 := XT1.out.1 1 _ rfl
        have h2 := XT1.out.1 2 _ rfl
        have h3 := XT1.out.1 3 _ rfl
        have h4 := XT1.out.1 4 _ rfl
        have h5 := XT1.out.1 5 _ rfl
        have h6 := XT1.out.1 6 _ rfl
        obtain ⟨Z, hZ⟩ : ∃ Y, Y = W1.alloc (.cells #[.int .i64 (atT k.txs i).id, .int .i64 (atT k.txs i).home, .int .i64 (atT k.txs i).phase, .int .i64 (atT k.txs i).count, .slice (tv i).ar (atT k.txs i).reads.length (tv i).cr, .slice (tv i).ah (atT k.txs i).sets.length (tv i).ch, .int .i64 (atT k.txs i).stamp] 55) := ⟨_, rfl⟩
        have bZ : Below W1.heap.size W1 Z := by rw [hZ]; exact (Below.refl _ _).alloc (Nat.le_refl _) _
        have xz : Bx Z W1.heap.size [.int .i64 (atT k.txs i).id, .int .i64 (atT k.txs i).home, .int .i64 (atT k.txs i).phase, .int .i64 (atT k.txs i).count, .slice (tv i).ar (atT k.txs i).reads.length (tv i).cr, .slice (tv i).ah (atT k.txs i).sets.length (tv i).ch, .int .i64 (atT k.txs i).stamp] := by rw [hZ]; exact Bx.made W1 [.int .i64 (atT k.txs i).id, .int .i64 (atT k.txs i).home, .int .i64 (atT k.txs i).phase, .int .i64 (atT k.txs i).count, .slice (tv i).ar (atT k.txs i).reads.length (tv i).cr, .slice (tv i).ah (atT k.txs i).sets.length (tv i).ch, .int .i64 (atT k.txs i).stamp] _
        obtain ⟨p2, e2, Z2, run2, row2, gr2⟩ := pushXs (KR.out.1.later bZ) [(tv i, atT k.txs i)] (by rw [rowJ_len]; have := tolJ_len k i; simp only [List.length_cons, List.length_nil]; omega) 32 (some ⟨W1.heap.size, 0, none⟩) 1 (.inr ⟨W1.heap.size, 0, rfl, fun z x hx t u hu => by
          have hz : z = 0 := by have := (List.getElem?_eq_some_iff.1 hx).1; simp at this; exact this
          subst hz
          cases hx
          have := xz.1 t u hu
          rw [show 0 + 0 * 7 + t = t by omega]
          exact this⟩) (by have := KR.out.2.size; have := bZ.size; omega)
        have KE : Hid (RowX Z2 U.heap.size (.slice p2 (rowJ k tv (tolJ k i) ++ [(tv i, atT k.txs i)]).length e2) (rowJ k tv (tolJ k (i + 1))) ∧ Below U.heap.size U Z2) := by
          refine ⟨by rw [HE.out.1]; exact row2, ?_⟩
          exact (bstep KR.out.2 bZ).grown gr2 (bstep KR.out.2 bZ).size (fun z e => ((KR.out.1.later bZ).lt e).1)
        rw [hZ] at run2
        generalize (rowJ k tv (tolJ k i) ++ [(tv i, atT k.txs i)]).length = nl at *
        clear row2 gr2 bZ xz hZ
        go_wp2_with (at_builtin; refine append_known _ rfl (.tmp 15) (.tmp 17) 32 rfl _ _ _ _ rfl rfl run2 ?_)
        exact ⟨⟨i + 1, by omega, by simp, KE.out.1, fun h => absurd h HE.out.2, KE.out.2⟩, by simp [intOf]; omega⟩
    · obtain rfl : i = k.txs.length := by omega
      have hd : decide ((k.txs.length : Int) < (k.txs.length : Int)) = false := by simp
      have HO : Hid (rowJ k tv (ordJ k k.txs.length) = ordX k tv k.txs.length) := rfl
      obtain ⟨xs, hxs⟩ : ∃ xs, ordX k tv k.txs.length = xs := ⟨_, rfl⟩
      by_cases hnl : tolJ k k.txs.length = []
      · have hu := KD.out.2.1 hnl
        subst hu
        have hx0 : xs = [] := by
          have h1 := srt_ord k k.txs.length
          rw [hnl] at h1
          rw [← hxs, ordX, ← h1]
          rfl
        have HX0 : Hid (ordX k tv k.txs.length = []) := hxs.trans hx0
        have KE : Hid (Below w.heap.size w wr) := bstep BU.out KD.out.2.2
        have hso := sortedN_any wr
        clear hxs hx0 hnl
        go_wp2_with fail
        refine hso.mono ?_
        clear hso
        rintro e W1 ⟨rfl, rfl⟩
        go_wp2
        go_ret
        exact ⟨none, 0, by rw [HX0.out]; rfl, .inl HX0.out, KE.out⟩
      · obtain ⟨va, vc, rfl, -, hf⟩ := KD.out.1.form
        rcases hf with hf | ⟨b, rfl, hbb, hbw, hat⟩
        · exact absurd (by simpa [rowJ] using hf) hnl
        have hso := sortedBy_any wr b vc k tv _ HK.out rfl hbw hat hnl
        rw [HO.out] at hso
        have KE : Hid (Below w.heap.size w wr) := bstep BU.out KD.out.2.2
        rw [rowJ_len]
        have HXE := hidOf hxs
        rw [hxs] at hso
        clear hxs hnl hat
        generalize (tolJ k k.txs.length).length = ln at *
        go_wp2_with fail
        refine hso.mono ?_
        clear hso
        rintro e W1 ⟨q, cc, rfl, hrw, b1⟩
        have KF : Hid (RwX W1 w.heap.size q xs ∧ Below w.heap.size w W1) := ⟨hrw.up KE.out.size, bstep KE.out b1⟩
        clear hrw b1
        go_wp2
        go_ret
        exact ⟨some ⟨q, 0, none⟩, cc, by rw [HXE.out]; rfl, .inr ⟨q, rfl, by rw [HXE.out]; exact KF.out.1⟩, KF.out.2⟩
theorem Rep.low {W : World} {base base' b n : Nat} {g : Nat → Nat} {css : List (List C2)} (h : Rep W base b n g css) (hb : base' ≤ base) : Rep W base' b n g css :=
  ⟨Nat.le_trans hb h.lo, h.hi, h.rm, h.le, fun r xs hx => by
    obtain ⟨h1, h2, h3, h4, h5, h6, h7⟩ := h.cs r xs hx
    exact ⟨h1, Nat.le_trans hb h2, h3, h4, h5, h6, h7⟩⟩
theorem fold_len (ss : List S5) : ∀ css : List (List C2), (ss.foldl insA css).length = css.length := by
  induction ss with
  | nil => intro css; rfl
  | cons s ss ih => intro css; rw [List.foldl_cons, ih, insA_len]
theorem clu_nam {k : C6} (hk : clusterB k = true) {j : Nat} (hj : j < k.txs.length) : NamB (atT k.txs j) k.places.length := by
  have hB := (clu_up hk).2.1 j hj
  refine ⟨fun m hm => ?_, fun m hm => ?_⟩
  · have h1 := clu_readP hk hj hm
    have h2 := tx.noOk_in ((tx.txB_no hB).1 m hm)
    rw [inB_iff, inB_iff] at h2
    omega
  · have h1 := clu_setP hk hj hm
    have h2 := set_in hB hm
    omega
def RplR (w : World) (k : C6) (e : Ending) (w' : World) : Prop := ((serB k = false ∧ e = .returned (.tuple #[.slice none 0 0, .bool false])) ∨ (serB k = true ∧ ∃ b g, e = .returned (.tuple #[.slice (some ⟨b, 0, none⟩) k.places.length k.places.length, .bool true]) ∧ Rep w' w.heap.size b k.places.length g (rep0 k).1)) ∧ Below w.heap.size w w'
set_option maxRecDepth 100000 in
set_option maxHeartbeats 16000000 in
theorem replayed_any (w : World) (a1 : Option Addr) (c1 : Nat) (a2 : Option Addr) (c2 : Nat) (a3 : Option Addr) (c3 : Nat) (k : C6) (hl : KCl.L k) (h : KCl.Rd w a1 c1 a2 c2 a3 c3 k) : Calls Tryz.prog 42 #[.agg #[.int .i64 k.config, .int .i64 k.clock, .slice a1 k.places.length c1, .slice a2 k.machines.length c2, .slice a3 k.txs.length c3, .bool k.lost]] w (RplR w k) := by
  obtain ⟨U, hU⟩ : ∃ Y, Y = w.alloc (.cells #[.int .i64 k.config, .int .i64 k.clock, .slice a1 k.places.length c1, .slice a2 k.machines.length c2, .slice a3 k.txs.length c3, .bool k.lost] 34) := ⟨_, rfl⟩
  have bU : Below w.heap.size w U := by rw [hU]; exact (Below.refl _ _).alloc (Nat.le_refl _) _
  have xU : Bx U w.heap.size [.int .i64 k.config, .int .i64 k.clock, .slice a1 k.places.length c1, .slice a2 k.machines.length c2, .slice a3 k.txs.length c3, .bool k.lost] := by rw [hU]; exact Bx.made w [.int .i64 k.config, .int .i64 k.clock, .slice a1 k.places.length c1, .slice a2 k.machines.length c2, .slice a3 k.txs.length c3, .bool k.lost] _
  have sU : U.heap.size = w.heap.size + 1 := by rw [hU]; simp
  have FA : Hid (Bx U w.heap.size [.int .i64 k.config, .int .i64 k.clock, .slice a1 k.places.length c1, .slice a2 k.machines.length c2, .slice a3 k.txs.length c3, .bool k.lost]) := xU
  have BU := hidOf bU
  have HR : Hid (KCl.Rd U a1 c1 a2 c2 a3 c3 k ∧ KCl.L k) := ⟨h.later BU.out, hl⟩
  have hc := implClusterOk_any U a1 c1 a2 c2 a3 c3 k hl HR.out.1
  clear h hl bU xU sU
  go_enter Tryz.func42, Tryz.ntmps42
  go_wp2_with fail
  rw [← hU]
  clear hU
  refine hc.mono ?_
  clear hc
  rintro e W1 ⟨rfl, b1⟩
  have B1 : Hid (Below U.heap.size U W1) := b1
  clear b1
  cases hk : clusterB k with
  | false =>
    have HO : Hid (serB k = false) := by unfold Hid serB; rw [hk]; rfl
    clear hk
    go_wp2
    exact bodyPost_ret (v := .tuple #[.slice none 0 0, .bool false]) (by simp [results, Tryz.results42, go_sem]) rfl ⟨.inl ⟨HO.out, rfl⟩, bstep BU.out B1.out⟩
  | true =>
  have HK := hidOf hk
  have HV : Hid (serB k = (rep0 k).2) := by unfold Hid serB; rw [hk]; rfl
  have hp6 := (CSm.of hk).p
  have hn60 := (CSm.of hk).t
  obtain ⟨tv, htv⟩ := txs_at (HR.out.1.later B1.out).t
  have HTV := hidOf htv
  have hnr := newReplay_any W1 k.places.length hp6
  have p2 := (FA.out.later B1.out).1 2 _ rfl
  clear hk htv
  go_wp2_with fail
  refine hnr.mono ?_
  clear hnr p2
  rintro e W2 ⟨b, g, rfl, hrep, b2⟩
  have B2 : Hid (Below W1.heap.size W1 W2) := b2
  have R2 : Hid (Rep W2 W1.heap.size b k.places.length g (List.replicate k.places.length zeros)) := hrep
  have ho := ordered_any W2 a1 c1 a2 c2 a3 c3 k tv HK.out HR.out.2 (HTV.out.imp id (fun ⟨tb, tq, e, htb, hat, hsl⟩ => ⟨tb, tq, e, Nat.lt_of_lt_of_le htb b2.size, hat.below b2 htb, fun j hj => (hsl j hj).later b2⟩))
  have p0 := ((FA.out.later B1.out).later B2.out).1 0 _ rfl
  have p1 := ((FA.out.later B1.out).later B2.out).1 1 _ rfl
  have p2 := ((FA.out.later B1.out).later B2.out).1 2 _ rfl
  have p3 := ((FA.out.later B1.out).later B2.out).1 3 _ rfl
  have p4 := ((FA.out.later B1.out).later B2.out).1 4 _ rfl
  have p5 := ((FA.out.later B1.out).later B2.out).1 5 _ rfl
  clear hrep b2
  go_wp2_with fail
  refine ho.mono ?_
  clear ho p0 p1 p2 p3 p4 p5
  rintro e W3 ⟨ra, rc, rfl, hrx, b3⟩
  have hjl : (ordJ k k.txs.length).length ≤ 60 := Nat.le_trans (ordJ_len k _) hn60
  have HJ : Hid (∀ j ∈ ordJ k k.txs.length, j < k.txs.length) := ordJ_lt k _
  have HX : Hid (ordX k tv k.txs.length = [] ∨ ∃ b, ra = some ⟨b, 0, none⟩ ∧ RwX W3 W2.heap.size b (ordX k tv k.txs.length)) := hrx
  have HXE : Hid (ordX k tv k.txs.length = rowJ k tv (ordJ k k.txs.length)) := rfl
  have R3 : Hid (Rep W3 W1.heap.size b k.places.length g (List.replicate k.places.length zeros) ∧ Below W1.heap.size W1 W3 ∧ b < W2.heap.size) := ⟨R2.out.later b3, bstep B2.out b3, R2.out.hi⟩
  have HE : Hid (repl k (List.replicate k.places.length zeros) (ordJ k k.txs.length) = rep0 k) := rfl
  clear hrx b3
  rw [ordX_len]
  rw [HXE.out] at HX
  generalize ordJ k k.txs.length = js at *
  generalize hnp : k.places.length = np at *
  have HNP := hidOf hnp
  clear hnp HXE
  go_wp2
  go_loopw [17] (fun v17 wr => ∃ (m : Nat) (g' : Nat → Nat) (css : List (List C2)), m ≤ js.length ∧ v17 = .int .i64 m ∧ Rep wr W1.heap.size b np g' css ∧ css.length = np ∧ repl k css (js.drop m) = rep0 k ∧ Turned b W3 wr) (fun v17 _ => js.length - (intOf v17).toNat)
  case atStart => exact ⟨0, g, _, Nat.zero_le _, rfl, R3.out.1, by simp, by rw [List.drop_zero]; exact HE.out, Turned.refl _ _⟩
  case round =>
    obtain ⟨m, g', css, hm, rfl, hrep, hcl, hrp, htn⟩ := hrel
    have BW : Hid (Below W1.heap.size W1 wr) := R3.out.2.1.trans (htn.below hrep.lo R3.out.2.1.size)
    by_cases hlt : m < js.length
    · obtain ⟨j, hj⟩ : ∃ j, js[m]? = some j := ⟨_, List.getElem?_eq_getElem hlt⟩
      have hjn : j < k.txs.length := HJ.out j (List.mem_of_getElem? hj)
      obtain ⟨x, hx⟩ : ∃ x : tx.TV × tx.T7, x = (tv j, atT k.txs j) := ⟨_, rfl⟩
      have hx1 : x.1 = tv j := by rw [hx]
      have hx2 : x.2 = atT k.txs j := by rw [hx]
      rcases HX.out with h0 | ⟨rb, rfl, hrw⟩
      · rw [rowJ, List.map_eq_nil_iff] at h0; rw [h0] at hlt; simp at hlt
      have hat := hrw.1 m x (by rw [hx]; exact rowJ_at hj)
      have hne : rb ≠ b := by have := hrw.2.2.1; have := R3.out.2.2; omega
      have g0 : wr.cell? ⟨rb, m * 7, none⟩ = some (.int .i64 (x.2).id) := by have := hat 0 _ rfl; rw [Nat.zero_add] at this; exact (htn.cell (p := ⟨rb, m * 7, none⟩) hrw.2.2.2 hne).trans this
      have g1 : wr.cell? ⟨rb, m * 7 + 1, none⟩ = some (.int .i64 (x.2).home) := by have := hat 1 _ rfl; rw [Nat.zero_add] at this; exact (htn.cell (p := ⟨rb, m * 7 + 1, none⟩) hrw.2.2.2 hne).trans this
      have g2 : wr.cell? ⟨rb, m * 7 + 2, none⟩ = some (.int .i64 (x.2).phase) := by have := hat 2 _ rfl; rw [Nat.zero_add] at this; exact (htn.cell (p := ⟨rb, m * 7 + 2, none⟩) hrw.2.2.2 hne).trans this
      have g3 : wr.cell? ⟨rb, m * 7 + 3, none⟩ = some (.int .i64 (x.2).count) := by have := hat 3 _ rfl; rw [Nat.zero_add] at this; exact (htn.cell (p := ⟨rb, m * 7 + 3, none⟩) hrw.2.2.2 hne).trans this
      have g4 : wr.cell? ⟨rb, m * 7 + 4, none⟩ = some (.slice (x.1).ar (x.2).reads.length (x.1).cr) := by have := hat 4 _ rfl; rw [Nat.zero_add] at this; exact (htn.cell (p := ⟨rb, m * 7 + 4, none⟩) hrw.2.2.2 hne).trans this
      have g5 : wr.cell? ⟨rb, m * 7 + 5, none⟩ = some (.slice (x.1).ah (x.2).sets.length (x.1).ch) := by have := hat 5 _ rfl; rw [Nat.zero_add] at this; exact (htn.cell (p := ⟨rb, m * 7 + 5, none⟩) hrw.2.2.2 hne).trans this
      have g6 : wr.cell? ⟨rb, m * 7 + 6, none⟩ = some (.int .i64 (x.2).stamp) := by have := hat 6 _ rfl; rw [Nat.zero_add] at this; exact (htn.cell (p := ⟨rb, m * 7 + 6, none⟩) hrw.2.2.2 hne).trans this
      have hsl : tx.SlT W1 x.1 x.2 := by
        rcases HTV.out with h0 | ⟨tb, tq, _, _, _, hsl⟩
        · rw [h0] at hjn; simp at hjn
        · rw [hx1, hx2]; exact hsl j hjn
      have hTL : tx.TL x.2 := by rw [hx2]; exact HR.out.2.ts _ (List.mem_of_getElem? (atT_of hjn))
      have hNM : NamB x.2 css.length := by rw [hx2, hcl, ← HNP.out]; exact clu_nam HK.out hjn
      have hTB : tx.txB x.2 = true := by rw [hx2]; exact (clu_up HK.out).2.1 j hjn
      have hdr : js.drop m = j :: js.drop (m + 1) := by
        have := List.drop_eq_getElem_cons hlt
        rw [List.getElem?_eq_getElem hlt] at hj
        rw [this, Option.some.inj hj]
      have hrp2 : (if (x.2.reads.all (rdOk css) && x.2.sets.all (stOk css)) = true then repl k (x.2.sets.foldl insA css) (js.drop (m + 1)) else (css, false)) = rep0 k := by
        rw [← hrp, hdr, repl, hx2]
      have HP := hidOf hrp2
      have KX : Hid (tx.SlT W1 x.1 x.2 ∧ tx.TL x.2 ∧ NamB x.2 css.length ∧ tx.txB x.2 = true) := ⟨hsl, hTL, hNM, hTB⟩
      obtain ⟨X, hX⟩ : ∃ Y, Y = wr.alloc (.cells #[.int .i64 (x.2).id, .int .i64 (x.2).home, .int .i64 (x.2).phase, .int .i64 (x.2).count, .slice (x.1).ar (x.2).reads.length (x.1).cr, .slice (x.1).ah (x.2).sets.length (x.1).ch, .int .i64 (x.2).stamp] 55) := ⟨_, rfl⟩
      have bX : Below wr.heap.size wr X := by rw [hX]; exact (Below.refl _ _).alloc (Nat.le_refl _) _
      have xX : Bx X wr.heap.size [.int .i64 (x.2).id, .int .i64 (x.2).home, .int .i64 (x.2).phase, .int .i64 (x.2).count, .slice (x.1).ar (x.2).reads.length (x.1).cr, .slice (x.1).ah (x.2).sets.length (x.1).ch, .int .i64 (x.2).stamp] := by rw [hX]; exact Bx.made wr [.int .i64 (x.2).id, .int .i64 (x.2).home, .int .i64 (x.2).phase, .int .i64 (x.2).count, .slice (x.1).ar (x.2).reads.length (x.1).cr, .slice (x.1).ah (x.2).sets.length (x.1).ch, .int .i64 (x.2).stamp] _
      have sX : X.heap.size = wr.heap.size + 1 := by rw [hX]; simp
      have HS : Hid (X.heap.size = wr.heap.size + 1) := sX
      have KR : Hid (Rep wr W1.heap.size b np g' css ∧ css.length = np ∧ Turned b W3 wr) := ⟨hrep, hcl, htn⟩
      have XT : Hid (Bx X wr.heap.size [.int .i64 (x.2).id, .int .i64 (x.2).home, .int .i64 (x.2).phase, .int .i64 (x.2).count, .slice (x.1).ar (x.2).reads.length (x.1).cr, .slice (x.1).ah (x.2).sets.length (x.1).ch, .int .i64 (x.2).stamp]) := xX
      have BX := hidOf bX
      have cF := fits_any X W1.heap.size b np g' css (hrep.later bX) x.1 x.2 hTL (hsl.later (bstep BW.out bX)) hNM
      have mx : (m : Int) < (js.length : Int) := by omega
      have q0 := xX.1 0 _ rfl
      have q1 := xX.1 1 _ rfl
      have q2 := xX.1 2 _ rfl
      have q3 := xX.1 3 _ rfl
      have q4 := xX.1 4 _ rfl
      have q5 := xX.1 5 _ rfl
      have q6 := xX.1 6 _ rfl
      rw [hX] at q0 q1 q2 q3 q4 q5 q6
      clear hat hrw hne hsl hTL hNM hTB hdr hrp2 hrp hrep hcl htn xX bX sX hx1 hx2 hx hj
      go_wp2_with fail
      rw [← hX]
      clear hX q0 q1 q2 q3 q4 q5 q6 g0 g1 g2 g3 g4 g5 g6
      refine cF.mono ?_
      clear cF
      rintro e W4 ⟨rfl, b4⟩
      have T4 : Hid (Turned b W3 W4) := (KR.out.2.2.of_below BX.out).of_below b4
      have B4 : Hid (Below wr.heap.size wr W4) := bstep BX.out b4
      have XT4 : Hid (Bx W4 wr.heap.size [.int .i64 (x.2).id, .int .i64 (x.2).home, .int .i64 (x.2).phase, .int .i64 (x.2).count, .slice (x.1).ar (x.2).reads.length (x.1).cr, .slice (x.1).ah (x.2).sets.length (x.1).ch, .int .i64 (x.2).stamp]) := XT.out.later b4
      clear b4
      cases hft : (x.2.reads.all (rdOk css) && x.2.sets.all (stOk css)) with
      | false =>
        have HO : Hid (serB k = false) := by unfold Hid; rw [HV.out, ← HP.out, hft]; rfl
        clear hft
        have BE : Hid (Below w.heap.size w W4) := bstep (bstep BU.out B1.out) (bstep BW.out B4.out)
        go_wp2
        exact bodyPost_ret (v := .tuple #[.slice none 0 0, .bool false]) (by simp [results, Tryz.results42, go_sem]) rfl ⟨.inl ⟨HO.out, rfl⟩, BE.out⟩
      | true =>
        have HP2 : Hid (repl k (x.2.sets.foldl insA css) (js.drop (m + 1)) = rep0 k) := by unfold Hid; rw [← HP.out, if_pos hft]
        clear hft
        have cI := install_any W1 W4 W1.heap.size b np g' css (KR.out.1.later B4.out) x.1 x.2 KX.out.2.1 (bstep BW.out B4.out) (Nat.le_refl _) KX.out.1 KX.out.2.2.1 KX.out.2.2.2
        have q0 := XT4.out.1 0 _ rfl
        have q1 := XT4.out.1 1 _ rfl
        have q2 := XT4.out.1 2 _ rfl
        have q3 := XT4.out.1 3 _ rfl
        have q4 := XT4.out.1 4 _ rfl
        have q5 := XT4.out.1 5 _ rfl
        have q6 := XT4.out.1 6 _ rfl
        generalize wr.heap.size = sz at *
        go_wp2_with fail
        refine cI.mono ?_
        clear cI q0 q1 q2 q3 q4 q5 q6
        rintro e W5 ⟨rfl, ⟨g5, hg5⟩, t5⟩
        have KE : Hid (Rep W5 W1.heap.size b np g5 (x.2.sets.foldl insA css) ∧ (x.2.sets.foldl insA css).length = np ∧ Turned b W3 W5) := ⟨hg5, by rw [fold_len]; exact KR.out.2.1, T4.out.trans t5⟩
        clear hg5 t5
        go_wp2
        exact ⟨⟨m + 1, g5, _, by omega, by simp, KE.out.1, KE.out.2.1, HP2.out, KE.out.2.2⟩, by simp [intOf]; omega⟩
    · obtain rfl : m = js.length := by omega
      have hd : decide ((js.length : Int) < (js.length : Int)) = false := by simp
      rw [List.drop_length, repl] at hrp
      have KE : Hid (RplR w k (.returned (.tuple #[.slice (some ⟨b, 0, none⟩) np np, .bool true])) wr) := by
        refine ⟨.inr ⟨by rw [HV.out, ← hrp], b, g', by rw [HNP.out], ?_⟩, bstep (bstep BU.out B1.out) BW.out⟩
        rw [← hrp, HNP.out]
        exact hrep.low (bstep BU.out B1.out).size
      clear hrp hrep hcl htn
      go_wp2
      exact bodyPost_ret (v := .tuple #[.slice (some ⟨b, 0, none⟩) np np, .bool true]) (by simp [results, Tryz.results42, go_sem]) rfl KE.out
set_option maxHeartbeats 2000000 in
theorem implSerial_any (w : World) (a1 : Option Addr) (c1 : Nat) (a2 : Option Addr) (c2 : Nat) (a3 : Option Addr) (c3 : Nat) (k : C6) (hl : KCl.L k) (h : KCl.Rd w a1 c1 a2 c2 a3 c3 k) : Calls Tryz.prog 17 #[.agg #[.int .i64 k.config, .int .i64 k.clock, .slice a1 k.places.length c1, .slice a2 k.machines.length c2, .slice a3 k.txs.length c3, .bool k.lost]] w fun e w' => e = .returned (.bool (serB k)) ∧ Below w.heap.size w w' := by
  obtain ⟨U, hU⟩ : ∃ Y, Y = w.alloc (.cells #[.int .i64 k.config, .int .i64 k.clock, .slice a1 k.places.length c1, .slice a2 k.machines.length c2, .slice a3 k.txs.length c3, .bool k.lost] 34) := ⟨_, rfl⟩
  have bU : Below w.heap.size w U := by rw [hU]; exact (Below.refl _ _).alloc (Nat.le_refl _) _
  have xU : Bx U w.heap.size [.int .i64 k.config, .int .i64 k.clock, .slice a1 k.places.length c1, .slice a2 k.machines.length c2, .slice a3 k.txs.length c3, .bool k.lost] := by rw [hU]; exact Bx.made w [.int .i64 k.config, .int .i64 k.clock, .slice a1 k.places.length c1, .slice a2 k.machines.length c2, .slice a3 k.txs.length c3, .bool k.lost] _
  have sU : U.heap.size = w.heap.size + 1 := by rw [hU]; simp
  have BU := hidOf bU
  have hc := replayed_any U a1 c1 a2 c2 a3 c3 k hl (h.later bU)
  obtain ⟨z, hz⟩ : ∃ z, serB k = z := ⟨_, rfl⟩
  have HZ := hidOf hz
  rw [hz]
  clear h hl bU xU sU hz
  go_enter Tryz.func17, Tryz.ntmps17
  go_wp2_with fail
  rw [← hU]
  clear hU
  refine hc.mono ?_
  clear hc
  rintro e W1 ⟨hr, b1⟩
  have B1 : Hid (Below w.heap.size w W1) := bstep BU.out b1
  clear b1
  rcases hr with ⟨hs, rfl⟩ | ⟨hs, b, g, rfl, -⟩
  · obtain rfl : z = false := HZ.out.symm.trans hs
    clear hs
    go_wp2
    go_ret
    exact ⟨rfl, B1.out⟩
  · obtain rfl : z = true := HZ.out.symm.trans hs
    clear hs
    go_wp2
    go_ret
    exact ⟨rfl, B1.out⟩
end Go.Proofs.YtdmpobegobfpjaaGreat
namespace Go.Proofs.YtdmpobegobfpjaaGreat
open Go.ChangeShapes Go.WideShapes Go.ChangeAt Go.RowKit
def S5.cells (s : S5) : List Value := [.int .i64 s.region, .int .i64 s.slot, .int .i64 s.value, .bool s.used, .int .i64 s.version]
def S5.wf (s : S5) : Prop := (Lit.int .i64 s.region).wf = true ∧ (Lit.int .i64 s.slot).wf = true ∧ (Lit.int .i64 s.value).wf = true ∧ (Lit.int .i64 s.version).wf = true
theorem list5 {α : Type} {cs : List α} (h : cs.length = 5) : ∃ c0 c1 c2 c3 c4, cs = [c0, c1, c2, c3, c4] := by
  match cs, h with
  | [c0, c1, c2, c3, c4], _ => exact ⟨c0, c1, c2, c3, c4, rfl⟩
theorem cells_set : Tryz.prog.cellsOf 200 = 5 := by kernel_rfl
theorem cells_int : Tryz.prog.cellsOf 2 = 1 := by kernel_rfl
theorem cells_bool : Tryz.prog.cellsOf 4 = 1 := by kernel_rfl
theorem open_set {H : Type} {enc : TypeId × Value → H} {w : World} {base : Nat} {spare : Nat → Bool} {held : Bool} {fuel : Nat} {cs : List Value} {x : DataW H × List MemPlace}
    (h : DataW.trod enc Tryz.prog w base spare held fuel 200 cs = some x) : ∃ s : S5, cs = s.cells ∧ s.wf := by
  obtain ⟨xs, n, _, rfl, hl, hlen, hf⟩ := DataW.trod_struct Tryz.underlying200 h
  rw [cells_set] at hl
  obtain ⟨c0, c1, c2, c3, c4, rfl⟩ := list5 hl
  obtain ⟨y0, y1, y2, y3, y4, rfl⟩ := list5 hlen
  have h0 := hf 0 _ rfl
  have h1 := hf 1 _ rfl
  have h2 := hf 2 _ rfl
  have h3 := hf 3 _ rfl
  have h4 := hf 4 _ rfl
  simp [cells_int, cells_bool] at h0 h1 h2 h3 h4
  obtain ⟨z0, e0, _, f0⟩ := DataW.trod_int Tryz.underlying2 h0
  obtain ⟨z1, e1, _, f1⟩ := DataW.trod_int Tryz.underlying2 h1
  obtain ⟨z2, e2, _, f2⟩ := DataW.trod_int Tryz.underlying2 h2
  obtain ⟨z3, e3, _⟩ := DataW.trod_bool Tryz.underlying4 h3
  obtain ⟨z4, e4, _, f4⟩ := DataW.trod_int Tryz.underlying2 h4
  simp at e0 e1 e2 e3 e4
  subst e0 e1 e2 e3 e4
  exact ⟨⟨z0, z1, z2, z3, z4⟩, rfl, f0, f1, f2, f4⟩
end Go.Proofs.YtdmpobegobfpjaaGreat
namespace Go.Proofs.YtdmpobegobfpjaaGreat
open Go.ChangeShapes Go.WideShapes Go.ChangeAt Go.RowKit Go.Deep
theorem list2 {α : Type} {cs : List α} (h : cs.length = 2) : ∃ c0 c1, cs = [c0, c1] := by
  match cs, h with
  | [c0, c1], _ => exact ⟨c0, c1, rfl⟩
theorem cells_cell : Tryz.prog.cellsOf 235 = 2 := by kernel_rfl
theorem cells_num : Tryz.prog.cellsOf 2 = 1 := by kernel_rfl
theorem open_cell {H : Type} {enc : TypeId × Value → H} {w : World} {base : Nat} {spare : Nat → Bool} {held : Bool} {fuel : Nat} {cs : List Value} {x : DataW H × List MemPlace}
    (h : DataW.trod enc Tryz.prog w base spare held fuel 235 cs = some x) : ∃ s : C2, cs = s.cells := by
  obtain ⟨xs, n, _, rfl, hl, hlen, hf⟩ := DataW.trod_struct Tryz.underlying235 h
  rw [cells_cell] at hl
  obtain ⟨c0, c1, rfl⟩ := list2 hl
  obtain ⟨y0, y1, rfl⟩ := list2 hlen
  have h0 := hf 0 _ rfl
  have h1 := hf 1 _ rfl
  simp [cells_num] at h0 h1
  obtain ⟨z0, e0, _, _⟩ := DataW.trod_int Tryz.underlying2 h0
  obtain ⟨z1, e1, _, _⟩ := DataW.trod_int Tryz.underlying2 h1
  simp at e0 e1
  subst e0 e1
  exact ⟨⟨z0, z1⟩, rfl⟩
theorem some_of {α : Type} {p : Nat → α → Prop} (n : Nat) (h : ∀ i, i < n → ∃ x, p i x) : ∃ xs : List α, xs.length = n ∧ ∀ i x, xs[i]? = some x → p i x := by
  induction n with
  | zero => exact ⟨[], rfl, fun i x e => by simp at e⟩
  | succ n ih =>
    obtain ⟨xs, hl, hx⟩ := ih fun i hi => h i (by omega)
    obtain ⟨y, hy⟩ := h n (by omega)
    refine ⟨xs ++ [y], by simp [hl], fun i x e => ?_⟩
    by_cases hi : i < xs.length
    · rw [List.getElem?_append_left hi] at e
      exact hx i x e
    · rw [List.getElem?_append_right (by omega)] at e
      have : i = xs.length := by
        by_cases h2 : i - xs.length = 0
        · omega
        · rw [List.getElem?_eq_none (by simp; omega)] at e; cases e
      subst this
      simp at e
      subst e
      rw [hl]; exact hy
end Go.Proofs.YtdmpobegobfpjaaGreat
namespace Go.Proofs.YtdmpobegobfpjaaGreat.om
open Go.ChangeShapes Go.WideShapes Go.ChangeAt Go.RowKit Go.Deep
theorem cells_i : Tryz.prog.cellsOf 2 = 1 := by kernel_rfl
theorem cells_b : Tryz.prog.cellsOf 4 = 1 := by kernel_rfl
theorem cells_ss : Tryz.prog.cellsOf 95 = 1 := by kernel_rfl
theorem cells_cs : Tryz.prog.cellsOf 188 = 1 := by kernel_rfl
theorem cells_rs : Tryz.prog.cellsOf 90 = 1 := by kernel_rfl
theorem cells_ks : Tryz.prog.cellsOf 89 = 1 := by kernel_rfl
theorem cells_is : Tryz.prog.cellsOf 28 = 1 := by kernel_rfl
theorem cells_r : Tryz.prog.cellsOf 193 = 4 := by kernel_rfl
theorem cells_k : Tryz.prog.cellsOf 190 = 2 := by kernel_rfl
theorem cells_m : Tryz.prog.cellsOf 92 = 4 := by kernel_rfl
theorem list4 {α : Type} {cs : List α} (h : cs.length = 4) : ∃ c0 c1 c2 c3, cs = [c0, c1, c2, c3] := by
  match cs, h with
  | [c0, c1, c2, c3], _ => exact ⟨c0, c1, c2, c3, rfl⟩
theorem open_sets {H : Type} {enc : TypeId × Value → H} {w : World} {spare : Nat → Bool} {held : Bool} {fuel : Nat} {cs : List Value} {x : DataW H × List MemPlace}
    (h : DataW.trod enc Tryz.prog w 0 spare held fuel 95 cs = some x) : ∃ a n cap xs, cs = [.slice a n cap] ∧ n ≤ maxLen ∧ n ≤ cap ∧ Sl w w.heap.size a n xs := by
  rcases open_slice Tryz.underlying95 h with ⟨rfl, _⟩ | ⟨a, len, cap, m, n, D, Pl, rfl, _, hl, hm, hmm, _, hx⟩
  · exact ⟨none, 0, 0, [], rfl, Nat.zero_le _, Nat.le_refl _, ⟨rfl, .inl rfl⟩⟩
  · have hlm : len ≤ m := by rw [hmm]; split <;> omega
    have key : ∀ i, i < len → ∃ s : S5, ∀ k, k < 5 → w.cell? ((a.add (i * 5)).add k) = s.cells[k]? := fun i hi => by
      obtain ⟨cs', h1, h2⟩ := hx i (by omega)
      rw [cells_set] at h1
      obtain ⟨s, rfl, _⟩ := open_set h2
      exact ⟨s, (World.cells?_some h1).2.2⟩
    obtain ⟨xs, hlen, hxs⟩ := some_of len key
    refine ⟨some a, len, cap, xs, rfl, by omega, by omega, ⟨hlen, ?_⟩⟩
    · by_cases h0 : len = 0
      · exact .inl h0
      · right
        obtain ⟨b, off, spot⟩ := a
        obtain ⟨s, hs⟩ := key 0 (by omega)
        have c0 : w.cell? ⟨b, off, spot⟩ = some (.int .i64 s.region) := by simpa [Addr.add, S5.cells] using hs 0 (by omega)
        have hspot : spot = none := by simpa using World.cell?_spot c0
        subst hspot
        refine ⟨b, off, rfl, block_lt_of_cell c0, fun i s e => ?_⟩
        have hk := hxs i s e
        simp only [add_plain] at hk
        exact ⟨by simpa [S5.cells] using hk 0 (by omega), by simpa [S5.cells] using hk 1 (by omega), by simpa [S5.cells] using hk 2 (by omega), by simpa [S5.cells] using hk 3 (by omega), by simpa [S5.cells] using hk 4 (by omega)⟩
theorem open_cells {H : Type} {enc : TypeId × Value → H} {w : World} {spare : Nat → Bool} {held : Bool} {fuel : Nat} {cs : List Value} {x : DataW H × List MemPlace}
    (h : DataW.trod enc Tryz.prog w 0 spare held fuel 188 cs = some x) : ∃ a n cap xs, cs = [.slice a n cap] ∧ n ≤ maxLen ∧ n ≤ cap ∧ SlC w w.heap.size a n xs := by
  rcases open_slice Tryz.underlying188 h with ⟨rfl, _⟩ | ⟨a, len, cap, m, n, D, Pl, rfl, _, hl, hm, hmm, _, hx⟩
  · exact ⟨none, 0, 0, [], rfl, Nat.zero_le _, Nat.le_refl _, ⟨rfl, .inl rfl⟩⟩
  · have hlm : len ≤ m := by rw [hmm]; split <;> omega
    have key : ∀ i, i < len → ∃ s : C2, ∀ k, k < 2 → w.cell? ((a.add (i * 2)).add k) = s.cells[k]? := fun i hi => by
      obtain ⟨cs', h1, h2⟩ := hx i (by omega)
      rw [cells_cell] at h1
      obtain ⟨s, rfl⟩ := open_cell h2
      exact ⟨s, (World.cells?_some h1).2.2⟩
    obtain ⟨xs, hlen, hxs⟩ := some_of len key
    refine ⟨some a, len, cap, xs, rfl, by omega, by omega, ⟨hlen, ?_⟩⟩
    · by_cases h0 : len = 0
      · exact .inl h0
      · right
        obtain ⟨b, off, spot⟩ := a
        obtain ⟨s, hs⟩ := key 0 (by omega)
        have c0 : w.cell? ⟨b, off, spot⟩ = some (.int .i64 s.head) := by simpa [Addr.add, C2.cells] using hs 0 (by omega)
        have hspot : spot = none := by simpa using World.cell?_spot c0
        subst hspot
        refine ⟨b, off, rfl, block_lt_of_cell c0, fun i s e => ?_⟩
        have hk := hxs i s e
        simp only [add_plain] at hk
        exact ⟨by simpa [C2.cells] using hk 0 (by omega), by simpa [C2.cells] using hk 1 (by omega)⟩
theorem open_nums {H : Type} {enc : TypeId × Value → H} {w : World} {spare : Nat → Bool} {held : Bool} {fuel : Nat} {cs : List Value} {x : DataW H × List MemPlace}
    (h : DataW.trod enc Tryz.prog w 0 spare held fuel 28 cs = some x) : ∃ a n cap xs, cs = [.slice a n cap] ∧ n ≤ maxLen ∧ n ≤ cap ∧ SlN w w.heap.size a n xs := by
  rcases open_slice Tryz.underlying28 h with ⟨rfl, _⟩ | ⟨a, len, cap, m, n, D, Pl, rfl, _, hl, hm, hmm, _, hx⟩
  · exact ⟨none, 0, 0, [], rfl, Nat.zero_le _, Nat.le_refl _, ⟨rfl, .inl rfl⟩⟩
  · have hlm : len ≤ m := by rw [hmm]; split <;> omega
    have key : ∀ i, i < len → ∃ s : Int, w.cell? (a.add (i * 1)) = some (.int .i64 s) := fun i hi => by
      obtain ⟨cs', h1, h2⟩ := hx i (by omega)
      rw [cells_i] at h1
      obtain ⟨z, e, _⟩ := DataW.trod_int Tryz.underlying2 h2
      subst e
      have := (World.cells?_some h1).2.2 0 (by omega)
      exact ⟨z, by simpa [Addr.add] using this⟩
    obtain ⟨xs, hlen, hxs⟩ := some_of len key
    refine ⟨some a, len, cap, xs, rfl, by omega, by omega, ⟨hlen, ?_⟩⟩
    · by_cases h0 : len = 0
      · exact .inl h0
      · right
        obtain ⟨b, off, spot⟩ := a
        obtain ⟨s, hs⟩ := key 0 (by omega)
        have c0 : w.cell? ⟨b, off, spot⟩ = some (.int .i64 s) := by simpa [Addr.add] using hs
        have hspot : spot = none := by simpa using World.cell?_spot c0
        subst hspot
        refine ⟨b, off, rfl, block_lt_of_cell c0, fun i s e => ?_⟩
        have hk := hxs i s e
        simp only [add_plain] at hk
        simpa using hk
theorem open_rec {H : Type} {enc : TypeId × Value → H} {w : World} {spare : Nat → Bool} {held : Bool} {fuel : Nat} {cs : List Value} {x : DataW H × List MemPlace}
    (h : DataW.trod enc Tryz.prog w 0 spare held fuel 193 cs = some x) : ∃ (r : R4) (a : Option Addr) (cap : Nat), cs = [.int .i64 r.kind, .int .i64 r.tx, .int .i64 r.region, .slice a r.sets.length cap] ∧ Sl w w.heap.size a r.sets.length r.sets ∧ r.sets.length ≤ cap ∧ r.sets.length ≤ maxLen := by
  obtain ⟨xs, n, _, rfl, hl, hlen, hf⟩ := DataW.trod_struct Tryz.underlying193 h
  rw [cells_r] at hl
  obtain ⟨c0, c1, c2, c3, rfl⟩ := list4 hl
  obtain ⟨y0, y1, y2, y3, rfl⟩ := list4 hlen
  have h0 := hf 0 _ rfl
  have h1 := hf 1 _ rfl
  have h2 := hf 2 _ rfl
  have h3 := hf 3 _ rfl
  simp [cells_i, cells_ss] at h0 h1 h2 h3
  obtain ⟨z0, e0, _, _⟩ := DataW.trod_int Tryz.underlying2 h0
  obtain ⟨z1, e1, _, _⟩ := DataW.trod_int Tryz.underlying2 h1
  obtain ⟨z2, e2, _, _⟩ := DataW.trod_int Tryz.underlying2 h2
  obtain ⟨a, m, cap, ss, e3, hm, hc, hs⟩ := open_sets h3
  simp at e0 e1 e2 e3
  subst e0 e1 e2 e3
  obtain ⟨rfl, hs'⟩ := hs
  exact ⟨⟨z0, z1, z2, ss⟩, a, cap, rfl, ⟨rfl, hs'⟩, hc, hm⟩
theorem open_cop {H : Type} {enc : TypeId × Value → H} {w : World} {spare : Nat → Bool} {held : Bool} {fuel : Nat} {cs : List Value} {x : DataW H × List MemPlace}
    (h : DataW.trod enc Tryz.prog w 0 spare held fuel 190 cs = some x) : ∃ (k : K2) (a : Option Addr) (cap : Nat), cs = [.int .i64 k.region, .slice a k.cells.length cap] ∧ SlC w w.heap.size a k.cells.length k.cells ∧ k.cells.length ≤ cap ∧ k.cells.length ≤ maxLen := by
  obtain ⟨xs, n, _, rfl, hl, hlen, hf⟩ := DataW.trod_struct Tryz.underlying190 h
  rw [cells_k] at hl
  obtain ⟨c0, c1, rfl⟩ := list2 hl
  obtain ⟨y0, y1, rfl⟩ := list2 hlen
  have h0 := hf 0 _ rfl
  have h1 := hf 1 _ rfl
  simp [cells_i, cells_cs] at h0 h1
  obtain ⟨z0, e0, _, _⟩ := DataW.trod_int Tryz.underlying2 h0
  obtain ⟨a, m, cap, ss, e3, hm, hc, hs⟩ := open_cells h1
  simp at e0 e3
  subst e0 e3
  obtain ⟨rfl, hs'⟩ := hs
  exact ⟨⟨z0, ss⟩, a, cap, rfl, ⟨rfl, hs'⟩, hc, hm⟩
theorem open_recs {H : Type} {enc : TypeId × Value → H} {w : World} {spare : Nat → Bool} {held : Bool} {fuel : Nat} {cs : List Value} {x : DataW H × List MemPlace}
    (h : DataW.trod enc Tryz.prog w 0 spare held fuel 90 cs = some x) : ∃ a n cap xs, cs = [.slice a n cap] ∧ n ≤ maxLen ∧ n ≤ cap ∧ SlR w w.heap.size a n xs ∧ ∀ s ∈ xs, s.sets.length ≤ maxLen := by
  rcases open_slice Tryz.underlying90 h with ⟨rfl, _⟩ | ⟨a, len, cap, m, n, D, Pl, rfl, _, hl, hm, hmm, _, hx⟩
  · exact ⟨none, 0, 0, [], rfl, Nat.zero_le _, Nat.le_refl _, ⟨rfl, .inl rfl⟩, fun s hs => by cases hs⟩
  · have hlm : len ≤ m := by rw [hmm]; split <;> omega
    have key : ∀ i, i < len → ∃ s : R4, (∃ a' cap', (∀ k, k < 4 → w.cell? ((a.add (i * 4)).add k) = ([.int .i64 s.kind, .int .i64 s.tx, .int .i64 s.region, .slice a' s.sets.length cap'] : List Value)[k]?) ∧ Sl w w.heap.size a' s.sets.length s.sets ∧ s.sets.length ≤ cap') ∧ s.sets.length ≤ maxLen := fun i hi => by
      obtain ⟨cs', h1, h2⟩ := hx i (by omega)
      rw [cells_r] at h1
      obtain ⟨s, a', cap', rfl, t1, t2, t3⟩ := open_rec h2
      exact ⟨s, ⟨a', cap', (World.cells?_some h1).2.2, t1, t2⟩, t3⟩
    obtain ⟨xs, hlen, hxs⟩ := some_of len key
    refine ⟨some a, len, cap, xs, rfl, by omega, by omega, ⟨hlen, ?_⟩, ?_⟩
    · by_cases h0 : len = 0
      · exact .inl h0
      · right
        obtain ⟨b, off, spot⟩ := a
        obtain ⟨s, hs⟩ := key 0 (by omega)
        obtain ⟨⟨a', cap', hs, _⟩, _⟩ := hs
        have c0 := hs 0 (by omega)
        simp [Addr.add] at c0
        have hspot : spot = none := by simpa using World.cell?_spot c0
        subst hspot
        refine ⟨b, off, rfl, block_lt_of_cell c0, fun i s e => ?_⟩
        have hk := hxs i s e
        simp only [add_plain] at hk
        obtain ⟨⟨a', cap', hk, t1, t2⟩, _⟩ := hk
        exact ⟨by simpa using hk 0 (by omega), by simpa using hk 1 (by omega), by simpa using hk 2 (by omega), a', cap', by simpa using hk 3 (by omega), t1, t2⟩
    · intro s hs
      obtain ⟨i, hi, rfl⟩ := List.getElem_of_mem hs
      exact (hxs i _ (List.getElem?_eq_getElem hi)).2
theorem open_cops {H : Type} {enc : TypeId × Value → H} {w : World} {spare : Nat → Bool} {held : Bool} {fuel : Nat} {cs : List Value} {x : DataW H × List MemPlace}
    (h : DataW.trod enc Tryz.prog w 0 spare held fuel 89 cs = some x) : ∃ a n cap xs, cs = [.slice a n cap] ∧ n ≤ maxLen ∧ n ≤ cap ∧ SlK w w.heap.size a n xs ∧ ∀ s ∈ xs, s.cells.length ≤ maxLen := by
  rcases open_slice Tryz.underlying89 h with ⟨rfl, _⟩ | ⟨a, len, cap, m, n, D, Pl, rfl, _, hl, hm, hmm, _, hx⟩
  · exact ⟨none, 0, 0, [], rfl, Nat.zero_le _, Nat.le_refl _, ⟨rfl, .inl rfl⟩, fun s hs => by cases hs⟩
  · have hlm : len ≤ m := by rw [hmm]; split <;> omega
    have key : ∀ i, i < len → ∃ s : K2, (∃ a' cap', (∀ k, k < 2 → w.cell? ((a.add (i * 2)).add k) = ([.int .i64 s.region, .slice a' s.cells.length cap'] : List Value)[k]?) ∧ SlC w w.heap.size a' s.cells.length s.cells ∧ s.cells.length ≤ cap') ∧ s.cells.length ≤ maxLen := fun i hi => by
      obtain ⟨cs', h1, h2⟩ := hx i (by omega)
      rw [cells_k] at h1
      obtain ⟨s, a', cap', rfl, t1, t2, t3⟩ := open_cop h2
      exact ⟨s, ⟨a', cap', (World.cells?_some h1).2.2, t1, t2⟩, t3⟩
    obtain ⟨xs, hlen, hxs⟩ := some_of len key
    refine ⟨some a, len, cap, xs, rfl, by omega, by omega, ⟨hlen, ?_⟩, ?_⟩
    · by_cases h0 : len = 0
      · exact .inl h0
      · right
        obtain ⟨b, off, spot⟩ := a
        obtain ⟨s, hs⟩ := key 0 (by omega)
        obtain ⟨⟨a', cap', hs, _⟩, _⟩ := hs
        have c0 := hs 0 (by omega)
        simp [Addr.add] at c0
        have hspot : spot = none := by simpa using World.cell?_spot c0
        subst hspot
        refine ⟨b, off, rfl, block_lt_of_cell c0, fun i s e => ?_⟩
        have hk := hxs i s e
        simp only [add_plain] at hk
        obtain ⟨⟨a', cap', hk, t1, t2⟩, _⟩ := hk
        exact ⟨by simpa using hk 0 (by omega), a', cap', by simpa using hk 1 (by omega), t1, t2⟩
    · intro s hs
      obtain ⟨i, hi, rfl⟩ := List.getElem_of_mem hs
      exact (hxs i _ (List.getElem?_eq_getElem hi)).2
theorem open_machine {H : Type} {enc : TypeId × Value → H} {w : World} {spare : Nat → Bool} {held : Bool} {fuel : Nat} {cs : List Value} {x : DataW H × List MemPlace}
    (h : DataW.trod enc Tryz.prog w 0 spare held fuel 92 cs = some x) : ∃ (v : MV) (m : M4), cs = [.bool m.alive, .slice v.ac m.copies.length v.cc, .slice v.al m.log.length v.cl, .slice v.ad m.cleared.length v.cd] ∧ SlM w v m ∧ m.copies.length ≤ maxLen ∧ m.log.length ≤ maxLen ∧ m.cleared.length ≤ maxLen ∧ (∀ r ∈ m.copies, r.cells.length ≤ maxLen) ∧ (∀ r ∈ m.log, r.sets.length ≤ maxLen) ∧ m.copies.length ≤ v.cc ∧ m.log.length ≤ v.cl ∧ m.cleared.length ≤ v.cd := by
  obtain ⟨xs, n, _, rfl, hl, hlen, hf⟩ := DataW.trod_struct Tryz.underlying92 h
  rw [cells_m] at hl
  obtain ⟨c0, c1, c2, c3, rfl⟩ := list4 hl
  obtain ⟨y0, y1, y2, y3, rfl⟩ := list4 hlen
  have h0 := hf 0 _ rfl
  have h1 := hf 1 _ rfl
  have h2 := hf 2 _ rfl
  have h3 := hf 3 _ rfl
  simp [cells_b, cells_ks, cells_rs, cells_is] at h0 h1 h2 h3
  obtain ⟨z0, e0, _⟩ := DataW.trod_bool Tryz.underlying4 h0
  obtain ⟨a1, n1, k1, ks, e1, l1, p1, s1, q1⟩ := open_cops h1
  obtain ⟨a2, n2, k2, rs, e2, l2, p2, s2, q2⟩ := open_recs h2
  obtain ⟨a3, n3, k3, zs, e3, l3, p3, s3⟩ := open_nums h3
  simp at e0 e1 e2 e3
  subst e0 e1 e2 e3
  obtain ⟨rfl, s1'⟩ := s1
  obtain ⟨rfl, s2'⟩ := s2
  obtain ⟨rfl, s3'⟩ := s3
  exact ⟨⟨a1, k1, a2, k2, a3, k3⟩, ⟨z0, ks, rs, zs⟩, rfl, ⟨⟨rfl, s1'⟩, ⟨rfl, s2'⟩, ⟨rfl, s3'⟩⟩, l1, l2, l3, q1, q2, p1, p2, p3⟩
end Go.Proofs.YtdmpobegobfpjaaGreat.om
namespace Go.Proofs.YtdmpobegobfpjaaGreat.tx.ot
open Go.ChangeShapes Go.WideShapes Go.ChangeAt Go.RowKit Go.Deep
theorem cells_i : Tryz.prog.cellsOf 2 = 1 := by kernel_rfl
theorem cells_ss : Tryz.prog.cellsOf 95 = 1 := by kernel_rfl
theorem cells_ns : Tryz.prog.cellsOf 94 = 1 := by kernel_rfl
theorem cells_t : Tryz.prog.cellsOf 97 = 7 := by kernel_rfl
theorem list7 {α : Type} {cs : List α} (h : cs.length = 7) : ∃ c0 c1 c2 c3 c4 c5 c6, cs = [c0, c1, c2, c3, c4, c5, c6] := by
  match cs, h with
  | [c0, c1, c2, c3, c4, c5, c6], _ => exact ⟨c0, c1, c2, c3, c4, c5, c6, rfl⟩
theorem some_of {α : Type} {p : Nat → α → Prop} (n : Nat) (h : ∀ i, i < n → ∃ x, p i x) : ∃ xs : List α, xs.length = n ∧ ∀ i x, xs[i]? = some x → p i x := by
  induction n with
  | zero => exact ⟨[], rfl, fun i x e => by simp at e⟩
  | succ n ih =>
    obtain ⟨xs, hl, hx⟩ := ih fun i hi => h i (by omega)
    obtain ⟨y, hy⟩ := h n (by omega)
    refine ⟨xs ++ [y], by simp [hl], fun i x e => ?_⟩
    by_cases hi : i < xs.length
    · rw [List.getElem?_append_left hi] at e
      exact hx i x e
    · rw [List.getElem?_append_right (by omega)] at e
      have : i = xs.length := by
        by_cases h2 : i - xs.length = 0
        · omega
        · rw [List.getElem?_eq_none (by simp; omega)] at e; cases e
      subst this
      simp at e
      subst e
      rw [hl]; exact hy
theorem list5 {α : Type} {cs : List α} (h : cs.length = 5) : ∃ c0 c1 c2 c3 c4, cs = [c0, c1, c2, c3, c4] := by
  match cs, h with
  | [c0, c1, c2, c3, c4], _ => exact ⟨c0, c1, c2, c3, c4, rfl⟩
theorem cells_set : Tryz.prog.cellsOf 200 = 5 := by kernel_rfl
theorem cells_int : Tryz.prog.cellsOf 2 = 1 := by kernel_rfl
theorem cells_bool : Tryz.prog.cellsOf 4 = 1 := by kernel_rfl
def setCells (s : S5) : List Value := [.int .i64 s.region, .int .i64 s.slot, .int .i64 s.value, .bool s.used, .int .i64 s.version]
def setWf (s : S5) : Prop := (Lit.int .i64 s.region).wf = true ∧ (Lit.int .i64 s.slot).wf = true ∧ (Lit.int .i64 s.value).wf = true ∧ (Lit.int .i64 s.version).wf = true
theorem open_set {H : Type} {enc : TypeId × Value → H} {w : World} {base : Nat} {spare : Nat → Bool} {held : Bool} {fuel : Nat} {cs : List Value} {x : DataW H × List MemPlace}
    (h : DataW.trod enc Tryz.prog w base spare held fuel 200 cs = some x) : ∃ s : S5, cs = (setCells s) ∧ setWf s := by
  obtain ⟨xs, n, _, rfl, hl, hlen, hf⟩ := DataW.trod_struct Tryz.underlying200 h
  rw [cells_set] at hl
  obtain ⟨c0, c1, c2, c3, c4, rfl⟩ := list5 hl
  obtain ⟨y0, y1, y2, y3, y4, rfl⟩ := list5 hlen
  have h0 := hf 0 _ rfl
  have h1 := hf 1 _ rfl
  have h2 := hf 2 _ rfl
  have h3 := hf 3 _ rfl
  have h4 := hf 4 _ rfl
  simp [cells_int, cells_bool] at h0 h1 h2 h3 h4
  obtain ⟨z0, e0, _, f0⟩ := DataW.trod_int Tryz.underlying2 h0
  obtain ⟨z1, e1, _, f1⟩ := DataW.trod_int Tryz.underlying2 h1
  obtain ⟨z2, e2, _, f2⟩ := DataW.trod_int Tryz.underlying2 h2
  obtain ⟨z3, e3, _⟩ := DataW.trod_bool Tryz.underlying4 h3
  obtain ⟨z4, e4, _, f4⟩ := DataW.trod_int Tryz.underlying2 h4
  simp at e0 e1 e2 e3 e4
  subst e0 e1 e2 e3 e4
  exact ⟨⟨z0, z1, z2, z3, z4⟩, rfl, f0, f1, f2, f4⟩
theorem open_sets {H : Type} {enc : TypeId × Value → H} {w : World} {spare : Nat → Bool} {held : Bool} {fuel : Nat} {cs : List Value} {x : DataW H × List MemPlace}
    (h : DataW.trod enc Tryz.prog w 0 spare held fuel 95 cs = some x) : ∃ a n cap xs, cs = [.slice a n cap] ∧ n ≤ maxLen ∧ n ≤ cap ∧ Sl w w.heap.size a n xs := by
  rcases open_slice Tryz.underlying95 h with ⟨rfl, _⟩ | ⟨a, len, cap, m, n, D, Pl, rfl, _, hl, hm, hmm, _, hx⟩
  · exact ⟨none, 0, 0, [], rfl, Nat.zero_le _, Nat.le_refl _, ⟨rfl, .inl rfl⟩⟩
  · have hlm : len ≤ m := by rw [hmm]; split <;> omega
    have key : ∀ i, i < len → ∃ s : S5, ∀ k, k < 5 → w.cell? ((a.add (i * 5)).add k) = (setCells s)[k]? := fun i hi => by
      obtain ⟨cs', h1, h2⟩ := hx i (by omega)
      rw [cells_set] at h1
      obtain ⟨s, rfl, _⟩ := open_set h2
      exact ⟨s, (World.cells?_some h1).2.2⟩
    obtain ⟨xs, hlen, hxs⟩ := some_of len key
    refine ⟨some a, len, cap, xs, rfl, by omega, by omega, ⟨hlen, ?_⟩⟩
    · by_cases h0 : len = 0
      · exact .inl h0
      · right
        obtain ⟨b, off, spot⟩ := a
        obtain ⟨s, hs⟩ := key 0 (by omega)
        have c0 : w.cell? ⟨b, off, spot⟩ = some (.int .i64 s.region) := by simpa [Addr.add, setCells] using hs 0 (by omega)
        have hspot : spot = none := by simpa using World.cell?_spot c0
        subst hspot
        refine ⟨b, off, rfl, block_lt_of_cell c0, fun i s e => ?_⟩
        have hk := hxs i s e
        simp only [add_plain] at hk
        exact ⟨by simpa [setCells] using hk 0 (by omega), by simpa [setCells] using hk 1 (by omega), by simpa [setCells] using hk 2 (by omega), by simpa [setCells] using hk 3 (by omega), by simpa [setCells] using hk 4 (by omega)⟩
theorem cells_note : Tryz.prog.cellsOf 198 = 5 := by kernel_rfl
def noteCells (s : N5) : List Value := [.int .i64 s.region, .int .i64 s.slot, .int .i64 s.version, .int .i64 s.value, .bool s.used]
def noteWf (s : N5) : Prop := (Lit.int .i64 s.region).wf = true ∧ (Lit.int .i64 s.slot).wf = true ∧ (Lit.int .i64 s.version).wf = true ∧ (Lit.int .i64 s.value).wf = true
theorem open_note {H : Type} {enc : TypeId × Value → H} {w : World} {base : Nat} {spare : Nat → Bool} {held : Bool} {fuel : Nat} {cs : List Value} {x : DataW H × List MemPlace}
    (h : DataW.trod enc Tryz.prog w base spare held fuel 198 cs = some x) : ∃ s : N5, cs = (noteCells s) ∧ noteWf s := by
  obtain ⟨xs, n, _, rfl, hl, hlen, hf⟩ := DataW.trod_struct Tryz.underlying198 h
  rw [cells_note] at hl
  obtain ⟨c0, c1, c2, c3, c4, rfl⟩ := list5 hl
  obtain ⟨y0, y1, y2, y3, y4, rfl⟩ := list5 hlen
  have h0 := hf 0 _ rfl
  have h1 := hf 1 _ rfl
  have h2 := hf 2 _ rfl
  have h3 := hf 3 _ rfl
  have h4 := hf 4 _ rfl
  simp [cells_int, cells_bool] at h0 h1 h2 h3 h4
  obtain ⟨z0, e0, _, f0⟩ := DataW.trod_int Tryz.underlying2 h0
  obtain ⟨z1, e1, _, f1⟩ := DataW.trod_int Tryz.underlying2 h1
  obtain ⟨z2, e2, _, f2⟩ := DataW.trod_int Tryz.underlying2 h2
  obtain ⟨z3, e3, _, f4⟩ := DataW.trod_int Tryz.underlying2 h3
  obtain ⟨z4, e4, _⟩ := DataW.trod_bool Tryz.underlying4 h4
  simp at e0 e1 e2 e3 e4
  subst e0 e1 e2 e3 e4
  exact ⟨⟨z0, z1, z2, z3, z4⟩, rfl, f0, f1, f2, f4⟩
theorem open_notes {H : Type} {enc : TypeId × Value → H} {w : World} {spare : Nat → Bool} {held : Bool} {fuel : Nat} {cs : List Value} {x : DataW H × List MemPlace}
    (h : DataW.trod enc Tryz.prog w 0 spare held fuel 94 cs = some x) : ∃ a n cap xs, cs = [.slice a n cap] ∧ n ≤ maxLen ∧ n ≤ cap ∧ SlNo w w.heap.size a n xs := by
  rcases open_slice Tryz.underlying94 h with ⟨rfl, _⟩ | ⟨a, len, cap, m, n, D, Pl, rfl, _, hl, hm, hmm, _, hx⟩
  · exact ⟨none, 0, 0, [], rfl, Nat.zero_le _, Nat.le_refl _, ⟨rfl, .inl rfl⟩⟩
  · have hlm : len ≤ m := by rw [hmm]; split <;> omega
    have key : ∀ i, i < len → ∃ s : N5, ∀ k, k < 5 → w.cell? ((a.add (i * 5)).add k) = (noteCells s)[k]? := fun i hi => by
      obtain ⟨cs', h1, h2⟩ := hx i (by omega)
      rw [cells_note] at h1
      obtain ⟨s, rfl, _⟩ := open_note h2
      exact ⟨s, (World.cells?_some h1).2.2⟩
    obtain ⟨xs, hlen, hxs⟩ := some_of len key
    refine ⟨some a, len, cap, xs, rfl, by omega, by omega, ⟨hlen, ?_⟩⟩
    · by_cases h0 : len = 0
      · exact .inl h0
      · right
        obtain ⟨b, off, spot⟩ := a
        obtain ⟨s, hs⟩ := key 0 (by omega)
        have c0 : w.cell? ⟨b, off, spot⟩ = some (.int .i64 s.region) := by simpa [Addr.add, noteCells] using hs 0 (by omega)
        have hspot : spot = none := by simpa using World.cell?_spot c0
        subst hspot
        refine ⟨b, off, rfl, block_lt_of_cell c0, fun i s e => ?_⟩
        have hk := hxs i s e
        simp only [add_plain] at hk
        exact ⟨by simpa [noteCells] using hk 0 (by omega), by simpa [noteCells] using hk 1 (by omega), by simpa [noteCells] using hk 2 (by omega), by simpa [noteCells] using hk 3 (by omega), by simpa [noteCells] using hk 4 (by omega)⟩
theorem open_tx {H : Type} {enc : TypeId × Value → H} {w : World} {spare : Nat → Bool} {held : Bool} {fuel : Nat} {cs : List Value} {x : DataW H × List MemPlace}
    (h : DataW.trod enc Tryz.prog w 0 spare held fuel 97 cs = some x) : ∃ (v : TV) (t : T7), cs = [.int .i64 t.id, .int .i64 t.home, .int .i64 t.phase, .int .i64 t.count, .slice v.ar t.reads.length v.cr, .slice v.ah t.sets.length v.ch, .int .i64 t.stamp] ∧ (SlT w v t ∧ t.sets.length ≤ v.ch) ∧ TL t := by
  obtain ⟨xs, n, _, rfl, hl, hlen, hf⟩ := DataW.trod_struct Tryz.underlying97 h
  rw [cells_t] at hl
  obtain ⟨c0, c1, c2, c3, c4, c5, c6, rfl⟩ := list7 hl
  obtain ⟨y0, y1, y2, y3, y4, y5, y6, rfl⟩ := list7 hlen
  have h0 := hf 0 _ rfl
  have h1 := hf 1 _ rfl
  have h2 := hf 2 _ rfl
  have h3 := hf 3 _ rfl
  have h4 := hf 4 _ rfl
  have h5 := hf 5 _ rfl
  have h6 := hf 6 _ rfl
  simp [cells_i, cells_ns, cells_ss] at h0 h1 h2 h3 h4 h5 h6
  obtain ⟨z0, e0, _, _⟩ := DataW.trod_int Tryz.underlying2 h0
  obtain ⟨z1, e1, _, _⟩ := DataW.trod_int Tryz.underlying2 h1
  obtain ⟨z2, e2, _, _⟩ := DataW.trod_int Tryz.underlying2 h2
  obtain ⟨z3, e3, _, _⟩ := DataW.trod_int Tryz.underlying2 h3
  obtain ⟨a4, n4, k4, ns, e4, l4, p4, s4⟩ := open_notes h4
  obtain ⟨a5, n5, k5, ss, e5, l5, p5, s5⟩ := open_sets h5
  obtain ⟨z6, e6, _, _⟩ := DataW.trod_int Tryz.underlying2 h6
  simp at e0 e1 e2 e3 e4 e5 e6
  subst e0 e1 e2 e3 e4 e5 e6
  obtain ⟨rfl, s4'⟩ := s4
  obtain ⟨rfl, s5'⟩ := s5
  exact ⟨⟨a4, k4, a5, k5⟩, ⟨z0, z1, z2, z3, ns, ss, z6⟩, rfl, ⟨⟨⟨rfl, s4'⟩, ⟨rfl, s5'⟩⟩, p5⟩, ⟨l4, l5⟩⟩
end Go.Proofs.YtdmpobegobfpjaaGreat.tx.ot
namespace Go.Proofs.YtdmpobegobfpjaaGreat.oc
open Go.ChangeShapes Go.WideShapes Go.ChangeAt Go.RowKit Go.Deep
theorem cells_one : Tryz.prog.cellsOf 2 = 1 := by kernel_rfl
theorem cells_row : Tryz.prog.cellsOf 28 = 1 := by kernel_rfl
theorem cells_place : Tryz.prog.cellsOf 87 = 1 := by kernel_rfl
theorem list1 {α : Type} {cs : List α} (h : cs.length = 1) : ∃ c0, cs = [c0] := by
  match cs, h with
  | [c0], _ => exact ⟨c0, rfl⟩
theorem rows_of {α : Type} {p : Nat → α → Prop} (n : Nat) (h : ∀ i, i < n → ∃ x, p i x) : ∃ xs : List α, xs.length = n ∧ ∀ i x, xs[i]? = some x → p i x := by
  induction n with
  | zero => exact ⟨[], rfl, fun i x e => by simp at e⟩
  | succ n ih =>
    obtain ⟨xs, hl, hx⟩ := ih fun i hi => h i (by omega)
    obtain ⟨y, hy⟩ := h n (by omega)
    refine ⟨xs ++ [y], by simp [hl], fun i x e => ?_⟩
    by_cases hi : i < xs.length
    · rw [List.getElem?_append_left hi] at e
      exact hx i x e
    · rw [List.getElem?_append_right (by omega)] at e
      have : i = xs.length := by
        by_cases h2 : i - xs.length = 0
        · omega
        · rw [List.getElem?_eq_none (by simp; omega)] at e; cases e
      subst this
      simp at e
      subst e
      rw [hl]; exact hy
theorem open_numrow {H : Type} {enc : TypeId × Value → H} {w : World} {spare : Nat → Bool} {held : Bool} {fuel : Nat} {cs : List Value} {x : DataW H × List MemPlace}
    (h : DataW.trod enc Tryz.prog w 0 spare held fuel 28 cs = some x) : ∃ a n cap zs, cs = [.slice a n cap] ∧ n ≤ maxLen ∧ n ≤ cap ∧ SlN w w.heap.size a n zs := by
  rcases open_slice Tryz.underlying28 h with ⟨rfl, _⟩ | ⟨a, len, cap, m, n, D, Pl, rfl, _, hl, hm, hmm, _, hx⟩
  · exact ⟨none, 0, 0, [], rfl, Nat.zero_le _, Nat.le_refl _, ⟨rfl, .inl rfl⟩⟩
  · have hlm : len ≤ m := by rw [hmm]; split <;> omega
    have key : ∀ i, i < len → ∃ z : Int, w.cell? (a.add (i * 1)) = some (.int .i64 z) := fun i hi => by
      obtain ⟨cs', h1, h2⟩ := hx i (by omega)
      rw [cells_one] at h1
      obtain ⟨z, e, _⟩ := DataW.trod_int Tryz.underlying2 h2
      subst e
      have := (World.cells?_some h1).2.2 0 (by omega)
      exact ⟨z, by simpa [Addr.add] using this⟩
    obtain ⟨zs, hlen, hzs⟩ := rows_of len key
    refine ⟨some a, len, cap, zs, rfl, by omega, by omega, ⟨hlen, ?_⟩⟩
    by_cases h0 : len = 0
    · exact .inl h0
    · right
      obtain ⟨b, off, spot⟩ := a
      obtain ⟨z, hz⟩ := key 0 (by omega)
      have c0 : w.cell? ⟨b, off, spot⟩ = some (.int .i64 z) := by simpa [Addr.add] using hz
      have hspot : spot = none := by simpa using World.cell?_spot c0
      subst hspot
      refine ⟨b, off, rfl, block_lt_of_cell c0, fun i z e => ?_⟩
      have hk := hzs i z e
      simpa [add_plain] using hk
def PlaceIs (w : World) (v : Value) (zs : List Int) : Prop := ∃ a cap, v = .slice a zs.length cap ∧ SlN w w.heap.size a zs.length zs ∧ zs.length ≤ cap ∧ zs.length ≤ maxLen
theorem open_place {H : Type} {enc : TypeId × Value → H} {w : World} {spare : Nat → Bool} {held : Bool} {fuel : Nat} {cs : List Value} {x : DataW H × List MemPlace}
    (h : DataW.trod enc Tryz.prog w 0 spare held fuel 87 cs = some x) : ∃ v zs, cs = [v] ∧ PlaceIs w v zs := by
  obtain ⟨xs, n, _, rfl, hl, hlen, hf⟩ := DataW.trod_struct Tryz.underlying87 h
  rw [cells_place] at hl
  obtain ⟨c0, rfl⟩ := list1 hl
  obtain ⟨y0, rfl⟩ := list1 hlen
  have h0 := hf 0 _ rfl
  simp [cells_row] at h0
  obtain ⟨a, m, cap, zs, e, hm, hc, hs⟩ := open_numrow h0
  simp at e
  subst e
  obtain rfl : zs.length = m := hs.1
  exact ⟨_, zs, rfl, a, cap, rfl, hs, hc, hm⟩
theorem open_placerow {H : Type} {enc : TypeId × Value → H} {w : World} {spare : Nat → Bool} {held : Bool} {fuel : Nat} {cs : List Value} {x : DataW H × List MemPlace}
    (h : DataW.trod enc Tryz.prog w 0 spare held fuel 22 cs = some x) : ∃ a n cap zss, cs = [.slice a n cap] ∧ n ≤ maxLen ∧ SlP w w.heap.size a n zss ∧ ∀ zs ∈ zss, zs.length ≤ maxLen := by
  rcases open_slice Tryz.underlying22 h with ⟨rfl, _⟩ | ⟨a, len, cap, m, n, D, Pl, rfl, _, hl, hm, hmm, _, hx⟩
  · exact ⟨none, 0, 0, [], rfl, Nat.zero_le _, ⟨rfl, .inl rfl⟩, fun zs h => by simp at h⟩
  · have hlm : len ≤ m := by rw [hmm]; split <;> omega
    have key : ∀ i, i < len → ∃ zs : List Int, ∃ v, w.cell? (a.add (i * 1)) = some v ∧ PlaceIs w v zs := fun i hi => by
      obtain ⟨cs', h1, h2⟩ := hx i (by omega)
      rw [cells_place] at h1
      obtain ⟨v, zs, rfl, hp⟩ := open_place h2
      have := (World.cells?_some h1).2.2 0 (by omega)
      exact ⟨zs, v, by simpa [Addr.add] using this, hp⟩
    obtain ⟨zss, hlen, hzs⟩ := rows_of len key
    refine ⟨some a, len, cap, zss, rfl, by omega, ⟨hlen, ?_⟩, fun zs hz => ?_⟩
    · by_cases h0 : len = 0
      · exact .inl h0
      · right
        obtain ⟨b, off, spot⟩ := a
        obtain ⟨zs, v, hz, _⟩ := key 0 (by omega)
        have c0 : w.cell? ⟨b, off, spot⟩ = some v := by simpa [Addr.add] using hz
        have hspot : spot = none := by simpa using World.cell?_spot c0
        subst hspot
        refine ⟨b, off, rfl, block_lt_of_cell c0, fun i zs e => ?_⟩
        obtain ⟨v, hk, a', cap', rfl, hs, hc, _⟩ := hzs i zs e
        exact ⟨a', cap', by simpa [add_plain] using hk, hs, hc⟩
    · obtain ⟨i, hi, rfl⟩ := List.getElem_of_mem hz
      obtain ⟨v, _, _, _, _, _, _, hm⟩ := hzs i _ (List.getElem?_eq_getElem hi)
      exact hm
theorem cells_machs : Tryz.prog.cellsOf 92 = 4 := by kernel_rfl
theorem open_machs {H : Type} {enc : TypeId × Value → H} {w : World} {spare : Nat → Bool} {held : Bool} {fuel : Nat} {cs : List Value} {x : DataW H × List MemPlace}
    (h : DataW.trod enc Tryz.prog w 0 spare held fuel 23 cs = some x) : ∃ (a : Option Addr) (cap : Nat) (xs : List M4), cs = [.slice a xs.length cap] ∧ xs.length ≤ maxLen ∧ KMk.RdS w a xs ∧ ∀ d ∈ xs, ML d := by
  rcases open_slice Tryz.underlying23 h with ⟨rfl, _⟩ | ⟨a, len, cap, m, n, DD, Pl, rfl, _, hl, hm, hmm, _, hx⟩
  · exact ⟨none, 0, [], rfl, Nat.zero_le _, .inl rfl, fun s hs => by cases hs⟩
  · have hlm : len ≤ m := by rw [hmm]; split <;> omega
    have key : ∀ i, i < len → ∃ d : M4, ∃ v : MV, (∀ k, k < 4 → w.cell? ((a.add (i * 4)).add k) = (KMk.cells v d)[k]?) ∧ KMk.Rd w v d ∧ ML d := fun i hi => by
      obtain ⟨cs', h1, h2⟩ := hx i (by omega)
      rw [cells_machs] at h1
      obtain ⟨v, d, rfl, t1, l1, l2, l3, k1, k2, _⟩ := om.open_machine h2
      exact ⟨d, v, (World.cells?_some h1).2.2, t1, ⟨l1, k1, l2, k2, l3⟩⟩
    obtain ⟨xs, hlen, hxs⟩ := rows_of len key
    subst hlen
    refine ⟨some a, cap, xs, rfl, by omega, ?_, ?_⟩
    · by_cases h0 : xs = []
      · exact .inl h0
      · right
        obtain ⟨b, off, spot⟩ := a
        obtain ⟨d, v, hs, _⟩ := key 0 (by have := List.length_pos_iff.2 h0; omega)
        have c0 := hs 0 (by omega)
        simp [Addr.add, KMk] at c0
        have hspot : spot = none := by simpa using World.cell?_spot c0
        subst hspot
        refine ⟨b, off, rfl, block_lt_of_cell c0, fun i d e => ?_⟩
        obtain ⟨v, hk, t1, _⟩ := hxs i d e
        simp only [add_plain] at hk
        refine ⟨v, fun j u hu => ?_, t1⟩
        have hj : j < 4 := by have := (List.getElem?_eq_some_iff.1 hu).1; rwa [KMk.len] at this
        have := hk j hj
        rw [hu] at this
        exact this
    · intro d hd
      obtain ⟨i, hi, rfl⟩ := List.getElem_of_mem hd
      obtain ⟨_, _, _, h3⟩ := hxs i _ (List.getElem?_eq_getElem hi)
      exact h3
theorem cells_txs : Tryz.prog.cellsOf 97 = 7 := by kernel_rfl
theorem open_txs {H : Type} {enc : TypeId × Value → H} {w : World} {spare : Nat → Bool} {held : Bool} {fuel : Nat} {cs : List Value} {x : DataW H × List MemPlace}
    (h : DataW.trod enc Tryz.prog w 0 spare held fuel 24 cs = some x) : ∃ (a : Option Addr) (cap : Nat) (xs : List tx.T7), cs = [.slice a xs.length cap] ∧ xs.length ≤ maxLen ∧ KTkC.RdS w a xs ∧ ∀ d ∈ xs, tx.TL d := by
  rcases open_slice Tryz.underlying24 h with ⟨rfl, _⟩ | ⟨a, len, cap, m, n, DD, Pl, rfl, _, hl, hm, hmm, _, hx⟩
  · exact ⟨none, 0, [], rfl, Nat.zero_le _, .inl rfl, fun s hs => by cases hs⟩
  · have hlm : len ≤ m := by rw [hmm]; split <;> omega
    have key : ∀ i, i < len → ∃ d : tx.T7, ∃ v : tx.TV, (∀ k, k < 7 → w.cell? ((a.add (i * 7)).add k) = (KTk.cells v d)[k]?) ∧ KTkC.Rd w v d ∧ tx.TL d := fun i hi => by
      obtain ⟨cs', h1, h2⟩ := hx i (by omega)
      rw [cells_txs] at h1
      obtain ⟨v, d, rfl, t1, l1⟩ := tx.ot.open_tx h2
      exact ⟨d, v, (World.cells?_some h1).2.2, t1, l1⟩
    obtain ⟨xs, hlen, hxs⟩ := rows_of len key
    subst hlen
    refine ⟨some a, cap, xs, rfl, by omega, ?_, ?_⟩
    · by_cases h0 : xs = []
      · exact .inl h0
      · right
        obtain ⟨b, off, spot⟩ := a
        obtain ⟨d, v, hs, _⟩ := key 0 (by have := List.length_pos_iff.2 h0; omega)
        have c0 := hs 0 (by omega)
        simp [Addr.add, KTk] at c0
        have hspot : spot = none := by simpa using World.cell?_spot c0
        subst hspot
        refine ⟨b, off, rfl, block_lt_of_cell c0, fun i d e => ?_⟩
        obtain ⟨v, hk, t1, _⟩ := hxs i d e
        simp only [add_plain] at hk
        refine ⟨v, fun j u hu => ?_, t1⟩
        have hj : j < 7 := by have := (List.getElem?_eq_some_iff.1 hu).1; rwa [KTkC.len] at this
        have := hk j hj
        rw [show (KTk.cells v d)[j]? = some u from hu] at this
        exact this
    · intro d hd
      obtain ⟨i, hi, rfl⟩ := List.getElem_of_mem hd
      obtain ⟨_, _, _, h3⟩ := hxs i _ (List.getElem?_eq_getElem hi)
      exact h3
theorem cells_cl : Tryz.prog.cellsOf 26 = 6 := by kernel_rfl
theorem cells_ip : Tryz.prog.cellsOf 22 = 1 := by kernel_rfl
theorem cells_im : Tryz.prog.cellsOf 23 = 1 := by kernel_rfl
theorem cells_it : Tryz.prog.cellsOf 24 = 1 := by kernel_rfl
theorem cells_ib : Tryz.prog.cellsOf 4 = 1 := by kernel_rfl
theorem list6 {α : Type} {cs : List α} (h : cs.length = 6) : ∃ c0 c1 c2 c3 c4 c5, cs = [c0, c1, c2, c3, c4, c5] := by
  match cs, h with
  | [c0, c1, c2, c3, c4, c5], _ => exact ⟨c0, c1, c2, c3, c4, c5, rfl⟩
theorem open_cluster {H : Type} {enc : TypeId × Value → H} {w : World} {spare : Nat → Bool} {held : Bool} {fuel : Nat} {cs : List Value} {x : DataW H × List MemPlace}
    (h : DataW.trod enc Tryz.prog w 0 spare held fuel 26 cs = some x) : ∃ (a1 : Option Addr) (c1 : Nat) (a2 : Option Addr) (c2 : Nat) (a3 : Option Addr) (c3 : Nat) (k : C6), cs = [.int .i64 k.config, .int .i64 k.clock, .slice a1 k.places.length c1, .slice a2 k.machines.length c2, .slice a3 k.txs.length c3, .bool k.lost] ∧ KCl.Rd w a1 c1 a2 c2 a3 c3 k ∧ KCl.L k := by
  obtain ⟨xs, n, _, rfl, hl, hlen, hf⟩ := DataW.trod_struct Tryz.underlying26 h
  rw [cells_cl] at hl
  obtain ⟨c0, c1, c2, c3, c4, c5, rfl⟩ := list6 hl
  obtain ⟨y0, y1, y2, y3, y4, y5, rfl⟩ := list6 hlen
  have h0 := hf 0 _ rfl
  have h1 := hf 1 _ rfl
  have h2 := hf 2 _ rfl
  have h3 := hf 3 _ rfl
  have h4 := hf 4 _ rfl
  have h5 := hf 5 _ rfl
  simp [cells_one, cells_ip, cells_im, cells_it, cells_ib] at h0 h1 h2 h3 h4 h5
  obtain ⟨z0, e0, _, _⟩ := DataW.trod_int Tryz.underlying2 h0
  obtain ⟨z1, e1, _, _⟩ := DataW.trod_int Tryz.underlying2 h1
  obtain ⟨a1, n1, k1, zss, e2, l1, s1, q1⟩ := open_placerow h2
  obtain ⟨a2, k2, ms, e3, l2, s2, q2⟩ := open_machs h3
  obtain ⟨a3, k3, ts, e4, l3, s3, q3⟩ := open_txs h4
  obtain ⟨z5, e5, _⟩ := DataW.trod_bool Tryz.underlying4 h5
  simp at e0 e1 e2 e3 e4 e5
  subst e0 e1 e2 e3 e4 e5
  obtain rfl : zss.length = n1 := s1.1
  exact ⟨a1, k1, a2, k2, a3, k3, ⟨z0, z1, zss, ms, ts, z5⟩, rfl, ⟨s1, s2, capS s3, s3⟩, ⟨l1, q1, l2, q2, l3, q3⟩⟩
end Go.Proofs.YtdmpobegobfpjaaGreat.oc
namespace Go.Proofs.YtdmpobegobfpjaaGreat
open Go.RowKit
theorem KP.Ow.low {w : World} {B B' : Nat} {a : Option Addr} {zss : List (List Int)} {P : Nat → Prop} (h : KP.Ow w B a zss P) (hb : B' ≤ B) : KP.Ow w B' a zss P := by
  obtain ⟨⟨g, h1, h2, h3⟩, h4⟩ := h
  exact ⟨⟨g, h1.lower hb, h2, h3⟩, fun q hq => ⟨Nat.le_trans hb (h4 q hq).1, (h4 q hq).2⟩⟩
set_option maxRecDepth 100000 in
set_option maxHeartbeats 4000000 in
theorem KCl.to (X : World) (a1 : Option Addr) (c1 : Nat) (a2 : Option Addr) (c2 : Nat) (a3 : Option Addr) (c3 : Nat) (k : C6) (ht : KCl.S k) (h : KCl.Rd X a1 c1 a2 c2 a3 c3 k) : Calls Tryz.prog 9 #[.agg #[.int .i64 k.config, .int .i64 k.clock, .slice a1 k.places.length c1, .slice a2 k.machines.length c2, .slice a3 k.txs.length c3, .bool k.lost]] X fun e w' =>
    ∃ (a1 : Option Addr) (c1 : Nat) (a2 : Option Addr) (c2 : Nat) (a3 : Option Addr) (c3 : Nat) (P : Nat → Prop), e = .returned (.agg #[.int .i64 k.config, .int .i64 k.clock, .slice a1 k.places.length c1, .slice a2 k.machines.length c2, .slice a3 k.txs.length c3, .bool k.lost]) ∧ KCl.Ow w' X.heap.size a1 c1 a2 c2 a3 c3 k P ∧ Below X.heap.size X w' := by
  obtain ⟨U0, hU0⟩ : ∃ Y, Y = X.alloc (.cells #[.int .i64 k.config, .int .i64 k.clock, .slice a1 k.places.length c1, .slice a2 k.machines.length c2, .slice a3 k.txs.length c3, .bool k.lost] 26) := ⟨_, rfl⟩
  have b0 : Below X.heap.size X U0 := by rw [hU0]; exact (Below.refl _ _).alloc (Nat.le_refl _) _
  have x0 : Bx U0 X.heap.size [.int .i64 k.config, .int .i64 k.clock, .slice a1 k.places.length c1, .slice a2 k.machines.length c2, .slice a3 k.txs.length c3, .bool k.lost] := by rw [hU0]; exact Bx.made X [.int .i64 k.config, .int .i64 k.clock, .slice a1 k.places.length c1, .slice a2 k.machines.length c2, .slice a3 k.txs.length c3, .bool k.lost] _
  have z0 : U0.heap.size = X.heap.size + 1 := by rw [hU0]; simp
  obtain ⟨U1, hU1⟩ : ∃ Y, Y = U0.alloc (.cells #[.int .i64 0, .int .i64 0, .slice none 0 0, .slice none 0 0, .slice none 0 0, .bool false] 34) := ⟨_, rfl⟩
  have b1 : Below U0.heap.size U0 U1 := by rw [hU1]; exact (Below.refl _ _).alloc (Nat.le_refl _) _
  have x1 : Bx U1 U0.heap.size [.int .i64 0, .int .i64 0, .slice none 0 0, .slice none 0 0, .slice none 0 0, .bool false] := by rw [hU1]; exact Bx.made U0 [.int .i64 0, .int .i64 0, .slice none 0 0, .slice none 0 0, .slice none 0 0, .bool false] _
  have z1 : U1.heap.size = X.heap.size + 2 := by rw [hU1]; simp [z0]
  obtain ⟨V0, hV0⟩ : ∃ Y, Y = U1.alloc (.cells #[.int .i64 k.config, .int .i64 k.clock, .slice none 0 0, .slice none 0 0, .slice none 0 0, .bool false] 34) := ⟨_, rfl⟩
  have b2 : Below U1.heap.size U1 V0 := by rw [hV0]; exact (Below.refl _ _).alloc (Nat.le_refl _) _
  have x2 : Bx V0 U1.heap.size [.int .i64 k.config, .int .i64 k.clock, .slice none 0 0, .slice none 0 0, .slice none 0 0, .bool false] := by rw [hV0]; exact Bx.made U1 [.int .i64 k.config, .int .i64 k.clock, .slice none 0 0, .slice none 0 0, .slice none 0 0, .bool false] _
  have zU : V0.heap.size = X.heap.size + 3 := by rw [hV0]; simp [z1]
  rw [z0] at x1
  rw [z1] at x2
  have bU : Below X.heap.size X V0 := bstep (bstep b0 b1) b2
  have FA : Hid (Bx V0 X.heap.size [.int .i64 k.config, .int .i64 k.clock, .slice a1 k.places.length c1, .slice a2 k.machines.length c2, .slice a3 k.txs.length c3, .bool k.lost]) := (x0.later b1).later b2
  have FZ : Hid (Bx V0 (X.heap.size + 1) [.int .i64 0, .int .i64 0, .slice none 0 0, .slice none 0 0, .slice none 0 0, .bool false]) := x1.later b2
  have Y0 : Hid (Bx V0 (X.heap.size + 2) [.int .i64 k.config, .int .i64 k.clock, .slice none 0 0, .slice none 0 0, .slice none 0 0, .bool false]) := x2
  have E0 : Hid (Below (X.heap.size + 2) V0 V0 ∧ Below X.heap.size X V0 ∧ V0.heap.size ≤ V0.heap.size) := ⟨Below.refl _ _, bU, Nat.le_refl _⟩
  have HZ : Hid (V0.heap.size = X.heap.size + 3) := zU
  have HR : Hid (KCl.Rd X a1 c1 a2 c2 a3 c3 k ∧ KCl.S k) := ⟨h, ht⟩
  rw [hU1, hU0] at hV0
  clear b0 x0 z0 b1 x1 z1 b2 x2 zU bU hU0 hU1 h ht
  have q := KP.to V0 a1 c1 k.places HR.out.2.p HR.out.2.ps (HR.out.1.later E0.out.2.1).p
  have A0 := (FA.out.under E0.out.1 (by omega)).1 0 _ rfl
  have A1 := (FA.out.under E0.out.1 (by omega)).1 1 _ rfl
  have A2 := (FA.out.under E0.out.1 (by omega)).1 2 _ rfl
  rw [hV0] at A0 A1 A2
  go_enter Tryz.func9, Tryz.ntmps9
  go_wp2_with fail
  rw [← hV0]
  clear hV0 A0 A1 A2
  refine q.mono ?_
  clear q
  rintro e w1 ⟨P1, rfl, o1, b⟩
  obtain ⟨V1, hV1⟩ : ∃ Y, Y = w1.setCell ⟨X.heap.size + 2, 2, none⟩ (.slice (some ⟨V0.heap.size, 0, none⟩) k.places.length k.places.length) := ⟨_, rfl⟩
  have sV : V1.heap.size = w1.heap.size := by rw [hV1]; simp [World.setCell]
  have kV : ∀ q, q ≠ X.heap.size + 2 → V1.heap[q]? = w1.heap[q]? := fun q hq => by rw [hV1]; exact Below.heap_setCell _ _ _ _ hq
  have lV : X.heap.size + 3 ≤ V0.heap.size := by have := E0.out.2.2; have := HZ.out; omega
  have u := (Y0.out.later b).1 2 _ rfl
  have uf := (Y0.out.later b).2.1 2
  have E1 : Hid (Below (X.heap.size + 2) V0 V1 ∧ Below X.heap.size X V1 ∧ V0.heap.size ≤ V1.heap.size) := by
    refine ⟨?_, ?_, by have := b.size; have := E0.out.2.2; omega⟩
    · rw [hV1]; exact (E0.out.1.trans (b.mono (by omega))).setCell (p := ⟨X.heap.size + 2, 2, none⟩) (Nat.le_refl _) _
    · rw [hV1]; exact (E0.out.2.1.trans (b.mono (by omega))).setCell (p := ⟨X.heap.size + 2, 2, none⟩) (by show X.heap.size ≤ X.heap.size + 2; omega) _
  have Y1 : Hid (Bx V1 (X.heap.size + 2) [.int .i64 k.config, .int .i64 k.clock, .slice (some ⟨V0.heap.size, 0, none⟩) k.places.length k.places.length, .slice none 0 0, .slice none 0 0, .bool false]) := by rw [hV1]; exact (Y0.out.later b).set (i := 2) (by simp) _
  have O1' : Hid (KP.Ow V1 V0.heap.size (some ⟨V0.heap.size, 0, none⟩) k.places P1) := o1.keep (Nat.le_of_eq sV.symm) (fun q hq => kV q (by have := (o1.of hq).1; have := HZ.out; have := E0.out.2.2; omega))
  have O1 := O1'
  clear O1'
  have Zb1 : Hid (V0.heap.size ≤ w1.heap.size ∧ w1.heap.size = V1.heap.size ∧ (∀ q, P1 q → V0.heap.size ≤ q ∧ q < w1.heap.size)) := ⟨b.size, sV.symm, fun q hq => o1.of hq⟩
  clear o1 b sV kV lV
  have q := KMS.to V1 a2 c2 k.machines HR.out.2.m HR.out.2.ms (HR.out.1.later E1.out.2.1).m
  have A3 := (FA.out.under E1.out.1 (by omega)).1 3 _ rfl
  rw [hV1] at A3
  go_wp2_with fail
  rw [← hV1]
  clear hV1 A3 u uf
  refine q.mono ?_
  clear q
  rintro e w2 ⟨P2, rfl, o2, b⟩
  obtain ⟨V2, hV2⟩ : ∃ Y, Y = w2.setCell ⟨X.heap.size + 2, 3, none⟩ (.slice (some ⟨V1.heap.size, 0, none⟩) k.machines.length k.machines.length) := ⟨_, rfl⟩
  have sV : V2.heap.size = w2.heap.size := by rw [hV2]; simp [World.setCell]
  have kV : ∀ q, q ≠ X.heap.size + 2 → V2.heap[q]? = w2.heap[q]? := fun q hq => by rw [hV2]; exact Below.heap_setCell _ _ _ _ hq
  have lV : X.heap.size + 3 ≤ V1.heap.size := by have := E1.out.2.2; have := HZ.out; omega
  have u := (Y1.out.later b).1 3 _ rfl
  have uf := (Y1.out.later b).2.1 3
  have E2 : Hid (Below (X.heap.size + 2) V0 V2 ∧ Below X.heap.size X V2 ∧ V0.heap.size ≤ V2.heap.size) := by
    refine ⟨?_, ?_, by have := b.size; have := E1.out.2.2; omega⟩
    · rw [hV2]; exact (E1.out.1.trans (b.mono (by omega))).setCell (p := ⟨X.heap.size + 2, 3, none⟩) (Nat.le_refl _) _
    · rw [hV2]; exact (E1.out.2.1.trans (b.mono (by omega))).setCell (p := ⟨X.heap.size + 2, 3, none⟩) (by show X.heap.size ≤ X.heap.size + 2; omega) _
  have Y2 : Hid (Bx V2 (X.heap.size + 2) [.int .i64 k.config, .int .i64 k.clock, .slice (some ⟨V0.heap.size, 0, none⟩) k.places.length k.places.length, .slice (some ⟨V1.heap.size, 0, none⟩) k.machines.length k.machines.length, .slice none 0 0, .bool false]) := by rw [hV2]; exact (Y1.out.later b).set (i := 3) (by simp) _
  have O1' : Hid (KP.Ow V2 V0.heap.size (some ⟨V0.heap.size, 0, none⟩) k.places P1) := (O1.out.later b).keep (Nat.le_of_eq sV.symm) (fun q hq => kV q (by have := ((O1.out.later b).of hq).1; have := HZ.out; have := E0.out.2.2; omega))
  have O2' : Hid (KMk.OwS V2 V1.heap.size (some ⟨V1.heap.size, 0, none⟩) k.machines P2) := o2.keep (Nat.le_of_eq sV.symm) (fun q hq => kV q (by have := (o2.of hq).1; have := HZ.out; have := E1.out.2.2; omega))
  have O1 := O1'
  clear O1'
  have O2 := O2'
  clear O2'
  have Zb2 : Hid (V1.heap.size ≤ w2.heap.size ∧ w2.heap.size = V2.heap.size ∧ (∀ q, P2 q → V1.heap.size ≤ q ∧ q < w2.heap.size)) := ⟨b.size, sV.symm, fun q hq => o2.of hq⟩
  clear o2 b sV kV lV
  have q := KTS.to V2 a3 c3 k.txs HR.out.2.t HR.out.2.ts (HR.out.1.later E2.out.2.1).t
  have A4 := (FA.out.under E2.out.1 (by omega)).1 4 _ rfl
  rw [hV2] at A4
  go_wp2_with fail
  rw [← hV2]
  clear hV2 A4 u uf
  refine q.mono ?_
  clear q
  rintro e w3 ⟨P3, rfl, o3, b⟩
  obtain ⟨V3, hV3⟩ : ∃ Y, Y = w3.setCell ⟨X.heap.size + 2, 4, none⟩ (.slice (some ⟨V2.heap.size, 0, none⟩) k.txs.length k.txs.length) := ⟨_, rfl⟩
  have sV : V3.heap.size = w3.heap.size := by rw [hV3]; simp [World.setCell]
  have kV : ∀ q, q ≠ X.heap.size + 2 → V3.heap[q]? = w3.heap[q]? := fun q hq => by rw [hV3]; exact Below.heap_setCell _ _ _ _ hq
  have lV : X.heap.size + 3 ≤ V2.heap.size := by have := E2.out.2.2; have := HZ.out; omega
  have u := (Y2.out.later b).1 4 _ rfl
  have uf := (Y2.out.later b).2.1 4
  have E3 : Hid (Below (X.heap.size + 2) V0 V3 ∧ Below X.heap.size X V3 ∧ V0.heap.size ≤ V3.heap.size) := by
    refine ⟨?_, ?_, by have := b.size; have := E2.out.2.2; omega⟩
    · rw [hV3]; exact (E2.out.1.trans (b.mono (by omega))).setCell (p := ⟨X.heap.size + 2, 4, none⟩) (Nat.le_refl _) _
    · rw [hV3]; exact (E2.out.2.1.trans (b.mono (by omega))).setCell (p := ⟨X.heap.size + 2, 4, none⟩) (by show X.heap.size ≤ X.heap.size + 2; omega) _
  have Y3 : Hid (Bx V3 (X.heap.size + 2) [.int .i64 k.config, .int .i64 k.clock, .slice (some ⟨V0.heap.size, 0, none⟩) k.places.length k.places.length, .slice (some ⟨V1.heap.size, 0, none⟩) k.machines.length k.machines.length, .slice (some ⟨V2.heap.size, 0, none⟩) k.txs.length k.txs.length, .bool false]) := by rw [hV3]; exact (Y2.out.later b).set (i := 4) (by simp) _
  have O1' : Hid (KP.Ow V3 V0.heap.size (some ⟨V0.heap.size, 0, none⟩) k.places P1) := (O1.out.later b).keep (Nat.le_of_eq sV.symm) (fun q hq => kV q (by have := ((O1.out.later b).of hq).1; have := HZ.out; have := E0.out.2.2; omega))
  have O2' : Hid (KMk.OwS V3 V1.heap.size (some ⟨V1.heap.size, 0, none⟩) k.machines P2) := (O2.out.later b).keep (Nat.le_of_eq sV.symm) (fun q hq => kV q (by have := ((O2.out.later b).of hq).1; have := HZ.out; have := E1.out.2.2; omega))
  have O3' : Hid (KTk.OwS V3 V2.heap.size (some ⟨V2.heap.size, 0, none⟩) k.txs P3) := o3.keep (Nat.le_of_eq sV.symm) (fun q hq => kV q (by have := (o3.of hq).1; have := HZ.out; have := E2.out.2.2; omega))
  have O1 := O1'
  clear O1'
  have O2 := O2'
  clear O2'
  have O3 := O3'
  clear O3'
  have Zb3 : Hid (V2.heap.size ≤ w3.heap.size ∧ w3.heap.size = V3.heap.size ∧ (∀ q, P3 q → V2.heap.size ≤ q ∧ q < w3.heap.size)) := ⟨b.size, sV.symm, fun q hq => o3.of hq⟩
  clear o3 b sV kV lV
  have A5 := (FA.out.under E3.out.1 (by omega)).1 5 _ rfl
  rw [hV3] at A5
  obtain ⟨V4, hV4⟩ : ∃ Y, Y = V3.setCell ⟨X.heap.size + 2, 5, none⟩ (.bool k.lost) := ⟨_, rfl⟩
  have Y4 : Hid (Bx V4 (X.heap.size + 2) [.int .i64 k.config, .int .i64 k.clock, .slice (some ⟨V0.heap.size, 0, none⟩) k.places.length k.places.length, .slice (some ⟨V1.heap.size, 0, none⟩) k.machines.length k.machines.length, .slice (some ⟨V2.heap.size, 0, none⟩) k.txs.length k.txs.length, .bool k.lost]) := by rw [hV4]; exact Y3.out.set (i := 5) (by simp) _
  have v5 := Y3.out.1 5 _ rfl
  have v5f := Y3.out.2.1 5
  rw [hV3] at v5 v5f hV4
  have ZZ : Hid (Bx V4 (X.heap.size + 1) [.int .i64 0, .int .i64 0, .slice none 0 0, .slice none 0 0, .slice none 0 0, .bool false]) := by rw [hV4, ← hV3]; exact (FZ.out.under E3.out.1 (by omega)).far (by omega) _
  have s4 : V4.heap.size = V3.heap.size := by rw [hV4, ← hV3]; simp [World.setCell]
  have k4 : ∀ q, q ≠ X.heap.size + 2 → V4.heap[q]? = V3.heap[q]? := fun q hq => by rw [hV4, ← hV3]; exact Below.heap_setCell _ _ _ _ hq
  have B4 : Hid (Below X.heap.size X V4) := by rw [hV4, ← hV3]; exact E3.out.2.1.setCell (p := ⟨X.heap.size + 2, 5, none⟩) (by show X.heap.size ≤ X.heap.size + 2; omega) _
  have KK : Hid (V4.heap.size = V3.heap.size ∧ (∀ q, q ≠ X.heap.size + 2 → V4.heap[q]? = V3.heap[q]?)) := ⟨s4, k4⟩
  clear s4 k4
  go_upto_region 8 with fail
  rw [← hV4]
  clear hV4 hV3 A5 v5 v5f u uf
  have y0 := Y4.out.1 0 _ rfl
  have z0 := ZZ.out.1 0 _ rfl
  have zf0 := ZZ.out.2.1 0
  have y1 := Y4.out.1 1 _ rfl
  have z1 := ZZ.out.1 1 _ rfl
  have zf1 := ZZ.out.2.1 1
  have y2 := Y4.out.1 2 _ rfl
  have z2 := ZZ.out.1 2 _ rfl
  have zf2 := ZZ.out.2.1 2
  have y3 := Y4.out.1 3 _ rfl
  have z3 := ZZ.out.1 3 _ rfl
  have zf3 := ZZ.out.2.1 3
  have y4 := Y4.out.1 4 _ rfl
  have z4 := ZZ.out.1 4 _ rfl
  have zf4 := ZZ.out.2.1 4
  have y5 := Y4.out.1 5 _ rfl
  have z5 := ZZ.out.1 5 _ rfl
  have zf5 := ZZ.out.2.1 5
  have BP := ZZ.out.put [.int .i64 k.config, .int .i64 k.clock, .slice (some ⟨V0.heap.size, 0, none⟩) k.places.length k.places.length, .slice (some ⟨V1.heap.size, 0, none⟩) k.machines.length k.machines.length, .slice (some ⟨V2.heap.size, 0, none⟩) k.txs.length k.txs.length, .bool k.lost] rfl
  have r0 := BP.1 0 _ rfl
  have r1 := BP.1 1 _ rfl
  have r2 := BP.1 2 _ rfl
  have r3 := BP.1 3 _ rfl
  have r4 := BP.1 4 _ rfl
  have r5 := BP.1 5 _ rfl
  simp only [putB, Nat.zero_add] at r0 r1 r2 r3 r4 r5
  have KR := tx.hidOf (And.intro r0 (And.intro r1 (And.intro r2 (And.intro r3 (And.intro r4 r5)))))
  clear BP r0 r1 r2 r3 r4 r5
  go_wp2
  obtain ⟨r0, r1, r2, r3, r4, r5⟩ := KR.out
  refine bodyPost_ret (v := .agg #[.int .i64 k.config, .int .i64 k.clock, .slice (some ⟨V0.heap.size, 0, none⟩) k.places.length k.places.length, .slice (some ⟨V1.heap.size, 0, none⟩) k.machines.length k.machines.length, .slice (some ⟨V2.heap.size, 0, none⟩) k.txs.length k.txs.length, .bool k.lost]) (by simp [results, Tryz.results9, go_sem, r0, r1, r2, r3, r4, r5]) rfl ?_
  obtain ⟨s4, k4⟩ := KK.out
  obtain ⟨n1, n2, n3⟩ := Zb1.out
  obtain ⟨m1, m2, m3⟩ := Zb2.out
  obtain ⟨l1, l2, l3⟩ := Zb3.out
  have hz := HZ.out
  have hw : ∀ q, q ≠ X.heap.size + 1 → q ≠ X.heap.size + 2 → (putB V4 (X.heap.size + 1) 0 [.int .i64 k.config, .int .i64 k.clock, .slice (some ⟨V0.heap.size, 0, none⟩) k.places.length k.places.length, .slice (some ⟨V1.heap.size, 0, none⟩) k.machines.length k.machines.length, .slice (some ⟨V2.heap.size, 0, none⟩) k.txs.length k.txs.length, .bool k.lost]).heap[q]? = V3.heap[q]? := fun q h1 h2 => (putB_block h1 _ _ _).trans (k4 q h2)
  have hws : V3.heap.size ≤ (putB V4 (X.heap.size + 1) 0 [.int .i64 k.config, .int .i64 k.clock, .slice (some ⟨V0.heap.size, 0, none⟩) k.places.length k.places.length, .slice (some ⟨V1.heap.size, 0, none⟩) k.machines.length k.machines.length, .slice (some ⟨V2.heap.size, 0, none⟩) k.txs.length k.txs.length, .bool k.lost]).heap.size := by rw [putB_size]; omega
  refine ⟨_, _, _, _, _, _, fun q => P1 q ∨ P2 q ∨ P3 q, rfl, ⟨⟨P1, P2, P3, ?_, ?_, ?_, fun q h => .inl h, fun q h => .inr (.inl h), fun q h => .inr (.inr h), fun q h h' => ?_, fun q h h' => ?_, fun q h h' => ?_⟩, fun q hq => ?_⟩, putB_below (by omega) [.int .i64 k.config, .int .i64 k.clock, .slice (some ⟨V0.heap.size, 0, none⟩) k.places.length k.places.length, .slice (some ⟨V1.heap.size, 0, none⟩) k.machines.length k.machines.length, .slice (some ⟨V2.heap.size, 0, none⟩) k.txs.length k.txs.length, .bool k.lost] _ _ B4.out⟩
  · exact (O1.out.keep (w' := putB V4 (X.heap.size + 1) 0 [.int .i64 k.config, .int .i64 k.clock, .slice (some ⟨V0.heap.size, 0, none⟩) k.places.length k.places.length, .slice (some ⟨V1.heap.size, 0, none⟩) k.machines.length k.machines.length, .slice (some ⟨V2.heap.size, 0, none⟩) k.txs.length k.txs.length, .bool k.lost]) hws (fun q hq => by have := n3 q hq; exact hw q (by omega) (by omega))).low (by omega)
  · exact (O2.out.keep (Y := putB V4 (X.heap.size + 1) 0 [.int .i64 k.config, .int .i64 k.clock, .slice (some ⟨V0.heap.size, 0, none⟩) k.places.length k.places.length, .slice (some ⟨V1.heap.size, 0, none⟩) k.machines.length k.machines.length, .slice (some ⟨V2.heap.size, 0, none⟩) k.txs.length k.txs.length, .bool k.lost]) hws (fun q hq => by have := m3 q hq; exact hw q (by omega) (by omega))).low (by omega)
  · exact (O3.out.keep (Y := putB V4 (X.heap.size + 1) 0 [.int .i64 k.config, .int .i64 k.clock, .slice (some ⟨V0.heap.size, 0, none⟩) k.places.length k.places.length, .slice (some ⟨V1.heap.size, 0, none⟩) k.machines.length k.machines.length, .slice (some ⟨V2.heap.size, 0, none⟩) k.txs.length k.txs.length, .bool k.lost]) hws (fun q hq => by have := l3 q hq; exact hw q (by omega) (by omega))).low (by omega)
  · have := n3 q h; have := m3 q h'; omega
  · have := n3 q h; have := l3 q h'; omega
  · have := m3 q h; have := l3 q h'; omega
  · show X.heap.size ≤ q ∧ q < (putB V4 (X.heap.size + 1) 0 [.int .i64 k.config, .int .i64 k.clock, .slice (some ⟨V0.heap.size, 0, none⟩) k.places.length k.places.length, .slice (some ⟨V1.heap.size, 0, none⟩) k.machines.length k.machines.length, .slice (some ⟨V2.heap.size, 0, none⟩) k.txs.length k.txs.length, .bool k.lost]).heap.size
    rw [putB_size]
    rcases hq with hq | hq | hq
    · have := n3 q hq; omega
    · have := m3 q hq; omega
    · have := l3 q hq; omega
set_option maxRecDepth 100000 in
set_option maxHeartbeats 4000000 in
theorem KCl.eq (X : World) (a1 : Option Addr) (c1 : Nat) (a2 : Option Addr) (c2 : Nat) (a3 : Option Addr) (c3 : Nat) (a1' : Option Addr) (c1' : Nat) (a2' : Option Addr) (c2' : Nat) (a3' : Option Addr) (c3' : Nat) (k : C6) (ht : KCl.S k) (h1 : KCl.Rd X a1 c1 a2 c2 a3 c3 k) (h2 : KCl.Rd X a1' c1' a2' c2' a3' c3' k) : Calls Tryz.prog 12 #[.agg #[.int .i64 k.config, .int .i64 k.clock, .slice a1 k.places.length c1, .slice a2 k.machines.length c2, .slice a3 k.txs.length c3, .bool k.lost], .agg #[.int .i64 k.config, .int .i64 k.clock, .slice a1' k.places.length c1', .slice a2' k.machines.length c2', .slice a3' k.txs.length c3', .bool k.lost]] X fun e w' => e = .returned (.bool true) ∧ Below X.heap.size X w' := by
  obtain ⟨U0, hU0⟩ : ∃ Y, Y = X.alloc (.cells #[.int .i64 k.config, .int .i64 k.clock, .slice a1 k.places.length c1, .slice a2 k.machines.length c2, .slice a3 k.txs.length c3, .bool k.lost] 34) := ⟨_, rfl⟩
  have b0 : Below X.heap.size X U0 := by rw [hU0]; exact (Below.refl _ _).alloc (Nat.le_refl _) _
  have x0 : Bx U0 X.heap.size [.int .i64 k.config, .int .i64 k.clock, .slice a1 k.places.length c1, .slice a2 k.machines.length c2, .slice a3 k.txs.length c3, .bool k.lost] := by rw [hU0]; exact Bx.made X [.int .i64 k.config, .int .i64 k.clock, .slice a1 k.places.length c1, .slice a2 k.machines.length c2, .slice a3 k.txs.length c3, .bool k.lost] _
  have z0 : U0.heap.size = X.heap.size + 1 := by rw [hU0]; simp
  obtain ⟨U, hU⟩ : ∃ Y, Y = U0.alloc (.cells #[.int .i64 k.config, .int .i64 k.clock, .slice a1' k.places.length c1', .slice a2' k.machines.length c2', .slice a3' k.txs.length c3', .bool k.lost] 34) := ⟨_, rfl⟩
  have b1 : Below U0.heap.size U0 U := by rw [hU]; exact (Below.refl _ _).alloc (Nat.le_refl _) _
  have x1 : Bx U U0.heap.size [.int .i64 k.config, .int .i64 k.clock, .slice a1' k.places.length c1', .slice a2' k.machines.length c2', .slice a3' k.txs.length c3', .bool k.lost] := by rw [hU]; exact Bx.made U0 [.int .i64 k.config, .int .i64 k.clock, .slice a1' k.places.length c1', .slice a2' k.machines.length c2', .slice a3' k.txs.length c3', .bool k.lost] _
  rw [z0] at x1
  have bU : Below X.heap.size X U := bstep b0 b1
  have FA : Hid (Bx U X.heap.size [.int .i64 k.config, .int .i64 k.clock, .slice a1 k.places.length c1, .slice a2 k.machines.length c2, .slice a3 k.txs.length c3, .bool k.lost]) := x0.later b1
  have FB : Hid (Bx U (X.heap.size + 1) [.int .i64 k.config, .int .i64 k.clock, .slice a1' k.places.length c1', .slice a2' k.machines.length c2', .slice a3' k.txs.length c3', .bool k.lost]) := x1
  have HR : Hid (KCl.Rd U a1 c1 a2 c2 a3 c3 k ∧ KCl.Rd U a1' c1' a2' c2' a3' c3' k ∧ KCl.S k ∧ Below X.heap.size X U) := ⟨h1.later bU, h2.later bU, ht, bU⟩
  rw [hU0] at hU
  clear b0 x0 z0 b1 x1 bU hU0 h1 h2 ht
  have d0 : (k.config != k.config) = false := by simp
  have d1 : (k.clock != k.clock) = false := by simp
  have d5 : (k.lost != k.lost) = false := by simp
  have p0 := FA.out.1 0 _ rfl
  have p1 := FA.out.1 1 _ rfl
  have p2 := FA.out.1 2 _ rfl
  have r0 := FB.out.1 0 _ rfl
  have r1 := FB.out.1 1 _ rfl
  have r2 := FB.out.1 2 _ rfl
  rw [hU] at p0 p1 p2 r0 r1 r2
  go_enter Tryz.func12, Tryz.ntmps12
  go_wp2_with fail
  rw [← hU]
  clear hU p0 p1 p2 r0 r1 r2
  refine (eqPlaceS_any U a1 a1' k.places.length c1 c1' k.places (by have := HR.out.2.2.1.p; unfold maxLen; omega) (fun z hz => by have := HR.out.2.2.1.ps z hz; unfold maxLen; omega) HR.out.1.p HR.out.2.1.p).mono ?_
  rintro e w1 ⟨rfl, b1⟩
  have B1 := tx.hidOf b1
  clear b1
  have p3 := (FA.out.later B1.out).1 3 _ rfl
  have r3 := (FB.out.later B1.out).1 3 _ rfl
  go_wp2_with fail
  refine (KMS.eq w1 a2 a2' c2 c2' k.machines HR.out.2.2.1.m HR.out.2.2.1.ms (HR.out.1.later B1.out).m (HR.out.2.1.later B1.out).m).mono ?_
  rintro e w2 ⟨rfl, b2⟩
  have B2 : Hid (Below U.heap.size U w2) := bstep B1.out b2
  clear b2 p3 r3
  have p4 := (FA.out.later B2.out).1 4 _ rfl
  have r4 := (FB.out.later B2.out).1 4 _ rfl
  go_wp2_with fail
  refine (KTS.eq w2 a3 a3' c3 c3' k.txs HR.out.2.2.1.t HR.out.2.2.1.ts (HR.out.1.later B2.out).t (HR.out.2.1.later B2.out).t).mono ?_
  rintro e w3 ⟨rfl, b3⟩
  have B3 : Hid (Below U.heap.size U w3) := bstep B2.out b3
  clear b3 p4 r4
  have p5 := (FA.out.later B3.out).1 5 _ rfl
  have r5 := (FB.out.later B3.out).1 5 _ rfl
  go_wp2
  go_ret
  exact ⟨rfl, bstep HR.out.2.2.2 B3.out⟩
end Go.Proofs.YtdmpobegobfpjaaGreat
namespace Go.Proofs.YtdmpobegobfpjaaGreat
open Go.RowKit
open Go.Sort (grow)
structure Kd.Rest {D V : Type} (K : Kd D V) (X : World) (B b n : Nat) (ys : List D) (g : Nat → Nat → Prop) (j : Nat) : Prop where
  rm : Room X b (n * K.n)
  at_ : ∀ i d, j ≤ i → ys[i]? = some d → ∃ v, At X b (i * K.n) (K.cells v d) ∧ K.Ow X B v d (g i)
  ne : ∀ i q, i < ys.length → g i q → q ≠ b
  ap : ∀ i j q, i < ys.length → j < ys.length → i ≠ j → g i q → ¬ g j q
theorem Kd.Part.rest {D V : Type} {K : Kd D V} {X : World} {B b n : Nat} {ys : List D} {g : Nat → Nat → Prop} (h : K.Part X B b n ys g) : K.Rest X B b n ys g 0 := ⟨h.rm, fun i d _ hi => h.at_ i d hi, h.ne, h.ap⟩
theorem Kd.Rest.up {D V : Type} {K : Kd D V} {X : World} {B b n : Nat} {ys : List D} {g : Nat → Nat → Prop} {j : Nat} (h : K.Rest X B b n ys g j) : K.Rest X B b n ys g (j + 1) := ⟨h.rm, fun i d hj hi => h.at_ i d (by omega) hi, h.ne, h.ap⟩
theorem Kd.Rest.set {D V : Type} {K : Kd D V} {X : World} {B b n : Nat} {ys : List D} {g : Nat → Nat → Prop} {j o : Nat} (h : K.Rest X B b n ys g (j + 1)) (ho : o < (j + 1) * K.n) (u : Value) : K.Rest (X.setCell ⟨b, o, none⟩ u) B b n ys g (j + 1) := by
  refine ⟨h.rm.set _, fun i d hj hi => ?_, h.ne, h.ap⟩
  obtain ⟨v, h1, h2⟩ := h.at_ i d hj hi
  have hm := Nat.mul_le_mul_right K.n hj
  exact ⟨v, fun q u' e => (cell_set_other (by omega)).trans (h1 q u' e), K.keep h2 (by simp [World.setCell]) (fun q hq => Below.heap_setCell _ _ _ _ (h.ne i q (List.getElem?_eq_some_iff.1 hi).1 hq))⟩
theorem Kd.Rest.kept {D V : Type} {K : Kd D V} {X Y : World} {B b n : Nat} {ys : List D} {g : Nat → Nat → Prop} {j : Nat} {Q : Nat → Prop} (h : K.Rest X B b n ys g (j + 1)) (hk : KeptP Q X Y) (hb : b < X.heap.size) (hj : j < ys.length) (hQ : ∀ q, Q q → g j q) : K.Rest Y B b n ys g (j + 1) := by
  have hbb : Y.heap[b]? = X.heap[b]? := hk.block b hb (fun e => h.ne j b hj (hQ b e) rfl)
  refine ⟨room_blk h.rm hbb, fun i d hji hi => ?_, h.ne, h.ap⟩
  obtain ⟨v, h1, h2⟩ := h.at_ i d hji hi
  have hl := (List.getElem?_eq_some_iff.1 hi).1
  exact ⟨v, h1.of_block hbb, K.keep h2 hk.size (fun q hq => hk.block q (K.of h2 hq).2 (fun e => h.ap i j q hl hj (by omega) hq (hQ q e)))⟩
def cM (m : M4) : Nat := 1 + (offG cK m.copies m.copies.length + offG cR m.log m.log.length + m.cleared.length)
structure MRow (w X : World) (B b : Nat) (ms : List M4) (g : Nat → Nat → Prop) (P : Nat → Prop) (j : Nat) (a2 : Option Addr) (c2 : Nat) (a3 : Option Addr) (c3 : Nat) (PR PD : Nat → Prop) : Prop where
  r : OwnL 4 hdR lnR AtR X PR a2 (atM ms j).log
  n : OwnN X PD a3 (atM ms j).cleared
  e2 : X.cell? ⟨b, j * 4 + 2, none⟩ = some (.slice a2 (atM ms j).log.length c2)
  e3 : X.cell? ⟨b, j * 4 + 3, none⟩ = some (.slice a3 (atM ms j).cleared.length c3)
  rest : KMk.Rest X B b ms.length ms g (j + 1)
  kp : KeptP P w X
  lt : b < X.heap.size
def cT (t : tx.T7) : Nat := 5 + (5 * t.reads.length + 5 * t.sets.length)
structure TRow (w X : World) (B b : Nat) (ts : List tx.T7) (g : Nat → Nat → Prop) (P : Nat → Prop) (j : Nat) (a2 : Option Addr) (c2 : Nat) (PS : Nat → Prop) : Prop where
  s : tx.OwnSe X PS a2 (atT ts j).sets
  e5 : X.cell? ⟨b, j * 7 + 5, none⟩ = some (.slice a2 (atT ts j).sets.length c2)
  rest : KTk.Rest X B b ts.length ts g (j + 1)
  kp : KeptP P w X
  lt : b < X.heap.size
end Go.Proofs.YtdmpobegobfpjaaGreat
namespace Go.Proofs.YtdmpobegobfpjaaGreat
open Go.RowKit
def markAt (zss : List (List Int)) (k : Int) (i : Nat) : List Int := marks (atP zss i).length (k + lens (zss.take i))
def markPs (zss : List (List Int)) (k : Int) : List (List Int) := (List.range zss.length).map (markAt zss k)
structure Kept (g : Nat → Nat) (n : Nat) (w w' : World) : Prop where
  os : w'.os = w.os
  tape : w'.tape = w.tape
  output : w'.output = w.output
  size : w'.heap.size = w.heap.size
  block : ∀ q, (∀ i, i < n → q ≠ g i) → w'.heap[q]? = w.heap[q]?
theorem Kept.refl (g : Nat → Nat) (n : Nat) (w : World) : Kept g n w w := ⟨rfl, rfl, rfl, rfl, fun _ _ => rfl⟩
theorem Kept.only {g : Nat → Nat} {n i : Nat} {a w w' : World} (h : Kept g n a w) (hi : i < n) (ho : OnlyBlock (g i) w w') : Kept g n a w' :=
  ⟨ho.os.trans h.os, ho.tape.trans h.tape, ho.output.trans h.output, ho.size.trans h.size, fun q hq => (ho.block q (hq i hi)).trans (h.block q hq)⟩
theorem Kept.below {g : Nat → Nat} {n B : Nat} {w w' : World} (h : Kept g n w w') (hg : ∀ i, i < n → B ≤ g i) : Below B w w' :=
  ⟨h.os, h.tape, h.output, Nat.le_of_eq h.size.symm, fun k hk => h.block k (fun i hi e => by have := hg i hi; omega)⟩
end Go.Proofs.YtdmpobegobfpjaaGreat
namespace Go.Proofs.YtdmpobegobfpjaaGreat
open Go.RowKit
open Go.Sort (grow)
def cC (k : C6) : Nat := lens k.places + offG cM k.machines k.machines.length + offG cT k.txs k.txs.length
def endC (k : C6) (x : Int) : Int := x + (cC k : Int)
end Go.Proofs.YtdmpobegobfpjaaGreat