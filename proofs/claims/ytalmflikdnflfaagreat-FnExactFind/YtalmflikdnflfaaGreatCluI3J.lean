/- The transactions of a cluster, by the program. -/
import Derived.Test.YtalmflikdnflfaaGreatRows
import Derived.Test.YtalmflikdnflfaaGreatCluI2J
import Derived.WalkKit
import Derived.WalkSpells
import Derived.WalkLawsBesides
import Derived.Below
import Derived.Lib.QuietBelow
import Derived.BigQuiet
import Derived.Deep.CutRange
namespace Go.Proofs.YtalmflikdnflfaaGreat
open Go.RowKit
open Go.Sort (grow)
/-- Whether a transaction fits a cluster. -/
def fitB (k : C6) (t : tx.T7) : Bool := tx.txB t && decide (t.home < (k.machines.length : Int)) && decide (t.stamp ≤ k.clock) && readsB k.places.length t.reads && setsB k.places.length t.sets
set_option maxRecDepth 100000 in
set_option maxHeartbeats 4000000 in
theorem txFits_any (w : World) (t0 : Option Addr) (t1 : Nat) (t2 : Option Addr) (t3 : Nat) (t : tx.T7) (a1 : Option Addr) (c1 : Nat) (a2 : Option Addr) (c2 : Nat) (a3 : Option Addr) (c3 : Nat) (k : C6) (hl : tx.TL t) (h : tx.SlT w ⟨t0, t1, t2, t3⟩ t) : Calls Tryz.prog 96 #[.agg #[.int .i64 t.id, .int .i64 t.home, .int .i64 t.phase, .int .i64 t.count, .slice t0 t.reads.length t1, .slice t2 t.sets.length t3, .int .i64 t.stamp], .agg #[.int .i64 k.config, .int .i64 k.clock, .slice a1 k.places.length c1, .slice a2 k.machines.length c2, .slice a3 k.txs.length c3, .bool k.lost]] w fun e w' => e = .returned (.bool (fitB k t)) ∧ Below w.heap.size w w' := by
  obtain ⟨U0, hU0⟩ : ∃ Y, Y = w.alloc (.cells #[.int .i64 t.id, .int .i64 t.home, .int .i64 t.phase, .int .i64 t.count, .slice t0 t.reads.length t1, .slice t2 t.sets.length t3, .int .i64 t.stamp] 40) := ⟨_, rfl⟩
  have b0 : Below w.heap.size w U0 := by rw [hU0]; exact (Below.refl _ _).alloc (Nat.le_refl _) _
  have x0 : Bx U0 w.heap.size [.int .i64 t.id, .int .i64 t.home, .int .i64 t.phase, .int .i64 t.count, .slice t0 t.reads.length t1, .slice t2 t.sets.length t3, .int .i64 t.stamp] := by rw [hU0]; exact Bx.made w [.int .i64 t.id, .int .i64 t.home, .int .i64 t.phase, .int .i64 t.count, .slice t0 t.reads.length t1, .slice t2 t.sets.length t3, .int .i64 t.stamp] _
  have z0 : U0.heap.size = w.heap.size + 1 := by rw [hU0]; simp
  obtain ⟨U, hU⟩ : ∃ Y, Y = U0.alloc (.cells #[.int .i64 k.config, .int .i64 k.clock, .slice a1 k.places.length c1, .slice a2 k.machines.length c2, .slice a3 k.txs.length c3, .bool k.lost] 33) := ⟨_, rfl⟩
  have b1 : Below U0.heap.size U0 U := by rw [hU]; exact (Below.refl _ _).alloc (Nat.le_refl _) _
  have x1 : Bx U U0.heap.size [.int .i64 k.config, .int .i64 k.clock, .slice a1 k.places.length c1, .slice a2 k.machines.length c2, .slice a3 k.txs.length c3, .bool k.lost] := by rw [hU]; exact Bx.made U0 [.int .i64 k.config, .int .i64 k.clock, .slice a1 k.places.length c1, .slice a2 k.machines.length c2, .slice a3 k.txs.length c3, .bool k.lost] _
  rw [z0] at x1
  have bU : Below w.heap.size w U := bstep b0 b1
  have FA : Hid (Bx U w.heap.size [.int .i64 t.id, .int .i64 t.home, .int .i64 t.phase, .int .i64 t.count, .slice t0 t.reads.length t1, .slice t2 t.sets.length t3, .int .i64 t.stamp]) := x0.later b1
  have FB : Hid (Bx U (w.heap.size + 1) [.int .i64 k.config, .int .i64 k.clock, .slice a1 k.places.length c1, .slice a2 k.machines.length c2, .slice a3 k.txs.length c3, .bool k.lost]) := x1
  have HR : Hid (tx.SlT U ⟨t0, t1, t2, t3⟩ t ∧ tx.TL t ∧ Below w.heap.size w U) := ⟨h.later bU, hl, bU⟩
  have hc := tx.implTxOk_any U ⟨t0, t1, t2, t3⟩ t hl (h.later bU)
  simp only [tx.TV.val] at hc
  rw [hU0] at hU
  clear b0 x0 z0 b1 x1 bU hU0 h hl
  go_enter Tryz.func96, Tryz.ntmps96
  go_wp2_with fail
  rw [← hU]
  clear hU
  refine hc.mono ?_
  clear hc
  rintro e w1 ⟨rfl, b1⟩
  have B1 := hidOf b1
  clear b1
  cases hB : tx.txB t with
  | false =>
    have hb : Hid (fitB k t = false) := by unfold Hid; simp [fitB, hB]
    go_wp2
    go_ret
    exact ⟨by rw [hb.out]; rfl, bstep HR.out.2.2 B1.out⟩
  | true =>
  have q1 := (FA.out.later B1.out).1 1 _ rfl
  have q6 := (FA.out.later B1.out).1 6 _ rfl
  have q4 := (FA.out.later B1.out).1 4 _ rfl
  have r1 := (FB.out.later B1.out).1 1 _ rfl
  have r2 := (FB.out.later B1.out).1 2 _ rfl
  have r3 := (FB.out.later B1.out).1 3 _ rfl
  by_cases gh : t.home < (k.machines.length : Int)
  case neg =>
    have dh : decide ((k.machines.length : Int) ≤ t.home) = true := by simp <;> omega
    have hb : Hid (fitB k t = false) := by unfold Hid; simp [fitB, gh]
    go_wp2
    go_ret
    exact ⟨by rw [hb.out]; rfl, bstep HR.out.2.2 B1.out⟩
  have dh : decide ((k.machines.length : Int) ≤ t.home) = false := by simp <;> omega
  by_cases gs : t.stamp ≤ k.clock
  case neg =>
    have ds : decide (k.clock < t.stamp) = true := by simp <;> omega
    have hb : Hid (fitB k t = false) := by unfold Hid; simp [fitB, gs]
    go_wp2
    go_ret
    exact ⟨by rw [hb.out]; rfl, bstep HR.out.2.2 B1.out⟩
  have ds : decide (k.clock < t.stamp) = false := by simp <;> omega
  have HY : Hid (fitB k t = (readsB k.places.length t.reads && setsB k.places.length t.sets)) := by unfold Hid; simp [fitB, hB, gh, gs]
  have hc := noWithin w1 t0 t1 t.reads k.places.length HR.out.2.1.r (HR.out.1.later B1.out).r
  clear gh gs
  go_wp2_with fail
  refine hc.mono ?_
  clear hc q1 q6 q4 r1 r2 r3 dh ds
  rintro e w2 ⟨rfl, b2⟩
  have B2 : Hid (Below U.heap.size U w2) := bstep B1.out b2
  clear b2
  cases hR : readsB k.places.length t.reads with
  | false =>
    have hb : Hid (fitB k t = false) := by unfold Hid; rw [HY.out, hR]; rfl
    go_wp2
    go_ret
    exact ⟨by rw [hb.out]; rfl, bstep HR.out.2.2 B2.out⟩
  | true =>
  have q5 := (FA.out.later B2.out).1 5 _ rfl
  have r2 := (FB.out.later B2.out).1 2 _ rfl
  have hc := seWithin w2 t2 t3 t.sets k.places.length HR.out.2.1.s (HR.out.1.later B2.out).s
  have HZ : Hid (fitB k t = setsB k.places.length t.sets) := by unfold Hid; rw [HY.out, hR]; rfl
  go_wp2_with fail
  refine hc.mono ?_
  clear hc q5 r2
  rintro e w3 ⟨rfl, b3⟩
  have B3 : Hid (Below U.heap.size U w3) := bstep B2.out b3
  clear b3
  go_wp2
  go_ret
  exact ⟨by rw [HZ.out]; simp, bstep HR.out.2.2 B3.out⟩
set_option maxRecDepth 100000 in
set_option maxHeartbeats 2000000 in
theorem txWrong (w : World) (g : Nat) (t0 : Option Addr) (t1 : Nat) (t2 : Option Addr) (t3 : Nat) (t : tx.T7) (a1 : Option Addr) (c1 : Nat) (a2 : Option Addr) (c2 : Nat) (a3 : Option Addr) (c3 : Nat) (k : C6) (hl : tx.TL t) (h : tx.SlT w ⟨t0, t1, t2, t3⟩ t) (hg : Bx w g [.int .i64 k.config, .int .i64 k.clock, .slice a1 k.places.length c1, .slice a2 k.machines.length c2, .slice a3 k.txs.length c3, .bool k.lost]) : Calls Tryz.prog 95 #[.agg #[.int .i64 t.id, .int .i64 t.home, .int .i64 t.phase, .int .i64 t.count, .slice t0 t.reads.length t1, .slice t2 t.sets.length t3, .int .i64 t.stamp], .pointer (some ⟨g, 0, none⟩)] w fun e w' => e = .returned (.bool (!fitB k t)) ∧ Below w.heap.size w w' := by
  obtain ⟨U, hU⟩ : ∃ Y, Y = w.alloc (.cells #[.int .i64 t.id, .int .i64 t.home, .int .i64 t.phase, .int .i64 t.count, .slice t0 t.reads.length t1, .slice t2 t.sets.length t3, .int .i64 t.stamp] 40) := ⟨_, rfl⟩
  have b0 : Below w.heap.size w U := by rw [hU]; exact (Below.refl _ _).alloc (Nat.le_refl _) _
  have hc := txFits_any U t0 t1 t2 t3 t a1 c1 a2 c2 a3 c3 k hl (h.later b0)
  have hx := hg.later b0
  have p0 := hx.1 0 _ rfl
  have p1 := hx.1 1 _ rfl
  have p2 := hx.1 2 _ rfl
  have p3 := hx.1 3 _ rfl
  have p4 := hx.1 4 _ rfl
  have p5 := hx.1 5 _ rfl
  have KB := hidOf b0
  rw [hU] at p0 p1 p2 p3 p4 p5
  clear b0 hx hg h hl
  go_enter Tryz.func95, Tryz.ntmps95
  go_wp2_with fail
  rw [← hU]
  clear hU p0 p1 p2 p3 p4 p5
  refine hc.mono ?_
  clear hc
  rintro e w1 ⟨rfl, b1⟩
  have B1 := hidOf b1
  clear b1
  go_wp2
  go_ret
  exact ⟨rfl, bstep KB.out B1.out⟩
set_option maxHeartbeats 1000000 in
theorem idOf_any (w : World) (t0 : Option Addr) (t1 : Nat) (t2 : Option Addr) (t3 : Nat) (t : tx.T7) : Calls Tryz.prog 98 #[.agg #[.int .i64 t.id, .int .i64 t.home, .int .i64 t.phase, .int .i64 t.count, .slice t0 t.reads.length t1, .slice t2 t.sets.length t3, .int .i64 t.stamp]] w fun e w' => e = .returned (.int .i64 t.id) ∧ Below w.heap.size w w' := by
  go_enter Tryz.func98, Tryz.ntmps98
  go_wp2
  go_ret
  exact ⟨rfl, (Below.refl _ _).alloc (Nat.le_refl _) _⟩
def upT (ts : List tx.T7) (i : Nat) : Bool := decide (i = 0) || decide ((atT ts (i - 1)).id < (atT ts i).id)
theorem bstep' {A X Y : World} (h : Below A.heap.size A X) (b : Below X.heap.size X Y) : Below A.heap.size A Y := bstep h b
set_option maxRecDepth 100000 in
set_option maxHeartbeats 4000000 in
theorem risesT_any (w : World) (a : Option Addr) (cap : Nat) (ts : List tx.T7) (hn : ts.length ≤ maxLen) (hs : KTk.RdS w a ts) :
    Calls Tryz.prog 97 #[.slice a ts.length cap, .func (.func 98) #[] #[]] w fun e w' => e = .returned (.bool ((List.range ts.length).all (upT ts))) ∧ Below w.heap.size w w' := by
  unfold maxLen at hn
  go_enter Tryz.func97, Tryz.ntmps97
  go_wp2
  go_loopw [5] (fun i wr => ∃ j : Nat, (j + 1 ≤ ts.length ∨ j = 0) ∧ i = .int .i64 (((j + 1 : Nat)) : Int) ∧ Below w.heap.size w wr ∧ (List.range (j + 1)).all (upT ts) = true) (fun i _ => ts.length - (intOf i).toNat)
  case atStart => exact ⟨0, .inr rfl, rfl, Below.refl _ _, by simp [upT]⟩
  case round =>
    obtain ⟨j, hj, rfl, hbl, hall⟩ := hrel
    have K : Hid (Below w.heap.size w wr ∧ (List.range (j + 1)).all (upT ts) = true) := ⟨hbl, hall⟩
    by_cases hlt : j + 1 < ts.length
    · rcases hs with hs | ⟨b, off, rfl, hb, h1⟩
      · rw [hs] at hlt; simp at hlt
      obtain ⟨⟨x0', x1', x2', x3'⟩, hx, _⟩ := h1 (j + 1) _ (atT_of hlt)
      obtain ⟨⟨y0', y1', y2', y3'⟩, hy, _⟩ := h1 j _ (atT_of (by omega))
      have x0 : ∀ dd os, (grow (redrawn wr dd) os).cell? ⟨b, off + (j + 1) * 7, none⟩ = some (.int .i64 (atT ts (j + 1)).id) := fun dd os => ((bstep' K.out.1 (below_regrown wr dd os)).cell (p := ⟨b, off + (j + 1) * 7, none⟩) hb).trans (hx 0 _ rfl)
      have x1 : ∀ dd os, (grow (redrawn wr dd) os).cell? ⟨b, off + (j + 1) * 7 + 1, none⟩ = some (.int .i64 (atT ts (j + 1)).home) := fun dd os => ((bstep' K.out.1 (below_regrown wr dd os)).cell (p := ⟨b, off + (j + 1) * 7 + 1, none⟩) hb).trans (hx 1 _ rfl)
      have x2 : ∀ dd os, (grow (redrawn wr dd) os).cell? ⟨b, off + (j + 1) * 7 + 2, none⟩ = some (.int .i64 (atT ts (j + 1)).phase) := fun dd os => ((bstep' K.out.1 (below_regrown wr dd os)).cell (p := ⟨b, off + (j + 1) * 7 + 2, none⟩) hb).trans (hx 2 _ rfl)
      have x3 : ∀ dd os, (grow (redrawn wr dd) os).cell? ⟨b, off + (j + 1) * 7 + 3, none⟩ = some (.int .i64 (atT ts (j + 1)).count) := fun dd os => ((bstep' K.out.1 (below_regrown wr dd os)).cell (p := ⟨b, off + (j + 1) * 7 + 3, none⟩) hb).trans (hx 3 _ rfl)
      have x4 : ∀ dd os, (grow (redrawn wr dd) os).cell? ⟨b, off + (j + 1) * 7 + 4, none⟩ = some (.slice x0' (atT ts (j + 1)).reads.length x1') := fun dd os => ((bstep' K.out.1 (below_regrown wr dd os)).cell (p := ⟨b, off + (j + 1) * 7 + 4, none⟩) hb).trans (hx 4 _ rfl)
      have x5 : ∀ dd os, (grow (redrawn wr dd) os).cell? ⟨b, off + (j + 1) * 7 + 5, none⟩ = some (.slice x2' (atT ts (j + 1)).sets.length x3') := fun dd os => ((bstep' K.out.1 (below_regrown wr dd os)).cell (p := ⟨b, off + (j + 1) * 7 + 5, none⟩) hb).trans (hx 5 _ rfl)
      have x6 : ∀ dd os, (grow (redrawn wr dd) os).cell? ⟨b, off + (j + 1) * 7 + 6, none⟩ = some (.int .i64 (atT ts (j + 1)).stamp) := fun dd os => ((bstep' K.out.1 (below_regrown wr dd os)).cell (p := ⟨b, off + (j + 1) * 7 + 6, none⟩) hb).trans (hx 6 _ rfl)
      have y0 : ∀ dd os, (grow (redrawn wr dd) os).cell? ⟨b, off + j * 7, none⟩ = some (.int .i64 (atT ts j).id) := fun dd os => ((bstep' K.out.1 (below_regrown wr dd os)).cell (p := ⟨b, off + j * 7, none⟩) hb).trans (hy 0 _ rfl)
      have y1 : ∀ dd os, (grow (redrawn wr dd) os).cell? ⟨b, off + j * 7 + 1, none⟩ = some (.int .i64 (atT ts j).home) := fun dd os => ((bstep' K.out.1 (below_regrown wr dd os)).cell (p := ⟨b, off + j * 7 + 1, none⟩) hb).trans (hy 1 _ rfl)
      have y2 : ∀ dd os, (grow (redrawn wr dd) os).cell? ⟨b, off + j * 7 + 2, none⟩ = some (.int .i64 (atT ts j).phase) := fun dd os => ((bstep' K.out.1 (below_regrown wr dd os)).cell (p := ⟨b, off + j * 7 + 2, none⟩) hb).trans (hy 2 _ rfl)
      have y3 : ∀ dd os, (grow (redrawn wr dd) os).cell? ⟨b, off + j * 7 + 3, none⟩ = some (.int .i64 (atT ts j).count) := fun dd os => ((bstep' K.out.1 (below_regrown wr dd os)).cell (p := ⟨b, off + j * 7 + 3, none⟩) hb).trans (hy 3 _ rfl)
      have y4 : ∀ dd os, (grow (redrawn wr dd) os).cell? ⟨b, off + j * 7 + 4, none⟩ = some (.slice y0' (atT ts j).reads.length y1') := fun dd os => ((bstep' K.out.1 (below_regrown wr dd os)).cell (p := ⟨b, off + j * 7 + 4, none⟩) hb).trans (hy 4 _ rfl)
      have y5 : ∀ dd os, (grow (redrawn wr dd) os).cell? ⟨b, off + j * 7 + 5, none⟩ = some (.slice y2' (atT ts j).sets.length y3') := fun dd os => ((bstep' K.out.1 (below_regrown wr dd os)).cell (p := ⟨b, off + j * 7 + 5, none⟩) hb).trans (hy 5 _ rfl)
      have y6 : ∀ dd os, (grow (redrawn wr dd) os).cell? ⟨b, off + j * 7 + 6, none⟩ = some (.int .i64 (atT ts j).stamp) := fun dd os => ((bstep' K.out.1 (below_regrown wr dd os)).cell (p := ⟨b, off + j * 7 + 6, none⟩) hb).trans (hy 6 _ rfl)
      have cQ : ∀ d os, Calls Tryz.prog 98 #[.agg #[.int .i64 (atT ts (j + 1)).id, .int .i64 (atT ts (j + 1)).home, .int .i64 (atT ts (j + 1)).phase, .int .i64 (atT ts (j + 1)).count, .slice x0' (atT ts (j + 1)).reads.length x1', .slice x2' (atT ts (j + 1)).sets.length x3', .int .i64 (atT ts (j + 1)).stamp]] (grow (redrawn wr d) os) fun e w'' => e = .returned (.int .i64 (atT ts (j + 1)).id) ∧ ∃ p : Regrown, w'' = grow (redrawn wr p.d) p.os := fun d os => Calls.regrown_of (idOf_any _ _ _ _ _ _)
      have cR : ∀ d os, Calls Tryz.prog 98 #[.agg #[.int .i64 (atT ts j).id, .int .i64 (atT ts j).home, .int .i64 (atT ts j).phase, .int .i64 (atT ts j).count, .slice y0' (atT ts j).reads.length y1', .slice y2' (atT ts j).sets.length y3', .int .i64 (atT ts j).stamp]] (grow (redrawn wr d) os) fun e w'' => e = .returned (.int .i64 (atT ts j).id) ∧ ∃ p : Regrown, w'' = grow (redrawn wr p.d) p.os := fun d os => Calls.regrown_of (idOf_any _ _ _ _ _ _)
      have hj0 : (j : Int) < (ts.length : Int) := by omega
      have hj1 : ((j + 1 : Nat) : Int) < (ts.length : Int) := by omega
      have HL : Hid (j + 1 < ts.length) := hlt
      have U : Hid (upT ts (j + 1) = decide ((atT ts j).id < (atT ts (j + 1)).id)) := by unfold Hid; simp [upT]
      clear hx hy hbl hall h1 hlt
      generalize atT ts (j + 1) = tx1 at *
      generalize atT ts j = tx0 at *
      by_cases hq : tx1.id ≤ tx0.id
      · have hq1 : decide (tx1.id ≤ tx0.id) = true := by simp [hq]
        have hU : upT ts (j + 1) = false := by rw [U.out]; simp; omega
        clear hq
        go_wp2_with fail
        refine wp_region_quiet_below (by kernel_rfl) (by kernel_rfl) ?_
        repeat (go_big_quiet_step (first | (go_at_call_of 98 (Value.agg #[.int .i64 tx1.id, .int .i64 tx1.home, .int .i64 tx1.phase, .int .i64 tx1.count, .slice x0' tx1.reads.length x1', .slice x2' tx1.sets.length x3', .int .i64 tx1.stamp]); exact cQ _ _) | (go_at_call_of 98 (Value.agg #[.int .i64 tx0.id, .int .i64 tx0.home, .int .i64 tx0.phase, .int .i64 tx0.count, .slice y0' tx0.reads.length y1', .slice y2' tx0.sets.length y3', .int .i64 tx0.stamp]); exact cR _ _)))
        refine wpQuiet_nil ?_
        intro _ hw'
        obtain ⟨⟨dq, osq⟩, hw''⟩ := hw'
        subst hw''
        have bq := below_regrown wr dq osq
        go_wp2
        go_ret
        exact ⟨by rw [all_off (f := upT ts) HL.out hU]; rfl, K.out.1.trans (bq.mono K.out.1.size)⟩
      · have hq1 : decide (tx1.id ≤ tx0.id) = false := by simp; omega
        have hU : upT ts (j + 1) = true := by rw [U.out]; simp; omega
        clear hq
        go_wp2_with fail
        refine wp_region_quiet_below (by kernel_rfl) (by kernel_rfl) ?_
        repeat (go_big_quiet_step (first | (go_at_call_of 98 (Value.agg #[.int .i64 tx1.id, .int .i64 tx1.home, .int .i64 tx1.phase, .int .i64 tx1.count, .slice x0' tx1.reads.length x1', .slice x2' tx1.sets.length x3', .int .i64 tx1.stamp]); exact cQ _ _) | (go_at_call_of 98 (Value.agg #[.int .i64 tx0.id, .int .i64 tx0.home, .int .i64 tx0.phase, .int .i64 tx0.count, .slice y0' tx0.reads.length y1', .slice y2' tx0.sets.length y3', .int .i64 tx0.stamp]); exact cR _ _)))
        refine wpQuiet_nil ?_
        intro _ hw'
        obtain ⟨⟨dq, osq⟩, hw''⟩ := hw'
        subst hw''
        have bq := below_regrown wr dq osq
        go_wp2
        exact ⟨⟨j + 1, .inl (by have := HL.out; omega), by simp, K.out.1.trans (bq.mono K.out.1.size), all_on (f := upT ts) K.out.2 hU⟩, by have := HL.out; simp [intOf]; omega⟩
    · have hd : decide (((j + 1 : Nat) : Int) < (ts.length : Int)) = false := by simp; omega
      have hA : (List.range ts.length).all (upT ts) = true := by
        by_cases h0 : ts.length = 0
        · rw [h0]; rfl
        · have : ts.length = j + 1 := by omega
          rw [this]; exact hall
      have HA := hidOf hA
      clear hs hall hA
      go_wp2
      go_ret
      exact ⟨by rw [HA.out]; rfl, hbl⟩
/-- What the function answers of each element, wherever it lies. -/
def idxTF (w : World) (xs : List tx.T7) (g : Nat) (f : Nat → Bool) : Prop :=
  ∀ (X : World) (i : Nat) (t0 : Option Addr) (t1 : Nat) (t2 : Option Addr) (t3 : Nat), Below w.heap.size w X → i < xs.length → KTk.Rd X ⟨t0, t1, t2, t3⟩ (atT xs i) → Calls Tryz.prog 95 #[.agg #[.int .i64 (atT xs i).id, .int .i64 (atT xs i).home, .int .i64 (atT xs i).phase, .int .i64 (atT xs i).count, .slice t0 (atT xs i).reads.length t1, .slice t2 (atT xs i).sets.length t3, .int .i64 (atT xs i).stamp], .pointer (some ⟨g, 0, none⟩)] X fun e w' => e = .returned (.bool (f i)) ∧ Below X.heap.size X w'
set_option maxRecDepth 100000 in
set_option maxHeartbeats 2000000 in
theorem idxT (w : World) (a : Option Addr) (cap : Nat) (xs : List tx.T7) (g : Nat) (f : Nat → Bool) (hn : xs.length ≤ maxLen) (hs : KTk.RdS w a xs) (hf : idxTF w xs g f) :
    Calls Tryz.prog 140 #[.slice a xs.length cap, .func (.func 95) #[] #[.pointer (some ⟨g, 0, none⟩)]] w fun e w' => (∃ i : Int, e = .returned (.int .i64 i) ∧ FirstAt f xs.length i) ∧ Below w.heap.size w w' := by
  unfold maxLen at hn
  have HF := hidOf hf
  clear hf
  go_enter Tryz.func140, Tryz.ntmps140
  go_wp2
  go_loopw [8] (fun v wr => ∃ j : Nat, j ≤ xs.length ∧ v = .int .i64 j ∧ Below w.heap.size w wr ∧ ∀ i, i < j → f i = false) (fun v _ => xs.length - (intOf v).toNat)
  case atStart => exact ⟨0, Nat.zero_le _, rfl, Below.refl _ _, fun i h => absurd h (by omega)⟩
  case round =>
    obtain ⟨j, hj, rfl, hbl, hall⟩ := hrel
    by_cases hlt : j < xs.length
    · rcases hs with hs | ⟨b, off, rfl, hb, h1⟩
      · rw [hs] at hlt; simp at hlt
      obtain ⟨⟨t0, t1, t2, t3⟩, hat, hrd⟩ := h1 j _ (atT_of hlt)
      have e0 : wr.cell? ⟨b, off + j * 7, none⟩ = some (.int .i64 (atT xs j).id) := (hbl.cell (p := ⟨b, off + j * 7, none⟩) hb).trans (hat 0 _ rfl)
      have e1 : wr.cell? ⟨b, off + j * 7 + 1, none⟩ = some (.int .i64 (atT xs j).home) := (hbl.cell (p := ⟨b, off + j * 7 + 1, none⟩) hb).trans (hat 1 _ rfl)
      have e2 : wr.cell? ⟨b, off + j * 7 + 2, none⟩ = some (.int .i64 (atT xs j).phase) := (hbl.cell (p := ⟨b, off + j * 7 + 2, none⟩) hb).trans (hat 2 _ rfl)
      have e3 : wr.cell? ⟨b, off + j * 7 + 3, none⟩ = some (.int .i64 (atT xs j).count) := (hbl.cell (p := ⟨b, off + j * 7 + 3, none⟩) hb).trans (hat 3 _ rfl)
      have e4 : wr.cell? ⟨b, off + j * 7 + 4, none⟩ = some (.slice t0 (atT xs j).reads.length t1) := (hbl.cell (p := ⟨b, off + j * 7 + 4, none⟩) hb).trans (hat 4 _ rfl)
      have e5 : wr.cell? ⟨b, off + j * 7 + 5, none⟩ = some (.slice t2 (atT xs j).sets.length t3) := (hbl.cell (p := ⟨b, off + j * 7 + 5, none⟩) hb).trans (hat 5 _ rfl)
      have e6 : wr.cell? ⟨b, off + j * 7 + 6, none⟩ = some (.int .i64 (atT xs j).stamp) := (hbl.cell (p := ⟨b, off + j * 7 + 6, none⟩) hb).trans (hat 6 _ rfl)
      have hw := HF.out wr j t0 t1 t2 t3 hbl hlt (KTk.later hrd hbl)
      have KA : Hid ((∀ i, i < j → f i = false) ∧ Below w.heap.size w wr) := ⟨hall, hbl⟩
      have jn : (j : Int) < (xs.length : Int) := by omega
      clear h1 hat hrd hall hbl
      cases hp : f j with
      | true =>
        rw [hp] at hw
        go_wp2_with fail
        refine hw.mono ?_
        clear hw
        rintro e w1 ⟨rfl, b1⟩
        go_wp2
        go_ret
        exact ⟨⟨_, rfl, .inr ⟨j, rfl, hlt, hp, KA.out.1⟩⟩, KA.out.2.trans (b1.mono KA.out.2.size)⟩
      | false =>
        rw [hp] at hw
        go_wp2_with fail
        refine hw.mono ?_
        clear hw
        rintro e w1 ⟨rfl, b1⟩
        go_wp2
        exact ⟨⟨j + 1, by omega, by simp, KA.out.2.trans (b1.mono KA.out.2.size), fun i hi => by
          by_cases e : i = j
          · rw [e]; exact hp
          · exact KA.out.1 i (by omega)⟩, by simp [intOf]; omega⟩
    · obtain rfl : j = xs.length := by omega
      have hd : decide ((xs.length : Int) < (xs.length : Int)) = false := by simp
      have KA : Hid ((∀ i, i < xs.length → f i = false) ∧ Below w.heap.size w wr) := ⟨hall, hbl⟩
      clear hall hbl hs
      go_wp2
      go_ret
      exact ⟨⟨_, rfl, .inl ⟨rfl, KA.out.1⟩⟩, KA.out.2⟩
set_option maxHeartbeats 1000000 in
theorem idxT_has (w : World) (a : Option Addr) (cap : Nat) (xs : List tx.T7) (g : Nat) (f : Nat → Bool) (hn : xs.length ≤ maxLen) (hs : KTk.RdS w a xs) (hf : idxTF w xs g f) :
    Calls Tryz.prog 99 #[.slice a xs.length cap, .func (.func 95) #[] #[.pointer (some ⟨g, 0, none⟩)]] w fun e w' => e = .returned (.bool (!((List.range xs.length).all fun j => !f j))) ∧ Below w.heap.size w w' := by
  have hc := idxT w a cap xs g f hn hs hf
  clear hs hf
  go_enter Tryz.func99, Tryz.ntmps99
  go_wp2_with fail
  refine hc.mono ?_
  clear hc
  rintro e w1 ⟨⟨i, rfl, hi⟩, b1⟩
  have h := first_has hi
  have KB := hidOf b1
  clear b1 hi
  go_wp2
  go_ret
  exact ⟨by rw [← h]; rfl, KB.out⟩
theorem txsB_eq (k : C6) : txsB k = ((List.range k.txs.length).all (upT k.txs) && (List.range k.txs.length).all (fun i => fitB k (atT k.txs i))) := by
  unfold txsB
  rw [← all_and]
  apply all_congr
  intro i _
  unfold txAtB upT fitB
  cases tx.txB (atT k.txs i) <;> cases decide (i = 0) <;> cases decide ((atT k.txs (i - 1)).id < (atT k.txs i).id) <;> simp
set_option maxRecDepth 100000 in
set_option maxHeartbeats 2000000 in
theorem txsFit_any (w : World) (a1 : Option Addr) (c1 : Nat) (a2 : Option Addr) (c2 : Nat) (a3 : Option Addr) (c3 : Nat) (k : C6) (hl : KCl.L k) (h : KCl.Rd w a1 c1 a2 c2 a3 c3 k) : Calls Tryz.prog 46 #[.agg #[.int .i64 k.config, .int .i64 k.clock, .slice a1 k.places.length c1, .slice a2 k.machines.length c2, .slice a3 k.txs.length c3, .bool k.lost]] w fun e w' => e = .returned (.bool (decide (k.txs.length ≤ 60) && txsB k)) ∧ Below w.heap.size w w' := by
  obtain ⟨U, hU⟩ : ∃ Y, Y = w.alloc (.cells #[.int .i64 k.config, .int .i64 k.clock, .slice a1 k.places.length c1, .slice a2 k.machines.length c2, .slice a3 k.txs.length c3, .bool k.lost] 33) := ⟨_, rfl⟩
  have b0 : Below w.heap.size w U := by rw [hU]; exact (Below.refl _ _).alloc (Nat.le_refl _) _
  have FA : Hid (Bx U w.heap.size [.int .i64 k.config, .int .i64 k.clock, .slice a1 k.places.length c1, .slice a2 k.machines.length c2, .slice a3 k.txs.length c3, .bool k.lost]) := by rw [hU]; exact Bx.made w [.int .i64 k.config, .int .i64 k.clock, .slice a1 k.places.length c1, .slice a2 k.machines.length c2, .slice a3 k.txs.length c3, .bool k.lost] _
  have HR : Hid (KCl.Rd U a1 c1 a2 c2 a3 c3 k ∧ KCl.L k) := ⟨h.later b0, hl⟩
  have BW : Hid (Below w.heap.size w U) := b0
  have lt := hl.t
  unfold maxLen at lt
  have p4 := FA.out.1 4 _ rfl
  rw [hU] at p4
  clear b0 h hl
  by_cases g5 : k.txs.length ≤ 60
  case neg =>
    have d5 : decide ((k.txs.length : Int) ≤ 60) = false := by simp <;> omega
    have hb : (decide (k.txs.length ≤ 60) && txsB k) = false := by simp [g5]
    rw [hb]
    rw [hU] at BW
    clear FA HR hU hb
    go_enter Tryz.func46, Tryz.ntmps46
    go_wp2
    go_ret
    exact ⟨rfl, BW.out⟩
  have d5 : decide ((k.txs.length : Int) ≤ 60) = true := by simp <;> omega
  have HB : Hid ((decide (k.txs.length ≤ 60) && txsB k) = ((List.range k.txs.length).all (upT k.txs) && (List.range k.txs.length).all (fun i => fitB k (atT k.txs i)))) := by unfold Hid; rw [← txsB_eq]; simp [g5]
  have hc := risesT_any U a3 c3 k.txs HR.out.2.t HR.out.1.t
  go_enter Tryz.func46, Tryz.ntmps46
  go_wp2_with fail
  rw [← hU]
  clear hU p4
  refine hc.mono ?_
  clear hc
  rintro e w1 ⟨rfl, b1⟩
  have B1 := hidOf b1
  clear b1
  cases hR : (List.range k.txs.length).all (upT k.txs) with
  | false =>
    go_wp2
    go_ret
    exact ⟨by rw [HB.out, hR]; rfl, bstep BW.out B1.out⟩
  | true =>
  have p4 := (FA.out.later B1.out).1 4 _ rfl
  have hc := idxT_has w1 a3 c3 k.txs w.heap.size (fun i => !fitB k (atT k.txs i)) HR.out.2.t (HR.out.1.later B1.out).t (fun X i t0 t1 t2 t3 hb hi hr => txWrong X w.heap.size t0 t1 t2 t3 (atT k.txs i) a1 c1 a2 c2 a3 c3 k (HR.out.2.ts _ (List.mem_of_getElem? (atT_of hi))) hr (FA.out.later (bstep B1.out hb)))
  have he : (!((List.range k.txs.length).all fun j => !(fun i => !fitB k (atT k.txs i)) j)) = !((List.range k.txs.length).all fun i => fitB k (atT k.txs i)) := by simp
  rw [he] at hc
  clear he
  have HZ : Hid ((decide (k.txs.length ≤ 60) && txsB k) = (List.range k.txs.length).all (fun i => fitB k (atT k.txs i))) := by unfold Hid; rw [HB.out, hR]; rfl
  generalize ((List.range k.txs.length).all fun i => fitB k (atT k.txs i)) = BB at *
  go_wp2_with fail
  refine hc.mono ?_
  clear hc p4
  rintro e w2 ⟨rfl, b2⟩
  have B2 : Hid (Below U.heap.size U w2) := bstep B1.out b2
  clear b2
  go_wp2
  go_ret
  exact ⟨by rw [HZ.out]; simp, bstep BW.out B2.out⟩
end Go.Proofs.YtalmflikdnflfaaGreat
