/- CluI3; CluI4; CluI5; CluI6; CluI1; PlacesI1; PlacesIa; CluI7; HomL; Cmp; FindT; AtId; DedD; DedO: joined. -/
import Derived.Test.YtnhjgomfkfehgaaGreatDoorRows
import Derived.Test.YtnhjgomfkfehgaaGreatDoorJ10ExactCommit
import Derived.WalkKit
import Derived.WalkSpells
import Derived.WalkLawsBesides
import Derived.Below
import Derived.Lib.QuietBelow
import Derived.BigQuiet
import Derived.Deep.CutRange
import Derived.Test.YtnhjgomfkfehgaaGreatDoorJ6ExactCommit
import Derived.Test.YtnhjgomfkfehgaaGreatDoorJ5ExactCommit
import Derived.Stop.Asserts
import Derived.Test.YtnhjgomfkfehgaaGreatDoorJ7ExactCommit
import Derived.Deep.QuietTactic
import Derived.Test.YtnhjgomfkfehgaaGreatDoorJ8ExactCommit
import Derived.Test.YtnhjgomfkfehgaaGreatDoorJ9ExactCommit
import Derived.LaidEql
import Derived.RowKitTokens
import Derived.Deep.Upon
import Derived.Deep.RegionWith
namespace Go.Proofs.YtnhjgomfkfehgaaGreatDoor
open Go.RowKit
open Go.Sort (grow)
def fitB (k : C6) (t : tx.T7) : Bool := tx.txB t && decide (t.home < (k.machines.length : Int)) && decide (t.stamp ≤ k.clock) && readsB k.places.length t.reads && setsB k.places.length t.sets
set_option maxRecDepth 100000 in
set_option maxHeartbeats 4000000 in
theorem txFits_any (w : World) (t0 : Option Addr) (t1 : Nat) (t2 : Option Addr) (t3 : Nat) (t : tx.T7) (a1 : Option Addr) (c1 : Nat) (a2 : Option Addr) (c2 : Nat) (a3 : Option Addr) (c3 : Nat) (k : C6) (hl : tx.TL t) (h : tx.SlT w ⟨t0, t1, t2, t3⟩ t) : Calls Tryz.prog 237 #[.agg #[.int .i64 t.id, .int .i64 t.home, .int .i64 t.phase, .int .i64 t.count, .slice t0 t.reads.length t1, .slice t2 t.sets.length t3, .int .i64 t.stamp], .agg #[.int .i64 k.config, .int .i64 k.clock, .slice a1 k.places.length c1, .slice a2 k.machines.length c2, .slice a3 k.txs.length c3, .bool k.lost]] w fun e w' => e = .returned (.bool (fitB k t)) ∧ Below w.heap.size w w' := by
  obtain ⟨U0, hU0⟩ : ∃ Y, Y = w.alloc (.cells #[.int .i64 t.id, .int .i64 t.home, .int .i64 t.phase, .int .i64 t.count, .slice t0 t.reads.length t1, .slice t2 t.sets.length t3, .int .i64 t.stamp] 56) := ⟨_, rfl⟩
  have b0 : Below w.heap.size w U0 := by rw [hU0]; exact (Below.refl _ _).alloc (Nat.le_refl _) _
  have x0 : Bx U0 w.heap.size [.int .i64 t.id, .int .i64 t.home, .int .i64 t.phase, .int .i64 t.count, .slice t0 t.reads.length t1, .slice t2 t.sets.length t3, .int .i64 t.stamp] := by rw [hU0]; exact Bx.made w [.int .i64 t.id, .int .i64 t.home, .int .i64 t.phase, .int .i64 t.count, .slice t0 t.reads.length t1, .slice t2 t.sets.length t3, .int .i64 t.stamp] _
  have z0 : U0.heap.size = w.heap.size + 1 := by rw [hU0]; simp
  obtain ⟨U, hU⟩ : ∃ Y, Y = U0.alloc (.cells #[.int .i64 k.config, .int .i64 k.clock, .slice a1 k.places.length c1, .slice a2 k.machines.length c2, .slice a3 k.txs.length c3, .bool k.lost] 32) := ⟨_, rfl⟩
  have b1 : Below U0.heap.size U0 U := by rw [hU]; exact (Below.refl _ _).alloc (Nat.le_refl _) _
  have x1 : Bx U U0.heap.size [.int .i64 k.config, .int .i64 k.clock, .slice a1 k.places.length c1, .slice a2 k.machines.length c2, .slice a3 k.txs.length c3, .bool k.lost] := by rw [hU]; exact Bx.made U0 [.int .i64 k.config, .int .i64 k.clock, .slice a1 k.places.length c1, .slice a2 k.machines.length c2, .slice a3 k.txs.length c3, .bool k.lost] _
  rw [z0] at x1
  have bU : Below w.heap.size w U := bstep b0 b1
  have FA : Hid (Bx U w.heap.size [.int .i64 t.id, .int .i64 t.home, .int .i64 t.phase, .int .i64 t.count, .slice t0 t.reads.length t1, .slice t2 t.sets.length t3, .int .i64 t.stamp]) := x0.later b1
  have FB : Hid (Bx U (w.heap.size + 1) [.int .i64 k.config, .int .i64 k.clock, .slice a1 k.places.length c1, .slice a2 k.machines.length c2, .slice a3 k.txs.length c3, .bool k.lost]) := x1
  have HR : Hid (tx.SlT U ⟨t0, t1, t2, t3⟩ t ∧ tx.TL t ∧ Below w.heap.size w U) := ⟨h.later bU, hl, bU⟩
  have hc := tx.implTxOk_any U ⟨t0, t1, t2, t3⟩ t hl (h.later bU)
  simp only [tx.TV.val] at hc
  rw [hU0] at hU
  clear b0 x0 z0 b1 x1 bU hU0 h hl
  go_enter Tryz.func237, Tryz.ntmps237
  go_wp2_with fail
  rw [← hU]
  clear hU
  refine hc.mono ?_
  clear hc
  rintro e w1 ⟨rfl, b1⟩
  have B1 := hidOf b1
  clear b1
  cases hB : tx.txB t with
  | false =>
    have hb : Hid (fitB k t = false) := by unfold Hid; simp [fitB, hB]
    go_wp2
    go_ret
    exact ⟨by rw [hb.out]; rfl, bstep HR.out.2.2 B1.out⟩
  | true =>
  have q1 := (FA.out.later B1.out).1 1 _ rfl
  have q6 := (FA.out.later B1.out).1 6 _ rfl
  have q4 := (FA.out.later B1.out).1 4 _ rfl
  have r1 := (FB.out.later B1.out).1 1 _ rfl
  have r2 := (FB.out.later B1.out).1 2 _ rfl
  have r3 := (FB.out.later B1.out).1 3 _ rfl
  by_cases gh : t.home < (k.machines.length : Int)
  case neg =>
    have dh : decide ((k.machines.length : Int) ≤ t.home) = true := by simp <;> omega
    have hb : Hid (fitB k t = false) := by unfold Hid; simp [fitB, gh]
    go_wp2
    go_ret
    exact ⟨by rw [hb.out]; rfl, bstep HR.out.2.2 B1.out⟩
  have dh : decide ((k.machines.length : Int) ≤ t.home) = false := by simp <;> omega
  by_cases gs : t.stamp ≤ k.clock
  case neg =>
    have ds : decide (k.clock < t.stamp) = true := by simp <;> omega
    have hb : Hid (fitB k t = false) := by unfold Hid; simp [fitB, gs]
    go_wp2
    go_ret
    exact ⟨by rw [hb.out]; rfl, bstep HR.out.2.2 B1.out⟩
  have ds : decide (k.clock < t.stamp) = false := by simp <;> omega
  have HY : Hid (fitB k t = (readsB k.places.length t.reads && setsB k.places.length t.sets)) := by unfold Hid; simp [fitB, hB, gh, gs]
  have hc := noWithin w1 t0 t1 t.reads k.places.length HR.out.2.1.r (HR.out.1.later B1.out).r
  clear gh gs
  go_wp2_with fail
  refine hc.mono ?_
  clear hc q1 q6 q4 r1 r2 r3 dh ds
  rintro e w2 ⟨rfl, b2⟩
  have B2 : Hid (Below U.heap.size U w2) := bstep B1.out b2
  clear b2
  cases hR : readsB k.places.length t.reads with
  | false =>
    have hb : Hid (fitB k t = false) := by unfold Hid; rw [HY.out, hR]; rfl
    go_wp2
    go_ret
    exact ⟨by rw [hb.out]; rfl, bstep HR.out.2.2 B2.out⟩
  | true =>
  have q5 := (FA.out.later B2.out).1 5 _ rfl
  have r2 := (FB.out.later B2.out).1 2 _ rfl
  have hc := seWithin w2 t2 t3 t.sets k.places.length HR.out.2.1.s (HR.out.1.later B2.out).s
  have HZ : Hid (fitB k t = setsB k.places.length t.sets) := by unfold Hid; rw [HY.out, hR]; rfl
  go_wp2_with fail
  refine hc.mono ?_
  clear hc q5 r2
  rintro e w3 ⟨rfl, b3⟩
  have B3 : Hid (Below U.heap.size U w3) := bstep B2.out b3
  clear b3
  go_wp2
  go_ret
  exact ⟨by rw [HZ.out]; simp, bstep HR.out.2.2 B3.out⟩
set_option maxRecDepth 100000 in
set_option maxHeartbeats 2000000 in
theorem txWrong (w : World) (g : Nat) (t0 : Option Addr) (t1 : Nat) (t2 : Option Addr) (t3 : Nat) (t : tx.T7) (a1 : Option Addr) (c1 : Nat) (a2 : Option Addr) (c2 : Nat) (a3 : Option Addr) (c3 : Nat) (k : C6) (hl : tx.TL t) (h : tx.SlT w ⟨t0, t1, t2, t3⟩ t) (hg : Bx w g [.int .i64 k.config, .int .i64 k.clock, .slice a1 k.places.length c1, .slice a2 k.machines.length c2, .slice a3 k.txs.length c3, .bool k.lost]) : Calls Tryz.prog 236 #[.agg #[.int .i64 t.id, .int .i64 t.home, .int .i64 t.phase, .int .i64 t.count, .slice t0 t.reads.length t1, .slice t2 t.sets.length t3, .int .i64 t.stamp], .pointer (some ⟨g, 0, none⟩)] w fun e w' => e = .returned (.bool (!fitB k t)) ∧ Below w.heap.size w w' := by
  obtain ⟨U, hU⟩ : ∃ Y, Y = w.alloc (.cells #[.int .i64 t.id, .int .i64 t.home, .int .i64 t.phase, .int .i64 t.count, .slice t0 t.reads.length t1, .slice t2 t.sets.length t3, .int .i64 t.stamp] 56) := ⟨_, rfl⟩
  have b0 : Below w.heap.size w U := by rw [hU]; exact (Below.refl _ _).alloc (Nat.le_refl _) _
  have hc := txFits_any U t0 t1 t2 t3 t a1 c1 a2 c2 a3 c3 k hl (h.later b0)
  have hx := hg.later b0
  have p0 := hx.1 0 _ rfl
  have p1 := hx.1 1 _ rfl
  have p2 := hx.1 2 _ rfl
  have p3 := hx.1 3 _ rfl
  have p4 := hx.1 4 _ rfl
  have p5 := hx.1 5 _ rfl
  have KB := hidOf b0
  rw [hU] at p0 p1 p2 p3 p4 p5
  clear b0 hx hg h hl
  go_enter Tryz.func236, Tryz.ntmps236
  go_wp2_with fail
  rw [← hU]
  clear hU p0 p1 p2 p3 p4 p5
  refine hc.mono ?_
  clear hc
  rintro e w1 ⟨rfl, b1⟩
  have B1 := hidOf b1
  clear b1
  go_wp2
  go_ret
  exact ⟨rfl, bstep KB.out B1.out⟩
set_option maxHeartbeats 1000000 in
theorem idOf_any (w : World) (t0 : Option Addr) (t1 : Nat) (t2 : Option Addr) (t3 : Nat) (t : tx.T7) : Calls Tryz.prog 239 #[.agg #[.int .i64 t.id, .int .i64 t.home, .int .i64 t.phase, .int .i64 t.count, .slice t0 t.reads.length t1, .slice t2 t.sets.length t3, .int .i64 t.stamp]] w fun e w' => e = .returned (.int .i64 t.id) ∧ Below w.heap.size w w' := by
  go_enter Tryz.func239, Tryz.ntmps239
  go_wp2
  go_ret
  exact ⟨rfl, (Below.refl _ _).alloc (Nat.le_refl _) _⟩
def upT (ts : List tx.T7) (i : Nat) : Bool := decide (i = 0) || decide ((atT ts (i - 1)).id < (atT ts i).id)
theorem bstep' {A X Y : World} (h : Below A.heap.size A X) (b : Below X.heap.size X Y) : Below A.heap.size A Y := bstep h b
set_option maxRecDepth 100000 in
set_option maxHeartbeats 4000000 in
theorem risesT_any (w : World) (a : Option Addr) (cap : Nat) (ts : List tx.T7) (hn : ts.length ≤ maxLen) (hs : KTk.RdS w a ts) :
    Calls Tryz.prog 238 #[.slice a ts.length cap, .func (.func 239) #[] #[]] w fun e w' => e = .returned (.bool ((List.range ts.length).all (upT ts))) ∧ Below w.heap.size w w' := by
  unfold maxLen at hn
  go_enter Tryz.func238, Tryz.ntmps238
  go_wp2
  go_loopw [5] (fun i wr => ∃ j : Nat, (j + 1 ≤ ts.length ∨ j = 0) ∧ i = .int .i64 (((j + 1 : Nat)) : Int) ∧ Below w.heap.size w wr ∧ (List.range (j + 1)).all (upT ts) = true) (fun i _ => ts.length - (intOf i).toNat)
  case atStart => exact ⟨0, .inr rfl, rfl, Below.refl _ _, by simp [upT]⟩
  case round =>
    obtain ⟨j, hj, rfl, hbl, hall⟩ := hrel
    have K : Hid (Below w.heap.size w wr ∧ (List.range (j + 1)).all (upT ts) = true) := ⟨hbl, hall⟩
    by_cases hlt : j + 1 < ts.length
    · rcases hs with hs | ⟨b, off, rfl, hb, h1⟩
      · rw [hs] at hlt; simp at hlt
      obtain ⟨⟨x0', x1', x2', x3'⟩, hx, _⟩ := h1 (j + 1) _ (atT_of hlt)
      obtain ⟨⟨y0', y1', y2', y3'⟩, hy, _⟩ := h1 j _ (atT_of (by omega))
      have x0 : ∀ dd os, (grow (redrawn wr dd) os).cell? ⟨b, off + (j + 1) * 7, none⟩ = some (.int .i64 (atT ts (j + 1)).id) := fun dd os => ((bstep' K.out.1 (below_regrown wr dd os)).cell (p := ⟨b, off + (j + 1) * 7, none⟩) hb).trans (hx 0 _ rfl)
      have x1 : ∀ dd os, (grow (redrawn wr dd) os).cell? ⟨b, off + (j + 1) * 7 + 1, none⟩ = some (.int .i64 (atT ts (j + 1)).home) := fun dd os => ((bstep' K.out.1 (below_regrown wr dd os)).cell (p := ⟨b, off + (j + 1) * 7 + 1, none⟩) hb).trans (hx 1 _ rfl)
      have x2 : ∀ dd os, (grow (redrawn wr dd) os).cell? ⟨b, off + (j + 1) * 7 + 2, none⟩ = some (.int .i64 (atT ts (j + 1)).phase) := fun dd os => ((bstep' K.out.1 (below_regrown wr dd os)).cell (p := ⟨b, off + (j + 1) * 7 + 2, none⟩) hb).trans (hx 2 _ rfl)
      have x3 : ∀ dd os, (grow (redrawn wr dd) os).cell? ⟨b, off + (j + 1) * 7 + 3, none⟩ = some (.int .i64 (atT ts (j + 1)).count) := fun dd os => ((bstep' K.out.1 (below_regrown wr dd os)).cell (p := ⟨b, off + (j + 1) * 7 + 3, none⟩) hb).trans (hx 3 _ rfl)
      have x4 : ∀ dd os, (grow (redrawn wr dd) os).cell? ⟨b, off + (j + 1) * 7 + 4, none⟩ = some (.slice x0' (atT ts (j + 1)).reads.length x1') := fun dd os => ((bstep' K.out.1 (below_regrown wr dd os)).cell (p := ⟨b, off + (j + 1) * 7 + 4, none⟩) hb).trans (hx 4 _ rfl)
      have x5 : ∀ dd os, (grow (redrawn wr dd) os).cell? ⟨b, off + (j + 1) * 7 + 5, none⟩ = some (.slice x2' (atT ts (j + 1)).sets.length x3') := fun dd os => ((bstep' K.out.1 (below_regrown wr dd os)).cell (p := ⟨b, off + (j + 1) * 7 + 5, none⟩) hb).trans (hx 5 _ rfl)
      have x6 : ∀ dd os, (grow (redrawn wr dd) os).cell? ⟨b, off + (j + 1) * 7 + 6, none⟩ = some (.int .i64 (atT ts (j + 1)).stamp) := fun dd os => ((bstep' K.out.1 (below_regrown wr dd os)).cell (p := ⟨b, off + (j + 1) * 7 + 6, none⟩) hb).trans (hx 6 _ rfl)
      have y0 : ∀ dd os, (grow (redrawn wr dd) os).cell? ⟨b, off + j * 7, none⟩ = some (.int .i64 (atT ts j).id) := fun dd os => ((bstep' K.out.1 (below_regrown wr dd os)).cell (p := ⟨b, off + j * 7, none⟩) hb).trans (hy 0 _ rfl)
      have y1 : ∀ dd os, (grow (redrawn wr dd) os).cell? ⟨b, off + j * 7 + 1, none⟩ = some (.int .i64 (atT ts j).home) := fun dd os => ((bstep' K.out.1 (below_regrown wr dd os)).cell (p := ⟨b, off + j * 7 + 1, none⟩) hb).trans (hy 1 _ rfl)
      have y2 : ∀ dd os, (grow (redrawn wr dd) os).cell? ⟨b, off + j * 7 + 2, none⟩ = some (.int .i64 (atT ts j).phase) := fun dd os => ((bstep' K.out.1 (below_regrown wr dd os)).cell (p := ⟨b, off + j * 7 + 2, none⟩) hb).trans (hy 2 _ rfl)
      have y3 : ∀ dd os, (grow (redrawn wr dd) os).cell? ⟨b, off + j * 7 + 3, none⟩ = some (.int .i64 (atT ts j).count) := fun dd os => ((bstep' K.out.1 (below_regrown wr dd os)).cell (p := ⟨b, off + j * 7 + 3, none⟩) hb).trans (hy 3 _ rfl)
      have y4 : ∀ dd os, (grow (redrawn wr dd) os).cell? ⟨b, off + j * 7 + 4, none⟩ = some (.slice y0' (atT ts j).reads.length y1') := fun dd os => ((bstep' K.out.1 (below_regrown wr dd os)).cell (p := ⟨b, off + j * 7 + 4, none⟩) hb).trans (hy 4 _ rfl)
      have y5 : ∀ dd os, (grow (redrawn wr dd) os).cell? ⟨b, off + j * 7 + 5, none⟩ = some (.slice y2' (atT ts j).sets.length y3') := fun dd os => ((bstep' K.out.1 (below_regrown wr dd os)).cell (p := ⟨b, off + j * 7 + 5, none⟩) hb).trans (hy 5 _ rfl)
      have y6 : ∀ dd os, (grow (redrawn wr dd) os).cell? ⟨b, off + j * 7 + 6, none⟩ = some (.int .i64 (atT ts j).stamp) := fun dd os => ((bstep' K.out.1 (below_regrown wr dd os)).cell (p := ⟨b, off + j * 7 + 6, none⟩) hb).trans (hy 6 _ rfl)
      have cQ : ∀ d os, Calls Tryz.prog 239 #[.agg #[.int .i64 (atT ts (j + 1)).id, .int .i64 (atT ts (j + 1)).home, .int .i64 (atT ts (j + 1)).phase, .int .i64 (atT ts (j + 1)).count, .slice x0' (atT ts (j + 1)).reads.length x1', .slice x2' (atT ts (j + 1)).sets.length x3', .int .i64 (atT ts (j + 1)).stamp]] (grow (redrawn wr d) os) fun e w'' => e = .returned (.int .i64 (atT ts (j + 1)).id) ∧ ∃ p : Regrown, w'' = grow (redrawn wr p.d) p.os := fun d os => Calls.regrown_of (idOf_any _ _ _ _ _ _)
      have cR : ∀ d os, Calls Tryz.prog 239 #[.agg #[.int .i64 (atT ts j).id, .int .i64 (atT ts j).home, .int .i64 (atT ts j).phase, .int .i64 (atT ts j).count, .slice y0' (atT ts j).reads.length y1', .slice y2' (atT ts j).sets.length y3', .int .i64 (atT ts j).stamp]] (grow (redrawn wr d) os) fun e w'' => e = .returned (.int .i64 (atT ts j).id) ∧ ∃ p : Regrown, w'' = grow (redrawn wr p.d) p.os := fun d os => Calls.regrown_of (idOf_any _ _ _ _ _ _)
      have hj0 : (j : Int) < (ts.length : Int) := by omega
      have hj1 : ((j + 1 : Nat) : Int) < (ts.length : Int) := by omega
      have HL : Hid (j + 1 < ts.length) := hlt
      have U : Hid (upT ts (j + 1) = decide ((atT ts j).id < (atT ts (j + 1)).id)) := by unfold Hid; simp [upT]
      clear hx hy hbl hall h1 hlt
      generalize atT ts (j + 1) = tx1 at *
      generalize atT ts j = tx0 at *
      by_cases hq : tx1.id ≤ tx0.id
      · have hq1 : decide (tx1.id ≤ tx0.id) = true := by simp [hq]
        have hU : upT ts (j + 1) = false := by rw [U.out]; simp; omega
        clear hq
        go_wp2_with fail
        refine wp_region_quiet_below (by kernel_rfl) (by kernel_rfl) ?_
        repeat (go_big_quiet_step (first | (go_at_call_of 239 (Value.agg #[.int .i64 tx1.id, .int .i64 tx1.home, .int .i64 tx1.phase, .int .i64 tx1.count, .slice x0' tx1.reads.length x1', .slice x2' tx1.sets.length x3', .int .i64 tx1.stamp]); exact cQ _ _) | (go_at_call_of 239 (Value.agg #[.int .i64 tx0.id, .int .i64 tx0.home, .int .i64 tx0.phase, .int .i64 tx0.count, .slice y0' tx0.reads.length y1', .slice y2' tx0.sets.length y3', .int .i64 tx0.stamp]); exact cR _ _)))
        refine wpQuiet_nil ?_
        intro _ hw'
        obtain ⟨⟨dq, osq⟩, hw''⟩ := hw'
        subst hw''
        have bq := below_regrown wr dq osq
        go_wp2
        go_ret
        exact ⟨by rw [all_off (f := upT ts) HL.out hU]; rfl, K.out.1.trans (bq.mono K.out.1.size)⟩
      · have hq1 : decide (tx1.id ≤ tx0.id) = false := by simp; omega
        have hU : upT ts (j + 1) = true := by rw [U.out]; simp; omega
        clear hq
        go_wp2_with fail
        refine wp_region_quiet_below (by kernel_rfl) (by kernel_rfl) ?_
        repeat (go_big_quiet_step (first | (go_at_call_of 239 (Value.agg #[.int .i64 tx1.id, .int .i64 tx1.home, .int .i64 tx1.phase, .int .i64 tx1.count, .slice x0' tx1.reads.length x1', .slice x2' tx1.sets.length x3', .int .i64 tx1.stamp]); exact cQ _ _) | (go_at_call_of 239 (Value.agg #[.int .i64 tx0.id, .int .i64 tx0.home, .int .i64 tx0.phase, .int .i64 tx0.count, .slice y0' tx0.reads.length y1', .slice y2' tx0.sets.length y3', .int .i64 tx0.stamp]); exact cR _ _)))
        refine wpQuiet_nil ?_
        intro _ hw'
        obtain ⟨⟨dq, osq⟩, hw''⟩ := hw'
        subst hw''
        have bq := below_regrown wr dq osq
        go_wp2
        exact ⟨⟨j + 1, .inl (by have := HL.out; omega), by simp, K.out.1.trans (bq.mono K.out.1.size), all_on (f := upT ts) K.out.2 hU⟩, by have := HL.out; simp [intOf]; omega⟩
    · have hd : decide (((j + 1 : Nat) : Int) < (ts.length : Int)) = false := by simp; omega
      have hA : (List.range ts.length).all (upT ts) = true := by
        by_cases h0 : ts.length = 0
        · rw [h0]; rfl
        · have : ts.length = j + 1 := by omega
          rw [this]; exact hall
      have HA := hidOf hA
      clear hs hall hA
      go_wp2
      go_ret
      exact ⟨by rw [HA.out]; rfl, hbl⟩
def idxTF (w : World) (xs : List tx.T7) (g : Nat) (f : Nat → Bool) : Prop :=
  ∀ (X : World) (i : Nat) (t0 : Option Addr) (t1 : Nat) (t2 : Option Addr) (t3 : Nat), Below w.heap.size w X → i < xs.length → KTk.Rd X ⟨t0, t1, t2, t3⟩ (atT xs i) → Calls Tryz.prog 236 #[.agg #[.int .i64 (atT xs i).id, .int .i64 (atT xs i).home, .int .i64 (atT xs i).phase, .int .i64 (atT xs i).count, .slice t0 (atT xs i).reads.length t1, .slice t2 (atT xs i).sets.length t3, .int .i64 (atT xs i).stamp], .pointer (some ⟨g, 0, none⟩)] X fun e w' => e = .returned (.bool (f i)) ∧ Below X.heap.size X w'
set_option maxRecDepth 100000 in
set_option maxHeartbeats 2000000 in
theorem idxT (w : World) (a : Option Addr) (cap : Nat) (xs : List tx.T7) (g : Nat) (f : Nat → Bool) (hn : xs.length ≤ maxLen) (hs : KTk.RdS w a xs) (hf : idxTF w xs g f) :
    Calls Tryz.prog 269 #[.slice a xs.length cap, .func (.func 236) #[] #[.pointer (some ⟨g, 0, none⟩)]] w fun e w' => (∃ i : Int, e = .returned (.int .i64 i) ∧ FirstAt f xs.length i) ∧ Below w.heap.size w w' := by
  unfold maxLen at hn
  have HF := hidOf hf
  clear hf
  go_enter Tryz.func269, Tryz.ntmps269
  go_wp2
  go_loopw [8] (fun v wr => ∃ j : Nat, j ≤ xs.length ∧ v = .int .i64 j ∧ Below w.heap.size w wr ∧ ∀ i, i < j → f i = false) (fun v _ => xs.length - (intOf v).toNat)
  case atStart => exact ⟨0, Nat.zero_le _, rfl, Below.refl _ _, fun i h => absurd h (by omega)⟩
  case round =>
    obtain ⟨j, hj, rfl, hbl, hall⟩ := hrel
    by_cases hlt : j < xs.length
    · rcases hs with hs | ⟨b, off, rfl, hb, h1⟩
      · rw [hs] at hlt; simp at hlt
      obtain ⟨⟨t0, t1, t2, t3⟩, hat, hrd⟩ := h1 j _ (atT_of hlt)
      have e0 : wr.cell? ⟨b, off + j * 7, none⟩ = some (.int .i64 (atT xs j).id) := (hbl.cell (p := ⟨b, off + j * 7, none⟩) hb).trans (hat 0 _ rfl)
      have e1 : wr.cell? ⟨b, off + j * 7 + 1, none⟩ = some (.int .i64 (atT xs j).home) := (hbl.cell (p := ⟨b, off + j * 7 + 1, none⟩) hb).trans (hat 1 _ rfl)
      have e2 : wr.cell? ⟨b, off + j * 7 + 2, none⟩ = some (.int .i64 (atT xs j).phase) := (hbl.cell (p := ⟨b, off + j * 7 + 2, none⟩) hb).trans (hat 2 _ rfl)
      have e3 : wr.cell? ⟨b, off + j * 7 + 3, none⟩ = some (.int .i64 (atT xs j).count) := (hbl.cell (p := ⟨b, off + j * 7 + 3, none⟩) hb).trans (hat 3 _ rfl)
      have e4 : wr.cell? ⟨b, off + j * 7 + 4, none⟩ = some (.slice t0 (atT xs j).reads.length t1) := (hbl.cell (p := ⟨b, off + j * 7 + 4, none⟩) hb).trans (hat 4 _ rfl)
      have e5 : wr.cell? ⟨b, off + j * 7 + 5, none⟩ = some (.slice t2 (atT xs j).sets.length t3) := (hbl.cell (p := ⟨b, off + j * 7 + 5, none⟩) hb).trans (hat 5 _ rfl)
      have e6 : wr.cell? ⟨b, off + j * 7 + 6, none⟩ = some (.int .i64 (atT xs j).stamp) := (hbl.cell (p := ⟨b, off + j * 7 + 6, none⟩) hb).trans (hat 6 _ rfl)
      have hw := HF.out wr j t0 t1 t2 t3 hbl hlt (KTk.later hrd hbl)
      have KA : Hid ((∀ i, i < j → f i = false) ∧ Below w.heap.size w wr) := ⟨hall, hbl⟩
      have jn : (j : Int) < (xs.length : Int) := by omega
      clear h1 hat hrd hall hbl
      cases hp : f j with
      | true =>
        rw [hp] at hw
        go_wp2_with fail
        refine hw.mono ?_
        clear hw
        rintro e w1 ⟨rfl, b1⟩
        go_wp2
        go_ret
        exact ⟨⟨_, rfl, .inr ⟨j, rfl, hlt, hp, KA.out.1⟩⟩, KA.out.2.trans (b1.mono KA.out.2.size)⟩
      | false =>
        rw [hp] at hw
        go_wp2_with fail
        refine hw.mono ?_
        clear hw
        rintro e w1 ⟨rfl, b1⟩
        go_wp2
        exact ⟨⟨j + 1, by omega, by simp, KA.out.2.trans (b1.mono KA.out.2.size), fun i hi => by
          by_cases e : i = j
          · rw [e]; exact hp
          · exact KA.out.1 i (by omega)⟩, by simp [intOf]; omega⟩
    · obtain rfl : j = xs.length := by omega
      have hd : decide ((xs.length : Int) < (xs.length : Int)) = false := by simp
      have KA : Hid ((∀ i, i < xs.length → f i = false) ∧ Below w.heap.size w wr) := ⟨hall, hbl⟩
      clear hall hbl hs
      go_wp2
      go_ret
      exact ⟨⟨_, rfl, .inl ⟨rfl, KA.out.1⟩⟩, KA.out.2⟩
set_option maxHeartbeats 1000000 in
theorem idxT_has (w : World) (a : Option Addr) (cap : Nat) (xs : List tx.T7) (g : Nat) (f : Nat → Bool) (hn : xs.length ≤ maxLen) (hs : KTk.RdS w a xs) (hf : idxTF w xs g f) :
    Calls Tryz.prog 240 #[.slice a xs.length cap, .func (.func 236) #[] #[.pointer (some ⟨g, 0, none⟩)]] w fun e w' => e = .returned (.bool (!((List.range xs.length).all fun j => !f j))) ∧ Below w.heap.size w w' := by
  have hc := idxT w a cap xs g f hn hs hf
  clear hs hf
  go_enter Tryz.func240, Tryz.ntmps240
  go_wp2_with fail
  refine hc.mono ?_
  clear hc
  rintro e w1 ⟨⟨i, rfl, hi⟩, b1⟩
  have h := first_has hi
  have KB := hidOf b1
  clear b1 hi
  go_wp2
  go_ret
  exact ⟨by rw [← h]; rfl, KB.out⟩
theorem txsB_eq (k : C6) : txsB k = ((List.range k.txs.length).all (upT k.txs) && (List.range k.txs.length).all (fun i => fitB k (atT k.txs i))) := by
  unfold txsB
  rw [← all_and]
  apply all_congr
  intro i _
  unfold txAtB upT fitB
  cases tx.txB (atT k.txs i) <;> cases decide (i = 0) <;> cases decide ((atT k.txs (i - 1)).id < (atT k.txs i).id) <;> simp
set_option maxRecDepth 100000 in
set_option maxHeartbeats 2000000 in
theorem txsFit_any (w : World) (a1 : Option Addr) (c1 : Nat) (a2 : Option Addr) (c2 : Nat) (a3 : Option Addr) (c3 : Nat) (k : C6) (hl : KCl.L k) (h : KCl.Rd w a1 c1 a2 c2 a3 c3 k) : Calls Tryz.prog 195 #[.agg #[.int .i64 k.config, .int .i64 k.clock, .slice a1 k.places.length c1, .slice a2 k.machines.length c2, .slice a3 k.txs.length c3, .bool k.lost]] w fun e w' => e = .returned (.bool (decide (k.txs.length ≤ 60) && txsB k)) ∧ Below w.heap.size w w' := by
  obtain ⟨U, hU⟩ : ∃ Y, Y = w.alloc (.cells #[.int .i64 k.config, .int .i64 k.clock, .slice a1 k.places.length c1, .slice a2 k.machines.length c2, .slice a3 k.txs.length c3, .bool k.lost] 32) := ⟨_, rfl⟩
  have b0 : Below w.heap.size w U := by rw [hU]; exact (Below.refl _ _).alloc (Nat.le_refl _) _
  have FA : Hid (Bx U w.heap.size [.int .i64 k.config, .int .i64 k.clock, .slice a1 k.places.length c1, .slice a2 k.machines.length c2, .slice a3 k.txs.length c3, .bool k.lost]) := by rw [hU]; exact Bx.made w [.int .i64 k.config, .int .i64 k.clock, .slice a1 k.places.length c1, .slice a2 k.machines.length c2, .slice a3 k.txs.length c3, .bool k.lost] _
  have HR : Hid (KCl.Rd U a1 c1 a2 c2 a3 c3 k ∧ KCl.L k) := ⟨h.later b0, hl⟩
  have BW : Hid (Below w.heap.size w U) := b0
  have lt := hl.t
  unfold maxLen at lt
  have p4 := FA.out.1 4 _ rfl
  rw [hU] at p4
  clear b0 h hl
  by_cases g5 : k.txs.length ≤ 60
  case neg =>
    have d5 : decide ((k.txs.length : Int) ≤ 60) = false := by simp <;> omega
    have hb : (decide (k.txs.length ≤ 60) && txsB k) = false := by simp [g5]
    rw [hb]
    rw [hU] at BW
    clear FA HR hU hb
    go_enter Tryz.func195, Tryz.ntmps195
    go_wp2
    go_ret
    exact ⟨rfl, BW.out⟩
  have d5 : decide ((k.txs.length : Int) ≤ 60) = true := by simp <;> omega
  have HB : Hid ((decide (k.txs.length ≤ 60) && txsB k) = ((List.range k.txs.length).all (upT k.txs) && (List.range k.txs.length).all (fun i => fitB k (atT k.txs i)))) := by unfold Hid; rw [← txsB_eq]; simp [g5]
  have hc := risesT_any U a3 c3 k.txs HR.out.2.t HR.out.1.t
  go_enter Tryz.func195, Tryz.ntmps195
  go_wp2_with fail
  rw [← hU]
  clear hU p4
  refine hc.mono ?_
  clear hc
  rintro e w1 ⟨rfl, b1⟩
  have B1 := hidOf b1
  clear b1
  cases hR : (List.range k.txs.length).all (upT k.txs) with
  | false =>
    go_wp2
    go_ret
    exact ⟨by rw [HB.out, hR]; rfl, bstep BW.out B1.out⟩
  | true =>
  have p4 := (FA.out.later B1.out).1 4 _ rfl
  have hc := idxT_has w1 a3 c3 k.txs w.heap.size (fun i => !fitB k (atT k.txs i)) HR.out.2.t (HR.out.1.later B1.out).t (fun X i t0 t1 t2 t3 hb hi hr => txWrong X w.heap.size t0 t1 t2 t3 (atT k.txs i) a1 c1 a2 c2 a3 c3 k (HR.out.2.ts _ (List.mem_of_getElem? (atT_of hi))) hr (FA.out.later (bstep B1.out hb)))
  have he : (!((List.range k.txs.length).all fun j => !(fun i => !fitB k (atT k.txs i)) j)) = !((List.range k.txs.length).all fun i => fitB k (atT k.txs i)) := by simp
  rw [he] at hc
  clear he
  have HZ : Hid ((decide (k.txs.length ≤ 60) && txsB k) = (List.range k.txs.length).all (fun i => fitB k (atT k.txs i))) := by unfold Hid; rw [HB.out, hR]; rfl
  generalize ((List.range k.txs.length).all fun i => fitB k (atT k.txs i)) = BB at *
  go_wp2_with fail
  refine hc.mono ?_
  clear hc p4
  rintro e w2 ⟨rfl, b2⟩
  have B2 : Hid (Below U.heap.size U w2) := bstep B1.out b2
  clear b2
  go_wp2
  go_ret
  exact ⟨by rw [HZ.out]; simp, bstep BW.out B2.out⟩
def idxCelF (w : World) (n : Nat) (rs : List K2) (g : Nat) (f : Nat → Bool) : Prop :=
  ∀ (X : World) (i : Nat) (a' : Option Addr) (cap' : Nat), Below w.heap.size w X → i < n → SlC X X.heap.size a' (atK rs i).cells.length (atK rs i).cells → Calls Tryz.prog 331 #[(atK rs i).val a' cap', .pointer (some ⟨g, 0, none⟩)] X fun e w' => e = .returned (.bool (f i)) ∧ Below X.heap.size X w'
set_option maxHeartbeats 2000000 in
theorem idxCel (w : World) (a : Option Addr) (n cap : Nat) (rs : List K2) (g : Nat) (f : Nat → Bool) (hn : n ≤ maxLen) (hs : SlK w w.heap.size a n rs) (hf : idxCelF w n rs g f) :
    Calls Tryz.prog 299 #[.slice a n cap, .func (.func 331) #[] #[.pointer (some ⟨g, 0, none⟩)]] w fun e w' => (∃ i : Int, e = .returned (.int .i64 i) ∧ FirstAt f n i) ∧ Below w.heap.size w w' := by
  unfold maxLen at hn
  obtain ⟨hx, hs⟩ := hs
  have HF := hidOf hf
  clear hf
  go_enter Tryz.func299, Tryz.ntmps299
  go_wp2
  go_loopw [8] (fun v wr => ∃ j : Nat, j ≤ n ∧ v = .int .i64 j ∧ Below w.heap.size w wr ∧ ∀ i, i < j → f i = false) (fun v _ => n - (intOf v).toNat)
  case atStart => exact ⟨0, Nat.zero_le _, rfl, Below.refl _ _, fun i h => absurd h (by omega)⟩
  case round =>
    obtain ⟨j, hj, rfl, hbl, hall⟩ := hrel
    by_cases hlt : j < n
    · rcases hs with hs | ⟨b, off, rfl, hb, h1⟩
      · omega
      · have hr := (h1 j _ (atK_of (by omega))).below hbl hb
        have c0 := hr.c0
        obtain ⟨a', cap', c1, hsl, hcp⟩ := hr.c1
        have KA : Hid ((∀ i, i < j → f i = false) ∧ Below w.heap.size w wr) := ⟨hall, hbl⟩
        have hw := HF.out wr j a' cap' hbl hlt (hsl.mono hbl.size)
        simp only [K2.val] at hw
        clear h1 hr hall hsl hbl hcp
        generalize (atK rs j).cells.length = ln at *
        cases hp : f j with
        | true =>
          rw [hp] at hw
          go_wp2_with fail
          refine hw.mono ?_
          clear hw
          rintro e w1 ⟨rfl, b1⟩
          go_wp2
          go_ret
          exact ⟨⟨_, rfl, .inr ⟨j, rfl, hlt, hp, KA.out.1⟩⟩, KA.out.2.trans (b1.mono KA.out.2.size)⟩
        | false =>
          rw [hp] at hw
          go_wp2_with fail
          refine hw.mono ?_
          clear hw
          rintro e w1 ⟨rfl, b1⟩
          go_wp2
          exact ⟨⟨j + 1, by omega, by simp, KA.out.2.trans (b1.mono KA.out.2.size), fun i hi => by
            by_cases e : i = j
            · rw [e]; exact hp
            · exact KA.out.1 i (by omega)⟩, by simp [intOf]; omega⟩
    · have : j = n := by omega
      subst this
      have hd : decide ((j : Int) < (j : Int)) = false := by simp
      have KA : Hid (∀ i, i < j → f i = false) := hall
      clear hs hall
      go_wp2
      go_ret
      exact ⟨⟨_, rfl, .inl ⟨rfl, KA.out⟩⟩, hbl⟩
theorem mach_six {m : M4} (h : machB m = true) : ∀ c ∈ m.copies, c.cells.length = 6 := by
  simp only [machB, Bool.and_eq_true, decide_eq_true_eq] at h
  obtain ⟨⟨⟨⟨⟨h1, h2⟩, h3⟩, _⟩, h4⟩, h5⟩ := h
  intro c hc
  obtain ⟨i, hi, rfl⟩ := List.getElem_of_mem hc
  have := List.all_eq_true.1 h4 i (List.mem_range.2 hi)
  simp only [copB, atK, List.getElem?_eq_getElem hi, Option.getD_some, Bool.and_eq_true, cellsB, decide_eq_true_eq] at this
  exact this.1.2.1
def memV (m : M4) (a : Option Addr) (c : Nat) : Value := if m.alive then .iface 253 (.agg #[.slice a m.copies.length c]) else .iface 255 (.agg #[])
set_option maxHeartbeats 1000000 in
theorem memberOf_any (w : World) (m0 : Option Addr) (m1 : Nat) (m2 : Option Addr) (m3 : Nat) (m4 : Option Addr) (m5 : Nat) (m : M4) : Calls Tryz.prog 154 #[.agg #[.bool m.alive, .slice m0 m.copies.length m1, .slice m2 m.log.length m3, .slice m4 m.cleared.length m5]] w fun e w' => e = .returned (memV m m0 m1) ∧ Below w.heap.size w w' := by
  cases ha : m.alive with
  | true =>
    have hv : memV m m0 m1 = .iface 253 (.agg #[.slice m0 m.copies.length m1]) := by simp [memV, ha]
    rw [hv]
    clear hv
    go_enter Tryz.func154, Tryz.ntmps154
    go_wp2
    go_ret
    exact ⟨rfl, (Below.refl _ _).alloc (Nat.le_refl _) _⟩
  | false =>
    have hv : memV m m0 m1 = .iface 255 (.agg #[]) := by simp [memV, ha]
    rw [hv]
    clear hv
    go_enter Tryz.func154, Tryz.ntmps154
    go_wp2
    go_ret
    exact ⟨rfl, (Below.refl _ _).alloc (Nat.le_refl _) _⟩
set_option maxHeartbeats 1000000 in
theorem livesL_any (w : World) (a : Option Addr) (n c : Nat) : Calls Tryz.prog 330 #[.agg #[.slice a n c]] w fun e w' => e = .returned (.bool true) ∧ Below w.heap.size w w' := by
  go_enter Tryz.func330, Tryz.ntmps330
  go_wp2
  go_ret
  exact ⟨rfl, (Below.refl _ _).alloc (Nat.le_refl _) _⟩
set_option maxHeartbeats 1000000 in
theorem livesD_any (w : World) : Calls Tryz.prog 332 #[.agg #[]] w fun e w' => e = .returned (.bool false) ∧ Below w.heap.size w w' := by
  go_enter Tryz.func332, Tryz.ntmps332
  go_wp2
  go_ret
  exact ⟨rfl, (Below.refl _ _).alloc (Nat.le_refl _) _⟩
set_option maxHeartbeats 1000000 in
theorem such_any (w : World) (x y : Int) (a : Option Addr) (n c g : Nat) (hg : w.cell? ⟨g, 0, none⟩ = some (.int .i64 y)) (hgl : g < w.heap.size) : Calls Tryz.prog 331 #[.agg #[.int .i64 x, .slice a n c], .pointer (some ⟨g, 0, none⟩)] w fun e w' => e = .returned (.bool (decide (x = y))) ∧ Below w.heap.size w w' := by
  have b0 : Below w.heap.size w (w.alloc (.cells #[.int .i64 x, .slice a n c] 99)) := (Below.refl _ _).alloc (Nat.le_refl _) _
  have p0 := (b0.cell (p := ⟨g, 0, none⟩) hgl).trans hg
  have he : (x == y) = decide (x = y) := by by_cases h : x = y <;> simp [h]
  have KB := hidOf b0
  clear b0 hg hgl
  go_enter Tryz.func331, Tryz.ntmps331
  go_wp2
  go_ret
  exact ⟨by rw [← he]; rfl, KB.out⟩
def CelAns (w w' : World) (m : M4) (y : Int) (e : Ending) : Prop :=
  (hasC m y = false ∧ e = .returned (.tuple #[.slice none 0 0, .bool false])) ∨
  (hasC m y = true ∧ ∃ i q cp : Nat, idxC m y = (i : Int) ∧ i < m.copies.length ∧ e = .returned (.tuple #[.slice (some ⟨q, 0, none⟩) (atK m.copies i).cells.length cp, .bool true]) ∧ w.heap.size ≤ q ∧ q < w'.heap.size ∧ (atK m.copies i).cells.length ≤ cp ∧ CellsAt w' q 0 (atK m.copies i).cells ∧ Room w' q ((atK m.copies i).cells.length * 2))
theorem CelAns.up {A w w' : World} {m : M4} {y : Int} {e : Ending} (h : CelAns w w' m y e) (hA : A.heap.size ≤ w.heap.size) : CelAns A w' m y e := by
  rcases h with h | ⟨h, i, q, cp, h1, h2, h3, h4, h5⟩
  · exact .inl h
  · exact .inr ⟨h, i, q, cp, h1, h2, h3, Nat.le_trans hA h4, h5⟩
set_option maxRecDepth 100000 in
set_option maxHeartbeats 2000000 in
theorem cells_any (w : World) (a : Option Addr) (c : Nat) (m : M4) (y : Int) (hl : ML m) (hB : machB m = true) (hs : SlK w w.heap.size a m.copies.length m.copies) :
    Calls Tryz.prog 329 #[.agg #[.slice a m.copies.length c], .int .i64 y] w fun e w' => CelAns w w' m y e ∧ Below w.heap.size w w' := by
  have hn := hl.k
  obtain ⟨U, hU⟩ : ∃ Y, Y = (w.alloc (.cells #[.slice a m.copies.length c] 253)).alloc (.cells #[.int .i64 y] 2) := ⟨_, rfl⟩
  have b0 : Below w.heap.size w U := by rw [hU]; exact ((Below.refl _ _).alloc (Nat.le_refl _) _).alloc (by simp) _
  have z0 : U.heap.size = w.heap.size + 2 := by rw [hU]; simp
  have p0 : U.cell? ⟨w.heap.size, 0, none⟩ = some (.slice a m.copies.length c) := by rw [hU]; go_simp
  have p1 : U.cell? ⟨w.heap.size + 1, 0, none⟩ = some (.int .i64 y) := by rw [hU]; go_simp
  have hc := idxCel U a m.copies.length c m.copies (w.heap.size + 1) (fun j => decide ((atK m.copies j).region = y)) hn (hs.later b0)
    (fun X i a' c' hb hi hsl => such_any X (atK m.copies i).region y a' _ c' (w.heap.size + 1) ((hb.cell (p := ⟨w.heap.size + 1, 0, none⟩) (by simp; omega)).trans p1) (by have := hb.size; omega))
  have H : Hid (Below w.heap.size w U ∧ U.heap.size = w.heap.size + 2 ∧ SlK U U.heap.size a m.copies.length m.copies) := ⟨b0, z0, hs.later b0⟩
  have P0 := hidOf p0
  clear b0 z0 hs p1
  unfold maxLen at hn
  rw [hU] at p0
  go_enter Tryz.func329, Tryz.ntmps329
  go_wp2_with fail
  rw [← hU]
  clear hU p0
  refine hc.mono ?_
  clear hc
  rintro e w1 ⟨⟨i, rfl, hi⟩, b1⟩
  have hii := first_un hi (idxC_first m y)
  have hlt := idxC_lt m y
  rw [← hii] at hlt
  have B1 := hidOf b1
  cases hh : hasC m y with
  | false =>
    rw [hh] at hlt
    have d : decide (i < 0) = true := hlt
    clear hlt hi hii b1
    go_wp2
    refine bodyPost_ret (v := .tuple #[.slice none 0 0, .bool false]) (by simp [results, Tryz.results329, go_sem]) rfl ?_
    exact ⟨.inl ⟨hh, rfl⟩, bstep H.out.1 B1.out⟩
  | true =>
    rw [hh] at hlt
    have d : decide (i < 0) = false := hlt
    rcases hi with ⟨rfl, _⟩ | ⟨j, rfl, hj, _, _⟩
    · simp at d
    obtain ⟨_, hk⟩ := H.out.2.2
    rcases hk with hk | ⟨b, off, rfl, hb, h1⟩
    · omega
    have q0 := (b1.cell (p := ⟨w.heap.size, 0, none⟩) (by have := H.out.2.1; simp; omega)).trans P0.out
    have hr := (h1 j _ (atK_of hj)).below b1 hb
    obtain ⟨a', cap', c1, hsl, hcp⟩ := hr.c1
    have hlen : (atK m.copies j).cells.length = 6 := mach_six hB _ (List.mem_of_getElem? (atK_of hj))
    have ho := ownCells_any w1 a' cap' (atK m.copies j).cells (by omega) (by omega) (hsl.mono b1.size)
    have HJ : Hid (idxC m y = (j : Int) ∧ j < m.copies.length ∧ hasC m y = true) := ⟨hii.symm, hj, hh⟩
    clear hlt hii b1 h1 hr hsl hcp hlen hB
    go_wp2_with fail
    refine ho.mono ?_
    clear ho q0 c1
    rintro e w2 ⟨q, cp, rfl, h2, h3, h4, h5, h6, b2⟩
    have HF : Hid (w1.heap.size ≤ q ∧ q < w2.heap.size ∧ (atK m.copies j).cells.length ≤ cp ∧ CellsAt w2 q 0 (atK m.copies j).cells ∧ Room w2 q ((atK m.copies j).cells.length * 2)) := ⟨h2, h3, h4, h5, h6⟩
    have B2 : Hid (Below w.heap.size w w2) := bstep (bstep H.out.1 B1.out) b2
    have S1 : Hid (w.heap.size ≤ w1.heap.size) := (bstep H.out.1 B1.out).size
    clear b2 h2 h3 h4 h5 h6
    go_wp2
    refine bodyPost_ret (v := .tuple #[.slice (some ⟨q, 0, none⟩) (atK m.copies j).cells.length cp, .bool true]) (by simp [results, Tryz.results329, go_sem]) rfl ?_
    exact ⟨.inr ⟨HJ.out.2.2, j, q, cp, HJ.out.1, HJ.out.2.1, rfl, Nat.le_trans S1.out HF.out.1, HF.out.2⟩, B2.out⟩
theorem holderU : Tryz.prog.underlying 307 = some (.interface #[("loop.example/g00153/impl.cells", 309), ("loop.example/g00153/impl.lives", 199)]) := by kernel_rfl
set_option maxRecDepth 100000 in
set_option maxHeartbeats 2000000 in
theorem askCells_any (w : World) (a : Option Addr) (c : Nat) (m : M4) (y : Int) (hl : ML m) (hB : machB m = true) (hs : SlK w w.heap.size a m.copies.length m.copies) :
    Calls Tryz.prog 212 #[memV m a c, .int .i64 y] w fun e w' => ((m.alive = true ∧ CelAns w w' m y e) ∨ (m.alive = false ∧ e = .returned (.tuple #[.slice none 0 0, .bool false]))) ∧ Below w.heap.size w w' := by
  cases ha : m.alive with
  | true =>
    have hv : memV m a c = .iface 253 (.agg #[.slice a m.copies.length c]) := by simp [memV, ha]
    rw [hv]
    have ht : ∀ w : World, (Instr.typeAssert (.iface 253 (.agg #[.slice a m.copies.length c])) 197 307 true).run Tryz.prog w = .ok (.tuple #[.iface 253 (.agg #[.slice a m.copies.length c]), .bool true]) w := fun w => run_typeAssert_hasB holderU (by kernel_rfl) _ _ w
    have hm : ∀ w : World, (method 470 253 (.agg #[.slice a m.copies.length c]) "loop.example/g00153/impl.cells").run Tryz.prog w = .ok (329, .agg #[.slice a m.copies.length c]) w := fun _ => by kernel_rfl
    have hc := cells_any w a c m y hl hB hs
    clear hv hl hB hs ha
    go_enter Tryz.func212, Tryz.ntmps212
    go_wp2_with fail
    refine hc.mono ?_
    clear hc
    rintro e w1 ⟨h1, b1⟩
    have H1 := hidOf h1
    have B1 := hidOf b1
    clear b1
    rcases h1 with ⟨_, rfl⟩ | ⟨_, i, q, cp, _, _, rfl, _⟩
    · go_wp2
      refine bodyPost_ret (v := .tuple #[.slice none 0 0, .bool false]) (by simp [results, Tryz.results212, go_sem]) rfl ?_
      exact ⟨.inl ⟨trivial, H1.out⟩, B1.out⟩
    · go_wp2
      refine bodyPost_ret (v := .tuple #[.slice (some ⟨q, 0, none⟩) (atK m.copies i).cells.length cp, .bool true]) (by simp [results, Tryz.results212, go_sem]) rfl ?_
      exact ⟨.inl ⟨trivial, H1.out⟩, B1.out⟩
  | false =>
    have hv : memV m a c = .iface 255 (.agg #[]) := by simp [memV, ha]
    rw [hv]
    have ht : ∀ w : World, (Instr.typeAssert (.iface 255 (.agg #[])) 197 307 true).run Tryz.prog w = .ok (.tuple #[.nilIface, .bool false]) w := fun w => run_typeAssert_lacksB holderU (by kernel_rfl) (by kernel_rfl) _ _ w
    clear hv hl hB hs ha
    go_enter Tryz.func212, Tryz.ntmps212
    go_wp2
    refine bodyPost_ret (v := .tuple #[.slice none 0 0, .bool false]) (by simp [results, Tryz.results212, go_sem]) rfl ?_
    exact ⟨.inr ⟨trivial, rfl⟩, Below.refl _ _⟩
set_option maxRecDepth 100000 in
set_option maxHeartbeats 2000000 in
theorem serves_any (w : World) (a : Option Addr) (c : Nat) (m : M4) (y : Int) (hl : ML m) (hB : machB m = true) (hs : SlK w w.heap.size a m.copies.length m.copies) :
    Calls Tryz.prog 235 #[memV m a c, .int .i64 y] w fun e w' => e = .returned (.bool (!m.alive || hasC m y)) ∧ Below w.heap.size w w' := by
  have hc := askCells_any w a c m y hl hB hs
  clear hl hB hs
  cases ha : m.alive with
  | true =>
    have hv : memV m a c = .iface 253 (.agg #[.slice a m.copies.length c]) := by simp [memV, ha]
    rw [hv] at hc ⊢
    have hm : ∀ w : World, (method 470 253 (.agg #[.slice a m.copies.length c]) "loop.example/g00153/impl.lives").run Tryz.prog w = .ok (330, .agg #[.slice a m.copies.length c]) w := fun _ => by kernel_rfl
    have HA := hidOf ha
    clear hv ha
    go_enter Tryz.func235, Tryz.ntmps235
    go_wp2_with fail
    refine hc.mono ?_
    clear hc
    rintro e w1 ⟨h1, b1⟩
    have B1 := hidOf b1
    have hL := livesL_any w1 a m.copies.length c
    clear b1
    rcases h1 with ⟨_, h1⟩ | ⟨h1, _⟩
    case inr => rw [HA.out] at h1; cases h1
    rcases h1 with ⟨hh, rfl⟩ | ⟨hh, i, q, cp, _, _, rfl, _⟩
    · have HH := hidOf hh
      clear hh
      go_wp2_with fail
      refine hL.mono ?_
      clear hL
      rintro e w2 ⟨rfl, b2⟩
      have B2 : Hid (Below w.heap.size w w2) := bstep B1.out b2
      clear b2
      go_wp2
      go_ret
      exact ⟨by rw [HH.out]; rfl, B2.out⟩
    · have HH := hidOf hh
      clear hh hL
      go_wp2
      go_ret
      exact ⟨by rw [HH.out]; rfl, B1.out⟩
  | false =>
    have hv : memV m a c = .iface 255 (.agg #[]) := by simp [memV, ha]
    rw [hv] at hc ⊢
    have hm : ∀ w : World, (method 470 255 (.agg #[]) "loop.example/g00153/impl.lives").run Tryz.prog w = .ok (332, .agg #[]) w := fun _ => by kernel_rfl
    have HA := hidOf ha
    clear hv ha
    go_enter Tryz.func235, Tryz.ntmps235
    go_wp2_with fail
    refine hc.mono ?_
    clear hc
    rintro e w1 ⟨h1, b1⟩
    have B1 := hidOf b1
    have hL := livesD_any w1
    clear b1
    rcases h1 with ⟨h1, _⟩ | ⟨_, rfl⟩
    · rw [HA.out] at h1; cases h1
    go_wp2_with fail
    refine hL.mono ?_
    clear hL
    rintro e w2 ⟨rfl, b2⟩
    have B2 : Hid (Below w.heap.size w w2) := bstep B1.out b2
    clear b2
    go_wp2
    go_ret
    exact ⟨rfl, B2.out⟩
theorem info_Mem : (Tryz.prog.info? 197).map (fun i => (i.zero, i.size, i.bytes)) = some (some (.nilIface), 1, 16) := by kernel_rfl
theorem make_Mem (n : Nat) (hn : n ≤ 1048576) (w : World) : (Instr.makeSlice 249 (.int .i64 (n : Int)) (.int .i64 (n : Int))).run Tryz.prog w = .ok (.slice (some ⟨w.heap.size, 0, none⟩) n n) (w.alloc (.cells (madeCells #[.nilIface] n) 197)) := by
  obtain ⟨i, hi, hzz⟩ := Option.map_eq_some_iff.1 info_Mem
  simp only [Prod.mk.injEq] at hzz
  obtain ⟨hz, hs, hb⟩ := hzz
  have := run_make (P := Tryz.prog) w 249 197 i _ Tryz.underlying249 hi hz .i64 .i64 (n : Int) (n : Int) (by omega) (by omega) (by rw [hb]; omega) (by omega)
  rw [hs] at this
  simpa [Value.cells] using this
def MemAt (w X : World) (b j : Nat) (ms : List M4) : Prop := ∀ t, t < j → ∃ a c, X.cell? ⟨b, t, none⟩ = some (memV (atM ms t) a c) ∧ SlK w w.heap.size a (atM ms t).copies.length (atM ms t).copies
theorem MemAt.below {w X Y : World} {b j B : Nat} {ms : List M4} (h : MemAt w X b j ms) (hb : Below B X Y) (hB : b < B) : MemAt w Y b j ms := fun t ht => by
  obtain ⟨a, c, h1, h2⟩ := h t ht
  exact ⟨a, c, (hb.cell (p := ⟨b, t, none⟩) hB).trans h1, h2⟩
theorem MemAt.set {w X : World} {b j : Nat} {ms : List M4} (h : MemAt w X b j ms) {v : Value} (hv : X.cell? ⟨b, j, none⟩ = some v) {a : Option Addr} {c : Nat} (hs : SlK w w.heap.size a (atM ms j).copies.length (atM ms j).copies) : MemAt w (X.setCell ⟨b, j, none⟩ (memV (atM ms j) a c)) b (j + 1) ms := fun t ht => by
  by_cases e : t = j
  · subst e
    exact ⟨a, c, cell_set_same hv, hs⟩
  · obtain ⟨a', c', h1, h2⟩ := h t (by omega)
    exact ⟨a', c', (cell_set_other e).trans h1, h2⟩
theorem memV_eq (m : M4) (a : Option Addr) (c : Nat) : ∃ T u, memV m a c = .iface T u := by
  cases h : m.alive
  · exact ⟨_, _, by simp only [memV, h]; rfl⟩
  · exact ⟨_, _, by simp only [memV, h]; rfl⟩
set_option maxRecDepth 100000 in
set_option maxHeartbeats 4000000 in
theorem membersOf_any (w : World) (a : Option Addr) (cap : Nat) (ms : List M4) (hn : ms.length ≤ 8) (hs : KMk.RdS w a ms) :
    Calls Tryz.prog 194 #[.slice a ms.length cap] w fun e w' => e = .returned (.slice (some ⟨w.heap.size, 0, none⟩) ms.length ms.length) ∧ MemAt w w' w.heap.size ms.length ms ∧ w.heap.size < w'.heap.size ∧ Below w.heap.size w w' := by
  have hmk := make_Mem ms.length (by omega)
  go_enter Tryz.func194, Tryz.ntmps194
  go_wp2
  go_loopw [11] (fun v wr => ∃ j : Nat, j ≤ ms.length ∧ v = .int .i64 j ∧ Below w.heap.size w wr ∧ w.heap.size < wr.heap.size ∧ Room wr w.heap.size ms.length ∧ MemAt w wr w.heap.size j ms) (fun v _ => ms.length - (intOf v).toNat)
  case atStart => exact ⟨0, Nat.zero_le _, rfl, (Below.refl _ _).alloc (Nat.le_refl _) _, by simp, room_made _ _ _ _, fun t ht => by omega⟩
  case round =>
    obtain ⟨j, hj, rfl, hbl, hsz, hrm, hma⟩ := hrel
    by_cases hlt : j < ms.length
    · rcases hs with hs | ⟨b, off, rfl, hb, h1⟩
      · rw [hs] at hlt; simp at hlt
      obtain ⟨⟨m0, m1, m2, m3, m4, m5⟩, hat, hrd⟩ := h1 j _ (atM_of hlt)
      have e0 : wr.cell? ⟨b, off + j * 4, none⟩ = some (.bool (atM ms j).alive) := (hbl.cell (p := ⟨b, off + j * 4, none⟩) hb).trans (hat 0 _ rfl)
      have e1 : wr.cell? ⟨b, off + j * 4 + 1, none⟩ = some (.slice m0 (atM ms j).copies.length m1) := (hbl.cell (p := ⟨b, off + j * 4 + 1, none⟩) hb).trans (hat 1 _ rfl)
      have e2 : wr.cell? ⟨b, off + j * 4 + 2, none⟩ = some (.slice m2 (atM ms j).log.length m3) := (hbl.cell (p := ⟨b, off + j * 4 + 2, none⟩) hb).trans (hat 2 _ rfl)
      have e3 : wr.cell? ⟨b, off + j * 4 + 3, none⟩ = some (.slice m4 (atM ms j).cleared.length m5) := (hbl.cell (p := ⟨b, off + j * 4 + 3, none⟩) hb).trans (hat 3 _ rfl)
      have jn : (j : Int) < (ms.length : Int) := by omega
      have KH : Hid (Below w.heap.size w wr ∧ w.heap.size < wr.heap.size ∧ Room wr w.heap.size ms.length ∧ MemAt w wr w.heap.size j ms ∧ SlK w w.heap.size m0 (atM ms j).copies.length (atM ms j).copies) := ⟨hbl, hsz, hrm, hma, hrd.k⟩
      obtain ⟨V, hV⟩ : ∃ Y, Y = wr.alloc (.cells #[.bool (atM ms j).alive, .slice m0 (atM ms j).copies.length m1, .slice m2 (atM ms j).log.length m3, .slice m4 (atM ms j).cleared.length m5] 62) := ⟨_, rfl⟩
      have bV : Hid (Below wr.heap.size wr V) := by unfold Hid; rw [hV]; exact (Below.refl _ _).alloc (Nat.le_refl _) _
      have hc := memberOf_any V m0 m1 m2 m3 m4 m5 (atM ms j)
      clear hat hrd h1 hbl hsz hrm hma hmk
      go_wp2_with fail
      rw [← hV]
      clear hV e0 e1 e2 e3
      refine hc.mono ?_
      clear hc
      rintro e w1 ⟨rfl, b1⟩
      have KB : Hid (Below wr.heap.size wr w1) := bstep bV.out b1
      obtain ⟨z, hz, hf⟩ : ∃ v, w1.cell? ⟨w.heap.size, j, none⟩ = some v ∧ w1.frozen? ⟨w.heap.size, j, none⟩ = false := (KH.out.2.2.1.below KB.out KH.out.2.1) j hlt
      have Z := hidOf hz
      obtain ⟨T0, u0, hm0⟩ := memV_eq (atM ms j) m0 m1
      have HM := hidOf hm0
      rw [hm0]
      clear b1 hm0
      go_wp2
      have hma := (KH.out.2.2.2.1.below KB.out KH.out.2.1).set Z.out (c := m1) KH.out.2.2.2.2
      rw [HM.out] at hma
      exact ⟨⟨j + 1, by omega, by simp, ((KH.out.1.trans (KB.out.mono KH.out.1.size)).setCell (p := ⟨w.heap.size, j, none⟩) (Nat.le_refl _) _), by simp [World.setCell]; exact Nat.lt_of_lt_of_le KH.out.2.1 KB.out.size, (KH.out.2.2.1.below KB.out KH.out.2.1).set _, hma⟩, by simp [intOf]; omega⟩
    · obtain rfl : j = ms.length := by omega
      have hd : decide ((ms.length : Int) < (ms.length : Int)) = false := by simp
      have KH : Hid (Below w.heap.size w wr ∧ w.heap.size < wr.heap.size ∧ MemAt w wr w.heap.size ms.length ms) := ⟨hbl, hsz, hma⟩
      clear hbl hsz hrm hma hmk hs
      go_wp2
      go_ret
      exact ⟨rfl, KH.out.2.2, KH.out.2.1, KH.out.1⟩
set_option maxRecDepth 100000 in
set_option maxHeartbeats 4000000 in
theorem placed_any (w0 w : World) (a : Option Addr) (cap q : Nat) (zss : List (List Int)) (ms : List M4) (hl : ∀ m ∈ ms, ML m) (hB : machsB ms = true) (hP : placesB zss = true) (hpl : zss.length ≤ maxLen) (hps : ∀ zs ∈ zss, zs.length ≤ maxLen)
    (h0 : Below w0.heap.size w0 w) (hq : q < w.heap.size) (hm : MemAt w0 w q ms.length ms) (hs : SlP w w.heap.size a zss.length zss) :
    Calls Tryz.prog 193 #[.slice a zss.length cap, .slice (some ⟨q, 0, none⟩) ms.length ms.length] w fun e w' => e = .returned (.bool (placedB zss ms)) ∧ Below w.heap.size w w' := by
  have H : Hid ((∀ m ∈ ms, ML m) ∧ machsB ms = true ∧ (∀ zs ∈ zss, zs.length ≤ maxLen) ∧ MemAt w0 w q ms.length ms ∧ SlP w w.heap.size a zss.length zss ∧ Below w0.heap.size w0 w) := ⟨hl, hB, hps, hm, hs, h0⟩
  have HZ : Hid (∀ r j, r < zss.length → j < (atP zss r).length → 0 ≤ atN (atP zss r) j ∧ atN (atP zss r) j ≤ 7) := fun r j hr hj => places_z hP hr hj
  have HD : Hid (placedB zss ms = (List.range zss.length).all fun r => placB ms r (atP zss r)) := rfl
  unfold maxLen at hpl
  clear hl hB hP hps hm hs h0
  go_enter Tryz.func193, Tryz.ntmps193
  go_wp2
  go_loopw [11] (fun v wr => ∃ r : Nat, r ≤ zss.length ∧ v = .int .i64 r ∧ Below w.heap.size w wr ∧ (List.range r).all (fun r => placB ms r (atP zss r)) = true) (fun v _ => zss.length - (intOf v).toNat)
  case atStart => exact ⟨0, Nat.zero_le _, rfl, Below.refl _ _, rfl⟩
  case round =>
  obtain ⟨r, hr, rfl, hbl, hall⟩ := hrel
  have KC : Hid (Below w.heap.size w wr ∧ (List.range r).all (fun r => placB ms r (atP zss r)) = true) := ⟨hbl, hall⟩
  clear hbl hall
  by_cases hlr : r < zss.length
  case neg =>
    obtain rfl : r = zss.length := by omega
    have hd : decide ((zss.length : Int) < (zss.length : Int)) = false := by simp
    go_wp2
    go_ret
    exact ⟨by rw [HD.out, KC.out.2]; rfl, KC.out.1⟩
  obtain ⟨_, hsp⟩ := H.out.2.2.2.2.1
  rcases hsp with hsp | ⟨b, off, rfl, hb, hpp⟩
  · omega
  obtain ⟨a', cap', hc, hsl, hcp⟩ := hpp r _ (atP_of hlr)
  have c := (KC.out.1.cell (p := ⟨b, off + r, none⟩) hb).trans hc
  have HSL : Hid (SlN w w.heap.size a' (atP zss r).length (atP zss r)) := hsl
  have jr : (r : Int) < (zss.length : Int) := by omega
  have lz := H.out.2.2.1 _ (List.mem_of_getElem? (atP_of hlr))
  unfold maxLen at lz
  have HF : Hid (placB ms r (atP zss r) = false → placedB zss ms = false) := fun hh => by rw [HD.out]; exact all_off (f := fun r => placB ms r (atP zss r)) hlr hh
  have HZr : Hid (∀ j, j < (atP zss r).length → 0 ≤ atN (atP zss r) j ∧ atN (atP zss r) j ≤ 7) := fun j hj => HZ.out r j hlr hj
  have HPL : Hid (placB ms r (atP zss r) = (List.range (atP zss r).length).all fun j => servB ms r (atN (atP zss r) j)) := rfl
  have HON : Hid (placB ms r (atP zss r) = true → (List.range (r + 1)).all (fun r => placB ms r (atP zss r)) = true) := fun hh => all_on (f := fun r => placB ms r (atP zss r)) KC.out.2 hh
  clear hpp hc hsl
  generalize hzs : atP zss r = zs at *
  obtain ⟨V, hV⟩ : ∃ Y, Y = wr.alloc (.cells #[.slice a' zs.length cap'] 127) := ⟨_, rfl⟩
  have KV : Hid (Below w.heap.size w V) := bstep KC.out.1 (by rw [hV]; exact (Below.refl _ _).alloc (Nat.le_refl _) _)
  go_wp2
  rw [← hV]
  clear c jr hzs hV
  generalize wr = wC at *
  generalize V = wD at *
  go_loopw [19] (fun v wr => ∃ j : Nat, j ≤ zs.length ∧ v = .int .i64 j ∧ Below w.heap.size w wr ∧ (List.range j).all (fun j => servB ms r (atN zs j)) = true) (fun v _ => zs.length - (intOf v).toNat)
  case atStart => exact ⟨0, Nat.zero_le _, rfl, KV.out, rfl⟩
  case round =>
  obtain ⟨j, hj, rfl, hbl, hall⟩ := hrel
  have KD : Hid (Below w.heap.size w wr ∧ (List.range j).all (fun j => servB ms r (atN zs j)) = true) := ⟨hbl, hall⟩
  clear hbl hall
  by_cases hlj : j < zs.length
  case neg =>
    obtain rfl : j = zs.length := by omega
    have hd : decide ((zs.length : Int) < (zs.length : Int)) = false := by simp
    have hh := HON.out (by rw [HPL.out]; exact KD.out.2)
    go_wp2
    exact ⟨⟨r + 1, by omega, by simp, KD.out.1, hh⟩, by simp [intOf]; omega⟩
  obtain ⟨_, hsn⟩ := HSL.out
  rcases hsn with hsn | ⟨b', off', rfl, hb', h2⟩
  · omega
  have hz := HZr.out j hlj
  obtain ⟨i, hi⟩ : ∃ i : Nat, atN zs j = (i : Int) := ⟨(atN zs j).toNat, by omega⟩
  have hck := h2 j _ (atN_of hlj)
  rw [hi] at hck
  have xz := (KD.out.1.cell (p := ⟨b', off' + j, none⟩) hb').trans hck
  have jz : (j : Int) < (zs.length : Int) := by omega
  have HB : Hid (servB ms r (atN zs j) = (decide ((i : Int) < (ms.length : Int)) && (!(atM ms i).alive || hasC (atM ms i) (r : Int)))) := by unfold Hid servB; rw [hi]; rfl
  have HFF : Hid (servB ms r (atN zs j) = false → placedB zss ms = false) := fun hh => HF.out (by rw [HPL.out]; exact all_off (f := fun j => servB ms r (atN zs j)) hlj hh)
  clear hck h2 hz hi
  by_cases him : i < ms.length
  case neg =>
    have dz : decide ((ms.length : Int) ≤ (i : Int)) = true := by simp <;> omega
    have dz2 : decide (ms.length ≤ i) = true := by simp <;> omega
    have hb0 : Hid (placedB zss ms = false) := HFF.out (by rw [HB.out]; simp [him])
    go_wp2
    go_ret
    exact ⟨by rw [hb0.out]; rfl, KD.out.1⟩
  have dz : decide ((ms.length : Int) ≤ (i : Int)) = false := by simp <;> omega
  have dz2 : decide (ms.length ≤ i) = false := by simp <;> omega
  have im : (i : Int) < (ms.length : Int) := by omega
  obtain ⟨a2, c2, hmc, hmk⟩ := (H.out.2.2.2.1.below KD.out.1 hq) i him
  have hsv := serves_any wr a2 c2 (atM ms i) (r : Int) (H.out.1 _ (List.mem_of_getElem? (atM_of him))) (by have := H.out.2.1; exact List.all_eq_true.1 this i (List.mem_range.2 him)) (hmk.later (bstep H.out.2.2.2.2.2 KD.out.1))
  obtain ⟨T0, u0, hm0⟩ := memV_eq (atM ms i) a2 c2
  rw [hm0] at hmc hsv
  clear hmk hm0
  cases hh : (!(atM ms i).alive || hasC (atM ms i) (r : Int)) with
  | false =>
    rw [hh] at hsv
    have hb0 : Hid (placedB zss ms = false) := HFF.out (by rw [HB.out, hh]; simp)
    clear hh
    go_wp2_with fail
    refine hsv.mono ?_
    clear hsv
    rintro e w1 ⟨rfl, b1⟩
    have KB : Hid (Below w.heap.size w w1) := bstep KD.out.1 b1
    clear b1
    go_wp2
    go_ret
    exact ⟨by rw [hb0.out]; rfl, KB.out⟩
  | true =>
    rw [hh] at hsv
    have hon : Hid ((List.range (j + 1)).all (fun j => servB ms r (atN zs j)) = true) := all_on (f := fun j => servB ms r (atN zs j)) KD.out.2 (by rw [HB.out, hh]; simp [him])
    clear hh
    go_wp2_with fail
    refine hsv.mono ?_
    clear hsv
    rintro e w1 ⟨rfl, b1⟩
    have KB : Hid (Below w.heap.size w w1) := bstep KD.out.1 b1
    clear b1
    go_wp2
    exact ⟨⟨j + 1, by omega, by simp, KB.out, hon.out⟩, by simp [intOf]; omega⟩
def idxMF (w : World) (xs : List M4)  (f : Nat → Bool) : Prop :=
  ∀ (X : World) (i : Nat) (m0 : Option Addr) (m1 : Nat) (m2 : Option Addr) (m3 : Nat) (m4 : Option Addr) (m5 : Nat), Below w.heap.size w X → i < xs.length → KMk.Rd X ⟨m0, m1, m2, m3, m4, m5⟩ (atM xs i) → Calls Tryz.prog 229 #[.agg #[.bool (atM xs i).alive, .slice m0 (atM xs i).copies.length m1, .slice m2 (atM xs i).log.length m3, .slice m4 (atM xs i).cleared.length m5]] X fun e w' => e = .returned (.bool (f i)) ∧ Below X.heap.size X w'
set_option maxRecDepth 100000 in
set_option maxHeartbeats 2000000 in
theorem idxM (w : World) (a : Option Addr) (cap : Nat) (xs : List M4)  (f : Nat → Bool) (hn : xs.length ≤ maxLen) (hs : KMk.RdS w a xs) (hf : idxMF w xs  f) :
    Calls Tryz.prog 265 #[.slice a xs.length cap, .func (.func 229) #[] #[]] w fun e w' => (∃ i : Int, e = .returned (.int .i64 i) ∧ FirstAt f xs.length i) ∧ Below w.heap.size w w' := by
  unfold maxLen at hn
  have HF := hidOf hf
  clear hf
  go_enter Tryz.func265, Tryz.ntmps265
  go_wp2
  go_loopw [8] (fun v wr => ∃ j : Nat, j ≤ xs.length ∧ v = .int .i64 j ∧ Below w.heap.size w wr ∧ ∀ i, i < j → f i = false) (fun v _ => xs.length - (intOf v).toNat)
  case atStart => exact ⟨0, Nat.zero_le _, rfl, Below.refl _ _, fun i h => absurd h (by omega)⟩
  case round =>
    obtain ⟨j, hj, rfl, hbl, hall⟩ := hrel
    by_cases hlt : j < xs.length
    · rcases hs with hs | ⟨b, off, rfl, hb, h1⟩
      · rw [hs] at hlt; simp at hlt
      obtain ⟨⟨m0, m1, m2, m3, m4, m5⟩, hat, hrd⟩ := h1 j _ (atM_of hlt)
      have e0 : wr.cell? ⟨b, off + j * 4, none⟩ = some (.bool (atM xs j).alive) := (hbl.cell (p := ⟨b, off + j * 4, none⟩) hb).trans (hat 0 _ rfl)
      have e1 : wr.cell? ⟨b, off + j * 4 + 1, none⟩ = some (.slice m0 (atM xs j).copies.length m1) := (hbl.cell (p := ⟨b, off + j * 4 + 1, none⟩) hb).trans (hat 1 _ rfl)
      have e2 : wr.cell? ⟨b, off + j * 4 + 2, none⟩ = some (.slice m2 (atM xs j).log.length m3) := (hbl.cell (p := ⟨b, off + j * 4 + 2, none⟩) hb).trans (hat 2 _ rfl)
      have e3 : wr.cell? ⟨b, off + j * 4 + 3, none⟩ = some (.slice m4 (atM xs j).cleared.length m5) := (hbl.cell (p := ⟨b, off + j * 4 + 3, none⟩) hb).trans (hat 3 _ rfl)
      have hw := HF.out wr j m0 m1 m2 m3 m4 m5 hbl hlt (KMk.later hrd hbl)
      have KA : Hid ((∀ i, i < j → f i = false) ∧ Below w.heap.size w wr) := ⟨hall, hbl⟩
      have jn : (j : Int) < (xs.length : Int) := by omega
      clear h1 hat hrd hall hbl
      cases hp : f j with
      | true =>
        rw [hp] at hw
        go_wp2_with fail
        refine hw.mono ?_
        clear hw
        rintro e w1 ⟨rfl, b1⟩
        go_wp2
        go_ret
        exact ⟨⟨_, rfl, .inr ⟨j, rfl, hlt, hp, KA.out.1⟩⟩, KA.out.2.trans (b1.mono KA.out.2.size)⟩
      | false =>
        rw [hp] at hw
        go_wp2_with fail
        refine hw.mono ?_
        clear hw
        rintro e w1 ⟨rfl, b1⟩
        go_wp2
        exact ⟨⟨j + 1, by omega, by simp, KA.out.2.trans (b1.mono KA.out.2.size), fun i hi => by
          by_cases e : i = j
          · rw [e]; exact hp
          · exact KA.out.1 i (by omega)⟩, by simp [intOf]; omega⟩
    · obtain rfl : j = xs.length := by omega
      have hd : decide ((xs.length : Int) < (xs.length : Int)) = false := by simp
      have KA : Hid ((∀ i, i < xs.length → f i = false) ∧ Below w.heap.size w wr) := ⟨hall, hbl⟩
      clear hall hbl hs
      go_wp2
      go_ret
      exact ⟨⟨_, rfl, .inl ⟨rfl, KA.out.1⟩⟩, KA.out.2⟩
set_option maxHeartbeats 1000000 in
theorem idxM_has (w : World) (a : Option Addr) (cap : Nat) (xs : List M4)  (f : Nat → Bool) (hn : xs.length ≤ maxLen) (hs : KMk.RdS w a xs) (hf : idxMF w xs  f) :
    Calls Tryz.prog 231 #[.slice a xs.length cap, .func (.func 229) #[] #[]] w fun e w' => e = .returned (.bool (!((List.range xs.length).all fun j => !f j))) ∧ Below w.heap.size w w' := by
  have hc := idxM w a cap xs  f hn hs hf
  clear hs hf
  go_enter Tryz.func231, Tryz.ntmps231
  go_wp2_with fail
  refine hc.mono ?_
  clear hc
  rintro e w1 ⟨⟨i, rfl, hi⟩, b1⟩
  have h := first_has hi
  have KB := hidOf b1
  clear b1 hi
  go_wp2
  go_ret
  exact ⟨by rw [← h]; rfl, KB.out⟩
set_option maxHeartbeats 1000000 in
theorem machWrong (X : World) (m0 : Option Addr) (m1 : Nat) (m2 : Option Addr) (m3 : Nat) (m4 : Option Addr) (m5 : Nat) (m : M4) (hl : ML m) (h : SlM X ⟨m0, m1, m2, m3, m4, m5⟩ m) : Calls Tryz.prog 229 #[.agg #[.bool m.alive, .slice m0 m.copies.length m1, .slice m2 m.log.length m3, .slice m4 m.cleared.length m5]] X fun e w' => e = .returned (.bool (!machB m)) ∧ Below X.heap.size X w' := by
  obtain ⟨U, hU⟩ : ∃ Y, Y = X.alloc (.cells #[.bool m.alive, .slice m0 m.copies.length m1, .slice m2 m.log.length m3, .slice m4 m.cleared.length m5] 62) := ⟨_, rfl⟩
  have b0 : Below X.heap.size X U := by rw [hU]; exact (Below.refl _ _).alloc (Nat.le_refl _) _
  have hc := implMachineOk_any U ⟨m0, m1, m2, m3, m4, m5⟩ m hl (h.later b0)
  simp only [MV.val] at hc
  have KB := hidOf b0
  clear b0 hl h
  go_enter Tryz.func229, Tryz.ntmps229
  go_wp2_with fail
  rw [← hU]
  clear hU
  refine hc.mono ?_
  clear hc
  rintro e w1 ⟨rfl, b1⟩
  go_wp2
  go_ret
  exact ⟨rfl, bstep KB.out b1⟩
set_option maxHeartbeats 1000000 in
theorem machinesOk_any (w : World) (a : Option Addr) (cap : Nat) (ms : List M4) (hn : ms.length ≤ maxLen) (hl : ∀ m ∈ ms, ML m) (hs : KMk.RdS w a ms) :
    Calls Tryz.prog 191 #[.slice a ms.length cap] w fun e w' => e = .returned (.bool (decide (1 ≤ ms.length) && decide (ms.length ≤ 8) && machsB ms)) ∧ Below w.heap.size w w' := by
  have hc := idxM_has w a cap ms (fun i => !machB (atM ms i)) hn hs (fun X i m0 m1 m2 m3 m4 m5 hb hi hr => machWrong X m0 m1 m2 m3 m4 m5 (atM ms i) (hl _ (List.mem_of_getElem? (atM_of hi))) hr)
  have he : (!((List.range ms.length).all fun j => !(fun i => !machB (atM ms i)) j)) = !machsB ms := by simp [machsB]
  rw [he] at hc
  clear hs hl he
  unfold maxLen at hn
  by_cases g1 : 1 ≤ ms.length
  case neg =>
    have d1 : decide ((1 : Int) ≤ (ms.length : Int)) = false := by simp <;> omega
    have hb : (decide (1 ≤ ms.length) && decide (ms.length ≤ 8) && machsB ms) = false := by simp [g1]
    rw [hb]
    clear hc g1 hb
    go_enter Tryz.func191, Tryz.ntmps191
    go_wp2
    go_ret
    exact ⟨rfl, Below.refl _ _⟩
  have d1 : decide ((1 : Int) ≤ (ms.length : Int)) = true := by simp <;> omega
  by_cases g2 : ms.length ≤ 8
  case neg =>
    have d2 : decide ((ms.length : Int) ≤ 8) = false := by simp <;> omega
    have hb : (decide (1 ≤ ms.length) && decide (ms.length ≤ 8) && machsB ms) = false := by simp [g2]
    rw [hb]
    clear hc g2 hb g1
    go_enter Tryz.func191, Tryz.ntmps191
    go_wp2
    go_ret
    exact ⟨rfl, Below.refl _ _⟩
  have d2 : decide ((ms.length : Int) ≤ 8) = true := by simp <;> omega
  have hb : (decide (1 ≤ ms.length) && decide (ms.length ≤ 8) && machsB ms) = machsB ms := by simp [g1, g2]
  rw [hb]
  clear g1 g2 hb
  go_enter Tryz.func191, Tryz.ntmps191
  go_wp2_with fail
  refine hc.mono ?_
  clear hc
  rintro e w1 ⟨rfl, b1⟩
  have KB := hidOf b1
  clear b1
  go_wp2
  go_ret
  exact ⟨by simp, KB.out⟩
end Go.Proofs.YtnhjgomfkfehgaaGreatDoor
namespace Go.Proofs.YtnhjgomfkfehgaaGreatDoor
open Go.RowKit
theorem implMachine (w : World) (x : Int) : Calls Tryz.prog 153 #[.int .i64 x] w fun e w' => e = .returned (.bool (inB 0 7 x)) ∧ w' = w := by
  by_cases h0 : 0 ≤ x
  · by_cases h8 : x < 8
    · rw [inB_yes (by omega) (by omega)]
      go_enter Tryz.func153, Tryz.ntmps153
      go_wp2
      go_ret
      exact ⟨rfl, rfl⟩
    · have hd : decide (x < 8) = false := by simp; omega
      have hb : inB 0 7 x = false := by cases h : inB 0 7 x with | false => rfl | true => rw [inB_iff] at h; omega
      rw [hb]
      go_enter Tryz.func153, Tryz.ntmps153
      go_wp2
      go_ret
      exact ⟨rfl, rfl⟩
  · have hd : decide (0 ≤ x) = false := by simp; omega
    have hb : inB 0 7 x = false := by cases h : inB 0 7 x with | false => rfl | true => rw [inB_iff] at h; omega
    rw [hb]
    go_enter Tryz.func153, Tryz.ntmps153
    go_wp2
    go_ret
    exact ⟨rfl, rfl⟩
set_option maxHeartbeats 1000000 in
theorem index_any (w : World) (a : Option Addr) (n cap : Nat) (z : Int) (zs : List Int) (hn : n ≤ maxLen) (hs : SlN w w.heap.size a n zs) :
    Calls Tryz.prog 220 #[.slice a n cap, .int .i64 z] w fun e w' => (∃ i : Int, e = .returned (.int .i64 i) ∧ decide (0 ≤ i) = hasB zs z) ∧ w' = w := by
  unfold maxLen at hn
  obtain ⟨hx, hs⟩ := hs
  go_enter Tryz.func220, Tryz.ntmps220
  go_wp2
  go_loop [8] (fun v => ∃ k : Nat, k ≤ n ∧ v = .int .i64 k ∧ ∀ i, i < k → atN zs i ≠ z) (fun v => n - (intOf v).toNat)
  case atStart => exact ⟨0, Nat.zero_le _, rfl, fun i h => absurd h (by omega)⟩
  case round =>
    obtain ⟨k, hk, rfl, hall⟩ := hrel
    have K : Hid ((∀ i, i < k → atN zs i ≠ z) ∧ zs.length = n) := ⟨hall, hx⟩
    by_cases hlt : k < n
    · rcases hs with hs | ⟨b, off, rfl, hb, h1⟩
      · omega
      · have c := h1 k _ (atN_of (by omega))
        clear h1 hall hx
        by_cases he : atN zs k = z
        · have q : (z == atN zs k) = true := by simp [he]
          have HE : Hid (atN zs k = z) := he
          clear he
          go_wp2
          go_ret
          exact ⟨⟨_, rfl, by rw [has_yes (by rw [K.out.2]; exact hlt) HE.out]; simp⟩, rfl⟩
        · have q : (z == atN zs k) = false := by simp; exact fun h => he h.symm
          have HE : Hid (atN zs k ≠ z) := he
          clear he
          go_wp2
          refine ⟨⟨k + 1, by omega, by simp, fun i hi => ?_⟩, by simp [intOf]; omega⟩
          by_cases e : i = k
          · rw [e]; exact HE.out
          · exact K.out.1 i (by omega)
    · have : k = n := by omega
      subst this
      have hd : decide ((k : Int) < (k : Int)) = false := by simp
      clear hall hx hs
      go_wp2
      go_ret
      exact ⟨⟨_, rfl, by rw [has_no (by rw [K.out.2]; exact K.out.1)]; rfl⟩, rfl⟩
theorem contains_any (w : World) (a : Option Addr) (n cap : Nat) (z : Int) (zs : List Int) (hn : n ≤ maxLen) (hs : SlN w w.heap.size a n zs) :
    Calls Tryz.prog 172 #[.slice a n cap, .int .i64 z] w fun e w' => e = .returned (.bool (hasB zs z)) ∧ w' = w := by
  have hi := index_any w a n cap z zs hn hs
  clear hs
  go_enter Tryz.func172, Tryz.ntmps172
  go_wp2_with fail
  refine hi.mono ?_
  clear hi
  rintro e w1 ⟨⟨i, rfl, hb⟩, rfl⟩
  go_wp2
  go_ret
  exact ⟨rfl, rfl⟩
set_option maxHeartbeats 4000000 in
theorem placeOk_any (w : World) (a : Option Addr) (cap : Nat) (zs : List Int) (hs : SlN w w.heap.size a zs.length zs) (hcp : zs.length ≤ cap) :
    Calls Tryz.prog 233 #[.agg #[.slice a zs.length cap]] w fun e w' => e = .returned (.bool (placeB zs)) ∧ Below w.heap.size w w' := by
  have b0 : Below w.heap.size w (w.alloc (.cells #[.slice a zs.length cap] 127)) := (Below.refl _ _).alloc (Nat.le_refl _) _
  by_cases h3 : zs.length < 1 ∨ 3 < zs.length
  · have hpf : placeB zs = false := by
      rcases h3 with h | h
      · simp [placeB, show ¬ 1 ≤ zs.length by omega]
      · simp [placeB, show ¬ zs.length ≤ 3 by omega]
    rw [hpf]
    rcases h3 with h | h
    · have d3 : decide ((zs.length : Int) < 1) = true := by simp; omega
      go_enter Tryz.func233, Tryz.ntmps233
      go_wp2
      go_ret
      exact ⟨rfl, b0⟩
    · have d3 : decide ((zs.length : Int) < 1) = false := by simp; omega
      have d4 : decide ((3 : Int) < (zs.length : Int)) = true := by simp; omega
      go_enter Tryz.func233, Tryz.ntmps233
      go_wp2
      go_ret
      exact ⟨rfl, b0⟩
  · have d3 : decide ((zs.length : Int) < 1) = false := by simp; omega
    have d4 : decide ((3 : Int) < (zs.length : Int)) = false := by simp; omega
    have HG : Hid (placeB zs = (List.range zs.length).all (goodAt zs)) := by unfold Hid; simp [placeB, show 1 ≤ zs.length by omega, show zs.length ≤ 3 by omega]
    have KS : Hid (SlN w w.heap.size a zs.length zs) := hs
    have KB : Hid (Below w.heap.size w (w.alloc (.cells #[.slice a zs.length cap] 127))) := b0
    clear hs b0
    go_enter Tryz.func233, Tryz.ntmps233
    go_wp2
    go_loopw [18] (fun v18 wr => ∃ k : Nat, k ≤ zs.length ∧ v18 = .int .i64 k ∧ Below (w.heap.size + 1) (w.alloc (.cells #[.slice a zs.length cap] 127)) wr ∧ (List.range k).all (goodAt zs) = true) (fun v18 _ => zs.length - (intOf v18).toNat)
    case atStart => exact ⟨0, Nat.zero_le _, rfl, Below.refl _ _, rfl⟩
    case round =>
      obtain ⟨k, hk, rfl, hbq, hgk⟩ := hrel
      have hbw : Below w.heap.size w wr := KB.out.trans (hbq.mono (by omega))
      by_cases hkl : k < zs.length
      · obtain ⟨_, hsn⟩ := KS.out
        rcases hsn with hsn | ⟨b', off', rfl, hb', h2⟩
        · omega
        · have cp : wr.cell? ⟨w.heap.size, 0, none⟩ = some (.slice (some ⟨b', off', none⟩) zs.length cap) := (hbq.cell (p := ⟨w.heap.size, 0, none⟩) (by simp)).trans (by go_simp)
          have ck := (hbw.cell (p := ⟨b', off' + k, none⟩) hb').trans (h2 k _ (atN_of hkl))
          have hst : SlN wr wr.heap.size (some ⟨b', off', none⟩) k (zs.take k) := ⟨by rw [List.length_take]; omega, .inr ⟨b', off', rfl, Nat.lt_of_lt_of_le hb' hbw.size, fun i z e => by
            rw [List.getElem?_take] at e
            split at e
            · exact (h2.below hbw hb') i z e
            · cases e⟩⟩
          have KQ : Hid (Below (w.heap.size + 1) (w.alloc (.cells #[.slice (some ⟨b', off', none⟩) zs.length cap] 127)) wr ∧ (List.range k).all (goodAt zs) = true ∧ Below w.heap.size w wr) := ⟨hbq, hgk, hbw⟩
          have hkm : k ≤ maxLen := by unfold maxLen; omega
          have cH : Calls Tryz.prog 172 #[.slice (some ⟨b', off', none⟩) k cap, .int .i64 (atN zs k)] wr fun e w'' => e = .returned (.bool (hasB (zs.take k) (atN zs k))) ∧ w'' = wr := contains_any wr _ k cap (atN zs k) (zs.take k) hkm hst
          have cM := implMachine wr (atN zs k)
          have HK : Hid (goodAt zs k = (inB 0 7 (atN zs k) && !hasB (zs.take k) (atN zs k))) := rfl
          have hkc : k ≤ cap := by omega
          clear h2 hbq hgk hst hbw
          generalize atN zs k = z at *
          cases g1 : inB 0 7 z with
          | false =>
            rw [g1] at cM
            have hgf : goodAt zs k = false := by rw [HK.out, g1]; rfl
            go_wp2_with fail
            refine cM.mono ?_
            clear cM cH
            rintro e wr ⟨rfl, rfl⟩
            go_wp2
            go_ret
            exact ⟨by rw [HG.out, all_off hkl hgf]; rfl, KQ.out.2.2⟩
          | true =>
            rw [g1] at cM
            cases g2 : hasB (zs.take k) z with
            | true =>
              rw [g2] at cH
              have hgf : goodAt zs k = false := by rw [HK.out, g1, g2]; rfl
              go_wp2_with fail
              refine cM.mono ?_
              clear cM
              rintro e wr ⟨rfl, rfl⟩
              go_wp2_with fail
              refine cH.mono ?_
              clear cH
              rintro e wr ⟨rfl, rfl⟩
              go_wp2
              go_ret
              exact ⟨by rw [HG.out, all_off hkl hgf]; rfl, KQ.out.2.2⟩
            | false =>
              rw [g2] at cH
              have hgt : goodAt zs k = true := by rw [HK.out, g1, g2]; rfl
              go_wp2_with fail
              refine cM.mono ?_
              clear cM
              rintro e wr ⟨rfl, rfl⟩
              go_wp2_with fail
              refine cH.mono ?_
              clear cH
              rintro e wr ⟨rfl, rfl⟩
              go_wp2
              exact ⟨⟨k + 1, by omega, by simp, KQ.out.1, all_on KQ.out.2.1 hgt⟩, by simp [intOf]; omega⟩
      · have : k = zs.length := by omega
        subst this
        have hd : decide ((zs.length : Int) < (zs.length : Int)) = false := by simp
        go_wp2
        go_ret
        exact ⟨by rw [HG.out, hgk]; rfl, hbw⟩
theorem wrong_any (w : World) (a : Option Addr) (cap : Nat) (zs : List Int) (hs : SlN w w.heap.size a zs.length zs) (hcp : zs.length ≤ cap) :
    Calls Tryz.prog 232 #[.agg #[.slice a zs.length cap]] w fun e w' => e = .returned (.bool (!placeB zs)) ∧ Below w.heap.size w w' := by
  have b0 : Below w.heap.size w (w.alloc (.cells #[.slice a zs.length cap] 127)) := (Below.refl _ _).alloc (Nat.le_refl _) _
  have hc := placeOk_any (w.alloc (.cells #[.slice a zs.length cap] 127)) a cap zs (hs.later b0) hcp
  have B0 : Hid (Below w.heap.size w (w.alloc (.cells #[.slice a zs.length cap] 127))) := b0
  clear hs b0
  generalize placeB zs = V at *
  generalize zs.length = n at *
  go_enter Tryz.func232, Tryz.ntmps232
  go_wp2_with fail
  refine hc.mono ?_
  clear hc
  rintro e w1 ⟨rfl, b1⟩
  go_wp2
  go_ret
  exact ⟨rfl, B0.out.trans (b1.mono (by simp))⟩
set_option maxHeartbeats 2000000 in
theorem indexFunc_any (w : World) (a : Option Addr) (n cap : Nat) (zss : List (List Int)) (hn : n ≤ maxLen) (hs : SlP w w.heap.size a n zss) :
    Calls Tryz.prog 266 #[.slice a n cap, .func (.func 232) #[] #[]] w fun e w' => (∃ i : Int, e = .returned (.int .i64 i) ∧ decide (0 ≤ i) = !((List.range n).all fun i => placeB (atP zss i))) ∧ Below w.heap.size w w' := by
  unfold maxLen at hn
  obtain ⟨hx, hs⟩ := hs
  go_enter Tryz.func266, Tryz.ntmps266
  go_wp2
  go_loopw [8] (fun v wr => ∃ j : Nat, j ≤ n ∧ v = .int .i64 j ∧ Below w.heap.size w wr ∧ (List.range j).all (fun i => placeB (atP zss i)) = true) (fun v _ => n - (intOf v).toNat)
  case atStart => exact ⟨0, Nat.zero_le _, rfl, Below.refl _ _, rfl⟩
  case round =>
    obtain ⟨j, hj, rfl, hbl, hall⟩ := hrel
    by_cases hlt : j < n
    · rcases hs with hs | ⟨b, off, rfl, hb, h1⟩
      · omega
      · obtain ⟨a', cap', hc, hsl, hcp⟩ := h1 j _ (atP_of (by omega))
        have c := (hbl.cell (p := ⟨b, off + j, none⟩) hb).trans hc
        have KA : Hid ((List.range j).all (fun i => placeB (atP zss i)) = true ∧ Below w.heap.size w wr) := ⟨hall, hbl⟩
        have hw := wrong_any wr a' cap' (atP zss j) ((hsl.below hbl).mono hbl.size) hcp
        have HF : Hid (placeB (atP zss j) = false → ((List.range n).all fun i => placeB (atP zss i)) = false) := fun h => all_off hlt h
        have HT : Hid (placeB (atP zss j) = true → ((List.range (j + 1)).all fun i => placeB (atP zss i)) = true) := fun h => all_on hall h
        clear h1 hc hall hsl hbl hcp
        generalize (atP zss j).length = m at *
        cases hp : placeB (atP zss j) with
        | false =>
          rw [hp] at hw
          go_wp2_with fail
          refine hw.mono ?_
          clear hw
          rintro e w1 ⟨rfl, b1⟩
          go_wp2
          go_ret
          exact ⟨⟨_, rfl, by rw [HF.out hp]; simp⟩, KA.out.2.trans (b1.mono KA.out.2.size)⟩
        | true =>
          rw [hp] at hw
          go_wp2_with fail
          refine hw.mono ?_
          clear hw
          rintro e w1 ⟨rfl, b1⟩
          go_wp2
          exact ⟨⟨j + 1, by omega, by simp, KA.out.2.trans (b1.mono KA.out.2.size), HT.out hp⟩, by simp [intOf]; omega⟩
    · have : j = n := by omega
      subst this
      have hd : decide ((j : Int) < (j : Int)) = false := by simp
      clear hs
      go_wp2
      go_ret
      exact ⟨⟨_, rfl, by rw [hall]; rfl⟩, hbl⟩
theorem containsFunc_any (w : World) (a : Option Addr) (n cap : Nat) (zss : List (List Int)) (hn : n ≤ maxLen) (hs : SlP w w.heap.size a n zss) :
    Calls Tryz.prog 234 #[.slice a n cap, .func (.func 232) #[] #[]] w fun e w' => e = .returned (.bool (!((List.range n).all fun i => placeB (atP zss i)))) ∧ Below w.heap.size w w' := by
  have hi := indexFunc_any w a n cap zss hn hs
  clear hs
  generalize (!((List.range n).all fun i => placeB (atP zss i))) = V at *
  go_enter Tryz.func234, Tryz.ntmps234
  go_wp2_with fail
  refine hi.mono ?_
  clear hi
  rintro e w1 ⟨⟨i, rfl, hb⟩, b1⟩
  go_wp2
  go_ret
  exact ⟨rfl, b1⟩
set_option maxHeartbeats 1000000 in
theorem implPlacesOk_any (w : World) (a : Option Addr) (n cap : Nat) (zss : List (List Int)) (hn : n ≤ maxLen) (hs : SlP w w.heap.size a n zss) :
    Calls Tryz.prog 192 #[.slice a n cap] w fun e w' => e = .returned (.bool (placesB zss)) ∧ Below w.heap.size w w' := by
  have hx := hs.1
  have hc := containsFunc_any w a n cap zss hn hs
  unfold maxLen at hn
  by_cases h1 : 1 ≤ n
  · by_cases h6 : n ≤ 6
    · have d1 : (1 : Int) ≤ (n : Int) := by omega
      have d6 : (n : Int) ≤ 6 := by omega
      have hV : placesB zss = ((List.range n).all fun i => placeB (atP zss i)) := by simp [placesB, hx, h1, h6]
      rw [hV]
      generalize ((List.range n).all fun i => placeB (atP zss i)) = V at *
      clear hs hV
      go_enter Tryz.func192, Tryz.ntmps192
      go_wp2_with fail
      refine hc.mono ?_
      clear hc
      rintro e w1 ⟨rfl, b1⟩
      go_wp2
      go_ret
      exact ⟨by simp, b1⟩
    · have d1 : (1 : Int) ≤ (n : Int) := by omega
      have d6 : decide ((n : Int) ≤ 6) = false := by simp; omega
      have hV : placesB zss = false := by simp [placesB, hx, h6]
      rw [hV]
      clear hs hV hc
      go_enter Tryz.func192, Tryz.ntmps192
      go_wp2
      go_ret
      exact ⟨rfl, Below.refl _ _⟩
  · obtain rfl : n = 0 := by omega
    have hV : placesB zss = false := by simp [placesB, hx]
    rw [hV]
    clear hs hV hc
    go_enter Tryz.func192, Tryz.ntmps192
    go_wp2
    go_ret
    exact ⟨rfl, Below.refl _ _⟩
end Go.Proofs.YtnhjgomfkfehgaaGreatDoor
namespace Go.Proofs.YtnhjgomfkfehgaaGreatDoor
open Go.RowKit
open Go.Sort (grow)
set_option maxHeartbeats 1000000 in
theorem isConfig_any (w : World) (x : Int) : Calls Tryz.prog 189 #[.int .i64 x] w fun e w' => e = .returned (.bool (inB 1 1000000 x)) ∧ w' = w := by
  have hc := tx.implId w x
  go_enter Tryz.func189, Tryz.ntmps189
  go_wp2_with fail
  refine hc.mono ?_
  clear hc
  rintro e w1 ⟨rfl, rfl⟩
  go_wp2
  go_ret
  exact ⟨rfl, rfl⟩
theorem clusterB_eq (k : C6) : clusterB k = (inB 1 1000000 k.config && (inB 0 1000000 k.clock && ((decide (1 ≤ k.machines.length) && decide (k.machines.length ≤ 8) && machsB k.machines) && (placesB k.places && (placedB k.places k.machines && (decide (k.txs.length ≤ 60) && txsB k)))))) := by
  unfold clusterB
  ac_rfl
set_option maxRecDepth 100000 in
set_option maxHeartbeats 4000000 in
theorem implClusterOk_any (w : World) (a1 : Option Addr) (c1 : Nat) (a2 : Option Addr) (c2 : Nat) (a3 : Option Addr) (c3 : Nat) (k : C6) (hl : KCl.L k) (h : KCl.Rd w a1 c1 a2 c2 a3 c3 k) : Calls Tryz.prog 147 #[.agg #[.int .i64 k.config, .int .i64 k.clock, .slice a1 k.places.length c1, .slice a2 k.machines.length c2, .slice a3 k.txs.length c3, .bool k.lost]] w fun e w' => e = .returned (.bool (clusterB k)) ∧ Below w.heap.size w w' := by
  obtain ⟨U, hU⟩ : ∃ Y, Y = w.alloc (.cells #[.int .i64 k.config, .int .i64 k.clock, .slice a1 k.places.length c1, .slice a2 k.machines.length c2, .slice a3 k.txs.length c3, .bool k.lost] 32) := ⟨_, rfl⟩
  have b0 : Below w.heap.size w U := by rw [hU]; exact (Below.refl _ _).alloc (Nat.le_refl _) _
  have FA : Hid (Bx U w.heap.size [.int .i64 k.config, .int .i64 k.clock, .slice a1 k.places.length c1, .slice a2 k.machines.length c2, .slice a3 k.txs.length c3, .bool k.lost]) := by unfold Hid; rw [hU]; exact Bx.made w [.int .i64 k.config, .int .i64 k.clock, .slice a1 k.places.length c1, .slice a2 k.machines.length c2, .slice a3 k.txs.length c3, .bool k.lost] _
  have HR : Hid (KCl.Rd U a1 c1 a2 c2 a3 c3 k ∧ KCl.L k ∧ Below w.heap.size w U) := ⟨h.later b0, hl, b0⟩
  have HC : Hid (clusterB k = (inB 1 1000000 k.config && (inB 0 1000000 k.clock && ((decide (1 ≤ k.machines.length) && decide (k.machines.length ≤ 8) && machsB k.machines) && (placesB k.places && (placedB k.places k.machines && (decide (k.txs.length ≤ 60) && txsB k))))))) := clusterB_eq k
  have hc := isConfig_any U k.config
  clear b0 h hl
  go_enter Tryz.func147, Tryz.ntmps147
  go_wp2_with fail
  rw [← hU]
  clear hU
  refine hc.mono ?_
  clear hc
  rintro e w1 ⟨rfl, rfl⟩
  generalize w1 = U at *
  cases g1 : inB 1 1000000 k.config with
  | false =>
    have hb : Hid (clusterB k = false) := by unfold Hid; rw [HC.out, g1]; rfl
    go_wp2
    go_ret
    exact ⟨by rw [hb.out]; rfl, HR.out.2.2⟩
  | true =>
  have p1 := FA.out.1 1 _ rfl
  have hc := tx.implStamp U k.clock
  go_wp2_with fail
  refine hc.mono ?_
  clear hc p1
  rintro e w1 ⟨rfl, rfl⟩
  generalize w1 = U at *
  cases g2 : inB 0 1000000 k.clock with
  | false =>
    have hb : Hid (clusterB k = false) := by unfold Hid; rw [HC.out, g2]; simp
    go_wp2
    go_ret
    exact ⟨by rw [hb.out]; rfl, HR.out.2.2⟩
  | true =>
  have p3 := FA.out.1 3 _ rfl
  have hc := machinesOk_any U a2 c2 k.machines HR.out.2.1.m HR.out.2.1.ms HR.out.1.m
  go_wp2_with fail
  refine hc.mono ?_
  clear hc p3
  rintro e w1 ⟨rfl, b1⟩
  have B1 := hidOf b1
  clear b1
  cases g3 : (decide (1 ≤ k.machines.length) && decide (k.machines.length ≤ 8) && machsB k.machines) with
  | false =>
    have hb : Hid (clusterB k = false) := by unfold Hid; rw [HC.out, g3]; simp
    go_wp2
    go_ret
    exact ⟨by rw [hb.out]; rfl, bstep HR.out.2.2 B1.out⟩
  | true =>
  have p2 := (FA.out.later B1.out).1 2 _ rfl
  have hc := implPlacesOk_any w1 a1 k.places.length c1 k.places HR.out.2.1.p (HR.out.1.p.later B1.out)
  go_wp2_with fail
  refine hc.mono ?_
  clear hc p2
  rintro e w2 ⟨rfl, b2⟩
  have B2 : Hid (Below U.heap.size U w2) := bstep B1.out b2
  clear b2 B1
  generalize w1 = wA at *
  cases g4 : placesB k.places with
  | false =>
    have hb : Hid (clusterB k = false) := by unfold Hid; rw [HC.out, g4]; simp
    go_wp2
    go_ret
    exact ⟨by rw [hb.out]; rfl, bstep HR.out.2.2 B2.out⟩
  | true =>
  have HC2 : Hid (clusterB k = (placedB k.places k.machines && (decide (k.txs.length ≤ 60) && txsB k))) := by unfold Hid; rw [HC.out, g1, g2, g3, g4]; rfl
  have HG : Hid (k.machines.length ≤ 8 ∧ machsB k.machines = true ∧ placesB k.places = true) := by
    simp only [Bool.and_eq_true, decide_eq_true_eq] at g3
    exact ⟨g3.1.2, g3.2, g4⟩
  clear g1 g2 g3 g4 HC
  have SF : Hid (∀ X, Below U.heap.size U X → (fun X : World => Bx X w.heap.size [.int .i64 k.config, .int .i64 k.clock, .slice a1 k.places.length c1, .slice a2 k.machines.length c2, .slice a3 k.txs.length c3, .bool k.lost]) X) := fun X hX => FA.out.later hX
  go_wp2_with fail
  have bd : Below U.heap.size U w2.drew := B2.out.drew
  have hS := SF.out _ bd
  refine wp_region_z (fun z => z == 10) (fun X : World => Bx X w.heap.size [.int .i64 k.config, .int .i64 k.clock, .slice a1 k.places.length c1, .slice a2 k.machines.length c2, .slice a3 k.txs.length c3, .bool k.lost]) (by kernel_rfl) ?_
  generalize w2.drew = Wd at *
  refine wpZ_takeP (i := 0) (v := ?_) rfl (by kernel_rfl) (fun _ _ _ h => h) (Or.inl ⟨by rfl, ?_⟩) hS ?_
  rotate_left
  · (intro X _; go_simp; first | done | with_reducible rfl)
  simp only [Act.put]
  refine wpZ_take (i := 1) (v := ?_) rfl (by kernel_rfl) (fun _ _ _ h => h) (Or.inl ⟨by rfl, ?_⟩) hS ?_
  rotate_left
  · (intro X hSw; have c0 := hSw.1 0 _ rfl; have c1 := hSw.1 1 _ rfl; have c2 := hSw.1 2 _ rfl; have c3 := hSw.1 3 _ rfl; have c4 := hSw.1 4 _ rfl; have c5 := hSw.1 5 _ rfl; go_simp; first | done | with_reducible rfl)
  simp only [Act.put]
  refine wpZ_takeP (i := 2) (v := ?_) rfl (by kernel_rfl) (fun _ _ _ h => h) (Or.inl ⟨by rfl, ?_⟩) hS ?_
  rotate_left
  · (intro X _; go_simp; first | done | with_reducible rfl)
  simp only [Act.put]
  refine wpZ_take (i := 3) (v := ?_) rfl (by kernel_rfl) (fun _ _ _ h => h) (Or.inl ⟨by rfl, ?_⟩) hS ?_
  rotate_left
  · (intro X hSw; have c0 := hSw.1 0 _ rfl; have c1 := hSw.1 1 _ rfl; have c2 := hSw.1 2 _ rfl; have c3 := hSw.1 3 _ rfl; have c4 := hSw.1 4 _ rfl; have c5 := hSw.1 5 _ rfl; go_simp; first | done | with_reducible rfl)
  simp only [Act.put]
  refine wpZ_ready (rs := [4]) (by kernel_rfl) (by simp) ?_
  refine AllZ.cons rfl (fun K hK => ?_) AllZ.nil
  go_simp
  refine (membersOf_any Wd a2 c2 k.machines HG.out.1 (HR.out.1.m.later bd)).mono ?_
  rintro e X1 ⟨rfl, hma, hsz, b1⟩
  have bX := bstep bd b1
  refine hK.out _ _ (fun _ => SF.out _ bX) ?_
  clear hK K
  have hS := SF.out _ bX
  refine wpZ_ready (rs := [5]) (by kernel_rfl) (by simp) ?_
  refine AllZ.cons rfl (fun K hK => ?_) AllZ.nil
  go_simp
  refine (placed_any Wd X1 a1 c1 Wd.heap.size k.places k.machines HR.out.2.1.ms HG.out.2.1 HG.out.2.2 HR.out.2.1.p HR.out.2.1.ps b1 hsz hma (HR.out.1.p.later bX)).mono ?_
  rintro e X2 ⟨rfl, b2⟩
  have bY := bstep bX b2
  refine hK.out _ _ (fun _ => SF.out _ bY) ?_
  clear hK K
  have hS := SF.out _ bY
  cases g5 : placedB k.places k.machines with
  | false =>
    have hb : Hid (clusterB k = false) := by unfold Hid; rw [HC2.out, g5]; rfl
    refine wpZ_takeP (i := 6) (v := ?_) rfl (by kernel_rfl) (fun _ _ _ h => h) (Or.inl ⟨by rfl, ?_⟩) hS ?_
    rotate_left
    · (intro X _; go_simp; first | done | with_reducible rfl)
    simp only [Act.put]
    refine wpZ_takeP (i := 7) (v := undef) rfl (by kernel_rfl) (fun _ _ _ h => h) (Or.inr ⟨by rfl, rfl⟩) hS ?_
    simp only [Act.put]
    refine wpZ_takeP (i := 8) (v := undef) rfl (by kernel_rfl) (fun _ _ _ h => h) (Or.inr ⟨by rfl, rfl⟩) hS ?_
    simp only [Act.put]
    refine wpZ_takeP (i := 9) (v := ?_) rfl (by kernel_rfl) (fun _ _ _ h => h) (Or.inl ⟨by rfl, ?_⟩) hS ?_
    rotate_left
    · (intro X _; go_simp; first | done | with_reducible rfl)
    simp only [Act.put]
    refine wpZ_ready (rs := [10]) (by kernel_rfl) (by simp) ?_
    refine AllZ.cons rfl (fun K hK => ?_) AllZ.nil
    go_simp
    refine hK.out _ _ (fun h => absurd (show false = true from h.symm.trans (by kernel_rfl)) (by decide)) ?_
    clear hK K
    refine wpZ_done (by kernel_rfl) ?_ _
    go_wp2
    go_ret
    exact ⟨by rw [hb.out]; rfl, bstep HR.out.2.2 bY⟩
  | true =>
    have hb : Hid (clusterB k = (decide (k.txs.length ≤ 60) && txsB k)) := by unfold Hid; rw [HC2.out, g5]; rfl
    refine wpZ_takeP (i := 6) (v := ?_) rfl (by kernel_rfl) (fun _ _ _ h => h) (Or.inl ⟨by rfl, ?_⟩) hS ?_
    rotate_left
    · (intro X _; go_simp; first | done | with_reducible rfl)
    simp only [Act.put]
    refine wpZ_take (i := 7) (v := ?_) rfl (by kernel_rfl) (fun _ _ _ h => h) (Or.inl ⟨by rfl, ?_⟩) hS ?_
    rotate_left
    · (intro X hSw; have c0 := hSw.1 0 _ rfl; have c1 := hSw.1 1 _ rfl; have c2 := hSw.1 2 _ rfl; have c3 := hSw.1 3 _ rfl; have c4 := hSw.1 4 _ rfl; have c5 := hSw.1 5 _ rfl; go_simp; first | done | with_reducible rfl)
    simp only [Act.put]
    refine wpZ_ready (rs := [8]) (by kernel_rfl) (by simp) ?_
    refine AllZ.cons rfl (fun K hK => ?_) AllZ.nil
    go_simp
    refine (txsFit_any X2 a1 c1 a2 c2 a3 c3 k HR.out.2.1 (HR.out.1.later bY)).mono ?_
    rintro e X3 ⟨rfl, b3⟩
    have bZ := bstep bY b3
    refine hK.out _ _ (fun _ => SF.out _ bZ) ?_
    clear hK K
    have hS := SF.out _ bZ
    refine wpZ_takeP (i := 9) (v := ?_) rfl (by kernel_rfl) (fun _ _ _ h => h) (Or.inl ⟨by rfl, ?_⟩) hS ?_
    rotate_left
    · (intro X _; go_simp; first | done | with_reducible rfl)
    simp only [Act.put]
    refine wpZ_ready (rs := [10]) (by kernel_rfl) (by simp) ?_
    refine AllZ.cons rfl (fun K hK => ?_) AllZ.nil
    go_simp
    refine hK.out _ _ (fun h => absurd (show false = true from h.symm.trans (by kernel_rfl)) (by decide)) ?_
    clear hK K
    refine wpZ_done (by kernel_rfl) ?_ _
    go_wp2
    go_ret
    exact ⟨by rw [hb.out]; rfl, bstep HR.out.2.2 bZ⟩
set_option maxHeartbeats 1000000 in
theorem homeLives_any (w : World) (a1 : Option Addr) (c1 : Nat) (a2 : Option Addr) (c2 : Nat) (a3 : Option Addr) (c3 : Nat) (k : C6) (i : Nat) (hi : i < k.machines.length) (h : KCl.Rd w a1 c1 a2 c2 a3 c3 k) : Calls Tryz.prog 94 #[.agg #[.int .i64 k.config, .int .i64 k.clock, .slice a1 k.places.length c1, .slice a2 k.machines.length c2, .slice a3 k.txs.length c3, .bool k.lost], .int .i64 (i : Int)] w fun e w' => e = .returned (.bool (atM k.machines i).alive) ∧ Below w.heap.size w w' := by
  obtain ⟨W, hW⟩ : ∃ Y, Y = w.alloc (.cells #[.int .i64 k.config, .int .i64 k.clock, .slice a1 k.places.length c1, .slice a2 k.machines.length c2, .slice a3 k.txs.length c3, .bool k.lost] 32) := ⟨_, rfl⟩
  have bW : Below w.heap.size w W := by rw [hW]; exact (Below.refl _ _).alloc (Nat.le_refl _) _
  have p3 : W.cell? ⟨w.heap.size, 3, none⟩ = some (.slice a2 k.machines.length c2) := by rw [hW]; go_simp
  rcases (h.later bW).m with h0 | ⟨b, off, rfl, hb, hrd⟩
  · rw [h0] at hi; simp at hi
  obtain ⟨⟨m0, m1, m2, m3, m4, m5⟩, hel, -⟩ := hrd i _ (atM_of hi)
  have e0 : W.cell? ⟨b, off + i * 4, none⟩ = some (.bool (atM k.machines i).alive) := hel 0 _ rfl
  have e1 : W.cell? ⟨b, off + i * 4 + 1, none⟩ = some (.slice m0 (atM k.machines i).copies.length m1) := hel 1 _ rfl
  have e2 : W.cell? ⟨b, off + i * 4 + 2, none⟩ = some (.slice m2 (atM k.machines i).log.length m3) := hel 2 _ rfl
  have e3 : W.cell? ⟨b, off + i * 4 + 3, none⟩ = some (.slice m4 (atM k.machines i).cleared.length m5) := hel 3 _ rfl
  have d0 : decide (0 ≤ (i : Int)) = true := by simp
  have d1 : decide ((i : Int) < (k.machines.length : Int)) = true := by simp; omega
  have i0 : 0 ≤ (i : Int) := by omega
  have i1 : (i : Int) < (k.machines.length : Int) := by omega
  have BW : Hid (Below w.heap.size w W) := bW
  rw [hW] at p3 e0 e1 e2 e3
  have hmb := memberOf_any W m0 m1 m2 m3 m4 m5 (atM k.machines i)
  clear bW h hrd hel hb
  have hmL : ∀ (a : Option Addr) (n c : Nat) (w : World), (method 470 253 (.agg #[.slice a n c]) "loop.example/g00153/impl.lives").run Tryz.prog w = .ok (330, .agg #[.slice a n c]) w := fun _ _ _ _ => by kernel_rfl
  have hmD : ∀ w : World, (method 470 255 (.agg #[]) "loop.example/g00153/impl.lives").run Tryz.prog w = .ok (332, .agg #[]) w := fun _ => by kernel_rfl
  go_enter Tryz.func94, Tryz.ntmps94
  go_wp2_with fail
  rw [← hW]
  clear hW
  refine hmb.mono ?_
  clear hmb
  rintro e w1 ⟨rfl, b1⟩
  have B1 : Hid (Below w.heap.size w w1) := bstep BW.out b1
  clear b1 p3 e0 e1 e2 e3
  unfold memV
  cases ha : (atM k.machines i).alive with
  | true =>
    simp only [if_true]
    go_wp2_with fail
    refine (livesL_any w1 m0 (atM k.machines i).copies.length m1).mono ?_
    rintro e w2 ⟨rfl, b2⟩
    have B2 : Hid (Below w.heap.size w w2) := bstep B1.out b2
    clear b2
    go_wp2
    go_ret
    exact ⟨by rw [ha]; rfl, B2.out⟩
  | false =>
    simp only [Bool.false_eq_true, if_false]
    go_wp2_with fail
    refine (livesD_any w1).mono ?_
    rintro e w2 ⟨rfl, b2⟩
    have B2 : Hid (Below w.heap.size w w2) := bstep B1.out b2
    clear b2
    go_wp2
    go_ret
    exact ⟨by rw [ha]; rfl, B2.out⟩
end Go.Proofs.YtnhjgomfkfehgaaGreatDoor
namespace Go.Proofs.YtnhjgomfkfehgaaGreatDoor
open Go.RowKit
theorem nan_any (w : World) (x : Int) : Calls Tryz.prog 242 #[.int .i64 x] w fun e w' => e = .returned (.bool false) ∧ w' = w := by
  have h : (x != x) = false := by simp
  go_enter Tryz.func242, Tryz.ntmps242
  go_wp2
  go_ret
  exact ⟨rfl, rfl⟩
def cmpI (x y : Int) : Int := if x < y then -1 else if y < x then 1 else 0
theorem compare_any (w : World) (x y : Int) : Calls Tryz.prog 203 #[.int .i64 x, .int .i64 y] w fun e w' => e = .returned (.int .i64 (cmpI x y)) ∧ w' = w := by
  by_cases h1 : x < y
  · have e : cmpI x y = -1 := if_pos h1
    rw [e]
    go_enter Tryz.func203, Tryz.ntmps203
    go_wp2_with (go_at_call 242; refine (nan_any _ _).mono ?_; rintro e w' ⟨rfl, rfl⟩)
    go_ret
    exact ⟨rfl, rfl⟩
  · have d1 : decide (x < y) = false := by simp; omega
    by_cases h2 : y < x
    · have e : cmpI x y = 1 := by rw [cmpI, if_neg h1, if_pos h2]
      have d2 : decide (y < x) = true := by simp [h2]
      rw [e]
      clear h1
      go_enter Tryz.func203, Tryz.ntmps203
      go_wp2_with (go_at_call 242; refine (nan_any _ _).mono ?_; rintro e w' ⟨rfl, rfl⟩)
      go_ret
      exact ⟨rfl, rfl⟩
    · have e : cmpI x y = 0 := by rw [cmpI, if_neg h1, if_neg h2]
      have d2 : decide (y < x) = false := by simp; omega
      rw [e]
      clear h1 h2
      go_enter Tryz.func203, Tryz.ntmps203
      go_wp2_with (go_at_call 242; refine (nan_any _ _).mono ?_; rintro e w' ⟨rfl, rfl⟩)
      go_ret
      exact ⟨rfl, rfl⟩
end Go.Proofs.YtnhjgomfkfehgaaGreatDoor
namespace Go.Proofs.YtnhjgomfkfehgaaGreatDoor
open Go.RowKit
open Go.Sort (grow)
set_option maxHeartbeats 1000000 in
theorem byId_any (w : World) (t0 : Option Addr) (t1 : Nat) (t2 : Option Addr) (t3 : Nat) (t : tx.T7) (y : Int) : Calls Tryz.prog 202 #[.agg #[.int .i64 t.id, .int .i64 t.home, .int .i64 t.phase, .int .i64 t.count, .slice t0 t.reads.length t1, .slice t2 t.sets.length t3, .int .i64 t.stamp], .int .i64 y] w fun e w' => e = .returned (.int .i64 (cmpI t.id y)) ∧ Below w.heap.size w w' := by
  have b0 : Below w.heap.size w (w.alloc (.cells #[.int .i64 t.id, .int .i64 t.home, .int .i64 t.phase, .int .i64 t.count, .slice t0 t.reads.length t1, .slice t2 t.sets.length t3, .int .i64 t.stamp] 56)) := (Below.refl _ _).alloc (Nat.le_refl _) _
  go_enter Tryz.func202, Tryz.ntmps202
  go_wp2_with (go_at_call 203; refine (compare_any _ _ _).mono ?_; rintro e w' ⟨rfl, rfl⟩)
  go_ret
  exact ⟨rfl, b0⟩
def UpI (ts : List tx.T7) : Prop := ∀ i j, i < j → j < ts.length → (atT ts i).id < (atT ts j).id
theorem UpI.of_all {ts : List tx.T7} (h : (List.range ts.length).all (upT ts) = true) : UpI ts := by
  intro i j hij hj
  induction j with
  | zero => omega
  | succ j ih =>
    have h2 := List.all_eq_true.1 h (j + 1) (List.mem_range.2 hj)
    simp [upT] at h2
    by_cases e : i = j
    · rw [e]; exact h2
    · have := ih (by omega) (by omega); omega
structure PosT (ts : List tx.T7) (y : Int) (i : Nat) : Prop where
  le : i ≤ ts.length
  lo : ∀ t, t < i → (atT ts t).id < y
  hi : ∀ t, i ≤ t → t < ts.length → y ≤ (atT ts t).id
def foundT (ts : List tx.T7) (y : Int) (i : Nat) : Bool := decide (i < ts.length) && decide ((atT ts i).id = y)
set_option maxRecDepth 100000 in
set_option maxHeartbeats 4000000 in
theorem bsearchT_any (w : World) (a : Option Addr) (cap : Nat) (ts : List tx.T7) (y : Int) (hn : ts.length ≤ 1000) (hu : UpI ts) (hs : KTk.RdS w a ts) :
    Calls Tryz.prog 204 #[.slice a ts.length cap, .int .i64 y, .func (.func 202) #[] #[]] w fun e w' => ∃ i : Nat, e = .returned (.tuple #[.int .i64 i, .bool (foundT ts y i)]) ∧ PosT ts y i ∧ Below w.heap.size w w' := by
  have HU : Hid (UpI ts) := hu
  clear hu
  go_enter Tryz.func204, Tryz.ntmps204
  go_wp2
  go_loopw [9, 10] (fun v9 v10 wr => ∃ i j : Nat, i ≤ j ∧ j ≤ ts.length ∧ v9 = .int .i64 i ∧ v10 = .int .i64 j ∧ Below w.heap.size w wr ∧ (∀ t, t < i → (atT ts t).id < y) ∧ (∀ t, j ≤ t → t < ts.length → y ≤ (atT ts t).id)) (fun v9 v10 _ => (intOf v10).toNat - (intOf v9).toNat)
  case atStart => exact ⟨0, ts.length, Nat.zero_le _, Nat.le_refl _, rfl, rfl, Below.refl _ _, fun t h => by omega, fun t h1 h2 => by omega⟩
  case round =>
    obtain ⟨i, j, hij, hjn, rfl, rfl, hbl, hlo, hhi⟩ := hrel
    by_cases hlt : i < j
    · have hd : (i + j) / 2 < ts.length := by omega
      rcases hs with hs | ⟨b, off, rfl, hb, h1⟩
      · rw [hs] at hd; simp at hd
      obtain ⟨⟨t0, t1, t2, t3⟩, hat, hrd⟩ := h1 ((i + j) / 2) _ (atT_of hd)
      have e0 : wr.cell? ⟨b, off + ((i + j) / 2) * 7, none⟩ = some (.int .i64 (atT ts ((i + j) / 2)).id) := (hbl.cell (p := ⟨b, off + ((i + j) / 2) * 7, none⟩) hb).trans (hat 0 _ rfl)
      have e1 : wr.cell? ⟨b, off + ((i + j) / 2) * 7 + 1, none⟩ = some (.int .i64 (atT ts ((i + j) / 2)).home) := (hbl.cell (p := ⟨b, off + ((i + j) / 2) * 7 + 1, none⟩) hb).trans (hat 1 _ rfl)
      have e2 : wr.cell? ⟨b, off + ((i + j) / 2) * 7 + 2, none⟩ = some (.int .i64 (atT ts ((i + j) / 2)).phase) := (hbl.cell (p := ⟨b, off + ((i + j) / 2) * 7 + 2, none⟩) hb).trans (hat 2 _ rfl)
      have e3 : wr.cell? ⟨b, off + ((i + j) / 2) * 7 + 3, none⟩ = some (.int .i64 (atT ts ((i + j) / 2)).count) := (hbl.cell (p := ⟨b, off + ((i + j) / 2) * 7 + 3, none⟩) hb).trans (hat 3 _ rfl)
      have e4 : wr.cell? ⟨b, off + ((i + j) / 2) * 7 + 4, none⟩ = some (.slice t0 (atT ts ((i + j) / 2)).reads.length t1) := (hbl.cell (p := ⟨b, off + ((i + j) / 2) * 7 + 4, none⟩) hb).trans (hat 4 _ rfl)
      have e5 : wr.cell? ⟨b, off + ((i + j) / 2) * 7 + 5, none⟩ = some (.slice t2 (atT ts ((i + j) / 2)).sets.length t3) := (hbl.cell (p := ⟨b, off + ((i + j) / 2) * 7 + 5, none⟩) hb).trans (hat 5 _ rfl)
      have e6 : wr.cell? ⟨b, off + ((i + j) / 2) * 7 + 6, none⟩ = some (.int .i64 (atT ts ((i + j) / 2)).stamp) := (hbl.cell (p := ⟨b, off + ((i + j) / 2) * 7 + 6, none⟩) hb).trans (hat 6 _ rfl)
      have K : Hid (Below w.heap.size w wr ∧ (∀ t, t < i → (atT ts t).id < y) ∧ (∀ t, j ≤ t → t < ts.length → y ≤ (atT ts t).id)) := ⟨hbl, hlo, hhi⟩
      have hc := byId_any wr t0 t1 t2 t3 (atT ts ((i + j) / 2)) y
      clear h1 hat hrd hbl hlo hhi
      have HI : Hid (∀ t, t ≤ (i + j) / 2 → (atT ts t).id ≤ (atT ts ((i + j) / 2)).id) := fun t ht => by
        by_cases e : t = (i + j) / 2
        · rw [e]; exact Int.le_refl _
        · exact Int.le_of_lt (HU.out t _ (by omega) hd)
      have HJ : Hid (∀ t, (i + j) / 2 ≤ t → t < ts.length → (atT ts ((i + j) / 2)).id ≤ (atT ts t).id) := fun t ht htn => by
        by_cases e : t = (i + j) / 2
        · rw [e]; exact Int.le_refl _
        · exact Int.le_of_lt (HU.out _ t (by omega) htn)
      generalize (atT ts ((i + j) / 2)).id = x at *
      by_cases hq : x < y
      · rw [show cmpI x y = -1 from if_pos hq] at hc
        have HQ := hidOf hq
        clear hq
        go_wp2_with fail
        refine hc.mono ?_
        clear hc e0 e1 e2 e3 e4 e5 e6
        rintro e w1 ⟨rfl, b1⟩
        go_wp2
        exact ⟨⟨(i + j) / 2 + 1, j, by omega, hjn, by simp, rfl, K.out.1.trans (b1.mono K.out.1.size), fun t ht => by have := HI.out t (by omega); have := HQ.out; omega, K.out.2.2⟩, by simp [intOf]; omega⟩
      · have hc0 : decide (cmpI x y < 0) = false := by
          rw [cmpI, if_neg hq]
          by_cases h2 : y < x
          · rw [if_pos h2]; rfl
          · rw [if_neg h2]; rfl
        have HQ := hidOf hq
        clear hq
        generalize cmpI x y = cv at *
        go_wp2_with fail
        refine hc.mono ?_
        clear hc e0 e1 e2 e3 e4 e5 e6
        rintro e w1 ⟨rfl, b1⟩
        go_wp2
        exact ⟨⟨i, (i + j) / 2, by omega, by omega, rfl, by simp, K.out.1.trans (b1.mono K.out.1.size), K.out.2.1, fun t ht htn => by have := HJ.out t ht htn; have := HQ.out; omega⟩, by simp [intOf]; omega⟩
    · obtain rfl : i = j := by omega
      have hd : decide ((i : Int) < (i : Int)) = false := by simp
      have HP : Hid (PosT ts y i) := ⟨hjn, hlo, hhi⟩
      clear hlo hhi
      by_cases hin : i < ts.length
      · rcases hs with hs | ⟨b, off, rfl, hb, h1⟩
        · rw [hs] at hin; simp at hin
        obtain ⟨⟨t0, t1, t2, t3⟩, hat, hrd⟩ := h1 i _ (atT_of hin)
        have e0 : wr.cell? ⟨b, off + i * 7, none⟩ = some (.int .i64 (atT ts i).id) := (hbl.cell (p := ⟨b, off + i * 7, none⟩) hb).trans (hat 0 _ rfl)
        have e1 : wr.cell? ⟨b, off + i * 7 + 1, none⟩ = some (.int .i64 (atT ts i).home) := (hbl.cell (p := ⟨b, off + i * 7 + 1, none⟩) hb).trans (hat 1 _ rfl)
        have e2 : wr.cell? ⟨b, off + i * 7 + 2, none⟩ = some (.int .i64 (atT ts i).phase) := (hbl.cell (p := ⟨b, off + i * 7 + 2, none⟩) hb).trans (hat 2 _ rfl)
        have e3 : wr.cell? ⟨b, off + i * 7 + 3, none⟩ = some (.int .i64 (atT ts i).count) := (hbl.cell (p := ⟨b, off + i * 7 + 3, none⟩) hb).trans (hat 3 _ rfl)
        have e4 : wr.cell? ⟨b, off + i * 7 + 4, none⟩ = some (.slice t0 (atT ts i).reads.length t1) := (hbl.cell (p := ⟨b, off + i * 7 + 4, none⟩) hb).trans (hat 4 _ rfl)
        have e5 : wr.cell? ⟨b, off + i * 7 + 5, none⟩ = some (.slice t2 (atT ts i).sets.length t3) := (hbl.cell (p := ⟨b, off + i * 7 + 5, none⟩) hb).trans (hat 5 _ rfl)
        have e6 : wr.cell? ⟨b, off + i * 7 + 6, none⟩ = some (.int .i64 (atT ts i).stamp) := (hbl.cell (p := ⟨b, off + i * 7 + 6, none⟩) hb).trans (hat 6 _ rfl)
        have hc := byId_any wr t0 t1 t2 t3 (atT ts i) y
        have HF : Hid (foundT ts y i = decide ((atT ts i).id = y) ∧ Below w.heap.size w wr) := ⟨by simp [foundT, hin], hbl⟩
        clear h1 hat hrd hbl
        generalize (atT ts i).id = x at *
        have he : (cmpI x y == 0) = decide (x = y) := by
          unfold cmpI
          by_cases h1 : x < y
          · rw [if_pos h1]; simp; omega
          · rw [if_neg h1]
            by_cases h2 : y < x
            · rw [if_pos h2]; simp; omega
            · rw [if_neg h2]; simp; omega
        generalize cmpI x y = cv at *
        go_wp2_with fail
        refine hc.mono ?_
        clear hc e0 e1 e2 e3 e4 e5 e6
        rintro e w1 ⟨rfl, b1⟩
        have HE := hidOf he
        clear he
        go_wp2
        refine bodyPost_ret (v := .tuple #[.int .i64 i, .bool (cv == 0)]) (by simp [results, Tryz.results204, go_sem]) rfl ⟨i, by rw [HF.out.1, ← HE.out], HP.out, HF.out.2.trans (b1.mono HF.out.2.size)⟩
      · have hdn : decide ((i : Int) < (ts.length : Int)) = false := by simp; omega
        have HF : Hid (foundT ts y i = false) := by unfold Hid; simp [foundT, hin]
        clear hs
        go_wp2
        refine bodyPost_ret (v := .tuple #[.int .i64 i, .bool false]) (by simp [results, Tryz.results204, go_sem]) rfl ⟨i, by rw [HF.out], HP.out, hbl⟩
def findO (k : C6) (y : Int) : Option tx.T7 := if clusterB k then k.txs.find? (fun t => decide (t.id = y)) else none
def zT : tx.T7 := ⟨0, 0, 0, 0, [], [], 0⟩
def findT (k : C6) (y : Int) : tx.T7 := (findO k y).getD zT
def findB (k : C6) (y : Int) : Bool := (findO k y).isSome
theorem atT_eq {ts : List tx.T7} {i : Nat} (h : i < ts.length) : atT ts i = ts[i] := by simp [atT, List.getElem?_eq_getElem h]
theorem clu_up {k : C6} (h : clusterB k = true) : UpI k.txs ∧ (∀ i, i < k.txs.length → tx.txB (atT k.txs i) = true) ∧ k.txs.length ≤ 60 := by
  simp only [clusterB, Bool.and_eq_true, decide_eq_true_eq] at h
  have h2 := h.2
  rw [txsB_eq, Bool.and_eq_true] at h2
  refine ⟨UpI.of_all h2.1, fun i hi => ?_, h.1.1.1.2⟩
  have := List.all_eq_true.1 h2.2 i (List.mem_range.2 hi)
  simp only [fitB, Bool.and_eq_true] at this
  exact this.1.1.1.1
theorem tx_short {t : tx.T7} (h : tx.txB t = true) : t.reads.length ≤ 1048576 ∧ t.sets.length ≤ 1048576 := by
  simp only [tx.txB, Bool.and_eq_true, decide_eq_true_eq] at h
  exact ⟨by omega, by omega⟩
set_option maxRecDepth 100000 in
set_option maxHeartbeats 2000000 in
theorem l8Find_any (w : World) (a1 : Option Addr) (c1 : Nat) (a2 : Option Addr) (c2 : Nat) (a3 : Option Addr) (c3 : Nat) (k : C6) (y : Int) (hl : KCl.L k) (h : KCl.Rd w a1 c1 a2 c2 a3 c3 k) : Calls Tryz.prog 108 #[.agg #[.int .i64 k.config, .int .i64 k.clock, .slice a1 k.places.length c1, .slice a2 k.machines.length c2, .slice a3 k.txs.length c3, .bool k.lost], .int .i64 y] w fun e w' => (∃ i : Int, e = .returned (.int .i64 i) ∧ FirstAt (fun j => decide ((atT k.txs j).id = y)) k.txs.length i) ∧ Below w.heap.size w w' := by
  have hn := hl.t
  unfold maxLen at hn
  obtain ⟨U, hU⟩ : ∃ Y, Y = w.alloc (.cells #[.int .i64 k.config, .int .i64 k.clock, .slice a1 k.places.length c1, .slice a2 k.machines.length c2, .slice a3 k.txs.length c3, .bool k.lost] 32) := ⟨_, rfl⟩
  have b0 : Below w.heap.size w U := by rw [hU]; exact (Below.refl _ _).alloc (Nat.le_refl _) _
  have p4 : U.cell? ⟨w.heap.size, 4, none⟩ = some (.slice a3 k.txs.length c3) := by rw [hU]; go_simp
  have H : Hid (KCl.Rd U a1 c1 a2 c2 a3 c3 k ∧ Below w.heap.size w U) := ⟨h.later b0, b0⟩
  clear h b0 hl
  go_enter Tryz.func108, Tryz.ntmps108
  go_wp2
  rw [← hU]
  clear hU
  go_loop [5] (fun v => ∃ j : Nat, j ≤ k.txs.length ∧ v = .int .i64 j ∧ ∀ t, t < j → (atT k.txs t).id ≠ y) (fun v => k.txs.length - (intOf v).toNat)
  case atStart => exact ⟨0, Nat.zero_le _, rfl, fun t h => absurd h (by omega)⟩
  case round =>
    obtain ⟨j, hj, rfl, hlo⟩ := hrel
    have HL := hidOf hlo
    clear hlo
    by_cases hlt : j < k.txs.length
    · rcases H.out.1.t with hk | ⟨b, off, rfl, hb, h1⟩
      · rw [hk] at hlt; simp at hlt
      obtain ⟨v, hat, _⟩ := h1 j _ (atT_of hlt)
      have k0 : U.cell? ⟨b, off + j * 7, none⟩ = some (.int .i64 (atT k.txs j).id) := hat 0 _ rfl
      have jn : (j : Int) < (k.txs.length : Int) := by omega
      clear h1 hat
      by_cases he : (atT k.txs j).id = y
      · have q : ((atT k.txs j).id == y) = true := by simp [he]
        have HE := hidOf he
        clear he
        go_wp2
        go_ret
        exact ⟨⟨_, rfl, .inr ⟨j, rfl, hlt, by simp [HE.out], fun t ht => by simp [HL.out t ht]⟩⟩, H.out.2⟩
      · have q : ((atT k.txs j).id == y) = false := by simp [he]
        have HE := hidOf he
        clear he
        go_wp2
        exact ⟨⟨j + 1, by omega, by simp, fun t ht => by
          by_cases e : t = j
          · rw [e]; exact HE.out
          · exact HL.out t (by omega)⟩, by simp [intOf]; omega⟩
    · obtain rfl : j = k.txs.length := by omega
      have hd : decide ((k.txs.length : Int) < (k.txs.length : Int)) = false := by simp
      go_wp2
      go_ret
      exact ⟨⟨_, rfl, .inl ⟨rfl, fun t ht => by simp [HL.out t ht]⟩⟩, H.out.2⟩
set_option maxHeartbeats 1000000 in
theorem findTx_any (w : World) (a : Option Addr) (cap : Nat) (ts : List tx.T7) (y : Int) (hn : ts.length ≤ 1000) (hu : UpI ts) (hs : KTk.RdS w a ts) :
    Calls Tryz.prog 162 #[.slice a ts.length cap, .int .i64 y] w fun e w' => ∃ i : Nat, e = .returned (.tuple #[.int .i64 i, .bool (foundT ts y i)]) ∧ PosT ts y i ∧ Below w.heap.size w w' := by
  have hc := bsearchT_any w a cap ts y hn hu hs
  go_enter Tryz.func162, Tryz.ntmps162
  go_wp2_with fail
  refine hc.mono ?_
  clear hc
  rintro e w1 ⟨i, rfl, hp, b1⟩
  have K := hidOf (And.intro hp b1)
  clear hp b1
  go_wp2
  refine bodyPost_ret (v := .tuple #[.int .i64 i, .bool (foundT ts y i)]) (by simp [results, Tryz.results162, go_sem]) rfl ?_
  exact ⟨i, rfl, K.out.1, K.out.2⟩
end Go.Proofs.YtnhjgomfkfehgaaGreatDoor
namespace Go.Proofs.YtnhjgomfkfehgaaGreatDoor
open Go.RowKit
def atId (ts : List tx.T7) (y : Int) : Nat := ts.findIdx fun t => decide (t.id = y)
theorem atId_some {ts : List tx.T7} {y : Int} {i : Nat} (hi : i < ts.length) (he : (atT ts i).id = y) (h : ∀ j, j < i → (atT ts j).id ≠ y) : atId ts y = i := by
  unfold atId
  rw [List.findIdx_eq hi]
  refine ⟨by rw [atT_eq hi] at he; simpa using he, fun j hj => ?_⟩
  have := h j hj
  rw [atT_eq (by omega)] at this
  simpa using this
theorem atId_none {ts : List tx.T7} {y : Int} (h : ∀ j, j < ts.length → (atT ts j).id ≠ y) : atId ts y = ts.length := by
  unfold atId
  refine List.findIdx_eq_length_of_false (fun t ht => ?_)
  obtain ⟨i, hi, rfl⟩ := List.getElem_of_mem ht
  have := h i hi
  rw [atT_eq hi] at this
  simpa using this
theorem atId_pos {ts : List tx.T7} {y : Int} {i : Nat} (hp : PosT ts y i) (hf : foundT ts y i = true) : i < ts.length ∧ atId ts y = i := by
  simp only [foundT, Bool.and_eq_true, decide_eq_true_eq] at hf
  exact ⟨hf.1, atId_some hf.1 hf.2 (fun j hj => by have := hp.lo j hj; omega)⟩
theorem atId_neg {ts : List tx.T7} {y : Int} {i : Nat} (hu : UpI ts) (hp : PosT ts y i) (hf : foundT ts y i = false) : atId ts y = ts.length := by
  refine atId_none (fun j hj e => ?_)
  by_cases h1 : j < i
  · have := hp.lo j h1; omega
  · have hi : i < ts.length := by omega
    have h2 := hp.hi i (Nat.le_refl _) hi
    have h3 : (atT ts i).id ≠ y := fun e' => by simp [foundT, hi, e'] at hf
    by_cases h4 : j = i
    · subst h4; exact h3 e
    · have := hu i j (by omega) hj; omega
theorem atId_first {ts : List tx.T7} {y i : Int} (h : FirstAt (fun j => decide ((atT ts j).id = y)) ts.length i) : (i = -1 ∧ atId ts y = ts.length) ∨ ∃ j : Nat, i = (j : Int) ∧ j < ts.length ∧ atId ts y = j := by
  rcases h with ⟨rfl, h⟩ | ⟨j, rfl, hj, h1, h2⟩
  · exact .inl ⟨rfl, atId_none (fun j hj => by simpa using h j hj)⟩
  · exact .inr ⟨j, rfl, hj, atId_some hj (by simpa using h1) (fun t ht => by simpa using h2 t ht)⟩
end Go.Proofs.YtnhjgomfkfehgaaGreatDoor
namespace Go.Proofs.YtnhjgomfkfehgaaGreatDoor
open Go.RowKit
open Go.Sort (grow)
def zC : C6 := ⟨0, 0, [], [], [], false⟩
def txAt (k : C6) (y : Int) : tx.T7 := atT k.txs (atId k.txs y)
def homeB (k : C6) (y : Int) : Bool := (atM k.machines (txAt k y).home.toNat).alive
def codeB (k : C6) (y : Int) : Int := if clusterB k = true then (if atId k.txs y < k.txs.length then (if homeB k y = true then 0 else 3) else 2) else 1
def runC (k : C6) (y : Int) : Int := if codeB k y = 0 then (if (txAt k y).phase = 1 then 0 else 4) else codeB k y
def leftC (k : C6) : C6 := if clusterB k = true then k else zC
theorem clu_home {k : C6} (h : clusterB k = true) {i : Nat} (hi : i < k.txs.length) : 0 ≤ (atT k.txs i).home ∧ (atT k.txs i).home < (k.machines.length : Int) := by
  have h1 := (clu_up h).2.1 i hi
  simp only [clusterB, txsB, Bool.and_eq_true] at h
  have := List.all_eq_true.1 h.2 i (List.mem_range.2 hi)
  simp only [txAtB, Bool.and_eq_true, decide_eq_true_eq] at this
  simp only [tx.txB, tx.headB, Bool.and_eq_true] at h1
  have h3 := h1.1.1.1.1.1.1.1.2
  rw [inB_iff] at h3
  omega
def RAns (X : World) (k : C6) (n : Int) (e : Ending) (w' : World) : Prop := ∃ (a1 : Option Addr) (c1 : Nat) (a2 : Option Addr) (c2 : Nat) (a3 : Option Addr) (c3 : Nat) (P : Nat → Prop), e = .panicked [{ v := .iface 157 (.agg #[.iface 90 (.int .i64 n), .int .i64 k.config, .int .i64 k.clock, .slice a1 k.places.length c1, .slice a2 k.machines.length c2, .slice a3 k.txs.length c3, .bool k.lost]), recovered := false }] ∧ KCl.Ow w' X.heap.size a1 c1 a2 c2 a3 c3 k P ∧ Below X.heap.size X w'
theorem RAns.d {X : World} {k : C6} {n : Int} {e : Ending} {w' : World} (h : RAns X k n e w') (hn : n ≠ 0) : DAns X k n e w' := by
  obtain ⟨a1, c1, a2, c2, a3, c3, P, h1, h2, h3⟩ := h
  exact ⟨a1, c1, a2, c2, a3, c3, P, .inr ⟨hn, h1⟩, h2, h3⟩
theorem zC_ow (w : World) (B : Nat) : KCl.Ow w B none 0 none 0 none 0 zC (fun _ => False) :=
  ⟨⟨fun _ => False, fun _ => False, fun _ => False, ⟨⟨fun _ => 0, .inl ⟨rfl, rfl, rfl⟩, fun b e => (by cases e), fun i hi => (by simp [zC] at hi)⟩, fun q h => h.elim⟩, ⟨.inl rfl, fun q h => h.elim⟩, ⟨.inl rfl, fun q h => h.elim⟩, fun q h => h.elim, fun q h => h.elim, fun q h => h.elim, fun q h => h.elim, fun q h => h.elim, fun q h => h.elim⟩, fun q h => h.elim⟩
set_option maxHeartbeats 1000000 in
theorem needRight_yes (w : World) (a1 : Option Addr) (c1 : Nat) (a2 : Option Addr) (c2 : Nat) (a3 : Option Addr) (c3 : Nat) (k : C6) (hl : KCl.L k) (h : KCl.Rd w a1 c1 a2 c2 a3 c3 k) (hk : clusterB k = true) : Calls Tryz.prog 90 #[.agg #[.int .i64 k.config, .int .i64 k.clock, .slice a1 k.places.length c1, .slice a2 k.machines.length c2, .slice a3 k.txs.length c3, .bool k.lost]] w fun e w' => e = .returned (.tuple #[]) ∧ Below w.heap.size w w' := by
  obtain ⟨W, hW⟩ : ∃ Y, Y = w.alloc (.cells #[.int .i64 k.config, .int .i64 k.clock, .slice a1 k.places.length c1, .slice a2 k.machines.length c2, .slice a3 k.txs.length c3, .bool k.lost] 32) := ⟨_, rfl⟩
  have bW : Below w.heap.size w W := by rw [hW]; exact (Below.refl _ _).alloc (Nat.le_refl _) _
  have hc := implClusterOk_any W a1 c1 a2 c2 a3 c3 k hl (h.later bW)
  rw [hk] at hc
  have BW : Hid (Below w.heap.size w W) := bW
  clear bW h hl
  go_enter Tryz.func90, Tryz.ntmps90
  go_wp2_with fail
  rw [← hW]
  clear hW
  refine hc.mono ?_
  clear hc
  rintro e w1 ⟨rfl, b1⟩
  have B1 : Hid (Below w.heap.size w w1) := bstep BW.out b1
  clear b1
  go_wp2
  refine bodyPost_end (v := .tuple #[]) (by simp [results, Tryz.results90]) rfl ?_
  exact ⟨rfl, B1.out⟩
set_option maxHeartbeats 1000000 in
theorem needRight_no (w : World) (a1 : Option Addr) (c1 : Nat) (a2 : Option Addr) (c2 : Nat) (a3 : Option Addr) (c3 : Nat) (k : C6) (hl : KCl.L k) (h : KCl.Rd w a1 c1 a2 c2 a3 c3 k) (hk : clusterB k = false) : Calls Tryz.prog 90 #[.agg #[.int .i64 k.config, .int .i64 k.clock, .slice a1 k.places.length c1, .slice a2 k.machines.length c2, .slice a3 k.txs.length c3, .bool k.lost]] w (RAns w zC 1) := by
  obtain ⟨W, hW⟩ : ∃ Y, Y = w.alloc (.cells #[.int .i64 k.config, .int .i64 k.clock, .slice a1 k.places.length c1, .slice a2 k.machines.length c2, .slice a3 k.txs.length c3, .bool k.lost] 32) := ⟨_, rfl⟩
  have bW : Below w.heap.size w W := by rw [hW]; exact (Below.refl _ _).alloc (Nat.le_refl _) _
  have hc := implClusterOk_any W a1 c1 a2 c2 a3 c3 k hl (h.later bW)
  rw [hk] at hc
  have BW : Hid (Below w.heap.size w W) := bW
  clear bW h hl
  go_enter Tryz.func90, Tryz.ntmps90
  go_wp2_with fail
  rw [← hW]
  clear hW
  refine hc.mono ?_
  clear hc
  rintro e w1 ⟨rfl, b1⟩
  have B1 : Hid (Below w.heap.size w w1) := bstep BW.out b1
  clear b1
  go_wp2_with fail
  refine (refuse_any w1 1 (.int .i64 0) (.int .i64 0) (.slice none 0 0) (.slice none 0 0) (.slice none 0 0) (.bool false)).mono ?_
  rintro e w2 ⟨rfl, rfl⟩
  go_wp2
  exact ⟨rfl, none, 0, none, 0, none, 0, fun _ => False, rfl, zC_ow _ _, B1.out.alloc B1.out.size _⟩
set_option maxHeartbeats 1000000 in
theorem dRefuse_any (w : World) (d : Nat) (a1 : Option Addr) (c1 : Nat) (a2 : Option Addr) (c2 : Nat) (a3 : Option Addr) (c3 : Nat) (k : C6) (cs : List Value) (n : Int) (hk : clusterB k = true) (h : KCl.Rd w a1 c1 a2 c2 a3 c3 k) (hd : Bx w d ([.int .i64 k.config, .int .i64 k.clock, .slice a1 k.places.length c1, .slice a2 k.machines.length c2, .slice a3 k.txs.length c3, .bool k.lost] ++ cs)) : Calls Tryz.prog 62 #[.pointer (some ⟨d, 0, none⟩), .int .i64 n] w (RAns w k n) := by
  have p0 := hd.1 0 _ rfl
  have p1 := hd.1 1 _ rfl
  have p2 := hd.1 2 _ rfl
  have p3 := hd.1 3 _ rfl
  have p4 := hd.1 4 _ rfl
  have p5 := hd.1 5 _ rfl
  have hc := ownCluster_any w a1 c1 a2 c2 a3 c3 k hk h
  clear hd h
  go_enter Tryz.func62, Tryz.ntmps62
  go_wp2_with fail
  refine hc.mono ?_
  clear hc
  rintro e w1 ⟨b1, d1, b2, d2, b3, d3, ps, gp, ms, gm, ts, gt, rfl, hr, e1, e2, e3, bl⟩
  have K : Hid (KCl.Ow w1 w.heap.size b1 d1 b2 d2 b3 d3 k (fun q => Kd.blk (.slice b1 k.places.length d1) ps gp q ∨ Kd.blk (.slice b2 k.machines.length d2) ms gm q ∨ Kd.blk (.slice b3 k.txs.length d3) ts gt q) ∧ Below w.heap.size w w1) := ⟨(hr.ow e1 e2 e3).low (by omega), bl⟩
  clear hr e1 e2 e3 bl p0 p1 p2 p3 p4 p5
  go_wp2_with fail
  refine (refuse_any w1 n _ _ _ _ _ _).mono ?_
  rintro e w2 ⟨rfl, rfl⟩
  go_wp2
  have bA : Below w1.heap.size w1 (w1.alloc (.cells #[.int .i64 k.config, .int .i64 k.clock, .slice b1 k.places.length d1, .slice b2 k.machines.length d2, .slice b3 k.txs.length d3, .bool k.lost] 32)) := (Below.refl _ _).alloc (Nat.le_refl _) _
  exact ⟨rfl, b1, d1, b2, d2, b3, d3, _, rfl, K.out.1.later bA, bstep K.out.2 bA⟩
def DedAns (w : World) (a1 : Option Addr) (c1 : Nat) (a2 : Option Addr) (c2 : Nat) (a3 : Option Addr) (c3 : Nat) (k : C6) (y : Int) (n : Int) (e : Ending) (w' : World) : Prop :=
  (n ≠ 0 ∧ RAns w (leftC k) n e w') ∨ (n = 0 ∧ ∃ (d : Nat) (u0 : Option Addr) (u1 : Nat) (u2 : Option Addr) (u3 : Nat) (P : Nat → Prop), e = .returned (.pointer (some ⟨d, 0, none⟩)) ∧ Bx w' d [.int .i64 k.config, .int .i64 k.clock, .slice a1 k.places.length c1, .slice a2 k.machines.length c2, .slice a3 k.txs.length c3, .bool k.lost, .int .i64 (atId k.txs y), .int .i64 (txAt k y).id, .int .i64 (txAt k y).home, .int .i64 (txAt k y).phase, .int .i64 (txAt k y).count, .slice u0 (txAt k y).reads.length u1, .slice u2 (txAt k y).sets.length u3, .int .i64 (txAt k y).stamp] ∧ KT.Ow w' w.heap.size u0 u1 u2 u3 (txAt k y) P ∧ (∀ q, P q → q ≠ d) ∧ w.heap.size ≤ d ∧ Below w.heap.size w w')
theorem RAns.low {w X w' : World} {k : C6} {n : Int} {e : Ending} (h : RAns X k n e w') (b : Below w.heap.size w X) : RAns w k n e w' := by
  obtain ⟨a1, c1, a2, c2, a3, c3, P, h1, h2, h3⟩ := h
  exact ⟨a1, c1, a2, c2, a3, c3, P, h1, h2.low b.size, bstep b h3⟩
set_option maxRecDepth 100000 in
set_option maxHeartbeats 2500000 in
theorem deedOf_any (w : World) (a1 : Option Addr) (c1 : Nat) (a2 : Option Addr) (c2 : Nat) (a3 : Option Addr) (c3 : Nat) (k : C6) (y : Int) (hl : KCl.L k) (h : KCl.Rd w a1 c1 a2 c2 a3 c3 k) :
    Calls Tryz.prog 112 #[.agg #[.int .i64 k.config, .int .i64 k.clock, .slice a1 k.places.length c1, .slice a2 k.machines.length c2, .slice a3 k.txs.length c3, .bool k.lost], .int .i64 y] w (DedAns w a1 c1 a2 c2 a3 c3 k y (codeB k y)) := by
  obtain ⟨W0, hW0⟩ : ∃ Y, Y = w.alloc (.cells #[.int .i64 k.config, .int .i64 k.clock, .slice a1 k.places.length c1, .slice a2 k.machines.length c2, .slice a3 k.txs.length c3, .bool k.lost] 32) := ⟨_, rfl⟩
  have b0 : Below w.heap.size w W0 := by rw [hW0]; exact (Below.refl _ _).alloc (Nat.le_refl _) _
  have x0 : Bx W0 w.heap.size [.int .i64 k.config, .int .i64 k.clock, .slice a1 k.places.length c1, .slice a2 k.machines.length c2, .slice a3 k.txs.length c3, .bool k.lost] := by rw [hW0]; exact Bx.made w [.int .i64 k.config, .int .i64 k.clock, .slice a1 k.places.length c1, .slice a2 k.machines.length c2, .slice a3 k.txs.length c3, .bool k.lost] _
  have h0 := h.later b0
  cases hk : clusterB k with
  | false =>
    have hc := needRight_no W0 a1 c1 a2 c2 a3 c3 k hl h0 hk
    have hcode : codeB k y = 1 := by simp [codeB, hk]
    have hleft : leftC k = zC := by simp [leftC, hk]
    have B0 : Hid (Below w.heap.size w W0) := b0
    have HX : Hid (∀ e w', RAns W0 zC 1 e w' → DedAns w a1 c1 a2 c2 a3 c3 k y (codeB k y) e w') := fun e w' h => .inl ⟨by rw [hcode]; decide, by rw [hcode, hleft]; exact h.low B0.out⟩
    clear b0 x0 h0 h hl hcode hleft
    go_enter Tryz.func112, Tryz.ntmps112
    go_wp2_with fail
    rw [← hW0]
    clear hW0
    refine hc.mono ?_
    clear hc
    intro e w1 hr
    have hr' := hr
    obtain ⟨b1, d1, b2, d2, b3, d3, P, rfl, -, -⟩ := hr
    have HR := hidOf hr'
    clear hr'
    go_wp2
    exact ⟨rfl, HX.out _ _ HR.out⟩
  | true =>
    have hc := needRight_yes W0 a1 c1 a2 c2 a3 c3 k hl h0 hk
    obtain ⟨hup, htx, hn60⟩ := clu_up hk
    have hleft : leftC k = k := by simp [leftC, hk]
    have H : Hid (Below w.heap.size w W0 ∧ Bx W0 w.heap.size [.int .i64 k.config, .int .i64 k.clock, .slice a1 k.places.length c1, .slice a2 k.machines.length c2, .slice a3 k.txs.length c3, .bool k.lost] ∧ KCl.Rd w a1 c1 a2 c2 a3 c3 k ∧ UpI k.txs ∧ (∀ i, i < k.txs.length → tx.txB (atT k.txs i) = true) ∧ k.txs.length ≤ 60 ∧ clusterB k = true ∧ leftC k = k) := ⟨b0, x0, h, hup, htx, hn60, hk, hleft⟩
    clear b0 x0 h0 h hl hup htx hn60 hleft
    go_enter Tryz.func112, Tryz.ntmps112
    go_wp2_with fail
    rw [← hW0]
    clear hW0
    refine hc.mono ?_
    clear hc
    rintro e w1 ⟨rfl, b1⟩
    have B1 : Hid (Below w.heap.size w w1 ∧ Bx w1 w.heap.size [.int .i64 k.config, .int .i64 k.clock, .slice a1 k.places.length c1, .slice a2 k.machines.length c2, .slice a3 k.txs.length c3, .bool k.lost] ∧ KCl.Rd w1 a1 c1 a2 c2 a3 c3 k) := ⟨bstep H.out.1 b1, H.out.2.1.later b1, H.out.2.2.1.later (bstep H.out.1 b1)⟩
    clear b1
    have p4 := B1.out.2.1.1 4 _ rfl
    have hf := findTx_any w1 a3 c3 k.txs y (by have := H.out.2.2.2.2.2.1; omega) H.out.2.2.2.1 B1.out.2.2.t
    go_wp2_with fail
    refine hf.mono ?_
    clear hf
    rintro e w2 ⟨i, rfl, hpos, b2⟩
    have B2 : Hid (Below w.heap.size w w2 ∧ Bx w2 w.heap.size [.int .i64 k.config, .int .i64 k.clock, .slice a1 k.places.length c1, .slice a2 k.machines.length c2, .slice a3 k.txs.length c3, .bool k.lost] ∧ KCl.Rd w2 a1 c1 a2 c2 a3 c3 k) := ⟨bstep B1.out.1 b2, B1.out.2.1.later b2, B1.out.2.2.later b2⟩
    clear b2 p4 B1
    cases hfd : foundT k.txs y i with
    | false =>
      have hat := atId_neg H.out.2.2.2.1 hpos hfd
      have hcode : codeB k y = 2 := by simp [codeB, hk, hat]
      have HX : Hid (∀ e w', RAns w k 2 e w' → DedAns w a1 c1 a2 c2 a3 c3 k y (codeB k y) e w') := fun e w' h => .inl ⟨by rw [hcode]; decide, by rw [hcode, H.out.2.2.2.2.2.2.2]; exact h⟩
      have q0 := B2.out.2.1.1 0 _ rfl
      have q1 := B2.out.2.1.1 1 _ rfl
      have q2 := B2.out.2.1.1 2 _ rfl
      have q3 := B2.out.2.1.1 3 _ rfl
      have q4 := B2.out.2.1.1 4 _ rfl
      have q5 := B2.out.2.1.1 5 _ rfl
      have ho := ownCluster_any w2 a1 c1 a2 c2 a3 c3 k H.out.2.2.2.2.2.2.1 B2.out.2.2
      clear hat hcode hpos
      go_wp2_with fail
      refine ho.mono ?_
      clear ho
      rintro e w3 ⟨b1, d1, b2, d2, b3, d3, ps, gp, ms, gm, ts, gt, rfl, hr, e1, e2, e3, bl⟩
      have KO : Hid (KCl.Ow w3 w.heap.size b1 d1 b2 d2 b3 d3 k (fun q => Kd.blk (.slice b1 k.places.length d1) ps gp q ∨ Kd.blk (.slice b2 k.machines.length d2) ms gm q ∨ Kd.blk (.slice b3 k.txs.length d3) ts gt q) ∧ Below w.heap.size w w3) := ⟨(hr.ow e1 e2 e3).low (by have := B2.out.1.size; omega), bstep B2.out.1 bl⟩
      clear hr e1 e2 e3 bl q0 q1 q2 q3 q4 q5
      go_wp2_with fail
      refine (refuse_any w3 2 _ _ _ _ _ _).mono ?_
      rintro e w4 ⟨rfl, rfl⟩
      go_wp2
      have bA : Below w3.heap.size w3 (w3.alloc (.cells #[.int .i64 k.config, .int .i64 k.clock, .slice b1 k.places.length d1, .slice b2 k.machines.length d2, .slice b3 k.txs.length d3, .bool k.lost] 32)) := (Below.refl _ _).alloc (Nat.le_refl _) _
      exact ⟨rfl, HX.out _ _ ⟨b1, d1, b2, d2, b3, d3, _, rfl, KO.out.1.later bA, bstep KO.out.2 bA⟩⟩
    | true =>
      obtain ⟨hi, hat⟩ := atId_pos hpos hfd
      have htxi := tx_short (H.out.2.2.2.2.1 i hi)
      have hhome := clu_home H.out.2.2.2.2.2.2.1 hi
      have hm8 := (CSm.of H.out.2.2.2.2.2.2.1).m
      obtain ⟨hm, hhm⟩ : ∃ m : Nat, (atT k.txs i).home = (m : Int) := ⟨(atT k.txs i).home.toNat, by omega⟩
      have hcode : codeB k y = if (atM k.machines hm).alive = true then 0 else 3 := by
        simp only [codeB, hk, if_true, hat, hi, homeB, txAt, hhm, Int.toNat_natCast]
      have HC := hidOf hcode
      have HH := hidOf hhm
      have HT : Hid (txAt k y = atT k.txs i ∧ atId k.txs y = i) := ⟨by simp [txAt, hat], hat⟩
      rcases B2.out.2.2.t with e0 | ⟨b, off, rfl, hb, hrd⟩
      · rw [e0] at hi; simp at hi
      obtain ⟨⟨t0, t1, t2, t3⟩, hel, hsd⟩ := hrd i _ (atT_of hi)
      have hcl := tx.ownTx_any w2.drew ⟨t0, t1, t2, t3⟩ (atT k.txs i) htxi.1 htxi.2 (tx.SlT.later hsd (Below.refl _ _).drew)
      simp only [tx.TV.val] at hcl
      have jn : (i : Int) < (k.txs.length : Int) := by omega
      have hSX : (fun X : World => Bx X w.heap.size [.int .i64 k.config, .int .i64 k.clock, .slice a1 k.places.length c1, .slice a2 k.machines.length c2, .slice (some ⟨b, off, none⟩) k.txs.length c3, .bool k.lost] ∧ At X b (off + i * 7) [.int .i64 (atT k.txs i).id, .int .i64 (atT k.txs i).home, .int .i64 (atT k.txs i).phase, .int .i64 (atT k.txs i).count, .slice t0 (atT k.txs i).reads.length t1, .slice t2 (atT k.txs i).sets.length t3, .int .i64 (atT k.txs i).stamp]) w2.drew := ⟨B2.out.2.1.later (Below.refl _ _).drew, hel.of_block rfl⟩
      have HB : Hid (b < w2.drew.heap.size ∧ Below w.heap.size w w2.drew ∧ KCl.Rd w2.drew a1 c1 a2 c2 (some ⟨b, off, none⟩) c3 k ∧ hm < k.machines.length ∧ k.machines.length ≤ 8 ∧ i < k.txs.length) := ⟨hb, B2.out.1.drew, B2.out.2.2.later (Below.refl _ _).drew, by omega, hm8, hi⟩
      clear hat hcode hpos hrd hel hsd htxi hhome hm8 hb B2 hhm
      go_wp2_with fail
      refine wp_region_until 10 (fun X : World => Bx X w.heap.size [.int .i64 k.config, .int .i64 k.clock, .slice a1 k.places.length c1, .slice a2 k.machines.length c2, .slice (some ⟨b, off, none⟩) k.txs.length c3, .bool k.lost] ∧ At X b (off + i * 7) [.int .i64 (atT k.txs i).id, .int .i64 (atT k.txs i).home, .int .i64 (atT k.txs i).phase, .int .i64 (atT k.txs i).count, .slice t0 (atT k.txs i).reads.length t1, .slice t2 (atT k.txs i).sets.length t3, .int .i64 (atT k.txs i).stamp]) (by kernel_rfl) ?_
      generalize w2.drew = XD at *
      refine wpUntil_take (i := 0) (v := ?_) rfl (by kernel_rfl) (fun _ _ _ h => h) (Or.inl ⟨by rfl, ?_⟩) hSX ?_
      rotate_left
      · (intro w hSw; have q0 := hSw.1.1 0 _ rfl; have q1 := hSw.1.1 1 _ rfl; have q2 := hSw.1.1 2 _ rfl; have q3 := hSw.1.1 3 _ rfl; have q4 := hSw.1.1 4 _ rfl; have q5 := hSw.1.1 5 _ rfl; go_simp; first | done | with_reducible rfl | rfl)
      simp only [Act.put]
      refine wpUntil_take (i := 1) (v := ?_) rfl (by kernel_rfl) (fun _ _ _ h => h) (Or.inl ⟨by rfl, ?_⟩) hSX ?_
      rotate_left
      · (intro w hSw; go_simp; first | done | with_reducible rfl)
      simp only [Act.put]
      refine wpUntil_take (i := 2) (v := ?_) rfl (by kernel_rfl) (fun _ _ _ h => h) (Or.inl ⟨by rfl, ?_⟩) hSX ?_
      rotate_left
      · (intro w hSw; go_simp; first | done | with_reducible rfl)
      simp only [Act.put]
      refine wpUntil_take (i := 3) (v := ?_) rfl (by kernel_rfl) (fun _ _ _ h => h) (Or.inl ⟨by rfl, ?_⟩) hSX ?_
      rotate_left
      · (intro w hSw; have q4 := hSw.1.1 4 _ rfl; go_simp; first | done | with_reducible rfl | rfl)
      simp only [Act.put]
      refine wpUntil_take (i := 4) (v := ?_) rfl (by kernel_rfl) (fun _ _ _ h => h) (Or.inl ⟨by rfl, ?_⟩) hSX ?_
      rotate_left
      · (intro w hSw; go_simp; first | done | with_reducible rfl)
      simp only [Act.put]
      refine wpUntil_take (i := 5) (v := ?_) rfl (by kernel_rfl) (fun _ _ _ h => h) (Or.inl ⟨by rfl, ?_⟩) hSX ?_
      rotate_left
      · (intro w hSw; go_simp; first | done | with_reducible rfl | (rw [if_pos (by omega)]))
      simp only [Act.put]
      refine wpUntil_take (i := 6) (v := ?_) rfl (by kernel_rfl) (fun _ _ _ h => h) (Or.inl ⟨by rfl, ?_⟩) hSX ?_
      rotate_left
      · (intro w hSw; have q0 : w.cell? ⟨b, off + i * 7, none⟩ = some (.int .i64 (atT k.txs i).id) := hSw.2 0 _ rfl; have q1 : w.cell? ⟨b, off + i * 7 + 1, none⟩ = some (.int .i64 (atT k.txs i).home) := hSw.2 1 _ rfl; have q2 : w.cell? ⟨b, off + i * 7 + 2, none⟩ = some (.int .i64 (atT k.txs i).phase) := hSw.2 2 _ rfl; have q3 : w.cell? ⟨b, off + i * 7 + 3, none⟩ = some (.int .i64 (atT k.txs i).count) := hSw.2 3 _ rfl; have q4 : w.cell? ⟨b, off + i * 7 + 4, none⟩ = some (.slice t0 (atT k.txs i).reads.length t1) := hSw.2 4 _ rfl; have q5 : w.cell? ⟨b, off + i * 7 + 5, none⟩ = some (.slice t2 (atT k.txs i).sets.length t3) := hSw.2 5 _ rfl; have q6 : w.cell? ⟨b, off + i * 7 + 6, none⟩ = some (.int .i64 (atT k.txs i).stamp) := hSw.2 6 _ rfl; go_simp; first | done | with_reducible rfl | rfl)
      simp only [Act.put]
      refine wpUntil_ready (rs := [7]) (by kernel_rfl) (by simp) ?_
      refine AllU.cons rfl (fun K hK => ?_) AllU.nil
      go_simp
      refine hcl.mono ?_
      clear hcl
      rintro e X2 ⟨u0, u1, u2, u3, PR, PS, rfl, ho, b2⟩
      simp only [tx.TV.val]
      obtain ⟨hb, hbx, hrdx, hm1, hm8, hi7⟩ := HB.out
      have hS2 : (fun X : World => Bx X w.heap.size [.int .i64 k.config, .int .i64 k.clock, .slice a1 k.places.length c1, .slice a2 k.machines.length c2, .slice (some ⟨b, off, none⟩) k.txs.length c3, .bool k.lost] ∧ At X b (off + i * 7) [.int .i64 (atT k.txs i).id, .int .i64 (atT k.txs i).home, .int .i64 (atT k.txs i).phase, .int .i64 (atT k.txs i).count, .slice t0 (atT k.txs i).reads.length t1, .slice t2 (atT k.txs i).sets.length t3, .int .i64 (atT k.txs i).stamp]) X2 := ⟨hSX.1.later b2, hSX.2.of_block (b2.block b (by have := hbx.size; have := hSX.1.2.2; have := b2.size; omega))⟩
      obtain ⟨X3, hX3⟩ : ∃ X, X = X2.alloc (.cells #[.int .i64 k.config, .int .i64 k.clock, .slice a1 k.places.length c1, .slice a2 k.machines.length c2, .slice (some ⟨b, off, none⟩) k.txs.length c3, .bool k.lost, .int .i64 (i : Int), .int .i64 (atT k.txs i).id, .int .i64 (atT k.txs i).home, .int .i64 (atT k.txs i).phase, .int .i64 (atT k.txs i).count, .slice u0 (atT k.txs i).reads.length u1, .slice u2 (atT k.txs i).sets.length u3, .int .i64 (atT k.txs i).stamp] 111) := ⟨_, rfl⟩
      have b3 : Below X2.heap.size X2 X3 := by rw [hX3]; exact (Below.refl _ _).alloc (Nat.le_refl _) _
      have x3 : Bx X3 X2.heap.size [.int .i64 k.config, .int .i64 k.clock, .slice a1 k.places.length c1, .slice a2 k.machines.length c2, .slice (some ⟨b, off, none⟩) k.txs.length c3, .bool k.lost, .int .i64 (i : Int), .int .i64 (atT k.txs i).id, .int .i64 (atT k.txs i).home, .int .i64 (atT k.txs i).phase, .int .i64 (atT k.txs i).count, .slice u0 (atT k.txs i).reads.length u1, .slice u2 (atT k.txs i).sets.length u3, .int .i64 (atT k.txs i).stamp] := by rw [hX3]; exact Bx.made X2 [.int .i64 k.config, .int .i64 k.clock, .slice a1 k.places.length c1, .slice a2 k.machines.length c2, .slice (some ⟨b, off, none⟩) k.txs.length c3, .bool k.lost, .int .i64 (i : Int), .int .i64 (atT k.txs i).id, .int .i64 (atT k.txs i).home, .int .i64 (atT k.txs i).phase, .int .i64 (atT k.txs i).count, .slice u0 (atT k.txs i).reads.length u1, .slice u2 (atT k.txs i).sets.length u3, .int .i64 (atT k.txs i).stamp] _
      have hS3 : (fun X : World => Bx X w.heap.size [.int .i64 k.config, .int .i64 k.clock, .slice a1 k.places.length c1, .slice a2 k.machines.length c2, .slice (some ⟨b, off, none⟩) k.txs.length c3, .bool k.lost] ∧ At X b (off + i * 7) [.int .i64 (atT k.txs i).id, .int .i64 (atT k.txs i).home, .int .i64 (atT k.txs i).phase, .int .i64 (atT k.txs i).count, .slice t0 (atT k.txs i).reads.length t1, .slice t2 (atT k.txs i).sets.length t3, .int .i64 (atT k.txs i).stamp]) X3 := ⟨hS2.1.later b3, hS2.2.of_block (b3.block b (by have := hS2.1.2.2; have := hb; have := hbx.size; have := b2.size; have := hSX.1.2.2; omega))⟩
      have KD : Hid (Bx X3 X2.heap.size [.int .i64 k.config, .int .i64 k.clock, .slice a1 k.places.length c1, .slice a2 k.machines.length c2, .slice (some ⟨b, off, none⟩) k.txs.length c3, .bool k.lost, .int .i64 (i : Int), .int .i64 (atT k.txs i).id, .int .i64 (atT k.txs i).home, .int .i64 (atT k.txs i).phase, .int .i64 (atT k.txs i).count, .slice u0 (atT k.txs i).reads.length u1, .slice u2 (atT k.txs i).sets.length u3, .int .i64 (atT k.txs i).stamp] ∧ KT.Ow X3 w.heap.size u0 u1 u2 u3 (atT k.txs i) (tx.OfT PR PS) ∧ (∀ q, tx.OfT PR PS q → q ≠ X2.heap.size) ∧ w.heap.size ≤ X2.heap.size ∧ Below w.heap.size w X3 ∧ KCl.Rd X3 a1 c1 a2 c2 (some ⟨b, off, none⟩) c3 k ∧ Bx X3 w.heap.size [.int .i64 k.config, .int .i64 k.clock, .slice a1 k.places.length c1, .slice a2 k.machines.length c2, .slice (some ⟨b, off, none⟩) k.txs.length c3, .bool k.lost]) := ⟨x3, ((KT.ow ho).low hbx.size).later b3, fun q hq e => by have := (KT.ow ho).of hq; omega, Nat.le_trans hbx.size b2.size, bstep (bstep hbx b2) b3, (hrdx.later b2).later b3, hS3.1⟩
      refine hK.out _ _ (fun _ => hS2) ?_
      clear hK K hb hbx hrdx b2 b3 x3 ho
      refine wpUntil_take (i := 8) (v := ?_) rfl (by kernel_rfl) (fun _ _ _ h => h) (Or.inl ⟨by rfl, ?_⟩) hS2 ?_
      rotate_left
      · (intro w hSw; go_simp; first | done | with_reducible rfl)
      simp only [Act.put]
      refine wpUntil_ready (rs := [9]) (by kernel_rfl) (by simp) ?_
      refine AllU.cons rfl (fun K hK => ?_) AllU.nil
      go_simp
      rw [← hX3]
      refine hK.out _ _ (fun _ => hS3) ?_
      clear hK K hS2 hX3
      refine wpUntil_ready (rs := [10]) (by kernel_rfl) (by simp) ?_
      refine AllU.cons rfl (fun K hK => ?_) AllU.nil
      go_simp
      refine hK.out _ _ (fun h => absurd rfl h) ?_
      clear hK K hS3 hSX
      refine wpUntil_done (by kernel_rfl) ?_ _
      have cQ : ∀ dd os, Calls Tryz.prog 94 #[.agg #[.int .i64 k.config, .int .i64 k.clock, .slice a1 k.places.length c1, .slice a2 k.machines.length c2, .slice (some ⟨b, off, none⟩) k.txs.length c3, .bool k.lost], .int .i64 (atT k.txs i).home] (grow (redrawn X3 dd) os) fun e w'' => e = .returned (.bool (atM k.machines hm).alive) ∧ ∃ p : Regrown, w'' = grow (redrawn X3 p.d) p.os := fun dd os => by
        have hh := homeLives_any (grow (redrawn X3 dd) os) a1 c1 a2 c2 (some ⟨b, off, none⟩) c3 k hm hm1 (KD.out.2.2.2.2.2.1.later (below_regrown X3 dd os))
        rw [← HH.out] at hh
        exact Calls.regrown_of hh
      have c0 : ∀ dd os, (grow (redrawn X3 dd) os).cell? ⟨w.heap.size, 0, none⟩ = some (.int .i64 k.config) := fun dd os => (KD.out.2.2.2.2.2.2.later (below_regrown X3 dd os)).1 0 _ rfl
      have c1' : ∀ dd os, (grow (redrawn X3 dd) os).cell? ⟨w.heap.size, 1, none⟩ = some (.int .i64 k.clock) := fun dd os => (KD.out.2.2.2.2.2.2.later (below_regrown X3 dd os)).1 1 _ rfl
      have c2' : ∀ dd os, (grow (redrawn X3 dd) os).cell? ⟨w.heap.size, 2, none⟩ = some (.slice a1 k.places.length c1) := fun dd os => (KD.out.2.2.2.2.2.2.later (below_regrown X3 dd os)).1 2 _ rfl
      have c3' : ∀ dd os, (grow (redrawn X3 dd) os).cell? ⟨w.heap.size, 3, none⟩ = some (.slice a2 k.machines.length c2) := fun dd os => (KD.out.2.2.2.2.2.2.later (below_regrown X3 dd os)).1 3 _ rfl
      have c4' : ∀ dd os, (grow (redrawn X3 dd) os).cell? ⟨w.heap.size, 4, none⟩ = some (.slice (some ⟨b, off, none⟩) k.txs.length c3) := fun dd os => (KD.out.2.2.2.2.2.2.later (below_regrown X3 dd os)).1 4 _ rfl
      have c5' : ∀ dd os, (grow (redrawn X3 dd) os).cell? ⟨w.heap.size, 5, none⟩ = some (.bool k.lost) := fun dd os => (KD.out.2.2.2.2.2.2.later (below_regrown X3 dd os)).1 5 _ rfl
      have c8 : ∀ dd os, (grow (redrawn X3 dd) os).cell? ⟨X2.heap.size, 8, none⟩ = some (.int .i64 (atT k.txs i).home) := fun dd os => (KD.out.1.later (below_regrown X3 dd os)).1 8 _ rfl
      go_wp2_with fail
      refine wp_region_quiet_below (by kernel_rfl) (by kernel_rfl) ?_
      repeat (go_big_quiet_step (exact cQ _ _))
      refine wpQuiet_nil ?_
      intro _ hw'
      obtain ⟨⟨dq, osq⟩, hw''⟩ := hw'
      subst hw''
      have bq := below_regrown X3 dq osq
      have K5 : Hid (Bx (grow (redrawn X3 dq) osq) X2.heap.size [.int .i64 k.config, .int .i64 k.clock, .slice a1 k.places.length c1, .slice a2 k.machines.length c2, .slice (some ⟨b, off, none⟩) k.txs.length c3, .bool k.lost, .int .i64 (i : Int), .int .i64 (atT k.txs i).id, .int .i64 (atT k.txs i).home, .int .i64 (atT k.txs i).phase, .int .i64 (atT k.txs i).count, .slice u0 (atT k.txs i).reads.length u1, .slice u2 (atT k.txs i).sets.length u3, .int .i64 (atT k.txs i).stamp] ∧ KT.Ow (grow (redrawn X3 dq) osq) w.heap.size u0 u1 u2 u3 (atT k.txs i) (tx.OfT PR PS) ∧ (∀ q, tx.OfT PR PS q → q ≠ X2.heap.size) ∧ w.heap.size ≤ X2.heap.size ∧ Below w.heap.size w (grow (redrawn X3 dq) osq) ∧ KCl.Rd (grow (redrawn X3 dq) osq) a1 c1 a2 c2 (some ⟨b, off, none⟩) c3 k) := by
        obtain ⟨k1, k2, k3, k4, k5, k6, k7⟩ := KD.out
        exact ⟨k1.later bq, k2.later bq, k3, k4, bstep k5 bq, k6.later bq⟩
      clear bq cQ c0 c1' c2' c3' c4' c5' c8 KD
      generalize grow (redrawn X3 dq) osq = w5 at *
      cases hal : (atM k.machines hm).alive with
      | true =>
        have hz : codeB k y = 0 := by rw [HC.out, hal]; rfl
        have HZ := hidOf hz
        clear hz
        go_wp2
        go_ret
        refine .inr ⟨HZ.out, X2.heap.size, u0, u1, u2, u3, tx.OfT PR PS, rfl, ?_⟩
        rw [HT.out.1, HT.out.2]
        exact ⟨K5.out.1, K5.out.2.1, K5.out.2.2.1, K5.out.2.2.2.1, K5.out.2.2.2.2.1⟩
      | false =>
        have hz : codeB k y = 3 := by rw [HC.out, hal]; rfl
        have HX : Hid (∀ e w', RAns w5 k 3 e w' → DedAns w a1 c1 a2 c2 (some ⟨b, off, none⟩) c3 k y (codeB k y) e w') := fun e w' h => .inl ⟨by rw [hz]; decide, by rw [hz, H.out.2.2.2.2.2.2.2]; exact h.low K5.out.2.2.2.2.1⟩
        have hrf := dRefuse_any w5 X2.heap.size a1 c1 a2 c2 (some ⟨b, off, none⟩) c3 k [.int .i64 (i : Int), .int .i64 (atT k.txs i).id, .int .i64 (atT k.txs i).home, .int .i64 (atT k.txs i).phase, .int .i64 (atT k.txs i).count, .slice u0 (atT k.txs i).reads.length u1, .slice u2 (atT k.txs i).sets.length u3, .int .i64 (atT k.txs i).stamp] 3 H.out.2.2.2.2.2.2.1 K5.out.2.2.2.2.2 K5.out.1
        clear hz
        go_wp2_with fail
        refine hrf.mono ?_
        clear hrf
        intro e w6 hr
        have hr' := hr
        obtain ⟨b1, d1, b2, d2, b3, d3, P, rfl, -, -⟩ := hr
        have HR := hidOf hr'
        clear hr'
        go_wp2
        exact ⟨rfl, HX.out _ _ HR.out⟩
end Go.Proofs.YtnhjgomfkfehgaaGreatDoor