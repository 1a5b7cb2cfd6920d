/- KdTS; PlsO; PlsL2; KdCl; IdxR; OwnC; OwnR; OwnS: joined. -/
import Derived.Test.YtphpcgmnljhimaaGreatRows
import Derived.Test.YtphpcgmnljhimaaGreatJ2ExactStricken
import Derived.WalkKit
import Derived.WalkSpells
import Derived.WalkLawsBesides
import Derived.Below
import Derived.Lib.QuietBelow
import Derived.BigQuiet
import Derived.Test.YtphpcgmnljhimaaGreatJ0ExactStricken
import Derived.Deep.QuietTactic
import Derived.Test.YtphpcgmnljhimaaGreatJ1ExactStricken
namespace Go.Proofs.YtphpcgmnljhimaaGreat
open Go.RowKit
open Go.Sort (grow)
theorem info_KTS : (Tryz.prog.info? 47).map (fun i => (i.zero, i.size, i.bytes)) = some (some (.agg #[.int .i64 0, .int .i64 0, .int .i64 0, .int .i64 0, .slice none 0 0, .slice none 0 0, .int .i64 0]), 7, 88) := by kernel_rfl
theorem make_KTS (n : Nat) (hn : n ≤ 1048576) (w : World) : (Instr.makeSlice 31 (.int .i64 (n : Int)) (.int .i64 (n : Int))).run Tryz.prog w = .ok (.slice (some ⟨w.heap.size, 0, none⟩) n n) (w.alloc (.cells (madeCells #[.int .i64 0, .int .i64 0, .int .i64 0, .int .i64 0, .slice none 0 0, .slice none 0 0, .int .i64 0] (n * 7)) 47)) := by
  obtain ⟨i, hi, hzz⟩ := Option.map_eq_some_iff.1 info_KTS
  simp only [Prod.mk.injEq] at hzz
  obtain ⟨hz, hs, hb⟩ := hzz
  have := run_make (P := Tryz.prog) w 31 47 i _ Tryz.underlying31 hi hz .i64 .i64 (n : Int) (n : Int) (by omega) (by omega) (by rw [hb]; omega) (by omega)
  rw [hs] at this
  simpa [Value.cells] using this
set_option maxRecDepth 100000 in
set_option maxHeartbeats 4000000 in
theorem KTS.to (w : World) (a : Option Addr) (cap : Nat) (xs : List tx.T7) (hn : xs.length ≤ 1048576) (ht : ∀ d ∈ xs, KT.S d) (hs : KTk.RdS w a xs) : Calls Tryz.prog 20 #[.slice a xs.length cap] w fun e w' =>
    ∃ P, e = .returned (.slice (some ⟨w.heap.size, 0, none⟩) xs.length xs.length) ∧ KTk.OwS w' w.heap.size (some ⟨w.heap.size, 0, none⟩) xs P ∧ Below w.heap.size w w' := by
  have hmk := make_KTS xs.length hn
  go_enter Tryz.func20, Tryz.ntmps20
  go_wp2
  go_loopw [4] (fun i wr => ∃ (j : Nat) (g : Nat → Nat → Prop), j ≤ xs.length ∧ i = .int .i64 j ∧ Below w.heap.size w wr ∧ w.heap.size < wr.heap.size ∧ KTk.Part wr w.heap.size w.heap.size xs.length (xs.take j) g) (fun i _ => xs.length - (intOf i).toNat)
  case atStart => exact ⟨0, fun _ _ => False, Nat.zero_le _, rfl, (Below.refl _ _).alloc (Nat.le_refl _) _, by simp, by rw [List.take_zero]; exact Kd.Part.nil _ _ (room_made _ _ _ _)⟩
  case round =>
    obtain ⟨j, g, hj, rfl, hbl, hsz, hpt⟩ := hrel
    by_cases hlt : j < xs.length
    · obtain ⟨d, hd⟩ : ∃ d, xs[j]? = some d := ⟨_, List.getElem?_eq_getElem hlt⟩
      rcases hs with hs | ⟨b, off, rfl, hb, h1⟩
      · rw [hs] at hlt; simp at hlt
      obtain ⟨⟨c0, c1, c2, c3⟩, hat, hrd⟩ := h1 j d hd
      have e0 : wr.cell? ⟨b, off + j * 7, none⟩ = some (.int .i64 d.id) := (hbl.cell (p := ⟨b, off + j * 7, none⟩) hb).trans (hat 0 _ rfl)
      have e1 : wr.cell? ⟨b, off + j * 7 + 1, none⟩ = some (.int .i64 d.home) := (hbl.cell (p := ⟨b, off + j * 7 + 1, none⟩) hb).trans (hat 1 _ rfl)
      have e2 : wr.cell? ⟨b, off + j * 7 + 2, none⟩ = some (.int .i64 d.phase) := (hbl.cell (p := ⟨b, off + j * 7 + 2, none⟩) hb).trans (hat 2 _ rfl)
      have e3 : wr.cell? ⟨b, off + j * 7 + 3, none⟩ = some (.int .i64 d.count) := (hbl.cell (p := ⟨b, off + j * 7 + 3, none⟩) hb).trans (hat 3 _ rfl)
      have e4 : wr.cell? ⟨b, off + j * 7 + 4, none⟩ = some (.slice c0 d.reads.length c1) := (hbl.cell (p := ⟨b, off + j * 7 + 4, none⟩) hb).trans (hat 4 _ rfl)
      have e5 : wr.cell? ⟨b, off + j * 7 + 5, none⟩ = some (.slice c2 d.sets.length c3) := (hbl.cell (p := ⟨b, off + j * 7 + 5, none⟩) hb).trans (hat 5 _ rfl)
      have e6 : wr.cell? ⟨b, off + j * 7 + 6, none⟩ = some (.int .i64 d.stamp) := (hbl.cell (p := ⟨b, off + j * 7 + 6, none⟩) hb).trans (hat 6 _ rfl)
      have hcl := KT.to wr c0 c1 c2 c3 d (ht d (List.mem_of_getElem? hd)) (KTk.later hrd hbl)
      have KH : Hid (KTk.Part wr w.heap.size w.heap.size xs.length (xs.take j) g ∧ Below w.heap.size w wr ∧ w.heap.size < wr.heap.size ∧ xs.take (j + 1) = xs.take j ++ [d] ∧ (xs.take j).length = j) := ⟨hpt, hbl, hsz, by rw [List.take_add_one, hd]; rfl, by rw [List.length_take]; omega⟩
      have jn : (j : Int) < (xs.length : Int) := by omega
      clear hpt hbl hmk h1 ht hat hrd hd
      go_wp2_with fail
      refine hcl.mono ?_
      clear hcl e0 e1 e2 e3 e4 e5 e6
      rintro e w1 ⟨u0, u1, u2, u3, P, rfl, ho, b1⟩
      have hp1 := KH.out.1.later b1 KH.out.2.2.1
      have hrm := hp1.rm
      have hjm : j * 7 + 7 ≤ xs.length * 7 := by omega
      obtain ⟨z0, d0, f0⟩ : ∃ v, w1.cell? ⟨w.heap.size, j * 7, none⟩ = some v ∧ w1.frozen? ⟨w.heap.size, j * 7, none⟩ = false := hrm (j * 7 + 0) (show _ < xs.length * 7 by omega)
      obtain ⟨z1, d1, f1⟩ : ∃ v, w1.cell? ⟨w.heap.size, j * 7 + 1, none⟩ = some v ∧ w1.frozen? ⟨w.heap.size, j * 7 + 1, none⟩ = false := hrm (j * 7 + 1) (show _ < xs.length * 7 by omega)
      obtain ⟨z2, d2, f2⟩ : ∃ v, w1.cell? ⟨w.heap.size, j * 7 + 2, none⟩ = some v ∧ w1.frozen? ⟨w.heap.size, j * 7 + 2, none⟩ = false := hrm (j * 7 + 2) (show _ < xs.length * 7 by omega)
      obtain ⟨z3, d3, f3⟩ : ∃ v, w1.cell? ⟨w.heap.size, j * 7 + 3, none⟩ = some v ∧ w1.frozen? ⟨w.heap.size, j * 7 + 3, none⟩ = false := hrm (j * 7 + 3) (show _ < xs.length * 7 by omega)
      obtain ⟨z4, d4, f4⟩ : ∃ v, w1.cell? ⟨w.heap.size, j * 7 + 4, none⟩ = some v ∧ w1.frozen? ⟨w.heap.size, j * 7 + 4, none⟩ = false := hrm (j * 7 + 4) (show _ < xs.length * 7 by omega)
      obtain ⟨z5, d5, f5⟩ : ∃ v, w1.cell? ⟨w.heap.size, j * 7 + 5, none⟩ = some v ∧ w1.frozen? ⟨w.heap.size, j * 7 + 5, none⟩ = false := hrm (j * 7 + 5) (show _ < xs.length * 7 by omega)
      obtain ⟨z6, d6, f6⟩ : ∃ v, w1.cell? ⟨w.heap.size, j * 7 + 6, none⟩ = some v ∧ w1.frozen? ⟨w.heap.size, j * 7 + 6, none⟩ = false := hrm (j * 7 + 6) (show _ < xs.length * 7 by omega)
      have K1 : Hid (KTk.Part w1 w.heap.size w.heap.size xs.length (xs.take j) g ∧ KTk.Ow w1 wr.heap.size ⟨u0, u1, u2, u3⟩ d P ∧ Below wr.heap.size wr w1) := ⟨hp1, ho, b1⟩
      clear hp1 ho b1 hrm hjm
      go_wp2
      obtain ⟨k1, k2, k3, k4, k5⟩ := KH.out
      obtain ⟨p1, p2, p3⟩ := K1.out
      have hpu := p1.push (by omega) ⟨u0, u1, u2, u3⟩ d P (KTk.low p2 (Nat.le_of_lt k3)) (fun q hq => by have := (KTk.of p2 hq).1; omega) (fun i q hi hq hq' => by have := (k1.gq hi hq).2; have := (KTk.of p2 hq').1; omega)
      rw [k5, ← k4] at hpu
      have hbe : Below w.heap.size w (putB w1 w.heap.size (j * 7) [.int .i64 d.id, .int .i64 d.home, .int .i64 d.phase, .int .i64 d.count, .slice u0 d.reads.length u1, .slice u2 d.sets.length u3, .int .i64 d.stamp]) := putB_below (Nat.le_refl _) _ _ _ (k2.trans (p3.mono k2.size))
      have hsz' : w.heap.size < (putB w1 w.heap.size (j * 7) [.int .i64 d.id, .int .i64 d.home, .int .i64 d.phase, .int .i64 d.count, .slice u0 d.reads.length u1, .slice u2 d.sets.length u3, .int .i64 d.stamp]).heap.size := by rw [putB_size]; exact Nat.lt_of_lt_of_le k3 p3.size
      exact ⟨⟨j + 1, _, by omega, by simp, hbe, hsz', hpu⟩, by simp [intOf]; omega⟩
    · obtain rfl : j = xs.length := by omega
      have hd : decide ((xs.length : Int) < (xs.length : Int)) = false := by simp
      rw [List.take_length] at hpt
      have KH : Hid (KTk.Part wr w.heap.size w.heap.size xs.length xs g ∧ Below w.heap.size w wr ∧ w.heap.size < wr.heap.size) := ⟨hpt, hbl, hsz⟩
      clear hpt hbl hs hmk ht
      go_wp2
      go_ret
      exact ⟨_, rfl, KH.out.1.own (Nat.le_refl _) KH.out.2.2, KH.out.2.1⟩
set_option maxRecDepth 100000 in
set_option maxHeartbeats 4000000 in
theorem KTS.eq (w : World) (a a' : Option Addr) (cap cap' : Nat) (xs : List tx.T7) (hn : xs.length ≤ 1048576) (ht : ∀ d ∈ xs, KT.S d) (h1 : KTk.RdS w a xs) (h2 : KTk.RdS w a' xs) : Calls Tryz.prog 31 #[.slice a xs.length cap, .slice a' xs.length cap'] w fun e w' => e = .returned (.bool true) ∧ Below w.heap.size w w' := by
  go_enter Tryz.func31, Tryz.ntmps31
  go_wp2
  go_loopw [5] (fun i wr => ∃ j : Nat, j ≤ xs.length ∧ i = .int .i64 j ∧ Below w.heap.size w wr) (fun i _ => xs.length - (intOf i).toNat)
  case atStart => exact ⟨0, Nat.zero_le _, rfl, Below.refl _ _⟩
  case round =>
    obtain ⟨j, hj, rfl, hbl⟩ := hrel
    by_cases hlt : j < xs.length
    · obtain ⟨d, hd⟩ : ∃ d, xs[j]? = some d := ⟨_, List.getElem?_eq_getElem hlt⟩
      rcases h1 with h1 | ⟨b, off, rfl, hb, h1⟩
      · rw [h1] at hlt; simp at hlt
      · rcases h2 with h2 | ⟨b', off', rfl, hb', h2⟩
        · rw [h2] at hlt; simp at hlt
        · obtain ⟨⟨c0, c1, c2, c3⟩, hat, hrd⟩ := h1 j d hd
          obtain ⟨⟨b0, b1, b2, b3⟩, hat', hrd'⟩ := h2 j d hd
          have x0 : ∀ dd os, (grow (redrawn wr dd) os).cell? ⟨b, off + j * 7, none⟩ = some (.int .i64 d.id) := fun dd os => ((below_regrown wr dd os).cell (p := ⟨b, off + j * 7, none⟩) (Nat.lt_of_lt_of_le hb hbl.size)).trans ((hbl.cell (p := ⟨b, off + j * 7, none⟩) hb).trans (hat 0 _ rfl))
          have x1 : ∀ dd os, (grow (redrawn wr dd) os).cell? ⟨b, off + j * 7 + 1, none⟩ = some (.int .i64 d.home) := fun dd os => ((below_regrown wr dd os).cell (p := ⟨b, off + j * 7 + 1, none⟩) (Nat.lt_of_lt_of_le hb hbl.size)).trans ((hbl.cell (p := ⟨b, off + j * 7 + 1, none⟩) hb).trans (hat 1 _ rfl))
          have x2 : ∀ dd os, (grow (redrawn wr dd) os).cell? ⟨b, off + j * 7 + 2, none⟩ = some (.int .i64 d.phase) := fun dd os => ((below_regrown wr dd os).cell (p := ⟨b, off + j * 7 + 2, none⟩) (Nat.lt_of_lt_of_le hb hbl.size)).trans ((hbl.cell (p := ⟨b, off + j * 7 + 2, none⟩) hb).trans (hat 2 _ rfl))
          have x3 : ∀ dd os, (grow (redrawn wr dd) os).cell? ⟨b, off + j * 7 + 3, none⟩ = some (.int .i64 d.count) := fun dd os => ((below_regrown wr dd os).cell (p := ⟨b, off + j * 7 + 3, none⟩) (Nat.lt_of_lt_of_le hb hbl.size)).trans ((hbl.cell (p := ⟨b, off + j * 7 + 3, none⟩) hb).trans (hat 3 _ rfl))
          have x4 : ∀ dd os, (grow (redrawn wr dd) os).cell? ⟨b, off + j * 7 + 4, none⟩ = some (.slice c0 d.reads.length c1) := fun dd os => ((below_regrown wr dd os).cell (p := ⟨b, off + j * 7 + 4, none⟩) (Nat.lt_of_lt_of_le hb hbl.size)).trans ((hbl.cell (p := ⟨b, off + j * 7 + 4, none⟩) hb).trans (hat 4 _ rfl))
          have x5 : ∀ dd os, (grow (redrawn wr dd) os).cell? ⟨b, off + j * 7 + 5, none⟩ = some (.slice c2 d.sets.length c3) := fun dd os => ((below_regrown wr dd os).cell (p := ⟨b, off + j * 7 + 5, none⟩) (Nat.lt_of_lt_of_le hb hbl.size)).trans ((hbl.cell (p := ⟨b, off + j * 7 + 5, none⟩) hb).trans (hat 5 _ rfl))
          have x6 : ∀ dd os, (grow (redrawn wr dd) os).cell? ⟨b, off + j * 7 + 6, none⟩ = some (.int .i64 d.stamp) := fun dd os => ((below_regrown wr dd os).cell (p := ⟨b, off + j * 7 + 6, none⟩) (Nat.lt_of_lt_of_le hb hbl.size)).trans ((hbl.cell (p := ⟨b, off + j * 7 + 6, none⟩) hb).trans (hat 6 _ rfl))
          have y0 : ∀ dd os, (grow (redrawn wr dd) os).cell? ⟨b', off' + j * 7, none⟩ = some (.int .i64 d.id) := fun dd os => ((below_regrown wr dd os).cell (p := ⟨b', off' + j * 7, none⟩) (Nat.lt_of_lt_of_le hb' hbl.size)).trans ((hbl.cell (p := ⟨b', off' + j * 7, none⟩) hb').trans (hat' 0 _ rfl))
          have y1 : ∀ dd os, (grow (redrawn wr dd) os).cell? ⟨b', off' + j * 7 + 1, none⟩ = some (.int .i64 d.home) := fun dd os => ((below_regrown wr dd os).cell (p := ⟨b', off' + j * 7 + 1, none⟩) (Nat.lt_of_lt_of_le hb' hbl.size)).trans ((hbl.cell (p := ⟨b', off' + j * 7 + 1, none⟩) hb').trans (hat' 1 _ rfl))
          have y2 : ∀ dd os, (grow (redrawn wr dd) os).cell? ⟨b', off' + j * 7 + 2, none⟩ = some (.int .i64 d.phase) := fun dd os => ((below_regrown wr dd os).cell (p := ⟨b', off' + j * 7 + 2, none⟩) (Nat.lt_of_lt_of_le hb' hbl.size)).trans ((hbl.cell (p := ⟨b', off' + j * 7 + 2, none⟩) hb').trans (hat' 2 _ rfl))
          have y3 : ∀ dd os, (grow (redrawn wr dd) os).cell? ⟨b', off' + j * 7 + 3, none⟩ = some (.int .i64 d.count) := fun dd os => ((below_regrown wr dd os).cell (p := ⟨b', off' + j * 7 + 3, none⟩) (Nat.lt_of_lt_of_le hb' hbl.size)).trans ((hbl.cell (p := ⟨b', off' + j * 7 + 3, none⟩) hb').trans (hat' 3 _ rfl))
          have y4 : ∀ dd os, (grow (redrawn wr dd) os).cell? ⟨b', off' + j * 7 + 4, none⟩ = some (.slice b0 d.reads.length b1) := fun dd os => ((below_regrown wr dd os).cell (p := ⟨b', off' + j * 7 + 4, none⟩) (Nat.lt_of_lt_of_le hb' hbl.size)).trans ((hbl.cell (p := ⟨b', off' + j * 7 + 4, none⟩) hb').trans (hat' 4 _ rfl))
          have y5 : ∀ dd os, (grow (redrawn wr dd) os).cell? ⟨b', off' + j * 7 + 5, none⟩ = some (.slice b2 d.sets.length b3) := fun dd os => ((below_regrown wr dd os).cell (p := ⟨b', off' + j * 7 + 5, none⟩) (Nat.lt_of_lt_of_le hb' hbl.size)).trans ((hbl.cell (p := ⟨b', off' + j * 7 + 5, none⟩) hb').trans (hat' 5 _ rfl))
          have y6 : ∀ dd os, (grow (redrawn wr dd) os).cell? ⟨b', off' + j * 7 + 6, none⟩ = some (.int .i64 d.stamp) := fun dd os => ((below_regrown wr dd os).cell (p := ⟨b', off' + j * 7 + 6, none⟩) (Nat.lt_of_lt_of_le hb' hbl.size)).trans ((hbl.cell (p := ⟨b', off' + j * 7 + 6, none⟩) hb').trans (hat' 6 _ rfl))
          have cQ : ∀ dd os, Calls Tryz.prog 62 #[.agg #[.int .i64 d.id, .int .i64 d.home, .int .i64 d.phase, .int .i64 d.count, .slice c0 d.reads.length c1, .slice c2 d.sets.length c3, .int .i64 d.stamp], .agg #[.int .i64 d.id, .int .i64 d.home, .int .i64 d.phase, .int .i64 d.count, .slice b0 d.reads.length b1, .slice b2 d.sets.length b3, .int .i64 d.stamp]] (grow (redrawn wr dd) os) fun e w'' => e = .returned (.bool true) ∧ ∃ p : Regrown, w'' = grow (redrawn wr p.d) p.os := fun dd os => Calls.regrown_of (KT.eq _ c0 c1 c2 c3 b0 b1 b2 b3 d (ht d (List.mem_of_getElem? hd)) (KTk.later hrd (hbl.trans ((below_regrown wr dd os).mono hbl.size))) (KTk.later hrd' (hbl.trans ((below_regrown wr dd os).mono hbl.size))))
          have K : Hid (Below w.heap.size w wr) := hbl
          have jn : (j : Int) < (xs.length : Int) := by omega
          clear hat hat' hrd hrd' hbl h1 h2 ht hd
          go_wp2_with fail
          refine wp_region_quiet_below (by kernel_rfl) (by kernel_rfl) ?_
          repeat (go_big_quiet_step (exact cQ _ _))
          refine wpQuiet_nil ?_
          intro _ hw'
          obtain ⟨⟨dq, osq⟩, hw''⟩ := hw'
          subst hw''
          have bq := below_regrown wr dq osq
          go_wp2
          exact ⟨⟨j + 1, by omega, by simp, K.out.trans (bq.mono K.out.size)⟩, by simp [intOf]; omega⟩
    · obtain rfl : j = xs.length := by omega
      have hd : decide ((xs.length : Int) < (xs.length : Int)) = false := by simp
      clear h1 h2 ht
      go_wp2
      go_ret
      exact ⟨rfl, hbl⟩
def KTS.szs (xs : List tx.T7) : Nat := (xs.map fun d => tx.szT d).sum
set_option maxRecDepth 100000 in
set_option maxHeartbeats 4000000 in
theorem KTS.sz (w : World) (a : Option Addr) (cap : Nat) (xs : List tx.T7) (l : Nat) (hl0 : l ≤ 1048576) (hn : xs.length ≤ maxLen) (hl : ∀ d ∈ xs, tx.TL d) (hs : KTk.RdS w a xs) :
    Calls Tryz.prog 14 #[.slice a xs.length cap, .int .i64 (l : Int)] w fun e w' => e = .returned (.int .i64 (leftR l (xs.length + KTS.szs xs))) ∧ Below w.heap.size w w' := by
  have hn' := hn
  unfold maxLen at hn'
  by_cases h0 : xs.length ≤ l
  · have d0 : decide ((l : Int) - (xs.length : Int) < 0) = false := by simp; omega
    go_enter Tryz.func14, Tryz.ntmps14
    go_wp2
    go_loopw [1, 5] (fun v1 v5 wr => ∃ j : Nat, j ≤ xs.length ∧ v5 = .int .i64 j ∧ xs.length + KTS.szs (xs.take j) ≤ l ∧ v1 = .int .i64 ((l - (xs.length + KTS.szs (xs.take j)) : Nat) : Int) ∧ Below w.heap.size w wr) (fun _ v5 _ => xs.length - (intOf v5).toNat)
    case atStart => exact ⟨0, Nat.zero_le _, rfl, by simpa [KTS.szs] using h0, by simp [KTS.szs]; try omega, Below.refl _ _⟩
    case round =>
      obtain ⟨j, hj, rfl, hle, rfl, hbl⟩ := hrel
      have KL : Hid (xs.length + KTS.szs (xs.take j) ≤ l) := hle
      by_cases hlt : j < xs.length
      · obtain ⟨d, hd⟩ : ∃ d, xs[j]? = some d := ⟨_, List.getElem?_eq_getElem hlt⟩
        rcases hs with hs | ⟨b, off, rfl, hb, h1⟩
        · rw [hs] at hlt; simp at hlt
        obtain ⟨⟨c0, c1, c2, c3⟩, hat, hrd⟩ := h1 j d hd
        have e0 : wr.cell? ⟨b, off + j * 7, none⟩ = some (.int .i64 d.id) := (hbl.cell (p := ⟨b, off + j * 7, none⟩) hb).trans (hat 0 _ rfl)
        have e1 : wr.cell? ⟨b, off + j * 7 + 1, none⟩ = some (.int .i64 d.home) := (hbl.cell (p := ⟨b, off + j * 7 + 1, none⟩) hb).trans (hat 1 _ rfl)
        have e2 : wr.cell? ⟨b, off + j * 7 + 2, none⟩ = some (.int .i64 d.phase) := (hbl.cell (p := ⟨b, off + j * 7 + 2, none⟩) hb).trans (hat 2 _ rfl)
        have e3 : wr.cell? ⟨b, off + j * 7 + 3, none⟩ = some (.int .i64 d.count) := (hbl.cell (p := ⟨b, off + j * 7 + 3, none⟩) hb).trans (hat 3 _ rfl)
        have e4 : wr.cell? ⟨b, off + j * 7 + 4, none⟩ = some (.slice c0 d.reads.length c1) := (hbl.cell (p := ⟨b, off + j * 7 + 4, none⟩) hb).trans (hat 4 _ rfl)
        have e5 : wr.cell? ⟨b, off + j * 7 + 5, none⟩ = some (.slice c2 d.sets.length c3) := (hbl.cell (p := ⟨b, off + j * 7 + 5, none⟩) hb).trans (hat 5 _ rfl)
        have e6 : wr.cell? ⟨b, off + j * 7 + 6, none⟩ = some (.int .i64 d.stamp) := (hbl.cell (p := ⟨b, off + j * 7 + 6, none⟩) hb).trans (hat 6 _ rfl)
        have hz := KT.szl wr c0 c1 c2 c3 d (l - (xs.length + KTS.szs (xs.take j))) (by omega) (hl d (List.mem_of_getElem? hd))
        have HST : Hid (KTS.szs (xs.take (j + 1)) = KTS.szs (xs.take j) + tx.szT d) := by
          unfold Hid KTS.szs
          rw [List.map_take, List.map_take]
          exact sum_take_succ (by rw [List.getElem?_map, hd]; rfl)
        have HLE : Hid (KTS.szs (xs.take (j + 1)) ≤ KTS.szs xs) := by unfold Hid KTS.szs; rw [List.map_take]; exact sum_take_le _ _
        have KB : Hid (Below w.heap.size w wr) := hbl
        have jn : (j : Int) < (xs.length : Int) := by omega
        generalize hLL : KTS.szs (xs.take j) = LL at *
        generalize tx.szT d = m at *
        clear h1 hbl hl hle hat hrd hd
        by_cases hfit : m ≤ l - (xs.length + LL)
        · rw [leftR_yes hfit] at hz
          have d1 : decide (((l - (xs.length + LL) - m : Nat) : Int) < 0) = false := by simp
          go_wp2_with fail
          refine hz.mono ?_
          clear hz
          rintro e w1 ⟨rfl, b1⟩
          go_wp2
          have h1 := KL.out
          refine ⟨⟨j + 1, by omega, by simp, by rw [HST.out]; omega, by rw [HST.out]; congr 2; omega, KB.out.trans (b1.mono KB.out.size)⟩, by simp [intOf]; omega⟩
        · rw [leftR_no hfit] at hz
          go_wp2_with fail
          refine hz.mono ?_
          clear hz
          rintro e w1 ⟨rfl, b1⟩
          go_wp2
          go_ret
          have h2 := HST.out
          have h3 := HLE.out
          refine ⟨by rw [leftR_no (by omega)]; rfl, KB.out.trans (b1.mono KB.out.size)⟩
      · obtain rfl : j = xs.length := by omega
        have hd : decide ((xs.length : Int) < (xs.length : Int)) = false := by simp
        rw [List.take_length] at hle ⊢
        clear hs hl KL
        go_wp2
        go_ret
        exact ⟨by rw [leftR_yes hle]; rfl, hbl⟩
  · have d0 : decide ((l : Int) - (xs.length : Int) < 0) = true := by simp; omega
    go_enter Tryz.func14, Tryz.ntmps14
    go_wp2
    go_ret
    exact ⟨by rw [leftR_no (by omega)]; rfl, Below.refl _ _⟩
end Go.Proofs.YtphpcgmnljhimaaGreat
namespace Go.Proofs.YtphpcgmnljhimaaGreat
open Go.RowKit
def OwnQ (w : World) (base : Nat) (a : Option Addr) (n : Nat) (zss : List (List Int)) (g : Nat → Nat) : Prop :=
  (a = none ∧ n = 0 ∧ zss = []) ∨ ∃ b, a = some ⟨b, 0, none⟩ ∧ base ≤ b ∧ b < w.heap.size ∧ OwnP w base b n zss g
theorem OwnQ.sl {w : World} {base : Nat} {a : Option Addr} {n : Nat} {zss : List (List Int)} {g : Nat → Nat} (h : OwnQ w base a n zss g) : SlP w w.heap.size a n zss := by
  rcases h with ⟨rfl, rfl, rfl⟩ | ⟨b, rfl, _, hb, ho⟩
  · exact ⟨rfl, .inl rfl⟩
  · exact ho.sl hb
theorem OwnQ.later {w w' : World} {base : Nat} {a : Option Addr} {n : Nat} {zss : List (List Int)} {g : Nat → Nat} (h : OwnQ w base a n zss g) (hb : Below w.heap.size w w') : OwnQ w' base a n zss g := by
  rcases h with h | ⟨b, rfl, hb1, hb2, ho⟩
  · exact .inl h
  · exact .inr ⟨b, rfl, hb1, Nat.lt_of_lt_of_le hb2 hb.size, ho.later hb hb2⟩
theorem OwnQ.low {w : World} {base : Nat} {a : Option Addr} {n : Nat} {zss : List (List Int)} {g : Nat → Nat} (h : OwnQ w base a n zss g) : ∀ i, i < n → base ≤ g i := by
  rcases h with ⟨_, rfl, _⟩ | ⟨b, rfl, _, _, ho⟩
  · intro i hi; omega
  · exact ho.low
theorem OwnQ.lt {w : World} {base : Nat} {a : Option Addr} {n : Nat} {zss : List (List Int)} {g : Nat → Nat} (h : OwnQ w base a n zss g) : ∀ i, i < n → g i < w.heap.size := by
  rcases h with ⟨_, rfl, _⟩ | ⟨b, rfl, _, _, ho⟩
  · intro i hi; omega
  · exact ho.lt
theorem OwnQ.kept {w w' : World} {base : Nat} {a : Option Addr} {n : Nat} {zss : List (List Int)} {g : Nat → Nat} (h : OwnQ w base a n zss g) (hs : w.heap.size ≤ w'.heap.size) (eb : ∀ b, a = some ⟨b, 0, none⟩ → w'.heap[b]? = w.heap[b]?) (eg : ∀ i, i < n → w'.heap[g i]? = w.heap[g i]?) : OwnQ w' base a n zss g := by
  rcases h with h | ⟨b, rfl, hb1, hb2, ho⟩
  · exact .inl h
  · exact .inr ⟨b, rfl, hb1, Nat.lt_of_lt_of_le hb2 hs, ho.of_blocks hs (eb b rfl) eg⟩
theorem OwnQ.lower {w : World} {base base' : Nat} {a : Option Addr} {n : Nat} {zss : List (List Int)} {g : Nat → Nat} (h : OwnQ w base a n zss g) (hb : base' ≤ base) : OwnQ w base' a n zss g := by
  rcases h with h | ⟨b, e, h1, h2, o⟩
  · exact .inl h
  · exact .inr ⟨b, e, Nat.le_trans hb h1, h2, ⟨o.len, o.cell, fun i hi => Nat.le_trans hb (o.low i hi), o.lt, o.ne, o.nums, o.room, o.inj⟩⟩
end Go.Proofs.YtphpcgmnljhimaaGreat
namespace Go.Proofs.YtphpcgmnljhimaaGreat
open Go.RowKit
open Go.Sort (grow)
set_option maxHeartbeats 1000000 in
theorem toPlace_any (w : World) (a : Option Addr) (n cap : Nat) (zs : List Int) (hn : n ≤ 1048576) (hs : SlN w w.heap.size a n zs) : Calls Tryz.prog 49 #[.agg #[.slice a n cap]] w fun e w' =>
    ∃ g, e = .returned (.agg #[.slice (some ⟨g, 0, none⟩) n n]) ∧ Below w.heap.size w w' ∧ w.heap.size ≤ g ∧ g < w'.heap.size ∧ NumsAt w' g 0 zs ∧ Room w' g n := by
  go_enter Tryz.func49, Tryz.ntmps49
  go_wp2_with fail
  obtain ⟨W, hW⟩ : ∃ W, W = ((w.alloc (.cells #[.slice a n cap] 76)).alloc (.cells #[.slice none 0 0] 65)).alloc (.cells #[.slice none 0 0] 65) := ⟨_, rfl⟩
  have bW : Below w.heap.size w W := by rw [hW]; exact (((Below.refl _ _).alloc (Nat.le_refl _) _).alloc (by simp) _).alloc (by simp; omega) _
  have zW : W.heap.size = w.heap.size + 3 := by rw [hW]; simp
  have c1 : W.cell? ⟨w.heap.size + 1, 0, none⟩ = some (.slice none 0 0) := by rw [hW]; go_simp
  have c2 : W.cell? ⟨w.heap.size + 2, 0, none⟩ = some (.slice none 0 0) := by rw [hW]; go_simp
  have f1 : W.frozen? ⟨w.heap.size + 1, 0, none⟩ = false := by rw [hW]; go_simp
  have f2 : W.frozen? ⟨w.heap.size + 2, 0, none⟩ = false := by rw [hW]; go_simp
  rw [← hW]
  clear hW
  refine (toInt64S_any W a n cap zs hn (hs.later bW)).mono ?_
  rintro e w1 ⟨rfl, b1, l1, n1, r1⟩
  have c1 := (b1.cell (p := ⟨w.heap.size + 1, 0, none⟩) (by simp; omega)).trans c1
  have c2 := (b1.cell (p := ⟨w.heap.size + 2, 0, none⟩) (by simp; omega)).trans c2
  have f1 := (b1.frozen (p := ⟨w.heap.size + 1, 0, none⟩) (by simp; omega)).trans f1
  have f2 := (b1.frozen (p := ⟨w.heap.size + 2, 0, none⟩) (by simp; omega)).trans f2
  have K : Hid (Below w.heap.size w w1 ∧ W.heap.size < w1.heap.size ∧ NumsAt w1 W.heap.size 0 zs ∧ Room w1 W.heap.size n ∧ W.heap.size = w.heap.size + 3) := ⟨bW.trans (b1.mono bW.size), l1, n1, r1, zW⟩
  clear bW zW b1 l1 n1 r1 hs
  generalize W.heap.size = g at *
  go_wp2
  refine bodyPost_ret (v := .agg #[.slice (some ⟨g, 0, none⟩) n n]) (by simp [results, Tryz.results49, go_sem, c1]) rfl ?_
  obtain ⟨b1, l1, n1, r1, zW⟩ := K.out
  have far : ∀ (V : World) (q o : Nat) (v : Value), q ≠ g → (V.setCell ⟨q, o, none⟩ v).heap[g]? = V.heap[g]? := fun V q o v h => Below.heap_setCell _ _ _ _ (fun e => h e.symm)
  have he := (far (w1.setCell ⟨w.heap.size + 2, 0, none⟩ (.slice (some ⟨g, 0, none⟩) n n)) (w.heap.size + 1) 0 (.slice (some ⟨g, 0, none⟩) n n) (by omega)).trans (far w1 (w.heap.size + 2) 0 (.slice (some ⟨g, 0, none⟩) n n) (by omega))
  exact ⟨g, rfl, (b1.setCell (p := ⟨w.heap.size + 2, 0, none⟩) (by simp) _).setCell (p := ⟨w.heap.size + 1, 0, none⟩) (by simp) _, by omega, by simpa [World.setCell] using l1, n1.of_block he, r1.of_block he⟩
theorem make_places (n : Nat) (hn : n ≤ 1048576) (w : World) : (Instr.makeSlice 29 (.int .i64 (n : Int)) (.int .i64 (n : Int))).run Tryz.prog w = .ok (.slice (some ⟨w.heap.size, 0, none⟩) n n) (w.alloc (.cells (madeCells #[.slice none 0 0] n) 65)) := by
  have info : (Tryz.prog.info? 65).map (fun i => (i.zero, i.size, i.bytes)) = some (some (.agg #[.slice none 0 0]), 1, 24) := by kernel_rfl
  obtain ⟨i, hi, hzz⟩ := Option.map_eq_some_iff.1 info
  simp only [Prod.mk.injEq] at hzz
  obtain ⟨hz, hs, hb⟩ := hzz
  have := run_make (P := Tryz.prog) w 29 65 i _ Tryz.underlying29 hi hz .i64 .i64 (n : Int) (n : Int) (by omega) (by omega) (by rw [hb]; omega) (by omega)
  rw [hs] at this
  simpa [Value.cells] using this
set_option maxHeartbeats 2000000 in
theorem toPlaceS_any (w : World) (a : Option Addr) (n cap : Nat) (zss : List (List Int)) (hn : n ≤ 1048576) (hl : ∀ zs ∈ zss, zs.length ≤ 1048576) (hs : SlP w w.heap.size a n zss) : Calls Tryz.prog 18 #[.slice a n cap] w fun e w' =>
    ∃ g, e = .returned (.slice (some ⟨w.heap.size, 0, none⟩) n n) ∧ Below w.heap.size w w' ∧ w.heap.size < w'.heap.size ∧ OwnP w' w.heap.size w.heap.size n zss g := by
  obtain ⟨hx, hs⟩ := hs
  have hmk := make_places n hn
  go_enter Tryz.func18, Tryz.ntmps18
  go_wp2
  go_loopw [4] (fun i wr => ∃ (j : Nat) (g : Nat → Nat), j ≤ n ∧ i = .int .i64 j ∧ Below w.heap.size w wr ∧ w.heap.size < wr.heap.size ∧ Room wr w.heap.size n ∧ OwnP wr w.heap.size w.heap.size j (zss.take j) g) (fun i _ => n - (intOf i).toNat)
  case atStart => exact ⟨0, fun _ => 0, Nat.zero_le _, rfl, (Below.refl _ _).alloc (Nat.le_refl _) _, by simp, room_made _ _ _ _, by rw [List.take_zero]; exact OwnP.nil _ _ _ _⟩
  case round =>
    obtain ⟨j, g, hj, rfl, hbl, hsz, hro, hown⟩ := hrel
    by_cases hlt : j < n
    · rcases hs with hs | ⟨b, off, rfl, hb, h1⟩
      · omega
      · obtain ⟨a', cap', hc, hsl, _⟩ := h1 j _ (atP_of (by omega))
        have c := (hbl.cell (p := ⟨b, off + j, none⟩) hb).trans hc
        have hcl := toPlace_any wr a' (atP zss j).length cap' (atP zss j) (hl _ (List.mem_of_getElem? (atP_of (by omega)))) ((hsl.below hbl).mono hbl.size)
        have K : Hid (Room wr w.heap.size n ∧ OwnP wr w.heap.size w.heap.size j (zss.take j) g ∧ Below w.heap.size w wr ∧ w.heap.size < wr.heap.size ∧ zss.take (j + 1) = zss.take j ++ [atP zss j]) := ⟨hro, hown, hbl, hsz, by rw [List.take_add_one, atP_of (by omega)]; rfl⟩
        clear hro hown hbl hmk h1 hx hl hsl hc
        go_wp2_with fail
        refine hcl.mono ?_
        clear hcl
        rintro e w1 ⟨q, rfl, b1, lq, hq, hnu, hrm⟩
        obtain ⟨v, d, f⟩ := (K.out.1.below b1 K.out.2.2.2.1) j hlt
        have K1 : Hid (Below wr.heap.size wr w1 ∧ wr.heap.size ≤ q ∧ q < w1.heap.size ∧ NumsAt w1 q 0 (atP zss j) ∧ Room w1 q (atP zss j).length) := ⟨b1, lq, hq, hnu, hrm⟩
        clear b1 lq hq hnu hrm
        go_wp2
        obtain ⟨hro, hown, hbl, hsz, htk⟩ := K.out
        obtain ⟨b1, lq, hq, hnu, hrm⟩ := K1.out
        have far : ∀ (V : World) (x o : Nat) (v : Value), x ≠ w.heap.size → (V.setCell ⟨w.heap.size, o, none⟩ v).heap[x]? = V.heap[x]? := fun V x o v h => Below.heap_setCell _ _ _ _ h
        have hsz1 : w.heap.size < w1.heap.size := Nat.lt_of_lt_of_le hsz b1.size
        have ho1 : OwnP (w1.setCell ⟨w.heap.size, j, none⟩ (.slice (some ⟨q, 0, none⟩) (atP zss j).length (atP zss j).length)) w.heap.size w.heap.size j (zss.take j) g := by
          have h1 := hown.later b1 hsz
          refine ⟨h1.len, fun i zs e => ?_, h1.low, fun i hi => by simpa [World.setCell] using h1.lt i hi, h1.ne, fun i zs e => (h1.nums i zs e).of_block (far _ _ _ _ (h1.ne i ?_)), fun i zs e => (h1.room i zs e).of_block (far _ _ _ _ (h1.ne i ?_)), h1.inj⟩
          · obtain ⟨cp, hcc, hcp⟩ := h1.cell i zs e
            have hi : i < j := by have := (List.getElem?_eq_some_iff.1 e).1; have := h1.len; omega
            exact ⟨cp, by rw [cell_set_other (by omega)]; exact hcc, hcp⟩
          · have := (List.getElem?_eq_some_iff.1 e).1; have := h1.len; omega
          · have := (List.getElem?_eq_some_iff.1 e).1; have := h1.len; omega
        have ho2 := ho1.snoc (zs := atP zss j) (q := q) (cap := (atP zss j).length) (cell_set_same d) (Nat.le_refl _) (by omega) (by simpa [World.setCell] using hq) (by omega) (hnu.of_block (far _ _ _ _ (by omega))) (hrm.of_block (far _ _ _ _ (by omega))) (fun i hi e => by have := hown.lt i hi; omega)
        rw [← htk] at ho2
        exact ⟨⟨j + 1, _, by omega, by simp, (hbl.trans (b1.mono hbl.size)).setCell (p := ⟨w.heap.size, j, none⟩) (Nat.le_refl _) _, by simpa [World.setCell] using hsz1, (hro.below b1 hsz).set _, ho2⟩, by simp [intOf]; omega⟩
    · have : j = n := by omega
      subst this
      have hd : decide (j < j) = false := by simp
      rw [← hx, List.take_length, hx] at hown
      have K : Hid (OwnP wr w.heap.size w.heap.size j zss g) := hown
      clear hown hs hro
      go_wp2
      go_ret
      exact ⟨g, rfl, hbl, hsz, K.out⟩
set_option maxHeartbeats 1000000 in
theorem eqPlace_same (w : World) (a a' : Option Addr) (n cap cap' : Nat) (zs : List Int) (hn : n ≤ maxLen) (h1 : SlN w w.heap.size a n zs) (h2 : SlN w w.heap.size a' n zs) :
    Calls Tryz.prog 60 #[.agg #[.slice a n cap], .agg #[.slice a' n cap']] w fun e w' => e = .returned (.bool true) ∧ Below w.heap.size w w' := by
  go_enter Tryz.func60, Tryz.ntmps60
  go_wp2_with fail
  have b0 : Below w.heap.size w ((w.alloc (.cells #[.slice a n cap] 65)).alloc (.cells #[.slice a' n cap'] 65)) := ((Below.refl _ _).alloc (Nat.le_refl _) _).alloc (by simp) _
  refine (eqInt64S_any _ a a' n cap cap' zs hn (h1.later b0) (h2.later b0)).mono ?_
  rintro e w' ⟨rfl, b1⟩
  go_wp2
  go_ret
  exact ⟨rfl, b0.trans (b1.mono b0.size)⟩
set_option maxHeartbeats 2000000 in
theorem eqPlaceS_any (w : World) (a a' : Option Addr) (n cap cap' : Nat) (zss : List (List Int)) (hn : n ≤ maxLen) (hl : ∀ zs ∈ zss, zs.length ≤ maxLen) (h1 : SlP w w.heap.size a n zss) (h2 : SlP w w.heap.size a' n zss) :
    Calls Tryz.prog 29 #[.slice a n cap, .slice a' n cap'] w fun e w' => e = .returned (.bool true) ∧ Below w.heap.size w w' := by
  unfold maxLen at hn
  obtain ⟨hx, h1⟩ := h1
  obtain ⟨_, h2⟩ := h2
  go_enter Tryz.func29, Tryz.ntmps29
  go_wp2
  go_loopw [5] (fun i wr => ∃ k : Nat, k ≤ n ∧ i = .int .i64 k ∧ Below w.heap.size w wr) (fun i _ => n - (intOf i).toNat)
  case atStart => exact ⟨0, Nat.zero_le _, rfl, Below.refl _ _⟩
  case round =>
    obtain ⟨k, hk, rfl, hbl⟩ := hrel
    by_cases hlt : k < n
    · rcases h1 with h1 | ⟨b, off, rfl, hb, h1⟩
      · omega
      · rcases h2 with h2 | ⟨b', off', rfl, hb', h2⟩
        · omega
        · obtain ⟨a1, k1, d1, s1, _⟩ := h1 k _ (atP_of (by omega))
          obtain ⟨a2, k2, d2, s2, _⟩ := h2 k _ (atP_of (by omega))
          have hll := hl _ (List.mem_of_getElem? (atP_of (zss := zss) (i := k) (by omega)))
          have hbW : b < wr.heap.size := Nat.lt_of_lt_of_le hb hbl.size
          have hbW' : b' < wr.heap.size := Nat.lt_of_lt_of_le hb' hbl.size
          have e1 := (hbl.cell (p := ⟨b, off + k, none⟩) hb).trans d1
          have e2 := (hbl.cell (p := ⟨b', off' + k, none⟩) hb').trans d2
          have c1 : ∀ d os, (grow (redrawn wr d) os).cell? ⟨b, off + k, none⟩ = some (.slice a1 (atP zss k).length k1) := fun d os => ((below_regrown wr d os).cell (p := ⟨b, off + k, none⟩) hbW).trans e1
          have c2 : ∀ d os, (grow (redrawn wr d) os).cell? ⟨b', off' + k, none⟩ = some (.slice a2 (atP zss k).length k2) := fun d os => ((below_regrown wr d os).cell (p := ⟨b', off' + k, none⟩) hbW').trans e2
          have t1 : SlN wr wr.heap.size a1 (atP zss k).length (atP zss k) := (s1.below hbl).mono hbl.size
          have t2 : SlN wr wr.heap.size a2 (atP zss k).length (atP zss k) := (s2.below hbl).mono hbl.size
          have cQ : ∀ d os, Calls Tryz.prog 60 #[.agg #[.slice a1 (atP zss k).length k1], .agg #[.slice a2 (atP zss k).length k2]] (grow (redrawn wr d) os) fun e w'' => e = .returned (.bool true) ∧ ∃ p : Regrown, w'' = grow (redrawn wr p.d) p.os := fun d os => Calls.regrown_of (eqPlace_same _ a1 a2 _ k1 k2 (atP zss k) hll (t1.later (below_regrown wr d os)) (t2.later (below_regrown wr d os)))
          have K : Hid (Below w.heap.size w wr) := hbl
          clear t1 t2 hbl h1 h2 s1 s2 e1 e2 d1 d2 hl hll hx
          go_wp2_with fail
          refine wp_region_quiet_below (by kernel_rfl) (by kernel_rfl) ?_
          repeat (go_big_quiet_step (exact cQ _ _))
          refine wpQuiet_nil ?_
          intro _ hw'
          obtain ⟨⟨dq, osq⟩, hw''⟩ := hw'
          subst hw''
          have bq := below_regrown wr dq osq
          go_wp2
          exact ⟨⟨k + 1, by omega, by simp, K.out.trans (bq.mono K.out.size)⟩, by simp [intOf]; omega⟩
    · have : k = n := by omega
      subst this
      have hd : decide (k < k) = false := by simp
      clear h1 h2
      go_wp2
      go_ret
      exact ⟨rfl, hbl⟩
end Go.Proofs.YtphpcgmnljhimaaGreat
namespace Go.Proofs.YtphpcgmnljhimaaGreat
open Go.RowKit
structure C6 where
  config : Int
  clock : Int
  places : List (List Int)
  machines : List M4
  txs : List tx.T7
  lost : Bool
def KP.Ow (w : World) (B : Nat) (a : Option Addr) (zss : List (List Int)) (P : Nat → Prop) : Prop := (∃ g, OwnQ w B a zss.length zss g ∧ (∀ b, a = some ⟨b, 0, none⟩ → P b) ∧ (∀ i, i < zss.length → P (g i))) ∧ (∀ q, P q → B ≤ q ∧ q < w.heap.size)
theorem KP.Ow.of {w : World} {B : Nat} {a : Option Addr} {zss : List (List Int)} {P : Nat → Prop} (h : KP.Ow w B a zss P) {q : Nat} (hq : P q) : B ≤ q ∧ q < w.heap.size := h.2 q hq
theorem KP.Ow.sl {w : World} {B : Nat} {a : Option Addr} {zss : List (List Int)} {P : Nat → Prop} (h : KP.Ow w B a zss P) : SlP w w.heap.size a zss.length zss := by obtain ⟨⟨g, h, _⟩, _⟩ := h; exact h.sl
theorem KP.Ow.keep {w w' : World} {B : Nat} {a : Option Addr} {zss : List (List Int)} {P : Nat → Prop} (h : KP.Ow w B a zss P) (hs : w.heap.size ≤ w'.heap.size) (hk : ∀ q, P q → w'.heap[q]? = w.heap[q]?) : KP.Ow w' B a zss P := by
  obtain ⟨⟨g, h1, h2, h3⟩, h4⟩ := h
  exact ⟨⟨g, h1.kept hs (fun b e => hk b (h2 b e)) (fun i hi => hk _ (h3 i hi)), h2, h3⟩, fun q hq => ⟨(h4 q hq).1, Nat.lt_of_lt_of_le (h4 q hq).2 hs⟩⟩
theorem KP.Ow.later {w w' : World} {B : Nat} {a : Option Addr} {zss : List (List Int)} {P : Nat → Prop} (h : KP.Ow w B a zss P) (hb : Below w.heap.size w w') : KP.Ow w' B a zss P := h.keep hb.size (fun q hq => hb.block q (h.of hq).2)
theorem KP.to (w : World) (a : Option Addr) (cap : Nat) (zss : List (List Int)) (hn : zss.length ≤ 1048576) (hl : ∀ zs ∈ zss, zs.length ≤ 1048576) (hs : SlP w w.heap.size a zss.length zss) : Calls Tryz.prog 18 #[.slice a zss.length cap] w fun e w' =>
    ∃ P, e = .returned (.slice (some ⟨w.heap.size, 0, none⟩) zss.length zss.length) ∧ KP.Ow w' w.heap.size (some ⟨w.heap.size, 0, none⟩) zss P ∧ Below w.heap.size w w' := by
  refine (toPlaceS_any w a zss.length cap zss hn hl hs).mono ?_
  rintro e w' ⟨g, rfl, b, hlt, ho⟩
  have hq : OwnQ w' w.heap.size (some ⟨w.heap.size, 0, none⟩) zss.length zss g := .inr ⟨w.heap.size, rfl, Nat.le_refl _, hlt, ho⟩
  refine ⟨fun q => q = w.heap.size ∨ ∃ i, i < zss.length ∧ g i = q, rfl, ⟨⟨g, hq, fun b e => .inl (by cases e; rfl), fun i hi => .inr ⟨i, hi, rfl⟩⟩, fun q h => ?_⟩, b⟩
  rcases h with rfl | ⟨i, hi, rfl⟩
  · exact ⟨Nat.le_refl _, hlt⟩
  · exact ⟨hq.low i hi, hq.lt i hi⟩
structure KCl.Rd (X : World) (a1 : Option Addr) (_ : Nat) (a2 : Option Addr) (_ : Nat) (a3 : Option Addr) (_ : Nat) (k : C6) : Prop where
  p : SlP X X.heap.size a1 k.places.length k.places
  m : KMk.RdS X a2 k.machines
  t : KTk.RdS X a3 k.txs
theorem KCl.Rd.later {X Y : World} {a1 : Option Addr} {c1 : Nat} {a2 : Option Addr} {c2 : Nat} {a3 : Option Addr} {c3 : Nat} {k : C6} (h : KCl.Rd X a1 c1 a2 c2 a3 c3 k) (b : Below X.heap.size X Y) : KCl.Rd Y a1 c1 a2 c2 a3 c3 k := ⟨h.p.later b, h.m.later b, h.t.later b⟩
def KCl.Ow (w : World) (B : Nat) (a1 : Option Addr) (_ : Nat) (a2 : Option Addr) (_ : Nat) (a3 : Option Addr) (_ : Nat) (k : C6) (P : Nat → Prop) : Prop := (∃ P1 P2 P3, KP.Ow w B a1 k.places P1 ∧ KMk.OwS w B a2 k.machines P2 ∧ KTk.OwS w B a3 k.txs P3 ∧ (∀ q, P1 q → P q) ∧ (∀ q, P2 q → P q) ∧ (∀ q, P3 q → P q) ∧ (∀ q, P1 q → ¬ P2 q) ∧ (∀ q, P1 q → ¬ P3 q) ∧ (∀ q, P2 q → ¬ P3 q)) ∧ (∀ q, P q → B ≤ q ∧ q < w.heap.size)
theorem KCl.Ow.of {w : World} {B : Nat} {a1 : Option Addr} {c1 : Nat} {a2 : Option Addr} {c2 : Nat} {a3 : Option Addr} {c3 : Nat} {k : C6} {P : Nat → Prop} (h : KCl.Ow w B a1 c1 a2 c2 a3 c3 k P) {q : Nat} (hq : P q) : B ≤ q ∧ q < w.heap.size := h.2 q hq
theorem KCl.Ow.sl {w : World} {B : Nat} {a1 : Option Addr} {c1 : Nat} {a2 : Option Addr} {c2 : Nat} {a3 : Option Addr} {c3 : Nat} {k : C6} {P : Nat → Prop} (h : KCl.Ow w B a1 c1 a2 c2 a3 c3 k P) : KCl.Rd w a1 c1 a2 c2 a3 c3 k := by obtain ⟨⟨_, _, _, h1, h2, h3, _⟩, _⟩ := h; exact ⟨h1.sl, h2.sl, h3.sl⟩
theorem KCl.Ow.keep {w : World} {B : Nat} {a1 : Option Addr} {c1 : Nat} {a2 : Option Addr} {c2 : Nat} {a3 : Option Addr} {c3 : Nat} {k : C6} {P : Nat → Prop} {w' : World} (h : KCl.Ow w B a1 c1 a2 c2 a3 c3 k P) (hs : w.heap.size ≤ w'.heap.size) (hk : ∀ q, P q → w'.heap[q]? = w.heap[q]?) : KCl.Ow w' B a1 c1 a2 c2 a3 c3 k P := by
  obtain ⟨⟨P1, P2, P3, h1, h2, h3, p1, p2, p3, h4⟩, h5⟩ := h
  exact ⟨⟨P1, P2, P3, h1.keep hs (fun q hq => hk q (p1 q hq)), h2.keep hs (fun q hq => hk q (p2 q hq)), h3.keep hs (fun q hq => hk q (p3 q hq)), p1, p2, p3, h4⟩, fun q hq => ⟨(h5 q hq).1, Nat.lt_of_lt_of_le (h5 q hq).2 hs⟩⟩
theorem KCl.Ow.later {w : World} {B : Nat} {a1 : Option Addr} {c1 : Nat} {a2 : Option Addr} {c2 : Nat} {a3 : Option Addr} {c3 : Nat} {k : C6} {P : Nat → Prop} {w' : World} (h : KCl.Ow w B a1 c1 a2 c2 a3 c3 k P) (hb : Below w.heap.size w w') : KCl.Ow w' B a1 c1 a2 c2 a3 c3 k P := h.keep hb.size (fun q hq => hb.block q (h.of hq).2)
structure KCl.S (k : C6) : Prop where
  p : k.places.length ≤ 1048576
  ps : ∀ zs ∈ k.places, zs.length ≤ 1048576
  m : k.machines.length ≤ 1048576
  ms : ∀ m ∈ k.machines, MT m
  t : k.txs.length ≤ 1048576
  ts : ∀ t ∈ k.txs, KT.S t
def R4.val (r : R4) (a : Option Addr) (cap : Nat) : Value := .agg #[.int .i64 r.kind, .int .i64 r.tx, .int .i64 r.region, .slice a r.sets.length cap]
def K2.val (k : K2) (a : Option Addr) (cap : Nat) : Value := .agg #[.int .i64 k.region, .slice a k.cells.length cap]
def FirstAt (f : Nat → Bool) (n : Nat) (i : Int) : Prop := (i = -1 ∧ ∀ j, j < n → f j = false) ∨ ∃ k : Nat, i = (k : Int) ∧ k < n ∧ f k = true ∧ ∀ j, j < k → f j = false
theorem first_has {f : Nat → Bool} {n : Nat} {i : Int} (h : FirstAt f n i) : decide (0 ≤ i) = !((List.range n).all fun j => !f j) := by
  rcases h with ⟨rfl, h⟩ | ⟨k, rfl, hk, h, _⟩
  · have : ((List.range n).all fun j => !f j) = true := by
      rw [List.all_eq_true]; intro j hj; rw [h j (List.mem_range.1 hj)]; rfl
    rw [this]; rfl
  · have : ((List.range n).all fun j => !f j) = false := by
      rw [List.all_eq_false]; exact ⟨k, List.mem_range.2 hk, by simp [h]⟩
    rw [this]; simp
theorem hidOf {p : Prop} (h : p) : Hid p := h
def idxLogF (w : World) (n : Nat) (rs : List R4)  (f : Nat → Bool) : Prop :=
  ∀ (X : World) (i : Nat) (a' : Option Addr) (cap' : Nat), Below w.heap.size w X → i < n → Sl X X.heap.size a' (atR rs i).sets.length (atR rs i).sets → Calls Tryz.prog 192 #[(atR rs i).val a' cap'] X fun e w' => e = .returned (.bool (f i)) ∧ Below X.heap.size X w'
set_option maxHeartbeats 2000000 in
theorem idxLog (w : World) (a : Option Addr) (n cap : Nat) (rs : List R4)  (f : Nat → Bool) (hn : n ≤ maxLen) (hs : SlR w w.heap.size a n rs) (hf : idxLogF w n rs  f) :
    Calls Tryz.prog 214 #[.slice a n cap, .func (.func 192) #[] #[]] w fun e w' => (∃ i : Int, e = .returned (.int .i64 i) ∧ FirstAt f n i) ∧ Below w.heap.size w w' := by
  unfold maxLen at hn
  obtain ⟨hx, hs⟩ := hs
  have HF := hidOf hf
  clear hf
  go_enter Tryz.func214, Tryz.ntmps214
  go_wp2
  go_loopw [8] (fun v wr => ∃ j : Nat, j ≤ n ∧ v = .int .i64 j ∧ Below w.heap.size w wr ∧ ∀ i, i < j → f i = false) (fun v _ => n - (intOf v).toNat)
  case atStart => exact ⟨0, Nat.zero_le _, rfl, Below.refl _ _, fun i h => absurd h (by omega)⟩
  case round =>
    obtain ⟨j, hj, rfl, hbl, hall⟩ := hrel
    by_cases hlt : j < n
    · rcases hs with hs | ⟨b, off, rfl, hb, h1⟩
      · omega
      · have hr := (h1 j _ (atR_of (by omega))).below hbl hb
        have c0 := hr.c0
        have c1 := hr.c1
        have c2 := hr.c2
        obtain ⟨a', cap', c3, hsl, hcp⟩ := hr.c3
        have KA : Hid ((∀ i, i < j → f i = false) ∧ Below w.heap.size w wr) := ⟨hall, hbl⟩
        have hw := HF.out wr j a' cap' hbl hlt (hsl.mono hbl.size)
        simp only [R4.val] at hw
        clear h1 hr hall hsl hbl hcp
        generalize (atR rs j).sets.length = ln at *
        cases hp : f j with
        | true =>
          rw [hp] at hw
          go_wp2_with fail
          refine hw.mono ?_
          clear hw
          rintro e w1 ⟨rfl, b1⟩
          go_wp2
          go_ret
          exact ⟨⟨_, rfl, .inr ⟨j, rfl, hlt, hp, KA.out.1⟩⟩, KA.out.2.trans (b1.mono KA.out.2.size)⟩
        | false =>
          rw [hp] at hw
          go_wp2_with fail
          refine hw.mono ?_
          clear hw
          rintro e w1 ⟨rfl, b1⟩
          go_wp2
          exact ⟨⟨j + 1, by omega, by simp, KA.out.2.trans (b1.mono KA.out.2.size), fun i hi => by
            by_cases e : i = j
            · rw [e]; exact hp
            · exact KA.out.1 i (by omega)⟩, by simp [intOf]; omega⟩
    · have : j = n := by omega
      subst this
      have hd : decide ((j : Int) < (j : Int)) = false := by simp
      have KA : Hid (∀ i, i < j → f i = false) := hall
      clear hs hall
      go_wp2
      go_ret
      exact ⟨⟨_, rfl, .inl ⟨rfl, KA.out⟩⟩, hbl⟩
theorem idxLogHas (w : World) (a : Option Addr) (n cap : Nat) (rs : List R4) (f : Nat → Bool) (hn : n ≤ maxLen) (hs : SlR w w.heap.size a n rs) (hf : idxLogF w n rs f) :
    Calls Tryz.prog 194 #[.slice a n cap, .func (.func 192) #[] #[]] w fun e w' => e = .returned (.bool (!((List.range n).all fun j => !f j))) ∧ Below w.heap.size w w' := by
  have hi := idxLog w a n cap rs f hn hs hf
  clear hs hf
  go_enter Tryz.func194, Tryz.ntmps194
  go_wp2_with fail
  refine hi.mono ?_
  clear hi
  rintro e w1 ⟨⟨i, rfl, hb0⟩, b1⟩
  have hb := first_has hb0
  clear hb0
  generalize hV : (!((List.range n).all fun j => !f j)) = V at hb
  go_wp2
  go_ret
  exact ⟨by rw [hV]; rfl, b1⟩
def idxCopF (w : World) (n : Nat) (rs : List K2)  (f : Nat → Bool) : Prop :=
  ∀ (X : World) (i : Nat) (a' : Option Addr) (cap' : Nat), Below w.heap.size w X → i < n → SlC X X.heap.size a' (atK rs i).cells.length (atK rs i).cells → Calls Tryz.prog 188 #[(atK rs i).val a' cap'] X fun e w' => e = .returned (.bool (f i)) ∧ Below X.heap.size X w'
set_option maxHeartbeats 2000000 in
theorem idxCop (w : World) (a : Option Addr) (n cap : Nat) (rs : List K2)  (f : Nat → Bool) (hn : n ≤ maxLen) (hs : SlK w w.heap.size a n rs) (hf : idxCopF w n rs  f) :
    Calls Tryz.prog 211 #[.slice a n cap, .func (.func 188) #[] #[]] w fun e w' => (∃ i : Int, e = .returned (.int .i64 i) ∧ FirstAt f n i) ∧ Below w.heap.size w w' := by
  unfold maxLen at hn
  obtain ⟨hx, hs⟩ := hs
  have HF := hidOf hf
  clear hf
  go_enter Tryz.func211, Tryz.ntmps211
  go_wp2
  go_loopw [8] (fun v wr => ∃ j : Nat, j ≤ n ∧ v = .int .i64 j ∧ Below w.heap.size w wr ∧ ∀ i, i < j → f i = false) (fun v _ => n - (intOf v).toNat)
  case atStart => exact ⟨0, Nat.zero_le _, rfl, Below.refl _ _, fun i h => absurd h (by omega)⟩
  case round =>
    obtain ⟨j, hj, rfl, hbl, hall⟩ := hrel
    by_cases hlt : j < n
    · rcases hs with hs | ⟨b, off, rfl, hb, h1⟩
      · omega
      · have hr := (h1 j _ (atK_of (by omega))).below hbl hb
        have c0 := hr.c0
        obtain ⟨a', cap', c1, hsl, hcp⟩ := hr.c1
        have KA : Hid ((∀ i, i < j → f i = false) ∧ Below w.heap.size w wr) := ⟨hall, hbl⟩
        have hw := HF.out wr j a' cap' hbl hlt (hsl.mono hbl.size)
        simp only [K2.val] at hw
        clear h1 hr hall hsl hbl hcp
        generalize (atK rs j).cells.length = ln at *
        cases hp : f j with
        | true =>
          rw [hp] at hw
          go_wp2_with fail
          refine hw.mono ?_
          clear hw
          rintro e w1 ⟨rfl, b1⟩
          go_wp2
          go_ret
          exact ⟨⟨_, rfl, .inr ⟨j, rfl, hlt, hp, KA.out.1⟩⟩, KA.out.2.trans (b1.mono KA.out.2.size)⟩
        | false =>
          rw [hp] at hw
          go_wp2_with fail
          refine hw.mono ?_
          clear hw
          rintro e w1 ⟨rfl, b1⟩
          go_wp2
          exact ⟨⟨j + 1, by omega, by simp, KA.out.2.trans (b1.mono KA.out.2.size), fun i hi => by
            by_cases e : i = j
            · rw [e]; exact hp
            · exact KA.out.1 i (by omega)⟩, by simp [intOf]; omega⟩
    · have : j = n := by omega
      subst this
      have hd : decide ((j : Int) < (j : Int)) = false := by simp
      have KA : Hid (∀ i, i < j → f i = false) := hall
      clear hs hall
      go_wp2
      go_ret
      exact ⟨⟨_, rfl, .inl ⟨rfl, KA.out⟩⟩, hbl⟩
theorem idxCopHas (w : World) (a : Option Addr) (n cap : Nat) (rs : List K2) (f : Nat → Bool) (hn : n ≤ maxLen) (hs : SlK w w.heap.size a n rs) (hf : idxCopF w n rs f) :
    Calls Tryz.prog 191 #[.slice a n cap, .func (.func 188) #[] #[]] w fun e w' => e = .returned (.bool (!((List.range n).all fun j => !f j))) ∧ Below w.heap.size w w' := by
  have hi := idxCop w a n cap rs f hn hs hf
  clear hs hf
  go_enter Tryz.func191, Tryz.ntmps191
  go_wp2_with fail
  refine hi.mono ?_
  clear hi
  rintro e w1 ⟨⟨i, rfl, hb0⟩, b1⟩
  have hb := first_has hb0
  clear hb0
  generalize hV : (!((List.range n).all fun j => !f j)) = V at hb
  go_wp2
  go_ret
  exact ⟨by rw [hV]; rfl, b1⟩
def idxNumF (w : World) (n : Nat) (rs : List Int)  (f : Nat → Bool) : Prop :=
  ∀ (X : World) (i : Nat) , Below w.heap.size w X → i < n → True → Calls Tryz.prog 195 #[.int .i64 (atN rs i)] X fun e w' => e = .returned (.bool (f i)) ∧ Below X.heap.size X w'
set_option maxHeartbeats 2000000 in
theorem idxNum (w : World) (a : Option Addr) (n cap : Nat) (rs : List Int)  (f : Nat → Bool) (hn : n ≤ maxLen) (hs : SlN w w.heap.size a n rs) (hf : idxNumF w n rs  f) :
    Calls Tryz.prog 59 #[.slice a n cap, .func (.func 195) #[] #[]] w fun e w' => (∃ i : Int, e = .returned (.int .i64 i) ∧ FirstAt f n i) ∧ Below w.heap.size w w' := by
  unfold maxLen at hn
  obtain ⟨hx, hs⟩ := hs
  have HF := hidOf hf
  clear hf
  go_enter Tryz.func59, Tryz.ntmps59
  go_wp2
  go_loopw [8] (fun v wr => ∃ j : Nat, j ≤ n ∧ v = .int .i64 j ∧ Below w.heap.size w wr ∧ ∀ i, i < j → f i = false) (fun v _ => n - (intOf v).toNat)
  case atStart => exact ⟨0, Nat.zero_le _, rfl, Below.refl _ _, fun i h => absurd h (by omega)⟩
  case round =>
    obtain ⟨j, hj, rfl, hbl, hall⟩ := hrel
    by_cases hlt : j < n
    · rcases hs with hs | ⟨b, off, rfl, hb, h1⟩
      · omega
      · have c0 := (hbl.cell (p := ⟨b, off + j, none⟩) hb).trans (h1 j _ (atN_of (by omega)))
        have KA : Hid ((∀ i, i < j → f i = false) ∧ Below w.heap.size w wr) := ⟨hall, hbl⟩
        have hw := HF.out wr j hbl hlt trivial
        clear h1 hall hbl
        cases hp : f j with
        | true =>
          rw [hp] at hw
          go_wp2_with fail
          refine hw.mono ?_
          clear hw
          rintro e w1 ⟨rfl, b1⟩
          go_wp2
          go_ret
          exact ⟨⟨_, rfl, .inr ⟨j, rfl, hlt, hp, KA.out.1⟩⟩, KA.out.2.trans (b1.mono KA.out.2.size)⟩
        | false =>
          rw [hp] at hw
          go_wp2_with fail
          refine hw.mono ?_
          clear hw
          rintro e w1 ⟨rfl, b1⟩
          go_wp2
          exact ⟨⟨j + 1, by omega, by simp, KA.out.2.trans (b1.mono KA.out.2.size), fun i hi => by
            by_cases e : i = j
            · rw [e]; exact hp
            · exact KA.out.1 i (by omega)⟩, by simp [intOf]; omega⟩
    · have : j = n := by omega
      subst this
      have hd : decide ((j : Int) < (j : Int)) = false := by simp
      have KA : Hid (∀ i, i < j → f i = false) := hall
      clear hs hall
      go_wp2
      go_ret
      exact ⟨⟨_, rfl, .inl ⟨rfl, KA.out⟩⟩, hbl⟩
theorem idxNumHas (w : World) (a : Option Addr) (n cap : Nat) (rs : List Int) (f : Nat → Bool) (hn : n ≤ maxLen) (hs : SlN w w.heap.size a n rs) (hf : idxNumF w n rs f) :
    Calls Tryz.prog 28 #[.slice a n cap, .func (.func 195) #[] #[]] w fun e w' => e = .returned (.bool (!((List.range n).all fun j => !f j))) ∧ Below w.heap.size w w' := by
  have hi := idxNum w a n cap rs f hn hs hf
  clear hs hf
  go_enter Tryz.func28, Tryz.ntmps28
  go_wp2_with fail
  refine hi.mono ?_
  clear hi
  rintro e w1 ⟨⟨i, rfl, hb0⟩, b1⟩
  have hb := first_has hb0
  clear hb0
  generalize hV : (!((List.range n).all fun j => !f j)) = V at hb
  go_wp2
  go_ret
  exact ⟨by rw [hV]; rfl, b1⟩
theorem appendX {α : Type} {cells : α → List Value} {T ST : TypeId} {sz by_ : Nat} (hl : ∀ s, (cells s).length = sz) (h1 : ∀ s, ∀ u ∈ cells s, u.oneCell' = true) (hsz : 0 < sz) {P : Program} {i0 : TypeInfo} {z : Value} (ht : P.underlying ST = some (.slice T)) (hi : P.info? T = some i0) (hz : i0.zero = some z) (hs : i0.size = sz) (hby : i0.bytes = by_) (hzs : z.cells.size = sz) (hbb : by_ ≤ 1000)
    {W : World} {base : Nat} {v : Value} (h : W.ownsRow base T sz v 0 []) (xs : List α) (hx : 0 < xs.length) (hm : xs.length ≤ 1048576) (ty : TypeId) (b off k : Nat) (src : ∀ i s, xs[i]? = some s → ∀ t u, (cells s)[t]? = some u → W.cell? ⟨b, off + i * sz + t, none⟩ = some u) (hbase : base ≤ W.heap.size) :
    ∃ q cap W', (Builtin.append_ #[ST, ST] ty #[v, .slice (some ⟨b, off, none⟩) xs.length k]).run P W = .ok (.slice (some ⟨q, 0, none⟩) xs.length cap) W' ∧ base ≤ q ∧ q < W'.heap.size ∧ xs.length ≤ cap ∧ (∀ i s, xs[i]? = some s → ∀ t u, (cells s)[t]? = some u → W'.cell? ⟨q, i * sz + t, none⟩ = some u) ∧ Room W' q (xs.length * sz) ∧ W.grownBy W' v.ownBlock ∧ (v.ownBlock = some q ∨ q = W.heap.size) ∧ W'.ownsRow base T sz (.slice (some ⟨q, 0, none⟩) xs.length cap) xs.length (xs.flatMap cells) := by
  have hadd : ∀ (b o j : Nat), (⟨b, o, none⟩ : Addr).add j = ⟨b, o + j, none⟩ := fun b o j => by unfold Addr.add; split <;> simp_all
  have hfl : ∀ l : List α, (l.flatMap cells).length = l.length * sz := fun l => by
    induction l with
    | nil => simp
    | cons y l ih => rw [List.flatMap_cons, List.length_append, ih, hl, List.length_cons, Nat.add_mul]; omega
  obtain ⟨v', W', hrun, hown, hg, hnil, hlies⟩ := run_append_own_at (P := P) W base ST ty T i0 z sz by_ ht hi hz hs hby hzs hsz
    v 0 [] h ⟨b, off, none⟩ xs.length k (xs.flatMap cells) (hfl xs) (fun j u hu => by
      have hj : j < xs.length * sz := by rw [← hfl]; exact (List.getElem?_eq_some_iff.1 hu).1
      have hi : j / sz < xs.length := Nat.div_lt_of_lt_mul (by rw [Nat.mul_comm]; exact hj)
      have hxs := List.getElem?_eq_getElem hi
      have hjt : j / sz * sz + j % sz = j := Nat.div_add_mod' j sz
      have := flat_at (f := cells) (l := xs) (fun x _ => hl x) hxs (Nat.mod_lt j hsz)
      rw [hjt] at this
      rw [hadd, ← hjt, ← Nat.add_assoc]
      exact src _ _ hxs _ u (by rw [← this]; exact hu))
    (fun u hu => by obtain ⟨s, _, hs⟩ := List.mem_flatMap.1 hu; exact h1 s u hs) (by unfold maxLen; omega) (by
      have : (0 + xs.length) * by_ ≤ 1048576 * 1000 := Nat.mul_le_mul (by omega) hbb
      omega) hbase
  rw [Nat.zero_add, List.nil_append] at hown
  have hcap : ∃ q cap, v' = .slice (some ⟨q, 0, none⟩) xs.length cap ∧ xs.length ≤ cap := by
    rcases hown.2 with ⟨_, h0⟩ | ⟨q, cap, cur, rfl, _, _, hl, _⟩
    · omega
    · exact ⟨q, cap, rfl, hl⟩
  obtain ⟨q, cap, rfl, hc⟩ := hcap
  have hb := World.ownsRow.lt hown q rfl
  refine ⟨q, cap, W', hrun, hb.1, hb.2, hc, fun i s e t u hu => ?_, fun j hj => ?_, hg, ?_, hown⟩
  · have hi := (List.getElem?_eq_some_iff.1 e).1
    have ht := (List.getElem?_eq_some_iff.1 hu).1
    rw [hl] at ht
    have : (i + 1) * sz ≤ xs.length * sz := Nat.mul_le_mul_right sz hi
    rw [Nat.add_mul] at this
    rw [World.ownsRow.cellAt hown _ (by omega), flat_at (fun x _ => hl x) e ht]; exact hu
  · exact ⟨_, by rw [World.ownsRow.cellAt hown j hj]; exact List.getElem?_eq_getElem (by rw [hfl]; exact hj), World.ownsRow.frozenAt hown j⟩
  · rcases hlies with e | e
    · exact .inl e.symm
    · exact .inr (Option.some.inj e)
theorem infoSet : (Tryz.prog.info? 93).map (fun i => (i.zero, i.size, i.bytes)) = some (some (.agg #[.int .i64 0, .int .i64 0, .int .i64 0, .bool false, .int .i64 0]), 5, 40) := by kernel_rfl
theorem partsOf {P : Program} {t : TypeId} {z : Value} {s b : Nat} (h : (P.info? t).map (fun i => (i.zero, i.size, i.bytes)) = some (some z, s, b)) : ∃ i, P.info? t = some i ∧ i.zero = some z ∧ i.size = s ∧ i.bytes = b := by
  obtain ⟨i, hi, hzz⟩ := Option.map_eq_some_iff.1 h
  simp only [Prod.mk.injEq] at hzz
  exact ⟨i, hi, hzz.1, hzz.2.1, hzz.2.2⟩
theorem appendC (W : World) (base : Nat) (v : Value) (h : W.ownsRow base 72 2 v 0 []) (xs : List C2) (hx : 0 < xs.length) (hm : xs.length ≤ 1048576) (ty : TypeId) (b off k : Nat) (src : CellsAt W b off xs) (hbase : base ≤ W.heap.size) :
    ∃ q cap W', (Builtin.append_ #[66, 66] ty #[v, .slice (some ⟨b, off, none⟩) xs.length k]).run Tryz.prog W = .ok (.slice (some ⟨q, 0, none⟩) xs.length cap) W' ∧ base ≤ q ∧ q < W'.heap.size ∧ xs.length ≤ cap ∧ CellsAt W' q 0 xs ∧ Room W' q (xs.length * 2) ∧ W.grownBy W' v.ownBlock ∧ (v.ownBlock = some q ∨ q = W.heap.size) := by
  obtain ⟨i0, hi0, hz0, hz1, hz2⟩ := partsOf info_cell
  obtain ⟨q, cap, W', h1, h2, h3, h4, h5, h6, h7, h8, _⟩ := appendX (cells := C2.cells) (fun _ => rfl) (fun s u hu => by
    simp only [C2.cells, List.mem_cons, List.not_mem_nil, or_false] at hu
    rcases hu with rfl | rfl <;> rfl) (by omega) Tryz.underlying66 hi0 hz0 hz1 hz2 rfl (by omega) h xs hx hm ty b off k (fun i s e t u hu => by
      obtain ⟨c0, c1⟩ := src i s e
      rcases t with _ | _ | t
      · simp [C2.cells] at hu; subst hu; exact c0
      · simp [C2.cells] at hu; subst hu; exact c1
      · simp [C2.cells] at hu) hbase
  refine ⟨q, cap, W', h1, h2, h3, h4, fun i s e => ⟨?_, ?_⟩, h6, h7, h8⟩
  · rw [Nat.zero_add]; exact h5 i s e 0 _ rfl
  · rw [Nat.zero_add]; exact h5 i s e 1 _ rfl
def S5.cellsL (s : S5) : List Value := [.int .i64 s.region, .int .i64 s.slot, .int .i64 s.value, .bool s.used, .int .i64 s.version]
theorem owns_nil (W : World) (base : Nat) (T : TypeId) (sz : Nat) : W.ownsRow base T sz (.slice none 0 0) 0 [] := ⟨by simp, .inl ⟨rfl, rfl⟩⟩
set_option maxHeartbeats 1000000 in
theorem ownCells_any (w : World) (a : Option Addr) (cap : Nat) (xs : List C2) (hx : 0 < xs.length) (hm : xs.length ≤ 1048576) (hs : SlC w w.heap.size a xs.length xs) :
    Calls Tryz.prog 216 #[.slice a xs.length cap] w fun e w' => ∃ q cp, e = .returned (.slice (some ⟨q, 0, none⟩) xs.length cp) ∧ w.heap.size ≤ q ∧ q < w'.heap.size ∧ xs.length ≤ cp ∧ CellsAt w' q 0 xs ∧ Room w' q (xs.length * 2) ∧ Below w.heap.size w w' := by
  obtain ⟨_, hs⟩ := hs
  rcases hs with hs | ⟨b, off, rfl, hb, h1⟩
  · omega
  obtain ⟨q, cp, W', hr, h2, h3, h4, h5, h6, h7, h8⟩ := appendC w w.heap.size (.slice none 0 0) (owns_nil _ _ _ _) xs hx hm 66 b off cap h1 (Nat.le_refl _)
  have K : Hid (w.heap.size ≤ q ∧ q < W'.heap.size ∧ xs.length ≤ cp ∧ CellsAt W' q 0 xs ∧ Room W' q (xs.length * 2) ∧ Below w.heap.size w W') := ⟨h2, h3, h4, h5, h6, (Below.refl _ _).grown h7 (Nat.le_refl _) (fun k h => by cases h)⟩
  clear h1 h2 h3 h4 h5 h6 h7 h8 hx hm
  generalize xs.length = n at *
  go_enter Tryz.func216, Tryz.ntmps216
  go_wp2_with (at_builtin; refine append_known _ rfl (.const (.slice none 0 0)) (.tmp 3) 66 rfl _ _ _ _ rfl rfl hr ?_)
  go_ret
  exact ⟨q, cp, rfl, K.out.1, K.out.2.1, K.out.2.2.1, K.out.2.2.2.1, K.out.2.2.2.2.1, K.out.2.2.2.2.2⟩
structure TR (s : Nat) (k t r : Int) (u : Value) (X : World) : Prop where
  d0 : X.cell? ⟨s, 0, none⟩ = some (.int .i64 k)
  d1 : X.cell? ⟨s, 1, none⟩ = some (.int .i64 t)
  d2 : X.cell? ⟨s, 2, none⟩ = some (.int .i64 r)
  d3 : X.cell? ⟨s, 3, none⟩ = some u
  fd : ∀ j, X.frozen? ⟨s, j, none⟩ = false
  e0 : X.cell? ⟨s + 1, 0, none⟩ = some (.int .i64 0)
  e1 : X.cell? ⟨s + 1, 1, none⟩ = some (.int .i64 0)
  e2 : X.cell? ⟨s + 1, 2, none⟩ = some (.int .i64 0)
  e3 : X.cell? ⟨s + 1, 3, none⟩ = some (.slice none 0 0)
  fe : ∀ j, X.frozen? ⟨s + 1, j, none⟩ = false
theorem TR.keep {s : Nat} {k t r : Int} {u : Value} {X Y : World} (h : TR s k t r u X) (ea : Y.heap[s]? = X.heap[s]?) (eb : Y.heap[s + 1]? = X.heap[s + 1]?) : TR s k t r u Y := by
  have c : ∀ {b j : Nat} {u : Value}, Y.heap[b]? = X.heap[b]? → X.cell? ⟨b, j, none⟩ = some u → Y.cell? ⟨b, j, none⟩ = some u := fun {b j u} e h => (World.cell?_of_block (a := ⟨b, j, none⟩) e).trans h
  exact ⟨c ea h.d0, c ea h.d1, c ea h.d2, c ea h.d3, fun j => (World.frozen?_of_block (a := ⟨s, j, none⟩) ea).trans (h.fd j), c eb h.e0, c eb h.e1, c eb h.e2, c eb h.e3, fun j => (World.frozen?_of_block (a := ⟨s + 1, j, none⟩) eb).trans (h.fe j)⟩
theorem AtR.far {w : World} {q : Nat} {r : R4} (h : AtR w q r) {p : Addr} (hp : p.block ≠ q) (v : Value) : AtR (w.setCell p v) q r := AtR.of_block _ _ _ _ (Below.heap_setCell _ _ _ _ (fun e => hp e.symm)) h
def blocksG {α : Type} (v : Value) (rs : List α) (g : Nat → Nat) (q : Nat) : Prop := v.ownBlock = some q ∨ ∃ i, i < rs.length ∧ g i = q
theorem GrowG.blocks {α : Type} {T : TypeId} {sz : Nat} {hd : α → List Int} {ln : α → Nat} {At : World → Nat → α → Prop} {w : World} {base : Nat} {v : Value} {rs : List α} {g : Nat → Nat} (h : GrowG T sz hd ln At w base v rs g) {q : Nat} (hq : blocksG v rs g q) : base ≤ q ∧ q < w.heap.size := by
  rcases hq with hq | ⟨i, hi, rfl⟩
  · exact h.lies hq
  · exact ⟨h.low i hi, h.lt i hi⟩
structure MR (base p : Nat) (X : World) (vk vr vd : Value) (ks : List K2) (rs : List R4) (zs : List Int) (gk gr : Nat → Nat) : Prop where
  gK : GrowG 68 2 hdK lnK AtK X base vk ks gk
  gR : GrowG 133 4 hdR lnR AtR X base vr rs gr
  gD : X.ownsRow base 2 1 vd zs.length (zs.map (Value.int .i64))
  kr : ∀ q, blocksG vk ks gk q → ¬ blocksG vr rs gr q
  kd : ∀ q, blocksG vk ks gk q → vd.ownBlock ≠ some q
  rd : ∀ q, blocksG vr rs gr q → vd.ownBlock ≠ some q
  kp : ∀ q, blocksG vk ks gk q → q ≠ p
  rp : ∀ q, blocksG vr rs gr q → q ≠ p
  dp : vd.ownBlock ≠ some p
theorem MR.keep {base p : Nat} {X Y : World} {vk vr vd : Value} {ks : List K2} {rs : List R4} {zs : List Int} {gk gr : Nat → Nat} (h : MR base p X vk vr vd ks rs zs gk gr) (hs : X.heap.size ≤ Y.heap.size) (hk : ∀ q, q < X.heap.size → base ≤ q → q ≠ p → Y.heap[q]? = X.heap[q]?) : MR base p Y vk vr vd ks rs zs gk gr := by
  refine ⟨h.gK.keep AtK.of_block hs (fun q hq hb => hk q hq (h.gK.blocks hb).1 (h.kp q hb)), h.gR.keep AtR.of_block hs (fun q hq hb => hk q hq (h.gR.blocks hb).1 (h.rp q hb)), ⟨h.gD.1, h.gD.2.imp id ?_⟩, h.kr, h.kd, h.rd, h.kp, h.rp, h.dp⟩
  rintro ⟨q, cap, cur, rfl, l, hg, r⟩
  exact ⟨q, cap, cur, rfl, l, (hk q (World.ownsRow.lt h.gD q rfl).2 l (fun e => h.dp (by rw [← e]; rfl))).trans hg, r⟩
theorem MR.later {base p : Nat} {X Y : World} {vk vr vd : Value} {ks : List K2} {rs : List R4} {zs : List Int} {gk gr : Nat → Nat} (h : MR base p X vk vr vd ks rs zs gk gr) (hb : Below X.heap.size X Y) : MR base p Y vk vr vd ks rs zs gk gr := h.keep hb.size (fun q hq _ _ => hb.block q hq)
theorem MR.set {base p o : Nat} {X : World} {u : Value} {vk vr vd : Value} {ks : List K2} {rs : List R4} {zs : List Int} {gk gr : Nat → Nat} (h : MR base p X vk vr vd ks rs zs gk gr) : MR base p (X.setCell ⟨p, o, none⟩ u) vk vr vd ks rs zs gk gr := h.keep (by simp [World.setCell]) (fun q _ _ hp => Below.heap_setCell _ _ _ _ hp)
theorem MR.om {base p : Nat} {X : World} {v : MV} {m : M4} {gk gr : Nat → Nat} (h : MR base p X (.slice v.ac m.copies.length v.cc) (.slice v.al m.log.length v.cl) (.slice v.ad m.cleared.length v.cd) m.copies m.log m.cleared gk gr) :
    OM X base v m (blocksG (.slice v.ac m.copies.length v.cc) m.copies gk) (blocksG (.slice v.al m.log.length v.cl) m.log gr) (fun q => (Value.slice v.ad m.cleared.length v.cd).ownBlock = some q) := by
  refine ⟨?_, ?_, ?_, h.kr, h.kd, h.rd, fun q hq => (h.gK.blocks hq).1, fun q hq => (h.gR.blocks hq).1, fun q hq => (World.ownsRow.lt h.gD q hq).1⟩
  · by_cases e : m.copies = []
    · exact .inl e
    · obtain ⟨b, cap, ev, h1, h2, h3, h4, h5⟩ := GrowG.own (hd := hdK) (sz := 2) (fun _ => rfl) h.gK e
      have ea : v.ac = some ⟨b, 0, none⟩ := by injection ev
      exact .inr ⟨b, gk, ea, .inl (by rw [ea]; rfl), fun i hi => .inr ⟨i, hi, rfl⟩, h2, h4, h5.base⟩
  · by_cases e : m.log = []
    · exact .inl e
    · obtain ⟨b, cap, ev, h1, h2, h3, h4, h5⟩ := GrowG.own (hd := hdR) (sz := 4) (fun _ => rfl) h.gR e
      have ea : v.al = some ⟨b, 0, none⟩ := by injection ev
      exact .inr ⟨b, gr, ea, .inl (by rw [ea]; rfl), fun i hi => .inr ⟨i, hi, rfl⟩, h2, h4, h5.base⟩
  · by_cases e : m.cleared = []
    · exact .inl e
    · have hpos : 0 < m.cleared.length := List.length_pos_iff.2 e
      obtain ⟨b, cap, ev, h1, h2⟩ := World.ownsRow.form h.gD hpos
      have ea : v.ad = some ⟨b, 0, none⟩ := by injection ev
      have ec : v.cd = cap := by injection ev
      have hg := h.gD
      rw [ea] at hg
      refine .inr ⟨b, ea, by rw [ea]; rfl, h2, fun i z ez => ?_, fun j hj => ⟨.int .i64 (m.cleared[j]'hj), ?_, World.ownsRow.frozenAt hg j⟩⟩
      · have hi := (List.getElem?_eq_some_iff.1 ez).1
        rw [Nat.zero_add, World.ownsRow.cellAt hg i (by omega), List.getElem?_map, ez]; rfl
      · rw [World.ownsRow.cellAt hg j (by omega), List.getElem?_map, List.getElem?_eq_getElem hj]; rfl
end Go.Proofs.YtphpcgmnljhimaaGreat