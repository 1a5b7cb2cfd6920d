/- Rows of machines: copied, compared, counted. -/
import Derived.Test.YtalmflikdnflfaaGreatRows
import Derived.Test.YtalmflikdnflfaaGreatJ13ExactFind
import Derived.WalkKit
import Derived.WalkSpells
import Derived.WalkLawsBesides
import Derived.Below
import Derived.Lib.QuietBelow
import Derived.BigQuiet
namespace Go.Proofs.YtalmflikdnflfaaGreat
open Go.RowKit
open Go.Sort (grow)
theorem info_KMS : (Tryz.prog.info? 66).map (fun i => (i.zero, i.size, i.bytes)) = some (some (.agg #[.bool false, .slice none 0 0, .slice none 0 0, .slice none 0 0]), 4, 80) := by kernel_rfl
theorem make_KMS (n : Nat) (hn : n ≤ 1048576) (w : World) : (Instr.makeSlice 30 (.int .i64 (n : Int)) (.int .i64 (n : Int))).run Tryz.prog w = .ok (.slice (some ⟨w.heap.size, 0, none⟩) n n) (w.alloc (.cells (madeCells #[.bool false, .slice none 0 0, .slice none 0 0, .slice none 0 0] (n * 4)) 66)) := by
  obtain ⟨i, hi, hzz⟩ := Option.map_eq_some_iff.1 info_KMS
  simp only [Prod.mk.injEq] at hzz
  obtain ⟨hz, hs, hb⟩ := hzz
  have := run_make (P := Tryz.prog) w 30 66 i _ Tryz.underlying30 hi hz .i64 .i64 (n : Int) (n : Int) (by omega) (by omega) (by rw [hb]; omega) (by omega)
  rw [hs] at this
  simpa [Value.cells] using this
set_option maxRecDepth 100000 in
set_option maxHeartbeats 4000000 in
theorem KMS.to (w : World) (a : Option Addr) (cap : Nat) (xs : List M4) (hn : xs.length ≤ 1048576) (ht : ∀ d ∈ xs, MT d) (hs : KMk.RdS w a xs) : Calls Tryz.prog 38 #[.slice a xs.length cap] w fun e w' =>
    ∃ P, e = .returned (.slice (some ⟨w.heap.size, 0, none⟩) xs.length xs.length) ∧ KMk.OwS w' w.heap.size (some ⟨w.heap.size, 0, none⟩) xs P ∧ Below w.heap.size w w' := by
  have hmk := make_KMS xs.length hn
  go_enter Tryz.func38, Tryz.ntmps38
  go_wp2
  go_loopw [4] (fun i wr => ∃ (j : Nat) (g : Nat → Nat → Prop), j ≤ xs.length ∧ i = .int .i64 j ∧ Below w.heap.size w wr ∧ w.heap.size < wr.heap.size ∧ KMk.Part wr w.heap.size w.heap.size xs.length (xs.take j) g) (fun i _ => xs.length - (intOf i).toNat)
  case atStart => exact ⟨0, fun _ _ => False, Nat.zero_le _, rfl, (Below.refl _ _).alloc (Nat.le_refl _) _, by simp, by rw [List.take_zero]; exact Kd.Part.nil _ _ (room_made _ _ _ _)⟩
  case round =>
    obtain ⟨j, g, hj, rfl, hbl, hsz, hpt⟩ := hrel
    by_cases hlt : j < xs.length
    · obtain ⟨d, hd⟩ : ∃ d, xs[j]? = some d := ⟨_, List.getElem?_eq_getElem hlt⟩
      rcases hs with hs | ⟨b, off, rfl, hb, h1⟩
      · rw [hs] at hlt; simp at hlt
      obtain ⟨⟨c0, c1, c2, c3, c4, c5⟩, hat, hrd⟩ := h1 j d hd
      have e0 : wr.cell? ⟨b, off + j * 4, none⟩ = some (.bool d.alive) := (hbl.cell (p := ⟨b, off + j * 4, none⟩) hb).trans (hat 0 _ rfl)
      have e1 : wr.cell? ⟨b, off + j * 4 + 1, none⟩ = some (.slice c0 d.copies.length c1) := (hbl.cell (p := ⟨b, off + j * 4 + 1, none⟩) hb).trans (hat 1 _ rfl)
      have e2 : wr.cell? ⟨b, off + j * 4 + 2, none⟩ = some (.slice c2 d.log.length c3) := (hbl.cell (p := ⟨b, off + j * 4 + 2, none⟩) hb).trans (hat 2 _ rfl)
      have e3 : wr.cell? ⟨b, off + j * 4 + 3, none⟩ = some (.slice c4 d.cleared.length c5) := (hbl.cell (p := ⟨b, off + j * 4 + 3, none⟩) hb).trans (hat 3 _ rfl)
      have hcl := KM.to wr c0 c1 c2 c3 c4 c5 d (ht d (List.mem_of_getElem? hd)) (KMk.later hrd hbl)
      have KH : Hid (KMk.Part wr w.heap.size w.heap.size xs.length (xs.take j) g ∧ Below w.heap.size w wr ∧ w.heap.size < wr.heap.size ∧ xs.take (j + 1) = xs.take j ++ [d] ∧ (xs.take j).length = j) := ⟨hpt, hbl, hsz, by rw [List.take_add_one, hd]; rfl, by rw [List.length_take]; omega⟩
      have jn : (j : Int) < (xs.length : Int) := by omega
      clear hpt hbl hmk h1 ht hat hrd hd
      go_wp2_with fail
      refine hcl.mono ?_
      clear hcl e0 e1 e2 e3
      rintro e w1 ⟨u0, u1, u2, u3, u4, u5, P, rfl, ho, b1⟩
      have hp1 := KH.out.1.later b1 KH.out.2.2.1
      have hrm := hp1.rm
      have hjm : j * 4 + 4 ≤ xs.length * 4 := by omega
      obtain ⟨z0, d0, f0⟩ : ∃ v, w1.cell? ⟨w.heap.size, j * 4, none⟩ = some v ∧ w1.frozen? ⟨w.heap.size, j * 4, none⟩ = false := hrm (j * 4 + 0) (show _ < xs.length * 4 by omega)
      obtain ⟨z1, d1, f1⟩ : ∃ v, w1.cell? ⟨w.heap.size, j * 4 + 1, none⟩ = some v ∧ w1.frozen? ⟨w.heap.size, j * 4 + 1, none⟩ = false := hrm (j * 4 + 1) (show _ < xs.length * 4 by omega)
      obtain ⟨z2, d2, f2⟩ : ∃ v, w1.cell? ⟨w.heap.size, j * 4 + 2, none⟩ = some v ∧ w1.frozen? ⟨w.heap.size, j * 4 + 2, none⟩ = false := hrm (j * 4 + 2) (show _ < xs.length * 4 by omega)
      obtain ⟨z3, d3, f3⟩ : ∃ v, w1.cell? ⟨w.heap.size, j * 4 + 3, none⟩ = some v ∧ w1.frozen? ⟨w.heap.size, j * 4 + 3, none⟩ = false := hrm (j * 4 + 3) (show _ < xs.length * 4 by omega)
      have K1 : Hid (KMk.Part w1 w.heap.size w.heap.size xs.length (xs.take j) g ∧ KMk.Ow w1 wr.heap.size ⟨u0, u1, u2, u3, u4, u5⟩ d P ∧ Below wr.heap.size wr w1) := ⟨hp1, ho, b1⟩
      clear hp1 ho b1 hrm hjm
      go_wp2
      obtain ⟨k1, k2, k3, k4, k5⟩ := KH.out
      obtain ⟨p1, p2, p3⟩ := K1.out
      have hpu := p1.push (by omega) ⟨u0, u1, u2, u3, u4, u5⟩ d P (KMk.low p2 (Nat.le_of_lt k3)) (fun q hq => by have := (KMk.of p2 hq).1; omega) (fun i q hi hq hq' => by have := (k1.gq hi hq).2; have := (KMk.of p2 hq').1; omega)
      rw [k5, ← k4] at hpu
      have hbe : Below w.heap.size w (putB w1 w.heap.size (j * 4) [.bool d.alive, .slice u0 d.copies.length u1, .slice u2 d.log.length u3, .slice u4 d.cleared.length u5]) := putB_below (Nat.le_refl _) _ _ _ (k2.trans (p3.mono k2.size))
      have hsz' : w.heap.size < (putB w1 w.heap.size (j * 4) [.bool d.alive, .slice u0 d.copies.length u1, .slice u2 d.log.length u3, .slice u4 d.cleared.length u5]).heap.size := by rw [putB_size]; exact Nat.lt_of_lt_of_le k3 p3.size
      exact ⟨⟨j + 1, _, by omega, by simp, hbe, hsz', hpu⟩, by simp [intOf]; omega⟩
    · obtain rfl : j = xs.length := by omega
      have hd : decide ((xs.length : Int) < (xs.length : Int)) = false := by simp
      rw [List.take_length] at hpt
      have KH : Hid (KMk.Part wr w.heap.size w.heap.size xs.length xs g ∧ Below w.heap.size w wr ∧ w.heap.size < wr.heap.size) := ⟨hpt, hbl, hsz⟩
      clear hpt hbl hs hmk ht
      go_wp2
      go_ret
      exact ⟨_, rfl, KH.out.1.own (Nat.le_refl _) KH.out.2.2, KH.out.2.1⟩
set_option maxRecDepth 100000 in
set_option maxHeartbeats 4000000 in
theorem KMS.eq (w : World) (a a' : Option Addr) (cap cap' : Nat) (xs : List M4) (hn : xs.length ≤ 1048576) (ht : ∀ d ∈ xs, MT d) (h1 : KMk.RdS w a xs) (h2 : KMk.RdS w a' xs) : Calls Tryz.prog 48 #[.slice a xs.length cap, .slice a' xs.length cap'] w fun e w' => e = .returned (.bool true) ∧ Below w.heap.size w w' := by
  go_enter Tryz.func48, Tryz.ntmps48
  go_wp2
  go_loopw [5] (fun i wr => ∃ j : Nat, j ≤ xs.length ∧ i = .int .i64 j ∧ Below w.heap.size w wr) (fun i _ => xs.length - (intOf i).toNat)
  case atStart => exact ⟨0, Nat.zero_le _, rfl, Below.refl _ _⟩
  case round =>
    obtain ⟨j, hj, rfl, hbl⟩ := hrel
    by_cases hlt : j < xs.length
    · obtain ⟨d, hd⟩ : ∃ d, xs[j]? = some d := ⟨_, List.getElem?_eq_getElem hlt⟩
      rcases h1 with h1 | ⟨b, off, rfl, hb, h1⟩
      · rw [h1] at hlt; simp at hlt
      · rcases h2 with h2 | ⟨b', off', rfl, hb', h2⟩
        · rw [h2] at hlt; simp at hlt
        · obtain ⟨⟨c0, c1, c2, c3, c4, c5⟩, hat, hrd⟩ := h1 j d hd
          obtain ⟨⟨b0, b1, b2, b3, b4, b5⟩, hat', hrd'⟩ := h2 j d hd
          have x0 : ∀ dd os, (grow (redrawn wr dd) os).cell? ⟨b, off + j * 4, none⟩ = some (.bool d.alive) := fun dd os => ((below_regrown wr dd os).cell (p := ⟨b, off + j * 4, none⟩) (Nat.lt_of_lt_of_le hb hbl.size)).trans ((hbl.cell (p := ⟨b, off + j * 4, none⟩) hb).trans (hat 0 _ rfl))
          have x1 : ∀ dd os, (grow (redrawn wr dd) os).cell? ⟨b, off + j * 4 + 1, none⟩ = some (.slice c0 d.copies.length c1) := fun dd os => ((below_regrown wr dd os).cell (p := ⟨b, off + j * 4 + 1, none⟩) (Nat.lt_of_lt_of_le hb hbl.size)).trans ((hbl.cell (p := ⟨b, off + j * 4 + 1, none⟩) hb).trans (hat 1 _ rfl))
          have x2 : ∀ dd os, (grow (redrawn wr dd) os).cell? ⟨b, off + j * 4 + 2, none⟩ = some (.slice c2 d.log.length c3) := fun dd os => ((below_regrown wr dd os).cell (p := ⟨b, off + j * 4 + 2, none⟩) (Nat.lt_of_lt_of_le hb hbl.size)).trans ((hbl.cell (p := ⟨b, off + j * 4 + 2, none⟩) hb).trans (hat 2 _ rfl))
          have x3 : ∀ dd os, (grow (redrawn wr dd) os).cell? ⟨b, off + j * 4 + 3, none⟩ = some (.slice c4 d.cleared.length c5) := fun dd os => ((below_regrown wr dd os).cell (p := ⟨b, off + j * 4 + 3, none⟩) (Nat.lt_of_lt_of_le hb hbl.size)).trans ((hbl.cell (p := ⟨b, off + j * 4 + 3, none⟩) hb).trans (hat 3 _ rfl))
          have y0 : ∀ dd os, (grow (redrawn wr dd) os).cell? ⟨b', off' + j * 4, none⟩ = some (.bool d.alive) := fun dd os => ((below_regrown wr dd os).cell (p := ⟨b', off' + j * 4, none⟩) (Nat.lt_of_lt_of_le hb' hbl.size)).trans ((hbl.cell (p := ⟨b', off' + j * 4, none⟩) hb').trans (hat' 0 _ rfl))
          have y1 : ∀ dd os, (grow (redrawn wr dd) os).cell? ⟨b', off' + j * 4 + 1, none⟩ = some (.slice b0 d.copies.length b1) := fun dd os => ((below_regrown wr dd os).cell (p := ⟨b', off' + j * 4 + 1, none⟩) (Nat.lt_of_lt_of_le hb' hbl.size)).trans ((hbl.cell (p := ⟨b', off' + j * 4 + 1, none⟩) hb').trans (hat' 1 _ rfl))
          have y2 : ∀ dd os, (grow (redrawn wr dd) os).cell? ⟨b', off' + j * 4 + 2, none⟩ = some (.slice b2 d.log.length b3) := fun dd os => ((below_regrown wr dd os).cell (p := ⟨b', off' + j * 4 + 2, none⟩) (Nat.lt_of_lt_of_le hb' hbl.size)).trans ((hbl.cell (p := ⟨b', off' + j * 4 + 2, none⟩) hb').trans (hat' 2 _ rfl))
          have y3 : ∀ dd os, (grow (redrawn wr dd) os).cell? ⟨b', off' + j * 4 + 3, none⟩ = some (.slice b4 d.cleared.length b5) := fun dd os => ((below_regrown wr dd os).cell (p := ⟨b', off' + j * 4 + 3, none⟩) (Nat.lt_of_lt_of_le hb' hbl.size)).trans ((hbl.cell (p := ⟨b', off' + j * 4 + 3, none⟩) hb').trans (hat' 3 _ rfl))
          have cQ : ∀ dd os, Calls Tryz.prog 101 #[.agg #[.bool d.alive, .slice c0 d.copies.length c1, .slice c2 d.log.length c3, .slice c4 d.cleared.length c5], .agg #[.bool d.alive, .slice b0 d.copies.length b1, .slice b2 d.log.length b3, .slice b4 d.cleared.length b5]] (grow (redrawn wr dd) os) fun e w'' => e = .returned (.bool true) ∧ ∃ p : Regrown, w'' = grow (redrawn wr p.d) p.os := fun dd os => Calls.regrown_of (KM.eq _ c0 c1 c2 c3 c4 c5 b0 b1 b2 b3 b4 b5 d (ht d (List.mem_of_getElem? hd)) (KMk.later hrd (hbl.trans ((below_regrown wr dd os).mono hbl.size))) (KMk.later hrd' (hbl.trans ((below_regrown wr dd os).mono hbl.size))))
          have K : Hid (Below w.heap.size w wr) := hbl
          have jn : (j : Int) < (xs.length : Int) := by omega
          clear hat hat' hrd hrd' hbl h1 h2 ht hd
          go_wp2_with fail
          refine wp_region_quiet_below (by kernel_rfl) (by kernel_rfl) ?_
          repeat (go_big_quiet_step (exact cQ _ _))
          refine wpQuiet_nil ?_
          intro _ hw'
          obtain ⟨⟨dq, osq⟩, hw''⟩ := hw'
          subst hw''
          have bq := below_regrown wr dq osq
          go_wp2
          exact ⟨⟨j + 1, by omega, by simp, K.out.trans (bq.mono K.out.size)⟩, by simp [intOf]; omega⟩
    · obtain rfl : j = xs.length := by omega
      have hd : decide ((xs.length : Int) < (xs.length : Int)) = false := by simp
      clear h1 h2 ht
      go_wp2
      go_ret
      exact ⟨rfl, hbl⟩
/-- The sum of the sizes of a row's elements. -/
def KMS.szs (xs : List M4) : Nat := (xs.map fun d => szM d).sum
set_option maxRecDepth 100000 in
set_option maxHeartbeats 4000000 in
theorem KMS.sz (w : World) (a : Option Addr) (cap : Nat) (xs : List M4) (l : Nat) (hl0 : l ≤ 1048576) (hn : xs.length ≤ maxLen) (hl : ∀ d ∈ xs, ML d) (hs : KMk.RdS w a xs) :
    Calls Tryz.prog 29 #[.slice a xs.length cap, .int .i64 (l : Int)] w fun e w' => e = .returned (.int .i64 (leftR l (xs.length + KMS.szs xs))) ∧ Below w.heap.size w w' := by
  have hn' := hn
  unfold maxLen at hn'
  by_cases h0 : xs.length ≤ l
  · have d0 : decide ((l : Int) - (xs.length : Int) < 0) = false := by simp; omega
    go_enter Tryz.func29, Tryz.ntmps29
    go_wp2
    go_loopw [1, 5] (fun v1 v5 wr => ∃ j : Nat, j ≤ xs.length ∧ v5 = .int .i64 j ∧ xs.length + KMS.szs (xs.take j) ≤ l ∧ v1 = .int .i64 ((l - (xs.length + KMS.szs (xs.take j)) : Nat) : Int) ∧ Below w.heap.size w wr) (fun _ v5 _ => xs.length - (intOf v5).toNat)
    case atStart => exact ⟨0, Nat.zero_le _, rfl, by simpa [KMS.szs] using h0, by simp [KMS.szs]; try omega, Below.refl _ _⟩
    case round =>
      obtain ⟨j, hj, rfl, hle, rfl, hbl⟩ := hrel
      have KL : Hid (xs.length + KMS.szs (xs.take j) ≤ l) := hle
      by_cases hlt : j < xs.length
      · obtain ⟨d, hd⟩ : ∃ d, xs[j]? = some d := ⟨_, List.getElem?_eq_getElem hlt⟩
        rcases hs with hs | ⟨b, off, rfl, hb, h1⟩
        · rw [hs] at hlt; simp at hlt
        obtain ⟨⟨c0, c1, c2, c3, c4, c5⟩, hat, hrd⟩ := h1 j d hd
        have e0 : wr.cell? ⟨b, off + j * 4, none⟩ = some (.bool d.alive) := (hbl.cell (p := ⟨b, off + j * 4, none⟩) hb).trans (hat 0 _ rfl)
        have e1 : wr.cell? ⟨b, off + j * 4 + 1, none⟩ = some (.slice c0 d.copies.length c1) := (hbl.cell (p := ⟨b, off + j * 4 + 1, none⟩) hb).trans (hat 1 _ rfl)
        have e2 : wr.cell? ⟨b, off + j * 4 + 2, none⟩ = some (.slice c2 d.log.length c3) := (hbl.cell (p := ⟨b, off + j * 4 + 2, none⟩) hb).trans (hat 2 _ rfl)
        have e3 : wr.cell? ⟨b, off + j * 4 + 3, none⟩ = some (.slice c4 d.cleared.length c5) := (hbl.cell (p := ⟨b, off + j * 4 + 3, none⟩) hb).trans (hat 3 _ rfl)
        have hz := KM.szl wr c0 c1 c2 c3 c4 c5 d (l - (xs.length + KMS.szs (xs.take j))) (by omega) (hl d (List.mem_of_getElem? hd)) (KMk.later hrd hbl)
        have HST : Hid (KMS.szs (xs.take (j + 1)) = KMS.szs (xs.take j) + szM d) := by
          unfold Hid KMS.szs
          rw [List.map_take, List.map_take]
          exact sum_take_succ (by rw [List.getElem?_map, hd]; rfl)
        have HLE : Hid (KMS.szs (xs.take (j + 1)) ≤ KMS.szs xs) := by unfold Hid KMS.szs; rw [List.map_take]; exact sum_take_le _ _
        have KB : Hid (Below w.heap.size w wr) := hbl
        have jn : (j : Int) < (xs.length : Int) := by omega
        generalize hLL : KMS.szs (xs.take j) = LL at *
        generalize szM d = m at *
        clear h1 hbl hl hle hat hrd hd
        by_cases hfit : m ≤ l - (xs.length + LL)
        · rw [leftR_yes hfit] at hz
          have d1 : decide (((l - (xs.length + LL) - m : Nat) : Int) < 0) = false := by simp
          go_wp2_with fail
          refine hz.mono ?_
          clear hz
          rintro e w1 ⟨rfl, b1⟩
          go_wp2
          have h1 := KL.out
          refine ⟨⟨j + 1, by omega, by simp, by rw [HST.out]; omega, by rw [HST.out]; congr 2; omega, KB.out.trans (b1.mono KB.out.size)⟩, by simp [intOf]; omega⟩
        · rw [leftR_no hfit] at hz
          go_wp2_with fail
          refine hz.mono ?_
          clear hz
          rintro e w1 ⟨rfl, b1⟩
          go_wp2
          go_ret
          have h2 := HST.out
          have h3 := HLE.out
          refine ⟨by rw [leftR_no (by omega)]; rfl, KB.out.trans (b1.mono KB.out.size)⟩
      · obtain rfl : j = xs.length := by omega
        have hd : decide ((xs.length : Int) < (xs.length : Int)) = false := by simp
        rw [List.take_length] at hle ⊢
        clear hs hl KL
        go_wp2
        go_ret
        exact ⟨by rw [leftR_yes hle]; rfl, hbl⟩
  · have d0 : decide ((l : Int) - (xs.length : Int) < 0) = true := by simp; omega
    go_enter Tryz.func29, Tryz.ntmps29
    go_wp2
    go_ret
    exact ⟨by rw [leftR_no (by omega)]; rfl, Below.refl _ _⟩
end Go.Proofs.YtalmflikdnflfaaGreat
