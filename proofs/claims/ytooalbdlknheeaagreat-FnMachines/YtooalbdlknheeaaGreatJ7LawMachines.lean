/- MacSz; Eqs: joined. -/
import Derived.Test.YtooalbdlknheeaaGreatRows
import Derived.Test.YtooalbdlknheeaaGreatJ3LawMachines
import Derived.WalkKit
import Derived.WalkSpells
import Derived.WalkLawsBesides
import Derived.Below
import Derived.Test.YtooalbdlknheeaaGreatJ0LawMachines
import Derived.Lib.QuietBelow
import Derived.BigQuiet
/- The laws' own counts of a machine. -/

namespace Go.Proofs.YtooalbdlknheeaaGreat
open Go.RowKit
/-- What is left of a bound, or -1. -/
def leftR (l t : Nat) : Int := if t ≤ l then ((l - t : Nat) : Int) else -1
theorem leftR_yes {l t : Nat} (h : t ≤ l) : leftR l t = ((l - t : Nat) : Int) := if_pos h
theorem leftR_no {l t : Nat} (h : ¬ t ≤ l) : leftR l t = -1 := if_neg h
theorem szSetS_l (w : World) (a : Option Addr) (n cap : Nat) (l : Nat) (hn : n ≤ maxLen) (hl : l ≤ 1048576) : Calls Tryz.prog 100 #[.slice a n cap, .int .i64 (l : Int)] w fun e w' => e = .returned (.int .i64 (leftR l n)) ∧ w' = w := by
  unfold maxLen at hn
  by_cases h : n ≤ l
  · rw [leftR_yes h]
    have d0 : decide ((l : Int) - (n : Int) < 0) = false := by simp; omega
    go_enter Tryz.func100, Tryz.ntmps100
    go_wp2
    go_ret
    have e : ((l - n : Nat) : Int) = (l : Int) - (n : Int) := by omega
    exact ⟨by rw [e]; rfl, rfl⟩
  · rw [leftR_no h]
    have d0 : decide ((l : Int) - (n : Int) < 0) = true := by simp; omega
    go_enter Tryz.func100, Tryz.ntmps100
    go_wp2
    go_ret
    exact ⟨rfl, rfl⟩
theorem szCellS_l (w : World) (a : Option Addr) (n cap : Nat) (l : Nat) (hn : n ≤ maxLen) (hl : l ≤ 1048576) : Calls Tryz.prog 30 #[.slice a n cap, .int .i64 (l : Int)] w fun e w' => e = .returned (.int .i64 (leftR l n)) ∧ w' = w := by
  unfold maxLen at hn
  by_cases h : n ≤ l
  · rw [leftR_yes h]
    have d0 : decide ((l : Int) - (n : Int) < 0) = false := by simp; omega
    go_enter Tryz.func30, Tryz.ntmps30
    go_wp2
    go_ret
    have e : ((l - n : Nat) : Int) = (l : Int) - (n : Int) := by omega
    exact ⟨by rw [e]; rfl, rfl⟩
  · rw [leftR_no h]
    have d0 : decide ((l : Int) - (n : Int) < 0) = true := by simp; omega
    go_enter Tryz.func30, Tryz.ntmps30
    go_wp2
    go_ret
    exact ⟨rfl, rfl⟩
theorem szInt64S_l (w : World) (a : Option Addr) (n cap : Nat) (l : Nat) (hn : n ≤ maxLen) (hl : l ≤ 1048576) : Calls Tryz.prog 85 #[.slice a n cap, .int .i64 (l : Int)] w fun e w' => e = .returned (.int .i64 (leftR l n)) ∧ w' = w := by
  unfold maxLen at hn
  by_cases h : n ≤ l
  · rw [leftR_yes h]
    have d0 : decide ((l : Int) - (n : Int) < 0) = false := by simp; omega
    go_enter Tryz.func85, Tryz.ntmps85
    go_wp2
    go_ret
    have e : ((l - n : Nat) : Int) = (l : Int) - (n : Int) := by omega
    exact ⟨by rw [e]; rfl, rfl⟩
  · rw [leftR_no h]
    have d0 : decide ((l : Int) - (n : Int) < 0) = true := by simp; omega
    go_enter Tryz.func85, Tryz.ntmps85
    go_wp2
    go_ret
    exact ⟨rfl, rfl⟩
theorem szRecord_l (w : World) (k t r : Int) (a : Option Addr) (n cap : Nat) (l : Nat) (hn : n ≤ maxLen) (hl : l ≤ 1048576) : Calls Tryz.prog 38 #[.agg #[.int .i64 k, .int .i64 t, .int .i64 r, .slice a n cap], .int .i64 (l : Int)] w fun e w' => e = .returned (.int .i64 (leftR l n)) ∧ Below w.heap.size w w' := by
  have hz := fun W => szSetS_l W a n cap l hn hl
  by_cases h : n ≤ l
  · rw [leftR_yes h] at *
    have d0 : decide (((l - n : Nat) : Int) < 0) = false := by simp
    go_enter Tryz.func38, Tryz.ntmps38
    go_wp2_with (go_at_call 100; refine (hz _).mono ?_; rintro e w' ⟨rfl, rfl⟩)
    go_ret
    exact ⟨rfl, (Below.refl _ _).alloc (Nat.le_refl _) _⟩
  · rw [leftR_no h] at *
    go_enter Tryz.func38, Tryz.ntmps38
    go_wp2_with (go_at_call 100; refine (hz _).mono ?_; rintro e w' ⟨rfl, rfl⟩)
    go_ret
    exact ⟨rfl, (Below.refl _ _).alloc (Nat.le_refl _) _⟩
theorem szCopy_l (w : World) (r : Int) (a : Option Addr) (n cap : Nat) (l : Nat) (hn : n ≤ maxLen) (hl : l ≤ 1048576) : Calls Tryz.prog 149 #[.agg #[.int .i64 r, .slice a n cap], .int .i64 (l : Int)] w fun e w' => e = .returned (.int .i64 (leftR l n)) ∧ Below w.heap.size w w' := by
  have hz := fun W => szCellS_l W a n cap l hn hl
  by_cases h : n ≤ l
  · rw [leftR_yes h] at *
    have d0 : decide (((l - n : Nat) : Int) < 0) = false := by simp
    go_enter Tryz.func149, Tryz.ntmps149
    go_wp2_with (go_at_call 30; refine (hz _).mono ?_; rintro e w' ⟨rfl, rfl⟩)
    go_ret
    exact ⟨rfl, (Below.refl _ _).alloc (Nat.le_refl _) _⟩
  · rw [leftR_no h] at *
    go_enter Tryz.func149, Tryz.ntmps149
    go_wp2_with (go_at_call 30; refine (hz _).mono ?_; rintro e w' ⟨rfl, rfl⟩)
    go_ret
    exact ⟨rfl, (Below.refl _ _).alloc (Nat.le_refl _) _⟩
set_option maxHeartbeats 2000000 in
theorem szRecordS_l (w : World) (a : Option Addr) (n cap : Nat) (rs : List R4) (l : Nat) (hn : n ≤ maxLen) (hl0 : l ≤ 1048576) (hs : SlR w w.heap.size a n rs) (hl : ∀ r ∈ rs, r.sets.length ≤ maxLen) :
    Calls Tryz.prog 84 #[.slice a n cap, .int .i64 (l : Int)] w fun e w' => e = .returned (.int .i64 (leftR l (n + lensR rs))) ∧ Below w.heap.size w w' := by
  obtain ⟨hx, hs⟩ := hs
  have hn' := hn
  unfold maxLen at hn'
  by_cases h0 : n ≤ l
  · have d0 : decide ((l : Int) - (n : Int) < 0) = false := by simp; omega
    have el : (l : Int) - (n : Int) = ((l - n : Nat) : Int) := by omega
    go_enter Tryz.func84, Tryz.ntmps84
    go_wp2
    go_loopw [1, 5] (fun v1 v5 wr => ∃ j : Nat, j ≤ n ∧ v5 = .int .i64 j ∧ n + lensR (rs.take j) ≤ l ∧ v1 = .int .i64 ((l - (n + lensR (rs.take j)) : Nat) : Int) ∧ Below w.heap.size w wr) (fun _ v5 _ => n - (intOf v5).toNat)
    case atStart => exact ⟨0, Nat.zero_le _, rfl, by simpa [lensR] using h0, by simp [lensR]; try omega, Below.refl _ _⟩
    case round =>
      obtain ⟨j, hj, rfl, hle, rfl, hbl⟩ := hrel
      have KL : Hid (n + lensR (rs.take j) ≤ l ∧ rs.length = n) := ⟨hle, hx⟩
      clear el
      by_cases hlt : j < n
      · rcases hs with hs | ⟨b, off, rfl, hb, h1⟩
        · omega
        · have hat := h1 j _ (atR_of (by omega))
          obtain ⟨a', cap', hc, _, _⟩ := hat.c3
          have e0 := (hbl.cell (p := ⟨b, off + j * 4, none⟩) hb).trans hat.c0
          have e1 := (hbl.cell (p := ⟨b, off + j * 4 + 1, none⟩) hb).trans hat.c1
          have e2 := (hbl.cell (p := ⟨b, off + j * 4 + 2, none⟩) hb).trans hat.c2
          have e3 := (hbl.cell (p := ⟨b, off + j * 4 + 3, none⟩) hb).trans hc
          have hz := szRecord_l wr (atR rs j).kind (atR rs j).tx (atR rs j).region a' (atR rs j).sets.length cap' (l - (n + lensR (rs.take j))) (hl _ (List.mem_of_getElem? (atR_of (by omega)))) (by omega)
          have HST : Hid (lensR (rs.take (j + 1)) = lensR (rs.take j) + (atR rs j).sets.length) := by
            unfold Hid lensR
            rw [List.map_take, List.map_take]
            exact sum_take_succ (by rw [List.getElem?_map, atR_of (by omega)]; rfl)
          have HLE : Hid (lensR (rs.take (j + 1)) ≤ lensR rs) := by unfold Hid lensR; rw [List.map_take]; exact sum_take_le _ _
          have KB : Hid (Below w.heap.size w wr) := hbl
          generalize hLL : lensR (rs.take j) = LL at *
          generalize (atR rs j).sets.length = m at *
          generalize (atR rs j).kind = rk at *
          generalize (atR rs j).tx = rt at *
          generalize (atR rs j).region = rr at *
          clear h1 hc hbl hl hx hle hat
          by_cases hfit : m ≤ l - (n + LL)
          · rw [leftR_yes hfit] at hz
            have d1 : decide (((l - (n + LL) - m : Nat) : Int) < 0) = false := by simp
            go_wp2_with fail
            refine hz.mono ?_
            clear hz
            rintro e w1 ⟨rfl, b1⟩
            go_wp2
            have h1 := KL.out.1
            refine ⟨⟨j + 1, by omega, by simp, by rw [HST.out]; omega, by rw [HST.out]; congr 2; omega, KB.out.trans (b1.mono KB.out.size)⟩, by simp [intOf]; omega⟩
          · rw [leftR_no hfit] at hz
            go_wp2_with fail
            refine hz.mono ?_
            clear hz
            rintro e w1 ⟨rfl, b1⟩
            go_wp2
            go_ret
            have h2 := HST.out
            have h3 := HLE.out
            refine ⟨by rw [leftR_no (by omega)]; rfl, KB.out.trans (b1.mono KB.out.size)⟩
      · have : j = n := by omega
        subst this
        have hd : decide ((j : Int) < (j : Int)) = false := by simp
        have ht : rs.take j = rs := List.take_of_length_le (by omega)
        rw [ht] at hle ⊢
        clear hs hl KL ht
        go_wp2
        go_ret
        exact ⟨by rw [leftR_yes hle]; rfl, hbl⟩
  · have d0 : decide ((l : Int) - (n : Int) < 0) = true := by simp; omega
    go_enter Tryz.func84, Tryz.ntmps84
    go_wp2
    go_ret
    exact ⟨by rw [leftR_no (by omega)]; rfl, Below.refl _ _⟩
set_option maxHeartbeats 2000000 in
theorem szCopyS_l (w : World) (a : Option Addr) (n cap : Nat) (rs : List K2) (l : Nat) (hn : n ≤ maxLen) (hl0 : l ≤ 1048576) (hs : SlK w w.heap.size a n rs) (hl : ∀ r ∈ rs, r.cells.length ≤ maxLen) :
    Calls Tryz.prog 83 #[.slice a n cap, .int .i64 (l : Int)] w fun e w' => e = .returned (.int .i64 (leftR l (n + lensK rs))) ∧ Below w.heap.size w w' := by
  obtain ⟨hx, hs⟩ := hs
  have hn' := hn
  unfold maxLen at hn'
  by_cases h0 : n ≤ l
  · have d0 : decide ((l : Int) - (n : Int) < 0) = false := by simp; omega
    have el : (l : Int) - (n : Int) = ((l - n : Nat) : Int) := by omega
    go_enter Tryz.func83, Tryz.ntmps83
    go_wp2
    go_loopw [1, 5] (fun v1 v5 wr => ∃ j : Nat, j ≤ n ∧ v5 = .int .i64 j ∧ n + lensK (rs.take j) ≤ l ∧ v1 = .int .i64 ((l - (n + lensK (rs.take j)) : Nat) : Int) ∧ Below w.heap.size w wr) (fun _ v5 _ => n - (intOf v5).toNat)
    case atStart => exact ⟨0, Nat.zero_le _, rfl, by simpa [lensK] using h0, by simp [lensK]; try omega, Below.refl _ _⟩
    case round =>
      obtain ⟨j, hj, rfl, hle, rfl, hbl⟩ := hrel
      have KL : Hid (n + lensK (rs.take j) ≤ l ∧ rs.length = n) := ⟨hle, hx⟩
      clear el
      by_cases hlt : j < n
      · rcases hs with hs | ⟨b, off, rfl, hb, h1⟩
        · omega
        · have hat := h1 j _ (atK_of (by omega))
          obtain ⟨a', cap', hc, _, _⟩ := hat.c1
          have e0 := (hbl.cell (p := ⟨b, off + j * 2, none⟩) hb).trans hat.c0
          have e1 := (hbl.cell (p := ⟨b, off + j * 2 + 1, none⟩) hb).trans hc
          have hz := szCopy_l wr (atK rs j).region a' (atK rs j).cells.length cap' (l - (n + lensK (rs.take j))) (hl _ (List.mem_of_getElem? (atK_of (by omega)))) (by omega)
          have HST : Hid (lensK (rs.take (j + 1)) = lensK (rs.take j) + (atK rs j).cells.length) := by
            unfold Hid lensK
            rw [List.map_take, List.map_take]
            exact sum_take_succ (by rw [List.getElem?_map, atK_of (by omega)]; rfl)
          have HLE : Hid (lensK (rs.take (j + 1)) ≤ lensK rs) := by unfold Hid lensK; rw [List.map_take]; exact sum_take_le _ _
          have KB : Hid (Below w.heap.size w wr) := hbl
          generalize hLL : lensK (rs.take j) = LL at *
          generalize (atK rs j).cells.length = m at *
          generalize (atK rs j).region = rr at *
          clear h1 hc hbl hl hx hle hat
          by_cases hfit : m ≤ l - (n + LL)
          · rw [leftR_yes hfit] at hz
            have d1 : decide (((l - (n + LL) - m : Nat) : Int) < 0) = false := by simp
            go_wp2_with fail
            refine hz.mono ?_
            clear hz
            rintro e w1 ⟨rfl, b1⟩
            go_wp2
            have h1 := KL.out.1
            refine ⟨⟨j + 1, by omega, by simp, by rw [HST.out]; omega, by rw [HST.out]; congr 2; omega, KB.out.trans (b1.mono KB.out.size)⟩, by simp [intOf]; omega⟩
          · rw [leftR_no hfit] at hz
            go_wp2_with fail
            refine hz.mono ?_
            clear hz
            rintro e w1 ⟨rfl, b1⟩
            go_wp2
            go_ret
            have h2 := HST.out
            have h3 := HLE.out
            refine ⟨by rw [leftR_no (by omega)]; rfl, KB.out.trans (b1.mono KB.out.size)⟩
      · have : j = n := by omega
        subst this
        have hd : decide ((j : Int) < (j : Int)) = false := by simp
        have ht : rs.take j = rs := List.take_of_length_le (by omega)
        rw [ht] at hle ⊢
        clear hs hl KL ht
        go_wp2
        go_ret
        exact ⟨by rw [leftR_yes hle]; rfl, hbl⟩
  · have d0 : decide ((l : Int) - (n : Int) < 0) = true := by simp; omega
    go_enter Tryz.func83, Tryz.ntmps83
    go_wp2
    go_ret
    exact ⟨by rw [leftR_no (by omega)]; rfl, Below.refl _ _⟩
end Go.Proofs.YtooalbdlknheeaaGreat
/- The law's comparison of Sets and Records: it says yes where both hold the same, and turns nothing. -/
namespace Go.Proofs.YtooalbdlknheeaaGreat
open Go.RowKit
open Go.Sort (grow)
theorem SetAt.regrown {w : World} {b o : Nat} {s : S5} (h : SetAt w b o s) (d : Nat) (os : Array Obj) : SetAt (grow (redrawn w d) os) b o s :=
  ⟨cell_regrown h.c0 d os, cell_regrown h.c1 d os, cell_regrown h.c2 d os, cell_regrown h.c3 d os, cell_regrown h.c4 d os⟩
set_option maxHeartbeats 1000000 in
theorem eqSet_same (w : World) (s : S5) : Calls Tryz.prog 153 #[.agg #[.int .i64 s.region, .int .i64 s.slot, .int .i64 s.value, .bool s.used, .int .i64 s.version], .agg #[.int .i64 s.region, .int .i64 s.slot, .int .i64 s.value, .bool s.used, .int .i64 s.version]] w fun e w' =>
    e = .returned (.bool true) ∧ Below w.heap.size w w' := by
  obtain ⟨r, l, v, u, x⟩ := s
  go_enter Tryz.func153, Tryz.ntmps153
  go_wp2
  go_ret
  exact ⟨rfl, ((Below.refl _ _).alloc (Nat.le_refl _) _).alloc (by simp) _⟩
set_option maxHeartbeats 1000000 in
theorem eqSetS_some (w : World) (b off cap b' off' cap' n : Nat) (xs : List S5) (hx : xs.length = n) (hn : n ≤ maxLen) (h1 : SetsAt w b off xs) (hb : b < w.heap.size) (h2 : SetsAt w b' off' xs) (hb' : b' < w.heap.size) :
    Calls Tryz.prog 102 #[.slice (some ⟨b, off, none⟩) n cap, .slice (some ⟨b', off', none⟩) n cap'] w fun e w' => e = .returned (.bool true) ∧ Below w.heap.size w w' := by
  unfold maxLen at hn
  go_enter Tryz.func102, Tryz.ntmps102
  go_wp2
  go_loopw [5] (fun i wr => ∃ k : Nat, k ≤ n ∧ i = .int .i64 k ∧ Below w.heap.size w wr) (fun i _ => n - (intOf i).toNat)
  case atStart => exact ⟨0, Nat.zero_le _, rfl, Below.refl _ _⟩
  case round =>
    obtain ⟨k, hk, rfl, hbl⟩ := hrel
    by_cases hlt : k < n
    · obtain ⟨s, hsk⟩ : ∃ s, xs[k]? = some s := ⟨xs[k]'(by omega), by simp⟩
      have t1 := (((h1 k s hsk).below hbl hb).regrown)
      have t2 := (((h2 k s hsk).below hbl hb').regrown)
      have c0 := fun d os => (t1 d os).c0
      have c1 := fun d os => (t1 d os).c1
      have c2 := fun d os => (t1 d os).c2
      have c3 := fun d os => (t1 d os).c3
      have c4 := fun d os => (t1 d os).c4
      have e0 := fun d os => (t2 d os).c0
      have e1 := fun d os => (t2 d os).c1
      have e2 := fun d os => (t2 d os).c2
      have e3 := fun d os => (t2 d os).c3
      have e4 := fun d os => (t2 d os).c4
      have cQ : ∀ d os, Calls Tryz.prog 153 #[.agg #[.int .i64 s.region, .int .i64 s.slot, .int .i64 s.value, .bool s.used, .int .i64 s.version], .agg #[.int .i64 s.region, .int .i64 s.slot, .int .i64 s.value, .bool s.used, .int .i64 s.version]] (grow (redrawn wr d) os) fun e w'' => e = .returned (.bool true) ∧ ∃ p : Regrown, w'' = grow (redrawn wr p.d) p.os := fun d os => Calls.regrown_of (eqSet_same _ s)
      have K : Hid (Below w.heap.size w wr) := hbl
      clear t1 t2 hbl hsk h1 h2
      go_wp2_with fail
      refine wp_region_quiet_below (by kernel_rfl) (by kernel_rfl) ?_
      repeat (quiet_step (exact cQ _ _))
      refine wpQuiet_nil ?_
      intro _ hw'
      obtain ⟨⟨dq, osq⟩, hw''⟩ := hw'
      subst hw''
      have bq := below_regrown wr dq osq
      go_wp2
      exact ⟨⟨k + 1, by omega, by simp, K.out.trans (bq.mono K.out.size)⟩, by simp [intOf]; omega⟩
    · have : k = n := by omega
      subst this
      have hd : decide (k < k) = false := by simp
      go_wp2
      go_ret
      exact ⟨rfl, hbl⟩
theorem eqSetS_none (w : World) (a a' : Option Addr) (cap cap' : Nat) : Calls Tryz.prog 102 #[.slice a 0 cap, .slice a' 0 cap'] w fun e w' => e = .returned (.bool true) ∧ Below w.heap.size w w' := by
  go_enter Tryz.func102, Tryz.ntmps102
  go_wp2
  go_loopw [5] (fun i wr => i = .int .i64 0 ∧ Below w.heap.size w wr) (fun _ _ => 0)
  case atStart => exact ⟨rfl, Below.refl _ _⟩
  case round =>
    obtain ⟨rfl, hbl⟩ := hrel
    go_wp2
    go_ret
    exact ⟨rfl, hbl⟩
theorem eqSetS_any (w : World) (a a' : Option Addr) (n cap cap' : Nat) (xs : List S5) (hn : n ≤ maxLen) (h1 : Sl w w.heap.size a n xs) (h2 : Sl w w.heap.size a' n xs) :
    Calls Tryz.prog 102 #[.slice a n cap, .slice a' n cap'] w fun e w' => e = .returned (.bool true) ∧ Below w.heap.size w w' := by
  obtain ⟨hx, h1⟩ := h1
  obtain ⟨_, h2⟩ := h2
  rcases h1 with rfl | ⟨b, off, rfl, hb, h1⟩
  · exact eqSetS_none w a a' cap cap'
  · rcases h2 with rfl | ⟨b', off', rfl, hb', h2⟩
    · exact eqSetS_none w _ a' cap cap'
    · exact eqSetS_some w b off cap b' off' cap' n xs hx hn h1 hb h2 hb'
set_option maxHeartbeats 1000000 in
theorem eqRecord_same (w : World) (k t r : Int) (a a' : Option Addr) (n cap cap' : Nat) (xs : List S5) (hn : n ≤ maxLen) (h1 : Sl w w.heap.size a n xs) (h2 : Sl w w.heap.size a' n xs) :
    Calls Tryz.prog 40 #[.agg #[.int .i64 k, .int .i64 t, .int .i64 r, .slice a n cap], .agg #[.int .i64 k, .int .i64 t, .int .i64 r, .slice a' n cap']] w fun e w' => e = .returned (.bool true) ∧ Below w.heap.size w w' := by
  go_enter Tryz.func40, Tryz.ntmps40
  go_wp2_with fail
  have b0 : Below w.heap.size w ((w.alloc (.cells #[.int .i64 k, .int .i64 t, .int .i64 r, .slice a n cap] 41)).alloc (.cells #[.int .i64 k, .int .i64 t, .int .i64 r, .slice a' n cap'] 41)) := ((Below.refl _ _).alloc (Nat.le_refl _) _).alloc (by simp) _
  refine (eqSetS_any _ a a' n cap cap' xs hn ((h1.below b0).mono b0.size) ((h2.below b0).mono b0.size)).mono ?_
  rintro e w' ⟨rfl, b1⟩
  go_wp2
  go_ret
  exact ⟨rfl, b0.trans (b1.mono b0.size)⟩
end Go.Proofs.YtooalbdlknheeaaGreat
