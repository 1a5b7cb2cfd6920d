/- The laws' own counts of a machine. -/
import Derived.Test.YtcockcdhendplaaGreatRows
import Derived.Test.YtcockcdhendplaaGreatMacD

import Derived.WalkKit
import Derived.WalkSpells
import Derived.WalkLawsBesides
import Derived.Below
namespace Go.Proofs.YtcockcdhendplaaGreat
open Go.RowKit
/-- What is left of a bound, or -1. -/
def leftR (l t : Nat) : Int := if t ≤ l then ((l - t : Nat) : Int) else -1
theorem leftR_yes {l t : Nat} (h : t ≤ l) : leftR l t = ((l - t : Nat) : Int) := if_pos h
theorem leftR_no {l t : Nat} (h : ¬ t ≤ l) : leftR l t = -1 := if_neg h
theorem szSetS_l (w : World) (a : Option Addr) (n cap : Nat) (l : Nat) (hn : n ≤ maxLen) (hl : l ≤ 1048576) : Calls Tryz.prog 95 #[.slice a n cap, .int .i64 (l : Int)] w fun e w' => e = .returned (.int .i64 (leftR l n)) ∧ w' = w := by
  unfold maxLen at hn
  by_cases h : n ≤ l
  · rw [leftR_yes h]
    have d0 : decide ((l : Int) - (n : Int) < 0) = false := by simp; omega
    go_enter Tryz.func95, Tryz.ntmps95
    go_wp2
    go_ret
    have e : ((l - n : Nat) : Int) = (l : Int) - (n : Int) := by omega
    exact ⟨by rw [e]; rfl, rfl⟩
  · rw [leftR_no h]
    have d0 : decide ((l : Int) - (n : Int) < 0) = true := by simp; omega
    go_enter Tryz.func95, Tryz.ntmps95
    go_wp2
    go_ret
    exact ⟨rfl, rfl⟩
theorem szCellS_l (w : World) (a : Option Addr) (n cap : Nat) (l : Nat) (hn : n ≤ maxLen) (hl : l ≤ 1048576) : Calls Tryz.prog 29 #[.slice a n cap, .int .i64 (l : Int)] w fun e w' => e = .returned (.int .i64 (leftR l n)) ∧ w' = w := by
  unfold maxLen at hn
  by_cases h : n ≤ l
  · rw [leftR_yes h]
    have d0 : decide ((l : Int) - (n : Int) < 0) = false := by simp; omega
    go_enter Tryz.func29, Tryz.ntmps29
    go_wp2
    go_ret
    have e : ((l - n : Nat) : Int) = (l : Int) - (n : Int) := by omega
    exact ⟨by rw [e]; rfl, rfl⟩
  · rw [leftR_no h]
    have d0 : decide ((l : Int) - (n : Int) < 0) = true := by simp; omega
    go_enter Tryz.func29, Tryz.ntmps29
    go_wp2
    go_ret
    exact ⟨rfl, rfl⟩
theorem szInt64S_l (w : World) (a : Option Addr) (n cap : Nat) (l : Nat) (hn : n ≤ maxLen) (hl : l ≤ 1048576) : Calls Tryz.prog 80 #[.slice a n cap, .int .i64 (l : Int)] w fun e w' => e = .returned (.int .i64 (leftR l n)) ∧ w' = w := by
  unfold maxLen at hn
  by_cases h : n ≤ l
  · rw [leftR_yes h]
    have d0 : decide ((l : Int) - (n : Int) < 0) = false := by simp; omega
    go_enter Tryz.func80, Tryz.ntmps80
    go_wp2
    go_ret
    have e : ((l - n : Nat) : Int) = (l : Int) - (n : Int) := by omega
    exact ⟨by rw [e]; rfl, rfl⟩
  · rw [leftR_no h]
    have d0 : decide ((l : Int) - (n : Int) < 0) = true := by simp; omega
    go_enter Tryz.func80, Tryz.ntmps80
    go_wp2
    go_ret
    exact ⟨rfl, rfl⟩
theorem szRecord_l (w : World) (k t r : Int) (a : Option Addr) (n cap : Nat) (l : Nat) (hn : n ≤ maxLen) (hl : l ≤ 1048576) : Calls Tryz.prog 37 #[.agg #[.int .i64 k, .int .i64 t, .int .i64 r, .slice a n cap], .int .i64 (l : Int)] w fun e w' => e = .returned (.int .i64 (leftR l n)) ∧ Below w.heap.size w w' := by
  have hz := fun W => szSetS_l W a n cap l hn hl
  by_cases h : n ≤ l
  · rw [leftR_yes h] at *
    have d0 : decide (((l - n : Nat) : Int) < 0) = false := by simp
    go_enter Tryz.func37, Tryz.ntmps37
    go_wp2_with (go_at_call 95; refine (hz _).mono ?_; rintro e w' ⟨rfl, rfl⟩)
    go_ret
    exact ⟨rfl, (Below.refl _ _).alloc (Nat.le_refl _) _⟩
  · rw [leftR_no h] at *
    go_enter Tryz.func37, Tryz.ntmps37
    go_wp2_with (go_at_call 95; refine (hz _).mono ?_; rintro e w' ⟨rfl, rfl⟩)
    go_ret
    exact ⟨rfl, (Below.refl _ _).alloc (Nat.le_refl _) _⟩
theorem szCopy_l (w : World) (r : Int) (a : Option Addr) (n cap : Nat) (l : Nat) (hn : n ≤ maxLen) (hl : l ≤ 1048576) : Calls Tryz.prog 142 #[.agg #[.int .i64 r, .slice a n cap], .int .i64 (l : Int)] w fun e w' => e = .returned (.int .i64 (leftR l n)) ∧ Below w.heap.size w w' := by
  have hz := fun W => szCellS_l W a n cap l hn hl
  by_cases h : n ≤ l
  · rw [leftR_yes h] at *
    have d0 : decide (((l - n : Nat) : Int) < 0) = false := by simp
    go_enter Tryz.func142, Tryz.ntmps142
    go_wp2_with (go_at_call 29; refine (hz _).mono ?_; rintro e w' ⟨rfl, rfl⟩)
    go_ret
    exact ⟨rfl, (Below.refl _ _).alloc (Nat.le_refl _) _⟩
  · rw [leftR_no h] at *
    go_enter Tryz.func142, Tryz.ntmps142
    go_wp2_with (go_at_call 29; refine (hz _).mono ?_; rintro e w' ⟨rfl, rfl⟩)
    go_ret
    exact ⟨rfl, (Below.refl _ _).alloc (Nat.le_refl _) _⟩
set_option maxHeartbeats 2000000 in
theorem szRecordS_l (w : World) (a : Option Addr) (n cap : Nat) (rs : List R4) (l : Nat) (hn : n ≤ maxLen) (hl0 : l ≤ 1048576) (hs : SlR w w.heap.size a n rs) (hl : ∀ r ∈ rs, r.sets.length ≤ maxLen) :
    Calls Tryz.prog 79 #[.slice a n cap, .int .i64 (l : Int)] w fun e w' => e = .returned (.int .i64 (leftR l (n + lensR rs))) ∧ Below w.heap.size w w' := by
  obtain ⟨hx, hs⟩ := hs
  have hn' := hn
  unfold maxLen at hn'
  by_cases h0 : n ≤ l
  · have d0 : decide ((l : Int) - (n : Int) < 0) = false := by simp; omega
    have el : (l : Int) - (n : Int) = ((l - n : Nat) : Int) := by omega
    go_enter Tryz.func79, Tryz.ntmps79
    go_wp2
    go_loopw [1, 5] (fun v1 v5 wr => ∃ j : Nat, j ≤ n ∧ v5 = .int .i64 j ∧ n + lensR (rs.take j) ≤ l ∧ v1 = .int .i64 ((l - (n + lensR (rs.take j)) : Nat) : Int) ∧ Below w.heap.size w wr) (fun _ v5 _ => n - (intOf v5).toNat)
    case atStart => exact ⟨0, Nat.zero_le _, rfl, by simpa [lensR] using h0, by simp [lensR]; try omega, Below.refl _ _⟩
    case round =>
      obtain ⟨j, hj, rfl, hle, rfl, hbl⟩ := hrel
      have KL : Hid (n + lensR (rs.take j) ≤ l ∧ rs.length = n) := ⟨hle, hx⟩
      clear el
      by_cases hlt : j < n
      · rcases hs with hs | ⟨b, off, rfl, hb, h1⟩
        · omega
        · have hat := h1 j _ (atR_of (by omega))
          obtain ⟨a', cap', hc, _, _⟩ := hat.c3
          have e0 := (hbl.cell (p := ⟨b, off + j * 4, none⟩) hb).trans hat.c0
          have e1 := (hbl.cell (p := ⟨b, off + j * 4 + 1, none⟩) hb).trans hat.c1
          have e2 := (hbl.cell (p := ⟨b, off + j * 4 + 2, none⟩) hb).trans hat.c2
          have e3 := (hbl.cell (p := ⟨b, off + j * 4 + 3, none⟩) hb).trans hc
          have hz := szRecord_l wr (atR rs j).kind (atR rs j).tx (atR rs j).region a' (atR rs j).sets.length cap' (l - (n + lensR (rs.take j))) (hl _ (List.mem_of_getElem? (atR_of (by omega)))) (by omega)
          have HST : Hid (lensR (rs.take (j + 1)) = lensR (rs.take j) + (atR rs j).sets.length) := by
            unfold Hid lensR
            rw [List.map_take, List.map_take]
            exact sum_take_succ (by rw [List.getElem?_map, atR_of (by omega)]; rfl)
          have HLE : Hid (lensR (rs.take (j + 1)) ≤ lensR rs) := by unfold Hid lensR; rw [List.map_take]; exact sum_take_le _ _
          have KB : Hid (Below w.heap.size w wr) := hbl
          generalize hLL : lensR (rs.take j) = LL at *
          generalize (atR rs j).sets.length = m at *
          generalize (atR rs j).kind = rk at *
          generalize (atR rs j).tx = rt at *
          generalize (atR rs j).region = rr at *
          clear h1 hc hbl hl hx hle hat
          by_cases hfit : m ≤ l - (n + LL)
          · rw [leftR_yes hfit] at hz
            have d1 : decide (((l - (n + LL) - m : Nat) : Int) < 0) = false := by simp
            go_wp2_with fail
            refine hz.mono ?_
            clear hz
            rintro e w1 ⟨rfl, b1⟩
            go_wp2
            have h1 := KL.out.1
            refine ⟨⟨j + 1, by omega, by simp, by rw [HST.out]; omega, by rw [HST.out]; congr 2; omega, KB.out.trans (b1.mono KB.out.size)⟩, by simp [intOf]; omega⟩
          · rw [leftR_no hfit] at hz
            go_wp2_with fail
            refine hz.mono ?_
            clear hz
            rintro e w1 ⟨rfl, b1⟩
            go_wp2
            go_ret
            have h2 := HST.out
            have h3 := HLE.out
            refine ⟨by rw [leftR_no (by omega)]; rfl, KB.out.trans (b1.mono KB.out.size)⟩
      · have : j = n := by omega
        subst this
        have hd : decide ((j : Int) < (j : Int)) = false := by simp
        have ht : rs.take j = rs := List.take_of_length_le (by omega)
        rw [ht] at hle ⊢
        clear hs hl KL ht
        go_wp2
        go_ret
        exact ⟨by rw [leftR_yes hle]; rfl, hbl⟩
  · have d0 : decide ((l : Int) - (n : Int) < 0) = true := by simp; omega
    go_enter Tryz.func79, Tryz.ntmps79
    go_wp2
    go_ret
    exact ⟨by rw [leftR_no (by omega)]; rfl, Below.refl _ _⟩
set_option maxHeartbeats 2000000 in
theorem szCopyS_l (w : World) (a : Option Addr) (n cap : Nat) (rs : List K2) (l : Nat) (hn : n ≤ maxLen) (hl0 : l ≤ 1048576) (hs : SlK w w.heap.size a n rs) (hl : ∀ r ∈ rs, r.cells.length ≤ maxLen) :
    Calls Tryz.prog 78 #[.slice a n cap, .int .i64 (l : Int)] w fun e w' => e = .returned (.int .i64 (leftR l (n + lensK rs))) ∧ Below w.heap.size w w' := by
  obtain ⟨hx, hs⟩ := hs
  have hn' := hn
  unfold maxLen at hn'
  by_cases h0 : n ≤ l
  · have d0 : decide ((l : Int) - (n : Int) < 0) = false := by simp; omega
    have el : (l : Int) - (n : Int) = ((l - n : Nat) : Int) := by omega
    go_enter Tryz.func78, Tryz.ntmps78
    go_wp2
    go_loopw [1, 5] (fun v1 v5 wr => ∃ j : Nat, j ≤ n ∧ v5 = .int .i64 j ∧ n + lensK (rs.take j) ≤ l ∧ v1 = .int .i64 ((l - (n + lensK (rs.take j)) : Nat) : Int) ∧ Below w.heap.size w wr) (fun _ v5 _ => n - (intOf v5).toNat)
    case atStart => exact ⟨0, Nat.zero_le _, rfl, by simpa [lensK] using h0, by simp [lensK]; try omega, Below.refl _ _⟩
    case round =>
      obtain ⟨j, hj, rfl, hle, rfl, hbl⟩ := hrel
      have KL : Hid (n + lensK (rs.take j) ≤ l ∧ rs.length = n) := ⟨hle, hx⟩
      clear el
      by_cases hlt : j < n
      · rcases hs with hs | ⟨b, off, rfl, hb, h1⟩
        · omega
        · have hat := h1 j _ (atK_of (by omega))
          obtain ⟨a', cap', hc, _, _⟩ := hat.c1
          have e0 := (hbl.cell (p := ⟨b, off + j * 2, none⟩) hb).trans hat.c0
          have e1 := (hbl.cell (p := ⟨b, off + j * 2 + 1, none⟩) hb).trans hc
          have hz := szCopy_l wr (atK rs j).region a' (atK rs j).cells.length cap' (l - (n + lensK (rs.take j))) (hl _ (List.mem_of_getElem? (atK_of (by omega)))) (by omega)
          have HST : Hid (lensK (rs.take (j + 1)) = lensK (rs.take j) + (atK rs j).cells.length) := by
            unfold Hid lensK
            rw [List.map_take, List.map_take]
            exact sum_take_succ (by rw [List.getElem?_map, atK_of (by omega)]; rfl)
          have HLE : Hid (lensK (rs.take (j + 1)) ≤ lensK rs) := by unfold Hid lensK; rw [List.map_take]; exact sum_take_le _ _
          have KB : Hid (Below w.heap.size w wr) := hbl
          generalize hLL : lensK (rs.take j) = LL at *
          generalize (atK rs j).cells.length = m at *
          generalize (atK rs j).region = rr at *
          clear h1 hc hbl hl hx hle hat
          by_cases hfit : m ≤ l - (n + LL)
          · rw [leftR_yes hfit] at hz
            have d1 : decide (((l - (n + LL) - m : Nat) : Int) < 0) = false := by simp
            go_wp2_with fail
            refine hz.mono ?_
            clear hz
            rintro e w1 ⟨rfl, b1⟩
            go_wp2
            have h1 := KL.out.1
            refine ⟨⟨j + 1, by omega, by simp, by rw [HST.out]; omega, by rw [HST.out]; congr 2; omega, KB.out.trans (b1.mono KB.out.size)⟩, by simp [intOf]; omega⟩
          · rw [leftR_no hfit] at hz
            go_wp2_with fail
            refine hz.mono ?_
            clear hz
            rintro e w1 ⟨rfl, b1⟩
            go_wp2
            go_ret
            have h2 := HST.out
            have h3 := HLE.out
            refine ⟨by rw [leftR_no (by omega)]; rfl, KB.out.trans (b1.mono KB.out.size)⟩
      · have : j = n := by omega
        subst this
        have hd : decide ((j : Int) < (j : Int)) = false := by simp
        have ht : rs.take j = rs := List.take_of_length_le (by omega)
        rw [ht] at hle ⊢
        clear hs hl KL ht
        go_wp2
        go_ret
        exact ⟨by rw [leftR_yes hle]; rfl, hbl⟩
  · have d0 : decide ((l : Int) - (n : Int) < 0) = true := by simp; omega
    go_enter Tryz.func78, Tryz.ntmps78
    go_wp2
    go_ret
    exact ⟨by rw [leftR_no (by omega)]; rfl, Below.refl _ _⟩
end Go.Proofs.YtcockcdhendplaaGreat
