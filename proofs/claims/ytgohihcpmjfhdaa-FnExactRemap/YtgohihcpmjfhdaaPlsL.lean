/- The laws' own counts, copies, comparisons and marks of Places. -/
import Derived.Test.YtgohihcpmjfhdaaRows
import Derived.Test.YtgohihcpmjfhdaaPls
import Derived.WalkKit
import Derived.WalkSpells
import Derived.WalkLawsBesides
import Derived.Below
import Derived.BigQuiet
import Derived.Deep.QuietTactic
import Derived.Lib.QuietBelow
namespace Go.Proofs.Ytgohihcpmjfhdaa
open Go.RowKit
open Go.Sort (grow)
theorem szInt64S_any (w : World) (a : Option Addr) (n cap : Nat) (l : Nat) (hn : n ≤ maxLen) (hl : l ≤ 1048576) : Calls Try.prog 63 #[.slice a n cap, .int .i64 (l : Int)] w fun e w' => e = .returned (.int .i64 (if n ≤ l then ((l - n : Nat) : Int) else -1)) ∧ w' = w := by
  unfold maxLen at hn
  by_cases h : n ≤ l
  · rw [if_pos h]
    have d0 : decide ((l : Int) - (n : Int) < 0) = false := by simp; omega
    go_enter Try.func63, Try.ntmps63
    go_wp2
    go_ret
    have e : ((l - n : Nat) : Int) = (l : Int) - (n : Int) := by omega
    exact ⟨by rw [e]; rfl, rfl⟩
  · rw [if_neg h]
    have d0 : decide ((l : Int) - (n : Int) < 0) = true := by simp; omega
    go_enter Try.func63, Try.ntmps63
    go_wp2
    go_ret
    exact ⟨rfl, rfl⟩
theorem szPlace_any (w : World) (a : Option Addr) (n cap : Nat) (l : Nat) (hn : n ≤ maxLen) (hl : l ≤ 1048576) : Calls Try.prog 50 #[.agg #[.slice a n cap], .int .i64 (l : Int)] w fun e w' => e = .returned (.int .i64 (if n ≤ l then ((l - n : Nat) : Int) else -1)) ∧ Below w.heap.size w w' := by
  by_cases h : n ≤ l
  · rw [if_pos h]
    go_enter Try.func50, Try.ntmps50
    go_wp2_with fail
    have hz := szInt64S_any (w.alloc (.cells #[.slice a n cap] 71)) a n cap l hn hl
    rw [if_pos h] at hz
    refine hz.mono ?_
    rintro e w1 ⟨rfl, rfl⟩
    have d0 : decide (((l - n : Nat) : Int) < 0) = false := by simp
    go_wp2
    go_ret
    exact ⟨rfl, (Below.refl _ _).alloc (Nat.le_refl _) _⟩
  · rw [if_neg h]
    go_enter Try.func50, Try.ntmps50
    go_wp2_with fail
    have hz := szInt64S_any (w.alloc (.cells #[.slice a n cap] 71)) a n cap l hn hl
    rw [if_neg h] at hz
    refine hz.mono ?_
    rintro e w1 ⟨rfl, rfl⟩
    go_wp2
    go_ret
    exact ⟨rfl, (Below.refl _ _).alloc (Nat.le_refl _) _⟩
/-- What is left of the laws' bound, or -1. -/
def szR (n : Nat) (zss : List (List Int)) : Int := if n + lens zss ≤ 1048576 then ((1048576 - (n + lens zss) : Nat) : Int) else -1
set_option maxHeartbeats 2000000 in
theorem szPlaceS_any (w : World) (a : Option Addr) (n cap : Nat) (zss : List (List Int)) (hn : n ≤ maxLen) (hs : SlP w w.heap.size a n zss) (hl : ∀ zs ∈ zss, zs.length ≤ maxLen) :
    Calls Try.prog 21 #[.slice a n cap, .int .i64 1048576] w fun e w' => e = .returned (.int .i64 (szR n zss)) ∧ Below w.heap.size w w' := by
  obtain ⟨hx, hs⟩ := hs
  have hn' := hn
  unfold maxLen at hn'
  by_cases h0 : n ≤ 1048576
  · have d0 : decide ((1048576 : Int) - (n : Int) < 0) = false := by simp; omega
    go_enter Try.func21, Try.ntmps21
    go_wp2
    go_loopw [1, 5] (fun v1 v5 wr => ∃ j : Nat, j ≤ n ∧ v5 = .int .i64 j ∧ n + lens (zss.take j) ≤ 1048576 ∧ v1 = .int .i64 ((1048576 - (n + lens (zss.take j)) : Nat) : Int) ∧ Below w.heap.size w wr) (fun _ v5 _ => n - (intOf v5).toNat)
    case atStart => exact ⟨0, Nat.zero_le _, rfl, by simpa [lens] using h0, by simp [lens]; omega, Below.refl _ _⟩
    case round =>
      obtain ⟨j, hj, rfl, hle, rfl, hbl⟩ := hrel
      have KL : Hid (n + lens (zss.take j) ≤ 1048576 ∧ zss.length = n ∧ (∀ zs ∈ zss, zs.length ≤ maxLen)) := ⟨hle, hx, hl⟩
      by_cases hlt : j < n
      · rcases hs with hs | ⟨b, off, rfl, hb, h1⟩
        · omega
        · obtain ⟨a', cap', hc, _, _⟩ := h1 j _ (atP_of (by omega))
          have c := (hbl.cell (p := ⟨b, off + j, none⟩) hb).trans hc
          have hz := szPlace_any wr a' (atP zss j).length cap' (1048576 - (n + lens (zss.take j))) (hl _ (List.mem_of_getElem? (atP_of (by omega)))) (by omega)
          have HST : Hid (lens (zss.take (j + 1)) = lens (zss.take j) + (atP zss j).length) := lens_take_succ (by omega)
          have HLE : Hid (lens (zss.take (j + 1)) ≤ lens zss) := lens_take_le _ _
          have KB : Hid (Below w.heap.size w wr) := hbl
          generalize hLL : lens (zss.take j) = LL at *
          generalize (atP zss j).length = m at *
          clear h1 hc hbl hl hx hle
          by_cases hfit : m ≤ 1048576 - (n + LL)
          · rw [if_pos hfit] at hz
            have d1 : decide (((1048576 - (n + LL) - m : Nat) : Int) < 0) = false := by simp
            go_wp2_with fail
            refine hz.mono ?_
            clear hz
            rintro e w1 ⟨rfl, b1⟩
            go_wp2
            have h1 := KL.out.1
            refine ⟨⟨j + 1, by omega, by simp, by rw [HST.out]; omega, by rw [HST.out]; congr 2; omega, KB.out.trans (b1.mono KB.out.size)⟩, by simp [intOf]; omega⟩
          · rw [if_neg hfit] at hz
            go_wp2_with fail
            refine hz.mono ?_
            clear hz
            rintro e w1 ⟨rfl, b1⟩
            go_wp2
            go_ret
            have h2 := HST.out
            have h3 := HLE.out
            refine ⟨by rw [szR, if_neg (by omega)]; rfl, KB.out.trans (b1.mono KB.out.size)⟩
      · have : j = n := by omega
        subst this
        have hd : decide ((j : Int) < (j : Int)) = false := by simp
        have ht : zss.take j = zss := List.take_of_length_le (by omega)
        rw [ht] at hle ⊢
        clear hs hl KL ht
        go_wp2
        go_ret
        exact ⟨by rw [szR, if_pos hle]; rfl, hbl⟩
  · have d0 : decide ((1048576 : Int) - (n : Int) < 0) = true := by simp; omega
    go_enter Try.func21, Try.ntmps21
    go_wp2
    go_ret
    exact ⟨by rw [szR, if_neg (by omega)]; rfl, Below.refl _ _⟩
end Go.Proofs.Ytgohihcpmjfhdaa
