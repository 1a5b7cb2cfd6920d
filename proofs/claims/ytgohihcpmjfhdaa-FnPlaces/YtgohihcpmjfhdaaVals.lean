/- The program's iterators over machines: slices.Values, everyMachine, and those of them that live. -/
import Derived.Test.YtgohihcpmjfhdaaRangeO
import Derived.Test.YtgohihcpmjfhdaaRemapA
import Derived.Shelf.Abstract
import Derived.Shelf.RegionOpen
import Derived.WalkKit
import Derived.WalkSpells
import Derived.WalkLawsBesides
import Derived.OwnWalkIn
import Derived.TacticsInMore
import Derived.LoopNIn
import Derived.LoopIn
import Derived.RegionIn
namespace Go.Proofs.Ytgohihcpmjfhdaa
open Go.RowKit Go.Shelf
attribute [local go_sem] Oper.semAt_some
def macE (x : { x : Int // 0 ≤ x ∧ x ≤ 7 }) : Array Value := #[.int .i64 x.1]
theorem take_snoc {α : Type} {ms : List α} {k : Nat} {x : α} (h : ms[k]? = some x) : ms.take (k + 1) = ms.take k ++ [x] := by rw [List.take_add_one, h]; rfl
set_option maxRecDepth 100000 in
set_option maxHeartbeats 2000000 in
theorem values1_in (n : Nat) (hn : 1 ≤ n) (l Bs n₀ b off cap : Nat) (ms : List { x : Int // 0 ≤ x ∧ x ≤ 7 }) (hm : ms.length ≤ 1000) (hb : b < n₀) (J Jx : List { x : Int // 0 ≤ x ∧ x ≤ 7 } → World → Prop)
    (hY : ∀ pre x W, J pre W → pre.length < ms.length → YieldAt Fence.wide (n - 1) Try.prog l (macE x) W fun e W' =>
      (e = .returned (.bool true) ∧ J (pre ++ [x]) W' ∧ Below n₀ W W') ∨ (e = .returned (.bool false) ∧ Jx (pre ++ [x]) W'))
    (W : World) (hBs : W.cell? ⟨Bs, 0, none⟩ = some (.slice (some ⟨b, off, none⟩) ms.length cap)) (hc : ∀ j x, ms[j]? = some x → W.cell? ⟨b, off + j, none⟩ = some (.int .i64 x.1)) (h0 : J [] W) :
    CallsIn Fence.wide n Try.prog 67 #[.func (.yield l) #[] #[], .pointer (some ⟨Bs, 0, none⟩)] W fun e W' => (∃ v, e = .returned v) ∧
      ((∃ ys, ys = ms ∧ J ys W') ∨ (∃ pre, pre <+: ms ∧ Jx pre W')) := by
  refine callsIn_of_wp Try.func67 rfl trivial ?_ rfl
  simp only [Try.ntmps67, List.size_toArray, List.length_cons, List.length_nil, Nat.reduceAdd, Nat.reduceSub, Array.replicate_succ, Array.replicate_zero, List.push_toArray, List.append_toArray, List.nil_append, List.cons_append]
  gi_wp2
  gi_loopw [7] (fun i wr => ∃ k : Nat, k ≤ ms.length ∧ i = .int .i64 k ∧ J (ms.take k) wr ∧ Below n₀ W wr) (fun i _ => ms.length - (intOf i).toNat)
  case atStart => exact ⟨0, Nat.zero_le _, rfl, h0, Below.refl _ _⟩
  case round =>
    obtain ⟨k, hk, rfl, hJs, hnx⟩ := hrel
    by_cases hlt : k < ms.length
    · obtain ⟨x, hx⟩ : ∃ x, ms[k]? = some x := ⟨_, List.getElem?_eq_getElem hlt⟩
      have hcx := (hnx.cell (p := ⟨b, off + k, none⟩) hb).trans (hc k x hx)
      obtain ⟨fn, tmps, assign, body, hy, hR⟩ := hY _ x wr hJs (by rw [List.length_take]; omega)
      simp only [macE] at hy
      have HX : Hid (ms.take (k + 1) = ms.take k ++ [x]) := take_snoc hx
      clear hx hc hY
      gi_wp2
      refine hR.mono ?_
      rintro e W3 (⟨rfl, hJ3, hk3⟩ | ⟨rfl, hJx3⟩)
      · gi_wp2
        go_roundw
        case rel => exact ⟨k + 1, by omega, by simp, by rw [HX.out]; exact hJ3, hnx.trans hk3⟩
        case measure => simp [intOf]; omega
      · gi_wp2
        refine bodyPost_ret (results_none rfl _ _ _) rfl ?_
        exact ⟨⟨_, rfl⟩, .inr ⟨_, by rw [← HX.out]; exact List.take_prefix _ _, hJx3⟩⟩
    · obtain rfl : k = ms.length := by omega
      gi_wp2
      go_end0
      exact ⟨⟨_, rfl⟩, .inl ⟨_, List.take_length, hJs⟩⟩
theorem values_any (w : World) (a : Option Addr) (n cap : Nat) : Calls Try.prog 57 #[.slice a n cap] w fun e w' =>
    e = .returned (.func (.func 67) #[] #[.pointer (some ⟨w.heap.size, 0, none⟩)]) ∧ w' = w.alloc (.cells #[.slice a n cap] 28) := by
  go_enter Try.func57, Try.ntmps57
  go_wp2
  go_ret
  exact ⟨rfl, rfl⟩
theorem values_stops (n : Nat) (hn : 1 ≤ n) (Bs n₀ b off cap : Nat) (ms : List { x : Int // 0 ≤ x ∧ x ≤ 7 }) (hm : ms.length ≤ 1000) (w : World) (hBs : Bs < w.heap.size) (hn0 : n₀ ≤ w.heap.size) (hb : b < n₀)
    (hB : w.cell? ⟨Bs, 0, none⟩ = some (.slice (some ⟨b, off, none⟩) ms.length cap)) (hc : ∀ j x, ms[j]? = some x → w.cell? ⟨b, off + j, none⟩ = some (.int .i64 x.1)) :
    SeqStopsK Fence.wide n Try.prog 67 #[.pointer (some ⟨Bs, 0, none⟩)] macE (Below n₀) (fun ys => ys = ms) (fun pre => pre <+: ms) ms.length w := fun l J Jx W hW _ _ hY h0 =>
  values1_in n hn l Bs n₀ b off cap ms hm hb J Jx hY W ((hW.cell (p := ⟨Bs, 0, none⟩) hBs).trans hB) (fun j x e => (hW.cell (p := ⟨b, off + j, none⟩) (by simp; omega)).trans (hc j x e)) h0
def allM : List { x : Int // 0 ≤ x ∧ x ≤ 7 } := List.ofFn fun i : Fin 8 => ⟨(i.1 : Int), by omega⟩
theorem allM_at {k : Nat} (h : k < 8) : ∃ x : { x : Int // 0 ≤ x ∧ x ≤ 7 }, allM[k]? = some x ∧ x.1 = (k : Int) := ⟨⟨(k : Int), by omega⟩, by rw [allM, List.getElem?_ofFn]; simp [h], rfl⟩
theorem allM_len : allM.length = 8 := by simp [allM]
set_option maxRecDepth 100000 in
set_option maxHeartbeats 2000000 in
theorem every_in (n : Nat) (hn : 1 ≤ n) (l n₀ : Nat) (J Jx : List { x : Int // 0 ≤ x ∧ x ≤ 7 } → World → Prop)
    (hY : ∀ pre x W, J pre W → pre.length < 8 → YieldAt Fence.wide (n - 1) Try.prog l (macE x) W fun e W' =>
      (e = .returned (.bool true) ∧ J (pre ++ [x]) W' ∧ Below n₀ W W') ∨ (e = .returned (.bool false) ∧ Jx (pre ++ [x]) W'))
    (W : World) (h0 : J [] W) :
    CallsIn Fence.wide n Try.prog 59 #[.func (.yield l) #[] #[]] W fun e W' => (∃ v, e = .returned v) ∧
      ((∃ ys, ys = allM ∧ J ys W') ∨ (∃ pre, pre <+: allM ∧ Jx pre W')) := by
  have hl := allM_len
  refine callsIn_of_wp Try.func59 rfl trivial ?_ rfl
  simp only [Try.ntmps59, List.size_toArray, List.length_cons, List.length_nil, Nat.reduceAdd, Nat.reduceSub, Array.replicate_succ, Array.replicate_zero, List.push_toArray, List.append_toArray, List.nil_append, List.cons_append]
  gi_wp2
  gi_loopw [3] (fun i wr => ∃ k : Nat, k ≤ 8 ∧ i = .int .i64 k ∧ J (allM.take k) wr) (fun i _ => 8 - (intOf i).toNat)
  case atStart => exact ⟨0, Nat.zero_le _, rfl, h0⟩
  case round =>
    obtain ⟨k, hk, rfl, hJs⟩ := hrel
    by_cases hlt : k < 8
    · obtain ⟨x, hx, hx1⟩ := allM_at hlt
      have hlt' : (k : Int) < 8 := by omega
      obtain ⟨fn, tmps, assign, body, hy, hR⟩ := hY _ x wr hJs (by rw [List.length_take]; omega)
      simp only [macE, hx1] at hy
      have HX : Hid (allM.take (k + 1) = allM.take k ++ [x]) := take_snoc hx
      clear hx hY
      gi_wp2
      refine hR.mono ?_
      rintro e W3 (⟨rfl, hJ3, hk3⟩ | ⟨rfl, hJx3⟩)
      · gi_wp2
        go_roundw
        case rel => exact ⟨k + 1, by omega, by simp, by rw [HX.out]; exact hJ3⟩
        case measure => simp [intOf]; omega
      · gi_wp2
        refine bodyPost_ret (results_none rfl _ _ _) rfl ?_
        exact ⟨⟨_, rfl⟩, .inr ⟨_, by rw [← HX.out]; exact List.take_prefix _ _, hJx3⟩⟩
    · obtain rfl : k = 8 := by omega
      gi_wp2
      go_end0
      exact ⟨⟨_, rfl⟩, .inl ⟨_, by rw [← hl, List.take_length], hJs⟩⟩
theorem every_stops (n : Nat) (hn : 1 ≤ n) (n₀ : Nat) (w : World) :
    SeqStopsK Fence.wide n Try.prog 59 #[] macE (Below n₀) (fun ys => ys = allM) (fun pre => pre <+: allM) 8 w := fun l J Jx W _ _ _ hY h0 =>
  every_in n hn l n₀ J Jx hY W h0
theorem lives_any (w : World) (a : Option Addr) (n cap : Nat) (z : Int) (al : List Bool) (hz : 0 ≤ z) (hs : SlB w w.heap.size a n al) :
    Calls Try.prog 66 #[.slice a n cap, .int .i64 z] w fun e w' => e = .returned (.bool (livesB al z)) ∧ w' = w := by
  obtain ⟨hx, hs⟩ := hs
  obtain ⟨i, rfl⟩ := Int.eq_ofNat_of_zero_le hz
  by_cases hlt : i < n
  · have hL : livesB al (i : Int) = atB al i := by simp [livesB, hx, hlt]
    have hlt' : (i : Int) < (n : Int) := by omega
    rw [hL]
    rcases hs with hs | ⟨b, off, rfl, hb, h1⟩
    · omega
    · have c := h1 i _ (atB_of (by omega))
      clear h1 hL
      go_enter Try.func66, Try.ntmps66
      go_wp2
      go_ret
      exact ⟨rfl, rfl⟩
  · have hL : livesB al (i : Int) = false := by simp [livesB, hx, hlt]
    have hd : decide ((i : Int) < (n : Int)) = false := by simp; omega
    rw [hL]
    clear hs
    go_enter Try.func66, Try.ntmps66
    go_wp2
    go_ret
    exact ⟨rfl, rfl⟩
theorem living_any (w : World) (gf : Nat) (lb : Array Value) (a : Option Addr) (n cap : Nat) : Calls Try.prog 56 #[.func (.func gf) #[] lb, .slice a n cap] w fun e w' =>
    e = .returned (.func (.func 65) #[] #[.pointer (some ⟨w.heap.size, 0, none⟩), .pointer (some ⟨w.heap.size + 1, 0, none⟩)]) ∧ w' = (w.alloc (.cells #[.func (.func gf) #[] lb] 80)).alloc (.cells #[.slice a n cap] 25) := by
  go_enter Try.func56, Try.ntmps56
  go_wp2
  go_ret
  exact ⟨rfl, rfl⟩
end Go.Proofs.Ytgohihcpmjfhdaa
