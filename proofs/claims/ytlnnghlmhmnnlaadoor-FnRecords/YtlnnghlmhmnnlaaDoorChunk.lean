/- slices.Chunk by fours over a row of numbers: what its iterator hands on, for every loop body that keeps the row and the iterator's two boxes. -/
import Derived.RangeFuncNested
import Derived.RangeFuncBound
import Derived.RangeFuncCalls
import Derived.RangeFuncLeaves
import Derived.Shelf.Abstract
import Derived.Shelf.RegionOpen
import Derived.WalkKit
import Derived.WalkSpells
import Derived.WalkLawsBesides
import Derived.OwnWalkIn
import Derived.TacticsInMore
import Derived.LoopNIn
import Derived.LoopIn
import Derived.RegionIn
import Derived.Sort.QuietIn
import Derived.Test.YtlnnghlmhmnnlaaDoorRows
namespace Go.Proofs.YtlnnghlmhmnnlaaDoor
open Go.RowKit Go.Shelf
attribute [local go_sem] Oper.semAt_some
/-- What a round that goes on keeps: what lay below n₀, and two boxes. -/
def KeepC (n₀ Bs Bn : Nat) (W W' : World) : Prop := Below n₀ W W' ∧ W'.heap[Bs]? = W.heap[Bs]? ∧ W'.heap[Bn]? = W.heap[Bn]?
theorem KeepC.trans {n₀ Bs Bn : Nat} {A B C : World} (h : KeepC n₀ Bs Bn A B) (k : KeepC n₀ Bs Bn B C) : KeepC n₀ Bs Bn A C := ⟨h.1.trans k.1, k.2.1.trans h.2.1, k.2.2.trans h.2.2⟩
theorem KeepC.refl (n₀ Bs Bn : Nat) (W : World) : KeepC n₀ Bs Bn W W := ⟨Below.refl _ _, rfl, rfl⟩
theorem keepC_b {n₀ Bs Bn : Nat} {w : World} (hn : n₀ ≤ w.heap.size) (hs : Bs < w.heap.size) (hb : Bn < w.heap.size) (W : World) (l : Nat) (o o' : Obj) (hl : w.heap.size ≤ l) (h : W.heap[l]? = some o) (h1 : o.isCells = false) (h2 : o.isWalk = false) : KeepC n₀ Bs Bn W (W.putObj l o') :=
  ⟨belowK_b hn W l o o' hl h h1 h2, World.putObj_heap_other (by omega), World.putObj_heap_other (by omega)⟩
/-- The k-th piece of four. -/
def piece (b off : Nat) (k : Nat) : Value := .slice (some ⟨b, off + 4 * k, none⟩) 4 4
def firstK (m k : Nat) (h : k ≤ m) : List { k : Nat // k < m } := (List.range k).attach.map fun j => ⟨j.1, by have := List.mem_range.1 j.2; omega⟩
theorem firstK_len {m k : Nat} (h : k ≤ m) : (firstK m k h).length = k := by simp [firstK]
theorem firstK_vals {m k : Nat} (h : k ≤ m) : (firstK m k h).map (·.1) = List.range k := by simp [firstK]
theorem vals_inj {m : Nat} {xs ys : List { k : Nat // k < m }} (h : xs.map (·.1) = ys.map (·.1)) : xs = ys := List.map_inj_right (fun _ _ e => Subtype.ext e) |>.1 h
theorem firstK_succ {m k : Nat} (h : k < m) : firstK m (k + 1) h = firstK m k (Nat.le_of_lt h) ++ [⟨k, h⟩] := by
  apply vals_inj
  rw [firstK_vals, List.map_append, firstK_vals, List.range_succ]; rfl
set_option maxRecDepth 100000 in
set_option maxHeartbeats 4000000 in
theorem chunk1_in (n : Nat) (hn : 1 ≤ n) (l Bs Bn n₀ b off m cap : Nat) (hm : m ≤ 1000000) (hcap : 4 * m ≤ cap) (hcap' : cap ≤ maxLen) (J Jx : List { k : Nat // k < m } → World → Prop)
    (hY : ∀ pre x W, J pre W → pre.length < m → YieldAt Fence.wide (n - 1) Tryd.prog l #[piece b off x.1] W fun e W' =>
      (e = .returned (.bool true) ∧ J (pre ++ [x]) W' ∧ KeepC n₀ Bs Bn W W') ∨ (e = .returned (.bool false) ∧ Jx (pre ++ [x]) W'))
    (hJd : ∀ pre W k, J pre W → J pre (W.drewN k))
    (W : World) (hBs : W.cell? ⟨Bs, 0, none⟩ = some (.slice (some ⟨b, off, none⟩) (4 * m) cap)) (hBn : W.cell? ⟨Bn, 0, none⟩ = some (.int .i64 4)) (h0 : J [] W) :
    CallsIn Fence.wide n Tryd.prog 61 #[.func (.yield l) #[] #[], .pointer (some ⟨Bs, 0, none⟩), .pointer (some ⟨Bn, 0, none⟩)] W fun e W' => (∃ v, e = .returned v) ∧
      ((∃ ys, ys = firstK m m (Nat.le_refl _) ∧ J ys W') ∨ (∃ pre, (∃ k, ∃ h : k ≤ m, pre = firstK m k h) ∧ Jx pre W')) := by
  unfold maxLen at hcap'
  obtain ⟨N, hN⟩ : ∃ N, 4 * m = N := ⟨_, rfl⟩
  rw [hN] at hcap hBs
  refine callsIn_of_wp Tryd.func61 rfl trivial ?_ rfl
  simp only [Tryd.ntmps61, List.size_toArray, List.length_cons, List.length_nil, Nat.reduceAdd, Nat.reduceSub, Array.replicate_succ, Array.replicate_zero, List.push_toArray, List.append_toArray, List.nil_append, List.cons_append]
  gi_wp2
  gi_loopw [4] (fun v wr => ∃ (k i : Nat) (h : k ≤ m), v = .int .i64 (i : Int) ∧ Hid (i = 4 * k) ∧ J (firstK m k h) wr ∧ wr.cell? ⟨Bs, 0, none⟩ = some (.slice (some ⟨b, off, none⟩) N cap) ∧ wr.cell? ⟨Bn, 0, none⟩ = some (.int .i64 4))
    (fun i _ => N - (intOf i).toNat)
  case atStart => exact ⟨0, 0, Nat.zero_le _, rfl, rfl, h0, hBs, hBn⟩
  case round =>
    obtain ⟨k, i, hk, rfl, hi, hJs, cs, cn⟩ := hrel
    have HN : Hid (4 * m = N) := hN
    by_cases hlt : k < m
    · have hi4 : i + 4 ≤ N := by have := hi.out; omega
      have q1 : (i : Int) < (N : Int) := by omega
      have q2 : i ≤ N := by omega
      have q3 : (i : Int) ≤ (N : Int) := by omega
      have q4 : decide (((N - i : Nat) : Int) < 4) = false := by simp; omega
      have hNm : N ≤ 4000000 := by omega
      have q5 : (i : Int) + 4 ≤ (cap : Int) := by omega
      have q6 : (i : Int) ≤ (i : Int) + 4 := by omega
      clear hN
      gi_wp2
      gi_quiet (fail)
      obtain ⟨fn, tmps, assign, body, hy, hR⟩ := hY _ ⟨k, hlt⟩ (wr.drewN nq) (hJd _ _ nq hJs) (by rw [firstK_len]; exact hlt)
      simp only [piece] at hy
      rw [← hi.out] at hy
      clear hY hJd
      gi_wp2
      refine hR.mono ?_
      rintro e W3 (⟨rfl, hJ3, hk3⟩ | ⟨rfl, hJx3⟩)
      · have cs3 : W3.cell? ⟨Bs, 0, none⟩ = some (.slice (some ⟨b, off, none⟩) N cap) := (World.cell?_of_block (a := ⟨Bs, 0, none⟩) hk3.2.1).trans cs
        have cn3 : W3.cell? ⟨Bn, 0, none⟩ = some (.int .i64 4) := (World.cell?_of_block (a := ⟨Bn, 0, none⟩) hk3.2.2).trans cn
        gi_wp2
        go_roundw
        case rel => exact ⟨k + 1, i + 4, hlt, by simp, by have := hi.out; show i + 4 = 4 * (k + 1); omega, by rw [firstK_succ hlt]; exact hJ3, cs3, cn3⟩
        case measure => simp [intOf]; omega
      · gi_wp2
        refine bodyPost_ret (results_none rfl _ _ _) rfl ?_
        exact ⟨⟨_, rfl⟩, .inr ⟨_, ⟨k + 1, hlt, (firstK_succ hlt).symm⟩, hJx3⟩⟩
    · obtain rfl : k = m := by omega
      have e : i = N := by have := hi.out; omega
      subst e
      have hd : decide ((i : Int) < (i : Int)) = false := by simp
      gi_wp2
      go_end0
      exact ⟨⟨_, rfl⟩, .inl ⟨_, rfl, hJs⟩⟩
theorem chunk_stops (n : Nat) (hn : 1 ≤ n) (Bs Bn n₀ b off m cap : Nat) (hm : m ≤ 1000000) (hcap : 4 * m ≤ cap) (hcap' : cap ≤ maxLen) (w : World) (hs : Bs < w.heap.size) (hb : Bn < w.heap.size)
    (hBs : w.cell? ⟨Bs, 0, none⟩ = some (.slice (some ⟨b, off, none⟩) (4 * m) cap)) (hBn : w.cell? ⟨Bn, 0, none⟩ = some (.int .i64 4)) :
    SeqStopsK Fence.wide n Tryd.prog 61 #[.pointer (some ⟨Bs, 0, none⟩), .pointer (some ⟨Bn, 0, none⟩)] (fun x : { k : Nat // k < m } => #[piece b off x.1]) (KeepC n₀ Bs Bn) (fun ys => ys = firstK m m (Nat.le_refl _)) (fun pre => ∃ k, ∃ h : k ≤ m, pre = firstK m k h) m w := fun l J Jx W hW hJ _ hY h0 =>
  chunk1_in n hn l Bs Bn n₀ b off m cap hm hcap hcap' J Jx hY (fun pre W k h => hJ pre W (W.drewN k) none h ⟨rfl, rfl, rfl, Nat.le_refl _, fun _ _ _ => rfl⟩ (fun r e => by cases e)) W
    ((hW.cell (p := ⟨Bs, 0, none⟩) hs).trans hBs) ((hW.cell (p := ⟨Bn, 0, none⟩) hb).trans hBn) h0
theorem chunk_any (w : World) (a : Option Addr) (n cap : Nat) : Calls Tryd.prog 47 #[.slice a n cap, .int .i64 4] w fun e w' =>
    e = .returned (.func (.func 61) #[] #[.pointer (some ⟨w.heap.size, 0, none⟩), .pointer (some ⟨w.heap.size + 1, 0, none⟩)]) ∧ w' = (w.alloc (.cells #[.slice a n cap] 40)).alloc (.cells #[.int .i64 4] 3) := by
  go_enter Tryd.func47, Tryd.ntmps47
  go_wp2
  go_ret
  exact ⟨rfl, rfl⟩
end Go.Proofs.YtlnnghlmhmnnlaaDoor
