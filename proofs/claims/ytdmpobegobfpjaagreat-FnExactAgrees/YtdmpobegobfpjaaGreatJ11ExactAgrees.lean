/- Copy; SeA; TfsI; RpL; LstI; RpM; VerI; RpN; RpO; RpP; IndI: joined. -/
import Derived.Laws.CopyOwn
import Derived.WalkKit
import Derived.Test.YtdmpobegobfpjaaGreatRows
import Derived.Test.YtdmpobegobfpjaaGreatJ1ExactAgrees
import Derived.Test.YtdmpobegobfpjaaGreatJ5ExactAgrees
import Derived.Test.YtdmpobegobfpjaaGreatJ0ExactAgrees
import Derived.Laws.StructEq
import Derived.ChangeKeysEq
import Derived.WalkSpells
import Derived.WalkLawsBesides
import Derived.Below
import Derived.Deep.Heap
import Derived.Deep.AppendLies
import Derived.Deep.Upon
import Derived.Deep.RegionWith
import Derived.RowKitTokens
import Derived.Lib.QuietBelow
import Derived.BigQuiet
import Derived.Deep.CutRange
import Derived.Test.YtdmpobegobfpjaaGreatJ6ExactAgrees
import Derived.Test.YtdmpobegobfpjaaGreatJ9ExactAgrees
import Derived.Test.YtdmpobegobfpjaaGreatJ10ExactAgrees
import Derived.LaidEql
import Derived.Test.YtdmpobegobfpjaaGreatJ2ExactAgrees
namespace Go.Proofs.YtdmpobegobfpjaaGreat
theorem run_copy_wide {P : Program} (w : World) (dT sT ty elem : TypeId) (g o dLen dCap : Nat) (a : Addr) (sLen sCap : Nat) (cur : Array Value) (t : TypeId) (cs : List Value) (sz : Nat)
    (hu : P.underlying dT = some (.slice elem)) (hs : (P.info? elem).map (·.size) = some sz)
    (hg : w.heap[g]? = some (.cells cur t (0, 0))) (hn : cs.length = Nat.min sLen dLen * sz)
    (hsrc : ∀ j v, cs[j]? = some v → w.cell? (a.add j) = some v) (hfit : o + cs.length ≤ cur.size) (h1 : ∀ v ∈ cs, v.oneCell' = true) :
    (Builtin.copy_ #[dT, sT] ty #[.slice (some ⟨g, o, none⟩) dLen dCap, .slice (some a) sLen sCap]).run P w =
      .ok (goInt (Nat.min sLen dLen)) (w.setRow g (cur.toList.take o ++ cs ++ cur.toList.drop (o + cs.length)).toArray) := by
  have hl := run_loadCells_list (P := P) w a cs hsrc
  have hst := run_storeCells_at P g o t cs 0 cur w hg (by simpa using hfit) h1
  cases hq : P.info? elem with
  | none => simp [hq] at hs
  | some i =>
    have hi : i.size = sz := by simpa [hq] using hs
    simp [Builtin.copy_, run_underlying hu, Builtin.lenOf, Builtin.firstCells, sizeOf, typeInfo, hq, hi, ← hn, hl, hst]
end Go.Proofs.YtdmpobegobfpjaaGreat
namespace Go.Proofs.YtdmpobegobfpjaaGreat
open Go.RowKit
theorem six_of {xs : List C2} (h : xs.length = 6) : ∃ a b c d e f : C2, xs = [a, b, c, d, e, f] := by
  match xs, h with
  | [a, b, c, d, e, f], _ => exact ⟨a, b, c, d, e, f, rfl⟩
def arr6 (xs : List C2) : Array Value := (xs.flatMap C2.cells).toArray
def zer6 : List C2 := [⟨0, 0⟩, ⟨0, 0⟩, ⟨0, 0⟩, ⟨0, 0⟩, ⟨0, 0⟩, ⟨0, 0⟩]
def tk6 (xs : List C2) : List C2 := if cellsB xs = true then xs else zer6
theorem zcell {w : World} {b : Nat} {t : TypeId} {xs : List C2} (h : w.heap[b]? = some (.cells (arr6 xs) t (0, 0))) (i : Nat) (v : Value) (hv : (arr6 xs)[i]? = some v) : w.cell? ⟨b, i, none⟩ = some v := by
  have := World.news_of_block (w := w) (cs := arr6 xs) (t := t) (fr := (0, 0)) h i v (by simpa using hv)
  have e : (⟨b, 0, none⟩ : Addr).add i = ⟨b, i, none⟩ := by by_cases h0 : i = 0 <;> simp [Addr.add, h0]
  rwa [e] at this
set_option maxRecDepth 100000 in
set_option maxHeartbeats 4000000 in
theorem takeCells_any (w : World) (a : Option Addr) (n cap : Nat) (xs : List C2) (hn : n ≤ maxLen) (hs : SlC w w.heap.size a n xs) :
    Calls Tryz.prog 205 #[.slice a n cap] w fun e w' => e = .returned (.tuple #[.agg (arr6 (tk6 xs)), .bool (cellsB xs)]) ∧ Below w.heap.size w w' := by
  obtain ⟨U1, hU1⟩ : ∃ Y, Y = w.alloc (.cells #[.int .i64 0, .int .i64 0, .int .i64 0, .int .i64 0, .int .i64 0, .int .i64 0, .int .i64 0, .int .i64 0, .int .i64 0, .int .i64 0, .int .i64 0, .int .i64 0] 214) := ⟨_, rfl⟩
  obtain ⟨U, hU⟩ : ∃ Y, Y = U1.alloc (.cells #[.int .i64 0, .int .i64 0, .int .i64 0, .int .i64 0, .int .i64 0, .int .i64 0, .int .i64 0, .int .i64 0, .int .i64 0, .int .i64 0, .int .i64 0, .int .i64 0] 214) := ⟨_, rfl⟩
  have b1 : Below w.heap.size w U1 := by rw [hU1]; exact (Below.refl _ _).alloc (Nat.le_refl _) _
  have b2 : Below U1.heap.size U1 U := by rw [hU]; exact (Below.refl _ _).alloc (Nat.le_refl _) _
  have s1 : U1.heap.size = w.heap.size + 1 := by rw [hU1]; simp
  have s2 : U.heap.size = w.heap.size + 2 := by rw [hU]; simp [s1]
  have g1 : U1.heap[w.heap.size]? = some (.cells (arr6 zer6) 214 (0, 0)) := by rw [hU1]; exact Go.Deep.blk_alloc_new w _
  have g2 : U.heap[w.heap.size + 1]? = some (.cells (arr6 zer6) 214 (0, 0)) := by
    have := Go.Deep.blk_alloc_new U1 (.cells #[.int .i64 0, .int .i64 0, .int .i64 0, .int .i64 0, .int .i64 0, .int .i64 0, .int .i64 0, .int .i64 0, .int .i64 0, .int .i64 0, .int .i64 0, .int .i64 0] 214)
    rw [s1] at this
    rw [hU]; exact this
  have g1' : U.heap[w.heap.size]? = some (.cells (arr6 zer6) 214 (0, 0)) := (b2.block _ (by omega)).trans g1
  have bU : Below w.heap.size w U := b1.trans (b2.mono (by omega))
  have XU : Hid (Bx U w.heap.size [.int .i64 0, .int .i64 0, .int .i64 0, .int .i64 0, .int .i64 0, .int .i64 0, .int .i64 0, .int .i64 0, .int .i64 0, .int .i64 0, .int .i64 0, .int .i64 0]) := by
    have h0 : Bx U1 w.heap.size [.int .i64 0, .int .i64 0, .int .i64 0, .int .i64 0, .int .i64 0, .int .i64 0, .int .i64 0, .int .i64 0, .int .i64 0, .int .i64 0, .int .i64 0, .int .i64 0] := by rw [hU1]; exact Bx.made w [.int .i64 0, .int .i64 0, .int .i64 0, .int .i64 0, .int .i64 0, .int .i64 0, .int .i64 0, .int .i64 0, .int .i64 0, .int .i64 0, .int .i64 0, .int .i64 0] _
    exact h0.later b2
  have hc := implCellsOk_any U a n cap xs hn (hs.later bU)
  have hUU : U = (w.alloc (.cells #[.int .i64 0, .int .i64 0, .int .i64 0, .int .i64 0, .int .i64 0, .int .i64 0, .int .i64 0, .int .i64 0, .int .i64 0, .int .i64 0, .int .i64 0, .int .i64 0] 214)).alloc (.cells #[.int .i64 0, .int .i64 0, .int .i64 0, .int .i64 0, .int .i64 0, .int .i64 0, .int .i64 0, .int .i64 0, .int .i64 0, .int .i64 0, .int .i64 0, .int .i64 0] 214) := by rw [hU, hU1]
  have KU : Hid (Below w.heap.size w U ∧ U.heap.size = w.heap.size + 2 ∧ U.heap[w.heap.size]? = some (.cells (arr6 zer6) 214 (0, 0)) ∧ U.heap[w.heap.size + 1]? = some (.cells (arr6 zer6) 214 (0, 0))) := ⟨bU, s2, g1', g2⟩
  have HS : Hid (SlC w w.heap.size a n xs) := hs
  clear hs b1 b2 s1 s2 g1 g2 g1' bU hU hU1
  go_enter Tryz.func205, Tryz.ntmps205
  go_wp2_with fail
  rw [← hUU]
  clear hUU
  refine hc.mono ?_
  clear hc
  rintro e W ⟨rfl, bW⟩
  obtain ⟨kb, ks, kg, kh⟩ := KU.out
  have k2 : W.heap[w.heap.size + 1]? = some (.cells (arr6 zer6) 214 (0, 0)) := (bW.block _ (by omega)).trans kh
  have X1 : Bx W w.heap.size [.int .i64 0, .int .i64 0, .int .i64 0, .int .i64 0, .int .i64 0, .int .i64 0, .int .i64 0, .int .i64 0, .int .i64 0, .int .i64 0, .int .i64 0, .int .i64 0] := XU.out.later bW
  have KW : Hid (Below w.heap.size w W ∧ w.heap.size + 2 ≤ W.heap.size) := ⟨kb.trans (bW.mono kb.size), by have := bW.size; omega⟩
  clear kb ks kg kh
  cases hB : cellsB xs with
  | false =>
    have HT : Hid (tk6 xs = zer6 ∧ cellsB xs = false) := ⟨by simp [tk6, hB], hB⟩
    have KP : Hid (Below w.heap.size w (putB W w.heap.size 0 [.int .i64 0, .int .i64 0, .int .i64 0, .int .i64 0, .int .i64 0, .int .i64 0, .int .i64 0, .int .i64 0, .int .i64 0, .int .i64 0, .int .i64 0, .int .i64 0]) ∧ Bx (putB W w.heap.size 0 [.int .i64 0, .int .i64 0, .int .i64 0, .int .i64 0, .int .i64 0, .int .i64 0, .int .i64 0, .int .i64 0, .int .i64 0, .int .i64 0, .int .i64 0, .int .i64 0]) w.heap.size [.int .i64 0, .int .i64 0, .int .i64 0, .int .i64 0, .int .i64 0, .int .i64 0, .int .i64 0, .int .i64 0, .int .i64 0, .int .i64 0, .int .i64 0, .int .i64 0]) := ⟨putB_below (Nat.le_refl _) _ _ _ KW.out.1, X1.put _ rfl⟩
    have p0 := X1.1 0 _ rfl
    have f0 := X1.2.1 0
    have p1 := X1.1 1 _ rfl
    have f1 := X1.2.1 1
    have p2 := X1.1 2 _ rfl
    have f2 := X1.2.1 2
    have p3 := X1.1 3 _ rfl
    have f3 := X1.2.1 3
    have p4 := X1.1 4 _ rfl
    have f4 := X1.2.1 4
    have p5 := X1.1 5 _ rfl
    have f5 := X1.2.1 5
    have p6 := X1.1 6 _ rfl
    have f6 := X1.2.1 6
    have p7 := X1.1 7 _ rfl
    have f7 := X1.2.1 7
    have p8 := X1.1 8 _ rfl
    have f8 := X1.2.1 8
    have p9 := X1.1 9 _ rfl
    have f9 := X1.2.1 9
    have p10 := X1.1 10 _ rfl
    have f10 := X1.2.1 10
    have p11 := X1.1 11 _ rfl
    have f11 := X1.2.1 11
    have q0 : W.cell? ⟨w.heap.size + 1, 0, none⟩ = some (.int .i64 0) := zcell (xs := zer6) k2 0 _ rfl
    have q1 : W.cell? ⟨w.heap.size + 1, 1, none⟩ = some (.int .i64 0) := zcell (xs := zer6) k2 1 _ rfl
    have q2 : W.cell? ⟨w.heap.size + 1, 2, none⟩ = some (.int .i64 0) := zcell (xs := zer6) k2 2 _ rfl
    have q3 : W.cell? ⟨w.heap.size + 1, 3, none⟩ = some (.int .i64 0) := zcell (xs := zer6) k2 3 _ rfl
    have q4 : W.cell? ⟨w.heap.size + 1, 4, none⟩ = some (.int .i64 0) := zcell (xs := zer6) k2 4 _ rfl
    have q5 : W.cell? ⟨w.heap.size + 1, 5, none⟩ = some (.int .i64 0) := zcell (xs := zer6) k2 5 _ rfl
    have q6 : W.cell? ⟨w.heap.size + 1, 6, none⟩ = some (.int .i64 0) := zcell (xs := zer6) k2 6 _ rfl
    have q7 : W.cell? ⟨w.heap.size + 1, 7, none⟩ = some (.int .i64 0) := zcell (xs := zer6) k2 7 _ rfl
    have q8 : W.cell? ⟨w.heap.size + 1, 8, none⟩ = some (.int .i64 0) := zcell (xs := zer6) k2 8 _ rfl
    have q9 : W.cell? ⟨w.heap.size + 1, 9, none⟩ = some (.int .i64 0) := zcell (xs := zer6) k2 9 _ rfl
    have q10 : W.cell? ⟨w.heap.size + 1, 10, none⟩ = some (.int .i64 0) := zcell (xs := zer6) k2 10 _ rfl
    have q11 : W.cell? ⟨w.heap.size + 1, 11, none⟩ = some (.int .i64 0) := zcell (xs := zer6) k2 11 _ rfl
    clear X1 k2 bW hB
    go_wp2
    obtain ⟨Z, hZ⟩ : ∃ Z, Z = putB W w.heap.size 0 [.int .i64 0, .int .i64 0, .int .i64 0, .int .i64 0, .int .i64 0, .int .i64 0, .int .i64 0, .int .i64 0, .int .i64 0, .int .i64 0, .int .i64 0, .int .i64 0] := ⟨_, rfl⟩
    rw [← hZ] at KP
    simp only [putB, Nat.zero_add, Nat.reduceAdd] at hZ
    rw [← hZ]
    clear hZ
    have r0 := KP.out.2.1 0 _ rfl
    have r1 := KP.out.2.1 1 _ rfl
    have r2 := KP.out.2.1 2 _ rfl
    have r3 := KP.out.2.1 3 _ rfl
    have r4 := KP.out.2.1 4 _ rfl
    have r5 := KP.out.2.1 5 _ rfl
    have r6 := KP.out.2.1 6 _ rfl
    have r7 := KP.out.2.1 7 _ rfl
    have r8 := KP.out.2.1 8 _ rfl
    have r9 := KP.out.2.1 9 _ rfl
    have r10 := KP.out.2.1 10 _ rfl
    have r11 := KP.out.2.1 11 _ rfl
    exact bodyPost_ret (v := .tuple #[.agg #[.int .i64 0, .int .i64 0, .int .i64 0, .int .i64 0, .int .i64 0, .int .i64 0, .int .i64 0, .int .i64 0, .int .i64 0, .int .i64 0, .int .i64 0, .int .i64 0], .bool false]) (by simp [results, Tryz.results205, go_sem, r0, r1, r2, r3, r4, r5, r6, r7, r8, r9, r10, r11]) rfl ⟨by rw [HT.out.1, HT.out.2]; rfl, KP.out.1⟩
  | true =>
    have HT : Hid (tk6 xs = xs ∧ cellsB xs = true) := ⟨by simp [tk6, hB], hB⟩
    have hx6 : xs.length = 6 := by simp only [cellsB, Bool.and_eq_true, decide_eq_true_eq] at hB; exact hB.1
    clear hB
    obtain ⟨hx, hs⟩ := HS.out
    obtain rfl : n = 6 := by omega
    rcases hs with hs | ⟨b, off, rfl, hb, h1⟩
    · omega
    have hsrc : ∀ j v, (xs.flatMap C2.cells)[j]? = some v → W.cell? ((⟨b, off, none⟩ : Addr).add j) = some v := by
      intro j v hv
      have hj : j < 12 := by
        rcases Nat.lt_or_ge j 12 with h | h
        · exact h
        · rw [List.getElem?_eq_none (by rw [flat2_len, hx6]; exact h)] at hv; cases hv
      obtain ⟨i, r, rfl, hr⟩ : ∃ i r, j = i * 2 + r ∧ r < 2 := ⟨j / 2, j % 2, by omega, by omega⟩
      have hi : i < xs.length := by omega
      rw [flat2 xs i _ r (at2_of hi) hr] at hv
      have hc := (h1.get hi).below KW.out.1 hb
      have ea : (⟨b, off, none⟩ : Addr).add (i * 2 + r) = ⟨b, off + i * 2 + r, none⟩ := by
        by_cases h0 : i * 2 + r = 0
        · have : i = 0 := by omega
          have : r = 0 := by omega
          subst i; subst r
          simp [Addr.add]
        · simp only [Addr.add, if_neg h0, Nat.add_assoc]
      rw [ea]
      match r, hr with
      | 0, _ => simp only [C2.cells, List.getElem?_cons_zero, Option.some.injEq] at hv; subst hv; exact hc.c0
      | 1, _ => simp only [C2.cells, List.getElem?_cons_succ, List.getElem?_cons_zero, Option.some.injEq] at hv; subst hv; exact hc.c1
    have h1c : ∀ v ∈ xs.flatMap C2.cells, v.oneCell' = true := by
      intro v hv
      obtain ⟨c, -, hc⟩ := List.mem_flatMap.1 hv
      simp only [C2.cells, List.mem_cons, List.not_mem_nil, or_false] at hc
      rcases hc with rfl | rfl <;> rfl
    have hfl : (xs.flatMap C2.cells).length = 12 := by rw [flat2_len, hx6]
    have hz : (arr6 zer6).size = 12 := by rfl
    have hrun := run_copy_wide (P := Tryz.prog) W 42 42 3 75 (w.heap.size + 1) 0 6 6 ⟨b, off, none⟩ 6 cap (arr6 zer6) 214 (xs.flatMap C2.cells) 2 Tryz.underlying42 (by kernel_rfl) k2 (by rw [hfl]; rfl) hsrc (by rw [hfl, hz]; omega) h1c
    have hl : ((arr6 zer6).toList.take 0 ++ xs.flatMap C2.cells ++ (arr6 zer6).toList.drop (0 + (xs.flatMap C2.cells).length)).toArray = arr6 xs := by
      rw [hfl]; simp [arr6, zer6, C2.cells]
    rw [hl] at hrun
    have k3 := setRow_heap W (w.heap.size + 1) _ (arr6 xs) _ _ k2
    have b3 : Below (w.heap.size + 1) W (W.setRow (w.heap.size + 1) (arr6 xs)) := below_setRow (Below.refl _ _) (Nat.le_refl _) _
    have b4 : Below w.heap.size w (W.setRow (w.heap.size + 1) (arr6 xs)) := below_setRow KW.out.1 (by omega) _
    have X3 := X1.under b3 (by omega)
    generalize W.setRow (w.heap.size + 1) (arr6 xs) = V at *
    obtain ⟨a0, a1, a2, a3, a4, a5, rfl⟩ := six_of hx6
    have X1 := X3
    have KP : Hid (Below w.heap.size w (putB V w.heap.size 0 [.int .i64 a0.head, .int .i64 a0.value, .int .i64 a1.head, .int .i64 a1.value, .int .i64 a2.head, .int .i64 a2.value, .int .i64 a3.head, .int .i64 a3.value, .int .i64 a4.head, .int .i64 a4.value, .int .i64 a5.head, .int .i64 a5.value]) ∧ Bx (putB V w.heap.size 0 [.int .i64 a0.head, .int .i64 a0.value, .int .i64 a1.head, .int .i64 a1.value, .int .i64 a2.head, .int .i64 a2.value, .int .i64 a3.head, .int .i64 a3.value, .int .i64 a4.head, .int .i64 a4.value, .int .i64 a5.head, .int .i64 a5.value]) w.heap.size [.int .i64 a0.head, .int .i64 a0.value, .int .i64 a1.head, .int .i64 a1.value, .int .i64 a2.head, .int .i64 a2.value, .int .i64 a3.head, .int .i64 a3.value, .int .i64 a4.head, .int .i64 a4.value, .int .i64 a5.head, .int .i64 a5.value]) := ⟨putB_below (Nat.le_refl _) _ _ _ b4, X1.put _ rfl⟩
    have p0 := X1.1 0 _ rfl
    have f0 := X1.2.1 0
    have p1 := X1.1 1 _ rfl
    have f1 := X1.2.1 1
    have p2 := X1.1 2 _ rfl
    have f2 := X1.2.1 2
    have p3 := X1.1 3 _ rfl
    have f3 := X1.2.1 3
    have p4 := X1.1 4 _ rfl
    have f4 := X1.2.1 4
    have p5 := X1.1 5 _ rfl
    have f5 := X1.2.1 5
    have p6 := X1.1 6 _ rfl
    have f6 := X1.2.1 6
    have p7 := X1.1 7 _ rfl
    have f7 := X1.2.1 7
    have p8 := X1.1 8 _ rfl
    have f8 := X1.2.1 8
    have p9 := X1.1 9 _ rfl
    have f9 := X1.2.1 9
    have p10 := X1.1 10 _ rfl
    have f10 := X1.2.1 10
    have p11 := X1.1 11 _ rfl
    have f11 := X1.2.1 11
    have q0 : V.cell? ⟨w.heap.size + 1, 0, none⟩ = some (.int .i64 a0.head) := zcell (xs := [a0, a1, a2, a3, a4, a5]) k3 0 _ rfl
    have q1 : V.cell? ⟨w.heap.size + 1, 1, none⟩ = some (.int .i64 a0.value) := zcell (xs := [a0, a1, a2, a3, a4, a5]) k3 1 _ rfl
    have q2 : V.cell? ⟨w.heap.size + 1, 2, none⟩ = some (.int .i64 a1.head) := zcell (xs := [a0, a1, a2, a3, a4, a5]) k3 2 _ rfl
    have q3 : V.cell? ⟨w.heap.size + 1, 3, none⟩ = some (.int .i64 a1.value) := zcell (xs := [a0, a1, a2, a3, a4, a5]) k3 3 _ rfl
    have q4 : V.cell? ⟨w.heap.size + 1, 4, none⟩ = some (.int .i64 a2.head) := zcell (xs := [a0, a1, a2, a3, a4, a5]) k3 4 _ rfl
    have q5 : V.cell? ⟨w.heap.size + 1, 5, none⟩ = some (.int .i64 a2.value) := zcell (xs := [a0, a1, a2, a3, a4, a5]) k3 5 _ rfl
    have q6 : V.cell? ⟨w.heap.size + 1, 6, none⟩ = some (.int .i64 a3.head) := zcell (xs := [a0, a1, a2, a3, a4, a5]) k3 6 _ rfl
    have q7 : V.cell? ⟨w.heap.size + 1, 7, none⟩ = some (.int .i64 a3.value) := zcell (xs := [a0, a1, a2, a3, a4, a5]) k3 7 _ rfl
    have q8 : V.cell? ⟨w.heap.size + 1, 8, none⟩ = some (.int .i64 a4.head) := zcell (xs := [a0, a1, a2, a3, a4, a5]) k3 8 _ rfl
    have q9 : V.cell? ⟨w.heap.size + 1, 9, none⟩ = some (.int .i64 a4.value) := zcell (xs := [a0, a1, a2, a3, a4, a5]) k3 9 _ rfl
    have q10 : V.cell? ⟨w.heap.size + 1, 10, none⟩ = some (.int .i64 a5.head) := zcell (xs := [a0, a1, a2, a3, a4, a5]) k3 10 _ rfl
    have q11 : V.cell? ⟨w.heap.size + 1, 11, none⟩ = some (.int .i64 a5.value) := zcell (xs := [a0, a1, a2, a3, a4, a5]) k3 11 _ rfl
    clear X1 X3 k2 k3 bW b3 b4 hsrc h1c hfl hz hl h1 hx hx6
    go_wp2
    obtain ⟨Z, hZ⟩ : ∃ Z, Z = putB V w.heap.size 0 [.int .i64 a0.head, .int .i64 a0.value, .int .i64 a1.head, .int .i64 a1.value, .int .i64 a2.head, .int .i64 a2.value, .int .i64 a3.head, .int .i64 a3.value, .int .i64 a4.head, .int .i64 a4.value, .int .i64 a5.head, .int .i64 a5.value] := ⟨_, rfl⟩
    rw [← hZ] at KP
    simp only [putB, Nat.zero_add, Nat.reduceAdd] at hZ
    rw [← hZ]
    clear hZ
    have r0 := KP.out.2.1 0 _ rfl
    have r1 := KP.out.2.1 1 _ rfl
    have r2 := KP.out.2.1 2 _ rfl
    have r3 := KP.out.2.1 3 _ rfl
    have r4 := KP.out.2.1 4 _ rfl
    have r5 := KP.out.2.1 5 _ rfl
    have r6 := KP.out.2.1 6 _ rfl
    have r7 := KP.out.2.1 7 _ rfl
    have r8 := KP.out.2.1 8 _ rfl
    have r9 := KP.out.2.1 9 _ rfl
    have r10 := KP.out.2.1 10 _ rfl
    have r11 := KP.out.2.1 11 _ rfl
    exact bodyPost_ret (v := .tuple #[.agg #[.int .i64 a0.head, .int .i64 a0.value, .int .i64 a1.head, .int .i64 a1.value, .int .i64 a2.head, .int .i64 a2.value, .int .i64 a3.head, .int .i64 a3.value, .int .i64 a4.head, .int .i64 a4.value, .int .i64 a5.head, .int .i64 a5.value], .bool true]) (by simp [results, Tryz.results205, go_sem, r0, r1, r2, r3, r4, r5, r6, r7, r8, r9, r10, r11]) rfl ⟨by rw [HT.out.1, HT.out.2]; rfl, KP.out.1⟩
end Go.Proofs.YtdmpobegobfpjaaGreat
namespace Go.Proofs.YtdmpobegobfpjaaGreat
open Go.RowKit
open Go.Sort (grow)
set_option maxHeartbeats 1000000 in
theorem setsRise_any (w : World) (a : Option Addr) (n cap : Nat) (ss : List S5) (hn : n ≤ maxLen) (hs : Sl w w.heap.size a n ss) :
    Calls Tryz.prog 206 #[.slice a n cap] w fun e w' => e = .returned (.bool (riseB ss)) ∧ Below w.heap.size w w' := by
  obtain ⟨hx, hs⟩ := hs
  rcases hs with rfl | ⟨b, off, rfl, hb, h1⟩
  · obtain rfl : ss = [] := List.eq_nil_of_length_eq_zero hx
    go_enter Tryz.func206, Tryz.ntmps206
    go_wp2
    go_loopw [7] (fun i wr => i = .int .i64 0 ∧ Below w.heap.size w wr) (fun _ _ => 0)
    case atStart => exact ⟨rfl, Below.refl _ _⟩
    case round =>
      obtain ⟨rfl, hbl⟩ := hrel
      go_wp2
      go_ret
      exact ⟨rfl, hbl⟩
  · exact setsRise_some w b off cap n ss hx hn h1 hb
set_option maxRecDepth 100000 in
set_option maxHeartbeats 8000000 in
theorem takeForSets_any (w : World) (a : Option Addr) (n cap : Nat) (xs : List C2) (b : Option Addr) (m cap2 : Nat) (ss : List S5) (hn : n ≤ maxLen) (hm : m ≤ maxLen) (hs : SlC w w.heap.size a n xs) (h2 : Sl w w.heap.size b m ss) (hB : cellsB xs = true) :
    Calls Tryz.prog 176 #[.slice a n cap, .slice b m cap2] w fun e w' => e = .returned (.tuple #[.agg (arr6 xs), .bool (riseB ss)]) ∧ Below w.heap.size w w' := by
  have hx6 : xs.length = 6 := by simp only [cellsB, Bool.and_eq_true, decide_eq_true_eq] at hB; exact hB.1
  obtain ⟨u0, u1, u2, u3, u4, u5, hu⟩ := six_of hx6
  have HU : Hid (arr6 xs = #[.int .i64 u0.head, .int .i64 u0.value, .int .i64 u1.head, .int .i64 u1.value, .int .i64 u2.head, .int .i64 u2.value, .int .i64 u3.head, .int .i64 u3.value, .int .i64 u4.head, .int .i64 u4.value, .int .i64 u5.head, .int .i64 u5.value]) := by unfold Hid; rw [hu]; rfl
  obtain ⟨U, hU⟩ : ∃ Y, Y = w.alloc (.cells #[.int .i64 0, .int .i64 0, .int .i64 0, .int .i64 0, .int .i64 0, .int .i64 0, .int .i64 0, .int .i64 0, .int .i64 0, .int .i64 0, .int .i64 0, .int .i64 0] 214) := ⟨_, rfl⟩
  have bU : Below w.heap.size w U := by rw [hU]; exact (Below.refl _ _).alloc (Nat.le_refl _) _
  have XU : Hid (Bx U w.heap.size [.int .i64 0, .int .i64 0, .int .i64 0, .int .i64 0, .int .i64 0, .int .i64 0, .int .i64 0, .int .i64 0, .int .i64 0, .int .i64 0, .int .i64 0, .int .i64 0]) := by unfold Hid; rw [hU]; exact Bx.made w [.int .i64 0, .int .i64 0, .int .i64 0, .int .i64 0, .int .i64 0, .int .i64 0, .int .i64 0, .int .i64 0, .int .i64 0, .int .i64 0, .int .i64 0, .int .i64 0] _
  have hc := takeCells_any U a n cap xs hn (hs.later bU)
  have ht : tk6 xs = xs := by simp [tk6, hB]
  rw [ht, hB] at hc
  have KU : Hid (Below w.heap.size w U ∧ U.heap.size = w.heap.size + 1 ∧ Sl w w.heap.size b m ss ∧ m ≤ maxLen) := ⟨bU, by rw [hU]; simp, h2, hm⟩
  clear hs h2 hB hx6 hu ht bU hn hm
  go_enter Tryz.func176, Tryz.ntmps176
  go_wp2_with fail
  rw [← hU]
  clear hU
  refine hc.mono ?_
  clear hc
  rintro e W1 ⟨rfl, b1⟩
  rw [HU.out]
  obtain ⟨W2, hW2⟩ : ∃ Y, Y = W1.alloc (.cells #[.int .i64 u0.head, .int .i64 u0.value, .int .i64 u1.head, .int .i64 u1.value, .int .i64 u2.head, .int .i64 u2.value, .int .i64 u3.head, .int .i64 u3.value, .int .i64 u4.head, .int .i64 u4.value, .int .i64 u5.head, .int .i64 u5.value] 214) := ⟨_, rfl⟩
  have b2 : Below W1.heap.size W1 W2 := by rw [hW2]; exact (Below.refl _ _).alloc (Nat.le_refl _) _
  have XB : Hid (Bx W2 W1.heap.size [.int .i64 u0.head, .int .i64 u0.value, .int .i64 u1.head, .int .i64 u1.value, .int .i64 u2.head, .int .i64 u2.value, .int .i64 u3.head, .int .i64 u3.value, .int .i64 u4.head, .int .i64 u4.value, .int .i64 u5.head, .int .i64 u5.value]) := by unfold Hid; rw [hW2]; exact Bx.made W1 [.int .i64 u0.head, .int .i64 u0.value, .int .i64 u1.head, .int .i64 u1.value, .int .i64 u2.head, .int .i64 u2.value, .int .i64 u3.head, .int .i64 u3.value, .int .i64 u4.head, .int .i64 u4.value, .int .i64 u5.head, .int .i64 u5.value] _
  have XA : Hid (Bx W2 w.heap.size [.int .i64 0, .int .i64 0, .int .i64 0, .int .i64 0, .int .i64 0, .int .i64 0, .int .i64 0, .int .i64 0, .int .i64 0, .int .i64 0, .int .i64 0, .int .i64 0]) := XU.out.later (bstep b1 b2)
  have KW : Hid (Below w.heap.size w W2) := bstep KU.out.1 (bstep b1 b2)
  have hrs : ∀ X, Below W2.heap.size W2 X → Calls Tryz.prog 206 #[.slice b m cap2] X fun e w' => e = .returned (.bool (riseB ss)) ∧ Below X.heap.size X w' := fun X hX => setsRise_any X b m cap2 ss KU.out.2.2.2 ((Sl.below KU.out.2.2.1 (bstep KW.out hX)).mono (bstep KW.out hX).size)
  have SZ : Hid (w.heap.size ≤ w.heap.size) := Nat.le_refl _
  clear b1 b2
  go_upto_region 2 with fail
  rw [← hW2]
  clear hW2
  generalize W1.heap.size = s6 at *
  obtain ⟨s4, hs4⟩ : ∃ s, w.heap.size = s := ⟨_, rfl⟩
  have SZ : Hid (w.heap.size ≤ s4) := by unfold Hid; omega
  rw [hs4] at XA
  rw [hs4]
  clear hs4
  have bXD : Below W2.heap.size W2 W2.drew := (Below.refl _ _).drew
  have hS : (fun X : World => Bx X s6 [.int .i64 u0.head, .int .i64 u0.value, .int .i64 u1.head, .int .i64 u1.value, .int .i64 u2.head, .int .i64 u2.value, .int .i64 u3.head, .int .i64 u3.value, .int .i64 u4.head, .int .i64 u4.value, .int .i64 u5.head, .int .i64 u5.value]) W2.drew := XB.out.later bXD
  refine wp_region_z (fun z => z == 6) (fun X : World => Bx X s6 [.int .i64 u0.head, .int .i64 u0.value, .int .i64 u1.head, .int .i64 u1.value, .int .i64 u2.head, .int .i64 u2.value, .int .i64 u3.head, .int .i64 u3.value, .int .i64 u4.head, .int .i64 u4.value, .int .i64 u5.head, .int .i64 u5.value]) (by kernel_rfl) ?_
  generalize W2.drew = XD at *
  refine wpZ_take (i := 0) (v := ?_) rfl (by kernel_rfl) (fun _ _ _ h => h) (Or.inl ⟨by rfl, ?_⟩) hS ?_
  rotate_left
  · (intro X hSw; have c0 := hSw.1 0 _ rfl; have c1 := hSw.1 1 _ rfl; have c2 := hSw.1 2 _ rfl; have c3 := hSw.1 3 _ rfl; have c4 := hSw.1 4 _ rfl; have c5 := hSw.1 5 _ rfl; have c6 := hSw.1 6 _ rfl; have c7 := hSw.1 7 _ rfl; have c8 := hSw.1 8 _ rfl; have c9 := hSw.1 9 _ rfl; have c10 := hSw.1 10 _ rfl; have c11 := hSw.1 11 _ rfl; go_simp; first | done | with_reducible rfl | rfl)
  simp only [Act.put]
  refine wpZ_takeP (i := 1) (v := ?_) rfl (by kernel_rfl) (fun _ _ _ h => h) (Or.inl ⟨by rfl, ?_⟩) hS ?_
  rotate_left
  · (intro X _; go_simp; first | done | with_reducible rfl | rfl)
  simp only [Act.put]
  refine wpZ_takeP (i := 2) (v := ?_) rfl (by kernel_rfl) (fun _ _ _ h => h) (Or.inl ⟨by rfl, ?_⟩) hS ?_
  rotate_left
  · (intro X _; go_simp; first | done | with_reducible rfl | rfl)
  simp only [Act.put]
  refine wpZ_takeP (i := 3) (v := ?_) rfl (by kernel_rfl) (fun _ _ _ h => h) (Or.inl ⟨by rfl, ?_⟩) hS ?_
  rotate_left
  · (intro X _; go_simp; first | done | with_reducible rfl | rfl)
  simp only [Act.put]
  refine wpZ_ready (rs := [4]) (by kernel_rfl) (by simp) ?_
  refine AllZ.cons rfl (fun K hK => ?_) AllZ.nil
  go_simp
  refine (hrs XD bXD).mono ?_
  rintro e Y ⟨rfl, bY⟩
  have bYY : Below W2.heap.size W2 Y := bstep bXD bY
  have hS : (fun X : World => Bx X s6 [.int .i64 u0.head, .int .i64 u0.value, .int .i64 u1.head, .int .i64 u1.value, .int .i64 u2.head, .int .i64 u2.value, .int .i64 u3.head, .int .i64 u3.value, .int .i64 u4.head, .int .i64 u4.value, .int .i64 u5.head, .int .i64 u5.value]) Y := XB.out.later bYY
  refine hK.out _ _ (fun _ => hS) ?_
  clear hK K
  refine wpZ_takeP (i := 5) (v := ?_) rfl (by kernel_rfl) (fun _ _ _ h => h) (Or.inl ⟨by rfl, ?_⟩) hS ?_
  rotate_left
  · (intro X _; go_simp; first | done | with_reducible rfl | rfl)
  simp only [Act.put]
  have RY : Hid (Bx Y s4 [.int .i64 0, .int .i64 0, .int .i64 0, .int .i64 0, .int .i64 0, .int .i64 0, .int .i64 0, .int .i64 0, .int .i64 0, .int .i64 0, .int .i64 0, .int .i64 0] ∧ Below w.heap.size w Y) := ⟨XA.out.later bYY, bstep KW.out bYY⟩
  have p0 := RY.out.1.1 0 _ rfl
  have f0 := RY.out.1.2.1 0
  have p1 := RY.out.1.1 1 _ rfl
  have f1 := RY.out.1.2.1 1
  have p2 := RY.out.1.1 2 _ rfl
  have f2 := RY.out.1.2.1 2
  have p3 := RY.out.1.1 3 _ rfl
  have f3 := RY.out.1.2.1 3
  have p4 := RY.out.1.1 4 _ rfl
  have f4 := RY.out.1.2.1 4
  have p5 := RY.out.1.1 5 _ rfl
  have f5 := RY.out.1.2.1 5
  have p6 := RY.out.1.1 6 _ rfl
  have f6 := RY.out.1.2.1 6
  have p7 := RY.out.1.1 7 _ rfl
  have f7 := RY.out.1.2.1 7
  have p8 := RY.out.1.1 8 _ rfl
  have f8 := RY.out.1.2.1 8
  have p9 := RY.out.1.1 9 _ rfl
  have f9 := RY.out.1.2.1 9
  have p10 := RY.out.1.1 10 _ rfl
  have f10 := RY.out.1.2.1 10
  have p11 := RY.out.1.1 11 _ rfl
  have f11 := RY.out.1.2.1 11
  have KP : Hid (Below w.heap.size w (putB Y s4 0 [.int .i64 u0.head, .int .i64 u0.value, .int .i64 u1.head, .int .i64 u1.value, .int .i64 u2.head, .int .i64 u2.value, .int .i64 u3.head, .int .i64 u3.value, .int .i64 u4.head, .int .i64 u4.value, .int .i64 u5.head, .int .i64 u5.value]) ∧ Bx (putB Y s4 0 [.int .i64 u0.head, .int .i64 u0.value, .int .i64 u1.head, .int .i64 u1.value, .int .i64 u2.head, .int .i64 u2.value, .int .i64 u3.head, .int .i64 u3.value, .int .i64 u4.head, .int .i64 u4.value, .int .i64 u5.head, .int .i64 u5.value]) s4 [.int .i64 u0.head, .int .i64 u0.value, .int .i64 u1.head, .int .i64 u1.value, .int .i64 u2.head, .int .i64 u2.value, .int .i64 u3.head, .int .i64 u3.value, .int .i64 u4.head, .int .i64 u4.value, .int .i64 u5.head, .int .i64 u5.value]) := ⟨putB_below (by have := SZ.out; omega) _ _ _ RY.out.2, RY.out.1.put _ rfl⟩
  refine wpZ_ready (rs := [6]) (by kernel_rfl) (by simp) ?_
  refine AllZ.cons rfl (fun K hK => ?_) AllZ.nil
  go_simp
  refine hK.out _ _ (fun h => absurd (show false = true from h.symm.trans (by kernel_rfl)) (by decide)) ?_
  clear hK K
  refine wpZ_ready (rs := [7]) (by kernel_rfl) (by simp) ?_
  refine AllZ.cons rfl (fun K hK => ?_) AllZ.nil
  go_simp
  refine hK.out _ _ (fun h => absurd (show false = true from h.symm.trans (by kernel_rfl)) (by decide)) ?_
  clear hK K
  refine wpZ_done (by kernel_rfl) ?_ _
  go_wp2
  obtain ⟨Z, hZ⟩ : ∃ Z, Z = putB Y s4 0 [.int .i64 u0.head, .int .i64 u0.value, .int .i64 u1.head, .int .i64 u1.value, .int .i64 u2.head, .int .i64 u2.value, .int .i64 u3.head, .int .i64 u3.value, .int .i64 u4.head, .int .i64 u4.value, .int .i64 u5.head, .int .i64 u5.value] := ⟨_, rfl⟩
  rw [← hZ] at KP
  simp only [putB, Nat.zero_add, Nat.reduceAdd] at hZ
  rw [← hZ]
  clear hZ
  have r0 := KP.out.2.1 0 _ rfl
  have r1 := KP.out.2.1 1 _ rfl
  have r2 := KP.out.2.1 2 _ rfl
  have r3 := KP.out.2.1 3 _ rfl
  have r4 := KP.out.2.1 4 _ rfl
  have r5 := KP.out.2.1 5 _ rfl
  have r6 := KP.out.2.1 6 _ rfl
  have r7 := KP.out.2.1 7 _ rfl
  have r8 := KP.out.2.1 8 _ rfl
  have r9 := KP.out.2.1 9 _ rfl
  have r10 := KP.out.2.1 10 _ rfl
  have r11 := KP.out.2.1 11 _ rfl
  exact bodyPost_ret (v := .tuple #[.agg #[.int .i64 u0.head, .int .i64 u0.value, .int .i64 u1.head, .int .i64 u1.value, .int .i64 u2.head, .int .i64 u2.value, .int .i64 u3.head, .int .i64 u3.value, .int .i64 u4.head, .int .i64 u4.value, .int .i64 u5.head, .int .i64 u5.value], .bool (riseB ss)]) (by simp [results, Tryz.results176, go_sem, r0, r1, r2, r3, r4, r5, r6, r7, r8, r9, r10, r11]) rfl ⟨by rw [HU.out], KP.out.1⟩
end Go.Proofs.YtdmpobegobfpjaaGreat
namespace Go.Proofs.YtdmpobegobfpjaaGreat
open Go.RowKit
theorem insC_ok {xs : List C2} {s : S5} (hx : cellsB xs = true) (hs : setOkB s = true) : cellsB (insC xs s) = true := by
  simp only [cellsB, Bool.and_eq_true, decide_eq_true_eq, List.all_eq_true] at hx ⊢
  refine ⟨by rw [insC_len]; exact hx.1, fun c hc => ?_⟩
  unfold insC at hc
  split at hc
  · exact hx.2 c hc
  · rcases List.mem_or_eq_of_mem_set hc with hc | rfl
    · exact hx.2 c hc
    · simp only [setOkB, Bool.and_eq_true, inB_iff] at hs
      obtain ⟨⟨⟨h1, h2⟩, h3⟩, h4⟩ := hs
      simp only [cellB, Bool.and_eq_true, inB_iff, Bool.or_eq_true, decide_eq_true_eq, hdV, usedB]
      cases s.used
      · simp; omega
      · simp; omega
theorem ins_ok : ∀ (ss : List S5) {xs : List C2}, cellsB xs = true → (∀ s ∈ ss, setOkB s = true) → cellsB (ss.foldl insC xs) = true
  | [], _, h, _ => h
  | s :: ss, _, h, hs => ins_ok ss (insC_ok h (hs s (List.mem_cons_self ..))) (fun x hx => hs x (List.mem_cons_of_mem _ hx))
theorem zeros_ok : cellsB zeros = true := by decide
theorem fold_at : ∀ (ss : List S5) (css : List (List C2)) (r : Nat), (ss.foldl insA css)[r]? = (css[r]?).map fun xs => (ss.filter fun s => s.region.toNat == r).foldl insC xs
  | [], css, r => by simp
  | s :: ss, css, r => by
    rw [List.foldl_cons, fold_at ss]
    by_cases e : s.region.toNat = r
    · subst e
      rw [insA]
      by_cases hl : s.region.toNat < css.length
      · rw [List.getElem?_set_self hl, List.getElem?_eq_getElem hl]
        simp
      · have h1 : css[s.region.toNat]? = none := List.getElem?_eq_none (by omega)
        rw [h1, List.getElem?_eq_none (by rw [List.length_set]; omega)]
        rfl
    · rw [insA, List.getElem?_set_ne e]
      simp [e]
def grpA (ss : List S5) (css : List (List C2)) (g : Int) : List (List C2) := css.set g.toNat ((tx.ofR g ss).foldl insC (css[g.toNat]?.getD []))
theorem grpA_len (ss : List S5) (css : List (List C2)) (g : Int) : (grpA ss css g).length = css.length := by simp [grpA]
theorem grp_at (ss : List S5) : ∀ (gs : List Int) (css : List (List C2)) (r : Nat), gs.Nodup → (∀ g ∈ gs, 0 ≤ g) → (gs.foldl (grpA ss) css)[r]? = if (r : Int) ∈ gs then (css[r]?).map fun xs => (tx.ofR (r : Int) ss).foldl insC xs else css[r]?
  | [], css, r, _, _ => by simp
  | g :: gs, css, r, hn, h0 => by
    obtain ⟨h1, h2⟩ := List.nodup_cons.1 hn
    rw [List.foldl_cons, grp_at ss gs _ r h2 (fun x hx => h0 x (List.mem_cons_of_mem _ hx))]
    have hg := h0 g (List.mem_cons_self ..)
    by_cases e : (r : Int) = g
    · subst e
      rw [if_neg h1, if_pos (List.mem_cons_self ..), grpA, Int.toNat_natCast]
      by_cases hl : r < css.length
      · rw [List.getElem?_set_self hl, List.getElem?_eq_getElem hl]; rfl
      · rw [List.getElem?_eq_none (by rw [List.length_set]; omega), List.getElem?_eq_none (by omega)]; rfl
    · have hne : g.toNat ≠ r := by omega
      have hm : (r : Int) ∈ g :: gs ↔ (r : Int) ∈ gs := by rw [List.mem_cons]; exact ⟨fun h => h.resolve_left e, .inr⟩
      simp only [hm, grpA, List.getElem?_set_ne hne]
theorem wln_nd (zs : List Int) : ∀ j, (tx.wln zs j).Nodup
  | 0 => List.nodup_nil
  | j + 1 => by
    have ih := wln_nd zs j
    rw [tx.wln]
    split
    · exact ih
    · next hh =>
      refine List.nodup_append.2 ⟨ih, by simp, fun a ha b hb e => ?_⟩
      rw [List.mem_singleton] at hb
      subst hb
      subst e
      exact hh (tx.has_mem.2 ha)
theorem wln_in (zs : List Int) : ∀ j z, z ∈ tx.wln zs j ↔ ∃ i, i < j ∧ atN zs i = z
  | 0, z => by simp [tx.wln]
  | j + 1, z => by
    have ih := wln_in zs j z
    rw [tx.wln]
    split
    · next hh =>
      rw [ih]
      constructor
      · rintro ⟨i, hi, e⟩; exact ⟨i, by omega, e⟩
      · rintro ⟨i, hi, e⟩
        by_cases h2 : i = j
        · subst h2
          exact (wln_in zs i z).1 (by rw [← e]; exact tx.has_mem.1 hh)
        · exact ⟨i, by omega, e⟩
    · rw [List.mem_append, ih, List.mem_singleton]
      constructor
      · rintro (⟨i, hi, e⟩ | e)
        · exact ⟨i, by omega, e⟩
        · exact ⟨j, by omega, e.symm⟩
      · rintro ⟨i, hi, e⟩
        by_cases h2 : i = j
        · subst h2; exact .inr e.symm
        · exact .inl ⟨i, by omega, e⟩
theorem want_in {t : tx.T7} (h : tx.txB t = true) (g : Int) : g ∈ tx.wantsT t ↔ ∃ s ∈ t.sets, s.region = g := by
  rw [tx.wantsT, if_pos h, wln_in]
  constructor
  · rintro ⟨i, hi, e⟩
    refine ⟨t.sets[i], List.getElem_mem hi, ?_⟩
    rw [← e, atN, tx.rgs, List.getElem?_map, List.getElem?_eq_getElem hi]
    rfl
  · rintro ⟨s, hs, e⟩
    obtain ⟨i, hi, rfl⟩ := List.getElem_of_mem hs
    exact ⟨i, hi, by rw [atN, tx.rgs, List.getElem?_map, List.getElem?_eq_getElem hi]; exact e⟩
theorem set_in {t : tx.T7} (h : tx.txB t = true) {s : S5} (hs : s ∈ t.sets) : (0 ≤ s.region ∧ s.region ≤ 5) ∧ 0 ≤ s.slot ∧ s.slot ≤ 5 := by
  have := tx.seOk_in ((tx.txB_se h).1 s hs)
  rw [inB_iff, inB_iff] at this
  exact this
theorem grp_all {t : tx.T7} (h : tx.txB t = true) (css : List (List C2)) : (tx.wantsT t).foldl (grpA t.sets) css = t.sets.foldl insA css := by
  refine List.ext_getElem? fun r => ?_
  have h0 : ∀ g ∈ tx.wantsT t, 0 ≤ g := fun g hg => by
    obtain ⟨s, hs, rfl⟩ := (want_in h g).1 hg
    exact (set_in h hs).1.1
  have hnd : (tx.wantsT t).Nodup := by rw [tx.wantsT, if_pos h]; exact wln_nd _ _
  have hf : (t.sets.filter fun s => s.region.toNat == r) = tx.ofR (r : Int) t.sets := by
    refine List.filter_congr fun s hs => ?_
    have := (set_in h hs).1.1
    by_cases e : s.region = (r : Int)
    · simp [e]
    · have : s.region.toNat ≠ r := by omega
      simp [e, this]
  rw [grp_at _ _ _ _ hnd h0, fold_at, hf]
  split
  · rfl
  · next hr =>
    have : tx.ofR (r : Int) t.sets = [] := List.filter_eq_nil_iff.2 fun s hs he => hr ((want_in h _).2 ⟨s, hs, by simpa using he⟩)
    rw [this]
    simp
theorem ofR_rise {t : tx.T7} (h : tx.txB t = true) (g : Int) : riseB (tx.ofR g t.sets) = true := by
  have h1 := tx.txB_se h
  have h2 : (tx.ofR g t.sets).Pairwise fun a b => tx.seR a < tx.seR b := List.Pairwise.filter _ h1.2
  refine List.all_eq_true.2 fun i hi => ?_
  have hl : i < (tx.ofR g t.sets).length := List.mem_range.1 hi
  have hm : ∀ s ∈ tx.ofR g t.sets, s ∈ t.sets ∧ s.region = g := fun s hs => by
    have := List.mem_filter.1 hs
    exact ⟨this.1, by simpa using this.2⟩
  have e : ∀ j (hj : j < (tx.ofR g t.sets).length), at5 (tx.ofR g t.sets) j = (tx.ofR g t.sets)[j] := fun j hj => by rw [at5, List.getElem?_eq_getElem hj]; rfl
  rw [riseAt, Bool.and_eq_true, e i hl]
  refine ⟨h1.1 _ (hm _ (List.getElem_mem hl)).1, ?_⟩
  rcases i with _ | i
  · rfl
  · have hl' : i < (tx.ofR g t.sets).length := by omega
    rw [Nat.add_sub_cancel, e i hl']
    have := List.pairwise_iff_getElem.1 h2 i (i + 1) hl' hl (by omega)
    have r1 := (hm _ (List.getElem_mem hl')).2
    have r2 := (hm _ (List.getElem_mem hl)).2
    simp only [tx.seR, tx.rk, r1, r2] at this
    simp only [Bool.or_eq_true, decide_eq_true_eq]
    right
    omega
end Go.Proofs.YtdmpobegobfpjaaGreat
namespace Go.Proofs.YtdmpobegobfpjaaGreat
open Go.RowKit
open Go.Sort (grow)
set_option maxRecDepth 10000 in
set_option maxHeartbeats 1000000 in
theorem implList_any (w : World) (zs : List Value) (hz : zs.length = 12) (h1 : ∀ v ∈ zs, v.oneCell' = true) : Calls Tryz.prog 171 #[.agg zs.toArray] w fun e w' => e = .returned (.slice (some ⟨w.heap.size + 1, 0, none⟩) 6 6) ∧ Below w.heap.size w w' ∧ w'.heap[w.heap.size + 1]? = some (.cells zs.toArray 75 (0, 0)) := by
  have hmk := make_six
  have H1 : Hid (∀ v ∈ zs, v.oneCell' = true) := h1
  have HN : Hid (zs.length = Nat.min 6 6 * 2) := hz
  have HG : Hid (((w.alloc (.cells zs.toArray 214)).alloc (.cells (madeCells #[.int .i64 0, .int .i64 0] 12) 75)).heap[w.heap.size + 1]? = some (.cells (madeCells #[.int .i64 0, .int .i64 0] 12) 75 (0, 0))) := by
    have := Go.Deep.blk_alloc_new (w.alloc (.cells zs.toArray 214)) (.cells (madeCells #[.int .i64 0, .int .i64 0] 12) 75)
    unfold Hid
    have e : (w.alloc (.cells zs.toArray 214)).heap.size = w.heap.size + 1 := by simp
    rw [e] at this
    exact this
  have HS : Hid (∀ (j : Nat) (v : Value), zs[j]? = some v → ((w.alloc (.cells zs.toArray 214)).alloc (.cells (madeCells #[.int .i64 0, .int .i64 0] 12) 75)).cell? ((⟨w.heap.size, 0, none⟩ : Addr).add j) = some v) := by
    refine World.news_of_block (cs := zs.toArray) (t := 214) (fr := (0, 0)) ?_
    rw [Below.heap_alloc _ _ _ (by simp)]
    exact Go.Deep.blk_alloc_new w _
  have HF : Hid (0 + zs.length ≤ (madeCells #[.int .i64 0, .int .i64 0] 12).size) := by unfold Hid; rw [size_madeCells]; omega
  have b0 : Hid (Below w.heap.size w ((w.alloc (.cells zs.toArray 214)).alloc (.cells (madeCells #[.int .i64 0, .int .i64 0] 12) 75))) := ((Below.refl _ _).alloc (Nat.le_refl _) _).alloc (by simp) _
  have hl : ((madeCells #[.int .i64 0, .int .i64 0] 12).toList.take 0 ++ zs ++ (madeCells #[.int .i64 0, .int .i64 0] 12).toList.drop (0 + zs.length)).toArray = zs.toArray := by
    have : (madeCells #[.int .i64 0, .int .i64 0] 12).toList.drop (0 + zs.length) = [] := List.drop_eq_nil_of_le (by rw [Array.length_toList, size_madeCells]; omega)
    rw [this]; simp
  have hrun := run_copy_wide (P := Tryz.prog) _ 42 42 3 75 (w.heap.size + 1) 0 6 6 ⟨w.heap.size, 0, none⟩ 6 6 (madeCells #[.int .i64 0, .int .i64 0] 12) 75 zs 2 Tryz.underlying42 info_cell_size HG.out HN.out HS.out HF.out H1.out
  rw [hl] at hrun
  have HW : Hid ((((w.alloc (.cells zs.toArray 214)).alloc (.cells (madeCells #[.int .i64 0, .int .i64 0] 12) 75)).setRow (w.heap.size + 1) zs.toArray).heap[w.heap.size + 1]? = some (.cells zs.toArray 75 (0, 0)) ∧ Below w.heap.size w (((w.alloc (.cells zs.toArray 214)).alloc (.cells (madeCells #[.int .i64 0, .int .i64 0] 12) 75)).setRow (w.heap.size + 1) zs.toArray)) := ⟨setRow_heap _ _ _ _ _ _ HG.out, below_setRow b0.out (by omega) _⟩
  generalize ((w.alloc (.cells zs.toArray 214)).alloc (.cells (madeCells #[.int .i64 0, .int .i64 0] 12) 75)).setRow (w.heap.size + 1) zs.toArray = W at HW hrun
  clear h1 hz hl
  go_enter Tryz.func171, Tryz.ntmps171
  go_wp2
  go_ret
  exact ⟨rfl, HW.out.2, HW.out.1⟩
theorem implNewCells_any (w : World) : Calls Tryz.prog 132 #[] w fun e w' => e = .returned (.slice (some ⟨w.heap.size + 1, 0, none⟩) 6 6) ∧ Below w.heap.size w w' ∧ w'.heap[w.heap.size + 1]? = some (.cells (zeros.flatMap C2.cells).toArray 75 (0, 0)) := by
  go_enter Tryz.func132, Tryz.ntmps132
  go_wp2_with fail
  refine (implList_any w (zeros.flatMap C2.cells) rfl (by decide)).mono ?_
  rintro e w1 ⟨rfl, b1, h1⟩
  have K : Hid (w1.heap[w.heap.size + 1]? = some (.cells (zeros.flatMap C2.cells).toArray 75 (0, 0))) := h1
  clear h1
  go_wp2
  go_ret
  exact ⟨rfl, b1, K.out⟩
structure Rep (W : World) (base b n : Nat) (g : Nat → Nat) (css : List (List C2)) : Prop where
  lo : base ≤ b
  hi : b < W.heap.size
  rm : Room W b n
  le : css.length ≤ n
  cs : ∀ (r : Nat) (xs : List C2), css[r]? = some xs → W.cell? ⟨b, r, none⟩ = some (.slice (some ⟨g r, 0, none⟩) 6 6) ∧ base ≤ g r ∧ g r < W.heap.size ∧ g r ≠ b ∧ CellsAt W (g r) 0 xs ∧ Room W (g r) 12 ∧ cellsB xs = true
theorem CellsAt.blk {W W' : World} {b off : Nat} {xs : List C2} (h : CellsAt W b off xs) (e : W'.heap[b]? = W.heap[b]?) : CellsAt W' b off xs := fun i s hi => ⟨(World.cell?_of_block (a := ⟨b, _, none⟩) e).trans (h i s hi).c0, (World.cell?_of_block (a := ⟨b, _, none⟩) e).trans (h i s hi).c1⟩
theorem Rep.later {W W' : World} {base b n : Nat} {g : Nat → Nat} {css : List (List C2)} (h : Rep W base b n g css) (hb : Below W.heap.size W W') : Rep W' base b n g css :=
  ⟨h.lo, Nat.lt_of_lt_of_le h.hi hb.size, h.rm.below hb h.hi, h.le, fun r xs hx => by
    obtain ⟨h1, h2, h3, h4, h5, h6, h7⟩ := h.cs r xs hx
    exact ⟨(hb.cell (p := ⟨b, r, none⟩) h.hi).trans h1, h2, Nat.lt_of_lt_of_le h3 hb.size, h4, h5.blk (hb.block _ h3), h6.below hb h3, h7⟩⟩
theorem Rep.store {W : World} {base b n : Nat} {g : Nat → Nat} {css : List (List C2)} (h : Rep W base b n g css) {r q : Nat} {ys : List C2} {css' : List (List C2)} (hr : r < n) (hq : base ≤ q) (hq2 : q < W.heap.size) (hqb : q ≠ b) (hc : CellsAt W q 0 ys) (hrm : Room W q 12) (hok : cellsB ys = true) (hle : css'.length ≤ n) (hcs : ∀ r' xs, css'[r']? = some xs → (r' = r ∧ xs = ys) ∨ (r' ≠ r ∧ css[r']? = some xs)) :
    Rep (W.setCell ⟨b, r, none⟩ (.slice (some ⟨q, 0, none⟩) 6 6)) base b n (fun z => if z = r then q else g z) css' := by
  have hs : (W.setCell ⟨b, r, none⟩ (.slice (some ⟨q, 0, none⟩) 6 6)).heap.size = W.heap.size := by simp [World.setCell]
  have far : ∀ z, z ≠ b → (W.setCell ⟨b, r, none⟩ (.slice (some ⟨q, 0, none⟩) 6 6)).heap[z]? = W.heap[z]? := fun z hz => Below.heap_setCell _ _ _ _ hz
  refine ⟨h.lo, by rw [hs]; exact h.hi, h.rm.set _, hle, fun r' xs hx => ?_⟩
  rcases hcs r' xs hx with ⟨rfl, rfl⟩ | ⟨hne, hx'⟩
  · obtain ⟨v, hv, _⟩ := h.rm r' hr
    rw [if_pos rfl]
    exact ⟨cell_set_same hv, hq, by rw [hs]; exact hq2, hqb, hc.blk (far q hqb), hrm.of_block (far q hqb), hok⟩
  · obtain ⟨h1, h2, h3, h4, h5, h6, h7⟩ := h.cs r' xs hx'
    rw [if_neg hne]
    exact ⟨(cell_set_other (by omega)).trans h1, h2, by rw [hs]; exact h3, h4, h5.blk (far _ h4), h6.of_block (far _ h4), h7⟩
theorem blk_six {W : World} {q : Nat} {ys : List C2} {T : TypeId} (h : W.heap[q]? = some (.cells (arr6 ys) T (0, 0))) (h6 : ys.length = 6) : q < W.heap.size ∧ CellsAt W q 0 ys ∧ Room W q 12 := by
  have hl : (ys.flatMap C2.cells).length = 12 := by rw [flat2_len, h6]
  have hc : ∀ j, W.cell? ⟨q, j, none⟩ = (ys.flatMap C2.cells)[j]? := fun j => by simp only [World.cell?, h]; simp [arr6]
  refine ⟨(Array.getElem?_eq_some_iff.1 h).1, fun i s hi => ?_, fun j hj => ⟨_, (hc j).trans (List.getElem?_eq_getElem (by omega)), by simp [World.frozen?, h]⟩⟩
  have f := fun t (ht : t < 2) => tx.flat_at (f := C2.cells) (l := ys) (sz := 2) (fun _ _ => rfl) hi ht
  refine ⟨(hc _).trans ?_, (hc _).trans ?_⟩
  · have := f 0 (by omega); rw [Nat.zero_add]; simpa [C2.cells] using this
  · have := f 1 (by omega); rw [Nat.zero_add]; simpa [C2.cells] using this
theorem make_rep (n : Nat) (hn : n ≤ 1048576) (w : World) : (Instr.makeSlice 68 (.int .i64 (n : Int)) (.int .i64 (n : Int))).run Tryz.prog w = .ok (.slice (some ⟨w.heap.size, 0, none⟩) n n) (w.alloc (.cells (madeCells #[.slice none 0 0] n) 42)) := by
  obtain ⟨i, hi, hz, hs, hb⟩ := partsOf infoCellS
  have := run_make (P := Tryz.prog) w 68 42 i _ Tryz.underlying68 hi hz .i64 .i64 (n : Int) (n : Int) (by omega) (by omega) (by rw [hb]; omega) (by omega)
  simpa [hs, Value.cells] using this
set_option maxRecDepth 10000 in
set_option maxHeartbeats 2000000 in
theorem newReplay_any (w : World) (n : Nat) (hn : n ≤ 6) : Calls Tryz.prog 83 #[.int .i64 (n : Int)] w fun e w' => ∃ b g, e = .returned (.slice (some ⟨b, 0, none⟩) n n) ∧ Rep w' w.heap.size b n g (List.replicate n zeros) ∧ Below w.heap.size w w' := by
  have hmk := fun w : World => make_rep n (by omega) w
  obtain ⟨U, hU⟩ : ∃ Y, Y = w.alloc (.cells (madeCells #[.slice none 0 0] n) 42) := ⟨_, rfl⟩
  have K0 : Hid (Rep U w.heap.size w.heap.size n (fun _ => 0) (List.replicate 0 zeros) ∧ Below w.heap.size w U) := by
    unfold Hid
    rw [hU]
    exact ⟨⟨Nat.le_refl _, by simp, room_made w _ n _, Nat.zero_le _, fun r xs hx => by simp at hx⟩, (Below.refl _ _).alloc (Nat.le_refl _) _⟩
  go_enter Tryz.func83, Tryz.ntmps83
  go_wp2
  rw [← hU]
  clear hU hmk
  go_loopw [9] (fun v9 wr => ∃ (i : Nat) (g : Nat → Nat), i ≤ n ∧ v9 = .int .i64 i ∧ Rep wr w.heap.size w.heap.size n g (List.replicate i zeros) ∧ Below w.heap.size w wr) (fun v9 _ => n - (intOf v9).toNat)
  case atStart => exact ⟨0, _, Nat.zero_le _, rfl, K0.out.1, K0.out.2⟩
  case round =>
    obtain ⟨i, g, hi, rfl, hrep, hbl⟩ := hrel
    by_cases hlt : i < n
    · have KR : Hid (Rep wr w.heap.size w.heap.size n g (List.replicate i zeros) ∧ Below w.heap.size w wr) := ⟨hrep, hbl⟩
      have hnc := implNewCells_any wr
      have jn : (i : Int) < (n : Int) := by omega
      clear hrep hbl
      go_wp2_with fail
      refine hnc.mono ?_
      clear hnc
      rintro e W1 ⟨rfl, b1, h1⟩
      have hR := KR.out.1.later b1
      obtain ⟨q1, q2, q3⟩ := blk_six (ys := zeros) h1 rfl
      have hst := hR.store (r := i) (q := wr.heap.size + 1) (ys := zeros) (css' := List.replicate (i + 1) zeros) hlt (by have := KR.out.2.size; omega) q1 (by have := KR.out.1.hi; omega) q2 q3 zeros_ok (by simp; omega) (fun r' xs hx => by
        rw [List.getElem?_replicate] at hx
        split at hx
        · next hr =>
          cases hx
          by_cases e : r' = i
          · exact .inl ⟨e, rfl⟩
          · exact .inr ⟨e, by rw [List.getElem?_replicate, if_pos (by omega)]⟩
        · cases hx)
      have KE : Hid (Rep (W1.setCell ⟨w.heap.size, i, none⟩ (.slice (some ⟨wr.heap.size + 1, 0, none⟩) 6 6)) w.heap.size w.heap.size n (fun z => if z = i then wr.heap.size + 1 else g z) (List.replicate (i + 1) zeros) ∧ Below w.heap.size w (W1.setCell ⟨w.heap.size, i, none⟩ (.slice (some ⟨wr.heap.size + 1, 0, none⟩) 6 6))) := ⟨hst, (bstep KR.out.2 b1).setCell (p := ⟨w.heap.size, i, none⟩) (Nat.le_refl _) _⟩
      obtain ⟨v0, c0, f0⟩ := hR.rm i hlt
      clear hR hst q1 q2 q3 h1 b1
      go_wp2
      exact ⟨⟨i + 1, _, by omega, by simp, KE.out.1, KE.out.2⟩, by simp [intOf]; omega⟩
    · obtain rfl : i = n := by omega
      have hd : decide ((i : Int) < (i : Int)) = false := by simp
      have KR : Hid (Rep wr w.heap.size w.heap.size i g (List.replicate i zeros) ∧ Below w.heap.size w wr) := ⟨hrep, hbl⟩
      clear hrep hbl
      go_wp2
      go_ret
      exact ⟨_, g, rfl, KR.out.1, KR.out.2⟩
set_option maxHeartbeats 400000 in
theorem implPackV_yes (v : Int) (u l : Bool) (w : World) (h1 : 0 ≤ v) (h2 : v ≤ 1000000) :
    Calls Tryz.prog 207 #[.int .i64 v, .bool u, .bool l] w fun e w' => e = .returned (.tuple #[.int .i64 (v * 4 + bump u l), .bool true]) ∧ w' = w := by
  have b1 := or4_2 v h1 h2
  have b2 := or4_1 v h1 h2
  have b3 := or42_1 v h1 h2
  cases u <;> cases l
  all_goals
    go_enter Tryz.func207, Tryz.ntmps207
    go_wp2
    go_ret2
    exact ⟨by simp [bump], rfl⟩
set_option maxHeartbeats 400000 in
theorem implVersionV_yes (h : Int) (w : World) (h1 : 0 ≤ h) (h2 : h ≤ 4000003) :
    Calls Tryz.prog 203 #[.int .i64 h] w fun e w' => e = .returned (.int .i64 (h / 4)) ∧ w' = w := by
  · go_enter Tryz.func203, Tryz.ntmps203
    go_wp2
    go_ret
    exact ⟨rfl, rfl⟩
set_option maxHeartbeats 400000 in
theorem implVersionV_no (h : Int) (w : World) (hh : h < 0 ∨ 4000003 < h) :
    Calls Tryz.prog 203 #[.int .i64 h] w fun e w' => e = .returned (.int .i64 (-1)) ∧ w' = w := by
  rcases hh with hh | hh
  · have d : decide (0 ≤ h) = false := by simp; omega
    go_enter Tryz.func203, Tryz.ntmps203
    go_wp2
    go_ret
    exact ⟨rfl, rfl⟩
  · have d : decide (h ≤ 4000003) = false := by simp; omega
    go_enter Tryz.func203, Tryz.ntmps203
    go_wp2
    go_ret
    exact ⟨rfl, rfl⟩
theorem implVersion_any (h : Int) (w : World) : Calls Tryz.prog 203 #[.int .i64 h] w fun e w' => e = .returned (.int .i64 (verV h)) ∧ w' = w := by
  by_cases hh : 0 ≤ h ∧ h ≤ 4000003
  · rw [verV, if_pos (inB_yes hh.1 hh.2)]; exact implVersionV_yes h w hh.1 hh.2
  · rw [verV, if_neg (by rw [inB_iff]; omega)]; exact implVersionV_no h w (by omega)
theorem implPack_val (w : World) (v : Int) (u : Bool) (h0 : 0 ≤ v) (h1 : v ≤ 1000000) : Calls Tryz.prog 207 #[.int .i64 v, .bool u, .bool false] w fun e w' => e = .returned (.tuple #[.int .i64 (hdV v u), .bool true]) ∧ w' = w := by
  refine (implPackV_yes v u false w h0 h1).mono ?_
  rintro e w' ⟨rfl, rfl⟩
  refine ⟨?_, rfl⟩
  cases u <;> simp [hdV, bump] <;> omega
set_option maxRecDepth 100000 in
set_option maxHeartbeats 8000000 in
theorem noteFrom_any (w : World) (r s h v : Int) : Calls Tryz.prog 172 #[.agg #[.int .i64 r, .int .i64 s], .agg #[.int .i64 h, .int .i64 v]] w fun e w' => e = .returned (.agg #[.int .i64 r, .int .i64 s, .int .i64 (verV h), .int .i64 v, .bool (usedV h)]) ∧ Below w.heap.size w w' := by
  obtain ⟨U0, hU0⟩ : ∃ Y, Y = w.alloc (.cells #[.int .i64 r, .int .i64 s] 169) := ⟨_, rfl⟩
  have bU0 : Below w.heap.size w U0 := by rw [hU0]; exact (Below.refl _ _).alloc (Nat.le_refl _) _
  have xU0 : Bx U0 w.heap.size [.int .i64 r, .int .i64 s] := by rw [hU0]; exact Bx.made w [.int .i64 r, .int .i64 s] _
  have sU0 : U0.heap.size = w.heap.size + 1 := by rw [hU0]; simp
  obtain ⟨U1, hU1⟩ : ∃ Y, Y = U0.alloc (.cells #[.int .i64 h, .int .i64 v] 75) := ⟨_, rfl⟩
  have bU1 : Below U0.heap.size U0 U1 := by rw [hU1]; exact (Below.refl _ _).alloc (Nat.le_refl _) _
  have xU1 : Bx U1 U0.heap.size [.int .i64 h, .int .i64 v] := by rw [hU1]; exact Bx.made U0 [.int .i64 h, .int .i64 v] _
  have sU1 : U1.heap.size = U0.heap.size + 1 := by rw [hU1]; simp
  obtain ⟨U2, hU2⟩ : ∃ Y, Y = U1.alloc (.cells #[.int .i64 0, .int .i64 0, .int .i64 0, .int .i64 0, .bool false] 104) := ⟨_, rfl⟩
  have bU2 : Below U1.heap.size U1 U2 := by rw [hU2]; exact (Below.refl _ _).alloc (Nat.le_refl _) _
  have xU2 : Bx U2 U1.heap.size [.int .i64 0, .int .i64 0, .int .i64 0, .int .i64 0, .bool false] := by rw [hU2]; exact Bx.made U1 [.int .i64 0, .int .i64 0, .int .i64 0, .int .i64 0, .bool false] _
  have sU2 : U2.heap.size = U1.heap.size + 1 := by rw [hU2]; simp
  have hU : U2 = ((w.alloc (.cells #[.int .i64 r, .int .i64 s] 169)).alloc (.cells #[.int .i64 h, .int .i64 v] 75)).alloc (.cells #[.int .i64 0, .int .i64 0, .int .i64 0, .int .i64 0, .bool false] 104) := by rw [hU2, hU1, hU0]
  have z1 : U1.heap.size = w.heap.size + 2 := by rw [sU1, sU0]
  have BU : Hid (Below w.heap.size w U2 ∧ w.heap.size + 2 < U2.heap.size) := ⟨bstep (bstep bU0 bU1) bU2, by rw [sU2, z1]; omega⟩
  have x0 := (xU0.later bU1).later bU2
  have x1 := xU1.later bU2
  rw [sU0] at x1
  rw [z1] at xU2
  have X2 : Hid (Bx U2 (w.heap.size + 2) [.int .i64 0, .int .i64 0, .int .i64 0, .int .i64 0, .bool false]) := xU2
  have hS : (fun X : World => Below U2.heap.size U2 X ∧ X.cell? ⟨w.heap.size, 0, none⟩ = some (.int .i64 r) ∧ X.cell? ⟨w.heap.size, 1, none⟩ = some (.int .i64 s) ∧ X.cell? ⟨w.heap.size + 1, 0, none⟩ = some (.int .i64 h) ∧ X.cell? ⟨w.heap.size + 1, 1, none⟩ = some (.int .i64 v)) U2.drew := ⟨(Below.refl _ _).drew, x0.1 0 _ rfl, x0.1 1 _ rfl, x1.1 0 _ rfl, x1.1 1 _ rfl⟩
  clear hU0 hU1 hU2 bU0 bU1 bU2 xU0 xU1 xU2 sU0 sU1 sU2 z1 x0 x1
  obtain ⟨ver, hver⟩ : ∃ z, verV h = z := ⟨_, rfl⟩
  obtain ⟨us, hus⟩ : ∃ z, usedV h = z := ⟨_, rfl⟩
  have cV := fun X => implVersion_any h X
  have cU := fun X => implUsed_any h X
  simp only [show (inB 0 4000003 h && usedB h) = us from hus, hver] at cU cV
  rw [hver, hus]
  clear hver hus
  clear U0 U1
  go_enter Tryz.func172, Tryz.ntmps172
  go_wp2_with fail
  rw [← hU]
  clear hU
  refine wp_region_z (fun z => z == 13) (fun X : World => Below U2.heap.size U2 X ∧ X.cell? ⟨w.heap.size, 0, none⟩ = some (.int .i64 r) ∧ X.cell? ⟨w.heap.size, 1, none⟩ = some (.int .i64 s) ∧ X.cell? ⟨w.heap.size + 1, 0, none⟩ = some (.int .i64 h) ∧ X.cell? ⟨w.heap.size + 1, 1, none⟩ = some (.int .i64 v)) (by kernel_rfl) ?_
  generalize U2.drew = Wd at *
  refine wpZ_takeP (i := 0) (v := ?_) rfl (by kernel_rfl) (fun _ _ _ h => h) (Or.inl ⟨by rfl, ?_⟩) hS ?_
  rotate_left
  · (intro w _; go_simp; first | done | with_reducible rfl | (rw [if_pos (by omega)]) | (rw [if_pos (by omega)]; go_simp))
  simp only [Act.put]
  refine wpZ_take (i := 1) (v := ?_) rfl (by kernel_rfl) (fun _ _ _ h => h) (Or.inl ⟨by rfl, ?_⟩) hS ?_
  rotate_left
  · (intro w hSw; obtain ⟨-, s0, s1, s2, s3⟩ := hSw; go_simp; first | done | with_reducible rfl)
  simp only [Act.put]
  refine wpZ_takeP (i := 2) (v := ?_) rfl (by kernel_rfl) (fun _ _ _ h => h) (Or.inl ⟨by rfl, ?_⟩) hS ?_
  rotate_left
  · (intro w _; go_simp; first | done | with_reducible rfl | (rw [if_pos (by omega)]) | (rw [if_pos (by omega)]; go_simp))
  simp only [Act.put]
  refine wpZ_take (i := 3) (v := ?_) rfl (by kernel_rfl) (fun _ _ _ h => h) (Or.inl ⟨by rfl, ?_⟩) hS ?_
  rotate_left
  · (intro w hSw; obtain ⟨-, s0, s1, s2, s3⟩ := hSw; go_simp; first | done | with_reducible rfl)
  simp only [Act.put]
  refine wpZ_takeP (i := 4) (v := ?_) rfl (by kernel_rfl) (fun _ _ _ h => h) (Or.inl ⟨by rfl, ?_⟩) hS ?_
  rotate_left
  · (intro w _; go_simp; first | done | with_reducible rfl | (rw [if_pos (by omega)]) | (rw [if_pos (by omega)]; go_simp))
  simp only [Act.put]
  refine wpZ_take (i := 5) (v := ?_) rfl (by kernel_rfl) (fun _ _ _ h => h) (Or.inl ⟨by rfl, ?_⟩) hS ?_
  rotate_left
  · (intro w hSw; obtain ⟨-, s0, s1, s2, s3⟩ := hSw; go_simp; first | done | with_reducible rfl)
  simp only [Act.put]
  refine wpZ_takeP (i := 7) (v := ?_) rfl (by kernel_rfl) (fun _ _ _ h => h) (Or.inl ⟨by rfl, ?_⟩) hS ?_
  rotate_left
  · (intro w _; go_simp; first | done | with_reducible rfl | (rw [if_pos (by omega)]) | (rw [if_pos (by omega)]; go_simp))
  simp only [Act.put]
  refine wpZ_take (i := 8) (v := ?_) rfl (by kernel_rfl) (fun _ _ _ h => h) (Or.inl ⟨by rfl, ?_⟩) hS ?_
  rotate_left
  · (intro w hSw; obtain ⟨-, s0, s1, s2, s3⟩ := hSw; go_simp; first | done | with_reducible rfl)
  simp only [Act.put]
  refine wpZ_takeP (i := 9) (v := ?_) rfl (by kernel_rfl) (fun _ _ _ h => h) (Or.inl ⟨by rfl, ?_⟩) hS ?_
  rotate_left
  · (intro w _; go_simp; first | done | with_reducible rfl | (rw [if_pos (by omega)]) | (rw [if_pos (by omega)]; go_simp))
  simp only [Act.put]
  refine wpZ_take (i := 10) (v := ?_) rfl (by kernel_rfl) (fun _ _ _ h => h) (Or.inl ⟨by rfl, ?_⟩) hS ?_
  rotate_left
  · (intro w hSw; obtain ⟨-, s0, s1, s2, s3⟩ := hSw; go_simp; first | done | with_reducible rfl)
  simp only [Act.put]
  refine wpZ_ready (rs := [6]) (by kernel_rfl) (by simp) ?_
  refine AllZ.cons rfl (fun K hK => ?_) AllZ.nil
  go_simp
  refine (cV _).mono ?_
  rintro e X ⟨rfl, rfl⟩
  refine hK.out _ _ (fun _ => hS) ?_
  clear hK K
  refine wpZ_ready (rs := [11]) (by kernel_rfl) (by simp) ?_
  refine AllZ.cons rfl (fun K hK => ?_) AllZ.nil
  go_simp
  refine (cU _).mono ?_
  rintro e X ⟨rfl, rfl⟩
  refine hK.out _ _ (fun _ => hS) ?_
  clear hK K
  refine wpZ_ready (rs := [12]) (by kernel_rfl) (by simp) ?_
  refine AllZ.cons rfl (fun K hK => ?_) AllZ.nil
  go_simp
  refine hK.out _ _ (fun _ => hS) ?_
  clear hK K
  have XB := X2.out.later hS.1
  have BW : Hid (Below w.heap.size w X) := bstep BU.out.1 hS.1
  have c0 := XB.1 0 _ rfl
  have c1 := XB.1 1 _ rfl
  have c2 := XB.1 2 _ rfl
  have c3 := XB.1 3 _ rfl
  have c4 := XB.1 4 _ rfl
  have f0 := XB.2.1 0
  have f1 := XB.2.1 1
  have f2 := XB.2.1 2
  have f3 := XB.2.1 3
  have f4 := XB.2.1 4
  have XB' := XB.put [.int .i64 r, .int .i64 s, .int .i64 ver, .int .i64 v, .bool us] rfl
  refine wpZ_ready (rs := [13]) (by kernel_rfl) (by simp) ?_
  refine AllZ.cons rfl (fun K hK => ?_) AllZ.nil
  go_simp
  refine hK.out _ _ (fun h => absurd (show false = true from h.symm.trans (by kernel_rfl)) (by decide)) ?_
  clear hK K
  refine wpZ_done (by kernel_rfl) ?_ _
  obtain ⟨Y, hY⟩ : ∃ Y, Y = putB X (w.heap.size + 2) 0 [.int .i64 r, .int .i64 s, .int .i64 ver, .int .i64 v, .bool us] := ⟨_, rfl⟩
  rw [← hY] at XB'
  have BY : Hid (Below w.heap.size w Y) := by unfold Hid; rw [hY]; exact putB_below (by omega) _ _ _ BW.out
  have hYn : Y = ((((X.setCell ⟨w.heap.size + 2, 0, none⟩ (.int .i64 r)).setCell ⟨w.heap.size + 2, 1, none⟩ (.int .i64 s)).setCell ⟨w.heap.size + 2, 2, none⟩ (.int .i64 ver)).setCell ⟨w.heap.size + 2, 3, none⟩ (.int .i64 v)).setCell ⟨w.heap.size + 2, 4, none⟩ (.bool us) := hY
  rw [← hYn]
  have y0 := XB'.1 0 _ rfl
  have y1 := XB'.1 1 _ rfl
  have y2 := XB'.1 2 _ rfl
  have y3 := XB'.1 3 _ rfl
  have y4 := XB'.1 4 _ rfl
  clear hYn hY XB' XB c0 c1 c2 c3 c4 f0 f1 f2 f3 f4 hS X2 BW cU cV
  go_wp2
  exact bodyPost_ret (v := .agg #[.int .i64 r, .int .i64 s, .int .i64 ver, .int .i64 v, .bool us]) (by simp [results, Tryz.results172, go_sem, y0, y1, y2, y3, y4]) rfl ⟨rfl, BY.out⟩
set_option maxRecDepth 100000 in
set_option maxHeartbeats 8000000 in
theorem noteAt_any (w : World) (base b n : Nat) (g : Nat → Nat) (css : List (List C2)) (hR : Rep w base b n g css) (i j : Nat) (hi : i < css.length) (hj : j < 6) : Calls Tryz.prog 134 #[.slice (some ⟨b, 0, none⟩) n n, .agg #[.int .i64 (i : Int), .int .i64 (j : Int)]] w fun e w' => e = .returned (.agg #[.int .i64 (i : Int), .int .i64 (j : Int), .int .i64 (verV (atCC css (i : Int) (j : Int)).head), .int .i64 (atCC css (i : Int) (j : Int)).value, .bool (usedV (atCC css (i : Int) (j : Int)).head)]) ∧ Below w.heap.size w w' := by
  obtain ⟨xs, hxs⟩ : ∃ xs, css[i]? = some xs := ⟨_, List.getElem?_eq_getElem hi⟩
  obtain ⟨h1, -, h3, -, h5, -, h7⟩ := hR.cs i xs hxs
  have hx6 : xs.length = 6 := by simp only [cellsB, Bool.and_eq_true, decide_eq_true_eq] at h7; exact h7.1
  have hcc : atCC css (i : Int) (j : Int) = atC2 xs j := by rw [atCC, Int.toNat_natCast, Int.toNat_natCast, hxs]; rfl
  have hat : xs[j]? = some (atC2 xs j) := by rw [atC2, List.getElem?_eq_getElem (by omega)]; rfl
  have ce := h5 j _ hat
  rw [Nat.zero_add] at ce
  obtain ⟨ce0, ce1⟩ := ce
  rw [hcc]
  obtain ⟨h, hh⟩ : ∃ z, (atC2 xs j).head = z := ⟨_, rfl⟩
  obtain ⟨v, hv⟩ : ∃ z, (atC2 xs j).value = z := ⟨_, rfl⟩
  rw [hh] at ce0
  rw [hv] at ce1
  rw [hh, hv]
  generalize g i = q at *
  have hbw := hR.hi
  have hin : i < n := Nat.lt_of_lt_of_le hi hR.le
  obtain ⟨U0, hU0⟩ : ∃ Y, Y = w.alloc (.cells #[.int .i64 (i : Int), .int .i64 (j : Int)] 169) := ⟨_, rfl⟩
  have bU0 : Below w.heap.size w U0 := by rw [hU0]; exact (Below.refl _ _).alloc (Nat.le_refl _) _
  have xU0 : Bx U0 w.heap.size [.int .i64 (i : Int), .int .i64 (j : Int)] := by rw [hU0]; exact Bx.made w [.int .i64 (i : Int), .int .i64 (j : Int)] _
  have sU0 : U0.heap.size = w.heap.size + 1 := by rw [hU0]; simp
  obtain ⟨U1, hU1⟩ : ∃ Y, Y = U0.alloc (.cells #[.int .i64 0, .int .i64 0, .int .i64 0, .int .i64 0, .bool false] 104) := ⟨_, rfl⟩
  have bU1 : Below U0.heap.size U0 U1 := by rw [hU1]; exact (Below.refl _ _).alloc (Nat.le_refl _) _
  have xU1 : Bx U1 U0.heap.size [.int .i64 0, .int .i64 0, .int .i64 0, .int .i64 0, .bool false] := by rw [hU1]; exact Bx.made U0 [.int .i64 0, .int .i64 0, .int .i64 0, .int .i64 0, .bool false] _
  have sU1 : U1.heap.size = U0.heap.size + 1 := by rw [hU1]; simp
  have hU : U1 = (w.alloc (.cells #[.int .i64 (i : Int), .int .i64 (j : Int)] 169)).alloc (.cells #[.int .i64 0, .int .i64 0, .int .i64 0, .int .i64 0, .bool false] 104) := by rw [hU1, hU0]
  have bU : Below w.heap.size w U1 := bstep bU0 bU1
  have BU : Hid (Below w.heap.size w U1 ∧ w.heap.size + 1 < U1.heap.size) := ⟨bU, by rw [sU1, sU0]; omega⟩
  have x0 := xU0.later bU1
  rw [sU0] at xU1
  have X2 : Hid (Bx U1 (w.heap.size + 1) [.int .i64 0, .int .i64 0, .int .i64 0, .int .i64 0, .bool false]) := xU1
  have hS : (fun Z : World => Below U1.heap.size U1 Z ∧ Z.cell? ⟨w.heap.size, 0, none⟩ = some (.int .i64 (i : Int)) ∧ Z.cell? ⟨w.heap.size, 1, none⟩ = some (.int .i64 (j : Int)) ∧ Z.cell? ⟨b, i, none⟩ = some (.slice (some ⟨q, 0, none⟩) 6 6) ∧ Z.cell? ⟨q, j * 2, none⟩ = some (.int .i64 h) ∧ Z.cell? ⟨q, j * 2 + 1, none⟩ = some (.int .i64 v)) U1.drew := ⟨(Below.refl _ _).drew, x0.1 0 _ rfl, x0.1 1 _ rfl, (bU.cell (p := ⟨b, i, none⟩) hbw).trans h1, (bU.cell (p := ⟨q, j * 2, none⟩) h3).trans ce0, (bU.cell (p := ⟨q, j * 2 + 1, none⟩) h3).trans ce1⟩
  have HL : Hid (b < w.heap.size ∧ q < w.heap.size) := ⟨hbw, h3⟩
  have cN := fun X => noteFrom_any X (i : Int) (j : Int) h v
  have ix : (i : Int) < (n : Int) := by omega
  have jx : (j : Int) < (6 : Int) := by omega
  clear hU0 hU1 bU0 bU1 bU xU0 xU1 sU0 sU1 x0 hR h1 h3 h5 h7 ce0 ce1 hxs hat hcc hh hv hx6 hbw U0
  obtain ⟨ver, hver⟩ : ∃ z, verV h = z := ⟨_, rfl⟩
  obtain ⟨us, hus⟩ : ∃ z, usedV h = z := ⟨_, rfl⟩
  simp only [hver, hus] at cN
  rw [hver, hus]
  clear hver hus
  go_enter Tryz.func134, Tryz.ntmps134
  go_wp2_with fail
  rw [← hU]
  clear hU
  refine wp_region_z (fun z => z == 11) (fun Z : World => Below U1.heap.size U1 Z ∧ Z.cell? ⟨w.heap.size, 0, none⟩ = some (.int .i64 (i : Int)) ∧ Z.cell? ⟨w.heap.size, 1, none⟩ = some (.int .i64 (j : Int)) ∧ Z.cell? ⟨b, i, none⟩ = some (.slice (some ⟨q, 0, none⟩) 6 6) ∧ Z.cell? ⟨q, j * 2, none⟩ = some (.int .i64 h) ∧ Z.cell? ⟨q, j * 2 + 1, none⟩ = some (.int .i64 v)) (by kernel_rfl) ?_
  generalize U1.drew = Wd at *
  refine wpZ_take (i := 0) (v := ?_) rfl (by kernel_rfl) (fun _ _ _ h => h) (Or.inl ⟨by rfl, ?_⟩) hS ?_
  rotate_left
  · (intro w hSw; obtain ⟨-, s0, s1, s2, s3, s4⟩ := hSw; go_simp; first | done | with_reducible rfl)
  simp only [Act.put]
  refine wpZ_takeP (i := 1) (v := ?_) rfl (by kernel_rfl) (fun _ _ _ h => h) (Or.inl ⟨by rfl, ?_⟩) hS ?_
  rotate_left
  · (intro w _; go_simp; first | done | with_reducible rfl | (rw [if_pos (by omega)]) | (rw [if_pos (by omega)]; go_simp))
  simp only [Act.put]
  refine wpZ_takeP (i := 2) (v := ?_) rfl (by kernel_rfl) (fun _ _ _ h => h) (Or.inl ⟨by rfl, ?_⟩) hS ?_
  rotate_left
  · (intro w _; go_simp; first | done | with_reducible rfl | (rw [if_pos (by omega)]) | (rw [if_pos (by omega)]; go_simp))
  simp only [Act.put]
  refine wpZ_take (i := 3) (v := ?_) rfl (by kernel_rfl) (fun _ _ _ h => h) (Or.inl ⟨by rfl, ?_⟩) hS ?_
  rotate_left
  · (intro w hSw; obtain ⟨-, s0, s1, s2, s3, s4⟩ := hSw; go_simp; first | done | with_reducible rfl)
  simp only [Act.put]
  refine wpZ_takeP (i := 4) (v := ?_) rfl (by kernel_rfl) (fun _ _ _ h => h) (Or.inl ⟨by rfl, ?_⟩) hS ?_
  rotate_left
  · (intro w _; go_simp; first | done | with_reducible rfl | (rw [if_pos (by omega)]) | (rw [if_pos (by omega)]; go_simp))
  simp only [Act.put]
  refine wpZ_take (i := 5) (v := ?_) rfl (by kernel_rfl) (fun _ _ _ h => h) (Or.inl ⟨by rfl, ?_⟩) hS ?_
  rotate_left
  · (intro w hSw; obtain ⟨-, s0, s1, s2, s3, s4⟩ := hSw; go_simp; first | done | with_reducible rfl)
  simp only [Act.put]
  refine wpZ_takeP (i := 6) (v := ?_) rfl (by kernel_rfl) (fun _ _ _ h => h) (Or.inl ⟨by rfl, ?_⟩) hS ?_
  rotate_left
  · (intro w _; go_simp; first | done | with_reducible rfl | (rw [if_pos (by omega)]) | (rw [if_pos (by omega)]; go_simp))
  simp only [Act.put]
  refine wpZ_take (i := 7) (v := ?_) rfl (by kernel_rfl) (fun _ _ _ h => h) (Or.inl ⟨by rfl, ?_⟩) hS ?_
  rotate_left
  · (intro w hSw; obtain ⟨-, s0, s1, s2, s3, s4⟩ := hSw; go_simp; first | done | with_reducible rfl)
  simp only [Act.put]
  refine wpZ_takeP (i := 8) (v := ?_) rfl (by kernel_rfl) (fun _ _ _ h => h) (Or.inl ⟨by rfl, ?_⟩) hS ?_
  rotate_left
  · (intro w _; go_simp; first | done | with_reducible rfl | (rw [if_pos (by omega)]) | (rw [if_pos (by omega)]; go_simp))
  simp only [Act.put]
  refine wpZ_take (i := 9) (v := ?_) rfl (by kernel_rfl) (fun _ _ _ h => h) (Or.inl ⟨by rfl, ?_⟩) hS ?_
  rotate_left
  · (intro w hSw; obtain ⟨-, s0, s1, s2, s3, s4⟩ := hSw; go_simp; first | done | with_reducible rfl)
  simp only [Act.put]
  refine wpZ_ready (rs := [10]) (by kernel_rfl) (by simp) ?_
  refine AllZ.cons rfl (fun K hK => ?_) AllZ.nil
  go_simp
  refine (cN _).mono ?_
  rintro e X ⟨rfl, bX⟩
  have h9 := hS.1.size
  have h8 := BU.out.2
  have h7 := HL.out
  have hc : ∀ q j, q < Wd.heap.size → X.cell? ⟨q, j, none⟩ = Wd.cell? ⟨q, j, none⟩ := fun q j hq => bX.cell (p := ⟨q, j, none⟩) hq
  replace hS : (fun Z : World => Below U1.heap.size U1 Z ∧ Z.cell? ⟨w.heap.size, 0, none⟩ = some (.int .i64 (i : Int)) ∧ Z.cell? ⟨w.heap.size, 1, none⟩ = some (.int .i64 (j : Int)) ∧ Z.cell? ⟨b, i, none⟩ = some (.slice (some ⟨q, 0, none⟩) 6 6) ∧ Z.cell? ⟨q, j * 2, none⟩ = some (.int .i64 h) ∧ Z.cell? ⟨q, j * 2 + 1, none⟩ = some (.int .i64 v)) X := ⟨bstep hS.1 bX, (hc _ _ (by omega)).trans hS.2.1, (hc _ _ (by omega)).trans hS.2.2.1, (hc _ _ (by omega)).trans hS.2.2.2.1, (hc _ _ (by omega)).trans hS.2.2.2.2.1, (hc _ _ (by omega)).trans hS.2.2.2.2.2⟩
  clear hc h9 h8 h7 bX
  refine hK.out _ _ (fun _ => hS) ?_
  clear hK K
  have XB := X2.out.later hS.1
  have BW : Hid (Below w.heap.size w X) := bstep BU.out.1 hS.1
  have c0 := XB.1 0 _ rfl
  have c1 := XB.1 1 _ rfl
  have c2 := XB.1 2 _ rfl
  have c3 := XB.1 3 _ rfl
  have c4 := XB.1 4 _ rfl
  have f0 := XB.2.1 0
  have f1 := XB.2.1 1
  have f2 := XB.2.1 2
  have f3 := XB.2.1 3
  have f4 := XB.2.1 4
  have XB' := XB.put [.int .i64 (i : Int), .int .i64 (j : Int), .int .i64 ver, .int .i64 v, .bool us] rfl
  refine wpZ_ready (rs := [11]) (by kernel_rfl) (by simp) ?_
  refine AllZ.cons rfl (fun K hK => ?_) AllZ.nil
  go_simp
  refine hK.out _ _ (fun h => absurd (show false = true from h.symm.trans (by kernel_rfl)) (by decide)) ?_
  clear hK K
  refine wpZ_done (by kernel_rfl) ?_ _
  obtain ⟨Y, hY⟩ : ∃ Y, Y = putB X (w.heap.size + 1) 0 [.int .i64 (i : Int), .int .i64 (j : Int), .int .i64 ver, .int .i64 v, .bool us] := ⟨_, rfl⟩
  rw [← hY] at XB'
  have BY : Hid (Below w.heap.size w Y) := by unfold Hid; rw [hY]; exact putB_below (by omega) _ _ _ BW.out
  have hYn : Y = ((((X.setCell ⟨w.heap.size + 1, 0, none⟩ (.int .i64 (i : Int))).setCell ⟨w.heap.size + 1, 1, none⟩ (.int .i64 (j : Int))).setCell ⟨w.heap.size + 1, 2, none⟩ (.int .i64 ver)).setCell ⟨w.heap.size + 1, 3, none⟩ (.int .i64 v)).setCell ⟨w.heap.size + 1, 4, none⟩ (.bool us) := hY
  rw [← hYn]
  have y0 := XB'.1 0 _ rfl
  have y1 := XB'.1 1 _ rfl
  have y2 := XB'.1 2 _ rfl
  have y3 := XB'.1 3 _ rfl
  have y4 := XB'.1 4 _ rfl
  clear hYn hY XB' XB c0 c1 c2 c3 c4 f0 f1 f2 f3 f4 hS X2 BW cN
  go_wp2
  exact bodyPost_ret (v := .agg #[.int .i64 (i : Int), .int .i64 (j : Int), .int .i64 ver, .int .i64 v, .bool us]) (by simp [results, Tryz.results134, go_sem, y0, y1, y2, y3, y4]) rfl ⟨rfl, BY.out⟩
theorem eqNote_run (a b c d : Int) (e : Bool) (a' b' c' d' : Int) (e' : Bool) (w : World) : (Op.equalIn 10000 104 (.agg #[.int .i64 a, .int .i64 b, .int .i64 c, .int .i64 d, .bool e]) (.agg #[.int .i64 a', .int .i64 b', .int .i64 c', .int .i64 d', .bool e'])).run Tryz.prog w = .ok (a == a' && b == b' && c == c' && d == d' && e == e') w := by
  have hS : Tryz.prog.underlying 104 = some (.struct (Tryz.prog.fieldsOf 104)) := by kernel_rfl
  have hp : Tryz.prog.stoodInHeld 104 = false := by kernel_rfl
  rw [show (10000 : Nat) = 9999 + 1 from rfl, run_equalIn_agg w 9999 104 _ _ hS hp]
  simp only [Program.fieldsOf, Tryz.underlying104]
  go_simp
  by_cases h1 : a = a' <;> by_cases h2 : b = b' <;> by_cases h3 : c = c' <;> by_cases h4 : d = d' <;> cases e <;> cases e' <;> simp [h1, h2, h3, h4]
theorem eqNote_guard : Tryz.prog.eqGuardType Tryz.prog.depth 104 = false := by kernel_rfl
set_option maxRecDepth 100000 in
set_option maxHeartbeats 8000000 in
theorem misread_any (w : World) (base b n rb : Nat) (g : Nat → Nat) (css : List (List C2)) (hR : Rep w base b n g css) (hrb : rb < w.heap.size) (hrc : w.cell? ⟨rb, 0, none⟩ = some (.slice (some ⟨b, 0, none⟩) n n)) (i j : Nat) (ver val : Int) (us : Bool) (hi : i < css.length) (hj : j < 6) : Calls Tryz.prog 133 #[.agg #[.int .i64 (i : Int), .int .i64 (j : Int), .int .i64 ver, .int .i64 val, .bool us], .pointer (some ⟨rb, 0, none⟩)] w fun e w' => e = .returned (.bool (!rdOk css ⟨(i : Int), (j : Int), ver, val, us⟩)) ∧ Below w.heap.size w w' := by
  obtain ⟨ans, hans⟩ : ∃ z, (!rdOk css ⟨(i : Int), (j : Int), ver, val, us⟩) = z := ⟨_, rfl⟩
  rw [hans]
  have HA := hidOf hans
  clear hans
  obtain ⟨U0, hU0⟩ : ∃ Y, Y = w.alloc (.cells #[.int .i64 (i : Int), .int .i64 (j : Int), .int .i64 ver, .int .i64 val, .bool us] 104) := ⟨_, rfl⟩
  have bU0 : Below w.heap.size w U0 := by rw [hU0]; exact (Below.refl _ _).alloc (Nat.le_refl _) _
  have xU0 : Bx U0 w.heap.size [.int .i64 (i : Int), .int .i64 (j : Int), .int .i64 ver, .int .i64 val, .bool us] := by rw [hU0]; exact Bx.made w [.int .i64 (i : Int), .int .i64 (j : Int), .int .i64 ver, .int .i64 val, .bool us] _
  have sU0 : U0.heap.size = w.heap.size + 1 := by rw [hU0]; simp
  have HR : Hid (Rep U0 base b n g css) := hR.later bU0
  have BU : Hid (Below w.heap.size w U0) := bU0
  have HL : Hid (w.heap.size < U0.heap.size ∧ rb < U0.heap.size) := ⟨by omega, by omega⟩
  have hS : (fun Z : World => Below U0.heap.size U0 Z ∧ Z.cell? ⟨w.heap.size, 0, none⟩ = some (.int .i64 (i : Int)) ∧ Z.cell? ⟨w.heap.size, 1, none⟩ = some (.int .i64 (j : Int)) ∧ Z.cell? ⟨w.heap.size, 2, none⟩ = some (.int .i64 ver) ∧ Z.cell? ⟨w.heap.size, 3, none⟩ = some (.int .i64 val) ∧ Z.cell? ⟨w.heap.size, 4, none⟩ = some (.bool us) ∧ Z.cell? ⟨rb, 0, none⟩ = some (.slice (some ⟨b, 0, none⟩) n n)) U0.drew := ⟨(Below.refl _ _).drew, xU0.1 0 _ rfl, xU0.1 1 _ rfl, xU0.1 2 _ rfl, xU0.1 3 _ rfl, xU0.1 4 _ rfl, (bU0.cell (p := ⟨rb, 0, none⟩) hrb).trans hrc⟩
  have hEq := eqNote_run
  have hGd := eqNote_guard
  clear xU0 bU0 sU0 hR hrc hrb
  go_enter Tryz.func133, Tryz.ntmps133
  go_wp2_with fail
  rw [← hU0]
  clear hU0
  refine wp_region_z (fun _ => false) (fun Z : World => Below U0.heap.size U0 Z ∧ Z.cell? ⟨w.heap.size, 0, none⟩ = some (.int .i64 (i : Int)) ∧ Z.cell? ⟨w.heap.size, 1, none⟩ = some (.int .i64 (j : Int)) ∧ Z.cell? ⟨w.heap.size, 2, none⟩ = some (.int .i64 ver) ∧ Z.cell? ⟨w.heap.size, 3, none⟩ = some (.int .i64 val) ∧ Z.cell? ⟨w.heap.size, 4, none⟩ = some (.bool us) ∧ Z.cell? ⟨rb, 0, none⟩ = some (.slice (some ⟨b, 0, none⟩) n n)) (by kernel_rfl) ?_
  generalize U0.drew = Wd at *
  refine wpZ_take (i := 0) (v := ?_) rfl (by kernel_rfl) (fun _ _ _ h => h) (Or.inl ⟨by rfl, ?_⟩) hS ?_
  rotate_left
  · (intro w hSw; obtain ⟨-, s0, s1, s2, s3, s4, s5⟩ := hSw; go_simp; first | done | with_reducible rfl)
  simp only [Act.put]
  refine wpZ_take (i := 1) (v := ?_) rfl (by kernel_rfl) (fun _ _ _ h => h) (Or.inl ⟨by rfl, ?_⟩) hS ?_
  rotate_left
  · (intro w hSw; obtain ⟨-, s0, s1, s2, s3, s4, s5⟩ := hSw; go_simp; first | done | with_reducible rfl)
  simp only [Act.put]
  refine wpZ_take (i := 2) (v := ?_) rfl (by kernel_rfl) (fun _ _ _ h => h) (Or.inl ⟨by rfl, ?_⟩) hS ?_
  rotate_left
  · (intro w hSw; obtain ⟨-, s0, s1, s2, s3, s4, s5⟩ := hSw; go_simp; first | done | with_reducible rfl)
  simp only [Act.put]
  refine wpZ_ready (rs := [3]) (by kernel_rfl) (by simp) ?_
  refine AllZ.cons rfl (fun K hK => ?_) AllZ.nil
  go_simp
  refine (tx.noCell_any Wd ⟨(i : Int), (j : Int), ver, val, us⟩).mono ?_
  rintro e X ⟨rfl, bX⟩
  have h9 := hS.1.size
  have h8 := HL.out
  have hc : ∀ q j, q < Wd.heap.size → X.cell? ⟨q, j, none⟩ = Wd.cell? ⟨q, j, none⟩ := fun q j hq => bX.cell (p := ⟨q, j, none⟩) hq
  replace hS : (fun Z : World => Below U0.heap.size U0 Z ∧ Z.cell? ⟨w.heap.size, 0, none⟩ = some (.int .i64 (i : Int)) ∧ Z.cell? ⟨w.heap.size, 1, none⟩ = some (.int .i64 (j : Int)) ∧ Z.cell? ⟨w.heap.size, 2, none⟩ = some (.int .i64 ver) ∧ Z.cell? ⟨w.heap.size, 3, none⟩ = some (.int .i64 val) ∧ Z.cell? ⟨w.heap.size, 4, none⟩ = some (.bool us) ∧ Z.cell? ⟨rb, 0, none⟩ = some (.slice (some ⟨b, 0, none⟩) n n)) X := ⟨bstep hS.1 bX, (hc _ _ (by omega)).trans hS.2.1, (hc _ _ (by omega)).trans hS.2.2.1, (hc _ _ (by omega)).trans hS.2.2.2.1, (hc _ _ (by omega)).trans hS.2.2.2.2.1, (hc _ _ (by omega)).trans hS.2.2.2.2.2.1, (hc _ _ (by omega)).trans hS.2.2.2.2.2.2⟩
  clear hc h9 h8 bX
  clear Wd
  generalize X = Wd at *
  refine hK.out _ _ (fun _ => hS) ?_
  clear hK K
  refine wpZ_ready (rs := [4]) (by kernel_rfl) (by simp) ?_
  refine AllZ.cons rfl (fun K hK => ?_) AllZ.nil
  go_simp
  refine (noteAt_any Wd base b n g css (HR.out.later hS.1) i j hi hj).mono ?_
  rintro e X ⟨rfl, bX⟩
  have h9 := hS.1.size
  have h8 := HL.out
  have hc : ∀ q j, q < Wd.heap.size → X.cell? ⟨q, j, none⟩ = Wd.cell? ⟨q, j, none⟩ := fun q j hq => bX.cell (p := ⟨q, j, none⟩) hq
  replace hS : (fun Z : World => Below U0.heap.size U0 Z ∧ Z.cell? ⟨w.heap.size, 0, none⟩ = some (.int .i64 (i : Int)) ∧ Z.cell? ⟨w.heap.size, 1, none⟩ = some (.int .i64 (j : Int)) ∧ Z.cell? ⟨w.heap.size, 2, none⟩ = some (.int .i64 ver) ∧ Z.cell? ⟨w.heap.size, 3, none⟩ = some (.int .i64 val) ∧ Z.cell? ⟨w.heap.size, 4, none⟩ = some (.bool us) ∧ Z.cell? ⟨rb, 0, none⟩ = some (.slice (some ⟨b, 0, none⟩) n n)) X := ⟨bstep hS.1 bX, (hc _ _ (by omega)).trans hS.2.1, (hc _ _ (by omega)).trans hS.2.2.1, (hc _ _ (by omega)).trans hS.2.2.2.1, (hc _ _ (by omega)).trans hS.2.2.2.2.1, (hc _ _ (by omega)).trans hS.2.2.2.2.2.1, (hc _ _ (by omega)).trans hS.2.2.2.2.2.2⟩
  clear hc h9 h8 bX
  clear Wd
  generalize X = Wd at *
  refine hK.out _ _ (fun _ => hS) ?_
  clear hK K
  refine wpZ_ready (rs := [5]) (by kernel_rfl) (by simp) ?_
  refine AllZ.cons rfl (fun K hK => ?_) AllZ.nil
  go_simp
  refine hK.out _ _ (fun _ => hS) ?_
  clear hK K
  refine wpZ_ready (rs := [6]) (by kernel_rfl) (by simp) ?_
  refine AllZ.cons rfl (fun K hK => ?_) AllZ.nil
  go_simp
  refine hK.out _ _ (fun _ => hS) ?_
  clear hK K
  refine wpZ_done (by kernel_rfl) ?_ _
  have BW : Hid (Below w.heap.size w Wd) := bstep BU.out hS.1
  have HV : Hid (ans = (!(ver == verV (atCC css (i : Int) (j : Int)).head) || !(val == (atCC css (i : Int) (j : Int)).value) || !(us == usedV (atCC css (i : Int) (j : Int)).head))) := by unfold Hid; rw [← HA.out]; rw [BEq.comm (a := ver), BEq.comm (a := val), BEq.comm (a := us)]; simp only [rdOk, Bool.not_and]
  clear hS HR
  go_wp2
  go_ret
  exact ⟨by rw [HV.out]; rfl, BW.out⟩
set_option maxRecDepth 100000 in
set_option maxHeartbeats 8000000 in
theorem misset_any (w : World) (base b n rb : Nat) (g : Nat → Nat) (css : List (List C2)) (hR : Rep w base b n g css) (hrb : rb < w.heap.size) (hrc : w.cell? ⟨rb, 0, none⟩ = some (.slice (some ⟨b, 0, none⟩) n n)) (i j : Nat) (ver val : Int) (us : Bool) (hi : i < css.length) (hj : j < 6) : Calls Tryz.prog 136 #[.agg #[.int .i64 (i : Int), .int .i64 (j : Int), .int .i64 val, .bool us, .int .i64 ver], .pointer (some ⟨rb, 0, none⟩)] w fun e w' => e = .returned (.bool (!stOk css ⟨(i : Int), (j : Int), val, us, ver⟩)) ∧ Below w.heap.size w w' := by
  obtain ⟨ans, hans⟩ : ∃ z, (!stOk css ⟨(i : Int), (j : Int), val, us, ver⟩) = z := ⟨_, rfl⟩
  rw [hans]
  have HA := hidOf hans
  clear hans
  obtain ⟨U0, hU0⟩ : ∃ Y, Y = w.alloc (.cells #[.int .i64 (i : Int), .int .i64 (j : Int), .int .i64 val, .bool us, .int .i64 ver] 106) := ⟨_, rfl⟩
  have bU0 : Below w.heap.size w U0 := by rw [hU0]; exact (Below.refl _ _).alloc (Nat.le_refl _) _
  have xU0 : Bx U0 w.heap.size [.int .i64 (i : Int), .int .i64 (j : Int), .int .i64 val, .bool us, .int .i64 ver] := by rw [hU0]; exact Bx.made w [.int .i64 (i : Int), .int .i64 (j : Int), .int .i64 val, .bool us, .int .i64 ver] _
  have sU0 : U0.heap.size = w.heap.size + 1 := by rw [hU0]; simp
  have HR : Hid (Rep U0 base b n g css) := hR.later bU0
  have BU : Hid (Below w.heap.size w U0) := bU0
  have HL : Hid (w.heap.size < U0.heap.size ∧ rb < U0.heap.size) := ⟨by omega, by omega⟩
  have hS : (fun Z : World => Below U0.heap.size U0 Z ∧ Z.cell? ⟨w.heap.size, 0, none⟩ = some (.int .i64 (i : Int)) ∧ Z.cell? ⟨w.heap.size, 1, none⟩ = some (.int .i64 (j : Int)) ∧ Z.cell? ⟨w.heap.size, 2, none⟩ = some (.int .i64 val) ∧ Z.cell? ⟨w.heap.size, 3, none⟩ = some (.bool us) ∧ Z.cell? ⟨w.heap.size, 4, none⟩ = some (.int .i64 ver) ∧ Z.cell? ⟨rb, 0, none⟩ = some (.slice (some ⟨b, 0, none⟩) n n)) U0.drew := ⟨(Below.refl _ _).drew, xU0.1 0 _ rfl, xU0.1 1 _ rfl, xU0.1 2 _ rfl, xU0.1 3 _ rfl, xU0.1 4 _ rfl, (bU0.cell (p := ⟨rb, 0, none⟩) hrb).trans hrc⟩
  have hfd : ∀ (x0 x1 x2 x3 : Int) (x4 : Bool) (X : World), (Instr.field 104 (.agg #[.int .i64 x0, .int .i64 x1, .int .i64 x2, .int .i64 x3, .bool x4]) 2).run Tryz.prog X = .ok (.int .i64 x2) X := fun _ _ _ _ _ _ => by kernel_rfl
  clear xU0 bU0 sU0 hR hrc hrb
  go_enter Tryz.func136, Tryz.ntmps136
  go_wp2_with fail
  rw [← hU0]
  clear hU0
  refine wp_region_z (fun _ => false) (fun Z : World => Below U0.heap.size U0 Z ∧ Z.cell? ⟨w.heap.size, 0, none⟩ = some (.int .i64 (i : Int)) ∧ Z.cell? ⟨w.heap.size, 1, none⟩ = some (.int .i64 (j : Int)) ∧ Z.cell? ⟨w.heap.size, 2, none⟩ = some (.int .i64 val) ∧ Z.cell? ⟨w.heap.size, 3, none⟩ = some (.bool us) ∧ Z.cell? ⟨w.heap.size, 4, none⟩ = some (.int .i64 ver) ∧ Z.cell? ⟨rb, 0, none⟩ = some (.slice (some ⟨b, 0, none⟩) n n)) (by kernel_rfl) ?_
  generalize U0.drew = Wd at *
  refine wpZ_takeP (i := 0) (v := ?_) rfl (by kernel_rfl) (fun _ _ _ h => h) (Or.inl ⟨by rfl, ?_⟩) hS ?_
  rotate_left
  · (intro w _; go_simp; first | done | with_reducible rfl | (rw [if_pos (by omega)]) | (rw [if_pos (by omega)]; go_simp))
  simp only [Act.put]
  refine wpZ_take (i := 1) (v := ?_) rfl (by kernel_rfl) (fun _ _ _ h => h) (Or.inl ⟨by rfl, ?_⟩) hS ?_
  rotate_left
  · (intro w hSw; obtain ⟨-, s0, s1, s2, s3, s4, s5⟩ := hSw; go_simp; first | done | with_reducible rfl)
  simp only [Act.put]
  refine wpZ_take (i := 2) (v := ?_) rfl (by kernel_rfl) (fun _ _ _ h => h) (Or.inl ⟨by rfl, ?_⟩) hS ?_
  rotate_left
  · (intro w hSw; obtain ⟨-, s0, s1, s2, s3, s4, s5⟩ := hSw; go_simp; first | done | with_reducible rfl)
  simp only [Act.put]
  refine wpZ_take (i := 3) (v := ?_) rfl (by kernel_rfl) (fun _ _ _ h => h) (Or.inl ⟨by rfl, ?_⟩) hS ?_
  rotate_left
  · (intro w hSw; obtain ⟨-, s0, s1, s2, s3, s4, s5⟩ := hSw; go_simp; first | done | with_reducible rfl)
  simp only [Act.put]
  refine wpZ_ready (rs := [4]) (by kernel_rfl) (by simp) ?_
  refine AllZ.cons rfl (fun K hK => ?_) AllZ.nil
  go_simp
  refine (tx.seCell_any Wd ⟨(i : Int), (j : Int), val, us, ver⟩).mono ?_
  rintro e X ⟨rfl, bX⟩
  have h9 := hS.1.size
  have h8 := HL.out
  have hc : ∀ q j, q < Wd.heap.size → X.cell? ⟨q, j, none⟩ = Wd.cell? ⟨q, j, none⟩ := fun q j hq => bX.cell (p := ⟨q, j, none⟩) hq
  replace hS : (fun Z : World => Below U0.heap.size U0 Z ∧ Z.cell? ⟨w.heap.size, 0, none⟩ = some (.int .i64 (i : Int)) ∧ Z.cell? ⟨w.heap.size, 1, none⟩ = some (.int .i64 (j : Int)) ∧ Z.cell? ⟨w.heap.size, 2, none⟩ = some (.int .i64 val) ∧ Z.cell? ⟨w.heap.size, 3, none⟩ = some (.bool us) ∧ Z.cell? ⟨w.heap.size, 4, none⟩ = some (.int .i64 ver) ∧ Z.cell? ⟨rb, 0, none⟩ = some (.slice (some ⟨b, 0, none⟩) n n)) X := ⟨bstep hS.1 bX, (hc _ _ (by omega)).trans hS.2.1, (hc _ _ (by omega)).trans hS.2.2.1, (hc _ _ (by omega)).trans hS.2.2.2.1, (hc _ _ (by omega)).trans hS.2.2.2.2.1, (hc _ _ (by omega)).trans hS.2.2.2.2.2.1, (hc _ _ (by omega)).trans hS.2.2.2.2.2.2⟩
  clear hc h9 h8 bX
  clear Wd
  generalize X = Wd at *
  refine hK.out _ _ (fun _ => hS) ?_
  clear hK K
  refine wpZ_ready (rs := [5]) (by kernel_rfl) (by simp) ?_
  refine AllZ.cons rfl (fun K hK => ?_) AllZ.nil
  go_simp
  refine (noteAt_any Wd base b n g css (HR.out.later hS.1) i j hi hj).mono ?_
  rintro e X ⟨rfl, bX⟩
  have h9 := hS.1.size
  have h8 := HL.out
  have hc : ∀ q j, q < Wd.heap.size → X.cell? ⟨q, j, none⟩ = Wd.cell? ⟨q, j, none⟩ := fun q j hq => bX.cell (p := ⟨q, j, none⟩) hq
  replace hS : (fun Z : World => Below U0.heap.size U0 Z ∧ Z.cell? ⟨w.heap.size, 0, none⟩ = some (.int .i64 (i : Int)) ∧ Z.cell? ⟨w.heap.size, 1, none⟩ = some (.int .i64 (j : Int)) ∧ Z.cell? ⟨w.heap.size, 2, none⟩ = some (.int .i64 val) ∧ Z.cell? ⟨w.heap.size, 3, none⟩ = some (.bool us) ∧ Z.cell? ⟨w.heap.size, 4, none⟩ = some (.int .i64 ver) ∧ Z.cell? ⟨rb, 0, none⟩ = some (.slice (some ⟨b, 0, none⟩) n n)) X := ⟨bstep hS.1 bX, (hc _ _ (by omega)).trans hS.2.1, (hc _ _ (by omega)).trans hS.2.2.1, (hc _ _ (by omega)).trans hS.2.2.2.1, (hc _ _ (by omega)).trans hS.2.2.2.2.1, (hc _ _ (by omega)).trans hS.2.2.2.2.2.1, (hc _ _ (by omega)).trans hS.2.2.2.2.2.2⟩
  clear hc h9 h8 bX
  clear Wd
  generalize X = Wd at *
  refine hK.out _ _ (fun _ => hS) ?_
  clear hK K
  refine wpZ_ready (rs := [6]) (by kernel_rfl) (by simp) ?_
  refine AllZ.cons rfl (fun K hK => ?_) AllZ.nil
  go_simp
  refine hK.out _ _ (fun _ => hS) ?_
  clear hK K
  refine wpZ_ready (rs := [7]) (by kernel_rfl) (by simp) ?_
  refine AllZ.cons rfl (fun K hK => ?_) AllZ.nil
  go_simp
  refine hK.out _ _ (fun _ => hS) ?_
  clear hK K
  refine wpZ_ready (rs := [8]) (by kernel_rfl) (by simp) ?_
  refine AllZ.cons rfl (fun K hK => ?_) AllZ.nil
  go_simp
  refine hK.out _ _ (fun _ => hS) ?_
  clear hK K
  refine wpZ_done (by kernel_rfl) ?_ _
  have BW : Hid (Below w.heap.size w Wd) := bstep BU.out hS.1
  have HV : Hid (ans = (ver != verV (atCC css (i : Int) (j : Int)).head)) := by unfold Hid; rw [← HA.out]; rw [bne, BEq.comm (a := ver)]; rfl
  clear hS HR
  go_wp2
  go_ret
  exact ⟨by rw [HV.out]; rfl, BW.out⟩
set_option maxHeartbeats 2000000 in
theorem idxNo (w : World) (a : Option Addr) (cap rb : Nat) (xs : List tx.N5) (f : Nat → Bool) (hn : xs.length ≤ maxLen) (hs : tx.SlNo w w.heap.size a xs.length xs) (hf : ∀ (X : World) (i : Nat), Below w.heap.size w X → i < xs.length → Calls Tryz.prog 133 #[.agg #[.int .i64 (tx.atNo xs i).region, .int .i64 (tx.atNo xs i).slot, .int .i64 (tx.atNo xs i).version, .int .i64 (tx.atNo xs i).value, .bool (tx.atNo xs i).used], .pointer (some ⟨rb, 0, none⟩)] X fun e w' => e = .returned (.bool (f i)) ∧ Below X.heap.size X w') :
    Calls Tryz.prog 173 #[.slice a xs.length cap, .func (.func 133) #[] #[.pointer (some ⟨rb, 0, none⟩)]] w fun e w' => (∃ i : Int, e = .returned (.int .i64 i) ∧ FirstAt f xs.length i) ∧ Below w.heap.size w w' := by
  unfold maxLen at hn
  obtain ⟨-, hs⟩ := hs
  have HF := hidOf hf
  clear hf
  obtain ⟨n, hnn⟩ : ∃ n, n = xs.length := ⟨_, rfl⟩
  rw [← hnn] at hn hs ⊢
  have HN := hidOf hnn
  clear hnn
  go_enter Tryz.func173, Tryz.ntmps173
  go_wp2
  go_loopw [8] (fun v wr => ∃ j : Nat, j ≤ n ∧ v = .int .i64 j ∧ Below w.heap.size w wr ∧ ∀ i, i < j → f i = false) (fun v _ => n - (intOf v).toNat)
  case atStart => exact ⟨0, Nat.zero_le _, rfl, Below.refl _ _, fun i h => absurd h (by omega)⟩
  case round =>
    obtain ⟨j, hj, rfl, hbl, hall⟩ := hrel
    by_cases hlt : j < n
    · rcases hs with hs | ⟨b, off, rfl, hb, h1⟩
      · omega
      · have hjx : j < xs.length := by rw [← HN.out]; exact hlt
        obtain ⟨c0, c1, c2, c3, c4⟩ := (h1 j _ (tx.atNo_of hjx)).below hbl hb
        have KA : Hid ((∀ i, i < j → f i = false) ∧ Below w.heap.size w wr) := ⟨hall, hbl⟩
        have hw := HF.out wr j hbl hjx
        have jn : (j : Int) < (n : Int) := by omega
        clear h1 hall hbl
        cases hp : f j with
        | true =>
          rw [hp] at hw
          have HP := hidOf hp
          clear hp
          go_wp2_with fail
          refine hw.mono ?_
          clear hw
          rintro e w1 ⟨rfl, b1⟩
          go_wp2
          go_ret
          exact ⟨⟨_, rfl, .inr ⟨j, rfl, hlt, HP.out, KA.out.1⟩⟩, KA.out.2.trans (b1.mono KA.out.2.size)⟩
        | false =>
          rw [hp] at hw
          have HP := hidOf hp
          clear hp
          go_wp2_with fail
          refine hw.mono ?_
          clear hw
          rintro e w1 ⟨rfl, b1⟩
          go_wp2
          exact ⟨⟨j + 1, by omega, by simp, KA.out.2.trans (b1.mono KA.out.2.size), fun i hi => by
            by_cases e : i = j
            · rw [e]; exact HP.out
            · exact KA.out.1 i (by omega)⟩, by simp [intOf]; omega⟩
    · have : j = n := by omega
      subst this
      have hd : decide ((j : Int) < (j : Int)) = false := by simp
      have KA : Hid (∀ i, i < j → f i = false) := hall
      clear hs hall
      go_wp2
      go_ret
      exact ⟨⟨_, rfl, .inl ⟨rfl, KA.out⟩⟩, hbl⟩
theorem idxNoHas (w : World) (a : Option Addr) (cap rb : Nat) (xs : List tx.N5) (p : tx.N5 → Bool) (hn : xs.length ≤ maxLen) (hs : tx.SlNo w w.heap.size a xs.length xs) (hf : ∀ (X : World) (i : Nat), Below w.heap.size w X → i < xs.length → Calls Tryz.prog 133 #[.agg #[.int .i64 (tx.atNo xs i).region, .int .i64 (tx.atNo xs i).slot, .int .i64 (tx.atNo xs i).version, .int .i64 (tx.atNo xs i).value, .bool (tx.atNo xs i).used], .pointer (some ⟨rb, 0, none⟩)] X fun e w' => e = .returned (.bool (!p (tx.atNo xs i))) ∧ Below X.heap.size X w') :
    Calls Tryz.prog 138 #[.slice a xs.length cap, .func (.func 133) #[] #[.pointer (some ⟨rb, 0, none⟩)]] w fun e w' => e = .returned (.bool (!xs.all p)) ∧ Below w.heap.size w w' := by
  have hi := idxNo w a cap rb xs (fun i => !p (tx.atNo xs i)) hn hs hf
  have hV : (!((List.range xs.length).all fun j => !(fun i => !p (tx.atNo xs i)) j)) = !xs.all p := by
    congr 1
    rw [Bool.eq_iff_iff, List.all_eq_true, List.all_eq_true]
    constructor
    · intro h x hx
      obtain ⟨i, hi, rfl⟩ := List.getElem_of_mem hx
      have := h i (List.mem_range.2 hi)
      have e : tx.atNo xs i = xs[i] := by have := tx.atNo_of hi; rw [List.getElem?_eq_getElem hi] at this; exact (Option.some.inj this).symm
      simpa [e] using this
    · intro h i hi
      have hi' := List.mem_range.1 hi
      simpa using h _ (List.mem_of_getElem? (tx.atNo_of hi'))
  obtain ⟨V, hVV⟩ : ∃ V, (!xs.all p) = V := ⟨_, rfl⟩
  rw [hVV]
  rw [hVV] at hV
  clear hs hf hVV
  go_enter Tryz.func138, Tryz.ntmps138
  go_wp2_with fail
  refine hi.mono ?_
  clear hi
  rintro e w1 ⟨⟨i, rfl, hb0⟩, b1⟩
  have hb := first_has hb0
  rw [hV] at hb
  clear hb0 hV
  go_wp2
  go_ret
  exact ⟨rfl, b1⟩
set_option maxHeartbeats 2000000 in
theorem idxSe (w : World) (a : Option Addr) (cap rb : Nat) (xs : List S5) (f : Nat → Bool) (hn : xs.length ≤ maxLen) (hs : tx.Sl w w.heap.size a xs.length xs) (hf : ∀ (X : World) (i : Nat), Below w.heap.size w X → i < xs.length → Calls Tryz.prog 136 #[.agg #[.int .i64 (tx.atSe xs i).region, .int .i64 (tx.atSe xs i).slot, .int .i64 (tx.atSe xs i).value, .bool (tx.atSe xs i).used, .int .i64 (tx.atSe xs i).version], .pointer (some ⟨rb, 0, none⟩)] X fun e w' => e = .returned (.bool (f i)) ∧ Below X.heap.size X w') :
    Calls Tryz.prog 174 #[.slice a xs.length cap, .func (.func 136) #[] #[.pointer (some ⟨rb, 0, none⟩)]] w fun e w' => (∃ i : Int, e = .returned (.int .i64 i) ∧ FirstAt f xs.length i) ∧ Below w.heap.size w w' := by
  unfold maxLen at hn
  obtain ⟨-, hs⟩ := hs
  have HF := hidOf hf
  clear hf
  obtain ⟨n, hnn⟩ : ∃ n, n = xs.length := ⟨_, rfl⟩
  rw [← hnn] at hn hs ⊢
  have HN := hidOf hnn
  clear hnn
  go_enter Tryz.func174, Tryz.ntmps174
  go_wp2
  go_loopw [8] (fun v wr => ∃ j : Nat, j ≤ n ∧ v = .int .i64 j ∧ Below w.heap.size w wr ∧ ∀ i, i < j → f i = false) (fun v _ => n - (intOf v).toNat)
  case atStart => exact ⟨0, Nat.zero_le _, rfl, Below.refl _ _, fun i h => absurd h (by omega)⟩
  case round =>
    obtain ⟨j, hj, rfl, hbl, hall⟩ := hrel
    by_cases hlt : j < n
    · rcases hs with hs | ⟨b, off, rfl, hb, h1⟩
      · omega
      · have hjx : j < xs.length := by rw [← HN.out]; exact hlt
        obtain ⟨c0, c1, c2, c3, c4⟩ := (h1 j _ (tx.atSe_of hjx)).below hbl hb
        have KA : Hid ((∀ i, i < j → f i = false) ∧ Below w.heap.size w wr) := ⟨hall, hbl⟩
        have hw := HF.out wr j hbl hjx
        have jn : (j : Int) < (n : Int) := by omega
        clear h1 hall hbl
        cases hp : f j with
        | true =>
          rw [hp] at hw
          have HP := hidOf hp
          clear hp
          go_wp2_with fail
          refine hw.mono ?_
          clear hw
          rintro e w1 ⟨rfl, b1⟩
          go_wp2
          go_ret
          exact ⟨⟨_, rfl, .inr ⟨j, rfl, hlt, HP.out, KA.out.1⟩⟩, KA.out.2.trans (b1.mono KA.out.2.size)⟩
        | false =>
          rw [hp] at hw
          have HP := hidOf hp
          clear hp
          go_wp2_with fail
          refine hw.mono ?_
          clear hw
          rintro e w1 ⟨rfl, b1⟩
          go_wp2
          exact ⟨⟨j + 1, by omega, by simp, KA.out.2.trans (b1.mono KA.out.2.size), fun i hi => by
            by_cases e : i = j
            · rw [e]; exact HP.out
            · exact KA.out.1 i (by omega)⟩, by simp [intOf]; omega⟩
    · have : j = n := by omega
      subst this
      have hd : decide ((j : Int) < (j : Int)) = false := by simp
      have KA : Hid (∀ i, i < j → f i = false) := hall
      clear hs hall
      go_wp2
      go_ret
      exact ⟨⟨_, rfl, .inl ⟨rfl, KA.out⟩⟩, hbl⟩
theorem idxSeHas (w : World) (a : Option Addr) (cap rb : Nat) (xs : List S5) (p : S5 → Bool) (hn : xs.length ≤ maxLen) (hs : tx.Sl w w.heap.size a xs.length xs) (hf : ∀ (X : World) (i : Nat), Below w.heap.size w X → i < xs.length → Calls Tryz.prog 136 #[.agg #[.int .i64 (tx.atSe xs i).region, .int .i64 (tx.atSe xs i).slot, .int .i64 (tx.atSe xs i).value, .bool (tx.atSe xs i).used, .int .i64 (tx.atSe xs i).version], .pointer (some ⟨rb, 0, none⟩)] X fun e w' => e = .returned (.bool (!p (tx.atSe xs i))) ∧ Below X.heap.size X w') :
    Calls Tryz.prog 139 #[.slice a xs.length cap, .func (.func 136) #[] #[.pointer (some ⟨rb, 0, none⟩)]] w fun e w' => e = .returned (.bool (!xs.all p)) ∧ Below w.heap.size w w' := by
  have hi := idxSe w a cap rb xs (fun i => !p (tx.atSe xs i)) hn hs hf
  have hV : (!((List.range xs.length).all fun j => !(fun i => !p (tx.atSe xs i)) j)) = !xs.all p := by
    congr 1
    rw [Bool.eq_iff_iff, List.all_eq_true, List.all_eq_true]
    constructor
    · intro h x hx
      obtain ⟨i, hi, rfl⟩ := List.getElem_of_mem hx
      have := h i (List.mem_range.2 hi)
      have e : tx.atSe xs i = xs[i] := by have := tx.atSe_of hi; rw [List.getElem?_eq_getElem hi] at this; exact (Option.some.inj this).symm
      simpa [e] using this
    · intro h i hi
      have hi' := List.mem_range.1 hi
      simpa using h _ (List.mem_of_getElem? (tx.atSe_of hi'))
  obtain ⟨V, hVV⟩ : ∃ V, (!xs.all p) = V := ⟨_, rfl⟩
  rw [hVV]
  rw [hVV] at hV
  clear hs hf hVV
  go_enter Tryz.func139, Tryz.ntmps139
  go_wp2_with fail
  refine hi.mono ?_
  clear hi
  rintro e w1 ⟨⟨i, rfl, hb0⟩, b1⟩
  have hb := first_has hb0
  rw [hV] at hb
  clear hb0 hV
  go_wp2
  go_ret
  exact ⟨rfl, b1⟩
def NamB (t : tx.T7) (n : Nat) : Prop := (∀ m ∈ t.reads, 0 ≤ m.region ∧ m.region < (n : Int) ∧ 0 ≤ m.slot ∧ m.slot < 6) ∧ ∀ m ∈ t.sets, 0 ≤ m.region ∧ m.region < (n : Int) ∧ 0 ≤ m.slot ∧ m.slot < 6
set_option maxRecDepth 100000 in
set_option maxHeartbeats 4000000 in
theorem fits_any (w : World) (base b n : Nat) (g : Nat → Nat) (css : List (List C2)) (hR : Rep w base b n g css) (v : tx.TV) (t : tx.T7) (hl : tx.TL t) (hs : tx.SlT w v t) (hN : NamB t css.length) :
    Calls Tryz.prog 84 #[.slice (some ⟨b, 0, none⟩) n n, .agg #[.int .i64 (t).id, .int .i64 (t).home, .int .i64 (t).phase, .int .i64 (t).count, .slice (v).ar (t).reads.length (v).cr, .slice (v).ah (t).sets.length (v).ch, .int .i64 (t).stamp]] w fun e w' => e = .returned (.bool (t.reads.all (rdOk css) && t.sets.all (stOk css))) ∧ Below w.heap.size w w' := by
  obtain ⟨U0, hU0⟩ : ∃ Y, Y = w.alloc (.cells #[.slice (some ⟨b, 0, none⟩) n n] 68) := ⟨_, rfl⟩
  have bU0 : Below w.heap.size w U0 := by rw [hU0]; exact (Below.refl _ _).alloc (Nat.le_refl _) _
  have xU0 : Bx U0 w.heap.size [.slice (some ⟨b, 0, none⟩) n n] := by rw [hU0]; exact Bx.made w [.slice (some ⟨b, 0, none⟩) n n] _
  have sU0 : U0.heap.size = w.heap.size + 1 := by rw [hU0]; simp
  obtain ⟨U1, hU1⟩ : ∃ Y, Y = U0.alloc (.cells #[.int .i64 (t).id, .int .i64 (t).home, .int .i64 (t).phase, .int .i64 (t).count, .slice (v).ar (t).reads.length (v).cr, .slice (v).ah (t).sets.length (v).ch, .int .i64 (t).stamp] 55) := ⟨_, rfl⟩
  have bU1 : Below U0.heap.size U0 U1 := by rw [hU1]; exact (Below.refl _ _).alloc (Nat.le_refl _) _
  have xU1 : Bx U1 U0.heap.size [.int .i64 (t).id, .int .i64 (t).home, .int .i64 (t).phase, .int .i64 (t).count, .slice (v).ar (t).reads.length (v).cr, .slice (v).ah (t).sets.length (v).ch, .int .i64 (t).stamp] := by rw [hU1]; exact Bx.made U0 [.int .i64 (t).id, .int .i64 (t).home, .int .i64 (t).phase, .int .i64 (t).count, .slice (v).ar (t).reads.length (v).cr, .slice (v).ah (t).sets.length (v).ch, .int .i64 (t).stamp] _
  have sU1 : U1.heap.size = U0.heap.size + 1 := by rw [hU1]; simp
  have hU : U1 = (w.alloc (.cells #[.slice (some ⟨b, 0, none⟩) n n] 68)).alloc (.cells #[.int .i64 (t).id, .int .i64 (t).home, .int .i64 (t).phase, .int .i64 (t).count, .slice (v).ar (t).reads.length (v).cr, .slice (v).ah (t).sets.length (v).ch, .int .i64 (t).stamp] 55) := by rw [hU1, hU0]
  have bU : Below w.heap.size w U1 := bstep bU0 bU1
  have x0 := xU0.later bU1
  rw [sU0] at xU1
  have HR : Hid (Rep U1 base b n g css ∧ tx.TL t ∧ tx.SlT U1 v t ∧ NamB t css.length ∧ Below w.heap.size w U1) := ⟨hR.later bU, hl, hs.later bU, hN, bU⟩
  have XT : Hid (Bx U1 (w.heap.size + 1) [.int .i64 (t).id, .int .i64 (t).home, .int .i64 (t).phase, .int .i64 (t).count, .slice (v).ar (t).reads.length (v).cr, .slice (v).ah (t).sets.length (v).ch, .int .i64 (t).stamp]) := xU1
  have XR : Hid (U1.cell? ⟨w.heap.size, 0, none⟩ = some (.slice (some ⟨b, 0, none⟩) n n) ∧ w.heap.size < U1.heap.size) := ⟨x0.1 0 _ rfl, x0.2.2⟩
  have cR := idxNoHas U1 v.ar v.cr w.heap.size t.reads (rdOk css) hl.r HR.out.2.2.1.r (fun X i hX hi => by
    have hm := hN.1 _ (List.mem_of_getElem? (tx.atNo_of hi))
    have := misread_any X base b n w.heap.size g css (HR.out.1.later hX) (Nat.lt_of_lt_of_le XR.out.2 hX.size) ((hX.cell (p := ⟨w.heap.size, 0, none⟩) XR.out.2).trans XR.out.1) (tx.atNo t.reads i).region.toNat (tx.atNo t.reads i).slot.toNat (tx.atNo t.reads i).version (tx.atNo t.reads i).value (tx.atNo t.reads i).used (by omega) (by omega)
    rw [Int.toNat_of_nonneg hm.1, Int.toNat_of_nonneg hm.2.2.1] at this
    exact this)
  have cS : ∀ W, Below U1.heap.size U1 W → Calls Tryz.prog 139 #[.slice v.ah t.sets.length v.ch, .func (.func 136) #[] #[.pointer (some ⟨w.heap.size, 0, none⟩)]] W fun e w' => e = .returned (.bool (!t.sets.all (stOk css))) ∧ Below W.heap.size W w' := fun W hW => idxSeHas W v.ah v.ch w.heap.size t.sets (stOk css) hl.s (HR.out.2.2.1.later hW).s (fun X i hX hi => by
    have hm := hN.2 _ (List.mem_of_getElem? (tx.atSe_of hi))
    have hX' := bstep hW hX
    have := misset_any X base b n w.heap.size g css (HR.out.1.later hX') (Nat.lt_of_lt_of_le XR.out.2 hX'.size) ((hX'.cell (p := ⟨w.heap.size, 0, none⟩) XR.out.2).trans XR.out.1) (tx.atSe t.sets i).region.toNat (tx.atSe t.sets i).slot.toNat (tx.atSe t.sets i).version (tx.atSe t.sets i).value (tx.atSe t.sets i).used (by omega) (by omega)
    rw [Int.toNat_of_nonneg hm.1, Int.toNat_of_nonneg hm.2.2.1] at this
    exact this)
  have CS := hidOf cS
  have p4 := xU1.1 4 _ rfl
  have q5 : Hid (U1.cell? ⟨w.heap.size + 1, 5, none⟩ = some (.slice v.ah t.sets.length v.ch)) := xU1.1 5 _ rfl
  rw [hU] at p4
  clear hU0 hU1 bU0 bU1 bU xU0 xU1 sU0 sU1 x0 hR hl hs hN cS
  obtain ⟨rB, hrB⟩ : ∃ z, t.reads.all (rdOk css) = z := ⟨_, rfl⟩
  obtain ⟨sB, hsB⟩ : ∃ z, t.sets.all (stOk css) = z := ⟨_, rfl⟩
  rw [hrB] at cR
  rw [hsB] at CS
  rw [hrB, hsB]
  clear hrB hsB
  clear U0
  go_enter Tryz.func84, Tryz.ntmps84
  go_wp2_with fail
  rw [← hU]
  clear hU p4
  refine cR.mono ?_
  clear cR
  rintro e W1 ⟨rfl, b1⟩
  have B1 : Hid (Below U1.heap.size U1 W1) := b1
  have cS := CS.out W1 b1
  have p5 := (b1.cell (p := ⟨w.heap.size + 1, 5, none⟩) XT.out.2.2).trans q5.out
  clear b1
  cases rB with
  | false =>
    go_wp2
    go_ret
    exact ⟨rfl, bstep HR.out.2.2.2.2 B1.out⟩
  | true =>
    go_wp2_with fail
    refine cS.mono ?_
    clear cS
    rintro e W2 ⟨rfl, b2⟩
    have B2 : Hid (Below w.heap.size w W2) := bstep HR.out.2.2.2.2 (bstep B1.out b2)
    clear b2
    cases sB
    all_goals
      go_wp2
      go_ret
      exact ⟨rfl, B2.out⟩
theorem run_clear_els {P : Program} (w : World) (t e ty : TypeId) (z : Value) (ht : P.underlying t = some (.slice e)) (hv : ∀ w, (zeroValue e).run P w = .ok z w) (h0 : 0 < z.cells.size) (h1 : ∀ u ∈ z.cells, u.oneCell' = true) (b o n c : Nat) (hn : 0 < n)
    (hc : ∀ j, j < n * z.cells.size → (w.cell? ⟨b, o + j, none⟩).isSome = true) (hf : ∀ j, j < n * z.cells.size → w.frozen? ⟨b, o + j, none⟩ = false) :
    (Builtin.clear_ #[t] ty #[.slice (some ⟨b, o, none⟩) n c]).run P w = .ok (.tuple #[]) (w.setCells b o (Builtin.zeroCells z.cells n).toList) := by
  have hl : (Builtin.zeroCells z.cells n).toList.length = n * z.cells.size := by simp [Builtin.zeroCells]
  have hst := run_storeCells_cells (P := P) b o (Builtin.zeroCells z.cells n).toList 0 w (by rw [hl]; simpa using hc) (by rw [hl]; simpa using hf) (by
    intro v hv'
    simp only [Builtin.zeroCells, Array.toList_map, List.mem_map] at hv'
    obtain ⟨i, _, rfl⟩ := hv'
    have hi : i % z.cells.size < z.cells.size := Nat.mod_lt _ h0
    rw [getElem!_pos z.cells _ hi]
    exact h1 _ (Array.getElem_mem hi))
  simp only [Nat.add_zero] at hst
  obtain ⟨m, rfl⟩ : ∃ m, n = m + 1 := ⟨n - 1, by omega⟩
  simp [Builtin.clear_, run_underlying ht, hv, hst]
theorem zeroCel : ∀ w : World, (zeroValue 75).run Tryz.prog w = .ok (.agg #[.int .i64 0, .int .i64 0]) w := fun _ => by kernel_rfl
theorem zero_two : (Builtin.zeroCells (Value.cells (.agg #[.int .i64 0, .int .i64 0])) 1).toList = [.int .i64 0, .int .i64 0] := by kernel_rfl
theorem slice_six (s n : Nat) (hn : n < 6) (W : World) : (Instr.sliceAt 214 (.pointer (some ⟨s, 0, none⟩)) (some (.int .i64 (n : Int))) (some (.int .i64 ((n : Int) + 1))) none).run Tryz.prog W = .ok (.slice (some ⟨s, n * 2, none⟩) 1 (6 - n)) W := by
  rcases n with _ | _ | _ | _ | _ | _ | n
  all_goals first | omega | kernel_rfl
theorem flat_w0 {cur : List C2} (h6 : cur.length = 6) {n : Nat} (hn : n < 6) (h : Int) : (((cur.flatMap C2.cells).set (n * 2) (.int .i64 0)).set (n * 2 + 1) (.int .i64 0)).set (n * 2) (.int .i64 h) = (cur.set n ⟨h, 0⟩).flatMap C2.cells := by
  obtain ⟨a, b, c, d, e, f, rfl⟩ := six_of h6
  rcases n with _ | _ | _ | _ | _ | _ | n
  all_goals first | rfl | omega
theorem flat_w1 {cur : List C2} (h6 : cur.length = 6) {n : Nat} (hn : n < 6) (h v : Int) : ((((cur.flatMap C2.cells).set (n * 2) (.int .i64 0)).set (n * 2 + 1) (.int .i64 0)).set (n * 2) (.int .i64 h)).set (n * 2 + 1) (.int .i64 v) = (cur.set n ⟨h, v⟩).flatMap C2.cells := by
  obtain ⟨a, b, c, d, e, f, rfl⟩ := six_of h6
  rcases n with _ | _ | _ | _ | _ | _ | n
  all_goals first | rfl | omega
theorem ins_six {xs : List C2} (ss : List S5) (h : xs.length = 6) : (ss.foldl insC xs).length = 6 := by
  induction ss generalizing xs with
  | nil => exact h
  | cons s ss ih => exact ih (by rw [insC_len]; exact h)
set_option maxRecDepth 100000 in
set_option maxHeartbeats 8000000 in
theorem installed_any (w : World) (xs : List C2) (b : Option Addr) (m cap2 : Nat) (ss : List S5) (hx6 : xs.length = 6) (hm : m ≤ maxLen) (h2 : Sl w w.heap.size b m ss) (hss : ∀ s ∈ ss, setOkB s = true) :
    Calls Tryz.prog 177 #[.agg (arr6 xs), .slice b m cap2] w fun e w' => e = .returned (.agg (arr6 (ss.foldl insC xs))) ∧ Below w.heap.size w w' := by
  unfold maxLen at hm
  obtain ⟨u0, u1, u2, u3, u4, u5, hu⟩ := six_of hx6
  have hA : arr6 xs = #[.int .i64 u0.head, .int .i64 u0.value, .int .i64 u1.head, .int .i64 u1.value, .int .i64 u2.head, .int .i64 u2.value, .int .i64 u3.head, .int .i64 u3.value, .int .i64 u4.head, .int .i64 u4.value, .int .i64 u5.head, .int .i64 u5.value] := by rw [hu]; rfl
  have hL : xs.flatMap C2.cells = [.int .i64 u0.head, .int .i64 u0.value, .int .i64 u1.head, .int .i64 u1.value, .int .i64 u2.head, .int .i64 u2.value, .int .i64 u3.head, .int .i64 u3.value, .int .i64 u4.head, .int .i64 u4.value, .int .i64 u5.head, .int .i64 u5.value] := by rw [hu]; rfl
  rw [hA]
  obtain ⟨U, hU⟩ : ∃ Y, Y = (w.alloc (.cells #[.int .i64 u0.head, .int .i64 u0.value, .int .i64 u1.head, .int .i64 u1.value, .int .i64 u2.head, .int .i64 u2.value, .int .i64 u3.head, .int .i64 u3.value, .int .i64 u4.head, .int .i64 u4.value, .int .i64 u5.head, .int .i64 u5.value] 214)).alloc (.cells #[.int .i64 0, .int .i64 0, .int .i64 0, .int .i64 0, .int .i64 0, .int .i64 0, .int .i64 0, .int .i64 0, .int .i64 0, .int .i64 0, .int .i64 0, .int .i64 0] 214) := ⟨_, rfl⟩
  obtain ⟨U0, hU0⟩ : ∃ Y, Y = w.alloc (.cells #[.int .i64 u0.head, .int .i64 u0.value, .int .i64 u1.head, .int .i64 u1.value, .int .i64 u2.head, .int .i64 u2.value, .int .i64 u3.head, .int .i64 u3.value, .int .i64 u4.head, .int .i64 u4.value, .int .i64 u5.head, .int .i64 u5.value] 214) := ⟨_, rfl⟩
  have b0 : Below w.heap.size w U0 := by rw [hU0]; exact (Below.refl _ _).alloc (Nat.le_refl _) _
  have z0 : U0.heap.size = w.heap.size + 1 := by rw [hU0]; simp
  have x0 : Bx U0 w.heap.size (xs.flatMap C2.cells) := by rw [hU0, hL]; exact Bx.made w [.int .i64 u0.head, .int .i64 u0.value, .int .i64 u1.head, .int .i64 u1.value, .int .i64 u2.head, .int .i64 u2.value, .int .i64 u3.head, .int .i64 u3.value, .int .i64 u4.head, .int .i64 u4.value, .int .i64 u5.head, .int .i64 u5.value] _
  have hU1 : U = U0.alloc (.cells #[.int .i64 0, .int .i64 0, .int .i64 0, .int .i64 0, .int .i64 0, .int .i64 0, .int .i64 0, .int .i64 0, .int .i64 0, .int .i64 0, .int .i64 0, .int .i64 0] 214) := by rw [hU, hU0]
  have b1 : Below U0.heap.size U0 U := by rw [hU1]; exact (Below.refl _ _).alloc (Nat.le_refl _) _
  have x1 : Bx U (w.heap.size + 1) [.int .i64 0, .int .i64 0, .int .i64 0, .int .i64 0, .int .i64 0, .int .i64 0, .int .i64 0, .int .i64 0, .int .i64 0, .int .i64 0, .int .i64 0, .int .i64 0] := by
    have := Bx.made U0 [.int .i64 0, .int .i64 0, .int .i64 0, .int .i64 0, .int .i64 0, .int .i64 0, .int .i64 0, .int .i64 0, .int .i64 0, .int .i64 0, .int .i64 0, .int .i64 0] 214
    rw [z0] at this
    rw [hU1]; exact this
  have KU : Hid (Bx U w.heap.size (xs.flatMap C2.cells) ∧ Bx U (w.heap.size + 1) [.int .i64 0, .int .i64 0, .int .i64 0, .int .i64 0, .int .i64 0, .int .i64 0, .int .i64 0, .int .i64 0, .int .i64 0, .int .i64 0, .int .i64 0, .int .i64 0] ∧ Below w.heap.size w U) := ⟨x0.later b1, x1, bstep b0 b1⟩
  have HS : Hid (∀ s ∈ ss, setOkB s = true) := hss
  have H6 : Hid (xs.length = 6) := hx6
  obtain ⟨hml, h2⟩ := h2
  have HML := hidOf hml
  clear hu hA hL b0 z0 x0 hU1 b1 x1 hU0 hss hx6 hml
  go_enter Tryz.func177, Tryz.ntmps177
  go_wp2
  rw [← hU]
  clear hU
  go_loopw [10] (fun v wr => ∃ j : Nat, j ≤ m ∧ v = .int .i64 j ∧ Bx wr w.heap.size (((ss.take j).foldl insC xs).flatMap C2.cells) ∧ Bx wr (w.heap.size + 1) [.int .i64 0, .int .i64 0, .int .i64 0, .int .i64 0, .int .i64 0, .int .i64 0, .int .i64 0, .int .i64 0, .int .i64 0, .int .i64 0, .int .i64 0, .int .i64 0] ∧ Below w.heap.size w wr) (fun v _ => m - (intOf v).toNat)
  case atStart => exact ⟨0, Nat.zero_le _, rfl, KU.out⟩
  case round =>
    obtain ⟨j, hj, rfl, hx, hz, hbl⟩ := hrel
    have KD : Hid (Bx wr w.heap.size (((ss.take j).foldl insC xs).flatMap C2.cells) ∧ Bx wr (w.heap.size + 1) [.int .i64 0, .int .i64 0, .int .i64 0, .int .i64 0, .int .i64 0, .int .i64 0, .int .i64 0, .int .i64 0, .int .i64 0, .int .i64 0, .int .i64 0, .int .i64 0] ∧ Below w.heap.size w wr) := ⟨hx, hz, hbl⟩
    clear hx hz hbl
    by_cases hlt : j < m
    · rcases h2 with h2 | ⟨nb, no, rfl, hnb, hns⟩
      · omega
      have hjl : j < ss.length := by rw [HML.out]; exact hlt
      have hnt := (hns j _ (at5_of hjl)).below KD.out.2.2 hnb
      have hok := HS.out _ (List.mem_of_getElem? (at5_of hjl))
      have htk : ((ss.take (j + 1)).foldl insC xs) = insC ((ss.take j).foldl insC xs) (at5 ss j) := by rw [List.take_add_one, at5_of hjl, List.foldl_append]; rfl
      have h6 := ins_six (ss.take j) H6.out
      obtain ⟨st, hste⟩ : ∃ st, at5 ss j = st := ⟨_, rfl⟩
      obtain ⟨cur, hcur⟩ : ∃ c, ((ss.take j).foldl insC xs) = c := ⟨_, rfl⟩
      rw [hste] at hnt hok htk
      rw [hcur] at htk h6 KD
      simp only [setOkB, Bool.and_eq_true, inB_iff] at hok
      obtain ⟨sn, hsn⟩ := Int.eq_ofNat_of_zero_le hok.1.1.2.1
      have sn6 : sn < 6 := by omega
      have d0 := hnt.c0
      have d1 := hnt.c1
      have d2 := hnt.c2
      have d3 := hnt.c3
      have d4 := hnt.c4
      rw [hsn] at d1
      obtain ⟨X1, hX1⟩ : ∃ Y, Y = wr.alloc (.cells #[.int .i64 st.region, .int .i64 (sn : Int), .int .i64 st.value, .bool st.used, .int .i64 st.version] 106) := ⟨_, rfl⟩
      have bX1 : Below wr.heap.size wr X1 := by rw [hX1]; exact (Below.refl _ _).alloc (Nat.le_refl _) _
      have XS : Hid (Bx X1 wr.heap.size [.int .i64 st.region, .int .i64 (sn : Int), .int .i64 st.value, .bool st.used, .int .i64 st.version]) := by unfold Hid; rw [hX1]; exact Bx.made wr [.int .i64 st.region, .int .i64 (sn : Int), .int .i64 st.value, .bool st.used, .int .i64 st.version] _
      have XC : Hid (Bx X1 w.heap.size (cur.flatMap C2.cells) ∧ Bx X1 (w.heap.size + 1) [.int .i64 0, .int .i64 0, .int .i64 0, .int .i64 0, .int .i64 0, .int .i64 0, .int .i64 0, .int .i64 0, .int .i64 0, .int .i64 0, .int .i64 0, .int .i64 0] ∧ Below w.heap.size w X1 ∧ cur.length = 6 ∧ wr.heap.size ≠ w.heap.size ∧ wr.heap.size ≠ w.heap.size + 1) := ⟨KD.out.1.later bX1, KD.out.2.1.later bX1, bstep KD.out.2.2 bX1, h6, by have := KD.out.1.2.2; omega, by have := KD.out.2.1.2.2; omega⟩
      have HTK : Hid (((ss.take (j + 1)).foldl insC xs) = insC cur st) := htk
      have HSN : Hid (st.slot = (sn : Int) ∧ 0 ≤ st.version ∧ st.version ≤ 999999) := ⟨hsn, hok.2.1, hok.2.2⟩
      have jm : (j : Int) < (m : Int) := by omega
      have s1 : (sn : Int) + 1 ≤ 6 := by omega
      have hwq : IntKind.i64.wrap ((sn : Int) + 1) = (sn : Int) + 1 := by rw [IntKind.wrap_i64]; omega
      clear hnt hok htk h6 hste hcur bX1 hsn
      go_upto_region 4 with fail
      rw [← hX1]
      clear hX1 d0 d1 d2 d3 d4
      generalize wr.heap.size = sS at *
      have q1 := XS.out.1 1 _ rfl
      have hsl := slice_six w.heap.size sn sn6
      go_upto_region 5 with fail
      clear hsl q1
      have hcx := XC.out.1.1 (sn * 2) (.int .i64 (atC2 cur sn).head) (by have := flat2 cur sn _ 0 (atC2_of (by rw [XC.out.2.2.2.1]; exact sn6)) (by omega); rw [Nat.add_zero] at this; rw [this]; rfl)
      have n0 : ∀ dd os, (grow (redrawn X1 dd) os).cell? ⟨w.heap.size, sn * 2, none⟩ = some (.int .i64 (atC2 cur sn).head) := fun dd os => ((below_regrown X1 dd os).cell (p := ⟨w.heap.size, sn * 2, none⟩) XC.out.1.2.2).trans hcx
      have n4 : ∀ dd os, (grow (redrawn X1 dd) os).cell? ⟨sS, 4, none⟩ = some (.int .i64 st.version) := fun dd os => (XS.out.later (below_regrown X1 dd os)).1 4 _ rfl
      have cQ1 : ∀ dd os, Calls Tryz.prog 203 #[.int .i64 (atC2 cur sn).head] (grow (redrawn X1 dd) os) fun e w'' => e = .returned (.int .i64 (verV (atC2 cur sn).head)) ∧ ∃ p : Regrown, w'' = grow (redrawn X1 p.d) p.os := fun dd os => (implVersion_any (atC2 cur sn).head (grow (redrawn X1 dd) os)).mono fun e w'' h => ⟨h.1, ⟨⟨dd, os⟩, h.2⟩⟩
      have HIN : Hid (insC cur st = if st.version < verV (atC2 cur sn).head then cur else cur.set sn ⟨hdV (st.version + 1) st.used, if st.used = true then st.value else 0⟩) := by unfold Hid insC; rw [HSN.out.1]; rfl
      clear hcx
      generalize verV (atC2 cur sn).head = vv at *
      generalize (atC2 cur sn).head = hd0 at *
      cases hv : decide (st.version < vv) with
      | true =>
        have hv' : st.version < vv := by simpa using hv
        have HI : Hid (insC cur st = cur) := by unfold Hid; rw [HIN.out, if_pos hv']
        clear hv HIN
        go_wp2_with fail
        refine wp_region_quiet_below (by kernel_rfl) (by kernel_rfl) ?_
        repeat (go_big_quiet_step (exact cQ1 _ _))
        refine wpQuiet_nil ?_
        intro _ hw'
        obtain ⟨⟨dq, osq⟩, hw''⟩ := hw'
        subst hw''
        have BN : Hid (Below X1.heap.size X1 (grow (redrawn X1 dq) osq)) := below_regrown X1 dq osq
        clear n0 n4 cQ1
        generalize grow (redrawn X1 dq) osq = WN at *
        have XN : Hid (Bx WN w.heap.size (((ss.take (j + 1)).foldl insC xs).flatMap C2.cells) ∧ Bx WN (w.heap.size + 1) [.int .i64 0, .int .i64 0, .int .i64 0, .int .i64 0, .int .i64 0, .int .i64 0, .int .i64 0, .int .i64 0, .int .i64 0, .int .i64 0, .int .i64 0, .int .i64 0] ∧ Below w.heap.size w WN) := by
          unfold Hid
          rw [HTK.out, HI.out]
          exact ⟨XC.out.1.later BN.out, XC.out.2.1.later BN.out, bstep XC.out.2.2.1 BN.out⟩
        go_wp2
        exact ⟨⟨j + 1, by omega, by simp, XN.out⟩, by simp [intOf]; omega⟩
      | false =>
        have hv' : ¬ st.version < vv := by simpa using hv
        have HI : Hid (insC cur st = cur.set sn ⟨hdV (st.version + 1) st.used, if st.used = true then st.value else 0⟩) := by unfold Hid; rw [HIN.out, if_neg hv']
        clear HIN
        go_wp2_with fail
        refine wp_region_quiet_below (by kernel_rfl) (by kernel_rfl) ?_
        repeat (go_big_quiet_step (exact cQ1 _ _))
        refine wpQuiet_nil ?_
        intro _ hw'
        obtain ⟨⟨dq, osq⟩, hw''⟩ := hw'
        subst hw''
        have BN : Hid (Below X1.heap.size X1 (grow (redrawn X1 dq) osq)) := below_regrown X1 dq osq
        clear n0 n4 cQ1
        generalize grow (redrawn X1 dq) osq = WN at *
        have XW : Bx WN w.heap.size (cur.flatMap C2.cells) := XC.out.1.later BN.out
        have hfl : (cur.flatMap C2.cells).length = 12 := by rw [flat2_len, XC.out.2.2.2.1]
        have hcl := fun ty => run_clear_els (P := Tryz.prog) WN 42 75 ty _ Tryz.underlying42 zeroCel (by decide) (by decide) w.heap.size (sn * 2) 1 (6 - sn) (by omega) (fun i hi => by
          have hi' : i < 2 := by simpa [Value.cells] using hi
          have := XW.1 (sn * 2 + i) _ (List.getElem?_eq_getElem (by rw [hfl]; omega))
          rw [this]; rfl) (fun i _ => XW.2.1 _)
        have hz2 := zero_two
        simp only [hz2] at hcl
        obtain ⟨W3, hW3⟩ : ∃ Y, Y = WN.setCells w.heap.size (sn * 2) [.int .i64 0, .int .i64 0] := ⟨_, rfl⟩
        have e3 : W3 = (WN.setCell ⟨w.heap.size, sn * 2, none⟩ (.int .i64 0)).setCell ⟨w.heap.size, sn * 2 + 1, none⟩ (.int .i64 0) := by rw [hW3]; rfl
        rw [← hW3] at hcl
        have XA : Hid (Bx W3 w.heap.size (((cur.flatMap C2.cells).set (sn * 2) (.int .i64 0)).set (sn * 2 + 1) (.int .i64 0))) := by
          unfold Hid
          rw [e3]
          exact (XW.set (by rw [hfl]; omega) _).set (by rw [List.length_set, hfl]; omega) _
        have X3 : Hid (Bx W3 sS [.int .i64 st.region, .int .i64 (sn : Int), .int .i64 st.value, .bool st.used, .int .i64 st.version] ∧ Bx W3 (w.heap.size + 1) [.int .i64 0, .int .i64 0, .int .i64 0, .int .i64 0, .int .i64 0, .int .i64 0, .int .i64 0, .int .i64 0, .int .i64 0, .int .i64 0, .int .i64 0, .int .i64 0] ∧ Below w.heap.size w W3) := by
          unfold Hid
          rw [e3]
          exact ⟨((XS.out.later BN.out).far XC.out.2.2.2.2.1 _).far XC.out.2.2.2.2.1 _, ((XC.out.2.1.later BN.out).far (by omega) _).far (by omega) _, ((bstep XC.out.2.2.1 BN.out).setCell (p := ⟨w.heap.size, sn * 2, none⟩) (Nat.le_refl _) _).setCell (p := ⟨w.heap.size, sn * 2 + 1, none⟩) (Nat.le_refl _) _⟩
        have HFL := hidOf hfl
        clear XW hfl hz2 hW3 e3
        have q3 := X3.out.1.1 3 _ rfl
        have q4 := X3.out.1.1 4 _ rfl
        have hpk := implPack_val W3 (st.version + 1) st.used (by have := HSN.out.2.1; omega) (by have := HSN.out.2.2; omega)
        have hvb := HSN.out.2
        go_wp2_with fail
        refine hpk.mono ?_
        clear hpk hcl
        rintro e W4 ⟨rfl, rfl⟩
        have y0 := XA.out.1 (sn * 2) _ (List.getElem?_eq_getElem (by rw [List.length_set, List.length_set, HFL.out]; omega))
        have f0 := XA.out.2.1 (sn * 2)
        obtain ⟨W5, hW5⟩ : ∃ Y, Y = W4.setCell ⟨w.heap.size, sn * 2, none⟩ (.int .i64 (hdV (st.version + 1) st.used)) := ⟨_, rfl⟩
        have XA5 : Hid (Bx W5 w.heap.size ((((cur.flatMap C2.cells).set (sn * 2) (.int .i64 0)).set (sn * 2 + 1) (.int .i64 0)).set (sn * 2) (.int .i64 (hdV (st.version + 1) st.used)))) := by
          unfold Hid
          rw [hW5]
          exact XA.out.set (by rw [List.length_set, List.length_set, HFL.out]; omega) _
        have X5 : Hid (Bx W5 sS [.int .i64 st.region, .int .i64 (sn : Int), .int .i64 st.value, .bool st.used, .int .i64 st.version] ∧ Bx W5 (w.heap.size + 1) [.int .i64 0, .int .i64 0, .int .i64 0, .int .i64 0, .int .i64 0, .int .i64 0, .int .i64 0, .int .i64 0, .int .i64 0, .int .i64 0, .int .i64 0, .int .i64 0] ∧ Below w.heap.size w W5) := by
          unfold Hid
          rw [hW5]
          exact ⟨X3.out.1.far XC.out.2.2.2.2.1 _, X3.out.2.1.far (by omega) _, X3.out.2.2.setCell (p := ⟨w.heap.size, sn * 2, none⟩) (Nat.le_refl _) _⟩
        generalize hdV (st.version + 1) st.used = hn at *
        go_upto_region 8 with fail
        rw [← hW5]
        clear hW5 y0 f0 q3 q4 hvb
        have r2 := X5.out.1.1 2 _ rfl
        have r3 := X5.out.1.1 3 _ rfl
        cases hus : st.used with
        | false =>
          rw [hus] at r3
          have XN : Hid (Bx W5 w.heap.size (((ss.take (j + 1)).foldl insC xs).flatMap C2.cells) ∧ Bx W5 (w.heap.size + 1) [.int .i64 0, .int .i64 0, .int .i64 0, .int .i64 0, .int .i64 0, .int .i64 0, .int .i64 0, .int .i64 0, .int .i64 0, .int .i64 0, .int .i64 0, .int .i64 0] ∧ Below w.heap.size w W5) := by
            have h1 := XA5.out
            rw [flat_w0 XC.out.2.2.2.1 sn6] at h1
            unfold Hid
            rw [HTK.out, HI.out, hus]
            exact ⟨h1, X5.out.2⟩
          clear hus r2
          go_wp2
          exact ⟨⟨j + 1, by omega, by simp, XN.out⟩, by simp [intOf]; omega⟩
        | true =>
          rw [hus] at r3
          have y1 := XA5.out.1 (sn * 2 + 1) _ (List.getElem?_eq_getElem (by rw [List.length_set, List.length_set, List.length_set, HFL.out]; omega))
          have f1 := XA5.out.2.1 (sn * 2 + 1)
          have XN : Hid (Bx (W5.setCell ⟨w.heap.size, sn * 2 + 1, none⟩ (.int .i64 st.value)) w.heap.size (((ss.take (j + 1)).foldl insC xs).flatMap C2.cells) ∧ Bx (W5.setCell ⟨w.heap.size, sn * 2 + 1, none⟩ (.int .i64 st.value)) (w.heap.size + 1) [.int .i64 0, .int .i64 0, .int .i64 0, .int .i64 0, .int .i64 0, .int .i64 0, .int .i64 0, .int .i64 0, .int .i64 0, .int .i64 0, .int .i64 0, .int .i64 0] ∧ Below w.heap.size w (W5.setCell ⟨w.heap.size, sn * 2 + 1, none⟩ (.int .i64 st.value))) := by
            have h1 := XA5.out.set (i := sn * 2 + 1) (by rw [List.length_set, List.length_set, List.length_set, HFL.out]; omega) (.int .i64 st.value)
            rw [flat_w1 XC.out.2.2.2.1 sn6] at h1
            unfold Hid
            rw [HTK.out, HI.out, hus]
            exact ⟨h1, X5.out.2.1.far (by omega) _, X5.out.2.2.setCell (p := ⟨w.heap.size, sn * 2 + 1, none⟩) (Nat.le_refl _) _⟩
          clear hus
          go_wp2
          exact ⟨⟨j + 1, by omega, by simp, XN.out⟩, by simp [intOf]; omega⟩
    · obtain rfl : j = m := by omega
      have hd : decide ((j : Int) < (j : Int)) = false := by simp
      have hall : (ss.take j).foldl insC xs = ss.foldl insC xs := by rw [List.take_of_length_le (by rw [HML.out]; exact Nat.le_refl _)]
      rw [hall] at KD
      obtain ⟨v0, v1, v2, v3, v4, v5, hv⟩ := six_of (ins_six ss H6.out)
      have HV : Hid (arr6 (ss.foldl insC xs) = #[.int .i64 v0.head, .int .i64 v0.value, .int .i64 v1.head, .int .i64 v1.value, .int .i64 v2.head, .int .i64 v2.value, .int .i64 v3.head, .int .i64 v3.value, .int .i64 v4.head, .int .i64 v4.value, .int .i64 v5.head, .int .i64 v5.value]) := by unfold Hid; rw [hv]; rfl
      have hL : (ss.foldl insC xs).flatMap C2.cells = [.int .i64 v0.head, .int .i64 v0.value, .int .i64 v1.head, .int .i64 v1.value, .int .i64 v2.head, .int .i64 v2.value, .int .i64 v3.head, .int .i64 v3.value, .int .i64 v4.head, .int .i64 v4.value, .int .i64 v5.head, .int .i64 v5.value] := by rw [hv]; rfl
      rw [hL] at KD
      have KP : Hid (Below w.heap.size w (putB wr (w.heap.size + 1) 0 [.int .i64 v0.head, .int .i64 v0.value, .int .i64 v1.head, .int .i64 v1.value, .int .i64 v2.head, .int .i64 v2.value, .int .i64 v3.head, .int .i64 v3.value, .int .i64 v4.head, .int .i64 v4.value, .int .i64 v5.head, .int .i64 v5.value]) ∧ Bx (putB wr (w.heap.size + 1) 0 [.int .i64 v0.head, .int .i64 v0.value, .int .i64 v1.head, .int .i64 v1.value, .int .i64 v2.head, .int .i64 v2.value, .int .i64 v3.head, .int .i64 v3.value, .int .i64 v4.head, .int .i64 v4.value, .int .i64 v5.head, .int .i64 v5.value]) (w.heap.size + 1) [.int .i64 v0.head, .int .i64 v0.value, .int .i64 v1.head, .int .i64 v1.value, .int .i64 v2.head, .int .i64 v2.value, .int .i64 v3.head, .int .i64 v3.value, .int .i64 v4.head, .int .i64 v4.value, .int .i64 v5.head, .int .i64 v5.value]) := ⟨putB_below (by omega) _ _ _ KD.out.2.2, KD.out.2.1.put _ rfl⟩
      have q0 := KD.out.1.1 0 _ rfl
      have p0 := KD.out.2.1.1 0 _ rfl
      have f0 := KD.out.2.1.2.1 0
      have q1 := KD.out.1.1 1 _ rfl
      have p1 := KD.out.2.1.1 1 _ rfl
      have f1 := KD.out.2.1.2.1 1
      have q2 := KD.out.1.1 2 _ rfl
      have p2 := KD.out.2.1.1 2 _ rfl
      have f2 := KD.out.2.1.2.1 2
      have q3 := KD.out.1.1 3 _ rfl
      have p3 := KD.out.2.1.1 3 _ rfl
      have f3 := KD.out.2.1.2.1 3
      have q4 := KD.out.1.1 4 _ rfl
      have p4 := KD.out.2.1.1 4 _ rfl
      have f4 := KD.out.2.1.2.1 4
      have q5 := KD.out.1.1 5 _ rfl
      have p5 := KD.out.2.1.1 5 _ rfl
      have f5 := KD.out.2.1.2.1 5
      have q6 := KD.out.1.1 6 _ rfl
      have p6 := KD.out.2.1.1 6 _ rfl
      have f6 := KD.out.2.1.2.1 6
      have q7 := KD.out.1.1 7 _ rfl
      have p7 := KD.out.2.1.1 7 _ rfl
      have f7 := KD.out.2.1.2.1 7
      have q8 := KD.out.1.1 8 _ rfl
      have p8 := KD.out.2.1.1 8 _ rfl
      have f8 := KD.out.2.1.2.1 8
      have q9 := KD.out.1.1 9 _ rfl
      have p9 := KD.out.2.1.1 9 _ rfl
      have f9 := KD.out.2.1.2.1 9
      have q10 := KD.out.1.1 10 _ rfl
      have p10 := KD.out.2.1.1 10 _ rfl
      have f10 := KD.out.2.1.2.1 10
      have q11 := KD.out.1.1 11 _ rfl
      have p11 := KD.out.2.1.1 11 _ rfl
      have f11 := KD.out.2.1.2.1 11
      clear hall hv hL
      go_wp2
      obtain ⟨Z, hZ⟩ : ∃ Z, Z = putB wr (w.heap.size + 1) 0 [.int .i64 v0.head, .int .i64 v0.value, .int .i64 v1.head, .int .i64 v1.value, .int .i64 v2.head, .int .i64 v2.value, .int .i64 v3.head, .int .i64 v3.value, .int .i64 v4.head, .int .i64 v4.value, .int .i64 v5.head, .int .i64 v5.value] := ⟨_, rfl⟩
      rw [← hZ] at KP
      simp only [putB, Nat.zero_add, Nat.reduceAdd] at hZ
      rw [← hZ]
      clear hZ
      have r0 := KP.out.2.1 0 _ rfl
      have r1 := KP.out.2.1 1 _ rfl
      have r2 := KP.out.2.1 2 _ rfl
      have r3 := KP.out.2.1 3 _ rfl
      have r4 := KP.out.2.1 4 _ rfl
      have r5 := KP.out.2.1 5 _ rfl
      have r6 := KP.out.2.1 6 _ rfl
      have r7 := KP.out.2.1 7 _ rfl
      have r8 := KP.out.2.1 8 _ rfl
      have r9 := KP.out.2.1 9 _ rfl
      have r10 := KP.out.2.1 10 _ rfl
      have r11 := KP.out.2.1 11 _ rfl
      exact bodyPost_ret (v := .agg #[.int .i64 v0.head, .int .i64 v0.value, .int .i64 v1.head, .int .i64 v1.value, .int .i64 v2.head, .int .i64 v2.value, .int .i64 v3.head, .int .i64 v3.value, .int .i64 v4.head, .int .i64 v4.value, .int .i64 v5.head, .int .i64 v5.value]) (by simp [results, Tryz.results177, go_sem, r0, r1, r2, r3, r4, r5, r6, r7, r8, r9, r10, r11]) rfl ⟨by rw [HV.out], KP.out.1⟩
end Go.Proofs.YtdmpobegobfpjaaGreat