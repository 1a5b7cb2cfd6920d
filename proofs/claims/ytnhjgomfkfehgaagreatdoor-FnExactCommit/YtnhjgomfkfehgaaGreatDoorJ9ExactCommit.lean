/- Face; Face1; KdClT; FaceC; Givn; YOwnTi; OwCl: joined. -/
import Derived.Test.YtnhjgomfkfehgaaGreatDoorRows
import Derived.Test.YtnhjgomfkfehgaaGreatDoorJ8ExactCommit
import Derived.Test.YtnhjgomfkfehgaaGreatDoorJ7ExactCommit
import Derived.WalkKit
import Derived.WalkSpells
import Derived.WalkLawsBesides
import Derived.Below
import Derived.Lib.QuietBelow
import Derived.BigQuiet
import Derived.Deep.CutRange
import Derived.LaidEql
import Derived.Stop.Asserts
import Derived.RowKitTokens
import Derived.Deep.Upon
import Derived.Test.YtnhjgomfkfehgaaGreatDoorJ4ExactCommit
import Derived.Defers
import Derived.Recover
import Derived.TacticsInMore
import Derived.Lib.SliceRun
namespace Go.Proofs.YtnhjgomfkfehgaaGreatDoor
open Go.RowKit
open Go.Sort (grow)
def HG (w : World) : Prop := w.cell? ⟨0, 0, none⟩ = some (.iface 278 (.agg #[.pointer (some ⟨1, 155, none⟩)]))
theorem HG.later {w w' : World} (h : HG w) (b : Below w.heap.size w w') : HG w' := by
  have hlt : 0 < w.heap.size := by
    rcases Nat.eq_zero_or_pos w.heap.size with h0 | h'
    · simp [HG, World.cell?, h0] at h
    · exact h'
  exact (b.cell (p := ⟨0, 0, none⟩) hlt).trans h
theorem refuse_any (w : World) (n : Int) (y1 y2 y3 y4 y5 y6 : Value) : Calls Tryz.prog 56 #[.int .i64 n, .agg #[y1, y2, y3, y4, y5, y6]] w fun e w' => e = .panicked [{ v := .iface 157 (.agg #[.iface 90 (.int .i64 n), y1, y2, y3, y4, y5, y6]), recovered := false }] ∧ w' = w.alloc (.cells #[y1, y2, y3, y4, y5, y6] 32) := by
  go_enter Tryz.func56, Tryz.ntmps56
  go_wp2
  exact ⟨rfl, rfl, rfl⟩
theorem isErr (w : World) (v : Value) : (Instr.typeAssert (.iface 157 v) 20 155 true).run Tryz.prog w = .ok (.tuple #[.iface 157 v, .bool true]) w := run_typeAssert_hasB ea.errorU (by kernel_rfl) _ _ w
set_option maxRecDepth 100000 in
set_option maxHeartbeats 2000000 in
theorem refused_any (w : World) (n : Int) (y1 y2 : Int) (a3 : Option Addr) (n3 c3 : Nat) (a4 : Option Addr) (n4 c4 : Nat) (a5 : Option Addr) (n5 c5 : Nat) (y6 : Bool) (hg : HG w) :
    Calls Tryz.prog 89 #[.iface 157 (.agg #[.iface 90 (.int .i64 n), .int .i64 y1, .int .i64 y2, .slice a3 n3 c3, .slice a4 n4 c4, .slice a5 n5 c5, .bool y6])] w fun e w' => e = .returned (.tuple #[.agg #[.int .i64 y1, .int .i64 y2, .slice a3 n3 c3, .slice a4 n4 c4, .slice a5 n5 c5, .bool y6], .int .i64 n]) ∧ Below w.heap.size w w' := by
  have hE := isErr
  obtain ⟨V1, hV1⟩ : ∃ V, V = ((w.alloc (.cells #[.int .i64 0, .int .i64 0, .slice none 0 0, .slice none 0 0, .slice none 0 0, .bool false] 32)).alloc (.cells #[.nilIface, .int .i64 0, .int .i64 0, .slice none 0 0, .slice none 0 0, .slice none 0 0, .bool false] 157)).alloc (.cells #[.int .i64 0] 90) := ⟨_, rfl⟩
  have b1 : Below w.heap.size w V1 := by rw [hV1]; exact (((Below.refl _ _).alloc (Nat.le_refl _) _).alloc (by simp) _).alloc (by simp; omega) _
  have s1 : V1.heap.size = w.heap.size + 3 := by rw [hV1]; simp
  have x0 : Bx V1 w.heap.size [.int .i64 0, .int .i64 0, .slice none 0 0, .slice none 0 0, .slice none 0 0, .bool false] := by
    have := (Bx.made w [.int .i64 0, .int .i64 0, .slice none 0 0, .slice none 0 0, .slice none 0 0, .bool false] 32).later ((Below.refl _ _).alloc (Nat.le_refl _) (.cells #[.nilIface, .int .i64 0, .int .i64 0, .slice none 0 0, .slice none 0 0, .slice none 0 0, .bool false] 157))
    have := this.later ((Below.refl _ _).alloc (Nat.le_refl _) (.cells #[.int .i64 0] 90))
    rw [hV1]; exact this
  have x1 : Bx V1 (w.heap.size + 1) [.nilIface, .int .i64 0, .int .i64 0, .slice none 0 0, .slice none 0 0, .slice none 0 0, .bool false] := by
    have h := Bx.made (w.alloc (.cells #[.int .i64 0, .int .i64 0, .slice none 0 0, .slice none 0 0, .slice none 0 0, .bool false] 32)) [.nilIface, .int .i64 0, .int .i64 0, .slice none 0 0, .slice none 0 0, .slice none 0 0, .bool false] 157
    rw [show (w.alloc (.cells #[.int .i64 0, .int .i64 0, .slice none 0 0, .slice none 0 0, .slice none 0 0, .bool false] 32)).heap.size = w.heap.size + 1 by simp] at h
    have := h.later ((Below.refl _ _).alloc (Nat.le_refl _) (.cells #[.int .i64 0] 90))
    rw [hV1]; exact this
  have x2 : Bx V1 (w.heap.size + 2) [.int .i64 0] := by
    have h := Bx.made ((w.alloc (.cells #[.int .i64 0, .int .i64 0, .slice none 0 0, .slice none 0 0, .slice none 0 0, .bool false] 32)).alloc (.cells #[.nilIface, .int .i64 0, .int .i64 0, .slice none 0 0, .slice none 0 0, .slice none 0 0, .bool false] 157)) [.int .i64 0] 90
    rw [show ((w.alloc (.cells #[.int .i64 0, .int .i64 0, .slice none 0 0, .slice none 0 0, .slice none 0 0, .bool false] 32)).alloc (.cells #[.nilIface, .int .i64 0, .int .i64 0, .slice none 0 0, .slice none 0 0, .slice none 0 0, .bool false] 157)).heap.size = w.heap.size + 2 by simp] at h
    rw [hV1]; exact h
  obtain ⟨YS, hYS⟩ : ∃ l : List Value, l = [.iface 90 (.int .i64 n), .int .i64 y1, .int .i64 y2, .slice a3 n3 c3, .slice a4 n4 c4, .slice a5 n5 c5, .bool y6] := ⟨_, rfl⟩
  have cR := ea.as_R (w.heap.size + 1) (.iface 90 (.int .i64 n)) (.int .i64 y1) (.int .i64 y2) (.slice a3 n3 c3) (.slice a4 n4 c4) (.slice a5 n5 c5) (.bool y6) [.nilIface, .int .i64 0, .int .i64 0, .slice none 0 0, .slice none 0 0, .slice none 0 0, .bool false] V1 (hg.later b1) (by intro u hu; simp only [List.mem_cons, List.not_mem_nil, or_false] at hu; rcases hu with rfl | rfl | rfl | rfl | rfl | rfl | rfl <;> rfl) rfl x1
  have K : Hid (Below w.heap.size w V1 ∧ V1.heap.size = w.heap.size + 3 ∧ Bx V1 w.heap.size [.int .i64 0, .int .i64 0, .slice none 0 0, .slice none 0 0, .slice none 0 0, .bool false] ∧ Bx V1 (w.heap.size + 1) [.nilIface, .int .i64 0, .int .i64 0, .slice none 0 0, .slice none 0 0, .slice none 0 0, .bool false] ∧ Bx V1 (w.heap.size + 2) [.int .i64 0] ∧ HG V1) := ⟨b1, s1, x0, x1, x2, hg.later b1⟩
  clear b1 s1 x0 x1 x2 hYS YS
  go_enter Tryz.func89, Tryz.ntmps89
  go_wp2_with fail
  rw [← hV1]
  clear hV1
  refine cR.mono ?_
  clear cR
  rintro e w1 ⟨rfl, hw1⟩
  obtain ⟨V4, hV4⟩ : ∃ V, V = (((V1.alloc (.cells #[.pointer (some ⟨w.heap.size + 1, 0, none⟩)] 188)).alloc (.cells #[.pointer (some ⟨1, 188, none⟩), .pointer (some ⟨V1.heap.size, 0, none⟩), .int .u64 150] 238)).alloc (.cells #[.pointer (some ⟨1, 188, none⟩), .pointer (some ⟨V1.heap.size, 0, none⟩), .int .u64 150] 238)).alloc (.cells #[.iface 90 (.int .i64 n), .int .i64 y1, .int .i64 y2, .slice a3 n3 c3, .slice a4 n4 c4, .slice a5 n5 c5, .bool y6] 157) := ⟨_, rfl⟩
  rw [← hV4] at hw1
  have b4 : Below V1.heap.size V1 V4 := by rw [hV4]; exact ((((Below.refl _ _).alloc (Nat.le_refl _) _).alloc (by simp) _).alloc (by simp; omega) _).alloc (by simp; omega) _
  obtain ⟨k1, k2, k3, k4, k5, k6⟩ := K.out
  have sw1 : w1.heap.size = V4.heap.size := by rw [hw1]; exact putB_size _ _ _ _
  have blk : ∀ q, q ≠ w.heap.size + 1 → w1.heap[q]? = V4.heap[q]? := fun q hq => by rw [hw1]; exact putB_block hq _ _ _
  have bw : Below w.heap.size w w1 := by rw [hw1]; exact putB_below (w := w) (by omega) _ _ _ (bstep k1 b4)
  have z0 : Bx w1 w.heap.size [.int .i64 0, .int .i64 0, .slice none 0 0, .slice none 0 0, .slice none 0 0, .bool false] := (k3.later b4).of_block (blk _ (by omega)) (by omega)
  have z2 : Bx w1 (w.heap.size + 2) [.int .i64 0] := (k5.later b4).of_block (blk _ (by omega)) (by omega)
  have z1 : Bx w1 (w.heap.size + 1) [.iface 90 (.int .i64 n), .int .i64 y1, .int .i64 y2, .slice a3 n3 c3, .slice a4 n4 c4, .slice a5 n5 c5, .bool y6] := by rw [hw1]; exact (k4.later b4).put _ rfl
  have g1 : HG w1 := by
    have h4 := k6.later b4
    have hlt : 0 < V1.heap.size := by omega
    exact (World.cell?_of_block (a := ⟨0, 0, none⟩) (blk 0 (by omega))).trans h4
  have cC := ea.as_C (w.heap.size + 2) n (.int .i64 y1) (.int .i64 y2) (.slice a3 n3 c3) (.slice a4 n4 c4) (.slice a5 n5 c5) (.bool y6) (.int .i64 0) w1 g1 (z2.1 0 _ rfl) (z2.2.1 0) z2.2.2
  have K1 : Hid (Below w.heap.size w w1 ∧ Bx w1 w.heap.size [.int .i64 0, .int .i64 0, .slice none 0 0, .slice none 0 0, .slice none 0 0, .bool false] ∧ Bx w1 (w.heap.size + 1) [.iface 90 (.int .i64 n), .int .i64 y1, .int .i64 y2, .slice a3 n3 c3, .slice a4 n4 c4, .slice a5 n5 c5, .bool y6] ∧ Bx w1 (w.heap.size + 2) [.int .i64 0] ∧ w.heap.size + 3 ≤ w1.heap.size) := ⟨bw, z0, z1, z2, by have := b4.size; omega⟩
  clear hw1 hV4 b4 k1 k2 k3 k4 k5 k6 sw1 blk bw z0 z1 z2 g1 K V4
  go_wp2_with fail
  refine cC.mono ?_
  clear cC
  rintro e w2 ⟨rfl, hw2⟩
  obtain ⟨V5, hV5⟩ : ∃ V, V = ((((w1.alloc (.cells #[.pointer (some ⟨w.heap.size + 2, 0, none⟩)] 189)).alloc (.cells #[.pointer (some ⟨1, 189, none⟩), .pointer (some ⟨w1.heap.size, 0, none⟩), .int .u64 150] 238)).alloc (.cells #[.pointer (some ⟨1, 189, none⟩), .pointer (some ⟨w1.heap.size, 0, none⟩), .int .u64 150] 238)).alloc (.cells #[.iface 90 (.int .i64 n), .int .i64 y1, .int .i64 y2, .slice a3 n3 c3, .slice a4 n4 c4, .slice a5 n5 c5, .bool y6] 157)).alloc (.cells #[.int .i64 n] 90) := ⟨_, rfl⟩
  rw [← hV5] at hw2
  have b5 : Below w1.heap.size w1 V5 := by rw [hV5]; exact (((((Below.refl _ _).alloc (Nat.le_refl _) _).alloc (by simp) _).alloc (by simp; omega) _).alloc (by simp; omega) _).alloc (by simp; omega) _
  obtain ⟨k1, k2, k3, k4, k5⟩ := K1.out
  have blk : ∀ q, q ≠ w.heap.size + 2 → w2.heap[q]? = V5.heap[q]? := fun q hq => by rw [hw2]; exact Below.heap_setCell _ _ _ _ hq
  have sw2 : w2.heap.size = V5.heap.size := by rw [hw2]; simp [World.setCell]
  have z0 : Bx w2 w.heap.size [.int .i64 0, .int .i64 0, .slice none 0 0, .slice none 0 0, .slice none 0 0, .bool false] := (k2.later b5).of_block (blk _ (by omega)) (by omega)
  have z1 : Bx w2 (w.heap.size + 1) [.iface 90 (.int .i64 n), .int .i64 y1, .int .i64 y2, .slice a3 n3 c3, .slice a4 n4 c4, .slice a5 n5 c5, .bool y6] := (k3.later b5).of_block (blk _ (by omega)) (by omega)
  have z2 : w2.cell? ⟨w.heap.size + 2, 0, none⟩ = some (.int .i64 n) := by rw [hw2]; exact cell_set_same ((k4.later b5).1 0 _ rfl)
  have bw : Below w.heap.size w w2 := by rw [hw2]; exact (bstep k1 b5).setCell (p := ⟨w.heap.size + 2, 0, none⟩) (by show w.heap.size ≤ w.heap.size + 2; omega) _
  have BW : Hid (Below w.heap.size w w2) := bw
  have Z0 : Hid (Bx w2 w.heap.size [.int .i64 0, .int .i64 0, .slice none 0 0, .slice none 0 0, .slice none 0 0, .bool false]) := z0
  have Z1 : Hid (Bx w2 (w.heap.size + 1) [.iface 90 (.int .i64 n), .int .i64 y1, .int .i64 y2, .slice a3 n3 c3, .slice a4 n4 c4, .slice a5 n5 c5, .bool y6]) := z1
  clear hw2 hV5 b5 k1 k2 k3 k4 k5 blk sw2 z0 z1 bw K1 V5
  go_wp2_with fail
  refine wp_region_until 4 (fun X : World => Bx X (w.heap.size + 1) [.iface 90 (.int .i64 n), .int .i64 y1, .int .i64 y2, .slice a3 n3 c3, .slice a4 n4 c4, .slice a5 n5 c5, .bool y6] ∧ X.cell? ⟨w.heap.size + 2, 0, none⟩ = some (.int .i64 n)) (by kernel_rfl) ?_
  have hSX : (fun X : World => Bx X (w.heap.size + 1) [.iface 90 (.int .i64 n), .int .i64 y1, .int .i64 y2, .slice a3 n3 c3, .slice a4 n4 c4, .slice a5 n5 c5, .bool y6] ∧ X.cell? ⟨w.heap.size + 2, 0, none⟩ = some (.int .i64 n)) w2.drew := ⟨Z1.out.later (Below.refl _ _).drew, z2⟩
  have BD : Hid (Below w.heap.size w w2.drew) := BW.out.drew
  have ZD : Hid (Bx w2.drew w.heap.size [.int .i64 0, .int .i64 0, .slice none 0 0, .slice none 0 0, .slice none 0 0, .bool false]) := Z0.out.later (Below.refl _ _).drew
  clear z2 Z0 Z1 BW
  generalize w2.drew = XD at *
  refine wpUntil_take (i := 0) (v := ?_) rfl (by kernel_rfl) (fun _ _ _ h => h) (Or.inl ⟨by rfl, ?_⟩) hSX ?_
  rotate_left
  · (intro w hSw; go_simp; first | done | with_reducible rfl)
  simp only [Act.put]
  refine wpUntil_take (i := 1) (v := ?_) rfl (by kernel_rfl) (fun _ _ _ h => h) (Or.inl ⟨by rfl, ?_⟩) hSX ?_
  rotate_left
  · (intro w hSw; have q1 := hSw.1.1 1 _ rfl; have q2 := hSw.1.1 2 _ rfl; have q3 := hSw.1.1 3 _ rfl; have q4 := hSw.1.1 4 _ rfl; have q5 := hSw.1.1 5 _ rfl; have q6 := hSw.1.1 6 _ rfl; go_simp; first | done | with_reducible rfl | rfl)
  simp only [Act.put]
  refine wpUntil_take (i := 2) (v := ?_) rfl (by kernel_rfl) (fun _ _ _ h => h) (Or.inl ⟨by rfl, ?_⟩) hSX ?_
  rotate_left
  · (intro w hSw; have q := hSw.2; go_simp; first | done | with_reducible rfl | exact q)
  simp only [Act.put]
  refine wpUntil_ready (rs := [3]) (by kernel_rfl) (by simp) ?_
  refine AllU.cons rfl (fun K hK => ?_) AllU.nil
  obtain ⟨Y, hY⟩ : ∃ Y, Y = putB XD w.heap.size 0 [.int .i64 y1, .int .i64 y2, .slice a3 n3 c3, .slice a4 n4 c4, .slice a5 n5 c5, .bool y6] := ⟨_, rfl⟩
  have hSY : (fun X : World => Bx X (w.heap.size + 1) [.iface 90 (.int .i64 n), .int .i64 y1, .int .i64 y2, .slice a3 n3 c3, .slice a4 n4 c4, .slice a5 n5 c5, .bool y6] ∧ X.cell? ⟨w.heap.size + 2, 0, none⟩ = some (.int .i64 n)) Y := by
    rw [hY]
    exact ⟨hSX.1.of_block (putB_block (by omega) _ _ _) (by rw [putB_size]; exact Nat.le_refl _), (World.cell?_of_block (a := ⟨w.heap.size + 2, 0, none⟩) (putB_block (show w.heap.size + 2 ≠ w.heap.size by omega) _ _ _)).trans hSX.2⟩
  have KY : Hid (Below w.heap.size w Y ∧ Bx Y w.heap.size [.int .i64 y1, .int .i64 y2, .slice a3 n3 c3, .slice a4 n4 c4, .slice a5 n5 c5, .bool y6]) := ⟨by rw [hY]; exact putB_below (w := w) (Nat.le_refl _) _ _ _ BD.out, by rw [hY]; exact ZD.out.put _ rfl⟩
  have r0 := ZD.out.1 0 _ rfl
  have r1 := ZD.out.1 1 _ rfl
  have r2 := ZD.out.1 2 _ rfl
  have r3 := ZD.out.1 3 _ rfl
  have r4 := ZD.out.1 4 _ rfl
  have r5 := ZD.out.1 5 _ rfl
  have f0 := ZD.out.2.1 0
  have f1 := ZD.out.2.1 1
  have f2 := ZD.out.2.1 2
  have f3 := ZD.out.2.1 3
  have f4 := ZD.out.2.1 4
  have f5 := ZD.out.2.1 5
  simp only [putB] at hY
  go_simp
  rw [← hY]
  refine hK.out _ _ (fun _ => hSY) ?_
  clear hK K hY r0 r1 r2 r3 r4 r5 f0 f1 f2 f3 f4 f5 hSX ZD BD
  refine wpUntil_ready (rs := [4]) (by kernel_rfl) (by simp) ?_
  refine AllU.cons rfl (fun K hK => ?_) AllU.nil
  go_simp
  refine hK.out _ _ (fun h => absurd rfl h) ?_
  clear hK K
  refine wpUntil_done (by kernel_rfl) ?_ _
  have o0 := KY.out.2.1 0 _ rfl
  have o1 := KY.out.2.1 1 _ rfl
  have o2 := KY.out.2.1 2 _ rfl
  have o3 := KY.out.2.1 3 _ rfl
  have o4 := KY.out.2.1 4 _ rfl
  have o5 := KY.out.2.1 5 _ rfl
  go_wp2
  refine bodyPost_ret (v := .tuple #[.agg #[.int .i64 y1, .int .i64 y2, .slice a3 n3 c3, .slice a4 n4 c4, .slice a5 n5 c5, .bool y6], .int .i64 n]) (by simp [results, Tryz.results89, go_sem, o0, o1, o2, o3, o4, o5]) rfl ?_
  exact ⟨rfl, KY.out.1⟩
theorem neNil (v : Value) (w : World) : (binOp .neq 20 (.iface 157 v) .nilIface).run Tryz.prog w = .ok (.bool true) w := by kernel_rfl
set_option maxRecDepth 100000 in
set_option maxHeartbeats 2000000 in
theorem face1_panicking (p q : Nat) (n : Int) (y1 y2 : Int) (a3 : Option Addr) (n3 c3 : Nat) (a4 : Option Addr) (n4 c4 : Nat) (a5 : Option Addr) (n5 c5 : Nat) (y6 : Bool) (old : List Value) (o1 : Value) (w : World) (hg : HG w) (ho : old.length = 6) (hp : Bx w p old) (hq : Bx w q [o1]) (hpq : p ≠ q) :
    CallsD Tryz.prog 88 #[.pointer (some ⟨p, 0, none⟩), .pointer (some ⟨q, 0, none⟩)] (.panicking [{ v := .iface 157 (.agg #[.iface 90 (.int .i64 n), .int .i64 y1, .int .i64 y2, .slice a3 n3 c3, .slice a4 n4 c4, .slice a5 n5 c5, .bool y6]), recovered := false }]) w fun e u' w' =>
      e = .returned (.tuple #[]) ∧ u' = .panicking [{ v := .iface 157 (.agg #[.iface 90 (.int .i64 n), .int .i64 y1, .int .i64 y2, .slice a3 n3 c3, .slice a4 n4 c4, .slice a5 n5 c5, .bool y6]), recovered := true }] ∧ ∃ X, Below w.heap.size w X ∧ w' = (putB X p 0 [.int .i64 y1, .int .i64 y2, .slice a3 n3 c3, .slice a4 n4 c4, .slice a5 n5 c5, .bool y6]).setCell ⟨q, 0, none⟩ (.int .i64 n) := by
  have hN := neNil
  have cR := refused_any w n y1 y2 a3 n3 c3 a4 n4 c4 a5 n5 c5 y6 hg
  refine callsD_of_wpS Tryz.func88 rfl fun c₀ cs hu => ?_
  apply wpS_seq
  apply wpS_region
  simp [wpOpsS, go_sem, recoverD, hu, Tryz.ntmps88, Exit.thenS]
  refine wpS_of_wp ?_
  go_wp2_with fail
  refine cR.mono ?_
  clear cR
  rintro e X ⟨rfl, bX⟩
  have xp := hp.later bX
  have xq := hq.later bX
  obtain ⟨v0, r0⟩ : ∃ v, X.cell? ⟨p, 0, none⟩ = some v := ⟨_, xp.1 0 _ (List.getElem?_eq_getElem (by omega))⟩
  obtain ⟨v1, r1⟩ : ∃ v, X.cell? ⟨p, 1, none⟩ = some v := ⟨_, xp.1 1 _ (List.getElem?_eq_getElem (by omega))⟩
  obtain ⟨v2, r2⟩ : ∃ v, X.cell? ⟨p, 2, none⟩ = some v := ⟨_, xp.1 2 _ (List.getElem?_eq_getElem (by omega))⟩
  obtain ⟨v3, r3⟩ : ∃ v, X.cell? ⟨p, 3, none⟩ = some v := ⟨_, xp.1 3 _ (List.getElem?_eq_getElem (by omega))⟩
  obtain ⟨v4, r4⟩ : ∃ v, X.cell? ⟨p, 4, none⟩ = some v := ⟨_, xp.1 4 _ (List.getElem?_eq_getElem (by omega))⟩
  obtain ⟨v5, r5⟩ : ∃ v, X.cell? ⟨p, 5, none⟩ = some v := ⟨_, xp.1 5 _ (List.getElem?_eq_getElem (by omega))⟩
  have f0 := xp.2.1 0
  have f1 := xp.2.1 1
  have f2 := xp.2.1 2
  have f3 := xp.2.1 3
  have f4 := xp.2.1 4
  have f5 := xp.2.1 5
  have s0 := xq.1 0 _ rfl
  have g0 := xq.2.1 0
  have hqp : q ≠ p := fun e => hpq e.symm
  have BX : Hid (Below w.heap.size w X) := bX
  clear xp xq bX hp hq hg ho
  go_wp2
  exact ⟨rfl, _, rfl, .tuple #[], by simp [results, Tryz.results88], rfl, rfl, X, BX.out, rfl⟩
set_option maxHeartbeats 1000000 in
theorem face1_idle (p q : Nat) (w : World) :
    CallsD Tryz.prog 88 #[.pointer (some ⟨p, 0, none⟩), .pointer (some ⟨q, 0, none⟩)] .returning w fun e u' w' => e = .returned (.tuple #[]) ∧ u' = .returning ∧ w' = w := by
  have hN : ∀ w : World, (binOp .neq 20 .nilIface .nilIface).run Tryz.prog w = .ok (.bool false) w := fun w => by kernel_rfl
  refine callsD_of_wpS Tryz.func88 rfl fun c₀ cs hu => ?_
  apply wpS_seq
  apply wpS_region
  simp [wpOpsS, go_sem, recoverD, hu, Tryz.ntmps88, Exit.thenS]
  refine wpS_of_wp ?_
  go_wp2
  cases c₀
  simp only at hu
  subst hu
  exact ⟨rfl, _, rfl, .tuple #[], by simp [results, Tryz.results88], rfl, rfl, rfl⟩
def DAns (X : World) (k : C6) (n : Int) (e : Ending) (w' : World) : Prop := ∃ (a1 : Option Addr) (c1 : Nat) (a2 : Option Addr) (c2 : Nat) (a3 : Option Addr) (c3 : Nat) (P : Nat → Prop), ((n = 0 ∧ e = .returned (.agg #[.int .i64 k.config, .int .i64 k.clock, .slice a1 k.places.length c1, .slice a2 k.machines.length c2, .slice a3 k.txs.length c3, .bool k.lost])) ∨ (n ≠ 0 ∧ e = .panicked [{ v := .iface 157 (.agg #[.iface 90 (.int .i64 n), .int .i64 k.config, .int .i64 k.clock, .slice a1 k.places.length c1, .slice a2 k.machines.length c2, .slice a3 k.txs.length c3, .bool k.lost]), recovered := false }])) ∧ KCl.Ow w' X.heap.size a1 c1 a2 c2 a3 c3 k P ∧ Below X.heap.size X w'
def FcAns (X : World) (k : C6) (n : Int) (e : Ending) (w' : World) : Prop := ∃ (a1 : Option Addr) (c1 : Nat) (a2 : Option Addr) (c2 : Nat) (a3 : Option Addr) (c3 : Nat) (P : Nat → Prop), e = .returned (.tuple #[.agg #[.int .i64 k.config, .int .i64 k.clock, .slice a1 k.places.length c1, .slice a2 k.machines.length c2, .slice a3 k.txs.length c3, .bool k.lost], .int .i64 n]) ∧ KCl.Ow w' X.heap.size a1 c1 a2 c2 a3 c3 k P ∧ Below X.heap.size X w'
end Go.Proofs.YtnhjgomfkfehgaaGreatDoor
namespace Go.Proofs.YtnhjgomfkfehgaaGreatDoor
open Go.RowKit
theorem KP.Ow.low {w : World} {B B' : Nat} {a : Option Addr} {zss : List (List Int)} {P : Nat → Prop} (h : KP.Ow w B a zss P) (hb : B' ≤ B) : KP.Ow w B' a zss P := by
  obtain ⟨⟨g, h1, h2, h3⟩, h4⟩ := h
  exact ⟨⟨g, h1.lower hb, h2, h3⟩, fun q hq => ⟨Nat.le_trans hb (h4 q hq).1, (h4 q hq).2⟩⟩
set_option maxRecDepth 100000 in
set_option maxHeartbeats 4000000 in
theorem KCl.to (X : World) (a1 : Option Addr) (c1 : Nat) (a2 : Option Addr) (c2 : Nat) (a3 : Option Addr) (c3 : Nat) (k : C6) (ht : KCl.S k) (h : KCl.Rd X a1 c1 a2 c2 a3 c3 k) : Calls Tryz.prog 11 #[.agg #[.int .i64 k.config, .int .i64 k.clock, .slice a1 k.places.length c1, .slice a2 k.machines.length c2, .slice a3 k.txs.length c3, .bool k.lost]] X fun e w' =>
    ∃ (a1 : Option Addr) (c1 : Nat) (a2 : Option Addr) (c2 : Nat) (a3 : Option Addr) (c3 : Nat) (P : Nat → Prop), e = .returned (.agg #[.int .i64 k.config, .int .i64 k.clock, .slice a1 k.places.length c1, .slice a2 k.machines.length c2, .slice a3 k.txs.length c3, .bool k.lost]) ∧ KCl.Ow w' X.heap.size a1 c1 a2 c2 a3 c3 k P ∧ Below X.heap.size X w' := by
  obtain ⟨U0, hU0⟩ : ∃ Y, Y = X.alloc (.cells #[.int .i64 k.config, .int .i64 k.clock, .slice a1 k.places.length c1, .slice a2 k.machines.length c2, .slice a3 k.txs.length c3, .bool k.lost] 26) := ⟨_, rfl⟩
  have b0 : Below X.heap.size X U0 := by rw [hU0]; exact (Below.refl _ _).alloc (Nat.le_refl _) _
  have x0 : Bx U0 X.heap.size [.int .i64 k.config, .int .i64 k.clock, .slice a1 k.places.length c1, .slice a2 k.machines.length c2, .slice a3 k.txs.length c3, .bool k.lost] := by rw [hU0]; exact Bx.made X [.int .i64 k.config, .int .i64 k.clock, .slice a1 k.places.length c1, .slice a2 k.machines.length c2, .slice a3 k.txs.length c3, .bool k.lost] _
  have z0 : U0.heap.size = X.heap.size + 1 := by rw [hU0]; simp
  obtain ⟨U1, hU1⟩ : ∃ Y, Y = U0.alloc (.cells #[.int .i64 0, .int .i64 0, .slice none 0 0, .slice none 0 0, .slice none 0 0, .bool false] 32) := ⟨_, rfl⟩
  have b1 : Below U0.heap.size U0 U1 := by rw [hU1]; exact (Below.refl _ _).alloc (Nat.le_refl _) _
  have x1 : Bx U1 U0.heap.size [.int .i64 0, .int .i64 0, .slice none 0 0, .slice none 0 0, .slice none 0 0, .bool false] := by rw [hU1]; exact Bx.made U0 [.int .i64 0, .int .i64 0, .slice none 0 0, .slice none 0 0, .slice none 0 0, .bool false] _
  have z1 : U1.heap.size = X.heap.size + 2 := by rw [hU1]; simp [z0]
  obtain ⟨V0, hV0⟩ : ∃ Y, Y = U1.alloc (.cells #[.int .i64 k.config, .int .i64 k.clock, .slice none 0 0, .slice none 0 0, .slice none 0 0, .bool false] 32) := ⟨_, rfl⟩
  have b2 : Below U1.heap.size U1 V0 := by rw [hV0]; exact (Below.refl _ _).alloc (Nat.le_refl _) _
  have x2 : Bx V0 U1.heap.size [.int .i64 k.config, .int .i64 k.clock, .slice none 0 0, .slice none 0 0, .slice none 0 0, .bool false] := by rw [hV0]; exact Bx.made U1 [.int .i64 k.config, .int .i64 k.clock, .slice none 0 0, .slice none 0 0, .slice none 0 0, .bool false] _
  have zU : V0.heap.size = X.heap.size + 3 := by rw [hV0]; simp [z1]
  rw [z0] at x1
  rw [z1] at x2
  have bU : Below X.heap.size X V0 := bstep (bstep b0 b1) b2
  have FA : Hid (Bx V0 X.heap.size [.int .i64 k.config, .int .i64 k.clock, .slice a1 k.places.length c1, .slice a2 k.machines.length c2, .slice a3 k.txs.length c3, .bool k.lost]) := (x0.later b1).later b2
  have FZ : Hid (Bx V0 (X.heap.size + 1) [.int .i64 0, .int .i64 0, .slice none 0 0, .slice none 0 0, .slice none 0 0, .bool false]) := x1.later b2
  have Y0 : Hid (Bx V0 (X.heap.size + 2) [.int .i64 k.config, .int .i64 k.clock, .slice none 0 0, .slice none 0 0, .slice none 0 0, .bool false]) := x2
  have E0 : Hid (Below (X.heap.size + 2) V0 V0 ∧ Below X.heap.size X V0 ∧ V0.heap.size ≤ V0.heap.size) := ⟨Below.refl _ _, bU, Nat.le_refl _⟩
  have HZ : Hid (V0.heap.size = X.heap.size + 3) := zU
  have HR : Hid (KCl.Rd X a1 c1 a2 c2 a3 c3 k ∧ KCl.S k) := ⟨h, ht⟩
  rw [hU1, hU0] at hV0
  clear b0 x0 z0 b1 x1 z1 b2 x2 zU bU hU0 hU1 h ht
  have q := KP.to V0 a1 c1 k.places HR.out.2.p HR.out.2.ps (HR.out.1.later E0.out.2.1).p
  have A0 := (FA.out.under E0.out.1 (by omega)).1 0 _ rfl
  have A1 := (FA.out.under E0.out.1 (by omega)).1 1 _ rfl
  have A2 := (FA.out.under E0.out.1 (by omega)).1 2 _ rfl
  rw [hV0] at A0 A1 A2
  go_enter Tryz.func11, Tryz.ntmps11
  go_wp2_with fail
  rw [← hV0]
  clear hV0 A0 A1 A2
  refine q.mono ?_
  clear q
  rintro e w1 ⟨P1, rfl, o1, b⟩
  obtain ⟨V1, hV1⟩ : ∃ Y, Y = w1.setCell ⟨X.heap.size + 2, 2, none⟩ (.slice (some ⟨V0.heap.size, 0, none⟩) k.places.length k.places.length) := ⟨_, rfl⟩
  have sV : V1.heap.size = w1.heap.size := by rw [hV1]; simp [World.setCell]
  have kV : ∀ q, q ≠ X.heap.size + 2 → V1.heap[q]? = w1.heap[q]? := fun q hq => by rw [hV1]; exact Below.heap_setCell _ _ _ _ hq
  have lV : X.heap.size + 3 ≤ V0.heap.size := by have := E0.out.2.2; have := HZ.out; omega
  have u := (Y0.out.later b).1 2 _ rfl
  have uf := (Y0.out.later b).2.1 2
  have E1 : Hid (Below (X.heap.size + 2) V0 V1 ∧ Below X.heap.size X V1 ∧ V0.heap.size ≤ V1.heap.size) := by
    refine ⟨?_, ?_, by have := b.size; have := E0.out.2.2; omega⟩
    · rw [hV1]; exact (E0.out.1.trans (b.mono (by omega))).setCell (p := ⟨X.heap.size + 2, 2, none⟩) (Nat.le_refl _) _
    · rw [hV1]; exact (E0.out.2.1.trans (b.mono (by omega))).setCell (p := ⟨X.heap.size + 2, 2, none⟩) (by show X.heap.size ≤ X.heap.size + 2; omega) _
  have Y1 : Hid (Bx V1 (X.heap.size + 2) [.int .i64 k.config, .int .i64 k.clock, .slice (some ⟨V0.heap.size, 0, none⟩) k.places.length k.places.length, .slice none 0 0, .slice none 0 0, .bool false]) := by rw [hV1]; exact (Y0.out.later b).set (i := 2) (by simp) _
  have O1' : Hid (KP.Ow V1 V0.heap.size (some ⟨V0.heap.size, 0, none⟩) k.places P1) := o1.keep (Nat.le_of_eq sV.symm) (fun q hq => kV q (by have := (o1.of hq).1; have := HZ.out; have := E0.out.2.2; omega))
  have O1 := O1'
  clear O1'
  have Zb1 : Hid (V0.heap.size ≤ w1.heap.size ∧ w1.heap.size = V1.heap.size ∧ (∀ q, P1 q → V0.heap.size ≤ q ∧ q < w1.heap.size)) := ⟨b.size, sV.symm, fun q hq => o1.of hq⟩
  clear o1 b sV kV lV
  have q := KMS.to V1 a2 c2 k.machines HR.out.2.m HR.out.2.ms (HR.out.1.later E1.out.2.1).m
  have A3 := (FA.out.under E1.out.1 (by omega)).1 3 _ rfl
  rw [hV1] at A3
  go_wp2_with fail
  rw [← hV1]
  clear hV1 A3 u uf
  refine q.mono ?_
  clear q
  rintro e w2 ⟨P2, rfl, o2, b⟩
  obtain ⟨V2, hV2⟩ : ∃ Y, Y = w2.setCell ⟨X.heap.size + 2, 3, none⟩ (.slice (some ⟨V1.heap.size, 0, none⟩) k.machines.length k.machines.length) := ⟨_, rfl⟩
  have sV : V2.heap.size = w2.heap.size := by rw [hV2]; simp [World.setCell]
  have kV : ∀ q, q ≠ X.heap.size + 2 → V2.heap[q]? = w2.heap[q]? := fun q hq => by rw [hV2]; exact Below.heap_setCell _ _ _ _ hq
  have lV : X.heap.size + 3 ≤ V1.heap.size := by have := E1.out.2.2; have := HZ.out; omega
  have u := (Y1.out.later b).1 3 _ rfl
  have uf := (Y1.out.later b).2.1 3
  have E2 : Hid (Below (X.heap.size + 2) V0 V2 ∧ Below X.heap.size X V2 ∧ V0.heap.size ≤ V2.heap.size) := by
    refine ⟨?_, ?_, by have := b.size; have := E1.out.2.2; omega⟩
    · rw [hV2]; exact (E1.out.1.trans (b.mono (by omega))).setCell (p := ⟨X.heap.size + 2, 3, none⟩) (Nat.le_refl _) _
    · rw [hV2]; exact (E1.out.2.1.trans (b.mono (by omega))).setCell (p := ⟨X.heap.size + 2, 3, none⟩) (by show X.heap.size ≤ X.heap.size + 2; omega) _
  have Y2 : Hid (Bx V2 (X.heap.size + 2) [.int .i64 k.config, .int .i64 k.clock, .slice (some ⟨V0.heap.size, 0, none⟩) k.places.length k.places.length, .slice (some ⟨V1.heap.size, 0, none⟩) k.machines.length k.machines.length, .slice none 0 0, .bool false]) := by rw [hV2]; exact (Y1.out.later b).set (i := 3) (by simp) _
  have O1' : Hid (KP.Ow V2 V0.heap.size (some ⟨V0.heap.size, 0, none⟩) k.places P1) := (O1.out.later b).keep (Nat.le_of_eq sV.symm) (fun q hq => kV q (by have := ((O1.out.later b).of hq).1; have := HZ.out; have := E0.out.2.2; omega))
  have O2' : Hid (KMk.OwS V2 V1.heap.size (some ⟨V1.heap.size, 0, none⟩) k.machines P2) := o2.keep (Nat.le_of_eq sV.symm) (fun q hq => kV q (by have := (o2.of hq).1; have := HZ.out; have := E1.out.2.2; omega))
  have O1 := O1'
  clear O1'
  have O2 := O2'
  clear O2'
  have Zb2 : Hid (V1.heap.size ≤ w2.heap.size ∧ w2.heap.size = V2.heap.size ∧ (∀ q, P2 q → V1.heap.size ≤ q ∧ q < w2.heap.size)) := ⟨b.size, sV.symm, fun q hq => o2.of hq⟩
  clear o2 b sV kV lV
  have q := KTS.to V2 a3 c3 k.txs HR.out.2.t HR.out.2.ts (HR.out.1.later E2.out.2.1).t
  have A4 := (FA.out.under E2.out.1 (by omega)).1 4 _ rfl
  rw [hV2] at A4
  go_wp2_with fail
  rw [← hV2]
  clear hV2 A4 u uf
  refine q.mono ?_
  clear q
  rintro e w3 ⟨P3, rfl, o3, b⟩
  obtain ⟨V3, hV3⟩ : ∃ Y, Y = w3.setCell ⟨X.heap.size + 2, 4, none⟩ (.slice (some ⟨V2.heap.size, 0, none⟩) k.txs.length k.txs.length) := ⟨_, rfl⟩
  have sV : V3.heap.size = w3.heap.size := by rw [hV3]; simp [World.setCell]
  have kV : ∀ q, q ≠ X.heap.size + 2 → V3.heap[q]? = w3.heap[q]? := fun q hq => by rw [hV3]; exact Below.heap_setCell _ _ _ _ hq
  have lV : X.heap.size + 3 ≤ V2.heap.size := by have := E2.out.2.2; have := HZ.out; omega
  have u := (Y2.out.later b).1 4 _ rfl
  have uf := (Y2.out.later b).2.1 4
  have E3 : Hid (Below (X.heap.size + 2) V0 V3 ∧ Below X.heap.size X V3 ∧ V0.heap.size ≤ V3.heap.size) := by
    refine ⟨?_, ?_, by have := b.size; have := E2.out.2.2; omega⟩
    · rw [hV3]; exact (E2.out.1.trans (b.mono (by omega))).setCell (p := ⟨X.heap.size + 2, 4, none⟩) (Nat.le_refl _) _
    · rw [hV3]; exact (E2.out.2.1.trans (b.mono (by omega))).setCell (p := ⟨X.heap.size + 2, 4, none⟩) (by show X.heap.size ≤ X.heap.size + 2; omega) _
  have Y3 : Hid (Bx V3 (X.heap.size + 2) [.int .i64 k.config, .int .i64 k.clock, .slice (some ⟨V0.heap.size, 0, none⟩) k.places.length k.places.length, .slice (some ⟨V1.heap.size, 0, none⟩) k.machines.length k.machines.length, .slice (some ⟨V2.heap.size, 0, none⟩) k.txs.length k.txs.length, .bool false]) := by rw [hV3]; exact (Y2.out.later b).set (i := 4) (by simp) _
  have O1' : Hid (KP.Ow V3 V0.heap.size (some ⟨V0.heap.size, 0, none⟩) k.places P1) := (O1.out.later b).keep (Nat.le_of_eq sV.symm) (fun q hq => kV q (by have := ((O1.out.later b).of hq).1; have := HZ.out; have := E0.out.2.2; omega))
  have O2' : Hid (KMk.OwS V3 V1.heap.size (some ⟨V1.heap.size, 0, none⟩) k.machines P2) := (O2.out.later b).keep (Nat.le_of_eq sV.symm) (fun q hq => kV q (by have := ((O2.out.later b).of hq).1; have := HZ.out; have := E1.out.2.2; omega))
  have O3' : Hid (KTk.OwS V3 V2.heap.size (some ⟨V2.heap.size, 0, none⟩) k.txs P3) := o3.keep (Nat.le_of_eq sV.symm) (fun q hq => kV q (by have := (o3.of hq).1; have := HZ.out; have := E2.out.2.2; omega))
  have O1 := O1'
  clear O1'
  have O2 := O2'
  clear O2'
  have O3 := O3'
  clear O3'
  have Zb3 : Hid (V2.heap.size ≤ w3.heap.size ∧ w3.heap.size = V3.heap.size ∧ (∀ q, P3 q → V2.heap.size ≤ q ∧ q < w3.heap.size)) := ⟨b.size, sV.symm, fun q hq => o3.of hq⟩
  clear o3 b sV kV lV
  have A5 := (FA.out.under E3.out.1 (by omega)).1 5 _ rfl
  rw [hV3] at A5
  obtain ⟨V4, hV4⟩ : ∃ Y, Y = V3.setCell ⟨X.heap.size + 2, 5, none⟩ (.bool k.lost) := ⟨_, rfl⟩
  have Y4 : Hid (Bx V4 (X.heap.size + 2) [.int .i64 k.config, .int .i64 k.clock, .slice (some ⟨V0.heap.size, 0, none⟩) k.places.length k.places.length, .slice (some ⟨V1.heap.size, 0, none⟩) k.machines.length k.machines.length, .slice (some ⟨V2.heap.size, 0, none⟩) k.txs.length k.txs.length, .bool k.lost]) := by rw [hV4]; exact Y3.out.set (i := 5) (by simp) _
  have v5 := Y3.out.1 5 _ rfl
  have v5f := Y3.out.2.1 5
  rw [hV3] at v5 v5f hV4
  have ZZ : Hid (Bx V4 (X.heap.size + 1) [.int .i64 0, .int .i64 0, .slice none 0 0, .slice none 0 0, .slice none 0 0, .bool false]) := by rw [hV4, ← hV3]; exact (FZ.out.under E3.out.1 (by omega)).far (by omega) _
  have s4 : V4.heap.size = V3.heap.size := by rw [hV4, ← hV3]; simp [World.setCell]
  have k4 : ∀ q, q ≠ X.heap.size + 2 → V4.heap[q]? = V3.heap[q]? := fun q hq => by rw [hV4, ← hV3]; exact Below.heap_setCell _ _ _ _ hq
  have B4 : Hid (Below X.heap.size X V4) := by rw [hV4, ← hV3]; exact E3.out.2.1.setCell (p := ⟨X.heap.size + 2, 5, none⟩) (by show X.heap.size ≤ X.heap.size + 2; omega) _
  have KK : Hid (V4.heap.size = V3.heap.size ∧ (∀ q, q ≠ X.heap.size + 2 → V4.heap[q]? = V3.heap[q]?)) := ⟨s4, k4⟩
  clear s4 k4
  go_upto_region 8 with fail
  rw [← hV4]
  clear hV4 hV3 A5 v5 v5f u uf
  have y0 := Y4.out.1 0 _ rfl
  have z0 := ZZ.out.1 0 _ rfl
  have zf0 := ZZ.out.2.1 0
  have y1 := Y4.out.1 1 _ rfl
  have z1 := ZZ.out.1 1 _ rfl
  have zf1 := ZZ.out.2.1 1
  have y2 := Y4.out.1 2 _ rfl
  have z2 := ZZ.out.1 2 _ rfl
  have zf2 := ZZ.out.2.1 2
  have y3 := Y4.out.1 3 _ rfl
  have z3 := ZZ.out.1 3 _ rfl
  have zf3 := ZZ.out.2.1 3
  have y4 := Y4.out.1 4 _ rfl
  have z4 := ZZ.out.1 4 _ rfl
  have zf4 := ZZ.out.2.1 4
  have y5 := Y4.out.1 5 _ rfl
  have z5 := ZZ.out.1 5 _ rfl
  have zf5 := ZZ.out.2.1 5
  have BP := ZZ.out.put [.int .i64 k.config, .int .i64 k.clock, .slice (some ⟨V0.heap.size, 0, none⟩) k.places.length k.places.length, .slice (some ⟨V1.heap.size, 0, none⟩) k.machines.length k.machines.length, .slice (some ⟨V2.heap.size, 0, none⟩) k.txs.length k.txs.length, .bool k.lost] rfl
  have r0 := BP.1 0 _ rfl
  have r1 := BP.1 1 _ rfl
  have r2 := BP.1 2 _ rfl
  have r3 := BP.1 3 _ rfl
  have r4 := BP.1 4 _ rfl
  have r5 := BP.1 5 _ rfl
  simp only [putB, Nat.zero_add] at r0 r1 r2 r3 r4 r5
  have KR := tx.hidOf (And.intro r0 (And.intro r1 (And.intro r2 (And.intro r3 (And.intro r4 r5)))))
  clear BP r0 r1 r2 r3 r4 r5
  go_wp2
  obtain ⟨r0, r1, r2, r3, r4, r5⟩ := KR.out
  refine bodyPost_ret (v := .agg #[.int .i64 k.config, .int .i64 k.clock, .slice (some ⟨V0.heap.size, 0, none⟩) k.places.length k.places.length, .slice (some ⟨V1.heap.size, 0, none⟩) k.machines.length k.machines.length, .slice (some ⟨V2.heap.size, 0, none⟩) k.txs.length k.txs.length, .bool k.lost]) (by simp [results, Tryz.results11, go_sem, r0, r1, r2, r3, r4, r5]) rfl ?_
  obtain ⟨s4, k4⟩ := KK.out
  obtain ⟨n1, n2, n3⟩ := Zb1.out
  obtain ⟨m1, m2, m3⟩ := Zb2.out
  obtain ⟨l1, l2, l3⟩ := Zb3.out
  have hz := HZ.out
  have hw : ∀ q, q ≠ X.heap.size + 1 → q ≠ X.heap.size + 2 → (putB V4 (X.heap.size + 1) 0 [.int .i64 k.config, .int .i64 k.clock, .slice (some ⟨V0.heap.size, 0, none⟩) k.places.length k.places.length, .slice (some ⟨V1.heap.size, 0, none⟩) k.machines.length k.machines.length, .slice (some ⟨V2.heap.size, 0, none⟩) k.txs.length k.txs.length, .bool k.lost]).heap[q]? = V3.heap[q]? := fun q h1 h2 => (putB_block h1 _ _ _).trans (k4 q h2)
  have hws : V3.heap.size ≤ (putB V4 (X.heap.size + 1) 0 [.int .i64 k.config, .int .i64 k.clock, .slice (some ⟨V0.heap.size, 0, none⟩) k.places.length k.places.length, .slice (some ⟨V1.heap.size, 0, none⟩) k.machines.length k.machines.length, .slice (some ⟨V2.heap.size, 0, none⟩) k.txs.length k.txs.length, .bool k.lost]).heap.size := by rw [putB_size]; omega
  refine ⟨_, _, _, _, _, _, fun q => P1 q ∨ P2 q ∨ P3 q, rfl, ⟨⟨P1, P2, P3, ?_, ?_, ?_, fun q h => .inl h, fun q h => .inr (.inl h), fun q h => .inr (.inr h), fun q h h' => ?_, fun q h h' => ?_, fun q h h' => ?_⟩, fun q hq => ?_⟩, putB_below (by omega) [.int .i64 k.config, .int .i64 k.clock, .slice (some ⟨V0.heap.size, 0, none⟩) k.places.length k.places.length, .slice (some ⟨V1.heap.size, 0, none⟩) k.machines.length k.machines.length, .slice (some ⟨V2.heap.size, 0, none⟩) k.txs.length k.txs.length, .bool k.lost] _ _ B4.out⟩
  · exact (O1.out.keep (w' := putB V4 (X.heap.size + 1) 0 [.int .i64 k.config, .int .i64 k.clock, .slice (some ⟨V0.heap.size, 0, none⟩) k.places.length k.places.length, .slice (some ⟨V1.heap.size, 0, none⟩) k.machines.length k.machines.length, .slice (some ⟨V2.heap.size, 0, none⟩) k.txs.length k.txs.length, .bool k.lost]) hws (fun q hq => by have := n3 q hq; exact hw q (by omega) (by omega))).low (by omega)
  · exact (O2.out.keep (Y := putB V4 (X.heap.size + 1) 0 [.int .i64 k.config, .int .i64 k.clock, .slice (some ⟨V0.heap.size, 0, none⟩) k.places.length k.places.length, .slice (some ⟨V1.heap.size, 0, none⟩) k.machines.length k.machines.length, .slice (some ⟨V2.heap.size, 0, none⟩) k.txs.length k.txs.length, .bool k.lost]) hws (fun q hq => by have := m3 q hq; exact hw q (by omega) (by omega))).low (by omega)
  · exact (O3.out.keep (Y := putB V4 (X.heap.size + 1) 0 [.int .i64 k.config, .int .i64 k.clock, .slice (some ⟨V0.heap.size, 0, none⟩) k.places.length k.places.length, .slice (some ⟨V1.heap.size, 0, none⟩) k.machines.length k.machines.length, .slice (some ⟨V2.heap.size, 0, none⟩) k.txs.length k.txs.length, .bool k.lost]) hws (fun q hq => by have := l3 q hq; exact hw q (by omega) (by omega))).low (by omega)
  · have := n3 q h; have := m3 q h'; omega
  · have := n3 q h; have := l3 q h'; omega
  · have := m3 q h; have := l3 q h'; omega
  · show X.heap.size ≤ q ∧ q < (putB V4 (X.heap.size + 1) 0 [.int .i64 k.config, .int .i64 k.clock, .slice (some ⟨V0.heap.size, 0, none⟩) k.places.length k.places.length, .slice (some ⟨V1.heap.size, 0, none⟩) k.machines.length k.machines.length, .slice (some ⟨V2.heap.size, 0, none⟩) k.txs.length k.txs.length, .bool k.lost]).heap.size
    rw [putB_size]
    rcases hq with hq | hq | hq
    · have := n3 q hq; omega
    · have := m3 q hq; omega
    · have := l3 q hq; omega
set_option maxRecDepth 100000 in
set_option maxHeartbeats 4000000 in
theorem KCl.eq (X : World) (a1 : Option Addr) (c1 : Nat) (a2 : Option Addr) (c2 : Nat) (a3 : Option Addr) (c3 : Nat) (a1' : Option Addr) (c1' : Nat) (a2' : Option Addr) (c2' : Nat) (a3' : Option Addr) (c3' : Nat) (k : C6) (ht : KCl.S k) (h1 : KCl.Rd X a1 c1 a2 c2 a3 c3 k) (h2 : KCl.Rd X a1' c1' a2' c2' a3' c3' k) : Calls Tryz.prog 13 #[.agg #[.int .i64 k.config, .int .i64 k.clock, .slice a1 k.places.length c1, .slice a2 k.machines.length c2, .slice a3 k.txs.length c3, .bool k.lost], .agg #[.int .i64 k.config, .int .i64 k.clock, .slice a1' k.places.length c1', .slice a2' k.machines.length c2', .slice a3' k.txs.length c3', .bool k.lost]] X fun e w' => e = .returned (.bool true) ∧ Below X.heap.size X w' := by
  obtain ⟨U0, hU0⟩ : ∃ Y, Y = X.alloc (.cells #[.int .i64 k.config, .int .i64 k.clock, .slice a1 k.places.length c1, .slice a2 k.machines.length c2, .slice a3 k.txs.length c3, .bool k.lost] 32) := ⟨_, rfl⟩
  have b0 : Below X.heap.size X U0 := by rw [hU0]; exact (Below.refl _ _).alloc (Nat.le_refl _) _
  have x0 : Bx U0 X.heap.size [.int .i64 k.config, .int .i64 k.clock, .slice a1 k.places.length c1, .slice a2 k.machines.length c2, .slice a3 k.txs.length c3, .bool k.lost] := by rw [hU0]; exact Bx.made X [.int .i64 k.config, .int .i64 k.clock, .slice a1 k.places.length c1, .slice a2 k.machines.length c2, .slice a3 k.txs.length c3, .bool k.lost] _
  have z0 : U0.heap.size = X.heap.size + 1 := by rw [hU0]; simp
  obtain ⟨U, hU⟩ : ∃ Y, Y = U0.alloc (.cells #[.int .i64 k.config, .int .i64 k.clock, .slice a1' k.places.length c1', .slice a2' k.machines.length c2', .slice a3' k.txs.length c3', .bool k.lost] 32) := ⟨_, rfl⟩
  have b1 : Below U0.heap.size U0 U := by rw [hU]; exact (Below.refl _ _).alloc (Nat.le_refl _) _
  have x1 : Bx U U0.heap.size [.int .i64 k.config, .int .i64 k.clock, .slice a1' k.places.length c1', .slice a2' k.machines.length c2', .slice a3' k.txs.length c3', .bool k.lost] := by rw [hU]; exact Bx.made U0 [.int .i64 k.config, .int .i64 k.clock, .slice a1' k.places.length c1', .slice a2' k.machines.length c2', .slice a3' k.txs.length c3', .bool k.lost] _
  rw [z0] at x1
  have bU : Below X.heap.size X U := bstep b0 b1
  have FA : Hid (Bx U X.heap.size [.int .i64 k.config, .int .i64 k.clock, .slice a1 k.places.length c1, .slice a2 k.machines.length c2, .slice a3 k.txs.length c3, .bool k.lost]) := x0.later b1
  have FB : Hid (Bx U (X.heap.size + 1) [.int .i64 k.config, .int .i64 k.clock, .slice a1' k.places.length c1', .slice a2' k.machines.length c2', .slice a3' k.txs.length c3', .bool k.lost]) := x1
  have HR : Hid (KCl.Rd U a1 c1 a2 c2 a3 c3 k ∧ KCl.Rd U a1' c1' a2' c2' a3' c3' k ∧ KCl.S k ∧ Below X.heap.size X U) := ⟨h1.later bU, h2.later bU, ht, bU⟩
  rw [hU0] at hU
  clear b0 x0 z0 b1 x1 bU hU0 h1 h2 ht
  have d0 : (k.config != k.config) = false := by simp
  have d1 : (k.clock != k.clock) = false := by simp
  have d5 : (k.lost != k.lost) = false := by simp
  have p0 := FA.out.1 0 _ rfl
  have p1 := FA.out.1 1 _ rfl
  have p2 := FA.out.1 2 _ rfl
  have r0 := FB.out.1 0 _ rfl
  have r1 := FB.out.1 1 _ rfl
  have r2 := FB.out.1 2 _ rfl
  rw [hU] at p0 p1 p2 r0 r1 r2
  go_enter Tryz.func13, Tryz.ntmps13
  go_wp2_with fail
  rw [← hU]
  clear hU p0 p1 p2 r0 r1 r2
  refine (eqPlaceS_any U a1 a1' k.places.length c1 c1' k.places (by have := HR.out.2.2.1.p; unfold maxLen; omega) (fun z hz => by have := HR.out.2.2.1.ps z hz; unfold maxLen; omega) HR.out.1.p HR.out.2.1.p).mono ?_
  rintro e w1 ⟨rfl, b1⟩
  have B1 := tx.hidOf b1
  clear b1
  have p3 := (FA.out.later B1.out).1 3 _ rfl
  have r3 := (FB.out.later B1.out).1 3 _ rfl
  go_wp2_with fail
  refine (KMS.eq w1 a2 a2' c2 c2' k.machines HR.out.2.2.1.m HR.out.2.2.1.ms (HR.out.1.later B1.out).m (HR.out.2.1.later B1.out).m).mono ?_
  rintro e w2 ⟨rfl, b2⟩
  have B2 : Hid (Below U.heap.size U w2) := bstep B1.out b2
  clear b2 p3 r3
  have p4 := (FA.out.later B2.out).1 4 _ rfl
  have r4 := (FB.out.later B2.out).1 4 _ rfl
  go_wp2_with fail
  refine (KTS.eq w2 a3 a3' c3 c3' k.txs HR.out.2.2.1.t HR.out.2.2.1.ts (HR.out.1.later B2.out).t (HR.out.2.1.later B2.out).t).mono ?_
  rintro e w3 ⟨rfl, b3⟩
  have B3 : Hid (Below U.heap.size U w3) := bstep B2.out b3
  clear b3 p4 r4
  have p5 := (FA.out.later B3.out).1 5 _ rfl
  have r5 := (FB.out.later B3.out).1 5 _ rfl
  go_wp2
  go_ret
  exact ⟨rfl, bstep HR.out.2.2.2 B3.out⟩
end Go.Proofs.YtnhjgomfkfehgaaGreatDoor
namespace Go.Proofs.YtnhjgomfkfehgaaGreatDoor
open Go.RowKit
open Go.Sort (grow)
theorem KCl.Ow.low {w : World} {B B' : Nat} {a1 : Option Addr} {c1 : Nat} {a2 : Option Addr} {c2 : Nat} {a3 : Option Addr} {c3 : Nat} {k : C6} {P : Nat → Prop} (h : KCl.Ow w B a1 c1 a2 c2 a3 c3 k P) (hb : B' ≤ B) : KCl.Ow w B' a1 c1 a2 c2 a3 c3 k P := by
  obtain ⟨⟨P1, P2, P3, h1, h2, h3, h4⟩, h5⟩ := h
  exact ⟨⟨P1, P2, P3, h1.low hb, h2.low hb, h3.low hb, h4⟩, fun q hq => ⟨Nat.le_trans hb (h5 q hq).1, (h5 q hq).2⟩⟩
set_option maxRecDepth 100000 in
set_option maxHeartbeats 2000000 in
theorem face_Commit (w : World) (b1 b2 : Nat) (k : C6) (n : Int) (hg : HG w)
    (hC : ∀ X, X = (w.alloc (.cells #[.int .i64 0, .int .i64 0, .slice none 0 0, .slice none 0 0, .slice none 0 0, .bool false] 32)).alloc (.cells #[.int .i64 0] 2) → Calls Tryz.prog 74 #[.pointer (some ⟨b1, 0, none⟩), .pointer (some ⟨b2, 0, none⟩)] X (DAns X k n)) :
    Calls Tryz.prog 38 #[.func (.func 74) #[] #[.pointer (some ⟨b1, 0, none⟩), .pointer (some ⟨b2, 0, none⟩)]] w (FcAns w k n) := by
  have hmf : ∀ (fn : Fn) (first cap : Array Value) (w : World), (Instr.makeFunc fn first cap).run Tryz.prog w = .ok (.func fn first cap) w := fun _ _ _ _ => rfl
  obtain ⟨W1, hW1⟩ : ∃ X, X = (w.alloc (.cells #[.int .i64 0, .int .i64 0, .slice none 0 0, .slice none 0 0, .slice none 0 0, .bool false] 32)).alloc (.cells #[.int .i64 0] 2) := ⟨_, rfl⟩
  have hc := hC W1 hW1
  have b1' : Below w.heap.size w W1 := by rw [hW1]; exact ((Below.refl _ _).alloc (Nat.le_refl _) _).alloc (by simp) _
  have s1 : W1.heap.size = w.heap.size + 2 := by rw [hW1]; simp
  have x0 : Bx W1 w.heap.size [.int .i64 0, .int .i64 0, .slice none 0 0, .slice none 0 0, .slice none 0 0, .bool false] := by
    have := (Bx.made w [.int .i64 0, .int .i64 0, .slice none 0 0, .slice none 0 0, .slice none 0 0, .bool false] 32).later ((Below.refl _ _).alloc (Nat.le_refl _) (.cells #[.int .i64 0] 2))
    rw [hW1]; exact this
  have x1 : Bx W1 (w.heap.size + 1) [.int .i64 0] := by
    have h := Bx.made (w.alloc (.cells #[.int .i64 0, .int .i64 0, .slice none 0 0, .slice none 0 0, .slice none 0 0, .bool false] 32)) [.int .i64 0] 2
    rw [show (w.alloc (.cells #[.int .i64 0, .int .i64 0, .slice none 0 0, .slice none 0 0, .slice none 0 0, .bool false] 32)).heap.size = w.heap.size + 1 by simp] at h
    rw [hW1]; exact h
  have K : Hid (Below w.heap.size w W1 ∧ W1.heap.size = w.heap.size + 2 ∧ Bx W1 w.heap.size [.int .i64 0, .int .i64 0, .slice none 0 0, .slice none 0 0, .slice none 0 0, .bool false] ∧ Bx W1 (w.heap.size + 1) [.int .i64 0] ∧ HG W1) := ⟨b1', s1, x0, x1, hg.later b1'⟩
  clear b1' s1 x0 x1 hC hg
  go_enter_defers Tryz.func38, Tryz.ntmps38
  go_wp2_with fail
  rw [← hW1]
  clear hW1
  refine hc.mono ?_
  clear hc
  rintro e w2 ⟨a1, c1, a2, c2, a3, c3, P, hend, how, b2'⟩
  obtain ⟨k1, k2, k3, k4, k5⟩ := K.out
  have y0 := k3.later b2'
  have y1 := k4.later b2'
  have bw2 := bstep k1 b2'
  have hs2 := b2'.size
  rcases hend with ⟨rfl, rfl⟩ | ⟨hn, rfl⟩
  · obtain ⟨Y, hY⟩ : ∃ Y, Y = (putB w2 w.heap.size 0 [.int .i64 k.config, .int .i64 k.clock, .slice a1 k.places.length c1, .slice a2 k.machines.length c2, .slice a3 k.txs.length c3, .bool k.lost]).setCell ⟨w.heap.size + 1, 0, none⟩ (.int .i64 0) := ⟨_, rfl⟩
    have KE : Hid (FcAns w k 0 (.returned (.tuple #[.agg #[.int .i64 k.config, .int .i64 k.clock, .slice a1 k.places.length c1, .slice a2 k.machines.length c2, .slice a3 k.txs.length c3, .bool k.lost], .int .i64 0])) Y) := ⟨a1, c1, a2, c2, a3, c3, P, rfl, by rw [hY]; exact (KCl.Ow.low how (by omega)).keep (by simp [World.setCell, putB_size]) (fun q hq => (Below.heap_setCell _ _ _ _ (show q ≠ w.heap.size + 1 by have := (how.of hq).1; omega)).trans (putB_block (show q ≠ w.heap.size by have := (how.of hq).1; omega) _ _ _)), by rw [hY]; exact (putB_below (w := w) (Nat.le_refl _) _ _ _ bw2).setCell (p := ⟨w.heap.size + 1, 0, none⟩) (by show w.heap.size ≤ w.heap.size + 1; omega) _⟩
    have yb : Bx Y w.heap.size [.int .i64 k.config, .int .i64 k.clock, .slice a1 k.places.length c1, .slice a2 k.machines.length c2, .slice a3 k.txs.length c3, .bool k.lost] := by rw [hY]; exact (y0.put [.int .i64 k.config, .int .i64 k.clock, .slice a1 k.places.length c1, .slice a2 k.machines.length c2, .slice a3 k.txs.length c3, .bool k.lost] rfl).far (by omega) _
    have t0 : Y.cell? ⟨w.heap.size + 1, 0, none⟩ = some (.int .i64 0) := by rw [hY]; exact cell_set_same ((World.cell?_of_block (a := ⟨w.heap.size + 1, 0, none⟩) (putB_block (show w.heap.size + 1 ≠ w.heap.size by omega) _ _ _)).trans (y1.1 0 _ rfl))
    have z0 := yb.1 0 _ rfl
    have z1 := yb.1 1 _ rfl
    have z2 := yb.1 2 _ rfl
    have z3 := yb.1 3 _ rfl
    have z4 := yb.1 4 _ rfl
    have z5 := yb.1 5 _ rfl
    have r0 := y0.1 0 _ rfl
    have r1 := y0.1 1 _ rfl
    have r2 := y0.1 2 _ rfl
    have r3 := y0.1 3 _ rfl
    have r4 := y0.1 4 _ rfl
    have r5 := y0.1 5 _ rfl
    have f0 := y0.2.1 0
    have f1 := y0.2.1 1
    have f2 := y0.2.1 2
    have f3 := y0.2.1 3
    have f4 := y0.2.1 4
    have f5 := y0.2.1 5
    have s0 := y1.1 0 _ rfl
    have g0 := y1.2.1 0
    simp only [putB] at hY
    clear y0 y1 bw2 how k1 k2 k3 k4 k5 b2' hs2 K yb
    go_wp2
    rw [← hY]
    clear hY r0 r1 r2 r3 r4 r5 f0 f1 f2 f3 f4 f5 s0 g0
    refine leaves_cons (f := 88) (args := #[.pointer (some ⟨w.heap.size, 0, none⟩), .pointer (some ⟨w.heap.size + 1, 0, none⟩)]) (by simp) (by simp [go_sem]) ?_
    refine (face1_idle w.heap.size (w.heap.size + 1) Y).mono ?_
    rintro e u' w'' ⟨rfl, rfl, rfl⟩
    simp only [Leaves, settle]
    refine ⟨.tuple #[.agg #[.int .i64 k.config, .int .i64 k.clock, .slice a1 k.places.length c1, .slice a2 k.machines.length c2, .slice a3 k.txs.length c3, .bool k.lost], .int .i64 0], by simp [results, Tryz.results38, go_sem, z0, z1, z2, z3, z4, z5, t0], KE.out⟩
  · have cF := face1_panicking w.heap.size (w.heap.size + 1) n k.config k.clock a1 k.places.length c1 a2 k.machines.length c2 a3 k.txs.length c3 k.lost [.int .i64 0, .int .i64 0, .slice none 0 0, .slice none 0 0, .slice none 0 0, .bool false] (.int .i64 0) w2 (k5.later b2') rfl y0 y1 (by omega)
    have KX : Hid (Bx w2 w.heap.size [.int .i64 0, .int .i64 0, .slice none 0 0, .slice none 0 0, .slice none 0 0, .bool false] ∧ Bx w2 (w.heap.size + 1) [.int .i64 0] ∧ Below w.heap.size w w2 ∧ KCl.Ow w2 W1.heap.size a1 c1 a2 c2 a3 c3 k P ∧ W1.heap.size = w.heap.size + 2) := ⟨y0, y1, bw2, how, k2⟩
    clear y0 y1 bw2 how k1 k2 k3 k4 k5 b2' hs2 K
    go_wp2
    refine leaves_cons (f := 88) (args := #[.pointer (some ⟨w.heap.size, 0, none⟩), .pointer (some ⟨w.heap.size + 1, 0, none⟩)]) (by simp) (by simp [go_sem]) ?_
    refine cF.mono ?_
    rintro e u' w3 ⟨rfl, rfl, X, bX, hY⟩
    obtain ⟨y0, y1, bw2, how, k2⟩ := KX.out
    have how' := how.later bX
    have y0' := y0.later bX
    have y1' := y1.later bX
    have KE : Hid (FcAns w k n (.returned (.tuple #[.agg #[.int .i64 k.config, .int .i64 k.clock, .slice a1 k.places.length c1, .slice a2 k.machines.length c2, .slice a3 k.txs.length c3, .bool k.lost], .int .i64 n])) w3) := ⟨a1, c1, a2, c2, a3, c3, P, rfl, by rw [hY]; exact (KCl.Ow.low how' (by omega)).keep (by simp [World.setCell, putB_size]) (fun q hq => (Below.heap_setCell _ _ _ _ (show q ≠ w.heap.size + 1 by have := (how.of hq).1; omega)).trans (putB_block (show q ≠ w.heap.size by have := (how.of hq).1; omega) _ _ _)), by rw [hY]; exact (putB_below (w := w) (Nat.le_refl _) _ _ _ (bstep bw2 bX)).setCell (p := ⟨w.heap.size + 1, 0, none⟩) (by show w.heap.size ≤ w.heap.size + 1; omega) _⟩
    have yb : Bx w3 w.heap.size [.int .i64 k.config, .int .i64 k.clock, .slice a1 k.places.length c1, .slice a2 k.machines.length c2, .slice a3 k.txs.length c3, .bool k.lost] := by rw [hY]; exact (y0'.put [.int .i64 k.config, .int .i64 k.clock, .slice a1 k.places.length c1, .slice a2 k.machines.length c2, .slice a3 k.txs.length c3, .bool k.lost] rfl).far (by omega) _
    have t0 : w3.cell? ⟨w.heap.size + 1, 0, none⟩ = some (.int .i64 n) := by rw [hY]; exact cell_set_same ((World.cell?_of_block (a := ⟨w.heap.size + 1, 0, none⟩) (putB_block (show w.heap.size + 1 ≠ w.heap.size by omega) _ _ _)).trans (y1'.1 0 _ rfl))
    have z0 := yb.1 0 _ rfl
    have z1 := yb.1 1 _ rfl
    have z2 := yb.1 2 _ rfl
    have z3 := yb.1 3 _ rfl
    have z4 := yb.1 4 _ rfl
    have z5 := yb.1 5 _ rfl
    simp only [settle]
    refine ⟨.tuple #[.agg #[.int .i64 k.config, .int .i64 k.clock, .slice a1 k.places.length c1, .slice a2 k.machines.length c2, .slice a3 k.txs.length c3, .bool k.lost], .int .i64 n], by simp [results, Tryz.results38, go_sem, z0, z1, z2, z3, z4, z5, t0], KE.out⟩
end Go.Proofs.YtnhjgomfkfehgaaGreatDoor
namespace Go.Proofs.YtnhjgomfkfehgaaGreatDoor
open Go.RowKit
set_option maxRecDepth 100000 in
set_option maxHeartbeats 4000000 in
theorem given_any (w : World) (p : Nat) (alive : Bool) (al : Option Addr) (nl cl : Nat) (ac : Option Addr) (nc cc : Nat) (ad : Option Addr) (nd cd : Nat) (h0 : w.cell? ⟨p, 0, none⟩ = some (.slice al nl cl)) (h1 : w.cell? ⟨p, 1, none⟩ = some (.bool alive)) (h2 : w.cell? ⟨p, 2, none⟩ = some (.slice ac nc cc)) (h3 : w.cell? ⟨p, 3, none⟩ = some (.slice ad nd cd)) (hp : p < w.heap.size) :
    Calls Tryz.prog 150 #[.pointer (some ⟨p, 0, none⟩)] w fun e w' => e = .returned (.agg #[.bool alive, .slice ac nc cc, .slice al nl cl, .slice ad nd cd]) ∧ Below w.heap.size w w' := by
  obtain ⟨W, hW⟩ : ∃ W, W = (w.alloc (.cells #[.bool false, .slice none 0 0, .slice none 0 0, .slice none 0 0] 62)).drew := ⟨_, rfl⟩
  have bW : Below w.heap.size w W := by subst hW; exact ((Below.refl _ _).alloc (Nat.le_refl _) _).drew
  have hS : (fun X : World => X.cell? ⟨p, 0, none⟩ = some (.slice al nl cl) ∧ X.cell? ⟨p, 1, none⟩ = some (.bool alive) ∧ X.cell? ⟨p, 2, none⟩ = some (.slice ac nc cc) ∧ X.cell? ⟨p, 3, none⟩ = some (.slice ad nd cd)) W := ⟨(bW.cell (p := ⟨p, 0, none⟩) hp).trans h0, (bW.cell (p := ⟨p, 1, none⟩) hp).trans h1, (bW.cell (p := ⟨p, 2, none⟩) hp).trans h2, (bW.cell (p := ⟨p, 3, none⟩) hp).trans h3⟩
  have hz : W.heap[w.heap.size]? = some (.cells #[.bool false, .slice none 0 0, .slice none 0 0, .slice none 0 0] 62 (0, 0)) := by subst hW; exact heap_alloc_new w _
  obtain ⟨z0, z1, z2, z3, zf⟩ := zeroBoxM hz
  have f0 := zf 0
  have f1 := zf 1
  have f2 := zf 2
  have f3 := zf 3
  have KB := hidOf bW
  clear bW h0 h1 h2 h3 zf hz
  go_enter Tryz.func150, Tryz.ntmps150
  go_wp2_with fail
  refine wp_region_until 18 (fun X : World => X.cell? ⟨p, 0, none⟩ = some (.slice al nl cl) ∧ X.cell? ⟨p, 1, none⟩ = some (.bool alive) ∧ X.cell? ⟨p, 2, none⟩ = some (.slice ac nc cc) ∧ X.cell? ⟨p, 3, none⟩ = some (.slice ad nd cd)) (by kernel_rfl) ?_
  rw [← hW]
  clear hW
  refine wpUntil_take (i := 0) (v := ?_) rfl (by kernel_rfl) (fun _ _ _ h => h) (Or.inl ⟨by rfl, ?_⟩) hS ?_
  rotate_left
  · (intro w hSw; obtain ⟨sw1, sw2, sw3, sw4⟩ := hSw; go_simp; first | done | with_reducible rfl | exact sw1 | exact sw2 | exact sw3 | exact sw4)
  simp only [Act.put]
  refine wpUntil_take (i := 1) (v := ?_) rfl (by kernel_rfl) (fun _ _ _ h => h) (Or.inl ⟨by rfl, ?_⟩) hS ?_
  rotate_left
  · (intro w hSw; obtain ⟨sw1, sw2, sw3, sw4⟩ := hSw; go_simp; first | done | with_reducible rfl | exact sw1 | exact sw2 | exact sw3 | exact sw4)
  simp only [Act.put]
  refine wpUntil_take (i := 2) (v := ?_) rfl (by kernel_rfl) (fun _ _ _ h => h) (Or.inl ⟨by rfl, ?_⟩) hS ?_
  rotate_left
  · (intro w hSw; obtain ⟨sw1, sw2, sw3, sw4⟩ := hSw; go_simp; first | done | with_reducible rfl | exact sw1 | exact sw2 | exact sw3 | exact sw4)
  simp only [Act.put]
  refine wpUntil_take (i := 3) (v := ?_) rfl (by kernel_rfl) (fun _ _ _ h => h) (Or.inl ⟨by rfl, ?_⟩) hS ?_
  rotate_left
  · (intro w hSw; obtain ⟨sw1, sw2, sw3, sw4⟩ := hSw; go_simp; first | done | with_reducible rfl | exact sw1 | exact sw2 | exact sw3 | exact sw4)
  simp only [Act.put]
  refine wpUntil_take (i := 4) (v := ?_) rfl (by kernel_rfl) (fun _ _ _ h => h) (Or.inl ⟨by rfl, ?_⟩) hS ?_
  rotate_left
  · (intro w hSw; obtain ⟨sw1, sw2, sw3, sw4⟩ := hSw; go_simp; first | done | with_reducible rfl | exact sw1 | exact sw2 | exact sw3 | exact sw4)
  simp only [Act.put]
  refine wpUntil_take (i := 5) (v := ?_) rfl (by kernel_rfl) (fun _ _ _ h => h) (Or.inl ⟨by rfl, ?_⟩) hS ?_
  rotate_left
  · (intro w hSw; obtain ⟨sw1, sw2, sw3, sw4⟩ := hSw; go_simp; first | done | with_reducible rfl | exact sw1 | exact sw2 | exact sw3 | exact sw4)
  simp only [Act.put]
  refine wpUntil_take (i := 6) (v := ?_) rfl (by kernel_rfl) (fun _ _ _ h => h) (Or.inl ⟨by rfl, ?_⟩) hS ?_
  rotate_left
  · (intro w hSw; obtain ⟨sw1, sw2, sw3, sw4⟩ := hSw; go_simp; first | done | with_reducible rfl | exact sw1 | exact sw2 | exact sw3 | exact sw4)
  simp only [Act.put]
  refine wpUntil_take (i := 7) (v := ?_) rfl (by kernel_rfl) (fun _ _ _ h => h) (Or.inl ⟨by rfl, ?_⟩) hS ?_
  rotate_left
  · (intro w hSw; obtain ⟨sw1, sw2, sw3, sw4⟩ := hSw; go_simp; first | done | with_reducible rfl | exact sw1 | exact sw2 | exact sw3 | exact sw4)
  simp only [Act.put]
  refine wpUntil_take (i := 8) (v := ?_) rfl (by kernel_rfl) (fun _ _ _ h => h) (Or.inl ⟨by rfl, ?_⟩) hS ?_
  rotate_left
  · (intro w hSw; obtain ⟨sw1, sw2, sw3, sw4⟩ := hSw; go_simp; first | done | with_reducible rfl | exact sw1 | exact sw2 | exact sw3 | exact sw4)
  simp only [Act.put]
  refine wpUntil_take (i := 9) (v := ?_) rfl (by kernel_rfl) (fun _ _ _ h => h) (Or.inl ⟨by rfl, ?_⟩) hS ?_
  rotate_left
  · (intro w hSw; obtain ⟨sw1, sw2, sw3, sw4⟩ := hSw; go_simp; first | done | with_reducible rfl | exact sw1 | exact sw2 | exact sw3 | exact sw4)
  simp only [Act.put]
  refine wpUntil_take (i := 10) (v := ?_) rfl (by kernel_rfl) (fun _ _ _ h => h) (Or.inl ⟨by rfl, ?_⟩) hS ?_
  rotate_left
  · (intro w hSw; obtain ⟨sw1, sw2, sw3, sw4⟩ := hSw; go_simp; first | done | with_reducible rfl | exact sw1 | exact sw2 | exact sw3 | exact sw4)
  simp only [Act.put]
  refine wpUntil_take (i := 11) (v := ?_) rfl (by kernel_rfl) (fun _ _ _ h => h) (Or.inl ⟨by rfl, ?_⟩) hS ?_
  rotate_left
  · (intro w hSw; obtain ⟨sw1, sw2, sw3, sw4⟩ := hSw; go_simp; first | done | with_reducible rfl | exact sw1 | exact sw2 | exact sw3 | exact sw4)
  simp only [Act.put]
  refine wpUntil_take (i := 12) (v := ?_) rfl (by kernel_rfl) (fun _ _ _ h => h) (Or.inl ⟨by rfl, ?_⟩) hS ?_
  rotate_left
  · (intro w hSw; obtain ⟨sw1, sw2, sw3, sw4⟩ := hSw; go_simp; first | done | with_reducible rfl | exact sw1 | exact sw2 | exact sw3 | exact sw4)
  simp only [Act.put]
  refine wpUntil_take (i := 13) (v := ?_) rfl (by kernel_rfl) (fun _ _ _ h => h) (Or.inl ⟨by rfl, ?_⟩) hS ?_
  rotate_left
  · (intro w hSw; obtain ⟨sw1, sw2, sw3, sw4⟩ := hSw; go_simp; first | done | with_reducible rfl | exact sw1 | exact sw2 | exact sw3 | exact sw4)
  simp only [Act.put]
  refine wpUntil_take (i := 14) (v := ?_) rfl (by kernel_rfl) (fun _ _ _ h => h) (Or.inl ⟨by rfl, ?_⟩) hS ?_
  rotate_left
  · (intro w hSw; obtain ⟨sw1, sw2, sw3, sw4⟩ := hSw; go_simp; first | done | with_reducible rfl | exact sw1 | exact sw2 | exact sw3 | exact sw4)
  simp only [Act.put]
  refine wpUntil_take (i := 15) (v := ?_) rfl (by kernel_rfl) (fun _ _ _ h => h) (Or.inl ⟨by rfl, ?_⟩) hS ?_
  rotate_left
  · (intro w hSw; obtain ⟨sw1, sw2, sw3, sw4⟩ := hSw; go_simp; first | done | with_reducible rfl | exact sw1 | exact sw2 | exact sw3 | exact sw4)
  simp only [Act.put]
  refine wpUntil_take (i := 16) (v := ?_) rfl (by kernel_rfl) (fun _ _ _ h => h) (Or.inl ⟨by rfl, ?_⟩) hS ?_
  rotate_left
  · (intro w hSw; obtain ⟨sw1, sw2, sw3, sw4⟩ := hSw; go_simp; first | done | with_reducible rfl | exact sw1 | exact sw2 | exact sw3 | exact sw4)
  simp only [Act.put]
  refine wpUntil_take (i := 17) (v := ?_) rfl (by kernel_rfl) (fun _ _ _ h => h) (Or.inl ⟨by rfl, ?_⟩) hS ?_
  rotate_left
  · (intro w hSw; obtain ⟨sw1, sw2, sw3, sw4⟩ := hSw; go_simp; first | done | with_reducible rfl | exact sw1 | exact sw2 | exact sw3 | exact sw4)
  simp only [Act.put]
  refine wpUntil_ready (rs := [18]) (by kernel_rfl) (by simp) ?_
  refine AllU.cons rfl (fun K hK => ?_) AllU.nil
  go_simp
  refine hK.out _ _ (fun h => absurd rfl h) ?_
  clear hK K
  refine wpUntil_done (by kernel_rfl) ?_ _
  go_wp2
  refine bodyPost_ret (v := .agg #[.bool alive, .slice ac nc cc, .slice al nl cl, .slice ad nd cd]) (by simp [results, Tryz.results150, go_sem, z0, z1, z2, z3]) rfl ⟨rfl, ?_⟩
  exact (((KB.out.setCell (p := ⟨_, _, none⟩) (by simp) _).setCell (p := ⟨_, _, none⟩) (by simp) _).setCell (p := ⟨_, _, none⟩) (by simp) _).setCell (p := ⟨_, _, none⟩) (by simp) _
end Go.Proofs.YtnhjgomfkfehgaaGreatDoor
namespace Go.Proofs.YtnhjgomfkfehgaaGreatDoor.tx
open Go.RowKit
set_option maxRecDepth 100000 in
set_option maxHeartbeats 8000000 in
theorem ownTx_any (w : World) (v : TV) (t : T7) (hr : t.reads.length ≤ 1048576) (hss : t.sets.length ≤ 1048576) (h : SlT w v t) :
    Calls Tryz.prog 151 #[v.val t] w (OAns w t) := by
  obtain ⟨ar, cr, ah, ch⟩ := v
  simp only [TV.val]
  obtain ⟨W1, hW1⟩ : ∃ W1, W1 = w.alloc (.cells #[.int .i64 t.id, .int .i64 t.home, .int .i64 t.phase, .int .i64 t.count, .slice ar t.reads.length cr, .slice ah t.sets.length ch, .int .i64 t.stamp] 56) := ⟨_, rfl⟩
  have z1 : W1.heap.size = w.heap.size + 1 := by rw [hW1]; simp
  have x1 : BT W1 w.heap.size ⟨ar, cr, ah, ch⟩ t := by rw [hW1]; exact BT.box w ⟨ar, cr, ah, ch⟩ t _
  have b1 : Below w.heap.size w W1 := by rw [hW1]; exact (Below.refl _ _).alloc (Nat.le_refl _) _
  obtain ⟨W, hW⟩ : ∃ W2, W2 = W1.alloc (.cells #[.int .i64 0, .int .i64 0, .int .i64 0, .int .i64 0, .slice none 0 0, .slice none 0 0, .int .i64 0] 56) := ⟨_, rfl⟩
  have b2 : Below W1.heap.size W1 W := by rw [hW]; exact (Below.refl _ _).alloc (Nat.le_refl _) _
  have yR : BT W (w.heap.size + 1) ⟨none, 0, none, 0⟩ ⟨0, 0, 0, 0, [], [], 0⟩ := by rw [hW, ← z1]; exact BT.zero W1 _
  have sW : W.heap.size = w.heap.size + 2 := by rw [hW]; simp [z1]
  have yA : BT W w.heap.size ⟨ar, cr, ah, ch⟩ t := x1.later b2
  have bW : Below w.heap.size w W := b1.trans (b2.mono b1.size)
  have bV1 : Below W.heap.size W W := Below.refl _ _
  obtain ⟨a1, c1, Y1, run1, row1, gr1⟩ := copyNo (RowN.nil W W.heap.size) t.reads hr 53 ar cr ((h.later (bW.trans (bV1.mono bW.size))).r) bV1.size
  have bY1 : Below W.heap.size W Y1 := bV1.grown gr1 bV1.size (fun q e => by cases e)
  have yA1 : BT Y1 w.heap.size ⟨ar, cr, ah, ch⟩ t := yA.later bY1
  have yR1 := yR.later bY1
  have yA2 : BT (Y1.setCell ⟨w.heap.size, 4, none⟩ (.slice a1 t.reads.length c1)) w.heap.size ⟨a1, c1, ah, ch⟩ t := yA1.set4 a1 c1 t.reads
  have yR2 := yR1.far (p := ⟨w.heap.size, 4, none⟩) (by dsimp only; omega) (.slice a1 t.reads.length c1)
  have bX1 : Below w.heap.size w (Y1.setCell ⟨w.heap.size, 4, none⟩ (.slice a1 t.reads.length c1)) := (bW.trans (bY1.mono bW.size)).setCell (p := ⟨w.heap.size, 4, none⟩) (Nat.le_refl _) _
  have row1' : RowN (Y1.setCell ⟨w.heap.size, 4, none⟩ (.slice a1 t.reads.length c1)) W.heap.size (.slice a1 t.reads.length c1) t.reads := row1.keep (fun q hq _ _ => Below.heap_setCell _ _ _ _ (by show q ≠ w.heap.size; omega))
  have zX1 : (Y1.setCell ⟨w.heap.size, 4, none⟩ (.slice a1 t.reads.length c1)).heap.size = Y1.heap.size := by simp [World.setCell]
  have bV2 : Below (Y1.setCell ⟨w.heap.size, 4, none⟩ (.slice a1 t.reads.length c1)).heap.size (Y1.setCell ⟨w.heap.size, 4, none⟩ (.slice a1 t.reads.length c1)) (Y1.setCell ⟨w.heap.size, 4, none⟩ (.slice a1 t.reads.length c1)) := Below.refl _ _
  obtain ⟨a2, c2, Y2, run2, row2, gr2⟩ := copySe (RowS.nil (Y1.setCell ⟨w.heap.size, 4, none⟩ (.slice a1 t.reads.length c1)) (Y1.setCell ⟨w.heap.size, 4, none⟩ (.slice a1 t.reads.length c1)).heap.size) t.sets hss 54 ah ch ((h.later (bX1.trans (bV2.mono bX1.size))).s) bV2.size
  have bY2 : Below (Y1.setCell ⟨w.heap.size, 4, none⟩ (.slice a1 t.reads.length c1)).heap.size (Y1.setCell ⟨w.heap.size, 4, none⟩ (.slice a1 t.reads.length c1)) Y2 := bV2.grown gr2 bV2.size (fun q e => by cases e)
  have yA3 : BT Y2 w.heap.size ⟨a1, c1, ah, ch⟩ t := yA2.later bY2
  have yR3 := yR2.later bY2
  have yA4 : BT (Y2.setCell ⟨w.heap.size, 5, none⟩ (.slice a2 t.sets.length c2)) w.heap.size ⟨a1, c1, a2, c2⟩ t := yA3.set5 a2 c2 t.sets
  have yR4 := yR3.far (p := ⟨w.heap.size, 5, none⟩) (by dsimp only; omega) (.slice a2 t.sets.length c2)
  have bX2 : Below w.heap.size w (Y2.setCell ⟨w.heap.size, 5, none⟩ (.slice a2 t.sets.length c2)) := (bX1.trans (bY2.mono bX1.size)).setCell (p := ⟨w.heap.size, 5, none⟩) (Nat.le_refl _) _
  have row1'' : RowN (Y2.setCell ⟨w.heap.size, 5, none⟩ (.slice a2 t.sets.length c2)) W.heap.size (.slice a1 t.reads.length c1) t.reads := (row1'.later bY2).keep (fun q hq _ _ => Below.heap_setCell _ _ _ _ (by show q ≠ w.heap.size; omega))
  have hs1 : W.heap.size ≤ (Y1.setCell ⟨w.heap.size, 4, none⟩ (.slice a1 t.reads.length c1)).heap.size := by rw [zX1]; exact bY1.size
  have row2' : RowS (Y2.setCell ⟨w.heap.size, 5, none⟩ (.slice a2 t.sets.length c2)) (Y1.setCell ⟨w.heap.size, 4, none⟩ (.slice a1 t.reads.length c1)).heap.size (.slice a2 t.sets.length c2) t.sets := row2.keep (fun q hq _ _ => Below.heap_setCell _ _ _ _ (by show q ≠ w.heap.size; omega))
  have yR5 := yR4.put ⟨a1, c1, a2, c2⟩ t
  have p4 := yA.c4
  have k4 := yA1.c4
  have k4f := yA1.fz 4
  have p5 := (yA2.later bV2).c5
  have k5 := yA3.c5
  have k5f := yA3.fz 5
  dsimp only at p4 k4 p5 k5
  obtain ⟨o0, o1, o2, o3, o4, o5, o6, -, -⟩ := yA4
  have KR := yR4
  have hlt1 : ∀ q, (Value.slice a1 t.reads.length c1).ownBlock = some q → W.heap.size ≤ q ∧ q < (Y1.setCell ⟨w.heap.size, 4, none⟩ (.slice a1 t.reads.length c1)).heap.size := fun q e => row1'.lt e
  have KO : OT (Y2.setCell ⟨w.heap.size, 5, none⟩ (.slice a2 t.sets.length c2)) w.heap.size ⟨a1, c1, a2, c2⟩ t (fun q => (Value.slice a1 t.reads.length c1).ownBlock = some q) (fun q => (Value.slice a2 t.sets.length c2).ownBlock = some q) := by
    obtain ⟨_, _, e1, o1⟩ := row1''.form
    obtain ⟨_, _, e2, o2⟩ := row2'.form
    cases e1; cases e2
    exact ⟨o1, o2, fun q h1 h2 => by have := (hlt1 q h1).2; have := (row2'.lt h2).1; omega, fun q h1 => ⟨by have := (row1''.lt h1).1; omega, (row1''.lt h1).2⟩, fun q h1 => ⟨by have := (row2'.lt h1).1; omega, (row2'.lt h1).2⟩⟩
  have KH : Hid (OT (Y2.setCell ⟨w.heap.size, 5, none⟩ (.slice a2 t.sets.length c2)) w.heap.size ⟨a1, c1, a2, c2⟩ t (fun q => (Value.slice a1 t.reads.length c1).ownBlock = some q) (fun q => (Value.slice a2 t.sets.length c2).ownBlock = some q) ∧ Below w.heap.size w (Y2.setCell ⟨w.heap.size, 5, none⟩ (.slice a2 t.sets.length c2)) ∧ (∀ q, OfT (fun q => (Value.slice a1 t.reads.length c1).ownBlock = some q) (fun q => (Value.slice a2 t.sets.length c2).ownBlock = some q) q → w.heap.size + 2 ≤ q)) := ⟨KO, bX2, fun q hq => by
    rcases hq with hq | hq
    · have := (row1''.lt hq).1; omega
    · have := (row2'.lt hq).1; omega⟩
  simp only [putT] at yR5
  obtain ⟨u0, u1, u2, u3, u4, u5, u6, -, -⟩ := yR5
  have KX : Hid (((Y2.setCell ⟨w.heap.size, 5, none⟩ (.slice a2 t.sets.length c2)).cell? ⟨w.heap.size, 0, none⟩ = some (.int .i64 t.id) ∧ (Y2.setCell ⟨w.heap.size, 5, none⟩ (.slice a2 t.sets.length c2)).cell? ⟨w.heap.size, 1, none⟩ = some (.int .i64 t.home) ∧ (Y2.setCell ⟨w.heap.size, 5, none⟩ (.slice a2 t.sets.length c2)).cell? ⟨w.heap.size, 2, none⟩ = some (.int .i64 t.phase) ∧ (Y2.setCell ⟨w.heap.size, 5, none⟩ (.slice a2 t.sets.length c2)).cell? ⟨w.heap.size, 3, none⟩ = some (.int .i64 t.count) ∧ (Y2.setCell ⟨w.heap.size, 5, none⟩ (.slice a2 t.sets.length c2)).cell? ⟨w.heap.size, 4, none⟩ = some (.slice a1 t.reads.length c1) ∧ (Y2.setCell ⟨w.heap.size, 5, none⟩ (.slice a2 t.sets.length c2)).cell? ⟨w.heap.size, 5, none⟩ = some (.slice a2 t.sets.length c2) ∧ (Y2.setCell ⟨w.heap.size, 5, none⟩ (.slice a2 t.sets.length c2)).cell? ⟨w.heap.size, 6, none⟩ = some (.int .i64 t.stamp)) ∧ BT (Y2.setCell ⟨w.heap.size, 5, none⟩ (.slice a2 t.sets.length c2)) (w.heap.size + 1) ⟨none, 0, none, 0⟩ ⟨0, 0, 0, 0, [], [], 0⟩) := ⟨⟨o0, o1, o2, o3, o4, o5, o6⟩, KR⟩
  have KU := hidOf (And.intro u0 (And.intro u1 (And.intro u2 (And.intro u3 (And.intro u4 (And.intro u5 u6))))))
  have K1 := hidOf (And.intro k4 (And.intro k4f p5))
  have K2 := hidOf (And.intro k5 k5f)
  have R1 := hidOf run1
  have R2 := hidOf run2
  rw [hW1] at hW
  have sW2 : W.heap.size = w.heap.size + 1 + 1 := by omega
  clear sW
  clear hW1 x1 b1 b2 z1 yA yR bW bV1 bY1 row1 gr1 yA1 yR1 yA2 yR2 bX1 row1' bV2 row2 gr2 bY2 yA3 yR3 bX2 row1'' row2' hs1 hlt1 h KO KR o0 o1 o2 o3 o4 o5 o6 u0 u1 u2 u3 u4 u5 u6 k4 k4f p5 k5 k5f run1 run2
  go_enter Tryz.func151, Tryz.ntmps151
  have r1 := R1.out
  have r2 := R2.out
  skip
  skip
  rw [hW] at r1
  obtain ⟨k4, k4f, p5⟩ := K1.out
  obtain ⟨k5, k5f⟩ := K2.out
  obtain ⟨⟨o0, o1, o2, o3, o4, o5, o6⟩, ⟨r0, r1', r2', r3, r4, r5, r6, fr, -⟩⟩ := KX.out
  have f0 := fr 0
  have f1 := fr 1
  have f2 := fr 2
  have f3 := fr 3
  have f4 := fr 4
  have f5 := fr 5
  have f6 := fr 6
  clear fr K1 K2 KX R1 R2 hW p4 zX1 sW2
  go_wp2_with (first | (at_builtin; refine append_known _ rfl (.const (.slice none 0 0)) (.tmp 4) 53 rfl _ _ _ _ rfl rfl r1 ?_) | (at_builtin; refine append_known _ rfl (.const (.slice none 0 0)) (.tmp 8) 54 rfl _ _ _ _ rfl rfl r2 ?_))
  obtain ⟨u0, u1, u2, u3, u4, u5, u6⟩ := KU.out
  refine bodyPost_ret (v := .agg #[.int .i64 t.id, .int .i64 t.home, .int .i64 t.phase, .int .i64 t.count, .slice a1 t.reads.length c1, .slice a2 t.sets.length c2, .int .i64 t.stamp]) (by simp [results, Tryz.results151, go_sem, u0, u1, u2, u3, u4, u5, u6]) rfl ?_
  obtain ⟨ot, bX, q2⟩ := KH.out
  refine ⟨a1, c1, a2, c2, fun q => (Value.slice a1 t.reads.length c1).ownBlock = some q, fun q => (Value.slice a2 t.sets.length c2).ownBlock = some q, rfl, ?_, ?_⟩
  · exact ot.keep (by simp [World.setCell]) (fun q _ hq => putT_block (s := w.heap.size + 1) (v := ⟨a1, c1, a2, c2⟩) (t := t) (by have := q2 q hq; omega))
  · exact putT_below (s := w.heap.size + 1) (v := ⟨a1, c1, a2, c2⟩) (t := t) bX (by omega)
end Go.Proofs.YtnhjgomfkfehgaaGreatDoor.tx
namespace Go.Proofs.YtnhjgomfkfehgaaGreatDoor
open Go.RowKit
open Go.Sort (grow)
set_option maxHeartbeats 1000000 in
theorem clone_any (w : World) (b off cap : Nat) (zs : List Int) (hb : b < w.heap.size) (hs : NumsAt w b off zs) (hn : zs.length ≤ 1000) :
    Calls Tryz.prog 148 #[.slice (some ⟨b, off, none⟩) zs.length cap] w fun e w' => ∃ q cp, e = .returned (.slice (some ⟨q, 0, none⟩) zs.length cp) ∧ ON w' w.heap.size (.slice (some ⟨q, 0, none⟩) zs.length cp) zs ∧ Below w.heap.size w w' := by
  have bA : Below w.heap.size w (w.alloc (.cells #[] 2)) := (Below.refl _ _).alloc (Nat.le_refl _) _
  obtain ⟨v', W', hr, ho, hg, hl⟩ := on_append (w.alloc (.cells #[] 2)) w.heap.size _ [] zs b off cap 60 (ON.empty w) (hs.below bA hb) (by simp; omega) bA.size
  rw [List.nil_append] at ho
  have hb2 : Below w.heap.size w W' := bA.grown hg bA.size (fun k h => by cases h; exact Nat.le_refl _)
  obtain ⟨g, cp, rfl⟩ : ∃ g cp, v' = .slice (some ⟨g, 0, none⟩) zs.length cp := by
    rcases ho.form with ⟨rfl, _⟩ | ⟨g, cp, e, _⟩
    · rcases hl with h | h <;> cases h
    · exact ⟨g, cp, e⟩
  have HK : Hid (ON W' w.heap.size (.slice (some ⟨g, 0, none⟩) zs.length cp) zs ∧ Below w.heap.size w W') := ⟨ho, hb2⟩
  clear ho hg hl hb2 bA hs
  have heq : (binOp .eql 60 (.slice (some ⟨b, off, none⟩) zs.length cap) (.slice none 0 0)).run Tryz.prog w = .ok (.bool false) w := Go.Lib.run_eql_slice_nil w 60 2 (some ⟨b, off, none⟩) zs.length cap 0 0 Tryz.underlying60
  go_enter Tryz.func148, Tryz.ntmps148
  go_wp2_with (at_builtin; refine append_known _ rfl (.tmp 5) (.tmp 6) 60 rfl _ _ _ _ rfl rfl hr ?_)
  go_ret
  exact ⟨g, cp, rfl, HK.out.1, HK.out.2⟩
set_option maxRecDepth 100000 in
set_option maxHeartbeats 2500000 in
theorem ownCluster_any (w : World) (a1 : Option Addr) (c1 : Nat) (a2 : Option Addr) (c2 : Nat) (a3 : Option Addr) (c3 : Nat) (k : C6) (hk : clusterB k = true) (h : KCl.Rd w a1 c1 a2 c2 a3 c3 k) :
    Calls Tryz.prog 91 #[.agg #[.int .i64 k.config, .int .i64 k.clock, .slice a1 k.places.length c1, .slice a2 k.machines.length c2, .slice a3 k.txs.length c3, .bool k.lost]] w (ClAns w k) := by
  have H : Hid (CSm k ∧ KCl.Rd w a1 c1 a2 c2 a3 c3 k) := ⟨CSm.of hk, h⟩
  clear hk h
  obtain ⟨W0, hW0⟩ : ∃ X, X = ((w.alloc (.cells #[.int .i64 k.config, .int .i64 k.clock, .slice a1 k.places.length c1, .slice a2 k.machines.length c2, .slice a3 k.txs.length c3, .bool k.lost] 32)).alloc (.cells #[.int .i64 0, .int .i64 0, .slice none 0 0, .slice none 0 0, .slice none 0 0, .bool false] 32)).alloc (.cells #[.int .i64 k.config, .int .i64 k.clock, .slice none 0 0, .slice none 0 0, .slice none 0 0, .bool k.lost] 32) := ⟨_, rfl⟩
  have S0 : Hid (CSt w [.int .i64 k.config, .int .i64 k.clock, .slice a1 k.places.length c1, .slice a2 k.machines.length c2, .slice a3 k.txs.length c3, .bool k.lost] [.int .i64 0, .int .i64 0, .slice none 0 0, .slice none 0 0, .slice none 0 0, .bool false] k W0 (.slice none 0 0) (.slice none 0 0) (.slice none 0 0) [] gnone [] gnone [] gnone) := by
    obtain ⟨U1, hU1⟩ : ∃ X, X = w.alloc (.cells #[.int .i64 k.config, .int .i64 k.clock, .slice a1 k.places.length c1, .slice a2 k.machines.length c2, .slice a3 k.txs.length c3, .bool k.lost] 32) := ⟨_, rfl⟩
    have x1 : Bx U1 w.heap.size [.int .i64 k.config, .int .i64 k.clock, .slice a1 k.places.length c1, .slice a2 k.machines.length c2, .slice a3 k.txs.length c3, .bool k.lost] := by rw [hU1]; exact Bx.made w [.int .i64 k.config, .int .i64 k.clock, .slice a1 k.places.length c1, .slice a2 k.machines.length c2, .slice a3 k.txs.length c3, .bool k.lost] _
    have b1 : Below w.heap.size w U1 := by rw [hU1]; exact (Below.refl _ _).alloc (Nat.le_refl _) _
    have z1 : U1.heap.size = w.heap.size + 1 := by rw [hU1]; simp
    obtain ⟨U2, hU2⟩ : ∃ X, X = U1.alloc (.cells #[.int .i64 0, .int .i64 0, .slice none 0 0, .slice none 0 0, .slice none 0 0, .bool false] 32) := ⟨_, rfl⟩
    have x2 : Bx U2 U1.heap.size [.int .i64 0, .int .i64 0, .slice none 0 0, .slice none 0 0, .slice none 0 0, .bool false] := by rw [hU2]; exact Bx.made U1 [.int .i64 0, .int .i64 0, .slice none 0 0, .slice none 0 0, .slice none 0 0, .bool false] _
    have b2 : Below U1.heap.size U1 U2 := by rw [hU2]; exact (Below.refl _ _).alloc (Nat.le_refl _) _
    have z2 : U2.heap.size = U1.heap.size + 1 := by rw [hU2]; simp
    have x3 : Bx W0 U2.heap.size [.int .i64 k.config, .int .i64 k.clock, .slice none 0 0, .slice none 0 0, .slice none 0 0, .bool k.lost] := by rw [hW0, hU2, hU1]; exact Bx.made _ [.int .i64 k.config, .int .i64 k.clock, .slice none 0 0, .slice none 0 0, .slice none 0 0, .bool k.lost] _
    have b3 : Below U2.heap.size U2 W0 := by rw [hW0, hU2, hU1]; exact (Below.refl _ _).alloc (Nat.le_refl _) _
    rw [show U2.heap.size = w.heap.size + 2 by omega] at x3
    rw [show U1.heap.size = w.heap.size + 1 by omega] at x2
    exact ⟨(x1.later b2).later b3, x2.later b3, x3, CL3.nil _ _ _, bstep (bstep b1 b2) b3⟩
  have p2 := S0.out.arg.1 2 _ rfl
  rw [hW0] at p2
  go_enter Tryz.func91, Tryz.ntmps91
  go_wp2
  rw [← hW0]
  rw [← hW0] at p2
  clear hW0 p2
  go_loopw [21] (fun v wr => ∃ (j : Nat) (bP : Option Addr) (dP : Nat) (ps : List ((Nat × Nat) × List Int)) (gp : Nat → Nat → Prop), j ≤ k.places.length ∧ v = .int .i64 j ∧ ps.map (·.2) = k.places.take j ∧ CSt w [.int .i64 k.config, .int .i64 k.clock, .slice a1 k.places.length c1, .slice a2 k.machines.length c2, .slice a3 k.txs.length c3, .bool k.lost] [.int .i64 0, .int .i64 0, .slice none 0 0, .slice none 0 0, .slice none 0 0, .bool false] k wr (.slice bP j dP) (.slice none 0 0) (.slice none 0 0) ps gp [] gnone [] gnone) (fun v _ => k.places.length - (intOf v).toNat)
  case atStart => exact ⟨0, none, 0, [], gnone, Nat.zero_le _, rfl, by simp, S0.out⟩
  case round =>
    obtain ⟨j, bP, dP, ps, gp, hj, rfl, hmp, hst⟩ := hrel
    have hln : k.places.length ≤ 1000 := by have := H.out.1.p; omega
    have p2 := hst.arg.1 2 _ rfl
    have p3 := hst.arg.1 3 _ rfl
    have p4 := hst.arg.1 4 _ rfl
    by_cases hlt : j < k.places.length
    · skip
      have hat := atP_of hlt
      have hlp : ps.length = j := by have := congrArg List.length hmp; simpa [Nat.min_eq_left hj] using this
      have hrd := H.out.2.later hst.bel
      obtain ⟨_, hsl⟩ := hrd.p
      rcases hsl with h0 | ⟨b, off, rfl, hb, hsl⟩
      · omega
      obtain ⟨z0, z1, e0, ⟨_, hzs⟩, hcp⟩ := hsl j _ hat
      obtain ⟨hz1, hz3⟩ := H.out.1.ps _ (List.mem_of_getElem? hat)
      rcases hzs with h0 | ⟨zb, zo, rfl, hzb, hzn⟩
      · omega
      have es0 := e0
      clear hsl hrd
      obtain ⟨X0, hX0⟩ : ∃ X, X = wr.alloc (.cells #[.slice (some ⟨zb, zo, none⟩) (atP k.places j).length z1] 127) := ⟨_, rfl⟩
      have bX : Below wr.heap.size wr X0 := by rw [hX0]; exact (Below.refl _ _).alloc (Nat.le_refl _) _
      have xX : Bx X0 wr.heap.size [.slice (some ⟨zb, zo, none⟩) (atP k.places j).length z1] := by rw [hX0]; exact Bx.made wr [.slice (some ⟨zb, zo, none⟩) (atP k.places j).length z1] _
      have hcl := clone_any X0.drew zb zo z1 (atP k.places j) (by have := bX.size; show zb < X0.heap.size; omega) (hzn.below (bX.drew) hzb) (by omega)
      have HS := hidOf hst
      have HX : Hid (Below wr.heap.size wr X0 ∧ wr.heap.size + 1 ≤ X0.heap.size) := ⟨bX, by rw [hX0]; simp⟩
      have HB := hidOf xX
      have HM : Hid (ps.map (·.2) = k.places.take j ∧ ps.length = j ∧ k.places[j]? = some (atP k.places j)) := ⟨hmp, hlp, hat⟩
      clear hst bX xX hmp hlp hat hzn hzb hcp
      go_wp2_with fail
      rw [← hX0]
      clear hX0
      refine wp_region_until 9 (fun X : World => Bx X (w.heap.size + 2) [.int .i64 k.config, .int .i64 k.clock, (.slice bP j dP), (.slice none 0 0), (.slice none 0 0), .bool k.lost] ∧ Bx X wr.heap.size [.slice (some ⟨zb, zo, none⟩) (atP k.places j).length z1]) (by kernel_rfl) ?_
      have hSX : (fun X : World => Bx X (w.heap.size + 2) [.int .i64 k.config, .int .i64 k.clock, (.slice bP j dP), (.slice none 0 0), (.slice none 0 0), .bool k.lost] ∧ Bx X wr.heap.size [.slice (some ⟨zb, zo, none⟩) (atP k.places j).length z1]) X0.drew := ⟨(HS.out.own.later HX.out.1).later (Below.refl _ _).drew, (HB.out).later (Below.refl _ _).drew⟩
      have HD : Hid (Below wr.heap.size wr X0.drew ∧ X0.heap.size ≤ X0.drew.heap.size) := ⟨bstep HX.out.1 (Below.refl _ _).drew, Nat.le_refl _⟩
      have heb : wr.heap.size < X0.drew.heap.size := hSX.2.2.2
      generalize X0.drew = XD at *
      refine wpUntil_take (i := 0) (v := ?_) rfl (by kernel_rfl) (fun _ _ _ h => h) (Or.inl ⟨by rfl, ?_⟩) hSX ?_
      rotate_left
      · (intro w hSw; go_simp; first | done | with_reducible rfl)
      simp only [Act.put]
      refine wpUntil_take (i := 1) (v := ?_) rfl (by kernel_rfl) (fun _ _ _ h => h) (Or.inl ⟨by rfl, ?_⟩) hSX ?_
      rotate_left
      · (intro w hSw; have q := hSw.1.1 2 _ rfl; go_simp; first | done | with_reducible rfl | exact q)
      simp only [Act.put]
      refine wpUntil_take (i := 2) (v := ?_) rfl (by kernel_rfl) (fun _ _ _ h => h) (Or.inl ⟨by rfl, ?_⟩) hSX ?_
      rotate_left
      · (intro w hSw; go_simp; first | done | with_reducible rfl)
      simp only [Act.put]
      refine wpUntil_take (i := 3) (v := ?_) rfl (by kernel_rfl) (fun _ _ _ h => h) (Or.inl ⟨by rfl, ?_⟩) hSX ?_
      rotate_left
      · (intro w hSw; have q := hSw.2.1 0 _ rfl; go_simp; first | done | with_reducible rfl | exact q)
      simp only [Act.put]
      refine wpUntil_ready (rs := [4]) (by kernel_rfl) (by simp) ?_
      refine AllU.cons rfl (fun K hK => ?_) AllU.nil
      go_simp
      refine hcl.mono ?_
      clear hcl
      rintro e X2 ⟨q, cp, rfl, ho, b2⟩
      have hO : KPk.Ow X2 wr.heap.size (q, cp) (atP k.places j) (fun x => x = q) := KPk.low ho.kp HD.out.1.size
      have Q := fun x : Nat => x = q
      have bX2 : Below wr.heap.size wr X2 := bstep HD.out.1 b2
      have hS2 : (fun X : World => Bx X (w.heap.size + 2) [.int .i64 k.config, .int .i64 k.clock, (.slice bP j dP), (.slice none 0 0), (.slice none 0 0), .bool k.lost] ∧ Bx X wr.heap.size [.slice (some ⟨zb, zo, none⟩) (atP k.places j).length z1]) X2 := ⟨hSX.1.later b2, hSX.2.later b2⟩
      obtain ⟨X3, hX3⟩ : ∃ X, X = X2.alloc (.cells #[(.slice (some ⟨q, 0, none⟩) (atP k.places j).length cp)] 127) := ⟨_, rfl⟩
      have b3 : Below X2.heap.size X2 X3 := by rw [hX3]; exact (Below.refl _ _).alloc (Nat.le_refl _) _
      have x3 : Bx X3 X2.heap.size [(.slice (some ⟨q, 0, none⟩) (atP k.places j).length cp)] := by rw [hX3]; exact Bx.made X2 [(.slice (some ⟨q, 0, none⟩) (atP k.places j).length cp)] _
      have hS3 : (fun X : World => Bx X (w.heap.size + 2) [.int .i64 k.config, .int .i64 k.clock, (.slice bP j dP), (.slice none 0 0), (.slice none 0 0), .bool k.lost] ∧ Bx X wr.heap.size [.slice (some ⟨zb, zo, none⟩) (atP k.places j).length z1]) X3 := ⟨hS2.1.later b3, hS2.2.later b3⟩
      obtain ⟨v', Y, hr, hcs, hob, hfar, hsz, a', c', rfl⟩ := HS.out.pushP (bstep bX2 b3) (q, cp) (atP k.places j) (fun x => x = q) X2.heap.size (by rw [HM.out.2.1]; omega) 28 x3.1 (KPk.keep hO b3.size (fun q hq => b3.block q (KPk.of hO hq).2))
      have hS4 : (fun X : World => Bx X (w.heap.size + 2) [.int .i64 k.config, .int .i64 k.clock, (.slice bP j dP), (.slice none 0 0), (.slice none 0 0), .bool k.lost] ∧ Bx X wr.heap.size [.slice (some ⟨zb, zo, none⟩) (atP k.places j).length z1]) Y := ⟨hob, hS3.2.of_block (hfar _ (.inr ⟨by have := HD.out.1.size; omega, hS3.2.2.2⟩)) hsz⟩
      have HE : Hid ((ps ++ [((q, cp), atP k.places j)]).map (·.2) = k.places.take (j + 1)) := by unfold Hid; rw [List.map_append, HM.out.1]; exact take_snoc HM.out.2.2
      rw [HM.out.2.1] at hr hcs
      have KE := hidOf hcs
      refine hK.out _ _ (fun _ => hS2) ?_
      clear hK K b2 bX2 b3 x3 hcs hob hfar hsz hO hSX
      refine wpUntil_take (i := 5) (v := ?_) rfl (by kernel_rfl) (fun _ _ _ h => h) (Or.inl ⟨by rfl, ?_⟩) hS2 ?_
      rotate_left
      · (intro w hSw; go_simp; first | done | with_reducible rfl)
      simp only [Act.put]
      refine wpUntil_ready (rs := [6]) (by kernel_rfl) (by simp) ?_
      refine AllU.cons rfl (fun K hK => ?_) AllU.nil
      go_simp
      rw [← hX3]
      refine hK.out _ _ (fun _ => hS3) ?_
      clear hK K hS2
      refine wpUntil_ready (rs := [7]) (by kernel_rfl) (by simp) ?_
      refine AllU.cons rfl (fun K hK => ?_) AllU.nil
      refine step_known _ rfl (.tmp 26) (.tmp 31) 28 rfl _ _ _ _ (by first | rfl | simp [Act.eval, Act.put]) (by first | rfl | simp [Act.eval, Act.put]) hr ?_
      refine hK.out _ _ (fun _ => hS4) ?_
      clear hK K hr hS3 hX3
      simp only [Act.put]
      refine wpUntil_ready (rs := [8]) (by kernel_rfl) (by simp) ?_
      refine AllU.cons rfl (fun K hK => ?_) AllU.nil
      go_simp
      refine hK.out _ _ (fun _ => hS4) ?_
      clear hK K
      refine wpUntil_ready (rs := [9]) (by kernel_rfl) (by simp) ?_
      refine AllU.cons rfl (fun K hK => ?_) AllU.nil
      have o2 := hS4.1.1 2 _ rfl
      have fo2 := hS4.1.2.1 2
      go_simp
      refine hK.out _ _ (fun h => absurd rfl h) ?_
      clear hK K
      refine wpUntil_done (by kernel_rfl) ?_ _
      go_wp2
      exact ⟨⟨j + 1, a', c', _, _, by omega, by simp, HE.out, KE.out⟩, by simp [intOf]; omega⟩
    · obtain rfl : k.places.length = j := by omega
      have hd : decide ((k.places.length : Int) < (k.places.length : Int)) = false := by simp
      rw [List.take_length] at hmp
      have EP : Hid (ps.map (·.2) = k.places) := hmp
      have S1 := hidOf hst
      clear hmp hst hj hlt hln
      go_wp2
      clear p2 p3 p4
      generalize wr = WP at *
      go_loopw [38] (fun v wr => ∃ (j : Nat) (bM : Option Addr) (dM : Nat) (ms : List ((MV) × M4)) (gm : Nat → Nat → Prop), j ≤ k.machines.length ∧ v = .int .i64 j ∧ ms.map (·.2) = k.machines.take j ∧ CSt w [.int .i64 k.config, .int .i64 k.clock, .slice a1 k.places.length c1, .slice a2 k.machines.length c2, .slice a3 k.txs.length c3, .bool k.lost] [.int .i64 0, .int .i64 0, .slice none 0 0, .slice none 0 0, .slice none 0 0, .bool false] k wr (.slice bP k.places.length dP) (.slice bM j dM) (.slice none 0 0) ps gp ms gm [] gnone) (fun v _ => k.machines.length - (intOf v).toNat)
      case atStart => exact ⟨0, none, 0, [], gnone, Nat.zero_le _, rfl, by simp, S1.out⟩
      case round =>
        obtain ⟨j, bM, dM, ms, gm, hj, rfl, hmp, hst⟩ := hrel
        have hln : k.machines.length ≤ 1000 := by have := H.out.1.m; omega
        have p2 := hst.arg.1 2 _ rfl
        have p3 := hst.arg.1 3 _ rfl
        have p4 := hst.arg.1 4 _ rfl
        by_cases hlt : j < k.machines.length
        · skip
          have hat := atM_of hlt
          have hlp : ms.length = j := by have := congrArg List.length hmp; simpa [Nat.min_eq_left hj] using this
          have hrd := H.out.2.later hst.bel
          rcases hrd.m with h0 | ⟨b, off, rfl, hb, hrd'⟩
          · rw [h0] at hlt; simp at hlt
          obtain ⟨⟨m0, m1, m2, m3, m4, m5⟩, hel, hsd⟩ := hrd' j _ hat
          have es0 : wr.cell? ⟨b, off + j * 4, none⟩ = some (.bool (atM k.machines j).alive) := hel 0 _ rfl
          have es1 : wr.cell? ⟨b, off + j * 4 + 1, none⟩ = some (.slice m0 (atM k.machines j).copies.length m1) := hel 1 _ rfl
          have es2 : wr.cell? ⟨b, off + j * 4 + 2, none⟩ = some (.slice m2 (atM k.machines j).log.length m3) := hel 2 _ rfl
          have es3 : wr.cell? ⟨b, off + j * 4 + 3, none⟩ = some (.slice m4 (atM k.machines j).cleared.length m5) := hel 3 _ rfl
          clear hrd' hrd hel
          obtain ⟨X0, hX0⟩ : ∃ X, X = wr.alloc (.cells #[.bool (atM k.machines j).alive, .slice m0 (atM k.machines j).copies.length m1, .slice m2 (atM k.machines j).log.length m3, .slice m4 (atM k.machines j).cleared.length m5] 62) := ⟨_, rfl⟩
          have bX : Below wr.heap.size wr X0 := by rw [hX0]; exact (Below.refl _ _).alloc (Nat.le_refl _) _
          have xX : Bx X0 wr.heap.size [.bool (atM k.machines j).alive, .slice m0 (atM k.machines j).copies.length m1, .slice m2 (atM k.machines j).log.length m3, .slice m4 (atM k.machines j).cleared.length m5] := by rw [hX0]; exact Bx.made wr [.bool (atM k.machines j).alive, .slice m0 (atM k.machines j).copies.length m1, .slice m2 (atM k.machines j).log.length m3, .slice m4 (atM k.machines j).cleared.length m5] _
          have hcl := ownMachine_any X0 ⟨m0, m1, m2, m3, m4, m5⟩ (atM k.machines j) (H.out.1.ms _ (List.mem_of_getElem? hat)) (SlM.later hsd bX)
          simp only [MV.val] at hcl
          have HS := hidOf hst
          have HX : Hid (Below wr.heap.size wr X0 ∧ wr.heap.size + 1 ≤ X0.heap.size) := ⟨bX, by rw [hX0]; simp⟩
          have HB := hidOf xX
          have HM : Hid (ms.map (·.2) = k.machines.take j ∧ ms.length = j ∧ k.machines[j]? = some (atM k.machines j)) := ⟨hmp, hlp, hat⟩
          clear hst bX xX hmp hlp hat hsd
          go_wp2_with fail
          rw [← hX0]
          clear hX0
          refine hcl.mono ?_
          clear hcl
          rintro e w2 ⟨⟨u0, u1, u2, u3, u4, u5⟩, pp, gk, gr, rfl, hmr, b2⟩
          obtain ⟨X1, hX1⟩ : ∃ X, X = w2.alloc (.cells #[.slice u2 (atM k.machines j).log.length u3, .bool (atM k.machines j).alive, .slice u0 (atM k.machines j).copies.length u1, .slice u4 (atM k.machines j).cleared.length u5] 193) := ⟨_, rfl⟩
          have b3 : Below w2.heap.size w2 X1 := by rw [hX1]; exact (Below.refl _ _).alloc (Nat.le_refl _) _
          have xM : Bx X1 w2.heap.size [.slice u2 (atM k.machines j).log.length u3, .bool (atM k.machines j).alive, .slice u0 (atM k.machines j).copies.length u1, .slice u4 (atM k.machines j).cleared.length u5] := by rw [hX1]; exact Bx.made w2 [.slice u2 (atM k.machines j).log.length u3, .bool (atM k.machines j).alive, .slice u0 (atM k.machines j).copies.length u1, .slice u4 (atM k.machines j).cleared.length u5] _
          obtain ⟨Q, hQ⟩ := MR.ow hmr
          have hQ' : KMk.Ow X1 wr.heap.size ⟨u0, u1, u2, u3, u4, u5⟩ (atM k.machines j) Q := KMk.keep (KMk.low hQ (by have := HX.out.2; omega)) b3.size (fun q hq => b3.block q (KMk.of hQ hq).2)
          have bX1 : Below wr.heap.size wr X1 := bstep (bstep HX.out.1 b2) b3
          have hsw : wr.heap.size < w2.heap.size := by have := HX.out.2; have := b2.size; omega
          have HX1 : Hid (Below wr.heap.size wr X1 ∧ KMk.Ow X1 wr.heap.size ⟨u0, u1, u2, u3, u4, u5⟩ (atM k.machines j) Q) := ⟨bX1, hQ'⟩
          have HB1 : Hid (Bx X1 w2.heap.size [.slice u2 (atM k.machines j).log.length u3, .bool (atM k.machines j).alive, .slice u0 (atM k.machines j).copies.length u1, .slice u4 (atM k.machines j).cleared.length u5]) := xM
          have hcl := given_any X1.drew w2.heap.size (atM k.machines j).alive u2 (atM k.machines j).log.length u3 u0 (atM k.machines j).copies.length u1 u4 (atM k.machines j).cleared.length u5 (xM.1 0 _ rfl) (xM.1 1 _ rfl) (xM.1 2 _ rfl) (xM.1 3 _ rfl) xM.2.2
          clear hmr b2 b3 xM hQ hQ' bX1
          go_wp2_with fail
          rw [← hX1]
          clear hX1
          refine wp_region_until 6 (fun X : World => Bx X (w.heap.size + 2) [.int .i64 k.config, .int .i64 k.clock, (.slice bP k.places.length dP), (.slice bM j dM), (.slice none 0 0), .bool k.lost] ∧ Bx X w2.heap.size [.slice u2 (atM k.machines j).log.length u3, .bool (atM k.machines j).alive, .slice u0 (atM k.machines j).copies.length u1, .slice u4 (atM k.machines j).cleared.length u5]) (by kernel_rfl) ?_
          have hSX : (fun X : World => Bx X (w.heap.size + 2) [.int .i64 k.config, .int .i64 k.clock, (.slice bP k.places.length dP), (.slice bM j dM), (.slice none 0 0), .bool k.lost] ∧ Bx X w2.heap.size [.slice u2 (atM k.machines j).log.length u3, .bool (atM k.machines j).alive, .slice u0 (atM k.machines j).copies.length u1, .slice u4 (atM k.machines j).cleared.length u5]) X1.drew := ⟨(HS.out.own.later HX1.out.1).later (Below.refl _ _).drew, (HB1.out).later (Below.refl _ _).drew⟩
          have HD : Hid (Below wr.heap.size wr X1.drew ∧ X1.heap.size ≤ X1.drew.heap.size) := ⟨bstep HX1.out.1 (Below.refl _ _).drew, Nat.le_refl _⟩
          have HQ : Hid (KMk.Ow X1.drew wr.heap.size ⟨u0, u1, u2, u3, u4, u5⟩ (atM k.machines j) Q) := KMk.keep HX1.out.2 (Nat.le_refl _) (fun q _ => rfl)
          have heb : w2.heap.size < X1.drew.heap.size := hSX.2.2.2
          generalize X1.drew = XD at *
          refine wpUntil_take (i := 0) (v := ?_) rfl (by kernel_rfl) (fun _ _ _ h => h) (Or.inl ⟨by rfl, ?_⟩) hSX ?_
          rotate_left
          · (intro w hSw; go_simp; first | done | with_reducible rfl)
          simp only [Act.put]
          refine wpUntil_take (i := 1) (v := ?_) rfl (by kernel_rfl) (fun _ _ _ h => h) (Or.inl ⟨by rfl, ?_⟩) hSX ?_
          rotate_left
          · (intro w hSw; have q := hSw.1.1 3 _ rfl; go_simp; first | done | with_reducible rfl | exact q)
          simp only [Act.put]
          refine wpUntil_ready (rs := [2]) (by kernel_rfl) (by simp) ?_
          refine AllU.cons rfl (fun K hK => ?_) AllU.nil
          go_simp
          refine hcl.mono ?_
          clear hcl
          rintro e X2 ⟨rfl, b2⟩
          have hO : KMk.Ow X2 wr.heap.size ⟨u0, u1, u2, u3, u4, u5⟩ (atM k.machines j) Q := KMk.keep HQ.out b2.size (fun q hq => b2.block q (KMk.of HQ.out hq).2)
          have bX2 : Below wr.heap.size wr X2 := bstep HD.out.1 b2
          have hS2 : (fun X : World => Bx X (w.heap.size + 2) [.int .i64 k.config, .int .i64 k.clock, (.slice bP k.places.length dP), (.slice bM j dM), (.slice none 0 0), .bool k.lost] ∧ Bx X w2.heap.size [.slice u2 (atM k.machines j).log.length u3, .bool (atM k.machines j).alive, .slice u0 (atM k.machines j).copies.length u1, .slice u4 (atM k.machines j).cleared.length u5]) X2 := ⟨hSX.1.later b2, hSX.2.later b2⟩
          obtain ⟨X3, hX3⟩ : ∃ X, X = X2.alloc (.cells #[(.bool (atM k.machines j).alive), (.slice u0 (atM k.machines j).copies.length u1), (.slice u2 (atM k.machines j).log.length u3), (.slice u4 (atM k.machines j).cleared.length u5)] 62) := ⟨_, rfl⟩
          have b3 : Below X2.heap.size X2 X3 := by rw [hX3]; exact (Below.refl _ _).alloc (Nat.le_refl _) _
          have x3 : Bx X3 X2.heap.size [(.bool (atM k.machines j).alive), (.slice u0 (atM k.machines j).copies.length u1), (.slice u2 (atM k.machines j).log.length u3), (.slice u4 (atM k.machines j).cleared.length u5)] := by rw [hX3]; exact Bx.made X2 [(.bool (atM k.machines j).alive), (.slice u0 (atM k.machines j).copies.length u1), (.slice u2 (atM k.machines j).log.length u3), (.slice u4 (atM k.machines j).cleared.length u5)] _
          have hS3 : (fun X : World => Bx X (w.heap.size + 2) [.int .i64 k.config, .int .i64 k.clock, (.slice bP k.places.length dP), (.slice bM j dM), (.slice none 0 0), .bool k.lost] ∧ Bx X w2.heap.size [.slice u2 (atM k.machines j).log.length u3, .bool (atM k.machines j).alive, .slice u0 (atM k.machines j).copies.length u1, .slice u4 (atM k.machines j).cleared.length u5]) X3 := ⟨hS2.1.later b3, hS2.2.later b3⟩
          obtain ⟨v', Y, hr, hcs, hob, hfar, hsz, a', c', rfl⟩ := HS.out.pushM (bstep bX2 b3) (⟨u0, u1, u2, u3, u4, u5⟩ : MV) (atM k.machines j) Q X2.heap.size (by rw [HM.out.2.1]; omega) 29 x3.1 (KMk.keep hO b3.size (fun q hq => b3.block q (KMk.of hO hq).2))
          have hS4 : (fun X : World => Bx X (w.heap.size + 2) [.int .i64 k.config, .int .i64 k.clock, (.slice bP k.places.length dP), (.slice bM j dM), (.slice none 0 0), .bool k.lost] ∧ Bx X w2.heap.size [.slice u2 (atM k.machines j).log.length u3, .bool (atM k.machines j).alive, .slice u0 (atM k.machines j).copies.length u1, .slice u4 (atM k.machines j).cleared.length u5]) Y := ⟨hob, hS3.2.of_block (hfar _ (.inr ⟨by have := HD.out.1.size; omega, hS3.2.2.2⟩)) hsz⟩
          have HE : Hid ((ms ++ [((⟨u0, u1, u2, u3, u4, u5⟩ : MV), atM k.machines j)]).map (·.2) = k.machines.take (j + 1)) := by unfold Hid; rw [List.map_append, HM.out.1]; exact take_snoc HM.out.2.2
          rw [HM.out.2.1] at hr hcs
          have KE := hidOf hcs
          refine hK.out _ _ (fun _ => hS2) ?_
          clear hK K b2 bX2 b3 x3 hcs hob hfar hsz hO hSX
          refine wpUntil_ready (rs := [3]) (by kernel_rfl) (by simp) ?_
          refine AllU.cons rfl (fun K hK => ?_) AllU.nil
          go_simp
          rw [← hX3]
          refine hK.out _ _ (fun _ => hS3) ?_
          clear hK K hS2
          refine wpUntil_ready (rs := [4]) (by kernel_rfl) (by simp) ?_
          refine AllU.cons rfl (fun K hK => ?_) AllU.nil
          refine step_known _ rfl (.tmp 45) (.tmp 47) 29 rfl _ _ _ _ (by first | rfl | simp [Act.eval, Act.put]) (by first | rfl | simp [Act.eval, Act.put]) hr ?_
          refine hK.out _ _ (fun _ => hS4) ?_
          clear hK K hr hS3 hX3
          simp only [Act.put]
          refine wpUntil_ready (rs := [5]) (by kernel_rfl) (by simp) ?_
          refine AllU.cons rfl (fun K hK => ?_) AllU.nil
          go_simp
          refine hK.out _ _ (fun _ => hS4) ?_
          clear hK K
          refine wpUntil_ready (rs := [6]) (by kernel_rfl) (by simp) ?_
          refine AllU.cons rfl (fun K hK => ?_) AllU.nil
          have o3 := hS4.1.1 3 _ rfl
          have fo3 := hS4.1.2.1 3
          go_simp
          refine hK.out _ _ (fun h => absurd rfl h) ?_
          clear hK K
          refine wpUntil_done (by kernel_rfl) ?_ _
          go_wp2
          exact ⟨⟨j + 1, a', c', _, _, by omega, by simp, HE.out, KE.out⟩, by simp [intOf]; omega⟩
        · obtain rfl : k.machines.length = j := by omega
          have hd : decide ((k.machines.length : Int) < (k.machines.length : Int)) = false := by simp
          rw [List.take_length] at hmp
          have EM : Hid (ms.map (·.2) = k.machines) := hmp
          have S1 := hidOf hst
          clear hmp hst hj hlt hln
          go_wp2
          clear p2 p3 p4
          generalize wr = WM at *
          go_loopw [54] (fun v wr => ∃ (j : Nat) (bT : Option Addr) (dT : Nat) (ts : List ((tx.TV) × tx.T7)) (gt : Nat → Nat → Prop), j ≤ k.txs.length ∧ v = .int .i64 j ∧ ts.map (·.2) = k.txs.take j ∧ CSt w [.int .i64 k.config, .int .i64 k.clock, .slice a1 k.places.length c1, .slice a2 k.machines.length c2, .slice a3 k.txs.length c3, .bool k.lost] [.int .i64 0, .int .i64 0, .slice none 0 0, .slice none 0 0, .slice none 0 0, .bool false] k wr (.slice bP k.places.length dP) (.slice bM k.machines.length dM) (.slice bT j dT) ps gp ms gm ts gt) (fun v _ => k.txs.length - (intOf v).toNat)
          case atStart => exact ⟨0, none, 0, [], gnone, Nat.zero_le _, rfl, by simp, S1.out⟩
          case round =>
            obtain ⟨j, bT, dT, ts, gt, hj, rfl, hmp, hst⟩ := hrel
            have hln : k.txs.length ≤ 1000 := by have := H.out.1.t; omega
            have p2 := hst.arg.1 2 _ rfl
            have p3 := hst.arg.1 3 _ rfl
            have p4 := hst.arg.1 4 _ rfl
            by_cases hlt : j < k.txs.length
            · skip
              have hat := atT_of hlt
              have hlp : ts.length = j := by have := congrArg List.length hmp; simpa [Nat.min_eq_left hj] using this
              have hrd := H.out.2.later hst.bel
              rcases hrd.t with h0 | ⟨b, off, rfl, hb, hrd'⟩
              · rw [h0] at hlt; simp at hlt
              obtain ⟨⟨t0, t1, t2, t3⟩, hel, hsd⟩ := hrd' j _ hat
              have es0 : wr.cell? ⟨b, off + j * 7, none⟩ = some (.int .i64 (atT k.txs j).id) := hel 0 _ rfl
              have es1 : wr.cell? ⟨b, off + j * 7 + 1, none⟩ = some (.int .i64 (atT k.txs j).home) := hel 1 _ rfl
              have es2 : wr.cell? ⟨b, off + j * 7 + 2, none⟩ = some (.int .i64 (atT k.txs j).phase) := hel 2 _ rfl
              have es3 : wr.cell? ⟨b, off + j * 7 + 3, none⟩ = some (.int .i64 (atT k.txs j).count) := hel 3 _ rfl
              have es4 : wr.cell? ⟨b, off + j * 7 + 4, none⟩ = some (.slice t0 (atT k.txs j).reads.length t1) := hel 4 _ rfl
              have es5 : wr.cell? ⟨b, off + j * 7 + 5, none⟩ = some (.slice t2 (atT k.txs j).sets.length t3) := hel 5 _ rfl
              have es6 : wr.cell? ⟨b, off + j * 7 + 6, none⟩ = some (.int .i64 (atT k.txs j).stamp) := hel 6 _ rfl
              clear hrd' hrd hel
              obtain ⟨X0, hX0⟩ : ∃ X, X = wr.alloc (.cells #[.int .i64 (atT k.txs j).id, .int .i64 (atT k.txs j).home, .int .i64 (atT k.txs j).phase, .int .i64 (atT k.txs j).count, .slice t0 (atT k.txs j).reads.length t1, .slice t2 (atT k.txs j).sets.length t3, .int .i64 (atT k.txs j).stamp] 56) := ⟨_, rfl⟩
              have bX : Below wr.heap.size wr X0 := by rw [hX0]; exact (Below.refl _ _).alloc (Nat.le_refl _) _
              have xX : Bx X0 wr.heap.size [.int .i64 (atT k.txs j).id, .int .i64 (atT k.txs j).home, .int .i64 (atT k.txs j).phase, .int .i64 (atT k.txs j).count, .slice t0 (atT k.txs j).reads.length t1, .slice t2 (atT k.txs j).sets.length t3, .int .i64 (atT k.txs j).stamp] := by rw [hX0]; exact Bx.made wr [.int .i64 (atT k.txs j).id, .int .i64 (atT k.txs j).home, .int .i64 (atT k.txs j).phase, .int .i64 (atT k.txs j).count, .slice t0 (atT k.txs j).reads.length t1, .slice t2 (atT k.txs j).sets.length t3, .int .i64 (atT k.txs j).stamp] _
              obtain ⟨l1, l2⟩ := H.out.1.ts _ (List.mem_of_getElem? hat)
              have bXd : Below wr.heap.size wr X0.drew := bX.drew
              have hcl := tx.ownTx_any X0.drew ⟨t0, t1, t2, t3⟩ (atT k.txs j) (by omega) (by omega) (tx.SlT.later hsd bXd)
              simp only [tx.TV.val] at hcl
              have HS := hidOf hst
              have HX : Hid (Below wr.heap.size wr X0 ∧ wr.heap.size + 1 ≤ X0.heap.size) := ⟨bX, by rw [hX0]; simp⟩
              have HB := hidOf xX
              have HM : Hid (ts.map (·.2) = k.txs.take j ∧ ts.length = j ∧ k.txs[j]? = some (atT k.txs j)) := ⟨hmp, hlp, hat⟩
              clear hst bX xX hmp hlp hat hsd bXd l1 l2
              go_wp2_with fail
              rw [← hX0]
              clear hX0
              refine wp_region_until 7 (fun X : World => Bx X (w.heap.size + 2) [.int .i64 k.config, .int .i64 k.clock, (.slice bP k.places.length dP), (.slice bM k.machines.length dM), (.slice bT j dT), .bool k.lost] ∧ Bx X wr.heap.size [.int .i64 (atT k.txs j).id, .int .i64 (atT k.txs j).home, .int .i64 (atT k.txs j).phase, .int .i64 (atT k.txs j).count, .slice t0 (atT k.txs j).reads.length t1, .slice t2 (atT k.txs j).sets.length t3, .int .i64 (atT k.txs j).stamp]) (by kernel_rfl) ?_
              have hSX : (fun X : World => Bx X (w.heap.size + 2) [.int .i64 k.config, .int .i64 k.clock, (.slice bP k.places.length dP), (.slice bM k.machines.length dM), (.slice bT j dT), .bool k.lost] ∧ Bx X wr.heap.size [.int .i64 (atT k.txs j).id, .int .i64 (atT k.txs j).home, .int .i64 (atT k.txs j).phase, .int .i64 (atT k.txs j).count, .slice t0 (atT k.txs j).reads.length t1, .slice t2 (atT k.txs j).sets.length t3, .int .i64 (atT k.txs j).stamp]) X0.drew := ⟨(HS.out.own.later HX.out.1).later (Below.refl _ _).drew, (HB.out).later (Below.refl _ _).drew⟩
              have HD : Hid (Below wr.heap.size wr X0.drew ∧ X0.heap.size ≤ X0.drew.heap.size) := ⟨bstep HX.out.1 (Below.refl _ _).drew, Nat.le_refl _⟩
              have heb : wr.heap.size < X0.drew.heap.size := hSX.2.2.2
              generalize X0.drew = XD at *
              refine wpUntil_take (i := 0) (v := ?_) rfl (by kernel_rfl) (fun _ _ _ h => h) (Or.inl ⟨by rfl, ?_⟩) hSX ?_
              rotate_left
              · (intro w hSw; go_simp; first | done | with_reducible rfl)
              simp only [Act.put]
              refine wpUntil_take (i := 1) (v := ?_) rfl (by kernel_rfl) (fun _ _ _ h => h) (Or.inl ⟨by rfl, ?_⟩) hSX ?_
              rotate_left
              · (intro w hSw; have q := hSw.1.1 4 _ rfl; go_simp; first | done | with_reducible rfl | exact q)
              simp only [Act.put]
              refine wpUntil_take (i := 2) (v := ?_) rfl (by kernel_rfl) (fun _ _ _ h => h) (Or.inl ⟨by rfl, ?_⟩) hSX ?_
              rotate_left
              · (intro w hSw; have q0 := hSw.2.1 0 _ rfl; have q1 := hSw.2.1 1 _ rfl; have q2 := hSw.2.1 2 _ rfl; have q3 := hSw.2.1 3 _ rfl; have q4 := hSw.2.1 4 _ rfl; have q5 := hSw.2.1 5 _ rfl; have q6 := hSw.2.1 6 _ rfl; go_simp; first | done | rfl)
              simp only [Act.put]
              refine wpUntil_ready (rs := [3]) (by kernel_rfl) (by simp) ?_
              refine AllU.cons rfl (fun K hK => ?_) AllU.nil
              go_simp
              refine hcl.mono ?_
              clear hcl
              rintro e X2 ⟨u0, u1, u2, u3, PR, PS, rfl, ho, b2⟩
              simp only [tx.TV.val]
              have hO : KTk.Ow X2 wr.heap.size ⟨u0, u1, u2, u3⟩ (atT k.txs j) (tx.OfT PR PS) := KTk.low (KT.ow ho) HD.out.1.size
              have bX2 : Below wr.heap.size wr X2 := bstep HD.out.1 b2
              have hS2 : (fun X : World => Bx X (w.heap.size + 2) [.int .i64 k.config, .int .i64 k.clock, (.slice bP k.places.length dP), (.slice bM k.machines.length dM), (.slice bT j dT), .bool k.lost] ∧ Bx X wr.heap.size [.int .i64 (atT k.txs j).id, .int .i64 (atT k.txs j).home, .int .i64 (atT k.txs j).phase, .int .i64 (atT k.txs j).count, .slice t0 (atT k.txs j).reads.length t1, .slice t2 (atT k.txs j).sets.length t3, .int .i64 (atT k.txs j).stamp]) X2 := ⟨hSX.1.later b2, hSX.2.later b2⟩
              obtain ⟨X3, hX3⟩ : ∃ X, X = X2.alloc (.cells #[(.int .i64 (atT k.txs j).id), (.int .i64 (atT k.txs j).home), (.int .i64 (atT k.txs j).phase), (.int .i64 (atT k.txs j).count), (.slice u0 (atT k.txs j).reads.length u1), (.slice u2 (atT k.txs j).sets.length u3), (.int .i64 (atT k.txs j).stamp)] 56) := ⟨_, rfl⟩
              have b3 : Below X2.heap.size X2 X3 := by rw [hX3]; exact (Below.refl _ _).alloc (Nat.le_refl _) _
              have x3 : Bx X3 X2.heap.size [(.int .i64 (atT k.txs j).id), (.int .i64 (atT k.txs j).home), (.int .i64 (atT k.txs j).phase), (.int .i64 (atT k.txs j).count), (.slice u0 (atT k.txs j).reads.length u1), (.slice u2 (atT k.txs j).sets.length u3), (.int .i64 (atT k.txs j).stamp)] := by rw [hX3]; exact Bx.made X2 [(.int .i64 (atT k.txs j).id), (.int .i64 (atT k.txs j).home), (.int .i64 (atT k.txs j).phase), (.int .i64 (atT k.txs j).count), (.slice u0 (atT k.txs j).reads.length u1), (.slice u2 (atT k.txs j).sets.length u3), (.int .i64 (atT k.txs j).stamp)] _
              have hS3 : (fun X : World => Bx X (w.heap.size + 2) [.int .i64 k.config, .int .i64 k.clock, (.slice bP k.places.length dP), (.slice bM k.machines.length dM), (.slice bT j dT), .bool k.lost] ∧ Bx X wr.heap.size [.int .i64 (atT k.txs j).id, .int .i64 (atT k.txs j).home, .int .i64 (atT k.txs j).phase, .int .i64 (atT k.txs j).count, .slice t0 (atT k.txs j).reads.length t1, .slice t2 (atT k.txs j).sets.length t3, .int .i64 (atT k.txs j).stamp]) X3 := ⟨hS2.1.later b3, hS2.2.later b3⟩
              obtain ⟨v', Y, hr, hcs, hob, hfar, hsz, a', c', rfl⟩ := HS.out.pushT (bstep bX2 b3) (⟨u0, u1, u2, u3⟩ : tx.TV) (atT k.txs j) (tx.OfT PR PS) X2.heap.size (by rw [HM.out.2.1]; omega) 30 x3.1 (KTk.keep hO b3.size (fun q hq => b3.block q (KTk.of hO hq).2))
              have hS4 : (fun X : World => Bx X (w.heap.size + 2) [.int .i64 k.config, .int .i64 k.clock, (.slice bP k.places.length dP), (.slice bM k.machines.length dM), (.slice bT j dT), .bool k.lost] ∧ Bx X wr.heap.size [.int .i64 (atT k.txs j).id, .int .i64 (atT k.txs j).home, .int .i64 (atT k.txs j).phase, .int .i64 (atT k.txs j).count, .slice t0 (atT k.txs j).reads.length t1, .slice t2 (atT k.txs j).sets.length t3, .int .i64 (atT k.txs j).stamp]) Y := ⟨hob, hS3.2.of_block (hfar _ (.inr ⟨by have := HD.out.1.size; omega, hS3.2.2.2⟩)) hsz⟩
              have HE : Hid ((ts ++ [((⟨u0, u1, u2, u3⟩ : tx.TV), atT k.txs j)]).map (·.2) = k.txs.take (j + 1)) := by unfold Hid; rw [List.map_append, HM.out.1]; exact take_snoc HM.out.2.2
              rw [HM.out.2.1] at hr hcs
              have KE := hidOf hcs
              refine hK.out _ _ (fun _ => hS2) ?_
              clear hK K b2 bX2 b3 x3 hcs hob hfar hsz hO hSX
              refine wpUntil_ready (rs := [4]) (by kernel_rfl) (by simp) ?_
              refine AllU.cons rfl (fun K hK => ?_) AllU.nil
              go_simp
              rw [← hX3]
              refine hK.out _ _ (fun _ => hS3) ?_
              clear hK K hS2
              refine wpUntil_ready (rs := [5]) (by kernel_rfl) (by simp) ?_
              refine AllU.cons rfl (fun K hK => ?_) AllU.nil
              refine step_known _ rfl (.tmp 59) (.tmp 62) 30 rfl _ _ _ _ (by first | rfl | simp [Act.eval, Act.put]) (by first | rfl | simp [Act.eval, Act.put]) hr ?_
              refine hK.out _ _ (fun _ => hS4) ?_
              clear hK K hr hS3 hX3
              simp only [Act.put]
              refine wpUntil_ready (rs := [6]) (by kernel_rfl) (by simp) ?_
              refine AllU.cons rfl (fun K hK => ?_) AllU.nil
              go_simp
              refine hK.out _ _ (fun _ => hS4) ?_
              clear hK K
              refine wpUntil_ready (rs := [7]) (by kernel_rfl) (by simp) ?_
              refine AllU.cons rfl (fun K hK => ?_) AllU.nil
              have o4 := hS4.1.1 4 _ rfl
              have fo4 := hS4.1.2.1 4
              go_simp
              refine hK.out _ _ (fun h => absurd rfl h) ?_
              clear hK K
              refine wpUntil_done (by kernel_rfl) ?_ _
              go_wp2
              exact ⟨⟨j + 1, a', c', _, _, by omega, by simp, HE.out, KE.out⟩, by simp [intOf]; omega⟩
            · obtain rfl : k.txs.length = j := by omega
              have hd : decide ((k.txs.length : Int) < (k.txs.length : Int)) = false := by simp
              rw [List.take_length] at hmp
              have ET : Hid (ts.map (·.2) = k.txs) := hmp
              have S1 := hidOf hst
              clear hmp hst hj hlt hln
              have o0 := S1.out.own.1 0 _ rfl
              have o1 := S1.out.own.1 1 _ rfl
              have o2 := S1.out.own.1 2 _ rfl
              have o3 := S1.out.own.1 3 _ rfl
              have o4 := S1.out.own.1 4 _ rfl
              have o5 := S1.out.own.1 5 _ rfl
              have r0 := S1.out.res.1 0 _ rfl
              have r1 := S1.out.res.1 1 _ rfl
              have r2 := S1.out.res.1 2 _ rfl
              have r3 := S1.out.res.1 3 _ rfl
              have r4 := S1.out.res.1 4 _ rfl
              have r5 := S1.out.res.1 5 _ rfl
              have f0 := S1.out.res.2.1 0
              have f1 := S1.out.res.2.1 1
              have f2 := S1.out.res.2.1 2
              have f3 := S1.out.res.2.1 3
              have f4 := S1.out.res.2.1 4
              have f5 := S1.out.res.2.1 5
              go_wp2
              refine bodyPost_ret (v := .agg #[.int .i64 k.config, .int .i64 k.clock, .slice bP k.places.length dP, .slice bM k.machines.length dM, .slice bT k.txs.length dT, .bool k.lost]) (by simp [results, Tryz.results91, go_sem, r0, r1, r2, r3, r4, r5]) rfl ?_
              refine ⟨bP, dP, bM, dM, bT, dT, ps, gp, ms, gm, ts, gt, rfl, ?_, EP.out, EM.out, ET.out, ?_⟩
              · exact S1.out.rows.keep (Y := putB wr (w.heap.size + 1) 0 [.int .i64 k.config, .int .i64 k.clock, .slice bP k.places.length dP, .slice bM k.machines.length dM, .slice bT k.txs.length dT, .bool k.lost]) (by rw [putB_size]; exact Nat.le_refl _) (fun q _ hb _ => putB_block (by omega) _ _ _)
              · exact putB_below (w := w) (by omega) [.int .i64 k.config, .int .i64 k.clock, .slice bP k.places.length dP, .slice bM k.machines.length dM, .slice bT k.txs.length dT, .bool k.lost] wr 0 S1.out.bel
end Go.Proofs.YtnhjgomfkfehgaaGreatDoor