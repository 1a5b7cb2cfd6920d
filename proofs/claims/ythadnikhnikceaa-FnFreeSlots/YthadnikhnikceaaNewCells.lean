/- What the program's and the specification's NewCells answer: six zero cells in memory of their own; and the program's list of an array of cells. -/
import Derived.Test.YthadnikhnikceaaRows
import Derived.Test.YthadnikhnikceaaCells
import Derived.Test.YthadnikhnikceaaCopy
import Derived.WalkKit
import Derived.WalkSpells
import Derived.WalkLawsBesides
import Derived.Below
import Derived.Deep.Heap
import Derived.Deep.AppendLies
namespace Go.Proofs.Ythadnikhnikceaa
open Go.RowKit
theorem info_cell_size : (Try.prog.info? 32).map (·.size) = some 2 := by kernel_rfl
theorem make_six : ∀ w : World, (Instr.makeSlice 24 (.int .i64 6) (.int .i64 6)).run Try.prog w = .ok (.slice (some ⟨w.heap.size, 0, none⟩) 6 6) (w.alloc (.cells (madeCells #[.int .i64 0, .int .i64 0] 12) 32)) := fun w => make_cells 6 (by omega) w
theorem specNewCells_any (w : World) : Calls Try.prog 28 #[] w fun e w' => e = .returned (.slice (some ⟨w.heap.size, 0, none⟩) 6 6) ∧ w' = w.alloc (.cells (madeCells #[.int .i64 0, .int .i64 0] 12) 32) := by
  have hmk := make_six
  go_enter Try.func28, Try.ntmps28
  go_wp2
  go_ret
  exact ⟨rfl, rfl⟩
set_option maxRecDepth 10000 in
set_option maxHeartbeats 1000000 in
theorem implList_any (w : World) (zs : List Value) (hz : zs.length = 12) (h1 : ∀ v ∈ zs, v.oneCell' = true) : Calls Try.prog 70 #[.agg zs.toArray] w fun e w' => e = .returned (.slice (some ⟨w.heap.size + 1, 0, none⟩) 6 6) ∧ Below w.heap.size w w' ∧ w'.heap[w.heap.size + 1]? = some (.cells zs.toArray 32 (0, 0)) := by
  have hmk := make_six
  have H1 : Hid (∀ v ∈ zs, v.oneCell' = true) := h1
  have HN : Hid (zs.length = Nat.min 6 6 * 2) := hz
  have HG : Hid (((w.alloc (.cells zs.toArray 88)).alloc (.cells (madeCells #[.int .i64 0, .int .i64 0] 12) 32)).heap[w.heap.size + 1]? = some (.cells (madeCells #[.int .i64 0, .int .i64 0] 12) 32 (0, 0))) := by
    have := Go.Deep.blk_alloc_new (w.alloc (.cells zs.toArray 88)) (.cells (madeCells #[.int .i64 0, .int .i64 0] 12) 32)
    unfold Hid
    have e : (w.alloc (.cells zs.toArray 88)).heap.size = w.heap.size + 1 := by simp
    rw [e] at this
    exact this
  have HS : Hid (∀ (j : Nat) (v : Value), zs[j]? = some v → ((w.alloc (.cells zs.toArray 88)).alloc (.cells (madeCells #[.int .i64 0, .int .i64 0] 12) 32)).cell? ((⟨w.heap.size, 0, none⟩ : Addr).add j) = some v) := by
    refine World.news_of_block (cs := zs.toArray) (t := 88) (fr := (0, 0)) ?_
    rw [Below.heap_alloc _ _ _ (by simp)]
    exact Go.Deep.blk_alloc_new w _
  have HF : Hid (0 + zs.length ≤ (madeCells #[.int .i64 0, .int .i64 0] 12).size) := by unfold Hid; rw [size_madeCells]; omega
  have b0 : Hid (Below w.heap.size w ((w.alloc (.cells zs.toArray 88)).alloc (.cells (madeCells #[.int .i64 0, .int .i64 0] 12) 32))) := ((Below.refl _ _).alloc (Nat.le_refl _) _).alloc (by simp) _
  have hl : ((madeCells #[.int .i64 0, .int .i64 0] 12).toList.take 0 ++ zs ++ (madeCells #[.int .i64 0, .int .i64 0] 12).toList.drop (0 + zs.length)).toArray = zs.toArray := by
    have : (madeCells #[.int .i64 0, .int .i64 0] 12).toList.drop (0 + zs.length) = [] := List.drop_eq_nil_of_le (by rw [Array.length_toList, size_madeCells]; omega)
    rw [this]; simp
  have hrun := run_copy_wide (P := Try.prog) _ 24 24 3 32 (w.heap.size + 1) 0 6 6 ⟨w.heap.size, 0, none⟩ 6 6 (madeCells #[.int .i64 0, .int .i64 0] 12) 32 zs 2 Try.underlying24 info_cell_size HG.out HN.out HS.out HF.out H1.out
  rw [hl] at hrun
  have HW : Hid ((((w.alloc (.cells zs.toArray 88)).alloc (.cells (madeCells #[.int .i64 0, .int .i64 0] 12) 32)).setRow (w.heap.size + 1) zs.toArray).heap[w.heap.size + 1]? = some (.cells zs.toArray 32 (0, 0)) ∧ Below w.heap.size w (((w.alloc (.cells zs.toArray 88)).alloc (.cells (madeCells #[.int .i64 0, .int .i64 0] 12) 32)).setRow (w.heap.size + 1) zs.toArray)) := ⟨setRow_heap _ _ _ _ _ _ HG.out, below_setRow b0.out (by omega) _⟩
  generalize ((w.alloc (.cells zs.toArray 88)).alloc (.cells (madeCells #[.int .i64 0, .int .i64 0] 12) 32)).setRow (w.heap.size + 1) zs.toArray = W at HW hrun
  clear h1 hz hl
  go_enter Try.func70, Try.ntmps70
  go_wp2
  go_ret
  exact ⟨rfl, HW.out.2, HW.out.1⟩
def zeros : List C2 := List.replicate 6 ⟨0, 0⟩
theorem zeros_made : (madeCells #[.int .i64 0, .int .i64 0] 12) = (zeros.flatMap C2.cells).toArray := by kernel_rfl
theorem implNewCells_any (w : World) : Calls Try.prog 29 #[] w fun e w' => e = .returned (.slice (some ⟨w.heap.size + 1, 0, none⟩) 6 6) ∧ Below w.heap.size w w' ∧ w'.heap[w.heap.size + 1]? = some (.cells (zeros.flatMap C2.cells).toArray 32 (0, 0)) := by
  go_enter Try.func29, Try.ntmps29
  go_wp2_with fail
  refine (implList_any w (zeros.flatMap C2.cells) rfl (by decide)).mono ?_
  rintro e w1 ⟨rfl, b1, h1⟩
  have K : Hid (w1.heap[w.heap.size + 1]? = some (.cells (zeros.flatMap C2.cells).toArray 32 (0, 0))) := h1
  clear h1
  go_wp2
  go_ret
  exact ⟨rfl, b1, K.out⟩
/-! ### The law's marks -/
def markCell (j : Nat) : C2 := ⟨1 + 2 * (j : Int), 1 + 2 * (j : Int) + 1⟩
def markCells (n : Nat) : List C2 := (List.range n).map markCell
theorem marks2_at {n j : Nat} (h : j < n) : (markCells n)[j]? = some (markCell j) := by simp [markCells, h]
set_option maxHeartbeats 4000000 in
theorem markCellS_some (w : World) (b n cap : Nat) (hn : n ≤ 1000000) (hr : Room w b (n * 2)) :
    Calls Try.prog 30 #[.slice (some ⟨b, 0, none⟩) n cap, .int .i64 1] w fun e w' => e = .returned (.int .i64 (1 + 2 * (n : Int))) ∧ OnlyBlock b w w' ∧ CellsAt w' b 0 (markCells n) := by
  go_enter Try.func30, Try.ntmps30
  go_wp2
  go_loopw [1, 5] (fun v1 v5 wr => ∃ j : Nat, j ≤ n ∧ v5 = .int .i64 j ∧ v1 = .int .i64 (1 + 2 * (j : Int)) ∧ OnlyBlock b w wr ∧ Room wr b (n * 2) ∧ CellsAt wr b 0 ((markCells n).take j)) (fun _ v5 _ => n - (intOf v5).toNat)
  case atStart => exact ⟨0, Nat.zero_le _, rfl, rfl, OnlyBlock.refl _ _, hr, fun i s e => by simp at e⟩
  case round =>
    obtain ⟨j, hj, rfl, rfl, hob, hro, hse⟩ := hrel
    by_cases hlt : j < n
    · obtain ⟨v0, d0, f0⟩ := hro (j * 2) (by omega)
      obtain ⟨v1, d1, f1⟩ := hro (j * 2 + 1) (by omega)
      have K : Hid (OnlyBlock b w wr ∧ Room wr b (n * 2) ∧ CellsAt wr b 0 ((markCells n).take j)) := ⟨hob, hro, hse⟩
      clear hob hro hse hr
      go_wp2
      obtain ⟨hob, hro, hse⟩ := K.out
      refine ⟨⟨j + 1, by omega, by simp, by congr 1, (hob.setCell _ _).setCell _ _, (hro.set _).set _, hse.put (s := markCell j) (marks2_at hlt) hro (by omega)⟩, by simp [intOf]; omega⟩
    · have : j = n := by omega
      subst this
      have hd : decide ((j : Int) < (j : Int)) = false := by simp
      have htk : (markCells j).take j = markCells j := by
        have : (markCells j).length = j := by simp [markCells]
        exact List.take_of_length_le (by omega)
      rw [htk] at hse
      have K : Hid (OnlyBlock b w wr ∧ CellsAt wr b 0 (markCells j)) := ⟨hob, hse⟩
      clear hob hro hse hr htk
      go_wp2
      go_ret
      exact ⟨rfl, K.out.1, K.out.2⟩
set_option maxHeartbeats 4000000 in
theorem heldCellS_some (w : World) (b n cap : Nat) (hn : n ≤ 1000000) (hs : CellsAt w b 0 (markCells n)) :
    Calls Try.prog 31 #[.slice (some ⟨b, 0, none⟩) n cap, .int .i64 1] w fun e w' => e = .returned (.int .i64 (1 + 2 * (n : Int))) ∧ w' = w := by
  go_enter Try.func31, Try.ntmps31
  go_wp2
  go_loop [1, 5] (fun v1 v5 => ∃ j : Nat, j ≤ n ∧ v5 = .int .i64 j ∧ v1 = .int .i64 (1 + 2 * (j : Int))) (fun _ v5 => n - (intOf v5).toNat)
  case atStart => exact ⟨0, Nat.zero_le _, rfl, rfl⟩
  case round =>
    obtain ⟨j, hj, rfl, rfl⟩ := hrel
    by_cases hlt : j < n
    · obtain ⟨c0, c1⟩ := hs j (markCell j) (marks2_at hlt)
      simp only [markCell, Nat.zero_add] at c0 c1
      clear hs
      go_wp2
      exact ⟨⟨j + 1, by omega, by simp, by congr 1⟩, by simp [intOf]; omega⟩
    · have : j = n := by omega
      subst this
      have hd : decide ((j : Int) < (j : Int)) = false := by simp
      clear hs
      go_wp2
      go_ret
      exact ⟨rfl, rfl⟩
end Go.Proofs.Ythadnikhnikceaa
