/- DrawH; NewCs; Drw3: joined. -/
import Derived.Test.YtooalbdlknheeaaGreatRows
import Derived.Test.YtooalbdlknheeaaGreatJ30LawMachines
import Derived.WalkKit
import Derived.WalkSpells
import Derived.WalkLawsBesides
import Derived.Below
import Derived.Test.YtooalbdlknheeaaGreatCellsJ
import Derived.Deep.Heap
import Derived.Deep.AppendLies
import Derived.Test.YtooalbdlknheeaaGreatJ0LawMachines
/- What the specification's draw of a head does. -/
namespace Go.Proofs.YtooalbdlknheeaaGreat
open Go.RowKit
set_option maxHeartbeats 1000000 in
theorem l1DrawHead_any (w : World) (B c : Nat) (a : Option Addr) (n k : Nat) (hcur : Cur w c a n k) (hb : Bytes w B a n) (hc : B ≤ c) :
    Calls Tryz.prog 108 #[.pointer (some ⟨c, 0, none⟩)] w fun e w' => ∃ v : Int, e = .returned (.int .i64 v) ∧ Cur w' c a n k ∧ Turned c w w' := by
  have hs : B ≤ w.heap.size := by have := hcur.lt; omega
  go_enter Tryz.func108, Tryz.ntmps108
  go_wp2_with fail
  refine (l1Once_any _ B c a n k _ hcur hb hc (by omega)).mono ?_
  rintro e w1 ⟨y1, rfl, hcur1, ht1⟩
  have hb1 := hb.below (ht1.below hc hs)
  cases y1
  · go_wp2_with fail
    refine (l1Below_any _ B c a n k _ hcur1 hb1 hc (by omega)).mono ?_
    rintro e w2 ⟨y2, rfl, hy20, hy21, hcur2, ht2⟩
    go_wp2
    go_ret
    exact ⟨_, rfl, hcur2, ht1.trans ht2⟩
  · go_wp2_with fail
    have hs1 : B ≤ w1.heap.size := Nat.le_trans hs ht1.size
    refine (l1Below_any _ B c a n k _ (hcur1.alloc _) (hb1.below ((Below.refl _ _).alloc hs1 _)) hc (by omega)).mono ?_
    rintro e w2 ⟨y2, rfl, hy20, hy21, hcur2, ht2⟩
    obtain ⟨i, rfl⟩ := Int.eq_ofNat_of_zero_le hy20
    obtain ⟨x, hx⟩ := new_int_turned [-1, 0, 4000003, 4000004, 4000000, 4611686018427387904, -9223372036854775808] _ hcur1.lt ht2 i (by simp; omega)
    go_wp2
    go_ret
    exact ⟨_, rfl, hcur2, (ht1.alloc _).trans ht2⟩
end Go.Proofs.YtooalbdlknheeaaGreat
/- Six zero cells of the specification. -/
namespace Go.Proofs.YtooalbdlknheeaaGreat
open Go.RowKit
theorem info_cell_size : (Tryz.prog.info? 101).map (·.size) = some 2 := by kernel_rfl
theorem make_six : ∀ w : World, (Instr.makeSlice 29 (.int .i64 6) (.int .i64 6)).run Tryz.prog w = .ok (.slice (some ⟨w.heap.size, 0, none⟩) 6 6) (w.alloc (.cells (madeCells #[.int .i64 0, .int .i64 0] 12) 101)) := fun w => make_cells 6 (by omega) w
theorem specNewCells_any (w : World) : Calls Tryz.prog 154 #[] w fun e w' => e = .returned (.slice (some ⟨w.heap.size, 0, none⟩) 6 6) ∧ w' = w.alloc (.cells (madeCells #[.int .i64 0, .int .i64 0] 12) 101) := by
  have hmk := make_six
  go_enter Tryz.func154, Tryz.ntmps154
  go_wp2
  go_ret
  exact ⟨rfl, rfl⟩
def zeros : List C2 := List.replicate 6 ⟨0, 0⟩
theorem zeros_made : (madeCells #[.int .i64 0, .int .i64 0] 12) = (zeros.flatMap C2.cells).toArray := by kernel_rfl
end Go.Proofs.YtooalbdlknheeaaGreat
/- What the specification's draws of cells do: they answer some cells in memory of their own and turn nothing but the cursor. -/
namespace Go.Proofs.YtooalbdlknheeaaGreat
open Go.RowKit
/-- Block b has m numbers that can be written. -/
def IntRoom (w : World) (b m : Nat) : Prop := ∀ j, j < m → ∃ z : Int, w.cell? ⟨b, j, none⟩ = some (.int .i64 z) ∧ w.frozen? ⟨b, j, none⟩ = false
theorem IntRoom.set {w : World} {b m : Nat} (h : IntRoom w b m) (o : Nat) (x : Int) : IntRoom (w.setCell ⟨b, o, none⟩ (.int .i64 x)) b m := fun j hj => by
  obtain ⟨z, h1, h2⟩ := h j hj
  by_cases e : j = o
  · subst e; exact ⟨x, cell_set_same h1, by rw [World.frozen?_setCell]; exact h2⟩
  · exact ⟨z, by rw [cell_set_other e]; exact h1, by rw [World.frozen?_setCell]; exact h2⟩
theorem IntRoom.turned {w w' : World} {b m c : Nat} (h : IntRoom w b m) (ht : Turned c w w') (hb : b < w.heap.size) (hc : b ≠ c) : IntRoom w' b m := fun j hj => by
  obtain ⟨z, h1, h2⟩ := h j hj
  exact ⟨z, (ht.cell (p := ⟨b, j, none⟩) hb hc).trans h1, (ht.frozen (p := ⟨b, j, none⟩) hb hc).trans h2⟩
theorem l1Head_any (w : World) (v : Int) (u l : Bool) : Calls Tryz.prog 155 #[.int .i64 v, .bool u, .bool l] w fun e w' => ∃ z : Int, e = .returned (.int .i64 z) ∧ w' = w := by
  cases u <;> cases l
  all_goals
    go_enter Tryz.func155, Tryz.ntmps155
    go_wp2
    go_ret
    exact ⟨_, rfl, rfl⟩
theorem l1From_50 (w : World) (B c : Nat) (a : Option Addr) (n k : Nat) (hc : Cur w c a n k) (hb : Bytes w B a n) (hB : B ≤ c) :
    Calls Tryz.prog 156 #[.pointer (some ⟨c, 0, none⟩), .int .i64 (-50), .int .i64 50] w fun e w' => ∃ z : Int, e = .returned (.int .i64 z) ∧ Cur w' c a n k ∧ Turned c w w' := by
  go_enter Tryz.func156, Tryz.ntmps156
  go_wp2_with fail
  refine (l1Below_any _ B c a n k _ hc hb hB (by omega)).mono ?_
  rintro e w1 ⟨y, rfl, hy0, hy1, hc1, ht1⟩
  go_wp2
  go_ret
  exact ⟨_, rfl, hc1, ht1⟩
theorem zeros_room {w : World} {g : Nat} {t : TypeId} (h : w.heap[g]? = some (.cells (zeros.flatMap C2.cells).toArray t (0, 0))) : IntRoom w g 12 := fun j hj => by
  refine ⟨0, ?_, by simp [World.frozen?, h]⟩
  rw [cell_of_row w g j _ t (0, 0) h]
  have e : zeros.flatMap C2.cells = List.replicate 12 (.int .i64 0) := rfl
  rw [e, List.getElem?_toArray, List.getElem?_replicate, if_pos hj]
set_option maxHeartbeats 4000000 in
theorem l3Draw_any (w : World) (B c : Nat) (a : Option Addr) (n k : Nat) (hcur : Cur w c a n k) (hb : Bytes w B a n) (hB : B ≤ c) :
    Calls Tryz.prog 107 #[.pointer (some ⟨c, 0, none⟩)] w fun e w' => ∃ b : Nat, e = .returned (.slice (some ⟨b, 0, none⟩) 6 6) ∧ w.heap.size ≤ b ∧ b < w'.heap.size ∧ IntRoom w' b 12 ∧ Cur w' c a n k ∧ Turned c w w' := by
  have hBw : B ≤ w.heap.size := by have := hcur.lt; omega
  go_enter Tryz.func107, Tryz.ntmps107
  go_wp2_with fail
  refine (specNewCells_any _).mono ?_
  rintro e w1 ⟨rfl, h1⟩
  have t1 : Turned c w w1 := by rw [h1]; exact (Turned.refl _ _).alloc _
  have r1 : IntRoom w1 w.heap.size 12 := zeros_room (t := 101) (by rw [h1, ← zeros_made]; exact Go.Deep.blk_alloc_new w _)
  have c1 : Cur w1 c a n k := by rw [h1]; exact hcur.alloc _
  have z1 : w.heap.size < w1.heap.size := by rw [h1]; simp
  have hcl := hcur.lt
  have KB : Hid (Bytes w B a n ∧ B ≤ w.heap.size ∧ c < w.heap.size) := ⟨hb, hBw, hcl⟩
  clear h1 hcur hb hBw hcl
  go_wp2
  go_loopw [4] (fun v wr => ∃ j : Nat, j ≤ 6 ∧ v = .int .i64 j ∧ IntRoom wr w.heap.size 12 ∧ Cur wr c a n k ∧ Turned c w wr ∧ w.heap.size < wr.heap.size) (fun v _ => 6 - (intOf v).toNat)
  case atStart => exact ⟨0, Nat.zero_le _, rfl, r1, c1, t1, z1⟩
  case round =>
    clear r1 c1 t1 z1
    obtain ⟨j, hj, rfl, hr, hc, ht, hz⟩ := hrel
    by_cases hlt : j < 6
    · have hlt' : (j : Int) < 6 := by omega
      have BY : Hid (∀ w', Turned c w w' → Bytes w' B a n) := fun w' h => KB.out.1.below (h.below hB KB.out.2.1)
      have K0 : Hid (IntRoom wr w.heap.size 12 ∧ Cur wr c a n k ∧ Turned c w wr ∧ w.heap.size < wr.heap.size) := ⟨hr, hc, ht, hz⟩
      have hne : Hid (w.heap.size ≠ c) := by unfold Hid; have := KB.out.2.2; omega
      clear hr hc ht hz
      go_wp2_with fail
      refine (l1Once_any _ B c a n k _ K0.out.2.1 (BY.out _ K0.out.2.2.1) hB (by omega)).mono ?_
      rintro e w2 ⟨u, rfl, c2, t2⟩
      have K2 : Hid (IntRoom w2 w.heap.size 12 ∧ Cur w2 c a n k ∧ Turned c w w2 ∧ w.heap.size < w2.heap.size) := ⟨K0.out.1.turned t2 K0.out.2.2.2 hne.out, c2, K0.out.2.2.1.trans t2, Nat.lt_of_lt_of_le K0.out.2.2.2 t2.size⟩
      clear c2 t2 K0
      go_wp2_with fail
      refine (l1Below_any _ B c a n k _ K2.out.2.1 (BY.out _ K2.out.2.2.1) hB (by omega)).mono ?_
      rintro e w3 ⟨y3, rfl, _, _, c3, t3⟩
      have K3 : Hid (IntRoom w3 w.heap.size 12 ∧ Cur w3 c a n k ∧ Turned c w w3 ∧ w.heap.size < w3.heap.size) := ⟨K2.out.1.turned t3 K2.out.2.2.2 hne.out, c3, K2.out.2.2.1.trans t3, Nat.lt_of_lt_of_le K2.out.2.2.2 t3.size⟩
      clear c3 t3 K2
      go_wp2_with fail
      refine (l1Once_any _ B c a n k _ K3.out.2.1 (BY.out _ K3.out.2.2.1) hB (by omega)).mono ?_
      rintro e w4 ⟨y4, rfl, c4, t4⟩
      have K4 : Hid (IntRoom w4 w.heap.size 12 ∧ Cur w4 c a n k ∧ Turned c w w4 ∧ w.heap.size < w4.heap.size) := ⟨K3.out.1.turned t4 K3.out.2.2.2 hne.out, c4, K3.out.2.2.1.trans t4, Nat.lt_of_lt_of_le K3.out.2.2.2 t4.size⟩
      clear c4 t4 K3
      go_wp2_with fail
      refine (l1Head_any _ _ _ _).mono ?_
      rintro e w4 ⟨z, rfl, rfl⟩
      obtain ⟨x0, d0, f0⟩ := K4.out.1 (j * 2) (by omega)
      have K5 : Hid (IntRoom (w4.setCell ⟨w.heap.size, j * 2, none⟩ (.int .i64 z)) w.heap.size 12 ∧ Cur (w4.setCell ⟨w.heap.size, j * 2, none⟩ (.int .i64 z)) c a n k ∧ Turned c w (w4.setCell ⟨w.heap.size, j * 2, none⟩ (.int .i64 z)) ∧ w.heap.size < (w4.setCell ⟨w.heap.size, j * 2, none⟩ (.int .i64 z)).heap.size) := ⟨K4.out.1.set _ _, K4.out.2.1.put hne.out _ _, K4.out.2.2.1.put (Nat.le_refl _) _ _, by simpa [World.setCell] using K4.out.2.2.2⟩
      cases u
      · go_wp2
        exact ⟨⟨j + 1, by omega, by simp, K5.out.1, K5.out.2.1, K5.out.2.2.1, K5.out.2.2.2⟩, by simp [intOf]; omega⟩
      · go_wp2_with fail
        refine (l1From_50 _ B c a n k K5.out.2.1 (BY.out _ K5.out.2.2.1) hB).mono ?_
        rintro e w6 ⟨z6, rfl, c6, t6⟩
        have K6 : Hid (IntRoom w6 w.heap.size 12 ∧ Cur w6 c a n k ∧ Turned c w w6 ∧ w.heap.size < w6.heap.size) := ⟨K5.out.1.turned t6 K5.out.2.2.2 hne.out, c6, K5.out.2.2.1.trans t6, Nat.lt_of_lt_of_le K5.out.2.2.2 t6.size⟩
        obtain ⟨x1, d1, f1⟩ := K6.out.1 (j * 2 + 1) (by omega)
        clear c6 t6 K5 K4 d0 f0
        go_wp2
        exact ⟨⟨j + 1, by omega, by simp, K6.out.1.set _ _, K6.out.2.1.put hne.out _ _, K6.out.2.2.1.put (Nat.le_refl _) _ _, by simpa [World.setCell] using K6.out.2.2.2⟩, by simp [intOf]; omega⟩
    · have : j = 6 := by omega
      subst this
      have K : Hid (IntRoom wr w.heap.size 12 ∧ Cur wr c a n k ∧ Turned c w wr ∧ w.heap.size < wr.heap.size) := ⟨hr, hc, ht, hz⟩
      clear hr hc ht hz
      go_wp2
      go_ret
      exact ⟨w.heap.size, rfl, Nat.le_refl _, K.out.2.2.2, K.out.1, K.out.2.1, K.out.2.2.1⟩
/-- Some cells in a block of the draws' own. -/
def SomeCells (w w' : World) (c : Nat) (e : Value) : Prop := ∃ (b off m cap : Nat), e = .slice (some ⟨b, off, none⟩) m cap ∧ w.heap.size ≤ b ∧ b ≠ c ∧ b < w'.heap.size ∧ IntRoom w' b 12 ∧ off + m * 2 ≤ 12 ∧ m ≤ cap
set_option maxHeartbeats 4000000 in
theorem l3DrawAny_any (w : World) (B c : Nat) (a : Option Addr) (n k : Nat) (hcur : Cur w c a n k) (hb : Bytes w B a n) (hB : B ≤ c) :
    Calls Tryz.prog 49 #[.pointer (some ⟨c, 0, none⟩)] w fun e w' => ∃ v, e = .returned v ∧ SomeCells w w' c v ∧ Cur w' c a n k ∧ Turned c w w' := by
  have KB : Hid (Bytes w B a n ∧ B ≤ w.heap.size ∧ c < w.heap.size) := ⟨hb, by have := hcur.lt; omega, hcur.lt⟩
  have BY : Hid (∀ w', Turned c w w' → Bytes w' B a n) := fun w' h => KB.out.1.below (h.below hB KB.out.2.1)
  go_enter Tryz.func49, Tryz.ntmps49
  go_wp2_with fail
  refine (l3Draw_any _ B c a n k hcur hb hB).mono ?_
  rintro e w1 ⟨b, rfl, hb1, hb2, r1, c1, t1⟩
  have K1 : Hid (IntRoom w1 b 12 ∧ Cur w1 c a n k ∧ Turned c w w1 ∧ b < w1.heap.size) := ⟨r1, c1, t1, hb2⟩
  have hne : Hid (b ≠ c ∧ w.heap.size ≤ b) := by unfold Hid; have := KB.out.2.2; omega
  clear hb1 hb2 r1 c1 t1 hcur hb
  go_wp2_with fail
  refine (l1Once_any _ B c a n k _ K1.out.2.1 (BY.out _ K1.out.2.2.1) hB (by omega)).mono ?_
  rintro e w2 ⟨u, rfl, c2, t2⟩
  have K2 : Hid (IntRoom w2 b 12 ∧ Cur w2 c a n k ∧ Turned c w w2 ∧ b < w2.heap.size) := ⟨K1.out.1.turned t2 K1.out.2.2.2 hne.out.1, c2, K1.out.2.2.1.trans t2, Nat.lt_of_lt_of_le K1.out.2.2.2 t2.size⟩
  clear c2 t2 K1
  cases u
  · go_wp2
    go_ret
    exact ⟨_, rfl, ⟨b, 0, 6, 6, rfl, hne.out.2, hne.out.1, K2.out.2.2.2, K2.out.1, by omega, by omega⟩, K2.out.2.1, K2.out.2.2.1⟩
  · go_wp2_with fail
    refine (l1Below_any _ B c a n k _ K2.out.2.1 (BY.out _ K2.out.2.2.1) hB (by omega)).mono ?_
    rintro e w3 ⟨y, rfl, hy0, hy1, c3, t3⟩
    have K3 : Hid (IntRoom w3 b 12 ∧ Cur w3 c a n k ∧ Turned c w w3 ∧ b < w3.heap.size) := ⟨K2.out.1.turned t3 K2.out.2.2.2 hne.out.1, c3, K2.out.2.2.1.trans t3, Nat.lt_of_lt_of_le K2.out.2.2.2 t3.size⟩
    obtain ⟨i, rfl⟩ := Int.eq_ofNat_of_zero_le hy0
    have hi : i < 6 := by omega
    clear c3 t3 K2 hy0
    go_wp2_with fail
    refine (l1Below_any _ B c a n k _ K3.out.2.1 (BY.out _ K3.out.2.2.1) hB (by omega)).mono ?_
    rintro e w4 ⟨y, rfl, hy0, hy3, c4, t4⟩
    have K4 : Hid (IntRoom w4 b 12 ∧ Cur w4 c a n k ∧ Turned c w w4 ∧ b < w4.heap.size) := ⟨K3.out.1.turned t4 K3.out.2.2.2 hne.out.1, c4, K3.out.2.2.1.trans t4, Nat.lt_of_lt_of_le K3.out.2.2.2 t4.size⟩
    clear c4 t4 K3
    obtain rfl | rfl | rfl : y = 0 ∨ y = 1 ∨ y = 2 := by omega
    · clear hy0 hy3
      go_wp2_with fail
      refine (l1DrawHead_any _ B c a n k K4.out.2.1 (BY.out _ K4.out.2.2.1) hB).mono ?_
      rintro e w5 ⟨z, rfl, c5, t5⟩
      have K5 : Hid (IntRoom w5 b 12 ∧ Cur w5 c a n k ∧ Turned c w w5 ∧ b < w5.heap.size) := ⟨K4.out.1.turned t5 K4.out.2.2.2 hne.out.1, c5, K4.out.2.2.1.trans t5, Nat.lt_of_lt_of_le K4.out.2.2.2 t5.size⟩
      obtain ⟨x0, d0, f0⟩ := K5.out.1 (i * 2) (by omega)
      clear c5 t5 K4
      go_wp2
      go_ret
      exact ⟨_, rfl, ⟨b, 0, 6, 6, rfl, hne.out.2, hne.out.1, by simpa [World.setCell] using K5.out.2.2.2, K5.out.1.set _ _, by omega, by omega⟩, K5.out.2.1.put hne.out.1 _ _, K5.out.2.2.1.put hne.out.2 _ _⟩
    · clear hy0 hy3
      go_wp2_with fail
      have hw4 : c < w4.heap.size := K4.out.2.1.lt
      refine (l1Below_any _ B c a n k _ (K4.out.2.1.alloc _) (BY.out _ (K4.out.2.2.1.alloc _)) hB (by omega)).mono ?_
      rintro e w5 ⟨y, rfl, hy0, hy4, c5, t5⟩
      obtain ⟨q, rfl⟩ := Int.eq_ofNat_of_zero_le hy0
      obtain ⟨x, hx⟩ := new_int_turned [1000000000, 1000000001, -1000000001, 5] _ hw4 t5 q (by simp; omega)
      have K5 : Hid (IntRoom w5 b 12 ∧ Cur w5 c a n k ∧ Turned c w w5 ∧ b < w5.heap.size) := ⟨(K4.out.1.turned ((Turned.refl c w4).alloc _) K4.out.2.2.2 hne.out.1).turned t5 (by have := K4.out.2.2.2; simp; omega) hne.out.1, c5, (K4.out.2.2.1.alloc _).trans t5, Nat.lt_of_lt_of_le K4.out.2.2.2 (Nat.le_trans (by simp) t5.size)⟩
      obtain ⟨x0, d0, f0⟩ := K5.out.1 (i * 2 + 1) (by omega)
      clear c5 t5 K4
      go_wp2
      go_ret
      exact ⟨_, rfl, ⟨b, 0, 6, 6, rfl, hne.out.2, hne.out.1, by simpa [World.setCell] using K5.out.2.2.2, K5.out.1.set _ _, by omega, by omega⟩, K5.out.2.1.put hne.out.1 _ _, K5.out.2.2.1.put hne.out.2 _ _⟩
    · clear hy0 hy3
      go_wp2
      go_ret
      exact ⟨_, rfl, ⟨b, 2, 5, 5, rfl, hne.out.2, hne.out.1, K4.out.2.2.2, K4.out.1, by omega, by omega⟩, K4.out.2.1, K4.out.2.2.1⟩
end Go.Proofs.YtooalbdlknheeaaGreat
