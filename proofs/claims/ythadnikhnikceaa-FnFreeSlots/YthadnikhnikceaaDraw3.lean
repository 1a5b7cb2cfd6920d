/- What the specification's draws of cells do: they answer some cells in memory of their own and turn nothing but the cursor. -/
import Derived.Test.YthadnikhnikceaaRows
import Derived.Test.YthadnikhnikceaaDraw1
import Derived.Test.YthadnikhnikceaaNewCells
import Derived.Test.YthadnikhnikceaaFree
import Derived.WalkKit
import Derived.WalkSpells
import Derived.WalkLawsBesides
import Derived.Below
import Derived.Deep.AppendLies
import Derived.Deep.Heap
namespace Go.Proofs.Ythadnikhnikceaa
open Go.RowKit
/-- Block b has m numbers that can be written. -/
def IntRoom (w : World) (b m : Nat) : Prop := ∀ j, j < m → ∃ z : Int, w.cell? ⟨b, j, none⟩ = some (.int .i64 z) ∧ w.frozen? ⟨b, j, none⟩ = false
theorem IntRoom.set {w : World} {b m : Nat} (h : IntRoom w b m) (o : Nat) (x : Int) : IntRoom (w.setCell ⟨b, o, none⟩ (.int .i64 x)) b m := fun j hj => by
  obtain ⟨z, h1, h2⟩ := h j hj
  by_cases e : j = o
  · subst e; exact ⟨x, cell_set_same h1, by rw [World.frozen?_setCell]; exact h2⟩
  · exact ⟨z, by rw [cell_set_other e]; exact h1, by rw [World.frozen?_setCell]; exact h2⟩
theorem IntRoom.turned {w w' : World} {b m c : Nat} (h : IntRoom w b m) (ht : Turned c w w') (hb : b < w.heap.size) (hc : b ≠ c) : IntRoom w' b m := fun j hj => by
  obtain ⟨z, h1, h2⟩ := h j hj
  exact ⟨z, (ht.cell (p := ⟨b, j, none⟩) hb hc).trans h1, (ht.frozen (p := ⟨b, j, none⟩) hb hc).trans h2⟩
theorem Turned.put {c b : Nat} {a w : World} (h : Turned c a w) (hb : a.heap.size ≤ b) (o : Nat) (u : Value) : Turned c a (w.setCell ⟨b, o, none⟩ u) :=
  ⟨h.os, h.tape, h.output, by have := h.size; simpa [World.setCell] using this, fun k hk hc => (Below.heap_setCell _ _ _ _ (by simp; omega)).trans (h.block k hk hc)⟩
theorem Cur.put {w : World} {c b : Nat} {a : Option Addr} {n k : Nat} (h : Cur w c a n k) (hb : b ≠ c) (o : Nat) (u : Value) : Cur (w.setCell ⟨b, o, none⟩ u) c a n k := by
  obtain ⟨j, x, h0, hj, c0, c1, c2, f1, f2⟩ := h
  exact ⟨j, x, by simpa [World.setCell] using h0, hj, by rw [cell_set_far (by simpa using hb)]; exact c0, by rw [cell_set_far (by simpa using hb)]; exact c1, by rw [cell_set_far (by simpa using hb)]; exact c2, by rw [World.frozen?_setCell]; exact f1, by rw [World.frozen?_setCell]; exact f2⟩
theorem l1Head_any (w : World) (v : Int) (u l : Bool) : Calls Try.prog 107 #[.int .i64 v, .bool u, .bool l] w fun e w' => ∃ z : Int, e = .returned (.int .i64 z) ∧ w' = w := by
  cases u <;> cases l
  all_goals
    go_enter Try.func107, Try.ntmps107
    go_wp2
    go_ret
    exact ⟨_, rfl, rfl⟩
theorem l1From_50 (w : World) (B c : Nat) (a : Option Addr) (n k : Nat) (hc : Cur w c a n k) (hb : Bytes w B a n) (hB : B ≤ c) :
    Calls Try.prog 109 #[.pointer (some ⟨c, 0, none⟩), .int .i64 (-50), .int .i64 50] w fun e w' => ∃ z : Int, e = .returned (.int .i64 z) ∧ Cur w' c a n k ∧ Turned c w w' := by
  go_enter Try.func109, Try.ntmps109
  go_wp2_with fail
  refine (l1Below_any _ B c a n k _ hc hb hB (by omega)).mono ?_
  rintro e w1 ⟨y, rfl, hy0, hy1, hc1, ht1⟩
  go_wp2
  go_ret
  exact ⟨_, rfl, hc1, ht1⟩
theorem zeros_room {w : World} {g : Nat} {t : TypeId} (h : w.heap[g]? = some (.cells (zeros.flatMap C2.cells).toArray t (0, 0))) : IntRoom w g 12 := fun j hj => by
  refine ⟨0, ?_, by simp [World.frozen?, h]⟩
  rw [cell_of_row w g j _ t (0, 0) h]
  have e : zeros.flatMap C2.cells = List.replicate 12 (.int .i64 0) := rfl
  rw [e, List.getElem?_toArray, List.getElem?_replicate, if_pos hj]
set_option maxHeartbeats 4000000 in
theorem l3Draw_any (w : World) (B c : Nat) (a : Option Addr) (n k : Nat) (hcur : Cur w c a n k) (hb : Bytes w B a n) (hB : B ≤ c) :
    Calls Try.prog 85 #[.pointer (some ⟨c, 0, none⟩)] w fun e w' => ∃ b : Nat, e = .returned (.slice (some ⟨b, 0, none⟩) 6 6) ∧ w.heap.size ≤ b ∧ b < w'.heap.size ∧ IntRoom w' b 12 ∧ Cur w' c a n k ∧ Turned c w w' := by
  have hBw : B ≤ w.heap.size := by have := hcur.lt; omega
  go_enter Try.func85, Try.ntmps85
  go_wp2_with fail
  refine (specNewCells_any _).mono ?_
  rintro e w1 ⟨rfl, h1⟩
  have t1 : Turned c w w1 := by rw [h1]; exact (Turned.refl _ _).alloc _
  have r1 : IntRoom w1 w.heap.size 12 := zeros_room (t := 32) (by rw [h1, ← zeros_made]; exact Go.Deep.blk_alloc_new w _)
  have c1 : Cur w1 c a n k := by rw [h1]; exact hcur.alloc _
  have z1 : w.heap.size < w1.heap.size := by rw [h1]; simp
  have hcl := hcur.lt
  have KB : Hid (Bytes w B a n ∧ B ≤ w.heap.size ∧ c < w.heap.size) := ⟨hb, hBw, hcl⟩
  clear h1 hcur hb hBw hcl
  go_wp2
  go_loopw [4] (fun v wr => ∃ j : Nat, j ≤ 6 ∧ v = .int .i64 j ∧ IntRoom wr w.heap.size 12 ∧ Cur wr c a n k ∧ Turned c w wr ∧ w.heap.size < wr.heap.size) (fun v _ => 6 - (intOf v).toNat)
  case atStart => exact ⟨0, Nat.zero_le _, rfl, r1, c1, t1, z1⟩
  case round =>
    clear r1 c1 t1 z1
    obtain ⟨j, hj, rfl, hr, hc, ht, hz⟩ := hrel
    by_cases hlt : j < 6
    · have hlt' : (j : Int) < 6 := by omega
      have BY : Hid (∀ w', Turned c w w' → Bytes w' B a n) := fun w' h => KB.out.1.below (h.below hB KB.out.2.1)
      have K0 : Hid (IntRoom wr w.heap.size 12 ∧ Cur wr c a n k ∧ Turned c w wr ∧ w.heap.size < wr.heap.size) := ⟨hr, hc, ht, hz⟩
      have hne : Hid (w.heap.size ≠ c) := by unfold Hid; have := KB.out.2.2; omega
      clear hr hc ht hz
      go_wp2_with fail
      refine (l1Once_any _ B c a n k _ K0.out.2.1 (BY.out _ K0.out.2.2.1) hB (by omega)).mono ?_
      rintro e w2 ⟨u, rfl, c2, t2⟩
      have K2 : Hid (IntRoom w2 w.heap.size 12 ∧ Cur w2 c a n k ∧ Turned c w w2 ∧ w.heap.size < w2.heap.size) := ⟨K0.out.1.turned t2 K0.out.2.2.2 hne.out, c2, K0.out.2.2.1.trans t2, Nat.lt_of_lt_of_le K0.out.2.2.2 t2.size⟩
      clear c2 t2 K0
      go_wp2_with fail
      refine (l1Below_any _ B c a n k _ K2.out.2.1 (BY.out _ K2.out.2.2.1) hB (by omega)).mono ?_
      rintro e w3 ⟨y3, rfl, _, _, c3, t3⟩
      have K3 : Hid (IntRoom w3 w.heap.size 12 ∧ Cur w3 c a n k ∧ Turned c w w3 ∧ w.heap.size < w3.heap.size) := ⟨K2.out.1.turned t3 K2.out.2.2.2 hne.out, c3, K2.out.2.2.1.trans t3, Nat.lt_of_lt_of_le K2.out.2.2.2 t3.size⟩
      clear c3 t3 K2
      go_wp2_with fail
      refine (l1Once_any _ B c a n k _ K3.out.2.1 (BY.out _ K3.out.2.2.1) hB (by omega)).mono ?_
      rintro e w4 ⟨y4, rfl, c4, t4⟩
      have K4 : Hid (IntRoom w4 w.heap.size 12 ∧ Cur w4 c a n k ∧ Turned c w w4 ∧ w.heap.size < w4.heap.size) := ⟨K3.out.1.turned t4 K3.out.2.2.2 hne.out, c4, K3.out.2.2.1.trans t4, Nat.lt_of_lt_of_le K3.out.2.2.2 t4.size⟩
      clear c4 t4 K3
      go_wp2_with fail
      refine (l1Head_any _ _ _ _).mono ?_
      rintro e w4 ⟨z, rfl, rfl⟩
      obtain ⟨x0, d0, f0⟩ := K4.out.1 (j * 2) (by omega)
      have K5 : Hid (IntRoom (w4.setCell ⟨w.heap.size, j * 2, none⟩ (.int .i64 z)) w.heap.size 12 ∧ Cur (w4.setCell ⟨w.heap.size, j * 2, none⟩ (.int .i64 z)) c a n k ∧ Turned c w (w4.setCell ⟨w.heap.size, j * 2, none⟩ (.int .i64 z)) ∧ w.heap.size < (w4.setCell ⟨w.heap.size, j * 2, none⟩ (.int .i64 z)).heap.size) := ⟨K4.out.1.set _ _, K4.out.2.1.put hne.out _ _, K4.out.2.2.1.put (Nat.le_refl _) _ _, by simpa [World.setCell] using K4.out.2.2.2⟩
      cases u
      · go_wp2
        exact ⟨⟨j + 1, by omega, by simp, K5.out.1, K5.out.2.1, K5.out.2.2.1, K5.out.2.2.2⟩, by simp [intOf]; omega⟩
      · go_wp2_with fail
        refine (l1From_50 _ B c a n k K5.out.2.1 (BY.out _ K5.out.2.2.1) hB).mono ?_
        rintro e w6 ⟨z6, rfl, c6, t6⟩
        have K6 : Hid (IntRoom w6 w.heap.size 12 ∧ Cur w6 c a n k ∧ Turned c w w6 ∧ w.heap.size < w6.heap.size) := ⟨K5.out.1.turned t6 K5.out.2.2.2 hne.out, c6, K5.out.2.2.1.trans t6, Nat.lt_of_lt_of_le K5.out.2.2.2 t6.size⟩
        obtain ⟨x1, d1, f1⟩ := K6.out.1 (j * 2 + 1) (by omega)
        clear c6 t6 K5 K4 d0 f0
        go_wp2
        exact ⟨⟨j + 1, by omega, by simp, K6.out.1.set _ _, K6.out.2.1.put hne.out _ _, K6.out.2.2.1.put (Nat.le_refl _) _ _, by simpa [World.setCell] using K6.out.2.2.2⟩, by simp [intOf]; omega⟩
    · have : j = 6 := by omega
      subst this
      have K : Hid (IntRoom wr w.heap.size 12 ∧ Cur wr c a n k ∧ Turned c w wr ∧ w.heap.size < wr.heap.size) := ⟨hr, hc, ht, hz⟩
      clear hr hc ht hz
      go_wp2
      go_ret
      exact ⟨w.heap.size, rfl, Nat.le_refl _, K.out.2.2.2, K.out.1, K.out.2.1, K.out.2.2.1⟩
/-- Some cells in a block of the draws' own. -/
def SomeCells (w w' : World) (c : Nat) (e : Value) : Prop := ∃ (b off m cap : Nat), e = .slice (some ⟨b, off, none⟩) m cap ∧ w.heap.size ≤ b ∧ b ≠ c ∧ b < w'.heap.size ∧ IntRoom w' b 12 ∧ off + m * 2 ≤ 12
set_option maxHeartbeats 4000000 in
theorem l3DrawAny_any (w : World) (B c : Nat) (a : Option Addr) (n k : Nat) (hcur : Cur w c a n k) (hb : Bytes w B a n) (hB : B ≤ c) :
    Calls Try.prog 48 #[.pointer (some ⟨c, 0, none⟩)] w fun e w' => ∃ v, e = .returned v ∧ SomeCells w w' c v ∧ Cur w' c a n k ∧ Turned c w w' := by
  have KB : Hid (Bytes w B a n ∧ B ≤ w.heap.size ∧ c < w.heap.size) := ⟨hb, by have := hcur.lt; omega, hcur.lt⟩
  have BY : Hid (∀ w', Turned c w w' → Bytes w' B a n) := fun w' h => KB.out.1.below (h.below hB KB.out.2.1)
  go_enter Try.func48, Try.ntmps48
  go_wp2_with fail
  refine (l3Draw_any _ B c a n k hcur hb hB).mono ?_
  rintro e w1 ⟨b, rfl, hb1, hb2, r1, c1, t1⟩
  have K1 : Hid (IntRoom w1 b 12 ∧ Cur w1 c a n k ∧ Turned c w w1 ∧ b < w1.heap.size) := ⟨r1, c1, t1, hb2⟩
  have hne : Hid (b ≠ c ∧ w.heap.size ≤ b) := by unfold Hid; have := KB.out.2.2; omega
  clear hb1 hb2 r1 c1 t1 hcur hb
  go_wp2_with fail
  refine (l1Once_any _ B c a n k _ K1.out.2.1 (BY.out _ K1.out.2.2.1) hB (by omega)).mono ?_
  rintro e w2 ⟨u, rfl, c2, t2⟩
  have K2 : Hid (IntRoom w2 b 12 ∧ Cur w2 c a n k ∧ Turned c w w2 ∧ b < w2.heap.size) := ⟨K1.out.1.turned t2 K1.out.2.2.2 hne.out.1, c2, K1.out.2.2.1.trans t2, Nat.lt_of_lt_of_le K1.out.2.2.2 t2.size⟩
  clear c2 t2 K1
  cases u
  · go_wp2
    go_ret
    exact ⟨_, rfl, ⟨b, 0, 6, 6, rfl, hne.out.2, hne.out.1, K2.out.2.2.2, K2.out.1, by omega⟩, K2.out.2.1, K2.out.2.2.1⟩
  · go_wp2_with fail
    refine (l1Below_any _ B c a n k _ K2.out.2.1 (BY.out _ K2.out.2.2.1) hB (by omega)).mono ?_
    rintro e w3 ⟨y, rfl, hy0, hy1, c3, t3⟩
    have K3 : Hid (IntRoom w3 b 12 ∧ Cur w3 c a n k ∧ Turned c w w3 ∧ b < w3.heap.size) := ⟨K2.out.1.turned t3 K2.out.2.2.2 hne.out.1, c3, K2.out.2.2.1.trans t3, Nat.lt_of_lt_of_le K2.out.2.2.2 t3.size⟩
    obtain ⟨i, rfl⟩ := Int.eq_ofNat_of_zero_le hy0
    have hi : i < 6 := by omega
    clear c3 t3 K2 hy0
    go_wp2_with fail
    refine (l1Below_any _ B c a n k _ K3.out.2.1 (BY.out _ K3.out.2.2.1) hB (by omega)).mono ?_
    rintro e w4 ⟨y, rfl, hy0, hy3, c4, t4⟩
    have K4 : Hid (IntRoom w4 b 12 ∧ Cur w4 c a n k ∧ Turned c w w4 ∧ b < w4.heap.size) := ⟨K3.out.1.turned t4 K3.out.2.2.2 hne.out.1, c4, K3.out.2.2.1.trans t4, Nat.lt_of_lt_of_le K3.out.2.2.2 t4.size⟩
    clear c4 t4 K3
    obtain rfl | rfl | rfl : y = 0 ∨ y = 1 ∨ y = 2 := by omega
    · clear hy0 hy3
      go_wp2_with fail
      refine (l1DrawHead_any _ B c a n k K4.out.2.1 (BY.out _ K4.out.2.2.1) hB).mono ?_
      rintro e w5 ⟨z, rfl, c5, t5⟩
      have K5 : Hid (IntRoom w5 b 12 ∧ Cur w5 c a n k ∧ Turned c w w5 ∧ b < w5.heap.size) := ⟨K4.out.1.turned t5 K4.out.2.2.2 hne.out.1, c5, K4.out.2.2.1.trans t5, Nat.lt_of_lt_of_le K4.out.2.2.2 t5.size⟩
      obtain ⟨x0, d0, f0⟩ := K5.out.1 (i * 2) (by omega)
      clear c5 t5 K4
      go_wp2
      go_ret
      exact ⟨_, rfl, ⟨b, 0, 6, 6, rfl, hne.out.2, hne.out.1, by simpa [World.setCell] using K5.out.2.2.2, K5.out.1.set _ _, by omega⟩, K5.out.2.1.put hne.out.1 _ _, K5.out.2.2.1.put hne.out.2 _ _⟩
    · clear hy0 hy3
      go_wp2_with fail
      have hw4 : c < w4.heap.size := K4.out.2.1.lt
      refine (l1Below_any _ B c a n k _ (K4.out.2.1.alloc _) (BY.out _ (K4.out.2.2.1.alloc _)) hB (by omega)).mono ?_
      rintro e w5 ⟨y, rfl, hy0, hy4, c5, t5⟩
      obtain ⟨q, rfl⟩ := Int.eq_ofNat_of_zero_le hy0
      obtain ⟨x, hx⟩ := new_int_turned [1000000000, 1000000001, -1000000001, 5] _ hw4 t5 q (by simp; omega)
      have K5 : Hid (IntRoom w5 b 12 ∧ Cur w5 c a n k ∧ Turned c w w5 ∧ b < w5.heap.size) := ⟨(K4.out.1.turned ((Turned.refl c w4).alloc _) K4.out.2.2.2 hne.out.1).turned t5 (by have := K4.out.2.2.2; simp; omega) hne.out.1, c5, (K4.out.2.2.1.alloc _).trans t5, Nat.lt_of_lt_of_le K4.out.2.2.2 (Nat.le_trans (by simp) t5.size)⟩
      obtain ⟨x0, d0, f0⟩ := K5.out.1 (i * 2 + 1) (by omega)
      clear c5 t5 K4
      go_wp2
      go_ret
      exact ⟨_, rfl, ⟨b, 0, 6, 6, rfl, hne.out.2, hne.out.1, by simpa [World.setCell] using K5.out.2.2.2, K5.out.1.set _ _, by omega⟩, K5.out.2.1.put hne.out.1 _ _, K5.out.2.2.1.put hne.out.2 _ _⟩
    · clear hy0 hy3
      go_wp2
      go_ret
      exact ⟨_, rfl, ⟨b, 2, 5, 5, rfl, hne.out.2, hne.out.1, K4.out.2.2.2, K4.out.1, by omega⟩, K4.out.2.1, K4.out.2.2.1⟩
def intVs (zs : List Int) : List Value := zs.map (Value.int .i64)
theorem info_num64 : (Try.prog.info? 2).map (fun i => (i.zero, i.size, i.bytes)) = some (some (.int .i64 0), 1, 8) := by kernel_rfl
theorem row_nums {w : World} {B : Nat} {t : TypeId} {g n cap : Nat} {zs : List Int} (h : w.ownsRow B t 1 (.slice (some ⟨g, 0, none⟩) n cap) n (intVs zs)) : NumsAt w g 0 zs := by
  intro i z e
  rw [Nat.zero_add]
  rcases h.2 with ⟨h0, _⟩ | ⟨g', cap', cur, hv, _, hg, _, _, _, ht⟩
  · cases h0
  · cases hv
    rw [cell_of_row w g i cur t (0, 0) hg]
    have e' : (intVs zs)[i]? = some (.int .i64 z) := by simp [intVs, e]
    rw [← ht, List.getElem?_take] at e'
    split at e'
    · simpa using e'
    · cases e'
theorem turned_of_grown {w w' : World} {g : Nat} (h : w.grownBy w' (some g)) : Turned g w w' := ⟨h.os, h.tape, h.output, h.size, fun k hk hne => h.block k hk (fun e => hne (Option.some.inj e))⟩
theorem SomeCells.turned {w w1 w2 : World} {c c' : Nat} {v : Value} (h : SomeCells w w1 c v) (ht : Turned c' w1 w2) (hb : ∀ b off m cap, v = .slice (some ⟨b, off, none⟩) m cap → b ≠ c') : SomeCells w w2 c v := by
  obtain ⟨b, off, m, cap, rfl, h1, h2, h3, h4, h5⟩ := h
  have hne := hb b off m cap rfl
  exact ⟨b, off, m, cap, rfl, h1, h2, Nat.lt_of_lt_of_le h3 ht.size, h4.turned ht h3 hne, h5⟩
set_option maxHeartbeats 4000000 in
theorem DrawFreeSlot_any (w : World) (a : Option Addr) (n k : Nat) (hb : Bytes w w.heap.size a n) (hn : n ≤ 4096) :
    Calls Try.prog 13 #[.slice a n k] w fun e w' => ∃ (v : Value) (g m cap : Nat) (zs : List Int), e = .returned (.tuple #[v, .slice (some ⟨g, 0, none⟩) m cap]) ∧ (∃ c, SomeCells w w' c v) ∧ zs.length = m ∧ m ≤ 3 ∧ g < w'.heap.size ∧ NumsAt w' g 0 zs ∧ Below w.heap.size w w' := by
  go_enter Try.func13, Try.ntmps13
  go_wp2_with fail
  refine (l1New_any _ a n k hb hn).mono ?_
  rintro e w1 ⟨c, rfl, hc, hcur1, hbe1⟩
  have hb1 : Bytes w1 w.heap.size a n := hb.below hbe1
  have KW : Hid (Below w.heap.size w w1 ∧ Bytes w1 w.heap.size a n ∧ w.heap.size ≤ w1.heap.size) := ⟨hbe1, hb1, hbe1.size⟩
  go_wp2_with fail
  refine (l3DrawAny_any _ w.heap.size c a n k hcur1 hb1 hc).mono ?_
  rintro e w2 ⟨v, rfl, sc, c2, t2⟩
  have BY : Hid (∀ w', Turned c w1 w' → Bytes w' w.heap.size a n) := fun w' h => KW.out.2.1.below (h.below hc KW.out.2.2)
  have K2 : Hid (SomeCells w1 w2 c v ∧ Cur w2 c a n k ∧ Turned c w1 w2) := ⟨sc, c2, t2⟩
  clear sc c2 t2 hcur1 hbe1 hb1 hb
  go_wp2_with fail
  have K3 : Hid (SomeCells w1 (w2.alloc (.cells #[] 2)) c v ∧ Cur (w2.alloc (.cells #[] 2)) c a n k ∧ Turned c w1 (w2.alloc (.cells #[] 2))) := by
    refine ⟨K2.out.1.turned (c' := w2.heap.size) ((Turned.refl _ _).alloc _) ?_, K2.out.2.1.alloc _, K2.out.2.2.alloc _⟩
    rintro b off m cap rfl
    obtain ⟨b', _, _, _, e, _, _, h3, _⟩ := K2.out.1
    cases e
    omega
  refine (l1Below_any _ w.heap.size c a n k _ K3.out.2.1 (BY.out _ K3.out.2.2) hc (by omega)).mono ?_
  rintro e w3 ⟨y, rfl, hy0, hy4, c3, t3⟩
  obtain ⟨i, rfl⟩ := Int.eq_ofNat_of_zero_le hy0
  have hi : i ≤ 3 := by omega
  have hcw : c < w2.heap.size := K2.out.2.1.lt
  have KB : Hid (SomeCells w1 w3 c v ∧ Cur w3 c a n k ∧ Turned c w1 w3 ∧ w3.heap[w2.heap.size]? = some (.cells #[] 2 (0, 0)) ∧ w2.heap.size < w3.heap.size ∧ c < w2.heap.size ∧ (∀ b off m cap, v = .slice (some ⟨b, off, none⟩) m cap → b < w2.heap.size)) := by
    refine ⟨K3.out.1.turned t3 ?_, c3, K3.out.2.2.trans t3, (t3.block _ (by simp) (by omega)).trans (Go.Deep.blk_alloc_new w2 _), Nat.lt_of_lt_of_le (by simp) t3.size, hcw, ?_⟩
    · rintro b off m cap rfl
      obtain ⟨b', _, _, _, e, _, h2, _⟩ := K2.out.1
      cases e
      exact h2
    · rintro b off m cap rfl
      obtain ⟨b', _, _, _, e, _, _, h3, _⟩ := K2.out.1
      cases e
      exact h3
  have KL : Hid (w1.heap.size ≤ w2.heap.size) := K2.out.2.2.size
  clear K3 K2 c3 t3 hy0 hy4 hcw
  go_wp2
  go_loopw [6, 7] (fun v6 v7 wr => ∃ (q g m cap : Nat) (zs : List Int), q + m ≤ 3 ∧ v7 = .int .i64 q ∧ v6 = .slice (some ⟨g, 0, none⟩) m cap ∧ zs.length = m ∧ w2.heap.size ≤ g ∧ g < wr.heap.size ∧ wr.ownsRow w2.heap.size 2 1 (.slice (some ⟨g, 0, none⟩) m cap) m (intVs zs) ∧ SomeCells w1 wr c v ∧ Cur wr c a n k ∧ Turned c w1 wr ∧ w2.heap.size < wr.heap.size) (fun _ v7 _ => (intOf v7).toNat)
  case atStart => exact ⟨i, w2.heap.size, 0, 0, [], by omega, rfl, rfl, rfl, Nat.le_refl _, KB.out.2.2.2.2.1, ⟨rfl, .inr ⟨w2.heap.size, 0, #[], rfl, Nat.le_refl _, KB.out.2.2.2.1, Nat.le_refl _, Nat.zero_le _, rfl, rfl⟩⟩, KB.out.1, KB.out.2.1, KB.out.2.2.1, KB.out.2.2.2.2.1⟩
  case round =>
    obtain ⟨q, g, m, cap, zs, hqm, rfl, rfl, hzl, hg1, hg2, hown, sc, hcu, ht, hsz⟩ := hrel
    have KV : Hid (c < w2.heap.size ∧ ∀ b off m cap, v = .slice (some ⟨b, off, none⟩) m cap → b < w2.heap.size) := ⟨KB.out.2.2.2.2.2.1, KB.out.2.2.2.2.2.2⟩
    have KO : Hid (wr.ownsRow w2.heap.size 2 1 (.slice (some ⟨g, 0, none⟩) m cap) m (intVs zs) ∧ SomeCells w1 wr c v ∧ Cur wr c a n k ∧ Turned c w1 wr ∧ zs.length = m) := ⟨hown, sc, hcu, ht, hzl⟩
    clear hown sc hcu ht hzl
    cases q with
    | zero =>
      go_wp2
      go_ret2
      obtain ⟨hown, sc, hcu, ht, hzl⟩ := KO.out
      refine ⟨v, g, m, cap, zs, rfl, ⟨c, ?_⟩, hzl, by omega, hg2, row_nums hown, KW.out.1.trans (ht.below hc KW.out.2.2)⟩
      obtain ⟨b, off, m', cap', rfl, h1, h2, h3, h4, h5⟩ := sc
      exact ⟨b, off, m', cap', rfl, Nat.le_trans KW.out.2.2 h1, h2, h3, h4, h5⟩
    | succ q =>
      have hq : (0 : Int) < ((q + 1 : Nat) : Int) := by omega
      go_wp2_with fail
      refine (l1Below_any _ w.heap.size c a n k _ KO.out.2.2.1 (BY.out _ KO.out.2.2.2.1) hc (by omega)).mono ?_
      rintro e w4 ⟨z, rfl, _, _, c4, t4⟩
      have hgc : g ≠ c := by have := KV.out.1; omega
      have K4 : Hid (w4.ownsRow w2.heap.size 2 1 (.slice (some ⟨g, 0, none⟩) m cap) m (intVs zs) ∧ SomeCells w1 w4 c v ∧ Cur w4 c a n k ∧ Turned c w1 w4 ∧ zs.length = m ∧ w2.heap.size < w4.heap.size ∧ g < w4.heap.size) := by
        refine ⟨KO.out.1.kept (row := some c) ⟨t4.os, t4.tape, t4.output, t4.size, fun j hj hne => t4.block j hj (fun e => hne (by rw [e]))⟩ (.inr (by simp [Value.ownBlock]; exact hgc)), KO.out.2.1.turned t4 ?_, c4, KO.out.2.2.2.1.trans t4, KO.out.2.2.2.2, Nat.lt_of_lt_of_le hsz t4.size, Nat.lt_of_lt_of_le hg2 t4.size⟩
        rintro b off m' cap' rfl
        obtain ⟨b', _, _, _, e, _, h2, _⟩ := KO.out.2.1
        cases e
        exact h2
      clear c4 t4 KO
      have hownA : Hid ((w4.alloc (.cells #[(.int .i64 z)] 2)).ownsRow w2.heap.size 2 1 (.slice (some ⟨g, 0, none⟩) m cap) m (intVs zs)) := K4.out.1.alloc _
      have hnewsA : Hid (∀ (j : Nat) (u : Value), ([(.int .i64 z)] : List Value)[j]? = some u → (w4.alloc (.cells #[(.int .i64 z)] 2)).cell? ((⟨w4.heap.size, 0, none⟩ : Addr).add j) = some u) := World.news_of_block (w := w4.alloc (.cells #[(.int .i64 z)] 2)) (B := w4.heap.size) (cs := #[(.int .i64 z)]) (t := 2) (fr := (0, 0)) (Go.Deep.blk_alloc_new w4 _)
      have hA1 : Hid (m + 1 ≤ maxLen) := by unfold Hid maxLen; omega
      have hA2 : Hid ((m + 1) * 8 ≤ 140737488355328) := by unfold Hid; omega
      have hA3 : Hid (w2.heap.size ≤ (w4.alloc (.cells #[(.int .i64 z)] 2)).heap.size) := by unfold Hid; have := K4.out.2.2.2.2.2.1; simp; omega
      have hA4 : Hid ((w4.alloc (.cells #[(.int .i64 z)] 2)).heap.size = w4.heap.size + 1) := by unfold Hid; simp
      obtain ⟨i0, hi0, hz0, hz1, hz2⟩ := info_parts info_num64
      go_wp2_with (at_builtin; refine wpList_append_lies (w4.alloc (.cells #[(.int .i64 z)] 2)) rfl (.tmp 19) (.tmp 22) 25 rfl w2.heap.size 2 i0 (.int .i64 0) 1 8 Try.underlying25 hi0 hz0 hz1 hz2 rfl (by decide) (.slice (some ⟨g, 0, none⟩) m cap) m _ rfl hownA.out ⟨w4.heap.size, 0, none⟩ 1 1 [(.int .i64 z)] rfl rfl hnewsA.out (by intro u hu; simp at hu; subst hu; rfl) (by decide) hA1.out hA2.out hA3.out (w4.heap.size + 1) hA4.out ?_; intro g2 cap2 w5 hown5 hgrow hat hlt5; have K5 : Hid (w5.ownsRow w2.heap.size 2 1 (.slice (some ⟨g2, 0, none⟩) (m + 1) cap2) (m + 1) (intVs zs ++ [(.int .i64 z)]) ∧ (g = g2 ∨ g2 = w4.heap.size + 1) ∧ g2 < w5.heap.size ∧ World.grownBy (w4.alloc (.cells #[(.int .i64 z)] 2)) w5 (some g)) := ⟨hown5, (by rcases hat with h | h; exact .inl (Option.some.inj h); exact .inr h), hlt5, hgrow⟩; clear hown5 hgrow hat hlt5)
      obtain ⟨o5, hat, hlt5, hgrow⟩ := K5.out
      obtain ⟨_, sc, hcu, ht, hzl, h24, hg4⟩ := K4.out
      have tg := turned_of_grown hgrow
      have ta : Turned w4.heap.size w4 (w4.alloc (.cells #[(.int .i64 z)] 2)) := (Turned.refl _ _).alloc _
      have t15 : Turned c w1 w5 := Turned.grown (ht.alloc _) hgrow fun r e => by cases e; exact Nat.le_trans KL.out hg1
      refine ⟨⟨q, g2, m + 1, cap2, zs ++ [z], by omega, by simp, rfl, by simp [hzl], ?_, hlt5, by simpa [intVs] using o5, ?_, ?_, t15, Nat.lt_of_lt_of_le h24 (Nat.le_trans ta.size tg.size)⟩, by simp [intOf]⟩
      · rcases hat with h | h <;> omega
      · refine (sc.turned ta ?_).turned tg ?_
        · intro b off m' cap' e
          have := KV.out.2 b off m' cap' e
          omega
        · intro b off m' cap' e
          have := KV.out.2 b off m' cap' e
          omega
      · exact (hcu.alloc _).turned tg (fun e => hgc e.symm)
end Go.Proofs.Ythadnikhnikceaa
