/- What the specification's draws of Sets do: some Set, its numbers of int64's range; nothing but the cursor is turned. -/
import Derived.Test.YtooalbdlknheeaaGreatRows
import Derived.Test.YtooalbdlknheeaaGreatJ30LawMachines
import Derived.Test.YtooalbdlknheeaaGreatJ0LawMachines
import Derived.Test.YtooalbdlknheeaaGreatJ23LawMachines
import Derived.Test.YtooalbdlknheeaaGreatJ32LawMachines
import Derived.WalkKit
import Derived.WalkSpells
import Derived.WalkLawsBesides
import Derived.Below
import Derived.Deep.AppendLies
import Derived.Deep.Heap
namespace Go.Proofs.YtooalbdlknheeaaGreat
open Go.RowKit
def i64 (n : Int) : Prop := -9223372036854775808 ≤ n ∧ n ≤ 9223372036854775807
theorem own_roomC {w : World} {base g m cap : Nat} {vs : List Value} (h : w.ownsRow base 139 5 (.slice (some ⟨g, 0, none⟩) m cap) m vs) : Room w g (m * 5) ∧ m ≤ cap := by
  obtain ⟨hB, _, h1, _⟩ := cells_of_owns h
  exact ⟨fun j hj => hB.room j (by omega), h1⟩
theorem l1From_bd (w : World) (B c : Nat) (a : Option Addr) (n k : Nat) (hc : Cur w c a n k) (hb : Bytes w B a n) (hB : B ≤ c) :
    Calls Tryz.prog 156 #[.pointer (some ⟨c, 0, none⟩), .int .i64 (-50), .int .i64 50] w fun e w' => ∃ z : Int, e = .returned (.int .i64 z) ∧ -50 ≤ z ∧ z ≤ 50 ∧ Cur w' c a n k ∧ Turned c w w' := by
  go_enter Tryz.func156, Tryz.ntmps156
  go_wp2_with fail
  refine (l1Below_any _ B c a n k _ hc hb hB (by omega)).mono ?_
  rintro e w1 ⟨y, rfl, hy0, hy1, hc1, ht1⟩
  go_wp2
  go_ret
  exact ⟨_, rfl, by omega, by omega, hc1, ht1⟩
def fits5 (s : S5) : Prop := i64 s.region ∧ i64 s.slot ∧ i64 s.value ∧ i64 s.version
/-- A block of the draws' own holds a Set that can be written. -/
def SetBox (w : World) (q : Nat) (s : S5) : Prop := SetAt w q 0 s ∧ ∀ j, j < 5 → w.frozen? ⟨q, j, none⟩ = false
theorem SetBox.turned {w w' : World} {q c : Nat} {s : S5} (h : SetBox w q s) (ht : Turned c w w') (hq : q < w.heap.size) (hc : q ≠ c) : SetBox w' q s :=
  ⟨⟨(ht.cell (p := ⟨q, _, none⟩) hq hc).trans h.1.c0, (ht.cell (p := ⟨q, _, none⟩) hq hc).trans h.1.c1, (ht.cell (p := ⟨q, _, none⟩) hq hc).trans h.1.c2, (ht.cell (p := ⟨q, _, none⟩) hq hc).trans h.1.c3, (ht.cell (p := ⟨q, _, none⟩) hq hc).trans h.1.c4⟩, fun j hj => (ht.frozen (p := ⟨q, j, none⟩) hq hc).trans (h.2 j hj)⟩
theorem SetBox.new (w : World) (s : S5) (t : TypeId) : SetBox (w.alloc (.cells #[.int .i64 s.region, .int .i64 s.slot, .int .i64 s.value, .bool s.used, .int .i64 s.version] t)) w.heap.size s :=
  ⟨⟨by go_simp, by go_simp, by go_simp, by go_simp, by go_simp⟩, fun j _ => by go_simp⟩
theorem new_in (w : World) (zs : List Int) (t : TypeId) (i : Nat) (hi : i < zs.length) : ∃ x ∈ zs, (w.alloc (.cells (zs.map fun z => Value.int .i64 z).toArray t)).cell? ⟨w.heap.size, i, none⟩ = some (.int .i64 x) := by
  refine ⟨zs[i], List.getElem_mem hi, ?_⟩
  rw [World.cell?_alloc_new]
  simp [hi]
theorem new_in_turned {w w' : World} {c : Nat} (zs : List Int) (t : TypeId) (hc : c < w.heap.size) (ht : Turned c (w.alloc (.cells (zs.map fun z => Value.int .i64 z).toArray t)) w') (i : Nat) (hi : i < zs.length) : ∃ x ∈ zs, w'.cell? ⟨w.heap.size, i, none⟩ = some (.int .i64 x) := by
  obtain ⟨x, hm, hx⟩ := new_in w zs t i hi
  exact ⟨x, hm, (World.cell?_of_block (a := ⟨w.heap.size, i, none⟩) (ht.block w.heap.size (by simp) (by omega))).trans hx⟩
set_option maxHeartbeats 4000000 in
theorem l2DrawSet_any (w : World) (B c : Nat) (a : Option Addr) (n k : Nat) (r : Int) (hr : 0 ≤ r ∧ r ≤ 1000) (hcur : Cur w c a n k) (hb : Bytes w B a n) (hB : B ≤ c) :
    Calls Tryz.prog 166 #[.pointer (some ⟨c, 0, none⟩), .int .i64 r] w fun e w' => ∃ s : S5, e = .returned (.agg #[.int .i64 s.region, .int .i64 s.slot, .int .i64 s.value, .bool s.used, .int .i64 s.version]) ∧ fits5 s ∧ Cur w' c a n k ∧ Turned c w w' := by
  have KB : Hid (Bytes w B a n ∧ B ≤ w.heap.size ∧ c < w.heap.size) := ⟨hb, by have := hcur.lt; omega, hcur.lt⟩
  have BY : Hid (∀ w', Turned c w w' → Bytes w' B a n) := fun w' h => KB.out.1.below (h.below hB KB.out.2.1)
  go_enter Tryz.func166, Tryz.ntmps166
  go_wp2_with fail
  have t0 : Turned c w (w.alloc (.cells #[.int .i64 0, .int .i64 0, .int .i64 0, .bool false, .int .i64 0] 139)) := (Turned.refl _ _).alloc _
  have r0 := SetBox.new w ⟨0, 0, 0, false, 0⟩ 139
  have c0 : Cur (w.alloc (.cells #[.int .i64 0, .int .i64 0, .int .i64 0, .bool false, .int .i64 0] 139)) c a n k := hcur.alloc _
  have z0 : w.heap.size < (w.alloc (.cells #[.int .i64 0, .int .i64 0, .int .i64 0, .bool false, .int .i64 0] 139)).heap.size := by simp
  simp only at r0
  generalize w.alloc (.cells #[.int .i64 0, .int .i64 0, .int .i64 0, .bool false, .int .i64 0] 139) = W at *
  have hne : Hid (w.heap.size ≠ c) := by unfold Hid; have := KB.out.2.2; omega
  have K0 : Hid (SetBox W w.heap.size ⟨0, 0, 0, false, 0⟩ ∧ Cur W c a n k ∧ Turned c w W ∧ w.heap.size < W.heap.size) := ⟨r0, c0, t0, z0⟩
  have STEP : Hid (∀ w1 w2 : World, (SetBox w1 w.heap.size ⟨0, 0, 0, false, 0⟩ ∧ Cur w1 c a n k ∧ Turned c w w1 ∧ w.heap.size < w1.heap.size) → Cur w2 c a n k → Turned c w1 w2 → (SetBox w2 w.heap.size ⟨0, 0, 0, false, 0⟩ ∧ Cur w2 c a n k ∧ Turned c w w2 ∧ w.heap.size < w2.heap.size)) := fun w1 w2 h hc ht => ⟨h.1.turned ht h.2.2.2 hne.out, hc, h.2.2.1.trans ht, Nat.lt_of_lt_of_le h.2.2.2 ht.size⟩
  clear r0 c0 t0 z0 hcur hb
  refine (l1Below_any _ B c a n k _ K0.out.2.1 (BY.out _ K0.out.2.2.1) hB (by omega)).mono ?_
  rintro e w1 ⟨y1, rfl, hy1, hy1', c1, t1⟩
  have K1 := (show Hid _ from STEP.out _ _ K0.out c1 t1)
  clear c1 t1 K0
  go_wp2_with fail
  refine (l1From_bd _ B c a n k K1.out.2.1 (BY.out _ K1.out.2.2.1) hB).mono ?_
  rintro e w2 ⟨y2, rfl, hy2, hy2', c2, t2⟩
  have K2 := (show Hid _ from STEP.out _ _ K1.out c2 t2)
  clear c2 t2 K1
  go_wp2_with fail
  refine (l1Once_any _ B c a n k _ K2.out.2.1 (BY.out _ K2.out.2.2.1) hB (by omega)).mono ?_
  rintro e w3 ⟨y3, rfl, c3, t3⟩
  have K3 := (show Hid _ from STEP.out _ _ K2.out c3 t3)
  clear c3 t3 K2
  go_wp2_with fail
  refine (l1Below_any _ B c a n k _ K3.out.2.1 (BY.out _ K3.out.2.2.1) hB (by omega)).mono ?_
  rintro e w4 ⟨y4, rfl, hy4, hy4', c4, t4⟩
  have K4 := (show Hid _ from STEP.out _ _ K3.out c4 t4)
  clear c4 t4 K3
  go_wp2_with fail
  have HS : Hid (w4.heap.size ≠ c ∧ w.heap.size ≤ w4.heap.size ∧ w4.heap.size ≠ w.heap.size) := by unfold Hid; have := K4.out.2.1.lt; have := K4.out.2.2.2; omega
  have K5 : Hid ((SetBox (w4.alloc (.cells #[.int .i64 r, .int .i64 y1, .int .i64 y2, .bool y3, .int .i64 y4] 139)) w.heap.size ⟨0, 0, 0, false, 0⟩ ∧ SetBox (w4.alloc (.cells #[.int .i64 r, .int .i64 y1, .int .i64 y2, .bool y3, .int .i64 y4] 139)) w4.heap.size ⟨r, y1, y2, y3, y4⟩ ∧ Cur (w4.alloc (.cells #[.int .i64 r, .int .i64 y1, .int .i64 y2, .bool y3, .int .i64 y4] 139)) c a n k ∧ Turned c w (w4.alloc (.cells #[.int .i64 r, .int .i64 y1, .int .i64 y2, .bool y3, .int .i64 y4] 139)) ∧ w.heap.size < (w4.alloc (.cells #[.int .i64 r, .int .i64 y1, .int .i64 y2, .bool y3, .int .i64 y4] 139)).heap.size ∧ w4.heap.size < (w4.alloc (.cells #[.int .i64 r, .int .i64 y1, .int .i64 y2, .bool y3, .int .i64 y4] 139)).heap.size)) := ⟨(K4.out.1.turned ((Turned.refl c w4).alloc _) K4.out.2.2.2 hne.out), SetBox.new w4 ⟨r, y1, y2, y3, y4⟩ 139, K4.out.2.1.alloc _, K4.out.2.2.1.alloc _, by have := K4.out.2.2.2; simp; omega, by simp⟩
  generalize (w4.alloc (.cells #[.int .i64 r, .int .i64 y1, .int .i64 y2, .bool y3, .int .i64 y4] 139)) = v5 at *
  have STEP2 : Hid (∀ w1 w2 : World, (SetBox w1 w.heap.size ⟨0, 0, 0, false, 0⟩ ∧ SetBox w1 w4.heap.size ⟨r, y1, y2, y3, y4⟩ ∧ Cur w1 c a n k ∧ Turned c w w1 ∧ w.heap.size < w1.heap.size ∧ w4.heap.size < w1.heap.size) → Cur w2 c a n k → Turned c w1 w2 → (SetBox w2 w.heap.size ⟨0, 0, 0, false, 0⟩ ∧ SetBox w2 w4.heap.size ⟨r, y1, y2, y3, y4⟩ ∧ Cur w2 c a n k ∧ Turned c w w2 ∧ w.heap.size < w2.heap.size ∧ w4.heap.size < w2.heap.size)) := fun w1 w2 h hc ht => ⟨h.1.turned ht h.2.2.2.2.1 hne.out, h.2.1.turned ht h.2.2.2.2.2 HS.out.1, hc, h.2.2.2.1.trans ht, Nat.lt_of_lt_of_le h.2.2.2.2.1 ht.size, Nat.lt_of_lt_of_le h.2.2.2.2.2 ht.size⟩
  clear K4 STEP
  refine (l1Once_any _ B c a n k _ K5.out.2.2.1 (BY.out _ K5.out.2.2.2.1) hB (by omega)).mono ?_
  rintro e w6 ⟨u, rfl, c6, t6⟩
  have K6 := (show Hid _ from STEP2.out _ _ K5.out c6 t6)
  clear c6 t6 K5
  have hSA : w4.heap.size ≠ w.heap.size := HS.out.2.2
  cases u
  · obtain ⟨⟨⟨a0, a1, a2, a3, a4⟩, af⟩, ⟨⟨s0, s1, s2, s3, s4⟩, sf⟩, _⟩ := K6.out
    simp only [Nat.zero_add] at a1 a2 a3 a4 s1 s2 s3 s4
    have af0 := af 0 (by omega)
    have sf0 := sf 0 (by omega)
    have af1 := af 1 (by omega)
    have sf1 := sf 1 (by omega)
    have af2 := af 2 (by omega)
    have sf2 := sf 2 (by omega)
    have af3 := af 3 (by omega)
    have sf3 := sf 3 (by omega)
    have af4 := af 4 (by omega)
    have sf4 := sf 4 (by omega)
    clear af sf
    go_wp2
    refine bodyPost_ret (v := .agg #[.int .i64 (r), .int .i64 (y1), .int .i64 (y2), .bool (y3), .int .i64 (y4)]) (by simp [results, Tryz.results166, go_sem, a0, a1, a2, a3, a4]) rfl ?_
    exact ⟨⟨r, y1, y2, y3, y4⟩, rfl, by unfold fits5 i64; simp only; omega, (((((K6.out.2.2.1).put hne.out _ _).put hne.out _ _).put hne.out _ _).put hne.out _ _).put hne.out _ _, (((((K6.out.2.2.2.1).put (Nat.le_refl _) _ _).put (Nat.le_refl _) _ _).put (Nat.le_refl _) _ _).put (Nat.le_refl _) _ _).put (Nat.le_refl _) _ _⟩
  · go_wp2_with fail
    refine (l1Below_any _ B c a n k _ K6.out.2.2.1 (BY.out _ K6.out.2.2.2.1) hB (by omega)).mono ?_
    rintro e w7 ⟨y, rfl, hy0, hy1q, c7, t7⟩
    have K7 := (show Hid _ from STEP2.out _ _ K6.out c7 t7)
    clear c7 t7 K6
    obtain rfl | rfl | rfl | rfl : y = 0 ∨ y = 1 ∨ y = 2 ∨ y = 3 := by omega
    · clear hy0 hy1q
      go_wp2_with fail
      have hw7 : c < w7.heap.size := K7.out.2.2.1.lt
      refine (l1Below_any _ B c a n k _ (K7.out.2.2.1.alloc _) (BY.out _ (K7.out.2.2.2.1.alloc _)) hB (by omega)).mono ?_
      rintro e w8 ⟨y, rfl, hy0, hyq, c8, t8⟩
      obtain ⟨q, rfl⟩ := Int.eq_ofNat_of_zero_le hy0
      obtain ⟨x, hxm, hx⟩ := new_in_turned [-1, 5, 6, r + 1] _ hw7 t8 q (by simp; omega)
      have K8 := (show Hid _ from STEP2.out _ _ (STEP2.out _ _ K7.out (K7.out.2.2.1.alloc _) ((Turned.refl c w7).alloc _)) c8 t8)
      simp at hxm
      clear c8 t8 K7 STEP2
      obtain ⟨⟨⟨a0, a1, a2, a3, a4⟩, af⟩, ⟨⟨s0, s1, s2, s3, s4⟩, sf⟩, _⟩ := K8.out
      simp only [Nat.zero_add] at a1 a2 a3 a4 s1 s2 s3 s4
      have af0 := af 0 (by omega)
      have sf0 := sf 0 (by omega)
      have af1 := af 1 (by omega)
      have sf1 := sf 1 (by omega)
      have af2 := af 2 (by omega)
      have sf2 := sf 2 (by omega)
      have af3 := af 3 (by omega)
      have sf3 := sf 3 (by omega)
      have af4 := af 4 (by omega)
      have sf4 := sf 4 (by omega)
      clear af sf
      go_wp2
      refine bodyPost_ret (v := .agg #[.int .i64 (x), .int .i64 (y1), .int .i64 (y2), .bool (y3), .int .i64 (y4)]) (by simp [results, Tryz.results166, go_sem, a0, a1, a2, a3, a4]) rfl ?_
      exact ⟨⟨x, y1, y2, y3, y4⟩, rfl, by unfold fits5 i64; simp only; omega, ((((((K8.out.2.2.1.put HS.out.1 _ _)).put hne.out _ _).put hne.out _ _).put hne.out _ _).put hne.out _ _).put hne.out _ _, ((((((K8.out.2.2.2.1.put HS.out.2.1 _ _)).put (Nat.le_refl _) _ _).put (Nat.le_refl _) _ _).put (Nat.le_refl _) _ _).put (Nat.le_refl _) _ _).put (Nat.le_refl _) _ _⟩
    · clear hy0 hy1q
      go_wp2_with fail
      have hw7 : c < w7.heap.size := K7.out.2.2.1.lt
      refine (l1Below_any _ B c a n k _ (K7.out.2.2.1.alloc _) (BY.out _ (K7.out.2.2.2.1.alloc _)) hB (by omega)).mono ?_
      rintro e w8 ⟨y, rfl, hy0, hyq, c8, t8⟩
      obtain ⟨q, rfl⟩ := Int.eq_ofNat_of_zero_le hy0
      obtain ⟨x, hxm, hx⟩ := new_in_turned [-1, 6] _ hw7 t8 q (by simp; omega)
      have K8 := (show Hid _ from STEP2.out _ _ (STEP2.out _ _ K7.out (K7.out.2.2.1.alloc _) ((Turned.refl c w7).alloc _)) c8 t8)
      simp at hxm
      clear c8 t8 K7 STEP2
      obtain ⟨⟨⟨a0, a1, a2, a3, a4⟩, af⟩, ⟨⟨s0, s1, s2, s3, s4⟩, sf⟩, _⟩ := K8.out
      simp only [Nat.zero_add] at a1 a2 a3 a4 s1 s2 s3 s4
      have af0 := af 0 (by omega)
      have sf0 := sf 0 (by omega)
      have af1 := af 1 (by omega)
      have sf1 := sf 1 (by omega)
      have af2 := af 2 (by omega)
      have sf2 := sf 2 (by omega)
      have af3 := af 3 (by omega)
      have sf3 := sf 3 (by omega)
      have af4 := af 4 (by omega)
      have sf4 := sf 4 (by omega)
      clear af sf
      go_wp2
      refine bodyPost_ret (v := .agg #[.int .i64 (r), .int .i64 (x), .int .i64 (y2), .bool (y3), .int .i64 (y4)]) (by simp [results, Tryz.results166, go_sem, a0, a1, a2, a3, a4]) rfl ?_
      exact ⟨⟨r, x, y2, y3, y4⟩, rfl, by unfold fits5 i64; simp only; omega, ((((((K8.out.2.2.1.put HS.out.1 _ _)).put hne.out _ _).put hne.out _ _).put hne.out _ _).put hne.out _ _).put hne.out _ _, ((((((K8.out.2.2.2.1.put HS.out.2.1 _ _)).put (Nat.le_refl _) _ _).put (Nat.le_refl _) _ _).put (Nat.le_refl _) _ _).put (Nat.le_refl _) _ _).put (Nat.le_refl _) _ _⟩
    · clear hy0 hy1q
      go_wp2_with fail
      have hw7 : c < w7.heap.size := K7.out.2.2.1.lt
      refine (l1Below_any _ B c a n k _ (K7.out.2.2.1.alloc _) (BY.out _ (K7.out.2.2.2.1.alloc _)) hB (by omega)).mono ?_
      rintro e w8 ⟨y, rfl, hy0, hyq, c8, t8⟩
      obtain ⟨q, rfl⟩ := Int.eq_ofNat_of_zero_le hy0
      obtain ⟨x, hxm, hx⟩ := new_in_turned [1000000000, 1000000001, -1000000001, -9223372036854775808] _ hw7 t8 q (by simp; omega)
      have K8 := (show Hid _ from STEP2.out _ _ (STEP2.out _ _ K7.out (K7.out.2.2.1.alloc _) ((Turned.refl c w7).alloc _)) c8 t8)
      simp at hxm
      clear c8 t8 K7 STEP2
      obtain ⟨⟨⟨a0, a1, a2, a3, a4⟩, af⟩, ⟨⟨s0, s1, s2, s3, s4⟩, sf⟩, _⟩ := K8.out
      simp only [Nat.zero_add] at a1 a2 a3 a4 s1 s2 s3 s4
      have af0 := af 0 (by omega)
      have sf0 := sf 0 (by omega)
      have af1 := af 1 (by omega)
      have sf1 := sf 1 (by omega)
      have af2 := af 2 (by omega)
      have sf2 := sf 2 (by omega)
      have af3 := af 3 (by omega)
      have sf3 := sf 3 (by omega)
      have af4 := af 4 (by omega)
      have sf4 := sf 4 (by omega)
      clear af sf
      go_wp2
      refine bodyPost_ret (v := .agg #[.int .i64 (r), .int .i64 (y1), .int .i64 (x), .bool (y3), .int .i64 (y4)]) (by simp [results, Tryz.results166, go_sem, a0, a1, a2, a3, a4]) rfl ?_
      exact ⟨⟨r, y1, x, y3, y4⟩, rfl, by unfold fits5 i64; simp only; omega, ((((((K8.out.2.2.1.put HS.out.1 _ _)).put hne.out _ _).put hne.out _ _).put hne.out _ _).put hne.out _ _).put hne.out _ _, ((((((K8.out.2.2.2.1.put HS.out.2.1 _ _)).put (Nat.le_refl _) _ _).put (Nat.le_refl _) _ _).put (Nat.le_refl _) _ _).put (Nat.le_refl _) _ _).put (Nat.le_refl _) _ _⟩
    · clear hy0 hy1q
      go_wp2_with fail
      have hw7 : c < w7.heap.size := K7.out.2.2.1.lt
      refine (l1Below_any _ B c a n k _ (K7.out.2.2.1.alloc _) (BY.out _ (K7.out.2.2.2.1.alloc _)) hB (by omega)).mono ?_
      rintro e w8 ⟨y, rfl, hy0, hyq, c8, t8⟩
      obtain ⟨q, rfl⟩ := Int.eq_ofNat_of_zero_le hy0
      obtain ⟨x, hxm, hx⟩ := new_in_turned [-1, 999999, 1000000] _ hw7 t8 q (by simp; omega)
      have K8 := (show Hid _ from STEP2.out _ _ (STEP2.out _ _ K7.out (K7.out.2.2.1.alloc _) ((Turned.refl c w7).alloc _)) c8 t8)
      simp at hxm
      clear c8 t8 K7 STEP2
      obtain ⟨⟨⟨a0, a1, a2, a3, a4⟩, af⟩, ⟨⟨s0, s1, s2, s3, s4⟩, sf⟩, _⟩ := K8.out
      simp only [Nat.zero_add] at a1 a2 a3 a4 s1 s2 s3 s4
      have af0 := af 0 (by omega)
      have sf0 := sf 0 (by omega)
      have af1 := af 1 (by omega)
      have sf1 := sf 1 (by omega)
      have af2 := af 2 (by omega)
      have sf2 := sf 2 (by omega)
      have af3 := af 3 (by omega)
      have sf3 := sf 3 (by omega)
      have af4 := af 4 (by omega)
      have sf4 := sf 4 (by omega)
      clear af sf
      go_wp2
      refine bodyPost_ret (v := .agg #[.int .i64 (r), .int .i64 (y1), .int .i64 (y2), .bool (y3), .int .i64 (x)]) (by simp [results, Tryz.results166, go_sem, a0, a1, a2, a3, a4]) rfl ?_
      exact ⟨⟨r, y1, y2, y3, x⟩, rfl, by unfold fits5 i64; simp only; omega, ((((((K8.out.2.2.1.put HS.out.1 _ _)).put hne.out _ _).put hne.out _ _).put hne.out _ _).put hne.out _ _).put hne.out _ _, ((((((K8.out.2.2.2.1.put HS.out.2.1 _ _)).put (Nat.le_refl _) _ _).put (Nat.le_refl _) _ _).put (Nat.le_refl _) _ _).put (Nat.le_refl _) _ _).put (Nat.le_refl _) _ _⟩
theorem grown_turned {w w' : World} {g : Nat} (h : w.grownBy w' (some g)) : Turned g w w' := ⟨h.os, h.tape, h.output, h.size, fun k hk hne => h.block k hk (fun e => hne (Option.some.inj e))⟩
theorem row_turned {w w' : World} {base g m cap c : Nat} {t : TypeId} {size : Nat} {vs : List Value} (h : w.ownsRow base t size (.slice (some ⟨g, 0, none⟩) m cap) m vs) (ht : Turned c w w') (hc : g ≠ c) : w'.ownsRow base t size (.slice (some ⟨g, 0, none⟩) m cap) m vs :=
  h.kept (row := some c) ⟨ht.os, ht.tape, ht.output, ht.size, fun j hj hne => ht.block j hj (fun e => hne (by rw [e]))⟩ (.inr (by simp [Value.ownBlock]; exact hc))
set_option maxHeartbeats 8000000 in
theorem l2DrawSets_any (w : World) (B c : Nat) (a : Option Addr) (n k : Nat) (r : Int) (hr : 0 ≤ r ∧ r ≤ 1000) (hcur : Cur w c a n k) (hb : Bytes w B a n) (hB : B ≤ c) :
    Calls Tryz.prog 134 #[.pointer (some ⟨c, 0, none⟩), .int .i64 r] w fun e w' => ∃ (g m cap : Nat) (xs : List S5), e = .returned (.slice (some ⟨g, 0, none⟩) m cap) ∧ xs.length = m ∧ m ≤ 7 ∧ (∀ s ∈ xs, fits5 s) ∧ w.heap.size ≤ g ∧ g ≠ c ∧ g < w'.heap.size ∧ SetsAt w' g 0 xs ∧ (Room w' g (m * 5) ∧ m ≤ cap) ∧ Cur w' c a n k ∧ Turned c w w' := by
  have KB : Hid (Bytes w B a n ∧ B ≤ w.heap.size ∧ c < w.heap.size) := ⟨hb, by have := hcur.lt; omega, hcur.lt⟩
  have BY : Hid (∀ w', Turned c w w' → Bytes w' B a n) := fun w' h => KB.out.1.below (h.below hB KB.out.2.1)
  have HC : Hid (Cur w c a n k) := hcur
  clear hcur hb
  go_enter Tryz.func134, Tryz.ntmps134
  go_wp2
  go_loopw [5, 6] (fun v5 v6 wr => ∃ (j g m cap : Nat) (xs : List S5), j ≤ 6 ∧ m ≤ j ∧ v6 = .int .i64 j ∧ v5 = .slice (some ⟨g, 0, none⟩) m cap ∧ xs.length = m ∧ (∀ s ∈ xs, fits5 s) ∧ w.heap.size ≤ g ∧ g < wr.heap.size ∧ wr.ownsRow w.heap.size 139 5 (.slice (some ⟨g, 0, none⟩) m cap) m (xs.flatMap S5.cells) ∧ Cur wr c a n k ∧ Turned c w wr) (fun _ v6 _ => 6 - (intOf v6).toNat)
  case atStart => exact ⟨0, w.heap.size, 0, 0, [], by omega, by omega, rfl, rfl, rfl, (fun s hs => by cases hs), Nat.le_refl _, by simp, ⟨rfl, .inr ⟨w.heap.size, 0, #[], rfl, Nat.le_refl _, Go.Deep.blk_alloc_new w _, Nat.le_refl _, Nat.zero_le _, rfl, rfl⟩⟩, HC.out.alloc _, (Turned.refl _ _).alloc _⟩
  case round =>
    obtain ⟨j, g, m, cap, xs, hj, hmj, rfl, rfl, hxl, hfit, hg1, hg2, hown, hcu, ht⟩ := hrel
    have hgc : Hid (g ≠ c) := by unfold Hid; have := KB.out.2.2; omega
    have K1 : Hid (wr.ownsRow w.heap.size 139 5 (.slice (some ⟨g, 0, none⟩) m cap) m (xs.flatMap S5.cells) ∧ Cur wr c a n k ∧ Turned c w wr ∧ xs.length = m ∧ (∀ s ∈ xs, fits5 s) ∧ g < wr.heap.size) := ⟨hown, hcu, ht, hxl, hfit, hg2⟩
    clear hown hcu ht hxl hfit hg2
    by_cases hlt : j < 6
    · have hlt' : (j : Int) < 6 := by omega
      go_wp2_with fail
      refine (l1Once_any _ B c a n k _ K1.out.2.1 (BY.out _ K1.out.2.2.1) hB (by omega)).mono ?_
      rintro e w2 ⟨u, rfl, c2, t2⟩
      have K2 : Hid (w2.ownsRow w.heap.size 139 5 (.slice (some ⟨g, 0, none⟩) m cap) m (xs.flatMap S5.cells) ∧ Cur w2 c a n k ∧ Turned c w w2 ∧ xs.length = m ∧ (∀ s ∈ xs, fits5 s) ∧ g < w2.heap.size) := ⟨row_turned K1.out.1 t2 hgc.out, c2, K1.out.2.2.1.trans t2, K1.out.2.2.2.1, K1.out.2.2.2.2.1, Nat.lt_of_lt_of_le K1.out.2.2.2.2.2 t2.size⟩
      clear c2 t2 K1
      cases u
      · go_wp2
        obtain ⟨o2, hcu, ht, hxl, hfit, hg3⟩ := K2.out
        exact ⟨⟨j + 1, g, m, cap, xs, by omega, by omega, by simp, rfl, hxl, hfit, hg1, hg3, o2, hcu, ht⟩, by simp [intOf]; omega⟩
      · go_wp2_with fail
        refine (l2DrawSet_any _ B c a n k r hr K2.out.2.1 (BY.out _ K2.out.2.2.1) hB).mono ?_
        rintro e w3 ⟨s, rfl, fs, c3, t3⟩
        have K3 : Hid (w3.ownsRow w.heap.size 139 5 (.slice (some ⟨g, 0, none⟩) m cap) m (xs.flatMap S5.cells) ∧ Cur w3 c a n k ∧ Turned c w w3 ∧ xs.length = m ∧ (∀ s ∈ xs, fits5 s) ∧ g < w3.heap.size) := ⟨row_turned K2.out.1 t3 hgc.out, c3, K2.out.2.2.1.trans t3, K2.out.2.2.2.1, K2.out.2.2.2.2.1, Nat.lt_of_lt_of_le K2.out.2.2.2.2.2 t3.size⟩
        have FS : Hid (fits5 s) := fs
        clear c3 t3 K2 fs
        go_wp2_with fail
        refine (specSlot _ _).mono ?_
        cases hsl : inB 0 5 s.slot with
        | false =>
          rintro e w' ⟨rfl, rfl⟩
          have hownA : Hid (((w3.alloc (.cells #[.int .i64 s.region, .int .i64 s.slot, .int .i64 s.value, .bool s.used, .int .i64 s.version] 139)).alloc (.cells #[.int .i64 s.region, .int .i64 s.slot, .int .i64 s.value, .bool s.used, .int .i64 s.version] 139)).ownsRow w.heap.size 139 5 (.slice (some ⟨g, 0, none⟩) m cap) m (xs.flatMap S5.cells)) := (K3.out.1.alloc _).alloc _
          have hnewsA : Hid (∀ (q : Nat) (u : Value), ([.int .i64 s.region, .int .i64 s.slot, .int .i64 s.value, .bool s.used, .int .i64 s.version] : List Value)[q]? = some u → ((w3.alloc (.cells #[.int .i64 s.region, .int .i64 s.slot, .int .i64 s.value, .bool s.used, .int .i64 s.version] 139)).alloc (.cells #[.int .i64 s.region, .int .i64 s.slot, .int .i64 s.value, .bool s.used, .int .i64 s.version] 139)).cell? ((⟨w3.heap.size + 1, 0, none⟩ : Addr).add q) = some u) := World.news_of_block (cs := #[.int .i64 s.region, .int .i64 s.slot, .int .i64 s.value, .bool s.used, .int .i64 s.version]) (t := 139) (fr := (0, 0)) (by have := Go.Deep.blk_alloc_new (w3.alloc (.cells #[.int .i64 s.region, .int .i64 s.slot, .int .i64 s.value, .bool s.used, .int .i64 s.version] 139)) (.cells #[.int .i64 s.region, .int .i64 s.slot, .int .i64 s.value, .bool s.used, .int .i64 s.version] 139); have e : (w3.alloc (.cells #[.int .i64 s.region, .int .i64 s.slot, .int .i64 s.value, .bool s.used, .int .i64 s.version] 139)).heap.size = w3.heap.size + 1 := (by simp); rw [e] at this; exact this)
          have h1cA : Hid (∀ u ∈ ([.int .i64 s.region, .int .i64 s.slot, .int .i64 s.value, .bool s.used, .int .i64 s.version] : List Value), u.oneCell' = true) := by
            intro u hu
            simp at hu
            rcases hu with rfl | rfl | rfl | rfl | rfl <;> rfl
          have hA1 : Hid (m + 1 ≤ maxLen) := by unfold Hid maxLen; omega
          have hA2 : Hid ((m + 1) * 40 ≤ 140737488355328) := by unfold Hid; omega
          have hA3 : Hid (w.heap.size ≤ ((w3.alloc (.cells #[.int .i64 s.region, .int .i64 s.slot, .int .i64 s.value, .bool s.used, .int .i64 s.version] 139)).alloc (.cells #[.int .i64 s.region, .int .i64 s.slot, .int .i64 s.value, .bool s.used, .int .i64 s.version] 139)).heap.size) := by unfold Hid; have := K3.out.2.2.1.size; simp; omega
          have hA4 : Hid (((w3.alloc (.cells #[.int .i64 s.region, .int .i64 s.slot, .int .i64 s.value, .bool s.used, .int .i64 s.version] 139)).alloc (.cells #[.int .i64 s.region, .int .i64 s.slot, .int .i64 s.value, .bool s.used, .int .i64 s.version] 139)).heap.size = w3.heap.size + 2) := by unfold Hid; simp
          obtain ⟨i0, hi0, hz0, hz1, hz2⟩ := info_parts info_set
          go_wp2_with (at_builtin; refine wpList_append_lies ((w3.alloc (.cells #[.int .i64 s.region, .int .i64 s.slot, .int .i64 s.value, .bool s.used, .int .i64 s.version] 139)).alloc (.cells #[.int .i64 s.region, .int .i64 s.slot, .int .i64 s.value, .bool s.used, .int .i64 s.version] 139)) rfl (.tmp 23) (.tmp 25) 39 rfl w.heap.size 139 i0 (.agg #[.int .i64 0, .int .i64 0, .int .i64 0, .bool false, .int .i64 0]) 5 40 Tryz.underlying39 hi0 hz0 hz1 hz2 rfl (by decide) (.slice (some ⟨g, 0, none⟩) m cap) m _ rfl hownA.out ⟨w3.heap.size + 1, 0, none⟩ 1 1 [.int .i64 s.region, .int .i64 s.slot, .int .i64 s.value, .bool s.used, .int .i64 s.version] rfl rfl hnewsA.out h1cA.out (by decide) hA1.out hA2.out hA3.out (w3.heap.size + 2) hA4.out ?_; intro g2 cap2 w5 hown5 hgrow hat hlt5; have K5 : Hid (w5.ownsRow w.heap.size 139 5 (.slice (some ⟨g2, 0, none⟩) (m + 1) cap2) (m + 1) (xs.flatMap S5.cells ++ [.int .i64 s.region, .int .i64 s.slot, .int .i64 s.value, .bool s.used, .int .i64 s.version]) ∧ (g = g2 ∨ g2 = w3.heap.size + 2) ∧ g2 < w5.heap.size ∧ World.grownBy ((w3.alloc (.cells #[.int .i64 s.region, .int .i64 s.slot, .int .i64 s.value, .bool s.used, .int .i64 s.version] 139)).alloc (.cells #[.int .i64 s.region, .int .i64 s.slot, .int .i64 s.value, .bool s.used, .int .i64 s.version] 139)) w5 (some g)) := ⟨hown5, (by rcases hat with h | h; exact .inl (Option.some.inj h); exact .inr h), hlt5, hgrow⟩; clear hown5 hgrow hat hlt5)
          obtain ⟨o5, hat, hlt5, hgrow⟩ := K5.out
          obtain ⟨_, hcu, ht, hxl, hfit, hg3⟩ := K3.out
          have tg := grown_turned hgrow
          have hsz3 := ht.size
          refine ⟨⟨j + 1, g2, m + 1, cap2, xs ++ [(⟨s.region, s.slot, s.value, s.used, s.version⟩ : S5)], by omega, by omega, by simp, rfl, by simp [hxl], ?_, ?_, hlt5, by simpa [S5.cells] using o5, ((hcu.alloc _).alloc _).turned tg (fun e => hgc.out e.symm), Turned.grown ((ht.alloc _).alloc _) hgrow (fun r e => by cases e; exact hg1)⟩, by simp [intOf]; omega⟩
          · intro x hx
            rcases List.mem_append.1 hx with h | h
            · exact hfit x h
            · simp at h; subst h; exact FS.out
          · rcases hat with h | h <;> omega
        | true =>
          rintro e w' ⟨rfl, rfl⟩
          have hownA : Hid (((w3.alloc (.cells #[.int .i64 s.region, .int .i64 (j : Int), .int .i64 s.value, .bool s.used, .int .i64 s.version] 139)).alloc (.cells #[.int .i64 s.region, .int .i64 (j : Int), .int .i64 s.value, .bool s.used, .int .i64 s.version] 139)).ownsRow w.heap.size 139 5 (.slice (some ⟨g, 0, none⟩) m cap) m (xs.flatMap S5.cells)) := (K3.out.1.alloc _).alloc _
          have hnewsA : Hid (∀ (q : Nat) (u : Value), ([.int .i64 s.region, .int .i64 (j : Int), .int .i64 s.value, .bool s.used, .int .i64 s.version] : List Value)[q]? = some u → ((w3.alloc (.cells #[.int .i64 s.region, .int .i64 (j : Int), .int .i64 s.value, .bool s.used, .int .i64 s.version] 139)).alloc (.cells #[.int .i64 s.region, .int .i64 (j : Int), .int .i64 s.value, .bool s.used, .int .i64 s.version] 139)).cell? ((⟨w3.heap.size + 1, 0, none⟩ : Addr).add q) = some u) := World.news_of_block (cs := #[.int .i64 s.region, .int .i64 (j : Int), .int .i64 s.value, .bool s.used, .int .i64 s.version]) (t := 139) (fr := (0, 0)) (by have := Go.Deep.blk_alloc_new (w3.alloc (.cells #[.int .i64 s.region, .int .i64 (j : Int), .int .i64 s.value, .bool s.used, .int .i64 s.version] 139)) (.cells #[.int .i64 s.region, .int .i64 (j : Int), .int .i64 s.value, .bool s.used, .int .i64 s.version] 139); have e : (w3.alloc (.cells #[.int .i64 s.region, .int .i64 (j : Int), .int .i64 s.value, .bool s.used, .int .i64 s.version] 139)).heap.size = w3.heap.size + 1 := (by simp); rw [e] at this; exact this)
          have h1cA : Hid (∀ u ∈ ([.int .i64 s.region, .int .i64 (j : Int), .int .i64 s.value, .bool s.used, .int .i64 s.version] : List Value), u.oneCell' = true) := by
            intro u hu
            simp at hu
            rcases hu with rfl | rfl | rfl | rfl | rfl <;> rfl
          have hA1 : Hid (m + 1 ≤ maxLen) := by unfold Hid maxLen; omega
          have hA2 : Hid ((m + 1) * 40 ≤ 140737488355328) := by unfold Hid; omega
          have hA3 : Hid (w.heap.size ≤ ((w3.alloc (.cells #[.int .i64 s.region, .int .i64 (j : Int), .int .i64 s.value, .bool s.used, .int .i64 s.version] 139)).alloc (.cells #[.int .i64 s.region, .int .i64 (j : Int), .int .i64 s.value, .bool s.used, .int .i64 s.version] 139)).heap.size) := by unfold Hid; have := K3.out.2.2.1.size; simp; omega
          have hA4 : Hid (((w3.alloc (.cells #[.int .i64 s.region, .int .i64 (j : Int), .int .i64 s.value, .bool s.used, .int .i64 s.version] 139)).alloc (.cells #[.int .i64 s.region, .int .i64 (j : Int), .int .i64 s.value, .bool s.used, .int .i64 s.version] 139)).heap.size = w3.heap.size + 2) := by unfold Hid; simp
          obtain ⟨i0, hi0, hz0, hz1, hz2⟩ := info_parts info_set
          go_wp2_with (at_builtin; refine wpList_append_lies ((w3.alloc (.cells #[.int .i64 s.region, .int .i64 (j : Int), .int .i64 s.value, .bool s.used, .int .i64 s.version] 139)).alloc (.cells #[.int .i64 s.region, .int .i64 (j : Int), .int .i64 s.value, .bool s.used, .int .i64 s.version] 139)) rfl (.tmp 23) (.tmp 25) 39 rfl w.heap.size 139 i0 (.agg #[.int .i64 0, .int .i64 0, .int .i64 0, .bool false, .int .i64 0]) 5 40 Tryz.underlying39 hi0 hz0 hz1 hz2 rfl (by decide) (.slice (some ⟨g, 0, none⟩) m cap) m _ rfl hownA.out ⟨w3.heap.size + 1, 0, none⟩ 1 1 [.int .i64 s.region, .int .i64 (j : Int), .int .i64 s.value, .bool s.used, .int .i64 s.version] rfl rfl hnewsA.out h1cA.out (by decide) hA1.out hA2.out hA3.out (w3.heap.size + 2) hA4.out ?_; intro g2 cap2 w5 hown5 hgrow hat hlt5; have K5 : Hid (w5.ownsRow w.heap.size 139 5 (.slice (some ⟨g2, 0, none⟩) (m + 1) cap2) (m + 1) (xs.flatMap S5.cells ++ [.int .i64 s.region, .int .i64 (j : Int), .int .i64 s.value, .bool s.used, .int .i64 s.version]) ∧ (g = g2 ∨ g2 = w3.heap.size + 2) ∧ g2 < w5.heap.size ∧ World.grownBy ((w3.alloc (.cells #[.int .i64 s.region, .int .i64 (j : Int), .int .i64 s.value, .bool s.used, .int .i64 s.version] 139)).alloc (.cells #[.int .i64 s.region, .int .i64 (j : Int), .int .i64 s.value, .bool s.used, .int .i64 s.version] 139)) w5 (some g)) := ⟨hown5, (by rcases hat with h | h; exact .inl (Option.some.inj h); exact .inr h), hlt5, hgrow⟩; clear hown5 hgrow hat hlt5)
          obtain ⟨o5, hat, hlt5, hgrow⟩ := K5.out
          obtain ⟨_, hcu, ht, hxl, hfit, hg3⟩ := K3.out
          have tg := grown_turned hgrow
          have hsz3 := ht.size
          refine ⟨⟨j + 1, g2, m + 1, cap2, xs ++ [(⟨s.region, (j : Int), s.value, s.used, s.version⟩ : S5)], by omega, by omega, by simp, rfl, by simp [hxl], ?_, ?_, hlt5, by simpa [S5.cells] using o5, ((hcu.alloc _).alloc _).turned tg (fun e => hgc.out e.symm), Turned.grown ((ht.alloc _).alloc _) hgrow (fun r e => by cases e; exact hg1)⟩, by simp [intOf]; omega⟩
          · intro x hx
            rcases List.mem_append.1 hx with h | h
            · exact hfit x h
            · simp at h; subst h; exact ⟨FS.out.1, (by have h : i64 (j : Int) := (by unfold i64; omega); exact h), FS.out.2.2⟩
          · rcases hat with h | h <;> omega
    · have : j = 6 := by omega
      subst this
      go_wp2_with fail
      refine (l1Once_any _ B c a n k _ K1.out.2.1 (BY.out _ K1.out.2.2.1) hB (by omega)).mono ?_
      rintro e w2 ⟨u, rfl, c2, t2⟩
      have K2 : Hid (w2.ownsRow w.heap.size 139 5 (.slice (some ⟨g, 0, none⟩) m cap) m (xs.flatMap S5.cells) ∧ Cur w2 c a n k ∧ Turned c w w2 ∧ xs.length = m ∧ (∀ s ∈ xs, fits5 s) ∧ g < w2.heap.size) := ⟨row_turned K1.out.1 t2 hgc.out, c2, K1.out.2.2.1.trans t2, K1.out.2.2.2.1, K1.out.2.2.2.2.1, Nat.lt_of_lt_of_le K1.out.2.2.2.2.2 t2.size⟩
      clear c2 t2 K1
      cases u
      · go_wp2
        obtain ⟨o2, hcu, ht, hxl, hfit, hg3⟩ := K2.out
        go_ret
        exact ⟨g, m, cap, xs, rfl, hxl, by omega, hfit, hg1, hgc.out, hg3, own_sets o2, own_roomC o2, hcu, ht⟩
      · by_cases hm1 : 1 < m
        · obtain ⟨s, hs⟩ : ∃ s, xs[0]? = some s := ⟨xs[0]'(by have := K2.out.2.2.2.1; omega), List.getElem?_eq_getElem _⟩
          have hm1' : (1 : Int) < (m : Int) := by omega
          obtain ⟨s0, s1, s2, s3, s4⟩ := own_sets K2.out.1 0 s hs
          simp only [Nat.zero_mul, Nat.zero_add] at s0 s1 s2 s3 s4
          have hownA : Hid ((w2.alloc (.cells #[.int .i64 s.region, .int .i64 s.slot, .int .i64 s.value, .bool s.used, .int .i64 s.version] 139)).ownsRow w.heap.size 139 5 (.slice (some ⟨g, 0, none⟩) m cap) m (xs.flatMap S5.cells)) := K2.out.1.alloc _
          have hnewsA : Hid (∀ (q : Nat) (u : Value), ([.int .i64 s.region, .int .i64 s.slot, .int .i64 s.value, .bool s.used, .int .i64 s.version] : List Value)[q]? = some u → (w2.alloc (.cells #[.int .i64 s.region, .int .i64 s.slot, .int .i64 s.value, .bool s.used, .int .i64 s.version] 139)).cell? ((⟨w2.heap.size, 0, none⟩ : Addr).add q) = some u) := World.news_of_block (cs := #[.int .i64 s.region, .int .i64 s.slot, .int .i64 s.value, .bool s.used, .int .i64 s.version]) (t := 139) (fr := (0, 0)) (Go.Deep.blk_alloc_new w2 _)
          have h1cA : Hid (∀ u ∈ ([.int .i64 s.region, .int .i64 s.slot, .int .i64 s.value, .bool s.used, .int .i64 s.version] : List Value), u.oneCell' = true) := by
            intro u hu
            simp at hu
            rcases hu with rfl | rfl | rfl | rfl | rfl <;> rfl
          have hA1 : Hid (m + 1 ≤ maxLen) := by unfold Hid maxLen; omega
          have hA2 : Hid ((m + 1) * 40 ≤ 140737488355328) := by unfold Hid; omega
          have hA3 : Hid (w.heap.size ≤ (w2.alloc (.cells #[.int .i64 s.region, .int .i64 s.slot, .int .i64 s.value, .bool s.used, .int .i64 s.version] 139)).heap.size) := by unfold Hid; have := K2.out.2.2.1.size; simp; omega
          have hA4 : Hid ((w2.alloc (.cells #[.int .i64 s.region, .int .i64 s.slot, .int .i64 s.value, .bool s.used, .int .i64 s.version] 139)).heap.size = w2.heap.size + 1) := by unfold Hid; simp
          obtain ⟨i0, hi0, hz0, hz1, hz2⟩ := info_parts info_set
          go_wp2_with (at_builtin; refine wpList_append_lies (w2.alloc (.cells #[.int .i64 s.region, .int .i64 s.slot, .int .i64 s.value, .bool s.used, .int .i64 s.version] 139)) rfl (.tmp 34) (.tmp 38) 39 rfl w.heap.size 139 i0 (.agg #[.int .i64 0, .int .i64 0, .int .i64 0, .bool false, .int .i64 0]) 5 40 Tryz.underlying39 hi0 hz0 hz1 hz2 rfl (by decide) (.slice (some ⟨g, 0, none⟩) m cap) m _ rfl hownA.out ⟨w2.heap.size, 0, none⟩ 1 1 [.int .i64 s.region, .int .i64 s.slot, .int .i64 s.value, .bool s.used, .int .i64 s.version] rfl rfl hnewsA.out h1cA.out (by decide) hA1.out hA2.out hA3.out (w2.heap.size + 1) hA4.out ?_; intro g2 cap2 w5 hown5 hgrow hat hlt5; have K5 : Hid (w5.ownsRow w.heap.size 139 5 (.slice (some ⟨g2, 0, none⟩) (m + 1) cap2) (m + 1) (xs.flatMap S5.cells ++ [.int .i64 s.region, .int .i64 s.slot, .int .i64 s.value, .bool s.used, .int .i64 s.version]) ∧ (g = g2 ∨ g2 = w2.heap.size + 1) ∧ g2 < w5.heap.size ∧ World.grownBy (w2.alloc (.cells #[.int .i64 s.region, .int .i64 s.slot, .int .i64 s.value, .bool s.used, .int .i64 s.version] 139)) w5 (some g)) := ⟨hown5, (by rcases hat with h | h; exact .inl (Option.some.inj h); exact .inr h), hlt5, hgrow⟩; clear hown5 hgrow hat hlt5)
          obtain ⟨o5, hat, hlt5, hgrow⟩ := K5.out
          obtain ⟨_, hcu, ht, hxl, hfit, hg3⟩ := K2.out
          have tg := grown_turned hgrow
          have hsz3 := ht.size
          have hcw := KB.out.2.2
          have hg2w : w.heap.size ≤ g2 := by rcases hat with h | h <;> omega
          have o6 : w5.ownsRow w.heap.size 139 5 (.slice (some ⟨g2, 0, none⟩) (m + 1) cap2) (m + 1) ((xs ++ [s]).flatMap S5.cells) := by simpa [S5.cells] using o5
          go_ret
          refine ⟨g2, m + 1, cap2, xs ++ [s], rfl, by simp [hxl], by omega, ?_, hg2w, by omega, hlt5, own_sets o6, own_roomC o6, (hcu.alloc _).turned tg (fun e => hgc.out e.symm), Turned.grown (ht.alloc _) hgrow (fun r e => by cases e; exact hg1)⟩
          intro x hx
          rcases List.mem_append.1 hx with h | h
          · exact hfit x h
          · simp at h; subst h; exact hfit x (List.mem_of_getElem? hs)
        · have hm1' : ¬ ((1 : Int) < (m : Int)) := by omega
          go_wp2
          obtain ⟨o2, hcu, ht, hxl, hfit, hg3⟩ := K2.out
          go_ret
          exact ⟨g, m, cap, xs, rfl, hxl, by omega, hfit, hg1, hgc.out, hg3, own_sets o2, own_roomC o2, hcu, ht⟩
end Go.Proofs.YtooalbdlknheeaaGreat
