/- What the specification's draw of a record does: some record, its numbers of int64's range; nothing but the cursor is turned. -/
import Derived.Test.YtooalbdlknheeaaGreatRows
import Derived.Test.YtooalbdlknheeaaGreatDrw2J
import Derived.Test.YtooalbdlknheeaaGreatJ2LawMachines
import Derived.WalkKit
import Derived.WalkSpells
import Derived.WalkLawsBesides
import Derived.Below
import Derived.Deep.AppendLies
import Derived.Deep.Heap
namespace Go.Proofs.YtooalbdlknheeaaGreat
open Go.RowKit
/-- A block of the draws' own holds a record's numbers and its row, and can be written. -/
def RecBox (w : World) (q : Nat) (K T R : Int) (v : Value) : Prop := (w.cell? ⟨q, 0, none⟩ = some (.int .i64 K) ∧ w.cell? ⟨q, 1, none⟩ = some (.int .i64 T) ∧ w.cell? ⟨q, 2, none⟩ = some (.int .i64 R) ∧ w.cell? ⟨q, 3, none⟩ = some v) ∧ ∀ j, j < 4 → w.frozen? ⟨q, j, none⟩ = false
theorem RecBox.turned {w w' : World} {q c : Nat} {K T R : Int} {v : Value} (h : RecBox w q K T R v) (ht : Turned c w w') (hq : q < w.heap.size) (hc : q ≠ c) : RecBox w' q K T R v :=
  ⟨⟨(ht.cell (p := ⟨q, _, none⟩) hq hc).trans h.1.1, (ht.cell (p := ⟨q, _, none⟩) hq hc).trans h.1.2.1, (ht.cell (p := ⟨q, _, none⟩) hq hc).trans h.1.2.2.1, (ht.cell (p := ⟨q, _, none⟩) hq hc).trans h.1.2.2.2⟩, fun j hj => (ht.frozen (p := ⟨q, j, none⟩) hq hc).trans (h.2 j hj)⟩
theorem RecBox.new (w : World) (K T R : Int) (v : Value) (t : TypeId) : RecBox (w.alloc (.cells #[.int .i64 K, .int .i64 T, .int .i64 R, v] t)) w.heap.size K T R v :=
  ⟨⟨by go_simp, by go_simp, by go_simp, by go_simp⟩, fun j _ => by go_simp⟩
theorem RecBox.far {w : World} {q : Nat} {K T R : Int} {v : Value} (h : RecBox w q K T R v) {b : Nat} (hb : b ≠ q) (o : Nat) (u : Value) : RecBox (w.setCell ⟨b, o, none⟩ u) q K T R v :=
  ⟨⟨(cell_set_far hb u).trans h.1.1, (cell_set_far hb u).trans h.1.2.1, (cell_set_far hb u).trans h.1.2.2.1, (cell_set_far hb u).trans h.1.2.2.2⟩, fun j hj => by rw [World.frozen?_setCell]; exact h.2 j hj⟩
theorem RecBox.put0 {w : World} {q : Nat} {K T R : Int} {v : Value} (h : RecBox w q K T R v) (x : Int) : RecBox (w.setCell ⟨q, 0, none⟩ (.int .i64 x)) q x T R v :=
  ⟨⟨cell_set_same h.1.1, (cell_set_other (by omega)).trans h.1.2.1, (cell_set_other (by omega)).trans h.1.2.2.1, (cell_set_other (by omega)).trans h.1.2.2.2⟩, fun j hj => by rw [World.frozen?_setCell]; exact h.2 j hj⟩
theorem RecBox.put1 {w : World} {q : Nat} {K T R : Int} {v : Value} (h : RecBox w q K T R v) (x : Int) : RecBox (w.setCell ⟨q, 1, none⟩ (.int .i64 x)) q K x R v :=
  ⟨⟨(cell_set_other (by omega)).trans h.1.1, cell_set_same h.1.2.1, (cell_set_other (by omega)).trans h.1.2.2.1, (cell_set_other (by omega)).trans h.1.2.2.2⟩, fun j hj => by rw [World.frozen?_setCell]; exact h.2 j hj⟩
theorem RecBox.put2 {w : World} {q : Nat} {K T R : Int} {v : Value} (h : RecBox w q K T R v) (x : Int) : RecBox (w.setCell ⟨q, 2, none⟩ (.int .i64 x)) q K T x v :=
  ⟨⟨(cell_set_other (by omega)).trans h.1.1, (cell_set_other (by omega)).trans h.1.2.1, cell_set_same h.1.2.2.1, (cell_set_other (by omega)).trans h.1.2.2.2⟩, fun j hj => by rw [World.frozen?_setCell]; exact h.2 j hj⟩
theorem RecBox.put3 {w : World} {q : Nat} {K T R : Int} {v : Value} (h : RecBox w q K T R v) (x : Value) : RecBox (w.setCell ⟨q, 3, none⟩ x) q K T R x :=
  ⟨⟨(cell_set_other (by omega)).trans h.1.1, (cell_set_other (by omega)).trans h.1.2.1, (cell_set_other (by omega)).trans h.1.2.2.1, cell_set_same h.1.2.2.2⟩, fun j hj => by rw [World.frozen?_setCell]; exact h.2 j hj⟩
theorem SetsAt.turnedAt {w w' : World} {g c : Nat} {xs : List S5} (h : SetsAt w g 0 xs) (ht : Turned c w w') (hg : g < w.heap.size) (hc : g ≠ c) : SetsAt w' g 0 xs := fun i s e =>
  ⟨(ht.cell (p := ⟨g, _, none⟩) hg hc).trans (h i s e).c0, (ht.cell (p := ⟨g, _, none⟩) hg hc).trans (h i s e).c1, (ht.cell (p := ⟨g, _, none⟩) hg hc).trans (h i s e).c2, (ht.cell (p := ⟨g, _, none⟩) hg hc).trans (h i s e).c3, (ht.cell (p := ⟨g, _, none⟩) hg hc).trans (h i s e).c4⟩
/-- The draw's own place: the answer's block, the record's block and its row of Sets. -/
structure RI (w : World) (c A Q : Nat) (a : Option Addr) (n k : Nat) (K T R : Int) (g m cap : Nat) (xs : List S5) (w1 : World) : Prop where
  ba : RecBox w1 A 0 0 0 (.slice none 0 0)
  bq : RecBox w1 Q K T R (.slice (some ⟨g, 0, none⟩) m cap)
  cu : Cur w1 c a n k
  tu : Turned c w w1
  la : A < w1.heap.size
  lq : Q < w1.heap.size
  lg : g < w1.heap.size
  sa : SetsAt w1 g 0 xs
  ro : Room w1 g (m * 5) ∧ m ≤ cap
  apart : A ≠ c ∧ Q ≠ c ∧ g ≠ c ∧ A ≠ Q ∧ g ≠ A ∧ g ≠ Q ∧ w.heap.size ≤ A ∧ w.heap.size ≤ Q ∧ w.heap.size ≤ g
theorem RI.step {w : World} {c A Q : Nat} {a : Option Addr} {n k : Nat} {K T R : Int} {g m cap : Nat} {xs : List S5} {w1 w2 : World} (h : RI w c A Q a n k K T R g m cap xs w1) (hc : Cur w2 c a n k) (ht : Turned c w1 w2) : RI w c A Q a n k K T R g m cap xs w2 :=
  ⟨h.ba.turned ht h.la h.apart.1, h.bq.turned ht h.lq h.apart.2.1, hc, h.tu.trans ht, Nat.lt_of_lt_of_le h.la ht.size, Nat.lt_of_lt_of_le h.lq ht.size, Nat.lt_of_lt_of_le h.lg ht.size, h.sa.turnedAt ht h.lg h.apart.2.2.1, ⟨h.ro.1.of_block (ht.block g h.lg h.apart.2.2.1), h.ro.2⟩, h.apart⟩
theorem RI.alloc {w : World} {c A Q : Nat} {a : Option Addr} {n k : Nat} {K T R : Int} {g m cap : Nat} {xs : List S5} {w1 : World} (h : RI w c A Q a n k K T R g m cap xs w1) (o : Obj) : RI w c A Q a n k K T R g m cap xs (w1.alloc o) := h.step (h.cu.alloc _) ((Turned.refl _ _).alloc _)
theorem setCell_size (w : World) (p : Addr) (v : Value) : (w.setCell p v).heap.size = w.heap.size := by simp [World.setCell]
theorem RI.fin {w : World} {c A Q : Nat} {a : Option Addr} {n k : Nat} {K T R : Int} {g m cap : Nat} {xs : List S5} {w1 : World} (h : RI w c A Q a n k K T R g m cap xs w1) (u0 u1 u2 u3 : Value) :
    w.heap.size ≤ g ∧ g ≠ c ∧ g < ((((w1.setCell ⟨A, 0, none⟩ u0).setCell ⟨A, 1, none⟩ u1).setCell ⟨A, 2, none⟩ u2).setCell ⟨A, 3, none⟩ u3).heap.size ∧ SetsAt ((((w1.setCell ⟨A, 0, none⟩ u0).setCell ⟨A, 1, none⟩ u1).setCell ⟨A, 2, none⟩ u2).setCell ⟨A, 3, none⟩ u3) g 0 xs ∧ (Room ((((w1.setCell ⟨A, 0, none⟩ u0).setCell ⟨A, 1, none⟩ u1).setCell ⟨A, 2, none⟩ u2).setCell ⟨A, 3, none⟩ u3) g (m * 5) ∧ m ≤ cap) ∧ Cur ((((w1.setCell ⟨A, 0, none⟩ u0).setCell ⟨A, 1, none⟩ u1).setCell ⟨A, 2, none⟩ u2).setCell ⟨A, 3, none⟩ u3) c a n k ∧ Turned c w ((((w1.setCell ⟨A, 0, none⟩ u0).setCell ⟨A, 1, none⟩ u1).setCell ⟨A, 2, none⟩ u2).setCell ⟨A, 3, none⟩ u3) := by
  have hA := h.apart.1
  have hg : A ≠ g := fun e => h.apart.2.2.2.2.1 e.symm
  have hw := h.apart.2.2.2.2.2.2.1
  refine ⟨h.apart.2.2.2.2.2.2.2.2, h.apart.2.2.1, ?_, (((h.sa.far (p := ⟨A, 0, none⟩) hg _).far (p := ⟨A, 1, none⟩) hg _).far (p := ⟨A, 2, none⟩) hg _).far (p := ⟨A, 3, none⟩) hg _, ⟨h.ro.1.of_block ((Below.heap_setCell _ _ _ _ (fun e => hg e.symm)).trans ((Below.heap_setCell _ _ _ _ (fun e => hg e.symm)).trans ((Below.heap_setCell _ _ _ _ (fun e => hg e.symm)).trans (Below.heap_setCell _ _ _ _ (fun e => hg e.symm))))), h.ro.2⟩, (((h.cu.put hA _ _).put hA _ _).put hA _ _).put hA _ _, (((h.tu.put hw _ _).put hw _ _).put hw _ _).put hw _ _⟩
  simp only [setCell_size]
  exact h.lg
theorem RI.putq {w : World} {c A Q : Nat} {a : Option Addr} {n k : Nat} {K T R : Int} {g m cap : Nat} {xs : List S5} {w1 : World} (h : RI w c A Q a n k K T R g m cap xs w1) {o : Nat} {u : Value} {K' T' R' : Int} (hb : RecBox (w1.setCell ⟨Q, o, none⟩ u) Q K' T' R' (.slice (some ⟨g, 0, none⟩) m cap)) : RI w c A Q a n k K' T' R' g m cap xs (w1.setCell ⟨Q, o, none⟩ u) := by
  have hq := h.apart
  exact ⟨h.ba.far (fun e => hq.2.2.2.1 e.symm) _ _, hb, h.cu.put hq.2.1 _ _, h.tu.put hq.2.2.2.2.2.2.2.1 _ _, by rw [setCell_size]; exact h.la, by rw [setCell_size]; exact h.lq, by rw [setCell_size]; exact h.lg, h.sa.far (p := ⟨Q, o, none⟩) (fun e => hq.2.2.2.2.2.1 e.symm) _, ⟨h.ro.1.of_block (Below.heap_setCell _ _ _ _ hq.2.2.2.2.2.1), h.ro.2⟩, hq⟩
set_option maxHeartbeats 8000000 in
theorem l2Draw_any (w : World) (B c : Nat) (a : Option Addr) (n k : Nat) (hcur : Cur w c a n k) (hb : Bytes w B a n) (hB : B ≤ c) :
    Calls Tryz.prog 66 #[.pointer (some ⟨c, 0, none⟩)] w fun e w' => ∃ (K T R : Int) (g m cap : Nat) (xs : List S5), e = .returned (.agg #[.int .i64 K, .int .i64 T, .int .i64 R, .slice (some ⟨g, 0, none⟩) m cap]) ∧ i64 K ∧ i64 T ∧ i64 R ∧ xs.length = m ∧ m ≤ 7 ∧ (∀ s ∈ xs, fits5 s) ∧ w.heap.size ≤ g ∧ g ≠ c ∧ g < w'.heap.size ∧ SetsAt w' g 0 xs ∧ (Room w' g (m * 5) ∧ m ≤ cap) ∧ Cur w' c a n k ∧ Turned c w w' := by
  have KB : Hid (Bytes w B a n ∧ B ≤ w.heap.size ∧ c < w.heap.size) := ⟨hb, by have := hcur.lt; omega, hcur.lt⟩
  have BY : Hid (∀ w', Turned c w w' → Bytes w' B a n) := fun w' h => KB.out.1.below (h.below hB KB.out.2.1)
  go_enter Tryz.func66, Tryz.ntmps66
  go_wp2_with fail
  have t0 : Turned c w (w.alloc (.cells #[.int .i64 0, .int .i64 0, .int .i64 0, .slice none 0 0] 41)) := (Turned.refl _ _).alloc _
  have r0 := RecBox.new w 0 0 0 (.slice none 0 0) 41
  have c0 : Cur (w.alloc (.cells #[.int .i64 0, .int .i64 0, .int .i64 0, .slice none 0 0] 41)) c a n k := hcur.alloc _
  have z0 : w.heap.size < (w.alloc (.cells #[.int .i64 0, .int .i64 0, .int .i64 0, .slice none 0 0] 41)).heap.size := by simp
  generalize w.alloc (.cells #[.int .i64 0, .int .i64 0, .int .i64 0, .slice none 0 0] 41) = W at *
  have hne : Hid (w.heap.size ≠ c) := by unfold Hid; have := KB.out.2.2; omega
  have K0 : Hid (RecBox W w.heap.size 0 0 0 (.slice none 0 0) ∧ Cur W c a n k ∧ Turned c w W ∧ w.heap.size < W.heap.size) := ⟨r0, c0, t0, z0⟩
  have STEP : Hid (∀ w1 w2 : World, (RecBox w1 w.heap.size 0 0 0 (.slice none 0 0) ∧ Cur w1 c a n k ∧ Turned c w w1 ∧ w.heap.size < w1.heap.size) → Cur w2 c a n k → Turned c w1 w2 → (RecBox w2 w.heap.size 0 0 0 (.slice none 0 0) ∧ Cur w2 c a n k ∧ Turned c w w2 ∧ w.heap.size < w2.heap.size)) := fun w1 w2 h hc ht => ⟨h.1.turned ht h.2.2.2 hne.out, hc, h.2.2.1.trans ht, Nat.lt_of_lt_of_le h.2.2.2 ht.size⟩
  clear r0 c0 t0 z0 hcur hb
  refine (l1Below_any _ B c a n k _ K0.out.2.1 (BY.out _ K0.out.2.2.1) hB (by omega)).mono ?_
  rintro e w1 ⟨y1, rfl, hy1, hy1', c1, t1⟩
  have K1 := (show Hid _ from STEP.out _ _ K0.out c1 t1)
  clear c1 t1 K0
  go_wp2_with fail
  refine (l1Below_any _ B c a n k _ K1.out.2.1 (BY.out _ K1.out.2.2.1) hB (by omega)).mono ?_
  rintro e w2 ⟨y2, rfl, hy2, hy2', c2, t2⟩
  have K2 := (show Hid _ from STEP.out _ _ K1.out c2 t2)
  clear c2 t2 K1
  go_wp2_with fail
  refine (l1Below_any _ B c a n k _ K2.out.2.1 (BY.out _ K2.out.2.2.1) hB (by omega)).mono ?_
  rintro e w4 ⟨y3, rfl, hy3, hy3', c3, t3⟩
  have K4 := (show Hid _ from STEP.out _ _ K2.out c3 t3)
  clear c3 t3 K2
  go_wp2_with fail
  have HS : Hid (w4.heap.size ≠ c ∧ w.heap.size ≤ w4.heap.size ∧ w4.heap.size ≠ w.heap.size) := by unfold Hid; have := K4.out.2.1.lt; have := K4.out.2.2.2; omega
  have K5 : Hid (RecBox (w4.alloc (.cells #[.int .i64 (1 + y1), .int .i64 (1 + y2), .int .i64 y3, .slice none 0 0] 41)) w.heap.size 0 0 0 (.slice none 0 0) ∧ RecBox (w4.alloc (.cells #[.int .i64 (1 + y1), .int .i64 (1 + y2), .int .i64 y3, .slice none 0 0] 41)) w4.heap.size (1 + y1) (1 + y2) y3 (.slice none 0 0) ∧ Cur (w4.alloc (.cells #[.int .i64 (1 + y1), .int .i64 (1 + y2), .int .i64 y3, .slice none 0 0] 41)) c a n k ∧ Turned c w (w4.alloc (.cells #[.int .i64 (1 + y1), .int .i64 (1 + y2), .int .i64 y3, .slice none 0 0] 41)) ∧ w.heap.size < (w4.alloc (.cells #[.int .i64 (1 + y1), .int .i64 (1 + y2), .int .i64 y3, .slice none 0 0] 41)).heap.size ∧ (w4.alloc (.cells #[.int .i64 (1 + y1), .int .i64 (1 + y2), .int .i64 y3, .slice none 0 0] 41)).heap.size = w4.heap.size + 1) := ⟨K4.out.1.turned ((Turned.refl c w4).alloc _) K4.out.2.2.2 hne.out, RecBox.new w4 _ _ _ _ _, K4.out.2.1.alloc _, K4.out.2.2.1.alloc _, by have := K4.out.2.2.2; simp; omega, by simp⟩
  generalize (w4.alloc (.cells #[.int .i64 (1 + y1), .int .i64 (1 + y2), .int .i64 y3, .slice none 0 0] 41)) = v5 at *
  refine (l2DrawSets_any _ B c a n k y3 (by omega) K5.out.2.2.1 (BY.out _ K5.out.2.2.2.1) hB).mono ?_
  rintro e w5 ⟨g, m, cap, xs, rfl, hxl, hm7, hfit, hg1, hgc, hg2, hsa, hro, c5, t5⟩
  have hQ : w4.heap.size < v5.heap.size := by have := K5.out.2.2.2.2.2; omega
  have bq := K5.out.2.1.turned t5 hQ HS.out.1
  have KG : Hid (RI w c w.heap.size w4.heap.size a n k (1 + y1) (1 + y2) y3 g m cap xs (w5.setCell ⟨w4.heap.size, 3, none⟩ (.slice (some ⟨g, 0, none⟩) m cap))) := by
    have hz := K5.out.2.2.2.2.2
    have hz2 := K5.out.2.2.2.2.1
    have hs5 := t5.size
    have hh := HS.out
    refine ⟨(K5.out.1.turned t5 K5.out.2.2.2.2.1 hne.out).far hh.2.2 _ _, bq.put3 _, c5.put hh.1 _ _, (K5.out.2.2.2.1.trans t5).put hh.2.1 _ _, by rw [setCell_size]; omega, by rw [setCell_size]; omega, by rw [setCell_size]; exact hg2, hsa.far (p := ⟨w4.heap.size, 3, none⟩) (by show w4.heap.size ≠ g; omega) _, ⟨hro.1.of_block (Below.heap_setCell _ _ _ _ (by show g ≠ w4.heap.size; omega)), hro.2⟩, hne.out, hh.1, hgc, fun e => hh.2.2 e.symm, by omega, by omega, Nat.le_refl _, hh.2.1, by omega⟩
  have KX : Hid (xs.length = m ∧ m ≤ 7 ∧ (∀ s ∈ xs, fits5 s)) := ⟨hxl, hm7, hfit⟩
  obtain ⟨⟨s0, s1, s2, s3⟩, sf⟩ := bq
  have sf3 := sf 3 (by omega)
  clear sf hxl hm7 hfit hg1 hgc hg2 hsa hro c5 t5 K4 STEP K5
  by_cases hm : m = 0
  · subst hm
    go_wp2_with fail
    refine (l1Once_any _ B c a n k _ KG.out.cu (BY.out _ KG.out.tu) hB (by omega)).mono ?_
    rintro e w6 ⟨u, rfl, c6, t6⟩
    have KH : Hid (RI w c w.heap.size w4.heap.size a n k (1 + y1) (1 + y2) y3 g 0 cap xs w6) := KG.out.step c6 t6
    clear c6 t6 KG s0 s1 s2 s3 sf3
    obtain ⟨⟨s0, s1, s2, s3⟩, sf⟩ := KH.out.bq
    have sf3 := sf 3 (by omega)
    clear sf
    cases u
    · have hlt6 : w4.heap.size < w6.heap.size := KH.out.lq
      have hne6 : w4.heap.size ≠ w6.heap.size := by omega
      have hne7 : ¬ (w6.heap.size = w4.heap.size) := by omega
      have hX := (KH.out.alloc (.cells #[.int .i64 y3, .int .i64 2, .int .i64 7, .bool true, .int .i64 1] 139)).bq
      have fz3 := hX.2 3 (by omega)
      have cz3 := hX.1.2.2.2
      clear hX
      go_wp2_with fail
      clear fz3 cz3
      have KN : Hid (RI w c w.heap.size w4.heap.size a n k (1 + y1) (1 + y2) y3 w6.heap.size 1 1 [(⟨y3, 2, 7, true, 1⟩ : S5)] ((w6.setCell ⟨w4.heap.size, 3, none⟩ (.slice (some ⟨w6.heap.size, 0, none⟩) 1 1)).alloc (.cells #[.int .i64 y3, .int .i64 2, .int .i64 7, .bool true, .int .i64 1] 139))) := by
        have h := KH.out
        have hh := h.apart
        have h1 := h.la
        have h2 := h.lq
        have h3 := h.cu.lt
        have h4 := h.tu.size
        have hT : Turned c (w6.setCell ⟨w4.heap.size, 3, none⟩ (.slice (some ⟨w6.heap.size, 0, none⟩) 1 1)) ((w6.setCell ⟨w4.heap.size, 3, none⟩ (.slice (some ⟨w6.heap.size, 0, none⟩) 1 1)).alloc (.cells #[.int .i64 y3, .int .i64 2, .int .i64 7, .bool true, .int .i64 1] 139)) := (Turned.refl _ _).alloc _
        have hb := SetBox.new (w6.setCell ⟨w4.heap.size, 3, none⟩ (.slice (some ⟨w6.heap.size, 0, none⟩) 1 1)) (⟨y3, 2, 7, true, 1⟩ : S5) 139
        rw [setCell_size] at hb
        refine ⟨(h.ba.far HS.out.2.2 _ _).turned hT (by rw [setCell_size]; exact h1) hne.out, (h.bq.put3 _).turned hT (by rw [setCell_size]; exact h2) HS.out.1, (h.cu.put HS.out.1 _ _).alloc _, (h.tu.put HS.out.2.1 _ _).alloc _, by simp; omega, by simp; omega, by simp, ?_, ⟨fun j hj => ?_, Nat.le_refl _⟩, hne.out, HS.out.1, by omega, hh.2.2.2.1, by omega, by omega, Nat.le_refl _, HS.out.2.1, by omega⟩
        · intro i s e
          rcases i with _ | i
          · simp at e
            subst e
            exact hb.1
          · simp at e
        · have hf := hb.2 j (by omega)
          obtain ⟨⟨e0, e1, e2, e3, e4⟩, _⟩ := hb
          simp only [Nat.zero_add] at e1 e2 e3 e4
          rcases j with _ | _ | _ | _ | _ | j
          · exact ⟨_, e0, hf⟩
          · exact ⟨_, e1, hf⟩
          · exact ⟨_, e2, hf⟩
          · exact ⟨_, e3, hf⟩
          · exact ⟨_, e4, hf⟩
          · omega
      have KY : Hid ([(⟨y3, 2, 7, true, 1⟩ : S5)].length = 1 ∧ 1 ≤ 7 ∧ (∀ s ∈ [(⟨y3, 2, 7, true, 1⟩ : S5)], fits5 s)) := by
        refine ⟨rfl, by omega, fun s hs => ?_⟩
        simp at hs
        subst hs
        unfold fits5 i64
        simp only
        omega
      generalize ((w6.setCell ⟨w4.heap.size, 3, none⟩ (.slice (some ⟨w6.heap.size, 0, none⟩) 1 1)).alloc (.cells #[.int .i64 y3, .int .i64 2, .int .i64 7, .bool true, .int .i64 1] 139)) = v7 at *
      clear s0 s1 s2 s3 sf3
      refine (l1Once_any _ B c a n k _ KN.out.cu (BY.out _ KN.out.tu) hB (by omega)).mono ?_
      rintro e w16 ⟨u, rfl, c6, t6⟩
      have K6 : Hid (RI w c w.heap.size w4.heap.size a n k (1 + y1) (1 + y2) y3 w6.heap.size 1 1 [(⟨y3, 2, 7, true, 1⟩ : S5)] w16) := KN.out.step c6 t6
      clear c6 t6 KN
      have hSA : w4.heap.size ≠ w.heap.size := HS.out.2.2
      cases u
      · obtain ⟨⟨a0, a1, a2, a3⟩, af⟩ := K6.out.ba
        obtain ⟨⟨s0, s1, s2, s3⟩, sf⟩ := K6.out.bq
        have af0 := af 0 (by omega)
        have af1 := af 1 (by omega)
        have af2 := af 2 (by omega)
        have af3 := af 3 (by omega)
        have sf0 := sf 0 (by omega)
        have sf1 := sf 1 (by omega)
        have sf2 := sf 2 (by omega)
        clear af sf
        go_wp2
        refine bodyPost_ret (v := .agg #[.int .i64 (1 + y1), .int .i64 (1 + y2), .int .i64 (y3), .slice (some ⟨w6.heap.size, 0, none⟩) 1 1]) (by simp [results, Tryz.results66, go_sem, a0, a1, a2, a3]) rfl ?_
        exact ⟨1 + y1, 1 + y2, y3, w6.heap.size, 1, 1, [(⟨y3, 2, 7, true, 1⟩ : S5)], rfl, by unfold i64; omega, by unfold i64; omega, by unfold i64; omega, KY.out.1, KY.out.2.1, KY.out.2.2, RI.fin K6.out _ _ _ _⟩
      · go_wp2_with fail
        refine (l1Below_any _ B c a n k _ K6.out.cu (BY.out _ K6.out.tu) hB (by omega)).mono ?_
        rintro e w17 ⟨y, rfl, hy0, hyq, c7, t7⟩
        have K7 : Hid (RI w c w.heap.size w4.heap.size a n k (1 + y1) (1 + y2) y3 w6.heap.size 1 1 [(⟨y3, 2, 7, true, 1⟩ : S5)] w17) := K6.out.step c7 t7
        clear c7 t7 K6
        obtain rfl | rfl | rfl : y = 0 ∨ y = 1 ∨ y = 2 := by omega
        · clear hy0 hyq
          go_wp2_with fail
          have hw7 : c < w17.heap.size := K7.out.cu.lt
          refine (l1Below_any _ B c a n k _ (K7.out.cu.alloc _) (BY.out _ (K7.out.tu.alloc _)) hB (by omega)).mono ?_
          rintro e w18 ⟨y, rfl, hy0, hyq, c8, t8⟩
          obtain ⟨q, rfl⟩ := Int.eq_ofNat_of_zero_le hy0
          obtain ⟨x, hxm, hx⟩ := new_in_turned [0, 4, -9223372036854775808] _ hw7 t8 q (by simp; omega)
          have K8 : Hid (RI w c w.heap.size w4.heap.size a n k (1 + y1) (1 + y2) y3 w6.heap.size 1 1 [(⟨y3, 2, 7, true, 1⟩ : S5)] w18) := (K7.out.alloc _).step c8 t8
          simp at hxm
          clear c8 t8 K7
          obtain ⟨⟨a0, a1, a2, a3⟩, af⟩ := K8.out.ba
          obtain ⟨⟨s0, s1, s2, s3⟩, sf⟩ := K8.out.bq
          have af0 := af 0 (by omega)
          have af1 := af 1 (by omega)
          have af2 := af 2 (by omega)
          have af3 := af 3 (by omega)
          have sf0 := sf 0 (by omega)
          have sf1 := sf 1 (by omega)
          have sf2 := sf 2 (by omega)
          clear af sf
          go_wp2
          refine bodyPost_ret (v := .agg #[.int .i64 (x), .int .i64 (1 + y2), .int .i64 (y3), .slice (some ⟨w6.heap.size, 0, none⟩) 1 1]) (by simp [results, Tryz.results66, go_sem, a0, a1, a2, a3]) rfl ?_
          exact ⟨x, 1 + y2, y3, w6.heap.size, 1, 1, [(⟨y3, 2, 7, true, 1⟩ : S5)], rfl, by unfold i64; omega, by unfold i64; omega, by unfold i64; omega, KY.out.1, KY.out.2.1, KY.out.2.2, RI.fin (K8.out.putq (K8.out.bq.put0 x)) _ _ _ _⟩
        · clear hy0 hyq
          go_wp2_with fail
          have hw7 : c < w17.heap.size := K7.out.cu.lt
          refine (l1Below_any _ B c a n k _ (K7.out.cu.alloc _) (BY.out _ (K7.out.tu.alloc _)) hB (by omega)).mono ?_
          rintro e w18 ⟨y, rfl, hy0, hyq, c8, t8⟩
          obtain ⟨q, rfl⟩ := Int.eq_ofNat_of_zero_le hy0
          obtain ⟨x, hxm, hx⟩ := new_in_turned [0, 1000000, 1000001, -9223372036854775808] _ hw7 t8 q (by simp; omega)
          have K8 : Hid (RI w c w.heap.size w4.heap.size a n k (1 + y1) (1 + y2) y3 w6.heap.size 1 1 [(⟨y3, 2, 7, true, 1⟩ : S5)] w18) := (K7.out.alloc _).step c8 t8
          simp at hxm
          clear c8 t8 K7
          obtain ⟨⟨a0, a1, a2, a3⟩, af⟩ := K8.out.ba
          obtain ⟨⟨s0, s1, s2, s3⟩, sf⟩ := K8.out.bq
          have af0 := af 0 (by omega)
          have af1 := af 1 (by omega)
          have af2 := af 2 (by omega)
          have af3 := af 3 (by omega)
          have sf0 := sf 0 (by omega)
          have sf1 := sf 1 (by omega)
          have sf2 := sf 2 (by omega)
          clear af sf
          go_wp2
          refine bodyPost_ret (v := .agg #[.int .i64 (1 + y1), .int .i64 (x), .int .i64 (y3), .slice (some ⟨w6.heap.size, 0, none⟩) 1 1]) (by simp [results, Tryz.results66, go_sem, a0, a1, a2, a3]) rfl ?_
          exact ⟨1 + y1, x, y3, w6.heap.size, 1, 1, [(⟨y3, 2, 7, true, 1⟩ : S5)], rfl, by unfold i64; omega, by unfold i64; omega, by unfold i64; omega, KY.out.1, KY.out.2.1, KY.out.2.2, RI.fin (K8.out.putq (K8.out.bq.put1 x)) _ _ _ _⟩
        · clear hy0 hyq
          go_wp2_with fail
          have hw7 : c < w17.heap.size := K7.out.cu.lt
          refine (l1Below_any _ B c a n k _ (K7.out.cu.alloc _) (BY.out _ (K7.out.tu.alloc _)) hB (by omega)).mono ?_
          rintro e w18 ⟨y, rfl, hy0, hyq, c8, t8⟩
          obtain ⟨q, rfl⟩ := Int.eq_ofNat_of_zero_le hy0
          obtain ⟨x, hxm, hx⟩ := new_in_turned [-1, 5, 6, -9223372036854775808] _ hw7 t8 q (by simp; omega)
          have K8 : Hid (RI w c w.heap.size w4.heap.size a n k (1 + y1) (1 + y2) y3 w6.heap.size 1 1 [(⟨y3, 2, 7, true, 1⟩ : S5)] w18) := (K7.out.alloc _).step c8 t8
          simp at hxm
          clear c8 t8 K7
          obtain ⟨⟨a0, a1, a2, a3⟩, af⟩ := K8.out.ba
          obtain ⟨⟨s0, s1, s2, s3⟩, sf⟩ := K8.out.bq
          have af0 := af 0 (by omega)
          have af1 := af 1 (by omega)
          have af2 := af 2 (by omega)
          have af3 := af 3 (by omega)
          have sf0 := sf 0 (by omega)
          have sf1 := sf 1 (by omega)
          have sf2 := sf 2 (by omega)
          clear af sf
          go_wp2
          refine bodyPost_ret (v := .agg #[.int .i64 (1 + y1), .int .i64 (1 + y2), .int .i64 (x), .slice (some ⟨w6.heap.size, 0, none⟩) 1 1]) (by simp [results, Tryz.results66, go_sem, a0, a1, a2, a3]) rfl ?_
          exact ⟨1 + y1, 1 + y2, x, w6.heap.size, 1, 1, [(⟨y3, 2, 7, true, 1⟩ : S5)], rfl, by unfold i64; omega, by unfold i64; omega, by unfold i64; omega, KY.out.1, KY.out.2.1, KY.out.2.2, RI.fin (K8.out.putq (K8.out.bq.put2 x)) _ _ _ _⟩
    · go_wp2_with fail
      clear s0 s1 s2 s3 sf3
      refine (l1Once_any _ B c a n k _ KH.out.cu (BY.out _ KH.out.tu) hB (by omega)).mono ?_
      rintro e w16 ⟨u, rfl, c6, t6⟩
      have K6 : Hid (RI w c w.heap.size w4.heap.size a n k (1 + y1) (1 + y2) y3 g 0 cap xs w16) := KH.out.step c6 t6
      clear c6 t6 KH
      have hSA : w4.heap.size ≠ w.heap.size := HS.out.2.2
      cases u
      · obtain ⟨⟨a0, a1, a2, a3⟩, af⟩ := K6.out.ba
        obtain ⟨⟨s0, s1, s2, s3⟩, sf⟩ := K6.out.bq
        have af0 := af 0 (by omega)
        have af1 := af 1 (by omega)
        have af2 := af 2 (by omega)
        have af3 := af 3 (by omega)
        have sf0 := sf 0 (by omega)
        have sf1 := sf 1 (by omega)
        have sf2 := sf 2 (by omega)
        clear af sf
        go_wp2
        refine bodyPost_ret (v := .agg #[.int .i64 (1 + y1), .int .i64 (1 + y2), .int .i64 (y3), .slice (some ⟨g, 0, none⟩) 0 cap]) (by simp [results, Tryz.results66, go_sem, a0, a1, a2, a3]) rfl ?_
        exact ⟨1 + y1, 1 + y2, y3, g, 0, cap, xs, rfl, by unfold i64; omega, by unfold i64; omega, by unfold i64; omega, KX.out.1, KX.out.2.1, KX.out.2.2, RI.fin K6.out _ _ _ _⟩
      · go_wp2_with fail
        refine (l1Below_any _ B c a n k _ K6.out.cu (BY.out _ K6.out.tu) hB (by omega)).mono ?_
        rintro e w17 ⟨y, rfl, hy0, hyq, c7, t7⟩
        have K7 : Hid (RI w c w.heap.size w4.heap.size a n k (1 + y1) (1 + y2) y3 g 0 cap xs w17) := K6.out.step c7 t7
        clear c7 t7 K6
        obtain rfl | rfl | rfl : y = 0 ∨ y = 1 ∨ y = 2 := by omega
        · clear hy0 hyq
          go_wp2_with fail
          have hw7 : c < w17.heap.size := K7.out.cu.lt
          refine (l1Below_any _ B c a n k _ (K7.out.cu.alloc _) (BY.out _ (K7.out.tu.alloc _)) hB (by omega)).mono ?_
          rintro e w18 ⟨y, rfl, hy0, hyq, c8, t8⟩
          obtain ⟨q, rfl⟩ := Int.eq_ofNat_of_zero_le hy0
          obtain ⟨x, hxm, hx⟩ := new_in_turned [0, 4, -9223372036854775808] _ hw7 t8 q (by simp; omega)
          have K8 : Hid (RI w c w.heap.size w4.heap.size a n k (1 + y1) (1 + y2) y3 g 0 cap xs w18) := (K7.out.alloc _).step c8 t8
          simp at hxm
          clear c8 t8 K7
          obtain ⟨⟨a0, a1, a2, a3⟩, af⟩ := K8.out.ba
          obtain ⟨⟨s0, s1, s2, s3⟩, sf⟩ := K8.out.bq
          have af0 := af 0 (by omega)
          have af1 := af 1 (by omega)
          have af2 := af 2 (by omega)
          have af3 := af 3 (by omega)
          have sf0 := sf 0 (by omega)
          have sf1 := sf 1 (by omega)
          have sf2 := sf 2 (by omega)
          clear af sf
          go_wp2
          refine bodyPost_ret (v := .agg #[.int .i64 (x), .int .i64 (1 + y2), .int .i64 (y3), .slice (some ⟨g, 0, none⟩) 0 cap]) (by simp [results, Tryz.results66, go_sem, a0, a1, a2, a3]) rfl ?_
          exact ⟨x, 1 + y2, y3, g, 0, cap, xs, rfl, by unfold i64; omega, by unfold i64; omega, by unfold i64; omega, KX.out.1, KX.out.2.1, KX.out.2.2, RI.fin (K8.out.putq (K8.out.bq.put0 x)) _ _ _ _⟩
        · clear hy0 hyq
          go_wp2_with fail
          have hw7 : c < w17.heap.size := K7.out.cu.lt
          refine (l1Below_any _ B c a n k _ (K7.out.cu.alloc _) (BY.out _ (K7.out.tu.alloc _)) hB (by omega)).mono ?_
          rintro e w18 ⟨y, rfl, hy0, hyq, c8, t8⟩
          obtain ⟨q, rfl⟩ := Int.eq_ofNat_of_zero_le hy0
          obtain ⟨x, hxm, hx⟩ := new_in_turned [0, 1000000, 1000001, -9223372036854775808] _ hw7 t8 q (by simp; omega)
          have K8 : Hid (RI w c w.heap.size w4.heap.size a n k (1 + y1) (1 + y2) y3 g 0 cap xs w18) := (K7.out.alloc _).step c8 t8
          simp at hxm
          clear c8 t8 K7
          obtain ⟨⟨a0, a1, a2, a3⟩, af⟩ := K8.out.ba
          obtain ⟨⟨s0, s1, s2, s3⟩, sf⟩ := K8.out.bq
          have af0 := af 0 (by omega)
          have af1 := af 1 (by omega)
          have af2 := af 2 (by omega)
          have af3 := af 3 (by omega)
          have sf0 := sf 0 (by omega)
          have sf1 := sf 1 (by omega)
          have sf2 := sf 2 (by omega)
          clear af sf
          go_wp2
          refine bodyPost_ret (v := .agg #[.int .i64 (1 + y1), .int .i64 (x), .int .i64 (y3), .slice (some ⟨g, 0, none⟩) 0 cap]) (by simp [results, Tryz.results66, go_sem, a0, a1, a2, a3]) rfl ?_
          exact ⟨1 + y1, x, y3, g, 0, cap, xs, rfl, by unfold i64; omega, by unfold i64; omega, by unfold i64; omega, KX.out.1, KX.out.2.1, KX.out.2.2, RI.fin (K8.out.putq (K8.out.bq.put1 x)) _ _ _ _⟩
        · clear hy0 hyq
          go_wp2_with fail
          have hw7 : c < w17.heap.size := K7.out.cu.lt
          refine (l1Below_any _ B c a n k _ (K7.out.cu.alloc _) (BY.out _ (K7.out.tu.alloc _)) hB (by omega)).mono ?_
          rintro e w18 ⟨y, rfl, hy0, hyq, c8, t8⟩
          obtain ⟨q, rfl⟩ := Int.eq_ofNat_of_zero_le hy0
          obtain ⟨x, hxm, hx⟩ := new_in_turned [-1, 5, 6, -9223372036854775808] _ hw7 t8 q (by simp; omega)
          have K8 : Hid (RI w c w.heap.size w4.heap.size a n k (1 + y1) (1 + y2) y3 g 0 cap xs w18) := (K7.out.alloc _).step c8 t8
          simp at hxm
          clear c8 t8 K7
          obtain ⟨⟨a0, a1, a2, a3⟩, af⟩ := K8.out.ba
          obtain ⟨⟨s0, s1, s2, s3⟩, sf⟩ := K8.out.bq
          have af0 := af 0 (by omega)
          have af1 := af 1 (by omega)
          have af2 := af 2 (by omega)
          have af3 := af 3 (by omega)
          have sf0 := sf 0 (by omega)
          have sf1 := sf 1 (by omega)
          have sf2 := sf 2 (by omega)
          clear af sf
          go_wp2
          refine bodyPost_ret (v := .agg #[.int .i64 (1 + y1), .int .i64 (1 + y2), .int .i64 (x), .slice (some ⟨g, 0, none⟩) 0 cap]) (by simp [results, Tryz.results66, go_sem, a0, a1, a2, a3]) rfl ?_
          exact ⟨1 + y1, 1 + y2, x, g, 0, cap, xs, rfl, by unfold i64; omega, by unfold i64; omega, by unfold i64; omega, KX.out.1, KX.out.2.1, KX.out.2.2, RI.fin (K8.out.putq (K8.out.bq.put2 x)) _ _ _ _⟩
  · have hm' : ¬ ((m : Int) = 0) := by omega
    go_wp2_with fail
    generalize (w5.setCell ⟨w4.heap.size, 3, none⟩ (.slice (some ⟨g, 0, none⟩) m cap)) = v6 at *
    clear s0 s1 s2 s3 sf3
    refine (l1Once_any _ B c a n k _ KG.out.cu (BY.out _ KG.out.tu) hB (by omega)).mono ?_
    rintro e w16 ⟨u, rfl, c6, t6⟩
    have K6 : Hid (RI w c w.heap.size w4.heap.size a n k (1 + y1) (1 + y2) y3 g m cap xs w16) := KG.out.step c6 t6
    clear c6 t6 KG
    have hSA : w4.heap.size ≠ w.heap.size := HS.out.2.2
    cases u
    · obtain ⟨⟨a0, a1, a2, a3⟩, af⟩ := K6.out.ba
      obtain ⟨⟨s0, s1, s2, s3⟩, sf⟩ := K6.out.bq
      have af0 := af 0 (by omega)
      have af1 := af 1 (by omega)
      have af2 := af 2 (by omega)
      have af3 := af 3 (by omega)
      have sf0 := sf 0 (by omega)
      have sf1 := sf 1 (by omega)
      have sf2 := sf 2 (by omega)
      clear af sf
      go_wp2
      refine bodyPost_ret (v := .agg #[.int .i64 (1 + y1), .int .i64 (1 + y2), .int .i64 (y3), .slice (some ⟨g, 0, none⟩) m cap]) (by simp [results, Tryz.results66, go_sem, a0, a1, a2, a3]) rfl ?_
      exact ⟨1 + y1, 1 + y2, y3, g, m, cap, xs, rfl, by unfold i64; omega, by unfold i64; omega, by unfold i64; omega, KX.out.1, KX.out.2.1, KX.out.2.2, RI.fin K6.out _ _ _ _⟩
    · go_wp2_with fail
      refine (l1Below_any _ B c a n k _ K6.out.cu (BY.out _ K6.out.tu) hB (by omega)).mono ?_
      rintro e w17 ⟨y, rfl, hy0, hyq, c7, t7⟩
      have K7 : Hid (RI w c w.heap.size w4.heap.size a n k (1 + y1) (1 + y2) y3 g m cap xs w17) := K6.out.step c7 t7
      clear c7 t7 K6
      obtain rfl | rfl | rfl : y = 0 ∨ y = 1 ∨ y = 2 := by omega
      · clear hy0 hyq
        go_wp2_with fail
        have hw7 : c < w17.heap.size := K7.out.cu.lt
        refine (l1Below_any _ B c a n k _ (K7.out.cu.alloc _) (BY.out _ (K7.out.tu.alloc _)) hB (by omega)).mono ?_
        rintro e w18 ⟨y, rfl, hy0, hyq, c8, t8⟩
        obtain ⟨q, rfl⟩ := Int.eq_ofNat_of_zero_le hy0
        obtain ⟨x, hxm, hx⟩ := new_in_turned [0, 4, -9223372036854775808] _ hw7 t8 q (by simp; omega)
        have K8 : Hid (RI w c w.heap.size w4.heap.size a n k (1 + y1) (1 + y2) y3 g m cap xs w18) := (K7.out.alloc _).step c8 t8
        simp at hxm
        clear c8 t8 K7
        obtain ⟨⟨a0, a1, a2, a3⟩, af⟩ := K8.out.ba
        obtain ⟨⟨s0, s1, s2, s3⟩, sf⟩ := K8.out.bq
        have af0 := af 0 (by omega)
        have af1 := af 1 (by omega)
        have af2 := af 2 (by omega)
        have af3 := af 3 (by omega)
        have sf0 := sf 0 (by omega)
        have sf1 := sf 1 (by omega)
        have sf2 := sf 2 (by omega)
        clear af sf
        go_wp2
        refine bodyPost_ret (v := .agg #[.int .i64 (x), .int .i64 (1 + y2), .int .i64 (y3), .slice (some ⟨g, 0, none⟩) m cap]) (by simp [results, Tryz.results66, go_sem, a0, a1, a2, a3]) rfl ?_
        exact ⟨x, 1 + y2, y3, g, m, cap, xs, rfl, by unfold i64; omega, by unfold i64; omega, by unfold i64; omega, KX.out.1, KX.out.2.1, KX.out.2.2, RI.fin (K8.out.putq (K8.out.bq.put0 x)) _ _ _ _⟩
      · clear hy0 hyq
        go_wp2_with fail
        have hw7 : c < w17.heap.size := K7.out.cu.lt
        refine (l1Below_any _ B c a n k _ (K7.out.cu.alloc _) (BY.out _ (K7.out.tu.alloc _)) hB (by omega)).mono ?_
        rintro e w18 ⟨y, rfl, hy0, hyq, c8, t8⟩
        obtain ⟨q, rfl⟩ := Int.eq_ofNat_of_zero_le hy0
        obtain ⟨x, hxm, hx⟩ := new_in_turned [0, 1000000, 1000001, -9223372036854775808] _ hw7 t8 q (by simp; omega)
        have K8 : Hid (RI w c w.heap.size w4.heap.size a n k (1 + y1) (1 + y2) y3 g m cap xs w18) := (K7.out.alloc _).step c8 t8
        simp at hxm
        clear c8 t8 K7
        obtain ⟨⟨a0, a1, a2, a3⟩, af⟩ := K8.out.ba
        obtain ⟨⟨s0, s1, s2, s3⟩, sf⟩ := K8.out.bq
        have af0 := af 0 (by omega)
        have af1 := af 1 (by omega)
        have af2 := af 2 (by omega)
        have af3 := af 3 (by omega)
        have sf0 := sf 0 (by omega)
        have sf1 := sf 1 (by omega)
        have sf2 := sf 2 (by omega)
        clear af sf
        go_wp2
        refine bodyPost_ret (v := .agg #[.int .i64 (1 + y1), .int .i64 (x), .int .i64 (y3), .slice (some ⟨g, 0, none⟩) m cap]) (by simp [results, Tryz.results66, go_sem, a0, a1, a2, a3]) rfl ?_
        exact ⟨1 + y1, x, y3, g, m, cap, xs, rfl, by unfold i64; omega, by unfold i64; omega, by unfold i64; omega, KX.out.1, KX.out.2.1, KX.out.2.2, RI.fin (K8.out.putq (K8.out.bq.put1 x)) _ _ _ _⟩
      · clear hy0 hyq
        go_wp2_with fail
        have hw7 : c < w17.heap.size := K7.out.cu.lt
        refine (l1Below_any _ B c a n k _ (K7.out.cu.alloc _) (BY.out _ (K7.out.tu.alloc _)) hB (by omega)).mono ?_
        rintro e w18 ⟨y, rfl, hy0, hyq, c8, t8⟩
        obtain ⟨q, rfl⟩ := Int.eq_ofNat_of_zero_le hy0
        obtain ⟨x, hxm, hx⟩ := new_in_turned [-1, 5, 6, -9223372036854775808] _ hw7 t8 q (by simp; omega)
        have K8 : Hid (RI w c w.heap.size w4.heap.size a n k (1 + y1) (1 + y2) y3 g m cap xs w18) := (K7.out.alloc _).step c8 t8
        simp at hxm
        clear c8 t8 K7
        obtain ⟨⟨a0, a1, a2, a3⟩, af⟩ := K8.out.ba
        obtain ⟨⟨s0, s1, s2, s3⟩, sf⟩ := K8.out.bq
        have af0 := af 0 (by omega)
        have af1 := af 1 (by omega)
        have af2 := af 2 (by omega)
        have af3 := af 3 (by omega)
        have sf0 := sf 0 (by omega)
        have sf1 := sf 1 (by omega)
        have sf2 := sf 2 (by omega)
        clear af sf
        go_wp2
        refine bodyPost_ret (v := .agg #[.int .i64 (1 + y1), .int .i64 (1 + y2), .int .i64 (x), .slice (some ⟨g, 0, none⟩) m cap]) (by simp [results, Tryz.results66, go_sem, a0, a1, a2, a3]) rfl ?_
        exact ⟨1 + y1, 1 + y2, x, g, m, cap, xs, rfl, by unfold i64; omega, by unfold i64; omega, by unfold i64; omega, KX.out.1, KX.out.2.1, KX.out.2.2, RI.fin (K8.out.putq (K8.out.bq.put2 x)) _ _ _ _⟩
end Go.Proofs.YtooalbdlknheeaaGreat
