/- What the specification's draws of a record (DrawRecordOk, DrawShowRecord) do: some record, in memory of their own. -/
import Derived.Test.YtlnnghlmhmnnlaaDoorRows
import Derived.Test.YtlnnghlmhmnnlaaDoorDrawR
import Derived.WalkKit
import Derived.WalkSpells
import Derived.WalkLawsBesides
import Derived.Below
namespace Go.Proofs.YtlnnghlmhmnnlaaDoor
open Go.RowKit
theorem SetsAt.of_block {w w' : World} {b off : Nat} {xs : List S5} (h : SetsAt w b off xs) (he : w'.heap[b]? = w.heap[b]?) : SetsAt w' b off xs := fun i s e => by
  obtain ⟨c0, c1, c2, c3, c4⟩ := h i s e
  exact ⟨(World.cell?_of_block (a := ⟨b, _, none⟩) he).trans c0, (World.cell?_of_block (a := ⟨b, _, none⟩) he).trans c1, (World.cell?_of_block (a := ⟨b, _, none⟩) he).trans c2, (World.cell?_of_block (a := ⟨b, _, none⟩) he).trans c3, (World.cell?_of_block (a := ⟨b, _, none⟩) he).trans c4⟩
/-- The four cells of a record written into block q. -/
theorem four_far {w : World} {q b : Nat} (h : q ≠ b) (u0 u1 u2 u3 : Value) : ((((w.setCell ⟨q, 0, none⟩ u0).setCell ⟨q, 1, none⟩ u1).setCell ⟨q, 2, none⟩ u2).setCell ⟨q, 3, none⟩ u3).heap[b]? = w.heap[b]? := by
  have far : ∀ (V : World) (o : Nat) (v : Value), (V.setCell ⟨q, o, none⟩ v).heap[b]? = V.heap[b]? := fun V o v => Below.heap_setCell _ _ _ _ (fun e => h e.symm)
  rw [far, far, far, far]
theorem four_below {B q : Nat} {a w : World} (h : Below B a w) (hq : B ≤ q) (u0 u1 u2 u3 : Value) : Below B a ((((w.setCell ⟨q, 0, none⟩ u0).setCell ⟨q, 1, none⟩ u1).setCell ⟨q, 2, none⟩ u2).setCell ⟨q, 3, none⟩ u3) :=
  (((h.setCell (p := ⟨q, 0, none⟩) hq _).setCell (p := ⟨q, 1, none⟩) hq _).setCell (p := ⟨q, 2, none⟩) hq _).setCell (p := ⟨q, 3, none⟩) hq _
theorem four_size (w : World) (q : Nat) (u0 u1 u2 u3 : Value) : ((((w.setCell ⟨q, 0, none⟩ u0).setCell ⟨q, 1, none⟩ u1).setCell ⟨q, 2, none⟩ u2).setCell ⟨q, 3, none⟩ u3).heap.size = w.heap.size := by simp [World.setCell]
theorem RecBox.below {w w' : World} {q B : Nat} {K T R : Int} {v : Value} (h : RecBox w q K T R v) (hb : Below B w w') (hq : q < B) : RecBox w' q K T R v :=
  ⟨⟨(hb.cell (p := ⟨q, _, none⟩) hq).trans h.1.1, (hb.cell (p := ⟨q, _, none⟩) hq).trans h.1.2.1, (hb.cell (p := ⟨q, _, none⟩) hq).trans h.1.2.2.1, (hb.cell (p := ⟨q, _, none⟩) hq).trans h.1.2.2.2⟩, fun j hj => (hb.frozen (p := ⟨q, j, none⟩) hq).trans (h.2 j hj)⟩
/-- What a draw of a record leaves. -/
def DrawnRec (w : World) (e : Ending) (w' : World) : Prop :=
  ∃ (K T R : Int) (g m cap : Nat) (xs : List S5), e = .returned (.agg #[.int .i64 K, .int .i64 T, .int .i64 R, .slice (some ⟨g, 0, none⟩) m cap]) ∧ xs.length = m ∧ m ≤ 7 ∧ w.heap.size ≤ g ∧ g < w'.heap.size ∧ SetsAt w' g 0 xs ∧ Below w.heap.size w w'
set_option maxHeartbeats 2000000 in
theorem DrawRecordOk_any (w : World) (a : Option Addr) (n k : Nat) (hb : Bytes w w.heap.size a n) (hn : n ≤ 4096) :
    Calls Tryd.prog 17 #[.slice a n k] w fun e w' => DrawnRec w e w' := by
  go_enter Tryd.func17, Tryd.ntmps17
  go_wp2_with fail
  have r0 := RecBox.new w 0 0 0 (.slice none 0 0) 26
  have b0 : Below w.heap.size w (w.alloc (.cells #[.int .i64 0, .int .i64 0, .int .i64 0, .slice none 0 0] 26)) := (Below.refl _ _).alloc (Nat.le_refl _) _
  have z0 : w.heap.size < (w.alloc (.cells #[.int .i64 0, .int .i64 0, .int .i64 0, .slice none 0 0] 26)).heap.size := by simp
  generalize w.alloc (.cells #[.int .i64 0, .int .i64 0, .int .i64 0, .slice none 0 0] 26) = W at *
  refine (l1New_any W a n k ((hb.below b0).mono b0.size) hn).mono ?_
  rintro e w1 ⟨c, rfl, hc, hcur1, b1⟩
  have r1 := r0.below b1 z0
  have hB : w.heap.size ≤ c := Nat.le_trans b0.size hc
  have b01 : Below w.heap.size w w1 := b0.trans (b1.mono b0.size)
  have s1 := b1.size
  go_wp2_with fail
  refine (l2Draw_any w1 w.heap.size c a n k hcur1 (hb.below b01) hB).mono ?_
  rintro e w2 ⟨K, T, R, g, m, cap, xs, rfl, _, _, _, hx, hm, _, hg, hgc, hgl, hs, hcur2, t2⟩
  have r2 := r1.turned t2 (by omega) (by omega)
  have HK : Hid (xs.length = m ∧ m ≤ 7 ∧ w1.heap.size ≤ g ∧ g < w2.heap.size ∧ SetsAt w2 g 0 xs ∧ Below w.heap.size w w2 ∧ w.heap.size < w1.heap.size) := ⟨hx, hm, hg, hgl, hs, b01.trans (t2.below hB b01.size), by omega⟩
  obtain ⟨⟨c0, c1, c2, c3⟩, fz⟩ := r2
  have f0 := fz 0 (by omega)
  have f1 := fz 1 (by omega)
  have f2 := fz 2 (by omega)
  have f3 := fz 3 (by omega)
  clear fz hs hgl hg hgc hx hm t2 hcur2 hcur1 b01 b1 b0 r0 r1 z0 s1 hb
  go_wp2
  refine bodyPost_ret (v := .agg #[.int .i64 K, .int .i64 T, .int .i64 R, .slice (some ⟨g, 0, none⟩) m cap]) (by simp [results, Tryd.results17, go_sem, c0, c1, c2, c3]) rfl ?_
  obtain ⟨hx, hm, hg, hgl, hs, hbl, hw1⟩ := HK.out
  exact ⟨K, T, R, g, m, cap, xs, rfl, hx, hm, by omega, by rw [four_size]; exact hgl, hs.of_block (four_far (by omega) _ _ _ _), four_below hbl (Nat.le_refl _) _ _ _ _⟩
set_option maxHeartbeats 2000000 in
theorem DrawShowRecord_any (w : World) (a : Option Addr) (n k : Nat) (hb : Bytes w w.heap.size a n) (hn : n ≤ 4096) :
    Calls Tryd.prog 6 #[.slice a n k] w fun e w' => DrawnRec w e w' := by
  go_enter Tryd.func6, Tryd.ntmps6
  go_wp2_with fail
  have r0 := RecBox.new w 0 0 0 (.slice none 0 0) 26
  have b0 : Below w.heap.size w (w.alloc (.cells #[.int .i64 0, .int .i64 0, .int .i64 0, .slice none 0 0] 26)) := (Below.refl _ _).alloc (Nat.le_refl _) _
  have z0 : w.heap.size < (w.alloc (.cells #[.int .i64 0, .int .i64 0, .int .i64 0, .slice none 0 0] 26)).heap.size := by simp
  generalize w.alloc (.cells #[.int .i64 0, .int .i64 0, .int .i64 0, .slice none 0 0] 26) = W at *
  refine (DrawRecordOk_any W a n k ((hb.below b0).mono b0.size) hn).mono ?_
  rintro e w1 ⟨K, T, R, g, m, cap, xs, rfl, hx, hm, hg, hgl, hs, b1⟩
  have r1 := r0.below b1 z0
  have HK : Hid (xs.length = m ∧ m ≤ 7 ∧ w.heap.size < g ∧ g < w1.heap.size ∧ SetsAt w1 g 0 xs ∧ Below w.heap.size w w1) := ⟨hx, hm, by omega, hgl, hs, b0.trans (b1.mono b0.size)⟩
  obtain ⟨⟨c0, c1, c2, c3⟩, fz⟩ := r1
  have f0 := fz 0 (by omega)
  have f1 := fz 1 (by omega)
  have f2 := fz 2 (by omega)
  have f3 := fz 3 (by omega)
  clear fz hs hgl hg hx hm b1 b0 r0 z0 hb
  go_wp2
  refine bodyPost_ret (v := .agg #[.int .i64 K, .int .i64 T, .int .i64 R, .slice (some ⟨g, 0, none⟩) m cap]) (by simp [results, Tryd.results6, go_sem, c0, c1, c2, c3]) rfl ?_
  obtain ⟨hx, hm, hg, hgl, hs, hbl⟩ := HK.out
  exact ⟨K, T, R, g, m, cap, xs, rfl, hx, hm, by omega, by rw [four_size]; exact hgl, hs.of_block (four_far (by omega) _ _ _ _), four_below hbl (Nat.le_refl _) _ _ _ _⟩
end Go.Proofs.YtlnnghlmhmnnlaaDoor
