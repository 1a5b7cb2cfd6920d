/- The specification's l6Copy: a machine copied whole into memory of the call's own. Its first statement. -/
import Derived.Test.YtbkcmbbeknljiaaGreatRows
import Derived.Test.YtbkcmbbeknljiaaGreatOwnIJ
import Derived.Test.YtbkcmbbeknljiaaGreatTakeJ
import Derived.WalkKit
import Derived.WalkSpells
import Derived.WalkLawsBesides
import Derived.Below
import Derived.Deep.CutRange
namespace Go.Proofs.YtbkcmbbeknljiaaGreat
open Go.RowKit
/-- The two boxes of l6Copy: its answer's at s + 1, the machine that it makes at p. -/
structure C3 (s p : Nat) (alive : Bool) (X : World) (vk vr vd : Value) : Prop where
  r0 : X.cell? ⟨s + 1, 0, none⟩ = some (.bool false)
  r1 : X.cell? ⟨s + 1, 1, none⟩ = some (.slice none 0 0)
  r2 : X.cell? ⟨s + 1, 2, none⟩ = some (.slice none 0 0)
  r3 : X.cell? ⟨s + 1, 3, none⟩ = some (.slice none 0 0)
  fr : ∀ j, X.frozen? ⟨s + 1, j, none⟩ = false
  o0 : X.cell? ⟨p, 0, none⟩ = some (.bool alive)
  o1 : X.cell? ⟨p, 1, none⟩ = some vk
  o2 : X.cell? ⟨p, 2, none⟩ = some vr
  o3 : X.cell? ⟨p, 3, none⟩ = some vd
  fo : ∀ j, X.frozen? ⟨p, j, none⟩ = false
  pl : s + 2 ≤ p
  pX : p < X.heap.size
theorem C3.keep {s p : Nat} {alive : Bool} {X Y : World} {vk vr vd : Value} (h : C3 s p alive X vk vr vd) (hs : X.heap.size ≤ Y.heap.size) (er : Y.heap[s + 1]? = X.heap[s + 1]?) (ep : Y.heap[p]? = X.heap[p]?) : C3 s p alive Y vk vr vd := by
  have c : ∀ {b j : Nat} {u : Value}, Y.heap[b]? = X.heap[b]? → X.cell? ⟨b, j, none⟩ = some u → Y.cell? ⟨b, j, none⟩ = some u := fun {b j u} e h => (World.cell?_of_block (a := ⟨b, j, none⟩) e).trans h
  exact ⟨c er h.r0, c er h.r1, c er h.r2, c er h.r3, fun j => (World.frozen?_of_block (a := ⟨s + 1, j, none⟩) er).trans (h.fr j), c ep h.o0, c ep h.o1, c ep h.o2, c ep h.o3, fun j => (World.frozen?_of_block (a := ⟨p, j, none⟩) ep).trans (h.fo j), h.pl, Nat.lt_of_lt_of_le h.pX hs⟩
theorem C3.later {s p : Nat} {alive : Bool} {X Y : World} {vk vr vd : Value} (h : C3 s p alive X vk vr vd) (hb : Below X.heap.size X Y) : C3 s p alive Y vk vr vd :=
  h.keep hb.size (hb.block _ (by have := h.pl; have := h.pX; omega)) (hb.block _ h.pX)
theorem C3.setK {s p : Nat} {alive : Bool} {X : World} {vk vr vd : Value} (h : C3 s p alive X vk vr vd) (u : Value) : C3 s p alive (X.setCell ⟨p, 1, none⟩ u) u vr vd :=
  have hp := h.pl
  have far : ∀ j, (X.setCell ⟨p, 1, none⟩ u).cell? ⟨s + 1, j, none⟩ = X.cell? ⟨s + 1, j, none⟩ := fun j => cell_set_far (by show p ≠ s + 1; omega) u
  ⟨(far 0).trans h.r0, (far 1).trans h.r1, (far 2).trans h.r2, (far 3).trans h.r3, fun j => by rw [World.frozen?_setCell]; exact h.fr j, (cell_set_other (by omega)).trans h.o0, cell_set_same h.o1, (cell_set_other (by omega)).trans h.o2, (cell_set_other (by omega)).trans h.o3, fun j => by rw [World.frozen?_setCell]; exact h.fo j, h.pl, by simpa [World.setCell] using h.pX⟩
theorem C3.setR {s p : Nat} {alive : Bool} {X : World} {vk vr vd : Value} (h : C3 s p alive X vk vr vd) (u : Value) : C3 s p alive (X.setCell ⟨p, 2, none⟩ u) vk u vd :=
  have hp := h.pl
  have far : ∀ j, (X.setCell ⟨p, 2, none⟩ u).cell? ⟨s + 1, j, none⟩ = X.cell? ⟨s + 1, j, none⟩ := fun j => cell_set_far (by show p ≠ s + 1; omega) u
  ⟨(far 0).trans h.r0, (far 1).trans h.r1, (far 2).trans h.r2, (far 3).trans h.r3, fun j => by rw [World.frozen?_setCell]; exact h.fr j, (cell_set_other (by omega)).trans h.o0, (cell_set_other (by omega)).trans h.o1, cell_set_same h.o2, (cell_set_other (by omega)).trans h.o3, fun j => by rw [World.frozen?_setCell]; exact h.fo j, h.pl, by simpa [World.setCell] using h.pX⟩
theorem zeroBoxM {X : World} {r : Nat} (h : X.heap[r]? = some (.cells #[.bool false, .slice none 0 0, .slice none 0 0, .slice none 0 0] 28 (0, 0))) :
    X.cell? ⟨r, 0, none⟩ = some (.bool false) ∧ X.cell? ⟨r, 1, none⟩ = some (.slice none 0 0) ∧ X.cell? ⟨r, 2, none⟩ = some (.slice none 0 0) ∧ X.cell? ⟨r, 3, none⟩ = some (.slice none 0 0) ∧ ∀ j, X.frozen? ⟨r, j, none⟩ = false :=
  ⟨by rw [cell_of_row X r 0 _ _ _ h]; rfl, by rw [cell_of_row X r 1 _ _ _ h]; rfl, by rw [cell_of_row X r 2 _ _ _ h]; rfl, by rw [cell_of_row X r 3 _ _ _ h]; rfl, fun j => frozen_of_row X r j _ _ h⟩
theorem owns_empty {X : World} {q base : Nat} (h : X.heap[q]? = some (.cells #[] 2 (0, 0))) (hb : base ≤ q) : X.ownsRow base 2 1 (.slice (some ⟨q, 0, none⟩) 0 0) 0 [] :=
  ⟨by simp, .inr ⟨q, 0, #[], rfl, hb, h, Nat.le_refl _, Nat.zero_le _, by simp, by simp⟩⟩
theorem firstM_A {s : Nat} {alive : Bool} {X : World} {vd : Value} {zs : List Int} (hX : s + 2 ≤ X.heap.size) (hr : X.heap[s + 1]? = some (.cells #[.bool false, .slice none 0 0, .slice none 0 0, .slice none 0 0] 28 (0, 0))) (hd : X.ownsRow (s + 2) 2 1 vd zs.length (zs.map (Value.int .i64))) :
    C3 s X.heap.size alive (X.alloc (.cells #[.bool alive, .slice none 0 0, .slice none 0 0, vd] 28)) (.slice none 0 0) (.slice none 0 0) vd ∧ MR (s + 2) X.heap.size (X.alloc (.cells #[.bool alive, .slice none 0 0, .slice none 0 0, vd] 28)) (.slice none 0 0) (.slice none 0 0) vd [] [] zs gz gz := by
  have bA : Below X.heap.size X (X.alloc (.cells #[.bool alive, .slice none 0 0, .slice none 0 0, vd] 28)) := (Below.refl _ _).alloc (Nat.le_refl _) _
  obtain ⟨z0, z1, z2, z3, zf⟩ := zeroBoxM ((bA.block (s + 1) (by omega)).trans hr)
  refine ⟨⟨z0, z1, z2, z3, zf, by go_simp, by go_simp, by go_simp, by go_simp, by intro j; go_simp, hX, by simp⟩, MR.start ?_ (fun e => by have := (World.ownsRow.lt hd _ e).2; omega)⟩
  refine ⟨hd.1, hd.2.imp id ?_⟩
  rintro ⟨q, cap, cur, rfl, l, hg, r⟩
  exact ⟨q, cap, cur, rfl, l, (bA.block q (World.ownsRow.lt hd q rfl).2).trans hg, r⟩
theorem firstM_B {s p : Nat} {alive : Bool} {X : World} {vd : Value} {zs : List Int} (hp : s + 2 ≤ p) (hpX : p < X.heap.size) (hr : X.heap[s + 1]? = some (.cells #[.bool false, .slice none 0 0, .slice none 0 0, .slice none 0 0] 28 (0, 0))) (hz : X.heap[p]? = some (.cells #[.bool false, .slice none 0 0, .slice none 0 0, .slice none 0 0] 28 (0, 0))) (hd : X.ownsRow (s + 2) 2 1 vd zs.length (zs.map (Value.int .i64))) (hne : vd.ownBlock ≠ some p) :
    C3 s p alive ((((X.setCell ⟨p, 0, none⟩ (.bool alive)).setCell ⟨p, 1, none⟩ (.slice none 0 0)).setCell ⟨p, 2, none⟩ (.slice none 0 0)).setCell ⟨p, 3, none⟩ vd) (.slice none 0 0) (.slice none 0 0) vd ∧ MR (s + 2) p ((((X.setCell ⟨p, 0, none⟩ (.bool alive)).setCell ⟨p, 1, none⟩ (.slice none 0 0)).setCell ⟨p, 2, none⟩ (.slice none 0 0)).setCell ⟨p, 3, none⟩ vd) (.slice none 0 0) (.slice none 0 0) vd [] [] zs gz gz := by
  obtain ⟨z0, z1, z2, z3, zf⟩ := zeroBoxM hr
  obtain ⟨y0, y1, y2, y3, yf⟩ := zeroBoxM hz
  have f : ∀ j, ((((X.setCell ⟨p, 0, none⟩ (.bool alive)).setCell ⟨p, 1, none⟩ (.slice none 0 0)).setCell ⟨p, 2, none⟩ (.slice none 0 0)).setCell ⟨p, 3, none⟩ vd).cell? ⟨s + 1, j, none⟩ = X.cell? ⟨s + 1, j, none⟩ := fun j => by
    rw [cell_set_far (by show p ≠ s + 1; omega), cell_set_far (by show p ≠ s + 1; omega), cell_set_far (by show p ≠ s + 1; omega), cell_set_far (by show p ≠ s + 1; omega)]
  refine ⟨⟨(f 0).trans z0, (f 1).trans z1, (f 2).trans z2, (f 3).trans z3, fun j => by simp only [World.frozen?_setCell]; exact zf j, ?_, ?_, ?_, ?_, fun j => by simp only [World.frozen?_setCell]; exact yf j, hp, by simpa [World.setCell] using hpX⟩, (((MR.start hd hne).set.set).set).set⟩
  · rw [cell_set_other (by omega), cell_set_other (by omega), cell_set_other (by omega)]; exact cell_set_same y0
  · rw [cell_set_other (by omega), cell_set_other (by omega)]; exact cell_set_same (by rw [cell_set_other (by omega)]; exact y1)
  · rw [cell_set_other (by omega)]; exact cell_set_same (by rw [cell_set_other (by omega), cell_set_other (by omega)]; exact y2)
  · exact cell_set_same (by rw [cell_set_other (by omega), cell_set_other (by omega), cell_set_other (by omega)]; exact y3)
end Go.Proofs.YtbkcmbbeknljiaaGreat
