
import Derived.Test.YteiofebmgilclaaRows
import Derived.Test.YteiofebmgilclaaMem
import Derived.WalkKit
import Derived.WalkSpells
import Derived.WalkLawsBesides
import Derived.Below
import Derived.Lib.QuietBelow
import Derived.Deep.Heap
import Derived.Deep.AppendLies
import Derived.BigQuiet
namespace Go.Proofs.Yteiofebmgilclaa
open Go.RowKit
open Go.Sort (grow)
structure C2 where
  head : Int
  value : Int
def C2.cells (s : C2) : List Value := [.int .i64 s.head, .int .i64 s.value]
structure CellAt (w : World) (b o : Nat) (s : C2) : Prop where
  c0 : w.cell? ⟨b, o, none⟩ = some (.int .i64 s.head)
  c1 : w.cell? ⟨b, o + 1, none⟩ = some (.int .i64 s.value)
theorem CellAt.below {w w' : World} {B b o : Nat} {s : C2} (h : CellAt w b o s) (hb : Below B w w') (hB : b < B) : CellAt w' b o s :=
  ⟨by rw [hb.cell hB]; exact h.c0, by rw [hb.cell hB]; exact h.c1⟩
def CellsAt (w : World) (b off : Nat) (xs : List C2) : Prop := ∀ i s, xs[i]? = some s → CellAt w b (off + i * 2) s
theorem CellsAt.below {w w' : World} {B b off : Nat} {xs : List C2} (h : CellsAt w b off xs) (hb : Below B w w') (hB : b < B) : CellsAt w' b off xs := fun i s e => (h i s e).below hb hB
def SlC (w : World) (B : Nat) (a : Option Addr) (n : Nat) (xs : List C2) : Prop := xs.length = n ∧ (n = 0 ∨ ∃ b off, a = some ⟨b, off, none⟩ ∧ b < B ∧ CellsAt w b off xs)
theorem SlC.below {w w' : World} {B : Nat} {a : Option Addr} {n : Nat} {xs : List C2} (h : SlC w B a n xs) (hb : Below B w w') : SlC w' B a n xs := by
  obtain ⟨h1, h2⟩ := h
  refine ⟨h1, ?_⟩
  rcases h2 with h2 | ⟨b, off, ha, hB, hx⟩
  · exact .inl h2
  · exact .inr ⟨b, off, ha, hB, hx.below hb hB⟩
theorem SlC.mono {w : World} {B B' : Nat} {a : Option Addr} {n : Nat} {xs : List C2} (h : SlC w B a n xs) (hB : B ≤ B') : SlC w B' a n xs := by
  obtain ⟨h1, h2⟩ := h
  refine ⟨h1, ?_⟩
  rcases h2 with h2 | ⟨b, off, ha, hb, hx⟩
  · exact .inl h2
  · exact .inr ⟨b, off, ha, by omega, hx⟩
theorem SlC.later {w w' : World} {a : Option Addr} {n : Nat} {xs : List C2} (h : SlC w w.heap.size a n xs) (hb : Below w.heap.size w w') : SlC w' w'.heap.size a n xs := (h.below hb).mono hb.size
theorem CellAt.set {w : World} {b o p : Nat} {s : C2} (h : CellAt w b o s) (hp : p < o ∨ o + 2 ≤ p) (v : Value) : CellAt (w.setCell ⟨b, p, none⟩ v) b o s :=
  ⟨by rw [cell_set_other (by omega)]; exact h.c0, by rw [cell_set_other (by omega)]; exact h.c1⟩
theorem CellAt.put {w : World} {b o : Nat} {v0 v1 : Value} (s : C2) (h0 : w.cell? ⟨b, o, none⟩ = some v0) (h1 : w.cell? ⟨b, o + 1, none⟩ = some v1) :
    CellAt ((w.setCell ⟨b, o, none⟩ (.int .i64 s.head)).setCell ⟨b, o + 1, none⟩ (.int .i64 s.value)) b o s := by
  refine ⟨?_, ?_⟩
  · rw [cell_set_other (by omega)]; exact cell_set_same h0
  · exact cell_set_same (by rw [cell_set_other (by omega)]; exact h1)
theorem CellsAt.put {w : World} {b k : Nat} {xs : List C2} {s : C2} (h : CellsAt w b 0 (xs.take k)) (hs : xs[k]? = some s) {m : Nat} (hr : Room w b m) (hm : k * 2 + 2 ≤ m) :
    CellsAt ((w.setCell ⟨b, k * 2, none⟩ (.int .i64 s.head)).setCell ⟨b, k * 2 + 1, none⟩ (.int .i64 s.value)) b 0 (xs.take (k + 1)) := by
  intro i t e
  rw [List.getElem?_take] at e
  split at e
  · rename_i hi
    by_cases hik : i = k
    · subst hik
      rw [hs] at e
      obtain rfl := Option.some.inj e
      obtain ⟨v0, d0, _⟩ := hr (i * 2) (by omega)
      obtain ⟨v1, d1, _⟩ := hr (i * 2 + 1) (by omega)
      simpa using CellAt.put s d0 d1
    · have := h i t (by rw [List.getElem?_take, if_pos (by omega)]; exact e)
      exact (this.set (by omega) _).set (by omega) _
  · cases e
def at2 (xs : List C2) (i : Nat) : C2 := xs[i]?.getD ⟨0, 0⟩
end Go.Proofs.Yteiofebmgilclaa
