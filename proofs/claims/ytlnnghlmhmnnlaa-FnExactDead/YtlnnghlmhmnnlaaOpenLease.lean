/- An argument that is a lease, opened: its value is three plain numbers, each of its kind. -/
import Derived.Test.YtlnnghlmhmnnlaaRows
import Derived.Test.YtlnnghlmhmnnlaaLease
import Derived.ProofKit
import Derived.OpenShut
namespace Go.Proofs.Ytlnnghlmhmnnlaa
open Go.ChangeShapes Go.WideShapes Go.ChangeAt Go.RowKit
def L3.cells (l : L3) : List Value := [.int .i64 l.holder, .int .i64 l.start, .int .i64 l.length]
def L3.wf (l : L3) : Prop := (Lit.int .i64 l.holder).wf = true ∧ (Lit.int .i64 l.start).wf = true ∧ (Lit.int .i64 l.length).wf = true
theorem list3 {α : Type} {cs : List α} (h : cs.length = 3) : ∃ c0 c1 c2, cs = [c0, c1, c2] := by
  match cs, h with
  | [c0, c1, c2], _ => exact ⟨c0, c1, c2, rfl⟩
theorem cells_lease : Try.prog.cellsOf 34 = 3 := by kernel_rfl
theorem cells_int : Try.prog.cellsOf 2 = 1 := by kernel_rfl
theorem open_lease {H : Type} {enc : TypeId × Value → H} {w : World} {base : Nat} {spare : Nat → Bool} {held : Bool} {fuel : Nat} {cs : List Value} {x : DataW H × List MemPlace}
    (h : DataW.trod enc Try.prog w base spare held fuel 34 cs = some x) : ∃ l : L3, cs = l.cells ∧ l.wf := by
  obtain ⟨xs, n, _, rfl, hl, hlen, hf⟩ := DataW.trod_struct Try.underlying34 h
  rw [cells_lease] at hl
  obtain ⟨c0, c1, c2, rfl⟩ := list3 hl
  obtain ⟨y0, y1, y2, rfl⟩ := list3 hlen
  have h0 := hf 0 _ rfl
  have h1 := hf 1 _ rfl
  have h2 := hf 2 _ rfl
  simp [cells_int] at h0 h1 h2
  obtain ⟨z0, e0, _, f0⟩ := DataW.trod_int Try.underlying2 h0
  obtain ⟨z1, e1, _, f1⟩ := DataW.trod_int Try.underlying2 h1
  obtain ⟨z2, e2, _, f2⟩ := DataW.trod_int Try.underlying2 h2
  simp at e0 e1 e2
  subst e0 e1 e2
  exact ⟨⟨z0, z1, z2⟩, rfl, f0, f1, f2⟩
end Go.Proofs.Ytlnnghlmhmnnlaa
