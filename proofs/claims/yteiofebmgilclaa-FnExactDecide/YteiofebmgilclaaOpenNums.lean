import Derived.Test.YteiofebmgilclaaRows
import Derived.Test.YteiofebmgilclaaNumRow
import Derived.Test.YteiofebmgilclaaOpenCells
import Derived.WalkKit
import Derived.WalkSpells
import Derived.WalkLawsBesides
import Derived.Below
import Derived.Lib.QuietBelow
import Derived.BigQuiet
import Derived.Deep.CutRange
import Derived.ProofKit
import Derived.OpenShut
import Derived.Deep.Slices
import Derived.Lib.SmallJoins
namespace Go.Proofs.Yteiofebmgilclaa
open Go.RowKit
open Go.Sort (grow)
open Go.ChangeShapes Go.WideShapes Go.ChangeAt
theorem open_numsV {H : Type} {enc : TypeId × Value → H} {w : World} {spare : Nat → Bool} {held : Bool} {fuel : Nat} {cs : List Value} {x : DataW H × List MemPlace}
    (h : DataW.trod enc Try.prog w 0 spare held fuel 22 cs = some x) : ∃ a n cap zs, cs = [.slice a n cap] ∧ n ≤ maxLen ∧ SlN w w.heap.size a n zs := by
  rcases Go.Deep.open_slice Try.underlying22 h with ⟨rfl, _⟩ | ⟨a, len, cap, m, n, D, Pl, rfl, _, hl, hm, hmm, _, hx⟩
  · exact ⟨none, 0, 0, [], rfl, Nat.zero_le _, ⟨rfl, .inl rfl⟩⟩
  · have hlm : len ≤ m := by rw [hmm]; split <;> omega
    have key : ∀ i, i < len → ∃ z : Int, w.cell? (a.add i) = some (.int .i64 z) := fun i hi => by
      obtain ⟨cs', h1, h2⟩ := hx i (by omega)
      rw [cells_num] at h1
      obtain ⟨z, e, _, _⟩ := DataW.trod_int Try.underlying2 h2
      subst e
      have := (World.cells?_some h1).2.2 0 (by omega)
      refine ⟨z, ?_⟩
      simpa [Addr.add] using this
    obtain ⟨zs, hlen, hzs⟩ := some_of len key
    refine ⟨some a, len, cap, zs, rfl, by omega, ⟨hlen, ?_⟩⟩
    by_cases h0 : len = 0
    · exact .inl h0
    · right
      obtain ⟨b, off, spot⟩ := a
      obtain ⟨z, hz⟩ := key 0 (by omega)
      have c0 : w.cell? ⟨b, off, spot⟩ = some (.int .i64 z) := by simpa [Addr.add] using hz
      have hspot : spot = none := by simpa using World.cell?_spot c0
      subst hspot
      refine ⟨b, off, rfl, block_lt_of_cell c0, fun i z e => ?_⟩
      have hk := hzs i z e
      simpa [add_plain] using hk
end Go.Proofs.Yteiofebmgilclaa
