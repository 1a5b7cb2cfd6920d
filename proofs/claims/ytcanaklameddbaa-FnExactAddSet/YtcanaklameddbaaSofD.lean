/- What SetsOf answers. -/
import Derived.Test.YtcanaklameddbaaRows
import Derived.Test.YtcanaklameddbaaRowA
import Derived.Test.YtcanaklameddbaaTxI
import Derived.WalkKit
import Derived.WalkSpells
import Derived.WalkLawsBesides
import Derived.Below
namespace Go.Proofs.Ytcanaklameddbaa
open Go.RowKit
/-- Sets answered in memory of the call's own. -/
def SAns (w : World) (xs : List S5) (e : Ending) (w' : World) : Prop :=
  ∃ (a : Option Addr) (c : Nat) (PS : Nat → Prop), e = .returned (.slice a xs.length c) ∧ OwnSe w' PS a xs ∧ (∀ q, PS q → w.heap.size ≤ q ∧ q < w'.heap.size) ∧ Below w.heap.size w w'
theorem SAns.of {w w' : World} {base : Nat} {v : Value} {xs : List S5} (h : RowS w' base v xs) (hb : w.heap.size ≤ base) (b : Below w.heap.size w w') : SAns w xs (.returned v) w' := by
  obtain ⟨a, c, e, ho⟩ := h.form
  exact ⟨a, c, _, by rw [e], ho, fun q hq => ⟨Nat.le_trans hb (h.lt hq).1, (h.lt hq).2⟩, b⟩
theorem SAns.none {w w' : World} (b : Below w.heap.size w w') : SAns w [] (.returned (.slice Option.none 0 0)) w' := ⟨Option.none, 0, fun _ => False, rfl, .inl rfl, fun _ h => h.elim, b⟩
def ofR (g : Int) (xs : List S5) : List S5 := xs.filter fun s => decide (s.region = g)
theorem ofR_yes {g : Int} {xs : List S5} {k : Nat} {s : S5} (h : xs[k]? = some s) (hg : s.region = g) : ofR g (xs.take (k + 1)) = ofR g (xs.take k) ++ [s] := by
  rw [List.take_add_one, h, ofR, List.filter_append]; simp [hg, ofR]
theorem ofR_no {g : Int} {xs : List S5} {k : Nat} {s : S5} (h : xs[k]? = some s) (hg : ¬ s.region = g) : ofR g (xs.take (k + 1)) = ofR g (xs.take k) := by
  rw [List.take_add_one, h, ofR, List.filter_append]; simp [hg, ofR]
theorem ofR_len (g : Int) (xs : List S5) : (ofR g xs).length ≤ xs.length := List.length_filter_le _ _
theorem txB_lens {t : T7} (h : txB t = true) : t.reads.length ≤ 12 ∧ t.sets.length ≤ 12 := by
  simp only [txB, Bool.and_eq_true, decide_eq_true_eq] at h
  exact ⟨h.1.1.1.2, h.1.1.2⟩
def setsOfT (t : T7) (g : Int) : List S5 := if txB t = true then ofR g t.sets else []
theorem setsOfT_short (t : T7) (g : Int) (h : t.sets.length ≤ 1048576) : (setsOfT t g).length ≤ 1048576 := by
  unfold setsOfT
  split
  · exact Nat.le_trans (ofR_len g t.sets) h
  · simp
end Go.Proofs.Ytcanaklameddbaa
