/- What the program's readSet answers at four numbers of a row. -/
import Derived.Test.YtlnnghlmhmnnlaaDoorRows
import Derived.Test.YtlnnghlmhmnnlaaDoorSets
import Derived.WalkKit
import Derived.WalkSpells
import Derived.WalkLawsBesides
import Derived.Below
import Derived.BigQuiet
import Derived.BigRegion
namespace Go.Proofs.YtlnnghlmhmnnlaaDoor
open Go.RowKit
set_option maxHeartbeats 4000000 in
theorem readSet_any (w : World) (r : Int) (b off cap : Nat) (a0 a1 a2 a3 : Int) (c0 : w.cell? ⟨b, off, none⟩ = some (.int .i64 a0)) (c1 : w.cell? ⟨b, off + 1, none⟩ = some (.int .i64 a1)) (c2 : w.cell? ⟨b, off + 2, none⟩ = some (.int .i64 a2)) (c3 : w.cell? ⟨b, off + 3, none⟩ = some (.int .i64 a3)) (hb : b < w.heap.size) :
    Calls Tryd.prog 48 #[.int .i64 r, .slice (some ⟨b, off, none⟩) 4 cap] w fun e w' => e = .returned (.tuple #[.agg #[.int .i64 r, .int .i64 a0, .int .i64 a1, .bool (a2 == 1), .int .i64 a3], .bool (a2 == 0 || a2 == 1)]) ∧ Below w.heap.size w w' := by
  have hca : ∀ (o : Obj) (j : Nat), (w.alloc o).cell? ⟨b, j, none⟩ = w.cell? ⟨b, j, none⟩ := fun o j => ((Below.refl w.heap.size w).alloc (Nat.le_refl _) o).cell (p := ⟨b, j, none⟩) hb
  have g0 : ∀ o : Obj, (w.alloc o).cell? ⟨b, off, none⟩ = some (.int .i64 a0) := fun o => (hca o _).trans c0
  have g1 : ∀ o : Obj, (w.alloc o).cell? ⟨b, off + 1, none⟩ = some (.int .i64 a1) := fun o => (hca o _).trans c1
  have g2 : ∀ o : Obj, (w.alloc o).cell? ⟨b, off + 2, none⟩ = some (.int .i64 a2) := fun o => (hca o _).trans c2
  have g3 : ∀ o : Obj, (w.alloc o).cell? ⟨b, off + 3, none⟩ = some (.int .i64 a3) := fun o => (hca o _).trans c3
  clear hca c0 c1 c2 c3
  go_enter Tryd.func48, Tryd.ntmps48
  go_wp2
  go_region
  cases h0 : (a2 == 0)
  all_goals (
    go_wp2
    refine bodyPost_ret (v := .tuple #[.agg #[.int .i64 r, .int .i64 a0, .int .i64 a1, .bool (a2 == 1), .int .i64 a3], .bool (a2 == 0 || a2 == 1)]) (by simp [results, Tryd.results48, go_sem, h0]) rfl ⟨rfl, ?_⟩
    exact (((Below.refl _ _).alloc (Nat.le_refl _) _).alloc (by simp) _).drew)
end Go.Proofs.YtlnnghlmhmnnlaaDoor
