/- What the specification's ReadRecord answers at every text; one text has one record. -/
import Derived.Test.YtlnnghlmhmnnlaaDoorRows
import Derived.Test.YtlnnghlmhmnnlaaDoorReadI
import Derived.WalkKit
import Derived.WalkSpells
namespace Go.Proofs.YtlnnghlmhmnnlaaDoor
open Go.RowKit
/-- What the specification's ReadRecord leaves. -/
def SpecPost (w : World) (bs : List UInt8) (e : Ending) (w' : World) : Prop :=
  Below w.heap.size w w' ∧ ((∃ (ns : List Int) (m : Nat) (a : Option Addr) (cap : Nat), Acc bs ns m ∧ e = .returned (.tuple #[.agg #[.int .i64 (nthI ns 0), .int .i64 (nthI ns 1), .int .i64 (nthI ns 2), .slice a m cap], .bool true]) ∧ Sl w' w'.heap.size a m (setsOf ns m))
    ∨ ((∀ ns m, ¬ Acc bs ns m) ∧ e = .returned (.tuple #[.agg #[.int .i64 0, .int .i64 0, .int .i64 0, .slice none 0 0], .bool false])))
theorem specRead_any (w : World) (bs : List UInt8) (hl : bs.length ≤ 1048576) : Calls Tryd.prog 13 #[.string ⟨bs.toArray⟩] w fun e w' => SpecPost w bs e w' := by
  by_cases h : ∃ ns m, numsOf (splitW bs) = some ns ∧ ns.length = 4 + 4 * m
  · obtain ⟨ns, m, hn, hm⟩ := h
    refine (specRead_good w bs ns m hl hn hm).mono ?_
    rintro e w' ⟨hb, hp⟩
    rcases hp with ⟨hs, a, cap, he, hsl⟩ | ⟨hs, he⟩
    · exact ⟨hb, .inl ⟨ns, m, a, cap, shown_acc hn hm hs, he, hsl⟩⟩
    · refine ⟨hb, .inr ⟨fun ns' m' h => hs ?_, he⟩⟩
      obtain ⟨rfl, rfl⟩ := acc_same h hn hm
      exact acc_shown h
  · refine (specRead_bad w bs hl ?_).mono ?_
    · intro ns hn
      by_cases h4 : ns.length < 4
      · exact .inl h4
      · right
        intro e
        exact h ⟨ns, (ns.length - 4) / 4, hn, by omega⟩
    · rintro e w' ⟨he, hb⟩
      exact ⟨hb, .inr ⟨fun ns' m' ha => h ⟨ns', m', ha.nums, ha.len⟩, he⟩⟩
theorem acc_one {bs : List UInt8} {ns ns' : List Int} {m m' : Nat} (h : Acc bs ns m) (h' : Acc bs ns' m') : ns' = ns ∧ m' = m := by
  obtain ⟨e1, e2⟩ := acc_same h h'.nums h'.len
  exact ⟨e1.symm, e2.symm⟩
theorem box4 (w : World) (k t r : Int) (s : Value) (T : TypeId) : ∀ w', Below (w.heap.size + 1) (w.alloc (.cells #[.int .i64 k, .int .i64 t, .int .i64 r, s] T)) w' → w'.cell? ⟨w.heap.size, 0, none⟩ = some (.int .i64 k) ∧ w'.cell? ⟨w.heap.size, 1, none⟩ = some (.int .i64 t) ∧ w'.cell? ⟨w.heap.size, 2, none⟩ = some (.int .i64 r) ∧ w'.cell? ⟨w.heap.size, 3, none⟩ = some s := fun w' h =>
  ⟨(h.cell (p := ⟨w.heap.size, 0, none⟩) (by simp)).trans (by go_simp), (h.cell (p := ⟨w.heap.size, 1, none⟩) (by simp)).trans (by go_simp), (h.cell (p := ⟨w.heap.size, 2, none⟩) (by simp)).trans (by go_simp), (h.cell (p := ⟨w.heap.size, 3, none⟩) (by simp)).trans (by go_simp)⟩
end Go.Proofs.YtlnnghlmhmnnlaaDoor
