/- Machines in memory: rows of records, rows of copies; what they hold. No program in sight. -/
import Derived.Test.YtcockcdhendplaaGreatRows
import Derived.Test.YtcockcdhendplaaGreatRecs
import Derived.Test.YtcockcdhendplaaGreatCells
import Derived.Test.YtcockcdhendplaaGreatNumRow
import Derived.Test.YtcockcdhendplaaGreatPls
namespace Go.Proofs.YtcockcdhendplaaGreat
open Go.RowKit
structure R4 where
  kind : Int
  tx : Int
  region : Int
  sets : List S5
structure K2 where
  region : Int
  cells : List C2
structure M4 where
  alive : Bool
  copies : List K2
  log : List R4
  cleared : List Int
structure RecAt (w : World) (B b o : Nat) (r : R4) : Prop where
  c0 : w.cell? ⟨b, o, none⟩ = some (.int .i64 r.kind)
  c1 : w.cell? ⟨b, o + 1, none⟩ = some (.int .i64 r.tx)
  c2 : w.cell? ⟨b, o + 2, none⟩ = some (.int .i64 r.region)
  c3 : ∃ a cap, w.cell? ⟨b, o + 3, none⟩ = some (.slice a r.sets.length cap) ∧ Sl w B a r.sets.length r.sets ∧ r.sets.length ≤ cap
theorem RecAt.below {w w' : World} {B b o : Nat} {r : R4} (h : RecAt w B b o r) (hb : Below B w w') (hB : b < B) : RecAt w' B b o r :=
  ⟨(hb.cell (p := ⟨b, o, none⟩) hB).trans h.c0, (hb.cell (p := ⟨b, o + 1, none⟩) hB).trans h.c1, (hb.cell (p := ⟨b, o + 2, none⟩) hB).trans h.c2, by
    obtain ⟨a, cap, h1, h2, h3⟩ := h.c3
    exact ⟨a, cap, (hb.cell (p := ⟨b, o + 3, none⟩) hB).trans h1, h2.below hb, h3⟩⟩
theorem RecAt.mono {w : World} {B B' b o : Nat} {r : R4} (h : RecAt w B b o r) (hB : B ≤ B') : RecAt w B' b o r :=
  ⟨h.c0, h.c1, h.c2, by
    obtain ⟨a, cap, h1, h2, h3⟩ := h.c3
    exact ⟨a, cap, h1, h2.mono hB, h3⟩⟩
def RecsAt (w : World) (B b off : Nat) (rs : List R4) : Prop := ∀ i r, rs[i]? = some r → RecAt w B b (off + i * 4) r
def SlR (w : World) (B : Nat) (a : Option Addr) (n : Nat) (rs : List R4) : Prop := rs.length = n ∧ (n = 0 ∨ ∃ b off, a = some ⟨b, off, none⟩ ∧ b < B ∧ RecsAt w B b off rs)
theorem SlR.later {w w' : World} {a : Option Addr} {n : Nat} {rs : List R4} (h : SlR w w.heap.size a n rs) (hb : Below w.heap.size w w') : SlR w' w'.heap.size a n rs := by
  obtain ⟨h1, h2⟩ := h
  refine ⟨h1, h2.imp id ?_⟩
  rintro ⟨b, off, ha, hB, hx⟩
  exact ⟨b, off, ha, Nat.lt_of_lt_of_le hB hb.size, fun i r e => ((hx i r e).below hb hB).mono hb.size⟩
structure CopAt (w : World) (B b o : Nat) (k : K2) : Prop where
  c0 : w.cell? ⟨b, o, none⟩ = some (.int .i64 k.region)
  c1 : ∃ a cap, w.cell? ⟨b, o + 1, none⟩ = some (.slice a k.cells.length cap) ∧ SlC w B a k.cells.length k.cells ∧ k.cells.length ≤ cap
theorem CopAt.below {w w' : World} {B b o : Nat} {k : K2} (h : CopAt w B b o k) (hb : Below B w w') (hB : b < B) : CopAt w' B b o k :=
  ⟨(hb.cell (p := ⟨b, o, none⟩) hB).trans h.c0, by
    obtain ⟨a, cap, h1, h2, h3⟩ := h.c1
    exact ⟨a, cap, (hb.cell (p := ⟨b, o + 1, none⟩) hB).trans h1, h2.below hb, h3⟩⟩
theorem CopAt.mono {w : World} {B B' b o : Nat} {k : K2} (h : CopAt w B b o k) (hB : B ≤ B') : CopAt w B' b o k :=
  ⟨h.c0, by
    obtain ⟨a, cap, h1, h2, h3⟩ := h.c1
    exact ⟨a, cap, h1, h2.mono hB, h3⟩⟩
def CopsAt (w : World) (B b off : Nat) (ks : List K2) : Prop := ∀ i k, ks[i]? = some k → CopAt w B b (off + i * 2) k
def SlK (w : World) (B : Nat) (a : Option Addr) (n : Nat) (ks : List K2) : Prop := ks.length = n ∧ (n = 0 ∨ ∃ b off, a = some ⟨b, off, none⟩ ∧ b < B ∧ CopsAt w B b off ks)
theorem SlK.later {w w' : World} {a : Option Addr} {n : Nat} {ks : List K2} (h : SlK w w.heap.size a n ks) (hb : Below w.heap.size w w') : SlK w' w'.heap.size a n ks := by
  obtain ⟨h1, h2⟩ := h
  refine ⟨h1, h2.imp id ?_⟩
  rintro ⟨b, off, ha, hB, hx⟩
  exact ⟨b, off, ha, Nat.lt_of_lt_of_le hB hb.size, fun i k e => ((hx i k e).below hb hB).mono hb.size⟩
def atR (rs : List R4) (i : Nat) : R4 := rs[i]?.getD ⟨0, 0, 0, []⟩
theorem atR_of {rs : List R4} {i : Nat} (h : i < rs.length) : rs[i]? = some (atR rs i) := by simp [atR, List.getElem?_eq_getElem h]
def atK (ks : List K2) (i : Nat) : K2 := ks[i]?.getD ⟨0, []⟩
theorem atK_of {ks : List K2} {i : Nat} (h : i < ks.length) : ks[i]? = some (atK ks i) := by simp [atK, List.getElem?_eq_getElem h]
/-- The value of a machine, its three rows. -/
structure MV where
  ac : Option Addr
  cc : Nat
  al : Option Addr
  cl : Nat
  ad : Option Addr
  cd : Nat
def MV.val (v : MV) (m : M4) : Value := .agg #[.bool m.alive, .slice v.ac m.copies.length v.cc, .slice v.al m.log.length v.cl, .slice v.ad m.cleared.length v.cd]
structure SlM (w : World) (v : MV) (m : M4) : Prop where
  k : SlK w w.heap.size v.ac m.copies.length m.copies
  r : SlR w w.heap.size v.al m.log.length m.log
  n : SlN w w.heap.size v.ad m.cleared.length m.cleared
theorem SlM.later {w w' : World} {v : MV} {m : M4} (h : SlM w v m) (hb : Below w.heap.size w w') : SlM w' v m := ⟨h.k.later hb, h.r.later hb, h.n.later hb⟩
/-- How many a row of rows holds. -/
def lensR (rs : List R4) : Nat := (rs.map fun r => r.sets.length).sum
def lensK (ks : List K2) : Nat := (ks.map fun k => k.cells.length).sum
theorem sum_take_succ {ns : List Nat} {j x : Nat} (h : ns[j]? = some x) : (ns.take (j + 1)).sum = (ns.take j).sum + x := by
  rw [List.take_add_one, h]; simp
theorem sum_take_le (ns : List Nat) (j : Nat) : (ns.take j).sum ≤ ns.sum := by
  conv => rhs; rw [← List.take_append_drop j ns, List.sum_append]
  omega
theorem sum_mem {ns : List Nat} {x : Nat} (h : x ∈ ns) : x ≤ ns.sum := by
  induction ns with
  | nil => cases h
  | cons y r ih =>
    rcases List.mem_cons.1 h with rfl | h
    · simp
    · have := ih h; simp; omega
end Go.Proofs.YtcockcdhendplaaGreat
