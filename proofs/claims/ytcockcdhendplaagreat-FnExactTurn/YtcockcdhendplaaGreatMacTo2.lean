/- The laws' own copies of rows of records and of rows of copies, and of a machine. -/
import Derived.Test.YtcockcdhendplaaGreatRows
import Derived.Test.YtcockcdhendplaaGreatMacTo1
import Derived.WalkKit
import Derived.WalkSpells
import Derived.WalkLawsBesides
import Derived.Below
namespace Go.Proofs.YtcockcdhendplaaGreat
open Go.RowKit
set_option maxHeartbeats 1000000 in
theorem toCopy_anyR (w : World) (r : Int) (a : Option Addr) (n cap : Nat) (xs : List C2) (hn : n ≤ 1048576) (hs : SlC w w.heap.size a n xs) : Calls Tryz.prog 143 #[.agg #[.int .i64 r, .slice a n cap]] w fun e w' =>
    ∃ g, e = .returned (.agg #[.int .i64 r, .slice (some ⟨g, 0, none⟩) n n]) ∧ Below w.heap.size w w' ∧ w.heap.size ≤ g ∧ g < w'.heap.size ∧ CellsAt w' g 0 xs ∧ Room w' g (n * 2) := by
  go_enter Tryz.func143, Tryz.ntmps143
  go_wp2_with fail
  generalize hW : ((w.alloc (.cells #[.int .i64 r, .slice a n cap] 169)).alloc (.cells #[.int .i64 0, .slice none 0 0] 96)).alloc (.cells #[.int .i64 r, .slice none 0 0] 96) = W
  have hsz : W.heap.size = w.heap.size + 3 := by subst hW; simp
  have bW : Below w.heap.size w W := by subst hW; exact (((Below.refl _ _).alloc (Nat.le_refl _) _).alloc (by simp) _).alloc (by simp; omega) _
  have d0 : W.cell? ⟨w.heap.size + 1 + 1, 0, none⟩ = some (.int .i64 r) := by subst hW; go_simp
  have d1 : W.cell? ⟨w.heap.size + 1 + 1, 1, none⟩ = some (.slice none 0 0) := by subst hW; go_simp
  have e0 : W.cell? ⟨w.heap.size + 1, 0, none⟩ = some (.int .i64 0) := by subst hW; go_simp
  have e1 : W.cell? ⟨w.heap.size + 1, 1, none⟩ = some (.slice none 0 0) := by subst hW; go_simp
  have f1 : W.frozen? ⟨w.heap.size + 1 + 1, 1, none⟩ = false := by subst hW; go_simp
  have g0 : ∀ j, W.frozen? ⟨w.heap.size + 1, j, none⟩ = false := by intro j; subst hW; go_simp
  clear hW
  have hs3 : SlC W W.heap.size a n xs := (hs.below bW).mono (by omega)
  refine (toCellS_anyR _ a n cap xs hn hs3).mono ?_
  rintro e w1 ⟨rfl, b1, l1, s1, r1⟩
  rw [← b1.cell (p := ⟨w.heap.size + 1 + 1, 0, none⟩) (by simp; omega)] at d0
  rw [← b1.cell (p := ⟨w.heap.size + 1 + 1, 1, none⟩) (by simp; omega)] at d1
  rw [← b1.cell (p := ⟨w.heap.size + 1, 0, none⟩) (by simp; omega)] at e0
  rw [← b1.cell (p := ⟨w.heap.size + 1, 1, none⟩) (by simp; omega)] at e1
  rw [← b1.frozen (p := ⟨w.heap.size + 1 + 1, 1, none⟩) (by simp; omega)] at f1
  have g0' := (b1.frozen (p := ⟨w.heap.size + 1, 0, none⟩) (by simp; omega)).trans (g0 0)
  have g1' := (b1.frozen (p := ⟨w.heap.size + 1, 1, none⟩) (by simp; omega)).trans (g0 1)
  have K : Hid (CellsAt w1 W.heap.size 0 xs ∧ Room w1 W.heap.size (n * 2)) := ⟨s1, r1⟩
  have K2 : Hid (W.heap.size = w.heap.size + 3) := hsz
  clear s1 r1 g0 hs3 hsz
  go_wp2
  have hsz := K2.out
  refine bodyPost_ret (v := .agg #[.int .i64 r, .slice (some ⟨W.heap.size, 0, none⟩) n n]) (by simp [results, Tryz.results143, go_sem, e0, e1]) rfl ⟨W.heap.size, rfl, ?_, by omega, ?_, ?_, ?_⟩
  · exact (((bW.trans (b1.mono (by omega))).setCell (p := ⟨_, _, none⟩) (by simp; omega) _).setCell (p := ⟨_, _, none⟩) (by simp) _).setCell (p := ⟨_, _, none⟩) (by simp) _
  · simpa [World.setCell] using l1
  · exact ((K.out.1.far (by simp; omega) _).far (by simp; omega) _).far (by simp; omega) _
  · exact K.out.2.of_block ((Below.heap_setCell _ _ _ _ (by simp; omega)).trans ((Below.heap_setCell _ _ _ _ (by simp; omega)).trans (Below.heap_setCell _ _ _ _ (by simp; omega))))
def hdR (r : R4) : List Int := [r.kind, r.tx, r.region]
def lnR (r : R4) : Nat := r.sets.length
def AtR (w : World) (b : Nat) (r : R4) : Prop := SetsAt w b 0 r.sets ∧ Room w b (r.sets.length * 5)
theorem SetsAt.of_block {w w' : World} {b off : Nat} {xs : List S5} (h : SetsAt w b off xs) (e : w'.heap[b]? = w.heap[b]?) : SetsAt w' b off xs := fun i s hs => by
  obtain ⟨c0, c1, c2, c3, c4⟩ := h i s hs
  exact ⟨(World.cell?_of_block (a := ⟨b, _, none⟩) e).trans c0, (World.cell?_of_block (a := ⟨b, _, none⟩) e).trans c1, (World.cell?_of_block (a := ⟨b, _, none⟩) e).trans c2, (World.cell?_of_block (a := ⟨b, _, none⟩) e).trans c3, (World.cell?_of_block (a := ⟨b, _, none⟩) e).trans c4⟩
theorem CellsAt.of_block {w w' : World} {b off : Nat} {xs : List C2} (h : CellsAt w b off xs) (e : w'.heap[b]? = w.heap[b]?) : CellsAt w' b off xs := fun i s hs => by
  obtain ⟨c0, c1⟩ := h i s hs
  exact ⟨(World.cell?_of_block (a := ⟨b, _, none⟩) e).trans c0, (World.cell?_of_block (a := ⟨b, _, none⟩) e).trans c1⟩
theorem AtR.of_block (w w' : World) (b : Nat) (r : R4) (e : w'.heap[b]? = w.heap[b]?) (h : AtR w b r) : AtR w' b r := ⟨h.1.of_block e, h.2.of_block e⟩
def hdK (k : K2) : List Int := [k.region]
def lnK (k : K2) : Nat := k.cells.length
def AtK (w : World) (b : Nat) (k : K2) : Prop := CellsAt w b 0 k.cells ∧ Room w b (k.cells.length * 2)
theorem AtK.of_block (w w' : World) (b : Nat) (r : K2) (e : w'.heap[b]? = w.heap[b]?) (h : AtK w b r) : AtK w' b r := ⟨h.1.of_block e, h.2.of_block e⟩
theorem ownR_sl {w : World} {base b n : Nat} {rs : List R4} {g : Nat → Nat} (h : OwnG 4 hdR lnR AtR w base b n rs g) (hb : b < w.heap.size) : SlR w w.heap.size (some ⟨b, 0, none⟩) n rs :=
  ⟨h.len, .inr ⟨b, 0, rfl, hb, fun i r e => by
    rw [Nat.zero_add]
    obtain ⟨cap, h1, h2⟩ := h.tail i r e
    exact ⟨h.head i r e 0 _ rfl, h.head i r e 1 _ rfl, h.head i r e 2 _ rfl, _, cap, h1, ⟨rfl, .inr ⟨_, 0, rfl, h.lt i (h.idx e), (h.sub i r e).1⟩⟩, h2⟩⟩⟩
theorem ownK_sl {w : World} {base b n : Nat} {rs : List K2} {g : Nat → Nat} (h : OwnG 2 hdK lnK AtK w base b n rs g) (hb : b < w.heap.size) : SlK w w.heap.size (some ⟨b, 0, none⟩) n rs :=
  ⟨h.len, .inr ⟨b, 0, rfl, hb, fun i r e => by
    rw [Nat.zero_add]
    obtain ⟨cap, h1, h2⟩ := h.tail i r e
    exact ⟨h.head i r e 0 _ rfl, _, cap, h1, ⟨rfl, .inr ⟨_, 0, rfl, h.lt i (h.idx e), (h.sub i r e).1⟩⟩, h2⟩⟩⟩
end Go.Proofs.YtcockcdhendplaaGreat
