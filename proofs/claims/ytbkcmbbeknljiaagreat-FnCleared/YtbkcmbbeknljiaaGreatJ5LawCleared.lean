/- MacTo1; MacTo2: joined. -/
import Derived.Test.YtbkcmbbeknljiaaGreatRows
import Derived.Test.YtbkcmbbeknljiaaGreatJ4LawCleared
import Derived.WalkKit
import Derived.WalkSpells
import Derived.WalkLawsBesides
import Derived.Below
import Derived.Lib.QuietBelow
import Derived.BigQuiet
/- The laws' own copies of Sets, cells and records, with room to be marked. -/
namespace Go.Proofs.YtbkcmbbeknljiaaGreat
open Go.RowKit
open Go.Sort (grow)
set_option maxHeartbeats 1000000 in
theorem toSetS_someR (w : World) (b off n cap : Nat) (xs : List S5) (hx : xs.length = n) (hn : n ≤ 1048576) (hb : b < w.heap.size) (hs : SetsAt w b off xs) : Calls Tryz.prog 95 #[.slice (some ⟨b, off, none⟩) n cap] w fun e w' =>
    e = .returned (.slice (some ⟨w.heap.size, 0, none⟩) n n) ∧ Below w.heap.size w w' ∧ w.heap.size < w'.heap.size ∧ SetsAt w' w.heap.size 0 xs ∧ Room w' w.heap.size (n * 5) := by
  have hmk := make_sets n hn
  go_enter Tryz.func95, Tryz.ntmps95
  go_wp2
  go_loopw [4] (fun i wr => ∃ k : Nat, k ≤ n ∧ i = .int .i64 k ∧ Below w.heap.size w wr ∧ w.heap.size < wr.heap.size ∧ Room wr w.heap.size (n * 5) ∧ SetsAt wr w.heap.size 0 (xs.take k))
     (fun i _ => n - (intOf i).toNat)
  case atStart => exact ⟨0, Nat.zero_le _, rfl, (Below.refl _ _).alloc (Nat.le_refl _) _, by simp, room_made _ _ _ _, fun i s e => by simp at e⟩
  case round =>
    obtain ⟨k, hk, rfl, hbl, hsz, hro, hdo⟩ := hrel
    by_cases hlt : k < n
    · have hs' := hs.below hbl hb
      obtain ⟨s, hsk⟩ : ∃ s, xs[k]? = some s := ⟨xs[k]'(by omega), by simp⟩
      obtain ⟨c0, c1, c2, c3, c4⟩ := hs' k s hsk
      clear hs' hmk
      have K : Hid (Room wr w.heap.size (n * 5) ∧ SetsAt wr w.heap.size 0 (xs.take k) ∧ xs[k]? = some s ∧ Below w.heap.size w wr) := ⟨hro, hdo, hsk, hbl⟩
      clear hro hdo hsk hbl
      go_wp2_with fail
      refine (toSet_any _ s).mono ?_
      rintro e w1 ⟨rfl, b1⟩
      obtain ⟨hro, hdo, hsk, hbl⟩ := K.out
      have hro1 := hro.below b1 hsz
      have hdo1 := hdo.below b1 hsz
      obtain ⟨v0, d0, f0⟩ := hro1 (k * 5) (by omega)
      obtain ⟨v1, d1, f1⟩ := hro1 (k * 5 + 1) (by omega)
      obtain ⟨v2, d2, f2⟩ := hro1 (k * 5 + 2) (by omega)
      obtain ⟨v3, d3, f3⟩ := hro1 (k * 5 + 3) (by omega)
      obtain ⟨v4, d4, f4⟩ := hro1 (k * 5 + 4) (by omega)
      clear hro hdo hsk hbl
      have K2 : Hid (Room w1 w.heap.size (n * 5) ∧ SetsAt w1 w.heap.size 0 (xs.take k)) := ⟨hro1, hdo1⟩
      clear hro1 hdo1
      go_wp2
      obtain ⟨hro, hdo, hsk, hbl⟩ := K.out
      obtain ⟨hro1, hdo1⟩ := K2.out
      have hbl1 := hbl.trans (b1.mono (Nat.le_of_lt hsz))
      refine ⟨⟨k + 1, by omega, by simp, ((((hbl1.setCell (p := ⟨w.heap.size, k * 5, none⟩) (Nat.le_refl _) _).setCell (p := ⟨w.heap.size, k * 5 + 1, none⟩) (Nat.le_refl _) _).setCell (p := ⟨w.heap.size, k * 5 + 2, none⟩) (Nat.le_refl _) _).setCell (p := ⟨w.heap.size, k * 5 + 3, none⟩) (Nat.le_refl _) _).setCell (p := ⟨w.heap.size, k * 5 + 4, none⟩) (Nat.le_refl _) _,
        by have := b1.size; simp [World.setCell]; omega, ((((hro1.set _).set _).set _).set _).set _, hdo1.put hsk hro1 (by omega)⟩, by simp [intOf]; omega⟩
    · have : k = n := by omega
      subst this
      have hd : decide (k < k) = false := by simp
      go_wp2
      go_ret
      refine ⟨rfl, hbl, hsz, ?_, hro⟩
      rw [← hx, List.take_length] at hdo
      exact hdo
theorem toSetS_anyR (w : World) (a : Option Addr) (n cap : Nat) (xs : List S5) (hn : n ≤ 1048576) (hs : Sl w w.heap.size a n xs) : Calls Tryz.prog 95 #[.slice a n cap] w fun e w' =>
    e = .returned (.slice (some ⟨w.heap.size, 0, none⟩) n n) ∧ Below w.heap.size w w' ∧ w.heap.size < w'.heap.size ∧ SetsAt w' w.heap.size 0 xs ∧ Room w' w.heap.size (n * 5) := by
  obtain ⟨h1, h2⟩ := hs
  rcases h2 with rfl | ⟨b, off, rfl, hb, hx⟩
  · refine (toSetS_none w a cap).mono ?_
    rintro e w' ⟨rfl, h, h'⟩
    exact ⟨rfl, h, h', (fun i s e => by rw [List.eq_nil_of_length_eq_zero h1] at e; simp at e), fun j hj => by omega⟩
  · exact toSetS_someR w b off n cap xs h1 hn hb hx
set_option maxHeartbeats 1000000 in
theorem toCellS_someR (w : World) (b off n cap : Nat) (xs : List C2) (hx : xs.length = n) (hn : n ≤ 1048576) (hb : b < w.heap.size) (hs : CellsAt w b off xs) : Calls Tryz.prog 30 #[.slice (some ⟨b, off, none⟩) n cap] w fun e w' =>
    e = .returned (.slice (some ⟨w.heap.size, 0, none⟩) n n) ∧ Below w.heap.size w w' ∧ w.heap.size < w'.heap.size ∧ CellsAt w' w.heap.size 0 xs ∧ Room w' w.heap.size (n * 2) := by
  have hmk := make_cells n hn
  go_enter Tryz.func30, Tryz.ntmps30
  go_wp2
  go_loopw [4] (fun i wr => ∃ k : Nat, k ≤ n ∧ i = .int .i64 k ∧ Below w.heap.size w wr ∧ w.heap.size < wr.heap.size ∧ Room wr w.heap.size (n * 2) ∧ CellsAt wr w.heap.size 0 (xs.take k))
     (fun i _ => n - (intOf i).toNat)
  case atStart => exact ⟨0, Nat.zero_le _, rfl, (Below.refl _ _).alloc (Nat.le_refl _) _, by simp, room_made _ _ _ _, fun i s e => by simp at e⟩
  case round =>
    obtain ⟨k, hk, rfl, hbl, hsz, hro, hdo⟩ := hrel
    by_cases hlt : k < n
    · have hs' := hs.below hbl hb
      obtain ⟨s, hsk⟩ : ∃ s, xs[k]? = some s := ⟨xs[k]'(by omega), by simp⟩
      obtain ⟨c0, c1⟩ := hs' k s hsk
      clear hs' hmk
      have K : Hid (Room wr w.heap.size (n * 2) ∧ CellsAt wr w.heap.size 0 (xs.take k) ∧ xs[k]? = some s ∧ Below w.heap.size w wr) := ⟨hro, hdo, hsk, hbl⟩
      clear hro hdo hsk hbl
      go_wp2_with fail
      refine (toCell_any _ s).mono ?_
      rintro e w1 ⟨rfl, b1⟩
      obtain ⟨hro, hdo, hsk, hbl⟩ := K.out
      have hro1 := hro.below b1 hsz
      have hdo1 := hdo.below b1 hsz
      obtain ⟨v0, d0, f0⟩ := hro1 (k * 2) (by omega)
      obtain ⟨v1, d1, f1⟩ := hro1 (k * 2 + 1) (by omega)
      clear hro hdo hsk hbl
      have K2 : Hid (Room w1 w.heap.size (n * 2) ∧ CellsAt w1 w.heap.size 0 (xs.take k)) := ⟨hro1, hdo1⟩
      clear hro1 hdo1
      go_wp2
      obtain ⟨hro, hdo, hsk, hbl⟩ := K.out
      obtain ⟨hro1, hdo1⟩ := K2.out
      have hbl1 := hbl.trans (b1.mono (Nat.le_of_lt hsz))
      refine ⟨⟨k + 1, by omega, by simp, (hbl1.setCell (p := ⟨w.heap.size, k * 2, none⟩) (Nat.le_refl _) _).setCell (p := ⟨w.heap.size, k * 2 + 1, none⟩) (Nat.le_refl _) _,
        by have := b1.size; simp [World.setCell]; omega, (hro1.set _).set _, hdo1.put hsk hro1 (by omega)⟩, by simp [intOf]; omega⟩
    · have : k = n := by omega
      subst this
      have hd : decide (k < k) = false := by simp
      go_wp2
      go_ret
      refine ⟨rfl, hbl, hsz, ?_, hro⟩
      rw [← hx, List.take_length] at hdo
      exact hdo
theorem toCellS_anyR (w : World) (a : Option Addr) (n cap : Nat) (xs : List C2) (hn : n ≤ 1048576) (hs : SlC w w.heap.size a n xs) : Calls Tryz.prog 30 #[.slice a n cap] w fun e w' =>
    e = .returned (.slice (some ⟨w.heap.size, 0, none⟩) n n) ∧ Below w.heap.size w w' ∧ w.heap.size < w'.heap.size ∧ CellsAt w' w.heap.size 0 xs ∧ Room w' w.heap.size (n * 2) := by
  obtain ⟨h1, h2⟩ := hs
  rcases h2 with rfl | ⟨b, off, rfl, hb, hx⟩
  · refine (toCellS_none w a cap).mono ?_
    rintro e w' ⟨rfl, h, h'⟩
    exact ⟨rfl, h, h', (fun i s e => by rw [List.eq_nil_of_length_eq_zero h1] at e; simp at e), fun j hj => by omega⟩
  · exact toCellS_someR w b off n cap xs h1 hn hb hx
set_option maxHeartbeats 1000000 in
theorem toRecord_anyR (w : World) (k t r : Int) (a : Option Addr) (n cap : Nat) (xs : List S5) (hn : n ≤ 1048576) (hs : Sl w w.heap.size a n xs) : Calls Tryz.prog 37 #[.agg #[.int .i64 k, .int .i64 t, .int .i64 r, .slice a n cap]] w fun e w' =>
    ∃ g, e = .returned (.agg #[.int .i64 k, .int .i64 t, .int .i64 r, .slice (some ⟨g, 0, none⟩) n n]) ∧ Below w.heap.size w w' ∧ w.heap.size ≤ g ∧ g < w'.heap.size ∧ SetsAt w' g 0 xs ∧ Room w' g (n * 5) := by
  go_enter Tryz.func37, Tryz.ntmps37
  go_wp2_with fail
  generalize hW : ((w.alloc (.cells #[.int .i64 k, .int .i64 t, .int .i64 r, .slice a n cap] 68)).alloc (.cells #[.int .i64 0, .int .i64 0, .int .i64 0, .slice none 0 0] 41)).alloc (.cells #[.int .i64 k, .int .i64 t, .int .i64 r, .slice none 0 0] 41) = W
  have hsz : W.heap.size = w.heap.size + 3 := by subst hW; simp
  have bW : Below w.heap.size w W := by subst hW; exact (((Below.refl _ _).alloc (Nat.le_refl _) _).alloc (by simp) _).alloc (by simp; omega) _
  have d0 : W.cell? ⟨w.heap.size + 1 + 1, 0, none⟩ = some (.int .i64 k) := by subst hW; go_simp
  have d1 : W.cell? ⟨w.heap.size + 1 + 1, 1, none⟩ = some (.int .i64 t) := by subst hW; go_simp
  have d2 : W.cell? ⟨w.heap.size + 1 + 1, 2, none⟩ = some (.int .i64 r) := by subst hW; go_simp
  have d3 : W.cell? ⟨w.heap.size + 1 + 1, 3, none⟩ = some (.slice none 0 0) := by subst hW; go_simp
  have e0 : W.cell? ⟨w.heap.size + 1, 0, none⟩ = some (.int .i64 0) := by subst hW; go_simp
  have e1 : W.cell? ⟨w.heap.size + 1, 1, none⟩ = some (.int .i64 0) := by subst hW; go_simp
  have e2 : W.cell? ⟨w.heap.size + 1, 2, none⟩ = some (.int .i64 0) := by subst hW; go_simp
  have e3 : W.cell? ⟨w.heap.size + 1, 3, none⟩ = some (.slice none 0 0) := by subst hW; go_simp
  have f3 : W.frozen? ⟨w.heap.size + 1 + 1, 3, none⟩ = false := by subst hW; go_simp
  have g0 : ∀ j, W.frozen? ⟨w.heap.size + 1, j, none⟩ = false := by intro j; subst hW; go_simp
  clear hW
  have hs3 : Sl W W.heap.size a n xs := (hs.below bW).mono (by omega)
  refine (toSetS_anyR _ a n cap xs hn hs3).mono ?_
  rintro e w1 ⟨rfl, b1, l1, s1, r1⟩
  rw [← b1.cell (p := ⟨w.heap.size + 1 + 1, 0, none⟩) (by simp; omega)] at d0
  rw [← b1.cell (p := ⟨w.heap.size + 1 + 1, 1, none⟩) (by simp; omega)] at d1
  rw [← b1.cell (p := ⟨w.heap.size + 1 + 1, 2, none⟩) (by simp; omega)] at d2
  rw [← b1.cell (p := ⟨w.heap.size + 1 + 1, 3, none⟩) (by simp; omega)] at d3
  rw [← b1.cell (p := ⟨w.heap.size + 1, 0, none⟩) (by simp; omega)] at e0
  rw [← b1.cell (p := ⟨w.heap.size + 1, 1, none⟩) (by simp; omega)] at e1
  rw [← b1.cell (p := ⟨w.heap.size + 1, 2, none⟩) (by simp; omega)] at e2
  rw [← b1.cell (p := ⟨w.heap.size + 1, 3, none⟩) (by simp; omega)] at e3
  rw [← b1.frozen (p := ⟨w.heap.size + 1 + 1, 3, none⟩) (by simp; omega)] at f3
  have g0' := (b1.frozen (p := ⟨w.heap.size + 1, 0, none⟩) (by simp; omega)).trans (g0 0)
  have g1' := (b1.frozen (p := ⟨w.heap.size + 1, 1, none⟩) (by simp; omega)).trans (g0 1)
  have g2' := (b1.frozen (p := ⟨w.heap.size + 1, 2, none⟩) (by simp; omega)).trans (g0 2)
  have g3' := (b1.frozen (p := ⟨w.heap.size + 1, 3, none⟩) (by simp; omega)).trans (g0 3)
  have K : Hid (SetsAt w1 W.heap.size 0 xs ∧ Room w1 W.heap.size (n * 5)) := ⟨s1, r1⟩
  have K2 : Hid (W.heap.size = w.heap.size + 3) := hsz
  clear s1 r1 g0 hs3 hsz
  go_wp2
  have hsz := K2.out
  refine bodyPost_ret (v := .agg #[.int .i64 k, .int .i64 t, .int .i64 r, .slice (some ⟨W.heap.size, 0, none⟩) n n]) (by simp [results, Tryz.results37, go_sem, e0, e1, e2, e3]) rfl ⟨W.heap.size, rfl, ?_, by omega, ?_, ?_, ?_⟩
  · exact (((((bW.trans (b1.mono (by omega))).setCell (p := ⟨_, _, none⟩) (by simp; omega) _).setCell (p := ⟨_, _, none⟩) (by simp) _).setCell (p := ⟨_, _, none⟩) (by simp) _).setCell (p := ⟨_, _, none⟩) (by simp) _).setCell (p := ⟨_, _, none⟩) (by simp) _
  · simpa [World.setCell] using l1
  · exact ((((K.out.1.far (by simp; omega) _).far (by simp; omega) _).far (by simp; omega) _).far (by simp; omega) _).far (by simp; omega) _
  · exact K.out.2.of_block ((Below.heap_setCell _ _ _ _ (by simp; omega)).trans ((Below.heap_setCell _ _ _ _ (by simp; omega)).trans ((Below.heap_setCell _ _ _ _ (by simp; omega)).trans ((Below.heap_setCell _ _ _ _ (by simp; omega)).trans (Below.heap_setCell _ _ _ _ (by simp; omega))))))
end Go.Proofs.YtbkcmbbeknljiaaGreat
/- The laws' own copies of rows of records and of rows of copies, and of a machine. -/
namespace Go.Proofs.YtbkcmbbeknljiaaGreat
open Go.RowKit
set_option maxHeartbeats 1000000 in
theorem toCopy_anyR (w : World) (r : Int) (a : Option Addr) (n cap : Nat) (xs : List C2) (hn : n ≤ 1048576) (hs : SlC w w.heap.size a n xs) : Calls Tryz.prog 142 #[.agg #[.int .i64 r, .slice a n cap]] w fun e w' =>
    ∃ g, e = .returned (.agg #[.int .i64 r, .slice (some ⟨g, 0, none⟩) n n]) ∧ Below w.heap.size w w' ∧ w.heap.size ≤ g ∧ g < w'.heap.size ∧ CellsAt w' g 0 xs ∧ Room w' g (n * 2) := by
  go_enter Tryz.func142, Tryz.ntmps142
  go_wp2_with fail
  generalize hW : ((w.alloc (.cells #[.int .i64 r, .slice a n cap] 168)).alloc (.cells #[.int .i64 0, .slice none 0 0] 95)).alloc (.cells #[.int .i64 r, .slice none 0 0] 95) = W
  have hsz : W.heap.size = w.heap.size + 3 := by subst hW; simp
  have bW : Below w.heap.size w W := by subst hW; exact (((Below.refl _ _).alloc (Nat.le_refl _) _).alloc (by simp) _).alloc (by simp; omega) _
  have d0 : W.cell? ⟨w.heap.size + 1 + 1, 0, none⟩ = some (.int .i64 r) := by subst hW; go_simp
  have d1 : W.cell? ⟨w.heap.size + 1 + 1, 1, none⟩ = some (.slice none 0 0) := by subst hW; go_simp
  have e0 : W.cell? ⟨w.heap.size + 1, 0, none⟩ = some (.int .i64 0) := by subst hW; go_simp
  have e1 : W.cell? ⟨w.heap.size + 1, 1, none⟩ = some (.slice none 0 0) := by subst hW; go_simp
  have f1 : W.frozen? ⟨w.heap.size + 1 + 1, 1, none⟩ = false := by subst hW; go_simp
  have g0 : ∀ j, W.frozen? ⟨w.heap.size + 1, j, none⟩ = false := by intro j; subst hW; go_simp
  clear hW
  have hs3 : SlC W W.heap.size a n xs := (hs.below bW).mono (by omega)
  refine (toCellS_anyR _ a n cap xs hn hs3).mono ?_
  rintro e w1 ⟨rfl, b1, l1, s1, r1⟩
  rw [← b1.cell (p := ⟨w.heap.size + 1 + 1, 0, none⟩) (by simp; omega)] at d0
  rw [← b1.cell (p := ⟨w.heap.size + 1 + 1, 1, none⟩) (by simp; omega)] at d1
  rw [← b1.cell (p := ⟨w.heap.size + 1, 0, none⟩) (by simp; omega)] at e0
  rw [← b1.cell (p := ⟨w.heap.size + 1, 1, none⟩) (by simp; omega)] at e1
  rw [← b1.frozen (p := ⟨w.heap.size + 1 + 1, 1, none⟩) (by simp; omega)] at f1
  have g0' := (b1.frozen (p := ⟨w.heap.size + 1, 0, none⟩) (by simp; omega)).trans (g0 0)
  have g1' := (b1.frozen (p := ⟨w.heap.size + 1, 1, none⟩) (by simp; omega)).trans (g0 1)
  have K : Hid (CellsAt w1 W.heap.size 0 xs ∧ Room w1 W.heap.size (n * 2)) := ⟨s1, r1⟩
  have K2 : Hid (W.heap.size = w.heap.size + 3) := hsz
  clear s1 r1 g0 hs3 hsz
  go_wp2
  have hsz := K2.out
  refine bodyPost_ret (v := .agg #[.int .i64 r, .slice (some ⟨W.heap.size, 0, none⟩) n n]) (by simp [results, Tryz.results142, go_sem, e0, e1]) rfl ⟨W.heap.size, rfl, ?_, by omega, ?_, ?_, ?_⟩
  · exact (((bW.trans (b1.mono (by omega))).setCell (p := ⟨_, _, none⟩) (by simp; omega) _).setCell (p := ⟨_, _, none⟩) (by simp) _).setCell (p := ⟨_, _, none⟩) (by simp) _
  · simpa [World.setCell] using l1
  · exact ((K.out.1.far (by simp; omega) _).far (by simp; omega) _).far (by simp; omega) _
  · exact K.out.2.of_block ((Below.heap_setCell _ _ _ _ (by simp; omega)).trans ((Below.heap_setCell _ _ _ _ (by simp; omega)).trans (Below.heap_setCell _ _ _ _ (by simp; omega))))
def hdR (r : R4) : List Int := [r.kind, r.tx, r.region]
def lnR (r : R4) : Nat := r.sets.length
def AtR (w : World) (b : Nat) (r : R4) : Prop := SetsAt w b 0 r.sets ∧ Room w b (r.sets.length * 5)
theorem SetsAt.of_block {w w' : World} {b off : Nat} {xs : List S5} (h : SetsAt w b off xs) (e : w'.heap[b]? = w.heap[b]?) : SetsAt w' b off xs := fun i s hs => by
  obtain ⟨c0, c1, c2, c3, c4⟩ := h i s hs
  exact ⟨(World.cell?_of_block (a := ⟨b, _, none⟩) e).trans c0, (World.cell?_of_block (a := ⟨b, _, none⟩) e).trans c1, (World.cell?_of_block (a := ⟨b, _, none⟩) e).trans c2, (World.cell?_of_block (a := ⟨b, _, none⟩) e).trans c3, (World.cell?_of_block (a := ⟨b, _, none⟩) e).trans c4⟩
theorem CellsAt.of_block {w w' : World} {b off : Nat} {xs : List C2} (h : CellsAt w b off xs) (e : w'.heap[b]? = w.heap[b]?) : CellsAt w' b off xs := fun i s hs => by
  obtain ⟨c0, c1⟩ := h i s hs
  exact ⟨(World.cell?_of_block (a := ⟨b, _, none⟩) e).trans c0, (World.cell?_of_block (a := ⟨b, _, none⟩) e).trans c1⟩
theorem AtR.of_block (w w' : World) (b : Nat) (r : R4) (e : w'.heap[b]? = w.heap[b]?) (h : AtR w b r) : AtR w' b r := ⟨h.1.of_block e, h.2.of_block e⟩
def hdK (k : K2) : List Int := [k.region]
def lnK (k : K2) : Nat := k.cells.length
def AtK (w : World) (b : Nat) (k : K2) : Prop := CellsAt w b 0 k.cells ∧ Room w b (k.cells.length * 2)
theorem AtK.of_block (w w' : World) (b : Nat) (r : K2) (e : w'.heap[b]? = w.heap[b]?) (h : AtK w b r) : AtK w' b r := ⟨h.1.of_block e, h.2.of_block e⟩
theorem ownR_sl {w : World} {base b n : Nat} {rs : List R4} {g : Nat → Nat} (h : OwnG 4 hdR lnR AtR w base b n rs g) (hb : b < w.heap.size) : SlR w w.heap.size (some ⟨b, 0, none⟩) n rs :=
  ⟨h.len, .inr ⟨b, 0, rfl, hb, fun i r e => by
    rw [Nat.zero_add]
    obtain ⟨cap, h1, h2⟩ := h.tail i r e
    exact ⟨h.head i r e 0 _ rfl, h.head i r e 1 _ rfl, h.head i r e 2 _ rfl, _, cap, h1, ⟨rfl, .inr ⟨_, 0, rfl, h.lt i (h.idx e), (h.sub i r e).1⟩⟩, h2⟩⟩⟩
theorem ownK_sl {w : World} {base b n : Nat} {rs : List K2} {g : Nat → Nat} (h : OwnG 2 hdK lnK AtK w base b n rs g) (hb : b < w.heap.size) : SlK w w.heap.size (some ⟨b, 0, none⟩) n rs :=
  ⟨h.len, .inr ⟨b, 0, rfl, hb, fun i r e => by
    rw [Nat.zero_add]
    obtain ⟨cap, h1, h2⟩ := h.tail i r e
    exact ⟨h.head i r e 0 _ rfl, _, cap, h1, ⟨rfl, .inr ⟨_, 0, rfl, h.lt i (h.idx e), (h.sub i r e).1⟩⟩, h2⟩⟩⟩
end Go.Proofs.YtbkcmbbeknljiaaGreat
