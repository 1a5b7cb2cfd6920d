/- The laws' own copies of rows of records and of rows of copies, and of a machine: walks. -/
import Derived.Test.YtooalbdlknheeaaGreatRows
import Derived.Test.YtooalbdlknheeaaGreatJ3LawMachines
import Derived.WalkKit
import Derived.WalkSpells
import Derived.WalkLawsBesides
import Derived.Below
namespace Go.Proofs.YtooalbdlknheeaaGreat
open Go.RowKit
theorem info_recs : (Tryz.prog.info? 41).map (fun i => (i.zero, i.size, i.bytes)) = some (some (.agg #[.int .i64 0, .int .i64 0, .int .i64 0, .slice none 0 0]), 4, 48) := by kernel_rfl
theorem make_recs (n : Nat) (hn : n ≤ 1048576) (w : World) : (Instr.makeSlice 25 (.int .i64 (n : Int)) (.int .i64 (n : Int))).run Tryz.prog w = .ok (.slice (some ⟨w.heap.size, 0, none⟩) n n) (w.alloc (.cells (madeCells #[.int .i64 0, .int .i64 0, .int .i64 0, .slice none 0 0] (n * 4)) 41)) := by
  obtain ⟨i, hi, hzz⟩ := Option.map_eq_some_iff.1 info_recs
  simp only [Prod.mk.injEq] at hzz
  obtain ⟨hz, hs, hb⟩ := hzz
  have := run_make (P := Tryz.prog) w 25 41 i _ Tryz.underlying25 hi hz .i64 .i64 (n : Int) (n : Int) (by omega) (by omega) (by rw [hb]; omega) (by omega)
  rw [hs] at this
  simpa [Value.cells] using this
set_option maxHeartbeats 4000000 in
theorem toRecordS_any (w : World) (a : Option Addr) (n cap : Nat) (rs : List R4) (hn : n ≤ 1048576) (hl : ∀ r ∈ rs, r.sets.length ≤ 1048576) (hs : SlR w w.heap.size a n rs) : Calls Tryz.prog 87 #[.slice a n cap] w fun e w' =>
    ∃ g, e = .returned (.slice (some ⟨w.heap.size, 0, none⟩) n n) ∧ Below w.heap.size w w' ∧ w.heap.size < w'.heap.size ∧ OwnG 4 hdR lnR AtR w' w.heap.size w.heap.size n rs g ∧ Room w' w.heap.size (n * 4) := by
  obtain ⟨hx, hs⟩ := hs
  have hmk := make_recs n hn
  go_enter Tryz.func87, Tryz.ntmps87
  go_wp2
  go_loopw [4] (fun i wr => ∃ (j : Nat) (g : Nat → Nat), j ≤ n ∧ i = .int .i64 j ∧ Below w.heap.size w wr ∧ w.heap.size < wr.heap.size ∧ Room wr w.heap.size (n * 4) ∧ OwnG 4 hdR lnR AtR wr w.heap.size w.heap.size j (rs.take j) g) (fun i _ => n - (intOf i).toNat)
  case atStart => exact ⟨0, fun _ => 0, Nat.zero_le _, rfl, (Below.refl _ _).alloc (Nat.le_refl _) _, by simp, room_made _ _ _ _, by rw [List.take_zero]; exact OwnG.nil _ _ _ _⟩
  case round =>
    obtain ⟨j, g, hj, rfl, hbl, hsz, hro, hown⟩ := hrel
    by_cases hlt : j < n
    · rcases hs with hs | ⟨b, off, rfl, hb, h1⟩
      · omega
      · have hat := h1 j _ (atR_of (by omega))
        obtain ⟨a', cap', hc, hsl, _⟩ := hat.c3
        have e0 := (hbl.cell (p := ⟨b, off + j * 4, none⟩) hb).trans hat.c0
        have e1 := (hbl.cell (p := ⟨b, off + j * 4 + 1, none⟩) hb).trans hat.c1
        have e2 := (hbl.cell (p := ⟨b, off + j * 4 + 2, none⟩) hb).trans hat.c2
        have e3 := (hbl.cell (p := ⟨b, off + j * 4 + 3, none⟩) hb).trans hc
        have hcl := toRecord_anyR wr (atR rs j).kind (atR rs j).tx (atR rs j).region a' (atR rs j).sets.length cap' (atR rs j).sets (hl _ (List.mem_of_getElem? (atR_of (by omega)))) ((hsl.below hbl).mono hbl.size)
        have K : Hid (Room wr w.heap.size (n * 4) ∧ OwnG 4 hdR lnR AtR wr w.heap.size w.heap.size j (rs.take j) g ∧ Below w.heap.size w wr ∧ w.heap.size < wr.heap.size ∧ rs.take (j + 1) = rs.take j ++ [atR rs j]) := ⟨hro, hown, hbl, hsz, by rw [List.take_add_one, atR_of (by omega)]; rfl⟩
        clear hro hown hbl hmk h1 hx hl hsl hc hat
        generalize atR rs j = r at *
        go_wp2_with fail
        refine hcl.mono ?_
        clear hcl
        rintro e w1 ⟨q, rfl, b1, lq, hq, hnu, hrm⟩
        have hr1 := K.out.1.below b1 K.out.2.2.2.1
        obtain ⟨z0, d0, f0⟩ := hr1 (j * 4) (by omega)
        obtain ⟨z1, d1, f1⟩ := hr1 (j * 4 + 1) (by omega)
        obtain ⟨z2, d2, f2⟩ := hr1 (j * 4 + 2) (by omega)
        obtain ⟨z3, d3, f3⟩ := hr1 (j * 4 + 3) (by omega)
        have K1 : Hid (Below wr.heap.size wr w1 ∧ wr.heap.size ≤ q ∧ q < w1.heap.size ∧ AtR w1 q r ∧ Room w1 w.heap.size (n * 4)) := ⟨b1, lq, hq, ⟨hnu, hrm⟩, hr1⟩
        clear b1 lq hq hnu hrm hr1
        go_wp2
        obtain ⟨hro, hown, hbl, hsz, htk⟩ := K.out
        obtain ⟨b1, lq, hq, hat, hr1⟩ := K1.out
        have h1 := hown.later AtR.of_block b1 hsz
        obtain ⟨V, hV⟩ : ∃ V, ((((w1.setCell ⟨w.heap.size, j * 4, none⟩ (.int .i64 r.kind)).setCell ⟨w.heap.size, j * 4 + 1, none⟩ (.int .i64 r.tx)).setCell ⟨w.heap.size, j * 4 + 2, none⟩ (.int .i64 r.region)).setCell ⟨w.heap.size, j * 4 + 3, none⟩ (.slice (some ⟨q, 0, none⟩) r.sets.length r.sets.length)) = V := ⟨_, rfl⟩
        have sV : V.heap.size = w1.heap.size := by rw [← hV]; simp [World.setCell]
        have oV : ∀ x, x ≠ w.heap.size → V.heap[x]? = w1.heap[x]? := fun x hx => by
          rw [← hV]; exact ((Below.heap_setCell _ _ _ _ (fun e => hx e)).trans ((Below.heap_setCell _ _ _ _ (fun e => hx e)).trans ((Below.heap_setCell _ _ _ _ (fun e => hx e)).trans (Below.heap_setCell _ _ _ _ (fun e => hx e)))))
        have cV : ∀ o, o < j * 4 → V.cell? ⟨w.heap.size, o, none⟩ = w1.cell? ⟨w.heap.size, o, none⟩ := fun o ho => by
          rw [← hV]; rw [cell_set_other (by omega), cell_set_other (by omega), cell_set_other (by omega), cell_set_other (by omega)]
        have n0 : V.cell? ⟨w.heap.size, j * 4, none⟩ = some (.int .i64 r.kind) := by
          rw [← hV]
          rw [cell_set_other (by omega), cell_set_other (by omega), cell_set_other (by omega)]
          exact cell_set_same (by exact d0)
        have n1 : V.cell? ⟨w.heap.size, j * 4 + 1, none⟩ = some (.int .i64 r.tx) := by
          rw [← hV]
          rw [cell_set_other (by omega), cell_set_other (by omega)]
          exact cell_set_same (by rw [cell_set_other (by omega)]; exact d1)
        have n2 : V.cell? ⟨w.heap.size, j * 4 + 2, none⟩ = some (.int .i64 r.region) := by
          rw [← hV]
          rw [cell_set_other (by omega)]
          exact cell_set_same (by rw [cell_set_other (by omega), cell_set_other (by omega)]; exact d2)
        have nT : V.cell? ⟨w.heap.size, j * 4 + (4 - 1), none⟩ = some (.slice (some ⟨q, 0, none⟩) r.sets.length r.sets.length) := by
          rw [← hV]
          exact cell_set_same (by rw [cell_set_other (by omega), cell_set_other (by omega), cell_set_other (by omega)]; exact d3)
        have rV : Room V w.heap.size (n * 4) := by rw [← hV]; exact ((((hr1.set _).set _).set _).set _)
        have bV : Below w.heap.size w V := by rw [← hV]; exact (((((hbl.trans (b1.mono hbl.size)).setCell (p := ⟨w.heap.size, j * 4, none⟩) (Nat.le_refl _) _).setCell (p := ⟨w.heap.size, j * 4 + 1, none⟩) (Nat.le_refl _) _).setCell (p := ⟨w.heap.size, j * 4 + 2, none⟩) (Nat.le_refl _) _).setCell (p := ⟨w.heap.size, j * 4 + 3, none⟩) (Nat.le_refl _) _)
        have ho2 := h1.next AtR.of_block (r := r) (q := q) (cap := r.sets.length) (V := V) (by omega) (fun r => by simp [hdR]) (by omega) oV cV (fun t z ht => by
          match t, ht with
          | 0, ht => cases ht; exact n0
          | 1, ht => cases ht; exact n1
          | 2, ht => cases ht; exact n2
          | t + 3, ht => simp [hdR] at ht) nT (Nat.le_refl _) (by omega) (by omega) (by omega) (AtR.of_block _ _ _ _ (oV q (by omega)) hat) (fun i hi e => by have := hown.lt i hi; omega)
        rw [← htk] at ho2
        rw [hV]
        exact ⟨⟨j + 1, _, by omega, by simp, bV, by have := b1.size; omega, rV, ho2⟩, by simp [intOf]; omega⟩
    · have : j = n := by omega
      subst this
      have hd : decide (j < j) = false := by simp
      rw [← hx, List.take_length, hx] at hown
      have K : Hid (OwnG 4 hdR lnR AtR wr w.heap.size w.heap.size j rs g ∧ Room wr w.heap.size (j * 4)) := ⟨hown, hro⟩
      clear hown hs hro
      go_wp2
      go_ret
      exact ⟨g, rfl, hbl, hsz, K.out.1, K.out.2⟩
theorem info_cops : (Tryz.prog.info? 97).map (fun i => (i.zero, i.size, i.bytes)) = some (some (.agg #[.int .i64 0, .slice none 0 0]), 2, 32) := by kernel_rfl
theorem make_cops (n : Nat) (hn : n ≤ 1048576) (w : World) : (Instr.makeSlice 24 (.int .i64 (n : Int)) (.int .i64 (n : Int))).run Tryz.prog w = .ok (.slice (some ⟨w.heap.size, 0, none⟩) n n) (w.alloc (.cells (madeCells #[.int .i64 0, .slice none 0 0] (n * 2)) 97)) := by
  obtain ⟨i, hi, hzz⟩ := Option.map_eq_some_iff.1 info_cops
  simp only [Prod.mk.injEq] at hzz
  obtain ⟨hz, hs, hb⟩ := hzz
  have := run_make (P := Tryz.prog) w 24 97 i _ Tryz.underlying24 hi hz .i64 .i64 (n : Int) (n : Int) (by omega) (by omega) (by rw [hb]; omega) (by omega)
  rw [hs] at this
  simpa [Value.cells] using this
set_option maxHeartbeats 4000000 in
theorem toCopyS_any (w : World) (a : Option Addr) (n cap : Nat) (rs : List K2) (hn : n ≤ 1048576) (hl : ∀ r ∈ rs, r.cells.length ≤ 1048576) (hs : SlK w w.heap.size a n rs) : Calls Tryz.prog 86 #[.slice a n cap] w fun e w' =>
    ∃ g, e = .returned (.slice (some ⟨w.heap.size, 0, none⟩) n n) ∧ Below w.heap.size w w' ∧ w.heap.size < w'.heap.size ∧ OwnG 2 hdK lnK AtK w' w.heap.size w.heap.size n rs g ∧ Room w' w.heap.size (n * 2) := by
  obtain ⟨hx, hs⟩ := hs
  have hmk := make_cops n hn
  go_enter Tryz.func86, Tryz.ntmps86
  go_wp2
  go_loopw [4] (fun i wr => ∃ (j : Nat) (g : Nat → Nat), j ≤ n ∧ i = .int .i64 j ∧ Below w.heap.size w wr ∧ w.heap.size < wr.heap.size ∧ Room wr w.heap.size (n * 2) ∧ OwnG 2 hdK lnK AtK wr w.heap.size w.heap.size j (rs.take j) g) (fun i _ => n - (intOf i).toNat)
  case atStart => exact ⟨0, fun _ => 0, Nat.zero_le _, rfl, (Below.refl _ _).alloc (Nat.le_refl _) _, by simp, room_made _ _ _ _, by rw [List.take_zero]; exact OwnG.nil _ _ _ _⟩
  case round =>
    obtain ⟨j, g, hj, rfl, hbl, hsz, hro, hown⟩ := hrel
    by_cases hlt : j < n
    · rcases hs with hs | ⟨b, off, rfl, hb, h1⟩
      · omega
      · have hat := h1 j _ (atK_of (by omega))
        obtain ⟨a', cap', hc, hsl, _⟩ := hat.c1
        have e0 := (hbl.cell (p := ⟨b, off + j * 2, none⟩) hb).trans hat.c0
        have e1 := (hbl.cell (p := ⟨b, off + j * 2 + 1, none⟩) hb).trans hc
        have hcl := toCopy_anyR wr (atK rs j).region a' (atK rs j).cells.length cap' (atK rs j).cells (hl _ (List.mem_of_getElem? (atK_of (by omega)))) ((hsl.below hbl).mono hbl.size)
        have K : Hid (Room wr w.heap.size (n * 2) ∧ OwnG 2 hdK lnK AtK wr w.heap.size w.heap.size j (rs.take j) g ∧ Below w.heap.size w wr ∧ w.heap.size < wr.heap.size ∧ rs.take (j + 1) = rs.take j ++ [atK rs j]) := ⟨hro, hown, hbl, hsz, by rw [List.take_add_one, atK_of (by omega)]; rfl⟩
        clear hro hown hbl hmk h1 hx hl hsl hc hat
        generalize atK rs j = r at *
        go_wp2_with fail
        refine hcl.mono ?_
        clear hcl
        rintro e w1 ⟨q, rfl, b1, lq, hq, hnu, hrm⟩
        have hr1 := K.out.1.below b1 K.out.2.2.2.1
        obtain ⟨z0, d0, f0⟩ := hr1 (j * 2) (by omega)
        obtain ⟨z1, d1, f1⟩ := hr1 (j * 2 + 1) (by omega)
        have K1 : Hid (Below wr.heap.size wr w1 ∧ wr.heap.size ≤ q ∧ q < w1.heap.size ∧ AtK w1 q r ∧ Room w1 w.heap.size (n * 2)) := ⟨b1, lq, hq, ⟨hnu, hrm⟩, hr1⟩
        clear b1 lq hq hnu hrm hr1
        go_wp2
        obtain ⟨hro, hown, hbl, hsz, htk⟩ := K.out
        obtain ⟨b1, lq, hq, hat, hr1⟩ := K1.out
        have h1 := hown.later AtK.of_block b1 hsz
        obtain ⟨V, hV⟩ : ∃ V, ((w1.setCell ⟨w.heap.size, j * 2, none⟩ (.int .i64 r.region)).setCell ⟨w.heap.size, j * 2 + 1, none⟩ (.slice (some ⟨q, 0, none⟩) r.cells.length r.cells.length)) = V := ⟨_, rfl⟩
        have sV : V.heap.size = w1.heap.size := by rw [← hV]; simp [World.setCell]
        have oV : ∀ x, x ≠ w.heap.size → V.heap[x]? = w1.heap[x]? := fun x hx => by
          rw [← hV]; exact ((Below.heap_setCell _ _ _ _ (fun e => hx e)).trans (Below.heap_setCell _ _ _ _ (fun e => hx e)))
        have cV : ∀ o, o < j * 2 → V.cell? ⟨w.heap.size, o, none⟩ = w1.cell? ⟨w.heap.size, o, none⟩ := fun o ho => by
          rw [← hV]; rw [cell_set_other (by omega), cell_set_other (by omega)]
        have n0 : V.cell? ⟨w.heap.size, j * 2, none⟩ = some (.int .i64 r.region) := by
          rw [← hV]
          rw [cell_set_other (by omega)]
          exact cell_set_same (by exact d0)
        have nT : V.cell? ⟨w.heap.size, j * 2 + (2 - 1), none⟩ = some (.slice (some ⟨q, 0, none⟩) r.cells.length r.cells.length) := by
          rw [← hV]
          exact cell_set_same (by rw [cell_set_other (by omega)]; exact d1)
        have rV : Room V w.heap.size (n * 2) := by rw [← hV]; exact ((hr1.set _).set _)
        have bV : Below w.heap.size w V := by rw [← hV]; exact (((hbl.trans (b1.mono hbl.size)).setCell (p := ⟨w.heap.size, j * 2, none⟩) (Nat.le_refl _) _).setCell (p := ⟨w.heap.size, j * 2 + 1, none⟩) (Nat.le_refl _) _)
        have ho2 := h1.next AtK.of_block (r := r) (q := q) (cap := r.cells.length) (V := V) (by omega) (fun r => by simp [hdK]) (by omega) oV cV (fun t z ht => by
          match t, ht with
          | 0, ht => cases ht; exact n0
          | t + 1, ht => simp [hdK] at ht) nT (Nat.le_refl _) (by omega) (by omega) (by omega) (AtK.of_block _ _ _ _ (oV q (by omega)) hat) (fun i hi e => by have := hown.lt i hi; omega)
        rw [← htk] at ho2
        rw [hV]
        exact ⟨⟨j + 1, _, by omega, by simp, bV, by have := b1.size; omega, rV, ho2⟩, by simp [intOf]; omega⟩
    · have : j = n := by omega
      subst this
      have hd : decide (j < j) = false := by simp
      rw [← hx, List.take_length, hx] at hown
      have K : Hid (OwnG 2 hdK lnK AtK wr w.heap.size w.heap.size j rs g ∧ Room wr w.heap.size (j * 2)) := ⟨hown, hro⟩
      clear hown hs hro
      go_wp2
      go_ret
      exact ⟨g, rfl, hbl, hsz, K.out.1, K.out.2⟩
end Go.Proofs.YtooalbdlknheeaaGreat
