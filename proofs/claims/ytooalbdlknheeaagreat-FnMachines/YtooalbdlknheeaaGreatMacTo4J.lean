/- The laws' own copy of a machine: it owns all that it has. -/
import Derived.Test.YtooalbdlknheeaaGreatRows
import Derived.Test.YtooalbdlknheeaaGreatMacTo3J
import Derived.WalkKit
import Derived.WalkSpells
import Derived.WalkLawsBesides
import Derived.Below
namespace Go.Proofs.YtooalbdlknheeaaGreat
open Go.RowKit
/-- The machine of value v owns its three rows: its copies between blocks B0 and B1, its log between B1 and B2, what it has cleared between B2 and B3. -/
structure OwnM (w : World) (B0 B1 B2 B3 : Nat) (v : MV) (m : M4) (gk gr : Nat → Nat) : Prop where
  k : ∃ b, v.ac = some ⟨b, 0, none⟩ ∧ B0 ≤ b ∧ b < B1 ∧ OwnG 2 hdK lnK AtK w B0 b m.copies.length m.copies gk ∧ (∀ i, i < m.copies.length → gk i < B1) ∧ Room w b (m.copies.length * 2)
  r : ∃ b, v.al = some ⟨b, 0, none⟩ ∧ B1 ≤ b ∧ b < B2 ∧ OwnG 4 hdR lnR AtR w B1 b m.log.length m.log gr ∧ (∀ i, i < m.log.length → gr i < B2) ∧ Room w b (m.log.length * 4)
  n : ∃ b, v.ad = some ⟨b, 0, none⟩ ∧ B2 ≤ b ∧ b < B3 ∧ NumsAt w b 0 m.cleared ∧ Room w b m.cleared.length
  o1 : B0 ≤ B1
  o2 : B1 ≤ B2
  o3 : B2 ≤ B3
  sz : B3 ≤ w.heap.size
theorem OwnM.sl {w : World} {B0 B1 B2 B3 : Nat} {v : MV} {m : M4} {gk gr : Nat → Nat} (h : OwnM w B0 B1 B2 B3 v m gk gr) : SlM w v m := by
  have h1 := h.o1; have h2 := h.o2; have h3 := h.o3; have h4 := h.sz
  obtain ⟨b, e, _, l, o, _, _⟩ := h.k
  obtain ⟨b', e', _, l', o', _, _⟩ := h.r
  obtain ⟨b'', e'', _, l'', o'', _⟩ := h.n
  exact ⟨by rw [e]; exact ownK_sl o (by omega), by rw [e']; exact ownR_sl o' (by omega), by rw [e'']; exact ⟨rfl, .inr ⟨b'', 0, rfl, by omega, o''⟩⟩⟩
/-- The same where no block between B0 and B3 is turned. -/
theorem OwnM.kept {w w' : World} {B0 B1 B2 B3 : Nat} {v : MV} {m : M4} {gk gr : Nat → Nat} (h : OwnM w B0 B1 B2 B3 v m gk gr) (hs : w.heap.size ≤ w'.heap.size) (hk : ∀ q, B0 ≤ q → q < B3 → w'.heap[q]? = w.heap[q]?) : OwnM w' B0 B1 B2 B3 v m gk gr := by
  have h1 := h.o1; have h2 := h.o2; have h3 := h.o3; have h4 := h.sz
  obtain ⟨b, e, l1, l, o, og, rm⟩ := h.k
  obtain ⟨b', e', l1', l', o', og', rm'⟩ := h.r
  obtain ⟨b'', e'', l1'', l'', o'', rm''⟩ := h.n
  have hb := hk b (by omega) (by omega)
  have hb' := hk b' (by omega) (by omega)
  have hb'' := hk b'' (by omega) (by omega)
  exact ⟨⟨b, e, l1, l, o.of_blocks AtK.of_block hs hb (fun i hi => hk _ (o.low i hi) (by have := og i hi; omega)), og, rm.of_block hb⟩,
    ⟨b', e', l1', l', o'.of_blocks AtR.of_block hs hb' (fun i hi => hk _ (by have := o'.low i hi; omega) (by have := og' i hi; omega)), og', rm'.of_block hb'⟩,
    ⟨b'', e'', l1'', l'', o''.of_block hb'', rm''.of_block hb''⟩, h1, h2, h3, by omega⟩
/-- The three boxes of toMachine: its argument, its answer, the machine that is made. -/
structure TP (s : Nat) (alive : Bool) (al ad : Value) (X : World) (s1 s2 s3 : Value) : Prop where
  a2 : X.cell? ⟨s, 2, none⟩ = some al
  a3 : X.cell? ⟨s, 3, none⟩ = some ad
  o0 : X.cell? ⟨s + 1 + 1, 0, none⟩ = some (.bool alive)
  o1 : X.cell? ⟨s + 1 + 1, 1, none⟩ = some s1
  o2 : X.cell? ⟨s + 1 + 1, 2, none⟩ = some s2
  o3 : X.cell? ⟨s + 1 + 1, 3, none⟩ = some s3
  fo : ∀ j, X.frozen? ⟨s + 1 + 1, j, none⟩ = false
  r0 : X.cell? ⟨s + 1, 0, none⟩ = some (.bool false)
  r1 : X.cell? ⟨s + 1, 1, none⟩ = some (.slice none 0 0)
  r2 : X.cell? ⟨s + 1, 2, none⟩ = some (.slice none 0 0)
  r3 : X.cell? ⟨s + 1, 3, none⟩ = some (.slice none 0 0)
  fr : ∀ j, X.frozen? ⟨s + 1, j, none⟩ = false
  lt : s + 2 < X.heap.size
theorem TP.below {s : Nat} {alive : Bool} {al ad : Value} {X Y : World} {s1 s2 s3 : Value} (h : TP s alive al ad X s1 s2 s3) (hb : Below X.heap.size X Y) : TP s alive al ad Y s1 s2 s3 := by
  have l := h.lt
  have ea := hb.block s (by omega)
  have er := hb.block (s + 1) (by omega)
  have eo := hb.block (s + 1 + 1) (by omega)
  have c : ∀ {b j : Nat} {u : Value}, Y.heap[b]? = X.heap[b]? → X.cell? ⟨b, j, none⟩ = some u → Y.cell? ⟨b, j, none⟩ = some u := fun {b j u} e h => (World.cell?_of_block (a := ⟨b, j, none⟩) e).trans h
  exact ⟨c ea h.a2, c ea h.a3, c eo h.o0, c eo h.o1, c eo h.o2, c eo h.o3, fun j => (World.frozen?_of_block (a := ⟨s + 1 + 1, j, none⟩) eo).trans (h.fo j), c er h.r0, c er h.r1, c er h.r2, c er h.r3, fun j => (World.frozen?_of_block (a := ⟨s + 1, j, none⟩) er).trans (h.fr j), Nat.lt_of_lt_of_le l hb.size⟩
theorem TP.set1 {s : Nat} {alive : Bool} {al ad : Value} {X : World} {s1 s2 s3 : Value} (h : TP s alive al ad X s1 s2 s3) (v : Value) : TP s alive al ad (X.setCell ⟨s + 1 + 1, 1, none⟩ v) v s2 s3 :=
  ⟨(cell_set_far (by show s + 1 + 1 ≠ s; omega) v).trans h.a2, (cell_set_far (by show s + 1 + 1 ≠ s; omega) v).trans h.a3, (cell_set_other (by omega)).trans h.o0, cell_set_same h.o1, (cell_set_other (by omega)).trans h.o2, (cell_set_other (by omega)).trans h.o3, fun j => by rw [World.frozen?_setCell]; exact h.fo j, (cell_set_far (by simp) v).trans h.r0, (cell_set_far (by simp) v).trans h.r1, (cell_set_far (by simp) v).trans h.r2, (cell_set_far (by simp) v).trans h.r3, fun j => by rw [World.frozen?_setCell]; exact h.fr j, by simpa [World.setCell] using h.lt⟩
theorem TP.set2 {s : Nat} {alive : Bool} {al ad : Value} {X : World} {s1 s2 s3 : Value} (h : TP s alive al ad X s1 s2 s3) (v : Value) : TP s alive al ad (X.setCell ⟨s + 1 + 1, 2, none⟩ v) s1 v s3 :=
  ⟨(cell_set_far (by show s + 1 + 1 ≠ s; omega) v).trans h.a2, (cell_set_far (by show s + 1 + 1 ≠ s; omega) v).trans h.a3, (cell_set_other (by omega)).trans h.o0, (cell_set_other (by omega)).trans h.o1, cell_set_same h.o2, (cell_set_other (by omega)).trans h.o3, fun j => by rw [World.frozen?_setCell]; exact h.fo j, (cell_set_far (by simp) v).trans h.r0, (cell_set_far (by simp) v).trans h.r1, (cell_set_far (by simp) v).trans h.r2, (cell_set_far (by simp) v).trans h.r3, fun j => by rw [World.frozen?_setCell]; exact h.fr j, by simpa [World.setCell] using h.lt⟩
theorem TP.set3 {s : Nat} {alive : Bool} {al ad : Value} {X : World} {s1 s2 s3 : Value} (h : TP s alive al ad X s1 s2 s3) (v : Value) : TP s alive al ad (X.setCell ⟨s + 1 + 1, 3, none⟩ v) s1 s2 v :=
  ⟨(cell_set_far (by show s + 1 + 1 ≠ s; omega) v).trans h.a2, (cell_set_far (by show s + 1 + 1 ≠ s; omega) v).trans h.a3, (cell_set_other (by omega)).trans h.o0, (cell_set_other (by omega)).trans h.o1, (cell_set_other (by omega)).trans h.o2, cell_set_same h.o3, fun j => by rw [World.frozen?_setCell]; exact h.fo j, (cell_set_far (by simp) v).trans h.r0, (cell_set_far (by simp) v).trans h.r1, (cell_set_far (by simp) v).trans h.r2, (cell_set_far (by simp) v).trans h.r3, fun j => by rw [World.frozen?_setCell]; exact h.fr j, by simpa [World.setCell] using h.lt⟩
set_option maxHeartbeats 4000000 in
theorem toMachine_any (w : World) (v : MV) (m : M4) (hk : m.copies.length ≤ 1048576) (hks : ∀ r ∈ m.copies, r.cells.length ≤ 1048576) (hr : m.log.length ≤ 1048576) (hrs : ∀ r ∈ m.log, r.sets.length ≤ 1048576) (hn : m.cleared.length ≤ 1048576) (hs : SlM w v m) : Calls Tryz.prog 31 #[v.val m] w fun e w' =>
    ∃ u B1 B2 B3 gk gr, e = .returned (u.val m) ∧ OwnM w' (w.heap.size + 3) B1 B2 B3 u m gk gr ∧ Below w.heap.size w w' := by
  obtain ⟨ac, cc, al, cl, ad, cd⟩ := v
  have H : Hid (SlM w ⟨ac, cc, al, cl, ad, cd⟩ m ∧ (∀ r ∈ m.copies, r.cells.length ≤ 1048576) ∧ (∀ r ∈ m.log, r.sets.length ≤ 1048576)) := ⟨hs, hks, hrs⟩
  clear hs hks hrs
  simp only [MV.val]
  have tp : TP w.heap.size m.alive (.slice al m.log.length cl) (.slice ad m.cleared.length cd) (((w.alloc (.cells #[.bool m.alive, .slice ac m.copies.length cc, .slice al m.log.length cl, .slice ad m.cleared.length cd] 57)).alloc (.cells #[.bool false, .slice none 0 0, .slice none 0 0, .slice none 0 0] 28)).alloc (.cells #[.bool m.alive, .slice none 0 0, .slice none 0 0, .slice none 0 0] 28)) (.slice none 0 0) (.slice none 0 0) (.slice none 0 0) := by
    refine ⟨?_, ?_, ?_, ?_, ?_, ?_, ?_, ?_, ?_, ?_, ?_, ?_, ?_⟩
    all_goals first | (intro j; go_simp; done) | (go_simp; done) | (simp; done)
  have bW : Below w.heap.size w (((w.alloc (.cells #[.bool m.alive, .slice ac m.copies.length cc, .slice al m.log.length cl, .slice ad m.cleared.length cd] 57)).alloc (.cells #[.bool false, .slice none 0 0, .slice none 0 0, .slice none 0 0] 28)).alloc (.cells #[.bool m.alive, .slice none 0 0, .slice none 0 0, .slice none 0 0] 28)) := (((Below.refl _ _).alloc (Nat.le_refl _) _).alloc (by simp) _).alloc (by simp; omega) _
  have hsz : (((w.alloc (.cells #[.bool m.alive, .slice ac m.copies.length cc, .slice al m.log.length cl, .slice ad m.cleared.length cd] 57)).alloc (.cells #[.bool false, .slice none 0 0, .slice none 0 0, .slice none 0 0] 28)).alloc (.cells #[.bool m.alive, .slice none 0 0, .slice none 0 0, .slice none 0 0] 28)).heap.size = w.heap.size + 3 := by simp
  have TW : Hid (TP w.heap.size m.alive (.slice al m.log.length cl) (.slice ad m.cleared.length cd) (((w.alloc (.cells #[.bool m.alive, .slice ac m.copies.length cc, .slice al m.log.length cl, .slice ad m.cleared.length cd] 57)).alloc (.cells #[.bool false, .slice none 0 0, .slice none 0 0, .slice none 0 0] 28)).alloc (.cells #[.bool m.alive, .slice none 0 0, .slice none 0 0, .slice none 0 0] 28)) (.slice none 0 0) (.slice none 0 0) (.slice none 0 0) ∧ Below w.heap.size w (((w.alloc (.cells #[.bool m.alive, .slice ac m.copies.length cc, .slice al m.log.length cl, .slice ad m.cleared.length cd] 57)).alloc (.cells #[.bool false, .slice none 0 0, .slice none 0 0, .slice none 0 0] 28)).alloc (.cells #[.bool m.alive, .slice none 0 0, .slice none 0 0, .slice none 0 0] 28)) ∧ (((w.alloc (.cells #[.bool m.alive, .slice ac m.copies.length cc, .slice al m.log.length cl, .slice ad m.cleared.length cd] 57)).alloc (.cells #[.bool false, .slice none 0 0, .slice none 0 0, .slice none 0 0] 28)).alloc (.cells #[.bool m.alive, .slice none 0 0, .slice none 0 0, .slice none 0 0] 28)).heap.size = w.heap.size + 3) := ⟨tp, bW, hsz⟩
  clear tp bW hsz
  go_enter Tryz.func31, Tryz.ntmps31
  go_wp2_with fail
  generalize ((w.alloc (.cells #[.bool m.alive, .slice ac m.copies.length cc, .slice al m.log.length cl, .slice ad m.cleared.length cd] 57)).alloc (.cells #[.bool false, .slice none 0 0, .slice none 0 0, .slice none 0 0] 28)).alloc (.cells #[.bool m.alive, .slice none 0 0, .slice none 0 0, .slice none 0 0] 28) = W at *
  refine (toCopyS_any W ac m.copies.length cc m.copies hk H.out.2.1 (H.out.1.later TW.out.2.1).k).mono ?_
  rintro e w1 ⟨gk, rfl, b1, l1, o1, rm1⟩
  have t1 := TW.out.1.below b1
  have B1 : Hid (Below w.heap.size w w1 ∧ W.heap.size < w1.heap.size ∧ OwnG 2 hdK lnK AtK w1 W.heap.size W.heap.size m.copies.length m.copies gk ∧ Room w1 W.heap.size (m.copies.length * 2)) := ⟨TW.out.2.1.trans (b1.mono TW.out.2.1.size), l1, o1, rm1⟩
  clear b1 l1 o1 rm1
  have T1 : Hid (TP w.heap.size m.alive (.slice al m.log.length cl) (.slice ad m.cleared.length cd) (w1.setCell ⟨w.heap.size + 1 + 1, 1, none⟩ (.slice (some ⟨W.heap.size, 0, none⟩) m.copies.length m.copies.length)) (.slice (some ⟨W.heap.size, 0, none⟩) m.copies.length m.copies.length) (.slice none 0 0) (.slice none 0 0)) := t1.set1 _
  have a2 := t1.a2
  have p1 := t1.o1
  have f1 := t1.fo 1
  clear t1
  have far : ∀ (V : World) (x o : Nat) (u : Value), x ≠ w.heap.size + 1 + 1 → (V.setCell ⟨w.heap.size + 1 + 1, o, none⟩ u).heap[x]? = V.heap[x]? := fun V x o u h => Below.heap_setCell _ _ _ _ (fun e => h e)
  have ssz : ∀ (V : World) (p : Addr) (u : Value), (V.setCell p u).heap.size = V.heap.size := fun V p u => by simp [World.setCell]
  have FAR : Hid (∀ (V : World) (x o : Nat) (u : Value), x ≠ w.heap.size + 1 + 1 → (V.setCell ⟨w.heap.size + 1 + 1, o, none⟩ u).heap[x]? = V.heap[x]?) := far
  have SSZ : Hid (∀ (V : World) (p : Addr) (u : Value), (V.setCell p u).heap.size = V.heap.size) := ssz
  clear far ssz
  go_wp2_with fail
  have hW := TW.out.2.2
  have K1 : Hid (Below w.heap.size w (w1.setCell ⟨w.heap.size + 1 + 1, 1, none⟩ (.slice (some ⟨W.heap.size, 0, none⟩) m.copies.length m.copies.length)) ∧ W.heap.size < (w1.setCell ⟨w.heap.size + 1 + 1, 1, none⟩ (.slice (some ⟨W.heap.size, 0, none⟩) m.copies.length m.copies.length)).heap.size ∧ OwnG 2 hdK lnK AtK (w1.setCell ⟨w.heap.size + 1 + 1, 1, none⟩ (.slice (some ⟨W.heap.size, 0, none⟩) m.copies.length m.copies.length)) W.heap.size W.heap.size m.copies.length m.copies gk ∧ Room (w1.setCell ⟨w.heap.size + 1 + 1, 1, none⟩ (.slice (some ⟨W.heap.size, 0, none⟩) m.copies.length m.copies.length)) W.heap.size (m.copies.length * 2)) :=
    ⟨B1.out.1.setCell (p := ⟨w.heap.size + 1 + 1, 1, none⟩) (by show w.heap.size ≤ w.heap.size + 1 + 1; omega) _, by rw [SSZ.out]; exact B1.out.2.1, B1.out.2.2.1.of_blocks AtK.of_block (by rw [SSZ.out]; exact Nat.le_refl _) (FAR.out _ _ _ _ (by omega)) (fun i hi => FAR.out _ _ _ _ (by have := B1.out.2.2.1.low i hi; omega)), B1.out.2.2.2.of_block (FAR.out _ _ _ _ (by omega))⟩
  clear hW B1 a2 p1 f1
  generalize w1.setCell ⟨w.heap.size + 1 + 1, 1, none⟩ (.slice (some ⟨W.heap.size, 0, none⟩) m.copies.length m.copies.length) = X1 at *
  refine (toRecordS_any X1 al m.log.length cl m.log hr H.out.2.2 (H.out.1.later K1.out.1).r).mono ?_
  rintro e w2 ⟨gr, rfl, b2, l2, o2, rm2⟩
  have t2 := T1.out.below b2
  have B2 : Hid (Below w.heap.size w w2 ∧ X1.heap.size < w2.heap.size ∧ OwnG 4 hdR lnR AtR w2 X1.heap.size X1.heap.size m.log.length m.log gr ∧ Room w2 X1.heap.size (m.log.length * 4) ∧ OwnG 2 hdK lnK AtK w2 W.heap.size W.heap.size m.copies.length m.copies gk ∧ Room w2 W.heap.size (m.copies.length * 2) ∧ W.heap.size < X1.heap.size ∧ (∀ i, i < m.copies.length → gk i < X1.heap.size)) :=
    ⟨K1.out.1.trans (b2.mono K1.out.1.size), l2, o2, rm2, K1.out.2.2.1.later AtK.of_block b2 K1.out.2.1, K1.out.2.2.2.below b2 K1.out.2.1, K1.out.2.1, K1.out.2.2.1.lt⟩
  clear b2 l2 o2 rm2 K1
  have T2 : Hid (TP w.heap.size m.alive (.slice al m.log.length cl) (.slice ad m.cleared.length cd) (w2.setCell ⟨w.heap.size + 1 + 1, 2, none⟩ (.slice (some ⟨X1.heap.size, 0, none⟩) m.log.length m.log.length)) (.slice (some ⟨W.heap.size, 0, none⟩) m.copies.length m.copies.length) (.slice (some ⟨X1.heap.size, 0, none⟩) m.log.length m.log.length) (.slice none 0 0)) := t2.set2 _
  have a3 := t2.a3
  have p2 := t2.o2
  have f2 := t2.fo 2
  clear t2 T1
  go_wp2_with fail
  have hW := TW.out.2.2
  have K2 : Hid (Below w.heap.size w (w2.setCell ⟨w.heap.size + 1 + 1, 2, none⟩ (.slice (some ⟨X1.heap.size, 0, none⟩) m.log.length m.log.length)) ∧ X1.heap.size < (w2.setCell ⟨w.heap.size + 1 + 1, 2, none⟩ (.slice (some ⟨X1.heap.size, 0, none⟩) m.log.length m.log.length)).heap.size ∧ OwnG 4 hdR lnR AtR (w2.setCell ⟨w.heap.size + 1 + 1, 2, none⟩ (.slice (some ⟨X1.heap.size, 0, none⟩) m.log.length m.log.length)) X1.heap.size X1.heap.size m.log.length m.log gr ∧ Room (w2.setCell ⟨w.heap.size + 1 + 1, 2, none⟩ (.slice (some ⟨X1.heap.size, 0, none⟩) m.log.length m.log.length)) X1.heap.size (m.log.length * 4) ∧ OwnG 2 hdK lnK AtK (w2.setCell ⟨w.heap.size + 1 + 1, 2, none⟩ (.slice (some ⟨X1.heap.size, 0, none⟩) m.log.length m.log.length)) W.heap.size W.heap.size m.copies.length m.copies gk ∧ Room (w2.setCell ⟨w.heap.size + 1 + 1, 2, none⟩ (.slice (some ⟨X1.heap.size, 0, none⟩) m.log.length m.log.length)) W.heap.size (m.copies.length * 2) ∧ W.heap.size < X1.heap.size ∧ (∀ i, i < m.copies.length → gk i < X1.heap.size)) := by
    obtain ⟨q1, q2, q3, q4, q5, q6, q7, q8⟩ := B2.out
    exact ⟨q1.setCell (p := ⟨w.heap.size + 1 + 1, 2, none⟩) (by show w.heap.size ≤ w.heap.size + 1 + 1; omega) _, by rw [SSZ.out]; exact q2, q3.of_blocks AtR.of_block (by rw [SSZ.out]; exact Nat.le_refl _) (FAR.out _ _ _ _ (by omega)) (fun i hi => FAR.out _ _ _ _ (by have := q3.low i hi; omega)), q4.of_block (FAR.out _ _ _ _ (by omega)), q5.of_blocks AtK.of_block (by rw [SSZ.out]; exact Nat.le_refl _) (FAR.out _ _ _ _ (by omega)) (fun i hi => FAR.out _ _ _ _ (by have := q5.low i hi; omega)), q6.of_block (FAR.out _ _ _ _ (by omega)), q7, q8⟩
  clear hW B2 a3 p2 f2
  generalize w2.setCell ⟨w.heap.size + 1 + 1, 2, none⟩ (.slice (some ⟨X1.heap.size, 0, none⟩) m.log.length m.log.length) = X2 at *
  refine (toInt64S_any X2 ad m.cleared.length cd m.cleared hn (H.out.1.later K2.out.1).n).mono ?_
  rintro e w3 ⟨rfl, b3, l3, o3, rm3⟩
  have t3 := T2.out.below b3
  have B3 : Hid (Below w.heap.size w w3 ∧ X2.heap.size < w3.heap.size ∧ NumsAt w3 X2.heap.size 0 m.cleared ∧ Room w3 X2.heap.size m.cleared.length ∧ Below X2.heap.size X2 w3) := ⟨K2.out.1.trans (b3.mono K2.out.1.size), l3, o3, rm3, b3⟩
  clear b3 l3 o3 rm3 T2
  have p0 := t3.o0
  have p1 := t3.o1
  have p2 := t3.o2
  have p3 := t3.o3
  have f3 := t3.fo 3
  have x0 := t3.r0
  have x1 := t3.r1
  have x2 := t3.r2
  have x3 := t3.r3
  have y0 := t3.fr 0
  have y1 := t3.fr 1
  have y2 := t3.fr 2
  have y3 := t3.fr 3
  clear t3
  go_wp2
  obtain ⟨F, hF⟩ : ∃ F, (((((w3.setCell ⟨w.heap.size + 1 + 1, 3, none⟩ (.slice (some ⟨X2.heap.size, 0, none⟩) m.cleared.length m.cleared.length)).setCell ⟨w.heap.size + 1, 0, none⟩ (.bool m.alive)).setCell ⟨w.heap.size + 1, 1, none⟩ (.slice (some ⟨W.heap.size, 0, none⟩) m.copies.length m.copies.length)).setCell ⟨w.heap.size + 1, 2, none⟩ (.slice (some ⟨X1.heap.size, 0, none⟩) m.log.length m.log.length)).setCell ⟨w.heap.size + 1, 3, none⟩ (.slice (some ⟨X2.heap.size, 0, none⟩) m.cleared.length m.cleared.length)) = F := ⟨_, rfl⟩
  have g0 : F.cell? ⟨w.heap.size + 1, 0, none⟩ = some (.bool m.alive) := by
    rw [← hF, cell_set_other (by omega), cell_set_other (by omega), cell_set_other (by omega)]
    exact cell_set_same (by rw [cell_set_far (by simp)]; exact x0)
  have g1 : F.cell? ⟨w.heap.size + 1, 1, none⟩ = some (.slice (some ⟨W.heap.size, 0, none⟩) m.copies.length m.copies.length) := by
    rw [← hF, cell_set_other (by omega), cell_set_other (by omega)]
    exact cell_set_same (by rw [cell_set_other (by omega), cell_set_far (by simp)]; exact x1)
  have g2 : F.cell? ⟨w.heap.size + 1, 2, none⟩ = some (.slice (some ⟨X1.heap.size, 0, none⟩) m.log.length m.log.length) := by
    rw [← hF, cell_set_other (by omega)]
    exact cell_set_same (by rw [cell_set_other (by omega), cell_set_other (by omega), cell_set_far (by simp)]; exact x2)
  have g3 : F.cell? ⟨w.heap.size + 1, 3, none⟩ = some (.slice (some ⟨X2.heap.size, 0, none⟩) m.cleared.length m.cleared.length) := by
    rw [← hF]
    exact cell_set_same (by rw [cell_set_other (by omega), cell_set_other (by omega), cell_set_other (by omega), cell_set_far (by simp)]; exact x3)
  have sF : F.heap.size = w3.heap.size := by rw [← hF]; simp [World.setCell]
  have eF : ∀ x, x ≠ w.heap.size + 1 → x ≠ w.heap.size + 1 + 1 → F.heap[x]? = w3.heap[x]? := fun x h1 h2 => by
    rw [← hF]
    exact (Below.heap_setCell _ _ _ _ (fun e => h1 e)).trans ((Below.heap_setCell _ _ _ _ (fun e => h1 e)).trans ((Below.heap_setCell _ _ _ _ (fun e => h1 e)).trans ((Below.heap_setCell _ _ _ _ (fun e => h1 e)).trans (Below.heap_setCell _ _ _ _ (fun e => h2 e)))))
  have bF : Below w.heap.size w F := by
    rw [← hF]
    exact ((((B3.out.1.setCell (p := ⟨w.heap.size + 1 + 1, 3, none⟩) (by show w.heap.size ≤ w.heap.size + 1 + 1; omega) _).setCell (p := ⟨w.heap.size + 1, 0, none⟩) (by show w.heap.size ≤ w.heap.size + 1; omega) _).setCell (p := ⟨w.heap.size + 1, 1, none⟩) (by show w.heap.size ≤ w.heap.size + 1; omega) _).setCell (p := ⟨w.heap.size + 1, 2, none⟩) (by show w.heap.size ≤ w.heap.size + 1; omega) _).setCell (p := ⟨w.heap.size + 1, 3, none⟩) (by show w.heap.size ≤ w.heap.size + 1; omega) _
  rw [hF]
  refine bodyPost_ret (v := .agg #[.bool m.alive, .slice (some ⟨W.heap.size, 0, none⟩) m.copies.length m.copies.length, .slice (some ⟨X1.heap.size, 0, none⟩) m.log.length m.log.length, .slice (some ⟨X2.heap.size, 0, none⟩) m.cleared.length m.cleared.length]) (by simp [results, Tryz.results31, go_sem, g0, g1, g2, g3]) rfl ?_
  have hW := TW.out.2.2
  obtain ⟨q1, q2, q3, q4, q5, q6, q7, q8⟩ := K2.out
  obtain ⟨z1, z2, z3, z4, z5⟩ := B3.out
  have m1 : OwnM w3 (w.heap.size + 3) X1.heap.size X2.heap.size w3.heap.size ⟨some ⟨W.heap.size, 0, none⟩, m.copies.length, some ⟨X1.heap.size, 0, none⟩, m.log.length, some ⟨X2.heap.size, 0, none⟩, m.cleared.length⟩ m gk gr :=
    ⟨⟨W.heap.size, rfl, by omega, q7, by rw [← hW]; exact q5.later AtK.of_block z5 (by omega), q8, q6.below z5 (by omega)⟩, ⟨X1.heap.size, rfl, Nat.le_refl _, q2, q3.later AtR.of_block z5 q2, q3.lt, q4.below z5 q2⟩, ⟨X2.heap.size, rfl, Nat.le_refl _, z2, z3, z4⟩, by omega, Nat.le_of_lt q2, Nat.le_of_lt z2, Nat.le_refl _⟩
  exact ⟨⟨some ⟨W.heap.size, 0, none⟩, m.copies.length, some ⟨X1.heap.size, 0, none⟩, m.log.length, some ⟨X2.heap.size, 0, none⟩, m.cleared.length⟩, X1.heap.size, X2.heap.size, w3.heap.size, gk, gr, rfl, m1.kept (by omega) (fun q h1 h2 => eF q (by omega) (by omega)), bF⟩
end Go.Proofs.YtooalbdlknheeaaGreat
