/- MacTo4; MkA; MkB; MkC; MacSz; Eqs; MacEq; MkD; Grow: joined. -/
import Derived.Test.YtphpcgmnljhimaaGreatRows
import Derived.Test.YtphpcgmnljhimaaGreatJ0ExactStricken
import Derived.WalkKit
import Derived.WalkSpells
import Derived.WalkLawsBesides
import Derived.Below
import Derived.Lib.QuietBelow
import Derived.BigQuiet
import Derived.Deep.QuietTactic
import Derived.Maps.AppendAt
import Derived.Laws.OwnMore
import Derived.Deep.AppendLies
namespace Go.Proofs.YtphpcgmnljhimaaGreat
open Go.RowKit
structure OwnM (w : World) (B0 B1 B2 B3 : Nat) (v : MV) (m : M4) (gk gr : Nat → Nat) : Prop where
  k : ∃ b, v.ac = some ⟨b, 0, none⟩ ∧ B0 ≤ b ∧ b < B1 ∧ OwnG 2 hdK lnK AtK w B0 b m.copies.length m.copies gk ∧ (∀ i, i < m.copies.length → gk i < B1) ∧ Room w b (m.copies.length * 2)
  r : ∃ b, v.al = some ⟨b, 0, none⟩ ∧ B1 ≤ b ∧ b < B2 ∧ OwnG 4 hdR lnR AtR w B1 b m.log.length m.log gr ∧ (∀ i, i < m.log.length → gr i < B2) ∧ Room w b (m.log.length * 4)
  n : ∃ b, v.ad = some ⟨b, 0, none⟩ ∧ B2 ≤ b ∧ b < B3 ∧ NumsAt w b 0 m.cleared ∧ Room w b m.cleared.length
  o1 : B0 ≤ B1
  o2 : B1 ≤ B2
  o3 : B2 ≤ B3
  sz : B3 ≤ w.heap.size
theorem OwnM.sl {w : World} {B0 B1 B2 B3 : Nat} {v : MV} {m : M4} {gk gr : Nat → Nat} (h : OwnM w B0 B1 B2 B3 v m gk gr) : SlM w v m := by
  have h1 := h.o1; have h2 := h.o2; have h3 := h.o3; have h4 := h.sz
  obtain ⟨b, e, _, l, o, _, _⟩ := h.k
  obtain ⟨b', e', _, l', o', _, _⟩ := h.r
  obtain ⟨b'', e'', _, l'', o'', _⟩ := h.n
  exact ⟨by rw [e]; exact ownK_sl o (by omega), by rw [e']; exact ownR_sl o' (by omega), by rw [e'']; exact ⟨rfl, .inr ⟨b'', 0, rfl, by omega, o''⟩⟩⟩
theorem OwnM.kept {w w' : World} {B0 B1 B2 B3 : Nat} {v : MV} {m : M4} {gk gr : Nat → Nat} (h : OwnM w B0 B1 B2 B3 v m gk gr) (hs : w.heap.size ≤ w'.heap.size) (hk : ∀ q, B0 ≤ q → q < B3 → w'.heap[q]? = w.heap[q]?) : OwnM w' B0 B1 B2 B3 v m gk gr := by
  have h1 := h.o1; have h2 := h.o2; have h3 := h.o3; have h4 := h.sz
  obtain ⟨b, e, l1, l, o, og, rm⟩ := h.k
  obtain ⟨b', e', l1', l', o', og', rm'⟩ := h.r
  obtain ⟨b'', e'', l1'', l'', o'', rm''⟩ := h.n
  have hb := hk b (by omega) (by omega)
  have hb' := hk b' (by omega) (by omega)
  have hb'' := hk b'' (by omega) (by omega)
  exact ⟨⟨b, e, l1, l, o.of_blocks AtK.of_block hs hb (fun i hi => hk _ (o.low i hi) (by have := og i hi; omega)), og, rm.of_block hb⟩,
    ⟨b', e', l1', l', o'.of_blocks AtR.of_block hs hb' (fun i hi => hk _ (by have := o'.low i hi; omega) (by have := og' i hi; omega)), og', rm'.of_block hb'⟩,
    ⟨b'', e'', l1'', l'', o''.of_block hb'', rm''.of_block hb''⟩, h1, h2, h3, by omega⟩
structure TP (s : Nat) (alive : Bool) (al ad : Value) (X : World) (s1 s2 s3 : Value) : Prop where
  a2 : X.cell? ⟨s, 2, none⟩ = some al
  a3 : X.cell? ⟨s, 3, none⟩ = some ad
  o0 : X.cell? ⟨s + 1 + 1, 0, none⟩ = some (.bool alive)
  o1 : X.cell? ⟨s + 1 + 1, 1, none⟩ = some s1
  o2 : X.cell? ⟨s + 1 + 1, 2, none⟩ = some s2
  o3 : X.cell? ⟨s + 1 + 1, 3, none⟩ = some s3
  fo : ∀ j, X.frozen? ⟨s + 1 + 1, j, none⟩ = false
  r0 : X.cell? ⟨s + 1, 0, none⟩ = some (.bool false)
  r1 : X.cell? ⟨s + 1, 1, none⟩ = some (.slice none 0 0)
  r2 : X.cell? ⟨s + 1, 2, none⟩ = some (.slice none 0 0)
  r3 : X.cell? ⟨s + 1, 3, none⟩ = some (.slice none 0 0)
  fr : ∀ j, X.frozen? ⟨s + 1, j, none⟩ = false
  lt : s + 2 < X.heap.size
theorem TP.below {s : Nat} {alive : Bool} {al ad : Value} {X Y : World} {s1 s2 s3 : Value} (h : TP s alive al ad X s1 s2 s3) (hb : Below X.heap.size X Y) : TP s alive al ad Y s1 s2 s3 := by
  have l := h.lt
  have ea := hb.block s (by omega)
  have er := hb.block (s + 1) (by omega)
  have eo := hb.block (s + 1 + 1) (by omega)
  have c : ∀ {b j : Nat} {u : Value}, Y.heap[b]? = X.heap[b]? → X.cell? ⟨b, j, none⟩ = some u → Y.cell? ⟨b, j, none⟩ = some u := fun {b j u} e h => (World.cell?_of_block (a := ⟨b, j, none⟩) e).trans h
  exact ⟨c ea h.a2, c ea h.a3, c eo h.o0, c eo h.o1, c eo h.o2, c eo h.o3, fun j => (World.frozen?_of_block (a := ⟨s + 1 + 1, j, none⟩) eo).trans (h.fo j), c er h.r0, c er h.r1, c er h.r2, c er h.r3, fun j => (World.frozen?_of_block (a := ⟨s + 1, j, none⟩) er).trans (h.fr j), Nat.lt_of_lt_of_le l hb.size⟩
theorem TP.set1 {s : Nat} {alive : Bool} {al ad : Value} {X : World} {s1 s2 s3 : Value} (h : TP s alive al ad X s1 s2 s3) (v : Value) : TP s alive al ad (X.setCell ⟨s + 1 + 1, 1, none⟩ v) v s2 s3 :=
  ⟨(cell_set_far (by show s + 1 + 1 ≠ s; omega) v).trans h.a2, (cell_set_far (by show s + 1 + 1 ≠ s; omega) v).trans h.a3, (cell_set_other (by omega)).trans h.o0, cell_set_same h.o1, (cell_set_other (by omega)).trans h.o2, (cell_set_other (by omega)).trans h.o3, fun j => by rw [World.frozen?_setCell]; exact h.fo j, (cell_set_far (by simp) v).trans h.r0, (cell_set_far (by simp) v).trans h.r1, (cell_set_far (by simp) v).trans h.r2, (cell_set_far (by simp) v).trans h.r3, fun j => by rw [World.frozen?_setCell]; exact h.fr j, by simpa [World.setCell] using h.lt⟩
theorem TP.set2 {s : Nat} {alive : Bool} {al ad : Value} {X : World} {s1 s2 s3 : Value} (h : TP s alive al ad X s1 s2 s3) (v : Value) : TP s alive al ad (X.setCell ⟨s + 1 + 1, 2, none⟩ v) s1 v s3 :=
  ⟨(cell_set_far (by show s + 1 + 1 ≠ s; omega) v).trans h.a2, (cell_set_far (by show s + 1 + 1 ≠ s; omega) v).trans h.a3, (cell_set_other (by omega)).trans h.o0, (cell_set_other (by omega)).trans h.o1, cell_set_same h.o2, (cell_set_other (by omega)).trans h.o3, fun j => by rw [World.frozen?_setCell]; exact h.fo j, (cell_set_far (by simp) v).trans h.r0, (cell_set_far (by simp) v).trans h.r1, (cell_set_far (by simp) v).trans h.r2, (cell_set_far (by simp) v).trans h.r3, fun j => by rw [World.frozen?_setCell]; exact h.fr j, by simpa [World.setCell] using h.lt⟩
theorem TP.set3 {s : Nat} {alive : Bool} {al ad : Value} {X : World} {s1 s2 s3 : Value} (h : TP s alive al ad X s1 s2 s3) (v : Value) : TP s alive al ad (X.setCell ⟨s + 1 + 1, 3, none⟩ v) s1 s2 v :=
  ⟨(cell_set_far (by show s + 1 + 1 ≠ s; omega) v).trans h.a2, (cell_set_far (by show s + 1 + 1 ≠ s; omega) v).trans h.a3, (cell_set_other (by omega)).trans h.o0, (cell_set_other (by omega)).trans h.o1, (cell_set_other (by omega)).trans h.o2, cell_set_same h.o3, fun j => by rw [World.frozen?_setCell]; exact h.fo j, (cell_set_far (by simp) v).trans h.r0, (cell_set_far (by simp) v).trans h.r1, (cell_set_far (by simp) v).trans h.r2, (cell_set_far (by simp) v).trans h.r3, fun j => by rw [World.frozen?_setCell]; exact h.fr j, by simpa [World.setCell] using h.lt⟩
set_option maxHeartbeats 4000000 in
theorem toMachine_any (w : World) (v : MV) (m : M4) (hk : m.copies.length ≤ 1048576) (hks : ∀ r ∈ m.copies, r.cells.length ≤ 1048576) (hr : m.log.length ≤ 1048576) (hrs : ∀ r ∈ m.log, r.sets.length ≤ 1048576) (hn : m.cleared.length ≤ 1048576) (hs : SlM w v m) : Calls Tryz.prog 50 #[v.val m] w fun e w' =>
    ∃ u B1 B2 B3 gk gr, e = .returned (u.val m) ∧ OwnM w' (w.heap.size + 3) B1 B2 B3 u m gk gr ∧ Below w.heap.size w w' := by
  obtain ⟨ac, cc, al, cl, ad, cd⟩ := v
  have H : Hid (SlM w ⟨ac, cc, al, cl, ad, cd⟩ m ∧ (∀ r ∈ m.copies, r.cells.length ≤ 1048576) ∧ (∀ r ∈ m.log, r.sets.length ≤ 1048576)) := ⟨hs, hks, hrs⟩
  clear hs hks hrs
  simp only [MV.val]
  have tp : TP w.heap.size m.alive (.slice al m.log.length cl) (.slice ad m.cleared.length cd) (((w.alloc (.cells #[.bool m.alive, .slice ac m.copies.length cc, .slice al m.log.length cl, .slice ad m.cleared.length cd] 81)).alloc (.cells #[.bool false, .slice none 0 0, .slice none 0 0, .slice none 0 0] 63)).alloc (.cells #[.bool m.alive, .slice none 0 0, .slice none 0 0, .slice none 0 0] 63)) (.slice none 0 0) (.slice none 0 0) (.slice none 0 0) := by
    refine ⟨?_, ?_, ?_, ?_, ?_, ?_, ?_, ?_, ?_, ?_, ?_, ?_, ?_⟩
    all_goals first | (intro j; go_simp; done) | (go_simp; done) | (simp; done)
  have bW : Below w.heap.size w (((w.alloc (.cells #[.bool m.alive, .slice ac m.copies.length cc, .slice al m.log.length cl, .slice ad m.cleared.length cd] 81)).alloc (.cells #[.bool false, .slice none 0 0, .slice none 0 0, .slice none 0 0] 63)).alloc (.cells #[.bool m.alive, .slice none 0 0, .slice none 0 0, .slice none 0 0] 63)) := (((Below.refl _ _).alloc (Nat.le_refl _) _).alloc (by simp) _).alloc (by simp; omega) _
  have hsz : (((w.alloc (.cells #[.bool m.alive, .slice ac m.copies.length cc, .slice al m.log.length cl, .slice ad m.cleared.length cd] 81)).alloc (.cells #[.bool false, .slice none 0 0, .slice none 0 0, .slice none 0 0] 63)).alloc (.cells #[.bool m.alive, .slice none 0 0, .slice none 0 0, .slice none 0 0] 63)).heap.size = w.heap.size + 3 := by simp
  have TW : Hid (TP w.heap.size m.alive (.slice al m.log.length cl) (.slice ad m.cleared.length cd) (((w.alloc (.cells #[.bool m.alive, .slice ac m.copies.length cc, .slice al m.log.length cl, .slice ad m.cleared.length cd] 81)).alloc (.cells #[.bool false, .slice none 0 0, .slice none 0 0, .slice none 0 0] 63)).alloc (.cells #[.bool m.alive, .slice none 0 0, .slice none 0 0, .slice none 0 0] 63)) (.slice none 0 0) (.slice none 0 0) (.slice none 0 0) ∧ Below w.heap.size w (((w.alloc (.cells #[.bool m.alive, .slice ac m.copies.length cc, .slice al m.log.length cl, .slice ad m.cleared.length cd] 81)).alloc (.cells #[.bool false, .slice none 0 0, .slice none 0 0, .slice none 0 0] 63)).alloc (.cells #[.bool m.alive, .slice none 0 0, .slice none 0 0, .slice none 0 0] 63)) ∧ (((w.alloc (.cells #[.bool m.alive, .slice ac m.copies.length cc, .slice al m.log.length cl, .slice ad m.cleared.length cd] 81)).alloc (.cells #[.bool false, .slice none 0 0, .slice none 0 0, .slice none 0 0] 63)).alloc (.cells #[.bool m.alive, .slice none 0 0, .slice none 0 0, .slice none 0 0] 63)).heap.size = w.heap.size + 3) := ⟨tp, bW, hsz⟩
  clear tp bW hsz
  go_enter Tryz.func50, Tryz.ntmps50
  go_wp2_with fail
  generalize ((w.alloc (.cells #[.bool m.alive, .slice ac m.copies.length cc, .slice al m.log.length cl, .slice ad m.cleared.length cd] 81)).alloc (.cells #[.bool false, .slice none 0 0, .slice none 0 0, .slice none 0 0] 63)).alloc (.cells #[.bool m.alive, .slice none 0 0, .slice none 0 0, .slice none 0 0] 63) = W at *
  refine (toCopyS_any W ac m.copies.length cc m.copies hk H.out.2.1 (H.out.1.later TW.out.2.1).k).mono ?_
  rintro e w1 ⟨gk, rfl, b1, l1, o1, rm1⟩
  have t1 := TW.out.1.below b1
  have B1 : Hid (Below w.heap.size w w1 ∧ W.heap.size < w1.heap.size ∧ OwnG 2 hdK lnK AtK w1 W.heap.size W.heap.size m.copies.length m.copies gk ∧ Room w1 W.heap.size (m.copies.length * 2)) := ⟨TW.out.2.1.trans (b1.mono TW.out.2.1.size), l1, o1, rm1⟩
  clear b1 l1 o1 rm1
  have T1 : Hid (TP w.heap.size m.alive (.slice al m.log.length cl) (.slice ad m.cleared.length cd) (w1.setCell ⟨w.heap.size + 1 + 1, 1, none⟩ (.slice (some ⟨W.heap.size, 0, none⟩) m.copies.length m.copies.length)) (.slice (some ⟨W.heap.size, 0, none⟩) m.copies.length m.copies.length) (.slice none 0 0) (.slice none 0 0)) := t1.set1 _
  have a2 := t1.a2
  have p1 := t1.o1
  have f1 := t1.fo 1
  clear t1
  have far : ∀ (V : World) (x o : Nat) (u : Value), x ≠ w.heap.size + 1 + 1 → (V.setCell ⟨w.heap.size + 1 + 1, o, none⟩ u).heap[x]? = V.heap[x]? := fun V x o u h => Below.heap_setCell _ _ _ _ (fun e => h e)
  have ssz : ∀ (V : World) (p : Addr) (u : Value), (V.setCell p u).heap.size = V.heap.size := fun V p u => by simp [World.setCell]
  have FAR : Hid (∀ (V : World) (x o : Nat) (u : Value), x ≠ w.heap.size + 1 + 1 → (V.setCell ⟨w.heap.size + 1 + 1, o, none⟩ u).heap[x]? = V.heap[x]?) := far
  have SSZ : Hid (∀ (V : World) (p : Addr) (u : Value), (V.setCell p u).heap.size = V.heap.size) := ssz
  clear far ssz
  go_wp2_with fail
  have hW := TW.out.2.2
  have K1 : Hid (Below w.heap.size w (w1.setCell ⟨w.heap.size + 1 + 1, 1, none⟩ (.slice (some ⟨W.heap.size, 0, none⟩) m.copies.length m.copies.length)) ∧ W.heap.size < (w1.setCell ⟨w.heap.size + 1 + 1, 1, none⟩ (.slice (some ⟨W.heap.size, 0, none⟩) m.copies.length m.copies.length)).heap.size ∧ OwnG 2 hdK lnK AtK (w1.setCell ⟨w.heap.size + 1 + 1, 1, none⟩ (.slice (some ⟨W.heap.size, 0, none⟩) m.copies.length m.copies.length)) W.heap.size W.heap.size m.copies.length m.copies gk ∧ Room (w1.setCell ⟨w.heap.size + 1 + 1, 1, none⟩ (.slice (some ⟨W.heap.size, 0, none⟩) m.copies.length m.copies.length)) W.heap.size (m.copies.length * 2)) :=
    ⟨B1.out.1.setCell (p := ⟨w.heap.size + 1 + 1, 1, none⟩) (by show w.heap.size ≤ w.heap.size + 1 + 1; omega) _, by rw [SSZ.out]; exact B1.out.2.1, B1.out.2.2.1.of_blocks AtK.of_block (by rw [SSZ.out]; exact Nat.le_refl _) (FAR.out _ _ _ _ (by omega)) (fun i hi => FAR.out _ _ _ _ (by have := B1.out.2.2.1.low i hi; omega)), B1.out.2.2.2.of_block (FAR.out _ _ _ _ (by omega))⟩
  clear hW B1 a2 p1 f1
  generalize w1.setCell ⟨w.heap.size + 1 + 1, 1, none⟩ (.slice (some ⟨W.heap.size, 0, none⟩) m.copies.length m.copies.length) = X1 at *
  refine (toRecordS_any X1 al m.log.length cl m.log hr H.out.2.2 (H.out.1.later K1.out.1).r).mono ?_
  rintro e w2 ⟨gr, rfl, b2, l2, o2, rm2⟩
  have t2 := T1.out.below b2
  have B2 : Hid (Below w.heap.size w w2 ∧ X1.heap.size < w2.heap.size ∧ OwnG 4 hdR lnR AtR w2 X1.heap.size X1.heap.size m.log.length m.log gr ∧ Room w2 X1.heap.size (m.log.length * 4) ∧ OwnG 2 hdK lnK AtK w2 W.heap.size W.heap.size m.copies.length m.copies gk ∧ Room w2 W.heap.size (m.copies.length * 2) ∧ W.heap.size < X1.heap.size ∧ (∀ i, i < m.copies.length → gk i < X1.heap.size)) :=
    ⟨K1.out.1.trans (b2.mono K1.out.1.size), l2, o2, rm2, K1.out.2.2.1.later AtK.of_block b2 K1.out.2.1, K1.out.2.2.2.below b2 K1.out.2.1, K1.out.2.1, K1.out.2.2.1.lt⟩
  clear b2 l2 o2 rm2 K1
  have T2 : Hid (TP w.heap.size m.alive (.slice al m.log.length cl) (.slice ad m.cleared.length cd) (w2.setCell ⟨w.heap.size + 1 + 1, 2, none⟩ (.slice (some ⟨X1.heap.size, 0, none⟩) m.log.length m.log.length)) (.slice (some ⟨W.heap.size, 0, none⟩) m.copies.length m.copies.length) (.slice (some ⟨X1.heap.size, 0, none⟩) m.log.length m.log.length) (.slice none 0 0)) := t2.set2 _
  have a3 := t2.a3
  have p2 := t2.o2
  have f2 := t2.fo 2
  clear t2 T1
  go_wp2_with fail
  have hW := TW.out.2.2
  have K2 : Hid (Below w.heap.size w (w2.setCell ⟨w.heap.size + 1 + 1, 2, none⟩ (.slice (some ⟨X1.heap.size, 0, none⟩) m.log.length m.log.length)) ∧ X1.heap.size < (w2.setCell ⟨w.heap.size + 1 + 1, 2, none⟩ (.slice (some ⟨X1.heap.size, 0, none⟩) m.log.length m.log.length)).heap.size ∧ OwnG 4 hdR lnR AtR (w2.setCell ⟨w.heap.size + 1 + 1, 2, none⟩ (.slice (some ⟨X1.heap.size, 0, none⟩) m.log.length m.log.length)) X1.heap.size X1.heap.size m.log.length m.log gr ∧ Room (w2.setCell ⟨w.heap.size + 1 + 1, 2, none⟩ (.slice (some ⟨X1.heap.size, 0, none⟩) m.log.length m.log.length)) X1.heap.size (m.log.length * 4) ∧ OwnG 2 hdK lnK AtK (w2.setCell ⟨w.heap.size + 1 + 1, 2, none⟩ (.slice (some ⟨X1.heap.size, 0, none⟩) m.log.length m.log.length)) W.heap.size W.heap.size m.copies.length m.copies gk ∧ Room (w2.setCell ⟨w.heap.size + 1 + 1, 2, none⟩ (.slice (some ⟨X1.heap.size, 0, none⟩) m.log.length m.log.length)) W.heap.size (m.copies.length * 2) ∧ W.heap.size < X1.heap.size ∧ (∀ i, i < m.copies.length → gk i < X1.heap.size)) := by
    obtain ⟨q1, q2, q3, q4, q5, q6, q7, q8⟩ := B2.out
    exact ⟨q1.setCell (p := ⟨w.heap.size + 1 + 1, 2, none⟩) (by show w.heap.size ≤ w.heap.size + 1 + 1; omega) _, by rw [SSZ.out]; exact q2, q3.of_blocks AtR.of_block (by rw [SSZ.out]; exact Nat.le_refl _) (FAR.out _ _ _ _ (by omega)) (fun i hi => FAR.out _ _ _ _ (by have := q3.low i hi; omega)), q4.of_block (FAR.out _ _ _ _ (by omega)), q5.of_blocks AtK.of_block (by rw [SSZ.out]; exact Nat.le_refl _) (FAR.out _ _ _ _ (by omega)) (fun i hi => FAR.out _ _ _ _ (by have := q5.low i hi; omega)), q6.of_block (FAR.out _ _ _ _ (by omega)), q7, q8⟩
  clear hW B2 a3 p2 f2
  generalize w2.setCell ⟨w.heap.size + 1 + 1, 2, none⟩ (.slice (some ⟨X1.heap.size, 0, none⟩) m.log.length m.log.length) = X2 at *
  refine (toInt64S_any X2 ad m.cleared.length cd m.cleared hn (H.out.1.later K2.out.1).n).mono ?_
  rintro e w3 ⟨rfl, b3, l3, o3, rm3⟩
  have t3 := T2.out.below b3
  have B3 : Hid (Below w.heap.size w w3 ∧ X2.heap.size < w3.heap.size ∧ NumsAt w3 X2.heap.size 0 m.cleared ∧ Room w3 X2.heap.size m.cleared.length ∧ Below X2.heap.size X2 w3) := ⟨K2.out.1.trans (b3.mono K2.out.1.size), l3, o3, rm3, b3⟩
  clear b3 l3 o3 rm3 T2
  have p0 := t3.o0
  have p1 := t3.o1
  have p2 := t3.o2
  have p3 := t3.o3
  have f3 := t3.fo 3
  have x0 := t3.r0
  have x1 := t3.r1
  have x2 := t3.r2
  have x3 := t3.r3
  have y0 := t3.fr 0
  have y1 := t3.fr 1
  have y2 := t3.fr 2
  have y3 := t3.fr 3
  clear t3
  go_wp2
  obtain ⟨F, hF⟩ : ∃ F, (((((w3.setCell ⟨w.heap.size + 1 + 1, 3, none⟩ (.slice (some ⟨X2.heap.size, 0, none⟩) m.cleared.length m.cleared.length)).setCell ⟨w.heap.size + 1, 0, none⟩ (.bool m.alive)).setCell ⟨w.heap.size + 1, 1, none⟩ (.slice (some ⟨W.heap.size, 0, none⟩) m.copies.length m.copies.length)).setCell ⟨w.heap.size + 1, 2, none⟩ (.slice (some ⟨X1.heap.size, 0, none⟩) m.log.length m.log.length)).setCell ⟨w.heap.size + 1, 3, none⟩ (.slice (some ⟨X2.heap.size, 0, none⟩) m.cleared.length m.cleared.length)) = F := ⟨_, rfl⟩
  have g0 : F.cell? ⟨w.heap.size + 1, 0, none⟩ = some (.bool m.alive) := by
    rw [← hF, cell_set_other (by omega), cell_set_other (by omega), cell_set_other (by omega)]
    exact cell_set_same (by rw [cell_set_far (by simp)]; exact x0)
  have g1 : F.cell? ⟨w.heap.size + 1, 1, none⟩ = some (.slice (some ⟨W.heap.size, 0, none⟩) m.copies.length m.copies.length) := by
    rw [← hF, cell_set_other (by omega), cell_set_other (by omega)]
    exact cell_set_same (by rw [cell_set_other (by omega), cell_set_far (by simp)]; exact x1)
  have g2 : F.cell? ⟨w.heap.size + 1, 2, none⟩ = some (.slice (some ⟨X1.heap.size, 0, none⟩) m.log.length m.log.length) := by
    rw [← hF, cell_set_other (by omega)]
    exact cell_set_same (by rw [cell_set_other (by omega), cell_set_other (by omega), cell_set_far (by simp)]; exact x2)
  have g3 : F.cell? ⟨w.heap.size + 1, 3, none⟩ = some (.slice (some ⟨X2.heap.size, 0, none⟩) m.cleared.length m.cleared.length) := by
    rw [← hF]
    exact cell_set_same (by rw [cell_set_other (by omega), cell_set_other (by omega), cell_set_other (by omega), cell_set_far (by simp)]; exact x3)
  have sF : F.heap.size = w3.heap.size := by rw [← hF]; simp [World.setCell]
  have eF : ∀ x, x ≠ w.heap.size + 1 → x ≠ w.heap.size + 1 + 1 → F.heap[x]? = w3.heap[x]? := fun x h1 h2 => by
    rw [← hF]
    exact (Below.heap_setCell _ _ _ _ (fun e => h1 e)).trans ((Below.heap_setCell _ _ _ _ (fun e => h1 e)).trans ((Below.heap_setCell _ _ _ _ (fun e => h1 e)).trans ((Below.heap_setCell _ _ _ _ (fun e => h1 e)).trans (Below.heap_setCell _ _ _ _ (fun e => h2 e)))))
  have bF : Below w.heap.size w F := by
    rw [← hF]
    exact ((((B3.out.1.setCell (p := ⟨w.heap.size + 1 + 1, 3, none⟩) (by show w.heap.size ≤ w.heap.size + 1 + 1; omega) _).setCell (p := ⟨w.heap.size + 1, 0, none⟩) (by show w.heap.size ≤ w.heap.size + 1; omega) _).setCell (p := ⟨w.heap.size + 1, 1, none⟩) (by show w.heap.size ≤ w.heap.size + 1; omega) _).setCell (p := ⟨w.heap.size + 1, 2, none⟩) (by show w.heap.size ≤ w.heap.size + 1; omega) _).setCell (p := ⟨w.heap.size + 1, 3, none⟩) (by show w.heap.size ≤ w.heap.size + 1; omega) _
  rw [hF]
  refine bodyPost_ret (v := .agg #[.bool m.alive, .slice (some ⟨W.heap.size, 0, none⟩) m.copies.length m.copies.length, .slice (some ⟨X1.heap.size, 0, none⟩) m.log.length m.log.length, .slice (some ⟨X2.heap.size, 0, none⟩) m.cleared.length m.cleared.length]) (by simp [results, Tryz.results50, go_sem, g0, g1, g2, g3]) rfl ?_
  have hW := TW.out.2.2
  obtain ⟨q1, q2, q3, q4, q5, q6, q7, q8⟩ := K2.out
  obtain ⟨z1, z2, z3, z4, z5⟩ := B3.out
  have m1 : OwnM w3 (w.heap.size + 3) X1.heap.size X2.heap.size w3.heap.size ⟨some ⟨W.heap.size, 0, none⟩, m.copies.length, some ⟨X1.heap.size, 0, none⟩, m.log.length, some ⟨X2.heap.size, 0, none⟩, m.cleared.length⟩ m gk gr :=
    ⟨⟨W.heap.size, rfl, by omega, q7, by rw [← hW]; exact q5.later AtK.of_block z5 (by omega), q8, q6.below z5 (by omega)⟩, ⟨X1.heap.size, rfl, Nat.le_refl _, q2, q3.later AtR.of_block z5 q2, q3.lt, q4.below z5 q2⟩, ⟨X2.heap.size, rfl, Nat.le_refl _, z2, z3, z4⟩, by omega, Nat.le_of_lt q2, Nat.le_of_lt z2, Nat.le_refl _⟩
  exact ⟨⟨some ⟨W.heap.size, 0, none⟩, m.copies.length, some ⟨X1.heap.size, 0, none⟩, m.log.length, some ⟨X2.heap.size, 0, none⟩, m.cleared.length⟩, X1.heap.size, X2.heap.size, w3.heap.size, gk, gr, rfl, m1.kept (by omega) (fun q h1 h2 => eF q (by omega) (by omega)), bF⟩
def mkCell (k : Int) (j : Nat) : C2 := ⟨k + 2 * (j : Int), k + 2 * (j : Int) + 1⟩
def mkCells (k : Int) (n : Nat) : List C2 := (List.range n).map (mkCell k)
def mkSet (k : Int) (j : Nat) : S5 := ⟨k + 5 * (j : Int), k + 5 * (j : Int) + 1, k + 5 * (j : Int) + 1 + 1, (k + 5 * (j : Int) + 1 + 1 + 1) % 3 == 0, k + 5 * (j : Int) + 1 + 1 + 1 + 1⟩
def mkSets (k : Int) (n : Nat) : List S5 := (List.range n).map (mkSet k)
structure KeptP (P : Nat → Prop) (w w' : World) : Prop where
  os : w'.os = w.os
  tape : w'.tape = w.tape
  output : w'.output = w.output
  size : w.heap.size ≤ w'.heap.size
  block : ∀ q, q < w.heap.size → ¬ P q → w'.heap[q]? = w.heap[q]?
theorem KeptP.refl (P : Nat → Prop) (w : World) : KeptP P w w := ⟨rfl, rfl, rfl, Nat.le_refl _, fun _ _ _ => rfl⟩
theorem KeptP.trans {P : Nat → Prop} {a b c : World} (h : KeptP P a b) (k : KeptP P b c) : KeptP P a c :=
  ⟨k.os.trans h.os, k.tape.trans h.tape, k.output.trans h.output, Nat.le_trans h.size k.size, fun q hq hp => (k.block q (Nat.lt_of_lt_of_le hq h.size) hp).trans (h.block q hq hp)⟩
theorem KeptP.mono {P Q : Nat → Prop} {a b : World} (h : KeptP P a b) (hp : ∀ q, P q → Q q) : KeptP Q a b := ⟨h.os, h.tape, h.output, h.size, fun q hq hn => h.block q hq (fun e => hn (hp q e))⟩
theorem KeptP.of_below {P : Nat → Prop} {a b : World} (h : Below a.heap.size a b) : KeptP P a b := ⟨h.os, h.tape, h.output, h.size, fun q hq _ => h.block q hq⟩
theorem KeptP.below {P : Nat → Prop} {B : Nat} {a b : World} (h : KeptP P a b) (hp : ∀ q, P q → B ≤ q) (hB : B ≤ a.heap.size) : Below B a b := ⟨h.os, h.tape, h.output, h.size, fun q hq => h.block q (by omega) (fun e => by have := hp q e; omega)⟩
theorem OwnG.set {α : Type} {sz : Nat} {hd : α → List Int} {ln : α → Nat} {At : World → Nat → α → Prop} (hAt : ∀ (w w' : World) (b : Nat) (r : α), w'.heap[b]? = w.heap[b]? → At w b r → At w' b r) {w V : World} {base b n j : Nat} {rs : List α} {g : Nat → Nat} {r r' : α} (h : OwnG sz hd ln At w base b n rs g) (hj : rs[j]? = some r) (hl : ln r' = ln r) (hz : 0 < sz) (hh : ∀ r : α, (hd r).length < sz)
    (hs : w.heap.size ≤ V.heap.size) (hb : ∀ x, x < w.heap.size → x ≠ b → x ≠ g j → V.heap[x]? = w.heap[x]?) (hold : ∀ o, (o < j * sz ∨ j * sz + (sz - 1) ≤ o) → V.cell? ⟨b, o, none⟩ = w.cell? ⟨b, o, none⟩) (hhd : ∀ t z, (hd r')[t]? = some z → V.cell? ⟨b, j * sz + t, none⟩ = some (.int .i64 z)) (hat : At V (g j) r') :
    OwnG sz hd ln At V base b n (rs.set j r') g := by
  have hjn := h.idx hj
  have hlen := h.len
  have split : ∀ i y, (rs.set j r')[i]? = some y → (i = j ∧ y = r') ∨ (i ≠ j ∧ rs[i]? = some y) := fun i y e => by
    by_cases hi : i = j
    · subst hi
      rw [List.getElem?_set_self (by omega)] at e
      exact .inl ⟨rfl, (Option.some.inj e).symm⟩
    · rw [List.getElem?_set_ne (fun e => hi e.symm)] at e
      exact .inr ⟨hi, e⟩
  have far : ∀ i t, i ≠ j → t < sz → (i * sz + t < j * sz ∨ j * sz + (sz - 1) ≤ i * sz + t) := fun i t hi ht => by
    rcases Nat.lt_or_gt_of_ne hi with hi | hi
    · have : (i + 1) * sz ≤ j * sz := Nat.mul_le_mul_right sz (by omega)
      rw [Nat.add_mul] at this; omega
    · have : (j + 1) * sz ≤ i * sz := Nat.mul_le_mul_right sz (by omega)
      rw [Nat.add_mul] at this; omega
  refine ⟨by simp [hlen], fun i y e t z ht => ?_, fun i y e => ?_, h.low, fun i hi => Nat.lt_of_lt_of_le (h.lt i hi) hs, h.ne, fun i y e => ?_, h.inj⟩
  · rcases split i y e with ⟨rfl, rfl⟩ | ⟨hi, e⟩
    · exact hhd t z ht
    · rw [hold _ (far i t hi (Nat.lt_trans (List.getElem?_eq_some_iff.1 ht).1 (hh y)))]; exact h.head i y e t z ht
  · rcases split i y e with ⟨rfl, rfl⟩ | ⟨hi, e⟩
    · rw [hold _ (.inr (Nat.le_refl _)), hl]; exact h.tail i r hj
    · rw [hold _ (far i _ hi (by omega))]; exact h.tail i y e
  · rcases split i y e with ⟨rfl, rfl⟩ | ⟨hi, e⟩
    · exact hat
    · have hin := h.idx e
      exact hAt _ _ _ _ (hb _ (h.lt i hin) (h.ne i hin) (fun e' => hi (h.inj i j hin hjn e'))) (h.sub i y e)
def mix {α : Type} (f : Nat → α) (rs : List α) (j : Nat) : List α := (List.range rs.length).map fun i => if i < j then f i else rs[i]?.getD (f i)
def offG {α : Type} (c : α → Nat) (rs : List α) (i : Nat) : Nat := ((rs.map c).take i).sum
def cK (k : K2) : Nat := 1 + 2 * k.cells.length
def cR (r : R4) : Nat := 3 + 5 * r.sets.length
def mkK (ks : List K2) (k : Int) (i : Nat) : K2 := ⟨k + offG cK ks i, mkCells (k + offG cK ks i + 1) (atK ks i).cells.length⟩
def mkR (rs : List R4) (k : Int) (i : Nat) : R4 := ⟨k + offG cR rs i, k + offG cR rs i + 1, k + offG cR rs i + 1 + 1, mkSets (k + offG cR rs i + 1 + 1 + 1) (atR rs i).sets.length⟩
def mkKs (ks : List K2) (k : Int) : List K2 := (List.range ks.length).map (mkK ks k)
def mkRs (rs : List R4) (k : Int) : List R4 := (List.range rs.length).map (mkR rs k)
def OfRow (b n : Nat) (g : Nat → Nat) (q : Nat) : Prop := q = b ∨ ∃ i, i < n ∧ q = g i
def leftR (l t : Nat) : Int := if t ≤ l then ((l - t : Nat) : Int) else -1
theorem leftR_yes {l t : Nat} (h : t ≤ l) : leftR l t = ((l - t : Nat) : Int) := if_pos h
theorem leftR_no {l t : Nat} (h : ¬ t ≤ l) : leftR l t = -1 := if_neg h
theorem szSetS_l (w : World) (a : Option Addr) (n cap : Nat) (l : Nat) (hn : n ≤ maxLen) (hl : l ≤ 1048576) : Calls Tryz.prog 79 #[.slice a n cap, .int .i64 (l : Int)] w fun e w' => e = .returned (.int .i64 (leftR l n)) ∧ w' = w := by
  unfold maxLen at hn
  by_cases h : n ≤ l
  · rw [leftR_yes h]
    have d0 : decide ((l : Int) - (n : Int) < 0) = false := by simp; omega
    go_enter Tryz.func79, Tryz.ntmps79
    go_wp2
    go_ret
    have e : ((l - n : Nat) : Int) = (l : Int) - (n : Int) := by omega
    exact ⟨by rw [e]; rfl, rfl⟩
  · rw [leftR_no h]
    have d0 : decide ((l : Int) - (n : Int) < 0) = true := by simp; omega
    go_enter Tryz.func79, Tryz.ntmps79
    go_wp2
    go_ret
    exact ⟨rfl, rfl⟩
theorem szCellS_l (w : World) (a : Option Addr) (n cap : Nat) (l : Nat) (hn : n ≤ maxLen) (hl : l ≤ 1048576) : Calls Tryz.prog 181 #[.slice a n cap, .int .i64 (l : Int)] w fun e w' => e = .returned (.int .i64 (leftR l n)) ∧ w' = w := by
  unfold maxLen at hn
  by_cases h : n ≤ l
  · rw [leftR_yes h]
    have d0 : decide ((l : Int) - (n : Int) < 0) = false := by simp; omega
    go_enter Tryz.func181, Tryz.ntmps181
    go_wp2
    go_ret
    have e : ((l - n : Nat) : Int) = (l : Int) - (n : Int) := by omega
    exact ⟨by rw [e]; rfl, rfl⟩
  · rw [leftR_no h]
    have d0 : decide ((l : Int) - (n : Int) < 0) = true := by simp; omega
    go_enter Tryz.func181, Tryz.ntmps181
    go_wp2
    go_ret
    exact ⟨rfl, rfl⟩
theorem szInt64S_l (w : World) (a : Option Addr) (n cap : Nat) (l : Nat) (hn : n ≤ maxLen) (hl : l ≤ 1048576) : Calls Tryz.prog 75 #[.slice a n cap, .int .i64 (l : Int)] w fun e w' => e = .returned (.int .i64 (leftR l n)) ∧ w' = w := by
  unfold maxLen at hn
  by_cases h : n ≤ l
  · rw [leftR_yes h]
    have d0 : decide ((l : Int) - (n : Int) < 0) = false := by simp; omega
    go_enter Tryz.func75, Tryz.ntmps75
    go_wp2
    go_ret
    have e : ((l - n : Nat) : Int) = (l : Int) - (n : Int) := by omega
    exact ⟨by rw [e]; rfl, rfl⟩
  · rw [leftR_no h]
    have d0 : decide ((l : Int) - (n : Int) < 0) = true := by simp; omega
    go_enter Tryz.func75, Tryz.ntmps75
    go_wp2
    go_ret
    exact ⟨rfl, rfl⟩
theorem szRecord_l (w : World) (k t r : Int) (a : Option Addr) (n cap : Nat) (l : Nat) (hn : n ≤ maxLen) (hl : l ≤ 1048576) : Calls Tryz.prog 134 #[.agg #[.int .i64 k, .int .i64 t, .int .i64 r, .slice a n cap], .int .i64 (l : Int)] w fun e w' => e = .returned (.int .i64 (leftR l n)) ∧ Below w.heap.size w w' := by
  have hz := fun W => szSetS_l W a n cap l hn hl
  by_cases h : n ≤ l
  · rw [leftR_yes h] at *
    have d0 : decide (((l - n : Nat) : Int) < 0) = false := by simp
    go_enter Tryz.func134, Tryz.ntmps134
    go_wp2_with (go_at_call 79; refine (hz _).mono ?_; rintro e w' ⟨rfl, rfl⟩)
    go_ret
    exact ⟨rfl, (Below.refl _ _).alloc (Nat.le_refl _) _⟩
  · rw [leftR_no h] at *
    go_enter Tryz.func134, Tryz.ntmps134
    go_wp2_with (go_at_call 79; refine (hz _).mono ?_; rintro e w' ⟨rfl, rfl⟩)
    go_ret
    exact ⟨rfl, (Below.refl _ _).alloc (Nat.le_refl _) _⟩
theorem szCopy_l (w : World) (r : Int) (a : Option Addr) (n cap : Nat) (l : Nat) (hn : n ≤ maxLen) (hl : l ≤ 1048576) : Calls Tryz.prog 133 #[.agg #[.int .i64 r, .slice a n cap], .int .i64 (l : Int)] w fun e w' => e = .returned (.int .i64 (leftR l n)) ∧ Below w.heap.size w w' := by
  have hz := fun W => szCellS_l W a n cap l hn hl
  by_cases h : n ≤ l
  · rw [leftR_yes h] at *
    have d0 : decide (((l - n : Nat) : Int) < 0) = false := by simp
    go_enter Tryz.func133, Tryz.ntmps133
    go_wp2_with (go_at_call 181; refine (hz _).mono ?_; rintro e w' ⟨rfl, rfl⟩)
    go_ret
    exact ⟨rfl, (Below.refl _ _).alloc (Nat.le_refl _) _⟩
  · rw [leftR_no h] at *
    go_enter Tryz.func133, Tryz.ntmps133
    go_wp2_with (go_at_call 181; refine (hz _).mono ?_; rintro e w' ⟨rfl, rfl⟩)
    go_ret
    exact ⟨rfl, (Below.refl _ _).alloc (Nat.le_refl _) _⟩
set_option maxHeartbeats 2000000 in
theorem szRecordS_l (w : World) (a : Option Addr) (n cap : Nat) (rs : List R4) (l : Nat) (hn : n ≤ maxLen) (hl0 : l ≤ 1048576) (hs : SlR w w.heap.size a n rs) (hl : ∀ r ∈ rs, r.sets.length ≤ maxLen) :
    Calls Tryz.prog 77 #[.slice a n cap, .int .i64 (l : Int)] w fun e w' => e = .returned (.int .i64 (leftR l (n + lensR rs))) ∧ Below w.heap.size w w' := by
  obtain ⟨hx, hs⟩ := hs
  have hn' := hn
  unfold maxLen at hn'
  by_cases h0 : n ≤ l
  · have d0 : decide ((l : Int) - (n : Int) < 0) = false := by simp; omega
    have el : (l : Int) - (n : Int) = ((l - n : Nat) : Int) := by omega
    go_enter Tryz.func77, Tryz.ntmps77
    go_wp2
    go_loopw [1, 5] (fun v1 v5 wr => ∃ j : Nat, j ≤ n ∧ v5 = .int .i64 j ∧ n + lensR (rs.take j) ≤ l ∧ v1 = .int .i64 ((l - (n + lensR (rs.take j)) : Nat) : Int) ∧ Below w.heap.size w wr) (fun _ v5 _ => n - (intOf v5).toNat)
    case atStart => exact ⟨0, Nat.zero_le _, rfl, by simpa [lensR] using h0, by simp [lensR]; try omega, Below.refl _ _⟩
    case round =>
      obtain ⟨j, hj, rfl, hle, rfl, hbl⟩ := hrel
      have KL : Hid (n + lensR (rs.take j) ≤ l ∧ rs.length = n) := ⟨hle, hx⟩
      clear el
      by_cases hlt : j < n
      · rcases hs with hs | ⟨b, off, rfl, hb, h1⟩
        · omega
        · have hat := h1 j _ (atR_of (by omega))
          obtain ⟨a', cap', hc, _, _⟩ := hat.c3
          have e0 := (hbl.cell (p := ⟨b, off + j * 4, none⟩) hb).trans hat.c0
          have e1 := (hbl.cell (p := ⟨b, off + j * 4 + 1, none⟩) hb).trans hat.c1
          have e2 := (hbl.cell (p := ⟨b, off + j * 4 + 2, none⟩) hb).trans hat.c2
          have e3 := (hbl.cell (p := ⟨b, off + j * 4 + 3, none⟩) hb).trans hc
          have hz := szRecord_l wr (atR rs j).kind (atR rs j).tx (atR rs j).region a' (atR rs j).sets.length cap' (l - (n + lensR (rs.take j))) (hl _ (List.mem_of_getElem? (atR_of (by omega)))) (by omega)
          have HST : Hid (lensR (rs.take (j + 1)) = lensR (rs.take j) + (atR rs j).sets.length) := by
            unfold Hid lensR
            rw [List.map_take, List.map_take]
            exact sum_take_succ (by rw [List.getElem?_map, atR_of (by omega)]; rfl)
          have HLE : Hid (lensR (rs.take (j + 1)) ≤ lensR rs) := by unfold Hid lensR; rw [List.map_take]; exact sum_take_le _ _
          have KB : Hid (Below w.heap.size w wr) := hbl
          generalize hLL : lensR (rs.take j) = LL at *
          generalize (atR rs j).sets.length = m at *
          generalize (atR rs j).kind = rk at *
          generalize (atR rs j).tx = rt at *
          generalize (atR rs j).region = rr at *
          clear h1 hc hbl hl hx hle hat
          by_cases hfit : m ≤ l - (n + LL)
          · rw [leftR_yes hfit] at hz
            have d1 : decide (((l - (n + LL) - m : Nat) : Int) < 0) = false := by simp
            go_wp2_with fail
            refine hz.mono ?_
            clear hz
            rintro e w1 ⟨rfl, b1⟩
            go_wp2
            have h1 := KL.out.1
            refine ⟨⟨j + 1, by omega, by simp, by rw [HST.out]; omega, by rw [HST.out]; congr 2; omega, KB.out.trans (b1.mono KB.out.size)⟩, by simp [intOf]; omega⟩
          · rw [leftR_no hfit] at hz
            go_wp2_with fail
            refine hz.mono ?_
            clear hz
            rintro e w1 ⟨rfl, b1⟩
            go_wp2
            go_ret
            have h2 := HST.out
            have h3 := HLE.out
            refine ⟨by rw [leftR_no (by omega)]; rfl, KB.out.trans (b1.mono KB.out.size)⟩
      · have : j = n := by omega
        subst this
        have hd : decide ((j : Int) < (j : Int)) = false := by simp
        have ht : rs.take j = rs := List.take_of_length_le (by omega)
        rw [ht] at hle ⊢
        clear hs hl KL ht
        go_wp2
        go_ret
        exact ⟨by rw [leftR_yes hle]; rfl, hbl⟩
  · have d0 : decide ((l : Int) - (n : Int) < 0) = true := by simp; omega
    go_enter Tryz.func77, Tryz.ntmps77
    go_wp2
    go_ret
    exact ⟨by rw [leftR_no (by omega)]; rfl, Below.refl _ _⟩
set_option maxHeartbeats 2000000 in
theorem szCopyS_l (w : World) (a : Option Addr) (n cap : Nat) (rs : List K2) (l : Nat) (hn : n ≤ maxLen) (hl0 : l ≤ 1048576) (hs : SlK w w.heap.size a n rs) (hl : ∀ r ∈ rs, r.cells.length ≤ maxLen) :
    Calls Tryz.prog 76 #[.slice a n cap, .int .i64 (l : Int)] w fun e w' => e = .returned (.int .i64 (leftR l (n + lensK rs))) ∧ Below w.heap.size w w' := by
  obtain ⟨hx, hs⟩ := hs
  have hn' := hn
  unfold maxLen at hn'
  by_cases h0 : n ≤ l
  · have d0 : decide ((l : Int) - (n : Int) < 0) = false := by simp; omega
    have el : (l : Int) - (n : Int) = ((l - n : Nat) : Int) := by omega
    go_enter Tryz.func76, Tryz.ntmps76
    go_wp2
    go_loopw [1, 5] (fun v1 v5 wr => ∃ j : Nat, j ≤ n ∧ v5 = .int .i64 j ∧ n + lensK (rs.take j) ≤ l ∧ v1 = .int .i64 ((l - (n + lensK (rs.take j)) : Nat) : Int) ∧ Below w.heap.size w wr) (fun _ v5 _ => n - (intOf v5).toNat)
    case atStart => exact ⟨0, Nat.zero_le _, rfl, by simpa [lensK] using h0, by simp [lensK]; try omega, Below.refl _ _⟩
    case round =>
      obtain ⟨j, hj, rfl, hle, rfl, hbl⟩ := hrel
      have KL : Hid (n + lensK (rs.take j) ≤ l ∧ rs.length = n) := ⟨hle, hx⟩
      clear el
      by_cases hlt : j < n
      · rcases hs with hs | ⟨b, off, rfl, hb, h1⟩
        · omega
        · have hat := h1 j _ (atK_of (by omega))
          obtain ⟨a', cap', hc, _, _⟩ := hat.c1
          have e0 := (hbl.cell (p := ⟨b, off + j * 2, none⟩) hb).trans hat.c0
          have e1 := (hbl.cell (p := ⟨b, off + j * 2 + 1, none⟩) hb).trans hc
          have hz := szCopy_l wr (atK rs j).region a' (atK rs j).cells.length cap' (l - (n + lensK (rs.take j))) (hl _ (List.mem_of_getElem? (atK_of (by omega)))) (by omega)
          have HST : Hid (lensK (rs.take (j + 1)) = lensK (rs.take j) + (atK rs j).cells.length) := by
            unfold Hid lensK
            rw [List.map_take, List.map_take]
            exact sum_take_succ (by rw [List.getElem?_map, atK_of (by omega)]; rfl)
          have HLE : Hid (lensK (rs.take (j + 1)) ≤ lensK rs) := by unfold Hid lensK; rw [List.map_take]; exact sum_take_le _ _
          have KB : Hid (Below w.heap.size w wr) := hbl
          generalize hLL : lensK (rs.take j) = LL at *
          generalize (atK rs j).cells.length = m at *
          generalize (atK rs j).region = rr at *
          clear h1 hc hbl hl hx hle hat
          by_cases hfit : m ≤ l - (n + LL)
          · rw [leftR_yes hfit] at hz
            have d1 : decide (((l - (n + LL) - m : Nat) : Int) < 0) = false := by simp
            go_wp2_with fail
            refine hz.mono ?_
            clear hz
            rintro e w1 ⟨rfl, b1⟩
            go_wp2
            have h1 := KL.out.1
            refine ⟨⟨j + 1, by omega, by simp, by rw [HST.out]; omega, by rw [HST.out]; congr 2; omega, KB.out.trans (b1.mono KB.out.size)⟩, by simp [intOf]; omega⟩
          · rw [leftR_no hfit] at hz
            go_wp2_with fail
            refine hz.mono ?_
            clear hz
            rintro e w1 ⟨rfl, b1⟩
            go_wp2
            go_ret
            have h2 := HST.out
            have h3 := HLE.out
            refine ⟨by rw [leftR_no (by omega)]; rfl, KB.out.trans (b1.mono KB.out.size)⟩
      · have : j = n := by omega
        subst this
        have hd : decide ((j : Int) < (j : Int)) = false := by simp
        have ht : rs.take j = rs := List.take_of_length_le (by omega)
        rw [ht] at hle ⊢
        clear hs hl KL ht
        go_wp2
        go_ret
        exact ⟨by rw [leftR_yes hle]; rfl, hbl⟩
  · have d0 : decide ((l : Int) - (n : Int) < 0) = true := by simp; omega
    go_enter Tryz.func76, Tryz.ntmps76
    go_wp2
    go_ret
    exact ⟨by rw [leftR_no (by omega)]; rfl, Below.refl _ _⟩
end Go.Proofs.YtphpcgmnljhimaaGreat
namespace Go.Proofs.YtphpcgmnljhimaaGreat
open Go.RowKit
open Go.Sort (grow)
theorem SetAt.regrown {w : World} {b o : Nat} {s : S5} (h : SetAt w b o s) (d : Nat) (os : Array Obj) : SetAt (grow (redrawn w d) os) b o s :=
  ⟨cell_regrown h.c0 d os, cell_regrown h.c1 d os, cell_regrown h.c2 d os, cell_regrown h.c3 d os, cell_regrown h.c4 d os⟩
set_option maxHeartbeats 1000000 in
theorem eqSet_same (w : World) (s : S5) : Calls Tryz.prog 164 #[.agg #[.int .i64 s.region, .int .i64 s.slot, .int .i64 s.value, .bool s.used, .int .i64 s.version], .agg #[.int .i64 s.region, .int .i64 s.slot, .int .i64 s.value, .bool s.used, .int .i64 s.version]] w fun e w' =>
    e = .returned (.bool true) ∧ Below w.heap.size w w' := by
  obtain ⟨r, l, v, u, x⟩ := s
  go_enter Tryz.func164, Tryz.ntmps164
  go_wp2
  go_ret
  exact ⟨rfl, ((Below.refl _ _).alloc (Nat.le_refl _) _).alloc (by simp) _⟩
set_option maxHeartbeats 1000000 in
theorem eqSetS_some (w : World) (b off cap b' off' cap' n : Nat) (xs : List S5) (hx : xs.length = n) (hn : n ≤ maxLen) (h1 : SetsAt w b off xs) (hb : b < w.heap.size) (h2 : SetsAt w b' off' xs) (hb' : b' < w.heap.size) :
    Calls Tryz.prog 116 #[.slice (some ⟨b, off, none⟩) n cap, .slice (some ⟨b', off', none⟩) n cap'] w fun e w' => e = .returned (.bool true) ∧ Below w.heap.size w w' := by
  unfold maxLen at hn
  go_enter Tryz.func116, Tryz.ntmps116
  go_wp2
  go_loopw [5] (fun i wr => ∃ k : Nat, k ≤ n ∧ i = .int .i64 k ∧ Below w.heap.size w wr) (fun i _ => n - (intOf i).toNat)
  case atStart => exact ⟨0, Nat.zero_le _, rfl, Below.refl _ _⟩
  case round =>
    obtain ⟨k, hk, rfl, hbl⟩ := hrel
    by_cases hlt : k < n
    · obtain ⟨s, hsk⟩ : ∃ s, xs[k]? = some s := ⟨xs[k]'(by omega), by simp⟩
      have t1 := (((h1 k s hsk).below hbl hb).regrown)
      have t2 := (((h2 k s hsk).below hbl hb').regrown)
      have c0 := fun d os => (t1 d os).c0
      have c1 := fun d os => (t1 d os).c1
      have c2 := fun d os => (t1 d os).c2
      have c3 := fun d os => (t1 d os).c3
      have c4 := fun d os => (t1 d os).c4
      have e0 := fun d os => (t2 d os).c0
      have e1 := fun d os => (t2 d os).c1
      have e2 := fun d os => (t2 d os).c2
      have e3 := fun d os => (t2 d os).c3
      have e4 := fun d os => (t2 d os).c4
      have cQ : ∀ d os, Calls Tryz.prog 164 #[.agg #[.int .i64 s.region, .int .i64 s.slot, .int .i64 s.value, .bool s.used, .int .i64 s.version], .agg #[.int .i64 s.region, .int .i64 s.slot, .int .i64 s.value, .bool s.used, .int .i64 s.version]] (grow (redrawn wr d) os) fun e w'' => e = .returned (.bool true) ∧ ∃ p : Regrown, w'' = grow (redrawn wr p.d) p.os := fun d os => Calls.regrown_of (eqSet_same _ s)
      have K : Hid (Below w.heap.size w wr) := hbl
      clear t1 t2 hbl hsk h1 h2
      go_wp2_with fail
      refine wp_region_quiet_below (by kernel_rfl) (by kernel_rfl) ?_
      repeat (quiet_step (exact cQ _ _))
      refine wpQuiet_nil ?_
      intro _ hw'
      obtain ⟨⟨dq, osq⟩, hw''⟩ := hw'
      subst hw''
      have bq := below_regrown wr dq osq
      go_wp2
      exact ⟨⟨k + 1, by omega, by simp, K.out.trans (bq.mono K.out.size)⟩, by simp [intOf]; omega⟩
    · have : k = n := by omega
      subst this
      have hd : decide (k < k) = false := by simp
      go_wp2
      go_ret
      exact ⟨rfl, hbl⟩
theorem eqSetS_none (w : World) (a a' : Option Addr) (cap cap' : Nat) : Calls Tryz.prog 116 #[.slice a 0 cap, .slice a' 0 cap'] w fun e w' => e = .returned (.bool true) ∧ Below w.heap.size w w' := by
  go_enter Tryz.func116, Tryz.ntmps116
  go_wp2
  go_loopw [5] (fun i wr => i = .int .i64 0 ∧ Below w.heap.size w wr) (fun _ _ => 0)
  case atStart => exact ⟨rfl, Below.refl _ _⟩
  case round =>
    obtain ⟨rfl, hbl⟩ := hrel
    go_wp2
    go_ret
    exact ⟨rfl, hbl⟩
theorem eqSetS_any (w : World) (a a' : Option Addr) (n cap cap' : Nat) (xs : List S5) (hn : n ≤ maxLen) (h1 : Sl w w.heap.size a n xs) (h2 : Sl w w.heap.size a' n xs) :
    Calls Tryz.prog 116 #[.slice a n cap, .slice a' n cap'] w fun e w' => e = .returned (.bool true) ∧ Below w.heap.size w w' := by
  obtain ⟨hx, h1⟩ := h1
  obtain ⟨_, h2⟩ := h2
  rcases h1 with rfl | ⟨b, off, rfl, hb, h1⟩
  · exact eqSetS_none w a a' cap cap'
  · rcases h2 with rfl | ⟨b', off', rfl, hb', h2⟩
    · exact eqSetS_none w _ a' cap cap'
    · exact eqSetS_some w b off cap b' off' cap' n xs hx hn h1 hb h2 hb'
set_option maxHeartbeats 1000000 in
theorem eqRecord_same (w : World) (k t r : Int) (a a' : Option Addr) (n cap cap' : Nat) (xs : List S5) (hn : n ≤ maxLen) (h1 : Sl w w.heap.size a n xs) (h2 : Sl w w.heap.size a' n xs) :
    Calls Tryz.prog 162 #[.agg #[.int .i64 k, .int .i64 t, .int .i64 r, .slice a n cap], .agg #[.int .i64 k, .int .i64 t, .int .i64 r, .slice a' n cap']] w fun e w' => e = .returned (.bool true) ∧ Below w.heap.size w w' := by
  go_enter Tryz.func162, Tryz.ntmps162
  go_wp2_with fail
  have b0 : Below w.heap.size w ((w.alloc (.cells #[.int .i64 k, .int .i64 t, .int .i64 r, .slice a n cap] 133)).alloc (.cells #[.int .i64 k, .int .i64 t, .int .i64 r, .slice a' n cap'] 133)) := ((Below.refl _ _).alloc (Nat.le_refl _) _).alloc (by simp) _
  refine (eqSetS_any _ a a' n cap cap' xs hn ((h1.below b0).mono b0.size) ((h2.below b0).mono b0.size)).mono ?_
  rintro e w' ⟨rfl, b1⟩
  go_wp2
  go_ret
  exact ⟨rfl, b0.trans (b1.mono b0.size)⟩
theorem eqCopy_same (w : World) (r : Int) (a a' : Option Addr) (n cap cap' : Nat) (xs : List C2) (hn : n ≤ maxLen) (h1 : SlC w w.heap.size a n xs) (h2 : SlC w w.heap.size a' n xs) :
    Calls Tryz.prog 161 #[.agg #[.int .i64 r, .slice a n cap], .agg #[.int .i64 r, .slice a' n cap']] w fun e w' => e = .returned (.bool true) ∧ Below w.heap.size w w' := by
  go_enter Tryz.func161, Tryz.ntmps161
  go_wp2_with fail
  have b0 : Below w.heap.size w ((w.alloc (.cells #[.int .i64 r, .slice a n cap] 68)).alloc (.cells #[.int .i64 r, .slice a' n cap'] 68)) := ((Below.refl _ _).alloc (Nat.le_refl _) _).alloc (by simp) _
  refine (eqCellS_any _ a a' n cap cap' xs hn (h1.later b0) (h2.later b0)).mono ?_
  rintro e w' ⟨rfl, b1⟩
  go_wp2
  go_ret
  exact ⟨rfl, b0.trans (b1.mono b0.size)⟩
set_option maxHeartbeats 2000000 in
theorem eqRecordS_any (w : World) (a a' : Option Addr) (n cap cap' : Nat) (rs : List R4) (hn : n ≤ maxLen) (hl : ∀ r ∈ rs, r.sets.length ≤ maxLen) (h1 : SlR w w.heap.size a n rs) (h2 : SlR w w.heap.size a' n rs) :
    Calls Tryz.prog 114 #[.slice a n cap, .slice a' n cap'] w fun e w' => e = .returned (.bool true) ∧ Below w.heap.size w w' := by
  unfold maxLen at hn
  obtain ⟨hx, h1⟩ := h1
  obtain ⟨_, h2⟩ := h2
  go_enter Tryz.func114, Tryz.ntmps114
  go_wp2
  go_loopw [5] (fun i wr => ∃ k : Nat, k ≤ n ∧ i = .int .i64 k ∧ Below w.heap.size w wr) (fun i _ => n - (intOf i).toNat)
  case atStart => exact ⟨0, Nat.zero_le _, rfl, Below.refl _ _⟩
  case round =>
    obtain ⟨k, hk, rfl, hbl⟩ := hrel
    by_cases hlt : k < n
    · rcases h1 with h1 | ⟨b, off, rfl, hb, h1⟩
      · omega
      · rcases h2 with h2 | ⟨b', off', rfl, hb', h2⟩
        · omega
        · have t1 := ((h1 k _ (atR_of (by omega))).below (hbl.mono (Nat.le_refl _)) hb).mono hbl.size
          have t2 := ((h2 k _ (atR_of (by omega))).below (hbl.mono (Nat.le_refl _)) hb').mono hbl.size
          have hll := hl _ (List.mem_of_getElem? (atR_of (rs := rs) (i := k) (by omega)))
          have hbW : b < wr.heap.size := Nat.lt_of_lt_of_le hb hbl.size
          have hbW' : b' < wr.heap.size := Nat.lt_of_lt_of_le hb' hbl.size
          obtain ⟨a1, k1, d1, s1, _⟩ := t1.c3
          obtain ⟨a2, k2, d2, s2, _⟩ := t2.c3
          have x0 : ∀ d os, (grow (redrawn wr d) os).cell? ⟨b, off + k * 4, none⟩ = some (.int .i64 (atR rs k).kind) := fun d os => ((below_regrown wr d os).cell (p := ⟨b, off + k * 4, none⟩) hbW).trans t1.c0
          have x1 : ∀ d os, (grow (redrawn wr d) os).cell? ⟨b, off + k * 4 + 1, none⟩ = some (.int .i64 (atR rs k).tx) := fun d os => ((below_regrown wr d os).cell (p := ⟨b, off + k * 4 + 1, none⟩) hbW).trans t1.c1
          have x2 : ∀ d os, (grow (redrawn wr d) os).cell? ⟨b, off + k * 4 + 2, none⟩ = some (.int .i64 (atR rs k).region) := fun d os => ((below_regrown wr d os).cell (p := ⟨b, off + k * 4 + 2, none⟩) hbW).trans t1.c2
          have x3 : ∀ d os, (grow (redrawn wr d) os).cell? ⟨b, off + k * 4 + 3, none⟩ = some (.slice a1 (atR rs k).sets.length k1) := fun d os => ((below_regrown wr d os).cell (p := ⟨b, off + k * 4 + 3, none⟩) hbW).trans d1
          have y0 : ∀ d os, (grow (redrawn wr d) os).cell? ⟨b', off' + k * 4, none⟩ = some (.int .i64 (atR rs k).kind) := fun d os => ((below_regrown wr d os).cell (p := ⟨b', off' + k * 4, none⟩) hbW').trans t2.c0
          have y1 : ∀ d os, (grow (redrawn wr d) os).cell? ⟨b', off' + k * 4 + 1, none⟩ = some (.int .i64 (atR rs k).tx) := fun d os => ((below_regrown wr d os).cell (p := ⟨b', off' + k * 4 + 1, none⟩) hbW').trans t2.c1
          have y2 : ∀ d os, (grow (redrawn wr d) os).cell? ⟨b', off' + k * 4 + 2, none⟩ = some (.int .i64 (atR rs k).region) := fun d os => ((below_regrown wr d os).cell (p := ⟨b', off' + k * 4 + 2, none⟩) hbW').trans t2.c2
          have y3 : ∀ d os, (grow (redrawn wr d) os).cell? ⟨b', off' + k * 4 + 3, none⟩ = some (.slice a2 (atR rs k).sets.length k2) := fun d os => ((below_regrown wr d os).cell (p := ⟨b', off' + k * 4 + 3, none⟩) hbW').trans d2
          have cQ : ∀ d os, Calls Tryz.prog 162 #[.agg #[.int .i64 (atR rs k).kind, .int .i64 (atR rs k).tx, .int .i64 (atR rs k).region, .slice a1 (atR rs k).sets.length k1], .agg #[.int .i64 (atR rs k).kind, .int .i64 (atR rs k).tx, .int .i64 (atR rs k).region, .slice a2 (atR rs k).sets.length k2]] (grow (redrawn wr d) os) fun e w'' => e = .returned (.bool true) ∧ ∃ p : Regrown, w'' = grow (redrawn wr p.d) p.os := fun d os => Calls.regrown_of (eqRecord_same _ (atR rs k).kind (atR rs k).tx (atR rs k).region a1 a2 _ k1 k2 (atR rs k).sets hll ((s1.below (below_regrown wr d os)).mono (below_regrown wr d os).size) ((s2.below (below_regrown wr d os)).mono (below_regrown wr d os).size))
          have K : Hid (Below w.heap.size w wr) := hbl
          clear t1 t2 hbl h1 h2 s1 s2 d1 d2 hl hll hx
          go_wp2_with fail
          refine wp_region_quiet_below (by kernel_rfl) (by kernel_rfl) ?_
          repeat (go_big_quiet_step (exact cQ _ _))
          refine wpQuiet_nil ?_
          intro _ hw'
          obtain ⟨⟨dq, osq⟩, hw''⟩ := hw'
          subst hw''
          have bq := below_regrown wr dq osq
          go_wp2
          exact ⟨⟨k + 1, by omega, by simp, K.out.trans (bq.mono K.out.size)⟩, by simp [intOf]; omega⟩
    · have : k = n := by omega
      subst this
      have hd : decide (k < k) = false := by simp
      clear h1 h2
      go_wp2
      go_ret
      exact ⟨rfl, hbl⟩
set_option maxHeartbeats 2000000 in
theorem eqCopyS_any (w : World) (a a' : Option Addr) (n cap cap' : Nat) (rs : List K2) (hn : n ≤ maxLen) (hl : ∀ r ∈ rs, r.cells.length ≤ maxLen) (h1 : SlK w w.heap.size a n rs) (h2 : SlK w w.heap.size a' n rs) :
    Calls Tryz.prog 113 #[.slice a n cap, .slice a' n cap'] w fun e w' => e = .returned (.bool true) ∧ Below w.heap.size w w' := by
  unfold maxLen at hn
  obtain ⟨hx, h1⟩ := h1
  obtain ⟨_, h2⟩ := h2
  go_enter Tryz.func113, Tryz.ntmps113
  go_wp2
  go_loopw [5] (fun i wr => ∃ k : Nat, k ≤ n ∧ i = .int .i64 k ∧ Below w.heap.size w wr) (fun i _ => n - (intOf i).toNat)
  case atStart => exact ⟨0, Nat.zero_le _, rfl, Below.refl _ _⟩
  case round =>
    obtain ⟨k, hk, rfl, hbl⟩ := hrel
    by_cases hlt : k < n
    · rcases h1 with h1 | ⟨b, off, rfl, hb, h1⟩
      · omega
      · rcases h2 with h2 | ⟨b', off', rfl, hb', h2⟩
        · omega
        · have t1 := ((h1 k _ (atK_of (by omega))).below (hbl.mono (Nat.le_refl _)) hb).mono hbl.size
          have t2 := ((h2 k _ (atK_of (by omega))).below (hbl.mono (Nat.le_refl _)) hb').mono hbl.size
          have hll := hl _ (List.mem_of_getElem? (atK_of (ks := rs) (i := k) (by omega)))
          have hbW : b < wr.heap.size := Nat.lt_of_lt_of_le hb hbl.size
          have hbW' : b' < wr.heap.size := Nat.lt_of_lt_of_le hb' hbl.size
          obtain ⟨a1, k1, d1, s1, _⟩ := t1.c1
          obtain ⟨a2, k2, d2, s2, _⟩ := t2.c1
          have x0 : ∀ d os, (grow (redrawn wr d) os).cell? ⟨b, off + k * 2, none⟩ = some (.int .i64 (atK rs k).region) := fun d os => ((below_regrown wr d os).cell (p := ⟨b, off + k * 2, none⟩) hbW).trans t1.c0
          have x1 : ∀ d os, (grow (redrawn wr d) os).cell? ⟨b, off + k * 2 + 1, none⟩ = some (.slice a1 (atK rs k).cells.length k1) := fun d os => ((below_regrown wr d os).cell (p := ⟨b, off + k * 2 + 1, none⟩) hbW).trans d1
          have y0 : ∀ d os, (grow (redrawn wr d) os).cell? ⟨b', off' + k * 2, none⟩ = some (.int .i64 (atK rs k).region) := fun d os => ((below_regrown wr d os).cell (p := ⟨b', off' + k * 2, none⟩) hbW').trans t2.c0
          have y1 : ∀ d os, (grow (redrawn wr d) os).cell? ⟨b', off' + k * 2 + 1, none⟩ = some (.slice a2 (atK rs k).cells.length k2) := fun d os => ((below_regrown wr d os).cell (p := ⟨b', off' + k * 2 + 1, none⟩) hbW').trans d2
          have cQ : ∀ d os, Calls Tryz.prog 161 #[.agg #[.int .i64 (atK rs k).region, .slice a1 (atK rs k).cells.length k1], .agg #[.int .i64 (atK rs k).region, .slice a2 (atK rs k).cells.length k2]] (grow (redrawn wr d) os) fun e w'' => e = .returned (.bool true) ∧ ∃ p : Regrown, w'' = grow (redrawn wr p.d) p.os := fun d os => Calls.regrown_of (eqCopy_same _ (atK rs k).region a1 a2 _ k1 k2 (atK rs k).cells hll ((s1.below (below_regrown wr d os)).mono (below_regrown wr d os).size) ((s2.below (below_regrown wr d os)).mono (below_regrown wr d os).size))
          have K : Hid (Below w.heap.size w wr) := hbl
          clear t1 t2 hbl h1 h2 s1 s2 d1 d2 hl hll hx
          go_wp2_with fail
          refine wp_region_quiet_below (by kernel_rfl) (by kernel_rfl) ?_
          repeat (go_big_quiet_step (exact cQ _ _))
          refine wpQuiet_nil ?_
          intro _ hw'
          obtain ⟨⟨dq, osq⟩, hw''⟩ := hw'
          subst hw''
          have bq := below_regrown wr dq osq
          go_wp2
          exact ⟨⟨k + 1, by omega, by simp, K.out.trans (bq.mono K.out.size)⟩, by simp [intOf]; omega⟩
    · have : k = n := by omega
      subst this
      have hd : decide (k < k) = false := by simp
      clear h1 h2
      go_wp2
      go_ret
      exact ⟨rfl, hbl⟩
structure ML (m : M4) : Prop where
  k : m.copies.length ≤ maxLen
  ks : ∀ r ∈ m.copies, r.cells.length ≤ maxLen
  r : m.log.length ≤ maxLen
  rs : ∀ r ∈ m.log, r.sets.length ≤ maxLen
  n : m.cleared.length ≤ maxLen
theorem eqMachine_same (w : World) (v v' : MV) (m : M4) (hl : ML m) (h1 : SlM w v m) (h2 : SlM w v' m) : Calls Tryz.prog 61 #[v.val m, v'.val m] w fun e w' => e = .returned (.bool true) ∧ Below w.heap.size w w' := by
  obtain ⟨ac, cc, al, cl, ad, cd⟩ := v
  obtain ⟨ac', cc', al', cl', ad', cd'⟩ := v'
  have H : Hid (SlM w ⟨ac, cc, al, cl, ad, cd⟩ m ∧ SlM w ⟨ac', cc', al', cl', ad', cd'⟩ m ∧ ML m) := ⟨h1, h2, hl⟩
  clear h1 h2 hl
  simp only [MV.val]
  have qa : (m.alive != m.alive) = false := by cases m.alive <;> rfl
  go_enter Tryz.func61, Tryz.ntmps61
  go_wp2_with fail
  have b0 : Below w.heap.size w ((w.alloc (.cells #[.bool m.alive, .slice ac m.copies.length cc, .slice al m.log.length cl, .slice ad m.cleared.length cd] 63)).alloc (.cells #[.bool m.alive, .slice ac' m.copies.length cc', .slice al' m.log.length cl', .slice ad' m.cleared.length cd'] 63)) := ((Below.refl _ _).alloc (Nat.le_refl _) _).alloc (by simp) _
  have B0 : Hid _ := b0
  have u2 : ((w.alloc (.cells #[.bool m.alive, .slice ac m.copies.length cc, .slice al m.log.length cl, .slice ad m.cleared.length cd] 63)).alloc (.cells #[.bool m.alive, .slice ac' m.copies.length cc', .slice al' m.log.length cl', .slice ad' m.cleared.length cd'] 63)).cell? ⟨w.heap.size, 2, none⟩ = some (.slice al m.log.length cl) := by go_simp
  have u3 : ((w.alloc (.cells #[.bool m.alive, .slice ac m.copies.length cc, .slice al m.log.length cl, .slice ad m.cleared.length cd] 63)).alloc (.cells #[.bool m.alive, .slice ac' m.copies.length cc', .slice al' m.log.length cl', .slice ad' m.cleared.length cd'] 63)).cell? ⟨w.heap.size, 3, none⟩ = some (.slice ad m.cleared.length cd) := by go_simp
  have v2 : ((w.alloc (.cells #[.bool m.alive, .slice ac m.copies.length cc, .slice al m.log.length cl, .slice ad m.cleared.length cd] 63)).alloc (.cells #[.bool m.alive, .slice ac' m.copies.length cc', .slice al' m.log.length cl', .slice ad' m.cleared.length cd'] 63)).cell? ⟨w.heap.size + 1, 2, none⟩ = some (.slice al' m.log.length cl') := by go_simp
  have v3 : ((w.alloc (.cells #[.bool m.alive, .slice ac m.copies.length cc, .slice al m.log.length cl, .slice ad m.cleared.length cd] 63)).alloc (.cells #[.bool m.alive, .slice ac' m.copies.length cc', .slice al' m.log.length cl', .slice ad' m.cleared.length cd'] 63)).cell? ⟨w.heap.size + 1, 3, none⟩ = some (.slice ad' m.cleared.length cd') := by go_simp
  have sU : w.heap.size + 1 < ((w.alloc (.cells #[.bool m.alive, .slice ac m.copies.length cc, .slice al m.log.length cl, .slice ad m.cleared.length cd] 63)).alloc (.cells #[.bool m.alive, .slice ac' m.copies.length cc', .slice al' m.log.length cl', .slice ad' m.cleared.length cd'] 63)).heap.size := by simp
  generalize ((w.alloc (.cells #[.bool m.alive, .slice ac m.copies.length cc, .slice al m.log.length cl, .slice ad m.cleared.length cd] 63)).alloc (.cells #[.bool m.alive, .slice ac' m.copies.length cc', .slice al' m.log.length cl', .slice ad' m.cleared.length cd'] 63)) = U at *
  have SU : Hid (w.heap.size + 1 < U.heap.size ∧ Below w.heap.size w U) := ⟨sU, b0⟩
  refine (eqCopyS_any U ac ac' m.copies.length cc cc' m.copies H.out.2.2.k H.out.2.2.ks (H.out.1.later b0).k (H.out.2.1.later b0).k).mono ?_
  clear b0 sU B0
  rintro e w1 ⟨rfl, b1⟩
  have l0 : w.heap.size < U.heap.size := by have := SU.out.1; omega
  have c2 := (b1.cell (p := ⟨w.heap.size, 2, none⟩) l0).trans u2
  have c3 := (b1.cell (p := ⟨w.heap.size, 3, none⟩) l0).trans u3
  have d2 := (b1.cell (p := ⟨w.heap.size + 1, 2, none⟩) SU.out.1).trans v2
  have d3 := (b1.cell (p := ⟨w.heap.size + 1, 3, none⟩) SU.out.1).trans v3
  have B1 : Hid (Below w.heap.size w w1 ∧ U.heap.size ≤ w1.heap.size) := ⟨SU.out.2.trans (b1.mono SU.out.2.size), b1.size⟩
  clear u2 u3 v2 v3 b1 l0
  go_wp2_with fail
  refine (eqRecordS_any w1 al al' m.log.length cl cl' m.log H.out.2.2.r H.out.2.2.rs (H.out.1.later B1.out.1).r (H.out.2.1.later B1.out.1).r).mono ?_
  rintro e w2 ⟨rfl, b2⟩
  have l1 : w.heap.size + 1 < w1.heap.size := by have := SU.out.1; have := B1.out.2; omega
  have x3 := (b2.cell (p := ⟨w.heap.size, 3, none⟩) (by show w.heap.size < _; omega)).trans c3
  have y3 := (b2.cell (p := ⟨w.heap.size + 1, 3, none⟩) l1).trans d3
  have B2 : Hid (Below w.heap.size w w2) := B1.out.1.trans (b2.mono B1.out.1.size)
  clear c2 c3 d2 d3 b2 l1
  go_wp2_with fail
  refine (eqInt64S_any w2 ad ad' m.cleared.length cd cd' m.cleared H.out.2.2.n (H.out.1.later B2.out).n (H.out.2.1.later B2.out).n).mono ?_
  rintro e w3 ⟨rfl, b3⟩
  go_wp2
  go_ret
  exact ⟨rfl, B2.out.trans (b3.mono B2.out.size)⟩
def szM (m : M4) : Nat := (m.copies.length + lensK m.copies) + (m.log.length + lensR m.log) + m.cleared.length
theorem szMachine_any (w : World) (v : MV) (m : M4) (hl : ML m) (hs : SlM w v m) : Calls Tryz.prog 41 #[v.val m, .int .i64 1048576] w fun e w' => e = .returned (.int .i64 (leftR 1048576 (szM m))) ∧ Below w.heap.size w w' := by
  obtain ⟨ac, cc, al, cl, ad, cd⟩ := v
  have H : Hid (SlM w ⟨ac, cc, al, cl, ad, cd⟩ m ∧ ML m) := ⟨hs, hl⟩
  clear hs hl
  simp only [MV.val]
  have HM : Hid (szM m = (m.copies.length + lensK m.copies) + (m.log.length + lensR m.log) + m.cleared.length) := rfl
  have b0 : Below w.heap.size w (w.alloc (.cells #[.bool m.alive, .slice ac m.copies.length cc, .slice al m.log.length cl, .slice ad m.cleared.length cd] 81)) := (Below.refl _ _).alloc (Nat.le_refl _) _
  have u2 : (w.alloc (.cells #[.bool m.alive, .slice ac m.copies.length cc, .slice al m.log.length cl, .slice ad m.cleared.length cd] 81)).cell? ⟨w.heap.size, 2, none⟩ = some (.slice al m.log.length cl) := by go_simp
  have u3 : (w.alloc (.cells #[.bool m.alive, .slice ac m.copies.length cc, .slice al m.log.length cl, .slice ad m.cleared.length cd] 81)).cell? ⟨w.heap.size, 3, none⟩ = some (.slice ad m.cleared.length cd) := by go_simp
  have sU : w.heap.size < (w.alloc (.cells #[.bool m.alive, .slice ac m.copies.length cc, .slice al m.log.length cl, .slice ad m.cleared.length cd] 81)).heap.size := by simp
  have hz1 : Calls Tryz.prog 76 #[.slice ac m.copies.length cc, .int .i64 1048576] (w.alloc (.cells #[.bool m.alive, .slice ac m.copies.length cc, .slice al m.log.length cl, .slice ad m.cleared.length cd] 81)) fun e w' => e = .returned (.int .i64 (leftR 1048576 (m.copies.length + lensK m.copies))) ∧ Below (w.alloc (.cells #[.bool m.alive, .slice ac m.copies.length cc, .slice al m.log.length cl, .slice ad m.cleared.length cd] 81)).heap.size (w.alloc (.cells #[.bool m.alive, .slice ac m.copies.length cc, .slice al m.log.length cl, .slice ad m.cleared.length cd] 81)) w' := szCopyS_l (w.alloc (.cells #[.bool m.alive, .slice ac m.copies.length cc, .slice al m.log.length cl, .slice ad m.cleared.length cd] 81)) ac m.copies.length cc m.copies 1048576 H.out.2.k (Nat.le_refl _) (H.out.1.later b0).k H.out.2.ks
  have hz2 := fun W l (h : Below w.heap.size w W) (hl : l ≤ 1048576) => szRecordS_l W al m.log.length cl m.log l H.out.2.r hl (H.out.1.later h).r H.out.2.rs
  have hz3 := fun W l (hl : l ≤ 1048576) => szInt64S_l W ad m.cleared.length cd l H.out.2.n hl
  obtain ⟨A, hA⟩ : ∃ A, m.copies.length + lensK m.copies = A := ⟨_, rfl⟩
  obtain ⟨Bn, hB⟩ : ∃ Bn, m.log.length + lensR m.log = Bn := ⟨_, rfl⟩
  obtain ⟨Cn, hC⟩ : ∃ Cn, m.cleared.length = Cn := ⟨_, rfl⟩
  rw [HM.out]
  simp only [hA, hB] at hz1 hz2 ⊢
  have HZ2 : Hid (∀ (W : World) (l : Nat), Below w.heap.size w W → l ≤ 1048576 → Calls Tryz.prog 77 #[.slice al m.log.length cl, .int .i64 (l : Int)] W fun e w' => e = .returned (.int .i64 (leftR l Bn)) ∧ Below W.heap.size W w') := hz2
  have HZ3 : Hid (∀ (W : World) (l : Nat), l ≤ 1048576 → Calls Tryz.prog 75 #[.slice ad m.cleared.length cd, .int .i64 (l : Int)] W fun e w' => e = .returned (.int .i64 (leftR l m.cleared.length)) ∧ w' = W) := hz3
  have SU : Hid (w.heap.size < (w.alloc (.cells #[.bool m.alive, .slice ac m.copies.length cc, .slice al m.log.length cl, .slice ad m.cleared.length cd] 81)).heap.size ∧ Below w.heap.size w (w.alloc (.cells #[.bool m.alive, .slice ac m.copies.length cc, .slice al m.log.length cl, .slice ad m.cleared.length cd] 81))) := ⟨sU, b0⟩
  clear hA hB hC hz2 hz3 sU b0 HM
  by_cases h1 : A ≤ 1048576
  · rw [leftR_yes h1] at hz1
    have g1 : decide (((1048576 - A : Nat) : Int) < 0) = false := by simp
    go_enter Tryz.func41, Tryz.ntmps41
    go_wp2_with fail
    refine hz1.mono ?_
    clear hz1
    rintro e w1 ⟨rfl, b1⟩
    have c2 := (b1.cell (p := ⟨w.heap.size, 2, none⟩) SU.out.1).trans u2
    have c3 := (b1.cell (p := ⟨w.heap.size, 3, none⟩) SU.out.1).trans u3
    have B1 : Hid (Below w.heap.size w w1 ∧ w.heap.size < w1.heap.size) := ⟨SU.out.2.trans (b1.mono SU.out.2.size), Nat.lt_of_lt_of_le SU.out.1 b1.size⟩
    clear u2 u3 b1
    go_wp2_with fail
    have hz := HZ2.out w1 (1048576 - A) B1.out.1 (by omega)
    by_cases h2 : Bn ≤ 1048576 - A
    · rw [leftR_yes h2] at hz
      have g2 : decide (((1048576 - A - Bn : Nat) : Int) < 0) = false := by simp
      refine hz.mono ?_
      clear hz
      rintro e w2 ⟨rfl, b2⟩
      have x3 := (b2.cell (p := ⟨w.heap.size, 3, none⟩) B1.out.2).trans c3
      have B2 : Hid (Below w.heap.size w w2) := B1.out.1.trans (b2.mono B1.out.1.size)
      clear c2 c3 b2
      go_wp2_with fail
      have hz := HZ3.out w2 (1048576 - A - Bn) (by omega)
      by_cases h3 : m.cleared.length ≤ 1048576 - A - Bn
      · rw [leftR_yes h3] at hz
        have g3 : decide (((1048576 - A - Bn - m.cleared.length : Nat) : Int) < 0) = false := by simp
        refine hz.mono ?_
        clear hz
        rintro e w2 ⟨rfl, rfl⟩
        go_wp2
        go_ret
        exact ⟨by rw [leftR_yes (by omega), show 1048576 - (A + Bn + m.cleared.length) = 1048576 - A - Bn - m.cleared.length by omega]; rfl, B2.out⟩
      · rw [leftR_no h3] at hz
        refine hz.mono ?_
        clear hz
        rintro e w2 ⟨rfl, rfl⟩
        go_wp2
        go_ret
        exact ⟨by rw [leftR_no (by omega)]; rfl, B2.out⟩
    · rw [leftR_no h2] at hz
      refine hz.mono ?_
      clear hz
      rintro e w2 ⟨rfl, b2⟩
      have B2 : Hid (Below w.heap.size w w2) := B1.out.1.trans (b2.mono B1.out.1.size)
      clear b2
      go_wp2
      go_ret
      exact ⟨by rw [leftR_no (by omega)]; rfl, B2.out⟩
  · rw [leftR_no h1] at hz1
    go_enter Tryz.func41, Tryz.ntmps41
    go_wp2_with fail
    refine hz1.mono ?_
    clear hz1
    rintro e w1 ⟨rfl, b1⟩
    have B1 : Hid (Below w.heap.size w w1) := SU.out.2.trans (b1.mono SU.out.2.size)
    clear b1
    go_wp2
    go_ret
    exact ⟨by rw [leftR_no (by omega)]; rfl, B1.out⟩
end Go.Proofs.YtphpcgmnljhimaaGreat
namespace Go.Proofs.YtphpcgmnljhimaaGreat
open Go.RowKit
def OwnL {α : Type} (sz : Nat) (hd : α → List Int) (ln : α → Nat) (At : World → Nat → α → Prop) (w : World) (P : Nat → Prop) (a : Option Addr) (rs : List α) : Prop :=
  rs = [] ∨ ∃ b g, a = some ⟨b, 0, none⟩ ∧ P b ∧ (∀ i, i < rs.length → P (g i)) ∧ b < w.heap.size ∧ Room w b (rs.length * sz) ∧ OwnG sz hd ln At w 0 b rs.length rs g
def OwnN (w : World) (P : Nat → Prop) (a : Option Addr) (zs : List Int) : Prop := zs = [] ∨ ∃ b, a = some ⟨b, 0, none⟩ ∧ P b ∧ b < w.heap.size ∧ NumsAt w b 0 zs ∧ Room w b zs.length
theorem OwnL.keep {α : Type} {sz : Nat} {hd : α → List Int} {ln : α → Nat} {At : World → Nat → α → Prop} (hAt : ∀ (w w' : World) (b : Nat) (r : α), w'.heap[b]? = w.heap[b]? → At w b r → At w' b r) {w w' : World} {P : Nat → Prop} {a : Option Addr} {rs : List α} (h : OwnL sz hd ln At w P a rs) (hs : w.heap.size ≤ w'.heap.size) (hk : ∀ q, q < w.heap.size → P q → w'.heap[q]? = w.heap[q]?) : OwnL sz hd ln At w' P a rs := by
  rcases h with h | ⟨b, g, ha, hp, hg, hl, hr, ho⟩
  · exact .inl h
  · exact .inr ⟨b, g, ha, hp, hg, Nat.lt_of_lt_of_le hl hs, hr.of_block (hk b hl hp), ho.of_blocks hAt hs (hk b hl hp) (fun i hi => hk _ (ho.lt i hi) (hg i hi))⟩
theorem OwnN.keep {w w' : World} {P : Nat → Prop} {a : Option Addr} {zs : List Int} (h : OwnN w P a zs) (hs : w.heap.size ≤ w'.heap.size) (hk : ∀ q, q < w.heap.size → P q → w'.heap[q]? = w.heap[q]?) : OwnN w' P a zs := by
  rcases h with h | ⟨b, ha, hp, hl, hn, hr⟩
  · exact .inl h
  · exact .inr ⟨b, ha, hp, Nat.lt_of_lt_of_le hl hs, hn.of_block (hk b hl hp), hr.of_block (hk b hl hp)⟩
structure OM (w : World) (B : Nat) (v : MV) (m : M4) (PK PR PD : Nat → Prop) : Prop where
  k : OwnL 2 hdK lnK AtK w PK v.ac m.copies
  r : OwnL 4 hdR lnR AtR w PR v.al m.log
  n : OwnN w PD v.ad m.cleared
  kr : ∀ q, PK q → ¬ PR q
  kd : ∀ q, PK q → ¬ PD q
  rd : ∀ q, PR q → ¬ PD q
  kB : ∀ q, PK q → B ≤ q
  rB : ∀ q, PR q → B ≤ q
  dB : ∀ q, PD q → B ≤ q
theorem OM.sl {w : World} {B : Nat} {v : MV} {m : M4} {PK PR PD : Nat → Prop} (h : OM w B v m PK PR PD) : SlM w v m := by
  refine ⟨?_, ?_, ?_⟩
  · rcases h.k with e | ⟨b, g, ha, _, _, hl, _, ho⟩
    · exact ⟨rfl, .inl (by rw [e]; rfl)⟩
    · rw [ha]; exact ownK_sl ho hl
  · rcases h.r with e | ⟨b, g, ha, _, _, hl, _, ho⟩
    · exact ⟨rfl, .inl (by rw [e]; rfl)⟩
    · rw [ha]; exact ownR_sl ho hl
  · rcases h.n with e | ⟨b, ha, _, hl, hn, _⟩
    · exact ⟨rfl, .inl (by rw [e]; rfl)⟩
    · exact ⟨rfl, .inr ⟨b, 0, ha, hl, hn⟩⟩
def OfM (PK PR PD : Nat → Prop) (q : Nat) : Prop := PK q ∨ PR q ∨ PD q
theorem OM.keep {w w' : World} {B : Nat} {v : MV} {m : M4} {PK PR PD : Nat → Prop} (h : OM w B v m PK PR PD) (hs : w.heap.size ≤ w'.heap.size) (hk : ∀ q, q < w.heap.size → OfM PK PR PD q → w'.heap[q]? = w.heap[q]?) : OM w' B v m PK PR PD :=
  ⟨h.k.keep AtK.of_block hs (fun q hq hp => hk q hq (.inl hp)), h.r.keep AtR.of_block hs (fun q hq hp => hk q hq (.inr (.inl hp))), h.n.keep hs (fun q hq hp => hk q hq (.inr (.inr hp))), h.kr, h.kd, h.rd, h.kB, h.rB, h.dB⟩
theorem OM.later {w w' : World} {B : Nat} {v : MV} {m : M4} {PK PR PD : Nat → Prop} (h : OM w B v m PK PR PD) (hb : Below w.heap.size w w') : OM w' B v m PK PR PD := h.keep hb.size (fun q hq _ => hb.block q hq)
theorem OwnG.base {α : Type} {sz : Nat} {hd : α → List Int} {ln : α → Nat} {At : World → Nat → α → Prop} {w : World} {base b n : Nat} {rs : List α} {g : Nat → Nat} (h : OwnG sz hd ln At w base b n rs g) : OwnG sz hd ln At w 0 b n rs g := ⟨h.len, h.head, h.tail, fun _ _ => Nat.zero_le _, h.lt, h.ne, h.sub, h.inj⟩
theorem OwnM.om {w : World} {B0 B1 B2 B3 : Nat} {v : MV} {m : M4} {gk gr : Nat → Nat} (h : OwnM w B0 B1 B2 B3 v m gk gr) : OM w B0 v m (fun q => B0 ≤ q ∧ q < B1) (fun q => B1 ≤ q ∧ q < B2) (fun q => B2 ≤ q ∧ q < B3) := by
  have h1 := h.o1; have h2 := h.o2; have h3 := h.o3; have h4 := h.sz
  obtain ⟨b, e, l1, l, o, og, rm⟩ := h.k
  obtain ⟨b', e', l1', l', o', og', rm'⟩ := h.r
  obtain ⟨b'', e'', l1'', l'', o'', rm''⟩ := h.n
  exact ⟨.inr ⟨b, gk, e, ⟨l1, l⟩, fun i hi => ⟨o.low i hi, og i hi⟩, by omega, rm, o.base⟩, .inr ⟨b', gr, e', ⟨l1', l'⟩, fun i hi => ⟨o'.low i hi, og' i hi⟩, by omega, rm', o'.base⟩, .inr ⟨b'', e'', ⟨l1'', l''⟩, by omega, o'', rm''⟩,
    fun q hq hr => by omega, fun q hq hr => by omega, fun q hq hr => by omega, fun q hq => hq.1, fun q hq => by omega, fun q hq => by omega⟩
structure MT (m : M4) : Prop where
  k : m.copies.length ≤ 1048576
  ks : ∀ c ∈ m.copies, c.cells.length ≤ 1048576
  r : m.log.length ≤ 1048576
  rs : ∀ c ∈ m.log, c.sets.length ≤ 1048576
  n : m.cleared.length ≤ 1048576
  tk : offG cK m.copies m.copies.length ≤ 100000000
  tr : offG cR m.log m.log.length ≤ 100000000
theorem off_sum {α : Type} (c l : α → Nat) (a b : Nat) (h : ∀ r, c r = a + b * l r) (rs : List α) : offG c rs rs.length = a * rs.length + b * (rs.map l).sum := by
  unfold offG
  rw [List.take_of_length_le (by simp)]
  induction rs with
  | nil => simp
  | cons r rs ih =>
    simp only [List.map_cons, List.sum_cons, List.length_cons, ih, h, Nat.mul_add, Nat.mul_one]
    omega
theorem MT.of_sz {m : M4} (h : szM m ≤ 1048576) : MT m := by
  have hk := off_sum cK (fun k => k.cells.length) 1 2 (fun _ => rfl) m.copies
  have hr := off_sum cR (fun r => r.sets.length) 3 5 (fun _ => rfl) m.log
  unfold szM lensK lensR at h
  refine ⟨by omega, fun c hc => ?_, by omega, fun c hc => ?_, by omega, by rw [hk]; omega, by rw [hr]; omega⟩
  · have : c.cells.length ≤ (m.copies.map fun k => k.cells.length).sum := sum_mem (List.mem_map.2 ⟨c, hc, rfl⟩)
    omega
  · have : c.sets.length ≤ (m.log.map fun k => k.sets.length).sum := sum_mem (List.mem_map.2 ⟨c, hc, rfl⟩)
    omega
def endK (m : M4) (k : Int) : Int := k + offG cK m.copies m.copies.length
def endR (m : M4) (k : Int) : Int := endK m k + offG cR m.log m.log.length
def endM (m : M4) (k : Int) : Int := endR m k + m.cleared.length
def mkM (m : M4) (k : Int) : M4 := ⟨m.alive, mkKs m.copies k, mkRs m.log (endK m k), marks m.cleared.length (endR m k)⟩
def cellsG {α : Type} (hd : α → List Int) (ln : α → Nat) (r : α) (q cap : Nat) : List Value := (hd r).map (Value.int .i64) ++ [.slice (some ⟨q, 0, none⟩) (ln r) cap]
def flatG {α : Type} (hd : α → List Int) (ln : α → Nat) (rs : List α) (g caps : Nat → Nat) : List Value := rs.zipIdx.flatMap fun p => cellsG hd ln p.1 (g p.2) (caps p.2)
theorem flat_at {β : Type} {f : β → List Value} {sz : Nat} : ∀ {l : List β} (_ : ∀ x ∈ l, (f x).length = sz) {i t : Nat} {x : β}, l[i]? = some x → t < sz → (l.flatMap f)[i * sz + t]? = (f x)[t]?
  | [], _, i, t, x, h, _ => by simp at h
  | y :: l, hf, 0, t, x, h, ht => by
    simp at h
    subst h
    rw [List.flatMap_cons, List.getElem?_append_left (by rw [hf y (by simp)]; omega)]
    simp
  | y :: l, hf, i + 1, t, x, h, ht => by
    have hl := hf y (by simp)
    rw [List.flatMap_cons, List.getElem?_append_right (by rw [hl, Nat.add_mul]; omega), hl, show (i + 1) * sz + t - sz = i * sz + t by rw [Nat.add_mul]; omega]
    exact flat_at (fun x hx => hf x (by simp [hx])) (by simpa using h) ht
theorem flatG_at {α : Type} {hd : α → List Int} {ln : α → Nat} {sz : Nat} (hh : ∀ r, (hd r).length + 1 = sz) {rs : List α} {g caps : Nat → Nat} {i t : Nat} {r : α} (h : rs[i]? = some r) (ht : t < sz) : (flatG hd ln rs g caps)[i * sz + t]? = (cellsG hd ln r (g i) (caps i))[t]? := by
  have h' : rs.zipIdx[i]? = some (r, i) := by simp [h]
  exact flat_at (f := fun p : α × Nat => cellsG hd ln p.1 (g p.2) (caps p.2)) (fun x _ => by simp [cellsG, hh]) h' ht
theorem flat_cong {β : Type} {f f' : β → List Value} : ∀ {l : List β}, (∀ x ∈ l, f x = f' x) → l.flatMap f = l.flatMap f'
  | [], _ => rfl
  | y :: l, h => by rw [List.flatMap_cons, List.flatMap_cons, h y (by simp), flat_cong (fun x hx => h x (by simp [hx]))]
theorem flatG_snoc {α : Type} {hd : α → List Int} {ln : α → Nat} (rs : List α) (r : α) (g caps : Nat → Nat) (q cap : Nat) : flatG hd ln (rs ++ [r]) (fun i => if i = rs.length then q else g i) (fun i => if i = rs.length then cap else caps i) = flatG hd ln rs g caps ++ cellsG hd ln r q cap := by
  unfold flatG
  rw [List.zipIdx_append, List.flatMap_append]
  congr 1
  · have : ∀ p ∈ rs.zipIdx, p.2 < rs.length := fun p hp => by
      have := List.snd_lt_of_mem_zipIdx hp
      omega
    refine flat_cong fun p hp => ?_
    have := this p hp
    simp only [if_neg (show p.2 ≠ rs.length by omega)]
  · simp
structure GrowG {α : Type} (T : TypeId) (sz : Nat) (hd : α → List Int) (ln : α → Nat) (At : World → Nat → α → Prop) (w : World) (base : Nat) (v : Value) (rs : List α) (g : Nat → Nat) : Prop where
  row : ∃ caps : Nat → Nat, w.ownsRow base T sz v rs.length (flatG hd ln rs g caps) ∧ ∀ i r, rs[i]? = some r → ln r ≤ caps i
  low : ∀ i, i < rs.length → base ≤ g i
  lt : ∀ i, i < rs.length → g i < w.heap.size
  ne : ∀ i, i < rs.length → v.ownBlock ≠ some (g i)
  sub : ∀ i r, rs[i]? = some r → At w (g i) r
  inj : ∀ i j, i < rs.length → j < rs.length → g i = g j → i = j
theorem GrowG.nil {α : Type} {T : TypeId} {sz : Nat} {hd : α → List Int} {ln : α → Nat} {At : World → Nat → α → Prop} (w : World) (base : Nat) (g : Nat → Nat) : GrowG T sz hd ln At w base (.slice none 0 0) [] g :=
  ⟨⟨fun _ => 0, ⟨by simp [flatG], .inl ⟨rfl, rfl⟩⟩, fun i r e => by simp at e⟩, fun i h => by simp at h, fun i h => by simp at h, fun i h => by simp at h, fun i r e => by simp at e, fun i j h => by simp at h⟩
theorem GrowG.lies {α : Type} {T : TypeId} {sz : Nat} {hd : α → List Int} {ln : α → Nat} {At : World → Nat → α → Prop} {w : World} {base : Nat} {v : Value} {rs : List α} {g : Nat → Nat} (h : GrowG T sz hd ln At w base v rs g) {q : Nat} (e : v.ownBlock = some q) : base ≤ q ∧ q < w.heap.size := by
  obtain ⟨caps, ho, _⟩ := h.row
  exact World.ownsRow.lt ho q e
theorem GrowG.keep {α : Type} {T : TypeId} {sz : Nat} {hd : α → List Int} {ln : α → Nat} {At : World → Nat → α → Prop} (hAt : ∀ (w w' : World) (b : Nat) (r : α), w'.heap[b]? = w.heap[b]? → At w b r → At w' b r) {w w' : World} {base : Nat} {v : Value} {rs : List α} {g : Nat → Nat} (h : GrowG T sz hd ln At w base v rs g) (hsz : w.heap.size ≤ w'.heap.size) (hs : ∀ q, q < w.heap.size → (v.ownBlock = some q ∨ ∃ i, i < rs.length ∧ g i = q) → w'.heap[q]? = w.heap[q]?) : GrowG T sz hd ln At w' base v rs g := by
  obtain ⟨caps, ho, hc⟩ := h.row
  refine ⟨⟨caps, ⟨ho.1, ho.2.imp id ?_⟩, hc⟩, h.low, fun i hi => Nat.lt_of_lt_of_le (h.lt i hi) hsz, h.ne, fun i r e => ?_, h.inj⟩
  · rintro ⟨q, cap, cur, rfl, l, hg, r⟩
    exact ⟨q, cap, cur, rfl, l, (hs q (World.ownsRow.lt ho q rfl).2 (.inl rfl)).trans hg, r⟩
  · have hi := (List.getElem?_eq_some_iff.1 e).1
    exact hAt _ _ _ _ (hs _ (h.lt i hi) (.inr ⟨i, hi, rfl⟩)) (h.sub i r e)
theorem GrowG.later {α : Type} {T : TypeId} {sz : Nat} {hd : α → List Int} {ln : α → Nat} {At : World → Nat → α → Prop} (hAt : ∀ (w w' : World) (b : Nat) (r : α), w'.heap[b]? = w.heap[b]? → At w b r → At w' b r) {w w' : World} {base : Nat} {v : Value} {rs : List α} {g : Nat → Nat} (h : GrowG T sz hd ln At w base v rs g) (hb : Below w.heap.size w w') : GrowG T sz hd ln At w' base v rs g := h.keep hAt hb.size (fun q hq _ => hb.block q hq)
theorem GrowG.own {α : Type} {T : TypeId} {sz : Nat} {hd : α → List Int} {ln : α → Nat} {At : World → Nat → α → Prop} (hh : ∀ r, (hd r).length + 1 = sz) {w : World} {base : Nat} {v : Value} {rs : List α} {g : Nat → Nat} (h : GrowG T sz hd ln At w base v rs g) (hne : rs ≠ []) :
    ∃ b cap, v = .slice (some ⟨b, 0, none⟩) rs.length cap ∧ base ≤ b ∧ b < w.heap.size ∧ rs.length ≤ cap ∧ Room w b (rs.length * sz) ∧ OwnG sz hd ln At w base b rs.length rs g := by
  obtain ⟨caps, ho, hc⟩ := h.row
  have hpos : 0 < rs.length := List.length_pos_iff.2 hne
  have hcap : ∃ b cap, v = .slice (some ⟨b, 0, none⟩) rs.length cap ∧ rs.length ≤ cap := by
    rcases ho.2 with ⟨_, h0⟩ | ⟨b, cap, cur, rfl, _, _, hl, _⟩
    · omega
    · exact ⟨b, cap, rfl, hl⟩
  obtain ⟨b, cap, rfl, hl⟩ := hcap
  have hb := World.ownsRow.lt ho b rfl
  have hlen : ∀ i r, rs[i]? = some r → i < rs.length := fun i r e => (List.getElem?_eq_some_iff.1 e).1
  have hat : ∀ i r t, rs[i]? = some r → t < sz → w.cell? ⟨b, i * sz + t, none⟩ = (cellsG hd ln r (g i) (caps i))[t]? := fun i r t e ht => by
    have : (i + 1) * sz ≤ rs.length * sz := Nat.mul_le_mul_right sz (hlen i r e)
    rw [Nat.add_mul] at this
    rw [World.ownsRow.cellAt ho _ (by omega)]
    exact flatG_at hh e ht
  refine ⟨b, cap, rfl, hb.1, hb.2, hl, fun j hj => ?_, ⟨rfl, fun i r e t z ht => ?_, fun i r e => ?_, h.low, h.lt, fun i hi e => h.ne i hi (by rw [e]; rfl), h.sub, h.inj⟩⟩
  · have hx : j < (flatG hd ln rs g caps).length := by rw [ho.1]; exact hj
    exact ⟨_, by rw [World.ownsRow.cellAt ho j hj]; exact List.getElem?_eq_getElem hx, World.ownsRow.frozenAt ho j⟩
  · have htl := (List.getElem?_eq_some_iff.1 ht).1
    have := hh r
    rw [hat i r t e (by omega), cellsG, List.getElem?_append_left (by simpa using htl), List.getElem?_map, ht]; rfl
  · have := hh r
    refine ⟨caps i, ?_, hc i r e⟩
    rw [hat i r (sz - 1) e (by omega), cellsG, List.getElem?_append_right (by simp; omega)]
    simp [show sz - 1 - (hd r).length = 0 by omega]
theorem GrowG.push {α : Type} {T ST : TypeId} {sz by_ : Nat} {hd : α → List Int} {ln : α → Nat} {At : World → Nat → α → Prop} (hAt : ∀ (w w' : World) (b : Nat) (r : α), w'.heap[b]? = w.heap[b]? → At w b r → At w' b r) (hh : ∀ r, (hd r).length + 1 = sz) {P : Program} {i0 : TypeInfo} {z : Value} (ht : P.underlying ST = some (.slice T)) (hi : P.info? T = some i0) (hz : i0.zero = some z) (hs : i0.size = sz) (hby : i0.bytes = by_) (hzs : z.cells.size = sz) (hbb : by_ ≤ 1000)
    {W : World} {base e : Nat} {v : Value} {rs : List α} {g : Nat → Nat} (h : GrowG T sz hd ln At W base v rs g) (r : α) (q cap : Nat) (hm : rs.length ≤ 100000) (ty : TypeId)
    (he : ∀ j u, (cellsG hd ln r q cap)[j]? = some u → W.cell? ⟨e, j, none⟩ = some u) (hat : At W q r) (hc : ln r ≤ cap) (hq : base ≤ q) (hql : q < W.heap.size) (hn : v.ownBlock ≠ some q) (hf : ∀ i, i < rs.length → g i ≠ q) (hbase : base ≤ W.heap.size) :
    ∃ v' W', (Builtin.append_ #[ST, ST] ty #[v, .slice (some ⟨e, 0, none⟩) 1 1]).run P W = .ok v' W' ∧ GrowG T sz hd ln At W' base v' (rs ++ [r]) (fun i => if i = rs.length then q else g i) ∧ W.grownBy W' v.ownBlock ∧ (v'.ownBlock = v.ownBlock ∨ v'.ownBlock = some W.heap.size) := by
  obtain ⟨caps, ho, hcs⟩ := h.row
  have hadd : ∀ (b o j : Nat), (⟨b, o, none⟩ : Addr).add j = ⟨b, o + j, none⟩ := fun b o j => by unfold Addr.add; split <;> simp_all
  obtain ⟨v', W', hrun, hown, hg, hnil, hlies⟩ := run_append_own_at (P := P) W base ST ty T i0 z sz by_ ht hi hz hs hby hzs (by have := hh r; omega)
    v rs.length _ ho ⟨e, 0, none⟩ 1 1 (cellsG hd ln r q cap) (by simp [cellsG, hh]) (fun j u hu => by rw [hadd, Nat.zero_add]; exact he j u hu)
    (fun u hu => by
      simp only [cellsG, List.mem_append, List.mem_map, List.mem_singleton] at hu
      rcases hu with ⟨x, _, rfl⟩ | rfl <;> rfl) (by unfold maxLen; omega) (by
      have : (rs.length + 1) * by_ ≤ 100001 * 1000 := Nat.mul_le_mul (by omega) hbb
      omega) hbase
  have far : ∀ x, x < W.heap.size → v.ownBlock ≠ some x → W'.heap[x]? = W.heap[x]? := fun x hx hne => hg.block x hx (fun e' => hne e'.symm)
  have nev : ∀ x, x < W.heap.size → v.ownBlock ≠ some x → v'.ownBlock ≠ some x := fun x hx hne => by
    rcases hlies with e' | e'
    · rw [e']; exact hne
    · rw [e']; intro e''; cases e''; omega
  have split : ∀ i y, (rs ++ [r])[i]? = some y → (i < rs.length ∧ rs[i]? = some y) ∨ (i = rs.length ∧ y = r) := fun i y e => by
    by_cases hi : i < rs.length
    · rw [List.getElem?_append_left hi] at e
      exact .inl ⟨hi, e⟩
    · rw [List.getElem?_append_right (by omega)] at e
      have h0 : i - rs.length = 0 := by
        rcases Nat.eq_zero_or_pos (i - rs.length) with h | h
        · exact h
        · rw [List.getElem?_eq_none (by simp; omega)] at e; cases e
      rw [h0] at e
      simp at e
      exact .inr ⟨by omega, e.symm⟩
  have hlen : (rs ++ [r]).length = rs.length + 1 := by simp
  refine ⟨v', W', hrun, ⟨⟨fun i => if i = rs.length then cap else caps i, by rw [flatG_snoc, hlen]; exact hown, fun i y e' => ?_⟩, fun i hi' => ?_, fun i hi' => ?_, fun i hi' => ?_, fun i y e' => ?_, fun i j hi' hj' ee => ?_⟩, hg, hlies⟩
  · rcases split i y e' with ⟨hi', e'⟩ | ⟨rfl, rfl⟩
    · show ln y ≤ if i = rs.length then cap else caps i
      rw [if_neg (by omega)]; exact hcs i y e'
    · show ln y ≤ if rs.length = rs.length then cap else caps rs.length
      rw [if_pos rfl]; exact hc
  · by_cases e' : i = rs.length
    · rw [if_pos e']; exact hq
    · rw [if_neg e']; exact h.low i (by omega)
  · by_cases e' : i = rs.length
    · rw [if_pos e']; exact Nat.lt_of_lt_of_le hql hg.size
    · rw [if_neg e']; exact Nat.lt_of_lt_of_le (h.lt i (by omega)) hg.size
  · by_cases e' : i = rs.length
    · rw [if_pos e']; exact nev q hql hn
    · rw [if_neg e']; exact nev _ (h.lt i (by omega)) (h.ne i (by omega))
  · rcases split i y e' with ⟨hi', e'⟩ | ⟨rfl, rfl⟩
    · rw [if_neg (by omega)]; exact hAt _ _ _ _ (far _ (h.lt i hi') (h.ne i hi')) (h.sub i y e')
    · rw [if_pos rfl]; exact hAt _ _ _ _ (far _ hql hn) hat
  · by_cases ei : i = rs.length <;> by_cases ek : j = rs.length
    · omega
    · simp only [if_pos ei, if_neg ek] at ee; exact absurd ee.symm (hf j (by omega))
    · simp only [if_neg ei, if_pos ek] at ee; exact absurd ee (hf i (by omega))
    · simp only [if_neg ei, if_neg ek] at ee; exact h.inj i j (by omega) (by omega) ee
end Go.Proofs.YtphpcgmnljhimaaGreat