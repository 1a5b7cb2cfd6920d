/- MacTo4; MkA; MkB; MkC; MacSz; Eqs; MacEq; MkD; ToM; KdM0; MacSl; KdMk; KdMS: joined. -/
import Derived.Test.YtdmpobegobfpjaaGreatRows
import Derived.Test.YtdmpobegobfpjaaGreatJ2ExactFinal
import Derived.WalkKit
import Derived.WalkSpells
import Derived.WalkLawsBesides
import Derived.Below
import Derived.Test.YtdmpobegobfpjaaGreatJ1ExactFinal
import Derived.Lib.QuietBelow
import Derived.BigQuiet
import Derived.Deep.QuietTactic
import Derived.Test.YtdmpobegobfpjaaGreatJ0ExactFinal
namespace Go.Proofs.YtdmpobegobfpjaaGreat
open Go.RowKit
structure OwnM (w : World) (B0 B1 B2 B3 : Nat) (v : MV) (m : M4) (gk gr : Nat → Nat) : Prop where
  k : ∃ b, v.ac = some ⟨b, 0, none⟩ ∧ B0 ≤ b ∧ b < B1 ∧ OwnG 2 hdK lnK AtK w B0 b m.copies.length m.copies gk ∧ (∀ i, i < m.copies.length → gk i < B1) ∧ Room w b (m.copies.length * 2)
  r : ∃ b, v.al = some ⟨b, 0, none⟩ ∧ B1 ≤ b ∧ b < B2 ∧ OwnG 4 hdR lnR AtR w B1 b m.log.length m.log gr ∧ (∀ i, i < m.log.length → gr i < B2) ∧ Room w b (m.log.length * 4)
  n : ∃ b, v.ad = some ⟨b, 0, none⟩ ∧ B2 ≤ b ∧ b < B3 ∧ NumsAt w b 0 m.cleared ∧ Room w b m.cleared.length
  o1 : B0 ≤ B1
  o2 : B1 ≤ B2
  o3 : B2 ≤ B3
  sz : B3 ≤ w.heap.size
theorem OwnM.sl {w : World} {B0 B1 B2 B3 : Nat} {v : MV} {m : M4} {gk gr : Nat → Nat} (h : OwnM w B0 B1 B2 B3 v m gk gr) : SlM w v m := by
  have h1 := h.o1; have h2 := h.o2; have h3 := h.o3; have h4 := h.sz
  obtain ⟨b, e, _, l, o, _, _⟩ := h.k
  obtain ⟨b', e', _, l', o', _, _⟩ := h.r
  obtain ⟨b'', e'', _, l'', o'', _⟩ := h.n
  exact ⟨by rw [e]; exact ownK_sl o (by omega), by rw [e']; exact ownR_sl o' (by omega), by rw [e'']; exact ⟨rfl, .inr ⟨b'', 0, rfl, by omega, o''⟩⟩⟩
theorem OwnM.kept {w w' : World} {B0 B1 B2 B3 : Nat} {v : MV} {m : M4} {gk gr : Nat → Nat} (h : OwnM w B0 B1 B2 B3 v m gk gr) (hs : w.heap.size ≤ w'.heap.size) (hk : ∀ q, B0 ≤ q → q < B3 → w'.heap[q]? = w.heap[q]?) : OwnM w' B0 B1 B2 B3 v m gk gr := by
  have h1 := h.o1; have h2 := h.o2; have h3 := h.o3; have h4 := h.sz
  obtain ⟨b, e, l1, l, o, og, rm⟩ := h.k
  obtain ⟨b', e', l1', l', o', og', rm'⟩ := h.r
  obtain ⟨b'', e'', l1'', l'', o'', rm''⟩ := h.n
  have hb := hk b (by omega) (by omega)
  have hb' := hk b' (by omega) (by omega)
  have hb'' := hk b'' (by omega) (by omega)
  exact ⟨⟨b, e, l1, l, o.of_blocks AtK.of_block hs hb (fun i hi => hk _ (o.low i hi) (by have := og i hi; omega)), og, rm.of_block hb⟩,
    ⟨b', e', l1', l', o'.of_blocks AtR.of_block hs hb' (fun i hi => hk _ (by have := o'.low i hi; omega) (by have := og' i hi; omega)), og', rm'.of_block hb'⟩,
    ⟨b'', e'', l1'', l'', o''.of_block hb'', rm''.of_block hb''⟩, h1, h2, h3, by omega⟩
structure TP (s : Nat) (alive : Bool) (al ad : Value) (X : World) (s1 s2 s3 : Value) : Prop where
  a2 : X.cell? ⟨s, 2, none⟩ = some al
  a3 : X.cell? ⟨s, 3, none⟩ = some ad
  o0 : X.cell? ⟨s + 1 + 1, 0, none⟩ = some (.bool alive)
  o1 : X.cell? ⟨s + 1 + 1, 1, none⟩ = some s1
  o2 : X.cell? ⟨s + 1 + 1, 2, none⟩ = some s2
  o3 : X.cell? ⟨s + 1 + 1, 3, none⟩ = some s3
  fo : ∀ j, X.frozen? ⟨s + 1 + 1, j, none⟩ = false
  r0 : X.cell? ⟨s + 1, 0, none⟩ = some (.bool false)
  r1 : X.cell? ⟨s + 1, 1, none⟩ = some (.slice none 0 0)
  r2 : X.cell? ⟨s + 1, 2, none⟩ = some (.slice none 0 0)
  r3 : X.cell? ⟨s + 1, 3, none⟩ = some (.slice none 0 0)
  fr : ∀ j, X.frozen? ⟨s + 1, j, none⟩ = false
  lt : s + 2 < X.heap.size
theorem TP.below {s : Nat} {alive : Bool} {al ad : Value} {X Y : World} {s1 s2 s3 : Value} (h : TP s alive al ad X s1 s2 s3) (hb : Below X.heap.size X Y) : TP s alive al ad Y s1 s2 s3 := by
  have l := h.lt
  have ea := hb.block s (by omega)
  have er := hb.block (s + 1) (by omega)
  have eo := hb.block (s + 1 + 1) (by omega)
  have c : ∀ {b j : Nat} {u : Value}, Y.heap[b]? = X.heap[b]? → X.cell? ⟨b, j, none⟩ = some u → Y.cell? ⟨b, j, none⟩ = some u := fun {b j u} e h => (World.cell?_of_block (a := ⟨b, j, none⟩) e).trans h
  exact ⟨c ea h.a2, c ea h.a3, c eo h.o0, c eo h.o1, c eo h.o2, c eo h.o3, fun j => (World.frozen?_of_block (a := ⟨s + 1 + 1, j, none⟩) eo).trans (h.fo j), c er h.r0, c er h.r1, c er h.r2, c er h.r3, fun j => (World.frozen?_of_block (a := ⟨s + 1, j, none⟩) er).trans (h.fr j), Nat.lt_of_lt_of_le l hb.size⟩
theorem TP.set1 {s : Nat} {alive : Bool} {al ad : Value} {X : World} {s1 s2 s3 : Value} (h : TP s alive al ad X s1 s2 s3) (v : Value) : TP s alive al ad (X.setCell ⟨s + 1 + 1, 1, none⟩ v) v s2 s3 :=
  ⟨(cell_set_far (by show s + 1 + 1 ≠ s; omega) v).trans h.a2, (cell_set_far (by show s + 1 + 1 ≠ s; omega) v).trans h.a3, (cell_set_other (by omega)).trans h.o0, cell_set_same h.o1, (cell_set_other (by omega)).trans h.o2, (cell_set_other (by omega)).trans h.o3, fun j => by rw [World.frozen?_setCell]; exact h.fo j, (cell_set_far (by simp) v).trans h.r0, (cell_set_far (by simp) v).trans h.r1, (cell_set_far (by simp) v).trans h.r2, (cell_set_far (by simp) v).trans h.r3, fun j => by rw [World.frozen?_setCell]; exact h.fr j, by simpa [World.setCell] using h.lt⟩
theorem TP.set2 {s : Nat} {alive : Bool} {al ad : Value} {X : World} {s1 s2 s3 : Value} (h : TP s alive al ad X s1 s2 s3) (v : Value) : TP s alive al ad (X.setCell ⟨s + 1 + 1, 2, none⟩ v) s1 v s3 :=
  ⟨(cell_set_far (by show s + 1 + 1 ≠ s; omega) v).trans h.a2, (cell_set_far (by show s + 1 + 1 ≠ s; omega) v).trans h.a3, (cell_set_other (by omega)).trans h.o0, (cell_set_other (by omega)).trans h.o1, cell_set_same h.o2, (cell_set_other (by omega)).trans h.o3, fun j => by rw [World.frozen?_setCell]; exact h.fo j, (cell_set_far (by simp) v).trans h.r0, (cell_set_far (by simp) v).trans h.r1, (cell_set_far (by simp) v).trans h.r2, (cell_set_far (by simp) v).trans h.r3, fun j => by rw [World.frozen?_setCell]; exact h.fr j, by simpa [World.setCell] using h.lt⟩
theorem TP.set3 {s : Nat} {alive : Bool} {al ad : Value} {X : World} {s1 s2 s3 : Value} (h : TP s alive al ad X s1 s2 s3) (v : Value) : TP s alive al ad (X.setCell ⟨s + 1 + 1, 3, none⟩ v) s1 s2 v :=
  ⟨(cell_set_far (by show s + 1 + 1 ≠ s; omega) v).trans h.a2, (cell_set_far (by show s + 1 + 1 ≠ s; omega) v).trans h.a3, (cell_set_other (by omega)).trans h.o0, (cell_set_other (by omega)).trans h.o1, (cell_set_other (by omega)).trans h.o2, cell_set_same h.o3, fun j => by rw [World.frozen?_setCell]; exact h.fo j, (cell_set_far (by simp) v).trans h.r0, (cell_set_far (by simp) v).trans h.r1, (cell_set_far (by simp) v).trans h.r2, (cell_set_far (by simp) v).trans h.r3, fun j => by rw [World.frozen?_setCell]; exact h.fr j, by simpa [World.setCell] using h.lt⟩
set_option maxHeartbeats 4000000 in
theorem toMachine_any (w : World) (v : MV) (m : M4) (hk : m.copies.length ≤ 1048576) (hks : ∀ r ∈ m.copies, r.cells.length ≤ 1048576) (hr : m.log.length ≤ 1048576) (hrs : ∀ r ∈ m.log, r.sets.length ≤ 1048576) (hn : m.cleared.length ≤ 1048576) (hs : SlM w v m) : Calls Tryz.prog 60 #[v.val m] w fun e w' =>
    ∃ u B1 B2 B3 gk gr, e = .returned (u.val m) ∧ OwnM w' (w.heap.size + 3) B1 B2 B3 u m gk gr ∧ Below w.heap.size w w' := by
  obtain ⟨ac, cc, al, cl, ad, cd⟩ := v
  have H : Hid (SlM w ⟨ac, cc, al, cl, ad, cd⟩ m ∧ (∀ r ∈ m.copies, r.cells.length ≤ 1048576) ∧ (∀ r ∈ m.log, r.sets.length ≤ 1048576)) := ⟨hs, hks, hrs⟩
  clear hs hks hrs
  simp only [MV.val]
  have tp : TP w.heap.size m.alive (.slice al m.log.length cl) (.slice ad m.cleared.length cd) (((w.alloc (.cells #[.bool m.alive, .slice ac m.copies.length cc, .slice al m.log.length cl, .slice ad m.cleared.length cd] 92)).alloc (.cells #[.bool false, .slice none 0 0, .slice none 0 0, .slice none 0 0] 83)).alloc (.cells #[.bool m.alive, .slice none 0 0, .slice none 0 0, .slice none 0 0] 83)) (.slice none 0 0) (.slice none 0 0) (.slice none 0 0) := by
    refine ⟨?_, ?_, ?_, ?_, ?_, ?_, ?_, ?_, ?_, ?_, ?_, ?_, ?_⟩
    all_goals first | (intro j; go_simp; done) | (go_simp; done) | (simp; done)
  have bW : Below w.heap.size w (((w.alloc (.cells #[.bool m.alive, .slice ac m.copies.length cc, .slice al m.log.length cl, .slice ad m.cleared.length cd] 92)).alloc (.cells #[.bool false, .slice none 0 0, .slice none 0 0, .slice none 0 0] 83)).alloc (.cells #[.bool m.alive, .slice none 0 0, .slice none 0 0, .slice none 0 0] 83)) := (((Below.refl _ _).alloc (Nat.le_refl _) _).alloc (by simp) _).alloc (by simp; omega) _
  have hsz : (((w.alloc (.cells #[.bool m.alive, .slice ac m.copies.length cc, .slice al m.log.length cl, .slice ad m.cleared.length cd] 92)).alloc (.cells #[.bool false, .slice none 0 0, .slice none 0 0, .slice none 0 0] 83)).alloc (.cells #[.bool m.alive, .slice none 0 0, .slice none 0 0, .slice none 0 0] 83)).heap.size = w.heap.size + 3 := by simp
  have TW : Hid (TP w.heap.size m.alive (.slice al m.log.length cl) (.slice ad m.cleared.length cd) (((w.alloc (.cells #[.bool m.alive, .slice ac m.copies.length cc, .slice al m.log.length cl, .slice ad m.cleared.length cd] 92)).alloc (.cells #[.bool false, .slice none 0 0, .slice none 0 0, .slice none 0 0] 83)).alloc (.cells #[.bool m.alive, .slice none 0 0, .slice none 0 0, .slice none 0 0] 83)) (.slice none 0 0) (.slice none 0 0) (.slice none 0 0) ∧ Below w.heap.size w (((w.alloc (.cells #[.bool m.alive, .slice ac m.copies.length cc, .slice al m.log.length cl, .slice ad m.cleared.length cd] 92)).alloc (.cells #[.bool false, .slice none 0 0, .slice none 0 0, .slice none 0 0] 83)).alloc (.cells #[.bool m.alive, .slice none 0 0, .slice none 0 0, .slice none 0 0] 83)) ∧ (((w.alloc (.cells #[.bool m.alive, .slice ac m.copies.length cc, .slice al m.log.length cl, .slice ad m.cleared.length cd] 92)).alloc (.cells #[.bool false, .slice none 0 0, .slice none 0 0, .slice none 0 0] 83)).alloc (.cells #[.bool m.alive, .slice none 0 0, .slice none 0 0, .slice none 0 0] 83)).heap.size = w.heap.size + 3) := ⟨tp, bW, hsz⟩
  clear tp bW hsz
  go_enter Tryz.func60, Tryz.ntmps60
  go_wp2_with fail
  generalize ((w.alloc (.cells #[.bool m.alive, .slice ac m.copies.length cc, .slice al m.log.length cl, .slice ad m.cleared.length cd] 92)).alloc (.cells #[.bool false, .slice none 0 0, .slice none 0 0, .slice none 0 0] 83)).alloc (.cells #[.bool m.alive, .slice none 0 0, .slice none 0 0, .slice none 0 0] 83) = W at *
  refine (toCopyS_any W ac m.copies.length cc m.copies hk H.out.2.1 (H.out.1.later TW.out.2.1).k).mono ?_
  rintro e w1 ⟨gk, rfl, b1, l1, o1, rm1⟩
  have t1 := TW.out.1.below b1
  have B1 : Hid (Below w.heap.size w w1 ∧ W.heap.size < w1.heap.size ∧ OwnG 2 hdK lnK AtK w1 W.heap.size W.heap.size m.copies.length m.copies gk ∧ Room w1 W.heap.size (m.copies.length * 2)) := ⟨TW.out.2.1.trans (b1.mono TW.out.2.1.size), l1, o1, rm1⟩
  clear b1 l1 o1 rm1
  have T1 : Hid (TP w.heap.size m.alive (.slice al m.log.length cl) (.slice ad m.cleared.length cd) (w1.setCell ⟨w.heap.size + 1 + 1, 1, none⟩ (.slice (some ⟨W.heap.size, 0, none⟩) m.copies.length m.copies.length)) (.slice (some ⟨W.heap.size, 0, none⟩) m.copies.length m.copies.length) (.slice none 0 0) (.slice none 0 0)) := t1.set1 _
  have a2 := t1.a2
  have p1 := t1.o1
  have f1 := t1.fo 1
  clear t1
  have far : ∀ (V : World) (x o : Nat) (u : Value), x ≠ w.heap.size + 1 + 1 → (V.setCell ⟨w.heap.size + 1 + 1, o, none⟩ u).heap[x]? = V.heap[x]? := fun V x o u h => Below.heap_setCell _ _ _ _ (fun e => h e)
  have ssz : ∀ (V : World) (p : Addr) (u : Value), (V.setCell p u).heap.size = V.heap.size := fun V p u => by simp [World.setCell]
  have FAR : Hid (∀ (V : World) (x o : Nat) (u : Value), x ≠ w.heap.size + 1 + 1 → (V.setCell ⟨w.heap.size + 1 + 1, o, none⟩ u).heap[x]? = V.heap[x]?) := far
  have SSZ : Hid (∀ (V : World) (p : Addr) (u : Value), (V.setCell p u).heap.size = V.heap.size) := ssz
  clear far ssz
  go_wp2_with fail
  have hW := TW.out.2.2
  have K1 : Hid (Below w.heap.size w (w1.setCell ⟨w.heap.size + 1 + 1, 1, none⟩ (.slice (some ⟨W.heap.size, 0, none⟩) m.copies.length m.copies.length)) ∧ W.heap.size < (w1.setCell ⟨w.heap.size + 1 + 1, 1, none⟩ (.slice (some ⟨W.heap.size, 0, none⟩) m.copies.length m.copies.length)).heap.size ∧ OwnG 2 hdK lnK AtK (w1.setCell ⟨w.heap.size + 1 + 1, 1, none⟩ (.slice (some ⟨W.heap.size, 0, none⟩) m.copies.length m.copies.length)) W.heap.size W.heap.size m.copies.length m.copies gk ∧ Room (w1.setCell ⟨w.heap.size + 1 + 1, 1, none⟩ (.slice (some ⟨W.heap.size, 0, none⟩) m.copies.length m.copies.length)) W.heap.size (m.copies.length * 2)) :=
    ⟨B1.out.1.setCell (p := ⟨w.heap.size + 1 + 1, 1, none⟩) (by show w.heap.size ≤ w.heap.size + 1 + 1; omega) _, by rw [SSZ.out]; exact B1.out.2.1, B1.out.2.2.1.of_blocks AtK.of_block (by rw [SSZ.out]; exact Nat.le_refl _) (FAR.out _ _ _ _ (by omega)) (fun i hi => FAR.out _ _ _ _ (by have := B1.out.2.2.1.low i hi; omega)), B1.out.2.2.2.of_block (FAR.out _ _ _ _ (by omega))⟩
  clear hW B1 a2 p1 f1
  generalize w1.setCell ⟨w.heap.size + 1 + 1, 1, none⟩ (.slice (some ⟨W.heap.size, 0, none⟩) m.copies.length m.copies.length) = X1 at *
  refine (toRecordS_any X1 al m.log.length cl m.log hr H.out.2.2 (H.out.1.later K1.out.1).r).mono ?_
  rintro e w2 ⟨gr, rfl, b2, l2, o2, rm2⟩
  have t2 := T1.out.below b2
  have B2 : Hid (Below w.heap.size w w2 ∧ X1.heap.size < w2.heap.size ∧ OwnG 4 hdR lnR AtR w2 X1.heap.size X1.heap.size m.log.length m.log gr ∧ Room w2 X1.heap.size (m.log.length * 4) ∧ OwnG 2 hdK lnK AtK w2 W.heap.size W.heap.size m.copies.length m.copies gk ∧ Room w2 W.heap.size (m.copies.length * 2) ∧ W.heap.size < X1.heap.size ∧ (∀ i, i < m.copies.length → gk i < X1.heap.size)) :=
    ⟨K1.out.1.trans (b2.mono K1.out.1.size), l2, o2, rm2, K1.out.2.2.1.later AtK.of_block b2 K1.out.2.1, K1.out.2.2.2.below b2 K1.out.2.1, K1.out.2.1, K1.out.2.2.1.lt⟩
  clear b2 l2 o2 rm2 K1
  have T2 : Hid (TP w.heap.size m.alive (.slice al m.log.length cl) (.slice ad m.cleared.length cd) (w2.setCell ⟨w.heap.size + 1 + 1, 2, none⟩ (.slice (some ⟨X1.heap.size, 0, none⟩) m.log.length m.log.length)) (.slice (some ⟨W.heap.size, 0, none⟩) m.copies.length m.copies.length) (.slice (some ⟨X1.heap.size, 0, none⟩) m.log.length m.log.length) (.slice none 0 0)) := t2.set2 _
  have a3 := t2.a3
  have p2 := t2.o2
  have f2 := t2.fo 2
  clear t2 T1
  go_wp2_with fail
  have hW := TW.out.2.2
  have K2 : Hid (Below w.heap.size w (w2.setCell ⟨w.heap.size + 1 + 1, 2, none⟩ (.slice (some ⟨X1.heap.size, 0, none⟩) m.log.length m.log.length)) ∧ X1.heap.size < (w2.setCell ⟨w.heap.size + 1 + 1, 2, none⟩ (.slice (some ⟨X1.heap.size, 0, none⟩) m.log.length m.log.length)).heap.size ∧ OwnG 4 hdR lnR AtR (w2.setCell ⟨w.heap.size + 1 + 1, 2, none⟩ (.slice (some ⟨X1.heap.size, 0, none⟩) m.log.length m.log.length)) X1.heap.size X1.heap.size m.log.length m.log gr ∧ Room (w2.setCell ⟨w.heap.size + 1 + 1, 2, none⟩ (.slice (some ⟨X1.heap.size, 0, none⟩) m.log.length m.log.length)) X1.heap.size (m.log.length * 4) ∧ OwnG 2 hdK lnK AtK (w2.setCell ⟨w.heap.size + 1 + 1, 2, none⟩ (.slice (some ⟨X1.heap.size, 0, none⟩) m.log.length m.log.length)) W.heap.size W.heap.size m.copies.length m.copies gk ∧ Room (w2.setCell ⟨w.heap.size + 1 + 1, 2, none⟩ (.slice (some ⟨X1.heap.size, 0, none⟩) m.log.length m.log.length)) W.heap.size (m.copies.length * 2) ∧ W.heap.size < X1.heap.size ∧ (∀ i, i < m.copies.length → gk i < X1.heap.size)) := by
    obtain ⟨q1, q2, q3, q4, q5, q6, q7, q8⟩ := B2.out
    exact ⟨q1.setCell (p := ⟨w.heap.size + 1 + 1, 2, none⟩) (by show w.heap.size ≤ w.heap.size + 1 + 1; omega) _, by rw [SSZ.out]; exact q2, q3.of_blocks AtR.of_block (by rw [SSZ.out]; exact Nat.le_refl _) (FAR.out _ _ _ _ (by omega)) (fun i hi => FAR.out _ _ _ _ (by have := q3.low i hi; omega)), q4.of_block (FAR.out _ _ _ _ (by omega)), q5.of_blocks AtK.of_block (by rw [SSZ.out]; exact Nat.le_refl _) (FAR.out _ _ _ _ (by omega)) (fun i hi => FAR.out _ _ _ _ (by have := q5.low i hi; omega)), q6.of_block (FAR.out _ _ _ _ (by omega)), q7, q8⟩
  clear hW B2 a3 p2 f2
  generalize w2.setCell ⟨w.heap.size + 1 + 1, 2, none⟩ (.slice (some ⟨X1.heap.size, 0, none⟩) m.log.length m.log.length) = X2 at *
  refine (toInt64S_any X2 ad m.cleared.length cd m.cleared hn (H.out.1.later K2.out.1).n).mono ?_
  rintro e w3 ⟨rfl, b3, l3, o3, rm3⟩
  have t3 := T2.out.below b3
  have B3 : Hid (Below w.heap.size w w3 ∧ X2.heap.size < w3.heap.size ∧ NumsAt w3 X2.heap.size 0 m.cleared ∧ Room w3 X2.heap.size m.cleared.length ∧ Below X2.heap.size X2 w3) := ⟨K2.out.1.trans (b3.mono K2.out.1.size), l3, o3, rm3, b3⟩
  clear b3 l3 o3 rm3 T2
  have p0 := t3.o0
  have p1 := t3.o1
  have p2 := t3.o2
  have p3 := t3.o3
  have f3 := t3.fo 3
  have x0 := t3.r0
  have x1 := t3.r1
  have x2 := t3.r2
  have x3 := t3.r3
  have y0 := t3.fr 0
  have y1 := t3.fr 1
  have y2 := t3.fr 2
  have y3 := t3.fr 3
  clear t3
  go_wp2
  obtain ⟨F, hF⟩ : ∃ F, (((((w3.setCell ⟨w.heap.size + 1 + 1, 3, none⟩ (.slice (some ⟨X2.heap.size, 0, none⟩) m.cleared.length m.cleared.length)).setCell ⟨w.heap.size + 1, 0, none⟩ (.bool m.alive)).setCell ⟨w.heap.size + 1, 1, none⟩ (.slice (some ⟨W.heap.size, 0, none⟩) m.copies.length m.copies.length)).setCell ⟨w.heap.size + 1, 2, none⟩ (.slice (some ⟨X1.heap.size, 0, none⟩) m.log.length m.log.length)).setCell ⟨w.heap.size + 1, 3, none⟩ (.slice (some ⟨X2.heap.size, 0, none⟩) m.cleared.length m.cleared.length)) = F := ⟨_, rfl⟩
  have g0 : F.cell? ⟨w.heap.size + 1, 0, none⟩ = some (.bool m.alive) := by
    rw [← hF, cell_set_other (by omega), cell_set_other (by omega), cell_set_other (by omega)]
    exact cell_set_same (by rw [cell_set_far (by simp)]; exact x0)
  have g1 : F.cell? ⟨w.heap.size + 1, 1, none⟩ = some (.slice (some ⟨W.heap.size, 0, none⟩) m.copies.length m.copies.length) := by
    rw [← hF, cell_set_other (by omega), cell_set_other (by omega)]
    exact cell_set_same (by rw [cell_set_other (by omega), cell_set_far (by simp)]; exact x1)
  have g2 : F.cell? ⟨w.heap.size + 1, 2, none⟩ = some (.slice (some ⟨X1.heap.size, 0, none⟩) m.log.length m.log.length) := by
    rw [← hF, cell_set_other (by omega)]
    exact cell_set_same (by rw [cell_set_other (by omega), cell_set_other (by omega), cell_set_far (by simp)]; exact x2)
  have g3 : F.cell? ⟨w.heap.size + 1, 3, none⟩ = some (.slice (some ⟨X2.heap.size, 0, none⟩) m.cleared.length m.cleared.length) := by
    rw [← hF]
    exact cell_set_same (by rw [cell_set_other (by omega), cell_set_other (by omega), cell_set_other (by omega), cell_set_far (by simp)]; exact x3)
  have sF : F.heap.size = w3.heap.size := by rw [← hF]; simp [World.setCell]
  have eF : ∀ x, x ≠ w.heap.size + 1 → x ≠ w.heap.size + 1 + 1 → F.heap[x]? = w3.heap[x]? := fun x h1 h2 => by
    rw [← hF]
    exact (Below.heap_setCell _ _ _ _ (fun e => h1 e)).trans ((Below.heap_setCell _ _ _ _ (fun e => h1 e)).trans ((Below.heap_setCell _ _ _ _ (fun e => h1 e)).trans ((Below.heap_setCell _ _ _ _ (fun e => h1 e)).trans (Below.heap_setCell _ _ _ _ (fun e => h2 e)))))
  have bF : Below w.heap.size w F := by
    rw [← hF]
    exact ((((B3.out.1.setCell (p := ⟨w.heap.size + 1 + 1, 3, none⟩) (by show w.heap.size ≤ w.heap.size + 1 + 1; omega) _).setCell (p := ⟨w.heap.size + 1, 0, none⟩) (by show w.heap.size ≤ w.heap.size + 1; omega) _).setCell (p := ⟨w.heap.size + 1, 1, none⟩) (by show w.heap.size ≤ w.heap.size + 1; omega) _).setCell (p := ⟨w.heap.size + 1, 2, none⟩) (by show w.heap.size ≤ w.heap.size + 1; omega) _).setCell (p := ⟨w.heap.size + 1, 3, none⟩) (by show w.heap.size ≤ w.heap.size + 1; omega) _
  rw [hF]
  refine bodyPost_ret (v := .agg #[.bool m.alive, .slice (some ⟨W.heap.size, 0, none⟩) m.copies.length m.copies.length, .slice (some ⟨X1.heap.size, 0, none⟩) m.log.length m.log.length, .slice (some ⟨X2.heap.size, 0, none⟩) m.cleared.length m.cleared.length]) (by simp [results, Tryz.results60, go_sem, g0, g1, g2, g3]) rfl ?_
  have hW := TW.out.2.2
  obtain ⟨q1, q2, q3, q4, q5, q6, q7, q8⟩ := K2.out
  obtain ⟨z1, z2, z3, z4, z5⟩ := B3.out
  have m1 : OwnM w3 (w.heap.size + 3) X1.heap.size X2.heap.size w3.heap.size ⟨some ⟨W.heap.size, 0, none⟩, m.copies.length, some ⟨X1.heap.size, 0, none⟩, m.log.length, some ⟨X2.heap.size, 0, none⟩, m.cleared.length⟩ m gk gr :=
    ⟨⟨W.heap.size, rfl, by omega, q7, by rw [← hW]; exact q5.later AtK.of_block z5 (by omega), q8, q6.below z5 (by omega)⟩, ⟨X1.heap.size, rfl, Nat.le_refl _, q2, q3.later AtR.of_block z5 q2, q3.lt, q4.below z5 q2⟩, ⟨X2.heap.size, rfl, Nat.le_refl _, z2, z3, z4⟩, by omega, Nat.le_of_lt q2, Nat.le_of_lt z2, Nat.le_refl _⟩
  exact ⟨⟨some ⟨W.heap.size, 0, none⟩, m.copies.length, some ⟨X1.heap.size, 0, none⟩, m.log.length, some ⟨X2.heap.size, 0, none⟩, m.cleared.length⟩, X1.heap.size, X2.heap.size, w3.heap.size, gk, gr, rfl, m1.kept (by omega) (fun q h1 h2 => eF q (by omega) (by omega)), bF⟩
def mkCell (k : Int) (j : Nat) : C2 := ⟨k + 2 * (j : Int), k + 2 * (j : Int) + 1⟩
def mkCells (k : Int) (n : Nat) : List C2 := (List.range n).map (mkCell k)
theorem mkCells_at {k : Int} {n j : Nat} (h : j < n) : (mkCells k n)[j]? = some (mkCell k j) := by simp [mkCells, h]
theorem mkCells_len (k : Int) (n : Nat) : (mkCells k n).length = n := by simp [mkCells]
set_option maxHeartbeats 4000000 in
theorem markCellS_k (w : World) (b n cap : Nat) (k : Int) (hn : n ≤ 1048576) (hk : 0 ≤ k) (hk' : k ≤ 1000000000) (hr : Room w b (n * 2)) :
    Calls Tryz.prog 21 #[.slice (some ⟨b, 0, none⟩) n cap, .int .i64 k] w fun e w' => e = .returned (.int .i64 (k + 2 * (n : Int))) ∧ OnlyBlock b w w' ∧ CellsAt w' b 0 (mkCells k n) ∧ Room w' b (n * 2) := by
  go_enter Tryz.func21, Tryz.ntmps21
  go_wp2
  go_loopw [1, 5] (fun v1 v5 wr => ∃ j : Nat, j ≤ n ∧ v5 = .int .i64 j ∧ v1 = .int .i64 (k + 2 * (j : Int)) ∧ OnlyBlock b w wr ∧ Room wr b (n * 2) ∧ CellsAt wr b 0 ((mkCells k n).take j)) (fun _ v5 _ => n - (intOf v5).toNat)
  case atStart => exact ⟨0, Nat.zero_le _, rfl, by simp, OnlyBlock.refl _ _, hr, fun i s e => by simp at e⟩
  case round =>
    obtain ⟨j, hj, rfl, rfl, hob, hro, hse⟩ := hrel
    by_cases hlt : j < n
    · obtain ⟨v0, d0, f0⟩ := hro (j * 2) (by omega)
      obtain ⟨v1, d1, f1⟩ := hro (j * 2 + 1) (by omega)
      have K : Hid (OnlyBlock b w wr ∧ Room wr b (n * 2) ∧ CellsAt wr b 0 ((mkCells k n).take j)) := ⟨hob, hro, hse⟩
      clear hob hro hse hr
      go_wp2
      obtain ⟨hob, hro, hse⟩ := K.out
      refine ⟨⟨j + 1, by omega, by simp, by congr 1; push_cast; omega, (hob.setCell _ _).setCell _ _, (hro.set _).set _, hse.put (s := mkCell k j) (mkCells_at hlt) hro (by omega)⟩, by simp [intOf]; omega⟩
    · have : j = n := by omega
      subst this
      have hd : decide ((j : Int) < (j : Int)) = false := by simp
      rw [List.take_of_length_le (by rw [mkCells_len]; omega)] at hse
      have K : Hid (OnlyBlock b w wr ∧ CellsAt wr b 0 (mkCells k j) ∧ Room wr b (j * 2)) := ⟨hob, hse, hro⟩
      clear hob hro hse hr
      go_wp2
      go_ret
      exact ⟨rfl, K.out.1, K.out.2.1, K.out.2.2⟩
set_option maxHeartbeats 1000000 in
theorem markCellS_nil (w : World) (a : Option Addr) (cap : Nat) (k : Int) : Calls Tryz.prog 21 #[.slice a 0 cap, .int .i64 k] w fun e w' => e = .returned (.int .i64 k) ∧ w' = w := by
  go_enter Tryz.func21, Tryz.ntmps21
  go_wp2
  go_loop [1, 5] (fun v1 v5 => v1 = .int .i64 k ∧ v5 = .int .i64 0) (fun _ _ => 0)
  case atStart => exact ⟨rfl, rfl⟩
  case round =>
    obtain ⟨rfl, rfl⟩ := hrel
    go_wp2
    go_ret
    exact ⟨rfl, rfl⟩
set_option maxHeartbeats 4000000 in
theorem heldCellS_k (w : World) (a : Option Addr) (n cap : Nat) (k : Int) (hn : n ≤ 1048576) (hk : 0 ≤ k) (hk' : k ≤ 1000000000) (hs : SlC w w.heap.size a n (mkCells k n)) :
    Calls Tryz.prog 22 #[.slice a n cap, .int .i64 k] w fun e w' => e = .returned (.int .i64 (k + 2 * (n : Int))) ∧ w' = w := by
  obtain ⟨_, hs⟩ := hs
  go_enter Tryz.func22, Tryz.ntmps22
  go_wp2
  go_loop [1, 5] (fun v1 v5 => ∃ j : Nat, j ≤ n ∧ v5 = .int .i64 j ∧ v1 = .int .i64 (k + 2 * (j : Int))) (fun _ v5 => n - (intOf v5).toNat)
  case atStart => exact ⟨0, Nat.zero_le _, rfl, by simp⟩
  case round =>
    obtain ⟨j, hj, rfl, rfl⟩ := hrel
    by_cases hlt : j < n
    · rcases hs with hs | ⟨b, off, rfl, hb, h1⟩
      · omega
      · obtain ⟨c0, c1⟩ := h1 j (mkCell k j) (mkCells_at hlt)
        simp only [mkCell] at c0 c1
        clear h1
        go_wp2
        exact ⟨⟨j + 1, by omega, by simp, by congr 1; push_cast; omega⟩, by simp [intOf]; omega⟩
    · have : j = n := by omega
      subst this
      have hd : decide ((j : Int) < (j : Int)) = false := by simp
      clear hs
      go_wp2
      go_ret
      exact ⟨rfl, rfl⟩
def mkSet (k : Int) (j : Nat) : S5 := ⟨k + 5 * (j : Int), k + 5 * (j : Int) + 1, k + 5 * (j : Int) + 1 + 1, (k + 5 * (j : Int) + 1 + 1 + 1) % 3 == 0, k + 5 * (j : Int) + 1 + 1 + 1 + 1⟩
def mkSets (k : Int) (n : Nat) : List S5 := (List.range n).map (mkSet k)
theorem mkSets_at {k : Int} {n j : Nat} (h : j < n) : (mkSets k n)[j]? = some (mkSet k j) := by simp [mkSets, h]
theorem mkSets_len (k : Int) (n : Nat) : (mkSets k n).length = n := by simp [mkSets]
set_option maxHeartbeats 4000000 in
theorem markSetS_k (w : World) (b n cap : Nat) (k : Int) (hn : n ≤ 1048576) (hk : 0 ≤ k) (hk' : k ≤ 1000000000) (hr : Room w b (n * 5)) :
    Calls Tryz.prog 78 #[.slice (some ⟨b, 0, none⟩) n cap, .int .i64 k] w fun e w' => e = .returned (.int .i64 (k + 5 * (n : Int))) ∧ OnlyBlock b w w' ∧ SetsAt w' b 0 (mkSets k n) ∧ Room w' b (n * 5) := by
  go_enter Tryz.func78, Tryz.ntmps78
  go_wp2
  go_loopw [1, 5] (fun v1 v5 wr => ∃ j : Nat, j ≤ n ∧ v5 = .int .i64 j ∧ v1 = .int .i64 (k + 5 * (j : Int)) ∧ OnlyBlock b w wr ∧ Room wr b (n * 5) ∧ SetsAt wr b 0 ((mkSets k n).take j)) (fun _ v5 _ => n - (intOf v5).toNat)
  case atStart => exact ⟨0, Nat.zero_le _, rfl, by simp, OnlyBlock.refl _ _, hr, fun i s e => by simp at e⟩
  case round =>
    obtain ⟨j, hj, rfl, rfl, hob, hro, hse⟩ := hrel
    by_cases hlt : j < n
    · obtain ⟨v0, d0, f0⟩ := hro (j * 5) (by omega)
      obtain ⟨v1, d1, f1⟩ := hro (j * 5 + 1) (by omega)
      obtain ⟨v2, d2, f2⟩ := hro (j * 5 + 2) (by omega)
      obtain ⟨v3, d3, f3⟩ := hro (j * 5 + 3) (by omega)
      obtain ⟨v4, d4, f4⟩ := hro (j * 5 + 4) (by omega)
      have K : Hid (OnlyBlock b w wr ∧ Room wr b (n * 5) ∧ SetsAt wr b 0 ((mkSets k n).take j)) := ⟨hob, hro, hse⟩
      clear hob hro hse hr
      go_wp2
      obtain ⟨hob, hro, hse⟩ := K.out
      refine ⟨⟨j + 1, by omega, by simp, by congr 1; push_cast; omega, ((((hob.setCell _ _).setCell _ _).setCell _ _).setCell _ _).setCell _ _, ((((hro.set _).set _).set _).set _).set _, hse.put (s := mkSet k j) (mkSets_at hlt) hro (by omega)⟩, by simp [intOf]; omega⟩
    · have : j = n := by omega
      subst this
      have hd : decide ((j : Int) < (j : Int)) = false := by simp
      rw [List.take_of_length_le (by rw [mkSets_len]; omega)] at hse
      have K : Hid (OnlyBlock b w wr ∧ SetsAt wr b 0 (mkSets k j) ∧ Room wr b (j * 5)) := ⟨hob, hse, hro⟩
      clear hob hro hse hr
      go_wp2
      go_ret
      exact ⟨rfl, K.out.1, K.out.2.1, K.out.2.2⟩
set_option maxHeartbeats 1000000 in
theorem markSetS_nil (w : World) (a : Option Addr) (cap : Nat) (k : Int) : Calls Tryz.prog 78 #[.slice a 0 cap, .int .i64 k] w fun e w' => e = .returned (.int .i64 k) ∧ w' = w := by
  go_enter Tryz.func78, Tryz.ntmps78
  go_wp2
  go_loop [1, 5] (fun v1 v5 => v1 = .int .i64 k ∧ v5 = .int .i64 0) (fun _ _ => 0)
  case atStart => exact ⟨rfl, rfl⟩
  case round =>
    obtain ⟨rfl, rfl⟩ := hrel
    go_wp2
    go_ret
    exact ⟨rfl, rfl⟩
structure KeptP (P : Nat → Prop) (w w' : World) : Prop where
  os : w'.os = w.os
  tape : w'.tape = w.tape
  output : w'.output = w.output
  size : w.heap.size ≤ w'.heap.size
  block : ∀ q, q < w.heap.size → ¬ P q → w'.heap[q]? = w.heap[q]?
theorem KeptP.refl (P : Nat → Prop) (w : World) : KeptP P w w := ⟨rfl, rfl, rfl, Nat.le_refl _, fun _ _ _ => rfl⟩
theorem KeptP.trans {P : Nat → Prop} {a b c : World} (h : KeptP P a b) (k : KeptP P b c) : KeptP P a c :=
  ⟨k.os.trans h.os, k.tape.trans h.tape, k.output.trans h.output, Nat.le_trans h.size k.size, fun q hq hp => (k.block q (Nat.lt_of_lt_of_le hq h.size) hp).trans (h.block q hq hp)⟩
theorem KeptP.mono {P Q : Nat → Prop} {a b : World} (h : KeptP P a b) (hp : ∀ q, P q → Q q) : KeptP Q a b := ⟨h.os, h.tape, h.output, h.size, fun q hq hn => h.block q hq (fun e => hn (hp q e))⟩
theorem KeptP.of_only {P : Nat → Prop} {c : Nat} {a b : World} (h : OnlyBlock c a b) (hc : P c) : KeptP P a b := ⟨h.os, h.tape, h.output, Nat.le_of_eq h.size.symm, fun q _ hn => h.block q (fun e => hn (e ▸ hc))⟩
theorem KeptP.of_below {P : Nat → Prop} {a b : World} (h : Below a.heap.size a b) : KeptP P a b := ⟨h.os, h.tape, h.output, h.size, fun q hq _ => h.block q hq⟩
theorem KeptP.of_set {P : Nat → Prop} (w : World) {c o : Nat} (v : Value) (hc : P c) : KeptP P w (w.setCell ⟨c, o, none⟩ v) := .of_only ((OnlyBlock.refl c w).setCell o v) hc
theorem KeptP.below {P : Nat → Prop} {B : Nat} {a b : World} (h : KeptP P a b) (hp : ∀ q, P q → B ≤ q) (hB : B ≤ a.heap.size) : Below B a b := ⟨h.os, h.tape, h.output, h.size, fun q hq => h.block q (by omega) (fun e => by have := hp q e; omega)⟩
theorem OwnG.set {α : Type} {sz : Nat} {hd : α → List Int} {ln : α → Nat} {At : World → Nat → α → Prop} (hAt : ∀ (w w' : World) (b : Nat) (r : α), w'.heap[b]? = w.heap[b]? → At w b r → At w' b r) {w V : World} {base b n j : Nat} {rs : List α} {g : Nat → Nat} {r r' : α} (h : OwnG sz hd ln At w base b n rs g) (hj : rs[j]? = some r) (hl : ln r' = ln r) (hz : 0 < sz) (hh : ∀ r : α, (hd r).length < sz)
    (hs : w.heap.size ≤ V.heap.size) (hb : ∀ x, x < w.heap.size → x ≠ b → x ≠ g j → V.heap[x]? = w.heap[x]?) (hold : ∀ o, (o < j * sz ∨ j * sz + (sz - 1) ≤ o) → V.cell? ⟨b, o, none⟩ = w.cell? ⟨b, o, none⟩) (hhd : ∀ t z, (hd r')[t]? = some z → V.cell? ⟨b, j * sz + t, none⟩ = some (.int .i64 z)) (hat : At V (g j) r') :
    OwnG sz hd ln At V base b n (rs.set j r') g := by
  have hjn := h.idx hj
  have hlen := h.len
  have split : ∀ i y, (rs.set j r')[i]? = some y → (i = j ∧ y = r') ∨ (i ≠ j ∧ rs[i]? = some y) := fun i y e => by
    by_cases hi : i = j
    · subst hi
      rw [List.getElem?_set_self (by omega)] at e
      exact .inl ⟨rfl, (Option.some.inj e).symm⟩
    · rw [List.getElem?_set_ne (fun e => hi e.symm)] at e
      exact .inr ⟨hi, e⟩
  have far : ∀ i t, i ≠ j → t < sz → (i * sz + t < j * sz ∨ j * sz + (sz - 1) ≤ i * sz + t) := fun i t hi ht => by
    rcases Nat.lt_or_gt_of_ne hi with hi | hi
    · have : (i + 1) * sz ≤ j * sz := Nat.mul_le_mul_right sz (by omega)
      rw [Nat.add_mul] at this; omega
    · have : (j + 1) * sz ≤ i * sz := Nat.mul_le_mul_right sz (by omega)
      rw [Nat.add_mul] at this; omega
  refine ⟨by simp [hlen], fun i y e t z ht => ?_, fun i y e => ?_, h.low, fun i hi => Nat.lt_of_lt_of_le (h.lt i hi) hs, h.ne, fun i y e => ?_, h.inj⟩
  · rcases split i y e with ⟨rfl, rfl⟩ | ⟨hi, e⟩
    · exact hhd t z ht
    · rw [hold _ (far i t hi (Nat.lt_trans (List.getElem?_eq_some_iff.1 ht).1 (hh y)))]; exact h.head i y e t z ht
  · rcases split i y e with ⟨rfl, rfl⟩ | ⟨hi, e⟩
    · rw [hold _ (.inr (Nat.le_refl _)), hl]; exact h.tail i r hj
    · rw [hold _ (far i _ hi (by omega))]; exact h.tail i y e
  · rcases split i y e with ⟨rfl, rfl⟩ | ⟨hi, e⟩
    · exact hat
    · have hin := h.idx e
      exact hAt _ _ _ _ (hb _ (h.lt i hin) (h.ne i hin) (fun e' => hi (h.inj i j hin hjn e'))) (h.sub i y e)
def mix {α : Type} (f : Nat → α) (rs : List α) (j : Nat) : List α := (List.range rs.length).map fun i => if i < j then f i else rs[i]?.getD (f i)
theorem mix_at {α : Type} (f : Nat → α) (rs : List α) (j i : Nat) (h : i < rs.length) : (mix f rs j)[i]? = some (if i < j then f i else rs[i]?.getD (f i)) := by simp [mix, h]
theorem mix_len {α : Type} (f : Nat → α) (rs : List α) (j : Nat) : (mix f rs j).length = rs.length := by simp [mix]
theorem mix_zero {α : Type} (f : Nat → α) (rs : List α) : mix f rs 0 = rs := by
  apply List.ext_getElem?
  intro i
  by_cases h : i < rs.length
  · rw [mix_at f rs 0 i h]; simp [h]
  · rw [List.getElem?_eq_none (by rw [mix_len]; omega), List.getElem?_eq_none (by omega)]
theorem mix_all {α : Type} (f : Nat → α) (rs : List α) : mix f rs rs.length = (List.range rs.length).map f := by
  apply List.ext_getElem?
  intro i
  by_cases h : i < rs.length
  · rw [mix_at f rs _ i h]; simp [h]
  · rw [List.getElem?_eq_none (by rw [mix_len]; omega), List.getElem?_eq_none (by simp; omega)]
theorem mix_succ {α : Type} (f : Nat → α) (rs : List α) (j : Nat) (hj : j < rs.length) : mix f rs (j + 1) = (mix f rs j).set j (f j) := by
  apply List.ext_getElem?
  intro i
  by_cases h : i < rs.length
  · rw [mix_at f rs _ i h]
    by_cases e : i = j
    · subst e; rw [List.getElem?_set_self (by rw [mix_len]; exact h), if_pos (by omega)]
    · rw [List.getElem?_set_ne (fun k => e k.symm), mix_at f rs _ i h]
      by_cases hi : i < j
      · rw [if_pos hi, if_pos (by omega)]
      · rw [if_neg hi, if_neg (by omega)]
  · rw [List.getElem?_eq_none (by rw [mix_len]; omega), List.getElem?_eq_none (by rw [List.length_set, mix_len]; omega)]
theorem mix_cur {α : Type} (f : Nat → α) (rs : List α) (j : Nat) {r : α} (h : rs[j]? = some r) : (mix f rs j)[j]? = some r := by
  have hj := (List.getElem?_eq_some_iff.1 h).1
  rw [mix_at f rs j j hj, if_neg (by omega), h]; rfl
def offG {α : Type} (c : α → Nat) (rs : List α) (i : Nat) : Nat := ((rs.map c).take i).sum
theorem offG_zero {α : Type} (c : α → Nat) (rs : List α) : offG c rs 0 = 0 := by simp [offG]
theorem offG_succ {α : Type} (c : α → Nat) {rs : List α} {i : Nat} {r : α} (h : rs[i]? = some r) : offG c rs (i + 1) = offG c rs i + c r := by
  unfold offG
  exact sum_take_succ (by rw [List.getElem?_map, h]; rfl)
theorem offG_le {α : Type} (c : α → Nat) (rs : List α) (i : Nat) : offG c rs i ≤ offG c rs rs.length := by
  unfold offG
  rw [List.take_of_length_le (i := rs.length) (by simp)]
  exact sum_take_le _ _
def cK (k : K2) : Nat := 1 + 2 * k.cells.length
def cR (r : R4) : Nat := 3 + 5 * r.sets.length
def mkK (ks : List K2) (k : Int) (i : Nat) : K2 := ⟨k + offG cK ks i, mkCells (k + offG cK ks i + 1) (atK ks i).cells.length⟩
def mkR (rs : List R4) (k : Int) (i : Nat) : R4 := ⟨k + offG cR rs i, k + offG cR rs i + 1, k + offG cR rs i + 1 + 1, mkSets (k + offG cR rs i + 1 + 1 + 1) (atR rs i).sets.length⟩
def mkKs (ks : List K2) (k : Int) : List K2 := (List.range ks.length).map (mkK ks k)
def mkRs (rs : List R4) (k : Int) : List R4 := (List.range rs.length).map (mkR rs k)
def OfRow (b n : Nat) (g : Nat → Nat) (q : Nat) : Prop := q = b ∨ ∃ i, i < n ∧ q = g i
set_option maxHeartbeats 4000000 in
theorem markCopyS_own (w : World) (b n cap : Nat) (ks : List K2) (g : Nat → Nat) (k : Int) (hk : 0 ≤ k) (hk' : k ≤ 500000000) (ht : offG cK ks ks.length ≤ 100000000) (hn : n ≤ 1048576) (hl : ∀ c ∈ ks, c.cells.length ≤ 1048576) (hbw : b < w.heap.size) (hr : Room w b (n * 2)) (ho : OwnG 2 hdK lnK AtK w 0 b n ks g) :
    Calls Tryz.prog 75 #[.slice (some ⟨b, 0, none⟩) n cap, .int .i64 k] w fun e w' => e = .returned (.int .i64 (k + offG cK ks ks.length)) ∧ KeptP (OfRow b n g) w w' ∧ OwnG 2 hdK lnK AtK w' 0 b n (mkKs ks k) g ∧ Room w' b (n * 2) := by
  have hlen := ho.len
  have HO : Hid (OwnG 2 hdK lnK AtK w 0 b n ks g ∧ Room w b (n * 2) ∧ b < w.heap.size ∧ (∀ c ∈ ks, c.cells.length ≤ 1048576) ∧ ks.length = n) := ⟨ho, hr, hbw, hl, hlen⟩
  clear ho hr hbw hl hlen
  go_enter Tryz.func75, Tryz.ntmps75
  go_wp2
  go_loopw [1, 5] (fun v1 v5 wr => ∃ j : Nat, j ≤ n ∧ v5 = .int .i64 j ∧ v1 = .int .i64 (k + (offG cK ks j : Int)) ∧ KeptP (OfRow b n g) w wr ∧ OwnG 2 hdK lnK AtK wr 0 b n (mix (mkK ks k) ks j) g ∧ Room wr b (n * 2)) (fun _ v5 _ => n - (intOf v5).toNat)
  case atStart => exact ⟨0, Nat.zero_le _, rfl, by rw [offG_zero]; simp, KeptP.refl _ _, by rw [mix_zero]; exact HO.out.1, HO.out.2.1⟩
  case round =>
    obtain ⟨j, hj, rfl, rfl, hkp, how, hro⟩ := hrel
    have hb2 := offG_le cK ks j
    by_cases hlt : j < n
    · have hks : ks[j]? = some (atK ks j) := atK_of (by rw [HO.out.2.2.2.2]; exact hlt)
      have hcur := mix_cur (mkK ks k) ks j hks
      obtain ⟨v0, d0, f0⟩ := hro (j * 2) (by omega)
      obtain ⟨cap', c1, hcp⟩ := how.tail j _ hcur
      have hat := how.sub j _ hcur
      have hgn := how.ne j hlt
      have hgl := how.lt j hlt
      have hln : (atK ks j).cells.length ≤ 1048576 := HO.out.2.2.2.1 _ (List.mem_of_getElem? hks)
      have hoff : Hid (offG cK ks (j + 1) = offG cK ks j + cK (atK ks j)) := offG_succ cK hks
      have K : Hid (KeptP (OfRow b n g) w wr ∧ OwnG 2 hdK lnK AtK wr 0 b n (mix (mkK ks k) ks j) g ∧ Room wr b (n * 2) ∧ (mix (mkK ks k) ks j)[j]? = some (atK ks j)) := ⟨hkp, how, hro, hcur⟩
      have hro' : Room (wr.setCell ⟨b, j * 2, none⟩ (.int .i64 (k + (offG cK ks j : Int)))) (g j) ((atK ks j).cells.length * 2) := by
        refine hat.2.of_block ?_
        exact Below.heap_setCell _ _ _ _ hgn
      have hm := markCellS_k (wr.setCell ⟨b, j * 2, none⟩ (.int .i64 (k + (offG cK ks j : Int)))) (g j) (atK ks j).cells.length cap' (k + (offG cK ks j : Int) + 1) hln (by omega) (by omega) hro'
      simp only [lnK, Nat.reduceSub] at c1
      clear hkp how hro hcur hat hro' hcp hks
      go_wp2_with fail
      refine hm.mono ?_
      clear hm
      rintro e w1 ⟨rfl, hob, hce, hrm⟩
      go_wp2
      obtain ⟨hkp, how, hro, hcur⟩ := K.out
      have hs1 : (wr.setCell ⟨b, j * 2, none⟩ (.int .i64 (k + (offG cK ks j : Int)))).heap.size = wr.heap.size := by simp [World.setCell]
      have cb : ∀ o, w1.cell? ⟨b, o, none⟩ = (wr.setCell ⟨b, j * 2, none⟩ (.int .i64 (k + (offG cK ks j : Int)))).cell? ⟨b, o, none⟩ := fun o => World.cell?_of_block (a := ⟨b, o, none⟩) (hob.block b (fun e => hgn e.symm))
      refine ⟨⟨j + 1, by omega, by simp, by rw [hoff.out]; simp [cK]; omega, ?_, ?_, ?_⟩, by simp [intOf]; omega⟩
      · exact (hkp.trans (KeptP.of_set wr _ (.inl rfl))).trans (KeptP.of_only hob (.inr ⟨j, hlt, rfl⟩))
      · rw [mix_succ _ _ _ (by rw [HO.out.2.2.2.2]; exact hlt)]
        refine how.set AtK.of_block hcur (by simp [lnK, mkK, mkCells_len]) (by omega) (by intro r; simp [hdK]) (by rw [hob.size, hs1]; exact Nat.le_refl _) (fun x _ hx hg => (hob.block x hg).trans (Below.heap_setCell _ _ _ _ hx)) (fun o ho => ?_) (fun t z hz => ?_) ⟨by rw [mkK]; exact hce, by simp only [mkK, mkCells_len]; exact hrm⟩
        · rw [cb o, cell_set_other (by omega)]
        · have ht0 : t = 0 := by
            have := (List.getElem?_eq_some_iff.1 hz).1
            simp [hdK] at this; exact this
          subst ht0
          simp [hdK, mkK] at hz
          subst hz
          rw [Nat.add_zero, cb]
          exact cell_set_same d0
      · exact (hro.set _).of_block (hob.block b (fun e => hgn e.symm))
    · have : j = n := by omega
      subst this
      have hd : decide ((j : Int) < (j : Int)) = false := by simp
      have hkl : ks.length = j := HO.out.2.2.2.2
      have K : Hid (KeptP (OfRow b j g) w wr ∧ OwnG 2 hdK lnK AtK wr 0 b j (mkKs ks k) g ∧ Room wr b (j * 2)) := ⟨hkp, by
        have := mix_all (mkK ks k) ks
        rw [hkl] at this
        rw [this, ← hkl] at how
        rw [← hkl]; exact how, hro⟩
      have H : Hid (ks.length = j) := hkl
      clear hkp how hro hkl
      go_wp2
      go_ret
      exact ⟨by rw [H.out]; rfl, K.out.1, K.out.2.1, K.out.2.2⟩
set_option maxHeartbeats 4000000 in
theorem markRecordS_own (w : World) (b n cap : Nat) (ks : List R4) (g : Nat → Nat) (k : Int) (hk : 0 ≤ k) (hk' : k ≤ 500000000) (ht : offG cR ks ks.length ≤ 100000000) (hn : n ≤ 1048576) (hl : ∀ c ∈ ks, c.sets.length ≤ 1048576) (hbw : b < w.heap.size) (hr : Room w b (n * 4)) (ho : OwnG 4 hdR lnR AtR w 0 b n ks g) :
    Calls Tryz.prog 76 #[.slice (some ⟨b, 0, none⟩) n cap, .int .i64 k] w fun e w' => e = .returned (.int .i64 (k + offG cR ks ks.length)) ∧ KeptP (OfRow b n g) w w' ∧ OwnG 4 hdR lnR AtR w' 0 b n (mkRs ks k) g ∧ Room w' b (n * 4) := by
  have hlen := ho.len
  have HO : Hid (OwnG 4 hdR lnR AtR w 0 b n ks g ∧ Room w b (n * 4) ∧ b < w.heap.size ∧ (∀ c ∈ ks, c.sets.length ≤ 1048576) ∧ ks.length = n) := ⟨ho, hr, hbw, hl, hlen⟩
  clear ho hr hbw hl hlen
  go_enter Tryz.func76, Tryz.ntmps76
  go_wp2
  go_loopw [1, 5] (fun v1 v5 wr => ∃ j : Nat, j ≤ n ∧ v5 = .int .i64 j ∧ v1 = .int .i64 (k + (offG cR ks j : Int)) ∧ KeptP (OfRow b n g) w wr ∧ OwnG 4 hdR lnR AtR wr 0 b n (mix (mkR ks k) ks j) g ∧ Room wr b (n * 4)) (fun _ v5 _ => n - (intOf v5).toNat)
  case atStart => exact ⟨0, Nat.zero_le _, rfl, by rw [offG_zero]; simp, KeptP.refl _ _, by rw [mix_zero]; exact HO.out.1, HO.out.2.1⟩
  case round =>
    obtain ⟨j, hj, rfl, rfl, hkp, how, hro⟩ := hrel
    have hb2 := offG_le cR ks j
    by_cases hlt : j < n
    · have hks : ks[j]? = some (atR ks j) := atR_of (by rw [HO.out.2.2.2.2]; exact hlt)
      have hcur := mix_cur (mkR ks k) ks j hks
      obtain ⟨v0, d0, f0⟩ := hro (j * 4) (by omega)
      obtain ⟨v1, d1, f1⟩ := hro (j * 4 + 1) (by omega)
      obtain ⟨v2, d2, f2⟩ := hro (j * 4 + 2) (by omega)
      obtain ⟨cap', c1, hcp⟩ := how.tail j _ hcur
      have hat := how.sub j _ hcur
      have hgn := how.ne j hlt
      have hgl := how.lt j hlt
      have hln : (atR ks j).sets.length ≤ 1048576 := HO.out.2.2.2.1 _ (List.mem_of_getElem? hks)
      have hoff : Hid (offG cR ks (j + 1) = offG cR ks j + cR (atR ks j)) := offG_succ cR hks
      have K : Hid (KeptP (OfRow b n g) w wr ∧ OwnG 4 hdR lnR AtR wr 0 b n (mix (mkR ks k) ks j) g ∧ Room wr b (n * 4) ∧ (mix (mkR ks k) ks j)[j]? = some (atR ks j)) := ⟨hkp, how, hro, hcur⟩
      obtain ⟨X, hX⟩ : ∃ X, X = ((wr.setCell ⟨b, j * 4, none⟩ (.int .i64 (k + (offG cR ks j : Int)))).setCell ⟨b, j * 4 + 1, none⟩ (.int .i64 (k + (offG cR ks j : Int) + 1))).setCell ⟨b, j * 4 + 2, none⟩ (.int .i64 (k + (offG cR ks j : Int) + 1 + 1)) := ⟨_, rfl⟩
      have hX' : OnlyBlock b wr X := by rw [hX]; exact (((OnlyBlock.refl b wr).setCell _ _).setCell _ _).setCell _ _
      have e0 : X.cell? ⟨b, j * 4, none⟩ = some (.int .i64 (k + (offG cR ks j : Int))) := by
        rw [hX, cell_set_other (by omega), cell_set_other (by omega)]; exact cell_set_same d0
      have e1 : X.cell? ⟨b, j * 4 + 1, none⟩ = some (.int .i64 (k + (offG cR ks j : Int) + 1)) := by
        rw [hX, cell_set_other (by omega)]; exact cell_set_same (by rw [cell_set_other (by omega)]; exact d1)
      have e2 : X.cell? ⟨b, j * 4 + 2, none⟩ = some (.int .i64 (k + (offG cR ks j : Int) + 1 + 1)) := by
        rw [hX]; exact cell_set_same (by rw [cell_set_other (by omega), cell_set_other (by omega)]; exact d2)
      have eo : ∀ o, (o < j * 4 ∨ j * 4 + 3 ≤ o) → X.cell? ⟨b, o, none⟩ = wr.cell? ⟨b, o, none⟩ := fun o ho => by
        rw [hX, cell_set_other (by omega), cell_set_other (by omega), cell_set_other (by omega)]
      have er : Room X b (n * 4) := by rw [hX]; exact ((hro.set _).set _).set _
      have hro' : Room X (g j) ((atR ks j).sets.length * 5) := hat.2.of_block (hX'.block _ hgn)
      have hm := markSetS_k X (g j) (atR ks j).sets.length cap' (k + (offG cR ks j : Int) + 1 + 1 + 1) hln (by omega) (by omega) hro'
      have KX : Hid (OnlyBlock b wr X ∧ X.cell? ⟨b, j * 4, none⟩ = some (.int .i64 (k + (offG cR ks j : Int))) ∧ X.cell? ⟨b, j * 4 + 1, none⟩ = some (.int .i64 (k + (offG cR ks j : Int) + 1)) ∧ X.cell? ⟨b, j * 4 + 2, none⟩ = some (.int .i64 (k + (offG cR ks j : Int) + 1 + 1)) ∧ (∀ o, (o < j * 4 ∨ j * 4 + 3 ≤ o) → X.cell? ⟨b, o, none⟩ = wr.cell? ⟨b, o, none⟩) ∧ Room X b (n * 4)) := ⟨hX', e0, e1, e2, eo, er⟩
      simp only [lnR, Nat.reduceSub] at c1
      clear hkp how hro hcur hat hro' hcp hks hX' e0 e1 e2 eo er
      subst hX
      go_wp2_with fail
      refine hm.mono ?_
      clear hm
      rintro e w1 ⟨rfl, hob, hce, hrm⟩
      go_wp2
      obtain ⟨hkp, how, hro, hcur⟩ := K.out
      obtain ⟨hX', e0, e1, e2, eo, er⟩ := KX.out
      generalize ((wr.setCell ⟨b, j * 4, none⟩ (.int .i64 (k + (offG cR ks j : Int)))).setCell ⟨b, j * 4 + 1, none⟩ (.int .i64 (k + (offG cR ks j : Int) + 1))).setCell ⟨b, j * 4 + 2, none⟩ (.int .i64 (k + (offG cR ks j : Int) + 1 + 1)) = X at *
      have cb : ∀ o, w1.cell? ⟨b, o, none⟩ = X.cell? ⟨b, o, none⟩ := fun o => World.cell?_of_block (a := ⟨b, o, none⟩) (hob.block b (fun e => hgn e.symm))
      refine ⟨⟨j + 1, by omega, by simp, by rw [hoff.out]; simp [cR]; omega, ?_, ?_, ?_⟩, by simp [intOf]; omega⟩
      · exact (hkp.trans (KeptP.of_only hX' (.inl rfl))).trans (KeptP.of_only hob (.inr ⟨j, hlt, rfl⟩))
      · rw [mix_succ _ _ _ (by rw [HO.out.2.2.2.2]; exact hlt)]
        refine how.set AtR.of_block hcur (by simp [lnR, mkR, mkSets_len]) (by omega) (by intro r; simp [hdR]) (by rw [hob.size, hX'.size]; exact Nat.le_refl _) (fun x _ hx hg => (hob.block x hg).trans (hX'.block _ hx)) (fun o ho => ?_) (fun t z hz => ?_) ⟨by rw [mkR]; exact hce, by simp only [mkR, mkSets_len]; exact hrm⟩
        · rw [cb o, eo o (by omega)]
        · have ht0 := (List.getElem?_eq_some_iff.1 hz).1
          simp [hdR] at ht0
          rw [cb]
          rcases t with _ | _ | _ | t
          · simp [hdR, mkR] at hz; subst hz; exact e0
          · simp [hdR, mkR] at hz; subst hz; exact e1
          · simp [hdR, mkR] at hz; subst hz; exact e2
          · omega
      · exact er.of_block (hob.block b (fun e => hgn e.symm))
    · have : j = n := by omega
      subst this
      have hd : decide ((j : Int) < (j : Int)) = false := by simp
      have hkl : ks.length = j := HO.out.2.2.2.2
      have K : Hid (KeptP (OfRow b j g) w wr ∧ OwnG 4 hdR lnR AtR wr 0 b j (mkRs ks k) g ∧ Room wr b (j * 4)) := ⟨hkp, by
        have := mix_all (mkR ks k) ks
        rw [hkl] at this
        rw [this, ← hkl] at how
        rw [← hkl]; exact how, hro⟩
      have H : Hid (ks.length = j) := hkl
      clear hkp how hro hkl
      go_wp2
      go_ret
      exact ⟨by rw [H.out]; rfl, K.out.1, K.out.2.1, K.out.2.2⟩
set_option maxHeartbeats 1000000 in
theorem markCopyS_nil (w : World) (a : Option Addr) (cap : Nat) (k : Int) : Calls Tryz.prog 75 #[.slice a 0 cap, .int .i64 k] w fun e w' => e = .returned (.int .i64 k) ∧ w' = w := by
  go_enter Tryz.func75, Tryz.ntmps75
  go_wp2
  go_loop [1, 5] (fun v1 v5 => v1 = .int .i64 k ∧ v5 = .int .i64 0) (fun _ _ => 0)
  case atStart => exact ⟨rfl, rfl⟩
  case round =>
    obtain ⟨rfl, rfl⟩ := hrel
    go_wp2
    go_ret
    exact ⟨rfl, rfl⟩
set_option maxHeartbeats 1000000 in
theorem markRecordS_nil (w : World) (a : Option Addr) (cap : Nat) (k : Int) : Calls Tryz.prog 76 #[.slice a 0 cap, .int .i64 k] w fun e w' => e = .returned (.int .i64 k) ∧ w' = w := by
  go_enter Tryz.func76, Tryz.ntmps76
  go_wp2
  go_loop [1, 5] (fun v1 v5 => v1 = .int .i64 k ∧ v5 = .int .i64 0) (fun _ _ => 0)
  case atStart => exact ⟨rfl, rfl⟩
  case round =>
    obtain ⟨rfl, rfl⟩ := hrel
    go_wp2
    go_ret
    exact ⟨rfl, rfl⟩
def leftR (l t : Nat) : Int := if t ≤ l then ((l - t : Nat) : Int) else -1
theorem leftR_yes {l t : Nat} (h : t ≤ l) : leftR l t = ((l - t : Nat) : Int) := if_pos h
theorem leftR_no {l t : Nat} (h : ¬ t ≤ l) : leftR l t = -1 := if_neg h
theorem szSetS_l (w : World) (a : Option Addr) (n cap : Nat) (l : Nat) (hn : n ≤ maxLen) (hl : l ≤ 1048576) : Calls Tryz.prog 95 #[.slice a n cap, .int .i64 (l : Int)] w fun e w' => e = .returned (.int .i64 (leftR l n)) ∧ w' = w := by
  unfold maxLen at hn
  by_cases h : n ≤ l
  · rw [leftR_yes h]
    have d0 : decide ((l : Int) - (n : Int) < 0) = false := by simp; omega
    go_enter Tryz.func95, Tryz.ntmps95
    go_wp2
    go_ret
    have e : ((l - n : Nat) : Int) = (l : Int) - (n : Int) := by omega
    exact ⟨by rw [e]; rfl, rfl⟩
  · rw [leftR_no h]
    have d0 : decide ((l : Int) - (n : Int) < 0) = true := by simp; omega
    go_enter Tryz.func95, Tryz.ntmps95
    go_wp2
    go_ret
    exact ⟨rfl, rfl⟩
theorem szCellS_l (w : World) (a : Option Addr) (n cap : Nat) (l : Nat) (hn : n ≤ maxLen) (hl : l ≤ 1048576) : Calls Tryz.prog 179 #[.slice a n cap, .int .i64 (l : Int)] w fun e w' => e = .returned (.int .i64 (leftR l n)) ∧ w' = w := by
  unfold maxLen at hn
  by_cases h : n ≤ l
  · rw [leftR_yes h]
    have d0 : decide ((l : Int) - (n : Int) < 0) = false := by simp; omega
    go_enter Tryz.func179, Tryz.ntmps179
    go_wp2
    go_ret
    have e : ((l - n : Nat) : Int) = (l : Int) - (n : Int) := by omega
    exact ⟨by rw [e]; rfl, rfl⟩
  · rw [leftR_no h]
    have d0 : decide ((l : Int) - (n : Int) < 0) = true := by simp; omega
    go_enter Tryz.func179, Tryz.ntmps179
    go_wp2
    go_ret
    exact ⟨rfl, rfl⟩
theorem szInt64S_l (w : World) (a : Option Addr) (n cap : Nat) (l : Nat) (hn : n ≤ maxLen) (hl : l ≤ 1048576) : Calls Tryz.prog 91 #[.slice a n cap, .int .i64 (l : Int)] w fun e w' => e = .returned (.int .i64 (leftR l n)) ∧ w' = w := by
  unfold maxLen at hn
  by_cases h : n ≤ l
  · rw [leftR_yes h]
    have d0 : decide ((l : Int) - (n : Int) < 0) = false := by simp; omega
    go_enter Tryz.func91, Tryz.ntmps91
    go_wp2
    go_ret
    have e : ((l - n : Nat) : Int) = (l : Int) - (n : Int) := by omega
    exact ⟨by rw [e]; rfl, rfl⟩
  · rw [leftR_no h]
    have d0 : decide ((l : Int) - (n : Int) < 0) = true := by simp; omega
    go_enter Tryz.func91, Tryz.ntmps91
    go_wp2
    go_ret
    exact ⟨rfl, rfl⟩
theorem szRecord_l (w : World) (k t r : Int) (a : Option Addr) (n cap : Nat) (l : Nat) (hn : n ≤ maxLen) (hl : l ≤ 1048576) : Calls Tryz.prog 146 #[.agg #[.int .i64 k, .int .i64 t, .int .i64 r, .slice a n cap], .int .i64 (l : Int)] w fun e w' => e = .returned (.int .i64 (leftR l n)) ∧ Below w.heap.size w w' := by
  have hz := fun W => szSetS_l W a n cap l hn hl
  by_cases h : n ≤ l
  · rw [leftR_yes h] at *
    have d0 : decide (((l - n : Nat) : Int) < 0) = false := by simp
    go_enter Tryz.func146, Tryz.ntmps146
    go_wp2_with (go_at_call 95; refine (hz _).mono ?_; rintro e w' ⟨rfl, rfl⟩)
    go_ret
    exact ⟨rfl, (Below.refl _ _).alloc (Nat.le_refl _) _⟩
  · rw [leftR_no h] at *
    go_enter Tryz.func146, Tryz.ntmps146
    go_wp2_with (go_at_call 95; refine (hz _).mono ?_; rintro e w' ⟨rfl, rfl⟩)
    go_ret
    exact ⟨rfl, (Below.refl _ _).alloc (Nat.le_refl _) _⟩
theorem szCopy_l (w : World) (r : Int) (a : Option Addr) (n cap : Nat) (l : Nat) (hn : n ≤ maxLen) (hl : l ≤ 1048576) : Calls Tryz.prog 145 #[.agg #[.int .i64 r, .slice a n cap], .int .i64 (l : Int)] w fun e w' => e = .returned (.int .i64 (leftR l n)) ∧ Below w.heap.size w w' := by
  have hz := fun W => szCellS_l W a n cap l hn hl
  by_cases h : n ≤ l
  · rw [leftR_yes h] at *
    have d0 : decide (((l - n : Nat) : Int) < 0) = false := by simp
    go_enter Tryz.func145, Tryz.ntmps145
    go_wp2_with (go_at_call 179; refine (hz _).mono ?_; rintro e w' ⟨rfl, rfl⟩)
    go_ret
    exact ⟨rfl, (Below.refl _ _).alloc (Nat.le_refl _) _⟩
  · rw [leftR_no h] at *
    go_enter Tryz.func145, Tryz.ntmps145
    go_wp2_with (go_at_call 179; refine (hz _).mono ?_; rintro e w' ⟨rfl, rfl⟩)
    go_ret
    exact ⟨rfl, (Below.refl _ _).alloc (Nat.le_refl _) _⟩
set_option maxHeartbeats 2000000 in
theorem szRecordS_l (w : World) (a : Option Addr) (n cap : Nat) (rs : List R4) (l : Nat) (hn : n ≤ maxLen) (hl0 : l ≤ 1048576) (hs : SlR w w.heap.size a n rs) (hl : ∀ r ∈ rs, r.sets.length ≤ maxLen) :
    Calls Tryz.prog 93 #[.slice a n cap, .int .i64 (l : Int)] w fun e w' => e = .returned (.int .i64 (leftR l (n + lensR rs))) ∧ Below w.heap.size w w' := by
  obtain ⟨hx, hs⟩ := hs
  have hn' := hn
  unfold maxLen at hn'
  by_cases h0 : n ≤ l
  · have d0 : decide ((l : Int) - (n : Int) < 0) = false := by simp; omega
    have el : (l : Int) - (n : Int) = ((l - n : Nat) : Int) := by omega
    go_enter Tryz.func93, Tryz.ntmps93
    go_wp2
    go_loopw [1, 5] (fun v1 v5 wr => ∃ j : Nat, j ≤ n ∧ v5 = .int .i64 j ∧ n + lensR (rs.take j) ≤ l ∧ v1 = .int .i64 ((l - (n + lensR (rs.take j)) : Nat) : Int) ∧ Below w.heap.size w wr) (fun _ v5 _ => n - (intOf v5).toNat)
    case atStart => exact ⟨0, Nat.zero_le _, rfl, by simpa [lensR] using h0, by simp [lensR]; try omega, Below.refl _ _⟩
    case round =>
      obtain ⟨j, hj, rfl, hle, rfl, hbl⟩ := hrel
      have KL : Hid (n + lensR (rs.take j) ≤ l ∧ rs.length = n) := ⟨hle, hx⟩
      clear el
      by_cases hlt : j < n
      · rcases hs with hs | ⟨b, off, rfl, hb, h1⟩
        · omega
        · have hat := h1 j _ (atR_of (by omega))
          obtain ⟨a', cap', hc, _, _⟩ := hat.c3
          have e0 := (hbl.cell (p := ⟨b, off + j * 4, none⟩) hb).trans hat.c0
          have e1 := (hbl.cell (p := ⟨b, off + j * 4 + 1, none⟩) hb).trans hat.c1
          have e2 := (hbl.cell (p := ⟨b, off + j * 4 + 2, none⟩) hb).trans hat.c2
          have e3 := (hbl.cell (p := ⟨b, off + j * 4 + 3, none⟩) hb).trans hc
          have hz := szRecord_l wr (atR rs j).kind (atR rs j).tx (atR rs j).region a' (atR rs j).sets.length cap' (l - (n + lensR (rs.take j))) (hl _ (List.mem_of_getElem? (atR_of (by omega)))) (by omega)
          have HST : Hid (lensR (rs.take (j + 1)) = lensR (rs.take j) + (atR rs j).sets.length) := by
            unfold Hid lensR
            rw [List.map_take, List.map_take]
            exact sum_take_succ (by rw [List.getElem?_map, atR_of (by omega)]; rfl)
          have HLE : Hid (lensR (rs.take (j + 1)) ≤ lensR rs) := by unfold Hid lensR; rw [List.map_take]; exact sum_take_le _ _
          have KB : Hid (Below w.heap.size w wr) := hbl
          generalize hLL : lensR (rs.take j) = LL at *
          generalize (atR rs j).sets.length = m at *
          generalize (atR rs j).kind = rk at *
          generalize (atR rs j).tx = rt at *
          generalize (atR rs j).region = rr at *
          clear h1 hc hbl hl hx hle hat
          by_cases hfit : m ≤ l - (n + LL)
          · rw [leftR_yes hfit] at hz
            have d1 : decide (((l - (n + LL) - m : Nat) : Int) < 0) = false := by simp
            go_wp2_with fail
            refine hz.mono ?_
            clear hz
            rintro e w1 ⟨rfl, b1⟩
            go_wp2
            have h1 := KL.out.1
            refine ⟨⟨j + 1, by omega, by simp, by rw [HST.out]; omega, by rw [HST.out]; congr 2; omega, KB.out.trans (b1.mono KB.out.size)⟩, by simp [intOf]; omega⟩
          · rw [leftR_no hfit] at hz
            go_wp2_with fail
            refine hz.mono ?_
            clear hz
            rintro e w1 ⟨rfl, b1⟩
            go_wp2
            go_ret
            have h2 := HST.out
            have h3 := HLE.out
            refine ⟨by rw [leftR_no (by omega)]; rfl, KB.out.trans (b1.mono KB.out.size)⟩
      · have : j = n := by omega
        subst this
        have hd : decide ((j : Int) < (j : Int)) = false := by simp
        have ht : rs.take j = rs := List.take_of_length_le (by omega)
        rw [ht] at hle ⊢
        clear hs hl KL ht
        go_wp2
        go_ret
        exact ⟨by rw [leftR_yes hle]; rfl, hbl⟩
  · have d0 : decide ((l : Int) - (n : Int) < 0) = true := by simp; omega
    go_enter Tryz.func93, Tryz.ntmps93
    go_wp2
    go_ret
    exact ⟨by rw [leftR_no (by omega)]; rfl, Below.refl _ _⟩
set_option maxHeartbeats 2000000 in
theorem szCopyS_l (w : World) (a : Option Addr) (n cap : Nat) (rs : List K2) (l : Nat) (hn : n ≤ maxLen) (hl0 : l ≤ 1048576) (hs : SlK w w.heap.size a n rs) (hl : ∀ r ∈ rs, r.cells.length ≤ maxLen) :
    Calls Tryz.prog 92 #[.slice a n cap, .int .i64 (l : Int)] w fun e w' => e = .returned (.int .i64 (leftR l (n + lensK rs))) ∧ Below w.heap.size w w' := by
  obtain ⟨hx, hs⟩ := hs
  have hn' := hn
  unfold maxLen at hn'
  by_cases h0 : n ≤ l
  · have d0 : decide ((l : Int) - (n : Int) < 0) = false := by simp; omega
    have el : (l : Int) - (n : Int) = ((l - n : Nat) : Int) := by omega
    go_enter Tryz.func92, Tryz.ntmps92
    go_wp2
    go_loopw [1, 5] (fun v1 v5 wr => ∃ j : Nat, j ≤ n ∧ v5 = .int .i64 j ∧ n + lensK (rs.take j) ≤ l ∧ v1 = .int .i64 ((l - (n + lensK (rs.take j)) : Nat) : Int) ∧ Below w.heap.size w wr) (fun _ v5 _ => n - (intOf v5).toNat)
    case atStart => exact ⟨0, Nat.zero_le _, rfl, by simpa [lensK] using h0, by simp [lensK]; try omega, Below.refl _ _⟩
    case round =>
      obtain ⟨j, hj, rfl, hle, rfl, hbl⟩ := hrel
      have KL : Hid (n + lensK (rs.take j) ≤ l ∧ rs.length = n) := ⟨hle, hx⟩
      clear el
      by_cases hlt : j < n
      · rcases hs with hs | ⟨b, off, rfl, hb, h1⟩
        · omega
        · have hat := h1 j _ (atK_of (by omega))
          obtain ⟨a', cap', hc, _, _⟩ := hat.c1
          have e0 := (hbl.cell (p := ⟨b, off + j * 2, none⟩) hb).trans hat.c0
          have e1 := (hbl.cell (p := ⟨b, off + j * 2 + 1, none⟩) hb).trans hc
          have hz := szCopy_l wr (atK rs j).region a' (atK rs j).cells.length cap' (l - (n + lensK (rs.take j))) (hl _ (List.mem_of_getElem? (atK_of (by omega)))) (by omega)
          have HST : Hid (lensK (rs.take (j + 1)) = lensK (rs.take j) + (atK rs j).cells.length) := by
            unfold Hid lensK
            rw [List.map_take, List.map_take]
            exact sum_take_succ (by rw [List.getElem?_map, atK_of (by omega)]; rfl)
          have HLE : Hid (lensK (rs.take (j + 1)) ≤ lensK rs) := by unfold Hid lensK; rw [List.map_take]; exact sum_take_le _ _
          have KB : Hid (Below w.heap.size w wr) := hbl
          generalize hLL : lensK (rs.take j) = LL at *
          generalize (atK rs j).cells.length = m at *
          generalize (atK rs j).region = rr at *
          clear h1 hc hbl hl hx hle hat
          by_cases hfit : m ≤ l - (n + LL)
          · rw [leftR_yes hfit] at hz
            have d1 : decide (((l - (n + LL) - m : Nat) : Int) < 0) = false := by simp
            go_wp2_with fail
            refine hz.mono ?_
            clear hz
            rintro e w1 ⟨rfl, b1⟩
            go_wp2
            have h1 := KL.out.1
            refine ⟨⟨j + 1, by omega, by simp, by rw [HST.out]; omega, by rw [HST.out]; congr 2; omega, KB.out.trans (b1.mono KB.out.size)⟩, by simp [intOf]; omega⟩
          · rw [leftR_no hfit] at hz
            go_wp2_with fail
            refine hz.mono ?_
            clear hz
            rintro e w1 ⟨rfl, b1⟩
            go_wp2
            go_ret
            have h2 := HST.out
            have h3 := HLE.out
            refine ⟨by rw [leftR_no (by omega)]; rfl, KB.out.trans (b1.mono KB.out.size)⟩
      · have : j = n := by omega
        subst this
        have hd : decide ((j : Int) < (j : Int)) = false := by simp
        have ht : rs.take j = rs := List.take_of_length_le (by omega)
        rw [ht] at hle ⊢
        clear hs hl KL ht
        go_wp2
        go_ret
        exact ⟨by rw [leftR_yes hle]; rfl, hbl⟩
  · have d0 : decide ((l : Int) - (n : Int) < 0) = true := by simp; omega
    go_enter Tryz.func92, Tryz.ntmps92
    go_wp2
    go_ret
    exact ⟨by rw [leftR_no (by omega)]; rfl, Below.refl _ _⟩
end Go.Proofs.YtdmpobegobfpjaaGreat
namespace Go.Proofs.YtdmpobegobfpjaaGreat
open Go.RowKit
open Go.Sort (grow)
theorem SetAt.regrown {w : World} {b o : Nat} {s : S5} (h : SetAt w b o s) (d : Nat) (os : Array Obj) : SetAt (grow (redrawn w d) os) b o s :=
  ⟨cell_regrown h.c0 d os, cell_regrown h.c1 d os, cell_regrown h.c2 d os, cell_regrown h.c3 d os, cell_regrown h.c4 d os⟩
set_option maxHeartbeats 1000000 in
theorem eqSet_same (w : World) (s : S5) : Calls Tryz.prog 170 #[.agg #[.int .i64 s.region, .int .i64 s.slot, .int .i64 s.value, .bool s.used, .int .i64 s.version], .agg #[.int .i64 s.region, .int .i64 s.slot, .int .i64 s.value, .bool s.used, .int .i64 s.version]] w fun e w' =>
    e = .returned (.bool true) ∧ Below w.heap.size w w' := by
  obtain ⟨r, l, v, u, x⟩ := s
  go_enter Tryz.func170, Tryz.ntmps170
  go_wp2
  go_ret
  exact ⟨rfl, ((Below.refl _ _).alloc (Nat.le_refl _) _).alloc (by simp) _⟩
set_option maxHeartbeats 1000000 in
theorem eqSetS_some (w : World) (b off cap b' off' cap' n : Nat) (xs : List S5) (hx : xs.length = n) (hn : n ≤ maxLen) (h1 : SetsAt w b off xs) (hb : b < w.heap.size) (h2 : SetsAt w b' off' xs) (hb' : b' < w.heap.size) :
    Calls Tryz.prog 130 #[.slice (some ⟨b, off, none⟩) n cap, .slice (some ⟨b', off', none⟩) n cap'] w fun e w' => e = .returned (.bool true) ∧ Below w.heap.size w w' := by
  unfold maxLen at hn
  go_enter Tryz.func130, Tryz.ntmps130
  go_wp2
  go_loopw [5] (fun i wr => ∃ k : Nat, k ≤ n ∧ i = .int .i64 k ∧ Below w.heap.size w wr) (fun i _ => n - (intOf i).toNat)
  case atStart => exact ⟨0, Nat.zero_le _, rfl, Below.refl _ _⟩
  case round =>
    obtain ⟨k, hk, rfl, hbl⟩ := hrel
    by_cases hlt : k < n
    · obtain ⟨s, hsk⟩ : ∃ s, xs[k]? = some s := ⟨xs[k]'(by omega), by simp⟩
      have t1 := (((h1 k s hsk).below hbl hb).regrown)
      have t2 := (((h2 k s hsk).below hbl hb').regrown)
      have c0 := fun d os => (t1 d os).c0
      have c1 := fun d os => (t1 d os).c1
      have c2 := fun d os => (t1 d os).c2
      have c3 := fun d os => (t1 d os).c3
      have c4 := fun d os => (t1 d os).c4
      have e0 := fun d os => (t2 d os).c0
      have e1 := fun d os => (t2 d os).c1
      have e2 := fun d os => (t2 d os).c2
      have e3 := fun d os => (t2 d os).c3
      have e4 := fun d os => (t2 d os).c4
      have cQ : ∀ d os, Calls Tryz.prog 170 #[.agg #[.int .i64 s.region, .int .i64 s.slot, .int .i64 s.value, .bool s.used, .int .i64 s.version], .agg #[.int .i64 s.region, .int .i64 s.slot, .int .i64 s.value, .bool s.used, .int .i64 s.version]] (grow (redrawn wr d) os) fun e w'' => e = .returned (.bool true) ∧ ∃ p : Regrown, w'' = grow (redrawn wr p.d) p.os := fun d os => Calls.regrown_of (eqSet_same _ s)
      have K : Hid (Below w.heap.size w wr) := hbl
      clear t1 t2 hbl hsk h1 h2
      go_wp2_with fail
      refine wp_region_quiet_below (by kernel_rfl) (by kernel_rfl) ?_
      repeat (quiet_step (exact cQ _ _))
      refine wpQuiet_nil ?_
      intro _ hw'
      obtain ⟨⟨dq, osq⟩, hw''⟩ := hw'
      subst hw''
      have bq := below_regrown wr dq osq
      go_wp2
      exact ⟨⟨k + 1, by omega, by simp, K.out.trans (bq.mono K.out.size)⟩, by simp [intOf]; omega⟩
    · have : k = n := by omega
      subst this
      have hd : decide (k < k) = false := by simp
      go_wp2
      go_ret
      exact ⟨rfl, hbl⟩
theorem eqSetS_none (w : World) (a a' : Option Addr) (cap cap' : Nat) : Calls Tryz.prog 130 #[.slice a 0 cap, .slice a' 0 cap'] w fun e w' => e = .returned (.bool true) ∧ Below w.heap.size w w' := by
  go_enter Tryz.func130, Tryz.ntmps130
  go_wp2
  go_loopw [5] (fun i wr => i = .int .i64 0 ∧ Below w.heap.size w wr) (fun _ _ => 0)
  case atStart => exact ⟨rfl, Below.refl _ _⟩
  case round =>
    obtain ⟨rfl, hbl⟩ := hrel
    go_wp2
    go_ret
    exact ⟨rfl, hbl⟩
theorem eqSetS_any (w : World) (a a' : Option Addr) (n cap cap' : Nat) (xs : List S5) (hn : n ≤ maxLen) (h1 : Sl w w.heap.size a n xs) (h2 : Sl w w.heap.size a' n xs) :
    Calls Tryz.prog 130 #[.slice a n cap, .slice a' n cap'] w fun e w' => e = .returned (.bool true) ∧ Below w.heap.size w w' := by
  obtain ⟨hx, h1⟩ := h1
  obtain ⟨_, h2⟩ := h2
  rcases h1 with rfl | ⟨b, off, rfl, hb, h1⟩
  · exact eqSetS_none w a a' cap cap'
  · rcases h2 with rfl | ⟨b', off', rfl, hb', h2⟩
    · exact eqSetS_none w _ a' cap cap'
    · exact eqSetS_some w b off cap b' off' cap' n xs hx hn h1 hb h2 hb'
set_option maxHeartbeats 1000000 in
theorem eqRecord_same (w : World) (k t r : Int) (a a' : Option Addr) (n cap cap' : Nat) (xs : List S5) (hn : n ≤ maxLen) (h1 : Sl w w.heap.size a n xs) (h2 : Sl w w.heap.size a' n xs) :
    Calls Tryz.prog 168 #[.agg #[.int .i64 k, .int .i64 t, .int .i64 r, .slice a n cap], .agg #[.int .i64 k, .int .i64 t, .int .i64 r, .slice a' n cap']] w fun e w' => e = .returned (.bool true) ∧ Below w.heap.size w w' := by
  go_enter Tryz.func168, Tryz.ntmps168
  go_wp2_with fail
  have b0 : Below w.heap.size w ((w.alloc (.cells #[.int .i64 k, .int .i64 t, .int .i64 r, .slice a n cap] 143)).alloc (.cells #[.int .i64 k, .int .i64 t, .int .i64 r, .slice a' n cap'] 143)) := ((Below.refl _ _).alloc (Nat.le_refl _) _).alloc (by simp) _
  refine (eqSetS_any _ a a' n cap cap' xs hn ((h1.below b0).mono b0.size) ((h2.below b0).mono b0.size)).mono ?_
  rintro e w' ⟨rfl, b1⟩
  go_wp2
  go_ret
  exact ⟨rfl, b0.trans (b1.mono b0.size)⟩
theorem eqCopy_same (w : World) (r : Int) (a a' : Option Addr) (n cap cap' : Nat) (xs : List C2) (hn : n ≤ maxLen) (h1 : SlC w w.heap.size a n xs) (h2 : SlC w w.heap.size a' n xs) :
    Calls Tryz.prog 167 #[.agg #[.int .i64 r, .slice a n cap], .agg #[.int .i64 r, .slice a' n cap']] w fun e w' => e = .returned (.bool true) ∧ Below w.heap.size w w' := by
  go_enter Tryz.func167, Tryz.ntmps167
  go_wp2_with fail
  have b0 : Below w.heap.size w ((w.alloc (.cells #[.int .i64 r, .slice a n cap] 79)).alloc (.cells #[.int .i64 r, .slice a' n cap'] 79)) := ((Below.refl _ _).alloc (Nat.le_refl _) _).alloc (by simp) _
  refine (eqCellS_any _ a a' n cap cap' xs hn (h1.later b0) (h2.later b0)).mono ?_
  rintro e w' ⟨rfl, b1⟩
  go_wp2
  go_ret
  exact ⟨rfl, b0.trans (b1.mono b0.size)⟩
set_option maxHeartbeats 2000000 in
theorem eqRecordS_any (w : World) (a a' : Option Addr) (n cap cap' : Nat) (rs : List R4) (hn : n ≤ maxLen) (hl : ∀ r ∈ rs, r.sets.length ≤ maxLen) (h1 : SlR w w.heap.size a n rs) (h2 : SlR w w.heap.size a' n rs) :
    Calls Tryz.prog 128 #[.slice a n cap, .slice a' n cap'] w fun e w' => e = .returned (.bool true) ∧ Below w.heap.size w w' := by
  unfold maxLen at hn
  obtain ⟨hx, h1⟩ := h1
  obtain ⟨_, h2⟩ := h2
  go_enter Tryz.func128, Tryz.ntmps128
  go_wp2
  go_loopw [5] (fun i wr => ∃ k : Nat, k ≤ n ∧ i = .int .i64 k ∧ Below w.heap.size w wr) (fun i _ => n - (intOf i).toNat)
  case atStart => exact ⟨0, Nat.zero_le _, rfl, Below.refl _ _⟩
  case round =>
    obtain ⟨k, hk, rfl, hbl⟩ := hrel
    by_cases hlt : k < n
    · rcases h1 with h1 | ⟨b, off, rfl, hb, h1⟩
      · omega
      · rcases h2 with h2 | ⟨b', off', rfl, hb', h2⟩
        · omega
        · have t1 := ((h1 k _ (atR_of (by omega))).below (hbl.mono (Nat.le_refl _)) hb).mono hbl.size
          have t2 := ((h2 k _ (atR_of (by omega))).below (hbl.mono (Nat.le_refl _)) hb').mono hbl.size
          have hll := hl _ (List.mem_of_getElem? (atR_of (rs := rs) (i := k) (by omega)))
          have hbW : b < wr.heap.size := Nat.lt_of_lt_of_le hb hbl.size
          have hbW' : b' < wr.heap.size := Nat.lt_of_lt_of_le hb' hbl.size
          obtain ⟨a1, k1, d1, s1, _⟩ := t1.c3
          obtain ⟨a2, k2, d2, s2, _⟩ := t2.c3
          have x0 : ∀ d os, (grow (redrawn wr d) os).cell? ⟨b, off + k * 4, none⟩ = some (.int .i64 (atR rs k).kind) := fun d os => ((below_regrown wr d os).cell (p := ⟨b, off + k * 4, none⟩) hbW).trans t1.c0
          have x1 : ∀ d os, (grow (redrawn wr d) os).cell? ⟨b, off + k * 4 + 1, none⟩ = some (.int .i64 (atR rs k).tx) := fun d os => ((below_regrown wr d os).cell (p := ⟨b, off + k * 4 + 1, none⟩) hbW).trans t1.c1
          have x2 : ∀ d os, (grow (redrawn wr d) os).cell? ⟨b, off + k * 4 + 2, none⟩ = some (.int .i64 (atR rs k).region) := fun d os => ((below_regrown wr d os).cell (p := ⟨b, off + k * 4 + 2, none⟩) hbW).trans t1.c2
          have x3 : ∀ d os, (grow (redrawn wr d) os).cell? ⟨b, off + k * 4 + 3, none⟩ = some (.slice a1 (atR rs k).sets.length k1) := fun d os => ((below_regrown wr d os).cell (p := ⟨b, off + k * 4 + 3, none⟩) hbW).trans d1
          have y0 : ∀ d os, (grow (redrawn wr d) os).cell? ⟨b', off' + k * 4, none⟩ = some (.int .i64 (atR rs k).kind) := fun d os => ((below_regrown wr d os).cell (p := ⟨b', off' + k * 4, none⟩) hbW').trans t2.c0
          have y1 : ∀ d os, (grow (redrawn wr d) os).cell? ⟨b', off' + k * 4 + 1, none⟩ = some (.int .i64 (atR rs k).tx) := fun d os => ((below_regrown wr d os).cell (p := ⟨b', off' + k * 4 + 1, none⟩) hbW').trans t2.c1
          have y2 : ∀ d os, (grow (redrawn wr d) os).cell? ⟨b', off' + k * 4 + 2, none⟩ = some (.int .i64 (atR rs k).region) := fun d os => ((below_regrown wr d os).cell (p := ⟨b', off' + k * 4 + 2, none⟩) hbW').trans t2.c2
          have y3 : ∀ d os, (grow (redrawn wr d) os).cell? ⟨b', off' + k * 4 + 3, none⟩ = some (.slice a2 (atR rs k).sets.length k2) := fun d os => ((below_regrown wr d os).cell (p := ⟨b', off' + k * 4 + 3, none⟩) hbW').trans d2
          have cQ : ∀ d os, Calls Tryz.prog 168 #[.agg #[.int .i64 (atR rs k).kind, .int .i64 (atR rs k).tx, .int .i64 (atR rs k).region, .slice a1 (atR rs k).sets.length k1], .agg #[.int .i64 (atR rs k).kind, .int .i64 (atR rs k).tx, .int .i64 (atR rs k).region, .slice a2 (atR rs k).sets.length k2]] (grow (redrawn wr d) os) fun e w'' => e = .returned (.bool true) ∧ ∃ p : Regrown, w'' = grow (redrawn wr p.d) p.os := fun d os => Calls.regrown_of (eqRecord_same _ (atR rs k).kind (atR rs k).tx (atR rs k).region a1 a2 _ k1 k2 (atR rs k).sets hll ((s1.below (below_regrown wr d os)).mono (below_regrown wr d os).size) ((s2.below (below_regrown wr d os)).mono (below_regrown wr d os).size))
          have K : Hid (Below w.heap.size w wr) := hbl
          clear t1 t2 hbl h1 h2 s1 s2 d1 d2 hl hll hx
          go_wp2_with fail
          refine wp_region_quiet_below (by kernel_rfl) (by kernel_rfl) ?_
          repeat (go_big_quiet_step (exact cQ _ _))
          refine wpQuiet_nil ?_
          intro _ hw'
          obtain ⟨⟨dq, osq⟩, hw''⟩ := hw'
          subst hw''
          have bq := below_regrown wr dq osq
          go_wp2
          exact ⟨⟨k + 1, by omega, by simp, K.out.trans (bq.mono K.out.size)⟩, by simp [intOf]; omega⟩
    · have : k = n := by omega
      subst this
      have hd : decide (k < k) = false := by simp
      clear h1 h2
      go_wp2
      go_ret
      exact ⟨rfl, hbl⟩
set_option maxHeartbeats 2000000 in
theorem eqCopyS_any (w : World) (a a' : Option Addr) (n cap cap' : Nat) (rs : List K2) (hn : n ≤ maxLen) (hl : ∀ r ∈ rs, r.cells.length ≤ maxLen) (h1 : SlK w w.heap.size a n rs) (h2 : SlK w w.heap.size a' n rs) :
    Calls Tryz.prog 127 #[.slice a n cap, .slice a' n cap'] w fun e w' => e = .returned (.bool true) ∧ Below w.heap.size w w' := by
  unfold maxLen at hn
  obtain ⟨hx, h1⟩ := h1
  obtain ⟨_, h2⟩ := h2
  go_enter Tryz.func127, Tryz.ntmps127
  go_wp2
  go_loopw [5] (fun i wr => ∃ k : Nat, k ≤ n ∧ i = .int .i64 k ∧ Below w.heap.size w wr) (fun i _ => n - (intOf i).toNat)
  case atStart => exact ⟨0, Nat.zero_le _, rfl, Below.refl _ _⟩
  case round =>
    obtain ⟨k, hk, rfl, hbl⟩ := hrel
    by_cases hlt : k < n
    · rcases h1 with h1 | ⟨b, off, rfl, hb, h1⟩
      · omega
      · rcases h2 with h2 | ⟨b', off', rfl, hb', h2⟩
        · omega
        · have t1 := ((h1 k _ (atK_of (by omega))).below (hbl.mono (Nat.le_refl _)) hb).mono hbl.size
          have t2 := ((h2 k _ (atK_of (by omega))).below (hbl.mono (Nat.le_refl _)) hb').mono hbl.size
          have hll := hl _ (List.mem_of_getElem? (atK_of (ks := rs) (i := k) (by omega)))
          have hbW : b < wr.heap.size := Nat.lt_of_lt_of_le hb hbl.size
          have hbW' : b' < wr.heap.size := Nat.lt_of_lt_of_le hb' hbl.size
          obtain ⟨a1, k1, d1, s1, _⟩ := t1.c1
          obtain ⟨a2, k2, d2, s2, _⟩ := t2.c1
          have x0 : ∀ d os, (grow (redrawn wr d) os).cell? ⟨b, off + k * 2, none⟩ = some (.int .i64 (atK rs k).region) := fun d os => ((below_regrown wr d os).cell (p := ⟨b, off + k * 2, none⟩) hbW).trans t1.c0
          have x1 : ∀ d os, (grow (redrawn wr d) os).cell? ⟨b, off + k * 2 + 1, none⟩ = some (.slice a1 (atK rs k).cells.length k1) := fun d os => ((below_regrown wr d os).cell (p := ⟨b, off + k * 2 + 1, none⟩) hbW).trans d1
          have y0 : ∀ d os, (grow (redrawn wr d) os).cell? ⟨b', off' + k * 2, none⟩ = some (.int .i64 (atK rs k).region) := fun d os => ((below_regrown wr d os).cell (p := ⟨b', off' + k * 2, none⟩) hbW').trans t2.c0
          have y1 : ∀ d os, (grow (redrawn wr d) os).cell? ⟨b', off' + k * 2 + 1, none⟩ = some (.slice a2 (atK rs k).cells.length k2) := fun d os => ((below_regrown wr d os).cell (p := ⟨b', off' + k * 2 + 1, none⟩) hbW').trans d2
          have cQ : ∀ d os, Calls Tryz.prog 167 #[.agg #[.int .i64 (atK rs k).region, .slice a1 (atK rs k).cells.length k1], .agg #[.int .i64 (atK rs k).region, .slice a2 (atK rs k).cells.length k2]] (grow (redrawn wr d) os) fun e w'' => e = .returned (.bool true) ∧ ∃ p : Regrown, w'' = grow (redrawn wr p.d) p.os := fun d os => Calls.regrown_of (eqCopy_same _ (atK rs k).region a1 a2 _ k1 k2 (atK rs k).cells hll ((s1.below (below_regrown wr d os)).mono (below_regrown wr d os).size) ((s2.below (below_regrown wr d os)).mono (below_regrown wr d os).size))
          have K : Hid (Below w.heap.size w wr) := hbl
          clear t1 t2 hbl h1 h2 s1 s2 d1 d2 hl hll hx
          go_wp2_with fail
          refine wp_region_quiet_below (by kernel_rfl) (by kernel_rfl) ?_
          repeat (go_big_quiet_step (exact cQ _ _))
          refine wpQuiet_nil ?_
          intro _ hw'
          obtain ⟨⟨dq, osq⟩, hw''⟩ := hw'
          subst hw''
          have bq := below_regrown wr dq osq
          go_wp2
          exact ⟨⟨k + 1, by omega, by simp, K.out.trans (bq.mono K.out.size)⟩, by simp [intOf]; omega⟩
    · have : k = n := by omega
      subst this
      have hd : decide (k < k) = false := by simp
      clear h1 h2
      go_wp2
      go_ret
      exact ⟨rfl, hbl⟩
structure ML (m : M4) : Prop where
  k : m.copies.length ≤ maxLen
  ks : ∀ r ∈ m.copies, r.cells.length ≤ maxLen
  r : m.log.length ≤ maxLen
  rs : ∀ r ∈ m.log, r.sets.length ≤ maxLen
  n : m.cleared.length ≤ maxLen
theorem eqMachine_same (w : World) (v v' : MV) (m : M4) (hl : ML m) (h1 : SlM w v m) (h2 : SlM w v' m) : Calls Tryz.prog 73 #[v.val m, v'.val m] w fun e w' => e = .returned (.bool true) ∧ Below w.heap.size w w' := by
  obtain ⟨ac, cc, al, cl, ad, cd⟩ := v
  obtain ⟨ac', cc', al', cl', ad', cd'⟩ := v'
  have H : Hid (SlM w ⟨ac, cc, al, cl, ad, cd⟩ m ∧ SlM w ⟨ac', cc', al', cl', ad', cd'⟩ m ∧ ML m) := ⟨h1, h2, hl⟩
  clear h1 h2 hl
  simp only [MV.val]
  have qa : (m.alive != m.alive) = false := by cases m.alive <;> rfl
  go_enter Tryz.func73, Tryz.ntmps73
  go_wp2_with fail
  have b0 : Below w.heap.size w ((w.alloc (.cells #[.bool m.alive, .slice ac m.copies.length cc, .slice al m.log.length cl, .slice ad m.cleared.length cd] 83)).alloc (.cells #[.bool m.alive, .slice ac' m.copies.length cc', .slice al' m.log.length cl', .slice ad' m.cleared.length cd'] 83)) := ((Below.refl _ _).alloc (Nat.le_refl _) _).alloc (by simp) _
  have B0 : Hid _ := b0
  have u2 : ((w.alloc (.cells #[.bool m.alive, .slice ac m.copies.length cc, .slice al m.log.length cl, .slice ad m.cleared.length cd] 83)).alloc (.cells #[.bool m.alive, .slice ac' m.copies.length cc', .slice al' m.log.length cl', .slice ad' m.cleared.length cd'] 83)).cell? ⟨w.heap.size, 2, none⟩ = some (.slice al m.log.length cl) := by go_simp
  have u3 : ((w.alloc (.cells #[.bool m.alive, .slice ac m.copies.length cc, .slice al m.log.length cl, .slice ad m.cleared.length cd] 83)).alloc (.cells #[.bool m.alive, .slice ac' m.copies.length cc', .slice al' m.log.length cl', .slice ad' m.cleared.length cd'] 83)).cell? ⟨w.heap.size, 3, none⟩ = some (.slice ad m.cleared.length cd) := by go_simp
  have v2 : ((w.alloc (.cells #[.bool m.alive, .slice ac m.copies.length cc, .slice al m.log.length cl, .slice ad m.cleared.length cd] 83)).alloc (.cells #[.bool m.alive, .slice ac' m.copies.length cc', .slice al' m.log.length cl', .slice ad' m.cleared.length cd'] 83)).cell? ⟨w.heap.size + 1, 2, none⟩ = some (.slice al' m.log.length cl') := by go_simp
  have v3 : ((w.alloc (.cells #[.bool m.alive, .slice ac m.copies.length cc, .slice al m.log.length cl, .slice ad m.cleared.length cd] 83)).alloc (.cells #[.bool m.alive, .slice ac' m.copies.length cc', .slice al' m.log.length cl', .slice ad' m.cleared.length cd'] 83)).cell? ⟨w.heap.size + 1, 3, none⟩ = some (.slice ad' m.cleared.length cd') := by go_simp
  have sU : w.heap.size + 1 < ((w.alloc (.cells #[.bool m.alive, .slice ac m.copies.length cc, .slice al m.log.length cl, .slice ad m.cleared.length cd] 83)).alloc (.cells #[.bool m.alive, .slice ac' m.copies.length cc', .slice al' m.log.length cl', .slice ad' m.cleared.length cd'] 83)).heap.size := by simp
  generalize ((w.alloc (.cells #[.bool m.alive, .slice ac m.copies.length cc, .slice al m.log.length cl, .slice ad m.cleared.length cd] 83)).alloc (.cells #[.bool m.alive, .slice ac' m.copies.length cc', .slice al' m.log.length cl', .slice ad' m.cleared.length cd'] 83)) = U at *
  have SU : Hid (w.heap.size + 1 < U.heap.size ∧ Below w.heap.size w U) := ⟨sU, b0⟩
  refine (eqCopyS_any U ac ac' m.copies.length cc cc' m.copies H.out.2.2.k H.out.2.2.ks (H.out.1.later b0).k (H.out.2.1.later b0).k).mono ?_
  clear b0 sU B0
  rintro e w1 ⟨rfl, b1⟩
  have l0 : w.heap.size < U.heap.size := by have := SU.out.1; omega
  have c2 := (b1.cell (p := ⟨w.heap.size, 2, none⟩) l0).trans u2
  have c3 := (b1.cell (p := ⟨w.heap.size, 3, none⟩) l0).trans u3
  have d2 := (b1.cell (p := ⟨w.heap.size + 1, 2, none⟩) SU.out.1).trans v2
  have d3 := (b1.cell (p := ⟨w.heap.size + 1, 3, none⟩) SU.out.1).trans v3
  have B1 : Hid (Below w.heap.size w w1 ∧ U.heap.size ≤ w1.heap.size) := ⟨SU.out.2.trans (b1.mono SU.out.2.size), b1.size⟩
  clear u2 u3 v2 v3 b1 l0
  go_wp2_with fail
  refine (eqRecordS_any w1 al al' m.log.length cl cl' m.log H.out.2.2.r H.out.2.2.rs (H.out.1.later B1.out.1).r (H.out.2.1.later B1.out.1).r).mono ?_
  rintro e w2 ⟨rfl, b2⟩
  have l1 : w.heap.size + 1 < w1.heap.size := by have := SU.out.1; have := B1.out.2; omega
  have x3 := (b2.cell (p := ⟨w.heap.size, 3, none⟩) (by show w.heap.size < _; omega)).trans c3
  have y3 := (b2.cell (p := ⟨w.heap.size + 1, 3, none⟩) l1).trans d3
  have B2 : Hid (Below w.heap.size w w2) := B1.out.1.trans (b2.mono B1.out.1.size)
  clear c2 c3 d2 d3 b2 l1
  go_wp2_with fail
  refine (eqInt64S_any w2 ad ad' m.cleared.length cd cd' m.cleared H.out.2.2.n (H.out.1.later B2.out).n (H.out.2.1.later B2.out).n).mono ?_
  rintro e w3 ⟨rfl, b3⟩
  go_wp2
  go_ret
  exact ⟨rfl, B2.out.trans (b3.mono B2.out.size)⟩
def szM (m : M4) : Nat := (m.copies.length + lensK m.copies) + (m.log.length + lensR m.log) + m.cleared.length
theorem szMachine_any (w : World) (v : MV) (m : M4) (hl : ML m) (hs : SlM w v m) : Calls Tryz.prog 51 #[v.val m, .int .i64 1048576] w fun e w' => e = .returned (.int .i64 (leftR 1048576 (szM m))) ∧ Below w.heap.size w w' := by
  obtain ⟨ac, cc, al, cl, ad, cd⟩ := v
  have H : Hid (SlM w ⟨ac, cc, al, cl, ad, cd⟩ m ∧ ML m) := ⟨hs, hl⟩
  clear hs hl
  simp only [MV.val]
  have HM : Hid (szM m = (m.copies.length + lensK m.copies) + (m.log.length + lensR m.log) + m.cleared.length) := rfl
  have b0 : Below w.heap.size w (w.alloc (.cells #[.bool m.alive, .slice ac m.copies.length cc, .slice al m.log.length cl, .slice ad m.cleared.length cd] 92)) := (Below.refl _ _).alloc (Nat.le_refl _) _
  have u2 : (w.alloc (.cells #[.bool m.alive, .slice ac m.copies.length cc, .slice al m.log.length cl, .slice ad m.cleared.length cd] 92)).cell? ⟨w.heap.size, 2, none⟩ = some (.slice al m.log.length cl) := by go_simp
  have u3 : (w.alloc (.cells #[.bool m.alive, .slice ac m.copies.length cc, .slice al m.log.length cl, .slice ad m.cleared.length cd] 92)).cell? ⟨w.heap.size, 3, none⟩ = some (.slice ad m.cleared.length cd) := by go_simp
  have sU : w.heap.size < (w.alloc (.cells #[.bool m.alive, .slice ac m.copies.length cc, .slice al m.log.length cl, .slice ad m.cleared.length cd] 92)).heap.size := by simp
  have hz1 : Calls Tryz.prog 92 #[.slice ac m.copies.length cc, .int .i64 1048576] (w.alloc (.cells #[.bool m.alive, .slice ac m.copies.length cc, .slice al m.log.length cl, .slice ad m.cleared.length cd] 92)) fun e w' => e = .returned (.int .i64 (leftR 1048576 (m.copies.length + lensK m.copies))) ∧ Below (w.alloc (.cells #[.bool m.alive, .slice ac m.copies.length cc, .slice al m.log.length cl, .slice ad m.cleared.length cd] 92)).heap.size (w.alloc (.cells #[.bool m.alive, .slice ac m.copies.length cc, .slice al m.log.length cl, .slice ad m.cleared.length cd] 92)) w' := szCopyS_l (w.alloc (.cells #[.bool m.alive, .slice ac m.copies.length cc, .slice al m.log.length cl, .slice ad m.cleared.length cd] 92)) ac m.copies.length cc m.copies 1048576 H.out.2.k (Nat.le_refl _) (H.out.1.later b0).k H.out.2.ks
  have hz2 := fun W l (h : Below w.heap.size w W) (hl : l ≤ 1048576) => szRecordS_l W al m.log.length cl m.log l H.out.2.r hl (H.out.1.later h).r H.out.2.rs
  have hz3 := fun W l (hl : l ≤ 1048576) => szInt64S_l W ad m.cleared.length cd l H.out.2.n hl
  obtain ⟨A, hA⟩ : ∃ A, m.copies.length + lensK m.copies = A := ⟨_, rfl⟩
  obtain ⟨Bn, hB⟩ : ∃ Bn, m.log.length + lensR m.log = Bn := ⟨_, rfl⟩
  obtain ⟨Cn, hC⟩ : ∃ Cn, m.cleared.length = Cn := ⟨_, rfl⟩
  rw [HM.out]
  simp only [hA, hB] at hz1 hz2 ⊢
  have HZ2 : Hid (∀ (W : World) (l : Nat), Below w.heap.size w W → l ≤ 1048576 → Calls Tryz.prog 93 #[.slice al m.log.length cl, .int .i64 (l : Int)] W fun e w' => e = .returned (.int .i64 (leftR l Bn)) ∧ Below W.heap.size W w') := hz2
  have HZ3 : Hid (∀ (W : World) (l : Nat), l ≤ 1048576 → Calls Tryz.prog 91 #[.slice ad m.cleared.length cd, .int .i64 (l : Int)] W fun e w' => e = .returned (.int .i64 (leftR l m.cleared.length)) ∧ w' = W) := hz3
  have SU : Hid (w.heap.size < (w.alloc (.cells #[.bool m.alive, .slice ac m.copies.length cc, .slice al m.log.length cl, .slice ad m.cleared.length cd] 92)).heap.size ∧ Below w.heap.size w (w.alloc (.cells #[.bool m.alive, .slice ac m.copies.length cc, .slice al m.log.length cl, .slice ad m.cleared.length cd] 92))) := ⟨sU, b0⟩
  clear hA hB hC hz2 hz3 sU b0 HM
  by_cases h1 : A ≤ 1048576
  · rw [leftR_yes h1] at hz1
    have g1 : decide (((1048576 - A : Nat) : Int) < 0) = false := by simp
    go_enter Tryz.func51, Tryz.ntmps51
    go_wp2_with fail
    refine hz1.mono ?_
    clear hz1
    rintro e w1 ⟨rfl, b1⟩
    have c2 := (b1.cell (p := ⟨w.heap.size, 2, none⟩) SU.out.1).trans u2
    have c3 := (b1.cell (p := ⟨w.heap.size, 3, none⟩) SU.out.1).trans u3
    have B1 : Hid (Below w.heap.size w w1 ∧ w.heap.size < w1.heap.size) := ⟨SU.out.2.trans (b1.mono SU.out.2.size), Nat.lt_of_lt_of_le SU.out.1 b1.size⟩
    clear u2 u3 b1
    go_wp2_with fail
    have hz := HZ2.out w1 (1048576 - A) B1.out.1 (by omega)
    by_cases h2 : Bn ≤ 1048576 - A
    · rw [leftR_yes h2] at hz
      have g2 : decide (((1048576 - A - Bn : Nat) : Int) < 0) = false := by simp
      refine hz.mono ?_
      clear hz
      rintro e w2 ⟨rfl, b2⟩
      have x3 := (b2.cell (p := ⟨w.heap.size, 3, none⟩) B1.out.2).trans c3
      have B2 : Hid (Below w.heap.size w w2) := B1.out.1.trans (b2.mono B1.out.1.size)
      clear c2 c3 b2
      go_wp2_with fail
      have hz := HZ3.out w2 (1048576 - A - Bn) (by omega)
      by_cases h3 : m.cleared.length ≤ 1048576 - A - Bn
      · rw [leftR_yes h3] at hz
        have g3 : decide (((1048576 - A - Bn - m.cleared.length : Nat) : Int) < 0) = false := by simp
        refine hz.mono ?_
        clear hz
        rintro e w2 ⟨rfl, rfl⟩
        go_wp2
        go_ret
        exact ⟨by rw [leftR_yes (by omega), show 1048576 - (A + Bn + m.cleared.length) = 1048576 - A - Bn - m.cleared.length by omega]; rfl, B2.out⟩
      · rw [leftR_no h3] at hz
        refine hz.mono ?_
        clear hz
        rintro e w2 ⟨rfl, rfl⟩
        go_wp2
        go_ret
        exact ⟨by rw [leftR_no (by omega)]; rfl, B2.out⟩
    · rw [leftR_no h2] at hz
      refine hz.mono ?_
      clear hz
      rintro e w2 ⟨rfl, b2⟩
      have B2 : Hid (Below w.heap.size w w2) := B1.out.1.trans (b2.mono B1.out.1.size)
      clear b2
      go_wp2
      go_ret
      exact ⟨by rw [leftR_no (by omega)]; rfl, B2.out⟩
  · rw [leftR_no h1] at hz1
    go_enter Tryz.func51, Tryz.ntmps51
    go_wp2_with fail
    refine hz1.mono ?_
    clear hz1
    rintro e w1 ⟨rfl, b1⟩
    have B1 : Hid (Below w.heap.size w w1) := SU.out.2.trans (b1.mono SU.out.2.size)
    clear b1
    go_wp2
    go_ret
    exact ⟨by rw [leftR_no (by omega)]; rfl, B1.out⟩
end Go.Proofs.YtdmpobegobfpjaaGreat
namespace Go.Proofs.YtdmpobegobfpjaaGreat
open Go.RowKit
def OwnL {α : Type} (sz : Nat) (hd : α → List Int) (ln : α → Nat) (At : World → Nat → α → Prop) (w : World) (P : Nat → Prop) (a : Option Addr) (rs : List α) : Prop :=
  rs = [] ∨ ∃ b g, a = some ⟨b, 0, none⟩ ∧ P b ∧ (∀ i, i < rs.length → P (g i)) ∧ b < w.heap.size ∧ Room w b (rs.length * sz) ∧ OwnG sz hd ln At w 0 b rs.length rs g
def OwnN (w : World) (P : Nat → Prop) (a : Option Addr) (zs : List Int) : Prop := zs = [] ∨ ∃ b, a = some ⟨b, 0, none⟩ ∧ P b ∧ b < w.heap.size ∧ NumsAt w b 0 zs ∧ Room w b zs.length
theorem OwnL.keep {α : Type} {sz : Nat} {hd : α → List Int} {ln : α → Nat} {At : World → Nat → α → Prop} (hAt : ∀ (w w' : World) (b : Nat) (r : α), w'.heap[b]? = w.heap[b]? → At w b r → At w' b r) {w w' : World} {P : Nat → Prop} {a : Option Addr} {rs : List α} (h : OwnL sz hd ln At w P a rs) (hs : w.heap.size ≤ w'.heap.size) (hk : ∀ q, q < w.heap.size → P q → w'.heap[q]? = w.heap[q]?) : OwnL sz hd ln At w' P a rs := by
  rcases h with h | ⟨b, g, ha, hp, hg, hl, hr, ho⟩
  · exact .inl h
  · exact .inr ⟨b, g, ha, hp, hg, Nat.lt_of_lt_of_le hl hs, hr.of_block (hk b hl hp), ho.of_blocks hAt hs (hk b hl hp) (fun i hi => hk _ (ho.lt i hi) (hg i hi))⟩
theorem OwnN.keep {w w' : World} {P : Nat → Prop} {a : Option Addr} {zs : List Int} (h : OwnN w P a zs) (hs : w.heap.size ≤ w'.heap.size) (hk : ∀ q, q < w.heap.size → P q → w'.heap[q]? = w.heap[q]?) : OwnN w' P a zs := by
  rcases h with h | ⟨b, ha, hp, hl, hn, hr⟩
  · exact .inl h
  · exact .inr ⟨b, ha, hp, Nat.lt_of_lt_of_le hl hs, hn.of_block (hk b hl hp), hr.of_block (hk b hl hp)⟩
structure OM (w : World) (B : Nat) (v : MV) (m : M4) (PK PR PD : Nat → Prop) : Prop where
  k : OwnL 2 hdK lnK AtK w PK v.ac m.copies
  r : OwnL 4 hdR lnR AtR w PR v.al m.log
  n : OwnN w PD v.ad m.cleared
  kr : ∀ q, PK q → ¬ PR q
  kd : ∀ q, PK q → ¬ PD q
  rd : ∀ q, PR q → ¬ PD q
  kB : ∀ q, PK q → B ≤ q
  rB : ∀ q, PR q → B ≤ q
  dB : ∀ q, PD q → B ≤ q
theorem OM.sl {w : World} {B : Nat} {v : MV} {m : M4} {PK PR PD : Nat → Prop} (h : OM w B v m PK PR PD) : SlM w v m := by
  refine ⟨?_, ?_, ?_⟩
  · rcases h.k with e | ⟨b, g, ha, _, _, hl, _, ho⟩
    · exact ⟨rfl, .inl (by rw [e]; rfl)⟩
    · rw [ha]; exact ownK_sl ho hl
  · rcases h.r with e | ⟨b, g, ha, _, _, hl, _, ho⟩
    · exact ⟨rfl, .inl (by rw [e]; rfl)⟩
    · rw [ha]; exact ownR_sl ho hl
  · rcases h.n with e | ⟨b, ha, _, hl, hn, _⟩
    · exact ⟨rfl, .inl (by rw [e]; rfl)⟩
    · exact ⟨rfl, .inr ⟨b, 0, ha, hl, hn⟩⟩
def OfM (PK PR PD : Nat → Prop) (q : Nat) : Prop := PK q ∨ PR q ∨ PD q
theorem OM.keep {w w' : World} {B : Nat} {v : MV} {m : M4} {PK PR PD : Nat → Prop} (h : OM w B v m PK PR PD) (hs : w.heap.size ≤ w'.heap.size) (hk : ∀ q, q < w.heap.size → OfM PK PR PD q → w'.heap[q]? = w.heap[q]?) : OM w' B v m PK PR PD :=
  ⟨h.k.keep AtK.of_block hs (fun q hq hp => hk q hq (.inl hp)), h.r.keep AtR.of_block hs (fun q hq hp => hk q hq (.inr (.inl hp))), h.n.keep hs (fun q hq hp => hk q hq (.inr (.inr hp))), h.kr, h.kd, h.rd, h.kB, h.rB, h.dB⟩
theorem OM.later {w w' : World} {B : Nat} {v : MV} {m : M4} {PK PR PD : Nat → Prop} (h : OM w B v m PK PR PD) (hb : Below w.heap.size w w') : OM w' B v m PK PR PD := h.keep hb.size (fun q hq _ => hb.block q hq)
theorem OwnG.base {α : Type} {sz : Nat} {hd : α → List Int} {ln : α → Nat} {At : World → Nat → α → Prop} {w : World} {base b n : Nat} {rs : List α} {g : Nat → Nat} (h : OwnG sz hd ln At w base b n rs g) : OwnG sz hd ln At w 0 b n rs g := ⟨h.len, h.head, h.tail, fun _ _ => Nat.zero_le _, h.lt, h.ne, h.sub, h.inj⟩
theorem OwnM.om {w : World} {B0 B1 B2 B3 : Nat} {v : MV} {m : M4} {gk gr : Nat → Nat} (h : OwnM w B0 B1 B2 B3 v m gk gr) : OM w B0 v m (fun q => B0 ≤ q ∧ q < B1) (fun q => B1 ≤ q ∧ q < B2) (fun q => B2 ≤ q ∧ q < B3) := by
  have h1 := h.o1; have h2 := h.o2; have h3 := h.o3; have h4 := h.sz
  obtain ⟨b, e, l1, l, o, og, rm⟩ := h.k
  obtain ⟨b', e', l1', l', o', og', rm'⟩ := h.r
  obtain ⟨b'', e'', l1'', l'', o'', rm''⟩ := h.n
  exact ⟨.inr ⟨b, gk, e, ⟨l1, l⟩, fun i hi => ⟨o.low i hi, og i hi⟩, by omega, rm, o.base⟩, .inr ⟨b', gr, e', ⟨l1', l'⟩, fun i hi => ⟨o'.low i hi, og' i hi⟩, by omega, rm', o'.base⟩, .inr ⟨b'', e'', ⟨l1'', l''⟩, by omega, o'', rm''⟩,
    fun q hq hr => by omega, fun q hq hr => by omega, fun q hq hr => by omega, fun q hq => hq.1, fun q hq => by omega, fun q hq => by omega⟩
structure MT (m : M4) : Prop where
  k : m.copies.length ≤ 1048576
  ks : ∀ c ∈ m.copies, c.cells.length ≤ 1048576
  r : m.log.length ≤ 1048576
  rs : ∀ c ∈ m.log, c.sets.length ≤ 1048576
  n : m.cleared.length ≤ 1048576
  tk : offG cK m.copies m.copies.length ≤ 100000000
  tr : offG cR m.log m.log.length ≤ 100000000
theorem off_sum {α : Type} (c l : α → Nat) (a b : Nat) (h : ∀ r, c r = a + b * l r) (rs : List α) : offG c rs rs.length = a * rs.length + b * (rs.map l).sum := by
  unfold offG
  rw [List.take_of_length_le (by simp)]
  induction rs with
  | nil => simp
  | cons r rs ih =>
    simp only [List.map_cons, List.sum_cons, List.length_cons, ih, h, Nat.mul_add, Nat.mul_one]
    omega
theorem MT.of_sz {m : M4} (h : szM m ≤ 1048576) : MT m := by
  have hk := off_sum cK (fun k => k.cells.length) 1 2 (fun _ => rfl) m.copies
  have hr := off_sum cR (fun r => r.sets.length) 3 5 (fun _ => rfl) m.log
  unfold szM lensK lensR at h
  refine ⟨by omega, fun c hc => ?_, by omega, fun c hc => ?_, by omega, by rw [hk]; omega, by rw [hr]; omega⟩
  · have : c.cells.length ≤ (m.copies.map fun k => k.cells.length).sum := sum_mem (List.mem_map.2 ⟨c, hc, rfl⟩)
    omega
  · have : c.sets.length ≤ (m.log.map fun k => k.sets.length).sum := sum_mem (List.mem_map.2 ⟨c, hc, rfl⟩)
    omega
def endK (m : M4) (k : Int) : Int := k + offG cK m.copies m.copies.length
def endR (m : M4) (k : Int) : Int := endK m k + offG cR m.log m.log.length
def endM (m : M4) (k : Int) : Int := endR m k + m.cleared.length
def mkM (m : M4) (k : Int) : M4 := ⟨m.alive, mkKs m.copies k, mkRs m.log (endK m k), marks m.cleared.length (endR m k)⟩
theorem mkKs_len (ks : List K2) (k : Int) : (mkKs ks k).length = ks.length := by simp [mkKs]
theorem mkRs_len (ks : List R4) (k : Int) : (mkRs ks k).length = ks.length := by simp [mkRs]
theorem markK (w : World) (P : Nat → Prop) (a : Option Addr) (cap : Nat) (ks : List K2) (k : Int) (hk : 0 ≤ k) (hk' : k ≤ 500000000) (ht : offG cK ks ks.length ≤ 100000000) (hn : ks.length ≤ 1048576) (hl : ∀ c ∈ ks, c.cells.length ≤ 1048576) (h : OwnL 2 hdK lnK AtK w P a ks) :
    Calls Tryz.prog 75 #[.slice a ks.length cap, .int .i64 k] w fun e w' => e = .returned (.int .i64 (k + offG cK ks ks.length)) ∧ KeptP P w w' ∧ OwnL 2 hdK lnK AtK w' P a (mkKs ks k) := by
  rcases h with rfl | ⟨b, g, rfl, hp, hg, hb, hr, ho⟩
  · refine (markCopyS_nil w a cap k).mono ?_
    rintro e w' ⟨rfl, rfl⟩
    exact ⟨by simp [offG], KeptP.refl _ _, .inl rfl⟩
  · refine (markCopyS_own w b ks.length cap ks g k hk hk' ht hn hl hb hr ho).mono ?_
    rintro e w' ⟨rfl, hkp, ho', hr'⟩
    refine ⟨rfl, hkp.mono ?_, .inr ⟨b, g, rfl, hp, by rw [mkKs_len]; exact hg, Nat.lt_of_lt_of_le hb hkp.size, by rw [mkKs_len]; exact hr', by rw [mkKs_len]; exact ho'⟩⟩
    rintro q (rfl | ⟨i, hi, rfl⟩)
    · exact hp
    · exact hg i hi
theorem markR (w : World) (P : Nat → Prop) (a : Option Addr) (cap : Nat) (ks : List R4) (k : Int) (hk : 0 ≤ k) (hk' : k ≤ 500000000) (ht : offG cR ks ks.length ≤ 100000000) (hn : ks.length ≤ 1048576) (hl : ∀ c ∈ ks, c.sets.length ≤ 1048576) (h : OwnL 4 hdR lnR AtR w P a ks) :
    Calls Tryz.prog 76 #[.slice a ks.length cap, .int .i64 k] w fun e w' => e = .returned (.int .i64 (k + offG cR ks ks.length)) ∧ KeptP P w w' ∧ OwnL 4 hdR lnR AtR w' P a (mkRs ks k) := by
  rcases h with rfl | ⟨b, g, rfl, hp, hg, hb, hr, ho⟩
  · refine (markRecordS_nil w a cap k).mono ?_
    rintro e w' ⟨rfl, rfl⟩
    exact ⟨by simp [offG], KeptP.refl _ _, .inl rfl⟩
  · refine (markRecordS_own w b ks.length cap ks g k hk hk' ht hn hl hb hr ho).mono ?_
    rintro e w' ⟨rfl, hkp, ho', hr'⟩
    refine ⟨rfl, hkp.mono ?_, .inr ⟨b, g, rfl, hp, by rw [mkRs_len]; exact hg, Nat.lt_of_lt_of_le hb hkp.size, by rw [mkRs_len]; exact hr', by rw [mkRs_len]; exact ho'⟩⟩
    rintro q (rfl | ⟨i, hi, rfl⟩)
    · exact hp
    · exact hg i hi
theorem markN (w : World) (P : Nat → Prop) (a : Option Addr) (cap : Nat) (zs : List Int) (k : Int) (hk : 0 ≤ k) (hk' : k ≤ 1000000000) (hn : zs.length ≤ 1048576) (h : OwnN w P a zs) :
    Calls Tryz.prog 14 #[.slice a zs.length cap, .int .i64 k] w fun e w' => e = .returned (.int .i64 (k + zs.length)) ∧ KeptP P w w' ∧ OwnN w' P a (marks zs.length k) := by
  rcases h with rfl | ⟨b, rfl, hp, hb, hx, hr⟩
  · refine (markInt64S_none w a cap k).mono ?_
    rintro e w' ⟨rfl, rfl⟩
    exact ⟨by simp, KeptP.refl _ _, .inl rfl⟩
  · refine (markInt64S_own w b zs.length cap k hn hk hk' hr).mono ?_
    rintro e w' ⟨rfl, ho, hx', hr'⟩
    exact ⟨rfl, KeptP.of_only ho hp, .inr ⟨b, rfl, hp, by rw [ho.size]; exact hb, hx', by rw [marks_len]; exact hr'⟩⟩
theorem OM.mono {w : World} {B B' : Nat} {v : MV} {m : M4} {PK PR PD : Nat → Prop} (h : OM w B v m PK PR PD) (hb : B' ≤ B) : OM w B' v m PK PR PD := ⟨h.k, h.r, h.n, h.kr, h.kd, h.rd, fun q hq => Nat.le_trans hb (h.kB q hq), fun q hq => Nat.le_trans hb (h.rB q hq), fun q hq => Nat.le_trans hb (h.dB q hq)⟩
theorem toM_any (w : World) (v : MV) (m : M4) (ht : MT m) (hs : SlM w v m) : Calls Tryz.prog 60 #[v.val m] w fun e w' =>
    ∃ (c4 : Option Addr) (k4 : Nat) (l4 : Option Addr) (j4 : Nat) (d4 : Option Addr) (i4 : Nat) (PK PR PD : Nat → Prop), e = .returned ((MV.mk c4 k4 l4 j4 d4 i4).val m) ∧ OM w' w.heap.size ⟨c4, k4, l4, j4, d4, i4⟩ m PK PR PD ∧ (∀ q, OfM PK PR PD q → q < w'.heap.size) ∧ Below w.heap.size w w' :=
  (toMachine_any w v m ht.k ht.ks ht.r ht.rs ht.n hs).mono (by
    rintro e w' ⟨⟨c4, k4, l4, j4, d4, i4⟩, B1, B2, B3, gk, gr, h1, h2, h3⟩
    have o1 := h2.o1; have o2 := h2.o2; have o3 := h2.o3; have o4 := h2.sz
    refine ⟨c4, k4, l4, j4, d4, i4, _, _, _, h1, h2.om.mono (by omega), fun q hq => ?_, h3⟩
    rcases hq with hq | hq | hq <;> omega)
theorem MT.ml {m : M4} (h : MT m) : ML m := ⟨by have := h.k; unfold maxLen; omega, fun c hc => by have := h.ks c hc; unfold maxLen; omega, by have := h.r; unfold maxLen; omega, fun c hc => by have := h.rs c hc; unfold maxLen; omega, by have := h.n; unfold maxLen; omega⟩
theorem bkept {A X Y : World} {P : Nat → Prop} (h : Below A.heap.size A X) (k : KeptP P X Y) (hp : ∀ q, P q → A.heap.size ≤ q) : Below A.heap.size A Y := h.trans (k.below hp h.size)
def KM.Ow (w : World) (B : Nat) (a : Option Addr) (b : Nat) (c : Option Addr) (d : Nat) (e : Option Addr) (f : Nat) (m : M4) (P : Nat → Prop) : Prop := ∃ PK PR PD, OM w B ⟨a, b, c, d, e, f⟩ m PK PR PD ∧ (∀ q, OfM PK PR PD q → P q) ∧ (∀ q, P q → B ≤ q ∧ q < w.heap.size)
theorem KM.Ow.of {w : World} {B : Nat} {a : Option Addr} {b : Nat} {c : Option Addr} {d : Nat} {e : Option Addr} {f : Nat} {m : M4} {P : Nat → Prop} (h : KM.Ow w B a b c d e f m P) {q : Nat} (hq : P q) : B ≤ q ∧ q < w.heap.size := by obtain ⟨_, _, _, _, _, h3⟩ := h; exact h3 q hq
theorem KM.Ow.sl {w : World} {B : Nat} {a : Option Addr} {b : Nat} {c : Option Addr} {d : Nat} {e : Option Addr} {f : Nat} {m : M4} {P : Nat → Prop} (h : KM.Ow w B a b c d e f m P) : SlM w ⟨a, b, c, d, e, f⟩ m := by obtain ⟨_, _, _, h1, _, _⟩ := h; exact h1.sl
theorem KM.Ow.keep {w w' : World} {B : Nat} {a : Option Addr} {b : Nat} {c : Option Addr} {d : Nat} {e : Option Addr} {f : Nat} {m : M4} {P : Nat → Prop} (h : KM.Ow w B a b c d e f m P) (hs : w.heap.size ≤ w'.heap.size) (hk : ∀ q, P q → w'.heap[q]? = w.heap[q]?) : KM.Ow w' B a b c d e f m P := by
  obtain ⟨PK, PR, PD, h1, h2, h3⟩ := h
  exact ⟨PK, PR, PD, h1.keep hs (fun q _ hq => hk q (h2 q hq)), h2, fun q hq => ⟨(h3 q hq).1, Nat.lt_of_lt_of_le (h3 q hq).2 hs⟩⟩
theorem KM.Ow.later {w w' : World} {B : Nat} {a : Option Addr} {b : Nat} {c : Option Addr} {d : Nat} {e : Option Addr} {f : Nat} {m : M4} {P : Nat → Prop} (h : KM.Ow w B a b c d e f m P) (hb : Below w.heap.size w w') : KM.Ow w' B a b c d e f m P := h.keep hb.size (fun q hq => hb.block q (h.of hq).2)
theorem KM.Ow.low {w : World} {B B' : Nat} {a : Option Addr} {b : Nat} {c : Option Addr} {d : Nat} {e : Option Addr} {f : Nat} {m : M4} {P : Nat → Prop} (h : KM.Ow w B a b c d e f m P) (hb : B' ≤ B) : KM.Ow w B' a b c d e f m P := by
  obtain ⟨PK, PR, PD, h1, h2, h3⟩ := h
  exact ⟨PK, PR, PD, h1.mono hb, h2, fun q hq => ⟨Nat.le_trans hb (h3 q hq).1, (h3 q hq).2⟩⟩
theorem KM.of {w : World} {B : Nat} {a : Option Addr} {b : Nat} {c : Option Addr} {d : Nat} {e : Option Addr} {f : Nat} {m : M4} {PK PR PD : Nat → Prop} (h : OM w B ⟨a, b, c, d, e, f⟩ m PK PR PD) (hl : ∀ q, OfM PK PR PD q → q < w.heap.size) : KM.Ow w B a b c d e f m (OfM PK PR PD) :=
  ⟨PK, PR, PD, h, fun _ hq => hq, fun q hq => ⟨by rcases hq with hq | hq | hq; exact h.kB q hq; exact h.rB q hq; exact h.dB q hq, hl q hq⟩⟩
theorem KM.to (X : World) (a : Option Addr) (b : Nat) (c : Option Addr) (d : Nat) (e : Option Addr) (f : Nat) (m : M4) (ht : MT m) (h : SlM X ⟨a, b, c, d, e, f⟩ m) : Calls Tryz.prog 60 #[.agg #[.bool m.alive, .slice a m.copies.length b, .slice c m.log.length d, .slice e m.cleared.length f]] X fun r w' =>
    ∃ (a : Option Addr) (b : Nat) (c : Option Addr) (d : Nat) (e : Option Addr) (f : Nat) (P : Nat → Prop), r = .returned (.agg #[.bool m.alive, .slice a m.copies.length b, .slice c m.log.length d, .slice e m.cleared.length f]) ∧ KM.Ow w' X.heap.size a b c d e f m P ∧ Below X.heap.size X w' := by
  have hh := toM_any X ⟨a, b, c, d, e, f⟩ m ht h
  simp only [MV.val] at hh
  refine hh.mono ?_
  rintro r w' ⟨a, b, c, d, e, f, PK, PR, PD, rfl, o, l, bl⟩
  exact ⟨a, b, c, d, e, f, _, rfl, KM.of o l, bl⟩
theorem KM.eq (X : World) (a : Option Addr) (b : Nat) (c : Option Addr) (d : Nat) (e : Option Addr) (f : Nat) (a' : Option Addr) (b' : Nat) (c' : Option Addr) (d' : Nat) (e' : Option Addr) (f' : Nat) (m : M4) (ht : MT m) (h1 : SlM X ⟨a, b, c, d, e, f⟩ m) (h2 : SlM X ⟨a', b', c', d', e', f'⟩ m) : Calls Tryz.prog 73 #[.agg #[.bool m.alive, .slice a m.copies.length b, .slice c m.log.length d, .slice e m.cleared.length f], .agg #[.bool m.alive, .slice a' m.copies.length b', .slice c' m.log.length d', .slice e' m.cleared.length f']] X fun r w' => r = .returned (.bool true) ∧ Below X.heap.size X w' := by
  have hh := eqMachine_same X ⟨a, b, c, d, e, f⟩ ⟨a', b', c', d', e', f'⟩ m ht.ml h1 h2
  simp only [MV.val] at hh
  exact hh
theorem KM.sz (X : World) (a : Option Addr) (b : Nat) (c : Option Addr) (d : Nat) (e : Option Addr) (f : Nat) (m : M4) (hl : ML m) (h : SlM X ⟨a, b, c, d, e, f⟩ m) : Calls Tryz.prog 51 #[.agg #[.bool m.alive, .slice a m.copies.length b, .slice c m.log.length d, .slice e m.cleared.length f], .int .i64 1048576] X fun r w' => r = .returned (.int .i64 (leftR 1048576 (szM m))) ∧ Below X.heap.size X w' := by
  have hh := szMachine_any X ⟨a, b, c, d, e, f⟩ m hl h
  simp only [MV.val] at hh
  exact hh
set_option maxHeartbeats 2000000 in
theorem szMachine_l (w : World) (v : MV) (m : M4) (l0 : Nat) (hl0 : l0 ≤ 1048576) (hl : ML m) (hs : SlM w v m) : Calls Tryz.prog 51 #[v.val m, .int .i64 (l0 : Int)] w fun e w' => e = .returned (.int .i64 (leftR l0 (szM m))) ∧ Below w.heap.size w w' := by
  obtain ⟨ac, cc, al, cl, ad, cd⟩ := v
  have H : Hid (SlM w ⟨ac, cc, al, cl, ad, cd⟩ m ∧ ML m) := ⟨hs, hl⟩
  clear hs hl
  simp only [MV.val]
  have HM : Hid (szM m = (m.copies.length + lensK m.copies) + (m.log.length + lensR m.log) + m.cleared.length) := rfl
  have b0 : Below w.heap.size w (w.alloc (.cells #[.bool m.alive, .slice ac m.copies.length cc, .slice al m.log.length cl, .slice ad m.cleared.length cd] 92)) := (Below.refl _ _).alloc (Nat.le_refl _) _
  have u2 : (w.alloc (.cells #[.bool m.alive, .slice ac m.copies.length cc, .slice al m.log.length cl, .slice ad m.cleared.length cd] 92)).cell? ⟨w.heap.size, 2, none⟩ = some (.slice al m.log.length cl) := by go_simp
  have u3 : (w.alloc (.cells #[.bool m.alive, .slice ac m.copies.length cc, .slice al m.log.length cl, .slice ad m.cleared.length cd] 92)).cell? ⟨w.heap.size, 3, none⟩ = some (.slice ad m.cleared.length cd) := by go_simp
  have sU : w.heap.size < (w.alloc (.cells #[.bool m.alive, .slice ac m.copies.length cc, .slice al m.log.length cl, .slice ad m.cleared.length cd] 92)).heap.size := by simp
  have hz1 : Calls Tryz.prog 92 #[.slice ac m.copies.length cc, .int .i64 (l0 : Int)] (w.alloc (.cells #[.bool m.alive, .slice ac m.copies.length cc, .slice al m.log.length cl, .slice ad m.cleared.length cd] 92)) fun e w' => e = .returned (.int .i64 (leftR l0 (m.copies.length + lensK m.copies))) ∧ Below (w.alloc (.cells #[.bool m.alive, .slice ac m.copies.length cc, .slice al m.log.length cl, .slice ad m.cleared.length cd] 92)).heap.size (w.alloc (.cells #[.bool m.alive, .slice ac m.copies.length cc, .slice al m.log.length cl, .slice ad m.cleared.length cd] 92)) w' := szCopyS_l (w.alloc (.cells #[.bool m.alive, .slice ac m.copies.length cc, .slice al m.log.length cl, .slice ad m.cleared.length cd] 92)) ac m.copies.length cc m.copies l0 H.out.2.k hl0 (H.out.1.later b0).k H.out.2.ks
  have hz2 := fun W l (h : Below w.heap.size w W) (hl : l ≤ 1048576) => szRecordS_l W al m.log.length cl m.log l H.out.2.r hl (H.out.1.later h).r H.out.2.rs
  have hz3 := fun W l (hl : l ≤ 1048576) => szInt64S_l W ad m.cleared.length cd l H.out.2.n hl
  obtain ⟨A, hA⟩ : ∃ A, m.copies.length + lensK m.copies = A := ⟨_, rfl⟩
  obtain ⟨Bn, hB⟩ : ∃ Bn, m.log.length + lensR m.log = Bn := ⟨_, rfl⟩
  obtain ⟨Cn, hC⟩ : ∃ Cn, m.cleared.length = Cn := ⟨_, rfl⟩
  rw [HM.out]
  simp only [hA, hB] at hz1 hz2 ⊢
  have HZ2 : Hid (∀ (W : World) (l : Nat), Below w.heap.size w W → l ≤ 1048576 → Calls Tryz.prog 93 #[.slice al m.log.length cl, .int .i64 (l : Int)] W fun e w' => e = .returned (.int .i64 (leftR l Bn)) ∧ Below W.heap.size W w') := hz2
  have HZ3 : Hid (∀ (W : World) (l : Nat), l ≤ 1048576 → Calls Tryz.prog 91 #[.slice ad m.cleared.length cd, .int .i64 (l : Int)] W fun e w' => e = .returned (.int .i64 (leftR l m.cleared.length)) ∧ w' = W) := hz3
  have SU : Hid (w.heap.size < (w.alloc (.cells #[.bool m.alive, .slice ac m.copies.length cc, .slice al m.log.length cl, .slice ad m.cleared.length cd] 92)).heap.size ∧ Below w.heap.size w (w.alloc (.cells #[.bool m.alive, .slice ac m.copies.length cc, .slice al m.log.length cl, .slice ad m.cleared.length cd] 92))) := ⟨sU, b0⟩
  clear hA hB hC hz2 hz3 sU b0 HM
  by_cases h1 : A ≤ l0
  · rw [leftR_yes h1] at hz1
    have g1 : decide (((l0 - A : Nat) : Int) < 0) = false := by simp
    go_enter Tryz.func51, Tryz.ntmps51
    go_wp2_with fail
    refine hz1.mono ?_
    clear hz1
    rintro e w1 ⟨rfl, b1⟩
    have c2 := (b1.cell (p := ⟨w.heap.size, 2, none⟩) SU.out.1).trans u2
    have c3 := (b1.cell (p := ⟨w.heap.size, 3, none⟩) SU.out.1).trans u3
    have B1 : Hid (Below w.heap.size w w1 ∧ w.heap.size < w1.heap.size) := ⟨SU.out.2.trans (b1.mono SU.out.2.size), Nat.lt_of_lt_of_le SU.out.1 b1.size⟩
    clear u2 u3 b1
    go_wp2_with fail
    have hz := HZ2.out w1 (l0 - A) B1.out.1 (by omega)
    by_cases h2 : Bn ≤ l0 - A
    · rw [leftR_yes h2] at hz
      have g2 : decide (((l0 - A - Bn : Nat) : Int) < 0) = false := by simp
      refine hz.mono ?_
      clear hz
      rintro e w2 ⟨rfl, b2⟩
      have x3 := (b2.cell (p := ⟨w.heap.size, 3, none⟩) B1.out.2).trans c3
      have B2 : Hid (Below w.heap.size w w2) := B1.out.1.trans (b2.mono B1.out.1.size)
      clear c2 c3 b2
      go_wp2_with fail
      have hz := HZ3.out w2 (l0 - A - Bn) (by omega)
      by_cases h3 : m.cleared.length ≤ l0 - A - Bn
      · rw [leftR_yes h3] at hz
        have g3 : decide (((l0 - A - Bn - m.cleared.length : Nat) : Int) < 0) = false := by simp
        refine hz.mono ?_
        clear hz
        rintro e w2 ⟨rfl, rfl⟩
        go_wp2
        go_ret
        exact ⟨by rw [leftR_yes (by omega), show l0 - (A + Bn + m.cleared.length) = l0 - A - Bn - m.cleared.length by omega]; rfl, B2.out⟩
      · rw [leftR_no h3] at hz
        refine hz.mono ?_
        clear hz
        rintro e w2 ⟨rfl, rfl⟩
        go_wp2
        go_ret
        exact ⟨by rw [leftR_no (by omega)]; rfl, B2.out⟩
    · rw [leftR_no h2] at hz
      refine hz.mono ?_
      clear hz
      rintro e w2 ⟨rfl, b2⟩
      have B2 : Hid (Below w.heap.size w w2) := B1.out.1.trans (b2.mono B1.out.1.size)
      clear b2
      go_wp2
      go_ret
      exact ⟨by rw [leftR_no (by omega)]; rfl, B2.out⟩
  · rw [leftR_no h1] at hz1
    go_enter Tryz.func51, Tryz.ntmps51
    go_wp2_with fail
    refine hz1.mono ?_
    clear hz1
    rintro e w1 ⟨rfl, b1⟩
    have B1 : Hid (Below w.heap.size w w1) := SU.out.2.trans (b1.mono SU.out.2.size)
    clear b1
    go_wp2
    go_ret
    exact ⟨by rw [leftR_no (by omega)]; rfl, B1.out⟩
theorem KM.szl (X : World) (a : Option Addr) (b : Nat) (c : Option Addr) (d : Nat) (e : Option Addr) (f : Nat) (m : M4) (l : Nat) (hl0 : l ≤ 1048576) (hl : ML m) (h : SlM X ⟨a, b, c, d, e, f⟩ m) : Calls Tryz.prog 51 #[.agg #[.bool m.alive, .slice a m.copies.length b, .slice c m.log.length d, .slice e m.cleared.length f], .int .i64 (l : Int)] X fun r w' => r = .returned (.int .i64 (leftR l (szM m))) ∧ Below X.heap.size X w' := by
  have hh := szMachine_l X ⟨a, b, c, d, e, f⟩ m l hl0 hl h
  simp only [MV.val] at hh
  exact hh
def KMk : Kd M4 MV where
  n := 4
  cells v m := [.bool m.alive, .slice v.ac m.copies.length v.cc, .slice v.al m.log.length v.cl, .slice v.ad m.cleared.length v.cd]
  len := fun _ _ => rfl
  Rd := SlM
  Ow w B v m P := KM.Ow w B v.ac v.cc v.al v.cl v.ad v.cd m P
  later := fun h b => h.later b
  sl := fun h => h.sl
  of := fun h hq => h.of hq
  keep := fun h hs hk => h.keep hs hk
  low := fun h hb => h.low hb
end Go.Proofs.YtdmpobegobfpjaaGreat
namespace Go.Proofs.YtdmpobegobfpjaaGreat
open Go.RowKit
open Go.Sort (grow)
theorem info_KMS : (Tryz.prog.info? 83).map (fun i => (i.zero, i.size, i.bytes)) = some (some (.agg #[.bool false, .slice none 0 0, .slice none 0 0, .slice none 0 0]), 4, 80) := by kernel_rfl
theorem make_KMS (n : Nat) (hn : n ≤ 1048576) (w : World) : (Instr.makeSlice 31 (.int .i64 (n : Int)) (.int .i64 (n : Int))).run Tryz.prog w = .ok (.slice (some ⟨w.heap.size, 0, none⟩) n n) (w.alloc (.cells (madeCells #[.bool false, .slice none 0 0, .slice none 0 0, .slice none 0 0] (n * 4)) 83)) := by
  obtain ⟨i, hi, hzz⟩ := Option.map_eq_some_iff.1 info_KMS
  simp only [Prod.mk.injEq] at hzz
  obtain ⟨hz, hs, hb⟩ := hzz
  have := run_make (P := Tryz.prog) w 31 83 i _ Tryz.underlying31 hi hz .i64 .i64 (n : Int) (n : Int) (by omega) (by omega) (by rw [hb]; omega) (by omega)
  rw [hs] at this
  simpa [Value.cells] using this
set_option maxRecDepth 100000 in
set_option maxHeartbeats 4000000 in
theorem KMS.to (w : World) (a : Option Addr) (cap : Nat) (xs : List M4) (hn : xs.length ≤ 1048576) (ht : ∀ d ∈ xs, MT d) (hs : KMk.RdS w a xs) : Calls Tryz.prog 31 #[.slice a xs.length cap] w fun e w' =>
    ∃ P, e = .returned (.slice (some ⟨w.heap.size, 0, none⟩) xs.length xs.length) ∧ KMk.OwS w' w.heap.size (some ⟨w.heap.size, 0, none⟩) xs P ∧ Below w.heap.size w w' := by
  have hmk := make_KMS xs.length hn
  go_enter Tryz.func31, Tryz.ntmps31
  go_wp2
  go_loopw [4] (fun i wr => ∃ (j : Nat) (g : Nat → Nat → Prop), j ≤ xs.length ∧ i = .int .i64 j ∧ Below w.heap.size w wr ∧ w.heap.size < wr.heap.size ∧ KMk.Part wr w.heap.size w.heap.size xs.length (xs.take j) g) (fun i _ => xs.length - (intOf i).toNat)
  case atStart => exact ⟨0, fun _ _ => False, Nat.zero_le _, rfl, (Below.refl _ _).alloc (Nat.le_refl _) _, by simp, by rw [List.take_zero]; exact Kd.Part.nil _ _ (room_made _ _ _ _)⟩
  case round =>
    obtain ⟨j, g, hj, rfl, hbl, hsz, hpt⟩ := hrel
    by_cases hlt : j < xs.length
    · obtain ⟨d, hd⟩ : ∃ d, xs[j]? = some d := ⟨_, List.getElem?_eq_getElem hlt⟩
      rcases hs with hs | ⟨b, off, rfl, hb, h1⟩
      · rw [hs] at hlt; simp at hlt
      obtain ⟨⟨c0, c1, c2, c3, c4, c5⟩, hat, hrd⟩ := h1 j d hd
      have e0 : wr.cell? ⟨b, off + j * 4, none⟩ = some (.bool d.alive) := (hbl.cell (p := ⟨b, off + j * 4, none⟩) hb).trans (hat 0 _ rfl)
      have e1 : wr.cell? ⟨b, off + j * 4 + 1, none⟩ = some (.slice c0 d.copies.length c1) := (hbl.cell (p := ⟨b, off + j * 4 + 1, none⟩) hb).trans (hat 1 _ rfl)
      have e2 : wr.cell? ⟨b, off + j * 4 + 2, none⟩ = some (.slice c2 d.log.length c3) := (hbl.cell (p := ⟨b, off + j * 4 + 2, none⟩) hb).trans (hat 2 _ rfl)
      have e3 : wr.cell? ⟨b, off + j * 4 + 3, none⟩ = some (.slice c4 d.cleared.length c5) := (hbl.cell (p := ⟨b, off + j * 4 + 3, none⟩) hb).trans (hat 3 _ rfl)
      have hcl := KM.to wr c0 c1 c2 c3 c4 c5 d (ht d (List.mem_of_getElem? hd)) (KMk.later hrd hbl)
      have KH : Hid (KMk.Part wr w.heap.size w.heap.size xs.length (xs.take j) g ∧ Below w.heap.size w wr ∧ w.heap.size < wr.heap.size ∧ xs.take (j + 1) = xs.take j ++ [d] ∧ (xs.take j).length = j) := ⟨hpt, hbl, hsz, by rw [List.take_add_one, hd]; rfl, by rw [List.length_take]; omega⟩
      have jn : (j : Int) < (xs.length : Int) := by omega
      clear hpt hbl hmk h1 ht hat hrd hd
      go_wp2_with fail
      refine hcl.mono ?_
      clear hcl e0 e1 e2 e3
      rintro e w1 ⟨u0, u1, u2, u3, u4, u5, P, rfl, ho, b1⟩
      have hp1 := KH.out.1.later b1 KH.out.2.2.1
      have hrm := hp1.rm
      have hjm : j * 4 + 4 ≤ xs.length * 4 := by omega
      obtain ⟨z0, d0, f0⟩ : ∃ v, w1.cell? ⟨w.heap.size, j * 4, none⟩ = some v ∧ w1.frozen? ⟨w.heap.size, j * 4, none⟩ = false := hrm (j * 4 + 0) (show _ < xs.length * 4 by omega)
      obtain ⟨z1, d1, f1⟩ : ∃ v, w1.cell? ⟨w.heap.size, j * 4 + 1, none⟩ = some v ∧ w1.frozen? ⟨w.heap.size, j * 4 + 1, none⟩ = false := hrm (j * 4 + 1) (show _ < xs.length * 4 by omega)
      obtain ⟨z2, d2, f2⟩ : ∃ v, w1.cell? ⟨w.heap.size, j * 4 + 2, none⟩ = some v ∧ w1.frozen? ⟨w.heap.size, j * 4 + 2, none⟩ = false := hrm (j * 4 + 2) (show _ < xs.length * 4 by omega)
      obtain ⟨z3, d3, f3⟩ : ∃ v, w1.cell? ⟨w.heap.size, j * 4 + 3, none⟩ = some v ∧ w1.frozen? ⟨w.heap.size, j * 4 + 3, none⟩ = false := hrm (j * 4 + 3) (show _ < xs.length * 4 by omega)
      have K1 : Hid (KMk.Part w1 w.heap.size w.heap.size xs.length (xs.take j) g ∧ KMk.Ow w1 wr.heap.size ⟨u0, u1, u2, u3, u4, u5⟩ d P ∧ Below wr.heap.size wr w1) := ⟨hp1, ho, b1⟩
      clear hp1 ho b1 hrm hjm
      go_wp2
      obtain ⟨k1, k2, k3, k4, k5⟩ := KH.out
      obtain ⟨p1, p2, p3⟩ := K1.out
      have hpu := p1.push (by omega) ⟨u0, u1, u2, u3, u4, u5⟩ d P (KMk.low p2 (Nat.le_of_lt k3)) (fun q hq => by have := (KMk.of p2 hq).1; omega) (fun i q hi hq hq' => by have := (k1.gq hi hq).2; have := (KMk.of p2 hq').1; omega)
      rw [k5, ← k4] at hpu
      have hbe : Below w.heap.size w (putB w1 w.heap.size (j * 4) [.bool d.alive, .slice u0 d.copies.length u1, .slice u2 d.log.length u3, .slice u4 d.cleared.length u5]) := putB_below (Nat.le_refl _) _ _ _ (k2.trans (p3.mono k2.size))
      have hsz' : w.heap.size < (putB w1 w.heap.size (j * 4) [.bool d.alive, .slice u0 d.copies.length u1, .slice u2 d.log.length u3, .slice u4 d.cleared.length u5]).heap.size := by rw [putB_size]; exact Nat.lt_of_lt_of_le k3 p3.size
      exact ⟨⟨j + 1, _, by omega, by simp, hbe, hsz', hpu⟩, by simp [intOf]; omega⟩
    · obtain rfl : j = xs.length := by omega
      have hd : decide ((xs.length : Int) < (xs.length : Int)) = false := by simp
      rw [List.take_length] at hpt
      have KH : Hid (KMk.Part wr w.heap.size w.heap.size xs.length xs g ∧ Below w.heap.size w wr ∧ w.heap.size < wr.heap.size) := ⟨hpt, hbl, hsz⟩
      clear hpt hbl hs hmk ht
      go_wp2
      go_ret
      exact ⟨_, rfl, KH.out.1.own (Nat.le_refl _) KH.out.2.2, KH.out.2.1⟩
set_option maxRecDepth 100000 in
set_option maxHeartbeats 4000000 in
theorem KMS.eq (w : World) (a a' : Option Addr) (cap cap' : Nat) (xs : List M4) (hn : xs.length ≤ 1048576) (ht : ∀ d ∈ xs, MT d) (h1 : KMk.RdS w a xs) (h2 : KMk.RdS w a' xs) : Calls Tryz.prog 36 #[.slice a xs.length cap, .slice a' xs.length cap'] w fun e w' => e = .returned (.bool true) ∧ Below w.heap.size w w' := by
  go_enter Tryz.func36, Tryz.ntmps36
  go_wp2
  go_loopw [5] (fun i wr => ∃ j : Nat, j ≤ xs.length ∧ i = .int .i64 j ∧ Below w.heap.size w wr) (fun i _ => xs.length - (intOf i).toNat)
  case atStart => exact ⟨0, Nat.zero_le _, rfl, Below.refl _ _⟩
  case round =>
    obtain ⟨j, hj, rfl, hbl⟩ := hrel
    by_cases hlt : j < xs.length
    · obtain ⟨d, hd⟩ : ∃ d, xs[j]? = some d := ⟨_, List.getElem?_eq_getElem hlt⟩
      rcases h1 with h1 | ⟨b, off, rfl, hb, h1⟩
      · rw [h1] at hlt; simp at hlt
      · rcases h2 with h2 | ⟨b', off', rfl, hb', h2⟩
        · rw [h2] at hlt; simp at hlt
        · obtain ⟨⟨c0, c1, c2, c3, c4, c5⟩, hat, hrd⟩ := h1 j d hd
          obtain ⟨⟨b0, b1, b2, b3, b4, b5⟩, hat', hrd'⟩ := h2 j d hd
          have x0 : ∀ dd os, (grow (redrawn wr dd) os).cell? ⟨b, off + j * 4, none⟩ = some (.bool d.alive) := fun dd os => ((below_regrown wr dd os).cell (p := ⟨b, off + j * 4, none⟩) (Nat.lt_of_lt_of_le hb hbl.size)).trans ((hbl.cell (p := ⟨b, off + j * 4, none⟩) hb).trans (hat 0 _ rfl))
          have x1 : ∀ dd os, (grow (redrawn wr dd) os).cell? ⟨b, off + j * 4 + 1, none⟩ = some (.slice c0 d.copies.length c1) := fun dd os => ((below_regrown wr dd os).cell (p := ⟨b, off + j * 4 + 1, none⟩) (Nat.lt_of_lt_of_le hb hbl.size)).trans ((hbl.cell (p := ⟨b, off + j * 4 + 1, none⟩) hb).trans (hat 1 _ rfl))
          have x2 : ∀ dd os, (grow (redrawn wr dd) os).cell? ⟨b, off + j * 4 + 2, none⟩ = some (.slice c2 d.log.length c3) := fun dd os => ((below_regrown wr dd os).cell (p := ⟨b, off + j * 4 + 2, none⟩) (Nat.lt_of_lt_of_le hb hbl.size)).trans ((hbl.cell (p := ⟨b, off + j * 4 + 2, none⟩) hb).trans (hat 2 _ rfl))
          have x3 : ∀ dd os, (grow (redrawn wr dd) os).cell? ⟨b, off + j * 4 + 3, none⟩ = some (.slice c4 d.cleared.length c5) := fun dd os => ((below_regrown wr dd os).cell (p := ⟨b, off + j * 4 + 3, none⟩) (Nat.lt_of_lt_of_le hb hbl.size)).trans ((hbl.cell (p := ⟨b, off + j * 4 + 3, none⟩) hb).trans (hat 3 _ rfl))
          have y0 : ∀ dd os, (grow (redrawn wr dd) os).cell? ⟨b', off' + j * 4, none⟩ = some (.bool d.alive) := fun dd os => ((below_regrown wr dd os).cell (p := ⟨b', off' + j * 4, none⟩) (Nat.lt_of_lt_of_le hb' hbl.size)).trans ((hbl.cell (p := ⟨b', off' + j * 4, none⟩) hb').trans (hat' 0 _ rfl))
          have y1 : ∀ dd os, (grow (redrawn wr dd) os).cell? ⟨b', off' + j * 4 + 1, none⟩ = some (.slice b0 d.copies.length b1) := fun dd os => ((below_regrown wr dd os).cell (p := ⟨b', off' + j * 4 + 1, none⟩) (Nat.lt_of_lt_of_le hb' hbl.size)).trans ((hbl.cell (p := ⟨b', off' + j * 4 + 1, none⟩) hb').trans (hat' 1 _ rfl))
          have y2 : ∀ dd os, (grow (redrawn wr dd) os).cell? ⟨b', off' + j * 4 + 2, none⟩ = some (.slice b2 d.log.length b3) := fun dd os => ((below_regrown wr dd os).cell (p := ⟨b', off' + j * 4 + 2, none⟩) (Nat.lt_of_lt_of_le hb' hbl.size)).trans ((hbl.cell (p := ⟨b', off' + j * 4 + 2, none⟩) hb').trans (hat' 2 _ rfl))
          have y3 : ∀ dd os, (grow (redrawn wr dd) os).cell? ⟨b', off' + j * 4 + 3, none⟩ = some (.slice b4 d.cleared.length b5) := fun dd os => ((below_regrown wr dd os).cell (p := ⟨b', off' + j * 4 + 3, none⟩) (Nat.lt_of_lt_of_le hb' hbl.size)).trans ((hbl.cell (p := ⟨b', off' + j * 4 + 3, none⟩) hb').trans (hat' 3 _ rfl))
          have cQ : ∀ dd os, Calls Tryz.prog 73 #[.agg #[.bool d.alive, .slice c0 d.copies.length c1, .slice c2 d.log.length c3, .slice c4 d.cleared.length c5], .agg #[.bool d.alive, .slice b0 d.copies.length b1, .slice b2 d.log.length b3, .slice b4 d.cleared.length b5]] (grow (redrawn wr dd) os) fun e w'' => e = .returned (.bool true) ∧ ∃ p : Regrown, w'' = grow (redrawn wr p.d) p.os := fun dd os => Calls.regrown_of (KM.eq _ c0 c1 c2 c3 c4 c5 b0 b1 b2 b3 b4 b5 d (ht d (List.mem_of_getElem? hd)) (KMk.later hrd (hbl.trans ((below_regrown wr dd os).mono hbl.size))) (KMk.later hrd' (hbl.trans ((below_regrown wr dd os).mono hbl.size))))
          have K : Hid (Below w.heap.size w wr) := hbl
          have jn : (j : Int) < (xs.length : Int) := by omega
          clear hat hat' hrd hrd' hbl h1 h2 ht hd
          go_wp2_with fail
          refine wp_region_quiet_below (by kernel_rfl) (by kernel_rfl) ?_
          repeat (go_big_quiet_step (exact cQ _ _))
          refine wpQuiet_nil ?_
          intro _ hw'
          obtain ⟨⟨dq, osq⟩, hw''⟩ := hw'
          subst hw''
          have bq := below_regrown wr dq osq
          go_wp2
          exact ⟨⟨j + 1, by omega, by simp, K.out.trans (bq.mono K.out.size)⟩, by simp [intOf]; omega⟩
    · obtain rfl : j = xs.length := by omega
      have hd : decide ((xs.length : Int) < (xs.length : Int)) = false := by simp
      clear h1 h2 ht
      go_wp2
      go_ret
      exact ⟨rfl, hbl⟩
def KMS.szs (xs : List M4) : Nat := (xs.map fun d => szM d).sum
set_option maxRecDepth 100000 in
set_option maxHeartbeats 4000000 in
theorem KMS.sz (w : World) (a : Option Addr) (cap : Nat) (xs : List M4) (l : Nat) (hl0 : l ≤ 1048576) (hn : xs.length ≤ maxLen) (hl : ∀ d ∈ xs, ML d) (hs : KMk.RdS w a xs) :
    Calls Tryz.prog 26 #[.slice a xs.length cap, .int .i64 (l : Int)] w fun e w' => e = .returned (.int .i64 (leftR l (xs.length + KMS.szs xs))) ∧ Below w.heap.size w w' := by
  have hn' := hn
  unfold maxLen at hn'
  by_cases h0 : xs.length ≤ l
  · have d0 : decide ((l : Int) - (xs.length : Int) < 0) = false := by simp; omega
    go_enter Tryz.func26, Tryz.ntmps26
    go_wp2
    go_loopw [1, 5] (fun v1 v5 wr => ∃ j : Nat, j ≤ xs.length ∧ v5 = .int .i64 j ∧ xs.length + KMS.szs (xs.take j) ≤ l ∧ v1 = .int .i64 ((l - (xs.length + KMS.szs (xs.take j)) : Nat) : Int) ∧ Below w.heap.size w wr) (fun _ v5 _ => xs.length - (intOf v5).toNat)
    case atStart => exact ⟨0, Nat.zero_le _, rfl, by simpa [KMS.szs] using h0, by simp [KMS.szs]; try omega, Below.refl _ _⟩
    case round =>
      obtain ⟨j, hj, rfl, hle, rfl, hbl⟩ := hrel
      have KL : Hid (xs.length + KMS.szs (xs.take j) ≤ l) := hle
      by_cases hlt : j < xs.length
      · obtain ⟨d, hd⟩ : ∃ d, xs[j]? = some d := ⟨_, List.getElem?_eq_getElem hlt⟩
        rcases hs with hs | ⟨b, off, rfl, hb, h1⟩
        · rw [hs] at hlt; simp at hlt
        obtain ⟨⟨c0, c1, c2, c3, c4, c5⟩, hat, hrd⟩ := h1 j d hd
        have e0 : wr.cell? ⟨b, off + j * 4, none⟩ = some (.bool d.alive) := (hbl.cell (p := ⟨b, off + j * 4, none⟩) hb).trans (hat 0 _ rfl)
        have e1 : wr.cell? ⟨b, off + j * 4 + 1, none⟩ = some (.slice c0 d.copies.length c1) := (hbl.cell (p := ⟨b, off + j * 4 + 1, none⟩) hb).trans (hat 1 _ rfl)
        have e2 : wr.cell? ⟨b, off + j * 4 + 2, none⟩ = some (.slice c2 d.log.length c3) := (hbl.cell (p := ⟨b, off + j * 4 + 2, none⟩) hb).trans (hat 2 _ rfl)
        have e3 : wr.cell? ⟨b, off + j * 4 + 3, none⟩ = some (.slice c4 d.cleared.length c5) := (hbl.cell (p := ⟨b, off + j * 4 + 3, none⟩) hb).trans (hat 3 _ rfl)
        have hz := KM.szl wr c0 c1 c2 c3 c4 c5 d (l - (xs.length + KMS.szs (xs.take j))) (by omega) (hl d (List.mem_of_getElem? hd)) (KMk.later hrd hbl)
        have HST : Hid (KMS.szs (xs.take (j + 1)) = KMS.szs (xs.take j) + szM d) := by
          unfold Hid KMS.szs
          rw [List.map_take, List.map_take]
          exact sum_take_succ (by rw [List.getElem?_map, hd]; rfl)
        have HLE : Hid (KMS.szs (xs.take (j + 1)) ≤ KMS.szs xs) := by unfold Hid KMS.szs; rw [List.map_take]; exact sum_take_le _ _
        have KB : Hid (Below w.heap.size w wr) := hbl
        have jn : (j : Int) < (xs.length : Int) := by omega
        generalize hLL : KMS.szs (xs.take j) = LL at *
        generalize szM d = m at *
        clear h1 hbl hl hle hat hrd hd
        by_cases hfit : m ≤ l - (xs.length + LL)
        · rw [leftR_yes hfit] at hz
          have d1 : decide (((l - (xs.length + LL) - m : Nat) : Int) < 0) = false := by simp
          go_wp2_with fail
          refine hz.mono ?_
          clear hz
          rintro e w1 ⟨rfl, b1⟩
          go_wp2
          have h1 := KL.out
          refine ⟨⟨j + 1, by omega, by simp, by rw [HST.out]; omega, by rw [HST.out]; congr 2; omega, KB.out.trans (b1.mono KB.out.size)⟩, by simp [intOf]; omega⟩
        · rw [leftR_no hfit] at hz
          go_wp2_with fail
          refine hz.mono ?_
          clear hz
          rintro e w1 ⟨rfl, b1⟩
          go_wp2
          go_ret
          have h2 := HST.out
          have h3 := HLE.out
          refine ⟨by rw [leftR_no (by omega)]; rfl, KB.out.trans (b1.mono KB.out.size)⟩
      · obtain rfl : j = xs.length := by omega
        have hd : decide ((xs.length : Int) < (xs.length : Int)) = false := by simp
        rw [List.take_length] at hle ⊢
        clear hs hl KL
        go_wp2
        go_ret
        exact ⟨by rw [leftR_yes hle]; rfl, hbl⟩
  · have d0 : decide ((l : Int) - (xs.length : Int) < 0) = true := by simp; omega
    go_enter Tryz.func26, Tryz.ntmps26
    go_wp2
    go_ret
    exact ⟨by rw [leftR_no (by omega)]; rfl, Below.refl _ _⟩
end Go.Proofs.YtdmpobegobfpjaaGreat