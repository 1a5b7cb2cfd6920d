/- The pile in memory: two of its things change places. -/
import Derived.Test.YtcanaklameddbaaRows
import Derived.Test.YtcanaklameddbaaPilC
import Derived.Test.YtcanaklameddbaaUntZ
import Derived.Test.YtcanaklameddbaaTxK
import Derived.WalkKit
import Derived.WalkSpells
import Derived.WalkLawsBesides
import Derived.Below
import Derived.Deep.CutRange
namespace Go.Proofs.Ytcanaklameddbaa
open Go.RowKit
/-- A pile in memory: its things are xs, in block q; its map is block mb. -/
structure Pin (W : World) (base p q mb n cap : Nat) (xs : List N5) : Prop where
  c0 : W.cell? ⟨p, 0, none⟩ = some (.slice (some ⟨q, 0, none⟩) xs.length cap)
  c1 : W.cell? ⟨p, 1, none⟩ = some (.map (some mb))
  fz : ∀ j, W.frozen? ⟨p, j, none⟩ = false
  at_ : NotesAt W q 0 xs
  rm : Room W q (xs.length * 5)
  cp : xs.length ≤ cap
  mp : MapN W mb n
  ok : ∀ s ∈ xs, noteOkB s = true
  pq : p ≠ q
  pm : p ≠ mb
  qm : q ≠ mb
  bp : base ≤ p
  bq : base ≤ q
  bm : base ≤ mb
  lp : p < W.heap.size
  lq : q < W.heap.size
theorem Pin.keep {W V : World} {base p q mb n cap : Nat} {xs : List N5} (h : Pin W base p q mb n cap xs) (hs : W.heap.size ≤ V.heap.size) (hk : ∀ x, OfP p q mb x → V.heap[x]? = W.heap[x]?) : Pin V base p q mb n cap xs :=
  ⟨(World.cell?_of_block (a := ⟨p, 0, none⟩) (hk p (.inl rfl))).trans h.c0, (World.cell?_of_block (a := ⟨p, 1, none⟩) (hk p (.inl rfl))).trans h.c1, fun j => (World.frozen?_of_block (a := ⟨p, j, none⟩) (hk p (.inl rfl))).trans (h.fz j), h.at_.of_block (hk q (.inr (.inl rfl))), h.rm.of_block (hk q (.inr (.inl rfl))), h.cp, h.mp.of_block (hk mb (.inr (.inr rfl))), h.ok, h.pq, h.pm, h.qm, h.bp, h.bq, h.bm, Nat.lt_of_lt_of_le h.lp hs, Nat.lt_of_lt_of_le h.lq hs⟩
theorem Pin.later {W V : World} {base p q mb n cap : Nat} {xs : List N5} (h : Pin W base p q mb n cap xs) (hb : Below W.heap.size W V) : Pin V base p q mb n cap xs := h.keep hb.size (fun x hx => hb.block x (by rcases hx with rfl | rfl | rfl; exact h.lp; exact h.lq; exact h.mp.lt))
theorem Pin.below_drew {W V : World} {base p q mb n cap : Nat} {xs : List N5} (h : Pin W base p q mb n cap xs) (e : W.drew = V) : Pin V base p q mb n cap xs := by rw [← e]; exact h.later ((Below.refl _ _).drew)
theorem Pin.mono {W : World} {base p q mb n n' cap : Nat} {xs : List N5} (h : Pin W base p q mb n cap xs) (hn : n ≤ n') : Pin W base p q mb n' cap xs := ⟨h.c0, h.c1, h.fz, h.at_, h.rm, h.cp, h.mp.mono hn, h.ok, h.pq, h.pm, h.qm, h.bp, h.bq, h.bm, h.lp, h.lq⟩
/-- Another map in its place. -/
theorem Pin.turnM {W V : World} {base p q mb n n' cap : Nat} {xs : List N5} (h : Pin W base p q mb n cap xs) (ht : Turned mb W V) (hm : MapN V mb n') (hs : V.heap.size = W.heap.size) : Pin V base p q mb n' cap xs := by
  have hp := ht.block p h.lp h.pm
  have hq := ht.block q h.lq h.qm
  exact ⟨(World.cell?_of_block (a := ⟨p, 0, none⟩) hp).trans h.c0, (World.cell?_of_block (a := ⟨p, 1, none⟩) hp).trans h.c1, fun j => (World.frozen?_of_block (a := ⟨p, j, none⟩) hp).trans (h.fz j), h.at_.of_block hq, h.rm.of_block hq, h.cp, hm, h.ok, h.pq, h.pm, h.qm, h.bp, h.bq, h.bm, by rw [hs]; exact h.lp, by rw [hs]; exact h.lq⟩
/-- One of its things written over. -/
theorem Pin.put5 {W : World} {base p q mb n cap i : Nat} {xs : List N5} {x : N5} (h : Pin W base p q mb n cap xs) (hi : xs[i]? = some x) (y : N5) (hy : noteOkB y = true) : Pin (((((W.setCell ⟨q, i * 5, none⟩ (.int .i64 y.region)).setCell ⟨q, i * 5 + 1, none⟩ (.int .i64 y.slot)).setCell ⟨q, i * 5 + 2, none⟩ (.int .i64 y.version)).setCell ⟨q, i * 5 + 3, none⟩ (.int .i64 y.value)).setCell ⟨q, i * 5 + 4, none⟩ (.bool y.used)) base p q mb n cap (xs.set i y) := by
  have li := (List.getElem?_eq_some_iff.1 hi).1
  have ho : OnlyBlock q W (((((W.setCell ⟨q, i * 5, none⟩ (.int .i64 y.region)).setCell ⟨q, i * 5 + 1, none⟩ (.int .i64 y.slot)).setCell ⟨q, i * 5 + 2, none⟩ (.int .i64 y.version)).setCell ⟨q, i * 5 + 3, none⟩ (.int .i64 y.value)).setCell ⟨q, i * 5 + 4, none⟩ (.bool y.used)) := (((((OnlyBlock.refl q _).setCell _ _).setCell _ _).setCell _ _).setCell _ _).setCell _ _
  have hp := ho.block p h.pq
  have hm := ho.block mb (Ne.symm h.qm)
  obtain ⟨v0, d0, _⟩ := h.rm (i * 5) (by omega)
  obtain ⟨v1, d1, _⟩ := h.rm (i * 5 + 1) (by omega)
  obtain ⟨v2, d2, _⟩ := h.rm (i * 5 + 2) (by omega)
  obtain ⟨v3, d3, _⟩ := h.rm (i * 5 + 3) (by omega)
  obtain ⟨v4, d4, _⟩ := h.rm (i * 5 + 4) (by omega)
  refine ⟨(World.cell?_of_block (a := ⟨p, 0, none⟩) hp).trans (by rw [List.length_set]; exact h.c0), (World.cell?_of_block (a := ⟨p, 1, none⟩) hp).trans h.c1, fun j => (World.frozen?_of_block (a := ⟨p, j, none⟩) hp).trans (h.fz j), fun k s hk => ?_, by rw [List.length_set]; exact ((((h.rm.set _).set _).set _).set _).set _, by rw [List.length_set]; exact h.cp, h.mp.of_block hm, fun s hs => ?_, h.pq, h.pm, h.qm, h.bp, h.bq, h.bm, by rw [ho.size]; exact h.lp, by rw [ho.size]; exact h.lq⟩
  · rw [Nat.zero_add]
    by_cases e : i = k
    · subst e
      rw [List.getElem?_set_self li] at hk
      obtain rfl := Option.some.inj hk
      exact NoteAt.put y d0 d1 d2 d3 d4
    · rw [List.getElem?_set_ne e] at hk
      have := h.at_ k s hk
      rw [Nat.zero_add] at this
      exact ((((this.set (by omega) _).set (by omega) _).set (by omega) _).set (by omega) _).set (by omega) _
  · rcases List.mem_or_eq_of_mem_set hs with hs | rfl
    · exact h.ok s hs
    · exact hy
set_option maxRecDepth 100000 in
set_option maxHeartbeats 8000000 in
theorem noSwap_any (w : World) (base p q mb n cap : Nat) (xs : List N5) (i j : Nat) (x y : N5) (h : Pin w base p q mb n cap xs) (hn : n ≤ 100000) (hl : xs.length ≤ 1000) (hi : xs[i]? = some x) (hj : xs[j]? = some y) :
    Calls Try.prog 111 #[.pointer (some ⟨p, 0, none⟩), .int .i64 (i : Int), .int .i64 (j : Int)] w fun e w' => e = .returned (.tuple #[]) ∧ Pin w' base p q mb (n + 1 + 1) cap ((xs.set i y).set j x) ∧ KeptP (OfP p q mb) w w' := by
  have li := (List.getElem?_eq_some_iff.1 hi).1
  have lj := (List.getElem?_eq_some_iff.1 hj).1
  have ix : (i : Int) < (xs.length : Int) := by omega
  have jx : (j : Int) < (xs.length : Int) := by omega
  have hS : (fun X : World => X.cell? ⟨p, 0, none⟩ = some (.slice (some ⟨q, 0, none⟩) xs.length cap) ∧ NoteAt X q (i * 5) x ∧ NoteAt X q (j * 5) y) w.drew := ⟨h.c0, (show NoteAt w q (i * 5) x by simpa using h.at_ i x hi).below ((Below.refl w.heap.size w).drew) h.lq, (show NoteAt w q (j * 5) y by simpa using h.at_ j y hj).below ((Below.refl w.heap.size w).drew) h.lq⟩
  have rd : Room w.drew q (xs.length * 5) := h.rm
  have KH := hidOf h
  clear h
  go_enter Try.func111, Try.ntmps111
  go_upto_region 0 with fail
  refine wp_region_z (fun z => z == 25 || z == 27) (fun X : World => X.cell? ⟨p, 0, none⟩ = some (.slice (some ⟨q, 0, none⟩) xs.length cap) ∧ NoteAt X q (i * 5) x ∧ NoteAt X q (j * 5) y) (by kernel_rfl) ?_
  obtain ⟨v0, c0, f0⟩ := rd (i * 5) (by omega)
  obtain ⟨v1, c1, f1⟩ := rd (i * 5 + 1) (by omega)
  obtain ⟨v2, c2, f2⟩ := rd (i * 5 + 2) (by omega)
  obtain ⟨v3, c3, f3⟩ := rd (i * 5 + 3) (by omega)
  obtain ⟨v4, c4, f4⟩ := rd (i * 5 + 4) (by omega)
  generalize hWd : w.drew = Wd at *
  refine wpZ_takeP (i := 0) (v := ?_) rfl (by kernel_rfl) (fun _ _ _ h => h) (Or.inl ⟨by rfl, ?_⟩) hS ?_
  rotate_left
  · (intro w _; go_simp; first | done | with_reducible rfl | (rw [if_pos (by omega)]) | (rw [if_pos (by omega)]; go_simp))
  simp only [Act.put]
  refine wpZ_takeP (i := 1) (v := ?_) rfl (by kernel_rfl) (fun _ _ _ h => h) (Or.inl ⟨by rfl, ?_⟩) hS ?_
  rotate_left
  · (intro w _; go_simp; first | done | with_reducible rfl | (rw [if_pos (by omega)]) | (rw [if_pos (by omega)]; go_simp))
  simp only [Act.put]
  refine wpZ_takeP (i := 2) (v := ?_) rfl (by kernel_rfl) (fun _ _ _ h => h) (Or.inl ⟨by rfl, ?_⟩) hS ?_
  rotate_left
  · (intro w _; go_simp; first | done | with_reducible rfl | (rw [if_pos (by omega)]) | (rw [if_pos (by omega)]; go_simp))
  simp only [Act.put]
  refine wpZ_take (i := 3) (v := ?_) rfl (by kernel_rfl) (fun _ _ _ h => h) (Or.inl ⟨by rfl, ?_⟩) hS ?_
  rotate_left
  · (intro w hSw; obtain ⟨s0, ⟨a0, a1, a2, a3, a4⟩, ⟨b0, b1, b2, b3, b4⟩⟩ := hSw; go_simp; first | done | with_reducible rfl)
  simp only [Act.put]
  refine wpZ_takeP (i := 4) (v := ?_) rfl (by kernel_rfl) (fun _ _ _ h => h) (Or.inl ⟨by rfl, ?_⟩) hS ?_
  rotate_left
  · (intro w _; go_simp; first | done | with_reducible rfl | (rw [if_pos (by omega)]) | (rw [if_pos (by omega)]; go_simp))
  simp only [Act.put]
  refine wpZ_takeP (i := 5) (v := ?_) rfl (by kernel_rfl) (fun _ _ _ h => h) (Or.inl ⟨by rfl, ?_⟩) hS ?_
  rotate_left
  · (intro w _; go_simp; first | done | with_reducible rfl | (rw [if_pos (by omega)]) | (rw [if_pos (by omega)]; go_simp))
  simp only [Act.put]
  refine wpZ_takeP (i := 6) (v := ?_) rfl (by kernel_rfl) (fun _ _ _ h => h) (Or.inl ⟨by rfl, ?_⟩) hS ?_
  rotate_left
  · (intro w _; go_simp; first | done | with_reducible rfl | (rw [if_pos (by omega)]) | (rw [if_pos (by omega)]; go_simp))
  simp only [Act.put]
  refine wpZ_takeP (i := 7) (v := ?_) rfl (by kernel_rfl) (fun _ _ _ h => h) (Or.inl ⟨by rfl, ?_⟩) hS ?_
  rotate_left
  · (intro w _; go_simp; first | done | with_reducible rfl | (rw [if_pos (by omega)]) | (rw [if_pos (by omega)]; go_simp))
  simp only [Act.put]
  refine wpZ_take (i := 8) (v := ?_) rfl (by kernel_rfl) (fun _ _ _ h => h) (Or.inl ⟨by rfl, ?_⟩) hS ?_
  rotate_left
  · (intro w hSw; obtain ⟨s0, ⟨a0, a1, a2, a3, a4⟩, ⟨b0, b1, b2, b3, b4⟩⟩ := hSw; go_simp; first | done | with_reducible rfl)
  simp only [Act.put]
  refine wpZ_takeP (i := 9) (v := ?_) rfl (by kernel_rfl) (fun _ _ _ h => h) (Or.inl ⟨by rfl, ?_⟩) hS ?_
  rotate_left
  · (intro w _; go_simp; first | done | with_reducible rfl | (rw [if_pos (by omega)]) | (rw [if_pos (by omega)]; go_simp))
  simp only [Act.put]
  refine wpZ_takeP (i := 10) (v := ?_) rfl (by kernel_rfl) (fun _ _ _ h => h) (Or.inl ⟨by rfl, ?_⟩) hS ?_
  rotate_left
  · (intro w _; go_simp; first | done | with_reducible rfl | (rw [if_pos (by omega)]) | (rw [if_pos (by omega)]; go_simp))
  simp only [Act.put]
  refine wpZ_takeP (i := 11) (v := ?_) rfl (by kernel_rfl) (fun _ _ _ h => h) (Or.inl ⟨by rfl, ?_⟩) hS ?_
  rotate_left
  · (intro w _; go_simp; first | done | with_reducible rfl | (rw [if_pos (by omega)]) | (rw [if_pos (by omega)]; go_simp))
  simp only [Act.put]
  refine wpZ_takeP (i := 12) (v := ?_) rfl (by kernel_rfl) (fun _ _ _ h => h) (Or.inl ⟨by rfl, ?_⟩) hS ?_
  rotate_left
  · (intro w _; go_simp; first | done | with_reducible rfl | (rw [if_pos (by omega)]) | (rw [if_pos (by omega)]; go_simp))
  simp only [Act.put]
  refine wpZ_take (i := 13) (v := ?_) rfl (by kernel_rfl) (fun _ _ _ h => h) (Or.inl ⟨by rfl, ?_⟩) hS ?_
  rotate_left
  · (intro w hSw; obtain ⟨s0, ⟨a0, a1, a2, a3, a4⟩, ⟨b0, b1, b2, b3, b4⟩⟩ := hSw; go_simp; first | done | with_reducible rfl)
  simp only [Act.put]
  refine wpZ_takeP (i := 14) (v := ?_) rfl (by kernel_rfl) (fun _ _ _ h => h) (Or.inl ⟨by rfl, ?_⟩) hS ?_
  rotate_left
  · (intro w _; go_simp; first | done | with_reducible rfl | (rw [if_pos (by omega)]) | (rw [if_pos (by omega)]; go_simp))
  simp only [Act.put]
  refine wpZ_takeP (i := 15) (v := ?_) rfl (by kernel_rfl) (fun _ _ _ h => h) (Or.inl ⟨by rfl, ?_⟩) hS ?_
  rotate_left
  · (intro w _; go_simp; first | done | with_reducible rfl | (rw [if_pos (by omega)]) | (rw [if_pos (by omega)]; go_simp))
  simp only [Act.put]
  refine wpZ_take (i := 16) (v := ?_) rfl (by kernel_rfl) (fun _ _ _ h => h) (Or.inl ⟨by rfl, ?_⟩) hS ?_
  rotate_left
  · (intro w hSw; obtain ⟨s0, ⟨a0, a1, a2, a3, a4⟩, ⟨b0, b1, b2, b3, b4⟩⟩ := hSw; go_simp; first | done | with_reducible rfl)
  simp only [Act.put]
  refine wpZ_takeP (i := 17) (v := ?_) rfl (by kernel_rfl) (fun _ _ _ h => h) (Or.inl ⟨by rfl, ?_⟩) hS ?_
  rotate_left
  · (intro w _; go_simp; first | done | with_reducible rfl | (rw [if_pos (by omega)]) | (rw [if_pos (by omega)]; go_simp))
  simp only [Act.put]
  refine wpZ_takeP (i := 18) (v := ?_) rfl (by kernel_rfl) (fun _ _ _ h => h) (Or.inl ⟨by rfl, ?_⟩) hS ?_
  rotate_left
  · (intro w _; go_simp; first | done | with_reducible rfl | (rw [if_pos (by omega)]) | (rw [if_pos (by omega)]; go_simp))
  simp only [Act.put]
  refine wpZ_takeP (i := 19) (v := ?_) rfl (by kernel_rfl) (fun _ _ _ h => h) (Or.inl ⟨by rfl, ?_⟩) hS ?_
  rotate_left
  · (intro w _; go_simp; first | done | with_reducible rfl | (rw [if_pos (by omega)]) | (rw [if_pos (by omega)]; go_simp))
  simp only [Act.put]
  refine wpZ_take (i := 20) (v := ?_) rfl (by kernel_rfl) (fun _ _ _ h => h) (Or.inl ⟨by rfl, ?_⟩) hS ?_
  rotate_left
  · (intro w hSw; obtain ⟨s0, ⟨a0, a1, a2, a3, a4⟩, ⟨b0, b1, b2, b3, b4⟩⟩ := hSw; go_simp; first | done | with_reducible rfl)
  simp only [Act.put]
  refine wpZ_takeP (i := 21) (v := ?_) rfl (by kernel_rfl) (fun _ _ _ h => h) (Or.inl ⟨by rfl, ?_⟩) hS ?_
  rotate_left
  · (intro w _; go_simp; first | done | with_reducible rfl | (rw [if_pos (by omega)]) | (rw [if_pos (by omega)]; go_simp))
  simp only [Act.put]
  refine wpZ_takeP (i := 22) (v := ?_) rfl (by kernel_rfl) (fun _ _ _ h => h) (Or.inl ⟨by rfl, ?_⟩) hS ?_
  rotate_left
  · (intro w _; go_simp; first | done | with_reducible rfl | (rw [if_pos (by omega)]) | (rw [if_pos (by omega)]; go_simp))
  simp only [Act.put]
  refine wpZ_take (i := 23) (v := ?_) rfl (by kernel_rfl) (fun _ _ _ h => h) (Or.inl ⟨by rfl, ?_⟩) hS ?_
  rotate_left
  · (intro w hSw; obtain ⟨s0, ⟨a0, a1, a2, a3, a4⟩, ⟨b0, b1, b2, b3, b4⟩⟩ := hSw; go_simp; first | done | with_reducible rfl)
  simp only [Act.put]
  refine wpZ_takeP (i := 24) (v := ?_) rfl (by kernel_rfl) (fun _ _ _ h => h) (Or.inl ⟨by rfl, ?_⟩) hS ?_
  rotate_left
  · (intro w _; go_simp; first | done | with_reducible rfl | (rw [if_pos (by omega)]) | (rw [if_pos (by omega)]; go_simp))
  simp only [Act.put]
  refine wpZ_ready (rs := [25]) (by kernel_rfl) (by simp) ?_
  refine AllZ.cons rfl (fun K hK => ?_) AllZ.nil
  go_simp
  refine hK.out _ _ (fun h => absurd (show false = true from h.symm.trans (by kernel_rfl)) (by decide)) ?_
  clear hK K
  refine wpZ_ready (rs := [26]) (by kernel_rfl) (by simp) ?_
  refine AllZ.cons rfl (fun K hK => ?_) AllZ.nil
  go_simp
  refine hK.out _ _ (fun h => absurd (show false = true from h.symm.trans (by kernel_rfl)) (by decide)) ?_
  clear hK K
  have r1 : Room (((((Wd.setCell ⟨q, i * 5, none⟩ (.int .i64 y.region)).setCell ⟨q, i * 5 + 1, none⟩ (.int .i64 y.slot)).setCell ⟨q, i * 5 + 2, none⟩ (.int .i64 y.version)).setCell ⟨q, i * 5 + 3, none⟩ (.int .i64 y.value)).setCell ⟨q, i * 5 + 4, none⟩ (.bool y.used)) q (xs.length * 5) := ((((rd.set _).set _).set _).set _).set _
  generalize hW1 : (((((Wd.setCell ⟨q, i * 5, none⟩ (.int .i64 y.region)).setCell ⟨q, i * 5 + 1, none⟩ (.int .i64 y.slot)).setCell ⟨q, i * 5 + 2, none⟩ (.int .i64 y.version)).setCell ⟨q, i * 5 + 3, none⟩ (.int .i64 y.value)).setCell ⟨q, i * 5 + 4, none⟩ (.bool y.used)) = W1 at *
  obtain ⟨u0, e0, g0⟩ := r1 (j * 5) (by omega)
  obtain ⟨u1, e1, g1⟩ := r1 (j * 5 + 1) (by omega)
  obtain ⟨u2, e2, g2⟩ := r1 (j * 5 + 2) (by omega)
  obtain ⟨u3, e3, g3⟩ := r1 (j * 5 + 3) (by omega)
  obtain ⟨u4, e4, g4⟩ := r1 (j * 5 + 4) (by omega)
  refine wpZ_ready (rs := [27]) (by kernel_rfl) (by simp) ?_
  refine AllZ.cons rfl (fun K hK => ?_) AllZ.nil
  go_simp
  refine hK.out _ _ (fun h => absurd (show false = true from h.symm.trans (by kernel_rfl)) (by decide)) ?_
  clear hK K
  refine wpZ_done (by kernel_rfl) ?_ _
  have hj' : (xs.set i y)[j]? = some y := by
    by_cases e : i = j
    · subst e; rw [List.getElem?_set_self li]
    · rw [List.getElem?_set_ne e]; exact hj
  have PF : Pin (((((W1.setCell ⟨q, j * 5, none⟩ (.int .i64 x.region)).setCell ⟨q, j * 5 + 1, none⟩ (.int .i64 x.slot)).setCell ⟨q, j * 5 + 2, none⟩ (.int .i64 x.version)).setCell ⟨q, j * 5 + 3, none⟩ (.int .i64 x.value)).setCell ⟨q, j * 5 + 4, none⟩ (.bool x.used)) base p q mb n cap ((xs.set i y).set j x) := by
    rw [← hW1]
    exact ((KH.out.below_drew hWd).put5 hi y (KH.out.ok y (List.mem_of_getElem? hj))).put5 hj' x (KH.out.ok x (List.mem_of_getElem? hi))
  have KF : KeptP (OfP p q mb) w (((((W1.setCell ⟨q, j * 5, none⟩ (.int .i64 x.region)).setCell ⟨q, j * 5 + 1, none⟩ (.int .i64 x.slot)).setCell ⟨q, j * 5 + 2, none⟩ (.int .i64 x.version)).setCell ⟨q, j * 5 + 3, none⟩ (.int .i64 x.value)).setCell ⟨q, j * 5 + 4, none⟩ (.bool x.used)) := by
    rw [← hW1, ← hWd]
    exact (KeptP.of_below ((Below.refl w.heap.size w).drew)).trans (KeptP.of_only (c := q) (((((((((((OnlyBlock.refl q _).setCell _ _).setCell _ _).setCell _ _).setCell _ _).setCell _ _).setCell _ _).setCell _ _).setCell _ _).setCell _ _).setCell _ _) (.inr (.inl rfl)))
  obtain ⟨zi, hzi⟩ : ∃ z, ((xs.set i y).set j x)[i]? = some z := ⟨_, List.getElem?_eq_getElem (by simpa using li)⟩
  have hzj : ((xs.set i y).set j x)[j]? = some x := by rw [List.getElem?_set_self (by simpa using lj)]
  have hle : ((xs.set i y).set j x).length = xs.length := by simp
  have KH2 : Hid (KeptP (OfP p q mb) w (((((W1.setCell ⟨q, j * 5, none⟩ (.int .i64 x.region)).setCell ⟨q, j * 5 + 1, none⟩ (.int .i64 x.slot)).setCell ⟨q, j * 5 + 2, none⟩ (.int .i64 x.version)).setCell ⟨q, j * 5 + 3, none⟩ (.int .i64 x.value)).setCell ⟨q, j * 5 + 4, none⟩ (.bool x.used)) ∧ Pin (((((W1.setCell ⟨q, j * 5, none⟩ (.int .i64 x.region)).setCell ⟨q, j * 5 + 1, none⟩ (.int .i64 x.slot)).setCell ⟨q, j * 5 + 2, none⟩ (.int .i64 x.version)).setCell ⟨q, j * 5 + 3, none⟩ (.int .i64 x.value)).setCell ⟨q, j * 5 + 4, none⟩ (.bool x.used)) base p q mb n cap ((xs.set i y).set j x)) := ⟨KF, PF⟩
  clear KH PF KF hj' rd r1 c0 c1 c2 c3 c4 f0 f1 f2 f3 f4 e0 e1 e2 e3 e4 g0 g1 g2 g3 g4 hS hWd hW1 ix jx
  generalize (((((W1.setCell ⟨q, j * 5, none⟩ (.int .i64 x.region)).setCell ⟨q, j * 5 + 1, none⟩ (.int .i64 x.slot)).setCell ⟨q, j * 5 + 2, none⟩ (.int .i64 x.version)).setCell ⟨q, j * 5 + 3, none⟩ (.int .i64 x.value)).setCell ⟨q, j * 5 + 4, none⟩ (.bool x.used)) = V at *
  have KH := KH2
  clear KH2
  generalize hZS : (xs.set i y).set j x = zs at *
  have hln : zs.length = xs.length := hle
  have ix : (i : Int) < (zs.length : Int) := by omega
  have jx : (j : Int) < (zs.length : Int) := by omega
  rw [← hln] at li lj hl
  have HZ := hidOf hZS
  clear hle hi hj hZS hln Wd W1
  have helA := hzi
  have helB := hzj
  clear hzi hzj
  obtain ⟨hzA, hziA⟩ : ∃ hz : noteOkB zi = true, V.heap.size = V.heap.size := ⟨KH.out.2.ok zi (List.mem_of_getElem? helA), rfl⟩
  have hkA := noOk_in hzA
  have hS : (fun X : World => X.cell? ⟨p, 0, none⟩ = some (.slice (some ⟨q, 0, none⟩) (zs).length cap) ∧ X.cell? ⟨p, 1, none⟩ = some (.map (some mb)) ∧ NoteAt X q (i * 5) zi) V.drew := ⟨KH.out.2.c0, KH.out.2.c1, (show NoteAt V q (i * 5) zi by simpa using KH.out.2.at_ i zi helA).below ((Below.refl V.heap.size V).drew) KH.out.2.lq⟩
  have hm : ∀ w : World, (method 244 29 (.agg #[.int .i64 zi.region, .int .i64 zi.slot, .int .i64 zi.version, .int .i64 zi.value, .bool zi.used]) "loop.example/g00153/impl.cell").run Try.prog w = .ok (36, .agg #[.int .i64 zi.region, .int .i64 zi.slot, .int .i64 zi.version, .int .i64 zi.value, .bool zi.used]) w := fun _ => by kernel_rfl
  go_upto_region 1 with fail
  refine wp_region_z (fun z => z == 14) (fun X : World => X.cell? ⟨p, 0, none⟩ = some (.slice (some ⟨q, 0, none⟩) (zs).length cap) ∧ X.cell? ⟨p, 1, none⟩ = some (.map (some mb)) ∧ NoteAt X q (i * 5) zi) (by kernel_rfl) ?_
  have KD : Hid (Below V.heap.size V V.drew) := (Below.refl _ _).drew
  generalize V.drew = Wd at *
  refine wpZ_takeP (i := 0) (v := ?_) rfl (by kernel_rfl) (fun _ _ _ h => h) (Or.inl ⟨by rfl, ?_⟩) hS ?_
  rotate_left
  · (intro w _; go_simp; first | done | with_reducible rfl | (rw [if_pos (by omega)]) | (rw [if_pos (by omega)]; go_simp))
  simp only [Act.put]
  refine wpZ_takeP (i := 1) (v := ?_) rfl (by kernel_rfl) (fun _ _ _ h => h) (Or.inl ⟨by rfl, ?_⟩) hS ?_
  rotate_left
  · (intro w _; go_simp; first | done | with_reducible rfl | (rw [if_pos (by omega)]) | (rw [if_pos (by omega)]; go_simp))
  simp only [Act.put]
  refine wpZ_takeP (i := 2) (v := ?_) rfl (by kernel_rfl) (fun _ _ _ h => h) (Or.inl ⟨by rfl, ?_⟩) hS ?_
  rotate_left
  · (intro w _; go_simp; first | done | with_reducible rfl | (rw [if_pos (by omega)]) | (rw [if_pos (by omega)]; go_simp))
  simp only [Act.put]
  refine wpZ_take (i := 3) (v := ?_) rfl (by kernel_rfl) (fun _ _ _ h => h) (Or.inl ⟨by rfl, ?_⟩) hS ?_
  rotate_left
  · (intro w hSw; obtain ⟨s0, s1, ⟨a0, a1, a2, a3, a4⟩⟩ := hSw; go_simp; first | done | with_reducible rfl)
  simp only [Act.put]
  refine wpZ_takeP (i := 4) (v := ?_) rfl (by kernel_rfl) (fun _ _ _ h => h) (Or.inl ⟨by rfl, ?_⟩) hS ?_
  rotate_left
  · (intro w _; go_simp; first | done | with_reducible rfl | (rw [if_pos (by omega)]) | (rw [if_pos (by omega)]; go_simp))
  simp only [Act.put]
  refine wpZ_takeP (i := 5) (v := ?_) rfl (by kernel_rfl) (fun _ _ _ h => h) (Or.inl ⟨by rfl, ?_⟩) hS ?_
  rotate_left
  · (intro w _; go_simp; first | done | with_reducible rfl | (rw [if_pos (by omega)]) | (rw [if_pos (by omega)]; go_simp))
  simp only [Act.put]
  refine wpZ_takeP (i := 6) (v := ?_) rfl (by kernel_rfl) (fun _ _ _ h => h) (Or.inl ⟨by rfl, ?_⟩) hS ?_
  rotate_left
  · (intro w _; go_simp; first | done | with_reducible rfl | (rw [if_pos (by omega)]) | (rw [if_pos (by omega)]; go_simp))
  simp only [Act.put]
  refine wpZ_take (i := 7) (v := ?_) rfl (by kernel_rfl) (fun _ _ _ h => h) (Or.inl ⟨by rfl, ?_⟩) hS ?_
  rotate_left
  · (intro w hSw; obtain ⟨s0, s1, ⟨a0, a1, a2, a3, a4⟩⟩ := hSw; go_simp; first | done | with_reducible rfl)
  simp only [Act.put]
  refine wpZ_takeP (i := 8) (v := ?_) rfl (by kernel_rfl) (fun _ _ _ h => h) (Or.inl ⟨by rfl, ?_⟩) hS ?_
  rotate_left
  · (intro w _; go_simp; first | done | with_reducible rfl | (rw [if_pos (by omega)]) | (rw [if_pos (by omega)]; go_simp))
  simp only [Act.put]
  refine wpZ_takeP (i := 9) (v := ?_) rfl (by kernel_rfl) (fun _ _ _ h => h) (Or.inl ⟨by rfl, ?_⟩) hS ?_
  rotate_left
  · (intro w _; go_simp; first | done | with_reducible rfl | (rw [if_pos (by omega)]) | (rw [if_pos (by omega)]; go_simp))
  simp only [Act.put]
  refine wpZ_take (i := 10) (v := ?_) rfl (by kernel_rfl) (fun _ _ _ h => h) (Or.inl ⟨by rfl, ?_⟩) hS ?_
  rotate_left
  · (intro w hSw; obtain ⟨s0, s1, ⟨a0, a1, a2, a3, a4⟩⟩ := hSw; go_simp; first | done | with_reducible rfl)
  simp only [Act.put]
  refine wpZ_takeP (i := 11) (v := ?_) rfl (by kernel_rfl) (fun _ _ _ h => h) (Or.inl ⟨by rfl, ?_⟩) hS ?_
  rotate_left
  · (intro w _; go_simp; first | done | with_reducible rfl | (rw [if_pos (by omega)]) | (rw [if_pos (by omega)]; go_simp))
  simp only [Act.put]
  refine wpZ_takeP (i := 13) (v := ?_) rfl (by kernel_rfl) (fun _ _ _ h => h) (Or.inl ⟨by rfl, ?_⟩) hS ?_
  rotate_left
  · (intro w _; go_simp; first | done | with_reducible rfl | (rw [if_pos (by omega)]) | (rw [if_pos (by omega)]; go_simp))
  simp only [Act.put]
  refine wpZ_ready (rs := [12]) (by kernel_rfl) (by simp) ?_
  refine AllZ.cons rfl (fun K hK => ?_) AllZ.nil
  go_simp
  refine (noCell_any Wd zi).mono ?_
  rintro e X2 ⟨rfl, b2⟩
  have bX : Below V.heap.size V X2 := KD.out.trans (b2.mono KD.out.size)
  have P2 := KH.out.2.later bX
  obtain ⟨Y, hst, hmY, htY, hsY⟩ := P2.mp.store (by omega) hkA.1 hkA.2 i (by omega)
  have P3 := P2.turnM htY hmY hsY
  have KX : Hid (KeptP (OfP p q mb) w Y ∧ Pin Y base p q mb (n + 1) cap (zs)) := ⟨(KH.out.1.trans (KeptP.of_below bX)).trans (KeptP.of_turned htY (.inr (.inr rfl))), P3⟩
  simp only [cKey] at hst
  have hS2 : (fun X : World => X.cell? ⟨p, 0, none⟩ = some (.slice (some ⟨q, 0, none⟩) (zs).length cap) ∧ X.cell? ⟨p, 1, none⟩ = some (.map (some mb)) ∧ NoteAt X q (i * 5) zi) X2 := ⟨P2.c0, P2.c1, by simpa using P2.at_ i zi helA⟩
  refine hK.out _ _ (fun _ => hS2) ?_
  clear hK K hS2 hS P2 P3 bX KD hmY htY hsY hm hzA hziA hkA KH b2
  refine wpZ_ready (rs := [14]) (by kernel_rfl) (by simp) ?_
  refine AllZ.cons rfl (fun K hK => ?_) AllZ.nil
  go_simp
  refine hK.out _ _ (fun h => absurd (show false = true from h.symm.trans (by kernel_rfl)) (by decide)) ?_
  clear hK K hst
  refine wpZ_done (by kernel_rfl) ?_ _
  have KH := KX
  clear KX
  generalize Y = V2 at *
  obtain ⟨hzB, hziB⟩ : ∃ hz : noteOkB x = true, V2.heap.size = V2.heap.size := ⟨KH.out.2.ok x (List.mem_of_getElem? helB), rfl⟩
  have hkB := noOk_in hzB
  have hS : (fun X : World => X.cell? ⟨p, 0, none⟩ = some (.slice (some ⟨q, 0, none⟩) (zs).length cap) ∧ X.cell? ⟨p, 1, none⟩ = some (.map (some mb)) ∧ NoteAt X q (j * 5) x) V2.drew := ⟨KH.out.2.c0, KH.out.2.c1, (show NoteAt V2 q (j * 5) x by simpa using KH.out.2.at_ j x helB).below ((Below.refl V2.heap.size V2).drew) KH.out.2.lq⟩
  have hm : ∀ w : World, (method 244 29 (.agg #[.int .i64 x.region, .int .i64 x.slot, .int .i64 x.version, .int .i64 x.value, .bool x.used]) "loop.example/g00153/impl.cell").run Try.prog w = .ok (36, .agg #[.int .i64 x.region, .int .i64 x.slot, .int .i64 x.version, .int .i64 x.value, .bool x.used]) w := fun _ => by kernel_rfl
  go_upto_region 2 with fail
  refine wp_region_z (fun z => z == 14) (fun X : World => X.cell? ⟨p, 0, none⟩ = some (.slice (some ⟨q, 0, none⟩) (zs).length cap) ∧ X.cell? ⟨p, 1, none⟩ = some (.map (some mb)) ∧ NoteAt X q (j * 5) x) (by kernel_rfl) ?_
  have KD : Hid (Below V2.heap.size V2 V2.drew) := (Below.refl _ _).drew
  generalize V2.drew = Wd at *
  refine wpZ_takeP (i := 0) (v := ?_) rfl (by kernel_rfl) (fun _ _ _ h => h) (Or.inl ⟨by rfl, ?_⟩) hS ?_
  rotate_left
  · (intro w _; go_simp; first | done | with_reducible rfl | (rw [if_pos (by omega)]) | (rw [if_pos (by omega)]; go_simp))
  simp only [Act.put]
  refine wpZ_takeP (i := 1) (v := ?_) rfl (by kernel_rfl) (fun _ _ _ h => h) (Or.inl ⟨by rfl, ?_⟩) hS ?_
  rotate_left
  · (intro w _; go_simp; first | done | with_reducible rfl | (rw [if_pos (by omega)]) | (rw [if_pos (by omega)]; go_simp))
  simp only [Act.put]
  refine wpZ_takeP (i := 2) (v := ?_) rfl (by kernel_rfl) (fun _ _ _ h => h) (Or.inl ⟨by rfl, ?_⟩) hS ?_
  rotate_left
  · (intro w _; go_simp; first | done | with_reducible rfl | (rw [if_pos (by omega)]) | (rw [if_pos (by omega)]; go_simp))
  simp only [Act.put]
  refine wpZ_take (i := 3) (v := ?_) rfl (by kernel_rfl) (fun _ _ _ h => h) (Or.inl ⟨by rfl, ?_⟩) hS ?_
  rotate_left
  · (intro w hSw; obtain ⟨s0, s1, ⟨a0, a1, a2, a3, a4⟩⟩ := hSw; go_simp; first | done | with_reducible rfl)
  simp only [Act.put]
  refine wpZ_takeP (i := 4) (v := ?_) rfl (by kernel_rfl) (fun _ _ _ h => h) (Or.inl ⟨by rfl, ?_⟩) hS ?_
  rotate_left
  · (intro w _; go_simp; first | done | with_reducible rfl | (rw [if_pos (by omega)]) | (rw [if_pos (by omega)]; go_simp))
  simp only [Act.put]
  refine wpZ_takeP (i := 5) (v := ?_) rfl (by kernel_rfl) (fun _ _ _ h => h) (Or.inl ⟨by rfl, ?_⟩) hS ?_
  rotate_left
  · (intro w _; go_simp; first | done | with_reducible rfl | (rw [if_pos (by omega)]) | (rw [if_pos (by omega)]; go_simp))
  simp only [Act.put]
  refine wpZ_takeP (i := 6) (v := ?_) rfl (by kernel_rfl) (fun _ _ _ h => h) (Or.inl ⟨by rfl, ?_⟩) hS ?_
  rotate_left
  · (intro w _; go_simp; first | done | with_reducible rfl | (rw [if_pos (by omega)]) | (rw [if_pos (by omega)]; go_simp))
  simp only [Act.put]
  refine wpZ_take (i := 7) (v := ?_) rfl (by kernel_rfl) (fun _ _ _ h => h) (Or.inl ⟨by rfl, ?_⟩) hS ?_
  rotate_left
  · (intro w hSw; obtain ⟨s0, s1, ⟨a0, a1, a2, a3, a4⟩⟩ := hSw; go_simp; first | done | with_reducible rfl)
  simp only [Act.put]
  refine wpZ_takeP (i := 8) (v := ?_) rfl (by kernel_rfl) (fun _ _ _ h => h) (Or.inl ⟨by rfl, ?_⟩) hS ?_
  rotate_left
  · (intro w _; go_simp; first | done | with_reducible rfl | (rw [if_pos (by omega)]) | (rw [if_pos (by omega)]; go_simp))
  simp only [Act.put]
  refine wpZ_takeP (i := 9) (v := ?_) rfl (by kernel_rfl) (fun _ _ _ h => h) (Or.inl ⟨by rfl, ?_⟩) hS ?_
  rotate_left
  · (intro w _; go_simp; first | done | with_reducible rfl | (rw [if_pos (by omega)]) | (rw [if_pos (by omega)]; go_simp))
  simp only [Act.put]
  refine wpZ_take (i := 10) (v := ?_) rfl (by kernel_rfl) (fun _ _ _ h => h) (Or.inl ⟨by rfl, ?_⟩) hS ?_
  rotate_left
  · (intro w hSw; obtain ⟨s0, s1, ⟨a0, a1, a2, a3, a4⟩⟩ := hSw; go_simp; first | done | with_reducible rfl)
  simp only [Act.put]
  refine wpZ_takeP (i := 11) (v := ?_) rfl (by kernel_rfl) (fun _ _ _ h => h) (Or.inl ⟨by rfl, ?_⟩) hS ?_
  rotate_left
  · (intro w _; go_simp; first | done | with_reducible rfl | (rw [if_pos (by omega)]) | (rw [if_pos (by omega)]; go_simp))
  simp only [Act.put]
  refine wpZ_takeP (i := 13) (v := ?_) rfl (by kernel_rfl) (fun _ _ _ h => h) (Or.inl ⟨by rfl, ?_⟩) hS ?_
  rotate_left
  · (intro w _; go_simp; first | done | with_reducible rfl | (rw [if_pos (by omega)]) | (rw [if_pos (by omega)]; go_simp))
  simp only [Act.put]
  refine wpZ_ready (rs := [12]) (by kernel_rfl) (by simp) ?_
  refine AllZ.cons rfl (fun K hK => ?_) AllZ.nil
  go_simp
  refine (noCell_any Wd x).mono ?_
  rintro e X2 ⟨rfl, b2⟩
  have bX : Below V2.heap.size V2 X2 := KD.out.trans (b2.mono KD.out.size)
  have P2 := KH.out.2.later bX
  obtain ⟨Y, hst, hmY, htY, hsY⟩ := P2.mp.store (by omega) hkB.1 hkB.2 j (by omega)
  have P3 := P2.turnM htY hmY hsY
  have KX : Hid (KeptP (OfP p q mb) w Y ∧ Pin Y base p q mb (n + 1 + 1) cap (zs)) := ⟨(KH.out.1.trans (KeptP.of_below bX)).trans (KeptP.of_turned htY (.inr (.inr rfl))), P3⟩
  simp only [cKey] at hst
  have hS2 : (fun X : World => X.cell? ⟨p, 0, none⟩ = some (.slice (some ⟨q, 0, none⟩) (zs).length cap) ∧ X.cell? ⟨p, 1, none⟩ = some (.map (some mb)) ∧ NoteAt X q (j * 5) x) X2 := ⟨P2.c0, P2.c1, by simpa using P2.at_ j x helB⟩
  refine hK.out _ _ (fun _ => hS2) ?_
  clear hK K hS2 hS P2 P3 bX KD hmY htY hsY hm hzB hziB hkB KH b2
  refine wpZ_ready (rs := [14]) (by kernel_rfl) (by simp) ?_
  refine AllZ.cons rfl (fun K hK => ?_) AllZ.nil
  go_simp
  refine hK.out _ _ (fun h => absurd (show false = true from h.symm.trans (by kernel_rfl)) (by decide)) ?_
  clear hK K hst
  refine wpZ_done (by kernel_rfl) ?_ _
  have KH := KX
  clear KX
  go_wp2
  refine bodyPost_end (v := .tuple #[]) (by simp [results, Try.results111, go_sem]) rfl ⟨rfl, by rw [HZ.out]; exact KH.out.2, KH.out.1⟩
end Go.Proofs.Ytcanaklameddbaa
