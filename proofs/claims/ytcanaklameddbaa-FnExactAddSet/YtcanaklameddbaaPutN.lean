/- The pile in memory: a thing is put onto it. -/
import Derived.Test.YtcanaklameddbaaRows
import Derived.Test.YtcanaklameddbaaInoN
import Derived.WalkKit
import Derived.WalkSpells
import Derived.WalkLawsBesides
import Derived.Below
import Derived.Lib.QuietBelow
import Derived.BigQuiet
import Derived.Deep.CutRange
namespace Go.Proofs.Ytcanaklameddbaa
open Go.RowKit
open Go.Sort (grow)
/-- Where a cell's thing is. -/
def noW (xs : List N5) (r s : Int) : Option Nat := xs.findIdx? fun x => decide (x.region = r) && decide (x.slot = s)
theorem noW_snoc {xs : List N5} {x : N5} (h : noW xs x.region x.slot = none) : noW (xs ++ [x]) = putF (noW xs) x.region x.slot xs.length := by
  funext r s
  unfold noW putF
  rw [List.findIdx?_append]
  by_cases e : r = x.region ∧ s = x.slot
  · obtain ⟨rfl, rfl⟩ := e
    unfold noW at h
    rw [h]
    simp [List.findIdx?_cons]
  · rw [if_neg e]
    have : [x].findIdx? (fun x => decide (x.region = r) && decide (x.slot = s)) = none := by
      simp [List.findIdx?_cons]
      intro h1 h2
      exact e ⟨h1.symm, h2.symm⟩
    rw [this]
    simp
theorem noW_none {xs : List N5} {r s : Int} : noW xs r s = none ↔ ∀ x ∈ xs, ¬ (x.region = r ∧ x.slot = s) := by
  unfold noW
  rw [List.findIdx?_eq_none_iff]
  constructor
  · intro h x hx e; have := h x hx; simp [e.1, e.2] at this
  · intro h x hx
    have := h x hx
    simp only [Bool.and_eq_false_iff, decide_eq_false_iff_not]
    by_cases e : x.region = r
    · exact .inr (fun e' => this ⟨e, e'⟩)
    · exact .inl e
/-- A pile that is built: its things in a row that can grow, its map. -/
structure PinB (W : World) (base p mb n : Nat) (v : Value) (xs : List N5) : Prop where
  c0 : W.cell? ⟨p, 0, none⟩ = some v
  c1 : W.cell? ⟨p, 1, none⟩ = some (.map (some mb))
  fz : ∀ j, W.frozen? ⟨p, j, none⟩ = false
  row : RowN W base v xs
  mp : MapF W mb n (noW xs)
  ok : ∀ s ∈ xs, noteOkB s = true
  vp : v.ownBlock ≠ some p
  vm : v.ownBlock ≠ some mb
  pm : p ≠ mb
  bp : base ≤ p
  bm : base ≤ mb
  lp : p < W.heap.size
theorem PinB.later {W V : World} {base p mb n : Nat} {v : Value} {xs : List N5} (h : PinB W base p mb n v xs) (hb : Below W.heap.size W V) : PinB V base p mb n v xs :=
  ⟨(hb.cell (p := ⟨p, 0, none⟩) h.lp).trans h.c0, (hb.cell (p := ⟨p, 1, none⟩) h.lp).trans h.c1, fun j => (hb.frozen (p := ⟨p, j, none⟩) h.lp).trans (h.fz j), h.row.later hb, h.mp.later hb, h.ok, h.vp, h.vm, h.pm, h.bp, h.bm, Nat.lt_of_lt_of_le h.lp hb.size⟩
theorem PinB.pil {W : World} {base p mb n : Nat} {v : Value} {xs : List N5} (h : PinB W base p mb n v xs) (hx : xs ≠ []) : ∃ q cap, v = .slice (some ⟨q, 0, none⟩) xs.length cap ∧ Pin W base p q mb n cap xs := by
  obtain ⟨a, c, e, ho⟩ := h.row.form
  rcases ho with ho | ⟨q, rfl, hq, hl, ha, hr⟩
  · exact absurd ho hx
  · refine ⟨q, c, e, ⟨by rw [← e]; exact h.c0, h.c1, h.fz, ha, hr, ?_, h.mp.any, h.ok, fun e' => h.vp (by rw [hq, e']), h.pm, fun e' => h.vm (by rw [hq, e']), h.bp, (h.row.lt hq).1, h.bm, h.lp, hl⟩⟩
    rcases h.row.2 with ⟨h0, _⟩ | ⟨q', cap', cur, h0, _, _, hc, _⟩
    · rw [h0] at e; cases e
    · rw [h0] at e; cases e; exact hc
set_option maxHeartbeats 4000000 in
theorem noLiftStay (w : World) (base p q mb n cap : Nat) (xs : List N5) (c : Nat) (h : Pin w base p q mb n cap xs) (hl : xs.length ≤ 1000) (hc : c < xs.length) (hs : c = 0 ∨ noK xs ((c - 1) / 2) ≤ noK xs c) :
    Calls Try.prog 86 #[.pointer (some ⟨p, 0, none⟩), .int .i64 (c : Int)] w fun e w' => e = .returned (.tuple #[]) ∧ Below w.heap.size w w' := by
  have H := hidOf h
  clear h
  go_enter Try.func86, Try.ntmps86
  go_wp2
  go_loopw [1] (fun v wr => v = .int .i64 (c : Int) ∧ wr = w) (fun _ _ => 0)
  case atStart => exact ⟨rfl, rfl⟩
  case round =>
    obtain ⟨rfl, rfl⟩ := hrel
    rcases c with _ | e
    · have d0 : decide ((0 : Int) < ((0 : Nat) : Int)) = false := by simp
      go_wp2
      refine bodyPost_end (v := .tuple #[]) (by simp [results, Try.results86, go_sem]) rfl ⟨rfl, Below.refl _ _⟩
    · have d0 : decide ((0 : Int) < ((e + 1 : Nat) : Int)) = true := by simp
      obtain ⟨x, hx⟩ : ∃ x, xs[e + 1]? = some x := ⟨_, List.getElem?_eq_getElem (by omega)⟩
      obtain ⟨y, hy⟩ : ∃ y, xs[e / 2]? = some y := ⟨_, List.getElem?_eq_getElem (by omega)⟩
      have c1 := noLess_any wr base p q mb n cap xs (e + 1) (e / 2) x y H.out hx hy
      rw [(noK_at hx).symm, (noK_at hy).symm] at c1
      have dl : decide (noK xs (e + 1) < noK xs (e / 2)) = false := by
        have := hs.resolve_left (by omega)
        rw [show (e + 1 - 1) / 2 = e / 2 by omega] at this
        simpa using this
      rw [dl] at c1
      have ea : ((e + 1 : Nat) : Int) = (e : Int) + 1 := by omega
      have eb : ((e / 2 : Nat) : Int) = (e : Int) / 2 := by omega
      rw [ea, eb] at c1
      clear dl ea eb hx hy hs
      go_wp2_with fail
      refine c1.mono ?_
      clear c1
      rintro e' w1 ⟨rfl, b1⟩
      have KB := hidOf b1
      clear b1
      go_wp2
      refine bodyPost_ret (v := .tuple #[]) (by simp [results, Try.results86, go_sem]) rfl ⟨rfl, KB.out⟩
set_option maxRecDepth 100000 in
set_option maxHeartbeats 8000000 in
theorem noPutLast (w : World) (base p mb n : Nat) (v : Value) (xs : List N5) (x : N5) (h : PinB w base p mb n v xs) (hn : n ≤ 1000) (hl : xs.length ≤ 100) (hok : noteOkB x = true) (hno : noW xs x.region x.slot = none) (hbs : base ≤ w.heap.size) (hs : xs = [] ∨ noK (xs ++ [x]) ((xs.length - 1) / 2) ≤ noK (xs ++ [x]) xs.length) :
    Calls Try.prog 38 #[.pointer (some ⟨p, 0, none⟩), .agg #[.int .i64 x.region, .int .i64 x.slot, .int .i64 x.version, .int .i64 x.value, .bool x.used]] w fun e w' => e = .returned (.tuple #[]) ∧ ∃ v', PinB w' base p mb (n + 1) v' (xs ++ [x]) ∧ Below base w w' := by
  obtain ⟨W0, hW0⟩ : ∃ W, W = w.alloc (.cells #[.int .i64 x.region, .int .i64 x.slot, .int .i64 x.version, .int .i64 x.value, .bool x.used] 29) := ⟨_, rfl⟩
  have b0 : Below w.heap.size w W0 := by rw [hW0]; exact (Below.refl _ _).alloc (Nat.le_refl _) _
  have z0 : W0.heap.size = w.heap.size + 1 := by rw [hW0]; simp
  have x0 : NoteAt W0 w.heap.size 0 x := by rw [hW0]; exact NoteAt.box w x _
  have h0 := h.later b0
  have hk := noOk_in hok
  have hpw : p < w.heap.size := h.lp
  have hmw : mb < w.heap.size := h.mp.lt
  have lk : ∀ d os, (Instr.lookup 100 (.map (some mb)) (cKey x.region x.slot) true).run Try.prog (grow (redrawn W0 d) os) = .ok (.tuple #[.int .i64 0, .bool false]) (grow (redrawn W0 d) os) := fun d os => by
    have hu := ((h0.mp).later (below_regrown W0 d os)).look hk.1 hk.2
    rw [hno] at hu
    exact hu
  have lift : ∀ {b o : Nat} {u : Value}, b < W0.heap.size → W0.cell? ⟨b, o, none⟩ = some u → ∀ d os, (grow (redrawn W0 d) os).cell? ⟨b, o, none⟩ = some u := fun {b o u} hb hh d os => ((below_regrown W0 d os).cell (p := ⟨b, o, none⟩) hb).trans hh
  have m1 := lift (by omega) h0.c1
  have t0 := lift (by omega) x0.c0
  have t1 := lift (by omega) x0.c1
  have t2 := lift (by omega) x0.c2
  have t3 := lift (by omega) x0.c3
  have t4 := lift (by omega) x0.c4
  have cC : ∀ d os, Calls Try.prog 36 #[.agg #[.int .i64 x.region, .int .i64 x.slot, .int .i64 x.version, .int .i64 x.value, .bool x.used]] (grow (redrawn W0 d) os) fun e w'' => e = .returned (.agg #[.int .i64 x.region, .int .i64 x.slot]) ∧ ∃ p : Regrown, w'' = grow (redrawn W0 p.d) p.os := fun d os => Calls.regrown_of (noCell_any _ _)
  have hm : ∀ w : World, (method 244 29 (.agg #[.int .i64 x.region, .int .i64 x.slot, .int .i64 x.version, .int .i64 x.value, .bool x.used]) "loop.example/g00153/impl.cell").run Try.prog w = .ok (36, .agg #[.int .i64 x.region, .int .i64 x.slot, .int .i64 x.version, .int .i64 x.value, .bool x.used]) w := fun _ => by kernel_rfl
  have H : Hid (PinB W0 base p mb n v xs ∧ NoteAt W0 w.heap.size 0 x ∧ Below w.heap.size w W0 ∧ W0.heap.size = w.heap.size + 1 ∧ base ≤ w.heap.size ∧ noW xs x.region x.slot = none ∧ noteOkB x = true ∧ v.ownBlock ≠ some w.heap.size) := ⟨h0, x0, b0, z0, hbs, hno, hok, fun e => by have := (h.row.lt e).2; omega⟩
  have HS := hidOf hs
  clear h h0 x0 b0 z0 hbs hno hok hs lift
  simp only [cKey, Nat.zero_add] at lk t0 t1 t2 t3 t4
  go_enter Try.func38, Try.ntmps38
  go_wp2_with fail
  rw [← hW0]
  clear hW0
  refine wp_region_quiet_below (by kernel_rfl) (by kernel_rfl) ?_
  repeat (go_big_quiet_step (exact cC _ _))
  refine wpQuiet_nil ?_
  intro _ hw'
  obtain ⟨⟨dq', osq⟩, hw''⟩ := hw'
  subst hw''
  have bq := below_regrown W0 dq' osq
  have K1 : Hid (PinB (grow (redrawn W0 dq') osq) base p mb n v xs ∧ NoteAt (grow (redrawn W0 dq') osq) w.heap.size 0 x ∧ Below w.heap.size w (grow (redrawn W0 dq') osq) ∧ w.heap.size < (grow (redrawn W0 dq') osq).heap.size) := by
    obtain ⟨g1, g2, g3, g4, _⟩ := H.out
    have := bq.size
    exact ⟨g1.later bq, g2.below bq (by omega), g3.trans (bq.mono g3.size), by omega⟩
  clear bq m1 t0 t1 t2 t3 t4 cC lk
  obtain ⟨av, ac, hav, -⟩ := K1.out.1.row.form
  have m0 := K1.out.1.c0
  rw [hav] at m0
  have HV := hidOf hav
  clear hav
  go_upto_region 5 with fail
  clear m0
  generalize grow (redrawn W0 dq') osq = W1 at *
  have hS : (fun X : World => X.cell? ⟨p, 0, none⟩ = some v ∧ NoteAt X w.heap.size 0 x) W1.drew := ⟨K1.out.1.c0, K1.out.2.1.below ((Below.refl W1.heap.size W1).drew) K1.out.2.2.2⟩
  refine wp_region_z (fun z => z == 10) (fun X : World => X.cell? ⟨p, 0, none⟩ = some v ∧ NoteAt X w.heap.size 0 x) (by kernel_rfl) ?_
  have KD : Hid (Below W1.heap.size W1 W1.drew) := (Below.refl _ _).drew
  generalize W1.drew = Wd at *
  refine wpZ_takeP (i := 0) (v := ?_) rfl (by kernel_rfl) (fun _ _ _ h => h) (Or.inl ⟨by rfl, ?_⟩) hS ?_
  rotate_left
  · (intro w _; go_simp; first | done | with_reducible rfl | (rw [if_pos (by omega)]) | (rw [if_pos (by omega)]; go_simp))
  simp only [Act.put]
  refine wpZ_takeP (i := 1) (v := ?_) rfl (by kernel_rfl) (fun _ _ _ h => h) (Or.inl ⟨by rfl, ?_⟩) hS ?_
  rotate_left
  · (intro w _; go_simp; first | done | with_reducible rfl | (rw [if_pos (by omega)]) | (rw [if_pos (by omega)]; go_simp))
  simp only [Act.put]
  refine wpZ_takeP (i := 2) (v := ?_) rfl (by kernel_rfl) (fun _ _ _ h => h) (Or.inl ⟨by rfl, ?_⟩) hS ?_
  rotate_left
  · (intro w _; go_simp; first | done | with_reducible rfl | (rw [if_pos (by omega)]) | (rw [if_pos (by omega)]; go_simp))
  simp only [Act.put]
  refine wpZ_takeP (i := 3) (v := ?_) rfl (by kernel_rfl) (fun _ _ _ h => h) (Or.inl ⟨by rfl, ?_⟩) hS ?_
  rotate_left
  · (intro w _; go_simp; first | done | with_reducible rfl | (rw [if_pos (by omega)]) | (rw [if_pos (by omega)]; go_simp))
  simp only [Act.put]
  refine wpZ_take (i := 4) (v := ?_) rfl (by kernel_rfl) (fun _ _ _ h => h) (Or.inl ⟨by rfl, ?_⟩) hS ?_
  rotate_left
  · (intro w hSw; obtain ⟨s0, ⟨a0, a1, a2, a3, a4⟩⟩ := hSw; go_simp; first | done | with_reducible rfl)
  simp only [Act.put]
  refine wpZ_take (i := 5) (v := ?_) rfl (by kernel_rfl) (fun _ _ _ h => h) (Or.inl ⟨by rfl, ?_⟩) hS ?_
  rotate_left
  · (intro w hSw; obtain ⟨s0, ⟨a0, a1, a2, a3, a4⟩⟩ := hSw; go_simp; first | done | with_reducible rfl)
  simp only [Act.put]
  obtain ⟨V, hV⟩ : ∃ V, V = Wd.alloc (.cells #[.int .i64 x.region, .int .i64 x.slot, .int .i64 x.version, .int .i64 x.value, .bool x.used] 29) := ⟨_, rfl⟩
  have bV : Below Wd.heap.size Wd V := by rw [hV]; exact (Below.refl _ _).alloc (Nat.le_refl _) _
  have bWV : Below W1.heap.size W1 V := KD.out.trans (bV.mono KD.out.size)
  have hone : NotesAt V Wd.heap.size 0 [x] := by rw [hV]; exact (NoteAt.box Wd _ _).one
  have hB1 := (K1.out.1.later bWV)
  obtain ⟨v5, Y5, hr, hrow5, hgr, hlies⟩ := pushNo hB1.row [x] (by simp; omega) 24 Wd.heap.size 0 1 hone (by have := hB1.bp; have := hB1.lp; omega)
  obtain ⟨a5, k5, rfl⟩ : ∃ a5 k5, v5 = Value.slice a5 (xs.length + 1) k5 := by
    obtain ⟨a5, k5, e5, -⟩ := hrow5.form
    exact ⟨a5, k5, by simpa using e5⟩
  have hwsz : w.heap.size < V.heap.size := Nat.lt_of_lt_of_le K1.out.2.2.2 bWV.size
  have hSV : (fun X : World => X.cell? ⟨p, 0, none⟩ = some v ∧ NoteAt X w.heap.size 0 x) V := ⟨hB1.c0, K1.out.2.1.below bWV K1.out.2.2.2⟩
  have kb : ∀ b, b < V.heap.size → v.ownBlock ≠ some b → Y5.heap[b]? = V.heap[b]? := fun b hb hne => hgr.block b hb (fun e => hne e.symm)
  have hSY : (fun X : World => X.cell? ⟨p, 0, none⟩ = some v ∧ NoteAt X w.heap.size 0 x) Y5 := ⟨(World.cell?_of_block (a := ⟨p, 0, none⟩) (kb p hB1.lp hB1.vp)).trans hB1.c0, NoteAt.of_blk hSV.2 (kb _ hwsz H.out.2.2.2.2.2.2.2)⟩
  have own5 : ∀ b, b < V.heap.size → v.ownBlock ≠ some b → (Value.slice a5 (xs.length + 1) k5).ownBlock ≠ some b := fun b hb hne e => by
    rcases hlies with h | h
    · rw [h] at e; exact hne e
    · rw [h] at e; cases e; omega
  have K5 : Hid (RowN Y5 base (Value.slice a5 (xs.length + 1) k5) (xs ++ [x]) ∧ Y5.cell? ⟨p, 0, none⟩ = some v ∧ Y5.cell? ⟨p, 1, none⟩ = some (.map (some mb)) ∧ (∀ j, Y5.frozen? ⟨p, j, none⟩ = false) ∧ MapF Y5 mb n (noW xs) ∧ (Value.slice a5 (xs.length + 1) k5).ownBlock ≠ some p ∧ (Value.slice a5 (xs.length + 1) k5).ownBlock ≠ some mb ∧ p < Y5.heap.size ∧ Below base w Y5 ∧ NoteAt Y5 w.heap.size 0 x ∧ w.heap.size < Y5.heap.size ∧ (Value.slice a5 (xs.length + 1) k5).ownBlock ≠ some w.heap.size ∧ mb < V.heap.size) := by
    have hp5 := kb p hB1.lp hB1.vp
    have hm5 := kb mb hB1.mp.lt hB1.vm
    have bwV : Below base w V := (K1.out.2.2.1.mono H.out.2.2.2.2.1).trans (bWV.mono (by have := K1.out.1.bp; have := K1.out.1.lp; omega))
    refine ⟨hrow5, hSY.1, (World.cell?_of_block (a := ⟨p, 1, none⟩) hp5).trans hB1.c1, fun j => (World.frozen?_of_block (a := ⟨p, j, none⟩) hp5).trans (hB1.fz j), hB1.mp.of_block hm5, own5 p hB1.lp hB1.vp, own5 mb hB1.mp.lt hB1.vm, Nat.lt_of_lt_of_le hB1.lp hgr.size, ?_, hSY.2, Nat.lt_of_lt_of_le hwsz hgr.size, own5 _ hwsz H.out.2.2.2.2.2.2.2, hB1.mp.lt⟩
    exact bwV.grown hgr (by have := hB1.bp; have := hB1.lp; omega) (fun b e => (hB1.row.lt e).1)
  rw [hV] at hr
  have f0 := K5.out.2.2.2.1 0
  have e0 := K5.out.2.1
  simp only [List.length_cons, List.length_nil, Nat.zero_add] at hr
  refine wpZ_ready (rs := [6]) (by kernel_rfl) (by simp) ?_
  refine AllZ.cons rfl (fun K hK => ?_) AllZ.nil
  go_simp
  refine hK.out _ _ (fun _ => by rw [← hV]; exact hSV) ?_
  clear hK K
  refine wpZ_ready (rs := [7]) (by kernel_rfl) (by simp) ?_
  refine AllZ.cons rfl (fun K hK => ?_) AllZ.nil
  refine step_known _ rfl (.tmp 34) (.tmp 36) 24 rfl _ _ _ _ (by first | rfl | simp [Act.eval, Act.put]) (by first | rfl | simp [Act.eval, Act.put]) hr ?_
  refine hK.out _ _ (fun _ => hSY) ?_
  clear hK K hr
  simp only [Act.put]
  refine wpZ_takeP (i := 8) (v := ?_) rfl (by kernel_rfl) (fun _ _ _ h => h) (Or.inl ⟨by rfl, ?_⟩) hSY ?_
  rotate_left
  · (intro w _; go_simp; first | done | with_reducible rfl | (rw [if_pos (by omega)]) | (rw [if_pos (by omega)]; go_simp))
  simp only [Act.put]
  refine wpZ_takeP (i := 9) (v := ?_) rfl (by kernel_rfl) (fun _ _ _ h => h) (Or.inl ⟨by rfl, ?_⟩) hSY ?_
  rotate_left
  · (intro w _; go_simp; first | done | with_reducible rfl | (rw [if_pos (by omega)]) | (rw [if_pos (by omega)]; go_simp))
  simp only [Act.put]
  refine wpZ_ready (rs := [10]) (by kernel_rfl) (by simp) ?_
  refine AllZ.cons rfl (fun K hK => ?_) AllZ.nil
  go_simp
  refine hK.out _ _ (fun h => absurd (show false = true from h.symm.trans (by kernel_rfl)) (by decide)) ?_
  clear hK K
  refine wpZ_done (by kernel_rfl) ?_ _
  have KU : Hid (NoteAt (Y5.setCell ⟨p, 0, none⟩ (Value.slice a5 (xs.length + 1) k5)) w.heap.size 0 x ∧ RowN (Y5.setCell ⟨p, 0, none⟩ (Value.slice a5 (xs.length + 1) k5)) base (Value.slice a5 (xs.length + 1) k5) (xs ++ [x]) ∧ (Y5.setCell ⟨p, 0, none⟩ (Value.slice a5 (xs.length + 1) k5)).cell? ⟨p, 0, none⟩ = some (Value.slice a5 (xs.length + 1) k5) ∧ (Y5.setCell ⟨p, 0, none⟩ (Value.slice a5 (xs.length + 1) k5)).cell? ⟨p, 1, none⟩ = some (.map (some mb)) ∧ (∀ j, (Y5.setCell ⟨p, 0, none⟩ (Value.slice a5 (xs.length + 1) k5)).frozen? ⟨p, j, none⟩ = false) ∧ MapF (Y5.setCell ⟨p, 0, none⟩ (Value.slice a5 (xs.length + 1) k5)) mb n (noW xs) ∧ (Value.slice a5 (xs.length + 1) k5).ownBlock ≠ some p ∧ (Value.slice a5 (xs.length + 1) k5).ownBlock ≠ some mb ∧ p < (Y5.setCell ⟨p, 0, none⟩ (Value.slice a5 (xs.length + 1) k5)).heap.size ∧ Below base w (Y5.setCell ⟨p, 0, none⟩ (Value.slice a5 (xs.length + 1) k5)) ∧ w.heap.size < (Y5.setCell ⟨p, 0, none⟩ (Value.slice a5 (xs.length + 1) k5)).heap.size ∧ (Value.slice a5 (xs.length + 1) k5).ownBlock ≠ some w.heap.size) := by
    obtain ⟨g1, g2, g3, g4, g5, g6, g7, g8, g9, g10, g11, g12, g13⟩ := K5.out
    have bp := K1.out.1.bp
    have far : ∀ b, b ≠ p → (Y5.setCell ⟨p, 0, none⟩ (Value.slice a5 (xs.length + 1) k5)).heap[b]? = Y5.heap[b]? := fun b hb => Below.heap_setCell _ _ _ _ hb
    refine ⟨NoteAt.of_blk g10 (far _ (by omega)), g1.keep (fun b _ _ e => far b (fun e' => g6 (by rw [e, e']))), cell_set_same g2, (cell_set_other (by omega)).trans g3, fun j => by rw [World.frozen?_setCell]; exact g4 j, g5.of_block (far mb (fun e => K1.out.1.pm e.symm)), g6, g7, by simpa [World.setCell] using g8, g9.setCell (p := ⟨p, 0, none⟩) bp _, by simpa [World.setCell] using g11, g12⟩
  clear K5 hS hSV hSY kb own5 hgr hlies hrow5 hB1 hone bWV bV hV V hwsz f0 e0 KD
  generalize Y5.setCell ⟨p, 0, none⟩ (Value.slice a5 (xs.length + 1) k5) = W5 at *
  clear Y5
  have hS : (fun X : World => X.cell? ⟨p, 1, none⟩ = some (.map (some mb)) ∧ NoteAt X w.heap.size 0 x) W5.drew := ⟨KU.out.2.2.2.1, KU.out.1.below ((Below.refl W5.heap.size W5).drew) KU.out.2.2.2.2.2.2.2.2.2.2.1⟩
  go_upto_region 6 with fail
  refine wp_region_z (fun z => z == 8) (fun X : World => X.cell? ⟨p, 1, none⟩ = some (.map (some mb)) ∧ NoteAt X w.heap.size 0 x) (by kernel_rfl) ?_
  have KD : Hid (Below W5.heap.size W5 W5.drew) := (Below.refl _ _).drew
  generalize W5.drew = We at *
  refine wpZ_takeP (i := 0) (v := ?_) rfl (by kernel_rfl) (fun _ _ _ h => h) (Or.inl ⟨by rfl, ?_⟩) hS ?_
  rotate_left
  · (intro w _; go_simp; first | done | with_reducible rfl | (rw [if_pos (by omega)]) | (rw [if_pos (by omega)]; go_simp))
  simp only [Act.put]
  refine wpZ_takeP (i := 1) (v := ?_) rfl (by kernel_rfl) (fun _ _ _ h => h) (Or.inl ⟨by rfl, ?_⟩) hS ?_
  rotate_left
  · (intro w _; go_simp; first | done | with_reducible rfl | (rw [if_pos (by omega)]) | (rw [if_pos (by omega)]; go_simp))
  simp only [Act.put]
  refine wpZ_takeP (i := 2) (v := ?_) rfl (by kernel_rfl) (fun _ _ _ h => h) (Or.inl ⟨by rfl, ?_⟩) hS ?_
  rotate_left
  · (intro w _; go_simp; first | done | with_reducible rfl | (rw [if_pos (by omega)]) | (rw [if_pos (by omega)]; go_simp))
  simp only [Act.put]
  refine wpZ_take (i := 3) (v := ?_) rfl (by kernel_rfl) (fun _ _ _ h => h) (Or.inl ⟨by rfl, ?_⟩) hS ?_
  rotate_left
  · (intro w hSw; obtain ⟨s0, ⟨a0, a1, a2, a3, a4⟩⟩ := hSw; go_simp; first | done | with_reducible rfl)
  simp only [Act.put]
  refine wpZ_take (i := 4) (v := ?_) rfl (by kernel_rfl) (fun _ _ _ h => h) (Or.inl ⟨by rfl, ?_⟩) hS ?_
  rotate_left
  · (intro w hSw; obtain ⟨s0, ⟨a0, a1, a2, a3, a4⟩⟩ := hSw; go_simp; first | done | with_reducible rfl)
  simp only [Act.put]
  refine wpZ_takeP (i := 5) (v := ?_) rfl (by kernel_rfl) (fun _ _ _ h => h) (Or.inl ⟨by rfl, ?_⟩) hS ?_
  rotate_left
  · (intro w _; go_simp; first | done | with_reducible rfl | (rw [if_pos (by omega)]) | (rw [if_pos (by omega)]; go_simp))
  simp only [Act.put]
  refine wpZ_takeP (i := 7) (v := ?_) rfl (by kernel_rfl) (fun _ _ _ h => h) (Or.inl ⟨by rfl, ?_⟩) hS ?_
  rotate_left
  · (intro w _; go_simp; first | done | with_reducible rfl | (rw [if_pos (by omega)]) | (rw [if_pos (by omega)]; go_simp))
  simp only [Act.put]
  refine wpZ_ready (rs := [6]) (by kernel_rfl) (by simp) ?_
  refine AllZ.cons rfl (fun K hK => ?_) AllZ.nil
  go_simp
  refine (noCell_any We x).mono ?_
  rintro e X2 ⟨rfl, b2⟩
  have bX : Below W5.heap.size W5 X2 := KD.out.trans (b2.mono KD.out.size)
  obtain ⟨Y, hst, hmY, htY, hsY⟩ := (KU.out.2.2.2.2.2.1.later bX).store (by omega) hk.1 hk.2 xs.length (by omega)
  rw [← noW_snoc H.out.2.2.2.2.2.1] at hmY
  have hS2 : (fun X : World => X.cell? ⟨p, 1, none⟩ = some (.map (some mb)) ∧ NoteAt X w.heap.size 0 x) X2 := by
    obtain ⟨g1, g2, g3, g4, g5, g6, g7, g8, g9, g10, g11, g12⟩ := KU.out
    exact ⟨(bX.cell (p := ⟨p, 1, none⟩) g9).trans g4, g1.below bX g11⟩
  have K7 : Hid (PinB Y base p mb (n + 1) (Value.slice a5 (xs.length + 1) k5) (xs ++ [x]) ∧ Below base w Y) := by
    obtain ⟨g1, g2, g3, g4, g5, g6, g7, g8, g9, g10, g11, g12⟩ := KU.out
    have hpm := K1.out.1.pm
    have hp5 := (htY.block p (Nat.lt_of_lt_of_le g9 bX.size) hpm).trans (bX.block p g9)
    refine ⟨⟨(World.cell?_of_block (a := ⟨p, 0, none⟩) hp5).trans g3, (World.cell?_of_block (a := ⟨p, 1, none⟩) hp5).trans g4, fun j => (World.frozen?_of_block (a := ⟨p, j, none⟩) hp5).trans (g5 j), g2.keep (fun b _ hb e => (htY.block b (Nat.lt_of_lt_of_le hb bX.size) (fun e' => g8 (by rw [e, e']))).trans (bX.block b hb)), hmY, fun s hs => ?_, g7, g8, hpm, K1.out.1.bp, K1.out.1.bm, by rw [hsY]; exact Nat.lt_of_lt_of_le g9 bX.size⟩, ?_⟩
    · rcases List.mem_append.1 hs with hs | hs
      · exact K1.out.1.ok s hs
      · simp at hs; subst hs; exact H.out.2.2.2.2.2.2.1
    · have hbW : base ≤ W5.heap.size := by have := K1.out.1.bp; omega
      exact (g10.trans (bX.mono hbW)).trans (htY.below K1.out.1.bm (Nat.le_trans hbW bX.size))
  simp only [cKey] at hst
  refine hK.out _ _ (fun _ => hS2) ?_
  clear hK K hS2 hS bX KD hmY htY hsY hm hk b2
  refine wpZ_ready (rs := [8]) (by kernel_rfl) (by simp) ?_
  refine AllZ.cons rfl (fun K hK => ?_) AllZ.nil
  go_simp
  refine hK.out _ _ (fun h => absurd (show false = true from h.symm.trans (by kernel_rfl)) (by decide)) ?_
  clear hK K hst
  refine wpZ_done (by kernel_rfl) ?_ _
  obtain ⟨q5, cap5, hv5, P7⟩ := K7.out.1.pil (by simp)
  have c7 := noLiftStay Y base p q5 mb (n + 1) cap5 (xs ++ [x]) xs.length P7 (by simp; omega) (by simp) (by
    rcases HS.out with h | h
    · exact .inl (by rw [h]; rfl)
    · exact .inr h)
  go_wp2_with fail
  refine c7.mono ?_
  clear c7
  rintro e w8 ⟨rfl, b8⟩
  have KE : Hid (PinB w8 base p mb (n + 1) (Value.slice a5 (xs.length + 1) k5) (xs ++ [x]) ∧ Below base w w8) := ⟨K7.out.1.later b8, K7.out.2.trans (b8.mono (by have := K7.out.1.bp; have := K7.out.1.lp; omega))⟩
  clear b8
  go_wp2
  refine bodyPost_end (v := .tuple #[]) (by simp [results, Try.results38, go_sem]) rfl ⟨rfl, (Value.slice a5 (xs.length + 1) k5), KE.out.1, KE.out.2⟩
set_option maxRecDepth 100000 in
set_option maxHeartbeats 8000000 in
theorem noPutAny (w : World) (base p mb n : Nat) (v : Value) (xs : List N5) (x : N5) (h : PinB w base p mb n v xs) (hn : n ≤ 1000) (hl : xs.length ≤ 100) (hok : noteOkB x = true) (hno : noW xs x.region x.slot = none) (hbs : base ≤ w.heap.size) (hs : HeapP.Hp (noK xs) xs.length) :
    Calls Try.prog 38 #[.pointer (some ⟨p, 0, none⟩), .agg #[.int .i64 x.region, .int .i64 x.slot, .int .i64 x.version, .int .i64 x.value, .bool x.used]] w fun e w' => e = .returned (.tuple #[]) ∧ ∃ q cap n' ys, n' ≤ n + 1 + 2 * xs.length ∧ Pin w' base p q mb n' cap ys ∧ ys.Perm (xs ++ [x]) ∧ HeapP.Hp (noK ys) ys.length ∧ Below base w w' := by
  obtain ⟨W0, hW0⟩ : ∃ W, W = w.alloc (.cells #[.int .i64 x.region, .int .i64 x.slot, .int .i64 x.version, .int .i64 x.value, .bool x.used] 29) := ⟨_, rfl⟩
  have b0 : Below w.heap.size w W0 := by rw [hW0]; exact (Below.refl _ _).alloc (Nat.le_refl _) _
  have z0 : W0.heap.size = w.heap.size + 1 := by rw [hW0]; simp
  have x0 : NoteAt W0 w.heap.size 0 x := by rw [hW0]; exact NoteAt.box w x _
  have h0 := h.later b0
  have hk := noOk_in hok
  have hpw : p < w.heap.size := h.lp
  have hmw : mb < w.heap.size := h.mp.lt
  have lk : ∀ d os, (Instr.lookup 100 (.map (some mb)) (cKey x.region x.slot) true).run Try.prog (grow (redrawn W0 d) os) = .ok (.tuple #[.int .i64 0, .bool false]) (grow (redrawn W0 d) os) := fun d os => by
    have hu := ((h0.mp).later (below_regrown W0 d os)).look hk.1 hk.2
    rw [hno] at hu
    exact hu
  have lift : ∀ {b o : Nat} {u : Value}, b < W0.heap.size → W0.cell? ⟨b, o, none⟩ = some u → ∀ d os, (grow (redrawn W0 d) os).cell? ⟨b, o, none⟩ = some u := fun {b o u} hb hh d os => ((below_regrown W0 d os).cell (p := ⟨b, o, none⟩) hb).trans hh
  have m1 := lift (by omega) h0.c1
  have t0 := lift (by omega) x0.c0
  have t1 := lift (by omega) x0.c1
  have t2 := lift (by omega) x0.c2
  have t3 := lift (by omega) x0.c3
  have t4 := lift (by omega) x0.c4
  have cC : ∀ d os, Calls Try.prog 36 #[.agg #[.int .i64 x.region, .int .i64 x.slot, .int .i64 x.version, .int .i64 x.value, .bool x.used]] (grow (redrawn W0 d) os) fun e w'' => e = .returned (.agg #[.int .i64 x.region, .int .i64 x.slot]) ∧ ∃ p : Regrown, w'' = grow (redrawn W0 p.d) p.os := fun d os => Calls.regrown_of (noCell_any _ _)
  have hm : ∀ w : World, (method 244 29 (.agg #[.int .i64 x.region, .int .i64 x.slot, .int .i64 x.version, .int .i64 x.value, .bool x.used]) "loop.example/g00153/impl.cell").run Try.prog w = .ok (36, .agg #[.int .i64 x.region, .int .i64 x.slot, .int .i64 x.version, .int .i64 x.value, .bool x.used]) w := fun _ => by kernel_rfl
  have H : Hid (PinB W0 base p mb n v xs ∧ NoteAt W0 w.heap.size 0 x ∧ Below w.heap.size w W0 ∧ W0.heap.size = w.heap.size + 1 ∧ base ≤ w.heap.size ∧ noW xs x.region x.slot = none ∧ noteOkB x = true ∧ v.ownBlock ≠ some w.heap.size) := ⟨h0, x0, b0, z0, hbs, hno, hok, fun e => by have := (h.row.lt e).2; omega⟩
  have HS := hidOf hs
  clear h h0 x0 b0 z0 hbs hno hok hs lift
  simp only [cKey, Nat.zero_add] at lk t0 t1 t2 t3 t4
  go_enter Try.func38, Try.ntmps38
  go_wp2_with fail
  rw [← hW0]
  clear hW0
  refine wp_region_quiet_below (by kernel_rfl) (by kernel_rfl) ?_
  repeat (go_big_quiet_step (exact cC _ _))
  refine wpQuiet_nil ?_
  intro _ hw'
  obtain ⟨⟨dq', osq⟩, hw''⟩ := hw'
  subst hw''
  have bq := below_regrown W0 dq' osq
  have K1 : Hid (PinB (grow (redrawn W0 dq') osq) base p mb n v xs ∧ NoteAt (grow (redrawn W0 dq') osq) w.heap.size 0 x ∧ Below w.heap.size w (grow (redrawn W0 dq') osq) ∧ w.heap.size < (grow (redrawn W0 dq') osq).heap.size) := by
    obtain ⟨g1, g2, g3, g4, _⟩ := H.out
    have := bq.size
    exact ⟨g1.later bq, g2.below bq (by omega), g3.trans (bq.mono g3.size), by omega⟩
  clear bq m1 t0 t1 t2 t3 t4 cC lk
  obtain ⟨av, ac, hav, -⟩ := K1.out.1.row.form
  have m0 := K1.out.1.c0
  rw [hav] at m0
  have HV := hidOf hav
  clear hav
  go_upto_region 5 with fail
  clear m0
  generalize grow (redrawn W0 dq') osq = W1 at *
  have hS : (fun X : World => X.cell? ⟨p, 0, none⟩ = some v ∧ NoteAt X w.heap.size 0 x) W1.drew := ⟨K1.out.1.c0, K1.out.2.1.below ((Below.refl W1.heap.size W1).drew) K1.out.2.2.2⟩
  refine wp_region_z (fun z => z == 10) (fun X : World => X.cell? ⟨p, 0, none⟩ = some v ∧ NoteAt X w.heap.size 0 x) (by kernel_rfl) ?_
  have KD : Hid (Below W1.heap.size W1 W1.drew) := (Below.refl _ _).drew
  generalize W1.drew = Wd at *
  refine wpZ_takeP (i := 0) (v := ?_) rfl (by kernel_rfl) (fun _ _ _ h => h) (Or.inl ⟨by rfl, ?_⟩) hS ?_
  rotate_left
  · (intro w _; go_simp; first | done | with_reducible rfl | (rw [if_pos (by omega)]) | (rw [if_pos (by omega)]; go_simp))
  simp only [Act.put]
  refine wpZ_takeP (i := 1) (v := ?_) rfl (by kernel_rfl) (fun _ _ _ h => h) (Or.inl ⟨by rfl, ?_⟩) hS ?_
  rotate_left
  · (intro w _; go_simp; first | done | with_reducible rfl | (rw [if_pos (by omega)]) | (rw [if_pos (by omega)]; go_simp))
  simp only [Act.put]
  refine wpZ_takeP (i := 2) (v := ?_) rfl (by kernel_rfl) (fun _ _ _ h => h) (Or.inl ⟨by rfl, ?_⟩) hS ?_
  rotate_left
  · (intro w _; go_simp; first | done | with_reducible rfl | (rw [if_pos (by omega)]) | (rw [if_pos (by omega)]; go_simp))
  simp only [Act.put]
  refine wpZ_takeP (i := 3) (v := ?_) rfl (by kernel_rfl) (fun _ _ _ h => h) (Or.inl ⟨by rfl, ?_⟩) hS ?_
  rotate_left
  · (intro w _; go_simp; first | done | with_reducible rfl | (rw [if_pos (by omega)]) | (rw [if_pos (by omega)]; go_simp))
  simp only [Act.put]
  refine wpZ_take (i := 4) (v := ?_) rfl (by kernel_rfl) (fun _ _ _ h => h) (Or.inl ⟨by rfl, ?_⟩) hS ?_
  rotate_left
  · (intro w hSw; obtain ⟨s0, ⟨a0, a1, a2, a3, a4⟩⟩ := hSw; go_simp; first | done | with_reducible rfl)
  simp only [Act.put]
  refine wpZ_take (i := 5) (v := ?_) rfl (by kernel_rfl) (fun _ _ _ h => h) (Or.inl ⟨by rfl, ?_⟩) hS ?_
  rotate_left
  · (intro w hSw; obtain ⟨s0, ⟨a0, a1, a2, a3, a4⟩⟩ := hSw; go_simp; first | done | with_reducible rfl)
  simp only [Act.put]
  obtain ⟨V, hV⟩ : ∃ V, V = Wd.alloc (.cells #[.int .i64 x.region, .int .i64 x.slot, .int .i64 x.version, .int .i64 x.value, .bool x.used] 29) := ⟨_, rfl⟩
  have bV : Below Wd.heap.size Wd V := by rw [hV]; exact (Below.refl _ _).alloc (Nat.le_refl _) _
  have bWV : Below W1.heap.size W1 V := KD.out.trans (bV.mono KD.out.size)
  have hone : NotesAt V Wd.heap.size 0 [x] := by rw [hV]; exact (NoteAt.box Wd _ _).one
  have hB1 := (K1.out.1.later bWV)
  obtain ⟨v5, Y5, hr, hrow5, hgr, hlies⟩ := pushNo hB1.row [x] (by simp; omega) 24 Wd.heap.size 0 1 hone (by have := hB1.bp; have := hB1.lp; omega)
  obtain ⟨a5, k5, rfl⟩ : ∃ a5 k5, v5 = Value.slice a5 (xs.length + 1) k5 := by
    obtain ⟨a5, k5, e5, -⟩ := hrow5.form
    exact ⟨a5, k5, by simpa using e5⟩
  have hwsz : w.heap.size < V.heap.size := Nat.lt_of_lt_of_le K1.out.2.2.2 bWV.size
  have hSV : (fun X : World => X.cell? ⟨p, 0, none⟩ = some v ∧ NoteAt X w.heap.size 0 x) V := ⟨hB1.c0, K1.out.2.1.below bWV K1.out.2.2.2⟩
  have kb : ∀ b, b < V.heap.size → v.ownBlock ≠ some b → Y5.heap[b]? = V.heap[b]? := fun b hb hne => hgr.block b hb (fun e => hne e.symm)
  have hSY : (fun X : World => X.cell? ⟨p, 0, none⟩ = some v ∧ NoteAt X w.heap.size 0 x) Y5 := ⟨(World.cell?_of_block (a := ⟨p, 0, none⟩) (kb p hB1.lp hB1.vp)).trans hB1.c0, NoteAt.of_blk hSV.2 (kb _ hwsz H.out.2.2.2.2.2.2.2)⟩
  have own5 : ∀ b, b < V.heap.size → v.ownBlock ≠ some b → (Value.slice a5 (xs.length + 1) k5).ownBlock ≠ some b := fun b hb hne e => by
    rcases hlies with h | h
    · rw [h] at e; exact hne e
    · rw [h] at e; cases e; omega
  have K5 : Hid (RowN Y5 base (Value.slice a5 (xs.length + 1) k5) (xs ++ [x]) ∧ Y5.cell? ⟨p, 0, none⟩ = some v ∧ Y5.cell? ⟨p, 1, none⟩ = some (.map (some mb)) ∧ (∀ j, Y5.frozen? ⟨p, j, none⟩ = false) ∧ MapF Y5 mb n (noW xs) ∧ (Value.slice a5 (xs.length + 1) k5).ownBlock ≠ some p ∧ (Value.slice a5 (xs.length + 1) k5).ownBlock ≠ some mb ∧ p < Y5.heap.size ∧ Below base w Y5 ∧ NoteAt Y5 w.heap.size 0 x ∧ w.heap.size < Y5.heap.size ∧ (Value.slice a5 (xs.length + 1) k5).ownBlock ≠ some w.heap.size ∧ mb < V.heap.size) := by
    have hp5 := kb p hB1.lp hB1.vp
    have hm5 := kb mb hB1.mp.lt hB1.vm
    have bwV : Below base w V := (K1.out.2.2.1.mono H.out.2.2.2.2.1).trans (bWV.mono (by have := K1.out.1.bp; have := K1.out.1.lp; omega))
    refine ⟨hrow5, hSY.1, (World.cell?_of_block (a := ⟨p, 1, none⟩) hp5).trans hB1.c1, fun j => (World.frozen?_of_block (a := ⟨p, j, none⟩) hp5).trans (hB1.fz j), hB1.mp.of_block hm5, own5 p hB1.lp hB1.vp, own5 mb hB1.mp.lt hB1.vm, Nat.lt_of_lt_of_le hB1.lp hgr.size, ?_, hSY.2, Nat.lt_of_lt_of_le hwsz hgr.size, own5 _ hwsz H.out.2.2.2.2.2.2.2, hB1.mp.lt⟩
    exact bwV.grown hgr (by have := hB1.bp; have := hB1.lp; omega) (fun b e => (hB1.row.lt e).1)
  rw [hV] at hr
  have f0 := K5.out.2.2.2.1 0
  have e0 := K5.out.2.1
  simp only [List.length_cons, List.length_nil, Nat.zero_add] at hr
  refine wpZ_ready (rs := [6]) (by kernel_rfl) (by simp) ?_
  refine AllZ.cons rfl (fun K hK => ?_) AllZ.nil
  go_simp
  refine hK.out _ _ (fun _ => by rw [← hV]; exact hSV) ?_
  clear hK K
  refine wpZ_ready (rs := [7]) (by kernel_rfl) (by simp) ?_
  refine AllZ.cons rfl (fun K hK => ?_) AllZ.nil
  refine step_known _ rfl (.tmp 34) (.tmp 36) 24 rfl _ _ _ _ (by first | rfl | simp [Act.eval, Act.put]) (by first | rfl | simp [Act.eval, Act.put]) hr ?_
  refine hK.out _ _ (fun _ => hSY) ?_
  clear hK K hr
  simp only [Act.put]
  refine wpZ_takeP (i := 8) (v := ?_) rfl (by kernel_rfl) (fun _ _ _ h => h) (Or.inl ⟨by rfl, ?_⟩) hSY ?_
  rotate_left
  · (intro w _; go_simp; first | done | with_reducible rfl | (rw [if_pos (by omega)]) | (rw [if_pos (by omega)]; go_simp))
  simp only [Act.put]
  refine wpZ_takeP (i := 9) (v := ?_) rfl (by kernel_rfl) (fun _ _ _ h => h) (Or.inl ⟨by rfl, ?_⟩) hSY ?_
  rotate_left
  · (intro w _; go_simp; first | done | with_reducible rfl | (rw [if_pos (by omega)]) | (rw [if_pos (by omega)]; go_simp))
  simp only [Act.put]
  refine wpZ_ready (rs := [10]) (by kernel_rfl) (by simp) ?_
  refine AllZ.cons rfl (fun K hK => ?_) AllZ.nil
  go_simp
  refine hK.out _ _ (fun h => absurd (show false = true from h.symm.trans (by kernel_rfl)) (by decide)) ?_
  clear hK K
  refine wpZ_done (by kernel_rfl) ?_ _
  have KU : Hid (NoteAt (Y5.setCell ⟨p, 0, none⟩ (Value.slice a5 (xs.length + 1) k5)) w.heap.size 0 x ∧ RowN (Y5.setCell ⟨p, 0, none⟩ (Value.slice a5 (xs.length + 1) k5)) base (Value.slice a5 (xs.length + 1) k5) (xs ++ [x]) ∧ (Y5.setCell ⟨p, 0, none⟩ (Value.slice a5 (xs.length + 1) k5)).cell? ⟨p, 0, none⟩ = some (Value.slice a5 (xs.length + 1) k5) ∧ (Y5.setCell ⟨p, 0, none⟩ (Value.slice a5 (xs.length + 1) k5)).cell? ⟨p, 1, none⟩ = some (.map (some mb)) ∧ (∀ j, (Y5.setCell ⟨p, 0, none⟩ (Value.slice a5 (xs.length + 1) k5)).frozen? ⟨p, j, none⟩ = false) ∧ MapF (Y5.setCell ⟨p, 0, none⟩ (Value.slice a5 (xs.length + 1) k5)) mb n (noW xs) ∧ (Value.slice a5 (xs.length + 1) k5).ownBlock ≠ some p ∧ (Value.slice a5 (xs.length + 1) k5).ownBlock ≠ some mb ∧ p < (Y5.setCell ⟨p, 0, none⟩ (Value.slice a5 (xs.length + 1) k5)).heap.size ∧ Below base w (Y5.setCell ⟨p, 0, none⟩ (Value.slice a5 (xs.length + 1) k5)) ∧ w.heap.size < (Y5.setCell ⟨p, 0, none⟩ (Value.slice a5 (xs.length + 1) k5)).heap.size ∧ (Value.slice a5 (xs.length + 1) k5).ownBlock ≠ some w.heap.size) := by
    obtain ⟨g1, g2, g3, g4, g5, g6, g7, g8, g9, g10, g11, g12, g13⟩ := K5.out
    have bp := K1.out.1.bp
    have far : ∀ b, b ≠ p → (Y5.setCell ⟨p, 0, none⟩ (Value.slice a5 (xs.length + 1) k5)).heap[b]? = Y5.heap[b]? := fun b hb => Below.heap_setCell _ _ _ _ hb
    refine ⟨NoteAt.of_blk g10 (far _ (by omega)), g1.keep (fun b _ _ e => far b (fun e' => g6 (by rw [e, e']))), cell_set_same g2, (cell_set_other (by omega)).trans g3, fun j => by rw [World.frozen?_setCell]; exact g4 j, g5.of_block (far mb (fun e => K1.out.1.pm e.symm)), g6, g7, by simpa [World.setCell] using g8, g9.setCell (p := ⟨p, 0, none⟩) bp _, by simpa [World.setCell] using g11, g12⟩
  clear K5 hS hSV hSY kb own5 hgr hlies hrow5 hB1 hone bWV bV hV V hwsz f0 e0 KD
  generalize Y5.setCell ⟨p, 0, none⟩ (Value.slice a5 (xs.length + 1) k5) = W5 at *
  clear Y5
  have hS : (fun X : World => X.cell? ⟨p, 1, none⟩ = some (.map (some mb)) ∧ NoteAt X w.heap.size 0 x) W5.drew := ⟨KU.out.2.2.2.1, KU.out.1.below ((Below.refl W5.heap.size W5).drew) KU.out.2.2.2.2.2.2.2.2.2.2.1⟩
  go_upto_region 6 with fail
  refine wp_region_z (fun z => z == 8) (fun X : World => X.cell? ⟨p, 1, none⟩ = some (.map (some mb)) ∧ NoteAt X w.heap.size 0 x) (by kernel_rfl) ?_
  have KD : Hid (Below W5.heap.size W5 W5.drew) := (Below.refl _ _).drew
  generalize W5.drew = We at *
  refine wpZ_takeP (i := 0) (v := ?_) rfl (by kernel_rfl) (fun _ _ _ h => h) (Or.inl ⟨by rfl, ?_⟩) hS ?_
  rotate_left
  · (intro w _; go_simp; first | done | with_reducible rfl | (rw [if_pos (by omega)]) | (rw [if_pos (by omega)]; go_simp))
  simp only [Act.put]
  refine wpZ_takeP (i := 1) (v := ?_) rfl (by kernel_rfl) (fun _ _ _ h => h) (Or.inl ⟨by rfl, ?_⟩) hS ?_
  rotate_left
  · (intro w _; go_simp; first | done | with_reducible rfl | (rw [if_pos (by omega)]) | (rw [if_pos (by omega)]; go_simp))
  simp only [Act.put]
  refine wpZ_takeP (i := 2) (v := ?_) rfl (by kernel_rfl) (fun _ _ _ h => h) (Or.inl ⟨by rfl, ?_⟩) hS ?_
  rotate_left
  · (intro w _; go_simp; first | done | with_reducible rfl | (rw [if_pos (by omega)]) | (rw [if_pos (by omega)]; go_simp))
  simp only [Act.put]
  refine wpZ_take (i := 3) (v := ?_) rfl (by kernel_rfl) (fun _ _ _ h => h) (Or.inl ⟨by rfl, ?_⟩) hS ?_
  rotate_left
  · (intro w hSw; obtain ⟨s0, ⟨a0, a1, a2, a3, a4⟩⟩ := hSw; go_simp; first | done | with_reducible rfl)
  simp only [Act.put]
  refine wpZ_take (i := 4) (v := ?_) rfl (by kernel_rfl) (fun _ _ _ h => h) (Or.inl ⟨by rfl, ?_⟩) hS ?_
  rotate_left
  · (intro w hSw; obtain ⟨s0, ⟨a0, a1, a2, a3, a4⟩⟩ := hSw; go_simp; first | done | with_reducible rfl)
  simp only [Act.put]
  refine wpZ_takeP (i := 5) (v := ?_) rfl (by kernel_rfl) (fun _ _ _ h => h) (Or.inl ⟨by rfl, ?_⟩) hS ?_
  rotate_left
  · (intro w _; go_simp; first | done | with_reducible rfl | (rw [if_pos (by omega)]) | (rw [if_pos (by omega)]; go_simp))
  simp only [Act.put]
  refine wpZ_takeP (i := 7) (v := ?_) rfl (by kernel_rfl) (fun _ _ _ h => h) (Or.inl ⟨by rfl, ?_⟩) hS ?_
  rotate_left
  · (intro w _; go_simp; first | done | with_reducible rfl | (rw [if_pos (by omega)]) | (rw [if_pos (by omega)]; go_simp))
  simp only [Act.put]
  refine wpZ_ready (rs := [6]) (by kernel_rfl) (by simp) ?_
  refine AllZ.cons rfl (fun K hK => ?_) AllZ.nil
  go_simp
  refine (noCell_any We x).mono ?_
  rintro e X2 ⟨rfl, b2⟩
  have bX : Below W5.heap.size W5 X2 := KD.out.trans (b2.mono KD.out.size)
  obtain ⟨Y, hst, hmY, htY, hsY⟩ := (KU.out.2.2.2.2.2.1.later bX).store (by omega) hk.1 hk.2 xs.length (by omega)
  rw [← noW_snoc H.out.2.2.2.2.2.1] at hmY
  have hS2 : (fun X : World => X.cell? ⟨p, 1, none⟩ = some (.map (some mb)) ∧ NoteAt X w.heap.size 0 x) X2 := by
    obtain ⟨g1, g2, g3, g4, g5, g6, g7, g8, g9, g10, g11, g12⟩ := KU.out
    exact ⟨(bX.cell (p := ⟨p, 1, none⟩) g9).trans g4, g1.below bX g11⟩
  have K7 : Hid (PinB Y base p mb (n + 1) (Value.slice a5 (xs.length + 1) k5) (xs ++ [x]) ∧ Below base w Y) := by
    obtain ⟨g1, g2, g3, g4, g5, g6, g7, g8, g9, g10, g11, g12⟩ := KU.out
    have hpm := K1.out.1.pm
    have hp5 := (htY.block p (Nat.lt_of_lt_of_le g9 bX.size) hpm).trans (bX.block p g9)
    refine ⟨⟨(World.cell?_of_block (a := ⟨p, 0, none⟩) hp5).trans g3, (World.cell?_of_block (a := ⟨p, 1, none⟩) hp5).trans g4, fun j => (World.frozen?_of_block (a := ⟨p, j, none⟩) hp5).trans (g5 j), g2.keep (fun b _ hb e => (htY.block b (Nat.lt_of_lt_of_le hb bX.size) (fun e' => g8 (by rw [e, e']))).trans (bX.block b hb)), hmY, fun s hs => ?_, g7, g8, hpm, K1.out.1.bp, K1.out.1.bm, by rw [hsY]; exact Nat.lt_of_lt_of_le g9 bX.size⟩, ?_⟩
    · rcases List.mem_append.1 hs with hs | hs
      · exact K1.out.1.ok s hs
      · simp at hs; subst hs; exact H.out.2.2.2.2.2.2.1
    · have hbW : base ≤ W5.heap.size := by have := K1.out.1.bp; omega
      exact (g10.trans (bX.mono hbW)).trans (htY.below K1.out.1.bm (Nat.le_trans hbW bX.size))
  simp only [cKey] at hst
  refine hK.out _ _ (fun _ => hS2) ?_
  clear hK K hS2 hS bX KD hmY htY hsY hm hk b2
  refine wpZ_ready (rs := [8]) (by kernel_rfl) (by simp) ?_
  refine AllZ.cons rfl (fun K hK => ?_) AllZ.nil
  go_simp
  refine hK.out _ _ (fun h => absurd (show false = true from h.symm.trans (by kernel_rfl)) (by decide)) ?_
  clear hK K hst
  refine wpZ_done (by kernel_rfl) ?_ _
  obtain ⟨q5, cap5, hv5, P7⟩ := K7.out.1.pil (by simp)
  have c7 := noLift_any Y base p q5 mb (n + 1) cap5 (xs ++ [x]) xs.length P7 (by omega) (by simp; omega) (by simp) (by
    have := HeapP.HpUp.of_last (n := xs.length) (k := noK (xs ++ [x])) (fun i h0 hi => by
      have e1 : noK (xs ++ [x]) i = noK xs i := by unfold noK atNo; rw [List.getElem?_append_left hi]
      have e2 : noK (xs ++ [x]) ((i - 1) / 2) = noK xs ((i - 1) / 2) := by unfold noK atNo; rw [List.getElem?_append_left (by omega)]
      rw [e1, e2]; exact HS.out i h0 hi)
    simpa using this)
  go_wp2_with fail
  refine c7.mono ?_
  clear c7
  rintro e w8 ⟨rfl, n8, ys, hn8, p8, pm8, hp8, k8⟩
  have KE : Hid (n8 ≤ n + 1 + 2 * xs.length ∧ Pin w8 base p q5 mb n8 cap5 ys ∧ ys.Perm (xs ++ [x]) ∧ HeapP.Hp (noK ys) ys.length ∧ Below base w w8) := ⟨by omega, p8, pm8, hp8, K7.out.2.trans (k8.below (fun b hb => by rcases hb with rfl | rfl | rfl; exact p8.bp; exact p8.bq; exact p8.bm) (by have := K7.out.1.bp; have := K7.out.1.lp; omega))⟩
  clear p8 pm8 hp8 k8 hn8
  go_wp2
  refine bodyPost_end (v := .tuple #[]) (by simp [results, Try.results38, go_sem]) rfl ⟨rfl, q5, cap5, n8, ys, KE.out⟩
end Go.Proofs.Ytcanaklameddbaa
