/- PutN; POfN; PilS: joined. -/
import Derived.Test.YtiidlcjjaglkdaaRows
import Derived.Test.YtiidlcjjaglkdaaJ4LawNoted
import Derived.WalkKit
import Derived.WalkSpells
import Derived.WalkLawsBesides
import Derived.Below
import Derived.Lib.QuietBelow
import Derived.BigQuiet
import Derived.Deep.CutRange
import Derived.Test.YtiidlcjjaglkdaaJ3LawNoted
import Derived.Test.YtiidlcjjaglkdaaJ2LawNoted
namespace Go.Proofs.Ytiidlcjjaglkdaa
open Go.RowKit
open Go.Sort (grow)
def noW (xs : List N5) (r s : Int) : Option Nat := xs.findIdx? fun x => decide (x.region = r) && decide (x.slot = s)
theorem noW_snoc {xs : List N5} {x : N5} (h : noW xs x.region x.slot = none) : noW (xs ++ [x]) = putF (noW xs) x.region x.slot xs.length := by
  funext r s
  unfold noW putF
  rw [List.findIdx?_append]
  by_cases e : r = x.region ∧ s = x.slot
  · obtain ⟨rfl, rfl⟩ := e
    unfold noW at h
    rw [h]
    simp [List.findIdx?_cons]
  · rw [if_neg e]
    have : [x].findIdx? (fun x => decide (x.region = r) && decide (x.slot = s)) = none := by
      simp [List.findIdx?_cons]
      intro h1 h2
      exact e ⟨h1.symm, h2.symm⟩
    rw [this]
    simp
theorem noW_none {xs : List N5} {r s : Int} : noW xs r s = none ↔ ∀ x ∈ xs, ¬ (x.region = r ∧ x.slot = s) := by
  unfold noW
  rw [List.findIdx?_eq_none_iff]
  constructor
  · intro h x hx e; have := h x hx; simp [e.1, e.2] at this
  · intro h x hx
    have := h x hx
    simp only [Bool.and_eq_false_iff, decide_eq_false_iff_not]
    by_cases e : x.region = r
    · exact .inr (fun e' => this ⟨e, e'⟩)
    · exact .inl e
structure PinB (W : World) (base p mb n : Nat) (v : Value) (xs : List N5) : Prop where
  c0 : W.cell? ⟨p, 0, none⟩ = some v
  c1 : W.cell? ⟨p, 1, none⟩ = some (.map (some mb))
  fz : ∀ j, W.frozen? ⟨p, j, none⟩ = false
  row : RowN W base v xs
  mp : MapF W mb n (noW xs)
  ok : ∀ s ∈ xs, noteOkB s = true
  vp : v.ownBlock ≠ some p
  vm : v.ownBlock ≠ some mb
  pm : p ≠ mb
  bp : base ≤ p
  bm : base ≤ mb
  lp : p < W.heap.size
theorem PinB.later {W V : World} {base p mb n : Nat} {v : Value} {xs : List N5} (h : PinB W base p mb n v xs) (hb : Below W.heap.size W V) : PinB V base p mb n v xs :=
  ⟨(hb.cell (p := ⟨p, 0, none⟩) h.lp).trans h.c0, (hb.cell (p := ⟨p, 1, none⟩) h.lp).trans h.c1, fun j => (hb.frozen (p := ⟨p, j, none⟩) h.lp).trans (h.fz j), h.row.later hb, h.mp.later hb, h.ok, h.vp, h.vm, h.pm, h.bp, h.bm, Nat.lt_of_lt_of_le h.lp hb.size⟩
theorem PinB.pil {W : World} {base p mb n : Nat} {v : Value} {xs : List N5} (h : PinB W base p mb n v xs) (hx : xs ≠ []) : ∃ q cap, v = .slice (some ⟨q, 0, none⟩) xs.length cap ∧ Pin W base p q mb n cap xs := by
  obtain ⟨a, c, e, ho⟩ := h.row.form
  rcases ho with ho | ⟨q, rfl, hq, hl, ha, hr⟩
  · exact absurd ho hx
  · refine ⟨q, c, e, ⟨by rw [← e]; exact h.c0, h.c1, h.fz, ha, hr, ?_, h.mp.any, h.ok, fun e' => h.vp (by rw [hq, e']), h.pm, fun e' => h.vm (by rw [hq, e']), h.bp, (h.row.lt hq).1, h.bm, h.lp, hl⟩⟩
    rcases h.row.2 with ⟨h0, _⟩ | ⟨q', cap', cur, h0, _, _, hc, _⟩
    · rw [h0] at e; cases e
    · rw [h0] at e; cases e; exact hc
set_option maxHeartbeats 4000000 in
theorem noLiftStay (w : World) (base p q mb n cap : Nat) (xs : List N5) (c : Nat) (h : Pin w base p q mb n cap xs) (hl : xs.length ≤ 1000) (hc : c < xs.length) (hs : c = 0 ∨ noK xs ((c - 1) / 2) ≤ noK xs c) :
    Calls Try.prog 93 #[.pointer (some ⟨p, 0, none⟩), .int .i64 (c : Int)] w fun e w' => e = .returned (.tuple #[]) ∧ Below w.heap.size w w' := by
  have H := hidOf h
  clear h
  go_enter Try.func93, Try.ntmps93
  go_wp2
  go_loopw [1] (fun v wr => v = .int .i64 (c : Int) ∧ wr = w) (fun _ _ => 0)
  case atStart => exact ⟨rfl, rfl⟩
  case round =>
    obtain ⟨rfl, rfl⟩ := hrel
    rcases c with _ | e
    · have d0 : decide ((0 : Int) < ((0 : Nat) : Int)) = false := by simp
      go_wp2
      refine bodyPost_end (v := .tuple #[]) (by simp [results, Try.results93, go_sem]) rfl ⟨rfl, Below.refl _ _⟩
    · have d0 : decide ((0 : Int) < ((e + 1 : Nat) : Int)) = true := by simp
      obtain ⟨x, hx⟩ : ∃ x, xs[e + 1]? = some x := ⟨_, List.getElem?_eq_getElem (by omega)⟩
      obtain ⟨y, hy⟩ : ∃ y, xs[e / 2]? = some y := ⟨_, List.getElem?_eq_getElem (by omega)⟩
      have c1 := noLess_any wr base p q mb n cap xs (e + 1) (e / 2) x y H.out hx hy
      rw [(noK_at hx).symm, (noK_at hy).symm] at c1
      have dl : decide (noK xs (e + 1) < noK xs (e / 2)) = false := by
        have := hs.resolve_left (by omega)
        rw [show (e + 1 - 1) / 2 = e / 2 by omega] at this
        simpa using this
      rw [dl] at c1
      have ea : ((e + 1 : Nat) : Int) = (e : Int) + 1 := by omega
      have eb : ((e / 2 : Nat) : Int) = (e : Int) / 2 := by omega
      rw [ea, eb] at c1
      clear dl ea eb hx hy hs
      go_wp2_with fail
      refine c1.mono ?_
      clear c1
      rintro e' w1 ⟨rfl, b1⟩
      have KB := hidOf b1
      clear b1
      go_wp2
      refine bodyPost_ret (v := .tuple #[]) (by simp [results, Try.results93, go_sem]) rfl ⟨rfl, KB.out⟩
set_option maxRecDepth 100000 in
set_option maxHeartbeats 8000000 in
theorem noPutLast (w : World) (base p mb n : Nat) (v : Value) (xs : List N5) (x : N5) (h : PinB w base p mb n v xs) (hn : n ≤ 1000) (hl : xs.length ≤ 100) (hok : noteOkB x = true) (hno : noW xs x.region x.slot = none) (hbs : base ≤ w.heap.size) (hs : xs = [] ∨ noK (xs ++ [x]) ((xs.length - 1) / 2) ≤ noK (xs ++ [x]) xs.length) :
    Calls Try.prog 44 #[.pointer (some ⟨p, 0, none⟩), .agg #[.int .i64 x.region, .int .i64 x.slot, .int .i64 x.version, .int .i64 x.value, .bool x.used]] w fun e w' => e = .returned (.tuple #[]) ∧ ∃ v', PinB w' base p mb (n + 1) v' (xs ++ [x]) ∧ Below base w w' := by
  obtain ⟨W0, hW0⟩ : ∃ W, W = w.alloc (.cells #[.int .i64 x.region, .int .i64 x.slot, .int .i64 x.version, .int .i64 x.value, .bool x.used] 29) := ⟨_, rfl⟩
  have b0 : Below w.heap.size w W0 := by rw [hW0]; exact (Below.refl _ _).alloc (Nat.le_refl _) _
  have z0 : W0.heap.size = w.heap.size + 1 := by rw [hW0]; simp
  have x0 : NoteAt W0 w.heap.size 0 x := by rw [hW0]; exact NoteAt.box w x _
  have h0 := h.later b0
  have hk := noOk_in hok
  have hpw : p < w.heap.size := h.lp
  have hmw : mb < w.heap.size := h.mp.lt
  have lk : ∀ d os, (Instr.lookup 103 (.map (some mb)) (cKey x.region x.slot) true).run Try.prog (grow (redrawn W0 d) os) = .ok (.tuple #[.int .i64 0, .bool false]) (grow (redrawn W0 d) os) := fun d os => by
    have hu := ((h0.mp).later (below_regrown W0 d os)).look hk.1 hk.2
    rw [hno] at hu
    exact hu
  have lift : ∀ {b o : Nat} {u : Value}, b < W0.heap.size → W0.cell? ⟨b, o, none⟩ = some u → ∀ d os, (grow (redrawn W0 d) os).cell? ⟨b, o, none⟩ = some u := fun {b o u} hb hh d os => ((below_regrown W0 d os).cell (p := ⟨b, o, none⟩) hb).trans hh
  have m1 := lift (by omega) h0.c1
  have t0 := lift (by omega) x0.c0
  have t1 := lift (by omega) x0.c1
  have t2 := lift (by omega) x0.c2
  have t3 := lift (by omega) x0.c3
  have t4 := lift (by omega) x0.c4
  have cC : ∀ d os, Calls Try.prog 42 #[.agg #[.int .i64 x.region, .int .i64 x.slot, .int .i64 x.version, .int .i64 x.value, .bool x.used]] (grow (redrawn W0 d) os) fun e w'' => e = .returned (.agg #[.int .i64 x.region, .int .i64 x.slot]) ∧ ∃ p : Regrown, w'' = grow (redrawn W0 p.d) p.os := fun d os => Calls.regrown_of (noCell_any _ _)
  have hm : ∀ w : World, (method 247 29 (.agg #[.int .i64 x.region, .int .i64 x.slot, .int .i64 x.version, .int .i64 x.value, .bool x.used]) "loop.example/g00153/impl.cell").run Try.prog w = .ok (42, .agg #[.int .i64 x.region, .int .i64 x.slot, .int .i64 x.version, .int .i64 x.value, .bool x.used]) w := fun _ => by kernel_rfl
  have H : Hid (PinB W0 base p mb n v xs ∧ NoteAt W0 w.heap.size 0 x ∧ Below w.heap.size w W0 ∧ W0.heap.size = w.heap.size + 1 ∧ base ≤ w.heap.size ∧ noW xs x.region x.slot = none ∧ noteOkB x = true ∧ v.ownBlock ≠ some w.heap.size) := ⟨h0, x0, b0, z0, hbs, hno, hok, fun e => by have := (h.row.lt e).2; omega⟩
  have HS := hidOf hs
  clear h h0 x0 b0 z0 hbs hno hok hs lift
  simp only [cKey, Nat.zero_add] at lk t0 t1 t2 t3 t4
  go_enter Try.func44, Try.ntmps44
  go_wp2_with fail
  rw [← hW0]
  clear hW0
  refine wp_region_quiet_below (by kernel_rfl) (by kernel_rfl) ?_
  repeat (go_big_quiet_step (exact cC _ _))
  refine wpQuiet_nil ?_
  intro _ hw'
  obtain ⟨⟨dq', osq⟩, hw''⟩ := hw'
  subst hw''
  have bq := below_regrown W0 dq' osq
  have K1 : Hid (PinB (grow (redrawn W0 dq') osq) base p mb n v xs ∧ NoteAt (grow (redrawn W0 dq') osq) w.heap.size 0 x ∧ Below w.heap.size w (grow (redrawn W0 dq') osq) ∧ w.heap.size < (grow (redrawn W0 dq') osq).heap.size) := by
    obtain ⟨g1, g2, g3, g4, _⟩ := H.out
    have := bq.size
    exact ⟨g1.later bq, g2.below bq (by omega), g3.trans (bq.mono g3.size), by omega⟩
  clear bq m1 t0 t1 t2 t3 t4 cC lk
  obtain ⟨av, ac, hav, -⟩ := K1.out.1.row.form
  have m0 := K1.out.1.c0
  rw [hav] at m0
  have HV := hidOf hav
  clear hav
  go_upto_region 5 with fail
  clear m0
  generalize grow (redrawn W0 dq') osq = W1 at *
  have hS : (fun X : World => X.cell? ⟨p, 0, none⟩ = some v ∧ NoteAt X w.heap.size 0 x) W1.drew := ⟨K1.out.1.c0, K1.out.2.1.below ((Below.refl W1.heap.size W1).drew) K1.out.2.2.2⟩
  refine wp_region_z (fun z => z == 10) (fun X : World => X.cell? ⟨p, 0, none⟩ = some v ∧ NoteAt X w.heap.size 0 x) (by kernel_rfl) ?_
  have KD : Hid (Below W1.heap.size W1 W1.drew) := (Below.refl _ _).drew
  generalize W1.drew = Wd at *
  refine wpZ_takeP (i := 0) (v := ?_) rfl (by kernel_rfl) (fun _ _ _ h => h) (Or.inl ⟨by rfl, ?_⟩) hS ?_
  rotate_left
  · (intro w _; go_simp; first | done | with_reducible rfl | (rw [if_pos (by omega)]) | (rw [if_pos (by omega)]; go_simp))
  simp only [Act.put]
  refine wpZ_takeP (i := 1) (v := ?_) rfl (by kernel_rfl) (fun _ _ _ h => h) (Or.inl ⟨by rfl, ?_⟩) hS ?_
  rotate_left
  · (intro w _; go_simp; first | done | with_reducible rfl | (rw [if_pos (by omega)]) | (rw [if_pos (by omega)]; go_simp))
  simp only [Act.put]
  refine wpZ_takeP (i := 2) (v := ?_) rfl (by kernel_rfl) (fun _ _ _ h => h) (Or.inl ⟨by rfl, ?_⟩) hS ?_
  rotate_left
  · (intro w _; go_simp; first | done | with_reducible rfl | (rw [if_pos (by omega)]) | (rw [if_pos (by omega)]; go_simp))
  simp only [Act.put]
  refine wpZ_takeP (i := 3) (v := ?_) rfl (by kernel_rfl) (fun _ _ _ h => h) (Or.inl ⟨by rfl, ?_⟩) hS ?_
  rotate_left
  · (intro w _; go_simp; first | done | with_reducible rfl | (rw [if_pos (by omega)]) | (rw [if_pos (by omega)]; go_simp))
  simp only [Act.put]
  refine wpZ_take (i := 4) (v := ?_) rfl (by kernel_rfl) (fun _ _ _ h => h) (Or.inl ⟨by rfl, ?_⟩) hS ?_
  rotate_left
  · (intro w hSw; obtain ⟨s0, ⟨a0, a1, a2, a3, a4⟩⟩ := hSw; go_simp; first | done | with_reducible rfl)
  simp only [Act.put]
  refine wpZ_take (i := 5) (v := ?_) rfl (by kernel_rfl) (fun _ _ _ h => h) (Or.inl ⟨by rfl, ?_⟩) hS ?_
  rotate_left
  · (intro w hSw; obtain ⟨s0, ⟨a0, a1, a2, a3, a4⟩⟩ := hSw; go_simp; first | done | with_reducible rfl)
  simp only [Act.put]
  obtain ⟨V, hV⟩ : ∃ V, V = Wd.alloc (.cells #[.int .i64 x.region, .int .i64 x.slot, .int .i64 x.version, .int .i64 x.value, .bool x.used] 29) := ⟨_, rfl⟩
  have bV : Below Wd.heap.size Wd V := by rw [hV]; exact (Below.refl _ _).alloc (Nat.le_refl _) _
  have bWV : Below W1.heap.size W1 V := KD.out.trans (bV.mono KD.out.size)
  have hone : NotesAt V Wd.heap.size 0 [x] := by rw [hV]; exact (NoteAt.box Wd _ _).one
  have hB1 := (K1.out.1.later bWV)
  obtain ⟨v5, Y5, hr, hrow5, hgr, hlies⟩ := pushNo hB1.row [x] (by simp; omega) 24 Wd.heap.size 0 1 hone (by have := hB1.bp; have := hB1.lp; omega)
  obtain ⟨a5, k5, rfl⟩ : ∃ a5 k5, v5 = Value.slice a5 (xs.length + 1) k5 := by
    obtain ⟨a5, k5, e5, -⟩ := hrow5.form
    exact ⟨a5, k5, by simpa using e5⟩
  have hwsz : w.heap.size < V.heap.size := Nat.lt_of_lt_of_le K1.out.2.2.2 bWV.size
  have hSV : (fun X : World => X.cell? ⟨p, 0, none⟩ = some v ∧ NoteAt X w.heap.size 0 x) V := ⟨hB1.c0, K1.out.2.1.below bWV K1.out.2.2.2⟩
  have kb : ∀ b, b < V.heap.size → v.ownBlock ≠ some b → Y5.heap[b]? = V.heap[b]? := fun b hb hne => hgr.block b hb (fun e => hne e.symm)
  have hSY : (fun X : World => X.cell? ⟨p, 0, none⟩ = some v ∧ NoteAt X w.heap.size 0 x) Y5 := ⟨(World.cell?_of_block (a := ⟨p, 0, none⟩) (kb p hB1.lp hB1.vp)).trans hB1.c0, NoteAt.of_blk hSV.2 (kb _ hwsz H.out.2.2.2.2.2.2.2)⟩
  have own5 : ∀ b, b < V.heap.size → v.ownBlock ≠ some b → (Value.slice a5 (xs.length + 1) k5).ownBlock ≠ some b := fun b hb hne e => by
    rcases hlies with h | h
    · rw [h] at e; exact hne e
    · rw [h] at e; cases e; omega
  have K5 : Hid (RowN Y5 base (Value.slice a5 (xs.length + 1) k5) (xs ++ [x]) ∧ Y5.cell? ⟨p, 0, none⟩ = some v ∧ Y5.cell? ⟨p, 1, none⟩ = some (.map (some mb)) ∧ (∀ j, Y5.frozen? ⟨p, j, none⟩ = false) ∧ MapF Y5 mb n (noW xs) ∧ (Value.slice a5 (xs.length + 1) k5).ownBlock ≠ some p ∧ (Value.slice a5 (xs.length + 1) k5).ownBlock ≠ some mb ∧ p < Y5.heap.size ∧ Below base w Y5 ∧ NoteAt Y5 w.heap.size 0 x ∧ w.heap.size < Y5.heap.size ∧ (Value.slice a5 (xs.length + 1) k5).ownBlock ≠ some w.heap.size ∧ mb < V.heap.size) := by
    have hp5 := kb p hB1.lp hB1.vp
    have hm5 := kb mb hB1.mp.lt hB1.vm
    have bwV : Below base w V := (K1.out.2.2.1.mono H.out.2.2.2.2.1).trans (bWV.mono (by have := K1.out.1.bp; have := K1.out.1.lp; omega))
    refine ⟨hrow5, hSY.1, (World.cell?_of_block (a := ⟨p, 1, none⟩) hp5).trans hB1.c1, fun j => (World.frozen?_of_block (a := ⟨p, j, none⟩) hp5).trans (hB1.fz j), hB1.mp.of_block hm5, own5 p hB1.lp hB1.vp, own5 mb hB1.mp.lt hB1.vm, Nat.lt_of_lt_of_le hB1.lp hgr.size, ?_, hSY.2, Nat.lt_of_lt_of_le hwsz hgr.size, own5 _ hwsz H.out.2.2.2.2.2.2.2, hB1.mp.lt⟩
    exact bwV.grown hgr (by have := hB1.bp; have := hB1.lp; omega) (fun b e => (hB1.row.lt e).1)
  rw [hV] at hr
  have f0 := K5.out.2.2.2.1 0
  have e0 := K5.out.2.1
  simp only [List.length_cons, List.length_nil, Nat.zero_add] at hr
  refine wpZ_ready (rs := [6]) (by kernel_rfl) (by simp) ?_
  refine AllZ.cons rfl (fun K hK => ?_) AllZ.nil
  go_simp
  refine hK.out _ _ (fun _ => by rw [← hV]; exact hSV) ?_
  clear hK K
  refine wpZ_ready (rs := [7]) (by kernel_rfl) (by simp) ?_
  refine AllZ.cons rfl (fun K hK => ?_) AllZ.nil
  refine step_known _ rfl (.tmp 34) (.tmp 36) 24 rfl _ _ _ _ (by first | rfl | simp [Act.eval, Act.put]) (by first | rfl | simp [Act.eval, Act.put]) hr ?_
  refine hK.out _ _ (fun _ => hSY) ?_
  clear hK K hr
  simp only [Act.put]
  refine wpZ_takeP (i := 8) (v := ?_) rfl (by kernel_rfl) (fun _ _ _ h => h) (Or.inl ⟨by rfl, ?_⟩) hSY ?_
  rotate_left
  · (intro w _; go_simp; first | done | with_reducible rfl | (rw [if_pos (by omega)]) | (rw [if_pos (by omega)]; go_simp))
  simp only [Act.put]
  refine wpZ_takeP (i := 9) (v := ?_) rfl (by kernel_rfl) (fun _ _ _ h => h) (Or.inl ⟨by rfl, ?_⟩) hSY ?_
  rotate_left
  · (intro w _; go_simp; first | done | with_reducible rfl | (rw [if_pos (by omega)]) | (rw [if_pos (by omega)]; go_simp))
  simp only [Act.put]
  refine wpZ_ready (rs := [10]) (by kernel_rfl) (by simp) ?_
  refine AllZ.cons rfl (fun K hK => ?_) AllZ.nil
  go_simp
  refine hK.out _ _ (fun h => absurd (show false = true from h.symm.trans (by kernel_rfl)) (by decide)) ?_
  clear hK K
  refine wpZ_done (by kernel_rfl) ?_ _
  have KU : Hid (NoteAt (Y5.setCell ⟨p, 0, none⟩ (Value.slice a5 (xs.length + 1) k5)) w.heap.size 0 x ∧ RowN (Y5.setCell ⟨p, 0, none⟩ (Value.slice a5 (xs.length + 1) k5)) base (Value.slice a5 (xs.length + 1) k5) (xs ++ [x]) ∧ (Y5.setCell ⟨p, 0, none⟩ (Value.slice a5 (xs.length + 1) k5)).cell? ⟨p, 0, none⟩ = some (Value.slice a5 (xs.length + 1) k5) ∧ (Y5.setCell ⟨p, 0, none⟩ (Value.slice a5 (xs.length + 1) k5)).cell? ⟨p, 1, none⟩ = some (.map (some mb)) ∧ (∀ j, (Y5.setCell ⟨p, 0, none⟩ (Value.slice a5 (xs.length + 1) k5)).frozen? ⟨p, j, none⟩ = false) ∧ MapF (Y5.setCell ⟨p, 0, none⟩ (Value.slice a5 (xs.length + 1) k5)) mb n (noW xs) ∧ (Value.slice a5 (xs.length + 1) k5).ownBlock ≠ some p ∧ (Value.slice a5 (xs.length + 1) k5).ownBlock ≠ some mb ∧ p < (Y5.setCell ⟨p, 0, none⟩ (Value.slice a5 (xs.length + 1) k5)).heap.size ∧ Below base w (Y5.setCell ⟨p, 0, none⟩ (Value.slice a5 (xs.length + 1) k5)) ∧ w.heap.size < (Y5.setCell ⟨p, 0, none⟩ (Value.slice a5 (xs.length + 1) k5)).heap.size ∧ (Value.slice a5 (xs.length + 1) k5).ownBlock ≠ some w.heap.size) := by
    obtain ⟨g1, g2, g3, g4, g5, g6, g7, g8, g9, g10, g11, g12, g13⟩ := K5.out
    have bp := K1.out.1.bp
    have far : ∀ b, b ≠ p → (Y5.setCell ⟨p, 0, none⟩ (Value.slice a5 (xs.length + 1) k5)).heap[b]? = Y5.heap[b]? := fun b hb => Below.heap_setCell _ _ _ _ hb
    refine ⟨NoteAt.of_blk g10 (far _ (by omega)), g1.keep (fun b _ _ e => far b (fun e' => g6 (by rw [e, e']))), cell_set_same g2, (cell_set_other (by omega)).trans g3, fun j => by rw [World.frozen?_setCell]; exact g4 j, g5.of_block (far mb (fun e => K1.out.1.pm e.symm)), g6, g7, by simpa [World.setCell] using g8, g9.setCell (p := ⟨p, 0, none⟩) bp _, by simpa [World.setCell] using g11, g12⟩
  clear K5 hS hSV hSY kb own5 hgr hlies hrow5 hB1 hone bWV bV hV V hwsz f0 e0 KD
  generalize Y5.setCell ⟨p, 0, none⟩ (Value.slice a5 (xs.length + 1) k5) = W5 at *
  clear Y5
  have hS : (fun X : World => X.cell? ⟨p, 1, none⟩ = some (.map (some mb)) ∧ NoteAt X w.heap.size 0 x) W5.drew := ⟨KU.out.2.2.2.1, KU.out.1.below ((Below.refl W5.heap.size W5).drew) KU.out.2.2.2.2.2.2.2.2.2.2.1⟩
  go_upto_region 6 with fail
  refine wp_region_z (fun z => z == 8) (fun X : World => X.cell? ⟨p, 1, none⟩ = some (.map (some mb)) ∧ NoteAt X w.heap.size 0 x) (by kernel_rfl) ?_
  have KD : Hid (Below W5.heap.size W5 W5.drew) := (Below.refl _ _).drew
  generalize W5.drew = We at *
  refine wpZ_takeP (i := 0) (v := ?_) rfl (by kernel_rfl) (fun _ _ _ h => h) (Or.inl ⟨by rfl, ?_⟩) hS ?_
  rotate_left
  · (intro w _; go_simp; first | done | with_reducible rfl | (rw [if_pos (by omega)]) | (rw [if_pos (by omega)]; go_simp))
  simp only [Act.put]
  refine wpZ_takeP (i := 1) (v := ?_) rfl (by kernel_rfl) (fun _ _ _ h => h) (Or.inl ⟨by rfl, ?_⟩) hS ?_
  rotate_left
  · (intro w _; go_simp; first | done | with_reducible rfl | (rw [if_pos (by omega)]) | (rw [if_pos (by omega)]; go_simp))
  simp only [Act.put]
  refine wpZ_takeP (i := 2) (v := ?_) rfl (by kernel_rfl) (fun _ _ _ h => h) (Or.inl ⟨by rfl, ?_⟩) hS ?_
  rotate_left
  · (intro w _; go_simp; first | done | with_reducible rfl | (rw [if_pos (by omega)]) | (rw [if_pos (by omega)]; go_simp))
  simp only [Act.put]
  refine wpZ_take (i := 3) (v := ?_) rfl (by kernel_rfl) (fun _ _ _ h => h) (Or.inl ⟨by rfl, ?_⟩) hS ?_
  rotate_left
  · (intro w hSw; obtain ⟨s0, ⟨a0, a1, a2, a3, a4⟩⟩ := hSw; go_simp; first | done | with_reducible rfl)
  simp only [Act.put]
  refine wpZ_take (i := 4) (v := ?_) rfl (by kernel_rfl) (fun _ _ _ h => h) (Or.inl ⟨by rfl, ?_⟩) hS ?_
  rotate_left
  · (intro w hSw; obtain ⟨s0, ⟨a0, a1, a2, a3, a4⟩⟩ := hSw; go_simp; first | done | with_reducible rfl)
  simp only [Act.put]
  refine wpZ_takeP (i := 5) (v := ?_) rfl (by kernel_rfl) (fun _ _ _ h => h) (Or.inl ⟨by rfl, ?_⟩) hS ?_
  rotate_left
  · (intro w _; go_simp; first | done | with_reducible rfl | (rw [if_pos (by omega)]) | (rw [if_pos (by omega)]; go_simp))
  simp only [Act.put]
  refine wpZ_takeP (i := 7) (v := ?_) rfl (by kernel_rfl) (fun _ _ _ h => h) (Or.inl ⟨by rfl, ?_⟩) hS ?_
  rotate_left
  · (intro w _; go_simp; first | done | with_reducible rfl | (rw [if_pos (by omega)]) | (rw [if_pos (by omega)]; go_simp))
  simp only [Act.put]
  refine wpZ_ready (rs := [6]) (by kernel_rfl) (by simp) ?_
  refine AllZ.cons rfl (fun K hK => ?_) AllZ.nil
  go_simp
  refine (noCell_any We x).mono ?_
  rintro e X2 ⟨rfl, b2⟩
  have bX : Below W5.heap.size W5 X2 := KD.out.trans (b2.mono KD.out.size)
  obtain ⟨Y, hst, hmY, htY, hsY⟩ := (KU.out.2.2.2.2.2.1.later bX).store (by omega) hk.1 hk.2 xs.length (by omega)
  rw [← noW_snoc H.out.2.2.2.2.2.1] at hmY
  have hS2 : (fun X : World => X.cell? ⟨p, 1, none⟩ = some (.map (some mb)) ∧ NoteAt X w.heap.size 0 x) X2 := by
    obtain ⟨g1, g2, g3, g4, g5, g6, g7, g8, g9, g10, g11, g12⟩ := KU.out
    exact ⟨(bX.cell (p := ⟨p, 1, none⟩) g9).trans g4, g1.below bX g11⟩
  have K7 : Hid (PinB Y base p mb (n + 1) (Value.slice a5 (xs.length + 1) k5) (xs ++ [x]) ∧ Below base w Y) := by
    obtain ⟨g1, g2, g3, g4, g5, g6, g7, g8, g9, g10, g11, g12⟩ := KU.out
    have hpm := K1.out.1.pm
    have hp5 := (htY.block p (Nat.lt_of_lt_of_le g9 bX.size) hpm).trans (bX.block p g9)
    refine ⟨⟨(World.cell?_of_block (a := ⟨p, 0, none⟩) hp5).trans g3, (World.cell?_of_block (a := ⟨p, 1, none⟩) hp5).trans g4, fun j => (World.frozen?_of_block (a := ⟨p, j, none⟩) hp5).trans (g5 j), g2.keep (fun b _ hb e => (htY.block b (Nat.lt_of_lt_of_le hb bX.size) (fun e' => g8 (by rw [e, e']))).trans (bX.block b hb)), hmY, fun s hs => ?_, g7, g8, hpm, K1.out.1.bp, K1.out.1.bm, by rw [hsY]; exact Nat.lt_of_lt_of_le g9 bX.size⟩, ?_⟩
    · rcases List.mem_append.1 hs with hs | hs
      · exact K1.out.1.ok s hs
      · simp at hs; subst hs; exact H.out.2.2.2.2.2.2.1
    · have hbW : base ≤ W5.heap.size := by have := K1.out.1.bp; omega
      exact (g10.trans (bX.mono hbW)).trans (htY.below K1.out.1.bm (Nat.le_trans hbW bX.size))
  simp only [cKey] at hst
  refine hK.out _ _ (fun _ => hS2) ?_
  clear hK K hS2 hS bX KD hmY htY hsY hm hk b2
  refine wpZ_ready (rs := [8]) (by kernel_rfl) (by simp) ?_
  refine AllZ.cons rfl (fun K hK => ?_) AllZ.nil
  go_simp
  refine hK.out _ _ (fun h => absurd (show false = true from h.symm.trans (by kernel_rfl)) (by decide)) ?_
  clear hK K hst
  refine wpZ_done (by kernel_rfl) ?_ _
  obtain ⟨q5, cap5, hv5, P7⟩ := K7.out.1.pil (by simp)
  have c7 := noLiftStay Y base p q5 mb (n + 1) cap5 (xs ++ [x]) xs.length P7 (by simp; omega) (by simp) (by
    rcases HS.out with h | h
    · exact .inl (by rw [h]; rfl)
    · exact .inr h)
  go_wp2_with fail
  refine c7.mono ?_
  clear c7
  rintro e w8 ⟨rfl, b8⟩
  have KE : Hid (PinB w8 base p mb (n + 1) (Value.slice a5 (xs.length + 1) k5) (xs ++ [x]) ∧ Below base w w8) := ⟨K7.out.1.later b8, K7.out.2.trans (b8.mono (by have := K7.out.1.bp; have := K7.out.1.lp; omega))⟩
  clear b8
  go_wp2
  refine bodyPost_end (v := .tuple #[]) (by simp [results, Try.results44, go_sem]) rfl ⟨rfl, (Value.slice a5 (xs.length + 1) k5), KE.out.1, KE.out.2⟩
set_option maxRecDepth 100000 in
set_option maxHeartbeats 8000000 in
theorem noPutAny (w : World) (base p mb n : Nat) (v : Value) (xs : List N5) (x : N5) (h : PinB w base p mb n v xs) (hn : n ≤ 1000) (hl : xs.length ≤ 100) (hok : noteOkB x = true) (hno : noW xs x.region x.slot = none) (hbs : base ≤ w.heap.size) (hs : HeapP.Hp (noK xs) xs.length) :
    Calls Try.prog 44 #[.pointer (some ⟨p, 0, none⟩), .agg #[.int .i64 x.region, .int .i64 x.slot, .int .i64 x.version, .int .i64 x.value, .bool x.used]] w fun e w' => e = .returned (.tuple #[]) ∧ ∃ q cap n' ys, n' ≤ n + 1 + 2 * xs.length ∧ Pin w' base p q mb n' cap ys ∧ ys.Perm (xs ++ [x]) ∧ HeapP.Hp (noK ys) ys.length ∧ Below base w w' := by
  obtain ⟨W0, hW0⟩ : ∃ W, W = w.alloc (.cells #[.int .i64 x.region, .int .i64 x.slot, .int .i64 x.version, .int .i64 x.value, .bool x.used] 29) := ⟨_, rfl⟩
  have b0 : Below w.heap.size w W0 := by rw [hW0]; exact (Below.refl _ _).alloc (Nat.le_refl _) _
  have z0 : W0.heap.size = w.heap.size + 1 := by rw [hW0]; simp
  have x0 : NoteAt W0 w.heap.size 0 x := by rw [hW0]; exact NoteAt.box w x _
  have h0 := h.later b0
  have hk := noOk_in hok
  have hpw : p < w.heap.size := h.lp
  have hmw : mb < w.heap.size := h.mp.lt
  have lk : ∀ d os, (Instr.lookup 103 (.map (some mb)) (cKey x.region x.slot) true).run Try.prog (grow (redrawn W0 d) os) = .ok (.tuple #[.int .i64 0, .bool false]) (grow (redrawn W0 d) os) := fun d os => by
    have hu := ((h0.mp).later (below_regrown W0 d os)).look hk.1 hk.2
    rw [hno] at hu
    exact hu
  have lift : ∀ {b o : Nat} {u : Value}, b < W0.heap.size → W0.cell? ⟨b, o, none⟩ = some u → ∀ d os, (grow (redrawn W0 d) os).cell? ⟨b, o, none⟩ = some u := fun {b o u} hb hh d os => ((below_regrown W0 d os).cell (p := ⟨b, o, none⟩) hb).trans hh
  have m1 := lift (by omega) h0.c1
  have t0 := lift (by omega) x0.c0
  have t1 := lift (by omega) x0.c1
  have t2 := lift (by omega) x0.c2
  have t3 := lift (by omega) x0.c3
  have t4 := lift (by omega) x0.c4
  have cC : ∀ d os, Calls Try.prog 42 #[.agg #[.int .i64 x.region, .int .i64 x.slot, .int .i64 x.version, .int .i64 x.value, .bool x.used]] (grow (redrawn W0 d) os) fun e w'' => e = .returned (.agg #[.int .i64 x.region, .int .i64 x.slot]) ∧ ∃ p : Regrown, w'' = grow (redrawn W0 p.d) p.os := fun d os => Calls.regrown_of (noCell_any _ _)
  have hm : ∀ w : World, (method 247 29 (.agg #[.int .i64 x.region, .int .i64 x.slot, .int .i64 x.version, .int .i64 x.value, .bool x.used]) "loop.example/g00153/impl.cell").run Try.prog w = .ok (42, .agg #[.int .i64 x.region, .int .i64 x.slot, .int .i64 x.version, .int .i64 x.value, .bool x.used]) w := fun _ => by kernel_rfl
  have H : Hid (PinB W0 base p mb n v xs ∧ NoteAt W0 w.heap.size 0 x ∧ Below w.heap.size w W0 ∧ W0.heap.size = w.heap.size + 1 ∧ base ≤ w.heap.size ∧ noW xs x.region x.slot = none ∧ noteOkB x = true ∧ v.ownBlock ≠ some w.heap.size) := ⟨h0, x0, b0, z0, hbs, hno, hok, fun e => by have := (h.row.lt e).2; omega⟩
  have HS := hidOf hs
  clear h h0 x0 b0 z0 hbs hno hok hs lift
  simp only [cKey, Nat.zero_add] at lk t0 t1 t2 t3 t4
  go_enter Try.func44, Try.ntmps44
  go_wp2_with fail
  rw [← hW0]
  clear hW0
  refine wp_region_quiet_below (by kernel_rfl) (by kernel_rfl) ?_
  repeat (go_big_quiet_step (exact cC _ _))
  refine wpQuiet_nil ?_
  intro _ hw'
  obtain ⟨⟨dq', osq⟩, hw''⟩ := hw'
  subst hw''
  have bq := below_regrown W0 dq' osq
  have K1 : Hid (PinB (grow (redrawn W0 dq') osq) base p mb n v xs ∧ NoteAt (grow (redrawn W0 dq') osq) w.heap.size 0 x ∧ Below w.heap.size w (grow (redrawn W0 dq') osq) ∧ w.heap.size < (grow (redrawn W0 dq') osq).heap.size) := by
    obtain ⟨g1, g2, g3, g4, _⟩ := H.out
    have := bq.size
    exact ⟨g1.later bq, g2.below bq (by omega), g3.trans (bq.mono g3.size), by omega⟩
  clear bq m1 t0 t1 t2 t3 t4 cC lk
  obtain ⟨av, ac, hav, -⟩ := K1.out.1.row.form
  have m0 := K1.out.1.c0
  rw [hav] at m0
  have HV := hidOf hav
  clear hav
  go_upto_region 5 with fail
  clear m0
  generalize grow (redrawn W0 dq') osq = W1 at *
  have hS : (fun X : World => X.cell? ⟨p, 0, none⟩ = some v ∧ NoteAt X w.heap.size 0 x) W1.drew := ⟨K1.out.1.c0, K1.out.2.1.below ((Below.refl W1.heap.size W1).drew) K1.out.2.2.2⟩
  refine wp_region_z (fun z => z == 10) (fun X : World => X.cell? ⟨p, 0, none⟩ = some v ∧ NoteAt X w.heap.size 0 x) (by kernel_rfl) ?_
  have KD : Hid (Below W1.heap.size W1 W1.drew) := (Below.refl _ _).drew
  generalize W1.drew = Wd at *
  refine wpZ_takeP (i := 0) (v := ?_) rfl (by kernel_rfl) (fun _ _ _ h => h) (Or.inl ⟨by rfl, ?_⟩) hS ?_
  rotate_left
  · (intro w _; go_simp; first | done | with_reducible rfl | (rw [if_pos (by omega)]) | (rw [if_pos (by omega)]; go_simp))
  simp only [Act.put]
  refine wpZ_takeP (i := 1) (v := ?_) rfl (by kernel_rfl) (fun _ _ _ h => h) (Or.inl ⟨by rfl, ?_⟩) hS ?_
  rotate_left
  · (intro w _; go_simp; first | done | with_reducible rfl | (rw [if_pos (by omega)]) | (rw [if_pos (by omega)]; go_simp))
  simp only [Act.put]
  refine wpZ_takeP (i := 2) (v := ?_) rfl (by kernel_rfl) (fun _ _ _ h => h) (Or.inl ⟨by rfl, ?_⟩) hS ?_
  rotate_left
  · (intro w _; go_simp; first | done | with_reducible rfl | (rw [if_pos (by omega)]) | (rw [if_pos (by omega)]; go_simp))
  simp only [Act.put]
  refine wpZ_takeP (i := 3) (v := ?_) rfl (by kernel_rfl) (fun _ _ _ h => h) (Or.inl ⟨by rfl, ?_⟩) hS ?_
  rotate_left
  · (intro w _; go_simp; first | done | with_reducible rfl | (rw [if_pos (by omega)]) | (rw [if_pos (by omega)]; go_simp))
  simp only [Act.put]
  refine wpZ_take (i := 4) (v := ?_) rfl (by kernel_rfl) (fun _ _ _ h => h) (Or.inl ⟨by rfl, ?_⟩) hS ?_
  rotate_left
  · (intro w hSw; obtain ⟨s0, ⟨a0, a1, a2, a3, a4⟩⟩ := hSw; go_simp; first | done | with_reducible rfl)
  simp only [Act.put]
  refine wpZ_take (i := 5) (v := ?_) rfl (by kernel_rfl) (fun _ _ _ h => h) (Or.inl ⟨by rfl, ?_⟩) hS ?_
  rotate_left
  · (intro w hSw; obtain ⟨s0, ⟨a0, a1, a2, a3, a4⟩⟩ := hSw; go_simp; first | done | with_reducible rfl)
  simp only [Act.put]
  obtain ⟨V, hV⟩ : ∃ V, V = Wd.alloc (.cells #[.int .i64 x.region, .int .i64 x.slot, .int .i64 x.version, .int .i64 x.value, .bool x.used] 29) := ⟨_, rfl⟩
  have bV : Below Wd.heap.size Wd V := by rw [hV]; exact (Below.refl _ _).alloc (Nat.le_refl _) _
  have bWV : Below W1.heap.size W1 V := KD.out.trans (bV.mono KD.out.size)
  have hone : NotesAt V Wd.heap.size 0 [x] := by rw [hV]; exact (NoteAt.box Wd _ _).one
  have hB1 := (K1.out.1.later bWV)
  obtain ⟨v5, Y5, hr, hrow5, hgr, hlies⟩ := pushNo hB1.row [x] (by simp; omega) 24 Wd.heap.size 0 1 hone (by have := hB1.bp; have := hB1.lp; omega)
  obtain ⟨a5, k5, rfl⟩ : ∃ a5 k5, v5 = Value.slice a5 (xs.length + 1) k5 := by
    obtain ⟨a5, k5, e5, -⟩ := hrow5.form
    exact ⟨a5, k5, by simpa using e5⟩
  have hwsz : w.heap.size < V.heap.size := Nat.lt_of_lt_of_le K1.out.2.2.2 bWV.size
  have hSV : (fun X : World => X.cell? ⟨p, 0, none⟩ = some v ∧ NoteAt X w.heap.size 0 x) V := ⟨hB1.c0, K1.out.2.1.below bWV K1.out.2.2.2⟩
  have kb : ∀ b, b < V.heap.size → v.ownBlock ≠ some b → Y5.heap[b]? = V.heap[b]? := fun b hb hne => hgr.block b hb (fun e => hne e.symm)
  have hSY : (fun X : World => X.cell? ⟨p, 0, none⟩ = some v ∧ NoteAt X w.heap.size 0 x) Y5 := ⟨(World.cell?_of_block (a := ⟨p, 0, none⟩) (kb p hB1.lp hB1.vp)).trans hB1.c0, NoteAt.of_blk hSV.2 (kb _ hwsz H.out.2.2.2.2.2.2.2)⟩
  have own5 : ∀ b, b < V.heap.size → v.ownBlock ≠ some b → (Value.slice a5 (xs.length + 1) k5).ownBlock ≠ some b := fun b hb hne e => by
    rcases hlies with h | h
    · rw [h] at e; exact hne e
    · rw [h] at e; cases e; omega
  have K5 : Hid (RowN Y5 base (Value.slice a5 (xs.length + 1) k5) (xs ++ [x]) ∧ Y5.cell? ⟨p, 0, none⟩ = some v ∧ Y5.cell? ⟨p, 1, none⟩ = some (.map (some mb)) ∧ (∀ j, Y5.frozen? ⟨p, j, none⟩ = false) ∧ MapF Y5 mb n (noW xs) ∧ (Value.slice a5 (xs.length + 1) k5).ownBlock ≠ some p ∧ (Value.slice a5 (xs.length + 1) k5).ownBlock ≠ some mb ∧ p < Y5.heap.size ∧ Below base w Y5 ∧ NoteAt Y5 w.heap.size 0 x ∧ w.heap.size < Y5.heap.size ∧ (Value.slice a5 (xs.length + 1) k5).ownBlock ≠ some w.heap.size ∧ mb < V.heap.size) := by
    have hp5 := kb p hB1.lp hB1.vp
    have hm5 := kb mb hB1.mp.lt hB1.vm
    have bwV : Below base w V := (K1.out.2.2.1.mono H.out.2.2.2.2.1).trans (bWV.mono (by have := K1.out.1.bp; have := K1.out.1.lp; omega))
    refine ⟨hrow5, hSY.1, (World.cell?_of_block (a := ⟨p, 1, none⟩) hp5).trans hB1.c1, fun j => (World.frozen?_of_block (a := ⟨p, j, none⟩) hp5).trans (hB1.fz j), hB1.mp.of_block hm5, own5 p hB1.lp hB1.vp, own5 mb hB1.mp.lt hB1.vm, Nat.lt_of_lt_of_le hB1.lp hgr.size, ?_, hSY.2, Nat.lt_of_lt_of_le hwsz hgr.size, own5 _ hwsz H.out.2.2.2.2.2.2.2, hB1.mp.lt⟩
    exact bwV.grown hgr (by have := hB1.bp; have := hB1.lp; omega) (fun b e => (hB1.row.lt e).1)
  rw [hV] at hr
  have f0 := K5.out.2.2.2.1 0
  have e0 := K5.out.2.1
  simp only [List.length_cons, List.length_nil, Nat.zero_add] at hr
  refine wpZ_ready (rs := [6]) (by kernel_rfl) (by simp) ?_
  refine AllZ.cons rfl (fun K hK => ?_) AllZ.nil
  go_simp
  refine hK.out _ _ (fun _ => by rw [← hV]; exact hSV) ?_
  clear hK K
  refine wpZ_ready (rs := [7]) (by kernel_rfl) (by simp) ?_
  refine AllZ.cons rfl (fun K hK => ?_) AllZ.nil
  refine step_known _ rfl (.tmp 34) (.tmp 36) 24 rfl _ _ _ _ (by first | rfl | simp [Act.eval, Act.put]) (by first | rfl | simp [Act.eval, Act.put]) hr ?_
  refine hK.out _ _ (fun _ => hSY) ?_
  clear hK K hr
  simp only [Act.put]
  refine wpZ_takeP (i := 8) (v := ?_) rfl (by kernel_rfl) (fun _ _ _ h => h) (Or.inl ⟨by rfl, ?_⟩) hSY ?_
  rotate_left
  · (intro w _; go_simp; first | done | with_reducible rfl | (rw [if_pos (by omega)]) | (rw [if_pos (by omega)]; go_simp))
  simp only [Act.put]
  refine wpZ_takeP (i := 9) (v := ?_) rfl (by kernel_rfl) (fun _ _ _ h => h) (Or.inl ⟨by rfl, ?_⟩) hSY ?_
  rotate_left
  · (intro w _; go_simp; first | done | with_reducible rfl | (rw [if_pos (by omega)]) | (rw [if_pos (by omega)]; go_simp))
  simp only [Act.put]
  refine wpZ_ready (rs := [10]) (by kernel_rfl) (by simp) ?_
  refine AllZ.cons rfl (fun K hK => ?_) AllZ.nil
  go_simp
  refine hK.out _ _ (fun h => absurd (show false = true from h.symm.trans (by kernel_rfl)) (by decide)) ?_
  clear hK K
  refine wpZ_done (by kernel_rfl) ?_ _
  have KU : Hid (NoteAt (Y5.setCell ⟨p, 0, none⟩ (Value.slice a5 (xs.length + 1) k5)) w.heap.size 0 x ∧ RowN (Y5.setCell ⟨p, 0, none⟩ (Value.slice a5 (xs.length + 1) k5)) base (Value.slice a5 (xs.length + 1) k5) (xs ++ [x]) ∧ (Y5.setCell ⟨p, 0, none⟩ (Value.slice a5 (xs.length + 1) k5)).cell? ⟨p, 0, none⟩ = some (Value.slice a5 (xs.length + 1) k5) ∧ (Y5.setCell ⟨p, 0, none⟩ (Value.slice a5 (xs.length + 1) k5)).cell? ⟨p, 1, none⟩ = some (.map (some mb)) ∧ (∀ j, (Y5.setCell ⟨p, 0, none⟩ (Value.slice a5 (xs.length + 1) k5)).frozen? ⟨p, j, none⟩ = false) ∧ MapF (Y5.setCell ⟨p, 0, none⟩ (Value.slice a5 (xs.length + 1) k5)) mb n (noW xs) ∧ (Value.slice a5 (xs.length + 1) k5).ownBlock ≠ some p ∧ (Value.slice a5 (xs.length + 1) k5).ownBlock ≠ some mb ∧ p < (Y5.setCell ⟨p, 0, none⟩ (Value.slice a5 (xs.length + 1) k5)).heap.size ∧ Below base w (Y5.setCell ⟨p, 0, none⟩ (Value.slice a5 (xs.length + 1) k5)) ∧ w.heap.size < (Y5.setCell ⟨p, 0, none⟩ (Value.slice a5 (xs.length + 1) k5)).heap.size ∧ (Value.slice a5 (xs.length + 1) k5).ownBlock ≠ some w.heap.size) := by
    obtain ⟨g1, g2, g3, g4, g5, g6, g7, g8, g9, g10, g11, g12, g13⟩ := K5.out
    have bp := K1.out.1.bp
    have far : ∀ b, b ≠ p → (Y5.setCell ⟨p, 0, none⟩ (Value.slice a5 (xs.length + 1) k5)).heap[b]? = Y5.heap[b]? := fun b hb => Below.heap_setCell _ _ _ _ hb
    refine ⟨NoteAt.of_blk g10 (far _ (by omega)), g1.keep (fun b _ _ e => far b (fun e' => g6 (by rw [e, e']))), cell_set_same g2, (cell_set_other (by omega)).trans g3, fun j => by rw [World.frozen?_setCell]; exact g4 j, g5.of_block (far mb (fun e => K1.out.1.pm e.symm)), g6, g7, by simpa [World.setCell] using g8, g9.setCell (p := ⟨p, 0, none⟩) bp _, by simpa [World.setCell] using g11, g12⟩
  clear K5 hS hSV hSY kb own5 hgr hlies hrow5 hB1 hone bWV bV hV V hwsz f0 e0 KD
  generalize Y5.setCell ⟨p, 0, none⟩ (Value.slice a5 (xs.length + 1) k5) = W5 at *
  clear Y5
  have hS : (fun X : World => X.cell? ⟨p, 1, none⟩ = some (.map (some mb)) ∧ NoteAt X w.heap.size 0 x) W5.drew := ⟨KU.out.2.2.2.1, KU.out.1.below ((Below.refl W5.heap.size W5).drew) KU.out.2.2.2.2.2.2.2.2.2.2.1⟩
  go_upto_region 6 with fail
  refine wp_region_z (fun z => z == 8) (fun X : World => X.cell? ⟨p, 1, none⟩ = some (.map (some mb)) ∧ NoteAt X w.heap.size 0 x) (by kernel_rfl) ?_
  have KD : Hid (Below W5.heap.size W5 W5.drew) := (Below.refl _ _).drew
  generalize W5.drew = We at *
  refine wpZ_takeP (i := 0) (v := ?_) rfl (by kernel_rfl) (fun _ _ _ h => h) (Or.inl ⟨by rfl, ?_⟩) hS ?_
  rotate_left
  · (intro w _; go_simp; first | done | with_reducible rfl | (rw [if_pos (by omega)]) | (rw [if_pos (by omega)]; go_simp))
  simp only [Act.put]
  refine wpZ_takeP (i := 1) (v := ?_) rfl (by kernel_rfl) (fun _ _ _ h => h) (Or.inl ⟨by rfl, ?_⟩) hS ?_
  rotate_left
  · (intro w _; go_simp; first | done | with_reducible rfl | (rw [if_pos (by omega)]) | (rw [if_pos (by omega)]; go_simp))
  simp only [Act.put]
  refine wpZ_takeP (i := 2) (v := ?_) rfl (by kernel_rfl) (fun _ _ _ h => h) (Or.inl ⟨by rfl, ?_⟩) hS ?_
  rotate_left
  · (intro w _; go_simp; first | done | with_reducible rfl | (rw [if_pos (by omega)]) | (rw [if_pos (by omega)]; go_simp))
  simp only [Act.put]
  refine wpZ_take (i := 3) (v := ?_) rfl (by kernel_rfl) (fun _ _ _ h => h) (Or.inl ⟨by rfl, ?_⟩) hS ?_
  rotate_left
  · (intro w hSw; obtain ⟨s0, ⟨a0, a1, a2, a3, a4⟩⟩ := hSw; go_simp; first | done | with_reducible rfl)
  simp only [Act.put]
  refine wpZ_take (i := 4) (v := ?_) rfl (by kernel_rfl) (fun _ _ _ h => h) (Or.inl ⟨by rfl, ?_⟩) hS ?_
  rotate_left
  · (intro w hSw; obtain ⟨s0, ⟨a0, a1, a2, a3, a4⟩⟩ := hSw; go_simp; first | done | with_reducible rfl)
  simp only [Act.put]
  refine wpZ_takeP (i := 5) (v := ?_) rfl (by kernel_rfl) (fun _ _ _ h => h) (Or.inl ⟨by rfl, ?_⟩) hS ?_
  rotate_left
  · (intro w _; go_simp; first | done | with_reducible rfl | (rw [if_pos (by omega)]) | (rw [if_pos (by omega)]; go_simp))
  simp only [Act.put]
  refine wpZ_takeP (i := 7) (v := ?_) rfl (by kernel_rfl) (fun _ _ _ h => h) (Or.inl ⟨by rfl, ?_⟩) hS ?_
  rotate_left
  · (intro w _; go_simp; first | done | with_reducible rfl | (rw [if_pos (by omega)]) | (rw [if_pos (by omega)]; go_simp))
  simp only [Act.put]
  refine wpZ_ready (rs := [6]) (by kernel_rfl) (by simp) ?_
  refine AllZ.cons rfl (fun K hK => ?_) AllZ.nil
  go_simp
  refine (noCell_any We x).mono ?_
  rintro e X2 ⟨rfl, b2⟩
  have bX : Below W5.heap.size W5 X2 := KD.out.trans (b2.mono KD.out.size)
  obtain ⟨Y, hst, hmY, htY, hsY⟩ := (KU.out.2.2.2.2.2.1.later bX).store (by omega) hk.1 hk.2 xs.length (by omega)
  rw [← noW_snoc H.out.2.2.2.2.2.1] at hmY
  have hS2 : (fun X : World => X.cell? ⟨p, 1, none⟩ = some (.map (some mb)) ∧ NoteAt X w.heap.size 0 x) X2 := by
    obtain ⟨g1, g2, g3, g4, g5, g6, g7, g8, g9, g10, g11, g12⟩ := KU.out
    exact ⟨(bX.cell (p := ⟨p, 1, none⟩) g9).trans g4, g1.below bX g11⟩
  have K7 : Hid (PinB Y base p mb (n + 1) (Value.slice a5 (xs.length + 1) k5) (xs ++ [x]) ∧ Below base w Y) := by
    obtain ⟨g1, g2, g3, g4, g5, g6, g7, g8, g9, g10, g11, g12⟩ := KU.out
    have hpm := K1.out.1.pm
    have hp5 := (htY.block p (Nat.lt_of_lt_of_le g9 bX.size) hpm).trans (bX.block p g9)
    refine ⟨⟨(World.cell?_of_block (a := ⟨p, 0, none⟩) hp5).trans g3, (World.cell?_of_block (a := ⟨p, 1, none⟩) hp5).trans g4, fun j => (World.frozen?_of_block (a := ⟨p, j, none⟩) hp5).trans (g5 j), g2.keep (fun b _ hb e => (htY.block b (Nat.lt_of_lt_of_le hb bX.size) (fun e' => g8 (by rw [e, e']))).trans (bX.block b hb)), hmY, fun s hs => ?_, g7, g8, hpm, K1.out.1.bp, K1.out.1.bm, by rw [hsY]; exact Nat.lt_of_lt_of_le g9 bX.size⟩, ?_⟩
    · rcases List.mem_append.1 hs with hs | hs
      · exact K1.out.1.ok s hs
      · simp at hs; subst hs; exact H.out.2.2.2.2.2.2.1
    · have hbW : base ≤ W5.heap.size := by have := K1.out.1.bp; omega
      exact (g10.trans (bX.mono hbW)).trans (htY.below K1.out.1.bm (Nat.le_trans hbW bX.size))
  simp only [cKey] at hst
  refine hK.out _ _ (fun _ => hS2) ?_
  clear hK K hS2 hS bX KD hmY htY hsY hm hk b2
  refine wpZ_ready (rs := [8]) (by kernel_rfl) (by simp) ?_
  refine AllZ.cons rfl (fun K hK => ?_) AllZ.nil
  go_simp
  refine hK.out _ _ (fun h => absurd (show false = true from h.symm.trans (by kernel_rfl)) (by decide)) ?_
  clear hK K hst
  refine wpZ_done (by kernel_rfl) ?_ _
  obtain ⟨q5, cap5, hv5, P7⟩ := K7.out.1.pil (by simp)
  have c7 := noLift_any Y base p q5 mb (n + 1) cap5 (xs ++ [x]) xs.length P7 (by omega) (by simp; omega) (by simp) (by
    have := HeapP.HpUp.of_last (n := xs.length) (k := noK (xs ++ [x])) (fun i h0 hi => by
      have e1 : noK (xs ++ [x]) i = noK xs i := by unfold noK atNo; rw [List.getElem?_append_left hi]
      have e2 : noK (xs ++ [x]) ((i - 1) / 2) = noK xs ((i - 1) / 2) := by unfold noK atNo; rw [List.getElem?_append_left (by omega)]
      rw [e1, e2]; exact HS.out i h0 hi)
    simpa using this)
  go_wp2_with fail
  refine c7.mono ?_
  clear c7
  rintro e w8 ⟨rfl, n8, ys, hn8, p8, pm8, hp8, k8⟩
  have KE : Hid (n8 ≤ n + 1 + 2 * xs.length ∧ Pin w8 base p q5 mb n8 cap5 ys ∧ ys.Perm (xs ++ [x]) ∧ HeapP.Hp (noK ys) ys.length ∧ Below base w w8) := ⟨by omega, p8, pm8, hp8, K7.out.2.trans (k8.below (fun b hb => by rcases hb with rfl | rfl | rfl; exact p8.bp; exact p8.bq; exact p8.bm) (by have := K7.out.1.bp; have := K7.out.1.lp; omega))⟩
  clear p8 pm8 hp8 k8 hn8
  go_wp2
  refine bodyPost_end (v := .tuple #[]) (by simp [results, Try.results44, go_sem]) rfl ⟨rfl, q5, cap5, n8, ys, KE.out⟩
def noUp2 (xs : List N5) : Prop := xs.Pairwise fun a b => noR a < noR b
theorem noUp2_at {xs : List N5} (h : noUp2 xs) {i j : Nat} {x y : N5} (hi : xs[i]? = some x) (hj : xs[j]? = some y) (hij : i < j) : noR x < noR y := by
  have li := (List.getElem?_eq_some_iff.1 hi)
  have lj := (List.getElem?_eq_some_iff.1 hj)
  have := List.pairwise_iff_getElem.1 h i j li.1 lj.1 hij
  rwa [li.2, lj.2] at this
theorem noNew {xs : List N5} (h : noUp2 xs) {k : Nat} {x : N5} (hk : xs[k]? = some x) : noW (xs.take k) x.region x.slot = none := by
  rw [noW_none]
  intro y hy e
  obtain ⟨i, hi, rfl⟩ := List.getElem_of_mem hy
  have hik : i < k := by rw [List.length_take] at hi; omega
  have e2 : xs[i]? = some ((xs.take k)[i]) := by
    have := List.getElem?_eq_getElem hi
    rwa [List.getElem?_take, if_pos hik] at this
  have := noUp2_at h e2 hk hik
  unfold noR at this
  rw [e.1, e.2] at this
  omega
theorem noStay {xs : List N5} (h : noUp2 xs) {k : Nat} {x : N5} (hk : xs[k]? = some x) : xs.take k = [] ∨ noK (xs.take k ++ [x]) (((xs.take k).length - 1) / 2) ≤ noK (xs.take k ++ [x]) (xs.take k).length := by
  by_cases h0 : k = 0
  · exact .inl (by rw [h0]; rfl)
  · have lk := (List.getElem?_eq_some_iff.1 hk).1
    have hl : (xs.take k).length = k := by rw [List.length_take]; omega
    have e1 : xs.take k ++ [x] = xs.take (k + 1) := by rw [List.take_add_one, hk]; rfl
    refine .inr ?_
    rw [hl, e1]
    obtain ⟨y, hy⟩ : ∃ y, xs[(k - 1) / 2]? = some y := ⟨_, List.getElem?_eq_getElem (by omega)⟩
    rw [noK_R (x := y) (by rw [List.getElem?_take, if_pos (by omega)]; exact hy), noK_R (x := x) (by rw [List.getElem?_take, if_pos (by omega)]; exact hk)]
    exact Int.le_of_lt (noUp2_at h hy hk (by omega))
set_option maxHeartbeats 4000000 in
theorem noPileOf_any (w : World) (a : Option Addr) (c : Nat) (xs : List N5) (hl : xs.length ≤ 100) (hs : SlNo w w.heap.size a xs.length xs) (hok : ∀ s ∈ xs, noteOkB s = true) (hup : noUp2 xs) :
    Calls Try.prog 40 #[.slice a xs.length c] w fun e w' => ∃ p mb n v, e = .returned (.pointer (some ⟨p, 0, none⟩)) ∧ PinB w' w.heap.size p mb n v xs ∧ n ≤ xs.length ∧ Below w.heap.size w w' := by
  obtain ⟨W0, hW0⟩ : ∃ W, W = w.alloc (.map #[] 0) := ⟨_, rfl⟩
  have z0 : W0.heap.size = w.heap.size + 1 := by rw [hW0]; simp
  have b0 : Below w.heap.size w W0 := by rw [hW0]; exact (Below.refl _ _).alloc (Nat.le_refl _) _
  obtain ⟨W, hW⟩ : ∃ W, W = W0.alloc (.cells #[.slice none 0 0, .map (some w.heap.size)] 105) := ⟨_, rfl⟩
  have b1 : Below W0.heap.size W0 W := by rw [hW]; exact (Below.refl _ _).alloc (Nat.le_refl _) _
  have pb : PinB W w.heap.size (w.heap.size + 1) w.heap.size 0 (.slice none 0 0) [] := by
    refine ⟨(by rw [hW, ← z0]; go_simp), (by rw [hW, ← z0]; go_simp), (fun j => by rw [hW, ← z0]; go_simp), RowN.nil _ _, ?_, (fun s hs => by cases hs), (fun e => by cases e), (fun e => by cases e), (by omega), (by omega), Nat.le_refl _, (by rw [hW]; simp [z0])⟩
    have hm := (MapF.made w).later (W' := W) (by rw [← hW0]; exact b1)
    exact hm
  have H : Hid (SlNo w w.heap.size a xs.length xs ∧ (∀ s ∈ xs, noteOkB s = true) ∧ noUp2 xs ∧ PinB W w.heap.size (w.heap.size + 1) w.heap.size 0 (.slice none 0 0) [] ∧ Below w.heap.size w W) := ⟨hs, hok, hup, pb, b0.trans (b1.mono b0.size)⟩
  clear hs hok hup pb b0 b1 z0
  rw [hW0] at hW
  clear hW0
  have hmm := @run_makeMap Try.prog
  go_enter Try.func40, Try.ntmps40
  go_wp2
  rw [← hW]
  clear hW
  go_loopw [11] (fun v11 wr => ∃ (k n : Nat) (v : Value), k ≤ xs.length ∧ v11 = .int .i64 (k : Int) ∧ PinB wr w.heap.size (w.heap.size + 1) w.heap.size n v (xs.take k) ∧ n ≤ k ∧ Below w.heap.size w wr) (fun v11 _ => xs.length - (intOf v11).toNat)
  case atStart => exact ⟨0, 0, .slice none 0 0, Nat.zero_le _, rfl, by simpa using H.out.2.2.2.1, Nat.le_refl _, H.out.2.2.2.2⟩
  case round =>
    obtain ⟨k, n, v, hk, rfl, hp, hnk, hbl⟩ := hrel
    by_cases hlt : k < xs.length
    · obtain ⟨_, hsk⟩ := H.out.1.later hbl
      rcases hsk with hsk | ⟨b, off, rfl, hb, hx⟩
      · omega
      have hxk := atNo_of hlt
      obtain ⟨c0, c1, c2, c3, c4⟩ := hx k _ hxk
      obtain ⟨V, hV⟩ : ∃ V, V = wr.alloc (.cells #[.int .i64 (atNo xs k).region, .int .i64 (atNo xs k).slot, .int .i64 (atNo xs k).version, .int .i64 (atNo xs k).value, .bool (atNo xs k).used] 29) := ⟨_, rfl⟩
      have bV : Below wr.heap.size wr V := by rw [hV]; exact (Below.refl _ _).alloc (Nat.le_refl _) _
      have cp := noPutLast V w.heap.size (w.heap.size + 1) w.heap.size n v (xs.take k) (atNo xs k) (hp.later bV) (by omega) (by rw [List.length_take]; omega) (H.out.2.1 _ (List.mem_of_getElem? hxk)) (noNew H.out.2.2.1 hxk) (Nat.le_trans hbl.size bV.size) (noStay H.out.2.2.1 hxk)
      have KB : Hid (Below w.heap.size w V ∧ xs.take k ++ [atNo xs k] = xs.take (k + 1)) := ⟨hbl.trans (bV.mono hbl.size), by rw [List.take_add_one, hxk]; rfl⟩
      clear hp hbl hx hxk bV
      go_wp2_with fail
      rw [← hV]
      clear hV c0 c1 c2 c3 c4
      refine cp.mono ?_
      clear cp
      rintro e w1 ⟨rfl, v', p1, b1⟩
      rw [KB.out.2] at p1
      have KE : Hid (PinB w1 w.heap.size (w.heap.size + 1) w.heap.size (n + 1) v' (xs.take (k + 1)) ∧ Below w.heap.size w w1) := ⟨p1, KB.out.1.trans b1⟩
      clear p1 b1
      go_wp2
      exact ⟨⟨k + 1, n + 1, v', by omega, by simp, KE.out.1, by omega, KE.out.2⟩, by simp [intOf]; omega⟩
    · obtain rfl : k = xs.length := by omega
      have hd : decide ((xs.length : Int) < (xs.length : Int)) = false := by simp
      rw [List.take_length] at hp
      have KE : Hid (PinB wr w.heap.size (w.heap.size + 1) w.heap.size n v xs ∧ Below w.heap.size w wr) := ⟨hp, hbl⟩
      clear hp hbl
      go_wp2
      go_ret
      exact ⟨w.heap.size + 1, w.heap.size, n, v, rfl, KE.out.1, hnk, KE.out.2⟩
set_option maxHeartbeats 4000000 in
theorem noHas_any (w : World) (base p mb n : Nat) (v : Value) (xs : List N5) (r s : Int) (h : PinB w base p mb n v xs) (h1 : inB 0 5 r = true) (h2 : inB 0 5 s = true) :
    Calls Try.prog 41 #[.pointer (some ⟨p, 0, none⟩), .agg #[.int .i64 r, .int .i64 s]] w fun e w' => e = .returned (.bool (noW xs r s).isSome) ∧ Below w.heap.size w w' := by
  obtain ⟨W0, hW0⟩ : ∃ W, W = w.alloc (.cells #[.int .i64 r, .int .i64 s] 72) := ⟨_, rfl⟩
  have b0 : Below w.heap.size w W0 := by rw [hW0]; exact (Below.refl _ _).alloc (Nat.le_refl _) _
  have z0 : W0.heap.size = w.heap.size + 1 := by rw [hW0]; simp
  have h0 := h.later b0
  have lk : ∀ d os, (Instr.lookup 103 (.map (some mb)) (cKey r s) true).run Try.prog (grow (redrawn W0 d) os) = .ok (.tuple #[.int .i64 (((noW xs r s).getD 0 : Nat) : Int), .bool (noW xs r s).isSome]) (grow (redrawn W0 d) os) := fun d os => ((h0.mp).later (below_regrown W0 d os)).look h1 h2
  have m1 : ∀ d os, (grow (redrawn W0 d) os).cell? ⟨p, 1, none⟩ = some (.map (some mb)) := fun d os => ((below_regrown W0 d os).cell (p := ⟨p, 1, none⟩) h0.lp).trans h0.c1
  have t0 : ∀ d os, (grow (redrawn W0 d) os).cell? ⟨w.heap.size, 0, none⟩ = some (.int .i64 r) := fun d os => ((below_regrown W0 d os).cell (p := ⟨w.heap.size, 0, none⟩) (by rw [z0]; simp)).trans (by rw [hW0]; go_simp)
  have t1 : ∀ d os, (grow (redrawn W0 d) os).cell? ⟨w.heap.size, 1, none⟩ = some (.int .i64 s) := fun d os => ((below_regrown W0 d os).cell (p := ⟨w.heap.size, 1, none⟩) (by rw [z0]; simp)).trans (by rw [hW0]; go_simp)
  have H : Hid (Below w.heap.size w W0) := b0
  clear h h0 b0 z0 h1 h2
  simp only [cKey] at lk
  generalize (noW xs r s).isSome = B at *
  generalize ((noW xs r s).getD 0) = I at *
  go_enter Try.func41, Try.ntmps41
  go_wp2_with fail
  rw [← hW0]
  clear hW0
  refine wp_region_quiet_below (by kernel_rfl) (by kernel_rfl) ?_
  repeat (go_big_quiet_step (fail))
  refine wpQuiet_nil ?_
  intro _ hw'
  obtain ⟨⟨dq', osq⟩, hw''⟩ := hw'
  subst hw''
  have bq := below_regrown W0 dq' osq
  have KE : Hid (Below w.heap.size w (grow (redrawn W0 dq') osq)) := H.out.trans (bq.mono H.out.size)
  clear bq lk m1 t0 t1
  go_wp2
  go_ret
  exact ⟨rfl, KE.out⟩
end Go.Proofs.Ytiidlcjjaglkdaa
namespace Go.Proofs.Ytiidlcjjaglkdaa
open Go.RowKit
structure Pis (W : World) (base p q mb n cap : Nat) (xs : List S5) : Prop where
  c0 : W.cell? ⟨p, 0, none⟩ = some (.slice (some ⟨q, 0, none⟩) xs.length cap)
  c1 : W.cell? ⟨p, 1, none⟩ = some (.map (some mb))
  fz : ∀ j, W.frozen? ⟨p, j, none⟩ = false
  at_ : SetsAt W q 0 xs
  rm : Room W q (xs.length * 5)
  cp : xs.length ≤ cap
  mp : MapN W mb n
  ok : ∀ s ∈ xs, setOkB s = true
  pq : p ≠ q
  pm : p ≠ mb
  qm : q ≠ mb
  bp : base ≤ p
  bq : base ≤ q
  bm : base ≤ mb
  lp : p < W.heap.size
  lq : q < W.heap.size
theorem Pis.keep {W V : World} {base p q mb n cap : Nat} {xs : List S5} (h : Pis W base p q mb n cap xs) (hs : W.heap.size ≤ V.heap.size) (hk : ∀ x, OfP p q mb x → V.heap[x]? = W.heap[x]?) : Pis V base p q mb n cap xs :=
  ⟨(World.cell?_of_block (a := ⟨p, 0, none⟩) (hk p (.inl rfl))).trans h.c0, (World.cell?_of_block (a := ⟨p, 1, none⟩) (hk p (.inl rfl))).trans h.c1, fun j => (World.frozen?_of_block (a := ⟨p, j, none⟩) (hk p (.inl rfl))).trans (h.fz j), h.at_.of_block (hk q (.inr (.inl rfl))), h.rm.of_block (hk q (.inr (.inl rfl))), h.cp, h.mp.of_block (hk mb (.inr (.inr rfl))), h.ok, h.pq, h.pm, h.qm, h.bp, h.bq, h.bm, Nat.lt_of_lt_of_le h.lp hs, Nat.lt_of_lt_of_le h.lq hs⟩
theorem Pis.later {W V : World} {base p q mb n cap : Nat} {xs : List S5} (h : Pis W base p q mb n cap xs) (hb : Below W.heap.size W V) : Pis V base p q mb n cap xs := h.keep hb.size (fun x hx => hb.block x (by rcases hx with rfl | rfl | rfl; exact h.lp; exact h.lq; exact h.mp.lt))
theorem Pis.below_drew {W V : World} {base p q mb n cap : Nat} {xs : List S5} (h : Pis W base p q mb n cap xs) (e : W.drew = V) : Pis V base p q mb n cap xs := by rw [← e]; exact h.later ((Below.refl _ _).drew)
theorem Pis.mono {W : World} {base p q mb n n' cap : Nat} {xs : List S5} (h : Pis W base p q mb n cap xs) (hn : n ≤ n') : Pis W base p q mb n' cap xs := ⟨h.c0, h.c1, h.fz, h.at_, h.rm, h.cp, h.mp.mono hn, h.ok, h.pq, h.pm, h.qm, h.bp, h.bq, h.bm, h.lp, h.lq⟩
theorem Pis.turnM {W V : World} {base p q mb n n' cap : Nat} {xs : List S5} (h : Pis W base p q mb n cap xs) (ht : Turned mb W V) (hm : MapN V mb n') (hs : V.heap.size = W.heap.size) : Pis V base p q mb n' cap xs := by
  have hp := ht.block p h.lp h.pm
  have hq := ht.block q h.lq h.qm
  exact ⟨(World.cell?_of_block (a := ⟨p, 0, none⟩) hp).trans h.c0, (World.cell?_of_block (a := ⟨p, 1, none⟩) hp).trans h.c1, fun j => (World.frozen?_of_block (a := ⟨p, j, none⟩) hp).trans (h.fz j), h.at_.of_block hq, h.rm.of_block hq, h.cp, hm, h.ok, h.pq, h.pm, h.qm, h.bp, h.bq, h.bm, by rw [hs]; exact h.lp, by rw [hs]; exact h.lq⟩
theorem Pis.put5 {W : World} {base p q mb n cap i : Nat} {xs : List S5} {x : S5} (h : Pis W base p q mb n cap xs) (hi : xs[i]? = some x) (y : S5) (hy : setOkB y = true) : Pis (((((W.setCell ⟨q, i * 5, none⟩ (.int .i64 y.region)).setCell ⟨q, i * 5 + 1, none⟩ (.int .i64 y.slot)).setCell ⟨q, i * 5 + 2, none⟩ (.int .i64 y.value)).setCell ⟨q, i * 5 + 3, none⟩ (.bool y.used)).setCell ⟨q, i * 5 + 4, none⟩ (.int .i64 y.version)) base p q mb n cap (xs.set i y) := by
  have li := (List.getElem?_eq_some_iff.1 hi).1
  have ho : OnlyBlock q W (((((W.setCell ⟨q, i * 5, none⟩ (.int .i64 y.region)).setCell ⟨q, i * 5 + 1, none⟩ (.int .i64 y.slot)).setCell ⟨q, i * 5 + 2, none⟩ (.int .i64 y.value)).setCell ⟨q, i * 5 + 3, none⟩ (.bool y.used)).setCell ⟨q, i * 5 + 4, none⟩ (.int .i64 y.version)) := (((((OnlyBlock.refl q _).setCell _ _).setCell _ _).setCell _ _).setCell _ _).setCell _ _
  have hp := ho.block p h.pq
  have hm := ho.block mb (Ne.symm h.qm)
  obtain ⟨v0, d0, _⟩ := h.rm (i * 5) (by omega)
  obtain ⟨v1, d1, _⟩ := h.rm (i * 5 + 1) (by omega)
  obtain ⟨v2, d2, _⟩ := h.rm (i * 5 + 2) (by omega)
  obtain ⟨v3, d3, _⟩ := h.rm (i * 5 + 3) (by omega)
  obtain ⟨v4, d4, _⟩ := h.rm (i * 5 + 4) (by omega)
  refine ⟨(World.cell?_of_block (a := ⟨p, 0, none⟩) hp).trans (by rw [List.length_set]; exact h.c0), (World.cell?_of_block (a := ⟨p, 1, none⟩) hp).trans h.c1, fun j => (World.frozen?_of_block (a := ⟨p, j, none⟩) hp).trans (h.fz j), fun k s hk => ?_, by rw [List.length_set]; exact ((((h.rm.set _).set _).set _).set _).set _, by rw [List.length_set]; exact h.cp, h.mp.of_block hm, fun s hs => ?_, h.pq, h.pm, h.qm, h.bp, h.bq, h.bm, by rw [ho.size]; exact h.lp, by rw [ho.size]; exact h.lq⟩
  · rw [Nat.zero_add]
    by_cases e : i = k
    · subst e
      rw [List.getElem?_set_self li] at hk
      obtain rfl := Option.some.inj hk
      exact SetAt.put y d0 d1 d2 d3 d4
    · rw [List.getElem?_set_ne e] at hk
      have := h.at_ k s hk
      rw [Nat.zero_add] at this
      exact ((((this.set (by omega) _).set (by omega) _).set (by omega) _).set (by omega) _).set (by omega) _
  · rcases List.mem_or_eq_of_mem_set hs with hs | rfl
    · exact h.ok s hs
    · exact hy
set_option maxRecDepth 100000 in
set_option maxHeartbeats 8000000 in
theorem seSwap_any (w : World) (base p q mb n cap : Nat) (xs : List S5) (i j : Nat) (x y : S5) (h : Pis w base p q mb n cap xs) (hn : n ≤ 100000) (hl : xs.length ≤ 1000) (hi : xs[i]? = some x) (hj : xs[j]? = some y) :
    Calls Try.prog 119 #[.pointer (some ⟨p, 0, none⟩), .int .i64 (i : Int), .int .i64 (j : Int)] w fun e w' => e = .returned (.tuple #[]) ∧ Pis w' base p q mb (n + 1 + 1) cap ((xs.set i y).set j x) ∧ KeptP (OfP p q mb) w w' := by
  have li := (List.getElem?_eq_some_iff.1 hi).1
  have lj := (List.getElem?_eq_some_iff.1 hj).1
  have ix : (i : Int) < (xs.length : Int) := by omega
  have jx : (j : Int) < (xs.length : Int) := by omega
  have hS : (fun X : World => X.cell? ⟨p, 0, none⟩ = some (.slice (some ⟨q, 0, none⟩) xs.length cap) ∧ SetAt X q (i * 5) x ∧ SetAt X q (j * 5) y) w.drew := ⟨h.c0, (show SetAt w q (i * 5) x by simpa using h.at_ i x hi).below ((Below.refl w.heap.size w).drew) h.lq, (show SetAt w q (j * 5) y by simpa using h.at_ j y hj).below ((Below.refl w.heap.size w).drew) h.lq⟩
  have rd : Room w.drew q (xs.length * 5) := h.rm
  have KH := hidOf h
  clear h
  go_enter Try.func119, Try.ntmps119
  go_upto_region 0 with fail
  refine wp_region_z (fun z => z == 25 || z == 27) (fun X : World => X.cell? ⟨p, 0, none⟩ = some (.slice (some ⟨q, 0, none⟩) xs.length cap) ∧ SetAt X q (i * 5) x ∧ SetAt X q (j * 5) y) (by kernel_rfl) ?_
  obtain ⟨v0, c0, f0⟩ := rd (i * 5) (by omega)
  obtain ⟨v1, c1, f1⟩ := rd (i * 5 + 1) (by omega)
  obtain ⟨v2, c2, f2⟩ := rd (i * 5 + 2) (by omega)
  obtain ⟨v3, c3, f3⟩ := rd (i * 5 + 3) (by omega)
  obtain ⟨v4, c4, f4⟩ := rd (i * 5 + 4) (by omega)
  generalize hWd : w.drew = Wd at *
  refine wpZ_takeP (i := 0) (v := ?_) rfl (by kernel_rfl) (fun _ _ _ h => h) (Or.inl ⟨by rfl, ?_⟩) hS ?_
  rotate_left
  · (intro w _; go_simp; first | done | with_reducible rfl | (rw [if_pos (by omega)]) | (rw [if_pos (by omega)]; go_simp))
  simp only [Act.put]
  refine wpZ_takeP (i := 1) (v := ?_) rfl (by kernel_rfl) (fun _ _ _ h => h) (Or.inl ⟨by rfl, ?_⟩) hS ?_
  rotate_left
  · (intro w _; go_simp; first | done | with_reducible rfl | (rw [if_pos (by omega)]) | (rw [if_pos (by omega)]; go_simp))
  simp only [Act.put]
  refine wpZ_takeP (i := 2) (v := ?_) rfl (by kernel_rfl) (fun _ _ _ h => h) (Or.inl ⟨by rfl, ?_⟩) hS ?_
  rotate_left
  · (intro w _; go_simp; first | done | with_reducible rfl | (rw [if_pos (by omega)]) | (rw [if_pos (by omega)]; go_simp))
  simp only [Act.put]
  refine wpZ_take (i := 3) (v := ?_) rfl (by kernel_rfl) (fun _ _ _ h => h) (Or.inl ⟨by rfl, ?_⟩) hS ?_
  rotate_left
  · (intro w hSw; obtain ⟨s0, ⟨a0, a1, a2, a3, a4⟩, ⟨b0, b1, b2, b3, b4⟩⟩ := hSw; go_simp; first | done | with_reducible rfl)
  simp only [Act.put]
  refine wpZ_takeP (i := 4) (v := ?_) rfl (by kernel_rfl) (fun _ _ _ h => h) (Or.inl ⟨by rfl, ?_⟩) hS ?_
  rotate_left
  · (intro w _; go_simp; first | done | with_reducible rfl | (rw [if_pos (by omega)]) | (rw [if_pos (by omega)]; go_simp))
  simp only [Act.put]
  refine wpZ_takeP (i := 5) (v := ?_) rfl (by kernel_rfl) (fun _ _ _ h => h) (Or.inl ⟨by rfl, ?_⟩) hS ?_
  rotate_left
  · (intro w _; go_simp; first | done | with_reducible rfl | (rw [if_pos (by omega)]) | (rw [if_pos (by omega)]; go_simp))
  simp only [Act.put]
  refine wpZ_takeP (i := 6) (v := ?_) rfl (by kernel_rfl) (fun _ _ _ h => h) (Or.inl ⟨by rfl, ?_⟩) hS ?_
  rotate_left
  · (intro w _; go_simp; first | done | with_reducible rfl | (rw [if_pos (by omega)]) | (rw [if_pos (by omega)]; go_simp))
  simp only [Act.put]
  refine wpZ_takeP (i := 7) (v := ?_) rfl (by kernel_rfl) (fun _ _ _ h => h) (Or.inl ⟨by rfl, ?_⟩) hS ?_
  rotate_left
  · (intro w _; go_simp; first | done | with_reducible rfl | (rw [if_pos (by omega)]) | (rw [if_pos (by omega)]; go_simp))
  simp only [Act.put]
  refine wpZ_take (i := 8) (v := ?_) rfl (by kernel_rfl) (fun _ _ _ h => h) (Or.inl ⟨by rfl, ?_⟩) hS ?_
  rotate_left
  · (intro w hSw; obtain ⟨s0, ⟨a0, a1, a2, a3, a4⟩, ⟨b0, b1, b2, b3, b4⟩⟩ := hSw; go_simp; first | done | with_reducible rfl)
  simp only [Act.put]
  refine wpZ_takeP (i := 9) (v := ?_) rfl (by kernel_rfl) (fun _ _ _ h => h) (Or.inl ⟨by rfl, ?_⟩) hS ?_
  rotate_left
  · (intro w _; go_simp; first | done | with_reducible rfl | (rw [if_pos (by omega)]) | (rw [if_pos (by omega)]; go_simp))
  simp only [Act.put]
  refine wpZ_takeP (i := 10) (v := ?_) rfl (by kernel_rfl) (fun _ _ _ h => h) (Or.inl ⟨by rfl, ?_⟩) hS ?_
  rotate_left
  · (intro w _; go_simp; first | done | with_reducible rfl | (rw [if_pos (by omega)]) | (rw [if_pos (by omega)]; go_simp))
  simp only [Act.put]
  refine wpZ_takeP (i := 11) (v := ?_) rfl (by kernel_rfl) (fun _ _ _ h => h) (Or.inl ⟨by rfl, ?_⟩) hS ?_
  rotate_left
  · (intro w _; go_simp; first | done | with_reducible rfl | (rw [if_pos (by omega)]) | (rw [if_pos (by omega)]; go_simp))
  simp only [Act.put]
  refine wpZ_takeP (i := 12) (v := ?_) rfl (by kernel_rfl) (fun _ _ _ h => h) (Or.inl ⟨by rfl, ?_⟩) hS ?_
  rotate_left
  · (intro w _; go_simp; first | done | with_reducible rfl | (rw [if_pos (by omega)]) | (rw [if_pos (by omega)]; go_simp))
  simp only [Act.put]
  refine wpZ_take (i := 13) (v := ?_) rfl (by kernel_rfl) (fun _ _ _ h => h) (Or.inl ⟨by rfl, ?_⟩) hS ?_
  rotate_left
  · (intro w hSw; obtain ⟨s0, ⟨a0, a1, a2, a3, a4⟩, ⟨b0, b1, b2, b3, b4⟩⟩ := hSw; go_simp; first | done | with_reducible rfl)
  simp only [Act.put]
  refine wpZ_takeP (i := 14) (v := ?_) rfl (by kernel_rfl) (fun _ _ _ h => h) (Or.inl ⟨by rfl, ?_⟩) hS ?_
  rotate_left
  · (intro w _; go_simp; first | done | with_reducible rfl | (rw [if_pos (by omega)]) | (rw [if_pos (by omega)]; go_simp))
  simp only [Act.put]
  refine wpZ_takeP (i := 15) (v := ?_) rfl (by kernel_rfl) (fun _ _ _ h => h) (Or.inl ⟨by rfl, ?_⟩) hS ?_
  rotate_left
  · (intro w _; go_simp; first | done | with_reducible rfl | (rw [if_pos (by omega)]) | (rw [if_pos (by omega)]; go_simp))
  simp only [Act.put]
  refine wpZ_take (i := 16) (v := ?_) rfl (by kernel_rfl) (fun _ _ _ h => h) (Or.inl ⟨by rfl, ?_⟩) hS ?_
  rotate_left
  · (intro w hSw; obtain ⟨s0, ⟨a0, a1, a2, a3, a4⟩, ⟨b0, b1, b2, b3, b4⟩⟩ := hSw; go_simp; first | done | with_reducible rfl)
  simp only [Act.put]
  refine wpZ_takeP (i := 17) (v := ?_) rfl (by kernel_rfl) (fun _ _ _ h => h) (Or.inl ⟨by rfl, ?_⟩) hS ?_
  rotate_left
  · (intro w _; go_simp; first | done | with_reducible rfl | (rw [if_pos (by omega)]) | (rw [if_pos (by omega)]; go_simp))
  simp only [Act.put]
  refine wpZ_takeP (i := 18) (v := ?_) rfl (by kernel_rfl) (fun _ _ _ h => h) (Or.inl ⟨by rfl, ?_⟩) hS ?_
  rotate_left
  · (intro w _; go_simp; first | done | with_reducible rfl | (rw [if_pos (by omega)]) | (rw [if_pos (by omega)]; go_simp))
  simp only [Act.put]
  refine wpZ_takeP (i := 19) (v := ?_) rfl (by kernel_rfl) (fun _ _ _ h => h) (Or.inl ⟨by rfl, ?_⟩) hS ?_
  rotate_left
  · (intro w _; go_simp; first | done | with_reducible rfl | (rw [if_pos (by omega)]) | (rw [if_pos (by omega)]; go_simp))
  simp only [Act.put]
  refine wpZ_take (i := 20) (v := ?_) rfl (by kernel_rfl) (fun _ _ _ h => h) (Or.inl ⟨by rfl, ?_⟩) hS ?_
  rotate_left
  · (intro w hSw; obtain ⟨s0, ⟨a0, a1, a2, a3, a4⟩, ⟨b0, b1, b2, b3, b4⟩⟩ := hSw; go_simp; first | done | with_reducible rfl)
  simp only [Act.put]
  refine wpZ_takeP (i := 21) (v := ?_) rfl (by kernel_rfl) (fun _ _ _ h => h) (Or.inl ⟨by rfl, ?_⟩) hS ?_
  rotate_left
  · (intro w _; go_simp; first | done | with_reducible rfl | (rw [if_pos (by omega)]) | (rw [if_pos (by omega)]; go_simp))
  simp only [Act.put]
  refine wpZ_takeP (i := 22) (v := ?_) rfl (by kernel_rfl) (fun _ _ _ h => h) (Or.inl ⟨by rfl, ?_⟩) hS ?_
  rotate_left
  · (intro w _; go_simp; first | done | with_reducible rfl | (rw [if_pos (by omega)]) | (rw [if_pos (by omega)]; go_simp))
  simp only [Act.put]
  refine wpZ_take (i := 23) (v := ?_) rfl (by kernel_rfl) (fun _ _ _ h => h) (Or.inl ⟨by rfl, ?_⟩) hS ?_
  rotate_left
  · (intro w hSw; obtain ⟨s0, ⟨a0, a1, a2, a3, a4⟩, ⟨b0, b1, b2, b3, b4⟩⟩ := hSw; go_simp; first | done | with_reducible rfl)
  simp only [Act.put]
  refine wpZ_takeP (i := 24) (v := ?_) rfl (by kernel_rfl) (fun _ _ _ h => h) (Or.inl ⟨by rfl, ?_⟩) hS ?_
  rotate_left
  · (intro w _; go_simp; first | done | with_reducible rfl | (rw [if_pos (by omega)]) | (rw [if_pos (by omega)]; go_simp))
  simp only [Act.put]
  refine wpZ_ready (rs := [25]) (by kernel_rfl) (by simp) ?_
  refine AllZ.cons rfl (fun K hK => ?_) AllZ.nil
  go_simp
  refine hK.out _ _ (fun h => absurd (show false = true from h.symm.trans (by kernel_rfl)) (by decide)) ?_
  clear hK K
  refine wpZ_ready (rs := [26]) (by kernel_rfl) (by simp) ?_
  refine AllZ.cons rfl (fun K hK => ?_) AllZ.nil
  go_simp
  refine hK.out _ _ (fun h => absurd (show false = true from h.symm.trans (by kernel_rfl)) (by decide)) ?_
  clear hK K
  have r1 : Room (((((Wd.setCell ⟨q, i * 5, none⟩ (.int .i64 y.region)).setCell ⟨q, i * 5 + 1, none⟩ (.int .i64 y.slot)).setCell ⟨q, i * 5 + 2, none⟩ (.int .i64 y.value)).setCell ⟨q, i * 5 + 3, none⟩ (.bool y.used)).setCell ⟨q, i * 5 + 4, none⟩ (.int .i64 y.version)) q (xs.length * 5) := ((((rd.set _).set _).set _).set _).set _
  generalize hW1 : (((((Wd.setCell ⟨q, i * 5, none⟩ (.int .i64 y.region)).setCell ⟨q, i * 5 + 1, none⟩ (.int .i64 y.slot)).setCell ⟨q, i * 5 + 2, none⟩ (.int .i64 y.value)).setCell ⟨q, i * 5 + 3, none⟩ (.bool y.used)).setCell ⟨q, i * 5 + 4, none⟩ (.int .i64 y.version)) = W1 at *
  obtain ⟨u0, e0, g0⟩ := r1 (j * 5) (by omega)
  obtain ⟨u1, e1, g1⟩ := r1 (j * 5 + 1) (by omega)
  obtain ⟨u2, e2, g2⟩ := r1 (j * 5 + 2) (by omega)
  obtain ⟨u3, e3, g3⟩ := r1 (j * 5 + 3) (by omega)
  obtain ⟨u4, e4, g4⟩ := r1 (j * 5 + 4) (by omega)
  refine wpZ_ready (rs := [27]) (by kernel_rfl) (by simp) ?_
  refine AllZ.cons rfl (fun K hK => ?_) AllZ.nil
  go_simp
  refine hK.out _ _ (fun h => absurd (show false = true from h.symm.trans (by kernel_rfl)) (by decide)) ?_
  clear hK K
  refine wpZ_done (by kernel_rfl) ?_ _
  have hj' : (xs.set i y)[j]? = some y := by
    by_cases e : i = j
    · subst e; rw [List.getElem?_set_self li]
    · rw [List.getElem?_set_ne e]; exact hj
  have PF : Pis (((((W1.setCell ⟨q, j * 5, none⟩ (.int .i64 x.region)).setCell ⟨q, j * 5 + 1, none⟩ (.int .i64 x.slot)).setCell ⟨q, j * 5 + 2, none⟩ (.int .i64 x.value)).setCell ⟨q, j * 5 + 3, none⟩ (.bool x.used)).setCell ⟨q, j * 5 + 4, none⟩ (.int .i64 x.version)) base p q mb n cap ((xs.set i y).set j x) := by
    rw [← hW1]
    exact ((KH.out.below_drew hWd).put5 hi y (KH.out.ok y (List.mem_of_getElem? hj))).put5 hj' x (KH.out.ok x (List.mem_of_getElem? hi))
  have KF : KeptP (OfP p q mb) w (((((W1.setCell ⟨q, j * 5, none⟩ (.int .i64 x.region)).setCell ⟨q, j * 5 + 1, none⟩ (.int .i64 x.slot)).setCell ⟨q, j * 5 + 2, none⟩ (.int .i64 x.value)).setCell ⟨q, j * 5 + 3, none⟩ (.bool x.used)).setCell ⟨q, j * 5 + 4, none⟩ (.int .i64 x.version)) := by
    rw [← hW1, ← hWd]
    exact (KeptP.of_below ((Below.refl w.heap.size w).drew)).trans (KeptP.of_only (c := q) (((((((((((OnlyBlock.refl q _).setCell _ _).setCell _ _).setCell _ _).setCell _ _).setCell _ _).setCell _ _).setCell _ _).setCell _ _).setCell _ _).setCell _ _) (.inr (.inl rfl)))
  obtain ⟨zi, hzi⟩ : ∃ z, ((xs.set i y).set j x)[i]? = some z := ⟨_, List.getElem?_eq_getElem (by simpa using li)⟩
  have hzj : ((xs.set i y).set j x)[j]? = some x := by rw [List.getElem?_set_self (by simpa using lj)]
  have hle : ((xs.set i y).set j x).length = xs.length := by simp
  have KH2 : Hid (KeptP (OfP p q mb) w (((((W1.setCell ⟨q, j * 5, none⟩ (.int .i64 x.region)).setCell ⟨q, j * 5 + 1, none⟩ (.int .i64 x.slot)).setCell ⟨q, j * 5 + 2, none⟩ (.int .i64 x.value)).setCell ⟨q, j * 5 + 3, none⟩ (.bool x.used)).setCell ⟨q, j * 5 + 4, none⟩ (.int .i64 x.version)) ∧ Pis (((((W1.setCell ⟨q, j * 5, none⟩ (.int .i64 x.region)).setCell ⟨q, j * 5 + 1, none⟩ (.int .i64 x.slot)).setCell ⟨q, j * 5 + 2, none⟩ (.int .i64 x.value)).setCell ⟨q, j * 5 + 3, none⟩ (.bool x.used)).setCell ⟨q, j * 5 + 4, none⟩ (.int .i64 x.version)) base p q mb n cap ((xs.set i y).set j x)) := ⟨KF, PF⟩
  clear KH PF KF hj' rd r1 c0 c1 c2 c3 c4 f0 f1 f2 f3 f4 e0 e1 e2 e3 e4 g0 g1 g2 g3 g4 hS hWd hW1 ix jx
  generalize (((((W1.setCell ⟨q, j * 5, none⟩ (.int .i64 x.region)).setCell ⟨q, j * 5 + 1, none⟩ (.int .i64 x.slot)).setCell ⟨q, j * 5 + 2, none⟩ (.int .i64 x.value)).setCell ⟨q, j * 5 + 3, none⟩ (.bool x.used)).setCell ⟨q, j * 5 + 4, none⟩ (.int .i64 x.version)) = V at *
  have KH := KH2
  clear KH2
  generalize hZS : (xs.set i y).set j x = zs at *
  have hln : zs.length = xs.length := hle
  have ix : (i : Int) < (zs.length : Int) := by omega
  have jx : (j : Int) < (zs.length : Int) := by omega
  rw [← hln] at li lj hl
  have HZ := hidOf hZS
  clear hle hi hj hZS hln Wd W1
  have helA := hzi
  have helB := hzj
  clear hzi hzj
  obtain ⟨hzA, hziA⟩ : ∃ hz : setOkB zi = true, V.heap.size = V.heap.size := ⟨KH.out.2.ok zi (List.mem_of_getElem? helA), rfl⟩
  have hkA := seOk_in hzA
  have hS : (fun X : World => X.cell? ⟨p, 0, none⟩ = some (.slice (some ⟨q, 0, none⟩) (zs).length cap) ∧ X.cell? ⟨p, 1, none⟩ = some (.map (some mb)) ∧ SetAt X q (i * 5) zi) V.drew := ⟨KH.out.2.c0, KH.out.2.c1, (show SetAt V q (i * 5) zi by simpa using KH.out.2.at_ i zi helA).below ((Below.refl V.heap.size V).drew) KH.out.2.lq⟩
  have hm : ∀ w : World, (method 247 36 (.agg #[.int .i64 zi.region, .int .i64 zi.slot, .int .i64 zi.value, .bool zi.used, .int .i64 zi.version]) "loop.example/g00153/impl.cell").run Try.prog w = .ok (57, .agg #[.int .i64 zi.region, .int .i64 zi.slot, .int .i64 zi.value, .bool zi.used, .int .i64 zi.version]) w := fun _ => by kernel_rfl
  go_upto_region 1 with fail
  refine wp_region_z (fun z => z == 14) (fun X : World => X.cell? ⟨p, 0, none⟩ = some (.slice (some ⟨q, 0, none⟩) (zs).length cap) ∧ X.cell? ⟨p, 1, none⟩ = some (.map (some mb)) ∧ SetAt X q (i * 5) zi) (by kernel_rfl) ?_
  have KD : Hid (Below V.heap.size V V.drew) := (Below.refl _ _).drew
  generalize V.drew = Wd at *
  refine wpZ_takeP (i := 0) (v := ?_) rfl (by kernel_rfl) (fun _ _ _ h => h) (Or.inl ⟨by rfl, ?_⟩) hS ?_
  rotate_left
  · (intro w _; go_simp; first | done | with_reducible rfl | (rw [if_pos (by omega)]) | (rw [if_pos (by omega)]; go_simp))
  simp only [Act.put]
  refine wpZ_takeP (i := 1) (v := ?_) rfl (by kernel_rfl) (fun _ _ _ h => h) (Or.inl ⟨by rfl, ?_⟩) hS ?_
  rotate_left
  · (intro w _; go_simp; first | done | with_reducible rfl | (rw [if_pos (by omega)]) | (rw [if_pos (by omega)]; go_simp))
  simp only [Act.put]
  refine wpZ_takeP (i := 2) (v := ?_) rfl (by kernel_rfl) (fun _ _ _ h => h) (Or.inl ⟨by rfl, ?_⟩) hS ?_
  rotate_left
  · (intro w _; go_simp; first | done | with_reducible rfl | (rw [if_pos (by omega)]) | (rw [if_pos (by omega)]; go_simp))
  simp only [Act.put]
  refine wpZ_take (i := 3) (v := ?_) rfl (by kernel_rfl) (fun _ _ _ h => h) (Or.inl ⟨by rfl, ?_⟩) hS ?_
  rotate_left
  · (intro w hSw; obtain ⟨s0, s1, ⟨a0, a1, a2, a3, a4⟩⟩ := hSw; go_simp; first | done | with_reducible rfl)
  simp only [Act.put]
  refine wpZ_takeP (i := 4) (v := ?_) rfl (by kernel_rfl) (fun _ _ _ h => h) (Or.inl ⟨by rfl, ?_⟩) hS ?_
  rotate_left
  · (intro w _; go_simp; first | done | with_reducible rfl | (rw [if_pos (by omega)]) | (rw [if_pos (by omega)]; go_simp))
  simp only [Act.put]
  refine wpZ_takeP (i := 5) (v := ?_) rfl (by kernel_rfl) (fun _ _ _ h => h) (Or.inl ⟨by rfl, ?_⟩) hS ?_
  rotate_left
  · (intro w _; go_simp; first | done | with_reducible rfl | (rw [if_pos (by omega)]) | (rw [if_pos (by omega)]; go_simp))
  simp only [Act.put]
  refine wpZ_takeP (i := 6) (v := ?_) rfl (by kernel_rfl) (fun _ _ _ h => h) (Or.inl ⟨by rfl, ?_⟩) hS ?_
  rotate_left
  · (intro w _; go_simp; first | done | with_reducible rfl | (rw [if_pos (by omega)]) | (rw [if_pos (by omega)]; go_simp))
  simp only [Act.put]
  refine wpZ_take (i := 7) (v := ?_) rfl (by kernel_rfl) (fun _ _ _ h => h) (Or.inl ⟨by rfl, ?_⟩) hS ?_
  rotate_left
  · (intro w hSw; obtain ⟨s0, s1, ⟨a0, a1, a2, a3, a4⟩⟩ := hSw; go_simp; first | done | with_reducible rfl)
  simp only [Act.put]
  refine wpZ_takeP (i := 8) (v := ?_) rfl (by kernel_rfl) (fun _ _ _ h => h) (Or.inl ⟨by rfl, ?_⟩) hS ?_
  rotate_left
  · (intro w _; go_simp; first | done | with_reducible rfl | (rw [if_pos (by omega)]) | (rw [if_pos (by omega)]; go_simp))
  simp only [Act.put]
  refine wpZ_takeP (i := 9) (v := ?_) rfl (by kernel_rfl) (fun _ _ _ h => h) (Or.inl ⟨by rfl, ?_⟩) hS ?_
  rotate_left
  · (intro w _; go_simp; first | done | with_reducible rfl | (rw [if_pos (by omega)]) | (rw [if_pos (by omega)]; go_simp))
  simp only [Act.put]
  refine wpZ_take (i := 10) (v := ?_) rfl (by kernel_rfl) (fun _ _ _ h => h) (Or.inl ⟨by rfl, ?_⟩) hS ?_
  rotate_left
  · (intro w hSw; obtain ⟨s0, s1, ⟨a0, a1, a2, a3, a4⟩⟩ := hSw; go_simp; first | done | with_reducible rfl)
  simp only [Act.put]
  refine wpZ_takeP (i := 11) (v := ?_) rfl (by kernel_rfl) (fun _ _ _ h => h) (Or.inl ⟨by rfl, ?_⟩) hS ?_
  rotate_left
  · (intro w _; go_simp; first | done | with_reducible rfl | (rw [if_pos (by omega)]) | (rw [if_pos (by omega)]; go_simp))
  simp only [Act.put]
  refine wpZ_takeP (i := 13) (v := ?_) rfl (by kernel_rfl) (fun _ _ _ h => h) (Or.inl ⟨by rfl, ?_⟩) hS ?_
  rotate_left
  · (intro w _; go_simp; first | done | with_reducible rfl | (rw [if_pos (by omega)]) | (rw [if_pos (by omega)]; go_simp))
  simp only [Act.put]
  refine wpZ_ready (rs := [12]) (by kernel_rfl) (by simp) ?_
  refine AllZ.cons rfl (fun K hK => ?_) AllZ.nil
  go_simp
  refine (seCell_any Wd zi).mono ?_
  rintro e X2 ⟨rfl, b2⟩
  have bX : Below V.heap.size V X2 := KD.out.trans (b2.mono KD.out.size)
  have P2 := KH.out.2.later bX
  obtain ⟨Y, hst, hmY, htY, hsY⟩ := P2.mp.store (by omega) hkA.1 hkA.2 i (by omega)
  have P3 := P2.turnM htY hmY hsY
  have KX : Hid (KeptP (OfP p q mb) w Y ∧ Pis Y base p q mb (n + 1) cap (zs)) := ⟨(KH.out.1.trans (KeptP.of_below bX)).trans (KeptP.of_turned htY (.inr (.inr rfl))), P3⟩
  simp only [cKey] at hst
  have hS2 : (fun X : World => X.cell? ⟨p, 0, none⟩ = some (.slice (some ⟨q, 0, none⟩) (zs).length cap) ∧ X.cell? ⟨p, 1, none⟩ = some (.map (some mb)) ∧ SetAt X q (i * 5) zi) X2 := ⟨P2.c0, P2.c1, by simpa using P2.at_ i zi helA⟩
  refine hK.out _ _ (fun _ => hS2) ?_
  clear hK K hS2 hS P2 P3 bX KD hmY htY hsY hm hzA hziA hkA KH b2
  refine wpZ_ready (rs := [14]) (by kernel_rfl) (by simp) ?_
  refine AllZ.cons rfl (fun K hK => ?_) AllZ.nil
  go_simp
  refine hK.out _ _ (fun h => absurd (show false = true from h.symm.trans (by kernel_rfl)) (by decide)) ?_
  clear hK K hst
  refine wpZ_done (by kernel_rfl) ?_ _
  have KH := KX
  clear KX
  generalize Y = V2 at *
  obtain ⟨hzB, hziB⟩ : ∃ hz : setOkB x = true, V2.heap.size = V2.heap.size := ⟨KH.out.2.ok x (List.mem_of_getElem? helB), rfl⟩
  have hkB := seOk_in hzB
  have hS : (fun X : World => X.cell? ⟨p, 0, none⟩ = some (.slice (some ⟨q, 0, none⟩) (zs).length cap) ∧ X.cell? ⟨p, 1, none⟩ = some (.map (some mb)) ∧ SetAt X q (j * 5) x) V2.drew := ⟨KH.out.2.c0, KH.out.2.c1, (show SetAt V2 q (j * 5) x by simpa using KH.out.2.at_ j x helB).below ((Below.refl V2.heap.size V2).drew) KH.out.2.lq⟩
  have hm : ∀ w : World, (method 247 36 (.agg #[.int .i64 x.region, .int .i64 x.slot, .int .i64 x.value, .bool x.used, .int .i64 x.version]) "loop.example/g00153/impl.cell").run Try.prog w = .ok (57, .agg #[.int .i64 x.region, .int .i64 x.slot, .int .i64 x.value, .bool x.used, .int .i64 x.version]) w := fun _ => by kernel_rfl
  go_upto_region 2 with fail
  refine wp_region_z (fun z => z == 14) (fun X : World => X.cell? ⟨p, 0, none⟩ = some (.slice (some ⟨q, 0, none⟩) (zs).length cap) ∧ X.cell? ⟨p, 1, none⟩ = some (.map (some mb)) ∧ SetAt X q (j * 5) x) (by kernel_rfl) ?_
  have KD : Hid (Below V2.heap.size V2 V2.drew) := (Below.refl _ _).drew
  generalize V2.drew = Wd at *
  refine wpZ_takeP (i := 0) (v := ?_) rfl (by kernel_rfl) (fun _ _ _ h => h) (Or.inl ⟨by rfl, ?_⟩) hS ?_
  rotate_left
  · (intro w _; go_simp; first | done | with_reducible rfl | (rw [if_pos (by omega)]) | (rw [if_pos (by omega)]; go_simp))
  simp only [Act.put]
  refine wpZ_takeP (i := 1) (v := ?_) rfl (by kernel_rfl) (fun _ _ _ h => h) (Or.inl ⟨by rfl, ?_⟩) hS ?_
  rotate_left
  · (intro w _; go_simp; first | done | with_reducible rfl | (rw [if_pos (by omega)]) | (rw [if_pos (by omega)]; go_simp))
  simp only [Act.put]
  refine wpZ_takeP (i := 2) (v := ?_) rfl (by kernel_rfl) (fun _ _ _ h => h) (Or.inl ⟨by rfl, ?_⟩) hS ?_
  rotate_left
  · (intro w _; go_simp; first | done | with_reducible rfl | (rw [if_pos (by omega)]) | (rw [if_pos (by omega)]; go_simp))
  simp only [Act.put]
  refine wpZ_take (i := 3) (v := ?_) rfl (by kernel_rfl) (fun _ _ _ h => h) (Or.inl ⟨by rfl, ?_⟩) hS ?_
  rotate_left
  · (intro w hSw; obtain ⟨s0, s1, ⟨a0, a1, a2, a3, a4⟩⟩ := hSw; go_simp; first | done | with_reducible rfl)
  simp only [Act.put]
  refine wpZ_takeP (i := 4) (v := ?_) rfl (by kernel_rfl) (fun _ _ _ h => h) (Or.inl ⟨by rfl, ?_⟩) hS ?_
  rotate_left
  · (intro w _; go_simp; first | done | with_reducible rfl | (rw [if_pos (by omega)]) | (rw [if_pos (by omega)]; go_simp))
  simp only [Act.put]
  refine wpZ_takeP (i := 5) (v := ?_) rfl (by kernel_rfl) (fun _ _ _ h => h) (Or.inl ⟨by rfl, ?_⟩) hS ?_
  rotate_left
  · (intro w _; go_simp; first | done | with_reducible rfl | (rw [if_pos (by omega)]) | (rw [if_pos (by omega)]; go_simp))
  simp only [Act.put]
  refine wpZ_takeP (i := 6) (v := ?_) rfl (by kernel_rfl) (fun _ _ _ h => h) (Or.inl ⟨by rfl, ?_⟩) hS ?_
  rotate_left
  · (intro w _; go_simp; first | done | with_reducible rfl | (rw [if_pos (by omega)]) | (rw [if_pos (by omega)]; go_simp))
  simp only [Act.put]
  refine wpZ_take (i := 7) (v := ?_) rfl (by kernel_rfl) (fun _ _ _ h => h) (Or.inl ⟨by rfl, ?_⟩) hS ?_
  rotate_left
  · (intro w hSw; obtain ⟨s0, s1, ⟨a0, a1, a2, a3, a4⟩⟩ := hSw; go_simp; first | done | with_reducible rfl)
  simp only [Act.put]
  refine wpZ_takeP (i := 8) (v := ?_) rfl (by kernel_rfl) (fun _ _ _ h => h) (Or.inl ⟨by rfl, ?_⟩) hS ?_
  rotate_left
  · (intro w _; go_simp; first | done | with_reducible rfl | (rw [if_pos (by omega)]) | (rw [if_pos (by omega)]; go_simp))
  simp only [Act.put]
  refine wpZ_takeP (i := 9) (v := ?_) rfl (by kernel_rfl) (fun _ _ _ h => h) (Or.inl ⟨by rfl, ?_⟩) hS ?_
  rotate_left
  · (intro w _; go_simp; first | done | with_reducible rfl | (rw [if_pos (by omega)]) | (rw [if_pos (by omega)]; go_simp))
  simp only [Act.put]
  refine wpZ_take (i := 10) (v := ?_) rfl (by kernel_rfl) (fun _ _ _ h => h) (Or.inl ⟨by rfl, ?_⟩) hS ?_
  rotate_left
  · (intro w hSw; obtain ⟨s0, s1, ⟨a0, a1, a2, a3, a4⟩⟩ := hSw; go_simp; first | done | with_reducible rfl)
  simp only [Act.put]
  refine wpZ_takeP (i := 11) (v := ?_) rfl (by kernel_rfl) (fun _ _ _ h => h) (Or.inl ⟨by rfl, ?_⟩) hS ?_
  rotate_left
  · (intro w _; go_simp; first | done | with_reducible rfl | (rw [if_pos (by omega)]) | (rw [if_pos (by omega)]; go_simp))
  simp only [Act.put]
  refine wpZ_takeP (i := 13) (v := ?_) rfl (by kernel_rfl) (fun _ _ _ h => h) (Or.inl ⟨by rfl, ?_⟩) hS ?_
  rotate_left
  · (intro w _; go_simp; first | done | with_reducible rfl | (rw [if_pos (by omega)]) | (rw [if_pos (by omega)]; go_simp))
  simp only [Act.put]
  refine wpZ_ready (rs := [12]) (by kernel_rfl) (by simp) ?_
  refine AllZ.cons rfl (fun K hK => ?_) AllZ.nil
  go_simp
  refine (seCell_any Wd x).mono ?_
  rintro e X2 ⟨rfl, b2⟩
  have bX : Below V2.heap.size V2 X2 := KD.out.trans (b2.mono KD.out.size)
  have P2 := KH.out.2.later bX
  obtain ⟨Y, hst, hmY, htY, hsY⟩ := P2.mp.store (by omega) hkB.1 hkB.2 j (by omega)
  have P3 := P2.turnM htY hmY hsY
  have KX : Hid (KeptP (OfP p q mb) w Y ∧ Pis Y base p q mb (n + 1 + 1) cap (zs)) := ⟨(KH.out.1.trans (KeptP.of_below bX)).trans (KeptP.of_turned htY (.inr (.inr rfl))), P3⟩
  simp only [cKey] at hst
  have hS2 : (fun X : World => X.cell? ⟨p, 0, none⟩ = some (.slice (some ⟨q, 0, none⟩) (zs).length cap) ∧ X.cell? ⟨p, 1, none⟩ = some (.map (some mb)) ∧ SetAt X q (j * 5) x) X2 := ⟨P2.c0, P2.c1, by simpa using P2.at_ j x helB⟩
  refine hK.out _ _ (fun _ => hS2) ?_
  clear hK K hS2 hS P2 P3 bX KD hmY htY hsY hm hzB hziB hkB KH b2
  refine wpZ_ready (rs := [14]) (by kernel_rfl) (by simp) ?_
  refine AllZ.cons rfl (fun K hK => ?_) AllZ.nil
  go_simp
  refine hK.out _ _ (fun h => absurd (show false = true from h.symm.trans (by kernel_rfl)) (by decide)) ?_
  clear hK K hst
  refine wpZ_done (by kernel_rfl) ?_ _
  have KH := KX
  clear KX
  go_wp2
  refine bodyPost_end (v := .tuple #[]) (by simp [results, Try.results119, go_sem]) rfl ⟨rfl, by rw [HZ.out]; exact KH.out.2, KH.out.1⟩
end Go.Proofs.Ytiidlcjjaglkdaa