/- PutS; POfS; ChkS; OwnTi; OwnTs; AddS; AseS: joined. -/
import Derived.Test.YtiidlcjjaglkdaaRows
import Derived.Test.YtiidlcjjaglkdaaJ4LawWanted
import Derived.WalkKit
import Derived.WalkSpells
import Derived.WalkLawsBesides
import Derived.Below
import Derived.Lib.QuietBelow
import Derived.BigQuiet
import Derived.Deep.CutRange
import Derived.Test.YtiidlcjjaglkdaaJ1LawWanted
import Derived.Deep.Upon
import Derived.Test.YtiidlcjjaglkdaaJ3LawWanted
namespace Go.Proofs.Ytiidlcjjaglkdaa
open Go.RowKit
open Go.Sort (grow)
def seW (xs : List S5) (r s : Int) : Option Nat := xs.findIdx? fun x => decide (x.region = r) && decide (x.slot = s)
theorem seW_snoc {xs : List S5} {x : S5} (h : seW xs x.region x.slot = none) : seW (xs ++ [x]) = putF (seW xs) x.region x.slot xs.length := by
  funext r s
  unfold seW putF
  rw [List.findIdx?_append]
  by_cases e : r = x.region ∧ s = x.slot
  · obtain ⟨rfl, rfl⟩ := e
    unfold seW at h
    rw [h]
    simp [List.findIdx?_cons]
  · rw [if_neg e]
    have : [x].findIdx? (fun x => decide (x.region = r) && decide (x.slot = s)) = none := by
      simp [List.findIdx?_cons]
      intro h1 h2
      exact e ⟨h1.symm, h2.symm⟩
    rw [this]
    simp
theorem seW_none {xs : List S5} {r s : Int} : seW xs r s = none ↔ ∀ x ∈ xs, ¬ (x.region = r ∧ x.slot = s) := by
  unfold seW
  rw [List.findIdx?_eq_none_iff]
  constructor
  · intro h x hx e; have := h x hx; simp [e.1, e.2] at this
  · intro h x hx
    have := h x hx
    simp only [Bool.and_eq_false_iff, decide_eq_false_iff_not]
    by_cases e : x.region = r
    · exact .inr (fun e' => this ⟨e, e'⟩)
    · exact .inl e
structure PisB (W : World) (base p mb n : Nat) (v : Value) (xs : List S5) : Prop where
  c0 : W.cell? ⟨p, 0, none⟩ = some v
  c1 : W.cell? ⟨p, 1, none⟩ = some (.map (some mb))
  fz : ∀ j, W.frozen? ⟨p, j, none⟩ = false
  row : RowS W base v xs
  mp : MapF W mb n (seW xs)
  ok : ∀ s ∈ xs, setOkB s = true
  vp : v.ownBlock ≠ some p
  vm : v.ownBlock ≠ some mb
  pm : p ≠ mb
  bp : base ≤ p
  bm : base ≤ mb
  lp : p < W.heap.size
theorem PisB.later {W V : World} {base p mb n : Nat} {v : Value} {xs : List S5} (h : PisB W base p mb n v xs) (hb : Below W.heap.size W V) : PisB V base p mb n v xs :=
  ⟨(hb.cell (p := ⟨p, 0, none⟩) h.lp).trans h.c0, (hb.cell (p := ⟨p, 1, none⟩) h.lp).trans h.c1, fun j => (hb.frozen (p := ⟨p, j, none⟩) h.lp).trans (h.fz j), h.row.later hb, h.mp.later hb, h.ok, h.vp, h.vm, h.pm, h.bp, h.bm, Nat.lt_of_lt_of_le h.lp hb.size⟩
theorem PisB.pil {W : World} {base p mb n : Nat} {v : Value} {xs : List S5} (h : PisB W base p mb n v xs) (hx : xs ≠ []) : ∃ q cap, v = .slice (some ⟨q, 0, none⟩) xs.length cap ∧ Pis W base p q mb n cap xs := by
  obtain ⟨a, c, e, ho⟩ := h.row.form
  rcases ho with ho | ⟨q, rfl, hq, hl, ha, hr⟩
  · exact absurd ho hx
  · refine ⟨q, c, e, ⟨by rw [← e]; exact h.c0, h.c1, h.fz, ha, hr, ?_, h.mp.any, h.ok, fun e' => h.vp (by rw [hq, e']), h.pm, fun e' => h.vm (by rw [hq, e']), h.bp, (h.row.lt hq).1, h.bm, h.lp, hl⟩⟩
    rcases h.row.2 with ⟨h0, _⟩ | ⟨q', cap', cur, h0, _, _, hc, _⟩
    · rw [h0] at e; cases e
    · rw [h0] at e; cases e; exact hc
set_option maxHeartbeats 4000000 in
theorem seLiftStay (w : World) (base p q mb n cap : Nat) (xs : List S5) (c : Nat) (h : Pis w base p q mb n cap xs) (hl : xs.length ≤ 1000) (hc : c < xs.length) (hs : c = 0 ∨ seK xs ((c - 1) / 2) ≤ seK xs c) :
    Calls Try.prog 101 #[.pointer (some ⟨p, 0, none⟩), .int .i64 (c : Int)] w fun e w' => e = .returned (.tuple #[]) ∧ Below w.heap.size w w' := by
  have H := hidOf h
  clear h
  go_enter Try.func101, Try.ntmps101
  go_wp2
  go_loopw [1] (fun v wr => v = .int .i64 (c : Int) ∧ wr = w) (fun _ _ => 0)
  case atStart => exact ⟨rfl, rfl⟩
  case round =>
    obtain ⟨rfl, rfl⟩ := hrel
    rcases c with _ | e
    · have d0 : decide ((0 : Int) < ((0 : Nat) : Int)) = false := by simp
      go_wp2
      refine bodyPost_end (v := .tuple #[]) (by simp [results, Try.results101, go_sem]) rfl ⟨rfl, Below.refl _ _⟩
    · have d0 : decide ((0 : Int) < ((e + 1 : Nat) : Int)) = true := by simp
      obtain ⟨x, hx⟩ : ∃ x, xs[e + 1]? = some x := ⟨_, List.getElem?_eq_getElem (by omega)⟩
      obtain ⟨y, hy⟩ : ∃ y, xs[e / 2]? = some y := ⟨_, List.getElem?_eq_getElem (by omega)⟩
      have c1 := seLess_any wr base p q mb n cap xs (e + 1) (e / 2) x y H.out hx hy
      rw [(seK_at hx).symm, (seK_at hy).symm] at c1
      have dl : decide (seK xs (e + 1) < seK xs (e / 2)) = false := by
        have := hs.resolve_left (by omega)
        rw [show (e + 1 - 1) / 2 = e / 2 by omega] at this
        simpa using this
      rw [dl] at c1
      have ea : ((e + 1 : Nat) : Int) = (e : Int) + 1 := by omega
      have eb : ((e / 2 : Nat) : Int) = (e : Int) / 2 := by omega
      rw [ea, eb] at c1
      clear dl ea eb hx hy hs
      go_wp2_with fail
      refine c1.mono ?_
      clear c1
      rintro e' w1 ⟨rfl, b1⟩
      have KB := hidOf b1
      clear b1
      go_wp2
      refine bodyPost_ret (v := .tuple #[]) (by simp [results, Try.results101, go_sem]) rfl ⟨rfl, KB.out⟩
set_option maxRecDepth 100000 in
set_option maxHeartbeats 8000000 in
theorem sePutLast (w : World) (base p mb n : Nat) (v : Value) (xs : List S5) (x : S5) (h : PisB w base p mb n v xs) (hn : n ≤ 1000) (hl : xs.length ≤ 100) (hok : setOkB x = true) (hno : seW xs x.region x.slot = none) (hbs : base ≤ w.heap.size) (hs : xs = [] ∨ seK (xs ++ [x]) ((xs.length - 1) / 2) ≤ seK (xs ++ [x]) xs.length) :
    Calls Try.prog 59 #[.pointer (some ⟨p, 0, none⟩), .agg #[.int .i64 x.region, .int .i64 x.slot, .int .i64 x.value, .bool x.used, .int .i64 x.version]] w fun e w' => e = .returned (.tuple #[]) ∧ ∃ v', PisB w' base p mb (n + 1) v' (xs ++ [x]) ∧ Below base w w' := by
  obtain ⟨W0, hW0⟩ : ∃ W, W = w.alloc (.cells #[.int .i64 x.region, .int .i64 x.slot, .int .i64 x.value, .bool x.used, .int .i64 x.version] 36) := ⟨_, rfl⟩
  have b0 : Below w.heap.size w W0 := by rw [hW0]; exact (Below.refl _ _).alloc (Nat.le_refl _) _
  have z0 : W0.heap.size = w.heap.size + 1 := by rw [hW0]; simp
  have x0 : SetAt W0 w.heap.size 0 x := by rw [hW0]; exact SetAt.box w x _
  have h0 := h.later b0
  have hk := seOk_in hok
  have hpw : p < w.heap.size := h.lp
  have hmw : mb < w.heap.size := h.mp.lt
  have lk : ∀ d os, (Instr.lookup 103 (.map (some mb)) (cKey x.region x.slot) true).run Try.prog (grow (redrawn W0 d) os) = .ok (.tuple #[.int .i64 0, .bool false]) (grow (redrawn W0 d) os) := fun d os => by
    have hu := ((h0.mp).later (below_regrown W0 d os)).look hk.1 hk.2
    rw [hno] at hu
    exact hu
  have lift : ∀ {b o : Nat} {u : Value}, b < W0.heap.size → W0.cell? ⟨b, o, none⟩ = some u → ∀ d os, (grow (redrawn W0 d) os).cell? ⟨b, o, none⟩ = some u := fun {b o u} hb hh d os => ((below_regrown W0 d os).cell (p := ⟨b, o, none⟩) hb).trans hh
  have m1 := lift (by omega) h0.c1
  have t0 := lift (by omega) x0.c0
  have t1 := lift (by omega) x0.c1
  have t2 := lift (by omega) x0.c2
  have t3 := lift (by omega) x0.c3
  have t4 := lift (by omega) x0.c4
  have cC : ∀ d os, Calls Try.prog 57 #[.agg #[.int .i64 x.region, .int .i64 x.slot, .int .i64 x.value, .bool x.used, .int .i64 x.version]] (grow (redrawn W0 d) os) fun e w'' => e = .returned (.agg #[.int .i64 x.region, .int .i64 x.slot]) ∧ ∃ p : Regrown, w'' = grow (redrawn W0 p.d) p.os := fun d os => Calls.regrown_of (seCell_any _ _)
  have hm : ∀ w : World, (method 247 36 (.agg #[.int .i64 x.region, .int .i64 x.slot, .int .i64 x.value, .bool x.used, .int .i64 x.version]) "loop.example/g00153/impl.cell").run Try.prog w = .ok (57, .agg #[.int .i64 x.region, .int .i64 x.slot, .int .i64 x.value, .bool x.used, .int .i64 x.version]) w := fun _ => by kernel_rfl
  have H : Hid (PisB W0 base p mb n v xs ∧ SetAt W0 w.heap.size 0 x ∧ Below w.heap.size w W0 ∧ W0.heap.size = w.heap.size + 1 ∧ base ≤ w.heap.size ∧ seW xs x.region x.slot = none ∧ setOkB x = true ∧ v.ownBlock ≠ some w.heap.size) := ⟨h0, x0, b0, z0, hbs, hno, hok, fun e => by have := (h.row.lt e).2; omega⟩
  have HS := hidOf hs
  clear h h0 x0 b0 z0 hbs hno hok hs lift
  simp only [cKey, Nat.zero_add] at lk t0 t1 t2 t3 t4
  go_enter Try.func59, Try.ntmps59
  go_wp2_with fail
  rw [← hW0]
  clear hW0
  refine wp_region_quiet_below (by kernel_rfl) (by kernel_rfl) ?_
  repeat (go_big_quiet_step (exact cC _ _))
  refine wpQuiet_nil ?_
  intro _ hw'
  obtain ⟨⟨dq', osq⟩, hw''⟩ := hw'
  subst hw''
  have bq := below_regrown W0 dq' osq
  have K1 : Hid (PisB (grow (redrawn W0 dq') osq) base p mb n v xs ∧ SetAt (grow (redrawn W0 dq') osq) w.heap.size 0 x ∧ Below w.heap.size w (grow (redrawn W0 dq') osq) ∧ w.heap.size < (grow (redrawn W0 dq') osq).heap.size) := by
    obtain ⟨g1, g2, g3, g4, _⟩ := H.out
    have := bq.size
    exact ⟨g1.later bq, g2.below bq (by omega), g3.trans (bq.mono g3.size), by omega⟩
  clear bq m1 t0 t1 t2 t3 t4 cC lk
  obtain ⟨av, ac, hav, -⟩ := K1.out.1.row.form
  have m0 := K1.out.1.c0
  rw [hav] at m0
  have HV := hidOf hav
  clear hav
  go_upto_region 5 with fail
  clear m0
  generalize grow (redrawn W0 dq') osq = W1 at *
  have hS : (fun X : World => X.cell? ⟨p, 0, none⟩ = some v ∧ SetAt X w.heap.size 0 x) W1.drew := ⟨K1.out.1.c0, K1.out.2.1.below ((Below.refl W1.heap.size W1).drew) K1.out.2.2.2⟩
  refine wp_region_z (fun z => z == 10) (fun X : World => X.cell? ⟨p, 0, none⟩ = some v ∧ SetAt X w.heap.size 0 x) (by kernel_rfl) ?_
  have KD : Hid (Below W1.heap.size W1 W1.drew) := (Below.refl _ _).drew
  generalize W1.drew = Wd at *
  refine wpZ_takeP (i := 0) (v := ?_) rfl (by kernel_rfl) (fun _ _ _ h => h) (Or.inl ⟨by rfl, ?_⟩) hS ?_
  rotate_left
  · (intro w _; go_simp; first | done | with_reducible rfl | (rw [if_pos (by omega)]) | (rw [if_pos (by omega)]; go_simp))
  simp only [Act.put]
  refine wpZ_takeP (i := 1) (v := ?_) rfl (by kernel_rfl) (fun _ _ _ h => h) (Or.inl ⟨by rfl, ?_⟩) hS ?_
  rotate_left
  · (intro w _; go_simp; first | done | with_reducible rfl | (rw [if_pos (by omega)]) | (rw [if_pos (by omega)]; go_simp))
  simp only [Act.put]
  refine wpZ_takeP (i := 2) (v := ?_) rfl (by kernel_rfl) (fun _ _ _ h => h) (Or.inl ⟨by rfl, ?_⟩) hS ?_
  rotate_left
  · (intro w _; go_simp; first | done | with_reducible rfl | (rw [if_pos (by omega)]) | (rw [if_pos (by omega)]; go_simp))
  simp only [Act.put]
  refine wpZ_takeP (i := 3) (v := ?_) rfl (by kernel_rfl) (fun _ _ _ h => h) (Or.inl ⟨by rfl, ?_⟩) hS ?_
  rotate_left
  · (intro w _; go_simp; first | done | with_reducible rfl | (rw [if_pos (by omega)]) | (rw [if_pos (by omega)]; go_simp))
  simp only [Act.put]
  refine wpZ_take (i := 4) (v := ?_) rfl (by kernel_rfl) (fun _ _ _ h => h) (Or.inl ⟨by rfl, ?_⟩) hS ?_
  rotate_left
  · (intro w hSw; obtain ⟨s0, ⟨a0, a1, a2, a3, a4⟩⟩ := hSw; go_simp; first | done | with_reducible rfl)
  simp only [Act.put]
  refine wpZ_take (i := 5) (v := ?_) rfl (by kernel_rfl) (fun _ _ _ h => h) (Or.inl ⟨by rfl, ?_⟩) hS ?_
  rotate_left
  · (intro w hSw; obtain ⟨s0, ⟨a0, a1, a2, a3, a4⟩⟩ := hSw; go_simp; first | done | with_reducible rfl)
  simp only [Act.put]
  obtain ⟨V, hV⟩ : ∃ V, V = Wd.alloc (.cells #[.int .i64 x.region, .int .i64 x.slot, .int .i64 x.value, .bool x.used, .int .i64 x.version] 36) := ⟨_, rfl⟩
  have bV : Below Wd.heap.size Wd V := by rw [hV]; exact (Below.refl _ _).alloc (Nat.le_refl _) _
  have bWV : Below W1.heap.size W1 V := KD.out.trans (bV.mono KD.out.size)
  have hone : SetsAt V Wd.heap.size 0 [x] := by rw [hV]; exact (SetAt.box Wd _ _).one
  have hB1 := (K1.out.1.later bWV)
  obtain ⟨v5, Y5, hr, hrow5, hgr, hlies⟩ := pushSe hB1.row [x] (by simp; omega) 25 Wd.heap.size 0 1 hone (by have := hB1.bp; have := hB1.lp; omega)
  obtain ⟨a5, k5, rfl⟩ : ∃ a5 k5, v5 = Value.slice a5 (xs.length + 1) k5 := by
    obtain ⟨a5, k5, e5, -⟩ := hrow5.form
    exact ⟨a5, k5, by simpa using e5⟩
  have hwsz : w.heap.size < V.heap.size := Nat.lt_of_lt_of_le K1.out.2.2.2 bWV.size
  have hSV : (fun X : World => X.cell? ⟨p, 0, none⟩ = some v ∧ SetAt X w.heap.size 0 x) V := ⟨hB1.c0, K1.out.2.1.below bWV K1.out.2.2.2⟩
  have kb : ∀ b, b < V.heap.size → v.ownBlock ≠ some b → Y5.heap[b]? = V.heap[b]? := fun b hb hne => hgr.block b hb (fun e => hne e.symm)
  have hSY : (fun X : World => X.cell? ⟨p, 0, none⟩ = some v ∧ SetAt X w.heap.size 0 x) Y5 := ⟨(World.cell?_of_block (a := ⟨p, 0, none⟩) (kb p hB1.lp hB1.vp)).trans hB1.c0, SetAt.of_blk hSV.2 (kb _ hwsz H.out.2.2.2.2.2.2.2)⟩
  have own5 : ∀ b, b < V.heap.size → v.ownBlock ≠ some b → (Value.slice a5 (xs.length + 1) k5).ownBlock ≠ some b := fun b hb hne e => by
    rcases hlies with h | h
    · rw [h] at e; exact hne e
    · rw [h] at e; cases e; omega
  have K5 : Hid (RowS Y5 base (Value.slice a5 (xs.length + 1) k5) (xs ++ [x]) ∧ Y5.cell? ⟨p, 0, none⟩ = some v ∧ Y5.cell? ⟨p, 1, none⟩ = some (.map (some mb)) ∧ (∀ j, Y5.frozen? ⟨p, j, none⟩ = false) ∧ MapF Y5 mb n (seW xs) ∧ (Value.slice a5 (xs.length + 1) k5).ownBlock ≠ some p ∧ (Value.slice a5 (xs.length + 1) k5).ownBlock ≠ some mb ∧ p < Y5.heap.size ∧ Below base w Y5 ∧ SetAt Y5 w.heap.size 0 x ∧ w.heap.size < Y5.heap.size ∧ (Value.slice a5 (xs.length + 1) k5).ownBlock ≠ some w.heap.size ∧ mb < V.heap.size) := by
    have hp5 := kb p hB1.lp hB1.vp
    have hm5 := kb mb hB1.mp.lt hB1.vm
    have bwV : Below base w V := (K1.out.2.2.1.mono H.out.2.2.2.2.1).trans (bWV.mono (by have := K1.out.1.bp; have := K1.out.1.lp; omega))
    refine ⟨hrow5, hSY.1, (World.cell?_of_block (a := ⟨p, 1, none⟩) hp5).trans hB1.c1, fun j => (World.frozen?_of_block (a := ⟨p, j, none⟩) hp5).trans (hB1.fz j), hB1.mp.of_block hm5, own5 p hB1.lp hB1.vp, own5 mb hB1.mp.lt hB1.vm, Nat.lt_of_lt_of_le hB1.lp hgr.size, ?_, hSY.2, Nat.lt_of_lt_of_le hwsz hgr.size, own5 _ hwsz H.out.2.2.2.2.2.2.2, hB1.mp.lt⟩
    exact bwV.grown hgr (by have := hB1.bp; have := hB1.lp; omega) (fun b e => (hB1.row.lt e).1)
  rw [hV] at hr
  have f0 := K5.out.2.2.2.1 0
  have e0 := K5.out.2.1
  simp only [List.length_cons, List.length_nil, Nat.zero_add] at hr
  refine wpZ_ready (rs := [6]) (by kernel_rfl) (by simp) ?_
  refine AllZ.cons rfl (fun K hK => ?_) AllZ.nil
  go_simp
  refine hK.out _ _ (fun _ => by rw [← hV]; exact hSV) ?_
  clear hK K
  refine wpZ_ready (rs := [7]) (by kernel_rfl) (by simp) ?_
  refine AllZ.cons rfl (fun K hK => ?_) AllZ.nil
  refine step_known _ rfl (.tmp 34) (.tmp 36) 25 rfl _ _ _ _ (by first | rfl | simp [Act.eval, Act.put]) (by first | rfl | simp [Act.eval, Act.put]) hr ?_
  refine hK.out _ _ (fun _ => hSY) ?_
  clear hK K hr
  simp only [Act.put]
  refine wpZ_takeP (i := 8) (v := ?_) rfl (by kernel_rfl) (fun _ _ _ h => h) (Or.inl ⟨by rfl, ?_⟩) hSY ?_
  rotate_left
  · (intro w _; go_simp; first | done | with_reducible rfl | (rw [if_pos (by omega)]) | (rw [if_pos (by omega)]; go_simp))
  simp only [Act.put]
  refine wpZ_takeP (i := 9) (v := ?_) rfl (by kernel_rfl) (fun _ _ _ h => h) (Or.inl ⟨by rfl, ?_⟩) hSY ?_
  rotate_left
  · (intro w _; go_simp; first | done | with_reducible rfl | (rw [if_pos (by omega)]) | (rw [if_pos (by omega)]; go_simp))
  simp only [Act.put]
  refine wpZ_ready (rs := [10]) (by kernel_rfl) (by simp) ?_
  refine AllZ.cons rfl (fun K hK => ?_) AllZ.nil
  go_simp
  refine hK.out _ _ (fun h => absurd (show false = true from h.symm.trans (by kernel_rfl)) (by decide)) ?_
  clear hK K
  refine wpZ_done (by kernel_rfl) ?_ _
  have KU : Hid (SetAt (Y5.setCell ⟨p, 0, none⟩ (Value.slice a5 (xs.length + 1) k5)) w.heap.size 0 x ∧ RowS (Y5.setCell ⟨p, 0, none⟩ (Value.slice a5 (xs.length + 1) k5)) base (Value.slice a5 (xs.length + 1) k5) (xs ++ [x]) ∧ (Y5.setCell ⟨p, 0, none⟩ (Value.slice a5 (xs.length + 1) k5)).cell? ⟨p, 0, none⟩ = some (Value.slice a5 (xs.length + 1) k5) ∧ (Y5.setCell ⟨p, 0, none⟩ (Value.slice a5 (xs.length + 1) k5)).cell? ⟨p, 1, none⟩ = some (.map (some mb)) ∧ (∀ j, (Y5.setCell ⟨p, 0, none⟩ (Value.slice a5 (xs.length + 1) k5)).frozen? ⟨p, j, none⟩ = false) ∧ MapF (Y5.setCell ⟨p, 0, none⟩ (Value.slice a5 (xs.length + 1) k5)) mb n (seW xs) ∧ (Value.slice a5 (xs.length + 1) k5).ownBlock ≠ some p ∧ (Value.slice a5 (xs.length + 1) k5).ownBlock ≠ some mb ∧ p < (Y5.setCell ⟨p, 0, none⟩ (Value.slice a5 (xs.length + 1) k5)).heap.size ∧ Below base w (Y5.setCell ⟨p, 0, none⟩ (Value.slice a5 (xs.length + 1) k5)) ∧ w.heap.size < (Y5.setCell ⟨p, 0, none⟩ (Value.slice a5 (xs.length + 1) k5)).heap.size ∧ (Value.slice a5 (xs.length + 1) k5).ownBlock ≠ some w.heap.size) := by
    obtain ⟨g1, g2, g3, g4, g5, g6, g7, g8, g9, g10, g11, g12, g13⟩ := K5.out
    have bp := K1.out.1.bp
    have far : ∀ b, b ≠ p → (Y5.setCell ⟨p, 0, none⟩ (Value.slice a5 (xs.length + 1) k5)).heap[b]? = Y5.heap[b]? := fun b hb => Below.heap_setCell _ _ _ _ hb
    refine ⟨SetAt.of_blk g10 (far _ (by omega)), g1.keep (fun b _ _ e => far b (fun e' => g6 (by rw [e, e']))), cell_set_same g2, (cell_set_other (by omega)).trans g3, fun j => by rw [World.frozen?_setCell]; exact g4 j, g5.of_block (far mb (fun e => K1.out.1.pm e.symm)), g6, g7, by simpa [World.setCell] using g8, g9.setCell (p := ⟨p, 0, none⟩) bp _, by simpa [World.setCell] using g11, g12⟩
  clear K5 hS hSV hSY kb own5 hgr hlies hrow5 hB1 hone bWV bV hV V hwsz f0 e0 KD
  generalize Y5.setCell ⟨p, 0, none⟩ (Value.slice a5 (xs.length + 1) k5) = W5 at *
  clear Y5
  have hS : (fun X : World => X.cell? ⟨p, 1, none⟩ = some (.map (some mb)) ∧ SetAt X w.heap.size 0 x) W5.drew := ⟨KU.out.2.2.2.1, KU.out.1.below ((Below.refl W5.heap.size W5).drew) KU.out.2.2.2.2.2.2.2.2.2.2.1⟩
  go_upto_region 6 with fail
  refine wp_region_z (fun z => z == 8) (fun X : World => X.cell? ⟨p, 1, none⟩ = some (.map (some mb)) ∧ SetAt X w.heap.size 0 x) (by kernel_rfl) ?_
  have KD : Hid (Below W5.heap.size W5 W5.drew) := (Below.refl _ _).drew
  generalize W5.drew = We at *
  refine wpZ_takeP (i := 0) (v := ?_) rfl (by kernel_rfl) (fun _ _ _ h => h) (Or.inl ⟨by rfl, ?_⟩) hS ?_
  rotate_left
  · (intro w _; go_simp; first | done | with_reducible rfl | (rw [if_pos (by omega)]) | (rw [if_pos (by omega)]; go_simp))
  simp only [Act.put]
  refine wpZ_takeP (i := 1) (v := ?_) rfl (by kernel_rfl) (fun _ _ _ h => h) (Or.inl ⟨by rfl, ?_⟩) hS ?_
  rotate_left
  · (intro w _; go_simp; first | done | with_reducible rfl | (rw [if_pos (by omega)]) | (rw [if_pos (by omega)]; go_simp))
  simp only [Act.put]
  refine wpZ_takeP (i := 2) (v := ?_) rfl (by kernel_rfl) (fun _ _ _ h => h) (Or.inl ⟨by rfl, ?_⟩) hS ?_
  rotate_left
  · (intro w _; go_simp; first | done | with_reducible rfl | (rw [if_pos (by omega)]) | (rw [if_pos (by omega)]; go_simp))
  simp only [Act.put]
  refine wpZ_take (i := 3) (v := ?_) rfl (by kernel_rfl) (fun _ _ _ h => h) (Or.inl ⟨by rfl, ?_⟩) hS ?_
  rotate_left
  · (intro w hSw; obtain ⟨s0, ⟨a0, a1, a2, a3, a4⟩⟩ := hSw; go_simp; first | done | with_reducible rfl)
  simp only [Act.put]
  refine wpZ_take (i := 4) (v := ?_) rfl (by kernel_rfl) (fun _ _ _ h => h) (Or.inl ⟨by rfl, ?_⟩) hS ?_
  rotate_left
  · (intro w hSw; obtain ⟨s0, ⟨a0, a1, a2, a3, a4⟩⟩ := hSw; go_simp; first | done | with_reducible rfl)
  simp only [Act.put]
  refine wpZ_takeP (i := 5) (v := ?_) rfl (by kernel_rfl) (fun _ _ _ h => h) (Or.inl ⟨by rfl, ?_⟩) hS ?_
  rotate_left
  · (intro w _; go_simp; first | done | with_reducible rfl | (rw [if_pos (by omega)]) | (rw [if_pos (by omega)]; go_simp))
  simp only [Act.put]
  refine wpZ_takeP (i := 7) (v := ?_) rfl (by kernel_rfl) (fun _ _ _ h => h) (Or.inl ⟨by rfl, ?_⟩) hS ?_
  rotate_left
  · (intro w _; go_simp; first | done | with_reducible rfl | (rw [if_pos (by omega)]) | (rw [if_pos (by omega)]; go_simp))
  simp only [Act.put]
  refine wpZ_ready (rs := [6]) (by kernel_rfl) (by simp) ?_
  refine AllZ.cons rfl (fun K hK => ?_) AllZ.nil
  go_simp
  refine (seCell_any We x).mono ?_
  rintro e X2 ⟨rfl, b2⟩
  have bX : Below W5.heap.size W5 X2 := KD.out.trans (b2.mono KD.out.size)
  obtain ⟨Y, hst, hmY, htY, hsY⟩ := (KU.out.2.2.2.2.2.1.later bX).store (by omega) hk.1 hk.2 xs.length (by omega)
  rw [← seW_snoc H.out.2.2.2.2.2.1] at hmY
  have hS2 : (fun X : World => X.cell? ⟨p, 1, none⟩ = some (.map (some mb)) ∧ SetAt X w.heap.size 0 x) X2 := by
    obtain ⟨g1, g2, g3, g4, g5, g6, g7, g8, g9, g10, g11, g12⟩ := KU.out
    exact ⟨(bX.cell (p := ⟨p, 1, none⟩) g9).trans g4, g1.below bX g11⟩
  have K7 : Hid (PisB Y base p mb (n + 1) (Value.slice a5 (xs.length + 1) k5) (xs ++ [x]) ∧ Below base w Y) := by
    obtain ⟨g1, g2, g3, g4, g5, g6, g7, g8, g9, g10, g11, g12⟩ := KU.out
    have hpm := K1.out.1.pm
    have hp5 := (htY.block p (Nat.lt_of_lt_of_le g9 bX.size) hpm).trans (bX.block p g9)
    refine ⟨⟨(World.cell?_of_block (a := ⟨p, 0, none⟩) hp5).trans g3, (World.cell?_of_block (a := ⟨p, 1, none⟩) hp5).trans g4, fun j => (World.frozen?_of_block (a := ⟨p, j, none⟩) hp5).trans (g5 j), g2.keep (fun b _ hb e => (htY.block b (Nat.lt_of_lt_of_le hb bX.size) (fun e' => g8 (by rw [e, e']))).trans (bX.block b hb)), hmY, fun s hs => ?_, g7, g8, hpm, K1.out.1.bp, K1.out.1.bm, by rw [hsY]; exact Nat.lt_of_lt_of_le g9 bX.size⟩, ?_⟩
    · rcases List.mem_append.1 hs with hs | hs
      · exact K1.out.1.ok s hs
      · simp at hs; subst hs; exact H.out.2.2.2.2.2.2.1
    · have hbW : base ≤ W5.heap.size := by have := K1.out.1.bp; omega
      exact (g10.trans (bX.mono hbW)).trans (htY.below K1.out.1.bm (Nat.le_trans hbW bX.size))
  simp only [cKey] at hst
  refine hK.out _ _ (fun _ => hS2) ?_
  clear hK K hS2 hS bX KD hmY htY hsY hm hk b2
  refine wpZ_ready (rs := [8]) (by kernel_rfl) (by simp) ?_
  refine AllZ.cons rfl (fun K hK => ?_) AllZ.nil
  go_simp
  refine hK.out _ _ (fun h => absurd (show false = true from h.symm.trans (by kernel_rfl)) (by decide)) ?_
  clear hK K hst
  refine wpZ_done (by kernel_rfl) ?_ _
  obtain ⟨q5, cap5, hv5, P7⟩ := K7.out.1.pil (by simp)
  have c7 := seLiftStay Y base p q5 mb (n + 1) cap5 (xs ++ [x]) xs.length P7 (by simp; omega) (by simp) (by
    rcases HS.out with h | h
    · exact .inl (by rw [h]; rfl)
    · exact .inr h)
  go_wp2_with fail
  refine c7.mono ?_
  clear c7
  rintro e w8 ⟨rfl, b8⟩
  have KE : Hid (PisB w8 base p mb (n + 1) (Value.slice a5 (xs.length + 1) k5) (xs ++ [x]) ∧ Below base w w8) := ⟨K7.out.1.later b8, K7.out.2.trans (b8.mono (by have := K7.out.1.bp; have := K7.out.1.lp; omega))⟩
  clear b8
  go_wp2
  refine bodyPost_end (v := .tuple #[]) (by simp [results, Try.results59, go_sem]) rfl ⟨rfl, (Value.slice a5 (xs.length + 1) k5), KE.out.1, KE.out.2⟩
def seUp2 (xs : List S5) : Prop := xs.Pairwise fun a b => seR a < seR b
theorem seUp2_at {xs : List S5} (h : seUp2 xs) {i j : Nat} {x y : S5} (hi : xs[i]? = some x) (hj : xs[j]? = some y) (hij : i < j) : seR x < seR y := by
  have li := (List.getElem?_eq_some_iff.1 hi)
  have lj := (List.getElem?_eq_some_iff.1 hj)
  have := List.pairwise_iff_getElem.1 h i j li.1 lj.1 hij
  rwa [li.2, lj.2] at this
theorem seNew {xs : List S5} (h : seUp2 xs) {k : Nat} {x : S5} (hk : xs[k]? = some x) : seW (xs.take k) x.region x.slot = none := by
  rw [seW_none]
  intro y hy e
  obtain ⟨i, hi, rfl⟩ := List.getElem_of_mem hy
  have hik : i < k := by rw [List.length_take] at hi; omega
  have e2 : xs[i]? = some ((xs.take k)[i]) := by
    have := List.getElem?_eq_getElem hi
    rwa [List.getElem?_take, if_pos hik] at this
  have := seUp2_at h e2 hk hik
  unfold seR at this
  rw [e.1, e.2] at this
  omega
theorem seStay {xs : List S5} (h : seUp2 xs) {k : Nat} {x : S5} (hk : xs[k]? = some x) : xs.take k = [] ∨ seK (xs.take k ++ [x]) (((xs.take k).length - 1) / 2) ≤ seK (xs.take k ++ [x]) (xs.take k).length := by
  by_cases h0 : k = 0
  · exact .inl (by rw [h0]; rfl)
  · have lk := (List.getElem?_eq_some_iff.1 hk).1
    have hl : (xs.take k).length = k := by rw [List.length_take]; omega
    have e1 : xs.take k ++ [x] = xs.take (k + 1) := by rw [List.take_add_one, hk]; rfl
    refine .inr ?_
    rw [hl, e1]
    obtain ⟨y, hy⟩ : ∃ y, xs[(k - 1) / 2]? = some y := ⟨_, List.getElem?_eq_getElem (by omega)⟩
    rw [seK_R (x := y) (by rw [List.getElem?_take, if_pos (by omega)]; exact hy), seK_R (x := x) (by rw [List.getElem?_take, if_pos (by omega)]; exact hk)]
    exact Int.le_of_lt (seUp2_at h hy hk (by omega))
set_option maxHeartbeats 4000000 in
theorem sePileOf_any (w : World) (a : Option Addr) (c : Nat) (xs : List S5) (hl : xs.length ≤ 100) (hs : Sl w w.heap.size a xs.length xs) (hok : ∀ s ∈ xs, setOkB s = true) (hup : seUp2 xs) :
    Calls Try.prog 55 #[.slice a xs.length c] w fun e w' => ∃ p mb n v, e = .returned (.pointer (some ⟨p, 0, none⟩)) ∧ PisB w' w.heap.size p mb n v xs ∧ n ≤ xs.length ∧ Below w.heap.size w w' := by
  obtain ⟨W0, hW0⟩ : ∃ W, W = w.alloc (.map #[] 0) := ⟨_, rfl⟩
  have z0 : W0.heap.size = w.heap.size + 1 := by rw [hW0]; simp
  have b0 : Below w.heap.size w W0 := by rw [hW0]; exact (Below.refl _ _).alloc (Nat.le_refl _) _
  obtain ⟨W, hW⟩ : ∃ W, W = W0.alloc (.cells #[.slice none 0 0, .map (some w.heap.size)] 112) := ⟨_, rfl⟩
  have b1 : Below W0.heap.size W0 W := by rw [hW]; exact (Below.refl _ _).alloc (Nat.le_refl _) _
  have pb : PisB W w.heap.size (w.heap.size + 1) w.heap.size 0 (.slice none 0 0) [] := by
    refine ⟨(by rw [hW, ← z0]; go_simp), (by rw [hW, ← z0]; go_simp), (fun j => by rw [hW, ← z0]; go_simp), RowS.nil _ _, ?_, (fun s hs => by cases hs), (fun e => by cases e), (fun e => by cases e), (by omega), (by omega), Nat.le_refl _, (by rw [hW]; simp [z0])⟩
    have hm := (MapF.made w).later (W' := W) (by rw [← hW0]; exact b1)
    exact hm
  have H : Hid (Sl w w.heap.size a xs.length xs ∧ (∀ s ∈ xs, setOkB s = true) ∧ seUp2 xs ∧ PisB W w.heap.size (w.heap.size + 1) w.heap.size 0 (.slice none 0 0) [] ∧ Below w.heap.size w W) := ⟨hs, hok, hup, pb, b0.trans (b1.mono b0.size)⟩
  clear hs hok hup pb b0 b1 z0
  rw [hW0] at hW
  clear hW0
  have hmm := @run_makeMap Try.prog
  go_enter Try.func55, Try.ntmps55
  go_wp2
  rw [← hW]
  clear hW
  go_loopw [11] (fun v11 wr => ∃ (k n : Nat) (v : Value), k ≤ xs.length ∧ v11 = .int .i64 (k : Int) ∧ PisB wr w.heap.size (w.heap.size + 1) w.heap.size n v (xs.take k) ∧ n ≤ k ∧ Below w.heap.size w wr) (fun v11 _ => xs.length - (intOf v11).toNat)
  case atStart => exact ⟨0, 0, .slice none 0 0, Nat.zero_le _, rfl, by simpa using H.out.2.2.2.1, Nat.le_refl _, H.out.2.2.2.2⟩
  case round =>
    obtain ⟨k, n, v, hk, rfl, hp, hnk, hbl⟩ := hrel
    by_cases hlt : k < xs.length
    · obtain ⟨_, hsk⟩ := H.out.1.later hbl
      rcases hsk with hsk | ⟨b, off, rfl, hb, hx⟩
      · omega
      have hxk := atSe_of hlt
      obtain ⟨c0, c1, c2, c3, c4⟩ := hx k _ hxk
      obtain ⟨V, hV⟩ : ∃ V, V = wr.alloc (.cells #[.int .i64 (atSe xs k).region, .int .i64 (atSe xs k).slot, .int .i64 (atSe xs k).value, .bool (atSe xs k).used, .int .i64 (atSe xs k).version] 36) := ⟨_, rfl⟩
      have bV : Below wr.heap.size wr V := by rw [hV]; exact (Below.refl _ _).alloc (Nat.le_refl _) _
      have cp := sePutLast V w.heap.size (w.heap.size + 1) w.heap.size n v (xs.take k) (atSe xs k) (hp.later bV) (by omega) (by rw [List.length_take]; omega) (H.out.2.1 _ (List.mem_of_getElem? hxk)) (seNew H.out.2.2.1 hxk) (Nat.le_trans hbl.size bV.size) (seStay H.out.2.2.1 hxk)
      have KB : Hid (Below w.heap.size w V ∧ xs.take k ++ [atSe xs k] = xs.take (k + 1)) := ⟨hbl.trans (bV.mono hbl.size), by rw [List.take_add_one, hxk]; rfl⟩
      clear hp hbl hx hxk bV
      go_wp2_with fail
      rw [← hV]
      clear hV c0 c1 c2 c3 c4
      refine cp.mono ?_
      clear cp
      rintro e w1 ⟨rfl, v', p1, b1⟩
      rw [KB.out.2] at p1
      have KE : Hid (PisB w1 w.heap.size (w.heap.size + 1) w.heap.size (n + 1) v' (xs.take (k + 1)) ∧ Below w.heap.size w w1) := ⟨p1, KB.out.1.trans b1⟩
      clear p1 b1
      go_wp2
      exact ⟨⟨k + 1, n + 1, v', by omega, by simp, KE.out.1, by omega, KE.out.2⟩, by simp [intOf]; omega⟩
    · obtain rfl : k = xs.length := by omega
      have hd : decide ((xs.length : Int) < (xs.length : Int)) = false := by simp
      rw [List.take_length] at hp
      have KE : Hid (PisB wr w.heap.size (w.heap.size + 1) w.heap.size n v xs ∧ Below w.heap.size w wr) := ⟨hp, hbl⟩
      clear hp hbl
      go_wp2
      go_ret
      exact ⟨w.heap.size + 1, w.heap.size, n, v, rfl, KE.out.1, hnk, KE.out.2⟩
set_option maxHeartbeats 4000000 in
theorem seHas_any (w : World) (base p mb n : Nat) (v : Value) (xs : List S5) (r s : Int) (h : PisB w base p mb n v xs) (h1 : inB 0 5 r = true) (h2 : inB 0 5 s = true) :
    Calls Try.prog 72 #[.pointer (some ⟨p, 0, none⟩), .agg #[.int .i64 r, .int .i64 s]] w fun e w' => e = .returned (.bool (seW xs r s).isSome) ∧ Below w.heap.size w w' := by
  obtain ⟨W0, hW0⟩ : ∃ W, W = w.alloc (.cells #[.int .i64 r, .int .i64 s] 72) := ⟨_, rfl⟩
  have b0 : Below w.heap.size w W0 := by rw [hW0]; exact (Below.refl _ _).alloc (Nat.le_refl _) _
  have z0 : W0.heap.size = w.heap.size + 1 := by rw [hW0]; simp
  have h0 := h.later b0
  have lk : ∀ d os, (Instr.lookup 103 (.map (some mb)) (cKey r s) true).run Try.prog (grow (redrawn W0 d) os) = .ok (.tuple #[.int .i64 (((seW xs r s).getD 0 : Nat) : Int), .bool (seW xs r s).isSome]) (grow (redrawn W0 d) os) := fun d os => ((h0.mp).later (below_regrown W0 d os)).look h1 h2
  have m1 : ∀ d os, (grow (redrawn W0 d) os).cell? ⟨p, 1, none⟩ = some (.map (some mb)) := fun d os => ((below_regrown W0 d os).cell (p := ⟨p, 1, none⟩) h0.lp).trans h0.c1
  have t0 : ∀ d os, (grow (redrawn W0 d) os).cell? ⟨w.heap.size, 0, none⟩ = some (.int .i64 r) := fun d os => ((below_regrown W0 d os).cell (p := ⟨w.heap.size, 0, none⟩) (by rw [z0]; simp)).trans (by rw [hW0]; go_simp)
  have t1 : ∀ d os, (grow (redrawn W0 d) os).cell? ⟨w.heap.size, 1, none⟩ = some (.int .i64 s) := fun d os => ((below_regrown W0 d os).cell (p := ⟨w.heap.size, 1, none⟩) (by rw [z0]; simp)).trans (by rw [hW0]; go_simp)
  have H : Hid (Below w.heap.size w W0) := b0
  clear h h0 b0 z0 h1 h2
  simp only [cKey] at lk
  generalize (seW xs r s).isSome = B at *
  generalize ((seW xs r s).getD 0) = I at *
  go_enter Try.func72, Try.ntmps72
  go_wp2_with fail
  rw [← hW0]
  clear hW0
  refine wp_region_quiet_below (by kernel_rfl) (by kernel_rfl) ?_
  repeat (go_big_quiet_step (fail))
  refine wpQuiet_nil ?_
  intro _ hw'
  obtain ⟨⟨dq', osq⟩, hw''⟩ := hw'
  subst hw''
  have bq := below_regrown W0 dq' osq
  have KE : Hid (Below w.heap.size w (grow (redrawn W0 dq') osq)) := H.out.trans (bq.mono H.out.size)
  clear bq lk m1 t0 t1
  go_wp2
  go_ret
  exact ⟨rfl, KE.out⟩
theorem rise_all {f : Nat → Int} {n : Nat} (h : ∀ i, i + 1 < n → f i < f (i + 1)) {i j : Nat} (hij : i < j) (hj : j < n) : f i < f j := by
  induction j with
  | zero => omega
  | succ j ih =>
    by_cases e : i = j
    · subst e; exact h i hj
    · exact Int.lt_trans (ih (by omega) (by omega)) (h j hj)
theorem txB_no {t : T7} (h : txB t = true) : (∀ s ∈ t.reads, noteOkB s = true) ∧ noUp2 t.reads := by
  simp only [txB, Bool.and_eq_true] at h
  have g := h.1.2
  rw [noAt_all, Bool.and_eq_true, List.all_eq_true, List.all_eq_true] at g
  refine ⟨fun s hs => ?_, ?_⟩
  · obtain ⟨i, hi, rfl⟩ := List.getElem_of_mem hs
    have := g.1 i (List.mem_range.2 hi)
    rwa [show atNo t.reads i = t.reads[i] from by have := atNo_of hi; rw [List.getElem?_eq_getElem hi] at this; exact (Option.some.inj this).symm] at this
  · refine List.pairwise_iff_getElem.2 fun i j hi hj hij => ?_
    have := rise_all (f := fun i => noR (atNo t.reads i)) (n := t.reads.length) (fun i hi => by
      have := g.2 (i + 1) (List.mem_range.2 hi)
      simp only [noUp, Nat.add_sub_cancel, Bool.or_eq_true, decide_eq_true_eq] at this
      rcases this with h | h
      · omega
      · exact h) hij hj
    have e : ∀ i (hi : i < t.reads.length), atNo t.reads i = t.reads[i] := fun i hi => by have := atNo_of hi; rw [List.getElem?_eq_getElem hi] at this; exact (Option.some.inj this).symm
    rwa [e i hi, e j hj] at this
theorem txB_se {t : T7} (h : txB t = true) : (∀ s ∈ t.sets, setOkB s = true) ∧ seUp2 t.sets := by
  simp only [txB, Bool.and_eq_true] at h
  have g := h.2
  rw [seAt_all, Bool.and_eq_true, List.all_eq_true, List.all_eq_true] at g
  refine ⟨fun s hs => ?_, ?_⟩
  · obtain ⟨i, hi, rfl⟩ := List.getElem_of_mem hs
    have := g.1 i (List.mem_range.2 hi)
    rwa [show atSe t.sets i = t.sets[i] from by have := atSe_of hi; rw [List.getElem?_eq_getElem hi] at this; exact (Option.some.inj this).symm] at this
  · refine List.pairwise_iff_getElem.2 fun i j hi hj hij => ?_
    have := rise_all (f := fun i => seR (atSe t.sets i)) (n := t.sets.length) (fun i hi => by
      have := g.2 (i + 1) (List.mem_range.2 hi)
      simp only [seUp, Nat.add_sub_cancel, Bool.or_eq_true, decide_eq_true_eq] at this
      rcases this with h | h
      · omega
      · exact h) hij hj
    have e : ∀ i (hi : i < t.sets.length), atSe t.sets i = t.sets[i] := fun i hi => by have := atSe_of hi; rw [List.getElem?_eq_getElem hi] at this; exact (Option.some.inj this).symm
    rwa [e i hi, e j hj] at this
def CAns (w : World) (xs : List N5) (e : Ending) (w' : World) : Prop :=
  ∃ (a : Option Addr) (c : Nat) (PS : Nat → Prop), e = .returned (.slice a xs.length c) ∧ OwnNo w' PS a xs ∧ (∀ q, PS q → w.heap.size ≤ q ∧ q < w'.heap.size) ∧ Below w.heap.size w w'
theorem CAns.of {w w' : World} {base : Nat} {v : Value} {xs : List N5} (h : RowN w' base v xs) (hb : w.heap.size ≤ base) (b : Below w.heap.size w w') : CAns w xs (.returned v) w' := by
  obtain ⟨a, c, e, ho⟩ := h.form
  exact ⟨a, c, _, by rw [e], ho, fun q hq => ⟨Nat.le_trans hb (h.lt hq).1, (h.lt hq).2⟩, b⟩
theorem CAns.none {w w' : World} (b : Below w.heap.size w w') : CAns w [] (.returned (.slice Option.none 0 0)) w' := ⟨Option.none, 0, fun _ => False, rfl, .inl rfl, fun _ h => h.elim, b⟩
def ofC (ss : List S5) (xs : List N5) : List N5 := xs.filter fun n => (seW ss n.region n.slot).isNone
theorem ofC_yes {ss : List S5} {xs : List N5} {k : Nat} {s : N5} (h : xs[k]? = some s) (hg : (seW ss s.region s.slot).isSome = false) : ofC ss (xs.take (k + 1)) = ofC ss (xs.take k) ++ [s] := by
  have hg' : (seW ss s.region s.slot).isNone = true := by cases e : seW ss s.region s.slot <;> simp_all
  rw [List.take_add_one, h, ofC, List.filter_append]; simp [hg', ofC]
theorem ofC_no {ss : List S5} {xs : List N5} {k : Nat} {s : N5} (h : xs[k]? = some s) (hg : (seW ss s.region s.slot).isSome = true) : ofC ss (xs.take (k + 1)) = ofC ss (xs.take k) := by
  have hg' : (seW ss s.region s.slot).isNone = false := by cases e : seW ss s.region s.slot <;> simp_all
  rw [List.take_add_one, h, ofC, List.filter_append]; simp [hg', ofC]
theorem ofC_len (ss : List S5) (xs : List N5) : (ofC ss xs).length ≤ xs.length := List.length_filter_le _ _
def checksT (t : T7) : List N5 := if txB t = true then ofC t.sets t.reads else []
theorem checksT_short (t : T7) : (checksT t).length ≤ 1048576 := by
  unfold checksT
  split
  · next h => exact Nat.le_trans (ofC_len t.sets t.reads) (by have := (txB_lens h).1; omega)
  · simp
def setAt (xs : List S5) (r s : Int) : Int := match seW xs r s with | some i => (i : Int) | none => -1
theorem setAt_lt (xs : List S5) (r s : Int) : decide (setAt xs r s < 0) = !(seW xs r s).isSome := by
  unfold setAt
  cases seW xs r s <;> simp
theorem seW_found {xs : List S5} {k : Nat} {x : S5} {r s : Int} (h : seW (xs.take k) r s = none) (hx : xs[k]? = some x) (h1 : x.region = r) (h2 : x.slot = s) : seW xs r s = some k := by
  have lk := List.getElem?_eq_some_iff.1 hx
  have l1 := lk.1
  unfold seW at *
  rw [List.findIdx?_eq_some_iff_getElem]
  refine ⟨lk.1, by rw [lk.2]; simp [h1, h2], fun j hj => ?_⟩
  rw [List.findIdx?_eq_none_iff] at h
  have := h xs[j] (List.mem_take_iff_getElem.2 ⟨j, by omega, rfl⟩)
  simp at this ⊢
  exact this
theorem seW_step {xs : List S5} {k : Nat} {x : S5} {r s : Int} (h : seW (xs.take k) r s = none) (hx : xs[k]? = some x) (hn : ¬ (x.region = r ∧ x.slot = s)) : seW (xs.take (k + 1)) r s = none := by
  rw [seW_none] at *
  intro y hy
  rw [List.take_add_one, hx] at hy
  rcases List.mem_append.1 hy with hy | hy
  · exact h y hy
  · simp at hy; subst hy; exact hn
set_option maxHeartbeats 4000000 in
theorem l7Set_any (w : World) (v : TV) (t : T7) (r s : Int) (hl : t.sets.length ≤ 1000) (hs : SlT w v t) :
    Calls Try.prog 62 #[v.val t, .int .i64 r, .int .i64 s] w fun e w' => e = .returned (.int .i64 (setAt t.sets r s)) ∧ Below w.heap.size w w' := by
  obtain ⟨ar, cr, ah, ch⟩ := v
  simp only [TV.val]
  obtain ⟨W, hW⟩ : ∃ W, W = w.alloc (.cells #[.int .i64 t.id, .int .i64 t.home, .int .i64 t.phase, .int .i64 t.count, .slice ar t.reads.length cr, .slice ah t.sets.length ch, .int .i64 t.stamp] 27) := ⟨_, rfl⟩
  have b0 : Below w.heap.size w W := by rw [hW]; exact (Below.refl _ _).alloc (Nat.le_refl _) _
  have x0 : BT W w.heap.size ⟨ar, cr, ah, ch⟩ t := by rw [hW]; exact BT.box w ⟨ar, cr, ah, ch⟩ t _
  have p5 := x0.c5
  dsimp only at p5
  have H : Hid (Sl W W.heap.size ah t.sets.length t.sets ∧ Below w.heap.size w W) := ⟨(hs.later b0).s, b0⟩
  clear hs b0 x0
  go_enter Try.func62, Try.ntmps62
  go_wp2
  rw [← hW]
  clear hW
  go_loopw [7] (fun v7 wr => ∃ k : Nat, k ≤ t.sets.length ∧ v7 = .int .i64 k ∧ wr = W ∧ seW (t.sets.take k) r s = none) (fun v7 _ => t.sets.length - (intOf v7).toNat)
  case atStart => exact ⟨0, Nat.zero_le _, rfl, rfl, by simp [seW]⟩
  case round =>
    obtain ⟨k, hk, rfl, rfl, hnn⟩ := hrel
    have KN := hidOf hnn
    clear hnn
    by_cases hlt : k < t.sets.length
    · obtain ⟨_, hsk⟩ := H.out.1
      rcases hsk with hsk | ⟨b, off, rfl, hb, hx⟩
      · omega
      obtain ⟨c0, c1, c2, c3, c4⟩ := hx k _ (atSe_of hlt)
      clear hx
      by_cases hg : (atSe t.sets k).region = r
      · have dg : ((atSe t.sets k).region == r) = true := by simpa using hg
        by_cases hg2 : (atSe t.sets k).slot = s
        · have dg2 : ((atSe t.sets k).slot == s) = true := by simpa using hg2
          have HF : Hid (setAt t.sets r s = (k : Int)) := by unfold Hid setAt; rw [seW_found KN.out (atSe_of hlt) hg hg2]
          clear hg hg2
          go_wp2
          go_ret
          exact ⟨by rw [HF.out]; rfl, H.out.2⟩
        · have dg2 : ((atSe t.sets k).slot == s) = false := by simpa using hg2
          have KE : Hid (seW (t.sets.take (k + 1)) r s = none) := seW_step KN.out (atSe_of hlt) (fun h => hg2 h.2)
          clear hg hg2
          go_wp2
          exact ⟨⟨k + 1, by omega, by simp, trivial, KE.out⟩, by simp [intOf]; omega⟩
      · have dg : ((atSe t.sets k).region == r) = false := by simpa using hg
        have KE : Hid (seW (t.sets.take (k + 1)) r s = none) := seW_step KN.out (atSe_of hlt) (fun h => hg h.1)
        clear hg
        go_wp2
        exact ⟨⟨k + 1, by omega, by simp, trivial, KE.out⟩, by simp [intOf]; omega⟩
    · obtain rfl : k = t.sets.length := by omega
      have hd : decide ((t.sets.length : Int) < (t.sets.length : Int)) = false := by simp
      have HF : Hid (setAt t.sets r s = -1) := by unfold Hid setAt; have := KN.out; rw [List.take_length] at this; rw [this]
      go_wp2
      go_ret
      exact ⟨by rw [HF.out]; rfl, H.out.2⟩
end Go.Proofs.Ytiidlcjjaglkdaa
namespace Go.Proofs.Ytiidlcjjaglkdaa
open Go.RowKit
end Go.Proofs.Ytiidlcjjaglkdaa
namespace Go.Proofs.Ytiidlcjjaglkdaa
open Go.RowKit
open Go.Sort (grow)
def readAt (xs : List N5) (r s : Int) : Int := match noW xs r s with | some i => (i : Int) | none => -1
theorem readAt_ge (xs : List N5) (r s : Int) : decide (0 ≤ readAt xs r s) = (noW xs r s).isSome := by
  unfold readAt
  cases noW xs r s <;> simp
theorem noW_found {xs : List N5} {k : Nat} {x : N5} {r s : Int} (h : noW (xs.take k) r s = none) (hx : xs[k]? = some x) (h1 : x.region = r) (h2 : x.slot = s) : noW xs r s = some k := by
  have lk := List.getElem?_eq_some_iff.1 hx
  have l1 := lk.1
  unfold noW at *
  rw [List.findIdx?_eq_some_iff_getElem]
  refine ⟨lk.1, by rw [lk.2]; simp [h1, h2], fun j hj => ?_⟩
  rw [List.findIdx?_eq_none_iff] at h
  have := h xs[j] (List.mem_take_iff_getElem.2 ⟨j, by omega, rfl⟩)
  simp at this ⊢
  exact this
theorem noW_step {xs : List N5} {k : Nat} {x : N5} {r s : Int} (h : noW (xs.take k) r s = none) (hx : xs[k]? = some x) (hn : ¬ (x.region = r ∧ x.slot = s)) : noW (xs.take (k + 1)) r s = none := by
  rw [noW_none] at *
  intro y hy
  rw [List.take_add_one, hx] at hy
  rcases List.mem_append.1 hy with hy | hy
  · exact h y hy
  · simp at hy; subst hy; exact hn
set_option maxHeartbeats 4000000 in
theorem l7Read_any (w : World) (v : TV) (t : T7) (r s : Int) (hl : t.reads.length ≤ 1000) (hs : SlT w v t) :
    Calls Try.prog 49 #[v.val t, .int .i64 r, .int .i64 s] w fun e w' => e = .returned (.int .i64 (readAt t.reads r s)) ∧ Below w.heap.size w w' := by
  obtain ⟨ar, cr, ah, ch⟩ := v
  simp only [TV.val]
  obtain ⟨W, hW⟩ : ∃ W, W = w.alloc (.cells #[.int .i64 t.id, .int .i64 t.home, .int .i64 t.phase, .int .i64 t.count, .slice ar t.reads.length cr, .slice ah t.sets.length ch, .int .i64 t.stamp] 27) := ⟨_, rfl⟩
  have b0 : Below w.heap.size w W := by rw [hW]; exact (Below.refl _ _).alloc (Nat.le_refl _) _
  have x0 : BT W w.heap.size ⟨ar, cr, ah, ch⟩ t := by rw [hW]; exact BT.box w ⟨ar, cr, ah, ch⟩ t _
  have p4 := x0.c4
  dsimp only at p4
  have H : Hid (SlNo W W.heap.size ar t.reads.length t.reads ∧ Below w.heap.size w W) := ⟨(hs.later b0).r, b0⟩
  clear hs b0 x0
  go_enter Try.func49, Try.ntmps49
  go_wp2
  rw [← hW]
  clear hW
  go_loopw [7] (fun v7 wr => ∃ k : Nat, k ≤ t.reads.length ∧ v7 = .int .i64 k ∧ wr = W ∧ noW (t.reads.take k) r s = none) (fun v7 _ => t.reads.length - (intOf v7).toNat)
  case atStart => exact ⟨0, Nat.zero_le _, rfl, rfl, by simp [noW]⟩
  case round =>
    obtain ⟨k, hk, rfl, rfl, hnn⟩ := hrel
    have KN := hidOf hnn
    clear hnn
    by_cases hlt : k < t.reads.length
    · obtain ⟨_, hsk⟩ := H.out.1
      rcases hsk with hsk | ⟨b, off, rfl, hb, hx⟩
      · omega
      obtain ⟨c0, c1, c2, c3, c4⟩ := hx k _ (atNo_of hlt)
      clear hx
      by_cases hg : (atNo t.reads k).region = r
      · have dg : ((atNo t.reads k).region == r) = true := by simpa using hg
        by_cases hg2 : (atNo t.reads k).slot = s
        · have dg2 : ((atNo t.reads k).slot == s) = true := by simpa using hg2
          have HF : Hid (readAt t.reads r s = (k : Int)) := by unfold Hid readAt; rw [noW_found KN.out (atNo_of hlt) hg hg2]
          clear hg hg2
          go_wp2
          go_ret
          exact ⟨by rw [HF.out]; rfl, H.out.2⟩
        · have dg2 : ((atNo t.reads k).slot == s) = false := by simpa using hg2
          have KE : Hid (noW (t.reads.take (k + 1)) r s = none) := noW_step KN.out (atNo_of hlt) (fun h => hg2 h.2)
          clear hg hg2
          go_wp2
          exact ⟨⟨k + 1, by omega, by simp, trivial, KE.out⟩, by simp [intOf]; omega⟩
      · have dg : ((atNo t.reads k).region == r) = false := by simpa using hg
        have KE : Hid (noW (t.reads.take (k + 1)) r s = none) := noW_step KN.out (atNo_of hlt) (fun h => hg h.1)
        clear hg
        go_wp2
        exact ⟨⟨k + 1, by omega, by simp, trivial, KE.out⟩, by simp [intOf]; omega⟩
    · obtain rfl : k = t.reads.length := by omega
      have hd : decide ((t.reads.length : Int) < (t.reads.length : Int)) = false := by simp
      have HF : Hid (readAt t.reads r s = -1) := by unfold Hid readAt; have := KN.out; rw [List.take_length] at this; rw [this]
      go_wp2
      go_ret
      exact ⟨by rw [HF.out]; rfl, H.out.2⟩
def cutN (xs : List N5) (n : N5) : Nat := xs.findIdx fun x => !lessB x.region x.slot n.region n.slot
def insN (xs : List N5) (n : N5) : List N5 := xs.take (cutN xs n) ++ [n] ++ xs.drop (cutN xs n)
def lessAt (xs : List N5) (n : N5) (j : Nat) : Bool := lessB (atNo xs j).region (atNo xs j).slot n.region n.slot
theorem atNo_get {xs : List N5} {i : Nat} (h : i < xs.length) : atNo xs i = xs[i] := by have := atNo_of h; rw [List.getElem?_eq_getElem h] at this; exact (Option.some.inj this).symm
theorem cutN_at {xs : List N5} {n : N5} {k : Nat} (hk : k < xs.length) (h : lessAt xs n k = false) (hall : ∀ j, j < k → lessAt xs n j = true) : cutN xs n = k := by
  unfold cutN
  rw [List.findIdx_eq hk]
  refine ⟨by rw [← atNo_get hk]; simpa [lessAt] using h, fun j hj => ?_⟩
  rw [← atNo_get (by omega)]
  simpa [lessAt] using hall j hj
theorem cutN_all {xs : List N5} {n : N5} (hall : ∀ j, j < xs.length → lessAt xs n j = true) : cutN xs n = xs.length := by
  unfold cutN
  rw [List.findIdx_eq_length]
  intro x hx
  obtain ⟨i, hi, rfl⟩ := List.getElem_of_mem hx
  have := hall i hi
  rw [lessAt, atNo_get hi] at this
  simp [this]
def addN (t : T7) (n : N5) : T7 := if txB t = true ∧ noteOkB n = true then (if (noW t.reads n.region n.slot).isSome = true then t else if t.reads.length = 12 then noT else ⟨t.id, t.home, t.phase, t.count, insN t.reads n, t.sets, t.stamp⟩) else noT
def addNB (t : T7) (n : N5) : Bool := txB t && noteOkB n && ((noW t.reads n.region n.slot).isSome || !decide (t.reads.length = 12))
def cutSe (xs : List S5) (n : S5) : Nat := xs.findIdx fun x => !lessB x.region x.slot n.region n.slot
def insSe (xs : List S5) (n : S5) : List S5 := xs.take (cutSe xs n) ++ [n] ++ xs.drop (cutSe xs n)
def lessSe (xs : List S5) (n : S5) (j : Nat) : Bool := lessB (atSe xs j).region (atSe xs j).slot n.region n.slot
theorem atSe_get {xs : List S5} {i : Nat} (h : i < xs.length) : atSe xs i = xs[i] := by have := atSe_of h; rw [List.getElem?_eq_getElem h] at this; exact (Option.some.inj this).symm
theorem cutSe_at {xs : List S5} {n : S5} {k : Nat} (hk : k < xs.length) (h : lessSe xs n k = false) (hall : ∀ j, j < k → lessSe xs n j = true) : cutSe xs n = k := by
  unfold cutSe
  rw [List.findIdx_eq hk]
  refine ⟨by rw [← atSe_get hk]; simpa [lessSe] using h, fun j hj => ?_⟩
  rw [← atSe_get (by omega)]
  simpa [lessSe] using hall j hj
theorem cutSe_all {xs : List S5} {n : S5} (hall : ∀ j, j < xs.length → lessSe xs n j = true) : cutSe xs n = xs.length := by
  unfold cutSe
  rw [List.findIdx_eq_length]
  intro x hx
  obtain ⟨i, hi, rfl⟩ := List.getElem_of_mem hx
  have := hall i hi
  rw [lessSe, atSe_get hi] at this
  simp [this]
def verS (s : S5) (v : Int) : S5 := ⟨s.region, s.slot, s.value, s.used, v⟩
def ovSe (xs : List S5) (i : Nat) (s : S5) : List S5 := xs.set i (verS s (atSe xs i).version)
def addSe (t : T7) (s : S5) : T7 := if txB t = true ∧ setOkB s = true then (match seW t.sets s.region s.slot with | some i => ⟨t.id, t.home, t.phase, t.count, t.reads, ovSe t.sets i s, t.stamp⟩ | none => if t.sets.length = 12 then noT else ⟨t.id, t.home, t.phase, t.count, t.reads, insSe t.sets s, t.stamp⟩) else noT
def addSB (t : T7) (s : S5) : Bool := txB t && setOkB s && ((seW t.sets s.region s.slot).isSome || !decide (t.sets.length = 12))
theorem seW_at {xs : List S5} {r s : Int} {i : Nat} (h : seW xs r s = some i) : i < xs.length ∧ (atSe xs i).region = r ∧ (atSe xs i).slot = s := by
  unfold seW at h
  rw [List.findIdx?_eq_some_iff_getElem] at h
  obtain ⟨hi, hp, _⟩ := h
  refine ⟨hi, ?_⟩
  rw [atSe_get hi]
  simpa using hp
theorem ovSe_len (xs : List S5) (i : Nat) (s : S5) : (ovSe xs i s).length = xs.length := by simp [ovSe]
theorem OwnSe.put5 {W : World} {P : Nat → Prop} {b : Nat} {xs : List S5} {i : Nat} (hb : P b) (hl : b < W.heap.size) (ha : SetsAt W b 0 xs) (hr : Room W b (xs.length * 5)) (hi : i < xs.length) (y : S5) : OwnSe ((((((W).setCell ⟨b, i * 5, none⟩ (.int .i64 y.region)).setCell ⟨b, i * 5 + 1, none⟩ (.int .i64 y.slot)).setCell ⟨b, i * 5 + 2, none⟩ (.int .i64 y.value)).setCell ⟨b, i * 5 + 3, none⟩ (.bool y.used)).setCell ⟨b, i * 5 + 4, none⟩ (.int .i64 y.version)) P (some ⟨b, 0, none⟩) (xs.set i y) := by
  obtain ⟨v0, d0, _⟩ := hr (i * 5) (by omega)
  obtain ⟨v1, d1, _⟩ := hr (i * 5 + 1) (by omega)
  obtain ⟨v2, d2, _⟩ := hr (i * 5 + 2) (by omega)
  obtain ⟨v3, d3, _⟩ := hr (i * 5 + 3) (by omega)
  obtain ⟨v4, d4, _⟩ := hr (i * 5 + 4) (by omega)
  refine .inr ⟨b, rfl, hb, by simpa [World.setCell] using hl, fun k s hk => ?_, by rw [List.length_set]; exact ((((hr.set _).set _).set _).set _).set _⟩
  rw [Nat.zero_add]
  by_cases e : i = k
  · subst e
    rw [List.getElem?_set_self hi] at hk
    obtain rfl := Option.some.inj hk
    exact SetAt.put y d0 d1 d2 d3 d4
  · rw [List.getElem?_set_ne e] at hk
    have := ha k s hk
    rw [Nat.zero_add] at this
    exact ((((this.set (by omega) _).set (by omega) _).set (by omega) _).set (by omega) _).set (by omega) _
end Go.Proofs.Ytiidlcjjaglkdaa