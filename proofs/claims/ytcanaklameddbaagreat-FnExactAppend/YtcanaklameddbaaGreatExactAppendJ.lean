/- Append of the program answers, at every Machine and Record, as the specification's Append does, in memory of its own, and changes nothing: no condition. -/
import Derived.Test.YtcanaklameddbaaGreatRows
import Derived.Test.YtcanaklameddbaaGreatAppIJ
import Derived.Test.YtcanaklameddbaaGreatJ37ExactAppend
import Derived.Test.YtcanaklameddbaaGreatOpenMacJ
import Derived.Test.YtcanaklameddbaaGreatUntZ
import Derived.WalkKit
import Derived.ProofKit
import Derived.OpenShut
import Derived.Deep.RegionWith
import Derived.Deep.CutRange
import Derived.WalkSpells
namespace Go.Proofs.YtcanaklameddbaaGreat.fnExactAppend
open Go.ChangeShapes Go.WideShapes Go.ChangeAt Go.RowKit
theorem own : ownKnob Tryz.prog.godebug = none := by kernel_rfl
theorem laidOut : laidOutB Tryz.prog = true := by kernel_rfl
def Ans (X : World) (N : M4) (o0 : Bool) (e : Ending) (w' : World) : Prop := ∃ (ra : Option Addr) (rb : Nat) (rc : Option Addr) (rd : Nat) (re : Option Addr) (rf : Nat) (P : Nat → Prop), e = .returned (.tuple #[.agg #[.bool N.alive, .slice ra N.copies.length rb, .slice rc N.log.length rd, .slice re N.cleared.length rf], .bool o0]) ∧ KM.Ow w' X.heap.size ra rb rc rd re rf N P ∧ Below X.heap.size X w'
theorem sum_cap {α : Type} (f : α → Nat) (c : Nat) : ∀ (l : List α), (∀ x ∈ l, f x ≤ c) → (l.map f).sum ≤ l.length * c
  | [], _ => by simp
  | x :: l, h => by
    have h1 := h x (by simp)
    have h2 := sum_cap f c l (fun y hy => h y (by simp [hy]))
    simp only [List.map_cons, List.sum_cons, List.length_cons, Nat.add_mul, Nat.one_mul]
    omega
theorem szM_small {m : M4} (h : MSm m) : szM m ≤ 3000 := by
  have h1 := sum_cap (fun k : K2 => k.cells.length) 6 m.copies (fun c hc => by have := h.ks c hc; omega)
  have h2 := sum_cap (fun k : R4 => k.sets.length) 12 m.log (fun c hc => (h.rs c hc).2)
  have h3 := h.k
  have h4 := h.r
  have h5 := h.n
  unfold szM lensK lensR
  omega
theorem szM_app {m : M4} (hs : MSm m) (r : R4) (hr : r.sets.length ≤ 12) : szM ⟨m.alive, m.copies, m.log ++ [r], m.cleared⟩ ≤ 1048576 := by
  have h := szM_small hs
  simp only [szM, lensR, List.map_append, List.sum_append, List.length_append, List.map_cons, List.map_nil, List.sum_cons, List.sum_nil, List.length_cons, List.length_nil] at h ⊢
  omega
theorem ans_of {X : World} {N : M4} {o : Bool} {e : Ending} {w' : World} (h : MAnsB X N o e w') : Ans X N o e w' := by
  obtain ⟨a, b, c, d, f, g, PK, PR, PD, rfl, om, hl, bl⟩ := h
  exact ⟨a, b, c, d, f, g, _, rfl, KM.of om hl, bl⟩
theorem appM_mt (m : M4) (r : R4) : MT (appM m r) := by
  unfold appM
  split
  · next hh =>
    have hs := MSm.of_mach hh.1
    have hr := rec_pos hh.2.1
    exact MT.of_sz (szM_app hs r hr.2)
  · exact MT.of_sz (by simp [zM, szM, lensK, lensR])
/-- The answer in a box, in memory of the call's own. -/
def Gx (w X : World) (sv : Value) (bo0 : Value) (N : M4) (o0 : Bool) : Prop := ∃ (q : Nat) (ra : Option Addr) (rb : Nat) (rc : Option Addr) (rd : Nat) (re : Option Addr) (rf : Nat) (P : Nat → Prop), sv = .pointer (some ⟨q, 0, none⟩) ∧ bo0 = .bool o0 ∧ Bx X q [.bool N.alive, .slice ra N.copies.length rb, .slice rc N.log.length rd, .slice re N.cleared.length rf] ∧ KM.Ow X w.heap.size ra rb rc rd re rf N P ∧ (∀ x, P x → x ≠ q) ∧ w.heap.size ≤ q ∧ Below w.heap.size w X
set_option maxRecDepth 100000 in
set_option maxHeartbeats 8000000 in
theorem walk_small (w : World) (yma : Option Addr) (ymb : Nat) (ymc : Option Addr) (ymd : Nat) (yme : Option Addr) (ymf : Nat) (yra : Option Addr) (yrb : Nat) (m : M4) (r : R4) (lm : ML m) (lr : KR.L r) (hm : SlM w ⟨yma, ymb, ymc, ymd, yme, ymf⟩ m) (hr : KR.Rd w yra yrb r) (hg : szM m + r.sets.length ≤ 1048576) :
    Calls Tryz.prog 6 #[.agg #[.bool m.alive, .slice yma m.copies.length ymb, .slice ymc m.log.length ymd, .slice yme m.cleared.length ymf], .agg #[.int .i64 r.kind, .int .i64 r.tx, .int .i64 r.region, .slice yra r.sets.length yrb]] w fun e w' => e = .returned (.bool true) ∧ Below w.heap.size w w' := by
  have tm : Hid (MT m) := MT.of_sz (by omega)
  have tr : Hid (r.sets.length ≤ 1048576) := by unfold Hid; omega
  obtain ⟨N, hN⟩ : ∃ N, N = appM m r := ⟨_, rfl⟩
  obtain ⟨o0, ho0⟩ : ∃ z, z = appB m r := ⟨_, rfl⟩
  have A1 : Hid (∀ (X : World) (yma1 : Option Addr) (ymb1 : Nat) (ymc1 : Option Addr) (ymd1 : Nat) (yme1 : Option Addr) (ymf1 : Nat) (yra1 : Option Addr) (yrb1 : Nat), SlM X ⟨yma1, ymb1, ymc1, ymd1, yme1, ymf1⟩ m → KR.Rd X yra1 yrb1 r → Calls Tryz.prog 18 #[.agg #[.bool m.alive, .slice yma1 m.copies.length ymb1, .slice ymc1 m.log.length ymd1, .slice yme1 m.cleared.length ymf1], .agg #[.int .i64 r.kind, .int .i64 r.tx, .int .i64 r.region, .slice yra1 r.sets.length yrb1]] X (Ans X N o0)) := by
    rw [hN, ho0]
    intro X ya1 yb1 yc1 yd1 ye1 yf1 za1 zb1 h1 h2
    have hh := specAppend_any X ⟨ya1, yb1, yc1, yd1, ye1, yf1⟩ m r za1 zb1 lm h1 lr h2
    simp only [MV.val, R4.val] at hh
    exact hh.mono (fun e w' h => ans_of h)
  have A2 : Hid (∀ (X : World) (yma1 : Option Addr) (ymb1 : Nat) (ymc1 : Option Addr) (ymd1 : Nat) (yme1 : Option Addr) (ymf1 : Nat) (yra1 : Option Addr) (yrb1 : Nat), SlM X ⟨yma1, ymb1, ymc1, ymd1, yme1, ymf1⟩ m → KR.Rd X yra1 yrb1 r → Calls Tryz.prog 17 #[.agg #[.bool m.alive, .slice yma1 m.copies.length ymb1, .slice ymc1 m.log.length ymd1, .slice yme1 m.cleared.length ymf1], .agg #[.int .i64 r.kind, .int .i64 r.tx, .int .i64 r.region, .slice yra1 r.sets.length yrb1]] X (Ans X N o0)) := by
    rw [hN, ho0]
    intro X ya1 yb1 yc1 yd1 ye1 yf1 za1 zb1 h1 h2
    have hh := implAppend_any X ⟨ya1, yb1, yc1, yd1, ye1, yf1⟩ m r za1 zb1 lm h1 lr h2
    simp only [MV.val, R4.val] at hh
    exact hh.mono (fun e w' h => ans_of h)
  have tN : Hid (MT N) := by
    rw [hN]
    exact appM_mt m r
  clear hN ho0
  have do0 : (o0 != o0) = false := by simp
  obtain ⟨U0, hU0⟩ : ∃ X, X = w.alloc (.cells #[.bool m.alive, .slice yma m.copies.length ymb, .slice ymc m.log.length ymd, .slice yme m.cleared.length ymf] 57) := ⟨_, rfl⟩
  have bU0 : Below w.heap.size w U0 := by rw [hU0]; exact (Below.refl _ _).alloc (Nat.le_refl _) _
  have xU0 : Bx U0 w.heap.size [.bool m.alive, .slice yma m.copies.length ymb, .slice ymc m.log.length ymd, .slice yme m.cleared.length ymf] := by rw [hU0]; exact Bx.made w [.bool m.alive, .slice yma m.copies.length ymb, .slice ymc m.log.length ymd, .slice yme m.cleared.length ymf] _
  have zU0 : U0.heap.size = w.heap.size + 1 := by rw [hU0]; simp
  obtain ⟨U1, hU1⟩ : ∃ X, X = U0.alloc (.cells #[.int .i64 r.kind, .int .i64 r.tx, .int .i64 r.region, .slice yra r.sets.length yrb] 68) := ⟨_, rfl⟩
  have bU1 : Below U0.heap.size U0 U1 := by rw [hU1]; exact (Below.refl _ _).alloc (Nat.le_refl _) _
  have xU1 : Bx U1 U0.heap.size [.int .i64 r.kind, .int .i64 r.tx, .int .i64 r.region, .slice yra r.sets.length yrb] := by rw [hU1]; exact Bx.made U0 [.int .i64 r.kind, .int .i64 r.tx, .int .i64 r.region, .slice yra r.sets.length yrb] _
  have zU1 : U1.heap.size = U0.heap.size + 1 := by rw [hU1]; simp
  rw [show U0.heap.size = w.heap.size + 1 by omega] at xU1
  have Fm : Hid (Bx U1 w.heap.size [.bool m.alive, .slice yma m.copies.length ymb, .slice ymc m.log.length ymd, .slice yme m.cleared.length ymf]) := (xU0).later bU1
  have Fr : Hid (Bx U1 (w.heap.size + 1) [.int .i64 r.kind, .int .i64 r.tx, .int .i64 r.region, .slice yra r.sets.length yrb]) := xU1
  have Rm : Hid (SlM U1 ⟨yma, ymb, ymc, ymd, yme, ymf⟩ m) := ((hm).later bU0).later bU1
  have Rr : Hid (KR.Rd U1 yra yrb r) := ((hr).later bU0).later bU1
  have Bw : Hid (Below w.heap.size w U1) := bstep (bU0) bU1
  have ZU : Hid (U1.heap.size = w.heap.size + 2) := by unfold Hid; omega
  clear bU0 xU0 zU0 bU1 xU1 zU1 hm hr
  rw [hU0] at hU1
  clear hU0
  have B0_U1 : Hid (Below U1.heap.size U1 U1) := Below.refl _ _
  go_enter Tryz.func6, Tryz.ntmps6
  have hbx := (Fm.out.later B0_U1.out)
  have p0 := hbx.1 0 _ rfl
  have p1 := hbx.1 1 _ rfl
  have p2 := hbx.1 2 _ rfl
  have p3 := hbx.1 3 _ rfl
  clear hbx
  rw [hU1] at p0 p1 p2 p3
  go_wp2_with fail
  rw [← hU1]
  clear hU1
  refine (KM.sz U1 yma ymb ymc ymd yme ymf m lm (Rm.out.later B0_U1.out)).mono ?_
  rw [leftR_yes (by omega)]
  rintro e s1 ⟨rfl, bs1⟩
  clear p0 p1 p2 p3
  have B0_s1 : Hid (Below U1.heap.size U1 s1) := bstep B0_U1.out bs1
  have Zs1 : Hid (U1.heap.size ≤ s1.heap.size) := bs1.size
  clear B0_U1 bs1
  have g0 : decide ((((1048576 - szM m) : Nat) : Int) < 0) = false := by simp
  have hbx := (Fr.out.later B0_s1.out)
  have p0 := hbx.1 0 _ rfl
  have p1 := hbx.1 1 _ rfl
  have p2 := hbx.1 2 _ rfl
  have p3 := hbx.1 3 _ rfl
  clear hbx
  go_wp2_with fail
  refine (szRecord_l s1 r.kind r.tx r.region yra r.sets.length yrb (1048576 - szM m) lr (by omega)).mono ?_
  rw [leftR_yes (by omega)]
  rintro e s2 ⟨rfl, bs2⟩
  clear p0 p1 p2 p3
  have B0_s2 : Hid (Below U1.heap.size U1 s2) := bstep B0_s1.out bs2
  have Zs2 : Hid (s1.heap.size ≤ s2.heap.size) := bs2.size
  clear B0_s1 bs2
  have g1 : decide (((((1048576 - szM m) - r.sets.length) : Nat) : Int) < 0) = false := by simp
  go_upto_region 8 with fail
  go_cut [6, 7] from 27 to 34 (fun s6 s7 wx => Gx s2 wx s6 s7 N o0)
  case first =>
    have bd : Below s2.heap.size s2 s2.drew := (Below.refl _ _).drew
    have SF : Hid (∀ X, Below s2.heap.size s2 X → (fun X : World => Bx X w.heap.size [.bool m.alive, .slice yma m.copies.length ymb, .slice ymc m.log.length ymd, .slice yme m.cleared.length ymf] ∧ Bx X (w.heap.size + 1) [.int .i64 r.kind, .int .i64 r.tx, .int .i64 r.region, .slice yra r.sets.length yrb]) X) := fun X hX => ⟨(Fm.out.later (bstep B0_s2.out hX)), (Fr.out.later (bstep B0_s2.out hX))⟩
    have hS : (fun X : World => Bx X w.heap.size [.bool m.alive, .slice yma m.copies.length ymb, .slice ymc m.log.length ymd, .slice yme m.cleared.length ymf] ∧ Bx X (w.heap.size + 1) [.int .i64 r.kind, .int .i64 r.tx, .int .i64 r.region, .slice yra r.sets.length yrb]) s2.drew := SF.out _ bd
    have RFm : Hid (∀ X, Below s2.heap.size s2 X → SlM X ⟨yma, ymb, ymc, ymd, yme, ymf⟩ m) := fun X hX => Rm.out.later (bstep B0_s2.out hX)
    have RFr : Hid (∀ X, Below s2.heap.size s2 X → KR.Rd X yra yrb r) := fun X hX => Rr.out.later (bstep B0_s2.out hX)
    refine wp_region_z (fun z => z == 9) (fun X : World => Bx X w.heap.size [.bool m.alive, .slice yma m.copies.length ymb, .slice ymc m.log.length ymd, .slice yme m.cleared.length ymf] ∧ Bx X (w.heap.size + 1) [.int .i64 r.kind, .int .i64 r.tx, .int .i64 r.region, .slice yra r.sets.length yrb]) (by kernel_rfl) ?_
    generalize s2.drew = Wd at *
    refine wpZ_take (i := 0) (v := ?_) rfl (by kernel_rfl) (fun _ _ _ h => h) (Or.inl ⟨by rfl, ?_⟩) hS ?_
    rotate_left
    · (intro X hSw; have c0 := hSw.1.1 0 _ rfl; have c1 := hSw.1.1 1 _ rfl; have c2 := hSw.1.1 2 _ rfl; have c3 := hSw.1.1 3 _ rfl; go_simp; first | done | with_reducible rfl)
    simp only [Act.put]
    refine wpZ_take (i := 2) (v := ?_) rfl (by kernel_rfl) (fun _ _ _ h => h) (Or.inl ⟨by rfl, ?_⟩) hS ?_
    rotate_left
    · (intro X hSw; have c0 := hSw.2.1 0 _ rfl; have c1 := hSw.2.1 1 _ rfl; have c2 := hSw.2.1 2 _ rfl; have c3 := hSw.2.1 3 _ rfl; go_simp; first | done | with_reducible rfl)
    simp only [Act.put]
    refine wpZ_ready (rs := [1, 8]) (by kernel_rfl) (by simp) ?_
    refine AllZ.cons rfl (fun K hK => ?_) (AllZ.cons rfl (fun K hK => ?_) AllZ.nil)
    · go_simp
      refine (KM.to Wd yma ymb ymc ymd yme ymf m tm.out (RFm.out _ bd)).mono ?_
      rintro e C0 ⟨yma2, ymb2, ymc2, ymd2, yme2, ymf2, _, rfl, oT, bC0'⟩
      have rbm' := oT.sl
      clear oT
      have rbm := rbm'
      clear rbm'
      have bC0 : Below s2.heap.size s2 C0 := bstep bd bC0'
      refine hK.out _ _ (fun _ => SF.out _ bC0) ?_
      clear hK K
      have hS := SF.out _ bC0
      refine wpZ_ready (rs := [3, 8]) (by kernel_rfl) (by simp) ?_
      refine AllZ.cons rfl (fun K hK => ?_) (AllZ.cons rfl (fun K hK => ?_) AllZ.nil)
      · go_simp
        refine (KR.to C0 yra yrb r tr.out (RFr.out _ bC0)).mono ?_
        rintro e C1 ⟨yra2, yrb2, _, rfl, oT, bC1'⟩
        have rbr' := oT.sl
        clear oT
        have rbm := rbm.later bC1'
        have rbr := rbr'
        clear rbr'
        have bC1 : Below s2.heap.size s2 C1 := bstep bC0 bC1'
        refine hK.out _ _ (fun _ => SF.out _ bC1) ?_
        clear hK K
        have hS := SF.out _ bC1
        refine wpZ_ready (rs := [4, 8]) (by kernel_rfl) (by simp) ?_
        refine AllZ.cons rfl (fun K hK => ?_) (AllZ.cons rfl (fun K hK => ?_) AllZ.nil)
        · go_simp
          refine (A1.out C1 yma2 ymb2 ymc2 ymd2 yme2 ymf2 yra2 yrb2 rbm rbr).mono ?_
          rintro e C2 ⟨ra, rb, rc, rd, re, rf, P, rfl, oA, bC2'⟩
          have lowA : s2.heap.size ≤ C1.heap.size := bC1.size
          have bC2 : Below s2.heap.size s2 C2 := bstep bC1 bC2'
          refine hK.out _ _ (fun _ => SF.out _ bC2) ?_
          clear hK K
          have hS := SF.out _ bC2
          refine wpZ_takeP (i := 5) (v := ?_) rfl (by kernel_rfl) (fun _ _ _ h => h) (Or.inl ⟨by rfl, ?_⟩) hS ?_
          rotate_left
          · (intro X _; go_simp; first | done | with_reducible rfl)
          simp only [Act.put]
          refine wpZ_takeP (i := 6) (v := ?_) rfl (by kernel_rfl) (fun _ _ _ h => h) (Or.inl ⟨by rfl, ?_⟩) hS ?_
          rotate_left
          · (intro X _; go_simp; first | done | with_reducible rfl)
          simp only [Act.put]
          refine wpZ_takeP (i := 7) (v := ?_) rfl (by kernel_rfl) (fun _ _ _ h => h) (Or.inl ⟨by rfl, ?_⟩) hS ?_
          rotate_left
          · (intro X _; go_simp; first | done | with_reducible rfl)
          simp only [Act.put]
          refine wpZ_ready (rs := [8]) (by kernel_rfl) (by simp) ?_
          refine AllZ.cons rfl (fun K hK => ?_) AllZ.nil
          go_simp
          obtain ⟨Q3, hQ3⟩ : ∃ X, X = C2.alloc (.cells #[.bool false, .slice none 0 0, .slice none 0 0, .slice none 0 0] 28) := ⟨_, rfl⟩
          rw [← hQ3]
          have bQ3' : Below C2.heap.size C2 Q3 := by rw [hQ3]; exact (Below.refl _ _).alloc (Nat.le_refl _) _
          have bQ3 : Below s2.heap.size s2 Q3 := bstep bC2 bQ3'
          have zQ3 : Bx Q3 C2.heap.size [.bool false, .slice none 0 0, .slice none 0 0, .slice none 0 0] := by rw [hQ3]; exact Bx.made C2 [.bool false, .slice none 0 0, .slice none 0 0, .slice none 0 0] _
          have lQ3 : s2.heap.size ≤ C2.heap.size := bC2.size
          refine hK.out _ _ (fun _ => SF.out _ bQ3) ?_
          clear hK K
          have hS := SF.out _ bQ3
          clear hQ3
          have hne : ∀ x, P x → x ≠ C2.heap.size := fun x hx => by have := (oA.of hx).2; omega
          have oA := oA.later bQ3'
          have KZ := hidOf zQ3
          have u0 := KZ.out.1 0 _ rfl
          have v0 := KZ.out.2.1 0
          have u1 := KZ.out.1 1 _ rfl
          have v1 := KZ.out.2.1 1
          have u2 := KZ.out.1 2 _ rfl
          have v2 := KZ.out.2.1 2
          have u3 := KZ.out.1 3 _ rfl
          have v3 := KZ.out.2.1 3
          refine wpZ_ready (rs := [9]) (by kernel_rfl) (by simp) ?_
          refine AllZ.cons rfl (fun K hK => ?_) AllZ.nil
          go_simp
          refine hK.out _ _ (fun h => absurd (show false = true from h.symm.trans (by kernel_rfl)) (by decide)) ?_
          clear hK K
          refine wpZ_ready (rs := [10]) (by kernel_rfl) (by simp) ?_
          refine AllZ.cons rfl (fun K hK => ?_) AllZ.nil
          go_simp
          refine hK.out _ _ (fun h => absurd (show false = true from h.symm.trans (by kernel_rfl)) (by decide)) ?_
          clear hK K
          refine wpZ_done (by kernel_rfl) ?_ _
          go_wp2_with fail
          go_meet
          exact ⟨C2.heap.size, ra, rb, rc, rd, re, rf, P, rfl, rfl, KZ.out.put [.bool N.alive, .slice ra N.copies.length rb, .slice rc N.log.length rd, .slice re N.cleared.length rf] rfl, (oA.keep (w' := putB Q3 (C2.heap.size) 0 [.bool N.alive, .slice ra N.copies.length rb, .slice rc N.log.length rd, .slice re N.cleared.length rf]) (by rw [putB_size]; exact Nat.le_refl _) (fun x hx => putB_block (hne x hx) _ _ _)).low lowA, hne, lQ3, putB_below lQ3 [.bool N.alive, .slice ra N.copies.length rb, .slice rc N.log.length rd, .slice re N.cleared.length rf] _ _ bQ3⟩
        · go_simp
          obtain ⟨Q2, hQ2⟩ : ∃ X, X = C1.alloc (.cells #[.bool false, .slice none 0 0, .slice none 0 0, .slice none 0 0] 28) := ⟨_, rfl⟩
          rw [← hQ2]
          have bQ2' : Below C1.heap.size C1 Q2 := by rw [hQ2]; exact (Below.refl _ _).alloc (Nat.le_refl _) _
          have bQ2 : Below s2.heap.size s2 Q2 := bstep bC1 bQ2'
          have zQ2 : Bx Q2 C1.heap.size [.bool false, .slice none 0 0, .slice none 0 0, .slice none 0 0] := by rw [hQ2]; exact Bx.made C1 [.bool false, .slice none 0 0, .slice none 0 0, .slice none 0 0] _
          have lQ2 : s2.heap.size ≤ C1.heap.size := bC1.size
          refine hK.out _ _ (fun _ => SF.out _ bQ2) ?_
          clear hK K
          have hS := SF.out _ bQ2
          clear hQ2
          have rbm := rbm.later bQ2'
          have rbr := rbr.later bQ2'
          refine wpZ_ready (rs := [4]) (by kernel_rfl) (by simp) ?_
          refine AllZ.cons rfl (fun K hK => ?_) AllZ.nil
          go_simp
          refine (A1.out Q2 yma2 ymb2 ymc2 ymd2 yme2 ymf2 yra2 yrb2 rbm rbr).mono ?_
          rintro e C3 ⟨ra, rb, rc, rd, re, rf, P, rfl, oA, bC3'⟩
          have lowA : s2.heap.size ≤ Q2.heap.size := bQ2.size
          have hne : ∀ x, P x → x ≠ C1.heap.size := fun x hx => by have := (oA.of hx).1; have := zQ2.2.2; omega
          have bC3 : Below s2.heap.size s2 C3 := bstep bQ2 bC3'
          have yC3 := zQ2.later bC3'
          refine hK.out _ _ (fun _ => SF.out _ bC3) ?_
          clear hK K
          have hS := SF.out _ bC3
          refine wpZ_takeP (i := 5) (v := ?_) rfl (by kernel_rfl) (fun _ _ _ h => h) (Or.inl ⟨by rfl, ?_⟩) hS ?_
          rotate_left
          · (intro X _; go_simp; first | done | with_reducible rfl)
          simp only [Act.put]
          refine wpZ_takeP (i := 6) (v := ?_) rfl (by kernel_rfl) (fun _ _ _ h => h) (Or.inl ⟨by rfl, ?_⟩) hS ?_
          rotate_left
          · (intro X _; go_simp; first | done | with_reducible rfl)
          simp only [Act.put]
          refine wpZ_takeP (i := 7) (v := ?_) rfl (by kernel_rfl) (fun _ _ _ h => h) (Or.inl ⟨by rfl, ?_⟩) hS ?_
          rotate_left
          · (intro X _; go_simp; first | done | with_reducible rfl)
          simp only [Act.put]
          have KZ := hidOf yC3
          have u0 := KZ.out.1 0 _ rfl
          have v0 := KZ.out.2.1 0
          have u1 := KZ.out.1 1 _ rfl
          have v1 := KZ.out.2.1 1
          have u2 := KZ.out.1 2 _ rfl
          have v2 := KZ.out.2.1 2
          have u3 := KZ.out.1 3 _ rfl
          have v3 := KZ.out.2.1 3
          refine wpZ_ready (rs := [9]) (by kernel_rfl) (by simp) ?_
          refine AllZ.cons rfl (fun K hK => ?_) AllZ.nil
          go_simp
          refine hK.out _ _ (fun h => absurd (show false = true from h.symm.trans (by kernel_rfl)) (by decide)) ?_
          clear hK K
          refine wpZ_ready (rs := [10]) (by kernel_rfl) (by simp) ?_
          refine AllZ.cons rfl (fun K hK => ?_) AllZ.nil
          go_simp
          refine hK.out _ _ (fun h => absurd (show false = true from h.symm.trans (by kernel_rfl)) (by decide)) ?_
          clear hK K
          refine wpZ_done (by kernel_rfl) ?_ _
          go_wp2_with fail
          go_meet
          exact ⟨C1.heap.size, ra, rb, rc, rd, re, rf, P, rfl, rfl, KZ.out.put [.bool N.alive, .slice ra N.copies.length rb, .slice rc N.log.length rd, .slice re N.cleared.length rf] rfl, (oA.keep (w' := putB C3 (C1.heap.size) 0 [.bool N.alive, .slice ra N.copies.length rb, .slice rc N.log.length rd, .slice re N.cleared.length rf]) (by rw [putB_size]; exact Nat.le_refl _) (fun x hx => putB_block (hne x hx) _ _ _)).low lowA, hne, lQ2, putB_below lQ2 [.bool N.alive, .slice ra N.copies.length rb, .slice rc N.log.length rd, .slice re N.cleared.length rf] _ _ bC3⟩
      · go_simp
        obtain ⟨Q1, hQ1⟩ : ∃ X, X = C0.alloc (.cells #[.bool false, .slice none 0 0, .slice none 0 0, .slice none 0 0] 28) := ⟨_, rfl⟩
        rw [← hQ1]
        have bQ1' : Below C0.heap.size C0 Q1 := by rw [hQ1]; exact (Below.refl _ _).alloc (Nat.le_refl _) _
        have bQ1 : Below s2.heap.size s2 Q1 := bstep bC0 bQ1'
        have zQ1 : Bx Q1 C0.heap.size [.bool false, .slice none 0 0, .slice none 0 0, .slice none 0 0] := by rw [hQ1]; exact Bx.made C0 [.bool false, .slice none 0 0, .slice none 0 0, .slice none 0 0] _
        have lQ1 : s2.heap.size ≤ C0.heap.size := bC0.size
        refine hK.out _ _ (fun _ => SF.out _ bQ1) ?_
        clear hK K
        have hS := SF.out _ bQ1
        clear hQ1
        have rbm := rbm.later bQ1'
        refine wpZ_ready (rs := [3]) (by kernel_rfl) (by simp) ?_
        refine AllZ.cons rfl (fun K hK => ?_) AllZ.nil
        go_simp
        refine (KR.to Q1 yra yrb r tr.out (RFr.out _ bQ1)).mono ?_
        rintro e C2 ⟨yra2, yrb2, _, rfl, oT, bC2'⟩
        have rbr' := oT.sl
        clear oT
        have rbm := rbm.later bC2'
        have rbr := rbr'
        clear rbr'
        have bC2 : Below s2.heap.size s2 C2 := bstep bQ1 bC2'
        have yC2 := zQ1.later bC2'
        refine hK.out _ _ (fun _ => SF.out _ bC2) ?_
        clear hK K
        have hS := SF.out _ bC2
        refine wpZ_ready (rs := [4]) (by kernel_rfl) (by simp) ?_
        refine AllZ.cons rfl (fun K hK => ?_) AllZ.nil
        go_simp
        refine (A1.out C2 yma2 ymb2 ymc2 ymd2 yme2 ymf2 yra2 yrb2 rbm rbr).mono ?_
        rintro e C3 ⟨ra, rb, rc, rd, re, rf, P, rfl, oA, bC3'⟩
        have lowA : s2.heap.size ≤ C2.heap.size := bC2.size
        have hne : ∀ x, P x → x ≠ C0.heap.size := fun x hx => by have := (oA.of hx).1; have := yC2.2.2; omega
        have bC3 : Below s2.heap.size s2 C3 := bstep bC2 bC3'
        have yC3 := yC2.later bC3'
        refine hK.out _ _ (fun _ => SF.out _ bC3) ?_
        clear hK K
        have hS := SF.out _ bC3
        refine wpZ_takeP (i := 5) (v := ?_) rfl (by kernel_rfl) (fun _ _ _ h => h) (Or.inl ⟨by rfl, ?_⟩) hS ?_
        rotate_left
        · (intro X _; go_simp; first | done | with_reducible rfl)
        simp only [Act.put]
        refine wpZ_takeP (i := 6) (v := ?_) rfl (by kernel_rfl) (fun _ _ _ h => h) (Or.inl ⟨by rfl, ?_⟩) hS ?_
        rotate_left
        · (intro X _; go_simp; first | done | with_reducible rfl)
        simp only [Act.put]
        refine wpZ_takeP (i := 7) (v := ?_) rfl (by kernel_rfl) (fun _ _ _ h => h) (Or.inl ⟨by rfl, ?_⟩) hS ?_
        rotate_left
        · (intro X _; go_simp; first | done | with_reducible rfl)
        simp only [Act.put]
        have KZ := hidOf yC3
        have u0 := KZ.out.1 0 _ rfl
        have v0 := KZ.out.2.1 0
        have u1 := KZ.out.1 1 _ rfl
        have v1 := KZ.out.2.1 1
        have u2 := KZ.out.1 2 _ rfl
        have v2 := KZ.out.2.1 2
        have u3 := KZ.out.1 3 _ rfl
        have v3 := KZ.out.2.1 3
        refine wpZ_ready (rs := [9]) (by kernel_rfl) (by simp) ?_
        refine AllZ.cons rfl (fun K hK => ?_) AllZ.nil
        go_simp
        refine hK.out _ _ (fun h => absurd (show false = true from h.symm.trans (by kernel_rfl)) (by decide)) ?_
        clear hK K
        refine wpZ_ready (rs := [10]) (by kernel_rfl) (by simp) ?_
        refine AllZ.cons rfl (fun K hK => ?_) AllZ.nil
        go_simp
        refine hK.out _ _ (fun h => absurd (show false = true from h.symm.trans (by kernel_rfl)) (by decide)) ?_
        clear hK K
        refine wpZ_done (by kernel_rfl) ?_ _
        go_wp2_with fail
        go_meet
        exact ⟨C0.heap.size, ra, rb, rc, rd, re, rf, P, rfl, rfl, KZ.out.put [.bool N.alive, .slice ra N.copies.length rb, .slice rc N.log.length rd, .slice re N.cleared.length rf] rfl, (oA.keep (w' := putB C3 (C0.heap.size) 0 [.bool N.alive, .slice ra N.copies.length rb, .slice rc N.log.length rd, .slice re N.cleared.length rf]) (by rw [putB_size]; exact Nat.le_refl _) (fun x hx => putB_block (hne x hx) _ _ _)).low lowA, hne, lQ1, putB_below lQ1 [.bool N.alive, .slice ra N.copies.length rb, .slice rc N.log.length rd, .slice re N.cleared.length rf] _ _ bC3⟩
    · go_simp
      obtain ⟨Q0, hQ0⟩ : ∃ X, X = Wd.alloc (.cells #[.bool false, .slice none 0 0, .slice none 0 0, .slice none 0 0] 28) := ⟨_, rfl⟩
      rw [← hQ0]
      have bQ0' : Below Wd.heap.size Wd Q0 := by rw [hQ0]; exact (Below.refl _ _).alloc (Nat.le_refl _) _
      have bQ0 : Below s2.heap.size s2 Q0 := bstep bd bQ0'
      have zQ0 : Bx Q0 Wd.heap.size [.bool false, .slice none 0 0, .slice none 0 0, .slice none 0 0] := by rw [hQ0]; exact Bx.made Wd [.bool false, .slice none 0 0, .slice none 0 0, .slice none 0 0] _
      have lQ0 : s2.heap.size ≤ Wd.heap.size := bd.size
      refine hK.out _ _ (fun _ => SF.out _ bQ0) ?_
      clear hK K
      have hS := SF.out _ bQ0
      clear hQ0
      refine wpZ_ready (rs := [1]) (by kernel_rfl) (by simp) ?_
      refine AllZ.cons rfl (fun K hK => ?_) AllZ.nil
      go_simp
      refine (KM.to Q0 yma ymb ymc ymd yme ymf m tm.out (RFm.out _ bQ0)).mono ?_
      rintro e C1 ⟨yma2, ymb2, ymc2, ymd2, yme2, ymf2, _, rfl, oT, bC1'⟩
      have rbm' := oT.sl
      clear oT
      have rbm := rbm'
      clear rbm'
      have bC1 : Below s2.heap.size s2 C1 := bstep bQ0 bC1'
      have yC1 := zQ0.later bC1'
      refine hK.out _ _ (fun _ => SF.out _ bC1) ?_
      clear hK K
      have hS := SF.out _ bC1
      refine wpZ_ready (rs := [3]) (by kernel_rfl) (by simp) ?_
      refine AllZ.cons rfl (fun K hK => ?_) AllZ.nil
      go_simp
      refine (KR.to C1 yra yrb r tr.out (RFr.out _ bC1)).mono ?_
      rintro e C2 ⟨yra2, yrb2, _, rfl, oT, bC2'⟩
      have rbr' := oT.sl
      clear oT
      have rbm := rbm.later bC2'
      have rbr := rbr'
      clear rbr'
      have bC2 : Below s2.heap.size s2 C2 := bstep bC1 bC2'
      have yC2 := yC1.later bC2'
      refine hK.out _ _ (fun _ => SF.out _ bC2) ?_
      clear hK K
      have hS := SF.out _ bC2
      refine wpZ_ready (rs := [4]) (by kernel_rfl) (by simp) ?_
      refine AllZ.cons rfl (fun K hK => ?_) AllZ.nil
      go_simp
      refine (A1.out C2 yma2 ymb2 ymc2 ymd2 yme2 ymf2 yra2 yrb2 rbm rbr).mono ?_
      rintro e C3 ⟨ra, rb, rc, rd, re, rf, P, rfl, oA, bC3'⟩
      have lowA : s2.heap.size ≤ C2.heap.size := bC2.size
      have hne : ∀ x, P x → x ≠ Wd.heap.size := fun x hx => by have := (oA.of hx).1; have := yC2.2.2; omega
      have bC3 : Below s2.heap.size s2 C3 := bstep bC2 bC3'
      have yC3 := yC2.later bC3'
      refine hK.out _ _ (fun _ => SF.out _ bC3) ?_
      clear hK K
      have hS := SF.out _ bC3
      refine wpZ_takeP (i := 5) (v := ?_) rfl (by kernel_rfl) (fun _ _ _ h => h) (Or.inl ⟨by rfl, ?_⟩) hS ?_
      rotate_left
      · (intro X _; go_simp; first | done | with_reducible rfl)
      simp only [Act.put]
      refine wpZ_takeP (i := 6) (v := ?_) rfl (by kernel_rfl) (fun _ _ _ h => h) (Or.inl ⟨by rfl, ?_⟩) hS ?_
      rotate_left
      · (intro X _; go_simp; first | done | with_reducible rfl)
      simp only [Act.put]
      refine wpZ_takeP (i := 7) (v := ?_) rfl (by kernel_rfl) (fun _ _ _ h => h) (Or.inl ⟨by rfl, ?_⟩) hS ?_
      rotate_left
      · (intro X _; go_simp; first | done | with_reducible rfl)
      simp only [Act.put]
      have KZ := hidOf yC3
      have u0 := KZ.out.1 0 _ rfl
      have v0 := KZ.out.2.1 0
      have u1 := KZ.out.1 1 _ rfl
      have v1 := KZ.out.2.1 1
      have u2 := KZ.out.1 2 _ rfl
      have v2 := KZ.out.2.1 2
      have u3 := KZ.out.1 3 _ rfl
      have v3 := KZ.out.2.1 3
      refine wpZ_ready (rs := [9]) (by kernel_rfl) (by simp) ?_
      refine AllZ.cons rfl (fun K hK => ?_) AllZ.nil
      go_simp
      refine hK.out _ _ (fun h => absurd (show false = true from h.symm.trans (by kernel_rfl)) (by decide)) ?_
      clear hK K
      refine wpZ_ready (rs := [10]) (by kernel_rfl) (by simp) ?_
      refine AllZ.cons rfl (fun K hK => ?_) AllZ.nil
      go_simp
      refine hK.out _ _ (fun h => absurd (show false = true from h.symm.trans (by kernel_rfl)) (by decide)) ?_
      clear hK K
      refine wpZ_done (by kernel_rfl) ?_ _
      go_wp2_with fail
      go_meet
      exact ⟨Wd.heap.size, ra, rb, rc, rd, re, rf, P, rfl, rfl, KZ.out.put [.bool N.alive, .slice ra N.copies.length rb, .slice rc N.log.length rd, .slice re N.cleared.length rf] rfl, (oA.keep (w' := putB C3 (Wd.heap.size) 0 [.bool N.alive, .slice ra N.copies.length rb, .slice rc N.log.length rd, .slice re N.cleared.length rf]) (by rw [putB_size]; exact Nat.le_refl _) (fun x hx => putB_block (hne x hx) _ _ _)).low lowA, hne, lQ0, putB_below lQ0 [.bool N.alive, .slice ra N.copies.length rb, .slice rc N.log.length rd, .slice re N.cleared.length rf] _ _ bC3⟩
  case rest =>
  obtain ⟨qw, nw0, nw1, nw2, nw3, nw4, nw5, Pw, rfl, rfl, xw, ow, new, lw, bw⟩ := hcut
  generalize wc = vw at *
  have Fw : Hid (Bx vw qw [.bool N.alive, .slice nw0 N.copies.length nw1, .slice nw2 N.log.length nw3, .slice nw4 N.cleared.length nw5]) := xw
  have Ow : Hid (KM.Ow vw s2.heap.size nw0 nw1 nw2 nw3 nw4 nw5 N Pw) := ow
  have NEw : Hid (∀ x, Pw x → x ≠ qw) := new
  have Lw : Hid (s2.heap.size ≤ qw) := lw
  clear xw ow new lw
  have B0_vw : Hid (Below U1.heap.size U1 vw) := bstep B0_s2.out bw
  have Zvw : Hid (s2.heap.size ≤ vw.heap.size) := bw.size
  clear B0_s2 bw
  have B3_vw : Hid (Below vw.heap.size vw vw) := Below.refl _ _
  have hbx := (Fm.out.later B0_vw.out)
  have p0 := hbx.1 0 _ rfl
  have p1 := hbx.1 1 _ rfl
  have p2 := hbx.1 2 _ rfl
  have p3 := hbx.1 3 _ rfl
  clear hbx
  go_wp2_with fail
  refine (KM.to vw yma ymb ymc ymd yme ymf m tm.out (Rm.out.later B0_vw.out)).mono ?_
  rintro e t3 ⟨yma3, ymb3, ymc3, ymd3, yme3, ymf3, Xm, rfl, ox, bt3⟩
  clear p0 p1 p2 p3
  obtain ⟨xm, hxm⟩ : ∃ X, X = t3.alloc (.cells #[.bool m.alive, .slice yma3 m.copies.length ymb3, .slice ymc3 m.log.length ymd3, .slice yme3 m.cleared.length ymf3] 28) := ⟨_, rfl⟩
  have bxm : Below t3.heap.size t3 xm := by rw [hxm]; exact (Below.refl _ _).alloc (Nat.le_refl _) _
  have Fxm : Hid (Bx xm t3.heap.size [.bool m.alive, .slice yma3 m.copies.length ymb3, .slice ymc3 m.log.length ymd3, .slice yme3 m.cleared.length ymf3]) := by rw [hxm]; exact Bx.made t3 [.bool m.alive, .slice yma3 m.copies.length ymb3, .slice ymc3 m.log.length ymd3, .slice yme3 m.cleared.length ymf3] _
  have Oxm : Hid (KM.Ow xm vw.heap.size yma3 ymb3 ymc3 ymd3 yme3 ymf3 m Xm) := ox.later bxm
  have Pxm : Hid (∀ q, Xm q → vw.heap.size ≤ q ∧ q < t3.heap.size) := fun q hq => ox.of hq
  have bb : Below vw.heap.size vw xm := bstep bt3 bxm
  have Lxm : Hid (vw.heap.size ≤ t3.heap.size) := bt3.size
  have Mxm : Hid (xm.heap.size = t3.heap.size + 1) := by rw [Hid, hxm]; simp
  clear ox bt3 bxm
  have B0_xm : Hid (Below U1.heap.size U1 xm) := bstep B0_vw.out bb
  have B3_xm : Hid (Below vw.heap.size vw xm) := bstep B3_vw.out bb
  have Zxm : Hid (vw.heap.size ≤ xm.heap.size) := bb.size
  clear B0_vw B3_vw bb
  have Bxm_xm : Hid (Below xm.heap.size xm xm) := Below.refl _ _
  have hbx := (Fr.out.later B0_xm.out)
  have p0 := hbx.1 0 _ rfl
  have p1 := hbx.1 1 _ rfl
  have p2 := hbx.1 2 _ rfl
  have p3 := hbx.1 3 _ rfl
  clear hbx
  rw [hxm] at p0 p1 p2 p3
  go_wp2_with fail
  rw [← hxm]
  clear hxm
  refine (KR.to xm yra yrb r tr.out (Rr.out.later B0_xm.out)).mono ?_
  rintro e t4 ⟨yra3, yrb3, Xr, rfl, ox, bt4⟩
  clear p0 p1 p2 p3
  obtain ⟨xr, hxr⟩ : ∃ X, X = t4.alloc (.cells #[.int .i64 r.kind, .int .i64 r.tx, .int .i64 r.region, .slice yra3 r.sets.length yrb3] 41) := ⟨_, rfl⟩
  have bxr : Below t4.heap.size t4 xr := by rw [hxr]; exact (Below.refl _ _).alloc (Nat.le_refl _) _
  have Fxr : Hid (Bx xr t4.heap.size [.int .i64 r.kind, .int .i64 r.tx, .int .i64 r.region, .slice yra3 r.sets.length yrb3]) := by rw [hxr]; exact Bx.made t4 [.int .i64 r.kind, .int .i64 r.tx, .int .i64 r.region, .slice yra3 r.sets.length yrb3] _
  have Oxr : Hid (KR.Ow xr xm.heap.size yra3 yrb3 r Xr) := ox.later bxr
  have Pxr : Hid (∀ q, Xr q → xm.heap.size ≤ q ∧ q < t4.heap.size) := fun q hq => ox.of hq
  have bb : Below xm.heap.size xm xr := bstep bt4 bxr
  have Lxr : Hid (xm.heap.size ≤ t4.heap.size) := bt4.size
  have Mxr : Hid (xr.heap.size = t4.heap.size + 1) := by rw [Hid, hxr]; simp
  clear ox bt4 bxr
  have B0_xr : Hid (Below U1.heap.size U1 xr) := bstep B0_xm.out bb
  have B3_xr : Hid (Below vw.heap.size vw xr) := bstep B3_xm.out bb
  have Bxm_xr : Hid (Below xm.heap.size xm xr) := bstep Bxm_xm.out bb
  have Zxr : Hid (xm.heap.size ≤ xr.heap.size) := bb.size
  clear B0_xm B3_xm Bxm_xm bb
  have Bxr_xr : Hid (Below xr.heap.size xr xr) := Below.refl _ _
  have B5_xr : Hid (Below xr.heap.size xr xr) := Below.refl _ _
  have Rxm : Hid (SlM xr ⟨yma3, ymb3, ymc3, ymd3, yme3, ymf3⟩ m) := (Oxm.out.later Bxm_xr.out).sl
  have Rxr : Hid (KR.Rd xr yra3 yrb3 r) := (Oxr.out.later Bxr_xr.out).sl
  have Gxm : Hid (Bx xr t3.heap.size [.bool m.alive, .slice yma3 m.copies.length ymb3, .slice ymc3 m.log.length ymd3, .slice yme3 m.cleared.length ymf3]) := Fxm.out.later Bxm_xr.out
  have Gxr : Hid (Bx xr t4.heap.size [.int .i64 r.kind, .int .i64 r.tx, .int .i64 r.region, .slice yra3 r.sets.length yrb3]) := Fxr.out.later Bxr_xr.out
  have hbx := (Gxm.out.later B5_xr.out)
  have pm0 := hbx.1 0 _ rfl
  have pm1 := hbx.1 1 _ rfl
  have pm2 := hbx.1 2 _ rfl
  have pm3 := hbx.1 3 _ rfl
  clear hbx
  have hbx := (Gxr.out.later B5_xr.out)
  have pr0 := hbx.1 0 _ rfl
  have pr1 := hbx.1 1 _ rfl
  have pr2 := hbx.1 2 _ rfl
  have pr3 := hbx.1 3 _ rfl
  clear hbx
  rw [hxr] at pm0 pm1 pm2 pm3 pr0 pr1 pr2 pr3
  go_wp2_with fail
  rw [← hxr]
  clear hxr
  refine (A2.out xr yma3 ymb3 ymc3 ymd3 yme3 ymf3 yra3 yrb3 (Rxm.out.later B5_xr.out) (Rxr.out.later B5_xr.out)).mono ?_
  rintro e t5 ⟨ng0, ng1, ng2, ng3, ng4, ng5, Pg, rfl, og, bt5⟩
  clear pm0 pm1 pm2 pm3 pr0 pr1 pr2 pr3
  obtain ⟨vg, hvg⟩ : ∃ X, X = t5.alloc (.cells #[.bool N.alive, .slice ng0 N.copies.length ng1, .slice ng2 N.log.length ng3, .slice ng4 N.cleared.length ng5] 28) := ⟨_, rfl⟩
  have bvg : Below t5.heap.size t5 vg := by rw [hvg]; exact (Below.refl _ _).alloc (Nat.le_refl _) _
  have Fg : Hid (Bx vg t5.heap.size [.bool N.alive, .slice ng0 N.copies.length ng1, .slice ng2 N.log.length ng3, .slice ng4 N.cleared.length ng5]) := by rw [hvg]; exact Bx.made t5 [.bool N.alive, .slice ng0 N.copies.length ng1, .slice ng2 N.log.length ng3, .slice ng4 N.cleared.length ng5] _
  have Og : Hid (KM.Ow vg xr.heap.size ng0 ng1 ng2 ng3 ng4 ng5 N Pg) := og.later bvg
  have NEg : Hid (∀ x, Pg x → x ≠ t5.heap.size) := fun x hx => by have := (og.of hx).2; omega
  obtain ⟨qg, hqg⟩ : ∃ q, q = t5.heap.size := ⟨_, rfl⟩
  have bb : Below xr.heap.size xr vg := bstep bt5 bvg
  have Lg : Hid (xr.heap.size ≤ t5.heap.size) := bt5.size
  clear og bt5 bvg hqg qg
  have B0_vg : Hid (Below U1.heap.size U1 vg) := bstep B0_xr.out bb
  have B3_vg : Hid (Below vw.heap.size vw vg) := bstep B3_xr.out bb
  have Bxm_vg : Hid (Below xm.heap.size xm vg) := bstep Bxm_xr.out bb
  have Bxr_vg : Hid (Below xr.heap.size xr vg) := bstep Bxr_xr.out bb
  have B5_vg : Hid (Below xr.heap.size xr vg) := bstep B5_xr.out bb
  have Zvg : Hid (xr.heap.size ≤ vg.heap.size) := bb.size
  clear B0_xr B3_xr Bxm_xr Bxr_xr B5_xr bb
  have B7_vg : Hid (Below vg.heap.size vg vg) := Below.refl _ _
  have hbx := (Fg.out.later B7_vg.out)
  have g0 := hbx.1 0 _ rfl
  have g1 := hbx.1 1 _ rfl
  have g2 := hbx.1 2 _ rfl
  have g3 := hbx.1 3 _ rfl
  clear hbx
  have hbx := (Fw.out.later B3_vg.out)
  have y0 := hbx.1 0 _ rfl
  have y1 := hbx.1 1 _ rfl
  have y2 := hbx.1 2 _ rfl
  have y3 := hbx.1 3 _ rfl
  clear hbx
  rw [hvg] at g0 g1 g2 g3 y0 y1 y2 y3
  go_wp2_with fail
  rw [← hvg]
  clear hvg
  refine (KM.eq vg ng0 ng1 ng2 ng3 ng4 ng5 nw0 nw1 nw2 nw3 nw4 nw5 N tN.out (Og.out.sl.later B7_vg.out) (Ow.out.sl.later B3_vg.out)).mono ?_
  rintro e t6 ⟨rfl, bt6⟩
  clear g0 g1 g2 g3 y0 y1 y2 y3
  have B0_t6 : Hid (Below U1.heap.size U1 t6) := bstep B0_vg.out bt6
  have B3_t6 : Hid (Below vw.heap.size vw t6) := bstep B3_vg.out bt6
  have Bxm_t6 : Hid (Below xm.heap.size xm t6) := bstep Bxm_vg.out bt6
  have Bxr_t6 : Hid (Below xr.heap.size xr t6) := bstep Bxr_vg.out bt6
  have B5_t6 : Hid (Below xr.heap.size xr t6) := bstep B5_vg.out bt6
  have B7_t6 : Hid (Below vg.heap.size vg t6) := bstep B7_vg.out bt6
  have Zt6 : Hid (vg.heap.size ≤ t6.heap.size) := bt6.size
  clear B0_vg B3_vg Bxm_vg Bxr_vg B5_vg B7_vg bt6
  go_upto_region 14 with fail
  go_cut [58] from 54 to 58 (fun s0 wx => s0 = .bool false ∧ Below t6.heap.size t6 wx)
  case first =>
    have bd : Below t6.heap.size t6 t6.drew := (Below.refl _ _).drew
    have hbx := (Fm.out.later (bstep B0_t6.out bd))
    have p0 := hbx.1 0 _ rfl
    have p1 := hbx.1 1 _ rfl
    have p2 := hbx.1 2 _ rfl
    have p3 := hbx.1 3 _ rfl
    clear hbx
    have hbx := (Gxm.out.later (bstep B5_t6.out bd))
    have e0 := hbx.1 0 _ rfl
    have e1 := hbx.1 1 _ rfl
    have e2 := hbx.1 2 _ rfl
    have e3 := hbx.1 3 _ rfl
    clear hbx
    have h47 : t3.heap.size < t6.drew.heap.size := (Gxm.out.later (bstep B5_t6.out bd)).2.2
    have sx : Hid (SlM t6.drew ⟨yma3, ymb3, ymc3, ymd3, yme3, ymf3⟩ m) := Rxm.out.later (bstep B5_t6.out bd)
    have KB := hidOf bd
    have ra := Rm.out.later (bstep B0_t6.out bd)
    clear bd
    go_region_with (first
      | (go_at_call 29
         refine (KM.to t6.drew yma ymb ymc ymd yme ymf m tm.out ra).mono ?_
         rintro e w8 ⟨yma8, ymb8, ymc8, ymd8, yme8, ymf8, _, rfl, o8, b8⟩
         have e0' : w8.cell? ⟨t3.heap.size, 0, none⟩ = some (.bool m.alive) := (b8.cell (p := ⟨t3.heap.size, 0, none⟩) h47).trans e0
         have e1' : w8.cell? ⟨t3.heap.size, 1, none⟩ = some (.slice yma3 m.copies.length ymb3) := (b8.cell (p := ⟨t3.heap.size, 1, none⟩) h47).trans e1
         have e2' : w8.cell? ⟨t3.heap.size, 2, none⟩ = some (.slice ymc3 m.log.length ymd3) := (b8.cell (p := ⟨t3.heap.size, 2, none⟩) h47).trans e2
         have e3' : w8.cell? ⟨t3.heap.size, 3, none⟩ = some (.slice yme3 m.cleared.length ymf3) := (b8.cell (p := ⟨t3.heap.size, 3, none⟩) h47).trans e3
         have S8 : Hid (SlM w8 ⟨yma3, ymb3, ymc3, ymd3, yme3, ymf3⟩ m ∧ SlM w8 ⟨yma8, ymb8, ymc8, ymd8, yme8, ymf8⟩ m ∧ Below t6.heap.size t6 w8) := ⟨sx.out.later b8, o8.sl, bstep KB.out b8⟩
         clear o8 b8)
      | (go_at_call 31
         refine (KM.eq w8 yma3 ymb3 ymc3 ymd3 yme3 ymf3 yma8 ymb8 ymc8 ymd8 yme8 ymf8 m tm.out S8.out.1 S8.out.2.1).mono ?_
         rintro e w9 ⟨rfl, b9⟩))
    all_goals (
      go_wp2_with fail
      go_meet
      exact ⟨rfl, bstep S8.out.2.2 b9⟩)
  case rest =>
  obtain ⟨rfl, bx⟩ := hcut
  generalize wc = t7 at *
  have B0_t7 : Hid (Below U1.heap.size U1 t7) := bstep B0_t6.out bx
  have B3_t7 : Hid (Below vw.heap.size vw t7) := bstep B3_t6.out bx
  have Bxm_t7 : Hid (Below xm.heap.size xm t7) := bstep Bxm_t6.out bx
  have Bxr_t7 : Hid (Below xr.heap.size xr t7) := bstep Bxr_t6.out bx
  have B5_t7 : Hid (Below xr.heap.size xr t7) := bstep B5_t6.out bx
  have B7_t7 : Hid (Below vg.heap.size vg t7) := bstep B7_t6.out bx
  have Zt7 : Hid (t6.heap.size ≤ t7.heap.size) := bx.size
  clear B0_t6 B3_t6 Bxm_t6 Bxr_t6 B5_t6 B7_t6 bx
  go_upto_region 16 with fail
  go_cut [63] from 59 to 63 (fun s0 wx => s0 = .bool false ∧ Below t7.heap.size t7 wx)
  case first =>
    have bd : Below t7.heap.size t7 t7.drew := (Below.refl _ _).drew
    have hbx := (Fr.out.later (bstep B0_t7.out bd))
    have p0 := hbx.1 0 _ rfl
    have p1 := hbx.1 1 _ rfl
    have p2 := hbx.1 2 _ rfl
    have p3 := hbx.1 3 _ rfl
    clear hbx
    have hbx := (Gxr.out.later (bstep B5_t7.out bd))
    have e0 := hbx.1 0 _ rfl
    have e1 := hbx.1 1 _ rfl
    have e2 := hbx.1 2 _ rfl
    have e3 := hbx.1 3 _ rfl
    clear hbx
    have h47 : t4.heap.size < t7.drew.heap.size := (Gxr.out.later (bstep B5_t7.out bd)).2.2
    have sx : Hid (KR.Rd t7.drew yra3 yrb3 r) := Rxr.out.later (bstep B5_t7.out bd)
    have KB := hidOf bd
    have ra := Rr.out.later (bstep B0_t7.out bd)
    clear bd
    go_region_with (first
      | (go_at_call 37
         refine (KR.to t7.drew yra yrb r tr.out ra).mono ?_
         rintro e w8 ⟨yra8, yrb8, _, rfl, o8, b8⟩
         have e0' : w8.cell? ⟨t4.heap.size, 0, none⟩ = some (.int .i64 r.kind) := (b8.cell (p := ⟨t4.heap.size, 0, none⟩) h47).trans e0
         have e1' : w8.cell? ⟨t4.heap.size, 1, none⟩ = some (.int .i64 r.tx) := (b8.cell (p := ⟨t4.heap.size, 1, none⟩) h47).trans e1
         have e2' : w8.cell? ⟨t4.heap.size, 2, none⟩ = some (.int .i64 r.region) := (b8.cell (p := ⟨t4.heap.size, 2, none⟩) h47).trans e2
         have e3' : w8.cell? ⟨t4.heap.size, 3, none⟩ = some (.slice yra3 r.sets.length yrb3) := (b8.cell (p := ⟨t4.heap.size, 3, none⟩) h47).trans e3
         have S8 : Hid (KR.Rd w8 yra3 yrb3 r ∧ KR.Rd w8 yra8 yrb8 r ∧ Below t7.heap.size t7 w8) := ⟨sx.out.later b8, o8.sl, bstep KB.out b8⟩
         clear o8 b8)
      | (go_at_call 38
         refine (KR.eq w8 yra3 yrb3 yra8 yrb8 r tr.out S8.out.1 S8.out.2.1).mono ?_
         rintro e w9 ⟨rfl, b9⟩))
    all_goals (
      go_wp2_with fail
      go_meet
      exact ⟨rfl, bstep S8.out.2.2 b9⟩)
  case rest =>
  obtain ⟨rfl, bx⟩ := hcut
  generalize wc = t8 at *
  have B0_t8 : Hid (Below U1.heap.size U1 t8) := bstep B0_t7.out bx
  have B3_t8 : Hid (Below vw.heap.size vw t8) := bstep B3_t7.out bx
  have Bxm_t8 : Hid (Below xm.heap.size xm t8) := bstep Bxm_t7.out bx
  have Bxr_t8 : Hid (Below xr.heap.size xr t8) := bstep Bxr_t7.out bx
  have B5_t8 : Hid (Below xr.heap.size xr t8) := bstep B5_t7.out bx
  have B7_t8 : Hid (Below vg.heap.size vg t8) := bstep B7_t7.out bx
  have Zt8 : Hid (t7.heap.size ≤ t8.heap.size) := bx.size
  clear B0_t7 B3_t7 Bxm_t7 Bxr_t7 B5_t7 B7_t7 bx
  have Oxm : Hid (KM.Ow t8 _ yma3 ymb3 ymc3 ymd3 yme3 ymf3 m Xm) := Oxm.out.later Bxm_t8.out
  have Gxm : Hid (Bx t8 t3.heap.size [.bool m.alive, .slice yma3 m.copies.length ymb3, .slice ymc3 m.log.length ymd3, .slice yme3 m.cleared.length ymf3]) := Gxm.out.later B5_t8.out
  have Oxr : Hid (KR.Ow t8 _ yra3 yrb3 r Xr) := Oxr.out.later Bxr_t8.out
  have Gxr : Hid (Bx t8 t4.heap.size [.int .i64 r.kind, .int .i64 r.tx, .int .i64 r.region, .slice yra3 r.sets.length yrb3]) := Gxr.out.later B5_t8.out
  have Og : Hid (KM.Ow t8 xr.heap.size ng0 ng1 ng2 ng3 ng4 ng5 N Pg) := Og.out.later B7_t8.out
  have Fg : Hid (Bx t8 t5.heap.size [.bool N.alive, .slice ng0 N.copies.length ng1, .slice ng2 N.log.length ng3, .slice ng4 N.cleared.length ng5]) := Fg.out.later B7_t8.out
  have k0 : Hid ((0 : Int) ≤ 1 ∧ (1 : Int) ≤ 1) := by unfold Hid; omega
  have hbx := Gxm.out
  have e0 := hbx.1 0 _ rfl
  have e1 := hbx.1 1 _ rfl
  have e2 := hbx.1 2 _ rfl
  have e3 := hbx.1 3 _ rfl
  clear hbx
  have hmk := KM.mark t8 _ yma3 ymb3 ymc3 ymd3 yme3 ymf3 m Xm 1 (by have := k0.out; omega) (by have := k0.out; omega) tm.out Oxm.out
  obtain ⟨E0, hE0⟩ : ∃ z, z = (endM m 1) := ⟨_, rfl⟩
  rw [← hE0] at hmk
  have k1 : Hid ((0 : Int) ≤ E0 ∧ E0 ≤ 300000000) := by
    rw [hE0]
    have := k0.out
    have e1 := endM_big m 1
    have e2 := endM_top m 1 tm.out
    refine ⟨by omega, ?_⟩
    omega
  clear hE0
  go_wp2_with fail
  refine hmk.mono ?_
  clear hmk e0 e1 e2 e3
  rintro e t9 ⟨rfl, kp, -⟩
  have B0_t9 : Hid (Below U1.heap.size U1 t9) := bkept B0_t8.out kp (fun q hq => by have := ZU.out; have := Zs1.out; have := Zs2.out; have := Lw.out; have := Zvw.out; have := Lxm.out; have := Mxm.out; have := Zxm.out; have := Lxr.out; have := Mxr.out; have := Zxr.out; have := Lg.out; have := Zvg.out; have := Zt6.out; have := Zt7.out; have := Zt8.out; have := (Pxm.out q hq).1; omega)
  have B3_t9 : Hid (Below vw.heap.size vw t9) := bkept B3_t8.out kp (fun q hq => by have := ZU.out; have := Zs1.out; have := Zs2.out; have := Lw.out; have := Zvw.out; have := Lxm.out; have := Mxm.out; have := Zxm.out; have := Lxr.out; have := Mxr.out; have := Zxr.out; have := Lg.out; have := Zvg.out; have := Zt6.out; have := Zt7.out; have := Zt8.out; have := (Pxm.out q hq).1; omega)
  have Oxr : Hid (KR.Ow t9 _ yra3 yrb3 r Xr) := Oxr.out.keep kp.size (fun q hq => kp.block q (Oxr.out.of hq).2 (fun e => by have := ZU.out; have := Zs1.out; have := Zs2.out; have := Lw.out; have := Zvw.out; have := Lxm.out; have := Mxm.out; have := Zxm.out; have := Lxr.out; have := Mxr.out; have := Zxr.out; have := Lg.out; have := Zvg.out; have := Zt6.out; have := Zt7.out; have := Zt8.out; have := (Pxm.out q e).2; have := (Pxr.out q hq).1; omega))
  have Gxr : Hid (Bx t9 t4.heap.size [.int .i64 r.kind, .int .i64 r.tx, .int .i64 r.region, .slice yra3 r.sets.length yrb3]) := Gxr.out.of_block (kp.block _ Gxr.out.2.2 (fun e => by have := ZU.out; have := Zs1.out; have := Zs2.out; have := Lw.out; have := Zvw.out; have := Lxm.out; have := Mxm.out; have := Zxm.out; have := Lxr.out; have := Mxr.out; have := Zxr.out; have := Lg.out; have := Zvg.out; have := Zt6.out; have := Zt7.out; have := Zt8.out; have := (Pxm.out _ e).2; omega)) kp.size
  have Og : Hid (KM.Ow t9 xr.heap.size ng0 ng1 ng2 ng3 ng4 ng5 N Pg) := Og.out.keep kp.size (fun q hq => kp.block q (Og.out.of hq).2 (fun e => by have := ZU.out; have := Zs1.out; have := Zs2.out; have := Lw.out; have := Zvw.out; have := Lxm.out; have := Mxm.out; have := Zxm.out; have := Lxr.out; have := Mxr.out; have := Zxr.out; have := Lg.out; have := Zvg.out; have := Zt6.out; have := Zt7.out; have := Zt8.out; have := (Pxm.out q e).2; have := (Og.out.of hq).1; omega))
  have Fg : Hid (Bx t9 t5.heap.size [.bool N.alive, .slice ng0 N.copies.length ng1, .slice ng2 N.log.length ng3, .slice ng4 N.cleared.length ng5]) := Fg.out.of_block (kp.block _ Fg.out.2.2 (fun e => by have := ZU.out; have := Zs1.out; have := Zs2.out; have := Lw.out; have := Zvw.out; have := Lxm.out; have := Mxm.out; have := Zxm.out; have := Lxr.out; have := Mxr.out; have := Zxr.out; have := Lg.out; have := Zvg.out; have := Zt6.out; have := Zt7.out; have := Zt8.out; have := (Pxm.out _ e).2; omega)) kp.size
  have Zt9 : Hid (t8.heap.size ≤ t9.heap.size) := kp.size
  clear kp
  have hbx := Gxr.out
  have e0 := hbx.1 0 _ rfl
  have e1 := hbx.1 1 _ rfl
  have e2 := hbx.1 2 _ rfl
  have e3 := hbx.1 3 _ rfl
  clear hbx
  have hmk := KR.mark t9 _ yra3 yrb3 r Xr E0 (by have := k1.out; omega) (by have := k1.out; omega) tr.out Oxr.out
  obtain ⟨E1, hE1⟩ : ∃ z, z = (E0 + 5 * (r.sets.length : Int)) := ⟨_, rfl⟩
  rw [← hE1] at hmk
  have k2 : Hid ((0 : Int) ≤ E1 ∧ E1 ≤ 600000000) := by
    rw [hE1]
    have := k1.out
    have e1 := tr.out
    refine ⟨by omega, ?_⟩
    omega
  clear hE1
  have dE : decide (E1 < 0) = false := by have := k2.out; simp; omega
  go_wp2_with fail
  refine hmk.mono ?_
  clear hmk e0 e1 e2 e3
  rintro e t10 ⟨rfl, kp⟩
  have B0_t10 : Hid (Below U1.heap.size U1 t10) := bkept B0_t9.out kp (fun q hq => by have := ZU.out; have := Zs1.out; have := Zs2.out; have := Lw.out; have := Zvw.out; have := Lxm.out; have := Mxm.out; have := Zxm.out; have := Lxr.out; have := Mxr.out; have := Zxr.out; have := Lg.out; have := Zvg.out; have := Zt6.out; have := Zt7.out; have := Zt8.out; have := Zt9.out; have := (Pxr.out q hq).1; omega)
  have B3_t10 : Hid (Below vw.heap.size vw t10) := bkept B3_t9.out kp (fun q hq => by have := ZU.out; have := Zs1.out; have := Zs2.out; have := Lw.out; have := Zvw.out; have := Lxm.out; have := Mxm.out; have := Zxm.out; have := Lxr.out; have := Mxr.out; have := Zxr.out; have := Lg.out; have := Zvg.out; have := Zt6.out; have := Zt7.out; have := Zt8.out; have := Zt9.out; have := (Pxr.out q hq).1; omega)
  have Og : Hid (KM.Ow t10 xr.heap.size ng0 ng1 ng2 ng3 ng4 ng5 N Pg) := Og.out.keep kp.size (fun q hq => kp.block q (Og.out.of hq).2 (fun e => by have := ZU.out; have := Zs1.out; have := Zs2.out; have := Lw.out; have := Zvw.out; have := Lxm.out; have := Mxm.out; have := Zxm.out; have := Lxr.out; have := Mxr.out; have := Zxr.out; have := Lg.out; have := Zvg.out; have := Zt6.out; have := Zt7.out; have := Zt8.out; have := Zt9.out; have := (Pxr.out q e).2; have := (Og.out.of hq).1; omega))
  have Fg : Hid (Bx t10 t5.heap.size [.bool N.alive, .slice ng0 N.copies.length ng1, .slice ng2 N.log.length ng3, .slice ng4 N.cleared.length ng5]) := Fg.out.of_block (kp.block _ Fg.out.2.2 (fun e => by have := ZU.out; have := Zs1.out; have := Zs2.out; have := Lw.out; have := Zvw.out; have := Lxm.out; have := Mxm.out; have := Zxm.out; have := Lxr.out; have := Mxr.out; have := Zxr.out; have := Lg.out; have := Zvg.out; have := Zt6.out; have := Zt7.out; have := Zt8.out; have := Zt9.out; have := (Pxr.out _ e).2; omega)) kp.size
  have Zt10 : Hid (t9.heap.size ≤ t10.heap.size) := kp.size
  clear kp
  have B9_t10 : Hid (Below t10.heap.size t10 t10) := Below.refl _ _
  have hbx := (Fg.out.later B9_t10.out)
  have g0 := hbx.1 0 _ rfl
  have g1 := hbx.1 1 _ rfl
  have g2 := hbx.1 2 _ rfl
  have g3 := hbx.1 3 _ rfl
  clear hbx
  have hbx := (Fw.out.later B3_t10.out)
  have y0 := hbx.1 0 _ rfl
  have y1 := hbx.1 1 _ rfl
  have y2 := hbx.1 2 _ rfl
  have y3 := hbx.1 3 _ rfl
  clear hbx
  go_wp2_with fail
  refine (KM.eq t10 ng0 ng1 ng2 ng3 ng4 ng5 nw0 nw1 nw2 nw3 nw4 nw5 N tN.out (Og.out.sl.later B9_t10.out) (Ow.out.sl.later B3_t10.out)).mono ?_
  rintro e t11 ⟨rfl, bt11⟩
  clear g0 g1 g2 g3 y0 y1 y2 y3
  have B0_t11 : Hid (Below U1.heap.size U1 t11) := bstep B0_t10.out bt11
  have B3_t11 : Hid (Below vw.heap.size vw t11) := bstep B3_t10.out bt11
  have B9_t11 : Hid (Below t10.heap.size t10 t11) := bstep B9_t10.out bt11
  have Zt11 : Hid (t10.heap.size ≤ t11.heap.size) := bt11.size
  clear B0_t10 B3_t10 B9_t10 bt11
  have hmk := KM.mark t11 xr.heap.size ng0 ng1 ng2 ng3 ng4 ng5 N Pg 1 (by omega) (by omega) tN.out (Og.out.later B9_t11.out)
  have HH : Hid (∀ X, SlM X ⟨ng0, ng1, ng2, ng3, ng4, ng5⟩ (mkM N 1) → Calls Tryz.prog 35 #[.agg #[.bool N.alive, .slice ng0 N.copies.length ng1, .slice ng2 N.log.length ng3, .slice ng4 N.cleared.length ng5], .int .i64 1] X fun e w' => e = .returned (.int .i64 (endM N 1)) ∧ Below X.heap.size X w') := fun X hX => KM.held X ng0 ng1 ng2 ng3 ng4 ng5 N 1 (by omega) (by omega) tN.out hX
  obtain ⟨G, hG⟩ : ∃ z, z = (endM N 1) := ⟨_, rfl⟩
  rw [← hG] at hmk HH
  have dG : decide (G < 0) = false := by
    rw [hG]
    have e1 := endM_big N 1
    simp
    omega
  have dH : (G != G) = false := by simp
  clear hG
  have hbx := (Fg.out.later B9_t11.out)
  have g0 := hbx.1 0 _ rfl
  have g1 := hbx.1 1 _ rfl
  have g2 := hbx.1 2 _ rfl
  have g3 := hbx.1 3 _ rfl
  clear hbx
  go_wp2_with fail
  refine hmk.mono ?_
  clear hmk g0 g1 g2 g3
  rintro e t12 ⟨rfl, kp, om⟩
  have B0_t12 : Hid (Below U1.heap.size U1 t12) := bkept B0_t11.out kp (fun q hq => by have := ZU.out; have := Zs1.out; have := Zs2.out; have := Lw.out; have := Zvw.out; have := Lxm.out; have := Mxm.out; have := Zxm.out; have := Lxr.out; have := Mxr.out; have := Zxr.out; have := Lg.out; have := Zvg.out; have := Zt6.out; have := Zt7.out; have := Zt8.out; have := Zt9.out; have := Zt10.out; have := Zt11.out; have := (Og.out.of hq).1; omega)
  have B3_t12 : Hid (Below vw.heap.size vw t12) := bkept B3_t11.out kp (fun q hq => by have := ZU.out; have := Zs1.out; have := Zs2.out; have := Lw.out; have := Zvw.out; have := Lxm.out; have := Mxm.out; have := Zxm.out; have := Lxr.out; have := Mxr.out; have := Zxr.out; have := Lg.out; have := Zvg.out; have := Zt6.out; have := Zt7.out; have := Zt8.out; have := Zt9.out; have := Zt10.out; have := Zt11.out; have := (Og.out.of hq).1; omega)
  have Fg : Hid (Bx t12 t5.heap.size [.bool N.alive, .slice ng0 N.copies.length ng1, .slice ng2 N.log.length ng3, .slice ng4 N.cleared.length ng5]) := (Fg.out.later B9_t11.out).of_block (kp.block _ (Fg.out.later B9_t11.out).2.2 (fun e => NEg.out _ e rfl)) kp.size
  have Om := hidOf om
  have Zt12 : Hid (t11.heap.size ≤ t12.heap.size) := kp.size
  clear kp om B9_t11
  have B10_t12 : Hid (Below t12.heap.size t12 t12) := Below.refl _ _
  have hbx := (Fg.out.later B10_t12.out)
  have g0 := hbx.1 0 _ rfl
  have g1 := hbx.1 1 _ rfl
  have g2 := hbx.1 2 _ rfl
  have g3 := hbx.1 3 _ rfl
  clear hbx
  go_wp2_with fail
  refine (HH.out t12 (Om.out.later B10_t12.out)).mono ?_
  rintro e t13 ⟨rfl, bt13⟩
  clear g0 g1 g2 g3
  have B0_t13 : Hid (Below U1.heap.size U1 t13) := bstep B0_t12.out bt13
  have B3_t13 : Hid (Below vw.heap.size vw t13) := bstep B3_t12.out bt13
  have B10_t13 : Hid (Below t12.heap.size t12 t13) := bstep B10_t12.out bt13
  have Zt13 : Hid (t12.heap.size ≤ t13.heap.size) := bt13.size
  clear B0_t12 B3_t12 B10_t12 bt13
  go_upto_region 31 with fail
  go_cut [15, 16] from 94 to 101 (fun s15 s16 wx => Gx t13 wx s15 s16 N o0)
  case first =>
    have bd : Below t13.heap.size t13 t13.drew := (Below.refl _ _).drew
    have SF : Hid (∀ X, Below t13.heap.size t13 X → (fun X : World => Bx X w.heap.size [.bool m.alive, .slice yma m.copies.length ymb, .slice ymc m.log.length ymd, .slice yme m.cleared.length ymf] ∧ Bx X (w.heap.size + 1) [.int .i64 r.kind, .int .i64 r.tx, .int .i64 r.region, .slice yra r.sets.length yrb]) X) := fun X hX => ⟨(Fm.out.later (bstep B0_t13.out hX)), (Fr.out.later (bstep B0_t13.out hX))⟩
    have hS : (fun X : World => Bx X w.heap.size [.bool m.alive, .slice yma m.copies.length ymb, .slice ymc m.log.length ymd, .slice yme m.cleared.length ymf] ∧ Bx X (w.heap.size + 1) [.int .i64 r.kind, .int .i64 r.tx, .int .i64 r.region, .slice yra r.sets.length yrb]) t13.drew := SF.out _ bd
    have RFm : Hid (∀ X, Below t13.heap.size t13 X → SlM X ⟨yma, ymb, ymc, ymd, yme, ymf⟩ m) := fun X hX => Rm.out.later (bstep B0_t13.out hX)
    have RFr : Hid (∀ X, Below t13.heap.size t13 X → KR.Rd X yra yrb r) := fun X hX => Rr.out.later (bstep B0_t13.out hX)
    refine wp_region_z (fun z => z == 9) (fun X : World => Bx X w.heap.size [.bool m.alive, .slice yma m.copies.length ymb, .slice ymc m.log.length ymd, .slice yme m.cleared.length ymf] ∧ Bx X (w.heap.size + 1) [.int .i64 r.kind, .int .i64 r.tx, .int .i64 r.region, .slice yra r.sets.length yrb]) (by kernel_rfl) ?_
    generalize t13.drew = Wd at *
    refine wpZ_take (i := 0) (v := ?_) rfl (by kernel_rfl) (fun _ _ _ h => h) (Or.inl ⟨by rfl, ?_⟩) hS ?_
    rotate_left
    · (intro X hSw; have c0 := hSw.1.1 0 _ rfl; have c1 := hSw.1.1 1 _ rfl; have c2 := hSw.1.1 2 _ rfl; have c3 := hSw.1.1 3 _ rfl; go_simp; first | done | with_reducible rfl)
    simp only [Act.put]
    refine wpZ_take (i := 2) (v := ?_) rfl (by kernel_rfl) (fun _ _ _ h => h) (Or.inl ⟨by rfl, ?_⟩) hS ?_
    rotate_left
    · (intro X hSw; have c0 := hSw.2.1 0 _ rfl; have c1 := hSw.2.1 1 _ rfl; have c2 := hSw.2.1 2 _ rfl; have c3 := hSw.2.1 3 _ rfl; go_simp; first | done | with_reducible rfl)
    simp only [Act.put]
    refine wpZ_ready (rs := [1, 8]) (by kernel_rfl) (by simp) ?_
    refine AllZ.cons rfl (fun K hK => ?_) (AllZ.cons rfl (fun K hK => ?_) AllZ.nil)
    · go_simp
      refine (KM.to Wd yma ymb ymc ymd yme ymf m tm.out (RFm.out _ bd)).mono ?_
      rintro e C0 ⟨yma2, ymb2, ymc2, ymd2, yme2, ymf2, _, rfl, oT, bC0'⟩
      have rbm' := oT.sl
      clear oT
      have rbm := rbm'
      clear rbm'
      have bC0 : Below t13.heap.size t13 C0 := bstep bd bC0'
      refine hK.out _ _ (fun _ => SF.out _ bC0) ?_
      clear hK K
      have hS := SF.out _ bC0
      refine wpZ_ready (rs := [3, 8]) (by kernel_rfl) (by simp) ?_
      refine AllZ.cons rfl (fun K hK => ?_) (AllZ.cons rfl (fun K hK => ?_) AllZ.nil)
      · go_simp
        refine (KR.to C0 yra yrb r tr.out (RFr.out _ bC0)).mono ?_
        rintro e C1 ⟨yra2, yrb2, _, rfl, oT, bC1'⟩
        have rbr' := oT.sl
        clear oT
        have rbm := rbm.later bC1'
        have rbr := rbr'
        clear rbr'
        have bC1 : Below t13.heap.size t13 C1 := bstep bC0 bC1'
        refine hK.out _ _ (fun _ => SF.out _ bC1) ?_
        clear hK K
        have hS := SF.out _ bC1
        refine wpZ_ready (rs := [4, 8]) (by kernel_rfl) (by simp) ?_
        refine AllZ.cons rfl (fun K hK => ?_) (AllZ.cons rfl (fun K hK => ?_) AllZ.nil)
        · go_simp
          refine (A2.out C1 yma2 ymb2 ymc2 ymd2 yme2 ymf2 yra2 yrb2 rbm rbr).mono ?_
          rintro e C2 ⟨ra, rb, rc, rd, re, rf, P, rfl, oA, bC2'⟩
          have lowA : t13.heap.size ≤ C1.heap.size := bC1.size
          have bC2 : Below t13.heap.size t13 C2 := bstep bC1 bC2'
          refine hK.out _ _ (fun _ => SF.out _ bC2) ?_
          clear hK K
          have hS := SF.out _ bC2
          refine wpZ_takeP (i := 5) (v := ?_) rfl (by kernel_rfl) (fun _ _ _ h => h) (Or.inl ⟨by rfl, ?_⟩) hS ?_
          rotate_left
          · (intro X _; go_simp; first | done | with_reducible rfl)
          simp only [Act.put]
          refine wpZ_takeP (i := 6) (v := ?_) rfl (by kernel_rfl) (fun _ _ _ h => h) (Or.inl ⟨by rfl, ?_⟩) hS ?_
          rotate_left
          · (intro X _; go_simp; first | done | with_reducible rfl)
          simp only [Act.put]
          refine wpZ_takeP (i := 7) (v := ?_) rfl (by kernel_rfl) (fun _ _ _ h => h) (Or.inl ⟨by rfl, ?_⟩) hS ?_
          rotate_left
          · (intro X _; go_simp; first | done | with_reducible rfl)
          simp only [Act.put]
          refine wpZ_ready (rs := [8]) (by kernel_rfl) (by simp) ?_
          refine AllZ.cons rfl (fun K hK => ?_) AllZ.nil
          go_simp
          obtain ⟨Q3, hQ3⟩ : ∃ X, X = C2.alloc (.cells #[.bool false, .slice none 0 0, .slice none 0 0, .slice none 0 0] 28) := ⟨_, rfl⟩
          rw [← hQ3]
          have bQ3' : Below C2.heap.size C2 Q3 := by rw [hQ3]; exact (Below.refl _ _).alloc (Nat.le_refl _) _
          have bQ3 : Below t13.heap.size t13 Q3 := bstep bC2 bQ3'
          have zQ3 : Bx Q3 C2.heap.size [.bool false, .slice none 0 0, .slice none 0 0, .slice none 0 0] := by rw [hQ3]; exact Bx.made C2 [.bool false, .slice none 0 0, .slice none 0 0, .slice none 0 0] _
          have lQ3 : t13.heap.size ≤ C2.heap.size := bC2.size
          refine hK.out _ _ (fun _ => SF.out _ bQ3) ?_
          clear hK K
          have hS := SF.out _ bQ3
          clear hQ3
          have hne : ∀ x, P x → x ≠ C2.heap.size := fun x hx => by have := (oA.of hx).2; omega
          have oA := oA.later bQ3'
          have KZ := hidOf zQ3
          have u0 := KZ.out.1 0 _ rfl
          have v0 := KZ.out.2.1 0
          have u1 := KZ.out.1 1 _ rfl
          have v1 := KZ.out.2.1 1
          have u2 := KZ.out.1 2 _ rfl
          have v2 := KZ.out.2.1 2
          have u3 := KZ.out.1 3 _ rfl
          have v3 := KZ.out.2.1 3
          refine wpZ_ready (rs := [9]) (by kernel_rfl) (by simp) ?_
          refine AllZ.cons rfl (fun K hK => ?_) AllZ.nil
          go_simp
          refine hK.out _ _ (fun h => absurd (show false = true from h.symm.trans (by kernel_rfl)) (by decide)) ?_
          clear hK K
          refine wpZ_ready (rs := [10]) (by kernel_rfl) (by simp) ?_
          refine AllZ.cons rfl (fun K hK => ?_) AllZ.nil
          go_simp
          refine hK.out _ _ (fun h => absurd (show false = true from h.symm.trans (by kernel_rfl)) (by decide)) ?_
          clear hK K
          refine wpZ_done (by kernel_rfl) ?_ _
          go_wp2_with fail
          go_meet
          exact ⟨C2.heap.size, ra, rb, rc, rd, re, rf, P, rfl, rfl, KZ.out.put [.bool N.alive, .slice ra N.copies.length rb, .slice rc N.log.length rd, .slice re N.cleared.length rf] rfl, (oA.keep (w' := putB Q3 (C2.heap.size) 0 [.bool N.alive, .slice ra N.copies.length rb, .slice rc N.log.length rd, .slice re N.cleared.length rf]) (by rw [putB_size]; exact Nat.le_refl _) (fun x hx => putB_block (hne x hx) _ _ _)).low lowA, hne, lQ3, putB_below lQ3 [.bool N.alive, .slice ra N.copies.length rb, .slice rc N.log.length rd, .slice re N.cleared.length rf] _ _ bQ3⟩
        · go_simp
          obtain ⟨Q2, hQ2⟩ : ∃ X, X = C1.alloc (.cells #[.bool false, .slice none 0 0, .slice none 0 0, .slice none 0 0] 28) := ⟨_, rfl⟩
          rw [← hQ2]
          have bQ2' : Below C1.heap.size C1 Q2 := by rw [hQ2]; exact (Below.refl _ _).alloc (Nat.le_refl _) _
          have bQ2 : Below t13.heap.size t13 Q2 := bstep bC1 bQ2'
          have zQ2 : Bx Q2 C1.heap.size [.bool false, .slice none 0 0, .slice none 0 0, .slice none 0 0] := by rw [hQ2]; exact Bx.made C1 [.bool false, .slice none 0 0, .slice none 0 0, .slice none 0 0] _
          have lQ2 : t13.heap.size ≤ C1.heap.size := bC1.size
          refine hK.out _ _ (fun _ => SF.out _ bQ2) ?_
          clear hK K
          have hS := SF.out _ bQ2
          clear hQ2
          have rbm := rbm.later bQ2'
          have rbr := rbr.later bQ2'
          refine wpZ_ready (rs := [4]) (by kernel_rfl) (by simp) ?_
          refine AllZ.cons rfl (fun K hK => ?_) AllZ.nil
          go_simp
          refine (A2.out Q2 yma2 ymb2 ymc2 ymd2 yme2 ymf2 yra2 yrb2 rbm rbr).mono ?_
          rintro e C3 ⟨ra, rb, rc, rd, re, rf, P, rfl, oA, bC3'⟩
          have lowA : t13.heap.size ≤ Q2.heap.size := bQ2.size
          have hne : ∀ x, P x → x ≠ C1.heap.size := fun x hx => by have := (oA.of hx).1; have := zQ2.2.2; omega
          have bC3 : Below t13.heap.size t13 C3 := bstep bQ2 bC3'
          have yC3 := zQ2.later bC3'
          refine hK.out _ _ (fun _ => SF.out _ bC3) ?_
          clear hK K
          have hS := SF.out _ bC3
          refine wpZ_takeP (i := 5) (v := ?_) rfl (by kernel_rfl) (fun _ _ _ h => h) (Or.inl ⟨by rfl, ?_⟩) hS ?_
          rotate_left
          · (intro X _; go_simp; first | done | with_reducible rfl)
          simp only [Act.put]
          refine wpZ_takeP (i := 6) (v := ?_) rfl (by kernel_rfl) (fun _ _ _ h => h) (Or.inl ⟨by rfl, ?_⟩) hS ?_
          rotate_left
          · (intro X _; go_simp; first | done | with_reducible rfl)
          simp only [Act.put]
          refine wpZ_takeP (i := 7) (v := ?_) rfl (by kernel_rfl) (fun _ _ _ h => h) (Or.inl ⟨by rfl, ?_⟩) hS ?_
          rotate_left
          · (intro X _; go_simp; first | done | with_reducible rfl)
          simp only [Act.put]
          have KZ := hidOf yC3
          have u0 := KZ.out.1 0 _ rfl
          have v0 := KZ.out.2.1 0
          have u1 := KZ.out.1 1 _ rfl
          have v1 := KZ.out.2.1 1
          have u2 := KZ.out.1 2 _ rfl
          have v2 := KZ.out.2.1 2
          have u3 := KZ.out.1 3 _ rfl
          have v3 := KZ.out.2.1 3
          refine wpZ_ready (rs := [9]) (by kernel_rfl) (by simp) ?_
          refine AllZ.cons rfl (fun K hK => ?_) AllZ.nil
          go_simp
          refine hK.out _ _ (fun h => absurd (show false = true from h.symm.trans (by kernel_rfl)) (by decide)) ?_
          clear hK K
          refine wpZ_ready (rs := [10]) (by kernel_rfl) (by simp) ?_
          refine AllZ.cons rfl (fun K hK => ?_) AllZ.nil
          go_simp
          refine hK.out _ _ (fun h => absurd (show false = true from h.symm.trans (by kernel_rfl)) (by decide)) ?_
          clear hK K
          refine wpZ_done (by kernel_rfl) ?_ _
          go_wp2_with fail
          go_meet
          exact ⟨C1.heap.size, ra, rb, rc, rd, re, rf, P, rfl, rfl, KZ.out.put [.bool N.alive, .slice ra N.copies.length rb, .slice rc N.log.length rd, .slice re N.cleared.length rf] rfl, (oA.keep (w' := putB C3 (C1.heap.size) 0 [.bool N.alive, .slice ra N.copies.length rb, .slice rc N.log.length rd, .slice re N.cleared.length rf]) (by rw [putB_size]; exact Nat.le_refl _) (fun x hx => putB_block (hne x hx) _ _ _)).low lowA, hne, lQ2, putB_below lQ2 [.bool N.alive, .slice ra N.copies.length rb, .slice rc N.log.length rd, .slice re N.cleared.length rf] _ _ bC3⟩
      · go_simp
        obtain ⟨Q1, hQ1⟩ : ∃ X, X = C0.alloc (.cells #[.bool false, .slice none 0 0, .slice none 0 0, .slice none 0 0] 28) := ⟨_, rfl⟩
        rw [← hQ1]
        have bQ1' : Below C0.heap.size C0 Q1 := by rw [hQ1]; exact (Below.refl _ _).alloc (Nat.le_refl _) _
        have bQ1 : Below t13.heap.size t13 Q1 := bstep bC0 bQ1'
        have zQ1 : Bx Q1 C0.heap.size [.bool false, .slice none 0 0, .slice none 0 0, .slice none 0 0] := by rw [hQ1]; exact Bx.made C0 [.bool false, .slice none 0 0, .slice none 0 0, .slice none 0 0] _
        have lQ1 : t13.heap.size ≤ C0.heap.size := bC0.size
        refine hK.out _ _ (fun _ => SF.out _ bQ1) ?_
        clear hK K
        have hS := SF.out _ bQ1
        clear hQ1
        have rbm := rbm.later bQ1'
        refine wpZ_ready (rs := [3]) (by kernel_rfl) (by simp) ?_
        refine AllZ.cons rfl (fun K hK => ?_) AllZ.nil
        go_simp
        refine (KR.to Q1 yra yrb r tr.out (RFr.out _ bQ1)).mono ?_
        rintro e C2 ⟨yra2, yrb2, _, rfl, oT, bC2'⟩
        have rbr' := oT.sl
        clear oT
        have rbm := rbm.later bC2'
        have rbr := rbr'
        clear rbr'
        have bC2 : Below t13.heap.size t13 C2 := bstep bQ1 bC2'
        have yC2 := zQ1.later bC2'
        refine hK.out _ _ (fun _ => SF.out _ bC2) ?_
        clear hK K
        have hS := SF.out _ bC2
        refine wpZ_ready (rs := [4]) (by kernel_rfl) (by simp) ?_
        refine AllZ.cons rfl (fun K hK => ?_) AllZ.nil
        go_simp
        refine (A2.out C2 yma2 ymb2 ymc2 ymd2 yme2 ymf2 yra2 yrb2 rbm rbr).mono ?_
        rintro e C3 ⟨ra, rb, rc, rd, re, rf, P, rfl, oA, bC3'⟩
        have lowA : t13.heap.size ≤ C2.heap.size := bC2.size
        have hne : ∀ x, P x → x ≠ C0.heap.size := fun x hx => by have := (oA.of hx).1; have := yC2.2.2; omega
        have bC3 : Below t13.heap.size t13 C3 := bstep bC2 bC3'
        have yC3 := yC2.later bC3'
        refine hK.out _ _ (fun _ => SF.out _ bC3) ?_
        clear hK K
        have hS := SF.out _ bC3
        refine wpZ_takeP (i := 5) (v := ?_) rfl (by kernel_rfl) (fun _ _ _ h => h) (Or.inl ⟨by rfl, ?_⟩) hS ?_
        rotate_left
        · (intro X _; go_simp; first | done | with_reducible rfl)
        simp only [Act.put]
        refine wpZ_takeP (i := 6) (v := ?_) rfl (by kernel_rfl) (fun _ _ _ h => h) (Or.inl ⟨by rfl, ?_⟩) hS ?_
        rotate_left
        · (intro X _; go_simp; first | done | with_reducible rfl)
        simp only [Act.put]
        refine wpZ_takeP (i := 7) (v := ?_) rfl (by kernel_rfl) (fun _ _ _ h => h) (Or.inl ⟨by rfl, ?_⟩) hS ?_
        rotate_left
        · (intro X _; go_simp; first | done | with_reducible rfl)
        simp only [Act.put]
        have KZ := hidOf yC3
        have u0 := KZ.out.1 0 _ rfl
        have v0 := KZ.out.2.1 0
        have u1 := KZ.out.1 1 _ rfl
        have v1 := KZ.out.2.1 1
        have u2 := KZ.out.1 2 _ rfl
        have v2 := KZ.out.2.1 2
        have u3 := KZ.out.1 3 _ rfl
        have v3 := KZ.out.2.1 3
        refine wpZ_ready (rs := [9]) (by kernel_rfl) (by simp) ?_
        refine AllZ.cons rfl (fun K hK => ?_) AllZ.nil
        go_simp
        refine hK.out _ _ (fun h => absurd (show false = true from h.symm.trans (by kernel_rfl)) (by decide)) ?_
        clear hK K
        refine wpZ_ready (rs := [10]) (by kernel_rfl) (by simp) ?_
        refine AllZ.cons rfl (fun K hK => ?_) AllZ.nil
        go_simp
        refine hK.out _ _ (fun h => absurd (show false = true from h.symm.trans (by kernel_rfl)) (by decide)) ?_
        clear hK K
        refine wpZ_done (by kernel_rfl) ?_ _
        go_wp2_with fail
        go_meet
        exact ⟨C0.heap.size, ra, rb, rc, rd, re, rf, P, rfl, rfl, KZ.out.put [.bool N.alive, .slice ra N.copies.length rb, .slice rc N.log.length rd, .slice re N.cleared.length rf] rfl, (oA.keep (w' := putB C3 (C0.heap.size) 0 [.bool N.alive, .slice ra N.copies.length rb, .slice rc N.log.length rd, .slice re N.cleared.length rf]) (by rw [putB_size]; exact Nat.le_refl _) (fun x hx => putB_block (hne x hx) _ _ _)).low lowA, hne, lQ1, putB_below lQ1 [.bool N.alive, .slice ra N.copies.length rb, .slice rc N.log.length rd, .slice re N.cleared.length rf] _ _ bC3⟩
    · go_simp
      obtain ⟨Q0, hQ0⟩ : ∃ X, X = Wd.alloc (.cells #[.bool false, .slice none 0 0, .slice none 0 0, .slice none 0 0] 28) := ⟨_, rfl⟩
      rw [← hQ0]
      have bQ0' : Below Wd.heap.size Wd Q0 := by rw [hQ0]; exact (Below.refl _ _).alloc (Nat.le_refl _) _
      have bQ0 : Below t13.heap.size t13 Q0 := bstep bd bQ0'
      have zQ0 : Bx Q0 Wd.heap.size [.bool false, .slice none 0 0, .slice none 0 0, .slice none 0 0] := by rw [hQ0]; exact Bx.made Wd [.bool false, .slice none 0 0, .slice none 0 0, .slice none 0 0] _
      have lQ0 : t13.heap.size ≤ Wd.heap.size := bd.size
      refine hK.out _ _ (fun _ => SF.out _ bQ0) ?_
      clear hK K
      have hS := SF.out _ bQ0
      clear hQ0
      refine wpZ_ready (rs := [1]) (by kernel_rfl) (by simp) ?_
      refine AllZ.cons rfl (fun K hK => ?_) AllZ.nil
      go_simp
      refine (KM.to Q0 yma ymb ymc ymd yme ymf m tm.out (RFm.out _ bQ0)).mono ?_
      rintro e C1 ⟨yma2, ymb2, ymc2, ymd2, yme2, ymf2, _, rfl, oT, bC1'⟩
      have rbm' := oT.sl
      clear oT
      have rbm := rbm'
      clear rbm'
      have bC1 : Below t13.heap.size t13 C1 := bstep bQ0 bC1'
      have yC1 := zQ0.later bC1'
      refine hK.out _ _ (fun _ => SF.out _ bC1) ?_
      clear hK K
      have hS := SF.out _ bC1
      refine wpZ_ready (rs := [3]) (by kernel_rfl) (by simp) ?_
      refine AllZ.cons rfl (fun K hK => ?_) AllZ.nil
      go_simp
      refine (KR.to C1 yra yrb r tr.out (RFr.out _ bC1)).mono ?_
      rintro e C2 ⟨yra2, yrb2, _, rfl, oT, bC2'⟩
      have rbr' := oT.sl
      clear oT
      have rbm := rbm.later bC2'
      have rbr := rbr'
      clear rbr'
      have bC2 : Below t13.heap.size t13 C2 := bstep bC1 bC2'
      have yC2 := yC1.later bC2'
      refine hK.out _ _ (fun _ => SF.out _ bC2) ?_
      clear hK K
      have hS := SF.out _ bC2
      refine wpZ_ready (rs := [4]) (by kernel_rfl) (by simp) ?_
      refine AllZ.cons rfl (fun K hK => ?_) AllZ.nil
      go_simp
      refine (A2.out C2 yma2 ymb2 ymc2 ymd2 yme2 ymf2 yra2 yrb2 rbm rbr).mono ?_
      rintro e C3 ⟨ra, rb, rc, rd, re, rf, P, rfl, oA, bC3'⟩
      have lowA : t13.heap.size ≤ C2.heap.size := bC2.size
      have hne : ∀ x, P x → x ≠ Wd.heap.size := fun x hx => by have := (oA.of hx).1; have := yC2.2.2; omega
      have bC3 : Below t13.heap.size t13 C3 := bstep bC2 bC3'
      have yC3 := yC2.later bC3'
      refine hK.out _ _ (fun _ => SF.out _ bC3) ?_
      clear hK K
      have hS := SF.out _ bC3
      refine wpZ_takeP (i := 5) (v := ?_) rfl (by kernel_rfl) (fun _ _ _ h => h) (Or.inl ⟨by rfl, ?_⟩) hS ?_
      rotate_left
      · (intro X _; go_simp; first | done | with_reducible rfl)
      simp only [Act.put]
      refine wpZ_takeP (i := 6) (v := ?_) rfl (by kernel_rfl) (fun _ _ _ h => h) (Or.inl ⟨by rfl, ?_⟩) hS ?_
      rotate_left
      · (intro X _; go_simp; first | done | with_reducible rfl)
      simp only [Act.put]
      refine wpZ_takeP (i := 7) (v := ?_) rfl (by kernel_rfl) (fun _ _ _ h => h) (Or.inl ⟨by rfl, ?_⟩) hS ?_
      rotate_left
      · (intro X _; go_simp; first | done | with_reducible rfl)
      simp only [Act.put]
      have KZ := hidOf yC3
      have u0 := KZ.out.1 0 _ rfl
      have v0 := KZ.out.2.1 0
      have u1 := KZ.out.1 1 _ rfl
      have v1 := KZ.out.2.1 1
      have u2 := KZ.out.1 2 _ rfl
      have v2 := KZ.out.2.1 2
      have u3 := KZ.out.1 3 _ rfl
      have v3 := KZ.out.2.1 3
      refine wpZ_ready (rs := [9]) (by kernel_rfl) (by simp) ?_
      refine AllZ.cons rfl (fun K hK => ?_) AllZ.nil
      go_simp
      refine hK.out _ _ (fun h => absurd (show false = true from h.symm.trans (by kernel_rfl)) (by decide)) ?_
      clear hK K
      refine wpZ_ready (rs := [10]) (by kernel_rfl) (by simp) ?_
      refine AllZ.cons rfl (fun K hK => ?_) AllZ.nil
      go_simp
      refine hK.out _ _ (fun h => absurd (show false = true from h.symm.trans (by kernel_rfl)) (by decide)) ?_
      clear hK K
      refine wpZ_done (by kernel_rfl) ?_ _
      go_wp2_with fail
      go_meet
      exact ⟨Wd.heap.size, ra, rb, rc, rd, re, rf, P, rfl, rfl, KZ.out.put [.bool N.alive, .slice ra N.copies.length rb, .slice rc N.log.length rd, .slice re N.cleared.length rf] rfl, (oA.keep (w' := putB C3 (Wd.heap.size) 0 [.bool N.alive, .slice ra N.copies.length rb, .slice rc N.log.length rd, .slice re N.cleared.length rf]) (by rw [putB_size]; exact Nat.le_refl _) (fun x hx => putB_block (hne x hx) _ _ _)).low lowA, hne, lQ0, putB_below lQ0 [.bool N.alive, .slice ra N.copies.length rb, .slice rc N.log.length rd, .slice re N.cleared.length rf] _ _ bC3⟩
  case rest =>
  obtain ⟨qh, nh0, nh1, nh2, nh3, nh4, nh5, Ph, rfl, rfl, xh, oh, neh, lh, bh⟩ := hcut
  generalize wc = vh at *
  have Fh : Hid (Bx vh qh [.bool N.alive, .slice nh0 N.copies.length nh1, .slice nh2 N.log.length nh3, .slice nh4 N.cleared.length nh5]) := xh
  have Oh : Hid (KM.Ow vh t13.heap.size nh0 nh1 nh2 nh3 nh4 nh5 N Ph) := oh
  have NEh : Hid (∀ x, Ph x → x ≠ qh) := neh
  have Lh : Hid (t13.heap.size ≤ qh) := lh
  clear xh oh neh lh
  have B0_vh : Hid (Below U1.heap.size U1 vh) := bstep B0_t13.out bh
  have B3_vh : Hid (Below vw.heap.size vw vh) := bstep B3_t13.out bh
  have B10_vh : Hid (Below t12.heap.size t12 vh) := bstep B10_t13.out bh
  have Zvh : Hid (t13.heap.size ≤ vh.heap.size) := bh.size
  clear B0_t13 B3_t13 B10_t13 bh
  have B11_vh : Hid (Below vh.heap.size vh vh) := Below.refl _ _
  have hbx := (Fh.out.later B11_vh.out)
  have g0 := hbx.1 0 _ rfl
  have g1 := hbx.1 1 _ rfl
  have g2 := hbx.1 2 _ rfl
  have g3 := hbx.1 3 _ rfl
  clear hbx
  have hbx := (Fw.out.later B3_vh.out)
  have y0 := hbx.1 0 _ rfl
  have y1 := hbx.1 1 _ rfl
  have y2 := hbx.1 2 _ rfl
  have y3 := hbx.1 3 _ rfl
  clear hbx
  go_wp2_with fail
  refine (KM.eq vh nh0 nh1 nh2 nh3 nh4 nh5 nw0 nw1 nw2 nw3 nw4 nw5 N tN.out (Oh.out.sl.later B11_vh.out) (Ow.out.sl.later B3_vh.out)).mono ?_
  rintro e t14 ⟨rfl, bt14⟩
  clear g0 g1 g2 g3 y0 y1 y2 y3
  have B0_t14 : Hid (Below U1.heap.size U1 t14) := bstep B0_vh.out bt14
  have B3_t14 : Hid (Below vw.heap.size vw t14) := bstep B3_vh.out bt14
  have B10_t14 : Hid (Below t12.heap.size t12 t14) := bstep B10_vh.out bt14
  have B11_t14 : Hid (Below vh.heap.size vh t14) := bstep B11_vh.out bt14
  have Zt14 : Hid (vh.heap.size ≤ t14.heap.size) := bt14.size
  clear B0_vh B3_vh B10_vh B11_vh bt14
  have hbx := (Fg.out.later B10_t14.out)
  have g0 := hbx.1 0 _ rfl
  have g1 := hbx.1 1 _ rfl
  have g2 := hbx.1 2 _ rfl
  have g3 := hbx.1 3 _ rfl
  clear hbx
  go_wp2_with fail
  refine (HH.out t14 (Om.out.later B10_t14.out)).mono ?_
  rintro e t15 ⟨rfl, bt15⟩
  clear g0 g1 g2 g3
  have B0_t15 : Hid (Below U1.heap.size U1 t15) := bstep B0_t14.out bt15
  have B3_t15 : Hid (Below vw.heap.size vw t15) := bstep B3_t14.out bt15
  have B10_t15 : Hid (Below t12.heap.size t12 t15) := bstep B10_t14.out bt15
  have B11_t15 : Hid (Below vh.heap.size vh t15) := bstep B11_t14.out bt15
  have Zt15 : Hid (t14.heap.size ≤ t15.heap.size) := bt15.size
  clear B0_t14 B3_t14 B10_t14 B11_t14 bt15
  go_wp2
  go_ret
  exact ⟨rfl, bstep Bw.out B0_t15.out⟩
set_option maxHeartbeats 2000000 in
theorem walk_great0 (w : World) (yma : Option Addr) (ymb : Nat) (ymc : Option Addr) (ymd : Nat) (yme : Option Addr) (ymf : Nat) (yra : Option Addr) (yrb : Nat) (m : M4) (r : R4) (lm : ML m) (_ : KR.L r) (hm : SlM w ⟨yma, ymb, ymc, ymd, yme, ymf⟩ m) (hr : KR.Rd w yra yrb r) (hg : ¬ szM m ≤ 1048576) :
    Calls Tryz.prog 6 #[.agg #[.bool m.alive, .slice yma m.copies.length ymb, .slice ymc m.log.length ymd, .slice yme m.cleared.length ymf], .agg #[.int .i64 r.kind, .int .i64 r.tx, .int .i64 r.region, .slice yra r.sets.length yrb]] w fun e w' => e = .returned (.bool true) ∧ Below w.heap.size w w' := by
  obtain ⟨U0, hU0⟩ : ∃ X, X = w.alloc (.cells #[.bool m.alive, .slice yma m.copies.length ymb, .slice ymc m.log.length ymd, .slice yme m.cleared.length ymf] 57) := ⟨_, rfl⟩
  have bU0 : Below w.heap.size w U0 := by rw [hU0]; exact (Below.refl _ _).alloc (Nat.le_refl _) _
  have xU0 : Bx U0 w.heap.size [.bool m.alive, .slice yma m.copies.length ymb, .slice ymc m.log.length ymd, .slice yme m.cleared.length ymf] := by rw [hU0]; exact Bx.made w [.bool m.alive, .slice yma m.copies.length ymb, .slice ymc m.log.length ymd, .slice yme m.cleared.length ymf] _
  have zU0 : U0.heap.size = w.heap.size + 1 := by rw [hU0]; simp
  obtain ⟨U1, hU1⟩ : ∃ X, X = U0.alloc (.cells #[.int .i64 r.kind, .int .i64 r.tx, .int .i64 r.region, .slice yra r.sets.length yrb] 68) := ⟨_, rfl⟩
  have bU1 : Below U0.heap.size U0 U1 := by rw [hU1]; exact (Below.refl _ _).alloc (Nat.le_refl _) _
  have xU1 : Bx U1 U0.heap.size [.int .i64 r.kind, .int .i64 r.tx, .int .i64 r.region, .slice yra r.sets.length yrb] := by rw [hU1]; exact Bx.made U0 [.int .i64 r.kind, .int .i64 r.tx, .int .i64 r.region, .slice yra r.sets.length yrb] _
  have zU1 : U1.heap.size = U0.heap.size + 1 := by rw [hU1]; simp
  rw [show U0.heap.size = w.heap.size + 1 by omega] at xU1
  have Fm : Hid (Bx U1 w.heap.size [.bool m.alive, .slice yma m.copies.length ymb, .slice ymc m.log.length ymd, .slice yme m.cleared.length ymf]) := (xU0).later bU1
  have Fr : Hid (Bx U1 (w.heap.size + 1) [.int .i64 r.kind, .int .i64 r.tx, .int .i64 r.region, .slice yra r.sets.length yrb]) := xU1
  have Rm : Hid (SlM U1 ⟨yma, ymb, ymc, ymd, yme, ymf⟩ m) := ((hm).later bU0).later bU1
  have Rr : Hid (KR.Rd U1 yra yrb r) := ((hr).later bU0).later bU1
  have Bw : Hid (Below w.heap.size w U1) := bstep (bU0) bU1
  have ZU : Hid (U1.heap.size = w.heap.size + 2) := by unfold Hid; omega
  clear bU0 xU0 zU0 bU1 xU1 zU1 hm hr
  rw [hU0] at hU1
  clear hU0
  have B0_U1 : Hid (Below U1.heap.size U1 U1) := Below.refl _ _
  go_enter Tryz.func6, Tryz.ntmps6
  have hbx := (Fm.out.later B0_U1.out)
  have p0 := hbx.1 0 _ rfl
  have p1 := hbx.1 1 _ rfl
  have p2 := hbx.1 2 _ rfl
  have p3 := hbx.1 3 _ rfl
  clear hbx
  rw [hU1] at p0 p1 p2 p3
  go_wp2_with fail
  rw [← hU1]
  clear hU1
  refine (KM.sz U1 yma ymb ymc ymd yme ymf m lm (Rm.out.later B0_U1.out)).mono ?_
  rw [leftR_no (by omega)]
  rintro e s1 ⟨rfl, bs1⟩
  clear p0 p1 p2 p3
  have B0_s1 : Hid (Below U1.heap.size U1 s1) := bstep B0_U1.out bs1
  have Zs1 : Hid (U1.heap.size ≤ s1.heap.size) := bs1.size
  clear B0_U1 bs1
  go_wp2
  go_ret
  exact ⟨rfl, bstep Bw.out B0_s1.out⟩
set_option maxHeartbeats 2000000 in
theorem walk_great1 (w : World) (yma : Option Addr) (ymb : Nat) (ymc : Option Addr) (ymd : Nat) (yme : Option Addr) (ymf : Nat) (yra : Option Addr) (yrb : Nat) (m : M4) (r : R4) (lm : ML m) (lr : KR.L r) (hm : SlM w ⟨yma, ymb, ymc, ymd, yme, ymf⟩ m) (hr : KR.Rd w yra yrb r) (hp : szM m ≤ 1048576) (hg : ¬ szM m + r.sets.length ≤ 1048576) :
    Calls Tryz.prog 6 #[.agg #[.bool m.alive, .slice yma m.copies.length ymb, .slice ymc m.log.length ymd, .slice yme m.cleared.length ymf], .agg #[.int .i64 r.kind, .int .i64 r.tx, .int .i64 r.region, .slice yra r.sets.length yrb]] w fun e w' => e = .returned (.bool true) ∧ Below w.heap.size w w' := by
  obtain ⟨U0, hU0⟩ : ∃ X, X = w.alloc (.cells #[.bool m.alive, .slice yma m.copies.length ymb, .slice ymc m.log.length ymd, .slice yme m.cleared.length ymf] 57) := ⟨_, rfl⟩
  have bU0 : Below w.heap.size w U0 := by rw [hU0]; exact (Below.refl _ _).alloc (Nat.le_refl _) _
  have xU0 : Bx U0 w.heap.size [.bool m.alive, .slice yma m.copies.length ymb, .slice ymc m.log.length ymd, .slice yme m.cleared.length ymf] := by rw [hU0]; exact Bx.made w [.bool m.alive, .slice yma m.copies.length ymb, .slice ymc m.log.length ymd, .slice yme m.cleared.length ymf] _
  have zU0 : U0.heap.size = w.heap.size + 1 := by rw [hU0]; simp
  obtain ⟨U1, hU1⟩ : ∃ X, X = U0.alloc (.cells #[.int .i64 r.kind, .int .i64 r.tx, .int .i64 r.region, .slice yra r.sets.length yrb] 68) := ⟨_, rfl⟩
  have bU1 : Below U0.heap.size U0 U1 := by rw [hU1]; exact (Below.refl _ _).alloc (Nat.le_refl _) _
  have xU1 : Bx U1 U0.heap.size [.int .i64 r.kind, .int .i64 r.tx, .int .i64 r.region, .slice yra r.sets.length yrb] := by rw [hU1]; exact Bx.made U0 [.int .i64 r.kind, .int .i64 r.tx, .int .i64 r.region, .slice yra r.sets.length yrb] _
  have zU1 : U1.heap.size = U0.heap.size + 1 := by rw [hU1]; simp
  rw [show U0.heap.size = w.heap.size + 1 by omega] at xU1
  have Fm : Hid (Bx U1 w.heap.size [.bool m.alive, .slice yma m.copies.length ymb, .slice ymc m.log.length ymd, .slice yme m.cleared.length ymf]) := (xU0).later bU1
  have Fr : Hid (Bx U1 (w.heap.size + 1) [.int .i64 r.kind, .int .i64 r.tx, .int .i64 r.region, .slice yra r.sets.length yrb]) := xU1
  have Rm : Hid (SlM U1 ⟨yma, ymb, ymc, ymd, yme, ymf⟩ m) := ((hm).later bU0).later bU1
  have Rr : Hid (KR.Rd U1 yra yrb r) := ((hr).later bU0).later bU1
  have Bw : Hid (Below w.heap.size w U1) := bstep (bU0) bU1
  have ZU : Hid (U1.heap.size = w.heap.size + 2) := by unfold Hid; omega
  clear bU0 xU0 zU0 bU1 xU1 zU1 hm hr
  rw [hU0] at hU1
  clear hU0
  have B0_U1 : Hid (Below U1.heap.size U1 U1) := Below.refl _ _
  go_enter Tryz.func6, Tryz.ntmps6
  have hbx := (Fm.out.later B0_U1.out)
  have p0 := hbx.1 0 _ rfl
  have p1 := hbx.1 1 _ rfl
  have p2 := hbx.1 2 _ rfl
  have p3 := hbx.1 3 _ rfl
  clear hbx
  rw [hU1] at p0 p1 p2 p3
  go_wp2_with fail
  rw [← hU1]
  clear hU1
  refine (KM.sz U1 yma ymb ymc ymd yme ymf m lm (Rm.out.later B0_U1.out)).mono ?_
  rw [leftR_yes (by omega)]
  rintro e s1 ⟨rfl, bs1⟩
  clear p0 p1 p2 p3
  have B0_s1 : Hid (Below U1.heap.size U1 s1) := bstep B0_U1.out bs1
  have Zs1 : Hid (U1.heap.size ≤ s1.heap.size) := bs1.size
  clear B0_U1 bs1
  have g0 : decide ((((1048576 - szM m) : Nat) : Int) < 0) = false := by simp
  have hbx := (Fr.out.later B0_s1.out)
  have p0 := hbx.1 0 _ rfl
  have p1 := hbx.1 1 _ rfl
  have p2 := hbx.1 2 _ rfl
  have p3 := hbx.1 3 _ rfl
  clear hbx
  go_wp2_with fail
  refine (szRecord_l s1 r.kind r.tx r.region yra r.sets.length yrb (1048576 - szM m) lr (by omega)).mono ?_
  rw [leftR_no (by omega)]
  rintro e s2 ⟨rfl, bs2⟩
  clear p0 p1 p2 p3
  have B0_s2 : Hid (Below U1.heap.size U1 s2) := bstep B0_s1.out bs2
  have Zs2 : Hid (s1.heap.size ≤ s2.heap.size) := bs2.size
  clear B0_s1 bs2
  go_wp2
  go_ret
  exact ⟨rfl, bstep Bw.out B0_s2.out⟩
theorem walk (w : World) (yma : Option Addr) (ymb : Nat) (ymc : Option Addr) (ymd : Nat) (yme : Option Addr) (ymf : Nat) (yra : Option Addr) (yrb : Nat) (m : M4) (r : R4) (lm : ML m) (lr : KR.L r) (hm : SlM w ⟨yma, ymb, ymc, ymd, yme, ymf⟩ m) (hr : KR.Rd w yra yrb r) :
    Calls Tryz.prog 6 #[.agg #[.bool m.alive, .slice yma m.copies.length ymb, .slice ymc m.log.length ymd, .slice yme m.cleared.length ymf], .agg #[.int .i64 r.kind, .int .i64 r.tx, .int .i64 r.region, .slice yra r.sets.length yrb]] w fun e w' => e = .returned (.bool true) ∧ Below w.heap.size w w' := by
  by_cases g0 : szM m ≤ 1048576
  case neg => exact walk_great0 w yma ymb ymc ymd yme ymf yra yrb m r lm lr hm hr g0
  by_cases g1 : szM m + r.sets.length ≤ 1048576
  case neg => exact walk_great1 w yma ymb ymc ymd yme ymf yra yrb m r lm lr hm hr g0 g1
  exact walk_small w yma ymb ymc ymd yme ymf yra yrb m r lm lr hm hr g1
set_option maxRecDepth 100000 in
theorem lifted (os : Os) (started : os.Started) (H : Type) (enc : TypeId × Value → H) :
    ReturnsInHanded {} Tryz.checked os 6 .any (Rows.fnExactAppendSpec.pre6 enc Tryz.prog Tryz.f6 Rows.fnExactAppendRow.domain false) (Rows.fnExactAppendSpec.post enc Tryz.prog Tryz.f6 false true false false) := by
  refine returnsInHanded_of_change (C := Tryz.checked) own started (by kernel_rfl) Tryz.func6
    (ChangeSpec.witness6 (enc := enc) (C := Tryz.checked) false ⟨#[], #[.agg #[.bool false, .slice none 0 0, .slice none 0 0, .slice none 0 0], .agg #[.int .i64 0, .int .i64 0, .int .i64 0, .slice none 0 0]], []⟩ 8 (by kernel_rfl) (by kernel_rfl) (by kernel_rfl) (by kernel_rfl)) ?_
  intro W base args ds gs before hval0 hW hcnd _
  have hval : ∀ (j : Nat) t v, Tryz.f6.params[j]? = some t → args[j]? = some v → Value.okWide Tryz.prog W .any base t v := hval0
  have hW' := hW
  obtain ⟨p, q, hA0, hV, rfl, hfz, hnd⟩ := hW
  have hA : DataW.TrodAll enc Tryz.prog W 0 (fun _ => true) true Tryz.f6.params.toList args.toList ds p := hA0
  rw [Tryz.params6] at hA hval
  obtain ⟨v0, vs0, d0, ds0, p0, q0, hargs, rfl, rfl, h0, r0⟩ := trodAll_cons hA
  obtain ⟨v1, vs1, d1, ds1, p1, q1, rfl, rfl, rfl, h1, r1⟩ := trodAll_cons r0
  obtain ⟨rfl, rfl, rfl⟩ := trodAll_nil r1
  obtain rfl : args = #[v0, v1] := by cases args; simp_all
  obtain ⟨rfl, rfl⟩ := trodVars_none hV
  obtain ⟨cs0, rfl, hcs0⟩ := okWide_struct Tryz.underlying57 (hval 0 57 v0 rfl rfl)
  have k0 := h0
  have lt0 : ∀ x ∈ p0, x.block < W.heap.size := by obtain ⟨n, hn⟩ := k0; exact DataW.trod_lt n _ _ _ hn
  obtain ⟨⟨yma, ymb, ymc, ymd, yme, ymf⟩, m, rfl, hm, lm⟩ : ∃ (u : MV) (m : M4), cs0 = #[.bool m.alive, .slice u.ac m.copies.length u.cc, .slice u.al m.log.length u.cl, .slice u.ad m.cleared.length u.cd] ∧ SlM W u m ∧ ML m := by
    obtain ⟨fuel, hf⟩ := h0
    obtain ⟨u, m, e, hs, l1, l2, l3, k1, k2, _⟩ := om.open_machine hf
    exact ⟨u, m, by cases cs0; simpa [Value.cells] using e, hs, ⟨l1, k1, l2, k2, l3⟩⟩
  obtain ⟨cs1, rfl, hcs1⟩ := okWide_struct Tryz.underlying68 (hval 1 68 v1 rfl rfl)
  have k1 := h1
  have lt1 : ∀ x ∈ p1, x.block < W.heap.size := by obtain ⟨n, hn⟩ := k1; exact DataW.trod_lt n _ _ _ hn
  obtain ⟨yra, yrb, r, rfl, hr, lr⟩ : ∃ (a : Option Addr) (c : Nat) (r : R4), cs1 = #[.int .i64 r.kind, .int .i64 r.tx, .int .i64 r.region, .slice a r.sets.length c] ∧ KR.Rd W a c r ∧ KR.L r := by
    obtain ⟨fuel, hf⟩ := h1
    obtain ⟨r, a, c, e, hs, _, l1⟩ := om.open_rec hf
    exact ⟨a, c, r, by cases cs1; simpa [Value.cells] using e, hs, l1⟩
  clear hA0 hval0
  refine (walk W yma ymb ymc ymd yme ymf yra yrb m r lm lr hm hr).mono fun e W' ⟨he, bel⟩ => ?_
  subst he
  exact ⟨_, rfl, _, _, _, [], _, [], hW', trodAll_mk1 (shut_bool Tryz.underlying4 _), (trodAll_cons_mk (Below.trod laidOut (by kernel_rfl) (of_decide_eq_true (by kernel_rfl)) k0 bel lt0) (trodAll_cons_mk (Below.trod laidOut (by kernel_rfl) (of_decide_eq_true (by kernel_rfl)) k1 bel lt1) trodAll_mk0)), rfl, bel.frame _, fun h => by cases h⟩
theorem over : Rows.fnExactAppendRow.holds Tryz.pinned (OpenSpec.ofChange Rows.fnExactAppendSpec) :=
  OpenClaim.holds_of_wide 6 Tryz.f6 rfl rfl rfl rfl rfl rfl rfl ⟨rfl, rfl, rfl, rfl, rfl⟩ rfl rfl rfl rfl rfl (by kernel_rfl) Tryz.func6 (by kernel_rfl)
    (of_decide_eq_true (by kernel_rfl)) (by unfold Func.isWrapper; first | (rw [if_pos (by decide +kernel)]; kernel_rfl) | (rw [if_neg (by decide +kernel)]; exact ⟨rfl, rfl⟩))
    (fun os started H enc _ => lifted os started H enc)
end Go.Proofs.YtcanaklameddbaaGreat.fnExactAppend
namespace Go.Proofs.YtcanaklameddbaaGreat
theorem fnExactAppend_holds : Rows.FnExactAppendSaid := fnExactAppend.over
#print axioms fnExactAppend_holds
end Go.Proofs.YtcanaklameddbaaGreat
