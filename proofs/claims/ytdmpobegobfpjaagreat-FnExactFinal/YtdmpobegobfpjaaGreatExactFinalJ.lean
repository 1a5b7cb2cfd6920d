/- Final of the program answers, at every Cluster and region, as the specification's Final does, in memory of its own, and changes nothing. No other condition. -/
import Derived.Test.YtdmpobegobfpjaaGreatRows
import Derived.Test.YtdmpobegobfpjaaGreatJ10ExactFinal
import Derived.Test.YtdmpobegobfpjaaGreatJ13ExactFinal
import Derived.Test.YtdmpobegobfpjaaGreatJ5ExactFinal
import Derived.WalkKit
import Derived.ProofKit
import Derived.OpenShut
import Derived.Deep.RegionWith
import Derived.Deep.CutRange
import Derived.WalkSpells
namespace Go.Proofs.YtdmpobegobfpjaaGreat.fnExactFinal
open Go.ChangeShapes Go.WideShapes Go.ChangeAt Go.RowKit
theorem own : ownKnob Tryz.prog.godebug = none := by kernel_rfl
theorem laidOut : laidOutB Tryz.prog = true := by kernel_rfl
def Ans (X : World) (N : List C2) (o0 : Bool) (e : Ending) (w' : World) : Prop := ∃ (ra : Option Addr) (rb : Nat) (P : Nat → Prop), e = .returned (.tuple #[.slice ra N.length rb, .bool o0]) ∧ KC.Ow w' X.heap.size ra rb N P ∧ Below X.heap.size X w'
set_option maxRecDepth 100000 in
set_option maxHeartbeats 8000000 in
theorem walk_small (w : World) (yka : Option Addr) (ykb : Nat) (ykc : Option Addr) (ykd : Nat) (yke : Option Addr) (ykf : Nat) (k : C6) (y : Int) (lk : KCl.L k) (hk : KCl.Rd w yka ykb ykc ykd yke ykf k) (hg : szC k ≤ 1048576) :
    Calls Tryz.prog 5 #[.agg #[.int .i64 k.config, .int .i64 k.clock, .slice yka k.places.length ykb, .slice ykc k.machines.length ykd, .slice yke k.txs.length ykf, .bool k.lost], .int .i64 y] w fun e w' => e = .returned (.bool true) ∧ Below w.heap.size w w' := by
  have tk : Hid (KCl.S k) := KCl.S.of (by omega)
  obtain ⟨N, hN⟩ : ∃ N, N = finL k y := ⟨_, rfl⟩
  obtain ⟨o0, ho0⟩ : ∃ z, z = finB k y := ⟨_, rfl⟩
  have A1 : Hid (∀ (X : World) (yka1 : Option Addr) (ykb1 : Nat) (ykc1 : Option Addr) (ykd1 : Nat) (yke1 : Option Addr) (ykf1 : Nat), KCl.Rd X yka1 ykb1 ykc1 ykd1 yke1 ykf1 k → Calls Tryz.prog 18 #[.agg #[.int .i64 k.config, .int .i64 k.clock, .slice yka1 k.places.length ykb1, .slice ykc1 k.machines.length ykd1, .slice yke1 k.txs.length ykf1, .bool k.lost], .int .i64 y] X (Ans X N o0)) := by
    rw [hN, ho0]
    intro X yka1 ykb1 ykc1 ykd1 yke1 ykf1 h1
    exact specFinal_any X yka1 ykb1 ykc1 ykd1 yke1 ykf1 k y lk h1 h1.cp
  have A2 : Hid (∀ (X : World) (yka1 : Option Addr) (ykb1 : Nat) (ykc1 : Option Addr) (ykd1 : Nat) (yke1 : Option Addr) (ykf1 : Nat), KCl.Rd X yka1 ykb1 ykc1 ykd1 yke1 ykf1 k → Calls Tryz.prog 19 #[.agg #[.int .i64 k.config, .int .i64 k.clock, .slice yka1 k.places.length ykb1, .slice ykc1 k.machines.length ykd1, .slice yke1 k.txs.length ykf1, .bool k.lost], .int .i64 y] X (Ans X N o0)) := by
    rw [hN, ho0]
    intro X yka1 ykb1 ykc1 ykd1 yke1 ykf1 h1
    exact implFinal_any X yka1 ykb1 ykc1 ykd1 yke1 ykf1 k y lk h1
  have tN : Hid (N.length ≤ 1048576) := by
    rw [hN]
    exact finL_six k y
  clear hN ho0
  have do0 : (o0 != o0) = false := by simp
  obtain ⟨U0, hU0⟩ : ∃ X, X = w.alloc (.cells #[.int .i64 k.config, .int .i64 k.clock, .slice yka k.places.length ykb, .slice ykc k.machines.length ykd, .slice yke k.txs.length ykf, .bool k.lost] 26) := ⟨_, rfl⟩
  have bU0 : Below w.heap.size w U0 := by rw [hU0]; exact (Below.refl _ _).alloc (Nat.le_refl _) _
  have xU0 : Bx U0 w.heap.size [.int .i64 k.config, .int .i64 k.clock, .slice yka k.places.length ykb, .slice ykc k.machines.length ykd, .slice yke k.txs.length ykf, .bool k.lost] := by rw [hU0]; exact Bx.made w [.int .i64 k.config, .int .i64 k.clock, .slice yka k.places.length ykb, .slice ykc k.machines.length ykd, .slice yke k.txs.length ykf, .bool k.lost] _
  have zU0 : U0.heap.size = w.heap.size + 1 := by rw [hU0]; simp
  have Fk : Hid (Bx U0 w.heap.size [.int .i64 k.config, .int .i64 k.clock, .slice yka k.places.length ykb, .slice ykc k.machines.length ykd, .slice yke k.txs.length ykf, .bool k.lost]) := xU0
  have Rk : Hid (KCl.Rd U0 yka ykb ykc ykd yke ykf k) := (hk).later bU0
  have Bw : Hid (Below w.heap.size w U0) := bU0
  have ZU : Hid (U0.heap.size = w.heap.size + 1) := by unfold Hid; omega
  clear bU0 xU0 zU0 hk
  have B0_U0 : Hid (Below U0.heap.size U0 U0) := Below.refl _ _
  go_enter Tryz.func5, Tryz.ntmps5
  have hbx := (Fk.out.later B0_U0.out)
  have p0 := hbx.1 0 _ rfl
  have p1 := hbx.1 1 _ rfl
  have p2 := hbx.1 2 _ rfl
  have p3 := hbx.1 3 _ rfl
  have p4 := hbx.1 4 _ rfl
  have p5 := hbx.1 5 _ rfl
  clear hbx
  rw [hU0] at p0 p1 p2 p3 p4 p5
  go_wp2_with fail
  rw [← hU0]
  clear hU0
  refine (KCl.sz U0 yka ykb ykc ykd yke ykf k lk (Rk.out.later B0_U0.out)).mono ?_
  rw [leftR_yes (by omega)]
  rintro e s1 ⟨rfl, bs1⟩
  clear p0 p1 p2 p3 p4 p5
  have B0_s1 : Hid (Below U0.heap.size U0 s1) := bstep B0_U0.out bs1
  have Zs1 : Hid (U0.heap.size ≤ s1.heap.size) := bs1.size
  clear B0_U0 bs1
  have g0 : decide ((((1048576 - szC k) : Nat) : Int) < 0) = false := by simp
  have hbx := (Fk.out.later B0_s1.out)
  have p0 := hbx.1 0 _ rfl
  have p1 := hbx.1 1 _ rfl
  have p2 := hbx.1 2 _ rfl
  have p3 := hbx.1 3 _ rfl
  have p4 := hbx.1 4 _ rfl
  have p5 := hbx.1 5 _ rfl
  clear hbx
  go_wp2_with fail
  refine (KCl.to s1 yka ykb ykc ykd yke ykf k tk.out (Rk.out.later B0_s1.out)).mono ?_
  rintro e t2 ⟨yka2, ykb2, ykc2, ykd2, yke2, ykf2, _, rfl, oT, bt2⟩
  have rbk := hidOf oT.sl
  clear oT p0 p1 p2 p3 p4 p5
  have B0_t2 : Hid (Below U0.heap.size U0 t2) := bstep B0_s1.out bt2
  have Zt2 : Hid (s1.heap.size ≤ t2.heap.size) := bt2.size
  clear B0_s1 bt2
  go_wp2_with fail
  refine (A1.out t2 yka2 ykb2 ykc2 ykd2 yke2 ykf2 rbk.out).mono ?_
  rintro e t3 ⟨nw0, nw1, Pw, rfl, ow, bt3⟩
  clear rbk
  have Ow : Hid (KC.Ow t3 t2.heap.size nw0 nw1 N Pw) := ow
  clear ow
  have B0_t3 : Hid (Below U0.heap.size U0 t3) := bstep B0_t2.out bt3
  have Zt3 : Hid (t2.heap.size ≤ t3.heap.size) := bt3.size
  clear B0_t2 bt3
  have B3_t3 : Hid (Below t3.heap.size t3 t3) := Below.refl _ _
  have hbx := (Fk.out.later B0_t3.out)
  have p0 := hbx.1 0 _ rfl
  have p1 := hbx.1 1 _ rfl
  have p2 := hbx.1 2 _ rfl
  have p3 := hbx.1 3 _ rfl
  have p4 := hbx.1 4 _ rfl
  have p5 := hbx.1 5 _ rfl
  clear hbx
  go_wp2_with fail
  refine (KCl.to t3 yka ykb ykc ykd yke ykf k tk.out (Rk.out.later B0_t3.out)).mono ?_
  rintro e t4 ⟨yka3, ykb3, ykc3, ykd3, yke3, ykf3, Xk, rfl, ox, bt4⟩
  clear p0 p1 p2 p3 p4 p5
  obtain ⟨xk, hxk⟩ : ∃ X, X = t4.alloc (.cells #[.int .i64 k.config, .int .i64 k.clock, .slice yka3 k.places.length ykb3, .slice ykc3 k.machines.length ykd3, .slice yke3 k.txs.length ykf3, .bool k.lost] 34) := ⟨_, rfl⟩
  have bxk : Below t4.heap.size t4 xk := by rw [hxk]; exact (Below.refl _ _).alloc (Nat.le_refl _) _
  have Fxk : Hid (Bx xk t4.heap.size [.int .i64 k.config, .int .i64 k.clock, .slice yka3 k.places.length ykb3, .slice ykc3 k.machines.length ykd3, .slice yke3 k.txs.length ykf3, .bool k.lost]) := by rw [hxk]; exact Bx.made t4 [.int .i64 k.config, .int .i64 k.clock, .slice yka3 k.places.length ykb3, .slice ykc3 k.machines.length ykd3, .slice yke3 k.txs.length ykf3, .bool k.lost] _
  have Oxk : Hid (KCl.Ow xk t3.heap.size yka3 ykb3 ykc3 ykd3 yke3 ykf3 k Xk) := ox.later bxk
  have Pxk : Hid (∀ q, Xk q → t3.heap.size ≤ q ∧ q < t4.heap.size) := fun q hq => ox.of hq
  have bb : Below t3.heap.size t3 xk := bstep bt4 bxk
  have Lxk : Hid (t3.heap.size ≤ t4.heap.size) := bt4.size
  have Mxk : Hid (xk.heap.size = t4.heap.size + 1) := by rw [Hid, hxk]; simp
  clear ox bt4 bxk
  have B0_xk : Hid (Below U0.heap.size U0 xk) := bstep B0_t3.out bb
  have B3_xk : Hid (Below t3.heap.size t3 xk) := bstep B3_t3.out bb
  have Zxk : Hid (t3.heap.size ≤ xk.heap.size) := bb.size
  clear B0_t3 B3_t3 bb
  have Bxk_xk : Hid (Below xk.heap.size xk xk) := Below.refl _ _
  have B5_xk : Hid (Below xk.heap.size xk xk) := Below.refl _ _
  have Rxk : Hid (KCl.Rd xk yka3 ykb3 ykc3 ykd3 yke3 ykf3 k) := (Oxk.out.later Bxk_xk.out).sl
  have Gxk : Hid (Bx xk t4.heap.size [.int .i64 k.config, .int .i64 k.clock, .slice yka3 k.places.length ykb3, .slice ykc3 k.machines.length ykd3, .slice yke3 k.txs.length ykf3, .bool k.lost]) := Fxk.out.later Bxk_xk.out
  have hbx := (Gxk.out.later B5_xk.out)
  have pk0 := hbx.1 0 _ rfl
  have pk1 := hbx.1 1 _ rfl
  have pk2 := hbx.1 2 _ rfl
  have pk3 := hbx.1 3 _ rfl
  have pk4 := hbx.1 4 _ rfl
  have pk5 := hbx.1 5 _ rfl
  clear hbx
  rw [hxk] at pk0 pk1 pk2 pk3 pk4 pk5
  go_wp2_with fail
  rw [← hxk]
  clear hxk
  refine (A2.out xk yka3 ykb3 ykc3 ykd3 yke3 ykf3 (Rxk.out.later B5_xk.out)).mono ?_
  rintro e t5 ⟨ng0, ng1, Pg, rfl, og, bt5⟩
  clear pk0 pk1 pk2 pk3 pk4 pk5
  have Og : Hid (KC.Ow t5 xk.heap.size ng0 ng1 N Pg) := og
  clear og
  have B0_t5 : Hid (Below U0.heap.size U0 t5) := bstep B0_xk.out bt5
  have B3_t5 : Hid (Below t3.heap.size t3 t5) := bstep B3_xk.out bt5
  have Bxk_t5 : Hid (Below xk.heap.size xk t5) := bstep Bxk_xk.out bt5
  have B5_t5 : Hid (Below xk.heap.size xk t5) := bstep B5_xk.out bt5
  have Zt5 : Hid (xk.heap.size ≤ t5.heap.size) := bt5.size
  clear B0_xk B3_xk Bxk_xk B5_xk bt5
  have B7_t5 : Hid (Below t5.heap.size t5 t5) := Below.refl _ _
  go_wp2_with fail
  refine (KC.eq t5 ng0 ng1 nw0 nw1 N tN.out (Og.out.sl.later B7_t5.out) (Ow.out.sl.later B3_t5.out)).mono ?_
  rintro e t6 ⟨rfl, bt6⟩
  have B0_t6 : Hid (Below U0.heap.size U0 t6) := bstep B0_t5.out bt6
  have B3_t6 : Hid (Below t3.heap.size t3 t6) := bstep B3_t5.out bt6
  have Bxk_t6 : Hid (Below xk.heap.size xk t6) := bstep Bxk_t5.out bt6
  have B5_t6 : Hid (Below xk.heap.size xk t6) := bstep B5_t5.out bt6
  have B7_t6 : Hid (Below t5.heap.size t5 t6) := bstep B7_t5.out bt6
  have Zt6 : Hid (t5.heap.size ≤ t6.heap.size) := bt6.size
  clear B0_t5 B3_t5 Bxk_t5 B5_t5 B7_t5 bt6
  go_upto_region 10 with fail
  go_cut [49] from 45 to 49 (fun s0 wx => s0 = .bool false ∧ Below t6.heap.size t6 wx)
  case first =>
    have bd : Below t6.heap.size t6 t6.drew := (Below.refl _ _).drew
    have hbx := (Fk.out.later (bstep B0_t6.out bd))
    have p0 := hbx.1 0 _ rfl
    have p1 := hbx.1 1 _ rfl
    have p2 := hbx.1 2 _ rfl
    have p3 := hbx.1 3 _ rfl
    have p4 := hbx.1 4 _ rfl
    have p5 := hbx.1 5 _ rfl
    clear hbx
    have hbx := (Gxk.out.later (bstep B5_t6.out bd))
    have e0 := hbx.1 0 _ rfl
    have e1 := hbx.1 1 _ rfl
    have e2 := hbx.1 2 _ rfl
    have e3 := hbx.1 3 _ rfl
    have e4 := hbx.1 4 _ rfl
    have e5 := hbx.1 5 _ rfl
    clear hbx
    have h47 : t4.heap.size < t6.drew.heap.size := (Gxk.out.later (bstep B5_t6.out bd)).2.2
    have sx : Hid (KCl.Rd t6.drew yka3 ykb3 ykc3 ykd3 yke3 ykf3 k) := Rxk.out.later (bstep B5_t6.out bd)
    have KB := hidOf bd
    have ra := Rk.out.later (bstep B0_t6.out bd)
    clear bd
    go_region_with (first
      | (go_at_call 9
         refine (KCl.to t6.drew yka ykb ykc ykd yke ykf k tk.out ra).mono ?_
         rintro e w8 ⟨yka8, ykb8, ykc8, ykd8, yke8, ykf8, _, rfl, o8, b8⟩
         have e0' : w8.cell? ⟨t4.heap.size, 0, none⟩ = some (.int .i64 k.config) := (b8.cell (p := ⟨t4.heap.size, 0, none⟩) h47).trans e0
         have e1' : w8.cell? ⟨t4.heap.size, 1, none⟩ = some (.int .i64 k.clock) := (b8.cell (p := ⟨t4.heap.size, 1, none⟩) h47).trans e1
         have e2' : w8.cell? ⟨t4.heap.size, 2, none⟩ = some (.slice yka3 k.places.length ykb3) := (b8.cell (p := ⟨t4.heap.size, 2, none⟩) h47).trans e2
         have e3' : w8.cell? ⟨t4.heap.size, 3, none⟩ = some (.slice ykc3 k.machines.length ykd3) := (b8.cell (p := ⟨t4.heap.size, 3, none⟩) h47).trans e3
         have e4' : w8.cell? ⟨t4.heap.size, 4, none⟩ = some (.slice yke3 k.txs.length ykf3) := (b8.cell (p := ⟨t4.heap.size, 4, none⟩) h47).trans e4
         have e5' : w8.cell? ⟨t4.heap.size, 5, none⟩ = some (.bool k.lost) := (b8.cell (p := ⟨t4.heap.size, 5, none⟩) h47).trans e5
         have S8 : Hid (KCl.Rd w8 yka3 ykb3 ykc3 ykd3 yke3 ykf3 k ∧ KCl.Rd w8 yka8 ykb8 ykc8 ykd8 yke8 ykf8 k ∧ Below t6.heap.size t6 w8) := ⟨sx.out.later b8, o8.sl, bstep KB.out b8⟩
         clear o8 b8)
      | (go_at_call 12
         refine (KCl.eq w8 yka3 ykb3 ykc3 ykd3 yke3 ykf3 yka8 ykb8 ykc8 ykd8 yke8 ykf8 k tk.out S8.out.1 S8.out.2.1).mono ?_
         rintro e w9 ⟨rfl, b9⟩))
    all_goals (
      go_wp2_with fail
      go_meet
      exact ⟨rfl, bstep S8.out.2.2 b9⟩)
  case rest =>
  obtain ⟨rfl, bx⟩ := hcut
  generalize wc = t7 at *
  have B0_t7 : Hid (Below U0.heap.size U0 t7) := bstep B0_t6.out bx
  have B3_t7 : Hid (Below t3.heap.size t3 t7) := bstep B3_t6.out bx
  have Bxk_t7 : Hid (Below xk.heap.size xk t7) := bstep Bxk_t6.out bx
  have B5_t7 : Hid (Below xk.heap.size xk t7) := bstep B5_t6.out bx
  have B7_t7 : Hid (Below t5.heap.size t5 t7) := bstep B7_t6.out bx
  have Zt7 : Hid (t6.heap.size ≤ t7.heap.size) := bx.size
  clear B0_t6 B3_t6 Bxk_t6 B5_t6 B7_t6 bx
  have Oxk : Hid (KCl.Ow t7 _ yka3 ykb3 ykc3 ykd3 yke3 ykf3 k Xk) := Oxk.out.later Bxk_t7.out
  have Gxk : Hid (Bx t7 t4.heap.size [.int .i64 k.config, .int .i64 k.clock, .slice yka3 k.places.length ykb3, .slice ykc3 k.machines.length ykd3, .slice yke3 k.txs.length ykf3, .bool k.lost]) := Gxk.out.later B5_t7.out
  have Og : Hid (KC.Ow t7 xk.heap.size ng0 ng1 N Pg) := Og.out.later B7_t7.out
  have k0 : Hid ((0 : Int) ≤ 1 ∧ (1 : Int) ≤ 1) := by unfold Hid; omega
  have hbx := Gxk.out
  have e0 := hbx.1 0 _ rfl
  have e1 := hbx.1 1 _ rfl
  have e2 := hbx.1 2 _ rfl
  have e3 := hbx.1 3 _ rfl
  have e4 := hbx.1 4 _ rfl
  have e5 := hbx.1 5 _ rfl
  clear hbx
  have hmk := KCl.mark t7 _ yka3 ykb3 ykc3 ykd3 yke3 ykf3 k Xk 1 (by have := k0.out; omega) (by have := k0.out; omega) (by omega) tk.out Oxk.out
  obtain ⟨E0, hE0⟩ : ∃ z, z = (endC k 1) := ⟨_, rfl⟩
  rw [← hE0] at hmk
  have k1 : Hid ((0 : Int) ≤ E0 ∧ E0 ≤ 300000000) := by
    rw [hE0]
    have := k0.out
    have e1 := cC_le k
    unfold endC
    refine ⟨by omega, by omega⟩
  clear hE0
  have dE : decide (E0 < 0) = false := by have := k1.out; simp; omega
  go_wp2_with fail
  refine hmk.mono ?_
  clear hmk e0 e1 e2 e3 e4 e5
  rintro e t8 ⟨rfl, kp⟩
  have B0_t8 : Hid (Below U0.heap.size U0 t8) := bkept B0_t7.out kp (fun q hq => by have := ZU.out; have := Zs1.out; have := Zt2.out; have := Zt3.out; have := Lxk.out; have := Mxk.out; have := Zxk.out; have := Zt5.out; have := Zt6.out; have := Zt7.out; have := (Pxk.out q hq).1; omega)
  have B3_t8 : Hid (Below t3.heap.size t3 t8) := bkept B3_t7.out kp (fun q hq => by have := ZU.out; have := Zs1.out; have := Zt2.out; have := Zt3.out; have := Lxk.out; have := Mxk.out; have := Zxk.out; have := Zt5.out; have := Zt6.out; have := Zt7.out; have := (Pxk.out q hq).1; omega)
  have Og : Hid (KC.Ow t8 xk.heap.size ng0 ng1 N Pg) := Og.out.keep kp.size (fun q hq => kp.block q (Og.out.of hq).2 (fun e => by have := ZU.out; have := Zs1.out; have := Zt2.out; have := Zt3.out; have := Lxk.out; have := Mxk.out; have := Zxk.out; have := Zt5.out; have := Zt6.out; have := Zt7.out; have := (Pxk.out q e).2; have := (Og.out.of hq).1; omega))
  have Zt8 : Hid (t7.heap.size ≤ t8.heap.size) := kp.size
  clear kp
  have B9_t8 : Hid (Below t8.heap.size t8 t8) := Below.refl _ _
  go_wp2_with fail
  refine (KC.eq t8 ng0 ng1 nw0 nw1 N tN.out (Og.out.sl.later B9_t8.out) (Ow.out.sl.later B3_t8.out)).mono ?_
  rintro e t9 ⟨rfl, bt9⟩
  have B0_t9 : Hid (Below U0.heap.size U0 t9) := bstep B0_t8.out bt9
  have B3_t9 : Hid (Below t3.heap.size t3 t9) := bstep B3_t8.out bt9
  have B9_t9 : Hid (Below t8.heap.size t8 t9) := bstep B9_t8.out bt9
  have Zt9 : Hid (t8.heap.size ≤ t9.heap.size) := bt9.size
  clear B0_t8 B3_t8 B9_t8 bt9
  have hmk := KC.mark t9 xk.heap.size ng0 ng1 N Pg 1 (by omega) (by omega) tN.out (Og.out.later B9_t9.out)
  have HH : Hid (∀ X, KC.Rd X ng0 ng1 (mkCells 1 N.length) → Calls Tryz.prog 22 #[.slice ng0 N.length ng1, .int .i64 1] X fun e w' => e = .returned (.int .i64 (1 + 2 * (N.length : Int))) ∧ Below X.heap.size X w') := fun X hX => KC.held X ng0 ng1 N 1 (by omega) (by omega) tN.out hX
  obtain ⟨G, hG⟩ : ∃ z, z = (1 + 2 * (N.length : Int)) := ⟨_, rfl⟩
  rw [← hG] at hmk HH
  have dG : decide (G < 0) = false := by
    rw [hG]
    simp
    omega
  have dH : (G != G) = false := by simp
  clear hG
  go_wp2_with fail
  refine hmk.mono ?_
  clear hmk
  rintro e t10 ⟨rfl, kp, om⟩
  have B0_t10 : Hid (Below U0.heap.size U0 t10) := bkept B0_t9.out kp (fun q hq => by have := ZU.out; have := Zs1.out; have := Zt2.out; have := Zt3.out; have := Lxk.out; have := Mxk.out; have := Zxk.out; have := Zt5.out; have := Zt6.out; have := Zt7.out; have := Zt8.out; have := Zt9.out; have := (Og.out.of hq).1; omega)
  have B3_t10 : Hid (Below t3.heap.size t3 t10) := bkept B3_t9.out kp (fun q hq => by have := ZU.out; have := Zs1.out; have := Zt2.out; have := Zt3.out; have := Lxk.out; have := Mxk.out; have := Zxk.out; have := Zt5.out; have := Zt6.out; have := Zt7.out; have := Zt8.out; have := Zt9.out; have := (Og.out.of hq).1; omega)
  have Om := hidOf om
  have Zt10 : Hid (t9.heap.size ≤ t10.heap.size) := kp.size
  clear kp om B9_t9
  have B10_t10 : Hid (Below t10.heap.size t10 t10) := Below.refl _ _
  go_wp2_with fail
  refine (HH.out t10 (Om.out.later B10_t10.out)).mono ?_
  rintro e t11 ⟨rfl, bt11⟩
  have B0_t11 : Hid (Below U0.heap.size U0 t11) := bstep B0_t10.out bt11
  have B3_t11 : Hid (Below t3.heap.size t3 t11) := bstep B3_t10.out bt11
  have B10_t11 : Hid (Below t10.heap.size t10 t11) := bstep B10_t10.out bt11
  have Zt11 : Hid (t10.heap.size ≤ t11.heap.size) := bt11.size
  clear B0_t10 B3_t10 B10_t10 bt11
  have hbx := (Fk.out.later B0_t11.out)
  have p0 := hbx.1 0 _ rfl
  have p1 := hbx.1 1 _ rfl
  have p2 := hbx.1 2 _ rfl
  have p3 := hbx.1 3 _ rfl
  have p4 := hbx.1 4 _ rfl
  have p5 := hbx.1 5 _ rfl
  clear hbx
  go_wp2_with fail
  refine (KCl.to t11 yka ykb ykc ykd yke ykf k tk.out (Rk.out.later B0_t11.out)).mono ?_
  rintro e t12 ⟨yka2, ykb2, ykc2, ykd2, yke2, ykf2, _, rfl, oT, bt12⟩
  have rbk := hidOf oT.sl
  clear oT p0 p1 p2 p3 p4 p5
  have B0_t12 : Hid (Below U0.heap.size U0 t12) := bstep B0_t11.out bt12
  have B3_t12 : Hid (Below t3.heap.size t3 t12) := bstep B3_t11.out bt12
  have B10_t12 : Hid (Below t10.heap.size t10 t12) := bstep B10_t11.out bt12
  have Zt12 : Hid (t11.heap.size ≤ t12.heap.size) := bt12.size
  clear B0_t11 B3_t11 B10_t11 bt12
  go_wp2_with fail
  refine (A2.out t12 yka2 ykb2 ykc2 ykd2 yke2 ykf2 rbk.out).mono ?_
  rintro e t13 ⟨nh0, nh1, Ph, rfl, oh, bt13⟩
  clear rbk
  have Oh : Hid (KC.Ow t13 t12.heap.size nh0 nh1 N Ph) := oh
  clear oh
  have B0_t13 : Hid (Below U0.heap.size U0 t13) := bstep B0_t12.out bt13
  have B3_t13 : Hid (Below t3.heap.size t3 t13) := bstep B3_t12.out bt13
  have B10_t13 : Hid (Below t10.heap.size t10 t13) := bstep B10_t12.out bt13
  have Zt13 : Hid (t12.heap.size ≤ t13.heap.size) := bt13.size
  clear B0_t12 B3_t12 B10_t12 bt13
  have B11_t13 : Hid (Below t13.heap.size t13 t13) := Below.refl _ _
  go_wp2_with fail
  refine (KC.eq t13 nh0 nh1 nw0 nw1 N tN.out (Oh.out.sl.later B11_t13.out) (Ow.out.sl.later B3_t13.out)).mono ?_
  rintro e t14 ⟨rfl, bt14⟩
  have B0_t14 : Hid (Below U0.heap.size U0 t14) := bstep B0_t13.out bt14
  have B3_t14 : Hid (Below t3.heap.size t3 t14) := bstep B3_t13.out bt14
  have B10_t14 : Hid (Below t10.heap.size t10 t14) := bstep B10_t13.out bt14
  have B11_t14 : Hid (Below t13.heap.size t13 t14) := bstep B11_t13.out bt14
  have Zt14 : Hid (t13.heap.size ≤ t14.heap.size) := bt14.size
  clear B0_t13 B3_t13 B10_t13 B11_t13 bt14
  go_wp2_with fail
  refine (HH.out t14 (Om.out.later B10_t14.out)).mono ?_
  rintro e t15 ⟨rfl, bt15⟩
  have B0_t15 : Hid (Below U0.heap.size U0 t15) := bstep B0_t14.out bt15
  have B3_t15 : Hid (Below t3.heap.size t3 t15) := bstep B3_t14.out bt15
  have B10_t15 : Hid (Below t10.heap.size t10 t15) := bstep B10_t14.out bt15
  have B11_t15 : Hid (Below t13.heap.size t13 t15) := bstep B11_t14.out bt15
  have Zt15 : Hid (t14.heap.size ≤ t15.heap.size) := bt15.size
  clear B0_t14 B3_t14 B10_t14 B11_t14 bt15
  go_wp2
  go_ret
  exact ⟨rfl, bstep Bw.out B0_t15.out⟩
set_option maxHeartbeats 2000000 in
theorem walk_great0 (w : World) (yka : Option Addr) (ykb : Nat) (ykc : Option Addr) (ykd : Nat) (yke : Option Addr) (ykf : Nat) (k : C6) (y : Int) (lk : KCl.L k) (hk : KCl.Rd w yka ykb ykc ykd yke ykf k) (hg : ¬ szC k ≤ 1048576) :
    Calls Tryz.prog 5 #[.agg #[.int .i64 k.config, .int .i64 k.clock, .slice yka k.places.length ykb, .slice ykc k.machines.length ykd, .slice yke k.txs.length ykf, .bool k.lost], .int .i64 y] w fun e w' => e = .returned (.bool true) ∧ Below w.heap.size w w' := by
  obtain ⟨U0, hU0⟩ : ∃ X, X = w.alloc (.cells #[.int .i64 k.config, .int .i64 k.clock, .slice yka k.places.length ykb, .slice ykc k.machines.length ykd, .slice yke k.txs.length ykf, .bool k.lost] 26) := ⟨_, rfl⟩
  have bU0 : Below w.heap.size w U0 := by rw [hU0]; exact (Below.refl _ _).alloc (Nat.le_refl _) _
  have xU0 : Bx U0 w.heap.size [.int .i64 k.config, .int .i64 k.clock, .slice yka k.places.length ykb, .slice ykc k.machines.length ykd, .slice yke k.txs.length ykf, .bool k.lost] := by rw [hU0]; exact Bx.made w [.int .i64 k.config, .int .i64 k.clock, .slice yka k.places.length ykb, .slice ykc k.machines.length ykd, .slice yke k.txs.length ykf, .bool k.lost] _
  have zU0 : U0.heap.size = w.heap.size + 1 := by rw [hU0]; simp
  have Fk : Hid (Bx U0 w.heap.size [.int .i64 k.config, .int .i64 k.clock, .slice yka k.places.length ykb, .slice ykc k.machines.length ykd, .slice yke k.txs.length ykf, .bool k.lost]) := xU0
  have Rk : Hid (KCl.Rd U0 yka ykb ykc ykd yke ykf k) := (hk).later bU0
  have Bw : Hid (Below w.heap.size w U0) := bU0
  have ZU : Hid (U0.heap.size = w.heap.size + 1) := by unfold Hid; omega
  clear bU0 xU0 zU0 hk
  have B0_U0 : Hid (Below U0.heap.size U0 U0) := Below.refl _ _
  go_enter Tryz.func5, Tryz.ntmps5
  have hbx := (Fk.out.later B0_U0.out)
  have p0 := hbx.1 0 _ rfl
  have p1 := hbx.1 1 _ rfl
  have p2 := hbx.1 2 _ rfl
  have p3 := hbx.1 3 _ rfl
  have p4 := hbx.1 4 _ rfl
  have p5 := hbx.1 5 _ rfl
  clear hbx
  rw [hU0] at p0 p1 p2 p3 p4 p5
  go_wp2_with fail
  rw [← hU0]
  clear hU0
  refine (KCl.sz U0 yka ykb ykc ykd yke ykf k lk (Rk.out.later B0_U0.out)).mono ?_
  rw [leftR_no (by omega)]
  rintro e s1 ⟨rfl, bs1⟩
  clear p0 p1 p2 p3 p4 p5
  have B0_s1 : Hid (Below U0.heap.size U0 s1) := bstep B0_U0.out bs1
  have Zs1 : Hid (U0.heap.size ≤ s1.heap.size) := bs1.size
  clear B0_U0 bs1
  go_wp2
  go_ret
  exact ⟨rfl, bstep Bw.out B0_s1.out⟩
theorem walk (w : World) (yka : Option Addr) (ykb : Nat) (ykc : Option Addr) (ykd : Nat) (yke : Option Addr) (ykf : Nat) (k : C6) (y : Int) (lk : KCl.L k) (hk : KCl.Rd w yka ykb ykc ykd yke ykf k) :
    Calls Tryz.prog 5 #[.agg #[.int .i64 k.config, .int .i64 k.clock, .slice yka k.places.length ykb, .slice ykc k.machines.length ykd, .slice yke k.txs.length ykf, .bool k.lost], .int .i64 y] w fun e w' => e = .returned (.bool true) ∧ Below w.heap.size w w' := by
  by_cases g0 : szC k ≤ 1048576
  case neg => exact walk_great0 w yka ykb ykc ykd yke ykf k y lk hk g0
  exact walk_small w yka ykb ykc ykd yke ykf k y lk hk g0
set_option maxRecDepth 100000 in
theorem lifted (os : Os) (started : os.Started) (H : Type) (enc : TypeId × Value → H) :
    ReturnsInHanded {} Tryz.checked os 5 .any (Rows.fnExactFinalSpec.pre6 enc Tryz.prog Tryz.f5 Rows.fnExactFinalRow.domain false) (Rows.fnExactFinalSpec.post enc Tryz.prog Tryz.f5 false true false false) := by
  refine returnsInHanded_of_change (C := Tryz.checked) own started (by kernel_rfl) Tryz.func5
    (ChangeSpec.witness6 (enc := enc) (C := Tryz.checked) false ⟨#[], #[.agg #[.int .i64 0, .int .i64 0, .slice none 0 0, .slice none 0 0, .slice none 0 0, .bool false], .int .i64 0], []⟩ 8 (by kernel_rfl) (by kernel_rfl) (by kernel_rfl) (by kernel_rfl)) ?_
  intro W base args ds gs before hval0 hW hcnd _
  have hval : ∀ (j : Nat) t v, Tryz.f5.params[j]? = some t → args[j]? = some v → Value.okWide Tryz.prog W .any base t v := hval0
  have hW' := hW
  obtain ⟨p, q, hA0, hV, rfl, hfz, hnd⟩ := hW
  have hA : DataW.TrodAll enc Tryz.prog W 0 (fun _ => true) true Tryz.f5.params.toList args.toList ds p := hA0
  rw [Tryz.params5] at hA hval
  obtain ⟨v0, vs0, d0, ds0, p0, q0, hargs, rfl, rfl, h0, r0⟩ := trodAll_cons hA
  obtain ⟨v1, vs1, d1, ds1, p1, q1, rfl, rfl, rfl, h1, r1⟩ := trodAll_cons r0
  obtain ⟨rfl, rfl, rfl⟩ := trodAll_nil r1
  obtain rfl : args = #[v0, v1] := by cases args; simp_all
  obtain ⟨rfl, rfl⟩ := trodVars_none hV
  obtain ⟨cs0, rfl, hcs0⟩ := okWide_struct Tryz.underlying26 (hval 0 26 v0 rfl rfl)
  have k0 := h0
  have lt0 : ∀ x ∈ p0, x.block < W.heap.size := by obtain ⟨n, hn⟩ := k0; exact DataW.trod_lt n _ _ _ hn
  obtain ⟨yka, ykb, ykc, ykd, yke, ykf, k, rfl, hk, lk⟩ : ∃ (a1 : Option Addr) (c1 : Nat) (a2 : Option Addr) (c2 : Nat) (a3 : Option Addr) (c3 : Nat) (m : C6), cs0 = #[.int .i64 m.config, .int .i64 m.clock, .slice a1 m.places.length c1, .slice a2 m.machines.length c2, .slice a3 m.txs.length c3, .bool m.lost] ∧ KCl.Rd W a1 c1 a2 c2 a3 c3 m ∧ KCl.L m := by
    obtain ⟨fuel, hf⟩ := h0
    obtain ⟨a1, c1, a2, c2, a3, c3, m, e, hs, hl⟩ := oc.open_cluster hf
    exact ⟨a1, c1, a2, c2, a3, c3, m, by cases cs0; simpa [Value.cells] using e, hs, hl⟩
  obtain ⟨y, rfl, rfl, rfl, w1⟩ := open_int Tryz.underlying2 (hval 1 2 v1 rfl rfl) h1
  clear hA0 hval0
  refine (walk W yka ykb ykc ykd yke ykf k y lk hk).mono fun e W' ⟨he, bel⟩ => ?_
  subst he
  exact ⟨_, rfl, _, _, _, [], _, [], hW', trodAll_mk1 (shut_bool Tryz.underlying4 _), (trodAll_cons_mk (Below.trod laidOut (by kernel_rfl) (of_decide_eq_true (by kernel_rfl)) k0 bel lt0) (trodAll_cons_mk (shut_int Tryz.underlying2 w1) trodAll_mk0)), rfl, bel.frame _, fun h => by cases h⟩
theorem over : Rows.fnExactFinalRow.holds Tryz.pinned (OpenSpec.ofChange Rows.fnExactFinalSpec) :=
  OpenClaim.holds_of_wide 5 Tryz.f5 rfl rfl rfl rfl rfl rfl rfl ⟨rfl, rfl, rfl, rfl, rfl⟩ rfl rfl rfl rfl rfl (by kernel_rfl) Tryz.func5 (by kernel_rfl)
    (of_decide_eq_true (by kernel_rfl)) (by unfold Func.isWrapper; first | (rw [if_pos (by decide +kernel)]; kernel_rfl) | (rw [if_neg (by decide +kernel)]; exact ⟨rfl, rfl⟩))
    (fun os started H enc _ => lifted os started H enc)
end Go.Proofs.YtdmpobegobfpjaaGreat.fnExactFinal
namespace Go.Proofs.YtdmpobegobfpjaaGreat
theorem fnExactFinal_holds : Rows.FnExactFinalSaid := fnExactFinal.over
#print axioms fnExactFinal_holds
end Go.Proofs.YtdmpobegobfpjaaGreat
