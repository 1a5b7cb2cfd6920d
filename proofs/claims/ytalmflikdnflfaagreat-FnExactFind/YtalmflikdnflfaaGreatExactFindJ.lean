/- Find of the program answers, at every Cluster and Id, as the specification's Find does, in memory of its own, and changes nothing: no condition. -/
import Derived.Test.YtalmflikdnflfaaGreatRows
import Derived.Test.YtalmflikdnflfaaGreatJ46ExactFind
import Derived.Test.YtalmflikdnflfaaGreatJ48ExactFind
import Derived.Test.YtalmflikdnflfaaGreatKdClTJ
import Derived.Test.YtalmflikdnflfaaGreatJ52ExactFind
import Derived.WalkKit
import Derived.ProofKit
import Derived.OpenShut
import Derived.Deep.RegionWith
import Derived.Deep.CutRange
import Derived.WalkSpells
namespace Go.Proofs.YtalmflikdnflfaaGreat.fnExactFind
open Go.ChangeShapes Go.WideShapes Go.ChangeAt Go.RowKit
theorem own : ownKnob Tryz.prog.godebug = none := by kernel_rfl
theorem laidOut : laidOutB Tryz.prog = true := by kernel_rfl
def Ans (X : World) (N : tx.T7) (o0 : Bool) (e : Ending) (w' : World) : Prop := ∃ (ra : Option Addr) (rb : Nat) (rc : Option Addr) (rd : Nat) (P : Nat → Prop), e = .returned (.tuple #[.agg #[.int .i64 N.id, .int .i64 N.home, .int .i64 N.phase, .int .i64 N.count, .slice ra N.reads.length rb, .slice rc N.sets.length rd, .int .i64 N.stamp], .bool o0]) ∧ KT.Ow w' X.heap.size ra rb rc rd N P ∧ Below X.heap.size X w'
/-- The answer in a box, in memory of the call's own. -/
def Gx (w X : World) (sv : Value) (bo0 : Value) (N : tx.T7) (o0 : Bool) : Prop := ∃ (q : Nat) (ra : Option Addr) (rb : Nat) (rc : Option Addr) (rd : Nat) (P : Nat → Prop), sv = .pointer (some ⟨q, 0, none⟩) ∧ bo0 = .bool o0 ∧ Bx X q [.int .i64 N.id, .int .i64 N.home, .int .i64 N.phase, .int .i64 N.count, .slice ra N.reads.length rb, .slice rc N.sets.length rd, .int .i64 N.stamp] ∧ KT.Ow X w.heap.size ra rb rc rd N P ∧ (∀ x, P x → x ≠ q) ∧ w.heap.size ≤ q ∧ Below w.heap.size w X
set_option maxRecDepth 100000 in
set_option maxHeartbeats 8000000 in
theorem walk_small (w : World) (yka : Option Addr) (ykb : Nat) (ykc : Option Addr) (ykd : Nat) (yke : Option Addr) (ykf : Nat) (k : C6) (y : Int) (lk : KCl.L k) (hk : KCl.Rd w yka ykb ykc ykd yke ykf k) (hg : szC k ≤ 1048576) :
    Calls Tryz.prog 4 #[.agg #[.int .i64 k.config, .int .i64 k.clock, .slice yka k.places.length ykb, .slice ykc k.machines.length ykd, .slice yke k.txs.length ykf, .bool k.lost], .int .i64 y] w fun e w' => e = .returned (.bool true) ∧ Below w.heap.size w w' := by
  have tk : Hid (KCl.S k) := KCl.S.of (by omega)
  obtain ⟨N, hN⟩ : ∃ N, N = findT k y := ⟨_, rfl⟩
  obtain ⟨o0, ho0⟩ : ∃ z, z = findB k y := ⟨_, rfl⟩
  have A1 : Hid (∀ (X : World) (yka1 : Option Addr) (ykb1 : Nat) (ykc1 : Option Addr) (ykd1 : Nat) (yke1 : Option Addr) (ykf1 : Nat), KCl.Rd X yka1 ykb1 ykc1 ykd1 yke1 ykf1 k → Calls Tryz.prog 12 #[.agg #[.int .i64 k.config, .int .i64 k.clock, .slice yka1 k.places.length ykb1, .slice ykc1 k.machines.length ykd1, .slice yke1 k.txs.length ykf1, .bool k.lost], .int .i64 y] X (Ans X N o0)) := by
    rw [hN, ho0]
    intro X yka1 ykb1 ykc1 ykd1 yke1 ykf1 h1
    exact specFind_any X yka1 ykb1 ykc1 ykd1 yke1 ykf1 k y lk h1
  have A2 : Hid (∀ (X : World) (yka1 : Option Addr) (ykb1 : Nat) (ykc1 : Option Addr) (ykd1 : Nat) (yke1 : Option Addr) (ykf1 : Nat), KCl.Rd X yka1 ykb1 ykc1 ykd1 yke1 ykf1 k → Calls Tryz.prog 13 #[.agg #[.int .i64 k.config, .int .i64 k.clock, .slice yka1 k.places.length ykb1, .slice ykc1 k.machines.length ykd1, .slice yke1 k.txs.length ykf1, .bool k.lost], .int .i64 y] X (Ans X N o0)) := by
    rw [hN, ho0]
    intro X yka1 ykb1 ykc1 ykd1 yke1 ykf1 h1
    exact implFind_any X yka1 ykb1 ykc1 ykd1 yke1 ykf1 k y lk h1
  have tN : Hid (KT.S N) := by
    rw [hN]
    exact findT_s tk.out y
  clear hN ho0
  have do0 : (o0 != o0) = false := by simp
  obtain ⟨U0, hU0⟩ : ∃ X, X = w.alloc (.cells #[.int .i64 k.config, .int .i64 k.clock, .slice yka k.places.length ykb, .slice ykc k.machines.length ykd, .slice yke k.txs.length ykf, .bool k.lost] 26) := ⟨_, rfl⟩
  have bU0 : Below w.heap.size w U0 := by rw [hU0]; exact (Below.refl _ _).alloc (Nat.le_refl _) _
  have xU0 : Bx U0 w.heap.size [.int .i64 k.config, .int .i64 k.clock, .slice yka k.places.length ykb, .slice ykc k.machines.length ykd, .slice yke k.txs.length ykf, .bool k.lost] := by rw [hU0]; exact Bx.made w [.int .i64 k.config, .int .i64 k.clock, .slice yka k.places.length ykb, .slice ykc k.machines.length ykd, .slice yke k.txs.length ykf, .bool k.lost] _
  have zU0 : U0.heap.size = w.heap.size + 1 := by rw [hU0]; simp
  have Fk : Hid (Bx U0 w.heap.size [.int .i64 k.config, .int .i64 k.clock, .slice yka k.places.length ykb, .slice ykc k.machines.length ykd, .slice yke k.txs.length ykf, .bool k.lost]) := xU0
  have Rk : Hid (KCl.Rd U0 yka ykb ykc ykd yke ykf k) := (hk).later bU0
  have Bw : Hid (Below w.heap.size w U0) := bU0
  have ZU : Hid (U0.heap.size = w.heap.size + 1) := by unfold Hid; omega
  clear bU0 xU0 zU0 hk
  have B0_U0 : Hid (Below U0.heap.size U0 U0) := Below.refl _ _
  go_enter Tryz.func4, Tryz.ntmps4
  have hbx := (Fk.out.later B0_U0.out)
  have p0 := hbx.1 0 _ rfl
  have p1 := hbx.1 1 _ rfl
  have p2 := hbx.1 2 _ rfl
  have p3 := hbx.1 3 _ rfl
  have p4 := hbx.1 4 _ rfl
  have p5 := hbx.1 5 _ rfl
  clear hbx
  rw [hU0] at p0 p1 p2 p3 p4 p5
  go_wp2_with fail
  rw [← hU0]
  clear hU0
  refine (KCl.sz U0 yka ykb ykc ykd yke ykf k lk (Rk.out.later B0_U0.out)).mono ?_
  rw [leftR_yes (by omega)]
  rintro e s1 ⟨rfl, bs1⟩
  clear p0 p1 p2 p3 p4 p5
  have B0_s1 : Hid (Below U0.heap.size U0 s1) := bstep B0_U0.out bs1
  have Zs1 : Hid (U0.heap.size ≤ s1.heap.size) := bs1.size
  clear B0_U0 bs1
  have g0 : decide ((((1048576 - szC k) : Nat) : Int) < 0) = false := by simp
  have hbx := (Fk.out.later B0_s1.out)
  have p0 := hbx.1 0 _ rfl
  have p1 := hbx.1 1 _ rfl
  have p2 := hbx.1 2 _ rfl
  have p3 := hbx.1 3 _ rfl
  have p4 := hbx.1 4 _ rfl
  have p5 := hbx.1 5 _ rfl
  clear hbx
  go_wp2_with fail
  refine (KCl.to s1 yka ykb ykc ykd yke ykf k tk.out (Rk.out.later B0_s1.out)).mono ?_
  rintro e t2 ⟨yka2, ykb2, ykc2, ykd2, yke2, ykf2, _, rfl, oT, bt2⟩
  have rbk := hidOf oT.sl
  clear oT p0 p1 p2 p3 p4 p5
  have B0_t2 : Hid (Below U0.heap.size U0 t2) := bstep B0_s1.out bt2
  have Zt2 : Hid (s1.heap.size ≤ t2.heap.size) := bt2.size
  clear B0_s1 bt2
  go_wp2_with fail
  refine (A1.out t2 yka2 ykb2 ykc2 ykd2 yke2 ykf2 rbk.out).mono ?_
  rintro e t3 ⟨nw0, nw1, nw2, nw3, Pw, rfl, ow, bt3⟩
  clear rbk
  obtain ⟨vw, hvw⟩ : ∃ X, X = t3.alloc (.cells #[.int .i64 N.id, .int .i64 N.home, .int .i64 N.phase, .int .i64 N.count, .slice nw0 N.reads.length nw1, .slice nw2 N.sets.length nw3, .int .i64 N.stamp] 40) := ⟨_, rfl⟩
  have bvw : Below t3.heap.size t3 vw := by rw [hvw]; exact (Below.refl _ _).alloc (Nat.le_refl _) _
  have Fw : Hid (Bx vw t3.heap.size [.int .i64 N.id, .int .i64 N.home, .int .i64 N.phase, .int .i64 N.count, .slice nw0 N.reads.length nw1, .slice nw2 N.sets.length nw3, .int .i64 N.stamp]) := by rw [hvw]; exact Bx.made t3 [.int .i64 N.id, .int .i64 N.home, .int .i64 N.phase, .int .i64 N.count, .slice nw0 N.reads.length nw1, .slice nw2 N.sets.length nw3, .int .i64 N.stamp] _
  have Ow : Hid (KT.Ow vw t2.heap.size nw0 nw1 nw2 nw3 N Pw) := ow.later bvw
  have NEw : Hid (∀ x, Pw x → x ≠ t3.heap.size) := fun x hx => by have := (ow.of hx).2; omega
  obtain ⟨qw, hqw⟩ : ∃ q, q = t3.heap.size := ⟨_, rfl⟩
  have bb : Below t2.heap.size t2 vw := bstep bt3 bvw
  have Lw : Hid (t2.heap.size ≤ t3.heap.size) := bt3.size
  clear ow bt3 bvw hqw qw
  have B0_vw : Hid (Below U0.heap.size U0 vw) := bstep B0_t2.out bb
  have Zvw : Hid (t2.heap.size ≤ vw.heap.size) := bb.size
  clear B0_t2 bb
  have B3_vw : Hid (Below vw.heap.size vw vw) := Below.refl _ _
  have hbx := (Fk.out.later B0_vw.out)
  have p0 := hbx.1 0 _ rfl
  have p1 := hbx.1 1 _ rfl
  have p2 := hbx.1 2 _ rfl
  have p3 := hbx.1 3 _ rfl
  have p4 := hbx.1 4 _ rfl
  have p5 := hbx.1 5 _ rfl
  clear hbx
  rw [hvw] at p0 p1 p2 p3 p4 p5
  go_wp2_with fail
  rw [← hvw]
  clear hvw
  refine (KCl.to vw yka ykb ykc ykd yke ykf k tk.out (Rk.out.later B0_vw.out)).mono ?_
  rintro e t4 ⟨yka3, ykb3, ykc3, ykd3, yke3, ykf3, Xk, rfl, ox, bt4⟩
  clear p0 p1 p2 p3 p4 p5
  obtain ⟨xk, hxk⟩ : ∃ X, X = t4.alloc (.cells #[.int .i64 k.config, .int .i64 k.clock, .slice yka3 k.places.length ykb3, .slice ykc3 k.machines.length ykd3, .slice yke3 k.txs.length ykf3, .bool k.lost] 33) := ⟨_, rfl⟩
  have bxk : Below t4.heap.size t4 xk := by rw [hxk]; exact (Below.refl _ _).alloc (Nat.le_refl _) _
  have Fxk : Hid (Bx xk t4.heap.size [.int .i64 k.config, .int .i64 k.clock, .slice yka3 k.places.length ykb3, .slice ykc3 k.machines.length ykd3, .slice yke3 k.txs.length ykf3, .bool k.lost]) := by rw [hxk]; exact Bx.made t4 [.int .i64 k.config, .int .i64 k.clock, .slice yka3 k.places.length ykb3, .slice ykc3 k.machines.length ykd3, .slice yke3 k.txs.length ykf3, .bool k.lost] _
  have Oxk : Hid (KCl.Ow xk vw.heap.size yka3 ykb3 ykc3 ykd3 yke3 ykf3 k Xk) := ox.later bxk
  have Pxk : Hid (∀ q, Xk q → vw.heap.size ≤ q ∧ q < t4.heap.size) := fun q hq => ox.of hq
  have bb : Below vw.heap.size vw xk := bstep bt4 bxk
  have Lxk : Hid (vw.heap.size ≤ t4.heap.size) := bt4.size
  have Mxk : Hid (xk.heap.size = t4.heap.size + 1) := by rw [Hid, hxk]; simp
  clear ox bt4 bxk
  have B0_xk : Hid (Below U0.heap.size U0 xk) := bstep B0_vw.out bb
  have B3_xk : Hid (Below vw.heap.size vw xk) := bstep B3_vw.out bb
  have Zxk : Hid (vw.heap.size ≤ xk.heap.size) := bb.size
  clear B0_vw B3_vw bb
  have Bxk_xk : Hid (Below xk.heap.size xk xk) := Below.refl _ _
  have B5_xk : Hid (Below xk.heap.size xk xk) := Below.refl _ _
  have Rxk : Hid (KCl.Rd xk yka3 ykb3 ykc3 ykd3 yke3 ykf3 k) := (Oxk.out.later Bxk_xk.out).sl
  have Gxk : Hid (Bx xk t4.heap.size [.int .i64 k.config, .int .i64 k.clock, .slice yka3 k.places.length ykb3, .slice ykc3 k.machines.length ykd3, .slice yke3 k.txs.length ykf3, .bool k.lost]) := Fxk.out.later Bxk_xk.out
  have hbx := (Gxk.out.later B5_xk.out)
  have pk0 := hbx.1 0 _ rfl
  have pk1 := hbx.1 1 _ rfl
  have pk2 := hbx.1 2 _ rfl
  have pk3 := hbx.1 3 _ rfl
  have pk4 := hbx.1 4 _ rfl
  have pk5 := hbx.1 5 _ rfl
  clear hbx
  rw [hxk] at pk0 pk1 pk2 pk3 pk4 pk5
  go_wp2_with fail
  rw [← hxk]
  clear hxk
  refine (A2.out xk yka3 ykb3 ykc3 ykd3 yke3 ykf3 (Rxk.out.later B5_xk.out)).mono ?_
  rintro e t5 ⟨ng0, ng1, ng2, ng3, Pg, rfl, og, bt5⟩
  clear pk0 pk1 pk2 pk3 pk4 pk5
  obtain ⟨vg, hvg⟩ : ∃ X, X = t5.alloc (.cells #[.int .i64 N.id, .int .i64 N.home, .int .i64 N.phase, .int .i64 N.count, .slice ng0 N.reads.length ng1, .slice ng2 N.sets.length ng3, .int .i64 N.stamp] 40) := ⟨_, rfl⟩
  have bvg : Below t5.heap.size t5 vg := by rw [hvg]; exact (Below.refl _ _).alloc (Nat.le_refl _) _
  have Fg : Hid (Bx vg t5.heap.size [.int .i64 N.id, .int .i64 N.home, .int .i64 N.phase, .int .i64 N.count, .slice ng0 N.reads.length ng1, .slice ng2 N.sets.length ng3, .int .i64 N.stamp]) := by rw [hvg]; exact Bx.made t5 [.int .i64 N.id, .int .i64 N.home, .int .i64 N.phase, .int .i64 N.count, .slice ng0 N.reads.length ng1, .slice ng2 N.sets.length ng3, .int .i64 N.stamp] _
  have Og : Hid (KT.Ow vg xk.heap.size ng0 ng1 ng2 ng3 N Pg) := og.later bvg
  have NEg : Hid (∀ x, Pg x → x ≠ t5.heap.size) := fun x hx => by have := (og.of hx).2; omega
  obtain ⟨qg, hqg⟩ : ∃ q, q = t5.heap.size := ⟨_, rfl⟩
  have bb : Below xk.heap.size xk vg := bstep bt5 bvg
  have Lg : Hid (xk.heap.size ≤ t5.heap.size) := bt5.size
  clear og bt5 bvg hqg qg
  have B0_vg : Hid (Below U0.heap.size U0 vg) := bstep B0_xk.out bb
  have B3_vg : Hid (Below vw.heap.size vw vg) := bstep B3_xk.out bb
  have Bxk_vg : Hid (Below xk.heap.size xk vg) := bstep Bxk_xk.out bb
  have B5_vg : Hid (Below xk.heap.size xk vg) := bstep B5_xk.out bb
  have Zvg : Hid (xk.heap.size ≤ vg.heap.size) := bb.size
  clear B0_xk B3_xk Bxk_xk B5_xk bb
  have B7_vg : Hid (Below vg.heap.size vg vg) := Below.refl _ _
  have hbx := (Fg.out.later B7_vg.out)
  have g0 := hbx.1 0 _ rfl
  have g1 := hbx.1 1 _ rfl
  have g2 := hbx.1 2 _ rfl
  have g3 := hbx.1 3 _ rfl
  have g4 := hbx.1 4 _ rfl
  have g5 := hbx.1 5 _ rfl
  have g6 := hbx.1 6 _ rfl
  clear hbx
  have hbx := (Fw.out.later B3_vg.out)
  have y0 := hbx.1 0 _ rfl
  have y1 := hbx.1 1 _ rfl
  have y2 := hbx.1 2 _ rfl
  have y3 := hbx.1 3 _ rfl
  have y4 := hbx.1 4 _ rfl
  have y5 := hbx.1 5 _ rfl
  have y6 := hbx.1 6 _ rfl
  clear hbx
  rw [hvg] at g0 g1 g2 g3 g4 g5 g6 y0 y1 y2 y3 y4 y5 y6
  go_wp2_with fail
  rw [← hvg]
  clear hvg
  refine (KT.eq vg ng0 ng1 ng2 ng3 nw0 nw1 nw2 nw3 N tN.out (Og.out.sl.later B7_vg.out) (Ow.out.sl.later B3_vg.out)).mono ?_
  rintro e t6 ⟨rfl, bt6⟩
  clear g0 g1 g2 g3 g4 g5 g6 y0 y1 y2 y3 y4 y5 y6
  have B0_t6 : Hid (Below U0.heap.size U0 t6) := bstep B0_vg.out bt6
  have B3_t6 : Hid (Below vw.heap.size vw t6) := bstep B3_vg.out bt6
  have Bxk_t6 : Hid (Below xk.heap.size xk t6) := bstep Bxk_vg.out bt6
  have B5_t6 : Hid (Below xk.heap.size xk t6) := bstep B5_vg.out bt6
  have B7_t6 : Hid (Below vg.heap.size vg t6) := bstep B7_vg.out bt6
  have Zt6 : Hid (vg.heap.size ≤ t6.heap.size) := bt6.size
  clear B0_vg B3_vg Bxk_vg B5_vg B7_vg bt6
  go_upto_region 10 with fail
  go_cut [49] from 45 to 49 (fun s0 wx => s0 = .bool false ∧ Below t6.heap.size t6 wx)
  case first =>
    have bd : Below t6.heap.size t6 t6.drew := (Below.refl _ _).drew
    have hbx := (Fk.out.later (bstep B0_t6.out bd))
    have p0 := hbx.1 0 _ rfl
    have p1 := hbx.1 1 _ rfl
    have p2 := hbx.1 2 _ rfl
    have p3 := hbx.1 3 _ rfl
    have p4 := hbx.1 4 _ rfl
    have p5 := hbx.1 5 _ rfl
    clear hbx
    have hbx := (Gxk.out.later (bstep B5_t6.out bd))
    have e0 := hbx.1 0 _ rfl
    have e1 := hbx.1 1 _ rfl
    have e2 := hbx.1 2 _ rfl
    have e3 := hbx.1 3 _ rfl
    have e4 := hbx.1 4 _ rfl
    have e5 := hbx.1 5 _ rfl
    clear hbx
    have h47 : t4.heap.size < t6.drew.heap.size := (Gxk.out.later (bstep B5_t6.out bd)).2.2
    have sx : Hid (KCl.Rd t6.drew yka3 ykb3 ykc3 ykd3 yke3 ykf3 k) := Rxk.out.later (bstep B5_t6.out bd)
    have KB := hidOf bd
    have ra := Rk.out.later (bstep B0_t6.out bd)
    clear bd
    go_region_with (first
      | (go_at_call 9
         refine (KCl.to t6.drew yka ykb ykc ykd yke ykf k tk.out ra).mono ?_
         rintro e w8 ⟨yka8, ykb8, ykc8, ykd8, yke8, ykf8, _, rfl, o8, b8⟩
         have e0' : w8.cell? ⟨t4.heap.size, 0, none⟩ = some (.int .i64 k.config) := (b8.cell (p := ⟨t4.heap.size, 0, none⟩) h47).trans e0
         have e1' : w8.cell? ⟨t4.heap.size, 1, none⟩ = some (.int .i64 k.clock) := (b8.cell (p := ⟨t4.heap.size, 1, none⟩) h47).trans e1
         have e2' : w8.cell? ⟨t4.heap.size, 2, none⟩ = some (.slice yka3 k.places.length ykb3) := (b8.cell (p := ⟨t4.heap.size, 2, none⟩) h47).trans e2
         have e3' : w8.cell? ⟨t4.heap.size, 3, none⟩ = some (.slice ykc3 k.machines.length ykd3) := (b8.cell (p := ⟨t4.heap.size, 3, none⟩) h47).trans e3
         have e4' : w8.cell? ⟨t4.heap.size, 4, none⟩ = some (.slice yke3 k.txs.length ykf3) := (b8.cell (p := ⟨t4.heap.size, 4, none⟩) h47).trans e4
         have e5' : w8.cell? ⟨t4.heap.size, 5, none⟩ = some (.bool k.lost) := (b8.cell (p := ⟨t4.heap.size, 5, none⟩) h47).trans e5
         have S8 : Hid (KCl.Rd w8 yka3 ykb3 ykc3 ykd3 yke3 ykf3 k ∧ KCl.Rd w8 yka8 ykb8 ykc8 ykd8 yke8 ykf8 k ∧ Below t6.heap.size t6 w8) := ⟨sx.out.later b8, o8.sl, bstep KB.out b8⟩
         clear o8 b8)
      | (go_at_call 11
         refine (KCl.eq w8 yka3 ykb3 ykc3 ykd3 yke3 ykf3 yka8 ykb8 ykc8 ykd8 yke8 ykf8 k tk.out S8.out.1 S8.out.2.1).mono ?_
         rintro e w9 ⟨rfl, b9⟩))
    all_goals (
      go_wp2_with fail
      go_meet
      exact ⟨rfl, bstep S8.out.2.2 b9⟩)
  case rest =>
  obtain ⟨rfl, bx⟩ := hcut
  generalize wc = t7 at *
  have B0_t7 : Hid (Below U0.heap.size U0 t7) := bstep B0_t6.out bx
  have B3_t7 : Hid (Below vw.heap.size vw t7) := bstep B3_t6.out bx
  have Bxk_t7 : Hid (Below xk.heap.size xk t7) := bstep Bxk_t6.out bx
  have B5_t7 : Hid (Below xk.heap.size xk t7) := bstep B5_t6.out bx
  have B7_t7 : Hid (Below vg.heap.size vg t7) := bstep B7_t6.out bx
  have Zt7 : Hid (t6.heap.size ≤ t7.heap.size) := bx.size
  clear B0_t6 B3_t6 Bxk_t6 B5_t6 B7_t6 bx
  have Oxk : Hid (KCl.Ow t7 _ yka3 ykb3 ykc3 ykd3 yke3 ykf3 k Xk) := Oxk.out.later Bxk_t7.out
  have Gxk : Hid (Bx t7 t4.heap.size [.int .i64 k.config, .int .i64 k.clock, .slice yka3 k.places.length ykb3, .slice ykc3 k.machines.length ykd3, .slice yke3 k.txs.length ykf3, .bool k.lost]) := Gxk.out.later B5_t7.out
  have Og : Hid (KT.Ow t7 xk.heap.size ng0 ng1 ng2 ng3 N Pg) := Og.out.later B7_t7.out
  have Fg : Hid (Bx t7 t5.heap.size [.int .i64 N.id, .int .i64 N.home, .int .i64 N.phase, .int .i64 N.count, .slice ng0 N.reads.length ng1, .slice ng2 N.sets.length ng3, .int .i64 N.stamp]) := Fg.out.later B7_t7.out
  have k0 : Hid ((0 : Int) ≤ 1 ∧ (1 : Int) ≤ 1) := by unfold Hid; omega
  have hbx := Gxk.out
  have e0 := hbx.1 0 _ rfl
  have e1 := hbx.1 1 _ rfl
  have e2 := hbx.1 2 _ rfl
  have e3 := hbx.1 3 _ rfl
  have e4 := hbx.1 4 _ rfl
  have e5 := hbx.1 5 _ rfl
  clear hbx
  have hmk := KCl.mark t7 _ yka3 ykb3 ykc3 ykd3 yke3 ykf3 k Xk 1 (by have := k0.out; omega) (by have := k0.out; omega) (by omega) tk.out Oxk.out
  obtain ⟨E0, hE0⟩ : ∃ z, z = (endC k 1) := ⟨_, rfl⟩
  rw [← hE0] at hmk
  have k1 : Hid ((0 : Int) ≤ E0 ∧ E0 ≤ 300000000) := by
    rw [hE0]
    have := k0.out
    have e1 := cC_le k
    unfold endC
    refine ⟨by omega, by omega⟩
  clear hE0
  have dE : decide (E0 < 0) = false := by have := k1.out; simp; omega
  go_wp2_with fail
  refine hmk.mono ?_
  clear hmk e0 e1 e2 e3 e4 e5
  rintro e t8 ⟨rfl, kp⟩
  have B0_t8 : Hid (Below U0.heap.size U0 t8) := bkept B0_t7.out kp (fun q hq => by have := ZU.out; have := Zs1.out; have := Zt2.out; have := Lw.out; have := Zvw.out; have := Lxk.out; have := Mxk.out; have := Zxk.out; have := Lg.out; have := Zvg.out; have := Zt6.out; have := Zt7.out; have := (Pxk.out q hq).1; omega)
  have B3_t8 : Hid (Below vw.heap.size vw t8) := bkept B3_t7.out kp (fun q hq => by have := ZU.out; have := Zs1.out; have := Zt2.out; have := Lw.out; have := Zvw.out; have := Lxk.out; have := Mxk.out; have := Zxk.out; have := Lg.out; have := Zvg.out; have := Zt6.out; have := Zt7.out; have := (Pxk.out q hq).1; omega)
  have Og : Hid (KT.Ow t8 xk.heap.size ng0 ng1 ng2 ng3 N Pg) := Og.out.keep kp.size (fun q hq => kp.block q (Og.out.of hq).2 (fun e => by have := ZU.out; have := Zs1.out; have := Zt2.out; have := Lw.out; have := Zvw.out; have := Lxk.out; have := Mxk.out; have := Zxk.out; have := Lg.out; have := Zvg.out; have := Zt6.out; have := Zt7.out; have := (Pxk.out q e).2; have := (Og.out.of hq).1; omega))
  have Fg : Hid (Bx t8 t5.heap.size [.int .i64 N.id, .int .i64 N.home, .int .i64 N.phase, .int .i64 N.count, .slice ng0 N.reads.length ng1, .slice ng2 N.sets.length ng3, .int .i64 N.stamp]) := Fg.out.of_block (kp.block _ Fg.out.2.2 (fun e => by have := ZU.out; have := Zs1.out; have := Zt2.out; have := Lw.out; have := Zvw.out; have := Lxk.out; have := Mxk.out; have := Zxk.out; have := Lg.out; have := Zvg.out; have := Zt6.out; have := Zt7.out; have := (Pxk.out _ e).2; omega)) kp.size
  have Zt8 : Hid (t7.heap.size ≤ t8.heap.size) := kp.size
  clear kp
  have B9_t8 : Hid (Below t8.heap.size t8 t8) := Below.refl _ _
  have hbx := (Fg.out.later B9_t8.out)
  have g0 := hbx.1 0 _ rfl
  have g1 := hbx.1 1 _ rfl
  have g2 := hbx.1 2 _ rfl
  have g3 := hbx.1 3 _ rfl
  have g4 := hbx.1 4 _ rfl
  have g5 := hbx.1 5 _ rfl
  have g6 := hbx.1 6 _ rfl
  clear hbx
  have hbx := (Fw.out.later B3_t8.out)
  have y0 := hbx.1 0 _ rfl
  have y1 := hbx.1 1 _ rfl
  have y2 := hbx.1 2 _ rfl
  have y3 := hbx.1 3 _ rfl
  have y4 := hbx.1 4 _ rfl
  have y5 := hbx.1 5 _ rfl
  have y6 := hbx.1 6 _ rfl
  clear hbx
  go_wp2_with fail
  refine (KT.eq t8 ng0 ng1 ng2 ng3 nw0 nw1 nw2 nw3 N tN.out (Og.out.sl.later B9_t8.out) (Ow.out.sl.later B3_t8.out)).mono ?_
  rintro e t9 ⟨rfl, bt9⟩
  clear g0 g1 g2 g3 g4 g5 g6 y0 y1 y2 y3 y4 y5 y6
  have B0_t9 : Hid (Below U0.heap.size U0 t9) := bstep B0_t8.out bt9
  have B3_t9 : Hid (Below vw.heap.size vw t9) := bstep B3_t8.out bt9
  have B9_t9 : Hid (Below t8.heap.size t8 t9) := bstep B9_t8.out bt9
  have Zt9 : Hid (t8.heap.size ≤ t9.heap.size) := bt9.size
  clear B0_t8 B3_t8 B9_t8 bt9
  have hmk := KT.mark t9 xk.heap.size ng0 ng1 ng2 ng3 N Pg 1 (by omega) (by omega) tN.out (Og.out.later B9_t9.out)
  have HH : Hid (∀ X, tx.SlT X ⟨ng0, ng1, ng2, ng3⟩ (tx.mkT N 1) → Calls Tryz.prog 17 #[.agg #[.int .i64 N.id, .int .i64 N.home, .int .i64 N.phase, .int .i64 N.count, .slice ng0 N.reads.length ng1, .slice ng2 N.sets.length ng3, .int .i64 N.stamp], .int .i64 1] X fun e w' => e = .returned (.int .i64 (tx.endT N 1)) ∧ Below X.heap.size X w') := fun X hX => KT.held X ng0 ng1 ng2 ng3 N 1 (by omega) (by omega) tN.out hX
  obtain ⟨G, hG⟩ : ∃ z, z = (tx.endT N 1) := ⟨_, rfl⟩
  rw [← hG] at hmk HH
  have dG : decide (G < 0) = false := by
    rw [hG]
    unfold tx.endT
    simp
    omega
  have dH : (G != G) = false := by simp
  clear hG
  have hbx := (Fg.out.later B9_t9.out)
  have g0 := hbx.1 0 _ rfl
  have g1 := hbx.1 1 _ rfl
  have g2 := hbx.1 2 _ rfl
  have g3 := hbx.1 3 _ rfl
  have g4 := hbx.1 4 _ rfl
  have g5 := hbx.1 5 _ rfl
  have g6 := hbx.1 6 _ rfl
  clear hbx
  go_wp2_with fail
  refine hmk.mono ?_
  clear hmk g0 g1 g2 g3 g4 g5 g6
  rintro e t10 ⟨rfl, kp, om⟩
  have B0_t10 : Hid (Below U0.heap.size U0 t10) := bkept B0_t9.out kp (fun q hq => by have := ZU.out; have := Zs1.out; have := Zt2.out; have := Lw.out; have := Zvw.out; have := Lxk.out; have := Mxk.out; have := Zxk.out; have := Lg.out; have := Zvg.out; have := Zt6.out; have := Zt7.out; have := Zt8.out; have := Zt9.out; have := (Og.out.of hq).1; omega)
  have B3_t10 : Hid (Below vw.heap.size vw t10) := bkept B3_t9.out kp (fun q hq => by have := ZU.out; have := Zs1.out; have := Zt2.out; have := Lw.out; have := Zvw.out; have := Lxk.out; have := Mxk.out; have := Zxk.out; have := Lg.out; have := Zvg.out; have := Zt6.out; have := Zt7.out; have := Zt8.out; have := Zt9.out; have := (Og.out.of hq).1; omega)
  have Fg : Hid (Bx t10 t5.heap.size [.int .i64 N.id, .int .i64 N.home, .int .i64 N.phase, .int .i64 N.count, .slice ng0 N.reads.length ng1, .slice ng2 N.sets.length ng3, .int .i64 N.stamp]) := (Fg.out.later B9_t9.out).of_block (kp.block _ (Fg.out.later B9_t9.out).2.2 (fun e => NEg.out _ e rfl)) kp.size
  have Om := hidOf om
  have Zt10 : Hid (t9.heap.size ≤ t10.heap.size) := kp.size
  clear kp om B9_t9
  have B10_t10 : Hid (Below t10.heap.size t10 t10) := Below.refl _ _
  have hbx := (Fg.out.later B10_t10.out)
  have g0 := hbx.1 0 _ rfl
  have g1 := hbx.1 1 _ rfl
  have g2 := hbx.1 2 _ rfl
  have g3 := hbx.1 3 _ rfl
  have g4 := hbx.1 4 _ rfl
  have g5 := hbx.1 5 _ rfl
  have g6 := hbx.1 6 _ rfl
  clear hbx
  go_wp2_with fail
  refine (HH.out t10 (Om.out.later B10_t10.out)).mono ?_
  rintro e t11 ⟨rfl, bt11⟩
  clear g0 g1 g2 g3 g4 g5 g6
  have B0_t11 : Hid (Below U0.heap.size U0 t11) := bstep B0_t10.out bt11
  have B3_t11 : Hid (Below vw.heap.size vw t11) := bstep B3_t10.out bt11
  have B10_t11 : Hid (Below t10.heap.size t10 t11) := bstep B10_t10.out bt11
  have Zt11 : Hid (t10.heap.size ≤ t11.heap.size) := bt11.size
  clear B0_t10 B3_t10 B10_t10 bt11
  have hbx := (Fk.out.later B0_t11.out)
  have p0 := hbx.1 0 _ rfl
  have p1 := hbx.1 1 _ rfl
  have p2 := hbx.1 2 _ rfl
  have p3 := hbx.1 3 _ rfl
  have p4 := hbx.1 4 _ rfl
  have p5 := hbx.1 5 _ rfl
  clear hbx
  go_wp2_with fail
  refine (KCl.to t11 yka ykb ykc ykd yke ykf k tk.out (Rk.out.later B0_t11.out)).mono ?_
  rintro e t12 ⟨yka2, ykb2, ykc2, ykd2, yke2, ykf2, _, rfl, oT, bt12⟩
  have rbk := hidOf oT.sl
  clear oT p0 p1 p2 p3 p4 p5
  have B0_t12 : Hid (Below U0.heap.size U0 t12) := bstep B0_t11.out bt12
  have B3_t12 : Hid (Below vw.heap.size vw t12) := bstep B3_t11.out bt12
  have B10_t12 : Hid (Below t10.heap.size t10 t12) := bstep B10_t11.out bt12
  have Zt12 : Hid (t11.heap.size ≤ t12.heap.size) := bt12.size
  clear B0_t11 B3_t11 B10_t11 bt12
  go_wp2_with fail
  refine (A2.out t12 yka2 ykb2 ykc2 ykd2 yke2 ykf2 rbk.out).mono ?_
  rintro e t13 ⟨nh0, nh1, nh2, nh3, Ph, rfl, oh, bt13⟩
  clear rbk
  obtain ⟨vh, hvh⟩ : ∃ X, X = t13.alloc (.cells #[.int .i64 N.id, .int .i64 N.home, .int .i64 N.phase, .int .i64 N.count, .slice nh0 N.reads.length nh1, .slice nh2 N.sets.length nh3, .int .i64 N.stamp] 40) := ⟨_, rfl⟩
  have bvh : Below t13.heap.size t13 vh := by rw [hvh]; exact (Below.refl _ _).alloc (Nat.le_refl _) _
  have Fh : Hid (Bx vh t13.heap.size [.int .i64 N.id, .int .i64 N.home, .int .i64 N.phase, .int .i64 N.count, .slice nh0 N.reads.length nh1, .slice nh2 N.sets.length nh3, .int .i64 N.stamp]) := by rw [hvh]; exact Bx.made t13 [.int .i64 N.id, .int .i64 N.home, .int .i64 N.phase, .int .i64 N.count, .slice nh0 N.reads.length nh1, .slice nh2 N.sets.length nh3, .int .i64 N.stamp] _
  have Oh : Hid (KT.Ow vh t12.heap.size nh0 nh1 nh2 nh3 N Ph) := oh.later bvh
  have NEh : Hid (∀ x, Ph x → x ≠ t13.heap.size) := fun x hx => by have := (oh.of hx).2; omega
  obtain ⟨qh, hqh⟩ : ∃ q, q = t13.heap.size := ⟨_, rfl⟩
  have bb : Below t12.heap.size t12 vh := bstep bt13 bvh
  have Lh : Hid (t12.heap.size ≤ t13.heap.size) := bt13.size
  clear oh bt13 bvh hqh qh
  have B0_vh : Hid (Below U0.heap.size U0 vh) := bstep B0_t12.out bb
  have B3_vh : Hid (Below vw.heap.size vw vh) := bstep B3_t12.out bb
  have B10_vh : Hid (Below t10.heap.size t10 vh) := bstep B10_t12.out bb
  have Zvh : Hid (t12.heap.size ≤ vh.heap.size) := bb.size
  clear B0_t12 B3_t12 B10_t12 bb
  have B11_vh : Hid (Below vh.heap.size vh vh) := Below.refl _ _
  have hbx := (Fh.out.later B11_vh.out)
  have g0 := hbx.1 0 _ rfl
  have g1 := hbx.1 1 _ rfl
  have g2 := hbx.1 2 _ rfl
  have g3 := hbx.1 3 _ rfl
  have g4 := hbx.1 4 _ rfl
  have g5 := hbx.1 5 _ rfl
  have g6 := hbx.1 6 _ rfl
  clear hbx
  have hbx := (Fw.out.later B3_vh.out)
  have y0 := hbx.1 0 _ rfl
  have y1 := hbx.1 1 _ rfl
  have y2 := hbx.1 2 _ rfl
  have y3 := hbx.1 3 _ rfl
  have y4 := hbx.1 4 _ rfl
  have y5 := hbx.1 5 _ rfl
  have y6 := hbx.1 6 _ rfl
  clear hbx
  rw [hvh] at g0 g1 g2 g3 g4 g5 g6 y0 y1 y2 y3 y4 y5 y6
  go_wp2_with fail
  rw [← hvh]
  clear hvh
  refine (KT.eq vh nh0 nh1 nh2 nh3 nw0 nw1 nw2 nw3 N tN.out (Oh.out.sl.later B11_vh.out) (Ow.out.sl.later B3_vh.out)).mono ?_
  rintro e t14 ⟨rfl, bt14⟩
  clear g0 g1 g2 g3 g4 g5 g6 y0 y1 y2 y3 y4 y5 y6
  have B0_t14 : Hid (Below U0.heap.size U0 t14) := bstep B0_vh.out bt14
  have B3_t14 : Hid (Below vw.heap.size vw t14) := bstep B3_vh.out bt14
  have B10_t14 : Hid (Below t10.heap.size t10 t14) := bstep B10_vh.out bt14
  have B11_t14 : Hid (Below vh.heap.size vh t14) := bstep B11_vh.out bt14
  have Zt14 : Hid (vh.heap.size ≤ t14.heap.size) := bt14.size
  clear B0_vh B3_vh B10_vh B11_vh bt14
  have hbx := (Fg.out.later B10_t14.out)
  have g0 := hbx.1 0 _ rfl
  have g1 := hbx.1 1 _ rfl
  have g2 := hbx.1 2 _ rfl
  have g3 := hbx.1 3 _ rfl
  have g4 := hbx.1 4 _ rfl
  have g5 := hbx.1 5 _ rfl
  have g6 := hbx.1 6 _ rfl
  clear hbx
  go_wp2_with fail
  refine (HH.out t14 (Om.out.later B10_t14.out)).mono ?_
  rintro e t15 ⟨rfl, bt15⟩
  clear g0 g1 g2 g3 g4 g5 g6
  have B0_t15 : Hid (Below U0.heap.size U0 t15) := bstep B0_t14.out bt15
  have B3_t15 : Hid (Below vw.heap.size vw t15) := bstep B3_t14.out bt15
  have B10_t15 : Hid (Below t10.heap.size t10 t15) := bstep B10_t14.out bt15
  have B11_t15 : Hid (Below vh.heap.size vh t15) := bstep B11_t14.out bt15
  have Zt15 : Hid (t14.heap.size ≤ t15.heap.size) := bt15.size
  clear B0_t14 B3_t14 B10_t14 B11_t14 bt15
  go_wp2
  go_ret
  exact ⟨rfl, bstep Bw.out B0_t15.out⟩
set_option maxHeartbeats 2000000 in
theorem walk_great0 (w : World) (yka : Option Addr) (ykb : Nat) (ykc : Option Addr) (ykd : Nat) (yke : Option Addr) (ykf : Nat) (k : C6) (y : Int) (lk : KCl.L k) (hk : KCl.Rd w yka ykb ykc ykd yke ykf k) (hg : ¬ szC k ≤ 1048576) :
    Calls Tryz.prog 4 #[.agg #[.int .i64 k.config, .int .i64 k.clock, .slice yka k.places.length ykb, .slice ykc k.machines.length ykd, .slice yke k.txs.length ykf, .bool k.lost], .int .i64 y] w fun e w' => e = .returned (.bool true) ∧ Below w.heap.size w w' := by
  obtain ⟨U0, hU0⟩ : ∃ X, X = w.alloc (.cells #[.int .i64 k.config, .int .i64 k.clock, .slice yka k.places.length ykb, .slice ykc k.machines.length ykd, .slice yke k.txs.length ykf, .bool k.lost] 26) := ⟨_, rfl⟩
  have bU0 : Below w.heap.size w U0 := by rw [hU0]; exact (Below.refl _ _).alloc (Nat.le_refl _) _
  have xU0 : Bx U0 w.heap.size [.int .i64 k.config, .int .i64 k.clock, .slice yka k.places.length ykb, .slice ykc k.machines.length ykd, .slice yke k.txs.length ykf, .bool k.lost] := by rw [hU0]; exact Bx.made w [.int .i64 k.config, .int .i64 k.clock, .slice yka k.places.length ykb, .slice ykc k.machines.length ykd, .slice yke k.txs.length ykf, .bool k.lost] _
  have zU0 : U0.heap.size = w.heap.size + 1 := by rw [hU0]; simp
  have Fk : Hid (Bx U0 w.heap.size [.int .i64 k.config, .int .i64 k.clock, .slice yka k.places.length ykb, .slice ykc k.machines.length ykd, .slice yke k.txs.length ykf, .bool k.lost]) := xU0
  have Rk : Hid (KCl.Rd U0 yka ykb ykc ykd yke ykf k) := (hk).later bU0
  have Bw : Hid (Below w.heap.size w U0) := bU0
  have ZU : Hid (U0.heap.size = w.heap.size + 1) := by unfold Hid; omega
  clear bU0 xU0 zU0 hk
  have B0_U0 : Hid (Below U0.heap.size U0 U0) := Below.refl _ _
  go_enter Tryz.func4, Tryz.ntmps4
  have hbx := (Fk.out.later B0_U0.out)
  have p0 := hbx.1 0 _ rfl
  have p1 := hbx.1 1 _ rfl
  have p2 := hbx.1 2 _ rfl
  have p3 := hbx.1 3 _ rfl
  have p4 := hbx.1 4 _ rfl
  have p5 := hbx.1 5 _ rfl
  clear hbx
  rw [hU0] at p0 p1 p2 p3 p4 p5
  go_wp2_with fail
  rw [← hU0]
  clear hU0
  refine (KCl.sz U0 yka ykb ykc ykd yke ykf k lk (Rk.out.later B0_U0.out)).mono ?_
  rw [leftR_no (by omega)]
  rintro e s1 ⟨rfl, bs1⟩
  clear p0 p1 p2 p3 p4 p5
  have B0_s1 : Hid (Below U0.heap.size U0 s1) := bstep B0_U0.out bs1
  have Zs1 : Hid (U0.heap.size ≤ s1.heap.size) := bs1.size
  clear B0_U0 bs1
  go_wp2
  go_ret
  exact ⟨rfl, bstep Bw.out B0_s1.out⟩
theorem walk (w : World) (yka : Option Addr) (ykb : Nat) (ykc : Option Addr) (ykd : Nat) (yke : Option Addr) (ykf : Nat) (k : C6) (y : Int) (lk : KCl.L k) (hk : KCl.Rd w yka ykb ykc ykd yke ykf k) :
    Calls Tryz.prog 4 #[.agg #[.int .i64 k.config, .int .i64 k.clock, .slice yka k.places.length ykb, .slice ykc k.machines.length ykd, .slice yke k.txs.length ykf, .bool k.lost], .int .i64 y] w fun e w' => e = .returned (.bool true) ∧ Below w.heap.size w w' := by
  by_cases g0 : szC k ≤ 1048576
  case neg => exact walk_great0 w yka ykb ykc ykd yke ykf k y lk hk g0
  exact walk_small w yka ykb ykc ykd yke ykf k y lk hk g0
set_option maxRecDepth 100000 in
theorem lifted (os : Os) (started : os.Started) (H : Type) (enc : TypeId × Value → H) :
    ReturnsInHanded {} Tryz.checked os 4 .any (Rows.fnExactFindSpec.pre6 enc Tryz.prog Tryz.f4 Rows.fnExactFindRow.domain false) (Rows.fnExactFindSpec.post enc Tryz.prog Tryz.f4 false true false false) := by
  refine returnsInHanded_of_change (C := Tryz.checked) own started (by kernel_rfl) Tryz.func4
    (ChangeSpec.witness6 (enc := enc) (C := Tryz.checked) false ⟨#[], #[.agg #[.int .i64 0, .int .i64 0, .slice none 0 0, .slice none 0 0, .slice none 0 0, .bool false], .int .i64 0], []⟩ 8 (by kernel_rfl) (by kernel_rfl) (by kernel_rfl) (by kernel_rfl)) ?_
  intro W base args ds gs before hval0 hW hcnd _
  have hval : ∀ (j : Nat) t v, Tryz.f4.params[j]? = some t → args[j]? = some v → Value.okWide Tryz.prog W .any base t v := hval0
  have hW' := hW
  obtain ⟨p, q, hA0, hV, rfl, hfz, hnd⟩ := hW
  have hA : DataW.TrodAll enc Tryz.prog W 0 (fun _ => true) true Tryz.f4.params.toList args.toList ds p := hA0
  rw [Tryz.params4] at hA hval
  obtain ⟨v0, vs0, d0, ds0, p0, q0, hargs, rfl, rfl, h0, r0⟩ := trodAll_cons hA
  obtain ⟨v1, vs1, d1, ds1, p1, q1, rfl, rfl, rfl, h1, r1⟩ := trodAll_cons r0
  obtain ⟨rfl, rfl, rfl⟩ := trodAll_nil r1
  obtain rfl : args = #[v0, v1] := by cases args; simp_all
  obtain ⟨rfl, rfl⟩ := trodVars_none hV
  obtain ⟨cs0, rfl, hcs0⟩ := okWide_struct Tryz.underlying26 (hval 0 26 v0 rfl rfl)
  have k0 := h0
  have lt0 : ∀ x ∈ p0, x.block < W.heap.size := by obtain ⟨n, hn⟩ := k0; exact DataW.trod_lt n _ _ _ hn
  obtain ⟨yka, ykb, ykc, ykd, yke, ykf, k, rfl, hk, lk⟩ : ∃ (a1 : Option Addr) (c1 : Nat) (a2 : Option Addr) (c2 : Nat) (a3 : Option Addr) (c3 : Nat) (m : C6), cs0 = #[.int .i64 m.config, .int .i64 m.clock, .slice a1 m.places.length c1, .slice a2 m.machines.length c2, .slice a3 m.txs.length c3, .bool m.lost] ∧ KCl.Rd W a1 c1 a2 c2 a3 c3 m ∧ KCl.L m := by
    obtain ⟨fuel, hf⟩ := h0
    obtain ⟨a1, c1, a2, c2, a3, c3, m, e, hs, hl⟩ := oc.open_cluster hf
    exact ⟨a1, c1, a2, c2, a3, c3, m, by cases cs0; simpa [Value.cells] using e, hs, hl⟩
  obtain ⟨y, rfl, rfl, rfl, w1⟩ := open_int Tryz.underlying2 (hval 1 2 v1 rfl rfl) h1
  clear hA0 hval0
  refine (walk W yka ykb ykc ykd yke ykf k y lk hk).mono fun e W' ⟨he, bel⟩ => ?_
  subst he
  exact ⟨_, rfl, _, _, _, [], _, [], hW', trodAll_mk1 (shut_bool Tryz.underlying4 _), (trodAll_cons_mk (Below.trod laidOut (by kernel_rfl) (of_decide_eq_true (by kernel_rfl)) k0 bel lt0) (trodAll_cons_mk (shut_int Tryz.underlying2 w1) trodAll_mk0)), rfl, bel.frame _, fun h => by cases h⟩
theorem over : Rows.fnExactFindRow.holds Tryz.pinned (OpenSpec.ofChange Rows.fnExactFindSpec) :=
  OpenClaim.holds_of_wide_leaving 4 Tryz.f4 rfl rfl rfl rfl rfl rfl rfl ⟨rfl, rfl, rfl, rfl, rfl⟩ rfl rfl rfl rfl rfl (by kernel_rfl) Tryz.func4 (by kernel_rfl)
    (of_decide_eq_true (by kernel_rfl)) (by unfold Func.isWrapper; first | (rw [if_pos (by decide +kernel)]; kernel_rfl) | (rw [if_neg (by decide +kernel)]; exact ⟨rfl, rfl⟩))
    (fun os started H enc _ => handed_leaving (lifted os started H enc))
end Go.Proofs.YtalmflikdnflfaaGreat.fnExactFind
namespace Go.Proofs.YtalmflikdnflfaaGreat
theorem fnExactFind_holds : Rows.FnExactFindSaid := fnExactFind.over
#print axioms fnExactFind_holds
end Go.Proofs.YtalmflikdnflfaaGreat
