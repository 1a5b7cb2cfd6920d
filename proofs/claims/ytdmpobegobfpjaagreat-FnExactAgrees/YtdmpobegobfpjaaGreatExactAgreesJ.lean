/- Agrees of the program answers, at every Cluster, as the specification's Agrees does, and changes nothing. No other condition. -/
import Derived.Test.YtdmpobegobfpjaaGreatRows
import Derived.Test.YtdmpobegobfpjaaGreatJ10ExactAgrees
import Derived.Test.YtdmpobegobfpjaaGreatJ13ExactAgrees
import Derived.Test.YtdmpobegobfpjaaGreatJ5ExactAgrees
import Derived.WalkKit
import Derived.ProofKit
import Derived.OpenShut
import Derived.Deep.RegionWith
import Derived.Deep.CutRange
import Derived.WalkSpells
namespace Go.Proofs.YtdmpobegobfpjaaGreat.fnExactAgrees
open Go.ChangeShapes Go.WideShapes Go.ChangeAt Go.RowKit
theorem own : ownKnob Tryz.prog.godebug = none := by kernel_rfl
theorem laidOut : laidOutB Tryz.prog = true := by kernel_rfl
def Ans (X : World) (N : Bool)  (e : Ending) (w' : World) : Prop := e = .returned (.bool N) ∧ Below X.heap.size X w'
set_option maxRecDepth 100000 in
set_option maxHeartbeats 8000000 in
theorem walk_small (w : World) (yka : Option Addr) (ykb : Nat) (ykc : Option Addr) (ykd : Nat) (yke : Option Addr) (ykf : Nat) (k : C6) (lk : KCl.L k) (hk : KCl.Rd w yka ykb ykc ykd yke ykf k) (hg : szC k ≤ 1048576) :
    Calls Tryz.prog 6 #[.agg #[.int .i64 k.config, .int .i64 k.clock, .slice yka k.places.length ykb, .slice ykc k.machines.length ykd, .slice yke k.txs.length ykf, .bool k.lost]] w fun e w' => e = .returned (.bool true) ∧ Below w.heap.size w w' := by
  have tk : Hid (KCl.S k) := KCl.S.of (by omega)
  obtain ⟨N, hN⟩ : ∃ N, N = agrB k := ⟨_, rfl⟩
  have A1 : Hid (∀ (X : World) (yka1 : Option Addr) (ykb1 : Nat) (ykc1 : Option Addr) (ykd1 : Nat) (yke1 : Option Addr) (ykf1 : Nat), KCl.Rd X yka1 ykb1 ykc1 ykd1 yke1 ykf1 k → Calls Tryz.prog 23 #[.agg #[.int .i64 k.config, .int .i64 k.clock, .slice yka1 k.places.length ykb1, .slice ykc1 k.machines.length ykd1, .slice yke1 k.txs.length ykf1, .bool k.lost]] X (Ans X N )) := by
    rw [hN]
    intro X yka1 ykb1 ykc1 ykd1 yke1 ykf1 h1
    exact specAgrees_any X yka1 ykb1 ykc1 ykd1 yke1 ykf1 k lk h1 h1.cp
  have A2 : Hid (∀ (X : World) (yka1 : Option Addr) (ykb1 : Nat) (ykc1 : Option Addr) (ykd1 : Nat) (yke1 : Option Addr) (ykf1 : Nat), KCl.Rd X yka1 ykb1 ykc1 ykd1 yke1 ykf1 k → Calls Tryz.prog 24 #[.agg #[.int .i64 k.config, .int .i64 k.clock, .slice yka1 k.places.length ykb1, .slice ykc1 k.machines.length ykd1, .slice yke1 k.txs.length ykf1, .bool k.lost]] X (Ans X N )) := by
    rw [hN]
    intro X yka1 ykb1 ykc1 ykd1 yke1 ykf1 h1
    exact implAgrees_any X yka1 ykb1 ykc1 ykd1 yke1 ykf1 k lk h1
  clear hN
  have dN : (N != N) = false := by simp
  obtain ⟨U0, hU0⟩ : ∃ X, X = w.alloc (.cells #[.int .i64 k.config, .int .i64 k.clock, .slice yka k.places.length ykb, .slice ykc k.machines.length ykd, .slice yke k.txs.length ykf, .bool k.lost] 26) := ⟨_, rfl⟩
  have bU0 : Below w.heap.size w U0 := by rw [hU0]; exact (Below.refl _ _).alloc (Nat.le_refl _) _
  have xU0 : Bx U0 w.heap.size [.int .i64 k.config, .int .i64 k.clock, .slice yka k.places.length ykb, .slice ykc k.machines.length ykd, .slice yke k.txs.length ykf, .bool k.lost] := by rw [hU0]; exact Bx.made w [.int .i64 k.config, .int .i64 k.clock, .slice yka k.places.length ykb, .slice ykc k.machines.length ykd, .slice yke k.txs.length ykf, .bool k.lost] _
  have zU0 : U0.heap.size = w.heap.size + 1 := by rw [hU0]; simp
  have Fk : Hid (Bx U0 w.heap.size [.int .i64 k.config, .int .i64 k.clock, .slice yka k.places.length ykb, .slice ykc k.machines.length ykd, .slice yke k.txs.length ykf, .bool k.lost]) := xU0
  have Rk : Hid (KCl.Rd U0 yka ykb ykc ykd yke ykf k) := (hk).later bU0
  have Bw : Hid (Below w.heap.size w U0) := bU0
  have ZU : Hid (U0.heap.size = w.heap.size + 1) := by unfold Hid; omega
  clear bU0 xU0 zU0 hk
  have B0_U0 : Hid (Below U0.heap.size U0 U0) := Below.refl _ _
  go_enter Tryz.func6, Tryz.ntmps6
  have hbx := (Fk.out.later B0_U0.out)
  have p0 := hbx.1 0 _ rfl
  have p1 := hbx.1 1 _ rfl
  have p2 := hbx.1 2 _ rfl
  have p3 := hbx.1 3 _ rfl
  have p4 := hbx.1 4 _ rfl
  have p5 := hbx.1 5 _ rfl
  clear hbx
  rw [hU0] at p0 p1 p2 p3 p4 p5
  go_wp2_with fail
  rw [← hU0]
  clear hU0
  refine (KCl.sz U0 yka ykb ykc ykd yke ykf k lk (Rk.out.later B0_U0.out)).mono ?_
  rw [leftR_yes (by omega)]
  rintro e s1 ⟨rfl, bs1⟩
  clear p0 p1 p2 p3 p4 p5
  have B0_s1 : Hid (Below U0.heap.size U0 s1) := bstep B0_U0.out bs1
  have Zs1 : Hid (U0.heap.size ≤ s1.heap.size) := bs1.size
  clear B0_U0 bs1
  have g0 : decide ((((1048576 - szC k) : Nat) : Int) < 0) = false := by simp
  have hbx := (Fk.out.later B0_s1.out)
  have p0 := hbx.1 0 _ rfl
  have p1 := hbx.1 1 _ rfl
  have p2 := hbx.1 2 _ rfl
  have p3 := hbx.1 3 _ rfl
  have p4 := hbx.1 4 _ rfl
  have p5 := hbx.1 5 _ rfl
  clear hbx
  go_wp2_with fail
  refine (KCl.to s1 yka ykb ykc ykd yke ykf k tk.out (Rk.out.later B0_s1.out)).mono ?_
  rintro e t2 ⟨yka2, ykb2, ykc2, ykd2, yke2, ykf2, _, rfl, oT, bt2⟩
  have rbk := hidOf oT.sl
  clear oT p0 p1 p2 p3 p4 p5
  have B0_t2 : Hid (Below U0.heap.size U0 t2) := bstep B0_s1.out bt2
  have Zt2 : Hid (s1.heap.size ≤ t2.heap.size) := bt2.size
  clear B0_s1 bt2
  go_wp2_with fail
  refine (A1.out t2 yka2 ykb2 ykc2 ykd2 yke2 ykf2 rbk.out).mono ?_
  rintro e t3 ⟨rfl, bt3⟩
  clear rbk
  have B0_t3 : Hid (Below U0.heap.size U0 t3) := bstep B0_t2.out bt3
  have Zt3 : Hid (t2.heap.size ≤ t3.heap.size) := bt3.size
  clear B0_t2 bt3
  have hbx := (Fk.out.later B0_t3.out)
  have p0 := hbx.1 0 _ rfl
  have p1 := hbx.1 1 _ rfl
  have p2 := hbx.1 2 _ rfl
  have p3 := hbx.1 3 _ rfl
  have p4 := hbx.1 4 _ rfl
  have p5 := hbx.1 5 _ rfl
  clear hbx
  go_wp2_with fail
  refine (KCl.to t3 yka ykb ykc ykd yke ykf k tk.out (Rk.out.later B0_t3.out)).mono ?_
  rintro e t4 ⟨yka3, ykb3, ykc3, ykd3, yke3, ykf3, Xk, rfl, ox, bt4⟩
  clear p0 p1 p2 p3 p4 p5
  obtain ⟨xk, hxk⟩ : ∃ X, X = t4.alloc (.cells #[.int .i64 k.config, .int .i64 k.clock, .slice yka3 k.places.length ykb3, .slice ykc3 k.machines.length ykd3, .slice yke3 k.txs.length ykf3, .bool k.lost] 34) := ⟨_, rfl⟩
  have bxk : Below t4.heap.size t4 xk := by rw [hxk]; exact (Below.refl _ _).alloc (Nat.le_refl _) _
  have Fxk : Hid (Bx xk t4.heap.size [.int .i64 k.config, .int .i64 k.clock, .slice yka3 k.places.length ykb3, .slice ykc3 k.machines.length ykd3, .slice yke3 k.txs.length ykf3, .bool k.lost]) := by rw [hxk]; exact Bx.made t4 [.int .i64 k.config, .int .i64 k.clock, .slice yka3 k.places.length ykb3, .slice ykc3 k.machines.length ykd3, .slice yke3 k.txs.length ykf3, .bool k.lost] _
  have Oxk : Hid (KCl.Ow xk t3.heap.size yka3 ykb3 ykc3 ykd3 yke3 ykf3 k Xk) := ox.later bxk
  have Pxk : Hid (∀ q, Xk q → t3.heap.size ≤ q ∧ q < t4.heap.size) := fun q hq => ox.of hq
  have bb : Below t3.heap.size t3 xk := bstep bt4 bxk
  have Lxk : Hid (t3.heap.size ≤ t4.heap.size) := bt4.size
  have Mxk : Hid (xk.heap.size = t4.heap.size + 1) := by rw [Hid, hxk]; simp
  clear ox bt4 bxk
  have B0_xk : Hid (Below U0.heap.size U0 xk) := bstep B0_t3.out bb
  have Zxk : Hid (t3.heap.size ≤ xk.heap.size) := bb.size
  clear B0_t3 bb
  have Bxk_xk : Hid (Below xk.heap.size xk xk) := Below.refl _ _
  have B5_xk : Hid (Below xk.heap.size xk xk) := Below.refl _ _
  have Rxk : Hid (KCl.Rd xk yka3 ykb3 ykc3 ykd3 yke3 ykf3 k) := (Oxk.out.later Bxk_xk.out).sl
  have Gxk : Hid (Bx xk t4.heap.size [.int .i64 k.config, .int .i64 k.clock, .slice yka3 k.places.length ykb3, .slice ykc3 k.machines.length ykd3, .slice yke3 k.txs.length ykf3, .bool k.lost]) := Fxk.out.later Bxk_xk.out
  have hbx := (Gxk.out.later B5_xk.out)
  have pk0 := hbx.1 0 _ rfl
  have pk1 := hbx.1 1 _ rfl
  have pk2 := hbx.1 2 _ rfl
  have pk3 := hbx.1 3 _ rfl
  have pk4 := hbx.1 4 _ rfl
  have pk5 := hbx.1 5 _ rfl
  clear hbx
  rw [hxk] at pk0 pk1 pk2 pk3 pk4 pk5
  go_wp2_with fail
  rw [← hxk]
  clear hxk
  refine (A2.out xk yka3 ykb3 ykc3 ykd3 yke3 ykf3 (Rxk.out.later B5_xk.out)).mono ?_
  rintro e t5 ⟨rfl, bt5⟩
  clear pk0 pk1 pk2 pk3 pk4 pk5
  have B0_t5 : Hid (Below U0.heap.size U0 t5) := bstep B0_xk.out bt5
  have Bxk_t5 : Hid (Below xk.heap.size xk t5) := bstep Bxk_xk.out bt5
  have B5_t5 : Hid (Below xk.heap.size xk t5) := bstep B5_xk.out bt5
  have Zt5 : Hid (xk.heap.size ≤ t5.heap.size) := bt5.size
  clear B0_xk Bxk_xk B5_xk bt5
  go_upto_region 10 with fail
  go_cut [26] from 22 to 26 (fun s0 wx => s0 = .bool false ∧ Below t5.heap.size t5 wx)
  case first =>
    have bd : Below t5.heap.size t5 t5.drew := (Below.refl _ _).drew
    have hbx := (Fk.out.later (bstep B0_t5.out bd))
    have p0 := hbx.1 0 _ rfl
    have p1 := hbx.1 1 _ rfl
    have p2 := hbx.1 2 _ rfl
    have p3 := hbx.1 3 _ rfl
    have p4 := hbx.1 4 _ rfl
    have p5 := hbx.1 5 _ rfl
    clear hbx
    have hbx := (Gxk.out.later (bstep B5_t5.out bd))
    have e0 := hbx.1 0 _ rfl
    have e1 := hbx.1 1 _ rfl
    have e2 := hbx.1 2 _ rfl
    have e3 := hbx.1 3 _ rfl
    have e4 := hbx.1 4 _ rfl
    have e5 := hbx.1 5 _ rfl
    clear hbx
    have h47 : t4.heap.size < t5.drew.heap.size := (Gxk.out.later (bstep B5_t5.out bd)).2.2
    have sx : Hid (KCl.Rd t5.drew yka3 ykb3 ykc3 ykd3 yke3 ykf3 k) := Rxk.out.later (bstep B5_t5.out bd)
    have KB := hidOf bd
    have ra := Rk.out.later (bstep B0_t5.out bd)
    clear bd
    go_region_with (first
      | (go_at_call 9
         refine (KCl.to t5.drew yka ykb ykc ykd yke ykf k tk.out ra).mono ?_
         rintro e w8 ⟨yka8, ykb8, ykc8, ykd8, yke8, ykf8, _, rfl, o8, b8⟩
         have e0' : w8.cell? ⟨t4.heap.size, 0, none⟩ = some (.int .i64 k.config) := (b8.cell (p := ⟨t4.heap.size, 0, none⟩) h47).trans e0
         have e1' : w8.cell? ⟨t4.heap.size, 1, none⟩ = some (.int .i64 k.clock) := (b8.cell (p := ⟨t4.heap.size, 1, none⟩) h47).trans e1
         have e2' : w8.cell? ⟨t4.heap.size, 2, none⟩ = some (.slice yka3 k.places.length ykb3) := (b8.cell (p := ⟨t4.heap.size, 2, none⟩) h47).trans e2
         have e3' : w8.cell? ⟨t4.heap.size, 3, none⟩ = some (.slice ykc3 k.machines.length ykd3) := (b8.cell (p := ⟨t4.heap.size, 3, none⟩) h47).trans e3
         have e4' : w8.cell? ⟨t4.heap.size, 4, none⟩ = some (.slice yke3 k.txs.length ykf3) := (b8.cell (p := ⟨t4.heap.size, 4, none⟩) h47).trans e4
         have e5' : w8.cell? ⟨t4.heap.size, 5, none⟩ = some (.bool k.lost) := (b8.cell (p := ⟨t4.heap.size, 5, none⟩) h47).trans e5
         have S8 : Hid (KCl.Rd w8 yka3 ykb3 ykc3 ykd3 yke3 ykf3 k ∧ KCl.Rd w8 yka8 ykb8 ykc8 ykd8 yke8 ykf8 k ∧ Below t5.heap.size t5 w8) := ⟨sx.out.later b8, o8.sl, bstep KB.out b8⟩
         clear o8 b8)
      | (go_at_call 12
         refine (KCl.eq w8 yka3 ykb3 ykc3 ykd3 yke3 ykf3 yka8 ykb8 ykc8 ykd8 yke8 ykf8 k tk.out S8.out.1 S8.out.2.1).mono ?_
         rintro e w9 ⟨rfl, b9⟩))
    all_goals (
      go_wp2_with fail
      go_meet
      exact ⟨rfl, bstep S8.out.2.2 b9⟩)
  case rest =>
  obtain ⟨rfl, bx⟩ := hcut
  generalize wc = t6 at *
  have B0_t6 : Hid (Below U0.heap.size U0 t6) := bstep B0_t5.out bx
  have Bxk_t6 : Hid (Below xk.heap.size xk t6) := bstep Bxk_t5.out bx
  have B5_t6 : Hid (Below xk.heap.size xk t6) := bstep B5_t5.out bx
  have Zt6 : Hid (t5.heap.size ≤ t6.heap.size) := bx.size
  clear B0_t5 Bxk_t5 B5_t5 bx
  go_wp2
  go_ret
  exact ⟨rfl, bstep Bw.out B0_t6.out⟩
set_option maxHeartbeats 2000000 in
theorem walk_great0 (w : World) (yka : Option Addr) (ykb : Nat) (ykc : Option Addr) (ykd : Nat) (yke : Option Addr) (ykf : Nat) (k : C6) (lk : KCl.L k) (hk : KCl.Rd w yka ykb ykc ykd yke ykf k) (hg : ¬ szC k ≤ 1048576) :
    Calls Tryz.prog 6 #[.agg #[.int .i64 k.config, .int .i64 k.clock, .slice yka k.places.length ykb, .slice ykc k.machines.length ykd, .slice yke k.txs.length ykf, .bool k.lost]] w fun e w' => e = .returned (.bool true) ∧ Below w.heap.size w w' := by
  obtain ⟨U0, hU0⟩ : ∃ X, X = w.alloc (.cells #[.int .i64 k.config, .int .i64 k.clock, .slice yka k.places.length ykb, .slice ykc k.machines.length ykd, .slice yke k.txs.length ykf, .bool k.lost] 26) := ⟨_, rfl⟩
  have bU0 : Below w.heap.size w U0 := by rw [hU0]; exact (Below.refl _ _).alloc (Nat.le_refl _) _
  have xU0 : Bx U0 w.heap.size [.int .i64 k.config, .int .i64 k.clock, .slice yka k.places.length ykb, .slice ykc k.machines.length ykd, .slice yke k.txs.length ykf, .bool k.lost] := by rw [hU0]; exact Bx.made w [.int .i64 k.config, .int .i64 k.clock, .slice yka k.places.length ykb, .slice ykc k.machines.length ykd, .slice yke k.txs.length ykf, .bool k.lost] _
  have zU0 : U0.heap.size = w.heap.size + 1 := by rw [hU0]; simp
  have Fk : Hid (Bx U0 w.heap.size [.int .i64 k.config, .int .i64 k.clock, .slice yka k.places.length ykb, .slice ykc k.machines.length ykd, .slice yke k.txs.length ykf, .bool k.lost]) := xU0
  have Rk : Hid (KCl.Rd U0 yka ykb ykc ykd yke ykf k) := (hk).later bU0
  have Bw : Hid (Below w.heap.size w U0) := bU0
  have ZU : Hid (U0.heap.size = w.heap.size + 1) := by unfold Hid; omega
  clear bU0 xU0 zU0 hk
  have B0_U0 : Hid (Below U0.heap.size U0 U0) := Below.refl _ _
  go_enter Tryz.func6, Tryz.ntmps6
  have hbx := (Fk.out.later B0_U0.out)
  have p0 := hbx.1 0 _ rfl
  have p1 := hbx.1 1 _ rfl
  have p2 := hbx.1 2 _ rfl
  have p3 := hbx.1 3 _ rfl
  have p4 := hbx.1 4 _ rfl
  have p5 := hbx.1 5 _ rfl
  clear hbx
  rw [hU0] at p0 p1 p2 p3 p4 p5
  go_wp2_with fail
  rw [← hU0]
  clear hU0
  refine (KCl.sz U0 yka ykb ykc ykd yke ykf k lk (Rk.out.later B0_U0.out)).mono ?_
  rw [leftR_no (by omega)]
  rintro e s1 ⟨rfl, bs1⟩
  clear p0 p1 p2 p3 p4 p5
  have B0_s1 : Hid (Below U0.heap.size U0 s1) := bstep B0_U0.out bs1
  have Zs1 : Hid (U0.heap.size ≤ s1.heap.size) := bs1.size
  clear B0_U0 bs1
  go_wp2
  go_ret
  exact ⟨rfl, bstep Bw.out B0_s1.out⟩
theorem walk (w : World) (yka : Option Addr) (ykb : Nat) (ykc : Option Addr) (ykd : Nat) (yke : Option Addr) (ykf : Nat) (k : C6) (lk : KCl.L k) (hk : KCl.Rd w yka ykb ykc ykd yke ykf k) :
    Calls Tryz.prog 6 #[.agg #[.int .i64 k.config, .int .i64 k.clock, .slice yka k.places.length ykb, .slice ykc k.machines.length ykd, .slice yke k.txs.length ykf, .bool k.lost]] w fun e w' => e = .returned (.bool true) ∧ Below w.heap.size w w' := by
  by_cases g0 : szC k ≤ 1048576
  case neg => exact walk_great0 w yka ykb ykc ykd yke ykf k lk hk g0
  exact walk_small w yka ykb ykc ykd yke ykf k lk hk g0
set_option maxRecDepth 100000 in
theorem lifted (os : Os) (started : os.Started) (H : Type) (enc : TypeId × Value → H) :
    ReturnsInHanded {} Tryz.checked os 6 .any (Rows.fnExactAgreesSpec.pre6 enc Tryz.prog Tryz.f6 Rows.fnExactAgreesRow.domain false) (Rows.fnExactAgreesSpec.post enc Tryz.prog Tryz.f6 false true false false) := by
  refine returnsInHanded_of_change (C := Tryz.checked) own started (by kernel_rfl) Tryz.func6
    (ChangeSpec.witness6 (enc := enc) (C := Tryz.checked) false ⟨#[], #[.agg #[.int .i64 0, .int .i64 0, .slice none 0 0, .slice none 0 0, .slice none 0 0, .bool false]], []⟩ 8 (by kernel_rfl) (by kernel_rfl) (by kernel_rfl) (by kernel_rfl)) ?_
  intro W base args ds gs before hval0 hW hcnd _
  have hval : ∀ (j : Nat) t v, Tryz.f6.params[j]? = some t → args[j]? = some v → Value.okWide Tryz.prog W .any base t v := hval0
  have hW' := hW
  obtain ⟨p, q, hA0, hV, rfl, hfz, hnd⟩ := hW
  have hA : DataW.TrodAll enc Tryz.prog W 0 (fun _ => true) true Tryz.f6.params.toList args.toList ds p := hA0
  rw [Tryz.params6] at hA hval
  obtain ⟨v0, vs0, d0, ds0, p0, q0, hargs, rfl, rfl, h0, r0⟩ := trodAll_cons hA
  obtain ⟨rfl, rfl, rfl⟩ := trodAll_nil r0
  obtain rfl : args = #[v0] := by cases args; simp_all
  obtain ⟨rfl, rfl⟩ := trodVars_none hV
  obtain ⟨cs0, rfl, hcs0⟩ := okWide_struct Tryz.underlying26 (hval 0 26 v0 rfl rfl)
  have k0 := h0
  have lt0 : ∀ x ∈ p0, x.block < W.heap.size := by obtain ⟨n, hn⟩ := k0; exact DataW.trod_lt n _ _ _ hn
  obtain ⟨yka, ykb, ykc, ykd, yke, ykf, k, rfl, hk, lk⟩ : ∃ (a1 : Option Addr) (c1 : Nat) (a2 : Option Addr) (c2 : Nat) (a3 : Option Addr) (c3 : Nat) (m : C6), cs0 = #[.int .i64 m.config, .int .i64 m.clock, .slice a1 m.places.length c1, .slice a2 m.machines.length c2, .slice a3 m.txs.length c3, .bool m.lost] ∧ KCl.Rd W a1 c1 a2 c2 a3 c3 m ∧ KCl.L m := by
    obtain ⟨fuel, hf⟩ := h0
    obtain ⟨a1, c1, a2, c2, a3, c3, m, e, hs, hl⟩ := oc.open_cluster hf
    exact ⟨a1, c1, a2, c2, a3, c3, m, by cases cs0; simpa [Value.cells] using e, hs, hl⟩
  clear hA0 hval0
  refine (walk W yka ykb ykc ykd yke ykf k lk hk).mono fun e W' ⟨he, bel⟩ => ?_
  subst he
  exact ⟨_, rfl, _, _, _, [], _, [], hW', trodAll_mk1 (shut_bool Tryz.underlying4 _), (trodAll_cons_mk (Below.trod laidOut (by kernel_rfl) (of_decide_eq_true (by kernel_rfl)) k0 bel lt0) trodAll_mk0), rfl, bel.frame _, fun h => by cases h⟩
theorem over : Rows.fnExactAgreesRow.holds Tryz.pinned (OpenSpec.ofChange Rows.fnExactAgreesSpec) :=
  OpenClaim.holds_of_wide 6 Tryz.f6 rfl rfl rfl rfl rfl rfl rfl ⟨rfl, rfl, rfl, rfl, rfl⟩ rfl rfl rfl rfl rfl (by kernel_rfl) Tryz.func6 (by kernel_rfl)
    (of_decide_eq_true (by kernel_rfl)) (by unfold Func.isWrapper; first | (rw [if_pos (by decide +kernel)]; kernel_rfl) | (rw [if_neg (by decide +kernel)]; exact ⟨rfl, rfl⟩))
    (fun os started H enc _ => lifted os started H enc)
end Go.Proofs.YtdmpobegobfpjaaGreat.fnExactAgrees
namespace Go.Proofs.YtdmpobegobfpjaaGreat
theorem fnExactAgrees_holds : Rows.FnExactAgreesSaid := fnExactAgrees.over
#print axioms fnExactAgrees_holds
end Go.Proofs.YtdmpobegobfpjaaGreat
