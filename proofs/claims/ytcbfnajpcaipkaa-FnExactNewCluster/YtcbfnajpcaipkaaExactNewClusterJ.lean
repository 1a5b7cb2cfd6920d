/- NewCluster of the program answers, at every two numbers, as the specification's NewCluster does, in memory of its own, also behind another call. No other condition. -/
import Derived.Test.YtcbfnajpcaipkaaRows
import Derived.Test.YtcbfnajpcaipkaaNcSJ
import Derived.Test.YtcbfnajpcaipkaaJ24ExactNewCluster
import Derived.Test.YtcbfnajpcaipkaaJ17ExactNewCluster
import Derived.Test.YtcbfnajpcaipkaaJ28ExactNewCluster
import Derived.WalkKit
import Derived.ProofKit
import Derived.OpenShut
import Derived.Deep.RegionWith
import Derived.Deep.CutRange
import Derived.WalkSpells
namespace Go.Proofs.Ytcbfnajpcaipkaa.fnExactNewCluster
open Go.ChangeShapes Go.WideShapes Go.ChangeAt Go.RowKit
theorem own : ownKnob Try.prog.godebug = none := by kernel_rfl
def Ans (X : World) (N : C6) (o0 : Bool) (e : Ending) (w' : World) : Prop := ∃ (ra : Option Addr) (rb : Nat) (rc : Option Addr) (rd : Nat) (re : Option Addr) (rf : Nat) (P : Nat → Prop), e = .returned (.tuple #[.agg #[.int .i64 N.config, .int .i64 N.clock, .slice ra N.places.length rb, .slice rc N.machines.length rd, .slice re N.txs.length rf, .bool N.lost], .bool o0]) ∧ KCl.Ow w' X.heap.size ra rb rc rd re rf N P ∧ Below X.heap.size X w'
def Gx (w X : World) (sv : Value) (bo0 : Value) (N : C6) (o0 : Bool) : Prop := ∃ (q : Nat) (ra : Option Addr) (rb : Nat) (rc : Option Addr) (rd : Nat) (re : Option Addr) (rf : Nat) (P : Nat → Prop), sv = .pointer (some ⟨q, 0, none⟩) ∧ bo0 = .bool o0 ∧ Bx X q [.int .i64 N.config, .int .i64 N.clock, .slice ra N.places.length rb, .slice rc N.machines.length rd, .slice re N.txs.length rf, .bool N.lost] ∧ KCl.Ow X w.heap.size ra rb rc rd re rf N P ∧ (∀ x, P x → x ≠ q) ∧ w.heap.size ≤ q ∧ Below w.heap.size w X
set_option maxRecDepth 100000 in
set_option maxHeartbeats 8000000 in
theorem walk_small (w : World)  (yr : Int) (ym : Int)   :
    Calls Try.prog 3 #[.int .i64 yr, .int .i64 ym] w fun e w' => e = .returned (.bool true) ∧ Below w.heap.size w w' := by
  obtain ⟨N, hN⟩ : ∃ N, N = newC yr ym := ⟨_, rfl⟩
  obtain ⟨o0, ho0⟩ : ∃ z, z = spreadB yr ym := ⟨_, rfl⟩
  have A1 : Hid (∀ (X : World) , Calls Try.prog 8 #[.int .i64 yr, .int .i64 ym] X (Ans X N o0)) := by
    rw [hN, ho0]
    intro X
    exact specNewCluster_any X yr ym
  have A2 : Hid (∀ (X : World) , Calls Try.prog 9 #[.int .i64 yr, .int .i64 ym] X (Ans X N o0)) := by
    rw [hN, ho0]
    intro X
    exact implNewCluster_any X yr ym
  have tN : Hid (KCl.S N) := by
    rw [hN]
    exact KCl.S.of (newC_sz yr ym)
  have zN : Hid (szC N ≤ 1048576) := by
    rw [hN]
    exact newC_sz yr ym
  clear hN ho0
  have do0 : (o0 != o0) = false := by simp
  have Bw : Hid (Below w.heap.size w w) := Below.refl _ _
  have B0_w : Hid (Below w.heap.size w w) := Below.refl _ _
  go_enter Try.func3, Try.ntmps3
  go_wp2_with fail
  refine (A1.out w  ).mono ?_
  rintro e t1 ⟨nw0, nw1, nw2, nw3, nw4, nw5, Pw, rfl, ow, bt1⟩
  obtain ⟨vw, hvw⟩ : ∃ X, X = t1.alloc (.cells #[.int .i64 N.config, .int .i64 N.clock, .slice nw0 N.places.length nw1, .slice nw2 N.machines.length nw3, .slice nw4 N.txs.length nw5, .bool N.lost] 26) := ⟨_, rfl⟩
  have bvw : Below t1.heap.size t1 vw := by rw [hvw]; exact (Below.refl _ _).alloc (Nat.le_refl _) _
  have Fw : Hid (Bx vw t1.heap.size [.int .i64 N.config, .int .i64 N.clock, .slice nw0 N.places.length nw1, .slice nw2 N.machines.length nw3, .slice nw4 N.txs.length nw5, .bool N.lost]) := by rw [hvw]; exact Bx.made t1 [.int .i64 N.config, .int .i64 N.clock, .slice nw0 N.places.length nw1, .slice nw2 N.machines.length nw3, .slice nw4 N.txs.length nw5, .bool N.lost] _
  have Ow : Hid (KCl.Ow vw w.heap.size nw0 nw1 nw2 nw3 nw4 nw5 N Pw) := ow.later bvw
  have NEw : Hid (∀ x, Pw x → x ≠ t1.heap.size) := fun x hx => by have := (ow.of hx).2; omega
  obtain ⟨qw, hqw⟩ : ∃ q, q = t1.heap.size := ⟨_, rfl⟩
  have bb : Below w.heap.size w vw := bstep bt1 bvw
  have Lw : Hid (w.heap.size ≤ t1.heap.size) := bt1.size
  clear ow bt1 bvw hqw qw
  have B0_vw : Hid (Below w.heap.size w vw) := bstep B0_w.out bb
  have Zvw : Hid (w.heap.size ≤ vw.heap.size) := bb.size
  clear B0_w bb
  have B3_vw : Hid (Below vw.heap.size vw vw) := Below.refl _ _
  have B5_vw : Hid (Below vw.heap.size vw vw) := Below.refl _ _
  go_wp2_with fail
  rw [← hvw]
  clear hvw
  refine (A2.out vw  ).mono ?_
  rintro e t2 ⟨ng0, ng1, ng2, ng3, ng4, ng5, Pg, rfl, og, bt2⟩
  obtain ⟨vg, hvg⟩ : ∃ X, X = t2.alloc (.cells #[.int .i64 N.config, .int .i64 N.clock, .slice ng0 N.places.length ng1, .slice ng2 N.machines.length ng3, .slice ng4 N.txs.length ng5, .bool N.lost] 26) := ⟨_, rfl⟩
  have bvg : Below t2.heap.size t2 vg := by rw [hvg]; exact (Below.refl _ _).alloc (Nat.le_refl _) _
  have Fg : Hid (Bx vg t2.heap.size [.int .i64 N.config, .int .i64 N.clock, .slice ng0 N.places.length ng1, .slice ng2 N.machines.length ng3, .slice ng4 N.txs.length ng5, .bool N.lost]) := by rw [hvg]; exact Bx.made t2 [.int .i64 N.config, .int .i64 N.clock, .slice ng0 N.places.length ng1, .slice ng2 N.machines.length ng3, .slice ng4 N.txs.length ng5, .bool N.lost] _
  have Og : Hid (KCl.Ow vg vw.heap.size ng0 ng1 ng2 ng3 ng4 ng5 N Pg) := og.later bvg
  have NEg : Hid (∀ x, Pg x → x ≠ t2.heap.size) := fun x hx => by have := (og.of hx).2; omega
  obtain ⟨qg, hqg⟩ : ∃ q, q = t2.heap.size := ⟨_, rfl⟩
  have bb : Below vw.heap.size vw vg := bstep bt2 bvg
  have Lg : Hid (vw.heap.size ≤ t2.heap.size) := bt2.size
  clear og bt2 bvg hqg qg
  have B0_vg : Hid (Below w.heap.size w vg) := bstep B0_vw.out bb
  have B3_vg : Hid (Below vw.heap.size vw vg) := bstep B3_vw.out bb
  have B5_vg : Hid (Below vw.heap.size vw vg) := bstep B5_vw.out bb
  have Zvg : Hid (vw.heap.size ≤ vg.heap.size) := bb.size
  clear B0_vw B3_vw B5_vw bb
  have B7_vg : Hid (Below vg.heap.size vg vg) := Below.refl _ _
  have hbx := (Fg.out.later B7_vg.out)
  have g0 := hbx.1 0 _ rfl
  have g1 := hbx.1 1 _ rfl
  have g2 := hbx.1 2 _ rfl
  have g3 := hbx.1 3 _ rfl
  have g4 := hbx.1 4 _ rfl
  have g5 := hbx.1 5 _ rfl
  clear hbx
  have hbx := (Fw.out.later B3_vg.out)
  have y0 := hbx.1 0 _ rfl
  have y1 := hbx.1 1 _ rfl
  have y2 := hbx.1 2 _ rfl
  have y3 := hbx.1 3 _ rfl
  have y4 := hbx.1 4 _ rfl
  have y5 := hbx.1 5 _ rfl
  clear hbx
  rw [hvg] at g0 g1 g2 g3 g4 g5 y0 y1 y2 y3 y4 y5
  go_wp2_with fail
  rw [← hvg]
  clear hvg
  refine (KCl.eq vg ng0 ng1 ng2 ng3 ng4 ng5 nw0 nw1 nw2 nw3 nw4 nw5 N tN.out (Og.out.sl.later B7_vg.out) (Ow.out.sl.later B3_vg.out)).mono ?_
  rintro e t3 ⟨rfl, bt3⟩
  clear g0 g1 g2 g3 g4 g5 y0 y1 y2 y3 y4 y5
  have B0_t3 : Hid (Below w.heap.size w t3) := bstep B0_vg.out bt3
  have B3_t3 : Hid (Below vw.heap.size vw t3) := bstep B3_vg.out bt3
  have B5_t3 : Hid (Below vw.heap.size vw t3) := bstep B5_vg.out bt3
  have B7_t3 : Hid (Below vg.heap.size vg t3) := bstep B7_vg.out bt3
  have Zt3 : Hid (vg.heap.size ≤ t3.heap.size) := bt3.size
  clear B0_vg B3_vg B5_vg B7_vg bt3
  have Og : Hid (KCl.Ow t3 vw.heap.size ng0 ng1 ng2 ng3 ng4 ng5 N Pg) := Og.out.later B7_t3.out
  have Fg : Hid (Bx t3 t2.heap.size [.int .i64 N.config, .int .i64 N.clock, .slice ng0 N.places.length ng1, .slice ng2 N.machines.length ng3, .slice ng4 N.txs.length ng5, .bool N.lost]) := Fg.out.later B7_t3.out
  have k0 : Hid ((0 : Int) ≤ 1 ∧ (1 : Int) ≤ 1) := by unfold Hid; omega
  have B9_t3 : Hid (Below t3.heap.size t3 t3) := Below.refl _ _
  have hmk := KCl.markc t3 vw.heap.size ng0 ng1 ng2 ng3 ng4 ng5 N Pg 1 (by omega) (by omega) zN.out tN.out (Og.out.later B9_t3.out)
  have HH : Hid (∀ X, KCl.Rd X ng0 ng1 ng2 ng3 ng4 ng5 (mkC N 1) → Calls Try.prog 12 #[.agg #[.int .i64 N.config, .int .i64 N.clock, .slice ng0 N.places.length ng1, .slice ng2 N.machines.length ng3, .slice ng4 N.txs.length ng5, .bool N.lost], .int .i64 1] X fun e w' => e = .returned (.int .i64 (endC N 1)) ∧ Below X.heap.size X w') := fun X hX => KCl.held X ng0 ng1 ng2 ng3 ng4 ng5 N 1 (by omega) (by omega) zN.out tN.out hX
  obtain ⟨G, hG⟩ : ∃ z, z = (endC N 1) := ⟨_, rfl⟩
  rw [← hG] at hmk HH
  have dG : decide (G < 0) = false := by
    rw [hG]
    unfold endC
    simp
    omega
  have dH : (G != G) = false := by simp
  clear hG
  have hbx := (Fg.out.later B9_t3.out)
  have g0 := hbx.1 0 _ rfl
  have g1 := hbx.1 1 _ rfl
  have g2 := hbx.1 2 _ rfl
  have g3 := hbx.1 3 _ rfl
  have g4 := hbx.1 4 _ rfl
  have g5 := hbx.1 5 _ rfl
  clear hbx
  go_wp2_with fail
  refine hmk.mono ?_
  clear hmk g0 g1 g2 g3 g4 g5
  rintro e t4 ⟨rfl, kp, om⟩
  have B0_t4 : Hid (Below w.heap.size w t4) := bkept B0_t3.out kp (fun q hq => by have := Lw.out; have := Zvw.out; have := Lg.out; have := Zvg.out; have := Zt3.out; have := (Og.out.of hq).1; omega)
  have B3_t4 : Hid (Below vw.heap.size vw t4) := bkept B3_t3.out kp (fun q hq => by have := Lw.out; have := Zvw.out; have := Lg.out; have := Zvg.out; have := Zt3.out; have := (Og.out.of hq).1; omega)
  have Fg : Hid (Bx t4 t2.heap.size [.int .i64 N.config, .int .i64 N.clock, .slice ng0 N.places.length ng1, .slice ng2 N.machines.length ng3, .slice ng4 N.txs.length ng5, .bool N.lost]) := (Fg.out.later B9_t3.out).of_block (kp.block _ (Fg.out.later B9_t3.out).2.2 (fun e => NEg.out _ e rfl)) kp.size
  have Om := hidOf om
  have Zt4 : Hid (t3.heap.size ≤ t4.heap.size) := kp.size
  clear kp om B9_t3
  have B10_t4 : Hid (Below t4.heap.size t4 t4) := Below.refl _ _
  have hbx := (Fg.out.later B10_t4.out)
  have g0 := hbx.1 0 _ rfl
  have g1 := hbx.1 1 _ rfl
  have g2 := hbx.1 2 _ rfl
  have g3 := hbx.1 3 _ rfl
  have g4 := hbx.1 4 _ rfl
  have g5 := hbx.1 5 _ rfl
  clear hbx
  go_wp2_with fail
  refine (HH.out t4 (Om.out.later B10_t4.out)).mono ?_
  rintro e t5 ⟨rfl, bt5⟩
  clear g0 g1 g2 g3 g4 g5
  have B0_t5 : Hid (Below w.heap.size w t5) := bstep B0_t4.out bt5
  have B3_t5 : Hid (Below vw.heap.size vw t5) := bstep B3_t4.out bt5
  have B10_t5 : Hid (Below t4.heap.size t4 t5) := bstep B10_t4.out bt5
  have Zt5 : Hid (t4.heap.size ≤ t5.heap.size) := bt5.size
  clear B0_t4 B3_t4 B10_t4 bt5
  go_wp2_with fail
  refine (A2.out t5  ).mono ?_
  rintro e t6 ⟨nh0, nh1, nh2, nh3, nh4, nh5, Ph, rfl, oh, bt6⟩
  obtain ⟨vh, hvh⟩ : ∃ X, X = t6.alloc (.cells #[.int .i64 N.config, .int .i64 N.clock, .slice nh0 N.places.length nh1, .slice nh2 N.machines.length nh3, .slice nh4 N.txs.length nh5, .bool N.lost] 26) := ⟨_, rfl⟩
  have bvh : Below t6.heap.size t6 vh := by rw [hvh]; exact (Below.refl _ _).alloc (Nat.le_refl _) _
  have Fh : Hid (Bx vh t6.heap.size [.int .i64 N.config, .int .i64 N.clock, .slice nh0 N.places.length nh1, .slice nh2 N.machines.length nh3, .slice nh4 N.txs.length nh5, .bool N.lost]) := by rw [hvh]; exact Bx.made t6 [.int .i64 N.config, .int .i64 N.clock, .slice nh0 N.places.length nh1, .slice nh2 N.machines.length nh3, .slice nh4 N.txs.length nh5, .bool N.lost] _
  have Oh : Hid (KCl.Ow vh t5.heap.size nh0 nh1 nh2 nh3 nh4 nh5 N Ph) := oh.later bvh
  have NEh : Hid (∀ x, Ph x → x ≠ t6.heap.size) := fun x hx => by have := (oh.of hx).2; omega
  obtain ⟨qh, hqh⟩ : ∃ q, q = t6.heap.size := ⟨_, rfl⟩
  have bb : Below t5.heap.size t5 vh := bstep bt6 bvh
  have Lh : Hid (t5.heap.size ≤ t6.heap.size) := bt6.size
  clear oh bt6 bvh hqh qh
  have B0_vh : Hid (Below w.heap.size w vh) := bstep B0_t5.out bb
  have B3_vh : Hid (Below vw.heap.size vw vh) := bstep B3_t5.out bb
  have B10_vh : Hid (Below t4.heap.size t4 vh) := bstep B10_t5.out bb
  have Zvh : Hid (t5.heap.size ≤ vh.heap.size) := bb.size
  clear B0_t5 B3_t5 B10_t5 bb
  have B11_vh : Hid (Below vh.heap.size vh vh) := Below.refl _ _
  have hbx := (Fh.out.later B11_vh.out)
  have g0 := hbx.1 0 _ rfl
  have g1 := hbx.1 1 _ rfl
  have g2 := hbx.1 2 _ rfl
  have g3 := hbx.1 3 _ rfl
  have g4 := hbx.1 4 _ rfl
  have g5 := hbx.1 5 _ rfl
  clear hbx
  have hbx := (Fw.out.later B3_vh.out)
  have y0 := hbx.1 0 _ rfl
  have y1 := hbx.1 1 _ rfl
  have y2 := hbx.1 2 _ rfl
  have y3 := hbx.1 3 _ rfl
  have y4 := hbx.1 4 _ rfl
  have y5 := hbx.1 5 _ rfl
  clear hbx
  rw [hvh] at g0 g1 g2 g3 g4 g5 y0 y1 y2 y3 y4 y5
  go_wp2_with fail
  rw [← hvh]
  clear hvh
  refine (KCl.eq vh nh0 nh1 nh2 nh3 nh4 nh5 nw0 nw1 nw2 nw3 nw4 nw5 N tN.out (Oh.out.sl.later B11_vh.out) (Ow.out.sl.later B3_vh.out)).mono ?_
  rintro e t7 ⟨rfl, bt7⟩
  clear g0 g1 g2 g3 g4 g5 y0 y1 y2 y3 y4 y5
  have B0_t7 : Hid (Below w.heap.size w t7) := bstep B0_vh.out bt7
  have B3_t7 : Hid (Below vw.heap.size vw t7) := bstep B3_vh.out bt7
  have B10_t7 : Hid (Below t4.heap.size t4 t7) := bstep B10_vh.out bt7
  have B11_t7 : Hid (Below vh.heap.size vh t7) := bstep B11_vh.out bt7
  have Zt7 : Hid (vh.heap.size ≤ t7.heap.size) := bt7.size
  clear B0_vh B3_vh B10_vh B11_vh bt7
  have hbx := (Fg.out.later B10_t7.out)
  have g0 := hbx.1 0 _ rfl
  have g1 := hbx.1 1 _ rfl
  have g2 := hbx.1 2 _ rfl
  have g3 := hbx.1 3 _ rfl
  have g4 := hbx.1 4 _ rfl
  have g5 := hbx.1 5 _ rfl
  clear hbx
  go_wp2_with fail
  refine (HH.out t7 (Om.out.later B10_t7.out)).mono ?_
  rintro e t8 ⟨rfl, bt8⟩
  clear g0 g1 g2 g3 g4 g5
  have B0_t8 : Hid (Below w.heap.size w t8) := bstep B0_t7.out bt8
  have B3_t8 : Hid (Below vw.heap.size vw t8) := bstep B3_t7.out bt8
  have B10_t8 : Hid (Below t4.heap.size t4 t8) := bstep B10_t7.out bt8
  have B11_t8 : Hid (Below vh.heap.size vh t8) := bstep B11_t7.out bt8
  have Zt8 : Hid (t7.heap.size ≤ t8.heap.size) := bt8.size
  clear B0_t7 B3_t7 B10_t7 B11_t7 bt8
  go_wp2
  go_ret
  exact ⟨rfl, bstep Bw.out B0_t8.out⟩
theorem walk (w : World)  (yr : Int) (ym : Int)   :
    Calls Try.prog 3 #[.int .i64 yr, .int .i64 ym] w fun e w' => e = .returned (.bool true) ∧ Below w.heap.size w w' := by
  exact walk_small w  yr ym   
set_option maxRecDepth 100000 in
theorem lifted (os : Os) (started : os.Started) (H : Type) (enc : TypeId × Value → H) :
    ReturnsInHanded {} Try.checked os 3 .any (Rows.fnExactNewClusterSpec.pre6 enc Try.prog Try.f3 Rows.fnExactNewClusterRow.domain false) (Rows.fnExactNewClusterSpec.post enc Try.prog Try.f3 false true false false) := by
  refine returnsInHanded_of_change (C := Try.checked) own started (by kernel_rfl) Try.func3
    (ChangeSpec.witness6 (enc := enc) (C := Try.checked) false ⟨#[], #[.int .i64 0, .int .i64 0], []⟩ 8 (by kernel_rfl) (by kernel_rfl) (by kernel_rfl) (by kernel_rfl)) ?_
  intro W base args ds gs before hval0 hW hcnd _
  have hval : ∀ (j : Nat) t v, Try.f3.params[j]? = some t → args[j]? = some v → Value.okWide Try.prog W .any base t v := hval0
  have hW' := hW
  obtain ⟨p, q, hA0, hV, rfl, hfz, hnd⟩ := hW
  have hA : DataW.TrodAll enc Try.prog W 0 (fun _ => true) true Try.f3.params.toList args.toList ds p := hA0
  rw [Try.params3] at hA hval
  obtain ⟨v0, vs0, d0, ds0, p0, q0, hargs, rfl, rfl, h0, r0⟩ := trodAll_cons hA
  obtain ⟨v1, vs1, d1, ds1, p1, q1, rfl, rfl, rfl, h1, r1⟩ := trodAll_cons r0
  obtain ⟨rfl, rfl, rfl⟩ := trodAll_nil r1
  obtain rfl : args = #[v0, v1] := by cases args; simp_all
  obtain ⟨rfl, rfl⟩ := trodVars_none hV
  obtain ⟨yr, rfl, rfl, rfl, w0⟩ := open_int Try.underlying2 (hval 0 2 v0 rfl rfl) h0
  obtain ⟨ym, rfl, rfl, rfl, w1⟩ := open_int Try.underlying2 (hval 1 2 v1 rfl rfl) h1
  clear hA0 hval0
  refine (walk W  yr ym  ).mono fun e W' ⟨he, bel⟩ => ?_
  subst he
  exact ⟨_, rfl, _, _, _, [], _, [], hW', trodAll_mk1 (shut_bool Try.underlying4 _), (trodAll_cons_mk (shut_int Try.underlying2 w0) (trodAll_cons_mk (shut_int Try.underlying2 w1) trodAll_mk0)), rfl, bel.frame _, fun h => by cases h⟩
theorem over : Rows.fnExactNewClusterRow.holds Try.pinned (OpenSpec.ofChange Rows.fnExactNewClusterSpec) :=
  OpenClaim.holds_of_wide 3 Try.f3 rfl rfl rfl rfl rfl rfl rfl ⟨rfl, rfl, rfl, rfl, rfl⟩ rfl rfl rfl rfl rfl (by kernel_rfl) Try.func3 (by kernel_rfl)
    (of_decide_eq_true (by kernel_rfl)) (by unfold Func.isWrapper; first | (rw [if_pos (by decide +kernel)]; kernel_rfl) | (rw [if_neg (by decide +kernel)]; exact ⟨rfl, rfl⟩))
    (fun os started H enc _ => lifted os started H enc)
end Go.Proofs.Ytcbfnajpcaipkaa.fnExactNewCluster
namespace Go.Proofs.Ytcbfnajpcaipkaa
theorem fnExactNewCluster_holds : Rows.FnExactNewClusterSaid := fnExactNewCluster.over
#print axioms fnExactNewCluster_holds
end Go.Proofs.Ytcbfnajpcaipkaa
