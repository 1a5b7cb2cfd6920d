/- Clear of the program answers, at every Machine, Id, region and truth, as the specification's Clear does, in memory of its own, and changes nothing: no condition. -/
import Derived.Test.YtbkcmbbeknljiaaGreatRows
import Derived.Test.YtbkcmbbeknljiaaGreatClrIJ
import Derived.Test.YtbkcmbbeknljiaaGreatClrSJ
import Derived.Test.YtbkcmbbeknljiaaGreatJ51ExactClear
import Derived.Test.YtbkcmbbeknljiaaGreatOpenMacJ
import Derived.Test.YtbkcmbbeknljiaaGreatUntZ
import Derived.WalkKit
import Derived.ProofKit
import Derived.OpenShut
import Derived.Deep.RegionWith
import Derived.Deep.CutRange
import Derived.WalkSpells
namespace Go.Proofs.YtbkcmbbeknljiaaGreat.fnExactClear
open Go.ChangeShapes Go.WideShapes Go.ChangeAt Go.RowKit
theorem own : ownKnob Tryz.prog.godebug = none := by kernel_rfl
theorem laidOut : laidOutB Tryz.prog = true := by kernel_rfl
def Ans (X : World) (N : M4) (o0 : Bool) (e : Ending) (w' : World) : Prop := ∃ (ra : Option Addr) (rb : Nat) (rc : Option Addr) (rd : Nat) (re : Option Addr) (rf : Nat) (P : Nat → Prop), e = .returned (.tuple #[.agg #[.bool N.alive, .slice ra N.copies.length rb, .slice rc N.log.length rd, .slice re N.cleared.length rf], .bool o0]) ∧ KM.Ow w' X.heap.size ra rb rc rd re rf N P ∧ Below X.heap.size X w'
theorem sum_cap {α : Type} (f : α → Nat) (c : Nat) : ∀ (l : List α), (∀ x ∈ l, f x ≤ c) → (l.map f).sum ≤ l.length * c
  | [], _ => by simp
  | x :: l, h => by
    have h1 := h x (by simp)
    have h2 := sum_cap f c l (fun y hy => h y (by simp [hy]))
    simp only [List.map_cons, List.sum_cons, List.length_cons, Nat.add_mul, Nat.one_mul]
    omega
theorem szM_small {m : M4} (h : MSm m) : szM m ≤ 3000 := by
  have h1 := sum_cap (fun k : K2 => k.cells.length) 6 m.copies (fun c hc => by have := h.ks c hc; omega)
  have h2 := sum_cap (fun k : R4 => k.sets.length) 12 m.log (fun c hc => (h.rs c hc).2)
  have h3 := h.k
  have h4 := h.r
  have h5 := h.n
  unfold szM lensK lensR
  omega
theorem ans_of {X : World} {N : M4} {o : Bool} {e : Ending} {w' : World} (h : MAnsB X N o e w') : Ans X N o e w' := by
  obtain ⟨a, b, c, d, f, g, PK, PR, PD, rfl, om, hl, bl⟩ := h
  exact ⟨a, b, c, d, f, g, _, rfl, KM.of om hl, bl⟩
theorem putZ_len (zs : List Int) (y : Int) : (putZ zs y).length ≤ zs.length + 1 := by
  unfold putZ
  split
  · omega
  · simp only [insZ, List.length_append, List.length_cons, List.length_take, List.length_drop]; omega
theorem clearM_mt (m : M4) (x y : Int) (z : Bool) : MT (clearM m x y z) := by
  unfold clearM
  split
  · next hh =>
    have hs := MSm.of_mach (show machB m = true by simp only [clearB, Bool.and_eq_true] at hh; exact hh.1.1)
    have hs' : MSm ⟨m.alive, m.copies, m.log.filter (fun r => !ofB x y r), m.cleared⟩ := ⟨hs.k, hs.ks, Nat.le_trans (List.length_filter_le _ _) hs.r, fun c hc => hs.rs c (List.mem_filter.1 hc).1, hs.n⟩
    have h1 := szM_small hs'
    have h2 : (clearD m x z).length ≤ m.cleared.length + 1 := by
      unfold clearD
      split
      · exact putZ_len _ _
      · omega
    refine MT.of_sz ?_
    simp only [szM] at h1 ⊢
    omega
  · exact MT.of_sz (by simp [szM, lensK, lensR])
/-- The answer in a box, in memory of the call's own. -/
def Gx (w X : World) (sv : Value) (bo0 : Value) (N : M4) (o0 : Bool) : Prop := ∃ (q : Nat) (ra : Option Addr) (rb : Nat) (rc : Option Addr) (rd : Nat) (re : Option Addr) (rf : Nat) (P : Nat → Prop), sv = .pointer (some ⟨q, 0, none⟩) ∧ bo0 = .bool o0 ∧ Bx X q [.bool N.alive, .slice ra N.copies.length rb, .slice rc N.log.length rd, .slice re N.cleared.length rf] ∧ KM.Ow X w.heap.size ra rb rc rd re rf N P ∧ (∀ x, P x → x ≠ q) ∧ w.heap.size ≤ q ∧ Below w.heap.size w X
set_option maxRecDepth 100000 in
set_option maxHeartbeats 8000000 in
theorem walk_small (w : World) (yma : Option Addr) (ymb : Nat) (ymc : Option Addr) (ymd : Nat) (yme : Option Addr) (ymf : Nat) (m : M4) (x : Int) (y : Int) (dn : Bool) (lm : ML m) (hm : SlM w ⟨yma, ymb, ymc, ymd, yme, ymf⟩ m) (hg : szM m ≤ 1048576) :
    Calls Tryz.prog 7 #[.agg #[.bool m.alive, .slice yma m.copies.length ymb, .slice ymc m.log.length ymd, .slice yme m.cleared.length ymf], .int .i64 x, .int .i64 y, .bool dn] w fun e w' => e = .returned (.bool true) ∧ Below w.heap.size w w' := by
  have tm : Hid (MT m) := MT.of_sz (by omega)
  obtain ⟨N, hN⟩ : ∃ N, N = clearM m x y dn := ⟨_, rfl⟩
  obtain ⟨o0, ho0⟩ : ∃ z, z = clearB m x dn := ⟨_, rfl⟩
  have A1 : Hid (∀ (X : World) (yma1 : Option Addr) (ymb1 : Nat) (ymc1 : Option Addr) (ymd1 : Nat) (yme1 : Option Addr) (ymf1 : Nat), SlM X ⟨yma1, ymb1, ymc1, ymd1, yme1, ymf1⟩ m → Calls Tryz.prog 23 #[.agg #[.bool m.alive, .slice yma1 m.copies.length ymb1, .slice ymc1 m.log.length ymd1, .slice yme1 m.cleared.length ymf1], .int .i64 x, .int .i64 y, .bool dn] X (Ans X N o0)) := by
    rw [hN, ho0]
    intro X yma1 ymb1 ymc1 ymd1 yme1 ymf1 h1
    have hh := specClear_any X ⟨yma1, ymb1, ymc1, ymd1, yme1, ymf1⟩ m x y dn lm h1
    simp only [MV.val] at hh
    exact hh.mono (fun e w' h => ans_of h)
  have A2 : Hid (∀ (X : World) (yma1 : Option Addr) (ymb1 : Nat) (ymc1 : Option Addr) (ymd1 : Nat) (yme1 : Option Addr) (ymf1 : Nat), SlM X ⟨yma1, ymb1, ymc1, ymd1, yme1, ymf1⟩ m → Calls Tryz.prog 20 #[.agg #[.bool m.alive, .slice yma1 m.copies.length ymb1, .slice ymc1 m.log.length ymd1, .slice yme1 m.cleared.length ymf1], .int .i64 x, .int .i64 y, .bool dn] X (Ans X N o0)) := by
    rw [hN, ho0]
    intro X yma1 ymb1 ymc1 ymd1 yme1 ymf1 h1
    have hh := implClear_any X ⟨yma1, ymb1, ymc1, ymd1, yme1, ymf1⟩ m x y dn lm h1
    simp only [MV.val] at hh
    exact hh.mono (fun e w' h => ans_of h)
  have tN : Hid (MT N) := by
    rw [hN]
    exact clearM_mt m x y dn
  clear hN ho0
  have do0 : (o0 != o0) = false := by simp
  obtain ⟨U0, hU0⟩ : ∃ X, X = w.alloc (.cells #[.bool m.alive, .slice yma m.copies.length ymb, .slice ymc m.log.length ymd, .slice yme m.cleared.length ymf] 57) := ⟨_, rfl⟩
  have bU0 : Below w.heap.size w U0 := by rw [hU0]; exact (Below.refl _ _).alloc (Nat.le_refl _) _
  have xU0 : Bx U0 w.heap.size [.bool m.alive, .slice yma m.copies.length ymb, .slice ymc m.log.length ymd, .slice yme m.cleared.length ymf] := by rw [hU0]; exact Bx.made w [.bool m.alive, .slice yma m.copies.length ymb, .slice ymc m.log.length ymd, .slice yme m.cleared.length ymf] _
  have zU0 : U0.heap.size = w.heap.size + 1 := by rw [hU0]; simp
  have Fm : Hid (Bx U0 w.heap.size [.bool m.alive, .slice yma m.copies.length ymb, .slice ymc m.log.length ymd, .slice yme m.cleared.length ymf]) := xU0
  have Rm : Hid (SlM U0 ⟨yma, ymb, ymc, ymd, yme, ymf⟩ m) := (hm).later bU0
  have Bw : Hid (Below w.heap.size w U0) := bU0
  have ZU : Hid (U0.heap.size = w.heap.size + 1) := by unfold Hid; omega
  clear bU0 xU0 zU0 hm
  have B0_U0 : Hid (Below U0.heap.size U0 U0) := Below.refl _ _
  go_enter Tryz.func7, Tryz.ntmps7
  have hbx := (Fm.out.later B0_U0.out)
  have p0 := hbx.1 0 _ rfl
  have p1 := hbx.1 1 _ rfl
  have p2 := hbx.1 2 _ rfl
  have p3 := hbx.1 3 _ rfl
  clear hbx
  rw [hU0] at p0 p1 p2 p3
  go_wp2_with fail
  rw [← hU0]
  clear hU0
  refine (KM.sz U0 yma ymb ymc ymd yme ymf m lm (Rm.out.later B0_U0.out)).mono ?_
  rw [leftR_yes (by omega)]
  rintro e s1 ⟨rfl, bs1⟩
  clear p0 p1 p2 p3
  have B0_s1 : Hid (Below U0.heap.size U0 s1) := bstep B0_U0.out bs1
  have Zs1 : Hid (U0.heap.size ≤ s1.heap.size) := bs1.size
  clear B0_U0 bs1
  have g0 : decide ((((1048576 - szM m) : Nat) : Int) < 0) = false := by simp
  have hbx := (Fm.out.later B0_s1.out)
  have p0 := hbx.1 0 _ rfl
  have p1 := hbx.1 1 _ rfl
  have p2 := hbx.1 2 _ rfl
  have p3 := hbx.1 3 _ rfl
  clear hbx
  go_wp2_with fail
  refine (KM.to s1 yma ymb ymc ymd yme ymf m tm.out (Rm.out.later B0_s1.out)).mono ?_
  rintro e t2 ⟨yma2, ymb2, ymc2, ymd2, yme2, ymf2, _, rfl, oT, bt2⟩
  have rbm := hidOf oT.sl
  clear oT p0 p1 p2 p3
  have B0_t2 : Hid (Below U0.heap.size U0 t2) := bstep B0_s1.out bt2
  have Zt2 : Hid (s1.heap.size ≤ t2.heap.size) := bt2.size
  clear B0_s1 bt2
  go_wp2_with fail
  refine (A1.out t2 yma2 ymb2 ymc2 ymd2 yme2 ymf2 rbm.out).mono ?_
  rintro e t3 ⟨nw0, nw1, nw2, nw3, nw4, nw5, Pw, rfl, ow, bt3⟩
  clear rbm
  obtain ⟨vw, hvw⟩ : ∃ X, X = t3.alloc (.cells #[.bool N.alive, .slice nw0 N.copies.length nw1, .slice nw2 N.log.length nw3, .slice nw4 N.cleared.length nw5] 28) := ⟨_, rfl⟩
  have bvw : Below t3.heap.size t3 vw := by rw [hvw]; exact (Below.refl _ _).alloc (Nat.le_refl _) _
  have Fw : Hid (Bx vw t3.heap.size [.bool N.alive, .slice nw0 N.copies.length nw1, .slice nw2 N.log.length nw3, .slice nw4 N.cleared.length nw5]) := by rw [hvw]; exact Bx.made t3 [.bool N.alive, .slice nw0 N.copies.length nw1, .slice nw2 N.log.length nw3, .slice nw4 N.cleared.length nw5] _
  have Ow : Hid (KM.Ow vw t2.heap.size nw0 nw1 nw2 nw3 nw4 nw5 N Pw) := ow.later bvw
  have NEw : Hid (∀ x, Pw x → x ≠ t3.heap.size) := fun x hx => by have := (ow.of hx).2; omega
  obtain ⟨qw, hqw⟩ : ∃ q, q = t3.heap.size := ⟨_, rfl⟩
  have bb : Below t2.heap.size t2 vw := bstep bt3 bvw
  have Lw : Hid (t2.heap.size ≤ t3.heap.size) := bt3.size
  clear ow bt3 bvw hqw qw
  have B0_vw : Hid (Below U0.heap.size U0 vw) := bstep B0_t2.out bb
  have Zvw : Hid (t2.heap.size ≤ vw.heap.size) := bb.size
  clear B0_t2 bb
  have B3_vw : Hid (Below vw.heap.size vw vw) := Below.refl _ _
  have hbx := (Fm.out.later B0_vw.out)
  have p0 := hbx.1 0 _ rfl
  have p1 := hbx.1 1 _ rfl
  have p2 := hbx.1 2 _ rfl
  have p3 := hbx.1 3 _ rfl
  clear hbx
  rw [hvw] at p0 p1 p2 p3
  go_wp2_with fail
  rw [← hvw]
  clear hvw
  refine (KM.to vw yma ymb ymc ymd yme ymf m tm.out (Rm.out.later B0_vw.out)).mono ?_
  rintro e t4 ⟨yma3, ymb3, ymc3, ymd3, yme3, ymf3, Xm, rfl, ox, bt4⟩
  clear p0 p1 p2 p3
  obtain ⟨xm, hxm⟩ : ∃ X, X = t4.alloc (.cells #[.bool m.alive, .slice yma3 m.copies.length ymb3, .slice ymc3 m.log.length ymd3, .slice yme3 m.cleared.length ymf3] 28) := ⟨_, rfl⟩
  have bxm : Below t4.heap.size t4 xm := by rw [hxm]; exact (Below.refl _ _).alloc (Nat.le_refl _) _
  have Fxm : Hid (Bx xm t4.heap.size [.bool m.alive, .slice yma3 m.copies.length ymb3, .slice ymc3 m.log.length ymd3, .slice yme3 m.cleared.length ymf3]) := by rw [hxm]; exact Bx.made t4 [.bool m.alive, .slice yma3 m.copies.length ymb3, .slice ymc3 m.log.length ymd3, .slice yme3 m.cleared.length ymf3] _
  have Oxm : Hid (KM.Ow xm vw.heap.size yma3 ymb3 ymc3 ymd3 yme3 ymf3 m Xm) := ox.later bxm
  have Pxm : Hid (∀ q, Xm q → vw.heap.size ≤ q ∧ q < t4.heap.size) := fun q hq => ox.of hq
  have bb : Below vw.heap.size vw xm := bstep bt4 bxm
  have Lxm : Hid (vw.heap.size ≤ t4.heap.size) := bt4.size
  have Mxm : Hid (xm.heap.size = t4.heap.size + 1) := by rw [Hid, hxm]; simp
  clear ox bt4 bxm
  have B0_xm : Hid (Below U0.heap.size U0 xm) := bstep B0_vw.out bb
  have B3_xm : Hid (Below vw.heap.size vw xm) := bstep B3_vw.out bb
  have Zxm : Hid (vw.heap.size ≤ xm.heap.size) := bb.size
  clear B0_vw B3_vw bb
  have Bxm_xm : Hid (Below xm.heap.size xm xm) := Below.refl _ _
  have B5_xm : Hid (Below xm.heap.size xm xm) := Below.refl _ _
  have Rxm : Hid (SlM xm ⟨yma3, ymb3, ymc3, ymd3, yme3, ymf3⟩ m) := (Oxm.out.later Bxm_xm.out).sl
  have Gxm : Hid (Bx xm t4.heap.size [.bool m.alive, .slice yma3 m.copies.length ymb3, .slice ymc3 m.log.length ymd3, .slice yme3 m.cleared.length ymf3]) := Fxm.out.later Bxm_xm.out
  have hbx := (Gxm.out.later B5_xm.out)
  have pm0 := hbx.1 0 _ rfl
  have pm1 := hbx.1 1 _ rfl
  have pm2 := hbx.1 2 _ rfl
  have pm3 := hbx.1 3 _ rfl
  clear hbx
  rw [hxm] at pm0 pm1 pm2 pm3
  go_wp2_with fail
  rw [← hxm]
  clear hxm
  refine (A2.out xm yma3 ymb3 ymc3 ymd3 yme3 ymf3 (Rxm.out.later B5_xm.out)).mono ?_
  rintro e t5 ⟨ng0, ng1, ng2, ng3, ng4, ng5, Pg, rfl, og, bt5⟩
  clear pm0 pm1 pm2 pm3
  obtain ⟨vg, hvg⟩ : ∃ X, X = t5.alloc (.cells #[.bool N.alive, .slice ng0 N.copies.length ng1, .slice ng2 N.log.length ng3, .slice ng4 N.cleared.length ng5] 28) := ⟨_, rfl⟩
  have bvg : Below t5.heap.size t5 vg := by rw [hvg]; exact (Below.refl _ _).alloc (Nat.le_refl _) _
  have Fg : Hid (Bx vg t5.heap.size [.bool N.alive, .slice ng0 N.copies.length ng1, .slice ng2 N.log.length ng3, .slice ng4 N.cleared.length ng5]) := by rw [hvg]; exact Bx.made t5 [.bool N.alive, .slice ng0 N.copies.length ng1, .slice ng2 N.log.length ng3, .slice ng4 N.cleared.length ng5] _
  have Og : Hid (KM.Ow vg xm.heap.size ng0 ng1 ng2 ng3 ng4 ng5 N Pg) := og.later bvg
  have NEg : Hid (∀ x, Pg x → x ≠ t5.heap.size) := fun x hx => by have := (og.of hx).2; omega
  obtain ⟨qg, hqg⟩ : ∃ q, q = t5.heap.size := ⟨_, rfl⟩
  have bb : Below xm.heap.size xm vg := bstep bt5 bvg
  have Lg : Hid (xm.heap.size ≤ t5.heap.size) := bt5.size
  clear og bt5 bvg hqg qg
  have B0_vg : Hid (Below U0.heap.size U0 vg) := bstep B0_xm.out bb
  have B3_vg : Hid (Below vw.heap.size vw vg) := bstep B3_xm.out bb
  have Bxm_vg : Hid (Below xm.heap.size xm vg) := bstep Bxm_xm.out bb
  have B5_vg : Hid (Below xm.heap.size xm vg) := bstep B5_xm.out bb
  have Zvg : Hid (xm.heap.size ≤ vg.heap.size) := bb.size
  clear B0_xm B3_xm Bxm_xm B5_xm bb
  have B7_vg : Hid (Below vg.heap.size vg vg) := Below.refl _ _
  have hbx := (Fg.out.later B7_vg.out)
  have g0 := hbx.1 0 _ rfl
  have g1 := hbx.1 1 _ rfl
  have g2 := hbx.1 2 _ rfl
  have g3 := hbx.1 3 _ rfl
  clear hbx
  have hbx := (Fw.out.later B3_vg.out)
  have y0 := hbx.1 0 _ rfl
  have y1 := hbx.1 1 _ rfl
  have y2 := hbx.1 2 _ rfl
  have y3 := hbx.1 3 _ rfl
  clear hbx
  rw [hvg] at g0 g1 g2 g3 y0 y1 y2 y3
  go_wp2_with fail
  rw [← hvg]
  clear hvg
  refine (KM.eq vg ng0 ng1 ng2 ng3 ng4 ng5 nw0 nw1 nw2 nw3 nw4 nw5 N tN.out (Og.out.sl.later B7_vg.out) (Ow.out.sl.later B3_vg.out)).mono ?_
  rintro e t6 ⟨rfl, bt6⟩
  clear g0 g1 g2 g3 y0 y1 y2 y3
  have B0_t6 : Hid (Below U0.heap.size U0 t6) := bstep B0_vg.out bt6
  have B3_t6 : Hid (Below vw.heap.size vw t6) := bstep B3_vg.out bt6
  have Bxm_t6 : Hid (Below xm.heap.size xm t6) := bstep Bxm_vg.out bt6
  have B5_t6 : Hid (Below xm.heap.size xm t6) := bstep B5_vg.out bt6
  have B7_t6 : Hid (Below vg.heap.size vg t6) := bstep B7_vg.out bt6
  have Zt6 : Hid (vg.heap.size ≤ t6.heap.size) := bt6.size
  clear B0_vg B3_vg Bxm_vg B5_vg B7_vg bt6
  go_upto_region 10 with fail
  go_cut [57] from 53 to 57 (fun s0 wx => s0 = .bool false ∧ Below t6.heap.size t6 wx)
  case first =>
    have bd : Below t6.heap.size t6 t6.drew := (Below.refl _ _).drew
    have hbx := (Fm.out.later (bstep B0_t6.out bd))
    have p0 := hbx.1 0 _ rfl
    have p1 := hbx.1 1 _ rfl
    have p2 := hbx.1 2 _ rfl
    have p3 := hbx.1 3 _ rfl
    clear hbx
    have hbx := (Gxm.out.later (bstep B5_t6.out bd))
    have e0 := hbx.1 0 _ rfl
    have e1 := hbx.1 1 _ rfl
    have e2 := hbx.1 2 _ rfl
    have e3 := hbx.1 3 _ rfl
    clear hbx
    have h47 : t4.heap.size < t6.drew.heap.size := (Gxm.out.later (bstep B5_t6.out bd)).2.2
    have sx : Hid (SlM t6.drew ⟨yma3, ymb3, ymc3, ymd3, yme3, ymf3⟩ m) := Rxm.out.later (bstep B5_t6.out bd)
    have KB := hidOf bd
    have ra := Rm.out.later (bstep B0_t6.out bd)
    clear bd
    go_region_with (first
      | (go_at_call 29
         refine (KM.to t6.drew yma ymb ymc ymd yme ymf m tm.out ra).mono ?_
         rintro e w8 ⟨yma8, ymb8, ymc8, ymd8, yme8, ymf8, _, rfl, o8, b8⟩
         have e0' : w8.cell? ⟨t4.heap.size, 0, none⟩ = some (.bool m.alive) := (b8.cell (p := ⟨t4.heap.size, 0, none⟩) h47).trans e0
         have e1' : w8.cell? ⟨t4.heap.size, 1, none⟩ = some (.slice yma3 m.copies.length ymb3) := (b8.cell (p := ⟨t4.heap.size, 1, none⟩) h47).trans e1
         have e2' : w8.cell? ⟨t4.heap.size, 2, none⟩ = some (.slice ymc3 m.log.length ymd3) := (b8.cell (p := ⟨t4.heap.size, 2, none⟩) h47).trans e2
         have e3' : w8.cell? ⟨t4.heap.size, 3, none⟩ = some (.slice yme3 m.cleared.length ymf3) := (b8.cell (p := ⟨t4.heap.size, 3, none⟩) h47).trans e3
         have S8 : Hid (SlM w8 ⟨yma3, ymb3, ymc3, ymd3, yme3, ymf3⟩ m ∧ SlM w8 ⟨yma8, ymb8, ymc8, ymd8, yme8, ymf8⟩ m ∧ Below t6.heap.size t6 w8) := ⟨sx.out.later b8, o8.sl, bstep KB.out b8⟩
         clear o8 b8)
      | (go_at_call 31
         refine (KM.eq w8 yma3 ymb3 ymc3 ymd3 yme3 ymf3 yma8 ymb8 ymc8 ymd8 yme8 ymf8 m tm.out S8.out.1 S8.out.2.1).mono ?_
         rintro e w9 ⟨rfl, b9⟩))
    all_goals (
      go_wp2_with fail
      go_meet
      exact ⟨rfl, bstep S8.out.2.2 b9⟩)
  case rest =>
  obtain ⟨rfl, bx⟩ := hcut
  generalize wc = t7 at *
  have B0_t7 : Hid (Below U0.heap.size U0 t7) := bstep B0_t6.out bx
  have B3_t7 : Hid (Below vw.heap.size vw t7) := bstep B3_t6.out bx
  have Bxm_t7 : Hid (Below xm.heap.size xm t7) := bstep Bxm_t6.out bx
  have B5_t7 : Hid (Below xm.heap.size xm t7) := bstep B5_t6.out bx
  have B7_t7 : Hid (Below vg.heap.size vg t7) := bstep B7_t6.out bx
  have Zt7 : Hid (t6.heap.size ≤ t7.heap.size) := bx.size
  clear B0_t6 B3_t6 Bxm_t6 B5_t6 B7_t6 bx
  have Oxm : Hid (KM.Ow t7 _ yma3 ymb3 ymc3 ymd3 yme3 ymf3 m Xm) := Oxm.out.later Bxm_t7.out
  have Gxm : Hid (Bx t7 t4.heap.size [.bool m.alive, .slice yma3 m.copies.length ymb3, .slice ymc3 m.log.length ymd3, .slice yme3 m.cleared.length ymf3]) := Gxm.out.later B5_t7.out
  have Og : Hid (KM.Ow t7 xm.heap.size ng0 ng1 ng2 ng3 ng4 ng5 N Pg) := Og.out.later B7_t7.out
  have Fg : Hid (Bx t7 t5.heap.size [.bool N.alive, .slice ng0 N.copies.length ng1, .slice ng2 N.log.length ng3, .slice ng4 N.cleared.length ng5]) := Fg.out.later B7_t7.out
  have k0 : Hid ((0 : Int) ≤ 1 ∧ (1 : Int) ≤ 1) := by unfold Hid; omega
  have hbx := Gxm.out
  have e0 := hbx.1 0 _ rfl
  have e1 := hbx.1 1 _ rfl
  have e2 := hbx.1 2 _ rfl
  have e3 := hbx.1 3 _ rfl
  clear hbx
  have hmk := KM.mark t7 _ yma3 ymb3 ymc3 ymd3 yme3 ymf3 m Xm 1 (by have := k0.out; omega) (by have := k0.out; omega) tm.out Oxm.out
  obtain ⟨E0, hE0⟩ : ∃ z, z = (endM m 1) := ⟨_, rfl⟩
  rw [← hE0] at hmk
  have k1 : Hid ((0 : Int) ≤ E0 ∧ E0 ≤ 300000000) := by
    rw [hE0]
    have := k0.out
    have e1 := endM_big m 1
    have e2 := endM_top m 1 tm.out
    refine ⟨by omega, ?_⟩
    omega
  clear hE0
  have dE : decide (E0 < 0) = false := by have := k1.out; simp; omega
  go_wp2_with fail
  refine hmk.mono ?_
  clear hmk e0 e1 e2 e3
  rintro e t8 ⟨rfl, kp, -⟩
  have B0_t8 : Hid (Below U0.heap.size U0 t8) := bkept B0_t7.out kp (fun q hq => by have := ZU.out; have := Zs1.out; have := Zt2.out; have := Lw.out; have := Zvw.out; have := Lxm.out; have := Mxm.out; have := Zxm.out; have := Lg.out; have := Zvg.out; have := Zt6.out; have := Zt7.out; have := (Pxm.out q hq).1; omega)
  have B3_t8 : Hid (Below vw.heap.size vw t8) := bkept B3_t7.out kp (fun q hq => by have := ZU.out; have := Zs1.out; have := Zt2.out; have := Lw.out; have := Zvw.out; have := Lxm.out; have := Mxm.out; have := Zxm.out; have := Lg.out; have := Zvg.out; have := Zt6.out; have := Zt7.out; have := (Pxm.out q hq).1; omega)
  have Og : Hid (KM.Ow t8 xm.heap.size ng0 ng1 ng2 ng3 ng4 ng5 N Pg) := Og.out.keep kp.size (fun q hq => kp.block q (Og.out.of hq).2 (fun e => by have := ZU.out; have := Zs1.out; have := Zt2.out; have := Lw.out; have := Zvw.out; have := Lxm.out; have := Mxm.out; have := Zxm.out; have := Lg.out; have := Zvg.out; have := Zt6.out; have := Zt7.out; have := (Pxm.out q e).2; have := (Og.out.of hq).1; omega))
  have Fg : Hid (Bx t8 t5.heap.size [.bool N.alive, .slice ng0 N.copies.length ng1, .slice ng2 N.log.length ng3, .slice ng4 N.cleared.length ng5]) := Fg.out.of_block (kp.block _ Fg.out.2.2 (fun e => by have := ZU.out; have := Zs1.out; have := Zt2.out; have := Lw.out; have := Zvw.out; have := Lxm.out; have := Mxm.out; have := Zxm.out; have := Lg.out; have := Zvg.out; have := Zt6.out; have := Zt7.out; have := (Pxm.out _ e).2; omega)) kp.size
  have Zt8 : Hid (t7.heap.size ≤ t8.heap.size) := kp.size
  clear kp
  have B9_t8 : Hid (Below t8.heap.size t8 t8) := Below.refl _ _
  have hbx := (Fg.out.later B9_t8.out)
  have g0 := hbx.1 0 _ rfl
  have g1 := hbx.1 1 _ rfl
  have g2 := hbx.1 2 _ rfl
  have g3 := hbx.1 3 _ rfl
  clear hbx
  have hbx := (Fw.out.later B3_t8.out)
  have y0 := hbx.1 0 _ rfl
  have y1 := hbx.1 1 _ rfl
  have y2 := hbx.1 2 _ rfl
  have y3 := hbx.1 3 _ rfl
  clear hbx
  go_wp2_with fail
  refine (KM.eq t8 ng0 ng1 ng2 ng3 ng4 ng5 nw0 nw1 nw2 nw3 nw4 nw5 N tN.out (Og.out.sl.later B9_t8.out) (Ow.out.sl.later B3_t8.out)).mono ?_
  rintro e t9 ⟨rfl, bt9⟩
  clear g0 g1 g2 g3 y0 y1 y2 y3
  have B0_t9 : Hid (Below U0.heap.size U0 t9) := bstep B0_t8.out bt9
  have B3_t9 : Hid (Below vw.heap.size vw t9) := bstep B3_t8.out bt9
  have B9_t9 : Hid (Below t8.heap.size t8 t9) := bstep B9_t8.out bt9
  have Zt9 : Hid (t8.heap.size ≤ t9.heap.size) := bt9.size
  clear B0_t8 B3_t8 B9_t8 bt9
  have hmk := KM.mark t9 xm.heap.size ng0 ng1 ng2 ng3 ng4 ng5 N Pg 1 (by omega) (by omega) tN.out (Og.out.later B9_t9.out)
  have HH : Hid (∀ X, SlM X ⟨ng0, ng1, ng2, ng3, ng4, ng5⟩ (mkM N 1) → Calls Tryz.prog 35 #[.agg #[.bool N.alive, .slice ng0 N.copies.length ng1, .slice ng2 N.log.length ng3, .slice ng4 N.cleared.length ng5], .int .i64 1] X fun e w' => e = .returned (.int .i64 (endM N 1)) ∧ Below X.heap.size X w') := fun X hX => KM.held X ng0 ng1 ng2 ng3 ng4 ng5 N 1 (by omega) (by omega) tN.out hX
  obtain ⟨G, hG⟩ : ∃ z, z = (endM N 1) := ⟨_, rfl⟩
  rw [← hG] at hmk HH
  have dG : decide (G < 0) = false := by
    rw [hG]
    have e1 := endM_big N 1
    simp
    omega
  have dH : (G != G) = false := by simp
  clear hG
  have hbx := (Fg.out.later B9_t9.out)
  have g0 := hbx.1 0 _ rfl
  have g1 := hbx.1 1 _ rfl
  have g2 := hbx.1 2 _ rfl
  have g3 := hbx.1 3 _ rfl
  clear hbx
  go_wp2_with fail
  refine hmk.mono ?_
  clear hmk g0 g1 g2 g3
  rintro e t10 ⟨rfl, kp, om⟩
  have B0_t10 : Hid (Below U0.heap.size U0 t10) := bkept B0_t9.out kp (fun q hq => by have := ZU.out; have := Zs1.out; have := Zt2.out; have := Lw.out; have := Zvw.out; have := Lxm.out; have := Mxm.out; have := Zxm.out; have := Lg.out; have := Zvg.out; have := Zt6.out; have := Zt7.out; have := Zt8.out; have := Zt9.out; have := (Og.out.of hq).1; omega)
  have B3_t10 : Hid (Below vw.heap.size vw t10) := bkept B3_t9.out kp (fun q hq => by have := ZU.out; have := Zs1.out; have := Zt2.out; have := Lw.out; have := Zvw.out; have := Lxm.out; have := Mxm.out; have := Zxm.out; have := Lg.out; have := Zvg.out; have := Zt6.out; have := Zt7.out; have := Zt8.out; have := Zt9.out; have := (Og.out.of hq).1; omega)
  have Fg : Hid (Bx t10 t5.heap.size [.bool N.alive, .slice ng0 N.copies.length ng1, .slice ng2 N.log.length ng3, .slice ng4 N.cleared.length ng5]) := (Fg.out.later B9_t9.out).of_block (kp.block _ (Fg.out.later B9_t9.out).2.2 (fun e => NEg.out _ e rfl)) kp.size
  have Om := hidOf om
  have Zt10 : Hid (t9.heap.size ≤ t10.heap.size) := kp.size
  clear kp om B9_t9
  have B10_t10 : Hid (Below t10.heap.size t10 t10) := Below.refl _ _
  have hbx := (Fg.out.later B10_t10.out)
  have g0 := hbx.1 0 _ rfl
  have g1 := hbx.1 1 _ rfl
  have g2 := hbx.1 2 _ rfl
  have g3 := hbx.1 3 _ rfl
  clear hbx
  go_wp2_with fail
  refine (HH.out t10 (Om.out.later B10_t10.out)).mono ?_
  rintro e t11 ⟨rfl, bt11⟩
  clear g0 g1 g2 g3
  have B0_t11 : Hid (Below U0.heap.size U0 t11) := bstep B0_t10.out bt11
  have B3_t11 : Hid (Below vw.heap.size vw t11) := bstep B3_t10.out bt11
  have B10_t11 : Hid (Below t10.heap.size t10 t11) := bstep B10_t10.out bt11
  have Zt11 : Hid (t10.heap.size ≤ t11.heap.size) := bt11.size
  clear B0_t10 B3_t10 B10_t10 bt11
  have hbx := (Fm.out.later B0_t11.out)
  have p0 := hbx.1 0 _ rfl
  have p1 := hbx.1 1 _ rfl
  have p2 := hbx.1 2 _ rfl
  have p3 := hbx.1 3 _ rfl
  clear hbx
  go_wp2_with fail
  refine (KM.to t11 yma ymb ymc ymd yme ymf m tm.out (Rm.out.later B0_t11.out)).mono ?_
  rintro e t12 ⟨yma2, ymb2, ymc2, ymd2, yme2, ymf2, _, rfl, oT, bt12⟩
  have rbm := hidOf oT.sl
  clear oT p0 p1 p2 p3
  have B0_t12 : Hid (Below U0.heap.size U0 t12) := bstep B0_t11.out bt12
  have B3_t12 : Hid (Below vw.heap.size vw t12) := bstep B3_t11.out bt12
  have B10_t12 : Hid (Below t10.heap.size t10 t12) := bstep B10_t11.out bt12
  have Zt12 : Hid (t11.heap.size ≤ t12.heap.size) := bt12.size
  clear B0_t11 B3_t11 B10_t11 bt12
  go_wp2_with fail
  refine (A2.out t12 yma2 ymb2 ymc2 ymd2 yme2 ymf2 rbm.out).mono ?_
  rintro e t13 ⟨nh0, nh1, nh2, nh3, nh4, nh5, Ph, rfl, oh, bt13⟩
  clear rbm
  obtain ⟨vh, hvh⟩ : ∃ X, X = t13.alloc (.cells #[.bool N.alive, .slice nh0 N.copies.length nh1, .slice nh2 N.log.length nh3, .slice nh4 N.cleared.length nh5] 28) := ⟨_, rfl⟩
  have bvh : Below t13.heap.size t13 vh := by rw [hvh]; exact (Below.refl _ _).alloc (Nat.le_refl _) _
  have Fh : Hid (Bx vh t13.heap.size [.bool N.alive, .slice nh0 N.copies.length nh1, .slice nh2 N.log.length nh3, .slice nh4 N.cleared.length nh5]) := by rw [hvh]; exact Bx.made t13 [.bool N.alive, .slice nh0 N.copies.length nh1, .slice nh2 N.log.length nh3, .slice nh4 N.cleared.length nh5] _
  have Oh : Hid (KM.Ow vh t12.heap.size nh0 nh1 nh2 nh3 nh4 nh5 N Ph) := oh.later bvh
  have NEh : Hid (∀ x, Ph x → x ≠ t13.heap.size) := fun x hx => by have := (oh.of hx).2; omega
  obtain ⟨qh, hqh⟩ : ∃ q, q = t13.heap.size := ⟨_, rfl⟩
  have bb : Below t12.heap.size t12 vh := bstep bt13 bvh
  have Lh : Hid (t12.heap.size ≤ t13.heap.size) := bt13.size
  clear oh bt13 bvh hqh qh
  have B0_vh : Hid (Below U0.heap.size U0 vh) := bstep B0_t12.out bb
  have B3_vh : Hid (Below vw.heap.size vw vh) := bstep B3_t12.out bb
  have B10_vh : Hid (Below t10.heap.size t10 vh) := bstep B10_t12.out bb
  have Zvh : Hid (t12.heap.size ≤ vh.heap.size) := bb.size
  clear B0_t12 B3_t12 B10_t12 bb
  have B11_vh : Hid (Below vh.heap.size vh vh) := Below.refl _ _
  have hbx := (Fh.out.later B11_vh.out)
  have g0 := hbx.1 0 _ rfl
  have g1 := hbx.1 1 _ rfl
  have g2 := hbx.1 2 _ rfl
  have g3 := hbx.1 3 _ rfl
  clear hbx
  have hbx := (Fw.out.later B3_vh.out)
  have y0 := hbx.1 0 _ rfl
  have y1 := hbx.1 1 _ rfl
  have y2 := hbx.1 2 _ rfl
  have y3 := hbx.1 3 _ rfl
  clear hbx
  rw [hvh] at g0 g1 g2 g3 y0 y1 y2 y3
  go_wp2_with fail
  rw [← hvh]
  clear hvh
  refine (KM.eq vh nh0 nh1 nh2 nh3 nh4 nh5 nw0 nw1 nw2 nw3 nw4 nw5 N tN.out (Oh.out.sl.later B11_vh.out) (Ow.out.sl.later B3_vh.out)).mono ?_
  rintro e t14 ⟨rfl, bt14⟩
  clear g0 g1 g2 g3 y0 y1 y2 y3
  have B0_t14 : Hid (Below U0.heap.size U0 t14) := bstep B0_vh.out bt14
  have B3_t14 : Hid (Below vw.heap.size vw t14) := bstep B3_vh.out bt14
  have B10_t14 : Hid (Below t10.heap.size t10 t14) := bstep B10_vh.out bt14
  have B11_t14 : Hid (Below vh.heap.size vh t14) := bstep B11_vh.out bt14
  have Zt14 : Hid (vh.heap.size ≤ t14.heap.size) := bt14.size
  clear B0_vh B3_vh B10_vh B11_vh bt14
  have hbx := (Fg.out.later B10_t14.out)
  have g0 := hbx.1 0 _ rfl
  have g1 := hbx.1 1 _ rfl
  have g2 := hbx.1 2 _ rfl
  have g3 := hbx.1 3 _ rfl
  clear hbx
  go_wp2_with fail
  refine (HH.out t14 (Om.out.later B10_t14.out)).mono ?_
  rintro e t15 ⟨rfl, bt15⟩
  clear g0 g1 g2 g3
  have B0_t15 : Hid (Below U0.heap.size U0 t15) := bstep B0_t14.out bt15
  have B3_t15 : Hid (Below vw.heap.size vw t15) := bstep B3_t14.out bt15
  have B10_t15 : Hid (Below t10.heap.size t10 t15) := bstep B10_t14.out bt15
  have B11_t15 : Hid (Below vh.heap.size vh t15) := bstep B11_t14.out bt15
  have Zt15 : Hid (t14.heap.size ≤ t15.heap.size) := bt15.size
  clear B0_t14 B3_t14 B10_t14 B11_t14 bt15
  go_wp2
  go_ret
  exact ⟨rfl, bstep Bw.out B0_t15.out⟩
set_option maxHeartbeats 2000000 in
theorem walk_great0 (w : World) (yma : Option Addr) (ymb : Nat) (ymc : Option Addr) (ymd : Nat) (yme : Option Addr) (ymf : Nat) (m : M4) (x : Int) (y : Int) (dn : Bool) (lm : ML m) (hm : SlM w ⟨yma, ymb, ymc, ymd, yme, ymf⟩ m) (hg : ¬ szM m ≤ 1048576) :
    Calls Tryz.prog 7 #[.agg #[.bool m.alive, .slice yma m.copies.length ymb, .slice ymc m.log.length ymd, .slice yme m.cleared.length ymf], .int .i64 x, .int .i64 y, .bool dn] w fun e w' => e = .returned (.bool true) ∧ Below w.heap.size w w' := by
  obtain ⟨U0, hU0⟩ : ∃ X, X = w.alloc (.cells #[.bool m.alive, .slice yma m.copies.length ymb, .slice ymc m.log.length ymd, .slice yme m.cleared.length ymf] 57) := ⟨_, rfl⟩
  have bU0 : Below w.heap.size w U0 := by rw [hU0]; exact (Below.refl _ _).alloc (Nat.le_refl _) _
  have xU0 : Bx U0 w.heap.size [.bool m.alive, .slice yma m.copies.length ymb, .slice ymc m.log.length ymd, .slice yme m.cleared.length ymf] := by rw [hU0]; exact Bx.made w [.bool m.alive, .slice yma m.copies.length ymb, .slice ymc m.log.length ymd, .slice yme m.cleared.length ymf] _
  have zU0 : U0.heap.size = w.heap.size + 1 := by rw [hU0]; simp
  have Fm : Hid (Bx U0 w.heap.size [.bool m.alive, .slice yma m.copies.length ymb, .slice ymc m.log.length ymd, .slice yme m.cleared.length ymf]) := xU0
  have Rm : Hid (SlM U0 ⟨yma, ymb, ymc, ymd, yme, ymf⟩ m) := (hm).later bU0
  have Bw : Hid (Below w.heap.size w U0) := bU0
  have ZU : Hid (U0.heap.size = w.heap.size + 1) := by unfold Hid; omega
  clear bU0 xU0 zU0 hm
  have B0_U0 : Hid (Below U0.heap.size U0 U0) := Below.refl _ _
  go_enter Tryz.func7, Tryz.ntmps7
  have hbx := (Fm.out.later B0_U0.out)
  have p0 := hbx.1 0 _ rfl
  have p1 := hbx.1 1 _ rfl
  have p2 := hbx.1 2 _ rfl
  have p3 := hbx.1 3 _ rfl
  clear hbx
  rw [hU0] at p0 p1 p2 p3
  go_wp2_with fail
  rw [← hU0]
  clear hU0
  refine (KM.sz U0 yma ymb ymc ymd yme ymf m lm (Rm.out.later B0_U0.out)).mono ?_
  rw [leftR_no (by omega)]
  rintro e s1 ⟨rfl, bs1⟩
  clear p0 p1 p2 p3
  have B0_s1 : Hid (Below U0.heap.size U0 s1) := bstep B0_U0.out bs1
  have Zs1 : Hid (U0.heap.size ≤ s1.heap.size) := bs1.size
  clear B0_U0 bs1
  go_wp2
  go_ret
  exact ⟨rfl, bstep Bw.out B0_s1.out⟩
theorem walk (w : World) (yma : Option Addr) (ymb : Nat) (ymc : Option Addr) (ymd : Nat) (yme : Option Addr) (ymf : Nat) (m : M4) (x : Int) (y : Int) (dn : Bool) (lm : ML m) (hm : SlM w ⟨yma, ymb, ymc, ymd, yme, ymf⟩ m) :
    Calls Tryz.prog 7 #[.agg #[.bool m.alive, .slice yma m.copies.length ymb, .slice ymc m.log.length ymd, .slice yme m.cleared.length ymf], .int .i64 x, .int .i64 y, .bool dn] w fun e w' => e = .returned (.bool true) ∧ Below w.heap.size w w' := by
  by_cases g0 : szM m ≤ 1048576
  case neg => exact walk_great0 w yma ymb ymc ymd yme ymf m x y dn lm hm g0
  exact walk_small w yma ymb ymc ymd yme ymf m x y dn lm hm g0
set_option maxRecDepth 100000 in
theorem lifted (os : Os) (started : os.Started) (H : Type) (enc : TypeId × Value → H) :
    ReturnsInHanded {} Tryz.checked os 7 .any (Rows.fnExactClearSpec.pre6 enc Tryz.prog Tryz.f7 Rows.fnExactClearRow.domain false) (Rows.fnExactClearSpec.post enc Tryz.prog Tryz.f7 false true false false) := by
  refine returnsInHanded_of_change (C := Tryz.checked) own started (by kernel_rfl) Tryz.func7
    (ChangeSpec.witness6 (enc := enc) (C := Tryz.checked) false ⟨#[], #[.agg #[.bool false, .slice none 0 0, .slice none 0 0, .slice none 0 0], .int .i64 0, .int .i64 0, .bool false], []⟩ 8 (by kernel_rfl) (by kernel_rfl) (by kernel_rfl) (by kernel_rfl)) ?_
  intro W base args ds gs before hval0 hW hcnd _
  have hval : ∀ (j : Nat) t v, Tryz.f7.params[j]? = some t → args[j]? = some v → Value.okWide Tryz.prog W .any base t v := hval0
  have hW' := hW
  obtain ⟨p, q, hA0, hV, rfl, hfz, hnd⟩ := hW
  have hA : DataW.TrodAll enc Tryz.prog W 0 (fun _ => true) true Tryz.f7.params.toList args.toList ds p := hA0
  rw [Tryz.params7] at hA hval
  obtain ⟨v0, vs0, d0, ds0, p0, q0, hargs, rfl, rfl, h0, r0⟩ := trodAll_cons hA
  obtain ⟨v1, vs1, d1, ds1, p1, q1, rfl, rfl, rfl, h1, r1⟩ := trodAll_cons r0
  obtain ⟨v2, vs2, d2, ds2, p2, q2, rfl, rfl, rfl, h2, r2⟩ := trodAll_cons r1
  obtain ⟨v3, vs3, d3, ds3, p3, q3, rfl, rfl, rfl, h3, r3⟩ := trodAll_cons r2
  obtain ⟨rfl, rfl, rfl⟩ := trodAll_nil r3
  obtain rfl : args = #[v0, v1, v2, v3] := by cases args; simp_all
  obtain ⟨rfl, rfl⟩ := trodVars_none hV
  obtain ⟨cs0, rfl, hcs0⟩ := okWide_struct Tryz.underlying57 (hval 0 57 v0 rfl rfl)
  have k0 := h0
  have lt0 : ∀ x ∈ p0, x.block < W.heap.size := by obtain ⟨n, hn⟩ := k0; exact DataW.trod_lt n _ _ _ hn
  obtain ⟨⟨yma, ymb, ymc, ymd, yme, ymf⟩, m, rfl, hm, lm⟩ : ∃ (u : MV) (m : M4), cs0 = #[.bool m.alive, .slice u.ac m.copies.length u.cc, .slice u.al m.log.length u.cl, .slice u.ad m.cleared.length u.cd] ∧ SlM W u m ∧ ML m := by
    obtain ⟨fuel, hf⟩ := h0
    obtain ⟨u, m, e, hs, l1, l2, l3, k1, k2, _⟩ := om.open_machine hf
    exact ⟨u, m, by cases cs0; simpa [Value.cells] using e, hs, ⟨l1, k1, l2, k2, l3⟩⟩
  obtain ⟨x, rfl, rfl, rfl, w1⟩ := open_int Tryz.underlying2 (hval 1 2 v1 rfl rfl) h1
  obtain ⟨y, rfl, rfl, rfl, w2⟩ := open_int Tryz.underlying2 (hval 2 2 v2 rfl rfl) h2
  obtain ⟨dn, rfl, rfl, rfl⟩ := open_bool Tryz.underlying4 (hval 3 4 v3 rfl rfl) h3
  clear hA0 hval0
  refine (walk W yma ymb ymc ymd yme ymf m x y dn lm hm).mono fun e W' ⟨he, bel⟩ => ?_
  subst he
  exact ⟨_, rfl, _, _, _, [], _, [], hW', trodAll_mk1 (shut_bool Tryz.underlying4 _), (trodAll_cons_mk (Below.trod laidOut (by kernel_rfl) (of_decide_eq_true (by kernel_rfl)) k0 bel lt0) (trodAll_cons_mk (shut_int Tryz.underlying2 w1) (trodAll_cons_mk (shut_int Tryz.underlying2 w2) (trodAll_cons_mk (shut_bool Tryz.underlying4 _) trodAll_mk0)))), rfl, bel.frame _, fun h => by cases h⟩
theorem over : Rows.fnExactClearRow.holds Tryz.pinned (OpenSpec.ofChange Rows.fnExactClearSpec) :=
  OpenClaim.holds_of_wide 7 Tryz.f7 rfl rfl rfl rfl rfl rfl rfl ⟨rfl, rfl, rfl, rfl, rfl⟩ rfl rfl rfl rfl rfl (by kernel_rfl) Tryz.func7 (by kernel_rfl)
    (of_decide_eq_true (by kernel_rfl)) (by unfold Func.isWrapper; first | (rw [if_pos (by decide +kernel)]; kernel_rfl) | (rw [if_neg (by decide +kernel)]; exact ⟨rfl, rfl⟩))
    (fun os started H enc _ => lifted os started H enc)
end Go.Proofs.YtbkcmbbeknljiaaGreat.fnExactClear
namespace Go.Proofs.YtbkcmbbeknljiaaGreat
theorem fnExactClear_holds : Rows.FnExactClearSaid := fnExactClear.over
#print axioms fnExactClear_holds
end Go.Proofs.YtbkcmbbeknljiaaGreat
