/- Replace of the program answers, at every Machine, region and cells, as the specification's Replace does, in memory of its own, and changes nothing: no condition. -/
import Derived.Test.YtbkcmbbeknljiaaGreatRows
import Derived.Test.YtbkcmbbeknljiaaGreatRepSJ
import Derived.Test.YtbkcmbbeknljiaaGreatJ50ExactReplace
import Derived.Test.YtbkcmbbeknljiaaGreatJ51ExactReplace
import Derived.Test.YtbkcmbbeknljiaaGreatOpenMacJ
import Derived.Test.YtbkcmbbeknljiaaGreatUntZ
import Derived.WalkKit
import Derived.ProofKit
import Derived.OpenShut
import Derived.Deep.RegionWith
import Derived.Deep.CutRange
import Derived.WalkSpells
namespace Go.Proofs.YtbkcmbbeknljiaaGreat.fnExactReplace
open Go.ChangeShapes Go.WideShapes Go.ChangeAt Go.RowKit
theorem own : ownKnob Tryz.prog.godebug = none := by kernel_rfl
theorem laidOut : laidOutB Tryz.prog = true := by kernel_rfl
def Ans (X : World) (N : M4) (o0 : Bool) (e : Ending) (w' : World) : Prop := ∃ (ra : Option Addr) (rb : Nat) (rc : Option Addr) (rd : Nat) (re : Option Addr) (rf : Nat) (P : Nat → Prop), e = .returned (.tuple #[.agg #[.bool N.alive, .slice ra N.copies.length rb, .slice rc N.log.length rd, .slice re N.cleared.length rf], .bool o0]) ∧ KM.Ow w' X.heap.size ra rb rc rd re rf N P ∧ Below X.heap.size X w'
theorem sum_cap {α : Type} (f : α → Nat) (c : Nat) : ∀ (l : List α), (∀ x ∈ l, f x ≤ c) → (l.map f).sum ≤ l.length * c
  | [], _ => by simp
  | x :: l, h => by
    have h1 := h x (by simp)
    have h2 := sum_cap f c l (fun y hy => h y (by simp [hy]))
    simp only [List.map_cons, List.sum_cons, List.length_cons, Nat.add_mul, Nat.one_mul]
    omega
theorem ans_of {X : World} {N : M4} {o : Bool} {e : Ending} {w' : World} (h : MAnsB X N o e w') : Ans X N o e w' := by
  obtain ⟨a, b, c, d, f, g, PK, PR, PD, rfl, om, hl, bl⟩ := h
  exact ⟨a, b, c, d, f, g, _, rfl, KM.of om hl, bl⟩
theorem repK_mem {ks : List K2} {y : Int} {cs : List C2} {k : K2} (h : k ∈ repK ks y cs) : k ∈ ks ∨ k = ⟨y, cs⟩ := by
  unfold repK at h
  split at h
  · exact (List.mem_or_eq_of_mem_set h)
  · simp only [insKL, List.mem_append, List.mem_cons] at h
    rcases h with h | h | h
    · exact .inl (List.mem_of_mem_take h)
    · exact .inr h
    · exact .inl (List.mem_of_mem_drop h)
theorem repK_len (ks : List K2) (y : Int) (cs : List C2) : (repK ks y cs).length ≤ ks.length + 1 := by
  unfold repK
  split
  · rw [List.length_set]; omega
  · simp only [insKL, List.length_append, List.length_cons, List.length_take, List.length_drop]; omega
theorem repM_mt (m : M4) (y : Int) (cs : List C2) : MT (repM m y cs) := by
  unfold repM
  split
  · next hh =>
    simp only [repB, Bool.and_eq_true] at hh
    have hs := MSm.of_mach hh.1.1
    have h6 := cells_six hh.2
    have h1 := sum_cap (fun k : K2 => k.cells.length) 6 (repK m.copies y cs) (fun c hc => by
      rcases repK_mem hc with h | h
      · have := hs.ks c h; omega
      · rw [h]; exact Nat.le_of_eq h6)
    have h2 := sum_cap (fun k : R4 => k.sets.length) 12 m.log (fun c hc => (hs.rs c hc).2)
    have h3 := repK_len m.copies y cs
    have h4 := hs.k
    have h5 := hs.r
    have h7 := hs.n
    refine MT.of_sz ?_
    simp only [szM, lensK, lensR]
    omega
  · exact MT.of_sz (by simp [szM, lensK, lensR])
/-- The answer in a box, in memory of the call's own. -/
def Gx (w X : World) (sv : Value) (bo0 : Value) (N : M4) (o0 : Bool) : Prop := ∃ (q : Nat) (ra : Option Addr) (rb : Nat) (rc : Option Addr) (rd : Nat) (re : Option Addr) (rf : Nat) (P : Nat → Prop), sv = .pointer (some ⟨q, 0, none⟩) ∧ bo0 = .bool o0 ∧ Bx X q [.bool N.alive, .slice ra N.copies.length rb, .slice rc N.log.length rd, .slice re N.cleared.length rf] ∧ KM.Ow X w.heap.size ra rb rc rd re rf N P ∧ (∀ x, P x → x ≠ q) ∧ w.heap.size ≤ q ∧ Below w.heap.size w X
set_option maxRecDepth 100000 in
set_option maxHeartbeats 8000000 in
theorem walk_small (w : World) (yma : Option Addr) (ymb : Nat) (ymc : Option Addr) (ymd : Nat) (yme : Option Addr) (ymf : Nat) (yca : Option Addr) (ycb : Nat) (m : M4) (y : Int) (c : List C2) (lm : ML m) (lc : KC.L c) (hm : SlM w ⟨yma, ymb, ymc, ymd, yme, ymf⟩ m) (hc : KC.Rd w yca ycb c) (hg : szM m + c.length ≤ 1048576) :
    Calls Tryz.prog 5 #[.agg #[.bool m.alive, .slice yma m.copies.length ymb, .slice ymc m.log.length ymd, .slice yme m.cleared.length ymf], .int .i64 y, .slice yca c.length ycb] w fun e w' => e = .returned (.bool true) ∧ Below w.heap.size w w' := by
  have tm : Hid (MT m) := MT.of_sz (by omega)
  have tc : Hid (c.length ≤ 1048576) := by unfold Hid; omega
  obtain ⟨N, hN⟩ : ∃ N, N = repM m y c := ⟨_, rfl⟩
  obtain ⟨o0, ho0⟩ : ∃ z, z = repB m y c := ⟨_, rfl⟩
  have A1 : Hid (∀ (X : World) (yma1 : Option Addr) (ymb1 : Nat) (ymc1 : Option Addr) (ymd1 : Nat) (yme1 : Option Addr) (ymf1 : Nat) (yca1 : Option Addr) (ycb1 : Nat), SlM X ⟨yma1, ymb1, ymc1, ymd1, yme1, ymf1⟩ m → KC.Rd X yca1 ycb1 c → Calls Tryz.prog 11 #[.agg #[.bool m.alive, .slice yma1 m.copies.length ymb1, .slice ymc1 m.log.length ymd1, .slice yme1 m.cleared.length ymf1], .int .i64 y, .slice yca1 c.length ycb1] X (Ans X N o0)) := by
    rw [hN, ho0]
    intro X yma1 ymb1 ymc1 ymd1 yme1 ymf1 yca1 ycb1 h1 h2
    have hh := specReplace_any X ⟨yma1, ymb1, ymc1, ymd1, yme1, ymf1⟩ m y yca1 ycb1 c lm h1 lc h2
    simp only [MV.val] at hh
    exact hh.mono (fun e w' h => ans_of h)
  have A2 : Hid (∀ (X : World) (yma1 : Option Addr) (ymb1 : Nat) (ymc1 : Option Addr) (ymd1 : Nat) (yme1 : Option Addr) (ymf1 : Nat) (yca1 : Option Addr) (ycb1 : Nat), SlM X ⟨yma1, ymb1, ymc1, ymd1, yme1, ymf1⟩ m → KC.Rd X yca1 ycb1 c → Calls Tryz.prog 10 #[.agg #[.bool m.alive, .slice yma1 m.copies.length ymb1, .slice ymc1 m.log.length ymd1, .slice yme1 m.cleared.length ymf1], .int .i64 y, .slice yca1 c.length ycb1] X (Ans X N o0)) := by
    rw [hN, ho0]
    intro X yma1 ymb1 ymc1 ymd1 yme1 ymf1 yca1 ycb1 h1 h2
    have hh := implReplace_any X ⟨yma1, ymb1, ymc1, ymd1, yme1, ymf1⟩ m y yca1 ycb1 c lm h1 lc h2
    simp only [MV.val] at hh
    exact hh.mono (fun e w' h => ans_of h)
  have tN : Hid (MT N) := by
    rw [hN]
    exact repM_mt m y c
  clear hN ho0
  have do0 : (o0 != o0) = false := by simp
  obtain ⟨U0, hU0⟩ : ∃ X, X = w.alloc (.cells #[.bool m.alive, .slice yma m.copies.length ymb, .slice ymc m.log.length ymd, .slice yme m.cleared.length ymf] 57) := ⟨_, rfl⟩
  have bU0 : Below w.heap.size w U0 := by rw [hU0]; exact (Below.refl _ _).alloc (Nat.le_refl _) _
  have xU0 : Bx U0 w.heap.size [.bool m.alive, .slice yma m.copies.length ymb, .slice ymc m.log.length ymd, .slice yme m.cleared.length ymf] := by rw [hU0]; exact Bx.made w [.bool m.alive, .slice yma m.copies.length ymb, .slice ymc m.log.length ymd, .slice yme m.cleared.length ymf] _
  have zU0 : U0.heap.size = w.heap.size + 1 := by rw [hU0]; simp
  have Fm : Hid (Bx U0 w.heap.size [.bool m.alive, .slice yma m.copies.length ymb, .slice ymc m.log.length ymd, .slice yme m.cleared.length ymf]) := xU0
  have Rm : Hid (SlM U0 ⟨yma, ymb, ymc, ymd, yme, ymf⟩ m) := (hm).later bU0
  have Rc : Hid (KC.Rd U0 yca ycb c) := (hc).later bU0
  have Bw : Hid (Below w.heap.size w U0) := bU0
  have ZU : Hid (U0.heap.size = w.heap.size + 1) := by unfold Hid; omega
  clear bU0 xU0 zU0 hm hc
  have B0_U0 : Hid (Below U0.heap.size U0 U0) := Below.refl _ _
  go_enter Tryz.func5, Tryz.ntmps5
  have hbx := (Fm.out.later B0_U0.out)
  have p0 := hbx.1 0 _ rfl
  have p1 := hbx.1 1 _ rfl
  have p2 := hbx.1 2 _ rfl
  have p3 := hbx.1 3 _ rfl
  clear hbx
  rw [hU0] at p0 p1 p2 p3
  go_wp2_with fail
  rw [← hU0]
  clear hU0
  refine (KM.sz U0 yma ymb ymc ymd yme ymf m lm (Rm.out.later B0_U0.out)).mono ?_
  rw [leftR_yes (by omega)]
  rintro e s1 ⟨rfl, bs1⟩
  clear p0 p1 p2 p3
  have B0_s1 : Hid (Below U0.heap.size U0 s1) := bstep B0_U0.out bs1
  have Zs1 : Hid (U0.heap.size ≤ s1.heap.size) := bs1.size
  clear B0_U0 bs1
  have g0 : decide ((((1048576 - szM m) : Nat) : Int) < 0) = false := by simp
  go_wp2_with fail
  refine (KC.szl s1 yca ycb c (1048576 - szM m) (by omega) lc).mono ?_
  rw [leftR_yes (by omega)]
  rintro e s2 ⟨rfl, bs2⟩
  have B0_s2 : Hid (Below U0.heap.size U0 s2) := bstep B0_s1.out bs2
  have Zs2 : Hid (s1.heap.size ≤ s2.heap.size) := bs2.size
  clear B0_s1 bs2
  have g1 : decide (((((1048576 - szM m) - c.length) : Nat) : Int) < 0) = false := by simp
  have hbx := (Fm.out.later B0_s2.out)
  have p0 := hbx.1 0 _ rfl
  have p1 := hbx.1 1 _ rfl
  have p2 := hbx.1 2 _ rfl
  have p3 := hbx.1 3 _ rfl
  clear hbx
  go_wp2_with fail
  refine (KM.to s2 yma ymb ymc ymd yme ymf m tm.out (Rm.out.later B0_s2.out)).mono ?_
  rintro e t3 ⟨yma2, ymb2, ymc2, ymd2, yme2, ymf2, _, rfl, oT, bt3⟩
  have rbm := hidOf oT.sl
  clear oT p0 p1 p2 p3
  have B0_t3 : Hid (Below U0.heap.size U0 t3) := bstep B0_s2.out bt3
  have Zt3 : Hid (s2.heap.size ≤ t3.heap.size) := bt3.size
  clear B0_s2 bt3
  go_wp2_with fail
  refine (KC.to t3 yca ycb c tc.out (Rc.out.later B0_t3.out)).mono ?_
  rintro e t4 ⟨yca2, ycb2, _, rfl, oT, bt4⟩
  have rbm : Hid _ := rbm.out.later bt4
  have rbc := hidOf oT.sl
  clear oT
  have B0_t4 : Hid (Below U0.heap.size U0 t4) := bstep B0_t3.out bt4
  have Zt4 : Hid (t3.heap.size ≤ t4.heap.size) := bt4.size
  clear B0_t3 bt4
  go_wp2_with fail
  refine (A1.out t4 yma2 ymb2 ymc2 ymd2 yme2 ymf2 yca2 ycb2 rbm.out rbc.out).mono ?_
  rintro e t5 ⟨nw0, nw1, nw2, nw3, nw4, nw5, Pw, rfl, ow, bt5⟩
  clear rbm rbc
  obtain ⟨vw, hvw⟩ : ∃ X, X = t5.alloc (.cells #[.bool N.alive, .slice nw0 N.copies.length nw1, .slice nw2 N.log.length nw3, .slice nw4 N.cleared.length nw5] 28) := ⟨_, rfl⟩
  have bvw : Below t5.heap.size t5 vw := by rw [hvw]; exact (Below.refl _ _).alloc (Nat.le_refl _) _
  have Fw : Hid (Bx vw t5.heap.size [.bool N.alive, .slice nw0 N.copies.length nw1, .slice nw2 N.log.length nw3, .slice nw4 N.cleared.length nw5]) := by rw [hvw]; exact Bx.made t5 [.bool N.alive, .slice nw0 N.copies.length nw1, .slice nw2 N.log.length nw3, .slice nw4 N.cleared.length nw5] _
  have Ow : Hid (KM.Ow vw t4.heap.size nw0 nw1 nw2 nw3 nw4 nw5 N Pw) := ow.later bvw
  have NEw : Hid (∀ x, Pw x → x ≠ t5.heap.size) := fun x hx => by have := (ow.of hx).2; omega
  obtain ⟨qw, hqw⟩ : ∃ q, q = t5.heap.size := ⟨_, rfl⟩
  have bb : Below t4.heap.size t4 vw := bstep bt5 bvw
  have Lw : Hid (t4.heap.size ≤ t5.heap.size) := bt5.size
  clear ow bt5 bvw hqw qw
  have B0_vw : Hid (Below U0.heap.size U0 vw) := bstep B0_t4.out bb
  have Zvw : Hid (t4.heap.size ≤ vw.heap.size) := bb.size
  clear B0_t4 bb
  have B3_vw : Hid (Below vw.heap.size vw vw) := Below.refl _ _
  have hbx := (Fm.out.later B0_vw.out)
  have p0 := hbx.1 0 _ rfl
  have p1 := hbx.1 1 _ rfl
  have p2 := hbx.1 2 _ rfl
  have p3 := hbx.1 3 _ rfl
  clear hbx
  rw [hvw] at p0 p1 p2 p3
  go_wp2_with fail
  rw [← hvw]
  clear hvw
  refine (KM.to vw yma ymb ymc ymd yme ymf m tm.out (Rm.out.later B0_vw.out)).mono ?_
  rintro e t6 ⟨yma3, ymb3, ymc3, ymd3, yme3, ymf3, Xm, rfl, ox, bt6⟩
  clear p0 p1 p2 p3
  obtain ⟨xm, hxm⟩ : ∃ X, X = t6.alloc (.cells #[.bool m.alive, .slice yma3 m.copies.length ymb3, .slice ymc3 m.log.length ymd3, .slice yme3 m.cleared.length ymf3] 28) := ⟨_, rfl⟩
  have bxm : Below t6.heap.size t6 xm := by rw [hxm]; exact (Below.refl _ _).alloc (Nat.le_refl _) _
  have Fxm : Hid (Bx xm t6.heap.size [.bool m.alive, .slice yma3 m.copies.length ymb3, .slice ymc3 m.log.length ymd3, .slice yme3 m.cleared.length ymf3]) := by rw [hxm]; exact Bx.made t6 [.bool m.alive, .slice yma3 m.copies.length ymb3, .slice ymc3 m.log.length ymd3, .slice yme3 m.cleared.length ymf3] _
  have Oxm : Hid (KM.Ow xm vw.heap.size yma3 ymb3 ymc3 ymd3 yme3 ymf3 m Xm) := ox.later bxm
  have Pxm : Hid (∀ q, Xm q → vw.heap.size ≤ q ∧ q < t6.heap.size) := fun q hq => ox.of hq
  have bb : Below vw.heap.size vw xm := bstep bt6 bxm
  have Lxm : Hid (vw.heap.size ≤ t6.heap.size) := bt6.size
  have Mxm : Hid (xm.heap.size = t6.heap.size + 1) := by rw [Hid, hxm]; simp
  clear ox bt6 bxm
  have B0_xm : Hid (Below U0.heap.size U0 xm) := bstep B0_vw.out bb
  have B3_xm : Hid (Below vw.heap.size vw xm) := bstep B3_vw.out bb
  have Zxm : Hid (vw.heap.size ≤ xm.heap.size) := bb.size
  clear B0_vw B3_vw bb
  have Bxm_xm : Hid (Below xm.heap.size xm xm) := Below.refl _ _
  go_wp2_with fail
  rw [← hxm]
  clear hxm
  refine (KC.to xm yca ycb c tc.out (Rc.out.later B0_xm.out)).mono ?_
  rintro e t7 ⟨yca3, ycb3, Xc, rfl, ox, bt7⟩
  have Oxc : Hid (KC.Ow t7 xm.heap.size yca3 ycb3 c Xc) := ox
  have Pxc : Hid (∀ q, Xc q → xm.heap.size ≤ q ∧ q < t7.heap.size) := fun q hq => ox.of hq
  clear ox
  have B0_t7 : Hid (Below U0.heap.size U0 t7) := bstep B0_xm.out bt7
  have B3_t7 : Hid (Below vw.heap.size vw t7) := bstep B3_xm.out bt7
  have Bxm_t7 : Hid (Below xm.heap.size xm t7) := bstep Bxm_xm.out bt7
  have Zt7 : Hid (xm.heap.size ≤ t7.heap.size) := bt7.size
  clear B0_xm B3_xm Bxm_xm bt7
  have Bxc_t7 : Hid (Below t7.heap.size t7 t7) := Below.refl _ _
  have B5_t7 : Hid (Below t7.heap.size t7 t7) := Below.refl _ _
  have Rxm : Hid (SlM t7 ⟨yma3, ymb3, ymc3, ymd3, yme3, ymf3⟩ m) := (Oxm.out.later Bxm_t7.out).sl
  have Rxc : Hid (KC.Rd t7 yca3 ycb3 c) := (Oxc.out.later Bxc_t7.out).sl
  have Gxm : Hid (Bx t7 t6.heap.size [.bool m.alive, .slice yma3 m.copies.length ymb3, .slice ymc3 m.log.length ymd3, .slice yme3 m.cleared.length ymf3]) := Fxm.out.later Bxm_t7.out
  have hbx := (Gxm.out.later B5_t7.out)
  have pm0 := hbx.1 0 _ rfl
  have pm1 := hbx.1 1 _ rfl
  have pm2 := hbx.1 2 _ rfl
  have pm3 := hbx.1 3 _ rfl
  clear hbx
  go_wp2_with fail
  refine (A2.out t7 yma3 ymb3 ymc3 ymd3 yme3 ymf3 yca3 ycb3 (Rxm.out.later B5_t7.out) (Rxc.out.later B5_t7.out)).mono ?_
  rintro e t8 ⟨ng0, ng1, ng2, ng3, ng4, ng5, Pg, rfl, og, bt8⟩
  clear pm0 pm1 pm2 pm3
  obtain ⟨vg, hvg⟩ : ∃ X, X = t8.alloc (.cells #[.bool N.alive, .slice ng0 N.copies.length ng1, .slice ng2 N.log.length ng3, .slice ng4 N.cleared.length ng5] 28) := ⟨_, rfl⟩
  have bvg : Below t8.heap.size t8 vg := by rw [hvg]; exact (Below.refl _ _).alloc (Nat.le_refl _) _
  have Fg : Hid (Bx vg t8.heap.size [.bool N.alive, .slice ng0 N.copies.length ng1, .slice ng2 N.log.length ng3, .slice ng4 N.cleared.length ng5]) := by rw [hvg]; exact Bx.made t8 [.bool N.alive, .slice ng0 N.copies.length ng1, .slice ng2 N.log.length ng3, .slice ng4 N.cleared.length ng5] _
  have Og : Hid (KM.Ow vg t7.heap.size ng0 ng1 ng2 ng3 ng4 ng5 N Pg) := og.later bvg
  have NEg : Hid (∀ x, Pg x → x ≠ t8.heap.size) := fun x hx => by have := (og.of hx).2; omega
  obtain ⟨qg, hqg⟩ : ∃ q, q = t8.heap.size := ⟨_, rfl⟩
  have bb : Below t7.heap.size t7 vg := bstep bt8 bvg
  have Lg : Hid (t7.heap.size ≤ t8.heap.size) := bt8.size
  clear og bt8 bvg hqg qg
  have B0_vg : Hid (Below U0.heap.size U0 vg) := bstep B0_t7.out bb
  have B3_vg : Hid (Below vw.heap.size vw vg) := bstep B3_t7.out bb
  have Bxm_vg : Hid (Below xm.heap.size xm vg) := bstep Bxm_t7.out bb
  have Bxc_vg : Hid (Below t7.heap.size t7 vg) := bstep Bxc_t7.out bb
  have B5_vg : Hid (Below t7.heap.size t7 vg) := bstep B5_t7.out bb
  have Zvg : Hid (t7.heap.size ≤ vg.heap.size) := bb.size
  clear B0_t7 B3_t7 Bxm_t7 Bxc_t7 B5_t7 bb
  have B7_vg : Hid (Below vg.heap.size vg vg) := Below.refl _ _
  have hbx := (Fg.out.later B7_vg.out)
  have g0 := hbx.1 0 _ rfl
  have g1 := hbx.1 1 _ rfl
  have g2 := hbx.1 2 _ rfl
  have g3 := hbx.1 3 _ rfl
  clear hbx
  have hbx := (Fw.out.later B3_vg.out)
  have y0 := hbx.1 0 _ rfl
  have y1 := hbx.1 1 _ rfl
  have y2 := hbx.1 2 _ rfl
  have y3 := hbx.1 3 _ rfl
  clear hbx
  rw [hvg] at g0 g1 g2 g3 y0 y1 y2 y3
  go_wp2_with fail
  rw [← hvg]
  clear hvg
  refine (KM.eq vg ng0 ng1 ng2 ng3 ng4 ng5 nw0 nw1 nw2 nw3 nw4 nw5 N tN.out (Og.out.sl.later B7_vg.out) (Ow.out.sl.later B3_vg.out)).mono ?_
  rintro e t9 ⟨rfl, bt9⟩
  clear g0 g1 g2 g3 y0 y1 y2 y3
  have B0_t9 : Hid (Below U0.heap.size U0 t9) := bstep B0_vg.out bt9
  have B3_t9 : Hid (Below vw.heap.size vw t9) := bstep B3_vg.out bt9
  have Bxm_t9 : Hid (Below xm.heap.size xm t9) := bstep Bxm_vg.out bt9
  have Bxc_t9 : Hid (Below t7.heap.size t7 t9) := bstep Bxc_vg.out bt9
  have B5_t9 : Hid (Below t7.heap.size t7 t9) := bstep B5_vg.out bt9
  have B7_t9 : Hid (Below vg.heap.size vg t9) := bstep B7_vg.out bt9
  have Zt9 : Hid (vg.heap.size ≤ t9.heap.size) := bt9.size
  clear B0_vg B3_vg Bxm_vg Bxc_vg B5_vg B7_vg bt9
  go_upto_region 14 with fail
  go_cut [62] from 58 to 62 (fun s0 wx => s0 = .bool false ∧ Below t9.heap.size t9 wx)
  case first =>
    have bd : Below t9.heap.size t9 t9.drew := (Below.refl _ _).drew
    have hbx := (Fm.out.later (bstep B0_t9.out bd))
    have p0 := hbx.1 0 _ rfl
    have p1 := hbx.1 1 _ rfl
    have p2 := hbx.1 2 _ rfl
    have p3 := hbx.1 3 _ rfl
    clear hbx
    have hbx := (Gxm.out.later (bstep B5_t9.out bd))
    have e0 := hbx.1 0 _ rfl
    have e1 := hbx.1 1 _ rfl
    have e2 := hbx.1 2 _ rfl
    have e3 := hbx.1 3 _ rfl
    clear hbx
    have h47 : t6.heap.size < t9.drew.heap.size := (Gxm.out.later (bstep B5_t9.out bd)).2.2
    have sx : Hid (SlM t9.drew ⟨yma3, ymb3, ymc3, ymd3, yme3, ymf3⟩ m) := Rxm.out.later (bstep B5_t9.out bd)
    have KB := hidOf bd
    have ra := Rm.out.later (bstep B0_t9.out bd)
    clear bd
    go_region_with (first
      | (go_at_call 29
         refine (KM.to t9.drew yma ymb ymc ymd yme ymf m tm.out ra).mono ?_
         rintro e w8 ⟨yma8, ymb8, ymc8, ymd8, yme8, ymf8, _, rfl, o8, b8⟩
         have e0' : w8.cell? ⟨t6.heap.size, 0, none⟩ = some (.bool m.alive) := (b8.cell (p := ⟨t6.heap.size, 0, none⟩) h47).trans e0
         have e1' : w8.cell? ⟨t6.heap.size, 1, none⟩ = some (.slice yma3 m.copies.length ymb3) := (b8.cell (p := ⟨t6.heap.size, 1, none⟩) h47).trans e1
         have e2' : w8.cell? ⟨t6.heap.size, 2, none⟩ = some (.slice ymc3 m.log.length ymd3) := (b8.cell (p := ⟨t6.heap.size, 2, none⟩) h47).trans e2
         have e3' : w8.cell? ⟨t6.heap.size, 3, none⟩ = some (.slice yme3 m.cleared.length ymf3) := (b8.cell (p := ⟨t6.heap.size, 3, none⟩) h47).trans e3
         have S8 : Hid (SlM w8 ⟨yma3, ymb3, ymc3, ymd3, yme3, ymf3⟩ m ∧ SlM w8 ⟨yma8, ymb8, ymc8, ymd8, yme8, ymf8⟩ m ∧ Below t9.heap.size t9 w8) := ⟨sx.out.later b8, o8.sl, bstep KB.out b8⟩
         clear o8 b8)
      | (go_at_call 31
         refine (KM.eq w8 yma3 ymb3 ymc3 ymd3 yme3 ymf3 yma8 ymb8 ymc8 ymd8 yme8 ymf8 m tm.out S8.out.1 S8.out.2.1).mono ?_
         rintro e w9 ⟨rfl, b9⟩))
    all_goals (
      go_wp2_with fail
      go_meet
      exact ⟨rfl, bstep S8.out.2.2 b9⟩)
  case rest =>
  obtain ⟨rfl, bx⟩ := hcut
  generalize wc = t10 at *
  have B0_t10 : Hid (Below U0.heap.size U0 t10) := bstep B0_t9.out bx
  have B3_t10 : Hid (Below vw.heap.size vw t10) := bstep B3_t9.out bx
  have Bxm_t10 : Hid (Below xm.heap.size xm t10) := bstep Bxm_t9.out bx
  have Bxc_t10 : Hid (Below t7.heap.size t7 t10) := bstep Bxc_t9.out bx
  have B5_t10 : Hid (Below t7.heap.size t7 t10) := bstep B5_t9.out bx
  have B7_t10 : Hid (Below vg.heap.size vg t10) := bstep B7_t9.out bx
  have Zt10 : Hid (t9.heap.size ≤ t10.heap.size) := bx.size
  clear B0_t9 B3_t9 Bxm_t9 Bxc_t9 B5_t9 B7_t9 bx
  go_wp2_with fail
  refine (KC.to t10 yca ycb c tc.out (Rc.out.later B0_t10.out)).mono ?_
  rintro e t11 ⟨yca8, ycb8, _, rfl, o8, bt11⟩
  have r8 := hidOf o8.sl
  clear o8
  have B0_t11 : Hid (Below U0.heap.size U0 t11) := bstep B0_t10.out bt11
  have B3_t11 : Hid (Below vw.heap.size vw t11) := bstep B3_t10.out bt11
  have Bxm_t11 : Hid (Below xm.heap.size xm t11) := bstep Bxm_t10.out bt11
  have Bxc_t11 : Hid (Below t7.heap.size t7 t11) := bstep Bxc_t10.out bt11
  have B5_t11 : Hid (Below t7.heap.size t7 t11) := bstep B5_t10.out bt11
  have B7_t11 : Hid (Below vg.heap.size vg t11) := bstep B7_t10.out bt11
  have Zt11 : Hid (t10.heap.size ≤ t11.heap.size) := bt11.size
  clear B0_t10 B3_t10 Bxm_t10 Bxc_t10 B5_t10 B7_t10 bt11
  go_wp2_with fail
  refine (KC.eq t11 yca3 ycb3 yca8 ycb8 c tc.out (Rxc.out.later B5_t11.out) r8.out).mono ?_
  rintro e t12 ⟨rfl, bt12⟩
  clear r8
  have B0_t12 : Hid (Below U0.heap.size U0 t12) := bstep B0_t11.out bt12
  have B3_t12 : Hid (Below vw.heap.size vw t12) := bstep B3_t11.out bt12
  have Bxm_t12 : Hid (Below xm.heap.size xm t12) := bstep Bxm_t11.out bt12
  have Bxc_t12 : Hid (Below t7.heap.size t7 t12) := bstep Bxc_t11.out bt12
  have B5_t12 : Hid (Below t7.heap.size t7 t12) := bstep B5_t11.out bt12
  have B7_t12 : Hid (Below vg.heap.size vg t12) := bstep B7_t11.out bt12
  have Zt12 : Hid (t11.heap.size ≤ t12.heap.size) := bt12.size
  clear B0_t11 B3_t11 Bxm_t11 Bxc_t11 B5_t11 B7_t11 bt12
  have Oxm : Hid (KM.Ow t12 _ yma3 ymb3 ymc3 ymd3 yme3 ymf3 m Xm) := Oxm.out.later Bxm_t12.out
  have Gxm : Hid (Bx t12 t6.heap.size [.bool m.alive, .slice yma3 m.copies.length ymb3, .slice ymc3 m.log.length ymd3, .slice yme3 m.cleared.length ymf3]) := Gxm.out.later B5_t12.out
  have Oxc : Hid (KC.Ow t12 _ yca3 ycb3 c Xc) := Oxc.out.later Bxc_t12.out
  have Og : Hid (KM.Ow t12 t7.heap.size ng0 ng1 ng2 ng3 ng4 ng5 N Pg) := Og.out.later B7_t12.out
  have Fg : Hid (Bx t12 t8.heap.size [.bool N.alive, .slice ng0 N.copies.length ng1, .slice ng2 N.log.length ng3, .slice ng4 N.cleared.length ng5]) := Fg.out.later B7_t12.out
  have k0 : Hid ((0 : Int) ≤ 1 ∧ (1 : Int) ≤ 1) := by unfold Hid; omega
  have hbx := Gxm.out
  have e0 := hbx.1 0 _ rfl
  have e1 := hbx.1 1 _ rfl
  have e2 := hbx.1 2 _ rfl
  have e3 := hbx.1 3 _ rfl
  clear hbx
  have hmk := KM.mark t12 _ yma3 ymb3 ymc3 ymd3 yme3 ymf3 m Xm 1 (by have := k0.out; omega) (by have := k0.out; omega) tm.out Oxm.out
  obtain ⟨E0, hE0⟩ : ∃ z, z = (endM m 1) := ⟨_, rfl⟩
  rw [← hE0] at hmk
  have k1 : Hid ((0 : Int) ≤ E0 ∧ E0 ≤ 300000000) := by
    rw [hE0]
    have := k0.out
    have e1 := endM_big m 1
    have e2 := endM_top m 1 tm.out
    refine ⟨by omega, ?_⟩
    omega
  clear hE0
  go_wp2_with fail
  refine hmk.mono ?_
  clear hmk e0 e1 e2 e3
  rintro e t13 ⟨rfl, kp, -⟩
  have B0_t13 : Hid (Below U0.heap.size U0 t13) := bkept B0_t12.out kp (fun q hq => by have := ZU.out; have := Zs1.out; have := Zs2.out; have := Zt3.out; have := Zt4.out; have := Lw.out; have := Zvw.out; have := Lxm.out; have := Mxm.out; have := Zxm.out; have := Zt7.out; have := Lg.out; have := Zvg.out; have := Zt9.out; have := Zt10.out; have := Zt11.out; have := Zt12.out; have := (Pxm.out q hq).1; omega)
  have B3_t13 : Hid (Below vw.heap.size vw t13) := bkept B3_t12.out kp (fun q hq => by have := ZU.out; have := Zs1.out; have := Zs2.out; have := Zt3.out; have := Zt4.out; have := Lw.out; have := Zvw.out; have := Lxm.out; have := Mxm.out; have := Zxm.out; have := Zt7.out; have := Lg.out; have := Zvg.out; have := Zt9.out; have := Zt10.out; have := Zt11.out; have := Zt12.out; have := (Pxm.out q hq).1; omega)
  have Oxc : Hid (KC.Ow t13 _ yca3 ycb3 c Xc) := Oxc.out.keep kp.size (fun q hq => kp.block q (Oxc.out.of hq).2 (fun e => by have := ZU.out; have := Zs1.out; have := Zs2.out; have := Zt3.out; have := Zt4.out; have := Lw.out; have := Zvw.out; have := Lxm.out; have := Mxm.out; have := Zxm.out; have := Zt7.out; have := Lg.out; have := Zvg.out; have := Zt9.out; have := Zt10.out; have := Zt11.out; have := Zt12.out; have := (Pxm.out q e).2; have := (Pxc.out q hq).1; omega))
  have Og : Hid (KM.Ow t13 t7.heap.size ng0 ng1 ng2 ng3 ng4 ng5 N Pg) := Og.out.keep kp.size (fun q hq => kp.block q (Og.out.of hq).2 (fun e => by have := ZU.out; have := Zs1.out; have := Zs2.out; have := Zt3.out; have := Zt4.out; have := Lw.out; have := Zvw.out; have := Lxm.out; have := Mxm.out; have := Zxm.out; have := Zt7.out; have := Lg.out; have := Zvg.out; have := Zt9.out; have := Zt10.out; have := Zt11.out; have := Zt12.out; have := (Pxm.out q e).2; have := (Og.out.of hq).1; omega))
  have Fg : Hid (Bx t13 t8.heap.size [.bool N.alive, .slice ng0 N.copies.length ng1, .slice ng2 N.log.length ng3, .slice ng4 N.cleared.length ng5]) := Fg.out.of_block (kp.block _ Fg.out.2.2 (fun e => by have := ZU.out; have := Zs1.out; have := Zs2.out; have := Zt3.out; have := Zt4.out; have := Lw.out; have := Zvw.out; have := Lxm.out; have := Mxm.out; have := Zxm.out; have := Zt7.out; have := Lg.out; have := Zvg.out; have := Zt9.out; have := Zt10.out; have := Zt11.out; have := Zt12.out; have := (Pxm.out _ e).2; omega)) kp.size
  have Zt13 : Hid (t12.heap.size ≤ t13.heap.size) := kp.size
  clear kp
  have hmk := KC.mark t13 _ yca3 ycb3 c Xc E0 (by have := k1.out; omega) (by have := k1.out; omega) tc.out Oxc.out
  obtain ⟨E1, hE1⟩ : ∃ z, z = (E0 + 2 * (c.length : Int)) := ⟨_, rfl⟩
  rw [← hE1] at hmk
  have k2 : Hid ((0 : Int) ≤ E1 ∧ E1 ≤ 600000000) := by
    rw [hE1]
    have := k1.out
    have e1 := tc.out
    refine ⟨by omega, ?_⟩
    omega
  clear hE1
  have dE : decide (E1 < 0) = false := by have := k2.out; simp; omega
  go_wp2_with fail
  refine hmk.mono ?_
  clear hmk
  rintro e t14 ⟨rfl, kp, -⟩
  have B0_t14 : Hid (Below U0.heap.size U0 t14) := bkept B0_t13.out kp (fun q hq => by have := ZU.out; have := Zs1.out; have := Zs2.out; have := Zt3.out; have := Zt4.out; have := Lw.out; have := Zvw.out; have := Lxm.out; have := Mxm.out; have := Zxm.out; have := Zt7.out; have := Lg.out; have := Zvg.out; have := Zt9.out; have := Zt10.out; have := Zt11.out; have := Zt12.out; have := Zt13.out; have := (Pxc.out q hq).1; omega)
  have B3_t14 : Hid (Below vw.heap.size vw t14) := bkept B3_t13.out kp (fun q hq => by have := ZU.out; have := Zs1.out; have := Zs2.out; have := Zt3.out; have := Zt4.out; have := Lw.out; have := Zvw.out; have := Lxm.out; have := Mxm.out; have := Zxm.out; have := Zt7.out; have := Lg.out; have := Zvg.out; have := Zt9.out; have := Zt10.out; have := Zt11.out; have := Zt12.out; have := Zt13.out; have := (Pxc.out q hq).1; omega)
  have Og : Hid (KM.Ow t14 t7.heap.size ng0 ng1 ng2 ng3 ng4 ng5 N Pg) := Og.out.keep kp.size (fun q hq => kp.block q (Og.out.of hq).2 (fun e => by have := ZU.out; have := Zs1.out; have := Zs2.out; have := Zt3.out; have := Zt4.out; have := Lw.out; have := Zvw.out; have := Lxm.out; have := Mxm.out; have := Zxm.out; have := Zt7.out; have := Lg.out; have := Zvg.out; have := Zt9.out; have := Zt10.out; have := Zt11.out; have := Zt12.out; have := Zt13.out; have := (Pxc.out q e).2; have := (Og.out.of hq).1; omega))
  have Fg : Hid (Bx t14 t8.heap.size [.bool N.alive, .slice ng0 N.copies.length ng1, .slice ng2 N.log.length ng3, .slice ng4 N.cleared.length ng5]) := Fg.out.of_block (kp.block _ Fg.out.2.2 (fun e => by have := ZU.out; have := Zs1.out; have := Zs2.out; have := Zt3.out; have := Zt4.out; have := Lw.out; have := Zvw.out; have := Lxm.out; have := Mxm.out; have := Zxm.out; have := Zt7.out; have := Lg.out; have := Zvg.out; have := Zt9.out; have := Zt10.out; have := Zt11.out; have := Zt12.out; have := Zt13.out; have := (Pxc.out _ e).2; omega)) kp.size
  have Zt14 : Hid (t13.heap.size ≤ t14.heap.size) := kp.size
  clear kp
  have B9_t14 : Hid (Below t14.heap.size t14 t14) := Below.refl _ _
  have hbx := (Fg.out.later B9_t14.out)
  have g0 := hbx.1 0 _ rfl
  have g1 := hbx.1 1 _ rfl
  have g2 := hbx.1 2 _ rfl
  have g3 := hbx.1 3 _ rfl
  clear hbx
  have hbx := (Fw.out.later B3_t14.out)
  have y0 := hbx.1 0 _ rfl
  have y1 := hbx.1 1 _ rfl
  have y2 := hbx.1 2 _ rfl
  have y3 := hbx.1 3 _ rfl
  clear hbx
  go_wp2_with fail
  refine (KM.eq t14 ng0 ng1 ng2 ng3 ng4 ng5 nw0 nw1 nw2 nw3 nw4 nw5 N tN.out (Og.out.sl.later B9_t14.out) (Ow.out.sl.later B3_t14.out)).mono ?_
  rintro e t15 ⟨rfl, bt15⟩
  clear g0 g1 g2 g3 y0 y1 y2 y3
  have B0_t15 : Hid (Below U0.heap.size U0 t15) := bstep B0_t14.out bt15
  have B3_t15 : Hid (Below vw.heap.size vw t15) := bstep B3_t14.out bt15
  have B9_t15 : Hid (Below t14.heap.size t14 t15) := bstep B9_t14.out bt15
  have Zt15 : Hid (t14.heap.size ≤ t15.heap.size) := bt15.size
  clear B0_t14 B3_t14 B9_t14 bt15
  have hmk := KM.mark t15 t7.heap.size ng0 ng1 ng2 ng3 ng4 ng5 N Pg 1 (by omega) (by omega) tN.out (Og.out.later B9_t15.out)
  have HH : Hid (∀ X, SlM X ⟨ng0, ng1, ng2, ng3, ng4, ng5⟩ (mkM N 1) → Calls Tryz.prog 35 #[.agg #[.bool N.alive, .slice ng0 N.copies.length ng1, .slice ng2 N.log.length ng3, .slice ng4 N.cleared.length ng5], .int .i64 1] X fun e w' => e = .returned (.int .i64 (endM N 1)) ∧ Below X.heap.size X w') := fun X hX => KM.held X ng0 ng1 ng2 ng3 ng4 ng5 N 1 (by omega) (by omega) tN.out hX
  obtain ⟨G, hG⟩ : ∃ z, z = (endM N 1) := ⟨_, rfl⟩
  rw [← hG] at hmk HH
  have dG : decide (G < 0) = false := by
    rw [hG]
    have e1 := endM_big N 1
    simp
    omega
  have dH : (G != G) = false := by simp
  clear hG
  have hbx := (Fg.out.later B9_t15.out)
  have g0 := hbx.1 0 _ rfl
  have g1 := hbx.1 1 _ rfl
  have g2 := hbx.1 2 _ rfl
  have g3 := hbx.1 3 _ rfl
  clear hbx
  go_wp2_with fail
  refine hmk.mono ?_
  clear hmk g0 g1 g2 g3
  rintro e t16 ⟨rfl, kp, om⟩
  have B0_t16 : Hid (Below U0.heap.size U0 t16) := bkept B0_t15.out kp (fun q hq => by have := ZU.out; have := Zs1.out; have := Zs2.out; have := Zt3.out; have := Zt4.out; have := Lw.out; have := Zvw.out; have := Lxm.out; have := Mxm.out; have := Zxm.out; have := Zt7.out; have := Lg.out; have := Zvg.out; have := Zt9.out; have := Zt10.out; have := Zt11.out; have := Zt12.out; have := Zt13.out; have := Zt14.out; have := Zt15.out; have := (Og.out.of hq).1; omega)
  have B3_t16 : Hid (Below vw.heap.size vw t16) := bkept B3_t15.out kp (fun q hq => by have := ZU.out; have := Zs1.out; have := Zs2.out; have := Zt3.out; have := Zt4.out; have := Lw.out; have := Zvw.out; have := Lxm.out; have := Mxm.out; have := Zxm.out; have := Zt7.out; have := Lg.out; have := Zvg.out; have := Zt9.out; have := Zt10.out; have := Zt11.out; have := Zt12.out; have := Zt13.out; have := Zt14.out; have := Zt15.out; have := (Og.out.of hq).1; omega)
  have Fg : Hid (Bx t16 t8.heap.size [.bool N.alive, .slice ng0 N.copies.length ng1, .slice ng2 N.log.length ng3, .slice ng4 N.cleared.length ng5]) := (Fg.out.later B9_t15.out).of_block (kp.block _ (Fg.out.later B9_t15.out).2.2 (fun e => NEg.out _ e rfl)) kp.size
  have Om := hidOf om
  have Zt16 : Hid (t15.heap.size ≤ t16.heap.size) := kp.size
  clear kp om B9_t15
  have B10_t16 : Hid (Below t16.heap.size t16 t16) := Below.refl _ _
  have hbx := (Fg.out.later B10_t16.out)
  have g0 := hbx.1 0 _ rfl
  have g1 := hbx.1 1 _ rfl
  have g2 := hbx.1 2 _ rfl
  have g3 := hbx.1 3 _ rfl
  clear hbx
  go_wp2_with fail
  refine (HH.out t16 (Om.out.later B10_t16.out)).mono ?_
  rintro e t17 ⟨rfl, bt17⟩
  clear g0 g1 g2 g3
  have B0_t17 : Hid (Below U0.heap.size U0 t17) := bstep B0_t16.out bt17
  have B3_t17 : Hid (Below vw.heap.size vw t17) := bstep B3_t16.out bt17
  have B10_t17 : Hid (Below t16.heap.size t16 t17) := bstep B10_t16.out bt17
  have Zt17 : Hid (t16.heap.size ≤ t17.heap.size) := bt17.size
  clear B0_t16 B3_t16 B10_t16 bt17
  have hbx := (Fm.out.later B0_t17.out)
  have p0 := hbx.1 0 _ rfl
  have p1 := hbx.1 1 _ rfl
  have p2 := hbx.1 2 _ rfl
  have p3 := hbx.1 3 _ rfl
  clear hbx
  go_wp2_with fail
  refine (KM.to t17 yma ymb ymc ymd yme ymf m tm.out (Rm.out.later B0_t17.out)).mono ?_
  rintro e t18 ⟨yma2, ymb2, ymc2, ymd2, yme2, ymf2, _, rfl, oT, bt18⟩
  have rbm := hidOf oT.sl
  clear oT p0 p1 p2 p3
  have B0_t18 : Hid (Below U0.heap.size U0 t18) := bstep B0_t17.out bt18
  have B3_t18 : Hid (Below vw.heap.size vw t18) := bstep B3_t17.out bt18
  have B10_t18 : Hid (Below t16.heap.size t16 t18) := bstep B10_t17.out bt18
  have Zt18 : Hid (t17.heap.size ≤ t18.heap.size) := bt18.size
  clear B0_t17 B3_t17 B10_t17 bt18
  go_wp2_with fail
  refine (KC.to t18 yca ycb c tc.out (Rc.out.later B0_t18.out)).mono ?_
  rintro e t19 ⟨yca2, ycb2, _, rfl, oT, bt19⟩
  have rbm : Hid _ := rbm.out.later bt19
  have rbc := hidOf oT.sl
  clear oT
  have B0_t19 : Hid (Below U0.heap.size U0 t19) := bstep B0_t18.out bt19
  have B3_t19 : Hid (Below vw.heap.size vw t19) := bstep B3_t18.out bt19
  have B10_t19 : Hid (Below t16.heap.size t16 t19) := bstep B10_t18.out bt19
  have Zt19 : Hid (t18.heap.size ≤ t19.heap.size) := bt19.size
  clear B0_t18 B3_t18 B10_t18 bt19
  go_wp2_with fail
  refine (A2.out t19 yma2 ymb2 ymc2 ymd2 yme2 ymf2 yca2 ycb2 rbm.out rbc.out).mono ?_
  rintro e t20 ⟨nh0, nh1, nh2, nh3, nh4, nh5, Ph, rfl, oh, bt20⟩
  clear rbm rbc
  obtain ⟨vh, hvh⟩ : ∃ X, X = t20.alloc (.cells #[.bool N.alive, .slice nh0 N.copies.length nh1, .slice nh2 N.log.length nh3, .slice nh4 N.cleared.length nh5] 28) := ⟨_, rfl⟩
  have bvh : Below t20.heap.size t20 vh := by rw [hvh]; exact (Below.refl _ _).alloc (Nat.le_refl _) _
  have Fh : Hid (Bx vh t20.heap.size [.bool N.alive, .slice nh0 N.copies.length nh1, .slice nh2 N.log.length nh3, .slice nh4 N.cleared.length nh5]) := by rw [hvh]; exact Bx.made t20 [.bool N.alive, .slice nh0 N.copies.length nh1, .slice nh2 N.log.length nh3, .slice nh4 N.cleared.length nh5] _
  have Oh : Hid (KM.Ow vh t19.heap.size nh0 nh1 nh2 nh3 nh4 nh5 N Ph) := oh.later bvh
  have NEh : Hid (∀ x, Ph x → x ≠ t20.heap.size) := fun x hx => by have := (oh.of hx).2; omega
  obtain ⟨qh, hqh⟩ : ∃ q, q = t20.heap.size := ⟨_, rfl⟩
  have bb : Below t19.heap.size t19 vh := bstep bt20 bvh
  have Lh : Hid (t19.heap.size ≤ t20.heap.size) := bt20.size
  clear oh bt20 bvh hqh qh
  have B0_vh : Hid (Below U0.heap.size U0 vh) := bstep B0_t19.out bb
  have B3_vh : Hid (Below vw.heap.size vw vh) := bstep B3_t19.out bb
  have B10_vh : Hid (Below t16.heap.size t16 vh) := bstep B10_t19.out bb
  have Zvh : Hid (t19.heap.size ≤ vh.heap.size) := bb.size
  clear B0_t19 B3_t19 B10_t19 bb
  have B11_vh : Hid (Below vh.heap.size vh vh) := Below.refl _ _
  have hbx := (Fh.out.later B11_vh.out)
  have g0 := hbx.1 0 _ rfl
  have g1 := hbx.1 1 _ rfl
  have g2 := hbx.1 2 _ rfl
  have g3 := hbx.1 3 _ rfl
  clear hbx
  have hbx := (Fw.out.later B3_vh.out)
  have y0 := hbx.1 0 _ rfl
  have y1 := hbx.1 1 _ rfl
  have y2 := hbx.1 2 _ rfl
  have y3 := hbx.1 3 _ rfl
  clear hbx
  rw [hvh] at g0 g1 g2 g3 y0 y1 y2 y3
  go_wp2_with fail
  rw [← hvh]
  clear hvh
  refine (KM.eq vh nh0 nh1 nh2 nh3 nh4 nh5 nw0 nw1 nw2 nw3 nw4 nw5 N tN.out (Oh.out.sl.later B11_vh.out) (Ow.out.sl.later B3_vh.out)).mono ?_
  rintro e t21 ⟨rfl, bt21⟩
  clear g0 g1 g2 g3 y0 y1 y2 y3
  have B0_t21 : Hid (Below U0.heap.size U0 t21) := bstep B0_vh.out bt21
  have B3_t21 : Hid (Below vw.heap.size vw t21) := bstep B3_vh.out bt21
  have B10_t21 : Hid (Below t16.heap.size t16 t21) := bstep B10_vh.out bt21
  have B11_t21 : Hid (Below vh.heap.size vh t21) := bstep B11_vh.out bt21
  have Zt21 : Hid (vh.heap.size ≤ t21.heap.size) := bt21.size
  clear B0_vh B3_vh B10_vh B11_vh bt21
  have hbx := (Fg.out.later B10_t21.out)
  have g0 := hbx.1 0 _ rfl
  have g1 := hbx.1 1 _ rfl
  have g2 := hbx.1 2 _ rfl
  have g3 := hbx.1 3 _ rfl
  clear hbx
  go_wp2_with fail
  refine (HH.out t21 (Om.out.later B10_t21.out)).mono ?_
  rintro e t22 ⟨rfl, bt22⟩
  clear g0 g1 g2 g3
  have B0_t22 : Hid (Below U0.heap.size U0 t22) := bstep B0_t21.out bt22
  have B3_t22 : Hid (Below vw.heap.size vw t22) := bstep B3_t21.out bt22
  have B10_t22 : Hid (Below t16.heap.size t16 t22) := bstep B10_t21.out bt22
  have B11_t22 : Hid (Below vh.heap.size vh t22) := bstep B11_t21.out bt22
  have Zt22 : Hid (t21.heap.size ≤ t22.heap.size) := bt22.size
  clear B0_t21 B3_t21 B10_t21 B11_t21 bt22
  go_wp2
  go_ret
  exact ⟨rfl, bstep Bw.out B0_t22.out⟩
set_option maxHeartbeats 2000000 in
theorem walk_great0 (w : World) (yma : Option Addr) (ymb : Nat) (ymc : Option Addr) (ymd : Nat) (yme : Option Addr) (ymf : Nat) (yca : Option Addr) (ycb : Nat) (m : M4) (y : Int) (c : List C2) (lm : ML m) (_ : KC.L c) (hm : SlM w ⟨yma, ymb, ymc, ymd, yme, ymf⟩ m) (hc : KC.Rd w yca ycb c) (hg : ¬ szM m ≤ 1048576) :
    Calls Tryz.prog 5 #[.agg #[.bool m.alive, .slice yma m.copies.length ymb, .slice ymc m.log.length ymd, .slice yme m.cleared.length ymf], .int .i64 y, .slice yca c.length ycb] w fun e w' => e = .returned (.bool true) ∧ Below w.heap.size w w' := by
  obtain ⟨U0, hU0⟩ : ∃ X, X = w.alloc (.cells #[.bool m.alive, .slice yma m.copies.length ymb, .slice ymc m.log.length ymd, .slice yme m.cleared.length ymf] 57) := ⟨_, rfl⟩
  have bU0 : Below w.heap.size w U0 := by rw [hU0]; exact (Below.refl _ _).alloc (Nat.le_refl _) _
  have xU0 : Bx U0 w.heap.size [.bool m.alive, .slice yma m.copies.length ymb, .slice ymc m.log.length ymd, .slice yme m.cleared.length ymf] := by rw [hU0]; exact Bx.made w [.bool m.alive, .slice yma m.copies.length ymb, .slice ymc m.log.length ymd, .slice yme m.cleared.length ymf] _
  have zU0 : U0.heap.size = w.heap.size + 1 := by rw [hU0]; simp
  have Fm : Hid (Bx U0 w.heap.size [.bool m.alive, .slice yma m.copies.length ymb, .slice ymc m.log.length ymd, .slice yme m.cleared.length ymf]) := xU0
  have Rm : Hid (SlM U0 ⟨yma, ymb, ymc, ymd, yme, ymf⟩ m) := (hm).later bU0
  have Rc : Hid (KC.Rd U0 yca ycb c) := (hc).later bU0
  have Bw : Hid (Below w.heap.size w U0) := bU0
  have ZU : Hid (U0.heap.size = w.heap.size + 1) := by unfold Hid; omega
  clear bU0 xU0 zU0 hm hc
  have B0_U0 : Hid (Below U0.heap.size U0 U0) := Below.refl _ _
  go_enter Tryz.func5, Tryz.ntmps5
  have hbx := (Fm.out.later B0_U0.out)
  have p0 := hbx.1 0 _ rfl
  have p1 := hbx.1 1 _ rfl
  have p2 := hbx.1 2 _ rfl
  have p3 := hbx.1 3 _ rfl
  clear hbx
  rw [hU0] at p0 p1 p2 p3
  go_wp2_with fail
  rw [← hU0]
  clear hU0
  refine (KM.sz U0 yma ymb ymc ymd yme ymf m lm (Rm.out.later B0_U0.out)).mono ?_
  rw [leftR_no (by omega)]
  rintro e s1 ⟨rfl, bs1⟩
  clear p0 p1 p2 p3
  have B0_s1 : Hid (Below U0.heap.size U0 s1) := bstep B0_U0.out bs1
  have Zs1 : Hid (U0.heap.size ≤ s1.heap.size) := bs1.size
  clear B0_U0 bs1
  go_wp2
  go_ret
  exact ⟨rfl, bstep Bw.out B0_s1.out⟩
set_option maxHeartbeats 2000000 in
theorem walk_great1 (w : World) (yma : Option Addr) (ymb : Nat) (ymc : Option Addr) (ymd : Nat) (yme : Option Addr) (ymf : Nat) (yca : Option Addr) (ycb : Nat) (m : M4) (y : Int) (c : List C2) (lm : ML m) (lc : KC.L c) (hm : SlM w ⟨yma, ymb, ymc, ymd, yme, ymf⟩ m) (hc : KC.Rd w yca ycb c) (hp : szM m ≤ 1048576) (hg : ¬ szM m + c.length ≤ 1048576) :
    Calls Tryz.prog 5 #[.agg #[.bool m.alive, .slice yma m.copies.length ymb, .slice ymc m.log.length ymd, .slice yme m.cleared.length ymf], .int .i64 y, .slice yca c.length ycb] w fun e w' => e = .returned (.bool true) ∧ Below w.heap.size w w' := by
  obtain ⟨U0, hU0⟩ : ∃ X, X = w.alloc (.cells #[.bool m.alive, .slice yma m.copies.length ymb, .slice ymc m.log.length ymd, .slice yme m.cleared.length ymf] 57) := ⟨_, rfl⟩
  have bU0 : Below w.heap.size w U0 := by rw [hU0]; exact (Below.refl _ _).alloc (Nat.le_refl _) _
  have xU0 : Bx U0 w.heap.size [.bool m.alive, .slice yma m.copies.length ymb, .slice ymc m.log.length ymd, .slice yme m.cleared.length ymf] := by rw [hU0]; exact Bx.made w [.bool m.alive, .slice yma m.copies.length ymb, .slice ymc m.log.length ymd, .slice yme m.cleared.length ymf] _
  have zU0 : U0.heap.size = w.heap.size + 1 := by rw [hU0]; simp
  have Fm : Hid (Bx U0 w.heap.size [.bool m.alive, .slice yma m.copies.length ymb, .slice ymc m.log.length ymd, .slice yme m.cleared.length ymf]) := xU0
  have Rm : Hid (SlM U0 ⟨yma, ymb, ymc, ymd, yme, ymf⟩ m) := (hm).later bU0
  have Rc : Hid (KC.Rd U0 yca ycb c) := (hc).later bU0
  have Bw : Hid (Below w.heap.size w U0) := bU0
  have ZU : Hid (U0.heap.size = w.heap.size + 1) := by unfold Hid; omega
  clear bU0 xU0 zU0 hm hc
  have B0_U0 : Hid (Below U0.heap.size U0 U0) := Below.refl _ _
  go_enter Tryz.func5, Tryz.ntmps5
  have hbx := (Fm.out.later B0_U0.out)
  have p0 := hbx.1 0 _ rfl
  have p1 := hbx.1 1 _ rfl
  have p2 := hbx.1 2 _ rfl
  have p3 := hbx.1 3 _ rfl
  clear hbx
  rw [hU0] at p0 p1 p2 p3
  go_wp2_with fail
  rw [← hU0]
  clear hU0
  refine (KM.sz U0 yma ymb ymc ymd yme ymf m lm (Rm.out.later B0_U0.out)).mono ?_
  rw [leftR_yes (by omega)]
  rintro e s1 ⟨rfl, bs1⟩
  clear p0 p1 p2 p3
  have B0_s1 : Hid (Below U0.heap.size U0 s1) := bstep B0_U0.out bs1
  have Zs1 : Hid (U0.heap.size ≤ s1.heap.size) := bs1.size
  clear B0_U0 bs1
  have g0 : decide ((((1048576 - szM m) : Nat) : Int) < 0) = false := by simp
  go_wp2_with fail
  refine (KC.szl s1 yca ycb c (1048576 - szM m) (by omega) lc).mono ?_
  rw [leftR_no (by omega)]
  rintro e s2 ⟨rfl, bs2⟩
  have B0_s2 : Hid (Below U0.heap.size U0 s2) := bstep B0_s1.out bs2
  have Zs2 : Hid (s1.heap.size ≤ s2.heap.size) := bs2.size
  clear B0_s1 bs2
  go_wp2
  go_ret
  exact ⟨rfl, bstep Bw.out B0_s2.out⟩
theorem walk (w : World) (yma : Option Addr) (ymb : Nat) (ymc : Option Addr) (ymd : Nat) (yme : Option Addr) (ymf : Nat) (yca : Option Addr) (ycb : Nat) (m : M4) (y : Int) (c : List C2) (lm : ML m) (lc : KC.L c) (hm : SlM w ⟨yma, ymb, ymc, ymd, yme, ymf⟩ m) (hc : KC.Rd w yca ycb c) :
    Calls Tryz.prog 5 #[.agg #[.bool m.alive, .slice yma m.copies.length ymb, .slice ymc m.log.length ymd, .slice yme m.cleared.length ymf], .int .i64 y, .slice yca c.length ycb] w fun e w' => e = .returned (.bool true) ∧ Below w.heap.size w w' := by
  by_cases g0 : szM m ≤ 1048576
  case neg => exact walk_great0 w yma ymb ymc ymd yme ymf yca ycb m y c lm lc hm hc g0
  by_cases g1 : szM m + c.length ≤ 1048576
  case neg => exact walk_great1 w yma ymb ymc ymd yme ymf yca ycb m y c lm lc hm hc g0 g1
  exact walk_small w yma ymb ymc ymd yme ymf yca ycb m y c lm lc hm hc g1
set_option maxRecDepth 100000 in
theorem lifted (os : Os) (started : os.Started) (H : Type) (enc : TypeId × Value → H) :
    ReturnsInHanded {} Tryz.checked os 5 .any (Rows.fnExactReplaceSpec.pre6 enc Tryz.prog Tryz.f5 Rows.fnExactReplaceRow.domain false) (Rows.fnExactReplaceSpec.post enc Tryz.prog Tryz.f5 false true false false) := by
  refine returnsInHanded_of_change (C := Tryz.checked) own started (by kernel_rfl) Tryz.func5
    (ChangeSpec.witness6 (enc := enc) (C := Tryz.checked) false ⟨#[], #[.agg #[.bool false, .slice none 0 0, .slice none 0 0, .slice none 0 0], .int .i64 0, .slice none 0 0], []⟩ 8 (by kernel_rfl) (by kernel_rfl) (by kernel_rfl) (by kernel_rfl)) ?_
  intro W base args ds gs before hval0 hW hcnd _
  have hval : ∀ (j : Nat) t v, Tryz.f5.params[j]? = some t → args[j]? = some v → Value.okWide Tryz.prog W .any base t v := hval0
  have hW' := hW
  obtain ⟨p, q, hA0, hV, rfl, hfz, hnd⟩ := hW
  have hA : DataW.TrodAll enc Tryz.prog W 0 (fun _ => true) true Tryz.f5.params.toList args.toList ds p := hA0
  rw [Tryz.params5] at hA hval
  obtain ⟨v0, vs0, d0, ds0, p0, q0, hargs, rfl, rfl, h0, r0⟩ := trodAll_cons hA
  obtain ⟨v1, vs1, d1, ds1, p1, q1, rfl, rfl, rfl, h1, r1⟩ := trodAll_cons r0
  obtain ⟨v2, vs2, d2, ds2, p2, q2, rfl, rfl, rfl, h2, r2⟩ := trodAll_cons r1
  obtain ⟨rfl, rfl, rfl⟩ := trodAll_nil r2
  obtain rfl : args = #[v0, v1, v2] := by cases args; simp_all
  obtain ⟨rfl, rfl⟩ := trodVars_none hV
  obtain ⟨cs0, rfl, hcs0⟩ := okWide_struct Tryz.underlying57 (hval 0 57 v0 rfl rfl)
  have k0 := h0
  have lt0 : ∀ x ∈ p0, x.block < W.heap.size := by obtain ⟨n, hn⟩ := k0; exact DataW.trod_lt n _ _ _ hn
  obtain ⟨⟨yma, ymb, ymc, ymd, yme, ymf⟩, m, rfl, hm, lm⟩ : ∃ (u : MV) (m : M4), cs0 = #[.bool m.alive, .slice u.ac m.copies.length u.cc, .slice u.al m.log.length u.cl, .slice u.ad m.cleared.length u.cd] ∧ SlM W u m ∧ ML m := by
    obtain ⟨fuel, hf⟩ := h0
    obtain ⟨u, m, e, hs, l1, l2, l3, k1, k2, _⟩ := om.open_machine hf
    exact ⟨u, m, by cases cs0; simpa [Value.cells] using e, hs, ⟨l1, k1, l2, k2, l3⟩⟩
  obtain ⟨y, rfl, rfl, rfl, w1⟩ := open_int Tryz.underlying2 (hval 1 2 v1 rfl rfl) h1
  obtain ⟨yca, n2, ycb, rfl⟩ := okWide_slice Tryz.underlying58 (hval 2 58 v2 rfl rfl)
  have k2 := h2
  have lt2 : ∀ x ∈ p2, x.block < W.heap.size := by obtain ⟨m, hm⟩ := k2; exact DataW.trod_lt m _ _ _ hm
  obtain ⟨c, rfl, lc, hc⟩ : ∃ (xs : List C2), n2 = xs.length ∧ KC.L xs ∧ KC.Rd W yca ycb xs := by
    obtain ⟨fuel, hf⟩ := h2
    obtain ⟨a', n', cap', xs, e, hm, _, hs⟩ := om.open_cells hf
    simp [Value.cells] at e
    obtain ⟨rfl, rfl, rfl⟩ := e
    obtain ⟨hl, hs'⟩ := hs
    subst hl
    exact ⟨xs, rfl, hm, rfl, hs'⟩
  clear hA0 hval0
  refine (walk W yma ymb ymc ymd yme ymf yca ycb m y c lm lc hm hc).mono fun e W' ⟨he, bel⟩ => ?_
  subst he
  exact ⟨_, rfl, _, _, _, [], _, [], hW', trodAll_mk1 (shut_bool Tryz.underlying4 _), (trodAll_cons_mk (Below.trod laidOut (by kernel_rfl) (of_decide_eq_true (by kernel_rfl)) k0 bel lt0) (trodAll_cons_mk (shut_int Tryz.underlying2 w1) (trodAll_cons_mk (Below.trod laidOut (by kernel_rfl) (of_decide_eq_true (by kernel_rfl)) k2 bel lt2) trodAll_mk0))), rfl, bel.frame _, fun h => by cases h⟩
theorem over : Rows.fnExactReplaceRow.holds Tryz.pinned (OpenSpec.ofChange Rows.fnExactReplaceSpec) :=
  OpenClaim.holds_of_wide 5 Tryz.f5 rfl rfl rfl rfl rfl rfl rfl ⟨rfl, rfl, rfl, rfl, rfl⟩ rfl rfl rfl rfl rfl (by kernel_rfl) Tryz.func5 (by kernel_rfl)
    (of_decide_eq_true (by kernel_rfl)) (by unfold Func.isWrapper; first | (rw [if_pos (by decide +kernel)]; kernel_rfl) | (rw [if_neg (by decide +kernel)]; exact ⟨rfl, rfl⟩))
    (fun os started H enc _ => lifted os started H enc)
end Go.Proofs.YtbkcmbbeknljiaaGreat.fnExactReplace
namespace Go.Proofs.YtbkcmbbeknljiaaGreat
theorem fnExactReplace_holds : Rows.FnExactReplaceSaid := fnExactReplace.over
#print axioms fnExactReplace_holds
end Go.Proofs.YtbkcmbbeknljiaaGreat
