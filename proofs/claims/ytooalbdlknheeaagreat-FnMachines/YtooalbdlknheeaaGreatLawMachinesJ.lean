/- FnMachines: Replace and Append answer machines that hold what was put into them, and as the specification does, at every code: no condition. -/
import Derived.Test.YtooalbdlknheeaaGreatRows
import Derived.Test.YtooalbdlknheeaaGreatDrwPJ
import Derived.Test.YtooalbdlknheeaaGreatJ39LawMachines
import Derived.Test.YtooalbdlknheeaaGreatJ47LawMachines
import Derived.Test.YtooalbdlknheeaaGreatRepSJ
import Derived.Test.YtooalbdlknheeaaGreatAppIJ
import Derived.Test.YtooalbdlknheeaaGreatAppSJ
import Derived.Test.YtooalbdlknheeaaGreatJ52LawMachines
import Derived.Test.YtooalbdlknheeaaGreatLogIJ
import Derived.Test.YtooalbdlknheeaaGreatMacOkIJ
import Derived.Test.YtooalbdlknheeaaGreatJ21LawMachines
import Derived.WalkKit
import Derived.ProofKit
import Derived.OpenShut
import Derived.WalkSpells
import Derived.WalkLawsBesides
import Derived.Deep.RegionWith
import Derived.Deep.CutRange
namespace Go.Proofs.YtooalbdlknheeaaGreat.fnMachines
open Go.ChangeShapes Go.WideShapes Go.ChangeAt Go.RowKit
open Go.Sort (grow)
theorem own : ownKnob Tryz.prog.godebug = none := by kernel_rfl
theorem laidOut : laidOutB Tryz.prog = true := by kernel_rfl
set_option maxRecDepth 100000 in
set_option maxHeartbeats 16000000 in
theorem walk (a : Option Addr) (n k : Nat) (w : World) (hb : Bytes w w.heap.size a n) :
    Calls Tryz.prog 3 #[.slice a n k] w fun e w' => e = .returned (.bool true) ∧ Below w.heap.size w w' := by
  have hmm := hb.1
  unfold maxLen at hmm
  by_cases hn : n ≤ 4096
  · have HB : Hid (Bytes w w.heap.size a n) := hb
    clear hb
    go_enter Tryz.func3, Tryz.ntmps3
    go_wp2_with (go_at_call 10; go_in)
    refine (DrawReplace_any w a n k HB.out hn).mono ?_
    rintro e w1 ⟨⟨ma, mb, mc, md, me, mf⟩, m, r, p, cm, cap, cs, rfl, sm, lm, cm6, sc, b1⟩
    obtain rfl : cs.length = cm := sc.1
    have cmx : cs.length ≤ maxLen := by unfold maxLen; omega
    simp only [MV.val]
    have A1 : Hid (∀ (X : World), SlM X ⟨ma, mb, mc, md, me, mf⟩ m → SlC X X.heap.size p cs.length cs → Calls Tryz.prog 12 #[.agg #[.bool m.alive, .slice ma m.copies.length mb, .slice mc m.log.length md, .slice me m.cleared.length mf], .int .i64 r, .slice p cs.length cap] X (MAnsB X (repM m r cs) (repB m r cs))) := fun X h h' => by
      have hh := implReplace_any X ⟨ma, mb, mc, md, me, mf⟩ m r p cap cs lm h cmx h'
      simp only [MV.val] at hh
      exact hh
    have A2 : Hid (∀ (X : World), SlM X ⟨ma, mb, mc, md, me, mf⟩ m → SlC X X.heap.size p cs.length cs → Calls Tryz.prog 13 #[.agg #[.bool m.alive, .slice ma m.copies.length mb, .slice mc m.log.length md, .slice me m.cleared.length mf], .int .i64 r, .slice p cs.length cap] X (MAnsB X (repM m r cs) (repB m r cs))) := fun X h h' => by
      have hh := specReplace_any X ⟨ma, mb, mc, md, me, mf⟩ m r p cap cs lm h cmx h'
      simp only [MV.val] at hh
      exact hh
    have HN : Hid (ML (repM m r cs) ∧ (repB m r cs = true → machB (repM m r cs) = true ∧ ansL (repM m r cs) r = cs ∧ ansB (repM m r cs) r = true)) := ⟨rep_ml m r cs, fun h => rep_mach h⟩
    obtain ⟨N, hN⟩ : ∃ N, repM m r cs = N := ⟨_, rfl⟩
    obtain ⟨B, hB⟩ : ∃ B, repB m r cs = B := ⟨_, rfl⟩
    simp only [hN, hB] at A1 A2 HN
    clear hN hB
    have BW : Hid (Below w.heap.size w w1) := b1
    have C : Hid (SlC w1 w1.heap.size p cs.length cs) := sc
    clear b1 sc
    obtain ⟨v1, hv1⟩ : ∃ X, X = w1.alloc (.cells #[.bool m.alive, .slice ma m.copies.length mb, .slice mc m.log.length md, .slice me m.cleared.length mf] 28) := ⟨_, rfl⟩
    have bv1 : Below w1.heap.size w1 v1 := by rw [hv1]; exact (Below.refl _ _).alloc (Nat.le_refl _) _
    have Fm : Hid (Bx v1 w1.heap.size [.bool m.alive, .slice ma m.copies.length mb, .slice mc m.log.length md, .slice me m.cleared.length mf]) := by rw [hv1]; exact Bx.made w1 [.bool m.alive, .slice ma m.copies.length mb, .slice mc m.log.length md, .slice me m.cleared.length mf] _
    have Mm : Hid (SlM v1 ⟨ma, mb, mc, md, me, mf⟩ m) := (sm).later bv1
    have BW' : Hid (Below w.heap.size w v1) := BW.out.trans (bv1.mono BW.out.size)
    have C' : Hid (SlC v1 v1.heap.size p cs.length cs) := C.out.later bv1
    clear BW C bv1
    have BW := BW'
    have C := C'
    clear BW' C'
    obtain ⟨qm, hqm⟩ : ∃ q, q = w1.heap.size := ⟨_, rfl⟩
    have Fm : Hid (Bx v1 qm [.bool m.alive, .slice ma m.copies.length mb, .slice mc m.log.length md, .slice me m.cleared.length mf]) := by rw [hqm]; exact Fm.out
    clear sm lm
    have hbx := Fm.out
    have pm0 := hbx.1 0 _ rfl
    have pm1 := hbx.1 1 _ rfl
    have pm2 := hbx.1 2 _ rfl
    have pm3 := hbx.1 3 _ rfl
    clear hbx
    rw [hv1] at pm0 pm1 pm2 pm3
    rw [hqm] at pm0 pm1 pm2 pm3
    go_wp2_with fail
    rw [← hv1, ← hqm]
    clear hv1 hqm pm0 pm1 pm2 pm3
    refine (A1.out v1 Mm.out C.out).mono ?_
    rintro e w2 ⟨xa, xb, xc, xd, xe, xf, PK, PR, PD, rfl, om, -, b2⟩
    have sx := om.sl
    clear om PK PR PD A1
    have BW' : Hid (Below w.heap.size w w2) := BW.out.trans (b2.mono BW.out.size)
    have C' : Hid (SlC w2 w2.heap.size p cs.length cs) := C.out.later b2
    have Fm' : Hid (Bx w2 qm [.bool m.alive, .slice ma m.copies.length mb, .slice mc m.log.length md, .slice me m.cleared.length mf]) := Fm.out.later b2
    have Mm' : Hid (SlM w2 ⟨ma, mb, mc, md, me, mf⟩ m) := Mm.out.later b2
    clear BW C Fm Mm b2
    have BW := BW'
    have C := C'
    have Fm := Fm'
    have Mm := Mm'
    clear BW' C' Fm' Mm'
    obtain ⟨v2, hv2⟩ : ∃ X, X = w2.alloc (.cells #[.bool N.alive, .slice xa N.copies.length xb, .slice xc N.log.length xd, .slice xe N.cleared.length xf] 28) := ⟨_, rfl⟩
    have bv2 : Below w2.heap.size w2 v2 := by rw [hv2]; exact (Below.refl _ _).alloc (Nat.le_refl _) _
    have Fx : Hid (Bx v2 w2.heap.size [.bool N.alive, .slice xa N.copies.length xb, .slice xc N.log.length xd, .slice xe N.cleared.length xf]) := by rw [hv2]; exact Bx.made w2 [.bool N.alive, .slice xa N.copies.length xb, .slice xc N.log.length xd, .slice xe N.cleared.length xf] _
    have Mx : Hid (SlM v2 ⟨xa, xb, xc, xd, xe, xf⟩ N) := (sx).later bv2
    have BW' : Hid (Below w.heap.size w v2) := BW.out.trans (bv2.mono BW.out.size)
    have C' : Hid (SlC v2 v2.heap.size p cs.length cs) := C.out.later bv2
    have Fm' : Hid (Bx v2 qm [.bool m.alive, .slice ma m.copies.length mb, .slice mc m.log.length md, .slice me m.cleared.length mf]) := Fm.out.later bv2
    have Mm' : Hid (SlM v2 ⟨ma, mb, mc, md, me, mf⟩ m) := Mm.out.later bv2
    clear BW C Fm Mm bv2
    have BW := BW'
    have C := C'
    have Fm := Fm'
    have Mm := Mm'
    clear BW' C' Fm' Mm'
    obtain ⟨qx, hqx⟩ : ∃ q, q = w2.heap.size := ⟨_, rfl⟩
    have Fx : Hid (Bx v2 qx [.bool N.alive, .slice xa N.copies.length xb, .slice xc N.log.length xd, .slice xe N.cleared.length xf]) := by rw [hqx]; exact Fx.out
    clear sx
    have hbx := Fm.out
    have pm0 := hbx.1 0 _ rfl
    have pm1 := hbx.1 1 _ rfl
    have pm2 := hbx.1 2 _ rfl
    have pm3 := hbx.1 3 _ rfl
    clear hbx
    rw [hv2] at pm0 pm1 pm2 pm3
    go_wp2_with fail
    rw [← hv2, ← hqx]
    clear hv2 hqx pm0 pm1 pm2 pm3
    refine (A2.out v2 Mm.out C.out).mono ?_
    rintro e w3 ⟨ya, yb, yc, yd, ye, yf, PK, PR, PD, rfl, om, -, b3⟩
    have sy := om.sl
    clear om PK PR PD A2
    clear Fm Mm
    have BW' : Hid (Below w.heap.size w w3) := BW.out.trans (b3.mono BW.out.size)
    have C' : Hid (SlC w3 w3.heap.size p cs.length cs) := C.out.later b3
    have Fx' : Hid (Bx w3 qx [.bool N.alive, .slice xa N.copies.length xb, .slice xc N.log.length xd, .slice xe N.cleared.length xf]) := Fx.out.later b3
    have Mx' : Hid (SlM w3 ⟨xa, xb, xc, xd, xe, xf⟩ N) := Mx.out.later b3
    clear BW C Fx Mx b3
    have BW := BW'
    have C := C'
    have Fx := Fx'
    have Mx := Mx'
    clear BW' C' Fx' Mx'
    obtain ⟨v3, hv3⟩ : ∃ X, X = w3.alloc (.cells #[.bool N.alive, .slice ya N.copies.length yb, .slice yc N.log.length yd, .slice ye N.cleared.length yf] 28) := ⟨_, rfl⟩
    have bv3 : Below w3.heap.size w3 v3 := by rw [hv3]; exact (Below.refl _ _).alloc (Nat.le_refl _) _
    have Fy : Hid (Bx v3 w3.heap.size [.bool N.alive, .slice ya N.copies.length yb, .slice yc N.log.length yd, .slice ye N.cleared.length yf]) := by rw [hv3]; exact Bx.made w3 [.bool N.alive, .slice ya N.copies.length yb, .slice yc N.log.length yd, .slice ye N.cleared.length yf] _
    have My : Hid (SlM v3 ⟨ya, yb, yc, yd, ye, yf⟩ N) := (sy).later bv3
    have BW' : Hid (Below w.heap.size w v3) := BW.out.trans (bv3.mono BW.out.size)
    have C' : Hid (SlC v3 v3.heap.size p cs.length cs) := C.out.later bv3
    have Fx' : Hid (Bx v3 qx [.bool N.alive, .slice xa N.copies.length xb, .slice xc N.log.length xd, .slice xe N.cleared.length xf]) := Fx.out.later bv3
    have Mx' : Hid (SlM v3 ⟨xa, xb, xc, xd, xe, xf⟩ N) := Mx.out.later bv3
    clear BW C Fx Mx bv3
    have BW := BW'
    have C := C'
    have Fx := Fx'
    have Mx := Mx'
    clear BW' C' Fx' Mx'
    obtain ⟨qy, hqy⟩ : ∃ q, q = w3.heap.size := ⟨_, rfl⟩
    have Fy : Hid (Bx v3 qy [.bool N.alive, .slice ya N.copies.length yb, .slice yc N.log.length yd, .slice ye N.cleared.length yf]) := by rw [hqy]; exact Fy.out
    clear sy
    have hbx := Fx.out
    have px0 := hbx.1 0 _ rfl
    have px1 := hbx.1 1 _ rfl
    have px2 := hbx.1 2 _ rfl
    have px3 := hbx.1 3 _ rfl
    clear hbx
    have hbx := Fy.out
    have py0 := hbx.1 0 _ rfl
    have py1 := hbx.1 1 _ rfl
    have py2 := hbx.1 2 _ rfl
    have py3 := hbx.1 3 _ rfl
    clear hbx
    rw [hv3] at px0 px1 px2 px3 py0 py1 py2 py3
    rw [hqy] at py0 py1 py2 py3
    have dB : (B != B) = false := by cases B <;> rfl
    have hlk := likeMachine_any v3 ⟨xa, xb, xc, xd, xe, xf⟩ ⟨ya, yb, yc, yd, ye, yf⟩ N HN.out.1 Mx.out My.out
    simp only [MV.val] at hlk
    have HLK := hidOf hlk
    clear hlk
    go_wp2_with fail
    rw [← hv3]
    clear hv3 hqy px0 px1 px2 px3 py0 py1 py2 py3
    refine HLK.out.mono ?_
    rintro e w4 ⟨rfl, b4⟩
    clear HLK
    clear Fy My
    have BW' : Hid (Below w.heap.size w w4) := BW.out.trans (b4.mono BW.out.size)
    have C' : Hid (SlC w4 w4.heap.size p cs.length cs) := C.out.later b4
    have Fx' : Hid (Bx w4 qx [.bool N.alive, .slice xa N.copies.length xb, .slice xc N.log.length xd, .slice xe N.cleared.length xf]) := Fx.out.later b4
    have Mx' : Hid (SlM w4 ⟨xa, xb, xc, xd, xe, xf⟩ N) := Mx.out.later b4
    clear BW C Fx Mx b4
    have BW := BW'
    have C := C'
    have Fx := Fx'
    have Mx := Mx'
    clear BW' C' Fx' Mx'
    have hbx := Fx.out
    have px0 := hbx.1 0 _ rfl
    have px1 := hbx.1 1 _ rfl
    have px2 := hbx.1 2 _ rfl
    have px3 := hbx.1 3 _ rfl
    clear hbx
    have hB2 : B = false ∨ B = true := by cases B <;> simp
    rcases hB2 with rfl | rfl
    case' inl =>
      clear HN dB Fx Mx C px0 px1 px2 px3 cmx cm6
      go_wp2_with fail
      generalize w4 = W9 at *
    case' inr =>
      obtain ⟨nok, nL, nB⟩ := HN.out.2 rfl
      have hcp := implCopied_any w4 ⟨xa, xb, xc, xd, xe, xf⟩ N r HN.out.1 Mx.out
      unfold CopAns at hcp
      rw [nL, nB] at hcp
      simp only [MV.val] at hcp
      have HCP := hidOf hcp
      have HQ : Hid (machB N = true ∧ ML N) := ⟨nok, HN.out.1⟩
      clear hcp nok nL nB HN dB
      go_wp2_with fail
      refine HCP.out.mono ?_
      rintro e w5 ⟨ga, gc, rfl, og, b5⟩
      have OG : Hid (SlC w5 w5.heap.size ga cs.length cs) := og.sl
      clear og HCP px0 px1 px2 px3
      have BW' : Hid (Below w.heap.size w w5) := BW.out.trans (b5.mono BW.out.size)
      have C' : Hid (SlC w5 w5.heap.size p cs.length cs) := C.out.later b5
      have Fx' : Hid (Bx w5 qx [.bool N.alive, .slice xa N.copies.length xb, .slice xc N.log.length xd, .slice xe N.cleared.length xf]) := Fx.out.later b5
      have Mx' : Hid (SlM w5 ⟨xa, xb, xc, xd, xe, xf⟩ N) := Mx.out.later b5
      clear BW C Fx Mx b5
      have BW := BW'
      have C := C'
      have Fx := Fx'
      have Mx := Mx'
      clear BW' C' Fx' Mx'
      have hbx := Fx.out
      have px0 := hbx.1 0 _ rfl
      have px1 := hbx.1 1 _ rfl
      have px2 := hbx.1 2 _ rfl
      have px3 := hbx.1 3 _ rfl
      clear hbx
      go_wp2_with fail
      refine (likeCells_any w5 ga p cs.length gc cap cs cmx OG.out C.out).mono ?_
      rintro e w6 ⟨rfl, b6⟩
      clear px0 px1 px2 px3 OG
      clear C
      have BW' : Hid (Below w.heap.size w w6) := BW.out.trans (b6.mono BW.out.size)
      have Fx' : Hid (Bx w6 qx [.bool N.alive, .slice xa N.copies.length xb, .slice xc N.log.length xd, .slice xe N.cleared.length xf]) := Fx.out.later b6
      have Mx' : Hid (SlM w6 ⟨xa, xb, xc, xd, xe, xf⟩ N) := Mx.out.later b6
      clear BW Fx Mx b6
      have BW := BW'
      have Fx := Fx'
      have Mx := Mx'
      clear BW' Fx' Mx'
      have hbx := Fx.out
      have px0 := hbx.1 0 _ rfl
      have px1 := hbx.1 1 _ rfl
      have px2 := hbx.1 2 _ rfl
      have px3 := hbx.1 3 _ rfl
      clear hbx
      have hok := implMachineOk_any w6 ⟨xa, xb, xc, xd, xe, xf⟩ N HQ.out.2 Mx.out
      rw [HQ.out.1] at hok
      simp only [MV.val] at hok
      have HOK := hidOf hok
      clear hok HQ
      go_wp2_with fail
      refine HOK.out.mono ?_
      rintro e w7 ⟨rfl, b7⟩
      clear px0 px1 px2 px3 HOK cmx cm6
      clear Fx Mx
      have BW' : Hid (Below w.heap.size w w7) := BW.out.trans (b7.mono BW.out.size)
      clear BW b7
      have BW := BW'
      clear BW'
      go_wp2_with fail
      generalize w7 = W9 at *
    all_goals
      refine (DrawAppend_any W9 a n k ((HB.out.below BW.out).mono BW.out.size) hn).mono ?_
      rintro e w5 ⟨⟨na, nb, nc, nd, ne, nf⟩, nm, rk, rt, rr, rp, rm, rc, rs, rfl, sn, ln, rm7, ss, b5⟩
      obtain rfl : rs.length = rm := ss.1
      have rmx : rs.length ≤ maxLen := by unfold maxLen; omega
      simp only [MV.val]
      have A3 : Hid (∀ (X : World), SlM X ⟨na, nb, nc, nd, ne, nf⟩ nm → Sl X X.heap.size rp rs.length rs → Calls Tryz.prog 19 #[.agg #[.bool nm.alive, .slice na nm.copies.length nb, .slice nc nm.log.length nd, .slice ne nm.cleared.length nf], .agg #[.int .i64 rk, .int .i64 rt, .int .i64 rr, .slice rp rs.length rc]] X (MAnsB X (appM nm ⟨rk, rt, rr, rs⟩) (appB nm ⟨rk, rt, rr, rs⟩))) := fun X h h' => by
        have hh := implAppend_any X ⟨na, nb, nc, nd, ne, nf⟩ nm ⟨rk, rt, rr, rs⟩ rp rc ln h rmx h'
        simp only [MV.val, R4.val] at hh
        exact hh
      have A4 : Hid (∀ (X : World), SlM X ⟨na, nb, nc, nd, ne, nf⟩ nm → Sl X X.heap.size rp rs.length rs → Calls Tryz.prog 20 #[.agg #[.bool nm.alive, .slice na nm.copies.length nb, .slice nc nm.log.length nd, .slice ne nm.cleared.length nf], .agg #[.int .i64 rk, .int .i64 rt, .int .i64 rr, .slice rp rs.length rc]] X (MAnsB X (appM nm ⟨rk, rt, rr, rs⟩) (appB nm ⟨rk, rt, rr, rs⟩))) := fun X h h' => by
        have hh := specAppend_any X ⟨na, nb, nc, nd, ne, nf⟩ nm ⟨rk, rt, rr, rs⟩ rp rc ln h rmx h'
        simp only [MV.val, R4.val] at hh
        exact hh
      have HT : Hid (ML (appM nm ⟨rk, rt, rr, rs⟩) ∧ ML nm ∧ (appB nm ⟨rk, rt, rr, rs⟩ = true → machB (appM nm ⟨rk, rt, rr, rs⟩) = true ∧ ansH (appM nm ⟨rk, rt, rr, rs⟩) rt rr rk = true ∧ (ansV (appM nm ⟨rk, rt, rr, rs⟩) rt rr rk).tx = rt ∧ clearB (appM nm ⟨rk, rt, rr, rs⟩) rt false = true ∧ ansH (clearM (appM nm ⟨rk, rt, rr, rs⟩) rt rr false) rt rr rk = false ∧ (appM nm ⟨rk, rt, rr, rs⟩).log.length = nm.log.length + 1 ∧ (clearM (appM nm ⟨rk, rt, rr, rs⟩) rt rr false).cleared = nm.cleared) ∧ (appB nm ⟨rk, rt, rr, rs⟩ = false → appM nm ⟨rk, rt, rr, rs⟩ = ⟨false, [], [], []⟩)) := ⟨app_ml _ _, ln, fun h => app_all h, fun h => app_not h⟩
      obtain ⟨Z, hZ⟩ : ∃ Z, appM nm ⟨rk, rt, rr, rs⟩ = Z := ⟨_, rfl⟩
      obtain ⟨B, hB⟩ : ∃ B, appB nm ⟨rk, rt, rr, rs⟩ = B := ⟨_, rfl⟩
      simp only [hZ, hB] at A3 A4 HT
      clear hZ hB
      have SS : Hid (Sl w5 w5.heap.size rp rs.length rs) := ss
      have BW : Hid (Below w.heap.size w w5) := bstep BW.out b5
      clear b5 ss ln
      obtain ⟨v5, hv5⟩ : ∃ X, X = w5.alloc (.cells #[.bool nm.alive, .slice na nm.copies.length nb, .slice nc nm.log.length nd, .slice ne nm.cleared.length nf] 28) := ⟨_, rfl⟩
      have bv5 : Below w5.heap.size w5 v5 := by rw [hv5]; exact (Below.refl _ _).alloc (Nat.le_refl _) _
      have Fn : Hid (Bx v5 w5.heap.size [.bool nm.alive, .slice na nm.copies.length nb, .slice nc nm.log.length nd, .slice ne nm.cleared.length nf]) := by rw [hv5]; exact Bx.made w5 [.bool nm.alive, .slice na nm.copies.length nb, .slice nc nm.log.length nd, .slice ne nm.cleared.length nf] _
      have Mn : Hid (SlM v5 ⟨na, nb, nc, nd, ne, nf⟩ nm) := (sn).later bv5
      have BW' : Hid (Below w.heap.size w v5) := BW.out.trans (bv5.mono BW.out.size)
      have SS' : Hid (Sl v5 v5.heap.size rp rs.length rs) := (SS.out.below bv5).mono bv5.size
      clear BW SS bv5
      have BW := BW'
      have SS := SS'
      clear BW' SS'
      obtain ⟨qn, hqn⟩ : ∃ q, q = w5.heap.size := ⟨_, rfl⟩
      have Fn : Hid (Bx v5 qn [.bool nm.alive, .slice na nm.copies.length nb, .slice nc nm.log.length nd, .slice ne nm.cleared.length nf]) := by rw [hqn]; exact Fn.out
      clear sn
      obtain ⟨v6, hv6⟩ : ∃ X, X = v5.alloc (.cells #[.int .i64 rk, .int .i64 rt, .int .i64 rr, .slice rp rs.length rc] 41) := ⟨_, rfl⟩
      have bv6 : Below v5.heap.size v5 v6 := by rw [hv6]; exact (Below.refl _ _).alloc (Nat.le_refl _) _
      have hz5 : v5.heap.size = w5.heap.size + 1 := by rw [hv5]; simp
      obtain ⟨qr, hqr⟩ : ∃ q, q = w5.heap.size + 1 := ⟨_, rfl⟩
      have Fr : Hid (Bx v6 qr [.int .i64 rk, .int .i64 rt, .int .i64 rr, .slice rp rs.length rc]) := by rw [hv6, hqr, ← hz5]; exact Bx.made v5 [.int .i64 rk, .int .i64 rt, .int .i64 rr, .slice rp rs.length rc] _
      have BW' : Hid (Below w.heap.size w v6) := BW.out.trans (bv6.mono BW.out.size)
      have SS' : Hid (Sl v6 v6.heap.size rp rs.length rs) := (SS.out.below bv6).mono bv6.size
      have Fn' : Hid (Bx v6 qn [.bool nm.alive, .slice na nm.copies.length nb, .slice nc nm.log.length nd, .slice ne nm.cleared.length nf]) := Fn.out.later bv6
      have Mn' : Hid (SlM v6 ⟨na, nb, nc, nd, ne, nf⟩ nm) := Mn.out.later bv6
      clear BW SS Fn Mn bv6
      have BW := BW'
      have SS := SS'
      have Fn := Fn'
      have Mn := Mn'
      clear BW' SS' Fn' Mn'
      have hbx := Fn.out
      have pn0 := hbx.1 0 _ rfl
      have pn1 := hbx.1 1 _ rfl
      have pn2 := hbx.1 2 _ rfl
      have pn3 := hbx.1 3 _ rfl
      clear hbx
      have hbx := Fr.out
      have pr0 := hbx.1 0 _ rfl
      have pr1 := hbx.1 1 _ rfl
      have pr2 := hbx.1 2 _ rfl
      have pr3 := hbx.1 3 _ rfl
      clear hbx
      rw [hv6, hqn] at pn0 pn1 pn2 pn3
      rw [hv6, hqr] at pr0 pr1 pr2 pr3
      rw [hv5] at pn0 pn1 pn2 pn3 pr0 pr1 pr2 pr3
      clear hz5
      go_wp2_with fail
      rw [← hv5, ← hv6, ← hqr, ← hqn]
      clear hv5 hv6 hqn hqr pn0 pn1 pn2 pn3 pr0 pr1 pr2 pr3
      refine (A3.out v6 Mn.out SS.out).mono ?_
      rintro e w6 ⟨za, zb, zc, zd, ze, zf, PK, PR, PD, rfl, om, -, b6⟩
      have sz := om.sl
      clear om PK PR PD A3
      have BW' : Hid (Below w.heap.size w w6) := BW.out.trans (b6.mono BW.out.size)
      have SS' : Hid (Sl w6 w6.heap.size rp rs.length rs) := (SS.out.below b6).mono b6.size
      have Fn' : Hid (Bx w6 qn [.bool nm.alive, .slice na nm.copies.length nb, .slice nc nm.log.length nd, .slice ne nm.cleared.length nf]) := Fn.out.later b6
      have Mn' : Hid (SlM w6 ⟨na, nb, nc, nd, ne, nf⟩ nm) := Mn.out.later b6
      have Fr' : Hid (Bx w6 qr [.int .i64 rk, .int .i64 rt, .int .i64 rr, .slice rp rs.length rc]) := Fr.out.later b6
      clear BW SS Fn Mn Fr b6
      have BW := BW'
      have SS := SS'
      have Fn := Fn'
      have Mn := Mn'
      have Fr := Fr'
      clear BW' SS' Fn' Mn' Fr'
      obtain ⟨v7, hv7⟩ : ∃ X, X = w6.alloc (.cells #[.bool Z.alive, .slice za Z.copies.length zb, .slice zc Z.log.length zd, .slice ze Z.cleared.length zf] 28) := ⟨_, rfl⟩
      have bv7 : Below w6.heap.size w6 v7 := by rw [hv7]; exact (Below.refl _ _).alloc (Nat.le_refl _) _
      have Fz : Hid (Bx v7 w6.heap.size [.bool Z.alive, .slice za Z.copies.length zb, .slice zc Z.log.length zd, .slice ze Z.cleared.length zf]) := by rw [hv7]; exact Bx.made w6 [.bool Z.alive, .slice za Z.copies.length zb, .slice zc Z.log.length zd, .slice ze Z.cleared.length zf] _
      have Mz : Hid (SlM v7 ⟨za, zb, zc, zd, ze, zf⟩ Z) := (sz).later bv7
      have BW' : Hid (Below w.heap.size w v7) := BW.out.trans (bv7.mono BW.out.size)
      have SS' : Hid (Sl v7 v7.heap.size rp rs.length rs) := (SS.out.below bv7).mono bv7.size
      have Fn' : Hid (Bx v7 qn [.bool nm.alive, .slice na nm.copies.length nb, .slice nc nm.log.length nd, .slice ne nm.cleared.length nf]) := Fn.out.later bv7
      have Mn' : Hid (SlM v7 ⟨na, nb, nc, nd, ne, nf⟩ nm) := Mn.out.later bv7
      have Fr' : Hid (Bx v7 qr [.int .i64 rk, .int .i64 rt, .int .i64 rr, .slice rp rs.length rc]) := Fr.out.later bv7
      clear BW SS Fn Mn Fr bv7
      have BW := BW'
      have SS := SS'
      have Fn := Fn'
      have Mn := Mn'
      have Fr := Fr'
      clear BW' SS' Fn' Mn' Fr'
      obtain ⟨qz, hqz⟩ : ∃ q, q = w6.heap.size := ⟨_, rfl⟩
      have Fz : Hid (Bx v7 qz [.bool Z.alive, .slice za Z.copies.length zb, .slice zc Z.log.length zd, .slice ze Z.cleared.length zf]) := by rw [hqz]; exact Fz.out
      clear sz
      have hbx := Fn.out
      have pn0 := hbx.1 0 _ rfl
      have pn1 := hbx.1 1 _ rfl
      have pn2 := hbx.1 2 _ rfl
      have pn3 := hbx.1 3 _ rfl
      clear hbx
      have hbx := Fr.out
      have pr0 := hbx.1 0 _ rfl
      have pr1 := hbx.1 1 _ rfl
      have pr2 := hbx.1 2 _ rfl
      have pr3 := hbx.1 3 _ rfl
      clear hbx
      rw [hv7] at pn0 pn1 pn2 pn3 pr0 pr1 pr2 pr3
      go_wp2_with fail
      rw [← hv7, ← hqz]
      clear hv7 hqz pn0 pn1 pn2 pn3 pr0 pr1 pr2 pr3
      refine (A4.out v7 Mn.out SS.out).mono ?_
      rintro e w7 ⟨ya, yb, yc, yd, ye, yf, PK, PR, PD, rfl, om, -, b7⟩
      have sy := om.sl
      clear om PK PR PD A4
      clear SS
      have BW' : Hid (Below w.heap.size w w7) := BW.out.trans (b7.mono BW.out.size)
      have Fn' : Hid (Bx w7 qn [.bool nm.alive, .slice na nm.copies.length nb, .slice nc nm.log.length nd, .slice ne nm.cleared.length nf]) := Fn.out.later b7
      have Mn' : Hid (SlM w7 ⟨na, nb, nc, nd, ne, nf⟩ nm) := Mn.out.later b7
      have Fr' : Hid (Bx w7 qr [.int .i64 rk, .int .i64 rt, .int .i64 rr, .slice rp rs.length rc]) := Fr.out.later b7
      have Fz' : Hid (Bx w7 qz [.bool Z.alive, .slice za Z.copies.length zb, .slice zc Z.log.length zd, .slice ze Z.cleared.length zf]) := Fz.out.later b7
      have Mz' : Hid (SlM w7 ⟨za, zb, zc, zd, ze, zf⟩ Z) := Mz.out.later b7
      clear BW Fn Mn Fr Fz Mz b7
      have BW := BW'
      have Fn := Fn'
      have Mn := Mn'
      have Fr := Fr'
      have Fz := Fz'
      have Mz := Mz'
      clear BW' Fn' Mn' Fr' Fz' Mz'
      obtain ⟨v8, hv8⟩ : ∃ X, X = w7.alloc (.cells #[.bool Z.alive, .slice ya Z.copies.length yb, .slice yc Z.log.length yd, .slice ye Z.cleared.length yf] 28) := ⟨_, rfl⟩
      have bv8 : Below w7.heap.size w7 v8 := by rw [hv8]; exact (Below.refl _ _).alloc (Nat.le_refl _) _
      have Fy : Hid (Bx v8 w7.heap.size [.bool Z.alive, .slice ya Z.copies.length yb, .slice yc Z.log.length yd, .slice ye Z.cleared.length yf]) := by rw [hv8]; exact Bx.made w7 [.bool Z.alive, .slice ya Z.copies.length yb, .slice yc Z.log.length yd, .slice ye Z.cleared.length yf] _
      have My : Hid (SlM v8 ⟨ya, yb, yc, yd, ye, yf⟩ Z) := (sy).later bv8
      have BW' : Hid (Below w.heap.size w v8) := BW.out.trans (bv8.mono BW.out.size)
      have Fn' : Hid (Bx v8 qn [.bool nm.alive, .slice na nm.copies.length nb, .slice nc nm.log.length nd, .slice ne nm.cleared.length nf]) := Fn.out.later bv8
      have Mn' : Hid (SlM v8 ⟨na, nb, nc, nd, ne, nf⟩ nm) := Mn.out.later bv8
      have Fr' : Hid (Bx v8 qr [.int .i64 rk, .int .i64 rt, .int .i64 rr, .slice rp rs.length rc]) := Fr.out.later bv8
      have Fz' : Hid (Bx v8 qz [.bool Z.alive, .slice za Z.copies.length zb, .slice zc Z.log.length zd, .slice ze Z.cleared.length zf]) := Fz.out.later bv8
      have Mz' : Hid (SlM v8 ⟨za, zb, zc, zd, ze, zf⟩ Z) := Mz.out.later bv8
      clear BW Fn Mn Fr Fz Mz bv8
      have BW := BW'
      have Fn := Fn'
      have Mn := Mn'
      have Fr := Fr'
      have Fz := Fz'
      have Mz := Mz'
      clear BW' Fn' Mn' Fr' Fz' Mz'
      obtain ⟨qy, hqy⟩ : ∃ q, q = w7.heap.size := ⟨_, rfl⟩
      have Fy : Hid (Bx v8 qy [.bool Z.alive, .slice ya Z.copies.length yb, .slice yc Z.log.length yd, .slice ye Z.cleared.length yf]) := by rw [hqy]; exact Fy.out
      clear sy
      have hbx := Fz.out
      have pz0 := hbx.1 0 _ rfl
      have pz1 := hbx.1 1 _ rfl
      have pz2 := hbx.1 2 _ rfl
      have pz3 := hbx.1 3 _ rfl
      clear hbx
      have hbx := Fy.out
      have py0 := hbx.1 0 _ rfl
      have py1 := hbx.1 1 _ rfl
      have py2 := hbx.1 2 _ rfl
      have py3 := hbx.1 3 _ rfl
      clear hbx
      rw [hv8] at pz0 pz1 pz2 pz3 py0 py1 py2 py3
      rw [hqy] at py0 py1 py2 py3
      have dB : (B != B) = false := by cases B <;> rfl
      have hlk := likeMachine_any v8 ⟨za, zb, zc, zd, ze, zf⟩ ⟨ya, yb, yc, yd, ye, yf⟩ Z HT.out.1 Mz.out My.out
      simp only [MV.val] at hlk
      have HLK := hidOf hlk
      clear hlk
      go_wp2_with fail
      rw [← hv8]
      clear hv8 hqy pz0 pz1 pz2 pz3 py0 py1 py2 py3
      refine HLK.out.mono ?_
      rintro e w8 ⟨rfl, b8⟩
      clear HLK
      clear Fy My
      have BW' : Hid (Below w.heap.size w w8) := BW.out.trans (b8.mono BW.out.size)
      have Fn' : Hid (Bx w8 qn [.bool nm.alive, .slice na nm.copies.length nb, .slice nc nm.log.length nd, .slice ne nm.cleared.length nf]) := Fn.out.later b8
      have Mn' : Hid (SlM w8 ⟨na, nb, nc, nd, ne, nf⟩ nm) := Mn.out.later b8
      have Fr' : Hid (Bx w8 qr [.int .i64 rk, .int .i64 rt, .int .i64 rr, .slice rp rs.length rc]) := Fr.out.later b8
      have Fz' : Hid (Bx w8 qz [.bool Z.alive, .slice za Z.copies.length zb, .slice zc Z.log.length zd, .slice ze Z.cleared.length zf]) := Fz.out.later b8
      have Mz' : Hid (SlM w8 ⟨za, zb, zc, zd, ze, zf⟩ Z) := Mz.out.later b8
      clear BW Fn Mn Fr Fz Mz b8
      have BW := BW'
      have Fn := Fn'
      have Mn := Mn'
      have Fr := Fr'
      have Fz := Fz'
      have Mz := Mz'
      clear BW' Fn' Mn' Fr' Fz' Mz'
      have hbx := Fz.out
      have pz0 := hbx.1 0 _ rfl
      have pz1 := hbx.1 1 _ rfl
      have pz2 := hbx.1 2 _ rfl
      have pz3 := hbx.1 3 _ rfl
      clear hbx
      have hB2 : B = false ∨ B = true := by cases B <;> simp
      rcases hB2 with rfl | rfl
      · obtain rfl := HT.out.2.2.2 rfl
        have hlk := likeMachine_any w8 ⟨za, zb, zc, zd, ze, zf⟩ ⟨none, 0, none, 0, none, 0⟩ ⟨false, [], [], []⟩ HT.out.1 Mz.out ⟨⟨rfl, .inl rfl⟩, ⟨rfl, .inl rfl⟩, ⟨rfl, .inl rfl⟩⟩
        simp only [MV.val, List.length_nil] at hlk pz0 pz1 pz2 pz3
        have HLK := hidOf hlk
        clear hlk HT
        go_wp2_with fail
        refine HLK.out.mono ?_
        rintro e w9 ⟨rfl, b9⟩
        have B9 : Hid (Below w.heap.size w w9) := bstep BW.out b9
        clear b9 pz0 pz1 pz2 pz3
        go_wp2
        go_ret
        exact ⟨rfl, B9.out⟩
      · obtain ⟨aok, ah, atx, acl, ano, aln, acd⟩ := HT.out.2.2.1 rfl
        have hlg := implLogged_any w8 ⟨za, zb, zc, zd, ze, zf⟩ Z rt rr rk HT.out.1 Mz.out
        unfold LogAns at hlg
        rw [ah] at hlg
        obtain ⟨⟨r0, r1, r2, r3⟩, hrv⟩ : ∃ r, ansV Z rt rr rk = r := ⟨_, rfl⟩
        rw [hrv] at hlg atx
        simp only at atx
        subst atx
        simp only [MV.val, R4.val] at hlg
        have HLG := hidOf hlg
        have A5 : Hid (∀ (X : World), SlM X ⟨za, zb, zc, zd, ze, zf⟩ Z → Calls Tryz.prog 22 #[.agg #[.bool Z.alive, .slice za Z.copies.length zb, .slice zc Z.log.length zd, .slice ze Z.cleared.length zf], .int .i64 r1, .int .i64 rr, .bool false] X (MAnsB X (clearM Z r1 rr false) true)) := fun X h => by
          have hh := implClear_any X ⟨za, zb, zc, zd, ze, zf⟩ Z r1 rr false HT.out.1 h
          rw [acl] at hh
          simp only [MV.val] at hh
          exact hh
        have HK : Hid (ML (clearM Z r1 rr false) ∧ ansH (clearM Z r1 rr false) r1 rr rk = false ∧ (clearM Z r1 rr false).cleared = nm.cleared) := ⟨clear_ml HT.out.1, ano, acd⟩
        obtain ⟨E, hE⟩ : ∃ E, clearM Z r1 rr false = E := ⟨_, rfl⟩
        simp only [hE] at A5 HK
        have HQ : Hid (machB Z = true ∧ ML Z ∧ ML nm ∧ Z.log.length = nm.log.length + 1) := ⟨aok, HT.out.1, HT.out.2.1, aln⟩
        clear hlg hrv hE aok ah acl ano aln acd HT dB
        have hbx := Fr.out
        have pr0 := hbx.1 0 _ rfl
        have pr1 := hbx.1 1 _ rfl
        have pr2 := hbx.1 2 _ rfl
        have pr3 := hbx.1 3 _ rfl
        clear hbx
        go_wp2_with fail
        refine HLG.out.mono ?_
        rintro e w9 ⟨ga, gc, rfl, -, b9⟩
        clear HLG pz0 pz1 pz2 pz3 pr0 pr1 pr2 pr3
        have BW' : Hid (Below w.heap.size w w9) := BW.out.trans (b9.mono BW.out.size)
        have Fn' : Hid (Bx w9 qn [.bool nm.alive, .slice na nm.copies.length nb, .slice nc nm.log.length nd, .slice ne nm.cleared.length nf]) := Fn.out.later b9
        have Mn' : Hid (SlM w9 ⟨na, nb, nc, nd, ne, nf⟩ nm) := Mn.out.later b9
        have Fr' : Hid (Bx w9 qr [.int .i64 rk, .int .i64 r1, .int .i64 rr, .slice rp rs.length rc]) := Fr.out.later b9
        have Fz' : Hid (Bx w9 qz [.bool Z.alive, .slice za Z.copies.length zb, .slice zc Z.log.length zd, .slice ze Z.cleared.length zf]) := Fz.out.later b9
        have Mz' : Hid (SlM w9 ⟨za, zb, zc, zd, ze, zf⟩ Z) := Mz.out.later b9
        clear BW Fn Mn Fr Fz Mz b9
        have BW := BW'
        have Fn := Fn'
        have Mn := Mn'
        have Fr := Fr'
        have Fz := Fz'
        have Mz := Mz'
        clear BW' Fn' Mn' Fr' Fz' Mz'
        obtain ⟨v9, hv9⟩ : ∃ X, X = w9.alloc (.cells #[.int .i64 r0, .int .i64 r1, .int .i64 r2, .slice ga r3.length gc] 41) := ⟨_, rfl⟩
        have bv9 : Below w9.heap.size w9 v9 := by rw [hv9]; exact (Below.refl _ _).alloc (Nat.le_refl _) _
        obtain ⟨qg, hqg⟩ : ∃ q, q = w9.heap.size := ⟨_, rfl⟩
        have Fg : Hid (Bx v9 qg [.int .i64 r0, .int .i64 r1, .int .i64 r2, .slice ga r3.length gc]) := by rw [hv9, hqg]; exact Bx.made w9 [.int .i64 r0, .int .i64 r1, .int .i64 r2, .slice ga r3.length gc] _
        have BW' : Hid (Below w.heap.size w v9) := BW.out.trans (bv9.mono BW.out.size)
        have Fn' : Hid (Bx v9 qn [.bool nm.alive, .slice na nm.copies.length nb, .slice nc nm.log.length nd, .slice ne nm.cleared.length nf]) := Fn.out.later bv9
        have Mn' : Hid (SlM v9 ⟨na, nb, nc, nd, ne, nf⟩ nm) := Mn.out.later bv9
        have Fr' : Hid (Bx v9 qr [.int .i64 rk, .int .i64 r1, .int .i64 rr, .slice rp rs.length rc]) := Fr.out.later bv9
        have Fz' : Hid (Bx v9 qz [.bool Z.alive, .slice za Z.copies.length zb, .slice zc Z.log.length zd, .slice ze Z.cleared.length zf]) := Fz.out.later bv9
        have Mz' : Hid (SlM v9 ⟨za, zb, zc, zd, ze, zf⟩ Z) := Mz.out.later bv9
        clear BW Fn Mn Fr Fz Mz bv9
        have BW := BW'
        have Fn := Fn'
        have Mn := Mn'
        have Fr := Fr'
        have Fz := Fz'
        have Mz := Mz'
        clear BW' Fn' Mn' Fr' Fz' Mz'
        have hbx := Fz.out
        have pz0 := hbx.1 0 _ rfl
        have pz1 := hbx.1 1 _ rfl
        have pz2 := hbx.1 2 _ rfl
        have pz3 := hbx.1 3 _ rfl
        clear hbx
        have hbx := Fr.out
        have pr0 := hbx.1 0 _ rfl
        have pr1 := hbx.1 1 _ rfl
        have pr2 := hbx.1 2 _ rfl
        have pr3 := hbx.1 3 _ rfl
        clear hbx
        rw [hv9] at pz0 pz1 pz2 pz3 pr0 pr1 pr2 pr3
        go_wp2_with fail
        rw [← hv9, ← hqg]
        clear hv9 hqg pz0 pz1 pz2 pz3 pr0 pr1 pr2 pr3
        refine (A5.out v9 Mz.out).mono ?_
        rintro e w10 ⟨ea, eb, ec, ed, ee, ef, PK, PR, PD, rfl, om, -, b10⟩
        have se := om.sl
        clear om PK PR PD A5
        have BW' : Hid (Below w.heap.size w w10) := BW.out.trans (b10.mono BW.out.size)
        have Fn' : Hid (Bx w10 qn [.bool nm.alive, .slice na nm.copies.length nb, .slice nc nm.log.length nd, .slice ne nm.cleared.length nf]) := Fn.out.later b10
        have Mn' : Hid (SlM w10 ⟨na, nb, nc, nd, ne, nf⟩ nm) := Mn.out.later b10
        have Fr' : Hid (Bx w10 qr [.int .i64 rk, .int .i64 r1, .int .i64 rr, .slice rp rs.length rc]) := Fr.out.later b10
        have Fz' : Hid (Bx w10 qz [.bool Z.alive, .slice za Z.copies.length zb, .slice zc Z.log.length zd, .slice ze Z.cleared.length zf]) := Fz.out.later b10
        have Mz' : Hid (SlM w10 ⟨za, zb, zc, zd, ze, zf⟩ Z) := Mz.out.later b10
        have Fg' : Hid (Bx w10 qg [.int .i64 r0, .int .i64 r1, .int .i64 r2, .slice ga r3.length gc]) := Fg.out.later b10
        clear BW Fn Mn Fr Fz Mz Fg b10
        have BW := BW'
        have Fn := Fn'
        have Mn := Mn'
        have Fr := Fr'
        have Fz := Fz'
        have Mz := Mz'
        have Fg := Fg'
        clear BW' Fn' Mn' Fr' Fz' Mz' Fg'
        obtain ⟨v10, hv10⟩ : ∃ X, X = w10.alloc (.cells #[.bool E.alive, .slice ea E.copies.length eb, .slice ec E.log.length ed, .slice ee E.cleared.length ef] 28) := ⟨_, rfl⟩
        have bv10 : Below w10.heap.size w10 v10 := by rw [hv10]; exact (Below.refl _ _).alloc (Nat.le_refl _) _
        have Fe : Hid (Bx v10 w10.heap.size [.bool E.alive, .slice ea E.copies.length eb, .slice ec E.log.length ed, .slice ee E.cleared.length ef]) := by rw [hv10]; exact Bx.made w10 [.bool E.alive, .slice ea E.copies.length eb, .slice ec E.log.length ed, .slice ee E.cleared.length ef] _
        have Me : Hid (SlM v10 ⟨ea, eb, ec, ed, ee, ef⟩ E) := (se).later bv10
        have BW' : Hid (Below w.heap.size w v10) := BW.out.trans (bv10.mono BW.out.size)
        have Fn' : Hid (Bx v10 qn [.bool nm.alive, .slice na nm.copies.length nb, .slice nc nm.log.length nd, .slice ne nm.cleared.length nf]) := Fn.out.later bv10
        have Mn' : Hid (SlM v10 ⟨na, nb, nc, nd, ne, nf⟩ nm) := Mn.out.later bv10
        have Fr' : Hid (Bx v10 qr [.int .i64 rk, .int .i64 r1, .int .i64 rr, .slice rp rs.length rc]) := Fr.out.later bv10
        have Fz' : Hid (Bx v10 qz [.bool Z.alive, .slice za Z.copies.length zb, .slice zc Z.log.length zd, .slice ze Z.cleared.length zf]) := Fz.out.later bv10
        have Mz' : Hid (SlM v10 ⟨za, zb, zc, zd, ze, zf⟩ Z) := Mz.out.later bv10
        have Fg' : Hid (Bx v10 qg [.int .i64 r0, .int .i64 r1, .int .i64 r2, .slice ga r3.length gc]) := Fg.out.later bv10
        clear BW Fn Mn Fr Fz Mz Fg bv10
        have BW := BW'
        have Fn := Fn'
        have Mn := Mn'
        have Fr := Fr'
        have Fz := Fz'
        have Mz := Mz'
        have Fg := Fg'
        clear BW' Fn' Mn' Fr' Fz' Mz' Fg'
        obtain ⟨qe, hqe⟩ : ∃ q, q = w10.heap.size := ⟨_, rfl⟩
        have Fe : Hid (Bx v10 qe [.bool E.alive, .slice ea E.copies.length eb, .slice ec E.log.length ed, .slice ee E.cleared.length ef]) := by rw [hqe]; exact Fe.out
        clear se
        have hlg := implLogged_any v10 ⟨ea, eb, ec, ed, ee, ef⟩ E r1 rr rk HK.out.1 Me.out
        unfold LogAns at hlg
        rw [HK.out.2.1] at hlg
        obtain ⟨⟨s0, s1, s2, s3⟩, hrv⟩ : ∃ r, ansV E r1 rr rk = r := ⟨_, rfl⟩
        rw [hrv] at hlg
        simp only [MV.val, R4.val] at hlg
        have HLG := hidOf hlg
        clear hlg hrv
        have hbx := Fe.out
        have pe0 := hbx.1 0 _ rfl
        have pe1 := hbx.1 1 _ rfl
        have pe2 := hbx.1 2 _ rfl
        have pe3 := hbx.1 3 _ rfl
        clear hbx
        have hbx := Fr.out
        have pr0 := hbx.1 0 _ rfl
        have pr1 := hbx.1 1 _ rfl
        have pr2 := hbx.1 2 _ rfl
        have pr3 := hbx.1 3 _ rfl
        clear hbx
        rw [hv10] at pe0 pe1 pe2 pe3 pr0 pr1 pr2 pr3
        rw [hqe] at pe0 pe1 pe2 pe3
        go_wp2_with fail
        rw [← hv10, ← hqe]
        clear hv10 hqe pe0 pe1 pe2 pe3 pr0 pr1 pr2 pr3
        refine HLG.out.mono ?_
        rintro e w11 ⟨ha, hc, rfl, -, b11⟩
        clear HLG
        have BW' : Hid (Below w.heap.size w w11) := BW.out.trans (b11.mono BW.out.size)
        have Fn' : Hid (Bx w11 qn [.bool nm.alive, .slice na nm.copies.length nb, .slice nc nm.log.length nd, .slice ne nm.cleared.length nf]) := Fn.out.later b11
        have Mn' : Hid (SlM w11 ⟨na, nb, nc, nd, ne, nf⟩ nm) := Mn.out.later b11
        have Fr' : Hid (Bx w11 qr [.int .i64 rk, .int .i64 r1, .int .i64 rr, .slice rp rs.length rc]) := Fr.out.later b11
        have Fz' : Hid (Bx w11 qz [.bool Z.alive, .slice za Z.copies.length zb, .slice zc Z.log.length zd, .slice ze Z.cleared.length zf]) := Fz.out.later b11
        have Mz' : Hid (SlM w11 ⟨za, zb, zc, zd, ze, zf⟩ Z) := Mz.out.later b11
        have Fg' : Hid (Bx w11 qg [.int .i64 r0, .int .i64 r1, .int .i64 r2, .slice ga r3.length gc]) := Fg.out.later b11
        have Fe' : Hid (Bx w11 qe [.bool E.alive, .slice ea E.copies.length eb, .slice ec E.log.length ed, .slice ee E.cleared.length ef]) := Fe.out.later b11
        have Me' : Hid (SlM w11 ⟨ea, eb, ec, ed, ee, ef⟩ E) := Me.out.later b11
        clear BW Fn Mn Fr Fz Mz Fg Fe Me b11
        have BW := BW'
        have Fn := Fn'
        have Mn := Mn'
        have Fr := Fr'
        have Fz := Fz'
        have Mz := Mz'
        have Fg := Fg'
        have Fe := Fe'
        have Me := Me'
        clear BW' Fn' Mn' Fr' Fz' Mz' Fg' Fe' Me'
        obtain ⟨v11, hv11⟩ : ∃ X, X = w11.alloc (.cells #[.int .i64 s0, .int .i64 s1, .int .i64 s2, .slice ha s3.length hc] 41) := ⟨_, rfl⟩
        have bv11 : Below w11.heap.size w11 v11 := by rw [hv11]; exact (Below.refl _ _).alloc (Nat.le_refl _) _
        have BW' : Hid (Below w.heap.size w v11) := BW.out.trans (bv11.mono BW.out.size)
        have Fn' : Hid (Bx v11 qn [.bool nm.alive, .slice na nm.copies.length nb, .slice nc nm.log.length nd, .slice ne nm.cleared.length nf]) := Fn.out.later bv11
        have Mn' : Hid (SlM v11 ⟨na, nb, nc, nd, ne, nf⟩ nm) := Mn.out.later bv11
        have Fr' : Hid (Bx v11 qr [.int .i64 rk, .int .i64 r1, .int .i64 rr, .slice rp rs.length rc]) := Fr.out.later bv11
        have Fz' : Hid (Bx v11 qz [.bool Z.alive, .slice za Z.copies.length zb, .slice zc Z.log.length zd, .slice ze Z.cleared.length zf]) := Fz.out.later bv11
        have Mz' : Hid (SlM v11 ⟨za, zb, zc, zd, ze, zf⟩ Z) := Mz.out.later bv11
        have Fg' : Hid (Bx v11 qg [.int .i64 r0, .int .i64 r1, .int .i64 r2, .slice ga r3.length gc]) := Fg.out.later bv11
        have Fe' : Hid (Bx v11 qe [.bool E.alive, .slice ea E.copies.length eb, .slice ec E.log.length ed, .slice ee E.cleared.length ef]) := Fe.out.later bv11
        have Me' : Hid (SlM v11 ⟨ea, eb, ec, ed, ee, ef⟩ E) := Me.out.later bv11
        clear BW Fn Mn Fr Fz Mz Fg Fe Me bv11
        have BW := BW'
        have Fn := Fn'
        have Mn := Mn'
        have Fr := Fr'
        have Fz := Fz'
        have Mz := Mz'
        have Fg := Fg'
        have Fe := Fe'
        have Me := Me'
        clear BW' Fn' Mn' Fr' Fz' Mz' Fg' Fe' Me'
        have hbx := Fz.out
        have pz0 := hbx.1 0 _ rfl
        have pz1 := hbx.1 1 _ rfl
        have pz2 := hbx.1 2 _ rfl
        have pz3 := hbx.1 3 _ rfl
        clear hbx
        have hbx := Fn.out
        have pn0 := hbx.1 0 _ rfl
        have pn1 := hbx.1 1 _ rfl
        have pn2 := hbx.1 2 _ rfl
        have pn3 := hbx.1 3 _ rfl
        clear hbx
        rw [hv11] at pz0 pz1 pz2 pz3 pn0 pn1 pn2 pn3
        have hbx := Fg.out
        have pg1 := hbx.1 1 _ rfl
        clear hbx
        have hbx := Fr.out
        have pr1 := hbx.1 1 _ rfl
        clear hbx
        rw [hv11] at pg1 pr1
        have hok := implMachineOk_any v11 ⟨za, zb, zc, zd, ze, zf⟩ Z HQ.out.2.1 Mz.out
        rw [HQ.out.1] at hok
        simp only [MV.val] at hok
        have HOK := hidOf hok
        clear hok
        have hln : Z.log.length = nm.log.length + 1 := HQ.out.2.2.2
        have hlm : nm.log.length ≤ maxLen := HQ.out.2.2.1.r
        have hlz : Z.log.length ≤ maxLen := HQ.out.2.1.r
        unfold maxLen at hlm hlz
        have hadd : IntKind.i64.wrap ((nm.log.length : Int) + 1) = (Z.log.length : Int) := by rw [hln]; simp [IntKind.wrap, IntKind.bits, IntKind.signed]; omega
        clear hln
        have dln : ((Z.log.length : Int) == (Z.log.length : Int)) = true := by simp
        have dtx : (r1 == r1) = true := by simp
        go_wp2_with fail
        rw [← hv11]
        clear hv11 pg1 pr1 pz0 pz1 pz2 pz3 pn0 pn1 pn2 pn3
        refine HOK.out.mono ?_
        rintro e w12 ⟨rfl, b12⟩
        clear HOK
        have BW' : Hid (Below w.heap.size w w12) := BW.out.trans (b12.mono BW.out.size)
        have Fn' : Hid (Bx w12 qn [.bool nm.alive, .slice na nm.copies.length nb, .slice nc nm.log.length nd, .slice ne nm.cleared.length nf]) := Fn.out.later b12
        have Mn' : Hid (SlM w12 ⟨na, nb, nc, nd, ne, nf⟩ nm) := Mn.out.later b12
        have Fr' : Hid (Bx w12 qr [.int .i64 rk, .int .i64 r1, .int .i64 rr, .slice rp rs.length rc]) := Fr.out.later b12
        have Fz' : Hid (Bx w12 qz [.bool Z.alive, .slice za Z.copies.length zb, .slice zc Z.log.length zd, .slice ze Z.cleared.length zf]) := Fz.out.later b12
        have Mz' : Hid (SlM w12 ⟨za, zb, zc, zd, ze, zf⟩ Z) := Mz.out.later b12
        have Fg' : Hid (Bx w12 qg [.int .i64 r0, .int .i64 r1, .int .i64 r2, .slice ga r3.length gc]) := Fg.out.later b12
        have Fe' : Hid (Bx w12 qe [.bool E.alive, .slice ea E.copies.length eb, .slice ec E.log.length ed, .slice ee E.cleared.length ef]) := Fe.out.later b12
        have Me' : Hid (SlM w12 ⟨ea, eb, ec, ed, ee, ef⟩ E) := Me.out.later b12
        clear BW Fn Mn Fr Fz Mz Fg Fe Me b12
        have BW := BW'
        have Fn := Fn'
        have Mn := Mn'
        have Fr := Fr'
        have Fz := Fz'
        have Mz := Mz'
        have Fg := Fg'
        have Fe := Fe'
        have Me := Me'
        clear BW' Fn' Mn' Fr' Fz' Mz' Fg' Fe' Me'
        have hbx := Fe.out
        have pe0 := hbx.1 0 _ rfl
        have pe1 := hbx.1 1 _ rfl
        have pe2 := hbx.1 2 _ rfl
        have pe3 := hbx.1 3 _ rfl
        clear hbx
        have hbx := Fn.out
        have pn0 := hbx.1 0 _ rfl
        have pn1 := hbx.1 1 _ rfl
        have pn2 := hbx.1 2 _ rfl
        have pn3 := hbx.1 3 _ rfl
        clear hbx
        have hli := likeInts_any w12 ee ne E.cleared.length ef nf E.cleared (by have := HK.out.1.n; exact this) Me.out.n (by rw [HK.out.2.2]; exact Mn.out.n)
        have hlc : nm.cleared.length = E.cleared.length := by rw [HK.out.2.2]
        rw [hlc] at pn3
        have HLI := hidOf hli
        clear hli hlc
        go_wp2_with fail
        refine HLI.out.mono ?_
        rintro e w13 ⟨rfl, b13⟩
        have B13 : Hid (Below w.heap.size w w13) := bstep BW.out b13
        clear b13 pe0 pe1 pe2 pe3 pn0 pn1 pn2 pn3
        go_wp2
        go_ret
        exact ⟨rfl, B13.out⟩
  · go_enter Tryz.func3, Tryz.ntmps3
    have hbig : (4096 : Int) < (n : Int) := by omega
    go_wp2_with (go_at_call 10; go_in)
    go_ret
    exact ⟨rfl, Below.refl _ _⟩
set_option maxRecDepth 100000 in
theorem lifted (os : Os) (started : os.Started) (H : Type) (enc : TypeId × Value → H) :
    ReturnsInHanded {} Tryz.checked os 3 .any (Rows.fnMachinesSpec.pre6 enc Tryz.prog Tryz.f3 Rows.fnMachinesRow.domain false) (Rows.fnMachinesSpec.post enc Tryz.prog Tryz.f3 false true false false) := by
  refine returnsInHanded_of_change (C := Tryz.checked) own started (by kernel_rfl) Tryz.func3
    (ChangeSpec.witness6 (enc := enc) (C := Tryz.checked) false ⟨#[], #[.slice none 0 0], []⟩ 8 (by kernel_rfl) (by kernel_rfl) (by kernel_rfl) (by kernel_rfl)) ?_
  intro W base args ds gs before hval0 hW hcnd _
  have hval : ∀ (j : Nat) t v, Tryz.f3.params[j]? = some t → args[j]? = some v → Value.okWide Tryz.prog W .any base t v := hval0
  have hW' := hW
  obtain ⟨p, q, hA0, hV, rfl, hfz, hnd⟩ := hW
  have hA : DataW.TrodAll enc Tryz.prog W 0 (fun _ => true) true Tryz.f3.params.toList args.toList ds p := hA0
  rw [Tryz.params3] at hA hval
  obtain ⟨v0, vs0, d0, ds0, p0, q0, hargs, rfl, rfl, h0, r0⟩ := trodAll_cons hA
  obtain ⟨rfl, rfl, rfl⟩ := trodAll_nil r0
  obtain rfl : args = #[v0] := by cases args; simp_all
  obtain ⟨rfl, rfl⟩ := trodVars_none hV
  obtain ⟨a0, len0, cap0, rfl⟩ := okWide_slice Tryz.underlying22 (hval 0 22 v0 rfl rfl)
  have k0 := h0
  have lt0 : ∀ x ∈ p0, x.block < W.heap.size := by obtain ⟨m, hm⟩ := k0; exact DataW.trod_lt m _ _ _ hm
  obtain ⟨z0, w0⟩ : ∃ zs, IsRow .u8 W a0 len0 cap0 zs := by
    obtain ⟨fuel, hf⟩ := h0
    rcases open_ints Tryz.underlying22 Tryz.underlying5 (by kernel_rfl) hf with ⟨hcs, _⟩ | ⟨x, l, c, zs, hcs, _, hl, hm, hz, _, hcell, hwz⟩
    · simp [Value.cells] at hcs
      obtain ⟨rfl, rfl, rfl⟩ := hcs
      exact ⟨[], .inl ⟨rfl, rfl, rfl, rfl⟩⟩
    · simp [Value.cells] at hcs
      obtain ⟨rfl, rfl, rfl⟩ := hcs
      exact ⟨zs, .inr ⟨_, rfl, hl, hm, by simpa using hz, hcell, hwz⟩⟩
  clear hA0 hval0
  refine (walk a0 len0 cap0 W w0.bytes).mono fun e W' ⟨he, bel⟩ => ?_
  subst he
  exact ⟨_, rfl, _, _, _, [], _, [], hW', trodAll_mk1 (shut_bool Tryz.underlying4 _), (trodAll_cons_mk (Below.trod laidOut (by kernel_rfl) (of_decide_eq_true (by kernel_rfl)) k0 bel lt0) trodAll_mk0), rfl, bel.frame _, fun h => by cases h⟩

theorem over : Rows.fnMachinesRow.holds Tryz.pinned (OpenSpec.ofChange Rows.fnMachinesSpec) :=
  OpenClaim.holds_of_wide 3 Tryz.f3 rfl rfl rfl rfl rfl rfl rfl ⟨rfl, rfl, rfl, rfl, rfl⟩ rfl rfl rfl rfl rfl (by kernel_rfl) Tryz.func3 (by kernel_rfl)
    (of_decide_eq_true (by kernel_rfl)) (by unfold Func.isWrapper; first | (rw [if_pos (by decide +kernel)]; kernel_rfl) | (rw [if_neg (by decide +kernel)]; exact ⟨rfl, rfl⟩))
    (fun os started H enc _ => lifted os started H enc)

end Go.Proofs.YtooalbdlknheeaaGreat.fnMachines
namespace Go.Proofs.YtooalbdlknheeaaGreat
theorem fnMachines_holds : Rows.FnMachinesSaid := fnMachines.over
#print axioms fnMachines_holds
end Go.Proofs.YtooalbdlknheeaaGreat
