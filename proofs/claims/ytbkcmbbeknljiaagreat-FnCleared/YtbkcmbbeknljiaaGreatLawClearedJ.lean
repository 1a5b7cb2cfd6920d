/- FnCleared: Clear strikes every record of a transaction out of a region, notes it where it is done, and answers a machine; Turn leaves no lock record; both answer as the specification does, at every code: no condition. -/
import Derived.Test.YtbkcmbbeknljiaaGreatRows
import Derived.Test.YtbkcmbbeknljiaaGreatDrwCJ
import Derived.Test.YtbkcmbbeknljiaaGreatJ44LawCleared
import Derived.Test.YtbkcmbbeknljiaaGreatClrFJ
import Derived.Test.YtbkcmbbeknljiaaGreatClrIJ
import Derived.Test.YtbkcmbbeknljiaaGreatJ52LawCleared
import Derived.Test.YtbkcmbbeknljiaaGreatTurnAJ
import Derived.Test.YtbkcmbbeknljiaaGreatLogIJ
import Derived.Test.YtbkcmbbeknljiaaGreatMacOkIJ
import Derived.Test.YtbkcmbbeknljiaaGreatJ25LawCleared
import Derived.WalkKit
import Derived.ProofKit
import Derived.OpenShut
import Derived.WalkSpells
import Derived.WalkLawsBesides
import Derived.Deep.RegionWith
import Derived.Deep.CutRange
namespace Go.Proofs.YtbkcmbbeknljiaaGreat.fnCleared
open Go.ChangeShapes Go.WideShapes Go.ChangeAt Go.RowKit
open Go.Sort (grow)
theorem own : ownKnob Tryz.prog.godebug = none := by kernel_rfl
theorem laidOut : laidOutB Tryz.prog = true := by kernel_rfl
set_option maxRecDepth 100000 in
set_option maxHeartbeats 16000000 in
theorem walk (a : Option Addr) (n k : Nat) (w : World) (hb : Bytes w w.heap.size a n) :
    Calls Tryz.prog 4 #[.slice a n k] w fun e w' => e = .returned (.bool true) ∧ Below w.heap.size w w' := by
  have hmm := hb.1
  unfold maxLen at hmm
  by_cases hn : n ≤ 4096
  · have HB : Hid (Bytes w w.heap.size a n) := hb
    clear hb
    go_enter Tryz.func4, Tryz.ntmps4
    go_wp2_with (go_at_call 8; go_in)
    refine (DrawClear_any w a n k HB.out hn).mono ?_
    rintro e w1 ⟨⟨ma, mb, mc, md, me, mf⟩, m, t, g, d, rfl, sm, lm, b1⟩
    simp only [MV.val]
    have A1 : Hid (∀ (X : World), SlM X ⟨ma, mb, mc, md, me, mf⟩ m → Calls Tryz.prog 20 #[.agg #[.bool m.alive, .slice ma m.copies.length mb, .slice mc m.log.length md, .slice me m.cleared.length mf], .int .i64 t, .int .i64 g, .bool d] X (MAnsB X (clearM m t g d) (clearB m t d))) := fun X h => by
      have hh := implClear_any X ⟨ma, mb, mc, md, me, mf⟩ m t g d lm h
      simp only [MV.val] at hh
      exact hh
    have A2 : Hid (∀ (X : World), SlM X ⟨ma, mb, mc, md, me, mf⟩ m → Calls Tryz.prog 23 #[.agg #[.bool m.alive, .slice ma m.copies.length mb, .slice mc m.log.length md, .slice me m.cleared.length mf], .int .i64 t, .int .i64 g, .bool d] X (MAnsB X (clearM m t g d) (clearB m t d))) := fun X h => by
      have hh := specClear_any X ⟨ma, mb, mc, md, me, mf⟩ m t g d lm h
      simp only [MV.val] at hh
      exact hh
    have HN : Hid (ML (clearM m t g d) ∧ (clearB m t d = true → machB (clearM m t g d) = true ∧ (∀ k, k < (clearM m t g d).log.length → ofB t g (atR (clearM m t g d).log k) = false) ∧ (d = true → hasN (clearM m t g d).cleared t = true)) ∧ (clearB m t d = false → clearM m t g d = ⟨false, [], [], []⟩)) := ⟨clear_ml lm, fun h => ⟨clear_mach h, fun k hk => clear_none h hk, clear_has h⟩, fun h => clear_not h⟩
    obtain ⟨N, hN⟩ : ∃ N, clearM m t g d = N := ⟨_, rfl⟩
    obtain ⟨B, hB⟩ : ∃ B, clearB m t d = B := ⟨_, rfl⟩
    simp only [hN, hB] at A1 A2 HN
    clear hN hB
    have BW : Hid (Below w.heap.size w w1) := b1
    clear b1
    obtain ⟨v1, hv1⟩ : ∃ X, X = w1.alloc (.cells #[.bool m.alive, .slice ma m.copies.length mb, .slice mc m.log.length md, .slice me m.cleared.length mf] 28) := ⟨_, rfl⟩
    have bv1 : Below w1.heap.size w1 v1 := by rw [hv1]; exact (Below.refl _ _).alloc (Nat.le_refl _) _
    have Fm : Hid (Bx v1 w1.heap.size [.bool m.alive, .slice ma m.copies.length mb, .slice mc m.log.length md, .slice me m.cleared.length mf]) := by rw [hv1]; exact Bx.made w1 [.bool m.alive, .slice ma m.copies.length mb, .slice mc m.log.length md, .slice me m.cleared.length mf] _
    have Mm : Hid (SlM v1 ⟨ma, mb, mc, md, me, mf⟩ m) := (sm).later bv1
    have BW' : Hid (Below w.heap.size w v1) := BW.out.trans (bv1.mono BW.out.size)
    clear BW bv1
    have BW := BW'
    clear BW'
    obtain ⟨qm, hqm⟩ : ∃ q, q = w1.heap.size := ⟨_, rfl⟩
    have Fm : Hid (Bx v1 qm [.bool m.alive, .slice ma m.copies.length mb, .slice mc m.log.length md, .slice me m.cleared.length mf]) := by rw [hqm]; exact Fm.out
    clear sm lm
    have em := hqm
    have hbx := Fm.out
    have pm0 := hbx.1 0 _ rfl
    have pm1 := hbx.1 1 _ rfl
    have pm2 := hbx.1 2 _ rfl
    have pm3 := hbx.1 3 _ rfl
    clear hbx
    rw [hv1] at pm0 pm1 pm2 pm3
    rw [hqm] at pm0 pm1 pm2 pm3
    go_wp2_with fail
    rw [← hv1, ← hqm]
    clear hv1 hqm em pm0 pm1 pm2 pm3
    refine (A1.out v1 Mm.out).mono ?_
    rintro e w2 ⟨xa, xb, xc, xd, xe, xf, PK, PR, PD, rfl, om, -, b2⟩
    have sx := om.sl
    clear om PK PR PD A1
    have BW' : Hid (Below w.heap.size w w2) := BW.out.trans (b2.mono BW.out.size)
    have Fm' : Hid (Bx w2 qm [.bool m.alive, .slice ma m.copies.length mb, .slice mc m.log.length md, .slice me m.cleared.length mf]) := Fm.out.later b2
    have Mm' : Hid (SlM w2 ⟨ma, mb, mc, md, me, mf⟩ m) := Mm.out.later b2
    clear BW Fm Mm b2
    have BW := BW'
    have Fm := Fm'
    have Mm := Mm'
    clear BW' Fm' Mm'
    obtain ⟨v2, hv2⟩ : ∃ X, X = w2.alloc (.cells #[.bool N.alive, .slice xa N.copies.length xb, .slice xc N.log.length xd, .slice xe N.cleared.length xf] 28) := ⟨_, rfl⟩
    have bv2 : Below w2.heap.size w2 v2 := by rw [hv2]; exact (Below.refl _ _).alloc (Nat.le_refl _) _
    have Fx : Hid (Bx v2 w2.heap.size [.bool N.alive, .slice xa N.copies.length xb, .slice xc N.log.length xd, .slice xe N.cleared.length xf]) := by rw [hv2]; exact Bx.made w2 [.bool N.alive, .slice xa N.copies.length xb, .slice xc N.log.length xd, .slice xe N.cleared.length xf] _
    have Mx : Hid (SlM v2 ⟨xa, xb, xc, xd, xe, xf⟩ N) := (sx).later bv2
    have BW' : Hid (Below w.heap.size w v2) := BW.out.trans (bv2.mono BW.out.size)
    have Fm' : Hid (Bx v2 qm [.bool m.alive, .slice ma m.copies.length mb, .slice mc m.log.length md, .slice me m.cleared.length mf]) := Fm.out.later bv2
    have Mm' : Hid (SlM v2 ⟨ma, mb, mc, md, me, mf⟩ m) := Mm.out.later bv2
    clear BW Fm Mm bv2
    have BW := BW'
    have Fm := Fm'
    have Mm := Mm'
    clear BW' Fm' Mm'
    obtain ⟨qx, hqx⟩ : ∃ q, q = w2.heap.size := ⟨_, rfl⟩
    have Fx : Hid (Bx v2 qx [.bool N.alive, .slice xa N.copies.length xb, .slice xc N.log.length xd, .slice xe N.cleared.length xf]) := by rw [hqx]; exact Fx.out
    clear sx
    have hbx := Fm.out
    have pm0 := hbx.1 0 _ rfl
    have pm1 := hbx.1 1 _ rfl
    have pm2 := hbx.1 2 _ rfl
    have pm3 := hbx.1 3 _ rfl
    clear hbx
    rw [hv2] at pm0 pm1 pm2 pm3
    go_wp2_with fail
    rw [← hv2, ← hqx]
    clear hv2 hqx pm0 pm1 pm2 pm3
    refine (A2.out v2 Mm.out).mono ?_
    rintro e w3 ⟨ya, yb, yc, yd, ye, yf, PK, PR, PD, rfl, om, -, b3⟩
    have sy := om.sl
    clear om PK PR PD A2 Fm Mm
    have BW' : Hid (Below w.heap.size w w3) := BW.out.trans (b3.mono BW.out.size)
    have Fx' : Hid (Bx w3 qx [.bool N.alive, .slice xa N.copies.length xb, .slice xc N.log.length xd, .slice xe N.cleared.length xf]) := Fx.out.later b3
    have Mx' : Hid (SlM w3 ⟨xa, xb, xc, xd, xe, xf⟩ N) := Mx.out.later b3
    clear BW Fx Mx b3
    have BW := BW'
    have Fx := Fx'
    have Mx := Mx'
    clear BW' Fx' Mx'
    obtain ⟨v3, hv3⟩ : ∃ X, X = w3.alloc (.cells #[.bool N.alive, .slice ya N.copies.length yb, .slice yc N.log.length yd, .slice ye N.cleared.length yf] 28) := ⟨_, rfl⟩
    have bv3 : Below w3.heap.size w3 v3 := by rw [hv3]; exact (Below.refl _ _).alloc (Nat.le_refl _) _
    have Fy : Hid (Bx v3 w3.heap.size [.bool N.alive, .slice ya N.copies.length yb, .slice yc N.log.length yd, .slice ye N.cleared.length yf]) := by rw [hv3]; exact Bx.made w3 [.bool N.alive, .slice ya N.copies.length yb, .slice yc N.log.length yd, .slice ye N.cleared.length yf] _
    have My : Hid (SlM v3 ⟨ya, yb, yc, yd, ye, yf⟩ N) := (sy).later bv3
    have BW' : Hid (Below w.heap.size w v3) := BW.out.trans (bv3.mono BW.out.size)
    have Fx' : Hid (Bx v3 qx [.bool N.alive, .slice xa N.copies.length xb, .slice xc N.log.length xd, .slice xe N.cleared.length xf]) := Fx.out.later bv3
    have Mx' : Hid (SlM v3 ⟨xa, xb, xc, xd, xe, xf⟩ N) := Mx.out.later bv3
    clear BW Fx Mx bv3
    have BW := BW'
    have Fx := Fx'
    have Mx := Mx'
    clear BW' Fx' Mx'
    obtain ⟨qy, hqy⟩ : ∃ q, q = w3.heap.size := ⟨_, rfl⟩
    have Fy : Hid (Bx v3 qy [.bool N.alive, .slice ya N.copies.length yb, .slice yc N.log.length yd, .slice ye N.cleared.length yf]) := by rw [hqy]; exact Fy.out
    clear sy
    have hbx := Fx.out
    have px0 := hbx.1 0 _ rfl
    have px1 := hbx.1 1 _ rfl
    have px2 := hbx.1 2 _ rfl
    have px3 := hbx.1 3 _ rfl
    clear hbx
    have hbx := Fy.out
    have py0 := hbx.1 0 _ rfl
    have py1 := hbx.1 1 _ rfl
    have py2 := hbx.1 2 _ rfl
    have py3 := hbx.1 3 _ rfl
    clear hbx
    rw [hv3] at px0 px1 px2 px3 py0 py1 py2 py3
    rw [hqy] at py0 py1 py2 py3
    have dB : (B != B) = false := by cases B <;> rfl
    have hlk := likeMachine_any v3 ⟨xa, xb, xc, xd, xe, xf⟩ ⟨ya, yb, yc, yd, ye, yf⟩ N HN.out.1 Mx.out My.out
    simp only [MV.val] at hlk
    have HLK := hidOf hlk
    clear hlk
    go_wp2_with fail
    rw [← hv3]
    clear hv3 hqy px0 px1 px2 px3 py0 py1 py2 py3
    refine HLK.out.mono ?_
    rintro e w4 ⟨rfl, b4⟩
    clear HLK Fy My
    have BW' : Hid (Below w.heap.size w w4) := BW.out.trans (b4.mono BW.out.size)
    have Fx' : Hid (Bx w4 qx [.bool N.alive, .slice xa N.copies.length xb, .slice xc N.log.length xd, .slice xe N.cleared.length xf]) := Fx.out.later b4
    have Mx' : Hid (SlM w4 ⟨xa, xb, xc, xd, xe, xf⟩ N) := Mx.out.later b4
    clear BW Fx Mx b4
    have BW := BW'
    have Fx := Fx'
    have Mx := Mx'
    clear BW' Fx' Mx'
    go_wp2_with fail
    refine (DrawTurn_any w4 a n k ((HB.out.below BW.out).mono BW.out.size) hn).mono ?_
    rintro e w5 ⟨⟨na, nb, nc, nd, ne, nf⟩, nm, u, q, rfl, sn, ln, b5⟩
    simp only [MV.val]
    have A3 : Hid (∀ (X : World), SlM X ⟨na, nb, nc, nd, ne, nf⟩ nm → Calls Tryz.prog 25 #[.agg #[.bool nm.alive, .slice na nm.copies.length nb, .slice nc nm.log.length nd, .slice ne nm.cleared.length nf], .int .i64 u, .int .i64 q] X (MAns X (ansT nm u q))) := fun X h => by
      have hh := implTurn_any X ⟨na, nb, nc, nd, ne, nf⟩ nm u q ln h
      simp only [MV.val] at hh
      exact hh
    have A4 : Hid (∀ (X : World), SlM X ⟨na, nb, nc, nd, ne, nf⟩ nm → Calls Tryz.prog 26 #[.agg #[.bool nm.alive, .slice na nm.copies.length nb, .slice nc nm.log.length nd, .slice ne nm.cleared.length nf], .int .i64 u, .int .i64 q] X (MAns X (ansT nm u q))) := fun X h => by
      have hh := specTurn_any X ⟨na, nb, nc, nd, ne, nf⟩ nm u q ln h
      simp only [MV.val] at hh
      exact hh
    have HT : Hid (ML (ansT nm u q) ∧ ansH (ansT nm u q) u q 1 = false) := ⟨turn_ml ln, turn_none nm u q⟩
    obtain ⟨Z, hZ⟩ : ∃ Z, ansT nm u q = Z := ⟨_, rfl⟩
    simp only [hZ] at A3 A4 HT
    clear hZ
    have BW' : Hid (Below w.heap.size w w5) := BW.out.trans (b5.mono BW.out.size)
    have Fx' : Hid (Bx w5 qx [.bool N.alive, .slice xa N.copies.length xb, .slice xc N.log.length xd, .slice xe N.cleared.length xf]) := Fx.out.later b5
    have Mx' : Hid (SlM w5 ⟨xa, xb, xc, xd, xe, xf⟩ N) := Mx.out.later b5
    clear BW Fx Mx b5
    have BW := BW'
    have Fx := Fx'
    have Mx := Mx'
    clear BW' Fx' Mx'
    obtain ⟨v5, hv5⟩ : ∃ X, X = w5.alloc (.cells #[.bool nm.alive, .slice na nm.copies.length nb, .slice nc nm.log.length nd, .slice ne nm.cleared.length nf] 28) := ⟨_, rfl⟩
    have bv5 : Below w5.heap.size w5 v5 := by rw [hv5]; exact (Below.refl _ _).alloc (Nat.le_refl _) _
    have Fn : Hid (Bx v5 w5.heap.size [.bool nm.alive, .slice na nm.copies.length nb, .slice nc nm.log.length nd, .slice ne nm.cleared.length nf]) := by rw [hv5]; exact Bx.made w5 [.bool nm.alive, .slice na nm.copies.length nb, .slice nc nm.log.length nd, .slice ne nm.cleared.length nf] _
    have Mn : Hid (SlM v5 ⟨na, nb, nc, nd, ne, nf⟩ nm) := (sn).later bv5
    have BW' : Hid (Below w.heap.size w v5) := BW.out.trans (bv5.mono BW.out.size)
    have Fx' : Hid (Bx v5 qx [.bool N.alive, .slice xa N.copies.length xb, .slice xc N.log.length xd, .slice xe N.cleared.length xf]) := Fx.out.later bv5
    have Mx' : Hid (SlM v5 ⟨xa, xb, xc, xd, xe, xf⟩ N) := Mx.out.later bv5
    clear BW Fx Mx bv5
    have BW := BW'
    have Fx := Fx'
    have Mx := Mx'
    clear BW' Fx' Mx'
    obtain ⟨qn, hqn⟩ : ∃ q, q = w5.heap.size := ⟨_, rfl⟩
    have Fn : Hid (Bx v5 qn [.bool nm.alive, .slice na nm.copies.length nb, .slice nc nm.log.length nd, .slice ne nm.cleared.length nf]) := by rw [hqn]; exact Fn.out
    clear sn ln
    have hbx := Fn.out
    have pn0 := hbx.1 0 _ rfl
    have pn1 := hbx.1 1 _ rfl
    have pn2 := hbx.1 2 _ rfl
    have pn3 := hbx.1 3 _ rfl
    clear hbx
    rw [hv5] at pn0 pn1 pn2 pn3
    rw [hqn] at pn0 pn1 pn2 pn3
    go_wp2_with fail
    rw [← hv5, ← hqn]
    clear hv5 hqn pn0 pn1 pn2 pn3
    refine (A3.out v5 Mn.out).mono ?_
    rintro e w6 ⟨za, zb, zc, zd, ze, zf, PK, PR, PD, rfl, om, -, b6⟩
    have sz := om.sl
    simp only [MV.val]
    clear om PK PR PD A3
    have BW' : Hid (Below w.heap.size w w6) := BW.out.trans (b6.mono BW.out.size)
    have Fx' : Hid (Bx w6 qx [.bool N.alive, .slice xa N.copies.length xb, .slice xc N.log.length xd, .slice xe N.cleared.length xf]) := Fx.out.later b6
    have Mx' : Hid (SlM w6 ⟨xa, xb, xc, xd, xe, xf⟩ N) := Mx.out.later b6
    have Fn' : Hid (Bx w6 qn [.bool nm.alive, .slice na nm.copies.length nb, .slice nc nm.log.length nd, .slice ne nm.cleared.length nf]) := Fn.out.later b6
    have Mn' : Hid (SlM w6 ⟨na, nb, nc, nd, ne, nf⟩ nm) := Mn.out.later b6
    clear BW Fx Mx Fn Mn b6
    have BW := BW'
    have Fx := Fx'
    have Mx := Mx'
    have Fn := Fn'
    have Mn := Mn'
    clear BW' Fx' Mx' Fn' Mn'
    obtain ⟨v6, hv6⟩ : ∃ X, X = w6.alloc (.cells #[.bool Z.alive, .slice za Z.copies.length zb, .slice zc Z.log.length zd, .slice ze Z.cleared.length zf] 28) := ⟨_, rfl⟩
    have bv6 : Below w6.heap.size w6 v6 := by rw [hv6]; exact (Below.refl _ _).alloc (Nat.le_refl _) _
    have Fz : Hid (Bx v6 w6.heap.size [.bool Z.alive, .slice za Z.copies.length zb, .slice zc Z.log.length zd, .slice ze Z.cleared.length zf]) := by rw [hv6]; exact Bx.made w6 [.bool Z.alive, .slice za Z.copies.length zb, .slice zc Z.log.length zd, .slice ze Z.cleared.length zf] _
    have Mz : Hid (SlM v6 ⟨za, zb, zc, zd, ze, zf⟩ Z) := (sz).later bv6
    have BW' : Hid (Below w.heap.size w v6) := BW.out.trans (bv6.mono BW.out.size)
    have Fx' : Hid (Bx v6 qx [.bool N.alive, .slice xa N.copies.length xb, .slice xc N.log.length xd, .slice xe N.cleared.length xf]) := Fx.out.later bv6
    have Mx' : Hid (SlM v6 ⟨xa, xb, xc, xd, xe, xf⟩ N) := Mx.out.later bv6
    have Fn' : Hid (Bx v6 qn [.bool nm.alive, .slice na nm.copies.length nb, .slice nc nm.log.length nd, .slice ne nm.cleared.length nf]) := Fn.out.later bv6
    have Mn' : Hid (SlM v6 ⟨na, nb, nc, nd, ne, nf⟩ nm) := Mn.out.later bv6
    clear BW Fx Mx Fn Mn bv6
    have BW := BW'
    have Fx := Fx'
    have Mx := Mx'
    have Fn := Fn'
    have Mn := Mn'
    clear BW' Fx' Mx' Fn' Mn'
    obtain ⟨qz, hqz⟩ : ∃ q, q = w6.heap.size := ⟨_, rfl⟩
    have Fz : Hid (Bx v6 qz [.bool Z.alive, .slice za Z.copies.length zb, .slice zc Z.log.length zd, .slice ze Z.cleared.length zf]) := by rw [hqz]; exact Fz.out
    clear sz
    go_upto_region 10 with fail
    rw [← hv6, ← hqz]
    clear hv6 hqz
    go_cut [70] from 64 to 70 (fun s0 wx => s0 = .bool false ∧ Below v6.heap.size v6 wx)
    case first =>
      have bd : Below v6.heap.size v6 v6.drew := (Below.refl _ _).drew
      have hbx := Fn.out.later bd
      have p0 := hbx.1 0 _ rfl
      have p1 := hbx.1 1 _ rfl
      have p2 := hbx.1 2 _ rfl
      have p3 := hbx.1 3 _ rfl
      clear hbx
      have hbx := Fz.out.later bd
      have e0 := hbx.1 0 _ rfl
      have e1 := hbx.1 1 _ rfl
      have e2 := hbx.1 2 _ rfl
      have e3 := hbx.1 3 _ rfl
      have hq : qz < v6.drew.heap.size := hbx.2.2
      clear hbx
      have sx : Hid (SlM v6.drew ⟨za, zb, zc, zd, ze, zf⟩ Z) := Mz.out.later bd
      have ra := hidOf (A4.out v6.drew (Mn.out.later bd))
      have KB := hidOf bd
      have HL : Hid (∀ (X : World) (ia : Option Addr) (ib : Nat) (ic : Option Addr) (id : Nat) (ie : Option Addr) (jf : Nat), SlM X ⟨za, zb, zc, zd, ze, zf⟩ Z → SlM X ⟨ia, ib, ic, id, ie, jf⟩ Z → Calls Tryz.prog 12 #[.agg #[.bool Z.alive, .slice za Z.copies.length zb, .slice zc Z.log.length zd, .slice ze Z.cleared.length zf], .agg #[.bool Z.alive, .slice ia Z.copies.length ib, .slice ic Z.log.length id, .slice ie Z.cleared.length jf]] X fun e w' => e = .returned (.bool true) ∧ Below X.heap.size X w') := fun X ia ib ic id ie jf h1 h2 => by
        have hh := likeMachine_any X ⟨za, zb, zc, zd, ze, zf⟩ ⟨ia, ib, ic, id, ie, jf⟩ Z HT.out.1 h1 h2
        simp only [MV.val] at hh
        exact hh
      clear bd
      go_region_with (first
        | (go_at_call 26
           refine ra.out.mono ?_
           rintro e w8 ⟨ia, ib, ic, id, ie, jf, PK, PR, PD, rfl, om, -, b8⟩
           simp only [MV.val]
           have e0' : w8.cell? ⟨qz, 0, none⟩ = some (.bool Z.alive) := (b8.cell (p := ⟨qz, 0, none⟩) hq).trans e0
           have e1' : w8.cell? ⟨qz, 1, none⟩ = some (.slice za Z.copies.length zb) := (b8.cell (p := ⟨qz, 1, none⟩) hq).trans e1
           have e2' : w8.cell? ⟨qz, 2, none⟩ = some (.slice zc Z.log.length zd) := (b8.cell (p := ⟨qz, 2, none⟩) hq).trans e2
           have e3' : w8.cell? ⟨qz, 3, none⟩ = some (.slice ze Z.cleared.length zf) := (b8.cell (p := ⟨qz, 3, none⟩) hq).trans e3
           have S8 : Hid (SlM w8 ⟨za, zb, zc, zd, ze, zf⟩ Z ∧ SlM w8 ⟨ia, ib, ic, id, ie, jf⟩ Z ∧ Below v6.heap.size v6 w8) := ⟨sx.out.later b8, om.sl, bstep KB.out b8⟩
           clear om b8)
        | (go_at_call 12
           refine (HL.out w8 ia ib ic id ie jf S8.out.1 S8.out.2.1).mono ?_
           rintro e w9 ⟨rfl, b9⟩))
      all_goals (
        go_wp2_with fail
        go_meet
        exact ⟨rfl, bstep S8.out.2.2 b9⟩)
    case rest =>
    obtain ⟨rfl, bx⟩ := hcut
    generalize wc = w7 at *
    clear A4 Fn Mn
    have BW' : Hid (Below w.heap.size w w7) := BW.out.trans (bx.mono BW.out.size)
    have Fx' : Hid (Bx w7 qx [.bool N.alive, .slice xa N.copies.length xb, .slice xc N.log.length xd, .slice xe N.cleared.length xf]) := Fx.out.later bx
    have Mx' : Hid (SlM w7 ⟨xa, xb, xc, xd, xe, xf⟩ N) := Mx.out.later bx
    have Fz' : Hid (Bx w7 qz [.bool Z.alive, .slice za Z.copies.length zb, .slice zc Z.log.length zd, .slice ze Z.cleared.length zf]) := Fz.out.later bx
    have Mz' : Hid (SlM w7 ⟨za, zb, zc, zd, ze, zf⟩ Z) := Mz.out.later bx
    clear BW Fx Mx Fz Mz bx
    have BW := BW'
    have Fx := Fx'
    have Mx := Mx'
    have Fz := Fz'
    have Mz := Mz'
    clear BW' Fx' Mx' Fz' Mz'
    have hbx := Fz.out
    have pz0 := hbx.1 0 _ rfl
    have pz1 := hbx.1 1 _ rfl
    have pz2 := hbx.1 2 _ rfl
    have pz3 := hbx.1 3 _ rfl
    clear hbx
    have hlg := implLogged_any w7 ⟨za, zb, zc, zd, ze, zf⟩ Z u q 1 HT.out.1 Mz.out
    unfold LogAns at hlg
    rw [HT.out.2] at hlg
    obtain ⟨⟨r0, r1, r2, r3⟩, hrv⟩ : ∃ r, ansV Z u q 1 = r := ⟨_, rfl⟩
    rw [hrv] at hlg
    simp only [MV.val, R4.val] at hlg
    have HLG := hidOf hlg
    clear hlg hrv
    go_wp2_with fail
    refine HLG.out.mono ?_
    rintro e w8 ⟨ga, gc, rfl, -, b8⟩
    clear HLG pz0 pz1 pz2 pz3 Fz Mz
    have BW' : Hid (Below w.heap.size w w8) := BW.out.trans (b8.mono BW.out.size)
    have Fx' : Hid (Bx w8 qx [.bool N.alive, .slice xa N.copies.length xb, .slice xc N.log.length xd, .slice xe N.cleared.length xf]) := Fx.out.later b8
    have Mx' : Hid (SlM w8 ⟨xa, xb, xc, xd, xe, xf⟩ N) := Mx.out.later b8
    clear BW Fx Mx b8
    have BW := BW'
    have Fx := Fx'
    have Mx := Mx'
    clear BW' Fx' Mx'
    obtain ⟨v8, hv8⟩ : ∃ X, X = w8.alloc (.cells #[.int .i64 r0, .int .i64 r1, .int .i64 r2, .slice ga r3.length gc] 41) := ⟨_, rfl⟩
    have bv8 : Below w8.heap.size w8 v8 := by rw [hv8]; exact (Below.refl _ _).alloc (Nat.le_refl _) _
    have BW' : Hid (Below w.heap.size w v8) := BW.out.trans (bv8.mono BW.out.size)
    have Fx' : Hid (Bx v8 qx [.bool N.alive, .slice xa N.copies.length xb, .slice xc N.log.length xd, .slice xe N.cleared.length xf]) := Fx.out.later bv8
    have Mx' : Hid (SlM v8 ⟨xa, xb, xc, xd, xe, xf⟩ N) := Mx.out.later bv8
    clear BW Fx Mx bv8
    have BW := BW'
    have Fx := Fx'
    have Mx := Mx'
    clear BW' Fx' Mx'
    have hbx := Fx.out
    have px0 := hbx.1 0 _ rfl
    have px1 := hbx.1 1 _ rfl
    have px2 := hbx.1 2 _ rfl
    have px3 := hbx.1 3 _ rfl
    clear hbx
    have hB2 : B = false ∨ B = true := by cases B <;> simp
    rcases hB2 with rfl | rfl
    · obtain rfl := HN.out.2.2 rfl
      have hlk := likeMachine_any v8 ⟨xa, xb, xc, xd, xe, xf⟩ ⟨none, 0, none, 0, none, 0⟩ ⟨false, [], [], []⟩ HN.out.1 Mx.out ⟨⟨rfl, .inl rfl⟩, ⟨rfl, .inl rfl⟩, ⟨rfl, .inl rfl⟩⟩
      simp only [MV.val, List.length_nil] at hlk px0 px1 px2 px3
      have HLK := hidOf hlk
      clear hlk HN
      rw [hv8] at px0 px1 px2 px3
      go_wp2_with fail
      rw [← hv8]
      refine HLK.out.mono ?_
      rintro e w9 ⟨rfl, b9⟩
      have B9 : Hid (Below w.heap.size w w9) := bstep BW.out b9
      clear b9 px0 px1 px2 px3
      go_wp2
      go_ret
      exact ⟨rfl, B9.out⟩
    · obtain ⟨nok, nno, nhas⟩ := HN.out.2.1 rfl
      have HQ : Hid (machB N = true ∧ (∀ k, k < N.log.length → ofB t g (atR N.log k) = false) ∧ (d = true → hasN N.cleared t = true) ∧ ML N) := ⟨nok, nno, nhas, HN.out.1⟩
      have hlr : N.log.length ≤ maxLen := HN.out.1.r
      have hln : N.cleared.length ≤ maxLen := HN.out.1.n
      unfold maxLen at hlr hln
      clear nok nno nhas HN
      have PX : Hid (v8.cell? ⟨qx, 0, none⟩ = some (.bool N.alive) ∧ v8.cell? ⟨qx, 1, none⟩ = some (.slice xa N.copies.length xb)) := ⟨px0, px1⟩
      clear px0 px1
      go_wp2
      rw [← hv8]
      clear hv8
      go_loop [17] (fun v17 => ∃ i : Nat, i ≤ N.log.length ∧ v17 = .int .i64 i) (fun v17 => N.log.length - (intOf v17).toNat)
      case atStart => exact ⟨0, Nat.zero_le _, rfl⟩
      case round =>
        obtain ⟨i, hi, rfl⟩ := hrel
        by_cases hlt : i < N.log.length
        · have hlt' : (i : Int) < (N.log.length : Int) := by omega
          obtain ⟨_, hsr⟩ := Mx.out.r
          rcases hsr with h0 | ⟨b, off, rfl, hb, hr⟩
          · omega
          · have r1' := (hr i _ (atR_of hlt)).c1
            have r2' := (hr i _ (atR_of hlt)).c2
            have hno := HQ.out.2.1 i hlt
            simp only [ofB] at hno
            clear hr hb
            cases ht : (atR N.log i).tx == t with
            | false =>
              clear hno
              go_wp2
              exact ⟨⟨i + 1, by omega, by simp⟩, by simp [intOf]; omega⟩
            | true =>
              rw [ht, Bool.true_and] at hno
              go_wp2
              exact ⟨⟨i + 1, by omega, by simp⟩, by simp [intOf]; omega⟩
        · obtain rfl : N.log.length = i := by omega
          have hd : decide ((N.log.length : Int) < (N.log.length : Int)) = false := by simp
          go_wp2
          go_loop [18, 19] (fun v18 v19 => ∃ i : Nat, i ≤ N.cleared.length ∧ v19 = .int .i64 i ∧ v18 = .bool (!d || hasN (N.cleared.take i) t)) (fun _ v19 => N.cleared.length - (intOf v19).toNat)
          case atStart => exact ⟨0, Nat.zero_le _, rfl, by simp [hasN]⟩
          case round =>
            obtain ⟨i, hi, rfl, rfl⟩ := hrel
            by_cases hlt : i < N.cleared.length
            · have hlt' : (i : Int) < (N.cleared.length : Int) := by omega
              have HTK : Hid (hasN (N.cleared.take (i + 1)) t = (hasN (N.cleared.take i) t || (atN N.cleared i == t))) := hasN_take hlt
              obtain ⟨f, hf⟩ : ∃ f, (!d || hasN (N.cleared.take i) t) = f := ⟨_, rfl⟩
              have HF : Hid ((!d || hasN (N.cleared.take (i + 1)) t) = (f || (atN N.cleared i == t))) := by unfold Hid; rw [HTK.out, ← hf, Bool.or_assoc]
              rw [hf]
              clear hf HTK
              cases f with
              | true =>
                go_wp2
                exact ⟨⟨i + 1, by omega, by simp, by rw [HF.out]; rfl⟩, by simp [intOf]; omega⟩
              | false =>
                obtain ⟨_, hsn⟩ := Mx.out.n
                rcases hsn with h0 | ⟨b, off, rfl, hb, hr⟩
                · omega
                · have cz := hr i _ (atN_of hlt)
                  clear hr hb
                  obtain ⟨ev, hev⟩ : ∃ ev, (atN N.cleared i == t) = ev := ⟨_, rfl⟩
                  rw [hev] at HF
                  go_wp2
                  exact ⟨⟨i + 1, by omega, by simp, by rw [HF.out]; rfl⟩, by simp [intOf]; omega⟩
            · obtain rfl : N.cleared.length = i := by omega
              have hd2 : decide ((N.cleared.length : Int) < (N.cleared.length : Int)) = false := by simp
              have hfin : (!d || hasN (N.cleared.take N.cleared.length) t) = true := by
                rw [List.take_length]
                cases d with
                | false => rfl
                | true => rw [HQ.out.2.2.1 rfl]; rfl
              rw [hfin]
              clear hfin
              have hok := implMachineOk_any v8 ⟨xa, xb, xc, xd, xe, xf⟩ N HQ.out.2.2.2 Mx.out
              rw [HQ.out.1] at hok
              simp only [MV.val] at hok
              have HOK := hidOf hok
              obtain ⟨px0, px1⟩ := PX.out
              clear hok HQ
              go_wp2_with fail
              refine HOK.out.mono ?_
              rintro e w9 ⟨rfl, b9⟩
              have B9 : Hid (Below w.heap.size w w9) := bstep BW.out b9
              clear b9 px0 px1 px2 px3
              go_wp2
              go_ret
              exact ⟨rfl, B9.out⟩
  · go_enter Tryz.func4, Tryz.ntmps4
    have hbig : (4096 : Int) < (n : Int) := by omega
    go_wp2_with (go_at_call 8; go_in)
    go_ret
    exact ⟨rfl, Below.refl _ _⟩
set_option maxRecDepth 100000 in
theorem lifted (os : Os) (started : os.Started) (H : Type) (enc : TypeId × Value → H) :
    ReturnsInHanded {} Tryz.checked os 4 .any (Rows.fnClearedSpec.pre6 enc Tryz.prog Tryz.f4 Rows.fnClearedRow.domain false) (Rows.fnClearedSpec.post enc Tryz.prog Tryz.f4 false true false false) := by
  refine returnsInHanded_of_change (C := Tryz.checked) own started (by kernel_rfl) Tryz.func4
    (ChangeSpec.witness6 (enc := enc) (C := Tryz.checked) false ⟨#[], #[.slice none 0 0], []⟩ 8 (by kernel_rfl) (by kernel_rfl) (by kernel_rfl) (by kernel_rfl)) ?_
  intro W base args ds gs before hval0 hW hcnd _
  have hval : ∀ (j : Nat) t v, Tryz.f4.params[j]? = some t → args[j]? = some v → Value.okWide Tryz.prog W .any base t v := hval0
  have hW' := hW
  obtain ⟨p, q, hA0, hV, rfl, hfz, hnd⟩ := hW
  have hA : DataW.TrodAll enc Tryz.prog W 0 (fun _ => true) true Tryz.f4.params.toList args.toList ds p := hA0
  rw [Tryz.params4] at hA hval
  obtain ⟨v0, vs0, d0, ds0, p0, q0, hargs, rfl, rfl, h0, r0⟩ := trodAll_cons hA
  obtain ⟨rfl, rfl, rfl⟩ := trodAll_nil r0
  obtain rfl : args = #[v0] := by cases args; simp_all
  obtain ⟨rfl, rfl⟩ := trodVars_none hV
  obtain ⟨a0, len0, cap0, rfl⟩ := okWide_slice Tryz.underlying22 (hval 0 22 v0 rfl rfl)
  have k0 := h0
  have lt0 : ∀ x ∈ p0, x.block < W.heap.size := by obtain ⟨m, hm⟩ := k0; exact DataW.trod_lt m _ _ _ hm
  obtain ⟨z0, w0⟩ : ∃ zs, IsRow .u8 W a0 len0 cap0 zs := by
    obtain ⟨fuel, hf⟩ := h0
    rcases open_ints Tryz.underlying22 Tryz.underlying5 (by kernel_rfl) hf with ⟨hcs, _⟩ | ⟨x, l, c, zs, hcs, _, hl, hm, hz, _, hcell, hwz⟩
    · simp [Value.cells] at hcs
      obtain ⟨rfl, rfl, rfl⟩ := hcs
      exact ⟨[], .inl ⟨rfl, rfl, rfl, rfl⟩⟩
    · simp [Value.cells] at hcs
      obtain ⟨rfl, rfl, rfl⟩ := hcs
      exact ⟨zs, .inr ⟨_, rfl, hl, hm, by simpa using hz, hcell, hwz⟩⟩
  clear hA0 hval0
  refine (walk a0 len0 cap0 W w0.bytes).mono fun e W' ⟨he, bel⟩ => ?_
  subst he
  exact ⟨_, rfl, _, _, _, [], _, [], hW', trodAll_mk1 (shut_bool Tryz.underlying4 _), (trodAll_cons_mk (Below.trod laidOut (by kernel_rfl) (of_decide_eq_true (by kernel_rfl)) k0 bel lt0) trodAll_mk0), rfl, bel.frame _, fun h => by cases h⟩

theorem over : Rows.fnClearedRow.holds Tryz.pinned (OpenSpec.ofChange Rows.fnClearedSpec) :=
  OpenClaim.holds_of_wide 4 Tryz.f4 rfl rfl rfl rfl rfl rfl rfl ⟨rfl, rfl, rfl, rfl, rfl⟩ rfl rfl rfl rfl rfl (by kernel_rfl) Tryz.func4 (by kernel_rfl)
    (of_decide_eq_true (by kernel_rfl)) (by unfold Func.isWrapper; first | (rw [if_pos (by decide +kernel)]; kernel_rfl) | (rw [if_neg (by decide +kernel)]; exact ⟨rfl, rfl⟩))
    (fun os started H enc _ => lifted os started H enc)

end Go.Proofs.YtbkcmbbeknljiaaGreat.fnCleared
namespace Go.Proofs.YtbkcmbbeknljiaaGreat
theorem fnCleared_holds : Rows.FnClearedSaid := fnCleared.over
#print axioms fnCleared_holds
end Go.Proofs.YtbkcmbbeknljiaaGreat
