/- FnNoted: at every code a note or a Set that is added to the drawn transaction stands once, the transaction is right again, adding it once more changes nothing of the notes and no version of the Sets; AddRead and AddSet answer as the specification does: no condition. -/
import Derived.Test.YtiidlcjjaglkdaaRows
import Derived.Test.YtiidlcjjaglkdaaJ11LawNoted
import Derived.Test.YtiidlcjjaglkdaaJ12LawNoted
import Derived.Test.YtiidlcjjaglkdaaJ3LawNoted
import Derived.WalkKit
import Derived.ProofKit
import Derived.OpenShut
import Derived.WalkSpells
import Derived.WalkLawsBesides
import Derived.Deep.RegionWith
import Derived.Deep.QuietTactic
import Derived.BigQuiet
import Derived.Deep.CutRange
namespace Go.Proofs.Ytiidlcjjaglkdaa.fnNoted
open Go.ChangeShapes Go.WideShapes Go.ChangeAt Go.RowKit
open Go.Sort (grow)
theorem own : ownKnob Try.prog.godebug = none := by kernel_rfl
theorem laidOut : laidOutB Try.prog = true := by kernel_rfl
def NBx (X : World) (q : Nat) (s : N5) : Prop := NoteAt X q 0 s ∧ q < X.heap.size
theorem NBx.later {X Y : World} {q : Nat} {s : N5} (h : NBx X q s) (hb : Below X.heap.size X Y) : NBx Y q s := ⟨h.1.below hb h.2, Nat.lt_of_lt_of_le h.2 hb.size⟩
def SBx (X : World) (q : Nat) (s : S5) : Prop := SetAt X q 0 s ∧ q < X.heap.size
theorem SBx.later {X Y : World} {q : Nat} {s : S5} (h : SBx X q s) (hb : Below X.heap.size X Y) : SBx Y q s := ⟨h.1.below hb h.2, Nat.lt_of_lt_of_le h.2 hb.size⟩
structure Lp (w : World) (q : Nat) (v : TV) (z : T7) (q' : Nat) (v' : TV) (y : T7) (X : World) : Prop where
  bz : BT X q v z
  sz : SlT X v z
  by' : BT X q' v' y
  sy : SlT X v' y
  be : Below w.heap.size w X
theorem Lp.drewN {w : World} {q : Nat} {v : TV} {z : T7} {q' : Nat} {v' : TV} {y : T7} {X : World} (h : Lp w q v z q' v' y X) (m : Nat) : Lp w q v z q' v' y (X.drewN m) := by
  have hb := below_dn (Below.refl X.heap.size X) m
  exact ⟨h.bz.later hb, h.sz.later hb, h.by'.later hb, h.sy.later hb, h.be.trans (hb.mono h.be.size)⟩
set_option maxRecDepth 100000 in
set_option maxHeartbeats 32000000 in
theorem walk (a : Option Addr) (n k : Nat) (w : World) (hb : Bytes w w.heap.size a n) :
    Calls Try.prog 3 #[.slice a n k] w fun e w' => e = .returned (.bool true) ∧ Below w.heap.size w w' := by
  have hmm := hb.1
  unfold maxLen at hmm
  by_cases hn : n ≤ 4096
  · have HB : Hid (Bytes w w.heap.size a n) := hb
    clear hb
    go_enter Try.func3, Try.ntmps3
    go_wp2_with (go_at_call 8; go_in)
    refine (DrawAddRead_any w a n k HB.out hn).mono ?_
    rintro e w1 ⟨⟨ta, tb, tc, td⟩, t, m, rfl, st, lt1, lt2, ct, -, b1⟩
    simp only [TV.val]
    dsimp only at ct
    have lT : TL t := ⟨by unfold maxLen; omega, by unfold maxLen; omega⟩
    have A1 : Hid (∀ (X : World), SlT X ⟨ta, tb, tc, td⟩ t → Calls Try.prog 10 #[.agg #[.int .i64 t.id, .int .i64 t.home, .int .i64 t.phase, .int .i64 t.count, .slice ta t.reads.length tb, .slice tc t.sets.length td, .int .i64 t.stamp], .agg #[.int .i64 m.region, .int .i64 m.slot, .int .i64 m.version, .int .i64 m.value, .bool m.used]] X (TAns X (addN t m) (addNB t m))) := fun X h => by
      have hh := implAddRead_any X ⟨ta, tb, tc, td⟩ t m lT h
      simp only [TV.val] at hh
      exact hh
    have A2 : Hid (∀ (X : World), SlT X ⟨ta, tb, tc, td⟩ t → Calls Try.prog 11 #[.agg #[.int .i64 t.id, .int .i64 t.home, .int .i64 t.phase, .int .i64 t.count, .slice ta t.reads.length tb, .slice tc t.sets.length td, .int .i64 t.stamp], .agg #[.int .i64 m.region, .int .i64 m.slot, .int .i64 m.version, .int .i64 m.value, .bool m.used]] X (TAnsR X (addN t m) (addNB t m))) := fun X h => by
      have hh := specAddRead_anyR X ⟨ta, tb, tc, td⟩ t m lT h ct
      simp only [TV.val] at hh
      exact hh
    have lX : TL (addN t m) := by have h := addN_lens t m; exact ⟨by unfold maxLen; omega, by unfold maxLen; omega⟩
    have A3 : Hid (addNB t m = true → ∀ (X : World) (xa : Option Addr) (xb : Nat) (xc : Option Addr) (xd : Nat), SlT X ⟨xa, xb, xc, xd⟩ (addN t m) → Calls Try.prog 10 #[.agg #[.int .i64 (addN t m).id, .int .i64 (addN t m).home, .int .i64 (addN t m).phase, .int .i64 (addN t m).count, .slice xa (addN t m).reads.length xb, .slice xc (addN t m).sets.length xd, .int .i64 (addN t m).stamp], .agg #[.int .i64 m.region, .int .i64 m.slot, .int .i64 m.version, .int .i64 m.value, .bool m.used]] X (TAns X (addN t m) true)) := fun hb X xa xb xc xd h => by
      have hh := implAddRead_any X ⟨xa, xb, xc, xd⟩ (addN t m) m lX h
      rw [(addN_right hb).2.2.1, (addN_right hb).2.2.2] at hh
      simp only [TV.val] at hh
      exact hh
    have HX : Hid (TL (addN t m) ∧ (addNB t m = true → txB (addN t m) = true ∧ (addN t m).reads.length ≤ t.reads.length + 1)) := ⟨lX, fun h => ⟨(addN_right h).1, (addN_right h).2.1⟩⟩
    obtain ⟨x, hx⟩ : ∃ x, addN t m = x := ⟨_, rfl⟩
    obtain ⟨is, his⟩ : ∃ b, addNB t m = b := ⟨_, rfl⟩
    simp only [hx, his] at A1 A2 A3 HX
    clear hx his lX lT ct
    have BW : Hid (Below w.heap.size w w1) := b1
    clear b1
    have HT : Hid (t.reads.length ≤ 100 ∧ t.sets.length ≤ 100) := ⟨lt1, lt2⟩
    clear lt1 lt2
    obtain ⟨v1, hv1⟩ : ∃ X, X = (w1.alloc (.cells #[.int .i64 t.id, .int .i64 t.home, .int .i64 t.phase, .int .i64 t.count, .slice ta t.reads.length tb, .slice tc t.sets.length td, .int .i64 t.stamp] 27)).alloc (.cells #[.int .i64 m.region, .int .i64 m.slot, .int .i64 m.version, .int .i64 m.value, .bool m.used] 29) := ⟨_, rfl⟩
    have bv1 : Below w1.heap.size w1 v1 := by rw [hv1]; exact ((Below.refl _ _).alloc (Nat.le_refl _) _).alloc (by simp) _
    have Ft : Hid (BT v1 w1.heap.size ⟨ta, tb, tc, td⟩ t) := by rw [hv1]; exact (BT.box w1 ⟨ta, tb, tc, td⟩ t _).later ((Below.refl _ _).alloc (Nat.le_refl _) _)
    have Fm : Hid (NBx v1 (w1.heap.size + 1) m) := by
      rw [hv1]
      have hh := NoteAt.box (w1.alloc (.cells #[.int .i64 t.id, .int .i64 t.home, .int .i64 t.phase, .int .i64 t.count, .slice ta t.reads.length tb, .slice tc t.sets.length td, .int .i64 t.stamp] 27)) m 29
      rw [show (w1.alloc (.cells #[.int .i64 t.id, .int .i64 t.home, .int .i64 t.phase, .int .i64 t.count, .slice ta t.reads.length tb, .slice tc t.sets.length td, .int .i64 t.stamp] 27)).heap.size = w1.heap.size + 1 by simp] at hh
      exact ⟨hh, by simp⟩
    have Mt : Hid (SlT v1 ⟨ta, tb, tc, td⟩ t) := (st).later bv1
    have BW' : Hid (Below w.heap.size w v1) := BW.out.trans (bv1.mono BW.out.size)
    clear BW bv1
    have BW := BW'
    clear BW'
    obtain ⟨qt, hqt⟩ : ∃ q, q = w1.heap.size := ⟨_, rfl⟩
    have Ft : Hid (BT v1 qt ⟨ta, tb, tc, td⟩ t) := by rw [hqt]; exact Ft.out
    have Fm : Hid (NBx v1 (qt + 1) m) := by rw [hqt]; exact Fm.out
    clear st
    have pt0 := Ft.out.c0
    have pt1 := Ft.out.c1
    have pt2 := Ft.out.c2
    have pt3 := Ft.out.c3
    have pt4 := Ft.out.c4
    have pt5 := Ft.out.c5
    have pt6 := Ft.out.c6
    dsimp only at pt4 pt5
    obtain ⟨pm0, pm1, pm2, pm3, pm4⟩ := Fm.out.1
    simp only [Nat.zero_add] at pm1 pm2 pm3 pm4
    rw [hv1] at pt0 pt1 pt2 pt3 pt4 pt5 pt6 pm0 pm1 pm2 pm3 pm4
    rw [hqt] at pt0 pt1 pt2 pt3 pt4 pt5 pt6 pm0 pm1 pm2 pm3 pm4
    go_wp2_with fail
    rw [← hv1, ← hqt]
    clear hv1 hqt pt0 pt1 pt2 pt3 pt4 pt5 pt6 pm0 pm1 pm2 pm3 pm4
    refine (A1.out v1 Mt.out).mono ?_
    rintro e w2 ⟨xa, xb, xc, xd, PR, PS, rfl, ot, bw2⟩
    have sx := ot.sl
    clear ot PR PS
    have BW' : Hid (Below w.heap.size w w2) := BW.out.trans (bw2.mono BW.out.size)
    have Ft' : Hid (BT w2 qt ⟨ta, tb, tc, td⟩ t) := Ft.out.later bw2
    have Mt' : Hid (SlT w2 ⟨ta, tb, tc, td⟩ t) := Mt.out.later bw2
    have Fm' : Hid (NBx w2 (qt + 1) m) := Fm.out.later bw2
    clear BW Ft Mt Fm bw2
    have BW := BW'
    have Ft := Ft'
    have Mt := Mt'
    have Fm := Fm'
    clear BW' Ft' Mt' Fm'
    obtain ⟨v2, hv2⟩ : ∃ X, X = w2.alloc (.cells #[.int .i64 x.id, .int .i64 x.home, .int .i64 x.phase, .int .i64 x.count, .slice xa x.reads.length xb, .slice xc x.sets.length xd, .int .i64 x.stamp] 27) := ⟨_, rfl⟩
    have bv2 : Below w2.heap.size w2 v2 := by rw [hv2]; exact (Below.refl _ _).alloc (Nat.le_refl _) _
    have Fx : Hid (BT v2 w2.heap.size ⟨xa, xb, xc, xd⟩ x) := by rw [hv2]; exact BT.box w2 ⟨xa, xb, xc, xd⟩ x _
    have Mx : Hid (SlT v2 ⟨xa, xb, xc, xd⟩ x) := (sx).later bv2
    have BW' : Hid (Below w.heap.size w v2) := BW.out.trans (bv2.mono BW.out.size)
    have Ft' : Hid (BT v2 qt ⟨ta, tb, tc, td⟩ t) := Ft.out.later bv2
    have Mt' : Hid (SlT v2 ⟨ta, tb, tc, td⟩ t) := Mt.out.later bv2
    have Fm' : Hid (NBx v2 (qt + 1) m) := Fm.out.later bv2
    clear BW Ft Mt Fm bv2
    have BW := BW'
    have Ft := Ft'
    have Mt := Mt'
    have Fm := Fm'
    clear BW' Ft' Mt' Fm'
    obtain ⟨qx, hqx⟩ : ∃ q, q = w2.heap.size := ⟨_, rfl⟩
    have Fx : Hid (BT v2 qx ⟨xa, xb, xc, xd⟩ x) := by rw [hqx]; exact Fx.out
    clear sx
    have pt0 := Ft.out.c0
    have pt1 := Ft.out.c1
    have pt2 := Ft.out.c2
    have pt3 := Ft.out.c3
    have pt4 := Ft.out.c4
    have pt5 := Ft.out.c5
    have pt6 := Ft.out.c6
    dsimp only at pt4 pt5
    obtain ⟨pm0, pm1, pm2, pm3, pm4⟩ := Fm.out.1
    simp only [Nat.zero_add] at pm1 pm2 pm3 pm4
    rw [hv2] at pt0 pt1 pt2 pt3 pt4 pt5 pt6 pm0 pm1 pm2 pm3 pm4
    go_wp2_with fail
    rw [← hv2, ← hqx]
    clear hv2 hqx pt0 pt1 pt2 pt3 pt4 pt5 pt6 pm0 pm1 pm2 pm3 pm4
    refine (A2.out v2 Mt.out).mono ?_
    rintro e w3 ⟨ya, yb, yc, yd, PR, PS, rfl, ot, bw3⟩
    have sy := ot.sl
    clear ot PR PS
    have BW' : Hid (Below w.heap.size w w3) := BW.out.trans (bw3.mono BW.out.size)
    have Ft' : Hid (BT w3 qt ⟨ta, tb, tc, td⟩ t) := Ft.out.later bw3
    have Mt' : Hid (SlT w3 ⟨ta, tb, tc, td⟩ t) := Mt.out.later bw3
    have Fm' : Hid (NBx w3 (qt + 1) m) := Fm.out.later bw3
    have Fx' : Hid (BT w3 qx ⟨xa, xb, xc, xd⟩ x) := Fx.out.later bw3
    have Mx' : Hid (SlT w3 ⟨xa, xb, xc, xd⟩ x) := Mx.out.later bw3
    clear BW Ft Mt Fm Fx Mx bw3
    have BW := BW'
    have Ft := Ft'
    have Mt := Mt'
    have Fm := Fm'
    have Fx := Fx'
    have Mx := Mx'
    clear BW' Ft' Mt' Fm' Fx' Mx'
    obtain ⟨v3, hv3⟩ : ∃ X, X = w3.alloc (.cells #[.int .i64 x.id, .int .i64 x.home, .int .i64 x.phase, .int .i64 x.count, .slice ya x.reads.length yb, .slice yc x.sets.length yd, .int .i64 x.stamp] 27) := ⟨_, rfl⟩
    have bv3 : Below w3.heap.size w3 v3 := by rw [hv3]; exact (Below.refl _ _).alloc (Nat.le_refl _) _
    have Fy : Hid (BT v3 w3.heap.size ⟨ya, yb, yc, yd⟩ x) := by rw [hv3]; exact BT.box w3 ⟨ya, yb, yc, yd⟩ x _
    have My : Hid (SlT v3 ⟨ya, yb, yc, yd⟩ x) := (sy).later bv3
    have BW' : Hid (Below w.heap.size w v3) := BW.out.trans (bv3.mono BW.out.size)
    have Ft' : Hid (BT v3 qt ⟨ta, tb, tc, td⟩ t) := Ft.out.later bv3
    have Mt' : Hid (SlT v3 ⟨ta, tb, tc, td⟩ t) := Mt.out.later bv3
    have Fm' : Hid (NBx v3 (qt + 1) m) := Fm.out.later bv3
    have Fx' : Hid (BT v3 qx ⟨xa, xb, xc, xd⟩ x) := Fx.out.later bv3
    have Mx' : Hid (SlT v3 ⟨xa, xb, xc, xd⟩ x) := Mx.out.later bv3
    clear BW Ft Mt Fm Fx Mx bv3
    have BW := BW'
    have Ft := Ft'
    have Mt := Mt'
    have Fm := Fm'
    have Fx := Fx'
    have Mx := Mx'
    clear BW' Ft' Mt' Fm' Fx' Mx'
    obtain ⟨qy, hqy⟩ : ∃ q, q = w3.heap.size := ⟨_, rfl⟩
    have Fy : Hid (BT v3 qy ⟨ya, yb, yc, yd⟩ x) := by rw [hqy]; exact Fy.out
    clear sy
    have px0 := Fx.out.c0
    have px1 := Fx.out.c1
    have px2 := Fx.out.c2
    have px3 := Fx.out.c3
    have px4 := Fx.out.c4
    have px5 := Fx.out.c5
    have px6 := Fx.out.c6
    dsimp only at px4 px5
    have py0 := Fy.out.c0
    have py1 := Fy.out.c1
    have py2 := Fy.out.c2
    have py3 := Fy.out.c3
    have py4 := Fy.out.c4
    have py5 := Fy.out.c5
    have py6 := Fy.out.c6
    dsimp only at py4 py5
    rw [hv3] at px0 px1 px2 px3 px4 px5 px6 py0 py1 py2 py3 py4 py5 py6
    rw [hqy] at py0 py1 py2 py3 py4 py5 py6
    have hlk := likeTx_same v3 ⟨xa, xb, xc, xd⟩ ⟨ya, yb, yc, yd⟩ x HX.out.1 Mx.out My.out
    simp only [TV.val] at hlk
    have HLK := hidOf hlk
    clear hlk
    have dB : (is != is) = false := by cases is <;> rfl
    go_wp2_with fail
    rw [← hv3]
    clear hv3 hqy dB px0 px1 px2 px3 px4 px5 px6 py0 py1 py2 py3 py4 py5 py6
    refine HLK.out.mono ?_
    clear HLK
    rintro e w4 ⟨rfl, bw4⟩
    clear Fy My
    have BW' : Hid (Below w.heap.size w w4) := BW.out.trans (bw4.mono BW.out.size)
    have Ft' : Hid (BT w4 qt ⟨ta, tb, tc, td⟩ t) := Ft.out.later bw4
    have Mt' : Hid (SlT w4 ⟨ta, tb, tc, td⟩ t) := Mt.out.later bw4
    have Fm' : Hid (NBx w4 (qt + 1) m) := Fm.out.later bw4
    have Fx' : Hid (BT w4 qx ⟨xa, xb, xc, xd⟩ x) := Fx.out.later bw4
    have Mx' : Hid (SlT w4 ⟨xa, xb, xc, xd⟩ x) := Mx.out.later bw4
    clear BW Ft Mt Fm Fx Mx bw4
    have BW := BW'
    have Ft := Ft'
    have Mt := Mt'
    have Fm := Fm'
    have Fx := Fx'
    have Mx := Mx'
    clear BW' Ft' Mt' Fm' Fx' Mx'
    clear A1 A2
    go_wp2_with fail
    refine (DrawAddSet_any w4 a n k ((HB.out.below BW.out).mono BW.out.size) hn).mono ?_
    rintro e w5 ⟨⟨ua, ub, uc, ud⟩, u, s, rfl, su, lu1, lu2, -, cu, b5⟩
    simp only [TV.val]
    dsimp only at cu
    have lU : TL u := ⟨by unfold maxLen; omega, by unfold maxLen; omega⟩
    have B1 : Hid (∀ (X : World), SlT X ⟨ua, ub, uc, ud⟩ u → Calls Try.prog 14 #[.agg #[.int .i64 u.id, .int .i64 u.home, .int .i64 u.phase, .int .i64 u.count, .slice ua u.reads.length ub, .slice uc u.sets.length ud, .int .i64 u.stamp], .agg #[.int .i64 s.region, .int .i64 s.slot, .int .i64 s.value, .bool s.used, .int .i64 s.version]] X (TAns X (addSe u s) (addSB u s))) := fun X h => by
      have hh := implAddSet_any X ⟨ua, ub, uc, ud⟩ u s lU h
      simp only [TV.val] at hh
      exact hh
    have B2 : Hid (∀ (X : World), SlT X ⟨ua, ub, uc, ud⟩ u → Calls Try.prog 15 #[.agg #[.int .i64 u.id, .int .i64 u.home, .int .i64 u.phase, .int .i64 u.count, .slice ua u.reads.length ub, .slice uc u.sets.length ud, .int .i64 u.stamp], .agg #[.int .i64 s.region, .int .i64 s.slot, .int .i64 s.value, .bool s.used, .int .i64 s.version]] X (TAnsR X (addSe u s) (addSB u s))) := fun X h => by
      have hh := specAddSet_anyR X ⟨ua, ub, uc, ud⟩ u s lU h cu
      simp only [TV.val] at hh
      exact hh
    have lZ : TL (addSe u s) := by have h := addSe_lens u s; exact ⟨by unfold maxLen; omega, by unfold maxLen; omega⟩
    have B3 : Hid (addSB u s = true → ∀ (X : World) (za : Option Addr) (zb : Nat) (zc : Option Addr) (zd : Nat), SlT X ⟨za, zb, zc, zd⟩ (addSe u s) → Calls Try.prog 14 #[.agg #[.int .i64 (addSe u s).id, .int .i64 (addSe u s).home, .int .i64 (addSe u s).phase, .int .i64 (addSe u s).count, .slice za (addSe u s).reads.length zb, .slice zc (addSe u s).sets.length zd, .int .i64 (addSe u s).stamp], .agg #[.int .i64 s.region, .int .i64 s.slot, .int .i64 3, .bool s.used, .int .i64 ((s.version + 1) % 9)]] X (TAns X (addSe (addSe u s) (nextS s)) true)) := fun hb X za zb zc zd h => by
      have hh := implAddSet_any X ⟨za, zb, zc, zd⟩ (addSe u s) (nextS s) lZ h
      rw [(addSe_again hb).1] at hh
      simp only [TV.val] at hh
      exact hh
    have HZ : Hid (TL (addSe u s) ∧ (addSe u s).sets.length ≤ 1000 ∧ (addSB u s = true → txB (addSe u s) = true ∧ (0 ≤ s.version ∧ s.version ≤ 999999) ∧ (addSe (addSe u s) (nextS s)).sets.length = (addSe u s).sets.length ∧ ∀ i, i < (addSe u s).sets.length → (atSe (addSe (addSe u s) (nextS s)).sets i).version = (atSe (addSe u s).sets i).version) ∧ (addSB u s = false → addSe u s = noT)) := ⟨lZ, by have h := addSe_lens u s; omega, fun h => ⟨(addSe_right h).2.1, setOk_ver (addSe_right h).1, (addSe_again h).2⟩, fun h => addSe_not h⟩
    obtain ⟨y, hy⟩ : ∃ y, addSe (addSe u s) (nextS s) = y := ⟨_, rfl⟩
    simp only [hy] at B3 HZ
    obtain ⟨z, hz⟩ : ∃ z, addSe u s = z := ⟨_, rfl⟩
    obtain ⟨fine, hfi⟩ : ∃ b, addSB u s = b := ⟨_, rfl⟩
    simp only [hz, hfi] at B1 B2 B3 HZ
    clear hy hz hfi lZ lU cu lu1 lu2
    have BW' : Hid (Below w.heap.size w w5) := BW.out.trans (b5.mono BW.out.size)
    have Ft' : Hid (BT w5 qt ⟨ta, tb, tc, td⟩ t) := Ft.out.later b5
    have Mt' : Hid (SlT w5 ⟨ta, tb, tc, td⟩ t) := Mt.out.later b5
    have Fm' : Hid (NBx w5 (qt + 1) m) := Fm.out.later b5
    have Fx' : Hid (BT w5 qx ⟨xa, xb, xc, xd⟩ x) := Fx.out.later b5
    have Mx' : Hid (SlT w5 ⟨xa, xb, xc, xd⟩ x) := Mx.out.later b5
    clear BW Ft Mt Fm Fx Mx b5
    have BW := BW'
    have Ft := Ft'
    have Mt := Mt'
    have Fm := Fm'
    have Fx := Fx'
    have Mx := Mx'
    clear BW' Ft' Mt' Fm' Fx' Mx'
    obtain ⟨v5, hv5⟩ : ∃ X, X = (w5.alloc (.cells #[.int .i64 u.id, .int .i64 u.home, .int .i64 u.phase, .int .i64 u.count, .slice ua u.reads.length ub, .slice uc u.sets.length ud, .int .i64 u.stamp] 27)).alloc (.cells #[.int .i64 s.region, .int .i64 s.slot, .int .i64 s.value, .bool s.used, .int .i64 s.version] 36) := ⟨_, rfl⟩
    have bv5 : Below w5.heap.size w5 v5 := by rw [hv5]; exact ((Below.refl _ _).alloc (Nat.le_refl _) _).alloc (by simp) _
    have Fu : Hid (BT v5 w5.heap.size ⟨ua, ub, uc, ud⟩ u) := by rw [hv5]; exact (BT.box w5 ⟨ua, ub, uc, ud⟩ u _).later ((Below.refl _ _).alloc (Nat.le_refl _) _)
    have Fs : Hid (SBx v5 (w5.heap.size + 1) s) := by
      rw [hv5]
      have hh := SetAt.box (w5.alloc (.cells #[.int .i64 u.id, .int .i64 u.home, .int .i64 u.phase, .int .i64 u.count, .slice ua u.reads.length ub, .slice uc u.sets.length ud, .int .i64 u.stamp] 27)) s 36
      rw [show (w5.alloc (.cells #[.int .i64 u.id, .int .i64 u.home, .int .i64 u.phase, .int .i64 u.count, .slice ua u.reads.length ub, .slice uc u.sets.length ud, .int .i64 u.stamp] 27)).heap.size = w5.heap.size + 1 by simp] at hh
      exact ⟨hh, by simp⟩
    have Mu : Hid (SlT v5 ⟨ua, ub, uc, ud⟩ u) := (su).later bv5
    have BW' : Hid (Below w.heap.size w v5) := BW.out.trans (bv5.mono BW.out.size)
    have Ft' : Hid (BT v5 qt ⟨ta, tb, tc, td⟩ t) := Ft.out.later bv5
    have Mt' : Hid (SlT v5 ⟨ta, tb, tc, td⟩ t) := Mt.out.later bv5
    have Fm' : Hid (NBx v5 (qt + 1) m) := Fm.out.later bv5
    have Fx' : Hid (BT v5 qx ⟨xa, xb, xc, xd⟩ x) := Fx.out.later bv5
    have Mx' : Hid (SlT v5 ⟨xa, xb, xc, xd⟩ x) := Mx.out.later bv5
    clear BW Ft Mt Fm Fx Mx bv5
    have BW := BW'
    have Ft := Ft'
    have Mt := Mt'
    have Fm := Fm'
    have Fx := Fx'
    have Mx := Mx'
    clear BW' Ft' Mt' Fm' Fx' Mx'
    obtain ⟨qu, hqu⟩ : ∃ q, q = w5.heap.size := ⟨_, rfl⟩
    have Fu : Hid (BT v5 qu ⟨ua, ub, uc, ud⟩ u) := by rw [hqu]; exact Fu.out
    have Fs : Hid (SBx v5 (qu + 1) s) := by rw [hqu]; exact Fs.out
    clear su
    have pu0 := Fu.out.c0
    have pu1 := Fu.out.c1
    have pu2 := Fu.out.c2
    have pu3 := Fu.out.c3
    have pu4 := Fu.out.c4
    have pu5 := Fu.out.c5
    have pu6 := Fu.out.c6
    dsimp only at pu4 pu5
    obtain ⟨ps0, ps1, ps2, ps3, ps4⟩ := Fs.out.1
    simp only [Nat.zero_add] at ps1 ps2 ps3 ps4
    rw [hv5] at pu0 pu1 pu2 pu3 pu4 pu5 pu6 ps0 ps1 ps2 ps3 ps4
    rw [hqu] at pu0 pu1 pu2 pu3 pu4 pu5 pu6 ps0 ps1 ps2 ps3 ps4
    go_wp2_with fail
    rw [← hv5, ← hqu]
    clear hv5 hqu pu0 pu1 pu2 pu3 pu4 pu5 pu6 ps0 ps1 ps2 ps3 ps4
    refine (B1.out v5 Mu.out).mono ?_
    rintro e w6 ⟨za, zb, zc, zd, PR, PS, rfl, ot, bw6⟩
    have sx := ot.sl
    clear ot PR PS
    have BW' : Hid (Below w.heap.size w w6) := BW.out.trans (bw6.mono BW.out.size)
    have Ft' : Hid (BT w6 qt ⟨ta, tb, tc, td⟩ t) := Ft.out.later bw6
    have Mt' : Hid (SlT w6 ⟨ta, tb, tc, td⟩ t) := Mt.out.later bw6
    have Fm' : Hid (NBx w6 (qt + 1) m) := Fm.out.later bw6
    have Fx' : Hid (BT w6 qx ⟨xa, xb, xc, xd⟩ x) := Fx.out.later bw6
    have Mx' : Hid (SlT w6 ⟨xa, xb, xc, xd⟩ x) := Mx.out.later bw6
    have Fu' : Hid (BT w6 qu ⟨ua, ub, uc, ud⟩ u) := Fu.out.later bw6
    have Mu' : Hid (SlT w6 ⟨ua, ub, uc, ud⟩ u) := Mu.out.later bw6
    have Fs' : Hid (SBx w6 (qu + 1) s) := Fs.out.later bw6
    clear BW Ft Mt Fm Fx Mx Fu Mu Fs bw6
    have BW := BW'
    have Ft := Ft'
    have Mt := Mt'
    have Fm := Fm'
    have Fx := Fx'
    have Mx := Mx'
    have Fu := Fu'
    have Mu := Mu'
    have Fs := Fs'
    clear BW' Ft' Mt' Fm' Fx' Mx' Fu' Mu' Fs'
    obtain ⟨v6, hv6⟩ : ∃ X, X = w6.alloc (.cells #[.int .i64 z.id, .int .i64 z.home, .int .i64 z.phase, .int .i64 z.count, .slice za z.reads.length zb, .slice zc z.sets.length zd, .int .i64 z.stamp] 27) := ⟨_, rfl⟩
    have bv6 : Below w6.heap.size w6 v6 := by rw [hv6]; exact (Below.refl _ _).alloc (Nat.le_refl _) _
    have Fz : Hid (BT v6 w6.heap.size ⟨za, zb, zc, zd⟩ z) := by rw [hv6]; exact BT.box w6 ⟨za, zb, zc, zd⟩ z _
    have Mz : Hid (SlT v6 ⟨za, zb, zc, zd⟩ z) := (sx).later bv6
    have BW' : Hid (Below w.heap.size w v6) := BW.out.trans (bv6.mono BW.out.size)
    have Ft' : Hid (BT v6 qt ⟨ta, tb, tc, td⟩ t) := Ft.out.later bv6
    have Mt' : Hid (SlT v6 ⟨ta, tb, tc, td⟩ t) := Mt.out.later bv6
    have Fm' : Hid (NBx v6 (qt + 1) m) := Fm.out.later bv6
    have Fx' : Hid (BT v6 qx ⟨xa, xb, xc, xd⟩ x) := Fx.out.later bv6
    have Mx' : Hid (SlT v6 ⟨xa, xb, xc, xd⟩ x) := Mx.out.later bv6
    have Fu' : Hid (BT v6 qu ⟨ua, ub, uc, ud⟩ u) := Fu.out.later bv6
    have Mu' : Hid (SlT v6 ⟨ua, ub, uc, ud⟩ u) := Mu.out.later bv6
    have Fs' : Hid (SBx v6 (qu + 1) s) := Fs.out.later bv6
    clear BW Ft Mt Fm Fx Mx Fu Mu Fs bv6
    have BW := BW'
    have Ft := Ft'
    have Mt := Mt'
    have Fm := Fm'
    have Fx := Fx'
    have Mx := Mx'
    have Fu := Fu'
    have Mu := Mu'
    have Fs := Fs'
    clear BW' Ft' Mt' Fm' Fx' Mx' Fu' Mu' Fs'
    obtain ⟨qz, hqz⟩ : ∃ q, q = w6.heap.size := ⟨_, rfl⟩
    have Fz : Hid (BT v6 qz ⟨za, zb, zc, zd⟩ z) := by rw [hqz]; exact Fz.out
    clear sx
    have pu0 := Fu.out.c0
    have pu1 := Fu.out.c1
    have pu2 := Fu.out.c2
    have pu3 := Fu.out.c3
    have pu4 := Fu.out.c4
    have pu5 := Fu.out.c5
    have pu6 := Fu.out.c6
    dsimp only at pu4 pu5
    obtain ⟨ps0, ps1, ps2, ps3, ps4⟩ := Fs.out.1
    simp only [Nat.zero_add] at ps1 ps2 ps3 ps4
    rw [hv6] at pu0 pu1 pu2 pu3 pu4 pu5 pu6 ps0 ps1 ps2 ps3 ps4
    go_wp2_with fail
    rw [← hv6, ← hqz]
    clear hv6 hqz pu0 pu1 pu2 pu3 pu4 pu5 pu6 ps0 ps1 ps2 ps3 ps4
    refine (B2.out v6 Mu.out).mono ?_
    rintro e w7 ⟨ya, yb, yc, yd, PR, PS, rfl, ot, bw7⟩
    have sy := ot.sl
    clear ot PR PS
    have BW' : Hid (Below w.heap.size w w7) := BW.out.trans (bw7.mono BW.out.size)
    have Ft' : Hid (BT w7 qt ⟨ta, tb, tc, td⟩ t) := Ft.out.later bw7
    have Mt' : Hid (SlT w7 ⟨ta, tb, tc, td⟩ t) := Mt.out.later bw7
    have Fm' : Hid (NBx w7 (qt + 1) m) := Fm.out.later bw7
    have Fx' : Hid (BT w7 qx ⟨xa, xb, xc, xd⟩ x) := Fx.out.later bw7
    have Mx' : Hid (SlT w7 ⟨xa, xb, xc, xd⟩ x) := Mx.out.later bw7
    have Fu' : Hid (BT w7 qu ⟨ua, ub, uc, ud⟩ u) := Fu.out.later bw7
    have Mu' : Hid (SlT w7 ⟨ua, ub, uc, ud⟩ u) := Mu.out.later bw7
    have Fs' : Hid (SBx w7 (qu + 1) s) := Fs.out.later bw7
    have Fz' : Hid (BT w7 qz ⟨za, zb, zc, zd⟩ z) := Fz.out.later bw7
    have Mz' : Hid (SlT w7 ⟨za, zb, zc, zd⟩ z) := Mz.out.later bw7
    clear BW Ft Mt Fm Fx Mx Fu Mu Fs Fz Mz bw7
    have BW := BW'
    have Ft := Ft'
    have Mt := Mt'
    have Fm := Fm'
    have Fx := Fx'
    have Mx := Mx'
    have Fu := Fu'
    have Mu := Mu'
    have Fs := Fs'
    have Fz := Fz'
    have Mz := Mz'
    clear BW' Ft' Mt' Fm' Fx' Mx' Fu' Mu' Fs' Fz' Mz'
    obtain ⟨v7, hv7⟩ : ∃ X, X = w7.alloc (.cells #[.int .i64 z.id, .int .i64 z.home, .int .i64 z.phase, .int .i64 z.count, .slice ya z.reads.length yb, .slice yc z.sets.length yd, .int .i64 z.stamp] 27) := ⟨_, rfl⟩
    have bv7 : Below w7.heap.size w7 v7 := by rw [hv7]; exact (Below.refl _ _).alloc (Nat.le_refl _) _
    have Fy : Hid (BT v7 w7.heap.size ⟨ya, yb, yc, yd⟩ z) := by rw [hv7]; exact BT.box w7 ⟨ya, yb, yc, yd⟩ z _
    have My : Hid (SlT v7 ⟨ya, yb, yc, yd⟩ z) := (sy).later bv7
    have BW' : Hid (Below w.heap.size w v7) := BW.out.trans (bv7.mono BW.out.size)
    have Ft' : Hid (BT v7 qt ⟨ta, tb, tc, td⟩ t) := Ft.out.later bv7
    have Mt' : Hid (SlT v7 ⟨ta, tb, tc, td⟩ t) := Mt.out.later bv7
    have Fm' : Hid (NBx v7 (qt + 1) m) := Fm.out.later bv7
    have Fx' : Hid (BT v7 qx ⟨xa, xb, xc, xd⟩ x) := Fx.out.later bv7
    have Mx' : Hid (SlT v7 ⟨xa, xb, xc, xd⟩ x) := Mx.out.later bv7
    have Fu' : Hid (BT v7 qu ⟨ua, ub, uc, ud⟩ u) := Fu.out.later bv7
    have Mu' : Hid (SlT v7 ⟨ua, ub, uc, ud⟩ u) := Mu.out.later bv7
    have Fs' : Hid (SBx v7 (qu + 1) s) := Fs.out.later bv7
    have Fz' : Hid (BT v7 qz ⟨za, zb, zc, zd⟩ z) := Fz.out.later bv7
    have Mz' : Hid (SlT v7 ⟨za, zb, zc, zd⟩ z) := Mz.out.later bv7
    clear BW Ft Mt Fm Fx Mx Fu Mu Fs Fz Mz bv7
    have BW := BW'
    have Ft := Ft'
    have Mt := Mt'
    have Fm := Fm'
    have Fx := Fx'
    have Mx := Mx'
    have Fu := Fu'
    have Mu := Mu'
    have Fs := Fs'
    have Fz := Fz'
    have Mz := Mz'
    clear BW' Ft' Mt' Fm' Fx' Mx' Fu' Mu' Fs' Fz' Mz'
    obtain ⟨qy, hqy⟩ : ∃ q, q = w7.heap.size := ⟨_, rfl⟩
    have Fy : Hid (BT v7 qy ⟨ya, yb, yc, yd⟩ z) := by rw [hqy]; exact Fy.out
    clear sy
    have pz0 := Fz.out.c0
    have pz1 := Fz.out.c1
    have pz2 := Fz.out.c2
    have pz3 := Fz.out.c3
    have pz4 := Fz.out.c4
    have pz5 := Fz.out.c5
    have pz6 := Fz.out.c6
    dsimp only at pz4 pz5
    have py0 := Fy.out.c0
    have py1 := Fy.out.c1
    have py2 := Fy.out.c2
    have py3 := Fy.out.c3
    have py4 := Fy.out.c4
    have py5 := Fy.out.c5
    have py6 := Fy.out.c6
    dsimp only at py4 py5
    rw [hv7] at pz0 pz1 pz2 pz3 pz4 pz5 pz6 py0 py1 py2 py3 py4 py5 py6
    rw [hqy] at py0 py1 py2 py3 py4 py5 py6
    have hlk := likeTx_same v7 ⟨za, zb, zc, zd⟩ ⟨ya, yb, yc, yd⟩ z HZ.out.1 Mz.out My.out
    simp only [TV.val] at hlk
    have HLK := hidOf hlk
    clear hlk
    have dB : (fine != fine) = false := by cases fine <;> rfl
    go_wp2_with fail
    rw [← hv7]
    clear hv7 hqy dB pz0 pz1 pz2 pz3 pz4 pz5 pz6 py0 py1 py2 py3 py4 py5 py6
    refine HLK.out.mono ?_
    clear HLK
    rintro e w8 ⟨rfl, bw8⟩
    clear Fy My
    have BW' : Hid (Below w.heap.size w w8) := BW.out.trans (bw8.mono BW.out.size)
    have Ft' : Hid (BT w8 qt ⟨ta, tb, tc, td⟩ t) := Ft.out.later bw8
    have Mt' : Hid (SlT w8 ⟨ta, tb, tc, td⟩ t) := Mt.out.later bw8
    have Fm' : Hid (NBx w8 (qt + 1) m) := Fm.out.later bw8
    have Fx' : Hid (BT w8 qx ⟨xa, xb, xc, xd⟩ x) := Fx.out.later bw8
    have Mx' : Hid (SlT w8 ⟨xa, xb, xc, xd⟩ x) := Mx.out.later bw8
    have Fu' : Hid (BT w8 qu ⟨ua, ub, uc, ud⟩ u) := Fu.out.later bw8
    have Mu' : Hid (SlT w8 ⟨ua, ub, uc, ud⟩ u) := Mu.out.later bw8
    have Fs' : Hid (SBx w8 (qu + 1) s) := Fs.out.later bw8
    have Fz' : Hid (BT w8 qz ⟨za, zb, zc, zd⟩ z) := Fz.out.later bw8
    have Mz' : Hid (SlT w8 ⟨za, zb, zc, zd⟩ z) := Mz.out.later bw8
    clear BW Ft Mt Fm Fx Mx Fu Mu Fs Fz Mz bw8
    have BW := BW'
    have Ft := Ft'
    have Mt := Mt'
    have Fm := Fm'
    have Fx := Fx'
    have Mx := Mx'
    have Fu := Fu'
    have Mu := Mu'
    have Fs := Fs'
    have Fz := Fz'
    have Mz := Mz'
    clear BW' Ft' Mt' Fm' Fx' Mx' Fu' Mu' Fs' Fz' Mz'
    clear B1 B2
    clear Fu Mu
    cases is
    · clear A3 HX
      cases fine
      · obtain rfl : z = noT := HZ.out.2.2.2 rfl
        have pz0 := Fz.out.c0
        have pz1 := Fz.out.c1
        have pz2 := Fz.out.c2
        have pz3 := Fz.out.c3
        have pz4 := Fz.out.c4
        have pz5 := Fz.out.c5
        have pz6 := Fz.out.c6
        dsimp only at pz4 pz5
        have hlk := likeTx_same w8 ⟨za, zb, zc, zd⟩ ⟨none, 0, none, 0⟩ noT HZ.out.1 Mz.out (OT.none (w := w8) (B := 0) (N := noT) rfl rfl).sl
        simp only [TV.val, noT, List.length_nil] at hlk pz0 pz1 pz2 pz3 pz4 pz5 pz6
        have HLK := hidOf hlk
        clear hlk
        go_wp2_with fail
        refine HLK.out.mono ?_
        rintro e wl ⟨rfl, bl⟩
        have BL : Hid (Below w.heap.size w wl) := BW.out.trans (bl.mono BW.out.size)
        clear bl HLK pz0 pz1 pz2 pz3 pz4 pz5 pz6
        go_wp2
        go_ret
        exact ⟨rfl, BL.out⟩
      · have HR := hidOf (HZ.out.2.2.1 rfl)
        have hver : 0 ≤ s.version ∧ s.version ≤ 999999 := HR.out.2.1
        obtain ⟨V1, hV1⟩ : ∃ X, X = w8.alloc (.cells #[.int .i64 s.region, .int .i64 s.slot, .int .i64 s.value, .bool s.used, .int .i64 s.version] 36) := ⟨_, rfl⟩
        obtain ⟨ps0, ps1, ps2, ps3, ps4⟩ := Fs.out.1
        simp only [Nat.zero_add] at ps1 ps2 ps3 ps4
        have bV1 : Below w8.heap.size w8 V1 := by rw [hV1]; exact (Below.refl _ _).alloc (Nat.le_refl _) _
        have ps4' := (Fs.out.later bV1).1.c4
        simp only [Nat.zero_add] at ps4'
        rw [hV1] at ps4'
        clear bV1
        obtain ⟨V2, hV2⟩ : ∃ X, X = w8.alloc (.cells #[.int .i64 s.region, .int .i64 s.slot, .int .i64 3, .bool s.used, .int .i64 ((s.version + 1) % 9)] 36) := ⟨_, rfl⟩
        have bV2 : Below w8.heap.size w8 V2 := by rw [hV2]; exact (Below.refl _ _).alloc (Nat.le_refl _) _
        clear Fs
        have BW' : Hid (Below w.heap.size w V2) := BW.out.trans (bV2.mono BW.out.size)
        have Ft' : Hid (BT V2 qt ⟨ta, tb, tc, td⟩ t) := Ft.out.later bV2
        have Mt' : Hid (SlT V2 ⟨ta, tb, tc, td⟩ t) := Mt.out.later bV2
        have Fm' : Hid (NBx V2 (qt + 1) m) := Fm.out.later bV2
        have Fx' : Hid (BT V2 qx ⟨xa, xb, xc, xd⟩ x) := Fx.out.later bV2
        have Mx' : Hid (SlT V2 ⟨xa, xb, xc, xd⟩ x) := Mx.out.later bV2
        have Fz' : Hid (BT V2 qz ⟨za, zb, zc, zd⟩ z) := Fz.out.later bV2
        have Mz' : Hid (SlT V2 ⟨za, zb, zc, zd⟩ z) := Mz.out.later bV2
        clear BW Ft Mt Fm Fx Mx Fz Mz bV2
        have BW := BW'
        have Ft := Ft'
        have Mt := Mt'
        have Fm := Fm'
        have Fx := Fx'
        have Mx := Mx'
        have Fz := Fz'
        have Mz := Mz'
        clear BW' Ft' Mt' Fm' Fx' Mx' Fz' Mz'
        have pz0 := Fz.out.c0
        have pz1 := Fz.out.c1
        have pz2 := Fz.out.c2
        have pz3 := Fz.out.c3
        have pz4 := Fz.out.c4
        have pz5 := Fz.out.c5
        have pz6 := Fz.out.c6
        dsimp only at pz4 pz5
        rw [hV2] at pz0 pz1 pz2 pz3 pz4 pz5 pz6
        go_wp2_with fail
        rw [← hV2]
        clear hV1 hV2 pz0 pz1 pz2 pz3 pz4 pz5 pz6 ps4' ps0 ps1 ps2 ps3 ps4
        refine (B3.out (by simp) V2 za zb zc zd Mz.out).mono ?_
        rintro e w12 ⟨ya, yb, yc, yd, PR, PS, rfl, ot, b12⟩
        have sy := ot.sl
        clear ot PR PS
        have BW' : Hid (Below w.heap.size w w12) := BW.out.trans (b12.mono BW.out.size)
        have Ft' : Hid (BT w12 qt ⟨ta, tb, tc, td⟩ t) := Ft.out.later b12
        have Mt' : Hid (SlT w12 ⟨ta, tb, tc, td⟩ t) := Mt.out.later b12
        have Fm' : Hid (NBx w12 (qt + 1) m) := Fm.out.later b12
        have Fx' : Hid (BT w12 qx ⟨xa, xb, xc, xd⟩ x) := Fx.out.later b12
        have Mx' : Hid (SlT w12 ⟨xa, xb, xc, xd⟩ x) := Mx.out.later b12
        have Fz' : Hid (BT w12 qz ⟨za, zb, zc, zd⟩ z) := Fz.out.later b12
        have Mz' : Hid (SlT w12 ⟨za, zb, zc, zd⟩ z) := Mz.out.later b12
        clear BW Ft Mt Fm Fx Mx Fz Mz b12
        have BW := BW'
        have Ft := Ft'
        have Mt := Mt'
        have Fm := Fm'
        have Fx := Fx'
        have Mx := Mx'
        have Fz := Fz'
        have Mz := Mz'
        clear BW' Ft' Mt' Fm' Fx' Mx' Fz' Mz'
        obtain ⟨v12, hv12⟩ : ∃ X, X = w12.alloc (.cells #[.int .i64 y.id, .int .i64 y.home, .int .i64 y.phase, .int .i64 y.count, .slice ya y.reads.length yb, .slice yc y.sets.length yd, .int .i64 y.stamp] 27) := ⟨_, rfl⟩
        have bv12 : Below w12.heap.size w12 v12 := by rw [hv12]; exact (Below.refl _ _).alloc (Nat.le_refl _) _
        have Fy : Hid (BT v12 w12.heap.size ⟨ya, yb, yc, yd⟩ y) := by rw [hv12]; exact BT.box w12 ⟨ya, yb, yc, yd⟩ y _
        have My : Hid (SlT v12 ⟨ya, yb, yc, yd⟩ y) := (sy).later bv12
        have BW' : Hid (Below w.heap.size w v12) := BW.out.trans (bv12.mono BW.out.size)
        have Ft' : Hid (BT v12 qt ⟨ta, tb, tc, td⟩ t) := Ft.out.later bv12
        have Mt' : Hid (SlT v12 ⟨ta, tb, tc, td⟩ t) := Mt.out.later bv12
        have Fm' : Hid (NBx v12 (qt + 1) m) := Fm.out.later bv12
        have Fx' : Hid (BT v12 qx ⟨xa, xb, xc, xd⟩ x) := Fx.out.later bv12
        have Mx' : Hid (SlT v12 ⟨xa, xb, xc, xd⟩ x) := Mx.out.later bv12
        have Fz' : Hid (BT v12 qz ⟨za, zb, zc, zd⟩ z) := Fz.out.later bv12
        have Mz' : Hid (SlT v12 ⟨za, zb, zc, zd⟩ z) := Mz.out.later bv12
        clear BW Ft Mt Fm Fx Mx Fz Mz bv12
        have BW := BW'
        have Ft := Ft'
        have Mt := Mt'
        have Fm := Fm'
        have Fx := Fx'
        have Mx := Mx'
        have Fz := Fz'
        have Mz := Mz'
        clear BW' Ft' Mt' Fm' Fx' Mx' Fz' Mz'
        obtain ⟨qy, hqy⟩ : ∃ q, q = w12.heap.size := ⟨_, rfl⟩
        have Fy : Hid (BT v12 qy ⟨ya, yb, yc, yd⟩ y) := by rw [hqy]; exact Fy.out
        clear sy
        have py5 := Fy.out.c5
        dsimp only at py5
        have pz0 := Fz.out.c0
        have pz1 := Fz.out.c1
        have pz2 := Fz.out.c2
        have pz3 := Fz.out.c3
        have pz4 := Fz.out.c4
        have pz5 := Fz.out.c5
        have pz6 := Fz.out.c6
        dsimp only at pz4 pz5
        rw [hv12] at py5 pz0 pz1 pz2 pz3 pz4 pz5 pz6
        rw [hqy] at py5
        have hok := implTxOk_any v12 ⟨za, zb, zc, zd⟩ z HZ.out.1 Mz.out
        rw [HR.out.1] at hok
        simp only [TV.val] at hok
        have HOK := hidOf hok
        clear hok
        have hle : ((y.sets.length : Int) != (z.sets.length : Int)) = false := by rw [HR.out.2.2.1]; simp
        go_wp2_with fail
        rw [← hv12, ← hqy]
        clear hv12 hqy hle py5 pz0 pz1 pz2 pz3 pz4 pz5 pz6
        refine HOK.out.mono ?_
        clear HOK
        rintro e w13 ⟨rfl, b13⟩
        have BW' : Hid (Below w.heap.size w w13) := BW.out.trans (b13.mono BW.out.size)
        have Ft' : Hid (BT w13 qt ⟨ta, tb, tc, td⟩ t) := Ft.out.later b13
        have Mt' : Hid (SlT w13 ⟨ta, tb, tc, td⟩ t) := Mt.out.later b13
        have Fm' : Hid (NBx w13 (qt + 1) m) := Fm.out.later b13
        have Fx' : Hid (BT w13 qx ⟨xa, xb, xc, xd⟩ x) := Fx.out.later b13
        have Mx' : Hid (SlT w13 ⟨xa, xb, xc, xd⟩ x) := Mx.out.later b13
        have Fz' : Hid (BT w13 qz ⟨za, zb, zc, zd⟩ z) := Fz.out.later b13
        have Mz' : Hid (SlT w13 ⟨za, zb, zc, zd⟩ z) := Mz.out.later b13
        have Fy' : Hid (BT w13 qy ⟨ya, yb, yc, yd⟩ y) := Fy.out.later b13
        have My' : Hid (SlT w13 ⟨ya, yb, yc, yd⟩ y) := My.out.later b13
        clear BW Ft Mt Fm Fx Mx Fz Mz Fy My b13
        have BW := BW'
        have Ft := Ft'
        have Mt := Mt'
        have Fm := Fm'
        have Fx := Fx'
        have Mx := Mx'
        have Fz := Fz'
        have Mz := Mz'
        have Fy := Fy'
        have My := My'
        clear BW' Ft' Mt' Fm' Fx' Mx' Fz' Mz' Fy' My'
        have FL : Hid (Lp w qz ⟨za, zb, zc, zd⟩ z qy ⟨ya, yb, yc, yd⟩ y w13) := ⟨Fz.out, Mz.out, Fy.out, My.out, BW.out⟩
        clear BW Ft Mt Fm Fx Mx Fz Mz Fy My
        have hlz : z.sets.length ≤ 1048576 := Nat.le_trans HZ.out.2.1 (by omega)
        have hly : Hid (y.sets.length = z.sets.length) := HR.out.2.2.1
        go_wp2
        go_loopw [20] (fun v20 wr => ∃ i : Nat, i ≤ z.sets.length ∧ v20 = .int .i64 i ∧ Lp w qz ⟨za, zb, zc, zd⟩ z qy ⟨ya, yb, yc, yd⟩ y wr) (fun v20 _ => z.sets.length - (intOf v20).toNat)
        case atStart => exact ⟨0, Nat.zero_le _, rfl, FL.out⟩
        case round =>
          obtain ⟨i, hi, rfl, hF⟩ := hrel
          have K1 := hidOf hF
          clear hF FL
          generalize wr = W1 at *
          have p5 := K1.out.bz.c5
          have r5 := K1.out.by'.c5
          dsimp only at p5 r5
          by_cases hlt : i < z.sets.length
          · have hlt' : (i : Int) < (z.sets.length : Int) := by omega
            have hlt2 : (i : Int) < (y.sets.length : Int) := by rw [hly.out]; omega
            have hv := HR.out.2.2.2 i hlt
            obtain ⟨_, hr1⟩ := K1.out.sz.s
            obtain ⟨_, hr2⟩ := K1.out.sy.s
            dsimp only at hr1 hr2
            rcases hr1 with h0 | ⟨b, off, rfl, hb, hx⟩
            · omega
            rcases hr2 with h0 | ⟨b', off', rfl, hb', hy⟩
            · have := hly.out; omega
            obtain ⟨-, -, -, -, x4⟩ := hx i _ (atSe_of hlt)
            obtain ⟨-, -, -, -, y4⟩ := hy i _ (atSe_of (by rw [hly.out]; exact hlt))
            clear hx hy hb hb'
            have hd : ((atSe y.sets i).version != (atSe z.sets i).version) = false := by rw [hv]; simp
            clear hv
            go_wp2_with fail
            go_quiet (fail)
            go_wp2
            exact ⟨⟨i + 1, by omega, by simp, K1.out.drewN _⟩, by simp [intOf]; omega⟩
          · obtain rfl : z.sets.length = i := by omega
            have hd3 : decide ((z.sets.length : Int) < (z.sets.length : Int)) = false := by simp
            go_wp2
            go_ret
            exact ⟨rfl, K1.out.be⟩
    · have HQ := hidOf (HX.out.2 rfl)
      have px0 := Fx.out.c0
      have px1 := Fx.out.c1
      have px2 := Fx.out.c2
      have px3 := Fx.out.c3
      have px4 := Fx.out.c4
      have px5 := Fx.out.c5
      have px6 := Fx.out.c6
      dsimp only at px4 px5
      obtain ⟨pm0, pm1, pm2, pm3, pm4⟩ := Fm.out.1
      simp only [Nat.zero_add] at pm1 pm2 pm3 pm4
      go_wp2_with fail
      clear px0 px1 px2 px3 px4 px5 px6 pm0 pm1 pm2 pm3 pm4
      refine (A3.out (by simp) w8 xa xb xc xd Mx.out).mono ?_
      clear A3
      rintro e w9 ⟨ya, yb, yc, yd, PR, PS, rfl, ot, b9⟩
      have sy := ot.sl
      clear ot PR PS
      clear Fm
      have BW' : Hid (Below w.heap.size w w9) := BW.out.trans (b9.mono BW.out.size)
      have Ft' : Hid (BT w9 qt ⟨ta, tb, tc, td⟩ t) := Ft.out.later b9
      have Mt' : Hid (SlT w9 ⟨ta, tb, tc, td⟩ t) := Mt.out.later b9
      have Fx' : Hid (BT w9 qx ⟨xa, xb, xc, xd⟩ x) := Fx.out.later b9
      have Mx' : Hid (SlT w9 ⟨xa, xb, xc, xd⟩ x) := Mx.out.later b9
      have Fs' : Hid (SBx w9 (qu + 1) s) := Fs.out.later b9
      have Fz' : Hid (BT w9 qz ⟨za, zb, zc, zd⟩ z) := Fz.out.later b9
      have Mz' : Hid (SlT w9 ⟨za, zb, zc, zd⟩ z) := Mz.out.later b9
      clear BW Ft Mt Fx Mx Fs Fz Mz b9
      have BW := BW'
      have Ft := Ft'
      have Mt := Mt'
      have Fx := Fx'
      have Mx := Mx'
      have Fs := Fs'
      have Fz := Fz'
      have Mz := Mz'
      clear BW' Ft' Mt' Fx' Mx' Fs' Fz' Mz'
      obtain ⟨v9, hv9⟩ : ∃ X, X = w9.alloc (.cells #[.int .i64 x.id, .int .i64 x.home, .int .i64 x.phase, .int .i64 x.count, .slice ya x.reads.length yb, .slice yc x.sets.length yd, .int .i64 x.stamp] 27) := ⟨_, rfl⟩
      have bv9 : Below w9.heap.size w9 v9 := by rw [hv9]; exact (Below.refl _ _).alloc (Nat.le_refl _) _
      have Fy : Hid (BT v9 w9.heap.size ⟨ya, yb, yc, yd⟩ x) := by rw [hv9]; exact BT.box w9 ⟨ya, yb, yc, yd⟩ x _
      have My : Hid (SlT v9 ⟨ya, yb, yc, yd⟩ x) := (sy).later bv9
      have BW' : Hid (Below w.heap.size w v9) := BW.out.trans (bv9.mono BW.out.size)
      have Ft' : Hid (BT v9 qt ⟨ta, tb, tc, td⟩ t) := Ft.out.later bv9
      have Mt' : Hid (SlT v9 ⟨ta, tb, tc, td⟩ t) := Mt.out.later bv9
      have Fx' : Hid (BT v9 qx ⟨xa, xb, xc, xd⟩ x) := Fx.out.later bv9
      have Mx' : Hid (SlT v9 ⟨xa, xb, xc, xd⟩ x) := Mx.out.later bv9
      have Fs' : Hid (SBx v9 (qu + 1) s) := Fs.out.later bv9
      have Fz' : Hid (BT v9 qz ⟨za, zb, zc, zd⟩ z) := Fz.out.later bv9
      have Mz' : Hid (SlT v9 ⟨za, zb, zc, zd⟩ z) := Mz.out.later bv9
      clear BW Ft Mt Fx Mx Fs Fz Mz bv9
      have BW := BW'
      have Ft := Ft'
      have Mt := Mt'
      have Fx := Fx'
      have Mx := Mx'
      have Fs := Fs'
      have Fz := Fz'
      have Mz := Mz'
      clear BW' Ft' Mt' Fx' Mx' Fs' Fz' Mz'
      obtain ⟨qy, hqy⟩ : ∃ q, q = w9.heap.size := ⟨_, rfl⟩
      have Fy : Hid (BT v9 qy ⟨ya, yb, yc, yd⟩ x) := by rw [hqy]; exact Fy.out
      clear sy
      have py0 := Fy.out.c0
      have py1 := Fy.out.c1
      have py2 := Fy.out.c2
      have py3 := Fy.out.c3
      have py4 := Fy.out.c4
      have py5 := Fy.out.c5
      have py6 := Fy.out.c6
      dsimp only at py4 py5
      have px0 := Fx.out.c0
      have px1 := Fx.out.c1
      have px2 := Fx.out.c2
      have px3 := Fx.out.c3
      have px4 := Fx.out.c4
      have px5 := Fx.out.c5
      have px6 := Fx.out.c6
      dsimp only at px4 px5
      rw [hv9] at py0 py1 py2 py3 py4 py5 py6 px0 px1 px2 px3 px4 px5 px6
      rw [hqy] at py0 py1 py2 py3 py4 py5 py6
      have hlk := likeTx_same v9 ⟨ya, yb, yc, yd⟩ ⟨xa, xb, xc, xd⟩ x HX.out.1 My.out Mx.out
      simp only [TV.val] at hlk
      have HLK := hidOf hlk
      clear hlk
      go_wp2_with fail
      rw [← hv9]
      clear hv9 hqy py0 py1 py2 py3 py4 py5 py6 px0 px1 px2 px3 px4 px5 px6
      refine HLK.out.mono ?_
      clear HLK
      rintro e w10 ⟨rfl, b10⟩
      clear Fy My
      have BW' : Hid (Below w.heap.size w w10) := BW.out.trans (b10.mono BW.out.size)
      have Ft' : Hid (BT w10 qt ⟨ta, tb, tc, td⟩ t) := Ft.out.later b10
      have Mt' : Hid (SlT w10 ⟨ta, tb, tc, td⟩ t) := Mt.out.later b10
      have Fx' : Hid (BT w10 qx ⟨xa, xb, xc, xd⟩ x) := Fx.out.later b10
      have Mx' : Hid (SlT w10 ⟨xa, xb, xc, xd⟩ x) := Mx.out.later b10
      have Fs' : Hid (SBx w10 (qu + 1) s) := Fs.out.later b10
      have Fz' : Hid (BT w10 qz ⟨za, zb, zc, zd⟩ z) := Fz.out.later b10
      have Mz' : Hid (SlT w10 ⟨za, zb, zc, zd⟩ z) := Mz.out.later b10
      clear BW Ft Mt Fx Mx Fs Fz Mz b10
      have BW := BW'
      have Ft := Ft'
      have Mt := Mt'
      have Fx := Fx'
      have Mx := Mx'
      have Fs := Fs'
      have Fz := Fz'
      have Mz := Mz'
      clear BW' Ft' Mt' Fx' Mx' Fs' Fz' Mz'
      have px0 := Fx.out.c0
      have px1 := Fx.out.c1
      have px2 := Fx.out.c2
      have px3 := Fx.out.c3
      have px4 := Fx.out.c4
      have px5 := Fx.out.c5
      have px6 := Fx.out.c6
      dsimp only at px4 px5
      have hok := implTxOk_any w10 ⟨xa, xb, xc, xd⟩ x HX.out.1 Mx.out
      rw [HQ.out.1] at hok
      simp only [TV.val] at hok
      have HOK := hidOf hok
      clear hok
      go_wp2_with fail
      refine HOK.out.mono ?_
      clear HOK px0 px1 px2 px3 px4 px5 px6
      rintro e w11 ⟨rfl, b11⟩
      have BW' : Hid (Below w.heap.size w w11) := BW.out.trans (b11.mono BW.out.size)
      have Ft' : Hid (BT w11 qt ⟨ta, tb, tc, td⟩ t) := Ft.out.later b11
      have Mt' : Hid (SlT w11 ⟨ta, tb, tc, td⟩ t) := Mt.out.later b11
      have Fx' : Hid (BT w11 qx ⟨xa, xb, xc, xd⟩ x) := Fx.out.later b11
      have Mx' : Hid (SlT w11 ⟨xa, xb, xc, xd⟩ x) := Mx.out.later b11
      have Fs' : Hid (SBx w11 (qu + 1) s) := Fs.out.later b11
      have Fz' : Hid (BT w11 qz ⟨za, zb, zc, zd⟩ z) := Fz.out.later b11
      have Mz' : Hid (SlT w11 ⟨za, zb, zc, zd⟩ z) := Mz.out.later b11
      clear BW Ft Mt Fx Mx Fs Fz Mz b11
      have BW := BW'
      have Ft := Ft'
      have Mt := Mt'
      have Fx := Fx'
      have Mx := Mx'
      have Fs := Fs'
      have Fz := Fz'
      have Mz := Mz'
      clear BW' Ft' Mt' Fx' Mx' Fs' Fz' Mz'
      have px4 := Fx.out.c4
      dsimp only at px4
      have pt4 := Ft.out.c4
      dsimp only at pt4
      have hl1 := HQ.out.2
      have hl2 := HT.out.1
      have hln : decide ((t.reads.length : Int) + 1 < (x.reads.length : Int)) = false := by simp; omega
      have hln' : decide ((x.reads.length : Int) > (t.reads.length : Int) + 1) = false := by simp; omega
      clear Fx Mx Ft Mt
      clear HQ HX HT
      cases fine
      · obtain rfl : z = noT := HZ.out.2.2.2 rfl
        have pz0 := Fz.out.c0
        have pz1 := Fz.out.c1
        have pz2 := Fz.out.c2
        have pz3 := Fz.out.c3
        have pz4 := Fz.out.c4
        have pz5 := Fz.out.c5
        have pz6 := Fz.out.c6
        dsimp only at pz4 pz5
        have hlk := likeTx_same w11 ⟨za, zb, zc, zd⟩ ⟨none, 0, none, 0⟩ noT HZ.out.1 Mz.out (OT.none (w := w11) (B := 0) (N := noT) rfl rfl).sl
        simp only [TV.val, noT, List.length_nil] at hlk pz0 pz1 pz2 pz3 pz4 pz5 pz6
        have HLK := hidOf hlk
        clear hlk
        go_wp2_with fail
        refine HLK.out.mono ?_
        rintro e wl ⟨rfl, bl⟩
        have BL : Hid (Below w.heap.size w wl) := BW.out.trans (bl.mono BW.out.size)
        clear bl HLK pz0 pz1 pz2 pz3 pz4 pz5 pz6
        go_wp2
        go_ret
        exact ⟨rfl, BL.out⟩
      · have HR := hidOf (HZ.out.2.2.1 rfl)
        have hver : 0 ≤ s.version ∧ s.version ≤ 999999 := HR.out.2.1
        obtain ⟨V1, hV1⟩ : ∃ X, X = w11.alloc (.cells #[.int .i64 s.region, .int .i64 s.slot, .int .i64 s.value, .bool s.used, .int .i64 s.version] 36) := ⟨_, rfl⟩
        obtain ⟨ps0, ps1, ps2, ps3, ps4⟩ := Fs.out.1
        simp only [Nat.zero_add] at ps1 ps2 ps3 ps4
        have bV1 : Below w11.heap.size w11 V1 := by rw [hV1]; exact (Below.refl _ _).alloc (Nat.le_refl _) _
        have ps4' := (Fs.out.later bV1).1.c4
        simp only [Nat.zero_add] at ps4'
        rw [hV1] at ps4'
        clear bV1
        obtain ⟨V2, hV2⟩ : ∃ X, X = w11.alloc (.cells #[.int .i64 s.region, .int .i64 s.slot, .int .i64 3, .bool s.used, .int .i64 ((s.version + 1) % 9)] 36) := ⟨_, rfl⟩
        have bV2 : Below w11.heap.size w11 V2 := by rw [hV2]; exact (Below.refl _ _).alloc (Nat.le_refl _) _
        clear Fs
        have BW' : Hid (Below w.heap.size w V2) := BW.out.trans (bV2.mono BW.out.size)
        have Fz' : Hid (BT V2 qz ⟨za, zb, zc, zd⟩ z) := Fz.out.later bV2
        have Mz' : Hid (SlT V2 ⟨za, zb, zc, zd⟩ z) := Mz.out.later bV2
        clear BW Fz Mz bV2
        have BW := BW'
        have Fz := Fz'
        have Mz := Mz'
        clear BW' Fz' Mz'
        have pz0 := Fz.out.c0
        have pz1 := Fz.out.c1
        have pz2 := Fz.out.c2
        have pz3 := Fz.out.c3
        have pz4 := Fz.out.c4
        have pz5 := Fz.out.c5
        have pz6 := Fz.out.c6
        dsimp only at pz4 pz5
        rw [hV2] at pz0 pz1 pz2 pz3 pz4 pz5 pz6
        go_wp2_with fail
        rw [← hV2]
        clear hV1 hV2 pz0 pz1 pz2 pz3 pz4 pz5 pz6 ps4' ps0 ps1 ps2 ps3 ps4
        refine (B3.out (by simp) V2 za zb zc zd Mz.out).mono ?_
        rintro e w12 ⟨ya, yb, yc, yd, PR, PS, rfl, ot, b12⟩
        have sy := ot.sl
        clear ot PR PS
        have BW' : Hid (Below w.heap.size w w12) := BW.out.trans (b12.mono BW.out.size)
        have Fz' : Hid (BT w12 qz ⟨za, zb, zc, zd⟩ z) := Fz.out.later b12
        have Mz' : Hid (SlT w12 ⟨za, zb, zc, zd⟩ z) := Mz.out.later b12
        clear BW Fz Mz b12
        have BW := BW'
        have Fz := Fz'
        have Mz := Mz'
        clear BW' Fz' Mz'
        obtain ⟨v12, hv12⟩ : ∃ X, X = w12.alloc (.cells #[.int .i64 y.id, .int .i64 y.home, .int .i64 y.phase, .int .i64 y.count, .slice ya y.reads.length yb, .slice yc y.sets.length yd, .int .i64 y.stamp] 27) := ⟨_, rfl⟩
        have bv12 : Below w12.heap.size w12 v12 := by rw [hv12]; exact (Below.refl _ _).alloc (Nat.le_refl _) _
        have Fy : Hid (BT v12 w12.heap.size ⟨ya, yb, yc, yd⟩ y) := by rw [hv12]; exact BT.box w12 ⟨ya, yb, yc, yd⟩ y _
        have My : Hid (SlT v12 ⟨ya, yb, yc, yd⟩ y) := (sy).later bv12
        have BW' : Hid (Below w.heap.size w v12) := BW.out.trans (bv12.mono BW.out.size)
        have Fz' : Hid (BT v12 qz ⟨za, zb, zc, zd⟩ z) := Fz.out.later bv12
        have Mz' : Hid (SlT v12 ⟨za, zb, zc, zd⟩ z) := Mz.out.later bv12
        clear BW Fz Mz bv12
        have BW := BW'
        have Fz := Fz'
        have Mz := Mz'
        clear BW' Fz' Mz'
        obtain ⟨qy, hqy⟩ : ∃ q, q = w12.heap.size := ⟨_, rfl⟩
        have Fy : Hid (BT v12 qy ⟨ya, yb, yc, yd⟩ y) := by rw [hqy]; exact Fy.out
        clear sy
        have py5 := Fy.out.c5
        dsimp only at py5
        have pz0 := Fz.out.c0
        have pz1 := Fz.out.c1
        have pz2 := Fz.out.c2
        have pz3 := Fz.out.c3
        have pz4 := Fz.out.c4
        have pz5 := Fz.out.c5
        have pz6 := Fz.out.c6
        dsimp only at pz4 pz5
        rw [hv12] at py5 pz0 pz1 pz2 pz3 pz4 pz5 pz6
        rw [hqy] at py5
        have hok := implTxOk_any v12 ⟨za, zb, zc, zd⟩ z HZ.out.1 Mz.out
        rw [HR.out.1] at hok
        simp only [TV.val] at hok
        have HOK := hidOf hok
        clear hok
        have hle : ((y.sets.length : Int) != (z.sets.length : Int)) = false := by rw [HR.out.2.2.1]; simp
        go_wp2_with fail
        rw [← hv12, ← hqy]
        clear hv12 hqy hle py5 pz0 pz1 pz2 pz3 pz4 pz5 pz6
        refine HOK.out.mono ?_
        clear HOK
        rintro e w13 ⟨rfl, b13⟩
        have BW' : Hid (Below w.heap.size w w13) := BW.out.trans (b13.mono BW.out.size)
        have Fz' : Hid (BT w13 qz ⟨za, zb, zc, zd⟩ z) := Fz.out.later b13
        have Mz' : Hid (SlT w13 ⟨za, zb, zc, zd⟩ z) := Mz.out.later b13
        have Fy' : Hid (BT w13 qy ⟨ya, yb, yc, yd⟩ y) := Fy.out.later b13
        have My' : Hid (SlT w13 ⟨ya, yb, yc, yd⟩ y) := My.out.later b13
        clear BW Fz Mz Fy My b13
        have BW := BW'
        have Fz := Fz'
        have Mz := Mz'
        have Fy := Fy'
        have My := My'
        clear BW' Fz' Mz' Fy' My'
        have FL : Hid (Lp w qz ⟨za, zb, zc, zd⟩ z qy ⟨ya, yb, yc, yd⟩ y w13) := ⟨Fz.out, Mz.out, Fy.out, My.out, BW.out⟩
        clear BW Fz Mz Fy My
        have hlz : z.sets.length ≤ 1048576 := Nat.le_trans HZ.out.2.1 (by omega)
        have hly : Hid (y.sets.length = z.sets.length) := HR.out.2.2.1
        go_wp2
        go_loopw [20] (fun v20 wr => ∃ i : Nat, i ≤ z.sets.length ∧ v20 = .int .i64 i ∧ Lp w qz ⟨za, zb, zc, zd⟩ z qy ⟨ya, yb, yc, yd⟩ y wr) (fun v20 _ => z.sets.length - (intOf v20).toNat)
        case atStart => exact ⟨0, Nat.zero_le _, rfl, FL.out⟩
        case round =>
          obtain ⟨i, hi, rfl, hF⟩ := hrel
          have K1 := hidOf hF
          clear hF FL
          generalize wr = W1 at *
          have p5 := K1.out.bz.c5
          have r5 := K1.out.by'.c5
          dsimp only at p5 r5
          by_cases hlt : i < z.sets.length
          · have hlt' : (i : Int) < (z.sets.length : Int) := by omega
            have hlt2 : (i : Int) < (y.sets.length : Int) := by rw [hly.out]; omega
            have hv := HR.out.2.2.2 i hlt
            obtain ⟨_, hr1⟩ := K1.out.sz.s
            obtain ⟨_, hr2⟩ := K1.out.sy.s
            dsimp only at hr1 hr2
            rcases hr1 with h0 | ⟨b, off, rfl, hb, hx⟩
            · omega
            rcases hr2 with h0 | ⟨b', off', rfl, hb', hy⟩
            · have := hly.out; omega
            obtain ⟨-, -, -, -, x4⟩ := hx i _ (atSe_of hlt)
            obtain ⟨-, -, -, -, y4⟩ := hy i _ (atSe_of (by rw [hly.out]; exact hlt))
            clear hx hy hb hb'
            have hd : ((atSe y.sets i).version != (atSe z.sets i).version) = false := by rw [hv]; simp
            clear hv
            go_wp2_with fail
            go_quiet (fail)
            go_wp2
            exact ⟨⟨i + 1, by omega, by simp, K1.out.drewN _⟩, by simp [intOf]; omega⟩
          · obtain rfl : z.sets.length = i := by omega
            have hd3 : decide ((z.sets.length : Int) < (z.sets.length : Int)) = false := by simp
            go_wp2
            go_ret
            exact ⟨rfl, K1.out.be⟩
  · go_enter Try.func3, Try.ntmps3
    have hbig : (4096 : Int) < (n : Int) := by omega
    go_wp2_with (go_at_call 8; go_in)
    go_ret
    exact ⟨rfl, Below.refl _ _⟩
set_option maxRecDepth 100000 in
theorem lifted (os : Os) (started : os.Started) (H : Type) (enc : TypeId × Value → H) :
    ReturnsInHanded {} Try.checked os 3 .any (Rows.fnNotedSpec.pre6 enc Try.prog Try.f3 Rows.fnNotedRow.domain false) (Rows.fnNotedSpec.post enc Try.prog Try.f3 false true false false) := by
  refine returnsInHanded_of_change (C := Try.checked) own started (by kernel_rfl) Try.func3
    (ChangeSpec.witness6 (enc := enc) (C := Try.checked) false ⟨#[], #[.slice none 0 0], []⟩ 8 (by kernel_rfl) (by kernel_rfl) (by kernel_rfl) (by kernel_rfl)) ?_
  intro W base args ds gs before hval0 hW hcnd _
  have hval : ∀ (j : Nat) t v, Try.f3.params[j]? = some t → args[j]? = some v → Value.okWide Try.prog W .any base t v := hval0
  have hW' := hW
  obtain ⟨p, q, hA0, hV, rfl, hfz, hnd⟩ := hW
  have hA : DataW.TrodAll enc Try.prog W 0 (fun _ => true) true Try.f3.params.toList args.toList ds p := hA0
  rw [Try.params3] at hA hval
  obtain ⟨v0, vs0, d0, ds0, p0, q0, hargs, rfl, rfl, h0, r0⟩ := trodAll_cons hA
  obtain ⟨rfl, rfl, rfl⟩ := trodAll_nil r0
  obtain rfl : args = #[v0] := by cases args; simp_all
  obtain ⟨rfl, rfl⟩ := trodVars_none hV
  obtain ⟨a0, len0, cap0, rfl⟩ := okWide_slice Try.underlying22 (hval 0 22 v0 rfl rfl)
  have k0 := h0
  have lt0 : ∀ x ∈ p0, x.block < W.heap.size := by obtain ⟨m, hm⟩ := k0; exact DataW.trod_lt m _ _ _ hm
  obtain ⟨z0, w0⟩ : ∃ zs, IsRow .u8 W a0 len0 cap0 zs := by
    obtain ⟨fuel, hf⟩ := h0
    rcases open_ints Try.underlying22 Try.underlying5 (by kernel_rfl) hf with ⟨hcs, _⟩ | ⟨x, l, c, zs, hcs, _, hl, hm, hz, _, hcell, hwz⟩
    · simp [Value.cells] at hcs
      obtain ⟨rfl, rfl, rfl⟩ := hcs
      exact ⟨[], .inl ⟨rfl, rfl, rfl, rfl⟩⟩
    · simp [Value.cells] at hcs
      obtain ⟨rfl, rfl, rfl⟩ := hcs
      exact ⟨zs, .inr ⟨_, rfl, hl, hm, by simpa using hz, hcell, hwz⟩⟩
  clear hA0 hval0
  refine (walk a0 len0 cap0 W w0.bytes).mono fun e W' ⟨he, bel⟩ => ?_
  subst he
  exact ⟨_, rfl, _, _, _, [], _, [], hW', trodAll_mk1 (shut_bool Try.underlying4 _), (trodAll_cons_mk (Below.trod laidOut (by kernel_rfl) (of_decide_eq_true (by kernel_rfl)) k0 bel lt0) trodAll_mk0), rfl, bel.frame _, fun h => by cases h⟩

theorem over : Rows.fnNotedRow.holds Try.pinned (OpenSpec.ofChange Rows.fnNotedSpec) :=
  OpenClaim.holds_of_wide 3 Try.f3 rfl rfl rfl rfl rfl rfl rfl ⟨rfl, rfl, rfl, rfl, rfl⟩ rfl rfl rfl rfl rfl (by kernel_rfl) Try.func3 (by kernel_rfl)
    (of_decide_eq_true (by kernel_rfl)) (by unfold Func.isWrapper; first | (rw [if_pos (by decide +kernel)]; kernel_rfl) | (rw [if_neg (by decide +kernel)]; exact ⟨rfl, rfl⟩))
    (fun os started H enc _ => lifted os started H enc)

end Go.Proofs.Ytiidlcjjaglkdaa.fnNoted
namespace Go.Proofs.Ytiidlcjjaglkdaa
theorem fnNoted_holds : Rows.FnNotedSaid := fnNoted.over
#print axioms fnNoted_holds
end Go.Proofs.Ytiidlcjjaglkdaa
