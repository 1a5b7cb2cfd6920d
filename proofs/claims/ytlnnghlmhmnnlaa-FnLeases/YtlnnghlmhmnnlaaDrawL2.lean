/- What the specification's draws for Renew, Safe and Dead do: some lease and some numbers, in memory of their own. -/
import Derived.Test.YtlnnghlmhmnnlaaRows
import Derived.Test.YtlnnghlmhmnnlaaDrawL
import Derived.WalkKit
import Derived.WalkSpells
import Derived.WalkLawsBesides
import Derived.Below
import Derived.Deep.RegionHeldLaw
namespace Go.Proofs.Ytlnnghlmhmnnlaa
open Go.RowKit
/-- What is known behind the draw of the lease: the answer's block q, the lease's block s, the cursor c. -/
structure RK (v w : World) (q s c : Nat) (a : Option Addr) (n k : Nat) (l : L3) : Prop where
  box : LBox w q ⟨0, 0, 0⟩
  own : LBox w s l
  cur : Cur w c a n k
  bel : Below v.heap.size v w
  bytes : Bytes w v.heap.size a n
  lt : q < w.heap.size
  lts : s < w.heap.size
  fc : v.heap.size ≤ c
  fq : v.heap.size ≤ q
  fs : v.heap.size ≤ s
  qc : q ≠ c
  sc : s ≠ c
  sq : s ≠ q
theorem RK.step {v w w' : World} {q s c : Nat} {a : Option Addr} {n k : Nat} {l : L3} (h : RK v w q s c a n k l) (hc : Cur w' c a n k) (ht : Turned c w w') : RK v w' q s c a n k l := by
  have hb := ht.below h.fc h.bel.size
  exact ⟨h.box.turned ht h.lt h.qc, h.own.turned ht h.lts h.sc, hc, h.bel.trans hb, h.bytes.below hb, Nat.lt_of_lt_of_le h.lt ht.size, Nat.lt_of_lt_of_le h.lts ht.size, h.fc, h.fq, h.fs, h.qc, h.sc, h.sq⟩
theorem RK.drew {v w : World} {q s c : Nat} {a : Option Addr} {n k : Nat} {l : L3} (h : RK v w q s c a n k l) : RK v w.drew q s c a n k l := h.step (h.cur.drewN 1) (Turned.refl c w).drew
theorem RK.alloc {v w : World} {q s c : Nat} {a : Option Addr} {n k : Nat} {l : L3} (h : RK v w q s c a n k l) (o : Obj) : RK v (w.alloc o) q s c a n k l := h.step (h.cur.alloc o) ((Turned.refl c w).alloc o)
theorem RK.three {v w : World} {q s c : Nat} {a : Option Addr} {n k : Nat} {l : L3} (h : RK v w q s c a n k l) (u0 u1 u2 : Value) : Below v.heap.size v (((w.setCell ⟨q, 0, none⟩ u0).setCell ⟨q, 1, none⟩ u1).setCell ⟨q, 2, none⟩ u2) :=
  ((h.bel.setCell (p := ⟨q, 0, none⟩) h.fq _).setCell (p := ⟨q, 1, none⟩) h.fq _).setCell (p := ⟨q, 2, none⟩) h.fq _
theorem rk_of {w W w1 w2 : World} {c : Nat} {a : Option Addr} {n k : Nat} (hW : W = w.alloc (.cells #[.int .i64 0, .int .i64 0, .int .i64 0] 25)) (hb : Bytes w w.heap.size a n)
    (hc : W.heap.size ≤ c) (b1 : Below W.heap.size W w1) (hc2 : Cur w2 c a n k) (t2 : Turned c w1 w2) (l : L3) :
    RK w (w2.alloc (.cells #[.int .i64 l.holder, .int .i64 l.start, .int .i64 l.length] 25)) w.heap.size w2.heap.size c a n k l := by
  have z0 : W.heap.size = w.heap.size + 1 := by rw [hW]; simp
  have bW : Below w.heap.size w W := by rw [hW]; exact (Below.refl _ _).alloc (Nat.le_refl _) _
  have bx : LBox W w.heap.size ⟨0, 0, 0⟩ := by rw [hW]; exact LBox.new w ⟨0, 0, 0⟩ _
  have bx1 : LBox w1 w.heap.size ⟨0, 0, 0⟩ :=
    ⟨(b1.cell (p := ⟨w.heap.size, _, none⟩) (by simp; omega)).trans bx.c0, (b1.cell (p := ⟨w.heap.size, _, none⟩) (by simp; omega)).trans bx.c1, (b1.cell (p := ⟨w.heap.size, _, none⟩) (by simp; omega)).trans bx.c2, (b1.frozen (p := ⟨w.heap.size, _, none⟩) (by simp; omega)).trans bx.f0, (b1.frozen (p := ⟨w.heap.size, _, none⟩) (by simp; omega)).trans bx.f1, (b1.frozen (p := ⟨w.heap.size, _, none⟩) (by simp; omega)).trans bx.f2⟩
  have s1 := b1.size
  have bx2 := bx1.turned t2 (by omega) (by omega)
  have s2 := t2.size
  have b01 : Below w.heap.size w w1 := bW.trans (b1.mono bW.size)
  have b02 : Below w.heap.size w w2 := b01.trans (t2.below (by omega) (by omega))
  have hlt := hc2.lt
  have ta : Turned c w2 (w2.alloc (.cells #[.int .i64 l.holder, .int .i64 l.start, .int .i64 l.length] 25)) := (Turned.refl _ _).alloc _
  have ba : Below w.heap.size w (w2.alloc (.cells #[.int .i64 l.holder, .int .i64 l.start, .int .i64 l.length] 25)) := b02.alloc b02.size _
  exact ⟨bx2.turned ta (by omega) (by omega), LBox.new w2 l _, hc2.alloc _, ba, hb.below ba, by simp; omega, by simp, by omega, Nat.le_refl _, by omega, by omega, by omega, by omega⟩
theorem far3 {w : World} {q s : Nat} (h : s ≠ q) {v0 v1 v2 : Value} (k : w.cell? ⟨s, 0, none⟩ = some v0 ∧ w.cell? ⟨s, 1, none⟩ = some v1 ∧ w.cell? ⟨s, 2, none⟩ = some v2) (u0 u1 u2 : Value) :
    (((w.setCell ⟨q, 0, none⟩ u0).setCell ⟨q, 1, none⟩ u1).setCell ⟨q, 2, none⟩ u2).cell? ⟨s, 0, none⟩ = some v0 ∧ (((w.setCell ⟨q, 0, none⟩ u0).setCell ⟨q, 1, none⟩ u1).setCell ⟨q, 2, none⟩ u2).cell? ⟨s, 1, none⟩ = some v1 ∧ (((w.setCell ⟨q, 0, none⟩ u0).setCell ⟨q, 1, none⟩ u1).setCell ⟨q, 2, none⟩ u2).cell? ⟨s, 2, none⟩ = some v2 := by
  have e : ∀ o, (((w.setCell ⟨q, 0, none⟩ u0).setCell ⟨q, 1, none⟩ u1).setCell ⟨q, 2, none⟩ u2).cell? ⟨s, o, none⟩ = w.cell? ⟨s, o, none⟩ := fun o => by
    rw [cell_set_far (p := ⟨q, 2, none⟩) (Ne.symm h), cell_set_far (p := ⟨q, 1, none⟩) (Ne.symm h), cell_set_far (p := ⟨q, 0, none⟩) (Ne.symm h)]
  exact ⟨(e 0).trans k.1, (e 1).trans k.2.1, (e 2).trans k.2.2⟩
set_option maxHeartbeats 4000000 in
theorem DrawRenew_any (w : World) (a : Option Addr) (n k : Nat) (hb : Bytes w w.heap.size a n) (hn : n ≤ 4096) :
    Calls Try.prog 16 #[.slice a n k] w fun e w' => ∃ (l : L3) (z : Int), e = .returned (.tuple #[.agg #[.int .i64 l.holder, .int .i64 l.start, .int .i64 l.length], .int .i64 z]) ∧ Below w.heap.size w w' := by
  go_enter Try.func16, Try.ntmps16
  go_wp2_with fail
  obtain ⟨W, hW⟩ : ∃ W, W = w.alloc (.cells #[.int .i64 0, .int .i64 0, .int .i64 0] 25) := ⟨_, rfl⟩
  rw [← hW]
  have bW : Below w.heap.size w W := by rw [hW]; exact (Below.refl _ _).alloc (Nat.le_refl _) _
  refine (l1New_any W a n k ((hb.below bW).mono bW.size) hn).mono ?_
  rintro e w1 ⟨c, rfl, hc, hcur1, b1⟩
  have hB : w.heap.size ≤ c := Nat.le_trans bW.size hc
  have hb1 : Bytes w1 w.heap.size a n := hb.below (bW.trans (b1.mono bW.size))
  go_wp2_with fail
  refine (l4Draw_any w1 w.heap.size c a n k hcur1 hb1 hB).mono ?_
  rintro e w2 ⟨l, rfl, hcur2, t2⟩
  have K3 : Hid (RK w (w2.alloc (.cells #[.int .i64 l.holder, .int .i64 l.start, .int .i64 l.length] 25)) w.heap.size w2.heap.size c a n k l) := rk_of hW hb hc b1 hcur2 t2 l
  clear bW hb1 b1 hcur1 hcur2 t2 hb hW
  go_wp2_with fail
  generalize w2.alloc (.cells #[.int .i64 l.holder, .int .i64 l.start, .int .i64 l.length] 25) = w3 at *
  generalize w2.heap.size = s at *
  generalize hq : w.heap.size = q at *
  obtain ⟨a0, a1, a2, af0, af1, af2⟩ := K3.out.box
  obtain ⟨s0, s1, s2, sf0, sf1, sf2⟩ := K3.out.own
  have hsq := K3.out.sq
  go_region_held_law (fun w' => w'.cell? ⟨s, 0, none⟩ = some (.int .i64 l.holder) ∧ w'.cell? ⟨s, 1, none⟩ = some (.int .i64 l.start) ∧ w'.cell? ⟨s, 2, none⟩ = some (.int .i64 l.length)) (first | assumption | exact far3 hsq KS _ _ _ | go_keep)
    (first
      | (go_at_call 28
         refine (l4DrawNow_any w3.drew w.heap.size c a n k l K3.out.drew.cur K3.out.drew.bytes K3.out.fc).mono ?_
         rintro e w4 ⟨z, rfl, c4, t4⟩
         have K4 := (show Hid _ from K3.out.drew.step c4 t4)
         have KS : w4.cell? ⟨s, 0, none⟩ = some (.int .i64 l.holder) ∧ w4.cell? ⟨s, 1, none⟩ = some (.int .i64 l.start) ∧ w4.cell? ⟨s, 2, none⟩ = some (.int .i64 l.length) := ⟨K4.out.own.c0, K4.out.own.c1, K4.out.own.c2⟩
         have e0 := K4.out.box.c0
         have e1 := K4.out.box.c1
         have e2 := K4.out.box.c2
         have ef0 := K4.out.box.f0
         have ef1 := K4.out.box.f1
         have ef2 := K4.out.box.f2))
  go_wp2
  refine bodyPost_ret (v := .tuple #[.agg #[.int .i64 l.holder, .int .i64 l.start, .int .i64 l.length], .int .i64 z]) (by simp [results, Try.results16, go_sem, e0, e1, e2]) rfl ?_
  exact ⟨l, z, rfl, K4.out.three _ _ _⟩
set_option maxHeartbeats 4000000 in
theorem DrawSafe_any (w : World) (a : Option Addr) (n k : Nat) (hb : Bytes w w.heap.size a n) (hn : n ≤ 4096) :
    Calls Try.prog 11 #[.slice a n k] w fun e w' => ∃ (l : L3) (z d : Int), e = .returned (.tuple #[.agg #[.int .i64 l.holder, .int .i64 l.start, .int .i64 l.length], .int .i64 z, .int .i64 d]) ∧ Below w.heap.size w w' := by
  go_enter Try.func11, Try.ntmps11
  go_wp2_with fail
  obtain ⟨W, hW⟩ : ∃ W, W = w.alloc (.cells #[.int .i64 0, .int .i64 0, .int .i64 0] 25) := ⟨_, rfl⟩
  rw [← hW]
  have bW : Below w.heap.size w W := by rw [hW]; exact (Below.refl _ _).alloc (Nat.le_refl _) _
  refine (l1New_any W a n k ((hb.below bW).mono bW.size) hn).mono ?_
  rintro e w1 ⟨c, rfl, hc, hcur1, b1⟩
  have hB : w.heap.size ≤ c := Nat.le_trans bW.size hc
  have hb1 : Bytes w1 w.heap.size a n := hb.below (bW.trans (b1.mono bW.size))
  go_wp2_with fail
  refine (l4Draw_any w1 w.heap.size c a n k hcur1 hb1 hB).mono ?_
  rintro e w2 ⟨l, rfl, hcur2, t2⟩
  have K3 : Hid (RK w (w2.alloc (.cells #[.int .i64 l.holder, .int .i64 l.start, .int .i64 l.length] 25)) w.heap.size w2.heap.size c a n k l) := rk_of hW hb hc b1 hcur2 t2 l
  clear bW hb1 b1 hcur1 hcur2 t2 hb hW
  go_wp2_with fail
  generalize w2.alloc (.cells #[.int .i64 l.holder, .int .i64 l.start, .int .i64 l.length] 25) = w3 at *
  generalize w2.heap.size = s at *
  generalize hq : w.heap.size = q at *
  refine (l4DrawNow_any w3 w.heap.size c a n k l K3.out.cur K3.out.bytes K3.out.fc).mono ?_
  rintro e w4 ⟨z, rfl, c4, t4⟩
  have K4 := (show Hid _ from K3.out.step c4 t4)
  clear c4 t4 K3
  go_wp2_with fail
  have hw4 : c < w4.heap.size := K4.out.cur.lt
  refine (l1Below_any _ w.heap.size c a n k _ (K4.out.alloc _).cur (K4.out.alloc _).bytes K4.out.fc (by omega)).mono ?_
  rintro e w5 ⟨y, rfl, hy0, hyq, c5, t5⟩
  obtain ⟨p, rfl⟩ := Int.eq_ofNat_of_zero_le hy0
  obtain ⟨x, hx⟩ := new_int_turned [0, 0, 100, 5000, 100000, 100001, -1] _ hw4 t5 p (by simp; omega)
  have K5 := (show Hid _ from (K4.out.alloc _).step c5 t5)
  clear c5 t5 K4
  obtain ⟨a0, a1, a2, af0, af1, af2⟩ := K5.out.box
  obtain ⟨s0, s1, s2, sf0, sf1, sf2⟩ := K5.out.own
  have hsq := K5.out.sq
  go_wp2
  refine bodyPost_ret (v := .tuple #[.agg #[.int .i64 l.holder, .int .i64 l.start, .int .i64 l.length], .int .i64 z, .int .i64 x]) (by simp [results, Try.results11, go_sem, a0, a1, a2]) rfl ?_
  exact ⟨l, z, x, rfl, K5.out.three _ _ _⟩
end Go.Proofs.Ytlnnghlmhmnnlaa
