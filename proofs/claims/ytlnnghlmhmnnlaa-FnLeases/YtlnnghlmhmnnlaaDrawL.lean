/- What the specification's draws of leases do: some lease and some numbers; nothing but the cursor is turned. -/
import Derived.Test.YtlnnghlmhmnnlaaRows
import Derived.Test.YtlnnghlmhmnnlaaDraw1
import Derived.Test.YtlnnghlmhmnnlaaLease
import Derived.WalkKit
import Derived.WalkSpells
import Derived.WalkLawsBesides
import Derived.Below
namespace Go.Proofs.Ytlnnghlmhmnnlaa
open Go.RowKit
theorem l1From_any3 (w : World) (B c : Nat) (a : Option Addr) (n k : Nat) (hc : Cur w c a n k) (hb : Bytes w B a n) (hB : B ≤ c) :
    Calls Try.prog 44 #[.pointer (some ⟨c, 0, none⟩), .int .i64 (-3), .int .i64 3] w fun e w' => ∃ z : Int, e = .returned (.int .i64 z) ∧ Cur w' c a n k ∧ Turned c w w' := by
  go_enter Try.func44, Try.ntmps44
  go_wp2_with fail
  refine (l1Below_any _ B c a n k _ hc hb hB (by omega)).mono ?_
  rintro e w1 ⟨y, rfl, hy0, hy1, hc1, ht1⟩
  go_wp2
  go_ret
  exact ⟨_, rfl, hc1, ht1⟩
theorem l1Min_any (w : World) (x y : Int) : Calls Try.prog 43 #[.int .i64 x, .int .i64 y] w fun e w' => ∃ z : Int, e = .returned (.int .i64 z) ∧ w' = w := by
  by_cases h : x < y
  · go_enter Try.func43, Try.ntmps43
    go_wp2
    go_ret
    first | exact ⟨_, rfl, rfl⟩ | exact ⟨⟨_, rfl⟩, rfl⟩
  · have hd : decide (x < y) = false := by simp [h]
    go_enter Try.func43, Try.ntmps43
    go_wp2
    go_ret
    first | exact ⟨_, rfl, rfl⟩ | exact ⟨⟨_, rfl⟩, rfl⟩
theorem l1Max_any (w : World) (x y : Int) : Calls Try.prog 42 #[.int .i64 x, .int .i64 y] w fun e w' => ∃ z : Int, e = .returned (.int .i64 z) ∧ w' = w := by
  by_cases h : y < x
  · go_enter Try.func42, Try.ntmps42
    go_wp2
    go_ret
    first | exact ⟨_, rfl, rfl⟩ | exact ⟨⟨_, rfl⟩, rfl⟩
  · have hd : decide (y < x) = false := by simp [h]
    go_enter Try.func42, Try.ntmps42
    go_wp2
    go_ret
    first | exact ⟨_, rfl, rfl⟩ | exact ⟨⟨_, rfl⟩, rfl⟩
/-- A block of the draws' own holds a lease that can be written. -/
structure LBox (w : World) (q : Nat) (l : L3) : Prop where
  c0 : w.cell? ⟨q, 0, none⟩ = some (.int .i64 l.holder)
  c1 : w.cell? ⟨q, 1, none⟩ = some (.int .i64 l.start)
  c2 : w.cell? ⟨q, 2, none⟩ = some (.int .i64 l.length)
  f0 : w.frozen? ⟨q, 0, none⟩ = false
  f1 : w.frozen? ⟨q, 1, none⟩ = false
  f2 : w.frozen? ⟨q, 2, none⟩ = false
theorem LBox.turned {w w' : World} {q c : Nat} {l : L3} (h : LBox w q l) (ht : Turned c w w') (hq : q < w.heap.size) (hc : q ≠ c) : LBox w' q l :=
  ⟨(ht.cell (p := ⟨q, _, none⟩) hq hc).trans h.c0, (ht.cell (p := ⟨q, _, none⟩) hq hc).trans h.c1, (ht.cell (p := ⟨q, _, none⟩) hq hc).trans h.c2, (ht.frozen (p := ⟨q, _, none⟩) hq hc).trans h.f0, (ht.frozen (p := ⟨q, _, none⟩) hq hc).trans h.f1, (ht.frozen (p := ⟨q, _, none⟩) hq hc).trans h.f2⟩
theorem LBox.new (w : World) (l : L3) (t : TypeId) : LBox (w.alloc (.cells #[.int .i64 l.holder, .int .i64 l.start, .int .i64 l.length] t)) w.heap.size l :=
  ⟨by go_simp, by go_simp, by go_simp, by go_simp, by go_simp, by go_simp⟩
/-- What is known while a lease is drawn: the answer's block q, as it was made; the lease's block s. -/
structure LK (v w : World) (q s c : Nat) (a : Option Addr) (n k : Nat) (l : L3) : Prop where
  box : LBox w q ⟨0, 0, 0⟩
  own : s = q ∨ (LBox w s l ∧ s ≠ q)
  cur : Cur w c a n k
  turned : Turned c v w
  lt : q < w.heap.size
  lts : s < w.heap.size
  from0 : v.heap.size ≤ q
  from1 : v.heap.size ≤ s
  lc : c < v.heap.size
theorem LK.step {v w w' : World} {q s c : Nat} {a : Option Addr} {n k : Nat} {l : L3} (h : LK v w q s c a n k l) (hc : Cur w' c a n k) (ht : Turned c w w') : LK v w' q s c a n k l := by
  have h0 := h.from0
  have h1 := h.from1
  have h2 := h.lc
  refine ⟨h.box.turned ht h.lt (by omega), ?_, hc, h.turned.trans ht, Nat.lt_of_lt_of_le h.lt ht.size, Nat.lt_of_lt_of_le h.lts ht.size, h0, h1, h2⟩
  rcases h.own with e | ⟨b, e⟩
  · exact .inl e
  · exact .inr ⟨b.turned ht h.lts (by omega), e⟩
theorem LK.begin (w : World) (c : Nat) (a : Option Addr) (n k : Nat) (hc : Cur w c a n k) (t : TypeId) : LK w (w.alloc (.cells #[.int .i64 0, .int .i64 0, .int .i64 0] t)) w.heap.size w.heap.size c a n k ⟨0, 0, 0⟩ :=
  ⟨LBox.new w ⟨0, 0, 0⟩ t, .inl rfl, hc.alloc _, (Turned.refl _ _).alloc _, by simp, by simp, Nat.le_refl _, Nat.le_refl _, hc.lt⟩
theorem LK.next {v w : World} {q s c : Nat} {a : Option Addr} {n k : Nat} {l0 : L3} (h : LK v w q s c a n k l0) (l : L3) (t : TypeId) : LK v (w.alloc (.cells #[.int .i64 l.holder, .int .i64 l.start, .int .i64 l.length] t)) q w.heap.size c a n k l := by
  have h0 := h.from0
  have h2 := h.lc
  have h3 := h.lt
  have h4 := h.turned.size
  exact ⟨h.box.turned ((Turned.refl c w).alloc _) h.lt (by omega), .inr ⟨LBox.new w l t, by omega⟩, h.cur.alloc _, h.turned.alloc _, by simp; omega, by simp, h0, h4, h2⟩
/-- The three cells of the answer written. -/
theorem LK.three {v w : World} {q s c : Nat} {a : Option Addr} {n k : Nat} {l : L3} (h : LK v w q s c a n k l) (u0 u1 u2 : Value) :
    Cur (((w.setCell ⟨q, 0, none⟩ u0).setCell ⟨q, 1, none⟩ u1).setCell ⟨q, 2, none⟩ u2) c a n k ∧ Turned c v (((w.setCell ⟨q, 0, none⟩ u0).setCell ⟨q, 1, none⟩ u1).setCell ⟨q, 2, none⟩ u2) := by
  have h0 := h.from0
  have h2 := h.lc
  have hne : q ≠ c := by omega
  exact ⟨((h.cur.put hne _ _).put hne _ _).put hne _ _, ((h.turned.put h0 _ _).put h0 _ _).put h0 _ _⟩
/-- One cell of the lease, then the three of the answer. -/
theorem LK.four {v w : World} {q s c : Nat} {a : Option Addr} {n k : Nat} {l : L3} (h : LK v w q s c a n k l) (o : Nat) (u u0 u1 u2 : Value) :
    Cur ((((w.setCell ⟨s, o, none⟩ u).setCell ⟨q, 0, none⟩ u0).setCell ⟨q, 1, none⟩ u1).setCell ⟨q, 2, none⟩ u2) c a n k ∧ Turned c v ((((w.setCell ⟨s, o, none⟩ u).setCell ⟨q, 0, none⟩ u0).setCell ⟨q, 1, none⟩ u1).setCell ⟨q, 2, none⟩ u2) := by
  have h0 := h.from0
  have h1 := h.from1
  have h2 := h.lc
  have hne : q ≠ c := by omega
  have hns : s ≠ c := by omega
  exact ⟨(((h.cur.put hns _ _).put hne _ _).put hne _ _).put hne _ _, (((h.turned.put h1 _ _).put h0 _ _).put h0 _ _).put h0 _ _⟩
set_option maxHeartbeats 4000000 in
theorem l4Draw_any (w : World) (B c : Nat) (a : Option Addr) (n k : Nat) (hcur : Cur w c a n k) (hb : Bytes w B a n) (hB : B ≤ c) :
    Calls Try.prog 27 #[.pointer (some ⟨c, 0, none⟩)] w fun e w' => ∃ l : L3, e = .returned (.agg #[.int .i64 l.holder, .int .i64 l.start, .int .i64 l.length]) ∧ Cur w' c a n k ∧ Turned c w w' := by
  have KB : Hid (Bytes w B a n ∧ B ≤ w.heap.size) := ⟨hb, by have := hcur.lt; omega⟩
  have BY : Hid (∀ w', Turned c w w' → Bytes w' B a n) := fun w' h => KB.out.1.below (h.below hB KB.out.2)
  go_enter Try.func27, Try.ntmps27
  go_wp2_with fail
  have K0 : Hid (LK w (w.alloc (.cells #[.int .i64 0, .int .i64 0, .int .i64 0] 25)) w.heap.size w.heap.size c a n k ⟨0, 0, 0⟩) := LK.begin w c a n k hcur _
  generalize w.alloc (.cells #[.int .i64 0, .int .i64 0, .int .i64 0] 25) = W at *
  clear hcur hb
  refine (l1Below_any _ B c a n k _ K0.out.cur (BY.out _ K0.out.turned) hB (by omega)).mono ?_
  rintro e w1 ⟨y1, rfl, hy1, hy1', c1, t1⟩
  have K1 := (show Hid _ from K0.out.step c1 t1)
  clear c1 t1 K0
  go_wp2_with fail
  refine (l1Below_any _ B c a n k _ K1.out.cur (BY.out _ K1.out.turned) hB (by omega)).mono ?_
  rintro e w2 ⟨y2, rfl, hy2, hy2', c2, t2⟩
  have K2 := (show Hid _ from K1.out.step c2 t2)
  clear c2 t2 K1
  go_wp2_with fail
  refine (l1Below_any _ B c a n k _ K2.out.cur (BY.out _ K2.out.turned) hB (by omega)).mono ?_
  rintro e w3 ⟨y3, rfl, hy3, hy3', c3, t3⟩
  have K3 := (show Hid _ from K2.out.step c3 t3)
  clear c3 t3 K2
  go_wp2_with fail
  have K4 : Hid (LK w (w3.alloc (.cells #[.int .i64 y1, .int .i64 y2, .int .i64 (1 + y3)] 25)) w.heap.size w3.heap.size c a n k ⟨y1, y2, 1 + y3⟩) := K3.out.next ⟨y1, y2, 1 + y3⟩ _
  have HS : Hid (w3.heap.size ≠ w.heap.size) := by unfold Hid; have := K3.out.lt; omega
  have hSq : w3.heap.size ≠ w.heap.size := HS.out
  generalize w3.alloc (.cells #[.int .i64 y1, .int .i64 y2, .int .i64 (1 + y3)] 25) = w4 at *
  generalize w3.heap.size = S at *
  clear K3
  refine (l1Once_any _ B c a n k _ K4.out.cur (BY.out _ K4.out.turned) hB (by omega)).mono ?_
  rintro e w6 ⟨u, rfl, c6, t6⟩
  have K6 := (show Hid _ from K4.out.step c6 t6)
  clear c6 t6 K4
  cases u
  · obtain ⟨a0, a1, a2, af0, af1, af2⟩ := K6.out.box
    obtain ⟨⟨s0, s1, s2, sf0, sf1, sf2⟩, _⟩ := K6.out.own.resolve_left HS.out
    go_wp2
    refine bodyPost_ret (v := .agg #[.int .i64 y1, .int .i64 y2, .int .i64 (1 + y3)]) (by simp [results, Try.results27, go_sem, a0, a1, a2]) rfl ?_
    have hf := K6.out.three (.int .i64 y1) (.int .i64 y2) (.int .i64 (1 + y3))
    exact ⟨⟨y1, y2, 1 + y3⟩, rfl, hf.1, hf.2⟩
  · go_wp2_with fail
    refine (l1Below_any _ B c a n k _ K6.out.cur (BY.out _ K6.out.turned) hB (by omega)).mono ?_
    rintro e w7 ⟨y, rfl, hy0, hy1q, c7, t7⟩
    have K7 := (show Hid _ from K6.out.step c7 t7)
    clear c7 t7 K6
    obtain rfl | rfl | rfl : y = 0 ∨ y = 1 ∨ y = 2 := by omega
    · clear hy0 hy1q
      go_wp2_with fail
      have hw7 : c < w7.heap.size := K7.out.cur.lt
      refine (l1Below_any _ B c a n k _ (K7.out.cur.alloc _) (BY.out _ (K7.out.turned.alloc _)) hB (by omega)).mono ?_
      rintro e w8 ⟨y, rfl, hy0, hyq, c8, t8⟩
      obtain ⟨p, rfl⟩ := Int.eq_ofNat_of_zero_le hy0
      obtain ⟨x, hx⟩ := new_int_turned [-1, 7, 8] _ hw7 t8 p (by simp; omega)
      have K8 : Hid (LK w w8 w.heap.size S c a n k ⟨y1, y2, 1 + y3⟩) := (K7.out.step (K7.out.cur.alloc _) ((Turned.refl c w7).alloc _)).step c8 t8
      clear c8 t8 K7
      obtain ⟨a0, a1, a2, af0, af1, af2⟩ := K8.out.box
      obtain ⟨⟨s0, s1, s2, sf0, sf1, sf2⟩, hSq⟩ := K8.out.own.resolve_left HS.out
      go_wp2
      refine bodyPost_ret (v := .agg #[.int .i64 (x), .int .i64 (y2), .int .i64 (1 + y3)]) (by simp [results, Try.results27, go_sem, a0, a1, a2]) rfl ?_
      have hf := K8.out.four 0 (.int .i64 x) (.int .i64 (x)) (.int .i64 (y2)) (.int .i64 (1 + y3))
      exact ⟨⟨x, y2, 1 + y3⟩, rfl, hf.1, hf.2⟩
    · clear hy0 hy1q
      go_wp2_with fail
      have hw7 : c < w7.heap.size := K7.out.cur.lt
      refine (l1Below_any _ B c a n k _ (K7.out.cur.alloc _) (BY.out _ (K7.out.turned.alloc _)) hB (by omega)).mono ?_
      rintro e w8 ⟨y, rfl, hy0, hyq, c8, t8⟩
      obtain ⟨p, rfl⟩ := Int.eq_ofNat_of_zero_le hy0
      obtain ⟨x, hx⟩ := new_int_turned [-1, 1000000000000, 1000000000001, -9223372036854775808] _ hw7 t8 p (by simp; omega)
      have K8 : Hid (LK w w8 w.heap.size S c a n k ⟨y1, y2, 1 + y3⟩) := (K7.out.step (K7.out.cur.alloc _) ((Turned.refl c w7).alloc _)).step c8 t8
      clear c8 t8 K7
      obtain ⟨a0, a1, a2, af0, af1, af2⟩ := K8.out.box
      obtain ⟨⟨s0, s1, s2, sf0, sf1, sf2⟩, hSq⟩ := K8.out.own.resolve_left HS.out
      go_wp2
      refine bodyPost_ret (v := .agg #[.int .i64 (y1), .int .i64 (x), .int .i64 (1 + y3)]) (by simp [results, Try.results27, go_sem, a0, a1, a2]) rfl ?_
      have hf := K8.out.four 1 (.int .i64 x) (.int .i64 (y1)) (.int .i64 (x)) (.int .i64 (1 + y3))
      exact ⟨⟨y1, x, 1 + y3⟩, rfl, hf.1, hf.2⟩
    · clear hy0 hy1q
      go_wp2_with fail
      have hw7 : c < w7.heap.size := K7.out.cur.lt
      refine (l1Below_any _ B c a n k _ (K7.out.cur.alloc _) (BY.out _ (K7.out.turned.alloc _)) hB (by omega)).mono ?_
      rintro e w8 ⟨y, rfl, hy0, hyq, c8, t8⟩
      obtain ⟨p, rfl⟩ := Int.eq_ofNat_of_zero_le hy0
      obtain ⟨x, hx⟩ := new_int_turned [0, 1000000000000, 1000000000001, -9223372036854775808] _ hw7 t8 p (by simp; omega)
      have K8 : Hid (LK w w8 w.heap.size S c a n k ⟨y1, y2, 1 + y3⟩) := (K7.out.step (K7.out.cur.alloc _) ((Turned.refl c w7).alloc _)).step c8 t8
      clear c8 t8 K7
      obtain ⟨a0, a1, a2, af0, af1, af2⟩ := K8.out.box
      obtain ⟨⟨s0, s1, s2, sf0, sf1, sf2⟩, hSq⟩ := K8.out.own.resolve_left HS.out
      go_wp2
      refine bodyPost_ret (v := .agg #[.int .i64 (y1), .int .i64 (y2), .int .i64 (x)]) (by simp [results, Try.results27, go_sem, a0, a1, a2]) rfl ?_
      have hf := K8.out.four 2 (.int .i64 x) (.int .i64 (y1)) (.int .i64 (y2)) (.int .i64 (x))
      exact ⟨⟨y1, y2, x⟩, rfl, hf.1, hf.2⟩
/-- What is known while a time is drawn: the lease's block s. -/
structure NK (v w : World) (s c : Nat) (a : Option Addr) (n k : Nat) (l : L3) : Prop where
  box : LBox w s l
  cur : Cur w c a n k
  turned : Turned c v w
  lts : s < w.heap.size
  from1 : v.heap.size ≤ s
  lc : c < v.heap.size
theorem NK.step {v w w' : World} {s c : Nat} {a : Option Addr} {n k : Nat} {l : L3} (h : NK v w s c a n k l) (hc : Cur w' c a n k) (ht : Turned c w w') : NK v w' s c a n k l := by
  have h1 := h.from1
  have h2 := h.lc
  exact ⟨h.box.turned ht h.lts (by omega), hc, h.turned.trans ht, Nat.lt_of_lt_of_le h.lts ht.size, h1, h2⟩
set_option maxHeartbeats 4000000 in
theorem l4DrawNow_any (w : World) (B c : Nat) (a : Option Addr) (n k : Nat) (l : L3) (hcur : Cur w c a n k) (hb : Bytes w B a n) (hB : B ≤ c) :
    Calls Try.prog 28 #[.pointer (some ⟨c, 0, none⟩), .agg #[.int .i64 l.holder, .int .i64 l.start, .int .i64 l.length]] w fun e w' => ∃ z : Int, e = .returned (.int .i64 z) ∧ Cur w' c a n k ∧ Turned c w w' := by
  have KB : Hid (Bytes w B a n ∧ B ≤ w.heap.size) := ⟨hb, by have := hcur.lt; omega⟩
  have BY : Hid (∀ w', Turned c w w' → Bytes w' B a n) := fun w' h => KB.out.1.below (h.below hB KB.out.2)
  go_enter Try.func28, Try.ntmps28
  go_wp2_with fail
  have K0 : Hid (NK w (w.alloc (.cells #[.int .i64 l.holder, .int .i64 l.start, .int .i64 l.length] 25)) w.heap.size c a n k l) := ⟨LBox.new w l _, hcur.alloc _, (Turned.refl _ _).alloc _, by simp, Nat.le_refl _, hcur.lt⟩
  generalize w.alloc (.cells #[.int .i64 l.holder, .int .i64 l.start, .int .i64 l.length] 25) = W at *
  clear hcur hb
  refine (l1Once_any _ B c a n k _ K0.out.cur (BY.out _ K0.out.turned) hB (by omega)).mono ?_
  rintro e w1 ⟨u, rfl, c1, t1⟩
  have K1 := (show Hid _ from K0.out.step c1 t1)
  clear c1 t1 K0
  cases u
  · go_wp2_with fail
    refine (l1Below_any _ B c a n k _ K1.out.cur (BY.out _ K1.out.turned) hB (by omega)).mono ?_
    rintro e w2 ⟨y2, rfl, hy2, hy2', c2, t2⟩
    have K2 := (show Hid _ from K1.out.step c2 t2)
    clear c2 t2 K1
    go_wp2_with fail
    refine (l1Once_any _ B c a n k _ K2.out.cur (BY.out _ K2.out.turned) hB (by omega)).mono ?_
    rintro e w3 ⟨u, rfl, c3, t3⟩
    have K3 := (show Hid _ from K2.out.step c3 t3)
    clear c3 t3 K2
    cases u
    · obtain ⟨s0, s1, s2, sf0, sf1, sf2⟩ := K3.out.box
      go_wp2_with fail
      refine (l1Max_any _ _ _).mono ?_
      rintro e w3 ⟨z1, rfl, rfl⟩
      go_wp2_with fail
      refine (l1Min_any _ _ _).mono ?_
      rintro e w3 ⟨z2, rfl, rfl⟩
      go_wp2
      go_ret
      exact ⟨_, rfl, K3.out.cur, K3.out.turned⟩
    · obtain ⟨s0, s1, s2, sf0, sf1, sf2⟩ := K3.out.box
      go_wp2_with fail
      refine (l1Min_any _ _ _).mono ?_
      rintro e w3 ⟨z1, rfl, rfl⟩
      go_wp2_with fail
      refine (l1From_any3 _ B c a n k K3.out.cur (BY.out _ K3.out.turned) hB).mono ?_
      rintro e w4 ⟨z2, rfl, c4, t4⟩
      have K4 := (show Hid _ from K3.out.step c4 t4)
      clear c4 t4 K3 s0 s1 s2 sf0 sf1 sf2
      obtain ⟨s0, s1, s2, sf0, sf1, sf2⟩ := K4.out.box
      go_wp2_with fail
      refine (l1Max_any _ _ _).mono ?_
      rintro e w4 ⟨z3, rfl, rfl⟩
      go_wp2_with fail
      refine (l1Max_any _ _ _).mono ?_
      rintro e w4 ⟨z4, rfl, rfl⟩
      go_wp2_with fail
      refine (l1Min_any _ _ _).mono ?_
      rintro e w4 ⟨z5, rfl, rfl⟩
      go_wp2
      go_ret
      exact ⟨_, rfl, K4.out.cur, K4.out.turned⟩
  · go_wp2_with fail
    have hw1 : c < w1.heap.size := K1.out.cur.lt
    refine (l1Below_any _ B c a n k _ (K1.out.cur.alloc _) (BY.out _ (K1.out.turned.alloc _)) hB (by omega)).mono ?_
    rintro e w2 ⟨y, rfl, hy0, hyq, c2, t2⟩
    obtain ⟨p, rfl⟩ := Int.eq_ofNat_of_zero_le hy0
    obtain ⟨x, hx⟩ := new_int_turned [-1, 0, 1000000000000, 1000000000001, -9223372036854775808] _ hw1 t2 p (by simp; omega)
    have K2 : Hid (NK w w2 w.heap.size c a n k l) := (K1.out.step (K1.out.cur.alloc _) ((Turned.refl c w1).alloc _)).step c2 t2
    clear c2 t2 K1
    go_wp2
    go_ret
    exact ⟨_, rfl, K2.out.cur, K2.out.turned⟩
end Go.Proofs.Ytlnnghlmhmnnlaa
