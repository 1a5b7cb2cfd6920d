/- Plain; Mem; Draw1; In; Sets; SeD; NoD: joined. -/
import Derived.WalkKit
import Derived.WalkSpells
import Derived.WalkLawsBesides
import Derived.Below
import Derived.RegionTactic
import Derived.Test.YtiidlcjjaglkdaaRows
import Derived.Deep.QuietTactic
import Derived.BigQuiet
import Derived.Lib.QuietBelow
namespace Go.Proofs.Ytiidlcjjaglkdaa
theorem wrap_i64_small (n : Nat) (h : n < 4294967296) : IntKind.i64.wrap (n : Int) = (n : Int) := by
  simp [IntKind.wrap, IntKind.bits, IntKind.signed]; omega
def usedB (h : Int) : Bool := decide (h / 2 % 2 = 1)
def lockedB (h : Int) : Bool := decide (h % 2 = 1)
def bump (u l : Bool) : Int := (if u then 2 else 0) + (if l then 1 else 0)
end Go.Proofs.Ytiidlcjjaglkdaa
namespace Go.Proofs.Ytiidlcjjaglkdaa
open Go.RowKit
def Room (w : World) (b m : Nat) : Prop := ∀ j, j < m → ∃ v, w.cell? ⟨b, j, none⟩ = some v ∧ w.frozen? ⟨b, j, none⟩ = false
theorem Room.below {w w' : World} {B b m : Nat} (h : Room w b m) (hb : Below B w w') (hB : b < B) : Room w' b m := fun j hj => by
  obtain ⟨v, h1, h2⟩ := h j hj
  exact ⟨v, by rw [hb.cell hB]; exact h1, by rw [hb.frozen hB]; exact h2⟩
theorem cell_set_same {w : World} {b o : Nat} {v v' : Value} (h : w.cell? ⟨b, o, none⟩ = some v) : (w.setCell ⟨b, o, none⟩ v').cell? ⟨b, o, none⟩ = some v' := World.cell?_setCell_same' _ _ _ (by rw [h]; rfl)
theorem cell_set_other {w : World} {b o o' : Nat} {v' : Value} (h : o' ≠ o) : (w.setCell ⟨b, o, none⟩ v').cell? ⟨b, o', none⟩ = w.cell? ⟨b, o', none⟩ := World.cell?_setCell_other _ _ _ _ (fun e => h (by cases e; rfl))
theorem Room.set {w : World} {b m o : Nat} (h : Room w b m) (v : Value) : Room (w.setCell ⟨b, o, none⟩ v) b m := fun j hj => by
  obtain ⟨u, h1, h2⟩ := h j hj
  refine ⟨if j = o then v else u, ?_, by rw [World.frozen?_setCell]; exact h2⟩
  by_cases e : j = o
  · subst e; simp [cell_set_same h1]
  · simp [e, cell_set_other e, h1]
theorem cell_set_far {w : World} {p : Addr} {b o : Nat} (hp : p.block ≠ b) (v : Value) : (w.setCell p v).cell? ⟨b, o, none⟩ = w.cell? ⟨b, o, none⟩ := World.cell?_setCell_other _ _ _ _ (fun e => hp (by rw [e]))
structure OnlyBlock (c : Nat) (w w' : World) : Prop where
  os : w'.os = w.os
  tape : w'.tape = w.tape
  output : w'.output = w.output
  size : w'.heap.size = w.heap.size
  block : ∀ k, k ≠ c → w'.heap[k]? = w.heap[k]?
theorem OnlyBlock.refl (c : Nat) (w : World) : OnlyBlock c w w := ⟨rfl, rfl, rfl, rfl, fun _ _ => rfl⟩
theorem OnlyBlock.setCell {c : Nat} {a w : World} (h : OnlyBlock c a w) (o : Nat) (u : Value) : OnlyBlock c a (w.setCell ⟨c, o, none⟩ u) :=
  ⟨h.os, h.tape, h.output, by simpa [World.setCell] using h.size, fun k hk => (Below.heap_setCell _ _ _ _ hk).trans (h.block k hk)⟩
theorem OnlyBlock.below {c B : Nat} {w w' : World} (h : OnlyBlock c w w') (hB : B ≤ c) : Below B w w' := ⟨h.os, h.tape, h.output, Nat.le_of_eq h.size.symm, fun k hk => h.block k (by omega)⟩
theorem Room.alloc {w : World} {b m : Nat} (h : Room w b m) (hb : b < w.heap.size) (o : Obj) : Room (w.alloc o) b m := h.below ((Below.refl w.heap.size w).alloc (Nat.le_refl _) o) hb
structure Turned (c : Nat) (w w' : World) : Prop where
  os : w'.os = w.os
  tape : w'.tape = w.tape
  output : w'.output = w.output
  size : w.heap.size ≤ w'.heap.size
  block : ∀ k, k < w.heap.size → k ≠ c → w'.heap[k]? = w.heap[k]?
theorem Turned.refl (c : Nat) (w : World) : Turned c w w := ⟨rfl, rfl, rfl, Nat.le_refl _, fun _ _ _ => rfl⟩
theorem Turned.trans {c : Nat} {a b d : World} (h : Turned c a b) (k : Turned c b d) : Turned c a d :=
  ⟨k.os.trans h.os, k.tape.trans h.tape, k.output.trans h.output, Nat.le_trans h.size k.size, fun i hi hc => (k.block i (Nat.lt_of_lt_of_le hi h.size) hc).trans (h.block i hi hc)⟩
theorem Turned.drew {c : Nat} {a w : World} (h : Turned c a w) : Turned c a w.drew := ⟨h.os, h.tape, h.output, h.size, h.block⟩
theorem Turned.drewN {c : Nat} {a w : World} (h : Turned c a w) (n : Nat) : Turned c a (w.drewN n) := ⟨h.os, h.tape, h.output, h.size, h.block⟩
theorem Turned.alloc {c : Nat} {a w : World} (h : Turned c a w) (o : Obj) : Turned c a (w.alloc o) :=
  h.trans ⟨rfl, rfl, rfl, by simp, fun k hk _ => Below.heap_alloc _ _ _ hk⟩
theorem Turned.setCell {c : Nat} {a w : World} (h : Turned c a w) (o : Nat) (u : Value) : Turned c a (w.setCell ⟨c, o, none⟩ u) :=
  h.trans ⟨rfl, rfl, rfl, by simp [World.setCell], fun k _ hc => Below.heap_setCell _ _ _ _ hc⟩
theorem Turned.below {c B : Nat} {w w' : World} (h : Turned c w w') (hB : B ≤ c) (hs : B ≤ w.heap.size) : Below B w w' :=
  ⟨h.os, h.tape, h.output, h.size, fun k hk => h.block k (by omega) (by omega)⟩
theorem Turned.cell {c : Nat} {w w' : World} (h : Turned c w w') {p : Addr} (hp : p.block < w.heap.size) (hc : p.block ≠ c) : w'.cell? p = w.cell? p := World.cell?_of_block (w := w) (h.block p.block hp hc)
theorem Turned.frozen {c : Nat} {w w' : World} (h : Turned c w w') {p : Addr} (hp : p.block < w.heap.size) (hc : p.block ≠ c) : w'.frozen? p = w.frozen? p := World.frozen?_of_block (w := w) (h.block p.block hp hc)
theorem Turned.of_below {c : Nat} {a w w' : World} (h : Turned c a w) (hb : Below w.heap.size w w') : Turned c a w' :=
  ⟨hb.os.trans h.os, hb.tape.trans h.tape, hb.output.trans h.output, Nat.le_trans h.size hb.size, fun k hk hc => (hb.block k (Nat.lt_of_lt_of_le hk h.size)).trans (h.block k hk hc)⟩
theorem Turned.grown {c : Nat} {a w w' : World} {row : Option Nat} (h : Turned c a w) (hg : w.grownBy w' row) (hr : ∀ q, row = some q → a.heap.size ≤ q) : Turned c a w' :=
  ⟨hg.os.trans h.os, hg.tape.trans h.tape, hg.output.trans h.output, Nat.le_trans h.size hg.size, fun k hk hc => (hg.block k (Nat.lt_of_lt_of_le hk h.size) (fun e => by have := hr k e.symm; omega)).trans (h.block k hk hc)⟩
theorem append_known {P : Program} (w : World) {ops : Array Oper} {rest : List Oper} {o : Oper} {a : Act} {Q : Exit → Act → World → Prop} (hg : o.guard = none) (s x : Operand) (t : TypeId)
    (hop : o.op = Op.call { callee := Callee.builtin Builtin.append, args := #[s, x], argTypes := #[t, t] }) (v u v' : Value) (w' : World) (hs : a.eval s = v) (hx : a.eval x = u)
    (hr : (Builtin.append_ #[t, t] o.type #[v, u]).run P w = .ok v' w') (h : wpList P ops Q rest (a.put o.dst v') w') : wpList P ops Q (o :: rest) a w := by
  refine wpList_plain hg fun K hK => ?_
  unfold Oper.wp
  simp [execOp, hop, resolve, invoke, builtin, hs, hx, hr, Result.andThen]
  exact hK _ _ h
theorem step_known {P : Program} (w : World) {ops : Array Oper} {o : Oper} {a : Act} {K : Act → World → Prop} {Q : Exit → Act → World → Prop} {E : Prop} (hgd : o.guard = none) (s x : Operand) (t : TypeId)
    (hop : o.op = Op.call { callee := Callee.builtin Builtin.append, args := #[s, x], argTypes := #[t, t] }) (v u v' : Value) (w' : World) (hs : a.eval s = v) (hx : a.eval x = u)
    (hr : (Builtin.append_ #[t, t] o.type #[v, u]).run P w = .ok v' w') (h : K (a.put o.dst v') w') :
    if Region.wanted o (yielded ops a.tmps) = true then Oper.wp P o a w K Q else E := by
  have hw : Region.wanted o (yielded ops a.tmps) = true := by simp [Region.wanted, hgd]
  rw [if_pos hw]
  unfold Oper.wp
  simp [execOp, hop, resolve, invoke, builtin, hs, hx, hr, Result.andThen]
  exact h
def Cur (w : World) (c : Nat) (a : Option Addr) (n k : Nat) : Prop :=
  ∃ (j : Nat) (h : Int), c < w.heap.size ∧ j ≤ n ∧ w.cell? ⟨c, 0, none⟩ = some (.slice a n k) ∧ w.cell? ⟨c, 1, none⟩ = some (.int .i64 j) ∧ w.cell? ⟨c, 2, none⟩ = some (.int .i64 h)
    ∧ w.frozen? ⟨c, 1, none⟩ = false ∧ w.frozen? ⟨c, 2, none⟩ = false
def Bytes (w : World) (B : Nat) (a : Option Addr) (n : Nat) : Prop :=
  n ≤ maxLen ∧ (n = 0 ∨ ∃ b off, a = some ⟨b, off, none⟩ ∧ b < B ∧ ∀ i, i < n → ∃ x : Int, w.cell? ⟨b, off + i, none⟩ = some (.int .u8 x) ∧ 0 ≤ x ∧ x ≤ 255)
theorem Bytes.below {w w' : World} {B : Nat} {a : Option Addr} {n : Nat} (h : Bytes w B a n) (hb : Below B w w') : Bytes w' B a n := by
  obtain ⟨h1, h2⟩ := h
  refine ⟨h1, ?_⟩
  rcases h2 with h2 | ⟨b, off, ha, hB, hx⟩
  · exact .inl h2
  · exact .inr ⟨b, off, ha, hB, fun i hi => by obtain ⟨x, h, r⟩ := hx i hi; exact ⟨x, by rw [hb.cell (p := ⟨b, off + i, none⟩) hB]; exact h, r⟩⟩
theorem Bytes.mono {w : World} {B B' : Nat} {a : Option Addr} {n : Nat} (h : Bytes w B a n) (hB : B ≤ B') : Bytes w B' a n := by
  obtain ⟨h1, h2⟩ := h
  refine ⟨h1, ?_⟩
  rcases h2 with h2 | ⟨b, off, ha, hb, hx⟩
  · exact .inl h2
  · exact .inr ⟨b, off, ha, by omega, hx⟩
theorem and_255_bd (x : Int) : 0 ≤ bits .and .i64 x 255 ∧ bits .and .i64 x 255 ≤ 255 := by
  have h : (BitVec.ofInt 64 x &&& BitVec.ofInt 64 (255 : Int)).toNat ≤ 255 := by
    rw [BitVec.toNat_and]
    exact Nat.le_trans Nat.and_le_right (by decide)
  have e : bits .and .i64 x 255 = IntKind.i64.wrap ((BitVec.ofInt 64 x &&& BitVec.ofInt 64 (255 : Int)).toNat : Int) := rfl
  rw [e, wrap_i64_small _ (by omega)]
  omega
theorem Cur.drewN {w : World} {c : Nat} {a : Option Addr} {n k : Nat} (h : Cur w c a n k) (m : Nat) : Cur (w.drewN m) c a n k := h
theorem Cur.turned {w w' : World} {c c' : Nat} {a : Option Addr} {n k : Nat} (h : Cur w c a n k) (ht : Turned c' w w') (hne : c ≠ c') : Cur w' c a n k := by
  obtain ⟨j, x, h0, hj, c0, c1, c2, f1, f2⟩ := h
  have hb := ht.block c h0 hne
  exact ⟨j, x, Nat.lt_of_lt_of_le h0 ht.size, hj, (World.cell?_of_block (a := ⟨c, 0, none⟩) hb).trans c0, (World.cell?_of_block (a := ⟨c, 1, none⟩) hb).trans c1, (World.cell?_of_block (a := ⟨c, 2, none⟩) hb).trans c2, (World.frozen?_of_block (a := ⟨c, 1, none⟩) hb).trans f1, (World.frozen?_of_block (a := ⟨c, 2, none⟩) hb).trans f2⟩
theorem Cur.alloc {w : World} {c : Nat} {a : Option Addr} {n k : Nat} (h : Cur w c a n k) (o : Obj) : Cur (w.alloc o) c a n k := by
  have h0 : c < w.heap.size := by obtain ⟨_, _, h0, _⟩ := h; exact h0
  exact h.turned (c' := w.heap.size) ((Turned.refl _ _).alloc o) (by omega)
theorem Cur.new (w : World) (a : Option Addr) (n k : Nat) (h : Int) (t : TypeId) : Cur (w.alloc (.cells #[.slice a n k, .int .i64 0, .int .i64 h] t)) w.heap.size a n k := by
  refine ⟨0, h, by simp, Nat.zero_le _, ?_, ?_, ?_, ?_, ?_⟩
  all_goals go_simp
theorem Cur.step0 {w : World} {c : Nat} {a : Option Addr} {n k j : Nat} (h' : Int) (nq : Nat) (h0 : c < w.heap.size) (hj : j ≤ n) (c0 : w.cell? ⟨c, 0, none⟩ = some (.slice a n k)) (c1 : w.cell? ⟨c, 1, none⟩ = some (.int .i64 j)) {h : Int} (c2 : w.cell? ⟨c, 2, none⟩ = some (.int .i64 h))
    (f1 : w.frozen? ⟨c, 1, none⟩ = false) (f2 : w.frozen? ⟨c, 2, none⟩ = false) : Cur ((w.setCell ⟨c, 2, none⟩ (.int .i64 h')).drewN nq) c a n k := by
  refine ⟨j, h', ?_, hj, ?_, ?_, ?_, ?_, ?_⟩
  · simpa [World.setCell] using h0
  all_goals go_simp
theorem Cur.step1 {w : World} {c : Nat} {a : Option Addr} {n k j : Nat} (h' : Int) (nq : Nat) (h0 : c < w.heap.size) (hj : j + 1 ≤ n) (c0 : w.cell? ⟨c, 0, none⟩ = some (.slice a n k)) (c1 : w.cell? ⟨c, 1, none⟩ = some (.int .i64 j)) {h : Int} (c2 : w.cell? ⟨c, 2, none⟩ = some (.int .i64 h))
    (f1 : w.frozen? ⟨c, 1, none⟩ = false) (f2 : w.frozen? ⟨c, 2, none⟩ = false) : Cur (((w.setCell ⟨c, 2, none⟩ (.int .i64 h')).drewN nq).setCell ⟨c, 1, none⟩ (.int .i64 ((j : Int) + 1))) c a n k := by
  refine ⟨j + 1, h', ?_, hj, ?_, ?_, ?_, ?_, ?_⟩
  · simpa [World.setCell] using h0
  all_goals go_simp
set_option maxHeartbeats 1000000 in
theorem l1Byte_in (w : World) (c : Nat) (n k j : Nat) (b off : Nat) (h x : Int) (h0 : c < w.heap.size) (hj : j < n) (hn : n ≤ maxLen) (c0 : w.cell? ⟨c, 0, none⟩ = some (.slice (some ⟨b, off, none⟩) n k)) (c1 : w.cell? ⟨c, 1, none⟩ = some (.int .i64 j)) (c2 : w.cell? ⟨c, 2, none⟩ = some (.int .i64 h))
    (f1 : w.frozen? ⟨c, 1, none⟩ = false) (f2 : w.frozen? ⟨c, 2, none⟩ = false) (hbc : b ≠ c) (hx : w.cell? ⟨b, off + j, none⟩ = some (.int .u8 x)) (hx0 : 0 ≤ x) (hx1 : x ≤ 255) :
    Calls Try.prog 100 #[.pointer (some ⟨c, 0, none⟩)] w fun e w' => ∃ y : Int, e = .returned (.int .i64 y) ∧ 0 ≤ y ∧ y ≤ 255 ∧ Cur w' c (some ⟨b, off, none⟩) n k ∧ Turned c w w' := by
  unfold maxLen at hn
  go_enter Try.func100, Try.ntmps100
  go_wp2
  go_quiet (fail)
  go_wp2
  go_quiet (fail)
  go_wp2
  go_quiet (fail)
  go_wp2
  go_ret
  exact ⟨_, rfl, (and_255_bd _).1, (and_255_bd _).2, Cur.step1 _ _ h0 hj c0 c1 c2 f1 f2, (((Turned.refl _ _).setCell _ _).drewN _).setCell _ _⟩
set_option maxHeartbeats 1000000 in
theorem l1Byte_out (w : World) (c : Nat) (a : Option Addr) (n k j : Nat) (h : Int) (h0 : c < w.heap.size) (hj : n ≤ j) (hj' : j ≤ n) (c0 : w.cell? ⟨c, 0, none⟩ = some (.slice a n k)) (c1 : w.cell? ⟨c, 1, none⟩ = some (.int .i64 j)) (c2 : w.cell? ⟨c, 2, none⟩ = some (.int .i64 h))
    (f1 : w.frozen? ⟨c, 1, none⟩ = false) (f2 : w.frozen? ⟨c, 2, none⟩ = false) :
    Calls Try.prog 100 #[.pointer (some ⟨c, 0, none⟩)] w fun e w' => ∃ y : Int, e = .returned (.int .i64 y) ∧ 0 ≤ y ∧ y ≤ 255 ∧ Cur w' c a n k ∧ Turned c w w' := by
  have hd : decide ((j : Int) < (n : Int)) = false := by simp; omega
  go_enter Try.func100, Try.ntmps100
  go_wp2
  go_quiet (fail)
  go_wp2
  go_quiet (fail)
  go_wp2
  go_ret
  exact ⟨_, rfl, (and_255_bd _).1, (and_255_bd _).2, Cur.drewN (Cur.step0 _ _ h0 hj' c0 c1 c2 f1 f2) _, (((Turned.refl _ _).setCell _ _).drewN _).drewN _⟩
theorem l1Byte_any (w : World) (B c : Nat) (a : Option Addr) (n k : Nat) (hc : Cur w c a n k) (hb : Bytes w B a n) (hB : B ≤ c) :
    Calls Try.prog 100 #[.pointer (some ⟨c, 0, none⟩)] w fun e w' => ∃ y : Int, e = .returned (.int .i64 y) ∧ 0 ≤ y ∧ y ≤ 255 ∧ Cur w' c a n k ∧ Turned c w w' := by
  obtain ⟨j, h, h0, hj, c0, c1, c2, f1, f2⟩ := hc
  obtain ⟨hn, hb⟩ := hb
  by_cases hlt : j < n
  · rcases hb with hb | ⟨b, off, rfl, hbB, hx⟩
    · omega
    · obtain ⟨x, hx, hx0, hx1⟩ := hx j hlt
      exact l1Byte_in w c n k j b off h x h0 hlt hn c0 c1 c2 f1 f2 (by omega) hx hx0 hx1
  · exact l1Byte_out w c a n k j h h0 (by omega) hj c0 c1 c2 f1 f2
set_option maxHeartbeats 1000000 in
theorem l1Below_small (w : World) (B c : Nat) (a : Option Addr) (n k : Nat) (m : Int) (hc : Cur w c a n k) (hb : Bytes w B a n) (hB : B ≤ c) (hm : 0 < m) (hm' : m ≤ 256) :
    Calls Try.prog 53 #[.pointer (some ⟨c, 0, none⟩), .int .i64 m] w fun e w' => ∃ y : Int, e = .returned (.int .i64 y) ∧ 0 ≤ y ∧ y < m ∧ Cur w' c a n k ∧ Turned c w w' := by
  go_enter Try.func53, Try.ntmps53
  go_wp2_with fail
  refine (l1Byte_any _ B c a n k hc hb hB).mono ?_
  rintro e w1 ⟨y, rfl, hy0, hy1, hc1, ht1⟩
  go_wp2
  go_ret
  exact ⟨y % m, rfl, Int.emod_nonneg _ (by omega), Int.emod_lt_of_pos _ hm, hc1, ht1⟩
set_option maxHeartbeats 1000000 in
theorem l1Below_great (w : World) (B c : Nat) (a : Option Addr) (n k : Nat) (m : Int) (hc : Cur w c a n k) (hb : Bytes w B a n) (hB : B ≤ c) (hm : 256 < m) :
    Calls Try.prog 53 #[.pointer (some ⟨c, 0, none⟩), .int .i64 m] w fun e w' => ∃ y : Int, e = .returned (.int .i64 y) ∧ 0 ≤ y ∧ y < m ∧ Cur w' c a n k ∧ Turned c w w' := by
  have d1 : decide (m ≤ 0) = false := by simp; omega
  have d2 : decide (m ≤ 256) = false := by simp; omega
  have hBw : B ≤ w.heap.size := by obtain ⟨_, _, h0, _⟩ := hc; omega
  go_enter Try.func53, Try.ntmps53
  go_wp2_with fail
  refine (l1Byte_any _ B c a n k hc hb hB).mono ?_
  rintro e w1 ⟨y1, rfl, hy10, hy11, hc1, ht1⟩
  have hb1 := hb.below (ht1.below hB hBw)
  go_wp2_with fail
  refine (l1Byte_any _ B c a n k hc1 hb1 hB).mono ?_
  rintro e w2 ⟨y2, rfl, hy20, hy21, hc2, ht2⟩
  have hb2 := hb1.below (ht2.below hB (Nat.le_trans hBw ht1.size))
  go_wp2_with fail
  refine (l1Byte_any _ B c a n k hc2 hb2 hB).mono ?_
  rintro e w3 ⟨y3, rfl, hy30, hy31, hc3, ht3⟩
  have hb3 := hb2.below (ht3.below hB (Nat.le_trans hBw (Nat.le_trans ht1.size ht2.size)))
  go_wp2_with fail
  refine (l1Byte_any _ B c a n k hc3 hb3 hB).mono ?_
  rintro e w4 ⟨y4, rfl, hy40, hy41, hc4, ht4⟩
  go_wp2
  go_ret
  exact ⟨(y1 * 16777216 + y2 * 65536 + y3 * 256 + y4) % m, rfl, Int.emod_nonneg _ (by omega), Int.emod_lt_of_pos _ (by omega), hc4, ((ht1.trans ht2).trans ht3).trans ht4⟩
theorem l1Below_any (w : World) (B c : Nat) (a : Option Addr) (n k : Nat) (m : Int) (hc : Cur w c a n k) (hb : Bytes w B a n) (hB : B ≤ c) (hm : 0 < m) :
    Calls Try.prog 53 #[.pointer (some ⟨c, 0, none⟩), .int .i64 m] w fun e w' => ∃ y : Int, e = .returned (.int .i64 y) ∧ 0 ≤ y ∧ y < m ∧ Cur w' c a n k ∧ Turned c w w' := by
  by_cases h : m ≤ 256
  · exact l1Below_small w B c a n k m hc hb hB hm h
  · exact l1Below_great w B c a n k m hc hb hB (by omega)
set_option maxHeartbeats 1000000 in
theorem l1Once_any (w : World) (B c : Nat) (a : Option Addr) (n k : Nat) (m : Int) (hc : Cur w c a n k) (hb : Bytes w B a n) (hB : B ≤ c) (hm : 0 < m) :
    Calls Try.prog 87 #[.pointer (some ⟨c, 0, none⟩), .int .i64 m] w fun e w' => ∃ y : Bool, e = .returned (.bool y) ∧ Cur w' c a n k ∧ Turned c w w' := by
  go_enter Try.func87, Try.ntmps87
  go_wp2_with fail
  refine (l1Below_any _ B c a n k m hc hb hB hm).mono ?_
  rintro e w1 ⟨y, rfl, hy0, hy1, hc1, ht1⟩
  go_wp2
  go_ret
  exact ⟨y == 0, rfl, hc1, ht1⟩
set_option maxHeartbeats 1000000 in
theorem l1New_any (w : World) (a : Option Addr) (n k : Nat) (hb : Bytes w w.heap.size a n) (hn : n ≤ 4096) :
    Calls Try.prog 35 #[.slice a n k] w fun e w' => ∃ c : Nat, e = .returned (.pointer (some ⟨c, 0, none⟩)) ∧ w.heap.size ≤ c ∧ Cur w' c a n k ∧ Below w.heap.size w w' := by
  obtain ⟨hm, hb⟩ := hb
  go_enter Try.func35, Try.ntmps35
  go_wp2
  go_loop [3, 4] (fun u i => ∃ (j : Nat) (h : Int), j ≤ n ∧ i = .int .i64 j ∧ u = .int .i64 h) (fun _ i => n - (intOf i).toNat)
  case atStart => exact ⟨0, _, Nat.zero_le _, rfl, rfl⟩
  case round =>
    obtain ⟨j, h, hj, rfl, rfl⟩ := hrel
    by_cases hlt : j < n
    · rcases hb with hb | ⟨b, off, rfl, hbB, hx⟩
      · omega
      · obtain ⟨x, hx, hx0, hx1⟩ := hx j hlt
        go_wp2
        go_round
        case rel => exact ⟨j + 1, _, hlt, by go_num, rfl⟩
        case measure => simp [intOf]; omega
    · go_wp2
      go_ret
      refine ⟨w.heap.size, rfl, Nat.le_refl _, ?_, (Below.refl _ _).alloc (Nat.le_refl _) _⟩
      exact Cur.new w a n k h _
theorem Cur.lt {w : World} {c : Nat} {a : Option Addr} {n k : Nat} (h : Cur w c a n k) : c < w.heap.size := by obtain ⟨_, _, h0, _⟩ := h; exact h0
theorem Turned.put {c b : Nat} {a w : World} (h : Turned c a w) (hb : a.heap.size ≤ b) (o : Nat) (u : Value) : Turned c a (w.setCell ⟨b, o, none⟩ u) :=
  ⟨h.os, h.tape, h.output, by have := h.size; simpa [World.setCell] using this, fun k hk hc => (Below.heap_setCell _ _ _ _ (by simp; omega)).trans (h.block k hk hc)⟩
theorem Cur.put {w : World} {c b : Nat} {a : Option Addr} {n k : Nat} (h : Cur w c a n k) (hb : b ≠ c) (o : Nat) (u : Value) : Cur (w.setCell ⟨b, o, none⟩ u) c a n k := by
  obtain ⟨j, x, h0, hj, c0, c1, c2, f1, f2⟩ := h
  exact ⟨j, x, by simpa [World.setCell] using h0, hj, by rw [cell_set_far (by simpa using hb)]; exact c0, by rw [cell_set_far (by simpa using hb)]; exact c1, by rw [cell_set_far (by simpa using hb)]; exact c2, by rw [World.frozen?_setCell]; exact f1, by rw [World.frozen?_setCell]; exact f2⟩
def inB (lo hi x : Int) : Bool := decide (lo ≤ x) && decide (x ≤ hi)
theorem inB_iff {lo hi x : Int} : inB lo hi x = true ↔ lo ≤ x ∧ x ≤ hi := by simp [inB]
theorem ret_bool {b b' : Bool} (h : b = true ↔ b' = true) : Ending.returned (Value.bool b) = Ending.returned (Value.bool b') := by rw [Bool.eq_iff_iff.2 h]
theorem specIn (w : World) (x lo hi : Int) : Calls Try.prog 95 #[.int .i64 x, .int .i64 lo, .int .i64 hi] w fun e w' => e = .returned (.bool (inB lo hi x)) ∧ w' = w := by
  go_enter Try.func95, Try.ntmps95
  go_wp2
  all_goals (go_ret; refine ⟨ret_bool ?_, rfl⟩; simp [inB_iff]; try omega)
structure S5 where
  region : Int
  slot : Int
  value : Int
  used : Bool
  version : Int
def setOkB (s : S5) : Bool := inB 0 5 s.region && inB 0 5 s.slot && inB (-1000000000) 1000000000 s.value && inB 0 999999 s.version
theorem specRegion (w : World) (x : Int) : Calls Try.prog 96 #[.int .i64 x] w fun e w' => e = .returned (.bool (inB 0 5 x)) ∧ w' = w := by
  go_enter Try.func96, Try.ntmps96
  go_wp2_with (go_at_call 95; refine (specIn _ _ _ _).mono ?_; rintro e w' ⟨rfl, rfl⟩)
  go_ret
  exact ⟨rfl, rfl⟩
theorem specSlot (w : World) (x : Int) : Calls Try.prog 97 #[.int .i64 x] w fun e w' => e = .returned (.bool (inB 0 5 x)) ∧ w' = w := by
  go_enter Try.func97, Try.ntmps97
  go_wp2_with (go_at_call 95; refine (specIn _ _ _ _).mono ?_; rintro e w' ⟨rfl, rfl⟩)
  go_ret
  exact ⟨rfl, rfl⟩
theorem specValue (w : World) (x : Int) : Calls Try.prog 99 #[.int .i64 x] w fun e w' => e = .returned (.bool (inB (-1000000000) 1000000000 x)) ∧ w' = w := by
  go_enter Try.func99, Try.ntmps99
  go_wp2_with (go_at_call 95; refine (specIn _ _ _ _).mono ?_; rintro e w' ⟨rfl, rfl⟩)
  go_ret
  exact ⟨rfl, rfl⟩
theorem implRegion (w : World) (x : Int) : Calls Try.prog 89 #[.int .i64 x] w fun e w' => e = .returned (.bool (inB 0 5 x)) ∧ w' = w := by
  go_enter Try.func89, Try.ntmps89
  go_wp2
  all_goals (go_ret; refine ⟨ret_bool ?_, rfl⟩; simp [inB_iff]; try omega)
theorem implSlot (w : World) (x : Int) : Calls Try.prog 90 #[.int .i64 x] w fun e w' => e = .returned (.bool (inB 0 5 x)) ∧ w' = w := by
  go_enter Try.func90, Try.ntmps90
  go_wp2
  all_goals (go_ret; refine ⟨ret_bool ?_, rfl⟩; simp [inB_iff]; try omega)
theorem implValue (w : World) (x : Int) : Calls Try.prog 92 #[.int .i64 x] w fun e w' => e = .returned (.bool (inB (-1000000000) 1000000000 x)) ∧ w' = w := by
  go_enter Try.func92, Try.ntmps92
  go_wp2
  all_goals (go_ret; refine ⟨ret_bool ?_, rfl⟩; simp [inB_iff]; try omega)
theorem specSetOk (w : World) (s : S5) : Calls Try.prog 61 #[.agg #[.int .i64 s.region, .int .i64 s.slot, .int .i64 s.value, .bool s.used, .int .i64 s.version]] w fun e w' => e = .returned (.bool (setOkB s)) ∧ Below w.heap.size w w' := by
  obtain ⟨r, l, v, u, x⟩ := s
  go_enter Try.func61, Try.ntmps61
  cases h1 : inB 0 5 r <;> cases h2 : inB 0 5 l <;> cases h3 : inB (-1000000000) 1000000000 v
  all_goals go_wp2_with (first | (go_at_call 95; refine (specIn _ _ _ _).mono ?_; rintro e w' ⟨rfl, rfl⟩) | (go_at_call 96; refine (specRegion _ _).mono ?_; rintro e w' ⟨rfl, rfl⟩) | (go_at_call 97; refine (specSlot _ _).mono ?_; rintro e w' ⟨rfl, rfl⟩) | (go_at_call 99; refine (specValue _ _).mono ?_; rintro e w' ⟨rfl, rfl⟩))
  all_goals (go_ret; refine ⟨ret_bool ?_, (Below.refl _ _).alloc (Nat.le_refl _) _⟩; simp only [setOkB, h1, h2, h3, Bool.and_true, Bool.and_false, Bool.false_and, Bool.true_and]; try simp [inB_iff]; try omega)
theorem implSetOk (w : World) (s : S5) : Calls Try.prog 54 #[.agg #[.int .i64 s.region, .int .i64 s.slot, .int .i64 s.value, .bool s.used, .int .i64 s.version]] w fun e w' => e = .returned (.bool (setOkB s)) ∧ Below w.heap.size w w' := by
  obtain ⟨r, l, v, u, x⟩ := s
  go_enter Try.func54, Try.ntmps54
  cases h1 : inB 0 5 r <;> cases h2 : inB 0 5 l <;> cases h3 : inB (-1000000000) 1000000000 v
  all_goals go_wp2_with (first | (go_at_call 89; refine (implRegion _ _).mono ?_; rintro e w' ⟨rfl, rfl⟩) | (go_at_call 90; refine (implSlot _ _).mono ?_; rintro e w' ⟨rfl, rfl⟩) | (go_at_call 92; refine (implValue _ _).mono ?_; rintro e w' ⟨rfl, rfl⟩))
  all_goals (go_ret; refine ⟨ret_bool ?_, (Below.refl _ _).alloc (Nat.le_refl _) _⟩; simp only [setOkB, h1, h2, h3, Bool.and_true, Bool.and_false, Bool.false_and, Bool.true_and]; try simp [inB_iff]; try omega)
end Go.Proofs.Ytiidlcjjaglkdaa
namespace Go.Proofs.Ytiidlcjjaglkdaa
open Go.RowKit
open Go.Sort (grow)
theorem hidOf {p : Prop} (h : p) : Hid p := h
def leftR (l t : Nat) : Int := if t ≤ l then ((l - t : Nat) : Int) else -1
theorem Room.of_block {w w' : World} {b m : Nat} (h : Room w b m) (e : w'.heap[b]? = w.heap[b]?) : Room w' b m := fun j hj => by
  obtain ⟨v, h1, h2⟩ := h j hj
  exact ⟨v, (World.cell?_of_block (a := ⟨b, j, none⟩) e).trans h1, (World.frozen?_of_block (a := ⟨b, j, none⟩) e).trans h2⟩
structure KeptP (P : Nat → Prop) (w w' : World) : Prop where
  os : w'.os = w.os
  tape : w'.tape = w.tape
  output : w'.output = w.output
  size : w.heap.size ≤ w'.heap.size
  block : ∀ q, q < w.heap.size → ¬ P q → w'.heap[q]? = w.heap[q]?
theorem KeptP.refl (P : Nat → Prop) (w : World) : KeptP P w w := ⟨rfl, rfl, rfl, Nat.le_refl _, fun _ _ _ => rfl⟩
theorem KeptP.trans {P : Nat → Prop} {a b c : World} (h : KeptP P a b) (k : KeptP P b c) : KeptP P a c :=
  ⟨k.os.trans h.os, k.tape.trans h.tape, k.output.trans h.output, Nat.le_trans h.size k.size, fun q hq hp => (k.block q (Nat.lt_of_lt_of_le hq h.size) hp).trans (h.block q hq hp)⟩
theorem KeptP.mono {P Q : Nat → Prop} {a b : World} (h : KeptP P a b) (hp : ∀ q, P q → Q q) : KeptP Q a b := ⟨h.os, h.tape, h.output, h.size, fun q hq hn => h.block q hq (fun e => hn (hp q e))⟩
theorem KeptP.of_below {P : Nat → Prop} {a b : World} (h : Below a.heap.size a b) : KeptP P a b := ⟨h.os, h.tape, h.output, h.size, fun q hq _ => h.block q hq⟩
theorem KeptP.below {P : Nat → Prop} {B : Nat} {a b : World} (h : KeptP P a b) (hp : ∀ q, P q → B ≤ q) (hB : B ≤ a.heap.size) : Below B a b := ⟨h.os, h.tape, h.output, h.size, fun q hq => h.block q (by omega) (fun e => by have := hp q e; omega)⟩
structure SetAt (w : World) (b o : Nat) (s : S5) : Prop where
  c0 : w.cell? ⟨b, o, none⟩ = some (.int .i64 s.region)
  c1 : w.cell? ⟨b, o + 1, none⟩ = some (.int .i64 s.slot)
  c2 : w.cell? ⟨b, o + 2, none⟩ = some (.int .i64 s.value)
  c3 : w.cell? ⟨b, o + 3, none⟩ = some (.bool s.used)
  c4 : w.cell? ⟨b, o + 4, none⟩ = some (.int .i64 s.version)
theorem SetAt.below {w w' : World} {B b o : Nat} {s : S5} (h : SetAt w b o s) (hb : Below B w w') (hB : b < B) : SetAt w' b o s :=
  ⟨by rw [hb.cell hB]; exact h.c0, by rw [hb.cell hB]; exact h.c1, by rw [hb.cell hB]; exact h.c2, by rw [hb.cell hB]; exact h.c3, by rw [hb.cell hB]; exact h.c4⟩
def SetsAt (w : World) (b off : Nat) (xs : List S5) : Prop := ∀ i s, xs[i]? = some s → SetAt w b (off + i * 5) s
theorem SetsAt.below {w w' : World} {B b off : Nat} {xs : List S5} (h : SetsAt w b off xs) (hb : Below B w w') (hB : b < B) : SetsAt w' b off xs := fun i s e => (h i s e).below hb hB
def Sl (w : World) (B : Nat) (a : Option Addr) (n : Nat) (xs : List S5) : Prop := xs.length = n ∧ (n = 0 ∨ ∃ b off, a = some ⟨b, off, none⟩ ∧ b < B ∧ SetsAt w b off xs)
theorem Sl.below {w w' : World} {B : Nat} {a : Option Addr} {n : Nat} {xs : List S5} (h : Sl w B a n xs) (hb : Below B w w') : Sl w' B a n xs := by
  obtain ⟨h1, h2⟩ := h
  refine ⟨h1, ?_⟩
  rcases h2 with h2 | ⟨b, off, ha, hB, hx⟩
  · exact .inl h2
  · exact .inr ⟨b, off, ha, hB, hx.below hb hB⟩
theorem Sl.mono {w : World} {B B' : Nat} {a : Option Addr} {n : Nat} {xs : List S5} (h : Sl w B a n xs) (hB : B ≤ B') : Sl w B' a n xs := by
  obtain ⟨h1, h2⟩ := h
  refine ⟨h1, ?_⟩
  rcases h2 with h2 | ⟨b, off, ha, hb, hx⟩
  · exact .inl h2
  · exact .inr ⟨b, off, ha, by omega, hx⟩
theorem SetsAt.far {w : World} {b off : Nat} {xs : List S5} (h : SetsAt w b off xs) {p : Addr} (hp : p.block ≠ b) (v : Value) : SetsAt (w.setCell p v) b off xs := fun i s e =>
  ⟨by rw [cell_set_far hp]; exact (h i s e).c0, by rw [cell_set_far hp]; exact (h i s e).c1, by rw [cell_set_far hp]; exact (h i s e).c2, by rw [cell_set_far hp]; exact (h i s e).c3, by rw [cell_set_far hp]; exact (h i s e).c4⟩
theorem SetAt.set {w : World} {b o p : Nat} {s : S5} (h : SetAt w b o s) (hp : p < o ∨ o + 5 ≤ p) (v : Value) : SetAt (w.setCell ⟨b, p, none⟩ v) b o s :=
  ⟨by rw [cell_set_other (by omega)]; exact h.c0, by rw [cell_set_other (by omega)]; exact h.c1, by rw [cell_set_other (by omega)]; exact h.c2, by rw [cell_set_other (by omega)]; exact h.c3, by rw [cell_set_other (by omega)]; exact h.c4⟩
theorem SetAt.put {w : World} {b o : Nat} {v0 v1 v2 v3 v4 : Value} (s : S5) (h0 : w.cell? ⟨b, o, none⟩ = some v0) (h1 : w.cell? ⟨b, o + 1, none⟩ = some v1) (h2 : w.cell? ⟨b, o + 2, none⟩ = some v2) (h3 : w.cell? ⟨b, o + 3, none⟩ = some v3) (h4 : w.cell? ⟨b, o + 4, none⟩ = some v4) :
    SetAt (((((w.setCell ⟨b, o, none⟩ (.int .i64 s.region)).setCell ⟨b, o + 1, none⟩ (.int .i64 s.slot)).setCell ⟨b, o + 2, none⟩ (.int .i64 s.value)).setCell ⟨b, o + 3, none⟩ (.bool s.used)).setCell ⟨b, o + 4, none⟩ (.int .i64 s.version)) b o s := by
  refine ⟨?_, ?_, ?_, ?_, ?_⟩
  · rw [cell_set_other (by omega), cell_set_other (by omega), cell_set_other (by omega), cell_set_other (by omega)]; exact cell_set_same h0
  · rw [cell_set_other (by omega), cell_set_other (by omega), cell_set_other (by omega)]; exact cell_set_same (by rw [cell_set_other (by omega)]; exact h1)
  · rw [cell_set_other (by omega), cell_set_other (by omega)]; exact cell_set_same (by rw [cell_set_other (by omega), cell_set_other (by omega)]; exact h2)
  · rw [cell_set_other (by omega)]; exact cell_set_same (by rw [cell_set_other (by omega), cell_set_other (by omega), cell_set_other (by omega)]; exact h3)
  · exact cell_set_same (by rw [cell_set_other (by omega), cell_set_other (by omega), cell_set_other (by omega), cell_set_other (by omega)]; exact h4)
theorem SetsAt.put {w : World} {b k : Nat} {xs : List S5} {s : S5} (h : SetsAt w b 0 (xs.take k)) (hs : xs[k]? = some s) {m : Nat} (hr : Room w b m) (hm : k * 5 + 5 ≤ m) :
    SetsAt (((((w.setCell ⟨b, k * 5, none⟩ (.int .i64 s.region)).setCell ⟨b, k * 5 + 1, none⟩ (.int .i64 s.slot)).setCell ⟨b, k * 5 + 2, none⟩ (.int .i64 s.value)).setCell ⟨b, k * 5 + 3, none⟩ (.bool s.used)).setCell ⟨b, k * 5 + 4, none⟩ (.int .i64 s.version)) b 0 (xs.take (k + 1)) := by
  intro i t e
  rw [List.getElem?_take] at e
  split at e
  · rename_i hi
    by_cases hik : i = k
    · subst hik
      rw [hs] at e
      obtain rfl := Option.some.inj e
      obtain ⟨v0, d0, _⟩ := hr (i * 5) (by omega)
      obtain ⟨v1, d1, _⟩ := hr (i * 5 + 1) (by omega)
      obtain ⟨v2, d2, _⟩ := hr (i * 5 + 2) (by omega)
      obtain ⟨v3, d3, _⟩ := hr (i * 5 + 3) (by omega)
      obtain ⟨v4, d4, _⟩ := hr (i * 5 + 4) (by omega)
      simpa using SetAt.put s d0 d1 d2 d3 d4
    · have := h i t (by rw [List.getElem?_take, if_pos (by omega)]; exact e)
      exact ((((this.set (by omega) _).set (by omega) _).set (by omega) _).set (by omega) _).set (by omega) _
  · cases e
theorem SetsAt.of_block {w w' : World} {b off : Nat} {xs : List S5} (h : SetsAt w b off xs) (e : w'.heap[b]? = w.heap[b]?) : SetsAt w' b off xs := fun i s hs => by
  obtain ⟨c0, c1, c2, c3, c4⟩ := h i s hs
  exact ⟨(World.cell?_of_block (a := ⟨b, _, none⟩) e).trans c0, (World.cell?_of_block (a := ⟨b, _, none⟩) e).trans c1, (World.cell?_of_block (a := ⟨b, _, none⟩) e).trans c2, (World.cell?_of_block (a := ⟨b, _, none⟩) e).trans c3, (World.cell?_of_block (a := ⟨b, _, none⟩) e).trans c4⟩
def mkSet (k : Int) (j : Nat) : S5 := ⟨k + 5 * (j : Int), k + 5 * (j : Int) + 1, k + 5 * (j : Int) + 1 + 1, (k + 5 * (j : Int) + 1 + 1 + 1) % 3 == 0, k + 5 * (j : Int) + 1 + 1 + 1 + 1⟩
def mkSets (k : Int) (n : Nat) : List S5 := (List.range n).map (mkSet k)
structure N5 where
  region : Int
  slot : Int
  version : Int
  value : Int
  used : Bool
structure NoteAt (w : World) (b o : Nat) (s : N5) : Prop where
  c0 : w.cell? ⟨b, o, none⟩ = some (.int .i64 s.region)
  c1 : w.cell? ⟨b, o + 1, none⟩ = some (.int .i64 s.slot)
  c2 : w.cell? ⟨b, o + 2, none⟩ = some (.int .i64 s.version)
  c3 : w.cell? ⟨b, o + 3, none⟩ = some (.int .i64 s.value)
  c4 : w.cell? ⟨b, o + 4, none⟩ = some (.bool s.used)
theorem NoteAt.below {w w' : World} {B b o : Nat} {s : N5} (h : NoteAt w b o s) (hb : Below B w w') (hB : b < B) : NoteAt w' b o s :=
  ⟨by rw [hb.cell hB]; exact h.c0, by rw [hb.cell hB]; exact h.c1, by rw [hb.cell hB]; exact h.c2, by rw [hb.cell hB]; exact h.c3, by rw [hb.cell hB]; exact h.c4⟩
def NotesAt (w : World) (b off : Nat) (xs : List N5) : Prop := ∀ i s, xs[i]? = some s → NoteAt w b (off + i * 5) s
theorem NotesAt.below {w w' : World} {B b off : Nat} {xs : List N5} (h : NotesAt w b off xs) (hb : Below B w w') (hB : b < B) : NotesAt w' b off xs := fun i s e => (h i s e).below hb hB
def SlNo (w : World) (B : Nat) (a : Option Addr) (n : Nat) (xs : List N5) : Prop := xs.length = n ∧ (n = 0 ∨ ∃ b off, a = some ⟨b, off, none⟩ ∧ b < B ∧ NotesAt w b off xs)
theorem SlNo.below {w w' : World} {B : Nat} {a : Option Addr} {n : Nat} {xs : List N5} (h : SlNo w B a n xs) (hb : Below B w w') : SlNo w' B a n xs := by
  obtain ⟨h1, h2⟩ := h
  refine ⟨h1, ?_⟩
  rcases h2 with h2 | ⟨b, off, ha, hB, hx⟩
  · exact .inl h2
  · exact .inr ⟨b, off, ha, hB, hx.below hb hB⟩
theorem SlNo.mono {w : World} {B B' : Nat} {a : Option Addr} {n : Nat} {xs : List N5} (h : SlNo w B a n xs) (hB : B ≤ B') : SlNo w B' a n xs := by
  obtain ⟨h1, h2⟩ := h
  refine ⟨h1, ?_⟩
  rcases h2 with h2 | ⟨b, off, ha, hb, hx⟩
  · exact .inl h2
  · exact .inr ⟨b, off, ha, by omega, hx⟩
theorem NotesAt.far {w : World} {b off : Nat} {xs : List N5} (h : NotesAt w b off xs) {p : Addr} (hp : p.block ≠ b) (v : Value) : NotesAt (w.setCell p v) b off xs := fun i s e =>
  ⟨by rw [cell_set_far hp]; exact (h i s e).c0, by rw [cell_set_far hp]; exact (h i s e).c1, by rw [cell_set_far hp]; exact (h i s e).c2, by rw [cell_set_far hp]; exact (h i s e).c3, by rw [cell_set_far hp]; exact (h i s e).c4⟩
theorem NoteAt.set {w : World} {b o p : Nat} {s : N5} (h : NoteAt w b o s) (hp : p < o ∨ o + 5 ≤ p) (v : Value) : NoteAt (w.setCell ⟨b, p, none⟩ v) b o s :=
  ⟨by rw [cell_set_other (by omega)]; exact h.c0, by rw [cell_set_other (by omega)]; exact h.c1, by rw [cell_set_other (by omega)]; exact h.c2, by rw [cell_set_other (by omega)]; exact h.c3, by rw [cell_set_other (by omega)]; exact h.c4⟩
theorem NoteAt.put {w : World} {b o : Nat} {v0 v1 v2 v3 v4 : Value} (s : N5) (h0 : w.cell? ⟨b, o, none⟩ = some v0) (h1 : w.cell? ⟨b, o + 1, none⟩ = some v1) (h2 : w.cell? ⟨b, o + 2, none⟩ = some v2) (h3 : w.cell? ⟨b, o + 3, none⟩ = some v3) (h4 : w.cell? ⟨b, o + 4, none⟩ = some v4) :
    NoteAt (((((w.setCell ⟨b, o, none⟩ (.int .i64 s.region)).setCell ⟨b, o + 1, none⟩ (.int .i64 s.slot)).setCell ⟨b, o + 2, none⟩ (.int .i64 s.version)).setCell ⟨b, o + 3, none⟩ (.int .i64 s.value)).setCell ⟨b, o + 4, none⟩ (.bool s.used)) b o s := by
  refine ⟨?_, ?_, ?_, ?_, ?_⟩
  · rw [cell_set_other (by omega), cell_set_other (by omega), cell_set_other (by omega), cell_set_other (by omega)]; exact cell_set_same h0
  · rw [cell_set_other (by omega), cell_set_other (by omega), cell_set_other (by omega)]; exact cell_set_same (by rw [cell_set_other (by omega)]; exact h1)
  · rw [cell_set_other (by omega), cell_set_other (by omega)]; exact cell_set_same (by rw [cell_set_other (by omega), cell_set_other (by omega)]; exact h2)
  · rw [cell_set_other (by omega)]; exact cell_set_same (by rw [cell_set_other (by omega), cell_set_other (by omega), cell_set_other (by omega)]; exact h3)
  · exact cell_set_same (by rw [cell_set_other (by omega), cell_set_other (by omega), cell_set_other (by omega), cell_set_other (by omega)]; exact h4)
theorem NotesAt.put {w : World} {b k : Nat} {xs : List N5} {s : N5} (h : NotesAt w b 0 (xs.take k)) (hs : xs[k]? = some s) {m : Nat} (hr : Room w b m) (hm : k * 5 + 5 ≤ m) :
    NotesAt (((((w.setCell ⟨b, k * 5, none⟩ (.int .i64 s.region)).setCell ⟨b, k * 5 + 1, none⟩ (.int .i64 s.slot)).setCell ⟨b, k * 5 + 2, none⟩ (.int .i64 s.version)).setCell ⟨b, k * 5 + 3, none⟩ (.int .i64 s.value)).setCell ⟨b, k * 5 + 4, none⟩ (.bool s.used)) b 0 (xs.take (k + 1)) := by
  intro i t e
  rw [List.getElem?_take] at e
  split at e
  · rename_i hi
    by_cases hik : i = k
    · subst hik
      rw [hs] at e
      obtain rfl := Option.some.inj e
      obtain ⟨v0, d0, _⟩ := hr (i * 5) (by omega)
      obtain ⟨v1, d1, _⟩ := hr (i * 5 + 1) (by omega)
      obtain ⟨v2, d2, _⟩ := hr (i * 5 + 2) (by omega)
      obtain ⟨v3, d3, _⟩ := hr (i * 5 + 3) (by omega)
      obtain ⟨v4, d4, _⟩ := hr (i * 5 + 4) (by omega)
      simpa using NoteAt.put s d0 d1 d2 d3 d4
    · have := h i t (by rw [List.getElem?_take, if_pos (by omega)]; exact e)
      exact ((((this.set (by omega) _).set (by omega) _).set (by omega) _).set (by omega) _).set (by omega) _
  · cases e
theorem NotesAt.of_block {w w' : World} {b off : Nat} {xs : List N5} (h : NotesAt w b off xs) (e : w'.heap[b]? = w.heap[b]?) : NotesAt w' b off xs := fun i s hs => by
  obtain ⟨c0, c1, c2, c3, c4⟩ := h i s hs
  exact ⟨(World.cell?_of_block (a := ⟨b, _, none⟩) e).trans c0, (World.cell?_of_block (a := ⟨b, _, none⟩) e).trans c1, (World.cell?_of_block (a := ⟨b, _, none⟩) e).trans c2, (World.cell?_of_block (a := ⟨b, _, none⟩) e).trans c3, (World.cell?_of_block (a := ⟨b, _, none⟩) e).trans c4⟩
def mkNote (k : Int) (j : Nat) : N5 := ⟨k + 5 * (j : Int), k + 5 * (j : Int) + 1, k + 5 * (j : Int) + 1 + 1, k + 5 * (j : Int) + 1 + 1 + 1, (k + 5 * (j : Int) + 1 + 1 + 1 + 1) % 3 == 0⟩
def mkNotes (k : Int) (n : Nat) : List N5 := (List.range n).map (mkNote k)
end Go.Proofs.Ytiidlcjjaglkdaa