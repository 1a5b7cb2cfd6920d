/- Plain; Mem; Draw1; In; Sets; SeD; NoD; DrwA; NoA; TxD; RowA; TxB; OwnP: joined. -/
import Derived.WalkKit
import Derived.WalkSpells
import Derived.WalkLawsBesides
import Derived.Below
import Derived.RegionTactic
import Derived.Test.YtiidlcjjaglkdaaRows
import Derived.Deep.QuietTactic
import Derived.BigQuiet
import Derived.Lib.QuietBelow
import Derived.Deep.AppendLies
import Derived.Deep.Heap
import Derived.Maps.AppendAt
import Derived.Laws.OwnMore
import Derived.Deep.Upon
namespace Go.Proofs.Ytiidlcjjaglkdaa
theorem wrap_i64_small (n : Nat) (h : n < 4294967296) : IntKind.i64.wrap (n : Int) = (n : Int) := by
  simp [IntKind.wrap, IntKind.bits, IntKind.signed]; omega
def usedB (h : Int) : Bool := decide (h / 2 % 2 = 1)
def lockedB (h : Int) : Bool := decide (h % 2 = 1)
def bump (u l : Bool) : Int := (if u then 2 else 0) + (if l then 1 else 0)
end Go.Proofs.Ytiidlcjjaglkdaa
namespace Go.Proofs.Ytiidlcjjaglkdaa
open Go.RowKit
def Room (w : World) (b m : Nat) : Prop := ∀ j, j < m → ∃ v, w.cell? ⟨b, j, none⟩ = some v ∧ w.frozen? ⟨b, j, none⟩ = false
theorem Room.below {w w' : World} {B b m : Nat} (h : Room w b m) (hb : Below B w w') (hB : b < B) : Room w' b m := fun j hj => by
  obtain ⟨v, h1, h2⟩ := h j hj
  exact ⟨v, by rw [hb.cell hB]; exact h1, by rw [hb.frozen hB]; exact h2⟩
theorem cell_set_same {w : World} {b o : Nat} {v v' : Value} (h : w.cell? ⟨b, o, none⟩ = some v) : (w.setCell ⟨b, o, none⟩ v').cell? ⟨b, o, none⟩ = some v' := World.cell?_setCell_same' _ _ _ (by rw [h]; rfl)
theorem cell_set_other {w : World} {b o o' : Nat} {v' : Value} (h : o' ≠ o) : (w.setCell ⟨b, o, none⟩ v').cell? ⟨b, o', none⟩ = w.cell? ⟨b, o', none⟩ := World.cell?_setCell_other _ _ _ _ (fun e => h (by cases e; rfl))
theorem Room.set {w : World} {b m o : Nat} (h : Room w b m) (v : Value) : Room (w.setCell ⟨b, o, none⟩ v) b m := fun j hj => by
  obtain ⟨u, h1, h2⟩ := h j hj
  refine ⟨if j = o then v else u, ?_, by rw [World.frozen?_setCell]; exact h2⟩
  by_cases e : j = o
  · subst e; simp [cell_set_same h1]
  · simp [e, cell_set_other e, h1]
theorem cell_set_far {w : World} {p : Addr} {b o : Nat} (hp : p.block ≠ b) (v : Value) : (w.setCell p v).cell? ⟨b, o, none⟩ = w.cell? ⟨b, o, none⟩ := World.cell?_setCell_other _ _ _ _ (fun e => hp (by rw [e]))
structure OnlyBlock (c : Nat) (w w' : World) : Prop where
  os : w'.os = w.os
  tape : w'.tape = w.tape
  output : w'.output = w.output
  size : w'.heap.size = w.heap.size
  block : ∀ k, k ≠ c → w'.heap[k]? = w.heap[k]?
theorem OnlyBlock.refl (c : Nat) (w : World) : OnlyBlock c w w := ⟨rfl, rfl, rfl, rfl, fun _ _ => rfl⟩
theorem OnlyBlock.setCell {c : Nat} {a w : World} (h : OnlyBlock c a w) (o : Nat) (u : Value) : OnlyBlock c a (w.setCell ⟨c, o, none⟩ u) :=
  ⟨h.os, h.tape, h.output, by simpa [World.setCell] using h.size, fun k hk => (Below.heap_setCell _ _ _ _ hk).trans (h.block k hk)⟩
theorem OnlyBlock.below {c B : Nat} {w w' : World} (h : OnlyBlock c w w') (hB : B ≤ c) : Below B w w' := ⟨h.os, h.tape, h.output, Nat.le_of_eq h.size.symm, fun k hk => h.block k (by omega)⟩
theorem Room.alloc {w : World} {b m : Nat} (h : Room w b m) (hb : b < w.heap.size) (o : Obj) : Room (w.alloc o) b m := h.below ((Below.refl w.heap.size w).alloc (Nat.le_refl _) o) hb
structure Turned (c : Nat) (w w' : World) : Prop where
  os : w'.os = w.os
  tape : w'.tape = w.tape
  output : w'.output = w.output
  size : w.heap.size ≤ w'.heap.size
  block : ∀ k, k < w.heap.size → k ≠ c → w'.heap[k]? = w.heap[k]?
theorem Turned.refl (c : Nat) (w : World) : Turned c w w := ⟨rfl, rfl, rfl, Nat.le_refl _, fun _ _ _ => rfl⟩
theorem Turned.trans {c : Nat} {a b d : World} (h : Turned c a b) (k : Turned c b d) : Turned c a d :=
  ⟨k.os.trans h.os, k.tape.trans h.tape, k.output.trans h.output, Nat.le_trans h.size k.size, fun i hi hc => (k.block i (Nat.lt_of_lt_of_le hi h.size) hc).trans (h.block i hi hc)⟩
theorem Turned.drew {c : Nat} {a w : World} (h : Turned c a w) : Turned c a w.drew := ⟨h.os, h.tape, h.output, h.size, h.block⟩
theorem Turned.drewN {c : Nat} {a w : World} (h : Turned c a w) (n : Nat) : Turned c a (w.drewN n) := ⟨h.os, h.tape, h.output, h.size, h.block⟩
theorem Turned.alloc {c : Nat} {a w : World} (h : Turned c a w) (o : Obj) : Turned c a (w.alloc o) :=
  h.trans ⟨rfl, rfl, rfl, by simp, fun k hk _ => Below.heap_alloc _ _ _ hk⟩
theorem Turned.setCell {c : Nat} {a w : World} (h : Turned c a w) (o : Nat) (u : Value) : Turned c a (w.setCell ⟨c, o, none⟩ u) :=
  h.trans ⟨rfl, rfl, rfl, by simp [World.setCell], fun k _ hc => Below.heap_setCell _ _ _ _ hc⟩
theorem Turned.below {c B : Nat} {w w' : World} (h : Turned c w w') (hB : B ≤ c) (hs : B ≤ w.heap.size) : Below B w w' :=
  ⟨h.os, h.tape, h.output, h.size, fun k hk => h.block k (by omega) (by omega)⟩
theorem Turned.cell {c : Nat} {w w' : World} (h : Turned c w w') {p : Addr} (hp : p.block < w.heap.size) (hc : p.block ≠ c) : w'.cell? p = w.cell? p := World.cell?_of_block (w := w) (h.block p.block hp hc)
theorem Turned.frozen {c : Nat} {w w' : World} (h : Turned c w w') {p : Addr} (hp : p.block < w.heap.size) (hc : p.block ≠ c) : w'.frozen? p = w.frozen? p := World.frozen?_of_block (w := w) (h.block p.block hp hc)
theorem Turned.of_below {c : Nat} {a w w' : World} (h : Turned c a w) (hb : Below w.heap.size w w') : Turned c a w' :=
  ⟨hb.os.trans h.os, hb.tape.trans h.tape, hb.output.trans h.output, Nat.le_trans h.size hb.size, fun k hk hc => (hb.block k (Nat.lt_of_lt_of_le hk h.size)).trans (h.block k hk hc)⟩
theorem Turned.grown {c : Nat} {a w w' : World} {row : Option Nat} (h : Turned c a w) (hg : w.grownBy w' row) (hr : ∀ q, row = some q → a.heap.size ≤ q) : Turned c a w' :=
  ⟨hg.os.trans h.os, hg.tape.trans h.tape, hg.output.trans h.output, Nat.le_trans h.size hg.size, fun k hk hc => (hg.block k (Nat.lt_of_lt_of_le hk h.size) (fun e => by have := hr k e.symm; omega)).trans (h.block k hk hc)⟩
theorem append_known {P : Program} (w : World) {ops : Array Oper} {rest : List Oper} {o : Oper} {a : Act} {Q : Exit → Act → World → Prop} (hg : o.guard = none) (s x : Operand) (t : TypeId)
    (hop : o.op = Op.call { callee := Callee.builtin Builtin.append, args := #[s, x], argTypes := #[t, t] }) (v u v' : Value) (w' : World) (hs : a.eval s = v) (hx : a.eval x = u)
    (hr : (Builtin.append_ #[t, t] o.type #[v, u]).run P w = .ok v' w') (h : wpList P ops Q rest (a.put o.dst v') w') : wpList P ops Q (o :: rest) a w := by
  refine wpList_plain hg fun K hK => ?_
  unfold Oper.wp
  simp [execOp, hop, resolve, invoke, builtin, hs, hx, hr, Result.andThen]
  exact hK _ _ h
theorem step_known {P : Program} (w : World) {ops : Array Oper} {o : Oper} {a : Act} {K : Act → World → Prop} {Q : Exit → Act → World → Prop} {E : Prop} (hgd : o.guard = none) (s x : Operand) (t : TypeId)
    (hop : o.op = Op.call { callee := Callee.builtin Builtin.append, args := #[s, x], argTypes := #[t, t] }) (v u v' : Value) (w' : World) (hs : a.eval s = v) (hx : a.eval x = u)
    (hr : (Builtin.append_ #[t, t] o.type #[v, u]).run P w = .ok v' w') (h : K (a.put o.dst v') w') :
    if Region.wanted o (yielded ops a.tmps) = true then Oper.wp P o a w K Q else E := by
  have hw : Region.wanted o (yielded ops a.tmps) = true := by simp [Region.wanted, hgd]
  rw [if_pos hw]
  unfold Oper.wp
  simp [execOp, hop, resolve, invoke, builtin, hs, hx, hr, Result.andThen]
  exact h
def Cur (w : World) (c : Nat) (a : Option Addr) (n k : Nat) : Prop :=
  ∃ (j : Nat) (h : Int), c < w.heap.size ∧ j ≤ n ∧ w.cell? ⟨c, 0, none⟩ = some (.slice a n k) ∧ w.cell? ⟨c, 1, none⟩ = some (.int .i64 j) ∧ w.cell? ⟨c, 2, none⟩ = some (.int .i64 h)
    ∧ w.frozen? ⟨c, 1, none⟩ = false ∧ w.frozen? ⟨c, 2, none⟩ = false
def Bytes (w : World) (B : Nat) (a : Option Addr) (n : Nat) : Prop :=
  n ≤ maxLen ∧ (n = 0 ∨ ∃ b off, a = some ⟨b, off, none⟩ ∧ b < B ∧ ∀ i, i < n → ∃ x : Int, w.cell? ⟨b, off + i, none⟩ = some (.int .u8 x) ∧ 0 ≤ x ∧ x ≤ 255)
theorem Bytes.below {w w' : World} {B : Nat} {a : Option Addr} {n : Nat} (h : Bytes w B a n) (hb : Below B w w') : Bytes w' B a n := by
  obtain ⟨h1, h2⟩ := h
  refine ⟨h1, ?_⟩
  rcases h2 with h2 | ⟨b, off, ha, hB, hx⟩
  · exact .inl h2
  · exact .inr ⟨b, off, ha, hB, fun i hi => by obtain ⟨x, h, r⟩ := hx i hi; exact ⟨x, by rw [hb.cell (p := ⟨b, off + i, none⟩) hB]; exact h, r⟩⟩
theorem Bytes.mono {w : World} {B B' : Nat} {a : Option Addr} {n : Nat} (h : Bytes w B a n) (hB : B ≤ B') : Bytes w B' a n := by
  obtain ⟨h1, h2⟩ := h
  refine ⟨h1, ?_⟩
  rcases h2 with h2 | ⟨b, off, ha, hb, hx⟩
  · exact .inl h2
  · exact .inr ⟨b, off, ha, by omega, hx⟩
theorem and_255_bd (x : Int) : 0 ≤ bits .and .i64 x 255 ∧ bits .and .i64 x 255 ≤ 255 := by
  have h : (BitVec.ofInt 64 x &&& BitVec.ofInt 64 (255 : Int)).toNat ≤ 255 := by
    rw [BitVec.toNat_and]
    exact Nat.le_trans Nat.and_le_right (by decide)
  have e : bits .and .i64 x 255 = IntKind.i64.wrap ((BitVec.ofInt 64 x &&& BitVec.ofInt 64 (255 : Int)).toNat : Int) := rfl
  rw [e, wrap_i64_small _ (by omega)]
  omega
theorem Cur.drewN {w : World} {c : Nat} {a : Option Addr} {n k : Nat} (h : Cur w c a n k) (m : Nat) : Cur (w.drewN m) c a n k := h
theorem Cur.turned {w w' : World} {c c' : Nat} {a : Option Addr} {n k : Nat} (h : Cur w c a n k) (ht : Turned c' w w') (hne : c ≠ c') : Cur w' c a n k := by
  obtain ⟨j, x, h0, hj, c0, c1, c2, f1, f2⟩ := h
  have hb := ht.block c h0 hne
  exact ⟨j, x, Nat.lt_of_lt_of_le h0 ht.size, hj, (World.cell?_of_block (a := ⟨c, 0, none⟩) hb).trans c0, (World.cell?_of_block (a := ⟨c, 1, none⟩) hb).trans c1, (World.cell?_of_block (a := ⟨c, 2, none⟩) hb).trans c2, (World.frozen?_of_block (a := ⟨c, 1, none⟩) hb).trans f1, (World.frozen?_of_block (a := ⟨c, 2, none⟩) hb).trans f2⟩
theorem Cur.alloc {w : World} {c : Nat} {a : Option Addr} {n k : Nat} (h : Cur w c a n k) (o : Obj) : Cur (w.alloc o) c a n k := by
  have h0 : c < w.heap.size := by obtain ⟨_, _, h0, _⟩ := h; exact h0
  exact h.turned (c' := w.heap.size) ((Turned.refl _ _).alloc o) (by omega)
theorem Cur.new (w : World) (a : Option Addr) (n k : Nat) (h : Int) (t : TypeId) : Cur (w.alloc (.cells #[.slice a n k, .int .i64 0, .int .i64 h] t)) w.heap.size a n k := by
  refine ⟨0, h, by simp, Nat.zero_le _, ?_, ?_, ?_, ?_, ?_⟩
  all_goals go_simp
theorem Cur.step0 {w : World} {c : Nat} {a : Option Addr} {n k j : Nat} (h' : Int) (nq : Nat) (h0 : c < w.heap.size) (hj : j ≤ n) (c0 : w.cell? ⟨c, 0, none⟩ = some (.slice a n k)) (c1 : w.cell? ⟨c, 1, none⟩ = some (.int .i64 j)) {h : Int} (c2 : w.cell? ⟨c, 2, none⟩ = some (.int .i64 h))
    (f1 : w.frozen? ⟨c, 1, none⟩ = false) (f2 : w.frozen? ⟨c, 2, none⟩ = false) : Cur ((w.setCell ⟨c, 2, none⟩ (.int .i64 h')).drewN nq) c a n k := by
  refine ⟨j, h', ?_, hj, ?_, ?_, ?_, ?_, ?_⟩
  · simpa [World.setCell] using h0
  all_goals go_simp
theorem Cur.step1 {w : World} {c : Nat} {a : Option Addr} {n k j : Nat} (h' : Int) (nq : Nat) (h0 : c < w.heap.size) (hj : j + 1 ≤ n) (c0 : w.cell? ⟨c, 0, none⟩ = some (.slice a n k)) (c1 : w.cell? ⟨c, 1, none⟩ = some (.int .i64 j)) {h : Int} (c2 : w.cell? ⟨c, 2, none⟩ = some (.int .i64 h))
    (f1 : w.frozen? ⟨c, 1, none⟩ = false) (f2 : w.frozen? ⟨c, 2, none⟩ = false) : Cur (((w.setCell ⟨c, 2, none⟩ (.int .i64 h')).drewN nq).setCell ⟨c, 1, none⟩ (.int .i64 ((j : Int) + 1))) c a n k := by
  refine ⟨j + 1, h', ?_, hj, ?_, ?_, ?_, ?_, ?_⟩
  · simpa [World.setCell] using h0
  all_goals go_simp
set_option maxHeartbeats 1000000 in
theorem l1Byte_in (w : World) (c : Nat) (n k j : Nat) (b off : Nat) (h x : Int) (h0 : c < w.heap.size) (hj : j < n) (hn : n ≤ maxLen) (c0 : w.cell? ⟨c, 0, none⟩ = some (.slice (some ⟨b, off, none⟩) n k)) (c1 : w.cell? ⟨c, 1, none⟩ = some (.int .i64 j)) (c2 : w.cell? ⟨c, 2, none⟩ = some (.int .i64 h))
    (f1 : w.frozen? ⟨c, 1, none⟩ = false) (f2 : w.frozen? ⟨c, 2, none⟩ = false) (hbc : b ≠ c) (hx : w.cell? ⟨b, off + j, none⟩ = some (.int .u8 x)) (hx0 : 0 ≤ x) (hx1 : x ≤ 255) :
    Calls Try.prog 100 #[.pointer (some ⟨c, 0, none⟩)] w fun e w' => ∃ y : Int, e = .returned (.int .i64 y) ∧ 0 ≤ y ∧ y ≤ 255 ∧ Cur w' c (some ⟨b, off, none⟩) n k ∧ Turned c w w' := by
  unfold maxLen at hn
  go_enter Try.func100, Try.ntmps100
  go_wp2
  go_quiet (fail)
  go_wp2
  go_quiet (fail)
  go_wp2
  go_quiet (fail)
  go_wp2
  go_ret
  exact ⟨_, rfl, (and_255_bd _).1, (and_255_bd _).2, Cur.step1 _ _ h0 hj c0 c1 c2 f1 f2, (((Turned.refl _ _).setCell _ _).drewN _).setCell _ _⟩
set_option maxHeartbeats 1000000 in
theorem l1Byte_out (w : World) (c : Nat) (a : Option Addr) (n k j : Nat) (h : Int) (h0 : c < w.heap.size) (hj : n ≤ j) (hj' : j ≤ n) (c0 : w.cell? ⟨c, 0, none⟩ = some (.slice a n k)) (c1 : w.cell? ⟨c, 1, none⟩ = some (.int .i64 j)) (c2 : w.cell? ⟨c, 2, none⟩ = some (.int .i64 h))
    (f1 : w.frozen? ⟨c, 1, none⟩ = false) (f2 : w.frozen? ⟨c, 2, none⟩ = false) :
    Calls Try.prog 100 #[.pointer (some ⟨c, 0, none⟩)] w fun e w' => ∃ y : Int, e = .returned (.int .i64 y) ∧ 0 ≤ y ∧ y ≤ 255 ∧ Cur w' c a n k ∧ Turned c w w' := by
  have hd : decide ((j : Int) < (n : Int)) = false := by simp; omega
  go_enter Try.func100, Try.ntmps100
  go_wp2
  go_quiet (fail)
  go_wp2
  go_quiet (fail)
  go_wp2
  go_ret
  exact ⟨_, rfl, (and_255_bd _).1, (and_255_bd _).2, Cur.drewN (Cur.step0 _ _ h0 hj' c0 c1 c2 f1 f2) _, (((Turned.refl _ _).setCell _ _).drewN _).drewN _⟩
theorem l1Byte_any (w : World) (B c : Nat) (a : Option Addr) (n k : Nat) (hc : Cur w c a n k) (hb : Bytes w B a n) (hB : B ≤ c) :
    Calls Try.prog 100 #[.pointer (some ⟨c, 0, none⟩)] w fun e w' => ∃ y : Int, e = .returned (.int .i64 y) ∧ 0 ≤ y ∧ y ≤ 255 ∧ Cur w' c a n k ∧ Turned c w w' := by
  obtain ⟨j, h, h0, hj, c0, c1, c2, f1, f2⟩ := hc
  obtain ⟨hn, hb⟩ := hb
  by_cases hlt : j < n
  · rcases hb with hb | ⟨b, off, rfl, hbB, hx⟩
    · omega
    · obtain ⟨x, hx, hx0, hx1⟩ := hx j hlt
      exact l1Byte_in w c n k j b off h x h0 hlt hn c0 c1 c2 f1 f2 (by omega) hx hx0 hx1
  · exact l1Byte_out w c a n k j h h0 (by omega) hj c0 c1 c2 f1 f2
set_option maxHeartbeats 1000000 in
theorem l1Below_small (w : World) (B c : Nat) (a : Option Addr) (n k : Nat) (m : Int) (hc : Cur w c a n k) (hb : Bytes w B a n) (hB : B ≤ c) (hm : 0 < m) (hm' : m ≤ 256) :
    Calls Try.prog 53 #[.pointer (some ⟨c, 0, none⟩), .int .i64 m] w fun e w' => ∃ y : Int, e = .returned (.int .i64 y) ∧ 0 ≤ y ∧ y < m ∧ Cur w' c a n k ∧ Turned c w w' := by
  go_enter Try.func53, Try.ntmps53
  go_wp2_with fail
  refine (l1Byte_any _ B c a n k hc hb hB).mono ?_
  rintro e w1 ⟨y, rfl, hy0, hy1, hc1, ht1⟩
  go_wp2
  go_ret
  exact ⟨y % m, rfl, Int.emod_nonneg _ (by omega), Int.emod_lt_of_pos _ hm, hc1, ht1⟩
set_option maxHeartbeats 1000000 in
theorem l1Below_great (w : World) (B c : Nat) (a : Option Addr) (n k : Nat) (m : Int) (hc : Cur w c a n k) (hb : Bytes w B a n) (hB : B ≤ c) (hm : 256 < m) :
    Calls Try.prog 53 #[.pointer (some ⟨c, 0, none⟩), .int .i64 m] w fun e w' => ∃ y : Int, e = .returned (.int .i64 y) ∧ 0 ≤ y ∧ y < m ∧ Cur w' c a n k ∧ Turned c w w' := by
  have d1 : decide (m ≤ 0) = false := by simp; omega
  have d2 : decide (m ≤ 256) = false := by simp; omega
  have hBw : B ≤ w.heap.size := by obtain ⟨_, _, h0, _⟩ := hc; omega
  go_enter Try.func53, Try.ntmps53
  go_wp2_with fail
  refine (l1Byte_any _ B c a n k hc hb hB).mono ?_
  rintro e w1 ⟨y1, rfl, hy10, hy11, hc1, ht1⟩
  have hb1 := hb.below (ht1.below hB hBw)
  go_wp2_with fail
  refine (l1Byte_any _ B c a n k hc1 hb1 hB).mono ?_
  rintro e w2 ⟨y2, rfl, hy20, hy21, hc2, ht2⟩
  have hb2 := hb1.below (ht2.below hB (Nat.le_trans hBw ht1.size))
  go_wp2_with fail
  refine (l1Byte_any _ B c a n k hc2 hb2 hB).mono ?_
  rintro e w3 ⟨y3, rfl, hy30, hy31, hc3, ht3⟩
  have hb3 := hb2.below (ht3.below hB (Nat.le_trans hBw (Nat.le_trans ht1.size ht2.size)))
  go_wp2_with fail
  refine (l1Byte_any _ B c a n k hc3 hb3 hB).mono ?_
  rintro e w4 ⟨y4, rfl, hy40, hy41, hc4, ht4⟩
  go_wp2
  go_ret
  exact ⟨(y1 * 16777216 + y2 * 65536 + y3 * 256 + y4) % m, rfl, Int.emod_nonneg _ (by omega), Int.emod_lt_of_pos _ (by omega), hc4, ((ht1.trans ht2).trans ht3).trans ht4⟩
theorem l1Below_any (w : World) (B c : Nat) (a : Option Addr) (n k : Nat) (m : Int) (hc : Cur w c a n k) (hb : Bytes w B a n) (hB : B ≤ c) (hm : 0 < m) :
    Calls Try.prog 53 #[.pointer (some ⟨c, 0, none⟩), .int .i64 m] w fun e w' => ∃ y : Int, e = .returned (.int .i64 y) ∧ 0 ≤ y ∧ y < m ∧ Cur w' c a n k ∧ Turned c w w' := by
  by_cases h : m ≤ 256
  · exact l1Below_small w B c a n k m hc hb hB hm h
  · exact l1Below_great w B c a n k m hc hb hB (by omega)
set_option maxHeartbeats 1000000 in
theorem l1Once_any (w : World) (B c : Nat) (a : Option Addr) (n k : Nat) (m : Int) (hc : Cur w c a n k) (hb : Bytes w B a n) (hB : B ≤ c) (hm : 0 < m) :
    Calls Try.prog 87 #[.pointer (some ⟨c, 0, none⟩), .int .i64 m] w fun e w' => ∃ y : Bool, e = .returned (.bool y) ∧ Cur w' c a n k ∧ Turned c w w' := by
  go_enter Try.func87, Try.ntmps87
  go_wp2_with fail
  refine (l1Below_any _ B c a n k m hc hb hB hm).mono ?_
  rintro e w1 ⟨y, rfl, hy0, hy1, hc1, ht1⟩
  go_wp2
  go_ret
  exact ⟨y == 0, rfl, hc1, ht1⟩
set_option maxHeartbeats 1000000 in
theorem l1New_any (w : World) (a : Option Addr) (n k : Nat) (hb : Bytes w w.heap.size a n) (hn : n ≤ 4096) :
    Calls Try.prog 35 #[.slice a n k] w fun e w' => ∃ c : Nat, e = .returned (.pointer (some ⟨c, 0, none⟩)) ∧ w.heap.size ≤ c ∧ Cur w' c a n k ∧ Below w.heap.size w w' := by
  obtain ⟨hm, hb⟩ := hb
  go_enter Try.func35, Try.ntmps35
  go_wp2
  go_loop [3, 4] (fun u i => ∃ (j : Nat) (h : Int), j ≤ n ∧ i = .int .i64 j ∧ u = .int .i64 h) (fun _ i => n - (intOf i).toNat)
  case atStart => exact ⟨0, _, Nat.zero_le _, rfl, rfl⟩
  case round =>
    obtain ⟨j, h, hj, rfl, rfl⟩ := hrel
    by_cases hlt : j < n
    · rcases hb with hb | ⟨b, off, rfl, hbB, hx⟩
      · omega
      · obtain ⟨x, hx, hx0, hx1⟩ := hx j hlt
        go_wp2
        go_round
        case rel => exact ⟨j + 1, _, hlt, by go_num, rfl⟩
        case measure => simp [intOf]; omega
    · go_wp2
      go_ret
      refine ⟨w.heap.size, rfl, Nat.le_refl _, ?_, (Below.refl _ _).alloc (Nat.le_refl _) _⟩
      exact Cur.new w a n k h _
theorem Cur.lt {w : World} {c : Nat} {a : Option Addr} {n k : Nat} (h : Cur w c a n k) : c < w.heap.size := by obtain ⟨_, _, h0, _⟩ := h; exact h0
theorem Turned.put {c b : Nat} {a w : World} (h : Turned c a w) (hb : a.heap.size ≤ b) (o : Nat) (u : Value) : Turned c a (w.setCell ⟨b, o, none⟩ u) :=
  ⟨h.os, h.tape, h.output, by have := h.size; simpa [World.setCell] using this, fun k hk hc => (Below.heap_setCell _ _ _ _ (by simp; omega)).trans (h.block k hk hc)⟩
theorem Cur.put {w : World} {c b : Nat} {a : Option Addr} {n k : Nat} (h : Cur w c a n k) (hb : b ≠ c) (o : Nat) (u : Value) : Cur (w.setCell ⟨b, o, none⟩ u) c a n k := by
  obtain ⟨j, x, h0, hj, c0, c1, c2, f1, f2⟩ := h
  exact ⟨j, x, by simpa [World.setCell] using h0, hj, by rw [cell_set_far (by simpa using hb)]; exact c0, by rw [cell_set_far (by simpa using hb)]; exact c1, by rw [cell_set_far (by simpa using hb)]; exact c2, by rw [World.frozen?_setCell]; exact f1, by rw [World.frozen?_setCell]; exact f2⟩
def inB (lo hi x : Int) : Bool := decide (lo ≤ x) && decide (x ≤ hi)
theorem inB_iff {lo hi x : Int} : inB lo hi x = true ↔ lo ≤ x ∧ x ≤ hi := by simp [inB]
theorem ret_bool {b b' : Bool} (h : b = true ↔ b' = true) : Ending.returned (Value.bool b) = Ending.returned (Value.bool b') := by rw [Bool.eq_iff_iff.2 h]
theorem specIn (w : World) (x lo hi : Int) : Calls Try.prog 95 #[.int .i64 x, .int .i64 lo, .int .i64 hi] w fun e w' => e = .returned (.bool (inB lo hi x)) ∧ w' = w := by
  go_enter Try.func95, Try.ntmps95
  go_wp2
  all_goals (go_ret; refine ⟨ret_bool ?_, rfl⟩; simp [inB_iff]; try omega)
structure S5 where
  region : Int
  slot : Int
  value : Int
  used : Bool
  version : Int
def setOkB (s : S5) : Bool := inB 0 5 s.region && inB 0 5 s.slot && inB (-1000000000) 1000000000 s.value && inB 0 999999 s.version
theorem specRegion (w : World) (x : Int) : Calls Try.prog 96 #[.int .i64 x] w fun e w' => e = .returned (.bool (inB 0 5 x)) ∧ w' = w := by
  go_enter Try.func96, Try.ntmps96
  go_wp2_with (go_at_call 95; refine (specIn _ _ _ _).mono ?_; rintro e w' ⟨rfl, rfl⟩)
  go_ret
  exact ⟨rfl, rfl⟩
theorem specSlot (w : World) (x : Int) : Calls Try.prog 97 #[.int .i64 x] w fun e w' => e = .returned (.bool (inB 0 5 x)) ∧ w' = w := by
  go_enter Try.func97, Try.ntmps97
  go_wp2_with (go_at_call 95; refine (specIn _ _ _ _).mono ?_; rintro e w' ⟨rfl, rfl⟩)
  go_ret
  exact ⟨rfl, rfl⟩
theorem specValue (w : World) (x : Int) : Calls Try.prog 99 #[.int .i64 x] w fun e w' => e = .returned (.bool (inB (-1000000000) 1000000000 x)) ∧ w' = w := by
  go_enter Try.func99, Try.ntmps99
  go_wp2_with (go_at_call 95; refine (specIn _ _ _ _).mono ?_; rintro e w' ⟨rfl, rfl⟩)
  go_ret
  exact ⟨rfl, rfl⟩
theorem implRegion (w : World) (x : Int) : Calls Try.prog 89 #[.int .i64 x] w fun e w' => e = .returned (.bool (inB 0 5 x)) ∧ w' = w := by
  go_enter Try.func89, Try.ntmps89
  go_wp2
  all_goals (go_ret; refine ⟨ret_bool ?_, rfl⟩; simp [inB_iff]; try omega)
theorem implSlot (w : World) (x : Int) : Calls Try.prog 90 #[.int .i64 x] w fun e w' => e = .returned (.bool (inB 0 5 x)) ∧ w' = w := by
  go_enter Try.func90, Try.ntmps90
  go_wp2
  all_goals (go_ret; refine ⟨ret_bool ?_, rfl⟩; simp [inB_iff]; try omega)
theorem implValue (w : World) (x : Int) : Calls Try.prog 92 #[.int .i64 x] w fun e w' => e = .returned (.bool (inB (-1000000000) 1000000000 x)) ∧ w' = w := by
  go_enter Try.func92, Try.ntmps92
  go_wp2
  all_goals (go_ret; refine ⟨ret_bool ?_, rfl⟩; simp [inB_iff]; try omega)
theorem specSetOk (w : World) (s : S5) : Calls Try.prog 61 #[.agg #[.int .i64 s.region, .int .i64 s.slot, .int .i64 s.value, .bool s.used, .int .i64 s.version]] w fun e w' => e = .returned (.bool (setOkB s)) ∧ Below w.heap.size w w' := by
  obtain ⟨r, l, v, u, x⟩ := s
  go_enter Try.func61, Try.ntmps61
  cases h1 : inB 0 5 r <;> cases h2 : inB 0 5 l <;> cases h3 : inB (-1000000000) 1000000000 v
  all_goals go_wp2_with (first | (go_at_call 95; refine (specIn _ _ _ _).mono ?_; rintro e w' ⟨rfl, rfl⟩) | (go_at_call 96; refine (specRegion _ _).mono ?_; rintro e w' ⟨rfl, rfl⟩) | (go_at_call 97; refine (specSlot _ _).mono ?_; rintro e w' ⟨rfl, rfl⟩) | (go_at_call 99; refine (specValue _ _).mono ?_; rintro e w' ⟨rfl, rfl⟩))
  all_goals (go_ret; refine ⟨ret_bool ?_, (Below.refl _ _).alloc (Nat.le_refl _) _⟩; simp only [setOkB, h1, h2, h3, Bool.and_true, Bool.and_false, Bool.false_and, Bool.true_and]; try simp [inB_iff]; try omega)
theorem implSetOk (w : World) (s : S5) : Calls Try.prog 54 #[.agg #[.int .i64 s.region, .int .i64 s.slot, .int .i64 s.value, .bool s.used, .int .i64 s.version]] w fun e w' => e = .returned (.bool (setOkB s)) ∧ Below w.heap.size w w' := by
  obtain ⟨r, l, v, u, x⟩ := s
  go_enter Try.func54, Try.ntmps54
  cases h1 : inB 0 5 r <;> cases h2 : inB 0 5 l <;> cases h3 : inB (-1000000000) 1000000000 v
  all_goals go_wp2_with (first | (go_at_call 89; refine (implRegion _ _).mono ?_; rintro e w' ⟨rfl, rfl⟩) | (go_at_call 90; refine (implSlot _ _).mono ?_; rintro e w' ⟨rfl, rfl⟩) | (go_at_call 92; refine (implValue _ _).mono ?_; rintro e w' ⟨rfl, rfl⟩))
  all_goals (go_ret; refine ⟨ret_bool ?_, (Below.refl _ _).alloc (Nat.le_refl _) _⟩; simp only [setOkB, h1, h2, h3, Bool.and_true, Bool.and_false, Bool.false_and, Bool.true_and]; try simp [inB_iff]; try omega)
end Go.Proofs.Ytiidlcjjaglkdaa
namespace Go.Proofs.Ytiidlcjjaglkdaa
open Go.RowKit
open Go.Sort (grow)
theorem hidOf {p : Prop} (h : p) : Hid p := h
def leftR (l t : Nat) : Int := if t ≤ l then ((l - t : Nat) : Int) else -1
theorem Room.of_block {w w' : World} {b m : Nat} (h : Room w b m) (e : w'.heap[b]? = w.heap[b]?) : Room w' b m := fun j hj => by
  obtain ⟨v, h1, h2⟩ := h j hj
  exact ⟨v, (World.cell?_of_block (a := ⟨b, j, none⟩) e).trans h1, (World.frozen?_of_block (a := ⟨b, j, none⟩) e).trans h2⟩
structure KeptP (P : Nat → Prop) (w w' : World) : Prop where
  os : w'.os = w.os
  tape : w'.tape = w.tape
  output : w'.output = w.output
  size : w.heap.size ≤ w'.heap.size
  block : ∀ q, q < w.heap.size → ¬ P q → w'.heap[q]? = w.heap[q]?
theorem KeptP.refl (P : Nat → Prop) (w : World) : KeptP P w w := ⟨rfl, rfl, rfl, Nat.le_refl _, fun _ _ _ => rfl⟩
theorem KeptP.trans {P : Nat → Prop} {a b c : World} (h : KeptP P a b) (k : KeptP P b c) : KeptP P a c :=
  ⟨k.os.trans h.os, k.tape.trans h.tape, k.output.trans h.output, Nat.le_trans h.size k.size, fun q hq hp => (k.block q (Nat.lt_of_lt_of_le hq h.size) hp).trans (h.block q hq hp)⟩
theorem KeptP.mono {P Q : Nat → Prop} {a b : World} (h : KeptP P a b) (hp : ∀ q, P q → Q q) : KeptP Q a b := ⟨h.os, h.tape, h.output, h.size, fun q hq hn => h.block q hq (fun e => hn (hp q e))⟩
theorem KeptP.of_only {P : Nat → Prop} {c : Nat} {a b : World} (h : OnlyBlock c a b) (hc : P c) : KeptP P a b := ⟨h.os, h.tape, h.output, Nat.le_of_eq h.size.symm, fun q _ hn => h.block q (fun e => hn (e ▸ hc))⟩
theorem KeptP.of_below {P : Nat → Prop} {a b : World} (h : Below a.heap.size a b) : KeptP P a b := ⟨h.os, h.tape, h.output, h.size, fun q hq _ => h.block q hq⟩
theorem KeptP.of_set {P : Nat → Prop} (w : World) {c o : Nat} (v : Value) (hc : P c) : KeptP P w (w.setCell ⟨c, o, none⟩ v) := .of_only ((OnlyBlock.refl c w).setCell o v) hc
theorem KeptP.below {P : Nat → Prop} {B : Nat} {a b : World} (h : KeptP P a b) (hp : ∀ q, P q → B ≤ q) (hB : B ≤ a.heap.size) : Below B a b := ⟨h.os, h.tape, h.output, h.size, fun q hq => h.block q (by omega) (fun e => by have := hp q e; omega)⟩
structure SetAt (w : World) (b o : Nat) (s : S5) : Prop where
  c0 : w.cell? ⟨b, o, none⟩ = some (.int .i64 s.region)
  c1 : w.cell? ⟨b, o + 1, none⟩ = some (.int .i64 s.slot)
  c2 : w.cell? ⟨b, o + 2, none⟩ = some (.int .i64 s.value)
  c3 : w.cell? ⟨b, o + 3, none⟩ = some (.bool s.used)
  c4 : w.cell? ⟨b, o + 4, none⟩ = some (.int .i64 s.version)
theorem SetAt.below {w w' : World} {B b o : Nat} {s : S5} (h : SetAt w b o s) (hb : Below B w w') (hB : b < B) : SetAt w' b o s :=
  ⟨by rw [hb.cell hB]; exact h.c0, by rw [hb.cell hB]; exact h.c1, by rw [hb.cell hB]; exact h.c2, by rw [hb.cell hB]; exact h.c3, by rw [hb.cell hB]; exact h.c4⟩
def SetsAt (w : World) (b off : Nat) (xs : List S5) : Prop := ∀ i s, xs[i]? = some s → SetAt w b (off + i * 5) s
theorem SetsAt.below {w w' : World} {B b off : Nat} {xs : List S5} (h : SetsAt w b off xs) (hb : Below B w w') (hB : b < B) : SetsAt w' b off xs := fun i s e => (h i s e).below hb hB
def Sl (w : World) (B : Nat) (a : Option Addr) (n : Nat) (xs : List S5) : Prop := xs.length = n ∧ (n = 0 ∨ ∃ b off, a = some ⟨b, off, none⟩ ∧ b < B ∧ SetsAt w b off xs)
theorem Sl.below {w w' : World} {B : Nat} {a : Option Addr} {n : Nat} {xs : List S5} (h : Sl w B a n xs) (hb : Below B w w') : Sl w' B a n xs := by
  obtain ⟨h1, h2⟩ := h
  refine ⟨h1, ?_⟩
  rcases h2 with h2 | ⟨b, off, ha, hB, hx⟩
  · exact .inl h2
  · exact .inr ⟨b, off, ha, hB, hx.below hb hB⟩
theorem Sl.mono {w : World} {B B' : Nat} {a : Option Addr} {n : Nat} {xs : List S5} (h : Sl w B a n xs) (hB : B ≤ B') : Sl w B' a n xs := by
  obtain ⟨h1, h2⟩ := h
  refine ⟨h1, ?_⟩
  rcases h2 with h2 | ⟨b, off, ha, hb, hx⟩
  · exact .inl h2
  · exact .inr ⟨b, off, ha, by omega, hx⟩
theorem SetsAt.far {w : World} {b off : Nat} {xs : List S5} (h : SetsAt w b off xs) {p : Addr} (hp : p.block ≠ b) (v : Value) : SetsAt (w.setCell p v) b off xs := fun i s e =>
  ⟨by rw [cell_set_far hp]; exact (h i s e).c0, by rw [cell_set_far hp]; exact (h i s e).c1, by rw [cell_set_far hp]; exact (h i s e).c2, by rw [cell_set_far hp]; exact (h i s e).c3, by rw [cell_set_far hp]; exact (h i s e).c4⟩
theorem SetAt.set {w : World} {b o p : Nat} {s : S5} (h : SetAt w b o s) (hp : p < o ∨ o + 5 ≤ p) (v : Value) : SetAt (w.setCell ⟨b, p, none⟩ v) b o s :=
  ⟨by rw [cell_set_other (by omega)]; exact h.c0, by rw [cell_set_other (by omega)]; exact h.c1, by rw [cell_set_other (by omega)]; exact h.c2, by rw [cell_set_other (by omega)]; exact h.c3, by rw [cell_set_other (by omega)]; exact h.c4⟩
theorem SetAt.put {w : World} {b o : Nat} {v0 v1 v2 v3 v4 : Value} (s : S5) (h0 : w.cell? ⟨b, o, none⟩ = some v0) (h1 : w.cell? ⟨b, o + 1, none⟩ = some v1) (h2 : w.cell? ⟨b, o + 2, none⟩ = some v2) (h3 : w.cell? ⟨b, o + 3, none⟩ = some v3) (h4 : w.cell? ⟨b, o + 4, none⟩ = some v4) :
    SetAt (((((w.setCell ⟨b, o, none⟩ (.int .i64 s.region)).setCell ⟨b, o + 1, none⟩ (.int .i64 s.slot)).setCell ⟨b, o + 2, none⟩ (.int .i64 s.value)).setCell ⟨b, o + 3, none⟩ (.bool s.used)).setCell ⟨b, o + 4, none⟩ (.int .i64 s.version)) b o s := by
  refine ⟨?_, ?_, ?_, ?_, ?_⟩
  · rw [cell_set_other (by omega), cell_set_other (by omega), cell_set_other (by omega), cell_set_other (by omega)]; exact cell_set_same h0
  · rw [cell_set_other (by omega), cell_set_other (by omega), cell_set_other (by omega)]; exact cell_set_same (by rw [cell_set_other (by omega)]; exact h1)
  · rw [cell_set_other (by omega), cell_set_other (by omega)]; exact cell_set_same (by rw [cell_set_other (by omega), cell_set_other (by omega)]; exact h2)
  · rw [cell_set_other (by omega)]; exact cell_set_same (by rw [cell_set_other (by omega), cell_set_other (by omega), cell_set_other (by omega)]; exact h3)
  · exact cell_set_same (by rw [cell_set_other (by omega), cell_set_other (by omega), cell_set_other (by omega), cell_set_other (by omega)]; exact h4)
theorem SetsAt.put {w : World} {b k : Nat} {xs : List S5} {s : S5} (h : SetsAt w b 0 (xs.take k)) (hs : xs[k]? = some s) {m : Nat} (hr : Room w b m) (hm : k * 5 + 5 ≤ m) :
    SetsAt (((((w.setCell ⟨b, k * 5, none⟩ (.int .i64 s.region)).setCell ⟨b, k * 5 + 1, none⟩ (.int .i64 s.slot)).setCell ⟨b, k * 5 + 2, none⟩ (.int .i64 s.value)).setCell ⟨b, k * 5 + 3, none⟩ (.bool s.used)).setCell ⟨b, k * 5 + 4, none⟩ (.int .i64 s.version)) b 0 (xs.take (k + 1)) := by
  intro i t e
  rw [List.getElem?_take] at e
  split at e
  · rename_i hi
    by_cases hik : i = k
    · subst hik
      rw [hs] at e
      obtain rfl := Option.some.inj e
      obtain ⟨v0, d0, _⟩ := hr (i * 5) (by omega)
      obtain ⟨v1, d1, _⟩ := hr (i * 5 + 1) (by omega)
      obtain ⟨v2, d2, _⟩ := hr (i * 5 + 2) (by omega)
      obtain ⟨v3, d3, _⟩ := hr (i * 5 + 3) (by omega)
      obtain ⟨v4, d4, _⟩ := hr (i * 5 + 4) (by omega)
      simpa using SetAt.put s d0 d1 d2 d3 d4
    · have := h i t (by rw [List.getElem?_take, if_pos (by omega)]; exact e)
      exact ((((this.set (by omega) _).set (by omega) _).set (by omega) _).set (by omega) _).set (by omega) _
  · cases e
theorem SetsAt.of_block {w w' : World} {b off : Nat} {xs : List S5} (h : SetsAt w b off xs) (e : w'.heap[b]? = w.heap[b]?) : SetsAt w' b off xs := fun i s hs => by
  obtain ⟨c0, c1, c2, c3, c4⟩ := h i s hs
  exact ⟨(World.cell?_of_block (a := ⟨b, _, none⟩) e).trans c0, (World.cell?_of_block (a := ⟨b, _, none⟩) e).trans c1, (World.cell?_of_block (a := ⟨b, _, none⟩) e).trans c2, (World.cell?_of_block (a := ⟨b, _, none⟩) e).trans c3, (World.cell?_of_block (a := ⟨b, _, none⟩) e).trans c4⟩
def mkSet (k : Int) (j : Nat) : S5 := ⟨k + 5 * (j : Int), k + 5 * (j : Int) + 1, k + 5 * (j : Int) + 1 + 1, (k + 5 * (j : Int) + 1 + 1 + 1) % 3 == 0, k + 5 * (j : Int) + 1 + 1 + 1 + 1⟩
def mkSets (k : Int) (n : Nat) : List S5 := (List.range n).map (mkSet k)
structure N5 where
  region : Int
  slot : Int
  version : Int
  value : Int
  used : Bool
structure NoteAt (w : World) (b o : Nat) (s : N5) : Prop where
  c0 : w.cell? ⟨b, o, none⟩ = some (.int .i64 s.region)
  c1 : w.cell? ⟨b, o + 1, none⟩ = some (.int .i64 s.slot)
  c2 : w.cell? ⟨b, o + 2, none⟩ = some (.int .i64 s.version)
  c3 : w.cell? ⟨b, o + 3, none⟩ = some (.int .i64 s.value)
  c4 : w.cell? ⟨b, o + 4, none⟩ = some (.bool s.used)
theorem NoteAt.below {w w' : World} {B b o : Nat} {s : N5} (h : NoteAt w b o s) (hb : Below B w w') (hB : b < B) : NoteAt w' b o s :=
  ⟨by rw [hb.cell hB]; exact h.c0, by rw [hb.cell hB]; exact h.c1, by rw [hb.cell hB]; exact h.c2, by rw [hb.cell hB]; exact h.c3, by rw [hb.cell hB]; exact h.c4⟩
def NotesAt (w : World) (b off : Nat) (xs : List N5) : Prop := ∀ i s, xs[i]? = some s → NoteAt w b (off + i * 5) s
theorem NotesAt.below {w w' : World} {B b off : Nat} {xs : List N5} (h : NotesAt w b off xs) (hb : Below B w w') (hB : b < B) : NotesAt w' b off xs := fun i s e => (h i s e).below hb hB
def SlNo (w : World) (B : Nat) (a : Option Addr) (n : Nat) (xs : List N5) : Prop := xs.length = n ∧ (n = 0 ∨ ∃ b off, a = some ⟨b, off, none⟩ ∧ b < B ∧ NotesAt w b off xs)
theorem SlNo.below {w w' : World} {B : Nat} {a : Option Addr} {n : Nat} {xs : List N5} (h : SlNo w B a n xs) (hb : Below B w w') : SlNo w' B a n xs := by
  obtain ⟨h1, h2⟩ := h
  refine ⟨h1, ?_⟩
  rcases h2 with h2 | ⟨b, off, ha, hB, hx⟩
  · exact .inl h2
  · exact .inr ⟨b, off, ha, hB, hx.below hb hB⟩
theorem SlNo.mono {w : World} {B B' : Nat} {a : Option Addr} {n : Nat} {xs : List N5} (h : SlNo w B a n xs) (hB : B ≤ B') : SlNo w B' a n xs := by
  obtain ⟨h1, h2⟩ := h
  refine ⟨h1, ?_⟩
  rcases h2 with h2 | ⟨b, off, ha, hb, hx⟩
  · exact .inl h2
  · exact .inr ⟨b, off, ha, by omega, hx⟩
theorem NotesAt.far {w : World} {b off : Nat} {xs : List N5} (h : NotesAt w b off xs) {p : Addr} (hp : p.block ≠ b) (v : Value) : NotesAt (w.setCell p v) b off xs := fun i s e =>
  ⟨by rw [cell_set_far hp]; exact (h i s e).c0, by rw [cell_set_far hp]; exact (h i s e).c1, by rw [cell_set_far hp]; exact (h i s e).c2, by rw [cell_set_far hp]; exact (h i s e).c3, by rw [cell_set_far hp]; exact (h i s e).c4⟩
theorem NoteAt.set {w : World} {b o p : Nat} {s : N5} (h : NoteAt w b o s) (hp : p < o ∨ o + 5 ≤ p) (v : Value) : NoteAt (w.setCell ⟨b, p, none⟩ v) b o s :=
  ⟨by rw [cell_set_other (by omega)]; exact h.c0, by rw [cell_set_other (by omega)]; exact h.c1, by rw [cell_set_other (by omega)]; exact h.c2, by rw [cell_set_other (by omega)]; exact h.c3, by rw [cell_set_other (by omega)]; exact h.c4⟩
theorem NoteAt.put {w : World} {b o : Nat} {v0 v1 v2 v3 v4 : Value} (s : N5) (h0 : w.cell? ⟨b, o, none⟩ = some v0) (h1 : w.cell? ⟨b, o + 1, none⟩ = some v1) (h2 : w.cell? ⟨b, o + 2, none⟩ = some v2) (h3 : w.cell? ⟨b, o + 3, none⟩ = some v3) (h4 : w.cell? ⟨b, o + 4, none⟩ = some v4) :
    NoteAt (((((w.setCell ⟨b, o, none⟩ (.int .i64 s.region)).setCell ⟨b, o + 1, none⟩ (.int .i64 s.slot)).setCell ⟨b, o + 2, none⟩ (.int .i64 s.version)).setCell ⟨b, o + 3, none⟩ (.int .i64 s.value)).setCell ⟨b, o + 4, none⟩ (.bool s.used)) b o s := by
  refine ⟨?_, ?_, ?_, ?_, ?_⟩
  · rw [cell_set_other (by omega), cell_set_other (by omega), cell_set_other (by omega), cell_set_other (by omega)]; exact cell_set_same h0
  · rw [cell_set_other (by omega), cell_set_other (by omega), cell_set_other (by omega)]; exact cell_set_same (by rw [cell_set_other (by omega)]; exact h1)
  · rw [cell_set_other (by omega), cell_set_other (by omega)]; exact cell_set_same (by rw [cell_set_other (by omega), cell_set_other (by omega)]; exact h2)
  · rw [cell_set_other (by omega)]; exact cell_set_same (by rw [cell_set_other (by omega), cell_set_other (by omega), cell_set_other (by omega)]; exact h3)
  · exact cell_set_same (by rw [cell_set_other (by omega), cell_set_other (by omega), cell_set_other (by omega), cell_set_other (by omega)]; exact h4)
theorem NotesAt.put {w : World} {b k : Nat} {xs : List N5} {s : N5} (h : NotesAt w b 0 (xs.take k)) (hs : xs[k]? = some s) {m : Nat} (hr : Room w b m) (hm : k * 5 + 5 ≤ m) :
    NotesAt (((((w.setCell ⟨b, k * 5, none⟩ (.int .i64 s.region)).setCell ⟨b, k * 5 + 1, none⟩ (.int .i64 s.slot)).setCell ⟨b, k * 5 + 2, none⟩ (.int .i64 s.version)).setCell ⟨b, k * 5 + 3, none⟩ (.int .i64 s.value)).setCell ⟨b, k * 5 + 4, none⟩ (.bool s.used)) b 0 (xs.take (k + 1)) := by
  intro i t e
  rw [List.getElem?_take] at e
  split at e
  · rename_i hi
    by_cases hik : i = k
    · subst hik
      rw [hs] at e
      obtain rfl := Option.some.inj e
      obtain ⟨v0, d0, _⟩ := hr (i * 5) (by omega)
      obtain ⟨v1, d1, _⟩ := hr (i * 5 + 1) (by omega)
      obtain ⟨v2, d2, _⟩ := hr (i * 5 + 2) (by omega)
      obtain ⟨v3, d3, _⟩ := hr (i * 5 + 3) (by omega)
      obtain ⟨v4, d4, _⟩ := hr (i * 5 + 4) (by omega)
      simpa using NoteAt.put s d0 d1 d2 d3 d4
    · have := h i t (by rw [List.getElem?_take, if_pos (by omega)]; exact e)
      exact ((((this.set (by omega) _).set (by omega) _).set (by omega) _).set (by omega) _).set (by omega) _
  · cases e
theorem NotesAt.of_block {w w' : World} {b off : Nat} {xs : List N5} (h : NotesAt w b off xs) (e : w'.heap[b]? = w.heap[b]?) : NotesAt w' b off xs := fun i s hs => by
  obtain ⟨c0, c1, c2, c3, c4⟩ := h i s hs
  exact ⟨(World.cell?_of_block (a := ⟨b, _, none⟩) e).trans c0, (World.cell?_of_block (a := ⟨b, _, none⟩) e).trans c1, (World.cell?_of_block (a := ⟨b, _, none⟩) e).trans c2, (World.cell?_of_block (a := ⟨b, _, none⟩) e).trans c3, (World.cell?_of_block (a := ⟨b, _, none⟩) e).trans c4⟩
def mkNote (k : Int) (j : Nat) : N5 := ⟨k + 5 * (j : Int), k + 5 * (j : Int) + 1, k + 5 * (j : Int) + 1 + 1, k + 5 * (j : Int) + 1 + 1 + 1, (k + 5 * (j : Int) + 1 + 1 + 1 + 1) % 3 == 0⟩
def mkNotes (k : Int) (n : Nat) : List N5 := (List.range n).map (mkNote k)
end Go.Proofs.Ytiidlcjjaglkdaa
namespace Go.Proofs.Ytiidlcjjaglkdaa
open Go.RowKit
theorem new_in (w : World) (zs : List Int) (t : TypeId) (i : Nat) (hi : i < zs.length) : ∃ x : Int, (w.alloc (.cells (zs.map fun z => Value.int .i64 z).toArray t)).cell? ⟨w.heap.size, i, none⟩ = some (.int .i64 x) := by
  refine ⟨zs[i], ?_⟩
  rw [World.cell?_alloc_new]
  simp [hi]
theorem new_in_turned {w w' : World} {c : Nat} (zs : List Int) (t : TypeId) (hc : c < w.heap.size) (ht : Turned c (w.alloc (.cells (zs.map fun z => Value.int .i64 z).toArray t)) w') (i : Nat) (hi : i < zs.length) : ∃ x : Int, w'.cell? ⟨w.heap.size, i, none⟩ = some (.int .i64 x) := by
  obtain ⟨x, hx⟩ := new_in w zs t i hi
  exact ⟨x, (World.cell?_of_block (a := ⟨w.heap.size, i, none⟩) (ht.block w.heap.size (by simp) (by omega))).trans hx⟩
theorem l1From_a (w : World) (B c : Nat) (a : Option Addr) (n k : Nat) (hc : Cur w c a n k) (hb : Bytes w B a n) (hB : B ≤ c) :
    Calls Try.prog 88 #[.pointer (some ⟨c, 0, none⟩), .int .i64 (-50), .int .i64 50] w fun e w' => ∃ z : Int, e = .returned (.int .i64 z) ∧ Cur w' c a n k ∧ Turned c w w' := by
  go_enter Try.func88, Try.ntmps88
  go_wp2_with fail
  refine (l1Below_any _ B c a n k _ hc hb hB (by omega)).mono ?_
  rintro e w1 ⟨y, rfl, hy0, hy1, hc1, ht1⟩
  go_wp2
  go_ret
  exact ⟨_, rfl, hc1, ht1⟩
theorem l1From_b (w : World) (B c : Nat) (a : Option Addr) (n k : Nat) (hc : Cur w c a n k) (hb : Bytes w B a n) (hB : B ≤ c) :
    Calls Try.prog 88 #[.pointer (some ⟨c, 0, none⟩), .int .i64 (-9), .int .i64 9] w fun e w' => ∃ z : Int, e = .returned (.int .i64 z) ∧ Cur w' c a n k ∧ Turned c w w' := by
  go_enter Try.func88, Try.ntmps88
  go_wp2_with fail
  refine (l1Below_any _ B c a n k _ hc hb hB (by omega)).mono ?_
  rintro e w1 ⟨y, rfl, hy0, hy1, hc1, ht1⟩
  go_wp2
  go_ret
  exact ⟨_, rfl, hc1, ht1⟩
def SetBox (w : World) (q : Nat) (s : S5) : Prop := SetAt w q 0 s ∧ ∀ j, j < 5 → w.frozen? ⟨q, j, none⟩ = false
theorem SetBox.turned {w w' : World} {q c : Nat} {s : S5} (h : SetBox w q s) (ht : Turned c w w') (hq : q < w.heap.size) (hc : q ≠ c) : SetBox w' q s :=
  ⟨⟨(ht.cell (p := ⟨q, _, none⟩) hq hc).trans h.1.c0, (ht.cell (p := ⟨q, _, none⟩) hq hc).trans h.1.c1, (ht.cell (p := ⟨q, _, none⟩) hq hc).trans h.1.c2, (ht.cell (p := ⟨q, _, none⟩) hq hc).trans h.1.c3, (ht.cell (p := ⟨q, _, none⟩) hq hc).trans h.1.c4⟩, fun j hj => (ht.frozen (p := ⟨q, j, none⟩) hq hc).trans (h.2 j hj)⟩
theorem SetBox.new (w : World) (s : S5) (t : TypeId) : SetBox (w.alloc (.cells #[.int .i64 s.region, .int .i64 s.slot, .int .i64 s.value, .bool s.used, .int .i64 s.version] t)) w.heap.size s :=
  ⟨⟨by go_simp, by go_simp, by go_simp, by go_simp, by go_simp⟩, fun j _ => by go_simp⟩
set_option maxHeartbeats 4000000 in
theorem l2DrawSet_any (w : World) (B c : Nat) (a : Option Addr) (n k : Nat) (r : Int) (hr : 0 ≤ r ∧ r ≤ 1000) (hcur : Cur w c a n k) (hb : Bytes w B a n) (hB : B ≤ c) :
    Calls Try.prog 52 #[.pointer (some ⟨c, 0, none⟩), .int .i64 r] w fun e w' => ∃ s : S5, e = .returned (.agg #[.int .i64 s.region, .int .i64 s.slot, .int .i64 s.value, .bool s.used, .int .i64 s.version]) ∧ Cur w' c a n k ∧ Turned c w w' := by
  have KB : Hid (Bytes w B a n ∧ B ≤ w.heap.size ∧ c < w.heap.size) := ⟨hb, by have := hcur.lt; omega, hcur.lt⟩
  have BY : Hid (∀ w', Turned c w w' → Bytes w' B a n) := fun w' h => KB.out.1.below (h.below hB KB.out.2.1)
  go_enter Try.func52, Try.ntmps52
  go_wp2_with fail
  have t0 : Turned c w (w.alloc (.cells #[.int .i64 0, .int .i64 0, .int .i64 0, .bool false, .int .i64 0] 36)) := (Turned.refl _ _).alloc _
  have r0 := SetBox.new w ⟨0, 0, 0, false, 0⟩ 36
  have c0 : Cur (w.alloc (.cells #[.int .i64 0, .int .i64 0, .int .i64 0, .bool false, .int .i64 0] 36)) c a n k := hcur.alloc _
  have z0 : w.heap.size < (w.alloc (.cells #[.int .i64 0, .int .i64 0, .int .i64 0, .bool false, .int .i64 0] 36)).heap.size := by simp
  simp only at r0
  generalize w.alloc (.cells #[.int .i64 0, .int .i64 0, .int .i64 0, .bool false, .int .i64 0] 36) = W at *
  have hne : Hid (w.heap.size ≠ c) := by unfold Hid; have := KB.out.2.2; omega
  have K0 : Hid (SetBox W w.heap.size ⟨0, 0, 0, false, 0⟩ ∧ Cur W c a n k ∧ Turned c w W ∧ w.heap.size < W.heap.size) := ⟨r0, c0, t0, z0⟩
  have STEP : Hid (∀ w1 w2 : World, (SetBox w1 w.heap.size ⟨0, 0, 0, false, 0⟩ ∧ Cur w1 c a n k ∧ Turned c w w1 ∧ w.heap.size < w1.heap.size) → Cur w2 c a n k → Turned c w1 w2 → (SetBox w2 w.heap.size ⟨0, 0, 0, false, 0⟩ ∧ Cur w2 c a n k ∧ Turned c w w2 ∧ w.heap.size < w2.heap.size)) := fun w1 w2 h hc ht => ⟨h.1.turned ht h.2.2.2 hne.out, hc, h.2.2.1.trans ht, Nat.lt_of_lt_of_le h.2.2.2 ht.size⟩
  clear r0 c0 t0 z0 hcur hb
  refine (l1Below_any _ B c a n k _ K0.out.2.1 (BY.out _ K0.out.2.2.1) hB (by omega)).mono ?_
  rintro e w1 ⟨y1, rfl, -, -, c1, t1⟩
  have K1 := (show Hid _ from STEP.out _ _ K0.out c1 t1)
  clear c1 t1 K0
  go_wp2_with fail
  refine (l1From_a _ B c a n k K1.out.2.1 (BY.out _ K1.out.2.2.1) hB).mono ?_
  rintro e w2 ⟨y2, rfl, c1, t1⟩
  have K2 := (show Hid _ from STEP.out _ _ K1.out c1 t1)
  clear c1 t1 K1
  go_wp2_with fail
  refine (l1Once_any _ B c a n k _ K2.out.2.1 (BY.out _ K2.out.2.2.1) hB (by omega)).mono ?_
  rintro e w3 ⟨y3, rfl, c1, t1⟩
  have K3 := (show Hid _ from STEP.out _ _ K2.out c1 t1)
  clear c1 t1 K2
  go_wp2_with fail
  refine (l1Below_any _ B c a n k _ K3.out.2.1 (BY.out _ K3.out.2.2.1) hB (by omega)).mono ?_
  rintro e w4 ⟨y4, rfl, -, -, c1, t1⟩
  have K4 := (show Hid _ from STEP.out _ _ K3.out c1 t1)
  clear c1 t1 K3
  go_wp2_with fail
  have HS : Hid (w4.heap.size ≠ c ∧ w.heap.size ≤ w4.heap.size ∧ w4.heap.size ≠ w.heap.size) := by unfold Hid; have := K4.out.2.1.lt; have := K4.out.2.2.2; omega
  have KA : Hid (SetBox (w4.alloc (.cells #[.int .i64 r, .int .i64 y1, .int .i64 y2, .bool y3, .int .i64 y4] 36)) w.heap.size ⟨0, 0, 0, false, 0⟩ ∧ SetBox (w4.alloc (.cells #[.int .i64 r, .int .i64 y1, .int .i64 y2, .bool y3, .int .i64 y4] 36)) w4.heap.size ⟨r, y1, y2, y3, y4⟩ ∧ Cur (w4.alloc (.cells #[.int .i64 r, .int .i64 y1, .int .i64 y2, .bool y3, .int .i64 y4] 36)) c a n k ∧ Turned c w (w4.alloc (.cells #[.int .i64 r, .int .i64 y1, .int .i64 y2, .bool y3, .int .i64 y4] 36)) ∧ w.heap.size < (w4.alloc (.cells #[.int .i64 r, .int .i64 y1, .int .i64 y2, .bool y3, .int .i64 y4] 36)).heap.size ∧ w4.heap.size < (w4.alloc (.cells #[.int .i64 r, .int .i64 y1, .int .i64 y2, .bool y3, .int .i64 y4] 36)).heap.size) := ⟨(K4.out.1.turned ((Turned.refl c w4).alloc _) K4.out.2.2.2 hne.out), SetBox.new w4 ⟨r, y1, y2, y3, y4⟩ 36, K4.out.2.1.alloc _, K4.out.2.2.1.alloc _, by simp; have := K4.out.2.2.2; omega, by simp⟩
  generalize (w4.alloc (.cells #[.int .i64 r, .int .i64 y1, .int .i64 y2, .bool y3, .int .i64 y4] 36)) = v5 at *
  have STEP2 : Hid (∀ w1 w2 : World, (SetBox w1 w.heap.size ⟨0, 0, 0, false, 0⟩ ∧ SetBox w1 w4.heap.size ⟨r, y1, y2, y3, y4⟩ ∧ Cur w1 c a n k ∧ Turned c w w1 ∧ w.heap.size < w1.heap.size ∧ w4.heap.size < w1.heap.size) → Cur w2 c a n k → Turned c w1 w2 → (SetBox w2 w.heap.size ⟨0, 0, 0, false, 0⟩ ∧ SetBox w2 w4.heap.size ⟨r, y1, y2, y3, y4⟩ ∧ Cur w2 c a n k ∧ Turned c w w2 ∧ w.heap.size < w2.heap.size ∧ w4.heap.size < w2.heap.size)) := fun w1 w2 h hc ht => ⟨h.1.turned ht h.2.2.2.2.1 hne.out, h.2.1.turned ht h.2.2.2.2.2 HS.out.1, hc, h.2.2.2.1.trans ht, Nat.lt_of_lt_of_le h.2.2.2.2.1 ht.size, Nat.lt_of_lt_of_le h.2.2.2.2.2 ht.size⟩
  clear K4 STEP
  refine (l1Once_any _ B c a n k _ KA.out.2.2.1 (BY.out _ KA.out.2.2.2.1) hB (by omega)).mono ?_
  rintro e w6 ⟨u, rfl, c6, t6⟩
  have K6 := (show Hid _ from STEP2.out _ _ KA.out c6 t6)
  clear c6 t6 KA
  have hSA : w4.heap.size ≠ w.heap.size := HS.out.2.2
  cases u
  · obtain ⟨⟨⟨a0, a1, a2, a3, a4⟩, af⟩, ⟨⟨s0, s1, s2, s3, s4⟩, sf⟩, _⟩ := K6.out
    simp only [Nat.zero_add] at a1 a2 a3 a4 s1 s2 s3 s4
    have af0 := af 0 (by omega)
    have sf0 := sf 0 (by omega)
    have af1 := af 1 (by omega)
    have sf1 := sf 1 (by omega)
    have af2 := af 2 (by omega)
    have sf2 := sf 2 (by omega)
    have af3 := af 3 (by omega)
    have sf3 := sf 3 (by omega)
    have af4 := af 4 (by omega)
    have sf4 := sf 4 (by omega)
    clear af sf
    go_wp2
    refine bodyPost_ret (v := .agg #[.int .i64 (r), .int .i64 (y1), .int .i64 (y2), .bool (y3), .int .i64 (y4)]) (by simp [results, Try.results52, go_sem, a0, a1, a2, a3, a4]) rfl ?_
    exact ⟨⟨r, y1, y2, y3, y4⟩, rfl, (((((K6.out.2.2.1).put hne.out _ _).put hne.out _ _).put hne.out _ _).put hne.out _ _).put hne.out _ _, (((((K6.out.2.2.2.1).put (Nat.le_refl _) _ _).put (Nat.le_refl _) _ _).put (Nat.le_refl _) _ _).put (Nat.le_refl _) _ _).put (Nat.le_refl _) _ _⟩
  · go_wp2_with fail
    refine (l1Below_any _ B c a n k _ K6.out.2.2.1 (BY.out _ K6.out.2.2.2.1) hB (by omega)).mono ?_
    rintro e w7 ⟨y, rfl, hy0, hy1q, c7, t7⟩
    have K7 := (show Hid _ from STEP2.out _ _ K6.out c7 t7)
    clear c7 t7 K6
    obtain rfl | rfl | rfl | rfl : y = 0 ∨ y = 1 ∨ y = 2 ∨ y = 3 := by omega
    · clear hy0 hy1q
      go_wp2_with fail
      have hw7 : c < w7.heap.size := K7.out.2.2.1.lt
      refine (l1Below_any _ B c a n k _ (K7.out.2.2.1.alloc _) (BY.out _ (K7.out.2.2.2.1.alloc _)) hB (by omega)).mono ?_
      rintro e w8 ⟨y, rfl, hy0, hyq, c8, t8⟩
      obtain ⟨q, rfl⟩ := Int.eq_ofNat_of_zero_le hy0
      obtain ⟨x, hx⟩ := new_in_turned [-1, 5, 6, r + 1] _ hw7 t8 q (by simp; omega)
      have K8 := (show Hid _ from STEP2.out _ _ (STEP2.out _ _ K7.out (K7.out.2.2.1.alloc _) ((Turned.refl c w7).alloc _)) c8 t8)
      clear c8 t8 K7 STEP2
      obtain ⟨⟨⟨a0, a1, a2, a3, a4⟩, af⟩, ⟨⟨s0, s1, s2, s3, s4⟩, sf⟩, _⟩ := K8.out
      simp only [Nat.zero_add] at a1 a2 a3 a4 s1 s2 s3 s4
      have af0 := af 0 (by omega)
      have sf0 := sf 0 (by omega)
      have af1 := af 1 (by omega)
      have sf1 := sf 1 (by omega)
      have af2 := af 2 (by omega)
      have sf2 := sf 2 (by omega)
      have af3 := af 3 (by omega)
      have sf3 := sf 3 (by omega)
      have af4 := af 4 (by omega)
      have sf4 := sf 4 (by omega)
      clear af sf
      go_wp2
      refine bodyPost_ret (v := .agg #[.int .i64 (x), .int .i64 (y1), .int .i64 (y2), .bool (y3), .int .i64 (y4)]) (by simp [results, Try.results52, go_sem, a0, a1, a2, a3, a4]) rfl ?_
      exact ⟨⟨x, y1, y2, y3, y4⟩, rfl, ((((((K8.out.2.2.1.put HS.out.1 _ _)).put hne.out _ _).put hne.out _ _).put hne.out _ _).put hne.out _ _).put hne.out _ _, ((((((K8.out.2.2.2.1.put HS.out.2.1 _ _)).put (Nat.le_refl _) _ _).put (Nat.le_refl _) _ _).put (Nat.le_refl _) _ _).put (Nat.le_refl _) _ _).put (Nat.le_refl _) _ _⟩
    · clear hy0 hy1q
      go_wp2_with fail
      have hw7 : c < w7.heap.size := K7.out.2.2.1.lt
      refine (l1Below_any _ B c a n k _ (K7.out.2.2.1.alloc _) (BY.out _ (K7.out.2.2.2.1.alloc _)) hB (by omega)).mono ?_
      rintro e w8 ⟨y, rfl, hy0, hyq, c8, t8⟩
      obtain ⟨q, rfl⟩ := Int.eq_ofNat_of_zero_le hy0
      obtain ⟨x, hx⟩ := new_in_turned [-1, 6] _ hw7 t8 q (by simp; omega)
      have K8 := (show Hid _ from STEP2.out _ _ (STEP2.out _ _ K7.out (K7.out.2.2.1.alloc _) ((Turned.refl c w7).alloc _)) c8 t8)
      clear c8 t8 K7 STEP2
      obtain ⟨⟨⟨a0, a1, a2, a3, a4⟩, af⟩, ⟨⟨s0, s1, s2, s3, s4⟩, sf⟩, _⟩ := K8.out
      simp only [Nat.zero_add] at a1 a2 a3 a4 s1 s2 s3 s4
      have af0 := af 0 (by omega)
      have sf0 := sf 0 (by omega)
      have af1 := af 1 (by omega)
      have sf1 := sf 1 (by omega)
      have af2 := af 2 (by omega)
      have sf2 := sf 2 (by omega)
      have af3 := af 3 (by omega)
      have sf3 := sf 3 (by omega)
      have af4 := af 4 (by omega)
      have sf4 := sf 4 (by omega)
      clear af sf
      go_wp2
      refine bodyPost_ret (v := .agg #[.int .i64 (r), .int .i64 (x), .int .i64 (y2), .bool (y3), .int .i64 (y4)]) (by simp [results, Try.results52, go_sem, a0, a1, a2, a3, a4]) rfl ?_
      exact ⟨⟨r, x, y2, y3, y4⟩, rfl, ((((((K8.out.2.2.1.put HS.out.1 _ _)).put hne.out _ _).put hne.out _ _).put hne.out _ _).put hne.out _ _).put hne.out _ _, ((((((K8.out.2.2.2.1.put HS.out.2.1 _ _)).put (Nat.le_refl _) _ _).put (Nat.le_refl _) _ _).put (Nat.le_refl _) _ _).put (Nat.le_refl _) _ _).put (Nat.le_refl _) _ _⟩
    · clear hy0 hy1q
      go_wp2_with fail
      have hw7 : c < w7.heap.size := K7.out.2.2.1.lt
      refine (l1Below_any _ B c a n k _ (K7.out.2.2.1.alloc _) (BY.out _ (K7.out.2.2.2.1.alloc _)) hB (by omega)).mono ?_
      rintro e w8 ⟨y, rfl, hy0, hyq, c8, t8⟩
      obtain ⟨q, rfl⟩ := Int.eq_ofNat_of_zero_le hy0
      obtain ⟨x, hx⟩ := new_in_turned [1000000000, 1000000001, -1000000001, -9223372036854775808] _ hw7 t8 q (by simp; omega)
      have K8 := (show Hid _ from STEP2.out _ _ (STEP2.out _ _ K7.out (K7.out.2.2.1.alloc _) ((Turned.refl c w7).alloc _)) c8 t8)
      clear c8 t8 K7 STEP2
      obtain ⟨⟨⟨a0, a1, a2, a3, a4⟩, af⟩, ⟨⟨s0, s1, s2, s3, s4⟩, sf⟩, _⟩ := K8.out
      simp only [Nat.zero_add] at a1 a2 a3 a4 s1 s2 s3 s4
      have af0 := af 0 (by omega)
      have sf0 := sf 0 (by omega)
      have af1 := af 1 (by omega)
      have sf1 := sf 1 (by omega)
      have af2 := af 2 (by omega)
      have sf2 := sf 2 (by omega)
      have af3 := af 3 (by omega)
      have sf3 := sf 3 (by omega)
      have af4 := af 4 (by omega)
      have sf4 := sf 4 (by omega)
      clear af sf
      go_wp2
      refine bodyPost_ret (v := .agg #[.int .i64 (r), .int .i64 (y1), .int .i64 (x), .bool (y3), .int .i64 (y4)]) (by simp [results, Try.results52, go_sem, a0, a1, a2, a3, a4]) rfl ?_
      exact ⟨⟨r, y1, x, y3, y4⟩, rfl, ((((((K8.out.2.2.1.put HS.out.1 _ _)).put hne.out _ _).put hne.out _ _).put hne.out _ _).put hne.out _ _).put hne.out _ _, ((((((K8.out.2.2.2.1.put HS.out.2.1 _ _)).put (Nat.le_refl _) _ _).put (Nat.le_refl _) _ _).put (Nat.le_refl _) _ _).put (Nat.le_refl _) _ _).put (Nat.le_refl _) _ _⟩
    · clear hy0 hy1q
      go_wp2_with fail
      have hw7 : c < w7.heap.size := K7.out.2.2.1.lt
      refine (l1Below_any _ B c a n k _ (K7.out.2.2.1.alloc _) (BY.out _ (K7.out.2.2.2.1.alloc _)) hB (by omega)).mono ?_
      rintro e w8 ⟨y, rfl, hy0, hyq, c8, t8⟩
      obtain ⟨q, rfl⟩ := Int.eq_ofNat_of_zero_le hy0
      obtain ⟨x, hx⟩ := new_in_turned [-1, 999999, 1000000] _ hw7 t8 q (by simp; omega)
      have K8 := (show Hid _ from STEP2.out _ _ (STEP2.out _ _ K7.out (K7.out.2.2.1.alloc _) ((Turned.refl c w7).alloc _)) c8 t8)
      clear c8 t8 K7 STEP2
      obtain ⟨⟨⟨a0, a1, a2, a3, a4⟩, af⟩, ⟨⟨s0, s1, s2, s3, s4⟩, sf⟩, _⟩ := K8.out
      simp only [Nat.zero_add] at a1 a2 a3 a4 s1 s2 s3 s4
      have af0 := af 0 (by omega)
      have sf0 := sf 0 (by omega)
      have af1 := af 1 (by omega)
      have sf1 := sf 1 (by omega)
      have af2 := af 2 (by omega)
      have sf2 := sf 2 (by omega)
      have af3 := af 3 (by omega)
      have sf3 := sf 3 (by omega)
      have af4 := af 4 (by omega)
      have sf4 := sf 4 (by omega)
      clear af sf
      go_wp2
      refine bodyPost_ret (v := .agg #[.int .i64 (r), .int .i64 (y1), .int .i64 (y2), .bool (y3), .int .i64 (x)]) (by simp [results, Try.results52, go_sem, a0, a1, a2, a3, a4]) rfl ?_
      exact ⟨⟨r, y1, y2, y3, x⟩, rfl, ((((((K8.out.2.2.1.put HS.out.1 _ _)).put hne.out _ _).put hne.out _ _).put hne.out _ _).put hne.out _ _).put hne.out _ _, ((((((K8.out.2.2.2.1.put HS.out.2.1 _ _)).put (Nat.le_refl _) _ _).put (Nat.le_refl _) _ _).put (Nat.le_refl _) _ _).put (Nat.le_refl _) _ _).put (Nat.le_refl _) _ _⟩
def NoteBox (w : World) (q : Nat) (s : N5) : Prop := NoteAt w q 0 s ∧ ∀ j, j < 5 → w.frozen? ⟨q, j, none⟩ = false
theorem NoteBox.turned {w w' : World} {q c : Nat} {s : N5} (h : NoteBox w q s) (ht : Turned c w w') (hq : q < w.heap.size) (hc : q ≠ c) : NoteBox w' q s :=
  ⟨⟨(ht.cell (p := ⟨q, _, none⟩) hq hc).trans h.1.c0, (ht.cell (p := ⟨q, _, none⟩) hq hc).trans h.1.c1, (ht.cell (p := ⟨q, _, none⟩) hq hc).trans h.1.c2, (ht.cell (p := ⟨q, _, none⟩) hq hc).trans h.1.c3, (ht.cell (p := ⟨q, _, none⟩) hq hc).trans h.1.c4⟩, fun j hj => (ht.frozen (p := ⟨q, j, none⟩) hq hc).trans (h.2 j hj)⟩
theorem NoteBox.new (w : World) (s : N5) (t : TypeId) : NoteBox (w.alloc (.cells #[.int .i64 s.region, .int .i64 s.slot, .int .i64 s.version, .int .i64 s.value, .bool s.used] t)) w.heap.size s :=
  ⟨⟨by go_simp, by go_simp, by go_simp, by go_simp, by go_simp⟩, fun j _ => by go_simp⟩
set_option maxHeartbeats 4000000 in
theorem l7DrawNote_any (w : World) (B c : Nat) (a : Option Addr) (n k : Nat) (hcur : Cur w c a n k) (hb : Bytes w B a n) (hB : B ≤ c) :
    Calls Try.prog 37 #[.pointer (some ⟨c, 0, none⟩)] w fun e w' => ∃ s : N5, e = .returned (.agg #[.int .i64 s.region, .int .i64 s.slot, .int .i64 s.version, .int .i64 s.value, .bool s.used]) ∧ Cur w' c a n k ∧ Turned c w w' := by
  have KB : Hid (Bytes w B a n ∧ B ≤ w.heap.size ∧ c < w.heap.size) := ⟨hb, by have := hcur.lt; omega, hcur.lt⟩
  have BY : Hid (∀ w', Turned c w w' → Bytes w' B a n) := fun w' h => KB.out.1.below (h.below hB KB.out.2.1)
  go_enter Try.func37, Try.ntmps37
  go_wp2_with fail
  have t0 : Turned c w (w.alloc (.cells #[.int .i64 0, .int .i64 0, .int .i64 0, .int .i64 0, .bool false] 29)) := (Turned.refl _ _).alloc _
  have r0 := NoteBox.new w ⟨0, 0, 0, 0, false⟩ 29
  have c0 : Cur (w.alloc (.cells #[.int .i64 0, .int .i64 0, .int .i64 0, .int .i64 0, .bool false] 29)) c a n k := hcur.alloc _
  have z0 : w.heap.size < (w.alloc (.cells #[.int .i64 0, .int .i64 0, .int .i64 0, .int .i64 0, .bool false] 29)).heap.size := by simp
  simp only at r0
  generalize w.alloc (.cells #[.int .i64 0, .int .i64 0, .int .i64 0, .int .i64 0, .bool false] 29) = W at *
  have hne : Hid (w.heap.size ≠ c) := by unfold Hid; have := KB.out.2.2; omega
  have K0 : Hid (NoteBox W w.heap.size ⟨0, 0, 0, 0, false⟩ ∧ Cur W c a n k ∧ Turned c w W ∧ w.heap.size < W.heap.size) := ⟨r0, c0, t0, z0⟩
  have STEP : Hid (∀ w1 w2 : World, (NoteBox w1 w.heap.size ⟨0, 0, 0, 0, false⟩ ∧ Cur w1 c a n k ∧ Turned c w w1 ∧ w.heap.size < w1.heap.size) → Cur w2 c a n k → Turned c w1 w2 → (NoteBox w2 w.heap.size ⟨0, 0, 0, 0, false⟩ ∧ Cur w2 c a n k ∧ Turned c w w2 ∧ w.heap.size < w2.heap.size)) := fun w1 w2 h hc ht => ⟨h.1.turned ht h.2.2.2 hne.out, hc, h.2.2.1.trans ht, Nat.lt_of_lt_of_le h.2.2.2 ht.size⟩
  clear r0 c0 t0 z0 hcur hb
  refine (l1Below_any _ B c a n k _ K0.out.2.1 (BY.out _ K0.out.2.2.1) hB (by omega)).mono ?_
  rintro e w1 ⟨y0, rfl, -, -, c1, t1⟩
  have K1 := (show Hid _ from STEP.out _ _ K0.out c1 t1)
  clear c1 t1 K0
  go_wp2_with fail
  refine (l1Below_any _ B c a n k _ K1.out.2.1 (BY.out _ K1.out.2.2.1) hB (by omega)).mono ?_
  rintro e w2 ⟨y1, rfl, -, -, c1, t1⟩
  have K2 := (show Hid _ from STEP.out _ _ K1.out c1 t1)
  clear c1 t1 K1
  go_wp2_with fail
  refine (l1Below_any _ B c a n k _ K2.out.2.1 (BY.out _ K2.out.2.2.1) hB (by omega)).mono ?_
  rintro e w3 ⟨y2, rfl, -, -, c1, t1⟩
  have K3 := (show Hid _ from STEP.out _ _ K2.out c1 t1)
  clear c1 t1 K2
  go_wp2_with fail
  refine (l1From_b _ B c a n k K3.out.2.1 (BY.out _ K3.out.2.2.1) hB).mono ?_
  rintro e w4 ⟨y3, rfl, c1, t1⟩
  have K4 := (show Hid _ from STEP.out _ _ K3.out c1 t1)
  clear c1 t1 K3
  go_wp2_with fail
  refine (l1Once_any _ B c a n k _ K4.out.2.1 (BY.out _ K4.out.2.2.1) hB (by omega)).mono ?_
  rintro e w5 ⟨y4, rfl, c1, t1⟩
  have K5 := (show Hid _ from STEP.out _ _ K4.out c1 t1)
  clear c1 t1 K4
  go_wp2_with fail
  have HS : Hid (w5.heap.size ≠ c ∧ w.heap.size ≤ w5.heap.size ∧ w5.heap.size ≠ w.heap.size) := by unfold Hid; have := K5.out.2.1.lt; have := K5.out.2.2.2; omega
  have KA : Hid (NoteBox (w5.alloc (.cells #[.int .i64 y0, .int .i64 y1, .int .i64 y2, .int .i64 y3, .bool y4] 29)) w.heap.size ⟨0, 0, 0, 0, false⟩ ∧ NoteBox (w5.alloc (.cells #[.int .i64 y0, .int .i64 y1, .int .i64 y2, .int .i64 y3, .bool y4] 29)) w5.heap.size ⟨y0, y1, y2, y3, y4⟩ ∧ Cur (w5.alloc (.cells #[.int .i64 y0, .int .i64 y1, .int .i64 y2, .int .i64 y3, .bool y4] 29)) c a n k ∧ Turned c w (w5.alloc (.cells #[.int .i64 y0, .int .i64 y1, .int .i64 y2, .int .i64 y3, .bool y4] 29)) ∧ w.heap.size < (w5.alloc (.cells #[.int .i64 y0, .int .i64 y1, .int .i64 y2, .int .i64 y3, .bool y4] 29)).heap.size ∧ w5.heap.size < (w5.alloc (.cells #[.int .i64 y0, .int .i64 y1, .int .i64 y2, .int .i64 y3, .bool y4] 29)).heap.size) := ⟨(K5.out.1.turned ((Turned.refl c w5).alloc _) K5.out.2.2.2 hne.out), NoteBox.new w5 ⟨y0, y1, y2, y3, y4⟩ 29, K5.out.2.1.alloc _, K5.out.2.2.1.alloc _, by simp; have := K5.out.2.2.2; omega, by simp⟩
  generalize (w5.alloc (.cells #[.int .i64 y0, .int .i64 y1, .int .i64 y2, .int .i64 y3, .bool y4] 29)) = v5 at *
  have STEP2 : Hid (∀ w1 w2 : World, (NoteBox w1 w.heap.size ⟨0, 0, 0, 0, false⟩ ∧ NoteBox w1 w5.heap.size ⟨y0, y1, y2, y3, y4⟩ ∧ Cur w1 c a n k ∧ Turned c w w1 ∧ w.heap.size < w1.heap.size ∧ w5.heap.size < w1.heap.size) → Cur w2 c a n k → Turned c w1 w2 → (NoteBox w2 w.heap.size ⟨0, 0, 0, 0, false⟩ ∧ NoteBox w2 w5.heap.size ⟨y0, y1, y2, y3, y4⟩ ∧ Cur w2 c a n k ∧ Turned c w w2 ∧ w.heap.size < w2.heap.size ∧ w5.heap.size < w2.heap.size)) := fun w1 w2 h hc ht => ⟨h.1.turned ht h.2.2.2.2.1 hne.out, h.2.1.turned ht h.2.2.2.2.2 HS.out.1, hc, h.2.2.2.1.trans ht, Nat.lt_of_lt_of_le h.2.2.2.2.1 ht.size, Nat.lt_of_lt_of_le h.2.2.2.2.2 ht.size⟩
  clear K5 STEP
  refine (l1Once_any _ B c a n k _ KA.out.2.2.1 (BY.out _ KA.out.2.2.2.1) hB (by omega)).mono ?_
  rintro e w6 ⟨u, rfl, c6, t6⟩
  have K6 := (show Hid _ from STEP2.out _ _ KA.out c6 t6)
  clear c6 t6 KA
  have hSA : w5.heap.size ≠ w.heap.size := HS.out.2.2
  cases u
  · obtain ⟨⟨⟨a0, a1, a2, a3, a4⟩, af⟩, ⟨⟨s0, s1, s2, s3, s4⟩, sf⟩, _⟩ := K6.out
    simp only [Nat.zero_add] at a1 a2 a3 a4 s1 s2 s3 s4
    have af0 := af 0 (by omega)
    have sf0 := sf 0 (by omega)
    have af1 := af 1 (by omega)
    have sf1 := sf 1 (by omega)
    have af2 := af 2 (by omega)
    have sf2 := sf 2 (by omega)
    have af3 := af 3 (by omega)
    have sf3 := sf 3 (by omega)
    have af4 := af 4 (by omega)
    have sf4 := sf 4 (by omega)
    clear af sf
    go_wp2
    refine bodyPost_ret (v := .agg #[.int .i64 (y0), .int .i64 (y1), .int .i64 (y2), .int .i64 (y3), .bool (y4)]) (by simp [results, Try.results37, go_sem, a0, a1, a2, a3, a4]) rfl ?_
    exact ⟨⟨y0, y1, y2, y3, y4⟩, rfl, (((((K6.out.2.2.1).put hne.out _ _).put hne.out _ _).put hne.out _ _).put hne.out _ _).put hne.out _ _, (((((K6.out.2.2.2.1).put (Nat.le_refl _) _ _).put (Nat.le_refl _) _ _).put (Nat.le_refl _) _ _).put (Nat.le_refl _) _ _).put (Nat.le_refl _) _ _⟩
  · go_wp2_with fail
    refine (l1Below_any _ B c a n k _ K6.out.2.2.1 (BY.out _ K6.out.2.2.2.1) hB (by omega)).mono ?_
    rintro e w7 ⟨y, rfl, hy0, hy1q, c7, t7⟩
    have K7 := (show Hid _ from STEP2.out _ _ K6.out c7 t7)
    clear c7 t7 K6
    obtain rfl | rfl | rfl : y = 0 ∨ y = 1 ∨ y = 2 := by omega
    · clear hy0 hy1q
      go_wp2_with fail
      have hw7 : c < w7.heap.size := K7.out.2.2.1.lt
      refine (l1Below_any _ B c a n k _ (K7.out.2.2.1.alloc _) (BY.out _ (K7.out.2.2.2.1.alloc _)) hB (by omega)).mono ?_
      rintro e w8 ⟨y, rfl, hy0, hyq, c8, t8⟩
      obtain ⟨q, rfl⟩ := Int.eq_ofNat_of_zero_le hy0
      obtain ⟨x, hx⟩ := new_in_turned [-1, 5, 6] _ hw7 t8 q (by simp; omega)
      have K8 := (show Hid _ from STEP2.out _ _ (STEP2.out _ _ K7.out (K7.out.2.2.1.alloc _) ((Turned.refl c w7).alloc _)) c8 t8)
      clear c8 t8 K7 STEP2
      obtain ⟨⟨⟨a0, a1, a2, a3, a4⟩, af⟩, ⟨⟨s0, s1, s2, s3, s4⟩, sf⟩, _⟩ := K8.out
      simp only [Nat.zero_add] at a1 a2 a3 a4 s1 s2 s3 s4
      have af0 := af 0 (by omega)
      have sf0 := sf 0 (by omega)
      have af1 := af 1 (by omega)
      have sf1 := sf 1 (by omega)
      have af2 := af 2 (by omega)
      have sf2 := sf 2 (by omega)
      have af3 := af 3 (by omega)
      have sf3 := sf 3 (by omega)
      have af4 := af 4 (by omega)
      have sf4 := sf 4 (by omega)
      clear af sf
      go_wp2
      refine bodyPost_ret (v := .agg #[.int .i64 (x), .int .i64 (y1), .int .i64 (y2), .int .i64 (y3), .bool (y4)]) (by simp [results, Try.results37, go_sem, a0, a1, a2, a3, a4]) rfl ?_
      exact ⟨⟨x, y1, y2, y3, y4⟩, rfl, ((((((K8.out.2.2.1.put HS.out.1 _ _)).put hne.out _ _).put hne.out _ _).put hne.out _ _).put hne.out _ _).put hne.out _ _, ((((((K8.out.2.2.2.1.put HS.out.2.1 _ _)).put (Nat.le_refl _) _ _).put (Nat.le_refl _) _ _).put (Nat.le_refl _) _ _).put (Nat.le_refl _) _ _).put (Nat.le_refl _) _ _⟩
    · clear hy0 hy1q
      go_wp2_with fail
      have hw7 : c < w7.heap.size := K7.out.2.2.1.lt
      refine (l1Below_any _ B c a n k _ (K7.out.2.2.1.alloc _) (BY.out _ (K7.out.2.2.2.1.alloc _)) hB (by omega)).mono ?_
      rintro e w8 ⟨y, rfl, hy0, hyq, c8, t8⟩
      obtain ⟨q, rfl⟩ := Int.eq_ofNat_of_zero_le hy0
      obtain ⟨x, hx⟩ := new_in_turned [-1, 6] _ hw7 t8 q (by simp; omega)
      have K8 := (show Hid _ from STEP2.out _ _ (STEP2.out _ _ K7.out (K7.out.2.2.1.alloc _) ((Turned.refl c w7).alloc _)) c8 t8)
      clear c8 t8 K7 STEP2
      obtain ⟨⟨⟨a0, a1, a2, a3, a4⟩, af⟩, ⟨⟨s0, s1, s2, s3, s4⟩, sf⟩, _⟩ := K8.out
      simp only [Nat.zero_add] at a1 a2 a3 a4 s1 s2 s3 s4
      have af0 := af 0 (by omega)
      have sf0 := sf 0 (by omega)
      have af1 := af 1 (by omega)
      have sf1 := sf 1 (by omega)
      have af2 := af 2 (by omega)
      have sf2 := sf 2 (by omega)
      have af3 := af 3 (by omega)
      have sf3 := sf 3 (by omega)
      have af4 := af 4 (by omega)
      have sf4 := sf 4 (by omega)
      clear af sf
      go_wp2
      refine bodyPost_ret (v := .agg #[.int .i64 (y0), .int .i64 (x), .int .i64 (y2), .int .i64 (y3), .bool (y4)]) (by simp [results, Try.results37, go_sem, a0, a1, a2, a3, a4]) rfl ?_
      exact ⟨⟨y0, x, y2, y3, y4⟩, rfl, ((((((K8.out.2.2.1.put HS.out.1 _ _)).put hne.out _ _).put hne.out _ _).put hne.out _ _).put hne.out _ _).put hne.out _ _, ((((((K8.out.2.2.2.1.put HS.out.2.1 _ _)).put (Nat.le_refl _) _ _).put (Nat.le_refl _) _ _).put (Nat.le_refl _) _ _).put (Nat.le_refl _) _ _).put (Nat.le_refl _) _ _⟩
    · clear hy0 hy1q
      go_wp2_with fail
      have hw7 : c < w7.heap.size := K7.out.2.2.1.lt
      refine (l1Below_any _ B c a n k _ (K7.out.2.2.1.alloc _) (BY.out _ (K7.out.2.2.2.1.alloc _)) hB (by omega)).mono ?_
      rintro e w8 ⟨y, rfl, hy0, hyq, c8, t8⟩
      obtain ⟨q, rfl⟩ := Int.eq_ofNat_of_zero_le hy0
      obtain ⟨x, hx⟩ := new_in_turned [-1, 1000000, 1000001] _ hw7 t8 q (by simp; omega)
      have K8 := (show Hid _ from STEP2.out _ _ (STEP2.out _ _ K7.out (K7.out.2.2.1.alloc _) ((Turned.refl c w7).alloc _)) c8 t8)
      clear c8 t8 K7 STEP2
      obtain ⟨⟨⟨a0, a1, a2, a3, a4⟩, af⟩, ⟨⟨s0, s1, s2, s3, s4⟩, sf⟩, _⟩ := K8.out
      simp only [Nat.zero_add] at a1 a2 a3 a4 s1 s2 s3 s4
      have af0 := af 0 (by omega)
      have sf0 := sf 0 (by omega)
      have af1 := af 1 (by omega)
      have sf1 := sf 1 (by omega)
      have af2 := af 2 (by omega)
      have sf2 := sf 2 (by omega)
      have af3 := af 3 (by omega)
      have sf3 := sf 3 (by omega)
      have af4 := af 4 (by omega)
      have sf4 := sf 4 (by omega)
      clear af sf
      go_wp2
      refine bodyPost_ret (v := .agg #[.int .i64 (y0), .int .i64 (y1), .int .i64 (x), .int .i64 (y3), .bool (y4)]) (by simp [results, Try.results37, go_sem, a0, a1, a2, a3, a4]) rfl ?_
      exact ⟨⟨y0, y1, x, y3, y4⟩, rfl, ((((((K8.out.2.2.1.put HS.out.1 _ _)).put hne.out _ _).put hne.out _ _).put hne.out _ _).put hne.out _ _).put hne.out _ _, ((((((K8.out.2.2.2.1.put HS.out.2.1 _ _)).put (Nat.le_refl _) _ _).put (Nat.le_refl _) _ _).put (Nat.le_refl _) _ _).put (Nat.le_refl _) _ _).put (Nat.le_refl _) _ _⟩
def S5.cells (s : S5) : List Value := [.int .i64 s.region, .int .i64 s.slot, .int .i64 s.value, .bool s.used, .int .i64 s.version]
def N5.cells (s : N5) : List Value := [.int .i64 s.region, .int .i64 s.slot, .int .i64 s.version, .int .i64 s.value, .bool s.used]
theorem partsOf {P : Program} {t : TypeId} {z : Value} {s b : Nat} (h : (P.info? t).map (fun i => (i.zero, i.size, i.bytes)) = some (some z, s, b)) : ∃ i, P.info? t = some i ∧ i.zero = some z ∧ i.size = s ∧ i.bytes = b := by
  obtain ⟨i, hi, hzz⟩ := Option.map_eq_some_iff.1 h
  simp only [Prod.mk.injEq] at hzz
  exact ⟨i, hi, hzz.1, hzz.2.1, hzz.2.2⟩
theorem flat_at {β : Type} {f : β → List Value} {sz : Nat} : ∀ {l : List β} (_ : ∀ x ∈ l, (f x).length = sz) {i t : Nat} {x : β}, l[i]? = some x → t < sz → (l.flatMap f)[i * sz + t]? = (f x)[t]?
  | [], _, i, t, x, h, _ => by simp at h
  | y :: l, hf, 0, t, x, h, ht => by
    simp at h
    subst h
    rw [List.flatMap_cons, List.getElem?_append_left (by rw [hf y (by simp)]; omega)]
    simp
  | y :: l, hf, i + 1, t, x, h, ht => by
    have hl := hf y (by simp)
    rw [List.flatMap_cons, List.getElem?_append_right (by rw [hl, Nat.add_mul]; omega), hl, show (i + 1) * sz + t - sz = i * sz + t by rw [Nat.add_mul]; omega]
    exact flat_at (fun x hx => hf x (by simp [hx])) (by simpa using h) ht
theorem flat5 : ∀ (xs : List S5) (i : Nat) (s : S5) (j : Nat), xs[i]? = some s → j < 5 → (xs.flatMap S5.cells)[i * 5 + j]? = s.cells[j]?
  | [], i, s, j, h, _ => by simp at h
  | x :: xs, 0, s, j, h, hj => by
    simp at h
    subst h
    rw [List.flatMap_cons, List.getElem?_append_left (by simp [S5.cells]; omega)]
    simp
  | x :: xs, i + 1, s, j, h, hj => by
    have hl : x.cells.length = 5 := rfl
    rw [List.flatMap_cons, List.getElem?_append_right (by rw [hl]; omega), hl, show (i + 1) * 5 + j - 5 = i * 5 + j by omega]
    exact flat5 xs i s j (by simpa using h) hj
theorem own_sets {w : World} {B : Nat} {t : TypeId} {g n cap : Nat} {xs : List S5} (h : w.ownsRow B t 5 (.slice (some ⟨g, 0, none⟩) n cap) n (xs.flatMap S5.cells)) : SetsAt w g 0 xs := by
  have key : ∀ (j : Nat) (u : Value), (xs.flatMap S5.cells)[j]? = some u → w.cell? ⟨g, j, none⟩ = some u := by
    intro j u e
    rcases h.2 with ⟨h0, _⟩ | ⟨g', cap', cur, hv, _, hg, _, _, _, ht⟩
    · cases h0
    · cases hv
      rw [cell_of_row w g j cur t (0, 0) hg]
      rw [← ht, List.getElem?_take] at e
      split at e
      · simpa using e
      · cases e
  intro i s e
  have f := fun j hj => flat5 xs i s j e hj
  rw [Nat.zero_add]
  exact ⟨key _ _ (by simpa [S5.cells] using f 0 (by omega)), key _ _ (by simpa [S5.cells] using f 1 (by omega)), key _ _ (by simpa [S5.cells] using f 2 (by omega)), key _ _ (by simpa [S5.cells] using f 3 (by omega)), key _ _ (by simpa [S5.cells] using f 4 (by omega))⟩
theorem own_room {w : World} {B : Nat} {t : TypeId} {g n cap : Nat} {vs : List Value} (h : w.ownsRow B t 5 (.slice (some ⟨g, 0, none⟩) n cap) n vs) : Room w g (n * 5) := by
  intro j hj
  rcases h.2 with ⟨h0, _⟩ | ⟨g', cap', cur, hv, _, hg, hn, _, hc, ht⟩
  · cases h0
  · cases hv
    have hlt : j < cur.size := by
      have : n * 5 ≤ cap * 5 := Nat.mul_le_mul_right 5 hn
      omega
    refine ⟨cur[j], ?_, ?_⟩
    · rw [cell_of_row w g j cur t (0, 0) hg, Array.getElem?_eq_getElem hlt]
    · simp [World.frozen?, hg]
theorem infoSet : (Try.prog.info? 36).map (fun i => (i.zero, i.size, i.bytes)) = some (some (.agg #[.int .i64 0, .int .i64 0, .int .i64 0, .bool false, .int .i64 0]), 5, 40) := by kernel_rfl
theorem flatNo : ∀ (xs : List N5) (i : Nat) (s : N5) (j : Nat), xs[i]? = some s → j < 5 → (xs.flatMap N5.cells)[i * 5 + j]? = s.cells[j]?
  | [], i, s, j, h, _ => by simp at h
  | x :: xs, 0, s, j, h, hj => by
    simp at h
    subst h
    rw [List.flatMap_cons, List.getElem?_append_left (by simp [N5.cells]; omega)]
    simp
  | x :: xs, i + 1, s, j, h, hj => by
    have hl : x.cells.length = 5 := rfl
    rw [List.flatMap_cons, List.getElem?_append_right (by rw [hl]; omega), hl, show (i + 1) * 5 + j - 5 = i * 5 + j by omega]
    exact flatNo xs i s j (by simpa using h) hj
theorem own_notes {w : World} {B : Nat} {t : TypeId} {g n cap : Nat} {xs : List N5} (h : w.ownsRow B t 5 (.slice (some ⟨g, 0, none⟩) n cap) n (xs.flatMap N5.cells)) : NotesAt w g 0 xs := by
  have key : ∀ (j : Nat) (u : Value), (xs.flatMap N5.cells)[j]? = some u → w.cell? ⟨g, j, none⟩ = some u := by
    intro j u e
    rcases h.2 with ⟨h0, _⟩ | ⟨g', cap', cur, hv, _, hg, _, _, _, ht⟩
    · cases h0
    · cases hv
      rw [cell_of_row w g j cur t (0, 0) hg]
      rw [← ht, List.getElem?_take] at e
      split at e
      · simpa using e
      · cases e
  intro i s e
  have f := fun j hj => flatNo xs i s j e hj
  rw [Nat.zero_add]
  exact ⟨key _ _ (by simpa [N5.cells] using f 0 (by omega)), key _ _ (by simpa [N5.cells] using f 1 (by omega)), key _ _ (by simpa [N5.cells] using f 2 (by omega)), key _ _ (by simpa [N5.cells] using f 3 (by omega)), key _ _ (by simpa [N5.cells] using f 4 (by omega))⟩
theorem own_roomNo {w : World} {B : Nat} {t : TypeId} {g n cap : Nat} {vs : List Value} (h : w.ownsRow B t 5 (.slice (some ⟨g, 0, none⟩) n cap) n vs) : Room w g (n * 5) := by
  intro j hj
  rcases h.2 with ⟨h0, _⟩ | ⟨g', cap', cur, hv, _, hg, hn, _, hc, ht⟩
  · cases h0
  · cases hv
    have hlt : j < cur.size := by
      have : n * 5 ≤ cap * 5 := Nat.mul_le_mul_right 5 hn
      omega
    refine ⟨cur[j], ?_, ?_⟩
    · rw [cell_of_row w g j cur t (0, 0) hg, Array.getElem?_eq_getElem hlt]
    · simp [World.frozen?, hg]
theorem infoNote : (Try.prog.info? 29).map (fun i => (i.zero, i.size, i.bytes)) = some (some (.agg #[.int .i64 0, .int .i64 0, .int .i64 0, .int .i64 0, .bool false]), 5, 40) := by kernel_rfl
structure T7 where
  id : Int
  home : Int
  phase : Int
  count : Int
  reads : List N5
  sets : List S5
  stamp : Int
structure TV where
  ar : Option Addr
  cr : Nat
  ah : Option Addr
  ch : Nat
def TV.val (v : TV) (t : T7) : Value := .agg #[.int .i64 t.id, .int .i64 t.home, .int .i64 t.phase, .int .i64 t.count, .slice v.ar t.reads.length v.cr, .slice v.ah t.sets.length v.ch, .int .i64 t.stamp]
theorem Sl.later {w w' : World} {a : Option Addr} {n : Nat} {xs : List S5} (h : Sl w w.heap.size a n xs) (hb : Below w.heap.size w w') : Sl w' w'.heap.size a n xs := (h.below hb).mono hb.size
theorem SlNo.later {w w' : World} {a : Option Addr} {n : Nat} {xs : List N5} (h : SlNo w w.heap.size a n xs) (hb : Below w.heap.size w w') : SlNo w' w'.heap.size a n xs := (h.below hb).mono hb.size
structure SlT (w : World) (v : TV) (t : T7) : Prop where
  r : SlNo w w.heap.size v.ar t.reads.length t.reads
  s : Sl w w.heap.size v.ah t.sets.length t.sets
theorem SlT.later {w w' : World} {v : TV} {t : T7} (h : SlT w v t) (hb : Below w.heap.size w w') : SlT w' v t := ⟨h.r.later hb, h.s.later hb⟩
structure TL (t : T7) : Prop where
  r : t.reads.length ≤ maxLen
  s : t.sets.length ≤ maxLen
def OwnNo (w : World) (P : Nat → Prop) (a : Option Addr) (xs : List N5) : Prop := xs = [] ∨ ∃ b, a = some ⟨b, 0, none⟩ ∧ P b ∧ b < w.heap.size ∧ NotesAt w b 0 xs ∧ Room w b (xs.length * 5)
def OwnSe (w : World) (P : Nat → Prop) (a : Option Addr) (xs : List S5) : Prop := xs = [] ∨ ∃ b, a = some ⟨b, 0, none⟩ ∧ P b ∧ b < w.heap.size ∧ SetsAt w b 0 xs ∧ Room w b (xs.length * 5)
theorem OwnNo.keep {w w' : World} {P : Nat → Prop} {a : Option Addr} {xs : List N5} (h : OwnNo w P a xs) (hs : w.heap.size ≤ w'.heap.size) (hk : ∀ q, q < w.heap.size → P q → w'.heap[q]? = w.heap[q]?) : OwnNo w' P a xs := by
  rcases h with h | ⟨b, ha, hp, hl, hn, hr⟩
  · exact .inl h
  · exact .inr ⟨b, ha, hp, Nat.lt_of_lt_of_le hl hs, hn.of_block (hk b hl hp), hr.of_block (hk b hl hp)⟩
theorem OwnSe.keep {w w' : World} {P : Nat → Prop} {a : Option Addr} {xs : List S5} (h : OwnSe w P a xs) (hs : w.heap.size ≤ w'.heap.size) (hk : ∀ q, q < w.heap.size → P q → w'.heap[q]? = w.heap[q]?) : OwnSe w' P a xs := by
  rcases h with h | ⟨b, ha, hp, hl, hn, hr⟩
  · exact .inl h
  · exact .inr ⟨b, ha, hp, Nat.lt_of_lt_of_le hl hs, hn.of_block (hk b hl hp), hr.of_block (hk b hl hp)⟩
theorem OwnNo.mono {w : World} {P Q : Nat → Prop} {a : Option Addr} {xs : List N5} (h : OwnNo w P a xs) (hp : ∀ q, q < w.heap.size → P q → Q q) : OwnNo w Q a xs := by
  rcases h with h | ⟨b, ha, hb, hl, hn, hr⟩
  · exact .inl h
  · exact .inr ⟨b, ha, hp b hl hb, hl, hn, hr⟩
theorem OwnSe.mono {w : World} {P Q : Nat → Prop} {a : Option Addr} {xs : List S5} (h : OwnSe w P a xs) (hp : ∀ q, q < w.heap.size → P q → Q q) : OwnSe w Q a xs := by
  rcases h with h | ⟨b, ha, hb, hl, hn, hr⟩
  · exact .inl h
  · exact .inr ⟨b, ha, hp b hl hb, hl, hn, hr⟩
theorem OwnNo.sl {w : World} {P : Nat → Prop} {a : Option Addr} {xs : List N5} (h : OwnNo w P a xs) : SlNo w w.heap.size a xs.length xs := by
  rcases h with e | ⟨b, ha, _, hl, hn, _⟩
  · exact ⟨rfl, .inl (by rw [e]; rfl)⟩
  · exact ⟨rfl, .inr ⟨b, 0, ha, hl, hn⟩⟩
theorem OwnSe.sl {w : World} {P : Nat → Prop} {a : Option Addr} {xs : List S5} (h : OwnSe w P a xs) : Sl w w.heap.size a xs.length xs := by
  rcases h with e | ⟨b, ha, _, hl, hn, _⟩
  · exact ⟨rfl, .inl (by rw [e]; rfl)⟩
  · exact ⟨rfl, .inr ⟨b, 0, ha, hl, hn⟩⟩
structure OT (w : World) (B : Nat) (v : TV) (t : T7) (PR PS : Nat → Prop) : Prop where
  r : OwnNo w PR v.ar t.reads
  s : OwnSe w PS v.ah t.sets
  rs : ∀ q, PR q → ¬ PS q
  rB : ∀ q, PR q → B ≤ q ∧ q < w.heap.size
  sB : ∀ q, PS q → B ≤ q ∧ q < w.heap.size
def OfT (PR PS : Nat → Prop) (q : Nat) : Prop := PR q ∨ PS q
theorem OT.of {w : World} {B : Nat} {v : TV} {t : T7} {PR PS : Nat → Prop} (h : OT w B v t PR PS) {q : Nat} (hq : OfT PR PS q) : B ≤ q ∧ q < w.heap.size := hq.elim (h.rB q) (h.sB q)
theorem OT.sl {w : World} {B : Nat} {v : TV} {t : T7} {PR PS : Nat → Prop} (h : OT w B v t PR PS) : SlT w v t := ⟨h.r.sl, h.s.sl⟩
theorem OT.keep {w w' : World} {B : Nat} {v : TV} {t : T7} {PR PS : Nat → Prop} (h : OT w B v t PR PS) (hs : w.heap.size ≤ w'.heap.size) (hk : ∀ q, q < w.heap.size → OfT PR PS q → w'.heap[q]? = w.heap[q]?) : OT w' B v t PR PS :=
  ⟨h.r.keep hs (fun q hq hp => hk q hq (.inl hp)), h.s.keep hs (fun q hq hp => hk q hq (.inr hp)), h.rs, fun q hq => ⟨(h.rB q hq).1, Nat.lt_of_lt_of_le (h.rB q hq).2 hs⟩, fun q hq => ⟨(h.sB q hq).1, Nat.lt_of_lt_of_le (h.sB q hq).2 hs⟩⟩
theorem OT.later {w w' : World} {B : Nat} {v : TV} {t : T7} {PR PS : Nat → Prop} (h : OT w B v t PR PS) (hb : Below w.heap.size w w') : OT w' B v t PR PS := h.keep hb.size (fun q hq _ => hb.block q hq)
theorem OT.mono {w : World} {B B' : Nat} {v : TV} {t : T7} {PR PS : Nat → Prop} (h : OT w B v t PR PS) (hb : B' ≤ B) : OT w B' v t PR PS := ⟨h.r, h.s, h.rs, fun q hq => ⟨Nat.le_trans hb (h.rB q hq).1, (h.rB q hq).2⟩, fun q hq => ⟨Nat.le_trans hb (h.sB q hq).1, (h.sB q hq).2⟩⟩
structure BT (X : World) (s : Nat) (v : TV) (t : T7) : Prop where
  c0 : X.cell? ⟨s, 0, none⟩ = some (.int .i64 t.id)
  c1 : X.cell? ⟨s, 1, none⟩ = some (.int .i64 t.home)
  c2 : X.cell? ⟨s, 2, none⟩ = some (.int .i64 t.phase)
  c3 : X.cell? ⟨s, 3, none⟩ = some (.int .i64 t.count)
  c4 : X.cell? ⟨s, 4, none⟩ = some (.slice v.ar t.reads.length v.cr)
  c5 : X.cell? ⟨s, 5, none⟩ = some (.slice v.ah t.sets.length v.ch)
  c6 : X.cell? ⟨s, 6, none⟩ = some (.int .i64 t.stamp)
  fz : ∀ j, X.frozen? ⟨s, j, none⟩ = false
  lt : s < X.heap.size
theorem BT.of_block {X Y : World} {s : Nat} {v : TV} {t : T7} (h : BT X s v t) (hb : Y.heap[s]? = X.heap[s]?) (hs : X.heap.size ≤ Y.heap.size) : BT Y s v t := by
  have c : ∀ {j : Nat} {u : Value}, X.cell? ⟨s, j, none⟩ = some u → Y.cell? ⟨s, j, none⟩ = some u := fun {j u} h => (World.cell?_of_block (a := ⟨s, j, none⟩) hb).trans h
  exact ⟨c h.c0, c h.c1, c h.c2, c h.c3, c h.c4, c h.c5, c h.c6, fun j => (World.frozen?_of_block (a := ⟨s, j, none⟩) hb).trans (h.fz j), Nat.lt_of_lt_of_le h.lt hs⟩
theorem BT.later {X Y : World} {s : Nat} {v : TV} {t : T7} (h : BT X s v t) (hb : Below X.heap.size X Y) : BT Y s v t := h.of_block (hb.block _ h.lt) hb.size
theorem BT.box (X : World) (v : TV) (t : T7) (T : TypeId) : BT (X.alloc (.cells #[.int .i64 t.id, .int .i64 t.home, .int .i64 t.phase, .int .i64 t.count, .slice v.ar t.reads.length v.cr, .slice v.ah t.sets.length v.ch, .int .i64 t.stamp] T)) X.heap.size v t := by
  refine ⟨by go_simp, by go_simp, by go_simp, by go_simp, by go_simp, by go_simp, by go_simp, fun j => by go_simp, by simp⟩
theorem BT.zero (X : World) (T : TypeId) : BT (X.alloc (.cells #[.int .i64 0, .int .i64 0, .int .i64 0, .int .i64 0, .slice none 0 0, .slice none 0 0, .int .i64 0] T)) X.heap.size ⟨none, 0, none, 0⟩ ⟨0, 0, 0, 0, [], [], 0⟩ := BT.box X ⟨none, 0, none, 0⟩ ⟨0, 0, 0, 0, [], [], 0⟩ T
def szT (t : T7) : Nat := t.reads.length + t.sets.length
theorem flat_len {α : Type} {cells : α → List Value} {sz : Nat} (hl : ∀ s, (cells s).length = sz) (l : List α) : (l.flatMap cells).length = l.length * sz := by
  induction l with
  | nil => simp
  | cons y l ih => rw [List.flatMap_cons, List.length_append, ih, hl, List.length_cons, Nat.add_mul]; omega
theorem pushX {α : Type} {cells : α → List Value} {T ST : TypeId} {sz by_ : Nat} (hl : ∀ s, (cells s).length = sz) (h1 : ∀ s, ∀ u ∈ cells s, u.oneCell' = true) (hsz : 0 < sz) {P : Program} {i0 : TypeInfo} {z : Value} (ht : P.underlying ST = some (.slice T)) (hi : P.info? T = some i0) (hz : i0.zero = some z) (hs : i0.size = sz) (hby : i0.bytes = by_) (hzs : z.cells.size = sz) (hbb : by_ ≤ 1000)
    {W : World} {base : Nat} {v : Value} {xs : List α} (h : W.ownsRow base T sz v xs.length (xs.flatMap cells)) (ys : List α) (hm : xs.length + ys.length ≤ 1048576) (ty : TypeId) (b off k : Nat) (src : ∀ i s, ys[i]? = some s → ∀ t u, (cells s)[t]? = some u → W.cell? ⟨b, off + i * sz + t, none⟩ = some u) (hbase : base ≤ W.heap.size) :
    ∃ v' W', (Builtin.append_ #[ST, ST] ty #[v, .slice (some ⟨b, off, none⟩) ys.length k]).run P W = .ok v' W' ∧ W'.ownsRow base T sz v' (xs ++ ys).length ((xs ++ ys).flatMap cells) ∧ W.grownBy W' v.ownBlock ∧ (v'.ownBlock = v.ownBlock ∨ v'.ownBlock = some W.heap.size) := by
  have hadd : ∀ (b o j : Nat), (⟨b, o, none⟩ : Addr).add j = ⟨b, o + j, none⟩ := fun b o j => by unfold Addr.add; split <;> simp_all
  obtain ⟨v', W', hrun, hown, hg, hnil, hlies⟩ := run_append_own_at (P := P) W base ST ty T i0 z sz by_ ht hi hz hs hby hzs hsz
    v xs.length _ h ⟨b, off, none⟩ ys.length k (ys.flatMap cells) (flat_len hl ys) (fun j u hu => by
      have hj : j < ys.length * sz := by rw [← flat_len hl]; exact (List.getElem?_eq_some_iff.1 hu).1
      have hi : j / sz < ys.length := Nat.div_lt_of_lt_mul (by rw [Nat.mul_comm]; exact hj)
      have hxs := List.getElem?_eq_getElem hi
      have hjt : j / sz * sz + j % sz = j := Nat.div_add_mod' j sz
      have := flat_at (f := cells) (l := ys) (fun x _ => hl x) hxs (Nat.mod_lt j hsz)
      rw [hjt] at this
      rw [hadd, ← hjt, ← Nat.add_assoc]
      exact src _ _ hxs _ u (by rw [← this]; exact hu))
    (fun u hu => by obtain ⟨s, _, hs⟩ := List.mem_flatMap.1 hu; exact h1 s u hs) (by unfold maxLen; omega) (by
      have : (xs.length + ys.length) * by_ ≤ 1048576 * 1000 := Nat.mul_le_mul hm hbb
      omega) hbase
  rw [← List.flatMap_append, ← List.length_append] at hown
  exact ⟨v', W', hrun, hown, hg, hlies⟩
theorem setOne : ∀ s : S5, ∀ u ∈ s.cells, u.oneCell' = true := fun s u hu => by
  simp only [S5.cells, List.mem_cons, List.not_mem_nil, or_false] at hu
  rcases hu with rfl | rfl | rfl | rfl | rfl <;> rfl
theorem noteOne : ∀ s : N5, ∀ u ∈ s.cells, u.oneCell' = true := fun s u hu => by
  simp only [N5.cells, List.mem_cons, List.not_mem_nil, or_false] at hu
  rcases hu with rfl | rfl | rfl | rfl | rfl <;> rfl
theorem SetAt.cellsAt {w : World} {b o : Nat} {s : S5} (h : SetAt w b o s) : ∀ t u, s.cells[t]? = some u → w.cell? ⟨b, o + t, none⟩ = some u := fun t u hu => by
  rcases t with _ | _ | _ | _ | _ | t
  · simp [S5.cells] at hu; subst hu; exact h.c0
  · simp [S5.cells] at hu; subst hu; exact h.c1
  · simp [S5.cells] at hu; subst hu; exact h.c2
  · simp [S5.cells] at hu; subst hu; exact h.c3
  · simp [S5.cells] at hu; subst hu; exact h.c4
  · simp [S5.cells] at hu
theorem NoteAt.cellsAt {w : World} {b o : Nat} {s : N5} (h : NoteAt w b o s) : ∀ t u, s.cells[t]? = some u → w.cell? ⟨b, o + t, none⟩ = some u := fun t u hu => by
  rcases t with _ | _ | _ | _ | _ | t
  · simp [N5.cells] at hu; subst hu; exact h.c0
  · simp [N5.cells] at hu; subst hu; exact h.c1
  · simp [N5.cells] at hu; subst hu; exact h.c2
  · simp [N5.cells] at hu; subst hu; exact h.c3
  · simp [N5.cells] at hu; subst hu; exact h.c4
  · simp [N5.cells] at hu
def RowS (W : World) (base : Nat) (v : Value) (xs : List S5) : Prop := W.ownsRow base 36 5 v xs.length (xs.flatMap S5.cells)
def RowN (W : World) (base : Nat) (v : Value) (xs : List N5) : Prop := W.ownsRow base 29 5 v xs.length (xs.flatMap N5.cells)
theorem pushSe {W : World} {base : Nat} {v : Value} {xs : List S5} (h : RowS W base v xs) (ys : List S5) (hm : xs.length + ys.length ≤ 1048576) (ty : TypeId) (b off k : Nat) (src : SetsAt W b off ys) (hbase : base ≤ W.heap.size) :
    ∃ v' W', (Builtin.append_ #[25, 25] ty #[v, .slice (some ⟨b, off, none⟩) ys.length k]).run Try.prog W = .ok v' W' ∧ RowS W' base v' (xs ++ ys) ∧ W.grownBy W' v.ownBlock ∧ (v'.ownBlock = v.ownBlock ∨ v'.ownBlock = some W.heap.size) := by
  obtain ⟨i0, hi0, hz0, hz1, hz2⟩ := partsOf infoSet
  exact pushX (cells := S5.cells) (fun _ => rfl) setOne (by omega) Try.underlying25 hi0 hz0 hz1 hz2 rfl (by omega) h ys hm ty b off k (fun i s e t u hu => (src i s e).cellsAt t u hu) hbase
theorem pushNo {W : World} {base : Nat} {v : Value} {xs : List N5} (h : RowN W base v xs) (ys : List N5) (hm : xs.length + ys.length ≤ 1048576) (ty : TypeId) (b off k : Nat) (src : NotesAt W b off ys) (hbase : base ≤ W.heap.size) :
    ∃ v' W', (Builtin.append_ #[24, 24] ty #[v, .slice (some ⟨b, off, none⟩) ys.length k]).run Try.prog W = .ok v' W' ∧ RowN W' base v' (xs ++ ys) ∧ W.grownBy W' v.ownBlock ∧ (v'.ownBlock = v.ownBlock ∨ v'.ownBlock = some W.heap.size) := by
  obtain ⟨i0, hi0, hz0, hz1, hz2⟩ := partsOf infoNote
  exact pushX (cells := N5.cells) (fun _ => rfl) noteOne (by omega) Try.underlying24 hi0 hz0 hz1 hz2 rfl (by omega) h ys hm ty b off k (fun i s e t u hu => (src i s e).cellsAt t u hu) hbase
theorem RowS.nil (W : World) (base : Nat) : RowS W base (.slice none 0 0) [] := ⟨rfl, .inl ⟨rfl, rfl⟩⟩
theorem RowN.nil (W : World) (base : Nat) : RowN W base (.slice none 0 0) [] := ⟨rfl, .inl ⟨rfl, rfl⟩⟩
theorem RowS.lt {W : World} {base : Nat} {v : Value} {xs : List S5} (h : RowS W base v xs) {q : Nat} (e : v.ownBlock = some q) : base ≤ q ∧ q < W.heap.size := World.ownsRow.lt h q e
theorem RowN.lt {W : World} {base : Nat} {v : Value} {xs : List N5} (h : RowN W base v xs) {q : Nat} (e : v.ownBlock = some q) : base ≤ q ∧ q < W.heap.size := World.ownsRow.lt h q e
theorem row_keep {W W' : World} {base : Nat} {v : Value} {T : TypeId} {sz n : Nat} {vs : List Value} (h : W.ownsRow base T sz v n vs) (hk : ∀ q, v.ownBlock = some q → W'.heap[q]? = W.heap[q]?) : W'.ownsRow base T sz v n vs := by
  refine ⟨h.1, h.2.imp id ?_⟩
  rintro ⟨q, cap, cur, rfl, l, hg, r⟩
  exact ⟨q, cap, cur, rfl, l, (hk q rfl).trans hg, r⟩
theorem RowS.keep {W W' : World} {base : Nat} {v : Value} {xs : List S5} (h : RowS W base v xs) (hk : ∀ q, base ≤ q → q < W.heap.size → v.ownBlock = some q → W'.heap[q]? = W.heap[q]?) : RowS W' base v xs := row_keep h (fun q e => hk q (h.lt e).1 (h.lt e).2 e)
theorem RowN.keep {W W' : World} {base : Nat} {v : Value} {xs : List N5} (h : RowN W base v xs) (hk : ∀ q, base ≤ q → q < W.heap.size → v.ownBlock = some q → W'.heap[q]? = W.heap[q]?) : RowN W' base v xs := row_keep h (fun q e => hk q (h.lt e).1 (h.lt e).2 e)
theorem RowS.later {W W' : World} {base : Nat} {v : Value} {xs : List S5} (h : RowS W base v xs) (hb : Below W.heap.size W W') : RowS W' base v xs := h.keep (fun q _ hq _ => hb.block q hq)
theorem RowN.later {W W' : World} {base : Nat} {v : Value} {xs : List N5} (h : RowN W base v xs) (hb : Below W.heap.size W W') : RowN W' base v xs := h.keep (fun q _ hq _ => hb.block q hq)
theorem RowS.form {W : World} {base : Nat} {v : Value} {xs : List S5} (h : RowS W base v xs) : ∃ a c, v = .slice a xs.length c ∧ OwnSe W (fun q => v.ownBlock = some q) a xs := by
  rcases h.2 with ⟨rfl, h0⟩ | ⟨q, cap, cur, rfl, hb, hg, hl, _⟩
  · exact ⟨none, 0, by rw [h0], .inl (List.eq_nil_of_length_eq_zero h0)⟩
  · refine ⟨some ⟨q, 0, none⟩, cap, rfl, .inr ⟨q, rfl, rfl, (World.ownsRow.lt h q rfl).2, own_sets h, own_room h⟩⟩
theorem RowN.form {W : World} {base : Nat} {v : Value} {xs : List N5} (h : RowN W base v xs) : ∃ a c, v = .slice a xs.length c ∧ OwnNo W (fun q => v.ownBlock = some q) a xs := by
  rcases h.2 with ⟨rfl, h0⟩ | ⟨q, cap, cur, rfl, hb, hg, hl, _⟩
  · exact ⟨none, 0, by rw [h0], .inl (List.eq_nil_of_length_eq_zero h0)⟩
  · refine ⟨some ⟨q, 0, none⟩, cap, rfl, .inr ⟨q, rfl, rfl, (World.ownsRow.lt h q rfl).2, own_notes h, own_roomNo h⟩⟩
theorem RowS.made (W : World) : RowS (W.alloc (.cells #[] 36)) W.heap.size (.slice (some ⟨W.heap.size, 0, none⟩) 0 0) [] := World.ownsRow_made W #[] 0 (Nat.le_refl _) (Nat.zero_le _) rfl
theorem RowN.made (W : World) : RowN (W.alloc (.cells #[] 29)) W.heap.size (.slice (some ⟨W.heap.size, 0, none⟩) 0 0) [] := World.ownsRow_made W #[] 0 (Nat.le_refl _) (Nat.zero_le _) rfl
theorem SetAt.box (W : World) (s : S5) (T : TypeId) : SetAt (W.alloc (.cells #[.int .i64 s.region, .int .i64 s.slot, .int .i64 s.value, .bool s.used, .int .i64 s.version] T)) W.heap.size 0 s := ⟨by go_simp, by go_simp, by go_simp, by go_simp, by go_simp⟩
theorem NoteAt.box (W : World) (s : N5) (T : TypeId) : NoteAt (W.alloc (.cells #[.int .i64 s.region, .int .i64 s.slot, .int .i64 s.version, .int .i64 s.value, .bool s.used] T)) W.heap.size 0 s := ⟨by go_simp, by go_simp, by go_simp, by go_simp, by go_simp⟩
theorem SetAt.one {W : World} {b o : Nat} {s : S5} (h : SetAt W b o s) : SetsAt W b o [s] := fun i x e => by
  rcases i with _ | i
  · simp at e; subst e; simpa using h
  · simp at e
theorem NoteAt.one {W : World} {b o : Nat} {s : N5} (h : NoteAt W b o s) : NotesAt W b o [s] := fun i x e => by
  rcases i with _ | i
  · simp at e; subst e; simpa using h
  · simp at e
theorem BT.far {X : World} {s : Nat} {v : TV} {t : T7} (h : BT X s v t) {p : Addr} (hp : p.block ≠ s) (u : Value) : BT (X.setCell p u) s v t := h.of_block (Below.heap_setCell _ _ _ _ (fun e => hp e.symm)) (by simp [World.setCell])
theorem BT.set0 {X : World} {s : Nat} {v : TV} {t : T7} (h : BT X s v t) (z : Int) : BT (X.setCell ⟨s, 0, none⟩ (.int .i64 z)) s v ⟨z, t.home, t.phase, t.count, t.reads, t.sets, t.stamp⟩ := ⟨cell_set_same h.c0, (cell_set_other (by omega)).trans h.c1, (cell_set_other (by omega)).trans h.c2, (cell_set_other (by omega)).trans h.c3, (cell_set_other (by omega)).trans h.c4, (cell_set_other (by omega)).trans h.c5, (cell_set_other (by omega)).trans h.c6, fun j => by rw [World.frozen?_setCell]; exact h.fz j, by simpa [World.setCell] using h.lt⟩
theorem BT.set1 {X : World} {s : Nat} {v : TV} {t : T7} (h : BT X s v t) (z : Int) : BT (X.setCell ⟨s, 1, none⟩ (.int .i64 z)) s v ⟨t.id, z, t.phase, t.count, t.reads, t.sets, t.stamp⟩ := ⟨(cell_set_other (by omega)).trans h.c0, cell_set_same h.c1, (cell_set_other (by omega)).trans h.c2, (cell_set_other (by omega)).trans h.c3, (cell_set_other (by omega)).trans h.c4, (cell_set_other (by omega)).trans h.c5, (cell_set_other (by omega)).trans h.c6, fun j => by rw [World.frozen?_setCell]; exact h.fz j, by simpa [World.setCell] using h.lt⟩
theorem BT.set2 {X : World} {s : Nat} {v : TV} {t : T7} (h : BT X s v t) (z : Int) : BT (X.setCell ⟨s, 2, none⟩ (.int .i64 z)) s v ⟨t.id, t.home, z, t.count, t.reads, t.sets, t.stamp⟩ := ⟨(cell_set_other (by omega)).trans h.c0, (cell_set_other (by omega)).trans h.c1, cell_set_same h.c2, (cell_set_other (by omega)).trans h.c3, (cell_set_other (by omega)).trans h.c4, (cell_set_other (by omega)).trans h.c5, (cell_set_other (by omega)).trans h.c6, fun j => by rw [World.frozen?_setCell]; exact h.fz j, by simpa [World.setCell] using h.lt⟩
theorem BT.set3 {X : World} {s : Nat} {v : TV} {t : T7} (h : BT X s v t) (z : Int) : BT (X.setCell ⟨s, 3, none⟩ (.int .i64 z)) s v ⟨t.id, t.home, t.phase, z, t.reads, t.sets, t.stamp⟩ := ⟨(cell_set_other (by omega)).trans h.c0, (cell_set_other (by omega)).trans h.c1, (cell_set_other (by omega)).trans h.c2, cell_set_same h.c3, (cell_set_other (by omega)).trans h.c4, (cell_set_other (by omega)).trans h.c5, (cell_set_other (by omega)).trans h.c6, fun j => by rw [World.frozen?_setCell]; exact h.fz j, by simpa [World.setCell] using h.lt⟩
theorem BT.set4 {X : World} {s : Nat} {v : TV} {t : T7} (h : BT X s v t) (a : Option Addr) (c : Nat) (xs : List N5) : BT (X.setCell ⟨s, 4, none⟩ (.slice a xs.length c)) s ⟨a, c, v.ah, v.ch⟩ ⟨t.id, t.home, t.phase, t.count, xs, t.sets, t.stamp⟩ := ⟨(cell_set_other (by omega)).trans h.c0, (cell_set_other (by omega)).trans h.c1, (cell_set_other (by omega)).trans h.c2, (cell_set_other (by omega)).trans h.c3, cell_set_same h.c4, (cell_set_other (by omega)).trans h.c5, (cell_set_other (by omega)).trans h.c6, fun j => by rw [World.frozen?_setCell]; exact h.fz j, by simpa [World.setCell] using h.lt⟩
theorem BT.set5 {X : World} {s : Nat} {v : TV} {t : T7} (h : BT X s v t) (a : Option Addr) (c : Nat) (xs : List S5) : BT (X.setCell ⟨s, 5, none⟩ (.slice a xs.length c)) s ⟨v.ar, v.cr, a, c⟩ ⟨t.id, t.home, t.phase, t.count, t.reads, xs, t.stamp⟩ := ⟨(cell_set_other (by omega)).trans h.c0, (cell_set_other (by omega)).trans h.c1, (cell_set_other (by omega)).trans h.c2, (cell_set_other (by omega)).trans h.c3, (cell_set_other (by omega)).trans h.c4, cell_set_same h.c5, (cell_set_other (by omega)).trans h.c6, fun j => by rw [World.frozen?_setCell]; exact h.fz j, by simpa [World.setCell] using h.lt⟩
theorem BT.set6 {X : World} {s : Nat} {v : TV} {t : T7} (h : BT X s v t) (z : Int) : BT (X.setCell ⟨s, 6, none⟩ (.int .i64 z)) s v ⟨t.id, t.home, t.phase, t.count, t.reads, t.sets, z⟩ := ⟨(cell_set_other (by omega)).trans h.c0, (cell_set_other (by omega)).trans h.c1, (cell_set_other (by omega)).trans h.c2, (cell_set_other (by omega)).trans h.c3, (cell_set_other (by omega)).trans h.c4, (cell_set_other (by omega)).trans h.c5, cell_set_same h.c6, fun j => by rw [World.frozen?_setCell]; exact h.fz j, by simpa [World.setCell] using h.lt⟩
def putT (X : World) (s : Nat) (v : TV) (t : T7) : World := ((((((X.setCell ⟨s, 0, none⟩ (.int .i64 t.id)).setCell ⟨s, 1, none⟩ (.int .i64 t.home)).setCell ⟨s, 2, none⟩ (.int .i64 t.phase)).setCell ⟨s, 3, none⟩ (.int .i64 t.count)).setCell ⟨s, 4, none⟩ (.slice v.ar t.reads.length v.cr)).setCell ⟨s, 5, none⟩ (.slice v.ah t.sets.length v.ch)).setCell ⟨s, 6, none⟩ (.int .i64 t.stamp)
theorem BT.put {X : World} {s : Nat} {v0 : TV} {t0 : T7} (h : BT X s v0 t0) (v : TV) (t : T7) : BT (putT X s v t) s v t := ((((((h.set0 t.id).set1 t.home).set2 t.phase).set3 t.count).set4 v.ar v.cr t.reads).set5 v.ah v.ch t.sets).set6 t.stamp
theorem putT_size (X : World) (s : Nat) (v : TV) (t : T7) : (putT X s v t).heap.size = X.heap.size := by simp [putT, World.setCell]
theorem putT_block {X : World} {s : Nat} {v : TV} {t : T7} {q : Nat} (hq : q ≠ s) : (putT X s v t).heap[q]? = X.heap[q]? := by
  unfold putT
  exact (Below.heap_setCell _ _ _ _ hq).trans ((Below.heap_setCell _ _ _ _ hq).trans ((Below.heap_setCell _ _ _ _ hq).trans ((Below.heap_setCell _ _ _ _ hq).trans ((Below.heap_setCell _ _ _ _ hq).trans ((Below.heap_setCell _ _ _ _ hq).trans (Below.heap_setCell _ _ _ _ hq))))))
theorem putT_below {B : Nat} {w X : World} {s : Nat} {v : TV} {t : T7} (h : Below B w X) (hs : B ≤ s) : Below B w (putT X s v t) := by
  unfold putT
  exact ((((((h.setCell (p := ⟨s, 0, none⟩) hs _).setCell (p := ⟨s, 1, none⟩) hs _).setCell (p := ⟨s, 2, none⟩) hs _).setCell (p := ⟨s, 3, none⟩) hs _).setCell (p := ⟨s, 4, none⟩) hs _).setCell (p := ⟨s, 5, none⟩) hs _).setCell (p := ⟨s, 6, none⟩) hs _
theorem OT.put {X : World} {B s : Nat} {v v' : TV} {t t' : T7} {PR PS : Nat → Prop} (h : OT X B v t PR PS) (hs : s < B) : OT (putT X s v' t') B v t PR PS := h.keep (by rw [putT_size]; exact Nat.le_refl _) (fun q _ hq => putT_block (by have := (h.of hq).1; omega))
def arrT (v : TV) (t : T7) : Array Value := #[.int .i64 t.id, .int .i64 t.home, .int .i64 t.phase, .int .i64 t.count, .slice v.ar t.reads.length v.cr, .slice v.ah t.sets.length v.ch, .int .i64 t.stamp]
def OAns (w : World) (t : T7) (e : Ending) (w' : World) : Prop := ∃ (a4 : Option Addr) (c4 : Nat) (h4 : Option Addr) (d4 : Nat) (PR PS : Nat → Prop), e = .returned ((TV.mk a4 c4 h4 d4).val t) ∧ OT w' w.heap.size ⟨a4, c4, h4, d4⟩ t PR PS ∧ Below w.heap.size w w'
theorem pushNoAny {W : World} {base : Nat} {v : Value} {xs : List N5} (h : RowN W base v xs) (ys : List N5) (hm : xs.length + ys.length ≤ 1048576) (ty : TypeId) (a : Option Addr) (k : Nat) (src : SlNo W W.heap.size a ys.length ys) (hbase : base ≤ W.heap.size) :
    ∃ a' c' W', (Builtin.append_ #[24, 24] ty #[v, .slice a ys.length k]).run Try.prog W = .ok (.slice a' (xs ++ ys).length c') W' ∧ RowN W' base (.slice a' (xs ++ ys).length c') (xs ++ ys) ∧ W.grownBy W' v.ownBlock ∧ ((Value.slice a' (xs ++ ys).length c').ownBlock = v.ownBlock ∨ (Value.slice a' (xs ++ ys).length c').ownBlock = some W.heap.size) := by
  by_cases e : ys = []
  · subst e
    obtain ⟨i0, hi0, hz0, hz1, hz2⟩ := partsOf infoNote
    obtain ⟨a0, c0, rfl, -⟩ := h.form
    have hle : xs.length ≤ c0 := by
      rcases h.2 with ⟨h0, h1⟩ | ⟨q', cap', cur, h0, _, _, hc, _⟩
      · rw [h1]; exact Nat.zero_le _
      · cases h0; exact hc
    simp only [List.append_nil]
    refine ⟨a0, c0, W, ?_, h, ⟨rfl, rfl, rfl, Nat.le_refl _, fun _ _ _ => rfl⟩, .inl rfl⟩
    refine run_append_nothing W 24 24 ty 29 i0 Try.underlying24 hi0 a0 xs.length c0 hle (.slice a 0 k) ?_
    cases a with
    | none => exact Src.ofNil W Try.underlying24 k
    | some x => exact Src.ofSlice W Try.underlying24 x 0 k [] (by simp) (fun j u hu => by simp at hu) (fun u hu => by cases hu)
  · have hpos : 0 < ys.length := List.length_pos_iff.2 e
    obtain ⟨_, src⟩ := src
    rcases src with src | ⟨b, off, rfl, hb, hx⟩
    · omega
    obtain ⟨v', W', h1, h2, h3, h4⟩ := pushNo h ys hm ty b off k hx hbase
    obtain ⟨a', c', rfl, -⟩ := h2.form
    exact ⟨a', c', W', h1, h2, h3, h4⟩
theorem copyNo {W : World} {base : Nat} {v : Value} (h : RowN W base v []) (ys : List N5) (hm : ys.length ≤ 1048576) (ty : TypeId) (a : Option Addr) (k : Nat) (src : SlNo W W.heap.size a ys.length ys) (hbase : base ≤ W.heap.size) :
    ∃ a' c' W', (Builtin.append_ #[24, 24] ty #[v, .slice a ys.length k]).run Try.prog W = .ok (.slice a' ys.length c') W' ∧ RowN W' base (.slice a' ys.length c') ys ∧ W.grownBy W' v.ownBlock :=
  let ⟨a', c', W', h1, h2, h3, _⟩ := pushNoAny h ys (by simpa using hm) ty a k src hbase
  ⟨a', c', W', h1, h2, h3⟩
theorem pushSeAny {W : World} {base : Nat} {v : Value} {xs : List S5} (h : RowS W base v xs) (ys : List S5) (hm : xs.length + ys.length ≤ 1048576) (ty : TypeId) (a : Option Addr) (k : Nat) (src : Sl W W.heap.size a ys.length ys) (hbase : base ≤ W.heap.size) :
    ∃ a' c' W', (Builtin.append_ #[25, 25] ty #[v, .slice a ys.length k]).run Try.prog W = .ok (.slice a' (xs ++ ys).length c') W' ∧ RowS W' base (.slice a' (xs ++ ys).length c') (xs ++ ys) ∧ W.grownBy W' v.ownBlock ∧ ((Value.slice a' (xs ++ ys).length c').ownBlock = v.ownBlock ∨ (Value.slice a' (xs ++ ys).length c').ownBlock = some W.heap.size) := by
  by_cases e : ys = []
  · subst e
    obtain ⟨i0, hi0, hz0, hz1, hz2⟩ := partsOf infoSet
    obtain ⟨a0, c0, rfl, -⟩ := h.form
    have hle : xs.length ≤ c0 := by
      rcases h.2 with ⟨h0, h1⟩ | ⟨q', cap', cur, h0, _, _, hc, _⟩
      · rw [h1]; exact Nat.zero_le _
      · cases h0; exact hc
    simp only [List.append_nil]
    refine ⟨a0, c0, W, ?_, h, ⟨rfl, rfl, rfl, Nat.le_refl _, fun _ _ _ => rfl⟩, .inl rfl⟩
    refine run_append_nothing W 25 25 ty 36 i0 Try.underlying25 hi0 a0 xs.length c0 hle (.slice a 0 k) ?_
    cases a with
    | none => exact Src.ofNil W Try.underlying25 k
    | some x => exact Src.ofSlice W Try.underlying25 x 0 k [] (by simp) (fun j u hu => by simp at hu) (fun u hu => by cases hu)
  · have hpos : 0 < ys.length := List.length_pos_iff.2 e
    obtain ⟨_, src⟩ := src
    rcases src with src | ⟨b, off, rfl, hb, hx⟩
    · omega
    obtain ⟨v', W', h1, h2, h3, h4⟩ := pushSe h ys hm ty b off k hx hbase
    obtain ⟨a', c', rfl, -⟩ := h2.form
    exact ⟨a', c', W', h1, h2, h3, h4⟩
theorem copySe {W : World} {base : Nat} {v : Value} (h : RowS W base v []) (ys : List S5) (hm : ys.length ≤ 1048576) (ty : TypeId) (a : Option Addr) (k : Nat) (src : Sl W W.heap.size a ys.length ys) (hbase : base ≤ W.heap.size) :
    ∃ a' c' W', (Builtin.append_ #[25, 25] ty #[v, .slice a ys.length k]).run Try.prog W = .ok (.slice a' ys.length c') W' ∧ RowS W' base (.slice a' ys.length c') ys ∧ W.grownBy W' v.ownBlock :=
  let ⟨a', c', W', h1, h2, h3, _⟩ := pushSeAny h ys (by simpa using hm) ty a k src hbase
  ⟨a', c', W', h1, h2, h3⟩
end Go.Proofs.Ytiidlcjjaglkdaa