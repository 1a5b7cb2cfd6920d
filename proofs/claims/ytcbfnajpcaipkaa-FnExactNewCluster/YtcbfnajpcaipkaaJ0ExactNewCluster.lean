/- Mem; NumRow; Plain; In; Sets: joined. -/
import Derived.WalkKit
import Derived.WalkSpells
import Derived.WalkLawsBesides
import Derived.Below
import Derived.RegionTactic
import Derived.Test.YtcbfnajpcaipkaaRows
import Derived.BigQuiet
import Derived.Deep.QuietTactic
namespace Go.Proofs.Ytcbfnajpcaipkaa
open Go.RowKit
def Room (w : World) (b m : Nat) : Prop := ∀ j, j < m → ∃ v, w.cell? ⟨b, j, none⟩ = some v ∧ w.frozen? ⟨b, j, none⟩ = false
theorem Room.below {w w' : World} {B b m : Nat} (h : Room w b m) (hb : Below B w w') (hB : b < B) : Room w' b m := fun j hj => by
  obtain ⟨v, h1, h2⟩ := h j hj
  exact ⟨v, by rw [hb.cell hB]; exact h1, by rw [hb.frozen hB]; exact h2⟩
theorem cell_set_same {w : World} {b o : Nat} {v v' : Value} (h : w.cell? ⟨b, o, none⟩ = some v) : (w.setCell ⟨b, o, none⟩ v').cell? ⟨b, o, none⟩ = some v' := World.cell?_setCell_same' _ _ _ (by rw [h]; rfl)
theorem cell_set_other {w : World} {b o o' : Nat} {v' : Value} (h : o' ≠ o) : (w.setCell ⟨b, o, none⟩ v').cell? ⟨b, o', none⟩ = w.cell? ⟨b, o', none⟩ := World.cell?_setCell_other _ _ _ _ (fun e => h (by cases e; rfl))
theorem Room.set {w : World} {b m o : Nat} (h : Room w b m) (v : Value) : Room (w.setCell ⟨b, o, none⟩ v) b m := fun j hj => by
  obtain ⟨u, h1, h2⟩ := h j hj
  refine ⟨if j = o then v else u, ?_, by rw [World.frozen?_setCell]; exact h2⟩
  by_cases e : j = o
  · subst e; simp [cell_set_same h1]
  · simp [e, cell_set_other e, h1]
theorem cell_set_far {w : World} {p : Addr} {b o : Nat} (hp : p.block ≠ b) (v : Value) : (w.setCell p v).cell? ⟨b, o, none⟩ = w.cell? ⟨b, o, none⟩ := World.cell?_setCell_other _ _ _ _ (fun e => hp (by rw [e]))
theorem room_made (w : World) (z : Array Value) (m : Nat) (t : TypeId) : Room (w.alloc (.cells (madeCells z m) t)) w.heap.size m := fun j hj => by
  have hz : j < (madeCells z m).size := by rw [size_madeCells]; exact hj
  exact ⟨(madeCells z m)[j], by rw [World.cell?_alloc_new]; exact Array.getElem?_eq_getElem hz, by simp⟩
structure OnlyBlock (c : Nat) (w w' : World) : Prop where
  os : w'.os = w.os
  tape : w'.tape = w.tape
  output : w'.output = w.output
  size : w'.heap.size = w.heap.size
  block : ∀ k, k ≠ c → w'.heap[k]? = w.heap[k]?
theorem OnlyBlock.refl (c : Nat) (w : World) : OnlyBlock c w w := ⟨rfl, rfl, rfl, rfl, fun _ _ => rfl⟩
theorem OnlyBlock.setCell {c : Nat} {a w : World} (h : OnlyBlock c a w) (o : Nat) (u : Value) : OnlyBlock c a (w.setCell ⟨c, o, none⟩ u) :=
  ⟨h.os, h.tape, h.output, by simpa [World.setCell] using h.size, fun k hk => (Below.heap_setCell _ _ _ _ hk).trans (h.block k hk)⟩
theorem OnlyBlock.below {c B : Nat} {w w' : World} (h : OnlyBlock c w w') (hB : B ≤ c) : Below B w w' := ⟨h.os, h.tape, h.output, Nat.le_of_eq h.size.symm, fun k hk => h.block k (by omega)⟩
theorem Room.alloc {w : World} {b m : Nat} (h : Room w b m) (hb : b < w.heap.size) (o : Obj) : Room (w.alloc o) b m := h.below ((Below.refl w.heap.size w).alloc (Nat.le_refl _) o) hb
structure Turned (c : Nat) (w w' : World) : Prop where
  os : w'.os = w.os
  tape : w'.tape = w.tape
  output : w'.output = w.output
  size : w.heap.size ≤ w'.heap.size
  block : ∀ k, k < w.heap.size → k ≠ c → w'.heap[k]? = w.heap[k]?
theorem Turned.refl (c : Nat) (w : World) : Turned c w w := ⟨rfl, rfl, rfl, Nat.le_refl _, fun _ _ _ => rfl⟩
theorem Turned.trans {c : Nat} {a b d : World} (h : Turned c a b) (k : Turned c b d) : Turned c a d :=
  ⟨k.os.trans h.os, k.tape.trans h.tape, k.output.trans h.output, Nat.le_trans h.size k.size, fun i hi hc => (k.block i (Nat.lt_of_lt_of_le hi h.size) hc).trans (h.block i hi hc)⟩
theorem Turned.drew {c : Nat} {a w : World} (h : Turned c a w) : Turned c a w.drew := ⟨h.os, h.tape, h.output, h.size, h.block⟩
theorem Turned.drewN {c : Nat} {a w : World} (h : Turned c a w) (n : Nat) : Turned c a (w.drewN n) := ⟨h.os, h.tape, h.output, h.size, h.block⟩
theorem Turned.alloc {c : Nat} {a w : World} (h : Turned c a w) (o : Obj) : Turned c a (w.alloc o) :=
  h.trans ⟨rfl, rfl, rfl, by simp, fun k hk _ => Below.heap_alloc _ _ _ hk⟩
theorem Turned.setCell {c : Nat} {a w : World} (h : Turned c a w) (o : Nat) (u : Value) : Turned c a (w.setCell ⟨c, o, none⟩ u) :=
  h.trans ⟨rfl, rfl, rfl, by simp [World.setCell], fun k _ hc => Below.heap_setCell _ _ _ _ hc⟩
theorem Turned.below {c B : Nat} {w w' : World} (h : Turned c w w') (hB : B ≤ c) (hs : B ≤ w.heap.size) : Below B w w' :=
  ⟨h.os, h.tape, h.output, h.size, fun k hk => h.block k (by omega) (by omega)⟩
theorem Turned.cell {c : Nat} {w w' : World} (h : Turned c w w') {p : Addr} (hp : p.block < w.heap.size) (hc : p.block ≠ c) : w'.cell? p = w.cell? p := World.cell?_of_block (w := w) (h.block p.block hp hc)
theorem Turned.frozen {c : Nat} {w w' : World} (h : Turned c w w') {p : Addr} (hp : p.block < w.heap.size) (hc : p.block ≠ c) : w'.frozen? p = w.frozen? p := World.frozen?_of_block (w := w) (h.block p.block hp hc)
theorem Turned.of_below {c : Nat} {a w w' : World} (h : Turned c a w) (hb : Below w.heap.size w w') : Turned c a w' :=
  ⟨hb.os.trans h.os, hb.tape.trans h.tape, hb.output.trans h.output, Nat.le_trans h.size hb.size, fun k hk hc => (hb.block k (Nat.lt_of_lt_of_le hk h.size)).trans (h.block k hk hc)⟩
theorem Turned.grown {c : Nat} {a w w' : World} {row : Option Nat} (h : Turned c a w) (hg : w.grownBy w' row) (hr : ∀ q, row = some q → a.heap.size ≤ q) : Turned c a w' :=
  ⟨hg.os.trans h.os, hg.tape.trans h.tape, hg.output.trans h.output, Nat.le_trans h.size hg.size, fun k hk hc => (hg.block k (Nat.lt_of_lt_of_le hk h.size) (fun e => by have := hr k e.symm; omega)).trans (h.block k hk hc)⟩
theorem append_known {P : Program} (w : World) {ops : Array Oper} {rest : List Oper} {o : Oper} {a : Act} {Q : Exit → Act → World → Prop} (hg : o.guard = none) (s x : Operand) (t : TypeId)
    (hop : o.op = Op.call { callee := Callee.builtin Builtin.append, args := #[s, x], argTypes := #[t, t] }) (v u v' : Value) (w' : World) (hs : a.eval s = v) (hx : a.eval x = u)
    (hr : (Builtin.append_ #[t, t] o.type #[v, u]).run P w = .ok v' w') (h : wpList P ops Q rest (a.put o.dst v') w') : wpList P ops Q (o :: rest) a w := by
  refine wpList_plain hg fun K hK => ?_
  unfold Oper.wp
  simp [execOp, hop, resolve, invoke, builtin, hs, hx, hr, Result.andThen]
  exact hK _ _ h
theorem step_known {P : Program} (w : World) {ops : Array Oper} {o : Oper} {a : Act} {K : Act → World → Prop} {Q : Exit → Act → World → Prop} {E : Prop} (hgd : o.guard = none) (s x : Operand) (t : TypeId)
    (hop : o.op = Op.call { callee := Callee.builtin Builtin.append, args := #[s, x], argTypes := #[t, t] }) (v u v' : Value) (w' : World) (hs : a.eval s = v) (hx : a.eval x = u)
    (hr : (Builtin.append_ #[t, t] o.type #[v, u]).run P w = .ok v' w') (h : K (a.put o.dst v') w') :
    if Region.wanted o (yielded ops a.tmps) = true then Oper.wp P o a w K Q else E := by
  have hw : Region.wanted o (yielded ops a.tmps) = true := by simp [Region.wanted, hgd]
  rw [if_pos hw]
  unfold Oper.wp
  simp [execOp, hop, resolve, invoke, builtin, hs, hx, hr, Result.andThen]
  exact h
theorem below_dn {B : Nat} {a w : World} (h : Below B a w) (n : Nat) : Below B a (w.drewN n) := ⟨h.os, h.tape, h.output, h.size, h.block⟩
def NumsAt (w : World) (b off : Nat) (zs : List Int) : Prop := ∀ i z, zs[i]? = some z → w.cell? ⟨b, off + i, none⟩ = some (.int .i64 z)
theorem NumsAt.below {w w' : World} {B b off : Nat} {zs : List Int} (h : NumsAt w b off zs) (hb : Below B w w') (hB : b < B) : NumsAt w' b off zs := fun i z e => by rw [hb.cell (p := ⟨b, off + i, none⟩) hB]; exact h i z e
def SlN (w : World) (B : Nat) (a : Option Addr) (n : Nat) (zs : List Int) : Prop := zs.length = n ∧ (n = 0 ∨ ∃ b off, a = some ⟨b, off, none⟩ ∧ b < B ∧ NumsAt w b off zs)
theorem SlN.later {w w' : World} {a : Option Addr} {n : Nat} {zs : List Int} (h : SlN w w.heap.size a n zs) (hb : Below w.heap.size w w') : SlN w' w'.heap.size a n zs := by
  obtain ⟨h1, h2⟩ := h
  refine ⟨h1, ?_⟩
  rcases h2 with h2 | ⟨b, off, ha, hB, hx⟩
  · exact .inl h2
  · exact .inr ⟨b, off, ha, Nat.lt_of_lt_of_le hB hb.size, hx.below hb hB⟩
def atN (zs : List Int) (i : Nat) : Int := zs[i]?.getD 0
theorem atN_of {zs : List Int} {i : Nat} (h : i < zs.length) : zs[i]? = some (atN zs i) := by simp [atN, List.getElem?_eq_getElem h]
def hasB (zs : List Int) (z : Int) : Bool := zs.any (fun y => decide (y = z))
set_option maxHeartbeats 1000000 in
theorem make_nums (n : Nat) (hn : n ≤ 1048576) (w : World) : (Instr.makeSlice 59 (.int .i64 (n : Int)) (.int .i64 (n : Int))).run Try.prog w = .ok (.slice (some ⟨w.heap.size, 0, none⟩) n n) (w.alloc (.cells (madeCells #[.int .i64 0] n) 2)) := by
  have info : (Try.prog.info? 2).map (fun i => (i.zero, i.size, i.bytes)) = some (some (.int .i64 0), 1, 8) := by kernel_rfl
  obtain ⟨i, hi, hzz⟩ := Option.map_eq_some_iff.1 info
  simp only [Prod.mk.injEq] at hzz
  obtain ⟨hz, hs, hb⟩ := hzz
  have := run_make (P := Try.prog) w 59 2 i _ Try.underlying59 hi hz .i64 .i64 (n : Int) (n : Int) (by omega) (by omega) (by rw [hb]; omega) (by omega)
  rw [hs] at this
  simpa [Value.cells] using this
theorem NumsAt.put {w : World} {b k : Nat} {zs : List Int} {z : Int} (h : NumsAt w b 0 (zs.take k)) (hz : zs[k]? = some z) {v : Value} (hv : w.cell? ⟨b, k, none⟩ = some v) : NumsAt (w.setCell ⟨b, k, none⟩ (.int .i64 z)) b 0 (zs.take (k + 1)) := by
  intro i t e
  rw [List.getElem?_take] at e
  split at e
  · rename_i hi
    by_cases hik : i = k
    · subst hik
      rw [hz] at e
      obtain rfl := Option.some.inj e
      simpa using cell_set_same hv
    · have := h i t (by rw [List.getElem?_take, if_pos (by omega)]; exact e)
      rw [cell_set_other (by omega)]; exact this
  · cases e
set_option maxHeartbeats 1000000 in
theorem toInt64S_any (w : World) (a : Option Addr) (n cap : Nat) (zs : List Int) (hn : n ≤ 1048576) (hs : SlN w w.heap.size a n zs) : Calls Try.prog 82 #[.slice a n cap] w fun e w' =>
    e = .returned (.slice (some ⟨w.heap.size, 0, none⟩) n n) ∧ Below w.heap.size w w' ∧ w.heap.size < w'.heap.size ∧ NumsAt w' w.heap.size 0 zs ∧ Room w' w.heap.size n := by
  obtain ⟨hx, hs⟩ := hs
  have hmk := make_nums n hn
  go_enter Try.func82, Try.ntmps82
  go_wp2
  go_loopw [4] (fun i wr => ∃ k : Nat, k ≤ n ∧ i = .int .i64 k ∧ Below w.heap.size w wr ∧ w.heap.size < wr.heap.size ∧ Room wr w.heap.size n ∧ NumsAt wr w.heap.size 0 (zs.take k)) (fun i _ => n - (intOf i).toNat)
  case atStart => exact ⟨0, Nat.zero_le _, rfl, (Below.refl _ _).alloc (Nat.le_refl _) _, by simp, room_made _ _ _ _, fun i s e => by simp at e⟩
  case round =>
    obtain ⟨k, hk, rfl, hbl, hsz, hro, hdo⟩ := hrel
    by_cases hlt : k < n
    · rcases hs with hs | ⟨b, off, rfl, hb, h1⟩
      · omega
      · have c := (hbl.cell (p := ⟨b, off + k, none⟩) hb).trans (h1 k _ (atN_of (by omega)))
        obtain ⟨v, d, f⟩ := hro k hlt
        have K : Hid (Room wr w.heap.size n ∧ NumsAt wr w.heap.size 0 (zs.take k) ∧ zs[k]? = some (atN zs k) ∧ Below w.heap.size w wr) := ⟨hro, hdo, atN_of (by omega), hbl⟩
        clear hro hdo hbl hmk h1 hx
        go_wp2
        obtain ⟨hro, hdo, hz, hbl⟩ := K.out
        exact ⟨⟨k + 1, by omega, by simp, hbl.setCell (p := ⟨w.heap.size, k, none⟩) (Nat.le_refl _) _, by simpa [World.setCell] using hsz, hro.set _, hdo.put hz d⟩, by simp [intOf]; omega⟩
    · have : k = n := by omega
      subst this
      have hd : decide (k < k) = false := by simp
      rw [← hx, List.take_length] at hdo
      have K : Hid (NumsAt wr w.heap.size 0 zs ∧ Room wr w.heap.size k) := ⟨hdo, hro⟩
      clear hdo hs hro
      go_wp2
      go_ret
      exact ⟨rfl, hbl, hsz, K.out.1, K.out.2⟩
set_option maxHeartbeats 1000000 in
theorem eqInt64S_any (w : World) (a a' : Option Addr) (n cap cap' : Nat) (zs : List Int) (hn : n ≤ maxLen) (h1 : SlN w w.heap.size a n zs) (h2 : SlN w w.heap.size a' n zs) :
    Calls Try.prog 85 #[.slice a n cap, .slice a' n cap'] w fun e w' => e = .returned (.bool true) ∧ Below w.heap.size w w' := by
  unfold maxLen at hn
  obtain ⟨hx, h1⟩ := h1
  obtain ⟨_, h2⟩ := h2
  go_enter Try.func85, Try.ntmps85
  go_wp2
  go_loopw [5] (fun i wr => ∃ k : Nat, k ≤ n ∧ i = .int .i64 k ∧ Below w.heap.size w wr) (fun i _ => n - (intOf i).toNat)
  case atStart => exact ⟨0, Nat.zero_le _, rfl, Below.refl _ _⟩
  case round =>
    obtain ⟨k, hk, rfl, hbl⟩ := hrel
    by_cases hlt : k < n
    · rcases h1 with h1 | ⟨b, off, rfl, hb, h1⟩
      · omega
      · rcases h2 with h2 | ⟨b', off', rfl, hb', h2⟩
        · omega
        · have c1 := (hbl.cell (p := ⟨b, off + k, none⟩) hb).trans (h1 k _ (atN_of (by omega)))
          have c2 := (hbl.cell (p := ⟨b', off' + k, none⟩) hb').trans (h2 k _ (atN_of (by omega)))
          have hlt' : (k : Int) < (n : Int) := by omega
          have K : Hid (Below w.heap.size w wr) := hbl
          clear h1 h2 hbl hx
          go_wp2_with fail
          go_quiet (fail)
          go_wp2
          exact ⟨⟨k + 1, by omega, by simp, below_dn K.out _⟩, by simp [intOf]; omega⟩
    · have : k = n := by omega
      subst this
      have hd : decide (k < k) = false := by simp
      clear h1 h2
      go_wp2
      go_ret
      exact ⟨rfl, hbl⟩
end Go.Proofs.Ytcbfnajpcaipkaa
namespace Go.Proofs.Ytcbfnajpcaipkaa
def usedB (h : Int) : Bool := decide (h / 2 % 2 = 1)
def lockedB (h : Int) : Bool := decide (h % 2 = 1)
def bump (u l : Bool) : Int := (if u then 2 else 0) + (if l then 1 else 0)
end Go.Proofs.Ytcbfnajpcaipkaa
namespace Go.Proofs.Ytcbfnajpcaipkaa
open Go.RowKit
def inB (lo hi x : Int) : Bool := decide (lo ≤ x) && decide (x ≤ hi)
theorem inB_yes {lo hi x : Int} (h : lo ≤ x) (h' : x ≤ hi) : inB lo hi x = true := by simp [inB, h, h']
theorem inB_iff {lo hi x : Int} : inB lo hi x = true ↔ lo ≤ x ∧ x ≤ hi := by simp [inB]
theorem ret_bool {b b' : Bool} (h : b = true ↔ b' = true) : Ending.returned (Value.bool b) = Ending.returned (Value.bool b') := by rw [Bool.eq_iff_iff.2 h]
theorem specIn (w : World) (x lo hi : Int) : Calls Try.prog 47 #[.int .i64 x, .int .i64 lo, .int .i64 hi] w fun e w' => e = .returned (.bool (inB lo hi x)) ∧ w' = w := by
  go_enter Try.func47, Try.ntmps47
  go_wp2
  all_goals (go_ret; refine ⟨ret_bool ?_, rfl⟩; simp [inB_iff]; try omega)
structure S5 where
  region : Int
  slot : Int
  value : Int
  used : Bool
  version : Int
def setOkB (s : S5) : Bool := inB 0 5 s.region && inB 0 5 s.slot && inB (-1000000000) 1000000000 s.value && inB 0 999999 s.version
set_option maxHeartbeats 1000000 in
theorem toSet_any (w : World) (s : S5) : Calls Try.prog 93 #[.agg #[.int .i64 s.region, .int .i64 s.slot, .int .i64 s.value, .bool s.used, .int .i64 s.version]] w fun e w' =>
    e = .returned (.agg #[.int .i64 s.region, .int .i64 s.slot, .int .i64 s.value, .bool s.used, .int .i64 s.version]) ∧ Below w.heap.size w w' := by
  obtain ⟨r, l, v, u, x⟩ := s
  go_enter Try.func93, Try.ntmps93
  go_wp2
  refine bodyPost_ret (v := .agg #[.int .i64 r, .int .i64 l, .int .i64 v, .bool u, .int .i64 x]) (by simp [results, Try.results93, go_sem]) rfl ⟨rfl, ?_⟩
  exact (((Below.refl _ _).alloc (Nat.le_refl _) _).alloc (by simp) _).alloc (by simp; omega) _
end Go.Proofs.Ytcbfnajpcaipkaa