/- Mem; BoxG; KdG; In; Sets; Recs; Cells; NumRow; NumMark; Pls; MacD; OwnG; MacTo1; MacTo2; MacTo3; MacTo4: joined. -/
import Derived.WalkKit
import Derived.WalkSpells
import Derived.WalkLawsBesides
import Derived.Below
import Derived.RegionTactic
import Derived.Test.YtnhjgomfkfehgaaGreatDoorRows
import Derived.Lib.QuietBelow
import Derived.BigQuiet
import Derived.Deep.Heap
import Derived.Deep.AppendLies
import Derived.Deep.QuietTactic
namespace Go.Proofs.YtnhjgomfkfehgaaGreatDoor
open Go.RowKit
def Room (w : World) (b m : Nat) : Prop := ∀ j, j < m → ∃ v, w.cell? ⟨b, j, none⟩ = some v ∧ w.frozen? ⟨b, j, none⟩ = false
theorem Room.below {w w' : World} {B b m : Nat} (h : Room w b m) (hb : Below B w w') (hB : b < B) : Room w' b m := fun j hj => by
  obtain ⟨v, h1, h2⟩ := h j hj
  exact ⟨v, by rw [hb.cell hB]; exact h1, by rw [hb.frozen hB]; exact h2⟩
theorem cell_set_same {w : World} {b o : Nat} {v v' : Value} (h : w.cell? ⟨b, o, none⟩ = some v) : (w.setCell ⟨b, o, none⟩ v').cell? ⟨b, o, none⟩ = some v' := World.cell?_setCell_same' _ _ _ (by rw [h]; rfl)
theorem cell_set_other {w : World} {b o o' : Nat} {v' : Value} (h : o' ≠ o) : (w.setCell ⟨b, o, none⟩ v').cell? ⟨b, o', none⟩ = w.cell? ⟨b, o', none⟩ := World.cell?_setCell_other _ _ _ _ (fun e => h (by cases e; rfl))
theorem Room.set {w : World} {b m o : Nat} (h : Room w b m) (v : Value) : Room (w.setCell ⟨b, o, none⟩ v) b m := fun j hj => by
  obtain ⟨u, h1, h2⟩ := h j hj
  refine ⟨if j = o then v else u, ?_, by rw [World.frozen?_setCell]; exact h2⟩
  by_cases e : j = o
  · subst e; simp [cell_set_same h1]
  · simp [e, cell_set_other e, h1]
theorem cell_set_far {w : World} {p : Addr} {b o : Nat} (hp : p.block ≠ b) (v : Value) : (w.setCell p v).cell? ⟨b, o, none⟩ = w.cell? ⟨b, o, none⟩ := World.cell?_setCell_other _ _ _ _ (fun e => hp (by rw [e]))
theorem room_made (w : World) (z : Array Value) (m : Nat) (t : TypeId) : Room (w.alloc (.cells (madeCells z m) t)) w.heap.size m := fun j hj => by
  have hz : j < (madeCells z m).size := by rw [size_madeCells]; exact hj
  exact ⟨(madeCells z m)[j], by rw [World.cell?_alloc_new]; exact Array.getElem?_eq_getElem hz, by simp⟩
structure OnlyBlock (c : Nat) (w w' : World) : Prop where
  os : w'.os = w.os
  tape : w'.tape = w.tape
  output : w'.output = w.output
  size : w'.heap.size = w.heap.size
  block : ∀ k, k ≠ c → w'.heap[k]? = w.heap[k]?
theorem OnlyBlock.refl (c : Nat) (w : World) : OnlyBlock c w w := ⟨rfl, rfl, rfl, rfl, fun _ _ => rfl⟩
theorem OnlyBlock.setCell {c : Nat} {a w : World} (h : OnlyBlock c a w) (o : Nat) (u : Value) : OnlyBlock c a (w.setCell ⟨c, o, none⟩ u) :=
  ⟨h.os, h.tape, h.output, by simpa [World.setCell] using h.size, fun k hk => (Below.heap_setCell _ _ _ _ hk).trans (h.block k hk)⟩
theorem OnlyBlock.below {c B : Nat} {w w' : World} (h : OnlyBlock c w w') (hB : B ≤ c) : Below B w w' := ⟨h.os, h.tape, h.output, Nat.le_of_eq h.size.symm, fun k hk => h.block k (by omega)⟩
theorem Room.alloc {w : World} {b m : Nat} (h : Room w b m) (hb : b < w.heap.size) (o : Obj) : Room (w.alloc o) b m := h.below ((Below.refl w.heap.size w).alloc (Nat.le_refl _) o) hb
structure Turned (c : Nat) (w w' : World) : Prop where
  os : w'.os = w.os
  tape : w'.tape = w.tape
  output : w'.output = w.output
  size : w.heap.size ≤ w'.heap.size
  block : ∀ k, k < w.heap.size → k ≠ c → w'.heap[k]? = w.heap[k]?
theorem Turned.refl (c : Nat) (w : World) : Turned c w w := ⟨rfl, rfl, rfl, Nat.le_refl _, fun _ _ _ => rfl⟩
theorem Turned.trans {c : Nat} {a b d : World} (h : Turned c a b) (k : Turned c b d) : Turned c a d :=
  ⟨k.os.trans h.os, k.tape.trans h.tape, k.output.trans h.output, Nat.le_trans h.size k.size, fun i hi hc => (k.block i (Nat.lt_of_lt_of_le hi h.size) hc).trans (h.block i hi hc)⟩
theorem Turned.drew {c : Nat} {a w : World} (h : Turned c a w) : Turned c a w.drew := ⟨h.os, h.tape, h.output, h.size, h.block⟩
theorem Turned.drewN {c : Nat} {a w : World} (h : Turned c a w) (n : Nat) : Turned c a (w.drewN n) := ⟨h.os, h.tape, h.output, h.size, h.block⟩
theorem Turned.alloc {c : Nat} {a w : World} (h : Turned c a w) (o : Obj) : Turned c a (w.alloc o) :=
  h.trans ⟨rfl, rfl, rfl, by simp, fun k hk _ => Below.heap_alloc _ _ _ hk⟩
theorem Turned.setCell {c : Nat} {a w : World} (h : Turned c a w) (o : Nat) (u : Value) : Turned c a (w.setCell ⟨c, o, none⟩ u) :=
  h.trans ⟨rfl, rfl, rfl, by simp [World.setCell], fun k _ hc => Below.heap_setCell _ _ _ _ hc⟩
theorem Turned.below {c B : Nat} {w w' : World} (h : Turned c w w') (hB : B ≤ c) (hs : B ≤ w.heap.size) : Below B w w' :=
  ⟨h.os, h.tape, h.output, h.size, fun k hk => h.block k (by omega) (by omega)⟩
theorem Turned.cell {c : Nat} {w w' : World} (h : Turned c w w') {p : Addr} (hp : p.block < w.heap.size) (hc : p.block ≠ c) : w'.cell? p = w.cell? p := World.cell?_of_block (w := w) (h.block p.block hp hc)
theorem Turned.frozen {c : Nat} {w w' : World} (h : Turned c w w') {p : Addr} (hp : p.block < w.heap.size) (hc : p.block ≠ c) : w'.frozen? p = w.frozen? p := World.frozen?_of_block (w := w) (h.block p.block hp hc)
theorem Turned.of_below {c : Nat} {a w w' : World} (h : Turned c a w) (hb : Below w.heap.size w w') : Turned c a w' :=
  ⟨hb.os.trans h.os, hb.tape.trans h.tape, hb.output.trans h.output, Nat.le_trans h.size hb.size, fun k hk hc => (hb.block k (Nat.lt_of_lt_of_le hk h.size)).trans (h.block k hk hc)⟩
theorem Turned.grown {c : Nat} {a w w' : World} {row : Option Nat} (h : Turned c a w) (hg : w.grownBy w' row) (hr : ∀ q, row = some q → a.heap.size ≤ q) : Turned c a w' :=
  ⟨hg.os.trans h.os, hg.tape.trans h.tape, hg.output.trans h.output, Nat.le_trans h.size hg.size, fun k hk hc => (hg.block k (Nat.lt_of_lt_of_le hk h.size) (fun e => by have := hr k e.symm; omega)).trans (h.block k hk hc)⟩
theorem append_known {P : Program} (w : World) {ops : Array Oper} {rest : List Oper} {o : Oper} {a : Act} {Q : Exit → Act → World → Prop} (hg : o.guard = none) (s x : Operand) (t : TypeId)
    (hop : o.op = Op.call { callee := Callee.builtin Builtin.append, args := #[s, x], argTypes := #[t, t] }) (v u v' : Value) (w' : World) (hs : a.eval s = v) (hx : a.eval x = u)
    (hr : (Builtin.append_ #[t, t] o.type #[v, u]).run P w = .ok v' w') (h : wpList P ops Q rest (a.put o.dst v') w') : wpList P ops Q (o :: rest) a w := by
  refine wpList_plain hg fun K hK => ?_
  unfold Oper.wp
  simp [execOp, hop, resolve, invoke, builtin, hs, hx, hr, Result.andThen]
  exact hK _ _ h
theorem step_known {P : Program} (w : World) {ops : Array Oper} {o : Oper} {a : Act} {K : Act → World → Prop} {Q : Exit → Act → World → Prop} {E : Prop} (hgd : o.guard = none) (s x : Operand) (t : TypeId)
    (hop : o.op = Op.call { callee := Callee.builtin Builtin.append, args := #[s, x], argTypes := #[t, t] }) (v u v' : Value) (w' : World) (hs : a.eval s = v) (hx : a.eval x = u)
    (hr : (Builtin.append_ #[t, t] o.type #[v, u]).run P w = .ok v' w') (h : K (a.put o.dst v') w') :
    if Region.wanted o (yielded ops a.tmps) = true then Oper.wp P o a w K Q else E := by
  have hw : Region.wanted o (yielded ops a.tmps) = true := by simp [Region.wanted, hgd]
  rw [if_pos hw]
  unfold Oper.wp
  simp [execOp, hop, resolve, invoke, builtin, hs, hx, hr, Result.andThen]
  exact h
theorem bstep {A X Y : World} (h : Below A.heap.size A X) (b : Below X.heap.size X Y) : Below A.heap.size A Y := h.trans (b.mono h.size)
def Bx (X : World) (s : Nat) (cs : List Value) : Prop := (∀ j u, cs[j]? = some u → X.cell? ⟨s, j, none⟩ = some u) ∧ (∀ j, X.frozen? ⟨s, j, none⟩ = false) ∧ s < X.heap.size
theorem Bx.of_block {X Y : World} {s : Nat} {cs : List Value} (h : Bx X s cs) (hb : Y.heap[s]? = X.heap[s]?) (hs : X.heap.size ≤ Y.heap.size) : Bx Y s cs :=
  ⟨fun j u e => (World.cell?_of_block (a := ⟨s, j, none⟩) hb).trans (h.1 j u e), fun j => (World.frozen?_of_block (a := ⟨s, j, none⟩) hb).trans (h.2.1 j), Nat.lt_of_lt_of_le h.2.2 hs⟩
theorem Bx.later {X Y : World} {s : Nat} {cs : List Value} (h : Bx X s cs) (hb : Below X.heap.size X Y) : Bx Y s cs := h.of_block (hb.block _ h.2.2) hb.size
theorem Bx.under {X Y : World} {B s : Nat} {cs : List Value} (h : Bx X s cs) (hb : Below B X Y) (hs : s < B) : Bx Y s cs := h.of_block (hb.block _ hs) hb.size
theorem Bx.far {X : World} {s b o : Nat} {cs : List Value} (h : Bx X s cs) (hb : s ≠ b) (u : Value) : Bx (X.setCell ⟨b, o, none⟩ u) s cs := h.of_block (Below.heap_setCell _ _ _ _ hb) (by simp [World.setCell])
theorem Bx.set {X : World} {s i : Nat} {cs : List Value} (h : Bx X s cs) (hi : i < cs.length) (u : Value) : Bx (X.setCell ⟨s, i, none⟩ u) s (cs.set i u) := by
  refine ⟨fun j v e => ?_, fun j => by rw [World.frozen?_setCell]; exact h.2.1 j, by simpa [World.setCell] using h.2.2⟩
  by_cases hj : i = j
  · subst hj
    rw [List.getElem?_set_self hi] at e
    obtain rfl := Option.some.inj e
    exact cell_set_same (h.1 i _ (List.getElem?_eq_getElem hi))
  · rw [List.getElem?_set_ne hj] at e
    exact (cell_set_other (by omega)).trans (h.1 j v e)
def putB (X : World) (s : Nat) : Nat → List Value → World
  | _, [] => X
  | i, c :: cs => putB (X.setCell ⟨s, i, none⟩ c) s (i + 1) cs
theorem putB_size (s : Nat) (cs : List Value) : ∀ (X : World) (i : Nat), (putB X s i cs).heap.size = X.heap.size := by
  induction cs with
  | nil => intro X i; rfl
  | cons c cs ih => intro X i; rw [putB, ih]; simp [World.setCell]
theorem putB_block {s q : Nat} (hq : q ≠ s) (cs : List Value) : ∀ (X : World) (i : Nat), (putB X s i cs).heap[q]? = X.heap[q]? := by
  induction cs with
  | nil => intro X i; rfl
  | cons c cs ih => intro X i; rw [putB, ih]; exact Below.heap_setCell _ _ _ _ hq
theorem putB_below {B s : Nat} {w : World} (hs : B ≤ s) (cs : List Value) : ∀ (X : World) (i : Nat), Below B w X → Below B w (putB X s i cs) := by
  induction cs with
  | nil => intro X i h; exact h
  | cons c cs ih => intro X i h; exact ih _ _ (h.setCell (p := ⟨s, i, none⟩) hs _)
theorem putB_frozen {s q j : Nat} (cs : List Value) : ∀ (X : World) (i : Nat), (putB X s i cs).frozen? ⟨q, j, none⟩ = X.frozen? ⟨q, j, none⟩ := by
  induction cs with
  | nil => intro X i; rfl
  | cons c cs ih => intro X i; rw [putB, ih, World.frozen?_setCell]
theorem putB_low {s j : Nat} (cs : List Value) : ∀ (X : World) (i : Nat), j < i → (putB X s i cs).cell? ⟨s, j, none⟩ = X.cell? ⟨s, j, none⟩ := by
  induction cs with
  | nil => intro X i _; rfl
  | cons c cs ih => intro X i h; rw [putB, ih _ _ (by omega)]; exact cell_set_other (by omega)
theorem putB_cell {s : Nat} (cs : List Value) : ∀ (X : World) (i : Nat), (∀ j, i ≤ j → j < i + cs.length → ∃ v, X.cell? ⟨s, j, none⟩ = some v) → ∀ j u, cs[j]? = some u → (putB X s i cs).cell? ⟨s, i + j, none⟩ = some u := by
  induction cs with
  | nil => intro X i _ j u e; simp at e
  | cons c cs ih =>
    intro X i h j u e
    rw [putB]
    rcases j with _ | j
    · simp at e
      subst e
      obtain ⟨v, hv⟩ := h i (Nat.le_refl _) (by simp)
      rw [Nat.add_zero, putB_low _ _ _ (by omega)]
      exact cell_set_same hv
    · have := ih (X.setCell ⟨s, i, none⟩ c) (i + 1) (fun j h1 h2 => by
        obtain ⟨v, hv⟩ := h j (by omega) (by simp only [List.length_cons]; omega)
        exact ⟨v, (cell_set_other (by omega)).trans hv⟩) j u (by simpa using e)
      rwa [show i + 1 + j = i + (j + 1) by omega] at this
theorem Bx.put {X : World} {s : Nat} {cs0 : List Value} (h : Bx X s cs0) (cs : List Value) (hl : cs.length = cs0.length) : Bx (putB X s 0 cs) s cs := by
  refine ⟨fun j u e => ?_, fun j => by rw [putB_frozen]; exact h.2.1 j, by rw [putB_size]; exact h.2.2⟩
  have := putB_cell (s := s) cs X 0 (fun j _ h2 => ⟨_, h.1 j _ (List.getElem?_eq_getElem (by omega))⟩) j u e
  rwa [Nat.zero_add] at this
theorem Bx.made (X : World) (cs : List Value) (T : TypeId) : Bx (X.alloc (.cells cs.toArray T)) X.heap.size cs := ⟨fun j u e => by go_simp, fun j => by go_simp, by simp⟩
theorem room_blk {w w' : World} {b m : Nat} (h : Room w b m) (e : w'.heap[b]? = w.heap[b]?) : Room w' b m := fun j hj => by
  obtain ⟨v, h1, h2⟩ := h j hj
  exact ⟨v, (World.cell?_of_block (a := ⟨b, j, none⟩) e).trans h1, (World.frozen?_of_block (a := ⟨b, j, none⟩) e).trans h2⟩
def At (X : World) (b o : Nat) (cs : List Value) : Prop := ∀ j u, cs[j]? = some u → X.cell? ⟨b, o + j, none⟩ = some u
theorem At.of_block {X Y : World} {b o : Nat} {cs : List Value} (h : At X b o cs) (e : Y.heap[b]? = X.heap[b]?) : At Y b o cs := fun j u hu => (World.cell?_of_block (a := ⟨b, o + j, none⟩) e).trans (h j u hu)
structure Kd (D V : Type) where
  n : Nat
  cells : V → D → List Value
  len : ∀ v d, (cells v d).length = n
  Rd : World → V → D → Prop
  Ow : World → Nat → V → D → (Nat → Prop) → Prop
  later : ∀ {w w' : World} {v : V} {d : D}, Rd w v d → Below w.heap.size w w' → Rd w' v d
  sl : ∀ {w : World} {B : Nat} {v : V} {d : D} {P : Nat → Prop}, Ow w B v d P → Rd w v d
  of : ∀ {w : World} {B : Nat} {v : V} {d : D} {P : Nat → Prop} {q : Nat}, Ow w B v d P → P q → B ≤ q ∧ q < w.heap.size
  keep : ∀ {w w' : World} {B : Nat} {v : V} {d : D} {P : Nat → Prop}, Ow w B v d P → w.heap.size ≤ w'.heap.size → (∀ q, P q → w'.heap[q]? = w.heap[q]?) → Ow w' B v d P
  low : ∀ {w : World} {B B' : Nat} {v : V} {d : D} {P : Nat → Prop}, Ow w B v d P → B' ≤ B → Ow w B' v d P
def Kd.RdS {D V : Type} (K : Kd D V) (X : World) (a : Option Addr) (xs : List D) : Prop := xs = [] ∨ ∃ b off, a = some ⟨b, off, none⟩ ∧ b < X.heap.size ∧ ∀ i d, xs[i]? = some d → ∃ v, At X b (off + i * K.n) (K.cells v d) ∧ K.Rd X v d
theorem Kd.RdS.later {D V : Type} {K : Kd D V} {X Y : World} {a : Option Addr} {xs : List D} (h : K.RdS X a xs) (hb : Below X.heap.size X Y) : K.RdS Y a xs := by
  rcases h with h | ⟨b, off, e, hl, h⟩
  · exact .inl h
  · refine .inr ⟨b, off, e, Nat.lt_of_lt_of_le hl hb.size, fun i d hi => ?_⟩
    obtain ⟨v, h1, h2⟩ := h i d hi
    exact ⟨v, h1.of_block (hb.block b hl), K.later h2 hb⟩
structure Kd.Part {D V : Type} (K : Kd D V) (X : World) (B b n : Nat) (ys : List D) (g : Nat → Nat → Prop) : Prop where
  rm : Room X b (n * K.n)
  at_ : ∀ i d, ys[i]? = some d → ∃ v, At X b (i * K.n) (K.cells v d) ∧ K.Ow X B v d (g i)
  ne : ∀ i q, i < ys.length → g i q → q ≠ b
  ap : ∀ i j q, i < ys.length → j < ys.length → i ≠ j → g i q → ¬ g j q
theorem Kd.Part.gq {D V : Type} {K : Kd D V} {X : World} {B b n : Nat} {ys : List D} {g : Nat → Nat → Prop} (h : K.Part X B b n ys g) {i q : Nat} (hi : i < ys.length) (hq : g i q) : B ≤ q ∧ q < X.heap.size := by
  obtain ⟨v, _, ho⟩ := h.at_ i _ (List.getElem?_eq_getElem hi)
  exact K.of ho hq
theorem Kd.Part.keep {D V : Type} {K : Kd D V} {X Y : World} {B b n : Nat} {ys : List D} {g : Nat → Nat → Prop} (h : K.Part X B b n ys g) (hs : X.heap.size ≤ Y.heap.size) (hb : Y.heap[b]? = X.heap[b]?) (hk : ∀ i q, i < ys.length → g i q → Y.heap[q]? = X.heap[q]?) : K.Part Y B b n ys g := by
  refine ⟨room_blk h.rm hb, fun i d hi => ?_, h.ne, h.ap⟩
  obtain ⟨v, h1, h2⟩ := h.at_ i d hi
  exact ⟨v, h1.of_block hb, K.keep h2 hs (fun q hq => hk i q (List.getElem?_eq_some_iff.1 hi).1 hq)⟩
theorem Kd.Part.later {D V : Type} {K : Kd D V} {X Y : World} {B b n : Nat} {ys : List D} {g : Nat → Nat → Prop} (h : K.Part X B b n ys g) (hb : Below X.heap.size X Y) (hl : b < X.heap.size) : K.Part Y B b n ys g := h.keep hb.size (hb.block b hl) (fun _ q hi hq => hb.block q (h.gq hi hq).2)
theorem Kd.Part.nil {D V : Type} (K : Kd D V) {X : World} {B b n : Nat} (g : Nat → Nat → Prop) (h : Room X b (n * K.n)) : K.Part X B b n [] g := ⟨h, fun i d hi => by simp at hi, fun i q hi => by simp at hi, fun i j q hi => by simp at hi⟩
theorem putB_out {s j : Nat} (cs : List Value) : ∀ (X : World) (i : Nat), (j < i ∨ i + cs.length ≤ j) → (putB X s i cs).cell? ⟨s, j, none⟩ = X.cell? ⟨s, j, none⟩ := by
  induction cs with
  | nil => intro X i _; rfl
  | cons c cs ih => intro X i h; simp only [List.length_cons] at h; rw [putB, ih _ _ (by omega)]; exact cell_set_other (by omega)
theorem putB_room {b m : Nat} (cs : List Value) : ∀ (X : World) (i : Nat), Room X b m → Room (putB X b i cs) b m := by
  induction cs with
  | nil => intro X i h; exact h
  | cons c cs ih => intro X i h; exact ih _ _ (h.set _)
theorem Kd.Part.push {D V : Type} {K : Kd D V} {X : World} {B b n : Nat} {ys : List D} {g : Nat → Nat → Prop} (h : K.Part X B b n ys g) (hn : ys.length < n) (v : V) (d : D) (P : Nat → Prop) (ho : K.Ow X B v d P) (hne : ∀ q, P q → q ≠ b) (hap : ∀ i q, i < ys.length → g i q → ¬ P q) :
    K.Part (putB X b (ys.length * K.n) (K.cells v d)) B b n (ys ++ [d]) (fun i => if i = ys.length then P else g i) := by
  have hc : ys.length * K.n + K.n ≤ n * K.n := by rw [← Nat.succ_mul]; exact Nat.mul_le_mul_right _ hn
  have hs : (putB X b (ys.length * K.n) (K.cells v d)).heap.size = X.heap.size := putB_size _ _ _ _
  have hk : ∀ q, q ≠ b → (putB X b (ys.length * K.n) (K.cells v d)).heap[q]? = X.heap[q]? := fun q hq => putB_block hq _ _ _
  refine ⟨putB_room _ _ _ h.rm, fun i e hi => ?_, fun i q hi hq => ?_, fun i j q hi hj hij h1 h2 => ?_⟩
  · by_cases hl : i < ys.length
    · rw [List.getElem?_append_left hl] at hi
      obtain ⟨v', h1, h2⟩ := h.at_ i e hi
      have e0 : i ≠ ys.length := by omega
      refine ⟨v', fun j u hu => ?_, by simp only [if_neg e0]; exact K.keep h2 (Nat.le_of_eq hs.symm) (fun q hq => hk q (h.ne i q hl hq))⟩
      have hj : j < K.n := by have := (List.getElem?_eq_some_iff.1 hu).1; rwa [K.len] at this
      have hm : i * K.n + K.n ≤ ys.length * K.n := by rw [← Nat.succ_mul]; exact Nat.mul_le_mul_right _ hl
      exact (putB_out _ _ _ (by omega)).trans (h1 j u hu)
    · have he : i = ys.length := by
        have := (List.getElem?_eq_some_iff.1 hi).1
        simp at this; omega
      subst he
      rw [List.getElem?_append_right (Nat.le_refl _)] at hi
      simp at hi
      subst hi
      refine ⟨v, fun j u hu => ?_, by simp only [if_pos]; exact K.keep ho (Nat.le_of_eq hs.symm) (fun q hq => hk q (hne q hq))⟩
      refine putB_cell _ _ _ (fun j h1 h2 => ?_) j u hu
      rw [K.len] at h2
      obtain ⟨z, hz, _⟩ := h.rm j (by omega)
      exact ⟨z, hz⟩
  · by_cases e : i = ys.length
    · simp only [if_pos e] at hq; exact hne q hq
    · simp only [if_neg e] at hq; simp at hi; exact h.ne i q (by omega) hq
  · simp only [List.length_append, List.length_cons, List.length_nil] at hi hj
    by_cases e1 : i = ys.length
    · by_cases e2 : j = ys.length
      · omega
      · simp only [if_pos e1] at h1; simp only [if_neg e2] at h2; exact hap j q (by omega) h2 h1
    · by_cases e2 : j = ys.length
      · simp only [if_neg e1] at h1; simp only [if_pos e2] at h2; exact hap i q (by omega) h1 h2
      · simp only [if_neg e1] at h1; simp only [if_neg e2] at h2; exact h.ap i j q (by omega) (by omega) hij h1 h2
def Kd.OwS {D V : Type} (K : Kd D V) (X : World) (B : Nat) (a : Option Addr) (xs : List D) (P : Nat → Prop) : Prop := (xs = [] ∨ ∃ b g, a = some ⟨b, 0, none⟩ ∧ P b ∧ K.Part X B b xs.length xs g ∧ (∀ i q, i < xs.length → g i q → P q)) ∧ (∀ q, P q → B ≤ q ∧ q < X.heap.size)
theorem Kd.OwS.of {D V : Type} {K : Kd D V} {X : World} {B : Nat} {a : Option Addr} {xs : List D} {P : Nat → Prop} (h : K.OwS X B a xs P) {q : Nat} (hq : P q) : B ≤ q ∧ q < X.heap.size := h.2 q hq
theorem Kd.OwS.sl {D V : Type} {K : Kd D V} {X : World} {B : Nat} {a : Option Addr} {xs : List D} {P : Nat → Prop} (h : K.OwS X B a xs P) : K.RdS X a xs := by
  rcases h with ⟨h | ⟨b, g, e, hp, h, _⟩, hb⟩
  · exact .inl h
  · refine .inr ⟨b, 0, e, (hb b hp).2, fun i d hi => ?_⟩
    obtain ⟨v, h1, h2⟩ := h.at_ i d hi
    exact ⟨v, by rw [Nat.zero_add]; exact h1, K.sl h2⟩
theorem Kd.OwS.keep {D V : Type} {K : Kd D V} {X Y : World} {B : Nat} {a : Option Addr} {xs : List D} {P : Nat → Prop} (h : K.OwS X B a xs P) (hs : X.heap.size ≤ Y.heap.size) (hk : ∀ q, P q → Y.heap[q]? = X.heap[q]?) : K.OwS Y B a xs P := by
  rcases h with ⟨h | ⟨b, g, e, hp, h, hg⟩, hb⟩
  · exact ⟨.inl h, fun q hq => ⟨(hb q hq).1, Nat.lt_of_lt_of_le (hb q hq).2 hs⟩⟩
  · exact ⟨.inr ⟨b, g, e, hp, h.keep hs (hk b hp) (fun i q hi hq => hk q (hg i q hi hq)), hg⟩, fun q hq => ⟨(hb q hq).1, Nat.lt_of_lt_of_le (hb q hq).2 hs⟩⟩
theorem Kd.OwS.later {D V : Type} {K : Kd D V} {X Y : World} {B : Nat} {a : Option Addr} {xs : List D} {P : Nat → Prop} (h : K.OwS X B a xs P) (hb : Below X.heap.size X Y) : K.OwS Y B a xs P := h.keep hb.size (fun q hq => hb.block q (h.of hq).2)
theorem Kd.OwS.low {D V : Type} {K : Kd D V} {X : World} {B B' : Nat} {a : Option Addr} {xs : List D} {P : Nat → Prop} (h : K.OwS X B a xs P) (hb : B' ≤ B) : K.OwS X B' a xs P := by
  rcases h with ⟨h | ⟨b, g, e, hp, h, hg⟩, hq⟩
  · exact ⟨.inl h, fun q h' => ⟨Nat.le_trans hb (hq q h').1, (hq q h').2⟩⟩
  · refine ⟨.inr ⟨b, g, e, hp, ⟨h.rm, fun i d hi => ?_, h.ne, h.ap⟩, hg⟩, fun q h' => ⟨Nat.le_trans hb (hq q h').1, (hq q h').2⟩⟩
    obtain ⟨v, h1, h2⟩ := h.at_ i d hi
    exact ⟨v, h1, K.low h2 hb⟩
theorem Kd.Part.own {D V : Type} {K : Kd D V} {X : World} {B b : Nat} {xs : List D} {g : Nat → Nat → Prop} (h : K.Part X B b xs.length xs g) (hB : B ≤ b) (hb : b < X.heap.size) : K.OwS X B (some ⟨b, 0, none⟩) xs (fun q => q = b ∨ ∃ i, i < xs.length ∧ g i q) :=
  ⟨.inr ⟨b, g, rfl, .inl rfl, h, fun i q hi hq => .inr ⟨i, hi, hq⟩⟩, fun q hq => by rcases hq with rfl | ⟨i, hi, hq⟩; exact ⟨hB, hb⟩; exact h.gq hi hq⟩
def inB (lo hi x : Int) : Bool := decide (lo ≤ x) && decide (x ≤ hi)
theorem inB_yes {lo hi x : Int} (h : lo ≤ x) (h' : x ≤ hi) : inB lo hi x = true := by simp [inB, h, h']
theorem inB_iff {lo hi x : Int} : inB lo hi x = true ↔ lo ≤ x ∧ x ≤ hi := by simp [inB]
theorem ret_bool {b b' : Bool} (h : b = true ↔ b' = true) : Ending.returned (Value.bool b) = Ending.returned (Value.bool b') := by rw [Bool.eq_iff_iff.2 h]
theorem specIn (w : World) (x lo hi : Int) : Calls Tryz.prog 32 #[.int .i64 x, .int .i64 lo, .int .i64 hi] w fun e w' => e = .returned (.bool (inB lo hi x)) ∧ w' = w := by
  go_enter Tryz.func32, Tryz.ntmps32
  go_wp2
  all_goals (go_ret; refine ⟨ret_bool ?_, rfl⟩; simp [inB_iff]; try omega)
structure S5 where
  region : Int
  slot : Int
  value : Int
  used : Bool
  version : Int
def setOkB (s : S5) : Bool := inB 0 5 s.region && inB 0 5 s.slot && inB (-1000000000) 1000000000 s.value && inB 0 999999 s.version
theorem specRegion (w : World) (x : Int) : Calls Tryz.prog 137 #[.int .i64 x] w fun e w' => e = .returned (.bool (inB 0 5 x)) ∧ w' = w := by
  go_enter Tryz.func137, Tryz.ntmps137
  go_wp2_with (go_at_call 32; refine (specIn _ _ _ _).mono ?_; rintro e w' ⟨rfl, rfl⟩)
  go_ret
  exact ⟨rfl, rfl⟩
theorem specSlot (w : World) (x : Int) : Calls Tryz.prog 109 #[.int .i64 x] w fun e w' => e = .returned (.bool (inB 0 5 x)) ∧ w' = w := by
  go_enter Tryz.func109, Tryz.ntmps109
  go_wp2_with (go_at_call 32; refine (specIn _ _ _ _).mono ?_; rintro e w' ⟨rfl, rfl⟩)
  go_ret
  exact ⟨rfl, rfl⟩
theorem specValue (w : World) (x : Int) : Calls Tryz.prog 58 #[.int .i64 x] w fun e w' => e = .returned (.bool (inB (-1000000000) 1000000000 x)) ∧ w' = w := by
  go_enter Tryz.func58, Tryz.ntmps58
  go_wp2_with (go_at_call 32; refine (specIn _ _ _ _).mono ?_; rintro e w' ⟨rfl, rfl⟩)
  go_ret
  exact ⟨rfl, rfl⟩
theorem implRegion (w : World) (x : Int) : Calls Tryz.prog 252 #[.int .i64 x] w fun e w' => e = .returned (.bool (inB 0 5 x)) ∧ w' = w := by
  go_enter Tryz.func252, Tryz.ntmps252
  go_wp2
  all_goals (go_ret; refine ⟨ret_bool ?_, rfl⟩; simp [inB_iff]; try omega)
theorem implSlot (w : World) (x : Int) : Calls Tryz.prog 117 #[.int .i64 x] w fun e w' => e = .returned (.bool (inB 0 5 x)) ∧ w' = w := by
  go_enter Tryz.func117, Tryz.ntmps117
  go_wp2
  all_goals (go_ret; refine ⟨ret_bool ?_, rfl⟩; simp [inB_iff]; try omega)
theorem implValue (w : World) (x : Int) : Calls Tryz.prog 61 #[.int .i64 x] w fun e w' => e = .returned (.bool (inB (-1000000000) 1000000000 x)) ∧ w' = w := by
  go_enter Tryz.func61, Tryz.ntmps61
  go_wp2
  all_goals (go_ret; refine ⟨ret_bool ?_, rfl⟩; simp [inB_iff]; try omega)
set_option maxHeartbeats 1000000 in
theorem toSet_any (w : World) (s : S5) : Calls Tryz.prog 184 #[.agg #[.int .i64 s.region, .int .i64 s.slot, .int .i64 s.value, .bool s.used, .int .i64 s.version]] w fun e w' =>
    e = .returned (.agg #[.int .i64 s.region, .int .i64 s.slot, .int .i64 s.value, .bool s.used, .int .i64 s.version]) ∧ Below w.heap.size w w' := by
  obtain ⟨r, l, v, u, x⟩ := s
  go_enter Tryz.func184, Tryz.ntmps184
  go_wp2
  refine bodyPost_ret (v := .agg #[.int .i64 r, .int .i64 l, .int .i64 v, .bool u, .int .i64 x]) (by simp [results, Tryz.results184, go_sem]) rfl ⟨rfl, ?_⟩
  exact (((Below.refl _ _).alloc (Nat.le_refl _) _).alloc (by simp) _).alloc (by simp; omega) _
theorem specSetOk (w : World) (s : S5) : Calls Tryz.prog 126 #[.agg #[.int .i64 s.region, .int .i64 s.slot, .int .i64 s.value, .bool s.used, .int .i64 s.version]] w fun e w' => e = .returned (.bool (setOkB s)) ∧ Below w.heap.size w w' := by
  obtain ⟨r, l, v, u, x⟩ := s
  go_enter Tryz.func126, Tryz.ntmps126
  cases h1 : inB 0 5 r <;> cases h2 : inB 0 5 l <;> cases h3 : inB (-1000000000) 1000000000 v
  all_goals go_wp2_with (first | (go_at_call 32; refine (specIn _ _ _ _).mono ?_; rintro e w' ⟨rfl, rfl⟩) | (go_at_call 137; refine (specRegion _ _).mono ?_; rintro e w' ⟨rfl, rfl⟩) | (go_at_call 109; refine (specSlot _ _).mono ?_; rintro e w' ⟨rfl, rfl⟩) | (go_at_call 58; refine (specValue _ _).mono ?_; rintro e w' ⟨rfl, rfl⟩))
  all_goals (go_ret; refine ⟨ret_bool ?_, (Below.refl _ _).alloc (Nat.le_refl _) _⟩; simp only [setOkB, h1, h2, h3, Bool.and_true, Bool.and_false, Bool.false_and, Bool.true_and]; try simp [inB_iff]; try omega)
theorem implSetOk (w : World) (s : S5) : Calls Tryz.prog 208 #[.agg #[.int .i64 s.region, .int .i64 s.slot, .int .i64 s.value, .bool s.used, .int .i64 s.version]] w fun e w' => e = .returned (.bool (setOkB s)) ∧ Below w.heap.size w w' := by
  obtain ⟨r, l, v, u, x⟩ := s
  go_enter Tryz.func208, Tryz.ntmps208
  cases h1 : inB 0 5 r <;> cases h2 : inB 0 5 l <;> cases h3 : inB (-1000000000) 1000000000 v
  all_goals go_wp2_with (first | (go_at_call 252; refine (implRegion _ _).mono ?_; rintro e w' ⟨rfl, rfl⟩) | (go_at_call 117; refine (implSlot _ _).mono ?_; rintro e w' ⟨rfl, rfl⟩) | (go_at_call 61; refine (implValue _ _).mono ?_; rintro e w' ⟨rfl, rfl⟩))
  all_goals (go_ret; refine ⟨ret_bool ?_, (Below.refl _ _).alloc (Nat.le_refl _) _⟩; simp only [setOkB, h1, h2, h3, Bool.and_true, Bool.and_false, Bool.false_and, Bool.true_and]; try simp [inB_iff]; try omega)
end Go.Proofs.YtnhjgomfkfehgaaGreatDoor
namespace Go.Proofs.YtnhjgomfkfehgaaGreatDoor
open Go.RowKit
open Go.Sort (grow)
structure SetAt (w : World) (b o : Nat) (s : S5) : Prop where
  c0 : w.cell? ⟨b, o, none⟩ = some (.int .i64 s.region)
  c1 : w.cell? ⟨b, o + 1, none⟩ = some (.int .i64 s.slot)
  c2 : w.cell? ⟨b, o + 2, none⟩ = some (.int .i64 s.value)
  c3 : w.cell? ⟨b, o + 3, none⟩ = some (.bool s.used)
  c4 : w.cell? ⟨b, o + 4, none⟩ = some (.int .i64 s.version)
theorem SetAt.below {w w' : World} {B b o : Nat} {s : S5} (h : SetAt w b o s) (hb : Below B w w') (hB : b < B) : SetAt w' b o s :=
  ⟨by rw [hb.cell hB]; exact h.c0, by rw [hb.cell hB]; exact h.c1, by rw [hb.cell hB]; exact h.c2, by rw [hb.cell hB]; exact h.c3, by rw [hb.cell hB]; exact h.c4⟩
def SetsAt (w : World) (b off : Nat) (xs : List S5) : Prop := ∀ i s, xs[i]? = some s → SetAt w b (off + i * 5) s
theorem SetsAt.below {w w' : World} {B b off : Nat} {xs : List S5} (h : SetsAt w b off xs) (hb : Below B w w') (hB : b < B) : SetsAt w' b off xs := fun i s e => (h i s e).below hb hB
def Sl (w : World) (B : Nat) (a : Option Addr) (n : Nat) (xs : List S5) : Prop := xs.length = n ∧ (n = 0 ∨ ∃ b off, a = some ⟨b, off, none⟩ ∧ b < B ∧ SetsAt w b off xs)
theorem Sl.below {w w' : World} {B : Nat} {a : Option Addr} {n : Nat} {xs : List S5} (h : Sl w B a n xs) (hb : Below B w w') : Sl w' B a n xs := by
  obtain ⟨h1, h2⟩ := h
  refine ⟨h1, ?_⟩
  rcases h2 with h2 | ⟨b, off, ha, hB, hx⟩
  · exact .inl h2
  · exact .inr ⟨b, off, ha, hB, hx.below hb hB⟩
theorem Sl.mono {w : World} {B B' : Nat} {a : Option Addr} {n : Nat} {xs : List S5} (h : Sl w B a n xs) (hB : B ≤ B') : Sl w B' a n xs := by
  obtain ⟨h1, h2⟩ := h
  refine ⟨h1, ?_⟩
  rcases h2 with h2 | ⟨b, off, ha, hb, hx⟩
  · exact .inl h2
  · exact .inr ⟨b, off, ha, by omega, hx⟩
theorem SetsAt.far {w : World} {b off : Nat} {xs : List S5} (h : SetsAt w b off xs) {p : Addr} (hp : p.block ≠ b) (v : Value) : SetsAt (w.setCell p v) b off xs := fun i s e =>
  ⟨by rw [cell_set_far hp]; exact (h i s e).c0, by rw [cell_set_far hp]; exact (h i s e).c1, by rw [cell_set_far hp]; exact (h i s e).c2, by rw [cell_set_far hp]; exact (h i s e).c3, by rw [cell_set_far hp]; exact (h i s e).c4⟩
theorem SetAt.set {w : World} {b o p : Nat} {s : S5} (h : SetAt w b o s) (hp : p < o ∨ o + 5 ≤ p) (v : Value) : SetAt (w.setCell ⟨b, p, none⟩ v) b o s :=
  ⟨by rw [cell_set_other (by omega)]; exact h.c0, by rw [cell_set_other (by omega)]; exact h.c1, by rw [cell_set_other (by omega)]; exact h.c2, by rw [cell_set_other (by omega)]; exact h.c3, by rw [cell_set_other (by omega)]; exact h.c4⟩
theorem info_set : (Tryz.prog.info? 109).map (fun i => (i.zero, i.size, i.bytes)) = some (some (.agg #[.int .i64 0, .int .i64 0, .int .i64 0, .bool false, .int .i64 0]), 5, 40) := by kernel_rfl
theorem make_sets (n : Nat) (hn : n ≤ 1048576) (w : World) : (Instr.makeSlice 54 (.int .i64 (n : Int)) (.int .i64 (n : Int))).run Tryz.prog w = .ok (.slice (some ⟨w.heap.size, 0, none⟩) n n) (w.alloc (.cells (madeCells #[.int .i64 0, .int .i64 0, .int .i64 0, .bool false, .int .i64 0] (n * 5)) 109)) := by
  obtain ⟨i, hi, hzz⟩ := Option.map_eq_some_iff.1 info_set
  simp only [Prod.mk.injEq] at hzz
  obtain ⟨hz, hs, hb⟩ := hzz
  have := run_make (P := Tryz.prog) w 54 109 i _ Tryz.underlying54 hi hz .i64 .i64 (n : Int) (n : Int) (by omega) (by omega) (by rw [hb]; omega) (by omega)
  rw [hs] at this
  simpa [Value.cells] using this
theorem SetAt.put {w : World} {b o : Nat} {v0 v1 v2 v3 v4 : Value} (s : S5) (h0 : w.cell? ⟨b, o, none⟩ = some v0) (h1 : w.cell? ⟨b, o + 1, none⟩ = some v1) (h2 : w.cell? ⟨b, o + 2, none⟩ = some v2) (h3 : w.cell? ⟨b, o + 3, none⟩ = some v3) (h4 : w.cell? ⟨b, o + 4, none⟩ = some v4) :
    SetAt (((((w.setCell ⟨b, o, none⟩ (.int .i64 s.region)).setCell ⟨b, o + 1, none⟩ (.int .i64 s.slot)).setCell ⟨b, o + 2, none⟩ (.int .i64 s.value)).setCell ⟨b, o + 3, none⟩ (.bool s.used)).setCell ⟨b, o + 4, none⟩ (.int .i64 s.version)) b o s := by
  refine ⟨?_, ?_, ?_, ?_, ?_⟩
  · rw [cell_set_other (by omega), cell_set_other (by omega), cell_set_other (by omega), cell_set_other (by omega)]; exact cell_set_same h0
  · rw [cell_set_other (by omega), cell_set_other (by omega), cell_set_other (by omega)]; exact cell_set_same (by rw [cell_set_other (by omega)]; exact h1)
  · rw [cell_set_other (by omega), cell_set_other (by omega)]; exact cell_set_same (by rw [cell_set_other (by omega), cell_set_other (by omega)]; exact h2)
  · rw [cell_set_other (by omega)]; exact cell_set_same (by rw [cell_set_other (by omega), cell_set_other (by omega), cell_set_other (by omega)]; exact h3)
  · exact cell_set_same (by rw [cell_set_other (by omega), cell_set_other (by omega), cell_set_other (by omega), cell_set_other (by omega)]; exact h4)
theorem SetsAt.put {w : World} {b k : Nat} {xs : List S5} {s : S5} (h : SetsAt w b 0 (xs.take k)) (hs : xs[k]? = some s) {m : Nat} (hr : Room w b m) (hm : k * 5 + 5 ≤ m) :
    SetsAt (((((w.setCell ⟨b, k * 5, none⟩ (.int .i64 s.region)).setCell ⟨b, k * 5 + 1, none⟩ (.int .i64 s.slot)).setCell ⟨b, k * 5 + 2, none⟩ (.int .i64 s.value)).setCell ⟨b, k * 5 + 3, none⟩ (.bool s.used)).setCell ⟨b, k * 5 + 4, none⟩ (.int .i64 s.version)) b 0 (xs.take (k + 1)) := by
  intro i t e
  rw [List.getElem?_take] at e
  split at e
  · rename_i hi
    by_cases hik : i = k
    · subst hik
      rw [hs] at e
      obtain rfl := Option.some.inj e
      obtain ⟨v0, d0, _⟩ := hr (i * 5) (by omega)
      obtain ⟨v1, d1, _⟩ := hr (i * 5 + 1) (by omega)
      obtain ⟨v2, d2, _⟩ := hr (i * 5 + 2) (by omega)
      obtain ⟨v3, d3, _⟩ := hr (i * 5 + 3) (by omega)
      obtain ⟨v4, d4, _⟩ := hr (i * 5 + 4) (by omega)
      simpa using SetAt.put s d0 d1 d2 d3 d4
    · have := h i t (by rw [List.getElem?_take, if_pos (by omega)]; exact e)
      exact ((((this.set (by omega) _).set (by omega) _).set (by omega) _).set (by omega) _).set (by omega) _
  · cases e
theorem toSetS_none (w : World) (a : Option Addr) (cap : Nat) : Calls Tryz.prog 145 #[.slice a 0 cap] w fun e w' =>
    e = .returned (.slice (some ⟨w.heap.size, 0, none⟩) 0 0) ∧ Below w.heap.size w w' ∧ w.heap.size < w'.heap.size := by
  have hmk : ∀ w : World, (Instr.makeSlice 54 (.int .i64 0) (.int .i64 0)).run Tryz.prog w = .ok (.slice (some ⟨w.heap.size, 0, none⟩) 0 0) (w.alloc (.cells (madeCells #[.int .i64 0, .int .i64 0, .int .i64 0, .bool false, .int .i64 0] 0) 109)) := fun w => by simpa using make_sets 0 (by omega) w
  go_enter Tryz.func145, Tryz.ntmps145
  go_wp2
  go_loopw [4] (fun i wr => i = .int .i64 0 ∧ Below w.heap.size w wr ∧ w.heap.size < wr.heap.size) (fun _ _ => 0)
  case atStart => exact ⟨rfl, (Below.refl _ _).alloc (Nat.le_refl _) _, by simp⟩
  case round =>
    obtain ⟨rfl, hbl, hsz⟩ := hrel
    go_wp2
    go_ret
    exact ⟨rfl, hbl, hsz⟩
structure C2 where
  head : Int
  value : Int
def C2.cells (s : C2) : List Value := [.int .i64 s.head, .int .i64 s.value]
structure CellAt (w : World) (b o : Nat) (s : C2) : Prop where
  c0 : w.cell? ⟨b, o, none⟩ = some (.int .i64 s.head)
  c1 : w.cell? ⟨b, o + 1, none⟩ = some (.int .i64 s.value)
theorem CellAt.below {w w' : World} {B b o : Nat} {s : C2} (h : CellAt w b o s) (hb : Below B w w') (hB : b < B) : CellAt w' b o s :=
  ⟨by rw [hb.cell hB]; exact h.c0, by rw [hb.cell hB]; exact h.c1⟩
theorem CellAt.regrown {w : World} {b o : Nat} {s : C2} (h : CellAt w b o s) (d : Nat) (os : Array Obj) : CellAt (grow (redrawn w d) os) b o s :=
  ⟨cell_regrown h.c0 d os, cell_regrown h.c1 d os⟩
def CellsAt (w : World) (b off : Nat) (xs : List C2) : Prop := ∀ i s, xs[i]? = some s → CellAt w b (off + i * 2) s
theorem CellsAt.below {w w' : World} {B b off : Nat} {xs : List C2} (h : CellsAt w b off xs) (hb : Below B w w') (hB : b < B) : CellsAt w' b off xs := fun i s e => (h i s e).below hb hB
def SlC (w : World) (B : Nat) (a : Option Addr) (n : Nat) (xs : List C2) : Prop := xs.length = n ∧ (n = 0 ∨ ∃ b off, a = some ⟨b, off, none⟩ ∧ b < B ∧ CellsAt w b off xs)
theorem SlC.below {w w' : World} {B : Nat} {a : Option Addr} {n : Nat} {xs : List C2} (h : SlC w B a n xs) (hb : Below B w w') : SlC w' B a n xs := by
  obtain ⟨h1, h2⟩ := h
  refine ⟨h1, ?_⟩
  rcases h2 with h2 | ⟨b, off, ha, hB, hx⟩
  · exact .inl h2
  · exact .inr ⟨b, off, ha, hB, hx.below hb hB⟩
theorem SlC.mono {w : World} {B B' : Nat} {a : Option Addr} {n : Nat} {xs : List C2} (h : SlC w B a n xs) (hB : B ≤ B') : SlC w B' a n xs := by
  obtain ⟨h1, h2⟩ := h
  refine ⟨h1, ?_⟩
  rcases h2 with h2 | ⟨b, off, ha, hb, hx⟩
  · exact .inl h2
  · exact .inr ⟨b, off, ha, by omega, hx⟩
theorem SlC.later {w w' : World} {a : Option Addr} {n : Nat} {xs : List C2} (h : SlC w w.heap.size a n xs) (hb : Below w.heap.size w w') : SlC w' w'.heap.size a n xs := (h.below hb).mono hb.size
theorem CellsAt.far {w : World} {b off : Nat} {xs : List C2} (h : CellsAt w b off xs) {p : Addr} (hp : p.block ≠ b) (v : Value) : CellsAt (w.setCell p v) b off xs := fun i s e =>
  ⟨by rw [cell_set_far hp]; exact (h i s e).c0, by rw [cell_set_far hp]; exact (h i s e).c1⟩
theorem CellAt.set {w : World} {b o p : Nat} {s : C2} (h : CellAt w b o s) (hp : p < o ∨ o + 2 ≤ p) (v : Value) : CellAt (w.setCell ⟨b, p, none⟩ v) b o s :=
  ⟨by rw [cell_set_other (by omega)]; exact h.c0, by rw [cell_set_other (by omega)]; exact h.c1⟩
theorem info_cell : (Tryz.prog.info? 103).map (fun i => (i.zero, i.size, i.bytes)) = some (some (.agg #[.int .i64 0, .int .i64 0]), 2, 16) := by kernel_rfl
theorem make_cells (n : Nat) (hn : n ≤ 1048576) (w : World) : (Instr.makeSlice 97 (.int .i64 (n : Int)) (.int .i64 (n : Int))).run Tryz.prog w = .ok (.slice (some ⟨w.heap.size, 0, none⟩) n n) (w.alloc (.cells (madeCells #[.int .i64 0, .int .i64 0] (n * 2)) 103)) := by
  obtain ⟨i, hi, hzz⟩ := Option.map_eq_some_iff.1 info_cell
  simp only [Prod.mk.injEq] at hzz
  obtain ⟨hz, hs, hb⟩ := hzz
  have := run_make (P := Tryz.prog) w 97 103 i _ Tryz.underlying97 hi hz .i64 .i64 (n : Int) (n : Int) (by omega) (by omega) (by rw [hb]; omega) (by omega)
  rw [hs] at this
  simpa [Value.cells] using this
theorem CellAt.put {w : World} {b o : Nat} {v0 v1 : Value} (s : C2) (h0 : w.cell? ⟨b, o, none⟩ = some v0) (h1 : w.cell? ⟨b, o + 1, none⟩ = some v1) :
    CellAt ((w.setCell ⟨b, o, none⟩ (.int .i64 s.head)).setCell ⟨b, o + 1, none⟩ (.int .i64 s.value)) b o s := by
  refine ⟨?_, ?_⟩
  · rw [cell_set_other (by omega)]; exact cell_set_same h0
  · exact cell_set_same (by rw [cell_set_other (by omega)]; exact h1)
theorem CellsAt.put {w : World} {b k : Nat} {xs : List C2} {s : C2} (h : CellsAt w b 0 (xs.take k)) (hs : xs[k]? = some s) {m : Nat} (hr : Room w b m) (hm : k * 2 + 2 ≤ m) :
    CellsAt ((w.setCell ⟨b, k * 2, none⟩ (.int .i64 s.head)).setCell ⟨b, k * 2 + 1, none⟩ (.int .i64 s.value)) b 0 (xs.take (k + 1)) := by
  intro i t e
  rw [List.getElem?_take] at e
  split at e
  · rename_i hi
    by_cases hik : i = k
    · subst hik
      rw [hs] at e
      obtain rfl := Option.some.inj e
      obtain ⟨v0, d0, _⟩ := hr (i * 2) (by omega)
      obtain ⟨v1, d1, _⟩ := hr (i * 2 + 1) (by omega)
      simpa using CellAt.put s d0 d1
    · have := h i t (by rw [List.getElem?_take, if_pos (by omega)]; exact e)
      exact (this.set (by omega) _).set (by omega) _
  · cases e
def at2 (xs : List C2) (i : Nat) : C2 := xs[i]?.getD ⟨0, 0⟩
theorem at2_of {xs : List C2} {i : Nat} (h : i < xs.length) : xs[i]? = some (at2 xs i) := by
  simp [at2, List.getElem?_eq_getElem h]
theorem CellsAt.get {w : World} {b off : Nat} {xs : List C2} (h : CellsAt w b off xs) {i : Nat} (hi : i < xs.length) : CellAt w b (off + i * 2) (at2 xs i) := h i _ (at2_of hi)
theorem toCell_any (w : World) (s : C2) : Calls Tryz.prog 261 #[.agg #[.int .i64 s.head, .int .i64 s.value]] w fun e w' =>
    e = .returned (.agg #[.int .i64 s.head, .int .i64 s.value]) ∧ Below w.heap.size w w' := by
  obtain ⟨h, v⟩ := s
  go_enter Tryz.func261, Tryz.ntmps261
  go_wp2
  refine bodyPost_ret (v := .agg #[.int .i64 h, .int .i64 v]) (by simp [results, Tryz.results261, go_sem]) rfl ⟨rfl, ?_⟩
  exact (((Below.refl _ _).alloc (Nat.le_refl _) _).alloc (by simp) _).alloc (by simp; omega) _
theorem toCellS_none (w : World) (a : Option Addr) (cap : Nat) : Calls Tryz.prog 225 #[.slice a 0 cap] w fun e w' =>
    e = .returned (.slice (some ⟨w.heap.size, 0, none⟩) 0 0) ∧ Below w.heap.size w w' ∧ w.heap.size < w'.heap.size := by
  have hmk : ∀ w : World, (Instr.makeSlice 97 (.int .i64 0) (.int .i64 0)).run Tryz.prog w = .ok (.slice (some ⟨w.heap.size, 0, none⟩) 0 0) (w.alloc (.cells (madeCells #[.int .i64 0, .int .i64 0] 0) 103)) := fun w => by simpa using make_cells 0 (by omega) w
  go_enter Tryz.func225, Tryz.ntmps225
  go_wp2
  go_loopw [4] (fun i wr => i = .int .i64 0 ∧ Below w.heap.size w wr ∧ w.heap.size < wr.heap.size) (fun _ _ => 0)
  case atStart => exact ⟨rfl, (Below.refl _ _).alloc (Nat.le_refl _) _, by simp⟩
  case round =>
    obtain ⟨rfl, hbl, hsz⟩ := hrel
    go_wp2
    go_ret
    exact ⟨rfl, hbl, hsz⟩
theorem eqCell_same (w : World) (s : C2) : Calls Tryz.prog 270 #[.agg #[.int .i64 s.head, .int .i64 s.value], .agg #[.int .i64 s.head, .int .i64 s.value]] w fun e w' =>
    e = .returned (.bool true) ∧ Below w.heap.size w w' := by
  obtain ⟨h, v⟩ := s
  go_enter Tryz.func270, Tryz.ntmps270
  go_wp2
  go_ret
  exact ⟨rfl, ((Below.refl _ _).alloc (Nat.le_refl _) _).alloc (by simp) _⟩
set_option maxHeartbeats 1000000 in
theorem eqCellS_some (w : World) (b off cap b' off' cap' n : Nat) (xs : List C2) (hx : xs.length = n) (hn : n ≤ maxLen) (h1 : CellsAt w b off xs) (hb : b < w.heap.size) (h2 : CellsAt w b' off' xs) (hb' : b' < w.heap.size) :
    Calls Tryz.prog 241 #[.slice (some ⟨b, off, none⟩) n cap, .slice (some ⟨b', off', none⟩) n cap'] w fun e w' => e = .returned (.bool true) ∧ Below w.heap.size w w' := by
  unfold maxLen at hn
  go_enter Tryz.func241, Tryz.ntmps241
  go_wp2
  go_loopw [5] (fun i wr => ∃ k : Nat, k ≤ n ∧ i = .int .i64 k ∧ Below w.heap.size w wr) (fun i _ => n - (intOf i).toNat)
  case atStart => exact ⟨0, Nat.zero_le _, rfl, Below.refl _ _⟩
  case round =>
    obtain ⟨k, hk, rfl, hbl⟩ := hrel
    by_cases hlt : k < n
    · obtain ⟨s, hsk⟩ : ∃ s, xs[k]? = some s := ⟨xs[k]'(by omega), by simp⟩
      have t1 := (((h1 k s hsk).below hbl hb).regrown)
      have t2 := (((h2 k s hsk).below hbl hb').regrown)
      have c0 := fun d os => (t1 d os).c0
      have c1 := fun d os => (t1 d os).c1
      have e0 := fun d os => (t2 d os).c0
      have e1 := fun d os => (t2 d os).c1
      have cQ : ∀ d os, Calls Tryz.prog 270 #[.agg #[.int .i64 s.head, .int .i64 s.value], .agg #[.int .i64 s.head, .int .i64 s.value]] (grow (redrawn wr d) os) fun e w'' => e = .returned (.bool true) ∧ ∃ p : Regrown, w'' = grow (redrawn wr p.d) p.os := fun d os => Calls.regrown_of (eqCell_same _ s)
      have K : Hid (Below w.heap.size w wr) := hbl
      clear t1 t2 hbl hsk h1 h2
      go_wp2_with fail
      refine wp_region_quiet_below (by kernel_rfl) (by kernel_rfl) ?_
      repeat (quiet_step (exact cQ _ _))
      refine wpQuiet_nil ?_
      intro _ hw'
      obtain ⟨⟨dq, osq⟩, hw''⟩ := hw'
      subst hw''
      have bq := below_regrown wr dq osq
      go_wp2
      exact ⟨⟨k + 1, by omega, by simp, K.out.trans (bq.mono K.out.size)⟩, by simp [intOf]; omega⟩
    · have : k = n := by omega
      subst this
      have hd : decide (k < k) = false := by simp
      go_wp2
      go_ret
      exact ⟨rfl, hbl⟩
theorem eqCellS_none (w : World) (a a' : Option Addr) (cap cap' : Nat) : Calls Tryz.prog 241 #[.slice a 0 cap, .slice a' 0 cap'] w fun e w' => e = .returned (.bool true) ∧ Below w.heap.size w w' := by
  go_enter Tryz.func241, Tryz.ntmps241
  go_wp2
  go_loopw [5] (fun i wr => i = .int .i64 0 ∧ Below w.heap.size w wr) (fun _ _ => 0)
  case atStart => exact ⟨rfl, Below.refl _ _⟩
  case round =>
    obtain ⟨rfl, hbl⟩ := hrel
    go_wp2
    go_ret
    exact ⟨rfl, hbl⟩
theorem eqCellS_any (w : World) (a a' : Option Addr) (n cap cap' : Nat) (xs : List C2) (hn : n ≤ maxLen) (h1 : SlC w w.heap.size a n xs) (h2 : SlC w w.heap.size a' n xs) :
    Calls Tryz.prog 241 #[.slice a n cap, .slice a' n cap'] w fun e w' => e = .returned (.bool true) ∧ Below w.heap.size w w' := by
  obtain ⟨hx, h1⟩ := h1
  obtain ⟨_, h2⟩ := h2
  rcases h1 with rfl | ⟨b, off, rfl, hb, h1⟩
  · exact eqCellS_none w a a' cap cap'
  · rcases h2 with rfl | ⟨b', off', rfl, hb', h2⟩
    · exact eqCellS_none w _ a' cap cap'
    · exact eqCellS_some w b off cap b' off' cap' n xs hx hn h1 hb h2 hb'
end Go.Proofs.YtnhjgomfkfehgaaGreatDoor
namespace Go.Proofs.YtnhjgomfkfehgaaGreatDoor
open Go.RowKit
theorem below_dn {B : Nat} {a w : World} (h : Below B a w) (n : Nat) : Below B a (w.drewN n) := ⟨h.os, h.tape, h.output, h.size, h.block⟩
def NumsAt (w : World) (b off : Nat) (zs : List Int) : Prop := ∀ i z, zs[i]? = some z → w.cell? ⟨b, off + i, none⟩ = some (.int .i64 z)
theorem NumsAt.below {w w' : World} {B b off : Nat} {zs : List Int} (h : NumsAt w b off zs) (hb : Below B w w') (hB : b < B) : NumsAt w' b off zs := fun i z e => by rw [hb.cell (p := ⟨b, off + i, none⟩) hB]; exact h i z e
def SlN (w : World) (B : Nat) (a : Option Addr) (n : Nat) (zs : List Int) : Prop := zs.length = n ∧ (n = 0 ∨ ∃ b off, a = some ⟨b, off, none⟩ ∧ b < B ∧ NumsAt w b off zs)
theorem SlN.later {w w' : World} {a : Option Addr} {n : Nat} {zs : List Int} (h : SlN w w.heap.size a n zs) (hb : Below w.heap.size w w') : SlN w' w'.heap.size a n zs := by
  obtain ⟨h1, h2⟩ := h
  refine ⟨h1, ?_⟩
  rcases h2 with h2 | ⟨b, off, ha, hB, hx⟩
  · exact .inl h2
  · exact .inr ⟨b, off, ha, Nat.lt_of_lt_of_le hB hb.size, hx.below hb hB⟩
def atN (zs : List Int) (i : Nat) : Int := zs[i]?.getD 0
theorem atN_of {zs : List Int} {i : Nat} (h : i < zs.length) : zs[i]? = some (atN zs i) := by simp [atN, List.getElem?_eq_getElem h]
def hasB (zs : List Int) (z : Int) : Bool := zs.any (fun y => decide (y = z))
theorem has_yes {zs : List Int} {z : Int} {i : Nat} (hi : i < zs.length) (h : atN zs i = z) : hasB zs z = true := by
  rw [hasB, List.any_eq_true]
  exact ⟨atN zs i, List.mem_of_getElem? (atN_of hi), by simp [h]⟩
theorem has_no {zs : List Int} {z : Int} (h : ∀ i, i < zs.length → atN zs i ≠ z) : hasB zs z = false := by
  rw [hasB, List.any_eq_false]
  intro y hy
  obtain ⟨i, hi, rfl⟩ := List.getElem_of_mem hy
  have := h i hi
  rw [atN, List.getElem?_eq_getElem hi] at this
  simpa using this
set_option maxHeartbeats 1000000 in
theorem make_nums (n : Nat) (hn : n ≤ 1048576) (w : World) : (Instr.makeSlice 60 (.int .i64 (n : Int)) (.int .i64 (n : Int))).run Tryz.prog w = .ok (.slice (some ⟨w.heap.size, 0, none⟩) n n) (w.alloc (.cells (madeCells #[.int .i64 0] n) 2)) := by
  have info : (Tryz.prog.info? 2).map (fun i => (i.zero, i.size, i.bytes)) = some (some (.int .i64 0), 1, 8) := by kernel_rfl
  obtain ⟨i, hi, hzz⟩ := Option.map_eq_some_iff.1 info
  simp only [Prod.mk.injEq] at hzz
  obtain ⟨hz, hs, hb⟩ := hzz
  have := run_make (P := Tryz.prog) w 60 2 i _ Tryz.underlying60 hi hz .i64 .i64 (n : Int) (n : Int) (by omega) (by omega) (by rw [hb]; omega) (by omega)
  rw [hs] at this
  simpa [Value.cells] using this
theorem NumsAt.put {w : World} {b k : Nat} {zs : List Int} {z : Int} (h : NumsAt w b 0 (zs.take k)) (hz : zs[k]? = some z) {v : Value} (hv : w.cell? ⟨b, k, none⟩ = some v) : NumsAt (w.setCell ⟨b, k, none⟩ (.int .i64 z)) b 0 (zs.take (k + 1)) := by
  intro i t e
  rw [List.getElem?_take] at e
  split at e
  · rename_i hi
    by_cases hik : i = k
    · subst hik
      rw [hz] at e
      obtain rfl := Option.some.inj e
      simpa using cell_set_same hv
    · have := h i t (by rw [List.getElem?_take, if_pos (by omega)]; exact e)
      rw [cell_set_other (by omega)]; exact this
  · cases e
set_option maxHeartbeats 1000000 in
theorem toInt64S_any (w : World) (a : Option Addr) (n cap : Nat) (zs : List Int) (hn : n ≤ 1048576) (hs : SlN w w.heap.size a n zs) : Calls Tryz.prog 141 #[.slice a n cap] w fun e w' =>
    e = .returned (.slice (some ⟨w.heap.size, 0, none⟩) n n) ∧ Below w.heap.size w w' ∧ w.heap.size < w'.heap.size ∧ NumsAt w' w.heap.size 0 zs ∧ Room w' w.heap.size n := by
  obtain ⟨hx, hs⟩ := hs
  have hmk := make_nums n hn
  go_enter Tryz.func141, Tryz.ntmps141
  go_wp2
  go_loopw [4] (fun i wr => ∃ k : Nat, k ≤ n ∧ i = .int .i64 k ∧ Below w.heap.size w wr ∧ w.heap.size < wr.heap.size ∧ Room wr w.heap.size n ∧ NumsAt wr w.heap.size 0 (zs.take k)) (fun i _ => n - (intOf i).toNat)
  case atStart => exact ⟨0, Nat.zero_le _, rfl, (Below.refl _ _).alloc (Nat.le_refl _) _, by simp, room_made _ _ _ _, fun i s e => by simp at e⟩
  case round =>
    obtain ⟨k, hk, rfl, hbl, hsz, hro, hdo⟩ := hrel
    by_cases hlt : k < n
    · rcases hs with hs | ⟨b, off, rfl, hb, h1⟩
      · omega
      · have c := (hbl.cell (p := ⟨b, off + k, none⟩) hb).trans (h1 k _ (atN_of (by omega)))
        obtain ⟨v, d, f⟩ := hro k hlt
        have K : Hid (Room wr w.heap.size n ∧ NumsAt wr w.heap.size 0 (zs.take k) ∧ zs[k]? = some (atN zs k) ∧ Below w.heap.size w wr) := ⟨hro, hdo, atN_of (by omega), hbl⟩
        clear hro hdo hbl hmk h1 hx
        go_wp2
        obtain ⟨hro, hdo, hz, hbl⟩ := K.out
        exact ⟨⟨k + 1, by omega, by simp, hbl.setCell (p := ⟨w.heap.size, k, none⟩) (Nat.le_refl _) _, by simpa [World.setCell] using hsz, hro.set _, hdo.put hz d⟩, by simp [intOf]; omega⟩
    · have : k = n := by omega
      subst this
      have hd : decide (k < k) = false := by simp
      rw [← hx, List.take_length] at hdo
      have K : Hid (NumsAt wr w.heap.size 0 zs ∧ Room wr w.heap.size k) := ⟨hdo, hro⟩
      clear hdo hs hro
      go_wp2
      go_ret
      exact ⟨rfl, hbl, hsz, K.out.1, K.out.2⟩
set_option maxHeartbeats 1000000 in
theorem eqInt64S_any (w : World) (a a' : Option Addr) (n cap cap' : Nat) (zs : List Int) (hn : n ≤ maxLen) (h1 : SlN w w.heap.size a n zs) (h2 : SlN w w.heap.size a' n zs) :
    Calls Tryz.prog 155 #[.slice a n cap, .slice a' n cap'] w fun e w' => e = .returned (.bool true) ∧ Below w.heap.size w w' := by
  unfold maxLen at hn
  obtain ⟨hx, h1⟩ := h1
  obtain ⟨_, h2⟩ := h2
  go_enter Tryz.func155, Tryz.ntmps155
  go_wp2
  go_loopw [5] (fun i wr => ∃ k : Nat, k ≤ n ∧ i = .int .i64 k ∧ Below w.heap.size w wr) (fun i _ => n - (intOf i).toNat)
  case atStart => exact ⟨0, Nat.zero_le _, rfl, Below.refl _ _⟩
  case round =>
    obtain ⟨k, hk, rfl, hbl⟩ := hrel
    by_cases hlt : k < n
    · rcases h1 with h1 | ⟨b, off, rfl, hb, h1⟩
      · omega
      · rcases h2 with h2 | ⟨b', off', rfl, hb', h2⟩
        · omega
        · have c1 := (hbl.cell (p := ⟨b, off + k, none⟩) hb).trans (h1 k _ (atN_of (by omega)))
          have c2 := (hbl.cell (p := ⟨b', off' + k, none⟩) hb').trans (h2 k _ (atN_of (by omega)))
          have hlt' : (k : Int) < (n : Int) := by omega
          have K : Hid (Below w.heap.size w wr) := hbl
          clear h1 h2 hbl hx
          go_wp2_with fail
          go_quiet (fail)
          go_wp2
          exact ⟨⟨k + 1, by omega, by simp, below_dn K.out _⟩, by simp [intOf]; omega⟩
    · have : k = n := by omega
      subst this
      have hd : decide (k < k) = false := by simp
      clear h1 h2
      go_wp2
      go_ret
      exact ⟨rfl, hbl⟩
def marks : Nat → Int → List Int
  | 0, _ => []
  | n + 1, k => k :: marks n (k + 1)
theorem marks_len : ∀ (n : Nat) (k : Int), (marks n k).length = n
  | 0, _ => rfl
  | n + 1, k => by simp [marks, marks_len n]
theorem marks_at : ∀ (n : Nat) (k : Int) (i : Nat), i < n → (marks n k)[i]? = some (k + i)
  | 0, _, _, h => by omega
  | n + 1, k, 0, _ => by simp [marks]
  | n + 1, k, i + 1, h => by
    rw [marks, List.getElem?_cons_succ, marks_at n (k + 1) i (by omega)]
    congr 1; omega
set_option maxHeartbeats 1000000 in
theorem markInt64S_own (w : World) (g n cap : Nat) (k : Int) (hn : n ≤ 1048576) (hk : 0 ≤ k) (hk' : k ≤ 1000000000) (hr : Room w g n) :
    Calls Tryz.prog 98 #[.slice (some ⟨g, 0, none⟩) n cap, .int .i64 k] w fun e w' => e = .returned (.int .i64 (k + n)) ∧ OnlyBlock g w w' ∧ NumsAt w' g 0 (marks n k) ∧ Room w' g n := by
  go_enter Tryz.func98, Tryz.ntmps98
  go_wp2
  go_loopw [1, 5] (fun v1 v5 wr => ∃ j : Nat, j ≤ n ∧ v5 = .int .i64 j ∧ v1 = .int .i64 (k + j) ∧ OnlyBlock g w wr ∧ Room wr g n ∧ NumsAt wr g 0 ((marks n k).take j)) (fun _ v5 _ => n - (intOf v5).toNat)
  case atStart => exact ⟨0, Nat.zero_le _, rfl, by simp, OnlyBlock.refl _ _, hr, fun i s e => by simp at e⟩
  case round =>
    obtain ⟨j, hj, rfl, rfl, ho, hro, hdo⟩ := hrel
    by_cases hlt : j < n
    · obtain ⟨v, d, f⟩ := hro j hlt
      have K : Hid (OnlyBlock g w wr ∧ Room wr g n ∧ NumsAt wr g 0 ((marks n k).take j)) := ⟨ho, hro, hdo⟩
      clear ho hro hdo hr
      go_wp2
      obtain ⟨ho, hro, hdo⟩ := K.out
      exact ⟨⟨j + 1, by omega, by simp, by simp; omega, ho.setCell _ _, hro.set _, hdo.put (marks_at n k j hlt) d⟩, by simp [intOf]; omega⟩
    · have : j = n := by omega
      subst this
      have hd : decide ((j : Int) < (j : Int)) = false := by simp
      rw [show (marks j k).take j = marks j k from List.take_of_length_le (by rw [marks_len]; omega)] at hdo
      have K : Hid (OnlyBlock g w wr ∧ NumsAt wr g 0 (marks j k) ∧ Room wr g j) := ⟨ho, hdo, hro⟩
      clear ho hdo hro hr
      go_wp2
      go_ret
      exact ⟨by simp, K.out.1, K.out.2.1, K.out.2.2⟩
set_option maxHeartbeats 1000000 in
theorem markInt64S_none (w : World) (a : Option Addr) (cap : Nat) (k : Int) : Calls Tryz.prog 98 #[.slice a 0 cap, .int .i64 k] w fun e w' => e = .returned (.int .i64 k) ∧ w' = w := by
  go_enter Tryz.func98, Tryz.ntmps98
  go_wp2
  go_loop [1, 5] (fun v1 v5 => v5 = .int .i64 0 ∧ v1 = .int .i64 k) (fun _ _ => 0)
  case atStart => exact ⟨rfl, rfl⟩
  case round =>
    obtain ⟨rfl, rfl⟩ := hrel
    go_wp2
    go_ret
    exact ⟨rfl, rfl⟩
def PlsAt (w : World) (B b off : Nat) (zss : List (List Int)) : Prop := ∀ i zs, zss[i]? = some zs → ∃ a cap, w.cell? ⟨b, off + i, none⟩ = some (.slice a zs.length cap) ∧ SlN w B a zs.length zs ∧ zs.length ≤ cap
def SlP (w : World) (B : Nat) (a : Option Addr) (n : Nat) (zss : List (List Int)) : Prop := zss.length = n ∧ (n = 0 ∨ ∃ b off, a = some ⟨b, off, none⟩ ∧ b < B ∧ PlsAt w B b off zss)
theorem SlN.below {w w' : World} {B : Nat} {a : Option Addr} {n : Nat} {zs : List Int} (h : SlN w B a n zs) (hb : Below B w w') : SlN w' B a n zs := by
  obtain ⟨h1, h2⟩ := h
  refine ⟨h1, ?_⟩
  rcases h2 with h2 | ⟨b, off, ha, hB, hx⟩
  · exact .inl h2
  · exact .inr ⟨b, off, ha, hB, hx.below hb hB⟩
theorem SlN.mono {w : World} {B B' : Nat} {a : Option Addr} {n : Nat} {zs : List Int} (h : SlN w B a n zs) (hB : B ≤ B') : SlN w B' a n zs := by
  obtain ⟨h1, h2⟩ := h
  refine ⟨h1, ?_⟩
  rcases h2 with h2 | ⟨b, off, ha, hb, hx⟩
  · exact .inl h2
  · exact .inr ⟨b, off, ha, by omega, hx⟩
theorem PlsAt.below {w w' : World} {B b off : Nat} {zss : List (List Int)} (h : PlsAt w B b off zss) (hb : Below B w w') (hB : b < B) : PlsAt w' B b off zss := fun i zs e => by
  obtain ⟨a, cap, h1, h2, h3⟩ := h i zs e
  exact ⟨a, cap, (hb.cell (p := ⟨b, off + i, none⟩) hB).trans h1, h2.below hb, h3⟩
theorem PlsAt.mono {w : World} {B B' b off : Nat} {zss : List (List Int)} (h : PlsAt w B b off zss) (hB : B ≤ B') : PlsAt w B' b off zss := fun i zs e => by
  obtain ⟨a, cap, h1, h2, h3⟩ := h i zs e
  exact ⟨a, cap, h1, h2.mono hB, h3⟩
theorem SlP.below {w w' : World} {B : Nat} {a : Option Addr} {n : Nat} {zss : List (List Int)} (h : SlP w B a n zss) (hb : Below B w w') : SlP w' B a n zss := by
  obtain ⟨h1, h2⟩ := h
  refine ⟨h1, ?_⟩
  rcases h2 with h2 | ⟨b, off, ha, hB, hx⟩
  · exact .inl h2
  · exact .inr ⟨b, off, ha, hB, hx.below hb hB⟩
theorem SlP.mono {w : World} {B B' : Nat} {a : Option Addr} {n : Nat} {zss : List (List Int)} (h : SlP w B a n zss) (hB : B ≤ B') : SlP w B' a n zss := by
  obtain ⟨h1, h2⟩ := h
  refine ⟨h1, ?_⟩
  rcases h2 with h2 | ⟨b, off, ha, hb, hx⟩
  · exact .inl h2
  · exact .inr ⟨b, off, ha, by omega, hx.mono hB⟩
theorem SlP.later {w w' : World} {a : Option Addr} {n : Nat} {zss : List (List Int)} (h : SlP w w.heap.size a n zss) (hb : Below w.heap.size w w') : SlP w' w'.heap.size a n zss := (h.below hb).mono hb.size
def atP (zss : List (List Int)) (i : Nat) : List Int := zss[i]?.getD []
theorem atP_of {zss : List (List Int)} {i : Nat} (h : i < zss.length) : zss[i]? = some (atP zss i) := by simp [atP, List.getElem?_eq_getElem h]
def lens (zss : List (List Int)) : Nat := (zss.map List.length).sum
theorem lens_take_succ {zss : List (List Int)} {j : Nat} (h : j < zss.length) : lens (zss.take (j + 1)) = lens (zss.take j) + (atP zss j).length := by
  rw [List.take_add_one, atP_of h]; simp [lens]
theorem lens_take_le (zss : List (List Int)) (j : Nat) : lens (zss.take j) ≤ lens zss := by
  have e : lens zss = lens (zss.take j) + lens (zss.drop j) := by
    rw [lens, lens, lens, ← List.sum_append, ← List.map_append, List.take_append_drop]
  omega
theorem lens_mem {zss : List (List Int)} {zs : List Int} (h : zs ∈ zss) : zs.length ≤ lens zss := by
  obtain ⟨i, hi, rfl⟩ := List.getElem_of_mem h
  have h1 := lens_take_succ hi
  have h2 := lens_take_le zss (i + 1)
  have e : atP zss i = zss[i] := by simp [atP, hi]
  rw [e] at h1
  omega
structure OwnP (w : World) (base b n : Nat) (zss : List (List Int)) (g : Nat → Nat) : Prop where
  len : zss.length = n
  cell : ∀ i zs, zss[i]? = some zs → ∃ cap, w.cell? ⟨b, i, none⟩ = some (.slice (some ⟨g i, 0, none⟩) zs.length cap) ∧ zs.length ≤ cap
  low : ∀ i, i < n → base ≤ g i
  lt : ∀ i, i < n → g i < w.heap.size
  ne : ∀ i, i < n → g i ≠ b
  nums : ∀ i zs, zss[i]? = some zs → NumsAt w (g i) 0 zs
  room : ∀ i zs, zss[i]? = some zs → Room w (g i) zs.length
  inj : ∀ i j, i < n → j < n → g i = g j → i = j
theorem OwnP.at {w : World} {base b n : Nat} {zss : List (List Int)} {g : Nat → Nat} (h : OwnP w base b n zss g) (B : Nat) (hB : w.heap.size ≤ B) : PlsAt w B b 0 zss := fun i zs e => by
  obtain ⟨cap, hc, hcp⟩ := h.cell i zs e
  have hi : i < n := by have := (List.getElem?_eq_some_iff.1 e).1; have := h.len; omega
  exact ⟨_, cap, by rw [Nat.zero_add]; exact hc, ⟨rfl, .inr ⟨g i, 0, rfl, by have := h.lt i hi; omega, h.nums i zs e⟩⟩, hcp⟩
theorem OwnP.sl {w : World} {base b n : Nat} {zss : List (List Int)} {g : Nat → Nat} (h : OwnP w base b n zss g) (hb : b < w.heap.size) : SlP w w.heap.size (some ⟨b, 0, none⟩) n zss :=
  ⟨h.len, .inr ⟨b, 0, rfl, hb, h.at _ (Nat.le_refl _)⟩⟩
theorem NumsAt.of_block {w w' : World} {b off : Nat} {zs : List Int} (h : NumsAt w b off zs) (e : w'.heap[b]? = w.heap[b]?) : NumsAt w' b off zs := fun i z hz => (World.cell?_of_block (a := ⟨b, off + i, none⟩) e).trans (h i z hz)
theorem Room.of_block {w w' : World} {b m : Nat} (h : Room w b m) (e : w'.heap[b]? = w.heap[b]?) : Room w' b m := fun j hj => by
  obtain ⟨v, h1, h2⟩ := h j hj
  exact ⟨v, (World.cell?_of_block (a := ⟨b, j, none⟩) e).trans h1, (World.frozen?_of_block (a := ⟨b, j, none⟩) e).trans h2⟩
theorem OwnP.of_blocks {w w' : World} {base b n : Nat} {zss : List (List Int)} {g : Nat → Nat} (h : OwnP w base b n zss g) (hs : w.heap.size ≤ w'.heap.size) (eb : w'.heap[b]? = w.heap[b]?) (eg : ∀ i, i < n → w'.heap[g i]? = w.heap[g i]?) : OwnP w' base b n zss g := by
  have hi : ∀ i zs, zss[i]? = some zs → i < n := fun i zs e => by have := (List.getElem?_eq_some_iff.1 e).1; have := h.len; omega
  refine ⟨h.len, fun i zs e => ?_, h.low, fun i hi => Nat.lt_of_lt_of_le (h.lt i hi) hs, h.ne, fun i zs e => (h.nums i zs e).of_block (eg i (hi i zs e)), fun i zs e => (h.room i zs e).of_block (eg i (hi i zs e)), h.inj⟩
  obtain ⟨cap, hc, hcp⟩ := h.cell i zs e
  exact ⟨cap, (World.cell?_of_block (a := ⟨b, i, none⟩) eb).trans hc, hcp⟩
theorem OwnP.later {w w' : World} {base b n : Nat} {zss : List (List Int)} {g : Nat → Nat} (h : OwnP w base b n zss g) (hb : Below w.heap.size w w') (hlt : b < w.heap.size) : OwnP w' base b n zss g :=
  h.of_blocks hb.size (hb.block b hlt) (fun i hi => hb.block _ (h.lt i hi))
theorem OwnP.snoc {w : World} {base b j : Nat} {zss : List (List Int)} {g : Nat → Nat} {zs : List Int} {q cap : Nat} (h : OwnP w base b j zss g) (hc : w.cell? ⟨b, j, none⟩ = some (.slice (some ⟨q, 0, none⟩) zs.length cap)) (hcp : zs.length ≤ cap)
    (hq : base ≤ q) (hl : q < w.heap.size) (hn : q ≠ b) (hx : NumsAt w q 0 zs) (hr : Room w q zs.length) (hf : ∀ i, i < j → g i ≠ q) : OwnP w base b (j + 1) (zss ++ [zs]) (fun i => if i = j then q else g i) := by
  have hlen := h.len
  have split : ∀ i ys, (zss ++ [zs])[i]? = some ys → (i < j ∧ zss[i]? = some ys) ∨ (i = j ∧ ys = zs) := fun i ys e => by
    by_cases hi : i < zss.length
    · rw [List.getElem?_append_left hi] at e
      exact .inl ⟨by omega, e⟩
    · rw [List.getElem?_append_right (by omega)] at e
      have h0 : i - zss.length = 0 := by
        rcases Nat.eq_zero_or_pos (i - zss.length) with h | h
        · exact h
        · rw [List.getElem?_eq_none (by simp; omega)] at e; cases e
      rw [h0] at e
      simp at e
      exact .inr ⟨by omega, e.symm⟩
  refine ⟨by simp [hlen], fun i ys e => ?_, fun i hi => ?_, fun i hi => ?_, fun i hi => ?_, fun i ys e => ?_, fun i ys e => ?_, fun i k hi hk e => ?_⟩
  · rcases split i ys e with ⟨hi, e⟩ | ⟨rfl, rfl⟩
    · rw [if_neg (by omega)]; exact h.cell i ys e
    · rw [if_pos rfl]; exact ⟨cap, hc, hcp⟩
  · by_cases e : i = j
    · rw [if_pos e]; exact hq
    · rw [if_neg e]; exact h.low i (by omega)
  · by_cases e : i = j
    · rw [if_pos e]; exact hl
    · rw [if_neg e]; exact h.lt i (by omega)
  · by_cases e : i = j
    · rw [if_pos e]; exact hn
    · rw [if_neg e]; exact h.ne i (by omega)
  · rcases split i ys e with ⟨hi, e⟩ | ⟨rfl, rfl⟩
    · rw [if_neg (by omega)]; exact h.nums i ys e
    · rw [if_pos rfl]; exact hx
  · rcases split i ys e with ⟨hi, e⟩ | ⟨rfl, rfl⟩
    · rw [if_neg (by omega)]; exact h.room i ys e
    · rw [if_pos rfl]; exact hr
  · by_cases ei : i = j <;> by_cases ek : k = j
    · omega
    · simp only [if_pos ei, if_neg ek] at e; exact absurd e.symm (hf k (by omega))
    · simp only [if_neg ei, if_pos ek] at e; exact absurd e (hf i (by omega))
    · simp only [if_neg ei, if_neg ek] at e; exact h.inj i k (by omega) (by omega) e
theorem OwnP.nil (w : World) (base b : Nat) (g : Nat → Nat) : OwnP w base b 0 [] g :=
  ⟨rfl, fun i zs e => by simp at e, fun i h => by omega, fun i h => by omega, fun i h => by omega, fun i zs e => by simp at e, fun i zs e => by simp at e, fun i j h => by omega⟩
structure R4 where
  kind : Int
  tx : Int
  region : Int
  sets : List S5
structure K2 where
  region : Int
  cells : List C2
structure M4 where
  alive : Bool
  copies : List K2
  log : List R4
  cleared : List Int
structure RecAt (w : World) (B b o : Nat) (r : R4) : Prop where
  c0 : w.cell? ⟨b, o, none⟩ = some (.int .i64 r.kind)
  c1 : w.cell? ⟨b, o + 1, none⟩ = some (.int .i64 r.tx)
  c2 : w.cell? ⟨b, o + 2, none⟩ = some (.int .i64 r.region)
  c3 : ∃ a cap, w.cell? ⟨b, o + 3, none⟩ = some (.slice a r.sets.length cap) ∧ Sl w B a r.sets.length r.sets ∧ r.sets.length ≤ cap
theorem RecAt.below {w w' : World} {B b o : Nat} {r : R4} (h : RecAt w B b o r) (hb : Below B w w') (hB : b < B) : RecAt w' B b o r :=
  ⟨(hb.cell (p := ⟨b, o, none⟩) hB).trans h.c0, (hb.cell (p := ⟨b, o + 1, none⟩) hB).trans h.c1, (hb.cell (p := ⟨b, o + 2, none⟩) hB).trans h.c2, by
    obtain ⟨a, cap, h1, h2, h3⟩ := h.c3
    exact ⟨a, cap, (hb.cell (p := ⟨b, o + 3, none⟩) hB).trans h1, h2.below hb, h3⟩⟩
theorem RecAt.mono {w : World} {B B' b o : Nat} {r : R4} (h : RecAt w B b o r) (hB : B ≤ B') : RecAt w B' b o r :=
  ⟨h.c0, h.c1, h.c2, by
    obtain ⟨a, cap, h1, h2, h3⟩ := h.c3
    exact ⟨a, cap, h1, h2.mono hB, h3⟩⟩
def RecsAt (w : World) (B b off : Nat) (rs : List R4) : Prop := ∀ i r, rs[i]? = some r → RecAt w B b (off + i * 4) r
def SlR (w : World) (B : Nat) (a : Option Addr) (n : Nat) (rs : List R4) : Prop := rs.length = n ∧ (n = 0 ∨ ∃ b off, a = some ⟨b, off, none⟩ ∧ b < B ∧ RecsAt w B b off rs)
theorem SlR.later {w w' : World} {a : Option Addr} {n : Nat} {rs : List R4} (h : SlR w w.heap.size a n rs) (hb : Below w.heap.size w w') : SlR w' w'.heap.size a n rs := by
  obtain ⟨h1, h2⟩ := h
  refine ⟨h1, h2.imp id ?_⟩
  rintro ⟨b, off, ha, hB, hx⟩
  exact ⟨b, off, ha, Nat.lt_of_lt_of_le hB hb.size, fun i r e => ((hx i r e).below hb hB).mono hb.size⟩
structure CopAt (w : World) (B b o : Nat) (k : K2) : Prop where
  c0 : w.cell? ⟨b, o, none⟩ = some (.int .i64 k.region)
  c1 : ∃ a cap, w.cell? ⟨b, o + 1, none⟩ = some (.slice a k.cells.length cap) ∧ SlC w B a k.cells.length k.cells ∧ k.cells.length ≤ cap
theorem CopAt.below {w w' : World} {B b o : Nat} {k : K2} (h : CopAt w B b o k) (hb : Below B w w') (hB : b < B) : CopAt w' B b o k :=
  ⟨(hb.cell (p := ⟨b, o, none⟩) hB).trans h.c0, by
    obtain ⟨a, cap, h1, h2, h3⟩ := h.c1
    exact ⟨a, cap, (hb.cell (p := ⟨b, o + 1, none⟩) hB).trans h1, h2.below hb, h3⟩⟩
theorem CopAt.mono {w : World} {B B' b o : Nat} {k : K2} (h : CopAt w B b o k) (hB : B ≤ B') : CopAt w B' b o k :=
  ⟨h.c0, by
    obtain ⟨a, cap, h1, h2, h3⟩ := h.c1
    exact ⟨a, cap, h1, h2.mono hB, h3⟩⟩
def CopsAt (w : World) (B b off : Nat) (ks : List K2) : Prop := ∀ i k, ks[i]? = some k → CopAt w B b (off + i * 2) k
def SlK (w : World) (B : Nat) (a : Option Addr) (n : Nat) (ks : List K2) : Prop := ks.length = n ∧ (n = 0 ∨ ∃ b off, a = some ⟨b, off, none⟩ ∧ b < B ∧ CopsAt w B b off ks)
theorem SlK.later {w w' : World} {a : Option Addr} {n : Nat} {ks : List K2} (h : SlK w w.heap.size a n ks) (hb : Below w.heap.size w w') : SlK w' w'.heap.size a n ks := by
  obtain ⟨h1, h2⟩ := h
  refine ⟨h1, h2.imp id ?_⟩
  rintro ⟨b, off, ha, hB, hx⟩
  exact ⟨b, off, ha, Nat.lt_of_lt_of_le hB hb.size, fun i k e => ((hx i k e).below hb hB).mono hb.size⟩
def atR (rs : List R4) (i : Nat) : R4 := rs[i]?.getD ⟨0, 0, 0, []⟩
theorem atR_of {rs : List R4} {i : Nat} (h : i < rs.length) : rs[i]? = some (atR rs i) := by simp [atR, List.getElem?_eq_getElem h]
def atK (ks : List K2) (i : Nat) : K2 := ks[i]?.getD ⟨0, []⟩
theorem atK_of {ks : List K2} {i : Nat} (h : i < ks.length) : ks[i]? = some (atK ks i) := by simp [atK, List.getElem?_eq_getElem h]
structure MV where
  ac : Option Addr
  cc : Nat
  al : Option Addr
  cl : Nat
  ad : Option Addr
  cd : Nat
def MV.val (v : MV) (m : M4) : Value := .agg #[.bool m.alive, .slice v.ac m.copies.length v.cc, .slice v.al m.log.length v.cl, .slice v.ad m.cleared.length v.cd]
structure SlM (w : World) (v : MV) (m : M4) : Prop where
  k : SlK w w.heap.size v.ac m.copies.length m.copies
  r : SlR w w.heap.size v.al m.log.length m.log
  n : SlN w w.heap.size v.ad m.cleared.length m.cleared
theorem SlM.later {w w' : World} {v : MV} {m : M4} (h : SlM w v m) (hb : Below w.heap.size w w') : SlM w' v m := ⟨h.k.later hb, h.r.later hb, h.n.later hb⟩
def lensR (rs : List R4) : Nat := (rs.map fun r => r.sets.length).sum
def lensK (ks : List K2) : Nat := (ks.map fun k => k.cells.length).sum
theorem sum_take_succ {ns : List Nat} {j x : Nat} (h : ns[j]? = some x) : (ns.take (j + 1)).sum = (ns.take j).sum + x := by
  rw [List.take_add_one, h]; simp
theorem sum_take_le (ns : List Nat) (j : Nat) : (ns.take j).sum ≤ ns.sum := by
  conv => rhs; rw [← List.take_append_drop j ns, List.sum_append]
  omega
theorem sum_mem {ns : List Nat} {x : Nat} (h : x ∈ ns) : x ≤ ns.sum := by
  induction ns with
  | nil => cases h
  | cons y r ih =>
    rcases List.mem_cons.1 h with rfl | h
    · simp
    · have := ih h; simp; omega
structure OwnG {α : Type} (sz : Nat) (hd : α → List Int) (ln : α → Nat) (At : World → Nat → α → Prop) (w : World) (base b n : Nat) (rs : List α) (g : Nat → Nat) : Prop where
  len : rs.length = n
  head : ∀ i r, rs[i]? = some r → ∀ t z, (hd r)[t]? = some z → w.cell? ⟨b, i * sz + t, none⟩ = some (.int .i64 z)
  tail : ∀ i r, rs[i]? = some r → ∃ cap, w.cell? ⟨b, i * sz + (sz - 1), none⟩ = some (.slice (some ⟨g i, 0, none⟩) (ln r) cap) ∧ ln r ≤ cap
  low : ∀ i, i < n → base ≤ g i
  lt : ∀ i, i < n → g i < w.heap.size
  ne : ∀ i, i < n → g i ≠ b
  sub : ∀ i r, rs[i]? = some r → At w (g i) r
  inj : ∀ i j, i < n → j < n → g i = g j → i = j
theorem OwnG.idx {α : Type} {sz : Nat} {hd : α → List Int} {ln : α → Nat} {At : World → Nat → α → Prop} {w : World} {base b n : Nat} {rs : List α} {g : Nat → Nat} (h : OwnG sz hd ln At w base b n rs g) {i : Nat} {r : α} (e : rs[i]? = some r) : i < n := by
  have := (List.getElem?_eq_some_iff.1 e).1; have := h.len; omega
theorem OwnG.nil {α : Type} {sz : Nat} {hd : α → List Int} {ln : α → Nat} {At : World → Nat → α → Prop} (w : World) (base b : Nat) (g : Nat → Nat) : OwnG sz hd ln At w base b 0 [] g :=
  ⟨rfl, fun i r e => by simp at e, fun i r e => by simp at e, fun i h => by omega, fun i h => by omega, fun i h => by omega, fun i r e => by simp at e, fun i j h => by omega⟩
theorem OwnG.of_blocks {α : Type} {sz : Nat} {hd : α → List Int} {ln : α → Nat} {At : World → Nat → α → Prop} (hAt : ∀ (w w' : World) (b : Nat) (r : α), w'.heap[b]? = w.heap[b]? → At w b r → At w' b r) {w w' : World} {base b n : Nat} {rs : List α} {g : Nat → Nat} (h : OwnG sz hd ln At w base b n rs g) (hs : w.heap.size ≤ w'.heap.size) (eb : w'.heap[b]? = w.heap[b]?) (eg : ∀ i, i < n → w'.heap[g i]? = w.heap[g i]?) : OwnG sz hd ln At w' base b n rs g := by
  refine ⟨h.len, fun i r e t z ht => (World.cell?_of_block (a := ⟨b, i * sz + t, none⟩) eb).trans (h.head i r e t z ht), fun i r e => ?_, h.low, fun i hi => Nat.lt_of_lt_of_le (h.lt i hi) hs, h.ne, fun i r e => hAt _ _ _ _ (eg i (h.idx e)) (h.sub i r e), h.inj⟩
  obtain ⟨cap, h1, h2⟩ := h.tail i r e
  exact ⟨cap, (World.cell?_of_block (a := ⟨b, i * sz + (sz - 1), none⟩) eb).trans h1, h2⟩
theorem OwnG.later {α : Type} {sz : Nat} {hd : α → List Int} {ln : α → Nat} {At : World → Nat → α → Prop} (hAt : ∀ (w w' : World) (b : Nat) (r : α), w'.heap[b]? = w.heap[b]? → At w b r → At w' b r) {w w' : World} {base b n : Nat} {rs : List α} {g : Nat → Nat} (h : OwnG sz hd ln At w base b n rs g) (hb : Below w.heap.size w w') (hlt : b < w.heap.size) : OwnG sz hd ln At w' base b n rs g :=
  h.of_blocks hAt hb.size (hb.block b hlt) (fun i hi => hb.block _ (h.lt i hi))
theorem OwnG.next {α : Type} {sz : Nat} {hd : α → List Int} {ln : α → Nat} {At : World → Nat → α → Prop} (hAt : ∀ (w w' : World) (b : Nat) (r : α), w'.heap[b]? = w.heap[b]? → At w b r → At w' b r) {w V : World} {base b j : Nat} {rs : List α} {g : Nat → Nat} {r : α} {q cap : Nat} (h : OwnG sz hd ln At w base b j rs g) (hz : 0 < sz) (hh : ∀ r : α, (hd r).length < sz)
    (hs : w.heap.size ≤ V.heap.size) (hb : ∀ x, x ≠ b → V.heap[x]? = w.heap[x]?) (hold : ∀ o, o < j * sz → V.cell? ⟨b, o, none⟩ = w.cell? ⟨b, o, none⟩) (hhd : ∀ t z, (hd r)[t]? = some z → V.cell? ⟨b, j * sz + t, none⟩ = some (.int .i64 z)) (htl : V.cell? ⟨b, j * sz + (sz - 1), none⟩ = some (.slice (some ⟨q, 0, none⟩) (ln r) cap)) (hcp : ln r ≤ cap)
    (hq : base ≤ q) (hl : q < V.heap.size) (hn : q ≠ b) (hat : At V q r) (hf : ∀ i, i < j → g i ≠ q) : OwnG sz hd ln At V base b (j + 1) (rs ++ [r]) (fun i => if i = j then q else g i) := by
  have hlen := h.len
  have lo : ∀ i t, i < j → t < sz → i * sz + t < j * sz := fun i t hi ht => by
    have : (i + 1) * sz ≤ j * sz := Nat.mul_le_mul_right sz (by omega)
    rw [Nat.add_mul] at this; omega
  have split : ∀ i y, (rs ++ [r])[i]? = some y → (i < j ∧ rs[i]? = some y) ∨ (i = j ∧ y = r) := fun i y e => by
    by_cases hi : i < rs.length
    · rw [List.getElem?_append_left hi] at e
      exact .inl ⟨by omega, e⟩
    · rw [List.getElem?_append_right (by omega)] at e
      have h0 : i - rs.length = 0 := by
        rcases Nat.eq_zero_or_pos (i - rs.length) with h | h
        · exact h
        · rw [List.getElem?_eq_none (by simp; omega)] at e; cases e
      rw [h0] at e
      simp at e
      exact .inr ⟨by omega, e.symm⟩
  refine ⟨by simp [hlen], fun i y e t z ht => ?_, fun i y e => ?_, fun i hi => ?_, fun i hi => ?_, fun i hi => ?_, fun i y e => ?_, fun i k hi hk e => ?_⟩
  · rcases split i y e with ⟨hi, e⟩ | ⟨rfl, rfl⟩
    · rw [hold _ (lo i t hi (Nat.lt_trans (List.getElem?_eq_some_iff.1 ht).1 (hh y)))]; exact h.head i y e t z ht
    · exact hhd t z ht
  · rcases split i y e with ⟨hi, e⟩ | ⟨rfl, rfl⟩
    · rw [if_neg (by omega), hold _ (lo i _ hi (by omega))]; exact h.tail i y e
    · rw [if_pos rfl]; exact ⟨cap, htl, hcp⟩
  · by_cases e : i = j
    · rw [if_pos e]; exact hq
    · rw [if_neg e]; exact h.low i (by omega)
  · by_cases e : i = j
    · rw [if_pos e]; exact hl
    · rw [if_neg e]; exact Nat.lt_of_lt_of_le (h.lt i (by omega)) hs
  · by_cases e : i = j
    · rw [if_pos e]; exact hn
    · rw [if_neg e]; exact h.ne i (by omega)
  · rcases split i y e with ⟨hi, e⟩ | ⟨rfl, rfl⟩
    · rw [if_neg (by omega)]; exact hAt _ _ _ _ (hb _ (h.ne i hi)) (h.sub i y e)
    · rw [if_pos rfl]; exact hat
  · by_cases ei : i = j <;> by_cases ek : k = j
    · omega
    · simp only [if_pos ei, if_neg ek] at e; exact absurd e.symm (hf k (by omega))
    · simp only [if_neg ei, if_pos ek] at e; exact absurd e (hf i (by omega))
    · simp only [if_neg ei, if_neg ek] at e; exact h.inj i k (by omega) (by omega) e
end Go.Proofs.YtnhjgomfkfehgaaGreatDoor
namespace Go.Proofs.YtnhjgomfkfehgaaGreatDoor
open Go.RowKit
open Go.Sort (grow)
set_option maxHeartbeats 1000000 in
theorem toSetS_someR (w : World) (b off n cap : Nat) (xs : List S5) (hx : xs.length = n) (hn : n ≤ 1048576) (hb : b < w.heap.size) (hs : SetsAt w b off xs) : Calls Tryz.prog 145 #[.slice (some ⟨b, off, none⟩) n cap] w fun e w' =>
    e = .returned (.slice (some ⟨w.heap.size, 0, none⟩) n n) ∧ Below w.heap.size w w' ∧ w.heap.size < w'.heap.size ∧ SetsAt w' w.heap.size 0 xs ∧ Room w' w.heap.size (n * 5) := by
  have hmk := make_sets n hn
  go_enter Tryz.func145, Tryz.ntmps145
  go_wp2
  go_loopw [4] (fun i wr => ∃ k : Nat, k ≤ n ∧ i = .int .i64 k ∧ Below w.heap.size w wr ∧ w.heap.size < wr.heap.size ∧ Room wr w.heap.size (n * 5) ∧ SetsAt wr w.heap.size 0 (xs.take k))
     (fun i _ => n - (intOf i).toNat)
  case atStart => exact ⟨0, Nat.zero_le _, rfl, (Below.refl _ _).alloc (Nat.le_refl _) _, by simp, room_made _ _ _ _, fun i s e => by simp at e⟩
  case round =>
    obtain ⟨k, hk, rfl, hbl, hsz, hro, hdo⟩ := hrel
    by_cases hlt : k < n
    · have hs' := hs.below hbl hb
      obtain ⟨s, hsk⟩ : ∃ s, xs[k]? = some s := ⟨xs[k]'(by omega), by simp⟩
      obtain ⟨c0, c1, c2, c3, c4⟩ := hs' k s hsk
      clear hs' hmk
      have K : Hid (Room wr w.heap.size (n * 5) ∧ SetsAt wr w.heap.size 0 (xs.take k) ∧ xs[k]? = some s ∧ Below w.heap.size w wr) := ⟨hro, hdo, hsk, hbl⟩
      clear hro hdo hsk hbl
      go_wp2_with fail
      refine (toSet_any _ s).mono ?_
      rintro e w1 ⟨rfl, b1⟩
      obtain ⟨hro, hdo, hsk, hbl⟩ := K.out
      have hro1 := hro.below b1 hsz
      have hdo1 := hdo.below b1 hsz
      obtain ⟨v0, d0, f0⟩ := hro1 (k * 5) (by omega)
      obtain ⟨v1, d1, f1⟩ := hro1 (k * 5 + 1) (by omega)
      obtain ⟨v2, d2, f2⟩ := hro1 (k * 5 + 2) (by omega)
      obtain ⟨v3, d3, f3⟩ := hro1 (k * 5 + 3) (by omega)
      obtain ⟨v4, d4, f4⟩ := hro1 (k * 5 + 4) (by omega)
      clear hro hdo hsk hbl
      have K2 : Hid (Room w1 w.heap.size (n * 5) ∧ SetsAt w1 w.heap.size 0 (xs.take k)) := ⟨hro1, hdo1⟩
      clear hro1 hdo1
      go_wp2
      obtain ⟨hro, hdo, hsk, hbl⟩ := K.out
      obtain ⟨hro1, hdo1⟩ := K2.out
      have hbl1 := hbl.trans (b1.mono (Nat.le_of_lt hsz))
      refine ⟨⟨k + 1, by omega, by simp, ((((hbl1.setCell (p := ⟨w.heap.size, k * 5, none⟩) (Nat.le_refl _) _).setCell (p := ⟨w.heap.size, k * 5 + 1, none⟩) (Nat.le_refl _) _).setCell (p := ⟨w.heap.size, k * 5 + 2, none⟩) (Nat.le_refl _) _).setCell (p := ⟨w.heap.size, k * 5 + 3, none⟩) (Nat.le_refl _) _).setCell (p := ⟨w.heap.size, k * 5 + 4, none⟩) (Nat.le_refl _) _,
        by have := b1.size; simp [World.setCell]; omega, ((((hro1.set _).set _).set _).set _).set _, hdo1.put hsk hro1 (by omega)⟩, by simp [intOf]; omega⟩
    · have : k = n := by omega
      subst this
      have hd : decide (k < k) = false := by simp
      go_wp2
      go_ret
      refine ⟨rfl, hbl, hsz, ?_, hro⟩
      rw [← hx, List.take_length] at hdo
      exact hdo
theorem toSetS_anyR (w : World) (a : Option Addr) (n cap : Nat) (xs : List S5) (hn : n ≤ 1048576) (hs : Sl w w.heap.size a n xs) : Calls Tryz.prog 145 #[.slice a n cap] w fun e w' =>
    e = .returned (.slice (some ⟨w.heap.size, 0, none⟩) n n) ∧ Below w.heap.size w w' ∧ w.heap.size < w'.heap.size ∧ SetsAt w' w.heap.size 0 xs ∧ Room w' w.heap.size (n * 5) := by
  obtain ⟨h1, h2⟩ := hs
  rcases h2 with rfl | ⟨b, off, rfl, hb, hx⟩
  · refine (toSetS_none w a cap).mono ?_
    rintro e w' ⟨rfl, h, h'⟩
    exact ⟨rfl, h, h', (fun i s e => by rw [List.eq_nil_of_length_eq_zero h1] at e; simp at e), fun j hj => by omega⟩
  · exact toSetS_someR w b off n cap xs h1 hn hb hx
set_option maxHeartbeats 1000000 in
theorem toCellS_someR (w : World) (b off n cap : Nat) (xs : List C2) (hx : xs.length = n) (hn : n ≤ 1048576) (hb : b < w.heap.size) (hs : CellsAt w b off xs) : Calls Tryz.prog 225 #[.slice (some ⟨b, off, none⟩) n cap] w fun e w' =>
    e = .returned (.slice (some ⟨w.heap.size, 0, none⟩) n n) ∧ Below w.heap.size w w' ∧ w.heap.size < w'.heap.size ∧ CellsAt w' w.heap.size 0 xs ∧ Room w' w.heap.size (n * 2) := by
  have hmk := make_cells n hn
  go_enter Tryz.func225, Tryz.ntmps225
  go_wp2
  go_loopw [4] (fun i wr => ∃ k : Nat, k ≤ n ∧ i = .int .i64 k ∧ Below w.heap.size w wr ∧ w.heap.size < wr.heap.size ∧ Room wr w.heap.size (n * 2) ∧ CellsAt wr w.heap.size 0 (xs.take k))
     (fun i _ => n - (intOf i).toNat)
  case atStart => exact ⟨0, Nat.zero_le _, rfl, (Below.refl _ _).alloc (Nat.le_refl _) _, by simp, room_made _ _ _ _, fun i s e => by simp at e⟩
  case round =>
    obtain ⟨k, hk, rfl, hbl, hsz, hro, hdo⟩ := hrel
    by_cases hlt : k < n
    · have hs' := hs.below hbl hb
      obtain ⟨s, hsk⟩ : ∃ s, xs[k]? = some s := ⟨xs[k]'(by omega), by simp⟩
      obtain ⟨c0, c1⟩ := hs' k s hsk
      clear hs' hmk
      have K : Hid (Room wr w.heap.size (n * 2) ∧ CellsAt wr w.heap.size 0 (xs.take k) ∧ xs[k]? = some s ∧ Below w.heap.size w wr) := ⟨hro, hdo, hsk, hbl⟩
      clear hro hdo hsk hbl
      go_wp2_with fail
      refine (toCell_any _ s).mono ?_
      rintro e w1 ⟨rfl, b1⟩
      obtain ⟨hro, hdo, hsk, hbl⟩ := K.out
      have hro1 := hro.below b1 hsz
      have hdo1 := hdo.below b1 hsz
      obtain ⟨v0, d0, f0⟩ := hro1 (k * 2) (by omega)
      obtain ⟨v1, d1, f1⟩ := hro1 (k * 2 + 1) (by omega)
      clear hro hdo hsk hbl
      have K2 : Hid (Room w1 w.heap.size (n * 2) ∧ CellsAt w1 w.heap.size 0 (xs.take k)) := ⟨hro1, hdo1⟩
      clear hro1 hdo1
      go_wp2
      obtain ⟨hro, hdo, hsk, hbl⟩ := K.out
      obtain ⟨hro1, hdo1⟩ := K2.out
      have hbl1 := hbl.trans (b1.mono (Nat.le_of_lt hsz))
      refine ⟨⟨k + 1, by omega, by simp, (hbl1.setCell (p := ⟨w.heap.size, k * 2, none⟩) (Nat.le_refl _) _).setCell (p := ⟨w.heap.size, k * 2 + 1, none⟩) (Nat.le_refl _) _,
        by have := b1.size; simp [World.setCell]; omega, (hro1.set _).set _, hdo1.put hsk hro1 (by omega)⟩, by simp [intOf]; omega⟩
    · have : k = n := by omega
      subst this
      have hd : decide (k < k) = false := by simp
      go_wp2
      go_ret
      refine ⟨rfl, hbl, hsz, ?_, hro⟩
      rw [← hx, List.take_length] at hdo
      exact hdo
theorem toCellS_anyR (w : World) (a : Option Addr) (n cap : Nat) (xs : List C2) (hn : n ≤ 1048576) (hs : SlC w w.heap.size a n xs) : Calls Tryz.prog 225 #[.slice a n cap] w fun e w' =>
    e = .returned (.slice (some ⟨w.heap.size, 0, none⟩) n n) ∧ Below w.heap.size w w' ∧ w.heap.size < w'.heap.size ∧ CellsAt w' w.heap.size 0 xs ∧ Room w' w.heap.size (n * 2) := by
  obtain ⟨h1, h2⟩ := hs
  rcases h2 with rfl | ⟨b, off, rfl, hb, hx⟩
  · refine (toCellS_none w a cap).mono ?_
    rintro e w' ⟨rfl, h, h'⟩
    exact ⟨rfl, h, h', (fun i s e => by rw [List.eq_nil_of_length_eq_zero h1] at e; simp at e), fun j hj => by omega⟩
  · exact toCellS_someR w b off n cap xs h1 hn hb hx
set_option maxHeartbeats 1000000 in
theorem toRecord_anyR (w : World) (k t r : Int) (a : Option Addr) (n cap : Nat) (xs : List S5) (hn : n ≤ 1048576) (hs : Sl w w.heap.size a n xs) : Calls Tryz.prog 182 #[.agg #[.int .i64 k, .int .i64 t, .int .i64 r, .slice a n cap]] w fun e w' =>
    ∃ g, e = .returned (.agg #[.int .i64 k, .int .i64 t, .int .i64 r, .slice (some ⟨g, 0, none⟩) n n]) ∧ Below w.heap.size w w' ∧ w.heap.size ≤ g ∧ g < w'.heap.size ∧ SetsAt w' g 0 xs ∧ Room w' g (n * 5) := by
  go_enter Tryz.func182, Tryz.ntmps182
  go_wp2_with fail
  generalize hW : ((w.alloc (.cells #[.int .i64 k, .int .i64 t, .int .i64 r, .slice a n cap] 227)).alloc (.cells #[.int .i64 0, .int .i64 0, .int .i64 0, .slice none 0 0] 178)).alloc (.cells #[.int .i64 k, .int .i64 t, .int .i64 r, .slice none 0 0] 178) = W
  have hsz : W.heap.size = w.heap.size + 3 := by subst hW; simp
  have bW : Below w.heap.size w W := by subst hW; exact (((Below.refl _ _).alloc (Nat.le_refl _) _).alloc (by simp) _).alloc (by simp; omega) _
  have d0 : W.cell? ⟨w.heap.size + 1 + 1, 0, none⟩ = some (.int .i64 k) := by subst hW; go_simp
  have d1 : W.cell? ⟨w.heap.size + 1 + 1, 1, none⟩ = some (.int .i64 t) := by subst hW; go_simp
  have d2 : W.cell? ⟨w.heap.size + 1 + 1, 2, none⟩ = some (.int .i64 r) := by subst hW; go_simp
  have d3 : W.cell? ⟨w.heap.size + 1 + 1, 3, none⟩ = some (.slice none 0 0) := by subst hW; go_simp
  have e0 : W.cell? ⟨w.heap.size + 1, 0, none⟩ = some (.int .i64 0) := by subst hW; go_simp
  have e1 : W.cell? ⟨w.heap.size + 1, 1, none⟩ = some (.int .i64 0) := by subst hW; go_simp
  have e2 : W.cell? ⟨w.heap.size + 1, 2, none⟩ = some (.int .i64 0) := by subst hW; go_simp
  have e3 : W.cell? ⟨w.heap.size + 1, 3, none⟩ = some (.slice none 0 0) := by subst hW; go_simp
  have f3 : W.frozen? ⟨w.heap.size + 1 + 1, 3, none⟩ = false := by subst hW; go_simp
  have g0 : ∀ j, W.frozen? ⟨w.heap.size + 1, j, none⟩ = false := by intro j; subst hW; go_simp
  clear hW
  have hs3 : Sl W W.heap.size a n xs := (hs.below bW).mono (by omega)
  refine (toSetS_anyR _ a n cap xs hn hs3).mono ?_
  rintro e w1 ⟨rfl, b1, l1, s1, r1⟩
  rw [← b1.cell (p := ⟨w.heap.size + 1 + 1, 0, none⟩) (by simp; omega)] at d0
  rw [← b1.cell (p := ⟨w.heap.size + 1 + 1, 1, none⟩) (by simp; omega)] at d1
  rw [← b1.cell (p := ⟨w.heap.size + 1 + 1, 2, none⟩) (by simp; omega)] at d2
  rw [← b1.cell (p := ⟨w.heap.size + 1 + 1, 3, none⟩) (by simp; omega)] at d3
  rw [← b1.cell (p := ⟨w.heap.size + 1, 0, none⟩) (by simp; omega)] at e0
  rw [← b1.cell (p := ⟨w.heap.size + 1, 1, none⟩) (by simp; omega)] at e1
  rw [← b1.cell (p := ⟨w.heap.size + 1, 2, none⟩) (by simp; omega)] at e2
  rw [← b1.cell (p := ⟨w.heap.size + 1, 3, none⟩) (by simp; omega)] at e3
  rw [← b1.frozen (p := ⟨w.heap.size + 1 + 1, 3, none⟩) (by simp; omega)] at f3
  have g0' := (b1.frozen (p := ⟨w.heap.size + 1, 0, none⟩) (by simp; omega)).trans (g0 0)
  have g1' := (b1.frozen (p := ⟨w.heap.size + 1, 1, none⟩) (by simp; omega)).trans (g0 1)
  have g2' := (b1.frozen (p := ⟨w.heap.size + 1, 2, none⟩) (by simp; omega)).trans (g0 2)
  have g3' := (b1.frozen (p := ⟨w.heap.size + 1, 3, none⟩) (by simp; omega)).trans (g0 3)
  have K : Hid (SetsAt w1 W.heap.size 0 xs ∧ Room w1 W.heap.size (n * 5)) := ⟨s1, r1⟩
  have K2 : Hid (W.heap.size = w.heap.size + 3) := hsz
  clear s1 r1 g0 hs3 hsz
  go_wp2
  have hsz := K2.out
  refine bodyPost_ret (v := .agg #[.int .i64 k, .int .i64 t, .int .i64 r, .slice (some ⟨W.heap.size, 0, none⟩) n n]) (by simp [results, Tryz.results182, go_sem, e0, e1, e2, e3]) rfl ⟨W.heap.size, rfl, ?_, by omega, ?_, ?_, ?_⟩
  · exact (((((bW.trans (b1.mono (by omega))).setCell (p := ⟨_, _, none⟩) (by simp; omega) _).setCell (p := ⟨_, _, none⟩) (by simp) _).setCell (p := ⟨_, _, none⟩) (by simp) _).setCell (p := ⟨_, _, none⟩) (by simp) _).setCell (p := ⟨_, _, none⟩) (by simp) _
  · simpa [World.setCell] using l1
  · exact ((((K.out.1.far (by simp; omega) _).far (by simp; omega) _).far (by simp; omega) _).far (by simp; omega) _).far (by simp; omega) _
  · exact K.out.2.of_block ((Below.heap_setCell _ _ _ _ (by simp; omega)).trans ((Below.heap_setCell _ _ _ _ (by simp; omega)).trans ((Below.heap_setCell _ _ _ _ (by simp; omega)).trans ((Below.heap_setCell _ _ _ _ (by simp; omega)).trans (Below.heap_setCell _ _ _ _ (by simp; omega))))))
end Go.Proofs.YtnhjgomfkfehgaaGreatDoor
namespace Go.Proofs.YtnhjgomfkfehgaaGreatDoor
open Go.RowKit
set_option maxHeartbeats 1000000 in
theorem toCopy_anyR (w : World) (r : Int) (a : Option Addr) (n cap : Nat) (xs : List C2) (hn : n ≤ 1048576) (hs : SlC w w.heap.size a n xs) : Calls Tryz.prog 181 #[.agg #[.int .i64 r, .slice a n cap]] w fun e w' =>
    ∃ g, e = .returned (.agg #[.int .i64 r, .slice (some ⟨g, 0, none⟩) n n]) ∧ Below w.heap.size w w' ∧ w.heap.size ≤ g ∧ g < w'.heap.size ∧ CellsAt w' g 0 xs ∧ Room w' g (n * 2) := by
  go_enter Tryz.func181, Tryz.ntmps181
  go_wp2_with fail
  generalize hW : ((w.alloc (.cells #[.int .i64 r, .slice a n cap] 224)).alloc (.cells #[.int .i64 0, .slice none 0 0] 99)).alloc (.cells #[.int .i64 r, .slice none 0 0] 99) = W
  have hsz : W.heap.size = w.heap.size + 3 := by subst hW; simp
  have bW : Below w.heap.size w W := by subst hW; exact (((Below.refl _ _).alloc (Nat.le_refl _) _).alloc (by simp) _).alloc (by simp; omega) _
  have d0 : W.cell? ⟨w.heap.size + 1 + 1, 0, none⟩ = some (.int .i64 r) := by subst hW; go_simp
  have d1 : W.cell? ⟨w.heap.size + 1 + 1, 1, none⟩ = some (.slice none 0 0) := by subst hW; go_simp
  have e0 : W.cell? ⟨w.heap.size + 1, 0, none⟩ = some (.int .i64 0) := by subst hW; go_simp
  have e1 : W.cell? ⟨w.heap.size + 1, 1, none⟩ = some (.slice none 0 0) := by subst hW; go_simp
  have f1 : W.frozen? ⟨w.heap.size + 1 + 1, 1, none⟩ = false := by subst hW; go_simp
  have g0 : ∀ j, W.frozen? ⟨w.heap.size + 1, j, none⟩ = false := by intro j; subst hW; go_simp
  clear hW
  have hs3 : SlC W W.heap.size a n xs := (hs.below bW).mono (by omega)
  refine (toCellS_anyR _ a n cap xs hn hs3).mono ?_
  rintro e w1 ⟨rfl, b1, l1, s1, r1⟩
  rw [← b1.cell (p := ⟨w.heap.size + 1 + 1, 0, none⟩) (by simp; omega)] at d0
  rw [← b1.cell (p := ⟨w.heap.size + 1 + 1, 1, none⟩) (by simp; omega)] at d1
  rw [← b1.cell (p := ⟨w.heap.size + 1, 0, none⟩) (by simp; omega)] at e0
  rw [← b1.cell (p := ⟨w.heap.size + 1, 1, none⟩) (by simp; omega)] at e1
  rw [← b1.frozen (p := ⟨w.heap.size + 1 + 1, 1, none⟩) (by simp; omega)] at f1
  have g0' := (b1.frozen (p := ⟨w.heap.size + 1, 0, none⟩) (by simp; omega)).trans (g0 0)
  have g1' := (b1.frozen (p := ⟨w.heap.size + 1, 1, none⟩) (by simp; omega)).trans (g0 1)
  have K : Hid (CellsAt w1 W.heap.size 0 xs ∧ Room w1 W.heap.size (n * 2)) := ⟨s1, r1⟩
  have K2 : Hid (W.heap.size = w.heap.size + 3) := hsz
  clear s1 r1 g0 hs3 hsz
  go_wp2
  have hsz := K2.out
  refine bodyPost_ret (v := .agg #[.int .i64 r, .slice (some ⟨W.heap.size, 0, none⟩) n n]) (by simp [results, Tryz.results181, go_sem, e0, e1]) rfl ⟨W.heap.size, rfl, ?_, by omega, ?_, ?_, ?_⟩
  · exact (((bW.trans (b1.mono (by omega))).setCell (p := ⟨_, _, none⟩) (by simp; omega) _).setCell (p := ⟨_, _, none⟩) (by simp) _).setCell (p := ⟨_, _, none⟩) (by simp) _
  · simpa [World.setCell] using l1
  · exact ((K.out.1.far (by simp; omega) _).far (by simp; omega) _).far (by simp; omega) _
  · exact K.out.2.of_block ((Below.heap_setCell _ _ _ _ (by simp; omega)).trans ((Below.heap_setCell _ _ _ _ (by simp; omega)).trans (Below.heap_setCell _ _ _ _ (by simp; omega))))
def hdR (r : R4) : List Int := [r.kind, r.tx, r.region]
def lnR (r : R4) : Nat := r.sets.length
def AtR (w : World) (b : Nat) (r : R4) : Prop := SetsAt w b 0 r.sets ∧ Room w b (r.sets.length * 5)
theorem SetsAt.of_block {w w' : World} {b off : Nat} {xs : List S5} (h : SetsAt w b off xs) (e : w'.heap[b]? = w.heap[b]?) : SetsAt w' b off xs := fun i s hs => by
  obtain ⟨c0, c1, c2, c3, c4⟩ := h i s hs
  exact ⟨(World.cell?_of_block (a := ⟨b, _, none⟩) e).trans c0, (World.cell?_of_block (a := ⟨b, _, none⟩) e).trans c1, (World.cell?_of_block (a := ⟨b, _, none⟩) e).trans c2, (World.cell?_of_block (a := ⟨b, _, none⟩) e).trans c3, (World.cell?_of_block (a := ⟨b, _, none⟩) e).trans c4⟩
theorem CellsAt.of_block {w w' : World} {b off : Nat} {xs : List C2} (h : CellsAt w b off xs) (e : w'.heap[b]? = w.heap[b]?) : CellsAt w' b off xs := fun i s hs => by
  obtain ⟨c0, c1⟩ := h i s hs
  exact ⟨(World.cell?_of_block (a := ⟨b, _, none⟩) e).trans c0, (World.cell?_of_block (a := ⟨b, _, none⟩) e).trans c1⟩
theorem AtR.of_block (w w' : World) (b : Nat) (r : R4) (e : w'.heap[b]? = w.heap[b]?) (h : AtR w b r) : AtR w' b r := ⟨h.1.of_block e, h.2.of_block e⟩
def hdK (k : K2) : List Int := [k.region]
def lnK (k : K2) : Nat := k.cells.length
def AtK (w : World) (b : Nat) (k : K2) : Prop := CellsAt w b 0 k.cells ∧ Room w b (k.cells.length * 2)
theorem AtK.of_block (w w' : World) (b : Nat) (r : K2) (e : w'.heap[b]? = w.heap[b]?) (h : AtK w b r) : AtK w' b r := ⟨h.1.of_block e, h.2.of_block e⟩
theorem ownR_sl {w : World} {base b n : Nat} {rs : List R4} {g : Nat → Nat} (h : OwnG 4 hdR lnR AtR w base b n rs g) (hb : b < w.heap.size) : SlR w w.heap.size (some ⟨b, 0, none⟩) n rs :=
  ⟨h.len, .inr ⟨b, 0, rfl, hb, fun i r e => by
    rw [Nat.zero_add]
    obtain ⟨cap, h1, h2⟩ := h.tail i r e
    exact ⟨h.head i r e 0 _ rfl, h.head i r e 1 _ rfl, h.head i r e 2 _ rfl, _, cap, h1, ⟨rfl, .inr ⟨_, 0, rfl, h.lt i (h.idx e), (h.sub i r e).1⟩⟩, h2⟩⟩⟩
theorem ownK_sl {w : World} {base b n : Nat} {rs : List K2} {g : Nat → Nat} (h : OwnG 2 hdK lnK AtK w base b n rs g) (hb : b < w.heap.size) : SlK w w.heap.size (some ⟨b, 0, none⟩) n rs :=
  ⟨h.len, .inr ⟨b, 0, rfl, hb, fun i r e => by
    rw [Nat.zero_add]
    obtain ⟨cap, h1, h2⟩ := h.tail i r e
    exact ⟨h.head i r e 0 _ rfl, _, cap, h1, ⟨rfl, .inr ⟨_, 0, rfl, h.lt i (h.idx e), (h.sub i r e).1⟩⟩, h2⟩⟩⟩
theorem info_recs : (Tryz.prog.info? 178).map (fun i => (i.zero, i.size, i.bytes)) = some (some (.agg #[.int .i64 0, .int .i64 0, .int .i64 0, .slice none 0 0]), 4, 48) := by kernel_rfl
theorem make_recs (n : Nat) (hn : n ≤ 1048576) (w : World) : (Instr.makeSlice 59 (.int .i64 (n : Int)) (.int .i64 (n : Int))).run Tryz.prog w = .ok (.slice (some ⟨w.heap.size, 0, none⟩) n n) (w.alloc (.cells (madeCells #[.int .i64 0, .int .i64 0, .int .i64 0, .slice none 0 0] (n * 4)) 178)) := by
  obtain ⟨i, hi, hzz⟩ := Option.map_eq_some_iff.1 info_recs
  simp only [Prod.mk.injEq] at hzz
  obtain ⟨hz, hs, hb⟩ := hzz
  have := run_make (P := Tryz.prog) w 59 178 i _ Tryz.underlying59 hi hz .i64 .i64 (n : Int) (n : Int) (by omega) (by omega) (by rw [hb]; omega) (by omega)
  rw [hs] at this
  simpa [Value.cells] using this
set_option maxHeartbeats 4000000 in
theorem toRecordS_any (w : World) (a : Option Addr) (n cap : Nat) (rs : List R4) (hn : n ≤ 1048576) (hl : ∀ r ∈ rs, r.sets.length ≤ 1048576) (hs : SlR w w.heap.size a n rs) : Calls Tryz.prog 143 #[.slice a n cap] w fun e w' =>
    ∃ g, e = .returned (.slice (some ⟨w.heap.size, 0, none⟩) n n) ∧ Below w.heap.size w w' ∧ w.heap.size < w'.heap.size ∧ OwnG 4 hdR lnR AtR w' w.heap.size w.heap.size n rs g ∧ Room w' w.heap.size (n * 4) := by
  obtain ⟨hx, hs⟩ := hs
  have hmk := make_recs n hn
  go_enter Tryz.func143, Tryz.ntmps143
  go_wp2
  go_loopw [4] (fun i wr => ∃ (j : Nat) (g : Nat → Nat), j ≤ n ∧ i = .int .i64 j ∧ Below w.heap.size w wr ∧ w.heap.size < wr.heap.size ∧ Room wr w.heap.size (n * 4) ∧ OwnG 4 hdR lnR AtR wr w.heap.size w.heap.size j (rs.take j) g) (fun i _ => n - (intOf i).toNat)
  case atStart => exact ⟨0, fun _ => 0, Nat.zero_le _, rfl, (Below.refl _ _).alloc (Nat.le_refl _) _, by simp, room_made _ _ _ _, by rw [List.take_zero]; exact OwnG.nil _ _ _ _⟩
  case round =>
    obtain ⟨j, g, hj, rfl, hbl, hsz, hro, hown⟩ := hrel
    by_cases hlt : j < n
    · rcases hs with hs | ⟨b, off, rfl, hb, h1⟩
      · omega
      · have hat := h1 j _ (atR_of (by omega))
        obtain ⟨a', cap', hc, hsl, _⟩ := hat.c3
        have e0 := (hbl.cell (p := ⟨b, off + j * 4, none⟩) hb).trans hat.c0
        have e1 := (hbl.cell (p := ⟨b, off + j * 4 + 1, none⟩) hb).trans hat.c1
        have e2 := (hbl.cell (p := ⟨b, off + j * 4 + 2, none⟩) hb).trans hat.c2
        have e3 := (hbl.cell (p := ⟨b, off + j * 4 + 3, none⟩) hb).trans hc
        have hcl := toRecord_anyR wr (atR rs j).kind (atR rs j).tx (atR rs j).region a' (atR rs j).sets.length cap' (atR rs j).sets (hl _ (List.mem_of_getElem? (atR_of (by omega)))) ((hsl.below hbl).mono hbl.size)
        have K : Hid (Room wr w.heap.size (n * 4) ∧ OwnG 4 hdR lnR AtR wr w.heap.size w.heap.size j (rs.take j) g ∧ Below w.heap.size w wr ∧ w.heap.size < wr.heap.size ∧ rs.take (j + 1) = rs.take j ++ [atR rs j]) := ⟨hro, hown, hbl, hsz, by rw [List.take_add_one, atR_of (by omega)]; rfl⟩
        clear hro hown hbl hmk h1 hx hl hsl hc hat
        generalize atR rs j = r at *
        go_wp2_with fail
        refine hcl.mono ?_
        clear hcl
        rintro e w1 ⟨q, rfl, b1, lq, hq, hnu, hrm⟩
        have hr1 := K.out.1.below b1 K.out.2.2.2.1
        obtain ⟨z0, d0, f0⟩ := hr1 (j * 4) (by omega)
        obtain ⟨z1, d1, f1⟩ := hr1 (j * 4 + 1) (by omega)
        obtain ⟨z2, d2, f2⟩ := hr1 (j * 4 + 2) (by omega)
        obtain ⟨z3, d3, f3⟩ := hr1 (j * 4 + 3) (by omega)
        have K1 : Hid (Below wr.heap.size wr w1 ∧ wr.heap.size ≤ q ∧ q < w1.heap.size ∧ AtR w1 q r ∧ Room w1 w.heap.size (n * 4)) := ⟨b1, lq, hq, ⟨hnu, hrm⟩, hr1⟩
        clear b1 lq hq hnu hrm hr1
        go_wp2
        obtain ⟨hro, hown, hbl, hsz, htk⟩ := K.out
        obtain ⟨b1, lq, hq, hat, hr1⟩ := K1.out
        have h1 := hown.later AtR.of_block b1 hsz
        obtain ⟨V, hV⟩ : ∃ V, ((((w1.setCell ⟨w.heap.size, j * 4, none⟩ (.int .i64 r.kind)).setCell ⟨w.heap.size, j * 4 + 1, none⟩ (.int .i64 r.tx)).setCell ⟨w.heap.size, j * 4 + 2, none⟩ (.int .i64 r.region)).setCell ⟨w.heap.size, j * 4 + 3, none⟩ (.slice (some ⟨q, 0, none⟩) r.sets.length r.sets.length)) = V := ⟨_, rfl⟩
        have sV : V.heap.size = w1.heap.size := by rw [← hV]; simp [World.setCell]
        have oV : ∀ x, x ≠ w.heap.size → V.heap[x]? = w1.heap[x]? := fun x hx => by
          rw [← hV]; exact ((Below.heap_setCell _ _ _ _ (fun e => hx e)).trans ((Below.heap_setCell _ _ _ _ (fun e => hx e)).trans ((Below.heap_setCell _ _ _ _ (fun e => hx e)).trans (Below.heap_setCell _ _ _ _ (fun e => hx e)))))
        have cV : ∀ o, o < j * 4 → V.cell? ⟨w.heap.size, o, none⟩ = w1.cell? ⟨w.heap.size, o, none⟩ := fun o ho => by
          rw [← hV]; rw [cell_set_other (by omega), cell_set_other (by omega), cell_set_other (by omega), cell_set_other (by omega)]
        have n0 : V.cell? ⟨w.heap.size, j * 4, none⟩ = some (.int .i64 r.kind) := by
          rw [← hV]
          rw [cell_set_other (by omega), cell_set_other (by omega), cell_set_other (by omega)]
          exact cell_set_same (by exact d0)
        have n1 : V.cell? ⟨w.heap.size, j * 4 + 1, none⟩ = some (.int .i64 r.tx) := by
          rw [← hV]
          rw [cell_set_other (by omega), cell_set_other (by omega)]
          exact cell_set_same (by rw [cell_set_other (by omega)]; exact d1)
        have n2 : V.cell? ⟨w.heap.size, j * 4 + 2, none⟩ = some (.int .i64 r.region) := by
          rw [← hV]
          rw [cell_set_other (by omega)]
          exact cell_set_same (by rw [cell_set_other (by omega), cell_set_other (by omega)]; exact d2)
        have nT : V.cell? ⟨w.heap.size, j * 4 + (4 - 1), none⟩ = some (.slice (some ⟨q, 0, none⟩) r.sets.length r.sets.length) := by
          rw [← hV]
          exact cell_set_same (by rw [cell_set_other (by omega), cell_set_other (by omega), cell_set_other (by omega)]; exact d3)
        have rV : Room V w.heap.size (n * 4) := by rw [← hV]; exact ((((hr1.set _).set _).set _).set _)
        have bV : Below w.heap.size w V := by rw [← hV]; exact (((((hbl.trans (b1.mono hbl.size)).setCell (p := ⟨w.heap.size, j * 4, none⟩) (Nat.le_refl _) _).setCell (p := ⟨w.heap.size, j * 4 + 1, none⟩) (Nat.le_refl _) _).setCell (p := ⟨w.heap.size, j * 4 + 2, none⟩) (Nat.le_refl _) _).setCell (p := ⟨w.heap.size, j * 4 + 3, none⟩) (Nat.le_refl _) _)
        have ho2 := h1.next AtR.of_block (r := r) (q := q) (cap := r.sets.length) (V := V) (by omega) (fun r => by simp [hdR]) (by omega) oV cV (fun t z ht => by
          match t, ht with
          | 0, ht => cases ht; exact n0
          | 1, ht => cases ht; exact n1
          | 2, ht => cases ht; exact n2
          | t + 3, ht => simp [hdR] at ht) nT (Nat.le_refl _) (by omega) (by omega) (by omega) (AtR.of_block _ _ _ _ (oV q (by omega)) hat) (fun i hi e => by have := hown.lt i hi; omega)
        rw [← htk] at ho2
        rw [hV]
        exact ⟨⟨j + 1, _, by omega, by simp, bV, by have := b1.size; omega, rV, ho2⟩, by simp [intOf]; omega⟩
    · have : j = n := by omega
      subst this
      have hd : decide (j < j) = false := by simp
      rw [← hx, List.take_length, hx] at hown
      have K : Hid (OwnG 4 hdR lnR AtR wr w.heap.size w.heap.size j rs g ∧ Room wr w.heap.size (j * 4)) := ⟨hown, hro⟩
      clear hown hs hro
      go_wp2
      go_ret
      exact ⟨g, rfl, hbl, hsz, K.out.1, K.out.2⟩
theorem info_cops : (Tryz.prog.info? 99).map (fun i => (i.zero, i.size, i.bytes)) = some (some (.agg #[.int .i64 0, .slice none 0 0]), 2, 32) := by kernel_rfl
theorem make_cops (n : Nat) (hn : n ≤ 1048576) (w : World) : (Instr.makeSlice 58 (.int .i64 (n : Int)) (.int .i64 (n : Int))).run Tryz.prog w = .ok (.slice (some ⟨w.heap.size, 0, none⟩) n n) (w.alloc (.cells (madeCells #[.int .i64 0, .slice none 0 0] (n * 2)) 99)) := by
  obtain ⟨i, hi, hzz⟩ := Option.map_eq_some_iff.1 info_cops
  simp only [Prod.mk.injEq] at hzz
  obtain ⟨hz, hs, hb⟩ := hzz
  have := run_make (P := Tryz.prog) w 58 99 i _ Tryz.underlying58 hi hz .i64 .i64 (n : Int) (n : Int) (by omega) (by omega) (by rw [hb]; omega) (by omega)
  rw [hs] at this
  simpa [Value.cells] using this
set_option maxHeartbeats 4000000 in
theorem toCopyS_any (w : World) (a : Option Addr) (n cap : Nat) (rs : List K2) (hn : n ≤ 1048576) (hl : ∀ r ∈ rs, r.cells.length ≤ 1048576) (hs : SlK w w.heap.size a n rs) : Calls Tryz.prog 142 #[.slice a n cap] w fun e w' =>
    ∃ g, e = .returned (.slice (some ⟨w.heap.size, 0, none⟩) n n) ∧ Below w.heap.size w w' ∧ w.heap.size < w'.heap.size ∧ OwnG 2 hdK lnK AtK w' w.heap.size w.heap.size n rs g ∧ Room w' w.heap.size (n * 2) := by
  obtain ⟨hx, hs⟩ := hs
  have hmk := make_cops n hn
  go_enter Tryz.func142, Tryz.ntmps142
  go_wp2
  go_loopw [4] (fun i wr => ∃ (j : Nat) (g : Nat → Nat), j ≤ n ∧ i = .int .i64 j ∧ Below w.heap.size w wr ∧ w.heap.size < wr.heap.size ∧ Room wr w.heap.size (n * 2) ∧ OwnG 2 hdK lnK AtK wr w.heap.size w.heap.size j (rs.take j) g) (fun i _ => n - (intOf i).toNat)
  case atStart => exact ⟨0, fun _ => 0, Nat.zero_le _, rfl, (Below.refl _ _).alloc (Nat.le_refl _) _, by simp, room_made _ _ _ _, by rw [List.take_zero]; exact OwnG.nil _ _ _ _⟩
  case round =>
    obtain ⟨j, g, hj, rfl, hbl, hsz, hro, hown⟩ := hrel
    by_cases hlt : j < n
    · rcases hs with hs | ⟨b, off, rfl, hb, h1⟩
      · omega
      · have hat := h1 j _ (atK_of (by omega))
        obtain ⟨a', cap', hc, hsl, _⟩ := hat.c1
        have e0 := (hbl.cell (p := ⟨b, off + j * 2, none⟩) hb).trans hat.c0
        have e1 := (hbl.cell (p := ⟨b, off + j * 2 + 1, none⟩) hb).trans hc
        have hcl := toCopy_anyR wr (atK rs j).region a' (atK rs j).cells.length cap' (atK rs j).cells (hl _ (List.mem_of_getElem? (atK_of (by omega)))) ((hsl.below hbl).mono hbl.size)
        have K : Hid (Room wr w.heap.size (n * 2) ∧ OwnG 2 hdK lnK AtK wr w.heap.size w.heap.size j (rs.take j) g ∧ Below w.heap.size w wr ∧ w.heap.size < wr.heap.size ∧ rs.take (j + 1) = rs.take j ++ [atK rs j]) := ⟨hro, hown, hbl, hsz, by rw [List.take_add_one, atK_of (by omega)]; rfl⟩
        clear hro hown hbl hmk h1 hx hl hsl hc hat
        generalize atK rs j = r at *
        go_wp2_with fail
        refine hcl.mono ?_
        clear hcl
        rintro e w1 ⟨q, rfl, b1, lq, hq, hnu, hrm⟩
        have hr1 := K.out.1.below b1 K.out.2.2.2.1
        obtain ⟨z0, d0, f0⟩ := hr1 (j * 2) (by omega)
        obtain ⟨z1, d1, f1⟩ := hr1 (j * 2 + 1) (by omega)
        have K1 : Hid (Below wr.heap.size wr w1 ∧ wr.heap.size ≤ q ∧ q < w1.heap.size ∧ AtK w1 q r ∧ Room w1 w.heap.size (n * 2)) := ⟨b1, lq, hq, ⟨hnu, hrm⟩, hr1⟩
        clear b1 lq hq hnu hrm hr1
        go_wp2
        obtain ⟨hro, hown, hbl, hsz, htk⟩ := K.out
        obtain ⟨b1, lq, hq, hat, hr1⟩ := K1.out
        have h1 := hown.later AtK.of_block b1 hsz
        obtain ⟨V, hV⟩ : ∃ V, ((w1.setCell ⟨w.heap.size, j * 2, none⟩ (.int .i64 r.region)).setCell ⟨w.heap.size, j * 2 + 1, none⟩ (.slice (some ⟨q, 0, none⟩) r.cells.length r.cells.length)) = V := ⟨_, rfl⟩
        have sV : V.heap.size = w1.heap.size := by rw [← hV]; simp [World.setCell]
        have oV : ∀ x, x ≠ w.heap.size → V.heap[x]? = w1.heap[x]? := fun x hx => by
          rw [← hV]; exact ((Below.heap_setCell _ _ _ _ (fun e => hx e)).trans (Below.heap_setCell _ _ _ _ (fun e => hx e)))
        have cV : ∀ o, o < j * 2 → V.cell? ⟨w.heap.size, o, none⟩ = w1.cell? ⟨w.heap.size, o, none⟩ := fun o ho => by
          rw [← hV]; rw [cell_set_other (by omega), cell_set_other (by omega)]
        have n0 : V.cell? ⟨w.heap.size, j * 2, none⟩ = some (.int .i64 r.region) := by
          rw [← hV]
          rw [cell_set_other (by omega)]
          exact cell_set_same (by exact d0)
        have nT : V.cell? ⟨w.heap.size, j * 2 + (2 - 1), none⟩ = some (.slice (some ⟨q, 0, none⟩) r.cells.length r.cells.length) := by
          rw [← hV]
          exact cell_set_same (by rw [cell_set_other (by omega)]; exact d1)
        have rV : Room V w.heap.size (n * 2) := by rw [← hV]; exact ((hr1.set _).set _)
        have bV : Below w.heap.size w V := by rw [← hV]; exact (((hbl.trans (b1.mono hbl.size)).setCell (p := ⟨w.heap.size, j * 2, none⟩) (Nat.le_refl _) _).setCell (p := ⟨w.heap.size, j * 2 + 1, none⟩) (Nat.le_refl _) _)
        have ho2 := h1.next AtK.of_block (r := r) (q := q) (cap := r.cells.length) (V := V) (by omega) (fun r => by simp [hdK]) (by omega) oV cV (fun t z ht => by
          match t, ht with
          | 0, ht => cases ht; exact n0
          | t + 1, ht => simp [hdK] at ht) nT (Nat.le_refl _) (by omega) (by omega) (by omega) (AtK.of_block _ _ _ _ (oV q (by omega)) hat) (fun i hi e => by have := hown.lt i hi; omega)
        rw [← htk] at ho2
        rw [hV]
        exact ⟨⟨j + 1, _, by omega, by simp, bV, by have := b1.size; omega, rV, ho2⟩, by simp [intOf]; omega⟩
    · have : j = n := by omega
      subst this
      have hd : decide (j < j) = false := by simp
      rw [← hx, List.take_length, hx] at hown
      have K : Hid (OwnG 2 hdK lnK AtK wr w.heap.size w.heap.size j rs g ∧ Room wr w.heap.size (j * 2)) := ⟨hown, hro⟩
      clear hown hs hro
      go_wp2
      go_ret
      exact ⟨g, rfl, hbl, hsz, K.out.1, K.out.2⟩
structure OwnM (w : World) (B0 B1 B2 B3 : Nat) (v : MV) (m : M4) (gk gr : Nat → Nat) : Prop where
  k : ∃ b, v.ac = some ⟨b, 0, none⟩ ∧ B0 ≤ b ∧ b < B1 ∧ OwnG 2 hdK lnK AtK w B0 b m.copies.length m.copies gk ∧ (∀ i, i < m.copies.length → gk i < B1) ∧ Room w b (m.copies.length * 2)
  r : ∃ b, v.al = some ⟨b, 0, none⟩ ∧ B1 ≤ b ∧ b < B2 ∧ OwnG 4 hdR lnR AtR w B1 b m.log.length m.log gr ∧ (∀ i, i < m.log.length → gr i < B2) ∧ Room w b (m.log.length * 4)
  n : ∃ b, v.ad = some ⟨b, 0, none⟩ ∧ B2 ≤ b ∧ b < B3 ∧ NumsAt w b 0 m.cleared ∧ Room w b m.cleared.length
  o1 : B0 ≤ B1
  o2 : B1 ≤ B2
  o3 : B2 ≤ B3
  sz : B3 ≤ w.heap.size
theorem OwnM.sl {w : World} {B0 B1 B2 B3 : Nat} {v : MV} {m : M4} {gk gr : Nat → Nat} (h : OwnM w B0 B1 B2 B3 v m gk gr) : SlM w v m := by
  have h1 := h.o1; have h2 := h.o2; have h3 := h.o3; have h4 := h.sz
  obtain ⟨b, e, _, l, o, _, _⟩ := h.k
  obtain ⟨b', e', _, l', o', _, _⟩ := h.r
  obtain ⟨b'', e'', _, l'', o'', _⟩ := h.n
  exact ⟨by rw [e]; exact ownK_sl o (by omega), by rw [e']; exact ownR_sl o' (by omega), by rw [e'']; exact ⟨rfl, .inr ⟨b'', 0, rfl, by omega, o''⟩⟩⟩
theorem OwnM.kept {w w' : World} {B0 B1 B2 B3 : Nat} {v : MV} {m : M4} {gk gr : Nat → Nat} (h : OwnM w B0 B1 B2 B3 v m gk gr) (hs : w.heap.size ≤ w'.heap.size) (hk : ∀ q, B0 ≤ q → q < B3 → w'.heap[q]? = w.heap[q]?) : OwnM w' B0 B1 B2 B3 v m gk gr := by
  have h1 := h.o1; have h2 := h.o2; have h3 := h.o3; have h4 := h.sz
  obtain ⟨b, e, l1, l, o, og, rm⟩ := h.k
  obtain ⟨b', e', l1', l', o', og', rm'⟩ := h.r
  obtain ⟨b'', e'', l1'', l'', o'', rm''⟩ := h.n
  have hb := hk b (by omega) (by omega)
  have hb' := hk b' (by omega) (by omega)
  have hb'' := hk b'' (by omega) (by omega)
  exact ⟨⟨b, e, l1, l, o.of_blocks AtK.of_block hs hb (fun i hi => hk _ (o.low i hi) (by have := og i hi; omega)), og, rm.of_block hb⟩,
    ⟨b', e', l1', l', o'.of_blocks AtR.of_block hs hb' (fun i hi => hk _ (by have := o'.low i hi; omega) (by have := og' i hi; omega)), og', rm'.of_block hb'⟩,
    ⟨b'', e'', l1'', l'', o''.of_block hb'', rm''.of_block hb''⟩, h1, h2, h3, by omega⟩
structure TP (s : Nat) (alive : Bool) (al ad : Value) (X : World) (s1 s2 s3 : Value) : Prop where
  a2 : X.cell? ⟨s, 2, none⟩ = some al
  a3 : X.cell? ⟨s, 3, none⟩ = some ad
  o0 : X.cell? ⟨s + 1 + 1, 0, none⟩ = some (.bool alive)
  o1 : X.cell? ⟨s + 1 + 1, 1, none⟩ = some s1
  o2 : X.cell? ⟨s + 1 + 1, 2, none⟩ = some s2
  o3 : X.cell? ⟨s + 1 + 1, 3, none⟩ = some s3
  fo : ∀ j, X.frozen? ⟨s + 1 + 1, j, none⟩ = false
  r0 : X.cell? ⟨s + 1, 0, none⟩ = some (.bool false)
  r1 : X.cell? ⟨s + 1, 1, none⟩ = some (.slice none 0 0)
  r2 : X.cell? ⟨s + 1, 2, none⟩ = some (.slice none 0 0)
  r3 : X.cell? ⟨s + 1, 3, none⟩ = some (.slice none 0 0)
  fr : ∀ j, X.frozen? ⟨s + 1, j, none⟩ = false
  lt : s + 2 < X.heap.size
theorem TP.below {s : Nat} {alive : Bool} {al ad : Value} {X Y : World} {s1 s2 s3 : Value} (h : TP s alive al ad X s1 s2 s3) (hb : Below X.heap.size X Y) : TP s alive al ad Y s1 s2 s3 := by
  have l := h.lt
  have ea := hb.block s (by omega)
  have er := hb.block (s + 1) (by omega)
  have eo := hb.block (s + 1 + 1) (by omega)
  have c : ∀ {b j : Nat} {u : Value}, Y.heap[b]? = X.heap[b]? → X.cell? ⟨b, j, none⟩ = some u → Y.cell? ⟨b, j, none⟩ = some u := fun {b j u} e h => (World.cell?_of_block (a := ⟨b, j, none⟩) e).trans h
  exact ⟨c ea h.a2, c ea h.a3, c eo h.o0, c eo h.o1, c eo h.o2, c eo h.o3, fun j => (World.frozen?_of_block (a := ⟨s + 1 + 1, j, none⟩) eo).trans (h.fo j), c er h.r0, c er h.r1, c er h.r2, c er h.r3, fun j => (World.frozen?_of_block (a := ⟨s + 1, j, none⟩) er).trans (h.fr j), Nat.lt_of_lt_of_le l hb.size⟩
theorem TP.set1 {s : Nat} {alive : Bool} {al ad : Value} {X : World} {s1 s2 s3 : Value} (h : TP s alive al ad X s1 s2 s3) (v : Value) : TP s alive al ad (X.setCell ⟨s + 1 + 1, 1, none⟩ v) v s2 s3 :=
  ⟨(cell_set_far (by show s + 1 + 1 ≠ s; omega) v).trans h.a2, (cell_set_far (by show s + 1 + 1 ≠ s; omega) v).trans h.a3, (cell_set_other (by omega)).trans h.o0, cell_set_same h.o1, (cell_set_other (by omega)).trans h.o2, (cell_set_other (by omega)).trans h.o3, fun j => by rw [World.frozen?_setCell]; exact h.fo j, (cell_set_far (by simp) v).trans h.r0, (cell_set_far (by simp) v).trans h.r1, (cell_set_far (by simp) v).trans h.r2, (cell_set_far (by simp) v).trans h.r3, fun j => by rw [World.frozen?_setCell]; exact h.fr j, by simpa [World.setCell] using h.lt⟩
theorem TP.set2 {s : Nat} {alive : Bool} {al ad : Value} {X : World} {s1 s2 s3 : Value} (h : TP s alive al ad X s1 s2 s3) (v : Value) : TP s alive al ad (X.setCell ⟨s + 1 + 1, 2, none⟩ v) s1 v s3 :=
  ⟨(cell_set_far (by show s + 1 + 1 ≠ s; omega) v).trans h.a2, (cell_set_far (by show s + 1 + 1 ≠ s; omega) v).trans h.a3, (cell_set_other (by omega)).trans h.o0, (cell_set_other (by omega)).trans h.o1, cell_set_same h.o2, (cell_set_other (by omega)).trans h.o3, fun j => by rw [World.frozen?_setCell]; exact h.fo j, (cell_set_far (by simp) v).trans h.r0, (cell_set_far (by simp) v).trans h.r1, (cell_set_far (by simp) v).trans h.r2, (cell_set_far (by simp) v).trans h.r3, fun j => by rw [World.frozen?_setCell]; exact h.fr j, by simpa [World.setCell] using h.lt⟩
theorem TP.set3 {s : Nat} {alive : Bool} {al ad : Value} {X : World} {s1 s2 s3 : Value} (h : TP s alive al ad X s1 s2 s3) (v : Value) : TP s alive al ad (X.setCell ⟨s + 1 + 1, 3, none⟩ v) s1 s2 v :=
  ⟨(cell_set_far (by show s + 1 + 1 ≠ s; omega) v).trans h.a2, (cell_set_far (by show s + 1 + 1 ≠ s; omega) v).trans h.a3, (cell_set_other (by omega)).trans h.o0, (cell_set_other (by omega)).trans h.o1, (cell_set_other (by omega)).trans h.o2, cell_set_same h.o3, fun j => by rw [World.frozen?_setCell]; exact h.fo j, (cell_set_far (by simp) v).trans h.r0, (cell_set_far (by simp) v).trans h.r1, (cell_set_far (by simp) v).trans h.r2, (cell_set_far (by simp) v).trans h.r3, fun j => by rw [World.frozen?_setCell]; exact h.fr j, by simpa [World.setCell] using h.lt⟩
set_option maxHeartbeats 4000000 in
theorem toMachine_any (w : World) (v : MV) (m : M4) (hk : m.copies.length ≤ 1048576) (hks : ∀ r ∈ m.copies, r.cells.length ≤ 1048576) (hr : m.log.length ≤ 1048576) (hrs : ∀ r ∈ m.log, r.sets.length ≤ 1048576) (hn : m.cleared.length ≤ 1048576) (hs : SlM w v m) : Calls Tryz.prog 86 #[v.val m] w fun e w' =>
    ∃ u B1 B2 B3 gk gr, e = .returned (u.val m) ∧ OwnM w' (w.heap.size + 3) B1 B2 B3 u m gk gr ∧ Below w.heap.size w w' := by
  obtain ⟨ac, cc, al, cl, ad, cd⟩ := v
  have H : Hid (SlM w ⟨ac, cc, al, cl, ad, cd⟩ m ∧ (∀ r ∈ m.copies, r.cells.length ≤ 1048576) ∧ (∀ r ∈ m.log, r.sets.length ≤ 1048576)) := ⟨hs, hks, hrs⟩
  clear hs hks hrs
  simp only [MV.val]
  have tp : TP w.heap.size m.alive (.slice al m.log.length cl) (.slice ad m.cleared.length cd) (((w.alloc (.cells #[.bool m.alive, .slice ac m.copies.length cc, .slice al m.log.length cl, .slice ad m.cleared.length cd] 119)).alloc (.cells #[.bool false, .slice none 0 0, .slice none 0 0, .slice none 0 0] 62)).alloc (.cells #[.bool m.alive, .slice none 0 0, .slice none 0 0, .slice none 0 0] 62)) (.slice none 0 0) (.slice none 0 0) (.slice none 0 0) := by
    refine ⟨?_, ?_, ?_, ?_, ?_, ?_, ?_, ?_, ?_, ?_, ?_, ?_, ?_⟩
    all_goals first | (intro j; go_simp; done) | (go_simp; done) | (simp; done)
  have bW : Below w.heap.size w (((w.alloc (.cells #[.bool m.alive, .slice ac m.copies.length cc, .slice al m.log.length cl, .slice ad m.cleared.length cd] 119)).alloc (.cells #[.bool false, .slice none 0 0, .slice none 0 0, .slice none 0 0] 62)).alloc (.cells #[.bool m.alive, .slice none 0 0, .slice none 0 0, .slice none 0 0] 62)) := (((Below.refl _ _).alloc (Nat.le_refl _) _).alloc (by simp) _).alloc (by simp; omega) _
  have hsz : (((w.alloc (.cells #[.bool m.alive, .slice ac m.copies.length cc, .slice al m.log.length cl, .slice ad m.cleared.length cd] 119)).alloc (.cells #[.bool false, .slice none 0 0, .slice none 0 0, .slice none 0 0] 62)).alloc (.cells #[.bool m.alive, .slice none 0 0, .slice none 0 0, .slice none 0 0] 62)).heap.size = w.heap.size + 3 := by simp
  have TW : Hid (TP w.heap.size m.alive (.slice al m.log.length cl) (.slice ad m.cleared.length cd) (((w.alloc (.cells #[.bool m.alive, .slice ac m.copies.length cc, .slice al m.log.length cl, .slice ad m.cleared.length cd] 119)).alloc (.cells #[.bool false, .slice none 0 0, .slice none 0 0, .slice none 0 0] 62)).alloc (.cells #[.bool m.alive, .slice none 0 0, .slice none 0 0, .slice none 0 0] 62)) (.slice none 0 0) (.slice none 0 0) (.slice none 0 0) ∧ Below w.heap.size w (((w.alloc (.cells #[.bool m.alive, .slice ac m.copies.length cc, .slice al m.log.length cl, .slice ad m.cleared.length cd] 119)).alloc (.cells #[.bool false, .slice none 0 0, .slice none 0 0, .slice none 0 0] 62)).alloc (.cells #[.bool m.alive, .slice none 0 0, .slice none 0 0, .slice none 0 0] 62)) ∧ (((w.alloc (.cells #[.bool m.alive, .slice ac m.copies.length cc, .slice al m.log.length cl, .slice ad m.cleared.length cd] 119)).alloc (.cells #[.bool false, .slice none 0 0, .slice none 0 0, .slice none 0 0] 62)).alloc (.cells #[.bool m.alive, .slice none 0 0, .slice none 0 0, .slice none 0 0] 62)).heap.size = w.heap.size + 3) := ⟨tp, bW, hsz⟩
  clear tp bW hsz
  go_enter Tryz.func86, Tryz.ntmps86
  go_wp2_with fail
  generalize ((w.alloc (.cells #[.bool m.alive, .slice ac m.copies.length cc, .slice al m.log.length cl, .slice ad m.cleared.length cd] 119)).alloc (.cells #[.bool false, .slice none 0 0, .slice none 0 0, .slice none 0 0] 62)).alloc (.cells #[.bool m.alive, .slice none 0 0, .slice none 0 0, .slice none 0 0] 62) = W at *
  refine (toCopyS_any W ac m.copies.length cc m.copies hk H.out.2.1 (H.out.1.later TW.out.2.1).k).mono ?_
  rintro e w1 ⟨gk, rfl, b1, l1, o1, rm1⟩
  have t1 := TW.out.1.below b1
  have B1 : Hid (Below w.heap.size w w1 ∧ W.heap.size < w1.heap.size ∧ OwnG 2 hdK lnK AtK w1 W.heap.size W.heap.size m.copies.length m.copies gk ∧ Room w1 W.heap.size (m.copies.length * 2)) := ⟨TW.out.2.1.trans (b1.mono TW.out.2.1.size), l1, o1, rm1⟩
  clear b1 l1 o1 rm1
  have T1 : Hid (TP w.heap.size m.alive (.slice al m.log.length cl) (.slice ad m.cleared.length cd) (w1.setCell ⟨w.heap.size + 1 + 1, 1, none⟩ (.slice (some ⟨W.heap.size, 0, none⟩) m.copies.length m.copies.length)) (.slice (some ⟨W.heap.size, 0, none⟩) m.copies.length m.copies.length) (.slice none 0 0) (.slice none 0 0)) := t1.set1 _
  have a2 := t1.a2
  have p1 := t1.o1
  have f1 := t1.fo 1
  clear t1
  have far : ∀ (V : World) (x o : Nat) (u : Value), x ≠ w.heap.size + 1 + 1 → (V.setCell ⟨w.heap.size + 1 + 1, o, none⟩ u).heap[x]? = V.heap[x]? := fun V x o u h => Below.heap_setCell _ _ _ _ (fun e => h e)
  have ssz : ∀ (V : World) (p : Addr) (u : Value), (V.setCell p u).heap.size = V.heap.size := fun V p u => by simp [World.setCell]
  have FAR : Hid (∀ (V : World) (x o : Nat) (u : Value), x ≠ w.heap.size + 1 + 1 → (V.setCell ⟨w.heap.size + 1 + 1, o, none⟩ u).heap[x]? = V.heap[x]?) := far
  have SSZ : Hid (∀ (V : World) (p : Addr) (u : Value), (V.setCell p u).heap.size = V.heap.size) := ssz
  clear far ssz
  go_wp2_with fail
  have hW := TW.out.2.2
  have K1 : Hid (Below w.heap.size w (w1.setCell ⟨w.heap.size + 1 + 1, 1, none⟩ (.slice (some ⟨W.heap.size, 0, none⟩) m.copies.length m.copies.length)) ∧ W.heap.size < (w1.setCell ⟨w.heap.size + 1 + 1, 1, none⟩ (.slice (some ⟨W.heap.size, 0, none⟩) m.copies.length m.copies.length)).heap.size ∧ OwnG 2 hdK lnK AtK (w1.setCell ⟨w.heap.size + 1 + 1, 1, none⟩ (.slice (some ⟨W.heap.size, 0, none⟩) m.copies.length m.copies.length)) W.heap.size W.heap.size m.copies.length m.copies gk ∧ Room (w1.setCell ⟨w.heap.size + 1 + 1, 1, none⟩ (.slice (some ⟨W.heap.size, 0, none⟩) m.copies.length m.copies.length)) W.heap.size (m.copies.length * 2)) :=
    ⟨B1.out.1.setCell (p := ⟨w.heap.size + 1 + 1, 1, none⟩) (by show w.heap.size ≤ w.heap.size + 1 + 1; omega) _, by rw [SSZ.out]; exact B1.out.2.1, B1.out.2.2.1.of_blocks AtK.of_block (by rw [SSZ.out]; exact Nat.le_refl _) (FAR.out _ _ _ _ (by omega)) (fun i hi => FAR.out _ _ _ _ (by have := B1.out.2.2.1.low i hi; omega)), B1.out.2.2.2.of_block (FAR.out _ _ _ _ (by omega))⟩
  clear hW B1 a2 p1 f1
  generalize w1.setCell ⟨w.heap.size + 1 + 1, 1, none⟩ (.slice (some ⟨W.heap.size, 0, none⟩) m.copies.length m.copies.length) = X1 at *
  refine (toRecordS_any X1 al m.log.length cl m.log hr H.out.2.2 (H.out.1.later K1.out.1).r).mono ?_
  rintro e w2 ⟨gr, rfl, b2, l2, o2, rm2⟩
  have t2 := T1.out.below b2
  have B2 : Hid (Below w.heap.size w w2 ∧ X1.heap.size < w2.heap.size ∧ OwnG 4 hdR lnR AtR w2 X1.heap.size X1.heap.size m.log.length m.log gr ∧ Room w2 X1.heap.size (m.log.length * 4) ∧ OwnG 2 hdK lnK AtK w2 W.heap.size W.heap.size m.copies.length m.copies gk ∧ Room w2 W.heap.size (m.copies.length * 2) ∧ W.heap.size < X1.heap.size ∧ (∀ i, i < m.copies.length → gk i < X1.heap.size)) :=
    ⟨K1.out.1.trans (b2.mono K1.out.1.size), l2, o2, rm2, K1.out.2.2.1.later AtK.of_block b2 K1.out.2.1, K1.out.2.2.2.below b2 K1.out.2.1, K1.out.2.1, K1.out.2.2.1.lt⟩
  clear b2 l2 o2 rm2 K1
  have T2 : Hid (TP w.heap.size m.alive (.slice al m.log.length cl) (.slice ad m.cleared.length cd) (w2.setCell ⟨w.heap.size + 1 + 1, 2, none⟩ (.slice (some ⟨X1.heap.size, 0, none⟩) m.log.length m.log.length)) (.slice (some ⟨W.heap.size, 0, none⟩) m.copies.length m.copies.length) (.slice (some ⟨X1.heap.size, 0, none⟩) m.log.length m.log.length) (.slice none 0 0)) := t2.set2 _
  have a3 := t2.a3
  have p2 := t2.o2
  have f2 := t2.fo 2
  clear t2 T1
  go_wp2_with fail
  have hW := TW.out.2.2
  have K2 : Hid (Below w.heap.size w (w2.setCell ⟨w.heap.size + 1 + 1, 2, none⟩ (.slice (some ⟨X1.heap.size, 0, none⟩) m.log.length m.log.length)) ∧ X1.heap.size < (w2.setCell ⟨w.heap.size + 1 + 1, 2, none⟩ (.slice (some ⟨X1.heap.size, 0, none⟩) m.log.length m.log.length)).heap.size ∧ OwnG 4 hdR lnR AtR (w2.setCell ⟨w.heap.size + 1 + 1, 2, none⟩ (.slice (some ⟨X1.heap.size, 0, none⟩) m.log.length m.log.length)) X1.heap.size X1.heap.size m.log.length m.log gr ∧ Room (w2.setCell ⟨w.heap.size + 1 + 1, 2, none⟩ (.slice (some ⟨X1.heap.size, 0, none⟩) m.log.length m.log.length)) X1.heap.size (m.log.length * 4) ∧ OwnG 2 hdK lnK AtK (w2.setCell ⟨w.heap.size + 1 + 1, 2, none⟩ (.slice (some ⟨X1.heap.size, 0, none⟩) m.log.length m.log.length)) W.heap.size W.heap.size m.copies.length m.copies gk ∧ Room (w2.setCell ⟨w.heap.size + 1 + 1, 2, none⟩ (.slice (some ⟨X1.heap.size, 0, none⟩) m.log.length m.log.length)) W.heap.size (m.copies.length * 2) ∧ W.heap.size < X1.heap.size ∧ (∀ i, i < m.copies.length → gk i < X1.heap.size)) := by
    obtain ⟨q1, q2, q3, q4, q5, q6, q7, q8⟩ := B2.out
    exact ⟨q1.setCell (p := ⟨w.heap.size + 1 + 1, 2, none⟩) (by show w.heap.size ≤ w.heap.size + 1 + 1; omega) _, by rw [SSZ.out]; exact q2, q3.of_blocks AtR.of_block (by rw [SSZ.out]; exact Nat.le_refl _) (FAR.out _ _ _ _ (by omega)) (fun i hi => FAR.out _ _ _ _ (by have := q3.low i hi; omega)), q4.of_block (FAR.out _ _ _ _ (by omega)), q5.of_blocks AtK.of_block (by rw [SSZ.out]; exact Nat.le_refl _) (FAR.out _ _ _ _ (by omega)) (fun i hi => FAR.out _ _ _ _ (by have := q5.low i hi; omega)), q6.of_block (FAR.out _ _ _ _ (by omega)), q7, q8⟩
  clear hW B2 a3 p2 f2
  generalize w2.setCell ⟨w.heap.size + 1 + 1, 2, none⟩ (.slice (some ⟨X1.heap.size, 0, none⟩) m.log.length m.log.length) = X2 at *
  refine (toInt64S_any X2 ad m.cleared.length cd m.cleared hn (H.out.1.later K2.out.1).n).mono ?_
  rintro e w3 ⟨rfl, b3, l3, o3, rm3⟩
  have t3 := T2.out.below b3
  have B3 : Hid (Below w.heap.size w w3 ∧ X2.heap.size < w3.heap.size ∧ NumsAt w3 X2.heap.size 0 m.cleared ∧ Room w3 X2.heap.size m.cleared.length ∧ Below X2.heap.size X2 w3) := ⟨K2.out.1.trans (b3.mono K2.out.1.size), l3, o3, rm3, b3⟩
  clear b3 l3 o3 rm3 T2
  have p0 := t3.o0
  have p1 := t3.o1
  have p2 := t3.o2
  have p3 := t3.o3
  have f3 := t3.fo 3
  have x0 := t3.r0
  have x1 := t3.r1
  have x2 := t3.r2
  have x3 := t3.r3
  have y0 := t3.fr 0
  have y1 := t3.fr 1
  have y2 := t3.fr 2
  have y3 := t3.fr 3
  clear t3
  go_wp2
  obtain ⟨F, hF⟩ : ∃ F, (((((w3.setCell ⟨w.heap.size + 1 + 1, 3, none⟩ (.slice (some ⟨X2.heap.size, 0, none⟩) m.cleared.length m.cleared.length)).setCell ⟨w.heap.size + 1, 0, none⟩ (.bool m.alive)).setCell ⟨w.heap.size + 1, 1, none⟩ (.slice (some ⟨W.heap.size, 0, none⟩) m.copies.length m.copies.length)).setCell ⟨w.heap.size + 1, 2, none⟩ (.slice (some ⟨X1.heap.size, 0, none⟩) m.log.length m.log.length)).setCell ⟨w.heap.size + 1, 3, none⟩ (.slice (some ⟨X2.heap.size, 0, none⟩) m.cleared.length m.cleared.length)) = F := ⟨_, rfl⟩
  have g0 : F.cell? ⟨w.heap.size + 1, 0, none⟩ = some (.bool m.alive) := by
    rw [← hF, cell_set_other (by omega), cell_set_other (by omega), cell_set_other (by omega)]
    exact cell_set_same (by rw [cell_set_far (by simp)]; exact x0)
  have g1 : F.cell? ⟨w.heap.size + 1, 1, none⟩ = some (.slice (some ⟨W.heap.size, 0, none⟩) m.copies.length m.copies.length) := by
    rw [← hF, cell_set_other (by omega), cell_set_other (by omega)]
    exact cell_set_same (by rw [cell_set_other (by omega), cell_set_far (by simp)]; exact x1)
  have g2 : F.cell? ⟨w.heap.size + 1, 2, none⟩ = some (.slice (some ⟨X1.heap.size, 0, none⟩) m.log.length m.log.length) := by
    rw [← hF, cell_set_other (by omega)]
    exact cell_set_same (by rw [cell_set_other (by omega), cell_set_other (by omega), cell_set_far (by simp)]; exact x2)
  have g3 : F.cell? ⟨w.heap.size + 1, 3, none⟩ = some (.slice (some ⟨X2.heap.size, 0, none⟩) m.cleared.length m.cleared.length) := by
    rw [← hF]
    exact cell_set_same (by rw [cell_set_other (by omega), cell_set_other (by omega), cell_set_other (by omega), cell_set_far (by simp)]; exact x3)
  have sF : F.heap.size = w3.heap.size := by rw [← hF]; simp [World.setCell]
  have eF : ∀ x, x ≠ w.heap.size + 1 → x ≠ w.heap.size + 1 + 1 → F.heap[x]? = w3.heap[x]? := fun x h1 h2 => by
    rw [← hF]
    exact (Below.heap_setCell _ _ _ _ (fun e => h1 e)).trans ((Below.heap_setCell _ _ _ _ (fun e => h1 e)).trans ((Below.heap_setCell _ _ _ _ (fun e => h1 e)).trans ((Below.heap_setCell _ _ _ _ (fun e => h1 e)).trans (Below.heap_setCell _ _ _ _ (fun e => h2 e)))))
  have bF : Below w.heap.size w F := by
    rw [← hF]
    exact ((((B3.out.1.setCell (p := ⟨w.heap.size + 1 + 1, 3, none⟩) (by show w.heap.size ≤ w.heap.size + 1 + 1; omega) _).setCell (p := ⟨w.heap.size + 1, 0, none⟩) (by show w.heap.size ≤ w.heap.size + 1; omega) _).setCell (p := ⟨w.heap.size + 1, 1, none⟩) (by show w.heap.size ≤ w.heap.size + 1; omega) _).setCell (p := ⟨w.heap.size + 1, 2, none⟩) (by show w.heap.size ≤ w.heap.size + 1; omega) _).setCell (p := ⟨w.heap.size + 1, 3, none⟩) (by show w.heap.size ≤ w.heap.size + 1; omega) _
  rw [hF]
  refine bodyPost_ret (v := .agg #[.bool m.alive, .slice (some ⟨W.heap.size, 0, none⟩) m.copies.length m.copies.length, .slice (some ⟨X1.heap.size, 0, none⟩) m.log.length m.log.length, .slice (some ⟨X2.heap.size, 0, none⟩) m.cleared.length m.cleared.length]) (by simp [results, Tryz.results86, go_sem, g0, g1, g2, g3]) rfl ?_
  have hW := TW.out.2.2
  obtain ⟨q1, q2, q3, q4, q5, q6, q7, q8⟩ := K2.out
  obtain ⟨z1, z2, z3, z4, z5⟩ := B3.out
  have m1 : OwnM w3 (w.heap.size + 3) X1.heap.size X2.heap.size w3.heap.size ⟨some ⟨W.heap.size, 0, none⟩, m.copies.length, some ⟨X1.heap.size, 0, none⟩, m.log.length, some ⟨X2.heap.size, 0, none⟩, m.cleared.length⟩ m gk gr :=
    ⟨⟨W.heap.size, rfl, by omega, q7, by rw [← hW]; exact q5.later AtK.of_block z5 (by omega), q8, q6.below z5 (by omega)⟩, ⟨X1.heap.size, rfl, Nat.le_refl _, q2, q3.later AtR.of_block z5 q2, q3.lt, q4.below z5 q2⟩, ⟨X2.heap.size, rfl, Nat.le_refl _, z2, z3, z4⟩, by omega, Nat.le_of_lt q2, Nat.le_of_lt z2, Nat.le_refl _⟩
  exact ⟨⟨some ⟨W.heap.size, 0, none⟩, m.copies.length, some ⟨X1.heap.size, 0, none⟩, m.log.length, some ⟨X2.heap.size, 0, none⟩, m.cleared.length⟩, X1.heap.size, X2.heap.size, w3.heap.size, gk, gr, rfl, m1.kept (by omega) (fun q h1 h2 => eF q (by omega) (by omega)), bF⟩
end Go.Proofs.YtnhjgomfkfehgaaGreatDoor