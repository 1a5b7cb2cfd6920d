/- LawN; KdM; KdR; Opens; OpenCells: joined. -/
import Derived.Test.YtbkcmbbeknljiaaGreatRows
import Derived.Test.YtbkcmbbeknljiaaGreatTurnAJ
import Derived.Test.YtbkcmbbeknljiaaGreatJ49ExactClear
import Derived.Test.YtbkcmbbeknljiaaGreatJ32ExactClear
import Derived.Test.YtbkcmbbeknljiaaGreatMkMJ
import Derived.WalkKit
import Derived.WalkSpells
import Derived.WalkLawsBesides
import Derived.Below
import Derived.Test.YtbkcmbbeknljiaaGreatJ0ExactClear
import Derived.ProofKit
import Derived.OpenShut
import Derived.Test.YtbkcmbbeknljiaaGreatCellsJ
import Derived.Deep.Slices
import Derived.Lib.SmallJoins
/- What the laws of an answered machine share. -/
namespace Go.Proofs.YtbkcmbbeknljiaaGreat
open Go.RowKit
theorem endM_nonneg (m : M4) : 0 ≤ endM m 1 := by unfold endM endR endK; omega
/-- A box that holds a machine, by its block. -/
structure BM (X : World) (s : Nat) (a : Option Addr) (b : Nat) (c : Option Addr) (d : Nat) (e : Option Addr) (f : Nat) (m : M4) : Prop where
  c0 : X.cell? ⟨s, 0, none⟩ = some (.bool m.alive)
  c1 : X.cell? ⟨s, 1, none⟩ = some (.slice a m.copies.length b)
  c2 : X.cell? ⟨s, 2, none⟩ = some (.slice c m.log.length d)
  c3 : X.cell? ⟨s, 3, none⟩ = some (.slice e m.cleared.length f)
theorem BM.of_block {X Y : World} {s : Nat} {a : Option Addr} {b : Nat} {c : Option Addr} {d : Nat} {e : Option Addr} {f : Nat} {m : M4} (h : BM X s a b c d e f m) (hb : Y.heap[s]? = X.heap[s]?) : BM Y s a b c d e f m :=
  ⟨(World.cell?_of_block (a := ⟨s, 0, none⟩) hb).trans h.c0, (World.cell?_of_block (a := ⟨s, 1, none⟩) hb).trans h.c1, (World.cell?_of_block (a := ⟨s, 2, none⟩) hb).trans h.c2, (World.cell?_of_block (a := ⟨s, 3, none⟩) hb).trans h.c3⟩
theorem szM_turn (t g : Int) (m : M4) : szM (tM t g m) = szM m := by
  have h : ∀ r, (trR t g r).sets = r.sets := fun r => by unfold trR; split <;> rfl
  simp [szM, tM, lensR, lensK, List.map_map, Function.comp_def, h]
theorem ansT_sz (m : M4) (t g : Int) (h : szM m ≤ 1048576) : szM (ansT m t g) ≤ 1048576 := by
  unfold ansT
  by_cases hB : machB m = true
  · rw [if_pos hB, szM_turn]; exact h
  · rw [if_neg hB]; simp [szM, lensK, lensR]
end Go.Proofs.YtbkcmbbeknljiaaGreat
/- The machine as a kind of data that a law hands over: marked, held. -/
namespace Go.Proofs.YtbkcmbbeknljiaaGreat
open Go.RowKit
theorem KM.mark (X : World) (B : Nat) (a : Option Addr) (b : Nat) (c : Option Addr) (d : Nat) (e : Option Addr) (f : Nat) (m : M4) (P : Nat → Prop) (k : Int) (hk : 0 ≤ k) (hk' : k ≤ 100000000) (ht : MT m) (h : KM.Ow X B a b c d e f m P) : Calls Tryz.prog 33 #[.agg #[.bool m.alive, .slice a m.copies.length b, .slice c m.log.length d, .slice e m.cleared.length f], .int .i64 k] X fun r w' => r = .returned (.int .i64 (endM m k)) ∧ KeptP P X w' ∧ SlM w' ⟨a, b, c, d, e, f⟩ (mkM m k) := by
  obtain ⟨PK, PR, PD, h1, h2, h3⟩ := h
  have hh := markMachine_any X B ⟨a, b, c, d, e, f⟩ m PK PR PD k hk hk' ht h1
  simp only [MV.val] at hh
  refine hh.mono ?_
  rintro r w' ⟨rfl, kp, o⟩
  exact ⟨rfl, kp.mono (fun q hq => h2 q hq.2), o.sl⟩
theorem KM.held (X : World) (a : Option Addr) (b : Nat) (c : Option Addr) (d : Nat) (e : Option Addr) (f : Nat) (m : M4) (k : Int) (hk : 0 ≤ k) (hk' : k ≤ 100000000) (ht : MT m) (h : SlM X ⟨a, b, c, d, e, f⟩ (mkM m k)) : Calls Tryz.prog 35 #[.agg #[.bool m.alive, .slice a m.copies.length b, .slice c m.log.length d, .slice e m.cleared.length f], .int .i64 k] X fun r w' => r = .returned (.int .i64 (endM m k)) ∧ Below X.heap.size X w' := by
  have hh := heldMachine_any X ⟨a, b, c, d, e, f⟩ m k hk hk' ht h
  simp only [MV.val] at hh
  exact hh
theorem endM_big (m : M4) (k : Int) : k ≤ endM m k := by unfold endM endR endK; omega
theorem endM_top (m : M4) (k : Int) (h : MT m) : endM m k ≤ k + 201048576 := by have h1 := h.tk; have h2 := h.tr; have h3 := h.n; unfold endM endR endK; omega
end Go.Proofs.YtbkcmbbeknljiaaGreat
/- The record as a kind of data that a law hands over. -/
namespace Go.Proofs.YtbkcmbbeknljiaaGreat
open Go.RowKit
def KR.L (r : R4) : Prop := r.sets.length ≤ maxLen
/-- A record of a call's own, in the blocks P. -/
def KR.Ow (w : World) (B : Nat) (a : Option Addr) (_ : Nat) (r : R4) (P : Nat → Prop) : Prop := (r.sets = [] ∨ ∃ q, a = some ⟨q, 0, none⟩ ∧ P q ∧ SetsAt w q 0 r.sets ∧ Room w q (r.sets.length * 5)) ∧ (∀ q, P q → B ≤ q ∧ q < w.heap.size)
def KR.Rd (X : World) (a : Option Addr) (_ : Nat) (r : R4) : Prop := Sl X X.heap.size a r.sets.length r.sets
theorem KR.Rd.later {X Y : World} {a : Option Addr} {c : Nat} {r : R4} (h : KR.Rd X a c r) (hb : Below X.heap.size X Y) : KR.Rd Y a c r := (Sl.below h hb).mono hb.size
theorem KR.Ow.of {w : World} {B : Nat} {a : Option Addr} {c : Nat} {r : R4} {P : Nat → Prop} (h : KR.Ow w B a c r P) {q : Nat} (hq : P q) : B ≤ q ∧ q < w.heap.size := h.2 q hq
theorem KR.Ow.sl {w : World} {B : Nat} {a : Option Addr} {c : Nat} {r : R4} {P : Nat → Prop} (h : KR.Ow w B a c r P) : KR.Rd w a c r := by
  obtain ⟨h1, h2⟩ := h
  rcases h1 with e | ⟨q, rfl, hq, hs, _⟩
  · exact ⟨rfl, .inl (by rw [e]; rfl)⟩
  · exact ⟨rfl, .inr ⟨q, 0, rfl, (h2 q hq).2, hs⟩⟩
theorem KR.Ow.keep {w w' : World} {B : Nat} {a : Option Addr} {c : Nat} {r : R4} {P : Nat → Prop} (h : KR.Ow w B a c r P) (hs : w.heap.size ≤ w'.heap.size) (hk : ∀ q, P q → w'.heap[q]? = w.heap[q]?) : KR.Ow w' B a c r P := by
  obtain ⟨h1, h2⟩ := h
  refine ⟨?_, fun q hq => ⟨(h2 q hq).1, Nat.lt_of_lt_of_le (h2 q hq).2 hs⟩⟩
  rcases h1 with e | ⟨q, rfl, hq, h3, h4⟩
  · exact .inl e
  · exact .inr ⟨q, rfl, hq, h3.of_block (hk q hq), h4.of_block (hk q hq)⟩
theorem KR.Ow.later {w w' : World} {B : Nat} {a : Option Addr} {c : Nat} {r : R4} {P : Nat → Prop} (h : KR.Ow w B a c r P) (hb : Below w.heap.size w w') : KR.Ow w' B a c r P := h.keep hb.size (fun q hq => hb.block q (h.of hq).2)
theorem KR.to (X : World) (a : Option Addr) (c : Nat) (r : R4) (ht : r.sets.length ≤ 1048576) (h : KR.Rd X a c r) : Calls Tryz.prog 37 #[.agg #[.int .i64 r.kind, .int .i64 r.tx, .int .i64 r.region, .slice a r.sets.length c]] X fun e w' =>
    ∃ (a : Option Addr) (c : Nat) (P : Nat → Prop), e = .returned (.agg #[.int .i64 r.kind, .int .i64 r.tx, .int .i64 r.region, .slice a r.sets.length c]) ∧ KR.Ow w' X.heap.size a c r P ∧ Below X.heap.size X w' := by
  refine (toRecord_anyR X r.kind r.tx r.region a r.sets.length c r.sets ht h).mono ?_
  rintro e w' ⟨g, rfl, b, h1, h2, h3, h4⟩
  exact ⟨some ⟨g, 0, none⟩, r.sets.length, fun q => q = g, rfl, ⟨.inr ⟨g, rfl, rfl, h3, h4⟩, fun q e => by subst e; exact ⟨h1, h2⟩⟩, b⟩
theorem KR.eq (X : World) (a : Option Addr) (c : Nat) (a' : Option Addr) (c' : Nat) (r : R4) (ht : r.sets.length ≤ 1048576) (h1 : KR.Rd X a c r) (h2 : KR.Rd X a' c' r) : Calls Tryz.prog 38 #[.agg #[.int .i64 r.kind, .int .i64 r.tx, .int .i64 r.region, .slice a r.sets.length c], .agg #[.int .i64 r.kind, .int .i64 r.tx, .int .i64 r.region, .slice a' r.sets.length c']] X fun e w' => e = .returned (.bool true) ∧ Below X.heap.size X w' :=
  eqRecord_same X r.kind r.tx r.region a a' r.sets.length c c' r.sets (by unfold maxLen; omega) h1 h2
set_option maxHeartbeats 1000000 in
theorem KR.mark (X : World) (B : Nat) (a : Option Addr) (c : Nat) (r : R4) (P : Nat → Prop) (k : Int) (hk : 0 ≤ k) (hk' : k ≤ 1000000000) (ht : r.sets.length ≤ 1048576) (h : KR.Ow X B a c r P) : Calls Tryz.prog 39 #[.agg #[.int .i64 r.kind, .int .i64 r.tx, .int .i64 r.region, .slice a r.sets.length c], .int .i64 k] X fun e w' => e = .returned (.int .i64 (k + 5 * (r.sets.length : Int))) ∧ KeptP P X w' := by
  obtain ⟨W, hW⟩ : ∃ W, W = X.alloc (.cells #[.int .i64 r.kind, .int .i64 r.tx, .int .i64 r.region, .slice a r.sets.length c] 41) := ⟨_, rfl⟩
  have b0 : Below X.heap.size X W := by rw [hW]; exact (Below.refl _ _).alloc (Nat.le_refl _) _
  have h0 := h.later b0
  have hm : Calls Tryz.prog 97 #[.slice a r.sets.length c, .int .i64 k] W fun e w' => e = .returned (.int .i64 (k + 5 * (r.sets.length : Int))) ∧ KeptP P W w' := by
    obtain ⟨h1, _⟩ := h0
    by_cases e : r.sets = []
    · rw [e]
      refine (markSetS_nil W a c k).mono ?_
      rintro e w' ⟨rfl, rfl⟩
      exact ⟨by simp, KeptP.refl _ _⟩
    · rcases h1 with h1 | ⟨q, rfl, hq, h3, h4⟩
      · exact absurd h1 e
      refine (markSetS_k W q r.sets.length c k ht hk hk' h4).mono ?_
      rintro e' w' ⟨rfl, ho, _, _⟩
      exact ⟨rfl, KeptP.of_only ho hq⟩
  have B0 := hidOf b0
  clear b0 h h0 ht
  go_enter Tryz.func39, Tryz.ntmps39
  go_wp2_with fail
  rw [← hW]
  clear hW
  refine hm.mono ?_
  clear hm
  rintro e w1 ⟨rfl, k1⟩
  have K : Hid (KeptP P X w1) := (KeptP.of_below B0.out).trans k1
  clear k1
  go_wp2
  go_ret
  exact ⟨rfl, K.out⟩
end Go.Proofs.YtbkcmbbeknljiaaGreat
/- An argument that is a Set, opened: its value is five plain cells, each number of its kind. -/
namespace Go.Proofs.YtbkcmbbeknljiaaGreat
open Go.ChangeShapes Go.WideShapes Go.ChangeAt Go.RowKit
def S5.cells (s : S5) : List Value := [.int .i64 s.region, .int .i64 s.slot, .int .i64 s.value, .bool s.used, .int .i64 s.version]
def S5.wf (s : S5) : Prop := (Lit.int .i64 s.region).wf = true ∧ (Lit.int .i64 s.slot).wf = true ∧ (Lit.int .i64 s.value).wf = true ∧ (Lit.int .i64 s.version).wf = true
theorem list5 {α : Type} {cs : List α} (h : cs.length = 5) : ∃ c0 c1 c2 c3 c4, cs = [c0, c1, c2, c3, c4] := by
  match cs, h with
  | [c0, c1, c2, c3, c4], _ => exact ⟨c0, c1, c2, c3, c4, rfl⟩
theorem cells_set : Tryz.prog.cellsOf 172 = 5 := by kernel_rfl
theorem cells_int : Tryz.prog.cellsOf 2 = 1 := by kernel_rfl
theorem cells_bool : Tryz.prog.cellsOf 4 = 1 := by kernel_rfl
theorem open_set {H : Type} {enc : TypeId × Value → H} {w : World} {base : Nat} {spare : Nat → Bool} {held : Bool} {fuel : Nat} {cs : List Value} {x : DataW H × List MemPlace}
    (h : DataW.trod enc Tryz.prog w base spare held fuel 172 cs = some x) : ∃ s : S5, cs = s.cells ∧ s.wf := by
  obtain ⟨xs, n, _, rfl, hl, hlen, hf⟩ := DataW.trod_struct Tryz.underlying172 h
  rw [cells_set] at hl
  obtain ⟨c0, c1, c2, c3, c4, rfl⟩ := list5 hl
  obtain ⟨y0, y1, y2, y3, y4, rfl⟩ := list5 hlen
  have h0 := hf 0 _ rfl
  have h1 := hf 1 _ rfl
  have h2 := hf 2 _ rfl
  have h3 := hf 3 _ rfl
  have h4 := hf 4 _ rfl
  simp [cells_int, cells_bool] at h0 h1 h2 h3 h4
  obtain ⟨z0, e0, _, f0⟩ := DataW.trod_int Tryz.underlying2 h0
  obtain ⟨z1, e1, _, f1⟩ := DataW.trod_int Tryz.underlying2 h1
  obtain ⟨z2, e2, _, f2⟩ := DataW.trod_int Tryz.underlying2 h2
  obtain ⟨z3, e3, _⟩ := DataW.trod_bool Tryz.underlying4 h3
  obtain ⟨z4, e4, _, f4⟩ := DataW.trod_int Tryz.underlying2 h4
  simp at e0 e1 e2 e3 e4
  subst e0 e1 e2 e3 e4
  exact ⟨⟨z0, z1, z2, z3, z4⟩, rfl, f0, f1, f2, f4⟩
end Go.Proofs.YtbkcmbbeknljiaaGreat
/- An argument that is a row of cells, opened: cells in memory, two numbers each. -/
namespace Go.Proofs.YtbkcmbbeknljiaaGreat
open Go.ChangeShapes Go.WideShapes Go.ChangeAt Go.RowKit Go.Deep
theorem list2 {α : Type} {cs : List α} (h : cs.length = 2) : ∃ c0 c1, cs = [c0, c1] := by
  match cs, h with
  | [c0, c1], _ => exact ⟨c0, c1, rfl⟩
theorem cells_cell : Tryz.prog.cellsOf 122 = 2 := by kernel_rfl
theorem cells_num : Tryz.prog.cellsOf 2 = 1 := by kernel_rfl
theorem open_cell {H : Type} {enc : TypeId × Value → H} {w : World} {base : Nat} {spare : Nat → Bool} {held : Bool} {fuel : Nat} {cs : List Value} {x : DataW H × List MemPlace}
    (h : DataW.trod enc Tryz.prog w base spare held fuel 122 cs = some x) : ∃ s : C2, cs = s.cells := by
  obtain ⟨xs, n, _, rfl, hl, hlen, hf⟩ := DataW.trod_struct Tryz.underlying122 h
  rw [cells_cell] at hl
  obtain ⟨c0, c1, rfl⟩ := list2 hl
  obtain ⟨y0, y1, rfl⟩ := list2 hlen
  have h0 := hf 0 _ rfl
  have h1 := hf 1 _ rfl
  simp [cells_num] at h0 h1
  obtain ⟨z0, e0, _, _⟩ := DataW.trod_int Tryz.underlying2 h0
  obtain ⟨z1, e1, _, _⟩ := DataW.trod_int Tryz.underlying2 h1
  simp at e0 e1
  subst e0 e1
  exact ⟨⟨z0, z1⟩, rfl⟩
theorem some_of {α : Type} {p : Nat → α → Prop} (n : Nat) (h : ∀ i, i < n → ∃ x, p i x) : ∃ xs : List α, xs.length = n ∧ ∀ i x, xs[i]? = some x → p i x := by
  induction n with
  | zero => exact ⟨[], rfl, fun i x e => by simp at e⟩
  | succ n ih =>
    obtain ⟨xs, hl, hx⟩ := ih fun i hi => h i (by omega)
    obtain ⟨y, hy⟩ := h n (by omega)
    refine ⟨xs ++ [y], by simp [hl], fun i x e => ?_⟩
    by_cases hi : i < xs.length
    · rw [List.getElem?_append_left hi] at e
      exact hx i x e
    · rw [List.getElem?_append_right (by omega)] at e
      have : i = xs.length := by
        by_cases h2 : i - xs.length = 0
        · omega
        · rw [List.getElem?_eq_none (by simp; omega)] at e; cases e
      subst this
      simp at e
      subst e
      rw [hl]; exact hy
theorem open_cellrow {H : Type} {enc : TypeId × Value → H} {w : World} {spare : Nat → Bool} {held : Bool} {fuel : Nat} {cs : List Value} {x : DataW H × List MemPlace}
    (h : DataW.trod enc Tryz.prog w 0 spare held fuel 58 cs = some x) : ∃ a n cap xs, cs = [.slice a n cap] ∧ n ≤ maxLen ∧ SlC w w.heap.size a n xs := by
  rcases open_slice Tryz.underlying58 h with ⟨rfl, _⟩ | ⟨a, len, cap, m, n, D, Pl, rfl, _, hl, hm, hmm, _, hx⟩
  · exact ⟨none, 0, 0, [], rfl, Nat.zero_le _, ⟨rfl, .inl rfl⟩⟩
  · have hlm : len ≤ m := by rw [hmm]; split <;> omega
    have key : ∀ i, i < len → ∃ s : C2, ∀ k, k < 2 → w.cell? ((a.add (i * 2)).add k) = s.cells[k]? := fun i hi => by
      obtain ⟨cs', h1, h2⟩ := hx i (by omega)
      rw [cells_cell] at h1
      obtain ⟨s, rfl⟩ := open_cell h2
      exact ⟨s, (World.cells?_some h1).2.2⟩
    obtain ⟨xs, hlen, hxs⟩ := some_of len key
    refine ⟨some a, len, cap, xs, rfl, by omega, ⟨hlen, ?_⟩⟩
    by_cases h0 : len = 0
    · exact .inl h0
    · right
      obtain ⟨b, off, spot⟩ := a
      obtain ⟨s, hs⟩ := key 0 (by omega)
      have c0 : w.cell? ⟨b, off, spot⟩ = some (.int .i64 s.head) := by simpa [Addr.add, C2.cells] using hs 0 (by omega)
      have hspot : spot = none := by simpa using World.cell?_spot c0
      subst hspot
      refine ⟨b, off, rfl, block_lt_of_cell c0, fun i s e => ?_⟩
      have hk := hxs i s e
      simp only [add_plain] at hk
      exact ⟨by simpa [C2.cells] using hk 0 (by omega), by simpa [C2.cells] using hk 1 (by omega)⟩
end Go.Proofs.YtbkcmbbeknljiaaGreat
