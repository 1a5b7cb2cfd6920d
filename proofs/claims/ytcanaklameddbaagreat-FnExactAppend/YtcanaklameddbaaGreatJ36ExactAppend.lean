/- LawN; BoxG; KdM: joined. -/
import Derived.Test.YtcanaklameddbaaGreatRows
import Derived.Test.YtcanaklameddbaaGreatTurnAJ
import Derived.Test.YtcanaklameddbaaGreatJ35ExactAppend
import Derived.WalkKit
import Derived.WalkSpells
import Derived.WalkLawsBesides
import Derived.Below
import Derived.Test.YtcanaklameddbaaGreatJ0ExactAppend
/- What the laws of an answered machine share. -/
namespace Go.Proofs.YtcanaklameddbaaGreat
open Go.RowKit
/-- The law's own copy of a machine: its blocks lie behind what was there. -/
theorem toM_any (w : World) (v : MV) (m : M4) (ht : MT m) (hs : SlM w v m) : Calls Tryz.prog 29 #[v.val m] w fun e w' =>
    ∃ (c4 : Option Addr) (k4 : Nat) (l4 : Option Addr) (j4 : Nat) (d4 : Option Addr) (i4 : Nat) (PK PR PD : Nat → Prop), e = .returned ((MV.mk c4 k4 l4 j4 d4 i4).val m) ∧ OM w' w.heap.size ⟨c4, k4, l4, j4, d4, i4⟩ m PK PR PD ∧ (∀ q, OfM PK PR PD q → q < w'.heap.size) ∧ Below w.heap.size w w' :=
  (toMachine_any w v m ht.k ht.ks ht.r ht.rs ht.n hs).mono (by
    rintro e w' ⟨⟨c4, k4, l4, j4, d4, i4⟩, B1, B2, B3, gk, gr, h1, h2, h3⟩
    have o1 := h2.o1; have o2 := h2.o2; have o3 := h2.o3; have o4 := h2.sz
    refine ⟨c4, k4, l4, j4, d4, i4, _, _, _, h1, h2.om.mono (by omega), fun q hq => ?_, h3⟩
    rcases hq with hq | hq | hq <;> omega)
theorem endM_nonneg (m : M4) : 0 ≤ endM m 1 := by unfold endM endR endK; omega
/-- A box that holds a machine, by its block. -/
structure BM (X : World) (s : Nat) (a : Option Addr) (b : Nat) (c : Option Addr) (d : Nat) (e : Option Addr) (f : Nat) (m : M4) : Prop where
  c0 : X.cell? ⟨s, 0, none⟩ = some (.bool m.alive)
  c1 : X.cell? ⟨s, 1, none⟩ = some (.slice a m.copies.length b)
  c2 : X.cell? ⟨s, 2, none⟩ = some (.slice c m.log.length d)
  c3 : X.cell? ⟨s, 3, none⟩ = some (.slice e m.cleared.length f)
theorem BM.of_block {X Y : World} {s : Nat} {a : Option Addr} {b : Nat} {c : Option Addr} {d : Nat} {e : Option Addr} {f : Nat} {m : M4} (h : BM X s a b c d e f m) (hb : Y.heap[s]? = X.heap[s]?) : BM Y s a b c d e f m :=
  ⟨(World.cell?_of_block (a := ⟨s, 0, none⟩) hb).trans h.c0, (World.cell?_of_block (a := ⟨s, 1, none⟩) hb).trans h.c1, (World.cell?_of_block (a := ⟨s, 2, none⟩) hb).trans h.c2, (World.cell?_of_block (a := ⟨s, 3, none⟩) hb).trans h.c3⟩
theorem MT.ml {m : M4} (h : MT m) : ML m := ⟨by have := h.k; unfold maxLen; omega, fun c hc => by have := h.ks c hc; unfold maxLen; omega, by have := h.r; unfold maxLen; omega, fun c hc => by have := h.rs c hc; unfold maxLen; omega, by have := h.n; unfold maxLen; omega⟩
theorem szM_turn (t g : Int) (m : M4) : szM (tM t g m) = szM m := by
  have h : ∀ r, (trR t g r).sets = r.sets := fun r => by unfold trR; split <;> rfl
  simp [szM, tM, lensR, lensK, List.map_map, Function.comp_def, h]
theorem ansT_sz (m : M4) (t g : Int) (h : szM m ≤ 1048576) : szM (ansT m t g) ≤ 1048576 := by
  unfold ansT
  by_cases hB : machB m = true
  · rw [if_pos hB, szM_turn]; exact h
  · rw [if_neg hB]; simp [szM, lensK, lensR]
end Go.Proofs.YtcanaklameddbaaGreat
/- Boxes of any cells. -/
namespace Go.Proofs.YtcanaklameddbaaGreat
open Go.RowKit
theorem bstep {A X Y : World} (h : Below A.heap.size A X) (b : Below X.heap.size X Y) : Below A.heap.size A Y := h.trans (b.mono h.size)
/-- A box that holds these cells, none of them frozen. -/
def Bx (X : World) (s : Nat) (cs : List Value) : Prop := (∀ j u, cs[j]? = some u → X.cell? ⟨s, j, none⟩ = some u) ∧ (∀ j, X.frozen? ⟨s, j, none⟩ = false) ∧ s < X.heap.size
theorem Bx.of_block {X Y : World} {s : Nat} {cs : List Value} (h : Bx X s cs) (hb : Y.heap[s]? = X.heap[s]?) (hs : X.heap.size ≤ Y.heap.size) : Bx Y s cs :=
  ⟨fun j u e => (World.cell?_of_block (a := ⟨s, j, none⟩) hb).trans (h.1 j u e), fun j => (World.frozen?_of_block (a := ⟨s, j, none⟩) hb).trans (h.2.1 j), Nat.lt_of_lt_of_le h.2.2 hs⟩
theorem Bx.later {X Y : World} {s : Nat} {cs : List Value} (h : Bx X s cs) (hb : Below X.heap.size X Y) : Bx Y s cs := h.of_block (hb.block _ h.2.2) hb.size
theorem Bx.under {X Y : World} {B s : Nat} {cs : List Value} (h : Bx X s cs) (hb : Below B X Y) (hs : s < B) : Bx Y s cs := h.of_block (hb.block _ hs) hb.size
theorem Bx.far {X : World} {s b o : Nat} {cs : List Value} (h : Bx X s cs) (hb : s ≠ b) (u : Value) : Bx (X.setCell ⟨b, o, none⟩ u) s cs := h.of_block (Below.heap_setCell _ _ _ _ hb) (by simp [World.setCell])
theorem Bx.set {X : World} {s i : Nat} {cs : List Value} (h : Bx X s cs) (hi : i < cs.length) (u : Value) : Bx (X.setCell ⟨s, i, none⟩ u) s (cs.set i u) := by
  refine ⟨fun j v e => ?_, fun j => by rw [World.frozen?_setCell]; exact h.2.1 j, by simpa [World.setCell] using h.2.2⟩
  by_cases hj : i = j
  · subst hj
    rw [List.getElem?_set_self hi] at e
    obtain rfl := Option.some.inj e
    exact cell_set_same (h.1 i _ (List.getElem?_eq_getElem hi))
  · rw [List.getElem?_set_ne hj] at e
    exact (cell_set_other (by omega)).trans (h.1 j v e)
/-- All cells of a box stored into. -/
def putB (X : World) (s : Nat) : Nat → List Value → World
  | _, [] => X
  | i, c :: cs => putB (X.setCell ⟨s, i, none⟩ c) s (i + 1) cs
theorem putB_size (s : Nat) (cs : List Value) : ∀ (X : World) (i : Nat), (putB X s i cs).heap.size = X.heap.size := by
  induction cs with
  | nil => intro X i; rfl
  | cons c cs ih => intro X i; rw [putB, ih]; simp [World.setCell]
theorem putB_block {s q : Nat} (hq : q ≠ s) (cs : List Value) : ∀ (X : World) (i : Nat), (putB X s i cs).heap[q]? = X.heap[q]? := by
  induction cs with
  | nil => intro X i; rfl
  | cons c cs ih => intro X i; rw [putB, ih]; exact Below.heap_setCell _ _ _ _ hq
theorem putB_below {B s : Nat} {w : World} (hs : B ≤ s) (cs : List Value) : ∀ (X : World) (i : Nat), Below B w X → Below B w (putB X s i cs) := by
  induction cs with
  | nil => intro X i h; exact h
  | cons c cs ih => intro X i h; exact ih _ _ (h.setCell (p := ⟨s, i, none⟩) hs _)
theorem putB_frozen {s q j : Nat} (cs : List Value) : ∀ (X : World) (i : Nat), (putB X s i cs).frozen? ⟨q, j, none⟩ = X.frozen? ⟨q, j, none⟩ := by
  induction cs with
  | nil => intro X i; rfl
  | cons c cs ih => intro X i; rw [putB, ih, World.frozen?_setCell]
theorem putB_low {s j : Nat} (cs : List Value) : ∀ (X : World) (i : Nat), j < i → (putB X s i cs).cell? ⟨s, j, none⟩ = X.cell? ⟨s, j, none⟩ := by
  induction cs with
  | nil => intro X i _; rfl
  | cons c cs ih => intro X i h; rw [putB, ih _ _ (by omega)]; exact cell_set_other (by omega)
theorem putB_cell {s : Nat} (cs : List Value) : ∀ (X : World) (i : Nat), (∀ j, i ≤ j → j < i + cs.length → ∃ v, X.cell? ⟨s, j, none⟩ = some v) → ∀ j u, cs[j]? = some u → (putB X s i cs).cell? ⟨s, i + j, none⟩ = some u := by
  induction cs with
  | nil => intro X i _ j u e; simp at e
  | cons c cs ih =>
    intro X i h j u e
    rw [putB]
    rcases j with _ | j
    · simp at e
      subst e
      obtain ⟨v, hv⟩ := h i (Nat.le_refl _) (by simp)
      rw [Nat.add_zero, putB_low _ _ _ (by omega)]
      exact cell_set_same hv
    · have := ih (X.setCell ⟨s, i, none⟩ c) (i + 1) (fun j h1 h2 => by
        obtain ⟨v, hv⟩ := h j (by omega) (by simp only [List.length_cons]; omega)
        exact ⟨v, (cell_set_other (by omega)).trans hv⟩) j u (by simpa using e)
      rwa [show i + 1 + j = i + (j + 1) by omega] at this
theorem Bx.put {X : World} {s : Nat} {cs0 : List Value} (h : Bx X s cs0) (cs : List Value) (hl : cs.length = cs0.length) : Bx (putB X s 0 cs) s cs := by
  refine ⟨fun j u e => ?_, fun j => by rw [putB_frozen]; exact h.2.1 j, by rw [putB_size]; exact h.2.2⟩
  have := putB_cell (s := s) cs X 0 (fun j _ h2 => ⟨_, h.1 j _ (List.getElem?_eq_getElem (by omega))⟩) j u e
  rwa [Nat.zero_add] at this
theorem Bx.made (X : World) (cs : List Value) (T : TypeId) : Bx (X.alloc (.cells cs.toArray T)) X.heap.size cs := ⟨fun j u e => by go_simp, fun j => by go_simp, by simp⟩
end Go.Proofs.YtcanaklameddbaaGreat
/- The machine as a kind of data that a law hands over: copied, compared, marked, held. -/
namespace Go.Proofs.YtcanaklameddbaaGreat
open Go.RowKit
theorem bkept {A X Y : World} {P : Nat → Prop} (h : Below A.heap.size A X) (k : KeptP P X Y) (hp : ∀ q, P q → A.heap.size ≤ q) : Below A.heap.size A Y := h.trans (k.below hp h.size)
/-- A machine of a call's own, in the blocks P. -/
def KM.Ow (w : World) (B : Nat) (a : Option Addr) (b : Nat) (c : Option Addr) (d : Nat) (e : Option Addr) (f : Nat) (m : M4) (P : Nat → Prop) : Prop := ∃ PK PR PD, OM w B ⟨a, b, c, d, e, f⟩ m PK PR PD ∧ (∀ q, OfM PK PR PD q → P q) ∧ (∀ q, P q → B ≤ q ∧ q < w.heap.size)
theorem KM.Ow.of {w : World} {B : Nat} {a : Option Addr} {b : Nat} {c : Option Addr} {d : Nat} {e : Option Addr} {f : Nat} {m : M4} {P : Nat → Prop} (h : KM.Ow w B a b c d e f m P) {q : Nat} (hq : P q) : B ≤ q ∧ q < w.heap.size := by obtain ⟨_, _, _, _, _, h3⟩ := h; exact h3 q hq
theorem KM.Ow.sl {w : World} {B : Nat} {a : Option Addr} {b : Nat} {c : Option Addr} {d : Nat} {e : Option Addr} {f : Nat} {m : M4} {P : Nat → Prop} (h : KM.Ow w B a b c d e f m P) : SlM w ⟨a, b, c, d, e, f⟩ m := by obtain ⟨_, _, _, h1, _, _⟩ := h; exact h1.sl
theorem KM.Ow.keep {w w' : World} {B : Nat} {a : Option Addr} {b : Nat} {c : Option Addr} {d : Nat} {e : Option Addr} {f : Nat} {m : M4} {P : Nat → Prop} (h : KM.Ow w B a b c d e f m P) (hs : w.heap.size ≤ w'.heap.size) (hk : ∀ q, P q → w'.heap[q]? = w.heap[q]?) : KM.Ow w' B a b c d e f m P := by
  obtain ⟨PK, PR, PD, h1, h2, h3⟩ := h
  exact ⟨PK, PR, PD, h1.keep hs (fun q _ hq => hk q (h2 q hq)), h2, fun q hq => ⟨(h3 q hq).1, Nat.lt_of_lt_of_le (h3 q hq).2 hs⟩⟩
theorem KM.Ow.later {w w' : World} {B : Nat} {a : Option Addr} {b : Nat} {c : Option Addr} {d : Nat} {e : Option Addr} {f : Nat} {m : M4} {P : Nat → Prop} (h : KM.Ow w B a b c d e f m P) (hb : Below w.heap.size w w') : KM.Ow w' B a b c d e f m P := h.keep hb.size (fun q hq => hb.block q (h.of hq).2)
theorem KM.Ow.low {w : World} {B B' : Nat} {a : Option Addr} {b : Nat} {c : Option Addr} {d : Nat} {e : Option Addr} {f : Nat} {m : M4} {P : Nat → Prop} (h : KM.Ow w B a b c d e f m P) (hb : B' ≤ B) : KM.Ow w B' a b c d e f m P := by
  obtain ⟨PK, PR, PD, h1, h2, h3⟩ := h
  exact ⟨PK, PR, PD, h1.mono hb, h2, fun q hq => ⟨Nat.le_trans hb (h3 q hq).1, (h3 q hq).2⟩⟩
theorem KM.of {w : World} {B : Nat} {a : Option Addr} {b : Nat} {c : Option Addr} {d : Nat} {e : Option Addr} {f : Nat} {m : M4} {PK PR PD : Nat → Prop} (h : OM w B ⟨a, b, c, d, e, f⟩ m PK PR PD) (hl : ∀ q, OfM PK PR PD q → q < w.heap.size) : KM.Ow w B a b c d e f m (OfM PK PR PD) :=
  ⟨PK, PR, PD, h, fun _ hq => hq, fun q hq => ⟨by rcases hq with hq | hq | hq; exact h.kB q hq; exact h.rB q hq; exact h.dB q hq, hl q hq⟩⟩
theorem KM.to (X : World) (a : Option Addr) (b : Nat) (c : Option Addr) (d : Nat) (e : Option Addr) (f : Nat) (m : M4) (ht : MT m) (h : SlM X ⟨a, b, c, d, e, f⟩ m) : Calls Tryz.prog 29 #[.agg #[.bool m.alive, .slice a m.copies.length b, .slice c m.log.length d, .slice e m.cleared.length f]] X fun r w' =>
    ∃ (a : Option Addr) (b : Nat) (c : Option Addr) (d : Nat) (e : Option Addr) (f : Nat) (P : Nat → Prop), r = .returned (.agg #[.bool m.alive, .slice a m.copies.length b, .slice c m.log.length d, .slice e m.cleared.length f]) ∧ KM.Ow w' X.heap.size a b c d e f m P ∧ Below X.heap.size X w' := by
  have hh := toM_any X ⟨a, b, c, d, e, f⟩ m ht h
  simp only [MV.val] at hh
  refine hh.mono ?_
  rintro r w' ⟨a, b, c, d, e, f, PK, PR, PD, rfl, o, l, bl⟩
  exact ⟨a, b, c, d, e, f, _, rfl, KM.of o l, bl⟩
theorem KM.eq (X : World) (a : Option Addr) (b : Nat) (c : Option Addr) (d : Nat) (e : Option Addr) (f : Nat) (a' : Option Addr) (b' : Nat) (c' : Option Addr) (d' : Nat) (e' : Option Addr) (f' : Nat) (m : M4) (ht : MT m) (h1 : SlM X ⟨a, b, c, d, e, f⟩ m) (h2 : SlM X ⟨a', b', c', d', e', f'⟩ m) : Calls Tryz.prog 31 #[.agg #[.bool m.alive, .slice a m.copies.length b, .slice c m.log.length d, .slice e m.cleared.length f], .agg #[.bool m.alive, .slice a' m.copies.length b', .slice c' m.log.length d', .slice e' m.cleared.length f']] X fun r w' => r = .returned (.bool true) ∧ Below X.heap.size X w' := by
  have hh := eqMachine_same X ⟨a, b, c, d, e, f⟩ ⟨a', b', c', d', e', f'⟩ m ht.ml h1 h2
  simp only [MV.val] at hh
  exact hh
theorem KM.mark (X : World) (B : Nat) (a : Option Addr) (b : Nat) (c : Option Addr) (d : Nat) (e : Option Addr) (f : Nat) (m : M4) (P : Nat → Prop) (k : Int) (hk : 0 ≤ k) (hk' : k ≤ 100000000) (ht : MT m) (h : KM.Ow X B a b c d e f m P) : Calls Tryz.prog 33 #[.agg #[.bool m.alive, .slice a m.copies.length b, .slice c m.log.length d, .slice e m.cleared.length f], .int .i64 k] X fun r w' => r = .returned (.int .i64 (endM m k)) ∧ KeptP P X w' ∧ SlM w' ⟨a, b, c, d, e, f⟩ (mkM m k) := by
  obtain ⟨PK, PR, PD, h1, h2, h3⟩ := h
  have hh := markMachine_any X B ⟨a, b, c, d, e, f⟩ m PK PR PD k hk hk' ht h1
  simp only [MV.val] at hh
  refine hh.mono ?_
  rintro r w' ⟨rfl, kp, o⟩
  exact ⟨rfl, kp.mono (fun q hq => h2 q hq.2), o.sl⟩
theorem KM.held (X : World) (a : Option Addr) (b : Nat) (c : Option Addr) (d : Nat) (e : Option Addr) (f : Nat) (m : M4) (k : Int) (hk : 0 ≤ k) (hk' : k ≤ 100000000) (ht : MT m) (h : SlM X ⟨a, b, c, d, e, f⟩ (mkM m k)) : Calls Tryz.prog 35 #[.agg #[.bool m.alive, .slice a m.copies.length b, .slice c m.log.length d, .slice e m.cleared.length f], .int .i64 k] X fun r w' => r = .returned (.int .i64 (endM m k)) ∧ Below X.heap.size X w' := by
  have hh := heldMachine_any X ⟨a, b, c, d, e, f⟩ m k hk hk' ht h
  simp only [MV.val] at hh
  exact hh
theorem KM.sz (X : World) (a : Option Addr) (b : Nat) (c : Option Addr) (d : Nat) (e : Option Addr) (f : Nat) (m : M4) (hl : ML m) (h : SlM X ⟨a, b, c, d, e, f⟩ m) : Calls Tryz.prog 27 #[.agg #[.bool m.alive, .slice a m.copies.length b, .slice c m.log.length d, .slice e m.cleared.length f], .int .i64 1048576] X fun r w' => r = .returned (.int .i64 (leftR 1048576 (szM m))) ∧ Below X.heap.size X w' := by
  have hh := szMachine_any X ⟨a, b, c, d, e, f⟩ m hl h
  simp only [MV.val] at hh
  exact hh
theorem endM_big (m : M4) (k : Int) : k ≤ endM m k := by unfold endM endR endK; omega
theorem endM_top (m : M4) (k : Int) (h : MT m) : endM m k ≤ k + 201048576 := by have h1 := h.tk; have h2 := h.tr; have h3 := h.n; unfold endM endR endK; omega
end Go.Proofs.YtcanaklameddbaaGreat
