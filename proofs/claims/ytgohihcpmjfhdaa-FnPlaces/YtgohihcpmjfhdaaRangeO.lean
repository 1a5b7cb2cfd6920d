/- A range over a function whose iterator ranges over a function itself: the iterator's word is that it turns nothing but what is no cells and was laid since its call began. No program in sight. -/
import Derived.RangeFuncNested
import Derived.RangeFuncBound
import Derived.RangeFuncCalls
import Derived.RangeFuncLeaves
import Derived.Test.YtgohihcpmjfhdaaRows
namespace Go.Proofs.Ytgohihcpmjfhdaa
open Go.RowKit
/-- The iterator's contract: a round tells what it kept in both its ways out. -/
def SeqO {α : Type} (n : Nat) (P : Program) (g : Nat) (lb : Array Value) (encs : α → Array Value) (Kp : World → World → Prop) (S Sp : List α → Prop) (N : Nat) (w : World) : Prop :=
  ∀ (l : Nat) (J Jx : List α → World → Prop) (W : World), Below w.heap.size w W → w.heap.size + 2 ≤ W.heap.size → OwnFrom W.heap.size J → OwnFrom W.heap.size Jx →
    (∀ pre x W1, J pre W1 → pre.length < N → YieldAt Fence.wide (n - 1) P l (encs x) W1 fun e W' =>
      Kp W1 W' ∧ ((e = .returned (.bool true) ∧ J (pre ++ [x]) W') ∨ (e = .returned (.bool false) ∧ Jx (pre ++ [x]) W'))) →
    J [] W →
    CallsIn Fence.wide n P g (#[.func (.yield l) #[] #[]] ++ lb) W fun e W' => (∃ v, e = .returned v) ∧ ((∃ xs, S xs ∧ J xs W') ∨ (∃ pre, Sp pre ∧ Jx pre W'))
/-- How a round's body may be left. -/
def postO {α : Type} (Kp : World → World → Prop) (I : List α → World → Prop) (Ix : Code → List α → World → Prop) (xs : List α) (W : World) : Exit → Act → World → Prop
  | .normal, _, W' => KeepsOthers W W' ∧ Kp W W' ∧ I xs W'
  | .ret, _, W' => KeepsOthers W W' ∧ Kp W W' ∧ Ix .ret xs W'
  | .exit id, _, W' => KeepsOthers W W' ∧ Kp W W' ∧ Ix (.exit id) xs W'
  | .goto t, _, W' => KeepsOthers W W' ∧ Kp W W' ∧ Ix (.goto t) xs W'
  | .panic _, _, _ => False
  | .outgrown, _, _ => False
/-- The jump that is pending behind a round. -/
def jumpOf : Exit → Option (Option Code)
  | .normal => some none
  | .ret => some (some .ret)
  | .exit id => some (some (.exit id))
  | .goto t => some (some (.goto t))
  | .panic _ => none
  | .outgrown => none
theorem roundPost_of {P : Program} {l : Nat} {R : Ending → World → Prop} {e : Exit} {a : Act} {W : World} {j : Option Code} (he : jumpOf e = some j) (h : ∃ v w', (Instr.endRound l j).run P W = .ok v w' ∧ R (.returned v) w') : roundPost P l R e a W := by
  cases e <;> simp only [jumpOf, Option.some.injEq, reduceCtorEq] at he <;> subst he <;> exact h
theorem wpIn_rangeO {P : Program} {n : Nat} {α : Type} {g : Operand} {ps : Array Tmp} {assign body : Code} {Q : Exit → Act → World → Prop} {a : Act} {w : World}
    (h1 : 1 ≤ n) {gf : Nat} {lb : Array Value} (hg : a.eval g = .func (.func gf) #[] lb) (eg : ∀ args w, (callFunc gf args).run P w = .ok (.enter gf args) w)
    {encs : α → Array Value} {Kp : World → World → Prop} {S Sp : List α → Prop} {N : Nat} (hseq : SeqO (n - 1) P gf lb encs Kp S Sp N w)
    (hKt : ∀ {A B C : World}, Kp A B → Kp B C → Kp A C) (hKb : ∀ (W : World) (o o' : Obj), W.heap[w.heap.size + 1]? = some o → o.isCells = false → Kp W (W.putObj (w.heap.size + 1) o')) (hps : ∀ x, (encs x).size = ps.size)
    (I : List α → World → Prop) (Ix : Code → List α → World → Prop) (hI : OwnFrom w.heap.size I) (hIx : ∀ c, OwnFrom w.heap.size (Ix c)) (h0 : I [] w) (a₁ : α → Act)
    (hassign : ∀ (l : Nat) (x : α) (W : World) (K : Act → World → Prop), K (a₁ x) W →
      assign.wpIn (Fence.wide.inRound l) (n - 1 - 1) P (Exit.then K (fun _ _ _ => False)) { tmps := (ps.zip (encs x)).foldl (fun t (p, v) => t.setIfInBounds p v) a.tmps, defers := [] } W)
    (hbody : ∀ (l : Nat) (pre : List α) (x : α) (W : World), I pre W → pre.length < N → body.wpIn (Fence.wide.inRound l) (n - 1 - 1) P (postO Kp I Ix (pre ++ [x]) W) (a₁ x) W)
    (hdone : ∀ (xs : List α) (W : World), S xs → I xs W → W.heap[w.heap.size]? = some (.deferred (some [])) → Q .normal { a with defers := { target := .collected w.heap.size, args := #[] } :: a.defers } W)
    (hstop : ∀ (c : Code) (pre : List α) (W : World), Sp pre → Ix c pre W → W.heap[w.heap.size]? = some (.deferred (some [])) → c.wpIn Fence.wide n P Q { a with defers := { target := .collected w.heap.size, args := #[] } :: a.defers } W) :
    (Code.rangeFunc g ps assign body).wpIn Fence.wide n P Q a w := by
  refine wpIn_rangeFunc fun fn hfn => ?_
  obtain ⟨lp, hlp⟩ : ∃ lp : LoopState → Option Code → Loop, lp = fun st pe => { state := st, pending := pe, fn, tmps := a.tmps, params := ps, assign, body, defers := w.heap.size } := ⟨_, rfl⟩
  obtain ⟨V, hV⟩ : ∃ V, (w.alloc (.deferred (some []))).alloc (.loop (lp .ready none)) = V := ⟨_, rfl⟩
  have vl : V.heap[w.heap.size + 1]? = some (.loop (lp .ready none)) := by
    have := World.alloc_heap_new (w.alloc (.deferred (some []))) (.loop (lp .ready none))
    rwa [World.size_alloc, hV] at this
  have vd : V.heap[w.heap.size]? = some (.deferred (some [])) := by
    rw [← hV]; exact (Below.heap_alloc _ _ _ (by simp)).trans (World.alloc_heap_new w _)
  have vs : V.heap.size = w.heap.size + 2 := by rw [← hV]; simp
  have vi : I [] V := by rw [← hV]; exact hI.alloc _ (hI.alloc _ h0)
  have vb : Below w.heap.size w V := by rw [← hV]; exact ((Below.refl _ w).alloc (Nat.le_refl _) _).alloc (by simp) _
  have wider : ∀ {A B : World} {row : Option Nat}, (∀ r, row = some r → V.heap.size ≤ r ∧ ∃ o : Obj, A.heap[r]? = some o ∧ o.isCells = false) → (∀ r, row = some r → w.heap.size ≤ r ∧ ∃ o : Obj, A.heap[r]? = some o ∧ o.isCells = false) :=
    fun {_ _ _} hr r e => ⟨by have := (hr r e).1; omega, (hr r e).2⟩
  have still : ∀ {A B : World} {row : Option Nat} {k : Nat} {o : Obj}, A.grownBy B row → (∀ r, row = some r → V.heap.size ≤ r ∧ ∃ o : Obj, A.heap[r]? = some o ∧ o.isCells = false) → k < w.heap.size + 2 → A.heap[k]? = some o → B.heap[k]? = some o :=
    fun {_ _ _ _ _} hg' hr hk ho => (hg'.block _ (Array.getElem?_eq_some_iff.1 ho).1 (fun e => by have := (hr _ e.symm).1; omega)).trans ho
  refine ⟨w.heap.size + 1, [{ target := .collected w.heap.size, args := #[] }], V, { target := .fn (.func gf) lb, args := #[.func (.yield (w.heap.size + 1)) #[] #[]] }, V, gf, #[.func (.yield (w.heap.size + 1)) #[] #[]] ++ lb, V,
    by rw [← hV, hlp]; exact run_enterLoop_outer _ _ _ _ _, by simp only [resolve, hg]; simp [go_sem], fun _ _ => trivial, by simp [invoke, go_sem, eg], fun _ => h1, ?_⟩
  refine (hseq (w.heap.size + 1)
    (fun pre W => I pre W ∧ W.heap[w.heap.size + 1]? = some (.loop (lp .ready none)) ∧ W.heap[w.heap.size]? = some (.deferred (some [])))
    (fun pre W => ∃ c, Ix c pre W ∧ W.heap[w.heap.size + 1]? = some (.loop (lp .done (some c))) ∧ W.heap[w.heap.size]? = some (.deferred (some [])))
    V vb (by omega) (fun s A B row hs hg' hr => ⟨hI s A B row hs.1 hg' (wider (B := B) hr), still hg' hr (by omega) hs.2.1, still hg' hr (by omega) hs.2.2⟩)
    (fun s A B row hs hg' hr => by
      obtain ⟨c, h1, h2, h3⟩ := hs
      exact ⟨c, hIx c s A B row h1 hg' (wider (B := B) hr), still hg' hr (by omega) h2, still hg' hr (by omega) h3⟩) ?_ ⟨vi, vl, vd⟩).mono ?_
  · rintro pre x W ⟨hi, hl, hd⟩ hlen
    have hlt : w.heap.size + 1 < W.heap.size := (Array.getElem?_eq_some_iff.1 hl).1
    have hy := run_yield (P := P) (args := encs x) hl (by rw [hlp]; exact hps x)
    rw [hlp] at hy
    refine ⟨fn, _, assign, body, hy, roundIn_of_wpIn hfn (hassign _ x W _ ⟨_, run_beginRound hl (by rw [hlp]), ?_⟩)⟩
    obtain ⟨U, hU⟩ : ∃ U, W.putObj (w.heap.size + 1) (.loop { lp .ready none with state := .busy }) = U := ⟨_, rfl⟩
    have ul : U.heap[w.heap.size + 1]? = some (.loop { lp .ready none with state := .busy }) := by rw [← hU]; exact World.putObj_heap_same hlt
    have ud : U.heap[w.heap.size]? = some (.deferred (some [])) := by rw [← hU]; exact (World.putObj_heap_other (by omega)).trans hd
    have uk : Kp W U := by rw [← hU]; exact hKb _ _ _ hl rfl
    have ui : I pre U := by rw [← hU]; exact hI.putObj _ hi (by omega) hl rfl
    rw [hU]
    refine wpIn_mono (hbody _ pre x U ui hlen) fun e a3 X hp => ?_
    have fin : ∀ (j : Option Code), KeepsOthers U X → Kp U X → ∃ Y, (Instr.endRound (w.heap.size + 1) j).run P X = .ok (.bool j.isNone) Y ∧ Y = X.putObj (w.heap.size + 1) (.loop (lp (if j.isNone then .ready else .done) j)) ∧ X.heap[w.heap.size + 1]? = some (.loop { lp .ready none with state := .busy }) ∧ Y.heap[w.heap.size + 1]? = some (.loop (lp (if j.isNone then .ready else .done) j)) ∧ Y.heap[w.heap.size]? = some (.deferred (some [])) ∧ Kp W Y := fun j ko kp => by
      have xl := ko.same _ _ ul rfl
      have hr := run_endRound (P := P) j xl
      refine ⟨X.putObj (w.heap.size + 1) (.loop (lp (if j.isNone then .ready else .done) j)), by rw [hr, hlp], rfl, xl, World.putObj_heap_same (Array.getElem?_eq_some_iff.1 xl).1, (World.putObj_heap_other (by omega)).trans (ko.same _ _ ud rfl), hKt uk (hKt kp (hKb _ _ _ xl rfl))⟩
    cases e with
    | normal =>
      obtain ⟨ko, kp, hi3⟩ := hp
      obtain ⟨Y, hr, hY, xl, yl, yd, ky⟩ := fin none ko kp
      exact roundPost_of (j := none) rfl ⟨_, Y, hr, ky, .inl ⟨rfl, by rw [hY]; exact hI.putObj _ hi3 (by omega) xl rfl, yl, yd⟩⟩
    | ret =>
      obtain ⟨ko, kp, hi3⟩ := hp
      obtain ⟨Y, hr, hY, xl, yl, yd, ky⟩ := fin (some .ret) ko kp
      exact roundPost_of (j := some .ret) rfl ⟨_, Y, hr, ky, .inr ⟨rfl, _, by rw [hY]; exact (hIx _).putObj _ hi3 (by omega) xl rfl, yl, yd⟩⟩
    | exit id =>
      obtain ⟨ko, kp, hi3⟩ := hp
      obtain ⟨Y, hr, hY, xl, yl, yd, ky⟩ := fin (some (.exit id)) ko kp
      exact roundPost_of (j := some (.exit id)) rfl ⟨_, Y, hr, ky, .inr ⟨rfl, _, by rw [hY]; exact (hIx _).putObj _ hi3 (by omega) xl rfl, yl, yd⟩⟩
    | goto t =>
      obtain ⟨ko, kp, hi3⟩ := hp
      obtain ⟨Y, hr, hY, xl, yl, yd, ky⟩ := fin (some (.goto t)) ko kp
      exact roundPost_of (j := some (.goto t)) rfl ⟨_, Y, hr, ky, .inr ⟨rfl, _, by rw [hY]; exact (hIx _).putObj _ hi3 (by omega) xl rfl, yl, yd⟩⟩
    | panic ch => exact hp.elim
    | outgrown => exact hp.elim
  · rintro e X ⟨⟨v, rfl⟩, (⟨xs, hS, hi, hl, hd⟩ | ⟨pre, hSp, c, hi, hl, hd⟩)⟩
    · have hr := run_endLoop (P := P) hl (by rw [hlp]; simp)
      rw [hlp] at hr
      exact ⟨none, _, hr, hdone xs _ hS (hI.putObj _ hi (by omega) hl rfl) ((World.putObj_heap_other (by omega)).trans hd)⟩
    · have hr := run_endLoop (P := P) hl (by rw [hlp]; simp)
      rw [hlp] at hr
      exact ⟨some c, _, hr, hstop c pre _ hSp ((hIx c).putObj _ hi (by omega) hl rfl) ((World.putObj_heap_other (by omega)).trans hd)⟩
/-- k is not the block of the row that box Bk holds. -/
def NR (Bk : Nat) (W : World) (k : Nat) : Prop := ∀ v r, W.cell? ⟨Bk, 0, none⟩ = some v → v.ownBlock = some r → r ≠ k
theorem NR.of_block {Bk k : Nat} {W W' : World} (h : NR Bk W k) (e : W'.heap[Bk]? = W.heap[Bk]?) : NR Bk W' k := fun v r hc => h v r ((World.cell?_of_block (a := ⟨Bk, 0, none⟩) e).symm.trans hc)
/-- Nothing is turned but the box Bk, the row that it holds, and what is no cells up to block L; the row stays or is a new block. -/
structure KeepR (Bk L : Nat) (W W' : World) : Prop where
  size : W.heap.size ≤ W'.heap.size
  cells : ∀ (k : Nat) (o : Obj), W.heap[k]? = some o → o.isCells = true → k ≠ Bk → NR Bk W k → W'.heap[k]? = some o
  others : ∀ (k : Nat) (o : Obj), W.heap[k]? = some o → o.isCells = false → L < k → W'.heap[k]? = some o
  row : ∀ k, k < W.heap.size → NR Bk W k → NR Bk W' k
theorem KeepR.trans {Bk L : Nat} {A B C : World} (h : KeepR Bk L A B) (k : KeepR Bk L B C) : KeepR Bk L A C :=
  ⟨Nat.le_trans h.size k.size, fun i o hi hc hb hn => k.cells i o (h.cells i o hi hc hb hn) hc hb (h.row i (Array.getElem?_eq_some_iff.1 hi).1 hn),
    fun i o hi hc hL => k.others i o (h.others i o hi hc hL) hc hL, fun i hi hn => k.row i (Nat.lt_of_lt_of_le hi h.size) (h.row i hi hn)⟩
theorem KeepR.refl (Bk L : Nat) (W : World) : KeepR Bk L W W := ⟨Nat.le_refl _, fun _ _ h _ _ _ => h, fun _ _ h _ _ => h, fun _ _ h => h⟩
theorem KeepR.put {Bk L : Nat} (hne : Bk ≠ L) (W : World) (o o' : Obj) (h : W.heap[L]? = some o) (hc : o.isCells = false) : KeepR Bk L W (W.putObj L o') := by
  refine ⟨by simp [World.putObj], fun k o1 hk h1 _ _ => ?_, fun k o1 hk _ hL => ?_, fun k _ hn => hn.of_block (World.putObj_heap_other hne)⟩
  · by_cases e : k = L
    · rw [e, h] at hk; cases hk; rw [hc] at h1; cases h1
    · exact (World.putObj_heap_other e).trans hk
  · exact (World.putObj_heap_other (by omega)).trans hk
theorem KeepR.boxed {Bk L B : Nat} {t : TypeId} {v : Value} {W W' : World} (h : KeepR Bk L W W') (hb : Boxed W B t v) (hne : B ≠ Bk) (hn : NR Bk W B) : Boxed W' B t v := h.cells B _ hb rfl hne hn
end Go.Proofs.Ytgohihcpmjfhdaa
