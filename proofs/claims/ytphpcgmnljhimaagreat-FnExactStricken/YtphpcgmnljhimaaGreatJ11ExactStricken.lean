/- RangeO; Vals; Living; LivV; RegR; VoL; YOwnP; YOwnTs; FindS; YOwnTi; FindI; YSofI; ValM; VoI; YNuD; YWanC: joined. -/
import Derived.RangeFuncNested
import Derived.RangeFuncBound
import Derived.RangeFuncCalls
import Derived.RangeFuncLeaves
import Derived.Test.YtphpcgmnljhimaaGreatRows
import Derived.Test.YtphpcgmnljhimaaGreatJ10ExactStricken
import Derived.Shelf.Abstract
import Derived.Shelf.RegionOpen
import Derived.WalkKit
import Derived.WalkSpells
import Derived.WalkLawsBesides
import Derived.OwnWalkIn
import Derived.TacticsInMore
import Derived.LoopNIn
import Derived.LoopIn
import Derived.RegionIn
import Derived.Test.YtphpcgmnljhimaaGreatJ7ExactStricken
import Derived.OrdersIn
import Derived.Below
import Derived.Lib.QuietBelow
import Derived.BigQuiet
import Derived.Deep.CutRange
import Derived.LaidEql
import Derived.RowKitTokens
import Derived.Test.YtphpcgmnljhimaaGreatJ8ExactStricken
import Derived.Test.YtphpcgmnljhimaaGreatJ2ExactStricken
import Derived.Deep.Upon
import Derived.Test.YtphpcgmnljhimaaGreatJ9ExactStricken
import Derived.Test.YtphpcgmnljhimaaGreatJ5ExactStricken
import Derived.Deep.QuietTactic
import Derived.Lib.SliceRun
namespace Go.Proofs.YtphpcgmnljhimaaGreat
open Go.RowKit
def SeqO {α : Type} (n : Nat) (P : Program) (g : Nat) (lb : Array Value) (encs : α → Array Value) (Kp : World → World → Prop) (S Sp : List α → Prop) (N : Nat) (w : World) : Prop :=
  ∀ (l : Nat) (J Jx : List α → World → Prop) (W : World), Below w.heap.size w W → w.heap.size + 2 ≤ W.heap.size → OwnFrom W.heap.size J → OwnFrom W.heap.size Jx →
    (∀ pre x W1, J pre W1 → pre.length < N → YieldAt Fence.wide (n - 1) P l (encs x) W1 fun e W' =>
      Kp W1 W' ∧ ((e = .returned (.bool true) ∧ J (pre ++ [x]) W') ∨ (e = .returned (.bool false) ∧ Jx (pre ++ [x]) W'))) →
    J [] W →
    CallsIn Fence.wide n P g (#[.func (.yield l) #[] #[]] ++ lb) W fun e W' => (∃ v, e = .returned v) ∧ ((∃ xs, S xs ∧ J xs W') ∨ (∃ pre, Sp pre ∧ Jx pre W'))
def postO {α : Type} (Kp : World → World → Prop) (I : List α → World → Prop) (Ix : Code → List α → World → Prop) (xs : List α) (W : World) : Exit → Act → World → Prop
  | .normal, _, W' => KeepsOthers W W' ∧ Kp W W' ∧ I xs W'
  | .ret, _, W' => KeepsOthers W W' ∧ Kp W W' ∧ Ix .ret xs W'
  | .exit id, _, W' => KeepsOthers W W' ∧ Kp W W' ∧ Ix (.exit id) xs W'
  | .goto t, _, W' => KeepsOthers W W' ∧ Kp W W' ∧ Ix (.goto t) xs W'
  | .panic _, _, _ => False
  | .outgrown, _, _ => False
def jumpOf : Exit → Option (Option Code)
  | .normal => some none
  | .ret => some (some .ret)
  | .exit id => some (some (.exit id))
  | .goto t => some (some (.goto t))
  | .panic _ => none
  | .outgrown => none
theorem roundPost_of {P : Program} {l : Nat} {R : Ending → World → Prop} {e : Exit} {a : Act} {W : World} {j : Option Code} (he : jumpOf e = some j) (h : ∃ v w', (Instr.endRound l j).run P W = .ok v w' ∧ R (.returned v) w') : roundPost P l R e a W := by
  cases e <;> simp only [jumpOf, Option.some.injEq, reduceCtorEq] at he <;> subst he <;> exact h
theorem wpIn_rangeO {P : Program} {n : Nat} {α : Type} {g : Operand} {ps : Array Tmp} {assign body : Code} {Q : Exit → Act → World → Prop} {a : Act} {w : World}
    (h1 : 1 ≤ n) {gf : Nat} {lb : Array Value} (hg : a.eval g = .func (.func gf) #[] lb) (eg : ∀ args w, (callFunc gf args).run P w = .ok (.enter gf args) w)
    {encs : α → Array Value} {Kp : World → World → Prop} {S Sp : List α → Prop} {N : Nat} (hseq : SeqO (n - 1) P gf lb encs Kp S Sp N w)
    (hKt : ∀ {A B C : World}, Kp A B → Kp B C → Kp A C) (hKb : ∀ (W : World) (o o' : Obj), W.heap[w.heap.size + 1]? = some o → o.isCells = false → Kp W (W.putObj (w.heap.size + 1) o')) (hps : ∀ x, (encs x).size = ps.size)
    (I : List α → World → Prop) (Ix : Code → List α → World → Prop) (hI : OwnFrom w.heap.size I) (hIx : ∀ c, OwnFrom w.heap.size (Ix c)) (h0 : I [] w) (a₁ : α → Act)
    (hassign : ∀ (l : Nat) (x : α) (W : World) (K : Act → World → Prop), K (a₁ x) W →
      assign.wpIn (Fence.wide.inRound l) (n - 1 - 1) P (Exit.then K (fun _ _ _ => False)) { tmps := (ps.zip (encs x)).foldl (fun t (p, v) => t.setIfInBounds p v) a.tmps, defers := [] } W)
    (hbody : ∀ (l : Nat) (pre : List α) (x : α) (W : World), I pre W → pre.length < N → body.wpIn (Fence.wide.inRound l) (n - 1 - 1) P (postO Kp I Ix (pre ++ [x]) W) (a₁ x) W)
    (hdone : ∀ (xs : List α) (W : World), S xs → I xs W → W.heap[w.heap.size]? = some (.deferred (some [])) → Q .normal { a with defers := { target := .collected w.heap.size, args := #[] } :: a.defers } W)
    (hstop : ∀ (c : Code) (pre : List α) (W : World), Sp pre → Ix c pre W → W.heap[w.heap.size]? = some (.deferred (some [])) → c.wpIn Fence.wide n P Q { a with defers := { target := .collected w.heap.size, args := #[] } :: a.defers } W) :
    (Code.rangeFunc g ps assign body).wpIn Fence.wide n P Q a w := by
  refine wpIn_rangeFunc fun fn hfn => ?_
  obtain ⟨lp, hlp⟩ : ∃ lp : LoopState → Option Code → Loop, lp = fun st pe => { state := st, pending := pe, fn, tmps := a.tmps, params := ps, assign, body, defers := w.heap.size } := ⟨_, rfl⟩
  obtain ⟨V, hV⟩ : ∃ V, (w.alloc (.deferred (some []))).alloc (.loop (lp .ready none)) = V := ⟨_, rfl⟩
  have vl : V.heap[w.heap.size + 1]? = some (.loop (lp .ready none)) := by
    have := World.alloc_heap_new (w.alloc (.deferred (some []))) (.loop (lp .ready none))
    rwa [World.size_alloc, hV] at this
  have vd : V.heap[w.heap.size]? = some (.deferred (some [])) := by
    rw [← hV]; exact (Below.heap_alloc _ _ _ (by simp)).trans (World.alloc_heap_new w _)
  have vs : V.heap.size = w.heap.size + 2 := by rw [← hV]; simp
  have vi : I [] V := by rw [← hV]; exact hI.alloc _ (hI.alloc _ h0)
  have vb : Below w.heap.size w V := by rw [← hV]; exact ((Below.refl _ w).alloc (Nat.le_refl _) _).alloc (by simp) _
  have wider : ∀ {A B : World} {row : Option Nat}, (∀ r, row = some r → V.heap.size ≤ r ∧ ∃ o : Obj, A.heap[r]? = some o ∧ o.isCells = false) → (∀ r, row = some r → w.heap.size ≤ r ∧ ∃ o : Obj, A.heap[r]? = some o ∧ o.isCells = false) :=
    fun {_ _ _} hr r e => ⟨by have := (hr r e).1; omega, (hr r e).2⟩
  have still : ∀ {A B : World} {row : Option Nat} {k : Nat} {o : Obj}, A.grownBy B row → (∀ r, row = some r → V.heap.size ≤ r ∧ ∃ o : Obj, A.heap[r]? = some o ∧ o.isCells = false) → k < w.heap.size + 2 → A.heap[k]? = some o → B.heap[k]? = some o :=
    fun {_ _ _ _ _} hg' hr hk ho => (hg'.block _ (Array.getElem?_eq_some_iff.1 ho).1 (fun e => by have := (hr _ e.symm).1; omega)).trans ho
  refine ⟨w.heap.size + 1, [{ target := .collected w.heap.size, args := #[] }], V, { target := .fn (.func gf) lb, args := #[.func (.yield (w.heap.size + 1)) #[] #[]] }, V, gf, #[.func (.yield (w.heap.size + 1)) #[] #[]] ++ lb, V,
    by rw [← hV, hlp]; exact run_enterLoop_outer _ _ _ _ _, by simp only [resolve, hg]; simp [go_sem], fun _ _ => trivial, by simp [invoke, go_sem, eg], fun _ => h1, ?_⟩
  refine (hseq (w.heap.size + 1)
    (fun pre W => I pre W ∧ W.heap[w.heap.size + 1]? = some (.loop (lp .ready none)) ∧ W.heap[w.heap.size]? = some (.deferred (some [])))
    (fun pre W => ∃ c, Ix c pre W ∧ W.heap[w.heap.size + 1]? = some (.loop (lp .done (some c))) ∧ W.heap[w.heap.size]? = some (.deferred (some [])))
    V vb (by omega) (fun s A B row hs hg' hr => ⟨hI s A B row hs.1 hg' (wider (B := B) hr), still hg' hr (by omega) hs.2.1, still hg' hr (by omega) hs.2.2⟩)
    (fun s A B row hs hg' hr => by
      obtain ⟨c, h1, h2, h3⟩ := hs
      exact ⟨c, hIx c s A B row h1 hg' (wider (B := B) hr), still hg' hr (by omega) h2, still hg' hr (by omega) h3⟩) ?_ ⟨vi, vl, vd⟩).mono ?_
  · rintro pre x W ⟨hi, hl, hd⟩ hlen
    have hlt : w.heap.size + 1 < W.heap.size := (Array.getElem?_eq_some_iff.1 hl).1
    have hy := run_yield (P := P) (args := encs x) hl (by rw [hlp]; exact hps x)
    rw [hlp] at hy
    refine ⟨fn, _, assign, body, hy, roundIn_of_wpIn hfn (hassign _ x W _ ⟨_, run_beginRound hl (by rw [hlp]), ?_⟩)⟩
    obtain ⟨U, hU⟩ : ∃ U, W.putObj (w.heap.size + 1) (.loop { lp .ready none with state := .busy }) = U := ⟨_, rfl⟩
    have ul : U.heap[w.heap.size + 1]? = some (.loop { lp .ready none with state := .busy }) := by rw [← hU]; exact World.putObj_heap_same hlt
    have ud : U.heap[w.heap.size]? = some (.deferred (some [])) := by rw [← hU]; exact (World.putObj_heap_other (by omega)).trans hd
    have uk : Kp W U := by rw [← hU]; exact hKb _ _ _ hl rfl
    have ui : I pre U := by rw [← hU]; exact hI.putObj _ hi (by omega) hl rfl
    rw [hU]
    refine wpIn_mono (hbody _ pre x U ui hlen) fun e a3 X hp => ?_
    have fin : ∀ (j : Option Code), KeepsOthers U X → Kp U X → ∃ Y, (Instr.endRound (w.heap.size + 1) j).run P X = .ok (.bool j.isNone) Y ∧ Y = X.putObj (w.heap.size + 1) (.loop (lp (if j.isNone then .ready else .done) j)) ∧ X.heap[w.heap.size + 1]? = some (.loop { lp .ready none with state := .busy }) ∧ Y.heap[w.heap.size + 1]? = some (.loop (lp (if j.isNone then .ready else .done) j)) ∧ Y.heap[w.heap.size]? = some (.deferred (some [])) ∧ Kp W Y := fun j ko kp => by
      have xl := ko.same _ _ ul rfl
      have hr := run_endRound (P := P) j xl
      refine ⟨X.putObj (w.heap.size + 1) (.loop (lp (if j.isNone then .ready else .done) j)), by rw [hr, hlp], rfl, xl, World.putObj_heap_same (Array.getElem?_eq_some_iff.1 xl).1, (World.putObj_heap_other (by omega)).trans (ko.same _ _ ud rfl), hKt uk (hKt kp (hKb _ _ _ xl rfl))⟩
    cases e with
    | normal =>
      obtain ⟨ko, kp, hi3⟩ := hp
      obtain ⟨Y, hr, hY, xl, yl, yd, ky⟩ := fin none ko kp
      exact roundPost_of (j := none) rfl ⟨_, Y, hr, ky, .inl ⟨rfl, by rw [hY]; exact hI.putObj _ hi3 (by omega) xl rfl, yl, yd⟩⟩
    | ret =>
      obtain ⟨ko, kp, hi3⟩ := hp
      obtain ⟨Y, hr, hY, xl, yl, yd, ky⟩ := fin (some .ret) ko kp
      exact roundPost_of (j := some .ret) rfl ⟨_, Y, hr, ky, .inr ⟨rfl, _, by rw [hY]; exact (hIx _).putObj _ hi3 (by omega) xl rfl, yl, yd⟩⟩
    | exit id =>
      obtain ⟨ko, kp, hi3⟩ := hp
      obtain ⟨Y, hr, hY, xl, yl, yd, ky⟩ := fin (some (.exit id)) ko kp
      exact roundPost_of (j := some (.exit id)) rfl ⟨_, Y, hr, ky, .inr ⟨rfl, _, by rw [hY]; exact (hIx _).putObj _ hi3 (by omega) xl rfl, yl, yd⟩⟩
    | goto t =>
      obtain ⟨ko, kp, hi3⟩ := hp
      obtain ⟨Y, hr, hY, xl, yl, yd, ky⟩ := fin (some (.goto t)) ko kp
      exact roundPost_of (j := some (.goto t)) rfl ⟨_, Y, hr, ky, .inr ⟨rfl, _, by rw [hY]; exact (hIx _).putObj _ hi3 (by omega) xl rfl, yl, yd⟩⟩
    | panic ch => exact hp.elim
    | outgrown => exact hp.elim
  · rintro e X ⟨⟨v, rfl⟩, (⟨xs, hS, hi, hl, hd⟩ | ⟨pre, hSp, c, hi, hl, hd⟩)⟩
    · have hr := run_endLoop (P := P) hl (by rw [hlp]; simp)
      rw [hlp] at hr
      exact ⟨none, _, hr, hdone xs _ hS (hI.putObj _ hi (by omega) hl rfl) ((World.putObj_heap_other (by omega)).trans hd)⟩
    · have hr := run_endLoop (P := P) hl (by rw [hlp]; simp)
      rw [hlp] at hr
      exact ⟨some c, _, hr, hstop c pre _ hSp ((hIx c).putObj _ hi (by omega) hl rfl) ((World.putObj_heap_other (by omega)).trans hd)⟩
def NR (Bk : Nat) (W : World) (k : Nat) : Prop := ∀ v r, W.cell? ⟨Bk, 0, none⟩ = some v → v.ownBlock = some r → r ≠ k
theorem NR.of_block {Bk k : Nat} {W W' : World} (h : NR Bk W k) (e : W'.heap[Bk]? = W.heap[Bk]?) : NR Bk W' k := fun v r hc => h v r ((World.cell?_of_block (a := ⟨Bk, 0, none⟩) e).symm.trans hc)
structure KeepR (Bk L : Nat) (W W' : World) : Prop where
  size : W.heap.size ≤ W'.heap.size
  cells : ∀ (k : Nat) (o : Obj), W.heap[k]? = some o → o.isCells = true → k ≠ Bk → NR Bk W k → W'.heap[k]? = some o
  others : ∀ (k : Nat) (o : Obj), W.heap[k]? = some o → o.isCells = false → L < k → W'.heap[k]? = some o
  row : ∀ k, k < W.heap.size → NR Bk W k → NR Bk W' k
theorem KeepR.trans {Bk L : Nat} {A B C : World} (h : KeepR Bk L A B) (k : KeepR Bk L B C) : KeepR Bk L A C :=
  ⟨Nat.le_trans h.size k.size, fun i o hi hc hb hn => k.cells i o (h.cells i o hi hc hb hn) hc hb (h.row i (Array.getElem?_eq_some_iff.1 hi).1 hn),
    fun i o hi hc hL => k.others i o (h.others i o hi hc hL) hc hL, fun i hi hn => k.row i (Nat.lt_of_lt_of_le hi h.size) (h.row i hi hn)⟩
theorem KeepR.refl (Bk L : Nat) (W : World) : KeepR Bk L W W := ⟨Nat.le_refl _, fun _ _ h _ _ _ => h, fun _ _ h _ _ => h, fun _ _ h => h⟩
theorem KeepR.put {Bk L : Nat} (hne : Bk ≠ L) (W : World) (o o' : Obj) (h : W.heap[L]? = some o) (hc : o.isCells = false) : KeepR Bk L W (W.putObj L o') := by
  refine ⟨by simp [World.putObj], fun k o1 hk h1 _ _ => ?_, fun k o1 hk _ hL => ?_, fun k _ hn => hn.of_block (World.putObj_heap_other hne)⟩
  · by_cases e : k = L
    · rw [e, h] at hk; cases hk; rw [hc] at h1; cases h1
    · exact (World.putObj_heap_other e).trans hk
  · exact (World.putObj_heap_other (by omega)).trans hk
theorem KeepR.boxed {Bk L B : Nat} {t : TypeId} {v : Value} {W W' : World} (h : KeepR Bk L W W') (hb : Boxed W B t v) (hne : B ≠ Bk) (hn : NR Bk W B) : Boxed W' B t v := h.cells B _ hb rfl hne hn
end Go.Proofs.YtphpcgmnljhimaaGreat
namespace Go.Proofs.YtphpcgmnljhimaaGreat
open Go.RowKit Go.Shelf
attribute [local go_sem] Oper.semAt_some
def macE {M : Int} (x : { x : Int // 0 ≤ x ∧ x ≤ M }) : Array Value := #[.int .i64 x.1]
theorem take_snocV {α : Type} {ms : List α} {k : Nat} {x : α} (h : ms[k]? = some x) : ms.take (k + 1) = ms.take k ++ [x] := by rw [List.take_add_one, h]; rfl
theorem values_any (w : World) (a : Option Addr) (n cap : Nat) : Calls Tryz.prog 99 #[.slice a n cap] w fun e w' =>
    e = .returned (.func (.func 147) #[] #[.pointer (some ⟨w.heap.size, 0, none⟩)]) ∧ w' = w.alloc (.cells #[.slice a n cap] 54) := by
  go_enter Tryz.func99, Tryz.ntmps99
  go_wp2
  go_ret
  exact ⟨rfl, rfl⟩
def allM : List { x : Int // 0 ≤ x ∧ x ≤ 7 } := List.ofFn fun i : Fin 8 => ⟨(i.1 : Int), by omega⟩
theorem lives_any (w : World) (a : Option Addr) (n cap : Nat) (z : Int) (al : List Bool) (hz : 0 ≤ z) (hs : SlB w w.heap.size a n al) :
    Calls Tryz.prog 146 #[.slice a n cap, .int .i64 z] w fun e w' => e = .returned (.bool (livesB al z)) ∧ w' = w := by
  obtain ⟨hx, hs⟩ := hs
  obtain ⟨i, rfl⟩ := Int.eq_ofNat_of_zero_le hz
  by_cases hlt : i < n
  · have hL : livesB al (i : Int) = atB al i := by simp [livesB, hx, hlt]
    have hlt' : (i : Int) < (n : Int) := by omega
    rw [hL]
    rcases hs with hs | ⟨b, off, rfl, hb, h1⟩
    · omega
    · have c := h1 i _ (atB_of (by omega))
      clear h1 hL
      go_enter Tryz.func146, Tryz.ntmps146
      go_wp2
      go_ret
      exact ⟨rfl, rfl⟩
  · have hL : livesB al (i : Int) = false := by simp [livesB, hx, hlt]
    have hd : decide ((i : Int) < (n : Int)) = false := by simp; omega
    rw [hL]
    clear hs
    go_enter Tryz.func146, Tryz.ntmps146
    go_wp2
    go_ret
    exact ⟨rfl, rfl⟩
theorem living_any (w : World) (gf : Nat) (lb : Array Value) (a : Option Addr) (n cap : Nat) : Calls Tryz.prog 98 #[.func (.func gf) #[] lb, .slice a n cap] w fun e w' =>
    e = .returned (.func (.func 145) #[] #[.pointer (some ⟨w.heap.size, 0, none⟩), .pointer (some ⟨w.heap.size + 1, 0, none⟩)]) ∧ w' = (w.alloc (.cells #[.func (.func gf) #[] lb] 106)).alloc (.cells #[.slice a n cap] 151) := by
  go_enter Tryz.func98, Tryz.ntmps98
  go_wp2
  go_ret
  exact ⟨rfl, rfl⟩
attribute [local go_sem] Oper.semAt_some
def livM {M : Int} (al : List Bool) (ms : List { x : Int // 0 ≤ x ∧ x ≤ M }) : List { x : Int // 0 ≤ x ∧ x ≤ M } := ms.filter fun x => livesB al x.1
theorem livM_snoc {M : Int} (al : List Bool) (ms : List { x : Int // 0 ≤ x ∧ x ≤ M }) (x : { x : Int // 0 ≤ x ∧ x ≤ M }) : livM al (ms ++ [x]) = if livesB al x.1 = true then livM al ms ++ [x] else livM al ms := by
  rw [livM, List.filter_append]
  by_cases h : livesB al x.1 = true
  · simp [h, livM]
  · simp [h, livM]
theorem livM_len {M : Int} (al : List Bool) (ms : List { x : Int // 0 ≤ x ∧ x ≤ M }) : (livM al ms).length ≤ ms.length := List.length_filter_le _ _
structure LivI (l y0 Ba Bk n₀ : Nat) (aa : Option Addr) (na ca : Nat) (X Y : World) : Prop where
  yb : Boxed Y y0 53 (.func (.yield l) #[] #[])
  ab : Boxed Y Ba 151 (.slice aa na ca)
  n1 : NR Bk Y y0
  n2 : NR Bk Y Ba
  sz : X.heap.size ≤ Y.heap.size
  bel : Below n₀ X Y
theorem LivI.own {β : Type} {l y0 Ba Bk n₀ : Nat} {aa : Option Addr} {na ca : Nat} {X : World} (hBk : Bk < X.heap.size) (hn : n₀ ≤ X.heap.size) : OwnFrom X.heap.size (fun (_ : β) Y => LivI l y0 Ba Bk n₀ aa na ca X Y) := fun s A B row hs hg hr => by
  have far : ∀ k, k < X.heap.size → B.heap[k]? = A.heap[k]? := fun k hk => hg.block k (Nat.lt_of_lt_of_le hk hs.sz) (fun e => by have := (hr k e.symm).1; omega)
  have box : ∀ {k : Nat} {t : TypeId} {v : Value}, Boxed A k t v → Boxed B k t v := fun {k t v} h => h.kept hg (fun e => by
    obtain ⟨_, o, ho, hc⟩ := hr k e.symm
    rw [show A.heap[k]? = _ from h] at ho; cases ho; cases hc)
  exact ⟨box hs.yb, box hs.ab, hs.n1.of_block (far Bk hBk), hs.n2.of_block (far Bk hBk), Nat.le_trans hs.sz hg.size, hs.bel.grown hg (Nat.le_trans hn hs.sz) (fun k e => by have := (hr k e).1; omega)⟩
attribute [local go_sem] Oper.semAt_some
structure KpC (Bk : Nat) (W W' : World) : Prop where
  size : W.heap.size ≤ W'.heap.size
  cells : ∀ (k : Nat) (o : Obj), W.heap[k]? = some o → o.isCells = true → k ≠ Bk → W'.heap[k]? = some o
theorem KpC.refl (Bk : Nat) (W : World) : KpC Bk W W := ⟨Nat.le_refl _, fun _ _ h _ _ => h⟩
theorem KpC.trans {Bk : Nat} {A B C : World} (h : KpC Bk A B) (k : KpC Bk B C) : KpC Bk A C := ⟨Nat.le_trans h.size k.size, fun i o hi hc hb => k.cells i o (h.cells i o hi hc hb) hc hb⟩
theorem KpC.put {Bk : Nat} (W : World) (l : Nat) (o o' : Obj) (h : W.heap[l]? = some o) (hc : o.isCells = false) : KpC Bk W (W.putObj l o') :=
  ⟨by simp [World.putObj], fun k o1 hk h1 _ => by
    by_cases e : k = l
    · rw [e, h] at hk; cases hk; rw [hc] at h1; cases h1
    · exact (World.putObj_heap_other e).trans hk⟩
theorem KpC.cell {Bk : Nat} {W W' : World} (h : KpC Bk W W') {b i : Nat} {v : Value} (hb : b ≠ Bk) (hc : W.cell? ⟨b, i, none⟩ = some v) : W'.cell? ⟨b, i, none⟩ = some v := by
  obtain ⟨o, ho, hk⟩ := cells_of_cell hc
  exact (World.cell?_of_block (a := ⟨b, i, none⟩) ((h.cells b o ho hk hb).trans ho.symm)).trans hc
theorem KpC.boxed {Bk B : Nat} {t : TypeId} {v : Value} {W W' : World} (h : KpC Bk W W') (hb : Boxed W B t v) (hne : B ≠ Bk) : Boxed W' B t v := h.cells B _ hb rfl hne
theorem KpC.of_below {Bk n₀ : Nat} {W W' : World} (h : Below n₀ W W') (hn : n₀ = W.heap.size) : KpC Bk W W' := ⟨h.size, fun k o hk _ _ => (h.block k (by rw [hn]; exact (Array.getElem?_eq_some_iff.1 hk).1)).trans hk⟩
theorem KpC.set (W : World) (Bk i : Nat) (v : Value) : KpC Bk W (W.setCell ⟨Bk, i, none⟩ v) := ⟨by simp, fun k o hk _ hb => (Below.heap_setCell _ _ _ _ (fun e => hb e)).trans hk⟩
structure KpV (Bk L : Nat) (W W' : World) : Prop where
  c : KpC Bk W W'
  others : ∀ (k : Nat) (o : Obj), W.heap[k]? = some o → o.isCells = false → L < k → W'.heap[k]? = some o
theorem KpV.trans {Bk L : Nat} {A B C : World} (h : KpV Bk L A B) (k : KpV Bk L B C) : KpV Bk L A C := ⟨h.c.trans k.c, fun i o hi hc hL => k.others i o (h.others i o hi hc hL) hc hL⟩
theorem KpV.put {Bk L : Nat} (W : World) (o o' : Obj) (h : W.heap[L]? = some o) (hc : o.isCells = false) : KpV Bk L W (W.putObj L o') :=
  ⟨KpC.put W L o o' h hc, fun k o1 hk _ hL => (World.putObj_heap_other (by omega)).trans hk⟩
theorem KpV.step {Bk L : Nat} {W W' : World} (h : Below W.heap.size W W') (i : Nat) (v : Value) (hB : ∃ o : Obj, W'.heap[Bk]? = some o ∧ o.isCells = true) : KpV Bk L W (W'.setCell ⟨Bk, i, none⟩ v) :=
  ⟨(KpC.of_below h rfl).trans (KpC.set W' Bk i v), fun k o hk hc _ => (Below.heap_setCell _ _ _ _ (fun e => by
    obtain ⟨o', h1, h2⟩ := hB
    have hk' : W'.heap[k]? = some o := (h.block k (Array.getElem?_eq_some_iff.1 hk).1).trans hk
    rw [show k = Bk from e] at hk'; rw [h1] at hk'; cases hk'; rw [hc] at h2; cases h2)).trans ((h.block k (Array.getElem?_eq_some_iff.1 hk).1).trans hk)⟩
theorem SlB.kpc {Bk B : Nat} {W W' : World} {a : Option Addr} {n : Nat} {al : List Bool} (hs : SlB W B a n al) (h : KpC Bk W W') (hne : ∀ b off, a = some ⟨b, off, none⟩ → b ≠ Bk) : SlB W' B a n al := by
  obtain ⟨h1, h2⟩ := hs
  refine ⟨h1, h2.imp id ?_⟩
  rintro ⟨b, off, ha, hb, hx⟩
  exact ⟨b, off, ha, hb, fun i x e => h.cell (hne b off ha) (hx i x e)⟩
set_option maxRecDepth 100000 in
set_option maxHeartbeats 2000000 in
theorem values2_in {M : Int} (n : Nat) (hn : 1 ≤ n) (l Bs Bk b off cap : Nat) (ms : List { x : Int // 0 ≤ x ∧ x ≤ M }) (hm : ms.length ≤ 1000) (hb : b ≠ Bk) (J Jx : List { x : Int // 0 ≤ x ∧ x ≤ M } → World → Prop)
    (hY : ∀ pre x W, J pre W → pre.length < ms.length → YieldAt Fence.wide (n - 1) Tryz.prog l (macE x) W fun e W' =>
      (e = .returned (.bool true) ∧ J (pre ++ [x]) W' ∧ KpC Bk W W') ∨ (e = .returned (.bool false) ∧ Jx (pre ++ [x]) W'))
    (W : World) (hBs : W.cell? ⟨Bs, 0, none⟩ = some (.slice (some ⟨b, off, none⟩) ms.length cap)) (hc : ∀ j x, ms[j]? = some x → W.cell? ⟨b, off + j, none⟩ = some (.int .i64 x.1)) (h0 : J [] W) :
    CallsIn Fence.wide n Tryz.prog 147 #[.func (.yield l) #[] #[], .pointer (some ⟨Bs, 0, none⟩)] W fun e W' => (∃ v, e = .returned v) ∧
      ((∃ ys, ys = ms ∧ J ys W') ∨ (∃ pre, pre <+: ms ∧ Jx pre W')) := by
  refine callsIn_of_wp Tryz.func147 rfl trivial ?_ rfl
  simp only [Tryz.ntmps147, List.size_toArray, List.length_cons, List.length_nil, Nat.reduceAdd, Nat.reduceSub, Array.replicate_succ, Array.replicate_zero, List.push_toArray, List.append_toArray, List.nil_append, List.cons_append]
  gi_wp2
  gi_loopw [7] (fun i wr => ∃ k : Nat, k ≤ ms.length ∧ i = .int .i64 k ∧ J (ms.take k) wr ∧ KpC Bk W wr) (fun i _ => ms.length - (intOf i).toNat)
  case atStart => exact ⟨0, Nat.zero_le _, rfl, h0, KpC.refl _ _⟩
  case round =>
    obtain ⟨k, hk, rfl, hJs, hnx⟩ := hrel
    by_cases hlt : k < ms.length
    · obtain ⟨x, hx⟩ : ∃ x, ms[k]? = some x := ⟨_, List.getElem?_eq_getElem hlt⟩
      have hcx := hnx.cell hb (hc k x hx)
      obtain ⟨fn, tmps, assign, body, hy, hR⟩ := hY _ x wr hJs (by rw [List.length_take]; omega)
      simp only [macE] at hy
      have HX : Hid (ms.take (k + 1) = ms.take k ++ [x]) := take_snocV hx
      clear hx hc hY
      gi_wp2
      refine hR.mono ?_
      rintro e W3 (⟨rfl, hJ3, hk3⟩ | ⟨rfl, hJx3⟩)
      · gi_wp2
        go_roundw
        case rel => exact ⟨k + 1, by omega, by simp, by rw [HX.out]; exact hJ3, hnx.trans hk3⟩
        case measure => simp [intOf]; omega
      · gi_wp2
        refine bodyPost_ret (results_none rfl _ _ _) rfl ?_
        exact ⟨⟨_, rfl⟩, .inr ⟨_, by rw [← HX.out]; exact List.take_prefix _ _, hJx3⟩⟩
    · obtain rfl : k = ms.length := by omega
      gi_wp2
      go_end0
      exact ⟨⟨_, rfl⟩, .inl ⟨_, List.take_length, hJs⟩⟩
theorem values2_stops {M : Int} (n : Nat) (hn : 1 ≤ n) (Bs Bk b off cap : Nat) (ms : List { x : Int // 0 ≤ x ∧ x ≤ M }) (hm : ms.length ≤ 1000) (w : World) (hBs : Bs < w.heap.size) (hb : b ≠ Bk) (hbl : b < w.heap.size)
    (hB : w.cell? ⟨Bs, 0, none⟩ = some (.slice (some ⟨b, off, none⟩) ms.length cap)) (hc : ∀ j x, ms[j]? = some x → w.cell? ⟨b, off + j, none⟩ = some (.int .i64 x.1)) :
    SeqStopsK Fence.wide n Tryz.prog 147 #[.pointer (some ⟨Bs, 0, none⟩)] macE (KpC Bk) (fun ys => ys = ms) (fun pre => pre <+: ms) ms.length w := fun l J Jx W hW _ _ hY h0 =>
  values2_in n hn l Bs Bk b off cap ms hm hb J Jx hY W ((hW.cell (p := ⟨Bs, 0, none⟩) hBs).trans hB) (fun j x e => (hW.cell (p := ⟨b, off + j, none⟩) (by simp; omega)).trans (hc j x e)) h0
structure LivV (l y0 Ba Bk : Nat) (aa : Option Addr) (na ca : Nat) (X Y : World) : Prop where
  yb : Boxed Y y0 53 (.func (.yield l) #[] #[])
  ab : Boxed Y Ba 151 (.slice aa na ca)
  kp : KpC Bk X Y
theorem LivV.own {β : Type} {l y0 Ba Bk : Nat} {aa : Option Addr} {na ca : Nat} {X : World} {B : Nat} : OwnFrom B (fun (_ : β) Y => LivV l y0 Ba Bk aa na ca X Y) := fun s A C row hs hg hr => by
  have obj : ∀ {k : Nat} {o : Obj}, A.heap[k]? = some o → o.isCells = true → C.heap[k]? = some o := fun {k o} h hc => (hg.block k (Array.getElem?_eq_some_iff.1 h).1 (fun e => by
    obtain ⟨_, o', ho, hc'⟩ := hr k e.symm
    rw [h] at ho; cases ho; rw [hc] at hc'; cases hc')).trans h
  exact ⟨obj hs.yb rfl, obj hs.ab rfl, Nat.le_trans hs.kp.size hg.size, fun k o hk hc hb => obj (hs.kp.cells k o hk hc hb) hc⟩
set_option maxRecDepth 100000 in
set_option maxHeartbeats 4000000 in
theorem living2_seq {M : Int} (n : Nat) (hn : 4 ≤ n) (Bm Ba Bk gf : Nat) (lb : Array Value) (ms : List { x : Int // 0 ≤ x ∧ x ≤ M }) (N : Nat) (al : List Bool) (aa : Option Addr) (na ca : Nat) (w : World)
    (eg : ∀ args w, (callFunc gf args).run Tryz.prog w = .ok (.enter gf args) w)
    (hin : SeqStopsK Fence.wide (n - 1) Tryz.prog gf lb macE (KpC Bk) (fun ys => ys = ms) (fun pre => pre <+: ms) N w)
    (bm : Boxed w Bm 106 (.func (.func gf) #[] lb)) (ba : Boxed w Ba 151 (.slice aa na ca)) (hs : SlB w w.heap.size aa na al) (hna : ∀ b off, aa = some ⟨b, off, none⟩ → b ≠ Bk)
    (hBk : Bk < w.heap.size) (ha : Ba ≠ Bk) :
    SeqO n Tryz.prog 145 #[.pointer (some ⟨Bm, 0, none⟩), .pointer (some ⟨Ba, 0, none⟩)] macE (KpV Bk (w.heap.size + 1)) (fun ys => ys = livM al ms) (fun pre => pre <+: livM al ms) N w := by
  intro l J Jx W hW hW2 hJ hJx hY h0
  have bm' : Boxed W Bm 106 (.func (.func gf) #[] lb) := (hW.block Bm bm.lt).trans bm
  have ba' : Boxed W Ba 151 (.slice aa na ca) := (hW.block Ba ba.lt).trans ba
  have cm : ∀ o : Obj, (W.alloc o).cell? ⟨Bm, 0, none⟩ = some (.func (.func gf) #[] lb) := fun o => (bm'.alloc o).cell
  have HY : Hid _ := hY
  refine callsIn_of_wp_marks Tryz.func145 rfl trivial ?_ rfl
  simp only [Tryz.ntmps145, List.size_toArray, List.length_cons, List.length_nil, Nat.reduceAdd, Nat.reduceSub, Array.replicate_succ, Array.replicate_zero, List.push_toArray, List.append_toArray, List.nil_append, List.cons_append]
  gi_wp2
  obtain ⟨X, hX⟩ : ∃ X, W.alloc (.cells #[.func (.yield l) #[] #[]] 53) = X := ⟨_, rfl⟩
  have sX : X.heap.size = W.heap.size + 1 := by rw [← hX]; simp
  have bX : Below W.heap.size W X := by rw [← hX]; exact (Below.refl _ _).alloc (Nat.le_refl _) _
  have bwX : Below w.heap.size w X := hW.trans (bX.mono hW.size)
  have hst : LivV l W.heap.size Ba Bk aa na ca X X := ⟨by rw [← hX]; exact Boxed.new W _ _, by rw [← hX]; exact ba'.alloc _, KpC.refl _ _⟩
  have hJX : J [] X := by rw [← hX]; exact hJ.alloc _ h0
  rw [hX]
  clear hY cm
  refine wpIn_rangeFunc_ownG rfl (by omega) (gf := gf) (lb := lb) rfl trivial eg hin (fun h k => h.trans k) (fun W l o o' _ h hc _ => KpC.put W l o o' h hc) bwX (fun _ => rfl)
    (fun pre Y => J (livM al pre) Y ∧ LivV l W.heap.size Ba Bk aa na ca X Y)
    (fun c pre Y => c = .ret ∧ Jx (livM al pre) Y)
    (OwnFrom.and (fun s A B row h hg hr => hJ _ A B row h hg (fun r e => ⟨by have := (hr r e).1; omega, (hr r e).2⟩)) LivV.own)
    (fun c s A B row h hg hr => ⟨h.1, hJx _ A B row h.2 hg (fun r e => ⟨by have := (hr r e).1; omega, (hr r e).2⟩)⟩)
    ⟨hJX, hst⟩
    (fun x => { tmps := #[.func (.yield l) #[] #[], .pointer (some ⟨Bm, 0, none⟩), .pointer (some ⟨Ba, 0, none⟩), .pointer (some ⟨W.heap.size, 0, none⟩), .int .i64 x.1, .func (.func gf) #[] lb, .int .i64 x.1, undef, undef, undef, undef, undef, undef, undef, undef, undef], defers := [] }) ?assign ?body ?done ?stop
  case assign =>
    intro l' x Y K hK
    simp only [macE]
    gi_wp2
    exact hK
  case body =>
    rintro l' pre x Y ⟨hj, hl⟩ hlen
    have hsz := hW.size
    have hn1 : 1 ≤ n - 1 - 1 := by omega
    have hsY : SlB Y Y.heap.size aa na al := ((hs.below bwX).kpc hl.kp hna).mono (by have := hl.kp.size; omega)
    have hlv := lives_any Y aa na ca x.1 al x.2.1 hsY
    have ca1 := hl.ab.cell
    have cy1 := hl.yb.cell
    have KL : Hid (LivV l W.heap.size Ba Bk aa na ca X Y) := hl
    have KX : Hid (W.heap.size + 1 = X.heap.size) := sX.symm
    obtain ⟨fn, tmps, assign, body, hy, hR⟩ := HY.out _ x Y hj (Nat.lt_of_le_of_lt (livM_len al pre) hlen)
    simp only [macE] at hy
    clear hin eg bm ba hs bm' ba' hX sX bX bwX hst hJX hl hsY
    cases hb : livesB al x.1 with
    | false =>
      rw [hb] at hlv
      gi_wp2_with (refine ⟨trivial, ?_⟩; gi_at_call 146; refine (CallsIn.inRound l' (callsIn_wide.2 hlv)).mono ?_; clear hlv; rintro e Y ⟨rfl, rfl⟩)
      refine ⟨fun _ h => (by cases h), ?_⟩
      gi_wp2
      exact ⟨KeepsFrom.refl _ _, KpC.refl _ _, by rw [livM_snoc, if_neg (by rw [hb]; simp)]; exact hj, KL.out⟩
    | true =>
      rw [hb] at hlv
      gi_wp2_with (refine ⟨trivial, ?_⟩; gi_at_call 146; refine (CallsIn.inRound l' (callsIn_wide.2 hlv)).mono ?_; clear hlv; rintro e Y ⟨rfl, rfl⟩)
      refine RoundIn.mono (R := _) ⟨hR.1, fun c cs _ => hR.2 c cs (room_wide _)⟩ ?_
      rintro e Z ⟨kr, (⟨rfl, hj3⟩ | ⟨rfl, hx3⟩)⟩
      · gi_wp2
        have hl := KL.out
        exact ⟨⟨kr.c.size, fun k o hk ho hc => kr.others k o ho hc (by have := KX.out; omega)⟩, kr.c, by rw [livM_snoc, if_pos hb]; exact hj3, ⟨kr.c.boxed hl.yb (by omega), kr.c.boxed hl.ab ha, hl.kp.trans kr.c⟩⟩
      · gi_wp2
        exact ⟨⟨kr.c.size, fun k o hk ho hc => kr.others k o ho hc (by have := KX.out; omega)⟩, rfl, by rw [livM_snoc, if_pos hb]; exact hx3⟩
  case done =>
    rintro D ys Y hD rfl ⟨hj, hl⟩ hK
    gi_wp2
    refine ⟨by simp, .inl ⟨_, _, rfl, run_takeDeferred hK, ?_⟩⟩
    exact ⟨_, results_none rfl _ _ _, ⟨_, rfl⟩, .inl ⟨_, rfl, hJ.putObj _ hj (by omega) hK rfl⟩⟩
  case stop =>
    rintro D c pre Y hD hp ⟨rfl, hj⟩ hK
    gi_wp2
    refine ⟨by simp, .inl ⟨_, _, rfl, run_takeDeferred hK, ?_⟩⟩
    exact ⟨_, results_none rfl _ _ _, ⟨_, rfl⟩, .inr ⟨_, hp.filter _, hJx.putObj _ hj (by omega) hK rfl⟩⟩
end Go.Proofs.YtphpcgmnljhimaaGreat
namespace Go.Proofs.YtphpcgmnljhimaaGreat
open Go.RowKit
def noDeferB (ops : Array Oper) : Bool := ops.all fun o => match o.op with
  | .defer _ => false
  | _ => true
end Go.Proofs.YtphpcgmnljhimaaGreat
namespace Go.Proofs.YtphpcgmnljhimaaGreat
open Go.RowKit
open Go.Sort (grow)
structure LivR (w0 w : World) (k : C6) (r Bm Ba Bs q b off cap : Nat) (w' : World) : Prop where
  bm : Boxed w' Bm 106 (.func (.func 147) #[] #[.pointer (some ⟨Bs, 0, none⟩)])
  ba : Boxed w' Ba 151 (.slice (some ⟨q, 0, none⟩) k.machines.length k.machines.length)
  bs : Boxed w' Bs 54 (.slice (some ⟨b, off, none⟩) (atP k.places r).length cap)
  sl : SlB w' w'.heap.size (some ⟨q, 0, none⟩) k.machines.length (k.machines.map M4.alive)
  gm : w.heap.size ≤ Bm
  ga : w.heap.size ≤ Ba
  gs : w.heap.size ≤ Bs
  gq : w.heap.size ≤ q
  bl : b < w0.heap.size
  ns : NumsAt w b off (atP k.places r)
  bw : Below w.heap.size w w'
def LivAns (w0 w : World) (k : C6) (r : Nat) (e : Ending) (w' : World) : Prop := ∃ (Bm Ba Bs q b off cap : Nat), e = .returned (.func (.func 145) #[] #[.pointer (some ⟨Bm, 0, none⟩), .pointer (some ⟨Ba, 0, none⟩)]) ∧ LivR w0 w k r Bm Ba Bs q b off cap w'
set_option maxRecDepth 100000 in
set_option maxHeartbeats 4000000 in
theorem livingIn_any (w0 w : World) (a1 : Option Addr) (c1 : Nat) (a2 : Option Addr) (c2 : Nat) (a3 : Option Addr) (c3 : Nat) (k : C6) (r : Nat) (hk : clusterB k = true) (hr : r < k.places.length) (h0 : KCl.Rd w0 a1 c1 a2 c2 a3 c3 k) (hw : Below w0.heap.size w0 w) :
    Calls Tryz.prog 55 #[.agg #[.int .i64 k.config, .int .i64 k.clock, .slice a1 k.places.length c1, .slice a2 k.machines.length c2, .slice a3 k.txs.length c3, .bool k.lost], .int .i64 (r : Int)] w (LivAns w0 w k r) := by
  have h := h0.later hw
  have hm8 : k.machines.length ≤ 8 := (CSm.of hk).m
  have hzl := ((CSm.of hk).ps _ (List.mem_of_getElem? (atP_of hr))).1
  obtain ⟨_, hsp⟩ := h0.p
  rcases hsp with hsp | ⟨pb, po, rfl, hpb, hpl⟩
  · omega
  obtain ⟨a', cap', hc, hsl, hcp⟩ := hpl r _ (atP_of hr)
  obtain ⟨_, hsn⟩ := hsl
  rcases hsn with hsn | ⟨b, off, rfl, hb, hns⟩
  · omega
  have hc := (hw.cell (p := ⟨pb, po + r, none⟩) hpb).trans hc
  have hns : NumsAt w b off (atP k.places r) := fun i z e => (hw.cell (p := ⟨b, off + i, none⟩) hb).trans (hns i z e)
  have hpb : pb < w.heap.size := Nat.lt_of_lt_of_le hpb hw.size
  obtain ⟨U, hU⟩ : ∃ Y, Y = w.alloc (.cells #[.int .i64 k.config, .int .i64 k.clock, .slice (some ⟨pb, po, none⟩) k.places.length c1, .slice a2 k.machines.length c2, .slice a3 k.txs.length c3, .bool k.lost] 33) := ⟨_, rfl⟩
  have bU : Below w.heap.size w U := by rw [hU]; exact (Below.refl _ _).alloc (Nat.le_refl _) _
  have FA : Hid (Bx U w.heap.size [.int .i64 k.config, .int .i64 k.clock, .slice (some ⟨pb, po, none⟩) k.places.length c1, .slice a2 k.machines.length c2, .slice a3 k.txs.length c3, .bool k.lost]) := by unfold Hid; rw [hU]; exact Bx.made w [.int .i64 k.config, .int .i64 k.clock, .slice (some ⟨pb, po, none⟩) k.places.length c1, .slice a2 k.machines.length c2, .slice a3 k.txs.length c3, .bool k.lost] _
  have HR : Hid (KMk.RdS U a2 k.machines) := h.m.later bU
  have BW := hidOf bU
  have hcU : U.cell? ⟨pb, po + r, none⟩ = some (.slice (some ⟨b, off, none⟩) (atP k.places r).length cap') := (bU.cell (p := ⟨pb, po + r, none⟩) hpb).trans hc
  have hpU : pb < U.heap.size := Nat.lt_of_lt_of_le hpb bU.size
  have HC := hidOf hcU
  have HPU := hidOf hpU
  have HN : Hid (NumsAt w b off (atP k.places r) ∧ b < w0.heap.size) := ⟨hns, hb⟩
  have jr : (r : Int) < (k.places.length : Int) := by omega
  clear hcU hpU hns hb hc hpl hpb h h0 hw hk bU hzl hcp
  generalize hzs : atP k.places r = zs at *
  go_enter Tryz.func55, Tryz.ntmps55
  go_wp2_with fail
  rw [← hU]
  clear hU
  have bd : Below U.heap.size U U.drew := (Below.refl _ _).drew
  have hS : (fun X : World => Below U.heap.size U X) U.drew := bd
  refine wp_region_z (fun _ => false) (fun X : World => Below U.heap.size U X) (by kernel_rfl) ?_
  generalize U.drew = Wd at *
  refine wpZ_take (i := 0) (v := ?_) rfl (by kernel_rfl) (fun _ _ _ h => h) (Or.inl ⟨by rfl, ?_⟩) hS ?_
  rotate_left
  · (intro X hSw; go_simp; first | done | with_reducible rfl | rfl | (rw [if_pos (by omega)]))
  simp only [Act.put]
  refine wpZ_take (i := 1) (v := ?_) rfl (by kernel_rfl) (fun _ _ _ h => h) (Or.inl ⟨by rfl, ?_⟩) hS ?_
  rotate_left
  · (intro X hSw; have q2 := (FA.out.later hSw).1 2 _ rfl; go_simp; first | done | with_reducible rfl | rfl | (rw [if_pos (by omega)]))
  simp only [Act.put]
  refine wpZ_take (i := 2) (v := ?_) rfl (by kernel_rfl) (fun _ _ _ h => h) (Or.inl ⟨by rfl, ?_⟩) hS ?_
  rotate_left
  · (intro X hSw; go_simp; first | done | with_reducible rfl | rfl | (rw [if_pos (by omega)]))
  simp only [Act.put]
  refine wpZ_take (i := 3) (v := ?_) rfl (by kernel_rfl) (fun _ _ _ h => h) (Or.inl ⟨by rfl, ?_⟩) hS ?_
  rotate_left
  · (intro X hSw; go_simp; first | done | with_reducible rfl | rfl | (rw [if_pos (by omega)]))
  simp only [Act.put]
  refine wpZ_take (i := 4) (v := ?_) rfl (by kernel_rfl) (fun _ _ _ h => h) (Or.inl ⟨by rfl, ?_⟩) hS ?_
  rotate_left
  · (intro X hSw; go_simp; first | done | with_reducible rfl | rfl | (rw [if_pos (by omega)]))
  simp only [Act.put]
  refine wpZ_take (i := 5) (v := ?_) rfl (by kernel_rfl) (fun _ _ _ h => h) (Or.inl ⟨by rfl, ?_⟩) hS ?_
  rotate_left
  · (intro X hSw; have q := (hSw.cell (p := ⟨pb, po + r, none⟩) HPU.out).trans HC.out; go_simp; first | done | with_reducible rfl | rfl | (rw [if_pos (by omega)]))
  simp only [Act.put]
  refine wpZ_take (i := 7) (v := ?_) rfl (by kernel_rfl) (fun _ _ _ h => h) (Or.inl ⟨by rfl, ?_⟩) hS ?_
  rotate_left
  · (intro X hSw; go_simp; first | done | with_reducible rfl | rfl | (rw [if_pos (by omega)]))
  simp only [Act.put]
  refine wpZ_take (i := 8) (v := ?_) rfl (by kernel_rfl) (fun _ _ _ h => h) (Or.inl ⟨by rfl, ?_⟩) hS ?_
  rotate_left
  · (intro X hSw; have q3 := (FA.out.later hSw).1 3 _ rfl; go_simp; first | done | with_reducible rfl | rfl | (rw [if_pos (by omega)]))
  simp only [Act.put]
  refine wpZ_ready (rs := [6]) (by kernel_rfl) (by simp) ?_
  refine AllZ.cons rfl (fun K hK => ?_) AllZ.nil
  go_simp
  refine (values_any Wd (some ⟨b, off, none⟩) zs.length cap').mono ?_
  rintro e X1 ⟨rfl, hX1⟩
  have b1 : Below Wd.heap.size Wd X1 := by rw [hX1]; exact (Below.refl _ _).alloc (Nat.le_refl _) _
  have x1 : Boxed X1 Wd.heap.size 54 (.slice (some ⟨b, off, none⟩) zs.length cap') := by rw [hX1]; exact Boxed.new Wd _ _
  clear hX1
  have bX := bstep bd b1
  refine hK.out _ _ (fun _ => bX) ?_
  clear hK K
  refine wpZ_ready (rs := [9]) (by kernel_rfl) (by simp) ?_
  refine AllZ.cons rfl (fun K hK => ?_) AllZ.nil
  go_simp
  refine (aliveOf_any X1 a2 c2 k.machines hm8 (HR.out.later bX)).mono ?_
  rintro e X2 ⟨rfl, hal, hsz, b2⟩
  have bY := bstep bX b2
  refine hK.out _ _ (fun _ => bY) ?_
  clear hK K
  refine wpZ_ready (rs := [10]) (by kernel_rfl) (by simp) ?_
  refine AllZ.cons rfl (fun K hK => ?_) AllZ.nil
  go_simp
  refine (living_any X2 _ _ _ _ _).mono ?_
  rintro e X3 ⟨rfl, hX3⟩
  have b3 : Below X2.heap.size X2 X3 := by rw [hX3]; exact ((Below.refl _ _).alloc (Nat.le_refl _) _).alloc (by simp) _
  have y1 : Boxed X3 X2.heap.size 106 (.func (.func 147) #[] #[.pointer (some ⟨Wd.heap.size, 0, none⟩)]) := by rw [hX3]; exact (Boxed.new X2 _ _).alloc _
  have y2 : Boxed X3 (X2.heap.size + 1) 151 (.slice (some ⟨X1.heap.size, 0, none⟩) k.machines.length k.machines.length) := by
    have := Boxed.new (X2.alloc (.cells #[.func (.func 147) #[] #[.pointer (some ⟨Wd.heap.size, 0, none⟩)]] 106)) 151 (.slice (some ⟨X1.heap.size, 0, none⟩) k.machines.length k.machines.length)
    rw [World.size_alloc] at this
    rw [hX3]; exact this
  clear hX3
  have bZ := bstep bY b3
  refine hK.out _ _ (fun _ => bZ) ?_
  clear hK K
  refine wpZ_ready (rs := [11]) (by kernel_rfl) (by simp) ?_
  refine AllZ.cons rfl (fun K hK => ?_) AllZ.nil
  go_simp
  refine hK.out _ _ (fun _ => bZ) ?_
  clear hK K
  refine wpZ_done (by kernel_rfl) ?_ _
  have hsU := BW.out.size
  have hsW := bd.size
  have hs1 := b1.size
  have hs2 := b2.size
  have HH : Hid (LivR w0 w k r X2.heap.size (X2.heap.size + 1) Wd.heap.size X1.heap.size b off cap' X3) :=
    ⟨y1, y2, by rw [hzs]; exact (b3.block _ (Nat.lt_of_lt_of_le x1.lt hs2)).trans ((b2.block _ x1.lt).trans x1), (hal.below b3).mono b3.size, by omega, by omega, by omega, by omega, HN.out.2, by rw [hzs]; exact HN.out.1, bstep BW.out bZ⟩
  clear y1 y2 x1 hal b1 b2 b3 bX bY bZ bd hS
  go_wp2
  go_ret
  exact ⟨_, _, _, _, _, _, _, rfl, HH.out⟩
end Go.Proofs.YtphpcgmnljhimaaGreat
namespace Go.Proofs.YtphpcgmnljhimaaGreat.tx
open Go.RowKit
def OAns (w : World) (t : T7) (e : Ending) (w' : World) : Prop := ∃ (a4 : Option Addr) (c4 : Nat) (h4 : Option Addr) (d4 : Nat) (PR PS : Nat → Prop), e = .returned ((TV.mk a4 c4 h4 d4).val t) ∧ OT w' w.heap.size ⟨a4, c4, h4, d4⟩ t PR PS ∧ Below w.heap.size w w'
theorem pushNoAny {W : World} {base : Nat} {v : Value} {xs : List N5} (h : RowN W base v xs) (ys : List N5) (hm : xs.length + ys.length ≤ 1048576) (ty : TypeId) (a : Option Addr) (k : Nat) (src : SlNo W W.heap.size a ys.length ys) (hbase : base ≤ W.heap.size) :
    ∃ a' c' W', (Builtin.append_ #[44, 44] ty #[v, .slice a ys.length k]).run Tryz.prog W = .ok (.slice a' (xs ++ ys).length c') W' ∧ RowN W' base (.slice a' (xs ++ ys).length c') (xs ++ ys) ∧ W.grownBy W' v.ownBlock ∧ ((Value.slice a' (xs ++ ys).length c').ownBlock = v.ownBlock ∨ (Value.slice a' (xs ++ ys).length c').ownBlock = some W.heap.size) := by
  by_cases e : ys = []
  · subst e
    obtain ⟨i0, hi0, hz0, hz1, hz2⟩ := partsOf infoNote
    obtain ⟨a0, c0, rfl, -⟩ := h.form
    have hle : xs.length ≤ c0 := by
      rcases h.2 with ⟨h0, h1⟩ | ⟨q', cap', cur, h0, _, _, hc, _⟩
      · rw [h1]; exact Nat.zero_le _
      · cases h0; exact hc
    simp only [List.append_nil]
    refine ⟨a0, c0, W, ?_, h, ⟨rfl, rfl, rfl, Nat.le_refl _, fun _ _ _ => rfl⟩, .inl rfl⟩
    refine run_append_nothing W 44 44 ty 91 i0 Tryz.underlying44 hi0 a0 xs.length c0 hle (.slice a 0 k) ?_
    cases a with
    | none => exact Src.ofNil W Tryz.underlying44 k
    | some x => exact Src.ofSlice W Tryz.underlying44 x 0 k [] (by simp) (fun j u hu => by simp at hu) (fun u hu => by cases hu)
  · have hpos : 0 < ys.length := List.length_pos_iff.2 e
    obtain ⟨_, src⟩ := src
    rcases src with src | ⟨b, off, rfl, hb, hx⟩
    · omega
    obtain ⟨v', W', h1, h2, h3, h4⟩ := pushNo h ys hm ty b off k hx hbase
    obtain ⟨a', c', rfl, -⟩ := h2.form
    exact ⟨a', c', W', h1, h2, h3, h4⟩
theorem copyNo {W : World} {base : Nat} {v : Value} (h : RowN W base v []) (ys : List N5) (hm : ys.length ≤ 1048576) (ty : TypeId) (a : Option Addr) (k : Nat) (src : SlNo W W.heap.size a ys.length ys) (hbase : base ≤ W.heap.size) :
    ∃ a' c' W', (Builtin.append_ #[44, 44] ty #[v, .slice a ys.length k]).run Tryz.prog W = .ok (.slice a' ys.length c') W' ∧ RowN W' base (.slice a' ys.length c') ys ∧ W.grownBy W' v.ownBlock :=
  let ⟨a', c', W', h1, h2, h3, _⟩ := pushNoAny h ys (by simpa using hm) ty a k src hbase
  ⟨a', c', W', h1, h2, h3⟩
theorem pushSeAny {W : World} {base : Nat} {v : Value} {xs : List S5} (h : RowS W base v xs) (ys : List S5) (hm : xs.length + ys.length ≤ 1048576) (ty : TypeId) (a : Option Addr) (k : Nat) (src : Sl W W.heap.size a ys.length ys) (hbase : base ≤ W.heap.size) :
    ∃ a' c' W', (Builtin.append_ #[45, 45] ty #[v, .slice a ys.length k]).run Tryz.prog W = .ok (.slice a' (xs ++ ys).length c') W' ∧ RowS W' base (.slice a' (xs ++ ys).length c') (xs ++ ys) ∧ W.grownBy W' v.ownBlock ∧ ((Value.slice a' (xs ++ ys).length c').ownBlock = v.ownBlock ∨ (Value.slice a' (xs ++ ys).length c').ownBlock = some W.heap.size) := by
  by_cases e : ys = []
  · subst e
    obtain ⟨i0, hi0, hz0, hz1, hz2⟩ := partsOf infoSet
    obtain ⟨a0, c0, rfl, -⟩ := h.form
    have hle : xs.length ≤ c0 := by
      rcases h.2 with ⟨h0, h1⟩ | ⟨q', cap', cur, h0, _, _, hc, _⟩
      · rw [h1]; exact Nat.zero_le _
      · cases h0; exact hc
    simp only [List.append_nil]
    refine ⟨a0, c0, W, ?_, h, ⟨rfl, rfl, rfl, Nat.le_refl _, fun _ _ _ => rfl⟩, .inl rfl⟩
    refine run_append_nothing W 45 45 ty 93 i0 Tryz.underlying45 hi0 a0 xs.length c0 hle (.slice a 0 k) ?_
    cases a with
    | none => exact Src.ofNil W Tryz.underlying45 k
    | some x => exact Src.ofSlice W Tryz.underlying45 x 0 k [] (by simp) (fun j u hu => by simp at hu) (fun u hu => by cases hu)
  · have hpos : 0 < ys.length := List.length_pos_iff.2 e
    obtain ⟨_, src⟩ := src
    rcases src with src | ⟨b, off, rfl, hb, hx⟩
    · omega
    obtain ⟨v', W', h1, h2, h3, h4⟩ := pushSe h ys hm ty b off k hx hbase
    obtain ⟨a', c', rfl, -⟩ := h2.form
    exact ⟨a', c', W', h1, h2, h3, h4⟩
theorem copySe {W : World} {base : Nat} {v : Value} (h : RowS W base v []) (ys : List S5) (hm : ys.length ≤ 1048576) (ty : TypeId) (a : Option Addr) (k : Nat) (src : Sl W W.heap.size a ys.length ys) (hbase : base ≤ W.heap.size) :
    ∃ a' c' W', (Builtin.append_ #[45, 45] ty #[v, .slice a ys.length k]).run Tryz.prog W = .ok (.slice a' ys.length c') W' ∧ RowS W' base (.slice a' ys.length c') ys ∧ W.grownBy W' v.ownBlock :=
  let ⟨a', c', W', h1, h2, h3, _⟩ := pushSeAny h ys (by simpa using hm) ty a k src hbase
  ⟨a', c', W', h1, h2, h3⟩
end Go.Proofs.YtphpcgmnljhimaaGreat.tx
namespace Go.Proofs.YtphpcgmnljhimaaGreat
open Go.RowKit
open Go.Sort (grow)
def FAns (w : World) (N : tx.T7) (o : Bool) (e : Ending) (w' : World) : Prop := ∃ (a : Option Addr) (b : Nat) (c : Option Addr) (d : Nat) (P : Nat → Prop), e = .returned (.tuple #[.agg #[.int .i64 N.id, .int .i64 N.home, .int .i64 N.phase, .int .i64 N.count, .slice a N.reads.length b, .slice c N.sets.length d, .int .i64 N.stamp], .bool o]) ∧ KT.Ow w' w.heap.size a b c d N P ∧ Below w.heap.size w w'
theorem FAns.zero {w w' : World} (h : Below w.heap.size w w') : FAns w zT false (.returned (.tuple #[.agg #[.int .i64 0, .int .i64 0, .int .i64 0, .int .i64 0, .slice none 0 0, .slice none 0 0, .int .i64 0], .bool false])) w' :=
  ⟨none, 0, none, 0, fun _ => False, rfl, ⟨fun _ => False, fun _ => False, ⟨.inl rfl, .inl rfl, fun _ h => h.elim, fun _ h => h.elim, fun _ h => h.elim⟩, fun q h => by rcases h with h | h <;> exact h.elim, fun _ h => h.elim⟩, h⟩
theorem FAns.put {w X Y : World} {N : tx.T7} {s : Nat} {a : Option Addr} {b : Nat} {c : Option Addr} {d : Nat} {PR PS : Nat → Prop} (cs : List Value) (h : tx.OT Y X.heap.size ⟨a, b, c, d⟩ N PR PS) (hs : s < X.heap.size) (hw : w.heap.size ≤ s) (hb : Below w.heap.size w Y) : FAns w N true (.returned (.tuple #[.agg #[.int .i64 N.id, .int .i64 N.home, .int .i64 N.phase, .int .i64 N.count, .slice a N.reads.length b, .slice c N.sets.length d, .int .i64 N.stamp], .bool true])) (putB Y s 0 cs) := by
  have hk : KT.Ow Y X.heap.size a b c d N (tx.OfT PR PS) := KT.ow h
  exact ⟨a, b, c, d, _, rfl, (hk.keep (w' := putB Y s 0 cs) (by rw [putB_size]; exact Nat.le_refl _) (fun q hq => putB_block (fun e => by have := (hk.of hq).1; omega) _ _ _)).low (by omega), putB_below hw _ _ _ hb⟩
end Go.Proofs.YtphpcgmnljhimaaGreat
namespace Go.Proofs.YtphpcgmnljhimaaGreat.tx
open Go.RowKit
set_option maxRecDepth 100000 in
set_option maxHeartbeats 8000000 in
theorem ownTx_any (w : World) (v : TV) (t : T7) (hr : t.reads.length ≤ 1048576) (hss : t.sets.length ≤ 1048576) (h : SlT w v t) :
    Calls Tryz.prog 53 #[v.val t] w (OAns w t) := by
  obtain ⟨ar, cr, ah, ch⟩ := v
  simp only [TV.val]
  obtain ⟨W1, hW1⟩ : ∃ W1, W1 = w.alloc (.cells #[.int .i64 t.id, .int .i64 t.home, .int .i64 t.phase, .int .i64 t.count, .slice ar t.reads.length cr, .slice ah t.sets.length ch, .int .i64 t.stamp] 47) := ⟨_, rfl⟩
  have z1 : W1.heap.size = w.heap.size + 1 := by rw [hW1]; simp
  have x1 : BT W1 w.heap.size ⟨ar, cr, ah, ch⟩ t := by rw [hW1]; exact BT.box w ⟨ar, cr, ah, ch⟩ t _
  have b1 : Below w.heap.size w W1 := by rw [hW1]; exact (Below.refl _ _).alloc (Nat.le_refl _) _
  obtain ⟨W, hW⟩ : ∃ W2, W2 = W1.alloc (.cells #[.int .i64 0, .int .i64 0, .int .i64 0, .int .i64 0, .slice none 0 0, .slice none 0 0, .int .i64 0] 47) := ⟨_, rfl⟩
  have b2 : Below W1.heap.size W1 W := by rw [hW]; exact (Below.refl _ _).alloc (Nat.le_refl _) _
  have yR : BT W (w.heap.size + 1) ⟨none, 0, none, 0⟩ ⟨0, 0, 0, 0, [], [], 0⟩ := by rw [hW, ← z1]; exact BT.zero W1 _
  have sW : W.heap.size = w.heap.size + 2 := by rw [hW]; simp [z1]
  have yA : BT W w.heap.size ⟨ar, cr, ah, ch⟩ t := x1.later b2
  have bW : Below w.heap.size w W := b1.trans (b2.mono b1.size)
  have bV1 : Below W.heap.size W W := Below.refl _ _
  obtain ⟨a1, c1, Y1, run1, row1, gr1⟩ := copyNo (RowN.nil W W.heap.size) t.reads hr 44 ar cr ((h.later (bW.trans (bV1.mono bW.size))).r) bV1.size
  have bY1 : Below W.heap.size W Y1 := bV1.grown gr1 bV1.size (fun q e => by cases e)
  have yA1 : BT Y1 w.heap.size ⟨ar, cr, ah, ch⟩ t := yA.later bY1
  have yR1 := yR.later bY1
  have yA2 : BT (Y1.setCell ⟨w.heap.size, 4, none⟩ (.slice a1 t.reads.length c1)) w.heap.size ⟨a1, c1, ah, ch⟩ t := yA1.set4 a1 c1 t.reads
  have yR2 := yR1.far (p := ⟨w.heap.size, 4, none⟩) (by dsimp only; omega) (.slice a1 t.reads.length c1)
  have bX1 : Below w.heap.size w (Y1.setCell ⟨w.heap.size, 4, none⟩ (.slice a1 t.reads.length c1)) := (bW.trans (bY1.mono bW.size)).setCell (p := ⟨w.heap.size, 4, none⟩) (Nat.le_refl _) _
  have row1' : RowN (Y1.setCell ⟨w.heap.size, 4, none⟩ (.slice a1 t.reads.length c1)) W.heap.size (.slice a1 t.reads.length c1) t.reads := row1.keep (fun q hq _ _ => Below.heap_setCell _ _ _ _ (by show q ≠ w.heap.size; omega))
  have zX1 : (Y1.setCell ⟨w.heap.size, 4, none⟩ (.slice a1 t.reads.length c1)).heap.size = Y1.heap.size := by simp [World.setCell]
  have bV2 : Below (Y1.setCell ⟨w.heap.size, 4, none⟩ (.slice a1 t.reads.length c1)).heap.size (Y1.setCell ⟨w.heap.size, 4, none⟩ (.slice a1 t.reads.length c1)) (Y1.setCell ⟨w.heap.size, 4, none⟩ (.slice a1 t.reads.length c1)) := Below.refl _ _
  obtain ⟨a2, c2, Y2, run2, row2, gr2⟩ := copySe (RowS.nil (Y1.setCell ⟨w.heap.size, 4, none⟩ (.slice a1 t.reads.length c1)) (Y1.setCell ⟨w.heap.size, 4, none⟩ (.slice a1 t.reads.length c1)).heap.size) t.sets hss 45 ah ch ((h.later (bX1.trans (bV2.mono bX1.size))).s) bV2.size
  have bY2 : Below (Y1.setCell ⟨w.heap.size, 4, none⟩ (.slice a1 t.reads.length c1)).heap.size (Y1.setCell ⟨w.heap.size, 4, none⟩ (.slice a1 t.reads.length c1)) Y2 := bV2.grown gr2 bV2.size (fun q e => by cases e)
  have yA3 : BT Y2 w.heap.size ⟨a1, c1, ah, ch⟩ t := yA2.later bY2
  have yR3 := yR2.later bY2
  have yA4 : BT (Y2.setCell ⟨w.heap.size, 5, none⟩ (.slice a2 t.sets.length c2)) w.heap.size ⟨a1, c1, a2, c2⟩ t := yA3.set5 a2 c2 t.sets
  have yR4 := yR3.far (p := ⟨w.heap.size, 5, none⟩) (by dsimp only; omega) (.slice a2 t.sets.length c2)
  have bX2 : Below w.heap.size w (Y2.setCell ⟨w.heap.size, 5, none⟩ (.slice a2 t.sets.length c2)) := (bX1.trans (bY2.mono bX1.size)).setCell (p := ⟨w.heap.size, 5, none⟩) (Nat.le_refl _) _
  have row1'' : RowN (Y2.setCell ⟨w.heap.size, 5, none⟩ (.slice a2 t.sets.length c2)) W.heap.size (.slice a1 t.reads.length c1) t.reads := (row1'.later bY2).keep (fun q hq _ _ => Below.heap_setCell _ _ _ _ (by show q ≠ w.heap.size; omega))
  have hs1 : W.heap.size ≤ (Y1.setCell ⟨w.heap.size, 4, none⟩ (.slice a1 t.reads.length c1)).heap.size := by rw [zX1]; exact bY1.size
  have row2' : RowS (Y2.setCell ⟨w.heap.size, 5, none⟩ (.slice a2 t.sets.length c2)) (Y1.setCell ⟨w.heap.size, 4, none⟩ (.slice a1 t.reads.length c1)).heap.size (.slice a2 t.sets.length c2) t.sets := row2.keep (fun q hq _ _ => Below.heap_setCell _ _ _ _ (by show q ≠ w.heap.size; omega))
  have yR5 := yR4.put ⟨a1, c1, a2, c2⟩ t
  have p4 := yA.c4
  have k4 := yA1.c4
  have k4f := yA1.fz 4
  have p5 := (yA2.later bV2).c5
  have k5 := yA3.c5
  have k5f := yA3.fz 5
  dsimp only at p4 k4 p5 k5
  obtain ⟨o0, o1, o2, o3, o4, o5, o6, -, -⟩ := yA4
  have KR := yR4
  have hlt1 : ∀ q, (Value.slice a1 t.reads.length c1).ownBlock = some q → W.heap.size ≤ q ∧ q < (Y1.setCell ⟨w.heap.size, 4, none⟩ (.slice a1 t.reads.length c1)).heap.size := fun q e => row1'.lt e
  have KO : OT (Y2.setCell ⟨w.heap.size, 5, none⟩ (.slice a2 t.sets.length c2)) w.heap.size ⟨a1, c1, a2, c2⟩ t (fun q => (Value.slice a1 t.reads.length c1).ownBlock = some q) (fun q => (Value.slice a2 t.sets.length c2).ownBlock = some q) := by
    obtain ⟨_, _, e1, o1⟩ := row1''.form
    obtain ⟨_, _, e2, o2⟩ := row2'.form
    cases e1; cases e2
    exact ⟨o1, o2, fun q h1 h2 => by have := (hlt1 q h1).2; have := (row2'.lt h2).1; omega, fun q h1 => ⟨by have := (row1''.lt h1).1; omega, (row1''.lt h1).2⟩, fun q h1 => ⟨by have := (row2'.lt h1).1; omega, (row2'.lt h1).2⟩⟩
  have KH : Hid (OT (Y2.setCell ⟨w.heap.size, 5, none⟩ (.slice a2 t.sets.length c2)) w.heap.size ⟨a1, c1, a2, c2⟩ t (fun q => (Value.slice a1 t.reads.length c1).ownBlock = some q) (fun q => (Value.slice a2 t.sets.length c2).ownBlock = some q) ∧ Below w.heap.size w (Y2.setCell ⟨w.heap.size, 5, none⟩ (.slice a2 t.sets.length c2)) ∧ (∀ q, OfT (fun q => (Value.slice a1 t.reads.length c1).ownBlock = some q) (fun q => (Value.slice a2 t.sets.length c2).ownBlock = some q) q → w.heap.size + 2 ≤ q)) := ⟨KO, bX2, fun q hq => by
    rcases hq with hq | hq
    · have := (row1''.lt hq).1; omega
    · have := (row2'.lt hq).1; omega⟩
  simp only [putT] at yR5
  obtain ⟨u0, u1, u2, u3, u4, u5, u6, -, -⟩ := yR5
  have KX : Hid (((Y2.setCell ⟨w.heap.size, 5, none⟩ (.slice a2 t.sets.length c2)).cell? ⟨w.heap.size, 0, none⟩ = some (.int .i64 t.id) ∧ (Y2.setCell ⟨w.heap.size, 5, none⟩ (.slice a2 t.sets.length c2)).cell? ⟨w.heap.size, 1, none⟩ = some (.int .i64 t.home) ∧ (Y2.setCell ⟨w.heap.size, 5, none⟩ (.slice a2 t.sets.length c2)).cell? ⟨w.heap.size, 2, none⟩ = some (.int .i64 t.phase) ∧ (Y2.setCell ⟨w.heap.size, 5, none⟩ (.slice a2 t.sets.length c2)).cell? ⟨w.heap.size, 3, none⟩ = some (.int .i64 t.count) ∧ (Y2.setCell ⟨w.heap.size, 5, none⟩ (.slice a2 t.sets.length c2)).cell? ⟨w.heap.size, 4, none⟩ = some (.slice a1 t.reads.length c1) ∧ (Y2.setCell ⟨w.heap.size, 5, none⟩ (.slice a2 t.sets.length c2)).cell? ⟨w.heap.size, 5, none⟩ = some (.slice a2 t.sets.length c2) ∧ (Y2.setCell ⟨w.heap.size, 5, none⟩ (.slice a2 t.sets.length c2)).cell? ⟨w.heap.size, 6, none⟩ = some (.int .i64 t.stamp)) ∧ BT (Y2.setCell ⟨w.heap.size, 5, none⟩ (.slice a2 t.sets.length c2)) (w.heap.size + 1) ⟨none, 0, none, 0⟩ ⟨0, 0, 0, 0, [], [], 0⟩) := ⟨⟨o0, o1, o2, o3, o4, o5, o6⟩, KR⟩
  have KU := hidOf (And.intro u0 (And.intro u1 (And.intro u2 (And.intro u3 (And.intro u4 (And.intro u5 u6))))))
  have K1 := hidOf (And.intro k4 (And.intro k4f p5))
  have K2 := hidOf (And.intro k5 k5f)
  have R1 := hidOf run1
  have R2 := hidOf run2
  rw [hW1] at hW
  have sW2 : W.heap.size = w.heap.size + 1 + 1 := by omega
  clear sW
  clear hW1 x1 b1 b2 z1 yA yR bW bV1 bY1 row1 gr1 yA1 yR1 yA2 yR2 bX1 row1' bV2 row2 gr2 bY2 yA3 yR3 bX2 row1'' row2' hs1 hlt1 h KO KR o0 o1 o2 o3 o4 o5 o6 u0 u1 u2 u3 u4 u5 u6 k4 k4f p5 k5 k5f run1 run2
  go_enter Tryz.func53, Tryz.ntmps53
  have r1 := R1.out
  have r2 := R2.out
  skip
  skip
  rw [hW] at r1
  obtain ⟨k4, k4f, p5⟩ := K1.out
  obtain ⟨k5, k5f⟩ := K2.out
  obtain ⟨⟨o0, o1, o2, o3, o4, o5, o6⟩, ⟨r0, r1', r2', r3, r4, r5, r6, fr, -⟩⟩ := KX.out
  have f0 := fr 0
  have f1 := fr 1
  have f2 := fr 2
  have f3 := fr 3
  have f4 := fr 4
  have f5 := fr 5
  have f6 := fr 6
  clear fr K1 K2 KX R1 R2 hW p4 zX1 sW2
  go_wp2_with (first | (at_builtin; refine append_known _ rfl (.const (.slice none 0 0)) (.tmp 4) 44 rfl _ _ _ _ rfl rfl r1 ?_) | (at_builtin; refine append_known _ rfl (.const (.slice none 0 0)) (.tmp 8) 45 rfl _ _ _ _ rfl rfl r2 ?_))
  obtain ⟨u0, u1, u2, u3, u4, u5, u6⟩ := KU.out
  refine bodyPost_ret (v := .agg #[.int .i64 t.id, .int .i64 t.home, .int .i64 t.phase, .int .i64 t.count, .slice a1 t.reads.length c1, .slice a2 t.sets.length c2, .int .i64 t.stamp]) (by simp [results, Tryz.results53, go_sem, u0, u1, u2, u3, u4, u5, u6]) rfl ?_
  obtain ⟨ot, bX, q2⟩ := KH.out
  refine ⟨a1, c1, a2, c2, fun q => (Value.slice a1 t.reads.length c1).ownBlock = some q, fun q => (Value.slice a2 t.sets.length c2).ownBlock = some q, rfl, ?_, ?_⟩
  · exact ot.keep (by simp [World.setCell]) (fun q _ hq => putT_block (s := w.heap.size + 1) (v := ⟨a1, c1, a2, c2⟩) (t := t) (by have := q2 q hq; omega))
  · exact putT_below (s := w.heap.size + 1) (v := ⟨a1, c1, a2, c2⟩) (t := t) bX (by omega)
end Go.Proofs.YtphpcgmnljhimaaGreat.tx
namespace Go.Proofs.YtphpcgmnljhimaaGreat
open Go.RowKit
open Go.Sort (grow)
set_option maxRecDepth 100000 in
set_option maxHeartbeats 4000000 in
theorem implFind_any (w : World) (a1 : Option Addr) (c1 : Nat) (a2 : Option Addr) (c2 : Nat) (a3 : Option Addr) (c3 : Nat) (k : C6) (y : Int) (hl : KCl.L k) (h : KCl.Rd w a1 c1 a2 c2 a3 c3 k) : Calls Tryz.prog 21 #[.agg #[.int .i64 k.config, .int .i64 k.clock, .slice a1 k.places.length c1, .slice a2 k.machines.length c2, .slice a3 k.txs.length c3, .bool k.lost], .int .i64 y] w (FAns w (findT k y) (findB k y)) := by
  obtain ⟨U, hU⟩ : ∃ Y, Y = (w.alloc (.cells #[.int .i64 k.config, .int .i64 k.clock, .slice a1 k.places.length c1, .slice a2 k.machines.length c2, .slice a3 k.txs.length c3, .bool k.lost] 33)).alloc (.cells #[.int .i64 0, .int .i64 0, .int .i64 0, .int .i64 0, .slice none 0 0, .slice none 0 0, .int .i64 0] 47) := ⟨_, rfl⟩
  have b0 : Below w.heap.size w (w.alloc (.cells #[.int .i64 k.config, .int .i64 k.clock, .slice a1 k.places.length c1, .slice a2 k.machines.length c2, .slice a3 k.txs.length c3, .bool k.lost] 33)) := (Below.refl _ _).alloc (Nat.le_refl _) _
  have b1 : Below (w.alloc (.cells #[.int .i64 k.config, .int .i64 k.clock, .slice a1 k.places.length c1, .slice a2 k.machines.length c2, .slice a3 k.txs.length c3, .bool k.lost] 33)).heap.size (w.alloc (.cells #[.int .i64 k.config, .int .i64 k.clock, .slice a1 k.places.length c1, .slice a2 k.machines.length c2, .slice a3 k.txs.length c3, .bool k.lost] 33)) U := by rw [hU]; exact (Below.refl _ _).alloc (Nat.le_refl _) _
  have FA : Hid (Bx U w.heap.size [.int .i64 k.config, .int .i64 k.clock, .slice a1 k.places.length c1, .slice a2 k.machines.length c2, .slice a3 k.txs.length c3, .bool k.lost]) := (Bx.made w [.int .i64 k.config, .int .i64 k.clock, .slice a1 k.places.length c1, .slice a2 k.machines.length c2, .slice a3 k.txs.length c3, .bool k.lost] 33).later b1
  have FZ : Hid (Bx U (w.heap.size + 1) [.int .i64 0, .int .i64 0, .int .i64 0, .int .i64 0, .slice none 0 0, .slice none 0 0, .int .i64 0]) := by
    have hx := Bx.made (w.alloc (.cells #[.int .i64 k.config, .int .i64 k.clock, .slice a1 k.places.length c1, .slice a2 k.machines.length c2, .slice a3 k.txs.length c3, .bool k.lost] 33)) [.int .i64 0, .int .i64 0, .int .i64 0, .int .i64 0, .slice none 0 0, .slice none 0 0, .int .i64 0] 47
    rw [show (w.alloc (.cells #[.int .i64 k.config, .int .i64 k.clock, .slice a1 k.places.length c1, .slice a2 k.machines.length c2, .slice a3 k.txs.length c3, .bool k.lost] 33)).heap.size = w.heap.size + 1 by simp] at hx
    unfold Hid; rw [hU]; exact hx
  have bU : Below w.heap.size w U := bstep b0 b1
  have HR : Hid (KCl.Rd U a1 c1 a2 c2 a3 c3 k ∧ KCl.L k ∧ Below w.heap.size w U) := ⟨h.later bU, hl, bU⟩
  clear b0 b1 bU h hl
  have hc := implClusterOk_any U a1 c1 a2 c2 a3 c3 k HR.out.2.1 HR.out.1
  go_enter Tryz.func21, Tryz.ntmps21
  go_wp2_with fail
  rw [← hU]
  clear hU
  refine hc.mono ?_
  clear hc
  rintro e w1 ⟨rfl, b1⟩
  have B1 := hidOf b1
  clear b1
  cases hB : clusterB k with
  | false =>
    have HN : Hid (findT k y = zT ∧ findB k y = false) := ⟨by simp [findT, findO, hB], by simp [findB, findO, hB]⟩
    have ZB : Hid (Bx w1 (w.heap.size + 1) [.int .i64 0, .int .i64 0, .int .i64 0, .int .i64 0, .slice none 0 0, .slice none 0 0, .int .i64 0]) := FZ.out.later B1.out
    have z0 := ZB.out.1 0 _ rfl
    have f0 := ZB.out.2.1 0
    have z1 := ZB.out.1 1 _ rfl
    have f1 := ZB.out.2.1 1
    have z2 := ZB.out.1 2 _ rfl
    have f2 := ZB.out.2.1 2
    have z3 := ZB.out.1 3 _ rfl
    have f3 := ZB.out.2.1 3
    have z4 := ZB.out.1 4 _ rfl
    have f4 := ZB.out.2.1 4
    have z5 := ZB.out.1 5 _ rfl
    have f5 := ZB.out.2.1 5
    have z6 := ZB.out.1 6 _ rfl
    have f6 := ZB.out.2.1 6
    have KW : Hid (Below w.heap.size w w1) := bstep HR.out.2.2 B1.out
    go_wp2
    refine bodyPost_ret (v := .tuple #[.agg #[.int .i64 0, .int .i64 0, .int .i64 0, .int .i64 0, .slice none 0 0, .slice none 0 0, .int .i64 0], .bool false]) (by simp [results, Tryz.results21, go_sem, z0, z1, z2, z3, z4, z5, z6]) rfl ?_
    rw [HN.out.1, HN.out.2]
    exact FAns.zero (putB_below (by omega) [.int .i64 0, .int .i64 0, .int .i64 0, .int .i64 0, .slice none 0 0, .slice none 0 0, .int .i64 0] _ 0 KW.out)
  | true =>
    have HU := hidOf (clu_up hB)
    have h60 := HU.out.2.2
    have p4 := (FA.out.later B1.out).1 4 _ rfl
    have hc := findTx_any w1 a3 c3 k.txs y (by omega) HU.out.1 (HR.out.1.t.later B1.out)
    go_wp2_with fail
    refine hc.mono ?_
    clear hc p4
    rintro e w2 ⟨j, rfl, hp, b2⟩
    have B2 : Hid (Below U.heap.size U w2) := bstep B1.out b2
    clear b2
    cases hF : foundT k.txs y j with
    | false =>
      have hf := find_neg HU.out.1 hp hF
      have HN : Hid (findT k y = zT ∧ findB k y = false) := ⟨by simp [findT, findO, hB, hf], by simp [findB, findO, hB, hf]⟩
      clear hf hp
      have ZB : Hid (Bx w2 (w.heap.size + 1) [.int .i64 0, .int .i64 0, .int .i64 0, .int .i64 0, .slice none 0 0, .slice none 0 0, .int .i64 0]) := FZ.out.later B2.out
      have z0 := ZB.out.1 0 _ rfl
      have f0 := ZB.out.2.1 0
      have z1 := ZB.out.1 1 _ rfl
      have f1 := ZB.out.2.1 1
      have z2 := ZB.out.1 2 _ rfl
      have f2 := ZB.out.2.1 2
      have z3 := ZB.out.1 3 _ rfl
      have f3 := ZB.out.2.1 3
      have z4 := ZB.out.1 4 _ rfl
      have f4 := ZB.out.2.1 4
      have z5 := ZB.out.1 5 _ rfl
      have f5 := ZB.out.2.1 5
      have z6 := ZB.out.1 6 _ rfl
      have f6 := ZB.out.2.1 6
      have KW : Hid (Below w.heap.size w w2) := bstep HR.out.2.2 B2.out
      go_wp2
      refine bodyPost_ret (v := .tuple #[.agg #[.int .i64 0, .int .i64 0, .int .i64 0, .int .i64 0, .slice none 0 0, .slice none 0 0, .int .i64 0], .bool false]) (by simp [results, Tryz.results21, go_sem, z0, z1, z2, z3, z4, z5, z6]) rfl ?_
      rw [HN.out.1, HN.out.2]
      exact FAns.zero (putB_below (by omega) [.int .i64 0, .int .i64 0, .int .i64 0, .int .i64 0, .slice none 0 0, .slice none 0 0, .int .i64 0] _ 0 KW.out)
    | true =>
      obtain ⟨hlt, hf⟩ := find_pos hp hF
      have HN : Hid (findT k y = atT k.txs j ∧ findB k y = true) := ⟨by simp [findT, findO, hB, hf], by simp [findB, findO, hB, hf]⟩
      clear hf hp
      rcases HR.out.1.t with hs | ⟨b, off, rfl, hb, h1⟩
      · rw [hs] at hlt; simp at hlt
      obtain ⟨⟨t0, t1, t2, t3⟩, hat, hrd⟩ := h1 j _ (atT_of hlt)
      have e0 : w2.cell? ⟨b, off + j * 7, none⟩ = some (.int .i64 (atT k.txs j).id) := (B2.out.cell (p := ⟨b, off + j * 7, none⟩) hb).trans (hat 0 _ rfl)
      have e1 : w2.cell? ⟨b, off + j * 7 + 1, none⟩ = some (.int .i64 (atT k.txs j).home) := (B2.out.cell (p := ⟨b, off + j * 7 + 1, none⟩) hb).trans (hat 1 _ rfl)
      have e2 : w2.cell? ⟨b, off + j * 7 + 2, none⟩ = some (.int .i64 (atT k.txs j).phase) := (B2.out.cell (p := ⟨b, off + j * 7 + 2, none⟩) hb).trans (hat 2 _ rfl)
      have e3 : w2.cell? ⟨b, off + j * 7 + 3, none⟩ = some (.int .i64 (atT k.txs j).count) := (B2.out.cell (p := ⟨b, off + j * 7 + 3, none⟩) hb).trans (hat 3 _ rfl)
      have e4 : w2.cell? ⟨b, off + j * 7 + 4, none⟩ = some (.slice t0 (atT k.txs j).reads.length t1) := (B2.out.cell (p := ⟨b, off + j * 7 + 4, none⟩) hb).trans (hat 4 _ rfl)
      have e5 : w2.cell? ⟨b, off + j * 7 + 5, none⟩ = some (.slice t2 (atT k.txs j).sets.length t3) := (B2.out.cell (p := ⟨b, off + j * 7 + 5, none⟩) hb).trans (hat 5 _ rfl)
      have e6 : w2.cell? ⟨b, off + j * 7 + 6, none⟩ = some (.int .i64 (atT k.txs j).stamp) := (B2.out.cell (p := ⟨b, off + j * 7 + 6, none⟩) hb).trans (hat 6 _ rfl)
      have p4 := (FA.out.later B2.out).1 4 _ rfl
      have hsh := tx_short (HU.out.2.1 j hlt)
      have hc := tx.ownTx_any w2 ⟨t0, t1, t2, t3⟩ (atT k.txs j) hsh.1 hsh.2 (hrd.later B2.out)
      simp only [tx.TV.val] at hc
      have jn : (j : Int) < (k.txs.length : Int) := by omega
      clear h1 hat hrd hsh
      go_wp2_with fail
      refine hc.mono ?_
      clear hc e0 e1 e2 e3 e4 e5 e6 p4
      rintro e w4 ⟨ra, rb, rc, rd, PR, PS, rfl, ot, b4⟩
      simp only [tx.TV.val]
      have KO : Hid (tx.OT w4 w2.heap.size ⟨ra, rb, rc, rd⟩ (atT k.txs j) PR PS ∧ Below U.heap.size U w4 ∧ w.heap.size + 1 < w2.heap.size) := ⟨ot, bstep B2.out b4, by have h1 := FZ.out.2.2; have h2 := B2.out.size; omega⟩
      clear ot b4
      have ZB : Hid (Bx w4 (w.heap.size + 1) [.int .i64 0, .int .i64 0, .int .i64 0, .int .i64 0, .slice none 0 0, .slice none 0 0, .int .i64 0]) := FZ.out.later KO.out.2.1
      have z0 := ZB.out.1 0 _ rfl
      have f0 := ZB.out.2.1 0
      have z1 := ZB.out.1 1 _ rfl
      have f1 := ZB.out.2.1 1
      have z2 := ZB.out.1 2 _ rfl
      have f2 := ZB.out.2.1 2
      have z3 := ZB.out.1 3 _ rfl
      have f3 := ZB.out.2.1 3
      have z4 := ZB.out.1 4 _ rfl
      have f4 := ZB.out.2.1 4
      have z5 := ZB.out.1 5 _ rfl
      have f5 := ZB.out.2.1 5
      have z6 := ZB.out.1 6 _ rfl
      have f6 := ZB.out.2.1 6
      go_wp2
      refine bodyPost_ret (v := .tuple #[.agg #[.int .i64 (atT k.txs j).id, .int .i64 (atT k.txs j).home, .int .i64 (atT k.txs j).phase, .int .i64 (atT k.txs j).count, .slice ra (atT k.txs j).reads.length rb, .slice rc (atT k.txs j).sets.length rd, .int .i64 (atT k.txs j).stamp], .bool true]) (by simp [results, Tryz.results21, go_sem, z0, z1, z2, z3, z4, z5, z6]) rfl ?_
      rw [HN.out.1, HN.out.2]
      exact FAns.put [.int .i64 (atT k.txs j).id, .int .i64 (atT k.txs j).home, .int .i64 (atT k.txs j).phase, .int .i64 (atT k.txs j).count, .slice ra (atT k.txs j).reads.length rb, .slice rc (atT k.txs j).sets.length rd, .int .i64 (atT k.txs j).stamp] KO.out.1 KO.out.2.2 (by omega) (bstep HR.out.2.2 KO.out.2.1)
end Go.Proofs.YtphpcgmnljhimaaGreat
namespace Go.Proofs.YtphpcgmnljhimaaGreat.tx
open Go.RowKit
end Go.Proofs.YtphpcgmnljhimaaGreat.tx
namespace Go.Proofs.YtphpcgmnljhimaaGreat
open Go.RowKit
def valsM {M : Int} (ms : List { x : Int // 0 ≤ x ∧ x ≤ M }) : List Int := ms.map (·.1)
theorem macs_of {M : Int} (zs : List Int) (h : ∀ z ∈ zs, 0 ≤ z ∧ z ≤ M) : ∃ ms : List { x : Int // 0 ≤ x ∧ x ≤ M }, valsM ms = zs :=
  ⟨zs.attach.map fun z => ⟨z.1, h z.1 z.2⟩, by simp [valsM]⟩
theorem valsM_len {M : Int} (ms : List { x : Int // 0 ≤ x ∧ x ≤ M }) : (valsM ms).length = ms.length := by simp [valsM]
theorem keep_vals {M : Int} (al : List Bool) (ms : List { x : Int // 0 ≤ x ∧ x ≤ M }) : valsM (livM al ms) = keepL al (valsM ms) := by
  rw [valsM, livM, keepL, valsM, List.filter_map]; rfl
theorem below_put {n₀ l : Nat} {W : World} (o' : Obj) (hl : n₀ ≤ l) (h : l < W.heap.size) : Below n₀ W (W.putObj l o') := (Below.refl n₀ W).grown (grownBy_putObj' W l o') (by omega) (fun k e => by cases e; exact hl)
end Go.Proofs.YtphpcgmnljhimaaGreat
namespace Go.Proofs.YtphpcgmnljhimaaGreat
open Go.RowKit
open Go.Sort (grow)
attribute [local go_sem] Oper.semAt_some
def votF (k : C6) (y g p : Int) (zs : List Int) : Int := zs.foldl (fun v z => max v (knV k y g p z)) 1
theorem livesB_alB {k : C6} {z : Int} (h0 : 0 ≤ z) (h1 : z < (k.machines.length : Int)) : livesB (k.machines.map M4.alive) z = alB k z := by
  obtain ⟨i, rfl⟩ := Int.eq_ofNat_of_zero_le h0
  have hi : i < k.machines.length := by omega
  simp [livesB, alB, atB, atM, hi]
theorem find_idx {α : Type} (p : α → Bool) : ∀ l : List α, l.find? p = l[l.findIdx p]?
  | [] => rfl
  | x :: l => by
    rw [List.find?_cons, List.findIdx_cons]
    cases p x
    · simpa using find_idx p l
    · rfl
theorem findO_at {k : C6} (y : Int) (hk : clusterB k = true) : findO k y = k.txs[atId k.txs y]? := by
  rw [findO, if_pos hk, find_idx]; rfl
structure VI (Bk : Nat) (ty : TypeId) (v : Value) (w X W : World) : Prop where
  vb : Boxed W Bk ty v
  kp : KpC Bk X W
  bel : Below w.heap.size w W
theorem VI.own {β : Type} {Bk : Nat} {ty : TypeId} {f : β → Value} {w X : World} {B : Nat} (hB : w.heap.size ≤ B) : OwnFrom B (fun s W => VI Bk ty (f s) w X W) := fun s A C row hs hg hr => by
  have obj : ∀ {k : Nat} {o : Obj}, A.heap[k]? = some o → o.isCells = true → C.heap[k]? = some o := fun {k o} h hc => (hg.block k (Array.getElem?_eq_some_iff.1 h).1 (fun e => by
    obtain ⟨_, o', ho, hc'⟩ := hr k e.symm
    rw [h] at ho; cases ho; rw [hc] at hc'; cases hc')).trans h
  exact ⟨obj hs.vb rfl, ⟨Nat.le_trans hs.kp.size hg.size, fun k o hk hc hb => obj (hs.kp.cells k o hk hc hb) hc⟩, hs.bel.grown hg hs.bel.size (fun k e => by have := (hr k e).1; omega)⟩
theorem Bx.kpc {Bk s : Nat} {cs : List Value} {W W' : World} (h : Bx W s cs) (hk : KpC Bk W W') (hne : s ≠ Bk) (hc : cs ≠ []) : Bx W' s cs := by
  obtain ⟨v, hv⟩ : ∃ v, cs[0]? = some v := by cases cs with | nil => exact absurd rfl hc | cons x _ => exact ⟨x, rfl⟩
  obtain ⟨o, ho, hco⟩ := cells_of_cell (h.1 0 v hv)
  exact h.of_block ((hk.cells s o ho hco hne).trans ho.symm) hk.size
end Go.Proofs.YtphpcgmnljhimaaGreat
namespace Go.Proofs.YtphpcgmnljhimaaGreat.tx
open Go.RowKit
theorem below_dn {B : Nat} {a w : World} (h : Below B a w) (n : Nat) : Below B a (w.drewN n) := ⟨h.os, h.tape, h.output, h.size, h.block⟩
def NumsAt (w : World) (b off : Nat) (zs : List Int) : Prop := ∀ i z, zs[i]? = some z → w.cell? ⟨b, off + i, none⟩ = some (.int .i64 z)
theorem NumsAt.below {w w' : World} {B b off : Nat} {zs : List Int} (h : NumsAt w b off zs) (hb : Below B w w') (hB : b < B) : NumsAt w' b off zs := fun i z e => by rw [hb.cell (p := ⟨b, off + i, none⟩) hB]; exact h i z e
def SlN (w : World) (B : Nat) (a : Option Addr) (n : Nat) (zs : List Int) : Prop := zs.length = n ∧ (n = 0 ∨ ∃ b off, a = some ⟨b, off, none⟩ ∧ b < B ∧ NumsAt w b off zs)
theorem SlN.later {w w' : World} {a : Option Addr} {n : Nat} {zs : List Int} (h : SlN w w.heap.size a n zs) (hb : Below w.heap.size w w') : SlN w' w'.heap.size a n zs := by
  obtain ⟨h1, h2⟩ := h
  refine ⟨h1, ?_⟩
  rcases h2 with h2 | ⟨b, off, ha, hB, hx⟩
  · exact .inl h2
  · exact .inr ⟨b, off, ha, Nat.lt_of_lt_of_le hB hb.size, hx.below hb hB⟩
def atN (zs : List Int) (i : Nat) : Int := zs[i]?.getD 0
theorem atN_of {zs : List Int} {i : Nat} (h : i < zs.length) : zs[i]? = some (atN zs i) := by simp [atN, List.getElem?_eq_getElem h]
def hasB (zs : List Int) (z : Int) : Bool := zs.any (fun y => decide (y = z))
theorem has_yes {zs : List Int} {z : Int} {i : Nat} (hi : i < zs.length) (h : atN zs i = z) : hasB zs z = true := by
  rw [hasB, List.any_eq_true]
  exact ⟨atN zs i, List.mem_of_getElem? (atN_of hi), by simp [h]⟩
theorem has_no {zs : List Int} {z : Int} (h : ∀ i, i < zs.length → atN zs i ≠ z) : hasB zs z = false := by
  rw [hasB, List.any_eq_false]
  intro y hy
  obtain ⟨i, hi, rfl⟩ := List.getElem_of_mem hy
  have := h i hi
  rw [atN, List.getElem?_eq_getElem hi] at this
  simpa using this
set_option maxHeartbeats 1000000 in
theorem make_nums (n : Nat) (hn : n ≤ 1048576) (w : World) : (Instr.makeSlice 54 (.int .i64 (n : Int)) (.int .i64 (n : Int))).run Tryz.prog w = .ok (.slice (some ⟨w.heap.size, 0, none⟩) n n) (w.alloc (.cells (madeCells #[.int .i64 0] n) 2)) := by
  have info : (Tryz.prog.info? 2).map (fun i => (i.zero, i.size, i.bytes)) = some (some (.int .i64 0), 1, 8) := by kernel_rfl
  obtain ⟨i, hi, hzz⟩ := Option.map_eq_some_iff.1 info
  simp only [Prod.mk.injEq] at hzz
  obtain ⟨hz, hs, hb⟩ := hzz
  have := run_make (P := Tryz.prog) w 54 2 i _ Tryz.underlying54 hi hz .i64 .i64 (n : Int) (n : Int) (by omega) (by omega) (by rw [hb]; omega) (by omega)
  rw [hs] at this
  simpa [Value.cells] using this
theorem NumsAt.put {w : World} {b k : Nat} {zs : List Int} {z : Int} (h : NumsAt w b 0 (zs.take k)) (hz : zs[k]? = some z) {v : Value} (hv : w.cell? ⟨b, k, none⟩ = some v) : NumsAt (w.setCell ⟨b, k, none⟩ (.int .i64 z)) b 0 (zs.take (k + 1)) := by
  intro i t e
  rw [List.getElem?_take] at e
  split at e
  · rename_i hi
    by_cases hik : i = k
    · subst hik
      rw [hz] at e
      obtain rfl := Option.some.inj e
      simpa using cell_set_same hv
    · have := h i t (by rw [List.getElem?_take, if_pos (by omega)]; exact e)
      rw [cell_set_other (by omega)]; exact this
  · cases e
set_option maxHeartbeats 1000000 in
theorem eqInt64S_any (w : World) (a a' : Option Addr) (n cap cap' : Nat) (zs : List Int) (hn : n ≤ maxLen) (h1 : SlN w w.heap.size a n zs) (h2 : SlN w w.heap.size a' n zs) :
    Calls Tryz.prog 112 #[.slice a n cap, .slice a' n cap'] w fun e w' => e = .returned (.bool true) ∧ Below w.heap.size w w' := by
  unfold maxLen at hn
  obtain ⟨hx, h1⟩ := h1
  obtain ⟨_, h2⟩ := h2
  go_enter Tryz.func112, Tryz.ntmps112
  go_wp2
  go_loopw [5] (fun i wr => ∃ k : Nat, k ≤ n ∧ i = .int .i64 k ∧ Below w.heap.size w wr) (fun i _ => n - (intOf i).toNat)
  case atStart => exact ⟨0, Nat.zero_le _, rfl, Below.refl _ _⟩
  case round =>
    obtain ⟨k, hk, rfl, hbl⟩ := hrel
    by_cases hlt : k < n
    · rcases h1 with h1 | ⟨b, off, rfl, hb, h1⟩
      · omega
      · rcases h2 with h2 | ⟨b', off', rfl, hb', h2⟩
        · omega
        · have c1 := (hbl.cell (p := ⟨b, off + k, none⟩) hb).trans (h1 k _ (atN_of (by omega)))
          have c2 := (hbl.cell (p := ⟨b', off' + k, none⟩) hb').trans (h2 k _ (atN_of (by omega)))
          have hlt' : (k : Int) < (n : Int) := by omega
          have K : Hid (Below w.heap.size w wr) := hbl
          clear h1 h2 hbl hx
          go_wp2_with fail
          go_quiet (fail)
          go_wp2
          exact ⟨⟨k + 1, by omega, by simp, below_dn K.out _⟩, by simp [intOf]; omega⟩
    · have : k = n := by omega
      subst this
      have hd : decide (k < k) = false := by simp
      clear h1 h2
      go_wp2
      go_ret
      exact ⟨rfl, hbl⟩
def marks : Nat → Int → List Int
  | 0, _ => []
  | n + 1, k => k :: marks n (k + 1)
set_option maxHeartbeats 1000000 in
theorem l3Has_any (w : World) (a : Option Addr) (n cap : Nat) (z : Int) (zs : List Int) (hn : n ≤ maxLen) (hs : SlN w w.heap.size a n zs) :
    Calls Tryz.prog 81 #[.slice a n cap, .int .i64 z] w fun e w' => e = .returned (.bool (hasB zs z)) ∧ w' = w := by
  unfold maxLen at hn
  obtain ⟨hx, hs⟩ := hs
  go_enter Tryz.func81, Tryz.ntmps81
  go_wp2
  go_loop [5] (fun v => ∃ k : Nat, k ≤ n ∧ v = .int .i64 k ∧ ∀ i, i < k → atN zs i ≠ z) (fun v => n - (intOf v).toNat)
  case atStart => exact ⟨0, Nat.zero_le _, rfl, fun i h => absurd h (by omega)⟩
  case round =>
    obtain ⟨k, hk, rfl, hall⟩ := hrel
    have K : Hid ((∀ i, i < k → atN zs i ≠ z) ∧ zs.length = n) := ⟨hall, hx⟩
    by_cases hlt : k < n
    · rcases hs with hs | ⟨b, off, rfl, hb, h1⟩
      · omega
      · have c := h1 k _ (atN_of (by omega))
        clear h1 hall hx
        by_cases he : atN zs k = z
        · have q : (atN zs k == z) = true := by simp [he]
          have HE : Hid (atN zs k = z) := he
          clear he
          go_wp2
          go_ret
          exact ⟨by rw [has_yes (by rw [K.out.2]; exact hlt) HE.out]; rfl, rfl⟩
        · have q : (atN zs k == z) = false := by simp [he]
          have HE : Hid (atN zs k ≠ z) := he
          clear he
          go_wp2
          refine ⟨⟨k + 1, by omega, by simp, fun i hi => ?_⟩, by simp [intOf]; omega⟩
          by_cases e : i = k
          · rw [e]; exact HE.out
          · exact K.out.1 i (by omega)
    · have : k = n := by omega
      subst this
      have hd : decide ((k : Int) < (k : Int)) = false := by simp
      clear hall hx hs
      go_wp2
      go_ret
      exact ⟨by rw [has_no (by rw [K.out.2]; exact K.out.1)]; rfl, rfl⟩
def cpn (zs : List Int) : Nat → List Int
  | 0 => []
  | j + 1 => if j ≠ 0 ∧ atN zs j = atN zs (j - 1) then cpn zs j else cpn zs j ++ [atN zs j]
theorem cpn_same {zs : List Int} {j : Nat} (h : atN zs (j + 1) = atN zs j) : cpn zs (j + 1 + 1) = cpn zs (j + 1) := by
  rw [cpn]; exact if_pos ⟨by omega, by simpa using h⟩
theorem cpn_next {zs : List Int} {j : Nat} (h : atN zs (j + 1) ≠ atN zs j) : cpn zs (j + 1 + 1) = cpn zs (j + 1) ++ [atN zs (j + 1)] := by
  rw [cpn]; exact if_neg (fun e => h (by simpa using e.2))
theorem cpn_le (zs : List Int) : ∀ j, (cpn zs j).length ≤ j
  | 0 => by simp [cpn]
  | j + 1 => by
    have := cpn_le zs j
    rw [cpn]; split <;> simp <;> omega
theorem cpn_all {zs : List Int} : ∀ {k : Nat}, k ≤ zs.length → (∀ i, i + 1 < k → atN zs (i + 1) ≠ atN zs i) → cpn zs k = zs.take k
  | 0, _, _ => by simp [cpn]
  | 1, h, _ => by
    rw [cpn, cpn, if_neg (by simp), List.take_add_one, atN_of (by omega)]; simp
  | k + 2, h, h' => by
    rw [cpn_next (h' k (by omega)), cpn_all (k := k + 1) (by omega) (fun i hi => h' i (by omega)), List.take_add_one (i := k + 1), atN_of (by omega)]; rfl
theorem Room.setCells {b m : Nat} : ∀ (vs : List Value) (o : Nat) {w : World}, Room w b m → Room (w.setCells b o vs) b m
  | [], _, _, h => h
  | v :: r, o, _, h => Room.setCells r (o + 1) (h.set v)
def Shp (b : Nat) (w w' : World) : Prop := ∀ cur e fz, w.heap[b]? = some (.cells cur e fz) → ∃ cur', w'.heap[b]? = some (.cells cur' e fz) ∧ cur'.size = cur.size
theorem Shp.refl (b : Nat) (w : World) : Shp b w w := fun cur _ _ h => ⟨cur, h, rfl⟩
theorem Shp.trans {b : Nat} {u v w : World} (h : Shp b u v) (k : Shp b v w) : Shp b u w := fun cur e fz hc => by
  obtain ⟨c1, h1, s1⟩ := h cur e fz hc
  obtain ⟨c2, h2, s2⟩ := k c1 e fz h1
  exact ⟨c2, h2, s2.trans s1⟩
theorem Shp.set (b o : Nat) (w : World) (u : Value) : Shp b w (w.setCell ⟨b, o, none⟩ u) := fun cur e fz hc => by
  refine ⟨cur.setIfInBounds o u, ?_, by simp⟩
  show (w.heap.modify b _)[b]? = _
  rw [Array.getElem?_modify, if_pos rfl, hc]
  rfl
structure TurnS (c : Nat) (w w' : World) : Prop where
  t : Turned c w w'
  s : Shp c w w'
theorem TurnS.refl (c : Nat) (w : World) : TurnS c w w := ⟨Turned.refl _ _, Shp.refl _ _⟩
theorem TurnS.trans {c : Nat} {a b d : World} (h : TurnS c a b) (k : TurnS c b d) : TurnS c a d := ⟨h.t.trans k.t, h.s.trans k.s⟩
theorem TurnS.drewN {c : Nat} {a w : World} (h : TurnS c a w) (n : Nat) : TurnS c a (w.drewN n) := ⟨h.t.drewN n, h.s⟩
theorem TurnS.setCell {c : Nat} {a w : World} (h : TurnS c a w) (o : Nat) (u : Value) : TurnS c a (w.setCell ⟨c, o, none⟩ u) := ⟨h.t.setCell o u, h.s.trans (Shp.set c o w u)⟩
theorem TurnS.setCells {c : Nat} {a : World} : ∀ (vs : List Value) (o : Nat) {w : World}, TurnS c a w → TurnS c a (w.setCells c o vs)
  | [], _, _, h => h
  | v :: r, o, _, h => TurnS.setCells r (o + 1) (h.setCell o v)
theorem TurnS.of_below {c : Nat} {w w' : World} (hb : Below w.heap.size w w') (hc : c < w.heap.size) : TurnS c w w' := ⟨(Turned.refl _ _).of_below hb, fun cur _ _ h => ⟨cur, (hb.block c hc).trans h, rfl⟩⟩
set_option maxHeartbeats 4000000 in
theorem compact_own (w : World) (b cap : Nat) (zs : List Int) (hn : zs.length ≤ 1000) (hc : zs.length ≤ cap) (h : NumsAt w b 0 zs) (hr : Room w b zs.length) (hb : b < w.heap.size) :
    Calls Tryz.prog 57 #[.slice (some ⟨b, 0, none⟩) zs.length cap] w fun e w' => e = .returned (.slice (some ⟨b, 0, none⟩) (cpn zs zs.length).length cap) ∧ TurnS b w w' ∧ NumsAt w' b 0 (cpn zs zs.length) ∧ Room w' b zs.length := by
  obtain ⟨n, hN⟩ : ∃ n, n = zs.length := ⟨_, rfl⟩
  have HN : Hid (n = zs.length) := hN
  rw [← hN] at hn hc hr ⊢
  clear hN
  by_cases h2 : n < 2
  · have d2 : decide ((n : Int) < 2) = true := by simp; omega
    have KE : Hid (cpn zs n = zs ∧ NumsAt w b 0 zs ∧ Room w b n) := ⟨by rw [cpn_all (by rw [← HN.out]; exact Nat.le_refl _) (fun i hi => by omega), HN.out, List.take_length], h, hr⟩
    clear h hr h2
    go_enter Tryz.func57, Tryz.ntmps57
    go_wp2
    go_ret
    exact ⟨by rw [KE.out.1, ← HN.out]; rfl, TurnS.refl _ _, by rw [KE.out.1]; exact KE.out.2.1, KE.out.2.2⟩
  have d2 : decide ((n : Int) < 2) = false := by simp; omega
  have H : Hid (NumsAt w b 0 zs ∧ Room w b n) := ⟨h, hr⟩
  clear h hr
  go_enter Tryz.func57, Tryz.ntmps57
  go_wp2
  clear d2
  go_loopw [3] (fun v wr => ∃ j : Nat, j + 1 ≤ n ∧ v = .int .i64 ((j + 1 : Nat) : Int) ∧ Below w.heap.size w wr ∧ ∀ i, i + 1 < j + 1 → atN zs (i + 1) ≠ atN zs i) (fun v _ => n - (intOf v).toNat)
  case atStart => exact ⟨0, by omega, rfl, Below.refl _ _, fun i hi => by omega⟩
  case round =>
    obtain ⟨j, hj, rfl, hbl, hall⟩ := hrel
    have hlz : zs.length = n := HN.out.symm
    by_cases hlt : j + 1 < n
    · have c1 : wr.cell? ⟨b, j + 1, none⟩ = some (.int .i64 (atN zs (j + 1))) := (hbl.cell (p := ⟨b, j + 1, none⟩) hb).trans (by simpa using H.out.1 (j + 1) _ (atN_of (by omega)))
      have c0 : wr.cell? ⟨b, j, none⟩ = some (.int .i64 (atN zs j)) := (hbl.cell (p := ⟨b, j, none⟩) hb).trans (by simpa using H.out.1 j _ (atN_of (by omega)))
      have hi0 : (j : Int) < (n : Int) := by omega
      have hi1 : ((j + 1 : Nat) : Int) < (n : Int) := by omega
      by_cases he : atN zs (j + 1) = atN zs j
      · have q : (atN zs (j + 1) == atN zs j) = true := by simp [he]
        have KA : Hid (Below w.heap.size w wr ∧ (∀ i, i + 1 < j + 1 → atN zs (i + 1) ≠ atN zs i) ∧ atN zs (j + 1) = atN zs j ∧ zs.length = n) := ⟨hbl, hall, he, hlz⟩
        clear he hbl hall hlz
        go_wp2_with fail
        go_quiet (fail)
        have hsl : ¬ cap = j + 1 := by omega
        go_wp2
        have K1 : Hid (TurnS b w (wr.drewN nq) ∧ Room (wr.drewN nq) b n ∧ NumsAt (wr.drewN nq) b 0 zs ∧ b < (wr.drewN nq).heap.size) := by
          have bb := below_dn KA.out.1 nq
          exact ⟨TurnS.of_below bb hb, H.out.2.below bb hb, H.out.1.below bb hb, Nat.lt_of_lt_of_le hb bb.size⟩
        have KZ : Hid (cpn zs (j + 1 + (0 + 1)) = zs.take (j + 1) ∧ zs.length = n) := ⟨by rw [show j + 1 + (0 + 1) = j + 1 + 1 by omega, cpn_same KA.out.2.2.1, cpn_all (by have := KA.out.2.2.2; omega) KA.out.2.1], KA.out.2.2.2⟩
        clear c0 c1 q hi0 hi1 KA
        generalize wr.drewN nq = W1 at *
        clear wr
        go_loopw [3, 5] (fun v3 v5 wr => ∃ k i2 : Nat, i2 + 1 ≤ n - (j + 1) ∧ v5 = .int .i64 ((i2 + 1 : Nat) : Int) ∧ v3 = .int .i64 (k : Int) ∧ k = (cpn zs (j + 1 + (i2 + 1))).length ∧ k ≤ j + 1 + i2 ∧ TurnS b W1 wr ∧ Room wr b n ∧ NumsAt wr b 0 (cpn zs (j + 1 + (i2 + 1))) ∧ (∀ i, j + 1 + i2 ≤ i → i < n → wr.cell? ⟨b, i, none⟩ = some (.int .i64 (atN zs i)))) (fun _ v5 _ => n - (j + 1) - (intOf v5).toNat)
        case atStart =>
          refine ⟨j + 1, 0, by omega, rfl, rfl, ?_, by omega, TurnS.refl _ _, K1.out.2.1, ?_, fun i _ hi => ?_⟩
          · rw [KZ.out.1, List.length_take, KZ.out.2]; omega
          · rw [KZ.out.1]
            intro i z e
            rw [List.getElem?_take] at e
            split at e
            · exact K1.out.2.2.1 i z e
            · cases e
          · simpa using K1.out.2.2.1 i _ (atN_of (by rw [KZ.out.2]; exact hi))
        case round =>
          obtain ⟨k, i2, hi2, rfl, rfl, hk, hkl, htu, hro, hnu, hta⟩ := hrel
          by_cases hlt2 : i2 + 1 < n - (j + 1)
          · have c1 := hta (j + 1 + (i2 + 1)) (by omega) (by omega)
            have c0 := hta (j + 1 + i2) (by omega) (by omega)
            have hx0 : (i2 : Int) < ((n - (j + 1) : Nat) : Int) := by omega
            have hx1 : ((i2 + 1 : Nat) : Int) < ((n - (j + 1) : Nat) : Int) := by omega
            by_cases he : atN zs (j + 1 + (i2 + 1)) = atN zs (j + 1 + i2)
            · have q : (atN zs (j + 1 + (i2 + 1)) != atN zs (j + 1 + i2)) = false := by simp [he]
              have KE : Hid (k = (cpn zs (j + 1 + (i2 + 1 + 1))).length ∧ TurnS b W1 wr ∧ Room wr b n ∧ NumsAt wr b 0 (cpn zs (j + 1 + (i2 + 1 + 1))) ∧ (∀ i, j + 1 + i2 ≤ i → i < n → wr.cell? ⟨b, i, none⟩ = some (.int .i64 (atN zs i)))) := by
                have e : cpn zs (j + 1 + (i2 + 1 + 1)) = cpn zs (j + 1 + (i2 + 1)) := cpn_same (j := j + 1 + i2) he
                rw [Hid, e]; exact ⟨hk, htu, hro, hnu, hta⟩
              clear he hk htu hro hnu hta
              go_wp2_with fail
              go_quiet (fail)
              go_wp2
              obtain ⟨e1, e2, e3, e4, e5⟩ := KE.out
              exact ⟨⟨k, i2 + 1, by omega, by simp, by simp, e1, by omega, e2.drewN _, e3, e4, fun i hi hi' => e5 i (by omega) hi'⟩, by simp [intOf]; omega⟩
            · have q : (atN zs (j + 1 + (i2 + 1)) != atN zs (j + 1 + i2)) = true := by simp [he]
              have hkn : (k : Int) < (n : Int) := by omega
              obtain ⟨vk, dk, fk⟩ := hro k (by omega)
              have KE : Hid (k + 1 = (cpn zs (j + 1 + (i2 + 1 + 1))).length ∧ TurnS b W1 wr ∧ Room wr b n ∧ NumsAt (wr.setCell ⟨b, k, none⟩ (.int .i64 (atN zs (j + 1 + (i2 + 1))))) b 0 (cpn zs (j + 1 + (i2 + 1 + 1))) ∧ (∀ i, j + 1 + i2 ≤ i → i < n → wr.cell? ⟨b, i, none⟩ = some (.int .i64 (atN zs i)))) := by
                have e : cpn zs (j + 1 + (i2 + 1 + 1)) = cpn zs (j + 1 + (i2 + 1)) ++ [atN zs (j + 1 + (i2 + 1))] := cpn_next (j := j + 1 + i2) he
                rw [Hid, e]
                refine ⟨by simp [← hk], htu, hro, fun i z ez => ?_, hta⟩
                rw [Nat.zero_add]
                by_cases ei : i < k
                · rw [List.getElem?_append_left (by omega)] at ez
                  rw [cell_set_other (by omega)]
                  simpa using hnu i z ez
                · have hie : i = k := by
                    have := (List.getElem?_eq_some_iff.1 ez).1
                    simp [← hk] at this
                    omega
                  subst hie
                  rw [List.getElem?_append_right (by omega), ← hk, Nat.sub_self] at ez
                  simp at ez
                  subst ez
                  exact cell_set_same dk
              clear he hk htu hro hnu hta
              go_wp2_with fail
              go_quiet (fail)
              go_wp2
              obtain ⟨e1, e2, e3, e4, e5⟩ := KE.out
              refine ⟨⟨k + 1, i2 + 1, by omega, by simp, by simp, e1, by omega, (e2.drewN _).setCell _ _, e3.set _, e4, fun i hi hi' => ?_⟩, by simp [intOf]; omega⟩
              exact (cell_set_other (by omega)).trans (e5 i (by omega) hi')
          · have hie : i2 + 1 = n - (j + 1) := by omega
            have hd : decide (((i2 + 1 : Nat) : Int) < ((n - (j + 1) : Nat) : Int)) = false := by simp; omega
            have hks : ¬ cap = k := by omega
            have hkc : k < n := by omega
            have hcl : ∀ ty, (Builtin.clear_ #[54] ty #[.slice (some ⟨b, k, none⟩) (n - k) (cap - k)]).run Tryz.prog wr = .ok (.tuple #[]) (wr.setCells b k (List.replicate (n - k) (.int .i64 0))) := fun ty =>
              Lib.run_clear_slice wr 54 2 ty (.int .i64 0) Tryz.underlying54 (fun _ => by kernel_rfl) rfl rfl b k (n - k) (cap - k) (by omega) (fun i hi => by obtain ⟨v, h1, _⟩ := hro (k + i) (by omega); rw [h1]; rfl) (fun i hi => by obtain ⟨v, _, h1⟩ := hro (k + i) (by omega); exact h1)
            have en : j + 1 + (i2 + 1) = n := by omega
            rw [en] at hk hnu
            have KE : Hid (k = (cpn zs n).length ∧ TurnS b w wr ∧ Room wr b n ∧ NumsAt wr b 0 (cpn zs n)) := ⟨hk, K1.out.1.trans htu, hro, hnu⟩
            clear hk htu hro hnu hta hie en
            go_wp2
            go_ret
            obtain ⟨e1, e2, e3, e4⟩ := KE.out
            refine ⟨by rw [← e1]; rfl, TurnS.setCells _ _ e2, fun i z e => ?_, Room.setCells _ _ e3⟩
            rw [World.cell?_setCells_out _ _ _ _ _ (fun _ _ => .inl (by have := (List.getElem?_eq_some_iff.1 e).1; show 0 + i < k; omega))]
            exact e4 i z e
      · have q : (atN zs (j + 1) == atN zs j) = false := by simp [he]
        have KA : Hid (Below w.heap.size w wr ∧ (∀ i, i + 1 < j + 1 → atN zs (i + 1) ≠ atN zs i) ∧ atN zs (j + 1) ≠ atN zs j) := ⟨hbl, hall, he⟩
        clear he hbl hall hlz
        go_wp2_with fail
        go_quiet (fail)
        go_wp2
        exact ⟨⟨j + 1, by omega, by simp, below_dn KA.out.1 _, fun i hi => by
          by_cases e : i = j
          · rw [e]; exact KA.out.2.2
          · exact KA.out.2.1 i (by omega)⟩, by simp [intOf]; omega⟩
    · obtain rfl : n = j + 1 := by omega
      have hd : decide (((j + 1 : Nat) : Int) < ((j + 1 : Nat) : Int)) = false := by simp
      have KE : Hid (cpn zs (j + 1) = zs ∧ Below w.heap.size w wr) := ⟨by rw [cpn_all (by omega) hall, ← hlz, List.take_length], hbl⟩
      clear hall hlz hbl
      go_wp2
      go_ret
      refine ⟨by rw [KE.out.1, ← HN.out]; rfl, TurnS.of_below KE.out.2 hb, ?_, H.out.2.below KE.out.2 hb⟩
      rw [KE.out.1]; exact H.out.1.below KE.out.2 hb
end Go.Proofs.YtphpcgmnljhimaaGreat.tx