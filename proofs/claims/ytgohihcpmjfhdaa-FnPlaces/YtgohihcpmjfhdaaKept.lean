/- A row of numbers of the call's own in a box: one number more; slices.Clone; the filling up of a row. -/
import Derived.Test.YtgohihcpmjfhdaaRangeO
import Derived.Test.YtgohihcpmjfhdaaRemapA
import Derived.Test.YtgohihcpmjfhdaaLiving
import Derived.Lib.OwnKind
import Derived.Lib.SliceRun
namespace Go.Proofs.Ytgohihcpmjfhdaa
open Go.RowKit
/-- An append whose run is known, met at its operation, inside a fence. -/
theorem append_knownIn {F : Fence} {n : Nat} {P : Program} (w : World) {ops : Array Oper} {rest : List Oper} {o : Oper} {a : Act} {Q : Exit → Act → World → Prop} (hg : o.guard = none) (s x : Operand) (t : TypeId)
    (hop : o.op = Op.call { callee := Callee.builtin Builtin.append, args := #[s, x], argTypes := #[t, t] }) (v u v' : Value) (w' : World) (hs : a.eval s = v) (hx : a.eval x = u)
    (hr : (Builtin.append_ #[t, t] o.type #[v, u]).run P w = .ok v' w') (h : wpListIn F n P ops Q rest (a.put o.dst v') w') : wpListIn F n P ops Q (o :: rest) a w := by
  refine wpListIn_plain hg fun K hK => ?_
  unfold Oper.wpIn
  refine ⟨?_, ?_⟩
  · simp [Oper.about, hop, resolve, Target.leads, Sem.run_pure]
  · rw [Oper.semAt_plain F _ _ (by rw [hop]; intro c hc'; cases hc')]
    simp [execOp, hop, resolve, invoke, builtin, hs, hx, hr, Result.andThen]
    exact hK _ _ h
/-- Box Bk holds v, which owns the numbers zs from block base on. -/
structure KB (W : World) (base Bk : Nat) (v : Value) (zs : List Int) : Prop where
  box : Boxed W Bk 28 v
  on : ON W base v zs
  lt : Bk < base
  sz : base ≤ W.heap.size
theorem KB.kept {W W' : World} {base Bk : Nat} {v : Value} {zs : List Int} {row : Option Nat} (h : KB W base Bk v zs) (hg : W.grownBy W' row) (hr : ∀ r, row = some r → ∃ o : Obj, W.heap[r]? = some o ∧ o.isCells = false) : KB W' base Bk v zs := by
  refine ⟨h.box.kept hg (fun e => ?_), h.on.kept fun q e => hg.block q (World.ownsRow.lt h.on q e).2 (fun e' => ?_), h.lt, Nat.le_trans h.sz hg.size⟩
  · obtain ⟨o, ho, hc⟩ := hr Bk e.symm
    rw [show W.heap[Bk]? = _ from h.box] at ho; cases ho; cases hc
  · obtain ⟨o, ho, hc⟩ := hr q e'.symm
    obtain ⟨c, fz, h3⟩ := Go.Lib.ownsRow_kind h.on q e
    rw [h3] at ho; cases ho; cases hc
/-- One number more. -/
theorem KB.step {W : World} {base Bk : Nat} {v : Value} {zs : List Int} (h : KB W base Bk v zs) (z : Int) (hm : zs.length ≤ 1000) (ty : TypeId) :
    ∃ v' W', (Builtin.append_ #[28, 28] ty #[v, .slice (some ⟨W.heap.size, 0, none⟩) 1 1]).run Try.prog (W.alloc (.cells #[.int .i64 z] 2)) = .ok v' W'
      ∧ W'.cell? ⟨Bk, 0, none⟩ = some v ∧ W'.frozen? ⟨Bk, 0, none⟩ = false ∧ KB (W'.setCell ⟨Bk, 0, none⟩ v') base Bk v' (zs ++ [z]) ∧ KeepsOthers W (W'.setCell ⟨Bk, 0, none⟩ v')
      ∧ (∀ n₀, n₀ ≤ Bk → Below n₀ W (W'.setCell ⟨Bk, 0, none⟩ v')) ∧ (∀ L, KeepR Bk L W (W'.setCell ⟨Bk, 0, none⟩ v')) ∧ (∀ k, k < base → k ≠ Bk → (W'.setCell ⟨Bk, 0, none⟩ v').heap[k]? = W.heap[k]?)
      ∧ ∃ q cap, v' = .slice (some ⟨q, 0, none⟩) (zs.length + 1) cap := by
  have hlt := h.lt
  have hsz := h.sz
  have hBl := h.box.lt
  have bA : Below W.heap.size W (W.alloc (.cells #[.int .i64 z] 2)) := (Below.refl _ _).alloc (Nat.le_refl _) _
  have sA : (W.alloc (.cells #[.int .i64 z] 2)).heap.size = W.heap.size + 1 := by simp
  have cz : NumsAt (W.alloc (.cells #[.int .i64 z] 2)) W.heap.size 0 [z] := fun i x e => by
    obtain ⟨rfl, rfl⟩ : i = 0 ∧ x = z := by
      cases i with
      | zero => simp at e; exact ⟨rfl, e.symm⟩
      | succ i => simp at e
    go_simp
  obtain ⟨v', W', hr, ho, hg, hl⟩ := on_append (W.alloc (.cells #[.int .i64 z] 2)) base v zs [z] W.heap.size 0 1 ty (h.on.below bA) cz (by simp; omega) (by omega)
  have own0 : ∀ q, v.ownBlock = some q → base ≤ q ∧ q < W.heap.size := fun q e => World.ownsRow.lt h.on q e
  have far : ∀ k, k < W.heap.size → k ≠ Bk → v.ownBlock ≠ some k → (W'.setCell ⟨Bk, 0, none⟩ v').heap[k]? = W.heap[k]? := fun k hk hb hv =>
    (Below.heap_setCell _ _ _ _ (fun e => hb e)).trans ((hg.block k (by omega) (fun e => hv e.symm)).trans (bA.block k hk))
  have c1 : W'.heap[Bk]? = W.heap[Bk]? := (hg.block Bk (by omega) (fun e => by have := (own0 Bk e.symm).1; omega)).trans (bA.block Bk hBl)
  have bx : Boxed W' Bk 28 v := c1.trans h.box
  have newR : ∀ r, v'.ownBlock = some r → v.ownBlock = some r ∨ W.heap.size < r := fun r e => by
    rcases hl with e' | e'
    · left; rw [← e', e]
    · right; rw [e'] at e; cases e; omega
  have hne : v'.ownBlock ≠ some Bk := fun e => by
    rcases newR Bk e with e' | e'
    · have := (own0 Bk e').1; omega
    · omega
  have sz2 : (W'.setCell ⟨Bk, 0, none⟩ v').heap.size = W'.heap.size := by simp [World.setCell]
  have szg := hg.size
  have kbel : ∀ n₀, n₀ ≤ Bk → Below n₀ W (W'.setCell ⟨Bk, 0, none⟩ v') := fun n₀ hn =>
    ((bA.mono (by omega)).grown hg (by omega) (fun q e => by have := (own0 q e).1; omega)).setCell (p := ⟨Bk, 0, none⟩) hn _
  refine ⟨v', W', hr, bx.cell, bx.frozen, ⟨bx.set v', ho.kept fun q e => Below.heap_setCell _ _ _ _ (fun e' => hne (by rw [e, e'])), hlt, by omega⟩, ⟨by omega, fun k o hk hc => ?_⟩, kbel, fun L => ⟨by omega, fun k o hk hc hb hn => ?_, fun k o hk hc _ => ?_, fun k hk hn u r hu hr' e => ?_⟩, fun k hk hb => far k (by omega) hb (fun e => by have := (own0 k e).1; omega), ?_⟩
  · refine (far k (Array.getElem?_eq_some_iff.1 hk).1 (fun e => ?_) (fun e => ?_)).trans hk
    · rw [e, show W.heap[Bk]? = _ from h.box] at hk; cases hk; cases hc
    · obtain ⟨c, fz, h3⟩ := Go.Lib.ownsRow_kind h.on k e
      rw [h3] at hk; cases hk; cases hc
  · exact (far k (Array.getElem?_eq_some_iff.1 hk).1 hb (fun e => hn v k h.box.cell e rfl)).trans hk
  · refine (far k (Array.getElem?_eq_some_iff.1 hk).1 (fun e => ?_) (fun e => ?_)).trans hk
    · rw [e, show W.heap[Bk]? = _ from h.box] at hk; cases hk; cases hc
    · obtain ⟨c, fz, h3⟩ := Go.Lib.ownsRow_kind h.on k e
      rw [h3] at hk; cases hk; cases hc
  · rw [(bx.set v').cell] at hu
    cases hu
    rcases newR r hr' with e' | e'
    · exact hn v r h.box.cell e' e
    · omega
  · rcases ho.form with ⟨_, e⟩ | ⟨q, cp, e, _⟩
    · simp at e
    · exact ⟨q, cp, by rw [e]; simp⟩
set_option maxHeartbeats 1000000 in
theorem clone_any (w : World) (b off cap : Nat) (zs : List Int) (hb : b < w.heap.size) (hs : NumsAt w b off zs) (hn : zs.length ≤ 1000) :
    Calls Try.prog 58 #[.slice (some ⟨b, off, none⟩) zs.length cap] w fun e w' => ∃ q cp, e = .returned (.slice (some ⟨q, 0, none⟩) zs.length cp) ∧ ON w' w.heap.size (.slice (some ⟨q, 0, none⟩) zs.length cp) zs ∧ Below w.heap.size w w' := by
  have bA : Below w.heap.size w (w.alloc (.cells #[] 2)) := (Below.refl _ _).alloc (Nat.le_refl _) _
  obtain ⟨v', W', hr, ho, hg, hl⟩ := on_append (w.alloc (.cells #[] 2)) w.heap.size _ [] zs b off cap 28 (ON.empty w) (hs.below bA hb) (by simp; omega) bA.size
  rw [List.nil_append] at ho
  have hb2 : Below w.heap.size w W' := bA.grown hg bA.size (fun k h => by cases h; exact Nat.le_refl _)
  obtain ⟨g, cp, rfl⟩ : ∃ g cp, v' = .slice (some ⟨g, 0, none⟩) zs.length cp := by
    rcases ho.form with ⟨rfl, _⟩ | ⟨g, cp, e, _⟩
    · rcases hl with h | h <;> cases h
    · exact ⟨g, cp, e⟩
  have HK : Hid (ON W' w.heap.size (.slice (some ⟨g, 0, none⟩) zs.length cp) zs ∧ Below w.heap.size w W') := ⟨ho, hb2⟩
  clear ho hg hl hb2 bA hs
  have heq : (binOp .eql 28 (.slice (some ⟨b, off, none⟩) zs.length cap) (.slice none 0 0)).run Try.prog w = .ok (.bool false) w := Go.Lib.run_eql_slice_nil w 28 2 (some ⟨b, off, none⟩) zs.length cap 0 0 Try.underlying28
  go_enter Try.func58, Try.ntmps58
  go_wp2_with (at_builtin; refine append_known _ rfl (.tmp 5) (.tmp 6) 28 rfl _ _ _ _ rfl rfl hr ?_)
  go_ret
  exact ⟨g, cp, rfl, HK.out.1, HK.out.2⟩
/-- The filling up of a row by those that come. -/
def fillM (p : List Int) (ms : List { x : Int // 0 ≤ x ∧ x ≤ 7 }) : List Int := ms.foldl (fun q x => if q.length < 3 ∧ hasB q x.1 = false then q ++ [x.1] else q) p
theorem fillM_snoc (p : List Int) (ms : List { x : Int // 0 ≤ x ∧ x ≤ 7 }) (x : { x : Int // 0 ≤ x ∧ x ≤ 7 }) : fillM p (ms ++ [x]) = if (fillM p ms).length < 3 ∧ hasB (fillM p ms) x.1 = false then fillM p ms ++ [x.1] else fillM p ms := by
  rw [fillM, List.foldl_append]; rfl
theorem fillM_append (p : List Int) (ms ns : List { x : Int // 0 ≤ x ∧ x ≤ 7 }) : fillM p (ms ++ ns) = fillM (fillM p ms) ns := by rw [fillM, List.foldl_append]; rfl
theorem fillM_full {p : List Int} (h : 3 ≤ p.length) : ∀ ms : List { x : Int // 0 ≤ x ∧ x ≤ 7 }, fillM p ms = p
  | [] => rfl
  | x :: ms => by
    show fillM (if _ then _ else _) ms = p
    rw [if_neg (by omega)]
    exact fillM_full h ms
theorem fillM_len {p : List Int} (h : p.length ≤ 3) : ∀ ms : List { x : Int // 0 ≤ x ∧ x ≤ 7 }, p.length ≤ (fillM p ms).length ∧ (fillM p ms).length ≤ 3 := by
  intro ms
  induction ms generalizing p with
  | nil => exact ⟨Nat.le_refl _, h⟩
  | cons x ms ih =>
    show p.length ≤ (fillM (if _ then _ else _) ms).length ∧ (fillM (if _ then _ else _) ms).length ≤ 3
    split
    · have := ih (p := p ++ [x.1]) (by simp; omega)
      simp at this
      omega
    · exact ih h
theorem fillM_all (al : List Bool) (p : List Int) : ∀ k, k ≤ 8 → fillM p (livM al (allM.take k)) = fillTo al p k := by
  intro k
  induction k with
  | zero => intro _; rfl
  | succ k ih =>
    intro hk
    obtain ⟨x, hx, hx1⟩ := allM_at (k := k) (by omega)
    have ih := ih (by omega)
    rw [take_snoc hx, livM_snoc, fillTo]
    have hlv : livesB al x.1 = atB al k := by
      rw [hx1]
      by_cases hka : k < al.length
      · simp [livesB, hka]
      · simp [livesB, hka, atB]
    rw [hlv]
    by_cases ha : atB al k = true
    · rw [if_pos ha, fillM_snoc, ih, hx1]
      simp [ha]
    · rw [if_neg ha, ih]
      simp [ha]
theorem fillTo_past (al : List Bool) (p : List Int) : ∀ k, fillTo al p (al.length + k) = fillTo al p al.length
  | 0 => rfl
  | k + 1 => by
    rw [← Nat.add_assoc, fillTo, fillTo_past al p k, if_neg (by simp [atB])]
theorem fillM_row (al : List Bool) (p : List Int) (h : al.length ≤ 8) : fillM p (livM al allM) = fillTo al p al.length := by
  have := fillM_all al p 8 (Nat.le_refl _)
  rw [← allM_len, List.take_length] at this
  rw [this, allM_len]
  have := fillTo_past al p (8 - al.length)
  rw [← this]; congr 1; omega
end Go.Proofs.Ytgohihcpmjfhdaa
