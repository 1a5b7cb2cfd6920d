/- Rows of rows of a call's own that grow by append: the row in hand (a field in a box), and the row of rows. -/
import Derived.Test.YtgohihcpmjfhdaaRows
import Derived.Test.YtgohihcpmjfhdaaNumOwn
import Derived.Test.YtgohihcpmjfhdaaPls
import Derived.WalkKit
import Derived.WalkSpells
import Derived.WalkLawsBesides
import Derived.Below
import Derived.Maps.AppendAt
import Derived.Laws.OwnMore
import Derived.Deep.AppendLies
namespace Go.Proofs.Ytgohihcpmjfhdaa
open Go.RowKit
/-- Box P holds the value v, which owns the numbers zs, all from block base on. -/
structure PB (w : World) (base P : Nat) (v : Value) (zs : List Int) : Prop where
  cell : w.cell? ⟨P, 0, none⟩ = some v
  frz : w.frozen? ⟨P, 0, none⟩ = false
  lt : P < w.heap.size
  low : base ≤ P
  on : ON w base v zs
  ne : v.ownBlock ≠ some P
theorem PB.new (w : World) (base : Nat) (hb : base ≤ w.heap.size) : PB (w.alloc (.cells #[.slice none 0 0] 40)) base w.heap.size (.slice none 0 0) [] :=
  ⟨by go_simp, by go_simp, by simp, hb, ON.nil _ _, by simp [Value.ownBlock]⟩
/-- One number more. -/
theorem PB.step {w : World} {base P : Nat} {v : Value} {zs : List Int} (h : PB w base P v zs) (z : Int) (hm : zs.length ≤ 1000) (ty : TypeId) :
    ∃ v' W', (Builtin.append_ #[28, 28] ty #[v, .slice (some ⟨w.heap.size, 0, none⟩) 1 1]).run Try.prog (w.drew.alloc (.cells #[.int .i64 z] 2)) = .ok v' W'
      ∧ W'.cell? ⟨P, 0, none⟩ = some v ∧ W'.frozen? ⟨P, 0, none⟩ = false ∧ PB (W'.setCell ⟨P, 0, none⟩ v') base P v' (zs ++ [z]) ∧ Below base w (W'.setCell ⟨P, 0, none⟩ v') ∧ Below base w W' := by
  have hP := h.lt
  have hlow := h.low
  have bA : Below w.heap.size w (w.drew.alloc (.cells #[.int .i64 z] 2)) := ((Below.refl _ _).drew).alloc (Nat.le_refl _) _
  have sA : (w.drew.alloc (.cells #[.int .i64 z] 2)).heap.size = w.heap.size + 1 := by show (w.alloc _).heap.size = _; simp
  have cz : NumsAt (w.drew.alloc (.cells #[.int .i64 z] 2)) w.heap.size 0 [z] := fun i x e => by
    obtain ⟨rfl, rfl⟩ : i = 0 ∧ x = z := by
      cases i with
      | zero => simp at e; exact ⟨rfl, e.symm⟩
      | succ i => simp at e
    show (w.drew.alloc _).cell? ⟨w.drew.heap.size, 0, none⟩ = _
    go_simp
  obtain ⟨v', W', hr, ho, hg, hl⟩ := on_append (w.drew.alloc (.cells #[.int .i64 z] 2)) base v zs [z] w.heap.size 0 1 ty (h.on.below bA) cz (by simp; omega) (by omega)
  have hPA : P < (w.drew.alloc (.cells #[.int .i64 z] 2)).heap.size := by omega
  have c1 : W'.cell? ⟨P, 0, none⟩ = some v := (hg.cell_far ⟨P, 0, none⟩ hPA (fun e => h.ne e.symm)).trans ((bA.cell (p := ⟨P, 0, none⟩) hP).trans h.cell)
  have f1 : W'.frozen? ⟨P, 0, none⟩ = false := (hg.frozen_far ⟨P, 0, none⟩ hPA (fun e => h.ne e.symm)).trans ((bA.frozen (p := ⟨P, 0, none⟩) hP).trans h.frz)
  have hne : v'.ownBlock ≠ some P := by
    rcases hl with e | e
    · rw [e]; exact h.ne
    · rw [e]; intro e'; cases e'; omega
  have sz : P < W'.heap.size := Nat.lt_of_lt_of_le hPA hg.size
  refine ⟨v', W', hr, c1, f1, ⟨cell_set_same c1, by rw [World.frozen?_setCell]; exact f1, by simpa [World.setCell] using sz, hlow, ?_, hne⟩, ?_⟩
  · exact ho.kept fun q e => Below.heap_setCell _ _ _ _ (fun e' => hne (by rw [e, e']))
  · have hb1 : Below base w W' := (bA.mono (by omega)).grown hg (by omega) (fun q e => (World.ownsRow.lt h.on q e).1)
    exact ⟨hb1.setCell (p := ⟨P, 0, none⟩) hlow _, hb1⟩
/-- The same where no order is drawn. -/
theorem PB.stepP {w : World} {base P : Nat} {v : Value} {zs : List Int} (h : PB w base P v zs) (z : Int) (hm : zs.length ≤ 1000) (ty : TypeId) :
    ∃ v' W', (Builtin.append_ #[28, 28] ty #[v, .slice (some ⟨w.heap.size, 0, none⟩) 1 1]).run Try.prog (w.alloc (.cells #[.int .i64 z] 2)) = .ok v' W'
      ∧ W'.cell? ⟨P, 0, none⟩ = some v ∧ W'.frozen? ⟨P, 0, none⟩ = false ∧ PB (W'.setCell ⟨P, 0, none⟩ v') base P v' (zs ++ [z]) ∧ Below base w (W'.setCell ⟨P, 0, none⟩ v') ∧ Below base w W' := by
  have hP := h.lt
  have hlow := h.low
  have bA : Below w.heap.size w (w.alloc (.cells #[.int .i64 z] 2)) := (Below.refl _ _).alloc (Nat.le_refl _) _
  have sA : (w.alloc (.cells #[.int .i64 z] 2)).heap.size = w.heap.size + 1 := by simp
  have cz : NumsAt (w.alloc (.cells #[.int .i64 z] 2)) w.heap.size 0 [z] := fun i x e => by
    obtain ⟨rfl, rfl⟩ : i = 0 ∧ x = z := by
      cases i with
      | zero => simp at e; exact ⟨rfl, e.symm⟩
      | succ i => simp at e
    go_simp
  obtain ⟨v', W', hr, ho, hg, hl⟩ := on_append (w.alloc (.cells #[.int .i64 z] 2)) base v zs [z] w.heap.size 0 1 ty (h.on.below bA) cz (by simp; omega) (by omega)
  have hPA : P < (w.alloc (.cells #[.int .i64 z] 2)).heap.size := by omega
  have c1 : W'.cell? ⟨P, 0, none⟩ = some v := (hg.cell_far ⟨P, 0, none⟩ hPA (fun e => h.ne e.symm)).trans ((bA.cell (p := ⟨P, 0, none⟩) hP).trans h.cell)
  have f1 : W'.frozen? ⟨P, 0, none⟩ = false := (hg.frozen_far ⟨P, 0, none⟩ hPA (fun e => h.ne e.symm)).trans ((bA.frozen (p := ⟨P, 0, none⟩) hP).trans h.frz)
  have hne : v'.ownBlock ≠ some P := by
    rcases hl with e | e
    · rw [e]; exact h.ne
    · rw [e]; intro e'; cases e'; omega
  have sz : P < W'.heap.size := Nat.lt_of_lt_of_le hPA hg.size
  refine ⟨v', W', hr, c1, f1, ⟨cell_set_same c1, by rw [World.frozen?_setCell]; exact f1, by simpa [World.setCell] using sz, hlow, ?_, hne⟩, ?_⟩
  · exact ho.kept fun q e => Below.heap_setCell _ _ _ _ (fun e' => hne (by rw [e, e']))
  · have hb1 : Below base w W' := (bA.mono (by omega)).grown hg (by omega) (fun q e => (World.ownsRow.lt h.on q e).1)
    exact ⟨hb1.setCell (p := ⟨P, 0, none⟩) hlow _, hb1⟩
/-- The value v owns a row of rows zss; row i lies at the head of block g i; all from block base on, all apart. -/
structure OutP (w : World) (base : Nat) (v : Value) (zss : List (List Int)) (g : Nat → Nat) : Prop where
  row : ∃ cs : List Value, w.ownsRow base 40 1 v zss.length cs ∧ ∀ (i : Nat) (zs : List Int), zss[i]? = some zs → ∃ cap : Nat, cs[i]? = some (Value.slice (some ⟨g i, 0, none⟩) zs.length cap) ∧ zs.length ≤ cap
  low : ∀ i, i < zss.length → base ≤ g i
  lt : ∀ i, i < zss.length → g i < w.heap.size
  ne : ∀ i, i < zss.length → v.ownBlock ≠ some (g i)
  nums : ∀ i zs, zss[i]? = some zs → NumsAt w (g i) 0 zs
  room : ∀ i zs, zss[i]? = some zs → Room w (g i) zs.length
  inj : ∀ i j, i < zss.length → j < zss.length → g i = g j → i = j
theorem OutP.empty (w : World) (base : Nat) (hb : base ≤ w.heap.size) (g : Nat → Nat) : OutP (w.alloc (.cells #[] 40)) base (.slice (some ⟨w.heap.size, 0, none⟩) 0 0) [] g :=
  ⟨⟨[], World.ownsRow_made w #[] 0 hb (Nat.zero_le _) rfl, fun i zs e => by simp at e⟩, fun i h => by simp at h, fun i h => by simp at h, fun i h => by simp at h, fun i zs e => by simp at e, fun i zs e => by simp at e, fun i j h => by simp at h⟩
theorem OutP.below {w w' : World} {base : Nat} {v : Value} {zss : List (List Int)} {g : Nat → Nat} (h : OutP w base v zss g) (hb : Below w.heap.size w w') : OutP w' base v zss g := by
  have hi : ∀ i zs, zss[i]? = some zs → i < zss.length := fun i zs e => (List.getElem?_eq_some_iff.1 e).1
  obtain ⟨cs, ho, hc⟩ := h.row
  refine ⟨⟨cs, ⟨ho.1, ho.2.imp id ?_⟩, hc⟩, h.low, fun i hi => Nat.lt_of_lt_of_le (h.lt i hi) hb.size, h.ne, fun i zs e => (h.nums i zs e).of_block (hb.block _ (h.lt i (hi i zs e))), fun i zs e => (h.room i zs e).of_block (hb.block _ (h.lt i (hi i zs e))), h.inj⟩
  rintro ⟨q, cap, cur, rfl, l, hg, r⟩
  exact ⟨q, cap, cur, rfl, l, (hb.block q (World.ownsRow.lt ho q rfl).2).trans hg, r⟩
theorem info_place : (Try.prog.info? 40).map (fun i => (i.zero, i.size, i.bytes)) = some (some (.agg #[.slice none 0 0]), 1, 24) := by kernel_rfl
/-- One row more: the row's value lies in a block e of one cell. -/
theorem OutP.push {W : World} {base e : Nat} {v : Value} {zss : List (List Int)} {g : Nat → Nat} (h : OutP W base v zss g) (zs : List Int) (q cap : Nat) (hm : zss.length ≤ 1000) (ty : TypeId)
    (he : W.cell? ⟨e, 0, none⟩ = some (.slice (some ⟨q, 0, none⟩) zs.length cap)) (hcp : zs.length ≤ cap) (hq : base ≤ q) (hl : q < W.heap.size) (hn : v.ownBlock ≠ some q) (hx : NumsAt W q 0 zs) (hr : Room W q zs.length) (hf : ∀ i, i < zss.length → g i ≠ q) (hbase : base ≤ W.heap.size) :
    ∃ v' W', (Builtin.append_ #[24, 24] ty #[v, .slice (some ⟨e, 0, none⟩) 1 1]).run Try.prog W = .ok v' W' ∧ OutP W' base v' (zss ++ [zs]) (fun i => if i = zss.length then q else g i) ∧ W.grownBy W' v.ownBlock ∧ (v'.ownBlock = v.ownBlock ∨ v'.ownBlock = some W.heap.size) ∧ v' ≠ .slice none 0 0 := by
  obtain ⟨cs, ho, hc⟩ := h.row
  have hcl : cs.length = zss.length := by simpa using ho.1
  obtain ⟨i0, hi0, hz0, hz1, hz2⟩ := info_parts info_place
  have hadd : ∀ (b o j : Nat), (⟨b, o, none⟩ : Addr).add j = ⟨b, o + j, none⟩ := fun b o j => by unfold Addr.add; split <;> simp_all
  obtain ⟨v', W', hrun, hown, hg, hnil, hlies⟩ := run_append_own_at (P := Try.prog) W base 24 ty 40 i0 (.agg #[.slice none 0 0]) 1 24 Try.underlying24 hi0 hz0 hz1 hz2 rfl (by decide)
    v zss.length cs ho ⟨e, 0, none⟩ 1 1 [.slice (some ⟨q, 0, none⟩) zs.length cap] rfl (fun j u hu => by
      cases j with
      | zero => simp at hu; subst hu; rw [hadd]; exact he
      | succ j => simp at hu)
    (fun u hu => by simp at hu; subst hu; rfl) (by unfold maxLen; omega) (by omega) hbase
  have far : ∀ x, x < W.heap.size → v.ownBlock ≠ some x → W'.heap[x]? = W.heap[x]? := fun x hx hne => hg.block x hx (fun e' => hne e'.symm)
  have nev : ∀ x, x < W.heap.size → v.ownBlock ≠ some x → v'.ownBlock ≠ some x := fun x hx hne => by
    rcases hlies with e' | e'
    · rw [e']; exact hne
    · rw [e']; intro e''; cases e''; omega
  have split : ∀ i ys, (zss ++ [zs])[i]? = some ys → (i < zss.length ∧ zss[i]? = some ys) ∨ (i = zss.length ∧ ys = zs) := fun i ys e' => by
    by_cases hi : i < zss.length
    · rw [List.getElem?_append_left hi] at e'
      exact .inl ⟨hi, e'⟩
    · rw [List.getElem?_append_right (by omega)] at e'
      have h0 : i - zss.length = 0 := by
        rcases Nat.eq_zero_or_pos (i - zss.length) with h | h
        · exact h
        · rw [List.getElem?_eq_none (by simp; omega)] at e'; cases e'
      rw [h0] at e'
      simp at e'
      exact .inr ⟨by omega, e'.symm⟩
  have hlen : (zss ++ [zs]).length = zss.length + 1 := by simp
  refine ⟨v', W', hrun, ⟨⟨cs ++ [.slice (some ⟨q, 0, none⟩) zs.length cap], by rw [hlen]; exact hown, fun i ys e' => ?_⟩, fun i hi => ?_, fun i hi => ?_, fun i hi => ?_, fun i ys e' => ?_, fun i ys e' => ?_, fun i k hi hk e' => ?_⟩, hg, hlies, fun e' => by obtain ⟨x, y, e'', _⟩ := World.ownsRow.form hown (by omega); rw [e'] at e''; cases e''⟩
  · rcases split i ys e' with ⟨hi, e'⟩ | ⟨rfl, rfl⟩
    · rw [if_neg (by omega), List.getElem?_append_left (by omega)]; exact hc i ys e'
    · rw [if_pos rfl, List.getElem?_append_right (by omega), hcl, Nat.sub_self]; exact ⟨cap, rfl, hcp⟩
  · rw [hlen] at hi
    by_cases e' : i = zss.length
    · rw [if_pos e']; exact hq
    · rw [if_neg e']; exact h.low i (by omega)
  · rw [hlen] at hi
    by_cases e' : i = zss.length
    · rw [if_pos e']; exact Nat.lt_of_lt_of_le hl hg.size
    · rw [if_neg e']; exact Nat.lt_of_lt_of_le (h.lt i (by omega)) hg.size
  · rw [hlen] at hi
    by_cases e' : i = zss.length
    · rw [if_pos e']; exact nev q hl hn
    · rw [if_neg e']; exact nev _ (h.lt i (by omega)) (h.ne i (by omega))
  · rcases split i ys e' with ⟨hi, e'⟩ | ⟨rfl, rfl⟩
    · rw [if_neg (by omega)]; exact (h.nums i ys e').of_block (far _ (h.lt i hi) (h.ne i hi))
    · rw [if_pos rfl]; exact hx.of_block (far q hl hn)
  · rcases split i ys e' with ⟨hi, e'⟩ | ⟨rfl, rfl⟩
    · rw [if_neg (by omega)]; exact (h.room i ys e').of_block (far _ (h.lt i hi) (h.ne i hi))
    · rw [if_pos rfl]; exact hr.of_block (far q hl hn)
  · rw [hlen] at hi hk
    by_cases ei : i = zss.length <;> by_cases ek : k = zss.length
    · omega
    · simp only [if_pos ei, if_neg ek] at e'; exact absurd e'.symm (hf k (by omega))
    · simp only [if_neg ei, if_pos ek] at e'; exact absurd e' (hf i (by omega))
    · simp only [if_neg ei, if_neg ek] at e'; exact h.inj i k (by omega) (by omega) e'
/-- Where another row grew. -/
theorem OutP.grown {w w' : World} {base : Nat} {v : Value} {zss : List (List Int)} {g : Nat → Nat} {row : Option Nat} (h : OutP w base v zss g) (hg : w.grownBy w' row) (h1 : v.ownBlock ≠ row) (h2 : ∀ i, i < zss.length → row ≠ some (g i)) : OutP w' base v zss g := by
  have hi : ∀ i zs, zss[i]? = some zs → i < zss.length := fun i zs e => (List.getElem?_eq_some_iff.1 e).1
  obtain ⟨cs, ho, hc⟩ := h.row
  have far : ∀ i, i < zss.length → w'.heap[g i]? = w.heap[g i]? := fun i hi => hg.block _ (h.lt i hi) (fun e => h2 i hi e.symm)
  refine ⟨⟨cs, ⟨ho.1, ho.2.imp id ?_⟩, hc⟩, h.low, fun i hi => Nat.lt_of_lt_of_le (h.lt i hi) hg.size, h.ne, fun i zs e => (h.nums i zs e).of_block (far i (hi i zs e)), fun i zs e => (h.room i zs e).of_block (far i (hi i zs e)), h.inj⟩
  rintro ⟨q, cap, cur, rfl, l, hq, r⟩
  exact ⟨q, cap, cur, rfl, l, (hg.block q (World.ownsRow.lt ho q rfl).2 (fun e => h1 e)).trans hq, r⟩
theorem ON.grown {w w' : World} {base : Nat} {v : Value} {zs : List Int} {row : Option Nat} (h : ON w base v zs) (hg : w.grownBy w' row) (h1 : v.ownBlock ≠ row) : ON w' base v zs :=
  h.kept fun q e => hg.block q (World.ownsRow.lt h q e).2 (fun e' => h1 (e.trans e'))
theorem OutP.lies {w : World} {base : Nat} {v : Value} {zss : List (List Int)} {g : Nat → Nat} (h : OutP w base v zss g) {q : Nat} (e : v.ownBlock = some q) : base ≤ q ∧ q < w.heap.size := by
  obtain ⟨cs, ho, _⟩ := h.row
  exact World.ownsRow.lt ho q e
/-- At the end: the row that is answered. -/
theorem OutP.own {w : World} {base : Nat} {v : Value} {zss : List (List Int)} {g : Nat → Nat} (h : OutP w base v zss g) (hv : v ≠ .slice none 0 0) : ∃ b cap, v = .slice (some ⟨b, 0, none⟩) zss.length cap ∧ base ≤ b ∧ b < w.heap.size ∧ zss.length ≤ cap ∧ OwnP w base b zss.length zss g := by
  obtain ⟨cs, ho, hc⟩ := h.row
  have ho' := ho
  rcases ho'.2 with ⟨e, _⟩ | ⟨b, cap, cur, rfl, hb, hg, hcp, _⟩
  · exact absurd e hv
  · refine ⟨b, cap, rfl, hb, (World.ownsRow.lt ho b rfl).2, hcp, ⟨rfl, fun i zs e => ?_, h.low, h.lt, fun i hi e => h.ne i hi (by rw [e]; rfl), h.nums, h.room, h.inj⟩⟩
    have hi : i < zss.length := (List.getElem?_eq_some_iff.1 e).1
    obtain ⟨cp, hcs, hle⟩ := hc i zs e
    exact ⟨cp, by rw [World.ownsRow.cellAt ho i (by omega)]; exact hcs, hle⟩
end Go.Proofs.Ytgohihcpmjfhdaa
