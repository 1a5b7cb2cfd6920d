/- A row of rows of numbers, each of the call's own, beside a cursor: what append and a store make of it. -/
import Derived.Test.YtgohihcpmjfhdaaRows
import Derived.Test.YtgohihcpmjfhdaaPlOwn
import Derived.Test.YtgohihcpmjfhdaaDraw1
import Derived.WalkKit
import Derived.WalkSpells
import Derived.WalkLawsBesides
import Derived.Below
import Derived.Maps.AppendAt
import Derived.Laws.OwnMore
import Derived.Deep.AppendLies
namespace Go.Proofs.Ytgohihcpmjfhdaa
open Go.RowKit
theorem Turned.grownBy {c : Nat} {a w : World} (h : Turned c a w) : a.grownBy w (some c) := ⟨h.os, h.tape, h.output, h.size, fun k hk hne => h.block k hk (fun e => hne (by rw [e]))⟩
theorem Turned.over {c : Nat} {a w w' : World} (h : Turned c a w) (hb : Below a.heap.size w w') : Turned c a w' :=
  ⟨hb.os.trans h.os, hb.tape.trans h.tape, hb.output.trans h.output, Nat.le_trans h.size hb.size, fun k hk hc => (hb.block k hk).trans (h.block k hk hc)⟩
theorem Cur.of_block {w w' : World} {c : Nat} {a : Option Addr} {n k : Nat} (h : Cur w c a n k) (hs : w.heap.size ≤ w'.heap.size) (hb : w'.heap[c]? = w.heap[c]?) : Cur w' c a n k := by
  obtain ⟨j, x, h0, hj, c0, c1, c2, f1, f2⟩ := h
  exact ⟨j, x, Nat.lt_of_lt_of_le h0 hs, hj, (World.cell?_of_block (a := ⟨c, 0, none⟩) hb).trans c0, (World.cell?_of_block (a := ⟨c, 1, none⟩) hb).trans c1, (World.cell?_of_block (a := ⟨c, 2, none⟩) hb).trans c2, (World.frozen?_of_block (a := ⟨c, 1, none⟩) hb).trans f1, (World.frozen?_of_block (a := ⟨c, 2, none⟩) hb).trans f2⟩
/-- The value v owns a row of rows zss; row i lies at the head of block g i, of the call's own. -/
structure OutO (w : World) (base : Nat) (v : Value) (zss : List (List Int)) (g : Nat → Nat) : Prop where
  row : ∃ cs : List Value, w.ownsRow base 40 1 v zss.length cs ∧ ∀ (i : Nat) (zs : List Int), zss[i]? = some zs → ∃ cap : Nat, cs[i]? = some (Value.slice (some ⟨g i, 0, none⟩) zs.length cap) ∧ ON w base (.slice (some ⟨g i, 0, none⟩) zs.length cap) zs
  ne : ∀ i, i < zss.length → v.ownBlock ≠ some (g i)
theorem OutO.empty (w : World) (base : Nat) (hb : base ≤ w.heap.size) (g : Nat → Nat) : OutO (w.alloc (.cells #[] 40)) base (.slice (some ⟨w.heap.size, 0, none⟩) 0 0) [] g :=
  ⟨⟨[], World.ownsRow_made w #[] 0 hb (Nat.zero_le _) rfl, fun i zs e => by simp at e⟩, fun i h => by simp at h⟩
theorem OutO.at {w : World} {base : Nat} {v : Value} {zss : List (List Int)} {g : Nat → Nat} (h : OutO w base v zss g) {i : Nat} {zs : List Int} (e : zss[i]? = some zs) : ∃ cap, ON w base (.slice (some ⟨g i, 0, none⟩) zs.length cap) zs ∧ zs.length ≤ cap ∧ base ≤ g i ∧ g i < w.heap.size := by
  obtain ⟨cs, ho, hc⟩ := h.row
  obtain ⟨cap, _, hon⟩ := hc i zs e
  rcases hon.form with ⟨e', _⟩ | ⟨q, cp, e', h1, h2, h3, _⟩
  · cases e'
  · cases e'; exact ⟨cap, hon, h3, h1, h2⟩
theorem OutO.lt {w : World} {base : Nat} {v : Value} {zss : List (List Int)} {g : Nat → Nat} (h : OutO w base v zss g) {i : Nat} (hi : i < zss.length) : base ≤ g i ∧ g i < w.heap.size := by
  obtain ⟨cap, _, _, h1, h2⟩ := h.at (List.getElem?_eq_getElem hi)
  exact ⟨h1, h2⟩
theorem OutO.lies {w : World} {base : Nat} {v : Value} {zss : List (List Int)} {g : Nat → Nat} (h : OutO w base v zss g) {q : Nat} (e : v.ownBlock = some q) : base ≤ q ∧ q < w.heap.size := by
  obtain ⟨cs, ho, _⟩ := h.row
  exact World.ownsRow.lt ho q e
/-- Where its blocks are as they were. -/
theorem OutO.kept {w w' : World} {base : Nat} {v : Value} {zss : List (List Int)} {g : Nat → Nat} (h : OutO w base v zss g) (hs : ∀ q, base ≤ q → q < w.heap.size → (v.ownBlock = some q ∨ ∃ i, i < zss.length ∧ g i = q) → w'.heap[q]? = w.heap[q]?) : OutO w' base v zss g := by
  obtain ⟨cs, ho, hc⟩ := h.row
  refine ⟨⟨cs, ⟨ho.1, ho.2.imp id ?_⟩, fun i zs e => ?_⟩, h.ne⟩
  · rintro ⟨q, cap, cur, rfl, l, hg, r⟩
    exact ⟨q, cap, cur, rfl, l, (hs q l (World.ownsRow.lt ho q rfl).2 (.inl rfl)).trans hg, r⟩
  · obtain ⟨cap, h1, h2⟩ := hc i zs e
    have hi : i < zss.length := (List.getElem?_eq_some_iff.1 e).1
    have hl := h.lt hi
    exact ⟨cap, h1, h2.kept fun q e' => by cases e'; exact hs _ hl.1 hl.2 (.inr ⟨i, hi, rfl⟩)⟩
theorem OutO.below {w w' : World} {base : Nat} {v : Value} {zss : List (List Int)} {g : Nat → Nat} (h : OutO w base v zss g) (hb : Below w.heap.size w w') : OutO w' base v zss g := h.kept fun q _ hq _ => hb.block q hq
theorem OutO.turned {w w' : World} {base c : Nat} {v : Value} {zss : List (List Int)} {g : Nat → Nat} (h : OutO w base v zss g) (ht : Turned c w w') (hc : c < base) : OutO w' base v zss g := h.kept fun q hb hq _ => ht.block q hq (by omega)
/-- One row more. -/
theorem OutO.push {W : World} {base e : Nat} {v : Value} {zss : List (List Int)} {g : Nat → Nat} (h : OutO W base v zss g) (zs : List Int) (q cap : Nat) (hm : zss.length ≤ 1000) (ty : TypeId)
    (he : W.cell? ⟨e, 0, none⟩ = some (.slice (some ⟨q, 0, none⟩) zs.length cap)) (hq : ON W base (.slice (some ⟨q, 0, none⟩) zs.length cap) zs) (hn : v.ownBlock ≠ some q) (hbase : base ≤ W.heap.size) :
    ∃ v' W', (Builtin.append_ #[24, 24] ty #[v, .slice (some ⟨e, 0, none⟩) 1 1]).run Try.prog W = .ok v' W' ∧ OutO W' base v' (zss ++ [zs]) (fun i => if i = zss.length then q else g i) ∧ W.grownBy W' v.ownBlock ∧ (v'.ownBlock = v.ownBlock ∨ v'.ownBlock = some W.heap.size) ∧ ∃ b cp, v' = .slice (some ⟨b, 0, none⟩) (zss.length + 1) cp := by
  obtain ⟨cs, ho, hc⟩ := h.row
  have hcl : cs.length = zss.length := by simpa using ho.1
  obtain ⟨i0, hi0, hz0, hz1, hz2⟩ := info_parts info_place
  have hadd : ∀ (b o j : Nat), (⟨b, o, none⟩ : Addr).add j = ⟨b, o + j, none⟩ := fun b o j => by unfold Addr.add; split <;> simp_all
  obtain ⟨v', W', hrun, hown, hg, hnil, hlies⟩ := run_append_own_at (P := Try.prog) W base 24 ty 40 i0 (.agg #[.slice none 0 0]) 1 24 Try.underlying24 hi0 hz0 hz1 hz2 rfl (by decide)
    v zss.length cs ho ⟨e, 0, none⟩ 1 1 [.slice (some ⟨q, 0, none⟩) zs.length cap] rfl (fun j u hu => by
      cases j with
      | zero => simp at hu; subst hu; rw [hadd]; exact he
      | succ j => simp at hu)
    (fun u hu => by simp at hu; subst hu; rfl) (by unfold maxLen; omega) (by omega) hbase
  have ql := World.ownsRow.lt hq q rfl
  have far : ∀ x, x < W.heap.size → v.ownBlock ≠ some x → W'.heap[x]? = W.heap[x]? := fun x hx hne => hg.block x hx (fun e' => hne e'.symm)
  have nev : ∀ x, x < W.heap.size → v.ownBlock ≠ some x → v'.ownBlock ≠ some x := fun x hx hne => by
    rcases hlies with e' | e'
    · rw [e']; exact hne
    · rw [e']; intro e''; cases e''; omega
  have hlen : (zss ++ [zs]).length = zss.length + 1 := by simp
  refine ⟨v', W', hrun, ⟨⟨cs ++ [.slice (some ⟨q, 0, none⟩) zs.length cap], by rw [hlen]; exact hown, fun i ys e' => ?_⟩, fun i hi => ?_⟩, hg, hlies, ?_⟩
  · by_cases hi : i < zss.length
    · rw [List.getElem?_append_left hi] at e'
      obtain ⟨cp, h1, h2⟩ := hc i ys e'
      refine ⟨cp, ?_, ?_⟩
      · simp only [if_neg (show i ≠ zss.length by omega)]
        rw [List.getElem?_append_left (by omega)]; exact h1
      · simp only [if_neg (show i ≠ zss.length by omega)]
        exact h2.kept fun x ex => by cases ex; exact far _ (h.lt hi).2 (h.ne i hi)
    · rw [List.getElem?_append_right (by omega)] at e'
      have h0 : i - zss.length = 0 := by
        rcases Nat.eq_zero_or_pos (i - zss.length) with h | h
        · exact h
        · rw [List.getElem?_eq_none (by simp; omega)] at e'; cases e'
      rw [h0] at e'
      simp at e'
      subst e'
      have hiz : i = zss.length := by omega
      refine ⟨cap, ?_, ?_⟩
      · simp only [if_pos hiz]
        rw [List.getElem?_append_right (by omega), hcl, h0]; rfl
      · simp only [if_pos hiz]
        exact hq.kept fun x ex => by cases ex; exact far _ ql.2 hn
  · rw [hlen] at hi
    by_cases e' : i = zss.length
    · simp only [if_pos e']; exact nev q ql.2 hn
    · simp only [if_neg e']; exact nev _ (h.lt (by omega)).2 (h.ne i (by omega))
  · obtain ⟨x, y, e', _⟩ := World.ownsRow.form hown (by omega)
    exact ⟨x, y, e'⟩
/-- Rows of numbers, none of them in block c. -/
def SlNc (c : Nat) (w : World) (a : Option Addr) (n : Nat) (zs : List Int) : Prop := zs.length = n ∧ (n = 0 ∨ ∃ b off, a = some ⟨b, off, none⟩ ∧ b ≠ c ∧ b < w.heap.size ∧ NumsAt w b off zs)
def SlPc (c : Nat) (w : World) (a : Option Addr) (n : Nat) (zss : List (List Int)) : Prop := zss.length = n ∧ (n = 0 ∨ ∃ b off, a = some ⟨b, off, none⟩ ∧ b ≠ c ∧ b < w.heap.size ∧ ∀ i zs, zss[i]? = some zs → ∃ a cap, w.cell? ⟨b, off + i, none⟩ = some (.slice a zs.length cap) ∧ SlNc c w a zs.length zs ∧ zs.length ≤ cap)
theorem SlNc.sl {c : Nat} {w : World} {a : Option Addr} {n : Nat} {zs : List Int} (h : SlNc c w a n zs) : SlN w w.heap.size a n zs := ⟨h.1, h.2.imp id fun ⟨b, off, e, _, h2, h3⟩ => ⟨b, off, e, h2, h3⟩⟩
theorem SlPc.sl {c : Nat} {w : World} {a : Option Addr} {n : Nat} {zss : List (List Int)} (h : SlPc c w a n zss) : SlP w w.heap.size a n zss := ⟨h.1, h.2.imp id fun ⟨b, off, e, _, h2, h3⟩ => ⟨b, off, e, h2, fun i zs e' => by
  obtain ⟨a, cap, h4, h5, h6⟩ := h3 i zs e'
  exact ⟨a, cap, h4, h5.sl, h6⟩⟩⟩
theorem SlNc.turned {c : Nat} {w w' : World} {a : Option Addr} {n : Nat} {zs : List Int} (h : SlNc c w a n zs) (ht : Turned c w w') : SlNc c w' a n zs := ⟨h.1, h.2.imp id fun ⟨b, off, e, h1, h2, h3⟩ => ⟨b, off, e, h1, Nat.lt_of_lt_of_le h2 ht.size, h3.of_block (ht.block b h2 h1)⟩⟩
theorem SlPc.turned {c : Nat} {w w' : World} {a : Option Addr} {n : Nat} {zss : List (List Int)} (h : SlPc c w a n zss) (ht : Turned c w w') : SlPc c w' a n zss := ⟨h.1, h.2.imp id fun ⟨b, off, e, h1, h2, h3⟩ => ⟨b, off, e, h1, Nat.lt_of_lt_of_le h2 ht.size, fun i zs e' => by
  obtain ⟨a, cap, h4, h5, h6⟩ := h3 i zs e'
  exact ⟨a, cap, (ht.cell (p := ⟨b, off + i, none⟩) h2 h1).trans h4, h5.turned ht, h6⟩⟩⟩
/-- The row's cells. -/
theorem OutO.cell {w : World} {base b L cap : Nat} {zss : List (List Int)} {g : Nat → Nat} (h : OutO w base (.slice (some ⟨b, 0, none⟩) L cap) zss g) (hL : zss.length = L) {i : Nat} {zs : List Int} (e : zss[i]? = some zs) : ∃ cp, w.cell? ⟨b, i, none⟩ = some (.slice (some ⟨g i, 0, none⟩) zs.length cp) ∧ w.frozen? ⟨b, i, none⟩ = false ∧ ON w base (.slice (some ⟨g i, 0, none⟩) zs.length cp) zs := by
  subst hL
  obtain ⟨cs, ho, hc⟩ := h.row
  obtain ⟨cp, h1, h2⟩ := hc i zs e
  have hi : i < zss.length := (List.getElem?_eq_some_iff.1 e).1
  exact ⟨cp, by rw [World.ownsRow.cellAt ho i (by omega)]; exact h1, World.ownsRow.frozenAt ho i, h2⟩
theorem ON.sl0 {w : World} {base c q n cap : Nat} {zs : List Int} (h : ON w base (.slice (some ⟨q, 0, none⟩) n cap) zs) (hc : c < base) : SlNc c w (some ⟨q, 0, none⟩) zs.length zs ∧ zs.length ≤ cap := by
  rcases h.form with ⟨e, _⟩ | ⟨q', cp, e, h1, h2, h3, h4, _⟩
  · cases e
  · cases e; exact ⟨⟨rfl, .inr ⟨_, 0, rfl, by omega, h2, h4⟩⟩, h3⟩
/-- As it is answered. -/
theorem OutO.sl {w : World} {base c b L cap : Nat} {zss : List (List Int)} {g : Nat → Nat} (h : OutO w base (.slice (some ⟨b, 0, none⟩) L cap) zss g) (hL : zss.length = L) (hc : c < base) : SlPc c w (some ⟨b, 0, none⟩) L zss :=
  ⟨hL, .inr ⟨b, 0, rfl, by have := (h.lies (q := b) rfl).1; omega, (h.lies rfl).2, fun i zs e => by
    obtain ⟨cp, h1, _, h3⟩ := h.cell hL e
    obtain ⟨s1, s2⟩ := h3.sl0 hc
    exact ⟨_, cp, by rw [Nat.zero_add]; exact h1, s1, s2⟩⟩⟩
/-- With one row stored anew. -/
theorem OutO.put {w V : World} {base c b L cap k : Nat} {zss : List (List Int)} {g : Nat → Nat} (h : OutO w base (.slice (some ⟨b, 0, none⟩) L cap) zss g) (hc : c < base) (hL : zss.length = L) (hk : k < L) (a : Option Addr) (zs : List Int) (cp : Nat) (hsz : w.heap.size ≤ V.heap.size) (eb : V.heap[b]? = w.heap[b]?) (eg : ∀ i, i < L → i ≠ k → V.heap[g i]? = w.heap[g i]?)
    (hs : SlNc c V a zs.length zs) (hn : ∀ x, a = some x → x.block ≠ b) (hcp : zs.length ≤ cp) : SlPc c (V.setCell ⟨b, k, none⟩ (.slice a zs.length cp)) (some ⟨b, 0, none⟩) L (zss.set k zs) := by
  have ssz : (V.setCell ⟨b, k, none⟩ (.slice a zs.length cp)).heap.size = V.heap.size := by simp [World.setCell]
  have eF : ∀ q, q ≠ b → (V.setCell ⟨b, k, none⟩ (.slice a zs.length cp)).heap[q]? = V.heap[q]? := fun q hq => Below.heap_setCell _ _ _ _ (fun e => hq e)
  have hb : base ≤ b ∧ b < w.heap.size := h.lies rfl
  refine ⟨by simp [hL], .inr ⟨b, 0, rfl, by omega, by rw [ssz]; omega, fun i ys e => ?_⟩⟩
  rw [Nat.zero_add]
  have hi : i < L := by have := (List.getElem?_eq_some_iff.1 e).1; simp at this; omega
  by_cases hik : i = k
  · subst hik
    rw [List.getElem?_set_self (by omega)] at e
    cases e
    obtain ⟨cp0, h1, _, _⟩ := h.cell hL (List.getElem?_eq_getElem (show i < zss.length by omega))
    refine ⟨a, cp, cell_set_same ((World.cell?_of_block (a := ⟨b, i, none⟩) eb).trans h1), ?_, hcp⟩
    obtain ⟨_, hs⟩ := hs
    refine ⟨rfl, hs.imp id ?_⟩
    rintro ⟨q, off, rfl, hqc, hq, hx⟩
    exact ⟨q, off, rfl, hqc, by rw [ssz]; exact hq, hx.of_block (eF q (hn _ rfl))⟩
  · rw [List.getElem?_set_ne (Ne.symm hik)] at e
    obtain ⟨cp0, h1, _, h3⟩ := h.cell hL e
    rcases h3.form with ⟨e', _⟩ | ⟨q, cp', e', q1, q2, q3, q4, _⟩
    · cases e'
    · cases e'
      refine ⟨_, cp0, by rw [cell_set_other hik]; exact (World.cell?_of_block (a := ⟨b, i, none⟩) eb).trans h1, ⟨rfl, .inr ⟨g i, 0, rfl, by omega, by rw [ssz]; omega, ?_⟩⟩, q3⟩
      have hne : g i ≠ b := fun e' => h.ne i (by omega) (by rw [e']; rfl)
      exact (q4.of_block (eg i hi hik)).of_block (eF _ hne)
theorem PB.turned {w w' : World} {base c P : Nat} {v : Value} {zs : List Int} (h : PB w base P v zs) (ht : Turned c w w') (hc : c < base) : PB w' base P v zs := by
  have hP := h.lt
  have hlow := h.low
  have eb := ht.block P hP (by omega)
  exact ⟨(World.cell?_of_block (a := ⟨P, 0, none⟩) eb).trans h.cell, (World.frozen?_of_block (a := ⟨P, 0, none⟩) eb).trans h.frz, Nat.lt_of_lt_of_le hP ht.size, h.low, h.on.kept fun q e => by
    have := World.ownsRow.lt h.on q e
    exact ht.block q this.2 (by omega), h.ne⟩
end Go.Proofs.Ytgohihcpmjfhdaa
