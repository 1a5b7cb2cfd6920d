/- DrT1; OwnTsR; AddBR: joined. -/
import Derived.Test.YtiidlcjjaglkdaaRows
import Derived.Test.YtiidlcjjaglkdaaJ1LawWanted
import Derived.Test.YtiidlcjjaglkdaaJ3LawWanted
import Derived.Test.YtiidlcjjaglkdaaJ5LawWanted
import Derived.WalkKit
import Derived.WalkSpells
import Derived.WalkLawsBesides
import Derived.Below
import Derived.Deep.AppendLies
import Derived.Deep.Upon
import Derived.Test.YtiidlcjjaglkdaaJ4LawWanted
import Derived.Test.YtiidlcjjaglkdaaJ0LawWanted
import Derived.Lib.QuietBelow
import Derived.BigQuiet
namespace Go.Proofs.Ytiidlcjjaglkdaa
open Go.RowKit
theorem Turned.putT {c b : Nat} {a X : World} (h : Turned c a X) (hb : a.heap.size ≤ b) (v : TV) (t : T7) : Turned c a (putT X b v t) := ((((((h.put hb _ _).put hb _ _).put hb _ _).put hb _ _).put hb _ _).put hb _ _).put hb _ _
theorem Cur.putT {X : World} {c b : Nat} {a : Option Addr} {n k : Nat} (h : Cur X c a n k) (hb : b ≠ c) (v : TV) (t : T7) : Cur (putT X b v t) c a n k := ((((((h.put hb _ _).put hb _ _).put hb _ _).put hb _ _).put hb _ _).put hb _ _).put hb _ _
theorem TR.re {X : World} {B : Nat} {v : TV} {t t' : T7} {PR PS : Nat → Prop} (h : TR X B v t PR PS) (h1 : t'.reads = t.reads) (h2 : t'.sets = t.sets) : TR X B v t' PR PS := by
  obtain ⟨⟨r, s, rs, rB, sB⟩, cr, cs, pr, ps⟩ := h
  refine ⟨⟨?_, ?_, rs, rB, sB⟩, ?_, ?_, ?_, ?_⟩ <;> first | rw [h1]; assumption | rw [h2]; assumption
structure TI (w : World) (c Q : Nat) (a : Option Addr) (n k : Nat) (v : TV) (t : T7) (PR PS : Nat → Prop) (X : World) : Prop where
  z : BT X w.heap.size ⟨none, 0, none, 0⟩ noT
  q : BT X Q v t
  tr : TR X (w.heap.size + 1) v t PR PS
  qp : ¬ OfT PR PS Q
  cu : Cur X c a n k
  tu : Turned c w X
  lq : w.heap.size < Q ∧ c < w.heap.size
theorem TI.step {w : World} {c Q : Nat} {a : Option Addr} {n k : Nat} {v : TV} {t : T7} {PR PS : Nat → Prop} {X : World} {Y : World} (h : TI w c Q a n k v t PR PS X) (hc : Cur Y c a n k) (ht : Turned c X Y) : TI w c Q a n k v t PR PS Y := by
  obtain ⟨l1, l2⟩ := h.lq
  exact ⟨h.z.of_block (ht.block _ h.z.lt (by omega)) ht.size, h.q.of_block (ht.block _ h.q.lt (by omega)) ht.size, h.tr.keep ht.size (fun q hq hp => ht.block q hq (by have := (h.tr.of hp).1; omega)), h.qp, hc, h.tu.trans ht, h.lq⟩
theorem Cur.later {X Y : World} {c : Nat} {a : Option Addr} {n k : Nat} (h : Cur X c a n k) (hb : Below X.heap.size X Y) : Cur Y c a n k := h.turned (c' := X.heap.size) ((Turned.refl _ _).of_below hb) (by have := h.lt; omega)
theorem TI.later {w : World} {c Q : Nat} {a : Option Addr} {n k : Nat} {v : TV} {t : T7} {PR PS : Nat → Prop} {X : World} {Y : World} (h : TI w c Q a n k v t PR PS X) (hb : Below X.heap.size X Y) : TI w c Q a n k v t PR PS Y := h.step (h.cu.later hb) ((Turned.refl _ _).of_below hb)
theorem TI.putFar {w : World} {c Q : Nat} {a : Option Addr} {n k : Nat} {v : TV} {t : T7} {PR PS : Nat → Prop} {X : World} (h : TI w c Q a n k v t PR PS X) {b : Nat} (h1 : w.heap.size < b) (h2 : b ≠ Q) (h3 : ¬ OfT PR PS b) (v' : TV) (t' : T7) : TI w c Q a n k v t PR PS (putT X b v' t') := by
  obtain ⟨l1, l2⟩ := h.lq
  have hs := putT_size X b v' t'
  exact ⟨h.z.of_block (putT_block (by omega)) (by omega), h.q.of_block (putT_block (by omega)) (by omega), h.tr.keep (by omega) (fun q hq hp => putT_block (by rintro rfl; exact h3 hp)), h.qp, h.cu.putT (by omega) _ _, h.tu.putT (by omega) _ _, h.lq⟩
theorem TI.take {w : World} {c Q : Nat} {a : Option Addr} {n k : Nat} {v : TV} {t : T7} {PR PS : Nat → Prop} {X : World} (h : TI w c Q a n k v t PR PS X) {v' : TV} {t' : T7} {PR' PS' : Nat → Prop} (tr : TR X (w.heap.size + 1) v' t' PR' PS') (hq : ¬ OfT PR' PS' Q) : TI w c Q a n k v' t' PR' PS' (putT X Q v' t') := by
  obtain ⟨l1, l2⟩ := h.lq
  have hs := putT_size X Q v' t'
  exact ⟨h.z.of_block (putT_block (by omega)) (by omega), h.q.put v' t', tr.keep (by omega) (fun q hq' hp => putT_block (by rintro rfl; exact hq hp)), hq, h.cu.putT (by omega) _ _, h.tu.putT (by omega) _ _, h.lq⟩
theorem TI.cell {w : World} {c Q : Nat} {a : Option Addr} {n k : Nat} {v : TV} {t : T7} {PR PS : Nat → Prop} {X : World} (h : TI w c Q a n k v t PR PS X) {j : Nat} {u : Value} {v' : TV} {t' : T7} (hq : BT (X.setCell ⟨Q, j, none⟩ u) Q v' t') {PR' PS' : Nat → Prop} (tr : TR X (w.heap.size + 1) v' t' PR' PS') (hp : ¬ OfT PR' PS' Q) : TI w c Q a n k v' t' PR' PS' (X.setCell ⟨Q, j, none⟩ u) := by
  obtain ⟨l1, l2⟩ := h.lq
  have hs : (X.setCell ⟨Q, j, none⟩ u).heap.size = X.heap.size := by simp [World.setCell]
  exact ⟨h.z.of_block (Below.heap_setCell _ _ _ _ (by show w.heap.size ≠ Q; omega)) (by omega), hq, tr.keep (by omega) (fun q _ hp' => Below.heap_setCell _ _ _ _ (by show q ≠ Q; rintro rfl; exact hp hp')), hp, h.cu.put (by omega) _ _, h.tu.put (by omega) _ _, h.lq⟩
theorem TI.set0 {w : World} {c Q : Nat} {a : Option Addr} {n k : Nat} {v : TV} {t : T7} {PR PS : Nat → Prop} {X : World} (h : TI w c Q a n k v t PR PS X) (z : Int) : TI w c Q a n k v ⟨z, t.home, t.phase, t.count, t.reads, t.sets, t.stamp⟩ PR PS (X.setCell ⟨Q, 0, none⟩ (.int .i64 z)) := h.cell (h.q.set0 z) (h.tr.re rfl rfl) h.qp
theorem TI.set1 {w : World} {c Q : Nat} {a : Option Addr} {n k : Nat} {v : TV} {t : T7} {PR PS : Nat → Prop} {X : World} (h : TI w c Q a n k v t PR PS X) (z : Int) : TI w c Q a n k v ⟨t.id, z, t.phase, t.count, t.reads, t.sets, t.stamp⟩ PR PS (X.setCell ⟨Q, 1, none⟩ (.int .i64 z)) := h.cell (h.q.set1 z) (h.tr.re rfl rfl) h.qp
theorem TI.set2 {w : World} {c Q : Nat} {a : Option Addr} {n k : Nat} {v : TV} {t : T7} {PR PS : Nat → Prop} {X : World} (h : TI w c Q a n k v t PR PS X) (z : Int) : TI w c Q a n k v ⟨t.id, t.home, z, t.count, t.reads, t.sets, t.stamp⟩ PR PS (X.setCell ⟨Q, 2, none⟩ (.int .i64 z)) := h.cell (h.q.set2 z) (h.tr.re rfl rfl) h.qp
theorem TI.set3 {w : World} {c Q : Nat} {a : Option Addr} {n k : Nat} {v : TV} {t : T7} {PR PS : Nat → Prop} {X : World} (h : TI w c Q a n k v t PR PS X) (z : Int) : TI w c Q a n k v ⟨t.id, t.home, t.phase, z, t.reads, t.sets, t.stamp⟩ PR PS (X.setCell ⟨Q, 3, none⟩ (.int .i64 z)) := h.cell (h.q.set3 z) (h.tr.re rfl rfl) h.qp
theorem TI.set6 {w : World} {c Q : Nat} {a : Option Addr} {n k : Nat} {v : TV} {t : T7} {PR PS : Nat → Prop} {X : World} (h : TI w c Q a n k v t PR PS X) (z : Int) : TI w c Q a n k v ⟨t.id, t.home, t.phase, t.count, t.reads, t.sets, z⟩ PR PS (X.setCell ⟨Q, 6, none⟩ (.int .i64 z)) := h.cell (h.q.set6 z) (h.tr.re rfl rfl) h.qp
theorem Cur.grown {X Y : World} {c : Nat} {a : Option Addr} {n k : Nat} {r : Option Nat} (h : Cur X c a n k) (hg : X.grownBy Y r) (hr : r ≠ some c) : Cur Y c a n k := by
  obtain ⟨j, u, q1, q2, q3, q4, q5, q6, q7⟩ := h
  have hb := hg.block c q1 (fun e => hr e.symm)
  exact ⟨j, u, Nat.lt_of_lt_of_le q1 hg.size, q2, (World.cell?_of_block (a := ⟨c, 0, none⟩) hb).trans q3, (World.cell?_of_block (a := ⟨c, 1, none⟩) hb).trans q4, (World.cell?_of_block (a := ⟨c, 2, none⟩) hb).trans q5, (World.frozen?_of_block (a := ⟨c, 1, none⟩) hb).trans q6, (World.frozen?_of_block (a := ⟨c, 2, none⟩) hb).trans q7⟩
theorem TI.putR {w : World} {c Q : Nat} {a : Option Addr} {n k : Nat} {v : TV} {t : T7} {PR PS : Nat → Prop} {X : World} (h : TI w c Q a n k v t PR PS X) {Y : World} {r : Option Nat} {xs : List N5} {a' : Option Addr} {c' : Nat} (hg : X.grownBy Y r) (hr : ∀ q, r = some q → PR q) (row : RowN Y (w.heap.size + 1) (.slice a' xs.length c') xs) (hl : ∀ q, (Value.slice a' xs.length c').ownBlock = some q → PR q ∨ X.heap.size ≤ q) :
    TI w c Q a n k ⟨a', c', v.ah, v.ch⟩ ⟨t.id, t.home, t.phase, t.count, xs, t.sets, t.stamp⟩ (fun q => (Value.slice a' xs.length c').ownBlock = some q) PS (Y.setCell ⟨Q, 4, none⟩ (.slice a' xs.length c')) := by
  obtain ⟨l1, l2⟩ := h.lq
  have lQ := h.q.lt
  have low : ∀ q, r = some q → w.heap.size + 1 ≤ q ∧ q ≠ Q := fun q e => ⟨(h.tr.of (.inl (hr q e))).1, fun e' => h.qp (e' ▸ .inl (hr q e))⟩
  have zY := h.z.of_block (hg.block _ h.z.lt (fun e => by have := (low _ e.symm).1; omega)) hg.size
  have qY := h.q.of_block (hg.block _ h.q.lt (fun e => (low _ e.symm).2 rfl)) hg.size
  have cY := h.cu.grown hg (fun e => by have := (low _ e).1; omega)
  have tY : Turned c w Y := h.tu.grown hg (fun q e => by have := (low q e).1; omega)
  have kS : ∀ q, PS q → Y.heap[q]? = X.heap[q]? := fun q hq => hg.block q (h.tr.of (.inr hq)).2 (fun e => h.tr.ot.rs q (hr q e.symm) hq)
  obtain ⟨a1, c1, e1, ow⟩ := row.form
  injection e1 with e1 _ _
  subst e1
  have tr : TR Y (w.heap.size + 1) ⟨a', c', v.ah, v.ch⟩ ⟨t.id, t.home, t.phase, t.count, xs, t.sets, t.stamp⟩ (fun q => (Value.slice a' xs.length c').ownBlock = some q) PS := by
    refine ⟨⟨ow, h.tr.ot.s.keep hg.size (fun q _ hq => kS q hq), fun q h1 h2 => ?_, fun q e => row.lt e, fun q hq => ⟨(h.tr.ot.sB q hq).1, Nat.lt_of_lt_of_le (h.tr.ot.sB q hq).2 hg.size⟩⟩, row, h.tr.cs.keep (fun q _ _ e => kS q (h.tr.ps q e)), fun q e => e, h.tr.ps⟩
    rcases hl q h1 with h3 | h3
    · exact h.tr.ot.rs q h3 h2
    · have := (h.tr.ot.sB q h2).2; omega
  have qp : ¬ OfT (fun q => (Value.slice a' xs.length c').ownBlock = some q) PS Q := by
    rintro (h1 | h1)
    · rcases hl Q h1 with h3 | h3
      · exact h.qp (.inl h3)
      · omega
    · exact h.qp (.inr h1)
  have hs : (Y.setCell ⟨Q, 4, none⟩ (.slice a' xs.length c')).heap.size = Y.heap.size := by simp [World.setCell]
  exact ⟨zY.of_block (Below.heap_setCell _ _ _ _ (by show w.heap.size ≠ Q; omega)) (by omega), qY.set4 a' c' xs, tr.keep (by omega) (fun q _ hp' => Below.heap_setCell _ _ _ _ (by show q ≠ Q; rintro rfl; exact qp hp')), qp, cY.put (by omega) _ _, tY.put (by omega) _ _, h.lq⟩
theorem TI.putS {w : World} {c Q : Nat} {a : Option Addr} {n k : Nat} {v : TV} {t : T7} {PR PS : Nat → Prop} {X : World} (h : TI w c Q a n k v t PR PS X) {Y : World} {r : Option Nat} {xs : List S5} {a' : Option Addr} {c' : Nat} (hg : X.grownBy Y r) (hr : ∀ q, r = some q → PS q) (row : RowS Y (w.heap.size + 1) (.slice a' xs.length c') xs) (hl : ∀ q, (Value.slice a' xs.length c').ownBlock = some q → PS q ∨ X.heap.size ≤ q) :
    TI w c Q a n k ⟨v.ar, v.cr, a', c'⟩ ⟨t.id, t.home, t.phase, t.count, t.reads, xs, t.stamp⟩ PR (fun q => (Value.slice a' xs.length c').ownBlock = some q) (Y.setCell ⟨Q, 5, none⟩ (.slice a' xs.length c')) := by
  obtain ⟨l1, l2⟩ := h.lq
  have lQ := h.q.lt
  have low : ∀ q, r = some q → w.heap.size + 1 ≤ q ∧ q ≠ Q := fun q e => ⟨(h.tr.of (.inr (hr q e))).1, fun e' => h.qp (e' ▸ .inr (hr q e))⟩
  have zY := h.z.of_block (hg.block _ h.z.lt (fun e => by have := (low _ e.symm).1; omega)) hg.size
  have qY := h.q.of_block (hg.block _ h.q.lt (fun e => (low _ e.symm).2 rfl)) hg.size
  have cY := h.cu.grown hg (fun e => by have := (low _ e).1; omega)
  have tY : Turned c w Y := h.tu.grown hg (fun q e => by have := (low q e).1; omega)
  have kS : ∀ q, PR q → Y.heap[q]? = X.heap[q]? := fun q hq => hg.block q (h.tr.of (.inl hq)).2 (fun e => h.tr.ot.rs q hq (hr q e.symm))
  obtain ⟨a1, c1, e1, ow⟩ := row.form
  injection e1 with e1 _ _
  subst e1
  have tr : TR Y (w.heap.size + 1) ⟨v.ar, v.cr, a', c'⟩ ⟨t.id, t.home, t.phase, t.count, t.reads, xs, t.stamp⟩ PR (fun q => (Value.slice a' xs.length c').ownBlock = some q) := by
    refine ⟨⟨h.tr.ot.r.keep hg.size (fun q _ hq => kS q hq), ow, fun q h2 h1 => ?_, fun q hq => ⟨(h.tr.ot.rB q hq).1, Nat.lt_of_lt_of_le (h.tr.ot.rB q hq).2 hg.size⟩, fun q e => row.lt e⟩, h.tr.cr.keep (fun q _ _ e => kS q (h.tr.pr q e)), row, h.tr.pr, fun q e => e⟩
    rcases hl q h1 with h3 | h3
    · exact h.tr.ot.rs q h2 h3
    · have := (h.tr.ot.rB q h2).2; omega
  have qp : ¬ OfT PR (fun q => (Value.slice a' xs.length c').ownBlock = some q) Q := by
    rintro (h1 | h1)
    · exact h.qp (.inl h1)
    · rcases hl Q h1 with h3 | h3
      · exact h.qp (.inr h3)
      · omega
  have hs : (Y.setCell ⟨Q, 5, none⟩ (.slice a' xs.length c')).heap.size = Y.heap.size := by simp [World.setCell]
  exact ⟨zY.of_block (Below.heap_setCell _ _ _ _ (by show w.heap.size ≠ Q; omega)) (by omega), qY.set5 a' c' xs, tr.keep (by omega) (fun q _ hp' => Below.heap_setCell _ _ _ _ (by show q ≠ Q; rintro rfl; exact qp hp')), qp, cY.put (by omega) _ _, tY.put (by omega) _ _, h.lq⟩
theorem lies_or {P : Nat → Prop} {v v' : Value} {m : Nat} (hl : v'.ownBlock = v.ownBlock ∨ v'.ownBlock = some m) (hp : ∀ q, v.ownBlock = some q → P q) : ∀ q, v'.ownBlock = some q → P q ∨ m ≤ q := fun q e => by
  rcases hl with h | h
  · exact .inl (hp q (h.symm.trans e))
  · rw [e] at h
    injection h with h
    exact .inr (by omega)
def TX (w : World) (c Q : Nat) (a : Option Addr) (n k N : Nat) (X : World) : Prop := ∃ (v : TV) (t : T7) (PR PS : Nat → Prop), TI w c Q a n k v t PR PS X ∧ t.reads.length ≤ N ∧ t.sets.length ≤ N
theorem TX.step {w : World} {c Q : Nat} {a : Option Addr} {n k N : Nat} {X Y : World} (h : TX w c Q a n k N X) (hc : Cur Y c a n k) (ht : Turned c X Y) : TX w c Q a n k N Y := by
  obtain ⟨v, t, PR, PS, h1, h2, h3⟩ := h
  exact ⟨v, t, PR, PS, h1.step hc ht, h2, h3⟩
theorem TX.mono {w : World} {c Q : Nat} {a : Option Addr} {n k N M : Nat} {X : World} (h : TX w c Q a n k N X) (hm : N ≤ M) : TX w c Q a n k M X := by
  obtain ⟨v, t, PR, PS, h1, h2, h3⟩ := h
  exact ⟨v, t, PR, PS, h1, by omega, by omega⟩
theorem TX.cu {w : World} {c Q : Nat} {a : Option Addr} {n k N : Nat} {X : World} (h : TX w c Q a n k N X) : Cur X c a n k ∧ Turned c w X := by
  obtain ⟨v, t, PR, PS, h1, h2, h3⟩ := h
  exact ⟨h1.cu, h1.tu⟩
theorem TX.fld {w : World} {c Q : Nat} {a : Option Addr} {n k N : Nat} {X : World} (h : TX w c Q a n k N X) (j : Nat) (hj : j ≤ 3 ∨ j = 6) : ∃ z0 : Int, X.cell? ⟨Q, j, none⟩ = some (.int .i64 z0) ∧ X.frozen? ⟨Q, j, none⟩ = false ∧ ∀ z : Int, TX w c Q a n k N (X.setCell ⟨Q, j, none⟩ (.int .i64 z)) := by
  obtain ⟨v, t, PR, PS, h1, h2, h3⟩ := h
  obtain rfl | rfl | rfl | rfl | rfl : j = 0 ∨ j = 1 ∨ j = 2 ∨ j = 3 ∨ j = 6 := by omega
  · exact ⟨_, h1.q.c0, h1.q.fz 0, fun z => ⟨_, _, _, _, h1.set0 z, h2, h3⟩⟩
  · exact ⟨_, h1.q.c1, h1.q.fz 1, fun z => ⟨_, _, _, _, h1.set1 z, h2, h3⟩⟩
  · exact ⟨_, h1.q.c2, h1.q.fz 2, fun z => ⟨_, _, _, _, h1.set2 z, h2, h3⟩⟩
  · exact ⟨_, h1.q.c3, h1.q.fz 3, fun z => ⟨_, _, _, _, h1.set3 z, h2, h3⟩⟩
  · exact ⟨_, h1.q.c6, h1.q.fz 6, fun z => ⟨_, _, _, _, h1.set6 z, h2, h3⟩⟩
theorem TX.later {w : World} {c Q : Nat} {a : Option Addr} {n k N : Nat} {X Y : World} (h : TX w c Q a n k N X) (hb : Below X.heap.size X Y) : TX w c Q a n k N Y := by
  obtain ⟨v, t, PR, PS, h1, h2, h3⟩ := h
  exact ⟨v, t, PR, PS, h1.later hb, h2, h3⟩
theorem TX.emptyR {w : World} {c Q : Nat} {a : Option Addr} {n k N : Nat} {X : World} (h : TX w c Q a n k N X) : ∃ (a0 : Option Addr) (m0 c0 : Nat), (X.alloc (.cells #[] 29)).cell? ⟨Q, 4, none⟩ = some (.slice a0 m0 c0) ∧ (X.alloc (.cells #[] 29)).frozen? ⟨Q, 4, none⟩ = false ∧ TX w c Q a n k N ((X.alloc (.cells #[] 29)).setCell ⟨Q, 4, none⟩ (.slice (some ⟨X.heap.size, 0, none⟩) 0 0)) := by
  obtain ⟨v, t, PR, PS, h1, h2, h3⟩ := h
  have bV : Below X.heap.size X (X.alloc (.cells #[] 29)) := (Below.refl _ _).alloc (Nat.le_refl _) _
  refine ⟨_, _, _, (h1.later bV).q.c4, (h1.later bV).q.fz 4, ⟨_, _, _, _, h1.putR (r := none) (xs := []) ⟨bV.os, bV.tape, bV.output, bV.size, fun x hx _ => bV.block x hx⟩ (fun q e => by cases e) (row_low (RowN.made X) (fun q e => by have : X.heap.size = q := Option.some.inj e; have := h1.z.lt; omega)) (fun q e => by have : X.heap.size = q := Option.some.inj e; exact .inr (by omega)), by simp, h3⟩⟩
theorem TX.emptyS {w : World} {c Q : Nat} {a : Option Addr} {n k N : Nat} {X : World} (h : TX w c Q a n k N X) : ∃ (a0 : Option Addr) (m0 c0 : Nat), (X.alloc (.cells #[] 36)).cell? ⟨Q, 5, none⟩ = some (.slice a0 m0 c0) ∧ (X.alloc (.cells #[] 36)).frozen? ⟨Q, 5, none⟩ = false ∧ TX w c Q a n k N ((X.alloc (.cells #[] 36)).setCell ⟨Q, 5, none⟩ (.slice (some ⟨X.heap.size, 0, none⟩) 0 0)) := by
  obtain ⟨v, t, PR, PS, h1, h2, h3⟩ := h
  have bV : Below X.heap.size X (X.alloc (.cells #[] 36)) := (Below.refl _ _).alloc (Nat.le_refl _) _
  refine ⟨_, _, _, (h1.later bV).q.c5, (h1.later bV).q.fz 5, ⟨_, _, _, _, h1.putS (r := none) (xs := []) ⟨bV.os, bV.tape, bV.output, bV.size, fun x hx _ => bV.block x hx⟩ (fun q e => by cases e) (row_low (RowS.made X) (fun q e => by have : X.heap.size = q := Option.some.inj e; have := h1.z.lt; omega)) (fun q e => by have : X.heap.size = q := Option.some.inj e; exact .inr (by omega)), h2, by simp⟩⟩
theorem insN_len' (xs : List N5) (x : N5) : (insN xs x).length ≤ xs.length + 1 := by simp only [insN, List.length_append, List.length_take, List.length_drop, List.length_cons, List.length_nil]; omega
theorem insSe_len' (xs : List S5) (x : S5) : (insSe xs x).length ≤ xs.length + 1 := by simp only [insSe, List.length_append, List.length_take, List.length_drop, List.length_cons, List.length_nil]; omega
theorem addN_len (t : T7) (x : N5) : (addN t x).reads.length ≤ t.reads.length + 1 ∧ (addN t x).sets.length ≤ t.sets.length := by
  unfold addN
  split
  · split
    · exact ⟨by omega, Nat.le_refl _⟩
    · split
      · exact ⟨by simp [noT], by simp [noT]⟩
      · exact ⟨insN_len' _ _, Nat.le_refl _⟩
  · exact ⟨by simp [noT], by simp [noT]⟩
theorem addSe_len (t : T7) (x : S5) : (addSe t x).reads.length ≤ t.reads.length ∧ (addSe t x).sets.length ≤ t.sets.length + 1 := by
  unfold addSe
  split
  · split
    · exact ⟨Nat.le_refl _, by simp only [ovSe_len]; omega⟩
    · split
      · exact ⟨by simp [noT], by simp [noT]⟩
      · exact ⟨Nat.le_refl _, insSe_len' _ _⟩
  · exact ⟨by simp [noT], by simp [noT]⟩
def DrawnX (w : World) (c : Nat) (a : Option Addr) (n k : Nat) (e : Ending) (w' : World) : Prop :=
  ∃ (v : TV) (t : T7), e = .returned (v.val t) ∧ (∀ Y, w'.heap.size ≤ Y.heap.size → (∀ q, w.heap.size < q → q < w'.heap.size → Y.heap[q]? = w'.heap[q]?) → SlT Y v t) ∧ t.reads.length ≤ 100 ∧ t.sets.length ≤ 100 ∧ t.reads.length ≤ v.cr ∧ t.sets.length ≤ v.ch ∧ Cur w' c a n k ∧ Turned c w w'
theorem row_cap {W : World} {base : Nat} {T : TypeId} {sz : Nat} {a : Option Addr} {n m c : Nat} {xs : List Value} (h : W.ownsRow base T sz (.slice a n c) m xs) : m ≤ c := by
  rcases h.2 with ⟨h0, h1⟩ | ⟨q', cap', cur, h0, _, _, hc, _⟩
  · rw [h1]; exact Nat.zero_le _
  · cases h0; exact hc
theorem TI.fin {w : World} {c Q : Nat} {a : Option Addr} {n k : Nat} {v : TV} {t : T7} {PR PS : Nat → Prop} {X : World} (h : TI w c Q a n k v t PR PS X) (h1 : t.reads.length ≤ 100) (h2 : t.sets.length ≤ 100) : DrawnX w c a n k (.returned (v.val t)) (putT X w.heap.size v t) := by
  obtain ⟨l1, l2⟩ := h.lq
  have hs := putT_size X w.heap.size v t
  refine ⟨v, t, rfl, fun Y hY hk => ?_, h1, h2, row_cap h.tr.cr, row_cap h.tr.cs, h.cu.putT (by omega) _ _, h.tu.putT (Nat.le_refl _) _ _⟩
  exact (h.tr.keep (by omega) (fun q hq hp => (hk q (by have := (h.tr.of hp).1; omega) (by omega)).trans (putT_block (by have := (h.tr.of hp).1; omega)))).sl
set_option maxRecDepth 100000 in
set_option maxHeartbeats 8000000 in
theorem l7Copy_anyR (w : World) (v : TV) (t : T7) (hr : t.reads.length ≤ 1048576) (hss : t.sets.length ≤ 1048576) (h : SlT w v t) :
    Calls Try.prog 48 #[v.val t] w (OAnsR w t) := by
  obtain ⟨ar, cr, ah, ch⟩ := v
  simp only [TV.val]
  obtain ⟨W1, hW1⟩ : ∃ W1, W1 = w.alloc (.cells #[.int .i64 t.id, .int .i64 t.home, .int .i64 t.phase, .int .i64 t.count, .slice ar t.reads.length cr, .slice ah t.sets.length ch, .int .i64 t.stamp] 27) := ⟨_, rfl⟩
  have z1 : W1.heap.size = w.heap.size + 1 := by rw [hW1]; simp
  have x1 : BT W1 w.heap.size ⟨ar, cr, ah, ch⟩ t := by rw [hW1]; exact BT.box w ⟨ar, cr, ah, ch⟩ t _
  have b1 : Below w.heap.size w W1 := by rw [hW1]; exact (Below.refl _ _).alloc (Nat.le_refl _) _
  obtain ⟨W, hW⟩ : ∃ W2, W2 = W1.alloc (.cells #[.int .i64 0, .int .i64 0, .int .i64 0, .int .i64 0, .slice none 0 0, .slice none 0 0, .int .i64 0] 27) := ⟨_, rfl⟩
  have b2 : Below W1.heap.size W1 W := by rw [hW]; exact (Below.refl _ _).alloc (Nat.le_refl _) _
  have yR : BT W (w.heap.size + 1) ⟨none, 0, none, 0⟩ ⟨0, 0, 0, 0, [], [], 0⟩ := by rw [hW, ← z1]; exact BT.zero W1 _
  have sW : W.heap.size = w.heap.size + 2 := by rw [hW]; simp [z1]
  have yA : BT W w.heap.size ⟨ar, cr, ah, ch⟩ t := x1.later b2
  have bW : Below w.heap.size w W := b1.trans (b2.mono b1.size)
  have bV1 : Below W.heap.size W (W.alloc (.cells #[] 29)) := (Below.refl _ _).alloc (Nat.le_refl _) _
  obtain ⟨a1, c1, Y1, run1, row1, gr1⟩ := copyNo (RowN.made W) t.reads hr 24 ar cr ((h.later (bW.trans (bV1.mono bW.size))).r) bV1.size
  have bY1 : Below W.heap.size W Y1 := bV1.grown gr1 bV1.size (fun q e => by cases e; exact Nat.le_refl _)
  have yA1 : BT Y1 w.heap.size ⟨ar, cr, ah, ch⟩ t := yA.later bY1
  have yR1 := yR.later bY1
  have yA2 : BT (Y1.setCell ⟨w.heap.size, 4, none⟩ (.slice a1 t.reads.length c1)) w.heap.size ⟨a1, c1, ah, ch⟩ t := yA1.set4 a1 c1 t.reads
  have yR2 := yR1.far (p := ⟨w.heap.size, 4, none⟩) (by dsimp only; omega) (.slice a1 t.reads.length c1)
  have bX1 : Below w.heap.size w (Y1.setCell ⟨w.heap.size, 4, none⟩ (.slice a1 t.reads.length c1)) := (bW.trans (bY1.mono bW.size)).setCell (p := ⟨w.heap.size, 4, none⟩) (Nat.le_refl _) _
  have row1' : RowN (Y1.setCell ⟨w.heap.size, 4, none⟩ (.slice a1 t.reads.length c1)) W.heap.size (.slice a1 t.reads.length c1) t.reads := row1.keep (fun q hq _ _ => Below.heap_setCell _ _ _ _ (by show q ≠ w.heap.size; omega))
  have zX1 : (Y1.setCell ⟨w.heap.size, 4, none⟩ (.slice a1 t.reads.length c1)).heap.size = Y1.heap.size := by simp [World.setCell]
  have bV2 : Below (Y1.setCell ⟨w.heap.size, 4, none⟩ (.slice a1 t.reads.length c1)).heap.size (Y1.setCell ⟨w.heap.size, 4, none⟩ (.slice a1 t.reads.length c1)) ((Y1.setCell ⟨w.heap.size, 4, none⟩ (.slice a1 t.reads.length c1)).alloc (.cells #[] 36)) := (Below.refl _ _).alloc (Nat.le_refl _) _
  obtain ⟨a2, c2, Y2, run2, row2, gr2⟩ := copySe (RowS.made (Y1.setCell ⟨w.heap.size, 4, none⟩ (.slice a1 t.reads.length c1))) t.sets hss 25 ah ch ((h.later (bX1.trans (bV2.mono bX1.size))).s) bV2.size
  have bY2 : Below (Y1.setCell ⟨w.heap.size, 4, none⟩ (.slice a1 t.reads.length c1)).heap.size (Y1.setCell ⟨w.heap.size, 4, none⟩ (.slice a1 t.reads.length c1)) Y2 := bV2.grown gr2 bV2.size (fun q e => by cases e; exact Nat.le_refl _)
  have yA3 : BT Y2 w.heap.size ⟨a1, c1, ah, ch⟩ t := yA2.later bY2
  have yR3 := yR2.later bY2
  have yA4 : BT (Y2.setCell ⟨w.heap.size, 5, none⟩ (.slice a2 t.sets.length c2)) w.heap.size ⟨a1, c1, a2, c2⟩ t := yA3.set5 a2 c2 t.sets
  have yR4 := yR3.far (p := ⟨w.heap.size, 5, none⟩) (by dsimp only; omega) (.slice a2 t.sets.length c2)
  have bX2 : Below w.heap.size w (Y2.setCell ⟨w.heap.size, 5, none⟩ (.slice a2 t.sets.length c2)) := (bX1.trans (bY2.mono bX1.size)).setCell (p := ⟨w.heap.size, 5, none⟩) (Nat.le_refl _) _
  have row1'' : RowN (Y2.setCell ⟨w.heap.size, 5, none⟩ (.slice a2 t.sets.length c2)) W.heap.size (.slice a1 t.reads.length c1) t.reads := (row1'.later bY2).keep (fun q hq _ _ => Below.heap_setCell _ _ _ _ (by show q ≠ w.heap.size; omega))
  have hs1 : W.heap.size ≤ (Y1.setCell ⟨w.heap.size, 4, none⟩ (.slice a1 t.reads.length c1)).heap.size := by rw [zX1]; exact bY1.size
  have row2' : RowS (Y2.setCell ⟨w.heap.size, 5, none⟩ (.slice a2 t.sets.length c2)) (Y1.setCell ⟨w.heap.size, 4, none⟩ (.slice a1 t.reads.length c1)).heap.size (.slice a2 t.sets.length c2) t.sets := row2.keep (fun q hq _ _ => Below.heap_setCell _ _ _ _ (by show q ≠ w.heap.size; omega))
  have yR5 := yR4.put ⟨a1, c1, a2, c2⟩ t
  have p4 := yA.c4
  have k4 := yA1.c4
  have k4f := yA1.fz 4
  have p5 := (yA2.later bV2).c5
  have k5 := yA3.c5
  have k5f := yA3.fz 5
  dsimp only at p4 k4 p5 k5
  obtain ⟨o0, o1, o2, o3, o4, o5, o6, -, -⟩ := yA4
  have KR := yR4
  have hlt1 : ∀ q, (Value.slice a1 t.reads.length c1).ownBlock = some q → W.heap.size ≤ q ∧ q < (Y1.setCell ⟨w.heap.size, 4, none⟩ (.slice a1 t.reads.length c1)).heap.size := fun q e => row1'.lt e
  have KO : TR (Y2.setCell ⟨w.heap.size, 5, none⟩ (.slice a2 t.sets.length c2)) w.heap.size ⟨a1, c1, a2, c2⟩ t (fun q => (Value.slice a1 t.reads.length c1).ownBlock = some q) (fun q => (Value.slice a2 t.sets.length c2).ownBlock = some q) := by
    obtain ⟨_, _, e1, o1⟩ := row1''.form
    obtain ⟨_, _, e2, o2⟩ := row2'.form
    cases e1; cases e2
    exact ⟨⟨o1, o2, fun q h1 h2 => by have := (hlt1 q h1).2; have := (row2'.lt h2).1; omega, fun q h1 => ⟨by have := (row1''.lt h1).1; omega, (row1''.lt h1).2⟩, fun q h1 => ⟨by have := (row2'.lt h1).1; omega, (row2'.lt h1).2⟩⟩, row_low row1'' (fun q e => by have := (row1''.lt e).1; omega), row_low row2' (fun q e => by have := (row2'.lt e).1; omega), fun q e => e, fun q e => e⟩
  have KH : Hid (TR (Y2.setCell ⟨w.heap.size, 5, none⟩ (.slice a2 t.sets.length c2)) w.heap.size ⟨a1, c1, a2, c2⟩ t (fun q => (Value.slice a1 t.reads.length c1).ownBlock = some q) (fun q => (Value.slice a2 t.sets.length c2).ownBlock = some q) ∧ Below w.heap.size w (Y2.setCell ⟨w.heap.size, 5, none⟩ (.slice a2 t.sets.length c2)) ∧ (∀ q, OfT (fun q => (Value.slice a1 t.reads.length c1).ownBlock = some q) (fun q => (Value.slice a2 t.sets.length c2).ownBlock = some q) q → w.heap.size + 2 ≤ q)) := ⟨KO, bX2, fun q hq => by
    rcases hq with hq | hq
    · have := (row1''.lt hq).1; omega
    · have := (row2'.lt hq).1; omega⟩
  simp only [putT] at yR5
  obtain ⟨u0, u1, u2, u3, u4, u5, u6, -, -⟩ := yR5
  have KX : Hid (((Y2.setCell ⟨w.heap.size, 5, none⟩ (.slice a2 t.sets.length c2)).cell? ⟨w.heap.size, 0, none⟩ = some (.int .i64 t.id) ∧ (Y2.setCell ⟨w.heap.size, 5, none⟩ (.slice a2 t.sets.length c2)).cell? ⟨w.heap.size, 1, none⟩ = some (.int .i64 t.home) ∧ (Y2.setCell ⟨w.heap.size, 5, none⟩ (.slice a2 t.sets.length c2)).cell? ⟨w.heap.size, 2, none⟩ = some (.int .i64 t.phase) ∧ (Y2.setCell ⟨w.heap.size, 5, none⟩ (.slice a2 t.sets.length c2)).cell? ⟨w.heap.size, 3, none⟩ = some (.int .i64 t.count) ∧ (Y2.setCell ⟨w.heap.size, 5, none⟩ (.slice a2 t.sets.length c2)).cell? ⟨w.heap.size, 4, none⟩ = some (.slice a1 t.reads.length c1) ∧ (Y2.setCell ⟨w.heap.size, 5, none⟩ (.slice a2 t.sets.length c2)).cell? ⟨w.heap.size, 5, none⟩ = some (.slice a2 t.sets.length c2) ∧ (Y2.setCell ⟨w.heap.size, 5, none⟩ (.slice a2 t.sets.length c2)).cell? ⟨w.heap.size, 6, none⟩ = some (.int .i64 t.stamp)) ∧ BT (Y2.setCell ⟨w.heap.size, 5, none⟩ (.slice a2 t.sets.length c2)) (w.heap.size + 1) ⟨none, 0, none, 0⟩ ⟨0, 0, 0, 0, [], [], 0⟩) := ⟨⟨o0, o1, o2, o3, o4, o5, o6⟩, KR⟩
  have KU := hidOf (And.intro u0 (And.intro u1 (And.intro u2 (And.intro u3 (And.intro u4 (And.intro u5 u6))))))
  have K1 := hidOf (And.intro k4 (And.intro k4f p5))
  have K2 := hidOf (And.intro k5 k5f)
  have R1 := hidOf run1
  have R2 := hidOf run2
  rw [hW1] at hW
  have sW2 : W.heap.size = w.heap.size + 1 + 1 := by omega
  clear sW
  clear hW1 x1 b1 b2 z1 yA yR bW bV1 bY1 row1 gr1 yA1 yR1 yA2 yR2 bX1 row1' bV2 row2 gr2 bY2 yA3 yR3 bX2 row1'' row2' hs1 hlt1 h KO KR o0 o1 o2 o3 o4 o5 o6 u0 u1 u2 u3 u4 u5 u6 k4 k4f p5 k5 k5f run1 run2
  go_enter Try.func48, Try.ntmps48
  have r1 := R1.out
  have r2 := R2.out
  rw [sW2] at r1
  rw [zX1] at r2
  rw [hW] at r1
  obtain ⟨k4, k4f, p5⟩ := K1.out
  obtain ⟨k5, k5f⟩ := K2.out
  obtain ⟨⟨o0, o1, o2, o3, o4, o5, o6⟩, ⟨r0, r1', r2', r3, r4, r5, r6, fr, -⟩⟩ := KX.out
  have f0 := fr 0
  have f1 := fr 1
  have f2 := fr 2
  have f3 := fr 3
  have f4 := fr 4
  have f5 := fr 5
  have f6 := fr 6
  clear fr K1 K2 KX R1 R2 hW p4 zX1 sW2
  go_wp2_with (first | (at_builtin; refine append_known _ rfl (.tmp 3) (.tmp 5) 24 rfl _ _ _ _ rfl rfl r1 ?_) | (at_builtin; refine append_known _ rfl (.tmp 8) (.tmp 10) 25 rfl _ _ _ _ rfl rfl r2 ?_))
  obtain ⟨u0, u1, u2, u3, u4, u5, u6⟩ := KU.out
  refine bodyPost_ret (v := .agg #[.int .i64 t.id, .int .i64 t.home, .int .i64 t.phase, .int .i64 t.count, .slice a1 t.reads.length c1, .slice a2 t.sets.length c2, .int .i64 t.stamp]) (by simp [results, Try.results48, go_sem, u0, u1, u2, u3, u4, u5, u6]) rfl ?_
  obtain ⟨ot, bX, q2⟩ := KH.out
  refine ⟨a1, c1, a2, c2, fun q => (Value.slice a1 t.reads.length c1).ownBlock = some q, fun q => (Value.slice a2 t.sets.length c2).ownBlock = some q, rfl, ?_, ?_⟩
  · exact ot.keep (by simp [World.setCell]) (fun q _ hq => putT_block (s := w.heap.size + 1) (v := ⟨a1, c1, a2, c2⟩) (t := t) (by have := q2 q hq; omega))
  · exact putT_below (s := w.heap.size + 1) (v := ⟨a1, c1, a2, c2⟩) (t := t) bX (by omega)
end Go.Proofs.Ytiidlcjjaglkdaa
namespace Go.Proofs.Ytiidlcjjaglkdaa
open Go.RowKit
open Go.Sort (grow)
set_option maxRecDepth 100000 in
set_option maxHeartbeats 8000000 in
theorem specAddRead_anyR (w : World) (v : TV) (t : T7) (n : N5) (hl : TL t) (hs : SlT w v t) (hc : t.reads.length ≤ v.cr) :
    Calls Try.prog 11 #[v.val t, .agg #[.int .i64 n.region, .int .i64 n.slot, .int .i64 n.version, .int .i64 n.value, .bool n.used]] w (TAnsR w (addN t n) (addNB t n)) := by
  obtain ⟨ar, cr, ah, ch⟩ := v
  simp only [TV.val]
  dsimp only at hc
  obtain ⟨W0, hW0⟩ : ∃ W, W = w.alloc (.cells #[.int .i64 t.id, .int .i64 t.home, .int .i64 t.phase, .int .i64 t.count, .slice ar t.reads.length cr, .slice ah t.sets.length ch, .int .i64 t.stamp] 27) := ⟨_, rfl⟩
  have z0 : W0.heap.size = w.heap.size + 1 := by rw [hW0]; simp
  have x0 : BT W0 w.heap.size ⟨ar, cr, ah, ch⟩ t := by rw [hW0]; exact BT.box w ⟨ar, cr, ah, ch⟩ t _
  have b0 : Below w.heap.size w W0 := by rw [hW0]; exact (Below.refl _ _).alloc (Nat.le_refl _) _
  obtain ⟨W1, hW1⟩ : ∃ W, W = W0.alloc (.cells #[.int .i64 n.region, .int .i64 n.slot, .int .i64 n.version, .int .i64 n.value, .bool n.used] 29) := ⟨_, rfl⟩
  have z1 : W1.heap.size = w.heap.size + 2 := by rw [hW1]; simp [z0]
  have x1 : NoteAt W1 (w.heap.size + 1) 0 n := by rw [hW1, ← z0]; exact NoteAt.box W0 _ _
  have b1 : Below W0.heap.size W0 W1 := by rw [hW1]; exact (Below.refl _ _).alloc (Nat.le_refl _) _
  obtain ⟨W, hW⟩ : ∃ W, W = W1.alloc (.cells #[.int .i64 0, .int .i64 0, .int .i64 0, .int .i64 0, .slice none 0 0, .slice none 0 0, .int .i64 0] 27) := ⟨_, rfl⟩
  have zW : W.heap.size = w.heap.size + 3 := by rw [hW]; simp [z1]
  have x2 : BT W (w.heap.size + 2) ⟨none, 0, none, 0⟩ ⟨0, 0, 0, 0, [], [], 0⟩ := by rw [hW, ← z1]; exact BT.zero W1 _
  have b2 : Below W1.heap.size W1 W := by rw [hW]; exact (Below.refl _ _).alloc (Nat.le_refl _) _
  have bW : Below w.heap.size w W := (b0.trans (b1.mono b0.size)).trans (b2.mono (by omega))
  have c1 := specTxOk_any W ⟨ar, cr, ah, ch⟩ t hl (hs.later bW)
  simp only [TV.val] at c1
  have H : Hid (BT W w.heap.size ⟨ar, cr, ah, ch⟩ t ∧ NoteAt W (w.heap.size + 1) 0 n ∧ BT W (w.heap.size + 2) ⟨none, 0, none, 0⟩ ⟨0, 0, 0, 0, [], [], 0⟩ ∧ Below w.heap.size w W ∧ SlT W ⟨ar, cr, ah, ch⟩ t ∧ W.heap.size = w.heap.size + 3) := ⟨(x0.later b1).later b2, x1.below b2 (by omega), x2, bW, hs.later bW, zW⟩
  rw [hW1, hW0] at hW
  clear hW0 hW1 z0 x0 b0 z1 x1 b1 zW x2 b2 bW hs hl
  cases hB : txB t with
  | false =>
    rw [hB] at c1
    have HN : Hid (addN t n = noT ∧ addNB t n = false) := ⟨by simp [addN, hB], by simp [addNB, hB]⟩
    go_enter Try.func11, Try.ntmps11
    go_wp2_with fail
    rw [← hW]
    clear hW
    refine c1.mono ?_
    clear c1
    rintro e w1 ⟨rfl, b1⟩
    have KZ : Hid (BT w1 (w.heap.size + 2) ⟨none, 0, none, 0⟩ ⟨0, 0, 0, 0, [], [], 0⟩ ∧ Below w.heap.size w w1) := ⟨H.out.2.2.1.later b1, H.out.2.2.2.1.trans (b1.mono H.out.2.2.2.1.size)⟩
    clear b1 H
    obtain ⟨r0, r1, r2, r3, r4, r5, r6, fr, -⟩ := KZ.out.1
    have yR5 := KZ.out.1.put ⟨none, 0, none, 0⟩ noT
    simp only [putT, noT, List.length_nil] at yR5
    obtain ⟨u0, u1, u2, u3, u4, u5, u6, -, -⟩ := yR5
    have KU := hidOf (And.intro u0 (And.intro u1 (And.intro u2 (And.intro u3 (And.intro u4 (And.intro u5 u6))))))
    clear u0 u1 u2 u3 u4 u5 u6
    have f0 := fr 0
    have f1 := fr 1
    have f2 := fr 2
    have f3 := fr 3
    have f4 := fr 4
    have f5 := fr 5
    have f6 := fr 6
    clear fr
    simp only [List.length_nil] at r4 r5
    go_wp2
    obtain ⟨u0, u1, u2, u3, u4, u5, u6⟩ := KU.out
    refine bodyPost_ret (v := .tuple #[.agg #[.int .i64 0, .int .i64 0, .int .i64 0, .int .i64 0, .slice none 0 0, .slice none 0 0, .int .i64 0], .bool false]) (by simp [results, Try.results11, go_sem, u0, u1, u2, u3, u4, u5, u6]) rfl ?_
    rw [HN.out.1, HN.out.2]
    exact TAnsR.zero (putT_below (s := w.heap.size + 2) (v := ⟨none, 0, none, 0⟩) (t := noT) KZ.out.2 (by omega))
  | true =>
    rw [hB] at c1
    go_enter Try.func11, Try.ntmps11
    go_wp2_with fail
    rw [← hW]
    clear hW
    refine c1.mono ?_
    clear c1
    rintro e w1 ⟨rfl, b1⟩
    obtain ⟨n0, n1, n2, n3, n4⟩ := H.out.2.1.below b1 (by have := H.out.2.2.2.2.2; omega)
    simp only [Nat.zero_add] at n1 n2 n3 n4
    have c2 := specNote w1 n
    have H1 : Hid (BT w1 w.heap.size ⟨ar, cr, ah, ch⟩ t ∧ NoteAt w1 (w.heap.size + 1) 0 n ∧ BT w1 (w.heap.size + 2) ⟨none, 0, none, 0⟩ ⟨0, 0, 0, 0, [], [], 0⟩ ∧ Below w.heap.size w w1 ∧ SlT w1 ⟨ar, cr, ah, ch⟩ t ∧ w.heap.size + 3 ≤ w1.heap.size) := ⟨H.out.1.later b1, H.out.2.1.below b1 (by have := H.out.2.2.2.2.2; omega), H.out.2.2.1.later b1, H.out.2.2.2.1.trans (b1.mono H.out.2.2.2.1.size), H.out.2.2.2.2.1.later b1, by have := H.out.2.2.2.2.2; have := b1.size; omega⟩
    clear b1 H
    go_wp2_with fail
    refine c2.mono ?_
    clear c2 n0 n1 n2 n3 n4
    rintro e w2 ⟨rfl, b2⟩
    have H2 : Hid (BT w2 w.heap.size ⟨ar, cr, ah, ch⟩ t ∧ NoteAt w2 (w.heap.size + 1) 0 n ∧ BT w2 (w.heap.size + 2) ⟨none, 0, none, 0⟩ ⟨0, 0, 0, 0, [], [], 0⟩ ∧ Below w.heap.size w w2 ∧ SlT w2 ⟨ar, cr, ah, ch⟩ t ∧ w.heap.size + 3 ≤ w2.heap.size) := ⟨H1.out.1.later b2, H1.out.2.1.below b2 (by have := H1.out.2.2.2.2.2; omega), H1.out.2.2.1.later b2, H1.out.2.2.2.1.trans (b2.mono H1.out.2.2.2.1.size), H1.out.2.2.2.2.1.later b2, by have := H1.out.2.2.2.2.2; have := b2.size; omega⟩
    clear b2 H1
    cases hO : noteOkB n with
    | false =>
      have HN : Hid (addN t n = noT ∧ addNB t n = false) := ⟨by simp [addN, hO], by simp [addNB, hO]⟩
      have KZ : Hid (BT w2 (w.heap.size + 2) ⟨none, 0, none, 0⟩ ⟨0, 0, 0, 0, [], [], 0⟩ ∧ Below w.heap.size w w2) := ⟨H2.out.2.2.1, H2.out.2.2.2.1⟩
      clear H2
      obtain ⟨r0, r1, r2, r3, r4, r5, r6, fr, -⟩ := KZ.out.1
      have yR5 := KZ.out.1.put ⟨none, 0, none, 0⟩ noT
      simp only [putT, noT, List.length_nil] at yR5
      obtain ⟨u0, u1, u2, u3, u4, u5, u6, -, -⟩ := yR5
      have KU := hidOf (And.intro u0 (And.intro u1 (And.intro u2 (And.intro u3 (And.intro u4 (And.intro u5 u6))))))
      clear u0 u1 u2 u3 u4 u5 u6
      have f0 := fr 0
      have f1 := fr 1
      have f2 := fr 2
      have f3 := fr 3
      have f4 := fr 4
      have f5 := fr 5
      have f6 := fr 6
      clear fr
      simp only [List.length_nil] at r4 r5
      go_wp2
      obtain ⟨u0, u1, u2, u3, u4, u5, u6⟩ := KU.out
      refine bodyPost_ret (v := .tuple #[.agg #[.int .i64 0, .int .i64 0, .int .i64 0, .int .i64 0, .slice none 0 0, .slice none 0 0, .int .i64 0], .bool false]) (by simp [results, Try.results11, go_sem, u0, u1, u2, u3, u4, u5, u6]) rfl ?_
      rw [HN.out.1, HN.out.2]
      exact TAnsR.zero (putT_below (s := w.heap.size + 2) (v := ⟨none, 0, none, 0⟩) (t := noT) KZ.out.2 (by omega))
    | true =>
      have l12 := (txB_lens hB).1
      have l12' := (txB_lens hB).2
      have c3 := l7Copy_anyR w2 ⟨ar, cr, ah, ch⟩ t (by omega) (by omega) H2.out.2.2.2.2.1
      simp only [TV.val] at c3
      obtain ⟨p0, p1, p2, p3, p4, p5, p6, -, -⟩ := H2.out.1
      dsimp only at p4 p5
      go_wp2_with fail
      refine c3.mono ?_
      clear c3 p0 p1 p2 p3 p4 p5 p6
      rintro e w3 ⟨a4, c4, h4, d4, PR, PS, rfl, o3, b3⟩
      simp only [TV.val]
      obtain ⟨X3, hX3⟩ : ∃ X, X = w3.alloc (.cells #[.int .i64 t.id, .int .i64 t.home, .int .i64 t.phase, .int .i64 t.count, .slice a4 t.reads.length c4, .slice h4 t.sets.length d4, .int .i64 t.stamp] 27) := ⟨_, rfl⟩
      have b3' : Below w3.heap.size w3 X3 := by rw [hX3]; exact (Below.refl _ _).alloc (Nat.le_refl _) _
      have b23 : Below w2.heap.size w2 X3 := b3.trans (b3'.mono b3.size)
      have x3 : BT X3 w3.heap.size ⟨a4, c4, h4, d4⟩ t := by rw [hX3]; exact BT.box w3 ⟨a4, c4, h4, d4⟩ t _
      have H3 : Hid (BT X3 w.heap.size ⟨ar, cr, ah, ch⟩ t ∧ NoteAt X3 (w.heap.size + 1) 0 n ∧ BT X3 (w.heap.size + 2) ⟨none, 0, none, 0⟩ ⟨0, 0, 0, 0, [], [], 0⟩ ∧ Below w.heap.size w X3 ∧ SlT X3 ⟨ar, cr, ah, ch⟩ t ∧ w.heap.size + 3 ≤ w3.heap.size ∧ BT X3 w3.heap.size ⟨a4, c4, h4, d4⟩ t ∧ TR X3 w2.heap.size ⟨a4, c4, h4, d4⟩ t PR PS ∧ (∀ q, OfT PR PS q → w.heap.size + 3 ≤ q ∧ q < w3.heap.size)) := ⟨H2.out.1.later b23, H2.out.2.1.below b23 (by have := H2.out.2.2.2.2.2; omega), H2.out.2.2.1.later b23, H2.out.2.2.2.1.trans (b23.mono H2.out.2.2.2.1.size), H2.out.2.2.2.2.1.later b23, by have := H2.out.2.2.2.2.2; have := b3.size; omega, x3, o3.later b3', fun q hq => ⟨by have := (o3.of hq).1; have := H2.out.2.2.2.2.2; omega, (o3.of hq).2⟩⟩
      clear b3 b3' b23 x3 o3 H2
      obtain ⟨p0, p1, p2, p3, p4, p5, p6, -, -⟩ := H3.out.1
      dsimp only at p4 p5
      obtain ⟨n0, n1, -, -, -⟩ := H3.out.2.1
      simp only [Nat.zero_add] at n1
      have c4' := l7Read_any X3 ⟨ar, cr, ah, ch⟩ t n.region n.slot (by omega) H3.out.2.2.2.2.1
      simp only [TV.val] at c4'
      have dA := readAt_ge t.reads n.region n.slot
      generalize readAt t.reads n.region n.slot = A at *
      rw [hX3] at p0 p1 p2 p3 p4 p5 p6 n0 n1
      go_wp2_with fail
      rw [← hX3]
      clear hX3 p0 p1 p2 p3 p4 p5 p6 n0 n1
      refine c4'.mono ?_
      clear c4'
      rintro e w4 ⟨rfl, b4⟩
      have H4 : Hid (BT w4 w.heap.size ⟨ar, cr, ah, ch⟩ t ∧ NoteAt w4 (w.heap.size + 1) 0 n ∧ BT w4 (w.heap.size + 2) ⟨none, 0, none, 0⟩ ⟨0, 0, 0, 0, [], [], 0⟩ ∧ Below w.heap.size w w4 ∧ SlT w4 ⟨ar, cr, ah, ch⟩ t ∧ w.heap.size + 3 ≤ w3.heap.size ∧ BT w4 w3.heap.size ⟨a4, c4, h4, d4⟩ t ∧ TR w4 w2.heap.size ⟨a4, c4, h4, d4⟩ t PR PS ∧ (∀ q, OfT PR PS q → w.heap.size + 3 ≤ q ∧ q < w3.heap.size) ∧ w3.heap.size < w4.heap.size) := ⟨H3.out.1.later b4, H3.out.2.1.below b4 (by have := H3.out.2.2.2.2.2.1; have := H3.out.2.2.2.2.2.2.1.lt; omega), H3.out.2.2.1.later b4, H3.out.2.2.2.1.trans (b4.mono H3.out.2.2.2.1.size), H3.out.2.2.2.2.1.later b4, H3.out.2.2.2.2.2.1, H3.out.2.2.2.2.2.2.1.later b4, H3.out.2.2.2.2.2.2.2.1.later b4, H3.out.2.2.2.2.2.2.2.2, (H3.out.2.2.2.2.2.2.1.later b4).lt⟩
      clear b4 H3
      cases hF : (noW t.reads n.region n.slot).isSome with
      | true =>
        rw [hF] at dA
        have HN : Hid (addN t n = t ∧ addNB t n = true) := ⟨by simp [addN, hB, hO, hF], by simp [addNB, hB, hO, hF]⟩
        obtain ⟨o0, o1, o2, o3, o4, o5, o6, -, -⟩ := H4.out.2.2.2.2.2.2.1
        obtain ⟨r0, r1, r2, r3, r4, r5, r6, fr, -⟩ := H4.out.2.2.1
        have yR5 := H4.out.2.2.1.put ⟨a4, c4, h4, d4⟩ t
        simp only [putT] at yR5
        obtain ⟨u0, u1, u2, u3, u4, u5, u6, -, -⟩ := yR5
        have KU := hidOf (And.intro u0 (And.intro u1 (And.intro u2 (And.intro u3 (And.intro u4 (And.intro u5 u6))))))
        clear u0 u1 u2 u3 u4 u5 u6
        have f0 := fr 0
        have f1 := fr 1
        have f2 := fr 2
        have f3 := fr 3
        have f4 := fr 4
        have f5 := fr 5
        have f6 := fr 6
        clear fr
        dsimp only at o4 o5 r4 r5
        go_wp2
        obtain ⟨u0, u1, u2, u3, u4, u5, u6⟩ := KU.out
        refine bodyPost_ret (v := .tuple #[.agg #[.int .i64 t.id, .int .i64 t.home, .int .i64 t.phase, .int .i64 t.count, .slice a4 t.reads.length c4, .slice h4 t.sets.length d4, .int .i64 t.stamp], .bool true]) (by simp [results, Try.results11, go_sem, u0, u1, u2, u3, u4, u5, u6]) rfl ?_
        rw [HN.out.1, HN.out.2]
        obtain ⟨-, -, -, g4, -, g6, -, g8, g9, -⟩ := H4.out
        refine ⟨a4, c4, h4, d4, PR, PS, rfl, ?_, putT_below (s := w.heap.size + 2) (v := ⟨a4, c4, h4, d4⟩) (t := t) g4 (by omega)⟩
        exact (g8.keep (w' := putT w4 (w.heap.size + 2) ⟨a4, c4, h4, d4⟩ t) (by rw [putT_size]; exact Nat.le_refl _) (fun q _ hq => putT_block (by have := (g9 q hq).1; omega))).low (fun q hq => by have := (g9 q hq).1; omega)
      | false =>
        rw [hF] at dA
        have p4 := H4.out.1.c4
        dsimp only at p4
        by_cases h12 : t.reads.length = 12
        · have d12 : ((t.reads.length : Int) == 12) = true := by simp; omega
          have HN : Hid (addN t n = noT ∧ addNB t n = false) := ⟨by simp [addN, hB, hO, hF, h12], by simp [addNB, hB, hO, hF, h12]⟩
          have KZ : Hid (BT w4 (w.heap.size + 2) ⟨none, 0, none, 0⟩ ⟨0, 0, 0, 0, [], [], 0⟩ ∧ Below w.heap.size w w4) := ⟨H4.out.2.2.1, H4.out.2.2.2.1⟩
          clear H4
          obtain ⟨r0, r1, r2, r3, r4, r5, r6, fr, -⟩ := KZ.out.1
          have yR5 := KZ.out.1.put ⟨none, 0, none, 0⟩ noT
          simp only [putT, noT, List.length_nil] at yR5
          obtain ⟨u0, u1, u2, u3, u4, u5, u6, -, -⟩ := yR5
          have KU := hidOf (And.intro u0 (And.intro u1 (And.intro u2 (And.intro u3 (And.intro u4 (And.intro u5 u6))))))
          clear u0 u1 u2 u3 u4 u5 u6
          have f0 := fr 0
          have f1 := fr 1
          have f2 := fr 2
          have f3 := fr 3
          have f4 := fr 4
          have f5 := fr 5
          have f6 := fr 6
          clear fr
          simp only [List.length_nil] at r4 r5
          go_wp2
          obtain ⟨u0, u1, u2, u3, u4, u5, u6⟩ := KU.out
          refine bodyPost_ret (v := .tuple #[.agg #[.int .i64 0, .int .i64 0, .int .i64 0, .int .i64 0, .slice none 0 0, .slice none 0 0, .int .i64 0], .bool false]) (by simp [results, Try.results11, go_sem, u0, u1, u2, u3, u4, u5, u6]) rfl ?_
          rw [HN.out.1, HN.out.2]
          exact TAnsR.zero (putT_below (s := w.heap.size + 2) (v := ⟨none, 0, none, 0⟩) (t := noT) KZ.out.2 (by omega))
        · have d12 : ((t.reads.length : Int) == 12) = false := by simp; omega
          have HN : Hid (addN t n = ⟨t.id, t.home, t.phase, t.count, insN t.reads n, t.sets, t.stamp⟩ ∧ addNB t n = true) := ⟨by simp [addN, hB, hO, hF, h12], by simp [addNB, hB, hO, h12]⟩
          obtain ⟨V, hV⟩ : ∃ V, V = w4.alloc (.cells #[] 29) := ⟨_, rfl⟩
          have bV : Below w4.heap.size w4 V := by rw [hV]; exact (Below.refl _ _).alloc (Nat.le_refl _) _
          have rV : RowN V w4.heap.size (.slice (some ⟨w4.heap.size, 0, none⟩) 0 0) [] := by rw [hV]; exact RowN.made w4
          have K4 : Hid (RowN V w4.heap.size (.slice (some ⟨w4.heap.size, 0, none⟩) 0 0) [] ∧ Below w4.heap.size w4 V) := ⟨rV, bV⟩
          clear rV bV
          go_wp2
          rw [← hV]
          clear hV p4 d12 dA
          go_loopw [7, 8] (fun v7 v8 wr => ∃ k : Nat, k ≤ t.reads.length ∧ v8 = .int .i64 k ∧ RowN wr w4.heap.size v7 (t.reads.take k) ∧ Below w4.heap.size w4 wr ∧ (∀ j, j < k → lessAt t.reads n j = true)) (fun _ v8 _ => t.reads.length - (intOf v8).toNat)
          case atStart => exact ⟨0, Nat.zero_le _, rfl, by simpa using K4.out.1, K4.out.2, fun j h => by omega⟩
          case round =>
            obtain ⟨k, hk, rfl, hrow, hbl, hall⟩ := hrel
            obtain ⟨a7, c7, e7, -⟩ := hrow.form
            rw [show (t.reads.take k).length = k by rw [List.length_take]; omega] at e7
            subst e7
            have KA : Hid (RowN wr w4.heap.size (.slice a7 k c7) (t.reads.take k) ∧ Below w4.heap.size w4 wr ∧ (∀ j, j < k → lessAt t.reads n j = true)) := ⟨hrow, hbl, hall⟩
            have hbt := H4.out.1.later hbl
            have hlt0 := hbt.lt
            have p4 := hbt.c4
            dsimp only at p4
            have hsl := (H4.out.2.2.2.2.1.later hbl).r
            have hno := H4.out.2.1.below hbl (by have := H4.out.2.2.2.2.2.1; have := H4.out.2.2.2.2.2.2.2.2.2; omega)
            have hnl : w.heap.size + 1 < wr.heap.size := by have := H4.out.2.2.2.2.2.1; have := H4.out.2.2.2.2.2.2.2.2.2; have := hbl.size; omega
            clear hrow hbl hall hbt
            by_cases hlt : k < t.reads.length
            · obtain ⟨_, hsk⟩ := hsl
              dsimp only at hsk
              rcases hsk with hsk | ⟨b, off, rfl, hb, hx⟩
              · omega
              obtain ⟨c0, c1, c2, c3, c4'⟩ := hx k _ (atNo_of hlt)
              obtain ⟨n0, n1, -, -, -⟩ := hno
              simp only [Nat.zero_add] at n1
              have hk5 : (k : Int) < (t.reads.length : Int) := by omega
              have hkd : decide ((k : Int) < (t.reads.length : Int)) = true := by simpa using hk5
              have q4 : ∀ d os, (grow (redrawn wr d) os).cell? ⟨w.heap.size, 4, none⟩ = some (.slice (some ⟨b, off, none⟩) t.reads.length cr) := fun d os => ((below_regrown wr d os).cell (p := ⟨w.heap.size, 4, none⟩) hlt0).trans p4
              have m0 : ∀ d os, (grow (redrawn wr d) os).cell? ⟨b, off + k * 5, none⟩ = some (.int .i64 (atNo t.reads k).region) := fun d os => ((below_regrown wr d os).cell (p := ⟨b, off + k * 5, none⟩) hb).trans c0
              have m1 : ∀ d os, (grow (redrawn wr d) os).cell? ⟨b, off + k * 5 + 1, none⟩ = some (.int .i64 (atNo t.reads k).slot) := fun d os => ((below_regrown wr d os).cell (p := ⟨b, off + k * 5 + 1, none⟩) hb).trans c1
              have m2 : ∀ d os, (grow (redrawn wr d) os).cell? ⟨b, off + k * 5 + 2, none⟩ = some (.int .i64 (atNo t.reads k).version) := fun d os => ((below_regrown wr d os).cell (p := ⟨b, off + k * 5 + 2, none⟩) hb).trans c2
              have m3 : ∀ d os, (grow (redrawn wr d) os).cell? ⟨b, off + k * 5 + 3, none⟩ = some (.int .i64 (atNo t.reads k).value) := fun d os => ((below_regrown wr d os).cell (p := ⟨b, off + k * 5 + 3, none⟩) hb).trans c3
              have m4 : ∀ d os, (grow (redrawn wr d) os).cell? ⟨b, off + k * 5 + 4, none⟩ = some (.bool (atNo t.reads k).used) := fun d os => ((below_regrown wr d os).cell (p := ⟨b, off + k * 5 + 4, none⟩) hb).trans c4'
              have g0 : ∀ d os, (grow (redrawn wr d) os).cell? ⟨w.heap.size + 1, 0, none⟩ = some (.int .i64 n.region) := fun d os => ((below_regrown wr d os).cell (p := ⟨w.heap.size + 1, 0, none⟩) hnl).trans n0
              have g1 : ∀ d os, (grow (redrawn wr d) os).cell? ⟨w.heap.size + 1, 1, none⟩ = some (.int .i64 n.slot) := fun d os => ((below_regrown wr d os).cell (p := ⟨w.heap.size + 1, 1, none⟩) hnl).trans n1
              have cL : ∀ d os, Calls Try.prog 50 #[.int .i64 (atNo t.reads k).region, .int .i64 (atNo t.reads k).slot, .int .i64 n.region, .int .i64 n.slot] (grow (redrawn wr d) os) fun e w'' => e = .returned (.bool (lessAt t.reads n k)) ∧ ∃ p : Regrown, w'' = grow (redrawn wr p.d) p.os := fun d os => Calls.regrown_of (specLess _ _ _ _ _)
              clear c0 c1 c2 c3 c4' hx n0 n1 p4
              cases gl : lessAt t.reads n k with
              | true =>
                rw [gl] at cL
                go_wp2_with fail
                refine wp_region_quiet_below (by kernel_rfl) (by kernel_rfl) ?_
                repeat (go_big_quiet_step (exact cL _ _))
                refine wpQuiet_nil ?_
                intro _ hw'
                obtain ⟨⟨dq, osq⟩, hw''⟩ := hw'
                subst hw''
                have bq := below_regrown wr dq osq
                have e4 := q4 dq osq
                have e0 := m0 dq osq
                have e1 := m1 dq osq
                have e2 := m2 dq osq
                have e3 := m3 dq osq
                have e5 := m4 dq osq
                clear q4 m0 m1 m2 m3 m4 g0 g1 cL
                generalize grow (redrawn wr dq) osq = U at *
                obtain ⟨V', hV⟩ : ∃ V, V = U.alloc (.cells #[.int .i64 (atNo t.reads k).region, .int .i64 (atNo t.reads k).slot, .int .i64 (atNo t.reads k).version, .int .i64 (atNo t.reads k).value, .bool (atNo t.reads k).used] 29) := ⟨_, rfl⟩
                have bU : Below U.heap.size U V' := by rw [hV]; exact (Below.refl _ _).alloc (Nat.le_refl _) _
                have bV : Below wr.heap.size wr V' := bq.trans (bU.mono bq.size)
                have hone : NotesAt V' U.heap.size 0 [atNo t.reads k] := by rw [hV]; exact (NoteAt.box U _ _).one
                obtain ⟨v', Y, hr', hrow', hgr, -⟩ := pushNo (KA.out.1.later bV) [atNo t.reads k] (by rw [List.length_take]; simp; omega) 24 U.heap.size 0 1 hone (Nat.le_trans KA.out.2.1.size bV.size)
                have KE : Hid (RowN Y w4.heap.size v' (t.reads.take (k + 1)) ∧ Below w4.heap.size w4 Y ∧ (∀ j, j < k + 1 → lessAt t.reads n j = true)) := by
                  refine ⟨by rw [List.take_add_one, atNo_of hlt]; exact hrow', ?_, fun j hj => ?_⟩
                  · exact (KA.out.2.1.trans (bV.mono KA.out.2.1.size)).grown hgr (Nat.le_trans KA.out.2.1.size bV.size) (fun q e => (KA.out.1.lt e).1)
                  · by_cases ej : j = k
                    · rw [ej]; exact gl
                    · exact KA.out.2.2 j (by omega)
                rw [hV] at hr'
                clear hV bV bU bq hone hrow' hgr
                simp only [List.length_cons, List.length_nil, Nat.zero_add] at hr'
                go_wp2_with (at_builtin; refine append_known _ rfl (.tmp 60) (.tmp 66) 24 rfl _ _ _ _ rfl rfl hr' ?_)
                exact ⟨⟨k + 1, by omega, by simp, KE.out.1, KE.out.2.1, KE.out.2.2⟩, by simp [intOf]; omega⟩
              | false =>
                rw [gl] at cL
                go_wp2_with fail
                refine wp_region_quiet_below (by kernel_rfl) (by kernel_rfl) ?_
                repeat (go_big_quiet_step (exact cL _ _))
                refine wpQuiet_nil ?_
                intro _ hw'
                obtain ⟨⟨dq, osq⟩, hw''⟩ := hw'
                subst hw''
                have bq := below_regrown wr dq osq
                have KT : Hid (RowN (grow (redrawn wr dq) osq) w4.heap.size (.slice a7 k c7) (t.reads.take k) ∧ Below w4.heap.size w4 (grow (redrawn wr dq) osq)) := ⟨KA.out.1.later bq, KA.out.2.1.trans (bq.mono KA.out.2.1.size)⟩
                have HC : Hid (cutN t.reads n = k) := cutN_at hlt gl KA.out.2.2
                clear bq q4 m0 m1 m2 m3 m4 g0 g1 cL KA
                generalize grow (redrawn wr dq) osq = U at *
                have KD : Hid (Below U.heap.size U U.drew) := (Below.refl _ _).drew
                have bD : Below w4.heap.size w4 U.drew := KT.out.2.trans (KD.out.mono KT.out.2.size)
                have SF : Hid (∀ X, Below w4.heap.size w4 X → (fun X : World => NoteAt X (w.heap.size + 1) 0 n ∧ X.cell? ⟨w.heap.size, 4, none⟩ = some (.slice (some ⟨b, off, none⟩) t.reads.length cr)) X) := fun X hX => ⟨H4.out.2.1.below hX (by have := H4.out.2.2.2.2.2.1; have := H4.out.2.2.2.2.2.2.2.2.2; omega), (H4.out.1.later hX).c4⟩
                have hS : (fun X : World => NoteAt X (w.heap.size + 1) 0 n ∧ X.cell? ⟨w.heap.size, 4, none⟩ = some (.slice (some ⟨b, off, none⟩) t.reads.length cr)) U.drew := SF.out _ bD
                have rD : RowN U.drew w4.heap.size (.slice a7 k c7) (t.reads.take k) := KT.out.1.later KD.out
                clear KD
                go_wp2_with fail
                refine wp_region_z (fun z => z == 11) (fun X : World => NoteAt X (w.heap.size + 1) 0 n ∧ X.cell? ⟨w.heap.size, 4, none⟩ = some (.slice (some ⟨b, off, none⟩) t.reads.length cr)) (by kernel_rfl) ?_
                generalize U.drew = Ud at *
                obtain ⟨V1, hV1⟩ : ∃ V, V = Ud.alloc (.cells #[.int .i64 n.region, .int .i64 n.slot, .int .i64 n.version, .int .i64 n.value, .bool n.used] 29) := ⟨_, rfl⟩
                have bV1 : Below Ud.heap.size Ud V1 := by rw [hV1]; exact (Below.refl _ _).alloc (Nat.le_refl _) _
                have hone : NotesAt V1 Ud.heap.size 0 [n] := by rw [hV1]; exact (NoteAt.box Ud _ _).one
                have hlk : (t.reads.take k).length = k := by rw [List.length_take]; omega
                obtain ⟨v1, Y1, run1, row1, gr1, -⟩ := pushNo (rD.later bV1) [n] (by rw [hlk]; simp; omega) 24 Ud.heap.size 0 1 hone (Nat.le_trans bD.size bV1.size)
                have bV1' : Below w4.heap.size w4 V1 := bD.trans (bV1.mono bD.size)
                have bY1 : Below w4.heap.size w4 Y1 := bV1'.grown gr1 bV1'.size (fun q e => (rD.lt e).1)
                obtain ⟨a1, c1, rfl, -⟩ := row1.form
                have hl1 : (t.reads.take k ++ [n]).length = k + 1 := by simp [hlk]
                obtain ⟨a8, ha8⟩ : ∃ a8 : Option Addr, a8 = (if cr = k then (some (⟨b, off, none⟩ : Addr)) else Option.map (fun x => x.add (k * 5)) (some (⟨b, off, none⟩ : Addr))) := ⟨_, rfl⟩
                have src : SlNo Y1 Y1.heap.size a8 (t.reads.drop k).length (t.reads.drop k) := by
                  refine ⟨rfl, ?_⟩
                  by_cases hz : (t.reads.drop k).length = 0
                  · exact .inl hz
                  · rw [List.length_drop] at hz
                    obtain ⟨-, hq⟩ := (H4.out.2.2.2.2.1.later bY1).r
                    dsimp only at hq
                    rcases hq with hq | ⟨b', off', e', hb', hx'⟩
                    · omega
                    · refine .inr ⟨b', off' + k * 5, ?_, hb', fun i s hi => ?_⟩
                      · rw [ha8, if_neg (by omega), e', Option.map_some]; congr 1; unfold Addr.add; split <;> simp_all
                      · rw [List.getElem?_drop] at hi
                        have := hx' (k + i) s hi
                        rwa [show off' + k * 5 + i * 5 = off' + (k + i) * 5 by omega]
                have run2' := pushNoAny row1 (t.reads.drop k) (by rw [hl1, List.length_drop]; omega) 24 a8 (cr - k) src bY1.size
                obtain ⟨a2, c2, Y2, run2, row2, gr2, -⟩ := run2'
                have bY2 : Below w4.heap.size w4 Y2 := bY1.grown gr2 bY1.size (fun q e => (row1.lt e).1)
                rw [hl1, List.length_drop] at run2
                generalize hzs : t.reads.take k ++ [n] ++ t.reads.drop k = zs at *
                have HZ := hidOf hzs
                clear hzs
                rw [hl1] at run1
                simp only [List.length_cons, List.length_nil, Nat.zero_add] at run1
                have xB : BT Y2 w3.heap.size ⟨a4, c4, h4, d4⟩ t := H4.out.2.2.2.2.2.2.1.later bY2
                have k4 := xB.c4
                have k4f := xB.fz 4
                dsimp only at k4
                have yB : BT (Y2.setCell ⟨w3.heap.size, 4, none⟩ (.slice a2 zs.length c2)) w3.heap.size ⟨a2, c2, h4, d4⟩ (⟨t.id, t.home, t.phase, t.count, zs, t.sets, t.stamp⟩ : T7) := xB.set4 a2 c2 zs
                have yR : BT (Y2.setCell ⟨w3.heap.size, 4, none⟩ (.slice a2 zs.length c2)) (w.heap.size + 2) ⟨none, 0, none, 0⟩ ⟨0, 0, 0, 0, [], [], 0⟩ := (H4.out.2.2.1.later bY2).far (by dsimp only; have := H4.out.2.2.2.2.2.1; omega) _
                have KF : Hid (BT (Y2.setCell ⟨w3.heap.size, 4, none⟩ (.slice a2 zs.length c2)) w3.heap.size ⟨a2, c2, h4, d4⟩ (⟨t.id, t.home, t.phase, t.count, zs, t.sets, t.stamp⟩ : T7) ∧ BT (Y2.setCell ⟨w3.heap.size, 4, none⟩ (.slice a2 zs.length c2)) (w.heap.size + 2) ⟨none, 0, none, 0⟩ ⟨0, 0, 0, 0, [], [], 0⟩ ∧ RowN Y2 w4.heap.size (.slice a2 zs.length c2) zs ∧ Below w4.heap.size w4 Y2) := ⟨yB, yR, row2, bY2⟩
                have S1 := hidOf (SF.out _ bV1')
                have S2 := hidOf (SF.out _ bY1)
                have S3 := hidOf (SF.out _ bY2)
                have ik : (k : Int) ≤ (t.reads.length : Int) := by omega
                clear bV1 hone gr1 bV1' bY1 row1 src gr2 bY2 row2 rD bD xB yB yR SF hl1 hlk
                refine wpZ_takeP (i := 0) (v := ?_) rfl (by kernel_rfl) (fun _ _ _ h => h) (Or.inl ⟨by rfl, ?_⟩) hS ?_
                rotate_left
                · (intro X _; go_simp; first | done | with_reducible rfl | (rw [if_pos (by omega)]) | (rw [if_pos (by omega)]; go_simp))
                simp only [Act.put]
                refine wpZ_take (i := 1) (v := ?_) rfl (by kernel_rfl) (fun _ _ _ h => h) (Or.inl ⟨by rfl, ?_⟩) hS ?_
                rotate_left
                · (intro X hSw; obtain ⟨⟨s0, s1, s2, s3, s4⟩, s5⟩ := hSw; simp only [Nat.zero_add] at s1 s2 s3 s4; go_simp; first | done | with_reducible rfl)
                simp only [Act.put]
                refine wpZ_takeP (i := 4) (v := ?_) rfl (by kernel_rfl) (fun _ _ _ h => h) (Or.inl ⟨by rfl, ?_⟩) hS ?_
                rotate_left
                · (intro X _; go_simp; first | done | with_reducible rfl | (rw [if_pos (by omega)]) | (rw [if_pos (by omega)]; go_simp))
                simp only [Act.put]
                refine wpZ_take (i := 5) (v := ?_) rfl (by kernel_rfl) (fun _ _ _ h => h) (Or.inl ⟨by rfl, ?_⟩) hS ?_
                rotate_left
                · (intro X hSw; obtain ⟨⟨s0, s1, s2, s3, s4⟩, s5⟩ := hSw; simp only [Nat.zero_add] at s1 s2 s3 s4; go_simp; first | done | with_reducible rfl)
                simp only [Act.put]
                refine wpZ_takeP (i := 6) (v := ?_) rfl (by kernel_rfl) (fun _ _ _ h => h) (Or.inl ⟨by rfl, ?_⟩) hS ?_
                rotate_left
                · (intro X _; go_simp; first | done | with_reducible rfl | (rw [if_pos (by omega)]) | (rw [if_pos (by omega)]; go_simp))
                simp only [Act.put]
                refine wpZ_takeP (i := 7) (v := ?_) rfl (by kernel_rfl) (fun _ _ _ h => h) (Or.inl ⟨by rfl, ?_⟩) hS ?_
                rotate_left
                · (intro X _; go_simp; first | done | with_reducible rfl | (rw [if_pos (by omega)]) | (rw [if_pos (by omega)]; go_simp))
                simp only [Act.put]
                refine wpZ_takeP (i := 8) (v := .slice a8 (t.reads.length - k) (cr - k)) rfl (by kernel_rfl) (fun _ _ _ h => h) (Or.inl ⟨by rfl, ?_⟩) hS ?_
                · (intro X _; rw [ha8]; go_simp; first | done | with_reducible rfl | rfl)
                clear ha8
                simp only [Act.put]
                refine wpZ_ready (rs := [2]) (by kernel_rfl) (by simp) ?_
                refine AllZ.cons rfl (fun K hK => ?_) AllZ.nil
                go_simp
                refine hK.out _ _ (fun _ => by rw [← hV1]; exact S1.out) ?_
                clear hK K
                rw [← hV1]
                clear hV1 S1
                refine wpZ_ready (rs := [3]) (by kernel_rfl) (by simp) ?_
                refine AllZ.cons rfl (fun K hK => ?_) AllZ.nil
                refine step_known _ rfl (.tmp 68) (.tmp 70) 24 rfl _ _ _ _ (by first | rfl | simp [Act.eval, Act.put]) (by first | rfl | simp [Act.eval, Act.put]) run1 ?_
                refine hK.out _ _ (fun _ => S2.out) ?_
                clear hK K
                clear S2 run1
                simp only [Act.put]
                refine wpZ_ready (rs := [9]) (by kernel_rfl) (by simp) ?_
                refine AllZ.cons rfl (fun K hK => ?_) AllZ.nil
                refine step_known _ rfl (.tmp 71) (.tmp 76) 24 rfl _ _ _ _ (by first | rfl | simp [Act.eval, Act.put]) (by first | rfl | simp [Act.eval, Act.put]) run2 ?_
                refine hK.out _ _ (fun _ => S3.out) ?_
                clear hK K
                clear run2
                simp only [Act.put]
                have hS := S3.out
                refine wpZ_takeP (i := 10) (v := ?_) rfl (by kernel_rfl) (fun _ _ _ h => h) (Or.inl ⟨by rfl, ?_⟩) hS ?_
                rotate_left
                · (intro X _; go_simp; first | done | with_reducible rfl | (rw [if_pos (by omega)]) | (rw [if_pos (by omega)]; go_simp))
                simp only [Act.put]
                refine wpZ_ready (rs := [11]) (by kernel_rfl) (by simp) ?_
                refine AllZ.cons rfl (fun K hK => ?_) AllZ.nil
                go_simp
                refine hK.out _ _ (fun h => absurd (show false = true from h.symm.trans (by kernel_rfl)) (by decide)) ?_
                clear hK K
                refine wpZ_done (by kernel_rfl) ?_ _
                clear S3 hS k4 k4f
                have yR5 := KF.out.2.1.put ⟨a2, c2, h4, d4⟩ (⟨t.id, t.home, t.phase, t.count, zs, t.sets, t.stamp⟩ : T7)
                simp only [putT] at yR5
                obtain ⟨u0, u1, u2, u3, u4, u5, u6, -, -⟩ := yR5
                have KU := hidOf (And.intro u0 (And.intro u1 (And.intro u2 (And.intro u3 (And.intro u4 (And.intro u5 u6))))))
                clear u0 u1 u2 u3 u4 u5 u6
                obtain ⟨o0, o1, o2, o3, o4, o5, o6, -, -⟩ := KF.out.1
                obtain ⟨r0, r1, r2, r3, r4, r5, r6, fr, -⟩ := KF.out.2.1
                have f0 := fr 0
                have f1 := fr 1
                have f2 := fr 2
                have f3 := fr 3
                have f4 := fr 4
                have f5 := fr 5
                have f6 := fr 6
                clear fr
                dsimp only at o0 o1 o2 o3 o4 o5 o6 r4 r5
                go_wp2
                obtain ⟨u0, u1, u2, u3, u4, u5, u6⟩ := KU.out
                refine bodyPost_ret (v := .tuple #[.agg #[.int .i64 t.id, .int .i64 t.home, .int .i64 t.phase, .int .i64 t.count, .slice a2 zs.length c2, .slice h4 t.sets.length d4, .int .i64 t.stamp], .bool true]) (by simp [results, Try.results11, go_sem, u0, u1, u2, u3, u4, u5, u6]) rfl ?_
                rw [HN.out.1, HN.out.2, insN, HC.out, HZ.out]
                obtain ⟨g1, g2, g3, g4⟩ := KF.out
                obtain ⟨-, -, -, j4, -, j6, -, j8, j9, j10⟩ := H4.out
                have bX : Below w.heap.size w (Y2.setCell ⟨w3.heap.size, 4, none⟩ (.slice a2 zs.length c2)) := (j4.trans (g4.mono j4.size)).setCell (p := ⟨w3.heap.size, 4, none⟩) (by dsimp only; omega) _
                refine ⟨a2, c2, h4, d4, fun q => (Value.slice a2 zs.length c2).ownBlock = some q, PS, rfl, ?_, putT_below (s := w.heap.size + 2) (v := ⟨a2, c2, h4, d4⟩) (t := (⟨t.id, t.home, t.phase, t.count, zs, t.sets, t.stamp⟩ : T7)) bX (by omega)⟩
                obtain ⟨_, _, e2, ow2⟩ := g3.form
                cases e2
                have ot : TR Y2 w.heap.size ⟨a2, c2, h4, d4⟩ (⟨t.id, t.home, t.phase, t.count, zs, t.sets, t.stamp⟩ : T7) (fun q => (Value.slice a2 zs.length c2).ownBlock = some q) PS := ⟨⟨ow2, (j8.later g4).ot.s, fun q h1 h2 => by have := (g3.lt h1).1; have := (j9 q (.inr h2)).2; omega, fun q h1 => ⟨by have := (g3.lt h1).1; omega, (g3.lt h1).2⟩, fun q h1 => ⟨by have := (j9 q (.inr h1)).1; omega, ((j8.later g4).ot.sB q h1).2⟩⟩, row_low g3 (fun q e => by have := (g3.lt e).1; omega), row_low (j8.later g4).cs (fun q e => by have := (j9 q (.inr ((j8.later g4).ps q e))).1; omega), fun q e => e, (j8.later g4).ps⟩
                have hne : ∀ q, OfT (fun q => (Value.slice a2 zs.length c2).ownBlock = some q) PS q → q ≠ w3.heap.size ∧ q ≠ w.heap.size + 2 := fun q hq => by
                  rcases hq with hq | hq
                  · have := (g3.lt hq).1; omega
                  · have := j9 q (.inr hq); omega
                have ot2 : TR (Y2.setCell ⟨w3.heap.size, 4, none⟩ (.slice a2 zs.length c2)) w.heap.size ⟨a2, c2, h4, d4⟩ (⟨t.id, t.home, t.phase, t.count, zs, t.sets, t.stamp⟩ : T7) (fun q => (Value.slice a2 zs.length c2).ownBlock = some q) PS := ot.keep (by simp [World.setCell]) (fun q _ hq => Below.heap_setCell _ _ _ _ (hne q hq).1)
                exact ot2.keep (w' := putT (Y2.setCell ⟨w3.heap.size, 4, none⟩ (.slice a2 zs.length c2)) (w.heap.size + 2) ⟨a2, c2, h4, d4⟩ (⟨t.id, t.home, t.phase, t.count, zs, t.sets, t.stamp⟩ : T7)) (by rw [putT_size]; exact Nat.le_refl _) (fun q _ hq => putT_block (hne q hq).2)
            · have hkd : decide ((k : Int) < (t.reads.length : Int)) = false := by simp; omega
              have q4 : ∀ d os, (grow (redrawn wr d) os).cell? ⟨w.heap.size, 4, none⟩ = some (.slice ar t.reads.length cr) := fun d os => ((below_regrown wr d os).cell (p := ⟨w.heap.size, 4, none⟩) hlt0).trans p4
              clear p4 hno hsl
              go_wp2_with fail
              refine wp_region_quiet_below (by kernel_rfl) (by kernel_rfl) ?_
              repeat (go_big_quiet_step (fail))
              refine wpQuiet_nil ?_
              intro _ hw'
              obtain ⟨⟨dq, osq⟩, hw''⟩ := hw'
              subst hw''
              have bq := below_regrown wr dq osq
              have KT : Hid (RowN (grow (redrawn wr dq) osq) w4.heap.size (.slice a7 k c7) (t.reads.take k) ∧ Below w4.heap.size w4 (grow (redrawn wr dq) osq)) := ⟨KA.out.1.later bq, KA.out.2.1.trans (bq.mono KA.out.2.1.size)⟩
              have HC : Hid (cutN t.reads n = k) := (cutN_all (fun j hj => KA.out.2.2 j (by omega))).trans (by omega)
              clear bq q4 KA
              generalize grow (redrawn wr dq) osq = U at *
              have KD : Hid (Below U.heap.size U U.drew) := (Below.refl _ _).drew
              have bD : Below w4.heap.size w4 U.drew := KT.out.2.trans (KD.out.mono KT.out.2.size)
              have SF : Hid (∀ X, Below w4.heap.size w4 X → (fun X : World => NoteAt X (w.heap.size + 1) 0 n ∧ X.cell? ⟨w.heap.size, 4, none⟩ = some (.slice ar t.reads.length cr)) X) := fun X hX => ⟨H4.out.2.1.below hX (by have := H4.out.2.2.2.2.2.1; have := H4.out.2.2.2.2.2.2.2.2.2; omega), (H4.out.1.later hX).c4⟩
              have hS : (fun X : World => NoteAt X (w.heap.size + 1) 0 n ∧ X.cell? ⟨w.heap.size, 4, none⟩ = some (.slice ar t.reads.length cr)) U.drew := SF.out _ bD
              have rD : RowN U.drew w4.heap.size (.slice a7 k c7) (t.reads.take k) := KT.out.1.later KD.out
              clear KD
              go_wp2_with fail
              refine wp_region_z (fun z => z == 11) (fun X : World => NoteAt X (w.heap.size + 1) 0 n ∧ X.cell? ⟨w.heap.size, 4, none⟩ = some (.slice ar t.reads.length cr)) (by kernel_rfl) ?_
              generalize U.drew = Ud at *
              obtain ⟨V1, hV1⟩ : ∃ V, V = Ud.alloc (.cells #[.int .i64 n.region, .int .i64 n.slot, .int .i64 n.version, .int .i64 n.value, .bool n.used] 29) := ⟨_, rfl⟩
              have bV1 : Below Ud.heap.size Ud V1 := by rw [hV1]; exact (Below.refl _ _).alloc (Nat.le_refl _) _
              have hone : NotesAt V1 Ud.heap.size 0 [n] := by rw [hV1]; exact (NoteAt.box Ud _ _).one
              have hlk : (t.reads.take k).length = k := by rw [List.length_take]; omega
              obtain ⟨v1, Y1, run1, row1, gr1, -⟩ := pushNo (rD.later bV1) [n] (by rw [hlk]; simp; omega) 24 Ud.heap.size 0 1 hone (Nat.le_trans bD.size bV1.size)
              have bV1' : Below w4.heap.size w4 V1 := bD.trans (bV1.mono bD.size)
              have bY1 : Below w4.heap.size w4 Y1 := bV1'.grown gr1 bV1'.size (fun q e => (rD.lt e).1)
              obtain ⟨a1, c1, rfl, -⟩ := row1.form
              have hl1 : (t.reads.take k ++ [n]).length = k + 1 := by simp [hlk]
              obtain ⟨a8, ha8⟩ : ∃ a8 : Option Addr, a8 = (if cr = k then ar else Option.map (fun x => x.add (k * 5)) ar) := ⟨_, rfl⟩
              have src : SlNo Y1 Y1.heap.size a8 (t.reads.drop k).length (t.reads.drop k) := by
                refine ⟨rfl, ?_⟩
                by_cases hz : (t.reads.drop k).length = 0
                · exact .inl hz
                · rw [List.length_drop] at hz
                  obtain ⟨-, hq⟩ := (H4.out.2.2.2.2.1.later bY1).r
                  dsimp only at hq
                  rcases hq with hq | ⟨b', off', e', hb', hx'⟩
                  · omega
                  · refine .inr ⟨b', off' + k * 5, ?_, hb', fun i s hi => ?_⟩
                    · rw [ha8, if_neg (by omega), e', Option.map_some]; congr 1; unfold Addr.add; split <;> simp_all
                    · rw [List.getElem?_drop] at hi
                      have := hx' (k + i) s hi
                      rwa [show off' + k * 5 + i * 5 = off' + (k + i) * 5 by omega]
              have run2' := pushNoAny row1 (t.reads.drop k) (by rw [hl1, List.length_drop]; omega) 24 a8 (cr - k) src bY1.size
              obtain ⟨a2, c2, Y2, run2, row2, gr2, -⟩ := run2'
              have bY2 : Below w4.heap.size w4 Y2 := bY1.grown gr2 bY1.size (fun q e => (row1.lt e).1)
              rw [hl1, List.length_drop] at run2
              generalize hzs : t.reads.take k ++ [n] ++ t.reads.drop k = zs at *
              have HZ := hidOf hzs
              clear hzs
              rw [hl1] at run1
              simp only [List.length_cons, List.length_nil, Nat.zero_add] at run1
              have xB : BT Y2 w3.heap.size ⟨a4, c4, h4, d4⟩ t := H4.out.2.2.2.2.2.2.1.later bY2
              have k4 := xB.c4
              have k4f := xB.fz 4
              dsimp only at k4
              have yB : BT (Y2.setCell ⟨w3.heap.size, 4, none⟩ (.slice a2 zs.length c2)) w3.heap.size ⟨a2, c2, h4, d4⟩ (⟨t.id, t.home, t.phase, t.count, zs, t.sets, t.stamp⟩ : T7) := xB.set4 a2 c2 zs
              have yR : BT (Y2.setCell ⟨w3.heap.size, 4, none⟩ (.slice a2 zs.length c2)) (w.heap.size + 2) ⟨none, 0, none, 0⟩ ⟨0, 0, 0, 0, [], [], 0⟩ := (H4.out.2.2.1.later bY2).far (by dsimp only; have := H4.out.2.2.2.2.2.1; omega) _
              have KF : Hid (BT (Y2.setCell ⟨w3.heap.size, 4, none⟩ (.slice a2 zs.length c2)) w3.heap.size ⟨a2, c2, h4, d4⟩ (⟨t.id, t.home, t.phase, t.count, zs, t.sets, t.stamp⟩ : T7) ∧ BT (Y2.setCell ⟨w3.heap.size, 4, none⟩ (.slice a2 zs.length c2)) (w.heap.size + 2) ⟨none, 0, none, 0⟩ ⟨0, 0, 0, 0, [], [], 0⟩ ∧ RowN Y2 w4.heap.size (.slice a2 zs.length c2) zs ∧ Below w4.heap.size w4 Y2) := ⟨yB, yR, row2, bY2⟩
              have S1 := hidOf (SF.out _ bV1')
              have S2 := hidOf (SF.out _ bY1)
              have S3 := hidOf (SF.out _ bY2)
              have ik : (k : Int) ≤ (t.reads.length : Int) := by omega
              clear bV1 hone gr1 bV1' bY1 row1 src gr2 bY2 row2 rD bD xB yB yR SF hl1 hlk
              refine wpZ_takeP (i := 0) (v := ?_) rfl (by kernel_rfl) (fun _ _ _ h => h) (Or.inl ⟨by rfl, ?_⟩) hS ?_
              rotate_left
              · (intro X _; go_simp; first | done | with_reducible rfl | (rw [if_pos (by omega)]) | (rw [if_pos (by omega)]; go_simp))
              simp only [Act.put]
              refine wpZ_take (i := 1) (v := ?_) rfl (by kernel_rfl) (fun _ _ _ h => h) (Or.inl ⟨by rfl, ?_⟩) hS ?_
              rotate_left
              · (intro X hSw; obtain ⟨⟨s0, s1, s2, s3, s4⟩, s5⟩ := hSw; simp only [Nat.zero_add] at s1 s2 s3 s4; go_simp; first | done | with_reducible rfl)
              simp only [Act.put]
              refine wpZ_takeP (i := 4) (v := ?_) rfl (by kernel_rfl) (fun _ _ _ h => h) (Or.inl ⟨by rfl, ?_⟩) hS ?_
              rotate_left
              · (intro X _; go_simp; first | done | with_reducible rfl | (rw [if_pos (by omega)]) | (rw [if_pos (by omega)]; go_simp))
              simp only [Act.put]
              refine wpZ_take (i := 5) (v := ?_) rfl (by kernel_rfl) (fun _ _ _ h => h) (Or.inl ⟨by rfl, ?_⟩) hS ?_
              rotate_left
              · (intro X hSw; obtain ⟨⟨s0, s1, s2, s3, s4⟩, s5⟩ := hSw; simp only [Nat.zero_add] at s1 s2 s3 s4; go_simp; first | done | with_reducible rfl)
              simp only [Act.put]
              refine wpZ_takeP (i := 6) (v := ?_) rfl (by kernel_rfl) (fun _ _ _ h => h) (Or.inl ⟨by rfl, ?_⟩) hS ?_
              rotate_left
              · (intro X _; go_simp; first | done | with_reducible rfl | (rw [if_pos (by omega)]) | (rw [if_pos (by omega)]; go_simp))
              simp only [Act.put]
              refine wpZ_takeP (i := 7) (v := ?_) rfl (by kernel_rfl) (fun _ _ _ h => h) (Or.inl ⟨by rfl, ?_⟩) hS ?_
              rotate_left
              · (intro X _; go_simp; first | done | with_reducible rfl | (rw [if_pos (by omega)]) | (rw [if_pos (by omega)]; go_simp))
              simp only [Act.put]
              refine wpZ_takeP (i := 8) (v := .slice a8 (t.reads.length - k) (cr - k)) rfl (by kernel_rfl) (fun _ _ _ h => h) (Or.inl ⟨by rfl, ?_⟩) hS ?_
              · (intro X _; rw [ha8]; go_simp; first | done | with_reducible rfl | rfl)
              clear ha8
              simp only [Act.put]
              refine wpZ_ready (rs := [2]) (by kernel_rfl) (by simp) ?_
              refine AllZ.cons rfl (fun K hK => ?_) AllZ.nil
              go_simp
              refine hK.out _ _ (fun _ => by rw [← hV1]; exact S1.out) ?_
              clear hK K
              rw [← hV1]
              clear hV1 S1
              refine wpZ_ready (rs := [3]) (by kernel_rfl) (by simp) ?_
              refine AllZ.cons rfl (fun K hK => ?_) AllZ.nil
              refine step_known _ rfl (.tmp 68) (.tmp 70) 24 rfl _ _ _ _ (by first | rfl | simp [Act.eval, Act.put]) (by first | rfl | simp [Act.eval, Act.put]) run1 ?_
              refine hK.out _ _ (fun _ => S2.out) ?_
              clear hK K
              clear S2 run1
              simp only [Act.put]
              refine wpZ_ready (rs := [9]) (by kernel_rfl) (by simp) ?_
              refine AllZ.cons rfl (fun K hK => ?_) AllZ.nil
              refine step_known _ rfl (.tmp 71) (.tmp 76) 24 rfl _ _ _ _ (by first | rfl | simp [Act.eval, Act.put]) (by first | rfl | simp [Act.eval, Act.put]) run2 ?_
              refine hK.out _ _ (fun _ => S3.out) ?_
              clear hK K
              clear run2
              simp only [Act.put]
              have hS := S3.out
              refine wpZ_takeP (i := 10) (v := ?_) rfl (by kernel_rfl) (fun _ _ _ h => h) (Or.inl ⟨by rfl, ?_⟩) hS ?_
              rotate_left
              · (intro X _; go_simp; first | done | with_reducible rfl | (rw [if_pos (by omega)]) | (rw [if_pos (by omega)]; go_simp))
              simp only [Act.put]
              refine wpZ_ready (rs := [11]) (by kernel_rfl) (by simp) ?_
              refine AllZ.cons rfl (fun K hK => ?_) AllZ.nil
              go_simp
              refine hK.out _ _ (fun h => absurd (show false = true from h.symm.trans (by kernel_rfl)) (by decide)) ?_
              clear hK K
              refine wpZ_done (by kernel_rfl) ?_ _
              clear S3 hS k4 k4f
              have yR5 := KF.out.2.1.put ⟨a2, c2, h4, d4⟩ (⟨t.id, t.home, t.phase, t.count, zs, t.sets, t.stamp⟩ : T7)
              simp only [putT] at yR5
              obtain ⟨u0, u1, u2, u3, u4, u5, u6, -, -⟩ := yR5
              have KU := hidOf (And.intro u0 (And.intro u1 (And.intro u2 (And.intro u3 (And.intro u4 (And.intro u5 u6))))))
              clear u0 u1 u2 u3 u4 u5 u6
              obtain ⟨o0, o1, o2, o3, o4, o5, o6, -, -⟩ := KF.out.1
              obtain ⟨r0, r1, r2, r3, r4, r5, r6, fr, -⟩ := KF.out.2.1
              have f0 := fr 0
              have f1 := fr 1
              have f2 := fr 2
              have f3 := fr 3
              have f4 := fr 4
              have f5 := fr 5
              have f6 := fr 6
              clear fr
              dsimp only at o0 o1 o2 o3 o4 o5 o6 r4 r5
              go_wp2
              obtain ⟨u0, u1, u2, u3, u4, u5, u6⟩ := KU.out
              refine bodyPost_ret (v := .tuple #[.agg #[.int .i64 t.id, .int .i64 t.home, .int .i64 t.phase, .int .i64 t.count, .slice a2 zs.length c2, .slice h4 t.sets.length d4, .int .i64 t.stamp], .bool true]) (by simp [results, Try.results11, go_sem, u0, u1, u2, u3, u4, u5, u6]) rfl ?_
              rw [HN.out.1, HN.out.2, insN, HC.out, HZ.out]
              obtain ⟨g1, g2, g3, g4⟩ := KF.out
              obtain ⟨-, -, -, j4, -, j6, -, j8, j9, j10⟩ := H4.out
              have bX : Below w.heap.size w (Y2.setCell ⟨w3.heap.size, 4, none⟩ (.slice a2 zs.length c2)) := (j4.trans (g4.mono j4.size)).setCell (p := ⟨w3.heap.size, 4, none⟩) (by dsimp only; omega) _
              refine ⟨a2, c2, h4, d4, fun q => (Value.slice a2 zs.length c2).ownBlock = some q, PS, rfl, ?_, putT_below (s := w.heap.size + 2) (v := ⟨a2, c2, h4, d4⟩) (t := (⟨t.id, t.home, t.phase, t.count, zs, t.sets, t.stamp⟩ : T7)) bX (by omega)⟩
              obtain ⟨_, _, e2, ow2⟩ := g3.form
              cases e2
              have ot : TR Y2 w.heap.size ⟨a2, c2, h4, d4⟩ (⟨t.id, t.home, t.phase, t.count, zs, t.sets, t.stamp⟩ : T7) (fun q => (Value.slice a2 zs.length c2).ownBlock = some q) PS := ⟨⟨ow2, (j8.later g4).ot.s, fun q h1 h2 => by have := (g3.lt h1).1; have := (j9 q (.inr h2)).2; omega, fun q h1 => ⟨by have := (g3.lt h1).1; omega, (g3.lt h1).2⟩, fun q h1 => ⟨by have := (j9 q (.inr h1)).1; omega, ((j8.later g4).ot.sB q h1).2⟩⟩, row_low g3 (fun q e => by have := (g3.lt e).1; omega), row_low (j8.later g4).cs (fun q e => by have := (j9 q (.inr ((j8.later g4).ps q e))).1; omega), fun q e => e, (j8.later g4).ps⟩
              have hne : ∀ q, OfT (fun q => (Value.slice a2 zs.length c2).ownBlock = some q) PS q → q ≠ w3.heap.size ∧ q ≠ w.heap.size + 2 := fun q hq => by
                rcases hq with hq | hq
                · have := (g3.lt hq).1; omega
                · have := j9 q (.inr hq); omega
              have ot2 : TR (Y2.setCell ⟨w3.heap.size, 4, none⟩ (.slice a2 zs.length c2)) w.heap.size ⟨a2, c2, h4, d4⟩ (⟨t.id, t.home, t.phase, t.count, zs, t.sets, t.stamp⟩ : T7) (fun q => (Value.slice a2 zs.length c2).ownBlock = some q) PS := ot.keep (by simp [World.setCell]) (fun q _ hq => Below.heap_setCell _ _ _ _ (hne q hq).1)
              exact ot2.keep (w' := putT (Y2.setCell ⟨w3.heap.size, 4, none⟩ (.slice a2 zs.length c2)) (w.heap.size + 2) ⟨a2, c2, h4, d4⟩ (⟨t.id, t.home, t.phase, t.count, zs, t.sets, t.stamp⟩ : T7)) (by rw [putT_size]; exact Nat.le_refl _) (fun q _ hq => putT_block (hne q hq).2)
end Go.Proofs.Ytiidlcjjaglkdaa