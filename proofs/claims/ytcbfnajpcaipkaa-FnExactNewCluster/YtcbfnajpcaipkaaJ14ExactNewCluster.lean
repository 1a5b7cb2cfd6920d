/- YTxD; YTxB; YTxL: joined. -/
import Derived.Test.YtcbfnajpcaipkaaRows
import Derived.Test.YtcbfnajpcaipkaaYNoDJ
import Derived.WalkKit
import Derived.WalkSpells
import Derived.WalkLawsBesides
import Derived.Below
namespace Go.Proofs.Ytcbfnajpcaipkaa.tx
open Go.RowKit
structure T7 where
  id : Int
  home : Int
  phase : Int
  count : Int
  reads : List N5
  sets : List S5
  stamp : Int
structure TV where
  ar : Option Addr
  cr : Nat
  ah : Option Addr
  ch : Nat
def TV.val (v : TV) (t : T7) : Value := .agg #[.int .i64 t.id, .int .i64 t.home, .int .i64 t.phase, .int .i64 t.count, .slice v.ar t.reads.length v.cr, .slice v.ah t.sets.length v.ch, .int .i64 t.stamp]
theorem Sl.later {w w' : World} {a : Option Addr} {n : Nat} {xs : List S5} (h : Sl w w.heap.size a n xs) (hb : Below w.heap.size w w') : Sl w' w'.heap.size a n xs := (h.below hb).mono hb.size
theorem SlNo.later {w w' : World} {a : Option Addr} {n : Nat} {xs : List N5} (h : SlNo w w.heap.size a n xs) (hb : Below w.heap.size w w') : SlNo w' w'.heap.size a n xs := (h.below hb).mono hb.size
structure SlT (w : World) (v : TV) (t : T7) : Prop where
  r : SlNo w w.heap.size v.ar t.reads.length t.reads
  s : Sl w w.heap.size v.ah t.sets.length t.sets
theorem SlT.later {w w' : World} {v : TV} {t : T7} (h : SlT w v t) (hb : Below w.heap.size w w') : SlT w' v t := ⟨h.r.later hb, h.s.later hb⟩
structure TL (t : T7) : Prop where
  r : t.reads.length ≤ maxLen
  s : t.sets.length ≤ maxLen
def OwnNo (w : World) (P : Nat → Prop) (a : Option Addr) (xs : List N5) : Prop := xs = [] ∨ ∃ b, a = some ⟨b, 0, none⟩ ∧ P b ∧ b < w.heap.size ∧ NotesAt w b 0 xs ∧ Room w b (xs.length * 5)
def OwnSe (w : World) (P : Nat → Prop) (a : Option Addr) (xs : List S5) : Prop := xs = [] ∨ ∃ b, a = some ⟨b, 0, none⟩ ∧ P b ∧ b < w.heap.size ∧ SetsAt w b 0 xs ∧ Room w b (xs.length * 5)
theorem OwnNo.keep {w w' : World} {P : Nat → Prop} {a : Option Addr} {xs : List N5} (h : OwnNo w P a xs) (hs : w.heap.size ≤ w'.heap.size) (hk : ∀ q, q < w.heap.size → P q → w'.heap[q]? = w.heap[q]?) : OwnNo w' P a xs := by
  rcases h with h | ⟨b, ha, hp, hl, hn, hr⟩
  · exact .inl h
  · exact .inr ⟨b, ha, hp, Nat.lt_of_lt_of_le hl hs, hn.of_block (hk b hl hp), hr.of_block (hk b hl hp)⟩
theorem OwnSe.keep {w w' : World} {P : Nat → Prop} {a : Option Addr} {xs : List S5} (h : OwnSe w P a xs) (hs : w.heap.size ≤ w'.heap.size) (hk : ∀ q, q < w.heap.size → P q → w'.heap[q]? = w.heap[q]?) : OwnSe w' P a xs := by
  rcases h with h | ⟨b, ha, hp, hl, hn, hr⟩
  · exact .inl h
  · exact .inr ⟨b, ha, hp, Nat.lt_of_lt_of_le hl hs, hn.of_block (hk b hl hp), hr.of_block (hk b hl hp)⟩
theorem OwnNo.mono {w : World} {P Q : Nat → Prop} {a : Option Addr} {xs : List N5} (h : OwnNo w P a xs) (hp : ∀ q, q < w.heap.size → P q → Q q) : OwnNo w Q a xs := by
  rcases h with h | ⟨b, ha, hb, hl, hn, hr⟩
  · exact .inl h
  · exact .inr ⟨b, ha, hp b hl hb, hl, hn, hr⟩
theorem OwnSe.mono {w : World} {P Q : Nat → Prop} {a : Option Addr} {xs : List S5} (h : OwnSe w P a xs) (hp : ∀ q, q < w.heap.size → P q → Q q) : OwnSe w Q a xs := by
  rcases h with h | ⟨b, ha, hb, hl, hn, hr⟩
  · exact .inl h
  · exact .inr ⟨b, ha, hp b hl hb, hl, hn, hr⟩
theorem OwnNo.sl {w : World} {P : Nat → Prop} {a : Option Addr} {xs : List N5} (h : OwnNo w P a xs) : SlNo w w.heap.size a xs.length xs := by
  rcases h with e | ⟨b, ha, _, hl, hn, _⟩
  · exact ⟨rfl, .inl (by rw [e]; rfl)⟩
  · exact ⟨rfl, .inr ⟨b, 0, ha, hl, hn⟩⟩
theorem OwnSe.sl {w : World} {P : Nat → Prop} {a : Option Addr} {xs : List S5} (h : OwnSe w P a xs) : Sl w w.heap.size a xs.length xs := by
  rcases h with e | ⟨b, ha, _, hl, hn, _⟩
  · exact ⟨rfl, .inl (by rw [e]; rfl)⟩
  · exact ⟨rfl, .inr ⟨b, 0, ha, hl, hn⟩⟩
structure OT (w : World) (B : Nat) (v : TV) (t : T7) (PR PS : Nat → Prop) : Prop where
  r : OwnNo w PR v.ar t.reads
  s : OwnSe w PS v.ah t.sets
  rs : ∀ q, PR q → ¬ PS q
  rB : ∀ q, PR q → B ≤ q ∧ q < w.heap.size
  sB : ∀ q, PS q → B ≤ q ∧ q < w.heap.size
def OfT (PR PS : Nat → Prop) (q : Nat) : Prop := PR q ∨ PS q
theorem OT.of {w : World} {B : Nat} {v : TV} {t : T7} {PR PS : Nat → Prop} (h : OT w B v t PR PS) {q : Nat} (hq : OfT PR PS q) : B ≤ q ∧ q < w.heap.size := hq.elim (h.rB q) (h.sB q)
theorem OT.sl {w : World} {B : Nat} {v : TV} {t : T7} {PR PS : Nat → Prop} (h : OT w B v t PR PS) : SlT w v t := ⟨h.r.sl, h.s.sl⟩
theorem OT.keep {w w' : World} {B : Nat} {v : TV} {t : T7} {PR PS : Nat → Prop} (h : OT w B v t PR PS) (hs : w.heap.size ≤ w'.heap.size) (hk : ∀ q, q < w.heap.size → OfT PR PS q → w'.heap[q]? = w.heap[q]?) : OT w' B v t PR PS :=
  ⟨h.r.keep hs (fun q hq hp => hk q hq (.inl hp)), h.s.keep hs (fun q hq hp => hk q hq (.inr hp)), h.rs, fun q hq => ⟨(h.rB q hq).1, Nat.lt_of_lt_of_le (h.rB q hq).2 hs⟩, fun q hq => ⟨(h.sB q hq).1, Nat.lt_of_lt_of_le (h.sB q hq).2 hs⟩⟩
theorem OT.later {w w' : World} {B : Nat} {v : TV} {t : T7} {PR PS : Nat → Prop} (h : OT w B v t PR PS) (hb : Below w.heap.size w w') : OT w' B v t PR PS := h.keep hb.size (fun q hq _ => hb.block q hq)
theorem OT.mono {w : World} {B B' : Nat} {v : TV} {t : T7} {PR PS : Nat → Prop} (h : OT w B v t PR PS) (hb : B' ≤ B) : OT w B' v t PR PS := ⟨h.r, h.s, h.rs, fun q hq => ⟨Nat.le_trans hb (h.rB q hq).1, (h.rB q hq).2⟩, fun q hq => ⟨Nat.le_trans hb (h.sB q hq).1, (h.sB q hq).2⟩⟩
structure BT (X : World) (s : Nat) (v : TV) (t : T7) : Prop where
  c0 : X.cell? ⟨s, 0, none⟩ = some (.int .i64 t.id)
  c1 : X.cell? ⟨s, 1, none⟩ = some (.int .i64 t.home)
  c2 : X.cell? ⟨s, 2, none⟩ = some (.int .i64 t.phase)
  c3 : X.cell? ⟨s, 3, none⟩ = some (.int .i64 t.count)
  c4 : X.cell? ⟨s, 4, none⟩ = some (.slice v.ar t.reads.length v.cr)
  c5 : X.cell? ⟨s, 5, none⟩ = some (.slice v.ah t.sets.length v.ch)
  c6 : X.cell? ⟨s, 6, none⟩ = some (.int .i64 t.stamp)
  fz : ∀ j, X.frozen? ⟨s, j, none⟩ = false
  lt : s < X.heap.size
theorem BT.of_block {X Y : World} {s : Nat} {v : TV} {t : T7} (h : BT X s v t) (hb : Y.heap[s]? = X.heap[s]?) (hs : X.heap.size ≤ Y.heap.size) : BT Y s v t := by
  have c : ∀ {j : Nat} {u : Value}, X.cell? ⟨s, j, none⟩ = some u → Y.cell? ⟨s, j, none⟩ = some u := fun {j u} h => (World.cell?_of_block (a := ⟨s, j, none⟩) hb).trans h
  exact ⟨c h.c0, c h.c1, c h.c2, c h.c3, c h.c4, c h.c5, c h.c6, fun j => (World.frozen?_of_block (a := ⟨s, j, none⟩) hb).trans (h.fz j), Nat.lt_of_lt_of_le h.lt hs⟩
theorem BT.later {X Y : World} {s : Nat} {v : TV} {t : T7} (h : BT X s v t) (hb : Below X.heap.size X Y) : BT Y s v t := h.of_block (hb.block _ h.lt) hb.size
theorem BT.box (X : World) (v : TV) (t : T7) (T : TypeId) : BT (X.alloc (.cells #[.int .i64 t.id, .int .i64 t.home, .int .i64 t.phase, .int .i64 t.count, .slice v.ar t.reads.length v.cr, .slice v.ah t.sets.length v.ch, .int .i64 t.stamp] T)) X.heap.size v t := by
  refine ⟨by go_simp, by go_simp, by go_simp, by go_simp, by go_simp, by go_simp, by go_simp, fun j => by go_simp, by simp⟩
theorem BT.zero (X : World) (T : TypeId) : BT (X.alloc (.cells #[.int .i64 0, .int .i64 0, .int .i64 0, .int .i64 0, .slice none 0 0, .slice none 0 0, .int .i64 0] T)) X.heap.size ⟨none, 0, none, 0⟩ ⟨0, 0, 0, 0, [], [], 0⟩ := BT.box X ⟨none, 0, none, 0⟩ ⟨0, 0, 0, 0, [], [], 0⟩ T
def szT (t : T7) : Nat := t.reads.length + t.sets.length
theorem BT.far {X : World} {s : Nat} {v : TV} {t : T7} (h : BT X s v t) {p : Addr} (hp : p.block ≠ s) (u : Value) : BT (X.setCell p u) s v t := h.of_block (Below.heap_setCell _ _ _ _ (fun e => hp e.symm)) (by simp [World.setCell])
theorem BT.set0 {X : World} {s : Nat} {v : TV} {t : T7} (h : BT X s v t) (z : Int) : BT (X.setCell ⟨s, 0, none⟩ (.int .i64 z)) s v ⟨z, t.home, t.phase, t.count, t.reads, t.sets, t.stamp⟩ := ⟨cell_set_same h.c0, (cell_set_other (by omega)).trans h.c1, (cell_set_other (by omega)).trans h.c2, (cell_set_other (by omega)).trans h.c3, (cell_set_other (by omega)).trans h.c4, (cell_set_other (by omega)).trans h.c5, (cell_set_other (by omega)).trans h.c6, fun j => by rw [World.frozen?_setCell]; exact h.fz j, by simpa [World.setCell] using h.lt⟩
theorem BT.set1 {X : World} {s : Nat} {v : TV} {t : T7} (h : BT X s v t) (z : Int) : BT (X.setCell ⟨s, 1, none⟩ (.int .i64 z)) s v ⟨t.id, z, t.phase, t.count, t.reads, t.sets, t.stamp⟩ := ⟨(cell_set_other (by omega)).trans h.c0, cell_set_same h.c1, (cell_set_other (by omega)).trans h.c2, (cell_set_other (by omega)).trans h.c3, (cell_set_other (by omega)).trans h.c4, (cell_set_other (by omega)).trans h.c5, (cell_set_other (by omega)).trans h.c6, fun j => by rw [World.frozen?_setCell]; exact h.fz j, by simpa [World.setCell] using h.lt⟩
theorem BT.set2 {X : World} {s : Nat} {v : TV} {t : T7} (h : BT X s v t) (z : Int) : BT (X.setCell ⟨s, 2, none⟩ (.int .i64 z)) s v ⟨t.id, t.home, z, t.count, t.reads, t.sets, t.stamp⟩ := ⟨(cell_set_other (by omega)).trans h.c0, (cell_set_other (by omega)).trans h.c1, cell_set_same h.c2, (cell_set_other (by omega)).trans h.c3, (cell_set_other (by omega)).trans h.c4, (cell_set_other (by omega)).trans h.c5, (cell_set_other (by omega)).trans h.c6, fun j => by rw [World.frozen?_setCell]; exact h.fz j, by simpa [World.setCell] using h.lt⟩
theorem BT.set3 {X : World} {s : Nat} {v : TV} {t : T7} (h : BT X s v t) (z : Int) : BT (X.setCell ⟨s, 3, none⟩ (.int .i64 z)) s v ⟨t.id, t.home, t.phase, z, t.reads, t.sets, t.stamp⟩ := ⟨(cell_set_other (by omega)).trans h.c0, (cell_set_other (by omega)).trans h.c1, (cell_set_other (by omega)).trans h.c2, cell_set_same h.c3, (cell_set_other (by omega)).trans h.c4, (cell_set_other (by omega)).trans h.c5, (cell_set_other (by omega)).trans h.c6, fun j => by rw [World.frozen?_setCell]; exact h.fz j, by simpa [World.setCell] using h.lt⟩
theorem BT.set4 {X : World} {s : Nat} {v : TV} {t : T7} (h : BT X s v t) (a : Option Addr) (c : Nat) (xs : List N5) : BT (X.setCell ⟨s, 4, none⟩ (.slice a xs.length c)) s ⟨a, c, v.ah, v.ch⟩ ⟨t.id, t.home, t.phase, t.count, xs, t.sets, t.stamp⟩ := ⟨(cell_set_other (by omega)).trans h.c0, (cell_set_other (by omega)).trans h.c1, (cell_set_other (by omega)).trans h.c2, (cell_set_other (by omega)).trans h.c3, cell_set_same h.c4, (cell_set_other (by omega)).trans h.c5, (cell_set_other (by omega)).trans h.c6, fun j => by rw [World.frozen?_setCell]; exact h.fz j, by simpa [World.setCell] using h.lt⟩
theorem BT.set5 {X : World} {s : Nat} {v : TV} {t : T7} (h : BT X s v t) (a : Option Addr) (c : Nat) (xs : List S5) : BT (X.setCell ⟨s, 5, none⟩ (.slice a xs.length c)) s ⟨v.ar, v.cr, a, c⟩ ⟨t.id, t.home, t.phase, t.count, t.reads, xs, t.stamp⟩ := ⟨(cell_set_other (by omega)).trans h.c0, (cell_set_other (by omega)).trans h.c1, (cell_set_other (by omega)).trans h.c2, (cell_set_other (by omega)).trans h.c3, (cell_set_other (by omega)).trans h.c4, cell_set_same h.c5, (cell_set_other (by omega)).trans h.c6, fun j => by rw [World.frozen?_setCell]; exact h.fz j, by simpa [World.setCell] using h.lt⟩
theorem BT.set6 {X : World} {s : Nat} {v : TV} {t : T7} (h : BT X s v t) (z : Int) : BT (X.setCell ⟨s, 6, none⟩ (.int .i64 z)) s v ⟨t.id, t.home, t.phase, t.count, t.reads, t.sets, z⟩ := ⟨(cell_set_other (by omega)).trans h.c0, (cell_set_other (by omega)).trans h.c1, (cell_set_other (by omega)).trans h.c2, (cell_set_other (by omega)).trans h.c3, (cell_set_other (by omega)).trans h.c4, (cell_set_other (by omega)).trans h.c5, cell_set_same h.c6, fun j => by rw [World.frozen?_setCell]; exact h.fz j, by simpa [World.setCell] using h.lt⟩
def putT (X : World) (s : Nat) (v : TV) (t : T7) : World := ((((((X.setCell ⟨s, 0, none⟩ (.int .i64 t.id)).setCell ⟨s, 1, none⟩ (.int .i64 t.home)).setCell ⟨s, 2, none⟩ (.int .i64 t.phase)).setCell ⟨s, 3, none⟩ (.int .i64 t.count)).setCell ⟨s, 4, none⟩ (.slice v.ar t.reads.length v.cr)).setCell ⟨s, 5, none⟩ (.slice v.ah t.sets.length v.ch)).setCell ⟨s, 6, none⟩ (.int .i64 t.stamp)
theorem BT.put {X : World} {s : Nat} {v0 : TV} {t0 : T7} (h : BT X s v0 t0) (v : TV) (t : T7) : BT (putT X s v t) s v t := ((((((h.set0 t.id).set1 t.home).set2 t.phase).set3 t.count).set4 v.ar v.cr t.reads).set5 v.ah v.ch t.sets).set6 t.stamp
theorem putT_size (X : World) (s : Nat) (v : TV) (t : T7) : (putT X s v t).heap.size = X.heap.size := by simp [putT, World.setCell]
theorem putT_block {X : World} {s : Nat} {v : TV} {t : T7} {q : Nat} (hq : q ≠ s) : (putT X s v t).heap[q]? = X.heap[q]? := by
  unfold putT
  exact (Below.heap_setCell _ _ _ _ hq).trans ((Below.heap_setCell _ _ _ _ hq).trans ((Below.heap_setCell _ _ _ _ hq).trans ((Below.heap_setCell _ _ _ _ hq).trans ((Below.heap_setCell _ _ _ _ hq).trans ((Below.heap_setCell _ _ _ _ hq).trans (Below.heap_setCell _ _ _ _ hq))))))
theorem putT_below {B : Nat} {w X : World} {s : Nat} {v : TV} {t : T7} (h : Below B w X) (hs : B ≤ s) : Below B w (putT X s v t) := by
  unfold putT
  exact ((((((h.setCell (p := ⟨s, 0, none⟩) hs _).setCell (p := ⟨s, 1, none⟩) hs _).setCell (p := ⟨s, 2, none⟩) hs _).setCell (p := ⟨s, 3, none⟩) hs _).setCell (p := ⟨s, 4, none⟩) hs _).setCell (p := ⟨s, 5, none⟩) hs _).setCell (p := ⟨s, 6, none⟩) hs _
theorem OT.put {X : World} {B s : Nat} {v v' : TV} {t t' : T7} {PR PS : Nat → Prop} (h : OT X B v t PR PS) (hs : s < B) : OT (putT X s v' t') B v t PR PS := h.keep (by rw [putT_size]; exact Nat.le_refl _) (fun q _ hq => putT_block (by have := (h.of hq).1; omega))
def arrT (v : TV) (t : T7) : Array Value := #[.int .i64 t.id, .int .i64 t.home, .int .i64 t.phase, .int .i64 t.count, .slice v.ar t.reads.length v.cr, .slice v.ah t.sets.length v.ch, .int .i64 t.stamp]
end Go.Proofs.Ytcbfnajpcaipkaa.tx