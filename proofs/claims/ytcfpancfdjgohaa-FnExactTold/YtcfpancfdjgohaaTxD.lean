/- Transactions in memory: a row of Notes and a row of Sets; the laws' own copies, comparisons and marks of them. -/
import Derived.Test.YtcfpancfdjgohaaRows
import Derived.Test.YtcfpancfdjgohaaNoD
import Derived.WalkKit
import Derived.WalkSpells
import Derived.WalkLawsBesides
import Derived.Below
namespace Go.Proofs.Ytcfpancfdjgohaa
open Go.RowKit
structure T7 where
  id : Int
  home : Int
  phase : Int
  count : Int
  reads : List N5
  sets : List S5
  stamp : Int
/-- The value of a transaction, its two rows. -/
structure TV where
  ar : Option Addr
  cr : Nat
  ah : Option Addr
  ch : Nat
def TV.val (v : TV) (t : T7) : Value := .agg #[.int .i64 t.id, .int .i64 t.home, .int .i64 t.phase, .int .i64 t.count, .slice v.ar t.reads.length v.cr, .slice v.ah t.sets.length v.ch, .int .i64 t.stamp]
theorem Sl.later {w w' : World} {a : Option Addr} {n : Nat} {xs : List S5} (h : Sl w w.heap.size a n xs) (hb : Below w.heap.size w w') : Sl w' w'.heap.size a n xs := (h.below hb).mono hb.size
theorem SlNo.later {w w' : World} {a : Option Addr} {n : Nat} {xs : List N5} (h : SlNo w w.heap.size a n xs) (hb : Below w.heap.size w w') : SlNo w' w'.heap.size a n xs := (h.below hb).mono hb.size
structure SlT (w : World) (v : TV) (t : T7) : Prop where
  r : SlNo w w.heap.size v.ar t.reads.length t.reads
  s : Sl w w.heap.size v.ah t.sets.length t.sets
theorem SlT.later {w w' : World} {v : TV} {t : T7} (h : SlT w v t) (hb : Below w.heap.size w w') : SlT w' v t := ⟨h.r.later hb, h.s.later hb⟩
/-- No row is longer than a machine can hold. -/
structure TL (t : T7) : Prop where
  r : t.reads.length ≤ maxLen
  s : t.sets.length ≤ maxLen
/-- Rows of a call's own, in a block of P: none, or at the head of one. -/
def OwnNo (w : World) (P : Nat → Prop) (a : Option Addr) (xs : List N5) : Prop := xs = [] ∨ ∃ b, a = some ⟨b, 0, none⟩ ∧ P b ∧ b < w.heap.size ∧ NotesAt w b 0 xs ∧ Room w b (xs.length * 5)
def OwnSe (w : World) (P : Nat → Prop) (a : Option Addr) (xs : List S5) : Prop := xs = [] ∨ ∃ b, a = some ⟨b, 0, none⟩ ∧ P b ∧ b < w.heap.size ∧ SetsAt w b 0 xs ∧ Room w b (xs.length * 5)
theorem OwnNo.keep {w w' : World} {P : Nat → Prop} {a : Option Addr} {xs : List N5} (h : OwnNo w P a xs) (hs : w.heap.size ≤ w'.heap.size) (hk : ∀ q, q < w.heap.size → P q → w'.heap[q]? = w.heap[q]?) : OwnNo w' P a xs := by
  rcases h with h | ⟨b, ha, hp, hl, hn, hr⟩
  · exact .inl h
  · exact .inr ⟨b, ha, hp, Nat.lt_of_lt_of_le hl hs, hn.of_block (hk b hl hp), hr.of_block (hk b hl hp)⟩
theorem OwnSe.keep {w w' : World} {P : Nat → Prop} {a : Option Addr} {xs : List S5} (h : OwnSe w P a xs) (hs : w.heap.size ≤ w'.heap.size) (hk : ∀ q, q < w.heap.size → P q → w'.heap[q]? = w.heap[q]?) : OwnSe w' P a xs := by
  rcases h with h | ⟨b, ha, hp, hl, hn, hr⟩
  · exact .inl h
  · exact .inr ⟨b, ha, hp, Nat.lt_of_lt_of_le hl hs, hn.of_block (hk b hl hp), hr.of_block (hk b hl hp)⟩
theorem OwnNo.mono {w : World} {P Q : Nat → Prop} {a : Option Addr} {xs : List N5} (h : OwnNo w P a xs) (hp : ∀ q, q < w.heap.size → P q → Q q) : OwnNo w Q a xs := by
  rcases h with h | ⟨b, ha, hb, hl, hn, hr⟩
  · exact .inl h
  · exact .inr ⟨b, ha, hp b hl hb, hl, hn, hr⟩
theorem OwnSe.mono {w : World} {P Q : Nat → Prop} {a : Option Addr} {xs : List S5} (h : OwnSe w P a xs) (hp : ∀ q, q < w.heap.size → P q → Q q) : OwnSe w Q a xs := by
  rcases h with h | ⟨b, ha, hb, hl, hn, hr⟩
  · exact .inl h
  · exact .inr ⟨b, ha, hp b hl hb, hl, hn, hr⟩
theorem OwnNo.sl {w : World} {P : Nat → Prop} {a : Option Addr} {xs : List N5} (h : OwnNo w P a xs) : SlNo w w.heap.size a xs.length xs := by
  rcases h with e | ⟨b, ha, _, hl, hn, _⟩
  · exact ⟨rfl, .inl (by rw [e]; rfl)⟩
  · exact ⟨rfl, .inr ⟨b, 0, ha, hl, hn⟩⟩
theorem OwnSe.sl {w : World} {P : Nat → Prop} {a : Option Addr} {xs : List S5} (h : OwnSe w P a xs) : Sl w w.heap.size a xs.length xs := by
  rcases h with e | ⟨b, ha, _, hl, hn, _⟩
  · exact ⟨rfl, .inl (by rw [e]; rfl)⟩
  · exact ⟨rfl, .inr ⟨b, 0, ha, hl, hn⟩⟩
/-- The transaction of value v owns its two rows: in blocks of PR and PS, apart, none below B, all below the world's end. -/
structure OT (w : World) (B : Nat) (v : TV) (t : T7) (PR PS : Nat → Prop) : Prop where
  r : OwnNo w PR v.ar t.reads
  s : OwnSe w PS v.ah t.sets
  rs : ∀ q, PR q → ¬ PS q
  rB : ∀ q, PR q → B ≤ q ∧ q < w.heap.size
  sB : ∀ q, PS q → B ≤ q ∧ q < w.heap.size
def OfT (PR PS : Nat → Prop) (q : Nat) : Prop := PR q ∨ PS q
theorem OT.of {w : World} {B : Nat} {v : TV} {t : T7} {PR PS : Nat → Prop} (h : OT w B v t PR PS) {q : Nat} (hq : OfT PR PS q) : B ≤ q ∧ q < w.heap.size := hq.elim (h.rB q) (h.sB q)
theorem OT.sl {w : World} {B : Nat} {v : TV} {t : T7} {PR PS : Nat → Prop} (h : OT w B v t PR PS) : SlT w v t := ⟨h.r.sl, h.s.sl⟩
theorem OT.keep {w w' : World} {B : Nat} {v : TV} {t : T7} {PR PS : Nat → Prop} (h : OT w B v t PR PS) (hs : w.heap.size ≤ w'.heap.size) (hk : ∀ q, q < w.heap.size → OfT PR PS q → w'.heap[q]? = w.heap[q]?) : OT w' B v t PR PS :=
  ⟨h.r.keep hs (fun q hq hp => hk q hq (.inl hp)), h.s.keep hs (fun q hq hp => hk q hq (.inr hp)), h.rs, fun q hq => ⟨(h.rB q hq).1, Nat.lt_of_lt_of_le (h.rB q hq).2 hs⟩, fun q hq => ⟨(h.sB q hq).1, Nat.lt_of_lt_of_le (h.sB q hq).2 hs⟩⟩
theorem OT.later {w w' : World} {B : Nat} {v : TV} {t : T7} {PR PS : Nat → Prop} (h : OT w B v t PR PS) (hb : Below w.heap.size w w') : OT w' B v t PR PS := h.keep hb.size (fun q hq _ => hb.block q hq)
theorem OT.mono {w : World} {B B' : Nat} {v : TV} {t : T7} {PR PS : Nat → Prop} (h : OT w B v t PR PS) (hb : B' ≤ B) : OT w B' v t PR PS := ⟨h.r, h.s, h.rs, fun q hq => ⟨Nat.le_trans hb (h.rB q hq).1, (h.rB q hq).2⟩, fun q hq => ⟨Nat.le_trans hb (h.sB q hq).1, (h.sB q hq).2⟩⟩
/-- A box that holds a transaction, by its block. -/
structure BT (X : World) (s : Nat) (v : TV) (t : T7) : Prop where
  c0 : X.cell? ⟨s, 0, none⟩ = some (.int .i64 t.id)
  c1 : X.cell? ⟨s, 1, none⟩ = some (.int .i64 t.home)
  c2 : X.cell? ⟨s, 2, none⟩ = some (.int .i64 t.phase)
  c3 : X.cell? ⟨s, 3, none⟩ = some (.int .i64 t.count)
  c4 : X.cell? ⟨s, 4, none⟩ = some (.slice v.ar t.reads.length v.cr)
  c5 : X.cell? ⟨s, 5, none⟩ = some (.slice v.ah t.sets.length v.ch)
  c6 : X.cell? ⟨s, 6, none⟩ = some (.int .i64 t.stamp)
  fz : ∀ j, X.frozen? ⟨s, j, none⟩ = false
  lt : s < X.heap.size
theorem BT.of_block {X Y : World} {s : Nat} {v : TV} {t : T7} (h : BT X s v t) (hb : Y.heap[s]? = X.heap[s]?) (hs : X.heap.size ≤ Y.heap.size) : BT Y s v t := by
  have c : ∀ {j : Nat} {u : Value}, X.cell? ⟨s, j, none⟩ = some u → Y.cell? ⟨s, j, none⟩ = some u := fun {j u} h => (World.cell?_of_block (a := ⟨s, j, none⟩) hb).trans h
  exact ⟨c h.c0, c h.c1, c h.c2, c h.c3, c h.c4, c h.c5, c h.c6, fun j => (World.frozen?_of_block (a := ⟨s, j, none⟩) hb).trans (h.fz j), Nat.lt_of_lt_of_le h.lt hs⟩
theorem BT.later {X Y : World} {s : Nat} {v : TV} {t : T7} (h : BT X s v t) (hb : Below X.heap.size X Y) : BT Y s v t := h.of_block (hb.block _ h.lt) hb.size
theorem BT.box (X : World) (v : TV) (t : T7) (T : TypeId) : BT (X.alloc (.cells #[.int .i64 t.id, .int .i64 t.home, .int .i64 t.phase, .int .i64 t.count, .slice v.ar t.reads.length v.cr, .slice v.ah t.sets.length v.ch, .int .i64 t.stamp] T)) X.heap.size v t := by
  refine ⟨by go_simp, by go_simp, by go_simp, by go_simp, by go_simp, by go_simp, by go_simp, fun j => by go_simp, by simp⟩
/-- An empty box. -/
theorem BT.zero (X : World) (T : TypeId) : BT (X.alloc (.cells #[.int .i64 0, .int .i64 0, .int .i64 0, .int .i64 0, .slice none 0 0, .slice none 0 0, .int .i64 0] T)) X.heap.size ⟨none, 0, none, 0⟩ ⟨0, 0, 0, 0, [], [], 0⟩ := BT.box X ⟨none, 0, none, 0⟩ ⟨0, 0, 0, 0, [], [], 0⟩ T
/-- How much the laws let a transaction hold. -/
def szT (t : T7) : Nat := t.reads.length + t.sets.length
set_option maxHeartbeats 1000000 in
theorem szTx_any (w : World) (v : TV) (t : T7) (hl : TL t) : Calls Try.prog 25 #[v.val t, .int .i64 1048576] w fun e w' => e = .returned (.int .i64 (leftR 1048576 (szT t))) ∧ Below w.heap.size w w' := by
  obtain ⟨ar, cr, ah, ch⟩ := v
  simp only [TV.val]
  have b0 : Below w.heap.size w (w.alloc (.cells #[.int .i64 t.id, .int .i64 t.home, .int .i64 t.phase, .int .i64 t.count, .slice ar t.reads.length cr, .slice ah t.sets.length ch, .int .i64 t.stamp] 51)) := (Below.refl _ _).alloc (Nat.le_refl _) _
  have B0 := hidOf b0
  have h1 := szNoteS_l (w.alloc (.cells #[.int .i64 t.id, .int .i64 t.home, .int .i64 t.phase, .int .i64 t.count, .slice ar t.reads.length cr, .slice ah t.sets.length ch, .int .i64 t.stamp] 51)) ar t.reads.length cr 1048576 hl.r (Nat.le_refl _)
  have h2 := fun W l => szSetS_l W ah t.sets.length ch l hl.s
  have HS : Hid (szT t = t.reads.length + t.sets.length) := rfl
  clear b0 hl
  by_cases g1 : t.reads.length ≤ 1048576
  · rw [leftR_yes g1] at h1
    have d1 : decide (((1048576 - t.reads.length : Nat) : Int) < 0) = false := by simp
    have h3 := h2 (w.alloc (.cells #[.int .i64 t.id, .int .i64 t.home, .int .i64 t.phase, .int .i64 t.count, .slice ar t.reads.length cr, .slice ah t.sets.length ch, .int .i64 t.stamp] 51)) (1048576 - t.reads.length) (by omega)
    by_cases g2 : t.sets.length ≤ 1048576 - t.reads.length
    · rw [leftR_yes g2] at h3
      have d2 : decide (((1048576 - t.reads.length - t.sets.length : Nat) : Int) < 0) = false := by simp
      have KE : Hid (leftR 1048576 (szT t) = ((1048576 - t.reads.length - t.sets.length : Nat) : Int)) := by unfold Hid; rw [leftR_yes (by rw [HS.out]; omega), HS.out]; omega
      clear g1 g2
      generalize 1048576 - t.reads.length - t.sets.length = l2 at *
      generalize 1048576 - t.reads.length = l1 at *
      go_enter Try.func25, Try.ntmps25
      go_wp2_with fail
      refine h1.mono ?_
      rintro e w1 ⟨rfl, rfl⟩
      go_wp2_with fail
      refine h3.mono ?_
      rintro e w2 ⟨rfl, rfl⟩
      go_wp2
      go_ret
      exact ⟨by rw [KE.out]; rfl, B0.out⟩
    · rw [leftR_no g2] at h3
      have KE : Hid (leftR 1048576 (szT t) = -1) := by unfold Hid; rw [leftR_no (by rw [HS.out]; omega)]
      clear g1 g2
      generalize 1048576 - t.reads.length = l1 at *
      go_enter Try.func25, Try.ntmps25
      go_wp2_with fail
      refine h1.mono ?_
      rintro e w1 ⟨rfl, rfl⟩
      go_wp2_with fail
      refine h3.mono ?_
      rintro e w2 ⟨rfl, rfl⟩
      go_wp2
      go_ret
      exact ⟨by rw [KE.out]; rfl, B0.out⟩
  · rw [leftR_no g1] at h1
    have KE : Hid (leftR 1048576 (szT t) = -1) := by unfold Hid; rw [leftR_no (by rw [HS.out]; omega)]
    clear g1
    go_enter Try.func25, Try.ntmps25
    go_wp2_with fail
    refine h1.mono ?_
    rintro e w1 ⟨rfl, rfl⟩
    go_wp2
    go_ret
    exact ⟨by rw [KE.out]; rfl, B0.out⟩
end Go.Proofs.Ytcfpancfdjgohaa
