/- CluD; Until; OwnI; TakeA; NumOwn; CpyG; CpyS; CpyW: joined. -/
import Derived.Test.YtnhjgomfkfehgaaGreatDoorRows
import Derived.Test.YtnhjgomfkfehgaaGreatDoorJ5ExactCommit
import Derived.Test.YtnhjgomfkfehgaaGreatDoorJ6ExactCommit
import Derived.WalkKit
import Derived.WalkSpells
import Derived.WalkLawsBesides
import Derived.Below
import Derived.OrdersHeld
import Derived.Deep.RegionHeld
import Derived.Deep.Upon
import Derived.Deep.CutRange
import Derived.Test.YtnhjgomfkfehgaaGreatDoorJ2ExactCommit
import Derived.Maps.AppendAt
import Derived.Laws.OwnMore
import Derived.Deep.AppendLies
import Derived.Test.YtnhjgomfkfehgaaGreatDoorJ4ExactCommit
import Derived.Lib.QuietBelow
import Derived.BigQuiet
namespace Go.Proofs.YtnhjgomfkfehgaaGreatDoor
open Go.RowKit
def atM (ms : List M4) (i : Nat) : M4 := ms[i]?.getD ⟨false, [], [], []⟩
theorem atM_of {ms : List M4} {i : Nat} (h : i < ms.length) : ms[i]? = some (atM ms i) := by simp [atM, List.getElem?_eq_getElem h]
def atT (ts : List tx.T7) (i : Nat) : tx.T7 := ts[i]?.getD ⟨0, 0, 0, 0, [], [], 0⟩
theorem atT_of {ts : List tx.T7} {i : Nat} (h : i < ts.length) : ts[i]? = some (atT ts i) := by simp [atT, List.getElem?_eq_getElem h]
def servB (ms : List M4) (r : Nat) (z : Int) : Bool := decide (z < (ms.length : Int)) && (!(atM ms z.toNat).alive || hasC (atM ms z.toNat) (r : Int))
def placB (ms : List M4) (r : Nat) (zs : List Int) : Bool := (List.range zs.length).all fun j => servB ms r (atN zs j)
def placedB (zss : List (List Int)) (ms : List M4) : Bool := (List.range zss.length).all fun r => placB ms r (atP zss r)
def readsB (n : Nat) (xs : List tx.N5) : Bool := (List.range xs.length).all fun j => decide ((tx.atNo xs j).region < (n : Int))
def setsB (n : Nat) (xs : List S5) : Bool := (List.range xs.length).all fun j => decide ((tx.atSe xs j).region < (n : Int))
def txAtB (k : C6) (i : Nat) : Bool := tx.txB (atT k.txs i) && (decide (i = 0) || decide ((atT k.txs (i - 1)).id < (atT k.txs i).id)) && decide ((atT k.txs i).home < (k.machines.length : Int)) && decide ((atT k.txs i).stamp ≤ k.clock) && readsB k.places.length (atT k.txs i).reads && setsB k.places.length (atT k.txs i).sets
def machsB (ms : List M4) : Bool := (List.range ms.length).all fun i => machB (atM ms i)
def txsB (k : C6) : Bool := (List.range k.txs.length).all (txAtB k)
def clusterB (k : C6) : Bool := inB 1 1000000 k.config && inB 0 1000000 k.clock && decide (1 ≤ k.machines.length) && decide (k.machines.length ≤ 8) && placesB k.places && decide (k.txs.length ≤ 60) && machsB k.machines && placedB k.places k.machines && txsB k
theorem places_z {zss : List (List Int)} (h : placesB zss = true) {r j : Nat} (hr : r < zss.length) (hj : j < (atP zss r).length) : 0 ≤ atN (atP zss r) j ∧ atN (atP zss r) j ≤ 7 := by
  simp only [placesB, Bool.and_eq_true] at h
  have h1 := List.all_eq_true.1 h.2 r (List.mem_range.2 hr)
  simp only [placeB, Bool.and_eq_true] at h1
  have h2 := List.all_eq_true.1 h1.2 j (List.mem_range.2 hj)
  simp only [goodAt, Bool.and_eq_true] at h2
  have := inB_iff.1 h2.1
  omega
end Go.Proofs.YtnhjgomfkfehgaaGreatDoor
namespace Go.Proofs.YtnhjgomfkfehgaaGreatDoor
def wpUntil (P : Program) (md : Region.Mode) (ops : Array Oper) (Q : Exit → Act → World → Prop) (S : World → Prop) (s : Nat) : Nat → Array Bool → Act → World → Prop
  | 0, L, a, w => Region.ready md ops L = [] ∧ Q .normal a w
  | f + 1, L, a, w => (Region.ready md ops L = [] → Q .normal a w) ∧ ∀ i ∈ Region.ready md ops L, wpOp P ops Q i (fun a' w' => (i ≠ s → S w') ∧ wpUntil P md ops Q S s f (L.setIfInBounds i true) a' w') a w
theorem wpAny_of_until {P : Program} {ops : Array Oper} {Q : Exit → Act → World → Prop} {md : Region.Mode} {S : World → Prop} {s : Nat} : ∀ (f : Nat) (L : Array Bool) (a : Act) (w : World), wpUntil P md ops Q S s f L a w → wpAny P md ops Q f L a w := by
  intro f
  induction f with
  | zero => exact fun _ _ _ h => h
  | succ f ih => exact fun L a w h => ⟨h.1, fun i hi => wpOp_mono (fun a' w' k => ih _ a' w' k.2) (h.2 i hi)⟩
def waitsB (md : Region.Mode) (ops : Array Oper) (s i : Nat) : Bool := match ops[s]? with
  | some o => o.after.any fun e => Region.binds md e && e.on == i
  | none => false
theorem not_ready {md : Region.Mode} {ops : Array Oper} {i j : Nat} {oj : Oper} {L : Array Bool} (hr : i ∈ Region.ready md ops L) (hall : ∀ e ∈ oj.after, Region.binds md e = true → L.getD e.on false = true) (hj : ops[j]? = some oj) (hw : waitsB md ops j i = true) : False := by
  simp only [waitsB, hj, Array.any_eq_true, Bool.and_eq_true, beq_iff_eq] at hw
  obtain ⟨k, hk, hb, he⟩ := hw
  have h1 := hall _ (Array.getElem_mem hk) hb
  have h0 := (mem_ready.1 hr).1
  rw [he] at h1
  rcases Nat.lt_or_ge i L.size with h | h
  · simp [h] at h0 h1; rw [h0] at h1; cases h1
  · simp [Array.getElem?_eq_none h] at h1
theorem wpUntil_first {P : Program} {ops : Array Oper} {Q : Exit → Act → World → Prop} {md : Region.Mode} {S : World → Prop} {s : Nat} {i : Nat} {o : Oper} {v : Value} (ho : ops[i]? = some o) (hw : waitsB md ops s i = true) (hsel : ∀ (j : Nat) (o : Oper) cs b, ops[j]? = some o → o.op ≠ .select cs b) (hQ : ∀ c a w, Q (.panic c) (a.put o.dst v) w → Q (.panic c) a w) :
    ∀ (f : Nat) (L : Array Bool) (a : Act) (w : World),
      (∀ j oj, ops[j]? = some oj → j ≠ i → L.getD j true = false → (∀ e ∈ oj.after, Region.binds md e = true → e.on ≠ i) → o.apart ops oj = true) →
      i ∈ Region.ready md ops L → YieldsIf P ops S o v a → S w → wpUntil P md ops Q S s f (L.setIfInBounds i true) (a.put o.dst v) w → wpUntil P md ops Q S s (f + 1) L a w := by
  intro f
  induction f with
  | zero =>
    intro L a w _ hr hy hS H
    refine ⟨fun h => absurd hr (by rw [h]; simp), fun j hj => ?_⟩
    by_cases e : j = i
    · rw [e]; exact hy.wpOp ho hS ⟨fun _ => hS, H⟩
    · have := ready_mono hj e
      rw [H.1] at this
      cases this
  | succ f ih =>
    intro L a w hfree hr hy hS H
    refine ⟨fun h => absurd hr (by rw [h]; simp), fun j hj => ?_⟩
    by_cases e : j = i
    · rw [e]; exact hy.wpOp ho hS ⟨fun _ => hS, H⟩
    · obtain ⟨hun, oj, hoj, hall⟩ := mem_ready.1 hj
      have hjs : j ≠ s := fun e' => by rw [e'] at hoj; exact not_ready hr hall hoj hw
      have hno : ∀ x ∈ oj.after, Region.binds md x = true → x.on ≠ i := fun x hx hb he => not_ready hr hall hoj (by
        simp only [waitsB, hoj, Array.any_eq_true, Bool.and_eq_true, beq_iff_eq]
        obtain ⟨k, hk, rfl⟩ := Array.getElem_of_mem hx
        exact ⟨k, hk, hb, he⟩)
      have step := wpOp_putIf hoj (hfree j oj hoj e hun hno) (fun cs b => hsel i o cs b ho) (fun cs b => hsel j oj cs b hoj) hQ hy (H.2 j (ready_mono hj e))
      refine wpOp_mono (fun a' w' k => ⟨k.2.1, ih _ a' w' (fun x ox hx hxi hxu hxn => hfree x ox hx hxi ?_ hxn) (ready_mono hr (Ne.symm e)) k.1 (k.2.1 hjs) ?_⟩) step
      · by_cases h : j = x
        · rw [← h]; exact hun
        · rw [getD_set_ne true h] at hxu; exact hxu
      · rw [Array.setIfInBounds_comm _ _ e]; exact k.2.2
theorem wpUntil_take {P : Program} {ops : Array Oper} {Q : Exit → Act → World → Prop} {md : Region.Mode} {S : World → Prop} {s : Nat} {i : Nat} {o : Oper} {v : Value} {f : Nat} {L : Array Bool} {a : Act} {w : World} (ho : ops[i]? = some o) (hc : (waitsB md ops s i && Region.noSelect ops && Region.free md ops L i && (Region.ready md ops L).contains i) = true)
    (hQ : ∀ c a w, Q (.panic c) (a.put o.dst v) w → Q (.panic c) a w) (hy : YieldsIf P ops S o v a) (hS : S w) (h : wpUntil P md ops Q S s f (L.setIfInBounds i true) (a.put o.dst v) w) : wpUntil P md ops Q S s (f + 1) L a w := by
  simp only [Bool.and_eq_true] at hc
  obtain ⟨⟨⟨h1, h2⟩, h3⟩, h4⟩ := hc
  exact wpUntil_first ho h1 (Region.noSelect_spec h2) hQ f L a w (Region.free_spec ho h3) (by simpa using h4) hy hS h
def AllU (P : Program) (md : Region.Mode) (ops : Array Oper) (Q : Exit → Act → World → Prop) (S : World → Prop) (s f : Nat) (L : Array Bool) (a : Act) (w : World) (rs : List Nat) : Prop :=
  ∀ i ∈ rs, wpOp P ops Q i (fun a' w' => (i ≠ s → S w') ∧ wpUntil P md ops Q S s f (L.setIfInBounds i true) a' w') a w
theorem AllU.nil {P : Program} {ops : Array Oper} {Q : Exit → Act → World → Prop} {md : Region.Mode} {S : World → Prop} {s : Nat} {f : Nat} {L : Array Bool} {a : Act} {w : World} : AllU P md ops Q S s f L a w [] := fun _ h => by cases h
theorem AllU.cons {P : Program} {ops : Array Oper} {Q : Exit → Act → World → Prop} {md : Region.Mode} {S : World → Prop} {s : Nat} {f : Nat} {L : Array Bool} {a : Act} {w : World} {i : Nat} {o : Oper} {rs : List Nat} (ho : ops[i]? = some o)
    (h : ∀ K' : Act → World → Prop, Shut (∀ a w, (i ≠ s → S w) → wpUntil P md ops Q S s f (L.setIfInBounds i true) a w → K' a w) → if Region.wanted o (yielded ops a.tmps) = true then Oper.wp P o a w K' Q else K' (a.put o.dst undef) w)
    (hs : AllU P md ops Q S s f L a w rs) : AllU P md ops Q S s f L a w (i :: rs) := fun j hj => by
  rcases List.mem_cons.1 hj with rfl | hj
  · exact wpOp_step ho (fun K' hK => h K' (fun a w hS hW => hK a w ⟨hS, hW⟩))
  · exact hs j hj
theorem wpUntil_ready {P : Program} {ops : Array Oper} {Q : Exit → Act → World → Prop} {md : Region.Mode} {S : World → Prop} {s : Nat} {rs : List Nat} {f : Nat} {L : Array Bool} {a : Act} {w : World} (hr : Region.ready md ops L = rs) (hne : rs ≠ []) (h : AllU P md ops Q S s f L a w rs) : wpUntil P md ops Q S s (f + 1) L a w :=
  ⟨fun h0 => absurd (hr.symm.trans h0) hne, fun i hi => h i (by rw [← hr]; exact hi)⟩
theorem wpUntil_done {P : Program} {ops : Array Oper} {Q : Exit → Act → World → Prop} {md : Region.Mode} {S : World → Prop} {s : Nat} {L : Array Bool} {a : Act} {w : World} (hr : Region.ready md ops L = []) (h : Q .normal a w) (f : Nat) : wpUntil P md ops Q S s f L a w := by
  cases f with
  | zero => exact ⟨hr, h⟩
  | succ f => exact ⟨fun _ => h, fun i hi => by rw [hr] at hi; cases hi⟩
theorem wp_region_until {P : Program} {ops : Array Oper} {Q : Exit → Act → World → Prop} {id : Nat} {a : Act} {w : World} (s : Nat) (S : World → Prop) (hm : P.follows .mixedOrders = true) (h : wpUntil P .any ops Q S s ops.size (Array.replicate ops.size false) a w.drew) : (Code.region id ops true).wp P Q a w :=
  wp_region_any hm (wpAny_of_until _ _ _ _ h)
end Go.Proofs.YtnhjgomfkfehgaaGreatDoor
namespace Go.Proofs.YtnhjgomfkfehgaaGreatDoor
open Go.RowKit
theorem appendN (W : World) (base : Nat) (a0 : Option Addr) (c0 : Nat) (h : W.ownsRow base 2 1 (.slice a0 0 c0) 0 []) (zs : List Int) (hm : zs.length ≤ 1048576) (ty : TypeId) (a : Option Addr) (k : Nat) (src : SlN W W.heap.size a zs.length zs) (hbase : base ≤ W.heap.size) :
    ∃ a' c' W', (Builtin.append_ #[60, 60] ty #[.slice a0 0 c0, .slice a zs.length k]).run Tryz.prog W = .ok (.slice a' zs.length c') W' ∧ W'.ownsRow base 2 1 (.slice a' zs.length c') zs.length (zs.map (Value.int .i64)) ∧ W.grownBy W' (Value.slice a0 0 c0).ownBlock ∧ ((Value.slice a' zs.length c').ownBlock = (Value.slice a0 0 c0).ownBlock ∨ (Value.slice a' zs.length c').ownBlock = some W.heap.size) := by
  obtain ⟨i0, hi0, hz0, hz1, hz2⟩ := partsOf infoI64
  by_cases e : zs = []
  · subst e
    refine ⟨a0, c0, W, ?_, h, ⟨rfl, rfl, rfl, Nat.le_refl _, fun _ _ _ => rfl⟩, .inl rfl⟩
    refine run_append_nothing W 60 60 ty 2 i0 Tryz.underlying60 hi0 a0 0 c0 (Nat.zero_le _) (.slice a 0 k) ?_
    cases a with
    | none => exact Src.ofNil W Tryz.underlying60 k
    | some x => exact Src.ofSlice W Tryz.underlying60 x 0 k [] (by simp) (fun j u hu => by simp at hu) (fun u hu => by cases hu)
  · have hpos : 0 < zs.length := List.length_pos_iff.2 e
    obtain ⟨_, src⟩ := src
    rcases src with src | ⟨b, off, rfl, hb, hx⟩
    · omega
    obtain ⟨q, cap, W', h1, h2, h3, h4, h5, h6, h7, h8, h9⟩ := appendX (cells := fun z : Int => [Value.int .i64 z]) (fun _ => rfl) (fun s u hu => by
      simp only [List.mem_cons, List.not_mem_nil, or_false] at hu
      subst hu; rfl) (by decide) Tryz.underlying60 hi0 hz0 hz1 hz2 rfl (by decide) h zs hpos hm ty b off k (fun i s e t u hu => by
        rcases t with _ | t
        · simp at hu; subst hu; rw [Nat.mul_one, Nat.add_zero]; exact hx i s e
        · simp at hu) hbase
    have hfm : zs.flatMap (fun z : Int => [Value.int .i64 z]) = zs.map (Value.int .i64) := List.map_eq_flatMap.symm
    rw [hfm] at h9
    refine ⟨_, cap, W', h1, h9, h7, ?_⟩
    rcases h8 with e | e
    · exact .inl e.symm
    · exact .inr (by rw [e]; rfl)
structure B3 (s p : Nat) (alive : Bool) (X : World) (vk vr vd : Value) : Prop where
  r0 : X.cell? ⟨s + 1, 0, none⟩ = some (.slice none 0 0)
  r1 : X.cell? ⟨s + 1, 1, none⟩ = some (.bool false)
  r2 : X.cell? ⟨s + 1, 2, none⟩ = some (.slice none 0 0)
  r3 : X.cell? ⟨s + 1, 3, none⟩ = some (.slice none 0 0)
  fr : ∀ j, X.frozen? ⟨s + 1, j, none⟩ = false
  o0 : X.cell? ⟨p, 0, none⟩ = some vr
  o1 : X.cell? ⟨p, 1, none⟩ = some (.bool alive)
  o2 : X.cell? ⟨p, 2, none⟩ = some vk
  o3 : X.cell? ⟨p, 3, none⟩ = some vd
  fo : ∀ j, X.frozen? ⟨p, j, none⟩ = false
  pl : s + 2 ≤ p
  pX : p < X.heap.size
theorem B3.keep {s p : Nat} {alive : Bool} {X Y : World} {vk vr vd : Value} (h : B3 s p alive X vk vr vd) (hs : X.heap.size ≤ Y.heap.size) (er : Y.heap[s + 1]? = X.heap[s + 1]?) (ep : Y.heap[p]? = X.heap[p]?) : B3 s p alive Y vk vr vd := by
  have c : ∀ {b j : Nat} {u : Value}, Y.heap[b]? = X.heap[b]? → X.cell? ⟨b, j, none⟩ = some u → Y.cell? ⟨b, j, none⟩ = some u := fun {b j u} e h => (World.cell?_of_block (a := ⟨b, j, none⟩) e).trans h
  exact ⟨c er h.r0, c er h.r1, c er h.r2, c er h.r3, fun j => (World.frozen?_of_block (a := ⟨s + 1, j, none⟩) er).trans (h.fr j), c ep h.o0, c ep h.o1, c ep h.o2, c ep h.o3, fun j => (World.frozen?_of_block (a := ⟨p, j, none⟩) ep).trans (h.fo j), h.pl, Nat.lt_of_lt_of_le h.pX hs⟩
theorem B3.later {s p : Nat} {alive : Bool} {X Y : World} {vk vr vd : Value} (h : B3 s p alive X vk vr vd) (hb : Below X.heap.size X Y) : B3 s p alive Y vk vr vd :=
  h.keep hb.size (hb.block _ (by have := h.pl; have := h.pX; omega)) (hb.block _ h.pX)
theorem B3.setK {s p : Nat} {alive : Bool} {X : World} {vk vr vd : Value} (h : B3 s p alive X vk vr vd) (u : Value) : B3 s p alive (X.setCell ⟨p, 2, none⟩ u) u vr vd :=
  have hp := h.pl
  have far : ∀ j, (X.setCell ⟨p, 2, none⟩ u).cell? ⟨s + 1, j, none⟩ = X.cell? ⟨s + 1, j, none⟩ := fun j => cell_set_far (by show p ≠ s + 1; omega) u
  ⟨(far 0).trans h.r0, (far 1).trans h.r1, (far 2).trans h.r2, (far 3).trans h.r3, fun j => by rw [World.frozen?_setCell]; exact h.fr j, (cell_set_other (by omega)).trans h.o0, (cell_set_other (by omega)).trans h.o1, cell_set_same h.o2, (cell_set_other (by omega)).trans h.o3, fun j => by rw [World.frozen?_setCell]; exact h.fo j, h.pl, by simpa [World.setCell] using h.pX⟩
theorem B3.setR {s p : Nat} {alive : Bool} {X : World} {vk vr vd : Value} (h : B3 s p alive X vk vr vd) (u : Value) : B3 s p alive (X.setCell ⟨p, 0, none⟩ u) vk u vd :=
  have hp := h.pl
  have far : ∀ j, (X.setCell ⟨p, 0, none⟩ u).cell? ⟨s + 1, j, none⟩ = X.cell? ⟨s + 1, j, none⟩ := fun j => cell_set_far (by show p ≠ s + 1; omega) u
  ⟨(far 0).trans h.r0, (far 1).trans h.r1, (far 2).trans h.r2, (far 3).trans h.r3, fun j => by rw [World.frozen?_setCell]; exact h.fr j, cell_set_same h.o0, (cell_set_other (by omega)).trans h.o1, (cell_set_other (by omega)).trans h.o2, (cell_set_other (by omega)).trans h.o3, fun j => by rw [World.frozen?_setCell]; exact h.fo j, h.pl, by simpa [World.setCell] using h.pX⟩
def gz : Nat → Nat := fun _ => 0
theorem MR.start {base p : Nat} {X : World} {vd : Value} {zs : List Int} (hd : X.ownsRow base 2 1 vd zs.length (zs.map (Value.int .i64))) (hp : vd.ownBlock ≠ some p) : MR base p X (.slice none 0 0) (.slice none 0 0) vd [] [] zs gz gz :=
  ⟨GrowG.nil _ _ _, GrowG.nil _ _ _, hd, fun q h => by rcases h with h | ⟨i, hi, _⟩; cases h; simp at hi, fun q h => by rcases h with h | ⟨i, hi, _⟩; cases h; simp at hi, fun q h => by rcases h with h | ⟨i, hi, _⟩; cases h; simp at hi, fun q h => by rcases h with h | ⟨i, hi, _⟩; cases h; simp at hi, fun q h => by rcases h with h | ⟨i, hi, _⟩; cases h; simp at hi, hp⟩
structure MSm (m : M4) : Prop where
  k : m.copies.length ≤ 6
  ks : ∀ c ∈ m.copies, c.cells.length = 6
  r : m.log.length ≤ 200
  rs : ∀ c ∈ m.log, 0 < c.sets.length ∧ c.sets.length ≤ 12
  n : m.cleared.length ≤ 60
theorem zeroBox {X : World} {r : Nat} (h : X.heap[r]? = some (.cells #[.slice none 0 0, .bool false, .slice none 0 0, .slice none 0 0] 193 (0, 0))) :
    X.cell? ⟨r, 0, none⟩ = some (.slice none 0 0) ∧ X.cell? ⟨r, 1, none⟩ = some (.bool false) ∧ X.cell? ⟨r, 2, none⟩ = some (.slice none 0 0) ∧ X.cell? ⟨r, 3, none⟩ = some (.slice none 0 0) ∧ ∀ j, X.frozen? ⟨r, j, none⟩ = false :=
  ⟨by rw [cell_of_row X r 0 _ _ _ h]; rfl, by rw [cell_of_row X r 1 _ _ _ h]; rfl, by rw [cell_of_row X r 2 _ _ _ h]; rfl, by rw [cell_of_row X r 3 _ _ _ h]; rfl, fun j => frozen_of_row X r j _ _ h⟩
theorem first_A {s : Nat} {alive : Bool} {X : World} {vd : Value} {zs : List Int} (hX : s + 2 ≤ X.heap.size) (hr : X.heap[s + 1]? = some (.cells #[.slice none 0 0, .bool false, .slice none 0 0, .slice none 0 0] 193 (0, 0))) (hd : X.ownsRow (s + 2) 2 1 vd zs.length (zs.map (Value.int .i64))) :
    B3 s X.heap.size alive (X.alloc (.cells #[.slice none 0 0, .bool alive, .slice none 0 0, vd] 193)) (.slice none 0 0) (.slice none 0 0) vd ∧ MR (s + 2) X.heap.size (X.alloc (.cells #[.slice none 0 0, .bool alive, .slice none 0 0, vd] 193)) (.slice none 0 0) (.slice none 0 0) vd [] [] zs gz gz := by
  have bA : Below X.heap.size X (X.alloc (.cells #[.slice none 0 0, .bool alive, .slice none 0 0, vd] 193)) := (Below.refl _ _).alloc (Nat.le_refl _) _
  obtain ⟨z0, z1, z2, z3, zf⟩ := zeroBox ((bA.block (s + 1) (by omega)).trans hr)
  refine ⟨⟨z0, z1, z2, z3, zf, by go_simp, by go_simp, by go_simp, by go_simp, by intro j; go_simp, hX, by simp⟩, MR.start ?_ (fun e => by have := (World.ownsRow.lt hd _ e).2; omega)⟩
  refine ⟨hd.1, hd.2.imp id ?_⟩
  rintro ⟨q, cap, cur, rfl, l, hg, r⟩
  exact ⟨q, cap, cur, rfl, l, (bA.block q (World.ownsRow.lt hd q rfl).2).trans hg, r⟩
theorem first_B {s p : Nat} {alive : Bool} {X : World} {vd : Value} {zs : List Int} (hp : s + 2 ≤ p) (hpX : p < X.heap.size) (hr : X.heap[s + 1]? = some (.cells #[.slice none 0 0, .bool false, .slice none 0 0, .slice none 0 0] 193 (0, 0))) (hz : X.heap[p]? = some (.cells #[.slice none 0 0, .bool false, .slice none 0 0, .slice none 0 0] 193 (0, 0))) (hd : X.ownsRow (s + 2) 2 1 vd zs.length (zs.map (Value.int .i64))) (hne : vd.ownBlock ≠ some p) :
    B3 s p alive ((((X.setCell ⟨p, 0, none⟩ (.slice none 0 0)).setCell ⟨p, 1, none⟩ (.bool alive)).setCell ⟨p, 2, none⟩ (.slice none 0 0)).setCell ⟨p, 3, none⟩ vd) (.slice none 0 0) (.slice none 0 0) vd ∧ MR (s + 2) p ((((X.setCell ⟨p, 0, none⟩ (.slice none 0 0)).setCell ⟨p, 1, none⟩ (.bool alive)).setCell ⟨p, 2, none⟩ (.slice none 0 0)).setCell ⟨p, 3, none⟩ vd) (.slice none 0 0) (.slice none 0 0) vd [] [] zs gz gz := by
  obtain ⟨z0, z1, z2, z3, zf⟩ := zeroBox hr
  obtain ⟨y0, y1, y2, y3, yf⟩ := zeroBox hz
  have f : ∀ j, ((((X.setCell ⟨p, 0, none⟩ (.slice none 0 0)).setCell ⟨p, 1, none⟩ (.bool alive)).setCell ⟨p, 2, none⟩ (.slice none 0 0)).setCell ⟨p, 3, none⟩ vd).cell? ⟨s + 1, j, none⟩ = X.cell? ⟨s + 1, j, none⟩ := fun j => by
    rw [cell_set_far (by show p ≠ s + 1; omega), cell_set_far (by show p ≠ s + 1; omega), cell_set_far (by show p ≠ s + 1; omega), cell_set_far (by show p ≠ s + 1; omega)]
  refine ⟨⟨(f 0).trans z0, (f 1).trans z1, (f 2).trans z2, (f 3).trans z3, fun j => by simp only [World.frozen?_setCell]; exact zf j, ?_, ?_, ?_, ?_, fun j => by simp only [World.frozen?_setCell]; exact yf j, hp, by simpa [World.setCell] using hpX⟩, (((MR.start hd hne).set.set).set).set⟩
  · rw [cell_set_other (by omega), cell_set_other (by omega), cell_set_other (by omega)]; exact cell_set_same y0
  · rw [cell_set_other (by omega), cell_set_other (by omega)]; exact cell_set_same (by rw [cell_set_other (by omega)]; exact y1)
  · rw [cell_set_other (by omega)]; exact cell_set_same (by rw [cell_set_other (by omega), cell_set_other (by omega)]; exact y2)
  · exact cell_set_same (by rw [cell_set_other (by omega), cell_set_other (by omega), cell_set_other (by omega)]; exact y3)
set_option maxRecDepth 100000 in
set_option maxHeartbeats 4000000 in
theorem ownMachine_any (w : World) (v : MV) (m : M4) (hm : MSm m) (hs : SlM w v m) :
    Calls Tryz.prog 149 #[v.val m] w fun e w' => ∃ (u : MV) (p : Nat) (gk gr : Nat → Nat), e = .returned (.agg #[.slice u.al m.log.length u.cl, .bool m.alive, .slice u.ac m.copies.length u.cc, .slice u.ad m.cleared.length u.cd]) ∧ MR (w.heap.size + 2) p w' (.slice u.ac m.copies.length u.cc) (.slice u.al m.log.length u.cl) (.slice u.ad m.cleared.length u.cd) m.copies m.log m.cleared gk gr ∧ Below w.heap.size w w' := by
  obtain ⟨ac, cc, al, cl, ad, cd⟩ := v
  simp only [MV.val]
  obtain ⟨W0, hW0⟩ : ∃ W0, W0 = w.alloc (.cells #[.bool m.alive, .slice ac m.copies.length cc, .slice al m.log.length cl, .slice ad m.cleared.length cd] 62) := ⟨_, rfl⟩
  have b0 : Below w.heap.size w W0 := by subst hW0; exact (Below.refl _ _).alloc (Nat.le_refl _) _
  have s0 : W0.heap.size = w.heap.size + 1 := by subst hW0; simp
  have c0 : ∀ X, Below (w.heap.size + 1) W0 X → X.cell? ⟨w.heap.size, 0, none⟩ = some (.bool m.alive) ∧ X.cell? ⟨w.heap.size, 1, none⟩ = some (.slice ac m.copies.length cc) ∧ X.cell? ⟨w.heap.size, 2, none⟩ = some (.slice al m.log.length cl) ∧ X.cell? ⟨w.heap.size, 3, none⟩ = some (.slice ad m.cleared.length cd) := fun X hX => by
    refine ⟨(hX.cell (p := ⟨w.heap.size, 0, none⟩) (by simp)).trans ?_, (hX.cell (p := ⟨w.heap.size, 1, none⟩) (by simp)).trans ?_, (hX.cell (p := ⟨w.heap.size, 2, none⟩) (by simp)).trans ?_, (hX.cell (p := ⟨w.heap.size, 3, none⟩) (by simp)).trans ?_⟩
    all_goals (subst hW0; go_simp)
  have H : Hid (MSm m ∧ SlM w ⟨ac, cc, al, cl, ad, cd⟩ m ∧ Below w.heap.size w W0 ∧ W0.heap.size = w.heap.size + 1) := ⟨hm, hs, b0, s0⟩
  have HC := hidOf c0
  clear hm hs b0 s0 c0
  go_enter Tryz.func149, Tryz.ntmps149
  go_upto_region 1 with fail
  go_cut [3] from 8 to 13 (fun s3 wx => ∃ (p : Nat) (a' : Option Addr) (c' : Nat), s3 = .pointer (some ⟨p, 0, none⟩) ∧ B3 w.heap.size p m.alive wx (.slice none 0 0) (.slice none 0 0) (.slice a' m.cleared.length c') ∧ MR (w.heap.size + 2) p wx (.slice none 0 0) (.slice none 0 0) (.slice a' m.cleared.length c') [] [] m.cleared gz gz ∧ Below (w.heap.size + 1) W0 wx)
  case first =>
    obtain ⟨W1, hW1⟩ : ∃ W1, W1 = (W0.alloc (.cells #[.slice none 0 0, .bool false, .slice none 0 0, .slice none 0 0] 193)).drew := ⟨_, rfl⟩
    have b1 : Below W0.heap.size W0 W1 := by subst hW1; exact ((Below.refl _ _).alloc (Nat.le_refl _) _).drew
    have s1 : W1.heap.size = w.heap.size + 2 := by subst hW1; simp [H.out.2.2.2]
    have b1' : Below (w.heap.size + 1) W0 W1 := b1.mono (by rw [H.out.2.2.2]; exact Nat.le_refl _)
    obtain ⟨ca, _, _, cd3⟩ := HC.out W1 b1'
    have hr1 : W1.heap[w.heap.size + 1]? = some (.cells #[.slice none 0 0, .bool false, .slice none 0 0, .slice none 0 0] 193 (0, 0)) := by
      subst hW1
      rw [← H.out.2.2.2]
      exact heap_alloc_new W0 _
    have hS0 : (fun X : World => X.cell? ⟨w.heap.size, 0, none⟩ = some (.bool m.alive) ∧ X.cell? ⟨w.heap.size, 3, none⟩ = some (.slice ad m.cleared.length cd)) W1 := ⟨ca, cd3⟩
    refine wp_region_until 7 (fun X : World => X.cell? ⟨w.heap.size, 0, none⟩ = some (.bool m.alive) ∧ X.cell? ⟨w.heap.size, 3, none⟩ = some (.slice ad m.cleared.length cd)) (by kernel_rfl) ?_
    have KW : Hid (Below w.heap.size w W1 ∧ Below (w.heap.size + 1) W0 W1 ∧ W1.heap.size = w.heap.size + 2 ∧ W1.heap[w.heap.size + 1]? = some (.cells #[.slice none 0 0, .bool false, .slice none 0 0, .slice none 0 0] 193 (0, 0))) := ⟨H.out.2.2.1.trans (b1'.mono (by omega)), b1', s1, hr1⟩
    clear b1 s1 b1' ca cd3 hr1
    subst hW0
    rw [← hW1]
    clear hW1
    refine wpUntil_take (i := 0) (v := ?_) rfl (by kernel_rfl) (fun _ _ _ h => h) (Or.inl ⟨by rfl, ?_⟩) hS0 ?_
    rotate_left
    · (intro w hSw; go_simp; first | done | with_reducible rfl | exact hSw.1 | exact hSw.2)
    simp only [Act.put]
    refine wpUntil_take (i := 1) (v := ?_) rfl (by kernel_rfl) (fun _ _ _ h => h) (Or.inl ⟨by rfl, ?_⟩) hS0 ?_
    rotate_left
    · (intro w hSw; go_simp; first | done | with_reducible rfl | exact hSw.1 | exact hSw.2)
    simp only [Act.put]
    refine wpUntil_take (i := 2) (v := ?_) rfl (by kernel_rfl) (fun _ _ _ h => h) (Or.inl ⟨by rfl, ?_⟩) hS0 ?_
    rotate_left
    · (intro w hSw; go_simp; first | done | with_reducible rfl | exact hSw.1 | exact hSw.2)
    simp only [Act.put]
    refine wpUntil_take (i := 3) (v := ?_) rfl (by kernel_rfl) (fun _ _ _ h => h) (Or.inl ⟨by rfl, ?_⟩) hS0 ?_
    rotate_left
    · (intro w hSw; go_simp; first | done | with_reducible rfl | exact hSw.1 | exact hSw.2)
    simp only [Act.put]
    refine wpUntil_ready (rs := [4, 6]) (by kernel_rfl) (by simp) ?_
    refine AllU.cons rfl (fun K hK => ?_) (AllU.cons rfl (fun K hK => ?_) AllU.nil)
    · obtain ⟨a', c', WA, hr, hd, hg, hl⟩ := appendN W1 (w.heap.size + 2) none 0 (owns_nil _ _ _ _) m.cleared (by have := H.out.1.n; omega) 60 ad cd (H.out.2.1.later KW.out.1).n (by rw [KW.out.2.2.1]; exact Nat.le_refl _)
      have bA : Below W1.heap.size W1 WA := (Below.refl _ _).grown hg (Nat.le_refl _) (fun k h => by cases h)
      have bA' : Below (w.heap.size + 1) W1 WA := bA.mono (by rw [KW.out.2.2.1]; omega)
      have hSA : (fun X : World => X.cell? ⟨w.heap.size, 0, none⟩ = some (.bool m.alive) ∧ X.cell? ⟨w.heap.size, 3, none⟩ = some (.slice ad m.cleared.length cd)) WA := ⟨(bA'.cell (p := ⟨w.heap.size, 0, none⟩) (by simp)).trans hS0.1, (bA'.cell (p := ⟨w.heap.size, 3, none⟩) (by simp)).trans hS0.2⟩
      have KA : Hid (Below W1.heap.size W1 WA ∧ WA.ownsRow (w.heap.size + 2) 2 1 (.slice a' m.cleared.length c') m.cleared.length (m.cleared.map (Value.int .i64))) := ⟨bA, hd⟩
      clear hd hg hl bA bA'
      refine step_known _ rfl (.const (.slice none 0 0)) (.tmp 11) 60 rfl _ _ _ _ (by first | rfl | simp [Act.eval, Act.put]) (by first | rfl | simp [Act.eval, Act.put]) hr ?_
      refine hK.out _ _ (fun _ => hSA) ?_
      clear hK K hr hS0
      simp only [Act.put]
      refine wpUntil_take (i := 5) (v := ?_) rfl (by kernel_rfl) (fun _ _ _ h => h) (Or.inl ⟨by rfl, ?_⟩) hSA ?_
      rotate_left
      · (intro w hSw; go_simp; first | done | with_reducible rfl | exact hSw.1 | exact hSw.2)
      simp only [Act.put]
      refine wpUntil_ready (rs := [6]) (by kernel_rfl) (by simp) ?_
      refine AllU.cons rfl (fun K hK => ?_) AllU.nil
      go_simp
      have bB : Below WA.heap.size WA (WA.alloc (.cells #[.slice none 0 0, .bool false, .slice none 0 0, .slice none 0 0] 193)) := (Below.refl _ _).alloc (Nat.le_refl _) _
      have hSB : (fun X : World => X.cell? ⟨w.heap.size, 0, none⟩ = some (.bool m.alive) ∧ X.cell? ⟨w.heap.size, 3, none⟩ = some (.slice ad m.cleared.length cd)) (WA.alloc (.cells #[.slice none 0 0, .bool false, .slice none 0 0, .slice none 0 0] 193)) := by
        have h1 : w.heap.size < WA.heap.size := by have := KA.out.1.size; have := KW.out.2.2.1; omega
        exact ⟨(bB.cell (p := ⟨w.heap.size, 0, none⟩) h1).trans hSA.1, (bB.cell (p := ⟨w.heap.size, 3, none⟩) h1).trans hSA.2⟩
      refine hK.out _ _ (fun _ => hSB) ?_
      clear hK K bB hSB hSA
      refine wpUntil_ready (rs := [7]) (by kernel_rfl) (by simp) ?_
      refine AllU.cons rfl (fun K hK => ?_) AllU.nil
      go_simp
      refine hK.out _ _ (fun h => absurd rfl h) ?_
      clear hK K
      refine wpUntil_done (by kernel_rfl) ?_ _
      go_wp2_with fail
      go_meet
      have q1 := KA.out.1.size
      have q2 := KW.out.2.2.1
      obtain ⟨f1, f2⟩ := first_A (s := w.heap.size) (alive := m.alive) (X := WA) (by omega) ((KA.out.1.block _ (by omega)).trans KW.out.2.2.2) KA.out.2
      exact ⟨WA.heap.size, a', c', rfl, f1, f2, KW.out.2.1.trans ((KA.out.1.mono (by omega)).alloc (by omega) _)⟩
    · have bB : Below W1.heap.size W1 (W1.alloc (.cells #[.slice none 0 0, .bool false, .slice none 0 0, .slice none 0 0] 193)) := (Below.refl _ _).alloc (Nat.le_refl _) _
      have sB : (W1.alloc (.cells #[.slice none 0 0, .bool false, .slice none 0 0, .slice none 0 0] 193)).heap.size = W1.heap.size + 1 := by simp
      have hpz : (W1.alloc (.cells #[.slice none 0 0, .bool false, .slice none 0 0, .slice none 0 0] 193)).heap[W1.heap.size]? = some (.cells #[.slice none 0 0, .bool false, .slice none 0 0, .slice none 0 0] 193 (0, 0)) := heap_alloc_new W1 _
      have hSB : (fun X : World => X.cell? ⟨w.heap.size, 0, none⟩ = some (.bool m.alive) ∧ X.cell? ⟨w.heap.size, 3, none⟩ = some (.slice ad m.cleared.length cd)) (W1.alloc (.cells #[.slice none 0 0, .bool false, .slice none 0 0, .slice none 0 0] 193)) := by
        have h1 : w.heap.size < W1.heap.size := by have := KW.out.2.2.1; omega
        exact ⟨(bB.cell (p := ⟨w.heap.size, 0, none⟩) h1).trans hS0.1, (bB.cell (p := ⟨w.heap.size, 3, none⟩) h1).trans hS0.2⟩
      have bwB : Below w.heap.size w (W1.alloc (.cells #[.slice none 0 0, .bool false, .slice none 0 0, .slice none 0 0] 193)) := KW.out.1.trans (bB.mono (by have := KW.out.2.2.1; omega))
      obtain ⟨a', c', WA, hr, hd, hg, hl⟩ := appendN (W1.alloc (.cells #[.slice none 0 0, .bool false, .slice none 0 0, .slice none 0 0] 193)) (w.heap.size + 2) none 0 (owns_nil _ _ _ _) m.cleared (by have := H.out.1.n; omega) 60 ad cd (H.out.2.1.later bwB).n (by rw [sB, KW.out.2.2.1]; omega)
      have bA : Below (W1.heap.size + 1) (W1.alloc (.cells #[.slice none 0 0, .bool false, .slice none 0 0, .slice none 0 0] 193)) WA := (Below.refl _ _).grown hg (by rw [sB]; exact Nat.le_refl _) (fun k h => by cases h)
      have hne : (Value.slice a' m.cleared.length c').ownBlock ≠ some W1.heap.size := fun e => by
        rcases hl with e' | e'
        · rw [e'] at e; cases e
        · rw [e', sB] at e; have := Option.some.inj e; omega
      have z := zeroBox ((bA.block W1.heap.size (by omega)).trans hpz)
      have hSA : (fun X : World => X.cell? ⟨w.heap.size, 0, none⟩ = some (.bool m.alive) ∧ X.cell? ⟨w.heap.size, 3, none⟩ = some (.slice ad m.cleared.length cd)) WA := by
        have h1 : w.heap.size < W1.heap.size + 1 := by have := KW.out.2.2.1; omega
        exact ⟨(bA.cell (p := ⟨w.heap.size, 0, none⟩) h1).trans hSB.1, (bA.cell (p := ⟨w.heap.size, 3, none⟩) h1).trans hSB.2⟩
      have KA : Hid (Below (W1.heap.size + 1) (W1.alloc (.cells #[.slice none 0 0, .bool false, .slice none 0 0, .slice none 0 0] 193)) WA ∧ WA.ownsRow (w.heap.size + 2) 2 1 (.slice a' m.cleared.length c') m.cleared.length (m.cleared.map (Value.int .i64)) ∧ (Value.slice a' m.cleared.length c').ownBlock ≠ some W1.heap.size ∧ (W1.alloc (.cells #[.slice none 0 0, .bool false, .slice none 0 0, .slice none 0 0] 193)).heap[W1.heap.size]? = some (.cells #[.slice none 0 0, .bool false, .slice none 0 0, .slice none 0 0] 193 (0, 0)) ∧ Below W1.heap.size W1 (W1.alloc (.cells #[.slice none 0 0, .bool false, .slice none 0 0, .slice none 0 0] 193)) ∧ (W1.alloc (.cells #[.slice none 0 0, .bool false, .slice none 0 0, .slice none 0 0] 193)).heap.size = W1.heap.size + 1) := ⟨bA, hd, hne, hpz, bB, sB⟩
      obtain ⟨z0, z1, z2, z3, zf⟩ := z
      have zf0 := zf 0
      have zf1 := zf 1
      have zf2 := zf 2
      have zf3 := zf 3
      clear hd hg hl bA bB sB hne hpz bwB zf
      go_simp
      refine hK.out _ _ (fun _ => hSB) ?_
      clear hK K hS0
      refine wpUntil_ready (rs := [4]) (by kernel_rfl) (by simp) ?_
      refine AllU.cons rfl (fun K hK => ?_) AllU.nil
      refine step_known _ rfl (.const (.slice none 0 0)) (.tmp 11) 60 rfl _ _ _ _ (by first | rfl | simp [Act.eval, Act.put]) (by first | rfl | simp [Act.eval, Act.put]) hr ?_
      refine hK.out _ _ (fun _ => hSA) ?_
      clear hK K hr hSB
      simp only [Act.put]
      refine wpUntil_take (i := 5) (v := ?_) rfl (by kernel_rfl) (fun _ _ _ h => h) (Or.inl ⟨by rfl, ?_⟩) hSA ?_
      rotate_left
      · (intro w hSw; go_simp; first | done | with_reducible rfl | exact hSw.1 | exact hSw.2)
      simp only [Act.put]
      refine wpUntil_ready (rs := [7]) (by kernel_rfl) (by simp) ?_
      refine AllU.cons rfl (fun K hK => ?_) AllU.nil
      go_simp
      refine hK.out _ _ (fun h => absurd rfl h) ?_
      clear hK K
      refine wpUntil_done (by kernel_rfl) ?_ _
      go_wp2_with fail
      go_meet
      have q2 := KW.out.2.2.1
      obtain ⟨k1, k2, k3, k4, k5, k6⟩ := KA.out
      have q3 := k1.size
      obtain ⟨f1, f2⟩ := first_B (s := w.heap.size) (p := W1.heap.size) (alive := m.alive) (X := WA) (by omega) (by omega) ((k1.block _ (by omega)).trans ((k5.block _ (by omega)).trans KW.out.2.2.2)) ((k1.block _ (by omega)).trans k4) k2 k3
      exact ⟨W1.heap.size, a', c', rfl, f1, f2, (((((KW.out.2.1.trans (k5.mono (by omega))).trans (k1.mono (by omega))).setCell (p := ⟨_, _, none⟩) (by simp; omega) _).setCell (p := ⟨_, _, none⟩) (by simp; omega) _).setCell (p := ⟨_, _, none⟩) (by simp; omega) _).setCell (p := ⟨_, _, none⟩) (by simp; omega) _⟩
  case rest =>
    obtain ⟨p, a', c', rfl, hb3, hmr, hbx⟩ := hcut
    obtain ⟨_, c1, _, _⟩ := HC.out wc hbx
    have KC : Hid (B3 w.heap.size p m.alive wc (.slice none 0 0) (.slice none 0 0) (.slice a' m.cleared.length c') ∧ MR (w.heap.size + 2) p wc (.slice none 0 0) (.slice none 0 0) (.slice a' m.cleared.length c') [] [] m.cleared gz gz ∧ Below (w.heap.size + 1) W0 wc) := ⟨hb3, hmr, hbx⟩
    have hk6 : m.copies.length ≤ 6 := H.out.1.k
    clear hb3 hmr hbx
    go_wp2
    go_loopw [17] (fun v17 wr => ∃ (j : Nat) (ak : Option Addr) (ck : Nat) (gk : Nat → Nat), j ≤ m.copies.length ∧ v17 = .int .i64 j ∧ B3 w.heap.size p m.alive wr (.slice ak j ck) (.slice none 0 0) (.slice a' m.cleared.length c') ∧ MR (w.heap.size + 2) p wr (.slice ak j ck) (.slice none 0 0) (.slice a' m.cleared.length c') (m.copies.take j) [] m.cleared gk gz ∧ Below (w.heap.size + 1) W0 wr) (fun v17 _ => m.copies.length - (intOf v17).toNat)
    case atStart => exact ⟨0, none, 0, gz, Nat.zero_le _, rfl, KC.out.1, by rw [List.take_zero]; exact KC.out.2.1, KC.out.2.2⟩
    case round =>
      obtain ⟨j, ak, ck, gk, hj, rfl, hb3, hmr, hbx⟩ := hrel
      by_cases hlt : j < m.copies.length
      · have hbw : Below w.heap.size w wr := H.out.2.2.1.trans (hbx.mono (by omega))
        obtain ⟨_, hsk⟩ := (H.out.2.1.later hbw).k
        have hkj : m.copies[j]? = some (atK m.copies j) := atK_of hlt
        have h6 : (atK m.copies j).cells.length = 6 := H.out.1.ks _ (List.mem_of_getElem? hkj)
        simp only [] at hsk
        rcases hsk with hsk | ⟨b, off, rfl, hb, h1⟩
        · omega
        have hr := h1 j _ hkj
        have k0 := hr.c0
        obtain ⟨a1, p1, k1, hsl, hcp⟩ := hr.c1
        have bX : Below wr.heap.size wr (wr.alloc (.cells #[.int .i64 (atK m.copies j).region, .slice a1 (atK m.copies j).cells.length p1] 99)).drew := ((Below.refl _ _).alloc (Nat.le_refl _) _).drew
        have sX : (wr.alloc (.cells #[.int .i64 (atK m.copies j).region, .slice a1 (atK m.copies j).cells.length p1] 99)).drew.heap.size = wr.heap.size + 1 := by simp
        have hc := ownCells_any (wr.alloc (.cells #[.int .i64 (atK m.copies j).region, .slice a1 (atK m.copies j).cells.length p1] 99)).drew a1 p1 (atK m.copies j).cells (by omega) (by omega) (hsl.later bX)
        have hSX : (fun X : World => X.cell? ⟨p, 2, none⟩ = some (.slice ak j ck) ∧ X.cell? ⟨wr.heap.size, 0, none⟩ = some (.int .i64 (atK m.copies j).region) ∧ X.cell? ⟨wr.heap.size, 1, none⟩ = some (.slice a1 (atK m.copies j).cells.length p1)) (wr.alloc (.cells #[.int .i64 (atK m.copies j).region, .slice a1 (atK m.copies j).cells.length p1] 99)).drew :=
          ⟨(bX.cell (p := ⟨p, 2, none⟩) hb3.pX).trans hb3.o2, by go_simp, by go_simp⟩
        have KH : Hid (B3 w.heap.size p m.alive wr (.slice ak j ck) (.slice none 0 0) (.slice a' m.cleared.length c') ∧ MR (w.heap.size + 2) p wr (.slice ak j ck) (.slice none 0 0) (.slice a' m.cleared.length c') (m.copies.take j) [] m.cleared gk gz ∧ Below (w.heap.size + 1) W0 wr ∧ Below wr.heap.size wr (wr.alloc (.cells #[.int .i64 (atK m.copies j).region, .slice a1 (atK m.copies j).cells.length p1] 99)).drew ∧ (wr.alloc (.cells #[.int .i64 (atK m.copies j).region, .slice a1 (atK m.copies j).cells.length p1] 99)).drew.heap.size = wr.heap.size + 1 ∧ m.copies[j]? = some (atK m.copies j)) := ⟨hb3, hmr, hbx, bX, sX, hkj⟩
        have hpw := hb3.pX
        clear hb3 hmr hbx hbw h1 hr hsl hcp bX sX hkj h6
        go_wp2_with fail
        refine wp_region_until 11 (fun X : World => X.cell? ⟨p, 2, none⟩ = some (.slice ak j ck) ∧ X.cell? ⟨wr.heap.size, 0, none⟩ = some (.int .i64 (atK m.copies j).region) ∧ X.cell? ⟨wr.heap.size, 1, none⟩ = some (.slice a1 (atK m.copies j).cells.length p1)) (by kernel_rfl) ?_
        generalize hXX : (wr.alloc (.cells #[.int .i64 (atK m.copies j).region, .slice a1 (atK m.copies j).cells.length p1] 99)).drew = X at *
        clear hXX
        refine wpUntil_take (i := 0) (v := ?_) rfl (by kernel_rfl) (fun _ _ _ h => h) (Or.inl ⟨by rfl, ?_⟩) hSX ?_
        rotate_left
        · (intro w hSw; go_simp; first | done | with_reducible rfl | exact hSw.1 | exact hSw.2.1 | exact hSw.2.2)
        simp only [Act.put]
        refine wpUntil_take (i := 1) (v := ?_) rfl (by kernel_rfl) (fun _ _ _ h => h) (Or.inl ⟨by rfl, ?_⟩) hSX ?_
        rotate_left
        · (intro w hSw; go_simp; first | done | with_reducible rfl | exact hSw.1 | exact hSw.2.1 | exact hSw.2.2)
        simp only [Act.put]
        refine wpUntil_take (i := 2) (v := ?_) rfl (by kernel_rfl) (fun _ _ _ h => h) (Or.inl ⟨by rfl, ?_⟩) hSX ?_
        rotate_left
        · (intro w hSw; go_simp; first | done | with_reducible rfl | exact hSw.1 | exact hSw.2.1 | exact hSw.2.2)
        simp only [Act.put]
        refine wpUntil_take (i := 3) (v := ?_) rfl (by kernel_rfl) (fun _ _ _ h => h) (Or.inl ⟨by rfl, ?_⟩) hSX ?_
        rotate_left
        · (intro w hSw; go_simp; first | done | with_reducible rfl | exact hSw.1 | exact hSw.2.1 | exact hSw.2.2)
        simp only [Act.put]
        refine wpUntil_take (i := 4) (v := ?_) rfl (by kernel_rfl) (fun _ _ _ h => h) (Or.inl ⟨by rfl, ?_⟩) hSX ?_
        rotate_left
        · (intro w hSw; go_simp; first | done | with_reducible rfl | exact hSw.1 | exact hSw.2.1 | exact hSw.2.2)
        simp only [Act.put]
        refine wpUntil_take (i := 5) (v := ?_) rfl (by kernel_rfl) (fun _ _ _ h => h) (Or.inl ⟨by rfl, ?_⟩) hSX ?_
        rotate_left
        · (intro w hSw; go_simp; first | done | with_reducible rfl | exact hSw.1 | exact hSw.2.1 | exact hSw.2.2)
        simp only [Act.put]
        refine wpUntil_ready (rs := [6]) (by kernel_rfl) (by simp) ?_
        refine AllU.cons rfl (fun K hK => ?_) AllU.nil
        go_simp
        refine hc.mono ?_
        clear hc
        rintro e X2 ⟨q, cp, rfl, hq1, hq2, hq3, hq4, hq5, b2⟩
        obtain ⟨hb3, hmr, hbx, bX, sX, hkj⟩ := KH.out
        have bX2 : Below wr.heap.size wr X2 := bX.trans (b2.mono bX.size)
        have hS2 : (fun X : World => X.cell? ⟨p, 2, none⟩ = some (.slice ak j ck) ∧ X.cell? ⟨wr.heap.size, 0, none⟩ = some (.int .i64 (atK m.copies j).region) ∧ X.cell? ⟨wr.heap.size, 1, none⟩ = some (.slice a1 (atK m.copies j).cells.length p1)) X2 := ⟨(bX2.cell (p := ⟨p, 2, none⟩) hpw).trans hb3.o2, (b2.cell (p := ⟨wr.heap.size, 0, none⟩) (by show wr.heap.size < X.heap.size; omega)).trans hSX.2.1, (b2.cell (p := ⟨wr.heap.size, 1, none⟩) (by show wr.heap.size < X.heap.size; omega)).trans hSX.2.2⟩
        have b3 : Below X2.heap.size X2 (X2.alloc (.cells #[.int .i64 (atK m.copies j).region, .slice (some ⟨q, 0, none⟩) (atK m.copies j).cells.length cp] 99)) := (Below.refl _ _).alloc (Nat.le_refl _) _
        have s3 : (X2.alloc (.cells #[.int .i64 (atK m.copies j).region, .slice (some ⟨q, 0, none⟩) (atK m.copies j).cells.length cp] 99)).heap.size = X2.heap.size + 1 := by simp
        have bX3 : Below wr.heap.size wr (X2.alloc (.cells #[.int .i64 (atK m.copies j).region, .slice (some ⟨q, 0, none⟩) (atK m.copies j).cells.length cp] 99)) := bX2.trans (b3.mono bX2.size)
        have hcl : wr.heap.size < X2.heap.size := by have := b2.size; omega
        have hS3 : (fun X : World => X.cell? ⟨p, 2, none⟩ = some (.slice ak j ck) ∧ X.cell? ⟨wr.heap.size, 0, none⟩ = some (.int .i64 (atK m.copies j).region) ∧ X.cell? ⟨wr.heap.size, 1, none⟩ = some (.slice a1 (atK m.copies j).cells.length p1)) (X2.alloc (.cells #[.int .i64 (atK m.copies j).region, .slice (some ⟨q, 0, none⟩) (atK m.copies j).cells.length cp] 99)) := ⟨(bX3.cell (p := ⟨p, 2, none⟩) hpw).trans hb3.o2, (b3.cell (p := ⟨wr.heap.size, 0, none⟩) hcl).trans hS2.2.1, (b3.cell (p := ⟨wr.heap.size, 1, none⟩) hcl).trans hS2.2.2⟩
        obtain ⟨v', Y, hr, hmr', hgr, hol⟩ := hmr.pushK bX3 (by have := hb3.pl; omega) hpw (atK m.copies j) q cp X2.heap.size (by simp; omega) 58 (by go_simp) (by go_simp) (AtK.of_block _ _ _ _ (b3.block q hq2) ⟨hq4, hq5⟩) hq3 (by omega) (by omega)
        have htk : m.copies.take j ++ [atK m.copies j] = m.copies.take (j + 1) := by rw [List.take_add_one, hkj]; rfl
        have hfar : ∀ x, wr.heap.size ≤ x ∨ x = p ∨ x < w.heap.size + 2 → x < (X2.alloc (.cells #[.int .i64 (atK m.copies j).region, .slice (some ⟨q, 0, none⟩) (atK m.copies j).cells.length cp] 99)).heap.size → Y.heap[x]? = (X2.alloc (.cells #[.int .i64 (atK m.copies j).region, .slice (some ⟨q, 0, none⟩) (atK m.copies j).cells.length cp] 99)).heap[x]? := fun x hx hxl => hgr.block x hxl (fun e => by have := hol x e.symm; omega)
        have hS4 : (fun X : World => X.cell? ⟨p, 2, none⟩ = some (.slice ak j ck) ∧ X.cell? ⟨wr.heap.size, 0, none⟩ = some (.int .i64 (atK m.copies j).region) ∧ X.cell? ⟨wr.heap.size, 1, none⟩ = some (.slice a1 (atK m.copies j).cells.length p1)) Y := ⟨(World.cell?_of_block (a := ⟨p, 2, none⟩) (hfar p (by omega) (by have := bX3.size; omega))).trans hS3.1, (World.cell?_of_block (a := ⟨wr.heap.size, 0, none⟩) (hfar wr.heap.size (.inl (Nat.le_refl _)) (by omega))).trans hS3.2.1, (World.cell?_of_block (a := ⟨wr.heap.size, 1, none⟩) (hfar wr.heap.size (.inl (Nat.le_refl _)) (by omega))).trans hS3.2.2⟩
        have hlk : (m.copies.take (j + 1)).length = j + 1 := by rw [List.length_take]; omega
        rw [htk, List.length_take, Nat.min_eq_left (by omega)] at hmr'
        obtain ⟨yb, yc, rfl, -⟩ := GrowG.own (hd := hdK) (sz := 2) (fun _ => rfl) hmr'.gK (fun e => by rw [e] at hlk; simp at hlk)
        rw [hlk] at hr hmr'
        have hb3' : B3 w.heap.size p m.alive Y (.slice ak j ck) (.slice none 0 0) (.slice a' m.cleared.length c') := (hb3.later bX3).keep hgr.size (hfar (w.heap.size + 1) (.inr (.inr (by omega))) (by have := bX3.size; have := hb3.pl; omega)) (hfar p (.inr (.inl rfl)) (by have := bX3.size; omega))
        have o2 := hb3'.o2
        have fo2 := hb3'.fo 2
        have KE : Hid (B3 w.heap.size p m.alive (Y.setCell ⟨p, 2, none⟩ (.slice (some ⟨yb, 0, none⟩) (j + 1) yc)) (.slice (some ⟨yb, 0, none⟩) (j + 1) yc) (.slice none 0 0) (.slice a' m.cleared.length c') ∧ MR (w.heap.size + 2) p (Y.setCell ⟨p, 2, none⟩ (.slice (some ⟨yb, 0, none⟩) (j + 1) yc)) (.slice (some ⟨yb, 0, none⟩) (j + 1) yc) (.slice none 0 0) (.slice a' m.cleared.length c') (m.copies.take (j + 1)) [] m.cleared (fun i => if i = j then q else gk i) gz ∧ Below (w.heap.size + 1) W0 (Y.setCell ⟨p, 2, none⟩ (.slice (some ⟨yb, 0, none⟩) (j + 1) yc))) :=
          ⟨hb3'.setK _, hmr'.set, ((hbx.trans (bX3.mono (by have := hb3.pl; omega))).grown hgr (by have := bX3.size; have := hb3.pl; omega) (fun x e => by have := hol x e; omega)).setCell (p := ⟨p, 2, none⟩) (by show w.heap.size + 1 ≤ p; have := hb3.pl; omega) _⟩
        refine hK.out _ _ (fun _ => hS2) ?_
        clear hK K hb3 hmr hbx bX sX hkj bX2 b3 s3 bX3 hcl hmr' hgr hol htk hfar hlk hb3' hSX b2 hq1 hq2 hq3 hq4 hq5 KH
        refine wpUntil_take (i := 7) (v := ?_) rfl (by kernel_rfl) (fun _ _ _ h => h) (Or.inl ⟨by rfl, ?_⟩) hS2 ?_
        rotate_left
        · (intro w hSw; go_simp; first | done | with_reducible rfl | exact hSw.1 | exact hSw.2.1 | exact hSw.2.2)
        simp only [Act.put]
        refine wpUntil_ready (rs := [8]) (by kernel_rfl) (by simp) ?_
        refine AllU.cons rfl (fun K hK => ?_) AllU.nil
        go_simp
        refine hK.out _ _ (fun _ => hS3) ?_
        clear hK K hS2
        refine wpUntil_ready (rs := [9]) (by kernel_rfl) (by simp) ?_
        refine AllU.cons rfl (fun K hK => ?_) AllU.nil
        refine step_known _ rfl (.tmp 22) (.tmp 29) 58 rfl _ _ _ _ (by first | rfl | simp [Act.eval, Act.put]) (by first | rfl | simp [Act.eval, Act.put]) hr ?_
        refine hK.out _ _ (fun _ => hS4) ?_
        clear hK K hr hS3
        simp only [Act.put]
        refine wpUntil_ready (rs := [10]) (by kernel_rfl) (by simp) ?_
        refine AllU.cons rfl (fun K hK => ?_) AllU.nil
        go_simp
        refine hK.out _ _ (fun _ => hS4) ?_
        clear hK K
        refine wpUntil_ready (rs := [11]) (by kernel_rfl) (by simp) ?_
        refine AllU.cons rfl (fun K hK => ?_) AllU.nil
        go_simp
        refine hK.out _ _ (fun h => absurd rfl h) ?_
        clear hK K
        refine wpUntil_done (by kernel_rfl) ?_ _
        go_wp2
        exact ⟨⟨j + 1, some ⟨yb, 0, none⟩, yc, _, by omega, by simp, KE.out.1, KE.out.2.1, KE.out.2.2⟩, by simp [intOf]; omega⟩
      · obtain rfl : j = m.copies.length := by omega
        have hd : decide ((m.copies.length : Int) < (m.copies.length : Int)) = false := by simp
        obtain ⟨_, _, c2, _⟩ := HC.out wr hbx
        rw [List.take_length] at hmr
        have KC2 : Hid (B3 w.heap.size p m.alive wr (.slice ak m.copies.length ck) (.slice none 0 0) (.slice a' m.cleared.length c') ∧ MR (w.heap.size + 2) p wr (.slice ak m.copies.length ck) (.slice none 0 0) (.slice a' m.cleared.length c') m.copies [] m.cleared gk gz ∧ Below (w.heap.size + 1) W0 wr) := ⟨hb3, hmr, hbx⟩
        have hr200 : m.log.length ≤ 200 := H.out.1.r
        clear hb3 hmr hbx KC c1 hj hlt
        generalize wr = wk at *
        go_wp2
        go_loopw [36] (fun v36 wr => ∃ (j : Nat) (ar : Option Addr) (cr : Nat) (gr : Nat → Nat), j ≤ m.log.length ∧ v36 = .int .i64 j ∧ B3 w.heap.size p m.alive wr (.slice ak m.copies.length ck) (.slice ar j cr) (.slice a' m.cleared.length c') ∧ MR (w.heap.size + 2) p wr (.slice ak m.copies.length ck) (.slice ar j cr) (.slice a' m.cleared.length c') m.copies (m.log.take j) m.cleared gk gr ∧ Below (w.heap.size + 1) W0 wr) (fun v36 _ => m.log.length - (intOf v36).toNat)
        case atStart => exact ⟨0, none, 0, gz, Nat.zero_le _, rfl, KC2.out.1, by rw [List.take_zero]; exact KC2.out.2.1, KC2.out.2.2⟩
        case round =>
          obtain ⟨j, ar, cr, gr, hj, rfl, hb3, hmr, hbx⟩ := hrel
          by_cases hlt : j < m.log.length
          · have hbw : Below w.heap.size w wr := H.out.2.2.1.trans (hbx.mono (by omega))
            obtain ⟨_, hsk⟩ := (H.out.2.1.later hbw).r
            have hkj : m.log[j]? = some (atR m.log j) := atR_of hlt
            have h6 := H.out.1.rs _ (List.mem_of_getElem? hkj)
            simp only [] at hsk
            rcases hsk with hsk | ⟨b, off, rfl, hb, h1⟩
            · omega
            have hr := h1 j _ hkj
            have k0 := hr.c0
            have k1 := hr.c1
            have k2 := hr.c2
            obtain ⟨a1, p1, k3, hsl, hcp⟩ := hr.c3
            have bX : Below wr.heap.size wr (wr.alloc (.cells #[.int .i64 (atR m.log j).kind, .int .i64 (atR m.log j).tx, .int .i64 (atR m.log j).region, .slice a1 (atR m.log j).sets.length p1] 178)).drew := ((Below.refl _ _).alloc (Nat.le_refl _) _).drew
            have sX : (wr.alloc (.cells #[.int .i64 (atR m.log j).kind, .int .i64 (atR m.log j).tx, .int .i64 (atR m.log j).region, .slice a1 (atR m.log j).sets.length p1] 178)).drew.heap.size = wr.heap.size + 1 := by simp
            have hc := ownRecord_any (wr.alloc (.cells #[.int .i64 (atR m.log j).kind, .int .i64 (atR m.log j).tx, .int .i64 (atR m.log j).region, .slice a1 (atR m.log j).sets.length p1] 178)).drew (atR m.log j) a1 p1 h6.1 (by omega) ((hsl.below bX).mono bX.size)
            simp only [R4.val] at hc
            have hSX : (fun X : World => X.cell? ⟨p, 0, none⟩ = some (.slice ar j cr) ∧ X.cell? ⟨wr.heap.size, 0, none⟩ = some (.int .i64 (atR m.log j).kind) ∧ X.cell? ⟨wr.heap.size, 1, none⟩ = some (.int .i64 (atR m.log j).tx) ∧ X.cell? ⟨wr.heap.size, 2, none⟩ = some (.int .i64 (atR m.log j).region) ∧ X.cell? ⟨wr.heap.size, 3, none⟩ = some (.slice a1 (atR m.log j).sets.length p1)) (wr.alloc (.cells #[.int .i64 (atR m.log j).kind, .int .i64 (atR m.log j).tx, .int .i64 (atR m.log j).region, .slice a1 (atR m.log j).sets.length p1] 178)).drew := ⟨(bX.cell (p := ⟨p, 0, none⟩) hb3.pX).trans hb3.o0, by go_simp, by go_simp, by go_simp, by go_simp⟩
            have KH : Hid (B3 w.heap.size p m.alive wr (.slice ak m.copies.length ck) (.slice ar j cr) (.slice a' m.cleared.length c') ∧ MR (w.heap.size + 2) p wr (.slice ak m.copies.length ck) (.slice ar j cr) (.slice a' m.cleared.length c') m.copies (m.log.take j) m.cleared gk gr ∧ Below (w.heap.size + 1) W0 wr ∧ Below wr.heap.size wr (wr.alloc (.cells #[.int .i64 (atR m.log j).kind, .int .i64 (atR m.log j).tx, .int .i64 (atR m.log j).region, .slice a1 (atR m.log j).sets.length p1] 178)).drew ∧ (wr.alloc (.cells #[.int .i64 (atR m.log j).kind, .int .i64 (atR m.log j).tx, .int .i64 (atR m.log j).region, .slice a1 (atR m.log j).sets.length p1] 178)).drew.heap.size = wr.heap.size + 1 ∧ m.log[j]? = some (atR m.log j)) := ⟨hb3, hmr, hbx, bX, sX, hkj⟩
            have hpw := hb3.pX
            clear hb3 hmr hbx hbw h1 hr hsl hcp bX sX hkj h6
            go_wp2_with fail
            refine wp_region_until 9 (fun X : World => X.cell? ⟨p, 0, none⟩ = some (.slice ar j cr) ∧ X.cell? ⟨wr.heap.size, 0, none⟩ = some (.int .i64 (atR m.log j).kind) ∧ X.cell? ⟨wr.heap.size, 1, none⟩ = some (.int .i64 (atR m.log j).tx) ∧ X.cell? ⟨wr.heap.size, 2, none⟩ = some (.int .i64 (atR m.log j).region) ∧ X.cell? ⟨wr.heap.size, 3, none⟩ = some (.slice a1 (atR m.log j).sets.length p1)) (by kernel_rfl) ?_
            generalize hXX : (wr.alloc (.cells #[.int .i64 (atR m.log j).kind, .int .i64 (atR m.log j).tx, .int .i64 (atR m.log j).region, .slice a1 (atR m.log j).sets.length p1] 178)).drew = X at *
            clear hXX
            refine wpUntil_take (i := 0) (v := ?_) rfl (by kernel_rfl) (fun _ _ _ h => h) (Or.inl ⟨by rfl, ?_⟩) hSX ?_
            rotate_left
            · (intro w hSw; go_simp; first | done | with_reducible rfl | exact hSw.1 | exact hSw.2.1 | exact hSw.2.2.1 | exact hSw.2.2.2.1 | exact hSw.2.2.2.2)
            simp only [Act.put]
            refine wpUntil_take (i := 1) (v := ?_) rfl (by kernel_rfl) (fun _ _ _ h => h) (Or.inl ⟨by rfl, ?_⟩) hSX ?_
            rotate_left
            · (intro w hSw; go_simp; first | done | with_reducible rfl | exact hSw.1 | exact hSw.2.1 | exact hSw.2.2.1 | exact hSw.2.2.2.1 | exact hSw.2.2.2.2)
            simp only [Act.put]
            refine wpUntil_take (i := 2) (v := ?_) rfl (by kernel_rfl) (fun _ _ _ h => h) (Or.inl ⟨by rfl, ?_⟩) hSX ?_
            rotate_left
            · (intro w hSw; go_simp; first | done | with_reducible rfl | exact hSw.1 | exact hSw.2.1 | exact hSw.2.2.1 | exact hSw.2.2.2.1 | exact hSw.2.2.2.2)
            simp only [Act.put]
            refine wpUntil_take (i := 3) (v := ?_) rfl (by kernel_rfl) (fun _ _ _ h => h) (Or.inl ⟨by rfl, ?_⟩) hSX ?_
            rotate_left
            · (intro w hSw; go_simp; first | done | with_reducible rfl | exact hSw.1 | exact hSw.2.1 | exact hSw.2.2.1 | exact hSw.2.2.2.1 | exact hSw.2.2.2.2)
            simp only [Act.put]
            refine wpUntil_ready (rs := [4]) (by kernel_rfl) (by simp) ?_
            refine AllU.cons rfl (fun K hK => ?_) AllU.nil
            go_simp
            refine hc.mono ?_
            clear hc
            rintro e X2 ⟨q, cp, rfl, hq1, hq2, hq3, hq4, b2⟩
            obtain ⟨hb3, hmr, hbx, bX, sX, hkj⟩ := KH.out
            have bX2 : Below wr.heap.size wr X2 := bX.trans (b2.mono bX.size)
            have hcl0 : wr.heap.size < X.heap.size := by omega
            have hS2 : (fun X : World => X.cell? ⟨p, 0, none⟩ = some (.slice ar j cr) ∧ X.cell? ⟨wr.heap.size, 0, none⟩ = some (.int .i64 (atR m.log j).kind) ∧ X.cell? ⟨wr.heap.size, 1, none⟩ = some (.int .i64 (atR m.log j).tx) ∧ X.cell? ⟨wr.heap.size, 2, none⟩ = some (.int .i64 (atR m.log j).region) ∧ X.cell? ⟨wr.heap.size, 3, none⟩ = some (.slice a1 (atR m.log j).sets.length p1)) X2 := ⟨(bX2.cell (p := ⟨p, 0, none⟩) hpw).trans hb3.o0, (b2.cell (p := ⟨wr.heap.size, 0, none⟩) hcl0).trans hSX.2.1, (b2.cell (p := ⟨wr.heap.size, 1, none⟩) hcl0).trans hSX.2.2.1, (b2.cell (p := ⟨wr.heap.size, 2, none⟩) hcl0).trans hSX.2.2.2.1, (b2.cell (p := ⟨wr.heap.size, 3, none⟩) hcl0).trans hSX.2.2.2.2⟩
            have b3 : Below X2.heap.size X2 (X2.alloc (.cells #[.int .i64 (atR m.log j).kind, .int .i64 (atR m.log j).tx, .int .i64 (atR m.log j).region, .slice (some ⟨q, 0, none⟩) (atR m.log j).sets.length cp] 178)) := (Below.refl _ _).alloc (Nat.le_refl _) _
            have s3 : (X2.alloc (.cells #[.int .i64 (atR m.log j).kind, .int .i64 (atR m.log j).tx, .int .i64 (atR m.log j).region, .slice (some ⟨q, 0, none⟩) (atR m.log j).sets.length cp] 178)).heap.size = X2.heap.size + 1 := by simp
            have bX3 : Below wr.heap.size wr (X2.alloc (.cells #[.int .i64 (atR m.log j).kind, .int .i64 (atR m.log j).tx, .int .i64 (atR m.log j).region, .slice (some ⟨q, 0, none⟩) (atR m.log j).sets.length cp] 178)) := bX2.trans (b3.mono bX2.size)
            have hcl : wr.heap.size < X2.heap.size := by have := b2.size; omega
            have hS3 : (fun X : World => X.cell? ⟨p, 0, none⟩ = some (.slice ar j cr) ∧ X.cell? ⟨wr.heap.size, 0, none⟩ = some (.int .i64 (atR m.log j).kind) ∧ X.cell? ⟨wr.heap.size, 1, none⟩ = some (.int .i64 (atR m.log j).tx) ∧ X.cell? ⟨wr.heap.size, 2, none⟩ = some (.int .i64 (atR m.log j).region) ∧ X.cell? ⟨wr.heap.size, 3, none⟩ = some (.slice a1 (atR m.log j).sets.length p1)) (X2.alloc (.cells #[.int .i64 (atR m.log j).kind, .int .i64 (atR m.log j).tx, .int .i64 (atR m.log j).region, .slice (some ⟨q, 0, none⟩) (atR m.log j).sets.length cp] 178)) := ⟨(bX3.cell (p := ⟨p, 0, none⟩) hpw).trans hb3.o0, (b3.cell (p := ⟨wr.heap.size, 0, none⟩) hcl).trans hS2.2.1, (b3.cell (p := ⟨wr.heap.size, 1, none⟩) hcl).trans hS2.2.2.1, (b3.cell (p := ⟨wr.heap.size, 2, none⟩) hcl).trans hS2.2.2.2.1, (b3.cell (p := ⟨wr.heap.size, 3, none⟩) hcl).trans hS2.2.2.2.2⟩
            obtain ⟨v', Y, hr, hmr', hgr, hol⟩ := hmr.pushR bX3 (by have := hb3.pl; omega) hpw (atR m.log j) q cp X2.heap.size (by simp; omega) 59 (by go_simp) (by go_simp) (by go_simp) (by go_simp) (AtR.of_block _ _ _ _ (b3.block q hq2) hq4) hq3 (by omega) (by omega)
            have htk : m.log.take j ++ [(atR m.log j)] = m.log.take (j + 1) := by rw [List.take_add_one, hkj]; rfl
            have hfar : ∀ x, wr.heap.size ≤ x ∨ x = p ∨ x < w.heap.size + 2 → x < (X2.alloc (.cells #[.int .i64 (atR m.log j).kind, .int .i64 (atR m.log j).tx, .int .i64 (atR m.log j).region, .slice (some ⟨q, 0, none⟩) (atR m.log j).sets.length cp] 178)).heap.size → Y.heap[x]? = (X2.alloc (.cells #[.int .i64 (atR m.log j).kind, .int .i64 (atR m.log j).tx, .int .i64 (atR m.log j).region, .slice (some ⟨q, 0, none⟩) (atR m.log j).sets.length cp] 178)).heap[x]? := fun x hx hxl => hgr.block x hxl (fun e => by have := hol x e.symm; omega)
            have hfw := hfar wr.heap.size (.inl (Nat.le_refl _)) (by omega)
            have hS4 : (fun X : World => X.cell? ⟨p, 0, none⟩ = some (.slice ar j cr) ∧ X.cell? ⟨wr.heap.size, 0, none⟩ = some (.int .i64 (atR m.log j).kind) ∧ X.cell? ⟨wr.heap.size, 1, none⟩ = some (.int .i64 (atR m.log j).tx) ∧ X.cell? ⟨wr.heap.size, 2, none⟩ = some (.int .i64 (atR m.log j).region) ∧ X.cell? ⟨wr.heap.size, 3, none⟩ = some (.slice a1 (atR m.log j).sets.length p1)) Y := ⟨(World.cell?_of_block (a := ⟨p, 0, none⟩) (hfar p (by omega) (by have := bX3.size; omega))).trans hS3.1, (World.cell?_of_block (a := ⟨wr.heap.size, 0, none⟩) hfw).trans hS3.2.1, (World.cell?_of_block (a := ⟨wr.heap.size, 1, none⟩) hfw).trans hS3.2.2.1, (World.cell?_of_block (a := ⟨wr.heap.size, 2, none⟩) hfw).trans hS3.2.2.2.1, (World.cell?_of_block (a := ⟨wr.heap.size, 3, none⟩) hfw).trans hS3.2.2.2.2⟩
            have hlk : (m.log.take (j + 1)).length = j + 1 := by rw [List.length_take]; omega
            rw [htk, List.length_take, Nat.min_eq_left (by omega)] at hmr'
            obtain ⟨yb, yc, rfl, -⟩ := GrowG.own (hd := hdR) (sz := 4) (fun _ => rfl) hmr'.gR (fun e => by rw [e] at hlk; simp at hlk)
            rw [hlk] at hr hmr'
            have hb3' : B3 w.heap.size p m.alive Y (.slice ak m.copies.length ck) (.slice ar j cr) (.slice a' m.cleared.length c') := (hb3.later bX3).keep hgr.size (hfar (w.heap.size + 1) (.inr (.inr (by omega))) (by have := bX3.size; have := hb3.pl; omega)) (hfar p (.inr (.inl rfl)) (by have := bX3.size; omega))
            have o0 := hb3'.o0
            have fo0 := hb3'.fo 0
            have KE : Hid (B3 w.heap.size p m.alive (Y.setCell ⟨p, 0, none⟩ (.slice (some ⟨yb, 0, none⟩) (j + 1) yc)) (.slice ak m.copies.length ck) (.slice (some ⟨yb, 0, none⟩) (j + 1) yc) (.slice a' m.cleared.length c') ∧ MR (w.heap.size + 2) p (Y.setCell ⟨p, 0, none⟩ (.slice (some ⟨yb, 0, none⟩) (j + 1) yc)) (.slice ak m.copies.length ck) (.slice (some ⟨yb, 0, none⟩) (j + 1) yc) (.slice a' m.cleared.length c') m.copies (m.log.take (j + 1)) m.cleared gk (fun i => if i = j then q else gr i) ∧ Below (w.heap.size + 1) W0 (Y.setCell ⟨p, 0, none⟩ (.slice (some ⟨yb, 0, none⟩) (j + 1) yc))) :=
              ⟨hb3'.setR _, hmr'.set, ((hbx.trans (bX3.mono (by have := hb3.pl; omega))).grown hgr (by have := bX3.size; have := hb3.pl; omega) (fun x e => by have := hol x e; omega)).setCell (p := ⟨p, 0, none⟩) (by show w.heap.size + 1 ≤ p; have := hb3.pl; omega) _⟩
            refine hK.out _ _ (fun _ => hS2) ?_
            clear hK K hb3 hmr hbx bX sX hkj bX2 b3 s3 bX3 hcl hcl0 hmr' hgr hol htk hfar hfw hlk hb3' hSX b2 hq1 hq2 hq3 hq4 KH
            refine wpUntil_ready (rs := [5]) (by kernel_rfl) (by simp) ?_
            refine AllU.cons rfl (fun K hK => ?_) AllU.nil
            go_simp
            refine hK.out _ _ (fun _ => hS3) ?_
            clear hK K hS2
            refine wpUntil_ready (rs := [6]) (by kernel_rfl) (by simp) ?_
            refine AllU.cons rfl (fun K hK => ?_) AllU.nil
            refine step_known _ rfl (.tmp 42) (.tmp 45) 59 rfl _ _ _ _ (by first | rfl | simp [Act.eval, Act.put]) (by first | rfl | simp [Act.eval, Act.put]) hr ?_
            refine hK.out _ _ (fun _ => hS4) ?_
            clear hK K hr hS3
            simp only [Act.put]
            refine wpUntil_ready (rs := [7]) (by kernel_rfl) (by simp) ?_
            refine AllU.cons rfl (fun K hK => ?_) AllU.nil
            go_simp
            refine hK.out _ _ (fun _ => hS4) ?_
            clear hK K
            refine wpUntil_ready (rs := [8]) (by kernel_rfl) (by simp) ?_
            refine AllU.cons rfl (fun K hK => ?_) AllU.nil
            go_simp
            refine hK.out _ _ (fun _ => hS4) ?_
            clear hK K
            refine wpUntil_ready (rs := [9]) (by kernel_rfl) (by simp) ?_
            refine AllU.cons rfl (fun K hK => ?_) AllU.nil
            go_simp
            refine hK.out _ _ (fun h => absurd rfl h) ?_
            clear hK K
            refine wpUntil_done (by kernel_rfl) ?_ _
            go_wp2
            exact ⟨⟨j + 1, some ⟨yb, 0, none⟩, yc, _, by omega, by simp, KE.out.1, KE.out.2.1, KE.out.2.2⟩, by simp [intOf]; omega⟩
          · obtain rfl : j = m.log.length := by omega
            have hd' : decide ((m.log.length : Int) < (m.log.length : Int)) = false := by simp
            rw [List.take_length] at hmr
            have KF : Hid (MR (w.heap.size + 2) p wr (.slice ak m.copies.length ck) (.slice ar m.log.length cr) (.slice a' m.cleared.length c') m.copies m.log m.cleared gk gr ∧ Below (w.heap.size + 1) W0 wr) := ⟨hmr, hbx⟩
            obtain ⟨r0, r1, r2, r3, fr, o0, o1, o2, o3, fo, pl, pX⟩ := hb3
            have f0 := fr 0
            have f1 := fr 1
            have f2 := fr 2
            have f3 := fr 3
            clear hmr hbx KC2 c2 hj hlt fr fo
            go_wp2
            refine bodyPost_ret (v := .agg #[.slice ar m.log.length cr, .bool m.alive, .slice ak m.copies.length ck, .slice a' m.cleared.length c']) (by simp [results, Tryz.results149, go_sem, r0, r1, r2, r3]) rfl ⟨⟨ak, ck, ar, cr, a', c'⟩, p, gk, gr, rfl, ?_, ?_⟩
            · refine KF.out.1.keep (by simp [World.setCell]) (fun x _ hx _ => ?_)
              exact (Below.heap_setCell _ _ _ _ (by show x ≠ w.heap.size + 1; omega)).trans ((Below.heap_setCell _ _ _ _ (by show x ≠ w.heap.size + 1; omega)).trans ((Below.heap_setCell _ _ _ _ (by show x ≠ w.heap.size + 1; omega)).trans (Below.heap_setCell _ _ _ _ (by show x ≠ w.heap.size + 1; omega))))
            · exact ((((H.out.2.2.1.trans (KF.out.2.mono (by omega))).setCell (p := ⟨_, _, none⟩) (by simp) _).setCell (p := ⟨_, _, none⟩) (by simp) _).setCell (p := ⟨_, _, none⟩) (by simp) _).setCell (p := ⟨_, _, none⟩) (by simp) _
theorem MSm.of_mach {m : M4} (h : machB m = true) : MSm m := by
  simp only [machB, Bool.and_eq_true, decide_eq_true_eq] at h
  obtain ⟨⟨⟨⟨⟨h1, h2⟩, h3⟩, _⟩, h4⟩, h5⟩ := h
  refine ⟨h1, fun c hc => ?_, h2, fun c hc => ?_, h3⟩
  · obtain ⟨i, hi, rfl⟩ := List.getElem_of_mem hc
    have := List.all_eq_true.1 h4 i (List.mem_range.2 hi)
    simp only [copB, atK, List.getElem?_eq_getElem hi, Option.getD_some, Bool.and_eq_true, cellsB, decide_eq_true_eq] at this
    exact this.1.2.1
  · obtain ⟨i, hi, rfl⟩ := List.getElem_of_mem hc
    have := List.all_eq_true.1 h5 i (List.mem_range.2 hi)
    simp only [logB, atR, List.getElem?_eq_getElem hi, Option.getD_some, Bool.and_eq_true, recB, decide_eq_true_eq] at this
    exact ⟨this.1.1.1.2, this.1.1.2⟩
theorem GrowG.mono {α : Type} {T : TypeId} {sz : Nat} {hd : α → List Int} {ln : α → Nat} {At : World → Nat → α → Prop} {w : World} {base base' : Nat} {v : Value} {rs : List α} {g : Nat → Nat} (h : GrowG T sz hd ln At w base v rs g) (hb : base' ≤ base) : GrowG T sz hd ln At w base' v rs g := by
  obtain ⟨caps, ho, hc⟩ := h.row
  refine ⟨⟨caps, ⟨ho.1, ho.2.imp id ?_⟩, hc⟩, fun i hi => Nat.le_trans hb (h.low i hi), h.lt, h.ne, h.sub, h.inj⟩
  rintro ⟨q, cap, cur, rfl, l, r⟩
  exact ⟨q, cap, cur, rfl, Nat.le_trans hb l, r⟩
theorem MR.mono {base base' p : Nat} {X : World} {vk vr vd : Value} {ks : List K2} {rs : List R4} {zs : List Int} {gk gr : Nat → Nat} (h : MR base p X vk vr vd ks rs zs gk gr) (hb : base' ≤ base) : MR base' p X vk vr vd ks rs zs gk gr := by
  refine ⟨h.gK.mono hb, h.gR.mono hb, ⟨h.gD.1, h.gD.2.imp id ?_⟩, h.kr, h.kd, h.rd, h.kp, h.rp, h.dp⟩
  rintro ⟨q, cap, cur, rfl, l, r⟩
  exact ⟨q, cap, cur, rfl, Nat.le_trans hb l, r⟩
theorem MR.out {base p p' : Nat} {X : World} {vk vr vd : Value} {ks : List K2} {rs : List R4} {zs : List Int} {gk gr : Nat → Nat} (h : MR base p X vk vr vd ks rs zs gk gr) (hp : p' < base ∨ X.heap.size ≤ p') : MR base p' X vk vr vd ks rs zs gk gr :=
  ⟨h.gK, h.gR, h.gD, h.kr, h.kd, h.rd, fun q hq e => by have := h.gK.blocks hq; omega, fun q hq e => by have := h.gR.blocks hq; omega, fun e => by have := World.ownsRow.lt h.gD _ e; omega⟩
def ON (w : World) (base : Nat) (v : Value) (zs : List Int) : Prop := w.ownsRow base 2 1 v zs.length (zs.map (Value.int .i64))
theorem ON.nil (w : World) (base : Nat) : ON w base (.slice none 0 0) [] := World.ownsRow_nil w base _ 1
theorem ON.empty (w : World) : ON (w.alloc (.cells #[] 2)) w.heap.size (.slice (some ⟨w.heap.size, 0, none⟩) 0 0) [] := World.ownsRow_made w #[] 0 (Nat.le_refl _) (Nat.zero_le _) rfl
theorem ON.lower {w : World} {base base' : Nat} {v : Value} {zs : List Int} (h : ON w base v zs) (hb : base' ≤ base) : ON w base' v zs :=
  ⟨h.1, h.2.imp id (fun ⟨g', cap', cur, e, l, r⟩ => ⟨g', cap', cur, e, Nat.le_trans hb l, r⟩)⟩
theorem ON.form {w : World} {base : Nat} {v : Value} {zs : List Int} (h : ON w base v zs) : (v = .slice none 0 0 ∧ zs = []) ∨ ∃ g cap, v = .slice (some ⟨g, 0, none⟩) zs.length cap ∧ base ≤ g ∧ g < w.heap.size ∧ zs.length ≤ cap ∧ NumsAt w g 0 zs ∧ Room w g zs.length := by
  rcases h.2 with ⟨e, h0⟩ | ⟨g, cap, cur, rfl, hb, hg, hc, _⟩
  · exact .inl ⟨e, List.eq_nil_of_length_eq_zero h0⟩
  · refine .inr ⟨g, cap, rfl, hb, ?_, hc, fun i z e => ?_, fun i hi => ?_⟩
    · exact (World.ownsRow.lt h g rfl).2
    · have hi : i < zs.length := (List.getElem?_eq_some_iff.1 e).1
      rw [Nat.zero_add, World.ownsRow.cellAt h i (by omega)]
      rw [List.getElem?_map, e]; rfl
    · refine ⟨.int .i64 zs[i], ?_, World.ownsRow.frozenAt h i⟩
      rw [World.ownsRow.cellAt h i (by omega)]
      simp [hi]
theorem ON.kept {w w' : World} {base : Nat} {v : Value} {zs : List Int} (h : ON w base v zs) (hs : ∀ q, v.ownBlock = some q → w'.heap[q]? = w.heap[q]?) : ON w' base v zs := by
  refine ⟨h.1, h.2.imp id ?_⟩
  rintro ⟨g, cap, cur, rfl, l, hg, r⟩
  exact ⟨g, cap, cur, rfl, l, (hs g rfl).trans hg, r⟩
theorem ON.below {w w' : World} {base : Nat} {v : Value} {zs : List Int} (h : ON w base v zs) (hb : Below w.heap.size w w') : ON w' base v zs :=
  h.kept fun q e => hb.block q (World.ownsRow.lt h q e).2
theorem info_i64 : (Tryz.prog.info? 2).map (fun i => (i.zero, i.size, i.bytes)) = some (some (.int .i64 0), 1, 8) := by kernel_rfl
theorem on_append (W : World) (base : Nat) (v : Value) (zs ys : List Int) (b off k : Nat) (ty : TypeId) (h : ON W base v zs) (hx : NumsAt W b off ys) (hm : zs.length + ys.length ≤ 100000) (hbase : base ≤ W.heap.size) :
    ∃ v' W', (Builtin.append_ #[60, 60] ty #[v, .slice (some ⟨b, off, none⟩) ys.length k]).run Tryz.prog W = .ok v' W' ∧ ON W' base v' (zs ++ ys) ∧ W.grownBy W' v.ownBlock ∧ (v'.ownBlock = v.ownBlock ∨ v'.ownBlock = some W.heap.size) := by
  obtain ⟨i0, hi0, hz0, hz1, hz2⟩ := info_parts info_i64
  have hadd : ∀ (b o j : Nat), (⟨b, o, none⟩ : Addr).add j = ⟨b, o + j, none⟩ := fun b o j => by unfold Addr.add; split <;> simp_all
  obtain ⟨v', w', hrun, hown, hg, _, hl⟩ := run_append_own_at (P := Tryz.prog) W base 60 ty 2 i0 (.int .i64 0) 1 8 Tryz.underlying60 hi0 hz0 hz1 hz2 rfl (by decide)
    v zs.length _ h ⟨b, off, none⟩ ys.length k (ys.map (Value.int .i64)) (by simp) (fun j u h => by
      rw [List.getElem?_map] at h
      cases hx' : ys[j]? with
      | none => rw [hx'] at h; cases h
      | some x => rw [hx'] at h; simp at h; subst h; rw [hadd]; exact hx j x hx')
    (fun u hu => by obtain ⟨x, _, rfl⟩ := List.mem_map.1 hu; rfl) (by unfold maxLen; omega) (by omega) hbase
  refine ⟨v', w', hrun, ?_, hg, hl⟩
  unfold ON
  rw [List.map_append, List.length_append]
  exact hown
end Go.Proofs.YtnhjgomfkfehgaaGreatDoor
namespace Go.Proofs.YtnhjgomfkfehgaaGreatDoor
open Go.RowKit
open Go.Sort (grow)
structure CSm (k : C6) : Prop where
  p : k.places.length ≤ 6
  ps : ∀ zs ∈ k.places, 0 < zs.length ∧ zs.length ≤ 3
  m : k.machines.length ≤ 8
  ms : ∀ m ∈ k.machines, MSm m
  t : k.txs.length ≤ 60
  ts : ∀ t ∈ k.txs, t.reads.length ≤ 12 ∧ t.sets.length ≤ 12
theorem CSm.of {k : C6} (h : clusterB k = true) : CSm k := by
  simp only [clusterB, placesB, machsB, txsB, Bool.and_eq_true, decide_eq_true_eq] at h
  obtain ⟨⟨⟨⟨⟨⟨⟨⟨_, _⟩, _⟩, h4⟩, ⟨_, h5⟩, h6⟩, h7⟩, h8⟩, _⟩, h9⟩ := h
  refine ⟨h5, fun zs hz => ?_, h4, fun m hm => ?_, h7, fun t ht => ?_⟩
  · obtain ⟨i, hi, rfl⟩ := List.getElem_of_mem hz
    have := List.all_eq_true.1 h6 i (List.mem_range.2 hi)
    simp only [atP, List.getElem?_eq_getElem hi, Option.getD_some, placeB, Bool.and_eq_true, decide_eq_true_eq] at this
    omega
  · obtain ⟨i, hi, rfl⟩ := List.getElem_of_mem hm
    have := List.all_eq_true.1 h8 i (List.mem_range.2 hi)
    simp only [atM, List.getElem?_eq_getElem hi, Option.getD_some] at this
    exact MSm.of_mach this
  · obtain ⟨i, hi, rfl⟩ := List.getElem_of_mem ht
    have := List.all_eq_true.1 h9 i (List.mem_range.2 hi)
    simp only [txAtB, tx.txB, atT, List.getElem?_eq_getElem hi, Option.getD_some, Bool.and_eq_true, decide_eq_true_eq] at this
    omega
structure CSt (w : World) (A Z : List Value) (k : C6) (X : World) (vp vm vt : Value) (ps : List ((Nat × Nat) × List Int)) (gp : Nat → Nat → Prop) (ms : List (MV × M4)) (gm : Nat → Nat → Prop) (ts : List (tx.TV × tx.T7)) (gt : Nat → Nat → Prop) : Prop where
  arg : Bx X w.heap.size A
  res : Bx X (w.heap.size + 1) Z
  own : Bx X (w.heap.size + 2) [.int .i64 k.config, .int .i64 k.clock, vp, vm, vt, .bool k.lost]
  rows : CL3 (w.heap.size + 3) (w.heap.size + 2) X vp vm vt ps gp ms gm ts gt
  bel : Below w.heap.size w X
theorem CSt.later {w : World} {A Z : List Value} {k : C6} {X Y : World} {vp vm vt : Value} {ps : List ((Nat × Nat) × List Int)} {gp : Nat → Nat → Prop} {ms : List (MV × M4)} {gm : Nat → Nat → Prop} {ts : List (tx.TV × tx.T7)} {gt : Nat → Nat → Prop} (h : CSt w A Z k X vp vm vt ps gp ms gm ts gt) (b : Below X.heap.size X Y) : CSt w A Z k Y vp vm vt ps gp ms gm ts gt := ⟨h.arg.later b, h.res.later b, h.own.later b, h.rows.later b, bstep h.bel b⟩
theorem CSt.pushP {w : World} {A Z : List Value} {k : C6} {X W : World} {vp vm vt : Value} {ps : List ((Nat × Nat) × List Int)} {gp : Nat → Nat → Prop} {ms : List (MV × M4)} {gm : Nat → Nat → Prop} {ts : List (tx.TV × tx.T7)} {gt : Nat → Nat → Prop} (h : CSt w A Z k X vp vm vt ps gp ms gm ts gt) (hb : Below X.heap.size X W) (x : Nat × Nat) (d : List Int) (Q : Nat → Prop) (e : Nat) (hm : ps.length ≤ 1000) (ty : TypeId) (he : ∀ j u, (KPk.cells x d)[j]? = some u → W.cell? ⟨e, j, none⟩ = some u) (ho : KPk.Ow W X.heap.size x d Q) :
    ∃ v' Y, (Builtin.append_ #[28, 28] ty #[vp, .slice (some ⟨e, 0, none⟩) 1 1]).run Tryz.prog W = .ok v' Y ∧ CSt w A Z k (Y.setCell ⟨w.heap.size + 2, 2, none⟩ v') v' vm vt (ps ++ [(x, d)]) (fun i => if i = ps.length then Q else gp i) ms gm ts gt ∧ Bx Y (w.heap.size + 2) [.int .i64 k.config, .int .i64 k.clock, vp, vm, vt, .bool k.lost] ∧ (∀ q, q < w.heap.size + 3 ∨ (X.heap.size ≤ q ∧ q < W.heap.size) → Y.heap[q]? = W.heap[q]?) ∧ W.heap.size ≤ Y.heap.size ∧ (∃ a' c', v' = .slice a' (ps.length + 1) c') := by
  have hsz : w.heap.size + 2 < X.heap.size := h.own.2.2
  obtain ⟨v', Y, hr, hc, hg, hv⟩ := h.rows.pushP hb (by omega) hsz x d Q e hm ty he ho
  have hbs := hb.size
  have far : ∀ q, q < w.heap.size + 3 ∨ (X.heap.size ≤ q ∧ q < W.heap.size) → Y.heap[q]? = W.heap[q]? := fun q hq => hg.block q (by omega) (fun e' => by have := hv q e'.symm; omega)
  have hW := h.later hb
  have o' : Bx Y (w.heap.size + 2) [.int .i64 k.config, .int .i64 k.clock, vp, vm, vt, .bool k.lost] := hW.own.of_block (far _ (by omega)) hg.size
  have bY : Below w.heap.size w Y := hW.bel.grown hg (by omega) (fun q hq => by have := hv q hq; omega)
  refine ⟨v', Y, hr, ⟨(hW.arg.of_block (far _ (by omega)) hg.size).far (by omega) _, (hW.res.of_block (far _ (by omega)) hg.size).far (by omega) _, ?_, hc.set, bY.setCell (p := ⟨w.heap.size + 2, 2, none⟩) (by show w.heap.size ≤ w.heap.size + 2; omega) _⟩, o', far, hg.size, ?_⟩
  · exact o'.set (by simp) v'
  · obtain ⟨a', c', e'⟩ := hc.P.form
    exact ⟨a', c', by rw [e']; simp⟩
theorem CSt.pushM {w : World} {A Z : List Value} {k : C6} {X W : World} {vp vm vt : Value} {ps : List ((Nat × Nat) × List Int)} {gp : Nat → Nat → Prop} {ms : List (MV × M4)} {gm : Nat → Nat → Prop} {ts : List (tx.TV × tx.T7)} {gt : Nat → Nat → Prop} (h : CSt w A Z k X vp vm vt ps gp ms gm ts gt) (hb : Below X.heap.size X W) (x : MV) (d : M4) (Q : Nat → Prop) (e : Nat) (hm : ms.length ≤ 1000) (ty : TypeId) (he : ∀ j u, (KMk.cells x d)[j]? = some u → W.cell? ⟨e, j, none⟩ = some u) (ho : KMk.Ow W X.heap.size x d Q) :
    ∃ v' Y, (Builtin.append_ #[29, 29] ty #[vm, .slice (some ⟨e, 0, none⟩) 1 1]).run Tryz.prog W = .ok v' Y ∧ CSt w A Z k (Y.setCell ⟨w.heap.size + 2, 3, none⟩ v') vp v' vt ps gp (ms ++ [(x, d)]) (fun i => if i = ms.length then Q else gm i) ts gt ∧ Bx Y (w.heap.size + 2) [.int .i64 k.config, .int .i64 k.clock, vp, vm, vt, .bool k.lost] ∧ (∀ q, q < w.heap.size + 3 ∨ (X.heap.size ≤ q ∧ q < W.heap.size) → Y.heap[q]? = W.heap[q]?) ∧ W.heap.size ≤ Y.heap.size ∧ (∃ a' c', v' = .slice a' (ms.length + 1) c') := by
  have hsz : w.heap.size + 2 < X.heap.size := h.own.2.2
  obtain ⟨v', Y, hr, hc, hg, hv⟩ := h.rows.pushM hb (by omega) hsz x d Q e hm ty he ho
  have hbs := hb.size
  have far : ∀ q, q < w.heap.size + 3 ∨ (X.heap.size ≤ q ∧ q < W.heap.size) → Y.heap[q]? = W.heap[q]? := fun q hq => hg.block q (by omega) (fun e' => by have := hv q e'.symm; omega)
  have hW := h.later hb
  have o' : Bx Y (w.heap.size + 2) [.int .i64 k.config, .int .i64 k.clock, vp, vm, vt, .bool k.lost] := hW.own.of_block (far _ (by omega)) hg.size
  have bY : Below w.heap.size w Y := hW.bel.grown hg (by omega) (fun q hq => by have := hv q hq; omega)
  refine ⟨v', Y, hr, ⟨(hW.arg.of_block (far _ (by omega)) hg.size).far (by omega) _, (hW.res.of_block (far _ (by omega)) hg.size).far (by omega) _, ?_, hc.set, bY.setCell (p := ⟨w.heap.size + 2, 3, none⟩) (by show w.heap.size ≤ w.heap.size + 2; omega) _⟩, o', far, hg.size, ?_⟩
  · exact o'.set (by simp) v'
  · obtain ⟨a', c', e'⟩ := hc.M.form
    exact ⟨a', c', by rw [e']; simp⟩
theorem CSt.pushT {w : World} {A Z : List Value} {k : C6} {X W : World} {vp vm vt : Value} {ps : List ((Nat × Nat) × List Int)} {gp : Nat → Nat → Prop} {ms : List (MV × M4)} {gm : Nat → Nat → Prop} {ts : List (tx.TV × tx.T7)} {gt : Nat → Nat → Prop} (h : CSt w A Z k X vp vm vt ps gp ms gm ts gt) (hb : Below X.heap.size X W) (x : tx.TV) (d : tx.T7) (Q : Nat → Prop) (e : Nat) (hm : ts.length ≤ 1000) (ty : TypeId) (he : ∀ j u, (KTk.cells x d)[j]? = some u → W.cell? ⟨e, j, none⟩ = some u) (ho : KTk.Ow W X.heap.size x d Q) :
    ∃ v' Y, (Builtin.append_ #[30, 30] ty #[vt, .slice (some ⟨e, 0, none⟩) 1 1]).run Tryz.prog W = .ok v' Y ∧ CSt w A Z k (Y.setCell ⟨w.heap.size + 2, 4, none⟩ v') vp vm v' ps gp ms gm (ts ++ [(x, d)]) (fun i => if i = ts.length then Q else gt i) ∧ Bx Y (w.heap.size + 2) [.int .i64 k.config, .int .i64 k.clock, vp, vm, vt, .bool k.lost] ∧ (∀ q, q < w.heap.size + 3 ∨ (X.heap.size ≤ q ∧ q < W.heap.size) → Y.heap[q]? = W.heap[q]?) ∧ W.heap.size ≤ Y.heap.size ∧ (∃ a' c', v' = .slice a' (ts.length + 1) c') := by
  have hsz : w.heap.size + 2 < X.heap.size := h.own.2.2
  obtain ⟨v', Y, hr, hc, hg, hv⟩ := h.rows.pushT hb (by omega) hsz x d Q e hm ty he ho
  have hbs := hb.size
  have far : ∀ q, q < w.heap.size + 3 ∨ (X.heap.size ≤ q ∧ q < W.heap.size) → Y.heap[q]? = W.heap[q]? := fun q hq => hg.block q (by omega) (fun e' => by have := hv q e'.symm; omega)
  have hW := h.later hb
  have o' : Bx Y (w.heap.size + 2) [.int .i64 k.config, .int .i64 k.clock, vp, vm, vt, .bool k.lost] := hW.own.of_block (far _ (by omega)) hg.size
  have bY : Below w.heap.size w Y := hW.bel.grown hg (by omega) (fun q hq => by have := hv q hq; omega)
  refine ⟨v', Y, hr, ⟨(hW.arg.of_block (far _ (by omega)) hg.size).far (by omega) _, (hW.res.of_block (far _ (by omega)) hg.size).far (by omega) _, ?_, hc.set, bY.setCell (p := ⟨w.heap.size + 2, 4, none⟩) (by show w.heap.size ≤ w.heap.size + 2; omega) _⟩, o', far, hg.size, ?_⟩
  · exact o'.set (by simp) v'
  · obtain ⟨a', c', e'⟩ := hc.T.form
    exact ⟨a', c', by rw [e']; simp⟩
def ClAns (w : World) (k : C6) (e : Ending) (w' : World) : Prop := ∃ (a1 : Option Addr) (c1 : Nat) (a2 : Option Addr) (c2 : Nat) (a3 : Option Addr) (c3 : Nat) (ps : List ((Nat × Nat) × List Int)) (gp : Nat → Nat → Prop) (ms : List (MV × M4)) (gm : Nat → Nat → Prop) (ts : List (tx.TV × tx.T7)) (gt : Nat → Nat → Prop), e = .returned (.agg #[.int .i64 k.config, .int .i64 k.clock, .slice a1 k.places.length c1, .slice a2 k.machines.length c2, .slice a3 k.txs.length c3, .bool k.lost]) ∧ CL3 (w.heap.size + 3) (w.heap.size + 2) w' (.slice a1 k.places.length c1) (.slice a2 k.machines.length c2) (.slice a3 k.txs.length c3) ps gp ms gm ts gt ∧ ps.map (·.2) = k.places ∧ ms.map (·.2) = k.machines ∧ ts.map (·.2) = k.txs ∧ Below w.heap.size w w'
theorem take_snoc {α : Type} {l : List α} {j : Nat} {x : α} (h : l[j]? = some x) : l.take j ++ [x] = l.take (j + 1) := by rw [List.take_add_one, h]; rfl
theorem MR.ow {base p : Nat} {X : World} {u : MV} {m : M4} {gk gr : Nat → Nat} (h : MR base p X (.slice u.ac m.copies.length u.cc) (.slice u.al m.log.length u.cl) (.slice u.ad m.cleared.length u.cd) m.copies m.log m.cleared gk gr) : ∃ P, KMk.Ow X base u m P := by
  refine ⟨_, KM.of (h.om (v := u)) (fun q hq => ?_)⟩
  rcases hq with hq | hq | hq
  · exact (h.gK.blocks hq).2
  · exact (h.gR.blocks hq).2
  · exact (World.ownsRow.lt h.gD q hq).2
theorem ON.kp {w : World} {B q cp : Nat} {zs : List Int} (h : ON w B (.slice (some ⟨q, 0, none⟩) zs.length cp) zs) : KPk.Ow w B (q, cp) zs (fun x => x = q) := by
  rcases h.form with ⟨e, _⟩ | ⟨g, cap, e, h1, h2, h3, h4, h5⟩
  · cases e
  · cases e
    exact ⟨⟨rfl, h4, h5, h3⟩, fun x hx => by subst hx; exact ⟨h1, h2⟩⟩
end Go.Proofs.YtnhjgomfkfehgaaGreatDoor
namespace Go.Proofs.YtnhjgomfkfehgaaGreatDoor
open Go.RowKit
structure C3 (s p : Nat) (alive : Bool) (X : World) (vk vr vd : Value) : Prop where
  r0 : X.cell? ⟨s + 1, 0, none⟩ = some (.bool false)
  r1 : X.cell? ⟨s + 1, 1, none⟩ = some (.slice none 0 0)
  r2 : X.cell? ⟨s + 1, 2, none⟩ = some (.slice none 0 0)
  r3 : X.cell? ⟨s + 1, 3, none⟩ = some (.slice none 0 0)
  fr : ∀ j, X.frozen? ⟨s + 1, j, none⟩ = false
  o0 : X.cell? ⟨p, 0, none⟩ = some (.bool alive)
  o1 : X.cell? ⟨p, 1, none⟩ = some vk
  o2 : X.cell? ⟨p, 2, none⟩ = some vr
  o3 : X.cell? ⟨p, 3, none⟩ = some vd
  fo : ∀ j, X.frozen? ⟨p, j, none⟩ = false
  pl : s + 2 ≤ p
  pX : p < X.heap.size
theorem C3.keep {s p : Nat} {alive : Bool} {X Y : World} {vk vr vd : Value} (h : C3 s p alive X vk vr vd) (hs : X.heap.size ≤ Y.heap.size) (er : Y.heap[s + 1]? = X.heap[s + 1]?) (ep : Y.heap[p]? = X.heap[p]?) : C3 s p alive Y vk vr vd := by
  have c : ∀ {b j : Nat} {u : Value}, Y.heap[b]? = X.heap[b]? → X.cell? ⟨b, j, none⟩ = some u → Y.cell? ⟨b, j, none⟩ = some u := fun {b j u} e h => (World.cell?_of_block (a := ⟨b, j, none⟩) e).trans h
  exact ⟨c er h.r0, c er h.r1, c er h.r2, c er h.r3, fun j => (World.frozen?_of_block (a := ⟨s + 1, j, none⟩) er).trans (h.fr j), c ep h.o0, c ep h.o1, c ep h.o2, c ep h.o3, fun j => (World.frozen?_of_block (a := ⟨p, j, none⟩) ep).trans (h.fo j), h.pl, Nat.lt_of_lt_of_le h.pX hs⟩
theorem C3.later {s p : Nat} {alive : Bool} {X Y : World} {vk vr vd : Value} (h : C3 s p alive X vk vr vd) (hb : Below X.heap.size X Y) : C3 s p alive Y vk vr vd :=
  h.keep hb.size (hb.block _ (by have := h.pl; have := h.pX; omega)) (hb.block _ h.pX)
theorem C3.setK {s p : Nat} {alive : Bool} {X : World} {vk vr vd : Value} (h : C3 s p alive X vk vr vd) (u : Value) : C3 s p alive (X.setCell ⟨p, 1, none⟩ u) u vr vd :=
  have hp := h.pl
  have far : ∀ j, (X.setCell ⟨p, 1, none⟩ u).cell? ⟨s + 1, j, none⟩ = X.cell? ⟨s + 1, j, none⟩ := fun j => cell_set_far (by show p ≠ s + 1; omega) u
  ⟨(far 0).trans h.r0, (far 1).trans h.r1, (far 2).trans h.r2, (far 3).trans h.r3, fun j => by rw [World.frozen?_setCell]; exact h.fr j, (cell_set_other (by omega)).trans h.o0, cell_set_same h.o1, (cell_set_other (by omega)).trans h.o2, (cell_set_other (by omega)).trans h.o3, fun j => by rw [World.frozen?_setCell]; exact h.fo j, h.pl, by simpa [World.setCell] using h.pX⟩
theorem C3.setR {s p : Nat} {alive : Bool} {X : World} {vk vr vd : Value} (h : C3 s p alive X vk vr vd) (u : Value) : C3 s p alive (X.setCell ⟨p, 2, none⟩ u) vk u vd :=
  have hp := h.pl
  have far : ∀ j, (X.setCell ⟨p, 2, none⟩ u).cell? ⟨s + 1, j, none⟩ = X.cell? ⟨s + 1, j, none⟩ := fun j => cell_set_far (by show p ≠ s + 1; omega) u
  ⟨(far 0).trans h.r0, (far 1).trans h.r1, (far 2).trans h.r2, (far 3).trans h.r3, fun j => by rw [World.frozen?_setCell]; exact h.fr j, (cell_set_other (by omega)).trans h.o0, (cell_set_other (by omega)).trans h.o1, cell_set_same h.o2, (cell_set_other (by omega)).trans h.o3, fun j => by rw [World.frozen?_setCell]; exact h.fo j, h.pl, by simpa [World.setCell] using h.pX⟩
theorem zeroBoxM {X : World} {r : Nat} (h : X.heap[r]? = some (.cells #[.bool false, .slice none 0 0, .slice none 0 0, .slice none 0 0] 62 (0, 0))) :
    X.cell? ⟨r, 0, none⟩ = some (.bool false) ∧ X.cell? ⟨r, 1, none⟩ = some (.slice none 0 0) ∧ X.cell? ⟨r, 2, none⟩ = some (.slice none 0 0) ∧ X.cell? ⟨r, 3, none⟩ = some (.slice none 0 0) ∧ ∀ j, X.frozen? ⟨r, j, none⟩ = false :=
  ⟨by rw [cell_of_row X r 0 _ _ _ h]; rfl, by rw [cell_of_row X r 1 _ _ _ h]; rfl, by rw [cell_of_row X r 2 _ _ _ h]; rfl, by rw [cell_of_row X r 3 _ _ _ h]; rfl, fun j => frozen_of_row X r j _ _ h⟩
theorem owns_empty {X : World} {q base : Nat} (h : X.heap[q]? = some (.cells #[] 2 (0, 0))) (hb : base ≤ q) : X.ownsRow base 2 1 (.slice (some ⟨q, 0, none⟩) 0 0) 0 [] :=
  ⟨by simp, .inr ⟨q, 0, #[], rfl, hb, h, Nat.le_refl _, Nat.zero_le _, by simp, by simp⟩⟩
theorem firstM_A {s : Nat} {alive : Bool} {X : World} {vd : Value} {zs : List Int} (hX : s + 2 ≤ X.heap.size) (hr : X.heap[s + 1]? = some (.cells #[.bool false, .slice none 0 0, .slice none 0 0, .slice none 0 0] 62 (0, 0))) (hd : X.ownsRow (s + 2) 2 1 vd zs.length (zs.map (Value.int .i64))) :
    C3 s X.heap.size alive (X.alloc (.cells #[.bool alive, .slice none 0 0, .slice none 0 0, vd] 62)) (.slice none 0 0) (.slice none 0 0) vd ∧ MR (s + 2) X.heap.size (X.alloc (.cells #[.bool alive, .slice none 0 0, .slice none 0 0, vd] 62)) (.slice none 0 0) (.slice none 0 0) vd [] [] zs gz gz := by
  have bA : Below X.heap.size X (X.alloc (.cells #[.bool alive, .slice none 0 0, .slice none 0 0, vd] 62)) := (Below.refl _ _).alloc (Nat.le_refl _) _
  obtain ⟨z0, z1, z2, z3, zf⟩ := zeroBoxM ((bA.block (s + 1) (by omega)).trans hr)
  refine ⟨⟨z0, z1, z2, z3, zf, by go_simp, by go_simp, by go_simp, by go_simp, by intro j; go_simp, hX, by simp⟩, MR.start ?_ (fun e => by have := (World.ownsRow.lt hd _ e).2; omega)⟩
  refine ⟨hd.1, hd.2.imp id ?_⟩
  rintro ⟨q, cap, cur, rfl, l, hg, r⟩
  exact ⟨q, cap, cur, rfl, l, (bA.block q (World.ownsRow.lt hd q rfl).2).trans hg, r⟩
theorem firstM_B {s p : Nat} {alive : Bool} {X : World} {vd : Value} {zs : List Int} (hp : s + 2 ≤ p) (hpX : p < X.heap.size) (hr : X.heap[s + 1]? = some (.cells #[.bool false, .slice none 0 0, .slice none 0 0, .slice none 0 0] 62 (0, 0))) (hz : X.heap[p]? = some (.cells #[.bool false, .slice none 0 0, .slice none 0 0, .slice none 0 0] 62 (0, 0))) (hd : X.ownsRow (s + 2) 2 1 vd zs.length (zs.map (Value.int .i64))) (hne : vd.ownBlock ≠ some p) :
    C3 s p alive ((((X.setCell ⟨p, 0, none⟩ (.bool alive)).setCell ⟨p, 1, none⟩ (.slice none 0 0)).setCell ⟨p, 2, none⟩ (.slice none 0 0)).setCell ⟨p, 3, none⟩ vd) (.slice none 0 0) (.slice none 0 0) vd ∧ MR (s + 2) p ((((X.setCell ⟨p, 0, none⟩ (.bool alive)).setCell ⟨p, 1, none⟩ (.slice none 0 0)).setCell ⟨p, 2, none⟩ (.slice none 0 0)).setCell ⟨p, 3, none⟩ vd) (.slice none 0 0) (.slice none 0 0) vd [] [] zs gz gz := by
  obtain ⟨z0, z1, z2, z3, zf⟩ := zeroBoxM hr
  obtain ⟨y0, y1, y2, y3, yf⟩ := zeroBoxM hz
  have f : ∀ j, ((((X.setCell ⟨p, 0, none⟩ (.bool alive)).setCell ⟨p, 1, none⟩ (.slice none 0 0)).setCell ⟨p, 2, none⟩ (.slice none 0 0)).setCell ⟨p, 3, none⟩ vd).cell? ⟨s + 1, j, none⟩ = X.cell? ⟨s + 1, j, none⟩ := fun j => by
    rw [cell_set_far (by show p ≠ s + 1; omega), cell_set_far (by show p ≠ s + 1; omega), cell_set_far (by show p ≠ s + 1; omega), cell_set_far (by show p ≠ s + 1; omega)]
  refine ⟨⟨(f 0).trans z0, (f 1).trans z1, (f 2).trans z2, (f 3).trans z3, fun j => by simp only [World.frozen?_setCell]; exact zf j, ?_, ?_, ?_, ?_, fun j => by simp only [World.frozen?_setCell]; exact yf j, hp, by simpa [World.setCell] using hpX⟩, (((MR.start hd hne).set.set).set).set⟩
  · rw [cell_set_other (by omega), cell_set_other (by omega), cell_set_other (by omega)]; exact cell_set_same y0
  · rw [cell_set_other (by omega), cell_set_other (by omega)]; exact cell_set_same (by rw [cell_set_other (by omega)]; exact y1)
  · rw [cell_set_other (by omega)]; exact cell_set_same (by rw [cell_set_other (by omega), cell_set_other (by omega)]; exact y2)
  · exact cell_set_same (by rw [cell_set_other (by omega), cell_set_other (by omega), cell_set_other (by omega)]; exact y3)
def CpyFirst (w W0 : World) (m : M4) (s3 : Value) (wx : World) : Prop := ∃ (p : Nat) (a' : Option Addr) (c' : Nat), s3 = .pointer (some ⟨p, 0, none⟩) ∧ C3 w.heap.size p m.alive wx (.slice none 0 0) (.slice none 0 0) (.slice a' m.cleared.length c') ∧ MR (w.heap.size + 2) p wx (.slice none 0 0) (.slice none 0 0) (.slice a' m.cleared.length c') [] [] m.cleared gz gz ∧ Below (w.heap.size + 1) W0 wx
set_option maxRecDepth 100000 in
set_option maxHeartbeats 4000000 in
theorem l6Copy_any (w : World) (v : MV) (m : M4) (hm : MSm m) (hs : SlM w v m) :
    Calls Tryz.prog 82 #[v.val m] w fun e w' => ∃ (u : MV) (p : Nat) (gk gr : Nat → Nat), e = .returned (u.val m) ∧ MR (w.heap.size + 2) p w' (.slice u.ac m.copies.length u.cc) (.slice u.al m.log.length u.cl) (.slice u.ad m.cleared.length u.cd) m.copies m.log m.cleared gk gr ∧ Below w.heap.size w w' := by
  obtain ⟨ac, cc, al, cl, ad, cd⟩ := v
  simp only [MV.val]
  obtain ⟨W0, hW0⟩ : ∃ W0, W0 = w.alloc (.cells #[.bool m.alive, .slice ac m.copies.length cc, .slice al m.log.length cl, .slice ad m.cleared.length cd] 62) := ⟨_, rfl⟩
  have b0 : Below w.heap.size w W0 := by subst hW0; exact (Below.refl _ _).alloc (Nat.le_refl _) _
  have s0 : W0.heap.size = w.heap.size + 1 := by subst hW0; simp
  have c0 : ∀ X, Below (w.heap.size + 1) W0 X → X.cell? ⟨w.heap.size, 0, none⟩ = some (.bool m.alive) ∧ X.cell? ⟨w.heap.size, 1, none⟩ = some (.slice ac m.copies.length cc) ∧ X.cell? ⟨w.heap.size, 2, none⟩ = some (.slice al m.log.length cl) ∧ X.cell? ⟨w.heap.size, 3, none⟩ = some (.slice ad m.cleared.length cd) := fun X hX => by
    refine ⟨(hX.cell (p := ⟨w.heap.size, 0, none⟩) (by simp)).trans ?_, (hX.cell (p := ⟨w.heap.size, 1, none⟩) (by simp)).trans ?_, (hX.cell (p := ⟨w.heap.size, 2, none⟩) (by simp)).trans ?_, (hX.cell (p := ⟨w.heap.size, 3, none⟩) (by simp)).trans ?_⟩
    all_goals (subst hW0; go_simp)
  have H : Hid (MSm m ∧ SlM w ⟨ac, cc, al, cl, ad, cd⟩ m ∧ Below w.heap.size w W0 ∧ W0.heap.size = w.heap.size + 1) := ⟨hm, hs, b0, s0⟩
  have HC := hidOf c0
  clear hm hs b0 s0 c0
  go_enter Tryz.func82, Tryz.ntmps82
  go_upto_region 1 with fail
  go_cut [3] from 6 to 12 (fun s3 wx => CpyFirst w W0 m s3 wx)
  case first =>
    obtain ⟨W1, hW1⟩ : ∃ W1, W1 = (W0.alloc (.cells #[.bool false, .slice none 0 0, .slice none 0 0, .slice none 0 0] 62)).drew := ⟨_, rfl⟩
    have b1 : Below W0.heap.size W0 W1 := by subst hW1; exact ((Below.refl _ _).alloc (Nat.le_refl _) _).drew
    have s1 : W1.heap.size = w.heap.size + 2 := by subst hW1; simp [H.out.2.2.2]
    have b1' : Below (w.heap.size + 1) W0 W1 := b1.mono (by rw [H.out.2.2.2]; exact Nat.le_refl _)
    obtain ⟨ca, _, _, cd3⟩ := HC.out W1 b1'
    have hr1 : W1.heap[w.heap.size + 1]? = some (.cells #[.bool false, .slice none 0 0, .slice none 0 0, .slice none 0 0] 62 (0, 0)) := by
      subst hW1
      rw [← H.out.2.2.2]
      exact heap_alloc_new W0 _
    have hS0 : (fun X : World => X.cell? ⟨w.heap.size, 0, none⟩ = some (.bool m.alive) ∧ X.cell? ⟨w.heap.size, 3, none⟩ = some (.slice ad m.cleared.length cd)) W1 := ⟨ca, cd3⟩
    refine wp_region_until 8 (fun X : World => X.cell? ⟨w.heap.size, 0, none⟩ = some (.bool m.alive) ∧ X.cell? ⟨w.heap.size, 3, none⟩ = some (.slice ad m.cleared.length cd)) (by kernel_rfl) ?_
    have KW : Hid (Below w.heap.size w W1 ∧ Below (w.heap.size + 1) W0 W1 ∧ W1.heap.size = w.heap.size + 2 ∧ W1.heap[w.heap.size + 1]? = some (.cells #[.bool false, .slice none 0 0, .slice none 0 0, .slice none 0 0] 62 (0, 0)) ∧ (∀ X, Below W1.heap.size W1 X → (fun X : World => X.cell? ⟨w.heap.size, 0, none⟩ = some (.bool m.alive) ∧ X.cell? ⟨w.heap.size, 3, none⟩ = some (.slice ad m.cleared.length cd)) X)) := ⟨H.out.2.2.1.trans (b1'.mono (by omega)), b1', s1, hr1, fun X hX => ⟨(hX.cell (p := ⟨w.heap.size, 0, none⟩) (by show w.heap.size < W1.heap.size; omega)).trans ca, (hX.cell (p := ⟨w.heap.size, 3, none⟩) (by show w.heap.size < W1.heap.size; omega)).trans cd3⟩⟩
    clear b1 s1 b1' ca cd3 hr1
    subst hW0
    rw [← hW1]
    clear hW1
    refine wpUntil_take (i := 0) (v := ?_) rfl (by kernel_rfl) (fun _ _ _ h => h) (Or.inl ⟨by rfl, ?_⟩) hS0 ?_
    rotate_left
    · (intro w hSw; go_simp; first | done | with_reducible rfl | exact hSw.1 | exact hSw.2)
    simp only [Act.put]
    refine wpUntil_take (i := 1) (v := ?_) rfl (by kernel_rfl) (fun _ _ _ h => h) (Or.inl ⟨by rfl, ?_⟩) hS0 ?_
    rotate_left
    · (intro w hSw; go_simp; first | done | with_reducible rfl | exact hSw.1 | exact hSw.2)
    simp only [Act.put]
    refine wpUntil_take (i := 3) (v := ?_) rfl (by kernel_rfl) (fun _ _ _ h => h) (Or.inl ⟨by rfl, ?_⟩) hS0 ?_
    rotate_left
    · (intro w hSw; go_simp; first | done | with_reducible rfl | exact hSw.1 | exact hSw.2)
    simp only [Act.put]
    refine wpUntil_take (i := 4) (v := ?_) rfl (by kernel_rfl) (fun _ _ _ h => h) (Or.inl ⟨by rfl, ?_⟩) hS0 ?_
    rotate_left
    · (intro w hSw; go_simp; first | done | with_reducible rfl | exact hSw.1 | exact hSw.2)
    simp only [Act.put]
    refine wpUntil_ready (rs := [2, 7]) (by kernel_rfl) (by simp) ?_
    refine AllU.cons rfl (fun K hK => ?_) (AllU.cons rfl (fun K hK => ?_) AllU.nil)
    · have bE : Below W1.heap.size W1 (W1.alloc (.cells #[] 2)) := (Below.refl _ _).alloc (Nat.le_refl _) _
      have sE : (W1.alloc (.cells #[] 2)).heap.size = W1.heap.size + 1 := by simp
      have hE : (W1.alloc (.cells #[] 2)).heap[W1.heap.size]? = some (.cells #[] 2 (0, 0)) := heap_alloc_new W1 _
      have hSE := KW.out.2.2.2.2 _ bE
      go_simp
      refine hK.out _ _ (fun _ => hSE) ?_
      clear hK K
      refine wpUntil_ready (rs := [5, 7]) (by kernel_rfl) (by simp) ?_
      refine AllU.cons rfl (fun K hK => ?_) (AllU.cons rfl (fun K hK => ?_) AllU.nil)
      · obtain ⟨a', c', WA, hr, hd, hg, hl⟩ := appendN (W1.alloc (.cells #[] 2)) (w.heap.size + 2) (some ⟨W1.heap.size, 0, none⟩) 0 (owns_empty hE (by have := KW.out.2.2.1; omega)) m.cleared (by have := H.out.1.n; omega) 60 ad cd ((H.out.2.1.later KW.out.1).later bE).n (by have := KW.out.2.2.1; omega)
        have bA : Below W1.heap.size W1 WA := bE.grown hg bE.size (fun k h => by cases h; exact Nat.le_refl _)
        have hSA := KW.out.2.2.2.2 _ bA
        have KA : Hid (Below W1.heap.size W1 WA ∧ WA.ownsRow (w.heap.size + 2) 2 1 (.slice a' m.cleared.length c') m.cleared.length (m.cleared.map (Value.int .i64))) := ⟨bA, hd⟩
        clear hd hg hl bA bE sE hE
        refine step_known _ rfl (.tmp 8) (.tmp 10) 60 rfl _ _ _ _ (by first | rfl | simp [Act.eval, Act.put]) (by first | rfl | simp [Act.eval, Act.put]) hr ?_
        refine hK.out _ _ (fun _ => hSA) ?_
        clear hK K hr hS0 hSE
        simp only [Act.put]
        refine wpUntil_take (i := 6) (v := ?_) rfl (by kernel_rfl) (fun _ _ _ h => h) (Or.inl ⟨by rfl, ?_⟩) hSA ?_
        rotate_left
        · (intro w hSw; go_simp; first | done | with_reducible rfl | exact hSw.1 | exact hSw.2)
        simp only [Act.put]
        refine wpUntil_ready (rs := [7]) (by kernel_rfl) (by simp) ?_
        refine AllU.cons rfl (fun K hK => ?_) AllU.nil
        go_simp
        have bB : Below WA.heap.size WA (WA.alloc (.cells #[.bool false, .slice none 0 0, .slice none 0 0, .slice none 0 0] 62)) := (Below.refl _ _).alloc (Nat.le_refl _) _
        have hSB := KW.out.2.2.2.2 _ (KA.out.1.trans (bB.mono KA.out.1.size))
        refine hK.out _ _ (fun _ => hSB) ?_
        clear hK K bB hSB hSA
        refine wpUntil_ready (rs := [8]) (by kernel_rfl) (by simp) ?_
        refine AllU.cons rfl (fun K hK => ?_) AllU.nil
        go_simp
        refine hK.out _ _ (fun h => absurd rfl h) ?_
        clear hK K
        refine wpUntil_done (by kernel_rfl) ?_ _
        go_wp2_with fail
        go_meet
        have q1 := KA.out.1.size
        have q2 := KW.out.2.2.1
        obtain ⟨f1, f2⟩ := firstM_A (s := w.heap.size) (alive := m.alive) (X := WA) (by omega) ((KA.out.1.block _ (by omega)).trans KW.out.2.2.2.1) KA.out.2
        exact ⟨WA.heap.size, a', c', rfl, f1, f2, KW.out.2.1.trans ((KA.out.1.mono (by omega)).alloc (by omega) _)⟩
      · have bZ : Below (W1.heap.size + 1) (W1.alloc (.cells #[] 2)) ((W1.alloc (.cells #[] 2)).alloc (.cells #[.bool false, .slice none 0 0, .slice none 0 0, .slice none 0 0] 62)) := (Below.refl _ _).alloc (by rw [sE]; exact Nat.le_refl _) _
        have bX : Below W1.heap.size W1 ((W1.alloc (.cells #[] 2)).alloc (.cells #[.bool false, .slice none 0 0, .slice none 0 0, .slice none 0 0] 62)) := bE.trans (bZ.mono (by omega))
        have sX : ((W1.alloc (.cells #[] 2)).alloc (.cells #[.bool false, .slice none 0 0, .slice none 0 0, .slice none 0 0] 62)).heap.size = W1.heap.size + 2 := by simp
        have hq : ((W1.alloc (.cells #[] 2)).alloc (.cells #[.bool false, .slice none 0 0, .slice none 0 0, .slice none 0 0] 62)).heap[W1.heap.size]? = some (.cells #[] 2 (0, 0)) := (bZ.block _ (by omega)).trans hE
        have hp : ((W1.alloc (.cells #[] 2)).alloc (.cells #[.bool false, .slice none 0 0, .slice none 0 0, .slice none 0 0] 62)).heap[W1.heap.size + 1]? = some (.cells #[.bool false, .slice none 0 0, .slice none 0 0, .slice none 0 0] 62 (0, 0)) := by rw [← sE]; exact heap_alloc_new _ _
        have hSX := KW.out.2.2.2.2 _ bX
        obtain ⟨a', c', WA, hr, hd, hg, hl⟩ := appendN ((W1.alloc (.cells #[] 2)).alloc (.cells #[.bool false, .slice none 0 0, .slice none 0 0, .slice none 0 0] 62)) (w.heap.size + 2) (some ⟨W1.heap.size, 0, none⟩) 0 (owns_empty hq (by have := KW.out.2.2.1; omega)) m.cleared (by have := H.out.1.n; omega) 60 ad cd ((H.out.2.1.later KW.out.1).later bX).n (by have := KW.out.2.2.1; omega)
        have bA : Below W1.heap.size W1 WA := bX.grown hg bX.size (fun k h => by cases h; show W1.heap.size ≤ W1.heap.size; omega)
        have hpA : WA.heap[(W1.heap.size + 1)]? = some (.cells #[.bool false, .slice none 0 0, .slice none 0 0, .slice none 0 0] 62 (0, 0)) := (hg.block (W1.heap.size + 1) (by omega) (fun e => by have e' : (W1.heap.size + 1) = W1.heap.size := Option.some.inj e; omega)).trans hp
        have hne : (Value.slice a' m.cleared.length c').ownBlock ≠ some (W1.heap.size + 1) := fun e => by
          rcases hl with e' | e'
          · rw [e'] at e; have e'' : W1.heap.size = (W1.heap.size + 1) := Option.some.inj e; omega
          · rw [e'] at e; have := Option.some.inj e; omega
        have hpl : (W1.heap.size + 1) < WA.heap.size := by have := hg.size; omega
        obtain ⟨z0, z1, z2, z3, zf⟩ := zeroBoxM hpA
        have zf0 := zf 0
        have zf1 := zf 1
        have zf2 := zf 2
        have zf3 := zf 3
        have hSA := KW.out.2.2.2.2 _ bA
        have KA : Hid (Below W1.heap.size W1 WA ∧ WA.ownsRow (w.heap.size + 2) 2 1 (.slice a' m.cleared.length c') m.cleared.length (m.cleared.map (Value.int .i64)) ∧ WA.heap[(W1.heap.size + 1)]? = some (.cells #[.bool false, .slice none 0 0, .slice none 0 0, .slice none 0 0] 62 (0, 0)) ∧ (Value.slice a' m.cleared.length c').ownBlock ≠ some (W1.heap.size + 1) ∧ (W1.heap.size + 1) < WA.heap.size ∧ W1.heap.size ≤ (W1.heap.size + 1)) := ⟨bA, hd, hpA, hne, hpl, by omega⟩
        clear hd hg hl bA hpA hne hpl zf bX bZ hq hp bE hE
        go_simp
        refine hK.out _ _ (fun _ => hSX) ?_
        clear hK K hS0 hSE
        refine wpUntil_ready (rs := [5]) (by kernel_rfl) (by simp) ?_
        refine AllU.cons rfl (fun K hK => ?_) AllU.nil
        refine step_known _ rfl (.tmp 8) (.tmp 10) 60 rfl _ _ _ _ (by first | rfl | simp [Act.eval, Act.put]) (by first | rfl | simp [Act.eval, Act.put]) hr ?_
        refine hK.out _ _ (fun _ => hSA) ?_
        clear hK K hr hSX sX sE
        simp only [Act.put]
        refine wpUntil_take (i := 6) (v := ?_) rfl (by kernel_rfl) (fun _ _ _ h => h) (Or.inl ⟨by rfl, ?_⟩) hSA ?_
        rotate_left
        · (intro w hSw; go_simp; first | done | with_reducible rfl | exact hSw.1 | exact hSw.2)
        simp only [Act.put]
        refine wpUntil_ready (rs := [8]) (by kernel_rfl) (by simp) ?_
        refine AllU.cons rfl (fun K hK => ?_) AllU.nil
        go_simp
        refine hK.out _ _ (fun h => absurd rfl h) ?_
        clear hK K
        refine wpUntil_done (by kernel_rfl) ?_ _
        go_wp2_with fail
        go_meet
        have q2 := KW.out.2.2.1
        obtain ⟨k1, k2, k3, k4, k5, k6⟩ := KA.out
        obtain ⟨f1, f2⟩ := firstM_B (s := w.heap.size) (p := (W1.heap.size + 1)) (alive := m.alive) (X := WA) (by omega) k5 ((k1.block _ (by omega)).trans KW.out.2.2.2.1) k3 k2 k4
        exact ⟨(W1.heap.size + 1), a', c', rfl, f1, f2, ((((KW.out.2.1.trans (k1.mono (by omega))).setCell (p := ⟨_, _, none⟩) (by simp; omega) _).setCell (p := ⟨_, _, none⟩) (by simp; omega) _).setCell (p := ⟨_, _, none⟩) (by simp; omega) _).setCell (p := ⟨_, _, none⟩) (by simp; omega) _⟩
    · have bE : Below W1.heap.size W1 (W1.alloc (.cells #[.bool false, .slice none 0 0, .slice none 0 0, .slice none 0 0] 62)) := (Below.refl _ _).alloc (Nat.le_refl _) _
      have sE : (W1.alloc (.cells #[.bool false, .slice none 0 0, .slice none 0 0, .slice none 0 0] 62)).heap.size = W1.heap.size + 1 := by simp
      have hE : (W1.alloc (.cells #[.bool false, .slice none 0 0, .slice none 0 0, .slice none 0 0] 62)).heap[W1.heap.size]? = some (.cells #[.bool false, .slice none 0 0, .slice none 0 0, .slice none 0 0] 62 (0, 0)) := heap_alloc_new W1 _
      have bZ : Below (W1.heap.size + 1) (W1.alloc (.cells #[.bool false, .slice none 0 0, .slice none 0 0, .slice none 0 0] 62)) ((W1.alloc (.cells #[.bool false, .slice none 0 0, .slice none 0 0, .slice none 0 0] 62)).alloc (.cells #[] 2)) := (Below.refl _ _).alloc (by rw [sE]; exact Nat.le_refl _) _
      have bX : Below W1.heap.size W1 ((W1.alloc (.cells #[.bool false, .slice none 0 0, .slice none 0 0, .slice none 0 0] 62)).alloc (.cells #[] 2)) := bE.trans (bZ.mono (by omega))
      have sX : ((W1.alloc (.cells #[.bool false, .slice none 0 0, .slice none 0 0, .slice none 0 0] 62)).alloc (.cells #[] 2)).heap.size = W1.heap.size + 2 := by simp
      have hp : ((W1.alloc (.cells #[.bool false, .slice none 0 0, .slice none 0 0, .slice none 0 0] 62)).alloc (.cells #[] 2)).heap[W1.heap.size]? = some (.cells #[.bool false, .slice none 0 0, .slice none 0 0, .slice none 0 0] 62 (0, 0)) := (bZ.block _ (by omega)).trans hE
      have hq : ((W1.alloc (.cells #[.bool false, .slice none 0 0, .slice none 0 0, .slice none 0 0] 62)).alloc (.cells #[] 2)).heap[W1.heap.size + 1]? = some (.cells #[] 2 (0, 0)) := by rw [← sE]; exact heap_alloc_new _ _
      have hSE := KW.out.2.2.2.2 _ bE
      have hSX := KW.out.2.2.2.2 _ bX
      obtain ⟨a', c', WA, hr, hd, hg, hl⟩ := appendN ((W1.alloc (.cells #[.bool false, .slice none 0 0, .slice none 0 0, .slice none 0 0] 62)).alloc (.cells #[] 2)) (w.heap.size + 2) (some ⟨(W1.heap.size + 1), 0, none⟩) 0 (owns_empty hq (by have := KW.out.2.2.1; omega)) m.cleared (by have := H.out.1.n; omega) 60 ad cd ((H.out.2.1.later KW.out.1).later bX).n (by have := KW.out.2.2.1; omega)
      have bA : Below W1.heap.size W1 WA := bX.grown hg bX.size (fun k h => by cases h; show W1.heap.size ≤ (W1.heap.size + 1); omega)
      have hpA : WA.heap[W1.heap.size]? = some (.cells #[.bool false, .slice none 0 0, .slice none 0 0, .slice none 0 0] 62 (0, 0)) := (hg.block W1.heap.size (by omega) (fun e => by have e' : W1.heap.size = (W1.heap.size + 1) := Option.some.inj e; omega)).trans hp
      have hne : (Value.slice a' m.cleared.length c').ownBlock ≠ some W1.heap.size := fun e => by
        rcases hl with e' | e'
        · rw [e'] at e; have e'' : (W1.heap.size + 1) = W1.heap.size := Option.some.inj e; omega
        · rw [e'] at e; have := Option.some.inj e; omega
      have hpl : W1.heap.size < WA.heap.size := by have := hg.size; omega
      obtain ⟨z0, z1, z2, z3, zf⟩ := zeroBoxM hpA
      have zf0 := zf 0
      have zf1 := zf 1
      have zf2 := zf 2
      have zf3 := zf 3
      have hSA := KW.out.2.2.2.2 _ bA
      have KA : Hid (Below W1.heap.size W1 WA ∧ WA.ownsRow (w.heap.size + 2) 2 1 (.slice a' m.cleared.length c') m.cleared.length (m.cleared.map (Value.int .i64)) ∧ WA.heap[W1.heap.size]? = some (.cells #[.bool false, .slice none 0 0, .slice none 0 0, .slice none 0 0] 62 (0, 0)) ∧ (Value.slice a' m.cleared.length c').ownBlock ≠ some W1.heap.size ∧ W1.heap.size < WA.heap.size ∧ W1.heap.size ≤ W1.heap.size) := ⟨bA, hd, hpA, hne, hpl, by omega⟩
      clear hd hg hl bA hpA hne hpl zf bX bZ hq hp bE hE
      go_simp
      refine hK.out _ _ (fun _ => hSE) ?_
      clear hK K hS0
      refine wpUntil_ready (rs := [2]) (by kernel_rfl) (by simp) ?_
      refine AllU.cons rfl (fun K hK => ?_) AllU.nil
      go_simp
      refine hK.out _ _ (fun _ => hSX) ?_
      clear hK K hSE
      refine wpUntil_ready (rs := [5]) (by kernel_rfl) (by simp) ?_
      refine AllU.cons rfl (fun K hK => ?_) AllU.nil
      refine step_known _ rfl (.tmp 8) (.tmp 10) 60 rfl _ _ _ _ (by first | rfl | simp [Act.eval, Act.put]) (by first | rfl | simp [Act.eval, Act.put]) hr ?_
      refine hK.out _ _ (fun _ => hSA) ?_
      clear hK K hr hSX sX sE
      simp only [Act.put]
      refine wpUntil_take (i := 6) (v := ?_) rfl (by kernel_rfl) (fun _ _ _ h => h) (Or.inl ⟨by rfl, ?_⟩) hSA ?_
      rotate_left
      · (intro w hSw; go_simp; first | done | with_reducible rfl | exact hSw.1 | exact hSw.2)
      simp only [Act.put]
      refine wpUntil_ready (rs := [8]) (by kernel_rfl) (by simp) ?_
      refine AllU.cons rfl (fun K hK => ?_) AllU.nil
      go_simp
      refine hK.out _ _ (fun h => absurd rfl h) ?_
      clear hK K
      refine wpUntil_done (by kernel_rfl) ?_ _
      go_wp2_with fail
      go_meet
      have q2 := KW.out.2.2.1
      obtain ⟨k1, k2, k3, k4, k5, k6⟩ := KA.out
      obtain ⟨f1, f2⟩ := firstM_B (s := w.heap.size) (p := W1.heap.size) (alive := m.alive) (X := WA) (by omega) k5 ((k1.block _ (by omega)).trans KW.out.2.2.2.1) k3 k2 k4
      exact ⟨W1.heap.size, a', c', rfl, f1, f2, ((((KW.out.2.1.trans (k1.mono (by omega))).setCell (p := ⟨_, _, none⟩) (by simp; omega) _).setCell (p := ⟨_, _, none⟩) (by simp; omega) _).setCell (p := ⟨_, _, none⟩) (by simp; omega) _).setCell (p := ⟨_, _, none⟩) (by simp; omega) _⟩
  case rest =>
    obtain ⟨p, a', c', rfl, hb3, hmr, hbx⟩ := hcut
    have KC : Hid (C3 w.heap.size p m.alive wc (.slice none 0 0) (.slice none 0 0) (.slice a' m.cleared.length c') ∧ MR (w.heap.size + 2) p wc (.slice none 0 0) (.slice none 0 0) (.slice a' m.cleared.length c') [] [] m.cleared gz gz ∧ Below (w.heap.size + 1) W0 wc) := ⟨hb3, hmr, hbx⟩
    have hk6 : m.copies.length ≤ 6 := H.out.1.k
    clear hb3 hmr hbx
    go_wp2
    go_loopw [4] (fun v4 wr => ∃ (j : Nat) (ak : Option Addr) (ck : Nat) (gk : Nat → Nat), j ≤ m.copies.length ∧ v4 = .int .i64 j ∧ C3 w.heap.size p m.alive wr (.slice ak j ck) (.slice none 0 0) (.slice a' m.cleared.length c') ∧ MR (w.heap.size + 2) p wr (.slice ak j ck) (.slice none 0 0) (.slice a' m.cleared.length c') (m.copies.take j) [] m.cleared gk gz ∧ Below (w.heap.size + 1) W0 wr) (fun v4 _ => m.copies.length - (intOf v4).toNat)
    case atStart => exact ⟨0, none, 0, gz, Nat.zero_le _, rfl, KC.out.1, by rw [List.take_zero]; exact KC.out.2.1, KC.out.2.2⟩
    case round =>
      obtain ⟨j, ak, ck, gk, hj, rfl, hb3, hmr, hbx⟩ := hrel
      obtain ⟨_, c1, _, _⟩ := HC.out wr hbx
      by_cases hlt : j < m.copies.length
      · have hbw : Below w.heap.size w wr := H.out.2.2.1.trans (hbx.mono (by omega))
        obtain ⟨_, hsk⟩ := H.out.2.1.k
        have hkj : m.copies[j]? = some (atK m.copies j) := atK_of hlt
        have h6 : (atK m.copies j).cells.length = 6 := H.out.1.ks _ (List.mem_of_getElem? hkj)
        simp only [] at hsk
        rcases hsk with hsk | ⟨b, off, rfl, hb, h1⟩
        · omega
        have hr := (h1 j _ hkj).below hbw hb
        have k0 := hr.c0
        obtain ⟨a1, p1, k1, hsl, hcp⟩ := hr.c1
        have bX : Below wr.heap.size wr wr.drew := (Below.refl _ _).drew
        have hc := l3Copy_any wr.drew a1 p1 (atK m.copies j).cells (by omega) (by omega) ((hsl.mono hbw.size).later bX)
        have hSof : ∀ Y : World, (∀ x, x < w.heap.size + 1 → Y.heap[x]? = wr.heap[x]?) → Y.heap[p]? = wr.heap[p]? → (fun X : World => X.cell? ⟨p, 1, none⟩ = some (.slice ak j ck) ∧ X.cell? ⟨w.heap.size, 1, none⟩ = some (.slice (some ⟨b, off, none⟩) m.copies.length cc) ∧ X.cell? ⟨b, off + j * 2, none⟩ = some (.int .i64 (atK m.copies j).region) ∧ X.cell? ⟨b, off + j * 2 + 1, none⟩ = some (.slice a1 (atK m.copies j).cells.length p1)) Y := fun Y h1 h2 =>
          ⟨(World.cell?_of_block (a := ⟨p, 1, none⟩) h2).trans hb3.o1, (World.cell?_of_block (a := ⟨w.heap.size, 1, none⟩) (h1 w.heap.size (by omega))).trans c1, (World.cell?_of_block (a := ⟨b, off + j * 2, none⟩) (h1 b (by omega))).trans k0, (World.cell?_of_block (a := ⟨b, off + j * 2 + 1, none⟩) (h1 b (by omega))).trans k1⟩
        have hSX := hSof wr.drew (fun _ _ => rfl) rfl
        have KH : Hid (C3 w.heap.size p m.alive wr (.slice ak j ck) (.slice none 0 0) (.slice a' m.cleared.length c') ∧ MR (w.heap.size + 2) p wr (.slice ak j ck) (.slice none 0 0) (.slice a' m.cleared.length c') (m.copies.take j) [] m.cleared gk gz ∧ Below (w.heap.size + 1) W0 wr ∧ Below wr.heap.size wr wr.drew ∧ m.copies[j]? = some (atK m.copies j) ∧ (∀ Y : World, (∀ x, x < w.heap.size + 1 → Y.heap[x]? = wr.heap[x]?) → Y.heap[p]? = wr.heap[p]? → (fun X : World => X.cell? ⟨p, 1, none⟩ = some (.slice ak j ck) ∧ X.cell? ⟨w.heap.size, 1, none⟩ = some (.slice (some ⟨b, off, none⟩) m.copies.length cc) ∧ X.cell? ⟨b, off + j * 2, none⟩ = some (.int .i64 (atK m.copies j).region) ∧ X.cell? ⟨b, off + j * 2 + 1, none⟩ = some (.slice a1 (atK m.copies j).cells.length p1)) Y)) := ⟨hb3, hmr, hbx, bX, hkj, hSof⟩
        have hpw := hb3.pX
        have hjn : (j : Int) < (m.copies.length : Int) := by omega
        clear hb3 hmr hbx hbw h1 hr hsl hcp bX hkj h6 hSof
        go_wp2_with fail
        refine wp_region_until 19 (fun X : World => X.cell? ⟨p, 1, none⟩ = some (.slice ak j ck) ∧ X.cell? ⟨w.heap.size, 1, none⟩ = some (.slice (some ⟨b, off, none⟩) m.copies.length cc) ∧ X.cell? ⟨b, off + j * 2, none⟩ = some (.int .i64 (atK m.copies j).region) ∧ X.cell? ⟨b, off + j * 2 + 1, none⟩ = some (.slice a1 (atK m.copies j).cells.length p1)) (by kernel_rfl) ?_
        generalize hXX : wr.drew = X at *
        clear hXX k0 k1 c1
        refine wpUntil_take (i := 0) (v := ?_) rfl (by kernel_rfl) (fun _ _ _ h => h) (Or.inl ⟨by rfl, ?_⟩) hSX ?_
        rotate_left
        · (intro w hSw; obtain ⟨sw1, sw2, sw3, sw4⟩ := hSw; go_simp; first | done | with_reducible rfl | exact sw1 | exact sw2 | exact sw3 | exact sw4 | (rw [if_pos (by omega)]))
        simp only [Act.put]
        refine wpUntil_take (i := 1) (v := ?_) rfl (by kernel_rfl) (fun _ _ _ h => h) (Or.inl ⟨by rfl, ?_⟩) hSX ?_
        rotate_left
        · (intro w hSw; obtain ⟨sw1, sw2, sw3, sw4⟩ := hSw; go_simp; first | done | with_reducible rfl | exact sw1 | exact sw2 | exact sw3 | exact sw4 | (rw [if_pos (by omega)]))
        simp only [Act.put]
        refine wpUntil_take (i := 2) (v := ?_) rfl (by kernel_rfl) (fun _ _ _ h => h) (Or.inl ⟨by rfl, ?_⟩) hSX ?_
        rotate_left
        · (intro w hSw; obtain ⟨sw1, sw2, sw3, sw4⟩ := hSw; go_simp; first | done | with_reducible rfl | exact sw1 | exact sw2 | exact sw3 | exact sw4 | (rw [if_pos (by omega)]))
        simp only [Act.put]
        refine wpUntil_take (i := 3) (v := ?_) rfl (by kernel_rfl) (fun _ _ _ h => h) (Or.inl ⟨by rfl, ?_⟩) hSX ?_
        rotate_left
        · (intro w hSw; obtain ⟨sw1, sw2, sw3, sw4⟩ := hSw; go_simp; first | done | with_reducible rfl | exact sw1 | exact sw2 | exact sw3 | exact sw4 | (rw [if_pos (by omega)]))
        simp only [Act.put]
        refine wpUntil_take (i := 4) (v := ?_) rfl (by kernel_rfl) (fun _ _ _ h => h) (Or.inl ⟨by rfl, ?_⟩) hSX ?_
        rotate_left
        · (intro w hSw; obtain ⟨sw1, sw2, sw3, sw4⟩ := hSw; go_simp; first | done | with_reducible rfl | exact sw1 | exact sw2 | exact sw3 | exact sw4 | (rw [if_pos (by omega)]))
        simp only [Act.put]
        refine wpUntil_take (i := 5) (v := ?_) rfl (by kernel_rfl) (fun _ _ _ h => h) (Or.inl ⟨by rfl, ?_⟩) hSX ?_
        rotate_left
        · (intro w hSw; obtain ⟨sw1, sw2, sw3, sw4⟩ := hSw; go_simp; first | done | with_reducible rfl | exact sw1 | exact sw2 | exact sw3 | exact sw4 | (rw [if_pos (by omega)]))
        simp only [Act.put]
        refine wpUntil_take (i := 6) (v := ?_) rfl (by kernel_rfl) (fun _ _ _ h => h) (Or.inl ⟨by rfl, ?_⟩) hSX ?_
        rotate_left
        · (intro w hSw; obtain ⟨sw1, sw2, sw3, sw4⟩ := hSw; go_simp; first | done | with_reducible rfl | exact sw1 | exact sw2 | exact sw3 | exact sw4 | (rw [if_pos (by omega)]))
        simp only [Act.put]
        refine wpUntil_take (i := 7) (v := ?_) rfl (by kernel_rfl) (fun _ _ _ h => h) (Or.inl ⟨by rfl, ?_⟩) hSX ?_
        rotate_left
        · (intro w hSw; obtain ⟨sw1, sw2, sw3, sw4⟩ := hSw; go_simp; first | done | with_reducible rfl | exact sw1 | exact sw2 | exact sw3 | exact sw4 | (rw [if_pos (by omega)]))
        simp only [Act.put]
        refine wpUntil_take (i := 8) (v := ?_) rfl (by kernel_rfl) (fun _ _ _ h => h) (Or.inl ⟨by rfl, ?_⟩) hSX ?_
        rotate_left
        · (intro w hSw; obtain ⟨sw1, sw2, sw3, sw4⟩ := hSw; go_simp; first | done | with_reducible rfl | exact sw1 | exact sw2 | exact sw3 | exact sw4 | (rw [if_pos (by omega)]))
        simp only [Act.put]
        refine wpUntil_take (i := 9) (v := ?_) rfl (by kernel_rfl) (fun _ _ _ h => h) (Or.inl ⟨by rfl, ?_⟩) hSX ?_
        rotate_left
        · (intro w hSw; obtain ⟨sw1, sw2, sw3, sw4⟩ := hSw; go_simp; first | done | with_reducible rfl | exact sw1 | exact sw2 | exact sw3 | exact sw4 | (rw [if_pos (by omega)]))
        simp only [Act.put]
        refine wpUntil_take (i := 10) (v := ?_) rfl (by kernel_rfl) (fun _ _ _ h => h) (Or.inl ⟨by rfl, ?_⟩) hSX ?_
        rotate_left
        · (intro w hSw; obtain ⟨sw1, sw2, sw3, sw4⟩ := hSw; go_simp; first | done | with_reducible rfl | exact sw1 | exact sw2 | exact sw3 | exact sw4 | (rw [if_pos (by omega)]))
        simp only [Act.put]
        refine wpUntil_take (i := 11) (v := ?_) rfl (by kernel_rfl) (fun _ _ _ h => h) (Or.inl ⟨by rfl, ?_⟩) hSX ?_
        rotate_left
        · (intro w hSw; obtain ⟨sw1, sw2, sw3, sw4⟩ := hSw; go_simp; first | done | with_reducible rfl | exact sw1 | exact sw2 | exact sw3 | exact sw4 | (rw [if_pos (by omega)]))
        simp only [Act.put]
        refine wpUntil_take (i := 12) (v := ?_) rfl (by kernel_rfl) (fun _ _ _ h => h) (Or.inl ⟨by rfl, ?_⟩) hSX ?_
        rotate_left
        · (intro w hSw; obtain ⟨sw1, sw2, sw3, sw4⟩ := hSw; go_simp; first | done | with_reducible rfl | exact sw1 | exact sw2 | exact sw3 | exact sw4 | (rw [if_pos (by omega)]))
        simp only [Act.put]
        refine wpUntil_take (i := 13) (v := ?_) rfl (by kernel_rfl) (fun _ _ _ h => h) (Or.inl ⟨by rfl, ?_⟩) hSX ?_
        rotate_left
        · (intro w hSw; obtain ⟨sw1, sw2, sw3, sw4⟩ := hSw; go_simp; first | done | with_reducible rfl | exact sw1 | exact sw2 | exact sw3 | exact sw4 | (rw [if_pos (by omega)]))
        simp only [Act.put]
        refine wpUntil_ready (rs := [14]) (by kernel_rfl) (by simp) ?_
        refine AllU.cons rfl (fun K hK => ?_) AllU.nil
        go_simp
        refine hc.mono ?_
        clear hc
        rintro e X2 ⟨q, cp, rfl, hq1, hq2, hq3, hq4, hq5, b2⟩
        obtain ⟨hb3, hmr, hbx, bX, hkj, hSof⟩ := KH.out
        have hpl := hb3.pl
        have bX2 : Below wr.heap.size wr X2 := bX.trans (b2.mono bX.size)
        have hS2 := hSof X2 (fun x hx => bX2.block x (by omega)) (bX2.block p hpw)
        have b3 : Below X2.heap.size X2 (X2.alloc (.cells #[.int .i64 (atK m.copies j).region, .slice (some ⟨q, 0, none⟩) (atK m.copies j).cells.length cp] 99)) := (Below.refl _ _).alloc (Nat.le_refl _) _
        have s3 : (X2.alloc (.cells #[.int .i64 (atK m.copies j).region, .slice (some ⟨q, 0, none⟩) (atK m.copies j).cells.length cp] 99)).heap.size = X2.heap.size + 1 := by simp
        have bX3 : Below wr.heap.size wr (X2.alloc (.cells #[.int .i64 (atK m.copies j).region, .slice (some ⟨q, 0, none⟩) (atK m.copies j).cells.length cp] 99)) := bX2.trans (b3.mono bX2.size)
        have hS3 := hSof (X2.alloc (.cells #[.int .i64 (atK m.copies j).region, .slice (some ⟨q, 0, none⟩) (atK m.copies j).cells.length cp] 99)) (fun x hx => bX3.block x (by omega)) (bX3.block p hpw)
        obtain ⟨v', Y, hr, hmr', hgr, hol⟩ := hmr.pushK bX3 (by omega) hpw (atK m.copies j) q cp X2.heap.size (by simp; omega) 58 (by go_simp) (by go_simp) (AtK.of_block _ _ _ _ (b3.block q hq2) ⟨hq4, hq5⟩) hq3 (by have := bX.size; omega) (by omega)
        have htk : m.copies.take j ++ [(atK m.copies j)] = m.copies.take (j + 1) := by rw [List.take_add_one, hkj]; rfl
        have hfar : ∀ x, x = p ∨ x < w.heap.size + 2 → Y.heap[x]? = wr.heap[x]? := fun x hx => (hgr.block x (by have := bX3.size; omega) (fun e => by have := hol x e.symm; omega)).trans (bX3.block x (by omega))
        have hS4 := hSof Y (fun x hx => hfar x (by omega)) (hfar p (.inl rfl))
        have hlk : (m.copies.take (j + 1)).length = j + 1 := by rw [List.length_take]; omega
        rw [htk, List.length_take, Nat.min_eq_left (by omega)] at hmr'
        obtain ⟨yb, yc, rfl, -⟩ := GrowG.own (hd := hdK) (sz := 2) (fun _ => rfl) hmr'.gK (fun e => by rw [e] at hlk; simp at hlk)
        rw [hlk] at hr hmr'
        have hb3' : C3 w.heap.size p m.alive Y (.slice ak j ck) (.slice none 0 0) (.slice a' m.cleared.length c') := hb3.keep (Nat.le_trans bX3.size hgr.size) (hfar (w.heap.size + 1) (.inr (by omega))) (hfar p (.inl rfl))
        have o2 := hb3'.o1
        have fo2 := hb3'.fo 1
        have KE : Hid (C3 w.heap.size p m.alive (Y.setCell ⟨p, 1, none⟩ (.slice (some ⟨yb, 0, none⟩) (j + 1) yc)) (.slice (some ⟨yb, 0, none⟩) (j + 1) yc) (.slice none 0 0) (.slice a' m.cleared.length c') ∧ MR (w.heap.size + 2) p (Y.setCell ⟨p, 1, none⟩ (.slice (some ⟨yb, 0, none⟩) (j + 1) yc)) (.slice (some ⟨yb, 0, none⟩) (j + 1) yc) (.slice none 0 0) (.slice a' m.cleared.length c') (m.copies.take (j + 1)) [] m.cleared (fun i => if i = j then q else gk i) gz ∧ Below (w.heap.size + 1) W0 (Y.setCell ⟨p, 1, none⟩ (.slice (some ⟨yb, 0, none⟩) (j + 1) yc))) :=
          ⟨hb3'.setK _, hmr'.set, ((hbx.trans (bX3.mono (by omega))).grown hgr (by have := bX3.size; omega) (fun x e => by have := hol x e; omega)).setCell (p := ⟨p, 1, none⟩) (by show w.heap.size + 1 ≤ p; omega) _⟩
        refine hK.out _ _ (fun _ => hS2) ?_
        clear hK K hb3 hmr hbx bX hkj bX2 b3 s3 bX3 hmr' hgr hol htk hfar hlk hb3' hSX b2 hq1 hq2 hq3 hq4 hq5 KH hSof hpl
        refine wpUntil_take (i := 15) (v := ?_) rfl (by kernel_rfl) (fun _ _ _ h => h) (Or.inl ⟨by rfl, ?_⟩) hS2 ?_
        rotate_left
        · (intro w hSw; obtain ⟨sw1, sw2, sw3, sw4⟩ := hSw; go_simp; first | done | with_reducible rfl | exact sw1 | exact sw2 | exact sw3 | exact sw4 | (rw [if_pos (by omega)]))
        simp only [Act.put]
        refine wpUntil_ready (rs := [16]) (by kernel_rfl) (by simp) ?_
        refine AllU.cons rfl (fun K hK => ?_) AllU.nil
        go_simp
        refine hK.out _ _ (fun _ => hS3) ?_
        clear hK K hS2
        refine wpUntil_ready (rs := [17]) (by kernel_rfl) (by simp) ?_
        refine AllU.cons rfl (fun K hK => ?_) AllU.nil
        refine step_known _ rfl (.tmp 21) (.tmp 36) 58 rfl _ _ _ _ (by first | rfl | simp [Act.eval, Act.put]) (by first | rfl | simp [Act.eval, Act.put]) hr ?_
        refine hK.out _ _ (fun _ => hS4) ?_
        clear hK K hr hS3
        simp only [Act.put]
        refine wpUntil_ready (rs := [18]) (by kernel_rfl) (by simp) ?_
        refine AllU.cons rfl (fun K hK => ?_) AllU.nil
        go_simp
        refine hK.out _ _ (fun _ => hS4) ?_
        clear hK K
        refine wpUntil_ready (rs := [19]) (by kernel_rfl) (by simp) ?_
        refine AllU.cons rfl (fun K hK => ?_) AllU.nil
        go_simp
        refine hK.out _ _ (fun h => absurd rfl h) ?_
        clear hK K
        refine wpUntil_done (by kernel_rfl) ?_ _
        go_wp2
        exact ⟨⟨j + 1, some ⟨yb, 0, none⟩, yc, _, by omega, by simp, KE.out.1, KE.out.2.1, KE.out.2.2⟩, by simp [intOf]; omega⟩
      · obtain rfl : j = m.copies.length := by omega
        have hd : decide ((m.copies.length : Int) < (m.copies.length : Int)) = false := by simp
        rw [List.take_length] at hmr
        have KC2 : Hid (C3 w.heap.size p m.alive wr (.slice ak m.copies.length ck) (.slice none 0 0) (.slice a' m.cleared.length c') ∧ MR (w.heap.size + 2) p wr (.slice ak m.copies.length ck) (.slice none 0 0) (.slice a' m.cleared.length c') m.copies [] m.cleared gk gz ∧ Below (w.heap.size + 1) W0 wr) := ⟨hb3, hmr, hbx⟩
        have hr200 : m.log.length ≤ 200 := H.out.1.r
        clear hb3 hmr hbx KC hj hlt
        generalize wr = wk at *
        go_wp2
        clear c1
        go_loopw [5] (fun v5 wr => ∃ (j : Nat) (ar : Option Addr) (cr : Nat) (gr : Nat → Nat), j ≤ m.log.length ∧ v5 = .int .i64 j ∧ C3 w.heap.size p m.alive wr (.slice ak m.copies.length ck) (.slice ar j cr) (.slice a' m.cleared.length c') ∧ MR (w.heap.size + 2) p wr (.slice ak m.copies.length ck) (.slice ar j cr) (.slice a' m.cleared.length c') m.copies (m.log.take j) m.cleared gk gr ∧ Below (w.heap.size + 1) W0 wr) (fun v5 _ => m.log.length - (intOf v5).toNat)
        case atStart => exact ⟨0, none, 0, gz, Nat.zero_le _, rfl, KC2.out.1, by rw [List.take_zero]; exact KC2.out.2.1, KC2.out.2.2⟩
        case round =>
          obtain ⟨j, ar, cr, gr, hj, rfl, hb3, hmr, hbx⟩ := hrel
          obtain ⟨_, _, c2, _⟩ := HC.out wr hbx
          by_cases hlt : j < m.log.length
          · have hbw : Below w.heap.size w wr := H.out.2.2.1.trans (hbx.mono (by omega))
            obtain ⟨_, hsk⟩ := H.out.2.1.r
            have hkj : m.log[j]? = some (atR m.log j) := atR_of hlt
            have h6 := H.out.1.rs _ (List.mem_of_getElem? hkj)
            simp only [] at hsk
            rcases hsk with hsk | ⟨b, off, rfl, hb, h1⟩
            · omega
            have hr := (h1 j _ hkj).below hbw hb
            have k0 := hr.c0
            have k1 := hr.c1
            have k2 := hr.c2
            obtain ⟨a1, p1, k3, hsl, hcp⟩ := hr.c3
            have bX : Below wr.heap.size wr wr.drew := (Below.refl _ _).drew
            have hc := l6Record_any wr.drew (atR m.log j) a1 p1 h6.1 (by omega) (((hsl.mono hbw.size).below bX).mono bX.size)
            simp only [R4.val] at hc
            have hSof : ∀ Y : World, (∀ x, x < w.heap.size + 1 → Y.heap[x]? = wr.heap[x]?) → Y.heap[p]? = wr.heap[p]? → (fun X : World => X.cell? ⟨p, 2, none⟩ = some (.slice ar j cr) ∧ X.cell? ⟨w.heap.size, 2, none⟩ = some (.slice (some ⟨b, off, none⟩) m.log.length cl) ∧ X.cell? ⟨b, off + j * 4, none⟩ = some (.int .i64 (atR m.log j).kind) ∧ X.cell? ⟨b, off + j * 4 + 1, none⟩ = some (.int .i64 (atR m.log j).tx) ∧ X.cell? ⟨b, off + j * 4 + 2, none⟩ = some (.int .i64 (atR m.log j).region) ∧ X.cell? ⟨b, off + j * 4 + 3, none⟩ = some (.slice a1 (atR m.log j).sets.length p1)) Y := fun Y h1 h2 =>
              ⟨(World.cell?_of_block (a := ⟨p, 2, none⟩) h2).trans hb3.o2, (World.cell?_of_block (a := ⟨w.heap.size, 2, none⟩) (h1 w.heap.size (by omega))).trans c2, (World.cell?_of_block (a := ⟨b, off + j * 4, none⟩) (h1 b (by omega))).trans k0, (World.cell?_of_block (a := ⟨b, off + j * 4 + 1, none⟩) (h1 b (by omega))).trans k1, (World.cell?_of_block (a := ⟨b, off + j * 4 + 2, none⟩) (h1 b (by omega))).trans k2, (World.cell?_of_block (a := ⟨b, off + j * 4 + 3, none⟩) (h1 b (by omega))).trans k3⟩
            have hSX := hSof wr.drew (fun _ _ => rfl) rfl
            have KH : Hid (C3 w.heap.size p m.alive wr (.slice ak m.copies.length ck) (.slice ar j cr) (.slice a' m.cleared.length c') ∧ MR (w.heap.size + 2) p wr (.slice ak m.copies.length ck) (.slice ar j cr) (.slice a' m.cleared.length c') m.copies (m.log.take j) m.cleared gk gr ∧ Below (w.heap.size + 1) W0 wr ∧ Below wr.heap.size wr wr.drew ∧ m.log[j]? = some (atR m.log j) ∧ (∀ Y : World, (∀ x, x < w.heap.size + 1 → Y.heap[x]? = wr.heap[x]?) → Y.heap[p]? = wr.heap[p]? → (fun X : World => X.cell? ⟨p, 2, none⟩ = some (.slice ar j cr) ∧ X.cell? ⟨w.heap.size, 2, none⟩ = some (.slice (some ⟨b, off, none⟩) m.log.length cl) ∧ X.cell? ⟨b, off + j * 4, none⟩ = some (.int .i64 (atR m.log j).kind) ∧ X.cell? ⟨b, off + j * 4 + 1, none⟩ = some (.int .i64 (atR m.log j).tx) ∧ X.cell? ⟨b, off + j * 4 + 2, none⟩ = some (.int .i64 (atR m.log j).region) ∧ X.cell? ⟨b, off + j * 4 + 3, none⟩ = some (.slice a1 (atR m.log j).sets.length p1)) Y)) := ⟨hb3, hmr, hbx, bX, hkj, hSof⟩
            have hpw := hb3.pX
            have hjn : (j : Int) < (m.log.length : Int) := by omega
            clear hb3 hmr hbx hbw h1 hr hsl hcp bX hkj h6 hSof
            go_wp2_with fail
            refine wp_region_until 11 (fun X : World => X.cell? ⟨p, 2, none⟩ = some (.slice ar j cr) ∧ X.cell? ⟨w.heap.size, 2, none⟩ = some (.slice (some ⟨b, off, none⟩) m.log.length cl) ∧ X.cell? ⟨b, off + j * 4, none⟩ = some (.int .i64 (atR m.log j).kind) ∧ X.cell? ⟨b, off + j * 4 + 1, none⟩ = some (.int .i64 (atR m.log j).tx) ∧ X.cell? ⟨b, off + j * 4 + 2, none⟩ = some (.int .i64 (atR m.log j).region) ∧ X.cell? ⟨b, off + j * 4 + 3, none⟩ = some (.slice a1 (atR m.log j).sets.length p1)) (by kernel_rfl) ?_
            generalize hXX : wr.drew = X at *
            clear hXX k0 k1 k2 k3 c2
            refine wpUntil_take (i := 0) (v := ?_) rfl (by kernel_rfl) (fun _ _ _ h => h) (Or.inl ⟨by rfl, ?_⟩) hSX ?_
            rotate_left
            · (intro w hSw; obtain ⟨sw1, sw2, sw3, sw4, sw5, sw6⟩ := hSw; go_simp; first | done | with_reducible rfl | exact sw1 | exact sw2 | exact sw3 | exact sw4 | exact sw5 | exact sw6 | (rw [if_pos (by omega)]))
            simp only [Act.put]
            refine wpUntil_take (i := 1) (v := ?_) rfl (by kernel_rfl) (fun _ _ _ h => h) (Or.inl ⟨by rfl, ?_⟩) hSX ?_
            rotate_left
            · (intro w hSw; obtain ⟨sw1, sw2, sw3, sw4, sw5, sw6⟩ := hSw; go_simp; first | done | with_reducible rfl | exact sw1 | exact sw2 | exact sw3 | exact sw4 | exact sw5 | exact sw6 | (rw [if_pos (by omega)]))
            simp only [Act.put]
            refine wpUntil_take (i := 2) (v := ?_) rfl (by kernel_rfl) (fun _ _ _ h => h) (Or.inl ⟨by rfl, ?_⟩) hSX ?_
            rotate_left
            · (intro w hSw; obtain ⟨sw1, sw2, sw3, sw4, sw5, sw6⟩ := hSw; go_simp; first | done | with_reducible rfl | exact sw1 | exact sw2 | exact sw3 | exact sw4 | exact sw5 | exact sw6 | (rw [if_pos (by omega)]))
            simp only [Act.put]
            refine wpUntil_take (i := 3) (v := ?_) rfl (by kernel_rfl) (fun _ _ _ h => h) (Or.inl ⟨by rfl, ?_⟩) hSX ?_
            rotate_left
            · (intro w hSw; obtain ⟨sw1, sw2, sw3, sw4, sw5, sw6⟩ := hSw; go_simp; first | done | with_reducible rfl | exact sw1 | exact sw2 | exact sw3 | exact sw4 | exact sw5 | exact sw6 | (rw [if_pos (by omega)]))
            simp only [Act.put]
            refine wpUntil_take (i := 4) (v := ?_) rfl (by kernel_rfl) (fun _ _ _ h => h) (Or.inl ⟨by rfl, ?_⟩) hSX ?_
            rotate_left
            · (intro w hSw; obtain ⟨sw1, sw2, sw3, sw4, sw5, sw6⟩ := hSw; go_simp; first | done | with_reducible rfl | exact sw1 | exact sw2 | exact sw3 | exact sw4 | exact sw5 | exact sw6 | (rw [if_pos (by omega)]))
            simp only [Act.put]
            refine wpUntil_take (i := 5) (v := ?_) rfl (by kernel_rfl) (fun _ _ _ h => h) (Or.inl ⟨by rfl, ?_⟩) hSX ?_
            rotate_left
            · (intro w hSw; obtain ⟨sw1, sw2, sw3, sw4, sw5, sw6⟩ := hSw; go_simp; first | done | with_reducible rfl | exact sw1 | exact sw2 | exact sw3 | exact sw4 | exact sw5 | exact sw6 | (rw [if_pos (by omega)]))
            simp only [Act.put]
            refine wpUntil_take (i := 6) (v := ?_) rfl (by kernel_rfl) (fun _ _ _ h => h) (Or.inl ⟨by rfl, ?_⟩) hSX ?_
            rotate_left
            · (intro w hSw; obtain ⟨sw1, sw2, sw3, sw4, sw5, sw6⟩ := hSw; go_simp; first | done | with_reducible rfl | exact sw1 | exact sw2 | exact sw3 | exact sw4 | exact sw5 | exact sw6 | (rw [if_pos (by omega)]))
            simp only [Act.put]
            refine wpUntil_ready (rs := [7]) (by kernel_rfl) (by simp) ?_
            refine AllU.cons rfl (fun K hK => ?_) AllU.nil
            go_simp
            refine hc.mono ?_
            clear hc
            rintro e X2 ⟨q, cp, rfl, hq1, hq2, hq3, hq4, b2⟩
            obtain ⟨hb3, hmr, hbx, bX, hkj, hSof⟩ := KH.out
            have hpl := hb3.pl
            have bX2 : Below wr.heap.size wr X2 := bX.trans (b2.mono bX.size)
            have hS2 := hSof X2 (fun x hx => bX2.block x (by omega)) (bX2.block p hpw)
            have b3 : Below X2.heap.size X2 (X2.alloc (.cells #[.int .i64 (atR m.log j).kind, .int .i64 (atR m.log j).tx, .int .i64 (atR m.log j).region, .slice (some ⟨q, 0, none⟩) (atR m.log j).sets.length cp] 178)) := (Below.refl _ _).alloc (Nat.le_refl _) _
            have s3 : (X2.alloc (.cells #[.int .i64 (atR m.log j).kind, .int .i64 (atR m.log j).tx, .int .i64 (atR m.log j).region, .slice (some ⟨q, 0, none⟩) (atR m.log j).sets.length cp] 178)).heap.size = X2.heap.size + 1 := by simp
            have bX3 : Below wr.heap.size wr (X2.alloc (.cells #[.int .i64 (atR m.log j).kind, .int .i64 (atR m.log j).tx, .int .i64 (atR m.log j).region, .slice (some ⟨q, 0, none⟩) (atR m.log j).sets.length cp] 178)) := bX2.trans (b3.mono bX2.size)
            have hS3 := hSof (X2.alloc (.cells #[.int .i64 (atR m.log j).kind, .int .i64 (atR m.log j).tx, .int .i64 (atR m.log j).region, .slice (some ⟨q, 0, none⟩) (atR m.log j).sets.length cp] 178)) (fun x hx => bX3.block x (by omega)) (bX3.block p hpw)
            obtain ⟨v', Y, hr, hmr', hgr, hol⟩ := hmr.pushR bX3 (by omega) hpw (atR m.log j) q cp X2.heap.size (by simp; omega) 59 (by go_simp) (by go_simp) (by go_simp) (by go_simp) (AtR.of_block _ _ _ _ (b3.block q hq2) hq4) hq3 (by have := bX.size; omega) (by omega)
            have htk : m.log.take j ++ [(atR m.log j)] = m.log.take (j + 1) := by rw [List.take_add_one, hkj]; rfl
            have hfar : ∀ x, x = p ∨ x < w.heap.size + 2 → Y.heap[x]? = wr.heap[x]? := fun x hx => (hgr.block x (by have := bX3.size; omega) (fun e => by have := hol x e.symm; omega)).trans (bX3.block x (by omega))
            have hS4 := hSof Y (fun x hx => hfar x (by omega)) (hfar p (.inl rfl))
            have hlk : (m.log.take (j + 1)).length = j + 1 := by rw [List.length_take]; omega
            rw [htk, List.length_take, Nat.min_eq_left (by omega)] at hmr'
            obtain ⟨yb, yc, rfl, -⟩ := GrowG.own (hd := hdR) (sz := 4) (fun _ => rfl) hmr'.gR (fun e => by rw [e] at hlk; simp at hlk)
            rw [hlk] at hr hmr'
            have hb3' : C3 w.heap.size p m.alive Y (.slice ak m.copies.length ck) (.slice ar j cr) (.slice a' m.cleared.length c') := hb3.keep (Nat.le_trans bX3.size hgr.size) (hfar (w.heap.size + 1) (.inr (by omega))) (hfar p (.inl rfl))
            have o2 := hb3'.o2
            have fo2 := hb3'.fo 2
            have KE : Hid (C3 w.heap.size p m.alive (Y.setCell ⟨p, 2, none⟩ (.slice (some ⟨yb, 0, none⟩) (j + 1) yc)) (.slice ak m.copies.length ck) (.slice (some ⟨yb, 0, none⟩) (j + 1) yc) (.slice a' m.cleared.length c') ∧ MR (w.heap.size + 2) p (Y.setCell ⟨p, 2, none⟩ (.slice (some ⟨yb, 0, none⟩) (j + 1) yc)) (.slice ak m.copies.length ck) (.slice (some ⟨yb, 0, none⟩) (j + 1) yc) (.slice a' m.cleared.length c') m.copies (m.log.take (j + 1)) m.cleared gk (fun i => if i = j then q else gr i) ∧ Below (w.heap.size + 1) W0 (Y.setCell ⟨p, 2, none⟩ (.slice (some ⟨yb, 0, none⟩) (j + 1) yc))) :=
              ⟨hb3'.setR _, hmr'.set, ((hbx.trans (bX3.mono (by omega))).grown hgr (by have := bX3.size; omega) (fun x e => by have := hol x e; omega)).setCell (p := ⟨p, 2, none⟩) (by show w.heap.size + 1 ≤ p; omega) _⟩
            refine hK.out _ _ (fun _ => hS2) ?_
            clear hK K hb3 hmr hbx bX hkj bX2 b3 s3 bX3 hmr' hgr hol htk hfar hlk hb3' hSX b2 hq1 hq2 hq3 hq4 KH hSof hpl
            refine wpUntil_ready (rs := [8]) (by kernel_rfl) (by simp) ?_
            refine AllU.cons rfl (fun K hK => ?_) AllU.nil
            go_simp
            refine hK.out _ _ (fun _ => hS3) ?_
            clear hK K hS2
            refine wpUntil_ready (rs := [9]) (by kernel_rfl) (by simp) ?_
            refine AllU.cons rfl (fun K hK => ?_) AllU.nil
            refine step_known _ rfl (.tmp 47) (.tmp 54) 59 rfl _ _ _ _ (by first | rfl | simp [Act.eval, Act.put]) (by first | rfl | simp [Act.eval, Act.put]) hr ?_
            refine hK.out _ _ (fun _ => hS4) ?_
            clear hK K hr hS3
            simp only [Act.put]
            refine wpUntil_ready (rs := [10]) (by kernel_rfl) (by simp) ?_
            refine AllU.cons rfl (fun K hK => ?_) AllU.nil
            go_simp
            refine hK.out _ _ (fun _ => hS4) ?_
            clear hK K
            refine wpUntil_ready (rs := [11]) (by kernel_rfl) (by simp) ?_
            refine AllU.cons rfl (fun K hK => ?_) AllU.nil
            go_simp
            refine hK.out _ _ (fun h => absurd rfl h) ?_
            clear hK K
            refine wpUntil_done (by kernel_rfl) ?_ _
            go_wp2
            exact ⟨⟨j + 1, some ⟨yb, 0, none⟩, yc, _, by omega, by simp, KE.out.1, KE.out.2.1, KE.out.2.2⟩, by simp [intOf]; omega⟩
          · obtain rfl : j = m.log.length := by omega
            have hd' : decide ((m.log.length : Int) < (m.log.length : Int)) = false := by simp
            rw [List.take_length] at hmr
            have KF : Hid (MR (w.heap.size + 2) p wr (.slice ak m.copies.length ck) (.slice ar m.log.length cr) (.slice a' m.cleared.length c') m.copies m.log m.cleared gk gr ∧ Below (w.heap.size + 1) W0 wr) := ⟨hmr, hbx⟩
            obtain ⟨r0, r1, r2, r3, fr, o0, o1, o2, o3, fo, pl, pX⟩ := hb3
            have f0 := fr 0
            have f1 := fr 1
            have f2 := fr 2
            have f3 := fr 3
            clear hmr hbx KC2 hj hlt fr fo
            go_wp2
            refine bodyPost_ret (v := .agg #[.bool m.alive, .slice ak m.copies.length ck, .slice ar m.log.length cr, .slice a' m.cleared.length c']) (by simp [results, Tryz.results82, go_sem, r0, r1, r2, r3]) rfl ⟨⟨ak, ck, ar, cr, a', c'⟩, p, gk, gr, rfl, ?_, ?_⟩
            · refine KF.out.1.keep (by simp [World.setCell]) (fun x _ hx _ => ?_)
              exact (Below.heap_setCell _ _ _ _ (by show x ≠ w.heap.size + 1; omega)).trans ((Below.heap_setCell _ _ _ _ (by show x ≠ w.heap.size + 1; omega)).trans ((Below.heap_setCell _ _ _ _ (by show x ≠ w.heap.size + 1; omega)).trans (Below.heap_setCell _ _ _ _ (by show x ≠ w.heap.size + 1; omega))))
            · exact ((((H.out.2.2.1.trans (KF.out.2.mono (by omega))).setCell (p := ⟨_, _, none⟩) (by simp) _).setCell (p := ⟨_, _, none⟩) (by simp) _).setCell (p := ⟨_, _, none⟩) (by simp) _).setCell (p := ⟨_, _, none⟩) (by simp) _
end Go.Proofs.YtnhjgomfkfehgaaGreatDoor