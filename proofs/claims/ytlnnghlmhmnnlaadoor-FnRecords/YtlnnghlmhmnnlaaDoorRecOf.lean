/- What the program's recordOf answers at a row of numbers. -/
import Derived.Test.YtlnnghlmhmnnlaaDoorChunk
import Derived.Test.YtlnnghlmhmnnlaaDoorSpecRead2
import Derived.Test.YtlnnghlmhmnnlaaDoorReadSet
import Derived.BigQuiet
import Derived.BigRegion
import Derived.Maps.AppendAt
import Derived.Lib.OwnKind
import Derived.Deep.RegionHeld3
namespace Go.Proofs.YtlnnghlmhmnnlaaDoor
open Go.RowKit Go.Shelf
attribute [local go_sem] Oper.semAt_some
set_option maxHeartbeats 4000000 in
theorem recordOf_bad (w : World) (g cap : Nat) (ns : List Int) (hc : ∀ j, j < ns.length → w.cell? ⟨g, j, none⟩ = some (.int .i64 (nthI ns j))) (hg : g < w.heap.size) (hl : ns.length ≤ 52) (h3 : -10000000000 < nthI ns 3 ∧ nthI ns 3 < 10000000000) (hbad : ns.length < 4 ∨ (ns.length : Int) ≠ 4 + 4 * nthI ns 3) :
    Calls Tryd.prog 28 #[.slice (some ⟨g, 0, none⟩) ns.length cap] w fun e w' => e = .returned (.tuple #[.agg #[.int .i64 0, .int .i64 0, .int .i64 0, .slice none 0 0], .bool false]) ∧ Below w.heap.size w w' := by
  have hca : ∀ (o o' : Obj) (j : Nat), ((w.alloc o).alloc o').cell? ⟨g, j, none⟩ = w.cell? ⟨g, j, none⟩ := fun o o' j => (((Below.refl w.heap.size w).alloc (Nat.le_refl _) o).alloc (by simp) o').cell (p := ⟨g, j, none⟩) hg
  obtain ⟨N, hN⟩ : ∃ N, ns.length = N := ⟨_, rfl⟩
  rw [hN] at hc hl hbad ⊢
  by_cases h4 : N < 4
  · have q : (N : Int) < 4 := by omega
    clear hc hbad
    go_enter Tryd.func28, Tryd.ntmps28
    go_wp2
    refine bodyPost_ret (v := .tuple #[.agg #[.int .i64 0, .int .i64 0, .int .i64 0, .slice none 0 0], .bool false]) (by simp [results, Tryd.results28, go_sem]) rfl ⟨rfl, ?_⟩
    exact ((Below.refl _ _).alloc (Nat.le_refl _) _).alloc (by simp) _
  · have q : decide ((N : Int) < 4) = false := by simp; omega
    have c3 : ∀ o o' : Obj, ((w.alloc o).alloc o').cell? ⟨g, 3, none⟩ = some (.int .i64 (nthI ns 3)) := fun o o' => (hca o o' 3).trans (hc 3 (by omega))
    have q2 : ((N : Int) == 4 + 4 * nthI ns 3) = false := by simp only [beq_eq_false_iff_ne]; rcases hbad with h | h; omega; exact h
    have i3 : (3 : Int) < (N : Int) := by omega
    generalize nthI ns 3 = z at *
    clear hc hbad hca
    go_enter Tryd.func28, Tryd.ntmps28
    go_wp2
    refine bodyPost_ret (v := .tuple #[.agg #[.int .i64 0, .int .i64 0, .int .i64 0, .slice none 0 0], .bool false]) (by simp [results, Tryd.results28, go_sem]) rfl ⟨rfl, ?_⟩
    exact ((Below.refl _ _).alloc (Nat.le_refl _) _).alloc (by simp) _
def flagB (ns : List Int) (k : Nat) : Bool := nthI ns (4 + 4 * k + 2) == 0 || nthI ns (4 + 4 * k + 2) == 1
def flagsB (ns : List Int) (m : Nat) : Bool := (List.range m).all (flagB ns)
/-- What the loop over the pieces has of its own: the two results, the record that is made, the row of its Sets. -/
structure RecC (A R base : Nat) (ns : List Int) {m : Nat} (pre : List { k : Nat // k < m }) (W : World) : Prop where
  a0 : W.cell? ⟨A, 0, none⟩ = some (.int .i64 0)
  a1 : W.cell? ⟨A, 1, none⟩ = some (.int .i64 0)
  a2 : W.cell? ⟨A, 2, none⟩ = some (.int .i64 0)
  a3 : W.cell? ⟨A, 3, none⟩ = some (.slice none 0 0)
  a4 : W.cell? ⟨A + 1, 0, none⟩ = some (.bool false)
  f0 : W.frozen? ⟨A, 0, none⟩ = false
  f1 : W.frozen? ⟨A, 1, none⟩ = false
  f2 : W.frozen? ⟨A, 2, none⟩ = false
  f3 : W.frozen? ⟨A, 3, none⟩ = false
  f4 : W.frozen? ⟨A + 1, 0, none⟩ = false
  r0 : W.cell? ⟨R, 0, none⟩ = some (.int .i64 (nthI ns 0))
  r1 : W.cell? ⟨R, 1, none⟩ = some (.int .i64 (nthI ns 1))
  r2 : W.cell? ⟨R, 2, none⟩ = some (.int .i64 (nthI ns 2))
  row : ∃ av cap2, W.cell? ⟨R, 3, none⟩ = some (.slice av pre.length cap2) ∧ W.frozen? ⟨R, 3, none⟩ = false ∧ W.ownsRow base 42 5 (.slice av pre.length cap2) pre.length ((pre.map fun x => setNth ns x.1).flatMap S5.cells)
  flags : ∀ x ∈ pre, flagB ns x.1 = true
  size : base ≤ W.heap.size
theorem row_other {W : World} {base : Nat} {e : TypeId} {size : Nat} {v : Value} {n : Nat} {xs : List Value} (h : W.ownsRow base e size v n xs) {row : Option Nat} (hr : ∀ r, row = some r → ∃ o : Obj, W.heap[r]? = some o ∧ o.isCells = false) : v.ownBlock = none ∨ v.ownBlock ≠ row := by
  cases ho : v.ownBlock with
  | none => exact .inl rfl
  | some g =>
    right
    intro e
    obtain ⟨o, h1, h2⟩ := hr g e.symm
    obtain ⟨c, fz, h3⟩ := Go.Lib.ownsRow_kind h g ho
    rw [h3] at h1
    cases h1
    cases h2
theorem own_recC (A R base : Nat) (ns : List Int) (m : Nat) : Own (fun (pre : List { k : Nat // k < m }) W => RecC A R base ns pre W) := fun s X Y row hs hg hr => by
  obtain ⟨av, cap2, h1, h2, h3⟩ := hs.row
  exact ⟨cell_kept hs.a0 hg hr, cell_kept hs.a1 hg hr, cell_kept hs.a2 hg hr, cell_kept hs.a3 hg hr, cell_kept hs.a4 hg hr, (frozen_kept hs.a0 hg hr).trans hs.f0, (frozen_kept hs.a1 hg hr).trans hs.f1, (frozen_kept hs.a2 hg hr).trans hs.f2, (frozen_kept hs.a3 hg hr).trans hs.f3, (frozen_kept hs.a4 hg hr).trans hs.f4,
    cell_kept hs.r0 hg hr, cell_kept hs.r1 hg hr, cell_kept hs.r2 hg hr, ⟨av, cap2, cell_kept h1 hg hr, (frozen_kept h1 hg hr).trans h2, h3.kept hg (row_other h3 hr)⟩, hs.flags, Nat.le_trans hs.size hg.size⟩
/-- The loop was left: a flag is none. -/
structure RecX (A : Nat) (ns : List Int) {m : Nat} (c : Code) (pre : List { k : Nat // k < m }) (W : World) : Prop where
  ret : c = .ret
  a0 : W.cell? ⟨A, 0, none⟩ = some (.int .i64 0)
  a1 : W.cell? ⟨A, 1, none⟩ = some (.int .i64 0)
  a2 : W.cell? ⟨A, 2, none⟩ = some (.int .i64 0)
  a3 : W.cell? ⟨A, 3, none⟩ = some (.slice none 0 0)
  a4 : W.cell? ⟨A + 1, 0, none⟩ = some (.bool false)
  flag : ∃ x ∈ pre, flagB ns x.1 = false
theorem own_recX (A : Nat) (ns : List Int) (m : Nat) (c : Code) : Own (fun (pre : List { k : Nat // k < m }) W => RecX A ns c pre W) := fun _ _ _ _ hs hg hr =>
  ⟨hs.ret, cell_kept hs.a0 hg hr, cell_kept hs.a1 hg hr, cell_kept hs.a2 hg hr, cell_kept hs.a3 hg hr, cell_kept hs.a4 hg hr, hs.flag⟩
theorem keeps_below {W W' : World} (h : Below W.heap.size W W') : KeepsOthers W W' := ⟨h.size, fun k _ hk _ => (h.block k (Array.getElem?_eq_some_iff.1 hk).1).trans hk⟩
theorem SetsAt.of_heap {w w' : World} {b off : Nat} {xs : List S5} (h : SetsAt w b off xs) (e : w'.heap[b]? = w.heap[b]?) : SetsAt w' b off xs := fun i s hs => by
  obtain ⟨c0, c1, c2, c3, c4⟩ := h i s hs
  exact ⟨(World.cell?_of_block (a := ⟨b, _, none⟩) e).trans c0, (World.cell?_of_block (a := ⟨b, _, none⟩) e).trans c1, (World.cell?_of_block (a := ⟨b, _, none⟩) e).trans c2, (World.cell?_of_block (a := ⟨b, _, none⟩) e).trans c3, (World.cell?_of_block (a := ⟨b, _, none⟩) e).trans c4⟩
theorem Room.of_heap {w w' : World} {b m : Nat} (h : Room w b m) (e : w'.heap[b]? = w.heap[b]?) : Room w' b m := fun j hj => by
  obtain ⟨v, h1, h2⟩ := h j hj
  exact ⟨v, (World.cell?_of_block (a := ⟨b, j, none⟩) e).trans h1, (World.frozen?_of_block (a := ⟨b, j, none⟩) e).trans h2⟩
theorem mem_first {m k j : Nat} (h : k ≤ m) (hj : j < k) : ∃ x ∈ firstK m k h, x.1 = j := by
  have : j ∈ (firstK m k h).map (·.1) := by rw [firstK_vals]; exact List.mem_range.2 hj
  obtain ⟨x, hx, e⟩ := List.mem_map.1 this
  exact ⟨x, hx, e⟩
theorem flags_yes {ns : List Int} {m : Nat} (h : ∀ x ∈ firstK m m (Nat.le_refl _), flagB ns x.1 = true) : flagsB ns m = true := by
  rw [flagsB, List.all_eq_true]
  intro j hj
  obtain ⟨x, hx, rfl⟩ := mem_first (Nat.le_refl m) (List.mem_range.1 hj)
  exact h x hx
theorem flags_no {ns : List Int} {m : Nat} (x : { k : Nat // k < m }) (h : flagB ns x.1 = false) : flagsB ns m = false := by
  rw [flagsB, List.all_eq_false]
  exact ⟨x.1, List.mem_range.2 x.2, by simp [h]⟩
theorem first_sets (ns : List Int) (m : Nat) : ((firstK m m (Nat.le_refl _)).map fun x => setNth ns x.1) = setsOf ns m := by
  rw [setsOf, ← firstK_vals (Nat.le_refl m), List.map_map]; rfl
theorem after_append {W W1 w2 : World} {v : Value} {n base size : Nat} {t : TypeId} {xs : List Value} (b1 : Below W.heap.size W W1) (o1 o2 : Obj) (hg : ((W1.alloc o1).alloc o2).grownBy w2 v.ownBlock) (hown : W1.ownsRow base t size v n xs) (hbase : base ≤ W.heap.size) : Below base W w2 ∧ KeepsOthers W w2 := by
  have b2 : Below W.heap.size W ((W1.alloc o1).alloc o2) := (b1.alloc b1.size _).alloc (by have := b1.size; simp; omega) _
  refine ⟨Below.grown (b2.mono hbase) hg (Nat.le_trans hbase b2.size) fun k e => (hown.lt k e).1, (keeps_below b2).trans (KeepsOthers.of_grownBy hg fun j o e hj => ?_)⟩
  obtain ⟨c, fz, h3⟩ := Go.Lib.ownsRow_kind ((hown.alloc o1).alloc o2) j e
  rw [h3] at hj
  cases hj
  rfl
/-- What recordOf leaves at numbers of just the right count. -/
def RecPost (w : World) (ns : List Int) (m : Nat) (e : Ending) (w' : World) : Prop :=
  Below w.heap.size w w' ∧ ((flagsB ns m = true ∧ ∃ a cap, e = .returned (.tuple #[.agg #[.int .i64 (nthI ns 0), .int .i64 (nthI ns 1), .int .i64 (nthI ns 2), .slice a m cap], .bool true]) ∧ (m = 0 ∨ ∃ b, a = some ⟨b, 0, none⟩ ∧ w.heap.size ≤ b ∧ b < w'.heap.size ∧ SetsAt w' b 0 (setsOf ns m) ∧ Room w' b (m * 5)))
    ∨ (flagsB ns m = false ∧ e = .returned (.tuple #[.agg #[.int .i64 0, .int .i64 0, .int .i64 0, .slice none 0 0], .bool false])))
set_option maxRecDepth 100000 in
set_option maxHeartbeats 4000000 in
theorem recordOf_good (w : World) (g cap m : Nat) (ns : List Int) (hc : ∀ j, j < ns.length → w.cell? ⟨g, j, none⟩ = some (.int .i64 (nthI ns j))) (hg : g < w.heap.size) (hm : m ≤ 1000) (hlen : ns.length = 4 + 4 * m) (h3 : nthI ns 3 = (m : Int)) (hcap : 4 < cap) (hcn : ns.length ≤ cap) (hcap' : cap ≤ maxLen) :
    Calls Tryd.prog 28 #[.slice (some ⟨g, 0, none⟩) ns.length cap] w fun e w' => RecPost w ns m e w' := by
  have hca : ∀ (o o' : Obj) (j : Nat), ((w.alloc o).alloc o').cell? ⟨g, j, none⟩ = w.cell? ⟨g, j, none⟩ := fun o o' j => (((Below.refl w.heap.size w).alloc (Nat.le_refl _) o).alloc (by simp) o').cell (p := ⟨g, j, none⟩) hg
  obtain ⟨N, hN⟩ : ∃ N, ns.length = N := ⟨_, rfl⟩
  rw [hN] at hc hcn ⊢
  have hcap4 : (4 : Int) < (cap : Int) := by omega
  have HN : Hid (N = 4 + 4 * m) := by unfold Hid; omega
  have q : decide ((N : Int) < 4) = false := by simp; omega
  have c3 : ∀ o o' : Obj, ((w.alloc o).alloc o').cell? ⟨g, 3, none⟩ = some (.int .i64 (m : Int)) := fun o o' => (hca o o' 3).trans ((hc 3 (by omega)).trans (by rw [h3]))
  have q2 : ((N : Int) != 4 + 4 * (m : Int)) = false := by simp; omega
  have i3 : (3 : Int) < (N : Int) := by omega
  have i0 : (0 : Int) < (N : Int) := by omega
  have i1 : (1 : Int) < (N : Int) := by omega
  have i2 : (2 : Int) < (N : Int) := by omega
  have HC : Hid (∀ j, j < N → w.cell? ⟨g, j, none⟩ = some (.int .i64 (nthI ns j))) := hc
  clear hlen hN hca hc h3
  refine (callsIn_wide (n := 3)).1 ?_
  refine callsIn_of_wp_marks Tryd.func28 rfl trivial ?_ rfl
  simp only [Tryd.ntmps28, List.size_toArray, List.length_cons, List.length_nil, Nat.reduceAdd, Nat.reduceSub, Array.replicate_succ, Array.replicate_zero, List.push_toArray, List.append_toArray, List.nil_append, List.cons_append]
  refine wpIn_wide.2 ?_
  refine Code.wp_mono NoPanic.imp ?_
  go_wp2
  have a0 : ((w.alloc (.cells #[.int .i64 0, .int .i64 0, .int .i64 0, .slice none 0 0] 26)).alloc (.cells #[.bool false] 4)).cell? ⟨w.heap.size, 0, none⟩ = some (.int .i64 0) := by go_simp
  have a1 : ((w.alloc (.cells #[.int .i64 0, .int .i64 0, .int .i64 0, .slice none 0 0] 26)).alloc (.cells #[.bool false] 4)).cell? ⟨w.heap.size, 1, none⟩ = some (.int .i64 0) := by go_simp
  have a2 : ((w.alloc (.cells #[.int .i64 0, .int .i64 0, .int .i64 0, .slice none 0 0] 26)).alloc (.cells #[.bool false] 4)).cell? ⟨w.heap.size, 2, none⟩ = some (.int .i64 0) := by go_simp
  have a3 : ((w.alloc (.cells #[.int .i64 0, .int .i64 0, .int .i64 0, .slice none 0 0] 26)).alloc (.cells #[.bool false] 4)).cell? ⟨w.heap.size, 3, none⟩ = some (.slice none 0 0) := by go_simp
  have a4 : ((w.alloc (.cells #[.int .i64 0, .int .i64 0, .int .i64 0, .slice none 0 0] 26)).alloc (.cells #[.bool false] 4)).cell? ⟨w.heap.size + 1, 0, none⟩ = some (.bool false) := by go_simp
  have af : ∀ j, ((w.alloc (.cells #[.int .i64 0, .int .i64 0, .int .i64 0, .slice none 0 0] 26)).alloc (.cells #[.bool false] 4)).frozen? ⟨w.heap.size, j, none⟩ = false := by intro j; go_simp
  have af4 : ((w.alloc (.cells #[.int .i64 0, .int .i64 0, .int .i64 0, .slice none 0 0] 26)).alloc (.cells #[.bool false] 4)).frozen? ⟨w.heap.size + 1, 0, none⟩ = false := by go_simp
  have bU : Below w.heap.size w ((w.alloc (.cells #[.int .i64 0, .int .i64 0, .int .i64 0, .slice none 0 0] 26)).alloc (.cells #[.bool false] 4)) := ((Below.refl _ _).alloc (Nat.le_refl _) _).alloc (by simp) _
  have zU : ((w.alloc (.cells #[.int .i64 0, .int .i64 0, .int .i64 0, .slice none 0 0] 26)).alloc (.cells #[.bool false] 4)).heap.size = w.heap.size + 2 := by simp
  generalize ((w.alloc (.cells #[.int .i64 0, .int .i64 0, .int .i64 0, .slice none 0 0] 26)).alloc (.cells #[.bool false] 4)) = U at *
  have n0 := (bU.cell (p := ⟨g, 0, none⟩) hg).trans (HC.out 0 (by omega))
  have n1 := (bU.cell (p := ⟨g, 1, none⟩) hg).trans (HC.out 1 (by omega))
  have n2 := (bU.cell (p := ⟨g, 2, none⟩) hg).trans (HC.out 2 (by omega))
  have hgU : g < U.heap.size := by omega
  have hca : ∀ (o : Obj) (j : Nat), (U.alloc o).cell? ⟨g, j, none⟩ = U.cell? ⟨g, j, none⟩ := fun o j => ((Below.refl U.heap.size U).alloc (Nat.le_refl _) o).cell (p := ⟨g, j, none⟩) hgU
  have m0 : ∀ o : Obj, (U.alloc o).cell? ⟨g, 0, none⟩ = some (.int .i64 (nthI ns 0)) := fun o => (hca o _).trans n0
  have m1 : ∀ o : Obj, (U.alloc o).cell? ⟨g, 1, none⟩ = some (.int .i64 (nthI ns 1)) := fun o => (hca o _).trans n1
  have m2 : ∀ o : Obj, (U.alloc o).cell? ⟨g, 2, none⟩ = some (.int .i64 (nthI ns 2)) := fun o => (hca o _).trans n2
  have KU : Hid (U.cell? ⟨w.heap.size, 0, none⟩ = some (.int .i64 0) ∧ U.cell? ⟨w.heap.size, 1, none⟩ = some (.int .i64 0) ∧ U.cell? ⟨w.heap.size, 2, none⟩ = some (.int .i64 0) ∧ U.cell? ⟨w.heap.size, 3, none⟩ = some (.slice none 0 0) ∧ U.cell? ⟨w.heap.size + 1, 0, none⟩ = some (.bool false) ∧ (∀ j, U.frozen? ⟨w.heap.size, j, none⟩ = false) ∧ U.frozen? ⟨w.heap.size + 1, 0, none⟩ = false ∧ Below w.heap.size w U ∧ U.heap.size = w.heap.size + 2) := ⟨a0, a1, a2, a3, a4, af, af4, bU, zU⟩
  clear a0 a1 a2 a3 a4 af af4 bU zU hca c3 q2
  go_region
  have r0 : (U.alloc (.cells #[.int .i64 (nthI ns 0), .int .i64 (nthI ns 1), .int .i64 (nthI ns 2), .slice none 0 0] 26)).drew.cell? ⟨U.heap.size, 0, none⟩ = some (.int .i64 (nthI ns 0)) := by go_simp
  have r1 : (U.alloc (.cells #[.int .i64 (nthI ns 0), .int .i64 (nthI ns 1), .int .i64 (nthI ns 2), .slice none 0 0] 26)).drew.cell? ⟨U.heap.size, 1, none⟩ = some (.int .i64 (nthI ns 1)) := by go_simp
  have r2 : (U.alloc (.cells #[.int .i64 (nthI ns 0), .int .i64 (nthI ns 1), .int .i64 (nthI ns 2), .slice none 0 0] 26)).drew.cell? ⟨U.heap.size, 2, none⟩ = some (.int .i64 (nthI ns 2)) := by go_simp
  have r3 : (U.alloc (.cells #[.int .i64 (nthI ns 0), .int .i64 (nthI ns 1), .int .i64 (nthI ns 2), .slice none 0 0] 26)).drew.cell? ⟨U.heap.size, 3, none⟩ = some (.slice none 0 0) := by go_simp
  have rf : (U.alloc (.cells #[.int .i64 (nthI ns 0), .int .i64 (nthI ns 1), .int .i64 (nthI ns 2), .slice none 0 0] 26)).drew.frozen? ⟨U.heap.size, 3, none⟩ = false := by go_simp
  have bV : Below U.heap.size U (U.alloc (.cells #[.int .i64 (nthI ns 0), .int .i64 (nthI ns 1), .int .i64 (nthI ns 2), .slice none 0 0] 26)).drew := ((Below.refl _ _).alloc (Nat.le_refl _) _).drew
  have zV : (U.alloc (.cells #[.int .i64 (nthI ns 0), .int .i64 (nthI ns 1), .int .i64 (nthI ns 2), .slice none 0 0] 26)).drew.heap.size = U.heap.size + 1 := by
    show (U.alloc _).heap.size = _
    simp
  generalize (U.alloc (.cells #[.int .i64 (nthI ns 0), .int .i64 (nthI ns 1), .int .i64 (nthI ns 2), .slice none 0 0] 26)).drew = V at *
  have KV : Hid (V.cell? ⟨U.heap.size, 0, none⟩ = some (.int .i64 (nthI ns 0)) ∧ V.cell? ⟨U.heap.size, 1, none⟩ = some (.int .i64 (nthI ns 1)) ∧ V.cell? ⟨U.heap.size, 2, none⟩ = some (.int .i64 (nthI ns 2)) ∧ V.cell? ⟨U.heap.size, 3, none⟩ = some (.slice none 0 0) ∧ V.frozen? ⟨U.heap.size, 3, none⟩ = false ∧ Below U.heap.size U V ∧ V.heap.size = U.heap.size + 1) := ⟨r0, r1, r2, r3, rf, bV, zV⟩
  clear r0 r1 r2 r3 rf bV zV m0 m1 m2 n0 n1 n2
  have i4 : (4 : Int) ≤ (N : Int) := by omega
  have i4' : 4 ≤ N := by omega
  go_wp2_with (go_at_call 47; refine (chunk_any _ _ _ _).mono ?_; rintro e w' ⟨rfl, rfl⟩)
  have xb : ((V.alloc (.cells #[.slice (some ⟨g, 4, none⟩) (N - 4) (cap - 4)] 40)).alloc (.cells #[.int .i64 4] 3)).cell? ⟨V.heap.size, 0, none⟩ = some (.slice (some ⟨g, 4, none⟩) (N - 4) (cap - 4)) := by go_simp
  have xn : ((V.alloc (.cells #[.slice (some ⟨g, 4, none⟩) (N - 4) (cap - 4)] 40)).alloc (.cells #[.int .i64 4] 3)).cell? ⟨V.heap.size + 1, 0, none⟩ = some (.int .i64 4) := by go_simp
  have bX : Below V.heap.size V ((V.alloc (.cells #[.slice (some ⟨g, 4, none⟩) (N - 4) (cap - 4)] 40)).alloc (.cells #[.int .i64 4] 3)) := ((Below.refl _ _).alloc (Nat.le_refl _) _).alloc (by simp) _
  have zX : ((V.alloc (.cells #[.slice (some ⟨g, 4, none⟩) (N - 4) (cap - 4)] 40)).alloc (.cells #[.int .i64 4] 3)).heap.size = V.heap.size + 2 := by simp
  generalize ((V.alloc (.cells #[.slice (some ⟨g, 4, none⟩) (N - 4) (cap - 4)] 40)).alloc (.cells #[.int .i64 4] 3)) = X at *
  obtain ⟨u0, u1, u2, u3, u4, uf, uf4, bU, zU⟩ := KU.out
  obtain ⟨v0, v1, v2, v3, vf, bV, zV⟩ := KV.out
  have hN := HN.out
  have e4 : N - 4 = 4 * m := by omega
  have xb' : X.cell? ⟨V.heap.size, 0, none⟩ = some (.slice (some ⟨g, 4, none⟩) (4 * m) (cap - 4)) := by rw [xb, e4]
  have bUX : Below U.heap.size U X := bV.trans (bX.mono bV.size)
  have bwX : Below w.heap.size w X := bU.trans (bUX.mono bU.size)
  have start : RecC w.heap.size U.heap.size X.heap.size ns ([] : List { k : Nat // k < m }) X :=
    ⟨(bUX.cell (p := ⟨w.heap.size, 0, none⟩) (by simp; omega)).trans u0, (bUX.cell (p := ⟨w.heap.size, 1, none⟩) (by simp; omega)).trans u1, (bUX.cell (p := ⟨w.heap.size, 2, none⟩) (by simp; omega)).trans u2, (bUX.cell (p := ⟨w.heap.size, 3, none⟩) (by simp; omega)).trans u3, (bUX.cell (p := ⟨w.heap.size + 1, 0, none⟩) (by simp; omega)).trans u4,
      (bUX.frozen (p := ⟨w.heap.size, 0, none⟩) (by simp; omega)).trans (uf 0), (bUX.frozen (p := ⟨w.heap.size, 1, none⟩) (by simp; omega)).trans (uf 1), (bUX.frozen (p := ⟨w.heap.size, 2, none⟩) (by simp; omega)).trans (uf 2), (bUX.frozen (p := ⟨w.heap.size, 3, none⟩) (by simp; omega)).trans (uf 3), (bUX.frozen (p := ⟨w.heap.size + 1, 0, none⟩) (by simp; omega)).trans uf4,
      (bX.cell (p := ⟨U.heap.size, 0, none⟩) (by simp; omega)).trans v0, (bX.cell (p := ⟨U.heap.size, 1, none⟩) (by simp; omega)).trans v1, (bX.cell (p := ⟨U.heap.size, 2, none⟩) (by simp; omega)).trans v2, ⟨none, 0, (bX.cell (p := ⟨U.heap.size, 3, none⟩) (by simp; omega)).trans v3, (bX.frozen (p := ⟨U.heap.size, 3, none⟩) (by simp; omega)).trans vf, World.ownsRow_nil _ _ _ _⟩, (fun x hx => by cases hx), Nat.le_refl _⟩
  have SZ : Hid (U.heap.size = w.heap.size + 2 ∧ V.heap.size = w.heap.size + 3 ∧ X.heap.size = w.heap.size + 5 ∧ N = 4 + 4 * m) := ⟨zU, by omega, by omega, hN⟩
  clear u0 u1 u2 u3 u4 uf uf4 bU v0 v1 v2 v3 vf bV KU KV xb bUX bX hN e4 zU zV zX
  refine (wpIn_wide (n := 3)).1 ?_
  refine wpIn_rangeFunc_ownF rfl (by omega) (gf := 61) (lb := #[.pointer (some ⟨V.heap.size, 0, none⟩), .pointer (some ⟨V.heap.size + 1, 0, none⟩)]) rfl trivial (enters_of Tryd.func61 (by kernel_rfl) rfl)
    (chunk_stops 2 (by omega) V.heap.size (V.heap.size + 1) w.heap.size g 4 m (cap - 4) (by have := SZ.out; omega) (by have := SZ.out; omega) (by have := SZ.out; omega) X (by have := SZ.out; omega) (by have := SZ.out; omega) xb' xn) (fun h k => KeepC.trans h k) (keepC_b (by have := SZ.out; omega) (by have := SZ.out; omega) (by have := SZ.out; omega)) (Below.refl _ _) (fun _ => rfl)
    (fun pre W => RecC w.heap.size U.heap.size X.heap.size ns pre W ∧ Below w.heap.size w W)
    (fun c pre W => RecX w.heap.size ns c pre W ∧ Below w.heap.size w W)
    (OwnFrom.and (Own.from (own_recC _ _ _ _ _) _) (ownFrom_below (Nat.le_refl _) (by have := SZ.out; omega)))
    (fun c => OwnFrom.and (Own.from (own_recX _ _ _ c) _) (ownFrom_below (Nat.le_refl _) (by have := SZ.out; omega)))
    ⟨start, bwX⟩
    (fun x => { tmps := #[.slice (some ⟨g, 0, none⟩) N cap, undef, .pointer (some ⟨w.heap.size, 0, none⟩), .pointer (some ⟨w.heap.size + 1, 0, none⟩), .pointer (some ⟨U.heap.size, 0, none⟩), piece g 4 x.1, undef, undef, .slice (some ⟨g, 0, none⟩) N cap, .int .i64 N, .bool false, .bool false, .slice (some ⟨g, 0, none⟩) N cap, .int .i64 N, .slice (some ⟨g, 0, none⟩) N cap, .pointer (some ⟨g, 3, none⟩), .int .i64 m, .int .i64 (4 * (m : Int)), .int .i64 (4 + 4 * (m : Int)), .bool false, .bool false, undef, .slice (some ⟨g, 0, none⟩) N cap, .pointer (some ⟨g, 0, none⟩), .int .i64 (nthI ns 0), .slice (some ⟨g, 0, none⟩) N cap, .pointer (some ⟨g, 1, none⟩), .int .i64 (nthI ns 1), .slice (some ⟨g, 0, none⟩) N cap, .pointer (some ⟨g, 2, none⟩), .int .i64 (nthI ns 2), .agg #[.int .i64 (nthI ns 0), .int .i64 (nthI ns 1), .int .i64 (nthI ns 2), .slice none 0 0], .slice (some ⟨g, 0, none⟩) N cap, .slice (some ⟨g, 4, none⟩) (N - 4) (cap - 4), .func (.func 61) #[] #[.pointer (some ⟨V.heap.size, 0, none⟩), .pointer (some ⟨V.heap.size + 1, 0, none⟩)], piece g 4 x.1, undef, undef, undef, undef, undef, undef, undef, undef, undef, undef, undef, undef, undef, undef, undef, undef, undef], defers := [] }) ?assign ?body ?done ?stop
  case assign =>
    intro l x W K hK
    gi_wp2
    exact hK
  case body =>
    rintro l pre ⟨k, hk⟩ W ⟨hC, hB⟩ hltm
    have hszs := SZ.out
    have hWs := hC.size
    have hgW : g < W.heap.size := by omega
    have cc : ∀ j, j < N → W.cell? ⟨g, j, none⟩ = some (.int .i64 (nthI ns j)) := fun j hj => (hB.cell (p := ⟨g, j, none⟩) hg).trans (HC.out j hj)
    have hrd := readSet_any W (nthI ns 2) g (4 + 4 * k) 4 _ _ _ _ (cc (4 + 4 * k) (by omega)) (cc (4 + 4 * k + 1) (by omega)) (cc (4 + 4 * k + 2) (by omega)) (cc (4 + 4 * k + 3) (by omega)) hgW
    clear cc
    have HS : Hid (setNth ns k = ⟨nthI ns 2, nthI ns (4 + 4 * k), nthI ns (4 + 4 * k + 1), nthI ns (4 + 4 * k + 2) == 1, nthI ns (4 + 4 * k + 3)⟩) := rfl
    have HF : Hid (flagB ns k = (nthI ns (4 + 4 * k + 2) == 0 || nthI ns (4 + 4 * k + 2) == 1)) := rfl
    have hr2 := hC.r2
    obtain ⟨av, cap2, r3, rf, hrow⟩ := hC.row
    have KC : Hid (RecC w.heap.size U.heap.size X.heap.size ns pre W ∧ Below w.heap.size w W ∧ W.ownsRow X.heap.size 42 5 (.slice av pre.length cap2) pre.length ((pre.map fun x => setNth ns x.1).flatMap S5.cells) ∧ W.cell? ⟨U.heap.size, 3, none⟩ = some (.slice av pre.length cap2) ∧ W.frozen? ⟨U.heap.size, 3, none⟩ = false) := ⟨hC, hB, hrow, r3, rf⟩
    have HZ : Hid (w.heap.size + 5 ≤ W.heap.size) := by unfold Hid; omega
    generalize nthI ns 2 = z0 at hrd HS hr2
    generalize nthI ns (4 + 4 * k) = z1 at hrd HS
    generalize nthI ns (4 + 4 * k + 1) = z2 at hrd HS
    generalize nthI ns (4 + 4 * k + 2) = z3 at hrd HS HF
    generalize nthI ns (4 + 4 * k + 3) = z4 at hrd HS
    clear hC hB hrow r3 rf hszs hWs hgW
    cases hfl : flagB ns k with
    | false =>
      have hq : (z3 == 0 || z3 == 1) = false := by rw [← HF.out]; exact hfl
      rw [hq] at hrd
      have HFL : Hid (flagB ns k = false) := hfl
      clear hq hfl
      gi_wp2_with (refine ⟨trivial, ?_⟩; gi_at_call 48; refine (CallsIn.inRound l (callsIn_wide.2 hrd)).mono ?_; rintro e W1 ⟨rfl, b1⟩; have bb : ∀ o : Obj, Below W.heap.size W (W1.alloc o) := (fun o => b1.alloc b1.size o); have g0 : ∀ o : Obj, (W1.alloc o).cell? ⟨w.heap.size, 0, none⟩ = some (.int .i64 0) := (fun o => ((bb o).cell (p := ⟨w.heap.size, 0, none⟩) (by have := HZ.out; simp; omega)).trans KC.out.1.a0); have g1 : ∀ o : Obj, (W1.alloc o).cell? ⟨w.heap.size, 1, none⟩ = some (.int .i64 0) := (fun o => ((bb o).cell (p := ⟨w.heap.size, 1, none⟩) (by have := HZ.out; simp; omega)).trans KC.out.1.a1); have g2 : ∀ o : Obj, (W1.alloc o).cell? ⟨w.heap.size, 2, none⟩ = some (.int .i64 0) := (fun o => ((bb o).cell (p := ⟨w.heap.size, 2, none⟩) (by have := HZ.out; simp; omega)).trans KC.out.1.a2); have g3 : ∀ o : Obj, (W1.alloc o).cell? ⟨w.heap.size, 3, none⟩ = some (.slice none 0 0) := (fun o => ((bb o).cell (p := ⟨w.heap.size, 3, none⟩) (by have := HZ.out; simp; omega)).trans KC.out.1.a3); have g4 : ∀ o : Obj, (W1.alloc o).cell? ⟨w.heap.size + 1, 0, none⟩ = some (.bool false) := (fun o => ((bb o).cell (p := ⟨w.heap.size + 1, 0, none⟩) (by have := HZ.out; simp; omega)).trans KC.out.1.a4); have k0 : ∀ o : Obj, (W1.alloc o).frozen? ⟨w.heap.size, 0, none⟩ = false := (fun o => ((bb o).frozen (p := ⟨w.heap.size, 0, none⟩) (by have := HZ.out; simp; omega)).trans KC.out.1.f0); have k1 : ∀ o : Obj, (W1.alloc o).frozen? ⟨w.heap.size, 1, none⟩ = false := (fun o => ((bb o).frozen (p := ⟨w.heap.size, 1, none⟩) (by have := HZ.out; simp; omega)).trans KC.out.1.f1); have k2 : ∀ o : Obj, (W1.alloc o).frozen? ⟨w.heap.size, 2, none⟩ = false := (fun o => ((bb o).frozen (p := ⟨w.heap.size, 2, none⟩) (by have := HZ.out; simp; omega)).trans KC.out.1.f2); have k3 : ∀ o : Obj, (W1.alloc o).frozen? ⟨w.heap.size, 3, none⟩ = false := (fun o => ((bb o).frozen (p := ⟨w.heap.size, 3, none⟩) (by have := HZ.out; simp; omega)).trans KC.out.1.f3); have k4 : ∀ o : Obj, (W1.alloc o).frozen? ⟨w.heap.size + 1, 0, none⟩ = false := (fun o => ((bb o).frozen (p := ⟨w.heap.size + 1, 0, none⟩) (by have := HZ.out; simp; omega)).trans KC.out.1.f4); have BB : Hid (∀ o : Obj, Below W.heap.size W (W1.alloc o)) := bb; clear bb b1)
      have hZ := HZ.out
      have hb := BB.out (.cells #[.int .i64 z0, .int .i64 z1, .int .i64 z2, .bool (z3 == 1), .int .i64 z4] 42)
      refine ⟨((((KeepsOthers.trans (keeps_below hb) (KeepsOthers.setCell _ _ _)).trans (KeepsOthers.setCell _ _ _)).trans (KeepsOthers.setCell _ _ _)).trans (KeepsOthers.setCell _ _ _)).trans (KeepsOthers.setCell _ _ _), ⟨rfl, ?_, ?_, ?_, ?_, ?_, ⟨k, hk⟩, by simp, HFL.out⟩, ?_⟩
      · rw [cell_set_far (by simp), cell_set_other (by omega), cell_set_other (by omega), cell_set_other (by omega)]; exact cell_set_same (g0 _)
      · rw [cell_set_far (by simp), cell_set_other (by omega), cell_set_other (by omega)]; exact cell_set_same (by rw [cell_set_other (by omega)]; exact g1 _)
      · rw [cell_set_far (by simp), cell_set_other (by omega)]; exact cell_set_same (by rw [cell_set_other (by omega), cell_set_other (by omega)]; exact g2 _)
      · rw [cell_set_far (by simp)]; exact cell_set_same (by rw [cell_set_other (by omega), cell_set_other (by omega), cell_set_other (by omega)]; exact g3 _)
      · exact cell_set_same (by rw [cell_set_far (by simp), cell_set_far (by simp), cell_set_far (by simp), cell_set_far (by simp)]; exact g4 _)
      · exact (((((KC.out.2.1.trans (hb.mono (by omega))).setCell (p := ⟨w.heap.size, 0, none⟩) (Nat.le_refl _) _).setCell (p := ⟨w.heap.size, 1, none⟩) (Nat.le_refl _) _).setCell (p := ⟨w.heap.size, 2, none⟩) (Nat.le_refl _) _).setCell (p := ⟨w.heap.size, 3, none⟩) (Nat.le_refl _) _).setCell (p := ⟨w.heap.size + 1, 0, none⟩) (by simp) _
    | true =>
      have hq : (z3 == 0 || z3 == 1) = true := by rw [← HF.out]; exact hfl
      rw [hq] at hrd
      have HFL : Hid (flagB ns k = true) := hfl
      obtain ⟨t0, ht0, hz0, hz1, hz2⟩ := info_parts info_set
      have h1cA : Hid (∀ u ∈ ([.int .i64 z0, .int .i64 z1, .int .i64 z2, .bool (z3 == 1), .int .i64 z4] : List Value), u.oneCell' = true) := by
        intro u hu
        simp at hu
        rcases hu with rfl | rfl | rfl | rfl | rfl <;> rfl
      have hA1 : Hid (pre.length + 1 ≤ maxLen) := by unfold Hid maxLen; omega
      have hA2 : Hid ((pre.length + 1) * 40 ≤ 140737488355328) := by unfold Hid; omega
      clear hq hfl
      gi_wp2_with (first
        | (refine ⟨trivial, ?_⟩; gi_at_call 48; refine (CallsIn.inRound l (callsIn_wide.2 hrd)).mono ?_; clear hrd; rintro e W1 ⟨rfl, b1⟩; have bb : ∀ o : Obj, Below W.heap.size W (W1.alloc o) := (fun o => b1.alloc b1.size o); have g3 : ∀ o : Obj, (W1.alloc o).cell? ⟨U.heap.size, 3, none⟩ = some (.slice av pre.length cap2) := (fun o => ((bb o).cell (p := ⟨U.heap.size, 3, none⟩) (by have := HZ.out; have := SZ.out; simp; omega)).trans KC.out.2.2.2.1); have BB : Hid (∀ o : Obj, Below W.heap.size W (W1.alloc o)) := bb; have B1 : Hid (Below W.heap.size W W1) := b1; have hown1 : Hid (W1.ownsRow X.heap.size 42 5 (.slice av pre.length cap2) pre.length ((pre.map fun x => setNth ns x.1).flatMap S5.cells)) := KC.out.2.2.1.kept (row := none) ⟨b1.os, b1.tape, b1.output, b1.size, fun q hq _ => b1.block q hq⟩ (by cases (Value.slice av pre.length cap2).ownBlock <;> simp); clear bb b1)
        | (gi_at_builtin; refine wpListIn_append_own ((W1.alloc (.cells #[.int .i64 z0, .int .i64 z1, .int .i64 z2, .bool (z3 == 1), .int .i64 z4] 42)).alloc (.cells #[.int .i64 z0, .int .i64 z1, .int .i64 z2, .bool (z3 == 1), .int .i64 z4] 42)) rfl (.tmp 47) (.tmp 49) 24 rfl X.heap.size 42 t0 (.agg #[.int .i64 0, .int .i64 0, .int .i64 0, .bool false, .int .i64 0]) 5 40 Tryd.underlying24 ht0 hz0 hz1 hz2 rfl (by decide) (.slice av pre.length cap2) pre.length _ rfl ((hown1.out.alloc _).alloc _) ⟨W1.heap.size + 1, 0, none⟩ 1 1 [.int .i64 z0, .int .i64 z1, .int .i64 z2, .bool (z3 == 1), .int .i64 z4] rfl rfl (World.news_of_block (cs := #[.int .i64 z0, .int .i64 z1, .int .i64 z2, .bool (z3 == 1), .int .i64 z4]) (t := 42) (fr := (0, 0)) (by have := Go.Deep.blk_alloc_new (W1.alloc (.cells #[.int .i64 z0, .int .i64 z1, .int .i64 z2, .bool (z3 == 1), .int .i64 z4] 42)) (.cells #[.int .i64 z0, .int .i64 z1, .int .i64 z2, .bool (z3 == 1), .int .i64 z4] 42); simpa using this)) h1cA.out hA1.out hA2.out (by have := (BB.out (.cells #[.int .i64 z0, .int .i64 z1, .int .i64 z2, .bool (z3 == 1), .int .i64 z4] 42)).size; have := KC.out.1.size; simp at *; omega) ?_; intro v' w2 hown2 hgrow _; obtain ⟨g2, cap3, rfl⟩ := ownsRow_succ hown2; have K2 : Hid (w2.ownsRow X.heap.size 42 5 (.slice (some ⟨g2, 0, none⟩) (pre.length + 1) cap3) (pre.length + 1) ((pre.map fun x => setNth ns x.1).flatMap S5.cells ++ [.int .i64 z0, .int .i64 z1, .int .i64 z2, .bool (z3 == 1), .int .i64 z4]) ∧ World.grownBy ((W1.alloc (.cells #[.int .i64 z0, .int .i64 z1, .int .i64 z2, .bool (z3 == 1), .int .i64 z4] 42)).alloc (.cells #[.int .i64 z0, .int .i64 z1, .int .i64 z2, .bool (z3 == 1), .int .i64 z4] 42)) w2 (Value.slice av pre.length cap2).ownBlock) := ⟨hown2, hgrow⟩; have AP := after_append B1.out _ _ hgrow hown1.out KC.out.1.size; have c3w : w2.cell? ⟨U.heap.size, 3, none⟩ = some (.slice av pre.length cap2) := (AP.1.cell (p := ⟨U.heap.size, 3, none⟩) (by have := SZ.out; simp; omega)).trans KC.out.2.2.2.1; have f3w : w2.frozen? ⟨U.heap.size, 3, none⟩ = false := (AP.1.frozen (p := ⟨U.heap.size, 3, none⟩) (by have := SZ.out; simp; omega)).trans KC.out.2.2.2.2; have KAP : Hid (Below X.heap.size W w2 ∧ KeepsOthers W w2) := AP; clear hown2 hgrow AP))
      obtain ⟨hbA, hkA⟩ := KAP.out
      have hZ := SZ.out
      have hC := KC.out.1
      refine ⟨hkA.trans (KeepsOthers.setCell _ _ _), ⟨(hbA.mono (by omega)).setCell (p := ⟨U.heap.size, 3, none⟩) (by simp; omega) _, ?_, ?_⟩, ⟨?_, ?_, ?_, ?_, ?_, ?_, ?_, ?_, ?_, ?_, ?_, ?_, ?_, ⟨some ⟨g2, 0, none⟩, cap3, ?_, ?_, ?_⟩, ?_, ?_⟩, ?_⟩
      · rw [Below.heap_setCell _ _ _ _ (by simp; omega)]; exact hbA.block _ (by omega)
      · rw [Below.heap_setCell _ _ _ _ (by simp; omega)]; exact hbA.block _ (by omega)
      · rw [cell_set_far (by simp; omega)]; exact (hbA.cell (p := ⟨w.heap.size, 0, none⟩) (by simp; omega)).trans hC.a0
      · rw [cell_set_far (by simp; omega)]; exact (hbA.cell (p := ⟨w.heap.size, 1, none⟩) (by simp; omega)).trans hC.a1
      · rw [cell_set_far (by simp; omega)]; exact (hbA.cell (p := ⟨w.heap.size, 2, none⟩) (by simp; omega)).trans hC.a2
      · rw [cell_set_far (by simp; omega)]; exact (hbA.cell (p := ⟨w.heap.size, 3, none⟩) (by simp; omega)).trans hC.a3
      · rw [cell_set_far (by simp; omega)]; exact (hbA.cell (p := ⟨w.heap.size + 1, 0, none⟩) (by simp; omega)).trans hC.a4
      · rw [World.frozen?_setCell]; exact (hbA.frozen (p := ⟨w.heap.size, 0, none⟩) (by simp; omega)).trans hC.f0
      · rw [World.frozen?_setCell]; exact (hbA.frozen (p := ⟨w.heap.size, 1, none⟩) (by simp; omega)).trans hC.f1
      · rw [World.frozen?_setCell]; exact (hbA.frozen (p := ⟨w.heap.size, 2, none⟩) (by simp; omega)).trans hC.f2
      · rw [World.frozen?_setCell]; exact (hbA.frozen (p := ⟨w.heap.size, 3, none⟩) (by simp; omega)).trans hC.f3
      · rw [World.frozen?_setCell]; exact (hbA.frozen (p := ⟨w.heap.size + 1, 0, none⟩) (by simp; omega)).trans hC.f4
      · rw [cell_set_other (by omega)]; exact (hbA.cell (p := ⟨U.heap.size, 0, none⟩) (by simp; omega)).trans hC.r0
      · rw [cell_set_other (by omega)]; exact (hbA.cell (p := ⟨U.heap.size, 1, none⟩) (by simp; omega)).trans hC.r1
      · rw [cell_set_other (by omega)]; exact (hbA.cell (p := ⟨U.heap.size, 2, none⟩) (by simp; omega)).trans hC.r2
      · rw [List.length_append]; exact cell_set_same c3w
      · rw [World.frozen?_setCell]; exact f3w
      · have e : ((pre ++ [(⟨k, hk⟩ : { k : Nat // k < m })]).map fun x => setNth ns x.1).flatMap S5.cells = (pre.map fun x => setNth ns x.1).flatMap S5.cells ++ [.int .i64 z0, .int .i64 z1, .int .i64 z2, .bool (z3 == 1), .int .i64 z4] := by
          rw [List.map_append, List.flatMap_append]
          congr 1
          show (setNth ns k).cells ++ [] = _
          rw [List.append_nil, HS.out]
          rfl
        rw [e, List.length_append]
        exact ownsRow_setCell_below K2.out.1 (by simp; omega) _
      · intro x hx
        rcases List.mem_append.1 hx with h | h
        · exact hC.flags x h
        · simp at h; subst h; exact HFL.out
      · have := hbA.size
        have := hC.size
        simp [World.setCell]; omega
      · exact (KC.out.2.1.trans (hbA.mono (by omega))).setCell (p := ⟨U.heap.size, 3, none⟩) (by simp; omega) _
  case done =>
    rintro D ys W hD rfl ⟨hC, hB⟩ hK
    obtain ⟨av, cap2, r3, rf, hown⟩ := hC.row
    rw [firstK_len, first_sets] at hown
    rw [firstK_len] at r3
    have hfl := flags_yes hC.flags
    have hsl := own_sl hown
    obtain ⟨a0, a1, a2, a3, a4, f0, f1, f2, f3, f4, r0, r1, r2, _, _, hsz⟩ := hC
    have KD : Hid (Below w.heap.size w W ∧ W.heap[D]? = some (.deferred (some [])) ∧ X.heap.size ≤ D ∧ flagsB ns m = true ∧ (m = 0 ∨ ∃ b, av = some ⟨b, 0, none⟩ ∧ X.heap.size ≤ b ∧ b < W.heap.size ∧ SetsAt W b 0 (setsOf ns m) ∧ Room W b (m * 5)) ∧ ∀ q, (Value.slice av m cap2).ownBlock = some q → ∃ c fz, W.heap[q]? = some (.cells c 42 fz)) := ⟨hB, hK, hD, hfl, hsl, Go.Lib.ownsRow_kind hown⟩
    have hne : U.heap.size ≠ w.heap.size := by have := SZ.out; omega
    have hne1 : U.heap.size ≠ w.heap.size + 1 := by have := SZ.out; omega
    clear hB hK hD hfl hsl hown rf hsz
    go_wp2
    obtain ⟨hB, hK, hD, hfl, hsl, hkind⟩ := KD.out
    have hZ := SZ.out
    have kW : KeepsOthers W (((((W.setCell ⟨w.heap.size, 0, none⟩ (.int .i64 (nthI ns 0))).setCell ⟨w.heap.size, 1, none⟩ (.int .i64 (nthI ns 1))).setCell ⟨w.heap.size, 2, none⟩ (.int .i64 (nthI ns 2))).setCell ⟨w.heap.size, 3, none⟩ (.slice av m cap2)).setCell ⟨w.heap.size + 1, 0, none⟩ (.bool true)) := ((((KeepsOthers.setCell _ _ _).trans (KeepsOthers.setCell _ _ _)).trans (KeepsOthers.setCell _ _ _)).trans (KeepsOthers.setCell _ _ _)).trans (KeepsOthers.setCell _ _ _)
    have p0 : (((((W.setCell ⟨w.heap.size, 0, none⟩ (.int .i64 (nthI ns 0))).setCell ⟨w.heap.size, 1, none⟩ (.int .i64 (nthI ns 1))).setCell ⟨w.heap.size, 2, none⟩ (.int .i64 (nthI ns 2))).setCell ⟨w.heap.size, 3, none⟩ (.slice av m cap2)).setCell ⟨w.heap.size + 1, 0, none⟩ (.bool true)).cell? ⟨w.heap.size, 0, none⟩ = some (.int .i64 (nthI ns 0)) := by rw [cell_set_far (by simp), cell_set_other (by omega), cell_set_other (by omega), cell_set_other (by omega)]; exact cell_set_same a0
    have p1 : (((((W.setCell ⟨w.heap.size, 0, none⟩ (.int .i64 (nthI ns 0))).setCell ⟨w.heap.size, 1, none⟩ (.int .i64 (nthI ns 1))).setCell ⟨w.heap.size, 2, none⟩ (.int .i64 (nthI ns 2))).setCell ⟨w.heap.size, 3, none⟩ (.slice av m cap2)).setCell ⟨w.heap.size + 1, 0, none⟩ (.bool true)).cell? ⟨w.heap.size, 1, none⟩ = some (.int .i64 (nthI ns 1)) := by rw [cell_set_far (by simp), cell_set_other (by omega), cell_set_other (by omega)]; exact cell_set_same (by rw [cell_set_other (by omega)]; exact a1)
    have p2 : (((((W.setCell ⟨w.heap.size, 0, none⟩ (.int .i64 (nthI ns 0))).setCell ⟨w.heap.size, 1, none⟩ (.int .i64 (nthI ns 1))).setCell ⟨w.heap.size, 2, none⟩ (.int .i64 (nthI ns 2))).setCell ⟨w.heap.size, 3, none⟩ (.slice av m cap2)).setCell ⟨w.heap.size + 1, 0, none⟩ (.bool true)).cell? ⟨w.heap.size, 2, none⟩ = some (.int .i64 (nthI ns 2)) := by rw [cell_set_far (by simp), cell_set_other (by omega)]; exact cell_set_same (by rw [cell_set_other (by omega), cell_set_other (by omega)]; exact a2)
    have p3 : (((((W.setCell ⟨w.heap.size, 0, none⟩ (.int .i64 (nthI ns 0))).setCell ⟨w.heap.size, 1, none⟩ (.int .i64 (nthI ns 1))).setCell ⟨w.heap.size, 2, none⟩ (.int .i64 (nthI ns 2))).setCell ⟨w.heap.size, 3, none⟩ (.slice av m cap2)).setCell ⟨w.heap.size + 1, 0, none⟩ (.bool true)).cell? ⟨w.heap.size, 3, none⟩ = some (.slice av m cap2) := by rw [cell_set_far (by simp)]; exact cell_set_same (by rw [cell_set_other (by omega), cell_set_other (by omega), cell_set_other (by omega)]; exact a3)
    have p4 : (((((W.setCell ⟨w.heap.size, 0, none⟩ (.int .i64 (nthI ns 0))).setCell ⟨w.heap.size, 1, none⟩ (.int .i64 (nthI ns 1))).setCell ⟨w.heap.size, 2, none⟩ (.int .i64 (nthI ns 2))).setCell ⟨w.heap.size, 3, none⟩ (.slice av m cap2)).setCell ⟨w.heap.size + 1, 0, none⟩ (.bool true)).cell? ⟨w.heap.size + 1, 0, none⟩ = some (.bool true) := cell_set_same (by rw [cell_set_far (by simp), cell_set_far (by simp), cell_set_far (by simp), cell_set_far (by simp)]; exact a4)
    have hb : ∀ q, w.heap.size + 1 < q → (((((W.setCell ⟨w.heap.size, 0, none⟩ (.int .i64 (nthI ns 0))).setCell ⟨w.heap.size, 1, none⟩ (.int .i64 (nthI ns 1))).setCell ⟨w.heap.size, 2, none⟩ (.int .i64 (nthI ns 2))).setCell ⟨w.heap.size, 3, none⟩ (.slice av m cap2)).setCell ⟨w.heap.size + 1, 0, none⟩ (.bool true)).heap[q]? = W.heap[q]? := fun q hq => by
      rw [Below.heap_setCell _ _ _ _ (by simp; omega), Below.heap_setCell _ _ _ _ (by simp; omega), Below.heap_setCell _ _ _ _ (by simp; omega), Below.heap_setCell _ _ _ _ (by simp; omega), Below.heap_setCell _ _ _ _ (by simp; omega)]
    have bB : Below w.heap.size w (((((W.setCell ⟨w.heap.size, 0, none⟩ (.int .i64 (nthI ns 0))).setCell ⟨w.heap.size, 1, none⟩ (.int .i64 (nthI ns 1))).setCell ⟨w.heap.size, 2, none⟩ (.int .i64 (nthI ns 2))).setCell ⟨w.heap.size, 3, none⟩ (.slice av m cap2)).setCell ⟨w.heap.size + 1, 0, none⟩ (.bool true)) := ((((hB.setCell (p := ⟨w.heap.size, 0, none⟩) (Nat.le_refl _) _).setCell (p := ⟨w.heap.size, 1, none⟩) (Nat.le_refl _) _).setCell (p := ⟨w.heap.size, 2, none⟩) (Nat.le_refl _) _).setCell (p := ⟨w.heap.size, 3, none⟩) (Nat.le_refl _) _).setCell (p := ⟨w.heap.size + 1, 0, none⟩) (by simp) _
    have hK5 := kW.same D _ hK rfl
    have hs5 : (((((W.setCell ⟨w.heap.size, 0, none⟩ (.int .i64 (nthI ns 0))).setCell ⟨w.heap.size, 1, none⟩ (.int .i64 (nthI ns 1))).setCell ⟨w.heap.size, 2, none⟩ (.int .i64 (nthI ns 2))).setCell ⟨w.heap.size, 3, none⟩ (.slice av m cap2)).setCell ⟨w.heap.size + 1, 0, none⟩ (.bool true)).heap.size = W.heap.size := by simp [World.setCell]
    generalize (((((W.setCell ⟨w.heap.size, 0, none⟩ (.int .i64 (nthI ns 0))).setCell ⟨w.heap.size, 1, none⟩ (.int .i64 (nthI ns 1))).setCell ⟨w.heap.size, 2, none⟩ (.int .i64 (nthI ns 2))).setCell ⟨w.heap.size, 3, none⟩ (.slice av m cap2)).setCell ⟨w.heap.size + 1, 0, none⟩ (.bool true)) = W5 at *
    have hr : ∀ r, some D = some r → ∃ o : Obj, W5.heap[r]? = some o ∧ o.isCells = false := fun r e => by cases e; exact ⟨_, hK5, rfl⟩
    refine ⟨by simp, .inl ⟨_, _, rfl, run_takeDeferred hK5, ?_⟩⟩
    have g0 := cell_kept p0 (grownBy_putObj' _ D (.deferred none)) hr
    have g1 := cell_kept p1 (grownBy_putObj' _ D (.deferred none)) hr
    have g2 := cell_kept p2 (grownBy_putObj' _ D (.deferred none)) hr
    have g3 := cell_kept p3 (grownBy_putObj' _ D (.deferred none)) hr
    have g4 := cell_kept p4 (grownBy_putObj' _ D (.deferred none)) hr
    refine ⟨.tuple #[.agg #[.int .i64 (nthI ns 0), .int .i64 (nthI ns 1), .int .i64 (nthI ns 2), .slice av m cap2], .bool true], by simp [results, Tryd.results28, go_sem, g0, g1, g2, g3, g4], ?_⟩
    refine ⟨bB.trans (belowK_b (w := w) (Nat.le_refl _) W5 D _ _ (by omega) hK5 rfl rfl), .inl ⟨hfl, av, cap2, rfl, ?_⟩⟩
    rcases hsl with h0 | ⟨b, h1, h2, h3, h4, h5⟩
    · exact .inl h0
    · right
      obtain ⟨c, fz, hbk⟩ := hkind b (by rw [h1]; rfl)
      have hbD : D ≠ b := fun e => by rw [e, hbk] at hK; cases hK
      have he : (W5.putObj D (.deferred none)).heap[b]? = W.heap[b]? := (World.putObj_heap_other (fun e => hbD e.symm)).trans (hb b (by omega))
      exact ⟨b, h1, by omega, by simp [World.putObj, hs5]; omega, h4.of_heap he, h5.of_heap he⟩
  case stop =>
    rintro D c pre W hD ⟨k, hk, rfl⟩ ⟨hX, hB⟩ hK
    obtain ⟨rfl, a0, a1, a2, a3, a4, x, hx, hfx⟩ := hX
    gi_wp2
    have hZ := SZ.out
    have hr : ∀ r, some D = some r → ∃ o : Obj, W.heap[r]? = some o ∧ o.isCells = false := fun r e => by cases e; exact ⟨_, hK, rfl⟩
    refine ⟨by simp, .inl ⟨_, _, rfl, run_takeDeferred hK, ?_⟩⟩
    have g0 := cell_kept a0 (grownBy_putObj' _ D (.deferred none)) hr
    have g1 := cell_kept a1 (grownBy_putObj' _ D (.deferred none)) hr
    have g2 := cell_kept a2 (grownBy_putObj' _ D (.deferred none)) hr
    have g3 := cell_kept a3 (grownBy_putObj' _ D (.deferred none)) hr
    have g4 := cell_kept a4 (grownBy_putObj' _ D (.deferred none)) hr
    refine ⟨.tuple #[.agg #[.int .i64 0, .int .i64 0, .int .i64 0, .slice none 0 0], .bool false], by simp [results, Tryd.results28, go_sem, g0, g1, g2, g3, g4], ?_⟩
    exact ⟨hB.trans (belowK_b (w := w) (Nat.le_refl _) W D _ _ (by omega) hK rfl rfl), .inr ⟨flags_no x hfx, rfl⟩⟩
end Go.Proofs.YtlnnghlmhmnnlaaDoor
