/- The pile in memory: a pile of a row that rises; whether a cell has a thing in it. -/
import Derived.Test.YtcanaklameddbaaRows
import Derived.Test.YtcanaklameddbaaPutS
import Derived.WalkKit
import Derived.WalkSpells
import Derived.WalkLawsBesides
import Derived.Below
import Derived.Lib.QuietBelow
import Derived.BigQuiet
namespace Go.Proofs.Ytcanaklameddbaa
open Go.RowKit
open Go.Sort (grow)
def seUp2 (xs : List S5) : Prop := xs.Pairwise fun a b => seR a < seR b
theorem seUp2_at {xs : List S5} (h : seUp2 xs) {i j : Nat} {x y : S5} (hi : xs[i]? = some x) (hj : xs[j]? = some y) (hij : i < j) : seR x < seR y := by
  have li := (List.getElem?_eq_some_iff.1 hi)
  have lj := (List.getElem?_eq_some_iff.1 hj)
  have := List.pairwise_iff_getElem.1 h i j li.1 lj.1 hij
  rwa [li.2, lj.2] at this
theorem seNew {xs : List S5} (h : seUp2 xs) {k : Nat} {x : S5} (hk : xs[k]? = some x) : seW (xs.take k) x.region x.slot = none := by
  rw [seW_none]
  intro y hy e
  obtain ⟨i, hi, rfl⟩ := List.getElem_of_mem hy
  have hik : i < k := by rw [List.length_take] at hi; omega
  have e2 : xs[i]? = some ((xs.take k)[i]) := by
    have := List.getElem?_eq_getElem hi
    rwa [List.getElem?_take, if_pos hik] at this
  have := seUp2_at h e2 hk hik
  unfold seR at this
  rw [e.1, e.2] at this
  omega
theorem seStay {xs : List S5} (h : seUp2 xs) {k : Nat} {x : S5} (hk : xs[k]? = some x) : xs.take k = [] ∨ seK (xs.take k ++ [x]) (((xs.take k).length - 1) / 2) ≤ seK (xs.take k ++ [x]) (xs.take k).length := by
  by_cases h0 : k = 0
  · exact .inl (by rw [h0]; rfl)
  · have lk := (List.getElem?_eq_some_iff.1 hk).1
    have hl : (xs.take k).length = k := by rw [List.length_take]; omega
    have e1 : xs.take k ++ [x] = xs.take (k + 1) := by rw [List.take_add_one, hk]; rfl
    refine .inr ?_
    rw [hl, e1]
    obtain ⟨y, hy⟩ : ∃ y, xs[(k - 1) / 2]? = some y := ⟨_, List.getElem?_eq_getElem (by omega)⟩
    rw [seK_R (x := y) (by rw [List.getElem?_take, if_pos (by omega)]; exact hy), seK_R (x := x) (by rw [List.getElem?_take, if_pos (by omega)]; exact hk)]
    exact Int.le_of_lt (seUp2_at h hy hk (by omega))
set_option maxHeartbeats 4000000 in
theorem sePileOf_any (w : World) (a : Option Addr) (c : Nat) (xs : List S5) (hl : xs.length ≤ 100) (hs : Sl w w.heap.size a xs.length xs) (hok : ∀ s ∈ xs, setOkB s = true) (hup : seUp2 xs) :
    Calls Try.prog 49 #[.slice a xs.length c] w fun e w' => ∃ p mb n v, e = .returned (.pointer (some ⟨p, 0, none⟩)) ∧ PisB w' w.heap.size p mb n v xs ∧ n ≤ xs.length ∧ Below w.heap.size w w' := by
  obtain ⟨W0, hW0⟩ : ∃ W, W = w.alloc (.map #[] 0) := ⟨_, rfl⟩
  have z0 : W0.heap.size = w.heap.size + 1 := by rw [hW0]; simp
  have b0 : Below w.heap.size w W0 := by rw [hW0]; exact (Below.refl _ _).alloc (Nat.le_refl _) _
  obtain ⟨W, hW⟩ : ∃ W, W = W0.alloc (.cells #[.slice none 0 0, .map (some w.heap.size)] 109) := ⟨_, rfl⟩
  have b1 : Below W0.heap.size W0 W := by rw [hW]; exact (Below.refl _ _).alloc (Nat.le_refl _) _
  have pb : PisB W w.heap.size (w.heap.size + 1) w.heap.size 0 (.slice none 0 0) [] := by
    refine ⟨(by rw [hW, ← z0]; go_simp), (by rw [hW, ← z0]; go_simp), (fun j => by rw [hW, ← z0]; go_simp), RowS.nil _ _, ?_, (fun s hs => by cases hs), (fun e => by cases e), (fun e => by cases e), (by omega), (by omega), Nat.le_refl _, (by rw [hW]; simp [z0])⟩
    have hm := (MapF.made w).later (W' := W) (by rw [← hW0]; exact b1)
    exact hm
  have H : Hid (Sl w w.heap.size a xs.length xs ∧ (∀ s ∈ xs, setOkB s = true) ∧ seUp2 xs ∧ PisB W w.heap.size (w.heap.size + 1) w.heap.size 0 (.slice none 0 0) [] ∧ Below w.heap.size w W) := ⟨hs, hok, hup, pb, b0.trans (b1.mono b0.size)⟩
  clear hs hok hup pb b0 b1 z0
  rw [hW0] at hW
  clear hW0
  have hmm := @run_makeMap Try.prog
  go_enter Try.func49, Try.ntmps49
  go_wp2
  rw [← hW]
  clear hW
  go_loopw [11] (fun v11 wr => ∃ (k n : Nat) (v : Value), k ≤ xs.length ∧ v11 = .int .i64 (k : Int) ∧ PisB wr w.heap.size (w.heap.size + 1) w.heap.size n v (xs.take k) ∧ n ≤ k ∧ Below w.heap.size w wr) (fun v11 _ => xs.length - (intOf v11).toNat)
  case atStart => exact ⟨0, 0, .slice none 0 0, Nat.zero_le _, rfl, by simpa using H.out.2.2.2.1, Nat.le_refl _, H.out.2.2.2.2⟩
  case round =>
    obtain ⟨k, n, v, hk, rfl, hp, hnk, hbl⟩ := hrel
    by_cases hlt : k < xs.length
    · obtain ⟨_, hsk⟩ := H.out.1.later hbl
      rcases hsk with hsk | ⟨b, off, rfl, hb, hx⟩
      · omega
      have hxk := atSe_of hlt
      obtain ⟨c0, c1, c2, c3, c4⟩ := hx k _ hxk
      obtain ⟨V, hV⟩ : ∃ V, V = wr.alloc (.cells #[.int .i64 (atSe xs k).region, .int .i64 (atSe xs k).slot, .int .i64 (atSe xs k).value, .bool (atSe xs k).used, .int .i64 (atSe xs k).version] 36) := ⟨_, rfl⟩
      have bV : Below wr.heap.size wr V := by rw [hV]; exact (Below.refl _ _).alloc (Nat.le_refl _) _
      have cp := sePutLast V w.heap.size (w.heap.size + 1) w.heap.size n v (xs.take k) (atSe xs k) (hp.later bV) (by omega) (by rw [List.length_take]; omega) (H.out.2.1 _ (List.mem_of_getElem? hxk)) (seNew H.out.2.2.1 hxk) (Nat.le_trans hbl.size bV.size) (seStay H.out.2.2.1 hxk)
      have KB : Hid (Below w.heap.size w V ∧ xs.take k ++ [atSe xs k] = xs.take (k + 1)) := ⟨hbl.trans (bV.mono hbl.size), by rw [List.take_add_one, hxk]; rfl⟩
      clear hp hbl hx hxk bV
      go_wp2_with fail
      rw [← hV]
      clear hV c0 c1 c2 c3 c4
      refine cp.mono ?_
      clear cp
      rintro e w1 ⟨rfl, v', p1, b1⟩
      rw [KB.out.2] at p1
      have KE : Hid (PisB w1 w.heap.size (w.heap.size + 1) w.heap.size (n + 1) v' (xs.take (k + 1)) ∧ Below w.heap.size w w1) := ⟨p1, KB.out.1.trans b1⟩
      clear p1 b1
      go_wp2
      exact ⟨⟨k + 1, n + 1, v', by omega, by simp, KE.out.1, by omega, KE.out.2⟩, by simp [intOf]; omega⟩
    · obtain rfl : k = xs.length := by omega
      have hd : decide ((xs.length : Int) < (xs.length : Int)) = false := by simp
      rw [List.take_length] at hp
      have KE : Hid (PisB wr w.heap.size (w.heap.size + 1) w.heap.size n v xs ∧ Below w.heap.size w wr) := ⟨hp, hbl⟩
      clear hp hbl
      go_wp2
      go_ret
      exact ⟨w.heap.size + 1, w.heap.size, n, v, rfl, KE.out.1, hnk, KE.out.2⟩
set_option maxHeartbeats 4000000 in
theorem seHas_any (w : World) (base p mb n : Nat) (v : Value) (xs : List S5) (r s : Int) (h : PisB w base p mb n v xs) (h1 : inB 0 5 r = true) (h2 : inB 0 5 s = true) :
    Calls Try.prog 66 #[.pointer (some ⟨p, 0, none⟩), .agg #[.int .i64 r, .int .i64 s]] w fun e w' => e = .returned (.bool (seW xs r s).isSome) ∧ Below w.heap.size w w' := by
  obtain ⟨W0, hW0⟩ : ∃ W, W = w.alloc (.cells #[.int .i64 r, .int .i64 s] 68) := ⟨_, rfl⟩
  have b0 : Below w.heap.size w W0 := by rw [hW0]; exact (Below.refl _ _).alloc (Nat.le_refl _) _
  have z0 : W0.heap.size = w.heap.size + 1 := by rw [hW0]; simp
  have h0 := h.later b0
  have lk : ∀ d os, (Instr.lookup 100 (.map (some mb)) (cKey r s) true).run Try.prog (grow (redrawn W0 d) os) = .ok (.tuple #[.int .i64 (((seW xs r s).getD 0 : Nat) : Int), .bool (seW xs r s).isSome]) (grow (redrawn W0 d) os) := fun d os => ((h0.mp).later (below_regrown W0 d os)).look h1 h2
  have m1 : ∀ d os, (grow (redrawn W0 d) os).cell? ⟨p, 1, none⟩ = some (.map (some mb)) := fun d os => ((below_regrown W0 d os).cell (p := ⟨p, 1, none⟩) h0.lp).trans h0.c1
  have t0 : ∀ d os, (grow (redrawn W0 d) os).cell? ⟨w.heap.size, 0, none⟩ = some (.int .i64 r) := fun d os => ((below_regrown W0 d os).cell (p := ⟨w.heap.size, 0, none⟩) (by rw [z0]; simp)).trans (by rw [hW0]; go_simp)
  have t1 : ∀ d os, (grow (redrawn W0 d) os).cell? ⟨w.heap.size, 1, none⟩ = some (.int .i64 s) := fun d os => ((below_regrown W0 d os).cell (p := ⟨w.heap.size, 1, none⟩) (by rw [z0]; simp)).trans (by rw [hW0]; go_simp)
  have H : Hid (Below w.heap.size w W0) := b0
  clear h h0 b0 z0 h1 h2
  simp only [cKey] at lk
  generalize (seW xs r s).isSome = B at *
  generalize ((seW xs r s).getD 0) = I at *
  go_enter Try.func66, Try.ntmps66
  go_wp2_with fail
  rw [← hW0]
  clear hW0
  refine wp_region_quiet_below (by kernel_rfl) (by kernel_rfl) ?_
  repeat (go_big_quiet_step (fail))
  refine wpQuiet_nil ?_
  intro _ hw'
  obtain ⟨⟨dq', osq⟩, hw''⟩ := hw'
  subst hw''
  have bq := below_regrown W0 dq' osq
  have KE : Hid (Below w.heap.size w (grow (redrawn W0 dq') osq)) := H.out.trans (bq.mono H.out.size)
  clear bq lk m1 t0 t1
  go_wp2
  go_ret
  exact ⟨rfl, KE.out⟩
end Go.Proofs.Ytcanaklameddbaa
