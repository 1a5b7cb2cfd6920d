/- The row of copies with one put in, or one's cells replaced. -/
import Derived.Test.YtooalbdlknheeaaGreatRows
import Derived.Test.YtooalbdlknheeaaGreatInsKJ
import Derived.Test.YtooalbdlknheeaaGreatJ24LawMachines
import Derived.Test.YtooalbdlknheeaaGreatJ43LawMachines
import Derived.WalkKit
import Derived.Below
import Derived.Maps.AppendAt
import Derived.Laws.OwnMore
import Derived.Deep.AppendLies
import Derived.Deep.Heap
namespace Go.Proofs.YtooalbdlknheeaaGreat
open Go.RowKit
theorem owns_set {W : World} {base g n cap sz : Nat} {T : TypeId} {xs : List Value} (h : W.ownsRow base T sz (.slice (some ⟨g, 0, none⟩) n cap) n xs) {o : Nat} (ho : o < n * sz) (u : Value) : (W.setCell ⟨g, o, none⟩ u).ownsRow base T sz (.slice (some ⟨g, 0, none⟩) n cap) n (xs.set o u) := by
  have hl := h.1
  obtain ⟨hB, hx, h1, h2, h3, _⟩ := cells_of_owns h
  refine owns_of_cells (hB.set o u) (fun j v hv => ?_) (by rw [List.length_set]; exact hl) h1 h2 h3
  by_cases e : j = o
  · subst e
    have hj : j < xs.length := by omega
    rw [List.getElem?_set_self hj] at hv
    injection hv with hv
    rw [← hv]
    exact cell_set_same (hx j _ (List.getElem?_eq_getElem hj))
  · rw [List.getElem?_set_ne (fun k => e k.symm)] at hv
    exact (cell_set_other (by simpa using fun k => e k)).trans (hx j v hv)
/-- Two cells put in at place k. -/
def insV (xs : List Value) (k : Nat) (y0 y1 : Value) : List Value := xs.take k ++ [y0, y1] ++ xs.drop k
theorem insV_len {xs : List Value} {k : Nat} (y0 y1 : Value) (hk : k ≤ xs.length) : (insV xs k y0 y1).length = xs.length + 2 := by
  simp only [insV, List.length_append, List.length_take, List.length_drop, List.length_cons, List.length_nil]; omega
theorem insV_get {xs : List Value} {k : Nat} (y0 y1 : Value) (hk : k ≤ xs.length) (j : Nat) : (insV xs k y0 y1)[j]? = if j < k then xs[j]? else if j = k then some y0 else if j = k + 1 then some y1 else xs[j - 2]? := by
  have htl : (xs.take k).length = k := by rw [List.length_take]; omega
  have htl2 : (xs.take k ++ [y0, y1]).length = k + 2 := by rw [List.length_append, htl]; rfl
  unfold insV
  by_cases h1 : j < k
  · rw [if_pos h1, List.getElem?_append_left (by omega), List.getElem?_append_left (by omega), List.getElem?_take, if_pos h1]
  · rw [if_neg h1]
    by_cases h2 : j = k
    · subst h2
      rw [if_pos rfl, List.getElem?_append_left (by omega), List.getElem?_append_right (by omega), htl, Nat.sub_self]; rfl
    · rw [if_neg h2]
      by_cases h3 : j = k + 1
      · subst h3
        rw [if_pos rfl, List.getElem?_append_left (by omega), List.getElem?_append_right (by omega), htl, Nat.add_sub_cancel_left]; rfl
      · rw [if_neg h3, List.getElem?_append_right (by omega), htl2, List.getElem?_drop]
        congr 1; omega
theorem insV_set {xs : List Value} {k : Nat} (y0 y1 u : Value) (hk : k ≤ xs.length) : (insV xs k y0 y1).set (k + 1) u = insV xs k y0 u := by
  apply List.ext_getElem?
  intro j
  by_cases e : j = k + 1
  · subst e
    rw [List.getElem?_set_self (by rw [insV_len y0 y1 hk]; omega), insV_get y0 u hk, if_neg (by omega), if_neg (by omega), if_pos rfl]
  · rw [List.getElem?_set_ne (fun k => e k.symm), insV_get y0 y1 hk, insV_get y0 u hk]
    simp only [if_neg e]
theorem insV_one {xs : List Value} {k : Nat} {y0 y1 : Value} (h : ∀ u ∈ xs, u.oneCell' = true) (h0 : y0.oneCell' = true) (h1 : y1.oneCell' = true) : ∀ u ∈ insV xs k y0 y1, u.oneCell' = true := fun u hu => by
  simp only [insV, List.mem_append, List.mem_cons, List.not_mem_nil, or_false] at hu
  rcases hu with (hu | rfl | rfl) | hu
  · exact h u (List.mem_of_mem_take hu)
  · exact h0
  · exact h1
  · exact h u (List.mem_of_mem_drop hu)
set_option maxHeartbeats 1000000 in
theorem insK_any (w : World) (base : Nat) (v : Value) (n : Nat) (xs : List Value) (y0 y1 : Value) (i vb vc : Nat) (hown : w.ownsRow base 97 2 v n xs) (hn : n ≤ 1000) (hi : i ≤ n) (hx1 : ∀ u ∈ xs, u.oneCell' = true) (hV : Blk w vb 97 2) (hvl : vb < w.heap.size) (hv0 : w.cell? ⟨vb, 0, none⟩ = some y0) (hv1 : w.cell? ⟨vb, 1, none⟩ = some y1) (h1 : y0.oneCell' = true) (h2 : y1.oneCell' = true) (hne : v.ownBlock ≠ some vb) (hbase : base ≤ w.heap.size) :
    Calls Tryz.prog 113 #[v, .int .i64 (i : Int), .slice (some ⟨vb, 0, none⟩) 1 vc] w fun e w' => ∃ v', e = .returned v' ∧ w'.ownsRow base 97 2 v' (n + 1) (insV xs (i * 2) y0 y1) ∧ w.grownBy w' v.ownBlock ∧ (v'.ownBlock = v.ownBlock ∨ v'.ownBlock = some w.heap.size) := by
  have hlen := hown.1
  by_cases hend : i = n
  · subst hend
    obtain ⟨i0, hi0, hzz⟩ := Option.map_eq_some_iff.1 infoK
    simp only [Prod.mk.injEq] at hzz
    obtain ⟨hz0, hz1, hz2⟩ := hzz
    obtain ⟨v', W', hr, ho, hg, _, hl⟩ := run_append_own_at (P := Tryz.prog) w base 24 24 97 i0 _ 2 32 Tryz.underlying24 hi0 hz0 hz1 hz2 rfl (by decide) v i _ hown ⟨vb, 0, none⟩ 1 vc [y0, y1] rfl (fun j u hu => by
      rcases j with _ | _ | j
      · simp at hu; subst hu; rw [Addr.add_lit]; exact hv0
      · simp at hu; subst hu; rw [Addr.add_lit]; exact hv1
      · simp at hu) (fun u hu => by simp at hu; rcases hu with rfl | rfl <;> assumption) (by unfold maxLen; omega) (by omega) hbase
    have he : xs ++ [y0, y1] = insV xs (i * 2) y0 y1 := by rw [insV, ← hlen, List.take_length, List.drop_length, List.append_nil]
    rw [he] at ho
    obtain ⟨_, hcase⟩ := hown
    rcases hcase with ⟨rfl, h0⟩ | ⟨g, cap, cur, rfl, _, _, hc, _⟩
    · subst h0
      refine (insK_nil w W' vb vc v' hr).mono ?_
      rintro e w' ⟨rfl, rfl⟩
      exact ⟨v', rfl, ho, hg, hl⟩
    · refine (insK_end w W' g i cap vb vc v' hc hr).mono ?_
      rintro e w' ⟨rfl, rfl⟩
      exact ⟨v', rfl, ho, hg, hl⟩
  · have hlt : i < n := by omega
    have hi2 : i * 2 ≤ xs.length := by omega
    have hown0 := hown
    obtain ⟨hl0, hcase⟩ := hown
    rcases hcase with ⟨rfl, h0⟩ | ⟨g, cap, cur, rfl, hg1, hg2, hg3, hg4, hg5, hg6⟩
    · omega
    obtain ⟨hB, hrow, -, -, -, hgl⟩ := cells_of_owns hown0
    have hvg : vb ≠ g := fun e => hne (by rw [e]; rfl)
    have hdl : (xs.drop (i * 2)).length = n * 2 - i * 2 := by rw [List.length_drop, hlen]
    by_cases hcap : n + 1 ≤ cap
    · refine (insK_shift w g n cap i vb vc xs y0 y1 hlt hlen hcap (by unfold maxLen at hg4; omega) hvg hB hV hrow hx1 hv0 hv1 h1 h2).mono ?_
      rintro e w' ⟨rfl, rfl⟩
      have hB1 : Blk (w.drew.setCells g ((i + 1) * 2) (xs.drop (i * 2))) g 97 (cap * 2) := by rw [setCells_put]; exact Blk.put _ _ (Blk.keep hB rfl)
      refine ⟨_, rfl, owns_of_cells (by rw [setCells_put]; exact Blk.put _ _ hB1) (fun j u hu => ?_) (by rw [insV_len y0 y1 hi2]; omega) hcap hg4 hg1, grown_of (by
        rw [setCells_put, setCells_put]
        exact Turned.putR _ _ (Turned.putR _ _ (Turned.refl g w).drew)), .inl rfl⟩
      have hju := (List.getElem?_eq_some_iff.1 hu).1
      rw [insV_len y0 y1 hi2] at hju
      rw [insV_get y0 y1 hi2] at hu
      rw [setCells_put, setCells_put]
      by_cases j1 : j < i * 2
      · rw [if_pos j1] at hu
        rw [putB_out _ _ _ (.inl j1), putB_out _ _ _ (.inl (by omega))]
        exact hrow j u hu
      · rw [if_neg j1] at hu
        by_cases j2 : j < i * 2 + 2
        · have hc := putB_cell (s := g) [y0, y1] (putB w.drew g ((i + 1) * 2) (xs.drop (i * 2))) (i * 2) (fun x h1 h2 => by
            obtain ⟨v, hv, _⟩ := (Blk.put (xs.drop (i * 2)) ((i + 1) * 2) (Blk.keep (Y := w.drew) hB rfl)).room x (by simp at h2; omega)
            exact ⟨v, hv⟩)
          by_cases j3 : j = i * 2
          · subst j3
            rw [if_pos rfl] at hu
            injection hu with hu
            have := hc 0 _ rfl
            rw [← hu]; simpa using this
          · obtain rfl : j = i * 2 + 1 := by omega
            rw [if_neg (by omega), if_pos rfl] at hu
            injection hu with hu
            rw [← hu]; exact hc 1 _ rfl
        · rw [if_neg (by omega), if_neg (by omega)] at hu
          rw [putB_out _ _ _ (.inr (by simp; omega))]
          have := putB_cell (s := g) (xs.drop (i * 2)) w.drew ((i + 1) * 2) (fun x h1 h2 => by
            obtain ⟨v, hv, _⟩ := (Blk.keep (Y := w.drew) hB rfl).room x (by rw [hdl] at h2; omega)
            exact ⟨v, hv⟩) (j - (i + 1) * 2) u (by rw [List.getElem?_drop, show i * 2 + (j - (i + 1) * 2) = j - 2 by omega]; exact hu)
          rwa [show (i + 1) * 2 + (j - (i + 1) * 2) = j by omega] at this
    · obtain rfl : cap = n := by omega
      refine (insK_grow w g cap i vb vc xs y0 y1 hlt hlen hn hgl hvl hrow hx1 hv0 hv1 h1 h2).mono ?_
      rintro e w' ⟨G, A0, k1, k2, k3, k4, k5, k6, rfl, rfl⟩
      have hB1 : Blk (A0.setCells w.heap.size (i * 2) [y0, y1]).drew w.heap.size 97 (G * 2) := by rw [setCells_put]; exact Blk.keep (Blk.put _ _ k5) rfl
      refine ⟨_, rfl, owns_of_cells (by rw [setCells_put]; exact Blk.put _ _ hB1) (fun j u hu => ?_) (by rw [insV_len y0 y1 hi2]; omega) k1 k2 (Nat.le_trans hbase (Nat.le_refl _)), ?_, .inr rfl⟩
      · have hju := (List.getElem?_eq_some_iff.1 hu).1
        rw [insV_len y0 y1 hi2] at hju
        rw [insV_get y0 y1 hi2] at hu
        rw [setCells_put]
        by_cases j1 : j < i * 2
        · rw [if_pos j1] at hu
          rw [putB_out _ _ _ (.inl (by omega))]
          show (A0.setCells w.heap.size (i * 2) [y0, y1]).cell? _ = _
          rw [setCells_put, putB_out _ _ _ (.inl j1)]
          exact k6 j u (by rw [List.getElem?_take, if_pos j1]; exact hu)
        · rw [if_neg j1] at hu
          by_cases j2 : j < i * 2 + 2
          · rw [putB_out _ _ _ (.inl (by omega))]
            show (A0.setCells w.heap.size (i * 2) [y0, y1]).cell? _ = _
            rw [setCells_put]
            have hc := putB_cell (s := w.heap.size) [y0, y1] A0 (i * 2) (fun x h1 h2 => by
              obtain ⟨v, hv, _⟩ := k5.room x (by simp at h2; omega)
              exact ⟨v, hv⟩)
            by_cases j3 : j = i * 2
            · subst j3
              rw [if_pos rfl] at hu
              injection hu with hu
              have := hc 0 _ rfl
              rw [← hu]; simpa using this
            · obtain rfl : j = i * 2 + 1 := by omega
              rw [if_neg (by omega), if_pos rfl] at hu
              injection hu with hu
              rw [← hu]; exact hc 1 _ rfl
          · rw [if_neg (by omega), if_neg (by omega)] at hu
            have := putB_cell (s := w.heap.size) (xs.drop (i * 2)) (A0.setCells w.heap.size (i * 2) [y0, y1]).drew ((i + 1) * 2) (fun x h1 h2 => by
              obtain ⟨v, hv, _⟩ := hB1.room x (by rw [hdl] at h2; omega)
              exact ⟨v, hv⟩) (j - (i + 1) * 2) u (by rw [List.getElem?_drop, show i * 2 + (j - (i + 1) * 2) = j - 2 by omega]; exact hu)
            rwa [show (i + 1) * 2 + (j - (i + 1) * 2) = j by omega] at this
      · have hb : Below w.heap.size w ((A0.setCells w.heap.size (i * 2) [y0, y1]).drew.setCells w.heap.size ((i + 1) * 2) (xs.drop (i * 2))) := by
          rw [setCells_put, setCells_put]
          exact putB_below (Nat.le_refl _) _ _ _ (Below.drew (putB_below (Nat.le_refl _) _ _ _ k4))
        exact ⟨hb.os, hb.tape, hb.output, hb.size, fun k hk _ => hb.block k hk⟩
/-- append of copies that lie in memory onto a row of copies of the call's own, by their cells. -/
theorem pushV {W : World} {base n : Nat} {v : Value} {xs : List Value} (h : W.ownsRow base 97 2 v n xs) (ys : List Value) (m : Nat) (hl : ys.length = m * 2) (hm : n + m ≤ 1048576) (ty : TypeId) (a : Option Addr) (k : Nat) (src : m = 0 ∨ ∃ b off, a = some ⟨b, off, none⟩ ∧ ∀ j u, ys[j]? = some u → W.cell? ⟨b, off + j, none⟩ = some u) (h1 : ∀ u ∈ ys, u.oneCell' = true) (hbase : base ≤ W.heap.size) :
    ∃ a' c' W', (Builtin.append_ #[24, 24] ty #[v, .slice a m k]).run Tryz.prog W = .ok (.slice a' (n + m) c') W' ∧ W'.ownsRow base 97 2 (.slice a' (n + m) c') (n + m) (xs ++ ys) ∧ W.grownBy W' v.ownBlock ∧ ((Value.slice a' (n + m) c').ownBlock = v.ownBlock ∨ (Value.slice a' (n + m) c').ownBlock = some W.heap.size) := by
  obtain ⟨i0, hi0, hz0, hz1, hz2⟩ := partsOf infoK
  obtain ⟨a0, c0, rfl⟩ := owns_slice h
  by_cases e : m = 0
  · subst e
    obtain rfl : ys = [] := List.eq_nil_of_length_eq_zero (by omega)
    have hle : n ≤ c0 := by
      rcases h.2 with ⟨e, h0⟩ | ⟨q, cap, cur, e, _, _, hl, _⟩
      · omega
      · injection e with _ _ e3; omega
    simp only [List.append_nil, Nat.add_zero]
    refine ⟨a0, c0, W, ?_, h, ⟨rfl, rfl, rfl, Nat.le_refl _, fun _ _ _ => rfl⟩, .inl rfl⟩
    refine run_append_nothing W 24 24 ty 97 i0 Tryz.underlying24 hi0 a0 n c0 hle (.slice a 0 k) ?_
    cases a with
    | none => exact Src.ofNil W Tryz.underlying24 k
    | some x => exact Src.ofSlice W Tryz.underlying24 x 0 k [] (by simp) (fun j u hu => by simp at hu) (fun u hu => by cases hu)
  · rcases src with src | ⟨b, off, rfl, hx⟩
    · exact absurd src e
    obtain ⟨v', W', hrun, hown, hg, _, hlies⟩ := run_append_own_at (P := Tryz.prog) W base 24 ty 97 i0 _ 2 32 Tryz.underlying24 hi0 hz0 hz1 hz2 rfl (by omega) _ n _ h ⟨b, off, none⟩ m k ys hl (fun j u hu => by rw [Addr.add_lit]; exact hx j u hu) h1 (by unfold maxLen; omega) (by omega) hbase
    obtain ⟨a', c', rfl⟩ := owns_slice hown
    exact ⟨a', c', W', hrun, hown, hg, hlies⟩
theorem flatK_len (ks : List K2) (g caps : Nat → Nat) : (flatG hdK lnK ks g caps).length = ks.length * 2 := by
  have h : (ks.zipIdx.map fun _ => 2).sum = ks.length * 2 := by
    have : ∀ l : List (K2 × Nat), (l.map fun _ => 2).sum = l.length * 2 := fun l => by
      induction l with
      | nil => rfl
      | cons _ l ih => simp only [List.map_cons, List.sum_cons, List.length_cons, ih]; omega
    rw [this, List.length_zipIdx]
  rw [← h]
  simp [flatG, List.length_flatMap, cellsG, hdK]
theorem flatK_get {ks : List K2} {g caps : Nat → Nat} {j : Nat} {k : K2} (h : ks[j]? = some k) : (flatG hdK lnK ks g caps)[j * 2]? = some (.int .i64 k.region) ∧ (flatG hdK lnK ks g caps)[j * 2 + 1]? = some (.slice (some ⟨g j, 0, none⟩) k.cells.length (caps j)) :=
  ⟨flatG_at (sz := 2) (fun _ => rfl) h (t := 0) (by omega), flatG_at (sz := 2) (fun _ => rfl) h (t := 1) (by omega)⟩
theorem flatK_ext {ys : List Value} {ks : List K2} {g caps : Nat → Nat} (hl : ys.length = ks.length * 2) (h : ∀ j k, ks[j]? = some k → ys[j * 2]? = some (.int .i64 k.region) ∧ ys[j * 2 + 1]? = some (.slice (some ⟨g j, 0, none⟩) k.cells.length (caps j))) : ys = flatG hdK lnK ks g caps := by
  apply List.ext_getElem?
  intro x
  by_cases hx : x < ks.length * 2
  · have hk := List.getElem?_eq_getElem (l := ks) (i := x / 2) (by omega)
    have h1 := h _ _ hk
    have h2 := flatK_get (g := g) (caps := caps) hk
    rcases Nat.mod_two_eq_zero_or_one x with e | e
    · rw [show x = x / 2 * 2 by omega, h1.1, h2.1]
    · rw [show x = x / 2 * 2 + 1 by omega, h1.2, h2.2]
  · rw [List.getElem?_eq_none (by omega), List.getElem?_eq_none (by rw [flatK_len]; omega)]
theorem flatK_one (ks : List K2) (g caps : Nat → Nat) : ∀ u ∈ flatG hdK lnK ks g caps, u.oneCell' = true := fun u hu => by
  simp only [flatG, List.mem_flatMap, cellsG, hdK, List.map_cons, List.map_nil, List.cons_append, List.nil_append, List.mem_cons, List.not_mem_nil, or_false] at hu
  obtain ⟨_, _, rfl | rfl⟩ := hu <;> rfl
/-- A copy put in at place i. -/
def insKL (ks : List K2) (i : Nat) (k : K2) : List K2 := ks.take i ++ k :: ks.drop i
theorem insKL_len {ks : List K2} {i : Nat} {k : K2} (hi : i ≤ ks.length) : (insKL ks i k).length = ks.length + 1 := by simp [insKL]; omega
theorem insKL_get {ks : List K2} {i : Nat} {k : K2} (hi : i ≤ ks.length) (j : Nat) : (insKL ks i k)[j]? = if j < i then ks[j]? else if j = i then some k else ks[j - 1]? := by
  have htl : (ks.take i).length = i := by rw [List.length_take]; omega
  unfold insKL
  by_cases h1 : j < i
  · rw [if_pos h1, List.getElem?_append_left (by omega), List.getElem?_take, if_pos h1]
  · rw [if_neg h1, List.getElem?_append_right (by omega), htl]
    by_cases h2 : j = i
    · subst h2; rw [if_pos rfl, Nat.sub_self]; rfl
    · rw [if_neg h2]
      obtain ⟨d, hd⟩ : ∃ d, j - i = d + 1 := ⟨j - i - 1, by omega⟩
      rw [hd, List.getElem?_cons_succ, List.getElem?_drop]
      congr 1; omega
def sgI (i j : Nat) : Nat := if j < i then j else j - 1
def upTo (i q : Nat) (s g : Nat → Nat) (j : Nat) : Nat := if j = i then q else g (s j)
theorem flatK_ins {ks : List K2} {g caps : Nat → Nat} {i q cap : Nat} {k : K2} (hi : i ≤ ks.length) : insV (flatG hdK lnK ks g caps) (i * 2) (.int .i64 k.region) (.slice (some ⟨q, 0, none⟩) k.cells.length cap) = flatG hdK lnK (insKL ks i k) (upTo i q (sgI i) g) (upTo i cap (sgI i) caps) := by
  have hl := flatK_len ks g caps
  refine flatK_ext (by rw [insV_len _ _ (by omega), hl, insKL_len hi]; omega) (fun j c hj => ?_)
  rw [insKL_get hi] at hj
  rw [insV_get _ _ (by omega), insV_get _ _ (by omega)]
  by_cases h1 : j < i
  · rw [if_pos h1] at hj
    rw [if_pos (by omega), if_pos (by omega), upTo, upTo, if_neg (by omega), if_neg (by omega), sgI, if_pos h1]
    exact flatK_get hj
  · rw [if_neg h1] at hj
    by_cases h2 : j = i
    · subst h2
      rw [if_pos rfl] at hj
      injection hj with hj
      subst hj
      rw [if_neg (by omega), if_pos rfl, if_neg (by omega), if_neg (by omega), if_pos rfl, upTo, upTo, if_pos rfl, if_pos rfl]
      exact ⟨rfl, rfl⟩
    · rw [if_neg h2] at hj
      rw [if_neg (by omega), if_neg (by omega), if_neg (by omega), if_neg (by omega), if_neg (by omega), if_neg (by omega), upTo, upTo, if_neg h2, if_neg h2, sgI, if_neg h1]
      have := flatK_get (g := g) (caps := caps) hj
      rwa [show (j - 1) * 2 + 1 = j * 2 + 1 - 2 by omega, show (j - 1) * 2 = j * 2 - 2 by omega] at this
theorem flatK_set {ks : List K2} {g caps : Nat → Nat} {i q cap : Nat} {k : K2} (hi : i < ks.length) (hk : k.region = (atK ks i).region) : (flatG hdK lnK ks g caps).set (i * 2 + 1) (.slice (some ⟨q, 0, none⟩) k.cells.length cap) = flatG hdK lnK (ks.set i k) (upTo i q id g) (upTo i cap id caps) := by
  have hl := flatK_len ks g caps
  refine flatK_ext (by rw [List.length_set, List.length_set, hl]) (fun j c hj => ?_)
  by_cases h2 : j = i
  · subst h2
    rw [List.getElem?_set_self hi] at hj
    injection hj with hj
    subst hj
    rw [List.getElem?_set_ne (by omega), List.getElem?_set_self (by omega), upTo, upTo, if_pos rfl, if_pos rfl]
    exact ⟨by rw [hk]; exact (flatK_get (atK_of hi)).1, rfl⟩
  · rw [List.getElem?_set_ne (fun e => h2 e.symm)] at hj
    rw [List.getElem?_set_ne (by omega), List.getElem?_set_ne (by omega), upTo, upTo, if_neg h2, if_neg h2]
    exact flatK_get hj
/-- The row of copies with a new one at place i. -/
theorem growK_new {w W : World} {base : Nat} {v vo : Value} {ks ks' : List K2} {gk caps s : Nat → Nat} {i q cap : Nat} {k : K2} (h : GrowG 97 2 hdK lnK AtK w base vo ks gk) (hcp : ∀ j c, ks[j]? = some c → lnK c ≤ caps j) (hsz : w.heap.size ≤ W.heap.size) (hkeep : ∀ j, j < ks.length → W.heap[gk j]? = w.heap[gk j]?)
    (hnew : AtK W q k) (hq : base ≤ q) (hql : q < W.heap.size) (hqo : ∀ j, j < ks.length → gk j ≠ q) (hcap : lnK k ≤ cap) (hi : ks'[i]? = some k) (hs : ∀ j c, ks'[j]? = some c → j ≠ i → ks[s j]? = some c) (hinj : ∀ j j', j < ks'.length → j' < ks'.length → j ≠ i → j' ≠ i → s j = s j' → j = j')
    (hrow : W.ownsRow base 97 2 v ks'.length (flatG hdK lnK ks' (upTo i q s gk) (upTo i cap s caps))) (hv : v.ownBlock ≠ some q) (hvo : ∀ j, j < ks.length → v.ownBlock ≠ some (gk j)) : GrowG 97 2 hdK lnK AtK W base v ks' (upTo i q s gk) := by
  have old : ∀ j, j < ks'.length → j ≠ i → s j < ks.length := fun j hj e => (List.getElem?_eq_some_iff.1 (hs j _ (List.getElem?_eq_getElem hj) e)).1
  refine ⟨⟨_, hrow, fun j c e => ?_⟩, fun j hj => ?_, fun j hj => ?_, fun j hj => ?_, fun j c e => ?_, fun j j' hj hj' e => ?_⟩
  · by_cases e1 : j = i
    · subst e1
      rw [hi] at e; injection e with e; subst e
      rw [upTo, if_pos rfl]; exact hcap
    · rw [upTo, if_neg e1]; exact hcp _ _ (hs j c e e1)
  · by_cases e1 : j = i
    · rw [upTo, if_pos e1]; exact hq
    · rw [upTo, if_neg e1]; exact h.low _ (old j hj e1)
  · by_cases e1 : j = i
    · rw [upTo, if_pos e1]; exact hql
    · rw [upTo, if_neg e1]; exact Nat.lt_of_lt_of_le (h.lt _ (old j hj e1)) hsz
  · by_cases e1 : j = i
    · rw [upTo, if_pos e1]; exact hv
    · rw [upTo, if_neg e1]; exact hvo _ (old j hj e1)
  · by_cases e1 : j = i
    · subst e1
      rw [hi] at e; injection e with e; subst e
      rw [upTo, if_pos rfl]; exact hnew
    · rw [upTo, if_neg e1]
      have := hs j c e e1
      exact AtK.of_block _ _ _ _ (hkeep _ (List.getElem?_eq_some_iff.1 this).1) (h.sub _ _ this)
  · by_cases e1 : j = i
    · by_cases e2 : j' = i
      · omega
      · rw [upTo, if_pos e1, upTo, if_neg e2] at e
        exact absurd e.symm (hqo _ (old j' hj' e2))
    · by_cases e2 : j' = i
      · rw [upTo, if_neg e1, upTo, if_pos e2] at e
        exact absurd e (hqo _ (old j hj e1))
      · rw [upTo, if_neg e1, upTo, if_neg e2] at e
        exact hinj j j' hj hj' e1 e2 (h.inj _ _ (old j hj e1) (old j' hj' e2) e)
/-- A machine under way with another row of copies. -/
theorem MR.withK {base p : Nat} {X W : World} {vk vk' vr vd : Value} {ks ks' : List K2} {rs : List R4} {zs : List Int} {gk gk' gr : Nat → Nat} (h : MR base p X vk vr vd ks rs zs gk gr) (hG : GrowG 97 2 hdK lnK AtK W base vk' ks' gk') (hsz : X.heap.size ≤ W.heap.size) (hkeep : ∀ x, (blocksG vr rs gr x ∨ vd.ownBlock = some x) → W.heap[x]? = X.heap[x]?) (hnew : ∀ x, blocksG vk' ks' gk' x → blocksG vk ks gk x ∨ (¬ blocksG vr rs gr x ∧ vd.ownBlock ≠ some x ∧ x ≠ p)) : MR base p W vk' vr vd ks' rs zs gk' gr :=
  ⟨hG, h.gR.keep AtR.of_block hsz (fun q _ hb => hkeep q (.inl hb)), owns_keep h.gD (fun q e => hkeep q (.inr e)), fun q hq => (hnew q hq).elim (h.kr q) (·.1), fun q hq => (hnew q hq).elim (h.kd q) (·.2.1), h.rd, fun q hq => (hnew q hq).elim (h.kp q) (·.2.2), h.rp, h.dp⟩
/-- What Replace makes of the copies. -/
def posR (ks : List K2) (y : Int) : Nat := ks.findIdx fun k => !decide (k.region < y)
theorem atK_get {ks : List K2} {i : Nat} (h : i < ks.length) : atK ks i = ks[i] := by have := atK_of h; rw [List.getElem?_eq_getElem h] at this; exact (Option.some.inj this).symm
theorem posR_at {ks : List K2} {y : Int} {k : Nat} (hk : k < ks.length) (h : ¬ (atK ks k).region < y) (hall : ∀ j, j < k → (atK ks j).region < y) : posR ks y = k := by
  unfold posR
  rw [List.findIdx_eq hk]
  refine ⟨by rw [← atK_get hk]; simpa using h, fun j hj => ?_⟩
  rw [← atK_get (by omega)]
  simpa using hall j hj
theorem posR_all {ks : List K2} {y : Int} (hall : ∀ j, j < ks.length → (atK ks j).region < y) : posR ks y = ks.length := by
  unfold posR
  rw [List.findIdx_eq_length]
  intro x hx
  obtain ⟨i, hi, rfl⟩ := List.getElem_of_mem hx
  have := hall i hi
  rw [atK_get hi] at this
  simpa using this
theorem posR_of {ks : List K2} {y : Int} {i : Nat} (h : PosK ks y i) : posR ks y = i := by
  by_cases e : i < ks.length
  · exact posR_at e (by have := h.hi i (Nat.le_refl _) e; omega) h.lo
  · obtain rfl : i = ks.length := by have := h.le; omega
    exact posR_all h.lo
def repK (ks : List K2) (y : Int) (cs : List C2) : List K2 := if foundK ks y (posR ks y) = true then ks.set (posR ks y) ⟨y, cs⟩ else insKL ks (posR ks y) ⟨y, cs⟩
end Go.Proofs.YtooalbdlknheeaaGreat
