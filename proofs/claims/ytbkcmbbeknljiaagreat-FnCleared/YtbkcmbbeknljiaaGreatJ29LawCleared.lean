/- InsA; InsB: joined. -/
import Derived.Test.YtbkcmbbeknljiaaGreatRows
import Derived.Test.YtbkcmbbeknljiaaGreatInsNJ
import Derived.WalkKit
import Derived.WalkSpells
import Derived.WalkLawsBesides
import Derived.Below
import Derived.Lib.QuietBelow
import Derived.BigQuiet
import Derived.Deep.CutRange
/- A number put into an own row of numbers. -/
namespace Go.Proofs.YtbkcmbbeknljiaaGreat
open Go.RowKit
open Go.Sort (grow)
/-- y put in at place i. -/
def insZ (zs : List Int) (i : Nat) (y : Int) : List Int := zs.take i ++ y :: zs.drop i
theorem insZ_len {zs : List Int} {i : Nat} {y : Int} (hi : i ≤ zs.length) : (insZ zs i y).length = zs.length + 1 := by simp [insZ]; omega
theorem insZ_at {zs : List Int} {i j : Nat} {y : Int} {u : Value} (hi : i ≤ zs.length) (h : ((insZ zs i y).map (Value.int .i64))[j]? = some u) : (j < i ∧ ∃ z, zs[j]? = some z ∧ u = .int .i64 z) ∨ (j = i ∧ u = .int .i64 y) ∨ (i < j ∧ ∃ z, zs[j - 1]? = some z ∧ u = .int .i64 z) := by
  rw [List.getElem?_map] at h
  obtain ⟨z, hz, rfl⟩ := Option.map_eq_some_iff.1 h
  have htl : (zs.take i).length = i := by simp; omega
  by_cases h1 : j < i
  · rw [insZ, List.getElem?_append_left (by omega), List.getElem?_take, if_pos h1] at hz
    exact .inl ⟨h1, z, hz, rfl⟩
  · rw [insZ, List.getElem?_append_right (by omega), htl] at hz
    by_cases h2 : j = i
    · subst h2
      simp at hz
      exact .inr (.inl ⟨rfl, by rw [hz]⟩)
    · obtain ⟨d, hd⟩ : ∃ d, j - i = d + 1 := ⟨j - i - 1, by omega⟩
      rw [hd, List.getElem?_cons_succ, List.getElem?_drop] at hz
      exact .inr (.inr ⟨by omega, z, by rw [show j - 1 = i + d by omega]; exact hz, rfl⟩)
theorem owns_of_blk {X : World} {base g n cap : Nat} {T : TypeId} {xs : List Value} (hB : Blk X g T cap) (hx : ∀ j u, xs[j]? = some u → X.cell? ⟨g, j, none⟩ = some u) (hl : xs.length = n) (hn : n ≤ cap) (hc : cap ≤ maxLen) (hb : base ≤ g) : X.ownsRow base T 1 (.slice (some ⟨g, 0, none⟩) n cap) n xs := by
  obtain ⟨cur, h1, h2⟩ := hB
  refine ⟨by omega, .inr ⟨g, cap, cur, rfl, hb, h1, hn, hc, by omega, ?_⟩⟩
  apply List.ext_getElem?
  intro j
  by_cases hj : j < n
  · have hu := List.getElem?_eq_getElem (l := xs) (i := j) (by omega)
    have hc := hx j _ hu
    simp only [World.cell?, h1] at hc
    rw [hu, List.getElem?_take, if_pos (by omega)]
    simpa using hc
  · rw [List.getElem?_eq_none (by simp; omega), List.getElem?_eq_none (by omega)]
theorem blk_of_owns {X : World} {base g n cap : Nat} {T : TypeId} {xs : List Value} (h : X.ownsRow base T 1 (.slice (some ⟨g, 0, none⟩) n cap) n xs) : Blk X g T cap ∧ (∀ j u, xs[j]? = some u → X.cell? ⟨g, j, none⟩ = some u) ∧ n ≤ cap ∧ cap ≤ maxLen ∧ base ≤ g ∧ g < X.heap.size := by
  obtain ⟨hl, h⟩ := h
  rcases h with ⟨h, _⟩ | ⟨g', cap', cur, he, h1, h2, h3, h4, h5, h6⟩
  · cases h
  · injection he with he1 _ he3
    injection he1 with he1
    injection he1 with he1
    subst he1 he3
    refine ⟨⟨cur, h2, by omega⟩, fun j u hu => ?_, h3, h4, h1, ?_⟩
    · rw [← h6, List.getElem?_take] at hu
      split at hu
      · simp only [World.cell?, h2]
        simpa using hu
      · cases hu
    · exact (Array.getElem?_eq_some_iff.1 h2).1
end Go.Proofs.YtbkcmbbeknljiaaGreat
/- A number put into an own row of numbers: every road. -/
namespace Go.Proofs.YtbkcmbbeknljiaaGreat
open Go.RowKit
open Go.Sort (grow)
/-- Nothing but the row's block is turned; blocks may come. -/
theorem grown_of {w X : World} {b : Nat} (h : Turned b w X) : w.grownBy X (some b) := ⟨h.os, h.tape, h.output, h.size, fun k hk hne => h.block k hk (fun e => hne (by rw [e]))⟩
set_option maxHeartbeats 1000000 in
theorem insN_any (w : World) (base : Nat) (v : Value) (zs : List Int) (y : Int) (i vb vc : Nat) (hown : w.ownsRow base 2 1 v zs.length (zs.map (Value.int .i64))) (hn : zs.length ≤ 1000) (hi : i ≤ zs.length) (hV : Blk w vb 2 1) (hvl : vb < w.heap.size) (hv : w.cell? ⟨vb, 0, none⟩ = some (.int .i64 y)) (hne : v.ownBlock ≠ some vb) (hbase : base ≤ w.heap.size) :
    Calls Tryz.prog 136 #[v, .int .i64 (i : Int), .slice (some ⟨vb, 0, none⟩) 1 vc] w fun e w' => ∃ v', e = .returned v' ∧ w'.ownsRow base 2 1 v' (zs.length + 1) ((insZ zs i y).map (Value.int .i64)) ∧ w.grownBy w' v.ownBlock ∧ (v'.ownBlock = v.ownBlock ∨ v'.ownBlock = some w.heap.size) := by
  by_cases hend : i = zs.length
  · subst hend
    obtain ⟨i0, hi0, hzz⟩ := Option.map_eq_some_iff.1 infoN
    simp only [Prod.mk.injEq] at hzz
    obtain ⟨hz0, hz1, hz2⟩ := hzz
    obtain ⟨v', W', hr, ho, hg, _, hl⟩ := run_append_own_at (P := Tryz.prog) w base 26 26 2 i0 _ 1 8 Tryz.underlying26 hi0 hz0 hz1 hz2 rfl (by decide) v zs.length _ hown ⟨vb, 0, none⟩ 1 vc [.int .i64 y] rfl (fun j u hu => by
      rcases j with _ | j
      · simp at hu; subst hu; rw [Addr.add_lit]; exact hv
      · simp at hu) (fun u hu => by simp at hu; subst hu; rfl) (by unfold maxLen; omega) (by omega) hbase
    have he : (zs.map (Value.int .i64)) ++ [.int .i64 y] = (insZ zs zs.length y).map (Value.int .i64) := by simp [insZ]
    rw [he] at ho
    have hown' := hown
    obtain ⟨_, hcase⟩ := hown
    rcases hcase with ⟨rfl, h0⟩ | ⟨g, cap, cur, rfl, _, _, hc, _⟩
    · rw [h0]
      refine (insN_nil w W' vb vc v' hr).mono ?_
      rintro e w' ⟨rfl, rfl⟩
      rw [h0] at ho
      exact ⟨v', rfl, ho, hg, hl⟩
    · refine (insN_end w W' g zs.length cap vb vc v' hc hr).mono ?_
      rintro e w' ⟨rfl, rfl⟩
      exact ⟨v', rfl, ho, hg, hl⟩
  · have hlt : i < zs.length := by omega
    obtain ⟨hl0, hcase⟩ := hown
    rcases hcase with ⟨rfl, h0⟩ | ⟨g, cap, cur, rfl, hg1, hg2, hg3, hg4, hg5, hg6⟩
    · omega
    obtain ⟨hB, hrow, -, -, -, hgl⟩ := blk_of_owns (X := w) (base := base) (g := g) (n := zs.length) (cap := cap) (T := 2) (xs := zs.map (Value.int .i64)) ⟨hl0, .inr ⟨g, cap, cur, rfl, hg1, hg2, hg3, hg4, hg5, hg6⟩⟩
    have hr : ∀ j z, zs[j]? = some z → w.cell? ⟨g, j, none⟩ = some (.int .i64 z) := fun j z hz => hrow j _ (by rw [List.getElem?_map, hz]; rfl)
    have hvg : vb ≠ g := fun e => hne (by rw [e]; rfl)
    by_cases hcap : zs.length + 1 ≤ cap
    · refine (insN_shift w g zs.length cap i vb vc zs y hlt rfl hcap (by unfold maxLen at hg4; omega) hvg hB hV hr hv).mono ?_
      rintro e w' ⟨rfl, rfl⟩
      have hB1 : Blk (w.drew.setCells g (i + 1) ((zs.drop i).map (Value.int .i64))) g 2 cap := by rw [setCells_put]; exact Blk.put _ _ (Blk.keep hB rfl)
      refine ⟨_, rfl, owns_of_blk (by rw [setCells_put]; exact Blk.put _ _ hB1) (fun j u hu => ?_) (by simp [insZ_len hi]) hcap hg4 hg1, grown_of (by
        rw [setCells_put, setCells_put]
        exact Turned.putR _ _ (Turned.putR _ _ (Turned.refl g w).drew)), .inl rfl⟩
      rw [setCells_put, setCells_put]
      rcases insZ_at hi hu with ⟨h1, z, hz, rfl⟩ | ⟨rfl, rfl⟩ | ⟨h1, z, hz, rfl⟩
      · rw [putB_out _ _ _ (.inl h1), putB_out _ _ _ (.inl (by omega))]
        exact hr j z hz
      · have := putB_cell (s := g) [Value.int .i64 y] (putB w.drew g (j + 1) ((zs.drop j).map (Value.int .i64))) j (fun x h1 h2 => by
          obtain ⟨v, hv, _⟩ := (Blk.put ((zs.drop j).map (Value.int .i64)) (j + 1) (Blk.keep (Y := w.drew) hB rfl)).room x (by simp at h2; omega)
          exact ⟨v, hv⟩) 0 _ rfl
        simpa using this
      · rw [putB_out _ _ _ (.inr (by simp; omega))]
        have := putB_cell (s := g) ((zs.drop i).map (Value.int .i64)) w.drew (i + 1) (fun x h1 h2 => by
          obtain ⟨v, hv, _⟩ := (Blk.keep (Y := w.drew) hB rfl).room x (by simp at h2; omega)
          exact ⟨v, hv⟩) (j - (i + 1)) (.int .i64 z) (by rw [List.getElem?_map, List.getElem?_drop, show i + (j - (i + 1)) = j - 1 by omega, hz]; rfl)
        rwa [show i + 1 + (j - (i + 1)) = j by omega] at this
    · obtain rfl : cap = zs.length := by omega
      refine (insN_grow w g zs.length i vb vc zs y hlt rfl hn hgl hvl hr hv).mono ?_
      rintro e w' ⟨G, A0, k1, k2, k3, k4, k5, k6, rfl, rfl⟩
      have hB1 : Blk (A0.setCells w.heap.size i [.int .i64 y]).drew w.heap.size 2 G := by rw [setCells_put]; exact Blk.keep (Blk.put _ _ k5) rfl
      refine ⟨_, rfl, owns_of_blk (by rw [setCells_put]; exact Blk.put _ _ hB1) (fun j u hu => ?_) (by simp [insZ_len hi]) k1 k2 (Nat.le_trans hbase (Nat.le_refl _)), ?_, .inr rfl⟩
      · rw [setCells_put]
        have hj := (List.getElem?_eq_some_iff.1 hu).1
        simp [insZ_len hi] at hj
        rcases insZ_at hi hu with ⟨h1, z, hz, rfl⟩ | ⟨rfl, rfl⟩ | ⟨h1, z, hz, rfl⟩
        · rw [putB_out _ _ _ (.inl (by omega))]
          show (A0.setCells w.heap.size i [.int .i64 y]).cell? _ = _
          rw [setCells_put, putB_out _ _ _ (.inl h1)]
          exact k6 j z (by rw [List.getElem?_take, if_pos h1]; exact hz)
        · rw [putB_out _ _ _ (.inl (by omega))]
          show (A0.setCells w.heap.size j [.int .i64 y]).cell? _ = _
          rw [setCells_put]
          have := putB_cell (s := w.heap.size) [Value.int .i64 y] A0 j (fun x h1 h2 => by
            obtain ⟨v, hv, _⟩ := k5.room x (by simp at h2; omega)
            exact ⟨v, hv⟩) 0 _ rfl
          simpa using this
        · have := putB_cell (s := w.heap.size) ((zs.drop i).map (Value.int .i64)) (A0.setCells w.heap.size i [.int .i64 y]).drew (i + 1) (fun x h1 h2 => by
            obtain ⟨v, hv, _⟩ := hB1.room x (by simp at h2; omega)
            exact ⟨v, hv⟩) (j - (i + 1)) (.int .i64 z) (by rw [List.getElem?_map, List.getElem?_drop, show i + (j - (i + 1)) = j - 1 by omega, hz]; rfl)
          rwa [show i + 1 + (j - (i + 1)) = j by omega] at this
      · have hb : Below w.heap.size w ((A0.setCells w.heap.size i [.int .i64 y]).drew.setCells w.heap.size (i + 1) ((zs.drop i).map (Value.int .i64))) := by
          rw [setCells_put]
          refine putB_below (Nat.le_refl _) _ _ _ ?_
          rw [setCells_put]
          exact (putB_below (Nat.le_refl _) _ _ _ k4).drew
        exact ⟨hb.os, hb.tape, hb.output, hb.size, fun q hq _ => hb.block q hq⟩
end Go.Proofs.YtbkcmbbeknljiaaGreat
