/- What the specification's Checks answers: the notes of cells that have no Set. -/
import Derived.Test.YtcanaklameddbaaSofD
import Derived.Test.YtcanaklameddbaaPOfN
import Derived.Test.YtcanaklameddbaaRows
import Derived.Test.YtcanaklameddbaaPOfS
import Derived.WalkKit
import Derived.WalkSpells
import Derived.WalkLawsBesides
import Derived.Below
import Derived.Lib.QuietBelow
import Derived.BigQuiet
namespace Go.Proofs.Ytcanaklameddbaa
open Go.RowKit
open Go.Sort (grow)
theorem rise_all {f : Nat → Int} {n : Nat} (h : ∀ i, i + 1 < n → f i < f (i + 1)) {i j : Nat} (hij : i < j) (hj : j < n) : f i < f j := by
  induction j with
  | zero => omega
  | succ j ih =>
    by_cases e : i = j
    · subst e; exact h i hj
    · exact Int.lt_trans (ih (by omega) (by omega)) (h j hj)
theorem txB_no {t : T7} (h : txB t = true) : (∀ s ∈ t.reads, noteOkB s = true) ∧ noUp2 t.reads := by
  simp only [txB, Bool.and_eq_true] at h
  have g := h.1.2
  rw [noAt_all, Bool.and_eq_true, List.all_eq_true, List.all_eq_true] at g
  refine ⟨fun s hs => ?_, ?_⟩
  · obtain ⟨i, hi, rfl⟩ := List.getElem_of_mem hs
    have := g.1 i (List.mem_range.2 hi)
    rwa [show atNo t.reads i = t.reads[i] from by have := atNo_of hi; rw [List.getElem?_eq_getElem hi] at this; exact (Option.some.inj this).symm] at this
  · refine List.pairwise_iff_getElem.2 fun i j hi hj hij => ?_
    have := rise_all (f := fun i => noR (atNo t.reads i)) (n := t.reads.length) (fun i hi => by
      have := g.2 (i + 1) (List.mem_range.2 hi)
      simp only [noUp, Nat.add_sub_cancel, Bool.or_eq_true, decide_eq_true_eq] at this
      rcases this with h | h
      · omega
      · exact h) hij hj
    have e : ∀ i (hi : i < t.reads.length), atNo t.reads i = t.reads[i] := fun i hi => by have := atNo_of hi; rw [List.getElem?_eq_getElem hi] at this; exact (Option.some.inj this).symm
    rwa [e i hi, e j hj] at this
theorem txB_se {t : T7} (h : txB t = true) : (∀ s ∈ t.sets, setOkB s = true) ∧ seUp2 t.sets := by
  simp only [txB, Bool.and_eq_true] at h
  have g := h.2
  rw [seAt_all, Bool.and_eq_true, List.all_eq_true, List.all_eq_true] at g
  refine ⟨fun s hs => ?_, ?_⟩
  · obtain ⟨i, hi, rfl⟩ := List.getElem_of_mem hs
    have := g.1 i (List.mem_range.2 hi)
    rwa [show atSe t.sets i = t.sets[i] from by have := atSe_of hi; rw [List.getElem?_eq_getElem hi] at this; exact (Option.some.inj this).symm] at this
  · refine List.pairwise_iff_getElem.2 fun i j hi hj hij => ?_
    have := rise_all (f := fun i => seR (atSe t.sets i)) (n := t.sets.length) (fun i hi => by
      have := g.2 (i + 1) (List.mem_range.2 hi)
      simp only [seUp, Nat.add_sub_cancel, Bool.or_eq_true, decide_eq_true_eq] at this
      rcases this with h | h
      · omega
      · exact h) hij hj
    have e : ∀ i (hi : i < t.sets.length), atSe t.sets i = t.sets[i] := fun i hi => by have := atSe_of hi; rw [List.getElem?_eq_getElem hi] at this; exact (Option.some.inj this).symm
    rwa [e i hi, e j hj] at this
/-- Notes answered in memory of the call's own. -/
def CAns (w : World) (xs : List N5) (e : Ending) (w' : World) : Prop :=
  ∃ (a : Option Addr) (c : Nat) (PS : Nat → Prop), e = .returned (.slice a xs.length c) ∧ OwnNo w' PS a xs ∧ (∀ q, PS q → w.heap.size ≤ q ∧ q < w'.heap.size) ∧ Below w.heap.size w w'
theorem CAns.of {w w' : World} {base : Nat} {v : Value} {xs : List N5} (h : RowN w' base v xs) (hb : w.heap.size ≤ base) (b : Below w.heap.size w w') : CAns w xs (.returned v) w' := by
  obtain ⟨a, c, e, ho⟩ := h.form
  exact ⟨a, c, _, by rw [e], ho, fun q hq => ⟨Nat.le_trans hb (h.lt hq).1, (h.lt hq).2⟩, b⟩
theorem CAns.none {w w' : World} (b : Below w.heap.size w w') : CAns w [] (.returned (.slice Option.none 0 0)) w' := ⟨Option.none, 0, fun _ => False, rfl, .inl rfl, fun _ h => h.elim, b⟩
def ofC (ss : List S5) (xs : List N5) : List N5 := xs.filter fun n => (seW ss n.region n.slot).isNone
theorem ofC_yes {ss : List S5} {xs : List N5} {k : Nat} {s : N5} (h : xs[k]? = some s) (hg : (seW ss s.region s.slot).isSome = false) : ofC ss (xs.take (k + 1)) = ofC ss (xs.take k) ++ [s] := by
  have hg' : (seW ss s.region s.slot).isNone = true := by cases e : seW ss s.region s.slot <;> simp_all
  rw [List.take_add_one, h, ofC, List.filter_append]; simp [hg', ofC]
theorem ofC_no {ss : List S5} {xs : List N5} {k : Nat} {s : N5} (h : xs[k]? = some s) (hg : (seW ss s.region s.slot).isSome = true) : ofC ss (xs.take (k + 1)) = ofC ss (xs.take k) := by
  have hg' : (seW ss s.region s.slot).isNone = false := by cases e : seW ss s.region s.slot <;> simp_all
  rw [List.take_add_one, h, ofC, List.filter_append]; simp [hg', ofC]
theorem ofC_len (ss : List S5) (xs : List N5) : (ofC ss xs).length ≤ xs.length := List.length_filter_le _ _
def checksT (t : T7) : List N5 := if txB t = true then ofC t.sets t.reads else []
theorem checksT_short (t : T7) : (checksT t).length ≤ 1048576 := by
  unfold checksT
  split
  · next h => exact Nat.le_trans (ofC_len t.sets t.reads) (by have := (txB_lens h).1; omega)
  · simp
/-- Where a cell's Set is, or -1. -/
def setAt (xs : List S5) (r s : Int) : Int := match seW xs r s with | some i => (i : Int) | none => -1
theorem setAt_lt (xs : List S5) (r s : Int) : decide (setAt xs r s < 0) = !(seW xs r s).isSome := by
  unfold setAt
  cases seW xs r s <;> simp
theorem seW_found {xs : List S5} {k : Nat} {x : S5} {r s : Int} (h : seW (xs.take k) r s = none) (hx : xs[k]? = some x) (h1 : x.region = r) (h2 : x.slot = s) : seW xs r s = some k := by
  have lk := List.getElem?_eq_some_iff.1 hx
  have l1 := lk.1
  unfold seW at *
  rw [List.findIdx?_eq_some_iff_getElem]
  refine ⟨lk.1, by rw [lk.2]; simp [h1, h2], fun j hj => ?_⟩
  rw [List.findIdx?_eq_none_iff] at h
  have := h xs[j] (List.mem_take_iff_getElem.2 ⟨j, by omega, rfl⟩)
  simp at this ⊢
  exact this
theorem seW_step {xs : List S5} {k : Nat} {x : S5} {r s : Int} (h : seW (xs.take k) r s = none) (hx : xs[k]? = some x) (hn : ¬ (x.region = r ∧ x.slot = s)) : seW (xs.take (k + 1)) r s = none := by
  rw [seW_none] at *
  intro y hy
  rw [List.take_add_one, hx] at hy
  rcases List.mem_append.1 hy with hy | hy
  · exact h y hy
  · simp at hy; subst hy; exact hn
set_option maxHeartbeats 4000000 in
theorem l7Set_any (w : World) (v : TV) (t : T7) (r s : Int) (hl : t.sets.length ≤ 1000) (hs : SlT w v t) :
    Calls Try.prog 56 #[v.val t, .int .i64 r, .int .i64 s] w fun e w' => e = .returned (.int .i64 (setAt t.sets r s)) ∧ Below w.heap.size w w' := by
  obtain ⟨ar, cr, ah, ch⟩ := v
  simp only [TV.val]
  obtain ⟨W, hW⟩ : ∃ W, W = w.alloc (.cells #[.int .i64 t.id, .int .i64 t.home, .int .i64 t.phase, .int .i64 t.count, .slice ar t.reads.length cr, .slice ah t.sets.length ch, .int .i64 t.stamp] 27) := ⟨_, rfl⟩
  have b0 : Below w.heap.size w W := by rw [hW]; exact (Below.refl _ _).alloc (Nat.le_refl _) _
  have x0 : BT W w.heap.size ⟨ar, cr, ah, ch⟩ t := by rw [hW]; exact BT.box w ⟨ar, cr, ah, ch⟩ t _
  have p5 := x0.c5
  dsimp only at p5
  have H : Hid (Sl W W.heap.size ah t.sets.length t.sets ∧ Below w.heap.size w W) := ⟨(hs.later b0).s, b0⟩
  clear hs b0 x0
  go_enter Try.func56, Try.ntmps56
  go_wp2
  rw [← hW]
  clear hW
  go_loopw [7] (fun v7 wr => ∃ k : Nat, k ≤ t.sets.length ∧ v7 = .int .i64 k ∧ wr = W ∧ seW (t.sets.take k) r s = none) (fun v7 _ => t.sets.length - (intOf v7).toNat)
  case atStart => exact ⟨0, Nat.zero_le _, rfl, rfl, by simp [seW]⟩
  case round =>
    obtain ⟨k, hk, rfl, rfl, hnn⟩ := hrel
    have KN := hidOf hnn
    clear hnn
    by_cases hlt : k < t.sets.length
    · obtain ⟨_, hsk⟩ := H.out.1
      rcases hsk with hsk | ⟨b, off, rfl, hb, hx⟩
      · omega
      obtain ⟨c0, c1, c2, c3, c4⟩ := hx k _ (atSe_of hlt)
      clear hx
      by_cases hg : (atSe t.sets k).region = r
      · have dg : ((atSe t.sets k).region == r) = true := by simpa using hg
        by_cases hg2 : (atSe t.sets k).slot = s
        · have dg2 : ((atSe t.sets k).slot == s) = true := by simpa using hg2
          have HF : Hid (setAt t.sets r s = (k : Int)) := by unfold Hid setAt; rw [seW_found KN.out (atSe_of hlt) hg hg2]
          clear hg hg2
          go_wp2
          go_ret
          exact ⟨by rw [HF.out]; rfl, H.out.2⟩
        · have dg2 : ((atSe t.sets k).slot == s) = false := by simpa using hg2
          have KE : Hid (seW (t.sets.take (k + 1)) r s = none) := seW_step KN.out (atSe_of hlt) (fun h => hg2 h.2)
          clear hg hg2
          go_wp2
          exact ⟨⟨k + 1, by omega, by simp, trivial, KE.out⟩, by simp [intOf]; omega⟩
      · have dg : ((atSe t.sets k).region == r) = false := by simpa using hg
        have KE : Hid (seW (t.sets.take (k + 1)) r s = none) := seW_step KN.out (atSe_of hlt) (fun h => hg h.1)
        clear hg
        go_wp2
        exact ⟨⟨k + 1, by omega, by simp, trivial, KE.out⟩, by simp [intOf]; omega⟩
    · obtain rfl : k = t.sets.length := by omega
      have hd : decide ((t.sets.length : Int) < (t.sets.length : Int)) = false := by simp
      have HF : Hid (setAt t.sets r s = -1) := by unfold Hid setAt; have := KN.out; rw [List.take_length] at this; rw [this]
      go_wp2
      go_ret
      exact ⟨by rw [HF.out]; rfl, H.out.2⟩
end Go.Proofs.Ytcanaklameddbaa
