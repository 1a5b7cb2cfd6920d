/- POfS; ChkS; OwnTi; OwnTs; AddS; AseS; DrT1; OwnTsR: joined. -/
import Derived.Test.YtiidlcjjaglkdaaRows
import Derived.Test.YtiidlcjjaglkdaaJ6LawNoted
import Derived.WalkKit
import Derived.WalkSpells
import Derived.WalkLawsBesides
import Derived.Below
import Derived.Lib.QuietBelow
import Derived.BigQuiet
import Derived.Test.YtiidlcjjaglkdaaJ3LawNoted
import Derived.Test.YtiidlcjjaglkdaaJ5LawNoted
import Derived.Test.YtiidlcjjaglkdaaJ0LawNoted
import Derived.Deep.Upon
import Derived.Test.YtiidlcjjaglkdaaJ2LawNoted
import Derived.Deep.CutRange
import Derived.Deep.AppendLies
namespace Go.Proofs.Ytiidlcjjaglkdaa
open Go.RowKit
open Go.Sort (grow)
def seUp2 (xs : List S5) : Prop := xs.Pairwise fun a b => seR a < seR b
theorem seUp2_at {xs : List S5} (h : seUp2 xs) {i j : Nat} {x y : S5} (hi : xs[i]? = some x) (hj : xs[j]? = some y) (hij : i < j) : seR x < seR y := by
  have li := (List.getElem?_eq_some_iff.1 hi)
  have lj := (List.getElem?_eq_some_iff.1 hj)
  have := List.pairwise_iff_getElem.1 h i j li.1 lj.1 hij
  rwa [li.2, lj.2] at this
theorem seNew {xs : List S5} (h : seUp2 xs) {k : Nat} {x : S5} (hk : xs[k]? = some x) : seW (xs.take k) x.region x.slot = none := by
  rw [seW_none]
  intro y hy e
  obtain ⟨i, hi, rfl⟩ := List.getElem_of_mem hy
  have hik : i < k := by rw [List.length_take] at hi; omega
  have e2 : xs[i]? = some ((xs.take k)[i]) := by
    have := List.getElem?_eq_getElem hi
    rwa [List.getElem?_take, if_pos hik] at this
  have := seUp2_at h e2 hk hik
  unfold seR at this
  rw [e.1, e.2] at this
  omega
theorem seStay {xs : List S5} (h : seUp2 xs) {k : Nat} {x : S5} (hk : xs[k]? = some x) : xs.take k = [] ∨ seK (xs.take k ++ [x]) (((xs.take k).length - 1) / 2) ≤ seK (xs.take k ++ [x]) (xs.take k).length := by
  by_cases h0 : k = 0
  · exact .inl (by rw [h0]; rfl)
  · have lk := (List.getElem?_eq_some_iff.1 hk).1
    have hl : (xs.take k).length = k := by rw [List.length_take]; omega
    have e1 : xs.take k ++ [x] = xs.take (k + 1) := by rw [List.take_add_one, hk]; rfl
    refine .inr ?_
    rw [hl, e1]
    obtain ⟨y, hy⟩ : ∃ y, xs[(k - 1) / 2]? = some y := ⟨_, List.getElem?_eq_getElem (by omega)⟩
    rw [seK_R (x := y) (by rw [List.getElem?_take, if_pos (by omega)]; exact hy), seK_R (x := x) (by rw [List.getElem?_take, if_pos (by omega)]; exact hk)]
    exact Int.le_of_lt (seUp2_at h hy hk (by omega))
set_option maxHeartbeats 4000000 in
theorem sePileOf_any (w : World) (a : Option Addr) (c : Nat) (xs : List S5) (hl : xs.length ≤ 100) (hs : Sl w w.heap.size a xs.length xs) (hok : ∀ s ∈ xs, setOkB s = true) (hup : seUp2 xs) :
    Calls Try.prog 55 #[.slice a xs.length c] w fun e w' => ∃ p mb n v, e = .returned (.pointer (some ⟨p, 0, none⟩)) ∧ PisB w' w.heap.size p mb n v xs ∧ n ≤ xs.length ∧ Below w.heap.size w w' := by
  obtain ⟨W0, hW0⟩ : ∃ W, W = w.alloc (.map #[] 0) := ⟨_, rfl⟩
  have z0 : W0.heap.size = w.heap.size + 1 := by rw [hW0]; simp
  have b0 : Below w.heap.size w W0 := by rw [hW0]; exact (Below.refl _ _).alloc (Nat.le_refl _) _
  obtain ⟨W, hW⟩ : ∃ W, W = W0.alloc (.cells #[.slice none 0 0, .map (some w.heap.size)] 112) := ⟨_, rfl⟩
  have b1 : Below W0.heap.size W0 W := by rw [hW]; exact (Below.refl _ _).alloc (Nat.le_refl _) _
  have pb : PisB W w.heap.size (w.heap.size + 1) w.heap.size 0 (.slice none 0 0) [] := by
    refine ⟨(by rw [hW, ← z0]; go_simp), (by rw [hW, ← z0]; go_simp), (fun j => by rw [hW, ← z0]; go_simp), RowS.nil _ _, ?_, (fun s hs => by cases hs), (fun e => by cases e), (fun e => by cases e), (by omega), (by omega), Nat.le_refl _, (by rw [hW]; simp [z0])⟩
    have hm := (MapF.made w).later (W' := W) (by rw [← hW0]; exact b1)
    exact hm
  have H : Hid (Sl w w.heap.size a xs.length xs ∧ (∀ s ∈ xs, setOkB s = true) ∧ seUp2 xs ∧ PisB W w.heap.size (w.heap.size + 1) w.heap.size 0 (.slice none 0 0) [] ∧ Below w.heap.size w W) := ⟨hs, hok, hup, pb, b0.trans (b1.mono b0.size)⟩
  clear hs hok hup pb b0 b1 z0
  rw [hW0] at hW
  clear hW0
  have hmm := @run_makeMap Try.prog
  go_enter Try.func55, Try.ntmps55
  go_wp2
  rw [← hW]
  clear hW
  go_loopw [11] (fun v11 wr => ∃ (k n : Nat) (v : Value), k ≤ xs.length ∧ v11 = .int .i64 (k : Int) ∧ PisB wr w.heap.size (w.heap.size + 1) w.heap.size n v (xs.take k) ∧ n ≤ k ∧ Below w.heap.size w wr) (fun v11 _ => xs.length - (intOf v11).toNat)
  case atStart => exact ⟨0, 0, .slice none 0 0, Nat.zero_le _, rfl, by simpa using H.out.2.2.2.1, Nat.le_refl _, H.out.2.2.2.2⟩
  case round =>
    obtain ⟨k, n, v, hk, rfl, hp, hnk, hbl⟩ := hrel
    by_cases hlt : k < xs.length
    · obtain ⟨_, hsk⟩ := H.out.1.later hbl
      rcases hsk with hsk | ⟨b, off, rfl, hb, hx⟩
      · omega
      have hxk := atSe_of hlt
      obtain ⟨c0, c1, c2, c3, c4⟩ := hx k _ hxk
      obtain ⟨V, hV⟩ : ∃ V, V = wr.alloc (.cells #[.int .i64 (atSe xs k).region, .int .i64 (atSe xs k).slot, .int .i64 (atSe xs k).value, .bool (atSe xs k).used, .int .i64 (atSe xs k).version] 36) := ⟨_, rfl⟩
      have bV : Below wr.heap.size wr V := by rw [hV]; exact (Below.refl _ _).alloc (Nat.le_refl _) _
      have cp := sePutLast V w.heap.size (w.heap.size + 1) w.heap.size n v (xs.take k) (atSe xs k) (hp.later bV) (by omega) (by rw [List.length_take]; omega) (H.out.2.1 _ (List.mem_of_getElem? hxk)) (seNew H.out.2.2.1 hxk) (Nat.le_trans hbl.size bV.size) (seStay H.out.2.2.1 hxk)
      have KB : Hid (Below w.heap.size w V ∧ xs.take k ++ [atSe xs k] = xs.take (k + 1)) := ⟨hbl.trans (bV.mono hbl.size), by rw [List.take_add_one, hxk]; rfl⟩
      clear hp hbl hx hxk bV
      go_wp2_with fail
      rw [← hV]
      clear hV c0 c1 c2 c3 c4
      refine cp.mono ?_
      clear cp
      rintro e w1 ⟨rfl, v', p1, b1⟩
      rw [KB.out.2] at p1
      have KE : Hid (PisB w1 w.heap.size (w.heap.size + 1) w.heap.size (n + 1) v' (xs.take (k + 1)) ∧ Below w.heap.size w w1) := ⟨p1, KB.out.1.trans b1⟩
      clear p1 b1
      go_wp2
      exact ⟨⟨k + 1, n + 1, v', by omega, by simp, KE.out.1, by omega, KE.out.2⟩, by simp [intOf]; omega⟩
    · obtain rfl : k = xs.length := by omega
      have hd : decide ((xs.length : Int) < (xs.length : Int)) = false := by simp
      rw [List.take_length] at hp
      have KE : Hid (PisB wr w.heap.size (w.heap.size + 1) w.heap.size n v xs ∧ Below w.heap.size w wr) := ⟨hp, hbl⟩
      clear hp hbl
      go_wp2
      go_ret
      exact ⟨w.heap.size + 1, w.heap.size, n, v, rfl, KE.out.1, hnk, KE.out.2⟩
theorem rise_all {f : Nat → Int} {n : Nat} (h : ∀ i, i + 1 < n → f i < f (i + 1)) {i j : Nat} (hij : i < j) (hj : j < n) : f i < f j := by
  induction j with
  | zero => omega
  | succ j ih =>
    by_cases e : i = j
    · subst e; exact h i hj
    · exact Int.lt_trans (ih (by omega) (by omega)) (h j hj)
theorem txB_no {t : T7} (h : txB t = true) : (∀ s ∈ t.reads, noteOkB s = true) ∧ noUp2 t.reads := by
  simp only [txB, Bool.and_eq_true] at h
  have g := h.1.2
  rw [noAt_all, Bool.and_eq_true, List.all_eq_true, List.all_eq_true] at g
  refine ⟨fun s hs => ?_, ?_⟩
  · obtain ⟨i, hi, rfl⟩ := List.getElem_of_mem hs
    have := g.1 i (List.mem_range.2 hi)
    rwa [show atNo t.reads i = t.reads[i] from by have := atNo_of hi; rw [List.getElem?_eq_getElem hi] at this; exact (Option.some.inj this).symm] at this
  · refine List.pairwise_iff_getElem.2 fun i j hi hj hij => ?_
    have := rise_all (f := fun i => noR (atNo t.reads i)) (n := t.reads.length) (fun i hi => by
      have := g.2 (i + 1) (List.mem_range.2 hi)
      simp only [noUp, Nat.add_sub_cancel, Bool.or_eq_true, decide_eq_true_eq] at this
      rcases this with h | h
      · omega
      · exact h) hij hj
    have e : ∀ i (hi : i < t.reads.length), atNo t.reads i = t.reads[i] := fun i hi => by have := atNo_of hi; rw [List.getElem?_eq_getElem hi] at this; exact (Option.some.inj this).symm
    rwa [e i hi, e j hj] at this
theorem txB_se {t : T7} (h : txB t = true) : (∀ s ∈ t.sets, setOkB s = true) ∧ seUp2 t.sets := by
  simp only [txB, Bool.and_eq_true] at h
  have g := h.2
  rw [seAt_all, Bool.and_eq_true, List.all_eq_true, List.all_eq_true] at g
  refine ⟨fun s hs => ?_, ?_⟩
  · obtain ⟨i, hi, rfl⟩ := List.getElem_of_mem hs
    have := g.1 i (List.mem_range.2 hi)
    rwa [show atSe t.sets i = t.sets[i] from by have := atSe_of hi; rw [List.getElem?_eq_getElem hi] at this; exact (Option.some.inj this).symm] at this
  · refine List.pairwise_iff_getElem.2 fun i j hi hj hij => ?_
    have := rise_all (f := fun i => seR (atSe t.sets i)) (n := t.sets.length) (fun i hi => by
      have := g.2 (i + 1) (List.mem_range.2 hi)
      simp only [seUp, Nat.add_sub_cancel, Bool.or_eq_true, decide_eq_true_eq] at this
      rcases this with h | h
      · omega
      · exact h) hij hj
    have e : ∀ i (hi : i < t.sets.length), atSe t.sets i = t.sets[i] := fun i hi => by have := atSe_of hi; rw [List.getElem?_eq_getElem hi] at this; exact (Option.some.inj this).symm
    rwa [e i hi, e j hj] at this
def CAns (w : World) (xs : List N5) (e : Ending) (w' : World) : Prop :=
  ∃ (a : Option Addr) (c : Nat) (PS : Nat → Prop), e = .returned (.slice a xs.length c) ∧ OwnNo w' PS a xs ∧ (∀ q, PS q → w.heap.size ≤ q ∧ q < w'.heap.size) ∧ Below w.heap.size w w'
theorem CAns.of {w w' : World} {base : Nat} {v : Value} {xs : List N5} (h : RowN w' base v xs) (hb : w.heap.size ≤ base) (b : Below w.heap.size w w') : CAns w xs (.returned v) w' := by
  obtain ⟨a, c, e, ho⟩ := h.form
  exact ⟨a, c, _, by rw [e], ho, fun q hq => ⟨Nat.le_trans hb (h.lt hq).1, (h.lt hq).2⟩, b⟩
theorem CAns.none {w w' : World} (b : Below w.heap.size w w') : CAns w [] (.returned (.slice Option.none 0 0)) w' := ⟨Option.none, 0, fun _ => False, rfl, .inl rfl, fun _ h => h.elim, b⟩
def ofC (ss : List S5) (xs : List N5) : List N5 := xs.filter fun n => (seW ss n.region n.slot).isNone
def checksT (t : T7) : List N5 := if txB t = true then ofC t.sets t.reads else []
def setAt (xs : List S5) (r s : Int) : Int := match seW xs r s with | some i => (i : Int) | none => -1
theorem seW_found {xs : List S5} {k : Nat} {x : S5} {r s : Int} (h : seW (xs.take k) r s = none) (hx : xs[k]? = some x) (h1 : x.region = r) (h2 : x.slot = s) : seW xs r s = some k := by
  have lk := List.getElem?_eq_some_iff.1 hx
  have l1 := lk.1
  unfold seW at *
  rw [List.findIdx?_eq_some_iff_getElem]
  refine ⟨lk.1, by rw [lk.2]; simp [h1, h2], fun j hj => ?_⟩
  rw [List.findIdx?_eq_none_iff] at h
  have := h xs[j] (List.mem_take_iff_getElem.2 ⟨j, by omega, rfl⟩)
  simp at this ⊢
  exact this
theorem seW_step {xs : List S5} {k : Nat} {x : S5} {r s : Int} (h : seW (xs.take k) r s = none) (hx : xs[k]? = some x) (hn : ¬ (x.region = r ∧ x.slot = s)) : seW (xs.take (k + 1)) r s = none := by
  rw [seW_none] at *
  intro y hy
  rw [List.take_add_one, hx] at hy
  rcases List.mem_append.1 hy with hy | hy
  · exact h y hy
  · simp at hy; subst hy; exact hn
set_option maxHeartbeats 4000000 in
theorem l7Set_any (w : World) (v : TV) (t : T7) (r s : Int) (hl : t.sets.length ≤ 1000) (hs : SlT w v t) :
    Calls Try.prog 62 #[v.val t, .int .i64 r, .int .i64 s] w fun e w' => e = .returned (.int .i64 (setAt t.sets r s)) ∧ Below w.heap.size w w' := by
  obtain ⟨ar, cr, ah, ch⟩ := v
  simp only [TV.val]
  obtain ⟨W, hW⟩ : ∃ W, W = w.alloc (.cells #[.int .i64 t.id, .int .i64 t.home, .int .i64 t.phase, .int .i64 t.count, .slice ar t.reads.length cr, .slice ah t.sets.length ch, .int .i64 t.stamp] 27) := ⟨_, rfl⟩
  have b0 : Below w.heap.size w W := by rw [hW]; exact (Below.refl _ _).alloc (Nat.le_refl _) _
  have x0 : BT W w.heap.size ⟨ar, cr, ah, ch⟩ t := by rw [hW]; exact BT.box w ⟨ar, cr, ah, ch⟩ t _
  have p5 := x0.c5
  dsimp only at p5
  have H : Hid (Sl W W.heap.size ah t.sets.length t.sets ∧ Below w.heap.size w W) := ⟨(hs.later b0).s, b0⟩
  clear hs b0 x0
  go_enter Try.func62, Try.ntmps62
  go_wp2
  rw [← hW]
  clear hW
  go_loopw [7] (fun v7 wr => ∃ k : Nat, k ≤ t.sets.length ∧ v7 = .int .i64 k ∧ wr = W ∧ seW (t.sets.take k) r s = none) (fun v7 _ => t.sets.length - (intOf v7).toNat)
  case atStart => exact ⟨0, Nat.zero_le _, rfl, rfl, by simp [seW]⟩
  case round =>
    obtain ⟨k, hk, rfl, rfl, hnn⟩ := hrel
    have KN := hidOf hnn
    clear hnn
    by_cases hlt : k < t.sets.length
    · obtain ⟨_, hsk⟩ := H.out.1
      rcases hsk with hsk | ⟨b, off, rfl, hb, hx⟩
      · omega
      obtain ⟨c0, c1, c2, c3, c4⟩ := hx k _ (atSe_of hlt)
      clear hx
      by_cases hg : (atSe t.sets k).region = r
      · have dg : ((atSe t.sets k).region == r) = true := by simpa using hg
        by_cases hg2 : (atSe t.sets k).slot = s
        · have dg2 : ((atSe t.sets k).slot == s) = true := by simpa using hg2
          have HF : Hid (setAt t.sets r s = (k : Int)) := by unfold Hid setAt; rw [seW_found KN.out (atSe_of hlt) hg hg2]
          clear hg hg2
          go_wp2
          go_ret
          exact ⟨by rw [HF.out]; rfl, H.out.2⟩
        · have dg2 : ((atSe t.sets k).slot == s) = false := by simpa using hg2
          have KE : Hid (seW (t.sets.take (k + 1)) r s = none) := seW_step KN.out (atSe_of hlt) (fun h => hg2 h.2)
          clear hg hg2
          go_wp2
          exact ⟨⟨k + 1, by omega, by simp, trivial, KE.out⟩, by simp [intOf]; omega⟩
      · have dg : ((atSe t.sets k).region == r) = false := by simpa using hg
        have KE : Hid (seW (t.sets.take (k + 1)) r s = none) := seW_step KN.out (atSe_of hlt) (fun h => hg h.1)
        clear hg
        go_wp2
        exact ⟨⟨k + 1, by omega, by simp, trivial, KE.out⟩, by simp [intOf]; omega⟩
    · obtain rfl : k = t.sets.length := by omega
      have hd : decide ((t.sets.length : Int) < (t.sets.length : Int)) = false := by simp
      have HF : Hid (setAt t.sets r s = -1) := by unfold Hid setAt; have := KN.out; rw [List.take_length] at this; rw [this]
      go_wp2
      go_ret
      exact ⟨by rw [HF.out]; rfl, H.out.2⟩
end Go.Proofs.Ytiidlcjjaglkdaa
namespace Go.Proofs.Ytiidlcjjaglkdaa
open Go.RowKit
set_option maxRecDepth 100000 in
set_option maxHeartbeats 8000000 in
theorem ownTx_any (w : World) (v : TV) (t : T7) (hr : t.reads.length ≤ 1048576) (hss : t.sets.length ≤ 1048576) (h : SlT w v t) :
    Calls Try.prog 39 #[v.val t] w (OAns w t) := by
  obtain ⟨ar, cr, ah, ch⟩ := v
  simp only [TV.val]
  obtain ⟨W1, hW1⟩ : ∃ W1, W1 = w.alloc (.cells #[.int .i64 t.id, .int .i64 t.home, .int .i64 t.phase, .int .i64 t.count, .slice ar t.reads.length cr, .slice ah t.sets.length ch, .int .i64 t.stamp] 27) := ⟨_, rfl⟩
  have z1 : W1.heap.size = w.heap.size + 1 := by rw [hW1]; simp
  have x1 : BT W1 w.heap.size ⟨ar, cr, ah, ch⟩ t := by rw [hW1]; exact BT.box w ⟨ar, cr, ah, ch⟩ t _
  have b1 : Below w.heap.size w W1 := by rw [hW1]; exact (Below.refl _ _).alloc (Nat.le_refl _) _
  obtain ⟨W, hW⟩ : ∃ W2, W2 = W1.alloc (.cells #[.int .i64 0, .int .i64 0, .int .i64 0, .int .i64 0, .slice none 0 0, .slice none 0 0, .int .i64 0] 27) := ⟨_, rfl⟩
  have b2 : Below W1.heap.size W1 W := by rw [hW]; exact (Below.refl _ _).alloc (Nat.le_refl _) _
  have yR : BT W (w.heap.size + 1) ⟨none, 0, none, 0⟩ ⟨0, 0, 0, 0, [], [], 0⟩ := by rw [hW, ← z1]; exact BT.zero W1 _
  have sW : W.heap.size = w.heap.size + 2 := by rw [hW]; simp [z1]
  have yA : BT W w.heap.size ⟨ar, cr, ah, ch⟩ t := x1.later b2
  have bW : Below w.heap.size w W := b1.trans (b2.mono b1.size)
  have bV1 : Below W.heap.size W W := Below.refl _ _
  obtain ⟨a1, c1, Y1, run1, row1, gr1⟩ := copyNo (RowN.nil W W.heap.size) t.reads hr 24 ar cr ((h.later (bW.trans (bV1.mono bW.size))).r) bV1.size
  have bY1 : Below W.heap.size W Y1 := bV1.grown gr1 bV1.size (fun q e => by cases e)
  have yA1 : BT Y1 w.heap.size ⟨ar, cr, ah, ch⟩ t := yA.later bY1
  have yR1 := yR.later bY1
  have yA2 : BT (Y1.setCell ⟨w.heap.size, 4, none⟩ (.slice a1 t.reads.length c1)) w.heap.size ⟨a1, c1, ah, ch⟩ t := yA1.set4 a1 c1 t.reads
  have yR2 := yR1.far (p := ⟨w.heap.size, 4, none⟩) (by dsimp only; omega) (.slice a1 t.reads.length c1)
  have bX1 : Below w.heap.size w (Y1.setCell ⟨w.heap.size, 4, none⟩ (.slice a1 t.reads.length c1)) := (bW.trans (bY1.mono bW.size)).setCell (p := ⟨w.heap.size, 4, none⟩) (Nat.le_refl _) _
  have row1' : RowN (Y1.setCell ⟨w.heap.size, 4, none⟩ (.slice a1 t.reads.length c1)) W.heap.size (.slice a1 t.reads.length c1) t.reads := row1.keep (fun q hq _ _ => Below.heap_setCell _ _ _ _ (by show q ≠ w.heap.size; omega))
  have zX1 : (Y1.setCell ⟨w.heap.size, 4, none⟩ (.slice a1 t.reads.length c1)).heap.size = Y1.heap.size := by simp [World.setCell]
  have bV2 : Below (Y1.setCell ⟨w.heap.size, 4, none⟩ (.slice a1 t.reads.length c1)).heap.size (Y1.setCell ⟨w.heap.size, 4, none⟩ (.slice a1 t.reads.length c1)) (Y1.setCell ⟨w.heap.size, 4, none⟩ (.slice a1 t.reads.length c1)) := Below.refl _ _
  obtain ⟨a2, c2, Y2, run2, row2, gr2⟩ := copySe (RowS.nil (Y1.setCell ⟨w.heap.size, 4, none⟩ (.slice a1 t.reads.length c1)) (Y1.setCell ⟨w.heap.size, 4, none⟩ (.slice a1 t.reads.length c1)).heap.size) t.sets hss 25 ah ch ((h.later (bX1.trans (bV2.mono bX1.size))).s) bV2.size
  have bY2 : Below (Y1.setCell ⟨w.heap.size, 4, none⟩ (.slice a1 t.reads.length c1)).heap.size (Y1.setCell ⟨w.heap.size, 4, none⟩ (.slice a1 t.reads.length c1)) Y2 := bV2.grown gr2 bV2.size (fun q e => by cases e)
  have yA3 : BT Y2 w.heap.size ⟨a1, c1, ah, ch⟩ t := yA2.later bY2
  have yR3 := yR2.later bY2
  have yA4 : BT (Y2.setCell ⟨w.heap.size, 5, none⟩ (.slice a2 t.sets.length c2)) w.heap.size ⟨a1, c1, a2, c2⟩ t := yA3.set5 a2 c2 t.sets
  have yR4 := yR3.far (p := ⟨w.heap.size, 5, none⟩) (by dsimp only; omega) (.slice a2 t.sets.length c2)
  have bX2 : Below w.heap.size w (Y2.setCell ⟨w.heap.size, 5, none⟩ (.slice a2 t.sets.length c2)) := (bX1.trans (bY2.mono bX1.size)).setCell (p := ⟨w.heap.size, 5, none⟩) (Nat.le_refl _) _
  have row1'' : RowN (Y2.setCell ⟨w.heap.size, 5, none⟩ (.slice a2 t.sets.length c2)) W.heap.size (.slice a1 t.reads.length c1) t.reads := (row1'.later bY2).keep (fun q hq _ _ => Below.heap_setCell _ _ _ _ (by show q ≠ w.heap.size; omega))
  have hs1 : W.heap.size ≤ (Y1.setCell ⟨w.heap.size, 4, none⟩ (.slice a1 t.reads.length c1)).heap.size := by rw [zX1]; exact bY1.size
  have row2' : RowS (Y2.setCell ⟨w.heap.size, 5, none⟩ (.slice a2 t.sets.length c2)) (Y1.setCell ⟨w.heap.size, 4, none⟩ (.slice a1 t.reads.length c1)).heap.size (.slice a2 t.sets.length c2) t.sets := row2.keep (fun q hq _ _ => Below.heap_setCell _ _ _ _ (by show q ≠ w.heap.size; omega))
  have yR5 := yR4.put ⟨a1, c1, a2, c2⟩ t
  have p4 := yA.c4
  have k4 := yA1.c4
  have k4f := yA1.fz 4
  have p5 := (yA2.later bV2).c5
  have k5 := yA3.c5
  have k5f := yA3.fz 5
  dsimp only at p4 k4 p5 k5
  obtain ⟨o0, o1, o2, o3, o4, o5, o6, -, -⟩ := yA4
  have KR := yR4
  have hlt1 : ∀ q, (Value.slice a1 t.reads.length c1).ownBlock = some q → W.heap.size ≤ q ∧ q < (Y1.setCell ⟨w.heap.size, 4, none⟩ (.slice a1 t.reads.length c1)).heap.size := fun q e => row1'.lt e
  have KO : OT (Y2.setCell ⟨w.heap.size, 5, none⟩ (.slice a2 t.sets.length c2)) w.heap.size ⟨a1, c1, a2, c2⟩ t (fun q => (Value.slice a1 t.reads.length c1).ownBlock = some q) (fun q => (Value.slice a2 t.sets.length c2).ownBlock = some q) := by
    obtain ⟨_, _, e1, o1⟩ := row1''.form
    obtain ⟨_, _, e2, o2⟩ := row2'.form
    cases e1; cases e2
    exact ⟨o1, o2, fun q h1 h2 => by have := (hlt1 q h1).2; have := (row2'.lt h2).1; omega, fun q h1 => ⟨by have := (row1''.lt h1).1; omega, (row1''.lt h1).2⟩, fun q h1 => ⟨by have := (row2'.lt h1).1; omega, (row2'.lt h1).2⟩⟩
  have KH : Hid (OT (Y2.setCell ⟨w.heap.size, 5, none⟩ (.slice a2 t.sets.length c2)) w.heap.size ⟨a1, c1, a2, c2⟩ t (fun q => (Value.slice a1 t.reads.length c1).ownBlock = some q) (fun q => (Value.slice a2 t.sets.length c2).ownBlock = some q) ∧ Below w.heap.size w (Y2.setCell ⟨w.heap.size, 5, none⟩ (.slice a2 t.sets.length c2)) ∧ (∀ q, OfT (fun q => (Value.slice a1 t.reads.length c1).ownBlock = some q) (fun q => (Value.slice a2 t.sets.length c2).ownBlock = some q) q → w.heap.size + 2 ≤ q)) := ⟨KO, bX2, fun q hq => by
    rcases hq with hq | hq
    · have := (row1''.lt hq).1; omega
    · have := (row2'.lt hq).1; omega⟩
  simp only [putT] at yR5
  obtain ⟨u0, u1, u2, u3, u4, u5, u6, -, -⟩ := yR5
  have KX : Hid (((Y2.setCell ⟨w.heap.size, 5, none⟩ (.slice a2 t.sets.length c2)).cell? ⟨w.heap.size, 0, none⟩ = some (.int .i64 t.id) ∧ (Y2.setCell ⟨w.heap.size, 5, none⟩ (.slice a2 t.sets.length c2)).cell? ⟨w.heap.size, 1, none⟩ = some (.int .i64 t.home) ∧ (Y2.setCell ⟨w.heap.size, 5, none⟩ (.slice a2 t.sets.length c2)).cell? ⟨w.heap.size, 2, none⟩ = some (.int .i64 t.phase) ∧ (Y2.setCell ⟨w.heap.size, 5, none⟩ (.slice a2 t.sets.length c2)).cell? ⟨w.heap.size, 3, none⟩ = some (.int .i64 t.count) ∧ (Y2.setCell ⟨w.heap.size, 5, none⟩ (.slice a2 t.sets.length c2)).cell? ⟨w.heap.size, 4, none⟩ = some (.slice a1 t.reads.length c1) ∧ (Y2.setCell ⟨w.heap.size, 5, none⟩ (.slice a2 t.sets.length c2)).cell? ⟨w.heap.size, 5, none⟩ = some (.slice a2 t.sets.length c2) ∧ (Y2.setCell ⟨w.heap.size, 5, none⟩ (.slice a2 t.sets.length c2)).cell? ⟨w.heap.size, 6, none⟩ = some (.int .i64 t.stamp)) ∧ BT (Y2.setCell ⟨w.heap.size, 5, none⟩ (.slice a2 t.sets.length c2)) (w.heap.size + 1) ⟨none, 0, none, 0⟩ ⟨0, 0, 0, 0, [], [], 0⟩) := ⟨⟨o0, o1, o2, o3, o4, o5, o6⟩, KR⟩
  have KU := hidOf (And.intro u0 (And.intro u1 (And.intro u2 (And.intro u3 (And.intro u4 (And.intro u5 u6))))))
  have K1 := hidOf (And.intro k4 (And.intro k4f p5))
  have K2 := hidOf (And.intro k5 k5f)
  have R1 := hidOf run1
  have R2 := hidOf run2
  rw [hW1] at hW
  have sW2 : W.heap.size = w.heap.size + 1 + 1 := by omega
  clear sW
  clear hW1 x1 b1 b2 z1 yA yR bW bV1 bY1 row1 gr1 yA1 yR1 yA2 yR2 bX1 row1' bV2 row2 gr2 bY2 yA3 yR3 bX2 row1'' row2' hs1 hlt1 h KO KR o0 o1 o2 o3 o4 o5 o6 u0 u1 u2 u3 u4 u5 u6 k4 k4f p5 k5 k5f run1 run2
  go_enter Try.func39, Try.ntmps39
  have r1 := R1.out
  have r2 := R2.out
  skip
  skip
  rw [hW] at r1
  obtain ⟨k4, k4f, p5⟩ := K1.out
  obtain ⟨k5, k5f⟩ := K2.out
  obtain ⟨⟨o0, o1, o2, o3, o4, o5, o6⟩, ⟨r0, r1', r2', r3, r4, r5, r6, fr, -⟩⟩ := KX.out
  have f0 := fr 0
  have f1 := fr 1
  have f2 := fr 2
  have f3 := fr 3
  have f4 := fr 4
  have f5 := fr 5
  have f6 := fr 6
  clear fr K1 K2 KX R1 R2 hW p4 zX1 sW2
  go_wp2_with (first | (at_builtin; refine append_known _ rfl (.const (.slice none 0 0)) (.tmp 4) 24 rfl _ _ _ _ rfl rfl r1 ?_) | (at_builtin; refine append_known _ rfl (.const (.slice none 0 0)) (.tmp 8) 25 rfl _ _ _ _ rfl rfl r2 ?_))
  obtain ⟨u0, u1, u2, u3, u4, u5, u6⟩ := KU.out
  refine bodyPost_ret (v := .agg #[.int .i64 t.id, .int .i64 t.home, .int .i64 t.phase, .int .i64 t.count, .slice a1 t.reads.length c1, .slice a2 t.sets.length c2, .int .i64 t.stamp]) (by simp [results, Try.results39, go_sem, u0, u1, u2, u3, u4, u5, u6]) rfl ?_
  obtain ⟨ot, bX, q2⟩ := KH.out
  refine ⟨a1, c1, a2, c2, fun q => (Value.slice a1 t.reads.length c1).ownBlock = some q, fun q => (Value.slice a2 t.sets.length c2).ownBlock = some q, rfl, ?_, ?_⟩
  · exact ot.keep (by simp [World.setCell]) (fun q _ hq => putT_block (s := w.heap.size + 1) (v := ⟨a1, c1, a2, c2⟩) (t := t) (by have := q2 q hq; omega))
  · exact putT_below (s := w.heap.size + 1) (v := ⟨a1, c1, a2, c2⟩) (t := t) bX (by omega)
end Go.Proofs.Ytiidlcjjaglkdaa
namespace Go.Proofs.Ytiidlcjjaglkdaa
open Go.RowKit
open Go.Sort (grow)
def readAt (xs : List N5) (r s : Int) : Int := match noW xs r s with | some i => (i : Int) | none => -1
theorem readAt_ge (xs : List N5) (r s : Int) : decide (0 ≤ readAt xs r s) = (noW xs r s).isSome := by
  unfold readAt
  cases noW xs r s <;> simp
theorem noW_found {xs : List N5} {k : Nat} {x : N5} {r s : Int} (h : noW (xs.take k) r s = none) (hx : xs[k]? = some x) (h1 : x.region = r) (h2 : x.slot = s) : noW xs r s = some k := by
  have lk := List.getElem?_eq_some_iff.1 hx
  have l1 := lk.1
  unfold noW at *
  rw [List.findIdx?_eq_some_iff_getElem]
  refine ⟨lk.1, by rw [lk.2]; simp [h1, h2], fun j hj => ?_⟩
  rw [List.findIdx?_eq_none_iff] at h
  have := h xs[j] (List.mem_take_iff_getElem.2 ⟨j, by omega, rfl⟩)
  simp at this ⊢
  exact this
theorem noW_step {xs : List N5} {k : Nat} {x : N5} {r s : Int} (h : noW (xs.take k) r s = none) (hx : xs[k]? = some x) (hn : ¬ (x.region = r ∧ x.slot = s)) : noW (xs.take (k + 1)) r s = none := by
  rw [noW_none] at *
  intro y hy
  rw [List.take_add_one, hx] at hy
  rcases List.mem_append.1 hy with hy | hy
  · exact h y hy
  · simp at hy; subst hy; exact hn
set_option maxHeartbeats 4000000 in
theorem l7Read_any (w : World) (v : TV) (t : T7) (r s : Int) (hl : t.reads.length ≤ 1000) (hs : SlT w v t) :
    Calls Try.prog 49 #[v.val t, .int .i64 r, .int .i64 s] w fun e w' => e = .returned (.int .i64 (readAt t.reads r s)) ∧ Below w.heap.size w w' := by
  obtain ⟨ar, cr, ah, ch⟩ := v
  simp only [TV.val]
  obtain ⟨W, hW⟩ : ∃ W, W = w.alloc (.cells #[.int .i64 t.id, .int .i64 t.home, .int .i64 t.phase, .int .i64 t.count, .slice ar t.reads.length cr, .slice ah t.sets.length ch, .int .i64 t.stamp] 27) := ⟨_, rfl⟩
  have b0 : Below w.heap.size w W := by rw [hW]; exact (Below.refl _ _).alloc (Nat.le_refl _) _
  have x0 : BT W w.heap.size ⟨ar, cr, ah, ch⟩ t := by rw [hW]; exact BT.box w ⟨ar, cr, ah, ch⟩ t _
  have p4 := x0.c4
  dsimp only at p4
  have H : Hid (SlNo W W.heap.size ar t.reads.length t.reads ∧ Below w.heap.size w W) := ⟨(hs.later b0).r, b0⟩
  clear hs b0 x0
  go_enter Try.func49, Try.ntmps49
  go_wp2
  rw [← hW]
  clear hW
  go_loopw [7] (fun v7 wr => ∃ k : Nat, k ≤ t.reads.length ∧ v7 = .int .i64 k ∧ wr = W ∧ noW (t.reads.take k) r s = none) (fun v7 _ => t.reads.length - (intOf v7).toNat)
  case atStart => exact ⟨0, Nat.zero_le _, rfl, rfl, by simp [noW]⟩
  case round =>
    obtain ⟨k, hk, rfl, rfl, hnn⟩ := hrel
    have KN := hidOf hnn
    clear hnn
    by_cases hlt : k < t.reads.length
    · obtain ⟨_, hsk⟩ := H.out.1
      rcases hsk with hsk | ⟨b, off, rfl, hb, hx⟩
      · omega
      obtain ⟨c0, c1, c2, c3, c4⟩ := hx k _ (atNo_of hlt)
      clear hx
      by_cases hg : (atNo t.reads k).region = r
      · have dg : ((atNo t.reads k).region == r) = true := by simpa using hg
        by_cases hg2 : (atNo t.reads k).slot = s
        · have dg2 : ((atNo t.reads k).slot == s) = true := by simpa using hg2
          have HF : Hid (readAt t.reads r s = (k : Int)) := by unfold Hid readAt; rw [noW_found KN.out (atNo_of hlt) hg hg2]
          clear hg hg2
          go_wp2
          go_ret
          exact ⟨by rw [HF.out]; rfl, H.out.2⟩
        · have dg2 : ((atNo t.reads k).slot == s) = false := by simpa using hg2
          have KE : Hid (noW (t.reads.take (k + 1)) r s = none) := noW_step KN.out (atNo_of hlt) (fun h => hg2 h.2)
          clear hg hg2
          go_wp2
          exact ⟨⟨k + 1, by omega, by simp, trivial, KE.out⟩, by simp [intOf]; omega⟩
      · have dg : ((atNo t.reads k).region == r) = false := by simpa using hg
        have KE : Hid (noW (t.reads.take (k + 1)) r s = none) := noW_step KN.out (atNo_of hlt) (fun h => hg h.1)
        clear hg
        go_wp2
        exact ⟨⟨k + 1, by omega, by simp, trivial, KE.out⟩, by simp [intOf]; omega⟩
    · obtain rfl : k = t.reads.length := by omega
      have hd : decide ((t.reads.length : Int) < (t.reads.length : Int)) = false := by simp
      have HF : Hid (readAt t.reads r s = -1) := by unfold Hid readAt; have := KN.out; rw [List.take_length] at this; rw [this]
      go_wp2
      go_ret
      exact ⟨by rw [HF.out]; rfl, H.out.2⟩
def cutN (xs : List N5) (n : N5) : Nat := xs.findIdx fun x => !lessB x.region x.slot n.region n.slot
def insN (xs : List N5) (n : N5) : List N5 := xs.take (cutN xs n) ++ [n] ++ xs.drop (cutN xs n)
def lessAt (xs : List N5) (n : N5) (j : Nat) : Bool := lessB (atNo xs j).region (atNo xs j).slot n.region n.slot
theorem atNo_get {xs : List N5} {i : Nat} (h : i < xs.length) : atNo xs i = xs[i] := by have := atNo_of h; rw [List.getElem?_eq_getElem h] at this; exact (Option.some.inj this).symm
theorem cutN_at {xs : List N5} {n : N5} {k : Nat} (hk : k < xs.length) (h : lessAt xs n k = false) (hall : ∀ j, j < k → lessAt xs n j = true) : cutN xs n = k := by
  unfold cutN
  rw [List.findIdx_eq hk]
  refine ⟨by rw [← atNo_get hk]; simpa [lessAt] using h, fun j hj => ?_⟩
  rw [← atNo_get (by omega)]
  simpa [lessAt] using hall j hj
theorem cutN_all {xs : List N5} {n : N5} (hall : ∀ j, j < xs.length → lessAt xs n j = true) : cutN xs n = xs.length := by
  unfold cutN
  rw [List.findIdx_eq_length]
  intro x hx
  obtain ⟨i, hi, rfl⟩ := List.getElem_of_mem hx
  have := hall i hi
  rw [lessAt, atNo_get hi] at this
  simp [this]
def addN (t : T7) (n : N5) : T7 := if txB t = true ∧ noteOkB n = true then (if (noW t.reads n.region n.slot).isSome = true then t else if t.reads.length = 12 then noT else ⟨t.id, t.home, t.phase, t.count, insN t.reads n, t.sets, t.stamp⟩) else noT
def addNB (t : T7) (n : N5) : Bool := txB t && noteOkB n && ((noW t.reads n.region n.slot).isSome || !decide (t.reads.length = 12))
set_option maxHeartbeats 1000000 in
theorem noFull_any (w : World) (base p mb m : Nat) (v : Value) (xs : List N5) (h : PinB w base p mb m v xs) :
    Calls Try.prog 43 #[.pointer (some ⟨p, 0, none⟩)] w fun e w' => e = .returned (.bool (decide (12 ≤ xs.length))) ∧ w' = w := by
  obtain ⟨a, c, rfl, -⟩ := h.row.form
  have c0 := h.c0
  clear h
  by_cases hl : 12 ≤ xs.length
  · have d1 : decide ((12 : Int) ≤ (xs.length : Int)) = true := by simp; omega
    have d2 : decide (12 ≤ xs.length) = true := by simpa using hl
    rw [d2]
    clear hl d2
    go_enter Try.func43, Try.ntmps43
    go_wp2
    go_ret
    exact ⟨rfl, rfl⟩
  · have d1 : decide ((12 : Int) ≤ (xs.length : Int)) = false := by simp; omega
    have d2 : decide (12 ≤ xs.length) = false := by simpa using hl
    rw [d2]
    clear hl d2
    go_enter Try.func43, Try.ntmps43
    go_wp2
    go_ret
    exact ⟨rfl, rfl⟩
def cutSe (xs : List S5) (n : S5) : Nat := xs.findIdx fun x => !lessB x.region x.slot n.region n.slot
def insSe (xs : List S5) (n : S5) : List S5 := xs.take (cutSe xs n) ++ [n] ++ xs.drop (cutSe xs n)
def lessSe (xs : List S5) (n : S5) (j : Nat) : Bool := lessB (atSe xs j).region (atSe xs j).slot n.region n.slot
theorem atSe_get {xs : List S5} {i : Nat} (h : i < xs.length) : atSe xs i = xs[i] := by have := atSe_of h; rw [List.getElem?_eq_getElem h] at this; exact (Option.some.inj this).symm
theorem cutSe_at {xs : List S5} {n : S5} {k : Nat} (hk : k < xs.length) (h : lessSe xs n k = false) (hall : ∀ j, j < k → lessSe xs n j = true) : cutSe xs n = k := by
  unfold cutSe
  rw [List.findIdx_eq hk]
  refine ⟨by rw [← atSe_get hk]; simpa [lessSe] using h, fun j hj => ?_⟩
  rw [← atSe_get (by omega)]
  simpa [lessSe] using hall j hj
theorem cutSe_all {xs : List S5} {n : S5} (hall : ∀ j, j < xs.length → lessSe xs n j = true) : cutSe xs n = xs.length := by
  unfold cutSe
  rw [List.findIdx_eq_length]
  intro x hx
  obtain ⟨i, hi, rfl⟩ := List.getElem_of_mem hx
  have := hall i hi
  rw [lessSe, atSe_get hi] at this
  simp [this]
def verS (s : S5) (v : Int) : S5 := ⟨s.region, s.slot, s.value, s.used, v⟩
def ovSe (xs : List S5) (i : Nat) (s : S5) : List S5 := xs.set i (verS s (atSe xs i).version)
def addSe (t : T7) (s : S5) : T7 := if txB t = true ∧ setOkB s = true then (match seW t.sets s.region s.slot with | some i => ⟨t.id, t.home, t.phase, t.count, t.reads, ovSe t.sets i s, t.stamp⟩ | none => if t.sets.length = 12 then noT else ⟨t.id, t.home, t.phase, t.count, t.reads, insSe t.sets s, t.stamp⟩) else noT
def addSB (t : T7) (s : S5) : Bool := txB t && setOkB s && ((seW t.sets s.region s.slot).isSome || !decide (t.sets.length = 12))
theorem seW_at {xs : List S5} {r s : Int} {i : Nat} (h : seW xs r s = some i) : i < xs.length ∧ (atSe xs i).region = r ∧ (atSe xs i).slot = s := by
  unfold seW at h
  rw [List.findIdx?_eq_some_iff_getElem] at h
  obtain ⟨hi, hp, _⟩ := h
  refine ⟨hi, ?_⟩
  rw [atSe_get hi]
  simpa using hp
theorem ovSe_len (xs : List S5) (i : Nat) (s : S5) : (ovSe xs i s).length = xs.length := by simp [ovSe]
theorem ovSe_at {xs : List S5} {i : Nat} {s : S5} (j : Nat) (h : i < xs.length) : (ovSe xs i s)[j]? = if i = j then some (verS s (atSe xs i).version) else xs[j]? := by
  unfold ovSe
  rw [List.getElem?_set]
  by_cases e : i = j
  · subst e; simp [h]
  · simp [e]
theorem ovSe_R {xs : List S5} {s : S5} {i : Nat} (h : seW xs s.region s.slot = some i) : (ovSe xs i s).map seR = xs.map seR := by
  obtain ⟨hi, h1, h2⟩ := seW_at h
  apply List.ext_getElem?
  intro j
  rw [List.getElem?_map, List.getElem?_map, ovSe_at j hi]
  by_cases e : i = j
  · subst e
    have h3 : seR (verS s (atSe xs i).version) = seR xs[i] := by
      rw [← atSe_get hi]
      unfold seR verS
      rw [h1, h2]
    rw [if_pos rfl, List.getElem?_eq_getElem hi, Option.map_some, Option.map_some, h3]
  · rw [if_neg e]
theorem ovSe_up {xs : List S5} {s : S5} {i : Nat} (hu : seUp2 xs) (h : seW xs s.region s.slot = some i) : (ovSe xs i s).Pairwise (fun a b => seR a < seR b) := by
  have h1 : ((ovSe xs i s).map seR).Pairwise (· < ·) := by rw [ovSe_R h, List.pairwise_map]; exact hu
  rwa [List.pairwise_map] at h1
theorem ovSe_ok {xs : List S5} {s : S5} {i : Nat} (hok : ∀ s ∈ xs, setOkB s = true) (hs : setOkB s = true) (h : seW xs s.region s.slot = some i) : setOkB (verS s (atSe xs i).version) = true := by
  obtain ⟨hi, -, -⟩ := seW_at h
  have h1 := hok _ (List.getElem_mem hi)
  rw [← atSe_get hi] at h1
  simp only [setOkB, verS, Bool.and_eq_true] at h1 hs ⊢
  exact ⟨hs.1, h1.2⟩
theorem seUp2_hp {xs : List S5} (h : seUp2 xs) : HeapP.Hp (seK xs) xs.length := fun i h0 hn => by
  have e1 : xs[(i - 1) / 2]? = some xs[(i - 1) / 2] := List.getElem?_eq_getElem (by omega)
  have e2 : xs[i]? = some xs[i] := List.getElem?_eq_getElem hn
  rw [seK_R e1, seK_R e2]
  exact Int.le_of_lt (seUp2_at h e1 e2 (by omega))
theorem OwnSe.put5 {W : World} {P : Nat → Prop} {b : Nat} {xs : List S5} {i : Nat} (hb : P b) (hl : b < W.heap.size) (ha : SetsAt W b 0 xs) (hr : Room W b (xs.length * 5)) (hi : i < xs.length) (y : S5) : OwnSe ((((((W).setCell ⟨b, i * 5, none⟩ (.int .i64 y.region)).setCell ⟨b, i * 5 + 1, none⟩ (.int .i64 y.slot)).setCell ⟨b, i * 5 + 2, none⟩ (.int .i64 y.value)).setCell ⟨b, i * 5 + 3, none⟩ (.bool y.used)).setCell ⟨b, i * 5 + 4, none⟩ (.int .i64 y.version)) P (some ⟨b, 0, none⟩) (xs.set i y) := by
  obtain ⟨v0, d0, _⟩ := hr (i * 5) (by omega)
  obtain ⟨v1, d1, _⟩ := hr (i * 5 + 1) (by omega)
  obtain ⟨v2, d2, _⟩ := hr (i * 5 + 2) (by omega)
  obtain ⟨v3, d3, _⟩ := hr (i * 5 + 3) (by omega)
  obtain ⟨v4, d4, _⟩ := hr (i * 5 + 4) (by omega)
  refine .inr ⟨b, rfl, hb, by simpa [World.setCell] using hl, fun k s hk => ?_, by rw [List.length_set]; exact ((((hr.set _).set _).set _).set _).set _⟩
  rw [Nat.zero_add]
  by_cases e : i = k
  · subst e
    rw [List.getElem?_set_self hi] at hk
    obtain rfl := Option.some.inj hk
    exact SetAt.put y d0 d1 d2 d3 d4
  · rw [List.getElem?_set_ne e] at hk
    have := ha k s hk
    rw [Nat.zero_add] at this
    exact ((((this.set (by omega) _).set (by omega) _).set (by omega) _).set (by omega) _).set (by omega) _
set_option maxHeartbeats 1000000 in
theorem seFull_any (w : World) (base p mb m : Nat) (v : Value) (xs : List S5) (h : PisB w base p mb m v xs) :
    Calls Try.prog 58 #[.pointer (some ⟨p, 0, none⟩)] w fun e w' => e = .returned (.bool (decide (12 ≤ xs.length))) ∧ w' = w := by
  obtain ⟨a, c, rfl, -⟩ := h.row.form
  have c0 := h.c0
  clear h
  by_cases hl : 12 ≤ xs.length
  · have d1 : decide ((12 : Int) ≤ (xs.length : Int)) = true := by simp; omega
    have d2 : decide (12 ≤ xs.length) = true := by simpa using hl
    rw [d2]
    clear hl d2
    go_enter Try.func58, Try.ntmps58
    go_wp2
    go_ret
    exact ⟨rfl, rfl⟩
  · have d1 : decide ((12 : Int) ≤ (xs.length : Int)) = false := by simp; omega
    have d2 : decide (12 ≤ xs.length) = false := by simpa using hl
    rw [d2]
    clear hl d2
    go_enter Try.func58, Try.ntmps58
    go_wp2
    go_ret
    exact ⟨rfl, rfl⟩
end Go.Proofs.Ytiidlcjjaglkdaa
namespace Go.Proofs.Ytiidlcjjaglkdaa
open Go.RowKit
theorem Turned.putT {c b : Nat} {a X : World} (h : Turned c a X) (hb : a.heap.size ≤ b) (v : TV) (t : T7) : Turned c a (putT X b v t) := ((((((h.put hb _ _).put hb _ _).put hb _ _).put hb _ _).put hb _ _).put hb _ _).put hb _ _
theorem Cur.putT {X : World} {c b : Nat} {a : Option Addr} {n k : Nat} (h : Cur X c a n k) (hb : b ≠ c) (v : TV) (t : T7) : Cur (putT X b v t) c a n k := ((((((h.put hb _ _).put hb _ _).put hb _ _).put hb _ _).put hb _ _).put hb _ _).put hb _ _
theorem TR.re {X : World} {B : Nat} {v : TV} {t t' : T7} {PR PS : Nat → Prop} (h : TR X B v t PR PS) (h1 : t'.reads = t.reads) (h2 : t'.sets = t.sets) : TR X B v t' PR PS := by
  obtain ⟨⟨r, s, rs, rB, sB⟩, cr, cs, pr, ps⟩ := h
  refine ⟨⟨?_, ?_, rs, rB, sB⟩, ?_, ?_, ?_, ?_⟩ <;> first | rw [h1]; assumption | rw [h2]; assumption
structure TI (w : World) (c Q : Nat) (a : Option Addr) (n k : Nat) (v : TV) (t : T7) (PR PS : Nat → Prop) (X : World) : Prop where
  z : BT X w.heap.size ⟨none, 0, none, 0⟩ noT
  q : BT X Q v t
  tr : TR X (w.heap.size + 1) v t PR PS
  qp : ¬ OfT PR PS Q
  cu : Cur X c a n k
  tu : Turned c w X
  lq : w.heap.size < Q ∧ c < w.heap.size
theorem TI.step {w : World} {c Q : Nat} {a : Option Addr} {n k : Nat} {v : TV} {t : T7} {PR PS : Nat → Prop} {X : World} {Y : World} (h : TI w c Q a n k v t PR PS X) (hc : Cur Y c a n k) (ht : Turned c X Y) : TI w c Q a n k v t PR PS Y := by
  obtain ⟨l1, l2⟩ := h.lq
  exact ⟨h.z.of_block (ht.block _ h.z.lt (by omega)) ht.size, h.q.of_block (ht.block _ h.q.lt (by omega)) ht.size, h.tr.keep ht.size (fun q hq hp => ht.block q hq (by have := (h.tr.of hp).1; omega)), h.qp, hc, h.tu.trans ht, h.lq⟩
theorem Cur.later {X Y : World} {c : Nat} {a : Option Addr} {n k : Nat} (h : Cur X c a n k) (hb : Below X.heap.size X Y) : Cur Y c a n k := h.turned (c' := X.heap.size) ((Turned.refl _ _).of_below hb) (by have := h.lt; omega)
theorem TI.later {w : World} {c Q : Nat} {a : Option Addr} {n k : Nat} {v : TV} {t : T7} {PR PS : Nat → Prop} {X : World} {Y : World} (h : TI w c Q a n k v t PR PS X) (hb : Below X.heap.size X Y) : TI w c Q a n k v t PR PS Y := h.step (h.cu.later hb) ((Turned.refl _ _).of_below hb)
theorem TI.putFar {w : World} {c Q : Nat} {a : Option Addr} {n k : Nat} {v : TV} {t : T7} {PR PS : Nat → Prop} {X : World} (h : TI w c Q a n k v t PR PS X) {b : Nat} (h1 : w.heap.size < b) (h2 : b ≠ Q) (h3 : ¬ OfT PR PS b) (v' : TV) (t' : T7) : TI w c Q a n k v t PR PS (putT X b v' t') := by
  obtain ⟨l1, l2⟩ := h.lq
  have hs := putT_size X b v' t'
  exact ⟨h.z.of_block (putT_block (by omega)) (by omega), h.q.of_block (putT_block (by omega)) (by omega), h.tr.keep (by omega) (fun q hq hp => putT_block (by rintro rfl; exact h3 hp)), h.qp, h.cu.putT (by omega) _ _, h.tu.putT (by omega) _ _, h.lq⟩
theorem TI.take {w : World} {c Q : Nat} {a : Option Addr} {n k : Nat} {v : TV} {t : T7} {PR PS : Nat → Prop} {X : World} (h : TI w c Q a n k v t PR PS X) {v' : TV} {t' : T7} {PR' PS' : Nat → Prop} (tr : TR X (w.heap.size + 1) v' t' PR' PS') (hq : ¬ OfT PR' PS' Q) : TI w c Q a n k v' t' PR' PS' (putT X Q v' t') := by
  obtain ⟨l1, l2⟩ := h.lq
  have hs := putT_size X Q v' t'
  exact ⟨h.z.of_block (putT_block (by omega)) (by omega), h.q.put v' t', tr.keep (by omega) (fun q hq' hp => putT_block (by rintro rfl; exact hq hp)), hq, h.cu.putT (by omega) _ _, h.tu.putT (by omega) _ _, h.lq⟩
theorem TI.cell {w : World} {c Q : Nat} {a : Option Addr} {n k : Nat} {v : TV} {t : T7} {PR PS : Nat → Prop} {X : World} (h : TI w c Q a n k v t PR PS X) {j : Nat} {u : Value} {v' : TV} {t' : T7} (hq : BT (X.setCell ⟨Q, j, none⟩ u) Q v' t') {PR' PS' : Nat → Prop} (tr : TR X (w.heap.size + 1) v' t' PR' PS') (hp : ¬ OfT PR' PS' Q) : TI w c Q a n k v' t' PR' PS' (X.setCell ⟨Q, j, none⟩ u) := by
  obtain ⟨l1, l2⟩ := h.lq
  have hs : (X.setCell ⟨Q, j, none⟩ u).heap.size = X.heap.size := by simp [World.setCell]
  exact ⟨h.z.of_block (Below.heap_setCell _ _ _ _ (by show w.heap.size ≠ Q; omega)) (by omega), hq, tr.keep (by omega) (fun q _ hp' => Below.heap_setCell _ _ _ _ (by show q ≠ Q; rintro rfl; exact hp hp')), hp, h.cu.put (by omega) _ _, h.tu.put (by omega) _ _, h.lq⟩
theorem TI.set0 {w : World} {c Q : Nat} {a : Option Addr} {n k : Nat} {v : TV} {t : T7} {PR PS : Nat → Prop} {X : World} (h : TI w c Q a n k v t PR PS X) (z : Int) : TI w c Q a n k v ⟨z, t.home, t.phase, t.count, t.reads, t.sets, t.stamp⟩ PR PS (X.setCell ⟨Q, 0, none⟩ (.int .i64 z)) := h.cell (h.q.set0 z) (h.tr.re rfl rfl) h.qp
theorem TI.set1 {w : World} {c Q : Nat} {a : Option Addr} {n k : Nat} {v : TV} {t : T7} {PR PS : Nat → Prop} {X : World} (h : TI w c Q a n k v t PR PS X) (z : Int) : TI w c Q a n k v ⟨t.id, z, t.phase, t.count, t.reads, t.sets, t.stamp⟩ PR PS (X.setCell ⟨Q, 1, none⟩ (.int .i64 z)) := h.cell (h.q.set1 z) (h.tr.re rfl rfl) h.qp
theorem TI.set2 {w : World} {c Q : Nat} {a : Option Addr} {n k : Nat} {v : TV} {t : T7} {PR PS : Nat → Prop} {X : World} (h : TI w c Q a n k v t PR PS X) (z : Int) : TI w c Q a n k v ⟨t.id, t.home, z, t.count, t.reads, t.sets, t.stamp⟩ PR PS (X.setCell ⟨Q, 2, none⟩ (.int .i64 z)) := h.cell (h.q.set2 z) (h.tr.re rfl rfl) h.qp
theorem TI.set3 {w : World} {c Q : Nat} {a : Option Addr} {n k : Nat} {v : TV} {t : T7} {PR PS : Nat → Prop} {X : World} (h : TI w c Q a n k v t PR PS X) (z : Int) : TI w c Q a n k v ⟨t.id, t.home, t.phase, z, t.reads, t.sets, t.stamp⟩ PR PS (X.setCell ⟨Q, 3, none⟩ (.int .i64 z)) := h.cell (h.q.set3 z) (h.tr.re rfl rfl) h.qp
theorem TI.set6 {w : World} {c Q : Nat} {a : Option Addr} {n k : Nat} {v : TV} {t : T7} {PR PS : Nat → Prop} {X : World} (h : TI w c Q a n k v t PR PS X) (z : Int) : TI w c Q a n k v ⟨t.id, t.home, t.phase, t.count, t.reads, t.sets, z⟩ PR PS (X.setCell ⟨Q, 6, none⟩ (.int .i64 z)) := h.cell (h.q.set6 z) (h.tr.re rfl rfl) h.qp
theorem Cur.grown {X Y : World} {c : Nat} {a : Option Addr} {n k : Nat} {r : Option Nat} (h : Cur X c a n k) (hg : X.grownBy Y r) (hr : r ≠ some c) : Cur Y c a n k := by
  obtain ⟨j, u, q1, q2, q3, q4, q5, q6, q7⟩ := h
  have hb := hg.block c q1 (fun e => hr e.symm)
  exact ⟨j, u, Nat.lt_of_lt_of_le q1 hg.size, q2, (World.cell?_of_block (a := ⟨c, 0, none⟩) hb).trans q3, (World.cell?_of_block (a := ⟨c, 1, none⟩) hb).trans q4, (World.cell?_of_block (a := ⟨c, 2, none⟩) hb).trans q5, (World.frozen?_of_block (a := ⟨c, 1, none⟩) hb).trans q6, (World.frozen?_of_block (a := ⟨c, 2, none⟩) hb).trans q7⟩
theorem TI.putR {w : World} {c Q : Nat} {a : Option Addr} {n k : Nat} {v : TV} {t : T7} {PR PS : Nat → Prop} {X : World} (h : TI w c Q a n k v t PR PS X) {Y : World} {r : Option Nat} {xs : List N5} {a' : Option Addr} {c' : Nat} (hg : X.grownBy Y r) (hr : ∀ q, r = some q → PR q) (row : RowN Y (w.heap.size + 1) (.slice a' xs.length c') xs) (hl : ∀ q, (Value.slice a' xs.length c').ownBlock = some q → PR q ∨ X.heap.size ≤ q) :
    TI w c Q a n k ⟨a', c', v.ah, v.ch⟩ ⟨t.id, t.home, t.phase, t.count, xs, t.sets, t.stamp⟩ (fun q => (Value.slice a' xs.length c').ownBlock = some q) PS (Y.setCell ⟨Q, 4, none⟩ (.slice a' xs.length c')) := by
  obtain ⟨l1, l2⟩ := h.lq
  have lQ := h.q.lt
  have low : ∀ q, r = some q → w.heap.size + 1 ≤ q ∧ q ≠ Q := fun q e => ⟨(h.tr.of (.inl (hr q e))).1, fun e' => h.qp (e' ▸ .inl (hr q e))⟩
  have zY := h.z.of_block (hg.block _ h.z.lt (fun e => by have := (low _ e.symm).1; omega)) hg.size
  have qY := h.q.of_block (hg.block _ h.q.lt (fun e => (low _ e.symm).2 rfl)) hg.size
  have cY := h.cu.grown hg (fun e => by have := (low _ e).1; omega)
  have tY : Turned c w Y := h.tu.grown hg (fun q e => by have := (low q e).1; omega)
  have kS : ∀ q, PS q → Y.heap[q]? = X.heap[q]? := fun q hq => hg.block q (h.tr.of (.inr hq)).2 (fun e => h.tr.ot.rs q (hr q e.symm) hq)
  obtain ⟨a1, c1, e1, ow⟩ := row.form
  injection e1 with e1 _ _
  subst e1
  have tr : TR Y (w.heap.size + 1) ⟨a', c', v.ah, v.ch⟩ ⟨t.id, t.home, t.phase, t.count, xs, t.sets, t.stamp⟩ (fun q => (Value.slice a' xs.length c').ownBlock = some q) PS := by
    refine ⟨⟨ow, h.tr.ot.s.keep hg.size (fun q _ hq => kS q hq), fun q h1 h2 => ?_, fun q e => row.lt e, fun q hq => ⟨(h.tr.ot.sB q hq).1, Nat.lt_of_lt_of_le (h.tr.ot.sB q hq).2 hg.size⟩⟩, row, h.tr.cs.keep (fun q _ _ e => kS q (h.tr.ps q e)), fun q e => e, h.tr.ps⟩
    rcases hl q h1 with h3 | h3
    · exact h.tr.ot.rs q h3 h2
    · have := (h.tr.ot.sB q h2).2; omega
  have qp : ¬ OfT (fun q => (Value.slice a' xs.length c').ownBlock = some q) PS Q := by
    rintro (h1 | h1)
    · rcases hl Q h1 with h3 | h3
      · exact h.qp (.inl h3)
      · omega
    · exact h.qp (.inr h1)
  have hs : (Y.setCell ⟨Q, 4, none⟩ (.slice a' xs.length c')).heap.size = Y.heap.size := by simp [World.setCell]
  exact ⟨zY.of_block (Below.heap_setCell _ _ _ _ (by show w.heap.size ≠ Q; omega)) (by omega), qY.set4 a' c' xs, tr.keep (by omega) (fun q _ hp' => Below.heap_setCell _ _ _ _ (by show q ≠ Q; rintro rfl; exact qp hp')), qp, cY.put (by omega) _ _, tY.put (by omega) _ _, h.lq⟩
theorem TI.putS {w : World} {c Q : Nat} {a : Option Addr} {n k : Nat} {v : TV} {t : T7} {PR PS : Nat → Prop} {X : World} (h : TI w c Q a n k v t PR PS X) {Y : World} {r : Option Nat} {xs : List S5} {a' : Option Addr} {c' : Nat} (hg : X.grownBy Y r) (hr : ∀ q, r = some q → PS q) (row : RowS Y (w.heap.size + 1) (.slice a' xs.length c') xs) (hl : ∀ q, (Value.slice a' xs.length c').ownBlock = some q → PS q ∨ X.heap.size ≤ q) :
    TI w c Q a n k ⟨v.ar, v.cr, a', c'⟩ ⟨t.id, t.home, t.phase, t.count, t.reads, xs, t.stamp⟩ PR (fun q => (Value.slice a' xs.length c').ownBlock = some q) (Y.setCell ⟨Q, 5, none⟩ (.slice a' xs.length c')) := by
  obtain ⟨l1, l2⟩ := h.lq
  have lQ := h.q.lt
  have low : ∀ q, r = some q → w.heap.size + 1 ≤ q ∧ q ≠ Q := fun q e => ⟨(h.tr.of (.inr (hr q e))).1, fun e' => h.qp (e' ▸ .inr (hr q e))⟩
  have zY := h.z.of_block (hg.block _ h.z.lt (fun e => by have := (low _ e.symm).1; omega)) hg.size
  have qY := h.q.of_block (hg.block _ h.q.lt (fun e => (low _ e.symm).2 rfl)) hg.size
  have cY := h.cu.grown hg (fun e => by have := (low _ e).1; omega)
  have tY : Turned c w Y := h.tu.grown hg (fun q e => by have := (low q e).1; omega)
  have kS : ∀ q, PR q → Y.heap[q]? = X.heap[q]? := fun q hq => hg.block q (h.tr.of (.inl hq)).2 (fun e => h.tr.ot.rs q hq (hr q e.symm))
  obtain ⟨a1, c1, e1, ow⟩ := row.form
  injection e1 with e1 _ _
  subst e1
  have tr : TR Y (w.heap.size + 1) ⟨v.ar, v.cr, a', c'⟩ ⟨t.id, t.home, t.phase, t.count, t.reads, xs, t.stamp⟩ PR (fun q => (Value.slice a' xs.length c').ownBlock = some q) := by
    refine ⟨⟨h.tr.ot.r.keep hg.size (fun q _ hq => kS q hq), ow, fun q h2 h1 => ?_, fun q hq => ⟨(h.tr.ot.rB q hq).1, Nat.lt_of_lt_of_le (h.tr.ot.rB q hq).2 hg.size⟩, fun q e => row.lt e⟩, h.tr.cr.keep (fun q _ _ e => kS q (h.tr.pr q e)), row, h.tr.pr, fun q e => e⟩
    rcases hl q h1 with h3 | h3
    · exact h.tr.ot.rs q h2 h3
    · have := (h.tr.ot.rB q h2).2; omega
  have qp : ¬ OfT PR (fun q => (Value.slice a' xs.length c').ownBlock = some q) Q := by
    rintro (h1 | h1)
    · exact h.qp (.inl h1)
    · rcases hl Q h1 with h3 | h3
      · exact h.qp (.inr h3)
      · omega
  have hs : (Y.setCell ⟨Q, 5, none⟩ (.slice a' xs.length c')).heap.size = Y.heap.size := by simp [World.setCell]
  exact ⟨zY.of_block (Below.heap_setCell _ _ _ _ (by show w.heap.size ≠ Q; omega)) (by omega), qY.set5 a' c' xs, tr.keep (by omega) (fun q _ hp' => Below.heap_setCell _ _ _ _ (by show q ≠ Q; rintro rfl; exact qp hp')), qp, cY.put (by omega) _ _, tY.put (by omega) _ _, h.lq⟩
theorem lies_or {P : Nat → Prop} {v v' : Value} {m : Nat} (hl : v'.ownBlock = v.ownBlock ∨ v'.ownBlock = some m) (hp : ∀ q, v.ownBlock = some q → P q) : ∀ q, v'.ownBlock = some q → P q ∨ m ≤ q := fun q e => by
  rcases hl with h | h
  · exact .inl (hp q (h.symm.trans e))
  · rw [e] at h
    injection h with h
    exact .inr (by omega)
def TX (w : World) (c Q : Nat) (a : Option Addr) (n k N : Nat) (X : World) : Prop := ∃ (v : TV) (t : T7) (PR PS : Nat → Prop), TI w c Q a n k v t PR PS X ∧ t.reads.length ≤ N ∧ t.sets.length ≤ N
theorem TX.step {w : World} {c Q : Nat} {a : Option Addr} {n k N : Nat} {X Y : World} (h : TX w c Q a n k N X) (hc : Cur Y c a n k) (ht : Turned c X Y) : TX w c Q a n k N Y := by
  obtain ⟨v, t, PR, PS, h1, h2, h3⟩ := h
  exact ⟨v, t, PR, PS, h1.step hc ht, h2, h3⟩
theorem TX.mono {w : World} {c Q : Nat} {a : Option Addr} {n k N M : Nat} {X : World} (h : TX w c Q a n k N X) (hm : N ≤ M) : TX w c Q a n k M X := by
  obtain ⟨v, t, PR, PS, h1, h2, h3⟩ := h
  exact ⟨v, t, PR, PS, h1, by omega, by omega⟩
theorem TX.cu {w : World} {c Q : Nat} {a : Option Addr} {n k N : Nat} {X : World} (h : TX w c Q a n k N X) : Cur X c a n k ∧ Turned c w X := by
  obtain ⟨v, t, PR, PS, h1, h2, h3⟩ := h
  exact ⟨h1.cu, h1.tu⟩
theorem TX.fld {w : World} {c Q : Nat} {a : Option Addr} {n k N : Nat} {X : World} (h : TX w c Q a n k N X) (j : Nat) (hj : j ≤ 3 ∨ j = 6) : ∃ z0 : Int, X.cell? ⟨Q, j, none⟩ = some (.int .i64 z0) ∧ X.frozen? ⟨Q, j, none⟩ = false ∧ ∀ z : Int, TX w c Q a n k N (X.setCell ⟨Q, j, none⟩ (.int .i64 z)) := by
  obtain ⟨v, t, PR, PS, h1, h2, h3⟩ := h
  obtain rfl | rfl | rfl | rfl | rfl : j = 0 ∨ j = 1 ∨ j = 2 ∨ j = 3 ∨ j = 6 := by omega
  · exact ⟨_, h1.q.c0, h1.q.fz 0, fun z => ⟨_, _, _, _, h1.set0 z, h2, h3⟩⟩
  · exact ⟨_, h1.q.c1, h1.q.fz 1, fun z => ⟨_, _, _, _, h1.set1 z, h2, h3⟩⟩
  · exact ⟨_, h1.q.c2, h1.q.fz 2, fun z => ⟨_, _, _, _, h1.set2 z, h2, h3⟩⟩
  · exact ⟨_, h1.q.c3, h1.q.fz 3, fun z => ⟨_, _, _, _, h1.set3 z, h2, h3⟩⟩
  · exact ⟨_, h1.q.c6, h1.q.fz 6, fun z => ⟨_, _, _, _, h1.set6 z, h2, h3⟩⟩
theorem TX.later {w : World} {c Q : Nat} {a : Option Addr} {n k N : Nat} {X Y : World} (h : TX w c Q a n k N X) (hb : Below X.heap.size X Y) : TX w c Q a n k N Y := by
  obtain ⟨v, t, PR, PS, h1, h2, h3⟩ := h
  exact ⟨v, t, PR, PS, h1.later hb, h2, h3⟩
theorem TX.emptyR {w : World} {c Q : Nat} {a : Option Addr} {n k N : Nat} {X : World} (h : TX w c Q a n k N X) : ∃ (a0 : Option Addr) (m0 c0 : Nat), (X.alloc (.cells #[] 29)).cell? ⟨Q, 4, none⟩ = some (.slice a0 m0 c0) ∧ (X.alloc (.cells #[] 29)).frozen? ⟨Q, 4, none⟩ = false ∧ TX w c Q a n k N ((X.alloc (.cells #[] 29)).setCell ⟨Q, 4, none⟩ (.slice (some ⟨X.heap.size, 0, none⟩) 0 0)) := by
  obtain ⟨v, t, PR, PS, h1, h2, h3⟩ := h
  have bV : Below X.heap.size X (X.alloc (.cells #[] 29)) := (Below.refl _ _).alloc (Nat.le_refl _) _
  refine ⟨_, _, _, (h1.later bV).q.c4, (h1.later bV).q.fz 4, ⟨_, _, _, _, h1.putR (r := none) (xs := []) ⟨bV.os, bV.tape, bV.output, bV.size, fun x hx _ => bV.block x hx⟩ (fun q e => by cases e) (row_low (RowN.made X) (fun q e => by have : X.heap.size = q := Option.some.inj e; have := h1.z.lt; omega)) (fun q e => by have : X.heap.size = q := Option.some.inj e; exact .inr (by omega)), by simp, h3⟩⟩
theorem TX.emptyS {w : World} {c Q : Nat} {a : Option Addr} {n k N : Nat} {X : World} (h : TX w c Q a n k N X) : ∃ (a0 : Option Addr) (m0 c0 : Nat), (X.alloc (.cells #[] 36)).cell? ⟨Q, 5, none⟩ = some (.slice a0 m0 c0) ∧ (X.alloc (.cells #[] 36)).frozen? ⟨Q, 5, none⟩ = false ∧ TX w c Q a n k N ((X.alloc (.cells #[] 36)).setCell ⟨Q, 5, none⟩ (.slice (some ⟨X.heap.size, 0, none⟩) 0 0)) := by
  obtain ⟨v, t, PR, PS, h1, h2, h3⟩ := h
  have bV : Below X.heap.size X (X.alloc (.cells #[] 36)) := (Below.refl _ _).alloc (Nat.le_refl _) _
  refine ⟨_, _, _, (h1.later bV).q.c5, (h1.later bV).q.fz 5, ⟨_, _, _, _, h1.putS (r := none) (xs := []) ⟨bV.os, bV.tape, bV.output, bV.size, fun x hx _ => bV.block x hx⟩ (fun q e => by cases e) (row_low (RowS.made X) (fun q e => by have : X.heap.size = q := Option.some.inj e; have := h1.z.lt; omega)) (fun q e => by have : X.heap.size = q := Option.some.inj e; exact .inr (by omega)), h2, by simp⟩⟩
theorem insN_len' (xs : List N5) (x : N5) : (insN xs x).length ≤ xs.length + 1 := by simp only [insN, List.length_append, List.length_take, List.length_drop, List.length_cons, List.length_nil]; omega
theorem insSe_len' (xs : List S5) (x : S5) : (insSe xs x).length ≤ xs.length + 1 := by simp only [insSe, List.length_append, List.length_take, List.length_drop, List.length_cons, List.length_nil]; omega
theorem addN_len (t : T7) (x : N5) : (addN t x).reads.length ≤ t.reads.length + 1 ∧ (addN t x).sets.length ≤ t.sets.length := by
  unfold addN
  split
  · split
    · exact ⟨by omega, Nat.le_refl _⟩
    · split
      · exact ⟨by simp [noT], by simp [noT]⟩
      · exact ⟨insN_len' _ _, Nat.le_refl _⟩
  · exact ⟨by simp [noT], by simp [noT]⟩
theorem addSe_len (t : T7) (x : S5) : (addSe t x).reads.length ≤ t.reads.length ∧ (addSe t x).sets.length ≤ t.sets.length + 1 := by
  unfold addSe
  split
  · split
    · exact ⟨Nat.le_refl _, by simp only [ovSe_len]; omega⟩
    · split
      · exact ⟨by simp [noT], by simp [noT]⟩
      · exact ⟨Nat.le_refl _, insSe_len' _ _⟩
  · exact ⟨by simp [noT], by simp [noT]⟩
def DrawnX (w : World) (c : Nat) (a : Option Addr) (n k : Nat) (e : Ending) (w' : World) : Prop :=
  ∃ (v : TV) (t : T7), e = .returned (v.val t) ∧ (∀ Y, w'.heap.size ≤ Y.heap.size → (∀ q, w.heap.size < q → q < w'.heap.size → Y.heap[q]? = w'.heap[q]?) → SlT Y v t) ∧ t.reads.length ≤ 100 ∧ t.sets.length ≤ 100 ∧ t.reads.length ≤ v.cr ∧ t.sets.length ≤ v.ch ∧ Cur w' c a n k ∧ Turned c w w'
theorem row_cap {W : World} {base : Nat} {T : TypeId} {sz : Nat} {a : Option Addr} {n m c : Nat} {xs : List Value} (h : W.ownsRow base T sz (.slice a n c) m xs) : m ≤ c := by
  rcases h.2 with ⟨h0, h1⟩ | ⟨q', cap', cur, h0, _, _, hc, _⟩
  · rw [h1]; exact Nat.zero_le _
  · cases h0; exact hc
theorem TI.fin {w : World} {c Q : Nat} {a : Option Addr} {n k : Nat} {v : TV} {t : T7} {PR PS : Nat → Prop} {X : World} (h : TI w c Q a n k v t PR PS X) (h1 : t.reads.length ≤ 100) (h2 : t.sets.length ≤ 100) : DrawnX w c a n k (.returned (v.val t)) (putT X w.heap.size v t) := by
  obtain ⟨l1, l2⟩ := h.lq
  have hs := putT_size X w.heap.size v t
  refine ⟨v, t, rfl, fun Y hY hk => ?_, h1, h2, row_cap h.tr.cr, row_cap h.tr.cs, h.cu.putT (by omega) _ _, h.tu.putT (Nat.le_refl _) _ _⟩
  exact (h.tr.keep (by omega) (fun q hq hp => (hk q (by have := (h.tr.of hp).1; omega) (by omega)).trans (putT_block (by have := (h.tr.of hp).1; omega)))).sl
set_option maxRecDepth 100000 in
set_option maxHeartbeats 8000000 in
theorem l7Copy_anyR (w : World) (v : TV) (t : T7) (hr : t.reads.length ≤ 1048576) (hss : t.sets.length ≤ 1048576) (h : SlT w v t) :
    Calls Try.prog 48 #[v.val t] w (OAnsR w t) := by
  obtain ⟨ar, cr, ah, ch⟩ := v
  simp only [TV.val]
  obtain ⟨W1, hW1⟩ : ∃ W1, W1 = w.alloc (.cells #[.int .i64 t.id, .int .i64 t.home, .int .i64 t.phase, .int .i64 t.count, .slice ar t.reads.length cr, .slice ah t.sets.length ch, .int .i64 t.stamp] 27) := ⟨_, rfl⟩
  have z1 : W1.heap.size = w.heap.size + 1 := by rw [hW1]; simp
  have x1 : BT W1 w.heap.size ⟨ar, cr, ah, ch⟩ t := by rw [hW1]; exact BT.box w ⟨ar, cr, ah, ch⟩ t _
  have b1 : Below w.heap.size w W1 := by rw [hW1]; exact (Below.refl _ _).alloc (Nat.le_refl _) _
  obtain ⟨W, hW⟩ : ∃ W2, W2 = W1.alloc (.cells #[.int .i64 0, .int .i64 0, .int .i64 0, .int .i64 0, .slice none 0 0, .slice none 0 0, .int .i64 0] 27) := ⟨_, rfl⟩
  have b2 : Below W1.heap.size W1 W := by rw [hW]; exact (Below.refl _ _).alloc (Nat.le_refl _) _
  have yR : BT W (w.heap.size + 1) ⟨none, 0, none, 0⟩ ⟨0, 0, 0, 0, [], [], 0⟩ := by rw [hW, ← z1]; exact BT.zero W1 _
  have sW : W.heap.size = w.heap.size + 2 := by rw [hW]; simp [z1]
  have yA : BT W w.heap.size ⟨ar, cr, ah, ch⟩ t := x1.later b2
  have bW : Below w.heap.size w W := b1.trans (b2.mono b1.size)
  have bV1 : Below W.heap.size W (W.alloc (.cells #[] 29)) := (Below.refl _ _).alloc (Nat.le_refl _) _
  obtain ⟨a1, c1, Y1, run1, row1, gr1⟩ := copyNo (RowN.made W) t.reads hr 24 ar cr ((h.later (bW.trans (bV1.mono bW.size))).r) bV1.size
  have bY1 : Below W.heap.size W Y1 := bV1.grown gr1 bV1.size (fun q e => by cases e; exact Nat.le_refl _)
  have yA1 : BT Y1 w.heap.size ⟨ar, cr, ah, ch⟩ t := yA.later bY1
  have yR1 := yR.later bY1
  have yA2 : BT (Y1.setCell ⟨w.heap.size, 4, none⟩ (.slice a1 t.reads.length c1)) w.heap.size ⟨a1, c1, ah, ch⟩ t := yA1.set4 a1 c1 t.reads
  have yR2 := yR1.far (p := ⟨w.heap.size, 4, none⟩) (by dsimp only; omega) (.slice a1 t.reads.length c1)
  have bX1 : Below w.heap.size w (Y1.setCell ⟨w.heap.size, 4, none⟩ (.slice a1 t.reads.length c1)) := (bW.trans (bY1.mono bW.size)).setCell (p := ⟨w.heap.size, 4, none⟩) (Nat.le_refl _) _
  have row1' : RowN (Y1.setCell ⟨w.heap.size, 4, none⟩ (.slice a1 t.reads.length c1)) W.heap.size (.slice a1 t.reads.length c1) t.reads := row1.keep (fun q hq _ _ => Below.heap_setCell _ _ _ _ (by show q ≠ w.heap.size; omega))
  have zX1 : (Y1.setCell ⟨w.heap.size, 4, none⟩ (.slice a1 t.reads.length c1)).heap.size = Y1.heap.size := by simp [World.setCell]
  have bV2 : Below (Y1.setCell ⟨w.heap.size, 4, none⟩ (.slice a1 t.reads.length c1)).heap.size (Y1.setCell ⟨w.heap.size, 4, none⟩ (.slice a1 t.reads.length c1)) ((Y1.setCell ⟨w.heap.size, 4, none⟩ (.slice a1 t.reads.length c1)).alloc (.cells #[] 36)) := (Below.refl _ _).alloc (Nat.le_refl _) _
  obtain ⟨a2, c2, Y2, run2, row2, gr2⟩ := copySe (RowS.made (Y1.setCell ⟨w.heap.size, 4, none⟩ (.slice a1 t.reads.length c1))) t.sets hss 25 ah ch ((h.later (bX1.trans (bV2.mono bX1.size))).s) bV2.size
  have bY2 : Below (Y1.setCell ⟨w.heap.size, 4, none⟩ (.slice a1 t.reads.length c1)).heap.size (Y1.setCell ⟨w.heap.size, 4, none⟩ (.slice a1 t.reads.length c1)) Y2 := bV2.grown gr2 bV2.size (fun q e => by cases e; exact Nat.le_refl _)
  have yA3 : BT Y2 w.heap.size ⟨a1, c1, ah, ch⟩ t := yA2.later bY2
  have yR3 := yR2.later bY2
  have yA4 : BT (Y2.setCell ⟨w.heap.size, 5, none⟩ (.slice a2 t.sets.length c2)) w.heap.size ⟨a1, c1, a2, c2⟩ t := yA3.set5 a2 c2 t.sets
  have yR4 := yR3.far (p := ⟨w.heap.size, 5, none⟩) (by dsimp only; omega) (.slice a2 t.sets.length c2)
  have bX2 : Below w.heap.size w (Y2.setCell ⟨w.heap.size, 5, none⟩ (.slice a2 t.sets.length c2)) := (bX1.trans (bY2.mono bX1.size)).setCell (p := ⟨w.heap.size, 5, none⟩) (Nat.le_refl _) _
  have row1'' : RowN (Y2.setCell ⟨w.heap.size, 5, none⟩ (.slice a2 t.sets.length c2)) W.heap.size (.slice a1 t.reads.length c1) t.reads := (row1'.later bY2).keep (fun q hq _ _ => Below.heap_setCell _ _ _ _ (by show q ≠ w.heap.size; omega))
  have hs1 : W.heap.size ≤ (Y1.setCell ⟨w.heap.size, 4, none⟩ (.slice a1 t.reads.length c1)).heap.size := by rw [zX1]; exact bY1.size
  have row2' : RowS (Y2.setCell ⟨w.heap.size, 5, none⟩ (.slice a2 t.sets.length c2)) (Y1.setCell ⟨w.heap.size, 4, none⟩ (.slice a1 t.reads.length c1)).heap.size (.slice a2 t.sets.length c2) t.sets := row2.keep (fun q hq _ _ => Below.heap_setCell _ _ _ _ (by show q ≠ w.heap.size; omega))
  have yR5 := yR4.put ⟨a1, c1, a2, c2⟩ t
  have p4 := yA.c4
  have k4 := yA1.c4
  have k4f := yA1.fz 4
  have p5 := (yA2.later bV2).c5
  have k5 := yA3.c5
  have k5f := yA3.fz 5
  dsimp only at p4 k4 p5 k5
  obtain ⟨o0, o1, o2, o3, o4, o5, o6, -, -⟩ := yA4
  have KR := yR4
  have hlt1 : ∀ q, (Value.slice a1 t.reads.length c1).ownBlock = some q → W.heap.size ≤ q ∧ q < (Y1.setCell ⟨w.heap.size, 4, none⟩ (.slice a1 t.reads.length c1)).heap.size := fun q e => row1'.lt e
  have KO : TR (Y2.setCell ⟨w.heap.size, 5, none⟩ (.slice a2 t.sets.length c2)) w.heap.size ⟨a1, c1, a2, c2⟩ t (fun q => (Value.slice a1 t.reads.length c1).ownBlock = some q) (fun q => (Value.slice a2 t.sets.length c2).ownBlock = some q) := by
    obtain ⟨_, _, e1, o1⟩ := row1''.form
    obtain ⟨_, _, e2, o2⟩ := row2'.form
    cases e1; cases e2
    exact ⟨⟨o1, o2, fun q h1 h2 => by have := (hlt1 q h1).2; have := (row2'.lt h2).1; omega, fun q h1 => ⟨by have := (row1''.lt h1).1; omega, (row1''.lt h1).2⟩, fun q h1 => ⟨by have := (row2'.lt h1).1; omega, (row2'.lt h1).2⟩⟩, row_low row1'' (fun q e => by have := (row1''.lt e).1; omega), row_low row2' (fun q e => by have := (row2'.lt e).1; omega), fun q e => e, fun q e => e⟩
  have KH : Hid (TR (Y2.setCell ⟨w.heap.size, 5, none⟩ (.slice a2 t.sets.length c2)) w.heap.size ⟨a1, c1, a2, c2⟩ t (fun q => (Value.slice a1 t.reads.length c1).ownBlock = some q) (fun q => (Value.slice a2 t.sets.length c2).ownBlock = some q) ∧ Below w.heap.size w (Y2.setCell ⟨w.heap.size, 5, none⟩ (.slice a2 t.sets.length c2)) ∧ (∀ q, OfT (fun q => (Value.slice a1 t.reads.length c1).ownBlock = some q) (fun q => (Value.slice a2 t.sets.length c2).ownBlock = some q) q → w.heap.size + 2 ≤ q)) := ⟨KO, bX2, fun q hq => by
    rcases hq with hq | hq
    · have := (row1''.lt hq).1; omega
    · have := (row2'.lt hq).1; omega⟩
  simp only [putT] at yR5
  obtain ⟨u0, u1, u2, u3, u4, u5, u6, -, -⟩ := yR5
  have KX : Hid (((Y2.setCell ⟨w.heap.size, 5, none⟩ (.slice a2 t.sets.length c2)).cell? ⟨w.heap.size, 0, none⟩ = some (.int .i64 t.id) ∧ (Y2.setCell ⟨w.heap.size, 5, none⟩ (.slice a2 t.sets.length c2)).cell? ⟨w.heap.size, 1, none⟩ = some (.int .i64 t.home) ∧ (Y2.setCell ⟨w.heap.size, 5, none⟩ (.slice a2 t.sets.length c2)).cell? ⟨w.heap.size, 2, none⟩ = some (.int .i64 t.phase) ∧ (Y2.setCell ⟨w.heap.size, 5, none⟩ (.slice a2 t.sets.length c2)).cell? ⟨w.heap.size, 3, none⟩ = some (.int .i64 t.count) ∧ (Y2.setCell ⟨w.heap.size, 5, none⟩ (.slice a2 t.sets.length c2)).cell? ⟨w.heap.size, 4, none⟩ = some (.slice a1 t.reads.length c1) ∧ (Y2.setCell ⟨w.heap.size, 5, none⟩ (.slice a2 t.sets.length c2)).cell? ⟨w.heap.size, 5, none⟩ = some (.slice a2 t.sets.length c2) ∧ (Y2.setCell ⟨w.heap.size, 5, none⟩ (.slice a2 t.sets.length c2)).cell? ⟨w.heap.size, 6, none⟩ = some (.int .i64 t.stamp)) ∧ BT (Y2.setCell ⟨w.heap.size, 5, none⟩ (.slice a2 t.sets.length c2)) (w.heap.size + 1) ⟨none, 0, none, 0⟩ ⟨0, 0, 0, 0, [], [], 0⟩) := ⟨⟨o0, o1, o2, o3, o4, o5, o6⟩, KR⟩
  have KU := hidOf (And.intro u0 (And.intro u1 (And.intro u2 (And.intro u3 (And.intro u4 (And.intro u5 u6))))))
  have K1 := hidOf (And.intro k4 (And.intro k4f p5))
  have K2 := hidOf (And.intro k5 k5f)
  have R1 := hidOf run1
  have R2 := hidOf run2
  rw [hW1] at hW
  have sW2 : W.heap.size = w.heap.size + 1 + 1 := by omega
  clear sW
  clear hW1 x1 b1 b2 z1 yA yR bW bV1 bY1 row1 gr1 yA1 yR1 yA2 yR2 bX1 row1' bV2 row2 gr2 bY2 yA3 yR3 bX2 row1'' row2' hs1 hlt1 h KO KR o0 o1 o2 o3 o4 o5 o6 u0 u1 u2 u3 u4 u5 u6 k4 k4f p5 k5 k5f run1 run2
  go_enter Try.func48, Try.ntmps48
  have r1 := R1.out
  have r2 := R2.out
  rw [sW2] at r1
  rw [zX1] at r2
  rw [hW] at r1
  obtain ⟨k4, k4f, p5⟩ := K1.out
  obtain ⟨k5, k5f⟩ := K2.out
  obtain ⟨⟨o0, o1, o2, o3, o4, o5, o6⟩, ⟨r0, r1', r2', r3, r4, r5, r6, fr, -⟩⟩ := KX.out
  have f0 := fr 0
  have f1 := fr 1
  have f2 := fr 2
  have f3 := fr 3
  have f4 := fr 4
  have f5 := fr 5
  have f6 := fr 6
  clear fr K1 K2 KX R1 R2 hW p4 zX1 sW2
  go_wp2_with (first | (at_builtin; refine append_known _ rfl (.tmp 3) (.tmp 5) 24 rfl _ _ _ _ rfl rfl r1 ?_) | (at_builtin; refine append_known _ rfl (.tmp 8) (.tmp 10) 25 rfl _ _ _ _ rfl rfl r2 ?_))
  obtain ⟨u0, u1, u2, u3, u4, u5, u6⟩ := KU.out
  refine bodyPost_ret (v := .agg #[.int .i64 t.id, .int .i64 t.home, .int .i64 t.phase, .int .i64 t.count, .slice a1 t.reads.length c1, .slice a2 t.sets.length c2, .int .i64 t.stamp]) (by simp [results, Try.results48, go_sem, u0, u1, u2, u3, u4, u5, u6]) rfl ?_
  obtain ⟨ot, bX, q2⟩ := KH.out
  refine ⟨a1, c1, a2, c2, fun q => (Value.slice a1 t.reads.length c1).ownBlock = some q, fun q => (Value.slice a2 t.sets.length c2).ownBlock = some q, rfl, ?_, ?_⟩
  · exact ot.keep (by simp [World.setCell]) (fun q _ hq => putT_block (s := w.heap.size + 1) (v := ⟨a1, c1, a2, c2⟩) (t := t) (by have := q2 q hq; omega))
  · exact putT_below (s := w.heap.size + 1) (v := ⟨a1, c1, a2, c2⟩) (t := t) bX (by omega)
end Go.Proofs.Ytiidlcjjaglkdaa