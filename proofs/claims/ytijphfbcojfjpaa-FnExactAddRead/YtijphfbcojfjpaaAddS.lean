/- AddRead: where a note is, where it goes; a pile that is full. -/
import Derived.Test.YtijphfbcojfjpaaRows
import Derived.Test.YtijphfbcojfjpaaChkS
import Derived.Test.YtijphfbcojfjpaaTxN
import Derived.Test.YtijphfbcojfjpaaOwnTi
import Derived.Test.YtijphfbcojfjpaaOwnTs
import Derived.Test.YtijphfbcojfjpaaPOfN
import Derived.WalkKit
import Derived.WalkSpells
import Derived.WalkLawsBesides
import Derived.Below
import Derived.Lib.QuietBelow
import Derived.BigQuiet
namespace Go.Proofs.Ytijphfbcojfjpaa
open Go.RowKit
open Go.Sort (grow)
/-- Where a cell's note is, or -1. -/
def readAt (xs : List N5) (r s : Int) : Int := match noW xs r s with | some i => (i : Int) | none => -1
theorem readAt_ge (xs : List N5) (r s : Int) : decide (0 ≤ readAt xs r s) = (noW xs r s).isSome := by
  unfold readAt
  cases noW xs r s <;> simp
theorem noW_found {xs : List N5} {k : Nat} {x : N5} {r s : Int} (h : noW (xs.take k) r s = none) (hx : xs[k]? = some x) (h1 : x.region = r) (h2 : x.slot = s) : noW xs r s = some k := by
  have lk := List.getElem?_eq_some_iff.1 hx
  have l1 := lk.1
  unfold noW at *
  rw [List.findIdx?_eq_some_iff_getElem]
  refine ⟨lk.1, by rw [lk.2]; simp [h1, h2], fun j hj => ?_⟩
  rw [List.findIdx?_eq_none_iff] at h
  have := h xs[j] (List.mem_take_iff_getElem.2 ⟨j, by omega, rfl⟩)
  simp at this ⊢
  exact this
theorem noW_step {xs : List N5} {k : Nat} {x : N5} {r s : Int} (h : noW (xs.take k) r s = none) (hx : xs[k]? = some x) (hn : ¬ (x.region = r ∧ x.slot = s)) : noW (xs.take (k + 1)) r s = none := by
  rw [noW_none] at *
  intro y hy
  rw [List.take_add_one, hx] at hy
  rcases List.mem_append.1 hy with hy | hy
  · exact h y hy
  · simp at hy; subst hy; exact hn
set_option maxHeartbeats 4000000 in
theorem l7Read_any (w : World) (v : TV) (t : T7) (r s : Int) (hl : t.reads.length ≤ 1000) (hs : SlT w v t) :
    Calls Try.prog 62 #[v.val t, .int .i64 r, .int .i64 s] w fun e w' => e = .returned (.int .i64 (readAt t.reads r s)) ∧ Below w.heap.size w w' := by
  obtain ⟨ar, cr, ah, ch⟩ := v
  simp only [TV.val]
  obtain ⟨W, hW⟩ : ∃ W, W = w.alloc (.cells #[.int .i64 t.id, .int .i64 t.home, .int .i64 t.phase, .int .i64 t.count, .slice ar t.reads.length cr, .slice ah t.sets.length ch, .int .i64 t.stamp] 27) := ⟨_, rfl⟩
  have b0 : Below w.heap.size w W := by rw [hW]; exact (Below.refl _ _).alloc (Nat.le_refl _) _
  have x0 : BT W w.heap.size ⟨ar, cr, ah, ch⟩ t := by rw [hW]; exact BT.box w ⟨ar, cr, ah, ch⟩ t _
  have p4 := x0.c4
  dsimp only at p4
  have H : Hid (SlNo W W.heap.size ar t.reads.length t.reads ∧ Below w.heap.size w W) := ⟨(hs.later b0).r, b0⟩
  clear hs b0 x0
  go_enter Try.func62, Try.ntmps62
  go_wp2
  rw [← hW]
  clear hW
  go_loopw [7] (fun v7 wr => ∃ k : Nat, k ≤ t.reads.length ∧ v7 = .int .i64 k ∧ wr = W ∧ noW (t.reads.take k) r s = none) (fun v7 _ => t.reads.length - (intOf v7).toNat)
  case atStart => exact ⟨0, Nat.zero_le _, rfl, rfl, by simp [noW]⟩
  case round =>
    obtain ⟨k, hk, rfl, rfl, hnn⟩ := hrel
    have KN := hidOf hnn
    clear hnn
    by_cases hlt : k < t.reads.length
    · obtain ⟨_, hsk⟩ := H.out.1
      rcases hsk with hsk | ⟨b, off, rfl, hb, hx⟩
      · omega
      obtain ⟨c0, c1, c2, c3, c4⟩ := hx k _ (atNo_of hlt)
      clear hx
      by_cases hg : (atNo t.reads k).region = r
      · have dg : ((atNo t.reads k).region == r) = true := by simpa using hg
        by_cases hg2 : (atNo t.reads k).slot = s
        · have dg2 : ((atNo t.reads k).slot == s) = true := by simpa using hg2
          have HF : Hid (readAt t.reads r s = (k : Int)) := by unfold Hid readAt; rw [noW_found KN.out (atNo_of hlt) hg hg2]
          clear hg hg2
          go_wp2
          go_ret
          exact ⟨by rw [HF.out]; rfl, H.out.2⟩
        · have dg2 : ((atNo t.reads k).slot == s) = false := by simpa using hg2
          have KE : Hid (noW (t.reads.take (k + 1)) r s = none) := noW_step KN.out (atNo_of hlt) (fun h => hg2 h.2)
          clear hg hg2
          go_wp2
          exact ⟨⟨k + 1, by omega, by simp, trivial, KE.out⟩, by simp [intOf]; omega⟩
      · have dg : ((atNo t.reads k).region == r) = false := by simpa using hg
        have KE : Hid (noW (t.reads.take (k + 1)) r s = none) := noW_step KN.out (atNo_of hlt) (fun h => hg h.1)
        clear hg
        go_wp2
        exact ⟨⟨k + 1, by omega, by simp, trivial, KE.out⟩, by simp [intOf]; omega⟩
    · obtain rfl : k = t.reads.length := by omega
      have hd : decide ((t.reads.length : Int) < (t.reads.length : Int)) = false := by simp
      have HF : Hid (readAt t.reads r s = -1) := by unfold Hid readAt; have := KN.out; rw [List.take_length] at this; rw [this]
      go_wp2
      go_ret
      exact ⟨by rw [HF.out]; rfl, H.out.2⟩
def cutN (xs : List N5) (n : N5) : Nat := xs.findIdx fun x => !lessB x.region x.slot n.region n.slot
def insN (xs : List N5) (n : N5) : List N5 := xs.take (cutN xs n) ++ [n] ++ xs.drop (cutN xs n)
def lessAt (xs : List N5) (n : N5) (j : Nat) : Bool := lessB (atNo xs j).region (atNo xs j).slot n.region n.slot
theorem atNo_get {xs : List N5} {i : Nat} (h : i < xs.length) : atNo xs i = xs[i] := by have := atNo_of h; rw [List.getElem?_eq_getElem h] at this; exact (Option.some.inj this).symm
theorem cutN_at {xs : List N5} {n : N5} {k : Nat} (hk : k < xs.length) (h : lessAt xs n k = false) (hall : ∀ j, j < k → lessAt xs n j = true) : cutN xs n = k := by
  unfold cutN
  rw [List.findIdx_eq hk]
  refine ⟨by rw [← atNo_get hk]; simpa [lessAt] using h, fun j hj => ?_⟩
  rw [← atNo_get (by omega)]
  simpa [lessAt] using hall j hj
theorem cutN_all {xs : List N5} {n : N5} (hall : ∀ j, j < xs.length → lessAt xs n j = true) : cutN xs n = xs.length := by
  unfold cutN
  rw [List.findIdx_eq_length]
  intro x hx
  obtain ⟨i, hi, rfl⟩ := List.getElem_of_mem hx
  have := hall i hi
  rw [lessAt, atNo_get hi] at this
  simp [this]
/-- What AddRead answers. -/
def addN (t : T7) (n : N5) : T7 := if txB t = true ∧ noteOkB n = true then (if (noW t.reads n.region n.slot).isSome = true then t else if t.reads.length = 12 then noT else ⟨t.id, t.home, t.phase, t.count, insN t.reads n, t.sets, t.stamp⟩) else noT
def addNB (t : T7) (n : N5) : Bool := txB t && noteOkB n && ((noW t.reads n.region n.slot).isSome || !decide (t.reads.length = 12))
set_option maxHeartbeats 1000000 in
theorem noFull_any (w : World) (base p mb m : Nat) (v : Value) (xs : List N5) (h : PinB w base p mb m v xs) :
    Calls Try.prog 57 #[.pointer (some ⟨p, 0, none⟩)] w fun e w' => e = .returned (.bool (decide (12 ≤ xs.length))) ∧ w' = w := by
  obtain ⟨a, c, rfl, -⟩ := h.row.form
  have c0 := h.c0
  clear h
  by_cases hl : 12 ≤ xs.length
  · have d1 : decide ((12 : Int) ≤ (xs.length : Int)) = true := by simp; omega
    have d2 : decide (12 ≤ xs.length) = true := by simpa using hl
    rw [d2]
    clear hl d2
    go_enter Try.func57, Try.ntmps57
    go_wp2
    go_ret
    exact ⟨rfl, rfl⟩
  · have d1 : decide ((12 : Int) ≤ (xs.length : Int)) = false := by simp; omega
    have d2 : decide (12 ≤ xs.length) = false := by simpa using hl
    rw [d2]
    clear hl d2
    go_enter Try.func57, Try.ntmps57
    go_wp2
    go_ret
    exact ⟨rfl, rfl⟩
end Go.Proofs.Ytijphfbcojfjpaa
