/- AddSet: where a Set goes, a row with one written over; a pile that is full. -/
import Derived.Test.YtcanaklameddbaaRows
import Derived.Test.YtcanaklameddbaaChkS
import Derived.Test.YtcanaklameddbaaTxN
import Derived.Test.YtcanaklameddbaaOwnTi
import Derived.Test.YtcanaklameddbaaOwnTs
import Derived.WalkKit
import Derived.WalkSpells
import Derived.WalkLawsBesides
import Derived.Below
import Derived.Lib.QuietBelow
import Derived.BigQuiet
import Derived.Deep.CutRange
namespace Go.Proofs.Ytcanaklameddbaa
open Go.RowKit
open Go.Sort (grow)
def cutSe (xs : List S5) (n : S5) : Nat := xs.findIdx fun x => !lessB x.region x.slot n.region n.slot
def insSe (xs : List S5) (n : S5) : List S5 := xs.take (cutSe xs n) ++ [n] ++ xs.drop (cutSe xs n)
def lessSe (xs : List S5) (n : S5) (j : Nat) : Bool := lessB (atSe xs j).region (atSe xs j).slot n.region n.slot
theorem atSe_get {xs : List S5} {i : Nat} (h : i < xs.length) : atSe xs i = xs[i] := by have := atSe_of h; rw [List.getElem?_eq_getElem h] at this; exact (Option.some.inj this).symm
theorem cutSe_at {xs : List S5} {n : S5} {k : Nat} (hk : k < xs.length) (h : lessSe xs n k = false) (hall : ∀ j, j < k → lessSe xs n j = true) : cutSe xs n = k := by
  unfold cutSe
  rw [List.findIdx_eq hk]
  refine ⟨by rw [← atSe_get hk]; simpa [lessSe] using h, fun j hj => ?_⟩
  rw [← atSe_get (by omega)]
  simpa [lessSe] using hall j hj
theorem cutSe_all {xs : List S5} {n : S5} (hall : ∀ j, j < xs.length → lessSe xs n j = true) : cutSe xs n = xs.length := by
  unfold cutSe
  rw [List.findIdx_eq_length]
  intro x hx
  obtain ⟨i, hi, rfl⟩ := List.getElem_of_mem hx
  have := hall i hi
  rw [lessSe, atSe_get hi] at this
  simp [this]
/-- A Set with another's version. -/
def verS (s : S5) (v : Int) : S5 := ⟨s.region, s.slot, s.value, s.used, v⟩
/-- The row with a Set in the place of its cell's, whose version it keeps. -/
def ovSe (xs : List S5) (i : Nat) (s : S5) : List S5 := xs.set i (verS s (atSe xs i).version)
/-- What AddSet answers. -/
def addSe (t : T7) (s : S5) : T7 := if txB t = true ∧ setOkB s = true then (match seW t.sets s.region s.slot with | some i => ⟨t.id, t.home, t.phase, t.count, t.reads, ovSe t.sets i s, t.stamp⟩ | none => if t.sets.length = 12 then noT else ⟨t.id, t.home, t.phase, t.count, t.reads, insSe t.sets s, t.stamp⟩) else noT
def addSB (t : T7) (s : S5) : Bool := txB t && setOkB s && ((seW t.sets s.region s.slot).isSome || !decide (t.sets.length = 12))
theorem seW_at {xs : List S5} {r s : Int} {i : Nat} (h : seW xs r s = some i) : i < xs.length ∧ (atSe xs i).region = r ∧ (atSe xs i).slot = s := by
  unfold seW at h
  rw [List.findIdx?_eq_some_iff_getElem] at h
  obtain ⟨hi, hp, _⟩ := h
  refine ⟨hi, ?_⟩
  rw [atSe_get hi]
  simpa using hp
theorem ovSe_len (xs : List S5) (i : Nat) (s : S5) : (ovSe xs i s).length = xs.length := by simp [ovSe]
theorem ovSe_at {xs : List S5} {i : Nat} {s : S5} (j : Nat) (h : i < xs.length) : (ovSe xs i s)[j]? = if i = j then some (verS s (atSe xs i).version) else xs[j]? := by
  unfold ovSe
  rw [List.getElem?_set]
  by_cases e : i = j
  · subst e; simp [h]
  · simp [e]
theorem ovSe_R {xs : List S5} {s : S5} {i : Nat} (h : seW xs s.region s.slot = some i) : (ovSe xs i s).map seR = xs.map seR := by
  obtain ⟨hi, h1, h2⟩ := seW_at h
  apply List.ext_getElem?
  intro j
  rw [List.getElem?_map, List.getElem?_map, ovSe_at j hi]
  by_cases e : i = j
  · subst e
    have h3 : seR (verS s (atSe xs i).version) = seR xs[i] := by
      rw [← atSe_get hi]
      unfold seR verS
      rw [h1, h2]
    rw [if_pos rfl, List.getElem?_eq_getElem hi, Option.map_some, Option.map_some, h3]
  · rw [if_neg e]
theorem ovSe_up {xs : List S5} {s : S5} {i : Nat} (hu : seUp2 xs) (h : seW xs s.region s.slot = some i) : (ovSe xs i s).Pairwise (fun a b => seR a < seR b) := by
  have h1 : ((ovSe xs i s).map seR).Pairwise (· < ·) := by rw [ovSe_R h, List.pairwise_map]; exact hu
  rwa [List.pairwise_map] at h1
theorem ovSe_ok {xs : List S5} {s : S5} {i : Nat} (hok : ∀ s ∈ xs, setOkB s = true) (hs : setOkB s = true) (h : seW xs s.region s.slot = some i) : setOkB (verS s (atSe xs i).version) = true := by
  obtain ⟨hi, -, -⟩ := seW_at h
  have h1 := hok _ (List.getElem_mem hi)
  rw [← atSe_get hi] at h1
  simp only [setOkB, verS, Bool.and_eq_true] at h1 hs ⊢
  exact ⟨hs.1, h1.2⟩
theorem seUp2_hp {xs : List S5} (h : seUp2 xs) : HeapP.Hp (seK xs) xs.length := fun i h0 hn => by
  have e1 : xs[(i - 1) / 2]? = some xs[(i - 1) / 2] := List.getElem?_eq_getElem (by omega)
  have e2 : xs[i]? = some xs[i] := List.getElem?_eq_getElem hn
  rw [seK_R e1, seK_R e2]
  exact Int.le_of_lt (seUp2_at h e1 e2 (by omega))
/-- One Set of a row of the call's own written over. -/
theorem OwnSe.put5 {W : World} {P : Nat → Prop} {b : Nat} {xs : List S5} {i : Nat} (hb : P b) (hl : b < W.heap.size) (ha : SetsAt W b 0 xs) (hr : Room W b (xs.length * 5)) (hi : i < xs.length) (y : S5) : OwnSe ((((((W).setCell ⟨b, i * 5, none⟩ (.int .i64 y.region)).setCell ⟨b, i * 5 + 1, none⟩ (.int .i64 y.slot)).setCell ⟨b, i * 5 + 2, none⟩ (.int .i64 y.value)).setCell ⟨b, i * 5 + 3, none⟩ (.bool y.used)).setCell ⟨b, i * 5 + 4, none⟩ (.int .i64 y.version)) P (some ⟨b, 0, none⟩) (xs.set i y) := by
  obtain ⟨v0, d0, _⟩ := hr (i * 5) (by omega)
  obtain ⟨v1, d1, _⟩ := hr (i * 5 + 1) (by omega)
  obtain ⟨v2, d2, _⟩ := hr (i * 5 + 2) (by omega)
  obtain ⟨v3, d3, _⟩ := hr (i * 5 + 3) (by omega)
  obtain ⟨v4, d4, _⟩ := hr (i * 5 + 4) (by omega)
  refine .inr ⟨b, rfl, hb, by simpa [World.setCell] using hl, fun k s hk => ?_, by rw [List.length_set]; exact ((((hr.set _).set _).set _).set _).set _⟩
  rw [Nat.zero_add]
  by_cases e : i = k
  · subst e
    rw [List.getElem?_set_self hi] at hk
    obtain rfl := Option.some.inj hk
    exact SetAt.put y d0 d1 d2 d3 d4
  · rw [List.getElem?_set_ne e] at hk
    have := ha k s hk
    rw [Nat.zero_add] at this
    exact ((((this.set (by omega) _).set (by omega) _).set (by omega) _).set (by omega) _).set (by omega) _
set_option maxHeartbeats 1000000 in
theorem seFull_any (w : World) (base p mb m : Nat) (v : Value) (xs : List S5) (h : PisB w base p mb m v xs) :
    Calls Try.prog 52 #[.pointer (some ⟨p, 0, none⟩)] w fun e w' => e = .returned (.bool (decide (12 ≤ xs.length))) ∧ w' = w := by
  obtain ⟨a, c, rfl, -⟩ := h.row.form
  have c0 := h.c0
  clear h
  by_cases hl : 12 ≤ xs.length
  · have d1 : decide ((12 : Int) ≤ (xs.length : Int)) = true := by simp; omega
    have d2 : decide (12 ≤ xs.length) = true := by simpa using hl
    rw [d2]
    clear hl d2
    go_enter Try.func52, Try.ntmps52
    go_wp2
    go_ret
    exact ⟨rfl, rfl⟩
  · have d1 : decide ((12 : Int) ≤ (xs.length : Int)) = false := by simp; omega
    have d2 : decide (12 ≤ xs.length) = false := by simpa using hl
    rw [d2]
    clear hl d2
    go_enter Try.func52, Try.ntmps52
    go_wp2
    go_ret
    exact ⟨rfl, rfl⟩
end Go.Proofs.Ytcanaklameddbaa
