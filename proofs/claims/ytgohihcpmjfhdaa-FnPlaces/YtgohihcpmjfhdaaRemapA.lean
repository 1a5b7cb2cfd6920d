/- Who lives, and what a region has behind a new configuration: lists alone, and the specification's l5Lives. -/
import Derived.Test.YtgohihcpmjfhdaaRows
import Derived.Test.YtgohihcpmjfhdaaPlacesS
import Derived.Test.YtgohihcpmjfhdaaPlOwn
import Derived.WalkKit
import Derived.WalkSpells
import Derived.WalkLawsBesides
import Derived.Below
namespace Go.Proofs.Ytgohihcpmjfhdaa
open Go.RowKit
def atB (al : List Bool) (i : Nat) : Bool := al[i]?.getD false
theorem atB_of {al : List Bool} {i : Nat} (h : i < al.length) : al[i]? = some (atB al i) := by simp [atB, List.getElem?_eq_getElem h]
def BoolsAt (w : World) (b off : Nat) (al : List Bool) : Prop := ∀ i z, al[i]? = some z → w.cell? ⟨b, off + i, none⟩ = some (.bool z)
theorem BoolsAt.below {w w' : World} {B b off : Nat} {al : List Bool} (h : BoolsAt w b off al) (hb : Below B w w') (hB : b < B) : BoolsAt w' b off al := fun i z e => by rw [hb.cell (p := ⟨b, off + i, none⟩) hB]; exact h i z e
def SlB (w : World) (B : Nat) (a : Option Addr) (n : Nat) (al : List Bool) : Prop := al.length = n ∧ (n = 0 ∨ ∃ b off, a = some ⟨b, off, none⟩ ∧ b < B ∧ BoolsAt w b off al)
theorem SlB.below {w w' : World} {B : Nat} {a : Option Addr} {n : Nat} {al : List Bool} (h : SlB w B a n al) (hb : Below B w w') : SlB w' B a n al := by
  obtain ⟨h1, h2⟩ := h
  refine ⟨h1, ?_⟩
  rcases h2 with h2 | ⟨b, off, ha, hB, hx⟩
  · exact .inl h2
  · exact .inr ⟨b, off, ha, hB, hx.below hb hB⟩
theorem SlB.mono {w : World} {B B' : Nat} {a : Option Addr} {n : Nat} {al : List Bool} (h : SlB w B a n al) (hB : B ≤ B') : SlB w B' a n al := by
  obtain ⟨h1, h2⟩ := h
  refine ⟨h1, ?_⟩
  rcases h2 with h2 | ⟨b, off, ha, hb, hx⟩
  · exact .inl h2
  · exact .inr ⟨b, off, ha, by omega, hx⟩
def livesB (al : List Bool) (z : Int) : Bool := decide (z < (al.length : Int)) && atB al z.toNat
theorem specLives_any (w : World) (a : Option Addr) (n cap : Nat) (z : Int) (al : List Bool) (hz : 0 ≤ z) (hs : SlB w w.heap.size a n al) :
    Calls Try.prog 40 #[.slice a n cap, .int .i64 z] w fun e w' => e = .returned (.bool (livesB al z)) ∧ w' = w := by
  obtain ⟨hx, hs⟩ := hs
  obtain ⟨i, rfl⟩ := Int.eq_ofNat_of_zero_le hz
  by_cases hlt : i < n
  · have hL : livesB al (i : Int) = atB al i := by simp [livesB, hx, hlt]
    have hlt' : (i : Int) < (n : Int) := by omega
    rw [hL]
    rcases hs with hs | ⟨b, off, rfl, hb, h1⟩
    · omega
    · have c := h1 i _ (atB_of (by omega))
      clear h1 hL
      go_enter Try.func40, Try.ntmps40
      go_wp2
      go_ret
      exact ⟨rfl, rfl⟩
  · have hL : livesB al (i : Int) = false := by simp [livesB, hx, hlt]
    have hd : decide ((i : Int) < (n : Int)) = false := by simp; omega
    rw [hL]
    clear hs
    go_enter Try.func40, Try.ntmps40
    go_wp2
    go_ret
    exact ⟨rfl, rfl⟩
/-- Those of the machines that live. -/
def keepL (al : List Bool) (zs : List Int) : List Int := zs.filter (livesB al)
theorem keepL_succ {al : List Bool} {zs : List Int} {k : Nat} (h : k < zs.length) : keepL al (zs.take (k + 1)) = if livesB al (atN zs k) = true then keepL al (zs.take k) ++ [atN zs k] else keepL al (zs.take k) := by
  rw [List.take_add_one, atN_of h, keepL, List.filter_append]
  by_cases hl : livesB al (atN zs k) = true
  · simp [hl, keepL]
  · simp [hl, keepL]
theorem keepL_len (al : List Bool) (zs : List Int) : (keepL al zs).length ≤ zs.length := List.length_filter_le _ _
/-- Filled up by the living ones below m, the least first, up to three. -/
def fillTo (al : List Bool) (p : List Int) : Nat → List Int
  | 0 => p
  | m + 1 => if (fillTo al p m).length < 3 ∧ atB al m = true ∧ hasB (fillTo al p m) (m : Int) = false then fillTo al p m ++ [(m : Int)] else fillTo al p m
theorem fillTo_full {al : List Bool} {p : List Int} {m : Nat} (h : 3 ≤ (fillTo al p m).length) : ∀ k, fillTo al p (m + k) = fillTo al p m
  | 0 => rfl
  | k + 1 => by
    have ih := fillTo_full h k
    rw [← Nat.add_assoc, fillTo, ih, if_neg (by omega)]
theorem fillTo_len (al : List Bool) (p : List Int) (h : p.length ≤ 3) : ∀ m, p.length ≤ (fillTo al p m).length ∧ (fillTo al p m).length ≤ 3
  | 0 => ⟨Nat.le_refl _, h⟩
  | m + 1 => by
    have ih := fillTo_len al p h m
    rw [fillTo]
    split
    · simp; omega
    · exact ih
/-- What a region has behind a new configuration. -/
def rowR (al : List Bool) (zs : List Int) : List Int := if keepL al zs = [] then zs else fillTo al (keepL al zs) al.length
def remapN (al : List Bool) (zss : List (List Int)) (n : Nat) : List (List Int) := (List.range n).map fun i => rowR al (atP zss i)
def lostN (al : List Bool) (zss : List (List Int)) (n : Nat) : List Int := ((List.range n).filter fun i => keepL al (atP zss i) = []).map fun (i : Nat) => (i : Int)
def remapB (zss : List (List Int)) (al : List Bool) : Bool := placesB zss && decide (al.length ≤ 8)
theorem remapN_succ (al : List Bool) (zss : List (List Int)) (n : Nat) : remapN al zss (n + 1) = remapN al zss n ++ [rowR al (atP zss n)] := by simp [remapN, List.range_succ]
theorem remapN_len (al : List Bool) (zss : List (List Int)) (n : Nat) : (remapN al zss n).length = n := by simp [remapN]
theorem lostN_succ (al : List Bool) (zss : List (List Int)) (n : Nat) : lostN al zss (n + 1) = if keepL al (atP zss n) = [] then lostN al zss n ++ [(n : Int)] else lostN al zss n := by
  simp only [lostN, List.range_succ, List.filter_append, List.map_append]
  split <;> rename_i h <;> simp [h]
theorem lostN_len (al : List Bool) (zss : List (List Int)) (n : Nat) : (lostN al zss n).length ≤ n := by
  rw [lostN, List.length_map]
  exact Nat.le_trans (List.length_filter_le _ _) (by simp)
end Go.Proofs.Ytgohihcpmjfhdaa
