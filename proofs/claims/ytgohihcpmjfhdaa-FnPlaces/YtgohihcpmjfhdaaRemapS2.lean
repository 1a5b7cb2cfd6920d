/- What the specification's Remap answers at every two rows. -/
import Derived.Test.YtgohihcpmjfhdaaRows
import Derived.Test.YtgohihcpmjfhdaaRemapS
import Derived.WalkKit
import Derived.WalkSpells
import Derived.WalkLawsBesides
import Derived.Below
namespace Go.Proofs.Ytgohihcpmjfhdaa
open Go.RowKit
def remapL (zss : List (List Int)) (al : List Bool) : List (List Int) := if remapB zss al = true then remapN al zss zss.length else []
def lostL (zss : List (List Int)) (al : List Bool) : List Int := if remapB zss al = true then lostN al zss zss.length else []
/-- What Remap leaves: both answers own their memory, apart from each other. -/
def RemapPost (w : World) (zss : List (List Int)) (al : List Bool) (e : Ending) (w' : World) : Prop :=
  ∃ b cp g q cq, e = .returned (.tuple #[.slice (some ⟨b, 0, none⟩) (remapL zss al).length cp, .slice (some ⟨q, 0, none⟩) (lostL zss al).length cq]) ∧ OwnP w' w.heap.size b (remapL zss al).length (remapL zss al) g ∧ b < w'.heap.size
      ∧ ON w' w.heap.size (.slice (some ⟨q, 0, none⟩) (lostL zss al).length cq) (lostL zss al) ∧ q ≠ b ∧ (∀ i, i < (remapL zss al).length → g i ≠ q) ∧ Below w.heap.size w w'
set_option maxHeartbeats 2000000 in
theorem specRemap_out (w : World) (a : Option Addr) (n cap : Nat) (zss : List (List Int)) (a' : Option Addr) (n' cap' : Nat) (al : List Bool) (hn : n ≤ maxLen) (hs : SlP w w.heap.size a n zss) (hl : al.length = n') (hbad : remapB zss al = false) :
    Calls Try.prog 12 #[.slice a n cap, .slice a' n' cap'] w fun e w' => RemapPost w zss al e w' := by
  have hR : remapL zss al = [] := by simp [remapL, hbad]
  have hL : lostL zss al = [] := by simp [lostL, hbad]
  unfold RemapPost
  rw [hR, hL]
  have b0 : Below w.heap.size w ((w.alloc (.cells #[] 2)).alloc (.cells #[] 40)) := ((Below.refl _ _).alloc (Nat.le_refl _) _).alloc (by simp) _
  have fin : ∀ w1, Below (w.heap.size + 2) ((w.alloc (.cells #[] 2)).alloc (.cells #[] 40)) w1 → OwnP w1 w.heap.size (w.heap.size + 1) 0 [] (fun _ => 0) ∧ w.heap.size + 1 < w1.heap.size ∧ ON w1 w.heap.size (.slice (some ⟨w.heap.size, 0, none⟩) 0 0) [] ∧ Below w.heap.size w w1 := fun w1 h => by
    have hs1 := h.size
    have e2 : ((w.alloc (.cells #[] 2)).alloc (.cells #[] 40)).heap.size = w.heap.size + 2 := by simp
    exact ⟨OwnP.nil _ _ _ _, by omega, (rs_begin al zss h).lost, b0.trans (h.mono (by omega))⟩
  have FIN : Hid _ := fin
  go_enter Try.func12, Try.ntmps12
  go_wp2_with fail
  refine (specPlacesOk_any ((w.alloc (.cells #[] 2)).alloc (.cells #[] 40)) a n cap zss hn (hs.later b0)).mono ?_
  clear hs b0 fin hR hL
  cases hp : placesB zss with
  | false =>
    rintro e w1 ⟨rfl, b1⟩
    have B1 : Hid (Below (w.heap.size + 2) ((w.alloc (.cells #[] 2)).alloc (.cells #[] 40)) w1) := by unfold Hid; simpa using b1
    clear b1
    go_wp2
    refine bodyPost_ret (v := .tuple #[.slice (some ⟨w.heap.size + 1, 0, none⟩) 0 0, .slice (some ⟨w.heap.size, 0, none⟩) 0 0]) (by simp [results, Try.results12, go_sem]) rfl ?_
    obtain ⟨h1, h2, h3, h4⟩ := FIN.out w1 B1.out
    exact ⟨_, _, _, _, _, rfl, h1, h2, h3, by omega, fun i hi => by simp at hi, h4⟩
  | true =>
    have hd8 : decide ((8 : Int) < (n' : Int)) = true := by
      simp only [remapB, hp, Bool.true_and, decide_eq_false_iff_not] at hbad
      simp; omega
    rintro e w1 ⟨rfl, b1⟩
    have B1 : Hid (Below (w.heap.size + 2) ((w.alloc (.cells #[] 2)).alloc (.cells #[] 40)) w1) := by unfold Hid; simpa using b1
    clear b1
    go_wp2
    refine bodyPost_ret (v := .tuple #[.slice (some ⟨w.heap.size + 1, 0, none⟩) 0 0, .slice (some ⟨w.heap.size, 0, none⟩) 0 0]) (by simp [results, Try.results12, go_sem]) rfl ?_
    obtain ⟨h1, h2, h3, h4⟩ := FIN.out w1 B1.out
    exact ⟨_, _, _, _, _, rfl, h1, h2, h3, by omega, fun i hi => by simp at hi, h4⟩
/-- At every two rows. -/
theorem specRemap_any (w : World) (a : Option Addr) (n cap : Nat) (zss : List (List Int)) (a' : Option Addr) (n' cap' : Nat) (al : List Bool) (hn : n ≤ maxLen) (hs : SlP w w.heap.size a n zss) (hs' : SlB w w.heap.size a' n' al) :
    Calls Try.prog 12 #[.slice a n cap, .slice a' n' cap'] w fun e w' => RemapPost w zss al e w' := by
  cases h : remapB zss al with
  | false => exact specRemap_out w a n cap zss a' n' cap' al hn hs hs'.1 h
  | true =>
    have hx := hs.1
    have h' := h
    simp only [remapB, Bool.and_eq_true, decide_eq_true_eq] at h'
    refine (specRemap_in w a n cap zss a' n' cap' al hn hs hs' h'.1 (by have := hs'.1; omega)).mono ?_
    have hR : remapL zss al = remapN al zss n := by simp [remapL, h, hx]
    have hL : lostL zss al = lostN al zss n := by simp [lostL, h, hx]
    rintro e w1 ⟨b, cp, g, q, cq, rfl, h1, h2, h3, h4, h5, h6⟩
    unfold RemapPost
    rw [hR, hL, remapN_len]
    exact ⟨b, cp, g, q, cq, rfl, h1, h2, h3, h4, h5, h6⟩
end Go.Proofs.Ytgohihcpmjfhdaa
