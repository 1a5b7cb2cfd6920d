/- L6At; CopI: joined. -/
import Derived.Test.YtooalbdlknheeaaGreatRows
import Derived.Test.YtooalbdlknheeaaGreatMacOkIJ
import Derived.WalkKit
import Derived.WalkSpells
import Derived.WalkLawsBesides
import Derived.Below
import Derived.Test.YtooalbdlknheeaaGreatTakeJ
import Derived.Test.YtooalbdlknheeaaGreatJ43LawMachines
/- Where a machine's copy of a region is, by the specification. -/
namespace Go.Proofs.YtooalbdlknheeaaGreat
open Go.RowKit
set_option maxHeartbeats 2000000 in
theorem l6At_any (w : World) (v : MV) (m : M4) (y : Int) (hl : ML m) (hs : SlM w v m) :
    Calls Tryz.prog 106 #[v.val m, .int .i64 y] w fun e w' => (∃ i : Int, e = .returned (.int .i64 i) ∧ FirstAt (fun j => decide ((atK m.copies j).region = y)) m.copies.length i) ∧ Below w.heap.size w w' := by
  obtain ⟨ac, cc, al, cl, ad, cd⟩ := v
  simp only [MV.val]
  have hn := hl.k
  unfold maxLen at hn
  have b0 : Below w.heap.size w (w.alloc (.cells #[.bool m.alive, .slice ac m.copies.length cc, .slice al m.log.length cl, .slice ad m.cleared.length cd] 28)) := (Below.refl _ _).alloc (Nat.le_refl _) _
  have c1 : (w.alloc (.cells #[.bool m.alive, .slice ac m.copies.length cc, .slice al m.log.length cl, .slice ad m.cleared.length cd] 28)).cell? ⟨w.heap.size, 1, none⟩ = some (.slice ac m.copies.length cc) := by go_simp
  have H : Hid (SlM (w.alloc (.cells #[.bool m.alive, .slice ac m.copies.length cc, .slice al m.log.length cl, .slice ad m.cleared.length cd] 28)) ⟨ac, cc, al, cl, ad, cd⟩ m ∧ Below w.heap.size w (w.alloc (.cells #[.bool m.alive, .slice ac m.copies.length cc, .slice al m.log.length cl, .slice ad m.cleared.length cd] 28))) := ⟨hs.later b0, b0⟩
  clear hs b0 hl
  go_enter Tryz.func106, Tryz.ntmps106
  go_wp2
  generalize w.alloc (.cells #[.bool m.alive, .slice ac m.copies.length cc, .slice al m.log.length cl, .slice ad m.cleared.length cd] 28) = W at *
  go_loop [5] (fun v => ∃ j : Nat, j ≤ m.copies.length ∧ v = .int .i64 j ∧ ∀ t, t < j → (atK m.copies t).region ≠ y) (fun v => m.copies.length - (intOf v).toNat)
  case atStart => exact ⟨0, Nat.zero_le _, rfl, fun t h => absurd h (by omega)⟩
  case round =>
    obtain ⟨j, hj, rfl, hlo⟩ := hrel
    have HL := hidOf hlo
    clear hlo
    by_cases hlt : j < m.copies.length
    · obtain ⟨_, hk⟩ := H.out.1.k
      simp only [] at hk
      rcases hk with hk | ⟨b, off, rfl, hb, h1⟩
      · omega
      have k0 := (h1 j _ (atK_of hlt)).c0
      clear h1
      by_cases he : (atK m.copies j).region = y
      · have q : ((atK m.copies j).region == y) = true := by simp [he]
        have HE := hidOf he
        clear he
        go_wp2
        go_ret
        exact ⟨⟨_, rfl, .inr ⟨j, rfl, hlt, by simp [HE.out], fun t ht => by simp [HL.out t ht]⟩⟩, H.out.2⟩
      · have q : ((atK m.copies j).region == y) = false := by simp [he]
        have HE := hidOf he
        clear he
        go_wp2
        exact ⟨⟨j + 1, by omega, by simp, fun t ht => by
          by_cases e : t = j
          · rw [e]; exact HE.out
          · exact HL.out t (by omega)⟩, by simp [intOf]; omega⟩
    · obtain rfl : j = m.copies.length := by omega
      have hd : decide ((m.copies.length : Int) < (m.copies.length : Int)) = false := by simp
      go_wp2
      go_ret
      exact ⟨⟨_, rfl, .inl ⟨rfl, fun t ht => by simp [HL.out t ht]⟩⟩, H.out.2⟩
theorem first_ex (f : Nat → Bool) : ∀ n, ∃ i, FirstAt f n i
  | 0 => ⟨-1, .inl ⟨rfl, fun j hj => by omega⟩⟩
  | n + 1 => by
    obtain ⟨i, h⟩ := first_ex f n
    rcases h with ⟨rfl, h⟩ | ⟨k, rfl, hk, h1, h2⟩
    · by_cases e : f n = true
      · exact ⟨n, .inr ⟨n, rfl, by omega, e, h⟩⟩
      · refine ⟨-1, .inl ⟨rfl, fun j hj => ?_⟩⟩
        by_cases ej : j = n
        · rw [ej]; simpa using e
        · exact h j (by omega)
    · exact ⟨k, .inr ⟨k, rfl, by omega, h1, h2⟩⟩
theorem first_un {f : Nat → Bool} {n : Nat} {i j : Int} (h : FirstAt f n i) (h' : FirstAt f n j) : i = j := by
  rcases h with ⟨rfl, h⟩ | ⟨k, rfl, hk, h1, h2⟩ <;> rcases h' with ⟨rfl, h'⟩ | ⟨l, rfl, hl, g1, g2⟩
  · rfl
  · rw [h l hl] at g1; cases g1
  · rw [h' k hk] at h1; cases h1
  · have : ¬ k < l := fun e => by rw [g2 k e] at h1; cases h1
    have : ¬ l < k := fun e => by rw [h2 l e] at g1; cases g1
    omega
/-- Where a machine's copy of a region is, or -1. -/
noncomputable def idxC (m : M4) (y : Int) : Int := Classical.choose (first_ex (fun j => decide ((atK m.copies j).region = y)) m.copies.length)
theorem idxC_first (m : M4) (y : Int) : FirstAt (fun j => decide ((atK m.copies j).region = y)) m.copies.length (idxC m y) := Classical.choose_spec _
/-- Has a machine a copy of a region? -/
def hasC (m : M4) (y : Int) : Bool := !((List.range m.copies.length).all fun j => !decide ((atK m.copies j).region = y))
theorem idxC_lt (m : M4) (y : Int) : decide (idxC m y < 0) = !hasC m y := by
  have h := first_has (idxC_first m y)
  unfold hasC
  rw [← h]
  by_cases e : 0 ≤ idxC m y
  · simp [e, show ¬ idxC m y < 0 by omega]
  · simp [e, show idxC m y < 0 by omega]
theorem l6At_v (w : World) (a : Option Addr) (b : Nat) (c : Option Addr) (d : Nat) (e : Option Addr) (f : Nat) (m : M4) (y : Int) (hl : ML m) (hs : SlM w ⟨a, b, c, d, e, f⟩ m) :
    Calls Tryz.prog 106 #[.agg #[.bool m.alive, .slice a m.copies.length b, .slice c m.log.length d, .slice e m.cleared.length f], .int .i64 y] w fun r w' => r = .returned (.int .i64 (idxC m y)) ∧ Below w.heap.size w w' := by
  have hh := l6At_any w ⟨a, b, c, d, e, f⟩ m y hl hs
  simp only [MV.val] at hh
  refine hh.mono ?_
  rintro r w' ⟨⟨i, rfl, hi⟩, hb⟩
  exact ⟨by rw [first_un hi (idxC_first m y)], hb⟩
end Go.Proofs.YtooalbdlknheeaaGreat
/- What the program's Copied and the specification's answer at every machine and region: one and the same. -/
namespace Go.Proofs.YtooalbdlknheeaaGreat
open Go.RowKit
def ansC (m : M4) (y : Int) : Option (List C2) := if machB m = true then (m.copies.find? fun k => decide (k.region = y)).map K2.cells else none
def ansL (m : M4) (y : Int) : List C2 := (ansC m y).getD []
def ansB (m : M4) (y : Int) : Bool := (ansC m y).isSome
/-- A row of cells of a call's own, from block base on: none, or at the head of a block. -/
def OwnCl (w : World) (base : Nat) (a : Option Addr) (xs : List C2) : Prop := xs = [] ∨ ∃ q, a = some ⟨q, 0, none⟩ ∧ base ≤ q ∧ q < w.heap.size ∧ CellsAt w q 0 xs ∧ Room w q (xs.length * 2)
theorem OwnCl.sl {w : World} {base : Nat} {a : Option Addr} {xs : List C2} (h : OwnCl w base a xs) : SlC w w.heap.size a xs.length xs := by
  rcases h with rfl | ⟨q, rfl, h1, h2, h3, _⟩
  · exact ⟨rfl, .inl rfl⟩
  · exact ⟨rfl, .inr ⟨q, 0, rfl, h2, h3⟩⟩
theorem find_at {ks : List K2} {y : Int} {k : Nat} (hk : k < ks.length) (h : (atK ks k).region = y) (hlo : ∀ j, j < k → (atK ks j).region ≠ y) : ks.find? (fun c => decide (c.region = y)) = some (atK ks k) := by
  induction ks generalizing k with
  | nil => simp at hk
  | cons c ks ih =>
    cases k with
    | zero =>
      have h0 : c.region = y := h
      rw [List.find?_cons_of_pos (by simpa using h0)]; rfl
    | succ k =>
      have h0 : c.region ≠ y := hlo 0 (by omega)
      rw [List.find?_cons_of_neg (by simpa using h0)]
      exact ih (k := k) (by simpa using hk) h (fun j hj => hlo (j + 1) (by omega))
theorem find_none {ks : List K2} {y : Int} (h : ∀ j, j < ks.length → (atK ks j).region ≠ y) : ks.find? (fun c => decide (c.region = y)) = none := by
  rw [List.find?_eq_none]
  intro c hc
  obtain ⟨i, hi, rfl⟩ := List.getElem_of_mem hc
  have := h i hi
  rw [atK, List.getElem?_eq_getElem hi] at this
  simpa using this
theorem ansC_first {m : M4} {y : Int} {k : Nat} (hB : machB m = true) (hk : k < m.copies.length) (h : (atK m.copies k).region = y) (hlo : ∀ j, j < k → (atK m.copies j).region ≠ y) : ansC m y = some (atK m.copies k).cells := by
  rw [ansC, if_pos hB, find_at hk h hlo]; rfl
theorem ansC_none {m : M4} {y : Int} (h : ∀ j, j < m.copies.length → (atK m.copies j).region ≠ y) : ansC m y = none := by
  unfold ansC
  rw [find_none h]; simp
theorem ansC_bad {m : M4} (y : Int) (hB : machB m = false) : ansC m y = none := by simp [ansC, hB]
theorem mach_up {m : M4} (hB : machB m = true) : UpR m.copies := by
  rw [machB_eq] at hB
  simp only [Bool.and_eq_true] at hB
  have := hB.1.1
  rw [copsB, copB_eq, Bool.and_eq_true] at this
  exact UpR.of_all this.1
end Go.Proofs.YtooalbdlknheeaaGreat
