/- slices.IndexFunc and ContainsFunc over rows of records, of copies and of numbers: the first element that a function holds of. -/
import Derived.Test.YtooalbdlknheeaaGreatRows
import Derived.Test.YtooalbdlknheeaaGreatJ3LawMachines
import Derived.WalkKit
import Derived.WalkSpells
import Derived.WalkLawsBesides
import Derived.Below
namespace Go.Proofs.YtooalbdlknheeaaGreat
open Go.RowKit
def R4.val (r : R4) (a : Option Addr) (cap : Nat) : Value := .agg #[.int .i64 r.kind, .int .i64 r.tx, .int .i64 r.region, .slice a r.sets.length cap]
def K2.val (k : K2) (a : Option Addr) (cap : Nat) : Value := .agg #[.int .i64 k.region, .slice a k.cells.length cap]
/-- The first place at which f holds, or none. -/
def FirstAt (f : Nat → Bool) (n : Nat) (i : Int) : Prop := (i = -1 ∧ ∀ j, j < n → f j = false) ∨ ∃ k : Nat, i = (k : Int) ∧ k < n ∧ f k = true ∧ ∀ j, j < k → f j = false
theorem first_has {f : Nat → Bool} {n : Nat} {i : Int} (h : FirstAt f n i) : decide (0 ≤ i) = !((List.range n).all fun j => !f j) := by
  rcases h with ⟨rfl, h⟩ | ⟨k, rfl, hk, h, _⟩
  · have : ((List.range n).all fun j => !f j) = true := by
      rw [List.all_eq_true]; intro j hj; rw [h j (List.mem_range.1 hj)]; rfl
    rw [this]; rfl
  · have : ((List.range n).all fun j => !f j) = false := by
      rw [List.all_eq_false]; exact ⟨k, List.mem_range.2 hk, by simp [h]⟩
    rw [this]; simp
theorem hidOf {p : Prop} (h : p) : Hid p := h
/-- What the function answers of each element, wherever it lies. -/
def idxLogF (w : World) (n : Nat) (rs : List R4)  (f : Nat → Bool) : Prop :=
  ∀ (X : World) (i : Nat) (a' : Option Addr) (cap' : Nat), Below w.heap.size w X → i < n → Sl X X.heap.size a' (atR rs i).sets.length (atR rs i).sets → Calls Tryz.prog 128 #[(atR rs i).val a' cap'] X fun e w' => e = .returned (.bool (f i)) ∧ Below X.heap.size X w'
set_option maxHeartbeats 2000000 in
theorem idxLog (w : World) (a : Option Addr) (n cap : Nat) (rs : List R4)  (f : Nat → Bool) (hn : n ≤ maxLen) (hs : SlR w w.heap.size a n rs) (hf : idxLogF w n rs  f) :
    Calls Tryz.prog 142 #[.slice a n cap, .func (.func 128) #[] #[]] w fun e w' => (∃ i : Int, e = .returned (.int .i64 i) ∧ FirstAt f n i) ∧ Below w.heap.size w w' := by
  unfold maxLen at hn
  obtain ⟨hx, hs⟩ := hs
  have HF := hidOf hf
  clear hf
  go_enter Tryz.func142, Tryz.ntmps142
  go_wp2
  go_loopw [8] (fun v wr => ∃ j : Nat, j ≤ n ∧ v = .int .i64 j ∧ Below w.heap.size w wr ∧ ∀ i, i < j → f i = false) (fun v _ => n - (intOf v).toNat)
  case atStart => exact ⟨0, Nat.zero_le _, rfl, Below.refl _ _, fun i h => absurd h (by omega)⟩
  case round =>
    obtain ⟨j, hj, rfl, hbl, hall⟩ := hrel
    by_cases hlt : j < n
    · rcases hs with hs | ⟨b, off, rfl, hb, h1⟩
      · omega
      · have hr := (h1 j _ (atR_of (by omega))).below hbl hb
        have c0 := hr.c0
        have c1 := hr.c1
        have c2 := hr.c2
        obtain ⟨a', cap', c3, hsl, hcp⟩ := hr.c3
        have KA : Hid ((∀ i, i < j → f i = false) ∧ Below w.heap.size w wr) := ⟨hall, hbl⟩
        have hw := HF.out wr j a' cap' hbl hlt (hsl.mono hbl.size)
        simp only [R4.val] at hw
        clear h1 hr hall hsl hbl hcp
        generalize (atR rs j).sets.length = ln at *
        cases hp : f j with
        | true =>
          rw [hp] at hw
          go_wp2_with fail
          refine hw.mono ?_
          clear hw
          rintro e w1 ⟨rfl, b1⟩
          go_wp2
          go_ret
          exact ⟨⟨_, rfl, .inr ⟨j, rfl, hlt, hp, KA.out.1⟩⟩, KA.out.2.trans (b1.mono KA.out.2.size)⟩
        | false =>
          rw [hp] at hw
          go_wp2_with fail
          refine hw.mono ?_
          clear hw
          rintro e w1 ⟨rfl, b1⟩
          go_wp2
          exact ⟨⟨j + 1, by omega, by simp, KA.out.2.trans (b1.mono KA.out.2.size), fun i hi => by
            by_cases e : i = j
            · rw [e]; exact hp
            · exact KA.out.1 i (by omega)⟩, by simp [intOf]; omega⟩
    · have : j = n := by omega
      subst this
      have hd : decide ((j : Int) < (j : Int)) = false := by simp
      have KA : Hid (∀ i, i < j → f i = false) := hall
      clear hs hall
      go_wp2
      go_ret
      exact ⟨⟨_, rfl, .inl ⟨rfl, KA.out⟩⟩, hbl⟩
theorem idxLogHas (w : World) (a : Option Addr) (n cap : Nat) (rs : List R4) (f : Nat → Bool) (hn : n ≤ maxLen) (hs : SlR w w.heap.size a n rs) (hf : idxLogF w n rs f) :
    Calls Tryz.prog 129 #[.slice a n cap, .func (.func 128) #[] #[]] w fun e w' => e = .returned (.bool (!((List.range n).all fun j => !f j))) ∧ Below w.heap.size w w' := by
  have hi := idxLog w a n cap rs f hn hs hf
  clear hs hf
  go_enter Tryz.func129, Tryz.ntmps129
  go_wp2_with fail
  refine hi.mono ?_
  clear hi
  rintro e w1 ⟨⟨i, rfl, hb0⟩, b1⟩
  have hb := first_has hb0
  clear hb0
  generalize hV : (!((List.range n).all fun j => !f j)) = V at hb
  go_wp2
  go_ret
  exact ⟨by rw [hV]; rfl, b1⟩
/-- What the function answers of each element, wherever it lies. -/
def idxCopF (w : World) (n : Nat) (rs : List K2)  (f : Nat → Bool) : Prop :=
  ∀ (X : World) (i : Nat) (a' : Option Addr) (cap' : Nat), Below w.heap.size w X → i < n → SlC X X.heap.size a' (atK rs i).cells.length (atK rs i).cells → Calls Tryz.prog 124 #[(atK rs i).val a' cap'] X fun e w' => e = .returned (.bool (f i)) ∧ Below X.heap.size X w'
set_option maxHeartbeats 2000000 in
theorem idxCop (w : World) (a : Option Addr) (n cap : Nat) (rs : List K2)  (f : Nat → Bool) (hn : n ≤ maxLen) (hs : SlK w w.heap.size a n rs) (hf : idxCopF w n rs  f) :
    Calls Tryz.prog 164 #[.slice a n cap, .func (.func 124) #[] #[]] w fun e w' => (∃ i : Int, e = .returned (.int .i64 i) ∧ FirstAt f n i) ∧ Below w.heap.size w w' := by
  unfold maxLen at hn
  obtain ⟨hx, hs⟩ := hs
  have HF := hidOf hf
  clear hf
  go_enter Tryz.func164, Tryz.ntmps164
  go_wp2
  go_loopw [8] (fun v wr => ∃ j : Nat, j ≤ n ∧ v = .int .i64 j ∧ Below w.heap.size w wr ∧ ∀ i, i < j → f i = false) (fun v _ => n - (intOf v).toNat)
  case atStart => exact ⟨0, Nat.zero_le _, rfl, Below.refl _ _, fun i h => absurd h (by omega)⟩
  case round =>
    obtain ⟨j, hj, rfl, hbl, hall⟩ := hrel
    by_cases hlt : j < n
    · rcases hs with hs | ⟨b, off, rfl, hb, h1⟩
      · omega
      · have hr := (h1 j _ (atK_of (by omega))).below hbl hb
        have c0 := hr.c0
        obtain ⟨a', cap', c1, hsl, hcp⟩ := hr.c1
        have KA : Hid ((∀ i, i < j → f i = false) ∧ Below w.heap.size w wr) := ⟨hall, hbl⟩
        have hw := HF.out wr j a' cap' hbl hlt (hsl.mono hbl.size)
        simp only [K2.val] at hw
        clear h1 hr hall hsl hbl hcp
        generalize (atK rs j).cells.length = ln at *
        cases hp : f j with
        | true =>
          rw [hp] at hw
          go_wp2_with fail
          refine hw.mono ?_
          clear hw
          rintro e w1 ⟨rfl, b1⟩
          go_wp2
          go_ret
          exact ⟨⟨_, rfl, .inr ⟨j, rfl, hlt, hp, KA.out.1⟩⟩, KA.out.2.trans (b1.mono KA.out.2.size)⟩
        | false =>
          rw [hp] at hw
          go_wp2_with fail
          refine hw.mono ?_
          clear hw
          rintro e w1 ⟨rfl, b1⟩
          go_wp2
          exact ⟨⟨j + 1, by omega, by simp, KA.out.2.trans (b1.mono KA.out.2.size), fun i hi => by
            by_cases e : i = j
            · rw [e]; exact hp
            · exact KA.out.1 i (by omega)⟩, by simp [intOf]; omega⟩
    · have : j = n := by omega
      subst this
      have hd : decide ((j : Int) < (j : Int)) = false := by simp
      have KA : Hid (∀ i, i < j → f i = false) := hall
      clear hs hall
      go_wp2
      go_ret
      exact ⟨⟨_, rfl, .inl ⟨rfl, KA.out⟩⟩, hbl⟩
theorem idxCopHas (w : World) (a : Option Addr) (n cap : Nat) (rs : List K2) (f : Nat → Bool) (hn : n ≤ maxLen) (hs : SlK w w.heap.size a n rs) (hf : idxCopF w n rs f) :
    Calls Tryz.prog 127 #[.slice a n cap, .func (.func 124) #[] #[]] w fun e w' => e = .returned (.bool (!((List.range n).all fun j => !f j))) ∧ Below w.heap.size w w' := by
  have hi := idxCop w a n cap rs f hn hs hf
  clear hs hf
  go_enter Tryz.func127, Tryz.ntmps127
  go_wp2_with fail
  refine hi.mono ?_
  clear hi
  rintro e w1 ⟨⟨i, rfl, hb0⟩, b1⟩
  have hb := first_has hb0
  clear hb0
  generalize hV : (!((List.range n).all fun j => !f j)) = V at hb
  go_wp2
  go_ret
  exact ⟨by rw [hV]; rfl, b1⟩
/-- What the function answers of each element, wherever it lies. -/
def idxNumF (w : World) (n : Nat) (rs : List Int)  (f : Nat → Bool) : Prop :=
  ∀ (X : World) (i : Nat) , Below w.heap.size w X → i < n → True → Calls Tryz.prog 130 #[.int .i64 (atN rs i)] X fun e w' => e = .returned (.bool (f i)) ∧ Below X.heap.size X w'
set_option maxHeartbeats 2000000 in
theorem idxNum (w : World) (a : Option Addr) (n cap : Nat) (rs : List Int)  (f : Nat → Bool) (hn : n ≤ maxLen) (hs : SlN w w.heap.size a n rs) (hf : idxNumF w n rs  f) :
    Calls Tryz.prog 165 #[.slice a n cap, .func (.func 130) #[] #[]] w fun e w' => (∃ i : Int, e = .returned (.int .i64 i) ∧ FirstAt f n i) ∧ Below w.heap.size w w' := by
  unfold maxLen at hn
  obtain ⟨hx, hs⟩ := hs
  have HF := hidOf hf
  clear hf
  go_enter Tryz.func165, Tryz.ntmps165
  go_wp2
  go_loopw [8] (fun v wr => ∃ j : Nat, j ≤ n ∧ v = .int .i64 j ∧ Below w.heap.size w wr ∧ ∀ i, i < j → f i = false) (fun v _ => n - (intOf v).toNat)
  case atStart => exact ⟨0, Nat.zero_le _, rfl, Below.refl _ _, fun i h => absurd h (by omega)⟩
  case round =>
    obtain ⟨j, hj, rfl, hbl, hall⟩ := hrel
    by_cases hlt : j < n
    · rcases hs with hs | ⟨b, off, rfl, hb, h1⟩
      · omega
      · have c0 := (hbl.cell (p := ⟨b, off + j, none⟩) hb).trans (h1 j _ (atN_of (by omega)))
        have KA : Hid ((∀ i, i < j → f i = false) ∧ Below w.heap.size w wr) := ⟨hall, hbl⟩
        have hw := HF.out wr j hbl hlt trivial
        clear h1 hall hbl
        cases hp : f j with
        | true =>
          rw [hp] at hw
          go_wp2_with fail
          refine hw.mono ?_
          clear hw
          rintro e w1 ⟨rfl, b1⟩
          go_wp2
          go_ret
          exact ⟨⟨_, rfl, .inr ⟨j, rfl, hlt, hp, KA.out.1⟩⟩, KA.out.2.trans (b1.mono KA.out.2.size)⟩
        | false =>
          rw [hp] at hw
          go_wp2_with fail
          refine hw.mono ?_
          clear hw
          rintro e w1 ⟨rfl, b1⟩
          go_wp2
          exact ⟨⟨j + 1, by omega, by simp, KA.out.2.trans (b1.mono KA.out.2.size), fun i hi => by
            by_cases e : i = j
            · rw [e]; exact hp
            · exact KA.out.1 i (by omega)⟩, by simp [intOf]; omega⟩
    · have : j = n := by omega
      subst this
      have hd : decide ((j : Int) < (j : Int)) = false := by simp
      have KA : Hid (∀ i, i < j → f i = false) := hall
      clear hs hall
      go_wp2
      go_ret
      exact ⟨⟨_, rfl, .inl ⟨rfl, KA.out⟩⟩, hbl⟩
theorem idxNumHas (w : World) (a : Option Addr) (n cap : Nat) (rs : List Int) (f : Nat → Bool) (hn : n ≤ maxLen) (hs : SlN w w.heap.size a n rs) (hf : idxNumF w n rs f) :
    Calls Tryz.prog 133 #[.slice a n cap, .func (.func 130) #[] #[]] w fun e w' => e = .returned (.bool (!((List.range n).all fun j => !f j))) ∧ Below w.heap.size w w' := by
  have hi := idxNum w a n cap rs f hn hs hf
  clear hs hf
  go_enter Tryz.func133, Tryz.ntmps133
  go_wp2_with fail
  refine hi.mono ?_
  clear hi
  rintro e w1 ⟨⟨i, rfl, hb0⟩, b1⟩
  have hb := first_has hb0
  clear hb0
  generalize hV : (!((List.range n).all fun j => !f j)) = V at hb
  go_wp2
  go_ret
  exact ⟨by rw [hV]; rfl, b1⟩
end Go.Proofs.YtooalbdlknheeaaGreat
