/- Places of a call's own, nil or not; the laws' marks in them. -/
import Derived.Test.YtgohihcpmjfhdaaRows
import Derived.Test.YtgohihcpmjfhdaaPlsM
import Derived.WalkKit
import Derived.WalkSpells
import Derived.WalkLawsBesides
import Derived.Below
namespace Go.Proofs.Ytgohihcpmjfhdaa
open Go.RowKit
/-- The slice (a, n) is nil and zss is empty, or it lies at the head of a block of the call's own, with all its rows. -/
def OwnQ (w : World) (base : Nat) (a : Option Addr) (n : Nat) (zss : List (List Int)) (g : Nat → Nat) : Prop :=
  (a = none ∧ n = 0 ∧ zss = []) ∨ ∃ b, a = some ⟨b, 0, none⟩ ∧ base ≤ b ∧ b < w.heap.size ∧ OwnP w base b n zss g
theorem OwnQ.sl {w : World} {base : Nat} {a : Option Addr} {n : Nat} {zss : List (List Int)} {g : Nat → Nat} (h : OwnQ w base a n zss g) : SlP w w.heap.size a n zss := by
  rcases h with ⟨rfl, rfl, rfl⟩ | ⟨b, rfl, _, hb, ho⟩
  · exact ⟨rfl, .inl rfl⟩
  · exact ho.sl hb
theorem OwnQ.later {w w' : World} {base : Nat} {a : Option Addr} {n : Nat} {zss : List (List Int)} {g : Nat → Nat} (h : OwnQ w base a n zss g) (hb : Below w.heap.size w w') : OwnQ w' base a n zss g := by
  rcases h with h | ⟨b, rfl, hb1, hb2, ho⟩
  · exact .inl h
  · exact .inr ⟨b, rfl, hb1, Nat.lt_of_lt_of_le hb2 hb.size, ho.later hb hb2⟩
theorem OwnQ.low {w : World} {base : Nat} {a : Option Addr} {n : Nat} {zss : List (List Int)} {g : Nat → Nat} (h : OwnQ w base a n zss g) : ∀ i, i < n → base ≤ g i := by
  rcases h with ⟨_, rfl, _⟩ | ⟨b, rfl, _, _, ho⟩
  · intro i hi; omega
  · exact ho.low
theorem OwnQ.lt {w : World} {base : Nat} {a : Option Addr} {n : Nat} {zss : List (List Int)} {g : Nat → Nat} (h : OwnQ w base a n zss g) : ∀ i, i < n → g i < w.heap.size := by
  rcases h with ⟨_, rfl, _⟩ | ⟨b, rfl, _, _, ho⟩
  · intro i hi; omega
  · exact ho.lt
/-- The same where its blocks are as they were. -/
theorem OwnQ.kept {w w' : World} {base : Nat} {a : Option Addr} {n : Nat} {zss : List (List Int)} {g : Nat → Nat} (h : OwnQ w base a n zss g) (hs : w.heap.size ≤ w'.heap.size) (eb : ∀ b, a = some ⟨b, 0, none⟩ → w'.heap[b]? = w.heap[b]?) (eg : ∀ i, i < n → w'.heap[g i]? = w.heap[g i]?) : OwnQ w' base a n zss g := by
  rcases h with h | ⟨b, rfl, hb1, hb2, ho⟩
  · exact .inl h
  · exact .inr ⟨b, rfl, hb1, Nat.lt_of_lt_of_le hb2 hs, ho.of_blocks hs (eb b rfl) eg⟩
theorem markPlaceS_nil (w : World) (cap : Nat) (k : Int) : Calls Try.prog 25 #[.slice none 0 cap, .int .i64 k] w fun e w' => e = .returned (.int .i64 k) ∧ w' = w := by
  go_enter Try.func25, Try.ntmps25
  go_wp2
  go_loop [1, 5] (fun v1 v5 => v5 = .int .i64 0 ∧ v1 = .int .i64 k) (fun _ _ => 0)
  case atStart => exact ⟨rfl, rfl⟩
  case round =>
    obtain ⟨rfl, rfl⟩ := hrel
    go_wp2
    go_ret
    exact ⟨rfl, rfl⟩
theorem markPlaceS_q (w : World) (base : Nat) (a : Option Addr) (n cap : Nat) (zss : List (List Int)) (g : Nat → Nat) (k : Int) (hn : n ≤ 1048576) (hl : lens zss ≤ 1048576) (hk : 0 ≤ k) (hk' : k ≤ 100000000) (h : OwnQ w base a n zss g) :
    Calls Try.prog 25 #[.slice a n cap, .int .i64 k] w fun e w' => e = .returned (.int .i64 (k + lens zss)) ∧ Kept g n w w' ∧ OwnQ w' base a n (markPs zss k) g := by
  rcases h with ⟨rfl, rfl, rfl⟩ | ⟨b, rfl, hb1, hb2, ho⟩
  · refine (markPlaceS_nil w cap k).mono ?_
    rintro e w' ⟨rfl, rfl⟩
    exact ⟨by simp [lens], Kept.refl _ _ _, .inl ⟨rfl, rfl, rfl⟩⟩
  · refine (markPlaceS_own w base b n cap zss g k hn hl hk hk' ho).mono ?_
    rintro e w' ⟨rfl, kp, o⟩
    exact ⟨rfl, kp, .inr ⟨b, rfl, hb1, by rw [kp.size]; exact hb2, o⟩⟩
end Go.Proofs.Ytgohihcpmjfhdaa
