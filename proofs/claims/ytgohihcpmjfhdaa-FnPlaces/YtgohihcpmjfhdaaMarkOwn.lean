/- The laws' marks in rows of numbers of a call's own, nil or not. -/
import Derived.Test.YtgohihcpmjfhdaaRows
import Derived.Test.YtgohihcpmjfhdaaNumMark
import Derived.Test.YtgohihcpmjfhdaaNumOwn
import Derived.Test.YtgohihcpmjfhdaaPls
import Derived.WalkKit
import Derived.WalkSpells
import Derived.WalkLawsBesides
import Derived.Below
namespace Go.Proofs.Ytgohihcpmjfhdaa
open Go.RowKit
theorem ON.sl {w : World} {base : Nat} {a : Option Addr} {n cap : Nat} {zs : List Int} (h : ON w base (.slice a n cap) zs) (hn : zs.length = n) : SlN w w.heap.size a n zs := by
  subst hn
  rcases h.form with ⟨e, e0⟩ | ⟨g, cp, e, _, h2, _, h4, _⟩
  · subst e0; exact ⟨rfl, .inl rfl⟩
  · cases e; exact ⟨rfl, .inr ⟨_, 0, rfl, h2, h4⟩⟩
/-- Marks in a row of the call's own, which turn nothing below base nor any other block of its own. -/
theorem mark_on (w : World) (base : Nat) (a : Option Addr) (n cap : Nat) (zs : List Int) (k : Int) (hz : zs.length = n) (hn : n ≤ 1048576) (hk : 0 ≤ k) (hk' : k ≤ 1000000000) (h : ON w base (.slice a n cap) zs) :
    Calls Try.prog 30 #[.slice a n cap, .int .i64 k] w fun e w' => e = .returned (.int .i64 (k + n)) ∧ Below base w w' ∧ SlN w' w'.heap.size a n (marks n k) ∧ w'.heap.size = w.heap.size ∧ (∀ x, (Value.slice a n cap).ownBlock ≠ some x → w'.heap[x]? = w.heap[x]?) := by
  subst hz
  rcases h.form with ⟨e, e0⟩ | ⟨g, cp, e, h1, h2, _, _, h5⟩
  · subst e0
    cases e
    refine (markInt64S_none w none 0 k).mono ?_
    rintro e w' ⟨rfl, rfl⟩
    exact ⟨by simp, Below.refl _ _, ⟨rfl, .inl rfl⟩, rfl, fun _ _ => rfl⟩
  · cases e
    refine (markInt64S_own w g zs.length cap k hn hk hk' h5).mono ?_
    rintro e w' ⟨rfl, ho, hx, _⟩
    exact ⟨rfl, ho.below h1, ⟨marks_len _ _, .inr ⟨g, 0, rfl, by rw [ho.size]; exact h2, hx⟩⟩, ho.size, fun x hx' => ho.block x (fun e => hx' (by rw [e]; rfl))⟩
end Go.Proofs.Ytgohihcpmjfhdaa
