/- The law's comparison of Sets and Records: it says yes where both hold the same, and turns nothing. -/
import Derived.Test.YtcockcdhendplaaGreatRows
import Derived.Test.YtcockcdhendplaaGreatRecs
import Derived.WalkKit
import Derived.WalkSpells
import Derived.WalkLawsBesides
import Derived.Below
import Derived.Lib.QuietBelow
import Derived.BigQuiet
namespace Go.Proofs.YtcockcdhendplaaGreat
open Go.RowKit
open Go.Sort (grow)
theorem SetAt.regrown {w : World} {b o : Nat} {s : S5} (h : SetAt w b o s) (d : Nat) (os : Array Obj) : SetAt (grow (redrawn w d) os) b o s :=
  ⟨cell_regrown h.c0 d os, cell_regrown h.c1 d os, cell_regrown h.c2 d os, cell_regrown h.c3 d os, cell_regrown h.c4 d os⟩
set_option maxHeartbeats 1000000 in
theorem eqSet_same (w : World) (s : S5) : Calls Tryz.prog 148 #[.agg #[.int .i64 s.region, .int .i64 s.slot, .int .i64 s.value, .bool s.used, .int .i64 s.version], .agg #[.int .i64 s.region, .int .i64 s.slot, .int .i64 s.value, .bool s.used, .int .i64 s.version]] w fun e w' =>
    e = .returned (.bool true) ∧ Below w.heap.size w w' := by
  obtain ⟨r, l, v, u, x⟩ := s
  go_enter Tryz.func148, Tryz.ntmps148
  go_wp2
  go_ret
  exact ⟨rfl, ((Below.refl _ _).alloc (Nat.le_refl _) _).alloc (by simp) _⟩
set_option maxHeartbeats 1000000 in
theorem eqSetS_some (w : World) (b off cap b' off' cap' n : Nat) (xs : List S5) (hx : xs.length = n) (hn : n ≤ maxLen) (h1 : SetsAt w b off xs) (hb : b < w.heap.size) (h2 : SetsAt w b' off' xs) (hb' : b' < w.heap.size) :
    Calls Tryz.prog 97 #[.slice (some ⟨b, off, none⟩) n cap, .slice (some ⟨b', off', none⟩) n cap'] w fun e w' => e = .returned (.bool true) ∧ Below w.heap.size w w' := by
  unfold maxLen at hn
  go_enter Tryz.func97, Tryz.ntmps97
  go_wp2
  go_loopw [5] (fun i wr => ∃ k : Nat, k ≤ n ∧ i = .int .i64 k ∧ Below w.heap.size w wr) (fun i _ => n - (intOf i).toNat)
  case atStart => exact ⟨0, Nat.zero_le _, rfl, Below.refl _ _⟩
  case round =>
    obtain ⟨k, hk, rfl, hbl⟩ := hrel
    by_cases hlt : k < n
    · obtain ⟨s, hsk⟩ : ∃ s, xs[k]? = some s := ⟨xs[k]'(by omega), by simp⟩
      have t1 := (((h1 k s hsk).below hbl hb).regrown)
      have t2 := (((h2 k s hsk).below hbl hb').regrown)
      have c0 := fun d os => (t1 d os).c0
      have c1 := fun d os => (t1 d os).c1
      have c2 := fun d os => (t1 d os).c2
      have c3 := fun d os => (t1 d os).c3
      have c4 := fun d os => (t1 d os).c4
      have e0 := fun d os => (t2 d os).c0
      have e1 := fun d os => (t2 d os).c1
      have e2 := fun d os => (t2 d os).c2
      have e3 := fun d os => (t2 d os).c3
      have e4 := fun d os => (t2 d os).c4
      have cQ : ∀ d os, Calls Tryz.prog 148 #[.agg #[.int .i64 s.region, .int .i64 s.slot, .int .i64 s.value, .bool s.used, .int .i64 s.version], .agg #[.int .i64 s.region, .int .i64 s.slot, .int .i64 s.value, .bool s.used, .int .i64 s.version]] (grow (redrawn wr d) os) fun e w'' => e = .returned (.bool true) ∧ ∃ p : Regrown, w'' = grow (redrawn wr p.d) p.os := fun d os => Calls.regrown_of (eqSet_same _ s)
      have K : Hid (Below w.heap.size w wr) := hbl
      clear t1 t2 hbl hsk h1 h2
      go_wp2_with fail
      refine wp_region_quiet_below (by kernel_rfl) (by kernel_rfl) ?_
      repeat (quiet_step (exact cQ _ _))
      refine wpQuiet_nil ?_
      intro _ hw'
      obtain ⟨⟨dq, osq⟩, hw''⟩ := hw'
      subst hw''
      have bq := below_regrown wr dq osq
      go_wp2
      exact ⟨⟨k + 1, by omega, by simp, K.out.trans (bq.mono K.out.size)⟩, by simp [intOf]; omega⟩
    · have : k = n := by omega
      subst this
      have hd : decide (k < k) = false := by simp
      go_wp2
      go_ret
      exact ⟨rfl, hbl⟩
theorem eqSetS_none (w : World) (a a' : Option Addr) (cap cap' : Nat) : Calls Tryz.prog 97 #[.slice a 0 cap, .slice a' 0 cap'] w fun e w' => e = .returned (.bool true) ∧ Below w.heap.size w w' := by
  go_enter Tryz.func97, Tryz.ntmps97
  go_wp2
  go_loopw [5] (fun i wr => i = .int .i64 0 ∧ Below w.heap.size w wr) (fun _ _ => 0)
  case atStart => exact ⟨rfl, Below.refl _ _⟩
  case round =>
    obtain ⟨rfl, hbl⟩ := hrel
    go_wp2
    go_ret
    exact ⟨rfl, hbl⟩
theorem eqSetS_any (w : World) (a a' : Option Addr) (n cap cap' : Nat) (xs : List S5) (hn : n ≤ maxLen) (h1 : Sl w w.heap.size a n xs) (h2 : Sl w w.heap.size a' n xs) :
    Calls Tryz.prog 97 #[.slice a n cap, .slice a' n cap'] w fun e w' => e = .returned (.bool true) ∧ Below w.heap.size w w' := by
  obtain ⟨hx, h1⟩ := h1
  obtain ⟨_, h2⟩ := h2
  rcases h1 with rfl | ⟨b, off, rfl, hb, h1⟩
  · exact eqSetS_none w a a' cap cap'
  · rcases h2 with rfl | ⟨b', off', rfl, hb', h2⟩
    · exact eqSetS_none w _ a' cap cap'
    · exact eqSetS_some w b off cap b' off' cap' n xs hx hn h1 hb h2 hb'
set_option maxHeartbeats 1000000 in
theorem eqRecord_same (w : World) (k t r : Int) (a a' : Option Addr) (n cap cap' : Nat) (xs : List S5) (hn : n ≤ maxLen) (h1 : Sl w w.heap.size a n xs) (h2 : Sl w w.heap.size a' n xs) :
    Calls Tryz.prog 39 #[.agg #[.int .i64 k, .int .i64 t, .int .i64 r, .slice a n cap], .agg #[.int .i64 k, .int .i64 t, .int .i64 r, .slice a' n cap']] w fun e w' => e = .returned (.bool true) ∧ Below w.heap.size w w' := by
  go_enter Tryz.func39, Tryz.ntmps39
  go_wp2_with fail
  have b0 : Below w.heap.size w ((w.alloc (.cells #[.int .i64 k, .int .i64 t, .int .i64 r, .slice a n cap] 41)).alloc (.cells #[.int .i64 k, .int .i64 t, .int .i64 r, .slice a' n cap'] 41)) := ((Below.refl _ _).alloc (Nat.le_refl _) _).alloc (by simp) _
  refine (eqSetS_any _ a a' n cap cap' xs hn ((h1.below b0).mono b0.size) ((h2.below b0).mono b0.size)).mono ?_
  rintro e w' ⟨rfl, b1⟩
  go_wp2
  go_ret
  exact ⟨rfl, b0.trans (b1.mono b0.size)⟩
end Go.Proofs.YtcockcdhendplaaGreat
