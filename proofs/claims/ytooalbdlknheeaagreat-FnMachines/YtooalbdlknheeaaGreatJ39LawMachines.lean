/- Like; LikeC; LikeM; ClrF: joined. -/
import Derived.Test.YtooalbdlknheeaaGreatRows
import Derived.Test.YtooalbdlknheeaaGreatJ0LawMachines
import Derived.WalkKit
import Derived.WalkSpells
import Derived.WalkLawsBesides
import Derived.Deep.QuietTactic
import Derived.BigQuiet
import Derived.Below
import Derived.Test.YtooalbdlknheeaaGreatJ3LawMachines
import Derived.Lib.QuietBelow
import Derived.Test.YtooalbdlknheeaaGreatMacEqJ
import Derived.Test.YtooalbdlknheeaaGreatJ25LawMachines
import Derived.Test.YtooalbdlknheeaaGreatLogIJ
import Derived.Test.YtooalbdlknheeaaGreatTurnAJ
import Derived.Test.YtooalbdlknheeaaGreatTakeJ
/- What the laws' comparison of records (likeRecord, likeSets) answers at records that are alike. -/
namespace Go.Proofs.YtooalbdlknheeaaGreat
open Go.RowKit
theorem below_nq {B : Nat} {a w : World} (h : Below B a w) (n : Nat) : Below B a (w.drewN n) := ⟨h.os, h.tape, h.output, h.size, h.block⟩
set_option maxHeartbeats 2000000 in
theorem likeSets_some (w : World) (b off cap b' off' cap' n : Nat) (xs : List S5) (hx : xs.length = n) (hn : n ≤ maxLen) (h1 : SetsAt w b off xs) (hb : b < w.heap.size) (h2 : SetsAt w b' off' xs) (hb' : b' < w.heap.size) :
    Calls Tryz.prog 120 #[.slice (some ⟨b, off, none⟩) n cap, .slice (some ⟨b', off', none⟩) n cap'] w fun e w' => e = .returned (.bool true) ∧ Below w.heap.size w w' := by
  unfold maxLen at hn
  go_enter Tryz.func120, Tryz.ntmps120
  go_wp2
  go_loopw [5] (fun i wr => ∃ k : Nat, k ≤ n ∧ i = .int .i64 k ∧ Below w.heap.size w wr) (fun i _ => n - (intOf i).toNat)
  case atStart => exact ⟨0, Nat.zero_le _, rfl, Below.refl _ _⟩
  case round =>
    obtain ⟨k, hk, rfl, hbl⟩ := hrel
    by_cases hlt : k < n
    · obtain ⟨s, hsk⟩ : ∃ s, xs[k]? = some s := ⟨xs[k]'(by omega), by simp⟩
      obtain ⟨c0, c1, c2, c3, c4⟩ := (h1 k s hsk).below hbl hb
      obtain ⟨e0, e1, e2, e3, e4⟩ := (h2 k s hsk).below hbl hb'
      have K : Hid (Below w.heap.size w wr) := hbl
      clear hbl hsk h1 h2
      go_wp2
      go_quiet (fail)
      go_wp2
      exact ⟨⟨k + 1, by omega, by simp, below_nq K.out _⟩, by simp [intOf]; omega⟩
    · have : k = n := by omega
      subst this
      have hd : decide ((k : Int) < (k : Int)) = false := by simp
      go_wp2
      go_ret
      exact ⟨rfl, hbl⟩
theorem likeSets_none (w : World) (a a' : Option Addr) (cap cap' : Nat) : Calls Tryz.prog 120 #[.slice a 0 cap, .slice a' 0 cap'] w fun e w' => e = .returned (.bool true) ∧ Below w.heap.size w w' := by
  go_enter Tryz.func120, Tryz.ntmps120
  go_wp2
  go_loopw [5] (fun i wr => i = .int .i64 0 ∧ Below w.heap.size w wr) (fun _ _ => 0)
  case atStart => exact ⟨rfl, Below.refl _ _⟩
  case round =>
    obtain ⟨rfl, hbl⟩ := hrel
    go_wp2
    go_ret
    exact ⟨rfl, hbl⟩
theorem likeSets_any (w : World) (a a' : Option Addr) (n cap cap' : Nat) (xs : List S5) (hn : n ≤ maxLen) (h1 : Sl w w.heap.size a n xs) (h2 : Sl w w.heap.size a' n xs) :
    Calls Tryz.prog 120 #[.slice a n cap, .slice a' n cap'] w fun e w' => e = .returned (.bool true) ∧ Below w.heap.size w w' := by
  obtain ⟨hx, h1⟩ := h1
  obtain ⟨_, h2⟩ := h2
  rcases h1 with rfl | ⟨b, off, rfl, hb, h1⟩
  · exact likeSets_none w a a' cap cap'
  · rcases h2 with rfl | ⟨b', off', rfl, hb', h2⟩
    · exact likeSets_none w _ a' cap cap'
    · exact likeSets_some w b off cap b' off' cap' n xs hx hn h1 hb h2 hb'
set_option maxHeartbeats 1000000 in
theorem likeRecord_same (w : World) (k t r : Int) (a a' : Option Addr) (n cap cap' : Nat) (xs : List S5) (hn : n ≤ maxLen) (h1 : Sl w w.heap.size a n xs) (h2 : Sl w w.heap.size a' n xs) :
    Calls Tryz.prog 61 #[.agg #[.int .i64 k, .int .i64 t, .int .i64 r, .slice a n cap], .agg #[.int .i64 k, .int .i64 t, .int .i64 r, .slice a' n cap']] w fun e w' => e = .returned (.bool true) ∧ Below w.heap.size w w' := by
  go_enter Tryz.func61, Tryz.ntmps61
  go_wp2_with fail
  have b0 : Below w.heap.size w ((w.alloc (.cells #[.int .i64 k, .int .i64 t, .int .i64 r, .slice a n cap] 41)).alloc (.cells #[.int .i64 k, .int .i64 t, .int .i64 r, .slice a' n cap'] 41)) := ((Below.refl _ _).alloc (Nat.le_refl _) _).alloc (by simp) _
  refine (likeSets_any _ a a' n cap cap' xs hn ((h1.below b0).mono b0.size) ((h2.below b0).mono b0.size)).mono ?_
  rintro e w' ⟨rfl, b1⟩
  go_wp2
  go_ret
  exact ⟨rfl, b0.trans (b1.mono b0.size)⟩
end Go.Proofs.YtooalbdlknheeaaGreat
/- The laws' comparisons of rows of numbers and of cells that are alike. -/
namespace Go.Proofs.YtooalbdlknheeaaGreat
open Go.RowKit
open Go.Sort (grow)
set_option maxHeartbeats 1000000 in
theorem likeInts_any (w : World) (a a' : Option Addr) (n cap cap' : Nat) (zs : List Int) (hn : n ≤ maxLen) (h1 : SlN w w.heap.size a n zs) (h2 : SlN w w.heap.size a' n zs) :
    Calls Tryz.prog 23 #[.slice a n cap, .slice a' n cap'] w fun e w' => e = .returned (.bool true) ∧ Below w.heap.size w w' := by
  unfold maxLen at hn
  obtain ⟨hx, h1⟩ := h1
  obtain ⟨_, h2⟩ := h2
  go_enter Tryz.func23, Tryz.ntmps23
  go_wp2
  go_loopw [5] (fun i wr => ∃ k : Nat, k ≤ n ∧ i = .int .i64 k ∧ Below w.heap.size w wr) (fun i _ => n - (intOf i).toNat)
  case atStart => exact ⟨0, Nat.zero_le _, rfl, Below.refl _ _⟩
  case round =>
    obtain ⟨k, hk, rfl, hbl⟩ := hrel
    by_cases hlt : k < n
    · rcases h1 with h1 | ⟨b, off, rfl, hb, h1⟩
      · omega
      · rcases h2 with h2 | ⟨b', off', rfl, hb', h2⟩
        · omega
        · have c1 := (hbl.cell (p := ⟨b, off + k, none⟩) hb).trans (h1 k _ (atN_of (by omega)))
          have c2 := (hbl.cell (p := ⟨b', off' + k, none⟩) hb').trans (h2 k _ (atN_of (by omega)))
          have hlt' : (k : Int) < (n : Int) := by omega
          have K : Hid (Below w.heap.size w wr) := hbl
          clear h1 h2 hbl hx
          go_wp2_with fail
          go_quiet (fail)
          go_wp2
          exact ⟨⟨k + 1, by omega, by simp, below_dn K.out _⟩, by simp [intOf]; omega⟩
    · have : k = n := by omega
      subst this
      have hd : decide (k < k) = false := by simp
      clear h1 h2
      go_wp2
      go_ret
      exact ⟨rfl, hbl⟩
set_option maxHeartbeats 1000000 in
theorem likeCells_any (w : World) (a a' : Option Addr) (n cap cap' : Nat) (zs : List C2) (hn : n ≤ maxLen) (h1 : SlC w w.heap.size a n zs) (h2 : SlC w w.heap.size a' n zs) :
    Calls Tryz.prog 16 #[.slice a n cap, .slice a' n cap'] w fun e w' => e = .returned (.bool true) ∧ Below w.heap.size w w' := by
  unfold maxLen at hn
  obtain ⟨hx, h1⟩ := h1
  obtain ⟨_, h2⟩ := h2
  go_enter Tryz.func16, Tryz.ntmps16
  go_wp2
  go_loopw [5] (fun i wr => ∃ k : Nat, k ≤ n ∧ i = .int .i64 k ∧ Below w.heap.size w wr) (fun i _ => n - (intOf i).toNat)
  case atStart => exact ⟨0, Nat.zero_le _, rfl, Below.refl _ _⟩
  case round =>
    obtain ⟨k, hk, rfl, hbl⟩ := hrel
    by_cases hlt : k < n
    · rcases h1 with h1 | ⟨b, off, rfl, hb, h1⟩
      · omega
      · rcases h2 with h2 | ⟨b', off', rfl, hb', h2⟩
        · omega
        · obtain ⟨c0, c1⟩ := (h1 k _ (at2_of (by omega))).below hbl hb
          obtain ⟨e0, e1⟩ := (h2 k _ (at2_of (by omega))).below hbl hb'
          have hlt' : (k : Int) < (n : Int) := by omega
          have K : Hid (Below w.heap.size w wr) := hbl
          clear h1 h2 hbl hx
          go_wp2_with fail
          go_quiet (fail)
          go_wp2
          exact ⟨⟨k + 1, by omega, by simp, below_dn K.out _⟩, by simp [intOf]; omega⟩
    · have : k = n := by omega
      subst this
      have hd : decide (k < k) = false := by simp
      clear h1 h2
      go_wp2
      go_ret
      exact ⟨rfl, hbl⟩
end Go.Proofs.YtooalbdlknheeaaGreat
/- The laws' comparison of machines that are alike. -/
namespace Go.Proofs.YtooalbdlknheeaaGreat
open Go.RowKit
open Go.Sort (grow)
set_option maxHeartbeats 4000000 in
theorem likeMachine_any (w : World) (v v' : MV) (m : M4) (hl : ML m) (h1 : SlM w v m) (h2 : SlM w v' m) : Calls Tryz.prog 14 #[v.val m, v'.val m] w fun e w' => e = .returned (.bool true) ∧ Below w.heap.size w w' := by
  obtain ⟨ac, cc, al, cl, ad, cd⟩ := v
  obtain ⟨ac', cc', al', cl', ad', cd'⟩ := v'
  have H : Hid (SlM w ⟨ac, cc, al, cl, ad, cd⟩ m ∧ SlM w ⟨ac', cc', al', cl', ad', cd'⟩ m ∧ ML m) := ⟨h1, h2, hl⟩
  clear h1 h2 hl
  simp only [MV.val]
  have qa : (m.alive != m.alive) = false := by cases m.alive <;> rfl
  go_enter Tryz.func14, Tryz.ntmps14
  go_wp2_with fail
  have b0 : Below w.heap.size w ((w.alloc (.cells #[.bool m.alive, .slice ac m.copies.length cc, .slice al m.log.length cl, .slice ad m.cleared.length cd] 28)).alloc (.cells #[.bool m.alive, .slice ac' m.copies.length cc', .slice al' m.log.length cl', .slice ad' m.cleared.length cd'] 28)) := ((Below.refl _ _).alloc (Nat.le_refl _) _).alloc (by simp) _
  have u1 : ((w.alloc (.cells #[.bool m.alive, .slice ac m.copies.length cc, .slice al m.log.length cl, .slice ad m.cleared.length cd] 28)).alloc (.cells #[.bool m.alive, .slice ac' m.copies.length cc', .slice al' m.log.length cl', .slice ad' m.cleared.length cd'] 28)).cell? ⟨w.heap.size, 1, none⟩ = some (.slice ac m.copies.length cc) := by go_simp
  have u2 : ((w.alloc (.cells #[.bool m.alive, .slice ac m.copies.length cc, .slice al m.log.length cl, .slice ad m.cleared.length cd] 28)).alloc (.cells #[.bool m.alive, .slice ac' m.copies.length cc', .slice al' m.log.length cl', .slice ad' m.cleared.length cd'] 28)).cell? ⟨w.heap.size, 2, none⟩ = some (.slice al m.log.length cl) := by go_simp
  have v1 : ((w.alloc (.cells #[.bool m.alive, .slice ac m.copies.length cc, .slice al m.log.length cl, .slice ad m.cleared.length cd] 28)).alloc (.cells #[.bool m.alive, .slice ac' m.copies.length cc', .slice al' m.log.length cl', .slice ad' m.cleared.length cd'] 28)).cell? ⟨w.heap.size + 1, 1, none⟩ = some (.slice ac' m.copies.length cc') := by go_simp
  have v2 : ((w.alloc (.cells #[.bool m.alive, .slice ac m.copies.length cc, .slice al m.log.length cl, .slice ad m.cleared.length cd] 28)).alloc (.cells #[.bool m.alive, .slice ac' m.copies.length cc', .slice al' m.log.length cl', .slice ad' m.cleared.length cd'] 28)).cell? ⟨w.heap.size + 1, 2, none⟩ = some (.slice al' m.log.length cl') := by go_simp
  have sU : w.heap.size + 1 < ((w.alloc (.cells #[.bool m.alive, .slice ac m.copies.length cc, .slice al m.log.length cl, .slice ad m.cleared.length cd] 28)).alloc (.cells #[.bool m.alive, .slice ac' m.copies.length cc', .slice al' m.log.length cl', .slice ad' m.cleared.length cd'] 28)).heap.size := by simp
  generalize ((w.alloc (.cells #[.bool m.alive, .slice ac m.copies.length cc, .slice al m.log.length cl, .slice ad m.cleared.length cd] 28)).alloc (.cells #[.bool m.alive, .slice ac' m.copies.length cc', .slice al' m.log.length cl', .slice ad' m.cleared.length cd'] 28)) = U at *
  have SU : Hid (w.heap.size + 1 < U.heap.size ∧ Below w.heap.size w U) := ⟨sU, b0⟩
  refine (likeInts_any U ad ad' m.cleared.length cd cd' m.cleared H.out.2.2.n (H.out.1.later b0).n (H.out.2.1.later b0).n).mono ?_
  clear b0 sU
  rintro e w1 ⟨rfl, b1⟩
  have l0 : w.heap.size < U.heap.size := by have := SU.out.1; omega
  have B1 : Hid (Below w.heap.size w w1 ∧ w.heap.size + 1 < w1.heap.size ∧ w1.cell? ⟨w.heap.size, 1, none⟩ = some (.slice ac m.copies.length cc) ∧ w1.cell? ⟨w.heap.size, 2, none⟩ = some (.slice al m.log.length cl) ∧ w1.cell? ⟨w.heap.size + 1, 1, none⟩ = some (.slice ac' m.copies.length cc') ∧ w1.cell? ⟨w.heap.size + 1, 2, none⟩ = some (.slice al' m.log.length cl')) := ⟨SU.out.2.trans (b1.mono SU.out.2.size), Nat.lt_of_lt_of_le SU.out.1 b1.size, (b1.cell (p := ⟨w.heap.size, 1, none⟩) l0).trans u1, (b1.cell (p := ⟨w.heap.size, 2, none⟩) l0).trans u2, (b1.cell (p := ⟨w.heap.size + 1, 1, none⟩) SU.out.1).trans v1, (b1.cell (p := ⟨w.heap.size + 1, 2, none⟩) SU.out.1).trans v2⟩
  clear u1 u2 v1 v2 b1 l0 SU
  have hnk : m.copies.length ≤ maxLen := H.out.2.2.k
  have hnr : m.log.length ≤ maxLen := H.out.2.2.r
  unfold maxLen at hnk hnr
  go_wp2
  go_loopw [5] (fun i wr => ∃ k : Nat, k ≤ m.copies.length ∧ i = .int .i64 k ∧ Below w1.heap.size w1 wr) (fun i _ => m.copies.length - (intOf i).toNat)
  case atStart => exact ⟨0, Nat.zero_le _, rfl, Below.refl _ _⟩
  case round =>
    obtain ⟨k, hk, rfl, hbl⟩ := hrel
    have lW : w.heap.size < w1.heap.size := by have := B1.out.2.1; omega
    have f1 := (hbl.cell (p := ⟨w.heap.size, 1, none⟩) lW).trans B1.out.2.2.1
    have f2 := (hbl.cell (p := ⟨w.heap.size, 2, none⟩) lW).trans B1.out.2.2.2.1
    have g1 := (hbl.cell (p := ⟨w.heap.size + 1, 1, none⟩) B1.out.2.1).trans B1.out.2.2.2.2.1
    have g2 := (hbl.cell (p := ⟨w.heap.size + 1, 2, none⟩) B1.out.2.1).trans B1.out.2.2.2.2.2
    have B2 : Hid (Below w.heap.size w wr ∧ w.heap.size + 1 < wr.heap.size) := ⟨B1.out.1.trans (hbl.mono B1.out.1.size), Nat.lt_of_lt_of_le B1.out.2.1 hbl.size⟩
    have KB : Hid (Below w1.heap.size w1 wr) := hbl
    clear hbl lW
    by_cases hlt : k < m.copies.length
    · obtain ⟨_, h1⟩ := (H.out.1.later B2.out.1).k
      obtain ⟨_, h2⟩ := (H.out.2.1.later B2.out.1).k
      rcases h1 with h1 | ⟨b, off, rfl, hb, h1⟩
      · omega
      · rcases h2 with h2 | ⟨b', off', rfl, hb', h2⟩
        · omega
        · have t1 := h1 k _ (atK_of (by omega))
          have t2 := h2 k _ (atK_of (by omega))
          have hll := H.out.2.2.ks _ (List.mem_of_getElem? (atK_of (ks := m.copies) (i := k) (by omega)))
          have l0 : w.heap.size < wr.heap.size := by have := B2.out.2; omega
          obtain ⟨a1, k1, d1, s1, _⟩ := t1.c1
          obtain ⟨a2, k2, d2, s2, _⟩ := t2.c1
          have xf : ∀ d os, (grow (redrawn wr d) os).cell? ⟨w.heap.size, 1, none⟩ = some (.slice (some ⟨b, off, none⟩) m.copies.length cc) := fun d os => ((below_regrown wr d os).cell (p := ⟨w.heap.size, 1, none⟩) l0).trans f1
          have yf : ∀ d os, (grow (redrawn wr d) os).cell? ⟨w.heap.size + 1, 1, none⟩ = some (.slice (some ⟨b', off', none⟩) m.copies.length cc') := fun d os => ((below_regrown wr d os).cell (p := ⟨w.heap.size + 1, 1, none⟩) B2.out.2).trans g1
          have x0 : ∀ d os, (grow (redrawn wr d) os).cell? ⟨b, off + k * 2, none⟩ = some (.int .i64 (atK m.copies k).region) := fun d os => ((below_regrown wr d os).cell (p := ⟨b, off + k * 2, none⟩) hb).trans t1.c0
          have x1 : ∀ d os, (grow (redrawn wr d) os).cell? ⟨b, off + k * 2 + 1, none⟩ = some (.slice a1 (atK m.copies k).cells.length k1) := fun d os => ((below_regrown wr d os).cell (p := ⟨b, off + k * 2 + 1, none⟩) hb).trans d1
          have y0 : ∀ d os, (grow (redrawn wr d) os).cell? ⟨b', off' + k * 2, none⟩ = some (.int .i64 (atK m.copies k).region) := fun d os => ((below_regrown wr d os).cell (p := ⟨b', off' + k * 2, none⟩) hb').trans t2.c0
          have y1 : ∀ d os, (grow (redrawn wr d) os).cell? ⟨b', off' + k * 2 + 1, none⟩ = some (.slice a2 (atK m.copies k).cells.length k2) := fun d os => ((below_regrown wr d os).cell (p := ⟨b', off' + k * 2 + 1, none⟩) hb').trans d2
          have cQ : ∀ d os, Calls Tryz.prog 16 #[.slice a1 (atK m.copies k).cells.length k1, .slice a2 (atK m.copies k).cells.length k2] (grow (redrawn wr d) os) fun e w'' => e = .returned (.bool true) ∧ ∃ p : Regrown, w'' = grow (redrawn wr p.d) p.os := fun d os => Calls.regrown_of (likeCells_any _ a1 a2 _ k1 k2 (atK m.copies k).cells hll (s1.later (below_regrown wr d os)) (s2.later (below_regrown wr d os)))
          clear t1 t2 h1 h2 s1 s2 d1 d2 hll l0 f2 g2 H
          go_wp2_with fail
          refine wp_region_quiet_below (by kernel_rfl) (by kernel_rfl) ?_
          repeat (go_big_quiet_step (exact cQ _ _))
          refine wpQuiet_nil ?_
          intro _ hw'
          obtain ⟨⟨dq, osq⟩, hw''⟩ := hw'
          subst hw''
          have bq := below_regrown wr dq osq
          go_wp2
          exact ⟨⟨k + 1, by omega, by simp, KB.out.trans (bq.mono KB.out.size)⟩, by simp [intOf]; omega⟩
    · have : k = m.copies.length := by omega
      subst this
      have hd : decide (m.copies.length < m.copies.length) = false := by simp
      have F2 : Hid (wr.cell? ⟨w.heap.size, 2, none⟩ = some (.slice al m.log.length cl) ∧ wr.cell? ⟨w.heap.size + 1, 2, none⟩ = some (.slice al' m.log.length cl')) := ⟨f2, g2⟩
      clear f2 g2 B1 KB
      go_wp2
      generalize wr = W1 at *
      go_loopw [6] (fun i wr => ∃ k : Nat, k ≤ m.log.length ∧ i = .int .i64 k ∧ Below W1.heap.size W1 wr) (fun i _ => m.log.length - (intOf i).toNat)
      case atStart => exact ⟨0, Nat.zero_le _, rfl, Below.refl _ _⟩
      case round =>
        obtain ⟨k, hk, rfl, hbl⟩ := hrel
        have f2 := (hbl.cell (p := ⟨w.heap.size, 2, none⟩) (by have := B2.out.2; show w.heap.size < _; omega)).trans F2.out.1
        have g2 := (hbl.cell (p := ⟨w.heap.size + 1, 2, none⟩) B2.out.2).trans F2.out.2
        have B3 : Hid (Below w.heap.size w wr ∧ w.heap.size + 1 < wr.heap.size) := ⟨B2.out.1.trans (hbl.mono B2.out.1.size), Nat.lt_of_lt_of_le B2.out.2 hbl.size⟩
        have KB : Hid (Below W1.heap.size W1 wr) := hbl
        clear hbl f1 g1
        by_cases hlt : k < m.log.length
        · obtain ⟨_, h1⟩ := (H.out.1.later B3.out.1).r
          obtain ⟨_, h2⟩ := (H.out.2.1.later B3.out.1).r
          rcases h1 with h1 | ⟨b, off, rfl, hb, h1⟩
          · omega
          · rcases h2 with h2 | ⟨b', off', rfl, hb', h2⟩
            · omega
            · have t1 := h1 k _ (atR_of (by omega))
              have t2 := h2 k _ (atR_of (by omega))
              have hll := H.out.2.2.rs _ (List.mem_of_getElem? (atR_of (rs := m.log) (i := k) (by omega)))
              have l0 : w.heap.size < wr.heap.size := by have := B3.out.2; omega
              obtain ⟨a1, k1, d1, s1, _⟩ := t1.c3
              obtain ⟨a2, k2, d2, s2, _⟩ := t2.c3
              have xf : ∀ d os, (grow (redrawn wr d) os).cell? ⟨w.heap.size, 2, none⟩ = some (.slice (some ⟨b, off, none⟩) m.log.length cl) := fun d os => ((below_regrown wr d os).cell (p := ⟨w.heap.size, 2, none⟩) l0).trans f2
              have yf : ∀ d os, (grow (redrawn wr d) os).cell? ⟨w.heap.size + 1, 2, none⟩ = some (.slice (some ⟨b', off', none⟩) m.log.length cl') := fun d os => ((below_regrown wr d os).cell (p := ⟨w.heap.size + 1, 2, none⟩) B3.out.2).trans g2
              have x0 : ∀ d os, (grow (redrawn wr d) os).cell? ⟨b, off + k * 4, none⟩ = some (.int .i64 (atR m.log k).kind) := fun d os => ((below_regrown wr d os).cell (p := ⟨b, off + k * 4, none⟩) hb).trans t1.c0
              have x1 : ∀ d os, (grow (redrawn wr d) os).cell? ⟨b, off + k * 4 + 1, none⟩ = some (.int .i64 (atR m.log k).tx) := fun d os => ((below_regrown wr d os).cell (p := ⟨b, off + k * 4 + 1, none⟩) hb).trans t1.c1
              have x2 : ∀ d os, (grow (redrawn wr d) os).cell? ⟨b, off + k * 4 + 2, none⟩ = some (.int .i64 (atR m.log k).region) := fun d os => ((below_regrown wr d os).cell (p := ⟨b, off + k * 4 + 2, none⟩) hb).trans t1.c2
              have x3 : ∀ d os, (grow (redrawn wr d) os).cell? ⟨b, off + k * 4 + 3, none⟩ = some (.slice a1 (atR m.log k).sets.length k1) := fun d os => ((below_regrown wr d os).cell (p := ⟨b, off + k * 4 + 3, none⟩) hb).trans d1
              have y0 : ∀ d os, (grow (redrawn wr d) os).cell? ⟨b', off' + k * 4, none⟩ = some (.int .i64 (atR m.log k).kind) := fun d os => ((below_regrown wr d os).cell (p := ⟨b', off' + k * 4, none⟩) hb').trans t2.c0
              have y1 : ∀ d os, (grow (redrawn wr d) os).cell? ⟨b', off' + k * 4 + 1, none⟩ = some (.int .i64 (atR m.log k).tx) := fun d os => ((below_regrown wr d os).cell (p := ⟨b', off' + k * 4 + 1, none⟩) hb').trans t2.c1
              have y2 : ∀ d os, (grow (redrawn wr d) os).cell? ⟨b', off' + k * 4 + 2, none⟩ = some (.int .i64 (atR m.log k).region) := fun d os => ((below_regrown wr d os).cell (p := ⟨b', off' + k * 4 + 2, none⟩) hb').trans t2.c2
              have y3 : ∀ d os, (grow (redrawn wr d) os).cell? ⟨b', off' + k * 4 + 3, none⟩ = some (.slice a2 (atR m.log k).sets.length k2) := fun d os => ((below_regrown wr d os).cell (p := ⟨b', off' + k * 4 + 3, none⟩) hb').trans d2
              have cQ : ∀ d os, Calls Tryz.prog 61 #[.agg #[.int .i64 (atR m.log k).kind, .int .i64 (atR m.log k).tx, .int .i64 (atR m.log k).region, .slice a1 (atR m.log k).sets.length k1], .agg #[.int .i64 (atR m.log k).kind, .int .i64 (atR m.log k).tx, .int .i64 (atR m.log k).region, .slice a2 (atR m.log k).sets.length k2]] (grow (redrawn wr d) os) fun e w'' => e = .returned (.bool true) ∧ ∃ p : Regrown, w'' = grow (redrawn wr p.d) p.os := fun d os => Calls.regrown_of (likeRecord_same _ (atR m.log k).kind (atR m.log k).tx (atR m.log k).region a1 a2 _ k1 k2 (atR m.log k).sets hll ((s1.below (below_regrown wr d os)).mono (below_regrown wr d os).size) ((s2.below (below_regrown wr d os)).mono (below_regrown wr d os).size))
              clear t1 t2 h1 h2 s1 s2 d1 d2 hll l0 H F2
              go_wp2_with fail
              refine wp_region_quiet_below (by kernel_rfl) (by kernel_rfl) ?_
              repeat (go_big_quiet_step (exact cQ _ _))
              refine wpQuiet_nil ?_
              intro _ hw'
              obtain ⟨⟨dq, osq⟩, hw''⟩ := hw'
              subst hw''
              have bq := below_regrown wr dq osq
              go_wp2
              exact ⟨⟨k + 1, by omega, by simp, KB.out.trans (bq.mono KB.out.size)⟩, by simp [intOf]; omega⟩
        · have : k = m.log.length := by omega
          subst this
          have hd : decide (m.log.length < m.log.length) = false := by simp
          clear F2 H
          go_wp2
          go_ret
          exact ⟨rfl, B3.out.1⟩
end Go.Proofs.YtooalbdlknheeaaGreat
/- What is true of the machine that Clear answers, and of the one that Turn answers: lists alone. -/
namespace Go.Proofs.YtooalbdlknheeaaGreat
open Go.RowKit
theorem posZ_le (zs : List Int) (y : Int) : posZ zs y ≤ zs.length := List.findIdx_le_length
theorem posZ_lo {zs : List Int} {y : Int} {j : Nat} (h : j < posZ zs y) : atN zs j < y := by
  have hl : j < zs.length := Nat.lt_of_lt_of_le h (posZ_le zs y)
  have := List.not_of_lt_findIdx (xs := zs) (p := fun z => !decide (z < y)) h
  rw [atN_get hl]
  simpa using this
theorem posZ_hi {zs : List Int} {y : Int} (h : posZ zs y < zs.length) : ¬ atN zs (posZ zs y) < y := by
  have := List.findIdx_getElem (xs := zs) (p := fun z => !decide (z < y)) (w := h)
  rw [atN_get h]
  unfold posZ
  simpa using this
theorem insZ_lo {zs : List Int} {i j : Nat} {y : Int} (hi : i ≤ zs.length) (h : j < i) : atN (insZ zs i y) j = atN zs j := by
  have htl : (zs.take i).length = i := by simp; omega
  simp only [atN, insZ]
  rw [List.getElem?_append_left (by omega), List.getElem?_take_of_lt h]
theorem insZ_mid {zs : List Int} {i : Nat} {y : Int} (hi : i ≤ zs.length) : atN (insZ zs i y) i = y := by
  have htl : (zs.take i).length = i := by simp; omega
  simp only [atN, insZ]
  rw [List.getElem?_append_right (by omega), htl, Nat.sub_self]
  rfl
theorem insZ_hi {zs : List Int} {i j : Nat} {y : Int} (hi : i ≤ zs.length) (h : i < j) : atN (insZ zs i y) j = atN zs (j - 1) := by
  have htl : (zs.take i).length = i := by simp; omega
  simp only [atN, insZ]
  rw [List.getElem?_append_right (by omega), htl, show j - i = (j - i - 1) + 1 by omega, List.getElem?_cons_succ, List.getElem?_drop, show i + (j - i - 1) = j - 1 by omega]
theorem ids_at {zs : List Int} (h : idsB zs = true) {i : Nat} (hi : i < zs.length) : (1 ≤ atN zs i ∧ atN zs i ≤ 1000000) ∧ (i = 0 ∨ atN zs (i - 1) < atN zs i) := by
  have := List.all_eq_true.1 h i (List.mem_range.2 hi)
  simp only [idAt, Bool.and_eq_true, Bool.or_eq_true, decide_eq_true_eq, inB_iff] at this
  exact this
theorem put_ids {zs : List Int} {y : Int} (h : idsB zs = true) (hy : inB 1 1000000 y = true) : idsB (putZ zs y) = true := by
  unfold putZ
  split
  · exact h
  · next hh =>
    have hi := posZ_le zs y
    have hlo := fun j => posZ_lo (zs := zs) (y := y) (j := j)
    have hhi := posZ_hi (zs := zs) (y := y)
    generalize posZ zs y = i at *
    refine List.all_eq_true.2 fun j hj => ?_
    rw [List.mem_range, insZ_len hi] at hj
    rw [inB_iff] at hy
    simp only [idAt, Bool.and_eq_true, Bool.or_eq_true, decide_eq_true_eq, inB_iff]
    by_cases h1 : j < i
    · rw [insZ_lo hi h1]
      obtain ⟨a, b⟩ := ids_at h (i := j) (by omega)
      refine ⟨a, ?_⟩
      rcases b with b | b
      · exact .inl b
      · exact .inr (by rw [insZ_lo hi (by omega)]; exact b)
    · by_cases h2 : j = i
      · subst h2
        rw [insZ_mid hi]
        refine ⟨hy, ?_⟩
        by_cases h0 : j = 0
        · exact .inl h0
        · exact .inr (by rw [insZ_lo hi (by omega)]; exact hlo _ (by omega))
      · rw [insZ_hi hi (by omega)]
        obtain ⟨a, b⟩ := ids_at h (i := j - 1) (by omega)
        refine ⟨a, .inr ?_⟩
        by_cases h3 : j - 1 = i
        · rw [h3, insZ_mid hi]
          have hx := hhi (by omega)
          have hne : atN zs i ≠ y := fun e => hh (by
            rw [hasN, List.any_eq_true]
            exact ⟨atN zs i, List.mem_of_getElem? (atN_of (by omega)), by simp [e]⟩)
          omega
        · rw [insZ_hi hi (by omega)]
          rcases b with b | b
          · omega
          · exact b
theorem put_has {zs : List Int} {y : Int} : hasN (putZ zs y) y = true := by
  unfold putZ
  split
  · next hh => exact hh
  · rw [hasN, List.any_eq_true]
    exact ⟨y, by simp [insZ], by simp⟩
theorem put_len {zs : List Int} {y : Int} (h : zs.length ≤ 60) (h' : hasN zs y = true ∨ zs.length ≠ 60) : (putZ zs y).length ≤ 60 := by
  unfold putZ
  split
  · exact h
  · next hh =>
    rw [insZ_len (posZ_le zs y)]
    rcases h' with h' | h'
    · exact absurd h' hh
    · omega
theorem hasN_take {zs : List Int} {z : Int} {k : Nat} (h : k < zs.length) : hasN (zs.take (k + 1)) z = (hasN (zs.take k) z || (atN zs k == z)) := by
  rw [List.take_add_one, atN_of h, hasN, hasN, List.any_append]
  simp
  rfl
theorem log_all {rs : List R4} : (List.range rs.length).all (logB rs) = rs.all (fun r => recB r.kind r.tx r.region r.sets) := by
  rw [Bool.eq_iff_iff, List.all_eq_true, List.all_eq_true]
  constructor
  · intro h r hr
    obtain ⟨i, hi, rfl⟩ := List.getElem_of_mem hr
    have := h i (List.mem_range.2 hi)
    simpa [logB, atR, List.getElem?_eq_getElem hi] using this
  · intro h i hi
    have hi := List.mem_range.1 hi
    exact h (atR rs i) (List.mem_of_getElem? (atR_of hi))
theorem clear_parts {m : M4} {t : Int} {d : Bool} (h : clearB m t d = true) : machB m = true ∧ inB 1 1000000 t = true ∧ (d = false ∨ hasN m.cleared t = true ∨ m.cleared.length ≠ 60) := by
  simp only [clearB, Bool.and_eq_true, Bool.or_eq_true, Bool.not_eq_true', decide_eq_false_iff_not] at h
  exact ⟨h.1.1, h.1.2, by
    rcases h.2 with (h | h) | h
    · exact .inl h
    · exact .inr (.inl h)
    · exact .inr (.inr h)⟩
theorem clear_mach {m : M4} {t g : Int} {d : Bool} (h : clearB m t d = true) : machB (clearM m t g d) = true := by
  obtain ⟨hm, ht, hd⟩ := clear_parts h
  rw [clearM, if_pos h]
  simp only [machB, Bool.and_eq_true, decide_eq_true_eq] at hm ⊢
  obtain ⟨⟨⟨⟨⟨h1, h2⟩, h3⟩, h4⟩, h5⟩, h6⟩ := hm
  refine ⟨⟨⟨⟨⟨h1, Nat.le_trans (List.length_filter_le _ _) h2⟩, ?_⟩, ?_⟩, h5⟩, ?_⟩
  · unfold clearD
    split
    · next e =>
      refine put_len h3 ?_
      rcases hd with hd | hd
      · rw [e] at hd; cases hd
      · exact hd
    · exact h3
  · unfold clearD
    split
    · exact put_ids h4 ht
    · exact h4
  · rw [log_all, List.all_eq_true] at h6 ⊢
    exact fun r hr => h6 r (List.mem_filter.1 hr).1
theorem clear_ml {m : M4} {t g : Int} {d : Bool} (hl : ML m) : ML (clearM m t g d) := by
  unfold clearM
  split
  · next h =>
    have h3 := (MSm.of_mach (clear_mach (g := g) h)).n
    rw [clearM, if_pos h] at h3
    exact ⟨hl.k, hl.ks, Nat.le_trans (List.length_filter_le _ _) hl.r, fun c hc => hl.rs c (List.mem_filter.1 hc).1, by unfold maxLen; simp only at h3 ⊢; omega⟩
  · exact ⟨by simp, by simp, by simp, by simp, by simp⟩
theorem clear_none {m : M4} {t g : Int} {d : Bool} (h : clearB m t d = true) {k : Nat} (hk : k < (clearM m t g d).log.length) : ofB t g (atR (clearM m t g d).log k) = false := by
  have := List.mem_of_getElem? (atR_of hk)
  generalize atR (clearM m t g d).log k = r at *
  rw [clearM, if_pos h] at this
  simpa using (List.mem_filter.1 this).2
theorem clear_has {m : M4} {t g : Int} {d : Bool} (h : clearB m t d = true) (hd : d = true) : hasN (clearM m t g d).cleared t = true := by
  rw [clearM, if_pos h]
  simp only [clearD, if_pos hd]
  exact put_has
theorem clear_not {m : M4} {t g : Int} {d : Bool} (h : clearB m t d = false) : clearM m t g d = ⟨false, [], [], []⟩ := by rw [clearM, if_neg (by rw [h]; simp)]
theorem turn_none (m : M4) (t g : Int) : ansH (ansT m t g) t g 1 = false := by
  unfold ansH ansR
  split
  · have : (ansT m t g).log.find? (lgB t g 1) = none := by
      rw [List.find?_eq_none]
      intro r hr
      unfold ansT at hr
      split at hr
      · simp only [tM] at hr
        obtain ⟨r0, _, rfl⟩ := List.mem_map.1 hr
        unfold trR
        split
        · simp [lgB]
        · next h => exact h
      · cases hr
    rw [this]; rfl
  · rfl
theorem turn_ml {m : M4} {t g : Int} (hl : ML m) : ML (ansT m t g) := by
  unfold ansT
  split
  · refine ⟨hl.k, hl.ks, by simpa [tM] using hl.r, fun c hc => ?_, hl.n⟩
    simp only [tM] at hc
    obtain ⟨r0, h0, rfl⟩ := List.mem_map.1 hc
    have := hl.rs r0 h0
    unfold trR
    split
    · exact this
    · exact this
  · exact ⟨by simp, by simp, by simp, by simp, by simp⟩
end Go.Proofs.YtooalbdlknheeaaGreat
