
import Derived.Test.YtcbfnajpcaipkaaRows
import Derived.Test.YtcbfnajpcaipkaaJ3ExactNewCluster
import Derived.Test.YtcbfnajpcaipkaaJ7ExactNewCluster
import Derived.WalkKit
import Derived.WalkSpells
import Derived.WalkLawsBesides
import Derived.Below
import Derived.BigQuiet
import Derived.Deep.QuietTactic
import Derived.Lib.QuietBelow
namespace Go.Proofs.Ytcbfnajpcaipkaa
open Go.RowKit
open Go.Sort (grow)
theorem eqCopy_same (w : World) (r : Int) (a a' : Option Addr) (n cap cap' : Nat) (xs : List C2) (hn : n ≤ maxLen) (h1 : SlC w w.heap.size a n xs) (h2 : SlC w w.heap.size a' n xs) :
    Calls Try.prog 115 #[.agg #[.int .i64 r, .slice a n cap], .agg #[.int .i64 r, .slice a' n cap']] w fun e w' => e = .returned (.bool true) ∧ Below w.heap.size w w' := by
  go_enter Try.func115, Try.ntmps115
  go_wp2_with fail
  have b0 : Below w.heap.size w ((w.alloc (.cells #[.int .i64 r, .slice a n cap] 68)).alloc (.cells #[.int .i64 r, .slice a' n cap'] 68)) := ((Below.refl _ _).alloc (Nat.le_refl _) _).alloc (by simp) _
  refine (eqCellS_any _ a a' n cap cap' xs hn (h1.later b0) (h2.later b0)).mono ?_
  rintro e w' ⟨rfl, b1⟩
  go_wp2
  go_ret
  exact ⟨rfl, b0.trans (b1.mono b0.size)⟩
set_option maxHeartbeats 2000000 in
theorem eqRecordS_any (w : World) (a a' : Option Addr) (n cap cap' : Nat) (rs : List R4) (hn : n ≤ maxLen) (hl : ∀ r ∈ rs, r.sets.length ≤ maxLen) (h1 : SlR w w.heap.size a n rs) (h2 : SlR w w.heap.size a' n rs) :
    Calls Try.prog 108 #[.slice a n cap, .slice a' n cap'] w fun e w' => e = .returned (.bool true) ∧ Below w.heap.size w w' := by
  unfold maxLen at hn
  obtain ⟨hx, h1⟩ := h1
  obtain ⟨_, h2⟩ := h2
  go_enter Try.func108, Try.ntmps108
  go_wp2
  go_loopw [5] (fun i wr => ∃ k : Nat, k ≤ n ∧ i = .int .i64 k ∧ Below w.heap.size w wr) (fun i _ => n - (intOf i).toNat)
  case atStart => exact ⟨0, Nat.zero_le _, rfl, Below.refl _ _⟩
  case round =>
    obtain ⟨k, hk, rfl, hbl⟩ := hrel
    by_cases hlt : k < n
    · rcases h1 with h1 | ⟨b, off, rfl, hb, h1⟩
      · omega
      · rcases h2 with h2 | ⟨b', off', rfl, hb', h2⟩
        · omega
        · have t1 := ((h1 k _ (atR_of (by omega))).below (hbl.mono (Nat.le_refl _)) hb).mono hbl.size
          have t2 := ((h2 k _ (atR_of (by omega))).below (hbl.mono (Nat.le_refl _)) hb').mono hbl.size
          have hll := hl _ (List.mem_of_getElem? (atR_of (rs := rs) (i := k) (by omega)))
          have hbW : b < wr.heap.size := Nat.lt_of_lt_of_le hb hbl.size
          have hbW' : b' < wr.heap.size := Nat.lt_of_lt_of_le hb' hbl.size
          obtain ⟨a1, k1, d1, s1, _⟩ := t1.c3
          obtain ⟨a2, k2, d2, s2, _⟩ := t2.c3
          have x0 : ∀ d os, (grow (redrawn wr d) os).cell? ⟨b, off + k * 4, none⟩ = some (.int .i64 (atR rs k).kind) := fun d os => ((below_regrown wr d os).cell (p := ⟨b, off + k * 4, none⟩) hbW).trans t1.c0
          have x1 : ∀ d os, (grow (redrawn wr d) os).cell? ⟨b, off + k * 4 + 1, none⟩ = some (.int .i64 (atR rs k).tx) := fun d os => ((below_regrown wr d os).cell (p := ⟨b, off + k * 4 + 1, none⟩) hbW).trans t1.c1
          have x2 : ∀ d os, (grow (redrawn wr d) os).cell? ⟨b, off + k * 4 + 2, none⟩ = some (.int .i64 (atR rs k).region) := fun d os => ((below_regrown wr d os).cell (p := ⟨b, off + k * 4 + 2, none⟩) hbW).trans t1.c2
          have x3 : ∀ d os, (grow (redrawn wr d) os).cell? ⟨b, off + k * 4 + 3, none⟩ = some (.slice a1 (atR rs k).sets.length k1) := fun d os => ((below_regrown wr d os).cell (p := ⟨b, off + k * 4 + 3, none⟩) hbW).trans d1
          have y0 : ∀ d os, (grow (redrawn wr d) os).cell? ⟨b', off' + k * 4, none⟩ = some (.int .i64 (atR rs k).kind) := fun d os => ((below_regrown wr d os).cell (p := ⟨b', off' + k * 4, none⟩) hbW').trans t2.c0
          have y1 : ∀ d os, (grow (redrawn wr d) os).cell? ⟨b', off' + k * 4 + 1, none⟩ = some (.int .i64 (atR rs k).tx) := fun d os => ((below_regrown wr d os).cell (p := ⟨b', off' + k * 4 + 1, none⟩) hbW').trans t2.c1
          have y2 : ∀ d os, (grow (redrawn wr d) os).cell? ⟨b', off' + k * 4 + 2, none⟩ = some (.int .i64 (atR rs k).region) := fun d os => ((below_regrown wr d os).cell (p := ⟨b', off' + k * 4 + 2, none⟩) hbW').trans t2.c2
          have y3 : ∀ d os, (grow (redrawn wr d) os).cell? ⟨b', off' + k * 4 + 3, none⟩ = some (.slice a2 (atR rs k).sets.length k2) := fun d os => ((below_regrown wr d os).cell (p := ⟨b', off' + k * 4 + 3, none⟩) hbW').trans d2
          have cQ : ∀ d os, Calls Try.prog 116 #[.agg #[.int .i64 (atR rs k).kind, .int .i64 (atR rs k).tx, .int .i64 (atR rs k).region, .slice a1 (atR rs k).sets.length k1], .agg #[.int .i64 (atR rs k).kind, .int .i64 (atR rs k).tx, .int .i64 (atR rs k).region, .slice a2 (atR rs k).sets.length k2]] (grow (redrawn wr d) os) fun e w'' => e = .returned (.bool true) ∧ ∃ p : Regrown, w'' = grow (redrawn wr p.d) p.os := fun d os => Calls.regrown_of (eqRecord_same _ (atR rs k).kind (atR rs k).tx (atR rs k).region a1 a2 _ k1 k2 (atR rs k).sets hll ((s1.below (below_regrown wr d os)).mono (below_regrown wr d os).size) ((s2.below (below_regrown wr d os)).mono (below_regrown wr d os).size))
          have K : Hid (Below w.heap.size w wr) := hbl
          clear t1 t2 hbl h1 h2 s1 s2 d1 d2 hl hll hx
          go_wp2_with fail
          refine wp_region_quiet_below (by kernel_rfl) (by kernel_rfl) ?_
          repeat (go_big_quiet_step (exact cQ _ _))
          refine wpQuiet_nil ?_
          intro _ hw'
          obtain ⟨⟨dq, osq⟩, hw''⟩ := hw'
          subst hw''
          have bq := below_regrown wr dq osq
          go_wp2
          exact ⟨⟨k + 1, by omega, by simp, K.out.trans (bq.mono K.out.size)⟩, by simp [intOf]; omega⟩
    · have : k = n := by omega
      subst this
      have hd : decide (k < k) = false := by simp
      clear h1 h2
      go_wp2
      go_ret
      exact ⟨rfl, hbl⟩
set_option maxHeartbeats 2000000 in
theorem eqCopyS_any (w : World) (a a' : Option Addr) (n cap cap' : Nat) (rs : List K2) (hn : n ≤ maxLen) (hl : ∀ r ∈ rs, r.cells.length ≤ maxLen) (h1 : SlK w w.heap.size a n rs) (h2 : SlK w w.heap.size a' n rs) :
    Calls Try.prog 107 #[.slice a n cap, .slice a' n cap'] w fun e w' => e = .returned (.bool true) ∧ Below w.heap.size w w' := by
  unfold maxLen at hn
  obtain ⟨hx, h1⟩ := h1
  obtain ⟨_, h2⟩ := h2
  go_enter Try.func107, Try.ntmps107
  go_wp2
  go_loopw [5] (fun i wr => ∃ k : Nat, k ≤ n ∧ i = .int .i64 k ∧ Below w.heap.size w wr) (fun i _ => n - (intOf i).toNat)
  case atStart => exact ⟨0, Nat.zero_le _, rfl, Below.refl _ _⟩
  case round =>
    obtain ⟨k, hk, rfl, hbl⟩ := hrel
    by_cases hlt : k < n
    · rcases h1 with h1 | ⟨b, off, rfl, hb, h1⟩
      · omega
      · rcases h2 with h2 | ⟨b', off', rfl, hb', h2⟩
        · omega
        · have t1 := ((h1 k _ (atK_of (by omega))).below (hbl.mono (Nat.le_refl _)) hb).mono hbl.size
          have t2 := ((h2 k _ (atK_of (by omega))).below (hbl.mono (Nat.le_refl _)) hb').mono hbl.size
          have hll := hl _ (List.mem_of_getElem? (atK_of (ks := rs) (i := k) (by omega)))
          have hbW : b < wr.heap.size := Nat.lt_of_lt_of_le hb hbl.size
          have hbW' : b' < wr.heap.size := Nat.lt_of_lt_of_le hb' hbl.size
          obtain ⟨a1, k1, d1, s1, _⟩ := t1.c1
          obtain ⟨a2, k2, d2, s2, _⟩ := t2.c1
          have x0 : ∀ d os, (grow (redrawn wr d) os).cell? ⟨b, off + k * 2, none⟩ = some (.int .i64 (atK rs k).region) := fun d os => ((below_regrown wr d os).cell (p := ⟨b, off + k * 2, none⟩) hbW).trans t1.c0
          have x1 : ∀ d os, (grow (redrawn wr d) os).cell? ⟨b, off + k * 2 + 1, none⟩ = some (.slice a1 (atK rs k).cells.length k1) := fun d os => ((below_regrown wr d os).cell (p := ⟨b, off + k * 2 + 1, none⟩) hbW).trans d1
          have y0 : ∀ d os, (grow (redrawn wr d) os).cell? ⟨b', off' + k * 2, none⟩ = some (.int .i64 (atK rs k).region) := fun d os => ((below_regrown wr d os).cell (p := ⟨b', off' + k * 2, none⟩) hbW').trans t2.c0
          have y1 : ∀ d os, (grow (redrawn wr d) os).cell? ⟨b', off' + k * 2 + 1, none⟩ = some (.slice a2 (atK rs k).cells.length k2) := fun d os => ((below_regrown wr d os).cell (p := ⟨b', off' + k * 2 + 1, none⟩) hbW').trans d2
          have cQ : ∀ d os, Calls Try.prog 115 #[.agg #[.int .i64 (atK rs k).region, .slice a1 (atK rs k).cells.length k1], .agg #[.int .i64 (atK rs k).region, .slice a2 (atK rs k).cells.length k2]] (grow (redrawn wr d) os) fun e w'' => e = .returned (.bool true) ∧ ∃ p : Regrown, w'' = grow (redrawn wr p.d) p.os := fun d os => Calls.regrown_of (eqCopy_same _ (atK rs k).region a1 a2 _ k1 k2 (atK rs k).cells hll ((s1.below (below_regrown wr d os)).mono (below_regrown wr d os).size) ((s2.below (below_regrown wr d os)).mono (below_regrown wr d os).size))
          have K : Hid (Below w.heap.size w wr) := hbl
          clear t1 t2 hbl h1 h2 s1 s2 d1 d2 hl hll hx
          go_wp2_with fail
          refine wp_region_quiet_below (by kernel_rfl) (by kernel_rfl) ?_
          repeat (go_big_quiet_step (exact cQ _ _))
          refine wpQuiet_nil ?_
          intro _ hw'
          obtain ⟨⟨dq, osq⟩, hw''⟩ := hw'
          subst hw''
          have bq := below_regrown wr dq osq
          go_wp2
          exact ⟨⟨k + 1, by omega, by simp, K.out.trans (bq.mono K.out.size)⟩, by simp [intOf]; omega⟩
    · have : k = n := by omega
      subst this
      have hd : decide (k < k) = false := by simp
      clear h1 h2
      go_wp2
      go_ret
      exact ⟨rfl, hbl⟩
structure ML (m : M4) : Prop where
  k : m.copies.length ≤ maxLen
  ks : ∀ r ∈ m.copies, r.cells.length ≤ maxLen
  r : m.log.length ≤ maxLen
  rs : ∀ r ∈ m.log, r.sets.length ≤ maxLen
  n : m.cleared.length ≤ maxLen
theorem eqMachine_same (w : World) (v v' : MV) (m : M4) (hl : ML m) (h1 : SlM w v m) (h2 : SlM w v' m) : Calls Try.prog 76 #[v.val m, v'.val m] w fun e w' => e = .returned (.bool true) ∧ Below w.heap.size w w' := by
  obtain ⟨ac, cc, al, cl, ad, cd⟩ := v
  obtain ⟨ac', cc', al', cl', ad', cd'⟩ := v'
  have H : Hid (SlM w ⟨ac, cc, al, cl, ad, cd⟩ m ∧ SlM w ⟨ac', cc', al', cl', ad', cd'⟩ m ∧ ML m) := ⟨h1, h2, hl⟩
  clear h1 h2 hl
  simp only [MV.val]
  have qa : (m.alive != m.alive) = false := by cases m.alive <;> rfl
  go_enter Try.func76, Try.ntmps76
  go_wp2_with fail
  have b0 : Below w.heap.size w ((w.alloc (.cells #[.bool m.alive, .slice ac m.copies.length cc, .slice al m.log.length cl, .slice ad m.cleared.length cd] 61)).alloc (.cells #[.bool m.alive, .slice ac' m.copies.length cc', .slice al' m.log.length cl', .slice ad' m.cleared.length cd'] 61)) := ((Below.refl _ _).alloc (Nat.le_refl _) _).alloc (by simp) _
  have B0 : Hid _ := b0
  have u2 : ((w.alloc (.cells #[.bool m.alive, .slice ac m.copies.length cc, .slice al m.log.length cl, .slice ad m.cleared.length cd] 61)).alloc (.cells #[.bool m.alive, .slice ac' m.copies.length cc', .slice al' m.log.length cl', .slice ad' m.cleared.length cd'] 61)).cell? ⟨w.heap.size, 2, none⟩ = some (.slice al m.log.length cl) := by go_simp
  have u3 : ((w.alloc (.cells #[.bool m.alive, .slice ac m.copies.length cc, .slice al m.log.length cl, .slice ad m.cleared.length cd] 61)).alloc (.cells #[.bool m.alive, .slice ac' m.copies.length cc', .slice al' m.log.length cl', .slice ad' m.cleared.length cd'] 61)).cell? ⟨w.heap.size, 3, none⟩ = some (.slice ad m.cleared.length cd) := by go_simp
  have v2 : ((w.alloc (.cells #[.bool m.alive, .slice ac m.copies.length cc, .slice al m.log.length cl, .slice ad m.cleared.length cd] 61)).alloc (.cells #[.bool m.alive, .slice ac' m.copies.length cc', .slice al' m.log.length cl', .slice ad' m.cleared.length cd'] 61)).cell? ⟨w.heap.size + 1, 2, none⟩ = some (.slice al' m.log.length cl') := by go_simp
  have v3 : ((w.alloc (.cells #[.bool m.alive, .slice ac m.copies.length cc, .slice al m.log.length cl, .slice ad m.cleared.length cd] 61)).alloc (.cells #[.bool m.alive, .slice ac' m.copies.length cc', .slice al' m.log.length cl', .slice ad' m.cleared.length cd'] 61)).cell? ⟨w.heap.size + 1, 3, none⟩ = some (.slice ad' m.cleared.length cd') := by go_simp
  have sU : w.heap.size + 1 < ((w.alloc (.cells #[.bool m.alive, .slice ac m.copies.length cc, .slice al m.log.length cl, .slice ad m.cleared.length cd] 61)).alloc (.cells #[.bool m.alive, .slice ac' m.copies.length cc', .slice al' m.log.length cl', .slice ad' m.cleared.length cd'] 61)).heap.size := by simp
  generalize ((w.alloc (.cells #[.bool m.alive, .slice ac m.copies.length cc, .slice al m.log.length cl, .slice ad m.cleared.length cd] 61)).alloc (.cells #[.bool m.alive, .slice ac' m.copies.length cc', .slice al' m.log.length cl', .slice ad' m.cleared.length cd'] 61)) = U at *
  have SU : Hid (w.heap.size + 1 < U.heap.size ∧ Below w.heap.size w U) := ⟨sU, b0⟩
  refine (eqCopyS_any U ac ac' m.copies.length cc cc' m.copies H.out.2.2.k H.out.2.2.ks (H.out.1.later b0).k (H.out.2.1.later b0).k).mono ?_
  clear b0 sU B0
  rintro e w1 ⟨rfl, b1⟩
  have l0 : w.heap.size < U.heap.size := by have := SU.out.1; omega
  have c2 := (b1.cell (p := ⟨w.heap.size, 2, none⟩) l0).trans u2
  have c3 := (b1.cell (p := ⟨w.heap.size, 3, none⟩) l0).trans u3
  have d2 := (b1.cell (p := ⟨w.heap.size + 1, 2, none⟩) SU.out.1).trans v2
  have d3 := (b1.cell (p := ⟨w.heap.size + 1, 3, none⟩) SU.out.1).trans v3
  have B1 : Hid (Below w.heap.size w w1 ∧ U.heap.size ≤ w1.heap.size) := ⟨SU.out.2.trans (b1.mono SU.out.2.size), b1.size⟩
  clear u2 u3 v2 v3 b1 l0
  go_wp2_with fail
  refine (eqRecordS_any w1 al al' m.log.length cl cl' m.log H.out.2.2.r H.out.2.2.rs (H.out.1.later B1.out.1).r (H.out.2.1.later B1.out.1).r).mono ?_
  rintro e w2 ⟨rfl, b2⟩
  have l1 : w.heap.size + 1 < w1.heap.size := by have := SU.out.1; have := B1.out.2; omega
  have x3 := (b2.cell (p := ⟨w.heap.size, 3, none⟩) (by show w.heap.size < _; omega)).trans c3
  have y3 := (b2.cell (p := ⟨w.heap.size + 1, 3, none⟩) l1).trans d3
  have B2 : Hid (Below w.heap.size w w2) := B1.out.1.trans (b2.mono B1.out.1.size)
  clear c2 c3 d2 d3 b2 l1
  go_wp2_with fail
  refine (eqInt64S_any w2 ad ad' m.cleared.length cd cd' m.cleared H.out.2.2.n (H.out.1.later B2.out).n (H.out.2.1.later B2.out).n).mono ?_
  rintro e w3 ⟨rfl, b3⟩
  go_wp2
  go_ret
  exact ⟨rfl, B2.out.trans (b3.mono B2.out.size)⟩
def szM (m : M4) : Nat := (m.copies.length + lensK m.copies) + (m.log.length + lensR m.log) + m.cleared.length
end Go.Proofs.Ytcbfnajpcaipkaa
