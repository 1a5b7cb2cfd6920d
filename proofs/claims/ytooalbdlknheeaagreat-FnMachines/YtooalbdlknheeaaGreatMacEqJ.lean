/- The laws' own comparisons of machines that are alike, and the whole count of one. -/
import Derived.Test.YtooalbdlknheeaaGreatRows
import Derived.Test.YtooalbdlknheeaaGreatJ3LawMachines
import Derived.Test.YtooalbdlknheeaaGreatJ7LawMachines
import Derived.WalkKit
import Derived.WalkSpells
import Derived.WalkLawsBesides
import Derived.Below
import Derived.BigQuiet
import Derived.Deep.QuietTactic
import Derived.Lib.QuietBelow
namespace Go.Proofs.YtooalbdlknheeaaGreat
open Go.RowKit
open Go.Sort (grow)
theorem eqCopy_same (w : World) (r : Int) (a a' : Option Addr) (n cap cap' : Nat) (xs : List C2) (hn : n ≤ maxLen) (h1 : SlC w w.heap.size a n xs) (h2 : SlC w w.heap.size a' n xs) :
    Calls Tryz.prog 151 #[.agg #[.int .i64 r, .slice a n cap], .agg #[.int .i64 r, .slice a' n cap']] w fun e w' => e = .returned (.bool true) ∧ Below w.heap.size w w' := by
  go_enter Tryz.func151, Tryz.ntmps151
  go_wp2_with fail
  have b0 : Below w.heap.size w ((w.alloc (.cells #[.int .i64 r, .slice a n cap] 97)).alloc (.cells #[.int .i64 r, .slice a' n cap'] 97)) := ((Below.refl _ _).alloc (Nat.le_refl _) _).alloc (by simp) _
  refine (eqCellS_any _ a a' n cap cap' xs hn (h1.later b0) (h2.later b0)).mono ?_
  rintro e w' ⟨rfl, b1⟩
  go_wp2
  go_ret
  exact ⟨rfl, b0.trans (b1.mono b0.size)⟩
set_option maxHeartbeats 2000000 in
theorem eqRecordS_any (w : World) (a a' : Option Addr) (n cap cap' : Nat) (rs : List R4) (hn : n ≤ maxLen) (hl : ∀ r ∈ rs, r.sets.length ≤ maxLen) (h1 : SlR w w.heap.size a n rs) (h2 : SlR w w.heap.size a' n rs) :
    Calls Tryz.prog 91 #[.slice a n cap, .slice a' n cap'] w fun e w' => e = .returned (.bool true) ∧ Below w.heap.size w w' := by
  unfold maxLen at hn
  obtain ⟨hx, h1⟩ := h1
  obtain ⟨_, h2⟩ := h2
  go_enter Tryz.func91, Tryz.ntmps91
  go_wp2
  go_loopw [5] (fun i wr => ∃ k : Nat, k ≤ n ∧ i = .int .i64 k ∧ Below w.heap.size w wr) (fun i _ => n - (intOf i).toNat)
  case atStart => exact ⟨0, Nat.zero_le _, rfl, Below.refl _ _⟩
  case round =>
    obtain ⟨k, hk, rfl, hbl⟩ := hrel
    by_cases hlt : k < n
    · rcases h1 with h1 | ⟨b, off, rfl, hb, h1⟩
      · omega
      · rcases h2 with h2 | ⟨b', off', rfl, hb', h2⟩
        · omega
        · have t1 := ((h1 k _ (atR_of (by omega))).below (hbl.mono (Nat.le_refl _)) hb).mono hbl.size
          have t2 := ((h2 k _ (atR_of (by omega))).below (hbl.mono (Nat.le_refl _)) hb').mono hbl.size
          have hll := hl _ (List.mem_of_getElem? (atR_of (rs := rs) (i := k) (by omega)))
          have hbW : b < wr.heap.size := Nat.lt_of_lt_of_le hb hbl.size
          have hbW' : b' < wr.heap.size := Nat.lt_of_lt_of_le hb' hbl.size
          obtain ⟨a1, k1, d1, s1, _⟩ := t1.c3
          obtain ⟨a2, k2, d2, s2, _⟩ := t2.c3
          have x0 : ∀ d os, (grow (redrawn wr d) os).cell? ⟨b, off + k * 4, none⟩ = some (.int .i64 (atR rs k).kind) := fun d os => ((below_regrown wr d os).cell (p := ⟨b, off + k * 4, none⟩) hbW).trans t1.c0
          have x1 : ∀ d os, (grow (redrawn wr d) os).cell? ⟨b, off + k * 4 + 1, none⟩ = some (.int .i64 (atR rs k).tx) := fun d os => ((below_regrown wr d os).cell (p := ⟨b, off + k * 4 + 1, none⟩) hbW).trans t1.c1
          have x2 : ∀ d os, (grow (redrawn wr d) os).cell? ⟨b, off + k * 4 + 2, none⟩ = some (.int .i64 (atR rs k).region) := fun d os => ((below_regrown wr d os).cell (p := ⟨b, off + k * 4 + 2, none⟩) hbW).trans t1.c2
          have x3 : ∀ d os, (grow (redrawn wr d) os).cell? ⟨b, off + k * 4 + 3, none⟩ = some (.slice a1 (atR rs k).sets.length k1) := fun d os => ((below_regrown wr d os).cell (p := ⟨b, off + k * 4 + 3, none⟩) hbW).trans d1
          have y0 : ∀ d os, (grow (redrawn wr d) os).cell? ⟨b', off' + k * 4, none⟩ = some (.int .i64 (atR rs k).kind) := fun d os => ((below_regrown wr d os).cell (p := ⟨b', off' + k * 4, none⟩) hbW').trans t2.c0
          have y1 : ∀ d os, (grow (redrawn wr d) os).cell? ⟨b', off' + k * 4 + 1, none⟩ = some (.int .i64 (atR rs k).tx) := fun d os => ((below_regrown wr d os).cell (p := ⟨b', off' + k * 4 + 1, none⟩) hbW').trans t2.c1
          have y2 : ∀ d os, (grow (redrawn wr d) os).cell? ⟨b', off' + k * 4 + 2, none⟩ = some (.int .i64 (atR rs k).region) := fun d os => ((below_regrown wr d os).cell (p := ⟨b', off' + k * 4 + 2, none⟩) hbW').trans t2.c2
          have y3 : ∀ d os, (grow (redrawn wr d) os).cell? ⟨b', off' + k * 4 + 3, none⟩ = some (.slice a2 (atR rs k).sets.length k2) := fun d os => ((below_regrown wr d os).cell (p := ⟨b', off' + k * 4 + 3, none⟩) hbW').trans d2
          have cQ : ∀ d os, Calls Tryz.prog 40 #[.agg #[.int .i64 (atR rs k).kind, .int .i64 (atR rs k).tx, .int .i64 (atR rs k).region, .slice a1 (atR rs k).sets.length k1], .agg #[.int .i64 (atR rs k).kind, .int .i64 (atR rs k).tx, .int .i64 (atR rs k).region, .slice a2 (atR rs k).sets.length k2]] (grow (redrawn wr d) os) fun e w'' => e = .returned (.bool true) ∧ ∃ p : Regrown, w'' = grow (redrawn wr p.d) p.os := fun d os => Calls.regrown_of (eqRecord_same _ (atR rs k).kind (atR rs k).tx (atR rs k).region a1 a2 _ k1 k2 (atR rs k).sets hll ((s1.below (below_regrown wr d os)).mono (below_regrown wr d os).size) ((s2.below (below_regrown wr d os)).mono (below_regrown wr d os).size))
          have K : Hid (Below w.heap.size w wr) := hbl
          clear t1 t2 hbl h1 h2 s1 s2 d1 d2 hl hll hx
          go_wp2_with fail
          refine wp_region_quiet_below (by kernel_rfl) (by kernel_rfl) ?_
          repeat (go_big_quiet_step (exact cQ _ _))
          refine wpQuiet_nil ?_
          intro _ hw'
          obtain ⟨⟨dq, osq⟩, hw''⟩ := hw'
          subst hw''
          have bq := below_regrown wr dq osq
          go_wp2
          exact ⟨⟨k + 1, by omega, by simp, K.out.trans (bq.mono K.out.size)⟩, by simp [intOf]; omega⟩
    · have : k = n := by omega
      subst this
      have hd : decide (k < k) = false := by simp
      clear h1 h2
      go_wp2
      go_ret
      exact ⟨rfl, hbl⟩
set_option maxHeartbeats 2000000 in
theorem eqCopyS_any (w : World) (a a' : Option Addr) (n cap cap' : Nat) (rs : List K2) (hn : n ≤ maxLen) (hl : ∀ r ∈ rs, r.cells.length ≤ maxLen) (h1 : SlK w w.heap.size a n rs) (h2 : SlK w w.heap.size a' n rs) :
    Calls Tryz.prog 90 #[.slice a n cap, .slice a' n cap'] w fun e w' => e = .returned (.bool true) ∧ Below w.heap.size w w' := by
  unfold maxLen at hn
  obtain ⟨hx, h1⟩ := h1
  obtain ⟨_, h2⟩ := h2
  go_enter Tryz.func90, Tryz.ntmps90
  go_wp2
  go_loopw [5] (fun i wr => ∃ k : Nat, k ≤ n ∧ i = .int .i64 k ∧ Below w.heap.size w wr) (fun i _ => n - (intOf i).toNat)
  case atStart => exact ⟨0, Nat.zero_le _, rfl, Below.refl _ _⟩
  case round =>
    obtain ⟨k, hk, rfl, hbl⟩ := hrel
    by_cases hlt : k < n
    · rcases h1 with h1 | ⟨b, off, rfl, hb, h1⟩
      · omega
      · rcases h2 with h2 | ⟨b', off', rfl, hb', h2⟩
        · omega
        · have t1 := ((h1 k _ (atK_of (by omega))).below (hbl.mono (Nat.le_refl _)) hb).mono hbl.size
          have t2 := ((h2 k _ (atK_of (by omega))).below (hbl.mono (Nat.le_refl _)) hb').mono hbl.size
          have hll := hl _ (List.mem_of_getElem? (atK_of (ks := rs) (i := k) (by omega)))
          have hbW : b < wr.heap.size := Nat.lt_of_lt_of_le hb hbl.size
          have hbW' : b' < wr.heap.size := Nat.lt_of_lt_of_le hb' hbl.size
          obtain ⟨a1, k1, d1, s1, _⟩ := t1.c1
          obtain ⟨a2, k2, d2, s2, _⟩ := t2.c1
          have x0 : ∀ d os, (grow (redrawn wr d) os).cell? ⟨b, off + k * 2, none⟩ = some (.int .i64 (atK rs k).region) := fun d os => ((below_regrown wr d os).cell (p := ⟨b, off + k * 2, none⟩) hbW).trans t1.c0
          have x1 : ∀ d os, (grow (redrawn wr d) os).cell? ⟨b, off + k * 2 + 1, none⟩ = some (.slice a1 (atK rs k).cells.length k1) := fun d os => ((below_regrown wr d os).cell (p := ⟨b, off + k * 2 + 1, none⟩) hbW).trans d1
          have y0 : ∀ d os, (grow (redrawn wr d) os).cell? ⟨b', off' + k * 2, none⟩ = some (.int .i64 (atK rs k).region) := fun d os => ((below_regrown wr d os).cell (p := ⟨b', off' + k * 2, none⟩) hbW').trans t2.c0
          have y1 : ∀ d os, (grow (redrawn wr d) os).cell? ⟨b', off' + k * 2 + 1, none⟩ = some (.slice a2 (atK rs k).cells.length k2) := fun d os => ((below_regrown wr d os).cell (p := ⟨b', off' + k * 2 + 1, none⟩) hbW').trans d2
          have cQ : ∀ d os, Calls Tryz.prog 151 #[.agg #[.int .i64 (atK rs k).region, .slice a1 (atK rs k).cells.length k1], .agg #[.int .i64 (atK rs k).region, .slice a2 (atK rs k).cells.length k2]] (grow (redrawn wr d) os) fun e w'' => e = .returned (.bool true) ∧ ∃ p : Regrown, w'' = grow (redrawn wr p.d) p.os := fun d os => Calls.regrown_of (eqCopy_same _ (atK rs k).region a1 a2 _ k1 k2 (atK rs k).cells hll ((s1.below (below_regrown wr d os)).mono (below_regrown wr d os).size) ((s2.below (below_regrown wr d os)).mono (below_regrown wr d os).size))
          have K : Hid (Below w.heap.size w wr) := hbl
          clear t1 t2 hbl h1 h2 s1 s2 d1 d2 hl hll hx
          go_wp2_with fail
          refine wp_region_quiet_below (by kernel_rfl) (by kernel_rfl) ?_
          repeat (go_big_quiet_step (exact cQ _ _))
          refine wpQuiet_nil ?_
          intro _ hw'
          obtain ⟨⟨dq, osq⟩, hw''⟩ := hw'
          subst hw''
          have bq := below_regrown wr dq osq
          go_wp2
          exact ⟨⟨k + 1, by omega, by simp, K.out.trans (bq.mono K.out.size)⟩, by simp [intOf]; omega⟩
    · have : k = n := by omega
      subst this
      have hd : decide (k < k) = false := by simp
      clear h1 h2
      go_wp2
      go_ret
      exact ⟨rfl, hbl⟩
/-- No row is longer than a machine can hold. -/
structure ML (m : M4) : Prop where
  k : m.copies.length ≤ maxLen
  ks : ∀ r ∈ m.copies, r.cells.length ≤ maxLen
  r : m.log.length ≤ maxLen
  rs : ∀ r ∈ m.log, r.sets.length ≤ maxLen
  n : m.cleared.length ≤ maxLen
theorem eqMachine_same (w : World) (v v' : MV) (m : M4) (hl : ML m) (h1 : SlM w v m) (h2 : SlM w v' m) : Calls Tryz.prog 33 #[v.val m, v'.val m] w fun e w' => e = .returned (.bool true) ∧ Below w.heap.size w w' := by
  obtain ⟨ac, cc, al, cl, ad, cd⟩ := v
  obtain ⟨ac', cc', al', cl', ad', cd'⟩ := v'
  have H : Hid (SlM w ⟨ac, cc, al, cl, ad, cd⟩ m ∧ SlM w ⟨ac', cc', al', cl', ad', cd'⟩ m ∧ ML m) := ⟨h1, h2, hl⟩
  clear h1 h2 hl
  simp only [MV.val]
  have qa : (m.alive != m.alive) = false := by cases m.alive <;> rfl
  go_enter Tryz.func33, Tryz.ntmps33
  go_wp2_with fail
  have b0 : Below w.heap.size w ((w.alloc (.cells #[.bool m.alive, .slice ac m.copies.length cc, .slice al m.log.length cl, .slice ad m.cleared.length cd] 28)).alloc (.cells #[.bool m.alive, .slice ac' m.copies.length cc', .slice al' m.log.length cl', .slice ad' m.cleared.length cd'] 28)) := ((Below.refl _ _).alloc (Nat.le_refl _) _).alloc (by simp) _
  have B0 : Hid _ := b0
  have u2 : ((w.alloc (.cells #[.bool m.alive, .slice ac m.copies.length cc, .slice al m.log.length cl, .slice ad m.cleared.length cd] 28)).alloc (.cells #[.bool m.alive, .slice ac' m.copies.length cc', .slice al' m.log.length cl', .slice ad' m.cleared.length cd'] 28)).cell? ⟨w.heap.size, 2, none⟩ = some (.slice al m.log.length cl) := by go_simp
  have u3 : ((w.alloc (.cells #[.bool m.alive, .slice ac m.copies.length cc, .slice al m.log.length cl, .slice ad m.cleared.length cd] 28)).alloc (.cells #[.bool m.alive, .slice ac' m.copies.length cc', .slice al' m.log.length cl', .slice ad' m.cleared.length cd'] 28)).cell? ⟨w.heap.size, 3, none⟩ = some (.slice ad m.cleared.length cd) := by go_simp
  have v2 : ((w.alloc (.cells #[.bool m.alive, .slice ac m.copies.length cc, .slice al m.log.length cl, .slice ad m.cleared.length cd] 28)).alloc (.cells #[.bool m.alive, .slice ac' m.copies.length cc', .slice al' m.log.length cl', .slice ad' m.cleared.length cd'] 28)).cell? ⟨w.heap.size + 1, 2, none⟩ = some (.slice al' m.log.length cl') := by go_simp
  have v3 : ((w.alloc (.cells #[.bool m.alive, .slice ac m.copies.length cc, .slice al m.log.length cl, .slice ad m.cleared.length cd] 28)).alloc (.cells #[.bool m.alive, .slice ac' m.copies.length cc', .slice al' m.log.length cl', .slice ad' m.cleared.length cd'] 28)).cell? ⟨w.heap.size + 1, 3, none⟩ = some (.slice ad' m.cleared.length cd') := by go_simp
  have sU : w.heap.size + 1 < ((w.alloc (.cells #[.bool m.alive, .slice ac m.copies.length cc, .slice al m.log.length cl, .slice ad m.cleared.length cd] 28)).alloc (.cells #[.bool m.alive, .slice ac' m.copies.length cc', .slice al' m.log.length cl', .slice ad' m.cleared.length cd'] 28)).heap.size := by simp
  generalize ((w.alloc (.cells #[.bool m.alive, .slice ac m.copies.length cc, .slice al m.log.length cl, .slice ad m.cleared.length cd] 28)).alloc (.cells #[.bool m.alive, .slice ac' m.copies.length cc', .slice al' m.log.length cl', .slice ad' m.cleared.length cd'] 28)) = U at *
  have SU : Hid (w.heap.size + 1 < U.heap.size ∧ Below w.heap.size w U) := ⟨sU, b0⟩
  refine (eqCopyS_any U ac ac' m.copies.length cc cc' m.copies H.out.2.2.k H.out.2.2.ks (H.out.1.later b0).k (H.out.2.1.later b0).k).mono ?_
  clear b0 sU B0
  rintro e w1 ⟨rfl, b1⟩
  have l0 : w.heap.size < U.heap.size := by have := SU.out.1; omega
  have c2 := (b1.cell (p := ⟨w.heap.size, 2, none⟩) l0).trans u2
  have c3 := (b1.cell (p := ⟨w.heap.size, 3, none⟩) l0).trans u3
  have d2 := (b1.cell (p := ⟨w.heap.size + 1, 2, none⟩) SU.out.1).trans v2
  have d3 := (b1.cell (p := ⟨w.heap.size + 1, 3, none⟩) SU.out.1).trans v3
  have B1 : Hid (Below w.heap.size w w1 ∧ U.heap.size ≤ w1.heap.size) := ⟨SU.out.2.trans (b1.mono SU.out.2.size), b1.size⟩
  clear u2 u3 v2 v3 b1 l0
  go_wp2_with fail
  refine (eqRecordS_any w1 al al' m.log.length cl cl' m.log H.out.2.2.r H.out.2.2.rs (H.out.1.later B1.out.1).r (H.out.2.1.later B1.out.1).r).mono ?_
  rintro e w2 ⟨rfl, b2⟩
  have l1 : w.heap.size + 1 < w1.heap.size := by have := SU.out.1; have := B1.out.2; omega
  have x3 := (b2.cell (p := ⟨w.heap.size, 3, none⟩) (by show w.heap.size < _; omega)).trans c3
  have y3 := (b2.cell (p := ⟨w.heap.size + 1, 3, none⟩) l1).trans d3
  have B2 : Hid (Below w.heap.size w w2) := B1.out.1.trans (b2.mono B1.out.1.size)
  clear c2 c3 d2 d3 b2 l1
  go_wp2_with fail
  refine (eqInt64S_any w2 ad ad' m.cleared.length cd cd' m.cleared H.out.2.2.n (H.out.1.later B2.out).n (H.out.2.1.later B2.out).n).mono ?_
  rintro e w3 ⟨rfl, b3⟩
  go_wp2
  go_ret
  exact ⟨rfl, B2.out.trans (b3.mono B2.out.size)⟩
def szM (m : M4) : Nat := (m.copies.length + lensK m.copies) + (m.log.length + lensR m.log) + m.cleared.length
theorem szMachine_any (w : World) (v : MV) (m : M4) (hl : ML m) (hs : SlM w v m) : Calls Tryz.prog 29 #[v.val m, .int .i64 1048576] w fun e w' => e = .returned (.int .i64 (leftR 1048576 (szM m))) ∧ Below w.heap.size w w' := by
  obtain ⟨ac, cc, al, cl, ad, cd⟩ := v
  have H : Hid (SlM w ⟨ac, cc, al, cl, ad, cd⟩ m ∧ ML m) := ⟨hs, hl⟩
  clear hs hl
  simp only [MV.val]
  have HM : Hid (szM m = (m.copies.length + lensK m.copies) + (m.log.length + lensR m.log) + m.cleared.length) := rfl
  have b0 : Below w.heap.size w (w.alloc (.cells #[.bool m.alive, .slice ac m.copies.length cc, .slice al m.log.length cl, .slice ad m.cleared.length cd] 57)) := (Below.refl _ _).alloc (Nat.le_refl _) _
  have u2 : (w.alloc (.cells #[.bool m.alive, .slice ac m.copies.length cc, .slice al m.log.length cl, .slice ad m.cleared.length cd] 57)).cell? ⟨w.heap.size, 2, none⟩ = some (.slice al m.log.length cl) := by go_simp
  have u3 : (w.alloc (.cells #[.bool m.alive, .slice ac m.copies.length cc, .slice al m.log.length cl, .slice ad m.cleared.length cd] 57)).cell? ⟨w.heap.size, 3, none⟩ = some (.slice ad m.cleared.length cd) := by go_simp
  have sU : w.heap.size < (w.alloc (.cells #[.bool m.alive, .slice ac m.copies.length cc, .slice al m.log.length cl, .slice ad m.cleared.length cd] 57)).heap.size := by simp
  have hz1 : Calls Tryz.prog 83 #[.slice ac m.copies.length cc, .int .i64 1048576] (w.alloc (.cells #[.bool m.alive, .slice ac m.copies.length cc, .slice al m.log.length cl, .slice ad m.cleared.length cd] 57)) fun e w' => e = .returned (.int .i64 (leftR 1048576 (m.copies.length + lensK m.copies))) ∧ Below (w.alloc (.cells #[.bool m.alive, .slice ac m.copies.length cc, .slice al m.log.length cl, .slice ad m.cleared.length cd] 57)).heap.size (w.alloc (.cells #[.bool m.alive, .slice ac m.copies.length cc, .slice al m.log.length cl, .slice ad m.cleared.length cd] 57)) w' := szCopyS_l (w.alloc (.cells #[.bool m.alive, .slice ac m.copies.length cc, .slice al m.log.length cl, .slice ad m.cleared.length cd] 57)) ac m.copies.length cc m.copies 1048576 H.out.2.k (Nat.le_refl _) (H.out.1.later b0).k H.out.2.ks
  have hz2 := fun W l (h : Below w.heap.size w W) (hl : l ≤ 1048576) => szRecordS_l W al m.log.length cl m.log l H.out.2.r hl (H.out.1.later h).r H.out.2.rs
  have hz3 := fun W l (hl : l ≤ 1048576) => szInt64S_l W ad m.cleared.length cd l H.out.2.n hl
  obtain ⟨A, hA⟩ : ∃ A, m.copies.length + lensK m.copies = A := ⟨_, rfl⟩
  obtain ⟨Bn, hB⟩ : ∃ Bn, m.log.length + lensR m.log = Bn := ⟨_, rfl⟩
  obtain ⟨Cn, hC⟩ : ∃ Cn, m.cleared.length = Cn := ⟨_, rfl⟩
  rw [HM.out]
  simp only [hA, hB] at hz1 hz2 ⊢
  have HZ2 : Hid (∀ (W : World) (l : Nat), Below w.heap.size w W → l ≤ 1048576 → Calls Tryz.prog 84 #[.slice al m.log.length cl, .int .i64 (l : Int)] W fun e w' => e = .returned (.int .i64 (leftR l Bn)) ∧ Below W.heap.size W w') := hz2
  have HZ3 : Hid (∀ (W : World) (l : Nat), l ≤ 1048576 → Calls Tryz.prog 85 #[.slice ad m.cleared.length cd, .int .i64 (l : Int)] W fun e w' => e = .returned (.int .i64 (leftR l m.cleared.length)) ∧ w' = W) := hz3
  have SU : Hid (w.heap.size < (w.alloc (.cells #[.bool m.alive, .slice ac m.copies.length cc, .slice al m.log.length cl, .slice ad m.cleared.length cd] 57)).heap.size ∧ Below w.heap.size w (w.alloc (.cells #[.bool m.alive, .slice ac m.copies.length cc, .slice al m.log.length cl, .slice ad m.cleared.length cd] 57))) := ⟨sU, b0⟩
  clear hA hB hC hz2 hz3 sU b0 HM
  by_cases h1 : A ≤ 1048576
  · rw [leftR_yes h1] at hz1
    have g1 : decide (((1048576 - A : Nat) : Int) < 0) = false := by simp
    go_enter Tryz.func29, Tryz.ntmps29
    go_wp2_with fail
    refine hz1.mono ?_
    clear hz1
    rintro e w1 ⟨rfl, b1⟩
    have c2 := (b1.cell (p := ⟨w.heap.size, 2, none⟩) SU.out.1).trans u2
    have c3 := (b1.cell (p := ⟨w.heap.size, 3, none⟩) SU.out.1).trans u3
    have B1 : Hid (Below w.heap.size w w1 ∧ w.heap.size < w1.heap.size) := ⟨SU.out.2.trans (b1.mono SU.out.2.size), Nat.lt_of_lt_of_le SU.out.1 b1.size⟩
    clear u2 u3 b1
    go_wp2_with fail
    have hz := HZ2.out w1 (1048576 - A) B1.out.1 (by omega)
    by_cases h2 : Bn ≤ 1048576 - A
    · rw [leftR_yes h2] at hz
      have g2 : decide (((1048576 - A - Bn : Nat) : Int) < 0) = false := by simp
      refine hz.mono ?_
      clear hz
      rintro e w2 ⟨rfl, b2⟩
      have x3 := (b2.cell (p := ⟨w.heap.size, 3, none⟩) B1.out.2).trans c3
      have B2 : Hid (Below w.heap.size w w2) := B1.out.1.trans (b2.mono B1.out.1.size)
      clear c2 c3 b2
      go_wp2_with fail
      have hz := HZ3.out w2 (1048576 - A - Bn) (by omega)
      by_cases h3 : m.cleared.length ≤ 1048576 - A - Bn
      · rw [leftR_yes h3] at hz
        have g3 : decide (((1048576 - A - Bn - m.cleared.length : Nat) : Int) < 0) = false := by simp
        refine hz.mono ?_
        clear hz
        rintro e w2 ⟨rfl, rfl⟩
        go_wp2
        go_ret
        exact ⟨by rw [leftR_yes (by omega), show 1048576 - (A + Bn + m.cleared.length) = 1048576 - A - Bn - m.cleared.length by omega]; rfl, B2.out⟩
      · rw [leftR_no h3] at hz
        refine hz.mono ?_
        clear hz
        rintro e w2 ⟨rfl, rfl⟩
        go_wp2
        go_ret
        exact ⟨by rw [leftR_no (by omega)]; rfl, B2.out⟩
    · rw [leftR_no h2] at hz
      refine hz.mono ?_
      clear hz
      rintro e w2 ⟨rfl, b2⟩
      have B2 : Hid (Below w.heap.size w w2) := B1.out.1.trans (b2.mono B1.out.1.size)
      clear b2
      go_wp2
      go_ret
      exact ⟨by rw [leftR_no (by omega)]; rfl, B2.out⟩
  · rw [leftR_no h1] at hz1
    go_enter Tryz.func29, Tryz.ntmps29
    go_wp2_with fail
    refine hz1.mono ?_
    clear hz1
    rintro e w1 ⟨rfl, b1⟩
    have B1 : Hid (Below w.heap.size w w1) := SU.out.2.trans (b1.mono SU.out.2.size)
    clear b1
    go_wp2
    go_ret
    exact ⟨by rw [leftR_no (by omega)]; rfl, B1.out⟩
end Go.Proofs.YtooalbdlknheeaaGreat
