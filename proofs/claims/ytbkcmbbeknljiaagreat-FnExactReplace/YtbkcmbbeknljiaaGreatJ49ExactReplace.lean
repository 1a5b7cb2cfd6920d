/- KdM0; NumHeld; MkH: joined. -/
import Derived.Test.YtbkcmbbeknljiaaGreatRows
import Derived.Test.YtbkcmbbeknljiaaGreatJ27ExactReplace
import Derived.Test.YtbkcmbbeknljiaaGreatJ32ExactReplace
import Derived.WalkKit
import Derived.WalkSpells
import Derived.WalkLawsBesides
import Derived.Below
import Derived.Test.YtbkcmbbeknljiaaGreatJ3ExactReplace
import Derived.Test.YtbkcmbbeknljiaaGreatJ12ExactReplace
/- The machine as a kind of data that a law hands over: copied, compared, counted. -/
namespace Go.Proofs.YtbkcmbbeknljiaaGreat
open Go.RowKit
theorem bkept {A X Y : World} {P : Nat → Prop} (h : Below A.heap.size A X) (k : KeptP P X Y) (hp : ∀ q, P q → A.heap.size ≤ q) : Below A.heap.size A Y := h.trans (k.below hp h.size)
/-- A machine of a call's own, in the blocks P. -/
def KM.Ow (w : World) (B : Nat) (a : Option Addr) (b : Nat) (c : Option Addr) (d : Nat) (e : Option Addr) (f : Nat) (m : M4) (P : Nat → Prop) : Prop := ∃ PK PR PD, OM w B ⟨a, b, c, d, e, f⟩ m PK PR PD ∧ (∀ q, OfM PK PR PD q → P q) ∧ (∀ q, P q → B ≤ q ∧ q < w.heap.size)
theorem KM.Ow.of {w : World} {B : Nat} {a : Option Addr} {b : Nat} {c : Option Addr} {d : Nat} {e : Option Addr} {f : Nat} {m : M4} {P : Nat → Prop} (h : KM.Ow w B a b c d e f m P) {q : Nat} (hq : P q) : B ≤ q ∧ q < w.heap.size := by obtain ⟨_, _, _, _, _, h3⟩ := h; exact h3 q hq
theorem KM.Ow.sl {w : World} {B : Nat} {a : Option Addr} {b : Nat} {c : Option Addr} {d : Nat} {e : Option Addr} {f : Nat} {m : M4} {P : Nat → Prop} (h : KM.Ow w B a b c d e f m P) : SlM w ⟨a, b, c, d, e, f⟩ m := by obtain ⟨_, _, _, h1, _, _⟩ := h; exact h1.sl
theorem KM.Ow.keep {w w' : World} {B : Nat} {a : Option Addr} {b : Nat} {c : Option Addr} {d : Nat} {e : Option Addr} {f : Nat} {m : M4} {P : Nat → Prop} (h : KM.Ow w B a b c d e f m P) (hs : w.heap.size ≤ w'.heap.size) (hk : ∀ q, P q → w'.heap[q]? = w.heap[q]?) : KM.Ow w' B a b c d e f m P := by
  obtain ⟨PK, PR, PD, h1, h2, h3⟩ := h
  exact ⟨PK, PR, PD, h1.keep hs (fun q _ hq => hk q (h2 q hq)), h2, fun q hq => ⟨(h3 q hq).1, Nat.lt_of_lt_of_le (h3 q hq).2 hs⟩⟩
theorem KM.Ow.later {w w' : World} {B : Nat} {a : Option Addr} {b : Nat} {c : Option Addr} {d : Nat} {e : Option Addr} {f : Nat} {m : M4} {P : Nat → Prop} (h : KM.Ow w B a b c d e f m P) (hb : Below w.heap.size w w') : KM.Ow w' B a b c d e f m P := h.keep hb.size (fun q hq => hb.block q (h.of hq).2)
theorem KM.Ow.low {w : World} {B B' : Nat} {a : Option Addr} {b : Nat} {c : Option Addr} {d : Nat} {e : Option Addr} {f : Nat} {m : M4} {P : Nat → Prop} (h : KM.Ow w B a b c d e f m P) (hb : B' ≤ B) : KM.Ow w B' a b c d e f m P := by
  obtain ⟨PK, PR, PD, h1, h2, h3⟩ := h
  exact ⟨PK, PR, PD, h1.mono hb, h2, fun q hq => ⟨Nat.le_trans hb (h3 q hq).1, (h3 q hq).2⟩⟩
theorem KM.of {w : World} {B : Nat} {a : Option Addr} {b : Nat} {c : Option Addr} {d : Nat} {e : Option Addr} {f : Nat} {m : M4} {PK PR PD : Nat → Prop} (h : OM w B ⟨a, b, c, d, e, f⟩ m PK PR PD) (hl : ∀ q, OfM PK PR PD q → q < w.heap.size) : KM.Ow w B a b c d e f m (OfM PK PR PD) :=
  ⟨PK, PR, PD, h, fun _ hq => hq, fun q hq => ⟨by rcases hq with hq | hq | hq; exact h.kB q hq; exact h.rB q hq; exact h.dB q hq, hl q hq⟩⟩
theorem KM.to (X : World) (a : Option Addr) (b : Nat) (c : Option Addr) (d : Nat) (e : Option Addr) (f : Nat) (m : M4) (ht : MT m) (h : SlM X ⟨a, b, c, d, e, f⟩ m) : Calls Tryz.prog 29 #[.agg #[.bool m.alive, .slice a m.copies.length b, .slice c m.log.length d, .slice e m.cleared.length f]] X fun r w' =>
    ∃ (a : Option Addr) (b : Nat) (c : Option Addr) (d : Nat) (e : Option Addr) (f : Nat) (P : Nat → Prop), r = .returned (.agg #[.bool m.alive, .slice a m.copies.length b, .slice c m.log.length d, .slice e m.cleared.length f]) ∧ KM.Ow w' X.heap.size a b c d e f m P ∧ Below X.heap.size X w' := by
  have hh := toM_any X ⟨a, b, c, d, e, f⟩ m ht h
  simp only [MV.val] at hh
  refine hh.mono ?_
  rintro r w' ⟨a, b, c, d, e, f, PK, PR, PD, rfl, o, l, bl⟩
  exact ⟨a, b, c, d, e, f, _, rfl, KM.of o l, bl⟩
theorem KM.eq (X : World) (a : Option Addr) (b : Nat) (c : Option Addr) (d : Nat) (e : Option Addr) (f : Nat) (a' : Option Addr) (b' : Nat) (c' : Option Addr) (d' : Nat) (e' : Option Addr) (f' : Nat) (m : M4) (ht : MT m) (h1 : SlM X ⟨a, b, c, d, e, f⟩ m) (h2 : SlM X ⟨a', b', c', d', e', f'⟩ m) : Calls Tryz.prog 31 #[.agg #[.bool m.alive, .slice a m.copies.length b, .slice c m.log.length d, .slice e m.cleared.length f], .agg #[.bool m.alive, .slice a' m.copies.length b', .slice c' m.log.length d', .slice e' m.cleared.length f']] X fun r w' => r = .returned (.bool true) ∧ Below X.heap.size X w' := by
  have hh := eqMachine_same X ⟨a, b, c, d, e, f⟩ ⟨a', b', c', d', e', f'⟩ m ht.ml h1 h2
  simp only [MV.val] at hh
  exact hh
theorem KM.sz (X : World) (a : Option Addr) (b : Nat) (c : Option Addr) (d : Nat) (e : Option Addr) (f : Nat) (m : M4) (hl : ML m) (h : SlM X ⟨a, b, c, d, e, f⟩ m) : Calls Tryz.prog 27 #[.agg #[.bool m.alive, .slice a m.copies.length b, .slice c m.log.length d, .slice e m.cleared.length f], .int .i64 1048576] X fun r w' => r = .returned (.int .i64 (leftR 1048576 (szM m))) ∧ Below X.heap.size X w' := by
  have hh := szMachine_any X ⟨a, b, c, d, e, f⟩ m hl h
  simp only [MV.val] at hh
  exact hh
end Go.Proofs.YtbkcmbbeknljiaaGreat
/- The laws' marks in rows of numbers, held. -/
namespace Go.Proofs.YtbkcmbbeknljiaaGreat
open Go.RowKit
set_option maxHeartbeats 1000000 in
/-- Where the marks stand as they were set. -/
theorem heldInt64S_any (w : World) (a : Option Addr) (n cap : Nat) (k : Int) (hn : n ≤ 1048576) (hk : 0 ≤ k) (hk' : k ≤ 1000000000) (hs : SlN w w.heap.size a n (marks n k)) :
    Calls Tryz.prog 93 #[.slice a n cap, .int .i64 k] w fun e w' => e = .returned (.int .i64 (k + n)) ∧ w' = w := by
  obtain ⟨_, hs⟩ := hs
  go_enter Tryz.func93, Tryz.ntmps93
  go_wp2
  go_loop [1, 5] (fun v1 v5 => ∃ j : Nat, j ≤ n ∧ v5 = .int .i64 j ∧ v1 = .int .i64 (k + j)) (fun _ v5 => n - (intOf v5).toNat)
  case atStart => exact ⟨0, Nat.zero_le _, rfl, by simp⟩
  case round =>
    obtain ⟨j, hj, rfl, rfl⟩ := hrel
    by_cases hlt : j < n
    · rcases hs with hs | ⟨b, off, rfl, hb, h1⟩
      · omega
      · have c := h1 j _ (marks_at n k j hlt)
        have hq : (k + (j : Int) != k + (j : Int)) = false := by simp
        clear h1
        go_wp2
        exact ⟨⟨j + 1, by omega, by simp, by simp; omega⟩, by simp [intOf]; omega⟩
    · have : j = n := by omega
      subst this
      have hd : decide ((j : Int) < (j : Int)) = false := by simp
      clear hs
      go_wp2
      go_ret
      exact ⟨by simp, rfl⟩
end Go.Proofs.YtbkcmbbeknljiaaGreat
/- The laws' marks in a machine, held against what is there. -/
namespace Go.Proofs.YtbkcmbbeknljiaaGreat
open Go.RowKit
theorem hidOf' {p : Prop} (h : p) : Hid p := h
theorem mkKs_at {ks : List K2} {k : Int} {j : Nat} (h : j < ks.length) : (mkKs ks k)[j]? = some (mkK ks k j) := by simp [mkKs, h]
theorem mkRs_at {ks : List R4} {k : Int} {j : Nat} (h : j < ks.length) : (mkRs ks k)[j]? = some (mkR ks k j) := by simp [mkRs, h]
set_option maxHeartbeats 4000000 in
theorem heldCopyS_any (w : World) (a : Option Addr) (cap : Nat) (ks : List K2) (k : Int) (hk : 0 ≤ k) (hk' : k ≤ 500000000) (ht : offG cK ks ks.length ≤ 100000000) (hn : ks.length ≤ 1048576) (hl : ∀ c ∈ ks, c.cells.length ≤ 1048576) (hs : SlK w w.heap.size a ks.length (mkKs ks k)) :
    Calls Tryz.prog 91 #[.slice a ks.length cap, .int .i64 k] w fun e w' => e = .returned (.int .i64 (k + offG cK ks ks.length)) ∧ w' = w := by
  obtain ⟨_, hs⟩ := hs
  have HL := hidOf' hl
  clear hl
  go_enter Tryz.func91, Tryz.ntmps91
  go_wp2
  go_loop [1, 5] (fun v1 v5 => ∃ j : Nat, j ≤ ks.length ∧ v5 = .int .i64 j ∧ v1 = .int .i64 (k + (offG cK ks j : Int))) (fun _ v5 => ks.length - (intOf v5).toNat)
  case atStart => exact ⟨0, Nat.zero_le _, rfl, by rw [offG_zero]; simp⟩
  case round =>
    obtain ⟨j, hj, rfl, rfl⟩ := hrel
    have hb2 := offG_le cK ks j
    by_cases hlt : j < ks.length
    · rcases hs with hs | ⟨b, off, rfl, hb, h1⟩
      · omega
      have hks : ks[j]? = some (atK ks j) := atK_of hlt
      have hr := h1 j _ (mkKs_at hlt)
      have c0 := hr.c0
      obtain ⟨a', cap', c1, hsl, hcp⟩ := hr.c1
      simp only [mkK, mkCells_len] at c0 c1 hsl
      have hoff : Hid (offG cK ks (j + 1) = offG cK ks j + cK (atK ks j)) := offG_succ cK hks
      have hln := HL.out _ (List.mem_of_getElem? hks)
      have hm := heldCellS_k w a' (atK ks j).cells.length cap' (k + (offG cK ks j : Int) + 1) hln (by omega) (by omega) hsl
      have dN : decide (k + (offG cK ks j : Int) + 1 + 2 * ((atK ks j).cells.length : Int) < 0) = false := by simp; omega
      clear h1 hr hsl hcp hks
      go_wp2_with fail
      refine hm.mono ?_
      clear hm
      rintro e w ⟨rfl, rfl⟩
      go_wp2
      exact ⟨⟨j + 1, by omega, by simp, by rw [hoff.out]; simp [cK]; omega⟩, by simp [intOf]; omega⟩
    · obtain rfl : j = ks.length := by omega
      have hd : decide ((ks.length : Int) < (ks.length : Int)) = false := by simp
      clear hs
      go_wp2
      go_ret
      exact ⟨rfl, rfl⟩
set_option maxHeartbeats 4000000 in
theorem heldRecordS_any (w : World) (a : Option Addr) (cap : Nat) (ks : List R4) (k : Int) (hk : 0 ≤ k) (hk' : k ≤ 500000000) (ht : offG cR ks ks.length ≤ 100000000) (hn : ks.length ≤ 1048576) (hl : ∀ c ∈ ks, c.sets.length ≤ 1048576) (hs : SlR w w.heap.size a ks.length (mkRs ks k)) :
    Calls Tryz.prog 92 #[.slice a ks.length cap, .int .i64 k] w fun e w' => e = .returned (.int .i64 (k + offG cR ks ks.length)) ∧ w' = w := by
  obtain ⟨_, hs⟩ := hs
  have HL := hidOf' hl
  clear hl
  go_enter Tryz.func92, Tryz.ntmps92
  go_wp2
  go_loop [1, 5] (fun v1 v5 => ∃ j : Nat, j ≤ ks.length ∧ v5 = .int .i64 j ∧ v1 = .int .i64 (k + (offG cR ks j : Int))) (fun _ v5 => ks.length - (intOf v5).toNat)
  case atStart => exact ⟨0, Nat.zero_le _, rfl, by rw [offG_zero]; simp⟩
  case round =>
    obtain ⟨j, hj, rfl, rfl⟩ := hrel
    have hb2 := offG_le cR ks j
    by_cases hlt : j < ks.length
    · rcases hs with hs | ⟨b, off, rfl, hb, h1⟩
      · omega
      have hks : ks[j]? = some (atR ks j) := atR_of hlt
      have hr := h1 j _ (mkRs_at hlt)
      have c0 := hr.c0
      have c1 := hr.c1
      have c2 := hr.c2
      obtain ⟨a', cap', c3, hsl, hcp⟩ := hr.c3
      simp only [mkR, mkSets_len] at c0 c1 c2 c3 hsl
      have hoff : Hid (offG cR ks (j + 1) = offG cR ks j + cR (atR ks j)) := offG_succ cR hks
      have hln := HL.out _ (List.mem_of_getElem? hks)
      have hm := heldSetS_k w a' (atR ks j).sets.length cap' (k + (offG cR ks j : Int) + 1 + 1 + 1) hln (by omega) (by omega) hsl
      have dN : decide (k + (offG cR ks j : Int) + 1 + 1 + 1 + 5 * ((atR ks j).sets.length : Int) < 0) = false := by simp; omega
      clear h1 hr hsl hcp hks
      go_wp2_with fail
      refine hm.mono ?_
      clear hm
      rintro e w ⟨rfl, rfl⟩
      go_wp2
      exact ⟨⟨j + 1, by omega, by simp, by rw [hoff.out]; simp [cR]; omega⟩, by simp [intOf]; omega⟩
    · obtain rfl : j = ks.length := by omega
      have hd : decide ((ks.length : Int) < (ks.length : Int)) = false := by simp
      clear hs
      go_wp2
      go_ret
      exact ⟨rfl, rfl⟩
set_option maxHeartbeats 2000000 in
theorem heldMachine_any (w : World) (v : MV) (m : M4) (k : Int) (hk : 0 ≤ k) (hk' : k ≤ 100000000) (ht : MT m) (h : SlM w v (mkM m k)) :
    Calls Tryz.prog 35 #[v.val m, .int .i64 k] w fun e w' => e = .returned (.int .i64 (endM m k)) ∧ Below w.heap.size w w' := by
  obtain ⟨ac, cc, al, cl, ad, cd⟩ := v
  simp only [MV.val]
  have b0 : Below w.heap.size w (w.alloc (.cells #[.bool m.alive, .slice ac m.copies.length cc, .slice al m.log.length cl, .slice ad m.cleared.length cd] 28)) := (Below.refl _ _).alloc (Nat.le_refl _) _
  have hW := h.later b0
  have hE1 : endK m k = k + offG cK m.copies m.copies.length := rfl
  have hE2 : endR m k = endK m k + offG cR m.log m.log.length := rfl
  have hE3 : endM m k = endR m k + m.cleared.length := rfl
  have tk := ht.tk
  have tr := ht.tr
  have k1 := hW.k
  have k2 := hW.r
  have k3 := hW.n
  simp only [mkM, mkKs_len, mkRs_len, marks_len] at k1 k2 k3
  have h1 := heldCopyS_any _ ac cc m.copies k hk (by omega) ht.tk ht.k ht.ks k1
  rw [← hE1] at h1
  have h2 := heldRecordS_any _ al cl m.log (endK m k) (by omega) (by omega) ht.tr ht.r ht.rs k2
  rw [← hE2] at h2
  have h3 := heldInt64S_any _ ad m.cleared.length cd (endR m k) ht.n (by omega) (by omega) k3
  rw [← hE3] at h3
  have d1 : decide (endK m k < 0) = false := by simp; omega
  have d2 : decide (endR m k < 0) = false := by simp; omega
  have d3 : decide (endM m k < 0) = false := by simp; omega
  have B0 : Hid (Below w.heap.size w (w.alloc (.cells #[.bool m.alive, .slice ac m.copies.length cc, .slice al m.log.length cl, .slice ad m.cleared.length cd] 28))) := b0
  clear b0 hW k1 k2 k3 h ht hE1 hE2 hE3 tk tr hk hk'
  generalize endK m k = E1 at *
  generalize endR m k = E2 at *
  generalize endM m k = E3 at *
  go_enter Tryz.func35, Tryz.ntmps35
  go_wp2_with (first | (go_at_call 91; refine h1.mono ?_; rintro e w' ⟨rfl, rfl⟩) | (go_at_call 92; refine h2.mono ?_; rintro e w' ⟨rfl, rfl⟩) | (go_at_call 93; refine h3.mono ?_; rintro e w' ⟨rfl, rfl⟩))
  go_ret
  exact ⟨rfl, B0.out⟩
end Go.Proofs.YtbkcmbbeknljiaaGreat
