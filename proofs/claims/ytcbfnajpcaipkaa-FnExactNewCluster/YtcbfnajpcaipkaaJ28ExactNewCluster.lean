/- KdClM; KdClN; NcZ: joined. -/
import Derived.Test.YtcbfnajpcaipkaaRows
import Derived.Test.YtcbfnajpcaipkaaJ25ExactNewCluster
import Derived.Test.YtcbfnajpcaipkaaJ22ExactNewCluster
import Derived.Test.YtcbfnajpcaipkaaJ24ExactNewCluster
import Derived.WalkKit
import Derived.WalkSpells
import Derived.WalkLawsBesides
import Derived.Below
import Derived.Lib.QuietBelow
import Derived.BigQuiet
import Derived.Deep.CutRange
import Derived.Test.YtcbfnajpcaipkaaKdTnJ
import Derived.Test.YtcbfnajpcaipkaaJ18ExactNewCluster
namespace Go.Proofs.Ytcbfnajpcaipkaa
open Go.RowKit
open Go.Sort (grow)
set_option maxHeartbeats 1000000 in
theorem markMS_nil (w : World) (a : Option Addr) (cap : Nat) (k : Int) : Calls Try.prog 36 #[.slice a 0 cap, .int .i64 k] w fun e w' => e = .returned (.int .i64 k) ∧ w' = w := by
  go_enter Try.func36, Try.ntmps36
  go_wp2
  go_loop [1, 5] (fun v1 v5 => v1 = .int .i64 k ∧ v5 = .int .i64 0) (fun _ _ => 0)
  case atStart => exact ⟨rfl, rfl⟩
  case round =>
    obtain ⟨rfl, rfl⟩ := hrel
    go_wp2
    go_ret
    exact ⟨rfl, rfl⟩
set_option maxHeartbeats 1000000 in
theorem markTS_nil (w : World) (a : Option Addr) (cap : Nat) (k : Int) : Calls Try.prog 37 #[.slice a 0 cap, .int .i64 k] w fun e w' => e = .returned (.int .i64 k) ∧ w' = w := by
  go_enter Try.func37, Try.ntmps37
  go_wp2
  go_loop [1, 5] (fun v1 v5 => v1 = .int .i64 k ∧ v5 = .int .i64 0) (fun _ _ => 0)
  case atStart => exact ⟨rfl, rfl⟩
  case round =>
    obtain ⟨rfl, rfl⟩ := hrel
    go_wp2
    go_ret
    exact ⟨rfl, rfl⟩
theorem offG_cap {α : Type} (c l : α → Nat) (a : Nat) (h : ∀ r, c r ≤ a + 5 * l r) (rs : List α) : offG c rs rs.length ≤ a * rs.length + 5 * (rs.map l).sum := by
  unfold offG
  rw [List.take_of_length_le (by simp)]
  induction rs with
  | nil => simp
  | cons r rs ih =>
    have := h r
    simp only [List.map_cons, List.sum_cons, List.length_cons, Nat.mul_add, Nat.mul_one]
    omega
def cC (k : C6) : Nat := lens k.places + offG cM k.machines k.machines.length + offG cT k.txs k.txs.length
theorem cC_le (k : C6) : cC k ≤ 5 * szC k := by
  have h1 := offG_cap cM (fun d => szM d) 1 (fun m => by
    show cM m ≤ 1 + 5 * szM m
    have e1 := off_sum cK (fun k => k.cells.length) 1 2 (fun r => rfl) m.copies
    have e2 := off_sum cR (fun k => k.sets.length) 3 5 (fun r => rfl) m.log
    unfold cM szM lensK lensR
    omega) k.machines
  have h2 := offG_cap cT (fun d => tx.szT d) 5 (fun t => by show cT t ≤ 5 + 5 * tx.szT t; unfold cT tx.szT; omega) k.txs
  unfold cC szC KMS.szs KTS.szs
  omega
def endC (k : C6) (x : Int) : Int := x + (cC k : Int)
theorem markMS_ownc (w : World) (B : Nat) (a : Option Addr) (cap : Nat) (xs : List M4) (P : Nat → Prop) (k : Int) (hk : 0 ≤ k) (hk' : k + (offG cM xs xs.length : Int) ≤ 100000000) (hn : xs.length ≤ 1048576) (ht : ∀ m ∈ xs, MT m) (h : KMk.OwS w B a xs P) :
    Calls Try.prog 36 #[.slice a xs.length cap, .int .i64 k] w fun e w' => e = .returned (.int .i64 (k + (offG cM xs xs.length : Int))) ∧ KeptP P w w' ∧ KMk.OwS w' B a (mkMs xs k) P := by
  obtain ⟨h, hP⟩ := h
  rcases h with rfl | ⟨b, g, rfl, hp, hpt, hg⟩
  · refine (markMS_nil w a cap k).mono ?_
    rintro e w' ⟨rfl, rfl⟩
    exact ⟨by simp [offG], KeptP.refl _ _, .inl rfl, hP⟩
  · refine (markMn w B b cap xs g P k hk hk' hn ht (hP b hp).2 hp hg hpt).mono ?_
    rintro e w' ⟨rfl, kp, o⟩
    exact ⟨rfl, kp, .inr ⟨b, g, rfl, hp, by rw [mkMs_len]; exact o, by rw [mkMs_len]; exact hg⟩, fun q hq => ⟨(hP q hq).1, Nat.lt_of_lt_of_le (hP q hq).2 kp.size⟩⟩
theorem markTS_ownc (w : World) (B : Nat) (a : Option Addr) (cap : Nat) (xs : List tx.T7) (P : Nat → Prop) (k : Int) (hk : 0 ≤ k) (hk' : k + (offG cT xs xs.length : Int) ≤ 100000000) (hn : xs.length ≤ 1048576) (ht : ∀ m ∈ xs, KT.S m) (h : KTk.OwS w B a xs P) :
    Calls Try.prog 37 #[.slice a xs.length cap, .int .i64 k] w fun e w' => e = .returned (.int .i64 (k + (offG cT xs xs.length : Int))) ∧ KeptP P w w' ∧ KTk.OwS w' B a (mkTs xs k) P := by
  obtain ⟨h, hP⟩ := h
  rcases h with rfl | ⟨b, g, rfl, hp, hpt, hg⟩
  · refine (markTS_nil w a cap k).mono ?_
    rintro e w' ⟨rfl, rfl⟩
    exact ⟨by simp [offG], KeptP.refl _ _, .inl rfl, hP⟩
  · refine (markTn w B b cap xs g P k hk hk' hn ht (hP b hp).2 hp hg hpt).mono ?_
    rintro e w' ⟨rfl, kp, o⟩
    exact ⟨rfl, kp, .inr ⟨b, g, rfl, hp, by rw [mkTs_len]; exact o, by rw [mkTs_len]; exact hg⟩, fun q hq => ⟨(hP q hq).1, Nat.lt_of_lt_of_le (hP q hq).2 kp.size⟩⟩
def mkC (k : C6) (x : Int) : C6 := ⟨k.config, k.clock, markPs k.places x, mkMs k.machines (x + (lens k.places : Int)), mkTs k.txs (x + (lens k.places : Int) + (offG cM k.machines k.machines.length : Int)), k.lost⟩
set_option maxHeartbeats 4000000 in
theorem KCl.markc (X : World) (B : Nat) (a1 : Option Addr) (c1 : Nat) (a2 : Option Addr) (c2 : Nat) (a3 : Option Addr) (c3 : Nat) (k : C6) (P : Nat → Prop) (x : Int) (hx : 0 ≤ x) (hx' : x ≤ 1000) (hz : szC k ≤ 1048576) (ht : KCl.S k) (h : KCl.Ow X B a1 c1 a2 c2 a3 c3 k P) :
    Calls Try.prog 11 #[.agg #[.int .i64 k.config, .int .i64 k.clock, .slice a1 k.places.length c1, .slice a2 k.machines.length c2, .slice a3 k.txs.length c3, .bool k.lost], .int .i64 x] X fun r w' => r = .returned (.int .i64 (endC k x)) ∧ KeptP P X w' ∧ KCl.Rd w' a1 c1 a2 c2 a3 c3 (mkC k x) := by
  obtain ⟨⟨P1, P2, P3, ⟨⟨g, oq, ob, og⟩, oB⟩, om, ot, s1, s2, s3, d12, d13, d23⟩, hP⟩ := h
  have hcc := cC_le k
  have hC : endC k x = x + (lens k.places : Int) + (offG cM k.machines k.machines.length : Int) + (offG cT k.txs k.txs.length : Int) := by unfold endC cC; push_cast; omega
  have hs1 : lens k.places ≤ 1048576 := by unfold szC at hz; omega
  obtain ⟨W, hW⟩ : ∃ Y, Y = X.alloc (.cells #[.int .i64 k.config, .int .i64 k.clock, .slice a1 k.places.length c1, .slice a2 k.machines.length c2, .slice a3 k.txs.length c3, .bool k.lost] 26) := ⟨_, rfl⟩
  have bW : Below X.heap.size X W := by rw [hW]; exact (Below.refl _ _).alloc (Nat.le_refl _) _
  have FA : Hid (Bx W X.heap.size [.int .i64 k.config, .int .i64 k.clock, .slice a1 k.places.length c1, .slice a2 k.machines.length c2, .slice a3 k.txs.length c3, .bool k.lost]) := by unfold Hid; rw [hW]; exact Bx.made X [.int .i64 k.config, .int .i64 k.clock, .slice a1 k.places.length c1, .slice a2 k.machines.length c2, .slice a3 k.txs.length c3, .bool k.lost] _
  have hc := markPlaceS_q W B a1 k.places.length c1 k.places g x ht.p hs1 hx (by omega) (oq.later bW)
  have H : Hid (KMk.OwS W B a2 k.machines P2 ∧ KTk.OwS W B a3 k.txs P3 ∧ (∀ q, P1 q → P q) ∧ (∀ q, P2 q → P q) ∧ (∀ q, P3 q → P q) ∧ (∀ q, P1 q → ¬ P2 q) ∧ (∀ q, P1 q → ¬ P3 q) ∧ (∀ q, P2 q → ¬ P3 q) ∧ (∀ q, P q → q < X.heap.size) ∧ (∀ i, i < k.places.length → P1 (g i)) ∧ Below X.heap.size X W ∧ KCl.S k) := ⟨om.later bW, ot.later bW, s1, s2, s3, d12, d13, d23, fun q hq => (hP q hq).2, og, bW, ht⟩
  have HB : Hid (∀ b, a1 = some ⟨b, 0, none⟩ → P1 b) := ob
  have HE := hidOf hC
  have HL : Hid (x + (lens k.places : Int) + (offG cM k.machines k.machines.length : Int) + (offG cT k.txs k.txs.length : Int) ≤ 100000000) := by unfold Hid; rw [← hC]; unfold endC; omega
  clear oq ob og oB om ot s1 s2 s3 d12 d13 d23 hP hcc hC hz ht bW hs1
  go_enter Try.func11, Try.ntmps11
  go_wp2_with fail
  rw [← hW]
  clear hW
  refine hc.mono ?_
  clear hc
  rintro e w1 ⟨rfl, kp, oq⟩
  obtain ⟨om, ot, s1, s2, s3, d12, d13, d23, hP, og, bW, ht⟩ := H.out
  have k1 : KeptP P1 W w1 := ⟨kp.os, kp.tape, kp.output, Nat.le_of_eq kp.size.symm, fun q _ hn => kp.block q (fun i hi e => hn (e ▸ og i hi))⟩
  have F1 : Hid (Bx w1 X.heap.size [.int .i64 k.config, .int .i64 k.clock, .slice a1 k.places.length c1, .slice a2 k.machines.length c2, .slice a3 k.txs.length c3, .bool k.lost]) := FA.out.of_block (k1.block _ FA.out.2.2 (fun e => by have := hP _ (s1 _ e); omega)) k1.size
  have O1 : Hid (OwnQ w1 B a1 k.places.length (markPs k.places x) g ∧ X.heap.size ≤ w1.heap.size) := ⟨oq, Nat.le_trans bW.size k1.size⟩
  have M1 : Hid (KMk.OwS w1 B a2 k.machines P2 ∧ KTk.OwS w1 B a3 k.txs P3 ∧ KeptP P X w1) := ⟨om.keep k1.size (fun q hq => k1.block q (om.of hq).2 (fun e => d12 q e hq)), ot.keep k1.size (fun q hq => k1.block q (ot.of hq).2 (fun e => d13 q e hq)), (KeptP.of_below bW).trans (k1.mono s1)⟩
  clear om ot s1 s2 s3 d12 d13 d23 hP og bW k1 kp ht oq
  have p3 := F1.out.1 3 _ rfl
  have l1 := HL.out
  have HM : Hid (mkC k x = ⟨k.config, k.clock, markPs k.places x, mkMs k.machines (x + (lens k.places : Int)), mkTs k.txs (x + (lens k.places : Int) + (offG cM k.machines k.machines.length : Int)), k.lost⟩) := rfl
  generalize hy : x + (lens k.places : Int) = y at *
  have hy0 : 0 ≤ y := by omega
  go_wp2_with fail
  refine (markMS_ownc w1 B a2 c2 k.machines P2 y hy0 (by omega) H.out.2.2.2.2.2.2.2.2.2.2.2.m H.out.2.2.2.2.2.2.2.2.2.2.2.ms M1.out.1).mono ?_
  rintro e w2 ⟨rfl, k2, om2⟩
  obtain ⟨om, ot, s1, s2, s3, d12, d13, d23, hP, og, bW, ht⟩ := H.out
  have F2 : Hid (Bx w2 X.heap.size [.int .i64 k.config, .int .i64 k.clock, .slice a1 k.places.length c1, .slice a2 k.machines.length c2, .slice a3 k.txs.length c3, .bool k.lost]) := F1.out.of_block (k2.block _ F1.out.2.2 (fun e => by have := hP _ (s2 _ e); omega)) k2.size
  have O2 : Hid (OwnQ w2 B a1 k.places.length (markPs k.places x) g ∧ X.heap.size ≤ w2.heap.size) := ⟨O1.out.1.kept k2.size (fun b e => k2.block b (by have := hP _ (s1 _ (HB.out b e)); have := O1.out.2; omega) (d12 b (HB.out b e))) (fun i hi => k2.block _ (by have := hP _ (s1 _ (og i hi)); have := O1.out.2; omega) (d12 _ (og i hi))), Nat.le_trans O1.out.2 k2.size⟩
  have M2 : Hid (KTk.OwS w2 B a3 k.txs P3 ∧ KeptP P X w2 ∧ KMk.OwS w2 B a2 (mkMs k.machines y) P2) := ⟨M1.out.2.1.keep k2.size (fun q hq => k2.block q (M1.out.2.1.of hq).2 (fun e => d23 q e hq)), M1.out.2.2.trans (k2.mono s2), om2⟩
  clear om ot s1 s2 s3 d12 d13 d23 hP og bW k2 ht p3 om2 O1
  have p4 := F2.out.1 4 _ rfl
  generalize hz : y + (offG cM k.machines k.machines.length : Int) = z at *
  have hz0 : 0 ≤ z := by omega
  go_wp2_with fail
  refine (markTS_ownc w2 B a3 c3 k.txs P3 z hz0 (by omega) H.out.2.2.2.2.2.2.2.2.2.2.2.t H.out.2.2.2.2.2.2.2.2.2.2.2.ts M2.out.1).mono ?_
  rintro e w3 ⟨rfl, k3, ot3⟩
  have M3 : Hid (KeptP P X w3 ∧ KCl.Rd w3 a1 c1 a2 c2 a3 c3 (mkC k x)) := by
    obtain ⟨om, ot, s1, s2, s3, d12, d13, d23, hP, og, bW, ht⟩ := H.out
    have o3 := O2.out.1.kept k3.size (fun b e => k3.block b (by have := hP _ (s1 _ (HB.out b e)); have := O2.out.2; omega) (d13 b (HB.out b e))) (fun i hi => k3.block _ (by have := hP _ (s1 _ (og i hi)); have := O2.out.2; omega) (d13 _ (og i hi)))
    have m3 := M2.out.2.2.keep k3.size (fun q hq => k3.block q (M2.out.2.2.of hq).2 (d23 q hq))
    refine ⟨M2.out.2.1.trans (k3.mono s3), ?_⟩
    rw [HM.out]
    exact ⟨by rw [markPs_len]; exact o3.sl, m3.sl, ot3.sl⟩
  clear k3 p4 ot3
  go_wp2
  go_ret
  exact ⟨by rw [HE.out]; rfl, M3.out.1, M3.out.2⟩
set_option maxHeartbeats 4000000 in
theorem KCl.held (X : World) (a1 : Option Addr) (c1 : Nat) (a2 : Option Addr) (c2 : Nat) (a3 : Option Addr) (c3 : Nat) (k : C6) (x : Int) (hx : 0 ≤ x) (hx' : x ≤ 1000) (hz : szC k ≤ 1048576) (ht : KCl.S k) (h : KCl.Rd X a1 c1 a2 c2 a3 c3 (mkC k x)) :
    Calls Try.prog 12 #[.agg #[.int .i64 k.config, .int .i64 k.clock, .slice a1 k.places.length c1, .slice a2 k.machines.length c2, .slice a3 k.txs.length c3, .bool k.lost], .int .i64 x] X fun r w' => r = .returned (.int .i64 (endC k x)) ∧ Below X.heap.size X w' := by
  have hcc := cC_le k
  have hC : endC k x = x + (lens k.places : Int) + (offG cM k.machines k.machines.length : Int) + (offG cT k.txs k.txs.length : Int) := by unfold endC cC; push_cast; omega
  have hs1 : lens k.places ≤ 1048576 := by unfold szC at hz; omega
  obtain ⟨W, hW⟩ : ∃ Y, Y = X.alloc (.cells #[.int .i64 k.config, .int .i64 k.clock, .slice a1 k.places.length c1, .slice a2 k.machines.length c2, .slice a3 k.txs.length c3, .bool k.lost] 26) := ⟨_, rfl⟩
  have bW : Below X.heap.size X W := by rw [hW]; exact (Below.refl _ _).alloc (Nat.le_refl _) _
  have FA : Bx W X.heap.size [.int .i64 k.config, .int .i64 k.clock, .slice a1 k.places.length c1, .slice a2 k.machines.length c2, .slice a3 k.txs.length c3, .bool k.lost] := by rw [hW]; exact Bx.made X [.int .i64 k.config, .int .i64 k.clock, .slice a1 k.places.length c1, .slice a2 k.machines.length c2, .slice a3 k.txs.length c3, .bool k.lost] _
  have h0 := h.later bW
  have hp := h0.p
  simp only [mkC, markPs_len] at hp
  have hc := heldPlaceS_any W a1 k.places.length c1 k.places x ht.p hs1 hx (by omega) hp
  have HL : Hid (x + (lens k.places : Int) + (offG cM k.machines k.machines.length : Int) + (offG cT k.txs k.txs.length : Int) ≤ 100000000) := by unfold Hid; rw [← hC]; unfold endC; omega
  have H : Hid (KMk.RdS W a2 (mkMs k.machines (x + (lens k.places : Int))) ∧ KTk.RdS W a3 (mkTs k.txs (x + (lens k.places : Int) + (offG cM k.machines k.machines.length : Int))) ∧ Below X.heap.size X W ∧ KCl.S k ∧ Bx W X.heap.size [.int .i64 k.config, .int .i64 k.clock, .slice a1 k.places.length c1, .slice a2 k.machines.length c2, .slice a3 k.txs.length c3, .bool k.lost]) := ⟨h0.m, h0.t, bW, ht, FA⟩
  have HE := hidOf hC
  have p3 := FA.1 3 _ rfl
  have p4 := FA.1 4 _ rfl
  have d1 : decide (x + (lens k.places : Int) < 0) = false := by simp; omega
  have d2 : decide (x + (lens k.places : Int) + (offG cM k.machines k.machines.length : Int) < 0) = false := by simp; omega
  have d3 : decide (x + (lens k.places : Int) + (offG cM k.machines k.machines.length : Int) + (offG cT k.txs k.txs.length : Int) < 0) = false := by simp; omega
  clear h h0 hp hcc hC hz ht bW hs1 FA
  rw [hW] at p3 p4
  go_enter Try.func12, Try.ntmps12
  go_wp2_with fail
  rw [← hW]
  refine hc.mono ?_
  clear hc
  rintro e w1 ⟨rfl, rfl⟩
  rw [← hW] at p3 p4
  clear hW
  have l1 := HL.out
  generalize hy : x + (lens k.places : Int) = y at *
  have hy0 : 0 ≤ y := by omega
  go_wp2_with fail
  refine (heldMn w1 a2 c2 k.machines y hy0 (by omega) H.out.2.2.2.1.m H.out.2.2.2.1.ms H.out.1).mono ?_
  rintro e w2 ⟨rfl, b2⟩
  have H2 : Hid (KTk.RdS w2 a3 (mkTs k.txs (y + (offG cM k.machines k.machines.length : Int))) ∧ Below X.heap.size X w2 ∧ Bx w2 X.heap.size [.int .i64 k.config, .int .i64 k.clock, .slice a1 k.places.length c1, .slice a2 k.machines.length c2, .slice a3 k.txs.length c3, .bool k.lost]) := ⟨H.out.2.1.later b2, bstep H.out.2.2.1 b2, H.out.2.2.2.2.later b2⟩
  clear b2 p3 p4
  have p4 := H2.out.2.2.1 4 _ rfl
  generalize hz : y + (offG cM k.machines k.machines.length : Int) = z at *
  have hz0 : 0 ≤ z := by omega
  go_wp2_with fail
  refine (heldTn w2 a3 c3 k.txs z hz0 (by omega) H.out.2.2.2.1.t H.out.2.2.2.1.ts H2.out.1).mono ?_
  rintro e w3 ⟨rfl, b3⟩
  have H3 : Hid (Below X.heap.size X w3) := bstep H2.out.2.1 b3
  clear b3 p4
  go_wp2
  go_ret
  exact ⟨by rw [HE.out]; rfl, H3.out⟩
theorem sum_le0 {α : Type} (f : α → Nat) (c : Nat) : ∀ {l : List α}, (∀ x ∈ l, f x ≤ c) → (l.map f).sum ≤ l.length * c
  | [], _ => by simp
  | a :: l, h => by
    have h1 := h a (by simp)
    have h2 := sum_le0 f c (l := l) (fun x hx => h x (by simp [hx]))
    simp only [List.map_cons, List.sum_cons, List.length_cons, Nat.succ_mul]
    omega
theorem newC_sz (R M : Int) : szC (newC R M) ≤ 1048576 := by
  unfold newC
  split
  · rename_i h
    obtain ⟨n, m, rfl, rfl, h1, h2, h3, h4⟩ := spread_bd h
    simp only [Int.toNat_natCast]
    have s1 := sum_le0 List.length 3 (l := spreadN n m) (fun z hz => spreadL_sm n m z hz)
    rw [spreadN_len] at s1
    have s2 := sum_le0 (fun m => szM m) 42 (l := ncMs (spreadN n m) n m) (fun x hx => by
      simp only [ncMs, List.mem_map] at hx
      obtain ⟨j, _, rfl⟩ := hx
      have hk := ncKs_len (spreadN n m) j n
      have h6 := sum_le0 (fun k : K2 => k.cells.length) 6 (l := ncKs (spreadN n m) j n) (fun k hk => by
        simp only [ncKs, List.mem_map] at hk
        obtain ⟨r, _, rfl⟩ := hk
        show zeros.length ≤ 6
        decide)
      simp only [szM, ncM, lensK, lensR, List.map_nil, List.sum_nil, List.length_nil]
      omega)
    have hl : (ncMs (spreadN n m) n m).length = m := by simp [ncMs]
    rw [hl] at s2
    simp only [szC, lens, KMS.szs, KTS.szs, List.map_nil, List.sum_nil, List.length_nil, spreadN_len, hl]
    omega
  · simp [szC, noC, lens, KMS.szs, KTS.szs]
end Go.Proofs.Ytcbfnajpcaipkaa