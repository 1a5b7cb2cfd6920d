/- KdClM; KdTh; Leav: joined. -/
import Derived.Test.YtalmflikdnflfaaGreatRows
import Derived.Test.YtalmflikdnflfaaGreatJ51ExactFind
import Derived.Test.YtalmflikdnflfaaGreatJ23ExactFind
import Derived.WalkKit
import Derived.WalkSpells
import Derived.WalkLawsBesides
import Derived.Below
import Derived.Lib.QuietBelow
import Derived.BigQuiet
import Derived.Deep.CutRange
import Derived.Test.YtalmflikdnflfaaGreatJ42ExactFind
import Derived.Conc.Holds
import Derived.Leaving
import Derived.Handed
/- A cluster marked: nothing else is turned. -/
namespace Go.Proofs.YtalmflikdnflfaaGreat
open Go.RowKit
open Go.Sort (grow)
set_option maxHeartbeats 1000000 in
theorem markMS_nil (w : World) (a : Option Addr) (cap : Nat) (k : Int) : Calls Tryz.prog 57 #[.slice a 0 cap, .int .i64 k] w fun e w' => e = .returned (.int .i64 k) ∧ w' = w := by
  go_enter Tryz.func57, Tryz.ntmps57
  go_wp2
  go_loop [1, 5] (fun v1 v5 => v1 = .int .i64 k ∧ v5 = .int .i64 0) (fun _ _ => 0)
  case atStart => exact ⟨rfl, rfl⟩
  case round =>
    obtain ⟨rfl, rfl⟩ := hrel
    go_wp2
    go_ret
    exact ⟨rfl, rfl⟩
theorem markMS_own (w : World) (B : Nat) (a : Option Addr) (cap : Nat) (xs : List M4) (P : Nat → Prop) (k : Int) (hk : 0 ≤ k) (hk' : k + (offG cM xs xs.length : Int) ≤ 100000000) (hn : xs.length ≤ 1048576) (ht : ∀ m ∈ xs, MT m) (h : KMk.OwS w B a xs P) :
    Calls Tryz.prog 57 #[.slice a xs.length cap, .int .i64 k] w fun e w' => e = .returned (.int .i64 (k + (offG cM xs xs.length : Int))) ∧ KeptP P w w' := by
  obtain ⟨h, hP⟩ := h
  rcases h with rfl | ⟨b, g, rfl, hp, hpt, hg⟩
  · refine (markMS_nil w a cap k).mono ?_
    rintro e w' ⟨rfl, rfl⟩
    exact ⟨by simp [offG], KeptP.refl _ _⟩
  · exact markMs w B b cap xs g P k hk hk' hn ht (hP b hp).2 hp hg hpt
set_option maxHeartbeats 1000000 in
theorem markTS_nil (w : World) (a : Option Addr) (cap : Nat) (k : Int) : Calls Tryz.prog 58 #[.slice a 0 cap, .int .i64 k] w fun e w' => e = .returned (.int .i64 k) ∧ w' = w := by
  go_enter Tryz.func58, Tryz.ntmps58
  go_wp2
  go_loop [1, 5] (fun v1 v5 => v1 = .int .i64 k ∧ v5 = .int .i64 0) (fun _ _ => 0)
  case atStart => exact ⟨rfl, rfl⟩
  case round =>
    obtain ⟨rfl, rfl⟩ := hrel
    go_wp2
    go_ret
    exact ⟨rfl, rfl⟩
theorem markTS_own (w : World) (B : Nat) (a : Option Addr) (cap : Nat) (xs : List tx.T7) (P : Nat → Prop) (k : Int) (hk : 0 ≤ k) (hk' : k + (offG cT xs xs.length : Int) ≤ 100000000) (hn : xs.length ≤ 1048576) (ht : ∀ m ∈ xs, KT.S m) (h : KTk.OwS w B a xs P) :
    Calls Tryz.prog 58 #[.slice a xs.length cap, .int .i64 k] w fun e w' => e = .returned (.int .i64 (k + (offG cT xs xs.length : Int))) ∧ KeptP P w w' := by
  obtain ⟨h, hP⟩ := h
  rcases h with rfl | ⟨b, g, rfl, hp, hpt, hg⟩
  · refine (markTS_nil w a cap k).mono ?_
    rintro e w' ⟨rfl, rfl⟩
    exact ⟨by simp [offG], KeptP.refl _ _⟩
  · exact markTs w B b cap xs g P k hk hk' hn ht (hP b hp).2 hp hg hpt
theorem offG_cap {α : Type} (c l : α → Nat) (a : Nat) (h : ∀ r, c r ≤ a + 5 * l r) (rs : List α) : offG c rs rs.length ≤ a * rs.length + 5 * (rs.map l).sum := by
  unfold offG
  rw [List.take_of_length_le (by simp)]
  induction rs with
  | nil => simp
  | cons r rs ih =>
    have := h r
    simp only [List.map_cons, List.sum_cons, List.length_cons, Nat.mul_add, Nat.mul_one]
    omega
/-- What marking a cluster counts. -/
def cC (k : C6) : Nat := lens k.places + offG cM k.machines k.machines.length + offG cT k.txs k.txs.length
theorem cC_le (k : C6) : cC k ≤ 5 * szC k := by
  have h1 := offG_cap cM (fun d => szM d) 1 (fun m => by
    show cM m ≤ 1 + 5 * szM m
    have e1 := off_sum cK (fun k => k.cells.length) 1 2 (fun r => rfl) m.copies
    have e2 := off_sum cR (fun k => k.sets.length) 3 5 (fun r => rfl) m.log
    unfold cM szM lensK lensR
    omega) k.machines
  have h2 := offG_cap cT (fun d => tx.szT d) 5 (fun t => by show cT t ≤ 5 + 5 * tx.szT t; unfold cT tx.szT; omega) k.txs
  unfold cC szC KMS.szs KTS.szs
  omega
def endC (k : C6) (x : Int) : Int := x + (cC k : Int)
set_option maxHeartbeats 4000000 in
theorem KCl.mark (X : World) (B : Nat) (a1 : Option Addr) (c1 : Nat) (a2 : Option Addr) (c2 : Nat) (a3 : Option Addr) (c3 : Nat) (k : C6) (P : Nat → Prop) (x : Int) (hx : 0 ≤ x) (hx' : x ≤ 1000) (hz : szC k ≤ 1048576) (ht : KCl.S k) (h : KCl.Ow X B a1 c1 a2 c2 a3 c3 k P) :
    Calls Tryz.prog 15 #[.agg #[.int .i64 k.config, .int .i64 k.clock, .slice a1 k.places.length c1, .slice a2 k.machines.length c2, .slice a3 k.txs.length c3, .bool k.lost], .int .i64 x] X fun r w' => r = .returned (.int .i64 (endC k x)) ∧ KeptP P X w' := by
  obtain ⟨⟨P1, P2, P3, ⟨⟨g, oq, ob, og⟩, oB⟩, om, ot, s1, s2, s3, d12, d13, d23⟩, hP⟩ := h
  have hcc := cC_le k
  have hC : endC k x = x + (lens k.places : Int) + (offG cM k.machines k.machines.length : Int) + (offG cT k.txs k.txs.length : Int) := by unfold endC cC; push_cast; omega
  have hs1 : lens k.places ≤ 1048576 := by unfold szC at hz; omega
  obtain ⟨W, hW⟩ : ∃ Y, Y = X.alloc (.cells #[.int .i64 k.config, .int .i64 k.clock, .slice a1 k.places.length c1, .slice a2 k.machines.length c2, .slice a3 k.txs.length c3, .bool k.lost] 33) := ⟨_, rfl⟩
  have bW : Below X.heap.size X W := by rw [hW]; exact (Below.refl _ _).alloc (Nat.le_refl _) _
  have FA : Hid (Bx W X.heap.size [.int .i64 k.config, .int .i64 k.clock, .slice a1 k.places.length c1, .slice a2 k.machines.length c2, .slice a3 k.txs.length c3, .bool k.lost]) := by unfold Hid; rw [hW]; exact Bx.made X [.int .i64 k.config, .int .i64 k.clock, .slice a1 k.places.length c1, .slice a2 k.machines.length c2, .slice a3 k.txs.length c3, .bool k.lost] _
  have hc := markPlaceS_q W B a1 k.places.length c1 k.places g x ht.p hs1 hx (by omega) (oq.later bW)
  have H : Hid (KMk.OwS W B a2 k.machines P2 ∧ KTk.OwS W B a3 k.txs P3 ∧ (∀ q, P1 q → P q) ∧ (∀ q, P2 q → P q) ∧ (∀ q, P3 q → P q) ∧ (∀ q, P1 q → ¬ P2 q) ∧ (∀ q, P1 q → ¬ P3 q) ∧ (∀ q, P2 q → ¬ P3 q) ∧ (∀ q, P q → q < X.heap.size) ∧ (∀ i, i < k.places.length → P1 (g i)) ∧ Below X.heap.size X W ∧ KCl.S k) := ⟨om.later bW, ot.later bW, s1, s2, s3, d12, d13, d23, fun q hq => (hP q hq).2, og, bW, ht⟩
  have HE := hidOf hC
  have HL : Hid (x + (lens k.places : Int) + (offG cM k.machines k.machines.length : Int) + (offG cT k.txs k.txs.length : Int) ≤ 100000000) := by unfold Hid; rw [← hC]; unfold endC; omega
  clear oq ob og oB om ot s1 s2 s3 d12 d13 d23 hP hcc hC hz ht bW hs1
  go_enter Tryz.func15, Tryz.ntmps15
  go_wp2_with fail
  rw [← hW]
  clear hW
  refine hc.mono ?_
  clear hc
  rintro e w1 ⟨rfl, kp, -⟩
  obtain ⟨om, ot, s1, s2, s3, d12, d13, d23, hP, og, bW, ht⟩ := H.out
  have k1 : KeptP P1 W w1 := ⟨kp.os, kp.tape, kp.output, Nat.le_of_eq kp.size.symm, fun q _ hn => kp.block q (fun i hi e => hn (e ▸ og i hi))⟩
  have F1 : Hid (Bx w1 X.heap.size [.int .i64 k.config, .int .i64 k.clock, .slice a1 k.places.length c1, .slice a2 k.machines.length c2, .slice a3 k.txs.length c3, .bool k.lost]) := FA.out.of_block (k1.block _ FA.out.2.2 (fun e => by have := hP _ (s1 _ e); omega)) k1.size
  have M1 : Hid (KMk.OwS w1 B a2 k.machines P2 ∧ KTk.OwS w1 B a3 k.txs P3 ∧ KeptP P X w1) := ⟨om.keep k1.size (fun q hq => k1.block q (om.of hq).2 (fun e => d12 q e hq)), ot.keep k1.size (fun q hq => k1.block q (ot.of hq).2 (fun e => d13 q e hq)), (KeptP.of_below bW).trans (k1.mono s1)⟩
  clear om ot s1 s2 s3 d12 d13 d23 hP og bW k1 kp ht
  have p3 := F1.out.1 3 _ rfl
  have l1 := HL.out
  generalize hy : x + (lens k.places : Int) = y at *
  have hy0 : 0 ≤ y := by omega
  go_wp2_with fail
  refine (markMS_own w1 B a2 c2 k.machines P2 y hy0 (by omega) H.out.2.2.2.2.2.2.2.2.2.2.2.m H.out.2.2.2.2.2.2.2.2.2.2.2.ms M1.out.1).mono ?_
  rintro e w2 ⟨rfl, k2⟩
  obtain ⟨om, ot, s1, s2, s3, d12, d13, d23, hP, og, bW, ht⟩ := H.out
  have F2 : Hid (Bx w2 X.heap.size [.int .i64 k.config, .int .i64 k.clock, .slice a1 k.places.length c1, .slice a2 k.machines.length c2, .slice a3 k.txs.length c3, .bool k.lost]) := F1.out.of_block (k2.block _ F1.out.2.2 (fun e => by have := hP _ (s2 _ e); omega)) k2.size
  have M2 : Hid (KTk.OwS w2 B a3 k.txs P3 ∧ KeptP P X w2) := ⟨M1.out.2.1.keep k2.size (fun q hq => k2.block q (M1.out.2.1.of hq).2 (fun e => d23 q e hq)), M1.out.2.2.trans (k2.mono s2)⟩
  clear om ot s1 s2 s3 d12 d13 d23 hP og bW k2 ht p3
  have p4 := F2.out.1 4 _ rfl
  generalize hz : y + (offG cM k.machines k.machines.length : Int) = z at *
  have hz0 : 0 ≤ z := by omega
  go_wp2_with fail
  refine (markTS_own w2 B a3 c3 k.txs P3 z hz0 (by omega) H.out.2.2.2.2.2.2.2.2.2.2.2.t H.out.2.2.2.2.2.2.2.2.2.2.2.ts M2.out.1).mono ?_
  rintro e w3 ⟨rfl, k3⟩
  have M3 : Hid (KeptP P X w3) := M2.out.2.trans (k3.mono H.out.2.2.2.2.1)
  clear k3 p4
  go_wp2
  go_ret
  exact ⟨by rw [HE.out]; rfl, M3.out⟩
end Go.Proofs.YtalmflikdnflfaaGreat
/- A transaction marked and held. -/
namespace Go.Proofs.YtalmflikdnflfaaGreat
open Go.RowKit
open Go.Sort (grow)
theorem KT.mark (X : World) (B : Nat) (a : Option Addr) (b : Nat) (c : Option Addr) (d : Nat) (t : tx.T7) (P : Nat → Prop) (k : Int) (hk : 0 ≤ k) (hk' : k ≤ 100000000) (ht : KT.S t) (h : KT.Ow X B a b c d t P) : Calls Tryz.prog 16 #[.agg #[.int .i64 t.id, .int .i64 t.home, .int .i64 t.phase, .int .i64 t.count, .slice a t.reads.length b, .slice c t.sets.length d, .int .i64 t.stamp], .int .i64 k] X fun r w' => r = .returned (.int .i64 (tx.endT t k)) ∧ KeptP P X w' ∧ tx.SlT w' ⟨a, b, c, d⟩ (tx.mkT t k) := by
  obtain ⟨PR, PS, h1, h2, h3⟩ := h
  have hh := tx.markTx_any X B ⟨a, b, c, d⟩ t PR PS k hk hk' ht.1 ht.2 h1
  simp only [tx.TV.val] at hh
  refine hh.mono ?_
  rintro r w' ⟨rfl, kp, o⟩
  exact ⟨rfl, (kp_of kp).mono (fun q hq => h2 q hq), o.sl⟩
theorem KT.held (X : World) (a : Option Addr) (b : Nat) (c : Option Addr) (d : Nat) (t : tx.T7) (k : Int) (hk : 0 ≤ k) (hk' : k ≤ 100000000) (ht : KT.S t) (h : tx.SlT X ⟨a, b, c, d⟩ (tx.mkT t k)) : Calls Tryz.prog 17 #[.agg #[.int .i64 t.id, .int .i64 t.home, .int .i64 t.phase, .int .i64 t.count, .slice a t.reads.length b, .slice c t.sets.length d, .int .i64 t.stamp], .int .i64 k] X fun r w' => r = .returned (.int .i64 (tx.endT t k)) ∧ Below X.heap.size X w' := by
  have hh := tx.heldTx_any X ⟨a, b, c, d⟩ t k hk hk' ht.1 ht.2 h
  simp only [tx.TV.val] at hh
  exact hh
theorem findT_s {k : C6} (h : KCl.S k) (y : Int) : KT.S (findT k y) := by
  unfold findT findO
  split
  · cases hf : k.txs.find? (fun t => decide (t.id = y)) with
    | none => exact ⟨by simp [zT], by simp [zT]⟩
    | some t => exact h.ts t (List.mem_of_find?_eq_some hf)
  · exact ⟨by simp [zT], by simp [zT]⟩
end Go.Proofs.YtalmflikdnflfaaGreat
/- A call that leaves no goroutine behind is one that leaves only what is on its way out: from the plain contract to a row that says so. No program in sight. -/
namespace Go.Proofs.YtalmflikdnflfaaGreat
theorem handed_leaving {a : Assume} {C : Checked} {os : Os} {f : FuncId} {r : Reach} {Pre : World → Array Value → Prop} {Post : World → Array Value → Value → World → Prop} (h : ReturnsInHanded a C os f r Pre Post) : ReturnsInLeavingWide a C os f r Pre Post := fun enter => by
  obtain ⟨g0, g1, g2, g3, all⟩ := h enter
  refine ⟨g0, g1, g2, g3, fun w tape i hf => ?_⟩
  obtain ⟨n, v, w', hn, hc, hr, hp, ⟨j, last, hj, hs, hq, hh, he⟩, ha⟩ := all w tape i hf
  exact ⟨n, v, w', hn, hc, hr, hp, ⟨j, last, hj, hs, hh, onlyLeaving_of_quiet hq, he⟩, ha⟩
end Go.Proofs.YtalmflikdnflfaaGreat
