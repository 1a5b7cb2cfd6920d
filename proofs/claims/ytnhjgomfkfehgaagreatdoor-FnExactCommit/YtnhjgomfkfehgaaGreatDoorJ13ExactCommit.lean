/- PlsMa; PlsQ; PlsM; KdClM; KdClN; SzCm; ExactCommitW; ExactCommitL: joined. -/
import Derived.Test.YtnhjgomfkfehgaaGreatDoorRows
import Derived.Test.YtnhjgomfkfehgaaGreatDoorJ12ExactCommit
import Derived.Test.YtnhjgomfkfehgaaGreatDoorJ2ExactCommit
import Derived.WalkKit
import Derived.WalkSpells
import Derived.WalkLawsBesides
import Derived.Below
import Derived.Test.YtnhjgomfkfehgaaGreatDoorJ4ExactCommit
import Derived.Test.YtnhjgomfkfehgaaGreatDoorJ5ExactCommit
import Derived.Lib.QuietBelow
import Derived.BigQuiet
import Derived.Deep.CutRange
import Derived.Test.YtnhjgomfkfehgaaGreatDoorTie
import Derived.Test.YtnhjgomfkfehgaaGreatDoorCards
import Derived.Test.YtnhjgomfkfehgaaGreatDoorJ9ExactCommit
import Derived.ChangeSame
import Derived.ChangeVars
import Derived.JoinedOf
import Derived.RowKit
import Derived.RowKitTokens
import Derived.LaidLaws
import Derived.LaidHandle
import Derived.Stop.Joined
import Derived.SevenTiedAt
import Derived.ProofKit
import Derived.OpenShut
import Derived.Deep.RegionWith
namespace Go.Proofs.YtnhjgomfkfehgaaGreatDoor
open Go.RowKit
def markAt (zss : List (List Int)) (k : Int) (i : Nat) : List Int := marks (atP zss i).length (k + lens (zss.take i))
def markPs (zss : List (List Int)) (k : Int) : List (List Int) := (List.range zss.length).map (markAt zss k)
theorem markPs_len (zss : List (List Int)) (k : Int) : (markPs zss k).length = zss.length := by simp [markPs]
theorem markPs_at {zss : List (List Int)} {k : Int} {i : Nat} {zs : List Int} (h : (markPs zss k)[i]? = some zs) : i < zss.length ∧ zs = markAt zss k i := by
  have hi : i < zss.length := by have := (List.getElem?_eq_some_iff.1 h).1; rw [markPs_len] at this; exact this
  refine ⟨hi, ?_⟩
  simp [markPs, hi] at h
  exact h.symm
theorem markAt_len (zss : List (List Int)) (k : Int) (i : Nat) : (markAt zss k i).length = (atP zss i).length := by rw [markAt, marks_len]
structure Kept (g : Nat → Nat) (n : Nat) (w w' : World) : Prop where
  os : w'.os = w.os
  tape : w'.tape = w.tape
  output : w'.output = w.output
  size : w'.heap.size = w.heap.size
  block : ∀ q, (∀ i, i < n → q ≠ g i) → w'.heap[q]? = w.heap[q]?
theorem Kept.refl (g : Nat → Nat) (n : Nat) (w : World) : Kept g n w w := ⟨rfl, rfl, rfl, rfl, fun _ _ => rfl⟩
theorem Kept.only {g : Nat → Nat} {n i : Nat} {a w w' : World} (h : Kept g n a w) (hi : i < n) (ho : OnlyBlock (g i) w w') : Kept g n a w' :=
  ⟨ho.os.trans h.os, ho.tape.trans h.tape, ho.output.trans h.output, ho.size.trans h.size, fun q hq => (ho.block q (hq i hi)).trans (h.block q hq)⟩
theorem Kept.below {g : Nat → Nat} {n B : Nat} {w w' : World} (h : Kept g n w w') (hg : ∀ i, i < n → B ≤ g i) : Below B w w' :=
  ⟨h.os, h.tape, h.output, Nat.le_of_eq h.size.symm, fun k hk => h.block k (fun i hi e => by have := hg i hi; omega)⟩
set_option maxHeartbeats 2000000 in
theorem markPlaceS_own (w : World) (base b n cap : Nat) (zss : List (List Int)) (g : Nat → Nat) (k : Int) (hn : n ≤ 1048576) (hl : lens zss ≤ 1048576) (hk : 0 ≤ k) (hk' : k ≤ 100000000) (h : OwnP w base b n zss g) :
    Calls Tryz.prog 44 #[.slice (some ⟨b, 0, none⟩) n cap, .int .i64 k] w fun e w' => e = .returned (.int .i64 (k + lens zss)) ∧ Kept g n w w' ∧ OwnP w' base b n (markPs zss k) g := by
  have hlen := h.len
  have HO : Hid (OwnP w base b n zss g) := h
  clear h
  go_enter Tryz.func44, Tryz.ntmps44
  go_wp2
  go_loopw [1, 5] (fun v1 v5 wr => ∃ j : Nat, j ≤ n ∧ v5 = .int .i64 j ∧ v1 = .int .i64 (k + lens (zss.take j)) ∧ Kept g n w wr ∧ (∀ i, i < j → NumsAt wr (g i) 0 (markAt zss k i)) ∧ (∀ i, i < n → Room wr (g i) (atP zss i).length)) (fun _ v5 _ => n - (intOf v5).toNat)
  case atStart => exact ⟨0, Nat.zero_le _, rfl, by simp [lens], Kept.refl _ _ _, fun i hi => by omega, fun i hi => HO.out.room i _ (atP_of (by omega))⟩
  case round =>
    obtain ⟨j, hj, rfl, rfl, hkp, hnu, hro⟩ := hrel
    have hle := lens_take_le zss j
    by_cases hlt : j < n
    · obtain ⟨cp, hc, _⟩ := HO.out.cell j _ (atP_of (by omega))
      have c := (World.cell?_of_block (a := ⟨b, j, none⟩) (hkp.block b (fun i hi e => HO.out.ne i hi e.symm))).trans hc
      have hst := lens_take_succ (zss := zss) (j := j) (by omega)
      have hle' := lens_take_le zss (j + 1)
      have hcl := markInt64S_own wr (g j) (atP zss j).length cp (k + lens (zss.take j)) (by omega) (by omega) (by omega) (hro j hlt)
      have K : Hid (Kept g n w wr ∧ (∀ i, i < j → NumsAt wr (g i) 0 (markAt zss k i)) ∧ (∀ i, i < n → Room wr (g i) (atP zss i).length)) := ⟨hkp, hnu, hro⟩
      clear hkp hnu hro hc
      go_wp2_with fail
      refine hcl.mono ?_
      clear hcl
      rintro e w1 ⟨rfl, ho, hn1, hr1⟩
      have K1 : Hid (OnlyBlock (g j) wr w1 ∧ NumsAt w1 (g j) 0 (markAt zss k j) ∧ Room w1 (g j) (atP zss j).length) := ⟨ho, hn1, hr1⟩
      clear ho hn1 hr1
      go_wp2
      obtain ⟨hkp, hnu, hro⟩ := K.out
      obtain ⟨ho, hn1, hr1⟩ := K1.out
      refine ⟨⟨j + 1, by omega, by simp, by rw [hst]; simp; omega, hkp.only hlt ho, fun i hi => ?_, fun i hi => ?_⟩, by simp [intOf]; omega⟩
      · by_cases e : i = j
        · subst e; exact hn1
        · exact (hnu i (by omega)).of_block (ho.block _ (fun e' => e (HO.out.inj i j (by omega) hlt e')))
      · by_cases e : i = j
        · subst e; exact hr1
        · exact (hro i hi).of_block (ho.block _ (fun e' => e (HO.out.inj i j hi hlt e')))
    · have : j = n := by omega
      subst this
      have hd : decide ((j : Int) < (j : Int)) = false := by simp
      rw [show zss.take j = zss from List.take_of_length_le (by omega)]
      have K : Hid (Kept g j w wr ∧ (∀ i, i < j → NumsAt wr (g i) 0 (markAt zss k i)) ∧ (∀ i, i < j → Room wr (g i) (atP zss i).length)) := ⟨hkp, hnu, hro⟩
      clear hkp hnu hro hle
      go_wp2
      go_ret
      obtain ⟨hkp, hnu, hro⟩ := K.out
      refine ⟨rfl, hkp, ⟨by rw [markPs_len]; exact hlen, fun i zs e => ?_, HO.out.low, fun i hi => by rw [hkp.size]; exact HO.out.lt i hi, HO.out.ne, fun i zs e => ?_, fun i zs e => ?_, HO.out.inj⟩⟩
      · obtain ⟨hi, rfl⟩ := markPs_at e
        obtain ⟨cp, hc, hcp⟩ := HO.out.cell i _ (atP_of hi)
        exact ⟨cp, by rw [markAt_len]; exact (World.cell?_of_block (a := ⟨b, i, none⟩) (hkp.block b (fun i hi e => HO.out.ne i hi e.symm))).trans hc, by rw [markAt_len]; exact hcp⟩
      · obtain ⟨hi, rfl⟩ := markPs_at e
        exact hnu i (by omega)
      · obtain ⟨hi, rfl⟩ := markPs_at e
        rw [markAt_len]; exact hro i (by omega)
theorem markPlaceS_nil (w : World) (cap : Nat) (k : Int) : Calls Tryz.prog 44 #[.slice none 0 cap, .int .i64 k] w fun e w' => e = .returned (.int .i64 k) ∧ w' = w := by
  go_enter Tryz.func44, Tryz.ntmps44
  go_wp2
  go_loop [1, 5] (fun v1 v5 => v5 = .int .i64 0 ∧ v1 = .int .i64 k) (fun _ _ => 0)
  case atStart => exact ⟨rfl, rfl⟩
  case round =>
    obtain ⟨rfl, rfl⟩ := hrel
    go_wp2
    go_ret
    exact ⟨rfl, rfl⟩
theorem markPlaceS_q (w : World) (base : Nat) (a : Option Addr) (n cap : Nat) (zss : List (List Int)) (g : Nat → Nat) (k : Int) (hn : n ≤ 1048576) (hl : lens zss ≤ 1048576) (hk : 0 ≤ k) (hk' : k ≤ 100000000) (h : OwnQ w base a n zss g) :
    Calls Tryz.prog 44 #[.slice a n cap, .int .i64 k] w fun e w' => e = .returned (.int .i64 (k + lens zss)) ∧ Kept g n w w' ∧ OwnQ w' base a n (markPs zss k) g := by
  rcases h with ⟨rfl, rfl, rfl⟩ | ⟨b, rfl, hb1, hb2, ho⟩
  · refine (markPlaceS_nil w cap k).mono ?_
    rintro e w' ⟨rfl, rfl⟩
    exact ⟨by simp [lens], Kept.refl _ _ _, .inl ⟨rfl, rfl, rfl⟩⟩
  · refine (markPlaceS_own w base b n cap zss g k hn hl hk hk' ho).mono ?_
    rintro e w' ⟨rfl, kp, o⟩
    exact ⟨rfl, kp, .inr ⟨b, rfl, hb1, by rw [kp.size]; exact hb2, o⟩⟩
set_option maxHeartbeats 2000000 in
theorem heldPlaceS_any (w : World) (a : Option Addr) (n cap : Nat) (zss : List (List Int)) (k : Int) (hn : n ≤ 1048576) (hl : lens zss ≤ 1048576) (hk : 0 ≤ k) (hk' : k ≤ 100000000) (hs : SlP w w.heap.size a n (markPs zss k)) :
    Calls Tryz.prog 47 #[.slice a n cap, .int .i64 k] w fun e w' => e = .returned (.int .i64 (k + lens zss)) ∧ w' = w := by
  obtain ⟨hx, hs⟩ := hs
  rw [markPs_len] at hx
  go_enter Tryz.func47, Tryz.ntmps47
  go_wp2
  go_loop [1, 5] (fun v1 v5 => ∃ j : Nat, j ≤ n ∧ v5 = .int .i64 j ∧ v1 = .int .i64 (k + lens (zss.take j))) (fun _ v5 => n - (intOf v5).toNat)
  case atStart => exact ⟨0, Nat.zero_le _, rfl, by simp [lens]⟩
  case round =>
    obtain ⟨j, hj, rfl, rfl⟩ := hrel
    have hle := lens_take_le zss j
    by_cases hlt : j < n
    · rcases hs with hs | ⟨b, off, rfl, hb, h1⟩
      · omega
      · have hm : (markPs zss k)[j]? = some (markAt zss k j) := by simp [markPs, show j < zss.length by omega]
        obtain ⟨a', cp, c, hsl, _⟩ := h1 j _ hm
        rw [markAt_len] at c hsl
        have hst := lens_take_succ (zss := zss) (j := j) (by omega)
        have hle' := lens_take_le zss (j + 1)
        have hcl := heldInt64S_any w a' (atP zss j).length cp (k + lens (zss.take j)) (by omega) (by omega) (by omega) hsl
        have d0 : decide (k + (lens (zss.take j) : Int) + ((atP zss j).length : Int) < 0) = false := by simp; omega
        clear h1 hm hsl
        go_wp2_with fail
        refine hcl.mono ?_
        clear hcl
        rintro e w1 ⟨rfl, rfl⟩
        go_wp2
        exact ⟨⟨j + 1, by omega, by simp, by rw [hst]; simp; omega⟩, by simp [intOf]; omega⟩
    · have : j = n := by omega
      subst this
      have hd : decide ((j : Int) < (j : Int)) = false := by simp
      rw [show zss.take j = zss from List.take_of_length_le (by omega)]
      clear hs hle
      go_wp2
      go_ret
      exact ⟨rfl, rfl⟩
end Go.Proofs.YtnhjgomfkfehgaaGreatDoor
namespace Go.Proofs.YtnhjgomfkfehgaaGreatDoor
open Go.RowKit
open Go.Sort (grow)
set_option maxHeartbeats 1000000 in
theorem markMS_nil (w : World) (a : Option Addr) (cap : Nat) (k : Int) : Calls Tryz.prog 45 #[.slice a 0 cap, .int .i64 k] w fun e w' => e = .returned (.int .i64 k) ∧ w' = w := by
  go_enter Tryz.func45, Tryz.ntmps45
  go_wp2
  go_loop [1, 5] (fun v1 v5 => v1 = .int .i64 k ∧ v5 = .int .i64 0) (fun _ _ => 0)
  case atStart => exact ⟨rfl, rfl⟩
  case round =>
    obtain ⟨rfl, rfl⟩ := hrel
    go_wp2
    go_ret
    exact ⟨rfl, rfl⟩
theorem markMS_own (w : World) (B : Nat) (a : Option Addr) (cap : Nat) (xs : List M4) (P : Nat → Prop) (k : Int) (hk : 0 ≤ k) (hk' : k + (offG cM xs xs.length : Int) ≤ 100000000) (hn : xs.length ≤ 1048576) (ht : ∀ m ∈ xs, MT m) (h : KMk.OwS w B a xs P) :
    Calls Tryz.prog 45 #[.slice a xs.length cap, .int .i64 k] w fun e w' => e = .returned (.int .i64 (k + (offG cM xs xs.length : Int))) ∧ KeptP P w w' := by
  obtain ⟨h, hP⟩ := h
  rcases h with rfl | ⟨b, g, rfl, hp, hpt, hg⟩
  · refine (markMS_nil w a cap k).mono ?_
    rintro e w' ⟨rfl, rfl⟩
    exact ⟨by simp [offG], KeptP.refl _ _⟩
  · exact markMs w B b cap xs g P k hk hk' hn ht (hP b hp).2 hp hg hpt
set_option maxHeartbeats 1000000 in
theorem markTS_nil (w : World) (a : Option Addr) (cap : Nat) (k : Int) : Calls Tryz.prog 46 #[.slice a 0 cap, .int .i64 k] w fun e w' => e = .returned (.int .i64 k) ∧ w' = w := by
  go_enter Tryz.func46, Tryz.ntmps46
  go_wp2
  go_loop [1, 5] (fun v1 v5 => v1 = .int .i64 k ∧ v5 = .int .i64 0) (fun _ _ => 0)
  case atStart => exact ⟨rfl, rfl⟩
  case round =>
    obtain ⟨rfl, rfl⟩ := hrel
    go_wp2
    go_ret
    exact ⟨rfl, rfl⟩
theorem markTS_own (w : World) (B : Nat) (a : Option Addr) (cap : Nat) (xs : List tx.T7) (P : Nat → Prop) (k : Int) (hk : 0 ≤ k) (hk' : k + (offG cT xs xs.length : Int) ≤ 100000000) (hn : xs.length ≤ 1048576) (ht : ∀ m ∈ xs, KT.S m) (h : KTk.OwS w B a xs P) :
    Calls Tryz.prog 46 #[.slice a xs.length cap, .int .i64 k] w fun e w' => e = .returned (.int .i64 (k + (offG cT xs xs.length : Int))) ∧ KeptP P w w' := by
  obtain ⟨h, hP⟩ := h
  rcases h with rfl | ⟨b, g, rfl, hp, hpt, hg⟩
  · refine (markTS_nil w a cap k).mono ?_
    rintro e w' ⟨rfl, rfl⟩
    exact ⟨by simp [offG], KeptP.refl _ _⟩
  · exact markTs w B b cap xs g P k hk hk' hn ht (hP b hp).2 hp hg hpt
theorem offG_cap {α : Type} (c l : α → Nat) (a : Nat) (h : ∀ r, c r ≤ a + 5 * l r) (rs : List α) : offG c rs rs.length ≤ a * rs.length + 5 * (rs.map l).sum := by
  unfold offG
  rw [List.take_of_length_le (by simp)]
  induction rs with
  | nil => simp
  | cons r rs ih =>
    have := h r
    simp only [List.map_cons, List.sum_cons, List.length_cons, Nat.mul_add, Nat.mul_one]
    omega
def cC (k : C6) : Nat := lens k.places + offG cM k.machines k.machines.length + offG cT k.txs k.txs.length
theorem cC_le (k : C6) : cC k ≤ 5 * szC k := by
  have h1 := offG_cap cM (fun d => szM d) 1 (fun m => by
    show cM m ≤ 1 + 5 * szM m
    have e1 := off_sum cK (fun k => k.cells.length) 1 2 (fun r => rfl) m.copies
    have e2 := off_sum cR (fun k => k.sets.length) 3 5 (fun r => rfl) m.log
    unfold cM szM lensK lensR
    omega) k.machines
  have h2 := offG_cap cT (fun d => tx.szT d) 5 (fun t => by show cT t ≤ 5 + 5 * tx.szT t; unfold cT tx.szT; omega) k.txs
  unfold cC szC KMS.szs KTS.szs
  omega
def endC (k : C6) (x : Int) : Int := x + (cC k : Int)
set_option maxHeartbeats 4000000 in
theorem KCl.mark (X : World) (B : Nat) (a1 : Option Addr) (c1 : Nat) (a2 : Option Addr) (c2 : Nat) (a3 : Option Addr) (c3 : Nat) (k : C6) (P : Nat → Prop) (x : Int) (hx : 0 ≤ x) (hx' : x ≤ 1000) (hz : szC k ≤ 1048576) (ht : KCl.S k) (h : KCl.Ow X B a1 c1 a2 c2 a3 c3 k P) :
    Calls Tryz.prog 14 #[.agg #[.int .i64 k.config, .int .i64 k.clock, .slice a1 k.places.length c1, .slice a2 k.machines.length c2, .slice a3 k.txs.length c3, .bool k.lost], .int .i64 x] X fun r w' => r = .returned (.int .i64 (endC k x)) ∧ KeptP P X w' := by
  obtain ⟨⟨P1, P2, P3, ⟨⟨g, oq, ob, og⟩, oB⟩, om, ot, s1, s2, s3, d12, d13, d23⟩, hP⟩ := h
  have hcc := cC_le k
  have hC : endC k x = x + (lens k.places : Int) + (offG cM k.machines k.machines.length : Int) + (offG cT k.txs k.txs.length : Int) := by unfold endC cC; push_cast; omega
  have hs1 : lens k.places ≤ 1048576 := by unfold szC at hz; omega
  obtain ⟨W, hW⟩ : ∃ Y, Y = X.alloc (.cells #[.int .i64 k.config, .int .i64 k.clock, .slice a1 k.places.length c1, .slice a2 k.machines.length c2, .slice a3 k.txs.length c3, .bool k.lost] 32) := ⟨_, rfl⟩
  have bW : Below X.heap.size X W := by rw [hW]; exact (Below.refl _ _).alloc (Nat.le_refl _) _
  have FA : Hid (Bx W X.heap.size [.int .i64 k.config, .int .i64 k.clock, .slice a1 k.places.length c1, .slice a2 k.machines.length c2, .slice a3 k.txs.length c3, .bool k.lost]) := by unfold Hid; rw [hW]; exact Bx.made X [.int .i64 k.config, .int .i64 k.clock, .slice a1 k.places.length c1, .slice a2 k.machines.length c2, .slice a3 k.txs.length c3, .bool k.lost] _
  have hc := markPlaceS_q W B a1 k.places.length c1 k.places g x ht.p hs1 hx (by omega) (oq.later bW)
  have H : Hid (KMk.OwS W B a2 k.machines P2 ∧ KTk.OwS W B a3 k.txs P3 ∧ (∀ q, P1 q → P q) ∧ (∀ q, P2 q → P q) ∧ (∀ q, P3 q → P q) ∧ (∀ q, P1 q → ¬ P2 q) ∧ (∀ q, P1 q → ¬ P3 q) ∧ (∀ q, P2 q → ¬ P3 q) ∧ (∀ q, P q → q < X.heap.size) ∧ (∀ i, i < k.places.length → P1 (g i)) ∧ Below X.heap.size X W ∧ KCl.S k) := ⟨om.later bW, ot.later bW, s1, s2, s3, d12, d13, d23, fun q hq => (hP q hq).2, og, bW, ht⟩
  have HE := hidOf hC
  have HL : Hid (x + (lens k.places : Int) + (offG cM k.machines k.machines.length : Int) + (offG cT k.txs k.txs.length : Int) ≤ 100000000) := by unfold Hid; rw [← hC]; unfold endC; omega
  clear oq ob og oB om ot s1 s2 s3 d12 d13 d23 hP hcc hC hz ht bW hs1
  go_enter Tryz.func14, Tryz.ntmps14
  go_wp2_with fail
  rw [← hW]
  clear hW
  refine hc.mono ?_
  clear hc
  rintro e w1 ⟨rfl, kp, -⟩
  obtain ⟨om, ot, s1, s2, s3, d12, d13, d23, hP, og, bW, ht⟩ := H.out
  have k1 : KeptP P1 W w1 := ⟨kp.os, kp.tape, kp.output, Nat.le_of_eq kp.size.symm, fun q _ hn => kp.block q (fun i hi e => hn (e ▸ og i hi))⟩
  have F1 : Hid (Bx w1 X.heap.size [.int .i64 k.config, .int .i64 k.clock, .slice a1 k.places.length c1, .slice a2 k.machines.length c2, .slice a3 k.txs.length c3, .bool k.lost]) := FA.out.of_block (k1.block _ FA.out.2.2 (fun e => by have := hP _ (s1 _ e); omega)) k1.size
  have M1 : Hid (KMk.OwS w1 B a2 k.machines P2 ∧ KTk.OwS w1 B a3 k.txs P3 ∧ KeptP P X w1) := ⟨om.keep k1.size (fun q hq => k1.block q (om.of hq).2 (fun e => d12 q e hq)), ot.keep k1.size (fun q hq => k1.block q (ot.of hq).2 (fun e => d13 q e hq)), (KeptP.of_below bW).trans (k1.mono s1)⟩
  clear om ot s1 s2 s3 d12 d13 d23 hP og bW k1 kp ht
  have p3 := F1.out.1 3 _ rfl
  have l1 := HL.out
  generalize hy : x + (lens k.places : Int) = y at *
  have hy0 : 0 ≤ y := by omega
  go_wp2_with fail
  refine (markMS_own w1 B a2 c2 k.machines P2 y hy0 (by omega) H.out.2.2.2.2.2.2.2.2.2.2.2.m H.out.2.2.2.2.2.2.2.2.2.2.2.ms M1.out.1).mono ?_
  rintro e w2 ⟨rfl, k2⟩
  obtain ⟨om, ot, s1, s2, s3, d12, d13, d23, hP, og, bW, ht⟩ := H.out
  have F2 : Hid (Bx w2 X.heap.size [.int .i64 k.config, .int .i64 k.clock, .slice a1 k.places.length c1, .slice a2 k.machines.length c2, .slice a3 k.txs.length c3, .bool k.lost]) := F1.out.of_block (k2.block _ F1.out.2.2 (fun e => by have := hP _ (s2 _ e); omega)) k2.size
  have M2 : Hid (KTk.OwS w2 B a3 k.txs P3 ∧ KeptP P X w2) := ⟨M1.out.2.1.keep k2.size (fun q hq => k2.block q (M1.out.2.1.of hq).2 (fun e => d23 q e hq)), M1.out.2.2.trans (k2.mono s2)⟩
  clear om ot s1 s2 s3 d12 d13 d23 hP og bW k2 ht p3
  have p4 := F2.out.1 4 _ rfl
  generalize hz : y + (offG cM k.machines k.machines.length : Int) = z at *
  have hz0 : 0 ≤ z := by omega
  go_wp2_with fail
  refine (markTS_own w2 B a3 c3 k.txs P3 z hz0 (by omega) H.out.2.2.2.2.2.2.2.2.2.2.2.t H.out.2.2.2.2.2.2.2.2.2.2.2.ts M2.out.1).mono ?_
  rintro e w3 ⟨rfl, k3⟩
  have M3 : Hid (KeptP P X w3) := M2.out.2.trans (k3.mono H.out.2.2.2.2.1)
  clear k3 p4
  go_wp2
  go_ret
  exact ⟨by rw [HE.out]; rfl, M3.out⟩
theorem markMS_ownc (w : World) (B : Nat) (a : Option Addr) (cap : Nat) (xs : List M4) (P : Nat → Prop) (k : Int) (hk : 0 ≤ k) (hk' : k + (offG cM xs xs.length : Int) ≤ 100000000) (hn : xs.length ≤ 1048576) (ht : ∀ m ∈ xs, MT m) (h : KMk.OwS w B a xs P) :
    Calls Tryz.prog 45 #[.slice a xs.length cap, .int .i64 k] w fun e w' => e = .returned (.int .i64 (k + (offG cM xs xs.length : Int))) ∧ KeptP P w w' ∧ KMk.OwS w' B a (mkMs xs k) P := by
  obtain ⟨h, hP⟩ := h
  rcases h with rfl | ⟨b, g, rfl, hp, hpt, hg⟩
  · refine (markMS_nil w a cap k).mono ?_
    rintro e w' ⟨rfl, rfl⟩
    exact ⟨by simp [offG], KeptP.refl _ _, .inl rfl, hP⟩
  · refine (markMn w B b cap xs g P k hk hk' hn ht (hP b hp).2 hp hg hpt).mono ?_
    rintro e w' ⟨rfl, kp, o⟩
    exact ⟨rfl, kp, .inr ⟨b, g, rfl, hp, by rw [mkMs_len]; exact o, by rw [mkMs_len]; exact hg⟩, fun q hq => ⟨(hP q hq).1, Nat.lt_of_lt_of_le (hP q hq).2 kp.size⟩⟩
theorem markTS_ownc (w : World) (B : Nat) (a : Option Addr) (cap : Nat) (xs : List tx.T7) (P : Nat → Prop) (k : Int) (hk : 0 ≤ k) (hk' : k + (offG cT xs xs.length : Int) ≤ 100000000) (hn : xs.length ≤ 1048576) (ht : ∀ m ∈ xs, KT.S m) (h : KTk.OwS w B a xs P) :
    Calls Tryz.prog 46 #[.slice a xs.length cap, .int .i64 k] w fun e w' => e = .returned (.int .i64 (k + (offG cT xs xs.length : Int))) ∧ KeptP P w w' ∧ KTk.OwS w' B a (mkTs xs k) P := by
  obtain ⟨h, hP⟩ := h
  rcases h with rfl | ⟨b, g, rfl, hp, hpt, hg⟩
  · refine (markTS_nil w a cap k).mono ?_
    rintro e w' ⟨rfl, rfl⟩
    exact ⟨by simp [offG], KeptP.refl _ _, .inl rfl, hP⟩
  · refine (markTn w B b cap xs g P k hk hk' hn ht (hP b hp).2 hp hg hpt).mono ?_
    rintro e w' ⟨rfl, kp, o⟩
    exact ⟨rfl, kp, .inr ⟨b, g, rfl, hp, by rw [mkTs_len]; exact o, by rw [mkTs_len]; exact hg⟩, fun q hq => ⟨(hP q hq).1, Nat.lt_of_lt_of_le (hP q hq).2 kp.size⟩⟩
def mkC (k : C6) (x : Int) : C6 := ⟨k.config, k.clock, markPs k.places x, mkMs k.machines (x + (lens k.places : Int)), mkTs k.txs (x + (lens k.places : Int) + (offG cM k.machines k.machines.length : Int)), k.lost⟩
set_option maxHeartbeats 4000000 in
theorem KCl.markc (X : World) (B : Nat) (a1 : Option Addr) (c1 : Nat) (a2 : Option Addr) (c2 : Nat) (a3 : Option Addr) (c3 : Nat) (k : C6) (P : Nat → Prop) (x : Int) (hx : 0 ≤ x) (hx' : x ≤ 1000) (hz : szC k ≤ 1048576) (ht : KCl.S k) (h : KCl.Ow X B a1 c1 a2 c2 a3 c3 k P) :
    Calls Tryz.prog 14 #[.agg #[.int .i64 k.config, .int .i64 k.clock, .slice a1 k.places.length c1, .slice a2 k.machines.length c2, .slice a3 k.txs.length c3, .bool k.lost], .int .i64 x] X fun r w' => r = .returned (.int .i64 (endC k x)) ∧ KeptP P X w' ∧ KCl.Rd w' a1 c1 a2 c2 a3 c3 (mkC k x) := by
  obtain ⟨⟨P1, P2, P3, ⟨⟨g, oq, ob, og⟩, oB⟩, om, ot, s1, s2, s3, d12, d13, d23⟩, hP⟩ := h
  have hcc := cC_le k
  have hC : endC k x = x + (lens k.places : Int) + (offG cM k.machines k.machines.length : Int) + (offG cT k.txs k.txs.length : Int) := by unfold endC cC; push_cast; omega
  have hs1 : lens k.places ≤ 1048576 := by unfold szC at hz; omega
  obtain ⟨W, hW⟩ : ∃ Y, Y = X.alloc (.cells #[.int .i64 k.config, .int .i64 k.clock, .slice a1 k.places.length c1, .slice a2 k.machines.length c2, .slice a3 k.txs.length c3, .bool k.lost] 32) := ⟨_, rfl⟩
  have bW : Below X.heap.size X W := by rw [hW]; exact (Below.refl _ _).alloc (Nat.le_refl _) _
  have FA : Hid (Bx W X.heap.size [.int .i64 k.config, .int .i64 k.clock, .slice a1 k.places.length c1, .slice a2 k.machines.length c2, .slice a3 k.txs.length c3, .bool k.lost]) := by unfold Hid; rw [hW]; exact Bx.made X [.int .i64 k.config, .int .i64 k.clock, .slice a1 k.places.length c1, .slice a2 k.machines.length c2, .slice a3 k.txs.length c3, .bool k.lost] _
  have hc := markPlaceS_q W B a1 k.places.length c1 k.places g x ht.p hs1 hx (by omega) (oq.later bW)
  have H : Hid (KMk.OwS W B a2 k.machines P2 ∧ KTk.OwS W B a3 k.txs P3 ∧ (∀ q, P1 q → P q) ∧ (∀ q, P2 q → P q) ∧ (∀ q, P3 q → P q) ∧ (∀ q, P1 q → ¬ P2 q) ∧ (∀ q, P1 q → ¬ P3 q) ∧ (∀ q, P2 q → ¬ P3 q) ∧ (∀ q, P q → q < X.heap.size) ∧ (∀ i, i < k.places.length → P1 (g i)) ∧ Below X.heap.size X W ∧ KCl.S k) := ⟨om.later bW, ot.later bW, s1, s2, s3, d12, d13, d23, fun q hq => (hP q hq).2, og, bW, ht⟩
  have HB : Hid (∀ b, a1 = some ⟨b, 0, none⟩ → P1 b) := ob
  have HE := hidOf hC
  have HL : Hid (x + (lens k.places : Int) + (offG cM k.machines k.machines.length : Int) + (offG cT k.txs k.txs.length : Int) ≤ 100000000) := by unfold Hid; rw [← hC]; unfold endC; omega
  clear oq ob og oB om ot s1 s2 s3 d12 d13 d23 hP hcc hC hz ht bW hs1
  go_enter Tryz.func14, Tryz.ntmps14
  go_wp2_with fail
  rw [← hW]
  clear hW
  refine hc.mono ?_
  clear hc
  rintro e w1 ⟨rfl, kp, oq⟩
  obtain ⟨om, ot, s1, s2, s3, d12, d13, d23, hP, og, bW, ht⟩ := H.out
  have k1 : KeptP P1 W w1 := ⟨kp.os, kp.tape, kp.output, Nat.le_of_eq kp.size.symm, fun q _ hn => kp.block q (fun i hi e => hn (e ▸ og i hi))⟩
  have F1 : Hid (Bx w1 X.heap.size [.int .i64 k.config, .int .i64 k.clock, .slice a1 k.places.length c1, .slice a2 k.machines.length c2, .slice a3 k.txs.length c3, .bool k.lost]) := FA.out.of_block (k1.block _ FA.out.2.2 (fun e => by have := hP _ (s1 _ e); omega)) k1.size
  have O1 : Hid (OwnQ w1 B a1 k.places.length (markPs k.places x) g ∧ X.heap.size ≤ w1.heap.size) := ⟨oq, Nat.le_trans bW.size k1.size⟩
  have M1 : Hid (KMk.OwS w1 B a2 k.machines P2 ∧ KTk.OwS w1 B a3 k.txs P3 ∧ KeptP P X w1) := ⟨om.keep k1.size (fun q hq => k1.block q (om.of hq).2 (fun e => d12 q e hq)), ot.keep k1.size (fun q hq => k1.block q (ot.of hq).2 (fun e => d13 q e hq)), (KeptP.of_below bW).trans (k1.mono s1)⟩
  clear om ot s1 s2 s3 d12 d13 d23 hP og bW k1 kp ht oq
  have p3 := F1.out.1 3 _ rfl
  have l1 := HL.out
  have HM : Hid (mkC k x = ⟨k.config, k.clock, markPs k.places x, mkMs k.machines (x + (lens k.places : Int)), mkTs k.txs (x + (lens k.places : Int) + (offG cM k.machines k.machines.length : Int)), k.lost⟩) := rfl
  generalize hy : x + (lens k.places : Int) = y at *
  have hy0 : 0 ≤ y := by omega
  go_wp2_with fail
  refine (markMS_ownc w1 B a2 c2 k.machines P2 y hy0 (by omega) H.out.2.2.2.2.2.2.2.2.2.2.2.m H.out.2.2.2.2.2.2.2.2.2.2.2.ms M1.out.1).mono ?_
  rintro e w2 ⟨rfl, k2, om2⟩
  obtain ⟨om, ot, s1, s2, s3, d12, d13, d23, hP, og, bW, ht⟩ := H.out
  have F2 : Hid (Bx w2 X.heap.size [.int .i64 k.config, .int .i64 k.clock, .slice a1 k.places.length c1, .slice a2 k.machines.length c2, .slice a3 k.txs.length c3, .bool k.lost]) := F1.out.of_block (k2.block _ F1.out.2.2 (fun e => by have := hP _ (s2 _ e); omega)) k2.size
  have O2 : Hid (OwnQ w2 B a1 k.places.length (markPs k.places x) g ∧ X.heap.size ≤ w2.heap.size) := ⟨O1.out.1.kept k2.size (fun b e => k2.block b (by have := hP _ (s1 _ (HB.out b e)); have := O1.out.2; omega) (d12 b (HB.out b e))) (fun i hi => k2.block _ (by have := hP _ (s1 _ (og i hi)); have := O1.out.2; omega) (d12 _ (og i hi))), Nat.le_trans O1.out.2 k2.size⟩
  have M2 : Hid (KTk.OwS w2 B a3 k.txs P3 ∧ KeptP P X w2 ∧ KMk.OwS w2 B a2 (mkMs k.machines y) P2) := ⟨M1.out.2.1.keep k2.size (fun q hq => k2.block q (M1.out.2.1.of hq).2 (fun e => d23 q e hq)), M1.out.2.2.trans (k2.mono s2), om2⟩
  clear om ot s1 s2 s3 d12 d13 d23 hP og bW k2 ht p3 om2 O1
  have p4 := F2.out.1 4 _ rfl
  generalize hz : y + (offG cM k.machines k.machines.length : Int) = z at *
  have hz0 : 0 ≤ z := by omega
  go_wp2_with fail
  refine (markTS_ownc w2 B a3 c3 k.txs P3 z hz0 (by omega) H.out.2.2.2.2.2.2.2.2.2.2.2.t H.out.2.2.2.2.2.2.2.2.2.2.2.ts M2.out.1).mono ?_
  rintro e w3 ⟨rfl, k3, ot3⟩
  have M3 : Hid (KeptP P X w3 ∧ KCl.Rd w3 a1 c1 a2 c2 a3 c3 (mkC k x)) := by
    obtain ⟨om, ot, s1, s2, s3, d12, d13, d23, hP, og, bW, ht⟩ := H.out
    have o3 := O2.out.1.kept k3.size (fun b e => k3.block b (by have := hP _ (s1 _ (HB.out b e)); have := O2.out.2; omega) (d13 b (HB.out b e))) (fun i hi => k3.block _ (by have := hP _ (s1 _ (og i hi)); have := O2.out.2; omega) (d13 _ (og i hi)))
    have m3 := M2.out.2.2.keep k3.size (fun q hq => k3.block q (M2.out.2.2.of hq).2 (d23 q hq))
    refine ⟨M2.out.2.1.trans (k3.mono s3), ?_⟩
    rw [HM.out]
    exact ⟨by rw [markPs_len]; exact o3.sl, m3.sl, ot3.sl⟩
  clear k3 p4 ot3
  go_wp2
  go_ret
  exact ⟨by rw [HE.out]; rfl, M3.out.1, M3.out.2⟩
set_option maxHeartbeats 4000000 in
theorem KCl.held (X : World) (a1 : Option Addr) (c1 : Nat) (a2 : Option Addr) (c2 : Nat) (a3 : Option Addr) (c3 : Nat) (k : C6) (x : Int) (hx : 0 ≤ x) (hx' : x ≤ 1000) (hz : szC k ≤ 1048576) (ht : KCl.S k) (h : KCl.Rd X a1 c1 a2 c2 a3 c3 (mkC k x)) :
    Calls Tryz.prog 15 #[.agg #[.int .i64 k.config, .int .i64 k.clock, .slice a1 k.places.length c1, .slice a2 k.machines.length c2, .slice a3 k.txs.length c3, .bool k.lost], .int .i64 x] X fun r w' => r = .returned (.int .i64 (endC k x)) ∧ Below X.heap.size X w' := by
  have hcc := cC_le k
  have hC : endC k x = x + (lens k.places : Int) + (offG cM k.machines k.machines.length : Int) + (offG cT k.txs k.txs.length : Int) := by unfold endC cC; push_cast; omega
  have hs1 : lens k.places ≤ 1048576 := by unfold szC at hz; omega
  obtain ⟨W, hW⟩ : ∃ Y, Y = X.alloc (.cells #[.int .i64 k.config, .int .i64 k.clock, .slice a1 k.places.length c1, .slice a2 k.machines.length c2, .slice a3 k.txs.length c3, .bool k.lost] 32) := ⟨_, rfl⟩
  have bW : Below X.heap.size X W := by rw [hW]; exact (Below.refl _ _).alloc (Nat.le_refl _) _
  have FA : Bx W X.heap.size [.int .i64 k.config, .int .i64 k.clock, .slice a1 k.places.length c1, .slice a2 k.machines.length c2, .slice a3 k.txs.length c3, .bool k.lost] := by rw [hW]; exact Bx.made X [.int .i64 k.config, .int .i64 k.clock, .slice a1 k.places.length c1, .slice a2 k.machines.length c2, .slice a3 k.txs.length c3, .bool k.lost] _
  have h0 := h.later bW
  have hp := h0.p
  simp only [mkC, markPs_len] at hp
  have hc := heldPlaceS_any W a1 k.places.length c1 k.places x ht.p hs1 hx (by omega) hp
  have HL : Hid (x + (lens k.places : Int) + (offG cM k.machines k.machines.length : Int) + (offG cT k.txs k.txs.length : Int) ≤ 100000000) := by unfold Hid; rw [← hC]; unfold endC; omega
  have H : Hid (KMk.RdS W a2 (mkMs k.machines (x + (lens k.places : Int))) ∧ KTk.RdS W a3 (mkTs k.txs (x + (lens k.places : Int) + (offG cM k.machines k.machines.length : Int))) ∧ Below X.heap.size X W ∧ KCl.S k ∧ Bx W X.heap.size [.int .i64 k.config, .int .i64 k.clock, .slice a1 k.places.length c1, .slice a2 k.machines.length c2, .slice a3 k.txs.length c3, .bool k.lost]) := ⟨h0.m, h0.t, bW, ht, FA⟩
  have HE := hidOf hC
  have p3 := FA.1 3 _ rfl
  have p4 := FA.1 4 _ rfl
  have d1 : decide (x + (lens k.places : Int) < 0) = false := by simp; omega
  have d2 : decide (x + (lens k.places : Int) + (offG cM k.machines k.machines.length : Int) < 0) = false := by simp; omega
  have d3 : decide (x + (lens k.places : Int) + (offG cM k.machines k.machines.length : Int) + (offG cT k.txs k.txs.length : Int) < 0) = false := by simp; omega
  clear h h0 hp hcc hC hz ht bW hs1 FA
  rw [hW] at p3 p4
  go_enter Tryz.func15, Tryz.ntmps15
  go_wp2_with fail
  rw [← hW]
  refine hc.mono ?_
  clear hc
  rintro e w1 ⟨rfl, rfl⟩
  rw [← hW] at p3 p4
  clear hW
  have l1 := HL.out
  generalize hy : x + (lens k.places : Int) = y at *
  have hy0 : 0 ≤ y := by omega
  go_wp2_with fail
  refine (heldMn w1 a2 c2 k.machines y hy0 (by omega) H.out.2.2.2.1.m H.out.2.2.2.1.ms H.out.1).mono ?_
  rintro e w2 ⟨rfl, b2⟩
  have H2 : Hid (KTk.RdS w2 a3 (mkTs k.txs (y + (offG cM k.machines k.machines.length : Int))) ∧ Below X.heap.size X w2 ∧ Bx w2 X.heap.size [.int .i64 k.config, .int .i64 k.clock, .slice a1 k.places.length c1, .slice a2 k.machines.length c2, .slice a3 k.txs.length c3, .bool k.lost]) := ⟨H.out.2.1.later b2, bstep H.out.2.2.1 b2, H.out.2.2.2.2.later b2⟩
  clear b2 p3 p4
  have p4 := H2.out.2.2.1 4 _ rfl
  generalize hz : y + (offG cM k.machines k.machines.length : Int) = z at *
  have hz0 : 0 ≤ z := by omega
  go_wp2_with fail
  refine (heldTn w2 a3 c3 k.txs z hz0 (by omega) H.out.2.2.2.1.t H.out.2.2.2.1.ts H2.out.1).mono ?_
  rintro e w3 ⟨rfl, b3⟩
  have H3 : Hid (Below X.heap.size X w3) := bstep H2.out.2.1 b3
  clear b3 p4
  go_wp2
  go_ret
  exact ⟨by rw [HE.out]; rfl, H3.out⟩
end Go.Proofs.YtnhjgomfkfehgaaGreatDoor
namespace Go.Proofs.YtnhjgomfkfehgaaGreatDoor
open Go.RowKit
theorem sum_set {α : Type} (f : α → Nat) {x : α} : ∀ {l : List α} {i : Nat} {y : α}, l[i]? = some y → f x = f y → ((l.set i x).map f).sum = (l.map f).sum
  | [], i, y, h, _ => by simp at h
  | a :: l, 0, y, h, e => by simp at h; subst h; simp [e]
  | a :: l, i + 1, y, h, e => by
    have := sum_set f (l := l) (i := i) (y := y) (by simpa using h) e
    simp only [List.set_cons_succ, List.map_cons, List.sum_cons, this]
theorem szT_lock (t : tx.T7) : tx.szT (lockT t) = tx.szT t := by simp [tx.szT, lockT]
theorem comK_sz (k : C6) (y : Int) : szC (comK k y) ≤ szC k := by
  unfold comK
  split
  · rename_i hz
    obtain ⟨_, hi, _, _⟩ := runC_zero hz
    have h1 : KTS.szs (k.txs.set (atId k.txs y) (lockT (txAt k y))) = KTS.szs k.txs := sum_set (fun d => tx.szT d) (y := txAt k y) (atT_of hi) (szT_lock _)
    unfold szC setTx
    simp only [List.length_set, h1]
    exact Nat.le_refl _
  · unfold leftC
    split
    · exact Nat.le_refl _
    · simp [szC, zC, lens, KMS.szs, KTS.szs]
theorem comK_s {k : C6} (h : KCl.S k) (y : Int) : KCl.S (comK k y) := by
  unfold comK
  split
  · rename_i hz
    obtain ⟨_, hi, _, _⟩ := runC_zero hz
    refine ⟨h.p, h.ps, h.m, h.ms, by simp only [setTx, List.length_set]; exact h.t, fun t ht => ?_⟩
    rcases List.mem_or_eq_of_mem_set ht with ht | rfl
    · exact h.ts t ht
    · exact h.ts (txAt k y) (List.mem_of_getElem? (atT_of hi))
  · unfold leftC
    split
    · exact h
    · exact ⟨by simp [zC], by simp [zC], by simp [zC], by simp [zC], by simp [zC], by simp [zC]⟩
end Go.Proofs.YtnhjgomfkfehgaaGreatDoor
namespace Go.Proofs.YtnhjgomfkfehgaaGreatDoor.fnExactCommit
open Go.ChangeShapes Go.WideShapes Go.ChangeAt Go.RowKit
theorem own : ownKnob Tryz.prog.godebug = none := by kernel_rfl
theorem laidOut : laidOutB Tryz.prog = true := by kernel_rfl
def Ans (X : World) (N : C6) (o0 : Int) (e : Ending) (w' : World) : Prop := ∃ (ra : Option Addr) (rb : Nat) (rc : Option Addr) (rd : Nat) (re : Option Addr) (rf : Nat) (P : Nat → Prop), e = .returned (.tuple #[.agg #[.int .i64 N.config, .int .i64 N.clock, .slice ra N.places.length rb, .slice rc N.machines.length rd, .slice re N.txs.length rf, .bool N.lost], .int .i64 o0]) ∧ KCl.Ow w' X.heap.size ra rb rc rd re rf N P ∧ Below X.heap.size X w'
def Gx (w X : World) (sv : Value) (bo0 : Value) (N : C6) (o0 : Int) : Prop := ∃ (q : Nat) (ra : Option Addr) (rb : Nat) (rc : Option Addr) (rd : Nat) (re : Option Addr) (rf : Nat) (P : Nat → Prop), sv = .pointer (some ⟨q, 0, none⟩) ∧ bo0 = .int .i64 o0 ∧ Bx X q [.int .i64 N.config, .int .i64 N.clock, .slice ra N.places.length rb, .slice rc N.machines.length rd, .slice re N.txs.length rf, .bool N.lost] ∧ KCl.Ow X w.heap.size ra rb rc rd re rf N P ∧ (∀ x, P x → x ≠ q) ∧ w.heap.size ≤ q ∧ Below w.heap.size w X
set_option maxRecDepth 100000 in
set_option maxHeartbeats 8000000 in
theorem walk_small (w : World) (yka : Option Addr) (ykb : Nat) (ykc : Option Addr) (ykd : Nat) (yke : Option Addr) (ykf : Nat) (k : C6) (y : Int) (lk : KCl.L k) (hk : KCl.Rd w yka ykb ykc ykd yke ykf k) (hG0 : HG w) (hg : szC k ≤ 1048576) :
    Calls Tryz.prog 8 #[.agg #[.int .i64 k.config, .int .i64 k.clock, .slice yka k.places.length ykb, .slice ykc k.machines.length ykd, .slice yke k.txs.length ykf, .bool k.lost], .int .i64 y] w fun e w' => e = .returned (.bool true) ∧ Below w.heap.size w w' := by
  have tk : Hid (KCl.S k) := KCl.S.of (by omega)
  obtain ⟨N, hN⟩ : ∃ N, N = comK k y := ⟨_, rfl⟩
  obtain ⟨o0, ho0⟩ : ∃ z, z = runC k y := ⟨_, rfl⟩
  have A1 : Hid (∀ (X : World) (yka1 : Option Addr) (ykb1 : Nat) (ykc1 : Option Addr) (ykd1 : Nat) (yke1 : Option Addr) (ykf1 : Nat), KCl.Rd X yka1 ykb1 ykc1 ykd1 yke1 ykf1 k → HG X → Calls Tryz.prog 24 #[.agg #[.int .i64 k.config, .int .i64 k.clock, .slice yka1 k.places.length ykb1, .slice ykc1 k.machines.length ykd1, .slice yke1 k.txs.length ykf1, .bool k.lost], .int .i64 y] X (Ans X N o0)) := by
    rw [hN, ho0]
    intro X yka1 ykb1 ykc1 ykd1 yke1 ykf1 h1 _
    exact specCommit_any X yka1 ykb1 ykc1 ykd1 yke1 ykf1 k y lk h1
  have A2 : Hid (∀ (X : World) (yka1 : Option Addr) (ykb1 : Nat) (ykc1 : Option Addr) (ykd1 : Nat) (yke1 : Option Addr) (ykf1 : Nat), KCl.Rd X yka1 ykb1 ykc1 ykd1 yke1 ykf1 k → HG X → Calls Tryz.prog 25 #[.agg #[.int .i64 k.config, .int .i64 k.clock, .slice yka1 k.places.length ykb1, .slice ykc1 k.machines.length ykd1, .slice yke1 k.txs.length ykf1, .bool k.lost], .int .i64 y] X (Ans X N o0)) := by
    rw [hN, ho0]
    intro X yka1 ykb1 ykc1 ykd1 yke1 ykf1 h1 hX
    exact implCommit_any X yka1 ykb1 ykc1 ykd1 yke1 ykf1 k y lk h1 hX
  have tN : Hid (KCl.S N) := by
    rw [hN]
    exact comK_s tk.out y
  have zN : Hid (szC N ≤ 1048576) := by
    rw [hN]
    exact Nat.le_trans (comK_sz k y) (by omega)
  clear hN ho0
  have do0 : (o0 != o0) = false := by simp
  obtain ⟨U0, hU0⟩ : ∃ X, X = w.alloc (.cells #[.int .i64 k.config, .int .i64 k.clock, .slice yka k.places.length ykb, .slice ykc k.machines.length ykd, .slice yke k.txs.length ykf, .bool k.lost] 26) := ⟨_, rfl⟩
  have bU0 : Below w.heap.size w U0 := by rw [hU0]; exact (Below.refl _ _).alloc (Nat.le_refl _) _
  have xU0 : Bx U0 w.heap.size [.int .i64 k.config, .int .i64 k.clock, .slice yka k.places.length ykb, .slice ykc k.machines.length ykd, .slice yke k.txs.length ykf, .bool k.lost] := by rw [hU0]; exact Bx.made w [.int .i64 k.config, .int .i64 k.clock, .slice yka k.places.length ykb, .slice ykc k.machines.length ykd, .slice yke k.txs.length ykf, .bool k.lost] _
  have zU0 : U0.heap.size = w.heap.size + 1 := by rw [hU0]; simp
  have Fk : Hid (Bx U0 w.heap.size [.int .i64 k.config, .int .i64 k.clock, .slice yka k.places.length ykb, .slice ykc k.machines.length ykd, .slice yke k.txs.length ykf, .bool k.lost]) := xU0
  have Rk : Hid (KCl.Rd U0 yka ykb ykc ykd yke ykf k) := (hk).later bU0
  have Bw : Hid (Below w.heap.size w U0) := bU0
  have HGw : Hid (HG w) := hG0
  clear hG0
  have ZU : Hid (U0.heap.size = w.heap.size + 1) := by unfold Hid; omega
  clear bU0 xU0 zU0 hk
  have B0_U0 : Hid (Below U0.heap.size U0 U0) := Below.refl _ _
  go_enter Tryz.func8, Tryz.ntmps8
  have hbx := (Fk.out.later B0_U0.out)
  have p0 := hbx.1 0 _ rfl
  have p1 := hbx.1 1 _ rfl
  have p2 := hbx.1 2 _ rfl
  have p3 := hbx.1 3 _ rfl
  have p4 := hbx.1 4 _ rfl
  have p5 := hbx.1 5 _ rfl
  clear hbx
  rw [hU0] at p0 p1 p2 p3 p4 p5
  go_wp2_with fail
  rw [← hU0]
  clear hU0
  refine (KCl.sz U0 yka ykb ykc ykd yke ykf k lk (Rk.out.later B0_U0.out)).mono ?_
  rw [leftR_yes (by omega)]
  rintro e s1 ⟨rfl, bs1⟩
  clear p0 p1 p2 p3 p4 p5
  have B0_s1 : Hid (Below U0.heap.size U0 s1) := bstep B0_U0.out bs1
  have Zs1 : Hid (U0.heap.size ≤ s1.heap.size) := bs1.size
  clear B0_U0 bs1
  have g0 : decide ((((1048576 - szC k) : Nat) : Int) < 0) = false := by simp
  have hbx := (Fk.out.later B0_s1.out)
  have p0 := hbx.1 0 _ rfl
  have p1 := hbx.1 1 _ rfl
  have p2 := hbx.1 2 _ rfl
  have p3 := hbx.1 3 _ rfl
  have p4 := hbx.1 4 _ rfl
  have p5 := hbx.1 5 _ rfl
  clear hbx
  go_wp2_with fail
  refine (KCl.to s1 yka ykb ykc ykd yke ykf k tk.out (Rk.out.later B0_s1.out)).mono ?_
  rintro e t2 ⟨yka2, ykb2, ykc2, ykd2, yke2, ykf2, _, rfl, oT, bt2⟩
  have rbk := hidOf oT.sl
  clear oT p0 p1 p2 p3 p4 p5
  have B0_t2 : Hid (Below U0.heap.size U0 t2) := bstep B0_s1.out bt2
  have Zt2 : Hid (s1.heap.size ≤ t2.heap.size) := bt2.size
  clear B0_s1 bt2
  go_wp2_with fail
  refine (A1.out t2 yka2 ykb2 ykc2 ykd2 yke2 ykf2 rbk.out ((HGw.out.later Bw.out).later B0_t2.out)).mono ?_
  rintro e t3 ⟨nw0, nw1, nw2, nw3, nw4, nw5, Pw, rfl, ow, bt3⟩
  clear rbk
  obtain ⟨vw, hvw⟩ : ∃ X, X = t3.alloc (.cells #[.int .i64 N.config, .int .i64 N.clock, .slice nw0 N.places.length nw1, .slice nw2 N.machines.length nw3, .slice nw4 N.txs.length nw5, .bool N.lost] 32) := ⟨_, rfl⟩
  have bvw : Below t3.heap.size t3 vw := by rw [hvw]; exact (Below.refl _ _).alloc (Nat.le_refl _) _
  have Fw : Hid (Bx vw t3.heap.size [.int .i64 N.config, .int .i64 N.clock, .slice nw0 N.places.length nw1, .slice nw2 N.machines.length nw3, .slice nw4 N.txs.length nw5, .bool N.lost]) := by rw [hvw]; exact Bx.made t3 [.int .i64 N.config, .int .i64 N.clock, .slice nw0 N.places.length nw1, .slice nw2 N.machines.length nw3, .slice nw4 N.txs.length nw5, .bool N.lost] _
  have Ow : Hid (KCl.Ow vw t2.heap.size nw0 nw1 nw2 nw3 nw4 nw5 N Pw) := ow.later bvw
  have NEw : Hid (∀ x, Pw x → x ≠ t3.heap.size) := fun x hx => by have := (ow.of hx).2; omega
  obtain ⟨qw, hqw⟩ : ∃ q, q = t3.heap.size := ⟨_, rfl⟩
  have bb : Below t2.heap.size t2 vw := bstep bt3 bvw
  have Lw : Hid (t2.heap.size ≤ t3.heap.size) := bt3.size
  clear ow bt3 bvw hqw qw
  have B0_vw : Hid (Below U0.heap.size U0 vw) := bstep B0_t2.out bb
  have Zvw : Hid (t2.heap.size ≤ vw.heap.size) := bb.size
  clear B0_t2 bb
  have B3_vw : Hid (Below vw.heap.size vw vw) := Below.refl _ _
  have hbx := (Fk.out.later B0_vw.out)
  have p0 := hbx.1 0 _ rfl
  have p1 := hbx.1 1 _ rfl
  have p2 := hbx.1 2 _ rfl
  have p3 := hbx.1 3 _ rfl
  have p4 := hbx.1 4 _ rfl
  have p5 := hbx.1 5 _ rfl
  clear hbx
  rw [hvw] at p0 p1 p2 p3 p4 p5
  go_wp2_with fail
  rw [← hvw]
  clear hvw
  refine (KCl.to vw yka ykb ykc ykd yke ykf k tk.out (Rk.out.later B0_vw.out)).mono ?_
  rintro e t4 ⟨yka3, ykb3, ykc3, ykd3, yke3, ykf3, Xk, rfl, ox, bt4⟩
  clear p0 p1 p2 p3 p4 p5
  obtain ⟨xk, hxk⟩ : ∃ X, X = t4.alloc (.cells #[.int .i64 k.config, .int .i64 k.clock, .slice yka3 k.places.length ykb3, .slice ykc3 k.machines.length ykd3, .slice yke3 k.txs.length ykf3, .bool k.lost] 32) := ⟨_, rfl⟩
  have bxk : Below t4.heap.size t4 xk := by rw [hxk]; exact (Below.refl _ _).alloc (Nat.le_refl _) _
  have Fxk : Hid (Bx xk t4.heap.size [.int .i64 k.config, .int .i64 k.clock, .slice yka3 k.places.length ykb3, .slice ykc3 k.machines.length ykd3, .slice yke3 k.txs.length ykf3, .bool k.lost]) := by rw [hxk]; exact Bx.made t4 [.int .i64 k.config, .int .i64 k.clock, .slice yka3 k.places.length ykb3, .slice ykc3 k.machines.length ykd3, .slice yke3 k.txs.length ykf3, .bool k.lost] _
  have Oxk : Hid (KCl.Ow xk vw.heap.size yka3 ykb3 ykc3 ykd3 yke3 ykf3 k Xk) := ox.later bxk
  have Pxk : Hid (∀ q, Xk q → vw.heap.size ≤ q ∧ q < t4.heap.size) := fun q hq => ox.of hq
  have bb : Below vw.heap.size vw xk := bstep bt4 bxk
  have Lxk : Hid (vw.heap.size ≤ t4.heap.size) := bt4.size
  have Mxk : Hid (xk.heap.size = t4.heap.size + 1) := by rw [Hid, hxk]; simp
  clear ox bt4 bxk
  have B0_xk : Hid (Below U0.heap.size U0 xk) := bstep B0_vw.out bb
  have B3_xk : Hid (Below vw.heap.size vw xk) := bstep B3_vw.out bb
  have Zxk : Hid (vw.heap.size ≤ xk.heap.size) := bb.size
  clear B0_vw B3_vw bb
  have Bxk_xk : Hid (Below xk.heap.size xk xk) := Below.refl _ _
  have B5_xk : Hid (Below xk.heap.size xk xk) := Below.refl _ _
  have Rxk : Hid (KCl.Rd xk yka3 ykb3 ykc3 ykd3 yke3 ykf3 k) := (Oxk.out.later Bxk_xk.out).sl
  have Gxk : Hid (Bx xk t4.heap.size [.int .i64 k.config, .int .i64 k.clock, .slice yka3 k.places.length ykb3, .slice ykc3 k.machines.length ykd3, .slice yke3 k.txs.length ykf3, .bool k.lost]) := Fxk.out.later Bxk_xk.out
  have hbx := (Gxk.out.later B5_xk.out)
  have pk0 := hbx.1 0 _ rfl
  have pk1 := hbx.1 1 _ rfl
  have pk2 := hbx.1 2 _ rfl
  have pk3 := hbx.1 3 _ rfl
  have pk4 := hbx.1 4 _ rfl
  have pk5 := hbx.1 5 _ rfl
  clear hbx
  rw [hxk] at pk0 pk1 pk2 pk3 pk4 pk5
  go_wp2_with fail
  rw [← hxk]
  clear hxk
  refine (A2.out xk yka3 ykb3 ykc3 ykd3 yke3 ykf3 (Rxk.out.later B5_xk.out) ((HGw.out.later Bw.out).later B0_xk.out)).mono ?_
  rintro e t5 ⟨ng0, ng1, ng2, ng3, ng4, ng5, Pg, rfl, og, bt5⟩
  clear pk0 pk1 pk2 pk3 pk4 pk5
  obtain ⟨vg, hvg⟩ : ∃ X, X = t5.alloc (.cells #[.int .i64 N.config, .int .i64 N.clock, .slice ng0 N.places.length ng1, .slice ng2 N.machines.length ng3, .slice ng4 N.txs.length ng5, .bool N.lost] 32) := ⟨_, rfl⟩
  have bvg : Below t5.heap.size t5 vg := by rw [hvg]; exact (Below.refl _ _).alloc (Nat.le_refl _) _
  have Fg : Hid (Bx vg t5.heap.size [.int .i64 N.config, .int .i64 N.clock, .slice ng0 N.places.length ng1, .slice ng2 N.machines.length ng3, .slice ng4 N.txs.length ng5, .bool N.lost]) := by rw [hvg]; exact Bx.made t5 [.int .i64 N.config, .int .i64 N.clock, .slice ng0 N.places.length ng1, .slice ng2 N.machines.length ng3, .slice ng4 N.txs.length ng5, .bool N.lost] _
  have Og : Hid (KCl.Ow vg xk.heap.size ng0 ng1 ng2 ng3 ng4 ng5 N Pg) := og.later bvg
  have NEg : Hid (∀ x, Pg x → x ≠ t5.heap.size) := fun x hx => by have := (og.of hx).2; omega
  obtain ⟨qg, hqg⟩ : ∃ q, q = t5.heap.size := ⟨_, rfl⟩
  have bb : Below xk.heap.size xk vg := bstep bt5 bvg
  have Lg : Hid (xk.heap.size ≤ t5.heap.size) := bt5.size
  clear og bt5 bvg hqg qg
  have B0_vg : Hid (Below U0.heap.size U0 vg) := bstep B0_xk.out bb
  have B3_vg : Hid (Below vw.heap.size vw vg) := bstep B3_xk.out bb
  have Bxk_vg : Hid (Below xk.heap.size xk vg) := bstep Bxk_xk.out bb
  have B5_vg : Hid (Below xk.heap.size xk vg) := bstep B5_xk.out bb
  have Zvg : Hid (xk.heap.size ≤ vg.heap.size) := bb.size
  clear B0_xk B3_xk Bxk_xk B5_xk bb
  have B7_vg : Hid (Below vg.heap.size vg vg) := Below.refl _ _
  have hbx := (Fg.out.later B7_vg.out)
  have g0 := hbx.1 0 _ rfl
  have g1 := hbx.1 1 _ rfl
  have g2 := hbx.1 2 _ rfl
  have g3 := hbx.1 3 _ rfl
  have g4 := hbx.1 4 _ rfl
  have g5 := hbx.1 5 _ rfl
  clear hbx
  have hbx := (Fw.out.later B3_vg.out)
  have y0 := hbx.1 0 _ rfl
  have y1 := hbx.1 1 _ rfl
  have y2 := hbx.1 2 _ rfl
  have y3 := hbx.1 3 _ rfl
  have y4 := hbx.1 4 _ rfl
  have y5 := hbx.1 5 _ rfl
  clear hbx
  rw [hvg] at g0 g1 g2 g3 g4 g5 y0 y1 y2 y3 y4 y5
  go_wp2_with fail
  rw [← hvg]
  clear hvg
  refine (KCl.eq vg ng0 ng1 ng2 ng3 ng4 ng5 nw0 nw1 nw2 nw3 nw4 nw5 N tN.out (Og.out.sl.later B7_vg.out) (Ow.out.sl.later B3_vg.out)).mono ?_
  rintro e t6 ⟨rfl, bt6⟩
  clear g0 g1 g2 g3 g4 g5 y0 y1 y2 y3 y4 y5
  have B0_t6 : Hid (Below U0.heap.size U0 t6) := bstep B0_vg.out bt6
  have B3_t6 : Hid (Below vw.heap.size vw t6) := bstep B3_vg.out bt6
  have Bxk_t6 : Hid (Below xk.heap.size xk t6) := bstep Bxk_vg.out bt6
  have B5_t6 : Hid (Below xk.heap.size xk t6) := bstep B5_vg.out bt6
  have B7_t6 : Hid (Below vg.heap.size vg t6) := bstep B7_vg.out bt6
  have Zt6 : Hid (vg.heap.size ≤ t6.heap.size) := bt6.size
  clear B0_vg B3_vg Bxk_vg B5_vg B7_vg bt6
  go_upto_region 10 with fail
  go_cut [49] from 45 to 49 (fun s0 wx => s0 = .bool false ∧ Below t6.heap.size t6 wx)
  case first =>
    have bd : Below t6.heap.size t6 t6.drew := (Below.refl _ _).drew
    have hbx := (Fk.out.later (bstep B0_t6.out bd))
    have p0 := hbx.1 0 _ rfl
    have p1 := hbx.1 1 _ rfl
    have p2 := hbx.1 2 _ rfl
    have p3 := hbx.1 3 _ rfl
    have p4 := hbx.1 4 _ rfl
    have p5 := hbx.1 5 _ rfl
    clear hbx
    have hbx := (Gxk.out.later (bstep B5_t6.out bd))
    have e0 := hbx.1 0 _ rfl
    have e1 := hbx.1 1 _ rfl
    have e2 := hbx.1 2 _ rfl
    have e3 := hbx.1 3 _ rfl
    have e4 := hbx.1 4 _ rfl
    have e5 := hbx.1 5 _ rfl
    clear hbx
    have h47 : t4.heap.size < t6.drew.heap.size := (Gxk.out.later (bstep B5_t6.out bd)).2.2
    have sx : Hid (KCl.Rd t6.drew yka3 ykb3 ykc3 ykd3 yke3 ykf3 k) := Rxk.out.later (bstep B5_t6.out bd)
    have KB := hidOf bd
    have ra := Rk.out.later (bstep B0_t6.out bd)
    clear bd
    go_region_with (first
      | (go_at_call 11
         refine (KCl.to t6.drew yka ykb ykc ykd yke ykf k tk.out ra).mono ?_
         rintro e w8 ⟨yka8, ykb8, ykc8, ykd8, yke8, ykf8, _, rfl, o8, b8⟩
         have e0' : w8.cell? ⟨t4.heap.size, 0, none⟩ = some (.int .i64 k.config) := (b8.cell (p := ⟨t4.heap.size, 0, none⟩) h47).trans e0
         have e1' : w8.cell? ⟨t4.heap.size, 1, none⟩ = some (.int .i64 k.clock) := (b8.cell (p := ⟨t4.heap.size, 1, none⟩) h47).trans e1
         have e2' : w8.cell? ⟨t4.heap.size, 2, none⟩ = some (.slice yka3 k.places.length ykb3) := (b8.cell (p := ⟨t4.heap.size, 2, none⟩) h47).trans e2
         have e3' : w8.cell? ⟨t4.heap.size, 3, none⟩ = some (.slice ykc3 k.machines.length ykd3) := (b8.cell (p := ⟨t4.heap.size, 3, none⟩) h47).trans e3
         have e4' : w8.cell? ⟨t4.heap.size, 4, none⟩ = some (.slice yke3 k.txs.length ykf3) := (b8.cell (p := ⟨t4.heap.size, 4, none⟩) h47).trans e4
         have e5' : w8.cell? ⟨t4.heap.size, 5, none⟩ = some (.bool k.lost) := (b8.cell (p := ⟨t4.heap.size, 5, none⟩) h47).trans e5
         have S8 : Hid (KCl.Rd w8 yka3 ykb3 ykc3 ykd3 yke3 ykf3 k ∧ KCl.Rd w8 yka8 ykb8 ykc8 ykd8 yke8 ykf8 k ∧ Below t6.heap.size t6 w8) := ⟨sx.out.later b8, o8.sl, bstep KB.out b8⟩
         clear o8 b8)
      | (go_at_call 13
         refine (KCl.eq w8 yka3 ykb3 ykc3 ykd3 yke3 ykf3 yka8 ykb8 ykc8 ykd8 yke8 ykf8 k tk.out S8.out.1 S8.out.2.1).mono ?_
         rintro e w9 ⟨rfl, b9⟩))
    all_goals (
      go_wp2_with fail
      go_meet
      exact ⟨rfl, bstep S8.out.2.2 b9⟩)
  case rest =>
  obtain ⟨rfl, bx⟩ := hcut
  generalize wc = t7 at *
  have B0_t7 : Hid (Below U0.heap.size U0 t7) := bstep B0_t6.out bx
  have B3_t7 : Hid (Below vw.heap.size vw t7) := bstep B3_t6.out bx
  have Bxk_t7 : Hid (Below xk.heap.size xk t7) := bstep Bxk_t6.out bx
  have B5_t7 : Hid (Below xk.heap.size xk t7) := bstep B5_t6.out bx
  have B7_t7 : Hid (Below vg.heap.size vg t7) := bstep B7_t6.out bx
  have Zt7 : Hid (t6.heap.size ≤ t7.heap.size) := bx.size
  clear B0_t6 B3_t6 Bxk_t6 B5_t6 B7_t6 bx
  have Oxk : Hid (KCl.Ow t7 _ yka3 ykb3 ykc3 ykd3 yke3 ykf3 k Xk) := Oxk.out.later Bxk_t7.out
  have Gxk : Hid (Bx t7 t4.heap.size [.int .i64 k.config, .int .i64 k.clock, .slice yka3 k.places.length ykb3, .slice ykc3 k.machines.length ykd3, .slice yke3 k.txs.length ykf3, .bool k.lost]) := Gxk.out.later B5_t7.out
  have Og : Hid (KCl.Ow t7 xk.heap.size ng0 ng1 ng2 ng3 ng4 ng5 N Pg) := Og.out.later B7_t7.out
  have Fg : Hid (Bx t7 t5.heap.size [.int .i64 N.config, .int .i64 N.clock, .slice ng0 N.places.length ng1, .slice ng2 N.machines.length ng3, .slice ng4 N.txs.length ng5, .bool N.lost]) := Fg.out.later B7_t7.out
  have k0 : Hid ((0 : Int) ≤ 1 ∧ (1 : Int) ≤ 1) := by unfold Hid; omega
  have hbx := Gxk.out
  have e0 := hbx.1 0 _ rfl
  have e1 := hbx.1 1 _ rfl
  have e2 := hbx.1 2 _ rfl
  have e3 := hbx.1 3 _ rfl
  have e4 := hbx.1 4 _ rfl
  have e5 := hbx.1 5 _ rfl
  clear hbx
  have hmk := KCl.mark t7 _ yka3 ykb3 ykc3 ykd3 yke3 ykf3 k Xk 1 (by have := k0.out; omega) (by have := k0.out; omega) (by omega) tk.out Oxk.out
  obtain ⟨E0, hE0⟩ : ∃ z, z = (endC k 1) := ⟨_, rfl⟩
  rw [← hE0] at hmk
  have k1 : Hid ((0 : Int) ≤ E0 ∧ E0 ≤ 300000000) := by
    rw [hE0]
    have := k0.out
    have e1 := cC_le k
    unfold endC
    refine ⟨by omega, by omega⟩
  clear hE0
  have dE : decide (E0 < 0) = false := by have := k1.out; simp; omega
  go_wp2_with fail
  refine hmk.mono ?_
  clear hmk e0 e1 e2 e3 e4 e5
  rintro e t8 ⟨rfl, kp⟩
  have B0_t8 : Hid (Below U0.heap.size U0 t8) := bkept B0_t7.out kp (fun q hq => by have := ZU.out; have := Zs1.out; have := Zt2.out; have := Lw.out; have := Zvw.out; have := Lxk.out; have := Mxk.out; have := Zxk.out; have := Lg.out; have := Zvg.out; have := Zt6.out; have := Zt7.out; have := (Pxk.out q hq).1; omega)
  have B3_t8 : Hid (Below vw.heap.size vw t8) := bkept B3_t7.out kp (fun q hq => by have := ZU.out; have := Zs1.out; have := Zt2.out; have := Lw.out; have := Zvw.out; have := Lxk.out; have := Mxk.out; have := Zxk.out; have := Lg.out; have := Zvg.out; have := Zt6.out; have := Zt7.out; have := (Pxk.out q hq).1; omega)
  have Og : Hid (KCl.Ow t8 xk.heap.size ng0 ng1 ng2 ng3 ng4 ng5 N Pg) := Og.out.keep kp.size (fun q hq => kp.block q (Og.out.of hq).2 (fun e => by have := ZU.out; have := Zs1.out; have := Zt2.out; have := Lw.out; have := Zvw.out; have := Lxk.out; have := Mxk.out; have := Zxk.out; have := Lg.out; have := Zvg.out; have := Zt6.out; have := Zt7.out; have := (Pxk.out q e).2; have := (Og.out.of hq).1; omega))
  have Fg : Hid (Bx t8 t5.heap.size [.int .i64 N.config, .int .i64 N.clock, .slice ng0 N.places.length ng1, .slice ng2 N.machines.length ng3, .slice ng4 N.txs.length ng5, .bool N.lost]) := Fg.out.of_block (kp.block _ Fg.out.2.2 (fun e => by have := ZU.out; have := Zs1.out; have := Zt2.out; have := Lw.out; have := Zvw.out; have := Lxk.out; have := Mxk.out; have := Zxk.out; have := Lg.out; have := Zvg.out; have := Zt6.out; have := Zt7.out; have := (Pxk.out _ e).2; omega)) kp.size
  have Zt8 : Hid (t7.heap.size ≤ t8.heap.size) := kp.size
  clear kp
  have B9_t8 : Hid (Below t8.heap.size t8 t8) := Below.refl _ _
  have hbx := (Fg.out.later B9_t8.out)
  have g0 := hbx.1 0 _ rfl
  have g1 := hbx.1 1 _ rfl
  have g2 := hbx.1 2 _ rfl
  have g3 := hbx.1 3 _ rfl
  have g4 := hbx.1 4 _ rfl
  have g5 := hbx.1 5 _ rfl
  clear hbx
  have hbx := (Fw.out.later B3_t8.out)
  have y0 := hbx.1 0 _ rfl
  have y1 := hbx.1 1 _ rfl
  have y2 := hbx.1 2 _ rfl
  have y3 := hbx.1 3 _ rfl
  have y4 := hbx.1 4 _ rfl
  have y5 := hbx.1 5 _ rfl
  clear hbx
  go_wp2_with fail
  refine (KCl.eq t8 ng0 ng1 ng2 ng3 ng4 ng5 nw0 nw1 nw2 nw3 nw4 nw5 N tN.out (Og.out.sl.later B9_t8.out) (Ow.out.sl.later B3_t8.out)).mono ?_
  rintro e t9 ⟨rfl, bt9⟩
  clear g0 g1 g2 g3 g4 g5 y0 y1 y2 y3 y4 y5
  have B0_t9 : Hid (Below U0.heap.size U0 t9) := bstep B0_t8.out bt9
  have B3_t9 : Hid (Below vw.heap.size vw t9) := bstep B3_t8.out bt9
  have B9_t9 : Hid (Below t8.heap.size t8 t9) := bstep B9_t8.out bt9
  have Zt9 : Hid (t8.heap.size ≤ t9.heap.size) := bt9.size
  clear B0_t8 B3_t8 B9_t8 bt9
  have hmk := KCl.markc t9 xk.heap.size ng0 ng1 ng2 ng3 ng4 ng5 N Pg 1 (by omega) (by omega) zN.out tN.out (Og.out.later B9_t9.out)
  have HH : Hid (∀ X, KCl.Rd X ng0 ng1 ng2 ng3 ng4 ng5 (mkC N 1) → Calls Tryz.prog 15 #[.agg #[.int .i64 N.config, .int .i64 N.clock, .slice ng0 N.places.length ng1, .slice ng2 N.machines.length ng3, .slice ng4 N.txs.length ng5, .bool N.lost], .int .i64 1] X fun e w' => e = .returned (.int .i64 (endC N 1)) ∧ Below X.heap.size X w') := fun X hX => KCl.held X ng0 ng1 ng2 ng3 ng4 ng5 N 1 (by omega) (by omega) zN.out tN.out hX
  obtain ⟨G, hG⟩ : ∃ z, z = (endC N 1) := ⟨_, rfl⟩
  rw [← hG] at hmk HH
  have dG : decide (G < 0) = false := by
    rw [hG]
    unfold endC
    simp
    omega
  have dH : (G != G) = false := by simp
  clear hG
  have hbx := (Fg.out.later B9_t9.out)
  have g0 := hbx.1 0 _ rfl
  have g1 := hbx.1 1 _ rfl
  have g2 := hbx.1 2 _ rfl
  have g3 := hbx.1 3 _ rfl
  have g4 := hbx.1 4 _ rfl
  have g5 := hbx.1 5 _ rfl
  clear hbx
  go_wp2_with fail
  refine hmk.mono ?_
  clear hmk g0 g1 g2 g3 g4 g5
  rintro e t10 ⟨rfl, kp, om⟩
  have B0_t10 : Hid (Below U0.heap.size U0 t10) := bkept B0_t9.out kp (fun q hq => by have := ZU.out; have := Zs1.out; have := Zt2.out; have := Lw.out; have := Zvw.out; have := Lxk.out; have := Mxk.out; have := Zxk.out; have := Lg.out; have := Zvg.out; have := Zt6.out; have := Zt7.out; have := Zt8.out; have := Zt9.out; have := (Og.out.of hq).1; omega)
  have B3_t10 : Hid (Below vw.heap.size vw t10) := bkept B3_t9.out kp (fun q hq => by have := ZU.out; have := Zs1.out; have := Zt2.out; have := Lw.out; have := Zvw.out; have := Lxk.out; have := Mxk.out; have := Zxk.out; have := Lg.out; have := Zvg.out; have := Zt6.out; have := Zt7.out; have := Zt8.out; have := Zt9.out; have := (Og.out.of hq).1; omega)
  have Fg : Hid (Bx t10 t5.heap.size [.int .i64 N.config, .int .i64 N.clock, .slice ng0 N.places.length ng1, .slice ng2 N.machines.length ng3, .slice ng4 N.txs.length ng5, .bool N.lost]) := (Fg.out.later B9_t9.out).of_block (kp.block _ (Fg.out.later B9_t9.out).2.2 (fun e => NEg.out _ e rfl)) kp.size
  have Om := hidOf om
  have Zt10 : Hid (t9.heap.size ≤ t10.heap.size) := kp.size
  clear kp om B9_t9
  have B10_t10 : Hid (Below t10.heap.size t10 t10) := Below.refl _ _
  have hbx := (Fg.out.later B10_t10.out)
  have g0 := hbx.1 0 _ rfl
  have g1 := hbx.1 1 _ rfl
  have g2 := hbx.1 2 _ rfl
  have g3 := hbx.1 3 _ rfl
  have g4 := hbx.1 4 _ rfl
  have g5 := hbx.1 5 _ rfl
  clear hbx
  go_wp2_with fail
  refine (HH.out t10 (Om.out.later B10_t10.out)).mono ?_
  rintro e t11 ⟨rfl, bt11⟩
  clear g0 g1 g2 g3 g4 g5
  have B0_t11 : Hid (Below U0.heap.size U0 t11) := bstep B0_t10.out bt11
  have B3_t11 : Hid (Below vw.heap.size vw t11) := bstep B3_t10.out bt11
  have B10_t11 : Hid (Below t10.heap.size t10 t11) := bstep B10_t10.out bt11
  have Zt11 : Hid (t10.heap.size ≤ t11.heap.size) := bt11.size
  clear B0_t10 B3_t10 B10_t10 bt11
  have hbx := (Fk.out.later B0_t11.out)
  have p0 := hbx.1 0 _ rfl
  have p1 := hbx.1 1 _ rfl
  have p2 := hbx.1 2 _ rfl
  have p3 := hbx.1 3 _ rfl
  have p4 := hbx.1 4 _ rfl
  have p5 := hbx.1 5 _ rfl
  clear hbx
  go_wp2_with fail
  refine (KCl.to t11 yka ykb ykc ykd yke ykf k tk.out (Rk.out.later B0_t11.out)).mono ?_
  rintro e t12 ⟨yka2, ykb2, ykc2, ykd2, yke2, ykf2, _, rfl, oT, bt12⟩
  have rbk := hidOf oT.sl
  clear oT p0 p1 p2 p3 p4 p5
  have B0_t12 : Hid (Below U0.heap.size U0 t12) := bstep B0_t11.out bt12
  have B3_t12 : Hid (Below vw.heap.size vw t12) := bstep B3_t11.out bt12
  have B10_t12 : Hid (Below t10.heap.size t10 t12) := bstep B10_t11.out bt12
  have Zt12 : Hid (t11.heap.size ≤ t12.heap.size) := bt12.size
  clear B0_t11 B3_t11 B10_t11 bt12
  go_wp2_with fail
  refine (A2.out t12 yka2 ykb2 ykc2 ykd2 yke2 ykf2 rbk.out ((HGw.out.later Bw.out).later B0_t12.out)).mono ?_
  rintro e t13 ⟨nh0, nh1, nh2, nh3, nh4, nh5, Ph, rfl, oh, bt13⟩
  clear rbk
  obtain ⟨vh, hvh⟩ : ∃ X, X = t13.alloc (.cells #[.int .i64 N.config, .int .i64 N.clock, .slice nh0 N.places.length nh1, .slice nh2 N.machines.length nh3, .slice nh4 N.txs.length nh5, .bool N.lost] 32) := ⟨_, rfl⟩
  have bvh : Below t13.heap.size t13 vh := by rw [hvh]; exact (Below.refl _ _).alloc (Nat.le_refl _) _
  have Fh : Hid (Bx vh t13.heap.size [.int .i64 N.config, .int .i64 N.clock, .slice nh0 N.places.length nh1, .slice nh2 N.machines.length nh3, .slice nh4 N.txs.length nh5, .bool N.lost]) := by rw [hvh]; exact Bx.made t13 [.int .i64 N.config, .int .i64 N.clock, .slice nh0 N.places.length nh1, .slice nh2 N.machines.length nh3, .slice nh4 N.txs.length nh5, .bool N.lost] _
  have Oh : Hid (KCl.Ow vh t12.heap.size nh0 nh1 nh2 nh3 nh4 nh5 N Ph) := oh.later bvh
  have NEh : Hid (∀ x, Ph x → x ≠ t13.heap.size) := fun x hx => by have := (oh.of hx).2; omega
  obtain ⟨qh, hqh⟩ : ∃ q, q = t13.heap.size := ⟨_, rfl⟩
  have bb : Below t12.heap.size t12 vh := bstep bt13 bvh
  have Lh : Hid (t12.heap.size ≤ t13.heap.size) := bt13.size
  clear oh bt13 bvh hqh qh
  have B0_vh : Hid (Below U0.heap.size U0 vh) := bstep B0_t12.out bb
  have B3_vh : Hid (Below vw.heap.size vw vh) := bstep B3_t12.out bb
  have B10_vh : Hid (Below t10.heap.size t10 vh) := bstep B10_t12.out bb
  have Zvh : Hid (t12.heap.size ≤ vh.heap.size) := bb.size
  clear B0_t12 B3_t12 B10_t12 bb
  have B11_vh : Hid (Below vh.heap.size vh vh) := Below.refl _ _
  have hbx := (Fh.out.later B11_vh.out)
  have g0 := hbx.1 0 _ rfl
  have g1 := hbx.1 1 _ rfl
  have g2 := hbx.1 2 _ rfl
  have g3 := hbx.1 3 _ rfl
  have g4 := hbx.1 4 _ rfl
  have g5 := hbx.1 5 _ rfl
  clear hbx
  have hbx := (Fw.out.later B3_vh.out)
  have y0 := hbx.1 0 _ rfl
  have y1 := hbx.1 1 _ rfl
  have y2 := hbx.1 2 _ rfl
  have y3 := hbx.1 3 _ rfl
  have y4 := hbx.1 4 _ rfl
  have y5 := hbx.1 5 _ rfl
  clear hbx
  rw [hvh] at g0 g1 g2 g3 g4 g5 y0 y1 y2 y3 y4 y5
  go_wp2_with fail
  rw [← hvh]
  clear hvh
  refine (KCl.eq vh nh0 nh1 nh2 nh3 nh4 nh5 nw0 nw1 nw2 nw3 nw4 nw5 N tN.out (Oh.out.sl.later B11_vh.out) (Ow.out.sl.later B3_vh.out)).mono ?_
  rintro e t14 ⟨rfl, bt14⟩
  clear g0 g1 g2 g3 g4 g5 y0 y1 y2 y3 y4 y5
  have B0_t14 : Hid (Below U0.heap.size U0 t14) := bstep B0_vh.out bt14
  have B3_t14 : Hid (Below vw.heap.size vw t14) := bstep B3_vh.out bt14
  have B10_t14 : Hid (Below t10.heap.size t10 t14) := bstep B10_vh.out bt14
  have B11_t14 : Hid (Below vh.heap.size vh t14) := bstep B11_vh.out bt14
  have Zt14 : Hid (vh.heap.size ≤ t14.heap.size) := bt14.size
  clear B0_vh B3_vh B10_vh B11_vh bt14
  have hbx := (Fg.out.later B10_t14.out)
  have g0 := hbx.1 0 _ rfl
  have g1 := hbx.1 1 _ rfl
  have g2 := hbx.1 2 _ rfl
  have g3 := hbx.1 3 _ rfl
  have g4 := hbx.1 4 _ rfl
  have g5 := hbx.1 5 _ rfl
  clear hbx
  go_wp2_with fail
  refine (HH.out t14 (Om.out.later B10_t14.out)).mono ?_
  rintro e t15 ⟨rfl, bt15⟩
  clear g0 g1 g2 g3 g4 g5
  have B0_t15 : Hid (Below U0.heap.size U0 t15) := bstep B0_t14.out bt15
  have B3_t15 : Hid (Below vw.heap.size vw t15) := bstep B3_t14.out bt15
  have B10_t15 : Hid (Below t10.heap.size t10 t15) := bstep B10_t14.out bt15
  have B11_t15 : Hid (Below vh.heap.size vh t15) := bstep B11_t14.out bt15
  have Zt15 : Hid (t14.heap.size ≤ t15.heap.size) := bt15.size
  clear B0_t14 B3_t14 B10_t14 B11_t14 bt15
  go_wp2
  go_ret
  exact ⟨rfl, bstep Bw.out B0_t15.out⟩
set_option maxHeartbeats 2000000 in
theorem walk_great0 (w : World) (yka : Option Addr) (ykb : Nat) (ykc : Option Addr) (ykd : Nat) (yke : Option Addr) (ykf : Nat) (k : C6) (y : Int) (lk : KCl.L k) (hk : KCl.Rd w yka ykb ykc ykd yke ykf k) (_ : HG w) (hg : ¬ szC k ≤ 1048576) :
    Calls Tryz.prog 8 #[.agg #[.int .i64 k.config, .int .i64 k.clock, .slice yka k.places.length ykb, .slice ykc k.machines.length ykd, .slice yke k.txs.length ykf, .bool k.lost], .int .i64 y] w fun e w' => e = .returned (.bool true) ∧ Below w.heap.size w w' := by
  obtain ⟨U0, hU0⟩ : ∃ X, X = w.alloc (.cells #[.int .i64 k.config, .int .i64 k.clock, .slice yka k.places.length ykb, .slice ykc k.machines.length ykd, .slice yke k.txs.length ykf, .bool k.lost] 26) := ⟨_, rfl⟩
  have bU0 : Below w.heap.size w U0 := by rw [hU0]; exact (Below.refl _ _).alloc (Nat.le_refl _) _
  have xU0 : Bx U0 w.heap.size [.int .i64 k.config, .int .i64 k.clock, .slice yka k.places.length ykb, .slice ykc k.machines.length ykd, .slice yke k.txs.length ykf, .bool k.lost] := by rw [hU0]; exact Bx.made w [.int .i64 k.config, .int .i64 k.clock, .slice yka k.places.length ykb, .slice ykc k.machines.length ykd, .slice yke k.txs.length ykf, .bool k.lost] _
  have zU0 : U0.heap.size = w.heap.size + 1 := by rw [hU0]; simp
  have Fk : Hid (Bx U0 w.heap.size [.int .i64 k.config, .int .i64 k.clock, .slice yka k.places.length ykb, .slice ykc k.machines.length ykd, .slice yke k.txs.length ykf, .bool k.lost]) := xU0
  have Rk : Hid (KCl.Rd U0 yka ykb ykc ykd yke ykf k) := (hk).later bU0
  have Bw : Hid (Below w.heap.size w U0) := bU0
  have ZU : Hid (U0.heap.size = w.heap.size + 1) := by unfold Hid; omega
  clear bU0 xU0 zU0 hk
  have B0_U0 : Hid (Below U0.heap.size U0 U0) := Below.refl _ _
  go_enter Tryz.func8, Tryz.ntmps8
  have hbx := (Fk.out.later B0_U0.out)
  have p0 := hbx.1 0 _ rfl
  have p1 := hbx.1 1 _ rfl
  have p2 := hbx.1 2 _ rfl
  have p3 := hbx.1 3 _ rfl
  have p4 := hbx.1 4 _ rfl
  have p5 := hbx.1 5 _ rfl
  clear hbx
  rw [hU0] at p0 p1 p2 p3 p4 p5
  go_wp2_with fail
  rw [← hU0]
  clear hU0
  refine (KCl.sz U0 yka ykb ykc ykd yke ykf k lk (Rk.out.later B0_U0.out)).mono ?_
  rw [leftR_no (by omega)]
  rintro e s1 ⟨rfl, bs1⟩
  clear p0 p1 p2 p3 p4 p5
  have B0_s1 : Hid (Below U0.heap.size U0 s1) := bstep B0_U0.out bs1
  have Zs1 : Hid (U0.heap.size ≤ s1.heap.size) := bs1.size
  clear B0_U0 bs1
  go_wp2
  go_ret
  exact ⟨rfl, bstep Bw.out B0_s1.out⟩
theorem walk (w : World) (yka : Option Addr) (ykb : Nat) (ykc : Option Addr) (ykd : Nat) (yke : Option Addr) (ykf : Nat) (k : C6) (y : Int) (lk : KCl.L k) (hk : KCl.Rd w yka ykb ykc ykd yke ykf k) (hG0 : HG w) :
    Calls Tryz.prog 8 #[.agg #[.int .i64 k.config, .int .i64 k.clock, .slice yka k.places.length ykb, .slice ykc k.machines.length ykd, .slice yke k.txs.length ykf, .bool k.lost], .int .i64 y] w fun e w' => e = .returned (.bool true) ∧ Below w.heap.size w w' := by
  by_cases g0 : szC k ≤ 1048576
  case neg => exact walk_great0 w yka ykb ykc ykd yke ykf k y lk hk hG0 g0
  exact walk_small w yka ykb ykc ykd yke ykf k y lk hk hG0 g0
theorem etG : Tryz.prog.globalNamed "errors.errorType" = some 0 := by kernel_rfl
theorem rtT : (Tryz.prog.cutTypes.find? (·.1 == "internal/reflectlite.rtype")).map (·.2) = some 278 := by kernel_rfl
theorem oneRow : ((List.range 370).filter fun t => Tryz.prog.rowNamed t [101, 114, 114, 111, 114]) = [155] := by kernel_rfl
theorem sizeT : Tryz.prog.types.size = 370 := by kernel_rfl
theorem handle_of_laid {W : World} (h : laidMetH Tryz.prog Rows.fnExactCommitRow.laid W) : HG W := by
  have h' : laidMet Tryz.prog [] W ∧ handlesMet Tryz.prog Rows.fnExactCommitRow.laid W := h
  obtain ⟨name, u, ty, e1, e2, e3, e4, e5⟩ := h'.2 _ (List.mem_singleton.2 rfl)
  have en : name = [101, 114, 114, 111, 114] := (Option.some.inj e1).symm
  subst en
  obtain rfl := Option.some.inj (rtT.symm.trans e2)
  have hm : ty ∈ (List.range 370).filter fun t => Tryz.prog.rowNamed t [101, 114, 114, 111, 114] := List.mem_filter.2 ⟨List.mem_range.2 (by rw [← sizeT]; exact e3), e4⟩
  rw [oneRow] at hm
  obtain rfl := List.mem_singleton.1 hm
  have hh : typeHandle Tryz.prog 155 = .pointer (some ⟨1, 155, none⟩) := by kernel_rfl
  rw [hh] at e5
  simpa [HG] using World.var?_cell etG e5 0
noncomputable def laidWorld (os : Os) : World :=
  let w0 := World.holding Tryz.prog os ⟨#[], #[], []⟩
  { w0 with heap := w0.heap.modify 0 fun
      | .cells _ t frozen => .cells #[.iface 278 (.agg #[.pointer (some ⟨1, 155, none⟩)])] t frozen
      | o => o }
theorem laidWorld_met (os : Os) (args : Array Value) : laidMetH Tryz.prog Rows.fnExactCommitRow.laid ((laidWorld os).forCall (fun _ _ => 0) ⟨#[], args, []⟩).memory :=
  laidMetH_of_parts (laidMet_nil _ _) (by kernel_rfl)
set_option maxRecDepth 100000 in
theorem lifted (os : Os) (started : os.Started) (H : Type) (enc : TypeId × Value → H) :
    ReturnsInHanded {} Tryz.checked os 8 .any (fun w args => (Rows.fnExactCommitSpec.pre enc Tryz.prog Tryz.f8 [] false w args ∧ laidMetH Tryz.prog Rows.fnExactCommitRow.laid w) ∧ sizedMet enc Tryz.prog Tryz.f8 (OpenSpec.ofChange Rows.fnExactCommitSpec) false w args)
      (Rows.fnExactCommitSpec.post enc Tryz.prog Tryz.f8 false true false false) := by
  refine returnsInHanded_of_change_and (C := Tryz.checked) (X := fun w _ => laidMetH Tryz.prog Rows.fnExactCommitRow.laid w) (fun _ _ _ hh h => h.of_heap hh) own started (by kernel_rfl) Tryz.func8
    (ChangeSpec.witness_at (enc := enc) (C := Tryz.checked) (os := os) (X := fun w _ => laidMetH Tryz.prog Rows.fnExactCommitRow.laid w) false (laidWorld os) #[.agg #[.int .i64 0, .int .i64 0, .slice none 0 0, .slice none 0 0, .slice none 0 0, .bool false], .int .i64 0] 8 rfl (by kernel_rfl) (by kernel_rfl) (by kernel_rfl) (by kernel_rfl) (by kernel_rfl) (laidWorld_met os _)) ?_
  intro W base args ds gs before hval0 hW _ _ hL _
  have hval : ∀ (j : Nat) t v, Tryz.f8.params[j]? = some t → args[j]? = some v → Value.okWide Tryz.prog W .any base t v := hval0
  have hW' := hW
  obtain ⟨p, q, hA0, hV, rfl, hfz, hnd⟩ := hW
  have hA : DataW.TrodAll enc Tryz.prog W 0 (fun _ => true) true Tryz.f8.params.toList args.toList ds p := hA0
  rw [Tryz.params8] at hA hval
  obtain ⟨v0, vs0, d0, ds0, p0, q0, hargs, rfl, rfl, h0, r0⟩ := trodAll_cons hA
  obtain ⟨v1, vs1, d1, ds1, p1, q1, rfl, rfl, rfl, h1, r1⟩ := trodAll_cons r0
  obtain ⟨rfl, rfl, rfl⟩ := trodAll_nil r1
  obtain rfl : args = #[v0, v1] := by cases args; simp_all
  obtain ⟨rfl, rfl⟩ := trodVars_none hV
  obtain ⟨cs0, rfl, hcs0⟩ := okWide_struct Tryz.underlying26 (hval 0 26 v0 rfl rfl)
  have k0 := h0
  have lt0 : ∀ x ∈ p0, x.block < W.heap.size := by obtain ⟨n, hn⟩ := k0; exact DataW.trod_lt n _ _ _ hn
  obtain ⟨yka, ykb, ykc, ykd, yke, ykf, k, rfl, hk, lk⟩ : ∃ (a1 : Option Addr) (c1 : Nat) (a2 : Option Addr) (c2 : Nat) (a3 : Option Addr) (c3 : Nat) (m : C6), cs0 = #[.int .i64 m.config, .int .i64 m.clock, .slice a1 m.places.length c1, .slice a2 m.machines.length c2, .slice a3 m.txs.length c3, .bool m.lost] ∧ KCl.Rd W a1 c1 a2 c2 a3 c3 m ∧ KCl.L m := by
    obtain ⟨fuel, hf⟩ := h0
    obtain ⟨a1, c1, a2, c2, a3, c3, m, e, hs, hl⟩ := oc.open_cluster hf
    exact ⟨a1, c1, a2, c2, a3, c3, m, by cases cs0; simpa [Value.cells] using e, hs, hl⟩
  obtain ⟨y, rfl, rfl, rfl, w1⟩ := open_int Tryz.underlying2 (hval 1 2 v1 rfl rfl) h1
  clear hA0 hval0
  refine (walk W yka ykb ykc ykd yke ykf k y lk hk (handle_of_laid hL)).mono fun e W' ⟨he, bel⟩ => ?_
  subst he
  exact ⟨_, rfl, _, _, _, [], _, [], hW', trodAll_mk1 (shut_bool Tryz.underlying4 _), (trodAll_cons_mk (Below.trod laidOut (by kernel_rfl) (of_decide_eq_true (by kernel_rfl)) k0 bel lt0) (trodAll_cons_mk (shut_int Tryz.underlying2 w1) trodAll_mk0)), rfl, bel.frame _, fun h => by cases h⟩
end Go.Proofs.YtnhjgomfkfehgaaGreatDoor.fnExactCommit