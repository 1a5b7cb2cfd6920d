/- NumHeld; PlsMa; PlsQ; PlsM: joined. -/
import Derived.Test.YtcbfnajpcaipkaaRows
import Derived.Test.YtcbfnajpcaipkaaJ2ExactNewCluster
import Derived.WalkKit
import Derived.WalkSpells
import Derived.WalkLawsBesides
import Derived.Below
import Derived.Test.YtcbfnajpcaipkaaJ16ExactNewCluster
namespace Go.Proofs.Ytcbfnajpcaipkaa
open Go.RowKit
set_option maxHeartbeats 1000000 in
theorem heldInt64S_any (w : World) (a : Option Addr) (n cap : Nat) (k : Int) (hn : n ≤ 1048576) (hk : 0 ≤ k) (hk' : k ≤ 1000000000) (hs : SlN w w.heap.size a n (marks n k)) :
    Calls Try.prog 51 #[.slice a n cap, .int .i64 k] w fun e w' => e = .returned (.int .i64 (k + n)) ∧ w' = w := by
  obtain ⟨_, hs⟩ := hs
  go_enter Try.func51, Try.ntmps51
  go_wp2
  go_loop [1, 5] (fun v1 v5 => ∃ j : Nat, j ≤ n ∧ v5 = .int .i64 j ∧ v1 = .int .i64 (k + j)) (fun _ v5 => n - (intOf v5).toNat)
  case atStart => exact ⟨0, Nat.zero_le _, rfl, by simp⟩
  case round =>
    obtain ⟨j, hj, rfl, rfl⟩ := hrel
    by_cases hlt : j < n
    · rcases hs with hs | ⟨b, off, rfl, hb, h1⟩
      · omega
      · have c := h1 j _ (marks_at n k j hlt)
        have hq : (k + (j : Int) != k + (j : Int)) = false := by simp
        clear h1
        go_wp2
        exact ⟨⟨j + 1, by omega, by simp, by simp; omega⟩, by simp [intOf]; omega⟩
    · have : j = n := by omega
      subst this
      have hd : decide ((j : Int) < (j : Int)) = false := by simp
      clear hs
      go_wp2
      go_ret
      exact ⟨by simp, rfl⟩
def markAt (zss : List (List Int)) (k : Int) (i : Nat) : List Int := marks (atP zss i).length (k + lens (zss.take i))
def markPs (zss : List (List Int)) (k : Int) : List (List Int) := (List.range zss.length).map (markAt zss k)
theorem markPs_len (zss : List (List Int)) (k : Int) : (markPs zss k).length = zss.length := by simp [markPs]
theorem markPs_at {zss : List (List Int)} {k : Int} {i : Nat} {zs : List Int} (h : (markPs zss k)[i]? = some zs) : i < zss.length ∧ zs = markAt zss k i := by
  have hi : i < zss.length := by have := (List.getElem?_eq_some_iff.1 h).1; rw [markPs_len] at this; exact this
  refine ⟨hi, ?_⟩
  simp [markPs, hi] at h
  exact h.symm
theorem markAt_len (zss : List (List Int)) (k : Int) (i : Nat) : (markAt zss k i).length = (atP zss i).length := by rw [markAt, marks_len]
structure Kept (g : Nat → Nat) (n : Nat) (w w' : World) : Prop where
  os : w'.os = w.os
  tape : w'.tape = w.tape
  output : w'.output = w.output
  size : w'.heap.size = w.heap.size
  block : ∀ q, (∀ i, i < n → q ≠ g i) → w'.heap[q]? = w.heap[q]?
theorem Kept.refl (g : Nat → Nat) (n : Nat) (w : World) : Kept g n w w := ⟨rfl, rfl, rfl, rfl, fun _ _ => rfl⟩
theorem Kept.only {g : Nat → Nat} {n i : Nat} {a w w' : World} (h : Kept g n a w) (hi : i < n) (ho : OnlyBlock (g i) w w') : Kept g n a w' :=
  ⟨ho.os.trans h.os, ho.tape.trans h.tape, ho.output.trans h.output, ho.size.trans h.size, fun q hq => (ho.block q (hq i hi)).trans (h.block q hq)⟩
theorem Kept.below {g : Nat → Nat} {n B : Nat} {w w' : World} (h : Kept g n w w') (hg : ∀ i, i < n → B ≤ g i) : Below B w w' :=
  ⟨h.os, h.tape, h.output, Nat.le_of_eq h.size.symm, fun k hk => h.block k (fun i hi e => by have := hg i hi; omega)⟩
set_option maxHeartbeats 2000000 in
theorem markPlaceS_own (w : World) (base b n cap : Nat) (zss : List (List Int)) (g : Nat → Nat) (k : Int) (hn : n ≤ 1048576) (hl : lens zss ≤ 1048576) (hk : 0 ≤ k) (hk' : k ≤ 100000000) (h : OwnP w base b n zss g) :
    Calls Try.prog 20 #[.slice (some ⟨b, 0, none⟩) n cap, .int .i64 k] w fun e w' => e = .returned (.int .i64 (k + lens zss)) ∧ Kept g n w w' ∧ OwnP w' base b n (markPs zss k) g := by
  have hlen := h.len
  have HO : Hid (OwnP w base b n zss g) := h
  clear h
  go_enter Try.func20, Try.ntmps20
  go_wp2
  go_loopw [1, 5] (fun v1 v5 wr => ∃ j : Nat, j ≤ n ∧ v5 = .int .i64 j ∧ v1 = .int .i64 (k + lens (zss.take j)) ∧ Kept g n w wr ∧ (∀ i, i < j → NumsAt wr (g i) 0 (markAt zss k i)) ∧ (∀ i, i < n → Room wr (g i) (atP zss i).length)) (fun _ v5 _ => n - (intOf v5).toNat)
  case atStart => exact ⟨0, Nat.zero_le _, rfl, by simp [lens], Kept.refl _ _ _, fun i hi => by omega, fun i hi => HO.out.room i _ (atP_of (by omega))⟩
  case round =>
    obtain ⟨j, hj, rfl, rfl, hkp, hnu, hro⟩ := hrel
    have hle := lens_take_le zss j
    by_cases hlt : j < n
    · obtain ⟨cp, hc, _⟩ := HO.out.cell j _ (atP_of (by omega))
      have c := (World.cell?_of_block (a := ⟨b, j, none⟩) (hkp.block b (fun i hi e => HO.out.ne i hi e.symm))).trans hc
      have hst := lens_take_succ (zss := zss) (j := j) (by omega)
      have hle' := lens_take_le zss (j + 1)
      have hcl := markInt64S_own wr (g j) (atP zss j).length cp (k + lens (zss.take j)) (by omega) (by omega) (by omega) (hro j hlt)
      have K : Hid (Kept g n w wr ∧ (∀ i, i < j → NumsAt wr (g i) 0 (markAt zss k i)) ∧ (∀ i, i < n → Room wr (g i) (atP zss i).length)) := ⟨hkp, hnu, hro⟩
      clear hkp hnu hro hc
      go_wp2_with fail
      refine hcl.mono ?_
      clear hcl
      rintro e w1 ⟨rfl, ho, hn1, hr1⟩
      have K1 : Hid (OnlyBlock (g j) wr w1 ∧ NumsAt w1 (g j) 0 (markAt zss k j) ∧ Room w1 (g j) (atP zss j).length) := ⟨ho, hn1, hr1⟩
      clear ho hn1 hr1
      go_wp2
      obtain ⟨hkp, hnu, hro⟩ := K.out
      obtain ⟨ho, hn1, hr1⟩ := K1.out
      refine ⟨⟨j + 1, by omega, by simp, by rw [hst]; simp; omega, hkp.only hlt ho, fun i hi => ?_, fun i hi => ?_⟩, by simp [intOf]; omega⟩
      · by_cases e : i = j
        · subst e; exact hn1
        · exact (hnu i (by omega)).of_block (ho.block _ (fun e' => e (HO.out.inj i j (by omega) hlt e')))
      · by_cases e : i = j
        · subst e; exact hr1
        · exact (hro i hi).of_block (ho.block _ (fun e' => e (HO.out.inj i j hi hlt e')))
    · have : j = n := by omega
      subst this
      have hd : decide ((j : Int) < (j : Int)) = false := by simp
      rw [show zss.take j = zss from List.take_of_length_le (by omega)]
      have K : Hid (Kept g j w wr ∧ (∀ i, i < j → NumsAt wr (g i) 0 (markAt zss k i)) ∧ (∀ i, i < j → Room wr (g i) (atP zss i).length)) := ⟨hkp, hnu, hro⟩
      clear hkp hnu hro hle
      go_wp2
      go_ret
      obtain ⟨hkp, hnu, hro⟩ := K.out
      refine ⟨rfl, hkp, ⟨by rw [markPs_len]; exact hlen, fun i zs e => ?_, HO.out.low, fun i hi => by rw [hkp.size]; exact HO.out.lt i hi, HO.out.ne, fun i zs e => ?_, fun i zs e => ?_, HO.out.inj⟩⟩
      · obtain ⟨hi, rfl⟩ := markPs_at e
        obtain ⟨cp, hc, hcp⟩ := HO.out.cell i _ (atP_of hi)
        exact ⟨cp, by rw [markAt_len]; exact (World.cell?_of_block (a := ⟨b, i, none⟩) (hkp.block b (fun i hi e => HO.out.ne i hi e.symm))).trans hc, by rw [markAt_len]; exact hcp⟩
      · obtain ⟨hi, rfl⟩ := markPs_at e
        exact hnu i (by omega)
      · obtain ⟨hi, rfl⟩ := markPs_at e
        rw [markAt_len]; exact hro i (by omega)
theorem markPlaceS_nil (w : World) (cap : Nat) (k : Int) : Calls Try.prog 20 #[.slice none 0 cap, .int .i64 k] w fun e w' => e = .returned (.int .i64 k) ∧ w' = w := by
  go_enter Try.func20, Try.ntmps20
  go_wp2
  go_loop [1, 5] (fun v1 v5 => v5 = .int .i64 0 ∧ v1 = .int .i64 k) (fun _ _ => 0)
  case atStart => exact ⟨rfl, rfl⟩
  case round =>
    obtain ⟨rfl, rfl⟩ := hrel
    go_wp2
    go_ret
    exact ⟨rfl, rfl⟩
theorem markPlaceS_q (w : World) (base : Nat) (a : Option Addr) (n cap : Nat) (zss : List (List Int)) (g : Nat → Nat) (k : Int) (hn : n ≤ 1048576) (hl : lens zss ≤ 1048576) (hk : 0 ≤ k) (hk' : k ≤ 100000000) (h : OwnQ w base a n zss g) :
    Calls Try.prog 20 #[.slice a n cap, .int .i64 k] w fun e w' => e = .returned (.int .i64 (k + lens zss)) ∧ Kept g n w w' ∧ OwnQ w' base a n (markPs zss k) g := by
  rcases h with ⟨rfl, rfl, rfl⟩ | ⟨b, rfl, hb1, hb2, ho⟩
  · refine (markPlaceS_nil w cap k).mono ?_
    rintro e w' ⟨rfl, rfl⟩
    exact ⟨by simp [lens], Kept.refl _ _ _, .inl ⟨rfl, rfl, rfl⟩⟩
  · refine (markPlaceS_own w base b n cap zss g k hn hl hk hk' ho).mono ?_
    rintro e w' ⟨rfl, kp, o⟩
    exact ⟨rfl, kp, .inr ⟨b, rfl, hb1, by rw [kp.size]; exact hb2, o⟩⟩
set_option maxHeartbeats 2000000 in
theorem heldPlaceS_any (w : World) (a : Option Addr) (n cap : Nat) (zss : List (List Int)) (k : Int) (hn : n ≤ 1048576) (hl : lens zss ≤ 1048576) (hk : 0 ≤ k) (hk' : k ≤ 100000000) (hs : SlP w w.heap.size a n (markPs zss k)) :
    Calls Try.prog 21 #[.slice a n cap, .int .i64 k] w fun e w' => e = .returned (.int .i64 (k + lens zss)) ∧ w' = w := by
  obtain ⟨hx, hs⟩ := hs
  rw [markPs_len] at hx
  go_enter Try.func21, Try.ntmps21
  go_wp2
  go_loop [1, 5] (fun v1 v5 => ∃ j : Nat, j ≤ n ∧ v5 = .int .i64 j ∧ v1 = .int .i64 (k + lens (zss.take j))) (fun _ v5 => n - (intOf v5).toNat)
  case atStart => exact ⟨0, Nat.zero_le _, rfl, by simp [lens]⟩
  case round =>
    obtain ⟨j, hj, rfl, rfl⟩ := hrel
    have hle := lens_take_le zss j
    by_cases hlt : j < n
    · rcases hs with hs | ⟨b, off, rfl, hb, h1⟩
      · omega
      · have hm : (markPs zss k)[j]? = some (markAt zss k j) := by simp [markPs, show j < zss.length by omega]
        obtain ⟨a', cp, c, hsl, _⟩ := h1 j _ hm
        rw [markAt_len] at c hsl
        have hst := lens_take_succ (zss := zss) (j := j) (by omega)
        have hle' := lens_take_le zss (j + 1)
        have hcl := heldInt64S_any w a' (atP zss j).length cp (k + lens (zss.take j)) (by omega) (by omega) (by omega) hsl
        have d0 : decide (k + (lens (zss.take j) : Int) + ((atP zss j).length : Int) < 0) = false := by simp; omega
        clear h1 hm hsl
        go_wp2_with fail
        refine hcl.mono ?_
        clear hcl
        rintro e w1 ⟨rfl, rfl⟩
        go_wp2
        exact ⟨⟨j + 1, by omega, by simp, by rw [hst]; simp; omega⟩, by simp [intOf]; omega⟩
    · have : j = n := by omega
      subst this
      have hd : decide ((j : Int) < (j : Int)) = false := by simp
      rw [show zss.take j = zss from List.take_of_length_le (by omega)]
      clear hs hle
      go_wp2
      go_ret
      exact ⟨rfl, rfl⟩
end Go.Proofs.Ytcbfnajpcaipkaa