/- KdTm; NumHeld; PlsMa; PlsQ: joined. -/
import Derived.Test.YtalmflikdnflfaaGreatRows
import Derived.Test.YtalmflikdnflfaaGreatKdMmJ
import Derived.Test.YtalmflikdnflfaaGreatJ20ExactFind
import Derived.WalkKit
import Derived.WalkSpells
import Derived.WalkLawsBesides
import Derived.Below
import Derived.Lib.QuietBelow
import Derived.BigQuiet
import Derived.Deep.CutRange
import Derived.Test.YtalmflikdnflfaaGreatJ4ExactFind
import Derived.Test.YtalmflikdnflfaaGreatJ22ExactFind
/- Rows of transactions marked: nothing else is turned. -/
namespace Go.Proofs.YtalmflikdnflfaaGreat
open Go.RowKit
open Go.Sort (grow)
theorem kp_of {P : Nat → Prop} {a b : World} (h : tx.KeptP P a b) : KeptP P a b := ⟨h.os, h.tape, h.output, h.size, h.block⟩
/-- What marking a transaction in a row counts. -/
def cT (t : tx.T7) : Nat := 5 + (5 * t.reads.length + 5 * t.sets.length)
/-- A transaction in a row under way. -/
structure TRow (w X : World) (B b : Nat) (ts : List tx.T7) (g : Nat → Nat → Prop) (P : Nat → Prop) (j : Nat) (a2 : Option Addr) (c2 : Nat) (PS : Nat → Prop) : Prop where
  s : tx.OwnSe X PS a2 (atT ts j).sets
  e5 : X.cell? ⟨b, j * 7 + 5, none⟩ = some (.slice a2 (atT ts j).sets.length c2)
  rest : KTk.Rest X B b ts.length ts g (j + 1)
  kp : KeptP P w X
  lt : b < X.heap.size
set_option maxRecDepth 100000 in
set_option maxHeartbeats 4000000 in
theorem markTs (w : World) (B b cap : Nat) (ts : List tx.T7) (g : Nat → Nat → Prop) (P : Nat → Prop) (k : Int) (hk : 0 ≤ k) (hk' : k + (offG cT ts ts.length : Int) ≤ 100000000) (hn : ts.length ≤ 1048576) (ht : ∀ t ∈ ts, KT.S t) (hb : b < w.heap.size) (hPb : P b) (hPg : ∀ i q, i < ts.length → g i q → P q) (h : KTk.Part w B b ts.length ts g) :
    Calls Tryz.prog 58 #[.slice (some ⟨b, 0, none⟩) ts.length cap, .int .i64 k] w fun e w' => e = .returned (.int .i64 (k + (offG cT ts ts.length : Int))) ∧ KeptP P w w' := by
  have H : Hid ((∀ t ∈ ts, KT.S t) ∧ b < w.heap.size ∧ P b ∧ (∀ i q, i < ts.length → g i q → P q) ∧ KTk.Part w B b ts.length ts g) := ⟨ht, hb, hPb, hPg, h⟩
  clear ht hb hPb hPg h
  go_enter Tryz.func58, Tryz.ntmps58
  go_wp2
  go_loopw [1, 5] (fun v1 v5 wr => ∃ j : Nat, j ≤ ts.length ∧ v5 = .int .i64 j ∧ v1 = .int .i64 (k + (offG cT ts j : Int)) ∧ KeptP P w wr ∧ KTk.Rest wr B b ts.length ts g j) (fun _ v5 _ => ts.length - (intOf v5).toNat)
  case atStart => exact ⟨0, Nat.zero_le _, rfl, by rw [offG_zero]; simp, KeptP.refl _ _, H.out.2.2.2.2.rest⟩
  case round =>
    obtain ⟨j, hj, rfl, rfl, hkp, hrs⟩ := hrel
    have hb2 := offG_le cT ts j
    by_cases hlt : j < ts.length
    · have hd := atT_of hlt
      obtain ⟨⟨t0, t1, t2, t3⟩, hat, how⟩ := hrs.at_ j _ (Nat.le_refl _) hd
      obtain ⟨PR, PS, om, hsub, hbd⟩ := how
      obtain ⟨z0, d0, f0⟩ : ∃ v, wr.cell? ⟨b, j * 7, none⟩ = some v ∧ wr.frozen? ⟨b, j * 7, none⟩ = false := hrs.rm (j * 7 + 0) (show _ < ts.length * 7 by omega)
      obtain ⟨z1, d1, f1⟩ : ∃ v, wr.cell? ⟨b, j * 7 + 1, none⟩ = some v ∧ wr.frozen? ⟨b, j * 7 + 1, none⟩ = false := hrs.rm (j * 7 + 1) (show _ < ts.length * 7 by omega)
      obtain ⟨z2, d2, f2⟩ : ∃ v, wr.cell? ⟨b, j * 7 + 2, none⟩ = some v ∧ wr.frozen? ⟨b, j * 7 + 2, none⟩ = false := hrs.rm (j * 7 + 2) (show _ < ts.length * 7 by omega)
      obtain ⟨z3, d3, f3⟩ : ∃ v, wr.cell? ⟨b, j * 7 + 3, none⟩ = some v ∧ wr.frozen? ⟨b, j * 7 + 3, none⟩ = false := hrs.rm (j * 7 + 3) (show _ < ts.length * 7 by omega)
      have e4 : wr.cell? ⟨b, j * 7 + 4, none⟩ = some (.slice t0 (atT ts j).reads.length t1) := hat 4 _ rfl
      have e5 : wr.cell? ⟨b, j * 7 + 5, none⟩ = some (.slice t2 (atT ts j).sets.length t3) := hat 5 _ rfl
      have hT := H.out.1 _ (List.mem_of_getElem? hd)
      have hoff : offG cT ts (j + 1) = offG cT ts j + cT (atT ts j) := offG_succ cT hd
      have hle := offG_le cT ts (j + 1)
      have HO : Hid (offG cT ts (j + 1) = offG cT ts j + (5 + (5 * (atT ts j).reads.length + 5 * (atT ts j).sets.length)) ∧ k + (offG cT ts (j + 1) : Int) ≤ 100000000) := ⟨hoff, by omega⟩
      have hnb : ∀ q, g j q → q ≠ b := fun q hq => hrs.ne j q hlt hq
      have bl : b < wr.heap.size := Nat.lt_of_lt_of_le H.out.2.1 hkp.size
      have S1 : Hid (∀ u0 u1 u2 u3 : Value, tx.OwnNo ((((wr.setCell ⟨b, j * 7, none⟩ u0).setCell ⟨b, j * 7 + 1, none⟩ u1).setCell ⟨b, j * 7 + 2, none⟩ u2).setCell ⟨b, j * 7 + 3, none⟩ u3) PR t0 (atT ts j).reads ∧ TRow w ((((wr.setCell ⟨b, j * 7, none⟩ u0).setCell ⟨b, j * 7 + 1, none⟩ u1).setCell ⟨b, j * 7 + 2, none⟩ u2).setCell ⟨b, j * 7 + 3, none⟩ u3) B b ts g P j t2 t3 PS) := fun u0 u1 u2 u3 => by
        have ob : OnlyBlock b wr ((((wr.setCell ⟨b, j * 7, none⟩ u0).setCell ⟨b, j * 7 + 1, none⟩ u1).setCell ⟨b, j * 7 + 2, none⟩ u2).setCell ⟨b, j * 7 + 3, none⟩ u3) := ((((OnlyBlock.refl b wr).setCell _ _).setCell _ _).setCell _ _).setCell _ _
        exact ⟨om.r.keep (Nat.le_of_eq ob.size.symm) (fun q _ hp => ob.block q (hnb q (hsub q (.inl hp)))), om.s.keep (Nat.le_of_eq ob.size.symm) (fun q _ hp => ob.block q (hnb q (hsub q (.inr hp)))),
          (cell_set_other (by omega)).trans ((cell_set_other (by omega)).trans ((cell_set_other (by omega)).trans ((cell_set_other (by omega)).trans e5))), (((hrs.up.set (show j * 7 < (j + 1) * 7 by omega) u0).set (show j * 7 + 1 < (j + 1) * 7 by omega) u1).set (show j * 7 + 2 < (j + 1) * 7 by omega) u2).set (show j * 7 + 3 < (j + 1) * 7 by omega) u3, hkp.trans (KeptP.of_only ob H.out.2.2.1), by rw [ob.size]; exact bl⟩
      have HG : Hid ((∀ q, PR q → g j q) ∧ (∀ q, PS q → g j q) ∧ (∀ q, PR q → ¬ PS q) ∧ (∀ q, g j q → q ≠ b) ∧ (∀ q, g j q → P q)) := ⟨fun q hq => hsub q (.inl hq), fun q hq => hsub q (.inr hq), om.rs, hnb, fun q hq => H.out.2.2.2.1 j q hlt hq⟩
      have S2 : Hid (∀ u0 u1 u2 u3 w1, KeptP PR ((((wr.setCell ⟨b, j * 7, none⟩ u0).setCell ⟨b, j * 7 + 1, none⟩ u1).setCell ⟨b, j * 7 + 2, none⟩ u2).setCell ⟨b, j * 7 + 3, none⟩ u3) w1 → TRow w w1 B b ts g P j t2 t3 PS) := fun u0 u1 u2 u3 w1 k1 => by
        have R0 := (S1.out u0 u1 u2 u3).2
        have hbk := k1.block b R0.lt (fun e => HG.out.2.2.2.1 b (HG.out.1 b e) rfl)
        exact ⟨R0.s.keep k1.size (fun q hq hp => k1.block q hq (fun e => HG.out.2.2.1 q e hp)), (World.cell?_of_block (a := ⟨b, j * 7 + 5, none⟩) hbk).trans R0.e5, R0.rest.kept k1 R0.lt hlt HG.out.1, R0.kp.trans (k1.mono (fun q hq => HG.out.2.2.2.2 q (HG.out.1 q hq))), Nat.lt_of_lt_of_le R0.lt k1.size⟩
      have HT : Hid (KT.S (atT ts j)) := hT
      have jn : (j : Int) < (ts.length : Int) := by omega
      have g0 : 0 ≤ k + (offG cT ts j : Int) := by omega
      have g1 : k + (offG cT ts j : Int) ≤ 100000000 := by omega
      clear hkp hrs hat om hsub hbd hd hoff hle hnb hT bl e5 hb2
      generalize hK : k + (offG cT ts j : Int) = kj at *
      have tr := HT.out.1
      have ts' := HT.out.2
      go_wp2_with fail
      refine (tx.markNo _ PR t0 t1 (atT ts j).reads _ (by omega) (by omega) HT.out.1 (S1.out _ _ _ _).1).mono ?_
      rintro e w1 ⟨rfl, k1, -⟩
      have k1 := kp_of k1
      have R1 : Hid (TRow w w1 B b ts g P j t2 t3 PS) := S2.out _ _ _ _ _ k1
      clear k1 S1 S2 d0 f0 d1 f1 d2 f2 d3 f3 e4
      have e5 := R1.out.e5
      go_wp2_with fail
      refine (tx.markSe w1 PS t2 t3 (atT ts j).sets _ (by omega) (by omega) HT.out.2 R1.out.s).mono ?_
      rintro e w2 ⟨rfl, k2, -⟩
      have k2 := kp_of k2
      have R2 : Hid (KTk.Rest w2 B b ts.length ts g (j + 1) ∧ KeptP P w w2 ∧ b < w2.heap.size) := by
        have R0 := R1.out
        exact ⟨R0.rest.kept k2 R0.lt hlt HG.out.2.1, R0.kp.trans (k2.mono (fun q hq => HG.out.2.2.2.2 q (HG.out.2.1 q hq))), Nat.lt_of_lt_of_le R0.lt k2.size⟩
      clear k2 R1 e5
      obtain ⟨z6, d6, f6⟩ : ∃ v, w2.cell? ⟨b, j * 7 + 6, none⟩ = some v ∧ w2.frozen? ⟨b, j * 7 + 6, none⟩ = false := R2.out.1.rm (j * 7 + 6) (show _ < ts.length * 7 by omega)
      go_wp2
      exact ⟨⟨j + 1, by omega, by simp, by have := HO.out.1; rw [this]; congr 1; omega, R2.out.2.1.trans (KeptP.of_set w2 _ H.out.2.2.1), R2.out.1.set (show j * 7 + 6 < (j + 1) * 7 by omega) _⟩, by simp [intOf]; omega⟩
    · obtain rfl : j = ts.length := by omega
      have hd : decide ((ts.length : Int) < (ts.length : Int)) = false := by simp
      have KH : Hid (KeptP P w wr) := hkp
      clear hkp hrs
      go_wp2
      go_ret
      exact ⟨rfl, KH.out⟩
end Go.Proofs.YtalmflikdnflfaaGreat
/- The laws' marks in rows of numbers, held. -/
namespace Go.Proofs.YtalmflikdnflfaaGreat
open Go.RowKit
set_option maxHeartbeats 1000000 in
/-- Where the marks stand as they were set. -/
theorem heldInt64S_any (w : World) (a : Option Addr) (n cap : Nat) (k : Int) (hn : n ≤ 1048576) (hk : 0 ≤ k) (hk' : k ≤ 1000000000) (hs : SlN w w.heap.size a n (marks n k)) :
    Calls Tryz.prog 27 #[.slice a n cap, .int .i64 k] w fun e w' => e = .returned (.int .i64 (k + n)) ∧ w' = w := by
  obtain ⟨_, hs⟩ := hs
  go_enter Tryz.func27, Tryz.ntmps27
  go_wp2
  go_loop [1, 5] (fun v1 v5 => ∃ j : Nat, j ≤ n ∧ v5 = .int .i64 j ∧ v1 = .int .i64 (k + j)) (fun _ v5 => n - (intOf v5).toNat)
  case atStart => exact ⟨0, Nat.zero_le _, rfl, by simp⟩
  case round =>
    obtain ⟨j, hj, rfl, rfl⟩ := hrel
    by_cases hlt : j < n
    · rcases hs with hs | ⟨b, off, rfl, hb, h1⟩
      · omega
      · have c := h1 j _ (marks_at n k j hlt)
        have hq : (k + (j : Int) != k + (j : Int)) = false := by simp
        clear h1
        go_wp2
        exact ⟨⟨j + 1, by omega, by simp, by simp; omega⟩, by simp [intOf]; omega⟩
    · have : j = n := by omega
      subst this
      have hd : decide ((j : Int) < (j : Int)) = false := by simp
      clear hs
      go_wp2
      go_ret
      exact ⟨by simp, rfl⟩
end Go.Proofs.YtalmflikdnflfaaGreat
/- The laws' marks in Places of a call's own, and that they stand. -/
namespace Go.Proofs.YtalmflikdnflfaaGreat
open Go.RowKit
/-- Row i of Places that were marked from k on. -/
def markAt (zss : List (List Int)) (k : Int) (i : Nat) : List Int := marks (atP zss i).length (k + lens (zss.take i))
def markPs (zss : List (List Int)) (k : Int) : List (List Int) := (List.range zss.length).map (markAt zss k)
theorem markPs_len (zss : List (List Int)) (k : Int) : (markPs zss k).length = zss.length := by simp [markPs]
theorem markPs_at {zss : List (List Int)} {k : Int} {i : Nat} {zs : List Int} (h : (markPs zss k)[i]? = some zs) : i < zss.length ∧ zs = markAt zss k i := by
  have hi : i < zss.length := by have := (List.getElem?_eq_some_iff.1 h).1; rw [markPs_len] at this; exact this
  refine ⟨hi, ?_⟩
  simp [markPs, hi] at h
  exact h.symm
theorem markAt_len (zss : List (List Int)) (k : Int) (i : Nat) : (markAt zss k i).length = (atP zss i).length := by rw [markAt, marks_len]
theorem lens_mark (zss : List (List Int)) (k : Int) : lens (markPs zss k) = lens zss := by
  have : (markPs zss k).map List.length = zss.map List.length := by
    apply List.ext_getElem?
    intro i
    by_cases hi : i < zss.length
    · simp [markPs, hi, markAt_len, atP]
    · rw [List.getElem?_eq_none (by simp [markPs_len]; omega), List.getElem?_eq_none (by simp; omega)]
  rw [lens, lens, this]
theorem take_mark (zss : List (List Int)) (k : Int) (j : Nat) : lens ((markPs zss k).take j) = lens (zss.take j) := by
  have : ((markPs zss k).take j).map List.length = (zss.take j).map List.length := by
    rw [List.map_take, List.map_take]
    congr 1
    apply List.ext_getElem?
    intro i
    by_cases hi : i < zss.length
    · simp [markPs, hi, markAt_len, atP]
    · rw [List.getElem?_eq_none (by simp [markPs_len]; omega), List.getElem?_eq_none (by simp; omega)]
  rw [lens, lens, this]
/-- Nothing but the blocks g 0 .. g (n - 1) is turned, and none comes. -/
structure Kept (g : Nat → Nat) (n : Nat) (w w' : World) : Prop where
  os : w'.os = w.os
  tape : w'.tape = w.tape
  output : w'.output = w.output
  size : w'.heap.size = w.heap.size
  block : ∀ q, (∀ i, i < n → q ≠ g i) → w'.heap[q]? = w.heap[q]?
theorem Kept.refl (g : Nat → Nat) (n : Nat) (w : World) : Kept g n w w := ⟨rfl, rfl, rfl, rfl, fun _ _ => rfl⟩
theorem Kept.only {g : Nat → Nat} {n i : Nat} {a w w' : World} (h : Kept g n a w) (hi : i < n) (ho : OnlyBlock (g i) w w') : Kept g n a w' :=
  ⟨ho.os.trans h.os, ho.tape.trans h.tape, ho.output.trans h.output, ho.size.trans h.size, fun q hq => (ho.block q (hq i hi)).trans (h.block q hq)⟩
theorem Kept.below {g : Nat → Nat} {n B : Nat} {w w' : World} (h : Kept g n w w') (hg : ∀ i, i < n → B ≤ g i) : Below B w w' :=
  ⟨h.os, h.tape, h.output, Nat.le_of_eq h.size.symm, fun k hk => h.block k (fun i hi e => by have := hg i hi; omega)⟩
set_option maxHeartbeats 2000000 in
theorem markPlaceS_own (w : World) (base b n cap : Nat) (zss : List (List Int)) (g : Nat → Nat) (k : Int) (hn : n ≤ 1048576) (hl : lens zss ≤ 1048576) (hk : 0 ≤ k) (hk' : k ≤ 100000000) (h : OwnP w base b n zss g) :
    Calls Tryz.prog 56 #[.slice (some ⟨b, 0, none⟩) n cap, .int .i64 k] w fun e w' => e = .returned (.int .i64 (k + lens zss)) ∧ Kept g n w w' ∧ OwnP w' base b n (markPs zss k) g := by
  have hlen := h.len
  have HO : Hid (OwnP w base b n zss g) := h
  clear h
  go_enter Tryz.func56, Tryz.ntmps56
  go_wp2
  go_loopw [1, 5] (fun v1 v5 wr => ∃ j : Nat, j ≤ n ∧ v5 = .int .i64 j ∧ v1 = .int .i64 (k + lens (zss.take j)) ∧ Kept g n w wr ∧ (∀ i, i < j → NumsAt wr (g i) 0 (markAt zss k i)) ∧ (∀ i, i < n → Room wr (g i) (atP zss i).length)) (fun _ v5 _ => n - (intOf v5).toNat)
  case atStart => exact ⟨0, Nat.zero_le _, rfl, by simp [lens], Kept.refl _ _ _, fun i hi => by omega, fun i hi => HO.out.room i _ (atP_of (by omega))⟩
  case round =>
    obtain ⟨j, hj, rfl, rfl, hkp, hnu, hro⟩ := hrel
    have hle := lens_take_le zss j
    by_cases hlt : j < n
    · obtain ⟨cp, hc, _⟩ := HO.out.cell j _ (atP_of (by omega))
      have c := (World.cell?_of_block (a := ⟨b, j, none⟩) (hkp.block b (fun i hi e => HO.out.ne i hi e.symm))).trans hc
      have hst := lens_take_succ (zss := zss) (j := j) (by omega)
      have hle' := lens_take_le zss (j + 1)
      have hcl := markInt64S_own wr (g j) (atP zss j).length cp (k + lens (zss.take j)) (by omega) (by omega) (by omega) (hro j hlt)
      have K : Hid (Kept g n w wr ∧ (∀ i, i < j → NumsAt wr (g i) 0 (markAt zss k i)) ∧ (∀ i, i < n → Room wr (g i) (atP zss i).length)) := ⟨hkp, hnu, hro⟩
      clear hkp hnu hro hc
      go_wp2_with fail
      refine hcl.mono ?_
      clear hcl
      rintro e w1 ⟨rfl, ho, hn1, hr1⟩
      have K1 : Hid (OnlyBlock (g j) wr w1 ∧ NumsAt w1 (g j) 0 (markAt zss k j) ∧ Room w1 (g j) (atP zss j).length) := ⟨ho, hn1, hr1⟩
      clear ho hn1 hr1
      go_wp2
      obtain ⟨hkp, hnu, hro⟩ := K.out
      obtain ⟨ho, hn1, hr1⟩ := K1.out
      refine ⟨⟨j + 1, by omega, by simp, by rw [hst]; simp; omega, hkp.only hlt ho, fun i hi => ?_, fun i hi => ?_⟩, by simp [intOf]; omega⟩
      · by_cases e : i = j
        · subst e; exact hn1
        · exact (hnu i (by omega)).of_block (ho.block _ (fun e' => e (HO.out.inj i j (by omega) hlt e')))
      · by_cases e : i = j
        · subst e; exact hr1
        · exact (hro i hi).of_block (ho.block _ (fun e' => e (HO.out.inj i j hi hlt e')))
    · have : j = n := by omega
      subst this
      have hd : decide ((j : Int) < (j : Int)) = false := by simp
      rw [show zss.take j = zss from List.take_of_length_le (by omega)]
      have K : Hid (Kept g j w wr ∧ (∀ i, i < j → NumsAt wr (g i) 0 (markAt zss k i)) ∧ (∀ i, i < j → Room wr (g i) (atP zss i).length)) := ⟨hkp, hnu, hro⟩
      clear hkp hnu hro hle
      go_wp2
      go_ret
      obtain ⟨hkp, hnu, hro⟩ := K.out
      refine ⟨rfl, hkp, ⟨by rw [markPs_len]; exact hlen, fun i zs e => ?_, HO.out.low, fun i hi => by rw [hkp.size]; exact HO.out.lt i hi, HO.out.ne, fun i zs e => ?_, fun i zs e => ?_, HO.out.inj⟩⟩
      · obtain ⟨hi, rfl⟩ := markPs_at e
        obtain ⟨cp, hc, hcp⟩ := HO.out.cell i _ (atP_of hi)
        exact ⟨cp, by rw [markAt_len]; exact (World.cell?_of_block (a := ⟨b, i, none⟩) (hkp.block b (fun i hi e => HO.out.ne i hi e.symm))).trans hc, by rw [markAt_len]; exact hcp⟩
      · obtain ⟨hi, rfl⟩ := markPs_at e
        exact hnu i (by omega)
      · obtain ⟨hi, rfl⟩ := markPs_at e
        rw [markAt_len]; exact hro i (by omega)
end Go.Proofs.YtalmflikdnflfaaGreat
/- Places of a call's own, nil or not; the laws' marks in them. -/
namespace Go.Proofs.YtalmflikdnflfaaGreat
open Go.RowKit
theorem markPlaceS_nil (w : World) (cap : Nat) (k : Int) : Calls Tryz.prog 56 #[.slice none 0 cap, .int .i64 k] w fun e w' => e = .returned (.int .i64 k) ∧ w' = w := by
  go_enter Tryz.func56, Tryz.ntmps56
  go_wp2
  go_loop [1, 5] (fun v1 v5 => v5 = .int .i64 0 ∧ v1 = .int .i64 k) (fun _ _ => 0)
  case atStart => exact ⟨rfl, rfl⟩
  case round =>
    obtain ⟨rfl, rfl⟩ := hrel
    go_wp2
    go_ret
    exact ⟨rfl, rfl⟩
theorem markPlaceS_q (w : World) (base : Nat) (a : Option Addr) (n cap : Nat) (zss : List (List Int)) (g : Nat → Nat) (k : Int) (hn : n ≤ 1048576) (hl : lens zss ≤ 1048576) (hk : 0 ≤ k) (hk' : k ≤ 100000000) (h : OwnQ w base a n zss g) :
    Calls Tryz.prog 56 #[.slice a n cap, .int .i64 k] w fun e w' => e = .returned (.int .i64 (k + lens zss)) ∧ Kept g n w w' ∧ OwnQ w' base a n (markPs zss k) g := by
  rcases h with ⟨rfl, rfl, rfl⟩ | ⟨b, rfl, hb1, hb2, ho⟩
  · refine (markPlaceS_nil w cap k).mono ?_
    rintro e w' ⟨rfl, rfl⟩
    exact ⟨by simp [lens], Kept.refl _ _ _, .inl ⟨rfl, rfl, rfl⟩⟩
  · refine (markPlaceS_own w base b n cap zss g k hn hl hk hk' ho).mono ?_
    rintro e w' ⟨rfl, kp, o⟩
    exact ⟨rfl, kp, .inr ⟨b, rfl, hb1, by rw [kp.size]; exact hb2, o⟩⟩
end Go.Proofs.YtalmflikdnflfaaGreat
