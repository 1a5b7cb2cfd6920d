import Derived.Test.YtiidlcjjaglkdaaRows
import Derived.Test.YtiidlcjjaglkdaaJ7LawNoted
import Derived.Test.YtiidlcjjaglkdaaJ8LawNoted
import Derived.Test.YtiidlcjjaglkdaaAseBRJ
import Derived.Test.YtiidlcjjaglkdaaJ3LawNoted
import Derived.WalkKit
import Derived.WalkSpells
import Derived.WalkLawsBesides
import Derived.Below
import Derived.Deep.CutRange
namespace Go.Proofs.Ytiidlcjjaglkdaa
open Go.RowKit
theorem newT_none (i h : Int) : (newT i h).reads.length ≤ 0 ∧ (newT i h).sets.length ≤ 0 := by unfold newT noT; split <;> exact ⟨Nat.le_refl _, Nat.le_refl _⟩
set_option maxHeartbeats 1000000 in
theorem specNewTx_anyR (w : World) (i h : Int) : Calls Try.prog 33 #[.int .i64 i, .int .i64 h] w (TAnsR w (newT i h) (newB i h)) := by
  have b0 : Hid (∀ o, Below w.heap.size w (w.alloc o)) := fun o => (Below.refl _ _).alloc (Nat.le_refl _) _
  cases h1 : inB 1 1000000 i with
  | false =>
    have e1 : newT i h = noT := by simp [newT, h1]
    have e2 : newB i h = false := by simp [newB, h1]
    rw [e1, e2]
    go_enter Try.func33, Try.ntmps33
    go_wp2_with (first | (go_at_call 85; refine (specId_e _ _).mono ?_; rintro e w' ⟨rfl, rfl⟩) | (go_at_call 86; refine (specMachine_e _ _).mono ?_; rintro e w' ⟨rfl, rfl⟩))
    refine bodyPost_ret (v := .tuple #[.agg #[.int .i64 0, .int .i64 0, .int .i64 0, .int .i64 0, .slice none 0 0, .slice none 0 0, .int .i64 0], .bool false]) (by simp [results, Try.results33, go_sem]) rfl ?_
    exact TAnsR.zero (b0.out _)
  | true =>
    cases h2 : inB 0 7 h with
    | false =>
      have e1 : newT i h = noT := by simp [newT, h2]
      have e2 : newB i h = false := by simp [newB, h2]
      rw [e1, e2]
      go_enter Try.func33, Try.ntmps33
      go_wp2_with (first | (go_at_call 85; refine (specId_e _ _).mono ?_; rintro e w' ⟨rfl, rfl⟩) | (go_at_call 86; refine (specMachine_e _ _).mono ?_; rintro e w' ⟨rfl, rfl⟩))
      refine bodyPost_ret (v := .tuple #[.agg #[.int .i64 0, .int .i64 0, .int .i64 0, .int .i64 0, .slice none 0 0, .slice none 0 0, .int .i64 0], .bool false]) (by simp [results, Try.results33, go_sem]) rfl ?_
      exact TAnsR.zero (b0.out _)
    | true =>
      have e1 : newT i h = ⟨i, h, 1, 0, [], [], 0⟩ := by simp [newT, h1, h2]
      have e2 : newB i h = true := by simp [newB, h1, h2]
      rw [e1, e2]
      go_enter Try.func33, Try.ntmps33
      go_wp2_with (first | (go_at_call 85; refine (specId_e _ _).mono ?_; rintro e w' ⟨rfl, rfl⟩) | (go_at_call 86; refine (specMachine_e _ _).mono ?_; rintro e w' ⟨rfl, rfl⟩))
      refine bodyPost_ret (v := .tuple #[.agg #[.int .i64 i, .int .i64 h, .int .i64 1, .int .i64 0, .slice none 0 0, .slice none 0 0, .int .i64 0], .bool true]) (by simp [results, Try.results33, go_sem]) rfl ?_
      exact ⟨none, 0, none, 0, fun _ => False, fun _ => False, rfl, TR.none rfl rfl, b0.out _⟩
set_option maxRecDepth 100000 in
set_option maxHeartbeats 8000000 in
theorem l7Draw_any (w : World) (B c : Nat) (a : Option Addr) (n k : Nat) (hcur : Cur w c a n k) (hb : Bytes w B a n) (hB : B ≤ c) :
    Calls Try.prog 36 #[.pointer (some ⟨c, 0, none⟩)] w (DrawnX w c a n k) := by
  have KB : Hid (Bytes w B a n ∧ B ≤ w.heap.size ∧ c < w.heap.size) := ⟨hb, by have := hcur.lt; omega, hcur.lt⟩
  have BY : Hid (∀ w', Turned c w w' → Bytes w' B a n) := fun w' h => KB.out.1.below (h.below hB KB.out.2.1)
  obtain ⟨W, hW⟩ : ∃ W, W = w.alloc (.cells #[.int .i64 0, .int .i64 0, .int .i64 0, .int .i64 0, .slice none 0 0, .slice none 0 0, .int .i64 0] 27) := ⟨_, rfl⟩
  have K0 : Hid (Turned c w W ∧ Cur W c a n k ∧ BT W w.heap.size ⟨none, 0, none, 0⟩ noT ∧ W.heap.size = w.heap.size + 1) := ⟨by rw [hW]; exact (Turned.refl _ _).alloc _, by rw [hW]; exact hcur.alloc _, by rw [hW]; exact BT.zero w _, by rw [hW]; simp⟩
  clear hcur hb
  go_enter Try.func36, Try.ntmps36
  go_wp2_with fail
  rw [← hW]
  clear hW
  refine (l1Below_any _ B c a n k _ K0.out.2.1 (BY.out _ K0.out.1) hB (by omega)).mono ?_
  rintro e w1 ⟨y1, rfl, hy10, hy11, c1, t1⟩
  have K1 : Hid (Turned c W w1 ∧ Cur w1 c a n k) := ⟨t1, c1⟩
  clear c1 t1
  go_wp2_with fail
  refine (l1Below_any _ B c a n k _ K1.out.2 (BY.out _ (K0.out.1.trans K1.out.1)) hB (by omega)).mono ?_
  rintro e w2 ⟨y2, rfl, hy20, hy21, c2, t2⟩
  have K2 : Hid (Turned c W w2 ∧ Cur w2 c a n k) := ⟨K1.out.1.trans t2, c2⟩
  clear c2 t2 K1
  go_wp2_with fail
  refine (specNewTx_anyR _ _ _).mono ?_
  rintro e w3 ⟨ar, cr, ah, ch, PR, PS, rfl, o3, b3⟩
  have hl0 := newT_none (1 + y1) y2
  generalize newT (1 + y1) y2 = t at *
  generalize newB (1 + y1) y2 = ok at *
  clear hy10 hy11 hy20 hy21
  obtain ⟨Q, hQ⟩ : ∃ Q, Q = w3.heap.size := ⟨_, rfl⟩
  obtain ⟨X0, hX0⟩ : ∃ X, X = w3.alloc (.cells #[.int .i64 t.id, .int .i64 t.home, .int .i64 t.phase, .int .i64 t.count, .slice ar t.reads.length cr, .slice ah t.sets.length ch, .int .i64 t.stamp] 27) := ⟨_, rfl⟩
  have KD : Hid (TX w c Q a n k 0 X0) := by
    obtain ⟨t0, c0, z0, s0⟩ := K0.out
    obtain ⟨t2, c2⟩ := K2.out
    have hs := t2.size
    have hs3 := b3.size
    have hl := KB.out.2.2
    have bX : Below w3.heap.size w3 X0 := by rw [hX0]; exact (Below.refl _ _).alloc (Nat.le_refl _) _
    have z2 := z0.of_block (t2.block _ (by omega) (by omega)) hs
    have tr : TR X0 (w.heap.size + 1) ⟨ar, cr, ah, ch⟩ t PR PS := (o3.low (fun q hq => by have := (o3.of hq).1; omega)).later bX
    refine ⟨⟨ar, cr, ah, ch⟩, t, PR, PS, ⟨(z2.later b3).later bX, ?_, tr, ?_, (c2.later b3).later bX, ((t0.trans t2).of_below b3).of_below bX, ⟨by omega, hl⟩⟩, by omega, by omega⟩
    · rw [hX0, hQ]; exact BT.box w3 ⟨ar, cr, ah, ch⟩ t _
    · rintro hh
      have := (o3.of hh).2
      omega
  clear o3 b3 K2 K0 hl0
  go_wp2_with fail
  rw [← hQ, ← hX0]
  clear hX0 hQ
  refine (l1Below_any _ B c a n k _ KD.out.cu.1 (BY.out _ KD.out.cu.2) hB (by omega)).mono ?_
  rintro e w4 ⟨y4, rfl, hy40, hy41, cc, tt⟩
  have Hw4 : Hid (TX w c Q a n k 0 w4) := KD.out.step cc tt
  clear cc tt KD
  obtain ⟨m, rfl⟩ := Int.eq_ofNat_of_zero_le hy40
  have hm : m ≤ 4 := by omega
  clear hy40 hy41
  go_wp2
  go_loopw [5] (fun v5 wr => ∃ j : Nat, j ≤ 4 ∧ v5 = .int .i64 j ∧ TX w c Q a n k (10 - j) wr) (fun v5 _ => (intOf v5).toNat)
  case atStart => exact ⟨m, by omega, rfl, Hw4.out.mono (by omega)⟩
  case round =>
    obtain ⟨N, hj, rfl, hdx⟩ := hrel
    have K1 := hidOf hdx
    clear hdx Hw4 hm
    generalize wr = W1 at *
    by_cases hpos : 0 < N
    · have hgt : (0 : Int) < (N : Int) := by omega
      obtain ⟨⟨ar, cr, ah, ch⟩, t, PR, PS, hT, hl1, hl2⟩ := K1.out
      have HL : Hid (t.reads.length ≤ 10 - N ∧ t.sets.length ≤ 10 - N ∧ N ≤ 4 ∧ 0 < N) := ⟨hl1, hl2, hj, hpos⟩
      have CS : Hid (∀ (X : World) (s : N5), SlT X ⟨ar, cr, ah, ch⟩ t → Calls Try.prog 11 #[.agg #[.int .i64 t.id, .int .i64 t.home, .int .i64 t.phase, .int .i64 t.count, .slice ar t.reads.length cr, .slice ah t.sets.length ch, .int .i64 t.stamp], .agg #[.int .i64 s.region, .int .i64 s.slot, .int .i64 s.version, .int .i64 s.value, .bool s.used]] X (TAnsR X (addN t s) (addNB t s))) := fun X s hs => specAddRead_anyR X ⟨ar, cr, ah, ch⟩ t s ⟨by have := HL.out; unfold maxLen; omega, by have := HL.out; unfold maxLen; omega⟩ hs (row_cap hT.tr.cr)
      have iD := hidOf (hT.step (Y := W1.drew) (hT.cu.drewN 1) ((Turned.refl _ _).drew))
      clear hT hl1 hl2 K1
      go_wp2_with fail
      refine wp_region_z (fun z => z == 8) (fun X : World => BT X Q ⟨ar, cr, ah, ch⟩ t) (by kernel_rfl) ?_
      generalize W1.drew = D at *
      have hS := iD.out.q
      refine wpZ_take (i := 0) (v := ?_) rfl (by kernel_rfl) (fun _ _ _ h => h) (Or.inl ⟨by rfl, ?_⟩) hS ?_
      rotate_left
      · (intro X hSw; obtain ⟨p0, p1, p2, p3, p4, p5, p6, -, -⟩ := hSw; dsimp only at p4 p5; go_simp; first | done | with_reducible rfl)
      simp only [Act.put]
      refine wpZ_takeP (i := 1) (v := ?_) rfl (by kernel_rfl) (fun _ _ _ h => h) (Or.inl ⟨by rfl, ?_⟩) hS ?_
      rotate_left
      · (intro X _; go_simp; first | done | with_reducible rfl)
      simp only [Act.put]
      refine wpZ_ready (rs := [2, 7]) (by kernel_rfl) (by simp) ?_
      refine AllZ.cons rfl (fun K hK => ?_) (AllZ.cons rfl (fun K hK => ?_) AllZ.nil)
      · go_simp
        refine (l7DrawNote_any D B c a n k iD.out.cu (BY.out _ iD.out.tu) hB).mono ?_
        rintro e C0 ⟨s, rfl, cC0, tC0⟩
        have iC0 := hidOf (iD.out.step cC0 tC0)
        clear cC0
        refine hK.out _ _ (fun _ => iC0.out.q) ?_
        clear hK K tC0
        have hS := iC0.out.q
        refine wpZ_ready (rs := [3, 7]) (by kernel_rfl) (by simp) ?_
        refine AllZ.cons rfl (fun K hK => ?_) (AllZ.cons rfl (fun K hK => ?_) AllZ.nil)
        · go_simp
          refine (CS.out C0 s iC0.out.tr.sl).mono ?_
          rintro e C1 ⟨ya, yk, yh, yd, QR, QS, rfl, oA, bC1⟩
          have iC1 := hidOf (iC0.out.later bC1)
          have tC1 : Turned c C0 C1 := (Turned.refl _ _).of_below bC1
          have HU := hidOf (addN_len t s)
          generalize addN t s = u at *
          generalize addNB t s = ok at *
          have hQ : Hid (¬ OfT QR QS Q) := fun hh => by have := (oA.of hh).1; have := iC0.out.q.lt; omega
          have oA := hidOf (oA.low (B' := w.heap.size + 1) (fun x hx => by have := (oA.of hx).1; have := iC0.out.z.lt; omega))
          clear bC1
          refine hK.out _ _ (fun _ => iC1.out.q) ?_
          clear hK K tC1
          have hS := iC1.out.q
          refine wpZ_takeP (i := 4) (v := ?_) rfl (by kernel_rfl) (fun _ _ _ h => h) (Or.inl ⟨by rfl, ?_⟩) hS ?_
          rotate_left
          · (intro X _; go_simp; first | done | with_reducible rfl)
          simp only [Act.put]
          refine wpZ_takeP (i := 5) (v := ?_) rfl (by kernel_rfl) (fun _ _ _ h => h) (Or.inl ⟨by rfl, ?_⟩) hS ?_
          rotate_left
          · (intro X _; go_simp; first | done | with_reducible rfl)
          simp only [Act.put]
          refine wpZ_takeP (i := 6) (v := ?_) rfl (by kernel_rfl) (fun _ _ _ h => h) (Or.inl ⟨by rfl, ?_⟩) hS ?_
          rotate_left
          · (intro X _; go_simp; first | done | with_reducible rfl)
          simp only [Act.put]
          refine wpZ_ready (rs := [7]) (by kernel_rfl) (by simp) ?_
          refine AllZ.cons rfl (fun K hK => ?_) AllZ.nil
          go_simp
          obtain ⟨A2, hA2⟩ : ∃ X, X = C1.alloc (.cells #[.int .i64 0, .int .i64 0, .int .i64 0, .int .i64 0, .slice none 0 0, .slice none 0 0, .int .i64 0] 27) := ⟨_, rfl⟩
          rw [← hA2]
          have bA2 : Below C1.heap.size C1 A2 := by rw [hA2]; exact (Below.refl _ _).alloc (Nat.le_refl _) _
          have zA2 := hidOf (show BT A2 C1.heap.size ⟨none, 0, none, 0⟩ ⟨0, 0, 0, 0, [], [], 0⟩ by rw [hA2]; exact BT.zero C1 _)
          have iA2 := hidOf (iC1.out.later bA2)
          have lA2 : Hid (w.heap.size < C1.heap.size ∧ C1.heap.size ≠ Q ∧ ¬ OfT PR PS C1.heap.size) := ⟨by have := iC1.out.z.lt; omega, by have := iC1.out.q.lt; omega, fun hh => by have := (iC1.out.tr.of hh).2; omega⟩
          have hne : Hid (∀ x, OfT QR QS x → x ≠ C1.heap.size) := fun x hx => by have := (oA.out.of hx).2; omega
          have oA := hidOf (oA.out.later bA2)
          refine hK.out _ _ (fun _ => iA2.out.q) ?_
          clear hK K
          have hS := iA2.out.q
          clear hA2 bA2
          obtain ⟨r0, r1, r2, r3, r4, r5, r6, fr, -⟩ := zA2.out
          have f0 := fr 0
          have f1 := fr 1
          have f2 := fr 2
          have f3 := fr 3
          have f4 := fr 4
          have f5 := fr 5
          have f6 := fr 6
          clear fr
          dsimp only at r0 r1 r2 r3 r4 r5 r6
          refine wpZ_ready (rs := [8]) (by kernel_rfl) (by simp) ?_
          refine AllZ.cons rfl (fun K hK => ?_) AllZ.nil
          go_simp
          refine hK.out _ _ (fun h => absurd (show false = true from h.symm.trans (by kernel_rfl)) (by decide)) ?_
          clear hK K
          refine wpZ_ready (rs := [9]) (by kernel_rfl) (by simp) ?_
          refine AllZ.cons rfl (fun K hK => ?_) AllZ.nil
          go_simp
          refine hK.out _ _ (fun h => absurd (show false = true from h.symm.trans (by kernel_rfl)) (by decide)) ?_
          clear hK K
          refine wpZ_done (by kernel_rfl) ?_ _
          clear r0 r1 r2 r3 r4 r5 r6 f0 f1 f2 f3 f4 f5 f6 hS
          have KF : Hid (TI w c Q a n k ⟨ar, cr, ah, ch⟩ t PR PS (((((((A2.setCell ⟨C1.heap.size, 0, none⟩ (.int .i64 u.id)).setCell ⟨C1.heap.size, 1, none⟩ (.int .i64 u.home)).setCell ⟨C1.heap.size, 2, none⟩ (.int .i64 u.phase)).setCell ⟨C1.heap.size, 3, none⟩ (.int .i64 u.count)).setCell ⟨C1.heap.size, 4, none⟩ (.slice ya u.reads.length yk)).setCell ⟨C1.heap.size, 5, none⟩ (.slice yh u.sets.length yd)).setCell ⟨C1.heap.size, 6, none⟩ (.int .i64 u.stamp)) ∧ BT (((((((A2.setCell ⟨C1.heap.size, 0, none⟩ (.int .i64 u.id)).setCell ⟨C1.heap.size, 1, none⟩ (.int .i64 u.home)).setCell ⟨C1.heap.size, 2, none⟩ (.int .i64 u.phase)).setCell ⟨C1.heap.size, 3, none⟩ (.int .i64 u.count)).setCell ⟨C1.heap.size, 4, none⟩ (.slice ya u.reads.length yk)).setCell ⟨C1.heap.size, 5, none⟩ (.slice yh u.sets.length yd)).setCell ⟨C1.heap.size, 6, none⟩ (.int .i64 u.stamp)) (C1.heap.size) ⟨ya, yk, yh, yd⟩ u ∧ TR (((((((A2.setCell ⟨C1.heap.size, 0, none⟩ (.int .i64 u.id)).setCell ⟨C1.heap.size, 1, none⟩ (.int .i64 u.home)).setCell ⟨C1.heap.size, 2, none⟩ (.int .i64 u.phase)).setCell ⟨C1.heap.size, 3, none⟩ (.int .i64 u.count)).setCell ⟨C1.heap.size, 4, none⟩ (.slice ya u.reads.length yk)).setCell ⟨C1.heap.size, 5, none⟩ (.slice yh u.sets.length yd)).setCell ⟨C1.heap.size, 6, none⟩ (.int .i64 u.stamp)) (w.heap.size + 1) ⟨ya, yk, yh, yd⟩ u QR QS) := ⟨iA2.out.putFar lA2.out.1 lA2.out.2.1 lA2.out.2.2 ⟨ya, yk, yh, yd⟩ u, zA2.out.put ⟨ya, yk, yh, yd⟩ u, oA.out.keep (w' := putT A2 (C1.heap.size) ⟨ya, yk, yh, yd⟩ u) (by rw [putT_size]; exact Nat.le_refl _) (fun x _ hx => putT_block (hne.out x hx))⟩
          generalize (((((((A2.setCell ⟨C1.heap.size, 0, none⟩ (.int .i64 u.id)).setCell ⟨C1.heap.size, 1, none⟩ (.int .i64 u.home)).setCell ⟨C1.heap.size, 2, none⟩ (.int .i64 u.phase)).setCell ⟨C1.heap.size, 3, none⟩ (.int .i64 u.count)).setCell ⟨C1.heap.size, 4, none⟩ (.slice ya u.reads.length yk)).setCell ⟨C1.heap.size, 5, none⟩ (.slice yh u.sets.length yd)).setCell ⟨C1.heap.size, 6, none⟩ (.int .i64 u.stamp)) = Y2 at *
          generalize C1.heap.size = qb at *
          cases ok
          · have KN : Hid (TX w c Q a n k (10 - (N - 1)) Y2) := ⟨_, _, _, _, KF.out.1, by have := HL.out; omega, by have := HL.out; omega⟩
            clear KF
            go_wp2
            exact ⟨⟨N - 1, by omega, by simp; omega, KN.out⟩, by simp [intOf]; omega⟩
          · have KN : Hid (TX w c Q a n k (10 - (N - 1)) (((((((Y2.setCell ⟨Q, 0, none⟩ (.int .i64 u.id)).setCell ⟨Q, 1, none⟩ (.int .i64 u.home)).setCell ⟨Q, 2, none⟩ (.int .i64 u.phase)).setCell ⟨Q, 3, none⟩ (.int .i64 u.count)).setCell ⟨Q, 4, none⟩ (.slice ya u.reads.length yk)).setCell ⟨Q, 5, none⟩ (.slice yh u.sets.length yd)).setCell ⟨Q, 6, none⟩ (.int .i64 u.stamp))) := ⟨⟨ya, yk, yh, yd⟩, u, QR, QS, KF.out.1.take KF.out.2.2 hQ.out, by have := HL.out; have := HU.out; omega, by have := HL.out; have := HU.out; omega⟩
            obtain ⟨r0, r1, r2, r3, r4, r5, r6, -, -⟩ := KF.out.2.1
            obtain ⟨s0, s1, s2, s3, s4, s5, s6, fr, -⟩ := KF.out.1.q
            dsimp only at r4 r5 s4 s5
            have f0 := fr 0
            have f1 := fr 1
            have f2 := fr 2
            have f3 := fr 3
            have f4 := fr 4
            have f5 := fr 5
            have f6 := fr 6
            clear fr KF
            go_wp2
            exact ⟨⟨N - 1, by omega, by simp; omega, KN.out⟩, by simp [intOf]; omega⟩
        · go_simp
          obtain ⟨A1, hA1⟩ : ∃ X, X = C0.alloc (.cells #[.int .i64 0, .int .i64 0, .int .i64 0, .int .i64 0, .slice none 0 0, .slice none 0 0, .int .i64 0] 27) := ⟨_, rfl⟩
          rw [← hA1]
          have bA1 : Below C0.heap.size C0 A1 := by rw [hA1]; exact (Below.refl _ _).alloc (Nat.le_refl _) _
          have zA1 := hidOf (show BT A1 C0.heap.size ⟨none, 0, none, 0⟩ ⟨0, 0, 0, 0, [], [], 0⟩ by rw [hA1]; exact BT.zero C0 _)
          have iA1 := hidOf (iC0.out.later bA1)
          have lA1 : Hid (w.heap.size < C0.heap.size ∧ C0.heap.size ≠ Q ∧ ¬ OfT PR PS C0.heap.size) := ⟨by have := iC0.out.z.lt; omega, by have := iC0.out.q.lt; omega, fun hh => by have := (iC0.out.tr.of hh).2; omega⟩
          refine hK.out _ _ (fun _ => iA1.out.q) ?_
          clear hK K
          have hS := iA1.out.q
          clear hA1 bA1
          refine wpZ_ready (rs := [3]) (by kernel_rfl) (by simp) ?_
          refine AllZ.cons rfl (fun K hK => ?_) AllZ.nil
          go_simp
          refine (CS.out A1 s iA1.out.tr.sl).mono ?_
          rintro e C2 ⟨ya, yk, yh, yd, QR, QS, rfl, oA, bC2⟩
          have iC2 := hidOf (iA1.out.later bC2)
          have tC2 : Turned c A1 C2 := (Turned.refl _ _).of_below bC2
          have HU := hidOf (addN_len t s)
          generalize addN t s = u at *
          generalize addNB t s = ok at *
          have hQ : Hid (¬ OfT QR QS Q) := fun hh => by have := (oA.of hh).1; have := iA1.out.q.lt; omega
          have hne : Hid (∀ x, OfT QR QS x → x ≠ C0.heap.size) := fun x hx => by have := (oA.of hx).1; have := zA1.out.lt; omega
          have oA := hidOf (oA.low (B' := w.heap.size + 1) (fun x hx => by have := (oA.of hx).1; have := iA1.out.z.lt; omega))
          clear bC2
          have yC2 := hidOf (zA1.out.of_block (tC2.block _ zA1.out.lt (by have := lA1.out.1; have := iA1.out.lq; omega)) tC2.size)
          refine hK.out _ _ (fun _ => iC2.out.q) ?_
          clear hK K tC2
          have hS := iC2.out.q
          refine wpZ_takeP (i := 4) (v := ?_) rfl (by kernel_rfl) (fun _ _ _ h => h) (Or.inl ⟨by rfl, ?_⟩) hS ?_
          rotate_left
          · (intro X _; go_simp; first | done | with_reducible rfl)
          simp only [Act.put]
          refine wpZ_takeP (i := 5) (v := ?_) rfl (by kernel_rfl) (fun _ _ _ h => h) (Or.inl ⟨by rfl, ?_⟩) hS ?_
          rotate_left
          · (intro X _; go_simp; first | done | with_reducible rfl)
          simp only [Act.put]
          refine wpZ_takeP (i := 6) (v := ?_) rfl (by kernel_rfl) (fun _ _ _ h => h) (Or.inl ⟨by rfl, ?_⟩) hS ?_
          rotate_left
          · (intro X _; go_simp; first | done | with_reducible rfl)
          simp only [Act.put]
          obtain ⟨r0, r1, r2, r3, r4, r5, r6, fr, -⟩ := yC2.out
          have f0 := fr 0
          have f1 := fr 1
          have f2 := fr 2
          have f3 := fr 3
          have f4 := fr 4
          have f5 := fr 5
          have f6 := fr 6
          clear fr
          dsimp only at r0 r1 r2 r3 r4 r5 r6
          refine wpZ_ready (rs := [8]) (by kernel_rfl) (by simp) ?_
          refine AllZ.cons rfl (fun K hK => ?_) AllZ.nil
          go_simp
          refine hK.out _ _ (fun h => absurd (show false = true from h.symm.trans (by kernel_rfl)) (by decide)) ?_
          clear hK K
          refine wpZ_ready (rs := [9]) (by kernel_rfl) (by simp) ?_
          refine AllZ.cons rfl (fun K hK => ?_) AllZ.nil
          go_simp
          refine hK.out _ _ (fun h => absurd (show false = true from h.symm.trans (by kernel_rfl)) (by decide)) ?_
          clear hK K
          refine wpZ_done (by kernel_rfl) ?_ _
          clear r0 r1 r2 r3 r4 r5 r6 f0 f1 f2 f3 f4 f5 f6 hS
          have KF : Hid (TI w c Q a n k ⟨ar, cr, ah, ch⟩ t PR PS (((((((C2.setCell ⟨C0.heap.size, 0, none⟩ (.int .i64 u.id)).setCell ⟨C0.heap.size, 1, none⟩ (.int .i64 u.home)).setCell ⟨C0.heap.size, 2, none⟩ (.int .i64 u.phase)).setCell ⟨C0.heap.size, 3, none⟩ (.int .i64 u.count)).setCell ⟨C0.heap.size, 4, none⟩ (.slice ya u.reads.length yk)).setCell ⟨C0.heap.size, 5, none⟩ (.slice yh u.sets.length yd)).setCell ⟨C0.heap.size, 6, none⟩ (.int .i64 u.stamp)) ∧ BT (((((((C2.setCell ⟨C0.heap.size, 0, none⟩ (.int .i64 u.id)).setCell ⟨C0.heap.size, 1, none⟩ (.int .i64 u.home)).setCell ⟨C0.heap.size, 2, none⟩ (.int .i64 u.phase)).setCell ⟨C0.heap.size, 3, none⟩ (.int .i64 u.count)).setCell ⟨C0.heap.size, 4, none⟩ (.slice ya u.reads.length yk)).setCell ⟨C0.heap.size, 5, none⟩ (.slice yh u.sets.length yd)).setCell ⟨C0.heap.size, 6, none⟩ (.int .i64 u.stamp)) (C0.heap.size) ⟨ya, yk, yh, yd⟩ u ∧ TR (((((((C2.setCell ⟨C0.heap.size, 0, none⟩ (.int .i64 u.id)).setCell ⟨C0.heap.size, 1, none⟩ (.int .i64 u.home)).setCell ⟨C0.heap.size, 2, none⟩ (.int .i64 u.phase)).setCell ⟨C0.heap.size, 3, none⟩ (.int .i64 u.count)).setCell ⟨C0.heap.size, 4, none⟩ (.slice ya u.reads.length yk)).setCell ⟨C0.heap.size, 5, none⟩ (.slice yh u.sets.length yd)).setCell ⟨C0.heap.size, 6, none⟩ (.int .i64 u.stamp)) (w.heap.size + 1) ⟨ya, yk, yh, yd⟩ u QR QS) := ⟨iC2.out.putFar lA1.out.1 lA1.out.2.1 lA1.out.2.2 ⟨ya, yk, yh, yd⟩ u, yC2.out.put ⟨ya, yk, yh, yd⟩ u, oA.out.keep (w' := putT C2 (C0.heap.size) ⟨ya, yk, yh, yd⟩ u) (by rw [putT_size]; exact Nat.le_refl _) (fun x _ hx => putT_block (hne.out x hx))⟩
          generalize (((((((C2.setCell ⟨C0.heap.size, 0, none⟩ (.int .i64 u.id)).setCell ⟨C0.heap.size, 1, none⟩ (.int .i64 u.home)).setCell ⟨C0.heap.size, 2, none⟩ (.int .i64 u.phase)).setCell ⟨C0.heap.size, 3, none⟩ (.int .i64 u.count)).setCell ⟨C0.heap.size, 4, none⟩ (.slice ya u.reads.length yk)).setCell ⟨C0.heap.size, 5, none⟩ (.slice yh u.sets.length yd)).setCell ⟨C0.heap.size, 6, none⟩ (.int .i64 u.stamp)) = Y2 at *
          generalize C0.heap.size = qb at *
          cases ok
          · have KN : Hid (TX w c Q a n k (10 - (N - 1)) Y2) := ⟨_, _, _, _, KF.out.1, by have := HL.out; omega, by have := HL.out; omega⟩
            clear KF
            go_wp2
            exact ⟨⟨N - 1, by omega, by simp; omega, KN.out⟩, by simp [intOf]; omega⟩
          · have KN : Hid (TX w c Q a n k (10 - (N - 1)) (((((((Y2.setCell ⟨Q, 0, none⟩ (.int .i64 u.id)).setCell ⟨Q, 1, none⟩ (.int .i64 u.home)).setCell ⟨Q, 2, none⟩ (.int .i64 u.phase)).setCell ⟨Q, 3, none⟩ (.int .i64 u.count)).setCell ⟨Q, 4, none⟩ (.slice ya u.reads.length yk)).setCell ⟨Q, 5, none⟩ (.slice yh u.sets.length yd)).setCell ⟨Q, 6, none⟩ (.int .i64 u.stamp))) := ⟨⟨ya, yk, yh, yd⟩, u, QR, QS, KF.out.1.take KF.out.2.2 hQ.out, by have := HL.out; have := HU.out; omega, by have := HL.out; have := HU.out; omega⟩
            obtain ⟨r0, r1, r2, r3, r4, r5, r6, -, -⟩ := KF.out.2.1
            obtain ⟨s0, s1, s2, s3, s4, s5, s6, fr, -⟩ := KF.out.1.q
            dsimp only at r4 r5 s4 s5
            have f0 := fr 0
            have f1 := fr 1
            have f2 := fr 2
            have f3 := fr 3
            have f4 := fr 4
            have f5 := fr 5
            have f6 := fr 6
            clear fr KF
            go_wp2
            exact ⟨⟨N - 1, by omega, by simp; omega, KN.out⟩, by simp [intOf]; omega⟩
      · go_simp
        obtain ⟨A0, hA0⟩ : ∃ X, X = D.alloc (.cells #[.int .i64 0, .int .i64 0, .int .i64 0, .int .i64 0, .slice none 0 0, .slice none 0 0, .int .i64 0] 27) := ⟨_, rfl⟩
        rw [← hA0]
        have bA0 : Below D.heap.size D A0 := by rw [hA0]; exact (Below.refl _ _).alloc (Nat.le_refl _) _
        have zA0 := hidOf (show BT A0 D.heap.size ⟨none, 0, none, 0⟩ ⟨0, 0, 0, 0, [], [], 0⟩ by rw [hA0]; exact BT.zero D _)
        have iA0 := hidOf (iD.out.later bA0)
        have lA0 : Hid (w.heap.size < D.heap.size ∧ D.heap.size ≠ Q ∧ ¬ OfT PR PS D.heap.size) := ⟨by have := iD.out.z.lt; omega, by have := iD.out.q.lt; omega, fun hh => by have := (iD.out.tr.of hh).2; omega⟩
        refine hK.out _ _ (fun _ => iA0.out.q) ?_
        clear hK K
        have hS := iA0.out.q
        clear hA0 bA0
        refine wpZ_ready (rs := [2]) (by kernel_rfl) (by simp) ?_
        refine AllZ.cons rfl (fun K hK => ?_) AllZ.nil
        go_simp
        refine (l7DrawNote_any A0 B c a n k iA0.out.cu (BY.out _ iA0.out.tu) hB).mono ?_
        rintro e C1 ⟨s, rfl, cC1, tC1⟩
        have iC1 := hidOf (iA0.out.step cC1 tC1)
        clear cC1
        have yC1 := hidOf (zA0.out.of_block (tC1.block _ zA0.out.lt (by have := lA0.out.1; have := iA0.out.lq; omega)) tC1.size)
        refine hK.out _ _ (fun _ => iC1.out.q) ?_
        clear hK K tC1
        have hS := iC1.out.q
        refine wpZ_ready (rs := [3]) (by kernel_rfl) (by simp) ?_
        refine AllZ.cons rfl (fun K hK => ?_) AllZ.nil
        go_simp
        refine (CS.out C1 s iC1.out.tr.sl).mono ?_
        rintro e C2 ⟨ya, yk, yh, yd, QR, QS, rfl, oA, bC2⟩
        have iC2 := hidOf (iC1.out.later bC2)
        have tC2 : Turned c C1 C2 := (Turned.refl _ _).of_below bC2
        have HU := hidOf (addN_len t s)
        generalize addN t s = u at *
        generalize addNB t s = ok at *
        have hQ : Hid (¬ OfT QR QS Q) := fun hh => by have := (oA.of hh).1; have := iC1.out.q.lt; omega
        have hne : Hid (∀ x, OfT QR QS x → x ≠ D.heap.size) := fun x hx => by have := (oA.of hx).1; have := yC1.out.lt; omega
        have oA := hidOf (oA.low (B' := w.heap.size + 1) (fun x hx => by have := (oA.of hx).1; have := iC1.out.z.lt; omega))
        clear bC2
        have yC2 := hidOf (yC1.out.of_block (tC2.block _ yC1.out.lt (by have := lA0.out.1; have := iC1.out.lq; omega)) tC2.size)
        refine hK.out _ _ (fun _ => iC2.out.q) ?_
        clear hK K tC2
        have hS := iC2.out.q
        refine wpZ_takeP (i := 4) (v := ?_) rfl (by kernel_rfl) (fun _ _ _ h => h) (Or.inl ⟨by rfl, ?_⟩) hS ?_
        rotate_left
        · (intro X _; go_simp; first | done | with_reducible rfl)
        simp only [Act.put]
        refine wpZ_takeP (i := 5) (v := ?_) rfl (by kernel_rfl) (fun _ _ _ h => h) (Or.inl ⟨by rfl, ?_⟩) hS ?_
        rotate_left
        · (intro X _; go_simp; first | done | with_reducible rfl)
        simp only [Act.put]
        refine wpZ_takeP (i := 6) (v := ?_) rfl (by kernel_rfl) (fun _ _ _ h => h) (Or.inl ⟨by rfl, ?_⟩) hS ?_
        rotate_left
        · (intro X _; go_simp; first | done | with_reducible rfl)
        simp only [Act.put]
        obtain ⟨r0, r1, r2, r3, r4, r5, r6, fr, -⟩ := yC2.out
        have f0 := fr 0
        have f1 := fr 1
        have f2 := fr 2
        have f3 := fr 3
        have f4 := fr 4
        have f5 := fr 5
        have f6 := fr 6
        clear fr
        dsimp only at r0 r1 r2 r3 r4 r5 r6
        refine wpZ_ready (rs := [8]) (by kernel_rfl) (by simp) ?_
        refine AllZ.cons rfl (fun K hK => ?_) AllZ.nil
        go_simp
        refine hK.out _ _ (fun h => absurd (show false = true from h.symm.trans (by kernel_rfl)) (by decide)) ?_
        clear hK K
        refine wpZ_ready (rs := [9]) (by kernel_rfl) (by simp) ?_
        refine AllZ.cons rfl (fun K hK => ?_) AllZ.nil
        go_simp
        refine hK.out _ _ (fun h => absurd (show false = true from h.symm.trans (by kernel_rfl)) (by decide)) ?_
        clear hK K
        refine wpZ_done (by kernel_rfl) ?_ _
        clear r0 r1 r2 r3 r4 r5 r6 f0 f1 f2 f3 f4 f5 f6 hS
        have KF : Hid (TI w c Q a n k ⟨ar, cr, ah, ch⟩ t PR PS (((((((C2.setCell ⟨D.heap.size, 0, none⟩ (.int .i64 u.id)).setCell ⟨D.heap.size, 1, none⟩ (.int .i64 u.home)).setCell ⟨D.heap.size, 2, none⟩ (.int .i64 u.phase)).setCell ⟨D.heap.size, 3, none⟩ (.int .i64 u.count)).setCell ⟨D.heap.size, 4, none⟩ (.slice ya u.reads.length yk)).setCell ⟨D.heap.size, 5, none⟩ (.slice yh u.sets.length yd)).setCell ⟨D.heap.size, 6, none⟩ (.int .i64 u.stamp)) ∧ BT (((((((C2.setCell ⟨D.heap.size, 0, none⟩ (.int .i64 u.id)).setCell ⟨D.heap.size, 1, none⟩ (.int .i64 u.home)).setCell ⟨D.heap.size, 2, none⟩ (.int .i64 u.phase)).setCell ⟨D.heap.size, 3, none⟩ (.int .i64 u.count)).setCell ⟨D.heap.size, 4, none⟩ (.slice ya u.reads.length yk)).setCell ⟨D.heap.size, 5, none⟩ (.slice yh u.sets.length yd)).setCell ⟨D.heap.size, 6, none⟩ (.int .i64 u.stamp)) (D.heap.size) ⟨ya, yk, yh, yd⟩ u ∧ TR (((((((C2.setCell ⟨D.heap.size, 0, none⟩ (.int .i64 u.id)).setCell ⟨D.heap.size, 1, none⟩ (.int .i64 u.home)).setCell ⟨D.heap.size, 2, none⟩ (.int .i64 u.phase)).setCell ⟨D.heap.size, 3, none⟩ (.int .i64 u.count)).setCell ⟨D.heap.size, 4, none⟩ (.slice ya u.reads.length yk)).setCell ⟨D.heap.size, 5, none⟩ (.slice yh u.sets.length yd)).setCell ⟨D.heap.size, 6, none⟩ (.int .i64 u.stamp)) (w.heap.size + 1) ⟨ya, yk, yh, yd⟩ u QR QS) := ⟨iC2.out.putFar lA0.out.1 lA0.out.2.1 lA0.out.2.2 ⟨ya, yk, yh, yd⟩ u, yC2.out.put ⟨ya, yk, yh, yd⟩ u, oA.out.keep (w' := putT C2 (D.heap.size) ⟨ya, yk, yh, yd⟩ u) (by rw [putT_size]; exact Nat.le_refl _) (fun x _ hx => putT_block (hne.out x hx))⟩
        generalize (((((((C2.setCell ⟨D.heap.size, 0, none⟩ (.int .i64 u.id)).setCell ⟨D.heap.size, 1, none⟩ (.int .i64 u.home)).setCell ⟨D.heap.size, 2, none⟩ (.int .i64 u.phase)).setCell ⟨D.heap.size, 3, none⟩ (.int .i64 u.count)).setCell ⟨D.heap.size, 4, none⟩ (.slice ya u.reads.length yk)).setCell ⟨D.heap.size, 5, none⟩ (.slice yh u.sets.length yd)).setCell ⟨D.heap.size, 6, none⟩ (.int .i64 u.stamp)) = Y2 at *
        generalize D.heap.size = qb at *
        cases ok
        · have KN : Hid (TX w c Q a n k (10 - (N - 1)) Y2) := ⟨_, _, _, _, KF.out.1, by have := HL.out; omega, by have := HL.out; omega⟩
          clear KF
          go_wp2
          exact ⟨⟨N - 1, by omega, by simp; omega, KN.out⟩, by simp [intOf]; omega⟩
        · have KN : Hid (TX w c Q a n k (10 - (N - 1)) (((((((Y2.setCell ⟨Q, 0, none⟩ (.int .i64 u.id)).setCell ⟨Q, 1, none⟩ (.int .i64 u.home)).setCell ⟨Q, 2, none⟩ (.int .i64 u.phase)).setCell ⟨Q, 3, none⟩ (.int .i64 u.count)).setCell ⟨Q, 4, none⟩ (.slice ya u.reads.length yk)).setCell ⟨Q, 5, none⟩ (.slice yh u.sets.length yd)).setCell ⟨Q, 6, none⟩ (.int .i64 u.stamp))) := ⟨⟨ya, yk, yh, yd⟩, u, QR, QS, KF.out.1.take KF.out.2.2 hQ.out, by have := HL.out; have := HU.out; omega, by have := HL.out; have := HU.out; omega⟩
          obtain ⟨r0, r1, r2, r3, r4, r5, r6, -, -⟩ := KF.out.2.1
          obtain ⟨s0, s1, s2, s3, s4, s5, s6, fr, -⟩ := KF.out.1.q
          dsimp only at r4 r5 s4 s5
          have f0 := fr 0
          have f1 := fr 1
          have f2 := fr 2
          have f3 := fr 3
          have f4 := fr 4
          have f5 := fr 5
          have f6 := fr 6
          clear fr KF
          go_wp2
          exact ⟨⟨N - 1, by omega, by simp; omega, KN.out⟩, by simp [intOf]; omega⟩
    · obtain rfl : N = 0 := by omega
      have hgt : ¬ ((0 : Int) < 0) := by omega
      go_wp2_with fail
      refine (l1Below_any _ B c a n k _ K1.out.cu.1 (BY.out _ K1.out.cu.2) hB (by omega)).mono ?_
      rintro e w5 ⟨y5, rfl, hy50, hy51, cc, tt⟩
      have Hw5 : Hid (TX w c Q a n k 10 w5) := K1.out.step cc tt
      clear cc tt K1
      obtain ⟨m, rfl⟩ := Int.eq_ofNat_of_zero_le hy50
      have hm : m ≤ 4 := by omega
      clear hy50 hy51
      go_wp2
      go_loopw [8] (fun v5 wr => ∃ j : Nat, j ≤ 4 ∧ v5 = .int .i64 j ∧ TX w c Q a n k (20 - j) wr) (fun v5 _ => (intOf v5).toNat)
      case atStart => exact ⟨m, by omega, rfl, Hw5.out.mono (by omega)⟩
      case round =>
        obtain ⟨N, hj, rfl, hdx⟩ := hrel
        have K1 := hidOf hdx
        clear hdx Hw5 hm
        generalize wr = W1 at *
        by_cases hpos : 0 < N
        · have hgt : (0 : Int) < (N : Int) := by omega
          obtain ⟨⟨ar, cr, ah, ch⟩, t, PR, PS, hT, hl1, hl2⟩ := K1.out
          have HL : Hid (t.reads.length ≤ 20 - N ∧ t.sets.length ≤ 20 - N ∧ N ≤ 4 ∧ 0 < N) := ⟨hl1, hl2, hj, hpos⟩
          have CS : Hid (∀ (X : World) (s : S5), SlT X ⟨ar, cr, ah, ch⟩ t → Calls Try.prog 15 #[.agg #[.int .i64 t.id, .int .i64 t.home, .int .i64 t.phase, .int .i64 t.count, .slice ar t.reads.length cr, .slice ah t.sets.length ch, .int .i64 t.stamp], .agg #[.int .i64 s.region, .int .i64 s.slot, .int .i64 s.value, .bool s.used, .int .i64 s.version]] X (TAnsR X (addSe t s) (addSB t s))) := fun X s hs => specAddSet_anyR X ⟨ar, cr, ah, ch⟩ t s ⟨by have := HL.out; unfold maxLen; omega, by have := HL.out; unfold maxLen; omega⟩ hs (row_cap hT.tr.cs)
          have iD := hidOf (hT.step (Y := W1.drew) (hT.cu.drewN 1) ((Turned.refl _ _).drew))
          clear hT hl1 hl2 K1
          go_wp2_with fail
          refine wp_region_z (fun z => z == 10) (fun X : World => BT X Q ⟨ar, cr, ah, ch⟩ t) (by kernel_rfl) ?_
          generalize W1.drew = D at *
          have hS := iD.out.q
          refine wpZ_take (i := 0) (v := ?_) rfl (by kernel_rfl) (fun _ _ _ h => h) (Or.inl ⟨by rfl, ?_⟩) hS ?_
          rotate_left
          · (intro X hSw; obtain ⟨p0, p1, p2, p3, p4, p5, p6, -, -⟩ := hSw; dsimp only at p4 p5; go_simp; first | done | with_reducible rfl)
          simp only [Act.put]
          refine wpZ_takeP (i := 1) (v := ?_) rfl (by kernel_rfl) (fun _ _ _ h => h) (Or.inl ⟨by rfl, ?_⟩) hS ?_
          rotate_left
          · (intro X _; go_simp; first | done | with_reducible rfl)
          simp only [Act.put]
          refine wpZ_takeP (i := 2) (v := ?_) rfl (by kernel_rfl) (fun _ _ _ h => h) (Or.inl ⟨by rfl, ?_⟩) hS ?_
          rotate_left
          · (intro X _; go_simp; first | done | with_reducible rfl)
          simp only [Act.put]
          refine wpZ_ready (rs := [3, 9]) (by kernel_rfl) (by simp) ?_
          refine AllZ.cons rfl (fun K hK => ?_) (AllZ.cons rfl (fun K hK => ?_) AllZ.nil)
          · go_simp
            refine (l1Below_any D B c a n k 3 iD.out.cu (BY.out _ iD.out.tu) hB (by omega)).mono ?_
            rintro e C0 ⟨y3, rfl, hy30, hy31, cC0, tC0⟩
            have iC0 := hidOf (iD.out.step cC0 tC0)
            have HY : Hid (0 ≤ y3 ∧ y3 ≤ 1000) := ⟨hy30, by omega⟩
            clear hy30 hy31 cC0
            refine hK.out _ _ (fun _ => iC0.out.q) ?_
            clear hK K tC0
            have hS := iC0.out.q
            refine wpZ_ready (rs := [4, 9]) (by kernel_rfl) (by simp) ?_
            refine AllZ.cons rfl (fun K hK => ?_) (AllZ.cons rfl (fun K hK => ?_) AllZ.nil)
            · go_simp
              refine (l2DrawSet_any C0 B c a n k y3 HY.out iC0.out.cu (BY.out _ iC0.out.tu) hB).mono ?_
              rintro e C1 ⟨s, rfl, cC1, tC1⟩
              have iC1 := hidOf (iC0.out.step cC1 tC1)
              clear cC1
              refine hK.out _ _ (fun _ => iC1.out.q) ?_
              clear hK K tC1
              have hS := iC1.out.q
              refine wpZ_ready (rs := [5, 9]) (by kernel_rfl) (by simp) ?_
              refine AllZ.cons rfl (fun K hK => ?_) (AllZ.cons rfl (fun K hK => ?_) AllZ.nil)
              · go_simp
                refine (CS.out C1 s iC1.out.tr.sl).mono ?_
                rintro e C2 ⟨ya, yk, yh, yd, QR, QS, rfl, oA, bC2⟩
                have iC2 := hidOf (iC1.out.later bC2)
                have tC2 : Turned c C1 C2 := (Turned.refl _ _).of_below bC2
                have HU := hidOf (addSe_len t s)
                generalize addSe t s = u at *
                generalize addSB t s = ok at *
                have hQ : Hid (¬ OfT QR QS Q) := fun hh => by have := (oA.of hh).1; have := iC1.out.q.lt; omega
                have oA := hidOf (oA.low (B' := w.heap.size + 1) (fun x hx => by have := (oA.of hx).1; have := iC1.out.z.lt; omega))
                clear bC2
                refine hK.out _ _ (fun _ => iC2.out.q) ?_
                clear hK K tC2
                have hS := iC2.out.q
                refine wpZ_takeP (i := 6) (v := ?_) rfl (by kernel_rfl) (fun _ _ _ h => h) (Or.inl ⟨by rfl, ?_⟩) hS ?_
                rotate_left
                · (intro X _; go_simp; first | done | with_reducible rfl)
                simp only [Act.put]
                refine wpZ_takeP (i := 7) (v := ?_) rfl (by kernel_rfl) (fun _ _ _ h => h) (Or.inl ⟨by rfl, ?_⟩) hS ?_
                rotate_left
                · (intro X _; go_simp; first | done | with_reducible rfl)
                simp only [Act.put]
                refine wpZ_takeP (i := 8) (v := ?_) rfl (by kernel_rfl) (fun _ _ _ h => h) (Or.inl ⟨by rfl, ?_⟩) hS ?_
                rotate_left
                · (intro X _; go_simp; first | done | with_reducible rfl)
                simp only [Act.put]
                refine wpZ_ready (rs := [9]) (by kernel_rfl) (by simp) ?_
                refine AllZ.cons rfl (fun K hK => ?_) AllZ.nil
                go_simp
                obtain ⟨A3, hA3⟩ : ∃ X, X = C2.alloc (.cells #[.int .i64 0, .int .i64 0, .int .i64 0, .int .i64 0, .slice none 0 0, .slice none 0 0, .int .i64 0] 27) := ⟨_, rfl⟩
                rw [← hA3]
                have bA3 : Below C2.heap.size C2 A3 := by rw [hA3]; exact (Below.refl _ _).alloc (Nat.le_refl _) _
                have zA3 := hidOf (show BT A3 C2.heap.size ⟨none, 0, none, 0⟩ ⟨0, 0, 0, 0, [], [], 0⟩ by rw [hA3]; exact BT.zero C2 _)
                have iA3 := hidOf (iC2.out.later bA3)
                have lA3 : Hid (w.heap.size < C2.heap.size ∧ C2.heap.size ≠ Q ∧ ¬ OfT PR PS C2.heap.size) := ⟨by have := iC2.out.z.lt; omega, by have := iC2.out.q.lt; omega, fun hh => by have := (iC2.out.tr.of hh).2; omega⟩
                have hne : Hid (∀ x, OfT QR QS x → x ≠ C2.heap.size) := fun x hx => by have := (oA.out.of hx).2; omega
                have oA := hidOf (oA.out.later bA3)
                refine hK.out _ _ (fun _ => iA3.out.q) ?_
                clear hK K
                have hS := iA3.out.q
                clear hA3 bA3
                obtain ⟨r0, r1, r2, r3, r4, r5, r6, fr, -⟩ := zA3.out
                have f0 := fr 0
                have f1 := fr 1
                have f2 := fr 2
                have f3 := fr 3
                have f4 := fr 4
                have f5 := fr 5
                have f6 := fr 6
                clear fr
                dsimp only at r0 r1 r2 r3 r4 r5 r6
                refine wpZ_ready (rs := [10]) (by kernel_rfl) (by simp) ?_
                refine AllZ.cons rfl (fun K hK => ?_) AllZ.nil
                go_simp
                refine hK.out _ _ (fun h => absurd (show false = true from h.symm.trans (by kernel_rfl)) (by decide)) ?_
                clear hK K
                refine wpZ_ready (rs := [11]) (by kernel_rfl) (by simp) ?_
                refine AllZ.cons rfl (fun K hK => ?_) AllZ.nil
                go_simp
                refine hK.out _ _ (fun h => absurd (show false = true from h.symm.trans (by kernel_rfl)) (by decide)) ?_
                clear hK K
                refine wpZ_done (by kernel_rfl) ?_ _
                clear r0 r1 r2 r3 r4 r5 r6 f0 f1 f2 f3 f4 f5 f6 hS
                have KF : Hid (TI w c Q a n k ⟨ar, cr, ah, ch⟩ t PR PS (((((((A3.setCell ⟨C2.heap.size, 0, none⟩ (.int .i64 u.id)).setCell ⟨C2.heap.size, 1, none⟩ (.int .i64 u.home)).setCell ⟨C2.heap.size, 2, none⟩ (.int .i64 u.phase)).setCell ⟨C2.heap.size, 3, none⟩ (.int .i64 u.count)).setCell ⟨C2.heap.size, 4, none⟩ (.slice ya u.reads.length yk)).setCell ⟨C2.heap.size, 5, none⟩ (.slice yh u.sets.length yd)).setCell ⟨C2.heap.size, 6, none⟩ (.int .i64 u.stamp)) ∧ BT (((((((A3.setCell ⟨C2.heap.size, 0, none⟩ (.int .i64 u.id)).setCell ⟨C2.heap.size, 1, none⟩ (.int .i64 u.home)).setCell ⟨C2.heap.size, 2, none⟩ (.int .i64 u.phase)).setCell ⟨C2.heap.size, 3, none⟩ (.int .i64 u.count)).setCell ⟨C2.heap.size, 4, none⟩ (.slice ya u.reads.length yk)).setCell ⟨C2.heap.size, 5, none⟩ (.slice yh u.sets.length yd)).setCell ⟨C2.heap.size, 6, none⟩ (.int .i64 u.stamp)) (C2.heap.size) ⟨ya, yk, yh, yd⟩ u ∧ TR (((((((A3.setCell ⟨C2.heap.size, 0, none⟩ (.int .i64 u.id)).setCell ⟨C2.heap.size, 1, none⟩ (.int .i64 u.home)).setCell ⟨C2.heap.size, 2, none⟩ (.int .i64 u.phase)).setCell ⟨C2.heap.size, 3, none⟩ (.int .i64 u.count)).setCell ⟨C2.heap.size, 4, none⟩ (.slice ya u.reads.length yk)).setCell ⟨C2.heap.size, 5, none⟩ (.slice yh u.sets.length yd)).setCell ⟨C2.heap.size, 6, none⟩ (.int .i64 u.stamp)) (w.heap.size + 1) ⟨ya, yk, yh, yd⟩ u QR QS) := ⟨iA3.out.putFar lA3.out.1 lA3.out.2.1 lA3.out.2.2 ⟨ya, yk, yh, yd⟩ u, zA3.out.put ⟨ya, yk, yh, yd⟩ u, oA.out.keep (w' := putT A3 (C2.heap.size) ⟨ya, yk, yh, yd⟩ u) (by rw [putT_size]; exact Nat.le_refl _) (fun x _ hx => putT_block (hne.out x hx))⟩
                generalize (((((((A3.setCell ⟨C2.heap.size, 0, none⟩ (.int .i64 u.id)).setCell ⟨C2.heap.size, 1, none⟩ (.int .i64 u.home)).setCell ⟨C2.heap.size, 2, none⟩ (.int .i64 u.phase)).setCell ⟨C2.heap.size, 3, none⟩ (.int .i64 u.count)).setCell ⟨C2.heap.size, 4, none⟩ (.slice ya u.reads.length yk)).setCell ⟨C2.heap.size, 5, none⟩ (.slice yh u.sets.length yd)).setCell ⟨C2.heap.size, 6, none⟩ (.int .i64 u.stamp)) = Y2 at *
                generalize C2.heap.size = qb at *
                cases ok
                · have KN : Hid (TX w c Q a n k (20 - (N - 1)) Y2) := ⟨_, _, _, _, KF.out.1, by have := HL.out; omega, by have := HL.out; omega⟩
                  clear KF
                  go_wp2
                  exact ⟨⟨N - 1, by omega, by simp; omega, KN.out⟩, by simp [intOf]; omega⟩
                · have KN : Hid (TX w c Q a n k (20 - (N - 1)) (((((((Y2.setCell ⟨Q, 0, none⟩ (.int .i64 u.id)).setCell ⟨Q, 1, none⟩ (.int .i64 u.home)).setCell ⟨Q, 2, none⟩ (.int .i64 u.phase)).setCell ⟨Q, 3, none⟩ (.int .i64 u.count)).setCell ⟨Q, 4, none⟩ (.slice ya u.reads.length yk)).setCell ⟨Q, 5, none⟩ (.slice yh u.sets.length yd)).setCell ⟨Q, 6, none⟩ (.int .i64 u.stamp))) := ⟨⟨ya, yk, yh, yd⟩, u, QR, QS, KF.out.1.take KF.out.2.2 hQ.out, by have := HL.out; have := HU.out; omega, by have := HL.out; have := HU.out; omega⟩
                  obtain ⟨r0, r1, r2, r3, r4, r5, r6, -, -⟩ := KF.out.2.1
                  obtain ⟨s0, s1, s2, s3, s4, s5, s6, fr, -⟩ := KF.out.1.q
                  dsimp only at r4 r5 s4 s5
                  have f0 := fr 0
                  have f1 := fr 1
                  have f2 := fr 2
                  have f3 := fr 3
                  have f4 := fr 4
                  have f5 := fr 5
                  have f6 := fr 6
                  clear fr KF
                  go_wp2
                  exact ⟨⟨N - 1, by omega, by simp; omega, KN.out⟩, by simp [intOf]; omega⟩
              · go_simp
                obtain ⟨A2, hA2⟩ : ∃ X, X = C1.alloc (.cells #[.int .i64 0, .int .i64 0, .int .i64 0, .int .i64 0, .slice none 0 0, .slice none 0 0, .int .i64 0] 27) := ⟨_, rfl⟩
                rw [← hA2]
                have bA2 : Below C1.heap.size C1 A2 := by rw [hA2]; exact (Below.refl _ _).alloc (Nat.le_refl _) _
                have zA2 := hidOf (show BT A2 C1.heap.size ⟨none, 0, none, 0⟩ ⟨0, 0, 0, 0, [], [], 0⟩ by rw [hA2]; exact BT.zero C1 _)
                have iA2 := hidOf (iC1.out.later bA2)
                have lA2 : Hid (w.heap.size < C1.heap.size ∧ C1.heap.size ≠ Q ∧ ¬ OfT PR PS C1.heap.size) := ⟨by have := iC1.out.z.lt; omega, by have := iC1.out.q.lt; omega, fun hh => by have := (iC1.out.tr.of hh).2; omega⟩
                refine hK.out _ _ (fun _ => iA2.out.q) ?_
                clear hK K
                have hS := iA2.out.q
                clear hA2 bA2
                refine wpZ_ready (rs := [5]) (by kernel_rfl) (by simp) ?_
                refine AllZ.cons rfl (fun K hK => ?_) AllZ.nil
                go_simp
                refine (CS.out A2 s iA2.out.tr.sl).mono ?_
                rintro e C3 ⟨ya, yk, yh, yd, QR, QS, rfl, oA, bC3⟩
                have iC3 := hidOf (iA2.out.later bC3)
                have tC3 : Turned c A2 C3 := (Turned.refl _ _).of_below bC3
                have HU := hidOf (addSe_len t s)
                generalize addSe t s = u at *
                generalize addSB t s = ok at *
                have hQ : Hid (¬ OfT QR QS Q) := fun hh => by have := (oA.of hh).1; have := iA2.out.q.lt; omega
                have hne : Hid (∀ x, OfT QR QS x → x ≠ C1.heap.size) := fun x hx => by have := (oA.of hx).1; have := zA2.out.lt; omega
                have oA := hidOf (oA.low (B' := w.heap.size + 1) (fun x hx => by have := (oA.of hx).1; have := iA2.out.z.lt; omega))
                clear bC3
                have yC3 := hidOf (zA2.out.of_block (tC3.block _ zA2.out.lt (by have := lA2.out.1; have := iA2.out.lq; omega)) tC3.size)
                refine hK.out _ _ (fun _ => iC3.out.q) ?_
                clear hK K tC3
                have hS := iC3.out.q
                refine wpZ_takeP (i := 6) (v := ?_) rfl (by kernel_rfl) (fun _ _ _ h => h) (Or.inl ⟨by rfl, ?_⟩) hS ?_
                rotate_left
                · (intro X _; go_simp; first | done | with_reducible rfl)
                simp only [Act.put]
                refine wpZ_takeP (i := 7) (v := ?_) rfl (by kernel_rfl) (fun _ _ _ h => h) (Or.inl ⟨by rfl, ?_⟩) hS ?_
                rotate_left
                · (intro X _; go_simp; first | done | with_reducible rfl)
                simp only [Act.put]
                refine wpZ_takeP (i := 8) (v := ?_) rfl (by kernel_rfl) (fun _ _ _ h => h) (Or.inl ⟨by rfl, ?_⟩) hS ?_
                rotate_left
                · (intro X _; go_simp; first | done | with_reducible rfl)
                simp only [Act.put]
                obtain ⟨r0, r1, r2, r3, r4, r5, r6, fr, -⟩ := yC3.out
                have f0 := fr 0
                have f1 := fr 1
                have f2 := fr 2
                have f3 := fr 3
                have f4 := fr 4
                have f5 := fr 5
                have f6 := fr 6
                clear fr
                dsimp only at r0 r1 r2 r3 r4 r5 r6
                refine wpZ_ready (rs := [10]) (by kernel_rfl) (by simp) ?_
                refine AllZ.cons rfl (fun K hK => ?_) AllZ.nil
                go_simp
                refine hK.out _ _ (fun h => absurd (show false = true from h.symm.trans (by kernel_rfl)) (by decide)) ?_
                clear hK K
                refine wpZ_ready (rs := [11]) (by kernel_rfl) (by simp) ?_
                refine AllZ.cons rfl (fun K hK => ?_) AllZ.nil
                go_simp
                refine hK.out _ _ (fun h => absurd (show false = true from h.symm.trans (by kernel_rfl)) (by decide)) ?_
                clear hK K
                refine wpZ_done (by kernel_rfl) ?_ _
                clear r0 r1 r2 r3 r4 r5 r6 f0 f1 f2 f3 f4 f5 f6 hS
                have KF : Hid (TI w c Q a n k ⟨ar, cr, ah, ch⟩ t PR PS (((((((C3.setCell ⟨C1.heap.size, 0, none⟩ (.int .i64 u.id)).setCell ⟨C1.heap.size, 1, none⟩ (.int .i64 u.home)).setCell ⟨C1.heap.size, 2, none⟩ (.int .i64 u.phase)).setCell ⟨C1.heap.size, 3, none⟩ (.int .i64 u.count)).setCell ⟨C1.heap.size, 4, none⟩ (.slice ya u.reads.length yk)).setCell ⟨C1.heap.size, 5, none⟩ (.slice yh u.sets.length yd)).setCell ⟨C1.heap.size, 6, none⟩ (.int .i64 u.stamp)) ∧ BT (((((((C3.setCell ⟨C1.heap.size, 0, none⟩ (.int .i64 u.id)).setCell ⟨C1.heap.size, 1, none⟩ (.int .i64 u.home)).setCell ⟨C1.heap.size, 2, none⟩ (.int .i64 u.phase)).setCell ⟨C1.heap.size, 3, none⟩ (.int .i64 u.count)).setCell ⟨C1.heap.size, 4, none⟩ (.slice ya u.reads.length yk)).setCell ⟨C1.heap.size, 5, none⟩ (.slice yh u.sets.length yd)).setCell ⟨C1.heap.size, 6, none⟩ (.int .i64 u.stamp)) (C1.heap.size) ⟨ya, yk, yh, yd⟩ u ∧ TR (((((((C3.setCell ⟨C1.heap.size, 0, none⟩ (.int .i64 u.id)).setCell ⟨C1.heap.size, 1, none⟩ (.int .i64 u.home)).setCell ⟨C1.heap.size, 2, none⟩ (.int .i64 u.phase)).setCell ⟨C1.heap.size, 3, none⟩ (.int .i64 u.count)).setCell ⟨C1.heap.size, 4, none⟩ (.slice ya u.reads.length yk)).setCell ⟨C1.heap.size, 5, none⟩ (.slice yh u.sets.length yd)).setCell ⟨C1.heap.size, 6, none⟩ (.int .i64 u.stamp)) (w.heap.size + 1) ⟨ya, yk, yh, yd⟩ u QR QS) := ⟨iC3.out.putFar lA2.out.1 lA2.out.2.1 lA2.out.2.2 ⟨ya, yk, yh, yd⟩ u, yC3.out.put ⟨ya, yk, yh, yd⟩ u, oA.out.keep (w' := putT C3 (C1.heap.size) ⟨ya, yk, yh, yd⟩ u) (by rw [putT_size]; exact Nat.le_refl _) (fun x _ hx => putT_block (hne.out x hx))⟩
                generalize (((((((C3.setCell ⟨C1.heap.size, 0, none⟩ (.int .i64 u.id)).setCell ⟨C1.heap.size, 1, none⟩ (.int .i64 u.home)).setCell ⟨C1.heap.size, 2, none⟩ (.int .i64 u.phase)).setCell ⟨C1.heap.size, 3, none⟩ (.int .i64 u.count)).setCell ⟨C1.heap.size, 4, none⟩ (.slice ya u.reads.length yk)).setCell ⟨C1.heap.size, 5, none⟩ (.slice yh u.sets.length yd)).setCell ⟨C1.heap.size, 6, none⟩ (.int .i64 u.stamp)) = Y2 at *
                generalize C1.heap.size = qb at *
                cases ok
                · have KN : Hid (TX w c Q a n k (20 - (N - 1)) Y2) := ⟨_, _, _, _, KF.out.1, by have := HL.out; omega, by have := HL.out; omega⟩
                  clear KF
                  go_wp2
                  exact ⟨⟨N - 1, by omega, by simp; omega, KN.out⟩, by simp [intOf]; omega⟩
                · have KN : Hid (TX w c Q a n k (20 - (N - 1)) (((((((Y2.setCell ⟨Q, 0, none⟩ (.int .i64 u.id)).setCell ⟨Q, 1, none⟩ (.int .i64 u.home)).setCell ⟨Q, 2, none⟩ (.int .i64 u.phase)).setCell ⟨Q, 3, none⟩ (.int .i64 u.count)).setCell ⟨Q, 4, none⟩ (.slice ya u.reads.length yk)).setCell ⟨Q, 5, none⟩ (.slice yh u.sets.length yd)).setCell ⟨Q, 6, none⟩ (.int .i64 u.stamp))) := ⟨⟨ya, yk, yh, yd⟩, u, QR, QS, KF.out.1.take KF.out.2.2 hQ.out, by have := HL.out; have := HU.out; omega, by have := HL.out; have := HU.out; omega⟩
                  obtain ⟨r0, r1, r2, r3, r4, r5, r6, -, -⟩ := KF.out.2.1
                  obtain ⟨s0, s1, s2, s3, s4, s5, s6, fr, -⟩ := KF.out.1.q
                  dsimp only at r4 r5 s4 s5
                  have f0 := fr 0
                  have f1 := fr 1
                  have f2 := fr 2
                  have f3 := fr 3
                  have f4 := fr 4
                  have f5 := fr 5
                  have f6 := fr 6
                  clear fr KF
                  go_wp2
                  exact ⟨⟨N - 1, by omega, by simp; omega, KN.out⟩, by simp [intOf]; omega⟩
            · go_simp
              obtain ⟨A1, hA1⟩ : ∃ X, X = C0.alloc (.cells #[.int .i64 0, .int .i64 0, .int .i64 0, .int .i64 0, .slice none 0 0, .slice none 0 0, .int .i64 0] 27) := ⟨_, rfl⟩
              rw [← hA1]
              have bA1 : Below C0.heap.size C0 A1 := by rw [hA1]; exact (Below.refl _ _).alloc (Nat.le_refl _) _
              have zA1 := hidOf (show BT A1 C0.heap.size ⟨none, 0, none, 0⟩ ⟨0, 0, 0, 0, [], [], 0⟩ by rw [hA1]; exact BT.zero C0 _)
              have iA1 := hidOf (iC0.out.later bA1)
              have lA1 : Hid (w.heap.size < C0.heap.size ∧ C0.heap.size ≠ Q ∧ ¬ OfT PR PS C0.heap.size) := ⟨by have := iC0.out.z.lt; omega, by have := iC0.out.q.lt; omega, fun hh => by have := (iC0.out.tr.of hh).2; omega⟩
              refine hK.out _ _ (fun _ => iA1.out.q) ?_
              clear hK K
              have hS := iA1.out.q
              clear hA1 bA1
              refine wpZ_ready (rs := [4]) (by kernel_rfl) (by simp) ?_
              refine AllZ.cons rfl (fun K hK => ?_) AllZ.nil
              go_simp
              refine (l2DrawSet_any A1 B c a n k y3 HY.out iA1.out.cu (BY.out _ iA1.out.tu) hB).mono ?_
              rintro e C2 ⟨s, rfl, cC2, tC2⟩
              have iC2 := hidOf (iA1.out.step cC2 tC2)
              clear cC2
              have yC2 := hidOf (zA1.out.of_block (tC2.block _ zA1.out.lt (by have := lA1.out.1; have := iA1.out.lq; omega)) tC2.size)
              refine hK.out _ _ (fun _ => iC2.out.q) ?_
              clear hK K tC2
              have hS := iC2.out.q
              refine wpZ_ready (rs := [5]) (by kernel_rfl) (by simp) ?_
              refine AllZ.cons rfl (fun K hK => ?_) AllZ.nil
              go_simp
              refine (CS.out C2 s iC2.out.tr.sl).mono ?_
              rintro e C3 ⟨ya, yk, yh, yd, QR, QS, rfl, oA, bC3⟩
              have iC3 := hidOf (iC2.out.later bC3)
              have tC3 : Turned c C2 C3 := (Turned.refl _ _).of_below bC3
              have HU := hidOf (addSe_len t s)
              generalize addSe t s = u at *
              generalize addSB t s = ok at *
              have hQ : Hid (¬ OfT QR QS Q) := fun hh => by have := (oA.of hh).1; have := iC2.out.q.lt; omega
              have hne : Hid (∀ x, OfT QR QS x → x ≠ C0.heap.size) := fun x hx => by have := (oA.of hx).1; have := yC2.out.lt; omega
              have oA := hidOf (oA.low (B' := w.heap.size + 1) (fun x hx => by have := (oA.of hx).1; have := iC2.out.z.lt; omega))
              clear bC3
              have yC3 := hidOf (yC2.out.of_block (tC3.block _ yC2.out.lt (by have := lA1.out.1; have := iC2.out.lq; omega)) tC3.size)
              refine hK.out _ _ (fun _ => iC3.out.q) ?_
              clear hK K tC3
              have hS := iC3.out.q
              refine wpZ_takeP (i := 6) (v := ?_) rfl (by kernel_rfl) (fun _ _ _ h => h) (Or.inl ⟨by rfl, ?_⟩) hS ?_
              rotate_left
              · (intro X _; go_simp; first | done | with_reducible rfl)
              simp only [Act.put]
              refine wpZ_takeP (i := 7) (v := ?_) rfl (by kernel_rfl) (fun _ _ _ h => h) (Or.inl ⟨by rfl, ?_⟩) hS ?_
              rotate_left
              · (intro X _; go_simp; first | done | with_reducible rfl)
              simp only [Act.put]
              refine wpZ_takeP (i := 8) (v := ?_) rfl (by kernel_rfl) (fun _ _ _ h => h) (Or.inl ⟨by rfl, ?_⟩) hS ?_
              rotate_left
              · (intro X _; go_simp; first | done | with_reducible rfl)
              simp only [Act.put]
              obtain ⟨r0, r1, r2, r3, r4, r5, r6, fr, -⟩ := yC3.out
              have f0 := fr 0
              have f1 := fr 1
              have f2 := fr 2
              have f3 := fr 3
              have f4 := fr 4
              have f5 := fr 5
              have f6 := fr 6
              clear fr
              dsimp only at r0 r1 r2 r3 r4 r5 r6
              refine wpZ_ready (rs := [10]) (by kernel_rfl) (by simp) ?_
              refine AllZ.cons rfl (fun K hK => ?_) AllZ.nil
              go_simp
              refine hK.out _ _ (fun h => absurd (show false = true from h.symm.trans (by kernel_rfl)) (by decide)) ?_
              clear hK K
              refine wpZ_ready (rs := [11]) (by kernel_rfl) (by simp) ?_
              refine AllZ.cons rfl (fun K hK => ?_) AllZ.nil
              go_simp
              refine hK.out _ _ (fun h => absurd (show false = true from h.symm.trans (by kernel_rfl)) (by decide)) ?_
              clear hK K
              refine wpZ_done (by kernel_rfl) ?_ _
              clear r0 r1 r2 r3 r4 r5 r6 f0 f1 f2 f3 f4 f5 f6 hS
              have KF : Hid (TI w c Q a n k ⟨ar, cr, ah, ch⟩ t PR PS (((((((C3.setCell ⟨C0.heap.size, 0, none⟩ (.int .i64 u.id)).setCell ⟨C0.heap.size, 1, none⟩ (.int .i64 u.home)).setCell ⟨C0.heap.size, 2, none⟩ (.int .i64 u.phase)).setCell ⟨C0.heap.size, 3, none⟩ (.int .i64 u.count)).setCell ⟨C0.heap.size, 4, none⟩ (.slice ya u.reads.length yk)).setCell ⟨C0.heap.size, 5, none⟩ (.slice yh u.sets.length yd)).setCell ⟨C0.heap.size, 6, none⟩ (.int .i64 u.stamp)) ∧ BT (((((((C3.setCell ⟨C0.heap.size, 0, none⟩ (.int .i64 u.id)).setCell ⟨C0.heap.size, 1, none⟩ (.int .i64 u.home)).setCell ⟨C0.heap.size, 2, none⟩ (.int .i64 u.phase)).setCell ⟨C0.heap.size, 3, none⟩ (.int .i64 u.count)).setCell ⟨C0.heap.size, 4, none⟩ (.slice ya u.reads.length yk)).setCell ⟨C0.heap.size, 5, none⟩ (.slice yh u.sets.length yd)).setCell ⟨C0.heap.size, 6, none⟩ (.int .i64 u.stamp)) (C0.heap.size) ⟨ya, yk, yh, yd⟩ u ∧ TR (((((((C3.setCell ⟨C0.heap.size, 0, none⟩ (.int .i64 u.id)).setCell ⟨C0.heap.size, 1, none⟩ (.int .i64 u.home)).setCell ⟨C0.heap.size, 2, none⟩ (.int .i64 u.phase)).setCell ⟨C0.heap.size, 3, none⟩ (.int .i64 u.count)).setCell ⟨C0.heap.size, 4, none⟩ (.slice ya u.reads.length yk)).setCell ⟨C0.heap.size, 5, none⟩ (.slice yh u.sets.length yd)).setCell ⟨C0.heap.size, 6, none⟩ (.int .i64 u.stamp)) (w.heap.size + 1) ⟨ya, yk, yh, yd⟩ u QR QS) := ⟨iC3.out.putFar lA1.out.1 lA1.out.2.1 lA1.out.2.2 ⟨ya, yk, yh, yd⟩ u, yC3.out.put ⟨ya, yk, yh, yd⟩ u, oA.out.keep (w' := putT C3 (C0.heap.size) ⟨ya, yk, yh, yd⟩ u) (by rw [putT_size]; exact Nat.le_refl _) (fun x _ hx => putT_block (hne.out x hx))⟩
              generalize (((((((C3.setCell ⟨C0.heap.size, 0, none⟩ (.int .i64 u.id)).setCell ⟨C0.heap.size, 1, none⟩ (.int .i64 u.home)).setCell ⟨C0.heap.size, 2, none⟩ (.int .i64 u.phase)).setCell ⟨C0.heap.size, 3, none⟩ (.int .i64 u.count)).setCell ⟨C0.heap.size, 4, none⟩ (.slice ya u.reads.length yk)).setCell ⟨C0.heap.size, 5, none⟩ (.slice yh u.sets.length yd)).setCell ⟨C0.heap.size, 6, none⟩ (.int .i64 u.stamp)) = Y2 at *
              generalize C0.heap.size = qb at *
              cases ok
              · have KN : Hid (TX w c Q a n k (20 - (N - 1)) Y2) := ⟨_, _, _, _, KF.out.1, by have := HL.out; omega, by have := HL.out; omega⟩
                clear KF
                go_wp2
                exact ⟨⟨N - 1, by omega, by simp; omega, KN.out⟩, by simp [intOf]; omega⟩
              · have KN : Hid (TX w c Q a n k (20 - (N - 1)) (((((((Y2.setCell ⟨Q, 0, none⟩ (.int .i64 u.id)).setCell ⟨Q, 1, none⟩ (.int .i64 u.home)).setCell ⟨Q, 2, none⟩ (.int .i64 u.phase)).setCell ⟨Q, 3, none⟩ (.int .i64 u.count)).setCell ⟨Q, 4, none⟩ (.slice ya u.reads.length yk)).setCell ⟨Q, 5, none⟩ (.slice yh u.sets.length yd)).setCell ⟨Q, 6, none⟩ (.int .i64 u.stamp))) := ⟨⟨ya, yk, yh, yd⟩, u, QR, QS, KF.out.1.take KF.out.2.2 hQ.out, by have := HL.out; have := HU.out; omega, by have := HL.out; have := HU.out; omega⟩
                obtain ⟨r0, r1, r2, r3, r4, r5, r6, -, -⟩ := KF.out.2.1
                obtain ⟨s0, s1, s2, s3, s4, s5, s6, fr, -⟩ := KF.out.1.q
                dsimp only at r4 r5 s4 s5
                have f0 := fr 0
                have f1 := fr 1
                have f2 := fr 2
                have f3 := fr 3
                have f4 := fr 4
                have f5 := fr 5
                have f6 := fr 6
                clear fr KF
                go_wp2
                exact ⟨⟨N - 1, by omega, by simp; omega, KN.out⟩, by simp [intOf]; omega⟩
          · go_simp
            obtain ⟨A0, hA0⟩ : ∃ X, X = D.alloc (.cells #[.int .i64 0, .int .i64 0, .int .i64 0, .int .i64 0, .slice none 0 0, .slice none 0 0, .int .i64 0] 27) := ⟨_, rfl⟩
            rw [← hA0]
            have bA0 : Below D.heap.size D A0 := by rw [hA0]; exact (Below.refl _ _).alloc (Nat.le_refl _) _
            have zA0 := hidOf (show BT A0 D.heap.size ⟨none, 0, none, 0⟩ ⟨0, 0, 0, 0, [], [], 0⟩ by rw [hA0]; exact BT.zero D _)
            have iA0 := hidOf (iD.out.later bA0)
            have lA0 : Hid (w.heap.size < D.heap.size ∧ D.heap.size ≠ Q ∧ ¬ OfT PR PS D.heap.size) := ⟨by have := iD.out.z.lt; omega, by have := iD.out.q.lt; omega, fun hh => by have := (iD.out.tr.of hh).2; omega⟩
            refine hK.out _ _ (fun _ => iA0.out.q) ?_
            clear hK K
            have hS := iA0.out.q
            clear hA0 bA0
            refine wpZ_ready (rs := [3]) (by kernel_rfl) (by simp) ?_
            refine AllZ.cons rfl (fun K hK => ?_) AllZ.nil
            go_simp
            refine (l1Below_any A0 B c a n k 3 iA0.out.cu (BY.out _ iA0.out.tu) hB (by omega)).mono ?_
            rintro e C1 ⟨y3, rfl, hy30, hy31, cC1, tC1⟩
            have iC1 := hidOf (iA0.out.step cC1 tC1)
            have HY : Hid (0 ≤ y3 ∧ y3 ≤ 1000) := ⟨hy30, by omega⟩
            clear hy30 hy31 cC1
            have yC1 := hidOf (zA0.out.of_block (tC1.block _ zA0.out.lt (by have := lA0.out.1; have := iA0.out.lq; omega)) tC1.size)
            refine hK.out _ _ (fun _ => iC1.out.q) ?_
            clear hK K tC1
            have hS := iC1.out.q
            refine wpZ_ready (rs := [4]) (by kernel_rfl) (by simp) ?_
            refine AllZ.cons rfl (fun K hK => ?_) AllZ.nil
            go_simp
            refine (l2DrawSet_any C1 B c a n k y3 HY.out iC1.out.cu (BY.out _ iC1.out.tu) hB).mono ?_
            rintro e C2 ⟨s, rfl, cC2, tC2⟩
            have iC2 := hidOf (iC1.out.step cC2 tC2)
            clear cC2
            have yC2 := hidOf (yC1.out.of_block (tC2.block _ yC1.out.lt (by have := lA0.out.1; have := iC1.out.lq; omega)) tC2.size)
            refine hK.out _ _ (fun _ => iC2.out.q) ?_
            clear hK K tC2
            have hS := iC2.out.q
            refine wpZ_ready (rs := [5]) (by kernel_rfl) (by simp) ?_
            refine AllZ.cons rfl (fun K hK => ?_) AllZ.nil
            go_simp
            refine (CS.out C2 s iC2.out.tr.sl).mono ?_
            rintro e C3 ⟨ya, yk, yh, yd, QR, QS, rfl, oA, bC3⟩
            have iC3 := hidOf (iC2.out.later bC3)
            have tC3 : Turned c C2 C3 := (Turned.refl _ _).of_below bC3
            have HU := hidOf (addSe_len t s)
            generalize addSe t s = u at *
            generalize addSB t s = ok at *
            have hQ : Hid (¬ OfT QR QS Q) := fun hh => by have := (oA.of hh).1; have := iC2.out.q.lt; omega
            have hne : Hid (∀ x, OfT QR QS x → x ≠ D.heap.size) := fun x hx => by have := (oA.of hx).1; have := yC2.out.lt; omega
            have oA := hidOf (oA.low (B' := w.heap.size + 1) (fun x hx => by have := (oA.of hx).1; have := iC2.out.z.lt; omega))
            clear bC3
            have yC3 := hidOf (yC2.out.of_block (tC3.block _ yC2.out.lt (by have := lA0.out.1; have := iC2.out.lq; omega)) tC3.size)
            refine hK.out _ _ (fun _ => iC3.out.q) ?_
            clear hK K tC3
            have hS := iC3.out.q
            refine wpZ_takeP (i := 6) (v := ?_) rfl (by kernel_rfl) (fun _ _ _ h => h) (Or.inl ⟨by rfl, ?_⟩) hS ?_
            rotate_left
            · (intro X _; go_simp; first | done | with_reducible rfl)
            simp only [Act.put]
            refine wpZ_takeP (i := 7) (v := ?_) rfl (by kernel_rfl) (fun _ _ _ h => h) (Or.inl ⟨by rfl, ?_⟩) hS ?_
            rotate_left
            · (intro X _; go_simp; first | done | with_reducible rfl)
            simp only [Act.put]
            refine wpZ_takeP (i := 8) (v := ?_) rfl (by kernel_rfl) (fun _ _ _ h => h) (Or.inl ⟨by rfl, ?_⟩) hS ?_
            rotate_left
            · (intro X _; go_simp; first | done | with_reducible rfl)
            simp only [Act.put]
            obtain ⟨r0, r1, r2, r3, r4, r5, r6, fr, -⟩ := yC3.out
            have f0 := fr 0
            have f1 := fr 1
            have f2 := fr 2
            have f3 := fr 3
            have f4 := fr 4
            have f5 := fr 5
            have f6 := fr 6
            clear fr
            dsimp only at r0 r1 r2 r3 r4 r5 r6
            refine wpZ_ready (rs := [10]) (by kernel_rfl) (by simp) ?_
            refine AllZ.cons rfl (fun K hK => ?_) AllZ.nil
            go_simp
            refine hK.out _ _ (fun h => absurd (show false = true from h.symm.trans (by kernel_rfl)) (by decide)) ?_
            clear hK K
            refine wpZ_ready (rs := [11]) (by kernel_rfl) (by simp) ?_
            refine AllZ.cons rfl (fun K hK => ?_) AllZ.nil
            go_simp
            refine hK.out _ _ (fun h => absurd (show false = true from h.symm.trans (by kernel_rfl)) (by decide)) ?_
            clear hK K
            refine wpZ_done (by kernel_rfl) ?_ _
            clear r0 r1 r2 r3 r4 r5 r6 f0 f1 f2 f3 f4 f5 f6 hS
            have KF : Hid (TI w c Q a n k ⟨ar, cr, ah, ch⟩ t PR PS (((((((C3.setCell ⟨D.heap.size, 0, none⟩ (.int .i64 u.id)).setCell ⟨D.heap.size, 1, none⟩ (.int .i64 u.home)).setCell ⟨D.heap.size, 2, none⟩ (.int .i64 u.phase)).setCell ⟨D.heap.size, 3, none⟩ (.int .i64 u.count)).setCell ⟨D.heap.size, 4, none⟩ (.slice ya u.reads.length yk)).setCell ⟨D.heap.size, 5, none⟩ (.slice yh u.sets.length yd)).setCell ⟨D.heap.size, 6, none⟩ (.int .i64 u.stamp)) ∧ BT (((((((C3.setCell ⟨D.heap.size, 0, none⟩ (.int .i64 u.id)).setCell ⟨D.heap.size, 1, none⟩ (.int .i64 u.home)).setCell ⟨D.heap.size, 2, none⟩ (.int .i64 u.phase)).setCell ⟨D.heap.size, 3, none⟩ (.int .i64 u.count)).setCell ⟨D.heap.size, 4, none⟩ (.slice ya u.reads.length yk)).setCell ⟨D.heap.size, 5, none⟩ (.slice yh u.sets.length yd)).setCell ⟨D.heap.size, 6, none⟩ (.int .i64 u.stamp)) (D.heap.size) ⟨ya, yk, yh, yd⟩ u ∧ TR (((((((C3.setCell ⟨D.heap.size, 0, none⟩ (.int .i64 u.id)).setCell ⟨D.heap.size, 1, none⟩ (.int .i64 u.home)).setCell ⟨D.heap.size, 2, none⟩ (.int .i64 u.phase)).setCell ⟨D.heap.size, 3, none⟩ (.int .i64 u.count)).setCell ⟨D.heap.size, 4, none⟩ (.slice ya u.reads.length yk)).setCell ⟨D.heap.size, 5, none⟩ (.slice yh u.sets.length yd)).setCell ⟨D.heap.size, 6, none⟩ (.int .i64 u.stamp)) (w.heap.size + 1) ⟨ya, yk, yh, yd⟩ u QR QS) := ⟨iC3.out.putFar lA0.out.1 lA0.out.2.1 lA0.out.2.2 ⟨ya, yk, yh, yd⟩ u, yC3.out.put ⟨ya, yk, yh, yd⟩ u, oA.out.keep (w' := putT C3 (D.heap.size) ⟨ya, yk, yh, yd⟩ u) (by rw [putT_size]; exact Nat.le_refl _) (fun x _ hx => putT_block (hne.out x hx))⟩
            generalize (((((((C3.setCell ⟨D.heap.size, 0, none⟩ (.int .i64 u.id)).setCell ⟨D.heap.size, 1, none⟩ (.int .i64 u.home)).setCell ⟨D.heap.size, 2, none⟩ (.int .i64 u.phase)).setCell ⟨D.heap.size, 3, none⟩ (.int .i64 u.count)).setCell ⟨D.heap.size, 4, none⟩ (.slice ya u.reads.length yk)).setCell ⟨D.heap.size, 5, none⟩ (.slice yh u.sets.length yd)).setCell ⟨D.heap.size, 6, none⟩ (.int .i64 u.stamp)) = Y2 at *
            generalize D.heap.size = qb at *
            cases ok
            · have KN : Hid (TX w c Q a n k (20 - (N - 1)) Y2) := ⟨_, _, _, _, KF.out.1, by have := HL.out; omega, by have := HL.out; omega⟩
              clear KF
              go_wp2
              exact ⟨⟨N - 1, by omega, by simp; omega, KN.out⟩, by simp [intOf]; omega⟩
            · have KN : Hid (TX w c Q a n k (20 - (N - 1)) (((((((Y2.setCell ⟨Q, 0, none⟩ (.int .i64 u.id)).setCell ⟨Q, 1, none⟩ (.int .i64 u.home)).setCell ⟨Q, 2, none⟩ (.int .i64 u.phase)).setCell ⟨Q, 3, none⟩ (.int .i64 u.count)).setCell ⟨Q, 4, none⟩ (.slice ya u.reads.length yk)).setCell ⟨Q, 5, none⟩ (.slice yh u.sets.length yd)).setCell ⟨Q, 6, none⟩ (.int .i64 u.stamp))) := ⟨⟨ya, yk, yh, yd⟩, u, QR, QS, KF.out.1.take KF.out.2.2 hQ.out, by have := HL.out; have := HU.out; omega, by have := HL.out; have := HU.out; omega⟩
              obtain ⟨r0, r1, r2, r3, r4, r5, r6, -, -⟩ := KF.out.2.1
              obtain ⟨s0, s1, s2, s3, s4, s5, s6, fr, -⟩ := KF.out.1.q
              dsimp only at r4 r5 s4 s5
              have f0 := fr 0
              have f1 := fr 1
              have f2 := fr 2
              have f3 := fr 3
              have f4 := fr 4
              have f5 := fr 5
              have f6 := fr 6
              clear fr KF
              go_wp2
              exact ⟨⟨N - 1, by omega, by simp; omega, KN.out⟩, by simp [intOf]; omega⟩
        · obtain rfl : N = 0 := by omega
          have hgt : ¬ ((0 : Int) < 0) := by omega
          go_wp2_with fail
          refine (l1Below_any _ B c a n k _ K1.out.cu.1 (BY.out _ K1.out.cu.2) hB (by omega)).mono ?_
          rintro e wa ⟨ya, rfl, hya0, hya1, cc, tt⟩
          have Hwa : Hid (TX w c Q a n k 20 wa) := K1.out.step cc tt
          clear cc tt K1
          obtain ⟨pz, hp, hf, hz⟩ := Hwa.out.fld 2 (by omega)
          have Hxa : Hid (TX w c Q a n k 20 (wa.setCell ⟨Q, 2, none⟩ (.int .i64 (1 + ya)))) := hz _
          clear hz Hwa
          go_wp2_with fail
          clear hp hf
          generalize wa.setCell ⟨Q, 2, none⟩ (.int .i64 (1 + ya)) = xa at *
          refine (l1Below_any _ B c a n k _ Hxa.out.cu.1 (BY.out _ Hxa.out.cu.2) hB (by omega)).mono ?_
          rintro e wb ⟨yb, rfl, hyb0, hyb1, cc, tt⟩
          have Hwb : Hid (TX w c Q a n k 20 wb) := Hxa.out.step cc tt
          clear cc tt Hxa
          obtain ⟨pz, hp, hf, hz⟩ := Hwb.out.fld 3 (by omega)
          have Hxb : Hid (TX w c Q a n k 20 (wb.setCell ⟨Q, 3, none⟩ (.int .i64 (yb)))) := hz _
          clear hz Hwb
          go_wp2_with fail
          clear hp hf
          generalize wb.setCell ⟨Q, 3, none⟩ (.int .i64 (yb)) = xb at *
          refine (l1Below_any _ B c a n k _ Hxb.out.cu.1 (BY.out _ Hxb.out.cu.2) hB (by omega)).mono ?_
          rintro e wc ⟨yc, rfl, hyc0, hyc1, cc, tt⟩
          have Hwc : Hid (TX w c Q a n k 20 wc) := Hxb.out.step cc tt
          clear cc tt Hxb
          obtain ⟨pz, hp, hf, hz⟩ := Hwc.out.fld 6 (by omega)
          have Hxc : Hid (TX w c Q a n k 20 (wc.setCell ⟨Q, 6, none⟩ (.int .i64 (yc)))) := hz _
          clear hz Hwc
          go_wp2_with fail
          clear hp hf
          generalize wc.setCell ⟨Q, 6, none⟩ (.int .i64 (yc)) = xc at *
          refine (l1Once_any _ B c a n k _ Hxc.out.cu.1 (BY.out _ Hxc.out.cu.2) hB (by omega)).mono ?_
          rintro e w6 ⟨u6, rfl, cc, tt⟩
          have Hw6 : Hid (TX w c Q a n k 20 w6) := Hxc.out.step cc tt
          clear cc tt Hxc
          go_upto_if 64 with fail
          go_cut [] from 65 to 116 (fun wx => TX w c Q a n k 21 wx)
          case first =>
            cases u6
            · go_wp2_with fail
              go_meet
              exact Hw6.out.mono (by omega)
            · go_wp2_with fail
              refine (l1Below_any _ B c a n k _ Hw6.out.cu.1 (BY.out _ Hw6.out.cu.2) hB (by omega)).mono ?_
              rintro e w7 ⟨y6, rfl, hy60, hy61, cc, tt⟩
              have Hw7 : Hid (TX w c Q a n k 20 w7) := Hw6.out.step cc tt
              clear cc tt Hw6
              obtain rfl | rfl | rfl | rfl | rfl | rfl : y6 = 0 ∨ y6 = 1 ∨ y6 = 2 ∨ y6 = 3 ∨ y6 = 4 ∨ y6 = 5 := by omega
              · clear hy60 hy61
                go_wp2_with fail
                have hw7 : c < w7.heap.size := Hw7.out.cu.1.lt
                obtain ⟨V, hV⟩ : ∃ V, V = w7.alloc (.cells (([0, 1000000, 1000001] : List Int).map fun z => Value.int .i64 z).toArray 2) := ⟨_, rfl⟩
                have bV : Below w7.heap.size w7 V := by rw [hV]; exact (Below.refl _ _).alloc (Nat.le_refl _) _
                have HV := hidOf (Hw7.out.later bV)
                have hV' := hV
                simp only [List.map] at hV'
                rw [← hV']
                refine (l1Below_any V B c a n k _ HV.out.cu.1 (BY.out _ HV.out.cu.2) hB (by omega)).mono ?_
                rintro e w8 ⟨y8, rfl, hy80, hy81, cc, tt⟩
                have Hw8 : Hid (TX w c Q a n k 20 w8) := HV.out.step cc tt
                obtain ⟨q8, rfl⟩ := Int.eq_ofNat_of_zero_le hy80
                obtain ⟨x, hx⟩ := new_in_turned [0, 1000000, 1000001] _ hw7 (by rw [hV] at tt; exact tt) q8 (by simp; omega)
                obtain ⟨pz, hp, hf, hz⟩ := Hw8.out.fld 0 (by omega)
                have HN : Hid (TX w c Q a n k 20 (w8.setCell ⟨Q, 0, none⟩ (.int .i64 x))) := hz _
                clear hz cc tt bV hV hV' HV Hw7
                go_wp2_with fail
                go_meet
                exact HN.out.mono (by omega)
              · clear hy60 hy61
                go_wp2_with fail
                have hw7 : c < w7.heap.size := Hw7.out.cu.1.lt
                obtain ⟨V, hV⟩ : ∃ V, V = w7.alloc (.cells (([-1, 7, 8] : List Int).map fun z => Value.int .i64 z).toArray 2) := ⟨_, rfl⟩
                have bV : Below w7.heap.size w7 V := by rw [hV]; exact (Below.refl _ _).alloc (Nat.le_refl _) _
                have HV := hidOf (Hw7.out.later bV)
                have hV' := hV
                simp only [List.map] at hV'
                rw [← hV']
                refine (l1Below_any V B c a n k _ HV.out.cu.1 (BY.out _ HV.out.cu.2) hB (by omega)).mono ?_
                rintro e w8 ⟨y8, rfl, hy80, hy81, cc, tt⟩
                have Hw8 : Hid (TX w c Q a n k 20 w8) := HV.out.step cc tt
                obtain ⟨q8, rfl⟩ := Int.eq_ofNat_of_zero_le hy80
                obtain ⟨x, hx⟩ := new_in_turned [-1, 7, 8] _ hw7 (by rw [hV] at tt; exact tt) q8 (by simp; omega)
                obtain ⟨pz, hp, hf, hz⟩ := Hw8.out.fld 1 (by omega)
                have HN : Hid (TX w c Q a n k 20 (w8.setCell ⟨Q, 1, none⟩ (.int .i64 x))) := hz _
                clear hz cc tt bV hV hV' HV Hw7
                go_wp2_with fail
                go_meet
                exact HN.out.mono (by omega)
              · clear hy60 hy61
                go_wp2_with fail
                have hw7 : c < w7.heap.size := Hw7.out.cu.1.lt
                obtain ⟨V, hV⟩ : ∃ V, V = w7.alloc (.cells (([0, 9, 10] : List Int).map fun z => Value.int .i64 z).toArray 2) := ⟨_, rfl⟩
                have bV : Below w7.heap.size w7 V := by rw [hV]; exact (Below.refl _ _).alloc (Nat.le_refl _) _
                have HV := hidOf (Hw7.out.later bV)
                have hV' := hV
                simp only [List.map] at hV'
                rw [← hV']
                refine (l1Below_any V B c a n k _ HV.out.cu.1 (BY.out _ HV.out.cu.2) hB (by omega)).mono ?_
                rintro e w8 ⟨y8, rfl, hy80, hy81, cc, tt⟩
                have Hw8 : Hid (TX w c Q a n k 20 w8) := HV.out.step cc tt
                obtain ⟨q8, rfl⟩ := Int.eq_ofNat_of_zero_le hy80
                obtain ⟨x, hx⟩ := new_in_turned [0, 9, 10] _ hw7 (by rw [hV] at tt; exact tt) q8 (by simp; omega)
                obtain ⟨pz, hp, hf, hz⟩ := Hw8.out.fld 2 (by omega)
                have HN : Hid (TX w c Q a n k 20 (w8.setCell ⟨Q, 2, none⟩ (.int .i64 x))) := hz _
                clear hz cc tt bV hV hV' HV Hw7
                go_wp2_with fail
                go_meet
                exact HN.out.mono (by omega)
              · clear hy60 hy61
                go_wp2_with fail
                have hw7 : c < w7.heap.size := Hw7.out.cu.1.lt
                obtain ⟨V, hV⟩ : ∃ V, V = w7.alloc (.cells (([-1, 1000, 1001] : List Int).map fun z => Value.int .i64 z).toArray 2) := ⟨_, rfl⟩
                have bV : Below w7.heap.size w7 V := by rw [hV]; exact (Below.refl _ _).alloc (Nat.le_refl _) _
                have HV := hidOf (Hw7.out.later bV)
                have hV' := hV
                simp only [List.map] at hV'
                rw [← hV']
                refine (l1Below_any V B c a n k _ HV.out.cu.1 (BY.out _ HV.out.cu.2) hB (by omega)).mono ?_
                rintro e w8 ⟨y8, rfl, hy80, hy81, cc, tt⟩
                have Hw8 : Hid (TX w c Q a n k 20 w8) := HV.out.step cc tt
                obtain ⟨q8, rfl⟩ := Int.eq_ofNat_of_zero_le hy80
                obtain ⟨x, hx⟩ := new_in_turned [-1, 1000, 1001] _ hw7 (by rw [hV] at tt; exact tt) q8 (by simp; omega)
                obtain ⟨pz, hp, hf, hz⟩ := Hw8.out.fld 3 (by omega)
                have HN : Hid (TX w c Q a n k 20 (w8.setCell ⟨Q, 3, none⟩ (.int .i64 x))) := hz _
                clear hz cc tt bV hV hV' HV Hw7
                go_wp2_with fail
                go_meet
                exact HN.out.mono (by omega)
              · clear hy60 hy61
                have HX3 := Hw7
                clear Hw7
                generalize w7 = X3 at *
                obtain ⟨⟨ar, cr, ah, ch⟩, t, PR, PS, hT, hl1, hl2⟩ := HX3.out
                have HL : Hid (t.reads.length ≤ 20 ∧ t.sets.length ≤ 20) := ⟨hl1, hl2⟩
                have iD := hidOf (hT.step (Y := X3.drew) (hT.cu.drewN 1) ((Turned.refl _ _).drew))
                clear hT hl1 hl2 HX3
                go_wp2_with fail
                refine wp_region_z (fun z => z == 7) (fun X : World => X.cell? ⟨Q, 4, none⟩ = some (.slice ar t.reads.length cr)) (by kernel_rfl) ?_
                generalize X3.drew = D at *
                have hS : (fun X : World => X.cell? ⟨Q, 4, none⟩ = some (.slice ar t.reads.length cr)) D := iD.out.q.c4
                refine wpZ_takeP (i := 0) (v := ?_) rfl (by kernel_rfl) (fun _ _ _ h => h) (Or.inl ⟨by rfl, ?_⟩) hS ?_
                rotate_left
                · (intro X _; go_simp; first | done | with_reducible rfl)
                simp only [Act.put]
                refine wpZ_take (i := 1) (v := ?_) rfl (by kernel_rfl) (fun _ _ _ h => h) (Or.inl ⟨by rfl, ?_⟩) hS ?_
                rotate_left
                · (intro X hSw; skip; go_simp; first | done | with_reducible rfl)
                simp only [Act.put]
                refine wpZ_takeP (i := 2) (v := ?_) rfl (by kernel_rfl) (fun _ _ _ h => h) (Or.inl ⟨by rfl, ?_⟩) hS ?_
                rotate_left
                · (intro X _; go_simp; first | done | with_reducible rfl)
                simp only [Act.put]
                refine wpZ_ready (rs := [3]) (by kernel_rfl) (by simp) ?_
                refine AllZ.cons rfl (fun K hK => ?_) AllZ.nil
                go_simp
                refine (l7DrawNote_any D B c a n k iD.out.cu (BY.out _ iD.out.tu) hB).mono ?_
                rintro e C0 ⟨s, rfl, c0, t0⟩
                have i0 := hidOf (iD.out.step c0 t0)
                clear c0 t0
                refine hK.out _ _ (fun _ => i0.out.q.c4) ?_
                clear hK K hS
                have hS : (fun X : World => X.cell? ⟨Q, 4, none⟩ = some (.slice ar t.reads.length cr)) C0 := i0.out.q.c4
                obtain ⟨V, hV⟩ : ∃ V, V = C0.alloc (.cells #[.int .i64 s.region, .int .i64 s.slot, .int .i64 s.version, .int .i64 s.value, .bool s.used] 29) := ⟨_, rfl⟩
                have bV : Below C0.heap.size C0 V := by rw [hV]; exact (Below.refl _ _).alloc (Nat.le_refl _) _
                have i1 := hidOf (i0.out.later bV)
                have at1 : NotesAt V C0.heap.size 0 [s] := by rw [hV]; exact (NoteAt.box C0 s _).one
                obtain ⟨v', Y, hr, hrow, hg, hlies⟩ := pushNo i1.out.tr.cr [s] (by have := HL.out; simp; omega) 24 C0.heap.size 0 1 at1 (by have := i1.out.z.lt; omega)
                obtain ⟨a', c', rfl, -⟩ := hrow.form
                have hlen : (t.reads ++ [s]).length = t.reads.length + 1 := by simp
                have KN := hidOf (i1.out.putR hg i1.out.tr.pr hrow (lies_or hlies i1.out.tr.pr))
                have s3 := KN.out.q
                have gY := hidOf hg
                have hYq : Y.heap[Q]? = V.heap[Q]? := hg.block Q i1.out.q.lt (fun e => i1.out.qp (.inl (i1.out.tr.pr Q e.symm)))
                have s2 : (fun X : World => X.cell? ⟨Q, 4, none⟩ = some (.slice ar t.reads.length cr)) Y := (World.cell?_of_block (a := ⟨Q, 4, none⟩) hYq).trans i1.out.q.c4
                have s2f : Y.frozen? ⟨Q, 4, none⟩ = false := (World.frozen?_of_block (a := ⟨Q, 4, none⟩) hYq).trans (i1.out.q.fz 4)
                have s1 : (fun X : World => X.cell? ⟨Q, 4, none⟩ = some (.slice ar t.reads.length cr)) V := i1.out.q.c4
                rw [hlen] at hr KN
                clear hYq gY s3 at1 bV hrow hg hlies
                simp only [List.length_cons, List.length_nil, Nat.zero_add] at hr
                refine wpZ_ready (rs := [4]) (by kernel_rfl) (by simp) ?_
                refine AllZ.cons rfl (fun K hK => ?_) AllZ.nil
                go_simp
                refine hK.out _ _ (fun _ => by rw [← hV]; exact s1) ?_
                clear hK K hS
                rw [← hV]
                clear hV
                have hS := s1
                refine wpZ_ready (rs := [5]) (by kernel_rfl) (by simp) ?_
                refine AllZ.cons (o := ⟨some 106, _, _, _, _, _⟩) rfl (fun K hK => ?_) AllZ.nil
                refine step_known _ rfl (.tmp 102) (.tmp 105) 24 rfl _ _ _ _ (by first | rfl | simp [Act.eval, Act.put]) (by first | rfl | simp [Act.eval, Act.put]) hr ?_
                refine hK.out _ _ (fun _ => s2) ?_
                clear hK K hr hS
                simp only [Act.put]
                have hS := s2
                refine wpZ_takeP (i := 6) (v := ?_) rfl (by kernel_rfl) (fun _ _ _ h => h) (Or.inl ⟨by rfl, ?_⟩) hS ?_
                rotate_left
                · (intro X _; go_simp; first | done | with_reducible rfl)
                simp only [Act.put]
                have s4 : Y.cell? ⟨Q, 4, none⟩ = some (.slice ar t.reads.length cr) := s2
                refine wpZ_ready (rs := [7]) (by kernel_rfl) (by simp) ?_
                refine AllZ.cons rfl (fun K hK => ?_) AllZ.nil
                go_simp
                refine hK.out _ _ (fun h => absurd (show false = true from h.symm.trans (by kernel_rfl)) (by decide)) ?_
                clear hK K
                refine wpZ_done (by kernel_rfl) ?_ _
                clear s1 s2 s2f s4 hS
                go_wp2_with fail
                go_meet
                exact ⟨_, _, _, _, KN.out, by have := HL.out; show (t.reads ++ [s]).length ≤ 21; rw [List.length_append]; simp only [List.length_cons, List.length_nil]; omega, by have := HL.out; show t.sets.length ≤ 21; omega⟩
              · clear hy60 hy61
                have HX3 := Hw7
                clear Hw7
                generalize w7 = X3 at *
                obtain ⟨⟨ar, cr, ah, ch⟩, t, PR, PS, hT, hl1, hl2⟩ := HX3.out
                have HL : Hid (t.reads.length ≤ 20 ∧ t.sets.length ≤ 20) := ⟨hl1, hl2⟩
                have iD := hidOf (hT.step (Y := X3.drew) (hT.cu.drewN 1) ((Turned.refl _ _).drew))
                clear hT hl1 hl2 HX3
                go_wp2_with fail
                refine wp_region_z (fun z => z == 7) (fun X : World => X.cell? ⟨Q, 5, none⟩ = some (.slice ah t.sets.length ch)) (by kernel_rfl) ?_
                generalize X3.drew = D at *
                have hS : (fun X : World => X.cell? ⟨Q, 5, none⟩ = some (.slice ah t.sets.length ch)) D := iD.out.q.c5
                refine wpZ_takeP (i := 0) (v := ?_) rfl (by kernel_rfl) (fun _ _ _ h => h) (Or.inl ⟨by rfl, ?_⟩) hS ?_
                rotate_left
                · (intro X _; go_simp; first | done | with_reducible rfl)
                simp only [Act.put]
                refine wpZ_take (i := 1) (v := ?_) rfl (by kernel_rfl) (fun _ _ _ h => h) (Or.inl ⟨by rfl, ?_⟩) hS ?_
                rotate_left
                · (intro X hSw; skip; go_simp; first | done | with_reducible rfl)
                simp only [Act.put]
                refine wpZ_takeP (i := 2) (v := ?_) rfl (by kernel_rfl) (fun _ _ _ h => h) (Or.inl ⟨by rfl, ?_⟩) hS ?_
                rotate_left
                · (intro X _; go_simp; first | done | with_reducible rfl)
                simp only [Act.put]
                refine wpZ_ready (rs := [3]) (by kernel_rfl) (by simp) ?_
                refine AllZ.cons rfl (fun K hK => ?_) AllZ.nil
                go_simp
                refine (l2DrawSet_any D B c a n k 1 ⟨by omega, by omega⟩ iD.out.cu (BY.out _ iD.out.tu) hB).mono ?_
                rintro e C0 ⟨s, rfl, c0, t0⟩
                have i0 := hidOf (iD.out.step c0 t0)
                clear c0 t0
                refine hK.out _ _ (fun _ => i0.out.q.c5) ?_
                clear hK K hS
                have hS : (fun X : World => X.cell? ⟨Q, 5, none⟩ = some (.slice ah t.sets.length ch)) C0 := i0.out.q.c5
                obtain ⟨V, hV⟩ : ∃ V, V = C0.alloc (.cells #[.int .i64 s.region, .int .i64 s.slot, .int .i64 s.value, .bool s.used, .int .i64 s.version] 36) := ⟨_, rfl⟩
                have bV : Below C0.heap.size C0 V := by rw [hV]; exact (Below.refl _ _).alloc (Nat.le_refl _) _
                have i1 := hidOf (i0.out.later bV)
                have at1 : SetsAt V C0.heap.size 0 [s] := by rw [hV]; exact (SetAt.box C0 s _).one
                obtain ⟨v', Y, hr, hrow, hg, hlies⟩ := pushSe i1.out.tr.cs [s] (by have := HL.out; simp; omega) 25 C0.heap.size 0 1 at1 (by have := i1.out.z.lt; omega)
                obtain ⟨a', c', rfl, -⟩ := hrow.form
                have hlen : (t.sets ++ [s]).length = t.sets.length + 1 := by simp
                have KN := hidOf (i1.out.putS hg i1.out.tr.ps hrow (lies_or hlies i1.out.tr.ps))
                have s3 := KN.out.q
                have gY := hidOf hg
                have hYq : Y.heap[Q]? = V.heap[Q]? := hg.block Q i1.out.q.lt (fun e => i1.out.qp (.inr (i1.out.tr.ps Q e.symm)))
                have s2 : (fun X : World => X.cell? ⟨Q, 5, none⟩ = some (.slice ah t.sets.length ch)) Y := (World.cell?_of_block (a := ⟨Q, 5, none⟩) hYq).trans i1.out.q.c5
                have s2f : Y.frozen? ⟨Q, 5, none⟩ = false := (World.frozen?_of_block (a := ⟨Q, 5, none⟩) hYq).trans (i1.out.q.fz 5)
                have s1 : (fun X : World => X.cell? ⟨Q, 5, none⟩ = some (.slice ah t.sets.length ch)) V := i1.out.q.c5
                rw [hlen] at hr KN
                clear hYq gY s3 at1 bV hrow hg hlies
                simp only [List.length_cons, List.length_nil, Nat.zero_add] at hr
                refine wpZ_ready (rs := [4]) (by kernel_rfl) (by simp) ?_
                refine AllZ.cons rfl (fun K hK => ?_) AllZ.nil
                go_simp
                refine hK.out _ _ (fun _ => by rw [← hV]; exact s1) ?_
                clear hK K hS
                rw [← hV]
                clear hV
                have hS := s1
                refine wpZ_ready (rs := [5]) (by kernel_rfl) (by simp) ?_
                refine AllZ.cons (o := ⟨some 115, _, _, _, _, _⟩) rfl (fun K hK => ?_) AllZ.nil
                refine step_known _ rfl (.tmp 111) (.tmp 114) 25 rfl _ _ _ _ (by first | rfl | simp [Act.eval, Act.put]) (by first | rfl | simp [Act.eval, Act.put]) hr ?_
                refine hK.out _ _ (fun _ => s2) ?_
                clear hK K hr hS
                simp only [Act.put]
                have hS := s2
                refine wpZ_takeP (i := 6) (v := ?_) rfl (by kernel_rfl) (fun _ _ _ h => h) (Or.inl ⟨by rfl, ?_⟩) hS ?_
                rotate_left
                · (intro X _; go_simp; first | done | with_reducible rfl)
                simp only [Act.put]
                have s4 : Y.cell? ⟨Q, 5, none⟩ = some (.slice ah t.sets.length ch) := s2
                refine wpZ_ready (rs := [7]) (by kernel_rfl) (by simp) ?_
                refine AllZ.cons rfl (fun K hK => ?_) AllZ.nil
                go_simp
                refine hK.out _ _ (fun h => absurd (show false = true from h.symm.trans (by kernel_rfl)) (by decide)) ?_
                clear hK K
                refine wpZ_done (by kernel_rfl) ?_ _
                clear s1 s2 s2f s4 hS
                go_wp2_with fail
                go_meet
                exact ⟨_, _, _, _, KN.out, by have := HL.out; show t.reads.length ≤ 21; omega, by have := HL.out; show (t.sets ++ [s]).length ≤ 21; rw [List.length_append]; simp only [List.length_cons, List.length_nil]; omega⟩
          case rest =>
          have K9 := hidOf hcut
          clear hcut
          generalize wc = X9 at *
          go_wp2_with fail
          refine (l1Once_any _ B c a n k _ K9.out.cu.1 (BY.out _ K9.out.cu.2) hB (by omega)).mono ?_
          rintro e w9 ⟨u9, rfl, cc, tt⟩
          have Hw9 : Hid (TX w c Q a n k 21 w9) := K9.out.step cc tt
          clear cc tt K9
          go_upto_if 118 with fail
          cases u9
          · have HR := Hw9
            clear Hw9
            obtain ⟨⟨ar, cr, ah, ch⟩, t, PR, PS, hT, hl1, hl2⟩ := HR.out
            have KT := hidOf hT
            have HL : Hid (t.reads.length ≤ 100 ∧ t.sets.length ≤ 100) := ⟨by omega, by omega⟩
            obtain ⟨z0, z1, z2, z3, z4, z5, z6, zf, -⟩ := hT.z
            obtain ⟨s0, s1, s2, s3, s4, s5, s6, -, -⟩ := hT.q
            dsimp only [noT, List.length_nil] at z0 z1 z2 z3 z4 z5 z6 s4 s5
            have f0 := zf 0
            have f1 := zf 1
            have f2 := zf 2
            have f3 := zf 3
            have f4 := zf 4
            have f5 := zf 5
            have f6 := zf 6
            clear zf hT HR hl1 hl2
            go_wp2
            refine bodyPost_ret (v := .agg #[.int .i64 t.id, .int .i64 t.home, .int .i64 t.phase, .int .i64 t.count, .slice ar t.reads.length cr, .slice ah t.sets.length ch, .int .i64 t.stamp]) (by simp [results, Try.results36, go_sem, z0, z1, z2, z3, z4, z5, z6]) rfl ?_
            exact KT.out.fin HL.out.1 HL.out.2
          · obtain ⟨a0, m0, c0, hp4, hf4, hz4⟩ := Hw9.out.emptyR
            have HE := hidOf hz4
            clear hz4 Hw9
            go_upto_region 33 with fail
            clear hp4 hf4
            generalize ((w9.alloc (.cells #[] 29)).setCell ⟨Q, 4, none⟩ (.slice (some ⟨w9.heap.size, 0, none⟩) 0 0)) = XA at *
            obtain ⟨a1, m1, c1, hp5, hf5, hz5⟩ := HE.out.emptyS
            have HF := hidOf hz5
            clear hz5 HE
            go_wp2
            clear hp5 hf5
            generalize ((XA.alloc (.cells #[] 36)).setCell ⟨Q, 5, none⟩ (.slice (some ⟨XA.heap.size, 0, none⟩) 0 0)) = XB at *
            go_loopw [11] (fun v11 wr => ∃ j : Nat, j ≤ 13 ∧ v11 = .int .i64 j ∧ TX w c Q a n k (30 + 2 * j) wr) (fun v11 _ => 13 - (intOf v11).toNat)
            case atStart => exact ⟨0, by omega, rfl, HF.out.mono (by omega)⟩
            case round =>
              obtain ⟨N, hj, rfl, hdx⟩ := hrel
              have K1 := hidOf hdx
              clear hdx HF
              go_wp2_with fail
              refine (l1Below_any _ B c a n k _ K1.out.cu.1 (BY.out _ K1.out.cu.2) hB (by omega)).mono ?_
              rintro e w2 ⟨y2, rfl, hy20, hy21, cc, tt⟩
              have Hw2 : Hid (TX w c Q a n k (30 + 2 * N) w2) := K1.out.step cc tt
              clear cc tt K1
              by_cases hlt : (N : Int) < 12 + y2
              · have hN : N ≤ 12 := by omega
                have hNI : 0 ≤ (N : Int) ∧ (N : Int) ≤ 12 := by omega
                obtain ⟨⟨ar, cr, ah, ch⟩, t, PR, PS, hT, hl1, hl2⟩ := Hw2.out
                have HL4 : Hid (t.reads.length ≤ 30 + 2 * N ∧ t.sets.length ≤ 30 + 2 * N) := ⟨hl1, hl2⟩
                have i0 := hidOf hT
                clear hT hl1 hl2 Hw2
                obtain ⟨V, hV⟩ : ∃ V, V = w2.alloc (.cells #[.int .i64 ((N : Int) / 6), .int .i64 ((N : Int) % 6), .int .i64 0, .int .i64 0, .bool false] 29) := ⟨_, rfl⟩
                have bV : Below w2.heap.size w2 V := by rw [hV]; exact (Below.refl _ _).alloc (Nat.le_refl _) _
                have i1 := hidOf (i0.out.later bV)
                have at1 : NotesAt V w2.heap.size 0 [(⟨(N : Int) / 6, (N : Int) % 6, 0, 0, false⟩ : N5)] := by rw [hV]; exact (NoteAt.box w2 (⟨(N : Int) / 6, (N : Int) % 6, 0, 0, false⟩ : N5) _).one
                obtain ⟨v', Y, hr, hrow, hg, hlies⟩ := pushNo i1.out.tr.cr [(⟨(N : Int) / 6, (N : Int) % 6, 0, 0, false⟩ : N5)] (by have := HL4.out; simp; omega) 24 w2.heap.size 0 1 at1 (by have := i1.out.z.lt; omega)
                obtain ⟨a', c', rfl, -⟩ := hrow.form
                have hlen : (t.reads ++ [(⟨(N : Int) / 6, (N : Int) % 6, 0, 0, false⟩ : N5)]).length = t.reads.length + 1 := by simp
                have KN := hidOf (i1.out.putR hg i1.out.tr.pr hrow (lies_or hlies i1.out.tr.pr))
                have hYq : Y.heap[Q]? = V.heap[Q]? := hg.block Q i1.out.q.lt (fun e => i1.out.qp (.inl (i1.out.tr.pr Q e.symm)))
                have s2 : Y.cell? ⟨Q, 4, none⟩ = some (.slice ar t.reads.length cr) := (World.cell?_of_block (a := ⟨Q, 4, none⟩) hYq).trans i1.out.q.c4
                have s2f : Y.frozen? ⟨Q, 4, none⟩ = false := (World.frozen?_of_block (a := ⟨Q, 4, none⟩) hYq).trans (i1.out.q.fz 4)
                have s1 : w2.cell? ⟨Q, 4, none⟩ = some (.slice ar t.reads.length cr) := i0.out.q.c4
                rw [hlen] at hr KN
                have HN : Hid (TX w c Q a n k (31 + 2 * N) (Y.setCell ⟨Q, 4, none⟩ (.slice a' (t.reads.length + 1) c'))) := ⟨_, _, _, _, KN.out, by have := HL4.out; show (t.reads ++ [(⟨(N : Int) / 6, (N : Int) % 6, 0, 0, false⟩ : N5)]).length ≤ 31 + 2 * N; rw [List.length_append]; simp only [List.length_cons, List.length_nil]; omega, by have := HL4.out; show t.sets.length ≤ 31 + 2 * N; omega⟩
                clear hYq at1 bV hrow hg hlies KN hlen i1 i0 HL4
                simp only [List.length_cons, List.length_nil, Nat.zero_add] at hr
                rw [hV] at hr
                clear hV
                go_upto_region 38 with (at_builtin; refine append_known _ rfl (.tmp 131) (.tmp 137) 24 rfl _ _ _ _ rfl rfl hr ?_)
                clear s1 s2 s2f hr
                generalize (Y.setCell ⟨Q, 4, none⟩ (.slice a' (t.reads.length + 1) c')) = Z2 at *
                have HZ2 := HN
                clear HN
                obtain ⟨⟨ar, cr, ah, ch⟩, t, PR, PS, hT, hl1, hl2⟩ := HZ2.out
                have HL5 : Hid (t.reads.length ≤ 31 + 2 * N ∧ t.sets.length ≤ 31 + 2 * N) := ⟨hl1, hl2⟩
                have i0 := hidOf hT
                clear hT hl1 hl2 HZ2
                obtain ⟨V, hV⟩ : ∃ V, V = Z2.alloc (.cells #[.int .i64 ((N : Int) / 6), .int .i64 ((N : Int) % 6), .int .i64 0, .bool false, .int .i64 (N : Int)] 36) := ⟨_, rfl⟩
                have bV : Below Z2.heap.size Z2 V := by rw [hV]; exact (Below.refl _ _).alloc (Nat.le_refl _) _
                have i1 := hidOf (i0.out.later bV)
                have at1 : SetsAt V Z2.heap.size 0 [(⟨(N : Int) / 6, (N : Int) % 6, 0, false, (N : Int)⟩ : S5)] := by rw [hV]; exact (SetAt.box Z2 (⟨(N : Int) / 6, (N : Int) % 6, 0, false, (N : Int)⟩ : S5) _).one
                obtain ⟨v', Y, hr, hrow, hg, hlies⟩ := pushSe i1.out.tr.cs [(⟨(N : Int) / 6, (N : Int) % 6, 0, false, (N : Int)⟩ : S5)] (by have := HL5.out; simp; omega) 25 Z2.heap.size 0 1 at1 (by have := i1.out.z.lt; omega)
                obtain ⟨a', c', rfl, -⟩ := hrow.form
                have hlen : (t.sets ++ [(⟨(N : Int) / 6, (N : Int) % 6, 0, false, (N : Int)⟩ : S5)]).length = t.sets.length + 1 := by simp
                have KN := hidOf (i1.out.putS hg i1.out.tr.ps hrow (lies_or hlies i1.out.tr.ps))
                have hYq : Y.heap[Q]? = V.heap[Q]? := hg.block Q i1.out.q.lt (fun e => i1.out.qp (.inr (i1.out.tr.ps Q e.symm)))
                have s2 : Y.cell? ⟨Q, 5, none⟩ = some (.slice ah t.sets.length ch) := (World.cell?_of_block (a := ⟨Q, 5, none⟩) hYq).trans i1.out.q.c5
                have s2f : Y.frozen? ⟨Q, 5, none⟩ = false := (World.frozen?_of_block (a := ⟨Q, 5, none⟩) hYq).trans (i1.out.q.fz 5)
                have s1 : Z2.cell? ⟨Q, 5, none⟩ = some (.slice ah t.sets.length ch) := i0.out.q.c5
                rw [hlen] at hr KN
                have HN : Hid (TX w c Q a n k (32 + 2 * N) (Y.setCell ⟨Q, 5, none⟩ (.slice a' (t.sets.length + 1) c'))) := ⟨_, _, _, _, KN.out, by have := HL5.out; show t.reads.length ≤ 32 + 2 * N; omega, by have := HL5.out; show (t.sets ++ [(⟨(N : Int) / 6, (N : Int) % 6, 0, false, (N : Int)⟩ : S5)]).length ≤ 32 + 2 * N; rw [List.length_append]; simp only [List.length_cons, List.length_nil]; omega⟩
                clear hYq at1 bV hrow hg hlies KN hlen i1 i0 HL5
                simp only [List.length_cons, List.length_nil, Nat.zero_add] at hr
                rw [hV] at hr
                clear hV
                go_wp2_with (at_builtin; refine append_known _ rfl (.tmp 141) (.tmp 148) 25 rfl _ _ _ _ rfl rfl hr ?_)
                exact ⟨⟨N + 1, by omega, by simp, HN.out.mono (by omega)⟩, by simp [intOf]; omega⟩
              · have HR := Hw2
                clear Hw2
                generalize wr = W3 at *
                obtain ⟨⟨ar, cr, ah, ch⟩, t, PR, PS, hT, hl1, hl2⟩ := HR.out
                have KT := hidOf hT
                have HL : Hid (t.reads.length ≤ 100 ∧ t.sets.length ≤ 100) := ⟨by omega, by omega⟩
                obtain ⟨z0, z1, z2, z3, z4, z5, z6, zf, -⟩ := hT.z
                obtain ⟨s0, s1, s2, s3, s4, s5, s6, -, -⟩ := hT.q
                dsimp only [noT, List.length_nil] at z0 z1 z2 z3 z4 z5 z6 s4 s5
                have f0 := zf 0
                have f1 := zf 1
                have f2 := zf 2
                have f3 := zf 3
                have f4 := zf 4
                have f5 := zf 5
                have f6 := zf 6
                clear zf hT HR hl1 hl2
                go_wp2
                refine bodyPost_ret (v := .agg #[.int .i64 t.id, .int .i64 t.home, .int .i64 t.phase, .int .i64 t.count, .slice ar t.reads.length cr, .slice ah t.sets.length ch, .int .i64 t.stamp]) (by simp [results, Try.results36, go_sem, z0, z1, z2, z3, z4, z5, z6]) rfl ?_
                exact KT.out.fin HL.out.1 HL.out.2
end Go.Proofs.Ytiidlcjjaglkdaa
