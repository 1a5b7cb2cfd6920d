import Derived.Test.YtcbfnajpcaipkaaRows
import Derived.Test.YtcbfnajpcaipkaaJ18ExactNewCluster
import Derived.WalkKit
import Derived.WalkSpells
import Derived.WalkLawsBesides
import Derived.Below
import Derived.Lib.QuietBelow
import Derived.BigQuiet
import Derived.Deep.CutRange
import Derived.LaidEql
import Derived.RowKitTokens
import Derived.Deep.Upon
import Derived.Deep.RegionWith
namespace Go.Proofs.Ytcbfnajpcaipkaa
open Go.RowKit
open Go.Sort (grow)
set_option maxRecDepth 100000 in
set_option maxHeartbeats 4000000 in
theorem specNewCluster_in (w : World) (n m : Nat) (hn1 : 1 ≤ n) (hn6 : n ≤ 6) (hm1 : 1 ≤ m) (hm8 : m ≤ 8) :
    Calls Try.prog 8 #[.int .i64 (n : Int), .int .i64 (m : Int)] w (CbAns w ⟨1, 0, (spreadN n m), ncMs (spreadN n m) n m, [], false⟩ true) := by
  obtain ⟨W0, hW0⟩ : ∃ Y, Y = w.alloc (.cells #[.int .i64 0, .int .i64 0, .slice none 0 0, .slice none 0 0, .slice none 0 0, .bool false] 26) := ⟨_, rfl⟩
  have b0 : Below w.heap.size w W0 := by rw [hW0]; exact (Below.refl _ _).alloc (Nat.le_refl _) _
  have x0 : Bx W0 w.heap.size [.int .i64 0, .int .i64 0, .slice none 0 0, .slice none 0 0, .slice none 0 0, .bool false] := by rw [hW0]; exact Bx.made w [.int .i64 0, .int .i64 0, .slice none 0 0, .slice none 0 0, .slice none 0 0, .bool false] _
  have s0 : W0.heap.size = w.heap.size + 1 := by rw [hW0]; simp
  have hc := specSpread_inB W0 n m hn1 hn6 hm1 hm8
  rw [s0] at hc
  have H : Hid (Below w.heap.size w W0 ∧ Bx W0 w.heap.size [.int .i64 0, .int .i64 0, .slice none 0 0, .slice none 0 0, .slice none 0 0, .bool false] ∧ W0.heap.size = w.heap.size + 1) := ⟨b0, x0, s0⟩
  clear b0 x0 s0
  go_enter Try.func8, Try.ntmps8
  go_wp2_with fail
  rw [← hW0]
  clear hW0
  refine hc.mono ?_
  clear hc
  rintro e w1 ⟨b, cap, g, rfl, hpl, hbl, b1, hlo⟩
  obtain ⟨h1, h2, h3⟩ := H.out
  rw [← h3] at b1
  obtain ⟨W2, hW2⟩ : ∃ Y, Y = w1.alloc (.cells #[.int .i64 1, .int .i64 0, .slice (some ⟨b, 0, none⟩) n cap, .slice none 0 0, .slice none 0 0, .bool false] 26) := ⟨_, rfl⟩
  have b2 : Below w1.heap.size w1 W2 := by rw [hW2]; exact (Below.refl _ _).alloc (Nat.le_refl _) _
  have x2 : Bx W2 w1.heap.size [.int .i64 1, .int .i64 0, .slice (some ⟨b, 0, none⟩) n cap, .slice none 0 0, .slice none 0 0, .bool false] := by rw [hW2]; exact Bx.made w1 [.int .i64 1, .int .i64 0, .slice (some ⟨b, 0, none⟩) n cap, .slice none 0 0, .slice none 0 0, .bool false] _
  have HI2 : Hid (NcI w w1.heap.size b n cap (spreadN n m) g W2 (.slice none 0 0) [] (fun _ _ => False)) := ⟨(h2.later b1).later b2, x2, hpl.later b2 hbl, hlo, hbl, hpl.lt, Kd.Grow.nil _ _ _ _ _, bstep (bstep h1 b1) b2⟩
  clear h1 h2 h3 b1 b2 x2 hpl hbl H hlo
  go_wp2_with fail
  rw [← hW2]
  clear hW2
  go_loopw [9] (fun v9 wr => ∃ (j : Nat) (a2 : Option Addr) (c2 : Nat) (ms : List (MV × M4)) (gm : Nat → Nat → Prop), j ≤ m ∧ v9 = .int .i64 j ∧ ms.map (·.2) = ncMs (spreadN n m) n j ∧ NcI w w1.heap.size b n cap (spreadN n m) g wr (.slice a2 j c2) ms gm) (fun v9 _ => m - (intOf v9).toNat)
  case atStart => exact ⟨0, none, 0, [], _, Nat.zero_le _, rfl, rfl, HI2.out⟩
  case round =>
    clear HI2
    obtain ⟨j, a2, c2, ms, gm, hj, rfl, hms, hI⟩ := hrel
    by_cases hlt : j < m
    · have HI := hidOf hI
      have HM := hidOf hms
      have jm : (j : Int) < (m : Int) := by omega
      clear hI hms
      go_wp2
      generalize wr = W1 at *
      go_loopw [11] (fun v11 wr => ∃ (i : Nat) (ak : Option Addr) (ck : Nat) (gk : Nat → Nat), i ≤ n ∧ v11 = .int .i64 i ∧ McI W1.heap.size W1 (ncKs (spreadN n m) j i) (.slice ak (ncKs (spreadN n m) j i).length ck) gk wr) (fun v11 _ => n - (intOf v11).toNat)
      case atStart => exact ⟨0, none, 0, gz0, Nat.zero_le _, rfl, ⟨Bx.made W1 [.bool true, .slice none 0 0, .slice none 0 0, .slice none 0 0] _, MR.start0 _ _ _, (Below.refl _ _).alloc (Nat.le_refl _) _⟩⟩
      case round =>
        obtain ⟨i, ak, ck, gk, hi, rfl, hmc⟩ := hrel
        by_cases hil : i < n
        · have HC := hidOf hmc
          have hat : (spreadN n m)[i]? = some (atP (spreadN n m) i) := by simp [atP, List.getElem?_eq_getElem (show i < (spreadN n m).length by rw [spreadN_len]; exact hil)]
          have hpl := (HI.out.later hmc.bel).pl
          obtain ⟨cp, hcell, hcp⟩ := hpl.cell i _ hat
          have hsm : (atP (spreadN n m) i).length ≤ maxLen := by
            have := (spreadL_sm n m (atP (spreadN n m) i) (List.mem_of_getElem? hat))
            unfold maxLen; omega
          have hhas := l3Has3_any wr (some ⟨g i, 0, none⟩) (atP (spreadN n m) i).length cp (atP (spreadN n m) i) (j : Int) hsm ⟨rfl, .inr ⟨g i, 0, rfl, hpl.lt i hil, hpl.nums i _ hat⟩⟩
          have im : (i : Int) < (n : Int) := by omega
          clear hmc hat hpl hcp hsm
          go_wp2_with fail
          refine hhas.mono ?_
          clear hhas
          rintro e w' ⟨rfl, hw'⟩
          subst w'
          cases hh : has3 (atP (spreadN n m) i) (j : Int) with
          | false =>
            have KE : Hid (McI W1.heap.size W1 (ncKs (spreadN n m) j (i + 1)) (.slice ak (ncKs (spreadN n m) j (i + 1)).length ck) gk wr) := by unfold Hid; rw [ncKs_no hh]; exact HC.out
            clear hh HC hcell
            go_wp2
            exact ⟨⟨i + 1, ak, ck, gk, by omega, by simp, KE.out⟩, by simp [intOf]; omega⟩
          | true =>
            have HH := hidOf hh
            clear hh hcell
            go_wp2_with fail
            refine wp_region_until 8 (fun X : World => Bx X W1.heap.size [.bool true, .slice ak (ncKs (spreadN n m) j i).length ck, .slice none 0 0, .slice none 0 0]) (by kernel_rfl) ?_
            have hSX : (fun X : World => Bx X W1.heap.size [.bool true, .slice ak (ncKs (spreadN n m) j i).length ck, .slice none 0 0, .slice none 0 0]) wr.drew := HC.out.box.later (Below.refl _ _).drew
            have bD : Below wr.heap.size wr wr.drew := (Below.refl _ _).drew
            have KD := hidOf bD
            clear bD
            generalize wr.drew = XD at *
            refine wpUntil_take (i := 0) (v := ?_) rfl (by kernel_rfl) (fun _ _ _ h => h) (Or.inl ⟨by rfl, ?_⟩) hSX ?_
            rotate_left
            · (intro w hSw; go_simp; first | done | with_reducible rfl | rfl)
            simp only [Act.put]
            refine wpUntil_take (i := 1) (v := ?_) rfl (by kernel_rfl) (fun _ _ _ h => h) (Or.inl ⟨by rfl, ?_⟩) hSX ?_
            rotate_left
            · (intro w hSw; have q := hSw.1 1 _ rfl; go_simp; first | done | with_reducible rfl | rfl)
            simp only [Act.put]
            refine wpUntil_take (i := 2) (v := ?_) rfl (by kernel_rfl) (fun _ _ _ h => h) (Or.inl ⟨by rfl, ?_⟩) hSX ?_
            rotate_left
            · (intro w hSw; go_simp; first | done | with_reducible rfl | rfl)
            simp only [Act.put]
            refine wpUntil_ready (rs := [3]) (by kernel_rfl) (by simp) ?_
            refine AllU.cons rfl (fun K hK => ?_) AllU.nil
            go_simp
            refine (specNewCells_any XD).mono ?_
            rintro e X2 ⟨rfl, hX2⟩
            have b2 : Below XD.heap.size XD X2 := by rw [hX2]; exact (Below.refl _ _).alloc (Nat.le_refl _) _
            have s2 : X2.heap.size = XD.heap.size + 1 := by rw [hX2]; simp
            have z2 : X2.heap[XD.heap.size]? = some (.cells (zeros.flatMap C2.cells).toArray 119 (0, 0)) := by rw [hX2, ← zeros_made]; exact Go.Deep.blk_alloc_new XD _
            have hS2 : (fun X : World => Bx X W1.heap.size [.bool true, .slice ak (ncKs (spreadN n m) j i).length ck, .slice none 0 0, .slice none 0 0]) X2 := hSX.later b2
            obtain ⟨X3, hX3⟩ : ∃ X, X = X2.alloc (.cells #[.int .i64 (i : Int), .slice (some ⟨XD.heap.size, 0, none⟩) 6 6] 68) := ⟨_, rfl⟩
            have b3 : Below X2.heap.size X2 X3 := by rw [hX3]; exact (Below.refl _ _).alloc (Nat.le_refl _) _
            have x3 : Bx X3 X2.heap.size [.int .i64 (i : Int), .slice (some ⟨XD.heap.size, 0, none⟩) 6 6] := by rw [hX3]; exact Bx.made X2 [.int .i64 (i : Int), .slice (some ⟨XD.heap.size, 0, none⟩) 6 6] _
            have hS3 : (fun X : World => Bx X W1.heap.size [.bool true, .slice ak (ncKs (spreadN n m) j i).length ck, .slice none 0 0, .slice none 0 0]) X3 := hS2.later b3
            have bD := KD.out
            have bX3 : Below wr.heap.size wr X3 := bstep (bstep bD b2) b3
            have hpw : W1.heap.size < wr.heap.size := HC.out.box.2.2
            obtain ⟨v', Y, hr, hmr', hgr, hol⟩ := HC.out.rows.pushK bX3 (by omega) hpw ⟨(i : Int), zeros⟩ XD.heap.size 6 X2.heap.size (by have := ncKs_len (spreadN n m) j i; omega) 57 (x3.1 0 _ rfl) (x3.1 1 _ rfl) (AtK.of_block _ _ _ _ (b3.block _ (by omega)) (at_zeros z2)) (show zeros.length ≤ 6 by decide) bD.size (by have := b3.size; omega)
            obtain ⟨yb, yc, rfl, -⟩ := GrowG.own (hd := hdK) (sz := 2) (fun _ => rfl) hmr'.gK (by simp)
            rw [← ncKs_yes HH.out] at hr hmr'
            have hfar : Y.heap[W1.heap.size]? = X3.heap[W1.heap.size]? := hgr.block _ hS3.2.2 (fun e' => by have := hol _ e'.symm; omega)
            have hS4 : (fun X : World => Bx X W1.heap.size [.bool true, .slice ak (ncKs (spreadN n m) j i).length ck, .slice none 0 0, .slice none 0 0]) Y := hS3.of_block hfar hgr.size
            have o1 := hS4.1 1 _ rfl
            have fo1 := hS4.2.1 1
            have KE : Hid (McI W1.heap.size W1 (ncKs (spreadN n m) j (i + 1)) (.slice (some ⟨yb, 0, none⟩) (ncKs (spreadN n m) j (i + 1)).length yc) (fun t => if t = (ncKs (spreadN n m) j i).length then XD.heap.size else gk t) (Y.setCell ⟨W1.heap.size, 1, none⟩ (.slice (some ⟨yb, 0, none⟩) (ncKs (spreadN n m) j (i + 1)).length yc))) := ⟨hS4.set (i := 1) (by simp) _, hmr'.set, ((bstep HC.out.bel bX3).grown hgr (by have := (bstep HC.out.bel bX3).size; omega) (fun q hq => by have := hol q hq; omega)).setCell (p := ⟨W1.heap.size, 1, none⟩) (Nat.le_refl _) _⟩
            refine hK.out _ _ (fun _ => hS2) ?_
            clear hK K b2 s2 z2 b3 x3 bD bX3 hpw hmr' hgr hol hfar hSX hX2 KD HC
            refine wpUntil_take (i := 4) (v := ?_) rfl (by kernel_rfl) (fun _ _ _ h => h) (Or.inl ⟨by rfl, ?_⟩) hS2 ?_
            rotate_left
            · (intro w hSw; go_simp; first | done | with_reducible rfl | rfl)
            simp only [Act.put]
            refine wpUntil_ready (rs := [5]) (by kernel_rfl) (by simp) ?_
            refine AllU.cons rfl (fun K hK => ?_) AllU.nil
            go_simp
            rw [← hX3]
            refine hK.out _ _ (fun _ => hS3) ?_
            clear hK K hS2 hX3
            refine wpUntil_ready (rs := [6]) (by kernel_rfl) (by simp) ?_
            refine AllU.cons rfl (fun K hK => ?_) AllU.nil
            refine step_known _ rfl (.tmp 42) (.tmp 46) 57 rfl _ _ _ _ (by first | rfl | simp [Act.eval, Act.put]) (by first | rfl | simp [Act.eval, Act.put]) hr ?_
            refine hK.out _ _ (fun _ => hS4) ?_
            clear hK K hr hS3
            simp only [Act.put]
            refine wpUntil_ready (rs := [7]) (by kernel_rfl) (by simp) ?_
            refine AllU.cons rfl (fun K hK => ?_) AllU.nil
            go_simp
            refine hK.out _ _ (fun _ => hS4) ?_
            clear hK K
            refine wpUntil_ready (rs := [8]) (by kernel_rfl) (by simp) ?_
            refine AllU.cons rfl (fun K hK => ?_) AllU.nil
            go_simp
            refine hK.out _ _ (fun h => absurd rfl h) ?_
            clear hK K
            refine wpUntil_done (by kernel_rfl) ?_ _
            go_wp2
            exact ⟨⟨i + 1, some ⟨yb, 0, none⟩, yc, _, by omega, by simp, KE.out⟩, by simp [intOf]; omega⟩
        · obtain rfl : n = i := by omega
          have hd : decide ((n : Int) < (n : Int)) = false := by simp
          obtain ⟨X5, hX5⟩ : ∃ X, X = wr.alloc (.cells #[.bool true, .slice ak (ncKs (spreadN n m) j n).length ck, .slice none 0 0, .slice none 0 0] 61) := ⟨_, rfl⟩
          have b5 : Below wr.heap.size wr X5 := by rw [hX5]; exact (Below.refl _ _).alloc (Nat.le_refl _) _
          have x5 : Bx X5 wr.heap.size [.bool true, .slice ak (ncKs (spreadN n m) j n).length ck, .slice none 0 0, .slice none 0 0] := by rw [hX5]; exact Bx.made wr [.bool true, .slice ak (ncKs (spreadN n m) j n).length ck, .slice none 0 0, .slice none 0 0] _
          obtain ⟨Q, hQ, hQp⟩ := MR.own0 (u := ⟨ak, ck, none, 0, none, 0⟩) (m := ncM (spreadN n m) n j) (hmc.rows.later b5)
          have hml : ms.length = j := by have := congrArg List.length HM.out; simpa [ncMs] using this
          obtain ⟨a', c', Y, hr, hbY, hI'⟩ := HI.out.push (bstep hmc.bel b5) ⟨ak, ck, none, 0, none, 0⟩ (ncM (spreadN n m) n j) Q wr.heap.size (by omega) 23 x5.1 (KMk.low hQ (by omega))
          rw [hml] at hr hI'
          have KE : Hid (NcI w w1.heap.size b n cap (spreadN n m) g (Y.setCell ⟨w1.heap.size, 3, none⟩ (.slice a' (j + 1) c')) (.slice a' (j + 1) c') (ms ++ [((⟨ak, ck, none, 0, none, 0⟩ : MV), ncM (spreadN n m) n j)]) (fun t => if t = j then Q else gm t) ∧ (ms ++ [((⟨ak, ck, none, 0, none, 0⟩ : MV), ncM (spreadN n m) n j)]).map (·.2) = ncMs (spreadN n m) n (j + 1)) := ⟨hI', by rw [List.map_append, HM.out, ncMs_succ]; rfl⟩
          have hB := (HI.out.later hmc.bel).box
          have o3 := hB.1 3 _ rfl
          have y0 := hmc.box.1 0 _ rfl
          have y1 := hmc.box.1 1 _ rfl
          have y2 := hmc.box.1 2 _ rfl
          have y3 := hmc.box.1 3 _ rfl
          have v3 := hbY.1 3 _ rfl
          have vf3 := hbY.2.1 3
          rw [hX5] at hr
          clear hmc b5 x5 hQ hQp hml hbY hI' hB HM HI hX5
          go_wp2_with (at_builtin; refine append_known _ rfl (.tmp 50) (.tmp 52) 23 rfl _ _ _ _ rfl rfl hr ?_)
          exact ⟨⟨j + 1, a', c', _, _, by omega, by simp, KE.out.2, KE.out.1⟩, by simp [intOf]; omega⟩
    · obtain rfl : j = m := by omega
      have hd : decide ((j : Int) < (j : Int)) = false := by simp
      obtain ⟨P, hP, how⟩ := hI.ow hms
      have r0 := hI.res.1 0 _ rfl
      have r1 := hI.res.1 1 _ rfl
      have r2 := hI.res.1 2 _ rfl
      have r3 := hI.res.1 3 _ rfl
      have r4 := hI.res.1 4 _ rfl
      have r5 := hI.res.1 5 _ rfl
      have f0 := hI.res.2.1 0
      have f1 := hI.res.2.1 1
      have f2 := hI.res.2.1 2
      have f3 := hI.res.2.1 3
      have f4 := hI.res.2.1 4
      have f5 := hI.res.2.1 5
      have o0 := hI.box.1 0 _ rfl
      have o1 := hI.box.1 1 _ rfl
      have o2 := hI.box.1 2 _ rfl
      have o3 := hI.box.1 3 _ rfl
      have o4 := hI.box.1 4 _ rfl
      have o5 := hI.box.1 5 _ rfl
      have KE : Hid (KCl.Ow wr (w.heap.size + 1) (some ⟨b, 0, none⟩) cap a2 c2 none 0 ⟨1, 0, spreadN n j, ncMs (spreadN n j) n j, [], false⟩ P ∧ (∀ q, P q → w.heap.size + 1 ≤ q) ∧ Below w.heap.size w wr) := ⟨how, fun q hq => (hP q hq).1, hI.bel⟩
      have L1 : Hid ((spreadN n j).length = n ∧ (ncMs (spreadN n j) n j).length = j) := ⟨spreadN_len n j, by simp [ncMs]⟩
      clear hI hms how hP
      go_wp2
      refine bodyPost_ret (v := .tuple #[.agg #[.int .i64 1, .int .i64 0, .slice (some ⟨b, 0, none⟩) n cap, .slice a2 j c2, .slice none 0 0, .bool false], .bool true]) (by simp [results, Try.results8, go_sem, r0, r1, r2, r3, r4, r5]) rfl ?_
      refine ⟨some ⟨b, 0, none⟩, cap, a2, c2, none, 0, P, ?_, ?_, ?_⟩
      · simp only [L1.out.1, L1.out.2, List.length_nil]
      · exact (KE.out.1.low0 (by omega)).keep (w' := putB wr w.heap.size 0 [.int .i64 1, .int .i64 0, .slice (some ⟨b, 0, none⟩) n cap, .slice a2 j c2, .slice none 0 0, .bool false]) (by rw [putB_size]; exact Nat.le_refl _) (fun q hq => putB_block (fun e => by have := KE.out.2.1 q hq; omega) _ _ _)
      · exact putB_below (w := w) (Nat.le_refl _) [.int .i64 1, .int .i64 0, .slice (some ⟨b, 0, none⟩) n cap, .slice a2 j c2, .slice none 0 0, .bool false] wr 0 KE.out.2.2
set_option maxHeartbeats 1000000 in
theorem specNewCluster_any (w : World) (R M : Int) :
    Calls Try.prog 8 #[.int .i64 R, .int .i64 M] w (CbAns w (newC R M) (spreadB R M)) := by
  cases h : spreadB R M with
  | true =>
    obtain ⟨n, m, rfl, rfl, h1, h2, h3, h4⟩ := spread_bd h
    have hL : newC (n : Int) (m : Int) = ⟨1, 0, (spreadN n m), ncMs (spreadN n m) n m, [], false⟩ := by simp [newC, h]
    rw [hL]
    exact specNewCluster_in w n m h1 h2 h3 h4
  | false =>
    have hL : newC R M = noC := by simp [newC, h]
    rw [hL]
    obtain ⟨W0, hW0⟩ : ∃ Y, Y = w.alloc (.cells #[.int .i64 0, .int .i64 0, .slice none 0 0, .slice none 0 0, .slice none 0 0, .bool false] 26) := ⟨_, rfl⟩
    have b0 : Below w.heap.size w W0 := by rw [hW0]; exact (Below.refl _ _).alloc (Nat.le_refl _) _
    have x0 : Bx W0 w.heap.size [.int .i64 0, .int .i64 0, .slice none 0 0, .slice none 0 0, .slice none 0 0, .bool false] := by rw [hW0]; exact Bx.made w [.int .i64 0, .int .i64 0, .slice none 0 0, .slice none 0 0, .slice none 0 0, .bool false] _
    have hc := specSpread_out W0 R M h
    have H : Hid (Below w.heap.size w W0 ∧ Bx W0 w.heap.size [.int .i64 0, .int .i64 0, .slice none 0 0, .slice none 0 0, .slice none 0 0, .bool false]) := ⟨b0, x0⟩
    clear b0 x0
    go_enter Try.func8, Try.ntmps8
    go_wp2_with fail
    rw [← hW0]
    clear hW0
    refine hc.mono ?_
    clear hc
    rintro e w1 ⟨rfl, -, b1⟩
    have y0 := H.out.2.later b1
    have B1 : Hid (Below w.heap.size w w1) := bstep H.out.1 b1
    have r0 := y0.1 0 _ rfl
    have r1 := y0.1 1 _ rfl
    have r2 := y0.1 2 _ rfl
    have r3 := y0.1 3 _ rfl
    have r4 := y0.1 4 _ rfl
    have r5 := y0.1 5 _ rfl
    have f0 := y0.2.1 0
    have f1 := y0.2.1 1
    have f2 := y0.2.1 2
    have f3 := y0.2.1 3
    have f4 := y0.2.1 4
    have f5 := y0.2.1 5
    clear y0 b1 H
    go_wp2
    refine bodyPost_ret (v := .tuple #[.agg #[.int .i64 0, .int .i64 0, .slice none 0 0, .slice none 0 0, .slice none 0 0, .bool false], .bool false]) (by simp [results, Try.results8, go_sem, r0, r1, r2, r3, r4, r5]) rfl ?_
    exact ⟨none, 0, none, 0, none, 0, fun _ => False, rfl, noC_ow _ _, putB_below (w := w) (Nat.le_refl _) [.int .i64 0, .int .i64 0, .slice none 0 0, .slice none 0 0, .slice none 0 0, .bool false] w1 0 B1.out⟩
end Go.Proofs.Ytcbfnajpcaipkaa
