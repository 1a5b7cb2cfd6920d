import Derived.Test.YtcbfnajpcaipkaaRows
import Derived.Test.YtcbfnajpcaipkaaJ0ExactNewCluster
import Derived.Test.YtcbfnajpcaipkaaJ3ExactNewCluster
import Derived.WalkKit
import Derived.WalkSpells
import Derived.WalkLawsBesides
import Derived.Below
import Derived.Deep.RegionHeldLaw
namespace Go.Proofs.Ytcbfnajpcaipkaa
open Go.RowKit
theorem l1Min_val (w : World) (x y : Int) : Calls Try.prog 48 #[.int .i64 x, .int .i64 y] w fun e w' => e = .returned (.int .i64 (min x y)) ∧ w' = w := by
  by_cases h : x < y
  · rw [Int.min_eq_left (by omega)]
    go_enter Try.func48, Try.ntmps48
    go_wp2
    go_ret
    exact ⟨rfl, rfl⟩
  · have hd : decide (x < y) = false := by simp [h]
    rw [Int.min_eq_right (by omega)]
    go_enter Try.func48, Try.ntmps48
    go_wp2
    go_ret
    exact ⟨rfl, rfl⟩
def spreadRow (j m k : Nat) : List Int := (List.range k).map fun i => (((j + i) % m : Nat) : Int)
def spreadN (n m : Nat) : List (List Int) := (List.range n).map fun j => spreadRow j m (min m 3)
def spreadB (R M : Int) : Bool := inB 1 6 R && inB 1 8 M
def spreadL (R M : Int) : List (List Int) := if spreadB R M = true then spreadN R.toNat M.toNat else []
theorem spreadRow_len (j m k : Nat) : (spreadRow j m k).length = k := by simp [spreadRow]
theorem spreadRow_succ (j m k : Nat) : spreadRow j m (k + 1) = spreadRow j m k ++ [(((j + k) % m : Nat) : Int)] := by simp [spreadRow, List.range_succ]
theorem spreadN_succ (n m : Nat) : spreadN (n + 1) m = spreadN n m ++ [spreadRow n m (min m 3)] := by simp [spreadN, List.range_succ]
theorem spreadN_len (n m : Nat) : (spreadN n m).length = n := by simp [spreadN]
set_option maxRecDepth 100000 in
set_option maxHeartbeats 4000000 in
theorem specSpread_inB (w : World) (n m : Nat) (hn1 : 1 ≤ n) (hn6 : n ≤ 6) (hm1 : 1 ≤ m) (hm8 : m ≤ 8) :
    Calls Try.prog 18 #[.int .i64 (n : Int), .int .i64 (m : Int)] w fun e w' => ∃ b cap g, e = .returned (.tuple #[.slice (some ⟨b, 0, none⟩) n cap, .bool true]) ∧ OwnP w' w.heap.size b n (spreadN n m) g ∧ b < w'.heap.size ∧ Below w.heap.size w w' ∧ w.heap.size ≤ b := by
  have i1 : inB 1 6 (n : Int) = true := inB_yes (by omega) (by omega)
  have i2 : inB 1 8 (m : Int) = true := inB_yes (by omega) (by omega)
  go_enter Try.func18, Try.ntmps18
  go_wp2_with (go_at_call 47; refine (specIn _ _ _ _).mono ?_; (first | rw [i1] | rw [i2]); rintro e w ⟨rfl, rfl⟩)
  go_loopw [6, 7] (fun v6 v7 wr => ∃ (j : Nat) (v : Value) (g : Nat → Nat), j ≤ n ∧ v7 = .int .i64 j ∧ v6 = v ∧ v ≠ .slice none 0 0 ∧ OutP wr w.heap.size v (spreadN j m) g ∧ Below w.heap.size w wr) (fun _ v7 _ => n - (intOf v7).toNat)
  case atStart => exact ⟨0, _, fun _ => 0, Nat.zero_le _, rfl, rfl, by simp, OutP.empty w _ (Nat.le_refl _) _, (Below.refl _ _).alloc (Nat.le_refl _) _⟩
  case round =>
    obtain ⟨j, vo, g, hj, rfl, rfl, hv, hout, hbl⟩ := hrel
    by_cases hlt : j < n
    · have KO : Hid (OutP wr w.heap.size u6 (spreadN j m) g ∧ Below w.heap.size w wr ∧ u6 ≠ .slice none 0 0) := ⟨hout, hbl, hv⟩
      clear hout hbl hv
      go_wp2
      generalize wr = W1 at *
      have hmin : min (m : Int) 3 = ((min m 3 : Nat) : Int) := by omega
      go_loopw [9] (fun v9 wr => ∃ (k : Nat) (v : Value), k ≤ min m 3 ∧ v9 = .int .i64 k ∧ PB wr W1.heap.size W1.heap.size v (spreadRow j m k) ∧ Below W1.heap.size W1 wr) (fun v9 _ => min m 3 - (intOf v9).toNat)
      case atStart => exact ⟨0, _, Nat.zero_le _, rfl, PB.new W1 _ (Nat.le_refl _), (Below.refl _ _).alloc (Nat.le_refl _) _⟩
      case round =>
        obtain ⟨k, v, hk, rfl, hpb, hbw⟩ := hrel
        have hmn := l1Min_val wr (m : Int) 3
        rw [hmin] at hmn
        by_cases hkl : k < min m 3
        · have hcell := hpb.cell
          have hfrz := hpb.frz
          have hz : (((j + k) % m : Nat) : Int) = ((j : Int) + (k : Int)) % (m : Int) := by simp
          obtain ⟨v', W', hr, c1, f1, hp2, hb2, _⟩ := hpb.step (((j + k) % m : Nat) : Int) (by rw [spreadRow_len]; omega) 59
          have HS : Hid (spreadRow j m (k + 1) = spreadRow j m k ++ [(((j + k) % m : Nat) : Int)]) := spreadRow_succ j m k
          have HP2 : Hid (PB (W'.setCell ⟨W1.heap.size, 0, none⟩ v') W1.heap.size W1.heap.size v' (spreadRow j m k ++ [(((j + k) % m : Nat) : Int)]) ∧ Below W1.heap.size W1 (W'.setCell ⟨W1.heap.size, 0, none⟩ v')) := ⟨hp2, hbw.trans hb2⟩
          obtain ⟨q, cp, rfl⟩ : ∃ q cp, v' = .slice (some ⟨q, 0, none⟩) (k + 1) cp := by
            rcases hp2.on.form with ⟨_, e⟩ | ⟨q, cp, e, _⟩
            · simp at e
            · exact ⟨q, cp, by rw [e]; simp [spreadRow_len]⟩
          rw [hz] at hr
          have hPlt := hpb.lt
          have hmne : (m : Int) ≠ 0 := by omega
          have hkl' : (k : Int) < ((min m 3 : Nat) : Int) := by omega
          clear hp2 hb2 hpb hbw hz
          go_wp2_with fail
          refine hmn.mono ?_
          clear hmn
          rintro e wr ⟨rfl, rfl⟩
          go_wp2_with fail
          have hwa : IntKind.i64.wrap ((j : Int) + (k : Int)) = (j : Int) + (k : Int) := by simp [IntKind.wrap, IntKind.bits, IntKind.signed]; omega
          refine wp_region_held_drew (S := fun _ => True) (by kernel_rfl) trivial (fun _ => ?_)
          refine wpAnyH_take (i := 0) (v := ?_) rfl (by kernel_rfl) (by kernel_rfl) (by kernel_rfl) (fun _ _ _ h => h) (Or.inl ⟨by rfl, ?_⟩) trivial ?_
          rotate_left
          · (intro w hSw; go_simp; first | done | with_reducible rfl | (rw [if_pos (by omega)]))
          simp only [Act.put]
          refine wpAnyH_take (i := 2) (v := ?_) rfl (by kernel_rfl) (by kernel_rfl) (by kernel_rfl) (fun _ _ _ h => h) (Or.inl ⟨by rfl, ?_⟩) trivial ?_
          rotate_left
          · (intro w hSw; go_simp; first | done | with_reducible rfl | (rw [if_pos (by omega)]))
          simp only [Act.put]
          refine wpAnyH_take (i := 3) (v := ?_) rfl (by kernel_rfl) (by kernel_rfl) (by kernel_rfl) (fun _ _ _ h => h) (Or.inl ⟨by rfl, ?_⟩) trivial ?_
          rotate_left
          · (intro w hSw; go_simp; first | done | with_reducible rfl | (rw [if_pos (by omega)]))
          simp only [Act.put]
          refine wpAnyH_take (i := 4) (v := ?_) rfl (by kernel_rfl) (by kernel_rfl) (by kernel_rfl) (fun _ _ _ h => h) (Or.inl ⟨by rfl, ?_⟩) trivial ?_
          rotate_left
          · (intro w hSw; go_simp; first | done | with_reducible rfl | (rw [if_pos (by omega)]))
          simp only [Act.put]
          refine wpAnyH_take (i := 5) (v := ?_) rfl (by kernel_rfl) (by kernel_rfl) (by kernel_rfl) (fun _ _ _ h => h) (Or.inl ⟨by rfl, ?_⟩) trivial ?_
          rotate_left
          · (intro w hSw; go_simp; first | done | with_reducible rfl | (rw [if_pos (by omega)]))
          simp only [Act.put]
          refine wpAnyH_take (i := 6) (v := ?_) rfl (by kernel_rfl) (by kernel_rfl) (by kernel_rfl) (fun _ _ _ h => h) (Or.inl ⟨by rfl, ?_⟩) trivial ?_
          rotate_left
          · (intro w hSw; go_simp; first | done | with_reducible rfl | (rw [if_neg (by omega)]))
          simp only [Act.put]
          refine wpAnyH_ready (rs := [1, 7]) (by kernel_rfl) (by simp) ?_
          refine AllReadyH.cons rfl (fun K hK => ?_) (AllReadyH.cons rfl (fun K hK => ?_) AllReadyH.nil)
          · go_simp
            refine hK.out _ _ trivial (fun _ => ?_)
            clear hK K
            refine wpAnyH_ready (rs := [7]) (by kernel_rfl) (by simp) ?_
            refine AllReadyH.cons rfl (fun K hK => ?_) AllReadyH.nil
            go_simp
            refine hK.out _ _ trivial (fun _ => ?_)
            clear hK K
            refine wpAnyH_ready (rs := [8]) (by kernel_rfl) (by simp) ?_
            refine AllReadyH.cons rfl (fun K hK => ?_) AllReadyH.nil
            refine step_known _ rfl (.tmp 33) (.tmp 39) 59 rfl _ _ _ _ (by first | rfl | simp [Act.eval, Act.put]) (by first | rfl | simp [Act.eval, Act.put]) hr ?_
            refine hK.out _ _ trivial (fun _ => ?_)
            clear hK K
            simp only [Act.put]
            refine wpAnyH_take (i := 9) (v := ?_) rfl (by kernel_rfl) (by kernel_rfl) (by kernel_rfl) (fun _ _ _ h => h) (Or.inl ⟨by rfl, ?_⟩) trivial ?_
            rotate_left
            · (intro w hSw; go_simp; first | done | with_reducible rfl | (rw [if_pos (by omega)]))
            simp only [Act.put]
            refine wpAnyH_ready (rs := [10]) (by kernel_rfl) (by simp) ?_
            refine AllReadyH.cons rfl (fun K hK => ?_) AllReadyH.nil
            go_simp
            refine hK.out _ _ trivial (fun _ => ?_)
            clear hK K
            refine wpAnyH_done (by kernel_rfl) ?_ _
            go_wp2
            exact ⟨⟨k + 1, _, by omega, by simp, by rw [HS.out]; exact HP2.out.1, HP2.out.2⟩, by simp [intOf]; omega⟩
          · go_simp
            refine hK.out _ _ trivial (fun _ => ?_)
            clear hK K
            refine wpAnyH_ready (rs := [1]) (by kernel_rfl) (by simp) ?_
            refine AllReadyH.cons rfl (fun K hK => ?_) AllReadyH.nil
            go_simp
            refine hK.out _ _ trivial (fun _ => ?_)
            clear hK K
            refine wpAnyH_ready (rs := [8]) (by kernel_rfl) (by simp) ?_
            refine AllReadyH.cons rfl (fun K hK => ?_) AllReadyH.nil
            refine step_known _ rfl (.tmp 33) (.tmp 39) 59 rfl _ _ _ _ (by first | rfl | simp [Act.eval, Act.put]) (by first | rfl | simp [Act.eval, Act.put]) hr ?_
            refine hK.out _ _ trivial (fun _ => ?_)
            clear hK K
            simp only [Act.put]
            refine wpAnyH_take (i := 9) (v := ?_) rfl (by kernel_rfl) (by kernel_rfl) (by kernel_rfl) (fun _ _ _ h => h) (Or.inl ⟨by rfl, ?_⟩) trivial ?_
            rotate_left
            · (intro w hSw; go_simp; first | done | with_reducible rfl | (rw [if_pos (by omega)]))
            simp only [Act.put]
            refine wpAnyH_ready (rs := [10]) (by kernel_rfl) (by simp) ?_
            refine AllReadyH.cons rfl (fun K hK => ?_) AllReadyH.nil
            go_simp
            refine hK.out _ _ trivial (fun _ => ?_)
            clear hK K
            refine wpAnyH_done (by kernel_rfl) ?_ _
            go_wp2
            exact ⟨⟨k + 1, _, by omega, by simp, by rw [HS.out]; exact HP2.out.1, HP2.out.2⟩, by simp [intOf]; omega⟩
        · have hke : k = min m 3 := by omega
          subst hke
          have hd : decide (((min m 3 : Nat) : Int) < ((min m 3 : Nat) : Int)) = false := by simp
          obtain ⟨q, cp, rfl, hq1, hq2, hqc, hqn, hqr⟩ : ∃ q cp, v = .slice (some ⟨q, 0, none⟩) (min m 3) cp ∧ W1.heap.size ≤ q ∧ q < wr.heap.size ∧ min m 3 ≤ cp ∧ NumsAt wr q 0 (spreadRow j m (min m 3)) ∧ Room wr q (min m 3) := by
            rcases hpb.on.form with ⟨_, e⟩ | ⟨q, cp, e, h1, h2, h3, h4, h5⟩
            · have := congrArg List.length e
              rw [spreadRow_len] at this
              simp at this
              omega
            · rw [spreadRow_len] at e h3 h5
              exact ⟨q, cp, e, h1, h2, h3, h4, h5⟩
          have hcell := hpb.cell
          have hPlt := hpb.lt
          have bB : Below wr.heap.size wr (wr.alloc (.cells #[.slice (some ⟨q, 0, none⟩) (min m 3) cp] 64)) := (Below.refl _ _).alloc (Nat.le_refl _) _
          have b1B : Below W1.heap.size W1 (wr.alloc (.cells #[.slice (some ⟨q, 0, none⟩) (min m 3) cp] 64)) := hbw.trans (bB.mono hbw.size)
          have hO := KO.out.1.below b1B
          have hqA : q < (wr.alloc (.cells #[.slice (some ⟨q, 0, none⟩) (min m 3) cp] 64)).heap.size := Nat.lt_of_lt_of_le hq2 bB.size
          obtain ⟨cs0, ho0, _⟩ := KO.out.1.row
          have hlen := spreadRow_len j m (min m 3)
          obtain ⟨v2, W2, hr, ho2, hg2, _, _⟩ := hO.push (e := wr.heap.size) (spreadRow j m (min m 3)) q cp (by rw [spreadN_len]; omega) 22 (by rw [hlen]; go_simp) (by rw [hlen]; exact hqc) (by have := KO.out.2.1.size; omega) hqA
            (fun e => by have := (World.ownsRow.lt ho0 q e).2; omega) (hqn.below bB hq2) (by rw [hlen]; exact hqr.below bB hq2) (fun i hi e => by have := KO.out.1.lt i hi; omega) (by have := KO.out.2.1.size; have := b1B.size; omega)
          have hb2 : Below w.heap.size w W2 := (KO.out.2.1.trans (b1B.mono KO.out.2.1.size)).grown hg2 (by have := KO.out.2.1.size; have := b1B.size; omega) (fun x e => (World.ownsRow.lt ho0 x e).1)
          have hv2 : v2 ≠ .slice none 0 0 := by
            intro e
            obtain ⟨cs2, ho, _⟩ := ho2.row
            obtain ⟨x, y, e', _⟩ := ho.form (by simp)
            rw [e] at e'
            cases e'
          have HK2 : Hid (OutP W2 w.heap.size v2 (spreadN j m ++ [spreadRow j m (min m 3)]) (fun i => if i = (spreadN j m).length then q else g i) ∧ Below w.heap.size w W2 ∧ v2 ≠ .slice none 0 0) := ⟨ho2, hb2, hv2⟩
          clear ho2 hb2 hv2 hg2 hO ho0 hqn hqr hpb bB b1B hbw
          go_wp2_with fail
          refine hmn.mono ?_
          clear hmn
          rintro e wr ⟨rfl, rfl⟩
          go_wp2_with (at_builtin; refine append_known _ rfl (.tmp 42) (.tmp 44) 22 rfl _ _ _ _ rfl rfl hr ?_)
          exact ⟨⟨j + 1, v2, _, by omega, by simp, rfl, HK2.out.2.2, by rw [spreadN_succ]; exact HK2.out.1, HK2.out.2.1⟩, by simp [intOf]; omega⟩
    · have hjn : j = n := by omega
      subst hjn
      have hd : decide ((j : Int) < (j : Int)) = false := by simp
      obtain ⟨b, cp, rfl, hb1, hb2, _, hown⟩ := hout.own hv
      rw [spreadN_len] at hown
      have HK : Hid (OwnP wr w.heap.size b j (spreadN j m) g ∧ b < wr.heap.size ∧ Below w.heap.size w wr ∧ w.heap.size ≤ b) := ⟨hown, hb2, hbl, hb1⟩
      have hl := spreadN_len j m
      clear hout hown hv hbl hb1
      rw [hl]
      go_wp2
      refine bodyPost_ret (v := .tuple #[.slice (some ⟨b, 0, none⟩) j cp, .bool true]) (by simp [results, Try.results18, go_sem]) rfl ?_
      exact ⟨b, cp, g, rfl, HK.out.1, HK.out.2.1, HK.out.2.2⟩
set_option maxHeartbeats 1000000 in
theorem specSpread_out (w : World) (R M : Int) (h : spreadB R M = false) :
    Calls Try.prog 18 #[.int .i64 R, .int .i64 M] w fun e w' => e = .returned (.tuple #[.slice (some ⟨w.heap.size, 0, none⟩) 0 0, .bool false]) ∧ w.heap.size < w'.heap.size ∧ Below w.heap.size w w' := by
  cases i1 : inB 1 6 R with
  | false =>
    go_enter Try.func18, Try.ntmps18
    go_wp2_with (go_at_call 47; refine (specIn _ _ _ _).mono ?_; rw [i1]; rintro e w ⟨rfl, rfl⟩)
    refine bodyPost_ret (v := .tuple #[.slice (some ⟨w.heap.size, 0, none⟩) 0 0, .bool false]) (by simp [results, Try.results18, go_sem]) rfl ?_
    exact ⟨rfl, by simp, (Below.refl _ _).alloc (Nat.le_refl _) _⟩
  | true =>
    have i2 : inB 1 8 M = false := by simpa [spreadB, i1] using h
    go_enter Try.func18, Try.ntmps18
    go_wp2_with (go_at_call 47; refine (specIn _ _ _ _).mono ?_; (first | rw [i1] | rw [i2]); rintro e w ⟨rfl, rfl⟩)
    refine bodyPost_ret (v := .tuple #[.slice (some ⟨w.heap.size, 0, none⟩) 0 0, .bool false]) (by simp [results, Try.results18, go_sem]) rfl ?_
    exact ⟨rfl, by simp, (Below.refl _ _).alloc (Nat.le_refl _) _⟩
theorem spread_bd {R M : Int} (h : spreadB R M = true) : ∃ n m : Nat, R = (n : Int) ∧ M = (m : Int) ∧ 1 ≤ n ∧ n ≤ 6 ∧ 1 ≤ m ∧ m ≤ 8 := by
  simp only [spreadB, Bool.and_eq_true, inB_iff] at h
  exact ⟨R.toNat, M.toNat, by omega, by omega, by omega, by omega, by omega, by omega⟩
end Go.Proofs.Ytcbfnajpcaipkaa
