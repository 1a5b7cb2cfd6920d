import Derived.Test.YtcbfnajpcaipkaaRows
import Derived.Test.YtcbfnajpcaipkaaNmDJ
import Derived.Test.YtcbfnajpcaipkaaJ18ExactNewCluster
import Derived.WalkKit
import Derived.WalkSpells
import Derived.WalkLawsBesides
import Derived.Below
import Derived.Lib.QuietBelow
import Derived.BigQuiet
import Derived.Deep.CutRange
import Derived.LaidEql
import Derived.RowKitTokens
import Derived.Deep.Upon
import Derived.Deep.RegionWith
namespace Go.Proofs.Ytcbfnajpcaipkaa
open Go.RowKit
open Go.Sort (grow)
theorem at_made (w : World) (m a : Nat) (ha : a < m) : At (w.alloc (.cells (madeCells #[.bool false, .slice none 0 0, .slice none 0 0, .slice none 0 0] (m * 4)) 61)) w.heap.size (a * 4) [.bool false, .slice none 0 0, .slice none 0 0, .slice none 0 0] := fun j u hu => by
  have hj : j < 4 := (List.getElem?_eq_some_iff.1 hu).1
  rw [World.cell?_alloc_new]
  have h1 : a * 4 + j < m * 4 := by omega
  have h2 : (a * 4 + j) % 4 = j := by omega
  simp only [madeCells, Array.getElem?_map, Array.getElem?_range, h1, if_true, Option.map_some]
  rw [← hu]
  rcases (show j = 0 ∨ j = 1 ∨ j = 2 ∨ j = 3 by omega) with rfl | rfl | rfl | rfl <;> simp [h2]
set_option maxRecDepth 100000 in
set_option maxHeartbeats 4000000 in
theorem newMachines_in (w : World) (base b cap n m : Nat) (g : Nat → Nat) (hn6 : n ≤ 6) (hm1 : 1 ≤ m) (hm8 : m ≤ 8) (hpl : OwnP w base b n (spreadN n m) g) (hb : b < w.heap.size) :
    Calls Try.prog 33 #[.slice (some ⟨b, 0, none⟩) n cap, .int .i64 (m : Int)] w fun e w' => e = .returned (.slice (some ⟨w.heap.size, 0, none⟩) m m) ∧ (∃ P, KMk.OwS w' w.heap.size (some ⟨w.heap.size, 0, none⟩) (ncMs (spreadN n m) n m) P) ∧ Below w.heap.size w w' := by
  have hmk := make_KMS m (by omega)
  have HP : Hid (OwnP w base b n (spreadN n m) g ∧ b < w.heap.size) := ⟨hpl, hb⟩
  clear hpl hb
  go_enter Try.func33, Try.ntmps33
  go_wp2
  clear hmk
  go_loopw [15] (fun v15 wr => ∃ i : Nat, i ≤ m ∧ v15 = .int .i64 i ∧ Room wr w.heap.size (m * 4) ∧ (∀ a, a < m → At wr w.heap.size (a * 4) [.bool (decide (a < i)), .slice none 0 0, .slice none 0 0, .slice none 0 0]) ∧ Below w.heap.size w wr ∧ w.heap.size < wr.heap.size) (fun v15 _ => m - (intOf v15).toNat)
  case atStart => exact ⟨0, Nat.zero_le _, rfl, room_made _ _ _ _, fun a ha => by simpa using at_made w m a ha, (Below.refl _ _).alloc (Nat.le_refl _) _, by simp⟩
  case round =>
    obtain ⟨i, hi, rfl, hrm, hat, hbl, hlt⟩ := hrel
    by_cases hil : i < m
    · obtain ⟨z0, g0, f0⟩ := hrm (i * 4) (by omega)
      have im : (i : Int) < (m : Int) := by omega
      have KE : Hid (Room (wr.setCell ⟨w.heap.size, i * 4, none⟩ (.bool true)) w.heap.size (m * 4) ∧ (∀ a, a < m → At (wr.setCell ⟨w.heap.size, i * 4, none⟩ (.bool true)) w.heap.size (a * 4) [.bool (decide (a < i + 1)), .slice none 0 0, .slice none 0 0, .slice none 0 0]) ∧ Below w.heap.size w (wr.setCell ⟨w.heap.size, i * 4, none⟩ (.bool true)) ∧ w.heap.size < (wr.setCell ⟨w.heap.size, i * 4, none⟩ (.bool true)).heap.size) := ⟨hrm.set _, fun a ha => by
        by_cases e : a = i
        · subst e
          have h := At.put0 (hat a ha) (i := 0) (by simp) (.bool true)
          simpa using h
        · have h := (hat a ha).far0 (p := i * 4) (by simp only [List.length_cons, List.length_nil]; omega) (.bool true)
          rw [show decide (a < i + 1) = decide (a < i) by rw [decide_eq_decide]; omega]
          exact h, hbl.setCell (p := ⟨w.heap.size, i * 4, none⟩) (Nat.le_refl _) _, by simpa [World.setCell] using hlt⟩
      clear hrm hat hbl hlt
      go_wp2
      exact ⟨⟨i + 1, by omega, by simp, KE.out.1, KE.out.2.1, KE.out.2.2.1, KE.out.2.2.2⟩, by simp [intOf]; omega⟩
    · obtain rfl : m = i := by omega
      have hd : decide ((m : Int) < (m : Int)) = false := by simp
      have HN0 : Hid (NmI w.heap.size m wr (fun a => ncKs (spreadN n m) a 0) (fun _ => .slice none 0 0) (fun _ => gz0) ∧ Below w.heap.size w wr) := ⟨⟨hrm, fun a ha => by have := hat a ha; rwa [show decide (a < m) = true by simpa using ha] at this, fun a _ => GrowG.nil _ _ _, fun a c q _ _ _ h => by rcases h with h | ⟨k, hk, _⟩; cases h; simp [ncKs] at hk, hlt⟩, hbl⟩
      clear hrm hat hbl hlt hi hil
      generalize wr = U1 at *
      go_wp2
      clear hd
      go_loopw [25] (fun v25 wr => ∃ (r : Nat) (v : Nat → Value) (gk : Nat → Nat → Nat), r ≤ n ∧ v25 = .int .i64 r ∧ NmI w.heap.size m wr (fun a => ncKs (spreadN n m) a r) v gk ∧ Below w.heap.size w wr) (fun v25 _ => n - (intOf v25).toNat)
      case atStart => exact ⟨0, _, _, Nat.zero_le _, rfl, HN0.out.1, HN0.out.2⟩
      case round =>
        clear HN0
        obtain ⟨r, v, gk, hr, rfl, hN, hbl⟩ := hrel
        by_cases hrl : r < n
        · have he : (spreadN n m)[r]? = some (spreadRow r m (min m 3)) := by simp [spreadN, hrl]
          have hpl := HP.out.1.later hbl HP.out.2
          obtain ⟨cp, hcell, -⟩ := hpl.cell r _ he
          rw [spreadRow_len] at hcell
          have rn : (r : Int) < (n : Int) := by omega
          have KR : Hid (NmI w.heap.size m wr (fun a => ncKs (spreadN n m) a r) v gk ∧ Below w.heap.size w wr) := ⟨hN, hbl⟩
          clear hN hbl hpl he
          go_wp2
          clear hcell
          generalize wr = U2 at *
          have bU : Below U2.heap.size U2 (U2.alloc (.cells #[.slice (some ⟨g r, 0, none⟩) (min m 3) cp] 64)) := (Below.refl _ _).alloc (Nat.le_refl _) _
          have KU : Hid (NmI w.heap.size m (U2.alloc (.cells #[.slice (some ⟨g r, 0, none⟩) (min m 3) cp] 64)) (fun a => ncKt (spreadN n m) r 0 a) v gk ∧ Below w.heap.size w (U2.alloc (.cells #[.slice (some ⟨g r, 0, none⟩) (min m 3) cp] 64))) := ⟨(KR.out.1.later bU).same (fun a _ => ncKt_zero _ _ _), bstep KR.out.2 bU⟩
          clear bU KR
          go_loopw [33] (fun v33 wr => ∃ (t : Nat) (v : Nat → Value) (gk : Nat → Nat → Nat), t ≤ min m 3 ∧ v33 = .int .i64 t ∧ NmI w.heap.size m wr (fun a => ncKt (spreadN n m) r t a) v gk ∧ Below w.heap.size w wr) (fun v33 _ => min m 3 - (intOf v33).toNat)
          case atStart => exact ⟨0, _, _, Nat.zero_le _, rfl, KU.out.1, KU.out.2⟩
          case round =>
            clear KU
            obtain ⟨t, v, gk, ht, rfl, hN, hbl⟩ := hrel
            by_cases htl : t < min m 3
            · have he : (spreadN n m)[r]? = some (spreadRow r m (min m 3)) := by simp [spreadN, hrl]
              have hpl := HP.out.1.later hbl HP.out.2
              have k0 := hpl.nums r _ he t _ (row_at htl)
              rw [Nat.zero_add] at k0
              have HST : Hid (∀ a, ncKt (spreadN n m) r (t + 1) a = if a = (r + t) % m then ncKt (spreadN n m) r t ((r + t) % m) ++ [⟨(r : Int), zeros⟩] else ncKt (spreadN n m) r t a) := ncKt_step hrl htl hm8
              have xm : (r + t) % m < m := Nat.mod_lt _ (by omega)
              obtain ⟨x, hx⟩ : ∃ x, x = (r + t) % m := ⟨_, rfl⟩
              rw [← hx] at k0 HST xm
              have tn : (t : Int) < ((min m 3 : Nat) : Int) := by omega
              have xi : (x : Int) < (m : Int) := by omega
              have HN := hidOf hN
              have HB := hidOf hbl
              clear hN hbl hpl he hx
              go_wp2_with fail
              refine wp_region_until 14 (fun X : World => X.cell? ⟨w.heap.size, x * 4 + 1, none⟩ = some (v x) ∧ X.frozen? ⟨w.heap.size, x * 4 + 1, none⟩ = false) (by kernel_rfl) ?_
              have hSof : ∀ X : World, X.heap[w.heap.size]? = wr.heap[w.heap.size]? → (fun X : World => X.cell? ⟨w.heap.size, x * 4 + 1, none⟩ = some (v x) ∧ X.frozen? ⟨w.heap.size, x * 4 + 1, none⟩ = false) X := fun X hX => ⟨(World.cell?_of_block (a := ⟨w.heap.size, x * 4 + 1, none⟩) hX).trans ((HN.out.at_ x xm) 1 _ rfl), by
                obtain ⟨z, _, hz⟩ := (HN.out.rm.of_block hX) (x * 4 + 1) (by omega)
                exact hz⟩
              have hSX : (fun X : World => X.cell? ⟨w.heap.size, x * 4 + 1, none⟩ = some (v x) ∧ X.frozen? ⟨w.heap.size, x * 4 + 1, none⟩ = false) wr.drew := hSof _ ((Below.refl wr.heap.size wr).drew.block _ HN.out.lt)
              have bD : Below wr.heap.size wr wr.drew := (Below.refl _ _).drew
              have KD := hidOf bD
              have KS := hidOf hSof
              clear bD hSof
              generalize wr.drew = XD at *
              refine wpUntil_take (i := 0) (v := ?_) rfl (by kernel_rfl) (fun _ _ _ h => h) (Or.inl ⟨by rfl, ?_⟩) hSX ?_
              rotate_left
              · (intro w hSw; go_simp; first | done | with_reducible rfl | rfl | (rw [if_pos (by omega)]))
              simp only [Act.put]
              refine wpUntil_take (i := 1) (v := ?_) rfl (by kernel_rfl) (fun _ _ _ h => h) (Or.inl ⟨by rfl, ?_⟩) hSX ?_
              rotate_left
              · (intro w hSw; go_simp; first | done | with_reducible rfl | rfl | (rw [if_pos (by omega)]))
              simp only [Act.put]
              refine wpUntil_take (i := 2) (v := ?_) rfl (by kernel_rfl) (fun _ _ _ h => h) (Or.inl ⟨by rfl, ?_⟩) hSX ?_
              rotate_left
              · (intro w hSw; go_simp; first | done | with_reducible rfl | rfl | (rw [if_pos (by omega)]))
              simp only [Act.put]
              refine wpUntil_take (i := 3) (v := ?_) rfl (by kernel_rfl) (fun _ _ _ h => h) (Or.inl ⟨by rfl, ?_⟩) hSX ?_
              rotate_left
              · (intro w hSw; go_simp; first | done | with_reducible rfl | rfl | (rw [if_pos (by omega)]))
              simp only [Act.put]
              refine wpUntil_take (i := 4) (v := ?_) rfl (by kernel_rfl) (fun _ _ _ h => h) (Or.inl ⟨by rfl, ?_⟩) hSX ?_
              rotate_left
              · (intro w hSw; go_simp; first | done | with_reducible rfl | rfl | (rw [if_pos (by omega)]))
              simp only [Act.put]
              refine wpUntil_take (i := 5) (v := ?_) rfl (by kernel_rfl) (fun _ _ _ h => h) (Or.inl ⟨by rfl, ?_⟩) hSX ?_
              rotate_left
              · (intro w hSw; go_simp; first | done | with_reducible rfl | rfl | (rw [if_pos (by omega)]))
              simp only [Act.put]
              refine wpUntil_take (i := 6) (v := ?_) rfl (by kernel_rfl) (fun _ _ _ h => h) (Or.inl ⟨by rfl, ?_⟩) hSX ?_
              rotate_left
              · (intro w hSw; have q := hSw.1; go_simp; first | done | with_reducible rfl | rfl | (rw [if_pos (by omega)]))
              simp only [Act.put]
              refine wpUntil_take (i := 7) (v := ?_) rfl (by kernel_rfl) (fun _ _ _ h => h) (Or.inl ⟨by rfl, ?_⟩) hSX ?_
              rotate_left
              · (intro w hSw; go_simp; first | done | with_reducible rfl | rfl | (rw [if_pos (by omega)]))
              simp only [Act.put]
              refine wpUntil_ready (rs := [8]) (by kernel_rfl) (by simp) ?_
              refine AllU.cons rfl (fun K hK => ?_) AllU.nil
              go_simp
              refine (implNewCells_any XD).mono ?_
              rintro e X2 ⟨rfl, b2, z2⟩
              have q2 : XD.heap.size + 1 < X2.heap.size := (Array.getElem?_eq_some_iff.1 z2).1
              have bD := KD.out
              have hlt := HN.out.lt
              have bX2 := bstep bD b2
              have hS2 : (fun X : World => X.cell? ⟨w.heap.size, x * 4 + 1, none⟩ = some (v x) ∧ X.frozen? ⟨w.heap.size, x * 4 + 1, none⟩ = false) X2 := KS.out X2 (bX2.block _ hlt)
              obtain ⟨X3, hX3⟩ : ∃ X, X = X2.alloc (.cells #[.int .i64 (r : Int), .slice (some ⟨XD.heap.size + 1, 0, none⟩) 6 6] 68) := ⟨_, rfl⟩
              have b3 : Below X2.heap.size X2 X3 := by rw [hX3]; exact (Below.refl _ _).alloc (Nat.le_refl _) _
              have x3 : Bx X3 X2.heap.size [.int .i64 (r : Int), .slice (some ⟨XD.heap.size + 1, 0, none⟩) 6 6] := by rw [hX3]; exact Bx.made X2 [.int .i64 (r : Int), .slice (some ⟨XD.heap.size + 1, 0, none⟩) 6 6] _
              have bX3 := bstep bX2 b3
              have hS3 : (fun X : World => X.cell? ⟨w.heap.size, x * 4 + 1, none⟩ = some (v x) ∧ X.frozen? ⟨w.heap.size, x * 4 + 1, none⟩ = false) X3 := KS.out X3 (bX3.block _ hlt)
              obtain ⟨v', Y, hr, hBY, hsz, hN', hbel, a', c', rfl⟩ := HN.out.push bX3 xm ⟨(r : Int), zeros⟩ (XD.heap.size + 1) 6 X2.heap.size (by have := ncKt_len (spreadN n m) r t x; omega) 57 (x3.1 0 _ rfl) (x3.1 1 _ rfl) (AtK.of_block _ _ _ _ (b3.block _ q2) (at_zeros z2)) (show zeros.length ≤ 6 by decide) (by have := bD.size; omega) (by have := b3.size; omega)
              have hS4 : (fun X : World => X.cell? ⟨w.heap.size, x * 4 + 1, none⟩ = some (v x) ∧ X.frozen? ⟨w.heap.size, x * 4 + 1, none⟩ = false) Y := KS.out Y (hBY.trans (bX3.block _ hlt))
              have o1 := hS4.1
              have fo1 := hS4.2
              have KE : Hid (NmI w.heap.size m (Y.setCell ⟨w.heap.size, x * 4 + 1, none⟩ (.slice a' ((ncKt (spreadN n m) r t x).length + 1) c')) (fun a => ncKt (spreadN n m) r (t + 1) a) (fun a => if a = x then (.slice a' ((ncKt (spreadN n m) r t x).length + 1) c') else v a) (fun a => if a = x then (fun i => if i = (ncKt (spreadN n m) r t x).length then XD.heap.size + 1 else gk x i) else gk a) ∧ Below w.heap.size w (Y.setCell ⟨w.heap.size, x * 4 + 1, none⟩ (.slice a' ((ncKt (spreadN n m) r t x).length + 1) c'))) := ⟨hN'.same (fun a _ => by rw [HST.out a]), hbel w (bstep HB.out bX3) (Nat.le_refl _)⟩
              refine hK.out _ _ (fun _ => hS2) ?_
              clear hK K b2 z2 q2 bD hlt bX2 b3 x3 bX3 hBY hsz hN' hbel hSX KD KS HN HST
              refine wpUntil_take (i := 9) (v := ?_) rfl (by kernel_rfl) (fun _ _ _ h => h) (Or.inl ⟨by rfl, ?_⟩) hS2 ?_
              rotate_left
              · (intro w hSw; go_simp; first | done | with_reducible rfl | rfl | (rw [if_pos (by omega)]))
              simp only [Act.put]
              refine wpUntil_ready (rs := [10]) (by kernel_rfl) (by simp) ?_
              refine AllU.cons rfl (fun K hK => ?_) AllU.nil
              go_simp
              rw [← hX3]
              refine hK.out _ _ (fun _ => hS3) ?_
              clear hK K hS2 hX3
              refine wpUntil_ready (rs := [11]) (by kernel_rfl) (by simp) ?_
              refine AllU.cons rfl (fun K hK => ?_) AllU.nil
              refine step_known _ rfl (.tmp 43) (.tmp 47) 57 rfl _ _ _ _ (by first | rfl | simp [Act.eval, Act.put]) (by first | rfl | simp [Act.eval, Act.put]) hr ?_
              refine hK.out _ _ (fun _ => hS4) ?_
              clear hK K hr hS3
              simp only [Act.put]
              refine wpUntil_ready (rs := [12]) (by kernel_rfl) (by simp) ?_
              refine AllU.cons rfl (fun K hK => ?_) AllU.nil
              go_simp
              refine hK.out _ _ (fun _ => hS4) ?_
              clear hK K
              refine wpUntil_ready (rs := [13]) (by kernel_rfl) (by simp) ?_
              refine AllU.cons rfl (fun K hK => ?_) AllU.nil
              go_simp
              refine hK.out _ _ (fun _ => hS4) ?_
              clear hK K
              refine wpUntil_ready (rs := [14]) (by kernel_rfl) (by simp) ?_
              refine AllU.cons rfl (fun K hK => ?_) AllU.nil
              go_simp
              refine hK.out _ _ (fun h => absurd rfl h) ?_
              clear hK K
              refine wpUntil_done (by kernel_rfl) ?_ _
              go_wp2
              exact ⟨⟨t + 1, _, _, by omega, by simp, KE.out.1, KE.out.2⟩, by simp [intOf]; omega⟩
            · have htm : t = min m 3 := by omega
              subst htm
              have hd : decide (((min m 3 : Nat) : Int) < ((min m 3 : Nat) : Int)) = false := by simp
              have hlen : (atP (spreadN n m) r).length = min m 3 := by rw [atP_spread hrl, spreadRow_len]
              have KE : Hid (NmI w.heap.size m wr (fun a => ncKs (spreadN n m) a (r + 1)) v gk ∧ Below w.heap.size w wr) := ⟨hN.same (fun a _ => by rw [← ncKt_full, hlen]), hbl⟩
              clear hN hbl hlen
              go_wp2
              exact ⟨⟨r + 1, v, gk, by omega, by simp, KE.out.1, KE.out.2⟩, by simp [intOf]; omega⟩
        · obtain rfl : n = r := by omega
          have hd : decide ((n : Int) < (n : Int)) = false := by simp
          have KE : Hid ((∃ P, KMk.OwS wr w.heap.size (some ⟨w.heap.size, 0, none⟩) (ncMs (spreadN n m) n m) P) ∧ Below w.heap.size w wr) := ⟨hN.ow, hbl⟩
          clear hN hbl
          go_wp2
          go_ret
          exact ⟨rfl, KE.out.1, KE.out.2⟩
end Go.Proofs.Ytcbfnajpcaipkaa
