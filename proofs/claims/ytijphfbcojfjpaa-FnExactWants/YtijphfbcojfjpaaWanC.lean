/- slices.Compact over a row of numbers of the call's own: one of each that stand side by side. -/
import Derived.Test.YtijphfbcojfjpaaRows
import Derived.Test.YtijphfbcojfjpaaNuD
import Derived.WalkKit
import Derived.WalkSpells
import Derived.WalkLawsBesides
import Derived.Below
import Derived.BigQuiet
import Derived.Deep.QuietTactic
import Derived.Lib.SliceRun
namespace Go.Proofs.Ytijphfbcojfjpaa
open Go.RowKit
/-- Of the first j numbers one of each that stand side by side. -/
def cpn (zs : List Int) : Nat → List Int
  | 0 => []
  | j + 1 => if j ≠ 0 ∧ atN zs j = atN zs (j - 1) then cpn zs j else cpn zs j ++ [atN zs j]
theorem cpn_same {zs : List Int} {j : Nat} (h : atN zs (j + 1) = atN zs j) : cpn zs (j + 1 + 1) = cpn zs (j + 1) := by
  rw [cpn]; exact if_pos ⟨by omega, by simpa using h⟩
theorem cpn_next {zs : List Int} {j : Nat} (h : atN zs (j + 1) ≠ atN zs j) : cpn zs (j + 1 + 1) = cpn zs (j + 1) ++ [atN zs (j + 1)] := by
  rw [cpn]; exact if_neg (fun e => h (by simpa using e.2))
theorem cpn_le (zs : List Int) : ∀ j, (cpn zs j).length ≤ j
  | 0 => by simp [cpn]
  | j + 1 => by
    have := cpn_le zs j
    rw [cpn]; split <;> simp <;> omega
theorem cpn_all {zs : List Int} : ∀ {k : Nat}, k ≤ zs.length → (∀ i, i + 1 < k → atN zs (i + 1) ≠ atN zs i) → cpn zs k = zs.take k
  | 0, _, _ => by simp [cpn]
  | 1, h, _ => by
    rw [cpn, cpn, if_neg (by simp), List.take_add_one, atN_of (by omega)]; simp
  | k + 2, h, h' => by
    rw [cpn_next (h' k (by omega)), cpn_all (k := k + 1) (by omega) (fun i hi => h' i (by omega)), List.take_add_one (i := k + 1), atN_of (by omega)]; rfl
theorem Turned.setCells {c : Nat} {a : World} : ∀ (vs : List Value) (o : Nat) {w : World}, Turned c a w → Turned c a (w.setCells c o vs)
  | [], _, _, h => h
  | v :: r, o, _, h => Turned.setCells r (o + 1) (h.setCell o v)
theorem Room.setCells {b m : Nat} : ∀ (vs : List Value) (o : Nat) {w : World}, Room w b m → Room (w.setCells b o vs) b m
  | [], _, _, h => h
  | v :: r, o, _, h => Room.setCells r (o + 1) (h.set v)
set_option maxHeartbeats 4000000 in
theorem compact_own (w : World) (b cap : Nat) (zs : List Int) (hn : zs.length ≤ 1000) (hc : zs.length ≤ cap) (h : NumsAt w b 0 zs) (hr : Room w b zs.length) (hb : b < w.heap.size) :
    Calls Try.prog 84 #[.slice (some ⟨b, 0, none⟩) zs.length cap] w fun e w' => ∃ cap', e = .returned (.slice (some ⟨b, 0, none⟩) (cpn zs zs.length).length cap') ∧ Turned b w w' ∧ NumsAt w' b 0 (cpn zs zs.length) ∧ Room w' b zs.length := by
  obtain ⟨n, hN⟩ : ∃ n, n = zs.length := ⟨_, rfl⟩
  have HN : Hid (n = zs.length) := hN
  rw [← hN] at hn hc hr ⊢
  clear hN
  by_cases h2 : n < 2
  · have d2 : decide ((n : Int) < 2) = true := by simp; omega
    have KE : Hid (cpn zs n = zs ∧ NumsAt w b 0 zs ∧ Room w b n) := ⟨by rw [cpn_all (by rw [← HN.out]; exact Nat.le_refl _) (fun i hi => by omega), HN.out, List.take_length], h, hr⟩
    clear h hr h2
    go_enter Try.func84, Try.ntmps84
    go_wp2
    go_ret
    exact ⟨cap, by rw [KE.out.1, ← HN.out]; rfl, Turned.refl _ _, by rw [KE.out.1]; exact KE.out.2.1, KE.out.2.2⟩
  have d2 : decide ((n : Int) < 2) = false := by simp; omega
  have H : Hid (NumsAt w b 0 zs ∧ Room w b n) := ⟨h, hr⟩
  clear h hr
  go_enter Try.func84, Try.ntmps84
  go_wp2
  clear d2
  go_loopw [3] (fun v wr => ∃ j : Nat, j + 1 ≤ n ∧ v = .int .i64 ((j + 1 : Nat) : Int) ∧ Below w.heap.size w wr ∧ ∀ i, i + 1 < j + 1 → atN zs (i + 1) ≠ atN zs i) (fun v _ => n - (intOf v).toNat)
  case atStart => exact ⟨0, by omega, rfl, Below.refl _ _, fun i hi => by omega⟩
  case round =>
    obtain ⟨j, hj, rfl, hbl, hall⟩ := hrel
    have hlz : zs.length = n := HN.out.symm
    by_cases hlt : j + 1 < n
    · have c1 : wr.cell? ⟨b, j + 1, none⟩ = some (.int .i64 (atN zs (j + 1))) := (hbl.cell (p := ⟨b, j + 1, none⟩) hb).trans (by simpa using H.out.1 (j + 1) _ (atN_of (by omega)))
      have c0 : wr.cell? ⟨b, j, none⟩ = some (.int .i64 (atN zs j)) := (hbl.cell (p := ⟨b, j, none⟩) hb).trans (by simpa using H.out.1 j _ (atN_of (by omega)))
      have hi0 : (j : Int) < (n : Int) := by omega
      have hi1 : ((j + 1 : Nat) : Int) < (n : Int) := by omega
      by_cases he : atN zs (j + 1) = atN zs j
      · have q : (atN zs (j + 1) == atN zs j) = true := by simp [he]
        have KA : Hid (Below w.heap.size w wr ∧ (∀ i, i + 1 < j + 1 → atN zs (i + 1) ≠ atN zs i) ∧ atN zs (j + 1) = atN zs j ∧ zs.length = n) := ⟨hbl, hall, he, hlz⟩
        clear he hbl hall hlz
        go_wp2_with fail
        go_quiet (fail)
        have hsl : ¬ cap = j + 1 := by omega
        go_wp2
        have K1 : Hid (Turned b w (wr.drewN nq) ∧ Room (wr.drewN nq) b n ∧ NumsAt (wr.drewN nq) b 0 zs ∧ b < (wr.drewN nq).heap.size) := by
          have bb := below_dn KA.out.1 nq
          exact ⟨(Turned.refl _ _).of_below bb, H.out.2.below bb hb, H.out.1.below bb hb, Nat.lt_of_lt_of_le hb bb.size⟩
        have KZ : Hid (cpn zs (j + 1 + (0 + 1)) = zs.take (j + 1) ∧ zs.length = n) := ⟨by rw [show j + 1 + (0 + 1) = j + 1 + 1 by omega, cpn_same KA.out.2.2.1, cpn_all (by have := KA.out.2.2.2; omega) KA.out.2.1], KA.out.2.2.2⟩
        clear c0 c1 q hi0 hi1 KA
        generalize wr.drewN nq = W1 at *
        clear wr
        go_loopw [3, 5] (fun v3 v5 wr => ∃ k i2 : Nat, i2 + 1 ≤ n - (j + 1) ∧ v5 = .int .i64 ((i2 + 1 : Nat) : Int) ∧ v3 = .int .i64 (k : Int) ∧ k = (cpn zs (j + 1 + (i2 + 1))).length ∧ k ≤ j + 1 + i2 ∧ Turned b W1 wr ∧ Room wr b n ∧ NumsAt wr b 0 (cpn zs (j + 1 + (i2 + 1))) ∧ (∀ i, j + 1 + i2 ≤ i → i < n → wr.cell? ⟨b, i, none⟩ = some (.int .i64 (atN zs i)))) (fun _ v5 _ => n - (j + 1) - (intOf v5).toNat)
        case atStart =>
          refine ⟨j + 1, 0, by omega, rfl, rfl, ?_, by omega, Turned.refl _ _, K1.out.2.1, ?_, fun i _ hi => ?_⟩
          · rw [KZ.out.1, List.length_take, KZ.out.2]; omega
          · rw [KZ.out.1]
            intro i z e
            rw [List.getElem?_take] at e
            split at e
            · exact K1.out.2.2.1 i z e
            · cases e
          · simpa using K1.out.2.2.1 i _ (atN_of (by rw [KZ.out.2]; exact hi))
        case round =>
          obtain ⟨k, i2, hi2, rfl, rfl, hk, hkl, htu, hro, hnu, hta⟩ := hrel
          by_cases hlt2 : i2 + 1 < n - (j + 1)
          · have c1 := hta (j + 1 + (i2 + 1)) (by omega) (by omega)
            have c0 := hta (j + 1 + i2) (by omega) (by omega)
            have hx0 : (i2 : Int) < ((n - (j + 1) : Nat) : Int) := by omega
            have hx1 : ((i2 + 1 : Nat) : Int) < ((n - (j + 1) : Nat) : Int) := by omega
            by_cases he : atN zs (j + 1 + (i2 + 1)) = atN zs (j + 1 + i2)
            · have q : (atN zs (j + 1 + (i2 + 1)) != atN zs (j + 1 + i2)) = false := by simp [he]
              have KE : Hid (k = (cpn zs (j + 1 + (i2 + 1 + 1))).length ∧ Turned b W1 wr ∧ Room wr b n ∧ NumsAt wr b 0 (cpn zs (j + 1 + (i2 + 1 + 1))) ∧ (∀ i, j + 1 + i2 ≤ i → i < n → wr.cell? ⟨b, i, none⟩ = some (.int .i64 (atN zs i)))) := by
                have e : cpn zs (j + 1 + (i2 + 1 + 1)) = cpn zs (j + 1 + (i2 + 1)) := cpn_same (j := j + 1 + i2) he
                rw [Hid, e]; exact ⟨hk, htu, hro, hnu, hta⟩
              clear he hk htu hro hnu hta
              go_wp2_with fail
              go_quiet (fail)
              go_wp2
              obtain ⟨e1, e2, e3, e4, e5⟩ := KE.out
              exact ⟨⟨k, i2 + 1, by omega, by simp, by simp, e1, by omega, e2.drewN _, e3, e4, fun i hi hi' => e5 i (by omega) hi'⟩, by simp [intOf]; omega⟩
            · have q : (atN zs (j + 1 + (i2 + 1)) != atN zs (j + 1 + i2)) = true := by simp [he]
              have hkn : (k : Int) < (n : Int) := by omega
              obtain ⟨vk, dk, fk⟩ := hro k (by omega)
              have KE : Hid (k + 1 = (cpn zs (j + 1 + (i2 + 1 + 1))).length ∧ Turned b W1 wr ∧ Room wr b n ∧ NumsAt (wr.setCell ⟨b, k, none⟩ (.int .i64 (atN zs (j + 1 + (i2 + 1))))) b 0 (cpn zs (j + 1 + (i2 + 1 + 1))) ∧ (∀ i, j + 1 + i2 ≤ i → i < n → wr.cell? ⟨b, i, none⟩ = some (.int .i64 (atN zs i)))) := by
                have e : cpn zs (j + 1 + (i2 + 1 + 1)) = cpn zs (j + 1 + (i2 + 1)) ++ [atN zs (j + 1 + (i2 + 1))] := cpn_next (j := j + 1 + i2) he
                rw [Hid, e]
                refine ⟨by simp [← hk], htu, hro, fun i z ez => ?_, hta⟩
                rw [Nat.zero_add]
                by_cases ei : i < k
                · rw [List.getElem?_append_left (by omega)] at ez
                  rw [cell_set_other (by omega)]
                  simpa using hnu i z ez
                · have hie : i = k := by
                    have := (List.getElem?_eq_some_iff.1 ez).1
                    simp [← hk] at this
                    omega
                  subst hie
                  rw [List.getElem?_append_right (by omega), ← hk, Nat.sub_self] at ez
                  simp at ez
                  subst ez
                  exact cell_set_same dk
              clear he hk htu hro hnu hta
              go_wp2_with fail
              go_quiet (fail)
              go_wp2
              obtain ⟨e1, e2, e3, e4, e5⟩ := KE.out
              refine ⟨⟨k + 1, i2 + 1, by omega, by simp, by simp, e1, by omega, (e2.drewN _).setCell _ _, e3.set _, e4, fun i hi hi' => ?_⟩, by simp [intOf]; omega⟩
              exact (cell_set_other (by omega)).trans (e5 i (by omega) hi')
          · have hie : i2 + 1 = n - (j + 1) := by omega
            have hd : decide (((i2 + 1 : Nat) : Int) < ((n - (j + 1) : Nat) : Int)) = false := by simp; omega
            have hks : ¬ cap = k := by omega
            have hkc : k < n := by omega
            have hcl : ∀ ty, (Builtin.clear_ #[42] ty #[.slice (some ⟨b, k, none⟩) (n - k) (cap - k)]).run Try.prog wr = .ok (.tuple #[]) (wr.setCells b k (List.replicate (n - k) (.int .i64 0))) := fun ty =>
              Lib.run_clear_slice wr 42 2 ty (.int .i64 0) Try.underlying42 (fun _ => by kernel_rfl) rfl rfl b k (n - k) (cap - k) (by omega) (fun i hi => by obtain ⟨v, h1, _⟩ := hro (k + i) (by omega); rw [h1]; rfl) (fun i hi => by obtain ⟨v, _, h1⟩ := hro (k + i) (by omega); exact h1)
            have en : j + 1 + (i2 + 1) = n := by omega
            rw [en] at hk hnu
            have KE : Hid (k = (cpn zs n).length ∧ Turned b w wr ∧ Room wr b n ∧ NumsAt wr b 0 (cpn zs n)) := ⟨hk, K1.out.1.trans htu, hro, hnu⟩
            clear hk htu hro hnu hta hie en
            go_wp2
            go_ret
            obtain ⟨e1, e2, e3, e4⟩ := KE.out
            refine ⟨cap, by rw [← e1]; rfl, e2.setCells _ _, fun i z e => ?_, e3.setCells _ _⟩
            rw [World.cell?_setCells_out _ _ _ _ _ (fun _ _ => .inl (by have := (List.getElem?_eq_some_iff.1 e).1; show 0 + i < k; omega))]
            exact e4 i z e
      · have q : (atN zs (j + 1) == atN zs j) = false := by simp [he]
        have KA : Hid (Below w.heap.size w wr ∧ (∀ i, i + 1 < j + 1 → atN zs (i + 1) ≠ atN zs i) ∧ atN zs (j + 1) ≠ atN zs j) := ⟨hbl, hall, he⟩
        clear he hbl hall hlz
        go_wp2_with fail
        go_quiet (fail)
        go_wp2
        exact ⟨⟨j + 1, by omega, by simp, below_dn KA.out.1 _, fun i hi => by
          by_cases e : i = j
          · rw [e]; exact KA.out.2.2
          · exact KA.out.2.1 i (by omega)⟩, by simp [intOf]; omega⟩
    · obtain rfl : n = j + 1 := by omega
      have hd : decide (((j + 1 : Nat) : Int) < ((j + 1 : Nat) : Int)) = false := by simp
      have KE : Hid (cpn zs (j + 1) = zs ∧ Below w.heap.size w wr) := ⟨by rw [cpn_all (by omega) hall, ← hlz, List.take_length], hbl⟩
      clear hall hlz hbl
      go_wp2
      go_ret
      refine ⟨cap, by rw [KE.out.1, ← HN.out]; rfl, (Turned.refl _ _).of_below KE.out.2, ?_, H.out.2.below KE.out.2 hb⟩
      rw [KE.out.1]; exact H.out.1.below KE.out.2 hb
end Go.Proofs.Ytijphfbcojfjpaa
