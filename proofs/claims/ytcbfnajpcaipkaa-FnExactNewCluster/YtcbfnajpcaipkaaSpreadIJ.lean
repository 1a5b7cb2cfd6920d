import Derived.Test.YtcbfnajpcaipkaaRows
import Derived.Test.YtcbfnajpcaipkaaSpreadSJ
import Derived.Test.YtcbfnajpcaipkaaJ16ExactNewCluster
import Derived.Test.YtcbfnajpcaipkaaJ22ExactNewCluster
import Derived.WalkKit
import Derived.WalkSpells
import Derived.WalkLawsBesides
import Derived.Below
namespace Go.Proofs.Ytcbfnajpcaipkaa
open Go.RowKit
set_option maxHeartbeats 2000000 in
theorem spreadOne_big (w : World) (j m : Nat) (hj : j ≤ 6) (hm1 : 1 ≤ m) (hm8 : m ≤ 8) (h3 : 3 < m) :
    Calls Try.prog 49 #[.int .i64 (j : Int), .int .i64 (m : Int)] w fun e w' => e = .returned (.agg #[.slice (some ⟨w.heap.size + 1, 0, none⟩) 3 3]) ∧ Below w.heap.size w w' ∧ w.heap.size + 1 < w'.heap.size ∧ NumsAt w' (w.heap.size + 1) 0 (spreadRow j m 3) ∧ Room w' (w.heap.size + 1) 3 := by
  have hmk : ∀ o : Obj, (Instr.makeSlice 59 (.int .i64 3) (.int .i64 3)).run Try.prog (w.alloc o) = .ok (.slice (some ⟨w.heap.size + 1, 0, none⟩) 3 3) ((w.alloc o).alloc (.cells (madeCells #[.int .i64 0] 3) 2)) := fun o => by
    have := make_nums 3 (by omega) (w.alloc o)
    rw [show (w.alloc o).heap.size = w.heap.size + 1 by simp] at this
    exact this
  have h3i : (3 : Int) < (m : Int) := by omega
  go_enter Try.func49, Try.ntmps49
  go_wp2
  go_loopw [12] (fun v wr => ∃ k : Nat, k ≤ 3 ∧ v = .int .i64 k ∧ Below (w.heap.size + 1) (w.alloc (.cells #[.slice none 0 0] 64)) wr ∧ w.heap.size + 1 < wr.heap.size ∧ NumsAt wr (w.heap.size + 1) 0 (spreadRow j m k) ∧ Room wr (w.heap.size + 1) 3) (fun v _ => 3 - (intOf v).toNat)
  case atStart =>
    refine ⟨0, Nat.zero_le _, rfl, (Below.refl _ _).alloc (by simp) _, by simp, fun i s e => by simp [spreadRow] at e, ?_⟩
    have := room_made (w.alloc (.cells #[.slice none 0 0] 64)) #[.int .i64 0] 3 2
    rwa [show (w.alloc (.cells #[.slice none 0 0] 64)).heap.size = w.heap.size + 1 by simp] at this
  case round =>
    obtain ⟨k, hk, rfl, hbl, hsz, hdo, hro⟩ := hrel
    have hcell : wr.cell? ⟨w.heap.size, 0, none⟩ = some (.slice none 0 0) := (hbl.cell (p := ⟨w.heap.size, 0, none⟩) (by simp)).trans (by go_simp)
    have hfrz : wr.frozen? ⟨w.heap.size, 0, none⟩ = false := (hbl.frozen (p := ⟨w.heap.size, 0, none⟩) (by simp)).trans (by go_simp)
    clear hmk
    by_cases hlt : k < 3
    · obtain ⟨v, d, f⟩ := hro k hlt
      have hlt' : (k : Int) < 3 := by omega
      have hmne : (m : Int) ≠ 0 := by omega
      have hwa : IntKind.i64.wrap ((j : Int) + (k : Int)) = (j : Int) + (k : Int) := by simp [IntKind.wrap, IntKind.bits, IntKind.signed]; omega
      have K0 : Hid (Room wr (w.heap.size + 1) 3 ∧ NumsAt wr (w.heap.size + 1) 0 (spreadRow j m k) ∧ Below (w.heap.size + 1) (w.alloc (.cells #[.slice none 0 0] 64)) wr) := ⟨hro, hdo, hbl⟩
      clear hro hdo hbl hcell hfrz
      go_wp2
      obtain ⟨hro, hdo, hbl⟩ := K0.out
      have hz : (((j + k) % m : Nat) : Int) = ((j : Int) + (k : Int)) % (m : Int) := by simp
      have hput := NumsAt.put (w := wr) (b := w.heap.size + 1) (k := k) (zs := spreadRow j m (k + 1)) (z := (((j + k) % m : Nat) : Int)) (by rw [spreadRow_succ, List.take_left' (spreadRow_len j m k)]; exact hdo) (by rw [spreadRow_succ, List.getElem?_append_right (by rw [spreadRow_len]; omega), spreadRow_len, Nat.sub_self]; rfl) d
      rw [List.take_of_length_le (by rw [spreadRow_len]; omega), hz] at hput
      refine ⟨⟨k + 1, by omega, by simp, hbl.setCell (p := ⟨w.heap.size + 1, k, none⟩) (Nat.le_refl _) _, by simpa [World.setCell] using hsz, ?_, hro.set _⟩, by simp [intOf]; omega⟩
      exact hput
    · obtain rfl : 3 = k := by omega
      have hd : decide ((3 : Int) < (3 : Int)) = false := by simp
      have K0 : Hid (Room wr (w.heap.size + 1) 3 ∧ NumsAt wr (w.heap.size + 1) 0 (spreadRow j m 3) ∧ Below (w.heap.size + 1) (w.alloc (.cells #[.slice none 0 0] 64)) wr) := ⟨hro, hdo, hbl⟩
      clear hro hdo hbl
      go_wp2
      obtain ⟨hro, hdo, hbl⟩ := K0.out
      have c2 := cell_set_same (v' := .slice (some ⟨w.heap.size + 1, 0, none⟩) 3 3) hcell
      have eb : (wr.setCell ⟨w.heap.size, 0, none⟩ (.slice (some ⟨w.heap.size + 1, 0, none⟩) 3 3)).heap[w.heap.size + 1]? = wr.heap[w.heap.size + 1]? := Below.heap_setCell _ _ _ _ (fun e => by simp at e)
      refine bodyPost_ret (v := .agg #[.slice (some ⟨w.heap.size + 1, 0, none⟩) 3 3]) (by simp [results, Try.results49, go_sem, c2]) rfl ?_
      exact ⟨rfl, (((Below.refl _ _).alloc (Nat.le_refl _) _).trans (hbl.mono (by omega))).setCell (p := ⟨w.heap.size, 0, none⟩) (Nat.le_refl _) _, by simpa [World.setCell] using hsz, hdo.of_block eb, hro.of_block eb⟩
set_option maxHeartbeats 2000000 in
theorem spreadOne_small (w : World) (j m : Nat) (hj : j ≤ 6) (hm1 : 1 ≤ m) (hm8 : m ≤ 8) (h3 : m ≤ 3) :
    Calls Try.prog 49 #[.int .i64 (j : Int), .int .i64 (m : Int)] w fun e w' => e = .returned (.agg #[.slice (some ⟨w.heap.size + 1, 0, none⟩) m m]) ∧ Below w.heap.size w w' ∧ w.heap.size + 1 < w'.heap.size ∧ NumsAt w' (w.heap.size + 1) 0 (spreadRow j m m) ∧ Room w' (w.heap.size + 1) m := by
  have hmk : ∀ o : Obj, (Instr.makeSlice 59 (.int .i64 (m : Int)) (.int .i64 (m : Int))).run Try.prog (w.alloc o) = .ok (.slice (some ⟨w.heap.size + 1, 0, none⟩) m m) ((w.alloc o).alloc (.cells (madeCells #[.int .i64 0] m) 2)) := fun o => by
    have := make_nums m (by omega) (w.alloc o)
    rw [show (w.alloc o).heap.size = w.heap.size + 1 by simp] at this
    exact this
  have h3i : decide ((3 : Int) < (m : Int)) = false := by simp; omega
  go_enter Try.func49, Try.ntmps49
  go_wp2
  go_loopw [12] (fun v wr => ∃ k : Nat, k ≤ m ∧ v = .int .i64 k ∧ Below (w.heap.size + 1) (w.alloc (.cells #[.slice none 0 0] 64)) wr ∧ w.heap.size + 1 < wr.heap.size ∧ NumsAt wr (w.heap.size + 1) 0 (spreadRow j m k) ∧ Room wr (w.heap.size + 1) m) (fun v _ => m - (intOf v).toNat)
  case atStart =>
    refine ⟨0, Nat.zero_le _, rfl, (Below.refl _ _).alloc (by simp) _, by simp, fun i s e => by simp [spreadRow] at e, ?_⟩
    have := room_made (w.alloc (.cells #[.slice none 0 0] 64)) #[.int .i64 0] m 2
    rwa [show (w.alloc (.cells #[.slice none 0 0] 64)).heap.size = w.heap.size + 1 by simp] at this
  case round =>
    obtain ⟨k, hk, rfl, hbl, hsz, hdo, hro⟩ := hrel
    have hcell : wr.cell? ⟨w.heap.size, 0, none⟩ = some (.slice none 0 0) := (hbl.cell (p := ⟨w.heap.size, 0, none⟩) (by simp)).trans (by go_simp)
    have hfrz : wr.frozen? ⟨w.heap.size, 0, none⟩ = false := (hbl.frozen (p := ⟨w.heap.size, 0, none⟩) (by simp)).trans (by go_simp)
    clear hmk
    by_cases hlt : k < m
    · obtain ⟨v, d, f⟩ := hro k hlt
      have hlt' : (k : Int) < (m : Int) := by omega
      have hmne : (m : Int) ≠ 0 := by omega
      have hwa : IntKind.i64.wrap ((j : Int) + (k : Int)) = (j : Int) + (k : Int) := by simp [IntKind.wrap, IntKind.bits, IntKind.signed]; omega
      have K0 : Hid (Room wr (w.heap.size + 1) m ∧ NumsAt wr (w.heap.size + 1) 0 (spreadRow j m k) ∧ Below (w.heap.size + 1) (w.alloc (.cells #[.slice none 0 0] 64)) wr) := ⟨hro, hdo, hbl⟩
      clear hro hdo hbl hcell hfrz
      go_wp2
      obtain ⟨hro, hdo, hbl⟩ := K0.out
      have hz : (((j + k) % m : Nat) : Int) = ((j : Int) + (k : Int)) % (m : Int) := by simp
      have hput := NumsAt.put (w := wr) (b := w.heap.size + 1) (k := k) (zs := spreadRow j m (k + 1)) (z := (((j + k) % m : Nat) : Int)) (by rw [spreadRow_succ, List.take_left' (spreadRow_len j m k)]; exact hdo) (by rw [spreadRow_succ, List.getElem?_append_right (by rw [spreadRow_len]; omega), spreadRow_len, Nat.sub_self]; rfl) d
      rw [List.take_of_length_le (by rw [spreadRow_len]; omega), hz] at hput
      refine ⟨⟨k + 1, by omega, by simp, hbl.setCell (p := ⟨w.heap.size + 1, k, none⟩) (Nat.le_refl _) _, by simpa [World.setCell] using hsz, ?_, hro.set _⟩, by simp [intOf]; omega⟩
      exact hput
    · obtain rfl : m = k := by omega
      have hd : decide ((m : Int) < (m : Int)) = false := by simp
      have K0 : Hid (Room wr (w.heap.size + 1) m ∧ NumsAt wr (w.heap.size + 1) 0 (spreadRow j m m) ∧ Below (w.heap.size + 1) (w.alloc (.cells #[.slice none 0 0] 64)) wr) := ⟨hro, hdo, hbl⟩
      clear hro hdo hbl
      go_wp2
      obtain ⟨hro, hdo, hbl⟩ := K0.out
      have c2 := cell_set_same (v' := .slice (some ⟨w.heap.size + 1, 0, none⟩) m m) hcell
      have eb : (wr.setCell ⟨w.heap.size, 0, none⟩ (.slice (some ⟨w.heap.size + 1, 0, none⟩) m m)).heap[w.heap.size + 1]? = wr.heap[w.heap.size + 1]? := Below.heap_setCell _ _ _ _ (fun e => by simp at e)
      refine bodyPost_ret (v := .agg #[.slice (some ⟨w.heap.size + 1, 0, none⟩) m m]) (by simp [results, Try.results49, go_sem, c2]) rfl ?_
      exact ⟨rfl, (((Below.refl _ _).alloc (Nat.le_refl _) _).trans (hbl.mono (by omega))).setCell (p := ⟨w.heap.size, 0, none⟩) (Nat.le_refl _) _, by simpa [World.setCell] using hsz, hdo.of_block eb, hro.of_block eb⟩
theorem spreadOne_in (w : World) (j m : Nat) (hj : j ≤ 6) (hm1 : 1 ≤ m) (hm8 : m ≤ 8) :
    Calls Try.prog 49 #[.int .i64 (j : Int), .int .i64 (m : Int)] w fun e w' => e = .returned (.agg #[.slice (some ⟨w.heap.size + 1, 0, none⟩) (min m 3) (min m 3)]) ∧ Below w.heap.size w w' ∧ w.heap.size + 1 < w'.heap.size ∧ NumsAt w' (w.heap.size + 1) 0 (spreadRow j m (min m 3)) ∧ Room w' (w.heap.size + 1) (min m 3) := by
  by_cases h : 3 < m
  · rw [show min m 3 = 3 by omega]; exact spreadOne_big w j m hj hm1 hm8 h
  · rw [show min m 3 = m by omega]; exact spreadOne_small w j m hj hm1 hm8 (by omega)
set_option maxHeartbeats 2000000 in
theorem implSpread_in (w : World) (n m : Nat) (hn1 : 1 ≤ n) (hn6 : n ≤ 6) (hm1 : 1 ≤ m) (hm8 : m ≤ 8) :
    Calls Try.prog 19 #[.int .i64 (n : Int), .int .i64 (m : Int)] w fun e w' => ∃ g, e = .returned (.tuple #[.slice (some ⟨w.heap.size, 0, none⟩) n n, .bool true]) ∧ OwnP w' w.heap.size w.heap.size n (spreadN n m) g ∧ w.heap.size < w'.heap.size ∧ Below w.heap.size w w' := by
  have hmk := make_places n (by omega) w
  have d1 : decide ((n : Int) < 1) = false := by simp; omega
  have d2 : decide ((6 : Int) < (n : Int)) = false := by simp; omega
  have d3 : decide ((m : Int) < 1) = false := by simp; omega
  have d4 : decide ((8 : Int) < (m : Int)) = false := by simp; omega
  go_enter Try.func19, Try.ntmps19
  go_wp2
  go_loopw [26] (fun v wr => ∃ (j : Nat) (g : Nat → Nat), j ≤ n ∧ v = .int .i64 j ∧ Below w.heap.size w wr ∧ w.heap.size < wr.heap.size ∧ Room wr w.heap.size n ∧ OwnP wr w.heap.size w.heap.size j (spreadN j m) g) (fun v _ => n - (intOf v).toNat)
  case atStart => exact ⟨0, fun _ => 0, Nat.zero_le _, rfl, (Below.refl _ _).alloc (Nat.le_refl _) _, by simp, room_made _ _ _ _, OwnP.nil _ _ _ _⟩
  case round =>
    clear hmk
    obtain ⟨j, g, hj, rfl, hbl, hsz, hro, how⟩ := hrel
    by_cases hlt : j < n
    · have hlt' : (j : Int) < (n : Int) := by omega
      have hone := spreadOne_in wr j m (by omega) hm1 hm8
      have K0 : Hid (Below w.heap.size w wr ∧ w.heap.size < wr.heap.size ∧ Room wr w.heap.size n ∧ OwnP wr w.heap.size w.heap.size j (spreadN j m) g) := ⟨hbl, hsz, hro, how⟩
      clear hbl hro how
      obtain ⟨k3, hk3⟩ : ∃ k3, min m 3 = k3 := ⟨_, rfl⟩
      have hrl : (spreadRow j m (min m 3)).length = k3 := by rw [spreadRow_len, hk3]
      have hsu : spreadN (j + 1) m = spreadN j m ++ [spreadRow j m (min m 3)] := spreadN_succ j m
      generalize spreadRow j m (min m 3) = row at *
      rw [hk3] at hone
      go_wp2_with fail
      refine hone.mono ?_
      clear hone
      rintro e W1 ⟨rfl, b1, l1, n1, r1⟩
      obtain ⟨hbl, _, hro, how⟩ := K0.out
      obtain ⟨v, d, f⟩ := (hro.below b1 hsz) j hlt
      have K1 : Hid (Below wr.heap.size wr W1 ∧ wr.heap.size + 1 < W1.heap.size ∧ NumsAt W1 (wr.heap.size + 1) 0 row ∧ Room W1 (wr.heap.size + 1) k3) := ⟨b1, l1, n1, r1⟩
      clear b1 l1 n1 r1 hro how hbl
      go_wp2
      obtain ⟨hbl, _, hro, how⟩ := K0.out
      obtain ⟨b1, l1, n1, r1⟩ := K1.out
      have hne : wr.heap.size + 1 ≠ w.heap.size := by omega
      have eb : ∀ q, q ≠ w.heap.size → (W1.setCell ⟨w.heap.size, j, none⟩ (.slice (some ⟨wr.heap.size + 1, 0, none⟩) k3 k3)).heap[q]? = W1.heap[q]? := fun q hq => Below.heap_setCell _ _ _ _ (fun e => hq e)
      have ssz : (W1.setCell ⟨w.heap.size, j, none⟩ (.slice (some ⟨wr.heap.size + 1, 0, none⟩) k3 k3)).heap.size = W1.heap.size := by simp [World.setCell]
      have how1 := how.later b1 hsz
      have hcell : ∀ i zs, (spreadN j m)[i]? = some zs → ∃ cap, (W1.setCell ⟨w.heap.size, j, none⟩ (.slice (some ⟨wr.heap.size + 1, 0, none⟩) k3 k3)).cell? ⟨w.heap.size, i, none⟩ = some (.slice (some ⟨g i, 0, none⟩) zs.length cap) ∧ zs.length ≤ cap := fun i zs e => by
        have hi : i < j := by have := (List.getElem?_eq_some_iff.1 e).1; rw [spreadN_len] at this; exact this
        rw [cell_set_other (by omega)]
        exact how1.cell i zs e
      have how2 : OwnP (W1.setCell ⟨w.heap.size, j, none⟩ (.slice (some ⟨wr.heap.size + 1, 0, none⟩) k3 k3)) w.heap.size w.heap.size j (spreadN j m) g :=
        ⟨how1.len, hcell, how1.low, fun i hi => by rw [ssz]; exact how1.lt i hi, how1.ne, fun i zs e => (how1.nums i zs e).of_block (eb _ (how1.ne i (by have := (List.getElem?_eq_some_iff.1 e).1; rw [spreadN_len] at this; exact this))), fun i zs e => (how1.room i zs e).of_block (eb _ (how1.ne i (by have := (List.getElem?_eq_some_iff.1 e).1; rw [spreadN_len] at this; exact this))), how1.inj⟩
      have how3 := how2.snoc (zs := row) (q := wr.heap.size + 1) (cap := k3) (by rw [hrl]; exact cell_set_same d) (by omega) (by omega) (by rw [ssz]; exact l1) hne (n1.of_block (eb _ hne)) (by rw [hrl]; exact r1.of_block (eb _ hne)) (fun i hi e => by have := how.lt i hi; omega)
      refine ⟨⟨j + 1, _, by omega, by simp, (hbl.trans (b1.mono hbl.size)).setCell (p := ⟨w.heap.size, j, none⟩) (Nat.le_refl _) _, by rw [ssz]; have := b1.size; omega, (hro.below b1 hsz).set _, by rw [hsu]; exact how3⟩, by simp [intOf]; omega⟩
    · obtain rfl : n = j := by omega
      have hd : decide ((n : Int) < (n : Int)) = false := by simp
      have K0 : Hid (Below w.heap.size w wr ∧ OwnP wr w.heap.size w.heap.size n (spreadN n m) g) := ⟨hbl, how⟩
      clear hbl hro how
      go_wp2
      refine bodyPost_ret (v := .tuple #[.slice (some ⟨w.heap.size, 0, none⟩) n n, .bool true]) (by simp [results, Try.results19, go_sem]) rfl ?_
      exact ⟨g, rfl, K0.out.2, hsz, K0.out.1⟩
set_option maxHeartbeats 1000000 in
theorem implSpread_out (w : World) (R M : Int) (h : spreadB R M = false) :
    Calls Try.prog 19 #[.int .i64 R, .int .i64 M] w fun e w' => e = .returned (.tuple #[.slice none 0 0, .bool false]) ∧ w' = w := by
  have key : R < 1 ∨ 6 < R ∨ M < 1 ∨ 8 < M := by
    by_cases h1 : 1 ≤ R ∧ R ≤ 6
    · by_cases h2 : 1 ≤ M ∧ M ≤ 8
      · rw [spreadB, inB_yes h1.1 h1.2, inB_yes h2.1 h2.2] at h; cases h
      · omega
    · omega
  by_cases d1 : R < 1
  · go_enter Try.func19, Try.ntmps19
    go_wp2
    refine bodyPost_ret (v := .tuple #[.slice none 0 0, .bool false]) (by simp [results, Try.results19, go_sem]) rfl ?_
    exact ⟨rfl, rfl⟩
  · by_cases d2 : 6 < R
    · have q1 : decide (R < 1) = false := by simp; omega
      go_enter Try.func19, Try.ntmps19
      go_wp2
      refine bodyPost_ret (v := .tuple #[.slice none 0 0, .bool false]) (by simp [results, Try.results19, go_sem]) rfl ?_
      exact ⟨rfl, rfl⟩
    · by_cases d3 : M < 1
      · have q1 : decide (R < 1) = false := by simp; omega
        have q2 : decide (6 < R) = false := by simp; omega
        go_enter Try.func19, Try.ntmps19
        go_wp2
        refine bodyPost_ret (v := .tuple #[.slice none 0 0, .bool false]) (by simp [results, Try.results19, go_sem]) rfl ?_
        exact ⟨rfl, rfl⟩
      · have q1 : decide (R < 1) = false := by simp; omega
        have q2 : decide (6 < R) = false := by simp; omega
        have q3 : decide (M < 1) = false := by simp; omega
        have q4 : 8 < M := by omega
        go_enter Try.func19, Try.ntmps19
        go_wp2
        refine bodyPost_ret (v := .tuple #[.slice none 0 0, .bool false]) (by simp [results, Try.results19, go_sem]) rfl ?_
        exact ⟨rfl, rfl⟩
end Go.Proofs.Ytcbfnajpcaipkaa
