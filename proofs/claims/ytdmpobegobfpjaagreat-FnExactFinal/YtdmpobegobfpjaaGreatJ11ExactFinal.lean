/- RpO; RpP; IndI; InsI; YSofI; RpQ; OrL; OrM: joined. -/
import Derived.Test.YtdmpobegobfpjaaGreatRows
import Derived.Test.YtdmpobegobfpjaaGreatJ10ExactFinal
import Derived.Test.YtdmpobegobfpjaaGreatJ2ExactFinal
import Derived.Laws.StructEq
import Derived.WalkKit
import Derived.WalkSpells
import Derived.WalkLawsBesides
import Derived.Below
import Derived.Lib.QuietBelow
import Derived.BigQuiet
import Derived.Deep.CutRange
import Derived.Deep.RegionWith
import Derived.LaidEql
import Derived.RowKitTokens
import Derived.Test.YtdmpobegobfpjaaGreatJ1ExactFinal
import Derived.Deep.Heap
import Derived.Deep.AppendLies
import Derived.Test.YtdmpobegobfpjaaGreatJ9ExactFinal
import Derived.Test.YtdmpobegobfpjaaGreatJ6ExactFinal
import Derived.Test.YtdmpobegobfpjaaGreatJ7ExactFinal
import Derived.Test.YtdmpobegobfpjaaGreatJ0ExactFinal
import Derived.Lib.SliceRun
namespace Go.Proofs.YtdmpobegobfpjaaGreat
open Go.RowKit
open Go.Sort (grow)
theorem eqNote_run (a b c d : Int) (e : Bool) (a' b' c' d' : Int) (e' : Bool) (w : World) : (Op.equalIn 10000 104 (.agg #[.int .i64 a, .int .i64 b, .int .i64 c, .int .i64 d, .bool e]) (.agg #[.int .i64 a', .int .i64 b', .int .i64 c', .int .i64 d', .bool e'])).run Tryz.prog w = .ok (a == a' && b == b' && c == c' && d == d' && e == e') w := by
  have hS : Tryz.prog.underlying 104 = some (.struct (Tryz.prog.fieldsOf 104)) := by kernel_rfl
  have hp : Tryz.prog.stoodInHeld 104 = false := by kernel_rfl
  rw [show (10000 : Nat) = 9999 + 1 from rfl, run_equalIn_agg w 9999 104 _ _ hS hp]
  simp only [Program.fieldsOf, Tryz.underlying104]
  go_simp
  by_cases h1 : a = a' <;> by_cases h2 : b = b' <;> by_cases h3 : c = c' <;> by_cases h4 : d = d' <;> cases e <;> cases e' <;> simp [h1, h2, h3, h4]
theorem eqNote_guard : Tryz.prog.eqGuardType Tryz.prog.depth 104 = false := by kernel_rfl
set_option maxRecDepth 100000 in
set_option maxHeartbeats 8000000 in
theorem misread_any (w : World) (base b n rb : Nat) (g : Nat → Nat) (css : List (List C2)) (hR : Rep w base b n g css) (hrb : rb < w.heap.size) (hrc : w.cell? ⟨rb, 0, none⟩ = some (.slice (some ⟨b, 0, none⟩) n n)) (i j : Nat) (ver val : Int) (us : Bool) (hi : i < css.length) (hj : j < 6) : Calls Tryz.prog 133 #[.agg #[.int .i64 (i : Int), .int .i64 (j : Int), .int .i64 ver, .int .i64 val, .bool us], .pointer (some ⟨rb, 0, none⟩)] w fun e w' => e = .returned (.bool (!rdOk css ⟨(i : Int), (j : Int), ver, val, us⟩)) ∧ Below w.heap.size w w' := by
  obtain ⟨ans, hans⟩ : ∃ z, (!rdOk css ⟨(i : Int), (j : Int), ver, val, us⟩) = z := ⟨_, rfl⟩
  rw [hans]
  have HA := hidOf hans
  clear hans
  obtain ⟨U0, hU0⟩ : ∃ Y, Y = w.alloc (.cells #[.int .i64 (i : Int), .int .i64 (j : Int), .int .i64 ver, .int .i64 val, .bool us] 104) := ⟨_, rfl⟩
  have bU0 : Below w.heap.size w U0 := by rw [hU0]; exact (Below.refl _ _).alloc (Nat.le_refl _) _
  have xU0 : Bx U0 w.heap.size [.int .i64 (i : Int), .int .i64 (j : Int), .int .i64 ver, .int .i64 val, .bool us] := by rw [hU0]; exact Bx.made w [.int .i64 (i : Int), .int .i64 (j : Int), .int .i64 ver, .int .i64 val, .bool us] _
  have sU0 : U0.heap.size = w.heap.size + 1 := by rw [hU0]; simp
  have HR : Hid (Rep U0 base b n g css) := hR.later bU0
  have BU : Hid (Below w.heap.size w U0) := bU0
  have HL : Hid (w.heap.size < U0.heap.size ∧ rb < U0.heap.size) := ⟨by omega, by omega⟩
  have hS : (fun Z : World => Below U0.heap.size U0 Z ∧ Z.cell? ⟨w.heap.size, 0, none⟩ = some (.int .i64 (i : Int)) ∧ Z.cell? ⟨w.heap.size, 1, none⟩ = some (.int .i64 (j : Int)) ∧ Z.cell? ⟨w.heap.size, 2, none⟩ = some (.int .i64 ver) ∧ Z.cell? ⟨w.heap.size, 3, none⟩ = some (.int .i64 val) ∧ Z.cell? ⟨w.heap.size, 4, none⟩ = some (.bool us) ∧ Z.cell? ⟨rb, 0, none⟩ = some (.slice (some ⟨b, 0, none⟩) n n)) U0.drew := ⟨(Below.refl _ _).drew, xU0.1 0 _ rfl, xU0.1 1 _ rfl, xU0.1 2 _ rfl, xU0.1 3 _ rfl, xU0.1 4 _ rfl, (bU0.cell (p := ⟨rb, 0, none⟩) hrb).trans hrc⟩
  have hEq := eqNote_run
  have hGd := eqNote_guard
  clear xU0 bU0 sU0 hR hrc hrb
  go_enter Tryz.func133, Tryz.ntmps133
  go_wp2_with fail
  rw [← hU0]
  clear hU0
  refine wp_region_z (fun _ => false) (fun Z : World => Below U0.heap.size U0 Z ∧ Z.cell? ⟨w.heap.size, 0, none⟩ = some (.int .i64 (i : Int)) ∧ Z.cell? ⟨w.heap.size, 1, none⟩ = some (.int .i64 (j : Int)) ∧ Z.cell? ⟨w.heap.size, 2, none⟩ = some (.int .i64 ver) ∧ Z.cell? ⟨w.heap.size, 3, none⟩ = some (.int .i64 val) ∧ Z.cell? ⟨w.heap.size, 4, none⟩ = some (.bool us) ∧ Z.cell? ⟨rb, 0, none⟩ = some (.slice (some ⟨b, 0, none⟩) n n)) (by kernel_rfl) ?_
  generalize U0.drew = Wd at *
  refine wpZ_take (i := 0) (v := ?_) rfl (by kernel_rfl) (fun _ _ _ h => h) (Or.inl ⟨by rfl, ?_⟩) hS ?_
  rotate_left
  · (intro w hSw; obtain ⟨-, s0, s1, s2, s3, s4, s5⟩ := hSw; go_simp; first | done | with_reducible rfl)
  simp only [Act.put]
  refine wpZ_take (i := 1) (v := ?_) rfl (by kernel_rfl) (fun _ _ _ h => h) (Or.inl ⟨by rfl, ?_⟩) hS ?_
  rotate_left
  · (intro w hSw; obtain ⟨-, s0, s1, s2, s3, s4, s5⟩ := hSw; go_simp; first | done | with_reducible rfl)
  simp only [Act.put]
  refine wpZ_take (i := 2) (v := ?_) rfl (by kernel_rfl) (fun _ _ _ h => h) (Or.inl ⟨by rfl, ?_⟩) hS ?_
  rotate_left
  · (intro w hSw; obtain ⟨-, s0, s1, s2, s3, s4, s5⟩ := hSw; go_simp; first | done | with_reducible rfl)
  simp only [Act.put]
  refine wpZ_ready (rs := [3]) (by kernel_rfl) (by simp) ?_
  refine AllZ.cons rfl (fun K hK => ?_) AllZ.nil
  go_simp
  refine (tx.noCell_any Wd ⟨(i : Int), (j : Int), ver, val, us⟩).mono ?_
  rintro e X ⟨rfl, bX⟩
  have h9 := hS.1.size
  have h8 := HL.out
  have hc : ∀ q j, q < Wd.heap.size → X.cell? ⟨q, j, none⟩ = Wd.cell? ⟨q, j, none⟩ := fun q j hq => bX.cell (p := ⟨q, j, none⟩) hq
  replace hS : (fun Z : World => Below U0.heap.size U0 Z ∧ Z.cell? ⟨w.heap.size, 0, none⟩ = some (.int .i64 (i : Int)) ∧ Z.cell? ⟨w.heap.size, 1, none⟩ = some (.int .i64 (j : Int)) ∧ Z.cell? ⟨w.heap.size, 2, none⟩ = some (.int .i64 ver) ∧ Z.cell? ⟨w.heap.size, 3, none⟩ = some (.int .i64 val) ∧ Z.cell? ⟨w.heap.size, 4, none⟩ = some (.bool us) ∧ Z.cell? ⟨rb, 0, none⟩ = some (.slice (some ⟨b, 0, none⟩) n n)) X := ⟨bstep hS.1 bX, (hc _ _ (by omega)).trans hS.2.1, (hc _ _ (by omega)).trans hS.2.2.1, (hc _ _ (by omega)).trans hS.2.2.2.1, (hc _ _ (by omega)).trans hS.2.2.2.2.1, (hc _ _ (by omega)).trans hS.2.2.2.2.2.1, (hc _ _ (by omega)).trans hS.2.2.2.2.2.2⟩
  clear hc h9 h8 bX
  clear Wd
  generalize X = Wd at *
  refine hK.out _ _ (fun _ => hS) ?_
  clear hK K
  refine wpZ_ready (rs := [4]) (by kernel_rfl) (by simp) ?_
  refine AllZ.cons rfl (fun K hK => ?_) AllZ.nil
  go_simp
  refine (noteAt_any Wd base b n g css (HR.out.later hS.1) i j hi hj).mono ?_
  rintro e X ⟨rfl, bX⟩
  have h9 := hS.1.size
  have h8 := HL.out
  have hc : ∀ q j, q < Wd.heap.size → X.cell? ⟨q, j, none⟩ = Wd.cell? ⟨q, j, none⟩ := fun q j hq => bX.cell (p := ⟨q, j, none⟩) hq
  replace hS : (fun Z : World => Below U0.heap.size U0 Z ∧ Z.cell? ⟨w.heap.size, 0, none⟩ = some (.int .i64 (i : Int)) ∧ Z.cell? ⟨w.heap.size, 1, none⟩ = some (.int .i64 (j : Int)) ∧ Z.cell? ⟨w.heap.size, 2, none⟩ = some (.int .i64 ver) ∧ Z.cell? ⟨w.heap.size, 3, none⟩ = some (.int .i64 val) ∧ Z.cell? ⟨w.heap.size, 4, none⟩ = some (.bool us) ∧ Z.cell? ⟨rb, 0, none⟩ = some (.slice (some ⟨b, 0, none⟩) n n)) X := ⟨bstep hS.1 bX, (hc _ _ (by omega)).trans hS.2.1, (hc _ _ (by omega)).trans hS.2.2.1, (hc _ _ (by omega)).trans hS.2.2.2.1, (hc _ _ (by omega)).trans hS.2.2.2.2.1, (hc _ _ (by omega)).trans hS.2.2.2.2.2.1, (hc _ _ (by omega)).trans hS.2.2.2.2.2.2⟩
  clear hc h9 h8 bX
  clear Wd
  generalize X = Wd at *
  refine hK.out _ _ (fun _ => hS) ?_
  clear hK K
  refine wpZ_ready (rs := [5]) (by kernel_rfl) (by simp) ?_
  refine AllZ.cons rfl (fun K hK => ?_) AllZ.nil
  go_simp
  refine hK.out _ _ (fun _ => hS) ?_
  clear hK K
  refine wpZ_ready (rs := [6]) (by kernel_rfl) (by simp) ?_
  refine AllZ.cons rfl (fun K hK => ?_) AllZ.nil
  go_simp
  refine hK.out _ _ (fun _ => hS) ?_
  clear hK K
  refine wpZ_done (by kernel_rfl) ?_ _
  have BW : Hid (Below w.heap.size w Wd) := bstep BU.out hS.1
  have HV : Hid (ans = (!(ver == verV (atCC css (i : Int) (j : Int)).head) || !(val == (atCC css (i : Int) (j : Int)).value) || !(us == usedV (atCC css (i : Int) (j : Int)).head))) := by unfold Hid; rw [← HA.out]; rw [BEq.comm (a := ver), BEq.comm (a := val), BEq.comm (a := us)]; simp only [rdOk, Bool.not_and]
  clear hS HR
  go_wp2
  go_ret
  exact ⟨by rw [HV.out]; rfl, BW.out⟩
set_option maxRecDepth 100000 in
set_option maxHeartbeats 8000000 in
theorem misset_any (w : World) (base b n rb : Nat) (g : Nat → Nat) (css : List (List C2)) (hR : Rep w base b n g css) (hrb : rb < w.heap.size) (hrc : w.cell? ⟨rb, 0, none⟩ = some (.slice (some ⟨b, 0, none⟩) n n)) (i j : Nat) (ver val : Int) (us : Bool) (hi : i < css.length) (hj : j < 6) : Calls Tryz.prog 136 #[.agg #[.int .i64 (i : Int), .int .i64 (j : Int), .int .i64 val, .bool us, .int .i64 ver], .pointer (some ⟨rb, 0, none⟩)] w fun e w' => e = .returned (.bool (!stOk css ⟨(i : Int), (j : Int), val, us, ver⟩)) ∧ Below w.heap.size w w' := by
  obtain ⟨ans, hans⟩ : ∃ z, (!stOk css ⟨(i : Int), (j : Int), val, us, ver⟩) = z := ⟨_, rfl⟩
  rw [hans]
  have HA := hidOf hans
  clear hans
  obtain ⟨U0, hU0⟩ : ∃ Y, Y = w.alloc (.cells #[.int .i64 (i : Int), .int .i64 (j : Int), .int .i64 val, .bool us, .int .i64 ver] 106) := ⟨_, rfl⟩
  have bU0 : Below w.heap.size w U0 := by rw [hU0]; exact (Below.refl _ _).alloc (Nat.le_refl _) _
  have xU0 : Bx U0 w.heap.size [.int .i64 (i : Int), .int .i64 (j : Int), .int .i64 val, .bool us, .int .i64 ver] := by rw [hU0]; exact Bx.made w [.int .i64 (i : Int), .int .i64 (j : Int), .int .i64 val, .bool us, .int .i64 ver] _
  have sU0 : U0.heap.size = w.heap.size + 1 := by rw [hU0]; simp
  have HR : Hid (Rep U0 base b n g css) := hR.later bU0
  have BU : Hid (Below w.heap.size w U0) := bU0
  have HL : Hid (w.heap.size < U0.heap.size ∧ rb < U0.heap.size) := ⟨by omega, by omega⟩
  have hS : (fun Z : World => Below U0.heap.size U0 Z ∧ Z.cell? ⟨w.heap.size, 0, none⟩ = some (.int .i64 (i : Int)) ∧ Z.cell? ⟨w.heap.size, 1, none⟩ = some (.int .i64 (j : Int)) ∧ Z.cell? ⟨w.heap.size, 2, none⟩ = some (.int .i64 val) ∧ Z.cell? ⟨w.heap.size, 3, none⟩ = some (.bool us) ∧ Z.cell? ⟨w.heap.size, 4, none⟩ = some (.int .i64 ver) ∧ Z.cell? ⟨rb, 0, none⟩ = some (.slice (some ⟨b, 0, none⟩) n n)) U0.drew := ⟨(Below.refl _ _).drew, xU0.1 0 _ rfl, xU0.1 1 _ rfl, xU0.1 2 _ rfl, xU0.1 3 _ rfl, xU0.1 4 _ rfl, (bU0.cell (p := ⟨rb, 0, none⟩) hrb).trans hrc⟩
  have hfd : ∀ (x0 x1 x2 x3 : Int) (x4 : Bool) (X : World), (Instr.field 104 (.agg #[.int .i64 x0, .int .i64 x1, .int .i64 x2, .int .i64 x3, .bool x4]) 2).run Tryz.prog X = .ok (.int .i64 x2) X := fun _ _ _ _ _ _ => by kernel_rfl
  clear xU0 bU0 sU0 hR hrc hrb
  go_enter Tryz.func136, Tryz.ntmps136
  go_wp2_with fail
  rw [← hU0]
  clear hU0
  refine wp_region_z (fun _ => false) (fun Z : World => Below U0.heap.size U0 Z ∧ Z.cell? ⟨w.heap.size, 0, none⟩ = some (.int .i64 (i : Int)) ∧ Z.cell? ⟨w.heap.size, 1, none⟩ = some (.int .i64 (j : Int)) ∧ Z.cell? ⟨w.heap.size, 2, none⟩ = some (.int .i64 val) ∧ Z.cell? ⟨w.heap.size, 3, none⟩ = some (.bool us) ∧ Z.cell? ⟨w.heap.size, 4, none⟩ = some (.int .i64 ver) ∧ Z.cell? ⟨rb, 0, none⟩ = some (.slice (some ⟨b, 0, none⟩) n n)) (by kernel_rfl) ?_
  generalize U0.drew = Wd at *
  refine wpZ_takeP (i := 0) (v := ?_) rfl (by kernel_rfl) (fun _ _ _ h => h) (Or.inl ⟨by rfl, ?_⟩) hS ?_
  rotate_left
  · (intro w _; go_simp; first | done | with_reducible rfl | (rw [if_pos (by omega)]) | (rw [if_pos (by omega)]; go_simp))
  simp only [Act.put]
  refine wpZ_take (i := 1) (v := ?_) rfl (by kernel_rfl) (fun _ _ _ h => h) (Or.inl ⟨by rfl, ?_⟩) hS ?_
  rotate_left
  · (intro w hSw; obtain ⟨-, s0, s1, s2, s3, s4, s5⟩ := hSw; go_simp; first | done | with_reducible rfl)
  simp only [Act.put]
  refine wpZ_take (i := 2) (v := ?_) rfl (by kernel_rfl) (fun _ _ _ h => h) (Or.inl ⟨by rfl, ?_⟩) hS ?_
  rotate_left
  · (intro w hSw; obtain ⟨-, s0, s1, s2, s3, s4, s5⟩ := hSw; go_simp; first | done | with_reducible rfl)
  simp only [Act.put]
  refine wpZ_take (i := 3) (v := ?_) rfl (by kernel_rfl) (fun _ _ _ h => h) (Or.inl ⟨by rfl, ?_⟩) hS ?_
  rotate_left
  · (intro w hSw; obtain ⟨-, s0, s1, s2, s3, s4, s5⟩ := hSw; go_simp; first | done | with_reducible rfl)
  simp only [Act.put]
  refine wpZ_ready (rs := [4]) (by kernel_rfl) (by simp) ?_
  refine AllZ.cons rfl (fun K hK => ?_) AllZ.nil
  go_simp
  refine (tx.seCell_any Wd ⟨(i : Int), (j : Int), val, us, ver⟩).mono ?_
  rintro e X ⟨rfl, bX⟩
  have h9 := hS.1.size
  have h8 := HL.out
  have hc : ∀ q j, q < Wd.heap.size → X.cell? ⟨q, j, none⟩ = Wd.cell? ⟨q, j, none⟩ := fun q j hq => bX.cell (p := ⟨q, j, none⟩) hq
  replace hS : (fun Z : World => Below U0.heap.size U0 Z ∧ Z.cell? ⟨w.heap.size, 0, none⟩ = some (.int .i64 (i : Int)) ∧ Z.cell? ⟨w.heap.size, 1, none⟩ = some (.int .i64 (j : Int)) ∧ Z.cell? ⟨w.heap.size, 2, none⟩ = some (.int .i64 val) ∧ Z.cell? ⟨w.heap.size, 3, none⟩ = some (.bool us) ∧ Z.cell? ⟨w.heap.size, 4, none⟩ = some (.int .i64 ver) ∧ Z.cell? ⟨rb, 0, none⟩ = some (.slice (some ⟨b, 0, none⟩) n n)) X := ⟨bstep hS.1 bX, (hc _ _ (by omega)).trans hS.2.1, (hc _ _ (by omega)).trans hS.2.2.1, (hc _ _ (by omega)).trans hS.2.2.2.1, (hc _ _ (by omega)).trans hS.2.2.2.2.1, (hc _ _ (by omega)).trans hS.2.2.2.2.2.1, (hc _ _ (by omega)).trans hS.2.2.2.2.2.2⟩
  clear hc h9 h8 bX
  clear Wd
  generalize X = Wd at *
  refine hK.out _ _ (fun _ => hS) ?_
  clear hK K
  refine wpZ_ready (rs := [5]) (by kernel_rfl) (by simp) ?_
  refine AllZ.cons rfl (fun K hK => ?_) AllZ.nil
  go_simp
  refine (noteAt_any Wd base b n g css (HR.out.later hS.1) i j hi hj).mono ?_
  rintro e X ⟨rfl, bX⟩
  have h9 := hS.1.size
  have h8 := HL.out
  have hc : ∀ q j, q < Wd.heap.size → X.cell? ⟨q, j, none⟩ = Wd.cell? ⟨q, j, none⟩ := fun q j hq => bX.cell (p := ⟨q, j, none⟩) hq
  replace hS : (fun Z : World => Below U0.heap.size U0 Z ∧ Z.cell? ⟨w.heap.size, 0, none⟩ = some (.int .i64 (i : Int)) ∧ Z.cell? ⟨w.heap.size, 1, none⟩ = some (.int .i64 (j : Int)) ∧ Z.cell? ⟨w.heap.size, 2, none⟩ = some (.int .i64 val) ∧ Z.cell? ⟨w.heap.size, 3, none⟩ = some (.bool us) ∧ Z.cell? ⟨w.heap.size, 4, none⟩ = some (.int .i64 ver) ∧ Z.cell? ⟨rb, 0, none⟩ = some (.slice (some ⟨b, 0, none⟩) n n)) X := ⟨bstep hS.1 bX, (hc _ _ (by omega)).trans hS.2.1, (hc _ _ (by omega)).trans hS.2.2.1, (hc _ _ (by omega)).trans hS.2.2.2.1, (hc _ _ (by omega)).trans hS.2.2.2.2.1, (hc _ _ (by omega)).trans hS.2.2.2.2.2.1, (hc _ _ (by omega)).trans hS.2.2.2.2.2.2⟩
  clear hc h9 h8 bX
  clear Wd
  generalize X = Wd at *
  refine hK.out _ _ (fun _ => hS) ?_
  clear hK K
  refine wpZ_ready (rs := [6]) (by kernel_rfl) (by simp) ?_
  refine AllZ.cons rfl (fun K hK => ?_) AllZ.nil
  go_simp
  refine hK.out _ _ (fun _ => hS) ?_
  clear hK K
  refine wpZ_ready (rs := [7]) (by kernel_rfl) (by simp) ?_
  refine AllZ.cons rfl (fun K hK => ?_) AllZ.nil
  go_simp
  refine hK.out _ _ (fun _ => hS) ?_
  clear hK K
  refine wpZ_ready (rs := [8]) (by kernel_rfl) (by simp) ?_
  refine AllZ.cons rfl (fun K hK => ?_) AllZ.nil
  go_simp
  refine hK.out _ _ (fun _ => hS) ?_
  clear hK K
  refine wpZ_done (by kernel_rfl) ?_ _
  have BW : Hid (Below w.heap.size w Wd) := bstep BU.out hS.1
  have HV : Hid (ans = (ver != verV (atCC css (i : Int) (j : Int)).head)) := by unfold Hid; rw [← HA.out]; rw [bne, BEq.comm (a := ver)]; rfl
  clear hS HR
  go_wp2
  go_ret
  exact ⟨by rw [HV.out]; rfl, BW.out⟩
set_option maxHeartbeats 2000000 in
theorem idxNo (w : World) (a : Option Addr) (cap rb : Nat) (xs : List tx.N5) (f : Nat → Bool) (hn : xs.length ≤ maxLen) (hs : tx.SlNo w w.heap.size a xs.length xs) (hf : ∀ (X : World) (i : Nat), Below w.heap.size w X → i < xs.length → Calls Tryz.prog 133 #[.agg #[.int .i64 (tx.atNo xs i).region, .int .i64 (tx.atNo xs i).slot, .int .i64 (tx.atNo xs i).version, .int .i64 (tx.atNo xs i).value, .bool (tx.atNo xs i).used], .pointer (some ⟨rb, 0, none⟩)] X fun e w' => e = .returned (.bool (f i)) ∧ Below X.heap.size X w') :
    Calls Tryz.prog 173 #[.slice a xs.length cap, .func (.func 133) #[] #[.pointer (some ⟨rb, 0, none⟩)]] w fun e w' => (∃ i : Int, e = .returned (.int .i64 i) ∧ FirstAt f xs.length i) ∧ Below w.heap.size w w' := by
  unfold maxLen at hn
  obtain ⟨-, hs⟩ := hs
  have HF := hidOf hf
  clear hf
  obtain ⟨n, hnn⟩ : ∃ n, n = xs.length := ⟨_, rfl⟩
  rw [← hnn] at hn hs ⊢
  have HN := hidOf hnn
  clear hnn
  go_enter Tryz.func173, Tryz.ntmps173
  go_wp2
  go_loopw [8] (fun v wr => ∃ j : Nat, j ≤ n ∧ v = .int .i64 j ∧ Below w.heap.size w wr ∧ ∀ i, i < j → f i = false) (fun v _ => n - (intOf v).toNat)
  case atStart => exact ⟨0, Nat.zero_le _, rfl, Below.refl _ _, fun i h => absurd h (by omega)⟩
  case round =>
    obtain ⟨j, hj, rfl, hbl, hall⟩ := hrel
    by_cases hlt : j < n
    · rcases hs with hs | ⟨b, off, rfl, hb, h1⟩
      · omega
      · have hjx : j < xs.length := by rw [← HN.out]; exact hlt
        obtain ⟨c0, c1, c2, c3, c4⟩ := (h1 j _ (tx.atNo_of hjx)).below hbl hb
        have KA : Hid ((∀ i, i < j → f i = false) ∧ Below w.heap.size w wr) := ⟨hall, hbl⟩
        have hw := HF.out wr j hbl hjx
        have jn : (j : Int) < (n : Int) := by omega
        clear h1 hall hbl
        cases hp : f j with
        | true =>
          rw [hp] at hw
          have HP := hidOf hp
          clear hp
          go_wp2_with fail
          refine hw.mono ?_
          clear hw
          rintro e w1 ⟨rfl, b1⟩
          go_wp2
          go_ret
          exact ⟨⟨_, rfl, .inr ⟨j, rfl, hlt, HP.out, KA.out.1⟩⟩, KA.out.2.trans (b1.mono KA.out.2.size)⟩
        | false =>
          rw [hp] at hw
          have HP := hidOf hp
          clear hp
          go_wp2_with fail
          refine hw.mono ?_
          clear hw
          rintro e w1 ⟨rfl, b1⟩
          go_wp2
          exact ⟨⟨j + 1, by omega, by simp, KA.out.2.trans (b1.mono KA.out.2.size), fun i hi => by
            by_cases e : i = j
            · rw [e]; exact HP.out
            · exact KA.out.1 i (by omega)⟩, by simp [intOf]; omega⟩
    · have : j = n := by omega
      subst this
      have hd : decide ((j : Int) < (j : Int)) = false := by simp
      have KA : Hid (∀ i, i < j → f i = false) := hall
      clear hs hall
      go_wp2
      go_ret
      exact ⟨⟨_, rfl, .inl ⟨rfl, KA.out⟩⟩, hbl⟩
theorem idxNoHas (w : World) (a : Option Addr) (cap rb : Nat) (xs : List tx.N5) (p : tx.N5 → Bool) (hn : xs.length ≤ maxLen) (hs : tx.SlNo w w.heap.size a xs.length xs) (hf : ∀ (X : World) (i : Nat), Below w.heap.size w X → i < xs.length → Calls Tryz.prog 133 #[.agg #[.int .i64 (tx.atNo xs i).region, .int .i64 (tx.atNo xs i).slot, .int .i64 (tx.atNo xs i).version, .int .i64 (tx.atNo xs i).value, .bool (tx.atNo xs i).used], .pointer (some ⟨rb, 0, none⟩)] X fun e w' => e = .returned (.bool (!p (tx.atNo xs i))) ∧ Below X.heap.size X w') :
    Calls Tryz.prog 138 #[.slice a xs.length cap, .func (.func 133) #[] #[.pointer (some ⟨rb, 0, none⟩)]] w fun e w' => e = .returned (.bool (!xs.all p)) ∧ Below w.heap.size w w' := by
  have hi := idxNo w a cap rb xs (fun i => !p (tx.atNo xs i)) hn hs hf
  have hV : (!((List.range xs.length).all fun j => !(fun i => !p (tx.atNo xs i)) j)) = !xs.all p := by
    congr 1
    rw [Bool.eq_iff_iff, List.all_eq_true, List.all_eq_true]
    constructor
    · intro h x hx
      obtain ⟨i, hi, rfl⟩ := List.getElem_of_mem hx
      have := h i (List.mem_range.2 hi)
      have e : tx.atNo xs i = xs[i] := by have := tx.atNo_of hi; rw [List.getElem?_eq_getElem hi] at this; exact (Option.some.inj this).symm
      simpa [e] using this
    · intro h i hi
      have hi' := List.mem_range.1 hi
      simpa using h _ (List.mem_of_getElem? (tx.atNo_of hi'))
  obtain ⟨V, hVV⟩ : ∃ V, (!xs.all p) = V := ⟨_, rfl⟩
  rw [hVV]
  rw [hVV] at hV
  clear hs hf hVV
  go_enter Tryz.func138, Tryz.ntmps138
  go_wp2_with fail
  refine hi.mono ?_
  clear hi
  rintro e w1 ⟨⟨i, rfl, hb0⟩, b1⟩
  have hb := first_has hb0
  rw [hV] at hb
  clear hb0 hV
  go_wp2
  go_ret
  exact ⟨rfl, b1⟩
set_option maxHeartbeats 2000000 in
theorem idxSe (w : World) (a : Option Addr) (cap rb : Nat) (xs : List S5) (f : Nat → Bool) (hn : xs.length ≤ maxLen) (hs : tx.Sl w w.heap.size a xs.length xs) (hf : ∀ (X : World) (i : Nat), Below w.heap.size w X → i < xs.length → Calls Tryz.prog 136 #[.agg #[.int .i64 (tx.atSe xs i).region, .int .i64 (tx.atSe xs i).slot, .int .i64 (tx.atSe xs i).value, .bool (tx.atSe xs i).used, .int .i64 (tx.atSe xs i).version], .pointer (some ⟨rb, 0, none⟩)] X fun e w' => e = .returned (.bool (f i)) ∧ Below X.heap.size X w') :
    Calls Tryz.prog 174 #[.slice a xs.length cap, .func (.func 136) #[] #[.pointer (some ⟨rb, 0, none⟩)]] w fun e w' => (∃ i : Int, e = .returned (.int .i64 i) ∧ FirstAt f xs.length i) ∧ Below w.heap.size w w' := by
  unfold maxLen at hn
  obtain ⟨-, hs⟩ := hs
  have HF := hidOf hf
  clear hf
  obtain ⟨n, hnn⟩ : ∃ n, n = xs.length := ⟨_, rfl⟩
  rw [← hnn] at hn hs ⊢
  have HN := hidOf hnn
  clear hnn
  go_enter Tryz.func174, Tryz.ntmps174
  go_wp2
  go_loopw [8] (fun v wr => ∃ j : Nat, j ≤ n ∧ v = .int .i64 j ∧ Below w.heap.size w wr ∧ ∀ i, i < j → f i = false) (fun v _ => n - (intOf v).toNat)
  case atStart => exact ⟨0, Nat.zero_le _, rfl, Below.refl _ _, fun i h => absurd h (by omega)⟩
  case round =>
    obtain ⟨j, hj, rfl, hbl, hall⟩ := hrel
    by_cases hlt : j < n
    · rcases hs with hs | ⟨b, off, rfl, hb, h1⟩
      · omega
      · have hjx : j < xs.length := by rw [← HN.out]; exact hlt
        obtain ⟨c0, c1, c2, c3, c4⟩ := (h1 j _ (tx.atSe_of hjx)).below hbl hb
        have KA : Hid ((∀ i, i < j → f i = false) ∧ Below w.heap.size w wr) := ⟨hall, hbl⟩
        have hw := HF.out wr j hbl hjx
        have jn : (j : Int) < (n : Int) := by omega
        clear h1 hall hbl
        cases hp : f j with
        | true =>
          rw [hp] at hw
          have HP := hidOf hp
          clear hp
          go_wp2_with fail
          refine hw.mono ?_
          clear hw
          rintro e w1 ⟨rfl, b1⟩
          go_wp2
          go_ret
          exact ⟨⟨_, rfl, .inr ⟨j, rfl, hlt, HP.out, KA.out.1⟩⟩, KA.out.2.trans (b1.mono KA.out.2.size)⟩
        | false =>
          rw [hp] at hw
          have HP := hidOf hp
          clear hp
          go_wp2_with fail
          refine hw.mono ?_
          clear hw
          rintro e w1 ⟨rfl, b1⟩
          go_wp2
          exact ⟨⟨j + 1, by omega, by simp, KA.out.2.trans (b1.mono KA.out.2.size), fun i hi => by
            by_cases e : i = j
            · rw [e]; exact HP.out
            · exact KA.out.1 i (by omega)⟩, by simp [intOf]; omega⟩
    · have : j = n := by omega
      subst this
      have hd : decide ((j : Int) < (j : Int)) = false := by simp
      have KA : Hid (∀ i, i < j → f i = false) := hall
      clear hs hall
      go_wp2
      go_ret
      exact ⟨⟨_, rfl, .inl ⟨rfl, KA.out⟩⟩, hbl⟩
theorem idxSeHas (w : World) (a : Option Addr) (cap rb : Nat) (xs : List S5) (p : S5 → Bool) (hn : xs.length ≤ maxLen) (hs : tx.Sl w w.heap.size a xs.length xs) (hf : ∀ (X : World) (i : Nat), Below w.heap.size w X → i < xs.length → Calls Tryz.prog 136 #[.agg #[.int .i64 (tx.atSe xs i).region, .int .i64 (tx.atSe xs i).slot, .int .i64 (tx.atSe xs i).value, .bool (tx.atSe xs i).used, .int .i64 (tx.atSe xs i).version], .pointer (some ⟨rb, 0, none⟩)] X fun e w' => e = .returned (.bool (!p (tx.atSe xs i))) ∧ Below X.heap.size X w') :
    Calls Tryz.prog 139 #[.slice a xs.length cap, .func (.func 136) #[] #[.pointer (some ⟨rb, 0, none⟩)]] w fun e w' => e = .returned (.bool (!xs.all p)) ∧ Below w.heap.size w w' := by
  have hi := idxSe w a cap rb xs (fun i => !p (tx.atSe xs i)) hn hs hf
  have hV : (!((List.range xs.length).all fun j => !(fun i => !p (tx.atSe xs i)) j)) = !xs.all p := by
    congr 1
    rw [Bool.eq_iff_iff, List.all_eq_true, List.all_eq_true]
    constructor
    · intro h x hx
      obtain ⟨i, hi, rfl⟩ := List.getElem_of_mem hx
      have := h i (List.mem_range.2 hi)
      have e : tx.atSe xs i = xs[i] := by have := tx.atSe_of hi; rw [List.getElem?_eq_getElem hi] at this; exact (Option.some.inj this).symm
      simpa [e] using this
    · intro h i hi
      have hi' := List.mem_range.1 hi
      simpa using h _ (List.mem_of_getElem? (tx.atSe_of hi'))
  obtain ⟨V, hVV⟩ : ∃ V, (!xs.all p) = V := ⟨_, rfl⟩
  rw [hVV]
  rw [hVV] at hV
  clear hs hf hVV
  go_enter Tryz.func139, Tryz.ntmps139
  go_wp2_with fail
  refine hi.mono ?_
  clear hi
  rintro e w1 ⟨⟨i, rfl, hb0⟩, b1⟩
  have hb := first_has hb0
  rw [hV] at hb
  clear hb0 hV
  go_wp2
  go_ret
  exact ⟨rfl, b1⟩
def NamB (t : tx.T7) (n : Nat) : Prop := (∀ m ∈ t.reads, 0 ≤ m.region ∧ m.region < (n : Int) ∧ 0 ≤ m.slot ∧ m.slot < 6) ∧ ∀ m ∈ t.sets, 0 ≤ m.region ∧ m.region < (n : Int) ∧ 0 ≤ m.slot ∧ m.slot < 6
set_option maxRecDepth 100000 in
set_option maxHeartbeats 4000000 in
theorem fits_any (w : World) (base b n : Nat) (g : Nat → Nat) (css : List (List C2)) (hR : Rep w base b n g css) (v : tx.TV) (t : tx.T7) (hl : tx.TL t) (hs : tx.SlT w v t) (hN : NamB t css.length) :
    Calls Tryz.prog 84 #[.slice (some ⟨b, 0, none⟩) n n, .agg #[.int .i64 (t).id, .int .i64 (t).home, .int .i64 (t).phase, .int .i64 (t).count, .slice (v).ar (t).reads.length (v).cr, .slice (v).ah (t).sets.length (v).ch, .int .i64 (t).stamp]] w fun e w' => e = .returned (.bool (t.reads.all (rdOk css) && t.sets.all (stOk css))) ∧ Below w.heap.size w w' := by
  obtain ⟨U0, hU0⟩ : ∃ Y, Y = w.alloc (.cells #[.slice (some ⟨b, 0, none⟩) n n] 68) := ⟨_, rfl⟩
  have bU0 : Below w.heap.size w U0 := by rw [hU0]; exact (Below.refl _ _).alloc (Nat.le_refl _) _
  have xU0 : Bx U0 w.heap.size [.slice (some ⟨b, 0, none⟩) n n] := by rw [hU0]; exact Bx.made w [.slice (some ⟨b, 0, none⟩) n n] _
  have sU0 : U0.heap.size = w.heap.size + 1 := by rw [hU0]; simp
  obtain ⟨U1, hU1⟩ : ∃ Y, Y = U0.alloc (.cells #[.int .i64 (t).id, .int .i64 (t).home, .int .i64 (t).phase, .int .i64 (t).count, .slice (v).ar (t).reads.length (v).cr, .slice (v).ah (t).sets.length (v).ch, .int .i64 (t).stamp] 55) := ⟨_, rfl⟩
  have bU1 : Below U0.heap.size U0 U1 := by rw [hU1]; exact (Below.refl _ _).alloc (Nat.le_refl _) _
  have xU1 : Bx U1 U0.heap.size [.int .i64 (t).id, .int .i64 (t).home, .int .i64 (t).phase, .int .i64 (t).count, .slice (v).ar (t).reads.length (v).cr, .slice (v).ah (t).sets.length (v).ch, .int .i64 (t).stamp] := by rw [hU1]; exact Bx.made U0 [.int .i64 (t).id, .int .i64 (t).home, .int .i64 (t).phase, .int .i64 (t).count, .slice (v).ar (t).reads.length (v).cr, .slice (v).ah (t).sets.length (v).ch, .int .i64 (t).stamp] _
  have sU1 : U1.heap.size = U0.heap.size + 1 := by rw [hU1]; simp
  have hU : U1 = (w.alloc (.cells #[.slice (some ⟨b, 0, none⟩) n n] 68)).alloc (.cells #[.int .i64 (t).id, .int .i64 (t).home, .int .i64 (t).phase, .int .i64 (t).count, .slice (v).ar (t).reads.length (v).cr, .slice (v).ah (t).sets.length (v).ch, .int .i64 (t).stamp] 55) := by rw [hU1, hU0]
  have bU : Below w.heap.size w U1 := bstep bU0 bU1
  have x0 := xU0.later bU1
  rw [sU0] at xU1
  have HR : Hid (Rep U1 base b n g css ∧ tx.TL t ∧ tx.SlT U1 v t ∧ NamB t css.length ∧ Below w.heap.size w U1) := ⟨hR.later bU, hl, hs.later bU, hN, bU⟩
  have XT : Hid (Bx U1 (w.heap.size + 1) [.int .i64 (t).id, .int .i64 (t).home, .int .i64 (t).phase, .int .i64 (t).count, .slice (v).ar (t).reads.length (v).cr, .slice (v).ah (t).sets.length (v).ch, .int .i64 (t).stamp]) := xU1
  have XR : Hid (U1.cell? ⟨w.heap.size, 0, none⟩ = some (.slice (some ⟨b, 0, none⟩) n n) ∧ w.heap.size < U1.heap.size) := ⟨x0.1 0 _ rfl, x0.2.2⟩
  have cR := idxNoHas U1 v.ar v.cr w.heap.size t.reads (rdOk css) hl.r HR.out.2.2.1.r (fun X i hX hi => by
    have hm := hN.1 _ (List.mem_of_getElem? (tx.atNo_of hi))
    have := misread_any X base b n w.heap.size g css (HR.out.1.later hX) (Nat.lt_of_lt_of_le XR.out.2 hX.size) ((hX.cell (p := ⟨w.heap.size, 0, none⟩) XR.out.2).trans XR.out.1) (tx.atNo t.reads i).region.toNat (tx.atNo t.reads i).slot.toNat (tx.atNo t.reads i).version (tx.atNo t.reads i).value (tx.atNo t.reads i).used (by omega) (by omega)
    rw [Int.toNat_of_nonneg hm.1, Int.toNat_of_nonneg hm.2.2.1] at this
    exact this)
  have cS : ∀ W, Below U1.heap.size U1 W → Calls Tryz.prog 139 #[.slice v.ah t.sets.length v.ch, .func (.func 136) #[] #[.pointer (some ⟨w.heap.size, 0, none⟩)]] W fun e w' => e = .returned (.bool (!t.sets.all (stOk css))) ∧ Below W.heap.size W w' := fun W hW => idxSeHas W v.ah v.ch w.heap.size t.sets (stOk css) hl.s (HR.out.2.2.1.later hW).s (fun X i hX hi => by
    have hm := hN.2 _ (List.mem_of_getElem? (tx.atSe_of hi))
    have hX' := bstep hW hX
    have := misset_any X base b n w.heap.size g css (HR.out.1.later hX') (Nat.lt_of_lt_of_le XR.out.2 hX'.size) ((hX'.cell (p := ⟨w.heap.size, 0, none⟩) XR.out.2).trans XR.out.1) (tx.atSe t.sets i).region.toNat (tx.atSe t.sets i).slot.toNat (tx.atSe t.sets i).version (tx.atSe t.sets i).value (tx.atSe t.sets i).used (by omega) (by omega)
    rw [Int.toNat_of_nonneg hm.1, Int.toNat_of_nonneg hm.2.2.1] at this
    exact this)
  have CS := hidOf cS
  have p4 := xU1.1 4 _ rfl
  have q5 : Hid (U1.cell? ⟨w.heap.size + 1, 5, none⟩ = some (.slice v.ah t.sets.length v.ch)) := xU1.1 5 _ rfl
  rw [hU] at p4
  clear hU0 hU1 bU0 bU1 bU xU0 xU1 sU0 sU1 x0 hR hl hs hN cS
  obtain ⟨rB, hrB⟩ : ∃ z, t.reads.all (rdOk css) = z := ⟨_, rfl⟩
  obtain ⟨sB, hsB⟩ : ∃ z, t.sets.all (stOk css) = z := ⟨_, rfl⟩
  rw [hrB] at cR
  rw [hsB] at CS
  rw [hrB, hsB]
  clear hrB hsB
  clear U0
  go_enter Tryz.func84, Tryz.ntmps84
  go_wp2_with fail
  rw [← hU]
  clear hU p4
  refine cR.mono ?_
  clear cR
  rintro e W1 ⟨rfl, b1⟩
  have B1 : Hid (Below U1.heap.size U1 W1) := b1
  have cS := CS.out W1 b1
  have p5 := (b1.cell (p := ⟨w.heap.size + 1, 5, none⟩) XT.out.2.2).trans q5.out
  clear b1
  cases rB with
  | false =>
    go_wp2
    go_ret
    exact ⟨rfl, bstep HR.out.2.2.2.2 B1.out⟩
  | true =>
    go_wp2_with fail
    refine cS.mono ?_
    clear cS
    rintro e W2 ⟨rfl, b2⟩
    have B2 : Hid (Below w.heap.size w W2) := bstep HR.out.2.2.2.2 (bstep B1.out b2)
    clear b2
    cases sB
    all_goals
      go_wp2
      go_ret
      exact ⟨rfl, B2.out⟩
theorem run_clear_els {P : Program} (w : World) (t e ty : TypeId) (z : Value) (ht : P.underlying t = some (.slice e)) (hv : ∀ w, (zeroValue e).run P w = .ok z w) (h0 : 0 < z.cells.size) (h1 : ∀ u ∈ z.cells, u.oneCell' = true) (b o n c : Nat) (hn : 0 < n)
    (hc : ∀ j, j < n * z.cells.size → (w.cell? ⟨b, o + j, none⟩).isSome = true) (hf : ∀ j, j < n * z.cells.size → w.frozen? ⟨b, o + j, none⟩ = false) :
    (Builtin.clear_ #[t] ty #[.slice (some ⟨b, o, none⟩) n c]).run P w = .ok (.tuple #[]) (w.setCells b o (Builtin.zeroCells z.cells n).toList) := by
  have hl : (Builtin.zeroCells z.cells n).toList.length = n * z.cells.size := by simp [Builtin.zeroCells]
  have hst := run_storeCells_cells (P := P) b o (Builtin.zeroCells z.cells n).toList 0 w (by rw [hl]; simpa using hc) (by rw [hl]; simpa using hf) (by
    intro v hv'
    simp only [Builtin.zeroCells, Array.toList_map, List.mem_map] at hv'
    obtain ⟨i, _, rfl⟩ := hv'
    have hi : i % z.cells.size < z.cells.size := Nat.mod_lt _ h0
    rw [getElem!_pos z.cells _ hi]
    exact h1 _ (Array.getElem_mem hi))
  simp only [Nat.add_zero] at hst
  obtain ⟨m, rfl⟩ : ∃ m, n = m + 1 := ⟨n - 1, by omega⟩
  simp [Builtin.clear_, run_underlying ht, hv, hst]
theorem zeroCel : ∀ w : World, (zeroValue 75).run Tryz.prog w = .ok (.agg #[.int .i64 0, .int .i64 0]) w := fun _ => by kernel_rfl
theorem zero_two : (Builtin.zeroCells (Value.cells (.agg #[.int .i64 0, .int .i64 0])) 1).toList = [.int .i64 0, .int .i64 0] := by kernel_rfl
theorem slice_six (s n : Nat) (hn : n < 6) (W : World) : (Instr.sliceAt 214 (.pointer (some ⟨s, 0, none⟩)) (some (.int .i64 (n : Int))) (some (.int .i64 ((n : Int) + 1))) none).run Tryz.prog W = .ok (.slice (some ⟨s, n * 2, none⟩) 1 (6 - n)) W := by
  rcases n with _ | _ | _ | _ | _ | _ | n
  all_goals first | omega | kernel_rfl
theorem flat_w0 {cur : List C2} (h6 : cur.length = 6) {n : Nat} (hn : n < 6) (h : Int) : (((cur.flatMap C2.cells).set (n * 2) (.int .i64 0)).set (n * 2 + 1) (.int .i64 0)).set (n * 2) (.int .i64 h) = (cur.set n ⟨h, 0⟩).flatMap C2.cells := by
  obtain ⟨a, b, c, d, e, f, rfl⟩ := six_of h6
  rcases n with _ | _ | _ | _ | _ | _ | n
  all_goals first | rfl | omega
theorem flat_w1 {cur : List C2} (h6 : cur.length = 6) {n : Nat} (hn : n < 6) (h v : Int) : ((((cur.flatMap C2.cells).set (n * 2) (.int .i64 0)).set (n * 2 + 1) (.int .i64 0)).set (n * 2) (.int .i64 h)).set (n * 2 + 1) (.int .i64 v) = (cur.set n ⟨h, v⟩).flatMap C2.cells := by
  obtain ⟨a, b, c, d, e, f, rfl⟩ := six_of h6
  rcases n with _ | _ | _ | _ | _ | _ | n
  all_goals first | rfl | omega
theorem ins_six {xs : List C2} (ss : List S5) (h : xs.length = 6) : (ss.foldl insC xs).length = 6 := by
  induction ss generalizing xs with
  | nil => exact h
  | cons s ss ih => exact ih (by rw [insC_len]; exact h)
set_option maxRecDepth 100000 in
set_option maxHeartbeats 8000000 in
theorem installed_any (w : World) (xs : List C2) (b : Option Addr) (m cap2 : Nat) (ss : List S5) (hx6 : xs.length = 6) (hm : m ≤ maxLen) (h2 : Sl w w.heap.size b m ss) (hss : ∀ s ∈ ss, setOkB s = true) :
    Calls Tryz.prog 177 #[.agg (arr6 xs), .slice b m cap2] w fun e w' => e = .returned (.agg (arr6 (ss.foldl insC xs))) ∧ Below w.heap.size w w' := by
  unfold maxLen at hm
  obtain ⟨u0, u1, u2, u3, u4, u5, hu⟩ := six_of hx6
  have hA : arr6 xs = #[.int .i64 u0.head, .int .i64 u0.value, .int .i64 u1.head, .int .i64 u1.value, .int .i64 u2.head, .int .i64 u2.value, .int .i64 u3.head, .int .i64 u3.value, .int .i64 u4.head, .int .i64 u4.value, .int .i64 u5.head, .int .i64 u5.value] := by rw [hu]; rfl
  have hL : xs.flatMap C2.cells = [.int .i64 u0.head, .int .i64 u0.value, .int .i64 u1.head, .int .i64 u1.value, .int .i64 u2.head, .int .i64 u2.value, .int .i64 u3.head, .int .i64 u3.value, .int .i64 u4.head, .int .i64 u4.value, .int .i64 u5.head, .int .i64 u5.value] := by rw [hu]; rfl
  rw [hA]
  obtain ⟨U, hU⟩ : ∃ Y, Y = (w.alloc (.cells #[.int .i64 u0.head, .int .i64 u0.value, .int .i64 u1.head, .int .i64 u1.value, .int .i64 u2.head, .int .i64 u2.value, .int .i64 u3.head, .int .i64 u3.value, .int .i64 u4.head, .int .i64 u4.value, .int .i64 u5.head, .int .i64 u5.value] 214)).alloc (.cells #[.int .i64 0, .int .i64 0, .int .i64 0, .int .i64 0, .int .i64 0, .int .i64 0, .int .i64 0, .int .i64 0, .int .i64 0, .int .i64 0, .int .i64 0, .int .i64 0] 214) := ⟨_, rfl⟩
  obtain ⟨U0, hU0⟩ : ∃ Y, Y = w.alloc (.cells #[.int .i64 u0.head, .int .i64 u0.value, .int .i64 u1.head, .int .i64 u1.value, .int .i64 u2.head, .int .i64 u2.value, .int .i64 u3.head, .int .i64 u3.value, .int .i64 u4.head, .int .i64 u4.value, .int .i64 u5.head, .int .i64 u5.value] 214) := ⟨_, rfl⟩
  have b0 : Below w.heap.size w U0 := by rw [hU0]; exact (Below.refl _ _).alloc (Nat.le_refl _) _
  have z0 : U0.heap.size = w.heap.size + 1 := by rw [hU0]; simp
  have x0 : Bx U0 w.heap.size (xs.flatMap C2.cells) := by rw [hU0, hL]; exact Bx.made w [.int .i64 u0.head, .int .i64 u0.value, .int .i64 u1.head, .int .i64 u1.value, .int .i64 u2.head, .int .i64 u2.value, .int .i64 u3.head, .int .i64 u3.value, .int .i64 u4.head, .int .i64 u4.value, .int .i64 u5.head, .int .i64 u5.value] _
  have hU1 : U = U0.alloc (.cells #[.int .i64 0, .int .i64 0, .int .i64 0, .int .i64 0, .int .i64 0, .int .i64 0, .int .i64 0, .int .i64 0, .int .i64 0, .int .i64 0, .int .i64 0, .int .i64 0] 214) := by rw [hU, hU0]
  have b1 : Below U0.heap.size U0 U := by rw [hU1]; exact (Below.refl _ _).alloc (Nat.le_refl _) _
  have x1 : Bx U (w.heap.size + 1) [.int .i64 0, .int .i64 0, .int .i64 0, .int .i64 0, .int .i64 0, .int .i64 0, .int .i64 0, .int .i64 0, .int .i64 0, .int .i64 0, .int .i64 0, .int .i64 0] := by
    have := Bx.made U0 [.int .i64 0, .int .i64 0, .int .i64 0, .int .i64 0, .int .i64 0, .int .i64 0, .int .i64 0, .int .i64 0, .int .i64 0, .int .i64 0, .int .i64 0, .int .i64 0] 214
    rw [z0] at this
    rw [hU1]; exact this
  have KU : Hid (Bx U w.heap.size (xs.flatMap C2.cells) ∧ Bx U (w.heap.size + 1) [.int .i64 0, .int .i64 0, .int .i64 0, .int .i64 0, .int .i64 0, .int .i64 0, .int .i64 0, .int .i64 0, .int .i64 0, .int .i64 0, .int .i64 0, .int .i64 0] ∧ Below w.heap.size w U) := ⟨x0.later b1, x1, bstep b0 b1⟩
  have HS : Hid (∀ s ∈ ss, setOkB s = true) := hss
  have H6 : Hid (xs.length = 6) := hx6
  obtain ⟨hml, h2⟩ := h2
  have HML := hidOf hml
  clear hu hA hL b0 z0 x0 hU1 b1 x1 hU0 hss hx6 hml
  go_enter Tryz.func177, Tryz.ntmps177
  go_wp2
  rw [← hU]
  clear hU
  go_loopw [10] (fun v wr => ∃ j : Nat, j ≤ m ∧ v = .int .i64 j ∧ Bx wr w.heap.size (((ss.take j).foldl insC xs).flatMap C2.cells) ∧ Bx wr (w.heap.size + 1) [.int .i64 0, .int .i64 0, .int .i64 0, .int .i64 0, .int .i64 0, .int .i64 0, .int .i64 0, .int .i64 0, .int .i64 0, .int .i64 0, .int .i64 0, .int .i64 0] ∧ Below w.heap.size w wr) (fun v _ => m - (intOf v).toNat)
  case atStart => exact ⟨0, Nat.zero_le _, rfl, KU.out⟩
  case round =>
    obtain ⟨j, hj, rfl, hx, hz, hbl⟩ := hrel
    have KD : Hid (Bx wr w.heap.size (((ss.take j).foldl insC xs).flatMap C2.cells) ∧ Bx wr (w.heap.size + 1) [.int .i64 0, .int .i64 0, .int .i64 0, .int .i64 0, .int .i64 0, .int .i64 0, .int .i64 0, .int .i64 0, .int .i64 0, .int .i64 0, .int .i64 0, .int .i64 0] ∧ Below w.heap.size w wr) := ⟨hx, hz, hbl⟩
    clear hx hz hbl
    by_cases hlt : j < m
    · rcases h2 with h2 | ⟨nb, no, rfl, hnb, hns⟩
      · omega
      have hjl : j < ss.length := by rw [HML.out]; exact hlt
      have hnt := (hns j _ (at5_of hjl)).below KD.out.2.2 hnb
      have hok := HS.out _ (List.mem_of_getElem? (at5_of hjl))
      have htk : ((ss.take (j + 1)).foldl insC xs) = insC ((ss.take j).foldl insC xs) (at5 ss j) := by rw [List.take_add_one, at5_of hjl, List.foldl_append]; rfl
      have h6 := ins_six (ss.take j) H6.out
      obtain ⟨st, hste⟩ : ∃ st, at5 ss j = st := ⟨_, rfl⟩
      obtain ⟨cur, hcur⟩ : ∃ c, ((ss.take j).foldl insC xs) = c := ⟨_, rfl⟩
      rw [hste] at hnt hok htk
      rw [hcur] at htk h6 KD
      simp only [setOkB, Bool.and_eq_true, inB_iff] at hok
      obtain ⟨sn, hsn⟩ := Int.eq_ofNat_of_zero_le hok.1.1.2.1
      have sn6 : sn < 6 := by omega
      have d0 := hnt.c0
      have d1 := hnt.c1
      have d2 := hnt.c2
      have d3 := hnt.c3
      have d4 := hnt.c4
      rw [hsn] at d1
      obtain ⟨X1, hX1⟩ : ∃ Y, Y = wr.alloc (.cells #[.int .i64 st.region, .int .i64 (sn : Int), .int .i64 st.value, .bool st.used, .int .i64 st.version] 106) := ⟨_, rfl⟩
      have bX1 : Below wr.heap.size wr X1 := by rw [hX1]; exact (Below.refl _ _).alloc (Nat.le_refl _) _
      have XS : Hid (Bx X1 wr.heap.size [.int .i64 st.region, .int .i64 (sn : Int), .int .i64 st.value, .bool st.used, .int .i64 st.version]) := by unfold Hid; rw [hX1]; exact Bx.made wr [.int .i64 st.region, .int .i64 (sn : Int), .int .i64 st.value, .bool st.used, .int .i64 st.version] _
      have XC : Hid (Bx X1 w.heap.size (cur.flatMap C2.cells) ∧ Bx X1 (w.heap.size + 1) [.int .i64 0, .int .i64 0, .int .i64 0, .int .i64 0, .int .i64 0, .int .i64 0, .int .i64 0, .int .i64 0, .int .i64 0, .int .i64 0, .int .i64 0, .int .i64 0] ∧ Below w.heap.size w X1 ∧ cur.length = 6 ∧ wr.heap.size ≠ w.heap.size ∧ wr.heap.size ≠ w.heap.size + 1) := ⟨KD.out.1.later bX1, KD.out.2.1.later bX1, bstep KD.out.2.2 bX1, h6, by have := KD.out.1.2.2; omega, by have := KD.out.2.1.2.2; omega⟩
      have HTK : Hid (((ss.take (j + 1)).foldl insC xs) = insC cur st) := htk
      have HSN : Hid (st.slot = (sn : Int) ∧ 0 ≤ st.version ∧ st.version ≤ 999999) := ⟨hsn, hok.2.1, hok.2.2⟩
      have jm : (j : Int) < (m : Int) := by omega
      have s1 : (sn : Int) + 1 ≤ 6 := by omega
      have hwq : IntKind.i64.wrap ((sn : Int) + 1) = (sn : Int) + 1 := by rw [IntKind.wrap_i64]; omega
      clear hnt hok htk h6 hste hcur bX1 hsn
      go_upto_region 4 with fail
      rw [← hX1]
      clear hX1 d0 d1 d2 d3 d4
      generalize wr.heap.size = sS at *
      have q1 := XS.out.1 1 _ rfl
      have hsl := slice_six w.heap.size sn sn6
      go_upto_region 5 with fail
      clear hsl q1
      have hcx := XC.out.1.1 (sn * 2) (.int .i64 (atC2 cur sn).head) (by have := flat2 cur sn _ 0 (atC2_of (by rw [XC.out.2.2.2.1]; exact sn6)) (by omega); rw [Nat.add_zero] at this; rw [this]; rfl)
      have n0 : ∀ dd os, (grow (redrawn X1 dd) os).cell? ⟨w.heap.size, sn * 2, none⟩ = some (.int .i64 (atC2 cur sn).head) := fun dd os => ((below_regrown X1 dd os).cell (p := ⟨w.heap.size, sn * 2, none⟩) XC.out.1.2.2).trans hcx
      have n4 : ∀ dd os, (grow (redrawn X1 dd) os).cell? ⟨sS, 4, none⟩ = some (.int .i64 st.version) := fun dd os => (XS.out.later (below_regrown X1 dd os)).1 4 _ rfl
      have cQ1 : ∀ dd os, Calls Tryz.prog 203 #[.int .i64 (atC2 cur sn).head] (grow (redrawn X1 dd) os) fun e w'' => e = .returned (.int .i64 (verV (atC2 cur sn).head)) ∧ ∃ p : Regrown, w'' = grow (redrawn X1 p.d) p.os := fun dd os => (implVersion_any (atC2 cur sn).head (grow (redrawn X1 dd) os)).mono fun e w'' h => ⟨h.1, ⟨⟨dd, os⟩, h.2⟩⟩
      have HIN : Hid (insC cur st = if st.version < verV (atC2 cur sn).head then cur else cur.set sn ⟨hdV (st.version + 1) st.used, if st.used = true then st.value else 0⟩) := by unfold Hid insC; rw [HSN.out.1]; rfl
      clear hcx
      generalize verV (atC2 cur sn).head = vv at *
      generalize (atC2 cur sn).head = hd0 at *
      cases hv : decide (st.version < vv) with
      | true =>
        have hv' : st.version < vv := by simpa using hv
        have HI : Hid (insC cur st = cur) := by unfold Hid; rw [HIN.out, if_pos hv']
        clear hv HIN
        go_wp2_with fail
        refine wp_region_quiet_below (by kernel_rfl) (by kernel_rfl) ?_
        repeat (go_big_quiet_step (exact cQ1 _ _))
        refine wpQuiet_nil ?_
        intro _ hw'
        obtain ⟨⟨dq, osq⟩, hw''⟩ := hw'
        subst hw''
        have BN : Hid (Below X1.heap.size X1 (grow (redrawn X1 dq) osq)) := below_regrown X1 dq osq
        clear n0 n4 cQ1
        generalize grow (redrawn X1 dq) osq = WN at *
        have XN : Hid (Bx WN w.heap.size (((ss.take (j + 1)).foldl insC xs).flatMap C2.cells) ∧ Bx WN (w.heap.size + 1) [.int .i64 0, .int .i64 0, .int .i64 0, .int .i64 0, .int .i64 0, .int .i64 0, .int .i64 0, .int .i64 0, .int .i64 0, .int .i64 0, .int .i64 0, .int .i64 0] ∧ Below w.heap.size w WN) := by
          unfold Hid
          rw [HTK.out, HI.out]
          exact ⟨XC.out.1.later BN.out, XC.out.2.1.later BN.out, bstep XC.out.2.2.1 BN.out⟩
        go_wp2
        exact ⟨⟨j + 1, by omega, by simp, XN.out⟩, by simp [intOf]; omega⟩
      | false =>
        have hv' : ¬ st.version < vv := by simpa using hv
        have HI : Hid (insC cur st = cur.set sn ⟨hdV (st.version + 1) st.used, if st.used = true then st.value else 0⟩) := by unfold Hid; rw [HIN.out, if_neg hv']
        clear HIN
        go_wp2_with fail
        refine wp_region_quiet_below (by kernel_rfl) (by kernel_rfl) ?_
        repeat (go_big_quiet_step (exact cQ1 _ _))
        refine wpQuiet_nil ?_
        intro _ hw'
        obtain ⟨⟨dq, osq⟩, hw''⟩ := hw'
        subst hw''
        have BN : Hid (Below X1.heap.size X1 (grow (redrawn X1 dq) osq)) := below_regrown X1 dq osq
        clear n0 n4 cQ1
        generalize grow (redrawn X1 dq) osq = WN at *
        have XW : Bx WN w.heap.size (cur.flatMap C2.cells) := XC.out.1.later BN.out
        have hfl : (cur.flatMap C2.cells).length = 12 := by rw [flat2_len, XC.out.2.2.2.1]
        have hcl := fun ty => run_clear_els (P := Tryz.prog) WN 42 75 ty _ Tryz.underlying42 zeroCel (by decide) (by decide) w.heap.size (sn * 2) 1 (6 - sn) (by omega) (fun i hi => by
          have hi' : i < 2 := by simpa [Value.cells] using hi
          have := XW.1 (sn * 2 + i) _ (List.getElem?_eq_getElem (by rw [hfl]; omega))
          rw [this]; rfl) (fun i _ => XW.2.1 _)
        have hz2 := zero_two
        simp only [hz2] at hcl
        obtain ⟨W3, hW3⟩ : ∃ Y, Y = WN.setCells w.heap.size (sn * 2) [.int .i64 0, .int .i64 0] := ⟨_, rfl⟩
        have e3 : W3 = (WN.setCell ⟨w.heap.size, sn * 2, none⟩ (.int .i64 0)).setCell ⟨w.heap.size, sn * 2 + 1, none⟩ (.int .i64 0) := by rw [hW3]; rfl
        rw [← hW3] at hcl
        have XA : Hid (Bx W3 w.heap.size (((cur.flatMap C2.cells).set (sn * 2) (.int .i64 0)).set (sn * 2 + 1) (.int .i64 0))) := by
          unfold Hid
          rw [e3]
          exact (XW.set (by rw [hfl]; omega) _).set (by rw [List.length_set, hfl]; omega) _
        have X3 : Hid (Bx W3 sS [.int .i64 st.region, .int .i64 (sn : Int), .int .i64 st.value, .bool st.used, .int .i64 st.version] ∧ Bx W3 (w.heap.size + 1) [.int .i64 0, .int .i64 0, .int .i64 0, .int .i64 0, .int .i64 0, .int .i64 0, .int .i64 0, .int .i64 0, .int .i64 0, .int .i64 0, .int .i64 0, .int .i64 0] ∧ Below w.heap.size w W3) := by
          unfold Hid
          rw [e3]
          exact ⟨((XS.out.later BN.out).far XC.out.2.2.2.2.1 _).far XC.out.2.2.2.2.1 _, ((XC.out.2.1.later BN.out).far (by omega) _).far (by omega) _, ((bstep XC.out.2.2.1 BN.out).setCell (p := ⟨w.heap.size, sn * 2, none⟩) (Nat.le_refl _) _).setCell (p := ⟨w.heap.size, sn * 2 + 1, none⟩) (Nat.le_refl _) _⟩
        have HFL := hidOf hfl
        clear XW hfl hz2 hW3 e3
        have q3 := X3.out.1.1 3 _ rfl
        have q4 := X3.out.1.1 4 _ rfl
        have hpk := implPack_val W3 (st.version + 1) st.used (by have := HSN.out.2.1; omega) (by have := HSN.out.2.2; omega)
        have hvb := HSN.out.2
        go_wp2_with fail
        refine hpk.mono ?_
        clear hpk hcl
        rintro e W4 ⟨rfl, rfl⟩
        have y0 := XA.out.1 (sn * 2) _ (List.getElem?_eq_getElem (by rw [List.length_set, List.length_set, HFL.out]; omega))
        have f0 := XA.out.2.1 (sn * 2)
        obtain ⟨W5, hW5⟩ : ∃ Y, Y = W4.setCell ⟨w.heap.size, sn * 2, none⟩ (.int .i64 (hdV (st.version + 1) st.used)) := ⟨_, rfl⟩
        have XA5 : Hid (Bx W5 w.heap.size ((((cur.flatMap C2.cells).set (sn * 2) (.int .i64 0)).set (sn * 2 + 1) (.int .i64 0)).set (sn * 2) (.int .i64 (hdV (st.version + 1) st.used)))) := by
          unfold Hid
          rw [hW5]
          exact XA.out.set (by rw [List.length_set, List.length_set, HFL.out]; omega) _
        have X5 : Hid (Bx W5 sS [.int .i64 st.region, .int .i64 (sn : Int), .int .i64 st.value, .bool st.used, .int .i64 st.version] ∧ Bx W5 (w.heap.size + 1) [.int .i64 0, .int .i64 0, .int .i64 0, .int .i64 0, .int .i64 0, .int .i64 0, .int .i64 0, .int .i64 0, .int .i64 0, .int .i64 0, .int .i64 0, .int .i64 0] ∧ Below w.heap.size w W5) := by
          unfold Hid
          rw [hW5]
          exact ⟨X3.out.1.far XC.out.2.2.2.2.1 _, X3.out.2.1.far (by omega) _, X3.out.2.2.setCell (p := ⟨w.heap.size, sn * 2, none⟩) (Nat.le_refl _) _⟩
        generalize hdV (st.version + 1) st.used = hn at *
        go_upto_region 8 with fail
        rw [← hW5]
        clear hW5 y0 f0 q3 q4 hvb
        have r2 := X5.out.1.1 2 _ rfl
        have r3 := X5.out.1.1 3 _ rfl
        cases hus : st.used with
        | false =>
          rw [hus] at r3
          have XN : Hid (Bx W5 w.heap.size (((ss.take (j + 1)).foldl insC xs).flatMap C2.cells) ∧ Bx W5 (w.heap.size + 1) [.int .i64 0, .int .i64 0, .int .i64 0, .int .i64 0, .int .i64 0, .int .i64 0, .int .i64 0, .int .i64 0, .int .i64 0, .int .i64 0, .int .i64 0, .int .i64 0] ∧ Below w.heap.size w W5) := by
            have h1 := XA5.out
            rw [flat_w0 XC.out.2.2.2.1 sn6] at h1
            unfold Hid
            rw [HTK.out, HI.out, hus]
            exact ⟨h1, X5.out.2⟩
          clear hus r2
          go_wp2
          exact ⟨⟨j + 1, by omega, by simp, XN.out⟩, by simp [intOf]; omega⟩
        | true =>
          rw [hus] at r3
          have y1 := XA5.out.1 (sn * 2 + 1) _ (List.getElem?_eq_getElem (by rw [List.length_set, List.length_set, List.length_set, HFL.out]; omega))
          have f1 := XA5.out.2.1 (sn * 2 + 1)
          have XN : Hid (Bx (W5.setCell ⟨w.heap.size, sn * 2 + 1, none⟩ (.int .i64 st.value)) w.heap.size (((ss.take (j + 1)).foldl insC xs).flatMap C2.cells) ∧ Bx (W5.setCell ⟨w.heap.size, sn * 2 + 1, none⟩ (.int .i64 st.value)) (w.heap.size + 1) [.int .i64 0, .int .i64 0, .int .i64 0, .int .i64 0, .int .i64 0, .int .i64 0, .int .i64 0, .int .i64 0, .int .i64 0, .int .i64 0, .int .i64 0, .int .i64 0] ∧ Below w.heap.size w (W5.setCell ⟨w.heap.size, sn * 2 + 1, none⟩ (.int .i64 st.value))) := by
            have h1 := XA5.out.set (i := sn * 2 + 1) (by rw [List.length_set, List.length_set, List.length_set, HFL.out]; omega) (.int .i64 st.value)
            rw [flat_w1 XC.out.2.2.2.1 sn6] at h1
            unfold Hid
            rw [HTK.out, HI.out, hus]
            exact ⟨h1, X5.out.2.1.far (by omega) _, X5.out.2.2.setCell (p := ⟨w.heap.size, sn * 2 + 1, none⟩) (Nat.le_refl _) _⟩
          clear hus
          go_wp2
          exact ⟨⟨j + 1, by omega, by simp, XN.out⟩, by simp [intOf]; omega⟩
    · obtain rfl : j = m := by omega
      have hd : decide ((j : Int) < (j : Int)) = false := by simp
      have hall : (ss.take j).foldl insC xs = ss.foldl insC xs := by rw [List.take_of_length_le (by rw [HML.out]; exact Nat.le_refl _)]
      rw [hall] at KD
      obtain ⟨v0, v1, v2, v3, v4, v5, hv⟩ := six_of (ins_six ss H6.out)
      have HV : Hid (arr6 (ss.foldl insC xs) = #[.int .i64 v0.head, .int .i64 v0.value, .int .i64 v1.head, .int .i64 v1.value, .int .i64 v2.head, .int .i64 v2.value, .int .i64 v3.head, .int .i64 v3.value, .int .i64 v4.head, .int .i64 v4.value, .int .i64 v5.head, .int .i64 v5.value]) := by unfold Hid; rw [hv]; rfl
      have hL : (ss.foldl insC xs).flatMap C2.cells = [.int .i64 v0.head, .int .i64 v0.value, .int .i64 v1.head, .int .i64 v1.value, .int .i64 v2.head, .int .i64 v2.value, .int .i64 v3.head, .int .i64 v3.value, .int .i64 v4.head, .int .i64 v4.value, .int .i64 v5.head, .int .i64 v5.value] := by rw [hv]; rfl
      rw [hL] at KD
      have KP : Hid (Below w.heap.size w (putB wr (w.heap.size + 1) 0 [.int .i64 v0.head, .int .i64 v0.value, .int .i64 v1.head, .int .i64 v1.value, .int .i64 v2.head, .int .i64 v2.value, .int .i64 v3.head, .int .i64 v3.value, .int .i64 v4.head, .int .i64 v4.value, .int .i64 v5.head, .int .i64 v5.value]) ∧ Bx (putB wr (w.heap.size + 1) 0 [.int .i64 v0.head, .int .i64 v0.value, .int .i64 v1.head, .int .i64 v1.value, .int .i64 v2.head, .int .i64 v2.value, .int .i64 v3.head, .int .i64 v3.value, .int .i64 v4.head, .int .i64 v4.value, .int .i64 v5.head, .int .i64 v5.value]) (w.heap.size + 1) [.int .i64 v0.head, .int .i64 v0.value, .int .i64 v1.head, .int .i64 v1.value, .int .i64 v2.head, .int .i64 v2.value, .int .i64 v3.head, .int .i64 v3.value, .int .i64 v4.head, .int .i64 v4.value, .int .i64 v5.head, .int .i64 v5.value]) := ⟨putB_below (by omega) _ _ _ KD.out.2.2, KD.out.2.1.put _ rfl⟩
      have q0 := KD.out.1.1 0 _ rfl
      have p0 := KD.out.2.1.1 0 _ rfl
      have f0 := KD.out.2.1.2.1 0
      have q1 := KD.out.1.1 1 _ rfl
      have p1 := KD.out.2.1.1 1 _ rfl
      have f1 := KD.out.2.1.2.1 1
      have q2 := KD.out.1.1 2 _ rfl
      have p2 := KD.out.2.1.1 2 _ rfl
      have f2 := KD.out.2.1.2.1 2
      have q3 := KD.out.1.1 3 _ rfl
      have p3 := KD.out.2.1.1 3 _ rfl
      have f3 := KD.out.2.1.2.1 3
      have q4 := KD.out.1.1 4 _ rfl
      have p4 := KD.out.2.1.1 4 _ rfl
      have f4 := KD.out.2.1.2.1 4
      have q5 := KD.out.1.1 5 _ rfl
      have p5 := KD.out.2.1.1 5 _ rfl
      have f5 := KD.out.2.1.2.1 5
      have q6 := KD.out.1.1 6 _ rfl
      have p6 := KD.out.2.1.1 6 _ rfl
      have f6 := KD.out.2.1.2.1 6
      have q7 := KD.out.1.1 7 _ rfl
      have p7 := KD.out.2.1.1 7 _ rfl
      have f7 := KD.out.2.1.2.1 7
      have q8 := KD.out.1.1 8 _ rfl
      have p8 := KD.out.2.1.1 8 _ rfl
      have f8 := KD.out.2.1.2.1 8
      have q9 := KD.out.1.1 9 _ rfl
      have p9 := KD.out.2.1.1 9 _ rfl
      have f9 := KD.out.2.1.2.1 9
      have q10 := KD.out.1.1 10 _ rfl
      have p10 := KD.out.2.1.1 10 _ rfl
      have f10 := KD.out.2.1.2.1 10
      have q11 := KD.out.1.1 11 _ rfl
      have p11 := KD.out.2.1.1 11 _ rfl
      have f11 := KD.out.2.1.2.1 11
      clear hall hv hL
      go_wp2
      obtain ⟨Z, hZ⟩ : ∃ Z, Z = putB wr (w.heap.size + 1) 0 [.int .i64 v0.head, .int .i64 v0.value, .int .i64 v1.head, .int .i64 v1.value, .int .i64 v2.head, .int .i64 v2.value, .int .i64 v3.head, .int .i64 v3.value, .int .i64 v4.head, .int .i64 v4.value, .int .i64 v5.head, .int .i64 v5.value] := ⟨_, rfl⟩
      rw [← hZ] at KP
      simp only [putB, Nat.zero_add, Nat.reduceAdd] at hZ
      rw [← hZ]
      clear hZ
      have r0 := KP.out.2.1 0 _ rfl
      have r1 := KP.out.2.1 1 _ rfl
      have r2 := KP.out.2.1 2 _ rfl
      have r3 := KP.out.2.1 3 _ rfl
      have r4 := KP.out.2.1 4 _ rfl
      have r5 := KP.out.2.1 5 _ rfl
      have r6 := KP.out.2.1 6 _ rfl
      have r7 := KP.out.2.1 7 _ rfl
      have r8 := KP.out.2.1 8 _ rfl
      have r9 := KP.out.2.1 9 _ rfl
      have r10 := KP.out.2.1 10 _ rfl
      have r11 := KP.out.2.1 11 _ rfl
      exact bodyPost_ret (v := .agg #[.int .i64 v0.head, .int .i64 v0.value, .int .i64 v1.head, .int .i64 v1.value, .int .i64 v2.head, .int .i64 v2.value, .int .i64 v3.head, .int .i64 v3.value, .int .i64 v4.head, .int .i64 v4.value, .int .i64 v5.head, .int .i64 v5.value]) (by simp [results, Tryz.results177, go_sem, r0, r1, r2, r3, r4, r5, r6, r7, r8, r9, r10, r11]) rfl ⟨by rw [HV.out], KP.out.1⟩
theorem rise_all {ss : List S5} (h : riseB ss = true) : ∀ s ∈ ss, setOkB s = true := by
  intro s hs
  obtain ⟨i, hi, rfl⟩ := List.getElem_of_mem hs
  have := List.all_eq_true.1 h i (List.mem_range.2 hi)
  simp only [riseAt, Bool.and_eq_true] at this
  have h1 := this.1
  rwa [at5, List.getElem?_eq_getElem hi] at h1
set_option maxRecDepth 100000 in
set_option maxHeartbeats 8000000 in
theorem implInstall_any (w : World) (a : Option Addr) (n cap : Nat) (xs : List C2) (b : Option Addr) (m cap2 : Nat) (ss : List S5) (hn : n ≤ maxLen) (hm : m ≤ maxLen) (hs : SlC w w.heap.size a n xs) (h2 : Sl w w.heap.size b m ss) (hB : cellsB xs = true) (hR : riseB ss = true) :
    Calls Tryz.prog 141 #[.slice a n cap, .slice b m cap2] w fun e w' => ∃ q : Nat, e = .returned (.tuple #[.slice (some ⟨q, 0, none⟩) 6 6, .bool true]) ∧ w.heap.size ≤ q ∧ w'.heap[q]? = some (.cells (arr6 (ss.foldl insC xs)) 75 (0, 0)) ∧ Below w.heap.size w w' := by
  have hx6 : xs.length = 6 := by simp only [cellsB, Bool.and_eq_true, decide_eq_true_eq] at hB; exact hB.1
  obtain ⟨u0, u1, u2, u3, u4, u5, hu⟩ := six_of hx6
  have HU : Hid (arr6 xs = #[.int .i64 u0.head, .int .i64 u0.value, .int .i64 u1.head, .int .i64 u1.value, .int .i64 u2.head, .int .i64 u2.value, .int .i64 u3.head, .int .i64 u3.value, .int .i64 u4.head, .int .i64 u4.value, .int .i64 u5.head, .int .i64 u5.value]) := by unfold Hid; rw [hu]; rfl
  have hc := takeForSets_any w a n cap xs b m cap2 ss hn hm hs h2 hB
  rw [hR] at hc
  have HK : Hid (Sl w w.heap.size b m ss ∧ m ≤ maxLen ∧ xs.length = 6 ∧ ∀ s ∈ ss, setOkB s = true) := ⟨h2, hm, hx6, rise_all hR⟩
  clear hs h2 hB hR hx6 hu hn hm
  go_enter Tryz.func141, Tryz.ntmps141
  go_wp2_with fail
  refine hc.mono ?_
  clear hc
  rintro e W1 ⟨rfl, b1⟩
  rw [HU.out]
  obtain ⟨W2, hW2⟩ : ∃ Y, Y = W1.alloc (.cells #[.int .i64 u0.head, .int .i64 u0.value, .int .i64 u1.head, .int .i64 u1.value, .int .i64 u2.head, .int .i64 u2.value, .int .i64 u3.head, .int .i64 u3.value, .int .i64 u4.head, .int .i64 u4.value, .int .i64 u5.head, .int .i64 u5.value] 214) := ⟨_, rfl⟩
  have b2 : Below W1.heap.size W1 W2 := by rw [hW2]; exact (Below.refl _ _).alloc (Nat.le_refl _) _
  have XB : Bx W2 W1.heap.size [.int .i64 u0.head, .int .i64 u0.value, .int .i64 u1.head, .int .i64 u1.value, .int .i64 u2.head, .int .i64 u2.value, .int .i64 u3.head, .int .i64 u3.value, .int .i64 u4.head, .int .i64 u4.value, .int .i64 u5.head, .int .i64 u5.value] := by rw [hW2]; exact Bx.made W1 [.int .i64 u0.head, .int .i64 u0.value, .int .i64 u1.head, .int .i64 u1.value, .int .i64 u2.head, .int .i64 u2.value, .int .i64 u3.head, .int .i64 u3.value, .int .i64 u4.head, .int .i64 u4.value, .int .i64 u5.head, .int .i64 u5.value] _
  have KW : Hid (Below w.heap.size w W2) := bstep b1 b2
  have hin := installed_any W2 xs b m cap2 ss HK.out.2.2.1 HK.out.2.1 ((Sl.below HK.out.1 KW.out).mono KW.out.size) HK.out.2.2.2
  rw [HU.out] at hin
  have q0 := XB.1 0 _ rfl
  have q1 := XB.1 1 _ rfl
  have q2 := XB.1 2 _ rfl
  have q3 := XB.1 3 _ rfl
  have q4 := XB.1 4 _ rfl
  have q5 := XB.1 5 _ rfl
  have q6 := XB.1 6 _ rfl
  have q7 := XB.1 7 _ rfl
  have q8 := XB.1 8 _ rfl
  have q9 := XB.1 9 _ rfl
  have q10 := XB.1 10 _ rfl
  have q11 := XB.1 11 _ rfl
  rw [hW2] at q0 q1 q2 q3 q4 q5 q6 q7 q8 q9 q10 q11
  clear b1 b2 XB
  go_wp2_with fail
  rw [← hW2]
  clear hW2 q0 q1 q2 q3 q4 q5 q6 q7 q8 q9 q10 q11
  refine hin.mono ?_
  clear hin
  rintro e W3 ⟨rfl, b3⟩
  have K3 : Hid (Below w.heap.size w W3) := bstep KW.out b3
  clear b3
  have hls := implList_any W3 ((ss.foldl insC xs).flatMap C2.cells) (by rw [flat2_len, ins_six ss HK.out.2.2.1]) (by
    intro v hv
    obtain ⟨c, -, hc⟩ := List.mem_flatMap.1 hv
    simp only [C2.cells, List.mem_cons, List.not_mem_nil, or_false] at hc
    rcases hc with rfl | rfl <;> rfl)
  unfold arr6
  go_wp2_with fail
  refine hls.mono ?_
  clear hls
  rintro e W4 ⟨rfl, b4, h4⟩
  have K4 : Hid (w.heap.size ≤ W3.heap.size + 1 ∧ W4.heap[W3.heap.size + 1]? = some (.cells ((ss.foldl insC xs).flatMap C2.cells).toArray 75 (0, 0)) ∧ Below w.heap.size w W4) := ⟨by have := K3.out.size; omega, h4, bstep K3.out b4⟩
  clear b4 h4
  go_wp2
  exact bodyPost_ret (v := .tuple #[.slice (some ⟨W3.heap.size + 1, 0, none⟩) 6 6, .bool true]) (by simp [results, Tryz.results141, go_sem]) rfl ⟨W3.heap.size + 1, rfl, K4.out⟩
end Go.Proofs.YtdmpobegobfpjaaGreat
namespace Go.Proofs.YtdmpobegobfpjaaGreat.tx
open Go.RowKit
set_option maxHeartbeats 4000000 in
theorem implSetsOf_any (w : World) (v : TV) (t : T7) (g : Int) (hl : TL t) (hs : SlT w v t) :
    Calls Tryz.prog 142 #[v.val t, .int .i64 g] w (SAns w (setsOfT t g)) := by
  obtain ⟨ar, cr, ah, ch⟩ := v
  simp only [TV.val]
  obtain ⟨W, hW⟩ : ∃ W, W = w.alloc (.cells #[.int .i64 t.id, .int .i64 t.home, .int .i64 t.phase, .int .i64 t.count, .slice ar t.reads.length cr, .slice ah t.sets.length ch, .int .i64 t.stamp] 55) := ⟨_, rfl⟩
  have b0 : Below w.heap.size w W := by rw [hW]; exact (Below.refl _ _).alloc (Nat.le_refl _) _
  have x0 : BT W w.heap.size ⟨ar, cr, ah, ch⟩ t := by rw [hW]; exact BT.box w ⟨ar, cr, ah, ch⟩ t _
  have c1 := implTxOk_any W ⟨ar, cr, ah, ch⟩ t hl (hs.later b0)
  simp only [TV.val] at c1
  have H : Hid (SlT W ⟨ar, cr, ah, ch⟩ t ∧ BT W w.heap.size ⟨ar, cr, ah, ch⟩ t ∧ Below w.heap.size w W) := ⟨hs.later b0, x0, b0⟩
  clear hs b0 x0 hl
  cases hB : txB t with
  | false =>
    rw [hB] at c1
    have HN : Hid (setsOfT t g = []) := by unfold Hid; simp [setsOfT, hB]
    go_enter Tryz.func142, Tryz.ntmps142
    go_wp2_with fail
    rw [← hW]
    clear hW
    refine c1.mono ?_
    clear c1
    rintro e w1 ⟨rfl, b1⟩
    have KB : Hid (Below w.heap.size w w1) := H.out.2.2.trans (b1.mono H.out.2.2.size)
    clear b1
    go_wp2
    go_ret
    rw [HN.out]
    exact SAns.none KB.out
  | true =>
    rw [hB] at c1
    have HN : Hid (setsOfT t g = ofR g t.sets) := by unfold Hid; simp [setsOfT, hB]
    have hl12 := (txB_lens hB).2
    go_enter Tryz.func142, Tryz.ntmps142
    go_wp2_with fail
    rw [← hW]
    clear hW
    refine c1.mono ?_
    clear c1
    rintro e w1 ⟨rfl, b1⟩
    have p5 := (H.out.2.1.later b1).c5
    dsimp only at p5
    have K1 : Hid (SlT w1 ⟨ar, cr, ah, ch⟩ t ∧ Below w.heap.size w w1) := ⟨H.out.1.later b1, H.out.2.2.trans (b1.mono H.out.2.2.size)⟩
    clear b1 H
    go_wp2
    clear p5
    go_loopw [5, 14] (fun v5 v14 wr => ∃ k : Nat, k ≤ t.sets.length ∧ v14 = .int .i64 k ∧ RowS wr w1.heap.size v5 (ofR g (t.sets.take k)) ∧ Below w1.heap.size w1 wr) (fun _ v14 _ => t.sets.length - (intOf v14).toNat)
    case atStart => exact ⟨0, Nat.zero_le _, rfl, by simpa [ofR] using RowS.nil w1 _, Below.refl _ _⟩
    case round =>
      obtain ⟨k, hk, rfl, hrow, hbl⟩ := hrel
      obtain ⟨h1, h2⟩ := K1.out
      have hsz := hbl.size
      by_cases hlt : k < t.sets.length
      · obtain ⟨_, hsk⟩ := (h1.later hbl).s
        dsimp only at hsk
        rcases hsk with hsk | ⟨b, off, rfl, hb, hx⟩
        · omega
        obtain ⟨c0, c1, c2, c3, c4⟩ := hx k _ (atSe_of hlt)
        by_cases hg : (atSe t.sets k).region = g
        · have dg : ((atSe t.sets k).region == g) = true := by simpa using hg
          obtain ⟨U, hU⟩ : ∃ V, V = wr.alloc (.cells #[.int .i64 (atSe t.sets k).region, .int .i64 (atSe t.sets k).slot, .int .i64 (atSe t.sets k).value, .bool (atSe t.sets k).used, .int .i64 (atSe t.sets k).version] 106) := ⟨_, rfl⟩
          have bU : Below wr.heap.size wr U := by rw [hU]; exact (Below.refl _ _).alloc (Nat.le_refl _) _
          have zU : U.heap.size = wr.heap.size + 1 := by rw [hU]; simp
          obtain ⟨V, hV⟩ : ∃ V, V = U.alloc (.cells #[.int .i64 (atSe t.sets k).region, .int .i64 (atSe t.sets k).slot, .int .i64 (atSe t.sets k).value, .bool (atSe t.sets k).used, .int .i64 (atSe t.sets k).version] 106) := ⟨_, rfl⟩
          have bV : Below wr.heap.size wr V := by rw [hV]; exact bU.alloc bU.size _
          have hone : SetsAt V (wr.heap.size + 1) 0 [atSe t.sets k] := by rw [hV, ← zU]; exact (SetAt.box U _ _).one
          obtain ⟨v', Y, hr, hrow', hgr, hlies⟩ := pushSe (hrow.later bV) [atSe t.sets k] (by have := ofR_len g (t.sets.take k); rw [List.length_take] at this; simp; omega) 53 (wr.heap.size + 1) 0 1 hone (by have := bV.size; omega)
          have KE : Hid (RowS Y w1.heap.size v' (ofR g (t.sets.take (k + 1))) ∧ Below w1.heap.size w1 Y) := by
            refine ⟨by rw [ofR_yes (atSe_of hlt) hg]; exact hrow', ?_⟩
            exact (hbl.trans (bV.mono (by omega))).grown hgr (by have := bV.size; omega) (fun q e => (hrow.lt e).1)
          rw [hV, hU] at hr
          clear hV hU bV bU zU hone hrow' hgr hlies hrow hbl h1 h2 hx hg
          simp only [List.length_cons, List.length_nil, Nat.zero_add] at hr
          go_wp2_with (at_builtin; refine append_known _ rfl (.tmp 22) (.tmp 24) 53 rfl _ _ _ _ rfl rfl hr ?_)
          exact ⟨⟨k + 1, by omega, by simp, KE.out.1, KE.out.2⟩, by simp [intOf]; omega⟩
        · have dg : ((atSe t.sets k).region == g) = false := by simpa using hg
          have bU : Below wr.heap.size wr (wr.alloc (.cells #[.int .i64 (atSe t.sets k).region, .int .i64 (atSe t.sets k).slot, .int .i64 (atSe t.sets k).value, .bool (atSe t.sets k).used, .int .i64 (atSe t.sets k).version] 106)) := (Below.refl _ _).alloc (Nat.le_refl _) _
          have KE : Hid (RowS (wr.alloc (.cells #[.int .i64 (atSe t.sets k).region, .int .i64 (atSe t.sets k).slot, .int .i64 (atSe t.sets k).value, .bool (atSe t.sets k).used, .int .i64 (atSe t.sets k).version] 106)) w1.heap.size u5 (ofR g (t.sets.take (k + 1))) ∧ Below w1.heap.size w1 (wr.alloc (.cells #[.int .i64 (atSe t.sets k).region, .int .i64 (atSe t.sets k).slot, .int .i64 (atSe t.sets k).value, .bool (atSe t.sets k).used, .int .i64 (atSe t.sets k).version] 106))) := ⟨by rw [ofR_no (atSe_of hlt) hg]; exact hrow.later bU, hbl.trans (bU.mono hbl.size)⟩
          clear hrow hbl h1 h2 hx hg bU
          go_wp2
          exact ⟨⟨k + 1, by omega, by simp, KE.out.1, KE.out.2⟩, by simp [intOf]; omega⟩
      · obtain rfl : k = t.sets.length := by omega
        have hd : decide ((t.sets.length : Int) < (t.sets.length : Int)) = false := by simp
        rw [List.take_length] at hrow
        have KE : Hid (RowS wr w1.heap.size u5 (ofR g t.sets) ∧ Below w.heap.size w wr ∧ w.heap.size ≤ w1.heap.size) := ⟨hrow, h2.trans (hbl.mono h2.size), h2.size⟩
        clear hrow hbl h1 h2
        go_wp2
        go_ret
        rw [HN.out]
        exact SAns.of KE.out.1 KE.out.2.2 KE.out.2.1
end Go.Proofs.YtdmpobegobfpjaaGreat.tx
namespace Go.Proofs.YtdmpobegobfpjaaGreat
open Go.RowKit
open Go.Sort (grow)
theorem sets_of {w : World} {b off : Nat} {xs : List S5} (h : tx.SetsAt w b off xs) : SetsAt w b off xs := fun i s e => by
  obtain ⟨h0, h1, h2, h3, h4⟩ := h i s e
  exact ⟨h0, h1, h2, h3, h4⟩
set_option maxRecDepth 100000 in
set_option maxHeartbeats 8000000 in
theorem install_any (w0 w : World) (base b n : Nat) (g : Nat → Nat) (css : List (List C2)) (hR : Rep w base b n g css) (v : tx.TV) (t : tx.T7) (hl : tx.TL t) (hw0 : Below w0.heap.size w0 w) (hB0 : w0.heap.size ≤ base) (hs : tx.SlT w0 v t) (hN : NamB t css.length) (hB : tx.txB t = true) :
    Calls Tryz.prog 85 #[.slice (some ⟨b, 0, none⟩) n n, .agg #[.int .i64 t.id, .int .i64 t.home, .int .i64 t.phase, .int .i64 t.count, .slice v.ar t.reads.length v.cr, .slice v.ah t.sets.length v.ch, .int .i64 t.stamp]] w fun e w' => e = .returned (.tuple #[]) ∧ (∃ g', Rep w' base b n g' (t.sets.foldl insA css)) ∧ Turned b w w' := by
  obtain ⟨U0, hU0⟩ : ∃ Y, Y = w.alloc (.cells #[.int .i64 t.id, .int .i64 t.home, .int .i64 t.phase, .int .i64 t.count, .slice v.ar t.reads.length v.cr, .slice v.ah t.sets.length v.ch, .int .i64 t.stamp] 55) := ⟨_, rfl⟩
  have bU0 : Below w.heap.size w U0 := by rw [hU0]; exact (Below.refl _ _).alloc (Nat.le_refl _) _
  have xU0 : Bx U0 w.heap.size [.int .i64 t.id, .int .i64 t.home, .int .i64 t.phase, .int .i64 t.count, .slice v.ar t.reads.length v.cr, .slice v.ah t.sets.length v.ch, .int .i64 t.stamp] := by rw [hU0]; exact Bx.made w [.int .i64 t.id, .int .i64 t.home, .int .i64 t.phase, .int .i64 t.count, .slice v.ar t.reads.length v.cr, .slice v.ah t.sets.length v.ch, .int .i64 t.stamp] _
  have sU0 : U0.heap.size = w.heap.size + 1 := by rw [hU0]; simp
  have HL0 : Hid (b < w.heap.size ∧ base ≤ b ∧ w0.heap.size ≤ base) := ⟨hR.hi, hR.lo, hB0⟩
  have HW : Hid (∀ X, Turned b w X → tx.SlT X v t) := fun X hX => hs.later (hw0.trans (hX.below (by have := HL0.out; omega) (by have := hw0.size; omega)))
  have HK : Hid (tx.TL t ∧ tx.txB t = true ∧ NamB t css.length) := ⟨hl, hB, hN⟩
  have T0 : Hid (Turned b w U0) := (Turned.refl b w).of_below bU0
  have XT : Hid (Bx U0 w.heap.size [.int .i64 t.id, .int .i64 t.home, .int .i64 t.phase, .int .i64 t.count, .slice v.ar t.reads.length v.cr, .slice v.ah t.sets.length v.ch, .int .i64 t.stamp]) := xU0
  have HR : Hid (Rep U0 base b n g css) := hR.later bU0
  have cW := tx.implWants_any U0 v t hl (HW.out U0 T0.out)
  simp only [tx.TV.val] at cW
  have p0 := XT.out.1 0 _ rfl
  have p1 := XT.out.1 1 _ rfl
  have p2 := XT.out.1 2 _ rfl
  have p3 := XT.out.1 3 _ rfl
  have p4 := XT.out.1 4 _ rfl
  have p5 := XT.out.1 5 _ rfl
  have p6 := XT.out.1 6 _ rfl
  rw [hU0] at p0 p1 p2 p3 p4 p5 p6
  have SU := hidOf sU0
  clear xU0 bU0 sU0 hR hs hw0 hB0 hN hB hl
  go_enter Tryz.func85, Tryz.ntmps85
  go_wp2_with fail
  rw [← hU0]
  clear hU0 p0 p1 p2 p3 p4 p5 p6
  refine cW.mono ?_
  clear cW
  rintro e W1 ⟨wa, wc, P, rfl, hown, hP, b1⟩
  have zlen : (tx.wantsT t).length ≤ 12 := by
    rw [tx.wantsT, if_pos HK.out.2.1]
    have := tx.wln_le (tx.rgs t.sets) t.sets.length
    have := (tx.txB_lens HK.out.2.1).2
    omega
  have HZ : Hid (∀ z ∈ tx.wantsT t, 0 ≤ z ∧ z < (css.length : Int)) := fun z hz => by
    obtain ⟨s, hs, rfl⟩ := (want_in HK.out.2.1 z).1 hz
    have := HK.out.2.2.2 s hs
    exact ⟨this.1, this.2.1⟩
  have HG : Hid ((tx.wantsT t).foldl (grpA t.sets) css = t.sets.foldl insA css) := grp_all HK.out.2.1 css
  have H1 : Hid (tx.OwnIn W1 P wa (tx.wantsT t) ∧ (∀ q, P q → U0.heap.size ≤ q ∧ q < W1.heap.size) ∧ Turned b w W1 ∧ Rep W1 base b n g css ∧ Bx W1 w.heap.size [.int .i64 t.id, .int .i64 t.home, .int .i64 t.phase, .int .i64 t.count, .slice v.ar t.reads.length v.cr, .slice v.ah t.sets.length v.ch, .int .i64 t.stamp] ∧ w.heap.size < W1.heap.size) := ⟨hown, hP, T0.out.of_below b1, HR.out.later b1, XT.out.later b1, (XT.out.later b1).2.2⟩
  clear hown hP b1
  obtain ⟨zs, hzs⟩ : ∃ zs, tx.wantsT t = zs := ⟨_, rfl⟩
  rw [hzs] at zlen HZ HG H1
  rw [hzs]
  clear hzs
  generalize hsz : w.heap.size = s at *
  have HSS := hidOf hsz
  clear hsz
  go_wp2
  go_loopw [9] (fun v9 wr => ∃ (m : Nat) (g' : Nat → Nat), m ≤ zs.length ∧ v9 = .int .i64 m ∧ Rep wr base b n g' ((zs.take m).foldl (grpA t.sets) css) ∧ Turned b W1 wr) (fun v9 _ => zs.length - (intOf v9).toNat)
  case atStart => exact ⟨0, g, Nat.zero_le _, rfl, H1.out.2.2.2.1, Turned.refl _ _⟩
  case round =>
    obtain ⟨m, g', hm, rfl, hrep, htn⟩ := hrel
    by_cases hlt : m < zs.length
    · obtain ⟨z, hz⟩ : ∃ z, zs[m]? = some z := ⟨_, List.getElem?_eq_getElem hlt⟩
      have hzr := HZ.out z (List.mem_of_getElem? hz)
      obtain ⟨i, rfl⟩ : ∃ i : Nat, z = (i : Int) := ⟨z.toNat, by omega⟩
      have hlen : ((zs.take m).foldl (grpA t.sets) css).length = css.length := by
        generalize zs.take m = l
        clear hrep hz hzr HG H1 HK HR HZ
        induction l generalizing css with
        | nil => rfl
        | cons x l ih => rw [List.foldl_cons, ih, grpA_len]
      obtain ⟨xs, hxs⟩ : ∃ xs, ((zs.take m).foldl (grpA t.sets) css)[i]? = some xs := ⟨_, List.getElem?_eq_getElem (by omega)⟩
      have hstep : (zs.take (m + 1)).foldl (grpA t.sets) css = ((zs.take m).foldl (grpA t.sets) css).set i ((tx.ofR (i : Int) t.sets).foldl insC xs) := by
        rw [List.take_add_one, hz, Option.toList_some, List.foldl_append, List.foldl_cons, List.foldl_nil, grpA, Int.toNat_natCast, hxs]; rfl
      obtain ⟨cz, hcz⟩ : ∃ cz, (zs.take m).foldl (grpA t.sets) css = cz := ⟨_, rfl⟩
      rw [hcz] at hrep hxs hlen hstep
      have HST := hidOf hstep
      clear hcz hstep
      obtain ⟨e1, e2, e3, e4, e5, e6, e7⟩ := hrep.cs i xs hxs
      generalize g' i = q at e1 e2 e3 e4 e5 e6
      have hin : i < n := Nat.lt_of_lt_of_le (by omega) hrep.le
      rcases H1.out.1 with h0 | ⟨wb, rfl, hp, hwb, hnum, -⟩
      · rw [h0] at hlt; simp at hlt
      have hwl := (H1.out.2.1 wb hp).1
      have z0 : wr.cell? ⟨wb, m, none⟩ = some (.int .i64 (i : Int)) := by
        have h1 := hnum m _ hz
        rw [Nat.zero_add] at h1
        exact (htn.cell (p := ⟨wb, m, none⟩) hwb (by show wb ≠ b; have := HL0.out; have := SU.out; have := HSS.out; omega)).trans h1
      have xw : Bx wr s [.int .i64 t.id, .int .i64 t.home, .int .i64 t.phase, .int .i64 t.count, .slice v.ar t.reads.length v.cr, .slice v.ah t.sets.length v.ch, .int .i64 t.stamp] := H1.out.2.2.2.2.1.of_block (htn.block s (by have := H1.out.2.2.2.2.2; omega) (by have := HL0.out; have := HSS.out; omega)) htn.size
      have TW : Hid (Turned b w wr) := H1.out.2.2.1.trans htn
      have hS : (fun Z : World => Below wr.heap.size wr Z ∧ Z.cell? ⟨b, i, none⟩ = some (.slice (some ⟨q, 0, none⟩) 6 6) ∧ Z.cell? ⟨s, 0, none⟩ = some (.int .i64 t.id) ∧ Z.cell? ⟨s, 1, none⟩ = some (.int .i64 t.home) ∧ Z.cell? ⟨s, 2, none⟩ = some (.int .i64 t.phase) ∧ Z.cell? ⟨s, 3, none⟩ = some (.int .i64 t.count) ∧ Z.cell? ⟨s, 4, none⟩ = some (.slice v.ar t.reads.length v.cr) ∧ Z.cell? ⟨s, 5, none⟩ = some (.slice v.ah t.sets.length v.ch) ∧ Z.cell? ⟨s, 6, none⟩ = some (.int .i64 t.stamp)) wr.drew := ⟨(Below.refl _ _).drew, e1, xw.1 0 _ rfl, xw.1 1 _ rfl, xw.1 2 _ rfl, xw.1 3 _ rfl, xw.1 4 _ rfl, xw.1 5 _ rfl, xw.1 6 _ rfl⟩
      have hx6 : xs.length = 6 := by simp only [cellsB, Bool.and_eq_true, decide_eq_true_eq] at e7; exact e7.1
      have KR : Hid (Rep wr base b n g' cz ∧ cellsB xs = true ∧ xs.length = 6 ∧ CellsAt wr q 0 xs ∧ cz.length = css.length ∧ cz[i]? = some xs ∧ Turned b W1 wr ∧ base ≤ s) := ⟨hrep, e7, hx6, e5, hlen, hxs, htn, by have := HL0.out; have := HSS.out; omega⟩
      have HL : Hid (b < wr.heap.size ∧ q < wr.heap.size ∧ s < wr.heap.size) := ⟨hrep.hi, e3, xw.2.2⟩
      have ix : (i : Int) < (n : Int) := by omega
      have mx : (m : Int) < (zs.length : Int) := by omega
      clear hrep e1 e2 e3 e4 e5 e6 e7 hxs hlen htn xw hnum hp hwl hwb hx6 hz hzr
      go_wp2_with fail
      refine wp_region_z (fun z => z == 14) (fun Z : World => Below wr.heap.size wr Z ∧ Z.cell? ⟨b, i, none⟩ = some (.slice (some ⟨q, 0, none⟩) 6 6) ∧ Z.cell? ⟨s, 0, none⟩ = some (.int .i64 t.id) ∧ Z.cell? ⟨s, 1, none⟩ = some (.int .i64 t.home) ∧ Z.cell? ⟨s, 2, none⟩ = some (.int .i64 t.phase) ∧ Z.cell? ⟨s, 3, none⟩ = some (.int .i64 t.count) ∧ Z.cell? ⟨s, 4, none⟩ = some (.slice v.ar t.reads.length v.cr) ∧ Z.cell? ⟨s, 5, none⟩ = some (.slice v.ah t.sets.length v.ch) ∧ Z.cell? ⟨s, 6, none⟩ = some (.int .i64 t.stamp)) (by kernel_rfl) ?_
      generalize wr.drew = Wd at *
      refine wpZ_takeP (i := 0) (v := ?_) rfl (by kernel_rfl) (fun _ _ _ h => h) (Or.inl ⟨by rfl, ?_⟩) hS ?_
      rotate_left
      · (intro w _; go_simp; first | done | with_reducible rfl | (rw [if_pos (by omega)]) | (rw [if_pos (by omega)]; go_simp))
      simp only [Act.put]
      refine wpZ_takeP (i := 1) (v := ?_) rfl (by kernel_rfl) (fun _ _ _ h => h) (Or.inl ⟨by rfl, ?_⟩) hS ?_
      rotate_left
      · (intro w _; go_simp; first | done | with_reducible rfl | (rw [if_pos (by omega)]) | (rw [if_pos (by omega)]; go_simp))
      simp only [Act.put]
      refine wpZ_takeP (i := 2) (v := ?_) rfl (by kernel_rfl) (fun _ _ _ h => h) (Or.inl ⟨by rfl, ?_⟩) hS ?_
      rotate_left
      · (intro w _; go_simp; first | done | with_reducible rfl | (rw [if_pos (by omega)]) | (rw [if_pos (by omega)]; go_simp))
      simp only [Act.put]
      refine wpZ_takeP (i := 3) (v := ?_) rfl (by kernel_rfl) (fun _ _ _ h => h) (Or.inl ⟨by rfl, ?_⟩) hS ?_
      rotate_left
      · (intro w _; go_simp; first | done | with_reducible rfl | (rw [if_pos (by omega)]) | (rw [if_pos (by omega)]; go_simp))
      simp only [Act.put]
      refine wpZ_takeP (i := 4) (v := ?_) rfl (by kernel_rfl) (fun _ _ _ h => h) (Or.inl ⟨by rfl, ?_⟩) hS ?_
      rotate_left
      · (intro w _; go_simp; first | done | with_reducible rfl | (rw [if_pos (by omega)]) | (rw [if_pos (by omega)]; go_simp))
      simp only [Act.put]
      refine wpZ_take (i := 5) (v := ?_) rfl (by kernel_rfl) (fun _ _ _ h => h) (Or.inl ⟨by rfl, ?_⟩) hS ?_
      rotate_left
      · (intro w hSw; obtain ⟨-, s0, s1, s2, s3, s4, s5, s6, s7⟩ := hSw; go_simp; first | done | with_reducible rfl)
      simp only [Act.put]
      refine wpZ_take (i := 6) (v := ?_) rfl (by kernel_rfl) (fun _ _ _ h => h) (Or.inl ⟨by rfl, ?_⟩) hS ?_
      rotate_left
      · (intro w hSw; obtain ⟨-, s0, s1, s2, s3, s4, s5, s6, s7⟩ := hSw; go_simp; first | done | with_reducible rfl)
      simp only [Act.put]
      refine wpZ_takeP (i := 7) (v := ?_) rfl (by kernel_rfl) (fun _ _ _ h => h) (Or.inl ⟨by rfl, ?_⟩) hS ?_
      rotate_left
      · (intro w _; go_simp; first | done | with_reducible rfl | (rw [if_pos (by omega)]) | (rw [if_pos (by omega)]; go_simp))
      simp only [Act.put]
      refine wpZ_ready (rs := [8]) (by kernel_rfl) (by simp) ?_
      refine AllZ.cons rfl (fun K hK => ?_) AllZ.nil
      go_simp
      have hsl := HW.out Wd (TW.out.of_below hS.1)
      have cS := tx.implSetsOf_any Wd v t (i : Int) HK.out.1 hsl
      simp only [tx.TV.val] at cS
      refine cS.mono ?_
      clear cS hsl
      rintro e X ⟨sa, sc, PS, rfl, hos, hps, bX⟩
      have h9 := hS.1.size
      have h8 := HL.out
      have hc : ∀ q j, q < Wd.heap.size → X.cell? ⟨q, j, none⟩ = Wd.cell? ⟨q, j, none⟩ := fun q j hq => bX.cell (p := ⟨q, j, none⟩) hq
      replace hS : (fun Z : World => Below wr.heap.size wr Z ∧ Z.cell? ⟨b, i, none⟩ = some (.slice (some ⟨q, 0, none⟩) 6 6) ∧ Z.cell? ⟨s, 0, none⟩ = some (.int .i64 t.id) ∧ Z.cell? ⟨s, 1, none⟩ = some (.int .i64 t.home) ∧ Z.cell? ⟨s, 2, none⟩ = some (.int .i64 t.phase) ∧ Z.cell? ⟨s, 3, none⟩ = some (.int .i64 t.count) ∧ Z.cell? ⟨s, 4, none⟩ = some (.slice v.ar t.reads.length v.cr) ∧ Z.cell? ⟨s, 5, none⟩ = some (.slice v.ah t.sets.length v.ch) ∧ Z.cell? ⟨s, 6, none⟩ = some (.int .i64 t.stamp)) X := ⟨bstep hS.1 bX, (hc _ _ (by omega)).trans hS.2.1, (hc _ _ (by omega)).trans hS.2.2.1, (hc _ _ (by omega)).trans hS.2.2.2.1, (hc _ _ (by omega)).trans hS.2.2.2.2.1, (hc _ _ (by omega)).trans hS.2.2.2.2.2.1, (hc _ _ (by omega)).trans hS.2.2.2.2.2.2.1, (hc _ _ (by omega)).trans hS.2.2.2.2.2.2.2.1, (hc _ _ (by omega)).trans hS.2.2.2.2.2.2.2.2⟩
      clear hc h9 h8
      have HSE : Hid (Sl X X.heap.size sa (tx.setsOfT t (i : Int)).length (tx.setsOfT t (i : Int)) ∧ tx.setsOfT t (i : Int) = tx.ofR (i : Int) t.sets) := by
        refine ⟨⟨rfl, ?_⟩, by rw [tx.setsOfT, if_pos HK.out.2.1]⟩
        rcases hos with h0 | ⟨sb, rfl, _, hsb, hat, _⟩
        · exact .inl (by rw [h0]; rfl)
        · exact .inr ⟨sb, 0, rfl, hsb, sets_of hat⟩
      clear hos hps bX
      clear Wd
      generalize X = Wd at *
      refine hK.out _ _ (fun _ => hS) ?_
      clear hK K
      refine wpZ_ready (rs := [9]) (by kernel_rfl) (by simp) ?_
      refine AllZ.cons rfl (fun K hK => ?_) AllZ.nil
      go_simp
      have hsn : (tx.setsOfT t (i : Int)).length ≤ 12 := by rw [HSE.out.2]; exact Nat.le_trans (tx.ofR_len _ _) (tx.txB_lens HK.out.2.1).2
      have cI := implInstall_any Wd (some ⟨q, 0, none⟩) 6 6 xs sa (tx.setsOfT t (i : Int)).length sc (tx.setsOfT t (i : Int)) (by unfold maxLen; omega) (by unfold maxLen; omega) ⟨KR.out.2.2.1, .inr ⟨q, 0, rfl, by have := HL.out; have := hS.1.size; omega, KR.out.2.2.2.1.blk (hS.1.block q HL.out.2.1)⟩⟩ HSE.out.1 KR.out.2.1 (by rw [HSE.out.2]; exact ofR_rise HK.out.2.1 _)
      refine cI.mono ?_
      clear cI hsn
      rintro e X ⟨nq, rfl, hnq, hblk, bX⟩
      have HQ : Hid ((wr.heap.size ≤ nq ∧ cellsB ((tx.ofR (i : Int) t.sets).foldl insC xs) = true ∧ ((tx.ofR (i : Int) t.sets).foldl insC xs).length = 6) ∧ X.heap[nq]? = some (.cells (arr6 ((tx.ofR (i : Int) t.sets).foldl insC xs)) 75 (0, 0))) := by
        refine ⟨⟨by have := hS.1.size; omega, ins_ok _ KR.out.2.1 (fun s hs => (tx.txB_se HK.out.2.1).1 s (List.mem_filter.1 hs).1), ins_six _ KR.out.2.2.1⟩, ?_⟩
        rw [← HSE.out.2]; exact hblk
      have h9 := hS.1.size
      have h8 := HL.out
      have hc : ∀ q j, q < Wd.heap.size → X.cell? ⟨q, j, none⟩ = Wd.cell? ⟨q, j, none⟩ := fun q j hq => bX.cell (p := ⟨q, j, none⟩) hq
      replace hS : (fun Z : World => Below wr.heap.size wr Z ∧ Z.cell? ⟨b, i, none⟩ = some (.slice (some ⟨q, 0, none⟩) 6 6) ∧ Z.cell? ⟨s, 0, none⟩ = some (.int .i64 t.id) ∧ Z.cell? ⟨s, 1, none⟩ = some (.int .i64 t.home) ∧ Z.cell? ⟨s, 2, none⟩ = some (.int .i64 t.phase) ∧ Z.cell? ⟨s, 3, none⟩ = some (.int .i64 t.count) ∧ Z.cell? ⟨s, 4, none⟩ = some (.slice v.ar t.reads.length v.cr) ∧ Z.cell? ⟨s, 5, none⟩ = some (.slice v.ah t.sets.length v.ch) ∧ Z.cell? ⟨s, 6, none⟩ = some (.int .i64 t.stamp)) X := ⟨bstep hS.1 bX, (hc _ _ (by omega)).trans hS.2.1, (hc _ _ (by omega)).trans hS.2.2.1, (hc _ _ (by omega)).trans hS.2.2.2.1, (hc _ _ (by omega)).trans hS.2.2.2.2.1, (hc _ _ (by omega)).trans hS.2.2.2.2.2.1, (hc _ _ (by omega)).trans hS.2.2.2.2.2.2.1, (hc _ _ (by omega)).trans hS.2.2.2.2.2.2.2.1, (hc _ _ (by omega)).trans hS.2.2.2.2.2.2.2.2⟩
      clear hc h9 h8
      clear hnq hblk bX HSE
      clear Wd
      refine hK.out _ _ (fun _ => hS) ?_
      clear hK K
      refine wpZ_takeP (i := 10) (v := ?_) rfl (by kernel_rfl) (fun _ _ _ h => h) (Or.inl ⟨by rfl, ?_⟩) hS ?_
      rotate_left
      · (intro w _; go_simp; first | done | with_reducible rfl | (rw [if_pos (by omega)]) | (rw [if_pos (by omega)]; go_simp))
      simp only [Act.put]
      refine wpZ_takeP (i := 11) (v := ?_) rfl (by kernel_rfl) (fun _ _ _ h => h) (Or.inl ⟨by rfl, ?_⟩) hS ?_
      rotate_left
      · (intro w _; go_simp; first | done | with_reducible rfl | (rw [if_pos (by omega)]) | (rw [if_pos (by omega)]; go_simp))
      simp only [Act.put]
      refine wpZ_takeP (i := 12) (v := ?_) rfl (by kernel_rfl) (fun _ _ _ h => h) (Or.inl ⟨by rfl, ?_⟩) hS ?_
      rotate_left
      · (intro w _; go_simp; first | done | with_reducible rfl | (rw [if_pos (by omega)]) | (rw [if_pos (by omega)]; go_simp))
      simp only [Act.put]
      refine wpZ_ready (rs := [13]) (by kernel_rfl) (by simp) ?_
      refine AllZ.cons rfl (fun K hK => ?_) AllZ.nil
      go_simp
      refine hK.out _ _ (fun _ => hS) ?_
      clear hK K
      have hX := blk_six HQ.out.2 HQ.out.1.2.2
      have hRX := KR.out.1.later hS.1
      have hst := hRX.store (r := i) (q := nq) (ys := (tx.ofR (i : Int) t.sets).foldl insC xs) (css' := (zs.take (m + 1)).foldl (grpA t.sets) css) hin (by have := HQ.out.1.1; have := KR.out.2.2.2.2.2.2.2; have := HL.out; omega) hX.1 (by have := HQ.out.1.1; have := HL.out; omega) hX.2.1 hX.2.2 HQ.out.1.2.1 (by rw [HST.out, List.length_set]; exact KR.out.1.le) (fun r' ys hy => by
        rw [HST.out] at hy
        by_cases e : r' = i
        · subst e
          rw [List.getElem?_set_self (List.getElem?_eq_some_iff.1 KR.out.2.2.2.2.2.1).1] at hy
          exact .inl ⟨rfl, (Option.some.inj hy).symm⟩
        · rw [List.getElem?_set_ne (fun h => e h.symm)] at hy
          exact .inr ⟨e, hy⟩)
      have c0 := hS.2.1
      have f0 := (hRX.rm i hin).choose_spec.2
      have KE : Hid ((∃ g', Rep (X.setCell ⟨b, i, none⟩ (.slice (some ⟨nq, 0, none⟩) 6 6)) base b n g' ((zs.take (m + 1)).foldl (grpA t.sets) css)) ∧ Turned b W1 (X.setCell ⟨b, i, none⟩ (.slice (some ⟨nq, 0, none⟩) 6 6))) := ⟨⟨_, hst⟩, (KR.out.2.2.2.2.2.2.1.of_below hS.1).setCell i _⟩
      clear hX hRX hst
      refine wpZ_ready (rs := [14]) (by kernel_rfl) (by simp) ?_
      refine AllZ.cons rfl (fun K hK => ?_) AllZ.nil
      go_simp
      refine hK.out _ _ (fun h => absurd (show false = true from h.symm.trans (by kernel_rfl)) (by decide)) ?_
      clear hK K
      refine wpZ_done (by kernel_rfl) ?_ _
      clear c0 f0 hS
      obtain ⟨⟨g2, hg2⟩, ht2⟩ := KE.out
      have KF := hidOf hg2
      have KT := hidOf ht2
      clear hg2 ht2 KE
      go_wp2
      exact ⟨⟨m + 1, g2, by omega, by simp, KF.out, KT.out⟩, by simp [intOf]; omega⟩
    · obtain rfl : m = zs.length := by omega
      have hd : decide ((zs.length : Int) < (zs.length : Int)) = false := by simp
      rw [List.take_length, HG.out] at hrep
      have KE : Hid ((∃ g', Rep wr base b n g' (t.sets.foldl insA css)) ∧ Turned b w wr) := ⟨⟨g', hrep⟩, H1.out.2.2.1.trans htn⟩
      clear hrep htn
      go_wp2
      refine bodyPost_end (v := .tuple #[]) (by simp [results, Tryz.results85, go_sem]) rfl ⟨rfl, KE.out.1, KE.out.2⟩
end Go.Proofs.YtdmpobegobfpjaaGreat
namespace Go.Proofs.YtdmpobegobfpjaaGreat
open Go.RowKit
def tolJ (k : C6) : Nat → List Nat
  | 0 => []
  | n + 1 => if tx.toldR (atT k.txs n) = 1 then tolJ k n ++ [n] else tolJ k n
theorem tolJ_len (k : C6) : ∀ n, (tolJ k n).length ≤ n
  | 0 => Nat.le_refl _
  | n + 1 => by
    have := tolJ_len k n
    rw [tolJ]
    split
    · rw [List.length_append]; simp; omega
    · omega
theorem tolJ_lt (k : C6) : ∀ n, ∀ j ∈ tolJ k n, j < n
  | 0 => fun j hj => by simp [tolJ] at hj
  | n + 1 => fun j hj => by
    have ih := tolJ_lt k n
    rw [tolJ] at hj
    split at hj
    · rw [List.mem_append, List.mem_singleton] at hj
      rcases hj with hj | rfl
      · have := ih j hj; omega
      · omega
    · have := ih j hj; omega
theorem tolJ_rise (k : C6) : ∀ n, (tolJ k n).Pairwise (· < ·)
  | 0 => List.Pairwise.nil
  | n + 1 => by
    have ih := tolJ_rise k n
    rw [tolJ]
    split
    · rw [List.pairwise_append]
      exact ⟨ih, List.pairwise_singleton _ _, fun a ha b hb => by rw [List.mem_singleton] at hb; rw [hb]; exact tolJ_lt k n a ha⟩
    · exact ih
def srtJ (k : C6) (l : List Nat) : Nat → List Nat
  | 0 => []
  | e + 1 => insJ k (l[e]?.getD 0) (srtJ k l e)
theorem srtJ_len (k : C6) (l : List Nat) : ∀ e, (srtJ k l e).length = e
  | 0 => rfl
  | e + 1 => by rw [srtJ, insJ_len, srtJ_len k l e]
theorem srtJ_mem (k : C6) (l : List Nat) : ∀ e, e ≤ l.length → ∀ j ∈ srtJ k l e, j ∈ l.take e
  | 0 => fun _ j hj => by simp [srtJ] at hj
  | e + 1 => fun he j hj => by
    have ih := srtJ_mem k l e (by omega)
    have hx : l[e]? = some l[e] := List.getElem?_eq_getElem (by omega)
    rw [List.take_add_one, hx, Option.toList_some, List.mem_append, List.mem_singleton]
    rw [srtJ, hx, Option.getD_some] at hj
    simp only [insJ, List.mem_append, List.mem_singleton] at hj
    rcases hj with (hj | hj) | hj
    · exact .inl (ih j (List.mem_of_mem_take hj))
    · exact .inr hj
    · exact .inl (ih j (List.mem_of_mem_drop hj))
theorem srtJ_app (k : C6) (l m : List Nat) : ∀ e, e ≤ l.length → srtJ k (l ++ m) e = srtJ k l e
  | 0 => fun _ => rfl
  | e + 1 => fun he => by rw [srtJ, srtJ, srtJ_app k l m e (by omega), List.getElem?_append_left (by omega)]
theorem srt_ord (k : C6) : ∀ n, srtJ k (tolJ k n) (tolJ k n).length = ordJ k n
  | 0 => rfl
  | n + 1 => by
    have ih := srt_ord k n
    rw [tolJ, ordJ]
    split
    · rw [List.length_append, List.length_singleton, srtJ, srtJ_app k _ _ _ (Nat.le_refl _), ih, List.getElem?_append_right (Nat.le_refl _), Nat.sub_self]
      rfl
    · exact ih
def curJ (k : C6) (l : List Nat) (e a : Nat) : List Nat := (srtJ k l e).take a ++ (l[e]?.getD 0) :: (srtJ k l e).drop a ++ l.drop (e + 1)
def bakJ (k : C6) (l : List Nat) (e : Nat) : List Nat := srtJ k l e ++ l.drop e
theorem curJ_len (k : C6) {l : List Nat} {e a : Nat} (he : e < l.length) (ha : a ≤ e) : (curJ k l e a).length = l.length := by
  simp only [curJ, List.length_append, List.length_cons, List.length_take, List.length_drop, srtJ_len]; omega
theorem curJ_start (k : C6) {l : List Nat} {e : Nat} (he : e < l.length) : curJ k l e e = bakJ k l e := by
  have h1 : (srtJ k l e).take e = srtJ k l e := List.take_of_length_le (by rw [srtJ_len]; exact Nat.le_refl _)
  have h2 : (srtJ k l e).drop e = [] := List.drop_eq_nil_of_le (by rw [srtJ_len]; exact Nat.le_refl _)
  rw [curJ, bakJ, h1, h2, List.getElem?_eq_getElem he, Option.getD_some, List.drop_eq_getElem_cons he]
  simp
theorem curJ_at (k : C6) {l : List Nat} {e a : Nat} (ha : a ≤ e) : (curJ k l e a)[a]? = some (l[e]?.getD 0) := by
  have h1 : ((srtJ k l e).take a).length = a := by rw [List.length_take, srtJ_len]; omega
  rw [curJ, List.append_assoc, List.getElem?_append_right (by omega), h1, Nat.sub_self]
  rfl
theorem curJ_low (k : C6) {l : List Nat} {e p : Nat} (ha : p + 1 ≤ e) : (curJ k l e (p + 1))[p]? = some ((srtJ k l e)[p]?.getD 0) := by
  have h1 : ((srtJ k l e).take (p + 1)).length = p + 1 := by rw [List.length_take, srtJ_len]; omega
  rw [curJ, List.append_assoc, List.getElem?_append_left (by omega), List.getElem?_take, if_pos (by omega), List.getElem?_eq_getElem (by rw [srtJ_len]; omega)]
  rfl
theorem curJ_swap (k : C6) {l : List Nat} {e p : Nat} (ha : p + 1 ≤ e) : ((curJ k l e (p + 1)).set (p + 1) ((srtJ k l e)[p]?.getD 0)).set p (l[e]?.getD 0) = curJ k l e p := by
  have hp : p < (srtJ k l e).length := by rw [srtJ_len]; omega
  have h1 : ((srtJ k l e).take p).length = p := by rw [List.length_take, srtJ_len]; omega
  have e1 : (srtJ k l e).take (p + 1) = (srtJ k l e).take p ++ [(srtJ k l e)[p]] := by rw [List.take_add_one, List.getElem?_eq_getElem hp]; rfl
  have e2 : (srtJ k l e).drop p = (srtJ k l e)[p] :: (srtJ k l e).drop (p + 1) := List.drop_eq_getElem_cons hp
  have e3 : (srtJ k l e)[p]?.getD 0 = (srtJ k l e)[p] := by rw [List.getElem?_eq_getElem hp]; rfl
  rw [curJ, curJ, e1, e2, e3]
  generalize (srtJ k l e).take p = A at *
  generalize (srtJ k l e)[p] = y at *
  generalize (srtJ k l e).drop (p + 1) = B at *
  generalize l[e]?.getD 0 = x at *
  generalize l.drop (e + 1) = C at *
  have g1 : A ++ [y] ++ x :: B ++ C = A ++ (y :: x :: (B ++ C)) := by simp
  have g2 : A ++ x :: (y :: B) ++ C = A ++ (x :: y :: (B ++ C)) := by simp
  rw [g1, g2, List.set_append_right _ _ (by omega), List.set_append_right _ _ (by omega), h1, show p + 1 - p = 1 by omega, show p - p = 0 by omega]
  rfl
theorem curJ_end (k : C6) {l : List Nat} {e a : Nat} (h : cutK (fun q => decide (stpJ k (l[e]?.getD 0) < stpJ k ((srtJ k l e)[q]?.getD 0))) e = a) : curJ k l e a = bakJ k l (e + 1) := by
  have h1 : srtJ k l (e + 1) = insJ k (l[e]?.getD 0) (srtJ k l e) := rfl
  rw [bakJ, h1, insJ, srtJ_len, h, curJ]
  simp
theorem ids_rise {k : C6} (hk : clusterB k = true) {i j : Nat} (hij : i < j) (hj : j < k.txs.length) : (atT k.txs i).id < (atT k.txs j).id := by
  simp only [clusterB, Bool.and_eq_true] at hk
  have ht := hk.2
  have step : ∀ m, m + 1 < k.txs.length → (atT k.txs m).id < (atT k.txs (m + 1)).id := fun m hm => by
    have := List.all_eq_true.1 ht (m + 1) (List.mem_range.2 hm)
    simp only [txAtB, Bool.and_eq_true, Bool.or_eq_true, decide_eq_true_eq] at this
    have h2 := this.1.1.1.1.2
    rcases h2 with h2 | h2
    · omega
    · exact h2
  induction j with
  | zero => omega
  | succ j ih =>
    rcases Nat.lt_or_ge i j with h | h
    · exact Int.lt_trans (ih h (by omega)) (step j hj)
    · have : i = j := by omega
      subst this
      exact step i hj
theorem met_less {k : C6} (hk : clusterB k = true) {n e q : Nat} (hn : n ≤ k.txs.length) (he : e < (tolJ k n).length) (hq : q < e) : (atT k.txs ((srtJ k (tolJ k n) e)[q]?.getD 0)).id < (atT k.txs ((tolJ k n)[e]?.getD 0)).id := by
  have hp : q < (srtJ k (tolJ k n) e).length := by rw [srtJ_len]; exact hq
  have hm := srtJ_mem k (tolJ k n) e (by omega) _ (List.getElem_mem hp)
  rw [List.getElem?_eq_getElem hp, List.getElem?_eq_getElem he, Option.getD_some, Option.getD_some]
  obtain ⟨z, hz, hze⟩ := List.getElem_of_mem hm
  rw [List.length_take] at hz
  rw [List.getElem_take] at hze
  have hr := List.pairwise_iff_getElem.1 (tolJ_rise k n) z e (by omega) he (by omega)
  rw [← hze]
  exact ids_rise hk hr (Nat.lt_of_lt_of_le (tolJ_lt k n _ (List.getElem_mem he)) hn)
end Go.Proofs.YtdmpobegobfpjaaGreat
namespace Go.Proofs.YtdmpobegobfpjaaGreat
open Go.RowKit
open Go.Sort (grow)
def RwX (W : World) (base b : Nat) (xs : List (tx.TV × tx.T7)) : Prop := AtX W b 0 xs ∧ Room W b (xs.length * 7) ∧ base ≤ b ∧ b < W.heap.size
theorem RwX.later {W W' : World} {base b : Nat} {xs : List (tx.TV × tx.T7)} (h : RwX W base b xs) (hb : Below W.heap.size W W') : RwX W' base b xs := ⟨h.1.below hb h.2.2.2, h.2.1.below hb h.2.2.2, h.2.2.1, Nat.lt_of_lt_of_le h.2.2.2 hb.size⟩
theorem RwX.put {W : World} {base b i : Nat} {xs : List (tx.TV × tx.T7)} (h : RwX W base b xs) (hi : i < xs.length) (y : tx.TV × tx.T7) : RwX (putB W b (i * 7) (cellsT y)) base b (xs.set i y) := by
  refine ⟨fun j x hx t u hu => ?_, by rw [List.length_set]; exact putB_room _ _ _ h.2.1, h.2.2.1, by rw [putB_size]; exact h.2.2.2⟩
  have ht : t < 7 := by have := (List.getElem?_eq_some_iff.1 hu).1; rwa [cellsT_len] at this
  rw [Nat.zero_add]
  by_cases e : i = j
  · subst e
    rw [List.getElem?_set_self hi] at hx
    cases hx
    exact putB_cell (cellsT y) W (i * 7) (fun j h1 h2 => by
      rw [cellsT_len] at h2
      obtain ⟨v, hv, _⟩ := h.2.1 j (by omega)
      exact ⟨v, hv⟩) t u hu
  · rw [List.getElem?_set_ne e] at hx
    have := h.1 j x hx t u hu
    rw [Nat.zero_add] at this
    rw [putB_out _ _ _ (by rw [cellsT_len]; omega)]
    exact this
theorem RowX.rw {W : World} {base b c : Nat} {xs : List (tx.TV × tx.T7)} (h : RowX W base (.slice (some ⟨b, 0, none⟩) xs.length c) xs) : RwX W base b xs := by
  have ha := RowX.at h
  refine ⟨ha.1, fun j hj => ?_, ha.2.1, ha.2.2.1⟩
  rcases h.2 with ⟨e, h0⟩ | ⟨q, cap, cur, e, hb, hg, hl, hm, hsz, hcur⟩
  · cases e
  · cases e
    have hj' : j < cur.size := by rw [hsz]; exact Nat.lt_of_lt_of_le hj (Nat.mul_le_mul_right _ hl)
    exact ⟨cur[j], by simp [World.cell?, hg, hj'], by simp [World.frozen?, hg]⟩
set_option maxHeartbeats 2000000 in
theorem cmpOr_any (w : World) (b : Nat) (x y : Int) (h0 : w.cell? ⟨b, 0, none⟩ = some (.int .i64 x)) (h1 : w.cell? ⟨b, 1, none⟩ = some (.int .i64 y)) :
    Calls Tryz.prog 125 #[.slice (some ⟨b, 0, none⟩) 2 2] w fun e w' => e = .returned (.int .i64 (if x = 0 then y else x)) ∧ w' = w := by
  obtain ⟨z, hz⟩ : ∃ z, z = if x = 0 then y else x := ⟨_, rfl⟩
  rw [← hz]
  have HZ := hidOf hz
  clear hz
  go_enter Tryz.func125, Tryz.ntmps125
  go_wp2
  go_loopw [8] (fun v wr => ∃ j : Nat, j ≤ 2 ∧ v = .int .i64 j ∧ wr = w ∧ (1 ≤ j → x = 0) ∧ (2 ≤ j → y = 0)) (fun v _ => 2 - (intOf v).toNat)
  case atStart => exact ⟨0, by omega, rfl, rfl, fun h => absurd h (by omega), fun h => absurd h (by omega)⟩
  case round =>
    obtain ⟨j, hj, rfl, rfl, hx, hy⟩ := hrel
    rcases j with _ | _ | _ | j
    · by_cases e : x = 0
      · have d : (x != 0) = false := by simp [e]
        have HX := hidOf e
        clear hx hy e
        go_wp2
        exact ⟨⟨1, by omega, by simp, by simp, fun _ => HX.out, fun h => absurd h (by omega)⟩, by simp [intOf]⟩
      · have d : (x != 0) = true := by simp [e]
        have HX := hidOf e
        clear hx hy e
        go_wp2
        go_ret
        exact ⟨by rw [HZ.out, if_neg HX.out]; rfl, rfl⟩
    · have HX : Hid (x = 0) := hx (by omega)
      by_cases e : y = 0
      · have d : (y != 0) = false := by simp [e]
        have HY := hidOf e
        clear hx hy e
        go_wp2
        exact ⟨⟨2, by omega, by simp, by simp, fun _ => HX.out, fun _ => HY.out⟩, by simp [intOf]⟩
      · have d : (y != 0) = true := by simp [e]
        clear hx hy e
        go_wp2
        go_ret
        exact ⟨by rw [HZ.out, if_pos HX.out]; rfl, rfl⟩
    · have HX : Hid (x = 0 ∧ y = 0) := ⟨hx (by omega), hy (by omega)⟩
      clear hx hy
      go_wp2
      go_ret
      exact ⟨by rw [HZ.out, if_pos HX.out.1, HX.out.2]; rfl, rfl⟩
    · omega
def stmC (a b : tx.T7) : Int := if cmpI a.stamp b.stamp = 0 then cmpI a.id b.id else cmpI a.stamp b.stamp
theorem stmC_less {a b : tx.T7} (h : b.id < a.id) : decide (stmC a b < 0) = decide (a.stamp < b.stamp) := by
  unfold stmC cmpI
  by_cases h1 : a.stamp < b.stamp
  · simp [h1]
  · by_cases h2 : b.stamp < a.stamp
    · simp [h1, h2]
    · have h3 : ¬ a.id < b.id := by omega
      simp [h1, h2, h3, h]
set_option maxRecDepth 100000 in
set_option maxHeartbeats 8000000 in
theorem byStamp_any (w : World) (u v : tx.TV) (s t : tx.T7) :
    Calls Tryz.prog 71 #[.agg #[.int .i64 s.id, .int .i64 s.home, .int .i64 s.phase, .int .i64 s.count, .slice u.ar s.reads.length u.cr, .slice u.ah s.sets.length u.ch, .int .i64 s.stamp], .agg #[.int .i64 t.id, .int .i64 t.home, .int .i64 t.phase, .int .i64 t.count, .slice v.ar t.reads.length v.cr, .slice v.ah t.sets.length v.ch, .int .i64 t.stamp]] w fun e w' => e = .returned (.int .i64 (stmC s t)) ∧ Below w.heap.size w w' := by
  obtain ⟨U, hU⟩ : ∃ Y, Y = (w.alloc (.cells #[.int .i64 s.id, .int .i64 s.home, .int .i64 s.phase, .int .i64 s.count, .slice u.ar s.reads.length u.cr, .slice u.ah s.sets.length u.ch, .int .i64 s.stamp] 55)).alloc (.cells #[.int .i64 t.id, .int .i64 t.home, .int .i64 t.phase, .int .i64 t.count, .slice v.ar t.reads.length v.cr, .slice v.ah t.sets.length v.ch, .int .i64 t.stamp] 55) := ⟨_, rfl⟩
  obtain ⟨U0, hU0⟩ : ∃ Y, Y = w.alloc (.cells #[.int .i64 s.id, .int .i64 s.home, .int .i64 s.phase, .int .i64 s.count, .slice u.ar s.reads.length u.cr, .slice u.ah s.sets.length u.ch, .int .i64 s.stamp] 55) := ⟨_, rfl⟩
  have b0 : Below w.heap.size w U0 := by rw [hU0]; exact (Below.refl _ _).alloc (Nat.le_refl _) _
  have s0 : U0.heap.size = w.heap.size + 1 := by rw [hU0]; simp
  have x0 : Bx U0 w.heap.size [.int .i64 s.id, .int .i64 s.home, .int .i64 s.phase, .int .i64 s.count, .slice u.ar s.reads.length u.cr, .slice u.ah s.sets.length u.ch, .int .i64 s.stamp] := by rw [hU0]; exact Bx.made w [.int .i64 s.id, .int .i64 s.home, .int .i64 s.phase, .int .i64 s.count, .slice u.ar s.reads.length u.cr, .slice u.ah s.sets.length u.ch, .int .i64 s.stamp] _
  have hU1 : U = U0.alloc (.cells #[.int .i64 t.id, .int .i64 t.home, .int .i64 t.phase, .int .i64 t.count, .slice v.ar t.reads.length v.cr, .slice v.ah t.sets.length v.ch, .int .i64 t.stamp] 55) := by rw [hU, hU0]
  have b1 : Below U0.heap.size U0 U := by rw [hU1]; exact (Below.refl _ _).alloc (Nat.le_refl _) _
  have x1 : Bx U (w.heap.size + 1) [.int .i64 t.id, .int .i64 t.home, .int .i64 t.phase, .int .i64 t.count, .slice v.ar t.reads.length v.cr, .slice v.ah t.sets.length v.ch, .int .i64 t.stamp] := by rw [hU1, ← s0]; exact Bx.made U0 [.int .i64 t.id, .int .i64 t.home, .int .i64 t.phase, .int .i64 t.count, .slice v.ar t.reads.length v.cr, .slice v.ah t.sets.length v.ch, .int .i64 t.stamp] _
  have BU : Hid (Below w.heap.size w U ∧ w.heap.size + 1 < U.heap.size) := ⟨bstep b0 b1, x1.2.2⟩
  have x0' := x0.later b1
  have hS : (fun X : World => Below U.heap.size U X ∧ X.cell? ⟨w.heap.size, 6, none⟩ = some (.int .i64 s.stamp) ∧ X.cell? ⟨w.heap.size, 0, none⟩ = some (.int .i64 s.id) ∧ X.cell? ⟨w.heap.size + 1, 6, none⟩ = some (.int .i64 t.stamp) ∧ X.cell? ⟨w.heap.size + 1, 0, none⟩ = some (.int .i64 t.id)) U.drew := ⟨(Below.refl _ _).drew, x0'.1 6 _ rfl, x0'.1 0 _ rfl, x1.1 6 _ rfl, x1.1 0 _ rfl⟩
  have KS : Hid (stmC s t = if cmpI s.stamp t.stamp = 0 then cmpI s.id t.id else cmpI s.stamp t.stamp) := rfl
  clear hU0 hU1 b0 b1 x0 x0' x1 s0 U0
  generalize stmC s t = sc at *
  go_enter Tryz.func71, Tryz.ntmps71
  go_wp2_with fail
  rw [← hU]
  clear hU
  refine wp_region_z (fun _ => false) (fun X : World => Below U.heap.size U X ∧ X.cell? ⟨w.heap.size, 6, none⟩ = some (.int .i64 s.stamp) ∧ X.cell? ⟨w.heap.size, 0, none⟩ = some (.int .i64 s.id) ∧ X.cell? ⟨w.heap.size + 1, 6, none⟩ = some (.int .i64 t.stamp) ∧ X.cell? ⟨w.heap.size + 1, 0, none⟩ = some (.int .i64 t.id)) (by kernel_rfl) ?_
  generalize U.drew = Wd at *
  refine wpZ_takeP (i := 0) (v := ?_) rfl (by kernel_rfl) (fun _ _ _ h => h) (Or.inl ⟨by rfl, ?_⟩) hS ?_
  rotate_left
  · (intro w _; go_simp; first | done | with_reducible rfl)
  simp only [Act.put]
  refine wpZ_take (i := 1) (v := ?_) rfl (by kernel_rfl) (fun _ _ _ h => h) (Or.inl ⟨by rfl, ?_⟩) hS ?_
  rotate_left
  · (intro w hSw; obtain ⟨-, s0, s1, s2, s3⟩ := hSw; go_simp; first | done | with_reducible rfl)
  simp only [Act.put]
  refine wpZ_takeP (i := 2) (v := ?_) rfl (by kernel_rfl) (fun _ _ _ h => h) (Or.inl ⟨by rfl, ?_⟩) hS ?_
  rotate_left
  · (intro w _; go_simp; first | done | with_reducible rfl)
  simp only [Act.put]
  refine wpZ_take (i := 3) (v := ?_) rfl (by kernel_rfl) (fun _ _ _ h => h) (Or.inl ⟨by rfl, ?_⟩) hS ?_
  rotate_left
  · (intro w hSw; obtain ⟨-, s0, s1, s2, s3⟩ := hSw; go_simp; first | done | with_reducible rfl)
  simp only [Act.put]
  refine wpZ_takeP (i := 5) (v := ?_) rfl (by kernel_rfl) (fun _ _ _ h => h) (Or.inl ⟨by rfl, ?_⟩) hS ?_
  rotate_left
  · (intro w _; go_simp; first | done | with_reducible rfl)
  simp only [Act.put]
  refine wpZ_take (i := 6) (v := ?_) rfl (by kernel_rfl) (fun _ _ _ h => h) (Or.inl ⟨by rfl, ?_⟩) hS ?_
  rotate_left
  · (intro w hSw; obtain ⟨-, s0, s1, s2, s3⟩ := hSw; go_simp; first | done | with_reducible rfl)
  simp only [Act.put]
  refine wpZ_takeP (i := 7) (v := ?_) rfl (by kernel_rfl) (fun _ _ _ h => h) (Or.inl ⟨by rfl, ?_⟩) hS ?_
  rotate_left
  · (intro w _; go_simp; first | done | with_reducible rfl)
  simp only [Act.put]
  refine wpZ_take (i := 8) (v := ?_) rfl (by kernel_rfl) (fun _ _ _ h => h) (Or.inl ⟨by rfl, ?_⟩) hS ?_
  rotate_left
  · (intro w hSw; obtain ⟨-, s0, s1, s2, s3⟩ := hSw; go_simp; first | done | with_reducible rfl)
  simp only [Act.put]
  refine wpZ_ready (rs := [4]) (by kernel_rfl) (by simp) ?_
  refine AllZ.cons rfl (fun K hK => ?_) AllZ.nil
  go_simp
  refine (compare_any _ _ _).mono ?_
  rintro e X2 ⟨rfl, rfl⟩
  refine hK.out _ _ (fun _ => hS) ?_
  clear hK K
  refine wpZ_ready (rs := [9]) (by kernel_rfl) (by simp) ?_
  refine AllZ.cons rfl (fun K hK => ?_) AllZ.nil
  go_simp
  refine (compare_any _ _ _).mono ?_
  rintro e X2 ⟨rfl, rfl⟩
  refine hK.out _ _ (fun _ => hS) ?_
  clear hK K
  generalize cmpI s.stamp t.stamp = c1 at *
  generalize cmpI s.id t.id = c2 at *
  refine wpZ_ready (rs := [10]) (by kernel_rfl) (by simp) ?_
  refine AllZ.cons rfl (fun K hK => ?_) AllZ.nil
  go_simp
  have hA : ∀ o, Below U.heap.size U (X2.alloc o) ∧ (X2.alloc o).cell? ⟨w.heap.size, 6, none⟩ = some (.int .i64 s.stamp) ∧ (X2.alloc o).cell? ⟨w.heap.size, 0, none⟩ = some (.int .i64 s.id) ∧ (X2.alloc o).cell? ⟨w.heap.size + 1, 6, none⟩ = some (.int .i64 t.stamp) ∧ (X2.alloc o).cell? ⟨w.heap.size + 1, 0, none⟩ = some (.int .i64 t.id) := fun o => by
    have h1 := hS.1.size
    have h2 := BU.out.2
    have b : Below X2.heap.size X2 (X2.alloc o) := (Below.refl _ _).alloc (Nat.le_refl _) o
    have hc : ∀ q j, q < X2.heap.size → (X2.alloc o).cell? ⟨q, j, none⟩ = X2.cell? ⟨q, j, none⟩ := fun q j hq => b.cell (p := ⟨q, j, none⟩) hq
    exact ⟨hS.1.alloc h1 o, (hc _ _ (by omega)).trans hS.2.1, (hc _ _ (by omega)).trans hS.2.2.1, (hc _ _ (by omega)).trans hS.2.2.2.1, (hc _ _ (by omega)).trans hS.2.2.2.2⟩
  refine hK.out _ _ (fun _ => hA _) ?_
  clear hK K
  refine wpZ_ready (rs := [11]) (by kernel_rfl) (by simp) ?_
  refine AllZ.cons rfl (fun K hK => ?_) AllZ.nil
  go_simp
  refine (cmpOr_any _ _ c1 c2 (by go_simp) (by go_simp)).mono ?_
  rintro e X3 ⟨rfl, rfl⟩
  refine hK.out _ _ (fun _ => hA _) ?_
  clear hK K
  refine wpZ_ready (rs := [12]) (by kernel_rfl) (by simp) ?_
  refine AllZ.cons rfl (fun K hK => ?_) AllZ.nil
  go_simp
  refine hK.out _ _ (fun _ => hA _) ?_
  clear hK K
  refine wpZ_done (by kernel_rfl) ?_ _
  rw [← KS.out]
  have HE : Hid (∀ o, Below w.heap.size w (X2.alloc o)) := fun o => bstep BU.out.1 (hA o).1
  clear hA hS KS
  go_wp2
  go_ret
  exact ⟨rfl, HE.out _⟩
end Go.Proofs.YtdmpobegobfpjaaGreat