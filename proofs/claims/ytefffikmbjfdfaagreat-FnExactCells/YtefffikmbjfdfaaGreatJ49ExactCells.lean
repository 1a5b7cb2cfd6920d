/- CelI; Opens; OpenCells: joined. -/
import Derived.Test.YtefffikmbjfdfaaGreatRows
import Derived.Test.YtefffikmbjfdfaaGreatJ46ExactCells
import Derived.Test.YtefffikmbjfdfaaGreatJ48ExactCells
import Derived.WalkKit
import Derived.WalkSpells
import Derived.WalkLawsBesides
import Derived.Below
import Derived.Lib.QuietBelow
import Derived.BigQuiet
import Derived.Deep.CutRange
import Derived.Test.YtefffikmbjfdfaaGreatJ0ExactCells
import Derived.ProofKit
import Derived.OpenShut
import Derived.Test.YtefffikmbjfdfaaGreatCellsJ
import Derived.Deep.Slices
import Derived.Lib.SmallJoins
/- Cells, by the program. -/
namespace Go.Proofs.YtefffikmbjfdfaaGreat
open Go.RowKit
open Go.Sort (grow)
set_option maxRecDepth 100000 in
set_option maxHeartbeats 4000000 in
theorem implCells_any (w : World) (a1 : Option Addr) (c1 : Nat) (a2 : Option Addr) (c2 : Nat) (a3 : Option Addr) (c3 : Nat) (k : C6) (y : Int) (hl : KCl.L k) (h : KCl.Rd w a1 c1 a2 c2 a3 c3 k) : Calls Tryz.prog 19 #[.agg #[.int .i64 k.config, .int .i64 k.clock, .slice a1 k.places.length c1, .slice a2 k.machines.length c2, .slice a3 k.txs.length c3, .bool k.lost], .int .i64 y] w (CAns w (celN k y) (celB k y)) := by
  have hnp := hl.p
  have hnm := hl.m
  unfold maxLen at hnp hnm
  obtain ⟨U, hU⟩ : ∃ Y, Y = w.alloc (.cells #[.int .i64 k.config, .int .i64 k.clock, .slice a1 k.places.length c1, .slice a2 k.machines.length c2, .slice a3 k.txs.length c3, .bool k.lost] 33) := ⟨_, rfl⟩
  have b0 : Below w.heap.size w U := by rw [hU]; exact (Below.refl _ _).alloc (Nat.le_refl _) _
  have FA : Hid (Bx U w.heap.size [.int .i64 k.config, .int .i64 k.clock, .slice a1 k.places.length c1, .slice a2 k.machines.length c2, .slice a3 k.txs.length c3, .bool k.lost]) := by unfold Hid; rw [hU]; exact Bx.made w [.int .i64 k.config, .int .i64 k.clock, .slice a1 k.places.length c1, .slice a2 k.machines.length c2, .slice a3 k.txs.length c3, .bool k.lost] _
  have HR : Hid (KCl.Rd U a1 c1 a2 c2 a3 c3 k ∧ KCl.L k ∧ Below w.heap.size w U) := ⟨h.later b0, hl, b0⟩
  clear b0 h hl
  have hc := implClusterOk_any U a1 c1 a2 c2 a3 c3 k HR.out.2.1 HR.out.1
  go_enter Tryz.func19, Tryz.ntmps19
  go_wp2_with fail
  rw [← hU]
  clear hU
  refine hc.mono ?_
  clear hc
  rintro e w1 ⟨rfl, b1⟩
  have B1 := hidOf b1
  clear b1
  cases hB : clusterB k with
  | false =>
    have HN := hidOf (cel_no (k := k) (y := y) (fun h => by rw [h.1] at hB; cases hB))
    go_wp2
    exact bodyPost_ret (v := .tuple #[.slice none 0 0, .bool false]) (by simp [results, Tryz.results19, go_sem]) rfl (CAns.zero HN.out _ _ (bstep HR.out.2.2 B1.out))
  | true =>
  have hp : placesB k.places = true := by
    rw [clusterB_eq] at hB
    simp only [Bool.and_eq_true] at hB
    exact hB.2.2.2.1
  have p2 := (FA.out.later B1.out).1 2 _ rfl
  have hc := hasPlace_any w1 a1 k.places.length c1 y k.places HR.out.2.1.p (HR.out.1.p.later B1.out)
  go_wp2_with fail
  refine hc.mono ?_
  clear hc p2
  rintro e w2 ⟨rfl, b2⟩
  have B2 : Hid (Below U.heap.size U w2) := bstep B1.out b2
  clear b2
  cases hI : regionB k.places y with
  | false =>
    have HN := hidOf (cel_no (k := k) (y := y) (fun h => by
      have : regionB k.places y = true := by
        simp only [regionB, Bool.and_eq_true]
        exact ⟨hp, inB_iff.2 ⟨h.2.1, by omega⟩⟩
      rw [this] at hI; cases hI))
    go_wp2
    exact bodyPost_ret (v := .tuple #[.slice none 0 0, .bool false]) (by simp [results, Tryz.results19, go_sem]) rfl (CAns.zero HN.out _ _ (bstep HR.out.2.2 B2.out))
  | true =>
  obtain ⟨i, rfl, hi, hz3, -⟩ := region_bd hI
  obtain ⟨z, hz, hzl, -, hpm, hmB, hhas⟩ := clu_pri hB hi
  have hpr : primR k.places (i : Int) = (z : Int) := by rw [primR, if_pos hI, Int.toNat_natCast]; exact hz
  have hML := HR.out.2.1.ms _ (List.mem_of_getElem? (atM_of hzl))
  rcases HR.out.1.m with hs | ⟨b2, off2, rfl, hb2, h1⟩
  · rw [hs] at hzl; simp at hzl
  obtain ⟨⟨m0, m1, m2, m3, m4, m5⟩, hat, hrd⟩ := h1 z _ (atM_of hzl)
  have i2 : (z : Int) < (k.machines.length : Int) := by omega
  have SF : Hid (∀ X, Below U.heap.size U X → (fun X : World => Bx X w.heap.size [.int .i64 k.config, .int .i64 k.clock, .slice a1 k.places.length c1, .slice (some ⟨b2, off2, none⟩) k.machines.length c2, .slice a3 k.txs.length c3, .bool k.lost] ∧ X.cell? ⟨b2, off2 + z * 4, none⟩ = some (.bool (atM k.machines z).alive) ∧ X.cell? ⟨b2, off2 + z * 4 + 1, none⟩ = some (.slice m0 (atM k.machines z).copies.length m1) ∧ X.cell? ⟨b2, off2 + z * 4 + 2, none⟩ = some (.slice m2 (atM k.machines z).log.length m3) ∧ X.cell? ⟨b2, off2 + z * 4 + 3, none⟩ = some (.slice m4 (atM k.machines z).cleared.length m5)) X) := fun X hX => ⟨FA.out.later hX, (hX.cell (p := ⟨b2, off2 + z * 4, none⟩) hb2).trans (hat 0 _ rfl), (hX.cell (p := ⟨b2, off2 + z * 4 + 1, none⟩) hb2).trans (hat 1 _ rfl), (hX.cell (p := ⟨b2, off2 + z * 4 + 2, none⟩) hb2).trans (hat 2 _ rfl), (hX.cell (p := ⟨b2, off2 + z * 4 + 3, none⟩) hb2).trans (hat 3 _ rfl)⟩
  have HK : Hid (SlK U U.heap.size m0 (atM k.machines z).copies.length (atM k.machines z).copies ∧ ML (atM k.machines z) ∧ machB (atM k.machines z) = true) := ⟨hrd.k, hML, hmB⟩
  have HH : Hid (clusterB k = true ∧ i < k.places.length ∧ priM k i = atM k.machines z ∧ ((atM k.machines z).alive = true → hasC (atM k.machines z) (i : Int) = true)) := ⟨hB, hi, hpm, hhas⟩
  clear h1 hat hrd hML hmB hhas hpm hz hp hI
  go_wp2_with fail
  have bd : Below U.heap.size U w2.drew := B2.out.drew
  have hS := SF.out _ bd
  refine wp_region_z (fun z => z == 13) (fun X : World => Bx X w.heap.size [.int .i64 k.config, .int .i64 k.clock, .slice a1 k.places.length c1, .slice (some ⟨b2, off2, none⟩) k.machines.length c2, .slice a3 k.txs.length c3, .bool k.lost] ∧ X.cell? ⟨b2, off2 + z * 4, none⟩ = some (.bool (atM k.machines z).alive) ∧ X.cell? ⟨b2, off2 + z * 4 + 1, none⟩ = some (.slice m0 (atM k.machines z).copies.length m1) ∧ X.cell? ⟨b2, off2 + z * 4 + 2, none⟩ = some (.slice m2 (atM k.machines z).log.length m3) ∧ X.cell? ⟨b2, off2 + z * 4 + 3, none⟩ = some (.slice m4 (atM k.machines z).cleared.length m5)) (by kernel_rfl) ?_
  generalize w2.drew = Wd at *
  refine wpZ_takeP (i := 0) (v := ?_) rfl (by kernel_rfl) (fun _ _ _ h => h) (Or.inl ⟨by rfl, ?_⟩) hS ?_
  rotate_left
  · (intro X _; go_simp; first | done | with_reducible rfl)
  simp only [Act.put]
  refine wpZ_take (i := 1) (v := ?_) rfl (by kernel_rfl) (fun _ _ _ h => h) (Or.inl ⟨by rfl, ?_⟩) hS ?_
  rotate_left
  · (intro X hSw; have c0 := hSw.1.1 0 _ rfl; have c1 := hSw.1.1 1 _ rfl; have c2 := hSw.1.1 2 _ rfl; have c3 := hSw.1.1 3 _ rfl; have c4 := hSw.1.1 4 _ rfl; have c5 := hSw.1.1 5 _ rfl; go_simp; first | done | with_reducible rfl)
  simp only [Act.put]
  refine wpZ_takeP (i := 2) (v := ?_) rfl (by kernel_rfl) (fun _ _ _ h => h) (Or.inl ⟨by rfl, ?_⟩) hS ?_
  rotate_left
  · (intro X _; go_simp; first | done | with_reducible rfl)
  simp only [Act.put]
  refine wpZ_take (i := 3) (v := ?_) rfl (by kernel_rfl) (fun _ _ _ h => h) (Or.inl ⟨by rfl, ?_⟩) hS ?_
  rotate_left
  · (intro X hSw; have c0 := hSw.1.1 0 _ rfl; have c1 := hSw.1.1 1 _ rfl; have c2 := hSw.1.1 2 _ rfl; have c3 := hSw.1.1 3 _ rfl; have c4 := hSw.1.1 4 _ rfl; have c5 := hSw.1.1 5 _ rfl; go_simp; first | done | with_reducible rfl)
  simp only [Act.put]
  refine wpZ_takeP (i := 4) (v := ?_) rfl (by kernel_rfl) (fun _ _ _ h => h) (Or.inl ⟨by rfl, ?_⟩) hS ?_
  rotate_left
  · (intro X _; go_simp; first | done | with_reducible rfl)
  simp only [Act.put]
  refine wpZ_takeP (i := 9) (v := ?_) rfl (by kernel_rfl) (fun _ _ _ h => h) (Or.inl ⟨by rfl, ?_⟩) hS ?_
  rotate_left
  · (intro X _; go_simp; first | done | with_reducible rfl)
  simp only [Act.put]
  refine wpZ_ready (rs := [5]) (by kernel_rfl) (by simp) ?_
  refine AllZ.cons rfl (fun K hK => ?_) AllZ.nil
  go_simp
  refine (implPrimary_any Wd a1 k.places.length c1 (i : Int) k.places HR.out.2.1.p (HR.out.1.p.later bd)).mono ?_
  rw [hpr]
  rintro e X1 ⟨rfl, b1⟩
  have bX := bstep bd b1
  refine hK.out _ _ (fun _ => SF.out _ bX) ?_
  clear hK K
  have hS := SF.out _ bX
  refine wpZ_takeP (i := 6) (v := ?_) rfl (by kernel_rfl) (fun _ _ _ h => h) (Or.inl ⟨by rfl, ?_⟩) hS ?_
  rotate_left
  · (intro X _; go_simp; first | done | with_reducible rfl)
  simp only [Act.put]
  refine wpZ_take (i := 7) (v := ?_) rfl (by kernel_rfl) (fun _ _ _ h => h) (Or.inl ⟨by rfl, ?_⟩) hS ?_
  rotate_left
  · (intro X hSw; have d0 := hSw.2.1; have d1 := hSw.2.2.1; have d2 := hSw.2.2.2.1; have d3 := hSw.2.2.2.2; go_simp; first | done | with_reducible rfl)
  simp only [Act.put]
  refine wpZ_ready (rs := [8]) (by kernel_rfl) (by simp) ?_
  refine AllZ.cons rfl (fun K hK => ?_) AllZ.nil
  go_simp
  refine (memberOf_any X1 m0 m1 m2 m3 m4 m5 (atM k.machines z)).mono ?_
  rintro e X2 ⟨rfl, b2⟩
  have bY := bstep bX b2
  refine hK.out _ _ (fun _ => SF.out _ bY) ?_
  clear hK K
  have hS := SF.out _ bY
  refine wpZ_ready (rs := [10]) (by kernel_rfl) (by simp) ?_
  refine AllZ.cons rfl (fun K hK => ?_) AllZ.nil
  go_simp
  refine (askCells_any X2 m0 m1 (atM k.machines z) (i : Int) HK.out.2.1 HK.out.2.2 (HK.out.1.later bY)).mono ?_
  rintro e X3 ⟨ha, b3⟩
  have bZ := bstep bY b3
  have KZ : Hid (Below w.heap.size w X3 ∧ w.heap.size ≤ X2.heap.size) := ⟨bstep HR.out.2.2 bZ, (bstep HR.out.2.2 bY).size⟩
  rcases ha with ⟨ha, ⟨hh, rfl⟩ | ⟨hh, j, q, cp, hj, hjl, rfl, h1, h2, h3, h4, h5⟩⟩ | ⟨ha, rfl⟩
  · have := HH.out.2.2.2 ha
    rw [hh] at this; cases this
  · have HN := hidOf (cel_yes (j := j) HH.out.1 HH.out.2.1 (by rw [HH.out.2.2.1]; exact ha) (by rw [HH.out.2.2.1]; exact hj))
    rw [HH.out.2.2.1] at HN
    have KF : Hid (w.heap.size ≤ q ∧ q < X3.heap.size ∧ CellsAt X3 q 0 (atK (atM k.machines z).copies j).cells ∧ Room X3 q ((atK (atM k.machines z).copies j).cells.length * 2)) := ⟨Nat.le_trans KZ.out.2 h1, h2, h4, h5⟩
    clear h1 h2 h3 h4 h5
    refine hK.out _ _ (fun _ => SF.out _ bZ) ?_
    clear hK K
    have hS := SF.out _ bZ
    refine wpZ_takeP (i := 11) (v := ?_) rfl (by kernel_rfl) (fun _ _ _ h => h) (Or.inl ⟨by rfl, ?_⟩) hS ?_
    rotate_left
    · (intro X _; go_simp; first | done | with_reducible rfl)
    simp only [Act.put]
    refine wpZ_takeP (i := 12) (v := ?_) rfl (by kernel_rfl) (fun _ _ _ h => h) (Or.inl ⟨by rfl, ?_⟩) hS ?_
    rotate_left
    · (intro X _; go_simp; first | done | with_reducible rfl)
    simp only [Act.put]
    refine wpZ_ready (rs := [13]) (by kernel_rfl) (by simp) ?_
    refine AllZ.cons rfl (fun K hK => ?_) AllZ.nil
    go_simp
    refine hK.out _ _ (fun h => absurd (show false = true from h.symm.trans (by kernel_rfl)) (by decide)) ?_
    clear hK K
    refine wpZ_ready (rs := [14]) (by kernel_rfl) (by simp) ?_
    refine AllZ.cons rfl (fun K hK => ?_) AllZ.nil
    go_simp
    refine hK.out _ _ (fun h => absurd (show false = true from h.symm.trans (by kernel_rfl)) (by decide)) ?_
    clear hK K
    refine wpZ_done (by kernel_rfl) ?_ _
    go_wp2
    exact bodyPost_ret (v := .tuple #[.slice (some ⟨q, 0, none⟩) (atK (atM k.machines z).copies j).cells.length cp, .bool true]) (by simp [results, Tryz.results19, go_sem]) rfl (CAns.some HN.out KF.out.1 KF.out.2.1 KF.out.2.2.1 KF.out.2.2.2 KZ.out.1)
  · have HN := hidOf (cel_no (k := k) (y := (i : Int)) (fun h => by
      have := h.2.2.2
      rw [Int.toNat_natCast, HH.out.2.2.1, ha] at this; cases this))
    refine hK.out _ _ (fun _ => SF.out _ bZ) ?_
    clear hK K
    have hS := SF.out _ bZ
    refine wpZ_takeP (i := 11) (v := ?_) rfl (by kernel_rfl) (fun _ _ _ h => h) (Or.inl ⟨by rfl, ?_⟩) hS ?_
    rotate_left
    · (intro X _; go_simp; first | done | with_reducible rfl)
    simp only [Act.put]
    refine wpZ_takeP (i := 12) (v := ?_) rfl (by kernel_rfl) (fun _ _ _ h => h) (Or.inl ⟨by rfl, ?_⟩) hS ?_
    rotate_left
    · (intro X _; go_simp; first | done | with_reducible rfl)
    simp only [Act.put]
    refine wpZ_ready (rs := [13]) (by kernel_rfl) (by simp) ?_
    refine AllZ.cons rfl (fun K hK => ?_) AllZ.nil
    go_simp
    refine hK.out _ _ (fun h => absurd (show false = true from h.symm.trans (by kernel_rfl)) (by decide)) ?_
    clear hK K
    refine wpZ_ready (rs := [14]) (by kernel_rfl) (by simp) ?_
    refine AllZ.cons rfl (fun K hK => ?_) AllZ.nil
    go_simp
    refine hK.out _ _ (fun h => absurd (show false = true from h.symm.trans (by kernel_rfl)) (by decide)) ?_
    clear hK K
    refine wpZ_done (by kernel_rfl) ?_ _
    go_wp2
    exact bodyPost_ret (v := .tuple #[.slice none 0 0, .bool false]) (by simp [results, Tryz.results19, go_sem]) rfl (CAns.zero HN.out _ _ KZ.out.1)
end Go.Proofs.YtefffikmbjfdfaaGreat
/- An argument that is a Set, opened: its value is five plain cells, each number of its kind. -/
namespace Go.Proofs.YtefffikmbjfdfaaGreat
open Go.ChangeShapes Go.WideShapes Go.ChangeAt Go.RowKit
def S5.cells (s : S5) : List Value := [.int .i64 s.region, .int .i64 s.slot, .int .i64 s.value, .bool s.used, .int .i64 s.version]
def S5.wf (s : S5) : Prop := (Lit.int .i64 s.region).wf = true ∧ (Lit.int .i64 s.slot).wf = true ∧ (Lit.int .i64 s.value).wf = true ∧ (Lit.int .i64 s.version).wf = true
theorem list5 {α : Type} {cs : List α} (h : cs.length = 5) : ∃ c0 c1 c2 c3 c4, cs = [c0, c1, c2, c3, c4] := by
  match cs, h with
  | [c0, c1, c2, c3, c4], _ => exact ⟨c0, c1, c2, c3, c4, rfl⟩
theorem cells_set : Tryz.prog.cellsOf 227 = 5 := by kernel_rfl
theorem cells_int : Tryz.prog.cellsOf 2 = 1 := by kernel_rfl
theorem cells_bool : Tryz.prog.cellsOf 4 = 1 := by kernel_rfl
theorem open_set {H : Type} {enc : TypeId × Value → H} {w : World} {base : Nat} {spare : Nat → Bool} {held : Bool} {fuel : Nat} {cs : List Value} {x : DataW H × List MemPlace}
    (h : DataW.trod enc Tryz.prog w base spare held fuel 227 cs = some x) : ∃ s : S5, cs = s.cells ∧ s.wf := by
  obtain ⟨xs, n, _, rfl, hl, hlen, hf⟩ := DataW.trod_struct Tryz.underlying227 h
  rw [cells_set] at hl
  obtain ⟨c0, c1, c2, c3, c4, rfl⟩ := list5 hl
  obtain ⟨y0, y1, y2, y3, y4, rfl⟩ := list5 hlen
  have h0 := hf 0 _ rfl
  have h1 := hf 1 _ rfl
  have h2 := hf 2 _ rfl
  have h3 := hf 3 _ rfl
  have h4 := hf 4 _ rfl
  simp [cells_int, cells_bool] at h0 h1 h2 h3 h4
  obtain ⟨z0, e0, _, f0⟩ := DataW.trod_int Tryz.underlying2 h0
  obtain ⟨z1, e1, _, f1⟩ := DataW.trod_int Tryz.underlying2 h1
  obtain ⟨z2, e2, _, f2⟩ := DataW.trod_int Tryz.underlying2 h2
  obtain ⟨z3, e3, _⟩ := DataW.trod_bool Tryz.underlying4 h3
  obtain ⟨z4, e4, _, f4⟩ := DataW.trod_int Tryz.underlying2 h4
  simp at e0 e1 e2 e3 e4
  subst e0 e1 e2 e3 e4
  exact ⟨⟨z0, z1, z2, z3, z4⟩, rfl, f0, f1, f2, f4⟩
end Go.Proofs.YtefffikmbjfdfaaGreat
/- An argument that is a row of cells, opened: cells in memory, two numbers each. -/
namespace Go.Proofs.YtefffikmbjfdfaaGreat
open Go.ChangeShapes Go.WideShapes Go.ChangeAt Go.RowKit Go.Deep
theorem list2 {α : Type} {cs : List α} (h : cs.length = 2) : ∃ c0 c1, cs = [c0, c1] := by
  match cs, h with
  | [c0, c1], _ => exact ⟨c0, c1, rfl⟩
theorem cells_cell : Tryz.prog.cellsOf 278 = 2 := by kernel_rfl
theorem cells_num : Tryz.prog.cellsOf 2 = 1 := by kernel_rfl
theorem open_cell {H : Type} {enc : TypeId × Value → H} {w : World} {base : Nat} {spare : Nat → Bool} {held : Bool} {fuel : Nat} {cs : List Value} {x : DataW H × List MemPlace}
    (h : DataW.trod enc Tryz.prog w base spare held fuel 278 cs = some x) : ∃ s : C2, cs = s.cells := by
  obtain ⟨xs, n, _, rfl, hl, hlen, hf⟩ := DataW.trod_struct Tryz.underlying278 h
  rw [cells_cell] at hl
  obtain ⟨c0, c1, rfl⟩ := list2 hl
  obtain ⟨y0, y1, rfl⟩ := list2 hlen
  have h0 := hf 0 _ rfl
  have h1 := hf 1 _ rfl
  simp [cells_num] at h0 h1
  obtain ⟨z0, e0, _, _⟩ := DataW.trod_int Tryz.underlying2 h0
  obtain ⟨z1, e1, _, _⟩ := DataW.trod_int Tryz.underlying2 h1
  simp at e0 e1
  subst e0 e1
  exact ⟨⟨z0, z1⟩, rfl⟩
theorem some_of {α : Type} {p : Nat → α → Prop} (n : Nat) (h : ∀ i, i < n → ∃ x, p i x) : ∃ xs : List α, xs.length = n ∧ ∀ i x, xs[i]? = some x → p i x := by
  induction n with
  | zero => exact ⟨[], rfl, fun i x e => by simp at e⟩
  | succ n ih =>
    obtain ⟨xs, hl, hx⟩ := ih fun i hi => h i (by omega)
    obtain ⟨y, hy⟩ := h n (by omega)
    refine ⟨xs ++ [y], by simp [hl], fun i x e => ?_⟩
    by_cases hi : i < xs.length
    · rw [List.getElem?_append_left hi] at e
      exact hx i x e
    · rw [List.getElem?_append_right (by omega)] at e
      have : i = xs.length := by
        by_cases h2 : i - xs.length = 0
        · omega
        · rw [List.getElem?_eq_none (by simp; omega)] at e; cases e
      subst this
      simp at e
      subst e
      rw [hl]; exact hy
theorem open_cellrow {H : Type} {enc : TypeId × Value → H} {w : World} {spare : Nat → Bool} {held : Bool} {fuel : Nat} {cs : List Value} {x : DataW H × List MemPlace}
    (h : DataW.trod enc Tryz.prog w 0 spare held fuel 216 cs = some x) : ∃ a n cap xs, cs = [.slice a n cap] ∧ n ≤ maxLen ∧ SlC w w.heap.size a n xs := by
  rcases open_slice Tryz.underlying216 h with ⟨rfl, _⟩ | ⟨a, len, cap, m, n, D, Pl, rfl, _, hl, hm, hmm, _, hx⟩
  · exact ⟨none, 0, 0, [], rfl, Nat.zero_le _, ⟨rfl, .inl rfl⟩⟩
  · have hlm : len ≤ m := by rw [hmm]; split <;> omega
    have key : ∀ i, i < len → ∃ s : C2, ∀ k, k < 2 → w.cell? ((a.add (i * 2)).add k) = s.cells[k]? := fun i hi => by
      obtain ⟨cs', h1, h2⟩ := hx i (by omega)
      rw [cells_cell] at h1
      obtain ⟨s, rfl⟩ := open_cell h2
      exact ⟨s, (World.cells?_some h1).2.2⟩
    obtain ⟨xs, hlen, hxs⟩ := some_of len key
    refine ⟨some a, len, cap, xs, rfl, by omega, ⟨hlen, ?_⟩⟩
    by_cases h0 : len = 0
    · exact .inl h0
    · right
      obtain ⟨b, off, spot⟩ := a
      obtain ⟨s, hs⟩ := key 0 (by omega)
      have c0 : w.cell? ⟨b, off, spot⟩ = some (.int .i64 s.head) := by simpa [Addr.add, C2.cells] using hs 0 (by omega)
      have hspot : spot = none := by simpa using World.cell?_spot c0
      subst hspot
      refine ⟨b, off, rfl, block_lt_of_cell c0, fun i s e => ?_⟩
      have hk := hxs i s e
      simp only [add_plain] at hk
      exact ⟨by simpa [C2.cells] using hk 0 (by omega), by simpa [C2.cells] using hk 1 (by omega)⟩
end Go.Proofs.YtefffikmbjfdfaaGreat
