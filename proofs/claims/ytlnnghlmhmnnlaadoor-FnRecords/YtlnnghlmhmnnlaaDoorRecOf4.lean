/- What the program's recordOf answers at just four numbers in a row without room. -/
import Derived.Test.YtlnnghlmhmnnlaaDoorRecOf
namespace Go.Proofs.YtlnnghlmhmnnlaaDoor
open Go.RowKit Go.Shelf
attribute [local go_sem] Oper.semAt_some
set_option maxRecDepth 100000 in
set_option maxHeartbeats 4000000 in
theorem recordOf_four (w : World) (g : Nat) (ns : List Int) (hc : ∀ j, j < 4 → w.cell? ⟨g, j, none⟩ = some (.int .i64 (nthI ns j))) (hg : g < w.heap.size) (h3 : nthI ns 3 = 0) :
    Calls Tryd.prog 28 #[.slice (some ⟨g, 0, none⟩) 4 4] w fun e w' => RecPost w ns 0 e w' := by
  have hca : ∀ (o o' : Obj) (j : Nat), ((w.alloc o).alloc o').cell? ⟨g, j, none⟩ = w.cell? ⟨g, j, none⟩ := fun o o' j => (((Below.refl w.heap.size w).alloc (Nat.le_refl _) o).alloc (by simp) o').cell (p := ⟨g, j, none⟩) hg
  have c3 : ∀ o o' : Obj, ((w.alloc o).alloc o').cell? ⟨g, 3, none⟩ = some (.int .i64 0) := fun o o' => (hca o o' 3).trans ((hc 3 (by omega)).trans (by rw [h3]))
  have HC : Hid (∀ j, j < 4 → w.cell? ⟨g, j, none⟩ = some (.int .i64 (nthI ns j))) := hc
  clear hca hc h3
  refine (callsIn_wide (n := 3)).1 ?_
  refine callsIn_of_wp_marks Tryd.func28 rfl trivial ?_ rfl
  simp only [Tryd.ntmps28, List.size_toArray, List.length_cons, List.length_nil, Nat.reduceAdd, Nat.reduceSub, Array.replicate_succ, Array.replicate_zero, List.push_toArray, List.append_toArray, List.nil_append, List.cons_append]
  refine wpIn_wide.2 ?_
  refine Code.wp_mono NoPanic.imp ?_
  go_wp2
  have a0 : ((w.alloc (.cells #[.int .i64 0, .int .i64 0, .int .i64 0, .slice none 0 0] 26)).alloc (.cells #[.bool false] 4)).cell? ⟨w.heap.size, 0, none⟩ = some (.int .i64 0) := by go_simp
  have a1 : ((w.alloc (.cells #[.int .i64 0, .int .i64 0, .int .i64 0, .slice none 0 0] 26)).alloc (.cells #[.bool false] 4)).cell? ⟨w.heap.size, 1, none⟩ = some (.int .i64 0) := by go_simp
  have a2 : ((w.alloc (.cells #[.int .i64 0, .int .i64 0, .int .i64 0, .slice none 0 0] 26)).alloc (.cells #[.bool false] 4)).cell? ⟨w.heap.size, 2, none⟩ = some (.int .i64 0) := by go_simp
  have a3 : ((w.alloc (.cells #[.int .i64 0, .int .i64 0, .int .i64 0, .slice none 0 0] 26)).alloc (.cells #[.bool false] 4)).cell? ⟨w.heap.size, 3, none⟩ = some (.slice none 0 0) := by go_simp
  have a4 : ((w.alloc (.cells #[.int .i64 0, .int .i64 0, .int .i64 0, .slice none 0 0] 26)).alloc (.cells #[.bool false] 4)).cell? ⟨w.heap.size + 1, 0, none⟩ = some (.bool false) := by go_simp
  have af : ∀ j, ((w.alloc (.cells #[.int .i64 0, .int .i64 0, .int .i64 0, .slice none 0 0] 26)).alloc (.cells #[.bool false] 4)).frozen? ⟨w.heap.size, j, none⟩ = false := by intro j; go_simp
  have af4 : ((w.alloc (.cells #[.int .i64 0, .int .i64 0, .int .i64 0, .slice none 0 0] 26)).alloc (.cells #[.bool false] 4)).frozen? ⟨w.heap.size + 1, 0, none⟩ = false := by go_simp
  have bU : Below w.heap.size w ((w.alloc (.cells #[.int .i64 0, .int .i64 0, .int .i64 0, .slice none 0 0] 26)).alloc (.cells #[.bool false] 4)) := ((Below.refl _ _).alloc (Nat.le_refl _) _).alloc (by simp) _
  have zU : ((w.alloc (.cells #[.int .i64 0, .int .i64 0, .int .i64 0, .slice none 0 0] 26)).alloc (.cells #[.bool false] 4)).heap.size = w.heap.size + 2 := by simp
  generalize ((w.alloc (.cells #[.int .i64 0, .int .i64 0, .int .i64 0, .slice none 0 0] 26)).alloc (.cells #[.bool false] 4)) = U at *
  have n0 := (bU.cell (p := ⟨g, 0, none⟩) hg).trans (HC.out 0 (by omega))
  have n1 := (bU.cell (p := ⟨g, 1, none⟩) hg).trans (HC.out 1 (by omega))
  have n2 := (bU.cell (p := ⟨g, 2, none⟩) hg).trans (HC.out 2 (by omega))
  have hgU : g < U.heap.size := by omega
  have hca : ∀ (o : Obj) (j : Nat), (U.alloc o).cell? ⟨g, j, none⟩ = U.cell? ⟨g, j, none⟩ := fun o j => ((Below.refl U.heap.size U).alloc (Nat.le_refl _) o).cell (p := ⟨g, j, none⟩) hgU
  have m0 : ∀ o : Obj, (U.alloc o).cell? ⟨g, 0, none⟩ = some (.int .i64 (nthI ns 0)) := fun o => (hca o _).trans n0
  have m1 : ∀ o : Obj, (U.alloc o).cell? ⟨g, 1, none⟩ = some (.int .i64 (nthI ns 1)) := fun o => (hca o _).trans n1
  have m2 : ∀ o : Obj, (U.alloc o).cell? ⟨g, 2, none⟩ = some (.int .i64 (nthI ns 2)) := fun o => (hca o _).trans n2
  have KU : Hid (U.cell? ⟨w.heap.size, 0, none⟩ = some (.int .i64 0) ∧ U.cell? ⟨w.heap.size, 1, none⟩ = some (.int .i64 0) ∧ U.cell? ⟨w.heap.size, 2, none⟩ = some (.int .i64 0) ∧ U.cell? ⟨w.heap.size, 3, none⟩ = some (.slice none 0 0) ∧ U.cell? ⟨w.heap.size + 1, 0, none⟩ = some (.bool false) ∧ (∀ j, U.frozen? ⟨w.heap.size, j, none⟩ = false) ∧ U.frozen? ⟨w.heap.size + 1, 0, none⟩ = false ∧ Below w.heap.size w U ∧ U.heap.size = w.heap.size + 2) := ⟨a0, a1, a2, a3, a4, af, af4, bU, zU⟩
  clear a0 a1 a2 a3 a4 af af4 bU zU hca c3
  go_region
  have r0 : (U.alloc (.cells #[.int .i64 (nthI ns 0), .int .i64 (nthI ns 1), .int .i64 (nthI ns 2), .slice none 0 0] 26)).drew.cell? ⟨U.heap.size, 0, none⟩ = some (.int .i64 (nthI ns 0)) := by go_simp
  have r1 : (U.alloc (.cells #[.int .i64 (nthI ns 0), .int .i64 (nthI ns 1), .int .i64 (nthI ns 2), .slice none 0 0] 26)).drew.cell? ⟨U.heap.size, 1, none⟩ = some (.int .i64 (nthI ns 1)) := by go_simp
  have r2 : (U.alloc (.cells #[.int .i64 (nthI ns 0), .int .i64 (nthI ns 1), .int .i64 (nthI ns 2), .slice none 0 0] 26)).drew.cell? ⟨U.heap.size, 2, none⟩ = some (.int .i64 (nthI ns 2)) := by go_simp
  have r3 : (U.alloc (.cells #[.int .i64 (nthI ns 0), .int .i64 (nthI ns 1), .int .i64 (nthI ns 2), .slice none 0 0] 26)).drew.cell? ⟨U.heap.size, 3, none⟩ = some (.slice none 0 0) := by go_simp
  have rf : (U.alloc (.cells #[.int .i64 (nthI ns 0), .int .i64 (nthI ns 1), .int .i64 (nthI ns 2), .slice none 0 0] 26)).drew.frozen? ⟨U.heap.size, 3, none⟩ = false := by go_simp
  have bV : Below U.heap.size U (U.alloc (.cells #[.int .i64 (nthI ns 0), .int .i64 (nthI ns 1), .int .i64 (nthI ns 2), .slice none 0 0] 26)).drew := ((Below.refl _ _).alloc (Nat.le_refl _) _).drew
  have zV : (U.alloc (.cells #[.int .i64 (nthI ns 0), .int .i64 (nthI ns 1), .int .i64 (nthI ns 2), .slice none 0 0] 26)).drew.heap.size = U.heap.size + 1 := by
    show (U.alloc _).heap.size = _
    simp
  generalize (U.alloc (.cells #[.int .i64 (nthI ns 0), .int .i64 (nthI ns 1), .int .i64 (nthI ns 2), .slice none 0 0] 26)).drew = V at *
  have KV : Hid (V.cell? ⟨U.heap.size, 0, none⟩ = some (.int .i64 (nthI ns 0)) ∧ V.cell? ⟨U.heap.size, 1, none⟩ = some (.int .i64 (nthI ns 1)) ∧ V.cell? ⟨U.heap.size, 2, none⟩ = some (.int .i64 (nthI ns 2)) ∧ V.cell? ⟨U.heap.size, 3, none⟩ = some (.slice none 0 0) ∧ V.frozen? ⟨U.heap.size, 3, none⟩ = false ∧ Below U.heap.size U V ∧ V.heap.size = U.heap.size + 1) := ⟨r0, r1, r2, r3, rf, bV, zV⟩
  clear r0 r1 r2 r3 rf bV zV m0 m1 m2 n0 n1 n2
  go_wp2_with (go_at_call 47; refine (chunk_any _ _ _ _).mono ?_; rintro e w' ⟨rfl, rfl⟩)
  have xb : ((V.alloc (.cells #[.slice (some ⟨g, 0, none⟩) 0 0] 40)).alloc (.cells #[.int .i64 4] 3)).cell? ⟨V.heap.size, 0, none⟩ = some (.slice (some ⟨g, 0, none⟩) 0 0) := by go_simp
  have xn : ((V.alloc (.cells #[.slice (some ⟨g, 0, none⟩) 0 0] 40)).alloc (.cells #[.int .i64 4] 3)).cell? ⟨V.heap.size + 1, 0, none⟩ = some (.int .i64 4) := by go_simp
  have bX : Below V.heap.size V ((V.alloc (.cells #[.slice (some ⟨g, 0, none⟩) 0 0] 40)).alloc (.cells #[.int .i64 4] 3)) := ((Below.refl _ _).alloc (Nat.le_refl _) _).alloc (by simp) _
  have zX : ((V.alloc (.cells #[.slice (some ⟨g, 0, none⟩) 0 0] 40)).alloc (.cells #[.int .i64 4] 3)).heap.size = V.heap.size + 2 := by simp
  generalize ((V.alloc (.cells #[.slice (some ⟨g, 0, none⟩) 0 0] 40)).alloc (.cells #[.int .i64 4] 3)) = X at *
  obtain ⟨u0, u1, u2, u3, u4, uf, uf4, bU, zU⟩ := KU.out
  obtain ⟨v0, v1, v2, v3, vf, bV, zV⟩ := KV.out
  have xb' : X.cell? ⟨V.heap.size, 0, none⟩ = some (.slice (some ⟨g, 0, none⟩) (4 * 0) 0) := xb
  have bUX : Below U.heap.size U X := bV.trans (bX.mono bV.size)
  have bwX : Below w.heap.size w X := bU.trans (bUX.mono bU.size)
  have start : RecC w.heap.size U.heap.size X.heap.size ns ([] : List { k : Nat // k < 0 }) X :=
    ⟨(bUX.cell (p := ⟨w.heap.size, 0, none⟩) (by simp; omega)).trans u0, (bUX.cell (p := ⟨w.heap.size, 1, none⟩) (by simp; omega)).trans u1, (bUX.cell (p := ⟨w.heap.size, 2, none⟩) (by simp; omega)).trans u2, (bUX.cell (p := ⟨w.heap.size, 3, none⟩) (by simp; omega)).trans u3, (bUX.cell (p := ⟨w.heap.size + 1, 0, none⟩) (by simp; omega)).trans u4,
      (bUX.frozen (p := ⟨w.heap.size, 0, none⟩) (by simp; omega)).trans (uf 0), (bUX.frozen (p := ⟨w.heap.size, 1, none⟩) (by simp; omega)).trans (uf 1), (bUX.frozen (p := ⟨w.heap.size, 2, none⟩) (by simp; omega)).trans (uf 2), (bUX.frozen (p := ⟨w.heap.size, 3, none⟩) (by simp; omega)).trans (uf 3), (bUX.frozen (p := ⟨w.heap.size + 1, 0, none⟩) (by simp; omega)).trans uf4,
      (bX.cell (p := ⟨U.heap.size, 0, none⟩) (by simp; omega)).trans v0, (bX.cell (p := ⟨U.heap.size, 1, none⟩) (by simp; omega)).trans v1, (bX.cell (p := ⟨U.heap.size, 2, none⟩) (by simp; omega)).trans v2, ⟨none, 0, (bX.cell (p := ⟨U.heap.size, 3, none⟩) (by simp; omega)).trans v3, (bX.frozen (p := ⟨U.heap.size, 3, none⟩) (by simp; omega)).trans vf, World.ownsRow_nil _ _ _ _⟩, (fun x hx => by cases hx), Nat.le_refl _⟩
  have SZ : Hid (U.heap.size = w.heap.size + 2 ∧ V.heap.size = w.heap.size + 3 ∧ X.heap.size = w.heap.size + 5) := ⟨zU, by omega, by omega⟩
  clear u0 u1 u2 u3 u4 uf uf4 bU v0 v1 v2 v3 vf bV KU KV xb bUX bX zU zV zX
  refine (wpIn_wide (n := 3)).1 ?_
  refine wpIn_rangeFunc_ownF rfl (by omega) (gf := 61) (lb := #[.pointer (some ⟨V.heap.size, 0, none⟩), .pointer (some ⟨V.heap.size + 1, 0, none⟩)]) rfl trivial (enters_of Tryd.func61 (by kernel_rfl) rfl)
    (chunk_stops 2 (by omega) V.heap.size (V.heap.size + 1) w.heap.size g 0 0 0 (by omega) (by omega) (by unfold maxLen; omega) X (by have := SZ.out; omega) (by have := SZ.out; omega) xb' xn) (fun h k => KeepC.trans h k) (keepC_b (by have := SZ.out; omega) (by have := SZ.out; omega) (by have := SZ.out; omega)) (Below.refl _ _) (fun _ => rfl)
    (fun pre W => RecC w.heap.size U.heap.size X.heap.size ns pre W ∧ Below w.heap.size w W)
    (fun c pre W => RecX w.heap.size ns c pre W ∧ Below w.heap.size w W)
    (OwnFrom.and (Own.from (own_recC _ _ _ _ _) _) (ownFrom_below (Nat.le_refl _) (by have := SZ.out; omega)))
    (fun c => OwnFrom.and (Own.from (own_recX _ _ _ c) _) (ownFrom_below (Nat.le_refl _) (by have := SZ.out; omega)))
    ⟨start, bwX⟩
    (fun x => { tmps := #[.slice (some ⟨g, 0, none⟩) 4 4, undef, .pointer (some ⟨w.heap.size, 0, none⟩), .pointer (some ⟨w.heap.size + 1, 0, none⟩), .pointer (some ⟨U.heap.size, 0, none⟩), piece g 0 x.1, undef, undef, .slice (some ⟨g, 0, none⟩) 4 4, .int .i64 4, .bool false, .bool false, .slice (some ⟨g, 0, none⟩) 4 4, .int .i64 4, .slice (some ⟨g, 0, none⟩) 4 4, .pointer (some ⟨g, 3, none⟩), .int .i64 0, .int .i64 0, .int .i64 4, .bool false, .bool false, undef, .slice (some ⟨g, 0, none⟩) 4 4, .pointer (some ⟨g, 0, none⟩), .int .i64 (nthI ns 0), .slice (some ⟨g, 0, none⟩) 4 4, .pointer (some ⟨g, 1, none⟩), .int .i64 (nthI ns 1), .slice (some ⟨g, 0, none⟩) 4 4, .pointer (some ⟨g, 2, none⟩), .int .i64 (nthI ns 2), .agg #[.int .i64 (nthI ns 0), .int .i64 (nthI ns 1), .int .i64 (nthI ns 2), .slice none 0 0], .slice (some ⟨g, 0, none⟩) 4 4, .slice (some ⟨g, 0, none⟩) 0 0, .func (.func 61) #[] #[.pointer (some ⟨V.heap.size, 0, none⟩), .pointer (some ⟨V.heap.size + 1, 0, none⟩)], piece g 0 x.1, undef, undef, undef, undef, undef, undef, undef, undef, undef, undef, undef, undef, undef, undef, undef, undef, undef], defers := [] }) ?assign ?body ?done ?stop
  case assign =>
    intro l x W K hK
    gi_wp2
    exact hK
  case body =>
    rintro l pre ⟨k, hk⟩ W _ _
    exact absurd hk (by omega)
  case done =>
    rintro D ys W hD rfl ⟨hC, hB⟩ hK
    obtain ⟨av, cap2, r3, rf, hown⟩ := hC.row
    rw [firstK_len, first_sets] at hown
    rw [firstK_len] at r3
    have hfl := flags_yes hC.flags
    have hsl := own_sl hown
    obtain ⟨a0, a1, a2, a3, a4, f0, f1, f2, f3, f4, r0, r1, r2, _, _, hsz⟩ := hC
    have KD : Hid (Below w.heap.size w W ∧ W.heap[D]? = some (.deferred (some [])) ∧ X.heap.size ≤ D ∧ flagsB ns 0 = true ∧ ((0 : Nat) = 0 ∨ ∃ b, av = some ⟨b, 0, none⟩ ∧ X.heap.size ≤ b ∧ b < W.heap.size ∧ SetsAt W b 0 (setsOf ns 0) ∧ Room W b (0 * 5)) ∧ ∀ q, (Value.slice av 0 cap2).ownBlock = some q → ∃ c fz, W.heap[q]? = some (.cells c 42 fz)) := ⟨hB, hK, hD, hfl, hsl, Go.Lib.ownsRow_kind hown⟩
    have hne : U.heap.size ≠ w.heap.size := by have := SZ.out; omega
    have hne1 : U.heap.size ≠ w.heap.size + 1 := by have := SZ.out; omega
    clear hB hK hD hfl hsl hown rf hsz
    go_wp2
    obtain ⟨hB, hK, hD, hfl, hsl, hkind⟩ := KD.out
    have hZ := SZ.out
    have kW : KeepsOthers W (((((W.setCell ⟨w.heap.size, 0, none⟩ (.int .i64 (nthI ns 0))).setCell ⟨w.heap.size, 1, none⟩ (.int .i64 (nthI ns 1))).setCell ⟨w.heap.size, 2, none⟩ (.int .i64 (nthI ns 2))).setCell ⟨w.heap.size, 3, none⟩ (.slice av 0 cap2)).setCell ⟨w.heap.size + 1, 0, none⟩ (.bool true)) := ((((KeepsOthers.setCell _ _ _).trans (KeepsOthers.setCell _ _ _)).trans (KeepsOthers.setCell _ _ _)).trans (KeepsOthers.setCell _ _ _)).trans (KeepsOthers.setCell _ _ _)
    have p0 : (((((W.setCell ⟨w.heap.size, 0, none⟩ (.int .i64 (nthI ns 0))).setCell ⟨w.heap.size, 1, none⟩ (.int .i64 (nthI ns 1))).setCell ⟨w.heap.size, 2, none⟩ (.int .i64 (nthI ns 2))).setCell ⟨w.heap.size, 3, none⟩ (.slice av 0 cap2)).setCell ⟨w.heap.size + 1, 0, none⟩ (.bool true)).cell? ⟨w.heap.size, 0, none⟩ = some (.int .i64 (nthI ns 0)) := by rw [cell_set_far (by simp), cell_set_other (by omega), cell_set_other (by omega), cell_set_other (by omega)]; exact cell_set_same a0
    have p1 : (((((W.setCell ⟨w.heap.size, 0, none⟩ (.int .i64 (nthI ns 0))).setCell ⟨w.heap.size, 1, none⟩ (.int .i64 (nthI ns 1))).setCell ⟨w.heap.size, 2, none⟩ (.int .i64 (nthI ns 2))).setCell ⟨w.heap.size, 3, none⟩ (.slice av 0 cap2)).setCell ⟨w.heap.size + 1, 0, none⟩ (.bool true)).cell? ⟨w.heap.size, 1, none⟩ = some (.int .i64 (nthI ns 1)) := by rw [cell_set_far (by simp), cell_set_other (by omega), cell_set_other (by omega)]; exact cell_set_same (by rw [cell_set_other (by omega)]; exact a1)
    have p2 : (((((W.setCell ⟨w.heap.size, 0, none⟩ (.int .i64 (nthI ns 0))).setCell ⟨w.heap.size, 1, none⟩ (.int .i64 (nthI ns 1))).setCell ⟨w.heap.size, 2, none⟩ (.int .i64 (nthI ns 2))).setCell ⟨w.heap.size, 3, none⟩ (.slice av 0 cap2)).setCell ⟨w.heap.size + 1, 0, none⟩ (.bool true)).cell? ⟨w.heap.size, 2, none⟩ = some (.int .i64 (nthI ns 2)) := by rw [cell_set_far (by simp), cell_set_other (by omega)]; exact cell_set_same (by rw [cell_set_other (by omega), cell_set_other (by omega)]; exact a2)
    have p3 : (((((W.setCell ⟨w.heap.size, 0, none⟩ (.int .i64 (nthI ns 0))).setCell ⟨w.heap.size, 1, none⟩ (.int .i64 (nthI ns 1))).setCell ⟨w.heap.size, 2, none⟩ (.int .i64 (nthI ns 2))).setCell ⟨w.heap.size, 3, none⟩ (.slice av 0 cap2)).setCell ⟨w.heap.size + 1, 0, none⟩ (.bool true)).cell? ⟨w.heap.size, 3, none⟩ = some (.slice av 0 cap2) := by rw [cell_set_far (by simp)]; exact cell_set_same (by rw [cell_set_other (by omega), cell_set_other (by omega), cell_set_other (by omega)]; exact a3)
    have p4 : (((((W.setCell ⟨w.heap.size, 0, none⟩ (.int .i64 (nthI ns 0))).setCell ⟨w.heap.size, 1, none⟩ (.int .i64 (nthI ns 1))).setCell ⟨w.heap.size, 2, none⟩ (.int .i64 (nthI ns 2))).setCell ⟨w.heap.size, 3, none⟩ (.slice av 0 cap2)).setCell ⟨w.heap.size + 1, 0, none⟩ (.bool true)).cell? ⟨w.heap.size + 1, 0, none⟩ = some (.bool true) := cell_set_same (by rw [cell_set_far (by simp), cell_set_far (by simp), cell_set_far (by simp), cell_set_far (by simp)]; exact a4)
    have hb : ∀ q, w.heap.size + 1 < q → (((((W.setCell ⟨w.heap.size, 0, none⟩ (.int .i64 (nthI ns 0))).setCell ⟨w.heap.size, 1, none⟩ (.int .i64 (nthI ns 1))).setCell ⟨w.heap.size, 2, none⟩ (.int .i64 (nthI ns 2))).setCell ⟨w.heap.size, 3, none⟩ (.slice av 0 cap2)).setCell ⟨w.heap.size + 1, 0, none⟩ (.bool true)).heap[q]? = W.heap[q]? := fun q hq => by
      rw [Below.heap_setCell _ _ _ _ (by simp; omega), Below.heap_setCell _ _ _ _ (by simp; omega), Below.heap_setCell _ _ _ _ (by simp; omega), Below.heap_setCell _ _ _ _ (by simp; omega), Below.heap_setCell _ _ _ _ (by simp; omega)]
    have bB : Below w.heap.size w (((((W.setCell ⟨w.heap.size, 0, none⟩ (.int .i64 (nthI ns 0))).setCell ⟨w.heap.size, 1, none⟩ (.int .i64 (nthI ns 1))).setCell ⟨w.heap.size, 2, none⟩ (.int .i64 (nthI ns 2))).setCell ⟨w.heap.size, 3, none⟩ (.slice av 0 cap2)).setCell ⟨w.heap.size + 1, 0, none⟩ (.bool true)) := ((((hB.setCell (p := ⟨w.heap.size, 0, none⟩) (Nat.le_refl _) _).setCell (p := ⟨w.heap.size, 1, none⟩) (Nat.le_refl _) _).setCell (p := ⟨w.heap.size, 2, none⟩) (Nat.le_refl _) _).setCell (p := ⟨w.heap.size, 3, none⟩) (Nat.le_refl _) _).setCell (p := ⟨w.heap.size + 1, 0, none⟩) (by simp) _
    have hK5 := kW.same D _ hK rfl
    have hs5 : (((((W.setCell ⟨w.heap.size, 0, none⟩ (.int .i64 (nthI ns 0))).setCell ⟨w.heap.size, 1, none⟩ (.int .i64 (nthI ns 1))).setCell ⟨w.heap.size, 2, none⟩ (.int .i64 (nthI ns 2))).setCell ⟨w.heap.size, 3, none⟩ (.slice av 0 cap2)).setCell ⟨w.heap.size + 1, 0, none⟩ (.bool true)).heap.size = W.heap.size := by simp [World.setCell]
    generalize (((((W.setCell ⟨w.heap.size, 0, none⟩ (.int .i64 (nthI ns 0))).setCell ⟨w.heap.size, 1, none⟩ (.int .i64 (nthI ns 1))).setCell ⟨w.heap.size, 2, none⟩ (.int .i64 (nthI ns 2))).setCell ⟨w.heap.size, 3, none⟩ (.slice av 0 cap2)).setCell ⟨w.heap.size + 1, 0, none⟩ (.bool true)) = W5 at *
    have hr : ∀ r, some D = some r → ∃ o : Obj, W5.heap[r]? = some o ∧ o.isCells = false := fun r e => by cases e; exact ⟨_, hK5, rfl⟩
    refine ⟨by simp, .inl ⟨_, _, rfl, run_takeDeferred hK5, ?_⟩⟩
    have g0 := cell_kept p0 (grownBy_putObj' _ D (.deferred none)) hr
    have g1 := cell_kept p1 (grownBy_putObj' _ D (.deferred none)) hr
    have g2 := cell_kept p2 (grownBy_putObj' _ D (.deferred none)) hr
    have g3 := cell_kept p3 (grownBy_putObj' _ D (.deferred none)) hr
    have g4 := cell_kept p4 (grownBy_putObj' _ D (.deferred none)) hr
    refine ⟨.tuple #[.agg #[.int .i64 (nthI ns 0), .int .i64 (nthI ns 1), .int .i64 (nthI ns 2), .slice av 0 cap2], .bool true], by simp [results, Tryd.results28, go_sem, g0, g1, g2, g3, g4], ?_⟩
    refine ⟨bB.trans (belowK_b (w := w) (Nat.le_refl _) W5 D _ _ (by omega) hK5 rfl rfl), .inl ⟨hfl, av, cap2, rfl, ?_⟩⟩
    rcases hsl with _ | ⟨b, h1, h2, h3, h4, h5⟩
    · exact .inl rfl
    · right
      obtain ⟨c, fz, hbk⟩ := hkind b (by rw [h1]; rfl)
      have hbD : D ≠ b := fun e => by rw [e, hbk] at hK; cases hK
      have he : (W5.putObj D (.deferred none)).heap[b]? = W.heap[b]? := (World.putObj_heap_other (fun e => hbD e.symm)).trans (hb b (by omega))
      exact ⟨b, h1, by omega, by simp [World.putObj, hs5]; omega, h4.of_heap he, h5.of_heap he⟩
  case stop =>
    rintro D c pre W hD ⟨k, hk, rfl⟩ ⟨hX, hB⟩ hK
    obtain ⟨rfl, a0, a1, a2, a3, a4, x, hx, hfx⟩ := hX
    gi_wp2
    have hZ := SZ.out
    have hr : ∀ r, some D = some r → ∃ o : Obj, W.heap[r]? = some o ∧ o.isCells = false := fun r e => by cases e; exact ⟨_, hK, rfl⟩
    refine ⟨by simp, .inl ⟨_, _, rfl, run_takeDeferred hK, ?_⟩⟩
    have g0 := cell_kept a0 (grownBy_putObj' _ D (.deferred none)) hr
    have g1 := cell_kept a1 (grownBy_putObj' _ D (.deferred none)) hr
    have g2 := cell_kept a2 (grownBy_putObj' _ D (.deferred none)) hr
    have g3 := cell_kept a3 (grownBy_putObj' _ D (.deferred none)) hr
    have g4 := cell_kept a4 (grownBy_putObj' _ D (.deferred none)) hr
    refine ⟨.tuple #[.agg #[.int .i64 0, .int .i64 0, .int .i64 0, .slice none 0 0], .bool false], by simp [results, Tryd.results28, go_sem, g0, g1, g2, g3, g4], ?_⟩
    exact ⟨hB.trans (belowK_b (w := w) (Nat.le_refl _) W D _ _ (by omega) hK rfl rfl), .inr ⟨flags_no x hfx, rfl⟩⟩
end Go.Proofs.YtlnnghlmhmnnlaaDoor
