/- slices.Insert of one int64. -/
import Derived.Test.YtbkcmbbeknljiaaGreatRows
import Derived.Test.YtbkcmbbeknljiaaGreatDelRJ
import Derived.Test.YtbkcmbbeknljiaaGreatJ27LawCleared
import Derived.Shelf.Spec.SlicesInsertGrow
import Derived.Lib.Overlaps
import Derived.Lib.AppendZerosOnto
import Derived.WalkKit
import Derived.WalkSpells
import Derived.WalkLawsBesides
import Derived.Below
import Derived.Lib.QuietBelow
import Derived.BigQuiet
import Derived.Deep.CutRange
namespace Go.Proofs.YtbkcmbbeknljiaaGreat
open Go.RowKit
open Go.Sort (grow)
theorem sizeI64 : ∀ w : World, (Go.sizeOf 2).run Tryz.prog w = .ok 1 w := fun _ => by kernel_rfl
theorem infoSz : (Tryz.prog.info? 2).map (·.size) = some 1 := by kernel_rfl
theorem Blk.shape {X : World} {b m : Nat} {T : TypeId} (h : Blk X b T m) : X.shape? b = some (T, m) := by
  obtain ⟨cur, h1, h2⟩ := h
  simp [World.shape?, h1, h2]
theorem Blk.thaw {X : World} {b m : Nat} {T : TypeId} (h : Blk X b T m) (o : Nat) : X.frozen? ⟨b, o, none⟩ = false := by
  obtain ⟨cur, h1, h2⟩ := h
  simp [World.frozen?, h1]
/-- Two rows of numbers in blocks of their own do not lie upon each other. -/
theorem overlapsN (w : World) (b vb c off lb cb : Nat) (hne : vb ≠ b) (hB : Blk w b 2 c) (hc : c ≠ 0) (hV : Blk w vb 2 1) (vc : Nat) :
    (callFunc 167 #[.slice (some ⟨vb, 0, none⟩) 1 vc, .slice (some ⟨b, off, none⟩) lb cb]).run Tryz.prog w = .ok (.value (.bool false)) w := by
  rw [run_callFunc_extern Tryz.func167 (by kernel_rfl) (by kernel_rfl) (by kernel_rfl) (e := Extern.SlicesOverlaps.overlaps #[26, 26] #[4]) (by kernel_rfl),
    Lib.run_overlaps_apart w 26 4 2 Tryz.underlying26 1 sizeI64 ⟨vb, 0, none⟩ ⟨b, off, none⟩ 1 vc lb cb hne _ _ _ _ hV.shape hB.shape hc (hV.thaw _) (hV.thaw _)]
  rfl
set_option maxRecDepth 100000 in
set_option maxHeartbeats 4000000 in
theorem insN_shift (w : World) (b n c i vb vc : Nat) (zs : List Int) (y : Int) (hi : i < n) (hl : zs.length = n) (hroom : n + 1 ≤ c) (hc : c ≤ 9223372036854775807) (hne : vb ≠ b) (hB : Blk w b 2 c) (hV : Blk w vb 2 1)
    (hrow : ∀ j z, zs[j]? = some z → w.cell? ⟨b, j, none⟩ = some (.int .i64 z)) (hv : w.cell? ⟨vb, 0, none⟩ = some (.int .i64 y)) :
    Calls Tryz.prog 136 #[.slice (some ⟨b, 0, none⟩) n c, .int .i64 (i : Int), .slice (some ⟨vb, 0, none⟩) 1 vc] w fun e w' => e = .returned (.slice (some ⟨b, 0, none⟩) (n + 1) c) ∧ w' = (w.drew.setCells b (i + 1) ((zs.drop i).map (Value.int .i64))).setCells b i [.int .i64 y] := by
  have hov := fun lb cb => overlapsN w b vb c (i + 1) lb cb hne hB (by omega) hV vc
  obtain ⟨cs, hcs⟩ : ∃ cs, cs = (zs.drop i).map (Value.int .i64) := ⟨_, rfl⟩
  have hcl : cs.length = n - i := by rw [hcs]; simp [hl]
  have hone : ∀ u ∈ cs, u.oneCell' = true := fun u hu => by
    rw [hcs] at hu
    obtain ⟨z, _, rfl⟩ := List.mem_map.1 hu
    rfl
  have hro := hB.room
  have hcp1 : ∀ ty dc sc, (Builtin.copy_ #[26, 26] ty #[.slice (some ⟨b, i + 1, none⟩) (n - i) dc, .slice (some ⟨b, i, none⟩) (n + 1 - i) sc]).run Tryz.prog w.drew = .ok (goInt cs.length) (w.drew.setCells b (i + 1) cs) := fun ty dc sc =>
    run_copy_cells w.drew _ _ ty 2 b (i + 1) (n - i) dc ⟨b, i, none⟩ (n + 1 - i) sc cs Tryz.underlying26 infoSz (by rw [hcl]; simp only [Nat.min_def]; split <;> omega)
      (fun j v hj => by
        rw [hcs, List.getElem?_map, List.getElem?_drop] at hj
        obtain ⟨z, hz, rfl⟩ := Option.map_eq_some_iff.1 hj
        rw [Addr.add_lit]
        exact hrow (i + j) z hz)
      (fun j hj => by obtain ⟨v, hv, _⟩ := hro (i + 1 + j) (by omega); show (w.cell? _).isSome = true; rw [hv]; rfl) (fun j _ => hB.thaw _) hone
  obtain ⟨W1, hW1⟩ : ∃ X, X = w.drew.setCells b (i + 1) cs := ⟨_, rfl⟩
  have hB1 : Blk W1 b 2 c := by rw [hW1, setCells_put]; exact Blk.put _ _ (Blk.keep hB rfl)
  have hv1 : W1.cell? ⟨vb, 0, none⟩ = some (.int .i64 y) := by rw [hW1, World.cell?_setCells_out b _ _ _ _ (fun h _ => absurd h hne)]; exact hv
  have hcp2 : ∀ ty dc, (Builtin.copy_ #[26, 26] ty #[.slice (some ⟨b, i, none⟩) (n + 1 - i) dc, .slice (some ⟨vb, 0, none⟩) 1 vc]).run Tryz.prog W1 = .ok (goInt 1) (W1.setCells b i [.int .i64 y]) := fun ty dc =>
    run_copy_cells W1 _ _ ty 2 b i (n + 1 - i) dc ⟨vb, 0, none⟩ 1 vc [.int .i64 y] Tryz.underlying26 infoSz (by simp only [Nat.min_def, List.length_cons, List.length_nil]; split <;> omega)
      (fun j v hj => by
        rcases j with _ | j
        · simp at hj; subst hj; rw [Addr.add_lit]; exact hv1
        · simp at hj)
      (fun j hj => by obtain ⟨v, hv, _⟩ := hB1.room (i + j) (by simp at hj; omega); rw [hv]; rfl) (fun j _ => hB1.thaw _) (fun u hu => by simp at hu; subst hu; rfl)
  rw [← hW1] at hcp1
  rw [← hcs, ← hW1]
  have q1 : ((i : Int) == (n : Int)) = false := by simp; omega
  have q2 : decide ((c : Int) < (n : Int) + 1) = false := by simp; omega
  have q3 : ¬ (c = i) := by omega
  have q4 : ¬ (c = i + 1) := by omega
  have q5 : (i : Int) ≤ (n : Int) := by omega
  have q6 : IntKind.i64.wrap ((i : Int) + 1) = (i : Int) + 1 := by rw [IntKind.wrap_i64]; omega
  have q7 : (0 : Int) ≤ (i : Int) + 1 := by omega
  have q8 : (i : Int) + 1 ≤ (n : Int) + 1 := by omega
  have q9 : ((i : Int) + 1).toNat = i + 1 := by omega
  have q10 : (i : Int) ≤ (n : Int) + 1 := by omega
  have mixed : Tryz.prog.follows .mixedOrders = true := by kernel_rfl
  clear hro hB1 hv1 hone hcl hrow hv hl
  clear hcs hW1
  go_enter Tryz.func136, Tryz.ntmps136
  go_wp2_with (simp only [hov])
  go_region_law_o (refine step_copy_runI rfl _ _ 26 26 rfl _ _ (by simp [Act.eval, Act.put]) (by simp [Act.eval, Act.put]) (hcp1 _ _ _) ?_)
  go_wp2_with (at_builtin; refine wpList_copy_runI _ rfl _ _ 26 26 rfl _ _ rfl rfl (hcp2 _ _) ?_)
  go_ret
  exact ⟨rfl, rfl⟩
set_option maxRecDepth 100000 in
set_option maxHeartbeats 2000000 in
theorem insN_end (w W' : World) (b n c vb vc : Nat) (v' : Value) (hn : n ≤ c) (hr : (Builtin.append_ #[26, 26] 26 #[.slice (some ⟨b, 0, none⟩) n c, .slice (some ⟨vb, 0, none⟩) 1 vc]).run Tryz.prog w = .ok v' W') :
    Calls Tryz.prog 136 #[.slice (some ⟨b, 0, none⟩) n c, .int .i64 (n : Int), .slice (some ⟨vb, 0, none⟩) 1 vc] w fun e w' => e = .returned v' ∧ w' = W' := by
  have q1 : ((n : Int) == (n : Int)) = true := by simp
  by_cases q3 : c = n
  · subst q3
    go_enter Tryz.func136, Tryz.ntmps136
    go_wp2_with (at_builtin; refine append_known _ rfl (.tmp 23) (.tmp 24) 26 rfl _ _ _ _ rfl rfl hr ?_)
    go_ret
    exact ⟨rfl, rfl⟩
  · go_enter Tryz.func136, Tryz.ntmps136
    go_wp2_with (at_builtin; refine append_known _ rfl (.tmp 23) (.tmp 24) 26 rfl _ _ _ _ rfl rfl hr ?_)
    go_ret
    exact ⟨rfl, rfl⟩
set_option maxRecDepth 100000 in
set_option maxHeartbeats 2000000 in
theorem insN_nil (w W' : World) (vb vc : Nat) (v' : Value) (hr : (Builtin.append_ #[26, 26] 26 #[.slice none 0 0, .slice (some ⟨vb, 0, none⟩) 1 vc]).run Tryz.prog w = .ok v' W') :
    Calls Tryz.prog 136 #[.slice none 0 0, .int .i64 0, .slice (some ⟨vb, 0, none⟩) 1 vc] w fun e w' => e = .returned v' ∧ w' = W' := by
  go_enter Tryz.func136, Tryz.ntmps136
  go_wp2_with (at_builtin; refine append_known _ rfl (.tmp 23) (.tmp 24) 26 rfl _ _ _ _ rfl rfl hr ?_)
  go_ret
  exact ⟨rfl, rfl⟩
theorem infoN : (Tryz.prog.info? 2).map (fun i => (i.zero, i.size, i.bytes)) = some (some (.int .i64 0), 1, 8) := by kernel_rfl
set_option maxRecDepth 100000 in
set_option maxHeartbeats 4000000 in
theorem insN_grow (w : World) (b n i vb vc : Nat) (zs : List Int) (y : Int) (hi : i < n) (hl : zs.length = n) (hn : n ≤ 1000) (hbl : b < w.heap.size) (hvl : vb < w.heap.size)
    (hrow : ∀ j z, zs[j]? = some z → w.cell? ⟨b, j, none⟩ = some (.int .i64 z)) (hv : w.cell? ⟨vb, 0, none⟩ = some (.int .i64 y)) :
    Calls Tryz.prog 136 #[.slice (some ⟨b, 0, none⟩) n n, .int .i64 (i : Int), .slice (some ⟨vb, 0, none⟩) 1 vc] w fun e w' => ∃ (G : Nat) (A0 : World), n + 1 ≤ G ∧ G ≤ maxLen ∧ A0.heap.size = w.heap.size + 1 ∧ Below w.heap.size w A0 ∧ Blk A0 w.heap.size 2 G ∧ (∀ j z, (zs.take i)[j]? = some z → A0.cell? ⟨w.heap.size, j, none⟩ = some (.int .i64 z)) ∧ e = .returned (.slice (some ⟨w.heap.size, 0, none⟩) (n + 1) G) ∧ w' = (A0.setCells w.heap.size i [.int .i64 y]).drew.setCells w.heap.size (i + 1) ((zs.drop i).map (Value.int .i64)) := by
  obtain ⟨i0, hi0, hzz⟩ := Option.map_eq_some_iff.1 infoN
  simp only [Prod.mk.injEq] at hzz
  obtain ⟨hz0, hz1, hz2⟩ := hzz
  obtain ⟨os, hos⟩ : ∃ os, os = (zs.take i).map (Value.int .i64) := ⟨_, rfl⟩
  have hol : os.length = i := by rw [hos]; simp; omega
  have hold : (Builtin.firstCells i0.size i (.slice (some ⟨b, 0, none⟩) i n)).run Tryz.prog w.drew = .ok os.toArray w.drew := by
    rw [hz1]
    exact run_firstCells_some w.drew 1 i ⟨b, 0, none⟩ i n os (by omega) (fun j v hj => by
      rw [hos, List.getElem?_map] at hj
      obtain ⟨z, hz, rfl⟩ := Option.map_eq_some_iff.1 hj
      rw [Addr.add_lit, Nat.zero_add]
      have h1 := (List.getElem?_eq_some_iff.1 hz).1
      rw [List.getElem?_take] at hz
      split at hz
      · exact hrow j z hz
      · cases hz)
  have hap := fun ty => Lib.run_append_grow_zeros (P := Tryz.prog) w 26 3 ty 2 i0 _ .i64 .i64 Tryz.underlying26 Tryz.underlying3 hi0 hz0 (some ⟨b, 0, none⟩) i n os hold (n + 1 - i) (by omega) (by omega) (by omega) (by omega) (by rw [hz2]; omega) (by
    rw [hz2, show i + (n + 1 - i) = n + 1 by omega]
    exact growslice_fits (by omega) (by omega))
  rw [show i + (n + 1 - i) = n + 1 by omega] at hap
  obtain ⟨G, hG⟩ : ∃ G, G = grownCap w (n + 1) n 2 := ⟨_, rfl⟩
  have hG1 : n + 1 ≤ G := by rw [hG]; exact grownCap_ge w _ _ _
  have hG2 : G ≤ maxLen := by rw [hG]; exact grownCap_le_maxLen w _ _ _ (by unfold maxLen; omega)
  rw [← hG] at hap
  obtain ⟨A0, hA0⟩ : ∃ X, X = w.drew.alloc (.cells (os.toArray ++ Builtin.zeroCells (Value.int .i64 0).cells (n + 1 - i) ++ Builtin.zeroCells (Value.int .i64 0).cells (G - (n + 1))) 2) := ⟨_, rfl⟩
  rw [← hA0] at hap
  have hsz : A0.heap.size = w.heap.size + 1 := by rw [hA0]; show (w.heap.push _).size = _; simp
  have hbe : Below w.heap.size w A0 := by rw [hA0]; exact ((Below.refl w.heap.size w).drew).alloc (Nat.le_refl _) _
  have hB : Blk A0 w.heap.size 2 G := by
    refine ⟨os.toArray ++ Builtin.zeroCells (Value.int .i64 0).cells (n + 1 - i) ++ Builtin.zeroCells (Value.int .i64 0).cells (G - (n + 1)), ?_, ?_⟩
    · rw [hA0]; show (w.heap.push _)[w.heap.size]? = _; simp
    · simp [Builtin.zeroCells, Value.cells, hol]; omega
  have hlo : ∀ j z, (zs.take i)[j]? = some z → A0.cell? ⟨w.heap.size, j, none⟩ = some (.int .i64 z) := fun j z hz => by
    have hj := (List.getElem?_eq_some_iff.1 hz).1
    have hj' : j < os.length := by rw [hol]; simp at hj; omega
    have he : os[j]? = some (.int .i64 z) := by rw [hos, List.getElem?_map, hz]; rfl
    rw [hA0]
    have : (w.drew.alloc (.cells (os.toArray ++ Builtin.zeroCells (Value.int .i64 0).cells (n + 1 - i) ++ Builtin.zeroCells (Value.int .i64 0).cells (G - (n + 1))) 2)).cell? ⟨w.heap.size, j, none⟩ = (os.toArray ++ Builtin.zeroCells (Value.int .i64 0).cells (n + 1 - i) ++ Builtin.zeroCells (Value.int .i64 0).cells (G - (n + 1)))[j]? := World.cell?_alloc_new w.drew _ _ _
    rw [this, Array.append_assoc, Array.getElem?_append_left (by simpa using hj')]
    simpa using he
  have hv0 : A0.cell? ⟨vb, 0, none⟩ = some (.int .i64 y) := (hbe.cell (p := ⟨vb, 0, none⟩) hvl).trans hv
  have hcp1 : ∀ ty dc, (Builtin.copy_ #[26, 26] ty #[.slice (some ⟨w.heap.size, i, none⟩) (n + 1 - i) dc, .slice (some ⟨vb, 0, none⟩) 1 vc]).run Tryz.prog A0 = .ok (goInt 1) (A0.setCells w.heap.size i [.int .i64 y]) := fun ty dc =>
    run_copy_cells A0 _ _ ty 2 w.heap.size i (n + 1 - i) dc ⟨vb, 0, none⟩ 1 vc [.int .i64 y] Tryz.underlying26 infoSz (by simp only [Nat.min_def, List.length_cons, List.length_nil]; split <;> omega)
      (fun j v hj => by
        rcases j with _ | j
        · simp at hj; subst hj; rw [Addr.add_lit]; exact hv0
        · simp at hj)
      (fun j hj => by obtain ⟨v, hv, _⟩ := hB.room (i + j) (by simp at hj; omega); rw [hv]; rfl) (fun j _ => hB.thaw _) (fun u hu => by simp at hu; subst hu; rfl)
  obtain ⟨W1, hW1⟩ : ∃ X, X = A0.setCells w.heap.size i [.int .i64 y] := ⟨_, rfl⟩
  obtain ⟨cs, hcs⟩ : ∃ cs, cs = (zs.drop i).map (Value.int .i64) := ⟨_, rfl⟩
  have hcl : cs.length = n - i := by rw [hcs]; simp [hl]
  have hB1 : Blk W1.drew w.heap.size 2 G := by rw [hW1, setCells_put]; exact Blk.keep (Blk.put _ _ hB) rfl
  have hcp2 : ∀ ty dc sc, (Builtin.copy_ #[26, 26] ty #[.slice (some ⟨w.heap.size, i + 1, none⟩) (n - i) dc, .slice (some ⟨b, i, none⟩) (n - i) sc]).run Tryz.prog W1.drew = .ok (goInt cs.length) (W1.drew.setCells w.heap.size (i + 1) cs) := fun ty dc sc =>
    run_copy_cells W1.drew _ _ ty 2 w.heap.size (i + 1) (n - i) dc ⟨b, i, none⟩ (n - i) sc cs Tryz.underlying26 infoSz (by rw [hcl]; simp only [Nat.min_def]; split <;> omega)
      (fun j v hj => by
        rw [hcs, List.getElem?_map, List.getElem?_drop] at hj
        obtain ⟨z, hz, rfl⟩ := Option.map_eq_some_iff.1 hj
        rw [Addr.add_lit]
        show W1.cell? ⟨b, i + j, none⟩ = _
        rw [hW1, World.cell?_setCells_out _ _ _ _ _ (fun h _ => absurd h (by simp; omega))]
        exact (hbe.cell (p := ⟨b, i + j, none⟩) hbl).trans (hrow (i + j) z hz))
      (fun j hj => by obtain ⟨v, hv, _⟩ := hB1.room (i + 1 + j) (by omega); rw [hv]; rfl) (fun j _ => hB1.thaw _) (fun u hu => by
        rw [hcs] at hu
        obtain ⟨z, _, rfl⟩ := List.mem_map.1 hu
        rfl)
  rw [← hW1] at hcp1
  have HF : Hid (∃ (G' : Nat) (A1 : World), n + 1 ≤ G' ∧ G' ≤ maxLen ∧ A1.heap.size = w.heap.size + 1 ∧ Below w.heap.size w A1 ∧ Blk A1 w.heap.size 2 G' ∧ (∀ j z, (zs.take i)[j]? = some z → A1.cell? ⟨w.heap.size, j, none⟩ = some (.int .i64 z)) ∧ G' = G ∧ (A1.setCells w.heap.size i [.int .i64 y]).drew.setCells w.heap.size (i + 1) ((zs.drop i).map (Value.int .i64)) = W1.drew.setCells w.heap.size (i + 1) cs) := ⟨G, A0, hG1, hG2, hsz, hbe, hB, hlo, rfl, by rw [hW1, hcs]⟩
  have q1 : ((i : Int) == (n : Int)) = false := by simp; omega
  have q2 : decide ((n : Int) < (n : Int) + 1) = true := by simp; omega
  have q3 : ¬ (n = i) := by omega
  have q4 : ¬ (G = i + 1) := by omega
  have q4b : ¬ (G = i) := by omega
  have q5 : (i : Int) ≤ (n : Int) := by omega
  have q6 : IntKind.i64.wrap ((i : Int) + 1) = (i : Int) + 1 := by rw [IntKind.wrap_i64]; omega
  have q7 : (0 : Int) ≤ (i : Int) + 1 := by omega
  have q8 : (i : Int) + 1 ≤ (n : Int) + 1 := by omega
  have q9 : ((i : Int) + 1).toNat = i + 1 := by omega
  have q10 : (i : Int) ≤ (n : Int) + 1 := by omega
  have q11 : (n : Int) + 1 - (i : Int) = ((n + 1 - i : Nat) : Int) := by omega
  have mixed : Tryz.prog.follows .mixedOrders = true := by kernel_rfl
  clear hold hol hcl hB1 hv0 hlo hB hbe hsz hrow hv hl hi0 hz0 hz1 hz2 hos
  clear hG hA0 hW1 hcs
  go_enter Tryz.func136, Tryz.ntmps136
  go_wp2_with (first
    | (at_builtin; refine Lib.wpList_append_run _ rfl _ _ _ _ rfl _ _ rfl rfl _ _ (hap _) ?_)
    | (at_builtin; refine wpList_copy_runI _ rfl _ _ 26 26 rfl _ _ rfl rfl (hcp1 _ _) ?_))
  go_region_law_o (refine step_copy_runI rfl _ _ 26 26 rfl _ _ (by simp [Act.eval, Act.put]) (by simp [Act.eval, Act.put]) (hcp2 _ _ _) ?_)
  go_wp2
  go_ret
  obtain ⟨G', A1, k1, k2, k3, k4, k5, k6, rfl, k8⟩ := HF.out
  exact ⟨G', A1, k1, k2, k3, k4, k5, k6, rfl, k8.symm⟩
end Go.Proofs.YtbkcmbbeknljiaaGreat
