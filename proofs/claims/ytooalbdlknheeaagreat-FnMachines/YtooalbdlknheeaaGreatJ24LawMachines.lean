/- InsN; InsA; InsB: joined. -/
import Derived.Test.YtooalbdlknheeaaGreatRows
import Derived.Test.YtooalbdlknheeaaGreatDelRJ
import Derived.Test.YtooalbdlknheeaaGreatJ23LawMachines
import Derived.Shelf.Spec.SlicesInsertGrow
import Derived.Lib.Overlaps
import Derived.Lib.AppendZerosOnto
import Derived.WalkKit
import Derived.WalkSpells
import Derived.WalkLawsBesides
import Derived.Below
import Derived.Lib.QuietBelow
import Derived.BigQuiet
import Derived.Deep.CutRange
/- slices.Insert of one int64. -/
namespace Go.Proofs.YtooalbdlknheeaaGreat
open Go.RowKit
open Go.Sort (grow)
theorem sizeI64 : ∀ w : World, (Go.sizeOf 2).run Tryz.prog w = .ok 1 w := fun _ => by kernel_rfl
theorem infoSz : (Tryz.prog.info? 2).map (·.size) = some 1 := by kernel_rfl
theorem Blk.shape {X : World} {b m : Nat} {T : TypeId} (h : Blk X b T m) : X.shape? b = some (T, m) := by
  obtain ⟨cur, h1, h2⟩ := h
  simp [World.shape?, h1, h2]
theorem Blk.thaw {X : World} {b m : Nat} {T : TypeId} (h : Blk X b T m) (o : Nat) : X.frozen? ⟨b, o, none⟩ = false := by
  obtain ⟨cur, h1, h2⟩ := h
  simp [World.frozen?, h1]
/-- Two rows of numbers in blocks of their own do not lie upon each other. -/
theorem overlapsN (w : World) (b vb c off lb cb : Nat) (hne : vb ≠ b) (hB : Blk w b 2 c) (hc : c ≠ 0) (hV : Blk w vb 2 1) (vc : Nat) :
    (callFunc 173 #[.slice (some ⟨vb, 0, none⟩) 1 vc, .slice (some ⟨b, off, none⟩) lb cb]).run Tryz.prog w = .ok (.value (.bool false)) w := by
  rw [run_callFunc_extern Tryz.func173 (by kernel_rfl) (by kernel_rfl) (by kernel_rfl) (e := Extern.SlicesOverlaps.overlaps #[26, 26] #[4]) (by kernel_rfl),
    Lib.run_overlaps_apart w 26 4 2 Tryz.underlying26 1 sizeI64 ⟨vb, 0, none⟩ ⟨b, off, none⟩ 1 vc lb cb hne _ _ _ _ hV.shape hB.shape hc (hV.thaw _) (hV.thaw _)]
  rfl
set_option maxRecDepth 100000 in
set_option maxHeartbeats 4000000 in
theorem insN_shift (w : World) (b n c i vb vc : Nat) (zs : List Int) (y : Int) (hi : i < n) (hl : zs.length = n) (hroom : n + 1 ≤ c) (hc : c ≤ 9223372036854775807) (hne : vb ≠ b) (hB : Blk w b 2 c) (hV : Blk w vb 2 1)
    (hrow : ∀ j z, zs[j]? = some z → w.cell? ⟨b, j, none⟩ = some (.int .i64 z)) (hv : w.cell? ⟨vb, 0, none⟩ = some (.int .i64 y)) :
    Calls Tryz.prog 144 #[.slice (some ⟨b, 0, none⟩) n c, .int .i64 (i : Int), .slice (some ⟨vb, 0, none⟩) 1 vc] w fun e w' => e = .returned (.slice (some ⟨b, 0, none⟩) (n + 1) c) ∧ w' = (w.drew.setCells b (i + 1) ((zs.drop i).map (Value.int .i64))).setCells b i [.int .i64 y] := by
  have hov := fun lb cb => overlapsN w b vb c (i + 1) lb cb hne hB (by omega) hV vc
  obtain ⟨cs, hcs⟩ : ∃ cs, cs = (zs.drop i).map (Value.int .i64) := ⟨_, rfl⟩
  have hcl : cs.length = n - i := by rw [hcs]; simp [hl]
  have hone : ∀ u ∈ cs, u.oneCell' = true := fun u hu => by
    rw [hcs] at hu
    obtain ⟨z, _, rfl⟩ := List.mem_map.1 hu
    rfl
  have hro := hB.room
  have hcp1 : ∀ ty dc sc, (Builtin.copy_ #[26, 26] ty #[.slice (some ⟨b, i + 1, none⟩) (n - i) dc, .slice (some ⟨b, i, none⟩) (n + 1 - i) sc]).run Tryz.prog w.drew = .ok (goInt cs.length) (w.drew.setCells b (i + 1) cs) := fun ty dc sc =>
    run_copy_cells w.drew _ _ ty 2 b (i + 1) (n - i) dc ⟨b, i, none⟩ (n + 1 - i) sc cs Tryz.underlying26 infoSz (by rw [hcl]; simp only [Nat.min_def]; split <;> omega)
      (fun j v hj => by
        rw [hcs, List.getElem?_map, List.getElem?_drop] at hj
        obtain ⟨z, hz, rfl⟩ := Option.map_eq_some_iff.1 hj
        rw [Addr.add_lit]
        exact hrow (i + j) z hz)
      (fun j hj => by obtain ⟨v, hv, _⟩ := hro (i + 1 + j) (by omega); show (w.cell? _).isSome = true; rw [hv]; rfl) (fun j _ => hB.thaw _) hone
  obtain ⟨W1, hW1⟩ : ∃ X, X = w.drew.setCells b (i + 1) cs := ⟨_, rfl⟩
  have hB1 : Blk W1 b 2 c := by rw [hW1, setCells_put]; exact Blk.put _ _ (Blk.keep hB rfl)
  have hv1 : W1.cell? ⟨vb, 0, none⟩ = some (.int .i64 y) := by rw [hW1, World.cell?_setCells_out b _ _ _ _ (fun h _ => absurd h hne)]; exact hv
  have hcp2 : ∀ ty dc, (Builtin.copy_ #[26, 26] ty #[.slice (some ⟨b, i, none⟩) (n + 1 - i) dc, .slice (some ⟨vb, 0, none⟩) 1 vc]).run Tryz.prog W1 = .ok (goInt 1) (W1.setCells b i [.int .i64 y]) := fun ty dc =>
    run_copy_cells W1 _ _ ty 2 b i (n + 1 - i) dc ⟨vb, 0, none⟩ 1 vc [.int .i64 y] Tryz.underlying26 infoSz (by simp only [Nat.min_def, List.length_cons, List.length_nil]; split <;> omega)
      (fun j v hj => by
        rcases j with _ | j
        · simp at hj; subst hj; rw [Addr.add_lit]; exact hv1
        · simp at hj)
      (fun j hj => by obtain ⟨v, hv, _⟩ := hB1.room (i + j) (by simp at hj; omega); rw [hv]; rfl) (fun j _ => hB1.thaw _) (fun u hu => by simp at hu; subst hu; rfl)
  rw [← hW1] at hcp1
  rw [← hcs, ← hW1]
  have q1 : ((i : Int) == (n : Int)) = false := by simp; omega
  have q2 : decide ((c : Int) < (n : Int) + 1) = false := by simp; omega
  have q3 : ¬ (c = i) := by omega
  have q4 : ¬ (c = i + 1) := by omega
  have q5 : (i : Int) ≤ (n : Int) := by omega
  have q6 : IntKind.i64.wrap ((i : Int) + 1) = (i : Int) + 1 := by rw [IntKind.wrap_i64]; omega
  have q7 : (0 : Int) ≤ (i : Int) + 1 := by omega
  have q8 : (i : Int) + 1 ≤ (n : Int) + 1 := by omega
  have q9 : ((i : Int) + 1).toNat = i + 1 := by omega
  have q10 : (i : Int) ≤ (n : Int) + 1 := by omega
  have mixed : Tryz.prog.follows .mixedOrders = true := by kernel_rfl
  clear hro hB1 hv1 hone hcl hrow hv hl
  clear hcs hW1
  go_enter Tryz.func144, Tryz.ntmps144
  go_wp2_with (simp only [hov])
  go_region_law_o (refine step_copy_runI rfl _ _ 26 26 rfl _ _ (by simp [Act.eval, Act.put]) (by simp [Act.eval, Act.put]) (hcp1 _ _ _) ?_)
  go_wp2_with (at_builtin; refine wpList_copy_runI _ rfl _ _ 26 26 rfl _ _ rfl rfl (hcp2 _ _) ?_)
  go_ret
  exact ⟨rfl, rfl⟩
set_option maxRecDepth 100000 in
set_option maxHeartbeats 2000000 in
theorem insN_end (w W' : World) (b n c vb vc : Nat) (v' : Value) (hn : n ≤ c) (hr : (Builtin.append_ #[26, 26] 26 #[.slice (some ⟨b, 0, none⟩) n c, .slice (some ⟨vb, 0, none⟩) 1 vc]).run Tryz.prog w = .ok v' W') :
    Calls Tryz.prog 144 #[.slice (some ⟨b, 0, none⟩) n c, .int .i64 (n : Int), .slice (some ⟨vb, 0, none⟩) 1 vc] w fun e w' => e = .returned v' ∧ w' = W' := by
  have q1 : ((n : Int) == (n : Int)) = true := by simp
  by_cases q3 : c = n
  · subst q3
    go_enter Tryz.func144, Tryz.ntmps144
    go_wp2_with (at_builtin; refine append_known _ rfl (.tmp 23) (.tmp 24) 26 rfl _ _ _ _ rfl rfl hr ?_)
    go_ret
    exact ⟨rfl, rfl⟩
  · go_enter Tryz.func144, Tryz.ntmps144
    go_wp2_with (at_builtin; refine append_known _ rfl (.tmp 23) (.tmp 24) 26 rfl _ _ _ _ rfl rfl hr ?_)
    go_ret
    exact ⟨rfl, rfl⟩
set_option maxRecDepth 100000 in
set_option maxHeartbeats 2000000 in
theorem insN_nil (w W' : World) (vb vc : Nat) (v' : Value) (hr : (Builtin.append_ #[26, 26] 26 #[.slice none 0 0, .slice (some ⟨vb, 0, none⟩) 1 vc]).run Tryz.prog w = .ok v' W') :
    Calls Tryz.prog 144 #[.slice none 0 0, .int .i64 0, .slice (some ⟨vb, 0, none⟩) 1 vc] w fun e w' => e = .returned v' ∧ w' = W' := by
  go_enter Tryz.func144, Tryz.ntmps144
  go_wp2_with (at_builtin; refine append_known _ rfl (.tmp 23) (.tmp 24) 26 rfl _ _ _ _ rfl rfl hr ?_)
  go_ret
  exact ⟨rfl, rfl⟩
theorem infoN : (Tryz.prog.info? 2).map (fun i => (i.zero, i.size, i.bytes)) = some (some (.int .i64 0), 1, 8) := by kernel_rfl
set_option maxRecDepth 100000 in
set_option maxHeartbeats 4000000 in
theorem insN_grow (w : World) (b n i vb vc : Nat) (zs : List Int) (y : Int) (hi : i < n) (hl : zs.length = n) (hn : n ≤ 1000) (hbl : b < w.heap.size) (hvl : vb < w.heap.size)
    (hrow : ∀ j z, zs[j]? = some z → w.cell? ⟨b, j, none⟩ = some (.int .i64 z)) (hv : w.cell? ⟨vb, 0, none⟩ = some (.int .i64 y)) :
    Calls Tryz.prog 144 #[.slice (some ⟨b, 0, none⟩) n n, .int .i64 (i : Int), .slice (some ⟨vb, 0, none⟩) 1 vc] w fun e w' => ∃ (G : Nat) (A0 : World), n + 1 ≤ G ∧ G ≤ maxLen ∧ A0.heap.size = w.heap.size + 1 ∧ Below w.heap.size w A0 ∧ Blk A0 w.heap.size 2 G ∧ (∀ j z, (zs.take i)[j]? = some z → A0.cell? ⟨w.heap.size, j, none⟩ = some (.int .i64 z)) ∧ e = .returned (.slice (some ⟨w.heap.size, 0, none⟩) (n + 1) G) ∧ w' = (A0.setCells w.heap.size i [.int .i64 y]).drew.setCells w.heap.size (i + 1) ((zs.drop i).map (Value.int .i64)) := by
  obtain ⟨i0, hi0, hzz⟩ := Option.map_eq_some_iff.1 infoN
  simp only [Prod.mk.injEq] at hzz
  obtain ⟨hz0, hz1, hz2⟩ := hzz
  obtain ⟨os, hos⟩ : ∃ os, os = (zs.take i).map (Value.int .i64) := ⟨_, rfl⟩
  have hol : os.length = i := by rw [hos]; simp; omega
  have hold : (Builtin.firstCells i0.size i (.slice (some ⟨b, 0, none⟩) i n)).run Tryz.prog w.drew = .ok os.toArray w.drew := by
    rw [hz1]
    exact run_firstCells_some w.drew 1 i ⟨b, 0, none⟩ i n os (by omega) (fun j v hj => by
      rw [hos, List.getElem?_map] at hj
      obtain ⟨z, hz, rfl⟩ := Option.map_eq_some_iff.1 hj
      rw [Addr.add_lit, Nat.zero_add]
      have h1 := (List.getElem?_eq_some_iff.1 hz).1
      rw [List.getElem?_take] at hz
      split at hz
      · exact hrow j z hz
      · cases hz)
  have hap := fun ty => Lib.run_append_grow_zeros (P := Tryz.prog) w 26 3 ty 2 i0 _ .i64 .i64 Tryz.underlying26 Tryz.underlying3 hi0 hz0 (some ⟨b, 0, none⟩) i n os hold (n + 1 - i) (by omega) (by omega) (by omega) (by omega) (by rw [hz2]; omega) (by
    rw [hz2, show i + (n + 1 - i) = n + 1 by omega]
    exact growslice_fits (by omega) (by omega))
  rw [show i + (n + 1 - i) = n + 1 by omega] at hap
  obtain ⟨G, hG⟩ : ∃ G, G = grownCap w (n + 1) n 2 := ⟨_, rfl⟩
  have hG1 : n + 1 ≤ G := by rw [hG]; exact grownCap_ge w _ _ _
  have hG2 : G ≤ maxLen := by rw [hG]; exact grownCap_le_maxLen w _ _ _ (by unfold maxLen; omega)
  rw [← hG] at hap
  obtain ⟨A0, hA0⟩ : ∃ X, X = w.drew.alloc (.cells (os.toArray ++ Builtin.zeroCells (Value.int .i64 0).cells (n + 1 - i) ++ Builtin.zeroCells (Value.int .i64 0).cells (G - (n + 1))) 2) := ⟨_, rfl⟩
  rw [← hA0] at hap
  have hsz : A0.heap.size = w.heap.size + 1 := by rw [hA0]; show (w.heap.push _).size = _; simp
  have hbe : Below w.heap.size w A0 := by rw [hA0]; exact ((Below.refl w.heap.size w).drew).alloc (Nat.le_refl _) _
  have hB : Blk A0 w.heap.size 2 G := by
    refine ⟨os.toArray ++ Builtin.zeroCells (Value.int .i64 0).cells (n + 1 - i) ++ Builtin.zeroCells (Value.int .i64 0).cells (G - (n + 1)), ?_, ?_⟩
    · rw [hA0]; show (w.heap.push _)[w.heap.size]? = _; simp
    · simp [Builtin.zeroCells, Value.cells, hol]; omega
  have hlo : ∀ j z, (zs.take i)[j]? = some z → A0.cell? ⟨w.heap.size, j, none⟩ = some (.int .i64 z) := fun j z hz => by
    have hj := (List.getElem?_eq_some_iff.1 hz).1
    have hj' : j < os.length := by rw [hol]; simp at hj; omega
    have he : os[j]? = some (.int .i64 z) := by rw [hos, List.getElem?_map, hz]; rfl
    rw [hA0]
    have : (w.drew.alloc (.cells (os.toArray ++ Builtin.zeroCells (Value.int .i64 0).cells (n + 1 - i) ++ Builtin.zeroCells (Value.int .i64 0).cells (G - (n + 1))) 2)).cell? ⟨w.heap.size, j, none⟩ = (os.toArray ++ Builtin.zeroCells (Value.int .i64 0).cells (n + 1 - i) ++ Builtin.zeroCells (Value.int .i64 0).cells (G - (n + 1)))[j]? := World.cell?_alloc_new w.drew _ _ _
    rw [this, Array.append_assoc, Array.getElem?_append_left (by simpa using hj')]
    simpa using he
  have hv0 : A0.cell? ⟨vb, 0, none⟩ = some (.int .i64 y) := (hbe.cell (p := ⟨vb, 0, none⟩) hvl).trans hv
  have hcp1 : ∀ ty dc, (Builtin.copy_ #[26, 26] ty #[.slice (some ⟨w.heap.size, i, none⟩) (n + 1 - i) dc, .slice (some ⟨vb, 0, none⟩) 1 vc]).run Tryz.prog A0 = .ok (goInt 1) (A0.setCells w.heap.size i [.int .i64 y]) := fun ty dc =>
    run_copy_cells A0 _ _ ty 2 w.heap.size i (n + 1 - i) dc ⟨vb, 0, none⟩ 1 vc [.int .i64 y] Tryz.underlying26 infoSz (by simp only [Nat.min_def, List.length_cons, List.length_nil]; split <;> omega)
      (fun j v hj => by
        rcases j with _ | j
        · simp at hj; subst hj; rw [Addr.add_lit]; exact hv0
        · simp at hj)
      (fun j hj => by obtain ⟨v, hv, _⟩ := hB.room (i + j) (by simp at hj; omega); rw [hv]; rfl) (fun j _ => hB.thaw _) (fun u hu => by simp at hu; subst hu; rfl)
  obtain ⟨W1, hW1⟩ : ∃ X, X = A0.setCells w.heap.size i [.int .i64 y] := ⟨_, rfl⟩
  obtain ⟨cs, hcs⟩ : ∃ cs, cs = (zs.drop i).map (Value.int .i64) := ⟨_, rfl⟩
  have hcl : cs.length = n - i := by rw [hcs]; simp [hl]
  have hB1 : Blk W1.drew w.heap.size 2 G := by rw [hW1, setCells_put]; exact Blk.keep (Blk.put _ _ hB) rfl
  have hcp2 : ∀ ty dc sc, (Builtin.copy_ #[26, 26] ty #[.slice (some ⟨w.heap.size, i + 1, none⟩) (n - i) dc, .slice (some ⟨b, i, none⟩) (n - i) sc]).run Tryz.prog W1.drew = .ok (goInt cs.length) (W1.drew.setCells w.heap.size (i + 1) cs) := fun ty dc sc =>
    run_copy_cells W1.drew _ _ ty 2 w.heap.size (i + 1) (n - i) dc ⟨b, i, none⟩ (n - i) sc cs Tryz.underlying26 infoSz (by rw [hcl]; simp only [Nat.min_def]; split <;> omega)
      (fun j v hj => by
        rw [hcs, List.getElem?_map, List.getElem?_drop] at hj
        obtain ⟨z, hz, rfl⟩ := Option.map_eq_some_iff.1 hj
        rw [Addr.add_lit]
        show W1.cell? ⟨b, i + j, none⟩ = _
        rw [hW1, World.cell?_setCells_out _ _ _ _ _ (fun h _ => absurd h (by simp; omega))]
        exact (hbe.cell (p := ⟨b, i + j, none⟩) hbl).trans (hrow (i + j) z hz))
      (fun j hj => by obtain ⟨v, hv, _⟩ := hB1.room (i + 1 + j) (by omega); rw [hv]; rfl) (fun j _ => hB1.thaw _) (fun u hu => by
        rw [hcs] at hu
        obtain ⟨z, _, rfl⟩ := List.mem_map.1 hu
        rfl)
  rw [← hW1] at hcp1
  have HF : Hid (∃ (G' : Nat) (A1 : World), n + 1 ≤ G' ∧ G' ≤ maxLen ∧ A1.heap.size = w.heap.size + 1 ∧ Below w.heap.size w A1 ∧ Blk A1 w.heap.size 2 G' ∧ (∀ j z, (zs.take i)[j]? = some z → A1.cell? ⟨w.heap.size, j, none⟩ = some (.int .i64 z)) ∧ G' = G ∧ (A1.setCells w.heap.size i [.int .i64 y]).drew.setCells w.heap.size (i + 1) ((zs.drop i).map (Value.int .i64)) = W1.drew.setCells w.heap.size (i + 1) cs) := ⟨G, A0, hG1, hG2, hsz, hbe, hB, hlo, rfl, by rw [hW1, hcs]⟩
  have q1 : ((i : Int) == (n : Int)) = false := by simp; omega
  have q2 : decide ((n : Int) < (n : Int) + 1) = true := by simp; omega
  have q3 : ¬ (n = i) := by omega
  have q4 : ¬ (G = i + 1) := by omega
  have q4b : ¬ (G = i) := by omega
  have q5 : (i : Int) ≤ (n : Int) := by omega
  have q6 : IntKind.i64.wrap ((i : Int) + 1) = (i : Int) + 1 := by rw [IntKind.wrap_i64]; omega
  have q7 : (0 : Int) ≤ (i : Int) + 1 := by omega
  have q8 : (i : Int) + 1 ≤ (n : Int) + 1 := by omega
  have q9 : ((i : Int) + 1).toNat = i + 1 := by omega
  have q10 : (i : Int) ≤ (n : Int) + 1 := by omega
  have q11 : (n : Int) + 1 - (i : Int) = ((n + 1 - i : Nat) : Int) := by omega
  have mixed : Tryz.prog.follows .mixedOrders = true := by kernel_rfl
  clear hold hol hcl hB1 hv0 hlo hB hbe hsz hrow hv hl hi0 hz0 hz1 hz2 hos
  clear hG hA0 hW1 hcs
  go_enter Tryz.func144, Tryz.ntmps144
  go_wp2_with (first
    | (at_builtin; refine Lib.wpList_append_run _ rfl _ _ _ _ rfl _ _ rfl rfl _ _ (hap _) ?_)
    | (at_builtin; refine wpList_copy_runI _ rfl _ _ 26 26 rfl _ _ rfl rfl (hcp1 _ _) ?_))
  go_region_law_o (refine step_copy_runI rfl _ _ 26 26 rfl _ _ (by simp [Act.eval, Act.put]) (by simp [Act.eval, Act.put]) (hcp2 _ _ _) ?_)
  go_wp2
  go_ret
  obtain ⟨G', A1, k1, k2, k3, k4, k5, k6, rfl, k8⟩ := HF.out
  exact ⟨G', A1, k1, k2, k3, k4, k5, k6, rfl, k8.symm⟩
end Go.Proofs.YtooalbdlknheeaaGreat
/- A number put into an own row of numbers. -/
namespace Go.Proofs.YtooalbdlknheeaaGreat
open Go.RowKit
open Go.Sort (grow)
/-- y put in at place i. -/
def insZ (zs : List Int) (i : Nat) (y : Int) : List Int := zs.take i ++ y :: zs.drop i
theorem insZ_len {zs : List Int} {i : Nat} {y : Int} (hi : i ≤ zs.length) : (insZ zs i y).length = zs.length + 1 := by simp [insZ]; omega
theorem insZ_at {zs : List Int} {i j : Nat} {y : Int} {u : Value} (hi : i ≤ zs.length) (h : ((insZ zs i y).map (Value.int .i64))[j]? = some u) : (j < i ∧ ∃ z, zs[j]? = some z ∧ u = .int .i64 z) ∨ (j = i ∧ u = .int .i64 y) ∨ (i < j ∧ ∃ z, zs[j - 1]? = some z ∧ u = .int .i64 z) := by
  rw [List.getElem?_map] at h
  obtain ⟨z, hz, rfl⟩ := Option.map_eq_some_iff.1 h
  have htl : (zs.take i).length = i := by simp; omega
  by_cases h1 : j < i
  · rw [insZ, List.getElem?_append_left (by omega), List.getElem?_take, if_pos h1] at hz
    exact .inl ⟨h1, z, hz, rfl⟩
  · rw [insZ, List.getElem?_append_right (by omega), htl] at hz
    by_cases h2 : j = i
    · subst h2
      simp at hz
      exact .inr (.inl ⟨rfl, by rw [hz]⟩)
    · obtain ⟨d, hd⟩ : ∃ d, j - i = d + 1 := ⟨j - i - 1, by omega⟩
      rw [hd, List.getElem?_cons_succ, List.getElem?_drop] at hz
      exact .inr (.inr ⟨by omega, z, by rw [show j - 1 = i + d by omega]; exact hz, rfl⟩)
theorem owns_of_blk {X : World} {base g n cap : Nat} {T : TypeId} {xs : List Value} (hB : Blk X g T cap) (hx : ∀ j u, xs[j]? = some u → X.cell? ⟨g, j, none⟩ = some u) (hl : xs.length = n) (hn : n ≤ cap) (hc : cap ≤ maxLen) (hb : base ≤ g) : X.ownsRow base T 1 (.slice (some ⟨g, 0, none⟩) n cap) n xs := by
  obtain ⟨cur, h1, h2⟩ := hB
  refine ⟨by omega, .inr ⟨g, cap, cur, rfl, hb, h1, hn, hc, by omega, ?_⟩⟩
  apply List.ext_getElem?
  intro j
  by_cases hj : j < n
  · have hu := List.getElem?_eq_getElem (l := xs) (i := j) (by omega)
    have hc := hx j _ hu
    simp only [World.cell?, h1] at hc
    rw [hu, List.getElem?_take, if_pos (by omega)]
    simpa using hc
  · rw [List.getElem?_eq_none (by simp; omega), List.getElem?_eq_none (by omega)]
theorem blk_of_owns {X : World} {base g n cap : Nat} {T : TypeId} {xs : List Value} (h : X.ownsRow base T 1 (.slice (some ⟨g, 0, none⟩) n cap) n xs) : Blk X g T cap ∧ (∀ j u, xs[j]? = some u → X.cell? ⟨g, j, none⟩ = some u) ∧ n ≤ cap ∧ cap ≤ maxLen ∧ base ≤ g ∧ g < X.heap.size := by
  obtain ⟨hl, h⟩ := h
  rcases h with ⟨h, _⟩ | ⟨g', cap', cur, he, h1, h2, h3, h4, h5, h6⟩
  · cases h
  · injection he with he1 _ he3
    injection he1 with he1
    injection he1 with he1
    subst he1 he3
    refine ⟨⟨cur, h2, by omega⟩, fun j u hu => ?_, h3, h4, h1, ?_⟩
    · rw [← h6, List.getElem?_take] at hu
      split at hu
      · simp only [World.cell?, h2]
        simpa using hu
      · cases hu
    · exact (Array.getElem?_eq_some_iff.1 h2).1
end Go.Proofs.YtooalbdlknheeaaGreat
/- A number put into an own row of numbers: every road. -/
namespace Go.Proofs.YtooalbdlknheeaaGreat
open Go.RowKit
open Go.Sort (grow)
/-- Nothing but the row's block is turned; blocks may come. -/
theorem grown_of {w X : World} {b : Nat} (h : Turned b w X) : w.grownBy X (some b) := ⟨h.os, h.tape, h.output, h.size, fun k hk hne => h.block k hk (fun e => hne (by rw [e]))⟩
set_option maxHeartbeats 1000000 in
theorem insN_any (w : World) (base : Nat) (v : Value) (zs : List Int) (y : Int) (i vb vc : Nat) (hown : w.ownsRow base 2 1 v zs.length (zs.map (Value.int .i64))) (hn : zs.length ≤ 1000) (hi : i ≤ zs.length) (hV : Blk w vb 2 1) (hvl : vb < w.heap.size) (hv : w.cell? ⟨vb, 0, none⟩ = some (.int .i64 y)) (hne : v.ownBlock ≠ some vb) (hbase : base ≤ w.heap.size) :
    Calls Tryz.prog 144 #[v, .int .i64 (i : Int), .slice (some ⟨vb, 0, none⟩) 1 vc] w fun e w' => ∃ v', e = .returned v' ∧ w'.ownsRow base 2 1 v' (zs.length + 1) ((insZ zs i y).map (Value.int .i64)) ∧ w.grownBy w' v.ownBlock ∧ (v'.ownBlock = v.ownBlock ∨ v'.ownBlock = some w.heap.size) := by
  by_cases hend : i = zs.length
  · subst hend
    obtain ⟨i0, hi0, hzz⟩ := Option.map_eq_some_iff.1 infoN
    simp only [Prod.mk.injEq] at hzz
    obtain ⟨hz0, hz1, hz2⟩ := hzz
    obtain ⟨v', W', hr, ho, hg, _, hl⟩ := run_append_own_at (P := Tryz.prog) w base 26 26 2 i0 _ 1 8 Tryz.underlying26 hi0 hz0 hz1 hz2 rfl (by decide) v zs.length _ hown ⟨vb, 0, none⟩ 1 vc [.int .i64 y] rfl (fun j u hu => by
      rcases j with _ | j
      · simp at hu; subst hu; rw [Addr.add_lit]; exact hv
      · simp at hu) (fun u hu => by simp at hu; subst hu; rfl) (by unfold maxLen; omega) (by omega) hbase
    have he : (zs.map (Value.int .i64)) ++ [.int .i64 y] = (insZ zs zs.length y).map (Value.int .i64) := by simp [insZ]
    rw [he] at ho
    have hown' := hown
    obtain ⟨_, hcase⟩ := hown
    rcases hcase with ⟨rfl, h0⟩ | ⟨g, cap, cur, rfl, _, _, hc, _⟩
    · rw [h0]
      refine (insN_nil w W' vb vc v' hr).mono ?_
      rintro e w' ⟨rfl, rfl⟩
      rw [h0] at ho
      exact ⟨v', rfl, ho, hg, hl⟩
    · refine (insN_end w W' g zs.length cap vb vc v' hc hr).mono ?_
      rintro e w' ⟨rfl, rfl⟩
      exact ⟨v', rfl, ho, hg, hl⟩
  · have hlt : i < zs.length := by omega
    obtain ⟨hl0, hcase⟩ := hown
    rcases hcase with ⟨rfl, h0⟩ | ⟨g, cap, cur, rfl, hg1, hg2, hg3, hg4, hg5, hg6⟩
    · omega
    obtain ⟨hB, hrow, -, -, -, hgl⟩ := blk_of_owns (X := w) (base := base) (g := g) (n := zs.length) (cap := cap) (T := 2) (xs := zs.map (Value.int .i64)) ⟨hl0, .inr ⟨g, cap, cur, rfl, hg1, hg2, hg3, hg4, hg5, hg6⟩⟩
    have hr : ∀ j z, zs[j]? = some z → w.cell? ⟨g, j, none⟩ = some (.int .i64 z) := fun j z hz => hrow j _ (by rw [List.getElem?_map, hz]; rfl)
    have hvg : vb ≠ g := fun e => hne (by rw [e]; rfl)
    by_cases hcap : zs.length + 1 ≤ cap
    · refine (insN_shift w g zs.length cap i vb vc zs y hlt rfl hcap (by unfold maxLen at hg4; omega) hvg hB hV hr hv).mono ?_
      rintro e w' ⟨rfl, rfl⟩
      have hB1 : Blk (w.drew.setCells g (i + 1) ((zs.drop i).map (Value.int .i64))) g 2 cap := by rw [setCells_put]; exact Blk.put _ _ (Blk.keep hB rfl)
      refine ⟨_, rfl, owns_of_blk (by rw [setCells_put]; exact Blk.put _ _ hB1) (fun j u hu => ?_) (by simp [insZ_len hi]) hcap hg4 hg1, grown_of (by
        rw [setCells_put, setCells_put]
        exact Turned.putR _ _ (Turned.putR _ _ (Turned.refl g w).drew)), .inl rfl⟩
      rw [setCells_put, setCells_put]
      rcases insZ_at hi hu with ⟨h1, z, hz, rfl⟩ | ⟨rfl, rfl⟩ | ⟨h1, z, hz, rfl⟩
      · rw [putB_out _ _ _ (.inl h1), putB_out _ _ _ (.inl (by omega))]
        exact hr j z hz
      · have := putB_cell (s := g) [Value.int .i64 y] (putB w.drew g (j + 1) ((zs.drop j).map (Value.int .i64))) j (fun x h1 h2 => by
          obtain ⟨v, hv, _⟩ := (Blk.put ((zs.drop j).map (Value.int .i64)) (j + 1) (Blk.keep (Y := w.drew) hB rfl)).room x (by simp at h2; omega)
          exact ⟨v, hv⟩) 0 _ rfl
        simpa using this
      · rw [putB_out _ _ _ (.inr (by simp; omega))]
        have := putB_cell (s := g) ((zs.drop i).map (Value.int .i64)) w.drew (i + 1) (fun x h1 h2 => by
          obtain ⟨v, hv, _⟩ := (Blk.keep (Y := w.drew) hB rfl).room x (by simp at h2; omega)
          exact ⟨v, hv⟩) (j - (i + 1)) (.int .i64 z) (by rw [List.getElem?_map, List.getElem?_drop, show i + (j - (i + 1)) = j - 1 by omega, hz]; rfl)
        rwa [show i + 1 + (j - (i + 1)) = j by omega] at this
    · obtain rfl : cap = zs.length := by omega
      refine (insN_grow w g zs.length i vb vc zs y hlt rfl hn hgl hvl hr hv).mono ?_
      rintro e w' ⟨G, A0, k1, k2, k3, k4, k5, k6, rfl, rfl⟩
      have hB1 : Blk (A0.setCells w.heap.size i [.int .i64 y]).drew w.heap.size 2 G := by rw [setCells_put]; exact Blk.keep (Blk.put _ _ k5) rfl
      refine ⟨_, rfl, owns_of_blk (by rw [setCells_put]; exact Blk.put _ _ hB1) (fun j u hu => ?_) (by simp [insZ_len hi]) k1 k2 (Nat.le_trans hbase (Nat.le_refl _)), ?_, .inr rfl⟩
      · rw [setCells_put]
        have hj := (List.getElem?_eq_some_iff.1 hu).1
        simp [insZ_len hi] at hj
        rcases insZ_at hi hu with ⟨h1, z, hz, rfl⟩ | ⟨rfl, rfl⟩ | ⟨h1, z, hz, rfl⟩
        · rw [putB_out _ _ _ (.inl (by omega))]
          show (A0.setCells w.heap.size i [.int .i64 y]).cell? _ = _
          rw [setCells_put, putB_out _ _ _ (.inl h1)]
          exact k6 j z (by rw [List.getElem?_take, if_pos h1]; exact hz)
        · rw [putB_out _ _ _ (.inl (by omega))]
          show (A0.setCells w.heap.size j [.int .i64 y]).cell? _ = _
          rw [setCells_put]
          have := putB_cell (s := w.heap.size) [Value.int .i64 y] A0 j (fun x h1 h2 => by
            obtain ⟨v, hv, _⟩ := k5.room x (by simp at h2; omega)
            exact ⟨v, hv⟩) 0 _ rfl
          simpa using this
        · have := putB_cell (s := w.heap.size) ((zs.drop i).map (Value.int .i64)) (A0.setCells w.heap.size i [.int .i64 y]).drew (i + 1) (fun x h1 h2 => by
            obtain ⟨v, hv, _⟩ := hB1.room x (by simp at h2; omega)
            exact ⟨v, hv⟩) (j - (i + 1)) (.int .i64 z) (by rw [List.getElem?_map, List.getElem?_drop, show i + (j - (i + 1)) = j - 1 by omega, hz]; rfl)
          rwa [show i + 1 + (j - (i + 1)) = j by omega] at this
      · have hb : Below w.heap.size w ((A0.setCells w.heap.size i [.int .i64 y]).drew.setCells w.heap.size (i + 1) ((zs.drop i).map (Value.int .i64))) := by
          rw [setCells_put]
          refine putB_below (Nat.le_refl _) _ _ _ ?_
          rw [setCells_put]
          exact (putB_below (Nat.le_refl _) _ _ _ k4).drew
        exact ⟨hb.os, hb.tape, hb.output, hb.size, fun q hq _ => hb.block q hq⟩
end Go.Proofs.YtooalbdlknheeaaGreat
