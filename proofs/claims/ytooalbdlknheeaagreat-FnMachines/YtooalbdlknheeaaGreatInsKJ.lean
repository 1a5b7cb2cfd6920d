/- slices.Insert of one Copy: at the end, within the room, and beyond it. -/
import Derived.Test.YtooalbdlknheeaaGreatRows
import Derived.Test.YtooalbdlknheeaaGreatJ24LawMachines
import Derived.Test.YtooalbdlknheeaaGreatJ23LawMachines
import Derived.WalkKit
import Derived.WalkSpells
import Derived.WalkLawsBesides
import Derived.Below
import Derived.Lib.Overlaps
import Derived.Lib.QuietBelow
import Derived.BigQuiet
import Derived.Lib.AppendZerosOnto
import Derived.Shelf.Spec.SlicesInsertGrow
import Derived.Deep.CutRange
namespace Go.Proofs.YtooalbdlknheeaaGreat
open Go.RowKit
open Go.Sort (grow)
theorem sizeK : ∀ w : World, (Go.sizeOf 97).run Tryz.prog w = .ok 2 w := fun _ => by kernel_rfl
theorem infoSzK : (Tryz.prog.info? 97).map (·.size) = some 2 := by kernel_rfl
theorem infoK : (Tryz.prog.info? 97).map (fun i => (i.zero, i.size, i.bytes)) = some (some (.agg #[.int .i64 0, .slice none 0 0]), 2, 32) := by kernel_rfl
/-- copy of elements of two cells. -/
theorem run_copy_two {P : Program} (w : World) (dT sT ty elem : TypeId) (b o dLen dCap : Nat) (a : Addr) (sLen sCap : Nat) (cs : List Value) (hu : P.underlying dT = some (.slice elem)) (hs : (P.info? elem).map (·.size) = some 2) (hn : Nat.min sLen dLen * 2 = cs.length)
    (hsrc : ∀ j v, cs[j]? = some v → w.cell? (a.add j) = some v) (hc : ∀ j, j < cs.length → (w.cell? ⟨b, o + j, none⟩).isSome = true) (hf : ∀ j, j < cs.length → w.frozen? ⟨b, o + j, none⟩ = false) (h1 : ∀ v ∈ cs, v.oneCell' = true) :
    (Builtin.copy_ #[dT, sT] ty #[.slice (some ⟨b, o, none⟩) dLen dCap, .slice (some a) sLen sCap]).run P w = .ok (goInt (Nat.min sLen dLen)) (w.setCells b o cs) := by
  have hl := run_loadCells_list (P := P) w a cs hsrc
  have hst := run_storeCells_cells (P := P) b o cs 0 w (by simpa using hc) (by simpa using hf) h1
  cases hq : P.info? elem with
  | none => simp [hq] at hs
  | some i =>
    have hi : i.size = 2 := by simpa [hq] using hs
    simp [Builtin.copy_, run_underlying hu, Builtin.lenOf, Builtin.firstCells, sizeOf, typeInfo, hq, hi, hn, hl, hst]
theorem overlapsK (w : World) (b vb c off lb cb : Nat) (hne : vb ≠ b) (hB : Blk w b 97 c) (hc : c ≠ 0) (hV : Blk w vb 97 2) (vc : Nat) :
    (callFunc 161 #[.slice (some ⟨vb, 0, none⟩) 1 vc, .slice (some ⟨b, off, none⟩) lb cb]).run Tryz.prog w = .ok (.value (.bool false)) w := by
  rw [run_callFunc_extern Tryz.func161 (by kernel_rfl) (by kernel_rfl) (by kernel_rfl) (e := Extern.SlicesOverlaps.overlaps #[24, 24] #[4]) (by kernel_rfl),
    Lib.run_overlaps_apart w 24 4 97 Tryz.underlying24 2 sizeK ⟨vb, 0, none⟩ ⟨b, off, none⟩ 1 vc lb cb hne _ _ _ _ hV.shape hB.shape hc (hV.thaw _) (hV.thaw _)]
  rfl
set_option maxRecDepth 100000 in
set_option maxHeartbeats 4000000 in
theorem insK_shift (w : World) (b n c i vb vc : Nat) (xs : List Value) (y0 y1 : Value) (hi : i < n) (hl : xs.length = n * 2) (hroom : n + 1 ≤ c) (hc : c ≤ 9223372036854775807) (hne : vb ≠ b) (hB : Blk w b 97 (c * 2)) (hV : Blk w vb 97 2)
    (hrow : ∀ j u, xs[j]? = some u → w.cell? ⟨b, j, none⟩ = some u) (hx1 : ∀ u ∈ xs, u.oneCell' = true) (hv0 : w.cell? ⟨vb, 0, none⟩ = some y0) (hv1 : w.cell? ⟨vb, 1, none⟩ = some y1) (h1 : y0.oneCell' = true) (h2 : y1.oneCell' = true) :
    Calls Tryz.prog 113 #[.slice (some ⟨b, 0, none⟩) n c, .int .i64 (i : Int), .slice (some ⟨vb, 0, none⟩) 1 vc] w fun e w' => e = .returned (.slice (some ⟨b, 0, none⟩) (n + 1) c) ∧ w' = (w.drew.setCells b ((i + 1) * 2) (xs.drop (i * 2))).setCells b (i * 2) [y0, y1] := by
  have hov := fun lb cb => overlapsK w b vb (c * 2) ((i + 1) * 2) lb cb hne hB (by omega) hV vc
  obtain ⟨cs, hcs⟩ : ∃ cs, cs = xs.drop (i * 2) := ⟨_, rfl⟩
  have hcl : cs.length = (n - i) * 2 := by rw [hcs, List.length_drop, hl]; omega
  have hone : ∀ u ∈ cs, u.oneCell' = true := fun u hu => hx1 u (by rw [hcs] at hu; exact List.mem_of_mem_drop hu)
  have hro := hB.room
  have hcp1 : ∀ ty dc sc, (Builtin.copy_ #[24, 24] ty #[.slice (some ⟨b, (i + 1) * 2, none⟩) (n - i) dc, .slice (some ⟨b, i * 2, none⟩) (n + 1 - i) sc]).run Tryz.prog w.drew = .ok (goInt (Nat.min (n + 1 - i) (n - i))) (w.drew.setCells b ((i + 1) * 2) cs) := fun ty dc sc =>
    run_copy_two w.drew _ _ ty 97 b ((i + 1) * 2) (n - i) dc ⟨b, i * 2, none⟩ (n + 1 - i) sc cs Tryz.underlying24 infoSzK (by rw [hcl]; simp only [Nat.min_def]; split <;> omega)
      (fun j v hj => by
        rw [hcs, List.getElem?_drop] at hj
        rw [Addr.add_lit]
        exact hrow (i * 2 + j) v hj)
      (fun j hj => by obtain ⟨v, hv, _⟩ := hro ((i + 1) * 2 + j) (by omega); show (w.cell? _).isSome = true; rw [hv]; rfl) (fun j _ => hB.thaw _) hone
  obtain ⟨W1, hW1⟩ : ∃ X, X = w.drew.setCells b ((i + 1) * 2) cs := ⟨_, rfl⟩
  have hB1 : Blk W1 b 97 (c * 2) := by rw [hW1, setCells_put]; exact Blk.put _ _ (Blk.keep hB rfl)
  have hw0 : W1.cell? ⟨vb, 0, none⟩ = some y0 := by rw [hW1, World.cell?_setCells_out b _ _ _ _ (fun h _ => absurd h hne)]; exact hv0
  have hw1 : W1.cell? ⟨vb, 1, none⟩ = some y1 := by rw [hW1, World.cell?_setCells_out b _ _ _ _ (fun h _ => absurd h hne)]; exact hv1
  have hcp2 : ∀ ty dc, (Builtin.copy_ #[24, 24] ty #[.slice (some ⟨b, i * 2, none⟩) (n + 1 - i) dc, .slice (some ⟨vb, 0, none⟩) 1 vc]).run Tryz.prog W1 = .ok (goInt (Nat.min 1 (n + 1 - i))) (W1.setCells b (i * 2) [y0, y1]) := fun ty dc =>
    run_copy_two W1 _ _ ty 97 b (i * 2) (n + 1 - i) dc ⟨vb, 0, none⟩ 1 vc [y0, y1] Tryz.underlying24 infoSzK (by simp only [Nat.min_def, List.length_cons, List.length_nil]; split <;> omega)
      (fun j v hj => by
        rcases j with _ | _ | j
        · simp at hj; subst hj; rw [Addr.add_lit]; exact hw0
        · simp at hj; subst hj; rw [Addr.add_lit]; exact hw1
        · simp at hj)
      (fun j hj => by obtain ⟨v, hv, _⟩ := hB1.room (i * 2 + j) (by simp at hj; omega); rw [hv]; rfl) (fun j _ => hB1.thaw _) (fun u hu => by simp at hu; rcases hu with rfl | rfl <;> assumption)
  rw [← hW1] at hcp1
  rw [← hcs, ← hW1]
  have q1 : ((i : Int) == (n : Int)) = false := by simp; omega
  have q2 : decide ((c : Int) < (n : Int) + 1) = false := by simp; omega
  have q3 : ¬ (c = i) := by omega
  have q4 : ¬ (c = i + 1) := by omega
  have q5 : (i : Int) ≤ (n : Int) := by omega
  have q6 : IntKind.i64.wrap ((i : Int) + 1) = (i : Int) + 1 := by rw [IntKind.wrap_i64]; omega
  have q7 : (0 : Int) ≤ (i : Int) + 1 := by omega
  have q8 : (i : Int) + 1 ≤ (n : Int) + 1 := by omega
  have q9 : ((i : Int) + 1).toNat = i + 1 := by omega
  have q10 : (i : Int) ≤ (n : Int) + 1 := by omega
  have mixed : Tryz.prog.follows .mixedOrders = true := by kernel_rfl
  clear hro hB1 hv0 hv1 hw0 hw1 hone hcl hrow hl hx1 h1 h2
  clear hcs hW1
  go_enter Tryz.func113, Tryz.ntmps113
  go_wp2_with (simp only [hov])
  go_region_law_o (refine step_copy_runI rfl _ _ 24 24 rfl _ _ (by simp [Act.eval, Act.put]) (by simp [Act.eval, Act.put]) (hcp1 _ _ _) ?_)
  go_wp2_with (at_builtin; refine wpList_copy_runI _ rfl _ _ 24 24 rfl _ _ rfl rfl (hcp2 _ _) ?_)
  go_ret
  exact ⟨rfl, rfl⟩
set_option maxRecDepth 100000 in
set_option maxHeartbeats 2000000 in
theorem insK_end (w W' : World) (b n c vb vc : Nat) (v' : Value) (hn : n ≤ c) (hr : (Builtin.append_ #[24, 24] 24 #[.slice (some ⟨b, 0, none⟩) n c, .slice (some ⟨vb, 0, none⟩) 1 vc]).run Tryz.prog w = .ok v' W') :
    Calls Tryz.prog 113 #[.slice (some ⟨b, 0, none⟩) n c, .int .i64 (n : Int), .slice (some ⟨vb, 0, none⟩) 1 vc] w fun e w' => e = .returned v' ∧ w' = W' := by
  have q1 : ((n : Int) == (n : Int)) = true := by simp
  by_cases q3 : c = n
  · subst q3
    go_enter Tryz.func113, Tryz.ntmps113
    go_wp2_with (at_builtin; refine append_known _ rfl (.tmp 23) (.tmp 24) 24 rfl _ _ _ _ rfl rfl hr ?_)
    go_ret
    exact ⟨rfl, rfl⟩
  · go_enter Tryz.func113, Tryz.ntmps113
    go_wp2_with (at_builtin; refine append_known _ rfl (.tmp 23) (.tmp 24) 24 rfl _ _ _ _ rfl rfl hr ?_)
    go_ret
    exact ⟨rfl, rfl⟩
set_option maxRecDepth 100000 in
set_option maxHeartbeats 2000000 in
theorem insK_nil (w W' : World) (vb vc : Nat) (v' : Value) (hr : (Builtin.append_ #[24, 24] 24 #[.slice none 0 0, .slice (some ⟨vb, 0, none⟩) 1 vc]).run Tryz.prog w = .ok v' W') :
    Calls Tryz.prog 113 #[.slice none 0 0, .int .i64 0, .slice (some ⟨vb, 0, none⟩) 1 vc] w fun e w' => e = .returned v' ∧ w' = W' := by
  go_enter Tryz.func113, Tryz.ntmps113
  go_wp2_with (at_builtin; refine append_known _ rfl (.tmp 23) (.tmp 24) 24 rfl _ _ _ _ rfl rfl hr ?_)
  go_ret
  exact ⟨rfl, rfl⟩
set_option maxRecDepth 100000 in
set_option maxHeartbeats 4000000 in
theorem insK_grow (w : World) (b n i vb vc : Nat) (xs : List Value) (y0 y1 : Value) (hi : i < n) (hl : xs.length = n * 2) (hn : n ≤ 1000) (hbl : b < w.heap.size) (hvl : vb < w.heap.size)
    (hrow : ∀ j u, xs[j]? = some u → w.cell? ⟨b, j, none⟩ = some u) (hx1 : ∀ u ∈ xs, u.oneCell' = true) (hv0 : w.cell? ⟨vb, 0, none⟩ = some y0) (hv1 : w.cell? ⟨vb, 1, none⟩ = some y1) (h1 : y0.oneCell' = true) (h2 : y1.oneCell' = true) :
    Calls Tryz.prog 113 #[.slice (some ⟨b, 0, none⟩) n n, .int .i64 (i : Int), .slice (some ⟨vb, 0, none⟩) 1 vc] w fun e w' => ∃ (G : Nat) (A0 : World), n + 1 ≤ G ∧ G ≤ maxLen ∧ A0.heap.size = w.heap.size + 1 ∧ Below w.heap.size w A0 ∧ Blk A0 w.heap.size 97 (G * 2) ∧ (∀ j u, (xs.take (i * 2))[j]? = some u → A0.cell? ⟨w.heap.size, j, none⟩ = some u) ∧ e = .returned (.slice (some ⟨w.heap.size, 0, none⟩) (n + 1) G) ∧ w' = (A0.setCells w.heap.size (i * 2) [y0, y1]).drew.setCells w.heap.size ((i + 1) * 2) (xs.drop (i * 2)) := by
  obtain ⟨i0, hi0, hzz⟩ := Option.map_eq_some_iff.1 infoK
  simp only [Prod.mk.injEq] at hzz
  obtain ⟨hz0, hz1, hz2⟩ := hzz
  obtain ⟨os, hos⟩ : ∃ os, os = xs.take (i * 2) := ⟨_, rfl⟩
  have hol : os.length = i * 2 := by rw [hos, List.length_take]; omega
  have hold : (Builtin.firstCells i0.size i (.slice (some ⟨b, 0, none⟩) i n)).run Tryz.prog w.drew = .ok os.toArray w.drew := by
    rw [hz1]
    exact run_firstCells_some w.drew 2 i ⟨b, 0, none⟩ i n os (by omega) (fun j v hj => by
      rw [hos, List.getElem?_take] at hj
      rw [Addr.add_lit, Nat.zero_add]
      split at hj
      · exact hrow j v hj
      · cases hj)
  have hap := fun ty => Lib.run_append_grow_zeros (P := Tryz.prog) w 24 3 ty 97 i0 _ .i64 .i64 Tryz.underlying24 Tryz.underlying3 hi0 hz0 (some ⟨b, 0, none⟩) i n os hold (n + 1 - i) (by omega) (by omega) (by omega) (by omega) (by rw [hz2]; omega) (by
    rw [hz2, show i + (n + 1 - i) = n + 1 by omega]
    exact growslice_fits (by omega) (by omega))
  rw [show i + (n + 1 - i) = n + 1 by omega] at hap
  obtain ⟨G, hG⟩ : ∃ G, G = grownCap w (n + 1) n 97 := ⟨_, rfl⟩
  have hG1 : n + 1 ≤ G := by rw [hG]; exact grownCap_ge w _ _ _
  have hG2 : G ≤ maxLen := by rw [hG]; exact grownCap_le_maxLen w _ _ _ (by unfold maxLen; omega)
  rw [← hG] at hap
  obtain ⟨A0, hA0⟩ : ∃ X, X = w.drew.alloc (.cells (os.toArray ++ Builtin.zeroCells (Value.agg #[.int .i64 0, .slice none 0 0]).cells (n + 1 - i) ++ Builtin.zeroCells (Value.agg #[.int .i64 0, .slice none 0 0]).cells (G - (n + 1))) 97) := ⟨_, rfl⟩
  rw [← hA0] at hap
  have hsz : A0.heap.size = w.heap.size + 1 := by rw [hA0]; show (w.heap.push _).size = _; simp
  have hbe : Below w.heap.size w A0 := by rw [hA0]; exact ((Below.refl w.heap.size w).drew).alloc (Nat.le_refl _) _
  have hzc : ∀ k, (Builtin.zeroCells (Value.agg #[.int .i64 0, .slice none 0 0]).cells k).size = k * 2 := fun k => by simp [Builtin.zeroCells, Value.cells]
  have hB : Blk A0 w.heap.size 97 (G * 2) := by
    refine ⟨os.toArray ++ Builtin.zeroCells (Value.agg #[.int .i64 0, .slice none 0 0]).cells (n + 1 - i) ++ Builtin.zeroCells (Value.agg #[.int .i64 0, .slice none 0 0]).cells (G - (n + 1)), ?_, ?_⟩
    · rw [hA0]; show (w.heap.push _)[w.heap.size]? = _; simp
    · rw [Array.size_append, Array.size_append, hzc, hzc]; simp only [List.size_toArray, hol]; omega
  have hlo : ∀ j u, (xs.take (i * 2))[j]? = some u → A0.cell? ⟨w.heap.size, j, none⟩ = some u := fun j u hz => by
    rw [← hos] at hz
    have hj := (List.getElem?_eq_some_iff.1 hz).1
    rw [hA0]
    have : (w.drew.alloc (.cells (os.toArray ++ Builtin.zeroCells (Value.agg #[.int .i64 0, .slice none 0 0]).cells (n + 1 - i) ++ Builtin.zeroCells (Value.agg #[.int .i64 0, .slice none 0 0]).cells (G - (n + 1))) 97)).cell? ⟨w.heap.size, j, none⟩ = (os.toArray ++ Builtin.zeroCells (Value.agg #[.int .i64 0, .slice none 0 0]).cells (n + 1 - i) ++ Builtin.zeroCells (Value.agg #[.int .i64 0, .slice none 0 0]).cells (G - (n + 1)))[j]? := World.cell?_alloc_new w.drew _ _ _
    rw [this, Array.append_assoc, Array.getElem?_append_left (by simpa using hj)]
    simpa using hz
  have hw0 : A0.cell? ⟨vb, 0, none⟩ = some y0 := (hbe.cell (p := ⟨vb, 0, none⟩) hvl).trans hv0
  have hw1 : A0.cell? ⟨vb, 1, none⟩ = some y1 := (hbe.cell (p := ⟨vb, 1, none⟩) hvl).trans hv1
  have hcp1 : ∀ ty dc, (Builtin.copy_ #[24, 24] ty #[.slice (some ⟨w.heap.size, i * 2, none⟩) (n + 1 - i) dc, .slice (some ⟨vb, 0, none⟩) 1 vc]).run Tryz.prog A0 = .ok (goInt (Nat.min 1 (n + 1 - i))) (A0.setCells w.heap.size (i * 2) [y0, y1]) := fun ty dc =>
    run_copy_two A0 _ _ ty 97 w.heap.size (i * 2) (n + 1 - i) dc ⟨vb, 0, none⟩ 1 vc [y0, y1] Tryz.underlying24 infoSzK (by simp only [Nat.min_def, List.length_cons, List.length_nil]; split <;> omega)
      (fun j v hj => by
        rcases j with _ | _ | j
        · simp at hj; subst hj; rw [Addr.add_lit]; exact hw0
        · simp at hj; subst hj; rw [Addr.add_lit]; exact hw1
        · simp at hj)
      (fun j hj => by obtain ⟨v, hv, _⟩ := hB.room (i * 2 + j) (by simp at hj; omega); rw [hv]; rfl) (fun j _ => hB.thaw _) (fun u hu => by simp at hu; rcases hu with rfl | rfl <;> assumption)
  obtain ⟨W1, hW1⟩ : ∃ X, X = A0.setCells w.heap.size (i * 2) [y0, y1] := ⟨_, rfl⟩
  obtain ⟨cs, hcs⟩ : ∃ cs, cs = xs.drop (i * 2) := ⟨_, rfl⟩
  have hcl : cs.length = (n - i) * 2 := by rw [hcs, List.length_drop, hl]; omega
  have hB1 : Blk W1.drew w.heap.size 97 (G * 2) := by rw [hW1, setCells_put]; exact Blk.keep (Blk.put _ _ hB) rfl
  have hcp2 : ∀ ty dc sc, (Builtin.copy_ #[24, 24] ty #[.slice (some ⟨w.heap.size, (i + 1) * 2, none⟩) (n - i) dc, .slice (some ⟨b, i * 2, none⟩) (n - i) sc]).run Tryz.prog W1.drew = .ok (goInt (Nat.min (n - i) (n - i))) (W1.drew.setCells w.heap.size ((i + 1) * 2) cs) := fun ty dc sc =>
    run_copy_two W1.drew _ _ ty 97 w.heap.size ((i + 1) * 2) (n - i) dc ⟨b, i * 2, none⟩ (n - i) sc cs Tryz.underlying24 infoSzK (by rw [hcl]; simp only [Nat.min_def]; split <;> omega)
      (fun j v hj => by
        rw [hcs, List.getElem?_drop] at hj
        rw [Addr.add_lit]
        show W1.cell? ⟨b, i * 2 + j, none⟩ = _
        rw [hW1, World.cell?_setCells_out _ _ _ _ _ (fun h _ => absurd h (by simp; omega))]
        exact (hbe.cell (p := ⟨b, i * 2 + j, none⟩) hbl).trans (hrow (i * 2 + j) v hj))
      (fun j hj => by obtain ⟨v, hv, _⟩ := hB1.room ((i + 1) * 2 + j) (by omega); rw [hv]; rfl) (fun j _ => hB1.thaw _) (fun u hu => hx1 u (by rw [hcs] at hu; exact List.mem_of_mem_drop hu))
  rw [← hW1] at hcp1
  have HF : Hid (∃ (G' : Nat) (A1 : World), n + 1 ≤ G' ∧ G' ≤ maxLen ∧ A1.heap.size = w.heap.size + 1 ∧ Below w.heap.size w A1 ∧ Blk A1 w.heap.size 97 (G' * 2) ∧ (∀ j u, (xs.take (i * 2))[j]? = some u → A1.cell? ⟨w.heap.size, j, none⟩ = some u) ∧ G' = G ∧ (A1.setCells w.heap.size (i * 2) [y0, y1]).drew.setCells w.heap.size ((i + 1) * 2) (xs.drop (i * 2)) = W1.drew.setCells w.heap.size ((i + 1) * 2) cs) := ⟨G, A0, hG1, hG2, hsz, hbe, hB, hlo, rfl, by rw [hW1, hcs]⟩
  have q1 : ((i : Int) == (n : Int)) = false := by simp; omega
  have q2 : decide ((n : Int) < (n : Int) + 1) = true := by simp; omega
  have q3 : ¬ (n = i) := by omega
  have q4 : ¬ (G = i + 1) := by omega
  have q4b : ¬ (G = i) := by omega
  have q5 : (i : Int) ≤ (n : Int) := by omega
  have q6 : IntKind.i64.wrap ((i : Int) + 1) = (i : Int) + 1 := by rw [IntKind.wrap_i64]; omega
  have q7 : (0 : Int) ≤ (i : Int) + 1 := by omega
  have q8 : (i : Int) + 1 ≤ (n : Int) + 1 := by omega
  have q9 : ((i : Int) + 1).toNat = i + 1 := by omega
  have q10 : (i : Int) ≤ (n : Int) + 1 := by omega
  have q11 : (n : Int) + 1 - (i : Int) = ((n + 1 - i : Nat) : Int) := by omega
  have mixed : Tryz.prog.follows .mixedOrders = true := by kernel_rfl
  clear hold hol hcl hB1 hw0 hw1 hv0 hv1 hlo hB hbe hsz hrow hx1 h1 h2 hl hi0 hz0 hz1 hz2 hos hzc
  clear hG hA0 hW1 hcs
  go_enter Tryz.func113, Tryz.ntmps113
  go_wp2_with (first
    | (at_builtin; refine Lib.wpList_append_run _ rfl _ _ _ _ rfl _ _ rfl rfl _ _ (hap _) ?_)
    | (at_builtin; refine wpList_copy_runI _ rfl _ _ 24 24 rfl _ _ rfl rfl (hcp1 _ _) ?_))
  go_region_law_o (refine step_copy_runI rfl _ _ 24 24 rfl _ _ (by simp [Act.eval, Act.put]) (by simp [Act.eval, Act.put]) (hcp2 _ _ _) ?_)
  go_wp2
  go_ret
  obtain ⟨G', A1, k1, k2, k3, k4, k5, k6, rfl, k8⟩ := HF.out
  exact ⟨G', A1, k1, k2, k3, k4, k5, k6, rfl, k8.symm⟩
end Go.Proofs.YtooalbdlknheeaaGreat
