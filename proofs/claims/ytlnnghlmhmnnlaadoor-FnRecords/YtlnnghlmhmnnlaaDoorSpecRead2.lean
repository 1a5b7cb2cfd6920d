/- What the specification's ReadRecord answers at a text whose words are all numbers, four or more, that come by four. -/
import Derived.Test.YtlnnghlmhmnnlaaDoorRows
import Derived.Test.YtlnnghlmhmnnlaaDoorSpecRead
import Derived.Test.YtlnnghlmhmnnlaaDoorOpens
import Derived.Test.YtlnnghlmhmnnlaaDoorOwnSets
import Derived.Test.YtlnnghlmhmnnlaaDoorShows
import Derived.WalkKit
import Derived.WalkSpells
import Derived.WalkLawsBesides
import Derived.Below
import Derived.BigQuiet
import Derived.BigRegion
import Derived.Deep.AppendLies
import Derived.Deep.RegionHeldLaw
import Derived.Deep.Heap
namespace Go.Proofs.YtlnnghlmhmnnlaaDoor
open Go.RowKit
def nthI (ns : List Int) (i : Nat) : Int := ns[i]?.getD 0
theorem nthI_of {ns : List Int} {i : Nat} (h : i < ns.length) : ns[i]? = some (nthI ns i) := by simp [nthI, h]
/-- The j-th Set that numbers say. -/
def setNth (ns : List Int) (j : Nat) : S5 := ⟨nthI ns 2, nthI ns (4 + 4 * j), nthI ns (4 + 4 * j + 1), nthI ns (4 + 4 * j + 2) == 1, nthI ns (4 + 4 * j + 3)⟩
def setsOf (ns : List Int) (m : Nat) : List S5 := (List.range m).map (setNth ns)
theorem setsOf_len (ns : List Int) (m : Nat) : (setsOf ns m).length = m := by simp [setsOf]
theorem setsOf_succ (ns : List Int) (m : Nat) : setsOf ns (m + 1) = setsOf ns m ++ [setNth ns m] := by simp [setsOf, List.range_succ]
/-- What the specification's ReadRecord leaves where the words are numbers that come by four. -/
def SpecRead (w : World) (bs : List UInt8) (ns : List Int) (m : Nat) (e : Ending) (w' : World) : Prop :=
  Below w.heap.size w w' ∧ ((showText (nthI ns 0) (nthI ns 1) (nthI ns 2) (setsOf ns m) = bs ∧ ∃ a cap, e = .returned (.tuple #[.agg #[.int .i64 (nthI ns 0), .int .i64 (nthI ns 1), .int .i64 (nthI ns 2), .slice a m cap], .bool true]) ∧ Sl w' w'.heap.size a m (setsOf ns m))
    ∨ (showText (nthI ns 0) (nthI ns 1) (nthI ns 2) (setsOf ns m) ≠ bs ∧ e = .returned (.tuple #[.agg #[.int .i64 0, .int .i64 0, .int .i64 0, .slice none 0 0], .bool false])))
theorem wrapS (x : Int) (h0 : 0 ≤ x) (h : x < 4294967296) : IntKind.i64.wrap x = x := by
  simp [IntKind.wrap, IntKind.bits, IntKind.signed]; omega
set_option maxHeartbeats 4000000 in
theorem specRead_good (w : World) (bs : List UInt8) (ns : List Int) (m : Nat) (hl : bs.length ≤ 1048576) (hall : numsOf (splitW bs) = some ns) (hm : ns.length = 4 + 4 * m) :
    Calls Tryd.prog 13 #[.string ⟨bs.toArray⟩] w fun e w' => SpecRead w bs ns m e w' := by
  go_enter Tryd.func13, Tryd.ntmps13
  go_wp2_with fail
  have e0 : (w.alloc (.cells #[.int .i64 0, .int .i64 0, .int .i64 0, .slice none 0 0] 26)).cell? ⟨w.heap.size, 0, none⟩ = some (.int .i64 0) := by go_simp
  have e1 : (w.alloc (.cells #[.int .i64 0, .int .i64 0, .int .i64 0, .slice none 0 0] 26)).cell? ⟨w.heap.size, 1, none⟩ = some (.int .i64 0) := by go_simp
  have e2 : (w.alloc (.cells #[.int .i64 0, .int .i64 0, .int .i64 0, .slice none 0 0] 26)).cell? ⟨w.heap.size, 2, none⟩ = some (.int .i64 0) := by go_simp
  have e3 : (w.alloc (.cells #[.int .i64 0, .int .i64 0, .int .i64 0, .slice none 0 0] 26)).cell? ⟨w.heap.size, 3, none⟩ = some (.slice none 0 0) := by go_simp
  have ef : ∀ j, (w.alloc (.cells #[.int .i64 0, .int .i64 0, .int .i64 0, .slice none 0 0] 26)).frozen? ⟨w.heap.size, j, none⟩ = false := by intro j; go_simp
  have zs : w.heap.size < (w.alloc (.cells #[.int .i64 0, .int .i64 0, .int .i64 0, .slice none 0 0] 26)).heap.size := by simp
  generalize hW : w.alloc (.cells #[.int .i64 0, .int .i64 0, .int .i64 0, .slice none 0 0] 26) = W at e0 e1 e2 e3 ef zs ⊢
  have bW : Below w.heap.size w W := by subst hW; exact (Below.refl _ _).alloc (Nat.le_refl _) _
  clear hW
  refine (l2Words_any W bs hl).mono ?_
  rintro e w1 ⟨gw, capw, rfl, b1, hgw1, hgw2, hown1⟩
  have hsl := split_len bs
  have hwords : ∀ (j : Nat) (x : List UInt8), (splitW bs)[j]? = some x → w1.cell? ⟨gw, j, none⟩ = some (.string ⟨x.toArray⟩) := fun j x hx => row_cells hown1 j _ (by simp [strVals, hx])
  have hwl : ∀ x ∈ splitW bs, x.length ≤ 1048576 := fun x hx => Nat.le_trans (word_len hx) hl
  have c0 := (b1.cell (p := ⟨w.heap.size, 0, none⟩) zs).trans e0
  have c1 := (b1.cell (p := ⟨w.heap.size, 1, none⟩) zs).trans e1
  have c2 := (b1.cell (p := ⟨w.heap.size, 2, none⟩) zs).trans e2
  have c3 := (b1.cell (p := ⟨w.heap.size, 3, none⟩) zs).trans e3
  have f0 := (b1.frozen (p := ⟨w.heap.size, 0, none⟩) zs).trans (ef 0)
  have f1 := (b1.frozen (p := ⟨w.heap.size, 1, none⟩) zs).trans (ef 1)
  have f2 := (b1.frozen (p := ⟨w.heap.size, 2, none⟩) zs).trans (ef 2)
  have f3 := (b1.frozen (p := ⟨w.heap.size, 3, none⟩) zs).trans (ef 3)
  have hw1 : w.heap.size < w1.heap.size := Nat.lt_of_lt_of_le zs b1.size
  have B1 : Below w.heap.size w w1 := bW.trans (b1.mono bW.size)
  generalize hWS : splitW bs = ws at *
  clear hown1 e0 e1 e2 e3 ef bW b1 zs hgw1 W hWS
  have KW : Hid ((∀ (j : Nat) (x : List UInt8), ws[j]? = some x → w1.cell? ⟨gw, j, none⟩ = some (.string ⟨x.toArray⟩)) ∧ (∀ x ∈ ws, x.length ≤ 1048576) ∧ numsOf ws = some ns) := ⟨hwords, hwl, hall⟩
  clear hwords hwl hall
  go_wp2
  go_loopw [5, 6, 7, 8] (fun v5 v6 _ _ wr => ∃ (i g cap : Nat) (nz : List Int), v6 = .int .i64 i ∧ v5 = .slice (some ⟨g, 0, none⟩) i cap ∧ i ≤ ws.length ∧ numsOf (ws.take i) = some nz ∧ Below w1.heap.size w1 wr ∧ w1.heap.size ≤ g ∧ g < wr.heap.size ∧ wr.ownsRow w1.heap.size 2 1 (.slice (some ⟨g, 0, none⟩) i cap) i (ints nz)) (fun _ v6 _ _ _ => ws.length - (intOf v6).toNat)
  case atStart => exact ⟨0, w1.heap.size, 0, [], rfl, rfl, Nat.zero_le _, rfl, (Below.refl _ _).alloc (Nat.le_refl _) _, Nat.le_refl _, by simp, ⟨rfl, .inr ⟨w1.heap.size, 0, #[], rfl, Nat.le_refl _, Go.Deep.blk_alloc_new w1 _, Nat.le_refl _, Nat.zero_le _, rfl, rfl⟩⟩⟩
  case round =>
    obtain ⟨i, g, cap, nz, rfl, rfl, hi, hns, hbl, hg1, hg2, hown⟩ := hrel
    by_cases hlt : i < ws.length
    · obtain ⟨x, hx⟩ : ∃ x, ws[i]? = some x := ⟨ws[i], by simp [hlt]⟩
      have hcx := (hbl.cell (p := ⟨gw, i, none⟩) hgw2).trans (KW.out.1 i x hx)
      have hxl := KW.out.2.1 x (List.mem_of_getElem? hx)
      have hstep := nums_take hns hx
      have KO : Hid (Below w1.heap.size w1 wr ∧ wr.ownsRow w1.heap.size 2 1 (.slice (some ⟨g, 0, none⟩) i cap) i (ints nz) ∧ numsOf (ws.take (i + 1)) = (num x).map fun v => nz ++ [v]) := ⟨hbl, hown, hstep⟩
      have d0 := (hbl.cell (p := ⟨w.heap.size, 0, none⟩) hw1).trans c0
      have d1 := (hbl.cell (p := ⟨w.heap.size, 1, none⟩) hw1).trans c1
      have d2 := (hbl.cell (p := ⟨w.heap.size, 2, none⟩) hw1).trans c2
      have d3 := (hbl.cell (p := ⟨w.heap.size, 3, none⟩) hw1).trans c3
      have k0 := (hbl.frozen (p := ⟨w.heap.size, 0, none⟩) hw1).trans f0
      have k1 := (hbl.frozen (p := ⟨w.heap.size, 1, none⟩) hw1).trans f1
      have k2 := (hbl.frozen (p := ⟨w.heap.size, 2, none⟩) hw1).trans f2
      have k3 := (hbl.frozen (p := ⟨w.heap.size, 3, none⟩) hw1).trans f3
      clear hbl hown hstep hns hx c0 c1 c2 c3 f0 f1 f2 f3
      go_wp2_with fail
      refine (l2Number_any wr x (by omega)).mono ?_
      cases hnum : num x with
      | none =>
        have hz := KO.out.2.2
        rw [hnum] at hz
        have := nums_none (ws := ws) hz
        rw [KW.out.2.2] at this
        cases this
      | some v =>
        rintro e wr ⟨rfl, rfl⟩
        have hownA : Hid ((wr.alloc (.cells #[(.int .i64 v)] 2)).ownsRow w1.heap.size 2 1 (.slice (some ⟨g, 0, none⟩) i cap) i (ints nz)) := KO.out.2.1.alloc _
        have hnewsA : Hid (∀ (j : Nat) (u : Value), ([(.int .i64 v)] : List Value)[j]? = some u → (wr.alloc (.cells #[(.int .i64 v)] 2)).cell? ((⟨wr.heap.size, 0, none⟩ : Addr).add j) = some u) := World.news_of_block (w := wr.alloc (.cells #[(.int .i64 v)] 2)) (B := wr.heap.size) (cs := #[(.int .i64 v)]) (t := 2) (fr := (0, 0)) (Go.Deep.blk_alloc_new wr _)
        have hA1 : Hid (i + 1 ≤ maxLen) := by unfold Hid maxLen; omega
        have hA2 : Hid ((i + 1) * 8 ≤ 140737488355328) := by unfold Hid; omega
        have hA3 : Hid (w1.heap.size ≤ (wr.alloc (.cells #[(.int .i64 v)] 2)).heap.size) := by unfold Hid; simp; have := KO.out.1.size; omega
        have hA4 : Hid ((wr.alloc (.cells #[(.int .i64 v)] 2)).heap.size = wr.heap.size + 1) := by unfold Hid; simp
        have HM : Hid (numsOf (ws.take (i + 1)) = some (nz ++ [v])) := by have := KO.out.2.2; rw [hnum] at this; exact this
        obtain ⟨i0, hi0, hz0, hz1, hz2⟩ := info_parts info_i64
        clear hnum
        go_wp2_with (at_builtin; refine wpList_append_lies (wr.alloc (.cells #[(.int .i64 v)] 2)) rfl (.tmp 31) (.tmp 33) 40 rfl w1.heap.size 2 i0 (.int .i64 0) 1 8 Tryd.underlying40 hi0 hz0 hz1 hz2 rfl (by decide) (.slice (some ⟨g, 0, none⟩) i cap) i _ rfl hownA.out ⟨wr.heap.size, 0, none⟩ 1 1 [(.int .i64 v)] rfl rfl hnewsA.out (by intro u hu; simp at hu; subst hu; rfl) (by decide) hA1.out hA2.out hA3.out (wr.heap.size + 1) hA4.out ?_; intro g2 cap2 w2 hown2 hgrow hat2 hlt2; have K2 : Hid (w2.ownsRow w1.heap.size 2 1 (.slice (some ⟨g2, 0, none⟩) (i + 1) cap2) (i + 1) (ints nz ++ [(.int .i64 v)]) ∧ (g = g2 ∨ g2 = wr.heap.size + 1) ∧ g2 < w2.heap.size ∧ World.grownBy (wr.alloc (.cells #[(.int .i64 v)] 2)) w2 (some g)) := ⟨hown2, (by rcases hat2 with h | h; exact .inl (Option.some.inj h); exact .inr h), hlt2, hgrow⟩; clear hown2 hgrow hat2 hlt2)
        obtain ⟨o2, hat2, hlt2, hgrow⟩ := K2.out
        have hb2 : Below w1.heap.size w1 w2 := Below.grown (KO.out.1.alloc KO.out.1.size _) hgrow hA3.out (fun q e => by cases e; exact hg1)
        have hg2' : w1.heap.size ≤ g2 := by have := KO.out.1.size; rcases hat2 with h | h <;> omega
        exact ⟨⟨i + 1, g2, cap2, nz ++ [v], by simp, rfl, by omega, HM.out, hb2, hg2', hlt2, by simpa [ints] using o2⟩, by simp [intOf]; omega⟩
    · have : i = ws.length := by omega
      subst this
      rw [List.take_length] at hns
      rw [KW.out.2.2] at hns
      obtain rfl := Option.some.inj hns
      have hnl := nums_len KW.out.2.2
      have hnc : ∀ j, j < ns.length → wr.cell? ⟨g, j, none⟩ = some (.int .i64 (nthI ns j)) := fun j hj => row_cells hown j _ (by simp [ints, nthI_of hj])
      have KO : Hid (Below w1.heap.size w1 wr ∧ ws.length = 4 + 4 * m) := ⟨hbl, by omega⟩
      have d0 := (hbl.cell (p := ⟨w.heap.size, 0, none⟩) hw1).trans c0
      have d1 := (hbl.cell (p := ⟨w.heap.size, 1, none⟩) hw1).trans c1
      have d2 := (hbl.cell (p := ⟨w.heap.size, 2, none⟩) hw1).trans c2
      have d3 := (hbl.cell (p := ⟨w.heap.size, 3, none⟩) hw1).trans c3
      have k0 := (hbl.frozen (p := ⟨w.heap.size, 0, none⟩) hw1).trans f0
      have k1 := (hbl.frozen (p := ⟨w.heap.size, 1, none⟩) hw1).trans f1
      have k2 := (hbl.frozen (p := ⟨w.heap.size, 2, none⟩) hw1).trans f2
      have k3 := (hbl.frozen (p := ⟨w.heap.size, 3, none⟩) hw1).trans f3
      have hd : decide ((ws.length : Int) < (ws.length : Int)) = false := by simp
      have hca : ∀ (o : Obj) (j : Nat), (wr.alloc o).cell? ⟨g, j, none⟩ = wr.cell? ⟨g, j, none⟩ := fun o j => ((Below.refl wr.heap.size wr).alloc (Nat.le_refl _) o).cell (p := ⟨g, j, none⟩) hg2
      have n0 := hnc 0 (by omega)
      have n1 := hnc 1 (by omega)
      have n2 := hnc 2 (by omega)
      have m0 : ∀ o : Obj, (wr.alloc o).cell? ⟨g, 0, none⟩ = some (.int .i64 (nthI ns 0)) := fun o => (hca o _).trans n0
      have m1 : ∀ o : Obj, (wr.alloc o).cell? ⟨g, 1, none⟩ = some (.int .i64 (nthI ns 1)) := fun o => (hca o _).trans n1
      have m2 : ∀ o : Obj, (wr.alloc o).cell? ⟨g, 2, none⟩ = some (.int .i64 (nthI ns 2)) := fun o => (hca o _).trans n2
      have q : decide ((ws.length : Int) < 4) = false := by simp; omega
      have hm4 : (ws.length : Int).tmod 4 = 0 := by rw [Int.tmod_eq_emod_of_nonneg (by omega)]; omega
      have i0 : (0 : Int) < (ws.length : Int) := by omega
      have i1 : (1 : Int) < (ws.length : Int) := by omega
      have i2 : (2 : Int) < (ws.length : Int) := by omega
      have HNC : Hid (∀ j, j < ns.length → wr.cell? ⟨g, j, none⟩ = some (.int .i64 (nthI ns j))) := hnc
      have HM : Hid (ns.length = 4 + 4 * m) := hm
      have HNL : Hid (ns.length = ws.length) := hnl
      clear hbl hown hns c0 c1 c2 c3 f0 f1 f2 f3 hca hnc hm hnl
      go_wp2
      go_region
      have r0 : (wr.alloc (.cells #[.int .i64 (nthI ns 0), .int .i64 (nthI ns 1), .int .i64 (nthI ns 2), .slice none 0 0] 26)).drew.cell? ⟨wr.heap.size, 0, none⟩ = some (.int .i64 (nthI ns 0)) := by go_simp
      have r1 : (wr.alloc (.cells #[.int .i64 (nthI ns 0), .int .i64 (nthI ns 1), .int .i64 (nthI ns 2), .slice none 0 0] 26)).drew.cell? ⟨wr.heap.size, 1, none⟩ = some (.int .i64 (nthI ns 1)) := by go_simp
      have r2 : (wr.alloc (.cells #[.int .i64 (nthI ns 0), .int .i64 (nthI ns 1), .int .i64 (nthI ns 2), .slice none 0 0] 26)).drew.cell? ⟨wr.heap.size, 2, none⟩ = some (.int .i64 (nthI ns 2)) := by go_simp
      have r3 : (wr.alloc (.cells #[.int .i64 (nthI ns 0), .int .i64 (nthI ns 1), .int .i64 (nthI ns 2), .slice none 0 0] 26)).drew.cell? ⟨wr.heap.size, 3, none⟩ = some (.slice none 0 0) := by go_simp
      have rf : (wr.alloc (.cells #[.int .i64 (nthI ns 0), .int .i64 (nthI ns 1), .int .i64 (nthI ns 2), .slice none 0 0] 26)).drew.frozen? ⟨wr.heap.size, 3, none⟩ = false := by go_simp
      have bV : Below wr.heap.size wr (wr.alloc (.cells #[.int .i64 (nthI ns 0), .int .i64 (nthI ns 1), .int .i64 (nthI ns 2), .slice none 0 0] 26)).drew := ((Below.refl _ _).alloc (Nat.le_refl _) _).drew
      have zV : (wr.alloc (.cells #[.int .i64 (nthI ns 0), .int .i64 (nthI ns 1), .int .i64 (nthI ns 2), .slice none 0 0] 26)).drew.heap.size = wr.heap.size + 1 := by
        show (wr.alloc _).heap.size = _
        simp
      generalize (wr.alloc (.cells #[.int .i64 (nthI ns 0), .int .i64 (nthI ns 1), .int .i64 (nthI ns 2), .slice none 0 0] 26)).drew = V at *
      have hwR : w.heap.size < wr.heap.size := Nat.lt_of_lt_of_le hw1 KO.out.1.size
      have d0 := (bV.cell (p := ⟨w.heap.size, 0, none⟩) hwR).trans d0
      have d1 := (bV.cell (p := ⟨w.heap.size, 1, none⟩) hwR).trans d1
      have d2 := (bV.cell (p := ⟨w.heap.size, 2, none⟩) hwR).trans d2
      have d3 := (bV.cell (p := ⟨w.heap.size, 3, none⟩) hwR).trans d3
      have k0 := (bV.frozen (p := ⟨w.heap.size, 0, none⟩) hwR).trans k0
      have k1 := (bV.frozen (p := ⟨w.heap.size, 1, none⟩) hwR).trans k1
      have k2 := (bV.frozen (p := ⟨w.heap.size, 2, none⟩) hwR).trans k2
      have k3 := (bV.frozen (p := ⟨w.heap.size, 3, none⟩) hwR).trans k3
      have HNV : Hid (∀ j, j < ns.length → V.cell? ⟨g, j, none⟩ = some (.int .i64 (nthI ns j))) := fun j hj => (bV.cell (p := ⟨g, j, none⟩) hg2).trans (HNC.out j hj)
      have BV : Hid (Below w1.heap.size w1 V) := KO.out.1.trans (bV.mono KO.out.1.size)
      have K4 : Hid (ws.length = 4 + 4 * m) := KO.out.2
      have R0 : Hid (V.cell? ⟨wr.heap.size, 0, none⟩ = some (.int .i64 (nthI ns 0)) ∧ V.cell? ⟨wr.heap.size, 1, none⟩ = some (.int .i64 (nthI ns 1)) ∧ V.cell? ⟨wr.heap.size, 2, none⟩ = some (.int .i64 (nthI ns 2)) ∧ V.cell? ⟨wr.heap.size, 3, none⟩ = some (.slice none 0 0) ∧ V.frozen? ⟨wr.heap.size, 3, none⟩ = false) := ⟨r0, r1, r2, r3, rf⟩
      have HD : Hid (V.cell? ⟨w.heap.size, 0, none⟩ = some (.int .i64 0) ∧ V.cell? ⟨w.heap.size, 1, none⟩ = some (.int .i64 0) ∧ V.cell? ⟨w.heap.size, 2, none⟩ = some (.int .i64 0) ∧ V.cell? ⟨w.heap.size, 3, none⟩ = some (.slice none 0 0) ∧ V.frozen? ⟨w.heap.size, 0, none⟩ = false ∧ V.frozen? ⟨w.heap.size, 1, none⟩ = false ∧ V.frozen? ⟨w.heap.size, 2, none⟩ = false ∧ V.frozen? ⟨w.heap.size, 3, none⟩ = false) := ⟨d0, d1, d2, d3, k0, k1, k2, k3⟩
      have ZV : Hid (V.heap.size = wr.heap.size + 1) := zV
      clear r0 r1 r2 r3 rf d0 d1 d2 d3 k0 k1 k2 k3 bV zV n0 n1 n2 m0 m1 m2 HNC KO hm4 q hd
      clear d0 d1 d2 d3 k0 k1 k2 k3
      generalize wr.heap.size = R at *
      go_wp2
      go_loopw [10] (fun v10 wq => ∃ (j i : Nat) (av : Option Addr) (cap2 : Nat), v10 = .int .i64 i ∧ i = 4 + 4 * j ∧ j ≤ m ∧ Turned R V wq ∧ wq.cell? ⟨R, 0, none⟩ = some (.int .i64 (nthI ns 0)) ∧ wq.cell? ⟨R, 1, none⟩ = some (.int .i64 (nthI ns 1)) ∧ wq.cell? ⟨R, 2, none⟩ = some (.int .i64 (nthI ns 2)) ∧ wq.cell? ⟨R, 3, none⟩ = some (.slice av j cap2) ∧ wq.frozen? ⟨R, 3, none⟩ = false ∧ wq.ownsRow V.heap.size 42 5 (.slice av j cap2) j ((setsOf ns j).flatMap S5.cells)) (fun v10 _ => ws.length - (intOf v10).toNat)
      case atStart => exact ⟨0, 4, none, 0, rfl, rfl, Nat.zero_le _, Turned.refl _ _, R0.out.1, R0.out.2.1, R0.out.2.2.1, R0.out.2.2.2.1, R0.out.2.2.2.2, World.ownsRow_nil _ _ _ _⟩
      case round =>
        obtain ⟨j, i, av, cap2, rfl, hij, hj, ht, r0, r1, r2, r3, rf, hown⟩ := hrel
        have h4 := K4.out
        have hzV := ZV.out
        have hRq : R < wr.heap.size := by have := ht.size; omega
        by_cases hlt : j < m
        · have hgV : g < V.heap.size := by omega
          have hgR : g ≠ R := by omega
          have hcell : ∀ q, q < ns.length → wr.cell? ⟨g, q, none⟩ = some (.int .i64 (nthI ns q)) := fun q hq => (ht.cell (p := ⟨g, q, none⟩) hgV hgR).trans (HNV.out q hq)
          have hnl := HM.out
          have e0 := hcell 2 (by omega)
          have e1 := hcell i (by omega)
          have e2 := hcell (i + 1) (by omega)
          have e3 := hcell (i + 2) (by omega)
          have e4 := hcell (i + 3) (by omega)
          have l1 : (i : Int) < (ws.length : Int) := by omega
          have l2 : (i : Int) + 1 < (ws.length : Int) := by omega
          have l3 : (i : Int) + 2 < (ws.length : Int) := by omega
          have l4 : (i : Int) + 3 < (ws.length : Int) := by omega
          have p1 : (0 : Int) ≤ (i : Int) + 1 := by omega
          have p2 : (0 : Int) ≤ (i : Int) + 2 := by omega
          have p3 : (0 : Int) ≤ (i : Int) + 3 := by omega
          have v1 : IntKind.i64.wrap ((i : Int) + 1) = (i : Int) + 1 := wrapS _ (by omega) (by omega)
          have v2 : IntKind.i64.wrap ((i : Int) + 2) = (i : Int) + 2 := wrapS _ (by omega) (by omega)
          have v3 : IntKind.i64.wrap ((i : Int) + 3) = (i : Int) + 3 := wrapS _ (by omega) (by omega)
          have t1 : ((i : Int) + 1).toNat = i + 1 := by omega
          have t2 : ((i : Int) + 2).toNat = i + 2 := by omega
          have t3 : ((i : Int) + 3).toNat = i + 3 := by omega
          have HS : Hid (setNth ns j = ⟨nthI ns 2, nthI ns i, nthI ns (i + 1), nthI ns (i + 2) == 1, nthI ns (i + 3)⟩) := by unfold Hid setNth; rw [← hij]
          have HQ : Hid (Turned R V wr ∧ wr.ownsRow V.heap.size 42 5 (.slice av j cap2) j ((setsOf ns j).flatMap S5.cells) ∧ i = 4 + 4 * j ∧ ws.length = 4 + 4 * m ∧ ns.length = 4 + 4 * m ∧ V.heap.size = R + 1) := ⟨ht, hown, hij, h4, hnl, hzV⟩
          generalize hE : (⟨nthI ns 2, nthI ns i, nthI ns (i + 1), nthI ns (i + 2) == 1, nthI ns (i + 3)⟩ : S5) = E at HS
          have hE' : E.cells = [.int .i64 (nthI ns 2), .int .i64 (nthI ns i), .int .i64 (nthI ns (i + 1)), .bool (nthI ns (i + 2) == 1), .int .i64 (nthI ns (i + 3))] := by rw [← hE]; rfl
          have HE : Hid (E.cells = [.int .i64 (nthI ns 2), .int .i64 (nthI ns i), .int .i64 (nthI ns (i + 1)), .bool (nthI ns (i + 2) == 1), .int .i64 (nthI ns (i + 3))]) := hE'
          generalize nthI ns 2 = z0 at *
          generalize nthI ns i = z1 at *
          generalize nthI ns (i + 1) = z2 at *
          generalize nthI ns (i + 2) = z3 at *
          generalize nthI ns (i + 3) = z4 at *
          obtain ⟨t0, ht0, hz0, hz1, hz2⟩ := info_parts info_set
          have hownA : Hid ((wr.alloc (.cells #[.int .i64 z0, .int .i64 z1, .int .i64 z2, .bool (z3 == 1), .int .i64 z4] 42)).drew.ownsRow V.heap.size 42 5 (.slice av j cap2) j ((setsOf ns j).flatMap S5.cells)) := (hown.alloc _).drew
          have hnewsA : Hid (∀ (q : Nat) (u : Value), ([.int .i64 z0, .int .i64 z1, .int .i64 z2, .bool (z3 == 1), .int .i64 z4] : List Value)[q]? = some u → (wr.alloc (.cells #[.int .i64 z0, .int .i64 z1, .int .i64 z2, .bool (z3 == 1), .int .i64 z4] 42)).drew.cell? ((⟨wr.heap.size, 0, none⟩ : Addr).add q) = some u) := World.news_of_block (w := (wr.alloc (.cells #[.int .i64 z0, .int .i64 z1, .int .i64 z2, .bool (z3 == 1), .int .i64 z4] 42)).drew) (B := wr.heap.size) (cs := #[.int .i64 z0, .int .i64 z1, .int .i64 z2, .bool (z3 == 1), .int .i64 z4]) (t := 42) (fr := (0, 0)) (Go.Deep.blk_alloc_new wr _)
          have h1cA : Hid (∀ u ∈ ([.int .i64 z0, .int .i64 z1, .int .i64 z2, .bool (z3 == 1), .int .i64 z4] : List Value), u.oneCell' = true) := by
            intro u hu
            simp at hu
            rcases hu with rfl | rfl | rfl | rfl | rfl <;> rfl
          have hA1 : Hid (j + 1 ≤ maxLen) := by unfold Hid maxLen; omega
          have hA2 : Hid ((j + 1) * 40 ≤ 140737488355328) := by unfold Hid; omega
          have hA3 : Hid (V.heap.size ≤ (wr.alloc (.cells #[.int .i64 z0, .int .i64 z1, .int .i64 z2, .bool (z3 == 1), .int .i64 z4] 42)).drew.heap.size) := by
            unfold Hid
            show V.heap.size ≤ (wr.alloc _).heap.size
            have := ht.size; simp; omega
          have hA4 : Hid ((wr.alloc (.cells #[.int .i64 z0, .int .i64 z1, .int .i64 z2, .bool (z3 == 1), .int .i64 z4] 42)).drew.heap.size = wr.heap.size + 1) := by
            unfold Hid
            show (wr.alloc _).heap.size = _
            simp
          have hrow : ∀ q, (Value.slice av j cap2).ownBlock = some q → V.heap.size ≤ q := fun q hq => (hown.lt q hq).1
          have KEEPS : Hid (∀ w2, World.grownBy (wr.alloc (.cells #[.int .i64 z0, .int .i64 z1, .int .i64 z2, .bool (z3 == 1), .int .i64 z4] 42)).drew w2 (Value.slice av j cap2).ownBlock →
              Turned R V w2 ∧ ∀ q v, q < V.heap.size → ∀ o, (wr.cell? ⟨q, o, none⟩ = some v → w2.cell? ⟨q, o, none⟩ = some v) ∧ (wr.frozen? ⟨q, o, none⟩ = false → w2.frozen? ⟨q, o, none⟩ = false)) := by
            intro w2 hg
            refine ⟨Turned.grown ((ht.alloc _).drew) hg hrow, fun q v hq o => ?_⟩
            have hq2 : q < wr.heap.size := Nat.lt_of_lt_of_le hq ht.size
            have hne : some q ≠ (Value.slice av j cap2).ownBlock := fun e => by have := hrow q e.symm; omega
            have hba : Below wr.heap.size wr (wr.alloc (.cells #[.int .i64 z0, .int .i64 z1, .int .i64 z2, .bool (z3 == 1), .int .i64 z4] 42)).drew := ((Below.refl _ _).alloc (Nat.le_refl _) _).drew
            have hlt2 : q < (wr.alloc (.cells #[.int .i64 z0, .int .i64 z1, .int .i64 z2, .bool (z3 == 1), .int .i64 z4] 42)).drew.heap.size := Nat.lt_of_lt_of_le hq2 hba.size
            exact ⟨fun h => (hg.cell_far ⟨q, o, none⟩ hlt2 hne).trans ((hba.cell (p := ⟨q, o, none⟩) hq2).trans h), fun h => (hg.frozen_far ⟨q, o, none⟩ hlt2 hne).trans ((hba.frozen (p := ⟨q, o, none⟩) hq2).trans h)⟩
          have KC : Hid (wr.cell? ⟨g, 2, none⟩ = some (.int .i64 z0) ∧ wr.cell? ⟨g, i, none⟩ = some (.int .i64 z1) ∧ wr.cell? ⟨g, i + 1, none⟩ = some (.int .i64 z2) ∧ wr.cell? ⟨g, i + 2, none⟩ = some (.int .i64 z3) ∧ wr.cell? ⟨g, i + 3, none⟩ = some (.int .i64 z4) ∧ g < V.heap.size ∧ R < V.heap.size ∧ wr.cell? ⟨R, 0, none⟩ = some (.int .i64 (nthI ns 0)) ∧ wr.cell? ⟨R, 1, none⟩ = some (.int .i64 (nthI ns 1)) ∧ wr.cell? ⟨R, 2, none⟩ = some (.int .i64 z0) ∧ wr.cell? ⟨R, 3, none⟩ = some (.slice av j cap2) ∧ wr.frozen? ⟨R, 3, none⟩ = false) := ⟨e0, e1, e2, e3, e4, hgV, by omega, r0, r1, r2, r3, rf⟩
          have HF : Hid (∀ (W : World) (v : Value) (o : Nat), (W.setCell ⟨R, 3, none⟩ v).cell? ⟨g, o, none⟩ = W.cell? ⟨g, o, none⟩) := fun W v o => cell_set_far (fun e => hgR e.symm) v
          clear hE hE' hcell hown hrow ht hij h4 hzV hnl r0 r1 r2 hj
          go_wp2
          refine wp_region_held_drew (S := fun w' => w'.cell? ⟨g, 2, none⟩ = some (.int .i64 z0) ∧ w'.cell? ⟨g, i, none⟩ = some (.int .i64 z1) ∧ w'.cell? ⟨g, i + 1, none⟩ = some (.int .i64 z2) ∧ w'.cell? ⟨g, i + 2, none⟩ = some (.int .i64 z3) ∧ w'.cell? ⟨g, i + 3, none⟩ = some (.int .i64 z4)) (by kernel_rfl) ?_ (fun hHeld => ?_)
          · exact ⟨e0, e1, e2, e3, e4⟩
          refine wpAnyH_take (i := 0) (v := ?_) rfl (by kernel_rfl) (by kernel_rfl) (by kernel_rfl) (fun _ _ _ h => h) (Or.inl ⟨by rfl, ?_⟩) (by assumption) ?_
          rotate_left
          · (intro w hSw; (try dsimp only at hSw); go_simp; try with_reducible rfl)
          simp only [Act.put]
          refine wpAnyH_take (i := 2) (v := ?_) rfl (by kernel_rfl) (by kernel_rfl) (by kernel_rfl) (fun _ _ _ h => h) (Or.inl ⟨by rfl, ?_⟩) (by assumption) ?_
          rotate_left
          · (intro w hSw; (try dsimp only at hSw); go_simp; try with_reducible rfl)
          simp only [Act.put]
          refine wpAnyH_take (i := 3) (v := ?_) rfl (by kernel_rfl) (by kernel_rfl) (by kernel_rfl) (fun _ _ _ h => h) (Or.inl ⟨by rfl, ?_⟩) (by assumption) ?_
          rotate_left
          · (intro w hSw; (try dsimp only at hSw); go_simp; try with_reducible rfl)
          simp only [Act.put]
          refine wpAnyH_take (i := 4) (v := ?_) rfl (by kernel_rfl) (by kernel_rfl) (by kernel_rfl) (fun _ _ _ h => h) (Or.inl ⟨by rfl, ?_⟩) (by assumption) ?_
          rotate_left
          · (intro w hSw; (try dsimp only at hSw); go_simp; try with_reducible rfl)
          simp only [Act.put]
          refine wpAnyH_take (i := 5) (v := ?_) rfl (by kernel_rfl) (by kernel_rfl) (by kernel_rfl) (fun _ _ _ h => h) (Or.inl ⟨by rfl, ?_⟩) (by assumption) ?_
          rotate_left
          · (intro w hSw; (try dsimp only at hSw); go_simp; try with_reducible rfl)
          simp only [Act.put]
          refine wpAnyH_take (i := 6) (v := ?_) rfl (by kernel_rfl) (by kernel_rfl) (by kernel_rfl) (fun _ _ _ h => h) (Or.inl ⟨by rfl, ?_⟩) (by assumption) ?_
          rotate_left
          · (intro w hSw; (try dsimp only at hSw); go_simp; try with_reducible rfl)
          simp only [Act.put]
          refine wpAnyH_take (i := 7) (v := ?_) rfl (by kernel_rfl) (by kernel_rfl) (by kernel_rfl) (fun _ _ _ h => h) (Or.inl ⟨by rfl, ?_⟩) (by assumption) ?_
          rotate_left
          · (intro w hSw; (try dsimp only at hSw); go_simp; try with_reducible rfl)
          simp only [Act.put]
          refine wpAnyH_take (i := 8) (v := ?_) rfl (by kernel_rfl) (by kernel_rfl) (by kernel_rfl) (fun _ _ _ h => h) (Or.inl ⟨by rfl, ?_⟩) (by assumption) ?_
          rotate_left
          · (intro w hSw; (try dsimp only at hSw); go_simp; try with_reducible rfl)
          simp only [Act.put]
          refine wpAnyH_take (i := 9) (v := ?_) rfl (by kernel_rfl) (by kernel_rfl) (by kernel_rfl) (fun _ _ _ h => h) (Or.inl ⟨by rfl, ?_⟩) (by assumption) ?_
          rotate_left
          · (intro w hSw; (try dsimp only at hSw); go_simp; try with_reducible rfl)
          simp only [Act.put]
          refine wpAnyH_take (i := 10) (v := ?_) rfl (by kernel_rfl) (by kernel_rfl) (by kernel_rfl) (fun _ _ _ h => h) (Or.inl ⟨by rfl, ?_⟩) (by assumption) ?_
          rotate_left
          · (intro w hSw; (try dsimp only at hSw); go_simp; try with_reducible rfl)
          simp only [Act.put]
          refine wpAnyH_take (i := 11) (v := ?_) rfl (by kernel_rfl) (by kernel_rfl) (by kernel_rfl) (fun _ _ _ h => h) (Or.inl ⟨by rfl, ?_⟩) (by assumption) ?_
          rotate_left
          · (intro w hSw; (try dsimp only at hSw); go_simp; try with_reducible rfl)
          simp only [Act.put]
          refine wpAnyH_take (i := 12) (v := ?_) rfl (by kernel_rfl) (by kernel_rfl) (by kernel_rfl) (fun _ _ _ h => h) (Or.inl ⟨by rfl, ?_⟩) (by assumption) ?_
          rotate_left
          · (intro w hSw; (try dsimp only at hSw); go_simp; try with_reducible rfl)
          simp only [Act.put]
          refine wpAnyH_take (i := 13) (v := ?_) rfl (by kernel_rfl) (by kernel_rfl) (by kernel_rfl) (fun _ _ _ h => h) (Or.inl ⟨by rfl, ?_⟩) (by assumption) ?_
          rotate_left
          · (intro w hSw; (try dsimp only at hSw); go_simp; try with_reducible rfl)
          simp only [Act.put]
          refine wpAnyH_take (i := 14) (v := ?_) rfl (by kernel_rfl) (by kernel_rfl) (by kernel_rfl) (fun _ _ _ h => h) (Or.inl ⟨by rfl, ?_⟩) (by assumption) ?_
          rotate_left
          · (intro w hSw; (try dsimp only at hSw); go_simp; try with_reducible rfl)
          simp only [Act.put]
          refine wpAnyH_take (i := 15) (v := ?_) rfl (by kernel_rfl) (by kernel_rfl) (by kernel_rfl) (fun _ _ _ h => h) (Or.inl ⟨by rfl, ?_⟩) (by assumption) ?_
          rotate_left
          · (intro w hSw; (try dsimp only at hSw); go_simp; try with_reducible rfl)
          simp only [Act.put]
          refine wpAnyH_take (i := 16) (v := ?_) rfl (by kernel_rfl) (by kernel_rfl) (by kernel_rfl) (fun _ _ _ h => h) (Or.inl ⟨by rfl, ?_⟩) (by assumption) ?_
          rotate_left
          · (intro w hSw; (try dsimp only at hSw); go_simp; try with_reducible rfl)
          simp only [Act.put]
          refine wpAnyH_take (i := 17) (v := ?_) rfl (by kernel_rfl) (by kernel_rfl) (by kernel_rfl) (fun _ _ _ h => h) (Or.inl ⟨by rfl, ?_⟩) (by assumption) ?_
          rotate_left
          · (intro w hSw; (try dsimp only at hSw); go_simp; try with_reducible rfl)
          simp only [Act.put]
          refine wpAnyH_take (i := 18) (v := ?_) rfl (by kernel_rfl) (by kernel_rfl) (by kernel_rfl) (fun _ _ _ h => h) (Or.inl ⟨by rfl, ?_⟩) (by assumption) ?_
          rotate_left
          · (intro w hSw; (try dsimp only at hSw); go_simp; try with_reducible rfl)
          simp only [Act.put]
          refine wpAnyH_take (i := 19) (v := ?_) rfl (by kernel_rfl) (by kernel_rfl) (by kernel_rfl) (fun _ _ _ h => h) (Or.inl ⟨by rfl, ?_⟩) (by assumption) ?_
          rotate_left
          · (intro w hSw; (try dsimp only at hSw); go_simp; try with_reducible rfl)
          simp only [Act.put]
          refine wpAnyH_take (i := 20) (v := ?_) rfl (by kernel_rfl) (by kernel_rfl) (by kernel_rfl) (fun _ _ _ h => h) (Or.inl ⟨by rfl, ?_⟩) (by assumption) ?_
          rotate_left
          · (intro w hSw; (try dsimp only at hSw); go_simp; try with_reducible rfl)
          simp only [Act.put]
          refine wpAnyH_take (i := 21) (v := ?_) rfl (by kernel_rfl) (by kernel_rfl) (by kernel_rfl) (fun _ _ _ h => h) (Or.inl ⟨by rfl, ?_⟩) (by assumption) ?_
          rotate_left
          · (intro w hSw; (try dsimp only at hSw); go_simp; try with_reducible rfl)
          simp only [Act.put]
          refine wpAnyH_take (i := 22) (v := ?_) rfl (by kernel_rfl) (by kernel_rfl) (by kernel_rfl) (fun _ _ _ h => h) (Or.inl ⟨by rfl, ?_⟩) (by assumption) ?_
          rotate_left
          · (intro w hSw; (try dsimp only at hSw); go_simp; try with_reducible rfl)
          simp only [Act.put]
          refine wpAnyH_take (i := 23) (v := ?_) rfl (by kernel_rfl) (by kernel_rfl) (by kernel_rfl) (fun _ _ _ h => h) (Or.inl ⟨by rfl, ?_⟩) (by assumption) ?_
          rotate_left
          · (intro w hSw; (try dsimp only at hSw); go_simp; try with_reducible rfl)
          simp only [Act.put]
          refine wpAnyH_take (i := 24) (v := ?_) rfl (by kernel_rfl) (by kernel_rfl) (by kernel_rfl) (fun _ _ _ h => h) (Or.inl ⟨by rfl, ?_⟩) (by assumption) ?_
          rotate_left
          · (intro w hSw; (try dsimp only at hSw); go_simp; try with_reducible rfl)
          simp only [Act.put]
          refine wpAnyH_take (i := 25) (v := ?_) rfl (by kernel_rfl) (by kernel_rfl) (by kernel_rfl) (fun _ _ _ h => h) (Or.inl ⟨by rfl, ?_⟩) (by assumption) ?_
          rotate_left
          · (intro w hSw; (try dsimp only at hSw); go_simp; try with_reducible rfl)
          simp only [Act.put]
          refine wpAnyH_ready (rs := [1, 26]) (by kernel_rfl) (by simp) ?_
          refine AllReadyH.cons rfl (fun K hK => ?_) ?_
          · go_simp
            refine hK.out _ _ ?_ (fun hHeld => ?_)
            · assumption
            clear hK K
            refine wpAnyH_ready (rs := [26]) (by kernel_rfl) (by simp) ?_
            refine AllReadyH.cons rfl (fun K hK => ?_) ?_
            · go_simp
              refine hK.out _ _ ?_ (fun hHeld => ?_)
              · go_keep
              clear hK K
              refine wpAnyH_ready (rs := [27]) (by kernel_rfl) (by simp) ?_
              refine AllReadyH.cons rfl (fun K hK => ?_) ?_
              · refine step_append_lies _ rfl (.tmp 62) (.tmp 87) 24 rfl V.heap.size 42 t0 (.agg #[.int .i64 0, .int .i64 0, .int .i64 0, .bool false, .int .i64 0]) 5 40 Tryd.underlying24 ht0 hz0 hz1 hz2 rfl (by decide) (.slice av j cap2) j _ (by simp [Act.eval]) hownA.out ⟨wr.heap.size, 0, none⟩ 1 1 [.int .i64 z0, .int .i64 z1, .int .i64 z2, .bool (z3 == 1), .int .i64 z4] (by simp [Act.eval]) rfl hnewsA.out h1cA.out (by decide) hA1.out hA2.out hA3.out (wr.heap.size + 1) hA4.out ?_
                intro g2 cap3 w2 hown2 hgrow hat hlt2
                have KS := KEEPS.out w2 hgrow
                obtain ⟨y0, y1, y2, y3, y4, y5, y6, y9, y10, y11, y7, y8⟩ := KC.out
                have x5 := ((KS.2 R _ y6 3).1 y7)
                have x6 := ((KS.2 R (.int .i64 0) y6 3).2 y8)
                have KSS : w2.cell? ⟨g, 2, none⟩ = some (.int .i64 z0) ∧ w2.cell? ⟨g, i, none⟩ = some (.int .i64 z1) ∧ w2.cell? ⟨g, i + 1, none⟩ = some (.int .i64 z2) ∧ w2.cell? ⟨g, i + 2, none⟩ = some (.int .i64 z3) ∧ w2.cell? ⟨g, i + 3, none⟩ = some (.int .i64 z4) := ⟨(KS.2 g _ y5 2).1 y0, (KS.2 g _ y5 i).1 y1, (KS.2 g _ y5 (i + 1)).1 y2, (KS.2 g _ y5 (i + 2)).1 y3, (KS.2 g _ y5 (i + 3)).1 y4⟩
                have K2 : Hid (w2.ownsRow V.heap.size 42 5 (.slice (some ⟨g2, 0, none⟩) (j + 1) cap3) (j + 1) ((setsOf ns j).flatMap S5.cells ++ [.int .i64 z0, .int .i64 z1, .int .i64 z2, .bool (z3 == 1), .int .i64 z4]) ∧ Turned R V w2 ∧ w2.cell? ⟨R, 0, none⟩ = some (.int .i64 (nthI ns 0)) ∧ w2.cell? ⟨R, 1, none⟩ = some (.int .i64 (nthI ns 1)) ∧ w2.cell? ⟨R, 2, none⟩ = some (.int .i64 z0) ∧ w2.cell? ⟨R, 3, none⟩ = some (.slice av j cap2) ∧ w2.frozen? ⟨R, 3, none⟩ = false) := ⟨hown2, KS.1, ((KS.2 R _ y6 0).1 y9), ((KS.2 R _ y6 1).1 y10), ((KS.2 R _ y6 2).1 y11), x5, x6⟩
                clear hown2 hgrow hat hlt2 KS y0 y1 y2 y3 y4 y5 y6 y7 y8 y9 y10 y11
                refine hK.out _ _ ?_ (fun hHeld => ?_)
                · assumption
                clear hK K
                refine wpAnyH_take (i := 28) (v := ?_) rfl (by kernel_rfl) (by kernel_rfl) (by kernel_rfl) (fun _ _ _ h => h) (Or.inl ⟨by rfl, ?_⟩) (by assumption) ?_
                rotate_left
                · (intro w hSw; (try dsimp only at hSw); go_simp; try with_reducible rfl)
                simp only [Act.put]
                refine wpAnyH_ready (rs := [29]) (by kernel_rfl) (by simp) ?_
                refine AllReadyH.cons rfl (fun K hK => ?_) ?_
                · go_simp
                  refine hK.out _ _ ?_ (fun hHeld => ?_)
                  · (simp only [HF.out]; assumption)
                  clear hK K
                  refine wpAnyH_done (by kernel_rfl) ?_ _
                  go_wp2
                  obtain ⟨o2, ht2, q0, q1, q2, q3, qf⟩ := K2.out
                  refine ⟨⟨j + 1, i + 4, some ⟨g2, 0, none⟩, cap3, by simp, by have := HQ.out.2.2.1; omega, by omega, ht2.setCell _ _, ?_, ?_, ?_, ?_, ?_, ?_⟩, by simp [intOf]; omega⟩
                  · rw [cell_set_other (by omega)]; exact q0
                  · rw [cell_set_other (by omega)]; exact q1
                  · rw [cell_set_other (by omega)]; exact q2
                  · exact cell_set_same q3
                  · rw [World.frozen?_setCell]; exact qf
                  · rw [setsOf_succ, List.flatMap_append, HS.out, List.flatMap_cons, List.flatMap_nil, List.append_nil, HE.out]
                    exact ownsRow_setCell_below o2 (by have := HQ.out.2.2.2.2.2; simp; omega) _
                · exact AllReadyH.nil
              · exact AllReadyH.nil
            · exact AllReadyH.nil
          refine AllReadyH.cons rfl (fun K hK => ?_) ?_
          · go_simp
            refine hK.out _ _ ?_ (fun hHeld => ?_)
            · go_keep
            clear hK K
            refine wpAnyH_ready (rs := [1]) (by kernel_rfl) (by simp) ?_
            refine AllReadyH.cons rfl (fun K hK => ?_) ?_
            · go_simp
              refine hK.out _ _ ?_ (fun hHeld => ?_)
              · assumption
              clear hK K
              refine wpAnyH_ready (rs := [27]) (by kernel_rfl) (by simp) ?_
              refine AllReadyH.cons rfl (fun K hK => ?_) ?_
              · refine step_append_lies _ rfl (.tmp 62) (.tmp 87) 24 rfl V.heap.size 42 t0 (.agg #[.int .i64 0, .int .i64 0, .int .i64 0, .bool false, .int .i64 0]) 5 40 Tryd.underlying24 ht0 hz0 hz1 hz2 rfl (by decide) (.slice av j cap2) j _ (by simp [Act.eval]) hownA.out ⟨wr.heap.size, 0, none⟩ 1 1 [.int .i64 z0, .int .i64 z1, .int .i64 z2, .bool (z3 == 1), .int .i64 z4] (by simp [Act.eval]) rfl hnewsA.out h1cA.out (by decide) hA1.out hA2.out hA3.out (wr.heap.size + 1) hA4.out ?_
                intro g2 cap3 w2 hown2 hgrow hat hlt2
                have KS := KEEPS.out w2 hgrow
                obtain ⟨y0, y1, y2, y3, y4, y5, y6, y9, y10, y11, y7, y8⟩ := KC.out
                have x5 := ((KS.2 R _ y6 3).1 y7)
                have x6 := ((KS.2 R (.int .i64 0) y6 3).2 y8)
                have KSS : w2.cell? ⟨g, 2, none⟩ = some (.int .i64 z0) ∧ w2.cell? ⟨g, i, none⟩ = some (.int .i64 z1) ∧ w2.cell? ⟨g, i + 1, none⟩ = some (.int .i64 z2) ∧ w2.cell? ⟨g, i + 2, none⟩ = some (.int .i64 z3) ∧ w2.cell? ⟨g, i + 3, none⟩ = some (.int .i64 z4) := ⟨(KS.2 g _ y5 2).1 y0, (KS.2 g _ y5 i).1 y1, (KS.2 g _ y5 (i + 1)).1 y2, (KS.2 g _ y5 (i + 2)).1 y3, (KS.2 g _ y5 (i + 3)).1 y4⟩
                have K2 : Hid (w2.ownsRow V.heap.size 42 5 (.slice (some ⟨g2, 0, none⟩) (j + 1) cap3) (j + 1) ((setsOf ns j).flatMap S5.cells ++ [.int .i64 z0, .int .i64 z1, .int .i64 z2, .bool (z3 == 1), .int .i64 z4]) ∧ Turned R V w2 ∧ w2.cell? ⟨R, 0, none⟩ = some (.int .i64 (nthI ns 0)) ∧ w2.cell? ⟨R, 1, none⟩ = some (.int .i64 (nthI ns 1)) ∧ w2.cell? ⟨R, 2, none⟩ = some (.int .i64 z0) ∧ w2.cell? ⟨R, 3, none⟩ = some (.slice av j cap2) ∧ w2.frozen? ⟨R, 3, none⟩ = false) := ⟨hown2, KS.1, ((KS.2 R _ y6 0).1 y9), ((KS.2 R _ y6 1).1 y10), ((KS.2 R _ y6 2).1 y11), x5, x6⟩
                clear hown2 hgrow hat hlt2 KS y0 y1 y2 y3 y4 y5 y6 y7 y8 y9 y10 y11
                refine hK.out _ _ ?_ (fun hHeld => ?_)
                · assumption
                clear hK K
                refine wpAnyH_take (i := 28) (v := ?_) rfl (by kernel_rfl) (by kernel_rfl) (by kernel_rfl) (fun _ _ _ h => h) (Or.inl ⟨by rfl, ?_⟩) (by assumption) ?_
                rotate_left
                · (intro w hSw; (try dsimp only at hSw); go_simp; try with_reducible rfl)
                simp only [Act.put]
                refine wpAnyH_ready (rs := [29]) (by kernel_rfl) (by simp) ?_
                refine AllReadyH.cons rfl (fun K hK => ?_) ?_
                · go_simp
                  refine hK.out _ _ ?_ (fun hHeld => ?_)
                  · (simp only [HF.out]; assumption)
                  clear hK K
                  refine wpAnyH_done (by kernel_rfl) ?_ _
                  go_wp2
                  obtain ⟨o2, ht2, q0, q1, q2, q3, qf⟩ := K2.out
                  refine ⟨⟨j + 1, i + 4, some ⟨g2, 0, none⟩, cap3, by simp, by have := HQ.out.2.2.1; omega, by omega, ht2.setCell _ _, ?_, ?_, ?_, ?_, ?_, ?_⟩, by simp [intOf]; omega⟩
                  · rw [cell_set_other (by omega)]; exact q0
                  · rw [cell_set_other (by omega)]; exact q1
                  · rw [cell_set_other (by omega)]; exact q2
                  · exact cell_set_same q3
                  · rw [World.frozen?_setCell]; exact qf
                  · rw [setsOf_succ, List.flatMap_append, HS.out, List.flatMap_cons, List.flatMap_nil, List.append_nil, HE.out]
                    exact ownsRow_setCell_below o2 (by have := HQ.out.2.2.2.2.2; simp; omega) _
                · exact AllReadyH.nil
              · exact AllReadyH.nil
            · exact AllReadyH.nil
          exact AllReadyH.nil
        · have hjm : j = m := by omega
          subst hjm
          have hi4 : i = ws.length := by omega
          subst hi4
          have hd : decide ((ws.length : Int) < (ws.length : Int)) = false := by simp
          have hmax : j ≤ maxLen := by unfold maxLen; omega
          have hrow := own_sl hown
          have hslq : Sl wr wr.heap.size av j (setsOf ns j) := ⟨setsOf_len ns j, hrow.imp id fun ⟨b, h1, _, h3, h4, _⟩ => ⟨b, 0, h1, h3, h4⟩⟩
          have HT : Hid (Turned R V wr ∧ Sl wr wr.heap.size av j (setsOf ns j) ∧ V.heap.size = R + 1 ∧ (j = 0 ∨ ∃ b, av = some ⟨b, 0, none⟩ ∧ V.heap.size ≤ b ∧ b < wr.heap.size ∧ SetsAt wr b 0 (setsOf ns j) ∧ Room wr b (j * 5))) := ⟨ht, hslq, hzV, hrow⟩
          have hdd : w.heap.size < V.heap.size ∧ w.heap.size ≠ R := by omega
          clear hown ht hslq hzV hrow
          go_wp2_with fail
          refine (specShow_any wr _ _ _ av j cap2 (setsOf ns j) hmax HT.out.2.1).mono ?_
          have after : ∀ w3, Below wr.heap.size wr w3 → (∀ o v, V.cell? ⟨w.heap.size, o, none⟩ = some v → w3.cell? ⟨w.heap.size, o, none⟩ = some v) ∧ (∀ o, V.frozen? ⟨w.heap.size, o, none⟩ = false → w3.frozen? ⟨w.heap.size, o, none⟩ = false) ∧ Below w.heap.size w w3 := fun w3 b3 => by
            have hsz := Nat.lt_of_lt_of_le hdd.1 HT.out.1.size
            refine ⟨fun o v h => (b3.cell (p := ⟨w.heap.size, o, none⟩) hsz).trans ((HT.out.1.cell (p := ⟨w.heap.size, o, none⟩) hdd.1 hdd.2).trans h), fun o h => (b3.frozen (p := ⟨w.heap.size, o, none⟩) hsz).trans ((HT.out.1.frozen (p := ⟨w.heap.size, o, none⟩) hdd.1 hdd.2).trans h), ?_⟩
            have bt : Below w.heap.size V wr := HT.out.1.below (by omega) (Nat.le_of_lt hdd.1)
            exact (B1.trans (BV.out.mono B1.size)).trans (bt.trans (b3.mono (Nat.le_of_lt hsz)))
          have AFTER : Hid (∀ w3, Below wr.heap.size wr w3 → (∀ o v, V.cell? ⟨w.heap.size, o, none⟩ = some v → w3.cell? ⟨w.heap.size, o, none⟩ = some v) ∧ (∀ o, V.frozen? ⟨w.heap.size, o, none⟩ = false → w3.frozen? ⟨w.heap.size, o, none⟩ = false) ∧ Below w.heap.size w w3) := after
          clear after
          by_cases hsh : showText (nthI ns 0) (nthI ns 1) (nthI ns 2) (setsOf ns j) = bs
          · have HSH : Hid (showText (nthI ns 0) (nthI ns 1) (nthI ns 2) (setsOf ns j) = bs) := hsh
            rw [hsh]
            clear hsh
            rintro e w3 ⟨rfl, b3⟩
            obtain ⟨cc, cf, bw⟩ := AFTER.out w3 b3
            have s0 := cc 0 _ HD.out.1
            have s1 := cc 1 _ HD.out.2.1
            have s2 := cc 2 _ HD.out.2.2.1
            have s3 := cc 3 _ HD.out.2.2.2.1
            have f0 := cf 0 HD.out.2.2.2.2.1
            have f1 := cf 1 HD.out.2.2.2.2.2.1
            have f2 := cf 2 HD.out.2.2.2.2.2.2.1
            have f3 := cf 3 HD.out.2.2.2.2.2.2.2
            have r0 := (b3.cell (p := ⟨R, 0, none⟩) hRq).trans r0
            have r1 := (b3.cell (p := ⟨R, 1, none⟩) hRq).trans r1
            have r2 := (b3.cell (p := ⟨R, 2, none⟩) hRq).trans r2
            have r3 := (b3.cell (p := ⟨R, 3, none⟩) hRq).trans r3
            have hwRR : w.heap.size ≠ R := hdd.2
            have B3 : Hid (Below w.heap.size w w3 ∧ Below wr.heap.size wr w3) := ⟨bw, b3⟩
            clear cc cf b3 rf bw
            go_wp2
            refine bodyPost_ret (v := .tuple #[.agg #[.int .i64 (nthI ns 0), .int .i64 (nthI ns 1), .int .i64 (nthI ns 2), .slice av j cap2], .bool true]) (by simp [results, Tryd.results13, go_sem, s0, s1, s2, s3]) rfl ?_
            refine ⟨(((B3.out.1.setCell (p := ⟨w.heap.size, 0, none⟩) (Nat.le_refl _) _).setCell (p := ⟨w.heap.size, 1, none⟩) (Nat.le_refl _) _).setCell (p := ⟨w.heap.size, 2, none⟩) (Nat.le_refl _) _).setCell (p := ⟨w.heap.size, 3, none⟩) (Nat.le_refl _) _, .inl ⟨HSH.out, av, cap2, rfl, setsOf_len ns j, ?_⟩⟩
            rcases HT.out.2.2.2 with h0 | ⟨b, h1, h2, h3, h4, _⟩
            · exact .inl h0
            · have hne : w.heap.size ≠ b := by have := HT.out.2.2.1; omega
              have hlt3 := Nat.lt_of_lt_of_le h3 B3.out.2.size
              exact .inr ⟨b, 0, h1, by simpa [World.setCell] using hlt3, ((((h4.below B3.out.2 h3).far hne _).far hne _).far hne _).far hne _⟩
          · have HSH : Hid (showText (nthI ns 0) (nthI ns 1) (nthI ns 2) (setsOf ns j) ≠ bs) := hsh
            have hqq : (showText (nthI ns 0) (nthI ns 1) (nthI ns 2) (setsOf ns j) == bs) = false := beq_false_of_ne hsh
            clear hsh
            rintro e w3 ⟨rfl, b3⟩
            obtain ⟨cc, cf, bw⟩ := AFTER.out w3 b3
            have s0 := cc 0 _ HD.out.1
            have s1 := cc 1 _ HD.out.2.1
            have s2 := cc 2 _ HD.out.2.2.1
            have s3 := cc 3 _ HD.out.2.2.2.1
            have f0 := cf 0 HD.out.2.2.2.2.1
            have f1 := cf 1 HD.out.2.2.2.2.2.1
            have f2 := cf 2 HD.out.2.2.2.2.2.2.1
            have f3 := cf 3 HD.out.2.2.2.2.2.2.2
            have B3 : Hid (Below w.heap.size w w3) := bw
            clear cc cf b3 rf bw
            go_wp2
            refine bodyPost_ret (v := .tuple #[.agg #[.int .i64 0, .int .i64 0, .int .i64 0, .slice none 0 0], .bool false]) (by simp [results, Tryd.results13, go_sem, s0, s1, s2, s3]) rfl ?_
            exact ⟨(((B3.out.setCell (p := ⟨w.heap.size, 0, none⟩) (Nat.le_refl _) _).setCell (p := ⟨w.heap.size, 1, none⟩) (Nat.le_refl _) _).setCell (p := ⟨w.heap.size, 2, none⟩) (Nat.le_refl _) _).setCell (p := ⟨w.heap.size, 3, none⟩) (Nat.le_refl _) _, .inr ⟨HSH.out, rfl⟩⟩
end Go.Proofs.YtlnnghlmhmnnlaaDoor
