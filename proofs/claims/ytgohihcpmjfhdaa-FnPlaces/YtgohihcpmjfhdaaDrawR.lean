/- What the specification draws for Remap: whatever comes, few Places and few of who lives, in memory of their own. -/
import Derived.Test.YtgohihcpmjfhdaaRows
import Derived.Test.YtgohihcpmjfhdaaDrawP
import Derived.Test.YtgohihcpmjfhdaaBoolRow
import Derived.WalkKit
import Derived.WalkSpells
import Derived.WalkLawsBesides
import Derived.Below
namespace Go.Proofs.Ytgohihcpmjfhdaa
open Go.RowKit
/-- The value v owns the truths al, from block base on. -/
def OT (w : World) (base : Nat) (v : Value) (al : List Bool) : Prop := w.ownsRow base 4 1 v al.length (al.map Value.bool)
theorem OT.kept {w w' : World} {base : Nat} {v : Value} {al : List Bool} (h : OT w base v al) (hs : ∀ q, v.ownBlock = some q → w'.heap[q]? = w.heap[q]?) : OT w' base v al := by
  refine ⟨h.1, h.2.imp id ?_⟩
  rintro ⟨g, cap, cur, rfl, l, hg, r⟩
  exact ⟨g, cap, cur, rfl, l, (hs g rfl).trans hg, r⟩
theorem info_bool : (Try.prog.info? 4).map (fun i => (i.zero, i.size, i.bytes)) = some (some (.bool false), 1, 1) := by kernel_rfl
theorem OT.push (W : World) (base : Nat) (v : Value) (al : List Bool) (z : Bool) (ty : TypeId) (h : OT W base v al) (hm : al.length ≤ 1000) (hbase : base ≤ W.heap.size) :
    ∃ v' W', (Builtin.append_ #[25, 25] ty #[v, .slice (some ⟨W.heap.size, 0, none⟩) 1 1]).run Try.prog (W.alloc (.cells #[.bool z] 4)) = .ok v' W' ∧ OT W' base v' (al ++ [z]) ∧ (W.alloc (.cells #[.bool z] 4)).grownBy W' v.ownBlock ∧ ∃ g cap, v' = .slice (some ⟨g, 0, none⟩) (al.length + 1) cap := by
  obtain ⟨i0, hi0, hz0, hz1, hz2⟩ := info_parts info_bool
  have hadd : ∀ (b o j : Nat), (⟨b, o, none⟩ : Addr).add j = ⟨b, o + j, none⟩ := fun b o j => by unfold Addr.add; split <;> simp_all
  have bA : Below W.heap.size W (W.alloc (.cells #[.bool z] 4)) := (Below.refl _ _).alloc (Nat.le_refl _) _
  have hA : OT (W.alloc (.cells #[.bool z] 4)) base v al := h.kept fun q e => bA.block q (World.ownsRow.lt h q e).2
  obtain ⟨v', w', hrun, hown, hg, _, hl⟩ := run_append_own_at (P := Try.prog) (W.alloc (.cells #[.bool z] 4)) base 25 ty 4 i0 (.bool false) 1 1 Try.underlying25 hi0 hz0 hz1 hz2 rfl (by decide)
    v al.length _ hA ⟨W.heap.size, 0, none⟩ 1 1 [.bool z] (by simp) (fun j u h => by
      cases j with
      | zero => simp at h; subst h; rw [hadd]; go_simp
      | succ j => simp at h)
    (fun u hu => by simp at hu; subst hu; rfl) (by unfold maxLen; omega) (by omega) (by have := bA.size; omega)
  refine ⟨v', w', hrun, ?_, hg, ?_⟩
  · unfold OT
    rw [List.map_append, List.length_append]
    exact hown
  · obtain ⟨x, y, e', _⟩ := World.ownsRow.form hown (by omega)
    exact ⟨x, y, e'⟩
theorem OT.sl {w : World} {base g n cap : Nat} {al : List Bool} (h : OT w base (.slice (some ⟨g, 0, none⟩) n cap) al) : SlB w w.heap.size (some ⟨g, 0, none⟩) al.length al := by
  refine ⟨rfl, .inr ⟨g, 0, rfl, (World.ownsRow.lt h g rfl).2, fun i z e => ?_⟩⟩
  have hi : i < al.length := (List.getElem?_eq_some_iff.1 e).1
  obtain rfl : n = al.length := by
    rcases h.2 with ⟨e', _⟩ | ⟨g', cap', cur, e', _⟩
    · cases e'
    · cases e'; rfl
  rw [Nat.zero_add, World.ownsRow.cellAt h i (by omega), List.getElem?_map, e]; rfl
set_option maxHeartbeats 4000000 in
theorem DrawRemap_any (w : World) (a : Option Addr) (n k : Nat) (hb : Bytes w w.heap.size a n) (hn : n ≤ 4096) :
    Calls Try.prog 10 #[.slice a n k] w fun e w' => ∃ x m cap zss y l cl al, e = .returned (.tuple #[.slice x m cap, .slice y l cl]) ∧ SlP w' w'.heap.size x m zss ∧ m ≤ 7 ∧ (∀ zs ∈ zss, zs.length ≤ 4) ∧ SlB w' w'.heap.size y l al ∧ l ≤ 9 ∧ Below w.heap.size w w' := by
  have HB : Hid (Bytes w w.heap.size a n) := hb
  clear hb
  have hmk : ∀ W : World, (Instr.makeSlice 25 (.int .i64 9) (.int .i64 9)).run Try.prog W = .ok (.slice (some ⟨W.heap.size, 0, none⟩) 9 9) (W.alloc (.cells (madeCells #[.bool false] 9) 4)) := fun W => make_bools 9 (by omega) W
  have HMK : Hid _ := hmk
  clear hmk
  go_enter Try.func10, Try.ntmps10
  go_wp2_with fail
  refine (l1New_any w a n k HB.out hn).mono ?_
  rintro e w1 ⟨c, rfl, hc, cur1, b1⟩
  have K1 : Hid (Cur w1 c a n k ∧ Below w.heap.size w w1 ∧ w.heap.size ≤ c) := ⟨cur1, b1, hc⟩
  clear cur1 b1 hc
  go_wp2_with fail
  refine (l5Draw_any w1 w.heap.size c a n k K1.out.1 (HB.out.below K1.out.2.1) K1.out.2.2).mono ?_
  rintro e w2 ⟨x, m, cap, zss, rfl, sp, m7, z4, c2, t2⟩
  have K2 : Hid (SlPc c w2 x m zss ∧ Cur w2 c a n k ∧ Below w.heap.size w w2 ∧ w.heap.size ≤ c) := ⟨sp, c2, K1.out.2.1.trans (t2.below K1.out.2.2 K1.out.2.1.size), K1.out.2.2⟩
  clear sp c2 t2 K1
  go_wp2_with fail
  have tA : Turned c w2 (w2.alloc (.cells #[] 4)) := (Turned.refl _ _).alloc _
  have BEL : Hid (∀ W, Turned c w2 W → Below w.heap.size w W) := fun W t => K2.out.2.2.1.trans (t.below K2.out.2.2.2 K2.out.2.2.1.size)
  have hcl : c < w2.heap.size := K2.out.2.1.lt
  refine (l1Below_any _ w.heap.size c a n k 9 (K2.out.2.1.alloc _) (HB.out.below (BEL.out _ tA)) K2.out.2.2.2 (by omega)).mono ?_
  rintro e w3 ⟨y3, rfl, y30, y39, c3, t3⟩
  obtain ⟨j3, rfl⟩ := Int.eq_ofNat_of_zero_le y30
  have ot0 : OT (w2.alloc (.cells #[] 4)) w2.heap.size (.slice (some ⟨w2.heap.size, 0, none⟩) 0 0) [] := World.ownsRow_made w2 #[] 0 (Nat.le_refl _) (Nat.zero_le _) rfl
  have K3 : Hid (Cur w3 c a n k ∧ Turned c w2 w3 ∧ OT w3 w2.heap.size (.slice (some ⟨w2.heap.size, 0, none⟩) 0 0) []) := ⟨c3, tA.trans t3, ot0.kept fun q e => t3.block q (World.ownsRow.lt ot0 q e).2 (by have := (World.ownsRow.lt ot0 q e).1; omega)⟩
  clear c3 t3 tA ot0
  go_wp2
  go_loopw [6, 7] (fun v6 v7 wr => ∃ (j : Nat) (al : List Bool) (g ca : Nat), v7 = .int .i64 (j : Int) ∧ v6 = .slice (some ⟨g, 0, none⟩) al.length ca ∧ Cur wr c a n k ∧ Turned c w2 wr ∧ OT wr w2.heap.size v6 al ∧ al.length + j ≤ 8) (fun _ v7 _ => (intOf v7).toNat)
  case atStart => exact ⟨j3, [], _, _, rfl, rfl, K3.out.1, K3.out.2.1, K3.out.2.2, by simp; omega⟩
  case round =>
    obtain ⟨j, al, g, ca, rfl, rfl, cur, tur, ot, hjl⟩ := hrel
    clear K3
    by_cases hj0 : 0 < j
    · have hj0' : (0 : Int) < (j : Int) := by omega
      have K4 : Hid (Cur wr c a n k ∧ Turned c w2 wr ∧ OT wr w2.heap.size (.slice (some ⟨g, 0, none⟩) al.length ca) al) := ⟨cur, tur, ot⟩
      clear cur tur ot
      go_wp2_with fail
      refine (l1Once_any _ w.heap.size c a n k 3 K4.out.1 (HB.out.below (BEL.out _ K4.out.2.1)) K2.out.2.2.2 (by omega)).mono ?_
      rintro e w5 ⟨y5, rfl, c5, t5⟩
      have ot5 : OT w5 w2.heap.size (.slice (some ⟨g, 0, none⟩) al.length ca) al := K4.out.2.2.kept fun q e => t5.block q (World.ownsRow.lt K4.out.2.2 q e).2 (by have := (World.ownsRow.lt K4.out.2.2 q e).1; omega)
      have tw5 := K4.out.2.1.trans t5
      obtain ⟨v', W', hr, ho, hg, g', ca', rfl⟩ := OT.push w5 w2.heap.size _ al (!y5) 25 ot5 (by omega) tw5.size
      have gl : w2.heap.size ≤ g ∧ g < w5.heap.size := World.ownsRow.lt ot5 g rfl
      have tA : Turned c w2 (w5.alloc (.cells #[.bool (!y5)] 4)) := tw5.alloc _
      have K5 : Hid (Cur W' c a n k ∧ Turned c w2 W' ∧ OT W' w2.heap.size (.slice (some ⟨g', 0, none⟩) (al.length + 1) ca') (al ++ [!y5])) :=
        ⟨(c5.alloc _).of_block hg.size (hg.block c (by have := c5.lt; simp; omega) (fun e => by have : c = g := Option.some.inj e; omega)), tA.grown hg (fun q e => by have : g = q := Option.some.inj e; omega), ho⟩
      clear ot5 tw5 ho hg tA c5 t5
      go_wp2_with (at_builtin; refine append_known _ rfl (.tmp 19) (.tmp 23) 25 rfl _ _ _ _ rfl rfl hr ?_)
      exact ⟨⟨j - 1, al ++ [!y5], g', ca', by congr 1; omega, by simp, K5.out.1, K5.out.2.1, K5.out.2.2, by simp; omega⟩, by simp [intOf]; omega⟩
    · obtain rfl : j = 0 := by omega
      have hd : decide ((0 : Int) < ((0 : Nat) : Int)) = false := by simp
      have K4 : Hid (Cur wr c a n k ∧ Turned c w2 wr ∧ OT wr w2.heap.size (.slice (some ⟨g, 0, none⟩) al.length ca) al) := ⟨cur, tur, ot⟩
      clear cur tur ot
      go_wp2_with fail
      refine (l1Once_any _ w.heap.size c a n k 20 K4.out.1 (HB.out.below (BEL.out _ K4.out.2.1)) K2.out.2.2.2 (by omega)).mono ?_
      rintro e w5 ⟨y5, rfl, c5, t5⟩
      have ot5 : OT w5 w2.heap.size (.slice (some ⟨g, 0, none⟩) al.length ca) al := K4.out.2.2.kept fun q e => t5.block q (World.ownsRow.lt K4.out.2.2 q e).2 (by have := (World.ownsRow.lt K4.out.2.2 q e).1; omega)
      have K5 : Hid (Turned c w2 w5 ∧ OT w5 w2.heap.size (.slice (some ⟨g, 0, none⟩) al.length ca) al) := ⟨K4.out.2.1.trans t5, ot5⟩
      clear ot5 c5 t5 K4
      cases y5 with
      | false =>
        go_wp2
        refine bodyPost_ret (v := .tuple #[.slice x m cap, .slice (some ⟨g, 0, none⟩) al.length ca]) (by simp [results, Try.results10, go_sem]) rfl ?_
        exact ⟨x, m, cap, zss, _, _, _, al, rfl, (K2.out.1.turned K5.out.1).sl, m7, z4, K5.out.2.sl, by omega, BEL.out _ K5.out.1⟩
      | true =>
        have hmk := HMK.out w5
        have tA : Turned c w2 (w5.alloc (.cells (madeCells #[.bool false] 9) 4)) := K5.out.1.alloc _
        have KT : Hid (Turned c w2 (w5.alloc (.cells (madeCells #[.bool false] 9) 4))) := tA
        clear tA
        go_wp2
        refine bodyPost_ret (v := .tuple #[.slice x m cap, .slice (some ⟨w5.heap.size, 0, none⟩) 9 9]) (by simp [results, Try.results10, go_sem]) rfl ?_
        refine ⟨x, m, cap, zss, _, _, _, List.replicate 9 false, rfl, (K2.out.1.turned KT.out).sl, m7, z4, ⟨by simp, .inr ⟨w5.heap.size, 0, rfl, by simp, fun i z e => ?_⟩⟩, by omega, BEL.out _ KT.out⟩
        rw [List.getElem?_replicate] at e
        split at e
        · rename_i hi
          cases e
          rw [Nat.zero_add, World.cell?_alloc_new, ← Array.getElem?_toList, toList_madeCells_one, List.getElem?_replicate, if_pos hi]
        · cases e
end Go.Proofs.Ytgohihcpmjfhdaa
