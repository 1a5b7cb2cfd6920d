/- What the specification's ReadRecord answers at a text one of whose words is no number, or whose numbers are fewer than four or do not come by four: the zero Record and false. -/
import Derived.Test.YtlnnghlmhmnnlaaDoorRows
import Derived.Test.YtlnnghlmhmnnlaaDoorReads
import Derived.Test.YtlnnghlmhmnnlaaDoorNums
import Derived.Test.YtlnnghlmhmnnlaaDoorWordsOf
import Derived.WalkKit
import Derived.WalkSpells
import Derived.WalkLawsBesides
import Derived.Below
import Derived.Deep.AppendLies
import Derived.Deep.Heap
namespace Go.Proofs.YtlnnghlmhmnnlaaDoor
open Go.RowKit
def ints (zs : List Int) : List Value := zs.map (Value.int .i64)
theorem info_i64 : (Tryd.prog.info? 2).map (fun i => (i.zero, i.size, i.bytes)) = some (some (.int .i64 0), 1, 8) := by kernel_rfl
theorem row_cells {w : World} {B : Nat} {t : TypeId} {g n cap : Nat} {vs : List Value} (h : w.ownsRow B t 1 (.slice (some ⟨g, 0, none⟩) n cap) n vs) : ∀ (j : Nat) (u : Value), vs[j]? = some u → w.cell? ⟨g, j, none⟩ = some u := by
  intro j u e
  rcases h.2 with ⟨h0, _⟩ | ⟨g', cap', cur, hv, _, hg, _, _, _, ht⟩
  · cases h0
  · cases hv
    rw [cell_of_row w g j cur t (0, 0) hg]
    rw [← ht, List.getElem?_take] at e
    split at e
    · simpa using e
    · cases e
theorem split_len (bs : List UInt8) : (splitW bs).length ≤ bs.length + 1 := by
  induction bs with
  | nil => simp [splitW]
  | cons c cs ih =>
    rw [split_eq cs] at ih
    rw [split_eq (c :: cs)]
    by_cases h : c = 32
    · subst h; rw [hd_blank, tl_blank, split_eq cs]; simp at ih ⊢; omega
    · rw [hd_cons h, tl_cons h]; simp at ih ⊢; omega
theorem word_len {bs w : List UInt8} (h : w ∈ splitW bs) : w.length ≤ bs.length := by
  induction bs generalizing w with
  | nil => simp [splitW] at h; subst h; simp
  | cons c cs ih =>
    rw [split_eq] at h
    by_cases hc : c = 32
    · subst hc
      rw [hd_blank, tl_blank] at h
      rcases List.mem_cons.1 h with rfl | h
      · simp
      · have := ih h; simp; omega
    · rw [hd_cons hc, tl_cons hc] at h
      rcases List.mem_cons.1 h with rfl | h
      · have := ih (w := hd cs) (by rw [split_eq]; simp)
        simp; omega
      · have := ih (w := w) (by rw [split_eq]; simp [h])
        simp; omega
theorem nums_take {ws : List (List UInt8)} {i : Nat} {w : List UInt8} {ns : List Int} (h : numsOf (ws.take i) = some ns) (hw : ws[i]? = some w) : numsOf (ws.take (i + 1)) = (num w).map fun v => ns ++ [v] := by
  rw [List.take_add_one, hw]
  simp only [numsOf] at h ⊢
  rw [List.mapM_append, h]
  cases hn : num w with
  | none => simp [List.mapM_cons, hn]
  | some v => simp [List.mapM_cons, hn]
theorem nums_len {ws : List (List UInt8)} {ns : List Int} (h : numsOf ws = some ns) : ns.length = ws.length := by
  have := numsOf_itoa h
  rw [this]; simp
theorem nums_none {ws : List (List UInt8)} {i : Nat} (h : numsOf (ws.take i) = none) : numsOf ws = none := by
  rw [← List.take_append_drop i ws]
  simp only [numsOf] at h ⊢
  rw [List.mapM_append, h]; rfl
set_option maxHeartbeats 4000000 in
theorem specRead_bad (w : World) (bs : List UInt8) (hl : bs.length ≤ 1048576) (hno : ∀ ns, numsOf (splitW bs) = some ns → ns.length < 4 ∨ ns.length % 4 ≠ 0) :
    Calls Tryd.prog 13 #[.string ⟨bs.toArray⟩] w fun e w' => e = .returned (.tuple #[.agg #[.int .i64 0, .int .i64 0, .int .i64 0, .slice none 0 0], .bool false]) ∧ Below w.heap.size w w' := by
  go_enter Tryd.func13, Tryd.ntmps13
  go_wp2_with fail
  have e0 : (w.alloc (.cells #[.int .i64 0, .int .i64 0, .int .i64 0, .slice none 0 0] 26)).cell? ⟨w.heap.size, 0, none⟩ = some (.int .i64 0) := by go_simp
  have e1 : (w.alloc (.cells #[.int .i64 0, .int .i64 0, .int .i64 0, .slice none 0 0] 26)).cell? ⟨w.heap.size, 1, none⟩ = some (.int .i64 0) := by go_simp
  have e2 : (w.alloc (.cells #[.int .i64 0, .int .i64 0, .int .i64 0, .slice none 0 0] 26)).cell? ⟨w.heap.size, 2, none⟩ = some (.int .i64 0) := by go_simp
  have e3 : (w.alloc (.cells #[.int .i64 0, .int .i64 0, .int .i64 0, .slice none 0 0] 26)).cell? ⟨w.heap.size, 3, none⟩ = some (.slice none 0 0) := by go_simp
  have ef : ∀ j, (w.alloc (.cells #[.int .i64 0, .int .i64 0, .int .i64 0, .slice none 0 0] 26)).frozen? ⟨w.heap.size, j, none⟩ = false := by intro j; go_simp
  have zs : w.heap.size < (w.alloc (.cells #[.int .i64 0, .int .i64 0, .int .i64 0, .slice none 0 0] 26)).heap.size := by simp
  generalize hW : w.alloc (.cells #[.int .i64 0, .int .i64 0, .int .i64 0, .slice none 0 0] 26) = W at e0 e1 e2 e3 ef zs ⊢
  have bW : Below w.heap.size w W := by subst hW; exact (Below.refl _ _).alloc (Nat.le_refl _) _
  clear hW
  refine (l2Words_any W bs hl).mono ?_
  rintro e w1 ⟨gw, capw, rfl, b1, hgw1, hgw2, hown1⟩
  have hsl := split_len bs
  have hwords : ∀ (j : Nat) (x : List UInt8), (splitW bs)[j]? = some x → w1.cell? ⟨gw, j, none⟩ = some (.string ⟨x.toArray⟩) := fun j x hx => row_cells hown1 j _ (by simp [strVals, hx])
  have hwl : ∀ x ∈ splitW bs, x.length ≤ 1048576 := fun x hx => Nat.le_trans (word_len hx) hl
  have c0 := (b1.cell (p := ⟨w.heap.size, 0, none⟩) zs).trans e0
  have c1 := (b1.cell (p := ⟨w.heap.size, 1, none⟩) zs).trans e1
  have c2 := (b1.cell (p := ⟨w.heap.size, 2, none⟩) zs).trans e2
  have c3 := (b1.cell (p := ⟨w.heap.size, 3, none⟩) zs).trans e3
  have f0 := (b1.frozen (p := ⟨w.heap.size, 0, none⟩) zs).trans (ef 0)
  have f1 := (b1.frozen (p := ⟨w.heap.size, 1, none⟩) zs).trans (ef 1)
  have f2 := (b1.frozen (p := ⟨w.heap.size, 2, none⟩) zs).trans (ef 2)
  have f3 := (b1.frozen (p := ⟨w.heap.size, 3, none⟩) zs).trans (ef 3)
  have hw1 : w.heap.size < w1.heap.size := Nat.lt_of_lt_of_le zs b1.size
  have B1 : Below w.heap.size w w1 := bW.trans (b1.mono bW.size)
  generalize hWS : splitW bs = ws at *
  clear hown1 e0 e1 e2 e3 ef bW b1 zs hgw1 W hWS
  have KW : Hid ((∀ (j : Nat) (x : List UInt8), ws[j]? = some x → w1.cell? ⟨gw, j, none⟩ = some (.string ⟨x.toArray⟩)) ∧ (∀ x ∈ ws, x.length ≤ 1048576) ∧ (∀ ns, numsOf ws = some ns → ns.length < 4 ∨ ns.length % 4 ≠ 0)) := ⟨hwords, hwl, hno⟩
  clear hwords hwl hno
  go_wp2
  go_loopw [5, 6, 7, 8] (fun v5 v6 _ _ wr => ∃ (i g cap : Nat) (ns : List Int), v6 = .int .i64 i ∧ v5 = .slice (some ⟨g, 0, none⟩) i cap ∧ i ≤ ws.length ∧ numsOf (ws.take i) = some ns ∧ Below w1.heap.size w1 wr ∧ w1.heap.size ≤ g ∧ g < wr.heap.size ∧ wr.ownsRow w1.heap.size 2 1 (.slice (some ⟨g, 0, none⟩) i cap) i (ints ns)) (fun _ v6 _ _ _ => ws.length - (intOf v6).toNat)
  case atStart => exact ⟨0, w1.heap.size, 0, [], rfl, rfl, Nat.zero_le _, rfl, (Below.refl _ _).alloc (Nat.le_refl _) _, Nat.le_refl _, by simp, ⟨rfl, .inr ⟨w1.heap.size, 0, #[], rfl, Nat.le_refl _, Go.Deep.blk_alloc_new w1 _, Nat.le_refl _, Nat.zero_le _, rfl, rfl⟩⟩⟩
  case round =>
    obtain ⟨i, g, cap, ns, rfl, rfl, hi, hns, hbl, hg1, hg2, hown⟩ := hrel
    by_cases hlt : i < ws.length
    · obtain ⟨x, hx⟩ : ∃ x, ws[i]? = some x := ⟨ws[i], by simp [hlt]⟩
      have hcx := (hbl.cell (p := ⟨gw, i, none⟩) hgw2).trans (KW.out.1 i x hx)
      have hxl := KW.out.2.1 x (List.mem_of_getElem? hx)
      have hstep := nums_take hns hx
      have KO : Hid (Below w1.heap.size w1 wr ∧ wr.ownsRow w1.heap.size 2 1 (.slice (some ⟨g, 0, none⟩) i cap) i (ints ns) ∧ numsOf (ws.take (i + 1)) = (num x).map fun v => ns ++ [v]) := ⟨hbl, hown, hstep⟩
      have d0 := (hbl.cell (p := ⟨w.heap.size, 0, none⟩) hw1).trans c0
      have d1 := (hbl.cell (p := ⟨w.heap.size, 1, none⟩) hw1).trans c1
      have d2 := (hbl.cell (p := ⟨w.heap.size, 2, none⟩) hw1).trans c2
      have d3 := (hbl.cell (p := ⟨w.heap.size, 3, none⟩) hw1).trans c3
      have k0 := (hbl.frozen (p := ⟨w.heap.size, 0, none⟩) hw1).trans f0
      have k1 := (hbl.frozen (p := ⟨w.heap.size, 1, none⟩) hw1).trans f1
      have k2 := (hbl.frozen (p := ⟨w.heap.size, 2, none⟩) hw1).trans f2
      have k3 := (hbl.frozen (p := ⟨w.heap.size, 3, none⟩) hw1).trans f3
      clear hbl hown hstep hns hx c0 c1 c2 c3 f0 f1 f2 f3
      go_wp2_with fail
      refine (l2Number_any wr x (by omega)).mono ?_
      cases hnum : num x with
      | none =>
        rintro e wr ⟨rfl, rfl⟩
        go_wp2
        refine bodyPost_ret (v := .tuple #[.agg #[.int .i64 0, .int .i64 0, .int .i64 0, .slice none 0 0], .bool false]) (by simp [results, Tryd.results13, go_sem, d0, d1, d2, d3]) rfl ⟨rfl, ?_⟩
        exact ((((B1.trans (KO.out.1.mono B1.size)).setCell (p := ⟨w.heap.size, 0, none⟩) (Nat.le_refl _) _).setCell (p := ⟨w.heap.size, 1, none⟩) (Nat.le_refl _) _).setCell (p := ⟨w.heap.size, 2, none⟩) (Nat.le_refl _) _).setCell (p := ⟨w.heap.size, 3, none⟩) (Nat.le_refl _) _
      | some v =>
        rintro e wr ⟨rfl, rfl⟩
        have hownA : Hid ((wr.alloc (.cells #[(.int .i64 v)] 2)).ownsRow w1.heap.size 2 1 (.slice (some ⟨g, 0, none⟩) i cap) i (ints ns)) := KO.out.2.1.alloc _
        have hnewsA : Hid (∀ (j : Nat) (u : Value), ([(.int .i64 v)] : List Value)[j]? = some u → (wr.alloc (.cells #[(.int .i64 v)] 2)).cell? ((⟨wr.heap.size, 0, none⟩ : Addr).add j) = some u) := World.news_of_block (w := wr.alloc (.cells #[(.int .i64 v)] 2)) (B := wr.heap.size) (cs := #[(.int .i64 v)]) (t := 2) (fr := (0, 0)) (Go.Deep.blk_alloc_new wr _)
        have hA1 : Hid (i + 1 ≤ maxLen) := by unfold Hid maxLen; omega
        have hA2 : Hid ((i + 1) * 8 ≤ 140737488355328) := by unfold Hid; omega
        have hA3 : Hid (w1.heap.size ≤ (wr.alloc (.cells #[(.int .i64 v)] 2)).heap.size) := by unfold Hid; simp; have := KO.out.1.size; omega
        have hA4 : Hid ((wr.alloc (.cells #[(.int .i64 v)] 2)).heap.size = wr.heap.size + 1) := by unfold Hid; simp
        have HM : Hid (numsOf (ws.take (i + 1)) = some (ns ++ [v])) := by have := KO.out.2.2; rw [hnum] at this; exact this
        obtain ⟨i0, hi0, hz0, hz1, hz2⟩ := info_parts info_i64
        clear hnum
        go_wp2_with (at_builtin; refine wpList_append_lies (wr.alloc (.cells #[(.int .i64 v)] 2)) rfl (.tmp 31) (.tmp 33) 40 rfl w1.heap.size 2 i0 (.int .i64 0) 1 8 Tryd.underlying40 hi0 hz0 hz1 hz2 rfl (by decide) (.slice (some ⟨g, 0, none⟩) i cap) i _ rfl hownA.out ⟨wr.heap.size, 0, none⟩ 1 1 [(.int .i64 v)] rfl rfl hnewsA.out (by intro u hu; simp at hu; subst hu; rfl) (by decide) hA1.out hA2.out hA3.out (wr.heap.size + 1) hA4.out ?_; intro g2 cap2 w2 hown2 hgrow hat2 hlt2; have K2 : Hid (w2.ownsRow w1.heap.size 2 1 (.slice (some ⟨g2, 0, none⟩) (i + 1) cap2) (i + 1) (ints ns ++ [(.int .i64 v)]) ∧ (g = g2 ∨ g2 = wr.heap.size + 1) ∧ g2 < w2.heap.size ∧ World.grownBy (wr.alloc (.cells #[(.int .i64 v)] 2)) w2 (some g)) := ⟨hown2, (by rcases hat2 with h | h; exact .inl (Option.some.inj h); exact .inr h), hlt2, hgrow⟩; clear hown2 hgrow hat2 hlt2)
        obtain ⟨o2, hat2, hlt2, hgrow⟩ := K2.out
        have hb2 : Below w1.heap.size w1 w2 := Below.grown (KO.out.1.alloc KO.out.1.size _) hgrow hA3.out (fun q e => by cases e; exact hg1)
        have hg2' : w1.heap.size ≤ g2 := by have := KO.out.1.size; rcases hat2 with h | h <;> omega
        exact ⟨⟨i + 1, g2, cap2, ns ++ [v], by simp, rfl, by omega, HM.out, hb2, hg2', hlt2, by simpa [ints] using o2⟩, by simp [intOf]; omega⟩
    · have : i = ws.length := by omega
      subst this
      rw [List.take_length] at hns
      have hbad := KW.out.2.2 ns hns
      rw [nums_len hns] at hbad
      have KO : Hid (Below w1.heap.size w1 wr) := hbl
      have d0 := (hbl.cell (p := ⟨w.heap.size, 0, none⟩) hw1).trans c0
      have d1 := (hbl.cell (p := ⟨w.heap.size, 1, none⟩) hw1).trans c1
      have d2 := (hbl.cell (p := ⟨w.heap.size, 2, none⟩) hw1).trans c2
      have d3 := (hbl.cell (p := ⟨w.heap.size, 3, none⟩) hw1).trans c3
      have k0 := (hbl.frozen (p := ⟨w.heap.size, 0, none⟩) hw1).trans f0
      have k1 := (hbl.frozen (p := ⟨w.heap.size, 1, none⟩) hw1).trans f1
      have k2 := (hbl.frozen (p := ⟨w.heap.size, 2, none⟩) hw1).trans f2
      have k3 := (hbl.frozen (p := ⟨w.heap.size, 3, none⟩) hw1).trans f3
      have hd : decide ((ws.length : Int) < (ws.length : Int)) = false := by simp
      clear hbl hown hns c0 c1 c2 c3 f0 f1 f2 f3
      by_cases h4 : ws.length < 4
      · have q : (ws.length : Int) < 4 := by omega
        clear hbad
        go_wp2
        refine bodyPost_ret (v := .tuple #[.agg #[.int .i64 0, .int .i64 0, .int .i64 0, .slice none 0 0], .bool false]) (by simp [results, Tryd.results13, go_sem, d0, d1, d2, d3]) rfl ⟨rfl, ?_⟩
        exact ((((B1.trans (KO.out.mono B1.size)).setCell (p := ⟨w.heap.size, 0, none⟩) (Nat.le_refl _) _).setCell (p := ⟨w.heap.size, 1, none⟩) (Nat.le_refl _) _).setCell (p := ⟨w.heap.size, 2, none⟩) (Nat.le_refl _) _).setCell (p := ⟨w.heap.size, 3, none⟩) (Nat.le_refl _) _
      · have q : decide ((ws.length : Int) < 4) = false := by simp; omega
        obtain ⟨m, hm, hm0⟩ : ∃ m : Nat, (ws.length : Int).tmod 4 = m ∧ m ≠ 0 := ⟨ws.length % 4, by rw [Int.tmod_eq_emod_of_nonneg (by omega)]; omega, by omega⟩
        have q2 : ((m : Int) != 0) = true := by simp; omega
        clear hbad
        go_wp2
        refine bodyPost_ret (v := .tuple #[.agg #[.int .i64 0, .int .i64 0, .int .i64 0, .slice none 0 0], .bool false]) (by simp [results, Tryd.results13, go_sem, d0, d1, d2, d3]) rfl ⟨rfl, ?_⟩
        exact ((((B1.trans (KO.out.mono B1.size)).setCell (p := ⟨w.heap.size, 0, none⟩) (Nat.le_refl _) _).setCell (p := ⟨w.heap.size, 1, none⟩) (Nat.le_refl _) _).setCell (p := ⟨w.heap.size, 2, none⟩) (Nat.le_refl _) _).setCell (p := ⟨w.heap.size, 3, none⟩) (Nat.le_refl _) _
end Go.Proofs.YtlnnghlmhmnnlaaDoor
