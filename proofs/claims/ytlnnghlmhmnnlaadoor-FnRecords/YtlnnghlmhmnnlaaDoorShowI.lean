/- What the program's showNumbers and ShowRecord answer: the numerals with a blank between each two; a right record's text. -/
import Derived.Test.YtlnnghlmhmnnlaaDoorRows
import Derived.Test.YtlnnghlmhmnnlaaDoorShelf
import Derived.Test.YtlnnghlmhmnnlaaDoorTexts
import Derived.Test.YtlnnghlmhmnnlaaDoorOks3
import Derived.WalkKit
import Derived.WalkSpells
import Derived.WalkLawsBesides
import Derived.Below
import Derived.Lib.QuietBelow
import Derived.BigQuiet
import Derived.Deep.RegionHeldLaw
import Derived.Deep.AppendLies
import Derived.Deep.Heap
namespace Go.Proofs.YtlnnghlmhmnnlaaDoor
open Go.RowKit
open Go.Sort (grow)
/-- The table that the library's numerals are reckoned by lies as it was laid. -/
def Tab (w : World) : Prop := Lib.TabIs Tryd.prog w "internal/strconv.uint64pow10" .u64 Lib.pow10Tab
def NumsAt (w : World) (b off : Nat) (zs : List Int) : Prop := ∀ (i : Nat) (z : Int), zs[i]? = some z → w.cell? ⟨b, off + i, none⟩ = some (.int .i64 z)
theorem NumsAt.below {w w' : World} {B b off : Nat} {zs : List Int} (h : NumsAt w b off zs) (hb : Below B w w') (hB : b < B) : NumsAt w' b off zs := fun i z e => by rw [hb.cell hB]; exact h i z e
def StrsAt (w : World) (b : Nat) (xs : List (List UInt8)) : Prop := ∀ (i : Nat) (x : List UInt8), xs[i]? = some x → w.cell? ⟨b, i, none⟩ = some (.string ⟨x.toArray⟩)
theorem below_grow (w : World) (k : Nat) (os : Array Obj) : Below w.heap.size w (grow (w.drewN k) os) := below_regrown w (w.drawn + k) os
theorem info_str : (Tryd.prog.info? 9).map (fun i => (i.zero, i.size, i.bytes)) = some (some (.string ⟨#[]⟩), 1, 16) := by kernel_rfl
theorem make_strs (n : Nat) (hn : n ≤ 1000) (w : World) : (Instr.makeSlice 57 (.int .i64 (n : Int)) (.int .i64 (n : Int))).run Tryd.prog w = .ok (.slice (some ⟨w.heap.size, 0, none⟩) n n) (w.alloc (.cells (madeCells #[.string ⟨#[]⟩] n) 9)) := by
  obtain ⟨i, hi, hzz⟩ := Option.map_eq_some_iff.1 info_str
  simp only [Prod.mk.injEq] at hzz
  obtain ⟨hz, hs, hb⟩ := hzz
  have := run_make (P := Tryd.prog) w 57 9 i _ Tryd.underlying57 hi hz .i64 .i64 (n : Int) (n : Int) (by omega) (by omega) (by rw [hb]; omega) (by omega)
  rw [hs] at this
  simpa [Value.cells] using this
theorem StrsAt.put {w : World} {b k : Nat} {xs : List (List UInt8)} {s : List UInt8} (h : StrsAt w b (xs.take k)) (hs : xs[k]? = some s) {v : Value} (hv : w.cell? ⟨b, k, none⟩ = some v) :
    StrsAt (w.setCell ⟨b, k, none⟩ (.string ⟨s.toArray⟩)) b (xs.take (k + 1)) := by
  intro i t e
  rw [List.getElem?_take] at e
  split at e
  · by_cases hik : i = k
    · subst hik
      rw [hs] at e
      obtain rfl := Option.some.inj e
      exact cell_set_same hv
    · rw [cell_set_other hik]
      exact h i t (by rw [List.getElem?_take, if_pos (by omega)]; exact e)
  · cases e
theorem StrsAt.below {w w' : World} {B b : Nat} {xs : List (List UInt8)} (h : StrsAt w b xs) (hb : Below B w w') (hB : b < B) : StrsAt w' b xs := fun i x e => by rw [hb.cell hB]; exact h i x e
set_option maxHeartbeats 2000000 in
theorem showNumbers_any (w : World) (b off cap n : Nat) (zs : List Int) (hz : zs.length = n) (h1 : 1 ≤ n) (hn : n ≤ 1000) (hb : b < w.heap.size) (hs : NumsAt w b off zs) (hf : ∀ z ∈ zs, i64 z) (ht : ∀ w', Below w.heap.size w w' → Tab w') :
    Calls Tryd.prog 19 #[.slice (some ⟨b, off, none⟩) n cap] w fun e w' => e = .returned (.string ⟨(Lib.join (zs.map Lib.itoa) [32]).toArray⟩) ∧ Below w.heap.size w w' := by
  have hmk := make_strs n hn
  go_enter Tryd.func19, Tryd.ntmps19
  go_wp2
  have hlen : (zs.map Lib.itoa).length = n := by simp [hz]
  go_loopw [11] (fun i wr => ∃ k : Nat, k ≤ n ∧ i = .int .i64 k ∧ Below w.heap.size w wr ∧ w.heap.size < wr.heap.size ∧ Room wr w.heap.size n ∧ StrsAt wr w.heap.size ((zs.map Lib.itoa).take k)) (fun i _ => n - (intOf i).toNat)
  case atStart => exact ⟨0, Nat.zero_le _, rfl, (Below.refl _ _).alloc (Nat.le_refl _) _, by simp, room_made _ _ _ _, fun i s e => by simp at e⟩
  case round =>
    obtain ⟨k, hk, rfl, hbl, hsz, hro, hdo⟩ := hrel
    by_cases hlt : k < n
    · obtain ⟨z, hzk⟩ : ∃ z, zs[k]? = some z := ⟨zs[k]'(by omega), by simp⟩
      have hcz := (hs.below hbl hb) k z hzk
      have hfz : i64 z := hf z (List.mem_of_getElem? hzk)
      have K : Hid (Below w.heap.size w wr ∧ Room wr w.heap.size n ∧ StrsAt wr w.heap.size ((zs.map Lib.itoa).take k) ∧ zs[k]? = some z) := ⟨hbl, hro, hdo, hzk⟩
      have T : Hid (Tab wr) := ht wr hbl
      clear hbl hro hdo hzk hmk hf hz
      go_wp2_with fail
      refine (Tryd.strconv_FormatInt_10 z hfz.1 hfz.2 wr T.out).mono ?_
      rintro e w1 ⟨rfl, kk, os, rfl⟩
      have b1 := below_grow wr kk os
      generalize hG : grow (wr.drewN kk) os = w1 at *
      clear hG
      obtain ⟨v0, d0, f0⟩ := (K.out.2.1.below b1 hsz) k hlt
      go_wp2
      obtain ⟨hbl, hro, hdo, hzk⟩ := K.out
      refine ⟨⟨k + 1, by omega, by simp, (hbl.trans (b1.mono hbl.size)).setCell (p := ⟨w.heap.size, k, none⟩) (Nat.le_refl _) _, by have := b1.size; simp [World.setCell]; omega, (hro.below b1 hsz).set _, (hdo.below b1 hsz).put (by rw [List.getElem?_map, hzk]; rfl) d0⟩, by simp [intOf]; omega⟩
    · have : k = n := by omega
      subst this
      have hd : decide (k < k) = false := by simp
      go_wp2_with fail
      rw [← hlen, List.take_length] at hdo
      have hj := Tryd.strings_Join w.heap.size 0 k ((zs.map Lib.itoa).map fun l => ⟨l.toArray⟩) ⟨#[32]⟩ wr (fun j x e => by
          rw [List.getElem?_map] at e
          cases hjx : (zs.map Lib.itoa)[j]? with
          | none => rw [hjx] at e; cases e
          | some y => rw [hjx] at e; obtain rfl := Option.some.inj e; simpa using hdo j y hjx) hsz (by simp [hz]; omega) (by simp [hz]) (by rw [join_bytes]; exact Nat.le_trans (join_len zs hf) (by omega))
      rw [join_bytes, List.length_map, hlen] at hj
      refine hj.mono ?_
      clear hj hdo hlen hf hs ht
      rintro e w1 ⟨rfl, b1⟩
      go_wp2
      go_ret
      exact ⟨rfl, hbl.trans (b1.mono hbl.size)⟩
theorem flag_any (w : World) (u : Bool) : Calls Tryd.prog 18 #[.bool u] w fun e w' => e = .returned (.int .i64 (flagInt u)) ∧ w' = w := by
  cases u
  · go_enter Tryd.func18, Tryd.ntmps18
    go_wp2
    go_ret
    exact ⟨rfl, rfl⟩
  · go_enter Tryd.func18, Tryd.ntmps18
    go_wp2
    go_ret
    exact ⟨rfl, rfl⟩
theorem info_int : (Tryd.prog.info? 2).map (fun i => (i.zero, i.size, i.bytes)) = some (some (.int .i64 0), 1, 8) := by kernel_rfl
def intVals (zs : List Int) : List Value := zs.map (Value.int .i64)
theorem own_cells {w : World} {B : Nat} {t : TypeId} {g n cap : Nat} {vs : List Value} (h : w.ownsRow B t 1 (.slice (some ⟨g, 0, none⟩) n cap) n vs) : ∀ (j : Nat) (u : Value), vs[j]? = some u → w.cell? ⟨g, j, none⟩ = some u := by
  intro j u e
  rcases h.2 with ⟨h0, _⟩ | ⟨g', cap', cur, hv, _, hg, _, _, _, ht⟩
  · cases h0
  · cases hv
    rw [cell_of_row w g j cur t (0, 0) hg]
    rw [← ht, List.getElem?_take] at e
    split at e
    · simpa using e
    · cases e
theorem own_new (w : World) (vs : List Value) (t : TypeId) (h : vs.length ≤ maxLen) : (w.alloc (.cells vs.toArray t)).ownsRow w.heap.size t 1 (.slice (some ⟨w.heap.size, 0, none⟩) vs.length vs.length) vs.length vs :=
  ⟨by simp, .inr ⟨w.heap.size, vs.length, vs.toArray, rfl, Nat.le_refl _, Go.Deep.blk_alloc_new w _, Nat.le_refl _, h, by simp, by simp⟩⟩
set_option maxRecDepth 100000 in
set_option maxHeartbeats 4000000 in
theorem implShow_right (w : World) (k t r : Int) (b off cap n : Nat) (xs : List S5) (hx : xs.length = n) (hn1 : 1 ≤ n) (hn : n ≤ 12) (h1 : SetsAt w b off xs) (hb : b < w.heap.size) (hrec : recB k t r xs = true) (ht : ∀ w', Below w.heap.size w w' → Tab w') :
    Calls Tryd.prog 7 #[.agg #[.int .i64 k, .int .i64 t, .int .i64 r, .slice (some ⟨b, off, none⟩) n cap]] w fun e w' => e = .returned (.string ⟨(recText k t r xs).toArray⟩) ∧ Below w.heap.size w w' := by
  go_enter Tryd.func7, Tryd.ntmps7
  go_wp2_with fail
  have e0 : (w.alloc (.cells #[.int .i64 k, .int .i64 t, .int .i64 r, .slice (some ⟨b, off, none⟩) n cap] 26)).cell? ⟨w.heap.size, 0, none⟩ = some (.int .i64 k) := by go_simp
  have e1 : (w.alloc (.cells #[.int .i64 k, .int .i64 t, .int .i64 r, .slice (some ⟨b, off, none⟩) n cap] 26)).cell? ⟨w.heap.size, 1, none⟩ = some (.int .i64 t) := by go_simp
  have e2 : (w.alloc (.cells #[.int .i64 k, .int .i64 t, .int .i64 r, .slice (some ⟨b, off, none⟩) n cap] 26)).cell? ⟨w.heap.size, 2, none⟩ = some (.int .i64 r) := by go_simp
  have e3 : (w.alloc (.cells #[.int .i64 k, .int .i64 t, .int .i64 r, .slice (some ⟨b, off, none⟩) n cap] 26)).cell? ⟨w.heap.size, 3, none⟩ = some (.slice (some ⟨b, off, none⟩) n cap) := by go_simp
  have zs : w.heap.size < (w.alloc (.cells #[.int .i64 k, .int .i64 t, .int .i64 r, .slice (some ⟨b, off, none⟩) n cap] 26)).heap.size := by simp
  generalize hW : w.alloc (.cells #[.int .i64 k, .int .i64 t, .int .i64 r, .slice (some ⟨b, off, none⟩) n cap] 26) = W at e0 e1 e2 e3 zs ⊢
  have bW : Below w.heap.size w W := by subst hW; exact (Below.refl _ _).alloc (Nat.le_refl _) _
  clear hW
  have hbW : b < W.heap.size := Nat.lt_of_lt_of_le hb bW.size
  have hm : n ≤ maxLen := by unfold maxLen; omega
  have hsW := h1.below bW hb
  refine (implRecordOk_any W k t r (some ⟨b, off, none⟩) n cap xs hm ⟨hx, .inr ⟨b, off, rfl, hbW, hsW⟩⟩).mono ?_
  rw [hrec]
  rintro e w1 ⟨rfl, b1⟩
  have c0 := (b1.cell (p := ⟨w.heap.size, 0, none⟩) zs).trans e0
  have c1 := (b1.cell (p := ⟨w.heap.size, 1, none⟩) zs).trans e1
  have c2 := (b1.cell (p := ⟨w.heap.size, 2, none⟩) zs).trans e2
  have c3 := (b1.cell (p := ⟨w.heap.size, 3, none⟩) zs).trans e3
  have hs1 := hsW.below b1 hbW
  have hb1 : b < w1.heap.size := Nat.lt_of_lt_of_le hbW b1.size
  have B1 : Below w.heap.size w w1 := bW.trans (b1.mono bW.size)
  have hw1 : w.heap.size < w1.heap.size := Nat.lt_of_lt_of_le zs b1.size
  have KT : Hid ((∀ w', Below w.heap.size w w' → Tab w') ∧ recB k t r xs = true) := ⟨ht, hrec⟩
  have HS : Hid (SetsAt w1 b off xs ∧ xs.length = n) := ⟨hs1, hx⟩
  clear e0 e1 e2 e3 hsW hs1 h1 ht hrec hx bW b1 zs hbW W hb
  go_wp2
  obtain ⟨hs1, hx⟩ := HS.out
  have own0 : (w1.alloc (.cells #[.int .i64 k, .int .i64 t, .int .i64 r, .int .i64 (n : Int)] 2)).ownsRow w1.heap.size 2 1 (.slice (some ⟨w1.heap.size, 0, none⟩) 4 4) 4 (intVals ([k, t, r, (n : Int)] ++ (xs.take 0).flatMap setNums)) :=
    own_new w1 [.int .i64 k, .int .i64 t, .int .i64 r, .int .i64 (n : Int)] 2 (by simp [maxLen])
  go_loopw [3, 22] (fun v3 v22 wr => ∃ i g cap' : Nat, i ≤ n ∧ v22 = .int .i64 i ∧ v3 = .slice (some ⟨g, 0, none⟩) (4 + 4 * i) cap' ∧ Below w1.heap.size w1 wr ∧ w1.heap.size ≤ g ∧ g < wr.heap.size ∧ wr.ownsRow w1.heap.size 2 1 (.slice (some ⟨g, 0, none⟩) (4 + 4 * i) cap') (4 + 4 * i) (intVals ([k, t, r, (n : Int)] ++ (xs.take i).flatMap setNums))) (fun _ v22 _ => n - (intOf v22).toNat)
  case atStart => exact ⟨0, w1.heap.size, 4, Nat.zero_le _, rfl, rfl, (Below.refl _ _).alloc (Nat.le_refl _) _, Nat.le_refl _, by simp, own0⟩
  case round =>
    obtain ⟨i, g, cap', hi, rfl, rfl, hbl, hg1, hg2, hown⟩ := hrel
    by_cases hlt : i < n
    · obtain ⟨d0, d1, d2, d3, d4⟩ := (hs1.get (i := i) (by omega)).below hbl hb1
      have hstep : intVals ([k, t, r, (n : Int)] ++ (xs.take i).flatMap setNums) ++ intVals (setNums (at5 xs i)) = intVals ([k, t, r, (n : Int)] ++ (xs.take (i + 1)).flatMap setNums) := by
        rw [List.take_add_one, at5_of (show i < xs.length by omega)]; simp [intVals]
      have tz : SetAt (wr.alloc (.cells #[.int .i64 (at5 xs i).region, .int .i64 (at5 xs i).slot, .int .i64 (at5 xs i).value, .bool (at5 xs i).used, .int .i64 (at5 xs i).version] 42)) wr.heap.size 0 (at5 xs i) := ⟨by go_simp, by go_simp, by go_simp, by go_simp, by go_simp⟩
      have KK : Hid (SetAt (wr.alloc (.cells #[.int .i64 (at5 xs i).region, .int .i64 (at5 xs i).slot, .int .i64 (at5 xs i).value, .bool (at5 xs i).used, .int .i64 (at5 xs i).version] 42)) wr.heap.size 0 (at5 xs i) ∧ (wr.alloc (.cells #[.int .i64 (at5 xs i).region, .int .i64 (at5 xs i).slot, .int .i64 (at5 xs i).value, .bool (at5 xs i).used, .int .i64 (at5 xs i).version] 42)).ownsRow w1.heap.size 2 1 (.slice (some ⟨g, 0, none⟩) (4 + 4 * i) cap') (4 + 4 * i) (intVals ([k, t, r, (n : Int)] ++ (xs.take i).flatMap setNums)) ∧ intVals ([k, t, r, (n : Int)] ++ (xs.take i).flatMap setNums) ++ intVals (setNums (at5 xs i)) = intVals ([k, t, r, (n : Int)] ++ (xs.take (i + 1)).flatMap setNums)) := ⟨tz, hown.alloc _, hstep⟩
      have HB : Hid (Below w1.heap.size w1 wr) := hbl
      clear tz hown hstep own0 hs1 hx hbl
      go_wp2_with fail
      have hVs : wr.heap.size < (wr.alloc (.cells #[.int .i64 (at5 xs i).region, .int .i64 (at5 xs i).slot, .int .i64 (at5 xs i).value, .bool (at5 xs i).used, .int .i64 (at5 xs i).version] 42)).heap.size := by simp
      have bV : Below wr.heap.size wr (wr.alloc (.cells #[.int .i64 (at5 xs i).region, .int .i64 (at5 xs i).slot, .int .i64 (at5 xs i).value, .bool (at5 xs i).used, .int .i64 (at5 xs i).version] 42)) := (Below.refl _ _).alloc (Nat.le_refl _) _
      generalize hV : wr.alloc (.cells #[.int .i64 (at5 xs i).region, .int .i64 (at5 xs i).slot, .int .i64 (at5 xs i).value, .bool (at5 xs i).used, .int .i64 (at5 xs i).version] 42) = V at KK hVs bV ⊢
      clear hV
      have f1 := KK.out.1.c1
      have f2 := KK.out.1.c2
      have f3 := KK.out.1.c3
      have f4 := KK.out.1.c4
      simp only [Nat.zero_add] at f1 f2 f3 f4
      obtain ⟨i0, hi0, hz0, hz1, hz2⟩ := info_parts info_int
      have hgV : g ≠ wr.heap.size := by omega
      have hw1r : w1.heap.size ≤ wr.heap.size := HB.out.size
      have hownA : Hid (((V.alloc (.cells #[.int .i64 (at5 xs i).slot, .int .i64 (at5 xs i).value, .int .i64 (flagInt (at5 xs i).used), .int .i64 (at5 xs i).version] 2)).drew).ownsRow w1.heap.size 2 1 (.slice (some ⟨g, 0, none⟩) (4 + 4 * i) cap') (4 + 4 * i) (intVals ([k, t, r, (n : Int)] ++ (xs.take i).flatMap setNums))) := (KK.out.2.1.alloc _).drew
      have hnewsA : Hid (∀ j u, (intVals (setNums (at5 xs i)))[j]? = some u → ((V.alloc (.cells #[.int .i64 (at5 xs i).slot, .int .i64 (at5 xs i).value, .int .i64 (flagInt (at5 xs i).used), .int .i64 (at5 xs i).version] 2)).drew).cell? ((⟨V.heap.size, 0, none⟩ : Addr).add j) = some u) := World.news_of_block (w := (V.alloc (.cells #[.int .i64 (at5 xs i).slot, .int .i64 (at5 xs i).value, .int .i64 (flagInt (at5 xs i).used), .int .i64 (at5 xs i).version] 2)).drew) (B := V.heap.size) (cs := #[.int .i64 (at5 xs i).slot, .int .i64 (at5 xs i).value, .int .i64 (flagInt (at5 xs i).used), .int .i64 (at5 xs i).version]) (t := 2) (fr := (0, 0)) (Go.Deep.blk_alloc_new V _)
      have h1cA : Hid (∀ u ∈ intVals (setNums (at5 xs i)), u.oneCell' = true) := by
        intro u hu
        simp only [intVals, List.mem_map] at hu
        obtain ⟨z, _, rfl⟩ := hu
        rfl
      have hA1 : Hid (4 + 4 * i + 4 ≤ maxLen) := by unfold Hid maxLen; omega
      have hA2 : Hid ((4 + 4 * i + 4) * 8 ≤ 140737488355328) := by unfold Hid; omega
      have hA3 : Hid (w1.heap.size ≤ ((V.alloc (.cells #[.int .i64 (at5 xs i).slot, .int .i64 (at5 xs i).value, .int .i64 (flagInt (at5 xs i).used), .int .i64 (at5 xs i).version] 2)).drew).heap.size) := by
        have := bV.size
        show w1.heap.size ≤ (V.alloc _).heap.size
        simp; omega
      have hA4 : Hid (((V.alloc (.cells #[.int .i64 (at5 xs i).slot, .int .i64 (at5 xs i).value, .int .i64 (flagInt (at5 xs i).used), .int .i64 (at5 xs i).version] 2)).drew).heap.size = V.heap.size.succ) := by
        show (V.alloc _).heap.size = _
        simp
      have keepS : ∀ w2, World.grownBy ((V.alloc (.cells #[.int .i64 (at5 xs i).slot, .int .i64 (at5 xs i).value, .int .i64 (flagInt (at5 xs i).used), .int .i64 (at5 xs i).version] 2)).drew) w2 (some g) → w2.cell? ⟨wr.heap.size, 1, none⟩ = some (.int .i64 (at5 xs i).slot) ∧ w2.cell? ⟨wr.heap.size, 2, none⟩ = some (.int .i64 (at5 xs i).value) ∧ w2.cell? ⟨wr.heap.size, 3, none⟩ = some (.bool (at5 xs i).used) ∧ w2.cell? ⟨wr.heap.size, 4, none⟩ = some (.int .i64 (at5 xs i).version) := by
        intro w2 hg
        have key : ∀ o v, V.cell? ⟨wr.heap.size, o, none⟩ = some v → w2.cell? ⟨wr.heap.size, o, none⟩ = some v := fun o v hv => by
          rw [hg.cell_far ⟨wr.heap.size, o, none⟩ (by show wr.heap.size < (V.alloc _).heap.size; simp; omega) (by simp; omega)]
          show (V.alloc _).cell? _ = _
          exact ((((Below.refl V.heap.size V).alloc (Nat.le_refl _) _).cell (p := ⟨wr.heap.size, o, none⟩) hVs)).trans hv
        exact ⟨key _ _ f1, key _ _ f2, key _ _ f3, key _ _ f4⟩
      have KEEPS : Hid (∀ w2, World.grownBy ((V.alloc (.cells #[.int .i64 (at5 xs i).slot, .int .i64 (at5 xs i).value, .int .i64 (flagInt (at5 xs i).used), .int .i64 (at5 xs i).version] 2)).drew) w2 (some g) → w2.cell? ⟨wr.heap.size, 1, none⟩ = some (.int .i64 (at5 xs i).slot) ∧ w2.cell? ⟨wr.heap.size, 2, none⟩ = some (.int .i64 (at5 xs i).value) ∧ w2.cell? ⟨wr.heap.size, 3, none⟩ = some (.bool (at5 xs i).used) ∧ w2.cell? ⟨wr.heap.size, 4, none⟩ = some (.int .i64 (at5 xs i).version)) := keepS
      clear keepS d0 d1 d2 d3 d4 c0 c1 c2 c3
      go_region_held_law (fun w' => w'.cell? ⟨wr.heap.size, 1, none⟩ = some (.int .i64 (at5 xs i).slot) ∧ w'.cell? ⟨wr.heap.size, 2, none⟩ = some (.int .i64 (at5 xs i).value) ∧ w'.cell? ⟨wr.heap.size, 3, none⟩ = some (.bool (at5 xs i).used) ∧ w'.cell? ⟨wr.heap.size, 4, none⟩ = some (.int .i64 (at5 xs i).version)) (first | assumption | go_keep)
        (first
          | (refine step_append_lies _ rfl (.tmp 26) (.tmp 36) 40 rfl w1.heap.size 2 i0 (.int .i64 0) 1 8 Tryd.underlying40 hi0 hz0 hz1 hz2 rfl (by decide) (.slice (some ⟨g, 0, none⟩) (4 + 4 * i) cap') (4 + 4 * i) _ (by simp [Act.eval]) hownA.out ⟨V.heap.size, 0, none⟩ 4 4 (intVals (setNums (at5 xs i))) (by simp [Act.eval]) rfl hnewsA.out h1cA.out (by decide) hA1.out hA2.out hA3.out V.heap.size.succ hA4.out ?_
             intro g2 cap2 w2 hown2 hgrow hat hlt2
             have KS := KEEPS.out w2 hgrow
             have K2 : Hid (w2.ownsRow w1.heap.size 2 1 (.slice (some ⟨g2, 0, none⟩) (4 + 4 * i + 4) cap2) (4 + 4 * i + 4) (intVals ([k, t, r, (n : Int)] ++ (xs.take i).flatMap setNums) ++ intVals (setNums (at5 xs i))) ∧ (Value.slice (some ⟨g, 0, none⟩) (4 + 4 * i) cap').ownBlock = some g ∧ (g = g2 ∨ g2 = V.heap.size + 1) ∧ g2 < w2.heap.size ∧ World.grownBy ((V.alloc (.cells #[.int .i64 (at5 xs i).slot, .int .i64 (at5 xs i).value, .int .i64 (flagInt (at5 xs i).used), .int .i64 (at5 xs i).version] 2)).drew) w2 (some g)) := ⟨hown2, rfl, (by rcases hat with h | h; exact .inl (Option.some.inj h); exact .inr h), hlt2, hgrow⟩
             clear hown2 hgrow hat hlt2)
          | (go_at_call 18; refine (flag_any _ _).mono ?_; rintro e w' ⟨rfl, rfl⟩))
      go_wp2
      obtain ⟨o2, _, hat, hlt2, hgrow⟩ := K2.out
      have hb2 : Below w1.heap.size w1 w2 := Below.grown (((HB.out.trans (bV.mono HB.out.size)).alloc (Nat.le_trans HB.out.size bV.size) _).drew) hgrow hA3.out (fun q e => by cases e; exact hg1)
      refine ⟨⟨i + 1, g2, cap2, by omega, by simp, ?_, hb2, ?_, hlt2, ?_⟩, by simp [intOf]; omega⟩
      · rw [show 4 + 4 * (i + 1) = 4 + 4 * i + 4 by omega]
      · have := bV.size
        rcases hat with h | h <;> omega
      · rw [show 4 + 4 * (i + 1) = 4 + 4 * i + 4 by omega, ← KK.out.2.2]
        exact o2
    · have : i = n := by omega
      subst this
      have hd : decide (i < i) = false := by simp
      have hnums : NumsAt wr g 0 (recNums k t r xs) := by
        intro j z e
        have := own_cells hown j (.int .i64 z) (by rw [← hx, List.take_length]; simp only [intVals, List.getElem?_map]; rw [recNums] at e; rw [e]; rfl)
        simpa using this
      have hfits : ∀ z ∈ recNums k t r xs, i64 z := by
        obtain ⟨fk, ft, fr, ff, _, _⟩ := rec_fits KT.out.2
        intro z hz
        simp only [recNums, List.mem_append, List.mem_cons, List.not_mem_nil, or_false, List.mem_flatMap] at hz
        rcases hz with (rfl | rfl | rfl | rfl) | ⟨s, hs, hz⟩
        · exact fk
        · exact ft
        · exact fr
        · exact ⟨by omega, by omega⟩
        · have := ff s hs
          simp only [setNums, List.mem_cons, List.not_mem_nil, or_false] at hz
          rcases hz with rfl | rfl | rfl | rfl
          · exact this.1
          · exact this.2.1
          · unfold flagInt; split <;> exact ⟨by omega, by omega⟩
          · exact this.2.2
      have hlen : (recNums k t r xs).length = 4 + 4 * i := by rw [← hx]; exact recNums_len k t r xs
      have Bwr : Below w.heap.size w wr := B1.trans (hbl.mono B1.size)
      have H : Hid (NumsAt wr g 0 (recNums k t r xs) ∧ (∀ z ∈ recNums k t r xs, i64 z) ∧ (recNums k t r xs).length = 4 + 4 * i ∧ Below w.heap.size w wr) := ⟨hnums, hfits, hlen, Bwr⟩
      clear hnums hfits hlen Bwr hown own0 hs1 hx hbl HS c0 c1 c2 c3
      go_wp2_with fail
      obtain ⟨hnums, hfits, hlen, Bwr⟩ := H.out
      refine (showNumbers_any wr g 0 cap' (4 + 4 * i) (recNums k t r xs) hlen (by omega) (by omega) hg2 hnums hfits (fun w' h => KT.out.1 w' (Bwr.trans (h.mono Bwr.size)))).mono ?_
      rw [rec_join]
      rintro e w2 ⟨rfl, b2⟩
      clear hnums hfits hlen
      go_wp2
      go_ret
      exact ⟨rfl, Bwr.trans (b2.mono Bwr.size)⟩
set_option maxHeartbeats 2000000 in
theorem implShow_any (w : World) (k t r : Int) (a : Option Addr) (n cap : Nat) (xs : List S5) (hn : n ≤ maxLen) (hs : Sl w w.heap.size a n xs) (ht : ∀ w', Below w.heap.size w w' → Tab w') :
    Calls Tryd.prog 7 #[.agg #[.int .i64 k, .int .i64 t, .int .i64 r, .slice a n cap]] w fun e w' => e = .returned (.string ⟨(showText k t r xs).toArray⟩) ∧ Below w.heap.size w w' := by
  cases hrec : recB k t r xs with
  | true =>
    obtain ⟨_, _, _, _, l1, l2⟩ := rec_fits hrec
    obtain ⟨hx, h2⟩ := hs
    rcases h2 with h0 | ⟨b, off, rfl, hb, h1⟩
    · omega
    · rw [showText, if_pos hrec]
      exact implShow_right w k t r b off cap n xs hx (by omega) (by omega) h1 hb hrec ht
  | false =>
    rw [showText, if_neg (by rw [hrec]; simp)]
    go_enter Tryd.func7, Tryd.ntmps7
    go_wp2_with fail
    have bW : Below w.heap.size w (w.alloc (.cells #[.int .i64 k, .int .i64 t, .int .i64 r, .slice a n cap] 26)) := (Below.refl _ _).alloc (Nat.le_refl _) _
    refine (implRecordOk_any _ k t r a n cap xs hn ((hs.below bW).mono bW.size)).mono ?_
    rw [hrec]
    rintro e w1 ⟨rfl, b1⟩
    go_wp2
    go_ret
    exact ⟨rfl, bW.trans (b1.mono bW.size)⟩
end Go.Proofs.YtlnnghlmhmnnlaaDoor
