/- Cmp; FindT: joined. -/
import Derived.Test.YtalmflikdnflfaaGreatRows
import Derived.WalkKit
import Derived.WalkSpells
import Derived.WalkLawsBesides
import Derived.Below
import Derived.Test.YtalmflikdnflfaaGreatJ40ExactFind
import Derived.Test.YtalmflikdnflfaaGreatCluSJ
import Derived.Lib.QuietBelow
import Derived.BigQuiet
import Derived.Deep.CutRange
/- cmp.Compare of int64. -/
namespace Go.Proofs.YtalmflikdnflfaaGreat
open Go.RowKit
theorem nan_any (w : World) (x : Int) : Calls Tryz.prog 143 #[.int .i64 x] w fun e w' => e = .returned (.bool false) ∧ w' = w := by
  have h : (x != x) = false := by simp
  go_enter Tryz.func143, Tryz.ntmps143
  go_wp2
  go_ret
  exact ⟨rfl, rfl⟩
def cmpI (x y : Int) : Int := if x < y then -1 else if y < x then 1 else 0
theorem compare_any (w : World) (x y : Int) : Calls Tryz.prog 103 #[.int .i64 x, .int .i64 y] w fun e w' => e = .returned (.int .i64 (cmpI x y)) ∧ w' = w := by
  by_cases h1 : x < y
  · have e : cmpI x y = -1 := if_pos h1
    rw [e]
    go_enter Tryz.func103, Tryz.ntmps103
    go_wp2_with (go_at_call 143; refine (nan_any _ _).mono ?_; rintro e w' ⟨rfl, rfl⟩)
    go_ret
    exact ⟨rfl, rfl⟩
  · have d1 : decide (x < y) = false := by simp; omega
    by_cases h2 : y < x
    · have e : cmpI x y = 1 := by rw [cmpI, if_neg h1, if_pos h2]
      have d2 : decide (y < x) = true := by simp [h2]
      rw [e]
      clear h1
      go_enter Tryz.func103, Tryz.ntmps103
      go_wp2_with (go_at_call 143; refine (nan_any _ _).mono ?_; rintro e w' ⟨rfl, rfl⟩)
      go_ret
      exact ⟨rfl, rfl⟩
    · have e : cmpI x y = 0 := by rw [cmpI, if_neg h1, if_neg h2]
      have d2 : decide (y < x) = false := by simp; omega
      rw [e]
      clear h1 h2
      go_enter Tryz.func103, Tryz.ntmps103
      go_wp2_with (go_at_call 143; refine (nan_any _ _).mono ?_; rintro e w' ⟨rfl, rfl⟩)
      go_ret
      exact ⟨rfl, rfl⟩
end Go.Proofs.YtalmflikdnflfaaGreat
/- The transaction of an Id: found by the program's search, found by the specification's. -/
namespace Go.Proofs.YtalmflikdnflfaaGreat
open Go.RowKit
open Go.Sort (grow)
set_option maxHeartbeats 1000000 in
theorem byId_any (w : World) (t0 : Option Addr) (t1 : Nat) (t2 : Option Addr) (t3 : Nat) (t : tx.T7) (y : Int) : Calls Tryz.prog 102 #[.agg #[.int .i64 t.id, .int .i64 t.home, .int .i64 t.phase, .int .i64 t.count, .slice t0 t.reads.length t1, .slice t2 t.sets.length t3, .int .i64 t.stamp], .int .i64 y] w fun e w' => e = .returned (.int .i64 (cmpI t.id y)) ∧ Below w.heap.size w w' := by
  have b0 : Below w.heap.size w (w.alloc (.cells #[.int .i64 t.id, .int .i64 t.home, .int .i64 t.phase, .int .i64 t.count, .slice t0 t.reads.length t1, .slice t2 t.sets.length t3, .int .i64 t.stamp] 40)) := (Below.refl _ _).alloc (Nat.le_refl _) _
  go_enter Tryz.func102, Tryz.ntmps102
  go_wp2_with (go_at_call 103; refine (compare_any _ _ _).mono ?_; rintro e w' ⟨rfl, rfl⟩)
  go_ret
  exact ⟨rfl, b0⟩
/-- Transactions whose Ids rise. -/
def UpI (ts : List tx.T7) : Prop := ∀ i j, i < j → j < ts.length → (atT ts i).id < (atT ts j).id
theorem UpI.of_all {ts : List tx.T7} (h : (List.range ts.length).all (upT ts) = true) : UpI ts := by
  intro i j hij hj
  induction j with
  | zero => omega
  | succ j ih =>
    have h2 := List.all_eq_true.1 h (j + 1) (List.mem_range.2 hj)
    simp [upT] at h2
    by_cases e : i = j
    · rw [e]; exact h2
    · have := ih (by omega) (by omega); omega
/-- Where Id y is, or would have to be put. -/
structure PosT (ts : List tx.T7) (y : Int) (i : Nat) : Prop where
  le : i ≤ ts.length
  lo : ∀ t, t < i → (atT ts t).id < y
  hi : ∀ t, i ≤ t → t < ts.length → y ≤ (atT ts t).id
def foundT (ts : List tx.T7) (y : Int) (i : Nat) : Bool := decide (i < ts.length) && decide ((atT ts i).id = y)
set_option maxRecDepth 100000 in
set_option maxHeartbeats 4000000 in
theorem bsearchT_any (w : World) (a : Option Addr) (cap : Nat) (ts : List tx.T7) (y : Int) (hn : ts.length ≤ 1000) (hu : UpI ts) (hs : KTk.RdS w a ts) :
    Calls Tryz.prog 104 #[.slice a ts.length cap, .int .i64 y, .func (.func 102) #[] #[]] w fun e w' => ∃ i : Nat, e = .returned (.tuple #[.int .i64 i, .bool (foundT ts y i)]) ∧ PosT ts y i ∧ Below w.heap.size w w' := by
  have HU : Hid (UpI ts) := hu
  clear hu
  go_enter Tryz.func104, Tryz.ntmps104
  go_wp2
  go_loopw [9, 10] (fun v9 v10 wr => ∃ i j : Nat, i ≤ j ∧ j ≤ ts.length ∧ v9 = .int .i64 i ∧ v10 = .int .i64 j ∧ Below w.heap.size w wr ∧ (∀ t, t < i → (atT ts t).id < y) ∧ (∀ t, j ≤ t → t < ts.length → y ≤ (atT ts t).id)) (fun v9 v10 _ => (intOf v10).toNat - (intOf v9).toNat)
  case atStart => exact ⟨0, ts.length, Nat.zero_le _, Nat.le_refl _, rfl, rfl, Below.refl _ _, fun t h => by omega, fun t h1 h2 => by omega⟩
  case round =>
    obtain ⟨i, j, hij, hjn, rfl, rfl, hbl, hlo, hhi⟩ := hrel
    by_cases hlt : i < j
    · have hd : (i + j) / 2 < ts.length := by omega
      rcases hs with hs | ⟨b, off, rfl, hb, h1⟩
      · rw [hs] at hd; simp at hd
      obtain ⟨⟨t0, t1, t2, t3⟩, hat, hrd⟩ := h1 ((i + j) / 2) _ (atT_of hd)
      have e0 : wr.cell? ⟨b, off + ((i + j) / 2) * 7, none⟩ = some (.int .i64 (atT ts ((i + j) / 2)).id) := (hbl.cell (p := ⟨b, off + ((i + j) / 2) * 7, none⟩) hb).trans (hat 0 _ rfl)
      have e1 : wr.cell? ⟨b, off + ((i + j) / 2) * 7 + 1, none⟩ = some (.int .i64 (atT ts ((i + j) / 2)).home) := (hbl.cell (p := ⟨b, off + ((i + j) / 2) * 7 + 1, none⟩) hb).trans (hat 1 _ rfl)
      have e2 : wr.cell? ⟨b, off + ((i + j) / 2) * 7 + 2, none⟩ = some (.int .i64 (atT ts ((i + j) / 2)).phase) := (hbl.cell (p := ⟨b, off + ((i + j) / 2) * 7 + 2, none⟩) hb).trans (hat 2 _ rfl)
      have e3 : wr.cell? ⟨b, off + ((i + j) / 2) * 7 + 3, none⟩ = some (.int .i64 (atT ts ((i + j) / 2)).count) := (hbl.cell (p := ⟨b, off + ((i + j) / 2) * 7 + 3, none⟩) hb).trans (hat 3 _ rfl)
      have e4 : wr.cell? ⟨b, off + ((i + j) / 2) * 7 + 4, none⟩ = some (.slice t0 (atT ts ((i + j) / 2)).reads.length t1) := (hbl.cell (p := ⟨b, off + ((i + j) / 2) * 7 + 4, none⟩) hb).trans (hat 4 _ rfl)
      have e5 : wr.cell? ⟨b, off + ((i + j) / 2) * 7 + 5, none⟩ = some (.slice t2 (atT ts ((i + j) / 2)).sets.length t3) := (hbl.cell (p := ⟨b, off + ((i + j) / 2) * 7 + 5, none⟩) hb).trans (hat 5 _ rfl)
      have e6 : wr.cell? ⟨b, off + ((i + j) / 2) * 7 + 6, none⟩ = some (.int .i64 (atT ts ((i + j) / 2)).stamp) := (hbl.cell (p := ⟨b, off + ((i + j) / 2) * 7 + 6, none⟩) hb).trans (hat 6 _ rfl)
      have K : Hid (Below w.heap.size w wr ∧ (∀ t, t < i → (atT ts t).id < y) ∧ (∀ t, j ≤ t → t < ts.length → y ≤ (atT ts t).id)) := ⟨hbl, hlo, hhi⟩
      have hc := byId_any wr t0 t1 t2 t3 (atT ts ((i + j) / 2)) y
      clear h1 hat hrd hbl hlo hhi
      have HI : Hid (∀ t, t ≤ (i + j) / 2 → (atT ts t).id ≤ (atT ts ((i + j) / 2)).id) := fun t ht => by
        by_cases e : t = (i + j) / 2
        · rw [e]; exact Int.le_refl _
        · exact Int.le_of_lt (HU.out t _ (by omega) hd)
      have HJ : Hid (∀ t, (i + j) / 2 ≤ t → t < ts.length → (atT ts ((i + j) / 2)).id ≤ (atT ts t).id) := fun t ht htn => by
        by_cases e : t = (i + j) / 2
        · rw [e]; exact Int.le_refl _
        · exact Int.le_of_lt (HU.out _ t (by omega) htn)
      generalize (atT ts ((i + j) / 2)).id = x at *
      by_cases hq : x < y
      · rw [show cmpI x y = -1 from if_pos hq] at hc
        have HQ := hidOf hq
        clear hq
        go_wp2_with fail
        refine hc.mono ?_
        clear hc e0 e1 e2 e3 e4 e5 e6
        rintro e w1 ⟨rfl, b1⟩
        go_wp2
        exact ⟨⟨(i + j) / 2 + 1, j, by omega, hjn, by simp, rfl, K.out.1.trans (b1.mono K.out.1.size), fun t ht => by have := HI.out t (by omega); have := HQ.out; omega, K.out.2.2⟩, by simp [intOf]; omega⟩
      · have hc0 : decide (cmpI x y < 0) = false := by
          rw [cmpI, if_neg hq]
          by_cases h2 : y < x
          · rw [if_pos h2]; rfl
          · rw [if_neg h2]; rfl
        have HQ := hidOf hq
        clear hq
        generalize cmpI x y = cv at *
        go_wp2_with fail
        refine hc.mono ?_
        clear hc e0 e1 e2 e3 e4 e5 e6
        rintro e w1 ⟨rfl, b1⟩
        go_wp2
        exact ⟨⟨i, (i + j) / 2, by omega, by omega, rfl, by simp, K.out.1.trans (b1.mono K.out.1.size), K.out.2.1, fun t ht htn => by have := HJ.out t ht htn; have := HQ.out; omega⟩, by simp [intOf]; omega⟩
    · obtain rfl : i = j := by omega
      have hd : decide ((i : Int) < (i : Int)) = false := by simp
      have HP : Hid (PosT ts y i) := ⟨hjn, hlo, hhi⟩
      clear hlo hhi
      by_cases hin : i < ts.length
      · rcases hs with hs | ⟨b, off, rfl, hb, h1⟩
        · rw [hs] at hin; simp at hin
        obtain ⟨⟨t0, t1, t2, t3⟩, hat, hrd⟩ := h1 i _ (atT_of hin)
        have e0 : wr.cell? ⟨b, off + i * 7, none⟩ = some (.int .i64 (atT ts i).id) := (hbl.cell (p := ⟨b, off + i * 7, none⟩) hb).trans (hat 0 _ rfl)
        have e1 : wr.cell? ⟨b, off + i * 7 + 1, none⟩ = some (.int .i64 (atT ts i).home) := (hbl.cell (p := ⟨b, off + i * 7 + 1, none⟩) hb).trans (hat 1 _ rfl)
        have e2 : wr.cell? ⟨b, off + i * 7 + 2, none⟩ = some (.int .i64 (atT ts i).phase) := (hbl.cell (p := ⟨b, off + i * 7 + 2, none⟩) hb).trans (hat 2 _ rfl)
        have e3 : wr.cell? ⟨b, off + i * 7 + 3, none⟩ = some (.int .i64 (atT ts i).count) := (hbl.cell (p := ⟨b, off + i * 7 + 3, none⟩) hb).trans (hat 3 _ rfl)
        have e4 : wr.cell? ⟨b, off + i * 7 + 4, none⟩ = some (.slice t0 (atT ts i).reads.length t1) := (hbl.cell (p := ⟨b, off + i * 7 + 4, none⟩) hb).trans (hat 4 _ rfl)
        have e5 : wr.cell? ⟨b, off + i * 7 + 5, none⟩ = some (.slice t2 (atT ts i).sets.length t3) := (hbl.cell (p := ⟨b, off + i * 7 + 5, none⟩) hb).trans (hat 5 _ rfl)
        have e6 : wr.cell? ⟨b, off + i * 7 + 6, none⟩ = some (.int .i64 (atT ts i).stamp) := (hbl.cell (p := ⟨b, off + i * 7 + 6, none⟩) hb).trans (hat 6 _ rfl)
        have hc := byId_any wr t0 t1 t2 t3 (atT ts i) y
        have HF : Hid (foundT ts y i = decide ((atT ts i).id = y) ∧ Below w.heap.size w wr) := ⟨by simp [foundT, hin], hbl⟩
        clear h1 hat hrd hbl
        generalize (atT ts i).id = x at *
        have he : (cmpI x y == 0) = decide (x = y) := by
          unfold cmpI
          by_cases h1 : x < y
          · rw [if_pos h1]; simp; omega
          · rw [if_neg h1]
            by_cases h2 : y < x
            · rw [if_pos h2]; simp; omega
            · rw [if_neg h2]; simp; omega
        generalize cmpI x y = cv at *
        go_wp2_with fail
        refine hc.mono ?_
        clear hc e0 e1 e2 e3 e4 e5 e6
        rintro e w1 ⟨rfl, b1⟩
        have HE := hidOf he
        clear he
        go_wp2
        refine bodyPost_ret (v := .tuple #[.int .i64 i, .bool (cv == 0)]) (by simp [results, Tryz.results104, go_sem]) rfl ⟨i, by rw [HF.out.1, ← HE.out], HP.out, HF.out.2.trans (b1.mono HF.out.2.size)⟩
      · have hdn : decide ((i : Int) < (ts.length : Int)) = false := by simp; omega
        have HF : Hid (foundT ts y i = false) := by unfold Hid; simp [foundT, hin]
        clear hs
        go_wp2
        refine bodyPost_ret (v := .tuple #[.int .i64 i, .bool false]) (by simp [results, Tryz.results104, go_sem]) rfl ⟨i, by rw [HF.out], HP.out, hbl⟩
/-- The transaction of an Id, where the cluster is one. -/
def findO (k : C6) (y : Int) : Option tx.T7 := if clusterB k then k.txs.find? (fun t => decide (t.id = y)) else none
def zT : tx.T7 := ⟨0, 0, 0, 0, [], [], 0⟩
def findT (k : C6) (y : Int) : tx.T7 := (findO k y).getD zT
def findB (k : C6) (y : Int) : Bool := (findO k y).isSome
theorem atT_eq {ts : List tx.T7} {i : Nat} (h : i < ts.length) : atT ts i = ts[i] := by simp [atT, List.getElem?_eq_getElem h]
theorem find_none' {ts : List tx.T7} {y : Int} (h : ∀ j, j < ts.length → (atT ts j).id ≠ y) : ts.find? (fun t => decide (t.id = y)) = none := by
  rw [List.find?_eq_none]
  intro t ht
  obtain ⟨i, hi, rfl⟩ := List.getElem_of_mem ht
  have := h i hi
  rw [atT_eq hi] at this
  simpa using this
theorem find_some' {ts : List tx.T7} {y : Int} {i : Nat} (hi : i < ts.length) (he : (atT ts i).id = y) (h : ∀ j, j < i → (atT ts j).id ≠ y) : ts.find? (fun t => decide (t.id = y)) = some (atT ts i) := by
  rw [List.find?_eq_some_iff_getElem]
  refine ⟨by simpa using he, i, hi, (atT_eq hi).symm, fun j hj => ?_⟩
  have := h j hj
  rw [atT_eq (by omega)] at this
  simpa using this
theorem find_pos {ts : List tx.T7} {y : Int} {i : Nat} (hp : PosT ts y i) (hf : foundT ts y i = true) : i < ts.length ∧ ts.find? (fun t => decide (t.id = y)) = some (atT ts i) := by
  simp only [foundT, Bool.and_eq_true, decide_eq_true_eq] at hf
  exact ⟨hf.1, find_some' hf.1 hf.2 (fun j hj => by have := hp.lo j hj; omega)⟩
theorem find_neg {ts : List tx.T7} {y : Int} {i : Nat} (hu : UpI ts) (hp : PosT ts y i) (hf : foundT ts y i = false) : ts.find? (fun t => decide (t.id = y)) = none := by
  refine find_none' (fun j hj e => ?_)
  by_cases h1 : j < i
  · have := hp.lo j h1; omega
  · have hi : i < ts.length := by omega
    have h2 := hp.hi i (Nat.le_refl _) hi
    have h3 : (atT ts i).id ≠ y := fun e' => by simp [foundT, hi, e'] at hf
    by_cases h4 : j = i
    · subst h4; exact h3 e
    · have := hu i j (by omega) hj; omega
theorem find_first {ts : List tx.T7} {y i : Int} (h : FirstAt (fun j => decide ((atT ts j).id = y)) ts.length i) : (i = -1 ∧ ts.find? (fun t => decide (t.id = y)) = none) ∨ ∃ j : Nat, i = (j : Int) ∧ j < ts.length ∧ ts.find? (fun t => decide (t.id = y)) = some (atT ts j) := by
  rcases h with ⟨rfl, h⟩ | ⟨j, rfl, hj, h1, h2⟩
  · exact .inl ⟨rfl, find_none' (fun j hj => by simpa using h j hj)⟩
  · exact .inr ⟨j, rfl, hj, find_some' hj (by simpa using h1) (fun t ht => by simpa using h2 t ht)⟩
theorem clu_up {k : C6} (h : clusterB k = true) : UpI k.txs ∧ (∀ i, i < k.txs.length → tx.txB (atT k.txs i) = true) ∧ k.txs.length ≤ 60 := by
  simp only [clusterB, Bool.and_eq_true, decide_eq_true_eq] at h
  have h2 := h.2
  rw [txsB_eq, Bool.and_eq_true] at h2
  refine ⟨UpI.of_all h2.1, fun i hi => ?_, h.1.1.1.2⟩
  have := List.all_eq_true.1 h2.2 i (List.mem_range.2 hi)
  simp only [fitB, Bool.and_eq_true] at this
  exact this.1.1.1.1
theorem tx_short {t : tx.T7} (h : tx.txB t = true) : t.reads.length ≤ 1048576 ∧ t.sets.length ≤ 1048576 := by
  simp only [tx.txB, Bool.and_eq_true, decide_eq_true_eq] at h
  exact ⟨by omega, by omega⟩
set_option maxRecDepth 100000 in
set_option maxHeartbeats 2000000 in
theorem l8Find_any (w : World) (a1 : Option Addr) (c1 : Nat) (a2 : Option Addr) (c2 : Nat) (a3 : Option Addr) (c3 : Nat) (k : C6) (y : Int) (hl : KCl.L k) (h : KCl.Rd w a1 c1 a2 c2 a3 c3 k) : Calls Tryz.prog 50 #[.agg #[.int .i64 k.config, .int .i64 k.clock, .slice a1 k.places.length c1, .slice a2 k.machines.length c2, .slice a3 k.txs.length c3, .bool k.lost], .int .i64 y] w fun e w' => (∃ i : Int, e = .returned (.int .i64 i) ∧ FirstAt (fun j => decide ((atT k.txs j).id = y)) k.txs.length i) ∧ Below w.heap.size w w' := by
  have hn := hl.t
  unfold maxLen at hn
  obtain ⟨U, hU⟩ : ∃ Y, Y = w.alloc (.cells #[.int .i64 k.config, .int .i64 k.clock, .slice a1 k.places.length c1, .slice a2 k.machines.length c2, .slice a3 k.txs.length c3, .bool k.lost] 33) := ⟨_, rfl⟩
  have b0 : Below w.heap.size w U := by rw [hU]; exact (Below.refl _ _).alloc (Nat.le_refl _) _
  have p4 : U.cell? ⟨w.heap.size, 4, none⟩ = some (.slice a3 k.txs.length c3) := by rw [hU]; go_simp
  have H : Hid (KCl.Rd U a1 c1 a2 c2 a3 c3 k ∧ Below w.heap.size w U) := ⟨h.later b0, b0⟩
  clear h b0 hl
  go_enter Tryz.func50, Tryz.ntmps50
  go_wp2
  rw [← hU]
  clear hU
  go_loop [5] (fun v => ∃ j : Nat, j ≤ k.txs.length ∧ v = .int .i64 j ∧ ∀ t, t < j → (atT k.txs t).id ≠ y) (fun v => k.txs.length - (intOf v).toNat)
  case atStart => exact ⟨0, Nat.zero_le _, rfl, fun t h => absurd h (by omega)⟩
  case round =>
    obtain ⟨j, hj, rfl, hlo⟩ := hrel
    have HL := hidOf hlo
    clear hlo
    by_cases hlt : j < k.txs.length
    · rcases H.out.1.t with hk | ⟨b, off, rfl, hb, h1⟩
      · rw [hk] at hlt; simp at hlt
      obtain ⟨v, hat, _⟩ := h1 j _ (atT_of hlt)
      have k0 : U.cell? ⟨b, off + j * 7, none⟩ = some (.int .i64 (atT k.txs j).id) := hat 0 _ rfl
      have jn : (j : Int) < (k.txs.length : Int) := by omega
      clear h1 hat
      by_cases he : (atT k.txs j).id = y
      · have q : ((atT k.txs j).id == y) = true := by simp [he]
        have HE := hidOf he
        clear he
        go_wp2
        go_ret
        exact ⟨⟨_, rfl, .inr ⟨j, rfl, hlt, by simp [HE.out], fun t ht => by simp [HL.out t ht]⟩⟩, H.out.2⟩
      · have q : ((atT k.txs j).id == y) = false := by simp [he]
        have HE := hidOf he
        clear he
        go_wp2
        exact ⟨⟨j + 1, by omega, by simp, fun t ht => by
          by_cases e : t = j
          · rw [e]; exact HE.out
          · exact HL.out t (by omega)⟩, by simp [intOf]; omega⟩
    · obtain rfl : j = k.txs.length := by omega
      have hd : decide ((k.txs.length : Int) < (k.txs.length : Int)) = false := by simp
      go_wp2
      go_ret
      exact ⟨⟨_, rfl, .inl ⟨rfl, fun t ht => by simp [HL.out t ht]⟩⟩, H.out.2⟩
set_option maxHeartbeats 1000000 in
theorem findTx_any (w : World) (a : Option Addr) (cap : Nat) (ts : List tx.T7) (y : Int) (hn : ts.length ≤ 1000) (hu : UpI ts) (hs : KTk.RdS w a ts) :
    Calls Tryz.prog 52 #[.slice a ts.length cap, .int .i64 y] w fun e w' => ∃ i : Nat, e = .returned (.tuple #[.int .i64 i, .bool (foundT ts y i)]) ∧ PosT ts y i ∧ Below w.heap.size w w' := by
  have hc := bsearchT_any w a cap ts y hn hu hs
  go_enter Tryz.func52, Tryz.ntmps52
  go_wp2_with fail
  refine hc.mono ?_
  clear hc
  rintro e w1 ⟨i, rfl, hp, b1⟩
  have K := hidOf (And.intro hp b1)
  clear hp b1
  go_wp2
  refine bodyPost_ret (v := .tuple #[.int .i64 i, .bool (foundT ts y i)]) (by simp [results, Tryz.results52, go_sem]) rfl ?_
  exact ⟨i, rfl, K.out.1, K.out.2⟩
end Go.Proofs.YtalmflikdnflfaaGreat
