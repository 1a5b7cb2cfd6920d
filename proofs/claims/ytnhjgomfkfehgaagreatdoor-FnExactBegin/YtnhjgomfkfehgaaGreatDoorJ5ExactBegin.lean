/- PlsO; PlsL2; KdCl; Face1; KdClT; FaceC; Grow; KdGr; IdxR: joined. -/
import Derived.Test.YtnhjgomfkfehgaaGreatDoorRows
import Derived.Test.YtnhjgomfkfehgaaGreatDoorJ2ExactBegin
import Derived.WalkKit
import Derived.WalkSpells
import Derived.WalkLawsBesides
import Derived.Below
import Derived.BigQuiet
import Derived.Deep.QuietTactic
import Derived.Lib.QuietBelow
import Derived.Test.YtnhjgomfkfehgaaGreatDoorJ4ExactBegin
import Derived.Deep.CutRange
import Derived.LaidEql
import Derived.Stop.Asserts
import Derived.RowKitTokens
import Derived.Deep.Upon
import Derived.Defers
import Derived.Recover
import Derived.TacticsInMore
import Derived.Test.YtnhjgomfkfehgaaGreatDoorJ3ExactBegin
import Derived.Maps.AppendAt
import Derived.Laws.OwnMore
import Derived.Deep.AppendLies
namespace Go.Proofs.YtnhjgomfkfehgaaGreatDoor
open Go.RowKit
def OwnQ (w : World) (base : Nat) (a : Option Addr) (n : Nat) (zss : List (List Int)) (g : Nat → Nat) : Prop :=
  (a = none ∧ n = 0 ∧ zss = []) ∨ ∃ b, a = some ⟨b, 0, none⟩ ∧ base ≤ b ∧ b < w.heap.size ∧ OwnP w base b n zss g
theorem OwnQ.sl {w : World} {base : Nat} {a : Option Addr} {n : Nat} {zss : List (List Int)} {g : Nat → Nat} (h : OwnQ w base a n zss g) : SlP w w.heap.size a n zss := by
  rcases h with ⟨rfl, rfl, rfl⟩ | ⟨b, rfl, _, hb, ho⟩
  · exact ⟨rfl, .inl rfl⟩
  · exact ho.sl hb
theorem OwnQ.later {w w' : World} {base : Nat} {a : Option Addr} {n : Nat} {zss : List (List Int)} {g : Nat → Nat} (h : OwnQ w base a n zss g) (hb : Below w.heap.size w w') : OwnQ w' base a n zss g := by
  rcases h with h | ⟨b, rfl, hb1, hb2, ho⟩
  · exact .inl h
  · exact .inr ⟨b, rfl, hb1, Nat.lt_of_lt_of_le hb2 hb.size, ho.later hb hb2⟩
theorem OwnQ.low {w : World} {base : Nat} {a : Option Addr} {n : Nat} {zss : List (List Int)} {g : Nat → Nat} (h : OwnQ w base a n zss g) : ∀ i, i < n → base ≤ g i := by
  rcases h with ⟨_, rfl, _⟩ | ⟨b, rfl, _, _, ho⟩
  · intro i hi; omega
  · exact ho.low
theorem OwnQ.lt {w : World} {base : Nat} {a : Option Addr} {n : Nat} {zss : List (List Int)} {g : Nat → Nat} (h : OwnQ w base a n zss g) : ∀ i, i < n → g i < w.heap.size := by
  rcases h with ⟨_, rfl, _⟩ | ⟨b, rfl, _, _, ho⟩
  · intro i hi; omega
  · exact ho.lt
theorem OwnQ.kept {w w' : World} {base : Nat} {a : Option Addr} {n : Nat} {zss : List (List Int)} {g : Nat → Nat} (h : OwnQ w base a n zss g) (hs : w.heap.size ≤ w'.heap.size) (eb : ∀ b, a = some ⟨b, 0, none⟩ → w'.heap[b]? = w.heap[b]?) (eg : ∀ i, i < n → w'.heap[g i]? = w.heap[g i]?) : OwnQ w' base a n zss g := by
  rcases h with h | ⟨b, rfl, hb1, hb2, ho⟩
  · exact .inl h
  · exact .inr ⟨b, rfl, hb1, Nat.lt_of_lt_of_le hb2 hs, ho.of_blocks hs (eb b rfl) eg⟩
theorem OwnQ.lower {w : World} {base base' : Nat} {a : Option Addr} {n : Nat} {zss : List (List Int)} {g : Nat → Nat} (h : OwnQ w base a n zss g) (hb : base' ≤ base) : OwnQ w base' a n zss g := by
  rcases h with h | ⟨b, e, h1, h2, o⟩
  · exact .inl h
  · exact .inr ⟨b, e, Nat.le_trans hb h1, h2, ⟨o.len, o.cell, fun i hi => Nat.le_trans hb (o.low i hi), o.lt, o.ne, o.nums, o.room, o.inj⟩⟩
end Go.Proofs.YtnhjgomfkfehgaaGreatDoor
namespace Go.Proofs.YtnhjgomfkfehgaaGreatDoor
open Go.RowKit
open Go.Sort (grow)
set_option maxHeartbeats 1000000 in
theorem toPlace_any (w : World) (a : Option Addr) (n cap : Nat) (zs : List Int) (hn : n ≤ 1048576) (hs : SlN w w.heap.size a n zs) : Calls Tryz.prog 85 #[.agg #[.slice a n cap]] w fun e w' =>
    ∃ g, e = .returned (.agg #[.slice (some ⟨g, 0, none⟩) n n]) ∧ Below w.heap.size w w' ∧ w.heap.size ≤ g ∧ g < w'.heap.size ∧ NumsAt w' g 0 zs ∧ Room w' g n := by
  go_enter Tryz.func85, Tryz.ntmps85
  go_wp2_with fail
  obtain ⟨W, hW⟩ : ∃ W, W = ((w.alloc (.cells #[.slice a n cap] 114)).alloc (.cells #[.slice none 0 0] 127)).alloc (.cells #[.slice none 0 0] 127) := ⟨_, rfl⟩
  have bW : Below w.heap.size w W := by rw [hW]; exact (((Below.refl _ _).alloc (Nat.le_refl _) _).alloc (by simp) _).alloc (by simp; omega) _
  have zW : W.heap.size = w.heap.size + 3 := by rw [hW]; simp
  have c1 : W.cell? ⟨w.heap.size + 1, 0, none⟩ = some (.slice none 0 0) := by rw [hW]; go_simp
  have c2 : W.cell? ⟨w.heap.size + 2, 0, none⟩ = some (.slice none 0 0) := by rw [hW]; go_simp
  have f1 : W.frozen? ⟨w.heap.size + 1, 0, none⟩ = false := by rw [hW]; go_simp
  have f2 : W.frozen? ⟨w.heap.size + 2, 0, none⟩ = false := by rw [hW]; go_simp
  rw [← hW]
  clear hW
  refine (toInt64S_any W a n cap zs hn (hs.later bW)).mono ?_
  rintro e w1 ⟨rfl, b1, l1, n1, r1⟩
  have c1 := (b1.cell (p := ⟨w.heap.size + 1, 0, none⟩) (by simp; omega)).trans c1
  have c2 := (b1.cell (p := ⟨w.heap.size + 2, 0, none⟩) (by simp; omega)).trans c2
  have f1 := (b1.frozen (p := ⟨w.heap.size + 1, 0, none⟩) (by simp; omega)).trans f1
  have f2 := (b1.frozen (p := ⟨w.heap.size + 2, 0, none⟩) (by simp; omega)).trans f2
  have K : Hid (Below w.heap.size w w1 ∧ W.heap.size < w1.heap.size ∧ NumsAt w1 W.heap.size 0 zs ∧ Room w1 W.heap.size n ∧ W.heap.size = w.heap.size + 3) := ⟨bW.trans (b1.mono bW.size), l1, n1, r1, zW⟩
  clear bW zW b1 l1 n1 r1 hs
  generalize W.heap.size = g at *
  go_wp2
  refine bodyPost_ret (v := .agg #[.slice (some ⟨g, 0, none⟩) n n]) (by simp [results, Tryz.results85, go_sem, c1]) rfl ?_
  obtain ⟨b1, l1, n1, r1, zW⟩ := K.out
  have far : ∀ (V : World) (q o : Nat) (v : Value), q ≠ g → (V.setCell ⟨q, o, none⟩ v).heap[g]? = V.heap[g]? := fun V q o v h => Below.heap_setCell _ _ _ _ (fun e => h e.symm)
  have he := (far (w1.setCell ⟨w.heap.size + 2, 0, none⟩ (.slice (some ⟨g, 0, none⟩) n n)) (w.heap.size + 1) 0 (.slice (some ⟨g, 0, none⟩) n n) (by omega)).trans (far w1 (w.heap.size + 2) 0 (.slice (some ⟨g, 0, none⟩) n n) (by omega))
  exact ⟨g, rfl, (b1.setCell (p := ⟨w.heap.size + 2, 0, none⟩) (by simp) _).setCell (p := ⟨w.heap.size + 1, 0, none⟩) (by simp) _, by omega, by simpa [World.setCell] using l1, n1.of_block he, r1.of_block he⟩
theorem make_places (n : Nat) (hn : n ≤ 1048576) (w : World) : (Instr.makeSlice 28 (.int .i64 (n : Int)) (.int .i64 (n : Int))).run Tryz.prog w = .ok (.slice (some ⟨w.heap.size, 0, none⟩) n n) (w.alloc (.cells (madeCells #[.slice none 0 0] n) 127)) := by
  have info : (Tryz.prog.info? 127).map (fun i => (i.zero, i.size, i.bytes)) = some (some (.agg #[.slice none 0 0]), 1, 24) := by kernel_rfl
  obtain ⟨i, hi, hzz⟩ := Option.map_eq_some_iff.1 info
  simp only [Prod.mk.injEq] at hzz
  obtain ⟨hz, hs, hb⟩ := hzz
  have := run_make (P := Tryz.prog) w 28 127 i _ Tryz.underlying28 hi hz .i64 .i64 (n : Int) (n : Int) (by omega) (by omega) (by rw [hb]; omega) (by omega)
  rw [hs] at this
  simpa [Value.cells] using this
set_option maxHeartbeats 2000000 in
theorem toPlaceS_any (w : World) (a : Option Addr) (n cap : Nat) (zss : List (List Int)) (hn : n ≤ 1048576) (hl : ∀ zs ∈ zss, zs.length ≤ 1048576) (hs : SlP w w.heap.size a n zss) : Calls Tryz.prog 35 #[.slice a n cap] w fun e w' =>
    ∃ g, e = .returned (.slice (some ⟨w.heap.size, 0, none⟩) n n) ∧ Below w.heap.size w w' ∧ w.heap.size < w'.heap.size ∧ OwnP w' w.heap.size w.heap.size n zss g := by
  obtain ⟨hx, hs⟩ := hs
  have hmk := make_places n hn
  go_enter Tryz.func35, Tryz.ntmps35
  go_wp2
  go_loopw [4] (fun i wr => ∃ (j : Nat) (g : Nat → Nat), j ≤ n ∧ i = .int .i64 j ∧ Below w.heap.size w wr ∧ w.heap.size < wr.heap.size ∧ Room wr w.heap.size n ∧ OwnP wr w.heap.size w.heap.size j (zss.take j) g) (fun i _ => n - (intOf i).toNat)
  case atStart => exact ⟨0, fun _ => 0, Nat.zero_le _, rfl, (Below.refl _ _).alloc (Nat.le_refl _) _, by simp, room_made _ _ _ _, by rw [List.take_zero]; exact OwnP.nil _ _ _ _⟩
  case round =>
    obtain ⟨j, g, hj, rfl, hbl, hsz, hro, hown⟩ := hrel
    by_cases hlt : j < n
    · rcases hs with hs | ⟨b, off, rfl, hb, h1⟩
      · omega
      · obtain ⟨a', cap', hc, hsl, _⟩ := h1 j _ (atP_of (by omega))
        have c := (hbl.cell (p := ⟨b, off + j, none⟩) hb).trans hc
        have hcl := toPlace_any wr a' (atP zss j).length cap' (atP zss j) (hl _ (List.mem_of_getElem? (atP_of (by omega)))) ((hsl.below hbl).mono hbl.size)
        have K : Hid (Room wr w.heap.size n ∧ OwnP wr w.heap.size w.heap.size j (zss.take j) g ∧ Below w.heap.size w wr ∧ w.heap.size < wr.heap.size ∧ zss.take (j + 1) = zss.take j ++ [atP zss j]) := ⟨hro, hown, hbl, hsz, by rw [List.take_add_one, atP_of (by omega)]; rfl⟩
        clear hro hown hbl hmk h1 hx hl hsl hc
        go_wp2_with fail
        refine hcl.mono ?_
        clear hcl
        rintro e w1 ⟨q, rfl, b1, lq, hq, hnu, hrm⟩
        obtain ⟨v, d, f⟩ := (K.out.1.below b1 K.out.2.2.2.1) j hlt
        have K1 : Hid (Below wr.heap.size wr w1 ∧ wr.heap.size ≤ q ∧ q < w1.heap.size ∧ NumsAt w1 q 0 (atP zss j) ∧ Room w1 q (atP zss j).length) := ⟨b1, lq, hq, hnu, hrm⟩
        clear b1 lq hq hnu hrm
        go_wp2
        obtain ⟨hro, hown, hbl, hsz, htk⟩ := K.out
        obtain ⟨b1, lq, hq, hnu, hrm⟩ := K1.out
        have far : ∀ (V : World) (x o : Nat) (v : Value), x ≠ w.heap.size → (V.setCell ⟨w.heap.size, o, none⟩ v).heap[x]? = V.heap[x]? := fun V x o v h => Below.heap_setCell _ _ _ _ h
        have hsz1 : w.heap.size < w1.heap.size := Nat.lt_of_lt_of_le hsz b1.size
        have ho1 : OwnP (w1.setCell ⟨w.heap.size, j, none⟩ (.slice (some ⟨q, 0, none⟩) (atP zss j).length (atP zss j).length)) w.heap.size w.heap.size j (zss.take j) g := by
          have h1 := hown.later b1 hsz
          refine ⟨h1.len, fun i zs e => ?_, h1.low, fun i hi => by simpa [World.setCell] using h1.lt i hi, h1.ne, fun i zs e => (h1.nums i zs e).of_block (far _ _ _ _ (h1.ne i ?_)), fun i zs e => (h1.room i zs e).of_block (far _ _ _ _ (h1.ne i ?_)), h1.inj⟩
          · obtain ⟨cp, hcc, hcp⟩ := h1.cell i zs e
            have hi : i < j := by have := (List.getElem?_eq_some_iff.1 e).1; have := h1.len; omega
            exact ⟨cp, by rw [cell_set_other (by omega)]; exact hcc, hcp⟩
          · have := (List.getElem?_eq_some_iff.1 e).1; have := h1.len; omega
          · have := (List.getElem?_eq_some_iff.1 e).1; have := h1.len; omega
        have ho2 := ho1.snoc (zs := atP zss j) (q := q) (cap := (atP zss j).length) (cell_set_same d) (Nat.le_refl _) (by omega) (by simpa [World.setCell] using hq) (by omega) (hnu.of_block (far _ _ _ _ (by omega))) (hrm.of_block (far _ _ _ _ (by omega))) (fun i hi e => by have := hown.lt i hi; omega)
        rw [← htk] at ho2
        exact ⟨⟨j + 1, _, by omega, by simp, (hbl.trans (b1.mono hbl.size)).setCell (p := ⟨w.heap.size, j, none⟩) (Nat.le_refl _) _, by simpa [World.setCell] using hsz1, (hro.below b1 hsz).set _, ho2⟩, by simp [intOf]; omega⟩
    · have : j = n := by omega
      subst this
      have hd : decide (j < j) = false := by simp
      rw [← hx, List.take_length, hx] at hown
      have K : Hid (OwnP wr w.heap.size w.heap.size j zss g) := hown
      clear hown hs hro
      go_wp2
      go_ret
      exact ⟨g, rfl, hbl, hsz, K.out⟩
set_option maxHeartbeats 1000000 in
theorem eqPlace_same (w : World) (a a' : Option Addr) (n cap cap' : Nat) (zs : List Int) (hn : n ≤ maxLen) (h1 : SlN w w.heap.size a n zs) (h2 : SlN w w.heap.size a' n zs) :
    Calls Tryz.prog 95 #[.agg #[.slice a n cap], .agg #[.slice a' n cap']] w fun e w' => e = .returned (.bool true) ∧ Below w.heap.size w w' := by
  go_enter Tryz.func95, Tryz.ntmps95
  go_wp2_with fail
  have b0 : Below w.heap.size w ((w.alloc (.cells #[.slice a n cap] 127)).alloc (.cells #[.slice a' n cap'] 127)) := ((Below.refl _ _).alloc (Nat.le_refl _) _).alloc (by simp) _
  refine (eqInt64S_any _ a a' n cap cap' zs hn (h1.later b0) (h2.later b0)).mono ?_
  rintro e w' ⟨rfl, b1⟩
  go_wp2
  go_ret
  exact ⟨rfl, b0.trans (b1.mono b0.size)⟩
set_option maxHeartbeats 2000000 in
theorem eqPlaceS_any (w : World) (a a' : Option Addr) (n cap cap' : Nat) (zss : List (List Int)) (hn : n ≤ maxLen) (hl : ∀ zs ∈ zss, zs.length ≤ maxLen) (h1 : SlP w w.heap.size a n zss) (h2 : SlP w w.heap.size a' n zss) :
    Calls Tryz.prog 41 #[.slice a n cap, .slice a' n cap'] w fun e w' => e = .returned (.bool true) ∧ Below w.heap.size w w' := by
  unfold maxLen at hn
  obtain ⟨hx, h1⟩ := h1
  obtain ⟨_, h2⟩ := h2
  go_enter Tryz.func41, Tryz.ntmps41
  go_wp2
  go_loopw [5] (fun i wr => ∃ k : Nat, k ≤ n ∧ i = .int .i64 k ∧ Below w.heap.size w wr) (fun i _ => n - (intOf i).toNat)
  case atStart => exact ⟨0, Nat.zero_le _, rfl, Below.refl _ _⟩
  case round =>
    obtain ⟨k, hk, rfl, hbl⟩ := hrel
    by_cases hlt : k < n
    · rcases h1 with h1 | ⟨b, off, rfl, hb, h1⟩
      · omega
      · rcases h2 with h2 | ⟨b', off', rfl, hb', h2⟩
        · omega
        · obtain ⟨a1, k1, d1, s1, _⟩ := h1 k _ (atP_of (by omega))
          obtain ⟨a2, k2, d2, s2, _⟩ := h2 k _ (atP_of (by omega))
          have hll := hl _ (List.mem_of_getElem? (atP_of (zss := zss) (i := k) (by omega)))
          have hbW : b < wr.heap.size := Nat.lt_of_lt_of_le hb hbl.size
          have hbW' : b' < wr.heap.size := Nat.lt_of_lt_of_le hb' hbl.size
          have e1 := (hbl.cell (p := ⟨b, off + k, none⟩) hb).trans d1
          have e2 := (hbl.cell (p := ⟨b', off' + k, none⟩) hb').trans d2
          have c1 : ∀ d os, (grow (redrawn wr d) os).cell? ⟨b, off + k, none⟩ = some (.slice a1 (atP zss k).length k1) := fun d os => ((below_regrown wr d os).cell (p := ⟨b, off + k, none⟩) hbW).trans e1
          have c2 : ∀ d os, (grow (redrawn wr d) os).cell? ⟨b', off' + k, none⟩ = some (.slice a2 (atP zss k).length k2) := fun d os => ((below_regrown wr d os).cell (p := ⟨b', off' + k, none⟩) hbW').trans e2
          have t1 : SlN wr wr.heap.size a1 (atP zss k).length (atP zss k) := (s1.below hbl).mono hbl.size
          have t2 : SlN wr wr.heap.size a2 (atP zss k).length (atP zss k) := (s2.below hbl).mono hbl.size
          have cQ : ∀ d os, Calls Tryz.prog 95 #[.agg #[.slice a1 (atP zss k).length k1], .agg #[.slice a2 (atP zss k).length k2]] (grow (redrawn wr d) os) fun e w'' => e = .returned (.bool true) ∧ ∃ p : Regrown, w'' = grow (redrawn wr p.d) p.os := fun d os => Calls.regrown_of (eqPlace_same _ a1 a2 _ k1 k2 (atP zss k) hll (t1.later (below_regrown wr d os)) (t2.later (below_regrown wr d os)))
          have K : Hid (Below w.heap.size w wr) := hbl
          clear t1 t2 hbl h1 h2 s1 s2 e1 e2 d1 d2 hl hll hx
          go_wp2_with fail
          refine wp_region_quiet_below (by kernel_rfl) (by kernel_rfl) ?_
          repeat (go_big_quiet_step (exact cQ _ _))
          refine wpQuiet_nil ?_
          intro _ hw'
          obtain ⟨⟨dq, osq⟩, hw''⟩ := hw'
          subst hw''
          have bq := below_regrown wr dq osq
          go_wp2
          exact ⟨⟨k + 1, by omega, by simp, K.out.trans (bq.mono K.out.size)⟩, by simp [intOf]; omega⟩
    · have : k = n := by omega
      subst this
      have hd : decide (k < k) = false := by simp
      clear h1 h2
      go_wp2
      go_ret
      exact ⟨rfl, hbl⟩
end Go.Proofs.YtnhjgomfkfehgaaGreatDoor
namespace Go.Proofs.YtnhjgomfkfehgaaGreatDoor
open Go.RowKit
structure C6 where
  config : Int
  clock : Int
  places : List (List Int)
  machines : List M4
  txs : List tx.T7
  lost : Bool
def KP.Ow (w : World) (B : Nat) (a : Option Addr) (zss : List (List Int)) (P : Nat → Prop) : Prop := (∃ g, OwnQ w B a zss.length zss g ∧ (∀ b, a = some ⟨b, 0, none⟩ → P b) ∧ (∀ i, i < zss.length → P (g i))) ∧ (∀ q, P q → B ≤ q ∧ q < w.heap.size)
theorem KP.Ow.of {w : World} {B : Nat} {a : Option Addr} {zss : List (List Int)} {P : Nat → Prop} (h : KP.Ow w B a zss P) {q : Nat} (hq : P q) : B ≤ q ∧ q < w.heap.size := h.2 q hq
theorem KP.Ow.sl {w : World} {B : Nat} {a : Option Addr} {zss : List (List Int)} {P : Nat → Prop} (h : KP.Ow w B a zss P) : SlP w w.heap.size a zss.length zss := by obtain ⟨⟨g, h, _⟩, _⟩ := h; exact h.sl
theorem KP.Ow.keep {w w' : World} {B : Nat} {a : Option Addr} {zss : List (List Int)} {P : Nat → Prop} (h : KP.Ow w B a zss P) (hs : w.heap.size ≤ w'.heap.size) (hk : ∀ q, P q → w'.heap[q]? = w.heap[q]?) : KP.Ow w' B a zss P := by
  obtain ⟨⟨g, h1, h2, h3⟩, h4⟩ := h
  exact ⟨⟨g, h1.kept hs (fun b e => hk b (h2 b e)) (fun i hi => hk _ (h3 i hi)), h2, h3⟩, fun q hq => ⟨(h4 q hq).1, Nat.lt_of_lt_of_le (h4 q hq).2 hs⟩⟩
theorem KP.Ow.later {w w' : World} {B : Nat} {a : Option Addr} {zss : List (List Int)} {P : Nat → Prop} (h : KP.Ow w B a zss P) (hb : Below w.heap.size w w') : KP.Ow w' B a zss P := h.keep hb.size (fun q hq => hb.block q (h.of hq).2)
theorem KP.to (w : World) (a : Option Addr) (cap : Nat) (zss : List (List Int)) (hn : zss.length ≤ 1048576) (hl : ∀ zs ∈ zss, zs.length ≤ 1048576) (hs : SlP w w.heap.size a zss.length zss) : Calls Tryz.prog 35 #[.slice a zss.length cap] w fun e w' =>
    ∃ P, e = .returned (.slice (some ⟨w.heap.size, 0, none⟩) zss.length zss.length) ∧ KP.Ow w' w.heap.size (some ⟨w.heap.size, 0, none⟩) zss P ∧ Below w.heap.size w w' := by
  refine (toPlaceS_any w a zss.length cap zss hn hl hs).mono ?_
  rintro e w' ⟨g, rfl, b, hlt, ho⟩
  have hq : OwnQ w' w.heap.size (some ⟨w.heap.size, 0, none⟩) zss.length zss g := .inr ⟨w.heap.size, rfl, Nat.le_refl _, hlt, ho⟩
  refine ⟨fun q => q = w.heap.size ∨ ∃ i, i < zss.length ∧ g i = q, rfl, ⟨⟨g, hq, fun b e => .inl (by cases e; rfl), fun i hi => .inr ⟨i, hi, rfl⟩⟩, fun q h => ?_⟩, b⟩
  rcases h with rfl | ⟨i, hi, rfl⟩
  · exact ⟨Nat.le_refl _, hlt⟩
  · exact ⟨hq.low i hi, hq.lt i hi⟩
structure KCl.Rd (X : World) (a1 : Option Addr) (_ : Nat) (a2 : Option Addr) (_ : Nat) (a3 : Option Addr) (_ : Nat) (k : C6) : Prop where
  p : SlP X X.heap.size a1 k.places.length k.places
  m : KMk.RdS X a2 k.machines
  t : KTk.RdS X a3 k.txs
theorem KCl.Rd.later {X Y : World} {a1 : Option Addr} {c1 : Nat} {a2 : Option Addr} {c2 : Nat} {a3 : Option Addr} {c3 : Nat} {k : C6} (h : KCl.Rd X a1 c1 a2 c2 a3 c3 k) (b : Below X.heap.size X Y) : KCl.Rd Y a1 c1 a2 c2 a3 c3 k := ⟨h.p.later b, h.m.later b, h.t.later b⟩
def KCl.Ow (w : World) (B : Nat) (a1 : Option Addr) (_ : Nat) (a2 : Option Addr) (_ : Nat) (a3 : Option Addr) (_ : Nat) (k : C6) (P : Nat → Prop) : Prop := (∃ P1 P2 P3, KP.Ow w B a1 k.places P1 ∧ KMk.OwS w B a2 k.machines P2 ∧ KTk.OwS w B a3 k.txs P3 ∧ (∀ q, P1 q → P q) ∧ (∀ q, P2 q → P q) ∧ (∀ q, P3 q → P q) ∧ (∀ q, P1 q → ¬ P2 q) ∧ (∀ q, P1 q → ¬ P3 q) ∧ (∀ q, P2 q → ¬ P3 q)) ∧ (∀ q, P q → B ≤ q ∧ q < w.heap.size)
theorem KCl.Ow.of {w : World} {B : Nat} {a1 : Option Addr} {c1 : Nat} {a2 : Option Addr} {c2 : Nat} {a3 : Option Addr} {c3 : Nat} {k : C6} {P : Nat → Prop} (h : KCl.Ow w B a1 c1 a2 c2 a3 c3 k P) {q : Nat} (hq : P q) : B ≤ q ∧ q < w.heap.size := h.2 q hq
theorem KCl.Ow.sl {w : World} {B : Nat} {a1 : Option Addr} {c1 : Nat} {a2 : Option Addr} {c2 : Nat} {a3 : Option Addr} {c3 : Nat} {k : C6} {P : Nat → Prop} (h : KCl.Ow w B a1 c1 a2 c2 a3 c3 k P) : KCl.Rd w a1 c1 a2 c2 a3 c3 k := by obtain ⟨⟨_, _, _, h1, h2, h3, _⟩, _⟩ := h; exact ⟨h1.sl, h2.sl, h3.sl⟩
theorem KCl.Ow.keep {w : World} {B : Nat} {a1 : Option Addr} {c1 : Nat} {a2 : Option Addr} {c2 : Nat} {a3 : Option Addr} {c3 : Nat} {k : C6} {P : Nat → Prop} {w' : World} (h : KCl.Ow w B a1 c1 a2 c2 a3 c3 k P) (hs : w.heap.size ≤ w'.heap.size) (hk : ∀ q, P q → w'.heap[q]? = w.heap[q]?) : KCl.Ow w' B a1 c1 a2 c2 a3 c3 k P := by
  obtain ⟨⟨P1, P2, P3, h1, h2, h3, p1, p2, p3, h4⟩, h5⟩ := h
  exact ⟨⟨P1, P2, P3, h1.keep hs (fun q hq => hk q (p1 q hq)), h2.keep hs (fun q hq => hk q (p2 q hq)), h3.keep hs (fun q hq => hk q (p3 q hq)), p1, p2, p3, h4⟩, fun q hq => ⟨(h5 q hq).1, Nat.lt_of_lt_of_le (h5 q hq).2 hs⟩⟩
theorem KCl.Ow.later {w : World} {B : Nat} {a1 : Option Addr} {c1 : Nat} {a2 : Option Addr} {c2 : Nat} {a3 : Option Addr} {c3 : Nat} {k : C6} {P : Nat → Prop} {w' : World} (h : KCl.Ow w B a1 c1 a2 c2 a3 c3 k P) (hb : Below w.heap.size w w') : KCl.Ow w' B a1 c1 a2 c2 a3 c3 k P := h.keep hb.size (fun q hq => hb.block q (h.of hq).2)
structure KCl.S (k : C6) : Prop where
  p : k.places.length ≤ 1048576
  ps : ∀ zs ∈ k.places, zs.length ≤ 1048576
  m : k.machines.length ≤ 1048576
  ms : ∀ m ∈ k.machines, MT m
  t : k.txs.length ≤ 1048576
  ts : ∀ t ∈ k.txs, KT.S t
end Go.Proofs.YtnhjgomfkfehgaaGreatDoor
namespace Go.Proofs.YtnhjgomfkfehgaaGreatDoor
open Go.RowKit
open Go.Sort (grow)
theorem neNil (v : Value) (w : World) : (binOp .neq 20 (.iface 157 v) .nilIface).run Tryz.prog w = .ok (.bool true) w := by kernel_rfl
set_option maxRecDepth 100000 in
set_option maxHeartbeats 2000000 in
theorem face1_panicking (p q : Nat) (n : Int) (y1 y2 : Int) (a3 : Option Addr) (n3 c3 : Nat) (a4 : Option Addr) (n4 c4 : Nat) (a5 : Option Addr) (n5 c5 : Nat) (y6 : Bool) (old : List Value) (o1 : Value) (w : World) (hg : HG w) (ho : old.length = 6) (hp : Bx w p old) (hq : Bx w q [o1]) (hpq : p ≠ q) :
    CallsD Tryz.prog 88 #[.pointer (some ⟨p, 0, none⟩), .pointer (some ⟨q, 0, none⟩)] (.panicking [{ v := .iface 157 (.agg #[.iface 90 (.int .i64 n), .int .i64 y1, .int .i64 y2, .slice a3 n3 c3, .slice a4 n4 c4, .slice a5 n5 c5, .bool y6]), recovered := false }]) w fun e u' w' =>
      e = .returned (.tuple #[]) ∧ u' = .panicking [{ v := .iface 157 (.agg #[.iface 90 (.int .i64 n), .int .i64 y1, .int .i64 y2, .slice a3 n3 c3, .slice a4 n4 c4, .slice a5 n5 c5, .bool y6]), recovered := true }] ∧ ∃ X, Below w.heap.size w X ∧ w' = (putB X p 0 [.int .i64 y1, .int .i64 y2, .slice a3 n3 c3, .slice a4 n4 c4, .slice a5 n5 c5, .bool y6]).setCell ⟨q, 0, none⟩ (.int .i64 n) := by
  have hN := neNil
  have cR := refused_any w n y1 y2 a3 n3 c3 a4 n4 c4 a5 n5 c5 y6 hg
  refine callsD_of_wpS Tryz.func88 rfl fun c₀ cs hu => ?_
  apply wpS_seq
  apply wpS_region
  simp [wpOpsS, go_sem, recoverD, hu, Tryz.ntmps88, Exit.thenS]
  refine wpS_of_wp ?_
  go_wp2_with fail
  refine cR.mono ?_
  clear cR
  rintro e X ⟨rfl, bX⟩
  have xp := hp.later bX
  have xq := hq.later bX
  obtain ⟨v0, r0⟩ : ∃ v, X.cell? ⟨p, 0, none⟩ = some v := ⟨_, xp.1 0 _ (List.getElem?_eq_getElem (by omega))⟩
  obtain ⟨v1, r1⟩ : ∃ v, X.cell? ⟨p, 1, none⟩ = some v := ⟨_, xp.1 1 _ (List.getElem?_eq_getElem (by omega))⟩
  obtain ⟨v2, r2⟩ : ∃ v, X.cell? ⟨p, 2, none⟩ = some v := ⟨_, xp.1 2 _ (List.getElem?_eq_getElem (by omega))⟩
  obtain ⟨v3, r3⟩ : ∃ v, X.cell? ⟨p, 3, none⟩ = some v := ⟨_, xp.1 3 _ (List.getElem?_eq_getElem (by omega))⟩
  obtain ⟨v4, r4⟩ : ∃ v, X.cell? ⟨p, 4, none⟩ = some v := ⟨_, xp.1 4 _ (List.getElem?_eq_getElem (by omega))⟩
  obtain ⟨v5, r5⟩ : ∃ v, X.cell? ⟨p, 5, none⟩ = some v := ⟨_, xp.1 5 _ (List.getElem?_eq_getElem (by omega))⟩
  have f0 := xp.2.1 0
  have f1 := xp.2.1 1
  have f2 := xp.2.1 2
  have f3 := xp.2.1 3
  have f4 := xp.2.1 4
  have f5 := xp.2.1 5
  have s0 := xq.1 0 _ rfl
  have g0 := xq.2.1 0
  have hqp : q ≠ p := fun e => hpq e.symm
  have BX : Hid (Below w.heap.size w X) := bX
  clear xp xq bX hp hq hg ho
  go_wp2
  exact ⟨rfl, _, rfl, .tuple #[], by simp [results, Tryz.results88], rfl, rfl, X, BX.out, rfl⟩
set_option maxHeartbeats 1000000 in
theorem face1_idle (p q : Nat) (w : World) :
    CallsD Tryz.prog 88 #[.pointer (some ⟨p, 0, none⟩), .pointer (some ⟨q, 0, none⟩)] .returning w fun e u' w' => e = .returned (.tuple #[]) ∧ u' = .returning ∧ w' = w := by
  have hN : ∀ w : World, (binOp .neq 20 .nilIface .nilIface).run Tryz.prog w = .ok (.bool false) w := fun w => by kernel_rfl
  refine callsD_of_wpS Tryz.func88 rfl fun c₀ cs hu => ?_
  apply wpS_seq
  apply wpS_region
  simp [wpOpsS, go_sem, recoverD, hu, Tryz.ntmps88, Exit.thenS]
  refine wpS_of_wp ?_
  go_wp2
  cases c₀
  simp only at hu
  subst hu
  exact ⟨rfl, _, rfl, .tuple #[], by simp [results, Tryz.results88], rfl, rfl, rfl⟩
def DAns (X : World) (k : C6) (n : Int) (e : Ending) (w' : World) : Prop := ∃ (a1 : Option Addr) (c1 : Nat) (a2 : Option Addr) (c2 : Nat) (a3 : Option Addr) (c3 : Nat) (P : Nat → Prop), ((n = 0 ∧ e = .returned (.agg #[.int .i64 k.config, .int .i64 k.clock, .slice a1 k.places.length c1, .slice a2 k.machines.length c2, .slice a3 k.txs.length c3, .bool k.lost])) ∨ (n ≠ 0 ∧ e = .panicked [{ v := .iface 157 (.agg #[.iface 90 (.int .i64 n), .int .i64 k.config, .int .i64 k.clock, .slice a1 k.places.length c1, .slice a2 k.machines.length c2, .slice a3 k.txs.length c3, .bool k.lost]), recovered := false }])) ∧ KCl.Ow w' X.heap.size a1 c1 a2 c2 a3 c3 k P ∧ Below X.heap.size X w'
def FcAns (X : World) (k : C6) (n : Int) (e : Ending) (w' : World) : Prop := ∃ (a1 : Option Addr) (c1 : Nat) (a2 : Option Addr) (c2 : Nat) (a3 : Option Addr) (c3 : Nat) (P : Nat → Prop), e = .returned (.tuple #[.agg #[.int .i64 k.config, .int .i64 k.clock, .slice a1 k.places.length c1, .slice a2 k.machines.length c2, .slice a3 k.txs.length c3, .bool k.lost], .int .i64 n]) ∧ KCl.Ow w' X.heap.size a1 c1 a2 c2 a3 c3 k P ∧ Below X.heap.size X w'
end Go.Proofs.YtnhjgomfkfehgaaGreatDoor
namespace Go.Proofs.YtnhjgomfkfehgaaGreatDoor
open Go.RowKit
theorem KP.Ow.low {w : World} {B B' : Nat} {a : Option Addr} {zss : List (List Int)} {P : Nat → Prop} (h : KP.Ow w B a zss P) (hb : B' ≤ B) : KP.Ow w B' a zss P := by
  obtain ⟨⟨g, h1, h2, h3⟩, h4⟩ := h
  exact ⟨⟨g, h1.lower hb, h2, h3⟩, fun q hq => ⟨Nat.le_trans hb (h4 q hq).1, (h4 q hq).2⟩⟩
set_option maxRecDepth 100000 in
set_option maxHeartbeats 4000000 in
theorem KCl.to (X : World) (a1 : Option Addr) (c1 : Nat) (a2 : Option Addr) (c2 : Nat) (a3 : Option Addr) (c3 : Nat) (k : C6) (ht : KCl.S k) (h : KCl.Rd X a1 c1 a2 c2 a3 c3 k) : Calls Tryz.prog 11 #[.agg #[.int .i64 k.config, .int .i64 k.clock, .slice a1 k.places.length c1, .slice a2 k.machines.length c2, .slice a3 k.txs.length c3, .bool k.lost]] X fun e w' =>
    ∃ (a1 : Option Addr) (c1 : Nat) (a2 : Option Addr) (c2 : Nat) (a3 : Option Addr) (c3 : Nat) (P : Nat → Prop), e = .returned (.agg #[.int .i64 k.config, .int .i64 k.clock, .slice a1 k.places.length c1, .slice a2 k.machines.length c2, .slice a3 k.txs.length c3, .bool k.lost]) ∧ KCl.Ow w' X.heap.size a1 c1 a2 c2 a3 c3 k P ∧ Below X.heap.size X w' := by
  obtain ⟨U0, hU0⟩ : ∃ Y, Y = X.alloc (.cells #[.int .i64 k.config, .int .i64 k.clock, .slice a1 k.places.length c1, .slice a2 k.machines.length c2, .slice a3 k.txs.length c3, .bool k.lost] 26) := ⟨_, rfl⟩
  have b0 : Below X.heap.size X U0 := by rw [hU0]; exact (Below.refl _ _).alloc (Nat.le_refl _) _
  have x0 : Bx U0 X.heap.size [.int .i64 k.config, .int .i64 k.clock, .slice a1 k.places.length c1, .slice a2 k.machines.length c2, .slice a3 k.txs.length c3, .bool k.lost] := by rw [hU0]; exact Bx.made X [.int .i64 k.config, .int .i64 k.clock, .slice a1 k.places.length c1, .slice a2 k.machines.length c2, .slice a3 k.txs.length c3, .bool k.lost] _
  have z0 : U0.heap.size = X.heap.size + 1 := by rw [hU0]; simp
  obtain ⟨U1, hU1⟩ : ∃ Y, Y = U0.alloc (.cells #[.int .i64 0, .int .i64 0, .slice none 0 0, .slice none 0 0, .slice none 0 0, .bool false] 32) := ⟨_, rfl⟩
  have b1 : Below U0.heap.size U0 U1 := by rw [hU1]; exact (Below.refl _ _).alloc (Nat.le_refl _) _
  have x1 : Bx U1 U0.heap.size [.int .i64 0, .int .i64 0, .slice none 0 0, .slice none 0 0, .slice none 0 0, .bool false] := by rw [hU1]; exact Bx.made U0 [.int .i64 0, .int .i64 0, .slice none 0 0, .slice none 0 0, .slice none 0 0, .bool false] _
  have z1 : U1.heap.size = X.heap.size + 2 := by rw [hU1]; simp [z0]
  obtain ⟨V0, hV0⟩ : ∃ Y, Y = U1.alloc (.cells #[.int .i64 k.config, .int .i64 k.clock, .slice none 0 0, .slice none 0 0, .slice none 0 0, .bool false] 32) := ⟨_, rfl⟩
  have b2 : Below U1.heap.size U1 V0 := by rw [hV0]; exact (Below.refl _ _).alloc (Nat.le_refl _) _
  have x2 : Bx V0 U1.heap.size [.int .i64 k.config, .int .i64 k.clock, .slice none 0 0, .slice none 0 0, .slice none 0 0, .bool false] := by rw [hV0]; exact Bx.made U1 [.int .i64 k.config, .int .i64 k.clock, .slice none 0 0, .slice none 0 0, .slice none 0 0, .bool false] _
  have zU : V0.heap.size = X.heap.size + 3 := by rw [hV0]; simp [z1]
  rw [z0] at x1
  rw [z1] at x2
  have bU : Below X.heap.size X V0 := bstep (bstep b0 b1) b2
  have FA : Hid (Bx V0 X.heap.size [.int .i64 k.config, .int .i64 k.clock, .slice a1 k.places.length c1, .slice a2 k.machines.length c2, .slice a3 k.txs.length c3, .bool k.lost]) := (x0.later b1).later b2
  have FZ : Hid (Bx V0 (X.heap.size + 1) [.int .i64 0, .int .i64 0, .slice none 0 0, .slice none 0 0, .slice none 0 0, .bool false]) := x1.later b2
  have Y0 : Hid (Bx V0 (X.heap.size + 2) [.int .i64 k.config, .int .i64 k.clock, .slice none 0 0, .slice none 0 0, .slice none 0 0, .bool false]) := x2
  have E0 : Hid (Below (X.heap.size + 2) V0 V0 ∧ Below X.heap.size X V0 ∧ V0.heap.size ≤ V0.heap.size) := ⟨Below.refl _ _, bU, Nat.le_refl _⟩
  have HZ : Hid (V0.heap.size = X.heap.size + 3) := zU
  have HR : Hid (KCl.Rd X a1 c1 a2 c2 a3 c3 k ∧ KCl.S k) := ⟨h, ht⟩
  rw [hU1, hU0] at hV0
  clear b0 x0 z0 b1 x1 z1 b2 x2 zU bU hU0 hU1 h ht
  have q := KP.to V0 a1 c1 k.places HR.out.2.p HR.out.2.ps (HR.out.1.later E0.out.2.1).p
  have A0 := (FA.out.under E0.out.1 (by omega)).1 0 _ rfl
  have A1 := (FA.out.under E0.out.1 (by omega)).1 1 _ rfl
  have A2 := (FA.out.under E0.out.1 (by omega)).1 2 _ rfl
  rw [hV0] at A0 A1 A2
  go_enter Tryz.func11, Tryz.ntmps11
  go_wp2_with fail
  rw [← hV0]
  clear hV0 A0 A1 A2
  refine q.mono ?_
  clear q
  rintro e w1 ⟨P1, rfl, o1, b⟩
  obtain ⟨V1, hV1⟩ : ∃ Y, Y = w1.setCell ⟨X.heap.size + 2, 2, none⟩ (.slice (some ⟨V0.heap.size, 0, none⟩) k.places.length k.places.length) := ⟨_, rfl⟩
  have sV : V1.heap.size = w1.heap.size := by rw [hV1]; simp [World.setCell]
  have kV : ∀ q, q ≠ X.heap.size + 2 → V1.heap[q]? = w1.heap[q]? := fun q hq => by rw [hV1]; exact Below.heap_setCell _ _ _ _ hq
  have lV : X.heap.size + 3 ≤ V0.heap.size := by have := E0.out.2.2; have := HZ.out; omega
  have u := (Y0.out.later b).1 2 _ rfl
  have uf := (Y0.out.later b).2.1 2
  have E1 : Hid (Below (X.heap.size + 2) V0 V1 ∧ Below X.heap.size X V1 ∧ V0.heap.size ≤ V1.heap.size) := by
    refine ⟨?_, ?_, by have := b.size; have := E0.out.2.2; omega⟩
    · rw [hV1]; exact (E0.out.1.trans (b.mono (by omega))).setCell (p := ⟨X.heap.size + 2, 2, none⟩) (Nat.le_refl _) _
    · rw [hV1]; exact (E0.out.2.1.trans (b.mono (by omega))).setCell (p := ⟨X.heap.size + 2, 2, none⟩) (by show X.heap.size ≤ X.heap.size + 2; omega) _
  have Y1 : Hid (Bx V1 (X.heap.size + 2) [.int .i64 k.config, .int .i64 k.clock, .slice (some ⟨V0.heap.size, 0, none⟩) k.places.length k.places.length, .slice none 0 0, .slice none 0 0, .bool false]) := by rw [hV1]; exact (Y0.out.later b).set (i := 2) (by simp) _
  have O1' : Hid (KP.Ow V1 V0.heap.size (some ⟨V0.heap.size, 0, none⟩) k.places P1) := o1.keep (Nat.le_of_eq sV.symm) (fun q hq => kV q (by have := (o1.of hq).1; have := HZ.out; have := E0.out.2.2; omega))
  have O1 := O1'
  clear O1'
  have Zb1 : Hid (V0.heap.size ≤ w1.heap.size ∧ w1.heap.size = V1.heap.size ∧ (∀ q, P1 q → V0.heap.size ≤ q ∧ q < w1.heap.size)) := ⟨b.size, sV.symm, fun q hq => o1.of hq⟩
  clear o1 b sV kV lV
  have q := KMS.to V1 a2 c2 k.machines HR.out.2.m HR.out.2.ms (HR.out.1.later E1.out.2.1).m
  have A3 := (FA.out.under E1.out.1 (by omega)).1 3 _ rfl
  rw [hV1] at A3
  go_wp2_with fail
  rw [← hV1]
  clear hV1 A3 u uf
  refine q.mono ?_
  clear q
  rintro e w2 ⟨P2, rfl, o2, b⟩
  obtain ⟨V2, hV2⟩ : ∃ Y, Y = w2.setCell ⟨X.heap.size + 2, 3, none⟩ (.slice (some ⟨V1.heap.size, 0, none⟩) k.machines.length k.machines.length) := ⟨_, rfl⟩
  have sV : V2.heap.size = w2.heap.size := by rw [hV2]; simp [World.setCell]
  have kV : ∀ q, q ≠ X.heap.size + 2 → V2.heap[q]? = w2.heap[q]? := fun q hq => by rw [hV2]; exact Below.heap_setCell _ _ _ _ hq
  have lV : X.heap.size + 3 ≤ V1.heap.size := by have := E1.out.2.2; have := HZ.out; omega
  have u := (Y1.out.later b).1 3 _ rfl
  have uf := (Y1.out.later b).2.1 3
  have E2 : Hid (Below (X.heap.size + 2) V0 V2 ∧ Below X.heap.size X V2 ∧ V0.heap.size ≤ V2.heap.size) := by
    refine ⟨?_, ?_, by have := b.size; have := E1.out.2.2; omega⟩
    · rw [hV2]; exact (E1.out.1.trans (b.mono (by omega))).setCell (p := ⟨X.heap.size + 2, 3, none⟩) (Nat.le_refl _) _
    · rw [hV2]; exact (E1.out.2.1.trans (b.mono (by omega))).setCell (p := ⟨X.heap.size + 2, 3, none⟩) (by show X.heap.size ≤ X.heap.size + 2; omega) _
  have Y2 : Hid (Bx V2 (X.heap.size + 2) [.int .i64 k.config, .int .i64 k.clock, .slice (some ⟨V0.heap.size, 0, none⟩) k.places.length k.places.length, .slice (some ⟨V1.heap.size, 0, none⟩) k.machines.length k.machines.length, .slice none 0 0, .bool false]) := by rw [hV2]; exact (Y1.out.later b).set (i := 3) (by simp) _
  have O1' : Hid (KP.Ow V2 V0.heap.size (some ⟨V0.heap.size, 0, none⟩) k.places P1) := (O1.out.later b).keep (Nat.le_of_eq sV.symm) (fun q hq => kV q (by have := ((O1.out.later b).of hq).1; have := HZ.out; have := E0.out.2.2; omega))
  have O2' : Hid (KMk.OwS V2 V1.heap.size (some ⟨V1.heap.size, 0, none⟩) k.machines P2) := o2.keep (Nat.le_of_eq sV.symm) (fun q hq => kV q (by have := (o2.of hq).1; have := HZ.out; have := E1.out.2.2; omega))
  have O1 := O1'
  clear O1'
  have O2 := O2'
  clear O2'
  have Zb2 : Hid (V1.heap.size ≤ w2.heap.size ∧ w2.heap.size = V2.heap.size ∧ (∀ q, P2 q → V1.heap.size ≤ q ∧ q < w2.heap.size)) := ⟨b.size, sV.symm, fun q hq => o2.of hq⟩
  clear o2 b sV kV lV
  have q := KTS.to V2 a3 c3 k.txs HR.out.2.t HR.out.2.ts (HR.out.1.later E2.out.2.1).t
  have A4 := (FA.out.under E2.out.1 (by omega)).1 4 _ rfl
  rw [hV2] at A4
  go_wp2_with fail
  rw [← hV2]
  clear hV2 A4 u uf
  refine q.mono ?_
  clear q
  rintro e w3 ⟨P3, rfl, o3, b⟩
  obtain ⟨V3, hV3⟩ : ∃ Y, Y = w3.setCell ⟨X.heap.size + 2, 4, none⟩ (.slice (some ⟨V2.heap.size, 0, none⟩) k.txs.length k.txs.length) := ⟨_, rfl⟩
  have sV : V3.heap.size = w3.heap.size := by rw [hV3]; simp [World.setCell]
  have kV : ∀ q, q ≠ X.heap.size + 2 → V3.heap[q]? = w3.heap[q]? := fun q hq => by rw [hV3]; exact Below.heap_setCell _ _ _ _ hq
  have lV : X.heap.size + 3 ≤ V2.heap.size := by have := E2.out.2.2; have := HZ.out; omega
  have u := (Y2.out.later b).1 4 _ rfl
  have uf := (Y2.out.later b).2.1 4
  have E3 : Hid (Below (X.heap.size + 2) V0 V3 ∧ Below X.heap.size X V3 ∧ V0.heap.size ≤ V3.heap.size) := by
    refine ⟨?_, ?_, by have := b.size; have := E2.out.2.2; omega⟩
    · rw [hV3]; exact (E2.out.1.trans (b.mono (by omega))).setCell (p := ⟨X.heap.size + 2, 4, none⟩) (Nat.le_refl _) _
    · rw [hV3]; exact (E2.out.2.1.trans (b.mono (by omega))).setCell (p := ⟨X.heap.size + 2, 4, none⟩) (by show X.heap.size ≤ X.heap.size + 2; omega) _
  have Y3 : Hid (Bx V3 (X.heap.size + 2) [.int .i64 k.config, .int .i64 k.clock, .slice (some ⟨V0.heap.size, 0, none⟩) k.places.length k.places.length, .slice (some ⟨V1.heap.size, 0, none⟩) k.machines.length k.machines.length, .slice (some ⟨V2.heap.size, 0, none⟩) k.txs.length k.txs.length, .bool false]) := by rw [hV3]; exact (Y2.out.later b).set (i := 4) (by simp) _
  have O1' : Hid (KP.Ow V3 V0.heap.size (some ⟨V0.heap.size, 0, none⟩) k.places P1) := (O1.out.later b).keep (Nat.le_of_eq sV.symm) (fun q hq => kV q (by have := ((O1.out.later b).of hq).1; have := HZ.out; have := E0.out.2.2; omega))
  have O2' : Hid (KMk.OwS V3 V1.heap.size (some ⟨V1.heap.size, 0, none⟩) k.machines P2) := (O2.out.later b).keep (Nat.le_of_eq sV.symm) (fun q hq => kV q (by have := ((O2.out.later b).of hq).1; have := HZ.out; have := E1.out.2.2; omega))
  have O3' : Hid (KTk.OwS V3 V2.heap.size (some ⟨V2.heap.size, 0, none⟩) k.txs P3) := o3.keep (Nat.le_of_eq sV.symm) (fun q hq => kV q (by have := (o3.of hq).1; have := HZ.out; have := E2.out.2.2; omega))
  have O1 := O1'
  clear O1'
  have O2 := O2'
  clear O2'
  have O3 := O3'
  clear O3'
  have Zb3 : Hid (V2.heap.size ≤ w3.heap.size ∧ w3.heap.size = V3.heap.size ∧ (∀ q, P3 q → V2.heap.size ≤ q ∧ q < w3.heap.size)) := ⟨b.size, sV.symm, fun q hq => o3.of hq⟩
  clear o3 b sV kV lV
  have A5 := (FA.out.under E3.out.1 (by omega)).1 5 _ rfl
  rw [hV3] at A5
  obtain ⟨V4, hV4⟩ : ∃ Y, Y = V3.setCell ⟨X.heap.size + 2, 5, none⟩ (.bool k.lost) := ⟨_, rfl⟩
  have Y4 : Hid (Bx V4 (X.heap.size + 2) [.int .i64 k.config, .int .i64 k.clock, .slice (some ⟨V0.heap.size, 0, none⟩) k.places.length k.places.length, .slice (some ⟨V1.heap.size, 0, none⟩) k.machines.length k.machines.length, .slice (some ⟨V2.heap.size, 0, none⟩) k.txs.length k.txs.length, .bool k.lost]) := by rw [hV4]; exact Y3.out.set (i := 5) (by simp) _
  have v5 := Y3.out.1 5 _ rfl
  have v5f := Y3.out.2.1 5
  rw [hV3] at v5 v5f hV4
  have ZZ : Hid (Bx V4 (X.heap.size + 1) [.int .i64 0, .int .i64 0, .slice none 0 0, .slice none 0 0, .slice none 0 0, .bool false]) := by rw [hV4, ← hV3]; exact (FZ.out.under E3.out.1 (by omega)).far (by omega) _
  have s4 : V4.heap.size = V3.heap.size := by rw [hV4, ← hV3]; simp [World.setCell]
  have k4 : ∀ q, q ≠ X.heap.size + 2 → V4.heap[q]? = V3.heap[q]? := fun q hq => by rw [hV4, ← hV3]; exact Below.heap_setCell _ _ _ _ hq
  have B4 : Hid (Below X.heap.size X V4) := by rw [hV4, ← hV3]; exact E3.out.2.1.setCell (p := ⟨X.heap.size + 2, 5, none⟩) (by show X.heap.size ≤ X.heap.size + 2; omega) _
  have KK : Hid (V4.heap.size = V3.heap.size ∧ (∀ q, q ≠ X.heap.size + 2 → V4.heap[q]? = V3.heap[q]?)) := ⟨s4, k4⟩
  clear s4 k4
  go_upto_region 8 with fail
  rw [← hV4]
  clear hV4 hV3 A5 v5 v5f u uf
  have y0 := Y4.out.1 0 _ rfl
  have z0 := ZZ.out.1 0 _ rfl
  have zf0 := ZZ.out.2.1 0
  have y1 := Y4.out.1 1 _ rfl
  have z1 := ZZ.out.1 1 _ rfl
  have zf1 := ZZ.out.2.1 1
  have y2 := Y4.out.1 2 _ rfl
  have z2 := ZZ.out.1 2 _ rfl
  have zf2 := ZZ.out.2.1 2
  have y3 := Y4.out.1 3 _ rfl
  have z3 := ZZ.out.1 3 _ rfl
  have zf3 := ZZ.out.2.1 3
  have y4 := Y4.out.1 4 _ rfl
  have z4 := ZZ.out.1 4 _ rfl
  have zf4 := ZZ.out.2.1 4
  have y5 := Y4.out.1 5 _ rfl
  have z5 := ZZ.out.1 5 _ rfl
  have zf5 := ZZ.out.2.1 5
  have BP := ZZ.out.put [.int .i64 k.config, .int .i64 k.clock, .slice (some ⟨V0.heap.size, 0, none⟩) k.places.length k.places.length, .slice (some ⟨V1.heap.size, 0, none⟩) k.machines.length k.machines.length, .slice (some ⟨V2.heap.size, 0, none⟩) k.txs.length k.txs.length, .bool k.lost] rfl
  have r0 := BP.1 0 _ rfl
  have r1 := BP.1 1 _ rfl
  have r2 := BP.1 2 _ rfl
  have r3 := BP.1 3 _ rfl
  have r4 := BP.1 4 _ rfl
  have r5 := BP.1 5 _ rfl
  simp only [putB, Nat.zero_add] at r0 r1 r2 r3 r4 r5
  have KR := tx.hidOf (And.intro r0 (And.intro r1 (And.intro r2 (And.intro r3 (And.intro r4 r5)))))
  clear BP r0 r1 r2 r3 r4 r5
  go_wp2
  obtain ⟨r0, r1, r2, r3, r4, r5⟩ := KR.out
  refine bodyPost_ret (v := .agg #[.int .i64 k.config, .int .i64 k.clock, .slice (some ⟨V0.heap.size, 0, none⟩) k.places.length k.places.length, .slice (some ⟨V1.heap.size, 0, none⟩) k.machines.length k.machines.length, .slice (some ⟨V2.heap.size, 0, none⟩) k.txs.length k.txs.length, .bool k.lost]) (by simp [results, Tryz.results11, go_sem, r0, r1, r2, r3, r4, r5]) rfl ?_
  obtain ⟨s4, k4⟩ := KK.out
  obtain ⟨n1, n2, n3⟩ := Zb1.out
  obtain ⟨m1, m2, m3⟩ := Zb2.out
  obtain ⟨l1, l2, l3⟩ := Zb3.out
  have hz := HZ.out
  have hw : ∀ q, q ≠ X.heap.size + 1 → q ≠ X.heap.size + 2 → (putB V4 (X.heap.size + 1) 0 [.int .i64 k.config, .int .i64 k.clock, .slice (some ⟨V0.heap.size, 0, none⟩) k.places.length k.places.length, .slice (some ⟨V1.heap.size, 0, none⟩) k.machines.length k.machines.length, .slice (some ⟨V2.heap.size, 0, none⟩) k.txs.length k.txs.length, .bool k.lost]).heap[q]? = V3.heap[q]? := fun q h1 h2 => (putB_block h1 _ _ _).trans (k4 q h2)
  have hws : V3.heap.size ≤ (putB V4 (X.heap.size + 1) 0 [.int .i64 k.config, .int .i64 k.clock, .slice (some ⟨V0.heap.size, 0, none⟩) k.places.length k.places.length, .slice (some ⟨V1.heap.size, 0, none⟩) k.machines.length k.machines.length, .slice (some ⟨V2.heap.size, 0, none⟩) k.txs.length k.txs.length, .bool k.lost]).heap.size := by rw [putB_size]; omega
  refine ⟨_, _, _, _, _, _, fun q => P1 q ∨ P2 q ∨ P3 q, rfl, ⟨⟨P1, P2, P3, ?_, ?_, ?_, fun q h => .inl h, fun q h => .inr (.inl h), fun q h => .inr (.inr h), fun q h h' => ?_, fun q h h' => ?_, fun q h h' => ?_⟩, fun q hq => ?_⟩, putB_below (by omega) [.int .i64 k.config, .int .i64 k.clock, .slice (some ⟨V0.heap.size, 0, none⟩) k.places.length k.places.length, .slice (some ⟨V1.heap.size, 0, none⟩) k.machines.length k.machines.length, .slice (some ⟨V2.heap.size, 0, none⟩) k.txs.length k.txs.length, .bool k.lost] _ _ B4.out⟩
  · exact (O1.out.keep (w' := putB V4 (X.heap.size + 1) 0 [.int .i64 k.config, .int .i64 k.clock, .slice (some ⟨V0.heap.size, 0, none⟩) k.places.length k.places.length, .slice (some ⟨V1.heap.size, 0, none⟩) k.machines.length k.machines.length, .slice (some ⟨V2.heap.size, 0, none⟩) k.txs.length k.txs.length, .bool k.lost]) hws (fun q hq => by have := n3 q hq; exact hw q (by omega) (by omega))).low (by omega)
  · exact (O2.out.keep (Y := putB V4 (X.heap.size + 1) 0 [.int .i64 k.config, .int .i64 k.clock, .slice (some ⟨V0.heap.size, 0, none⟩) k.places.length k.places.length, .slice (some ⟨V1.heap.size, 0, none⟩) k.machines.length k.machines.length, .slice (some ⟨V2.heap.size, 0, none⟩) k.txs.length k.txs.length, .bool k.lost]) hws (fun q hq => by have := m3 q hq; exact hw q (by omega) (by omega))).low (by omega)
  · exact (O3.out.keep (Y := putB V4 (X.heap.size + 1) 0 [.int .i64 k.config, .int .i64 k.clock, .slice (some ⟨V0.heap.size, 0, none⟩) k.places.length k.places.length, .slice (some ⟨V1.heap.size, 0, none⟩) k.machines.length k.machines.length, .slice (some ⟨V2.heap.size, 0, none⟩) k.txs.length k.txs.length, .bool k.lost]) hws (fun q hq => by have := l3 q hq; exact hw q (by omega) (by omega))).low (by omega)
  · have := n3 q h; have := m3 q h'; omega
  · have := n3 q h; have := l3 q h'; omega
  · have := m3 q h; have := l3 q h'; omega
  · show X.heap.size ≤ q ∧ q < (putB V4 (X.heap.size + 1) 0 [.int .i64 k.config, .int .i64 k.clock, .slice (some ⟨V0.heap.size, 0, none⟩) k.places.length k.places.length, .slice (some ⟨V1.heap.size, 0, none⟩) k.machines.length k.machines.length, .slice (some ⟨V2.heap.size, 0, none⟩) k.txs.length k.txs.length, .bool k.lost]).heap.size
    rw [putB_size]
    rcases hq with hq | hq | hq
    · have := n3 q hq; omega
    · have := m3 q hq; omega
    · have := l3 q hq; omega
set_option maxRecDepth 100000 in
set_option maxHeartbeats 4000000 in
theorem KCl.eq (X : World) (a1 : Option Addr) (c1 : Nat) (a2 : Option Addr) (c2 : Nat) (a3 : Option Addr) (c3 : Nat) (a1' : Option Addr) (c1' : Nat) (a2' : Option Addr) (c2' : Nat) (a3' : Option Addr) (c3' : Nat) (k : C6) (ht : KCl.S k) (h1 : KCl.Rd X a1 c1 a2 c2 a3 c3 k) (h2 : KCl.Rd X a1' c1' a2' c2' a3' c3' k) : Calls Tryz.prog 13 #[.agg #[.int .i64 k.config, .int .i64 k.clock, .slice a1 k.places.length c1, .slice a2 k.machines.length c2, .slice a3 k.txs.length c3, .bool k.lost], .agg #[.int .i64 k.config, .int .i64 k.clock, .slice a1' k.places.length c1', .slice a2' k.machines.length c2', .slice a3' k.txs.length c3', .bool k.lost]] X fun e w' => e = .returned (.bool true) ∧ Below X.heap.size X w' := by
  obtain ⟨U0, hU0⟩ : ∃ Y, Y = X.alloc (.cells #[.int .i64 k.config, .int .i64 k.clock, .slice a1 k.places.length c1, .slice a2 k.machines.length c2, .slice a3 k.txs.length c3, .bool k.lost] 32) := ⟨_, rfl⟩
  have b0 : Below X.heap.size X U0 := by rw [hU0]; exact (Below.refl _ _).alloc (Nat.le_refl _) _
  have x0 : Bx U0 X.heap.size [.int .i64 k.config, .int .i64 k.clock, .slice a1 k.places.length c1, .slice a2 k.machines.length c2, .slice a3 k.txs.length c3, .bool k.lost] := by rw [hU0]; exact Bx.made X [.int .i64 k.config, .int .i64 k.clock, .slice a1 k.places.length c1, .slice a2 k.machines.length c2, .slice a3 k.txs.length c3, .bool k.lost] _
  have z0 : U0.heap.size = X.heap.size + 1 := by rw [hU0]; simp
  obtain ⟨U, hU⟩ : ∃ Y, Y = U0.alloc (.cells #[.int .i64 k.config, .int .i64 k.clock, .slice a1' k.places.length c1', .slice a2' k.machines.length c2', .slice a3' k.txs.length c3', .bool k.lost] 32) := ⟨_, rfl⟩
  have b1 : Below U0.heap.size U0 U := by rw [hU]; exact (Below.refl _ _).alloc (Nat.le_refl _) _
  have x1 : Bx U U0.heap.size [.int .i64 k.config, .int .i64 k.clock, .slice a1' k.places.length c1', .slice a2' k.machines.length c2', .slice a3' k.txs.length c3', .bool k.lost] := by rw [hU]; exact Bx.made U0 [.int .i64 k.config, .int .i64 k.clock, .slice a1' k.places.length c1', .slice a2' k.machines.length c2', .slice a3' k.txs.length c3', .bool k.lost] _
  rw [z0] at x1
  have bU : Below X.heap.size X U := bstep b0 b1
  have FA : Hid (Bx U X.heap.size [.int .i64 k.config, .int .i64 k.clock, .slice a1 k.places.length c1, .slice a2 k.machines.length c2, .slice a3 k.txs.length c3, .bool k.lost]) := x0.later b1
  have FB : Hid (Bx U (X.heap.size + 1) [.int .i64 k.config, .int .i64 k.clock, .slice a1' k.places.length c1', .slice a2' k.machines.length c2', .slice a3' k.txs.length c3', .bool k.lost]) := x1
  have HR : Hid (KCl.Rd U a1 c1 a2 c2 a3 c3 k ∧ KCl.Rd U a1' c1' a2' c2' a3' c3' k ∧ KCl.S k ∧ Below X.heap.size X U) := ⟨h1.later bU, h2.later bU, ht, bU⟩
  rw [hU0] at hU
  clear b0 x0 z0 b1 x1 bU hU0 h1 h2 ht
  have d0 : (k.config != k.config) = false := by simp
  have d1 : (k.clock != k.clock) = false := by simp
  have d5 : (k.lost != k.lost) = false := by simp
  have p0 := FA.out.1 0 _ rfl
  have p1 := FA.out.1 1 _ rfl
  have p2 := FA.out.1 2 _ rfl
  have r0 := FB.out.1 0 _ rfl
  have r1 := FB.out.1 1 _ rfl
  have r2 := FB.out.1 2 _ rfl
  rw [hU] at p0 p1 p2 r0 r1 r2
  go_enter Tryz.func13, Tryz.ntmps13
  go_wp2_with fail
  rw [← hU]
  clear hU p0 p1 p2 r0 r1 r2
  refine (eqPlaceS_any U a1 a1' k.places.length c1 c1' k.places (by have := HR.out.2.2.1.p; unfold maxLen; omega) (fun z hz => by have := HR.out.2.2.1.ps z hz; unfold maxLen; omega) HR.out.1.p HR.out.2.1.p).mono ?_
  rintro e w1 ⟨rfl, b1⟩
  have B1 := tx.hidOf b1
  clear b1
  have p3 := (FA.out.later B1.out).1 3 _ rfl
  have r3 := (FB.out.later B1.out).1 3 _ rfl
  go_wp2_with fail
  refine (KMS.eq w1 a2 a2' c2 c2' k.machines HR.out.2.2.1.m HR.out.2.2.1.ms (HR.out.1.later B1.out).m (HR.out.2.1.later B1.out).m).mono ?_
  rintro e w2 ⟨rfl, b2⟩
  have B2 : Hid (Below U.heap.size U w2) := bstep B1.out b2
  clear b2 p3 r3
  have p4 := (FA.out.later B2.out).1 4 _ rfl
  have r4 := (FB.out.later B2.out).1 4 _ rfl
  go_wp2_with fail
  refine (KTS.eq w2 a3 a3' c3 c3' k.txs HR.out.2.2.1.t HR.out.2.2.1.ts (HR.out.1.later B2.out).t (HR.out.2.1.later B2.out).t).mono ?_
  rintro e w3 ⟨rfl, b3⟩
  have B3 : Hid (Below U.heap.size U w3) := bstep B2.out b3
  clear b3 p4 r4
  have p5 := (FA.out.later B3.out).1 5 _ rfl
  have r5 := (FB.out.later B3.out).1 5 _ rfl
  go_wp2
  go_ret
  exact ⟨rfl, bstep HR.out.2.2.2 B3.out⟩
end Go.Proofs.YtnhjgomfkfehgaaGreatDoor
namespace Go.Proofs.YtnhjgomfkfehgaaGreatDoor
open Go.RowKit
open Go.Sort (grow)
theorem KCl.Ow.low {w : World} {B B' : Nat} {a1 : Option Addr} {c1 : Nat} {a2 : Option Addr} {c2 : Nat} {a3 : Option Addr} {c3 : Nat} {k : C6} {P : Nat → Prop} (h : KCl.Ow w B a1 c1 a2 c2 a3 c3 k P) (hb : B' ≤ B) : KCl.Ow w B' a1 c1 a2 c2 a3 c3 k P := by
  obtain ⟨⟨P1, P2, P3, h1, h2, h3, h4⟩, h5⟩ := h
  exact ⟨⟨P1, P2, P3, h1.low hb, h2.low hb, h3.low hb, h4⟩, fun q hq => ⟨Nat.le_trans hb (h5 q hq).1, (h5 q hq).2⟩⟩
end Go.Proofs.YtnhjgomfkfehgaaGreatDoor
namespace Go.Proofs.YtnhjgomfkfehgaaGreatDoor
open Go.RowKit
def cellsG {α : Type} (hd : α → List Int) (ln : α → Nat) (r : α) (q cap : Nat) : List Value := (hd r).map (Value.int .i64) ++ [.slice (some ⟨q, 0, none⟩) (ln r) cap]
def flatG {α : Type} (hd : α → List Int) (ln : α → Nat) (rs : List α) (g caps : Nat → Nat) : List Value := rs.zipIdx.flatMap fun p => cellsG hd ln p.1 (g p.2) (caps p.2)
theorem flat_at {β : Type} {f : β → List Value} {sz : Nat} : ∀ {l : List β} (_ : ∀ x ∈ l, (f x).length = sz) {i t : Nat} {x : β}, l[i]? = some x → t < sz → (l.flatMap f)[i * sz + t]? = (f x)[t]?
  | [], _, i, t, x, h, _ => by simp at h
  | y :: l, hf, 0, t, x, h, ht => by
    simp at h
    subst h
    rw [List.flatMap_cons, List.getElem?_append_left (by rw [hf y (by simp)]; omega)]
    simp
  | y :: l, hf, i + 1, t, x, h, ht => by
    have hl := hf y (by simp)
    rw [List.flatMap_cons, List.getElem?_append_right (by rw [hl, Nat.add_mul]; omega), hl, show (i + 1) * sz + t - sz = i * sz + t by rw [Nat.add_mul]; omega]
    exact flat_at (fun x hx => hf x (by simp [hx])) (by simpa using h) ht
theorem flatG_at {α : Type} {hd : α → List Int} {ln : α → Nat} {sz : Nat} (hh : ∀ r, (hd r).length + 1 = sz) {rs : List α} {g caps : Nat → Nat} {i t : Nat} {r : α} (h : rs[i]? = some r) (ht : t < sz) : (flatG hd ln rs g caps)[i * sz + t]? = (cellsG hd ln r (g i) (caps i))[t]? := by
  have h' : rs.zipIdx[i]? = some (r, i) := by simp [h]
  exact flat_at (f := fun p : α × Nat => cellsG hd ln p.1 (g p.2) (caps p.2)) (fun x _ => by simp [cellsG, hh]) h' ht
theorem flat_cong {β : Type} {f f' : β → List Value} : ∀ {l : List β}, (∀ x ∈ l, f x = f' x) → l.flatMap f = l.flatMap f'
  | [], _ => rfl
  | y :: l, h => by rw [List.flatMap_cons, List.flatMap_cons, h y (by simp), flat_cong (fun x hx => h x (by simp [hx]))]
theorem flatG_snoc {α : Type} {hd : α → List Int} {ln : α → Nat} (rs : List α) (r : α) (g caps : Nat → Nat) (q cap : Nat) : flatG hd ln (rs ++ [r]) (fun i => if i = rs.length then q else g i) (fun i => if i = rs.length then cap else caps i) = flatG hd ln rs g caps ++ cellsG hd ln r q cap := by
  unfold flatG
  rw [List.zipIdx_append, List.flatMap_append]
  congr 1
  · have : ∀ p ∈ rs.zipIdx, p.2 < rs.length := fun p hp => by
      have := List.snd_lt_of_mem_zipIdx hp
      omega
    refine flat_cong fun p hp => ?_
    have := this p hp
    simp only [if_neg (show p.2 ≠ rs.length by omega)]
  · simp
structure GrowG {α : Type} (T : TypeId) (sz : Nat) (hd : α → List Int) (ln : α → Nat) (At : World → Nat → α → Prop) (w : World) (base : Nat) (v : Value) (rs : List α) (g : Nat → Nat) : Prop where
  row : ∃ caps : Nat → Nat, w.ownsRow base T sz v rs.length (flatG hd ln rs g caps) ∧ ∀ i r, rs[i]? = some r → ln r ≤ caps i
  low : ∀ i, i < rs.length → base ≤ g i
  lt : ∀ i, i < rs.length → g i < w.heap.size
  ne : ∀ i, i < rs.length → v.ownBlock ≠ some (g i)
  sub : ∀ i r, rs[i]? = some r → At w (g i) r
  inj : ∀ i j, i < rs.length → j < rs.length → g i = g j → i = j
theorem GrowG.nil {α : Type} {T : TypeId} {sz : Nat} {hd : α → List Int} {ln : α → Nat} {At : World → Nat → α → Prop} (w : World) (base : Nat) (g : Nat → Nat) : GrowG T sz hd ln At w base (.slice none 0 0) [] g :=
  ⟨⟨fun _ => 0, ⟨by simp [flatG], .inl ⟨rfl, rfl⟩⟩, fun i r e => by simp at e⟩, fun i h => by simp at h, fun i h => by simp at h, fun i h => by simp at h, fun i r e => by simp at e, fun i j h => by simp at h⟩
theorem GrowG.lies {α : Type} {T : TypeId} {sz : Nat} {hd : α → List Int} {ln : α → Nat} {At : World → Nat → α → Prop} {w : World} {base : Nat} {v : Value} {rs : List α} {g : Nat → Nat} (h : GrowG T sz hd ln At w base v rs g) {q : Nat} (e : v.ownBlock = some q) : base ≤ q ∧ q < w.heap.size := by
  obtain ⟨caps, ho, _⟩ := h.row
  exact World.ownsRow.lt ho q e
theorem GrowG.keep {α : Type} {T : TypeId} {sz : Nat} {hd : α → List Int} {ln : α → Nat} {At : World → Nat → α → Prop} (hAt : ∀ (w w' : World) (b : Nat) (r : α), w'.heap[b]? = w.heap[b]? → At w b r → At w' b r) {w w' : World} {base : Nat} {v : Value} {rs : List α} {g : Nat → Nat} (h : GrowG T sz hd ln At w base v rs g) (hsz : w.heap.size ≤ w'.heap.size) (hs : ∀ q, q < w.heap.size → (v.ownBlock = some q ∨ ∃ i, i < rs.length ∧ g i = q) → w'.heap[q]? = w.heap[q]?) : GrowG T sz hd ln At w' base v rs g := by
  obtain ⟨caps, ho, hc⟩ := h.row
  refine ⟨⟨caps, ⟨ho.1, ho.2.imp id ?_⟩, hc⟩, h.low, fun i hi => Nat.lt_of_lt_of_le (h.lt i hi) hsz, h.ne, fun i r e => ?_, h.inj⟩
  · rintro ⟨q, cap, cur, rfl, l, hg, r⟩
    exact ⟨q, cap, cur, rfl, l, (hs q (World.ownsRow.lt ho q rfl).2 (.inl rfl)).trans hg, r⟩
  · have hi := (List.getElem?_eq_some_iff.1 e).1
    exact hAt _ _ _ _ (hs _ (h.lt i hi) (.inr ⟨i, hi, rfl⟩)) (h.sub i r e)
theorem GrowG.later {α : Type} {T : TypeId} {sz : Nat} {hd : α → List Int} {ln : α → Nat} {At : World → Nat → α → Prop} (hAt : ∀ (w w' : World) (b : Nat) (r : α), w'.heap[b]? = w.heap[b]? → At w b r → At w' b r) {w w' : World} {base : Nat} {v : Value} {rs : List α} {g : Nat → Nat} (h : GrowG T sz hd ln At w base v rs g) (hb : Below w.heap.size w w') : GrowG T sz hd ln At w' base v rs g := h.keep hAt hb.size (fun q hq _ => hb.block q hq)
theorem GrowG.own {α : Type} {T : TypeId} {sz : Nat} {hd : α → List Int} {ln : α → Nat} {At : World → Nat → α → Prop} (hh : ∀ r, (hd r).length + 1 = sz) {w : World} {base : Nat} {v : Value} {rs : List α} {g : Nat → Nat} (h : GrowG T sz hd ln At w base v rs g) (hne : rs ≠ []) :
    ∃ b cap, v = .slice (some ⟨b, 0, none⟩) rs.length cap ∧ base ≤ b ∧ b < w.heap.size ∧ rs.length ≤ cap ∧ Room w b (rs.length * sz) ∧ OwnG sz hd ln At w base b rs.length rs g := by
  obtain ⟨caps, ho, hc⟩ := h.row
  have hpos : 0 < rs.length := List.length_pos_iff.2 hne
  have hcap : ∃ b cap, v = .slice (some ⟨b, 0, none⟩) rs.length cap ∧ rs.length ≤ cap := by
    rcases ho.2 with ⟨_, h0⟩ | ⟨b, cap, cur, rfl, _, _, hl, _⟩
    · omega
    · exact ⟨b, cap, rfl, hl⟩
  obtain ⟨b, cap, rfl, hl⟩ := hcap
  have hb := World.ownsRow.lt ho b rfl
  have hlen : ∀ i r, rs[i]? = some r → i < rs.length := fun i r e => (List.getElem?_eq_some_iff.1 e).1
  have hat : ∀ i r t, rs[i]? = some r → t < sz → w.cell? ⟨b, i * sz + t, none⟩ = (cellsG hd ln r (g i) (caps i))[t]? := fun i r t e ht => by
    have : (i + 1) * sz ≤ rs.length * sz := Nat.mul_le_mul_right sz (hlen i r e)
    rw [Nat.add_mul] at this
    rw [World.ownsRow.cellAt ho _ (by omega)]
    exact flatG_at hh e ht
  refine ⟨b, cap, rfl, hb.1, hb.2, hl, fun j hj => ?_, ⟨rfl, fun i r e t z ht => ?_, fun i r e => ?_, h.low, h.lt, fun i hi e => h.ne i hi (by rw [e]; rfl), h.sub, h.inj⟩⟩
  · have hx : j < (flatG hd ln rs g caps).length := by rw [ho.1]; exact hj
    exact ⟨_, by rw [World.ownsRow.cellAt ho j hj]; exact List.getElem?_eq_getElem hx, World.ownsRow.frozenAt ho j⟩
  · have htl := (List.getElem?_eq_some_iff.1 ht).1
    have := hh r
    rw [hat i r t e (by omega), cellsG, List.getElem?_append_left (by simpa using htl), List.getElem?_map, ht]; rfl
  · have := hh r
    refine ⟨caps i, ?_, hc i r e⟩
    rw [hat i r (sz - 1) e (by omega), cellsG, List.getElem?_append_right (by simp; omega)]
    simp [show sz - 1 - (hd r).length = 0 by omega]
theorem GrowG.push {α : Type} {T ST : TypeId} {sz by_ : Nat} {hd : α → List Int} {ln : α → Nat} {At : World → Nat → α → Prop} (hAt : ∀ (w w' : World) (b : Nat) (r : α), w'.heap[b]? = w.heap[b]? → At w b r → At w' b r) (hh : ∀ r, (hd r).length + 1 = sz) {P : Program} {i0 : TypeInfo} {z : Value} (ht : P.underlying ST = some (.slice T)) (hi : P.info? T = some i0) (hz : i0.zero = some z) (hs : i0.size = sz) (hby : i0.bytes = by_) (hzs : z.cells.size = sz) (hbb : by_ ≤ 1000)
    {W : World} {base e : Nat} {v : Value} {rs : List α} {g : Nat → Nat} (h : GrowG T sz hd ln At W base v rs g) (r : α) (q cap : Nat) (hm : rs.length ≤ 100000) (ty : TypeId)
    (he : ∀ j u, (cellsG hd ln r q cap)[j]? = some u → W.cell? ⟨e, j, none⟩ = some u) (hat : At W q r) (hc : ln r ≤ cap) (hq : base ≤ q) (hql : q < W.heap.size) (hn : v.ownBlock ≠ some q) (hf : ∀ i, i < rs.length → g i ≠ q) (hbase : base ≤ W.heap.size) :
    ∃ v' W', (Builtin.append_ #[ST, ST] ty #[v, .slice (some ⟨e, 0, none⟩) 1 1]).run P W = .ok v' W' ∧ GrowG T sz hd ln At W' base v' (rs ++ [r]) (fun i => if i = rs.length then q else g i) ∧ W.grownBy W' v.ownBlock ∧ (v'.ownBlock = v.ownBlock ∨ v'.ownBlock = some W.heap.size) := by
  obtain ⟨caps, ho, hcs⟩ := h.row
  have hadd : ∀ (b o j : Nat), (⟨b, o, none⟩ : Addr).add j = ⟨b, o + j, none⟩ := fun b o j => by unfold Addr.add; split <;> simp_all
  obtain ⟨v', W', hrun, hown, hg, hnil, hlies⟩ := run_append_own_at (P := P) W base ST ty T i0 z sz by_ ht hi hz hs hby hzs (by have := hh r; omega)
    v rs.length _ ho ⟨e, 0, none⟩ 1 1 (cellsG hd ln r q cap) (by simp [cellsG, hh]) (fun j u hu => by rw [hadd, Nat.zero_add]; exact he j u hu)
    (fun u hu => by
      simp only [cellsG, List.mem_append, List.mem_map, List.mem_singleton] at hu
      rcases hu with ⟨x, _, rfl⟩ | rfl <;> rfl) (by unfold maxLen; omega) (by
      have : (rs.length + 1) * by_ ≤ 100001 * 1000 := Nat.mul_le_mul (by omega) hbb
      omega) hbase
  have far : ∀ x, x < W.heap.size → v.ownBlock ≠ some x → W'.heap[x]? = W.heap[x]? := fun x hx hne => hg.block x hx (fun e' => hne e'.symm)
  have nev : ∀ x, x < W.heap.size → v.ownBlock ≠ some x → v'.ownBlock ≠ some x := fun x hx hne => by
    rcases hlies with e' | e'
    · rw [e']; exact hne
    · rw [e']; intro e''; cases e''; omega
  have split : ∀ i y, (rs ++ [r])[i]? = some y → (i < rs.length ∧ rs[i]? = some y) ∨ (i = rs.length ∧ y = r) := fun i y e => by
    by_cases hi : i < rs.length
    · rw [List.getElem?_append_left hi] at e
      exact .inl ⟨hi, e⟩
    · rw [List.getElem?_append_right (by omega)] at e
      have h0 : i - rs.length = 0 := by
        rcases Nat.eq_zero_or_pos (i - rs.length) with h | h
        · exact h
        · rw [List.getElem?_eq_none (by simp; omega)] at e; cases e
      rw [h0] at e
      simp at e
      exact .inr ⟨by omega, e.symm⟩
  have hlen : (rs ++ [r]).length = rs.length + 1 := by simp
  refine ⟨v', W', hrun, ⟨⟨fun i => if i = rs.length then cap else caps i, by rw [flatG_snoc, hlen]; exact hown, fun i y e' => ?_⟩, fun i hi' => ?_, fun i hi' => ?_, fun i hi' => ?_, fun i y e' => ?_, fun i j hi' hj' ee => ?_⟩, hg, hlies⟩
  · rcases split i y e' with ⟨hi', e'⟩ | ⟨rfl, rfl⟩
    · show ln y ≤ if i = rs.length then cap else caps i
      rw [if_neg (by omega)]; exact hcs i y e'
    · show ln y ≤ if rs.length = rs.length then cap else caps rs.length
      rw [if_pos rfl]; exact hc
  · by_cases e' : i = rs.length
    · rw [if_pos e']; exact hq
    · rw [if_neg e']; exact h.low i (by omega)
  · by_cases e' : i = rs.length
    · rw [if_pos e']; exact Nat.lt_of_lt_of_le hql hg.size
    · rw [if_neg e']; exact Nat.lt_of_lt_of_le (h.lt i (by omega)) hg.size
  · by_cases e' : i = rs.length
    · rw [if_pos e']; exact nev q hql hn
    · rw [if_neg e']; exact nev _ (h.lt i (by omega)) (h.ne i (by omega))
  · rcases split i y e' with ⟨hi', e'⟩ | ⟨rfl, rfl⟩
    · rw [if_neg (by omega)]; exact hAt _ _ _ _ (far _ (h.lt i hi') (h.ne i hi')) (h.sub i y e')
    · rw [if_pos rfl]; exact hAt _ _ _ _ (far _ hql hn) hat
  · by_cases ei : i = rs.length <;> by_cases ek : j = rs.length
    · omega
    · simp only [if_pos ei, if_neg ek] at ee; exact absurd ee.symm (hf j (by omega))
    · simp only [if_neg ei, if_pos ek] at ee; exact absurd ee (hf i (by omega))
    · simp only [if_neg ei, if_neg ek] at ee; exact h.inj i j (by omega) (by omega) ee
def Kd.flat {D V : Type} (K : Kd D V) (ps : List (V × D)) : List Value := ps.flatMap fun p => K.cells p.1 p.2
theorem Kd.flat_len {D V : Type} (K : Kd D V) (ps : List (V × D)) : (K.flat ps).length = ps.length * K.n := by
  induction ps with
  | nil => simp [Kd.flat]
  | cons p ps ih =>
    unfold Kd.flat at ih ⊢
    rw [List.flatMap_cons, List.length_append, ih, K.len, List.length_cons, Nat.add_mul]
    omega
theorem Kd.flat_at {D V : Type} (K : Kd D V) {ps : List (V × D)} {i t : Nat} {p : V × D} (h : ps[i]? = some p) (ht : t < K.n) : (K.flat ps)[i * K.n + t]? = (K.cells p.1 p.2)[t]? := Go.Proofs.YtnhjgomfkfehgaaGreatDoor.flat_at (f := fun p : V × D => K.cells p.1 p.2) (fun _ _ => K.len _ _) h ht
theorem Kd.flat_snoc {D V : Type} (K : Kd D V) (ps : List (V × D)) (p : V × D) : K.flat (ps ++ [p]) = K.flat ps ++ K.cells p.1 p.2 := by simp [Kd.flat]
structure Kd.Grow {D V : Type} (K : Kd D V) (T : TypeId) (X : World) (B : Nat) (v : Value) (ps : List (V × D)) (g : Nat → Nat → Prop) : Prop where
  row : X.ownsRow B T K.n v ps.length (K.flat ps)
  sub : ∀ i p, ps[i]? = some p → K.Ow X B p.1 p.2 (g i)
  ne : ∀ i q, i < ps.length → g i q → v.ownBlock ≠ some q
  ap : ∀ i j q, i < ps.length → j < ps.length → i ≠ j → g i q → ¬ g j q
def Kd.blk {D V : Type} (v : Value) (ps : List (V × D)) (g : Nat → Nat → Prop) (q : Nat) : Prop := v.ownBlock = some q ∨ ∃ i, i < ps.length ∧ g i q
theorem Kd.Grow.nil {D V : Type} (K : Kd D V) (T : TypeId) (X : World) (B : Nat) (g : Nat → Nat → Prop) : K.Grow T X B (.slice none 0 0) [] g :=
  ⟨⟨by simp [Kd.flat], .inl ⟨rfl, rfl⟩⟩, fun i p e => by simp at e, fun i q h => by simp at h, fun i j q h => by simp at h⟩
theorem Kd.Grow.blocks {D V : Type} {K : Kd D V} {T : TypeId} {X : World} {B : Nat} {v : Value} {ps : List (V × D)} {g : Nat → Nat → Prop} (h : K.Grow T X B v ps g) {q : Nat} (hq : Kd.blk v ps g q) : B ≤ q ∧ q < X.heap.size := by
  rcases hq with e | ⟨i, hi, hq⟩
  · exact World.ownsRow.lt h.row q e
  · exact K.of (h.sub i _ (List.getElem?_eq_getElem hi)) hq
theorem Kd.Grow.keep {D V : Type} {K : Kd D V} {T : TypeId} {X Y : World} {B : Nat} {v : Value} {ps : List (V × D)} {g : Nat → Nat → Prop} (h : K.Grow T X B v ps g) (hs : X.heap.size ≤ Y.heap.size) (hk : ∀ q, Kd.blk v ps g q → Y.heap[q]? = X.heap[q]?) : K.Grow T Y B v ps g := by
  refine ⟨⟨h.row.1, h.row.2.imp id ?_⟩, fun i p e => K.keep (h.sub i p e) hs (fun q hq => hk q (.inr ⟨i, (List.getElem?_eq_some_iff.1 e).1, hq⟩)), h.ne, h.ap⟩
  rintro ⟨q, cap, cur, rfl, l, hg, r⟩
  exact ⟨q, cap, cur, rfl, l, (hk q (.inl rfl)).trans hg, r⟩
theorem Kd.Grow.later {D V : Type} {K : Kd D V} {T : TypeId} {X Y : World} {B : Nat} {v : Value} {ps : List (V × D)} {g : Nat → Nat → Prop} (h : K.Grow T X B v ps g) (hb : Below X.heap.size X Y) : K.Grow T Y B v ps g := h.keep hb.size (fun q hq => hb.block q (h.blocks hq).2)
theorem Kd.Grow.form {D V : Type} {K : Kd D V} {T : TypeId} {X : World} {B : Nat} {v : Value} {ps : List (V × D)} {g : Nat → Nat → Prop} (h : K.Grow T X B v ps g) : ∃ a cap, v = .slice a ps.length cap := by
  rcases h.row.2 with ⟨rfl, h0⟩ | ⟨q, cap, cur, rfl, _⟩
  · exact ⟨none, 0, by rw [h0]⟩
  · exact ⟨_, _, rfl⟩
theorem Kd.Grow.own {D V : Type} {K : Kd D V} {T : TypeId} {X : World} {B : Nat} {a : Option Addr} {m cap : Nat} {ps : List (V × D)} {g : Nat → Nat → Prop} (h : K.Grow T X B (.slice a m cap) ps g) {ds : List D} (hd : ps.map (·.2) = ds) : K.OwS X B a ds (Kd.blk (.slice a m cap) ps g) := by
  refine ⟨?_, fun q hq => h.blocks hq⟩
  by_cases e : ps = []
  · left; rw [← hd, e]; rfl
  have hpos : 0 < ps.length := List.length_pos_iff.2 e
  obtain ⟨b, cap', ev, hB, hlt⟩ := World.ownsRow.form h.row hpos
  have hl : ds.length = ps.length := by rw [← hd]; simp
  have hrow := h.row
  rw [ev] at hrow
  have ea : a = some ⟨b, 0, none⟩ := by injection ev
  have eb : (Value.slice a m cap).ownBlock = some b := by rw [ea]; rfl
  refine .inr ⟨b, g, ea, .inl eb, ⟨fun j hj => ?_, fun i d hi => ?_, fun i q hi hq e' => ?_, fun i j q hi hj => h.ap i j q (by omega) (by omega)⟩, fun i q hi hq => .inr ⟨i, by omega, hq⟩⟩
  · rw [hl] at hj
    have hx : j < (K.flat ps).length := by rw [K.flat_len]; exact hj
    exact ⟨_, by rw [World.ownsRow.cellAt hrow j hj]; exact List.getElem?_eq_getElem hx, World.ownsRow.frozenAt hrow j⟩
  · have hip : i < ps.length := by have := (List.getElem?_eq_some_iff.1 hi).1; omega
    have hp := List.getElem?_eq_getElem hip
    have hde : (ps[i]).2 = d := by
      rw [← hd, List.getElem?_map, hp] at hi
      simpa using hi
    refine ⟨(ps[i]).1, fun t u hu => ?_, by rw [← hde]; exact h.sub i _ hp⟩
    rw [← hde] at hu
    have ht : t < K.n := by have := (List.getElem?_eq_some_iff.1 hu).1; rwa [K.len] at this
    have hm : i * K.n + K.n ≤ ps.length * K.n := by rw [← Nat.succ_mul]; exact Nat.mul_le_mul_right _ hip
    rw [World.ownsRow.cellAt hrow _ (by omega), K.flat_at hp ht]
    exact hu
  · subst e'; exact h.ne i q (by omega) hq eb
theorem Kd.Grow.push {D V : Type} {K : Kd D V} {T ST : TypeId} {by_ : Nat} {P : Program} {i0 : TypeInfo} {z : Value} (ht : P.underlying ST = some (.slice T)) (hi : P.info? T = some i0) (hz : i0.zero = some z) (hs : i0.size = K.n) (hby : i0.bytes = by_) (hzs : z.cells.size = K.n) (hbb : by_ ≤ 1000) (hn0 : 0 < K.n)
    {W : World} {B e : Nat} {v : Value} {ps : List (V × D)} {g : Nat → Nat → Prop} (h : K.Grow T W B v ps g) (x : V) (d : D) (Q : Nat → Prop) (hm : ps.length ≤ 1100000) (ty : TypeId)
    (he : ∀ j u, (K.cells x d)[j]? = some u → W.cell? ⟨e, j, none⟩ = some u) (h1 : ∀ u ∈ K.cells x d, u.oneCell' = true) (ho : K.Ow W B x d Q) (hf : ∀ q, Q q → ¬ Kd.blk v ps g q) (hB : B ≤ W.heap.size) :
    ∃ v' W', (Builtin.append_ #[ST, ST] ty #[v, .slice (some ⟨e, 0, none⟩) 1 1]).run P W = .ok v' W' ∧ K.Grow T W' B v' (ps ++ [(x, d)]) (fun i => if i = ps.length then Q else g i) ∧ W.grownBy W' v.ownBlock ∧ (v'.ownBlock = v.ownBlock ∨ v'.ownBlock = some W.heap.size) := by
  have hadd : ∀ (b o j : Nat), (⟨b, o, none⟩ : Addr).add j = ⟨b, o + j, none⟩ := fun b o j => by unfold Addr.add; split <;> simp_all
  obtain ⟨v', W', hrun, hown, hg, hnil, hlies⟩ := run_append_own_at (P := P) W B ST ty T i0 z K.n by_ ht hi hz hs hby hzs hn0
    v ps.length _ h.row ⟨e, 0, none⟩ 1 1 (K.cells x d) (by rw [K.len]; omega) (fun j u hu => by rw [hadd, Nat.zero_add]; exact he j u hu) h1 (by unfold maxLen; omega) (by
      have : (ps.length + 1) * by_ ≤ 1100001 * 1000 := Nat.mul_le_mul (by omega) hbb
      omega) hB
  have far : ∀ q, q < W.heap.size → v.ownBlock ≠ some q → W'.heap[q]? = W.heap[q]? := fun q hq hne => hg.block q hq (fun e' => hne e'.symm)
  have nev : ∀ q, q < W.heap.size → v.ownBlock ≠ some q → v'.ownBlock ≠ some q := fun q hq hne => by
    rcases hlies with e' | e'
    · rw [e']; exact hne
    · rw [e']; intro e''; cases e''; omega
  have hlen : (ps ++ [(x, d)]).length = ps.length + 1 := by simp
  refine ⟨v', W', hrun, ⟨by rw [K.flat_snoc, hlen]; exact hown, fun i p e' => ?_, fun i q hi' hq => ?_, fun i j q hi' hj' hij h1 h2 => ?_⟩, hg, hlies⟩
  · by_cases hl : i < ps.length
    · rw [List.getElem?_append_left hl] at e'
      simp only [if_neg (show i ≠ ps.length by omega)]
      have hsub := h.sub i p e'
      exact K.keep hsub hg.size (fun q hq => far q (K.of hsub hq).2 (h.ne i q hl hq))
    · have hi2 : i = ps.length := by have := (List.getElem?_eq_some_iff.1 e').1; omega
      subst hi2
      rw [List.getElem?_append_right (Nat.le_refl _)] at e'
      simp at e'
      subst e'
      simp only [if_pos]
      exact K.keep ho hg.size (fun q hq => far q (K.of ho hq).2 (fun e'' => hf q hq (.inl e'')))
  · by_cases e1 : i = ps.length
    · simp only [if_pos e1] at hq
      exact nev q (K.of ho hq).2 (fun e'' => hf q hq (.inl e''))
    · simp only [if_neg e1] at hq
      have hi2 : i < ps.length := by omega
      exact nev q (h.blocks (.inr ⟨i, hi2, hq⟩)).2 (h.ne i q hi2 hq)
  · by_cases e1 : i = ps.length
    · by_cases e2 : j = ps.length
      · omega
      · simp only [if_pos e1] at h1; simp only [if_neg e2] at h2; exact hf q h1 (.inr ⟨j, by omega, h2⟩)
    · by_cases e2 : j = ps.length
      · simp only [if_neg e1] at h1; simp only [if_pos e2] at h2; exact hf q h2 (.inr ⟨i, by omega, h1⟩)
      · simp only [if_neg e1] at h1; simp only [if_neg e2] at h2; exact h.ap i j q (by omega) (by omega) hij h1 h2
theorem Kd.blk_push {D V : Type} {v v' : Value} {ps : List (V × D)} {p : V × D} {g : Nat → Nat → Prop} {Q : Nat → Prop} {S : Nat} (hl : v'.ownBlock = v.ownBlock ∨ v'.ownBlock = some S) {q : Nat} (h : Kd.blk v' (ps ++ [p]) (fun i => if i = ps.length then Q else g i) q) : Kd.blk v ps g q ∨ Q q ∨ q = S := by
  rcases h with h | ⟨i, hi, h⟩
  · rcases hl with e | e
    · rw [e] at h; exact .inl (.inl h)
    · rw [e] at h; exact .inr (.inr (Option.some.inj h).symm)
  · by_cases e : i = ps.length
    · simp only [if_pos e] at h; exact .inr (.inl h)
    · simp only [if_neg e] at h
      simp at hi
      exact .inl (.inr ⟨i, by omega, h⟩)
def R4.val (r : R4) (a : Option Addr) (cap : Nat) : Value := .agg #[.int .i64 r.kind, .int .i64 r.tx, .int .i64 r.region, .slice a r.sets.length cap]
def K2.val (k : K2) (a : Option Addr) (cap : Nat) : Value := .agg #[.int .i64 k.region, .slice a k.cells.length cap]
def FirstAt (f : Nat → Bool) (n : Nat) (i : Int) : Prop := (i = -1 ∧ ∀ j, j < n → f j = false) ∨ ∃ k : Nat, i = (k : Int) ∧ k < n ∧ f k = true ∧ ∀ j, j < k → f j = false
theorem first_has {f : Nat → Bool} {n : Nat} {i : Int} (h : FirstAt f n i) : decide (0 ≤ i) = !((List.range n).all fun j => !f j) := by
  rcases h with ⟨rfl, h⟩ | ⟨k, rfl, hk, h, _⟩
  · have : ((List.range n).all fun j => !f j) = true := by
      rw [List.all_eq_true]; intro j hj; rw [h j (List.mem_range.1 hj)]; rfl
    rw [this]; rfl
  · have : ((List.range n).all fun j => !f j) = false := by
      rw [List.all_eq_false]; exact ⟨k, List.mem_range.2 hk, by simp [h]⟩
    rw [this]; simp
theorem hidOf {p : Prop} (h : p) : Hid p := h
def idxLogF (w : World) (n : Nat) (rs : List R4)  (f : Nat → Bool) : Prop :=
  ∀ (X : World) (i : Nat) (a' : Option Addr) (cap' : Nat), Below w.heap.size w X → i < n → Sl X X.heap.size a' (atR rs i).sets.length (atR rs i).sets → Calls Tryz.prog 286 #[(atR rs i).val a' cap'] X fun e w' => e = .returned (.bool (f i)) ∧ Below X.heap.size X w'
set_option maxHeartbeats 2000000 in
theorem idxLog (w : World) (a : Option Addr) (n cap : Nat) (rs : List R4)  (f : Nat → Bool) (hn : n ≤ maxLen) (hs : SlR w w.heap.size a n rs) (hf : idxLogF w n rs  f) :
    Calls Tryz.prog 302 #[.slice a n cap, .func (.func 286) #[] #[]] w fun e w' => (∃ i : Int, e = .returned (.int .i64 i) ∧ FirstAt f n i) ∧ Below w.heap.size w w' := by
  unfold maxLen at hn
  obtain ⟨hx, hs⟩ := hs
  have HF := hidOf hf
  clear hf
  go_enter Tryz.func302, Tryz.ntmps302
  go_wp2
  go_loopw [8] (fun v wr => ∃ j : Nat, j ≤ n ∧ v = .int .i64 j ∧ Below w.heap.size w wr ∧ ∀ i, i < j → f i = false) (fun v _ => n - (intOf v).toNat)
  case atStart => exact ⟨0, Nat.zero_le _, rfl, Below.refl _ _, fun i h => absurd h (by omega)⟩
  case round =>
    obtain ⟨j, hj, rfl, hbl, hall⟩ := hrel
    by_cases hlt : j < n
    · rcases hs with hs | ⟨b, off, rfl, hb, h1⟩
      · omega
      · have hr := (h1 j _ (atR_of (by omega))).below hbl hb
        have c0 := hr.c0
        have c1 := hr.c1
        have c2 := hr.c2
        obtain ⟨a', cap', c3, hsl, hcp⟩ := hr.c3
        have KA : Hid ((∀ i, i < j → f i = false) ∧ Below w.heap.size w wr) := ⟨hall, hbl⟩
        have hw := HF.out wr j a' cap' hbl hlt (hsl.mono hbl.size)
        simp only [R4.val] at hw
        clear h1 hr hall hsl hbl hcp
        generalize (atR rs j).sets.length = ln at *
        cases hp : f j with
        | true =>
          rw [hp] at hw
          go_wp2_with fail
          refine hw.mono ?_
          clear hw
          rintro e w1 ⟨rfl, b1⟩
          go_wp2
          go_ret
          exact ⟨⟨_, rfl, .inr ⟨j, rfl, hlt, hp, KA.out.1⟩⟩, KA.out.2.trans (b1.mono KA.out.2.size)⟩
        | false =>
          rw [hp] at hw
          go_wp2_with fail
          refine hw.mono ?_
          clear hw
          rintro e w1 ⟨rfl, b1⟩
          go_wp2
          exact ⟨⟨j + 1, by omega, by simp, KA.out.2.trans (b1.mono KA.out.2.size), fun i hi => by
            by_cases e : i = j
            · rw [e]; exact hp
            · exact KA.out.1 i (by omega)⟩, by simp [intOf]; omega⟩
    · have : j = n := by omega
      subst this
      have hd : decide ((j : Int) < (j : Int)) = false := by simp
      have KA : Hid (∀ i, i < j → f i = false) := hall
      clear hs hall
      go_wp2
      go_ret
      exact ⟨⟨_, rfl, .inl ⟨rfl, KA.out⟩⟩, hbl⟩
theorem idxLogHas (w : World) (a : Option Addr) (n cap : Nat) (rs : List R4) (f : Nat → Bool) (hn : n ≤ maxLen) (hs : SlR w w.heap.size a n rs) (hf : idxLogF w n rs f) :
    Calls Tryz.prog 288 #[.slice a n cap, .func (.func 286) #[] #[]] w fun e w' => e = .returned (.bool (!((List.range n).all fun j => !f j))) ∧ Below w.heap.size w w' := by
  have hi := idxLog w a n cap rs f hn hs hf
  clear hs hf
  go_enter Tryz.func288, Tryz.ntmps288
  go_wp2_with fail
  refine hi.mono ?_
  clear hi
  rintro e w1 ⟨⟨i, rfl, hb0⟩, b1⟩
  have hb := first_has hb0
  clear hb0
  generalize hV : (!((List.range n).all fun j => !f j)) = V at hb
  go_wp2
  go_ret
  exact ⟨by rw [hV]; rfl, b1⟩
def idxCopF (w : World) (n : Nat) (rs : List K2)  (f : Nat → Bool) : Prop :=
  ∀ (X : World) (i : Nat) (a' : Option Addr) (cap' : Nat), Below w.heap.size w X → i < n → SlC X X.heap.size a' (atK rs i).cells.length (atK rs i).cells → Calls Tryz.prog 282 #[(atK rs i).val a' cap'] X fun e w' => e = .returned (.bool (f i)) ∧ Below X.heap.size X w'
set_option maxHeartbeats 2000000 in
theorem idxCop (w : World) (a : Option Addr) (n cap : Nat) (rs : List K2)  (f : Nat → Bool) (hn : n ≤ maxLen) (hs : SlK w w.heap.size a n rs) (hf : idxCopF w n rs  f) :
    Calls Tryz.prog 299 #[.slice a n cap, .func (.func 282) #[] #[]] w fun e w' => (∃ i : Int, e = .returned (.int .i64 i) ∧ FirstAt f n i) ∧ Below w.heap.size w w' := by
  unfold maxLen at hn
  obtain ⟨hx, hs⟩ := hs
  have HF := hidOf hf
  clear hf
  go_enter Tryz.func299, Tryz.ntmps299
  go_wp2
  go_loopw [8] (fun v wr => ∃ j : Nat, j ≤ n ∧ v = .int .i64 j ∧ Below w.heap.size w wr ∧ ∀ i, i < j → f i = false) (fun v _ => n - (intOf v).toNat)
  case atStart => exact ⟨0, Nat.zero_le _, rfl, Below.refl _ _, fun i h => absurd h (by omega)⟩
  case round =>
    obtain ⟨j, hj, rfl, hbl, hall⟩ := hrel
    by_cases hlt : j < n
    · rcases hs with hs | ⟨b, off, rfl, hb, h1⟩
      · omega
      · have hr := (h1 j _ (atK_of (by omega))).below hbl hb
        have c0 := hr.c0
        obtain ⟨a', cap', c1, hsl, hcp⟩ := hr.c1
        have KA : Hid ((∀ i, i < j → f i = false) ∧ Below w.heap.size w wr) := ⟨hall, hbl⟩
        have hw := HF.out wr j a' cap' hbl hlt (hsl.mono hbl.size)
        simp only [K2.val] at hw
        clear h1 hr hall hsl hbl hcp
        generalize (atK rs j).cells.length = ln at *
        cases hp : f j with
        | true =>
          rw [hp] at hw
          go_wp2_with fail
          refine hw.mono ?_
          clear hw
          rintro e w1 ⟨rfl, b1⟩
          go_wp2
          go_ret
          exact ⟨⟨_, rfl, .inr ⟨j, rfl, hlt, hp, KA.out.1⟩⟩, KA.out.2.trans (b1.mono KA.out.2.size)⟩
        | false =>
          rw [hp] at hw
          go_wp2_with fail
          refine hw.mono ?_
          clear hw
          rintro e w1 ⟨rfl, b1⟩
          go_wp2
          exact ⟨⟨j + 1, by omega, by simp, KA.out.2.trans (b1.mono KA.out.2.size), fun i hi => by
            by_cases e : i = j
            · rw [e]; exact hp
            · exact KA.out.1 i (by omega)⟩, by simp [intOf]; omega⟩
    · have : j = n := by omega
      subst this
      have hd : decide ((j : Int) < (j : Int)) = false := by simp
      have KA : Hid (∀ i, i < j → f i = false) := hall
      clear hs hall
      go_wp2
      go_ret
      exact ⟨⟨_, rfl, .inl ⟨rfl, KA.out⟩⟩, hbl⟩
theorem idxCopHas (w : World) (a : Option Addr) (n cap : Nat) (rs : List K2) (f : Nat → Bool) (hn : n ≤ maxLen) (hs : SlK w w.heap.size a n rs) (hf : idxCopF w n rs f) :
    Calls Tryz.prog 285 #[.slice a n cap, .func (.func 282) #[] #[]] w fun e w' => e = .returned (.bool (!((List.range n).all fun j => !f j))) ∧ Below w.heap.size w w' := by
  have hi := idxCop w a n cap rs f hn hs hf
  clear hs hf
  go_enter Tryz.func285, Tryz.ntmps285
  go_wp2_with fail
  refine hi.mono ?_
  clear hi
  rintro e w1 ⟨⟨i, rfl, hb0⟩, b1⟩
  have hb := first_has hb0
  clear hb0
  generalize hV : (!((List.range n).all fun j => !f j)) = V at hb
  go_wp2
  go_ret
  exact ⟨by rw [hV]; rfl, b1⟩
def idxNumF (w : World) (n : Nat) (rs : List Int)  (f : Nat → Bool) : Prop :=
  ∀ (X : World) (i : Nat) , Below w.heap.size w X → i < n → True → Calls Tryz.prog 289 #[.int .i64 (atN rs i)] X fun e w' => e = .returned (.bool (f i)) ∧ Below X.heap.size X w'
set_option maxHeartbeats 2000000 in
theorem idxNum (w : World) (a : Option Addr) (n cap : Nat) (rs : List Int)  (f : Nat → Bool) (hn : n ≤ maxLen) (hs : SlN w w.heap.size a n rs) (hf : idxNumF w n rs  f) :
    Calls Tryz.prog 303 #[.slice a n cap, .func (.func 289) #[] #[]] w fun e w' => (∃ i : Int, e = .returned (.int .i64 i) ∧ FirstAt f n i) ∧ Below w.heap.size w w' := by
  unfold maxLen at hn
  obtain ⟨hx, hs⟩ := hs
  have HF := hidOf hf
  clear hf
  go_enter Tryz.func303, Tryz.ntmps303
  go_wp2
  go_loopw [8] (fun v wr => ∃ j : Nat, j ≤ n ∧ v = .int .i64 j ∧ Below w.heap.size w wr ∧ ∀ i, i < j → f i = false) (fun v _ => n - (intOf v).toNat)
  case atStart => exact ⟨0, Nat.zero_le _, rfl, Below.refl _ _, fun i h => absurd h (by omega)⟩
  case round =>
    obtain ⟨j, hj, rfl, hbl, hall⟩ := hrel
    by_cases hlt : j < n
    · rcases hs with hs | ⟨b, off, rfl, hb, h1⟩
      · omega
      · have c0 := (hbl.cell (p := ⟨b, off + j, none⟩) hb).trans (h1 j _ (atN_of (by omega)))
        have KA : Hid ((∀ i, i < j → f i = false) ∧ Below w.heap.size w wr) := ⟨hall, hbl⟩
        have hw := HF.out wr j hbl hlt trivial
        clear h1 hall hbl
        cases hp : f j with
        | true =>
          rw [hp] at hw
          go_wp2_with fail
          refine hw.mono ?_
          clear hw
          rintro e w1 ⟨rfl, b1⟩
          go_wp2
          go_ret
          exact ⟨⟨_, rfl, .inr ⟨j, rfl, hlt, hp, KA.out.1⟩⟩, KA.out.2.trans (b1.mono KA.out.2.size)⟩
        | false =>
          rw [hp] at hw
          go_wp2_with fail
          refine hw.mono ?_
          clear hw
          rintro e w1 ⟨rfl, b1⟩
          go_wp2
          exact ⟨⟨j + 1, by omega, by simp, KA.out.2.trans (b1.mono KA.out.2.size), fun i hi => by
            by_cases e : i = j
            · rw [e]; exact hp
            · exact KA.out.1 i (by omega)⟩, by simp [intOf]; omega⟩
    · have : j = n := by omega
      subst this
      have hd : decide ((j : Int) < (j : Int)) = false := by simp
      have KA : Hid (∀ i, i < j → f i = false) := hall
      clear hs hall
      go_wp2
      go_ret
      exact ⟨⟨_, rfl, .inl ⟨rfl, KA.out⟩⟩, hbl⟩
theorem idxNumHas (w : World) (a : Option Addr) (n cap : Nat) (rs : List Int) (f : Nat → Bool) (hn : n ≤ maxLen) (hs : SlN w w.heap.size a n rs) (hf : idxNumF w n rs f) :
    Calls Tryz.prog 292 #[.slice a n cap, .func (.func 289) #[] #[]] w fun e w' => e = .returned (.bool (!((List.range n).all fun j => !f j))) ∧ Below w.heap.size w w' := by
  have hi := idxNum w a n cap rs f hn hs hf
  clear hs hf
  go_enter Tryz.func292, Tryz.ntmps292
  go_wp2_with fail
  refine hi.mono ?_
  clear hi
  rintro e w1 ⟨⟨i, rfl, hb0⟩, b1⟩
  have hb := first_has hb0
  clear hb0
  generalize hV : (!((List.range n).all fun j => !f j)) = V at hb
  go_wp2
  go_ret
  exact ⟨by rw [hV]; rfl, b1⟩
end Go.Proofs.YtnhjgomfkfehgaaGreatDoor