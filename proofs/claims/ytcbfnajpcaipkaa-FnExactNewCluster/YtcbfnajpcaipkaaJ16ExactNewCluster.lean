/- KdTS; PlsO; PlsL2: joined. -/
import Derived.Test.YtcbfnajpcaipkaaRows
import Derived.Test.YtcbfnajpcaipkaaJ15ExactNewCluster
import Derived.WalkKit
import Derived.WalkSpells
import Derived.WalkLawsBesides
import Derived.Below
import Derived.Lib.QuietBelow
import Derived.BigQuiet
import Derived.Test.YtcbfnajpcaipkaaJ2ExactNewCluster
import Derived.Deep.QuietTactic
namespace Go.Proofs.Ytcbfnajpcaipkaa
open Go.RowKit
open Go.Sort (grow)
set_option maxRecDepth 100000 in
set_option maxHeartbeats 4000000 in
theorem KTS.eq (w : World) (a a' : Option Addr) (cap cap' : Nat) (xs : List tx.T7) (hn : xs.length ≤ 1048576) (ht : ∀ d ∈ xs, KT.S d) (h1 : KTk.RdS w a xs) (h2 : KTk.RdS w a' xs) : Calls Try.prog 35 #[.slice a xs.length cap, .slice a' xs.length cap'] w fun e w' => e = .returned (.bool true) ∧ Below w.heap.size w w' := by
  go_enter Try.func35, Try.ntmps35
  go_wp2
  go_loopw [5] (fun i wr => ∃ j : Nat, j ≤ xs.length ∧ i = .int .i64 j ∧ Below w.heap.size w wr) (fun i _ => xs.length - (intOf i).toNat)
  case atStart => exact ⟨0, Nat.zero_le _, rfl, Below.refl _ _⟩
  case round =>
    obtain ⟨j, hj, rfl, hbl⟩ := hrel
    by_cases hlt : j < xs.length
    · obtain ⟨d, hd⟩ : ∃ d, xs[j]? = some d := ⟨_, List.getElem?_eq_getElem hlt⟩
      rcases h1 with h1 | ⟨b, off, rfl, hb, h1⟩
      · rw [h1] at hlt; simp at hlt
      · rcases h2 with h2 | ⟨b', off', rfl, hb', h2⟩
        · rw [h2] at hlt; simp at hlt
        · obtain ⟨⟨c0, c1, c2, c3⟩, hat, hrd⟩ := h1 j d hd
          obtain ⟨⟨b0, b1, b2, b3⟩, hat', hrd'⟩ := h2 j d hd
          have x0 : ∀ dd os, (grow (redrawn wr dd) os).cell? ⟨b, off + j * 7, none⟩ = some (.int .i64 d.id) := fun dd os => ((below_regrown wr dd os).cell (p := ⟨b, off + j * 7, none⟩) (Nat.lt_of_lt_of_le hb hbl.size)).trans ((hbl.cell (p := ⟨b, off + j * 7, none⟩) hb).trans (hat 0 _ rfl))
          have x1 : ∀ dd os, (grow (redrawn wr dd) os).cell? ⟨b, off + j * 7 + 1, none⟩ = some (.int .i64 d.home) := fun dd os => ((below_regrown wr dd os).cell (p := ⟨b, off + j * 7 + 1, none⟩) (Nat.lt_of_lt_of_le hb hbl.size)).trans ((hbl.cell (p := ⟨b, off + j * 7 + 1, none⟩) hb).trans (hat 1 _ rfl))
          have x2 : ∀ dd os, (grow (redrawn wr dd) os).cell? ⟨b, off + j * 7 + 2, none⟩ = some (.int .i64 d.phase) := fun dd os => ((below_regrown wr dd os).cell (p := ⟨b, off + j * 7 + 2, none⟩) (Nat.lt_of_lt_of_le hb hbl.size)).trans ((hbl.cell (p := ⟨b, off + j * 7 + 2, none⟩) hb).trans (hat 2 _ rfl))
          have x3 : ∀ dd os, (grow (redrawn wr dd) os).cell? ⟨b, off + j * 7 + 3, none⟩ = some (.int .i64 d.count) := fun dd os => ((below_regrown wr dd os).cell (p := ⟨b, off + j * 7 + 3, none⟩) (Nat.lt_of_lt_of_le hb hbl.size)).trans ((hbl.cell (p := ⟨b, off + j * 7 + 3, none⟩) hb).trans (hat 3 _ rfl))
          have x4 : ∀ dd os, (grow (redrawn wr dd) os).cell? ⟨b, off + j * 7 + 4, none⟩ = some (.slice c0 d.reads.length c1) := fun dd os => ((below_regrown wr dd os).cell (p := ⟨b, off + j * 7 + 4, none⟩) (Nat.lt_of_lt_of_le hb hbl.size)).trans ((hbl.cell (p := ⟨b, off + j * 7 + 4, none⟩) hb).trans (hat 4 _ rfl))
          have x5 : ∀ dd os, (grow (redrawn wr dd) os).cell? ⟨b, off + j * 7 + 5, none⟩ = some (.slice c2 d.sets.length c3) := fun dd os => ((below_regrown wr dd os).cell (p := ⟨b, off + j * 7 + 5, none⟩) (Nat.lt_of_lt_of_le hb hbl.size)).trans ((hbl.cell (p := ⟨b, off + j * 7 + 5, none⟩) hb).trans (hat 5 _ rfl))
          have x6 : ∀ dd os, (grow (redrawn wr dd) os).cell? ⟨b, off + j * 7 + 6, none⟩ = some (.int .i64 d.stamp) := fun dd os => ((below_regrown wr dd os).cell (p := ⟨b, off + j * 7 + 6, none⟩) (Nat.lt_of_lt_of_le hb hbl.size)).trans ((hbl.cell (p := ⟨b, off + j * 7 + 6, none⟩) hb).trans (hat 6 _ rfl))
          have y0 : ∀ dd os, (grow (redrawn wr dd) os).cell? ⟨b', off' + j * 7, none⟩ = some (.int .i64 d.id) := fun dd os => ((below_regrown wr dd os).cell (p := ⟨b', off' + j * 7, none⟩) (Nat.lt_of_lt_of_le hb' hbl.size)).trans ((hbl.cell (p := ⟨b', off' + j * 7, none⟩) hb').trans (hat' 0 _ rfl))
          have y1 : ∀ dd os, (grow (redrawn wr dd) os).cell? ⟨b', off' + j * 7 + 1, none⟩ = some (.int .i64 d.home) := fun dd os => ((below_regrown wr dd os).cell (p := ⟨b', off' + j * 7 + 1, none⟩) (Nat.lt_of_lt_of_le hb' hbl.size)).trans ((hbl.cell (p := ⟨b', off' + j * 7 + 1, none⟩) hb').trans (hat' 1 _ rfl))
          have y2 : ∀ dd os, (grow (redrawn wr dd) os).cell? ⟨b', off' + j * 7 + 2, none⟩ = some (.int .i64 d.phase) := fun dd os => ((below_regrown wr dd os).cell (p := ⟨b', off' + j * 7 + 2, none⟩) (Nat.lt_of_lt_of_le hb' hbl.size)).trans ((hbl.cell (p := ⟨b', off' + j * 7 + 2, none⟩) hb').trans (hat' 2 _ rfl))
          have y3 : ∀ dd os, (grow (redrawn wr dd) os).cell? ⟨b', off' + j * 7 + 3, none⟩ = some (.int .i64 d.count) := fun dd os => ((below_regrown wr dd os).cell (p := ⟨b', off' + j * 7 + 3, none⟩) (Nat.lt_of_lt_of_le hb' hbl.size)).trans ((hbl.cell (p := ⟨b', off' + j * 7 + 3, none⟩) hb').trans (hat' 3 _ rfl))
          have y4 : ∀ dd os, (grow (redrawn wr dd) os).cell? ⟨b', off' + j * 7 + 4, none⟩ = some (.slice b0 d.reads.length b1) := fun dd os => ((below_regrown wr dd os).cell (p := ⟨b', off' + j * 7 + 4, none⟩) (Nat.lt_of_lt_of_le hb' hbl.size)).trans ((hbl.cell (p := ⟨b', off' + j * 7 + 4, none⟩) hb').trans (hat' 4 _ rfl))
          have y5 : ∀ dd os, (grow (redrawn wr dd) os).cell? ⟨b', off' + j * 7 + 5, none⟩ = some (.slice b2 d.sets.length b3) := fun dd os => ((below_regrown wr dd os).cell (p := ⟨b', off' + j * 7 + 5, none⟩) (Nat.lt_of_lt_of_le hb' hbl.size)).trans ((hbl.cell (p := ⟨b', off' + j * 7 + 5, none⟩) hb').trans (hat' 5 _ rfl))
          have y6 : ∀ dd os, (grow (redrawn wr dd) os).cell? ⟨b', off' + j * 7 + 6, none⟩ = some (.int .i64 d.stamp) := fun dd os => ((below_regrown wr dd os).cell (p := ⟨b', off' + j * 7 + 6, none⟩) (Nat.lt_of_lt_of_le hb' hbl.size)).trans ((hbl.cell (p := ⟨b', off' + j * 7 + 6, none⟩) hb').trans (hat' 6 _ rfl))
          have cQ : ∀ dd os, Calls Try.prog 24 #[.agg #[.int .i64 d.id, .int .i64 d.home, .int .i64 d.phase, .int .i64 d.count, .slice c0 d.reads.length c1, .slice c2 d.sets.length c3, .int .i64 d.stamp], .agg #[.int .i64 d.id, .int .i64 d.home, .int .i64 d.phase, .int .i64 d.count, .slice b0 d.reads.length b1, .slice b2 d.sets.length b3, .int .i64 d.stamp]] (grow (redrawn wr dd) os) fun e w'' => e = .returned (.bool true) ∧ ∃ p : Regrown, w'' = grow (redrawn wr p.d) p.os := fun dd os => Calls.regrown_of (KT.eq _ c0 c1 c2 c3 b0 b1 b2 b3 d (ht d (List.mem_of_getElem? hd)) (KTk.later hrd (hbl.trans ((below_regrown wr dd os).mono hbl.size))) (KTk.later hrd' (hbl.trans ((below_regrown wr dd os).mono hbl.size))))
          have K : Hid (Below w.heap.size w wr) := hbl
          have jn : (j : Int) < (xs.length : Int) := by omega
          clear hat hat' hrd hrd' hbl h1 h2 ht hd
          go_wp2_with fail
          refine wp_region_quiet_below (by kernel_rfl) (by kernel_rfl) ?_
          repeat (go_big_quiet_step (exact cQ _ _))
          refine wpQuiet_nil ?_
          intro _ hw'
          obtain ⟨⟨dq, osq⟩, hw''⟩ := hw'
          subst hw''
          have bq := below_regrown wr dq osq
          go_wp2
          exact ⟨⟨j + 1, by omega, by simp, K.out.trans (bq.mono K.out.size)⟩, by simp [intOf]; omega⟩
    · obtain rfl : j = xs.length := by omega
      have hd : decide ((xs.length : Int) < (xs.length : Int)) = false := by simp
      clear h1 h2 ht
      go_wp2
      go_ret
      exact ⟨rfl, hbl⟩
def KTS.szs (xs : List tx.T7) : Nat := (xs.map fun d => tx.szT d).sum
end Go.Proofs.Ytcbfnajpcaipkaa
namespace Go.Proofs.Ytcbfnajpcaipkaa
open Go.RowKit
def OwnQ (w : World) (base : Nat) (a : Option Addr) (n : Nat) (zss : List (List Int)) (g : Nat → Nat) : Prop :=
  (a = none ∧ n = 0 ∧ zss = []) ∨ ∃ b, a = some ⟨b, 0, none⟩ ∧ base ≤ b ∧ b < w.heap.size ∧ OwnP w base b n zss g
theorem OwnQ.sl {w : World} {base : Nat} {a : Option Addr} {n : Nat} {zss : List (List Int)} {g : Nat → Nat} (h : OwnQ w base a n zss g) : SlP w w.heap.size a n zss := by
  rcases h with ⟨rfl, rfl, rfl⟩ | ⟨b, rfl, _, hb, ho⟩
  · exact ⟨rfl, .inl rfl⟩
  · exact ho.sl hb
theorem OwnQ.later {w w' : World} {base : Nat} {a : Option Addr} {n : Nat} {zss : List (List Int)} {g : Nat → Nat} (h : OwnQ w base a n zss g) (hb : Below w.heap.size w w') : OwnQ w' base a n zss g := by
  rcases h with h | ⟨b, rfl, hb1, hb2, ho⟩
  · exact .inl h
  · exact .inr ⟨b, rfl, hb1, Nat.lt_of_lt_of_le hb2 hb.size, ho.later hb hb2⟩
theorem OwnQ.low {w : World} {base : Nat} {a : Option Addr} {n : Nat} {zss : List (List Int)} {g : Nat → Nat} (h : OwnQ w base a n zss g) : ∀ i, i < n → base ≤ g i := by
  rcases h with ⟨_, rfl, _⟩ | ⟨b, rfl, _, _, ho⟩
  · intro i hi; omega
  · exact ho.low
theorem OwnQ.lt {w : World} {base : Nat} {a : Option Addr} {n : Nat} {zss : List (List Int)} {g : Nat → Nat} (h : OwnQ w base a n zss g) : ∀ i, i < n → g i < w.heap.size := by
  rcases h with ⟨_, rfl, _⟩ | ⟨b, rfl, _, _, ho⟩
  · intro i hi; omega
  · exact ho.lt
theorem OwnQ.kept {w w' : World} {base : Nat} {a : Option Addr} {n : Nat} {zss : List (List Int)} {g : Nat → Nat} (h : OwnQ w base a n zss g) (hs : w.heap.size ≤ w'.heap.size) (eb : ∀ b, a = some ⟨b, 0, none⟩ → w'.heap[b]? = w.heap[b]?) (eg : ∀ i, i < n → w'.heap[g i]? = w.heap[g i]?) : OwnQ w' base a n zss g := by
  rcases h with h | ⟨b, rfl, hb1, hb2, ho⟩
  · exact .inl h
  · exact .inr ⟨b, rfl, hb1, Nat.lt_of_lt_of_le hb2 hs, ho.of_blocks hs (eb b rfl) eg⟩
theorem OwnQ.lower {w : World} {base base' : Nat} {a : Option Addr} {n : Nat} {zss : List (List Int)} {g : Nat → Nat} (h : OwnQ w base a n zss g) (hb : base' ≤ base) : OwnQ w base' a n zss g := by
  rcases h with h | ⟨b, e, h1, h2, o⟩
  · exact .inl h
  · exact .inr ⟨b, e, Nat.le_trans hb h1, h2, ⟨o.len, o.cell, fun i hi => Nat.le_trans hb (o.low i hi), o.lt, o.ne, o.nums, o.room, o.inj⟩⟩
end Go.Proofs.Ytcbfnajpcaipkaa
namespace Go.Proofs.Ytcbfnajpcaipkaa
open Go.RowKit
open Go.Sort (grow)
set_option maxHeartbeats 1000000 in
theorem toPlace_any (w : World) (a : Option Addr) (n cap : Nat) (zs : List Int) (hn : n ≤ 1048576) (hs : SlN w w.heap.size a n zs) : Calls Try.prog 42 #[.agg #[.slice a n cap]] w fun e w' =>
    ∃ g, e = .returned (.agg #[.slice (some ⟨g, 0, none⟩) n n]) ∧ Below w.heap.size w w' ∧ w.heap.size ≤ g ∧ g < w'.heap.size ∧ NumsAt w' g 0 zs ∧ Room w' g n := by
  go_enter Try.func42, Try.ntmps42
  go_wp2_with fail
  obtain ⟨W, hW⟩ : ∃ W, W = ((w.alloc (.cells #[.slice a n cap] 75)).alloc (.cells #[.slice none 0 0] 64)).alloc (.cells #[.slice none 0 0] 64) := ⟨_, rfl⟩
  have bW : Below w.heap.size w W := by rw [hW]; exact (((Below.refl _ _).alloc (Nat.le_refl _) _).alloc (by simp) _).alloc (by simp; omega) _
  have zW : W.heap.size = w.heap.size + 3 := by rw [hW]; simp
  have c1 : W.cell? ⟨w.heap.size + 1, 0, none⟩ = some (.slice none 0 0) := by rw [hW]; go_simp
  have c2 : W.cell? ⟨w.heap.size + 2, 0, none⟩ = some (.slice none 0 0) := by rw [hW]; go_simp
  have f1 : W.frozen? ⟨w.heap.size + 1, 0, none⟩ = false := by rw [hW]; go_simp
  have f2 : W.frozen? ⟨w.heap.size + 2, 0, none⟩ = false := by rw [hW]; go_simp
  rw [← hW]
  clear hW
  refine (toInt64S_any W a n cap zs hn (hs.later bW)).mono ?_
  rintro e w1 ⟨rfl, b1, l1, n1, r1⟩
  have c1 := (b1.cell (p := ⟨w.heap.size + 1, 0, none⟩) (by simp; omega)).trans c1
  have c2 := (b1.cell (p := ⟨w.heap.size + 2, 0, none⟩) (by simp; omega)).trans c2
  have f1 := (b1.frozen (p := ⟨w.heap.size + 1, 0, none⟩) (by simp; omega)).trans f1
  have f2 := (b1.frozen (p := ⟨w.heap.size + 2, 0, none⟩) (by simp; omega)).trans f2
  have K : Hid (Below w.heap.size w w1 ∧ W.heap.size < w1.heap.size ∧ NumsAt w1 W.heap.size 0 zs ∧ Room w1 W.heap.size n ∧ W.heap.size = w.heap.size + 3) := ⟨bW.trans (b1.mono bW.size), l1, n1, r1, zW⟩
  clear bW zW b1 l1 n1 r1 hs
  generalize W.heap.size = g at *
  go_wp2
  refine bodyPost_ret (v := .agg #[.slice (some ⟨g, 0, none⟩) n n]) (by simp [results, Try.results42, go_sem, c1]) rfl ?_
  obtain ⟨b1, l1, n1, r1, zW⟩ := K.out
  have far : ∀ (V : World) (q o : Nat) (v : Value), q ≠ g → (V.setCell ⟨q, o, none⟩ v).heap[g]? = V.heap[g]? := fun V q o v h => Below.heap_setCell _ _ _ _ (fun e => h e.symm)
  have he := (far (w1.setCell ⟨w.heap.size + 2, 0, none⟩ (.slice (some ⟨g, 0, none⟩) n n)) (w.heap.size + 1) 0 (.slice (some ⟨g, 0, none⟩) n n) (by omega)).trans (far w1 (w.heap.size + 2) 0 (.slice (some ⟨g, 0, none⟩) n n) (by omega))
  exact ⟨g, rfl, (b1.setCell (p := ⟨w.heap.size + 2, 0, none⟩) (by simp) _).setCell (p := ⟨w.heap.size + 1, 0, none⟩) (by simp) _, by omega, by simpa [World.setCell] using l1, n1.of_block he, r1.of_block he⟩
theorem make_places (n : Nat) (hn : n ≤ 1048576) (w : World) : (Instr.makeSlice 22 (.int .i64 (n : Int)) (.int .i64 (n : Int))).run Try.prog w = .ok (.slice (some ⟨w.heap.size, 0, none⟩) n n) (w.alloc (.cells (madeCells #[.slice none 0 0] n) 64)) := by
  have info : (Try.prog.info? 64).map (fun i => (i.zero, i.size, i.bytes)) = some (some (.agg #[.slice none 0 0]), 1, 24) := by kernel_rfl
  obtain ⟨i, hi, hzz⟩ := Option.map_eq_some_iff.1 info
  simp only [Prod.mk.injEq] at hzz
  obtain ⟨hz, hs, hb⟩ := hzz
  have := run_make (P := Try.prog) w 22 64 i _ Try.underlying22 hi hz .i64 .i64 (n : Int) (n : Int) (by omega) (by omega) (by rw [hb]; omega) (by omega)
  rw [hs] at this
  simpa [Value.cells] using this
set_option maxHeartbeats 2000000 in
theorem toPlaceS_any (w : World) (a : Option Addr) (n cap : Nat) (zss : List (List Int)) (hn : n ≤ 1048576) (hl : ∀ zs ∈ zss, zs.length ≤ 1048576) (hs : SlP w w.heap.size a n zss) : Calls Try.prog 15 #[.slice a n cap] w fun e w' =>
    ∃ g, e = .returned (.slice (some ⟨w.heap.size, 0, none⟩) n n) ∧ Below w.heap.size w w' ∧ w.heap.size < w'.heap.size ∧ OwnP w' w.heap.size w.heap.size n zss g := by
  obtain ⟨hx, hs⟩ := hs
  have hmk := make_places n hn
  go_enter Try.func15, Try.ntmps15
  go_wp2
  go_loopw [4] (fun i wr => ∃ (j : Nat) (g : Nat → Nat), j ≤ n ∧ i = .int .i64 j ∧ Below w.heap.size w wr ∧ w.heap.size < wr.heap.size ∧ Room wr w.heap.size n ∧ OwnP wr w.heap.size w.heap.size j (zss.take j) g) (fun i _ => n - (intOf i).toNat)
  case atStart => exact ⟨0, fun _ => 0, Nat.zero_le _, rfl, (Below.refl _ _).alloc (Nat.le_refl _) _, by simp, room_made _ _ _ _, by rw [List.take_zero]; exact OwnP.nil _ _ _ _⟩
  case round =>
    obtain ⟨j, g, hj, rfl, hbl, hsz, hro, hown⟩ := hrel
    by_cases hlt : j < n
    · rcases hs with hs | ⟨b, off, rfl, hb, h1⟩
      · omega
      · obtain ⟨a', cap', hc, hsl, _⟩ := h1 j _ (atP_of (by omega))
        have c := (hbl.cell (p := ⟨b, off + j, none⟩) hb).trans hc
        have hcl := toPlace_any wr a' (atP zss j).length cap' (atP zss j) (hl _ (List.mem_of_getElem? (atP_of (by omega)))) ((hsl.below hbl).mono hbl.size)
        have K : Hid (Room wr w.heap.size n ∧ OwnP wr w.heap.size w.heap.size j (zss.take j) g ∧ Below w.heap.size w wr ∧ w.heap.size < wr.heap.size ∧ zss.take (j + 1) = zss.take j ++ [atP zss j]) := ⟨hro, hown, hbl, hsz, by rw [List.take_add_one, atP_of (by omega)]; rfl⟩
        clear hro hown hbl hmk h1 hx hl hsl hc
        go_wp2_with fail
        refine hcl.mono ?_
        clear hcl
        rintro e w1 ⟨q, rfl, b1, lq, hq, hnu, hrm⟩
        obtain ⟨v, d, f⟩ := (K.out.1.below b1 K.out.2.2.2.1) j hlt
        have K1 : Hid (Below wr.heap.size wr w1 ∧ wr.heap.size ≤ q ∧ q < w1.heap.size ∧ NumsAt w1 q 0 (atP zss j) ∧ Room w1 q (atP zss j).length) := ⟨b1, lq, hq, hnu, hrm⟩
        clear b1 lq hq hnu hrm
        go_wp2
        obtain ⟨hro, hown, hbl, hsz, htk⟩ := K.out
        obtain ⟨b1, lq, hq, hnu, hrm⟩ := K1.out
        have far : ∀ (V : World) (x o : Nat) (v : Value), x ≠ w.heap.size → (V.setCell ⟨w.heap.size, o, none⟩ v).heap[x]? = V.heap[x]? := fun V x o v h => Below.heap_setCell _ _ _ _ h
        have hsz1 : w.heap.size < w1.heap.size := Nat.lt_of_lt_of_le hsz b1.size
        have ho1 : OwnP (w1.setCell ⟨w.heap.size, j, none⟩ (.slice (some ⟨q, 0, none⟩) (atP zss j).length (atP zss j).length)) w.heap.size w.heap.size j (zss.take j) g := by
          have h1 := hown.later b1 hsz
          refine ⟨h1.len, fun i zs e => ?_, h1.low, fun i hi => by simpa [World.setCell] using h1.lt i hi, h1.ne, fun i zs e => (h1.nums i zs e).of_block (far _ _ _ _ (h1.ne i ?_)), fun i zs e => (h1.room i zs e).of_block (far _ _ _ _ (h1.ne i ?_)), h1.inj⟩
          · obtain ⟨cp, hcc, hcp⟩ := h1.cell i zs e
            have hi : i < j := by have := (List.getElem?_eq_some_iff.1 e).1; have := h1.len; omega
            exact ⟨cp, by rw [cell_set_other (by omega)]; exact hcc, hcp⟩
          · have := (List.getElem?_eq_some_iff.1 e).1; have := h1.len; omega
          · have := (List.getElem?_eq_some_iff.1 e).1; have := h1.len; omega
        have ho2 := ho1.snoc (zs := atP zss j) (q := q) (cap := (atP zss j).length) (cell_set_same d) (Nat.le_refl _) (by omega) (by simpa [World.setCell] using hq) (by omega) (hnu.of_block (far _ _ _ _ (by omega))) (hrm.of_block (far _ _ _ _ (by omega))) (fun i hi e => by have := hown.lt i hi; omega)
        rw [← htk] at ho2
        exact ⟨⟨j + 1, _, by omega, by simp, (hbl.trans (b1.mono hbl.size)).setCell (p := ⟨w.heap.size, j, none⟩) (Nat.le_refl _) _, by simpa [World.setCell] using hsz1, (hro.below b1 hsz).set _, ho2⟩, by simp [intOf]; omega⟩
    · have : j = n := by omega
      subst this
      have hd : decide (j < j) = false := by simp
      rw [← hx, List.take_length, hx] at hown
      have K : Hid (OwnP wr w.heap.size w.heap.size j zss g) := hown
      clear hown hs hro
      go_wp2
      go_ret
      exact ⟨g, rfl, hbl, hsz, K.out⟩
set_option maxHeartbeats 1000000 in
theorem eqPlace_same (w : World) (a a' : Option Addr) (n cap cap' : Nat) (zs : List Int) (hn : n ≤ maxLen) (h1 : SlN w w.heap.size a n zs) (h2 : SlN w w.heap.size a' n zs) :
    Calls Try.prog 46 #[.agg #[.slice a n cap], .agg #[.slice a' n cap']] w fun e w' => e = .returned (.bool true) ∧ Below w.heap.size w w' := by
  go_enter Try.func46, Try.ntmps46
  go_wp2_with fail
  have b0 : Below w.heap.size w ((w.alloc (.cells #[.slice a n cap] 64)).alloc (.cells #[.slice a' n cap'] 64)) := ((Below.refl _ _).alloc (Nat.le_refl _) _).alloc (by simp) _
  refine (eqInt64S_any _ a a' n cap cap' zs hn (h1.later b0) (h2.later b0)).mono ?_
  rintro e w' ⟨rfl, b1⟩
  go_wp2
  go_ret
  exact ⟨rfl, b0.trans (b1.mono b0.size)⟩
set_option maxHeartbeats 2000000 in
theorem eqPlaceS_any (w : World) (a a' : Option Addr) (n cap cap' : Nat) (zss : List (List Int)) (hn : n ≤ maxLen) (hl : ∀ zs ∈ zss, zs.length ≤ maxLen) (h1 : SlP w w.heap.size a n zss) (h2 : SlP w w.heap.size a' n zss) :
    Calls Try.prog 17 #[.slice a n cap, .slice a' n cap'] w fun e w' => e = .returned (.bool true) ∧ Below w.heap.size w w' := by
  unfold maxLen at hn
  obtain ⟨hx, h1⟩ := h1
  obtain ⟨_, h2⟩ := h2
  go_enter Try.func17, Try.ntmps17
  go_wp2
  go_loopw [5] (fun i wr => ∃ k : Nat, k ≤ n ∧ i = .int .i64 k ∧ Below w.heap.size w wr) (fun i _ => n - (intOf i).toNat)
  case atStart => exact ⟨0, Nat.zero_le _, rfl, Below.refl _ _⟩
  case round =>
    obtain ⟨k, hk, rfl, hbl⟩ := hrel
    by_cases hlt : k < n
    · rcases h1 with h1 | ⟨b, off, rfl, hb, h1⟩
      · omega
      · rcases h2 with h2 | ⟨b', off', rfl, hb', h2⟩
        · omega
        · obtain ⟨a1, k1, d1, s1, _⟩ := h1 k _ (atP_of (by omega))
          obtain ⟨a2, k2, d2, s2, _⟩ := h2 k _ (atP_of (by omega))
          have hll := hl _ (List.mem_of_getElem? (atP_of (zss := zss) (i := k) (by omega)))
          have hbW : b < wr.heap.size := Nat.lt_of_lt_of_le hb hbl.size
          have hbW' : b' < wr.heap.size := Nat.lt_of_lt_of_le hb' hbl.size
          have e1 := (hbl.cell (p := ⟨b, off + k, none⟩) hb).trans d1
          have e2 := (hbl.cell (p := ⟨b', off' + k, none⟩) hb').trans d2
          have c1 : ∀ d os, (grow (redrawn wr d) os).cell? ⟨b, off + k, none⟩ = some (.slice a1 (atP zss k).length k1) := fun d os => ((below_regrown wr d os).cell (p := ⟨b, off + k, none⟩) hbW).trans e1
          have c2 : ∀ d os, (grow (redrawn wr d) os).cell? ⟨b', off' + k, none⟩ = some (.slice a2 (atP zss k).length k2) := fun d os => ((below_regrown wr d os).cell (p := ⟨b', off' + k, none⟩) hbW').trans e2
          have t1 : SlN wr wr.heap.size a1 (atP zss k).length (atP zss k) := (s1.below hbl).mono hbl.size
          have t2 : SlN wr wr.heap.size a2 (atP zss k).length (atP zss k) := (s2.below hbl).mono hbl.size
          have cQ : ∀ d os, Calls Try.prog 46 #[.agg #[.slice a1 (atP zss k).length k1], .agg #[.slice a2 (atP zss k).length k2]] (grow (redrawn wr d) os) fun e w'' => e = .returned (.bool true) ∧ ∃ p : Regrown, w'' = grow (redrawn wr p.d) p.os := fun d os => Calls.regrown_of (eqPlace_same _ a1 a2 _ k1 k2 (atP zss k) hll (t1.later (below_regrown wr d os)) (t2.later (below_regrown wr d os)))
          have K : Hid (Below w.heap.size w wr) := hbl
          clear t1 t2 hbl h1 h2 s1 s2 e1 e2 d1 d2 hl hll hx
          go_wp2_with fail
          refine wp_region_quiet_below (by kernel_rfl) (by kernel_rfl) ?_
          repeat (go_big_quiet_step (exact cQ _ _))
          refine wpQuiet_nil ?_
          intro _ hw'
          obtain ⟨⟨dq, osq⟩, hw''⟩ := hw'
          subst hw''
          have bq := below_regrown wr dq osq
          go_wp2
          exact ⟨⟨k + 1, by omega, by simp, K.out.trans (bq.mono K.out.size)⟩, by simp [intOf]; omega⟩
    · have : k = n := by omega
      subst this
      have hd : decide (k < k) = false := by simp
      clear h1 h2
      go_wp2
      go_ret
      exact ⟨rfl, hbl⟩
end Go.Proofs.Ytcbfnajpcaipkaa