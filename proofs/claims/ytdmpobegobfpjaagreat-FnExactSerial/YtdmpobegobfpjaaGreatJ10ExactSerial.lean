/- RpS; CapT; SerS; YNuD; YWanC; YWanA: joined. -/
import Derived.Test.YtdmpobegobfpjaaGreatRows
import Derived.Test.YtdmpobegobfpjaaGreatJ6ExactSerial
import Derived.Test.YtdmpobegobfpjaaGreatJ7ExactSerial
import Derived.Test.YtdmpobegobfpjaaGreatJ5ExactSerial
import Derived.Test.YtdmpobegobfpjaaGreatJ9ExactSerial
import Derived.WalkKit
import Derived.WalkSpells
import Derived.WalkLawsBesides
import Derived.Below
import Derived.Lib.QuietBelow
import Derived.BigQuiet
import Derived.Deep.CutRange
import Derived.LaidEql
import Derived.RowKitTokens
import Derived.Deep.Upon
import Derived.Deep.RegionWith
import Derived.Deep.QuietTactic
import Derived.Lib.SliceRun
import Derived.Test.YtdmpobegobfpjaaGreatJ2ExactSerial
namespace Go.Proofs.YtdmpobegobfpjaaGreat
open Go.RowKit
open Go.Sort (grow)
theorem clu_setP {k : C6} (h : clusterB k = true) {i : Nat} (hi : i < k.txs.length) {s : S5} (hs : s ∈ (atT k.txs i).sets) : 0 ≤ s.region ∧ s.region < (k.places.length : Int) := by
  have h1 := (clu_up h).2.1 i hi
  have h2 := (tx.txB_se h1).1 s hs
  simp only [clusterB, txsB, Bool.and_eq_true] at h
  have h3 := List.all_eq_true.1 h.2 i (List.mem_range.2 hi)
  simp only [txAtB, setsB, Bool.and_eq_true] at h3
  obtain ⟨j, hj, rfl⟩ := List.getElem_of_mem hs
  have h4 := List.all_eq_true.1 h3.2 j (List.mem_range.2 hj)
  simp only [tx.atSe, List.getElem?_eq_getElem hj, Option.getD_some, decide_eq_true_eq] at h4
  simp only [setOkB, Bool.and_eq_true, inB_iff] at h2
  exact ⟨h2.1.1.1.1, h4⟩
theorem clu_readP {k : C6} (h : clusterB k = true) {i : Nat} (hi : i < k.txs.length) {s : tx.N5} (hs : s ∈ (atT k.txs i).reads) : 0 ≤ s.region ∧ s.region < (k.places.length : Int) := by
  have h1 := (clu_up h).2.1 i hi
  have h2 := (tx.txB_no h1).1 s hs
  simp only [clusterB, txsB, Bool.and_eq_true] at h
  have h3 := List.all_eq_true.1 h.2 i (List.mem_range.2 hi)
  simp only [txAtB, readsB, Bool.and_eq_true] at h3
  obtain ⟨j, hj, rfl⟩ := List.getElem_of_mem hs
  have h4 := List.all_eq_true.1 h3.1.2 j (List.mem_range.2 hj)
  simp only [tx.atNo, List.getElem?_eq_getElem hj, Option.getD_some, decide_eq_true_eq] at h4
  simp only [tx.noteOkB, Bool.and_eq_true, inB_iff] at h2
  exact ⟨by omega, h4⟩
def rep0 (k : C6) : List (List C2) × Bool := repl k (List.replicate k.places.length zeros) (ordJ k k.txs.length)
def RAnsP (w : World) (k : C6) (e : Ending) (w' : World) : Prop := ∃ v gs, e = .returned (.tuple #[v, .bool (rep0 k).2]) ∧ All w' w.heap.size v gs (rep0 k).1 ∧ Below w.heap.size w w'
theorem All.up {W : World} {base base' : Nat} {v : Value} {gs : List (Nat × Nat)} {css : List (List C2)} (h : All W base' v gs css) (hb : base ≤ base') : All W base v gs css := by
  refine ⟨?_, h.len, fun r x xs hx hc => ?_, h.inj⟩
  · obtain ⟨h1, h2⟩ := h.row
    refine ⟨h1, h2.imp id ?_⟩
    rintro ⟨g, cap, cur, e, hg, r⟩
    exact ⟨g, cap, cur, e, Nat.le_trans hb hg, r⟩
  · obtain ⟨h1, h2⟩ := h.cs r x xs hx hc
    exact ⟨Nat.le_trans hb h1, h2⟩
set_option maxRecDepth 100000 in
set_option maxHeartbeats 16000000 in
theorem l13Replay_any (w : World) (a1 : Option Addr) (c1 : Nat) (a2 : Option Addr) (c2 : Nat) (a3 : Option Addr) (c3 : Nat) (k : C6) (tv : Nat → tx.TV) (hk : clusterB k = true) (hl : KCl.L k) (ht : k.txs = [] ∨ ∃ b off, a3 = some ⟨b, off, none⟩ ∧ b < w.heap.size ∧ AtX w b off ((List.range k.txs.length).map fun j => (tv j, atT k.txs j)) ∧ ∀ j, j < k.txs.length → tx.SlT w (tv j) (atT k.txs j)) (hcp : ∀ j, j < k.txs.length → (atT k.txs j).sets.length ≤ (tv j).ch) :
    Calls Tryz.prog 41 #[.agg #[.int .i64 k.config, .int .i64 k.clock, .slice a1 k.places.length c1, .slice a2 k.machines.length c2, .slice a3 k.txs.length c3, .bool k.lost]] w (RAnsP w k) := by
  have hn := (CSm.of hk).t
  have hp6 := (CSm.of hk).p
  obtain ⟨U, hU⟩ : ∃ Y, Y = w.alloc (.cells #[.int .i64 k.config, .int .i64 k.clock, .slice a1 k.places.length c1, .slice a2 k.machines.length c2, .slice a3 k.txs.length c3, .bool k.lost] 34) := ⟨_, rfl⟩
  have bU : Below w.heap.size w U := by rw [hU]; exact (Below.refl _ _).alloc (Nat.le_refl _) _
  have sU : U.heap.size = w.heap.size + 1 := by rw [hU]; simp
  have FA : Hid (Bx U w.heap.size [.int .i64 k.config, .int .i64 k.clock, .slice a1 k.places.length c1, .slice a2 k.machines.length c2, .slice a3 k.txs.length c3, .bool k.lost]) := by unfold Hid; rw [hU]; exact Bx.made w [.int .i64 k.config, .int .i64 k.clock, .slice a1 k.places.length c1, .slice a2 k.machines.length c2, .slice a3 k.txs.length c3, .bool k.lost] _
  obtain ⟨V, hV⟩ : ∃ Y, Y = U.alloc (.cells #[] 42) := ⟨_, rfl⟩
  have bV : Below U.heap.size U V := by rw [hV]; exact (Below.refl _ _).alloc (Nat.le_refl _) _
  have AV : Hid (All V (w.heap.size + 1) (.slice (some ⟨w.heap.size + 1, 0, none⟩) 0 0) [] []) := ⟨by rw [hV, ← sU]; exact RowC.made U, rfl, fun r x xs hx => by simp at hx, fun r r' x x' hx => by simp at hx⟩
  have BU := hidOf bU
  have BV := hidOf bV
  have HT := hidOf ht
  have HCP := hidOf hcp
  have SU := hidOf sU
  have HKL : Hid (clusterB k = true ∧ KCl.L k) := ⟨hk, hl⟩
  have hVV : V = (w.alloc (.cells #[.int .i64 k.config, .int .i64 k.clock, .slice a1 k.places.length c1, .slice a2 k.machines.length c2, .slice a3 k.txs.length c3, .bool k.lost] 34)).alloc (.cells #[] 42) := by rw [hV, hU]
  clear bU bV hU hV ht hl hk sU hcp
  go_enter Tryz.func41, Tryz.ntmps41
  go_wp2
  rw [← hVV]
  clear hVV
  go_loopw [4, 5] (fun v4 v5 wr => ∃ (r : Nat) (gs : List (Nat × Nat)), r ≤ k.places.length ∧ v5 = .int .i64 r ∧ gs.length = r ∧ All wr (w.heap.size + 1) v4 gs (List.replicate r zeros) ∧ Below U.heap.size U wr) (fun _ v5 _ => k.places.length - (intOf v5).toNat)
  case atStart => exact ⟨0, [], Nat.zero_le _, rfl, rfl, AV.out, BV.out⟩
  case round =>
    obtain ⟨r, gs, hr, rfl, hgl, hal, hbl⟩ := hrel
    obtain ⟨va, vc, rfl, hrow⟩ := hal.row.at
    have KD : Hid (All wr (w.heap.size + 1) (.slice va gs.length vc) gs (List.replicate r zeros) ∧ Below U.heap.size U wr ∧ gs.length = r) := ⟨hal, hbl, hgl⟩
    have q2 := (FA.out.later hbl).1 2 _ rfl
    clear hal hbl hgl hrow
    by_cases hlt : r < k.places.length
    · obtain ⟨v', W', run1, al1, b1⟩ := KD.out.1.push (by have := KD.out.2.1.size; have := SU.out; omega) (by have := KD.out.2.2; omega) 65
      have KE : Hid (All W' (w.heap.size + 1) v' (gs ++ [(wr.heap.size, 6)]) (List.replicate (r + 1) zeros) ∧ Below U.heap.size U W' ∧ (gs ++ [(wr.heap.size, 6)]).length = r + 1) := by
        refine ⟨by rw [List.replicate_succ']; exact al1, ?_, by rw [List.length_append, KD.out.2.2]; rfl⟩
        have hs := SU.out
        rw [← hs] at b1
        exact KD.out.2.1.trans b1
      have jr : (r : Int) < (k.places.length : Int) := by omega
      have hnc := specNewCells_any wr
      have hgl := KD.out.2.2
      rw [hgl] at run1
      rw [hgl]
      clear al1 b1 hgl
      go_wp2_with fail
      refine hnc.mono ?_
      clear hnc q2
      rintro e w1 ⟨rfl, rfl⟩
      go_wp2_with (at_builtin; refine append_known _ rfl (.tmp 23) (.tmp 25) 65 rfl _ _ _ _ rfl rfl run1 ?_)
      exact ⟨⟨r + 1, gs ++ [(wr.heap.size, 6)], by omega, by simp, KE.out.2.2, KE.out.1, KE.out.2.1⟩, by simp [intOf]; omega⟩
    · obtain rfl : r = k.places.length := by omega
      have hd : decide ((k.places.length : Int) < (k.places.length : Int)) = false := by simp
      have hord := l13Order_any wr a1 c1 a2 c2 a3 c3 k tv HKL.out.1 HKL.out.2 (HT.out.imp id (fun ⟨b, off, e, h1, h2, h3⟩ => ⟨b, off, e, Nat.lt_of_lt_of_le h1 (bstep BU.out KD.out.2.1).size, h2.below (bstep BU.out KD.out.2.1) h1, fun j hj => (h3 j hj).later (bstep BU.out KD.out.2.1)⟩))
      have p0 := (FA.out.later KD.out.2.1).1 0 _ rfl
      have p1 := (FA.out.later KD.out.2.1).1 1 _ rfl
      have p3 := (FA.out.later KD.out.2.1).1 3 _ rfl
      have p4 := (FA.out.later KD.out.2.1).1 4 _ rfl
      have p5 := (FA.out.later KD.out.2.1).1 5 _ rfl
      go_wp2_with fail
      refine hord.mono ?_
      clear hord p0 p1 q2 p3 p4 p5 hd
      rintro e W2 ⟨lb, lc, rfl, hrx, b2⟩
      have hat := RowX.at hrx
      have KL : Hid (AtX W2 lb 0 (ordX k tv k.txs.length) ∧ lb < W2.heap.size ∧ wr.heap.size ≤ lb) := ⟨hat.1, hat.2.2.1, hat.2.1⟩
      have KA : Hid (All W2 (w.heap.size + 1) (.slice va gs.length vc) gs (List.replicate k.places.length zeros) ∧ Below U.heap.size U W2) := ⟨KD.out.1.later b2, bstep KD.out.2.1 b2⟩
      have KG : Hid (gs.length = k.places.length ∧ ∀ (r : Nat) (x : Nat × Nat), gs[r]? = some x → x.1 < wr.heap.size) := ⟨KD.out.2.2, fun r x hx => by
        obtain ⟨xs, hxs⟩ : ∃ xs, (List.replicate k.places.length zeros)[r]? = some xs := ⟨_, List.getElem?_eq_getElem (by rw [KD.out.1.len]; exact (List.getElem?_eq_some_iff.1 hx).1)⟩
        exact (KD.out.1.cs r x xs hx hxs).2.1⟩
      clear hrx hat b2 KD
      generalize wr = wO at *
      obtain ⟨ab, rfl⟩ : ∃ ab, va = some ⟨ab, 0, none⟩ := by
        obtain ⟨a', c', e', hat'⟩ := KA.out.1.row.at
        cases e'
        have hp1 : 0 < k.places.length := by
          have := HKL.out.1
          simp only [clusterB, placesB, Bool.and_eq_true, decide_eq_true_eq] at this
          omega
        obtain ⟨x0, hx0⟩ : ∃ x, gs[0]? = some x := ⟨_, List.getElem?_eq_getElem (by rw [KG.out.1]; exact hp1)⟩
        obtain ⟨ab, ea, _⟩ := hat' 0 x0 hx0
        exact ⟨ab, ea⟩
      obtain ⟨js, hjs⟩ : ∃ js, ordJ k k.txs.length = js := ⟨_, rfl⟩
      have HJS : Hid (ordX k tv k.txs.length = js.map (fun j => (tv j, atT k.txs j)) ∧ (∀ j ∈ js, j < k.txs.length) ∧ js.length ≤ 60 ∧ (ordX k tv k.txs.length).length = js.length ∧ repl k (List.replicate k.places.length zeros) js = rep0 k) := ⟨by rw [ordX, hjs], fun j hj => ordJ_lt k _ j (by rw [hjs]; exact hj), by rw [← hjs]; exact Nat.le_trans (ordJ_len k _) hn, by rw [ordX_len, hjs], by rw [rep0, hjs]⟩
      have hln := HJS.out.2.2.2.1
      rw [hln]
      clear hjs hln
      go_wp2
      go_loopw [7] (fun v7 wr => ∃ (i : Nat) (css : List (List C2)), i ≤ js.length ∧ v7 = .int .i64 i ∧ All wr (w.heap.size + 1) (.slice (some ⟨ab, 0, none⟩) gs.length vc) gs css ∧ repl k css (js.drop i) = rep0 k ∧ AtX wr lb 0 (ordX k tv k.txs.length) ∧ lb < wr.heap.size ∧ Below U.heap.size U wr) (fun v7 _ => js.length - (intOf v7).toNat)
      case atStart => exact ⟨0, _, Nat.zero_le _, rfl, KA.out.1, by rw [List.drop_zero]; exact HJS.out.2.2.2.2, KL.out.1, KL.out.2.1, KA.out.2⟩
      case round =>
        obtain ⟨i, css, hi, rfl, hal, hrp, hax, hlb, hbl⟩ := hrel
        have KI : Hid (All wr (w.heap.size + 1) (.slice (some ⟨ab, 0, none⟩) gs.length vc) gs css ∧ repl k css (js.drop i) = rep0 k ∧ AtX wr lb 0 (ordX k tv k.txs.length) ∧ lb < wr.heap.size ∧ Below U.heap.size U wr) := ⟨hal, hrp, hax, hlb, hbl⟩
        clear hal hrp hax hlb hbl
        by_cases hil : i < js.length
        · obtain ⟨j, hj⟩ : ∃ j, js[i]? = some j := ⟨_, List.getElem?_eq_getElem hil⟩
          have hjl : j < k.txs.length := HJS.out.2.1 j (List.mem_of_getElem? hj)
          have hx := KI.out.2.2.1 i (tv j, atT k.txs j) (by rw [HJS.out.1, List.getElem?_map, hj]; rfl)
          have hsl : tx.SlT w (tv j) (atT k.txs j) := by
            rcases HT.out with e0 | ⟨_, _, _, _, _, h3⟩
            · rw [e0] at hjl; simp at hjl
            · exact h3 j hjl
          have hdr : js.drop i = j :: js.drop (i + 1) := by rw [List.drop_eq_getElem_cons hil]; congr 1; rw [List.getElem?_eq_getElem hil] at hj; exact Option.some.inj hj
          have hTB := (clu_up HKL.out.1).2.1 j hjl
          have HRD : Hid (∀ s ∈ (atT k.txs j).reads, (0 ≤ s.region ∧ s.region < (k.places.length : Int)) ∧ 0 ≤ s.slot ∧ s.slot ≤ 5) := fun s hs => ⟨clu_readP HKL.out.1 hjl hs, by have := (tx.txB_no hTB).1 s hs; simp only [tx.noteOkB, Bool.and_eq_true, inB_iff] at this; omega⟩
          have HST : Hid (∀ s ∈ (atT k.txs j).sets, (0 ≤ s.region ∧ s.region < (k.places.length : Int)) ∧ 0 ≤ s.slot ∧ s.slot ≤ 5 ∧ 0 ≤ s.version ∧ s.version < 1000000) := fun s hs => ⟨clu_setP HKL.out.1 hjl hs, by have := (tx.txB_se hTB).1 s hs; simp only [setOkB, Bool.and_eq_true, inB_iff] at this; omega⟩
          have HLN : Hid ((atT k.txs j).reads.length ≤ 12 ∧ (atT k.txs j).sets.length ≤ 12) := (CSm.of HKL.out.1).ts _ (List.mem_of_getElem? (atT_of hjl))
          have HRP : Hid (rep0 k = if ((atT k.txs j).reads.all (rdOk css) && (atT k.txs j).sets.all (stOk css)) = true then repl k ((atT k.txs j).sets.foldl insA css) (js.drop (i + 1)) else (css, false)) := by unfold Hid; rw [← KI.out.2.1, hdr, repl]
          have HSL := hidOf hsl
          obtain ⟨t, htj⟩ : ∃ t, atT k.txs j = t := ⟨_, rfl⟩
          have HCJ : Hid ((atT k.txs j).sets.length ≤ (tv j).ch) := HCP.out j hjl
          rw [htj] at hx HRD HST HLN HRP HSL HCJ
          clear hTB hsl hdr hjl hj htj
          have g0 : wr.cell? ⟨lb, i * 7, none⟩ = some (.int .i64 t.id) := by have := hx 0 _ rfl; rwa [Nat.zero_add, Nat.add_zero] at this
          have g1 : wr.cell? ⟨lb, i * 7 + 1, none⟩ = some (.int .i64 t.home) := by have := hx 1 _ rfl; rwa [Nat.zero_add] at this
          have g2 : wr.cell? ⟨lb, i * 7 + 2, none⟩ = some (.int .i64 t.phase) := by have := hx 2 _ rfl; rwa [Nat.zero_add] at this
          have g3 : wr.cell? ⟨lb, i * 7 + 3, none⟩ = some (.int .i64 t.count) := by have := hx 3 _ rfl; rwa [Nat.zero_add] at this
          have g4 : wr.cell? ⟨lb, i * 7 + 4, none⟩ = some (.slice (tv j).ar t.reads.length (tv j).cr) := by have := hx 4 _ rfl; rwa [Nat.zero_add] at this
          have g5 : wr.cell? ⟨lb, i * 7 + 5, none⟩ = some (.slice (tv j).ah t.sets.length (tv j).ch) := by have := hx 5 _ rfl; rwa [Nat.zero_add] at this
          have g6 : wr.cell? ⟨lb, i * 7 + 6, none⟩ = some (.int .i64 t.stamp) := by have := hx 6 _ rfl; rwa [Nat.zero_add] at this
          obtain ⟨X, hX⟩ : ∃ Y, Y = wr.alloc (.cells #[.int .i64 t.id, .int .i64 t.home, .int .i64 t.phase, .int .i64 t.count, .slice (tv j).ar t.reads.length (tv j).cr, .slice (tv j).ah t.sets.length (tv j).ch, .int .i64 t.stamp] 55) := ⟨_, rfl⟩
          have bX : Below wr.heap.size wr X := by rw [hX]; exact (Below.refl _ _).alloc (Nat.le_refl _) _
          have XT : Hid (Bx X wr.heap.size [.int .i64 t.id, .int .i64 t.home, .int .i64 t.phase, .int .i64 t.count, .slice (tv j).ar t.reads.length (tv j).cr, .slice (tv j).ah t.sets.length (tv j).ch, .int .i64 t.stamp]) := by unfold Hid; rw [hX]; exact Bx.made wr [.int .i64 t.id, .int .i64 t.home, .int .i64 t.phase, .int .i64 t.count, .slice (tv j).ar t.reads.length (tv j).cr, .slice (tv j).ah t.sets.length (tv j).ch, .int .i64 t.stamp] _
          have KX : Hid (All X (w.heap.size + 1) (.slice (some ⟨ab, 0, none⟩) gs.length vc) gs css ∧ AtX X lb 0 (ordX k tv k.txs.length) ∧ lb < X.heap.size ∧ Below U.heap.size U X) := ⟨KI.out.1.later bX, KI.out.2.2.1.below bX KI.out.2.2.2.1, Nat.lt_of_lt_of_le KI.out.2.2.2.1 bX.size, bstep KI.out.2.2.2.2 bX⟩
          have jn : (i : Int) < (js.length : Int) := by omega
          have HGT : Hid (∀ (r : Nat) (x : Nat × Nat), gs[r]? = some x → x.1 < wr.heap.size ∧ x.1 < lb) := fun r x hx => by
            have h1 := KG.out.2 r x hx
            have h2 := KL.out.2.2
            have h3 := KI.out.2.2.2.1
            omega
          clear hx bX KI
          go_wp2
          rw [← hX]
          clear hX g0 g1 g2 g3 g4 g5 g6 jn
          generalize wr.heap.size = sT at *
          have HALL : Hid (∀ W, Below X.heap.size X W → ∀ (rn sn : Nat), (rn : Int) < (k.places.length : Int) → sn < 6 → ∃ (gb cg : Nat) (cc : C2), (W.cell? ⟨ab, rn, none⟩ = some (.slice (some ⟨gb, 0, none⟩) 6 cg) ∧ ab < W.heap.size ∧ W.cell? ⟨gb, sn * 2, none⟩ = some (.int .i64 cc.head) ∧ W.cell? ⟨gb, sn * 2 + 1, none⟩ = some (.int .i64 cc.value) ∧ gb < W.heap.size) ∧ atCC css (rn : Int) (sn : Int) = cc) := fun W hW rn sn hrn hsn => by
            have hA := KX.out.1.later hW
            obtain ⟨a', c', e', hat⟩ := hA.row.at
            cases e'
            have hrl : rn < gs.length := by rw [KG.out.1]; omega
            obtain ⟨x, hx⟩ : ∃ x, gs[rn]? = some x := ⟨_, List.getElem?_eq_getElem hrl⟩
            obtain ⟨ab', ea, hab, hca⟩ := hat rn x hx
            cases ea
            obtain ⟨xs, hxs⟩ : ∃ xs, css[rn]? = some xs := ⟨_, List.getElem?_eq_getElem (by rw [hA.len]; exact hrl)⟩
            obtain ⟨_, h2, h3, _, h5, _⟩ := hA.cs rn x xs hx hxs
            have hc := h3 sn _ (atC2_of (by rw [h5]; exact hsn))
            refine ⟨x.1, x.2, atC2 xs sn, ⟨hca, hab, ?_, ?_, h2⟩, ?_⟩
            · have := hc.c0; rwa [Nat.zero_add] at this
            · have := hc.c1; rwa [Nat.zero_add] at this
            · rw [atCC, Int.toNat_natCast, Int.toNat_natCast, hxs]; rfl
          go_loopw [9] (fun v9 wr => ∃ q : Nat, q ≤ t.reads.length ∧ v9 = .int .i64 q ∧ Below X.heap.size X wr ∧ ∀ i, i < q → rdOk css (tx.atNo t.reads i) = true) (fun v9 _ => t.reads.length - (intOf v9).toNat)
          case atStart => exact ⟨0, Nat.zero_le _, rfl, Below.refl _ _, fun i hi => absurd hi (by omega)⟩
          case round =>
            obtain ⟨q, hq, rfl, hbq, hallq⟩ := hrel
            have KQ : Hid (Below X.heap.size X wr ∧ ∀ i, i < q → rdOk css (tx.atNo t.reads i) = true) := ⟨hbq, hallq⟩
            clear hbq hallq
            have z4 := (XT.out.later KQ.out.1).1 4 _ rfl
            have hl12 := HLN.out.1
            by_cases hql : q < t.reads.length
            · obtain ⟨_, hrs⟩ := HSL.out.r
              rcases hrs with hrs | ⟨nb, no, hna, hnb, hns⟩
              · omega
              rw [hna] at z4
              clear hna
              have hnt := hns q _ (tx.atNo_of hql)
              have hmem := HRD.out _ (List.mem_of_getElem? (tx.atNo_of hql))
              obtain ⟨nt, hnte⟩ : ∃ nt, tx.atNo t.reads q = nt := ⟨_, rfl⟩
              rw [hnte] at hnt hmem
              obtain ⟨rn, hrn⟩ := Int.eq_ofNat_of_zero_le hmem.1.1
              obtain ⟨sn, hsn⟩ := Int.eq_ofNat_of_zero_le hmem.2.1
              have bww : Below w.heap.size w wr := bstep BU.out (bstep KX.out.2.2.2 KQ.out.1)
              have d0 : wr.cell? ⟨nb, no + q * 5, none⟩ = some (.int .i64 (rn : Int)) := (bww.cell (p := ⟨nb, no + q * 5, none⟩) hnb).trans (by rw [← hrn]; exact hnt.c0)
              have d1 : wr.cell? ⟨nb, no + q * 5 + 1, none⟩ = some (.int .i64 (sn : Int)) := (bww.cell (p := ⟨nb, no + q * 5 + 1, none⟩) hnb).trans (by rw [← hsn]; exact hnt.c1)
              have d2 : wr.cell? ⟨nb, no + q * 5 + 2, none⟩ = some (.int .i64 nt.version) := (bww.cell (p := ⟨nb, no + q * 5 + 2, none⟩) hnb).trans hnt.c2
              have d3 : wr.cell? ⟨nb, no + q * 5 + 3, none⟩ = some (.int .i64 nt.value) := (bww.cell (p := ⟨nb, no + q * 5 + 3, none⟩) hnb).trans hnt.c3
              have d4 : wr.cell? ⟨nb, no + q * 5 + 4, none⟩ = some (.bool nt.used) := (bww.cell (p := ⟨nb, no + q * 5 + 4, none⟩) hnb).trans hnt.c4
              obtain ⟨Z, hZ⟩ : ∃ Y, Y = wr.alloc (.cells #[.int .i64 (rn : Int), .int .i64 (sn : Int), .int .i64 nt.version, .int .i64 nt.value, .bool nt.used] 104) := ⟨_, rfl⟩
              have bZ : Below wr.heap.size wr Z := by rw [hZ]; exact (Below.refl _ _).alloc (Nat.le_refl _) _
              have NB : Hid (Bx Z wr.heap.size [.int .i64 (rn : Int), .int .i64 (sn : Int), .int .i64 nt.version, .int .i64 nt.value, .bool nt.used]) := by unfold Hid; rw [hZ]; exact Bx.made wr [.int .i64 (rn : Int), .int .i64 (sn : Int), .int .i64 nt.version, .int .i64 nt.value, .bool nt.used] _
              have BZ : Hid (Below X.heap.size X Z) := bstep KQ.out.1 bZ
              have hsn6 : sn < 6 := by omega
              have hrnp : (rn : Int) < (k.places.length : Int) := by omega
              obtain ⟨gb, cg, cc, hac, hcc⟩ := HALL.out Z BZ.out rn sn hrnp hsn6
              have HAC := hidOf hac
              have HRO : Hid (rdOk css (tx.atNo t.reads q) = ((verV cc.head == nt.version) && (cc.value == nt.value) && (usedV cc.head == nt.used))) := by unfold Hid; rw [hnte, rdOk, hrn, hsn, hcc]
              have rg : (rn : Int) < (gs.length : Int) := by rw [KG.out.1]; exact hrnp
              have s6 : (sn : Int) < 6 := by omega
              have jq : (q : Int) < (t.reads.length : Int) := by omega
              clear hac hcc hnt hmem hrn hsn bww hnte hns bZ
              go_wp2_with fail
              rw [← hZ]
              clear hZ d0 d1 d2 d3 d4 z4
              generalize wr.heap.size = sN at *
              refine wp_region_until 10 (fun X : World => Below Z.heap.size Z X) (by kernel_rfl) ?_
              have hSX : (fun X : World => Below Z.heap.size Z X) Z.drew := (Below.refl _ _).drew
              have KS := hidOf hSX
              generalize Z.drew = XD at *
              refine wpUntil_take (i := 0) (v := ?_) rfl (by kernel_rfl) (fun _ _ _ h => h) (Or.inl ⟨by rfl, ?_⟩) hSX ?_
              rotate_left
              · (intro w hSw; go_simp; first | done | with_reducible rfl | rfl | (rw [if_pos (by omega)]))
              simp only [Act.put]
              refine wpUntil_take (i := 1) (v := ?_) rfl (by kernel_rfl) (fun _ _ _ h => h) (Or.inl ⟨by rfl, ?_⟩) hSX ?_
              rotate_left
              · (intro w hSw; go_simp; first | done | with_reducible rfl | rfl | (rw [if_pos (by omega)]))
              simp only [Act.put]
              refine wpUntil_take (i := 2) (v := ?_) rfl (by kernel_rfl) (fun _ _ _ h => h) (Or.inl ⟨by rfl, ?_⟩) hSX ?_
              rotate_left
              · (intro w hSw; have q := (NB.out.later hSw).1 0 _ rfl; go_simp; first | done | with_reducible rfl | rfl | (rw [if_pos (by omega)]))
              simp only [Act.put]
              refine wpUntil_take (i := 3) (v := ?_) rfl (by kernel_rfl) (fun _ _ _ h => h) (Or.inl ⟨by rfl, ?_⟩) hSX ?_
              rotate_left
              · (intro w hSw; go_simp; first | done | with_reducible rfl | rfl | (rw [if_pos (by omega)]))
              simp only [Act.put]
              refine wpUntil_take (i := 4) (v := ?_) rfl (by kernel_rfl) (fun _ _ _ h => h) (Or.inl ⟨by rfl, ?_⟩) hSX ?_
              rotate_left
              · (intro w hSw; have q := (hSw.cell (p := ⟨ab, rn, none⟩) HAC.out.2.1).trans HAC.out.1; go_simp; first | done | with_reducible rfl | rfl | (rw [if_pos (by omega)]))
              simp only [Act.put]
              refine wpUntil_take (i := 5) (v := ?_) rfl (by kernel_rfl) (fun _ _ _ h => h) (Or.inl ⟨by rfl, ?_⟩) hSX ?_
              rotate_left
              · (intro w hSw; go_simp; first | done | with_reducible rfl | rfl | (rw [if_pos (by omega)]))
              simp only [Act.put]
              refine wpUntil_take (i := 6) (v := ?_) rfl (by kernel_rfl) (fun _ _ _ h => h) (Or.inl ⟨by rfl, ?_⟩) hSX ?_
              rotate_left
              · (intro w hSw; have q := (NB.out.later hSw).1 1 _ rfl; go_simp; first | done | with_reducible rfl | rfl | (rw [if_pos (by omega)]))
              simp only [Act.put]
              refine wpUntil_take (i := 7) (v := ?_) rfl (by kernel_rfl) (fun _ _ _ h => h) (Or.inl ⟨by rfl, ?_⟩) hSX ?_
              rotate_left
              · (intro w hSw; go_simp; first | done | with_reducible rfl | rfl | (rw [if_pos (by omega)]))
              simp only [Act.put]
              refine wpUntil_take (i := 8) (v := ?_) rfl (by kernel_rfl) (fun _ _ _ h => h) (Or.inl ⟨by rfl, ?_⟩) hSX ?_
              rotate_left
              · (intro w hSw; have q0 := (hSw.cell (p := ⟨gb, sn * 2, none⟩) HAC.out.2.2.2.2).trans HAC.out.2.2.1; have q1 := (hSw.cell (p := ⟨gb, sn * 2 + 1, none⟩) HAC.out.2.2.2.2).trans HAC.out.2.2.2.1; go_simp; first | done | with_reducible rfl | rfl | (rw [if_pos (by omega)]))
              simp only [Act.put]
              refine wpUntil_ready (rs := [9]) (by kernel_rfl) (by simp) ?_
              refine AllU.cons rfl (fun K hK => ?_) AllU.nil
              obtain ⟨Y, hY⟩ : ∃ Y, Y = XD.alloc (.cells #[.int .i64 0, .int .i64 0] 75) := ⟨_, rfl⟩
              have bY : Below XD.heap.size XD Y := by rw [hY]; exact (Below.refl _ _).alloc (Nat.le_refl _) _
              have xY : Bx Y XD.heap.size [.int .i64 0, .int .i64 0] := by rw [hY]; exact Bx.made XD [.int .i64 0, .int .i64 0] _
              have hSY : (fun X : World => Below Z.heap.size Z X) Y := bstep hSX bY
              have y0 := xY.1 0 _ rfl
              have y1 := xY.1 1 _ rfl
              have f0 := xY.2.1 0
              have f1 := xY.2.1 1
              obtain ⟨VC, hVC⟩ : ∃ V, V = putB Y XD.heap.size 0 [.int .i64 cc.head, .int .i64 cc.value] := ⟨_, rfl⟩
              have KVC : Hid (Bx VC XD.heap.size [.int .i64 cc.head, .int .i64 cc.value] ∧ Below Z.heap.size Z VC) := by
                rw [hVC]
                exact ⟨xY.put [.int .i64 cc.head, .int .i64 cc.value] rfl, putB_below (w := Z) KS.out.size [.int .i64 cc.head, .int .i64 cc.value] Y 0 hSY⟩
              simp only [putB] at hVC
              go_simp
              rw [← hY]
              refine hK.out _ _ (fun _ => hSY) ?_
              clear hK K hSX bY xY hY
              refine wpUntil_ready (rs := [10]) (by kernel_rfl) (by simp) ?_
              refine AllU.cons rfl (fun K hK => ?_) AllU.nil
              go_simp
              rw [← hVC]
              refine hK.out _ _ (fun h => absurd rfl h) ?_
              clear hK K hSY y0 y1 f0 f1 hVC KS
              refine wpUntil_done (by kernel_rfl) ?_ _
              generalize XD.heap.size = sC at *
              have x0 : ∀ dd os, (grow (redrawn VC dd) os).cell? ⟨sC, 0, none⟩ = some (.int .i64 cc.head) := fun dd os => ((below_regrown VC dd os).cell (p := ⟨sC, 0, none⟩) KVC.out.1.2.2).trans (KVC.out.1.1 0 _ rfl)
              have x1 : ∀ dd os, (grow (redrawn VC dd) os).cell? ⟨sC, 1, none⟩ = some (.int .i64 cc.value) := fun dd os => ((below_regrown VC dd os).cell (p := ⟨sC, 1, none⟩) KVC.out.1.2.2).trans (KVC.out.1.1 1 _ rfl)
              have n2 : ∀ dd os, (grow (redrawn VC dd) os).cell? ⟨sN, 2, none⟩ = some (.int .i64 nt.version) := fun dd os => (NB.out.later (bstep KVC.out.2 (below_regrown VC dd os))).1 2 _ rfl
              have n3 : ∀ dd os, (grow (redrawn VC dd) os).cell? ⟨sN, 3, none⟩ = some (.int .i64 nt.value) := fun dd os => (NB.out.later (bstep KVC.out.2 (below_regrown VC dd os))).1 3 _ rfl
              have n4 : ∀ dd os, (grow (redrawn VC dd) os).cell? ⟨sN, 4, none⟩ = some (.bool nt.used) := fun dd os => (NB.out.later (bstep KVC.out.2 (below_regrown VC dd os))).1 4 _ rfl
              have cQ1 : ∀ dd os, Calls Tryz.prog 80 #[.int .i64 cc.head] (grow (redrawn VC dd) os) fun e w'' => e = .returned (.int .i64 (verV cc.head)) ∧ ∃ p : Regrown, w'' = grow (redrawn VC p.d) p.os := fun dd os => (specVersion_any cc.head (grow (redrawn VC dd) os)).mono fun e w'' h => ⟨h.1, ⟨⟨dd, os⟩, h.2⟩⟩
              have cQ2 : ∀ dd os, Calls Tryz.prog 81 #[.int .i64 cc.head] (grow (redrawn VC dd) os) fun e w'' => e = .returned (.bool (usedV cc.head)) ∧ ∃ p : Regrown, w'' = grow (redrawn VC p.d) p.os := fun dd os => (specUsed_any cc.head (grow (redrawn VC dd) os)).mono fun e w'' h => ⟨h.1, ⟨⟨dd, os⟩, h.2⟩⟩
              generalize verV cc.head = vv at *
              generalize usedV cc.head = uu at *
              cases k1 : (vv == nt.version) with
              | false =>
                have m1 : (vv != nt.version) = true := by simp only [bne, k1]; rfl
                go_wp2_with fail
                refine wp_region_quiet_below (by kernel_rfl) (by kernel_rfl) ?_
                repeat (go_big_quiet_step (first | exact cQ1 _ _ | exact cQ2 _ _))
                refine wpQuiet_nil ?_
                intro _ hw'
                obtain ⟨⟨dq, osq⟩, hw''⟩ := hw'
                subst hw''
                have KN : Hid (Below X.heap.size X (grow (redrawn VC dq) osq)) := bstep (bstep BZ.out KVC.out.2) (below_regrown VC dq osq)
                clear x0 x1 n2 n3 n4 cQ1 cQ2
                generalize grow (redrawn VC dq) osq = WN at *
                have HE : Hid (rep0 k = (css, false)) := by
                  unfold Hid
                  rw [HRP.out, if_neg (fun h => by
                    rw [Bool.and_eq_true] at h
                    have := List.all_eq_true.1 h.1 _ (List.mem_of_getElem? (tx.atNo_of hql))
                    rw [HRO.out] at this
                    simp [k1] at this)]
                go_wp2
                refine bodyPost_ret (v := .tuple #[.slice (some ⟨ab, 0, none⟩) gs.length vc, .bool false]) (by simp [results, Tryz.results41, go_sem]) rfl ?_
                unfold RAnsP
                rw [HE.out]
                exact ⟨_, gs, rfl, (KX.out.1.later KN.out).up (by omega), bstep BU.out (bstep KX.out.2.2.2 KN.out)⟩
              | true =>
                have m1 : (vv != nt.version) = false := by simp only [bne, k1]; rfl
                cases k2 : (cc.value == nt.value) with
                | false =>
                  have m2 : (cc.value != nt.value) = true := by simp only [bne, k2]; rfl
                  go_wp2_with fail
                  refine wp_region_quiet_below (by kernel_rfl) (by kernel_rfl) ?_
                  repeat (go_big_quiet_step (first | exact cQ1 _ _ | exact cQ2 _ _))
                  refine wpQuiet_nil ?_
                  intro _ hw'
                  obtain ⟨⟨dq, osq⟩, hw''⟩ := hw'
                  subst hw''
                  have KN : Hid (Below X.heap.size X (grow (redrawn VC dq) osq)) := bstep (bstep BZ.out KVC.out.2) (below_regrown VC dq osq)
                  clear x0 x1 n2 n3 n4 cQ1 cQ2
                  generalize grow (redrawn VC dq) osq = WN at *
                  have HE : Hid (rep0 k = (css, false)) := by
                    unfold Hid
                    rw [HRP.out, if_neg (fun h => by
                      rw [Bool.and_eq_true] at h
                      have := List.all_eq_true.1 h.1 _ (List.mem_of_getElem? (tx.atNo_of hql))
                      rw [HRO.out] at this
                      simp [k1, k2] at this)]
                  go_wp2
                  refine bodyPost_ret (v := .tuple #[.slice (some ⟨ab, 0, none⟩) gs.length vc, .bool false]) (by simp [results, Tryz.results41, go_sem]) rfl ?_
                  unfold RAnsP
                  rw [HE.out]
                  exact ⟨_, gs, rfl, (KX.out.1.later KN.out).up (by omega), bstep BU.out (bstep KX.out.2.2.2 KN.out)⟩
                | true =>
                  have m2 : (cc.value != nt.value) = false := by simp only [bne, k2]; rfl
                  obtain ⟨us, hus⟩ : ∃ b, nt.used = b := ⟨_, rfl⟩
                  rw [hus] at n4 HRO
                  clear hus
                  cases uu <;> cases us
                  · go_wp2_with fail
                    refine wp_region_quiet_below (by kernel_rfl) (by kernel_rfl) ?_
                    repeat (go_big_quiet_step (first | exact cQ1 _ _ | exact cQ2 _ _))
                    refine wpQuiet_nil ?_
                    intro _ hw'
                    obtain ⟨⟨dq, osq⟩, hw''⟩ := hw'
                    subst hw''
                    have KN : Hid (Below X.heap.size X (grow (redrawn VC dq) osq)) := bstep (bstep BZ.out KVC.out.2) (below_regrown VC dq osq)
                    clear x0 x1 n2 n3 n4 cQ1 cQ2
                    generalize grow (redrawn VC dq) osq = WN at *
                    have HN : Hid (∀ i, i < q + 1 → rdOk css (tx.atNo t.reads i) = true) := fun i hi => by
                      by_cases e : i = q
                      · rw [e, HRO.out]; simp [k1, k2]
                      · exact KQ.out.2 i (by omega)
                    go_wp2
                    exact ⟨⟨q + 1, by omega, by simp, KN.out, HN.out⟩, by simp [intOf]; omega⟩
                  · go_wp2_with fail
                    refine wp_region_quiet_below (by kernel_rfl) (by kernel_rfl) ?_
                    repeat (go_big_quiet_step (first | exact cQ1 _ _ | exact cQ2 _ _))
                    refine wpQuiet_nil ?_
                    intro _ hw'
                    obtain ⟨⟨dq, osq⟩, hw''⟩ := hw'
                    subst hw''
                    have KN : Hid (Below X.heap.size X (grow (redrawn VC dq) osq)) := bstep (bstep BZ.out KVC.out.2) (below_regrown VC dq osq)
                    clear x0 x1 n2 n3 n4 cQ1 cQ2
                    generalize grow (redrawn VC dq) osq = WN at *
                    have HE : Hid (rep0 k = (css, false)) := by
                      unfold Hid
                      rw [HRP.out, if_neg (fun h => by
                        rw [Bool.and_eq_true] at h
                        have := List.all_eq_true.1 h.1 _ (List.mem_of_getElem? (tx.atNo_of hql))
                        rw [HRO.out] at this
                        simp [k1, k2] at this)]
                    go_wp2
                    refine bodyPost_ret (v := .tuple #[.slice (some ⟨ab, 0, none⟩) gs.length vc, .bool false]) (by simp [results, Tryz.results41, go_sem]) rfl ?_
                    unfold RAnsP
                    rw [HE.out]
                    exact ⟨_, gs, rfl, (KX.out.1.later KN.out).up (by omega), bstep BU.out (bstep KX.out.2.2.2 KN.out)⟩
                  · go_wp2_with fail
                    refine wp_region_quiet_below (by kernel_rfl) (by kernel_rfl) ?_
                    repeat (go_big_quiet_step (first | exact cQ1 _ _ | exact cQ2 _ _))
                    refine wpQuiet_nil ?_
                    intro _ hw'
                    obtain ⟨⟨dq, osq⟩, hw''⟩ := hw'
                    subst hw''
                    have KN : Hid (Below X.heap.size X (grow (redrawn VC dq) osq)) := bstep (bstep BZ.out KVC.out.2) (below_regrown VC dq osq)
                    clear x0 x1 n2 n3 n4 cQ1 cQ2
                    generalize grow (redrawn VC dq) osq = WN at *
                    have HE : Hid (rep0 k = (css, false)) := by
                      unfold Hid
                      rw [HRP.out, if_neg (fun h => by
                        rw [Bool.and_eq_true] at h
                        have := List.all_eq_true.1 h.1 _ (List.mem_of_getElem? (tx.atNo_of hql))
                        rw [HRO.out] at this
                        simp [k1, k2] at this)]
                    go_wp2
                    refine bodyPost_ret (v := .tuple #[.slice (some ⟨ab, 0, none⟩) gs.length vc, .bool false]) (by simp [results, Tryz.results41, go_sem]) rfl ?_
                    unfold RAnsP
                    rw [HE.out]
                    exact ⟨_, gs, rfl, (KX.out.1.later KN.out).up (by omega), bstep BU.out (bstep KX.out.2.2.2 KN.out)⟩
                  · go_wp2_with fail
                    refine wp_region_quiet_below (by kernel_rfl) (by kernel_rfl) ?_
                    repeat (go_big_quiet_step (first | exact cQ1 _ _ | exact cQ2 _ _))
                    refine wpQuiet_nil ?_
                    intro _ hw'
                    obtain ⟨⟨dq, osq⟩, hw''⟩ := hw'
                    subst hw''
                    have KN : Hid (Below X.heap.size X (grow (redrawn VC dq) osq)) := bstep (bstep BZ.out KVC.out.2) (below_regrown VC dq osq)
                    clear x0 x1 n2 n3 n4 cQ1 cQ2
                    generalize grow (redrawn VC dq) osq = WN at *
                    have HN : Hid (∀ i, i < q + 1 → rdOk css (tx.atNo t.reads i) = true) := fun i hi => by
                      by_cases e : i = q
                      · rw [e, HRO.out]; simp [k1, k2]
                      · exact KQ.out.2 i (by omega)
                    go_wp2
                    exact ⟨⟨q + 1, by omega, by simp, KN.out, HN.out⟩, by simp [intOf]; omega⟩
            · obtain rfl : q = t.reads.length := by omega
              have hd : decide ((t.reads.length : Int) < (t.reads.length : Int)) = false := by simp
              have HRA : Hid (rep0 k = if t.sets.all (stOk css) = true then repl k (t.sets.foldl insA css) (js.drop (i + 1)) else (css, false)) := by
                unfold Hid
                have : t.reads.all (rdOk css) = true := List.all_eq_true.2 fun s hs => by
                  obtain ⟨z, hz, rfl⟩ := List.getElem_of_mem hs
                  have := KQ.out.2 z hz
                  rwa [tx.atNo, List.getElem?_eq_getElem hz] at this
                rw [HRP.out, this, Bool.true_and]
              have KB : Hid (Below X.heap.size X wr) := KQ.out.1
              clear KQ HRP
              generalize wr = WA at *
              go_wp2
              go_loopw [12] (fun v12 wr => ∃ q : Nat, q ≤ t.sets.length ∧ v12 = .int .i64 q ∧ Below X.heap.size X wr ∧ ∀ i, i < q → stOk css (tx.atSe t.sets i) = true) (fun v12 _ => t.sets.length - (intOf v12).toNat)
              case atStart => exact ⟨0, Nat.zero_le _, rfl, KB.out, fun i hi => absurd hi (by omega)⟩
              case round =>
                obtain ⟨q, hq, rfl, hbq, hallq⟩ := hrel
                have KQ : Hid (Below X.heap.size X wr ∧ ∀ i, i < q → stOk css (tx.atSe t.sets i) = true) := ⟨hbq, hallq⟩
                clear hbq hallq
                have z5 := (XT.out.later KQ.out.1).1 5 _ rfl
                have hl12 := HLN.out.2
                by_cases hql : q < t.sets.length
                · obtain ⟨_, hrs⟩ := HSL.out.s
                  rcases hrs with hrs | ⟨nb, no, hna, hnb, hns⟩
                  · omega
                  rw [hna] at z5
                  clear hna
                  have hnt := hns q _ (tx.atSe_of hql)
                  have hmem := HST.out _ (List.mem_of_getElem? (tx.atSe_of hql))
                  obtain ⟨st, hste⟩ : ∃ st, tx.atSe t.sets q = st := ⟨_, rfl⟩
                  rw [hste] at hnt hmem
                  obtain ⟨rn, hrn⟩ := Int.eq_ofNat_of_zero_le hmem.1.1
                  obtain ⟨sn, hsn⟩ := Int.eq_ofNat_of_zero_le hmem.2.1
                  have bww : Below w.heap.size w wr := bstep BU.out (bstep KX.out.2.2.2 KQ.out.1)
                  have d0 : wr.cell? ⟨nb, no + q * 5, none⟩ = some (.int .i64 (rn : Int)) := (bww.cell (p := ⟨nb, no + q * 5, none⟩) hnb).trans (by rw [← hrn]; exact hnt.c0)
                  have d1 : wr.cell? ⟨nb, no + q * 5 + 1, none⟩ = some (.int .i64 (sn : Int)) := (bww.cell (p := ⟨nb, no + q * 5 + 1, none⟩) hnb).trans (by rw [← hsn]; exact hnt.c1)
                  have d2 : wr.cell? ⟨nb, no + q * 5 + 2, none⟩ = some (.int .i64 st.value) := (bww.cell (p := ⟨nb, no + q * 5 + 2, none⟩) hnb).trans hnt.c2
                  have d3 : wr.cell? ⟨nb, no + q * 5 + 3, none⟩ = some (.bool st.used) := (bww.cell (p := ⟨nb, no + q * 5 + 3, none⟩) hnb).trans hnt.c3
                  have d4 : wr.cell? ⟨nb, no + q * 5 + 4, none⟩ = some (.int .i64 st.version) := (bww.cell (p := ⟨nb, no + q * 5 + 4, none⟩) hnb).trans hnt.c4
                  obtain ⟨Z, hZ⟩ : ∃ Y, Y = wr.alloc (.cells #[.int .i64 (rn : Int), .int .i64 (sn : Int), .int .i64 st.value, .bool st.used, .int .i64 st.version] 106) := ⟨_, rfl⟩
                  have bZ : Below wr.heap.size wr Z := by rw [hZ]; exact (Below.refl _ _).alloc (Nat.le_refl _) _
                  have NB : Hid (Bx Z wr.heap.size [.int .i64 (rn : Int), .int .i64 (sn : Int), .int .i64 st.value, .bool st.used, .int .i64 st.version]) := by unfold Hid; rw [hZ]; exact Bx.made wr [.int .i64 (rn : Int), .int .i64 (sn : Int), .int .i64 st.value, .bool st.used, .int .i64 st.version] _
                  have BZ : Hid (Below X.heap.size X Z) := bstep KQ.out.1 bZ
                  have hsn6 : sn < 6 := by omega
                  have hrnp : (rn : Int) < (k.places.length : Int) := by omega
                  obtain ⟨gb, cg, cc, hac, hcc⟩ := HALL.out Z BZ.out rn sn hrnp hsn6
                  have HAC := hidOf hac
                  have HSO : Hid (stOk css (tx.atSe t.sets q) = (verV cc.head == st.version)) := by unfold Hid; rw [hste, stOk, hrn, hsn, hcc]
                  have rg : (rn : Int) < (gs.length : Int) := by rw [KG.out.1]; exact hrnp
                  have s6 : (sn : Int) < 6 := by omega
                  have jq : (q : Int) < (t.sets.length : Int) := by omega
                  clear hac hcc hnt hmem hrn hsn bww hste hns bZ
                  go_wp2_with fail
                  rw [← hZ]
                  clear hZ d0 d1 d2 d3 d4 z5
                  generalize wr.heap.size = sN at *
                  have n0 : ∀ dd os, (grow (redrawn Z dd) os).cell? ⟨sN, 0, none⟩ = some (.int .i64 (rn : Int)) := fun dd os => (NB.out.later (below_regrown Z dd os)).1 0 _ rfl
                  have n1 : ∀ dd os, (grow (redrawn Z dd) os).cell? ⟨sN, 1, none⟩ = some (.int .i64 (sn : Int)) := fun dd os => (NB.out.later (below_regrown Z dd os)).1 1 _ rfl
                  have n4 : ∀ dd os, (grow (redrawn Z dd) os).cell? ⟨sN, 4, none⟩ = some (.int .i64 st.version) := fun dd os => (NB.out.later (below_regrown Z dd os)).1 4 _ rfl
                  have ca : ∀ dd os, (grow (redrawn Z dd) os).cell? ⟨ab, rn, none⟩ = some (.slice (some ⟨gb, 0, none⟩) 6 cg) := fun dd os => ((below_regrown Z dd os).cell (p := ⟨ab, rn, none⟩) HAC.out.2.1).trans HAC.out.1
                  have ch0 : ∀ dd os, (grow (redrawn Z dd) os).cell? ⟨gb, sn * 2, none⟩ = some (.int .i64 cc.head) := fun dd os => ((below_regrown Z dd os).cell (p := ⟨gb, sn * 2, none⟩) HAC.out.2.2.2.2).trans HAC.out.2.2.1
                  have cQ1 : ∀ dd os, Calls Tryz.prog 80 #[.int .i64 cc.head] (grow (redrawn Z dd) os) fun e w'' => e = .returned (.int .i64 (verV cc.head)) ∧ ∃ p : Regrown, w'' = grow (redrawn Z p.d) p.os := fun dd os => (specVersion_any cc.head (grow (redrawn Z dd) os)).mono fun e w'' h => ⟨h.1, ⟨⟨dd, os⟩, h.2⟩⟩
                  generalize verV cc.head = vv at *
                  cases k1 : (vv == st.version) with
                  | false =>
                    have m1 : (vv != st.version) = true := by simp only [bne, k1]; rfl
                    go_wp2_with fail
                    refine wp_region_quiet_below (by kernel_rfl) (by kernel_rfl) ?_
                    repeat (go_big_quiet_step (exact cQ1 _ _))
                    refine wpQuiet_nil ?_
                    intro _ hw'
                    obtain ⟨⟨dq, osq⟩, hw''⟩ := hw'
                    subst hw''
                    have KN : Hid (Below X.heap.size X (grow (redrawn Z dq) osq)) := bstep BZ.out (below_regrown Z dq osq)
                    clear n0 n1 n4 ca ch0 cQ1
                    generalize grow (redrawn Z dq) osq = WN at *
                    have HE : Hid (rep0 k = (css, false)) := by
                      unfold Hid
                      rw [HRA.out, if_neg (fun h => by
                        have := List.all_eq_true.1 h _ (List.mem_of_getElem? (tx.atSe_of hql))
                        rw [HSO.out, k1] at this
                        cases this)]
                    go_wp2
                    refine bodyPost_ret (v := .tuple #[.slice (some ⟨ab, 0, none⟩) gs.length vc, .bool false]) (by simp [results, Tryz.results41, go_sem]) rfl ?_
                    unfold RAnsP
                    rw [HE.out]
                    exact ⟨_, gs, rfl, (KX.out.1.later KN.out).up (by omega), bstep BU.out (bstep KX.out.2.2.2 KN.out)⟩
                  | true =>
                    have m1 : (vv != st.version) = false := by simp only [bne, k1]; rfl
                    go_wp2_with fail
                    refine wp_region_quiet_below (by kernel_rfl) (by kernel_rfl) ?_
                    repeat (go_big_quiet_step (exact cQ1 _ _))
                    refine wpQuiet_nil ?_
                    intro _ hw'
                    obtain ⟨⟨dq, osq⟩, hw''⟩ := hw'
                    subst hw''
                    have KN : Hid (Below X.heap.size X (grow (redrawn Z dq) osq)) := bstep BZ.out (below_regrown Z dq osq)
                    clear n0 n1 n4 ca ch0 cQ1
                    generalize grow (redrawn Z dq) osq = WN at *
                    have HN : Hid (∀ i, i < q + 1 → stOk css (tx.atSe t.sets i) = true) := fun i hi => by
                      by_cases e : i = q
                      · rw [e, HSO.out, k1]
                      · exact KQ.out.2 i (by omega)
                    go_wp2
                    exact ⟨⟨q + 1, by omega, by simp, KN.out, HN.out⟩, by simp [intOf]; omega⟩
                · obtain rfl : q = t.sets.length := by omega
                  have hd : decide ((t.sets.length : Int) < (t.sets.length : Int)) = false := by simp
                  have HRB : Hid (repl k (t.sets.foldl insA css) (js.drop (i + 1)) = rep0 k) := by
                    unfold Hid
                    have : t.sets.all (stOk css) = true := List.all_eq_true.2 fun s hs => by
                      obtain ⟨z, hz, rfl⟩ := List.getElem_of_mem hs
                      have := KQ.out.2 z hz
                      rwa [tx.atSe, List.getElem?_eq_getElem hz] at this
                    rw [HRA.out, if_pos this]
                  have KC : Hid (Below X.heap.size X wr) := KQ.out.1
                  clear KQ HRA KB HALL
                  generalize wr = WB at *
                  go_wp2
                  clear z5 hd
                  go_loopw [14] (fun v14 wr => ∃ q : Nat, q ≤ t.sets.length ∧ v14 = .int .i64 q ∧ All wr (w.heap.size + 1) (.slice (some ⟨ab, 0, none⟩) gs.length vc) gs ((t.sets.take q).foldl insA css) ∧ Bx wr sT [.int .i64 t.id, .int .i64 t.home, .int .i64 t.phase, .int .i64 t.count, .slice (tv j).ar t.reads.length (tv j).cr, .slice (tv j).ah t.sets.length (tv j).ch, .int .i64 t.stamp] ∧ AtX wr lb 0 (ordX k tv k.txs.length) ∧ lb < wr.heap.size ∧ Below U.heap.size U wr) (fun v14 _ => t.sets.length - (intOf v14).toNat)
                  case atStart => exact ⟨0, Nat.zero_le _, rfl, by rw [List.take_zero]; exact KX.out.1.later KC.out, XT.out.later KC.out, KX.out.2.1.below KC.out KX.out.2.2.1, Nat.lt_of_lt_of_le KX.out.2.2.1 KC.out.size, bstep KX.out.2.2.2 KC.out⟩
                  case round =>
                    obtain ⟨q, hq, rfl, hal, hbx, hax, hlb, hbl⟩ := hrel
                    have KR : Hid (All wr (w.heap.size + 1) (.slice (some ⟨ab, 0, none⟩) gs.length vc) gs ((t.sets.take q).foldl insA css) ∧ Bx wr sT [.int .i64 t.id, .int .i64 t.home, .int .i64 t.phase, .int .i64 t.count, .slice (tv j).ar t.reads.length (tv j).cr, .slice (tv j).ah t.sets.length (tv j).ch, .int .i64 t.stamp] ∧ AtX wr lb 0 (ordX k tv k.txs.length) ∧ lb < wr.heap.size ∧ Below U.heap.size U wr) := ⟨hal, hbx, hax, hlb, hbl⟩
                    clear hal hbx hax hlb hbl
                    have z5 := KR.out.2.1.1 5 _ rfl
                    by_cases hql : q < t.sets.length
                    · obtain ⟨_, hrs⟩ := HSL.out.s
                      rcases hrs with hrs | ⟨nb, no, hna, hnb, hns⟩
                      · omega
                      have hnt := hns q _ (tx.atSe_of hql)
                      have hmem := HST.out _ (List.mem_of_getElem? (tx.atSe_of hql))
                      have htk : (t.sets.take (q + 1)).foldl insA css = insA ((t.sets.take q).foldl insA css) (tx.atSe t.sets q) := by rw [List.take_add_one, tx.atSe_of hql, List.foldl_append]; rfl
                      obtain ⟨st, hste⟩ : ∃ st, tx.atSe t.sets q = st := ⟨_, rfl⟩
                      rw [hste] at hnt hmem htk
                      obtain ⟨rn, hrn⟩ := Int.eq_ofNat_of_zero_le hmem.1.1
                      obtain ⟨sn, hsn⟩ := Int.eq_ofNat_of_zero_le hmem.2.1
                      obtain ⟨css', hcs'⟩ : ∃ c, (t.sets.take q).foldl insA css = c := ⟨_, rfl⟩
                      rw [hcs'] at KR htk
                      have hrl : rn < gs.length := by rw [KG.out.1]; omega
                      obtain ⟨x, hx⟩ : ∃ x, gs[rn]? = some x := ⟨_, List.getElem?_eq_getElem hrl⟩
                      obtain ⟨xs, hxs⟩ : ∃ xs, css'[rn]? = some xs := ⟨_, List.getElem?_eq_getElem (by rw [KR.out.1.len]; exact hrl)⟩
                      have hcl := KR.out.1.cs rn x xs hx hxs
                      obtain ⟨a', c', e', hat⟩ := KR.out.1.row.at
                      cases e'
                      obtain ⟨ab', ea, hab, hca⟩ := hat rn x hx
                      cases ea
                      have bww : Below w.heap.size w wr := bstep BU.out KR.out.2.2.2.2
                      have hnt' := hnt.below bww hnb
                      have HNT : Hid (tx.SetAt wr nb (no + q * 5) st ∧ nb < wr.heap.size) := ⟨hnt', Nat.lt_of_lt_of_le hnb bww.size⟩
                      have HSS : Hid (st.region = (rn : Int) ∧ st.slot = (sn : Int) ∧ sn < 6 ∧ 0 ≤ st.version ∧ st.version < 1000000) := ⟨hrn, hsn, by omega, hmem.2.2.2.1, hmem.2.2.2.2⟩
                      have HCL : Hid (CellsAt wr x.1 0 xs ∧ Room wr x.1 12 ∧ xs.length = 6 ∧ x.1 < wr.heap.size ∧ w.heap.size + 1 ≤ x.1 ∧ ab ≠ x.1) := ⟨hcl.2.2.1, hcl.2.2.2.1, hcl.2.2.2.2.1, hcl.2.1, hcl.1, fun e => hcl.2.2.2.2.2 (by rw [← e]; rfl)⟩
                      have HXS : Hid (gs[rn]? = some x ∧ css'[rn]? = some xs) := ⟨hx, hxs⟩
                      have HAB : Hid (wr.cell? ⟨ab, rn, none⟩ = some (.slice (some ⟨x.1, 0, none⟩) 6 x.2) ∧ ab < wr.heap.size) := ⟨hca, hab⟩
                      have HTK : Hid ((t.sets.take (q + 1)).foldl insA css = insA css' st) := htk
                      have HNA := hidOf hna
                      have rg : (rn : Int) < (gs.length : Int) := by omega
                      have jq : (q : Int) < (t.sets.length : Int) := by omega
                      have hl12 := HLN.out.2
                      have jc : q + 1 ≤ (tv j).ch := by have := HCJ.out; omega
                      have jc' : ((q : Int) + 1 ≤ ((tv j).ch : Int)) := by omega
                      have hwq : IntKind.i64.wrap ((q : Int) + 1) = (q : Int) + 1 := by rw [IntKind.wrap_i64]; omega
                      have hq1 : ((q : Int) + 1).toNat = q + 1 := by omega
                      rw [hna] at z5
                      clear hna hns hnt hmem hrn hsn hcs' hste hx hxs hcl hat hab hca bww hnt' htk hrl
                      go_wp2_with fail
                      have bD : Below wr.heap.size wr wr.drew := (Below.refl _ _).drew
                      have SF : Hid (∀ Y, Y.heap[sT]? = wr.heap[sT]? → Y.heap[nb]? = wr.heap[nb]? → Y.heap[ab]? = wr.heap[ab]? → (fun Y : World => Y.cell? ⟨sT, 5, none⟩ = some (.slice (some ⟨nb, no, none⟩) t.sets.length (tv j).ch) ∧ Y.cell? ⟨nb, no + q * 5, none⟩ = some (.int .i64 (rn : Int)) ∧ Y.cell? ⟨ab, rn, none⟩ = some (.slice (some ⟨x.1, 0, none⟩) 6 x.2)) Y) := fun Y e1 e2 e3 => by
                        refine ⟨?_, ?_, ?_⟩
                        · have := KR.out.2.1.1 5 _ rfl
                          rw [HNA.out] at this
                          exact (World.cell?_of_block (a := ⟨sT, 5, none⟩) e1).trans this
                        · have := HNT.out.1.c0
                          rw [HSS.out.1] at this
                          exact (World.cell?_of_block (a := ⟨nb, no + q * 5, none⟩) e2).trans this
                        · exact (World.cell?_of_block (a := ⟨ab, rn, none⟩) e3).trans HAB.out.1
                      have hS : (fun Y : World => Y.cell? ⟨sT, 5, none⟩ = some (.slice (some ⟨nb, no, none⟩) t.sets.length (tv j).ch) ∧ Y.cell? ⟨nb, no + q * 5, none⟩ = some (.int .i64 (rn : Int)) ∧ Y.cell? ⟨ab, rn, none⟩ = some (.slice (some ⟨x.1, 0, none⟩) 6 x.2)) wr.drew := SF.out _ (bD.block _ KR.out.2.1.2.2) (bD.block _ HNT.out.2) (bD.block _ HAB.out.2)
                      have BD := hidOf bD
                      clear bD
                      refine wp_region_z (fun _ => false) (fun Y : World => Y.cell? ⟨sT, 5, none⟩ = some (.slice (some ⟨nb, no, none⟩) t.sets.length (tv j).ch) ∧ Y.cell? ⟨nb, no + q * 5, none⟩ = some (.int .i64 (rn : Int)) ∧ Y.cell? ⟨ab, rn, none⟩ = some (.slice (some ⟨x.1, 0, none⟩) 6 x.2)) (by kernel_rfl) ?_
                      generalize wr.drew = XD at *
                      refine wpZ_take (i := 0) (v := ?_) rfl (by kernel_rfl) (fun _ _ _ h => h) (Or.inl ⟨by rfl, ?_⟩) hS ?_
                      rotate_left
                      · (intro Y hSw; go_simp; first | done | with_reducible rfl | rfl | (rw [if_pos (by omega)]))
                      simp only [Act.put]
                      refine wpZ_take (i := 1) (v := ?_) rfl (by kernel_rfl) (fun _ _ _ h => h) (Or.inl ⟨by rfl, ?_⟩) hS ?_
                      rotate_left
                      · (intro Y hSw; go_simp; first | done | with_reducible rfl | rfl | (rw [if_pos (by omega)]))
                      simp only [Act.put]
                      refine wpZ_take (i := 2) (v := ?_) rfl (by kernel_rfl) (fun _ _ _ h => h) (Or.inl ⟨by rfl, ?_⟩) hS ?_
                      rotate_left
                      · (intro Y hSw; obtain ⟨s1, s2, s3⟩ := hSw; go_simp; first | done | with_reducible rfl | rfl | (rw [if_pos (by omega)]))
                      simp only [Act.put]
                      refine wpZ_take (i := 3) (v := ?_) rfl (by kernel_rfl) (fun _ _ _ h => h) (Or.inl ⟨by rfl, ?_⟩) hS ?_
                      rotate_left
                      · (intro Y hSw; go_simp; first | done | with_reducible rfl | rfl | (rw [if_pos (by omega)]))
                      simp only [Act.put]
                      refine wpZ_take (i := 4) (v := ?_) rfl (by kernel_rfl) (fun _ _ _ h => h) (Or.inl ⟨by rfl, ?_⟩) hS ?_
                      rotate_left
                      · (intro Y hSw; go_simp; first | done | with_reducible rfl | rfl | (rw [if_pos (by omega)]))
                      simp only [Act.put]
                      refine wpZ_take (i := 5) (v := ?_) rfl (by kernel_rfl) (fun _ _ _ h => h) (Or.inl ⟨by rfl, ?_⟩) hS ?_
                      rotate_left
                      · (intro Y hSw; go_simp; first | done | with_reducible rfl | rfl | (rw [if_pos (by omega)]))
                      simp only [Act.put]
                      refine wpZ_take (i := 6) (v := ?_) rfl (by kernel_rfl) (fun _ _ _ h => h) (Or.inl ⟨by rfl, ?_⟩) hS ?_
                      rotate_left
                      · (intro Y hSw; obtain ⟨s1, s2, s3⟩ := hSw; go_simp; first | done | with_reducible rfl | rfl | (rw [if_pos (by omega)]))
                      simp only [Act.put]
                      refine wpZ_take (i := 7) (v := ?_) rfl (by kernel_rfl) (fun _ _ _ h => h) (Or.inl ⟨by rfl, ?_⟩) hS ?_
                      rotate_left
                      · (intro Y hSw; go_simp; first | done | with_reducible rfl | rfl | (rw [if_pos (by omega)]))
                      simp only [Act.put]
                      refine wpZ_take (i := 8) (v := ?_) rfl (by kernel_rfl) (fun _ _ _ h => h) (Or.inl ⟨by rfl, ?_⟩) hS ?_
                      rotate_left
                      · (intro Y hSw; obtain ⟨s1, s2, s3⟩ := hSw; go_simp; first | done | with_reducible rfl | rfl | (rw [if_pos (by omega)]))
                      simp only [Act.put]
                      refine wpZ_take (i := 9) (v := ?_) rfl (by kernel_rfl) (fun _ _ _ h => h) (Or.inl ⟨by rfl, ?_⟩) hS ?_
                      rotate_left
                      · (intro Y hSw; go_simp; first | done | with_reducible rfl | rfl | (rw [if_pos (by omega)]))
                      simp only [Act.put]
                      refine wpZ_take (i := 10) (v := ?_) rfl (by kernel_rfl) (fun _ _ _ h => h) (Or.inl ⟨by rfl, ?_⟩) hS ?_
                      rotate_left
                      · (intro Y hSw; obtain ⟨s1, s2, s3⟩ := hSw; go_simp; first | done | with_reducible rfl | rfl | (rw [if_pos (by omega)]))
                      simp only [Act.put]
                      refine wpZ_take (i := 11) (v := ?_) rfl (by kernel_rfl) (fun _ _ _ h => h) (Or.inl ⟨by rfl, ?_⟩) hS ?_
                      rotate_left
                      · (intro Y hSw; go_simp; first | done | with_reducible rfl | rfl | (rw [if_pos (by omega)]))
                      simp only [Act.put]
                      refine wpZ_take (i := 12) (v := ?_) rfl (by kernel_rfl) (fun _ _ _ h => h) (Or.inl ⟨by rfl, ?_⟩) hS ?_
                      rotate_left
                      · (intro Y hSw; go_simp; first | done | with_reducible rfl | rfl | (rw [if_pos (by omega)]))
                      simp only [Act.put]
                      refine wpZ_take (i := 13) (v := .int .i64 ((q : Int) + 1)) rfl (by kernel_rfl) (fun _ _ _ h => h) (Or.inl ⟨by rfl, ?_⟩) hS ?_
                      · (intro Y hSw; go_simp; first | done | (rw [hwq]))
                      simp only [Act.put]
                      refine wpZ_take (i := 14) (v := .slice (some ⟨nb, no + q * 5, none⟩) 1 ((tv j).ch - q)) rfl (by kernel_rfl) (fun _ _ _ h => h) (Or.inl ⟨by rfl, ?_⟩) hS ?_
                      · (intro Y hSw; go_simp; rw [if_pos (by omega), if_neg (by omega)])
                      simp only [Act.put]
                      refine wpZ_ready (rs := [15]) (by kernel_rfl) (by simp) ?_
                      refine AllZ.cons rfl (fun K hK => ?_) AllZ.nil
                      go_simp
                      refine (l3Install1_any XD x.1 x.2 nb (no + q * 5) ((tv j).ch - q) sn xs st (Nat.lt_of_lt_of_le HCL.out.2.2.2.1 BD.out.size) (HCL.out.1.below BD.out HCL.out.2.2.2.1) (by rw [HCL.out.2.2.1]; exact HCL.out.2.1.of_block (BD.out.block _ HCL.out.2.2.2.1)) HCL.out.2.2.1 (HNT.out.1.below BD.out HNT.out.2) HSS.out.2.1 HSS.out.2.2.1 HSS.out.2.2.2.1 HSS.out.2.2.2.2).mono ?_
                      rintro e W' ⟨⟨v, rfl⟩, htn, hcn, hrn⟩
                      have hgt := HGT.out rn x HXS.out.1
                      have hof : ∀ b, b < wr.heap.size → b ≠ x.1 → W'.heap[b]? = wr.heap[b]? := fun b hb hne => (htn.block b (Nat.lt_of_lt_of_le hb BD.out.size) hne).trans (BD.out.block b hb)
                      have e1 := hof sT KR.out.2.1.2.2 (by omega)
                      have e2 := hof nb HNT.out.2 (by have := HCL.out.2.2.2.2.1; omega)
                      have e3 := hof ab HAB.out.2 HCL.out.2.2.2.2.2
                      have hsz : wr.heap.size ≤ W'.heap.size := Nat.le_trans BD.out.size htn.size
                      have hWs := SF.out W' e1 e2 e3
                      have KN : Hid (All W' (w.heap.size + 1) (.slice (some ⟨ab, 0, none⟩) gs.length vc) gs ((t.sets.take (q + 1)).foldl insA css) ∧ Bx W' sT [.int .i64 t.id, .int .i64 t.home, .int .i64 t.phase, .int .i64 t.count, .slice (tv j).ar t.reads.length (tv j).cr, .slice (tv j).ah t.sets.length (tv j).ch, .int .i64 t.stamp] ∧ AtX W' lb 0 (ordX k tv k.txs.length) ∧ lb < W'.heap.size ∧ Below U.heap.size U W') := by
                        refine ⟨?_, KR.out.2.1.of_block e1 hsz, ?_, Nat.lt_of_lt_of_le KR.out.2.2.2.1 hsz, ?_⟩
                        · rw [HTK.out]
                          have h6 := HCL.out.2.2.1
                          have := (KR.out.1.later BD.out).put HXS.out.1 htn (by rw [insC_len]; exact h6) hcn (by rw [h6] at hrn; exact hrn)
                          rw [insA, HSS.out.1, Int.toNat_natCast, HXS.out.2]
                          exact this
                        · exact fun i y hy t u hu => (World.cell?_of_block (a := ⟨lb, _, none⟩) (hof lb KR.out.2.2.2.1 (by omega))).trans (KR.out.2.2.1 i y hy t u hu)
                        · have hsu := SU.out
                          have hxb := HCL.out.2.2.2.2.1
                          have b1 := bstep KR.out.2.2.2.2 BD.out
                          exact b1.trans (htn.below (by omega) b1.size)
                      clear e1 e2 e3 hof hgt htn hcn hrn hsz
                      refine hK.out _ _ (fun _ => hWs) ?_
                      clear hK K hWs
                      refine wpZ_done (by kernel_rfl) ?_ _
                      go_wp2
                      exact ⟨⟨q + 1, by omega, by simp, KN.out⟩, by simp [intOf]; omega⟩
                    · obtain rfl : q = t.sets.length := by omega
                      have hd : decide ((t.sets.length : Int) < (t.sets.length : Int)) = false := by simp
                      have KF : Hid (All wr (w.heap.size + 1) (.slice (some ⟨ab, 0, none⟩) gs.length vc) gs (t.sets.foldl insA css) ∧ AtX wr lb 0 (ordX k tv k.txs.length) ∧ lb < wr.heap.size ∧ Below U.heap.size U wr) := ⟨by have := KR.out.1; rwa [List.take_length] at this, KR.out.2.2⟩
                      clear KR
                      have h60 := HJS.out.2.2.1
                      go_wp2
                      exact ⟨⟨i + 1, _, by omega, by simp, KF.out.1, HRB.out, KF.out.2.1, KF.out.2.2.1, KF.out.2.2.2⟩, by simp [intOf]; omega⟩
        · obtain rfl : i = js.length := by omega
          have hd : decide ((js.length : Int) < (js.length : Int)) = false := by simp
          have HE : Hid (rep0 k = (css, true)) := by unfold Hid; rw [← KI.out.2.1, List.drop_length]; rfl
          go_wp2
          refine bodyPost_ret (v := .tuple #[.slice (some ⟨ab, 0, none⟩) gs.length vc, .bool true]) (by simp [results, Tryz.results41, go_sem]) rfl ?_
          unfold RAnsP
          rw [HE.out]
          exact ⟨_, gs, rfl, KI.out.1.up (by omega), bstep BU.out KI.out.2.2.2.2⟩
end Go.Proofs.YtdmpobegobfpjaaGreat
namespace Go.Proofs.YtdmpobegobfpjaaGreat
open Go.RowKit
theorem txs_atC {U : World} {a3 : Option Addr} {ts : List tx.T7} (h : KTkC.RdS U a3 ts) : ∃ tv : Nat → tx.TV, (ts = [] ∨ ∃ b off, a3 = some ⟨b, off, none⟩ ∧ b < U.heap.size ∧ AtX U b off ((List.range ts.length).map fun j => (tv j, atT ts j)) ∧ ∀ j, j < ts.length → tx.SlT U (tv j) (atT ts j)) ∧ ∀ j, j < ts.length → (atT ts j).sets.length ≤ (tv j).ch := by
  rcases h with rfl | ⟨b, off, rfl, hb, h⟩
  · exact ⟨fun _ => ⟨none, 0, none, 0⟩, .inl rfl, fun j hj => absurd hj (Nat.not_lt_zero j)⟩
  · have hc : ∀ j, ∃ v, j < ts.length → At U b (off + j * 7) (KTk.cells v (atT ts j)) ∧ tx.SlT U v (atT ts j) ∧ (atT ts j).sets.length ≤ v.ch := fun j => by
      by_cases hj : j < ts.length
      · obtain ⟨v, h1, h2, h3⟩ := h j _ (atT_of hj)
        exact ⟨v, fun _ => ⟨h1, h2, h3⟩⟩
      · exact ⟨⟨none, 0, none, 0⟩, fun h => absurd h hj⟩
    refine ⟨fun j => Classical.choose (hc j), .inr ⟨b, off, rfl, hb, fun i x hx t u hu => ?_, fun j hj => (Classical.choose_spec (hc j) hj).2.1⟩, fun j hj => (Classical.choose_spec (hc j) hj).2.2⟩
    rw [List.getElem?_map] at hx
    obtain ⟨j, hj, rfl⟩ := Option.map_eq_some_iff.1 hx
    have hjl : i < ts.length := by have := (List.getElem?_eq_some_iff.1 hj).1; simpa using this
    have hij : i = j := by rw [List.getElem?_range hjl] at hj; exact Option.some.inj hj
    subst hij
    exact (Classical.choose_spec (hc i) hjl).1 t u hu
end Go.Proofs.YtdmpobegobfpjaaGreat
namespace Go.Proofs.YtdmpobegobfpjaaGreat
open Go.RowKit
open Go.Sort (grow)
def serB (k : C6) : Bool := clusterB k && (rep0 k).2
set_option maxRecDepth 100000 in
set_option maxHeartbeats 4000000 in
theorem specSerial_any (w : World) (a1 : Option Addr) (c1 : Nat) (a2 : Option Addr) (c2 : Nat) (a3 : Option Addr) (c3 : Nat) (k : C6) (hl : KCl.L k) (h : KCl.Rd w a1 c1 a2 c2 a3 c3 k) (hcp : KTkC.RdS w a3 k.txs) :
    Calls Tryz.prog 16 #[.agg #[.int .i64 k.config, .int .i64 k.clock, .slice a1 k.places.length c1, .slice a2 k.machines.length c2, .slice a3 k.txs.length c3, .bool k.lost]] w fun e w' => e = .returned (.bool (serB k)) ∧ Below w.heap.size w w' := by
  obtain ⟨U, hU⟩ : ∃ Y, Y = w.alloc (.cells #[.int .i64 k.config, .int .i64 k.clock, .slice a1 k.places.length c1, .slice a2 k.machines.length c2, .slice a3 k.txs.length c3, .bool k.lost] 34) := ⟨_, rfl⟩
  have BU : Hid (Below w.heap.size w U) := by unfold Hid; rw [hU]; exact (Below.refl _ _).alloc (Nat.le_refl _) _
  have FA : Hid (Bx U w.heap.size [.int .i64 k.config, .int .i64 k.clock, .slice a1 k.places.length c1, .slice a2 k.machines.length c2, .slice a3 k.txs.length c3, .bool k.lost]) := by unfold Hid; rw [hU]; exact Bx.made w [.int .i64 k.config, .int .i64 k.clock, .slice a1 k.places.length c1, .slice a2 k.machines.length c2, .slice a3 k.txs.length c3, .bool k.lost] _
  have HR : Hid (KCl.Rd U a1 c1 a2 c2 a3 c3 k ∧ KCl.L k ∧ KTkC.RdS U a3 k.txs) := ⟨h.later BU.out, hl, hcp.later BU.out⟩
  have hc := specClusterOk_any U a1 c1 a2 c2 a3 c3 k hl HR.out.1
  clear h hl hcp
  go_enter Tryz.func16, Tryz.ntmps16
  go_wp2_with fail
  rw [← hU]
  clear hU
  refine hc.mono ?_
  clear hc
  rintro e W1 ⟨rfl, b1⟩
  have B1 : Hid (Below U.heap.size U W1) := b1
  clear b1
  cases hk : clusterB k with
  | false =>
    have HV : Hid (serB k = false) := by unfold Hid serB; rw [hk]; rfl
    clear hk
    go_wp2
    go_ret
    exact ⟨by rw [HV.out]; rfl, bstep BU.out B1.out⟩
  | true =>
  have HV : Hid (serB k = (rep0 k).2) := by unfold Hid serB; rw [hk]; rfl
  obtain ⟨tv, ht, hcp⟩ := txs_atC (HR.out.2.2.later B1.out)
  have hr := l13Replay_any W1 a1 c1 a2 c2 a3 c3 k tv hk HR.out.2.1 ht hcp
  have q0 := (FA.out.later B1.out).1 0 _ rfl
  have q1 := (FA.out.later B1.out).1 1 _ rfl
  have q2 := (FA.out.later B1.out).1 2 _ rfl
  have q3 := (FA.out.later B1.out).1 3 _ rfl
  have q4 := (FA.out.later B1.out).1 4 _ rfl
  have q5 := (FA.out.later B1.out).1 5 _ rfl
  clear ht hcp hk
  go_wp2_with fail
  refine hr.mono ?_
  clear hr q0 q1 q2 q3 q4 q5
  rintro e W2 ⟨v, gs, rfl, -, b2⟩
  have B2 : Hid (Below U.heap.size U W2) := bstep B1.out b2
  clear b2
  rw [← HV.out]
  go_wp2
  go_ret
  exact ⟨rfl, bstep BU.out B2.out⟩
end Go.Proofs.YtdmpobegobfpjaaGreat
namespace Go.Proofs.YtdmpobegobfpjaaGreat.tx
open Go.RowKit
theorem below_dn {B : Nat} {a w : World} (h : Below B a w) (n : Nat) : Below B a (w.drewN n) := ⟨h.os, h.tape, h.output, h.size, h.block⟩
def NumsAt (w : World) (b off : Nat) (zs : List Int) : Prop := ∀ i z, zs[i]? = some z → w.cell? ⟨b, off + i, none⟩ = some (.int .i64 z)
theorem NumsAt.below {w w' : World} {B b off : Nat} {zs : List Int} (h : NumsAt w b off zs) (hb : Below B w w') (hB : b < B) : NumsAt w' b off zs := fun i z e => by rw [hb.cell (p := ⟨b, off + i, none⟩) hB]; exact h i z e
def SlN (w : World) (B : Nat) (a : Option Addr) (n : Nat) (zs : List Int) : Prop := zs.length = n ∧ (n = 0 ∨ ∃ b off, a = some ⟨b, off, none⟩ ∧ b < B ∧ NumsAt w b off zs)
theorem SlN.later {w w' : World} {a : Option Addr} {n : Nat} {zs : List Int} (h : SlN w w.heap.size a n zs) (hb : Below w.heap.size w w') : SlN w' w'.heap.size a n zs := by
  obtain ⟨h1, h2⟩ := h
  refine ⟨h1, ?_⟩
  rcases h2 with h2 | ⟨b, off, ha, hB, hx⟩
  · exact .inl h2
  · exact .inr ⟨b, off, ha, Nat.lt_of_lt_of_le hB hb.size, hx.below hb hB⟩
def atN (zs : List Int) (i : Nat) : Int := zs[i]?.getD 0
theorem atN_of {zs : List Int} {i : Nat} (h : i < zs.length) : zs[i]? = some (atN zs i) := by simp [atN, List.getElem?_eq_getElem h]
def hasB (zs : List Int) (z : Int) : Bool := zs.any (fun y => decide (y = z))
theorem has_yes {zs : List Int} {z : Int} {i : Nat} (hi : i < zs.length) (h : atN zs i = z) : hasB zs z = true := by
  rw [hasB, List.any_eq_true]
  exact ⟨atN zs i, List.mem_of_getElem? (atN_of hi), by simp [h]⟩
theorem has_no {zs : List Int} {z : Int} (h : ∀ i, i < zs.length → atN zs i ≠ z) : hasB zs z = false := by
  rw [hasB, List.any_eq_false]
  intro y hy
  obtain ⟨i, hi, rfl⟩ := List.getElem_of_mem hy
  have := h i hi
  rw [atN, List.getElem?_eq_getElem hi] at this
  simpa using this
set_option maxHeartbeats 1000000 in
theorem make_nums (n : Nat) (hn : n ≤ 1048576) (w : World) : (Instr.makeSlice 28 (.int .i64 (n : Int)) (.int .i64 (n : Int))).run Tryz.prog w = .ok (.slice (some ⟨w.heap.size, 0, none⟩) n n) (w.alloc (.cells (madeCells #[.int .i64 0] n) 2)) := by
  have info : (Tryz.prog.info? 2).map (fun i => (i.zero, i.size, i.bytes)) = some (some (.int .i64 0), 1, 8) := by kernel_rfl
  obtain ⟨i, hi, hzz⟩ := Option.map_eq_some_iff.1 info
  simp only [Prod.mk.injEq] at hzz
  obtain ⟨hz, hs, hb⟩ := hzz
  have := run_make (P := Tryz.prog) w 28 2 i _ Tryz.underlying28 hi hz .i64 .i64 (n : Int) (n : Int) (by omega) (by omega) (by rw [hb]; omega) (by omega)
  rw [hs] at this
  simpa [Value.cells] using this
theorem NumsAt.put {w : World} {b k : Nat} {zs : List Int} {z : Int} (h : NumsAt w b 0 (zs.take k)) (hz : zs[k]? = some z) {v : Value} (hv : w.cell? ⟨b, k, none⟩ = some v) : NumsAt (w.setCell ⟨b, k, none⟩ (.int .i64 z)) b 0 (zs.take (k + 1)) := by
  intro i t e
  rw [List.getElem?_take] at e
  split at e
  · rename_i hi
    by_cases hik : i = k
    · subst hik
      rw [hz] at e
      obtain rfl := Option.some.inj e
      simpa using cell_set_same hv
    · have := h i t (by rw [List.getElem?_take, if_pos (by omega)]; exact e)
      rw [cell_set_other (by omega)]; exact this
  · cases e
set_option maxHeartbeats 1000000 in
theorem eqInt64S_any (w : World) (a a' : Option Addr) (n cap cap' : Nat) (zs : List Int) (hn : n ≤ maxLen) (h1 : SlN w w.heap.size a n zs) (h2 : SlN w w.heap.size a' n zs) :
    Calls Tryz.prog 11 #[.slice a n cap, .slice a' n cap'] w fun e w' => e = .returned (.bool true) ∧ Below w.heap.size w w' := by
  unfold maxLen at hn
  obtain ⟨hx, h1⟩ := h1
  obtain ⟨_, h2⟩ := h2
  go_enter Tryz.func11, Tryz.ntmps11
  go_wp2
  go_loopw [5] (fun i wr => ∃ k : Nat, k ≤ n ∧ i = .int .i64 k ∧ Below w.heap.size w wr) (fun i _ => n - (intOf i).toNat)
  case atStart => exact ⟨0, Nat.zero_le _, rfl, Below.refl _ _⟩
  case round =>
    obtain ⟨k, hk, rfl, hbl⟩ := hrel
    by_cases hlt : k < n
    · rcases h1 with h1 | ⟨b, off, rfl, hb, h1⟩
      · omega
      · rcases h2 with h2 | ⟨b', off', rfl, hb', h2⟩
        · omega
        · have c1 := (hbl.cell (p := ⟨b, off + k, none⟩) hb).trans (h1 k _ (atN_of (by omega)))
          have c2 := (hbl.cell (p := ⟨b', off' + k, none⟩) hb').trans (h2 k _ (atN_of (by omega)))
          have hlt' : (k : Int) < (n : Int) := by omega
          have K : Hid (Below w.heap.size w wr) := hbl
          clear h1 h2 hbl hx
          go_wp2_with fail
          go_quiet (fail)
          go_wp2
          exact ⟨⟨k + 1, by omega, by simp, below_dn K.out _⟩, by simp [intOf]; omega⟩
    · have : k = n := by omega
      subst this
      have hd : decide (k < k) = false := by simp
      clear h1 h2
      go_wp2
      go_ret
      exact ⟨rfl, hbl⟩
def marks : Nat → Int → List Int
  | 0, _ => []
  | n + 1, k => k :: marks n (k + 1)
set_option maxHeartbeats 1000000 in
theorem l3Has_any (w : World) (a : Option Addr) (n cap : Nat) (z : Int) (zs : List Int) (hn : n ≤ maxLen) (hs : SlN w w.heap.size a n zs) :
    Calls Tryz.prog 97 #[.slice a n cap, .int .i64 z] w fun e w' => e = .returned (.bool (hasB zs z)) ∧ w' = w := by
  unfold maxLen at hn
  obtain ⟨hx, hs⟩ := hs
  go_enter Tryz.func97, Tryz.ntmps97
  go_wp2
  go_loop [5] (fun v => ∃ k : Nat, k ≤ n ∧ v = .int .i64 k ∧ ∀ i, i < k → atN zs i ≠ z) (fun v => n - (intOf v).toNat)
  case atStart => exact ⟨0, Nat.zero_le _, rfl, fun i h => absurd h (by omega)⟩
  case round =>
    obtain ⟨k, hk, rfl, hall⟩ := hrel
    have K : Hid ((∀ i, i < k → atN zs i ≠ z) ∧ zs.length = n) := ⟨hall, hx⟩
    by_cases hlt : k < n
    · rcases hs with hs | ⟨b, off, rfl, hb, h1⟩
      · omega
      · have c := h1 k _ (atN_of (by omega))
        clear h1 hall hx
        by_cases he : atN zs k = z
        · have q : (atN zs k == z) = true := by simp [he]
          have HE : Hid (atN zs k = z) := he
          clear he
          go_wp2
          go_ret
          exact ⟨by rw [has_yes (by rw [K.out.2]; exact hlt) HE.out]; rfl, rfl⟩
        · have q : (atN zs k == z) = false := by simp [he]
          have HE : Hid (atN zs k ≠ z) := he
          clear he
          go_wp2
          refine ⟨⟨k + 1, by omega, by simp, fun i hi => ?_⟩, by simp [intOf]; omega⟩
          by_cases e : i = k
          · rw [e]; exact HE.out
          · exact K.out.1 i (by omega)
    · have : k = n := by omega
      subst this
      have hd : decide ((k : Int) < (k : Int)) = false := by simp
      clear hall hx hs
      go_wp2
      go_ret
      exact ⟨by rw [has_no (by rw [K.out.2]; exact K.out.1)]; rfl, rfl⟩
def cpn (zs : List Int) : Nat → List Int
  | 0 => []
  | j + 1 => if j ≠ 0 ∧ atN zs j = atN zs (j - 1) then cpn zs j else cpn zs j ++ [atN zs j]
theorem cpn_same {zs : List Int} {j : Nat} (h : atN zs (j + 1) = atN zs j) : cpn zs (j + 1 + 1) = cpn zs (j + 1) := by
  rw [cpn]; exact if_pos ⟨by omega, by simpa using h⟩
theorem cpn_next {zs : List Int} {j : Nat} (h : atN zs (j + 1) ≠ atN zs j) : cpn zs (j + 1 + 1) = cpn zs (j + 1) ++ [atN zs (j + 1)] := by
  rw [cpn]; exact if_neg (fun e => h (by simpa using e.2))
theorem cpn_le (zs : List Int) : ∀ j, (cpn zs j).length ≤ j
  | 0 => by simp [cpn]
  | j + 1 => by
    have := cpn_le zs j
    rw [cpn]; split <;> simp <;> omega
theorem cpn_all {zs : List Int} : ∀ {k : Nat}, k ≤ zs.length → (∀ i, i + 1 < k → atN zs (i + 1) ≠ atN zs i) → cpn zs k = zs.take k
  | 0, _, _ => by simp [cpn]
  | 1, h, _ => by
    rw [cpn, cpn, if_neg (by simp), List.take_add_one, atN_of (by omega)]; simp
  | k + 2, h, h' => by
    rw [cpn_next (h' k (by omega)), cpn_all (k := k + 1) (by omega) (fun i hi => h' i (by omega)), List.take_add_one (i := k + 1), atN_of (by omega)]; rfl
theorem Room.setCells {b m : Nat} : ∀ (vs : List Value) (o : Nat) {w : World}, Room w b m → Room (w.setCells b o vs) b m
  | [], _, _, h => h
  | v :: r, o, _, h => Room.setCells r (o + 1) (h.set v)
def Shp (b : Nat) (w w' : World) : Prop := ∀ cur e fz, w.heap[b]? = some (.cells cur e fz) → ∃ cur', w'.heap[b]? = some (.cells cur' e fz) ∧ cur'.size = cur.size
theorem Shp.refl (b : Nat) (w : World) : Shp b w w := fun cur _ _ h => ⟨cur, h, rfl⟩
theorem Shp.trans {b : Nat} {u v w : World} (h : Shp b u v) (k : Shp b v w) : Shp b u w := fun cur e fz hc => by
  obtain ⟨c1, h1, s1⟩ := h cur e fz hc
  obtain ⟨c2, h2, s2⟩ := k c1 e fz h1
  exact ⟨c2, h2, s2.trans s1⟩
theorem Shp.set (b o : Nat) (w : World) (u : Value) : Shp b w (w.setCell ⟨b, o, none⟩ u) := fun cur e fz hc => by
  refine ⟨cur.setIfInBounds o u, ?_, by simp⟩
  show (w.heap.modify b _)[b]? = _
  rw [Array.getElem?_modify, if_pos rfl, hc]
  rfl
structure TurnS (c : Nat) (w w' : World) : Prop where
  t : Turned c w w'
  s : Shp c w w'
theorem TurnS.refl (c : Nat) (w : World) : TurnS c w w := ⟨Turned.refl _ _, Shp.refl _ _⟩
theorem TurnS.trans {c : Nat} {a b d : World} (h : TurnS c a b) (k : TurnS c b d) : TurnS c a d := ⟨h.t.trans k.t, h.s.trans k.s⟩
theorem TurnS.drewN {c : Nat} {a w : World} (h : TurnS c a w) (n : Nat) : TurnS c a (w.drewN n) := ⟨h.t.drewN n, h.s⟩
theorem TurnS.setCell {c : Nat} {a w : World} (h : TurnS c a w) (o : Nat) (u : Value) : TurnS c a (w.setCell ⟨c, o, none⟩ u) := ⟨h.t.setCell o u, h.s.trans (Shp.set c o w u)⟩
theorem TurnS.setCells {c : Nat} {a : World} : ∀ (vs : List Value) (o : Nat) {w : World}, TurnS c a w → TurnS c a (w.setCells c o vs)
  | [], _, _, h => h
  | v :: r, o, _, h => TurnS.setCells r (o + 1) (h.setCell o v)
theorem TurnS.of_below {c : Nat} {w w' : World} (hb : Below w.heap.size w w') (hc : c < w.heap.size) : TurnS c w w' := ⟨(Turned.refl _ _).of_below hb, fun cur _ _ h => ⟨cur, (hb.block c hc).trans h, rfl⟩⟩
set_option maxHeartbeats 4000000 in
theorem compact_own (w : World) (b cap : Nat) (zs : List Int) (hn : zs.length ≤ 1000) (hc : zs.length ≤ cap) (h : NumsAt w b 0 zs) (hr : Room w b zs.length) (hb : b < w.heap.size) :
    Calls Tryz.prog 175 #[.slice (some ⟨b, 0, none⟩) zs.length cap] w fun e w' => e = .returned (.slice (some ⟨b, 0, none⟩) (cpn zs zs.length).length cap) ∧ TurnS b w w' ∧ NumsAt w' b 0 (cpn zs zs.length) ∧ Room w' b zs.length := by
  obtain ⟨n, hN⟩ : ∃ n, n = zs.length := ⟨_, rfl⟩
  have HN : Hid (n = zs.length) := hN
  rw [← hN] at hn hc hr ⊢
  clear hN
  by_cases h2 : n < 2
  · have d2 : decide ((n : Int) < 2) = true := by simp; omega
    have KE : Hid (cpn zs n = zs ∧ NumsAt w b 0 zs ∧ Room w b n) := ⟨by rw [cpn_all (by rw [← HN.out]; exact Nat.le_refl _) (fun i hi => by omega), HN.out, List.take_length], h, hr⟩
    clear h hr h2
    go_enter Tryz.func175, Tryz.ntmps175
    go_wp2
    go_ret
    exact ⟨by rw [KE.out.1, ← HN.out]; rfl, TurnS.refl _ _, by rw [KE.out.1]; exact KE.out.2.1, KE.out.2.2⟩
  have d2 : decide ((n : Int) < 2) = false := by simp; omega
  have H : Hid (NumsAt w b 0 zs ∧ Room w b n) := ⟨h, hr⟩
  clear h hr
  go_enter Tryz.func175, Tryz.ntmps175
  go_wp2
  clear d2
  go_loopw [3] (fun v wr => ∃ j : Nat, j + 1 ≤ n ∧ v = .int .i64 ((j + 1 : Nat) : Int) ∧ Below w.heap.size w wr ∧ ∀ i, i + 1 < j + 1 → atN zs (i + 1) ≠ atN zs i) (fun v _ => n - (intOf v).toNat)
  case atStart => exact ⟨0, by omega, rfl, Below.refl _ _, fun i hi => by omega⟩
  case round =>
    obtain ⟨j, hj, rfl, hbl, hall⟩ := hrel
    have hlz : zs.length = n := HN.out.symm
    by_cases hlt : j + 1 < n
    · have c1 : wr.cell? ⟨b, j + 1, none⟩ = some (.int .i64 (atN zs (j + 1))) := (hbl.cell (p := ⟨b, j + 1, none⟩) hb).trans (by simpa using H.out.1 (j + 1) _ (atN_of (by omega)))
      have c0 : wr.cell? ⟨b, j, none⟩ = some (.int .i64 (atN zs j)) := (hbl.cell (p := ⟨b, j, none⟩) hb).trans (by simpa using H.out.1 j _ (atN_of (by omega)))
      have hi0 : (j : Int) < (n : Int) := by omega
      have hi1 : ((j + 1 : Nat) : Int) < (n : Int) := by omega
      by_cases he : atN zs (j + 1) = atN zs j
      · have q : (atN zs (j + 1) == atN zs j) = true := by simp [he]
        have KA : Hid (Below w.heap.size w wr ∧ (∀ i, i + 1 < j + 1 → atN zs (i + 1) ≠ atN zs i) ∧ atN zs (j + 1) = atN zs j ∧ zs.length = n) := ⟨hbl, hall, he, hlz⟩
        clear he hbl hall hlz
        go_wp2_with fail
        go_quiet (fail)
        have hsl : ¬ cap = j + 1 := by omega
        go_wp2
        have K1 : Hid (TurnS b w (wr.drewN nq) ∧ Room (wr.drewN nq) b n ∧ NumsAt (wr.drewN nq) b 0 zs ∧ b < (wr.drewN nq).heap.size) := by
          have bb := below_dn KA.out.1 nq
          exact ⟨TurnS.of_below bb hb, H.out.2.below bb hb, H.out.1.below bb hb, Nat.lt_of_lt_of_le hb bb.size⟩
        have KZ : Hid (cpn zs (j + 1 + (0 + 1)) = zs.take (j + 1) ∧ zs.length = n) := ⟨by rw [show j + 1 + (0 + 1) = j + 1 + 1 by omega, cpn_same KA.out.2.2.1, cpn_all (by have := KA.out.2.2.2; omega) KA.out.2.1], KA.out.2.2.2⟩
        clear c0 c1 q hi0 hi1 KA
        generalize wr.drewN nq = W1 at *
        clear wr
        go_loopw [3, 5] (fun v3 v5 wr => ∃ k i2 : Nat, i2 + 1 ≤ n - (j + 1) ∧ v5 = .int .i64 ((i2 + 1 : Nat) : Int) ∧ v3 = .int .i64 (k : Int) ∧ k = (cpn zs (j + 1 + (i2 + 1))).length ∧ k ≤ j + 1 + i2 ∧ TurnS b W1 wr ∧ Room wr b n ∧ NumsAt wr b 0 (cpn zs (j + 1 + (i2 + 1))) ∧ (∀ i, j + 1 + i2 ≤ i → i < n → wr.cell? ⟨b, i, none⟩ = some (.int .i64 (atN zs i)))) (fun _ v5 _ => n - (j + 1) - (intOf v5).toNat)
        case atStart =>
          refine ⟨j + 1, 0, by omega, rfl, rfl, ?_, by omega, TurnS.refl _ _, K1.out.2.1, ?_, fun i _ hi => ?_⟩
          · rw [KZ.out.1, List.length_take, KZ.out.2]; omega
          · rw [KZ.out.1]
            intro i z e
            rw [List.getElem?_take] at e
            split at e
            · exact K1.out.2.2.1 i z e
            · cases e
          · simpa using K1.out.2.2.1 i _ (atN_of (by rw [KZ.out.2]; exact hi))
        case round =>
          obtain ⟨k, i2, hi2, rfl, rfl, hk, hkl, htu, hro, hnu, hta⟩ := hrel
          by_cases hlt2 : i2 + 1 < n - (j + 1)
          · have c1 := hta (j + 1 + (i2 + 1)) (by omega) (by omega)
            have c0 := hta (j + 1 + i2) (by omega) (by omega)
            have hx0 : (i2 : Int) < ((n - (j + 1) : Nat) : Int) := by omega
            have hx1 : ((i2 + 1 : Nat) : Int) < ((n - (j + 1) : Nat) : Int) := by omega
            by_cases he : atN zs (j + 1 + (i2 + 1)) = atN zs (j + 1 + i2)
            · have q : (atN zs (j + 1 + (i2 + 1)) != atN zs (j + 1 + i2)) = false := by simp [he]
              have KE : Hid (k = (cpn zs (j + 1 + (i2 + 1 + 1))).length ∧ TurnS b W1 wr ∧ Room wr b n ∧ NumsAt wr b 0 (cpn zs (j + 1 + (i2 + 1 + 1))) ∧ (∀ i, j + 1 + i2 ≤ i → i < n → wr.cell? ⟨b, i, none⟩ = some (.int .i64 (atN zs i)))) := by
                have e : cpn zs (j + 1 + (i2 + 1 + 1)) = cpn zs (j + 1 + (i2 + 1)) := cpn_same (j := j + 1 + i2) he
                rw [Hid, e]; exact ⟨hk, htu, hro, hnu, hta⟩
              clear he hk htu hro hnu hta
              go_wp2_with fail
              go_quiet (fail)
              go_wp2
              obtain ⟨e1, e2, e3, e4, e5⟩ := KE.out
              exact ⟨⟨k, i2 + 1, by omega, by simp, by simp, e1, by omega, e2.drewN _, e3, e4, fun i hi hi' => e5 i (by omega) hi'⟩, by simp [intOf]; omega⟩
            · have q : (atN zs (j + 1 + (i2 + 1)) != atN zs (j + 1 + i2)) = true := by simp [he]
              have hkn : (k : Int) < (n : Int) := by omega
              obtain ⟨vk, dk, fk⟩ := hro k (by omega)
              have KE : Hid (k + 1 = (cpn zs (j + 1 + (i2 + 1 + 1))).length ∧ TurnS b W1 wr ∧ Room wr b n ∧ NumsAt (wr.setCell ⟨b, k, none⟩ (.int .i64 (atN zs (j + 1 + (i2 + 1))))) b 0 (cpn zs (j + 1 + (i2 + 1 + 1))) ∧ (∀ i, j + 1 + i2 ≤ i → i < n → wr.cell? ⟨b, i, none⟩ = some (.int .i64 (atN zs i)))) := by
                have e : cpn zs (j + 1 + (i2 + 1 + 1)) = cpn zs (j + 1 + (i2 + 1)) ++ [atN zs (j + 1 + (i2 + 1))] := cpn_next (j := j + 1 + i2) he
                rw [Hid, e]
                refine ⟨by simp [← hk], htu, hro, fun i z ez => ?_, hta⟩
                rw [Nat.zero_add]
                by_cases ei : i < k
                · rw [List.getElem?_append_left (by omega)] at ez
                  rw [cell_set_other (by omega)]
                  simpa using hnu i z ez
                · have hie : i = k := by
                    have := (List.getElem?_eq_some_iff.1 ez).1
                    simp [← hk] at this
                    omega
                  subst hie
                  rw [List.getElem?_append_right (by omega), ← hk, Nat.sub_self] at ez
                  simp at ez
                  subst ez
                  exact cell_set_same dk
              clear he hk htu hro hnu hta
              go_wp2_with fail
              go_quiet (fail)
              go_wp2
              obtain ⟨e1, e2, e3, e4, e5⟩ := KE.out
              refine ⟨⟨k + 1, i2 + 1, by omega, by simp, by simp, e1, by omega, (e2.drewN _).setCell _ _, e3.set _, e4, fun i hi hi' => ?_⟩, by simp [intOf]; omega⟩
              exact (cell_set_other (by omega)).trans (e5 i (by omega) hi')
          · have hie : i2 + 1 = n - (j + 1) := by omega
            have hd : decide (((i2 + 1 : Nat) : Int) < ((n - (j + 1) : Nat) : Int)) = false := by simp; omega
            have hks : ¬ cap = k := by omega
            have hkc : k < n := by omega
            have hcl : ∀ ty, (Builtin.clear_ #[28] ty #[.slice (some ⟨b, k, none⟩) (n - k) (cap - k)]).run Tryz.prog wr = .ok (.tuple #[]) (wr.setCells b k (List.replicate (n - k) (.int .i64 0))) := fun ty =>
              Lib.run_clear_slice wr 28 2 ty (.int .i64 0) Tryz.underlying28 (fun _ => by kernel_rfl) rfl rfl b k (n - k) (cap - k) (by omega) (fun i hi => by obtain ⟨v, h1, _⟩ := hro (k + i) (by omega); rw [h1]; rfl) (fun i hi => by obtain ⟨v, _, h1⟩ := hro (k + i) (by omega); exact h1)
            have en : j + 1 + (i2 + 1) = n := by omega
            rw [en] at hk hnu
            have KE : Hid (k = (cpn zs n).length ∧ TurnS b w wr ∧ Room wr b n ∧ NumsAt wr b 0 (cpn zs n)) := ⟨hk, K1.out.1.trans htu, hro, hnu⟩
            clear hk htu hro hnu hta hie en
            go_wp2
            go_ret
            obtain ⟨e1, e2, e3, e4⟩ := KE.out
            refine ⟨by rw [← e1]; rfl, TurnS.setCells _ _ e2, fun i z e => ?_, Room.setCells _ _ e3⟩
            rw [World.cell?_setCells_out _ _ _ _ _ (fun _ _ => .inl (by have := (List.getElem?_eq_some_iff.1 e).1; show 0 + i < k; omega))]
            exact e4 i z e
      · have q : (atN zs (j + 1) == atN zs j) = false := by simp [he]
        have KA : Hid (Below w.heap.size w wr ∧ (∀ i, i + 1 < j + 1 → atN zs (i + 1) ≠ atN zs i) ∧ atN zs (j + 1) ≠ atN zs j) := ⟨hbl, hall, he⟩
        clear he hbl hall hlz
        go_wp2_with fail
        go_quiet (fail)
        go_wp2
        exact ⟨⟨j + 1, by omega, by simp, below_dn KA.out.1 _, fun i hi => by
          by_cases e : i = j
          · rw [e]; exact KA.out.2.2
          · exact KA.out.2.1 i (by omega)⟩, by simp [intOf]; omega⟩
    · obtain rfl : n = j + 1 := by omega
      have hd : decide (((j + 1 : Nat) : Int) < ((j + 1 : Nat) : Int)) = false := by simp
      have KE : Hid (cpn zs (j + 1) = zs ∧ Below w.heap.size w wr) := ⟨by rw [cpn_all (by omega) hall, ← hlz, List.take_length], hbl⟩
      clear hall hlz hbl
      go_wp2
      go_ret
      refine ⟨by rw [KE.out.1, ← HN.out]; rfl, TurnS.of_below KE.out.2 hb, ?_, H.out.2.below KE.out.2 hb⟩
      rw [KE.out.1]; exact H.out.1.below KE.out.2 hb
def OwnIn (w : World) (P : Nat → Prop) (a : Option Addr) (zs : List Int) : Prop := zs = [] ∨ ∃ b, a = some ⟨b, 0, none⟩ ∧ P b ∧ b < w.heap.size ∧ NumsAt w b 0 zs ∧ Room w b zs.length
theorem NumsAt.of_blk {w w' : World} {b off : Nat} {zs : List Int} (h : NumsAt w b off zs) (e : w'.heap[b]? = w.heap[b]?) : NumsAt w' b off zs := fun i z hz => (World.cell?_of_block (a := ⟨b, off + i, none⟩) e).trans (h i z hz)
theorem OwnIn.keep {w w' : World} {P : Nat → Prop} {a : Option Addr} {zs : List Int} (h : OwnIn w P a zs) (hs : w.heap.size ≤ w'.heap.size) (hk : ∀ q, q < w.heap.size → P q → w'.heap[q]? = w.heap[q]?) : OwnIn w' P a zs := by
  rcases h with h | ⟨b, ha, hp, hl, hn, hr⟩
  · exact .inl h
  · exact .inr ⟨b, ha, hp, Nat.lt_of_lt_of_le hl hs, hn.of_blk (hk b hl hp), hr.of_block (hk b hl hp)⟩
theorem OwnIn.sl {w : World} {P : Nat → Prop} {a : Option Addr} {zs : List Int} (h : OwnIn w P a zs) : SlN w w.heap.size a zs.length zs := by
  rcases h with e | ⟨b, ha, _, hl, hn, _⟩
  · exact ⟨rfl, .inl (by rw [e]; rfl)⟩
  · exact ⟨rfl, .inr ⟨b, 0, ha, hl, hn⟩⟩
def intC (z : Int) : List Value := [.int .i64 z]
def RowI (W : World) (base : Nat) (v : Value) (zs : List Int) : Prop := W.ownsRow base 2 1 v zs.length (zs.flatMap intC)
theorem infoNum : (Tryz.prog.info? 2).map (fun i => (i.zero, i.size, i.bytes)) = some (some (.int .i64 0), 1, 8) := by kernel_rfl
theorem pushI {W : World} {base : Nat} {v : Value} {zs : List Int} (h : RowI W base v zs) (z : Int) (hm : zs.length + 1 ≤ 1048576) (ty : TypeId) (b k : Nat) (src : W.cell? ⟨b, 0, none⟩ = some (.int .i64 z)) (hbase : base ≤ W.heap.size) :
    ∃ v' W', (Builtin.append_ #[28, 28] ty #[v, .slice (some ⟨b, 0, none⟩) 1 k]).run Tryz.prog W = .ok v' W' ∧ RowI W' base v' (zs ++ [z]) ∧ W.grownBy W' v.ownBlock ∧ (v'.ownBlock = v.ownBlock ∨ v'.ownBlock = some W.heap.size) := by
  obtain ⟨i0, hi0, hz0, hz1, hz2⟩ := partsOf infoNum
  exact pushX (cells := intC) (sz := 1) (by_ := 8) (fun _ => rfl) (fun s u hu => by simp only [intC, List.mem_cons, List.not_mem_nil, or_false] at hu; subst hu; rfl) (by omega) Tryz.underlying28 hi0 hz0 hz1 hz2 rfl (by omega) h [z] hm ty b 0 k (fun i s e t u hu => by
    rcases i with _ | i
    · simp at e; subst e
      rcases t with _ | t
      · simp [intC] at hu; subst hu; exact src
      · simp [intC] at hu
    · simp at e) hbase
theorem RowI.nil (W : World) (base : Nat) : RowI W base (.slice none 0 0) [] := ⟨rfl, .inl ⟨rfl, rfl⟩⟩
theorem RowI.lt {W : World} {base : Nat} {v : Value} {zs : List Int} (h : RowI W base v zs) {q : Nat} (e : v.ownBlock = some q) : base ≤ q ∧ q < W.heap.size := World.ownsRow.lt h q e
theorem RowI.later {W W' : World} {base : Nat} {v : Value} {zs : List Int} (h : RowI W base v zs) (hb : Below W.heap.size W W') : RowI W' base v zs := row_keep h (fun q e => hb.block q (h.lt e).2)
theorem RowI.made (W : World) : RowI (W.alloc (.cells #[] 2)) W.heap.size (.slice (some ⟨W.heap.size, 0, none⟩) 0 0) [] := World.ownsRow_made W #[] 0 (Nat.le_refl _) (Nat.zero_le _) rfl
theorem intC_map (zs : List Int) : zs.flatMap intC = zs.map (Value.int .i64) := List.map_eq_flatMap.symm
theorem RowI.form {W : World} {base : Nat} {v : Value} {zs : List Int} (h : RowI W base v zs) : ∃ a c, v = .slice a zs.length c ∧ OwnIn W (fun q => v.ownBlock = some q) a zs ∧ zs.length ≤ c ∧ (zs ≠ [] → ∃ q, a = some ⟨q, 0, none⟩) := by
  have h' := h
  rcases h.2 with ⟨rfl, h0⟩ | ⟨q, cap, cur, rfl, hb, hg, hl, _⟩
  · have hz := List.eq_nil_of_length_eq_zero h0
    exact ⟨none, 0, by rw [h0], .inl hz, by omega, fun e => absurd hz e⟩
  · refine ⟨some ⟨q, 0, none⟩, cap, rfl, .inr ⟨q, rfl, rfl, (World.ownsRow.lt h q rfl).2, fun i z ez => ?_, fun j hj => ⟨.int .i64 (zs[j]'hj), ?_, World.ownsRow.frozenAt h j⟩⟩, hl, fun _ => ⟨q, rfl⟩⟩
    · have hi := (List.getElem?_eq_some_iff.1 ez).1
      rw [Nat.zero_add, World.ownsRow.cellAt h i (by omega), intC_map, List.getElem?_map, ez]; rfl
    · rw [World.ownsRow.cellAt h j (by omega), intC_map, List.getElem?_map, List.getElem?_eq_getElem hj]; rfl
def IAns (w : World) (zs : List Int) (e : Ending) (w' : World) : Prop :=
  ∃ (a : Option Addr) (c : Nat) (P : Nat → Prop), e = .returned (.slice a zs.length c) ∧ OwnIn w' P a zs ∧ (∀ q, P q → w.heap.size ≤ q ∧ q < w'.heap.size) ∧ Below w.heap.size w w'
theorem IAns.of {w w' : World} {base : Nat} {v : Value} {zs : List Int} (h : RowI w' base v zs) (hb : w.heap.size ≤ base) (b : Below w.heap.size w w') : IAns w zs (.returned v) w' := by
  obtain ⟨a, c, e, ho, _⟩ := h.form
  exact ⟨a, c, _, by rw [e], ho, fun q hq => ⟨Nat.le_trans hb (h.lt hq).1, (h.lt hq).2⟩, b⟩
theorem IAns.none {w w' : World} (a : Option Addr) (c : Nat) (b : Below w.heap.size w w') : IAns w [] (.returned (.slice a 0 c)) w' := ⟨a, c, fun _ => False, rfl, .inl rfl, fun _ h => h.elim, b⟩
def wln (zs : List Int) : Nat → List Int
  | 0 => []
  | j + 1 => if hasB (wln zs j) (atN zs j) = true then wln zs j else wln zs j ++ [atN zs j]
theorem wln_le (zs : List Int) : ∀ j, (wln zs j).length ≤ j
  | 0 => by simp [wln]
  | j + 1 => by have := wln_le zs j; rw [wln]; split <;> simp <;> omega
theorem has_mem {zs : List Int} {z : Int} : hasB zs z = true ↔ z ∈ zs := by
  rw [hasB, List.any_eq_true]
  constructor
  · rintro ⟨y, hy, e⟩; simp at e; rw [← e]; exact hy
  · intro h; exact ⟨z, h, by simp⟩
theorem cpn_wln {zs : List Int} (h : ∀ i, i + 1 < zs.length → atN zs i ≤ atN zs (i + 1)) : ∀ j, j ≤ zs.length → cpn zs j = wln zs j ∧ (∀ z ∈ cpn zs j, ∃ i, i < j ∧ z = atN zs i) ∧ (0 < j → atN zs (j - 1) ∈ cpn zs j)
  | 0, _ => ⟨rfl, fun z hz => by simp [cpn] at hz, fun h => by omega⟩
  | j + 1, hj => by
    obtain ⟨e, hm, hl⟩ := cpn_wln h j (by omega)
    have up : ∀ d i, i + d < zs.length → atN zs i ≤ atN zs (i + d) := by
      intro d
      induction d with
      | zero => intro i _; exact Int.le_refl _
      | succ d ih => intro i hi; exact Int.le_trans (ih i (by omega)) (h (i + d) (by omega))
    by_cases hs : j ≠ 0 ∧ atN zs j = atN zs (j - 1)
    · have e1 : cpn zs (j + 1) = cpn zs j := by rw [cpn]; exact if_pos hs
      have hin : atN zs j ∈ cpn zs j := by rw [hs.2]; exact hl (by omega)
      have e2 : wln zs (j + 1) = wln zs j := by rw [wln]; exact if_pos (has_mem.2 (by rw [← e]; exact hin))
      refine ⟨by rw [e1, e2, e], fun z hz => ?_, fun _ => by rw [e1]; simpa using hin⟩
      rw [e1] at hz
      obtain ⟨i, hi, ez⟩ := hm z hz
      exact ⟨i, by omega, ez⟩
    · have e1 : cpn zs (j + 1) = cpn zs j ++ [atN zs j] := by rw [cpn]; exact if_neg hs
      have hno : ¬ hasB (wln zs j) (atN zs j) = true := fun hh => by
        rw [has_mem, ← e] at hh
        obtain ⟨i, hi, ez⟩ := hm _ hh
        have g1 := up (j - 1 - i) i (by omega)
        rw [show i + (j - 1 - i) = j - 1 by omega] at g1
        have g2 := h (j - 1) (by omega)
        rw [show j - 1 + 1 = j by omega] at g2
        exact hs ⟨by omega, by omega⟩
      have e2 : wln zs (j + 1) = wln zs j ++ [atN zs j] := by rw [wln]; exact if_neg hno
      refine ⟨by rw [e1, e2, e], fun z hz => ?_, fun _ => by rw [e1]; simp⟩
      rw [e1] at hz
      rcases List.mem_append.1 hz with hz | hz
      · obtain ⟨i, hi, ez⟩ := hm z hz
        exact ⟨i, by omega, ez⟩
      · simp at hz
        exact ⟨j, by omega, hz⟩
def rgs (xs : List S5) : List Int := xs.map S5.region
theorem rgs_at {xs : List S5} {k : Nat} (h : k < xs.length) : atN (rgs xs) k = (atSe xs k).region := by
  unfold atN atSe rgs
  rw [List.getElem?_map, List.getElem?_eq_getElem h]; rfl
theorem rgs_take {xs : List S5} {k : Nat} (h : k < xs.length) : rgs (xs.take (k + 1)) = rgs (xs.take k) ++ [(atSe xs k).region] := by
  unfold rgs
  rw [List.take_add_one, atSe_of h, List.map_append]; rfl
theorem rgs_up {t : T7} (h : txB t = true) : ∀ i, i + 1 < (rgs t.sets).length → atN (rgs t.sets) i ≤ atN (rgs t.sets) (i + 1) := by
  intro i hi
  have hl : (rgs t.sets).length = t.sets.length := by simp [rgs]
  rw [hl] at hi
  rw [rgs_at (by omega), rgs_at hi]
  simp only [txB, Bool.and_eq_true] at h
  have := List.all_eq_true.1 h.2 (i + 1) (List.mem_range.2 hi)
  simp only [seAt, Bool.and_eq_true, Bool.or_eq_true, decide_eq_true_eq, lessB] at this
  rcases this.2 with e | e | e
  · omega
  · simp at e; omega
  · have := e.1; simp at this; omega
theorem txB_sets {t : T7} (h : txB t = true) : t.reads.length ≤ 12 ∧ t.sets.length ≤ 12 := by
  simp only [txB, Bool.and_eq_true, decide_eq_true_eq] at h
  exact ⟨h.1.1.1.2, h.1.1.2⟩
def wantsT (t : T7) : List Int := if txB t = true then wln (rgs t.sets) t.sets.length else []
theorem compact_none (w : World) (a : Option Addr) (cap : Nat) : Calls Tryz.prog 175 #[.slice a 0 cap] w fun e w' => e = .returned (.slice a 0 cap) ∧ w' = w := by
  go_enter Tryz.func175, Tryz.ntmps175
  go_wp2
  go_ret
  exact ⟨rfl, rfl⟩
def WAns (w : World) (zs : List Int) (e : Ending) (w' : World) : Prop := ∃ v, e = .returned v ∧ RowI w' w.heap.size v zs ∧ Below w.heap.size w w'
theorem WAns.i {w : World} {zs : List Int} {e : Ending} {w' : World} (h : WAns w zs e w') : IAns w zs e w' := by
  obtain ⟨v, rfl, h1, h2⟩ := h
  exact IAns.of h1 (Nat.le_refl _) h2
theorem RowI.up {W : World} {base base' : Nat} {v : Value} {zs : List Int} (h : RowI W base' v zs) (hb : base ≤ base') : RowI W base v zs := by
  obtain ⟨h1, h2⟩ := h
  refine ⟨h1, h2.imp id ?_⟩
  rintro ⟨g, cap, cur, e, hg, r⟩
  exact ⟨g, cap, cur, e, Nat.le_trans hb hg, r⟩
theorem RowI.cut {w w' : World} {base b k : Nat} {zs C : List Int} (h : RowI w base (.slice (some ⟨b, 0, none⟩) zs.length k) zs) (hs : Shp b w w') (hn : NumsAt w' b 0 C) (hl : C.length ≤ zs.length) : RowI w' base (.slice (some ⟨b, 0, none⟩) C.length k) C := by
  obtain ⟨_, h2⟩ := h
  rcases h2 with ⟨e, _⟩ | ⟨g, cap, cur, e, hb, hg, hn1, hm, hsz, _⟩
  · cases e
  · cases e
    obtain ⟨cur', h3, h4⟩ := hs cur _ _ hg
    refine ⟨by rw [intC_map]; simp, .inr ⟨b, k, cur', rfl, hb, h3, by omega, hm, h4.trans hsz, ?_⟩⟩
    rw [intC_map, Nat.mul_one]
    refine List.ext_getElem? fun i => ?_
    rw [List.getElem?_take, List.getElem?_map]
    by_cases hi : i < C.length
    · have := hn i _ (List.getElem?_eq_getElem hi)
      rw [Nat.zero_add] at this
      simp only [World.cell?, h3] at this
      rw [if_pos hi, List.getElem?_eq_getElem hi, Option.map_some, Array.getElem?_toList]
      simpa using this
    · rw [if_neg hi, List.getElem?_eq_none (by omega)]; rfl
set_option maxHeartbeats 4000000 in
theorem implWantsR_any (w : World) (v : TV) (t : T7) (hl : TL t) (hs : SlT w v t) :
    Calls Tryz.prog 140 #[v.val t] w (WAns w (wantsT t)) := by
  obtain ⟨ar, cr, ah, ch⟩ := v
  simp only [TV.val]
  obtain ⟨W, hW⟩ : ∃ W, W = w.alloc (.cells #[.int .i64 t.id, .int .i64 t.home, .int .i64 t.phase, .int .i64 t.count, .slice ar t.reads.length cr, .slice ah t.sets.length ch, .int .i64 t.stamp] 55) := ⟨_, rfl⟩
  have b0 : Below w.heap.size w W := by rw [hW]; exact (Below.refl _ _).alloc (Nat.le_refl _) _
  have x0 : BT W w.heap.size ⟨ar, cr, ah, ch⟩ t := by rw [hW]; exact BT.box w ⟨ar, cr, ah, ch⟩ t _
  have c1 := implTxOk_any W ⟨ar, cr, ah, ch⟩ t hl (hs.later b0)
  simp only [TV.val] at c1
  have H : Hid (SlT W ⟨ar, cr, ah, ch⟩ t ∧ BT W w.heap.size ⟨ar, cr, ah, ch⟩ t ∧ Below w.heap.size w W) := ⟨hs.later b0, x0, b0⟩
  clear hs b0 x0 hl
  cases hB : txB t with
  | false =>
    rw [hB] at c1
    have HN : Hid (wantsT t = []) := by unfold Hid; simp [wantsT, hB]
    go_enter Tryz.func140, Tryz.ntmps140
    go_wp2_with fail
    rw [← hW]
    clear hW
    refine c1.mono ?_
    clear c1
    rintro e w1 ⟨rfl, b1⟩
    have KB : Hid (Below w.heap.size w w1) := H.out.2.2.trans (b1.mono H.out.2.2.size)
    clear b1
    go_wp2
    go_ret
    rw [HN.out]
    exact ⟨_, rfl, RowI.nil _ _, KB.out⟩
  | true =>
    rw [hB] at c1
    have hlr : (rgs t.sets).length = t.sets.length := by simp [rgs]
    have HN : Hid (wantsT t = cpn (rgs t.sets) (rgs t.sets).length) := by
      unfold Hid
      rw [(cpn_wln (rgs_up hB) _ (Nat.le_refl _)).1, hlr]
      simp [wantsT, hB]
    have HR : Hid ((rgs t.sets).length = t.sets.length) := hlr
    have hl12 := (txB_sets hB).2
    clear hlr
    go_enter Tryz.func140, Tryz.ntmps140
    go_wp2_with fail
    rw [← hW]
    clear hW
    refine c1.mono ?_
    clear c1
    rintro e w1 ⟨rfl, b1⟩
    have p5 := (H.out.2.1.later b1).c5
    dsimp only at p5
    have K1 : Hid (SlT w1 ⟨ar, cr, ah, ch⟩ t ∧ Below w.heap.size w w1) := ⟨H.out.1.later b1, H.out.2.2.trans (b1.mono H.out.2.2.size)⟩
    clear b1 H
    go_wp2
    clear p5
    go_loopw [3, 12] (fun v3 v12 wr => ∃ k : Nat, k ≤ t.sets.length ∧ v12 = .int .i64 k ∧ RowI wr w1.heap.size v3 (rgs (t.sets.take k)) ∧ Below w1.heap.size w1 wr) (fun _ v12 _ => t.sets.length - (intOf v12).toNat)
    case atStart => exact ⟨0, Nat.zero_le _, rfl, by simpa [rgs] using RowI.nil w1 _, Below.refl _ _⟩
    case round =>
      obtain ⟨k, hk, rfl, hrow, hbl⟩ := hrel
      obtain ⟨h1, h2⟩ := K1.out
      have hsz := hbl.size
      by_cases hlt : k < t.sets.length
      · obtain ⟨_, hsk⟩ := (h1.later hbl).s
        dsimp only at hsk
        rcases hsk with hsk | ⟨b, off, rfl, hb, hx⟩
        · omega
        obtain ⟨c0, c1, c2, c3, c4⟩ := hx k _ (atSe_of hlt)
        obtain ⟨U, hU⟩ : ∃ V, V = wr.alloc (.cells #[.int .i64 (atSe t.sets k).region, .int .i64 (atSe t.sets k).slot, .int .i64 (atSe t.sets k).value, .bool (atSe t.sets k).used, .int .i64 (atSe t.sets k).version] 106) := ⟨_, rfl⟩
        have bU : Below wr.heap.size wr U := by rw [hU]; exact (Below.refl _ _).alloc (Nat.le_refl _) _
        have zU : U.heap.size = wr.heap.size + 1 := by rw [hU]; simp
        obtain ⟨V, hV⟩ : ∃ V, V = U.alloc (.cells #[.int .i64 (atSe t.sets k).region] 2) := ⟨_, rfl⟩
        have bV : Below wr.heap.size wr V := by rw [hV]; exact bU.alloc bU.size _
        have hone : V.cell? ⟨wr.heap.size + 1, 0, none⟩ = some (.int .i64 (atSe t.sets k).region) := by rw [hV, ← zU]; go_simp
        have hlk : (rgs (t.sets.take k)).length + 1 ≤ 1048576 := by unfold rgs; rw [List.length_map, List.length_take]; omega
        obtain ⟨v', Y, hr, hrow', hgr, hlies⟩ := pushI (hrow.later bV) (atSe t.sets k).region hlk 28 (wr.heap.size + 1) 1 hone (by have := bV.size; omega)
        have KE : Hid (RowI Y w1.heap.size v' (rgs (t.sets.take (k + 1))) ∧ Below w1.heap.size w1 Y) := by
          refine ⟨by rw [rgs_take hlt]; exact hrow', ?_⟩
          exact (hbl.trans (bV.mono (by omega))).grown hgr (by have := bV.size; omega) (fun q e => (hrow.lt e).1)
        rw [hV, hU] at hr
        clear hV hU bV bU zU hone hrow' hgr hlies hrow hbl h1 h2 hx hlk
        go_wp2_with (at_builtin; refine append_known _ rfl (.tmp 16) (.tmp 19) 28 rfl _ _ _ _ rfl rfl hr ?_)
        exact ⟨⟨k + 1, by omega, by simp, KE.out.1, KE.out.2⟩, by simp [intOf]; omega⟩
      · obtain rfl : k = t.sets.length := by omega
        have hd : decide ((t.sets.length : Int) < (t.sets.length : Int)) = false := by simp
        rw [List.take_length] at hrow
        obtain ⟨a3, k3, rfl, ho3, hc3, hs3⟩ := hrow.form
        have KE : Hid (Below w.heap.size w wr ∧ w.heap.size ≤ w1.heap.size ∧ RowI wr w1.heap.size (.slice a3 (rgs t.sets).length k3) (rgs t.sets)) := ⟨h2.trans (hbl.mono h2.size), h2.size, hrow⟩
        clear hrow hbl h1 h2
        rcases ho3 with hnil | ⟨b3, rfl, hp3, hl3, hn3, hr3⟩
        · have HZ : Hid (wantsT t = [] ∧ (rgs t.sets).length = 0) := ⟨by rw [HN.out, hnil]; rfl, by rw [hnil]; rfl⟩
          have KI : Hid (RowI wr w.heap.size (.slice a3 0 k3) []) := by
            have := KE.out.2.2.up KE.out.2.1
            rw [hnil] at this
            exact this
          have e0 := HZ.out.2
          rw [e0]
          clear hnil hc3 hs3 e0
          have hc := compact_none wr a3 k3
          go_wp2_with fail
          refine hc.mono ?_
          clear hc
          rintro e w' ⟨rfl, rfl⟩
          go_wp2
          go_ret
          rw [HZ.out.1]
          exact ⟨_, rfl, KI.out, KE.out.1⟩
        · have hc := compact_own wr b3 k3 (rgs t.sets) (by rw [HR.out]; omega) hc3 hn3 hr3 hl3
          have KB : Hid (w1.heap.size ≤ b3 ∧ b3 < wr.heap.size) := KE.out.2.2.lt rfl
          clear hc3 hs3 hp3 hl3 hn3 hr3
          have HW : Hid (WAns w (wantsT t) = WAns w (cpn (rgs t.sets) (rgs t.sets).length)) := by unfold Hid; rw [HN.out]
          have HLE : Hid ((cpn (rgs t.sets) (rgs t.sets).length).length ≤ (rgs t.sets).length) := cpn_le _ _
          generalize cpn (rgs t.sets) (rgs t.sets).length = C at *
          go_wp2_with fail
          refine hc.mono ?_
          clear hc
          rintro e w' ⟨rfl, ht, hn, hr⟩
          have KF : Hid (TurnS b3 wr w' ∧ NumsAt w' b3 0 C ∧ Room w' b3 (rgs t.sets).length) := ⟨ht, hn, hr⟩
          clear ht hn hr
          go_wp2
          go_ret
          rw [HW.out]
          obtain ⟨f1, f2, f3⟩ := KF.out
          have g1 := KB.out
          have g2 := KE.out.2.1
          have bb : Below w.heap.size w w' := KE.out.1.trans (f1.t.below (by omega) KE.out.1.size)
          exact ⟨_, rfl, (RowI.cut KE.out.2.2 f1.s f2 HLE.out).up KE.out.2.1, bb⟩
theorem implWants_any (w : World) (v : TV) (t : T7) (hl : TL t) (hs : SlT w v t) : Calls Tryz.prog 140 #[v.val t] w (IAns w (wantsT t)) := (implWantsR_any w v t hl hs).mono fun _ _ h => h.i
end Go.Proofs.YtdmpobegobfpjaaGreat.tx