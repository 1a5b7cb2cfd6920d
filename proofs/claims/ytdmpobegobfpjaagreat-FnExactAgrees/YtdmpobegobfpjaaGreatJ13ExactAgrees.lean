/- OrP; RpR; CelI; AgI; Opens; OpenCells; OpenMac; YOpenTx; OpenCl; KdClT; KdMm; KdTm; NumHeld; PlsMa; PlsQ; KdClM: joined. -/
import Derived.Test.YtdmpobegobfpjaaGreatRows
import Derived.Test.YtdmpobegobfpjaaGreatJ12ExactAgrees
import Derived.Test.YtdmpobegobfpjaaGreatJ2ExactAgrees
import Derived.WalkKit
import Derived.WalkSpells
import Derived.WalkLawsBesides
import Derived.Below
import Derived.Lib.QuietBelow
import Derived.BigQuiet
import Derived.Deep.CutRange
import Derived.LaidEql
import Derived.RowKitTokens
import Derived.Test.YtdmpobegobfpjaaGreatJ10ExactAgrees
import Derived.Test.YtdmpobegobfpjaaGreatJ9ExactAgrees
import Derived.Deep.RegionWith
import Derived.Test.YtdmpobegobfpjaaGreatJ0ExactAgrees
import Derived.ProofKit
import Derived.OpenShut
import Derived.Deep.Slices
import Derived.Lib.SmallJoins
import Derived.Test.YtdmpobegobfpjaaGreatJ1ExactAgrees
import Derived.Test.YtdmpobegobfpjaaGreatJ5ExactAgrees
import Derived.Test.YtdmpobegobfpjaaGreatJ6ExactAgrees
import Derived.Test.YtdmpobegobfpjaaGreatJ3ExactAgrees
import Derived.Test.YtdmpobegobfpjaaGreatJ4ExactAgrees
namespace Go.Proofs.YtdmpobegobfpjaaGreat
open Go.RowKit
open Go.Sort (grow)
set_option maxHeartbeats 2000000 in
theorem toldC_any (w : World) (v : tx.TV) (t : tx.T7) (hl : tx.TL t) (hs : tx.SlT w v t) : Calls Tryz.prog 69 #[.agg #[.int .i64 (t).id, .int .i64 (t).home, .int .i64 (t).phase, .int .i64 (t).count, .slice (v).ar (t).reads.length (v).cr, .slice (v).ah (t).sets.length (v).ch, .int .i64 (t).stamp]] w fun e w' => e = .returned (.bool (tx.toldR t == 1)) ∧ Below w.heap.size w w' := by
  obtain ⟨U, hU⟩ : ∃ Y, Y = w.alloc (.cells #[.int .i64 (t).id, .int .i64 (t).home, .int .i64 (t).phase, .int .i64 (t).count, .slice (v).ar (t).reads.length (v).cr, .slice (v).ah (t).sets.length (v).ch, .int .i64 (t).stamp] 55) := ⟨_, rfl⟩
  have bU : Below w.heap.size w U := by rw [hU]; exact (Below.refl _ _).alloc (Nat.le_refl _) _
  have XT : Bx U w.heap.size [.int .i64 (t).id, .int .i64 (t).home, .int .i64 (t).phase, .int .i64 (t).count, .slice (v).ar (t).reads.length (v).cr, .slice (v).ah (t).sets.length (v).ch, .int .i64 (t).stamp] := by rw [hU]; exact Bx.made w [.int .i64 (t).id, .int .i64 (t).home, .int .i64 (t).phase, .int .i64 (t).count, .slice (v).ar (t).reads.length (v).cr, .slice (v).ah (t).sets.length (v).ch, .int .i64 (t).stamp] _
  have htd := tx.implTold_any U v t hl (hs.later bU)
  simp only [tx.TV.val] at htd
  have p0 := XT.1 0 _ rfl
  have p1 := XT.1 1 _ rfl
  have p2 := XT.1 2 _ rfl
  have p3 := XT.1 3 _ rfl
  have p4 := XT.1 4 _ rfl
  have p5 := XT.1 5 _ rfl
  have p6 := XT.1 6 _ rfl
  rw [hU] at p0 p1 p2 p3 p4 p5 p6
  have BU := hidOf bU
  clear XT bU hl hs
  go_enter Tryz.func69, Tryz.ntmps69
  go_wp2_with fail
  rw [← hU]
  clear hU p0 p1 p2 p3 p4 p5 p6
  refine htd.mono ?_
  clear htd
  rintro e W1 ⟨rfl, b1⟩
  go_wp2
  go_ret
  exact ⟨rfl, bstep BU.out b1⟩
def OrdR (w : World) (xs : List (tx.TV × tx.T7)) (e : Ending) (w' : World) : Prop := ∃ a c, e = .returned (.slice a xs.length c) ∧ (xs = [] ∨ ∃ b, a = some ⟨b, 0, none⟩ ∧ RwX w' w.heap.size b xs) ∧ Below w.heap.size w w'
theorem RwX.up {W : World} {base base' b : Nat} {xs : List (tx.TV × tx.T7)} (h : RwX W base' b xs) (hb : base ≤ base') : RwX W base b xs := ⟨h.1, h.2.1, Nat.le_trans hb h.2.2.1, h.2.2.2⟩
set_option maxRecDepth 100000 in
set_option maxHeartbeats 16000000 in
theorem ordered_any (w : World) (a1 : Option Addr) (c1 : Nat) (a2 : Option Addr) (c2 : Nat) (a3 : Option Addr) (c3 : Nat) (k : C6) (tv : Nat → tx.TV) (hk : clusterB k = true) (hl : KCl.L k) (ht : k.txs = [] ∨ ∃ b off, a3 = some ⟨b, off, none⟩ ∧ b < w.heap.size ∧ AtX w b off ((List.range k.txs.length).map fun j => (tv j, atT k.txs j)) ∧ ∀ j, j < k.txs.length → tx.SlT w (tv j) (atT k.txs j)) :
    Calls Tryz.prog 34 #[.agg #[.int .i64 k.config, .int .i64 k.clock, .slice a1 k.places.length c1, .slice a2 k.machines.length c2, .slice a3 k.txs.length c3, .bool k.lost]] w (OrdR w (ordX k tv k.txs.length)) := by
  have hn := (CSm.of hk).t
  obtain ⟨U, hU⟩ : ∃ Y, Y = w.alloc (.cells #[.int .i64 k.config, .int .i64 k.clock, .slice a1 k.places.length c1, .slice a2 k.machines.length c2, .slice a3 k.txs.length c3, .bool k.lost] 34) := ⟨_, rfl⟩
  have bU : Below w.heap.size w U := by rw [hU]; exact (Below.refl _ _).alloc (Nat.le_refl _) _
  have FA : Hid (Bx U w.heap.size [.int .i64 k.config, .int .i64 k.clock, .slice a1 k.places.length c1, .slice a2 k.machines.length c2, .slice a3 k.txs.length c3, .bool k.lost]) := by unfold Hid; rw [hU]; exact Bx.made w [.int .i64 k.config, .int .i64 k.clock, .slice a1 k.places.length c1, .slice a2 k.machines.length c2, .slice a3 k.txs.length c3, .bool k.lost] _
  have sU : U.heap.size = w.heap.size + 1 := by rw [hU]; simp
  have BU := hidOf bU
  have SU := hidOf sU
  have HT := hidOf ht
  have HK := hidOf hk
  have HTS : Hid (∀ t ∈ k.txs, tx.TL t) := hl.ts
  have p4 := FA.out.1 4 _ rfl
  rw [hU] at p4
  clear bU sU ht hl hk
  go_enter Tryz.func34, Tryz.ntmps34
  go_wp2
  rw [← hU]
  clear hU p4
  go_loopw [3, 9] (fun v3 v9 wr => ∃ i : Nat, i ≤ k.txs.length ∧ v9 = .int .i64 i ∧ RowX wr U.heap.size v3 (rowJ k tv (tolJ k i)) ∧ (tolJ k i = [] → v3 = .slice none 0 0) ∧ Below U.heap.size U wr) (fun _ v9 _ => k.txs.length - (intOf v9).toNat)
  case atStart => exact ⟨0, Nat.zero_le _, rfl, RowX.nil _ _, fun _ => rfl, Below.refl _ _⟩
  case round =>
    obtain ⟨i, hi, rfl, hrow, hnil, hbl⟩ := hrel
    have KD : Hid (RowX wr U.heap.size u3 (rowJ k tv (tolJ k i)) ∧ (tolJ k i = [] → u3 = .slice none 0 0) ∧ Below U.heap.size U wr) := ⟨hrow, hnil, hbl⟩
    clear hrow hnil hbl
    by_cases hlt : i < k.txs.length
    · rcases HT.out with e0 | ⟨tb, tq, rfl, htb, hat, hsl⟩
      · rw [e0] at hlt; simp at hlt
      have bwr : Below w.heap.size w wr := bstep BU.out KD.out.2.2
      have hx := hat i (tv i, atT k.txs i) (by rw [List.getElem?_map, List.getElem?_range hlt]; rfl)
      have g0 : wr.cell? ⟨tb, tq + i * 7, none⟩ = some (.int .i64 (atT k.txs i).id) := (bwr.cell (p := ⟨tb, tq + i * 7, none⟩) htb).trans (hx 0 _ rfl)
      have g1 : wr.cell? ⟨tb, tq + i * 7 + 1, none⟩ = some (.int .i64 (atT k.txs i).home) := (bwr.cell (p := ⟨tb, tq + i * 7 + 1, none⟩) htb).trans (hx 1 _ rfl)
      have g2 : wr.cell? ⟨tb, tq + i * 7 + 2, none⟩ = some (.int .i64 (atT k.txs i).phase) := (bwr.cell (p := ⟨tb, tq + i * 7 + 2, none⟩) htb).trans (hx 2 _ rfl)
      have g3 : wr.cell? ⟨tb, tq + i * 7 + 3, none⟩ = some (.int .i64 (atT k.txs i).count) := (bwr.cell (p := ⟨tb, tq + i * 7 + 3, none⟩) htb).trans (hx 3 _ rfl)
      have g4 : wr.cell? ⟨tb, tq + i * 7 + 4, none⟩ = some (.slice (tv i).ar (atT k.txs i).reads.length (tv i).cr) := (bwr.cell (p := ⟨tb, tq + i * 7 + 4, none⟩) htb).trans (hx 4 _ rfl)
      have g5 : wr.cell? ⟨tb, tq + i * 7 + 5, none⟩ = some (.slice (tv i).ah (atT k.txs i).sets.length (tv i).ch) := (bwr.cell (p := ⟨tb, tq + i * 7 + 5, none⟩) htb).trans (hx 5 _ rfl)
      have g6 : wr.cell? ⟨tb, tq + i * 7 + 6, none⟩ = some (.int .i64 (atT k.txs i).stamp) := (bwr.cell (p := ⟨tb, tq + i * 7 + 6, none⟩) htb).trans (hx 6 _ rfl)
      obtain ⟨X, hX⟩ : ∃ Y, Y = wr.alloc (.cells #[.int .i64 (atT k.txs i).id, .int .i64 (atT k.txs i).home, .int .i64 (atT k.txs i).phase, .int .i64 (atT k.txs i).count, .slice (tv i).ar (atT k.txs i).reads.length (tv i).cr, .slice (tv i).ah (atT k.txs i).sets.length (tv i).ch, .int .i64 (atT k.txs i).stamp] 55) := ⟨_, rfl⟩
      have bX : Below wr.heap.size wr X := by rw [hX]; exact (Below.refl _ _).alloc (Nat.le_refl _) _
      have XT : Hid (Bx X wr.heap.size [.int .i64 (atT k.txs i).id, .int .i64 (atT k.txs i).home, .int .i64 (atT k.txs i).phase, .int .i64 (atT k.txs i).count, .slice (tv i).ar (atT k.txs i).reads.length (tv i).cr, .slice (tv i).ah (atT k.txs i).sets.length (tv i).ch, .int .i64 (atT k.txs i).stamp]) := by unfold Hid; rw [hX]; exact Bx.made wr [.int .i64 (atT k.txs i).id, .int .i64 (atT k.txs i).home, .int .i64 (atT k.txs i).phase, .int .i64 (atT k.txs i).count, .slice (tv i).ar (atT k.txs i).reads.length (tv i).cr, .slice (tv i).ah (atT k.txs i).sets.length (tv i).ch, .int .i64 (atT k.txs i).stamp] _
      have BX := hidOf bX
      have htd := toldC_any X (tv i) (atT k.txs i) (HTS.out _ (List.mem_of_getElem? (atT_of hlt))) ((hsl i hlt).later (bstep bwr bX))
      have jn : (i : Int) < (k.txs.length : Int) := by omega
      clear hx hat hsl bX bwr htb
      go_wp2_with fail
      rw [← hX]
      clear hX g0 g1 g2 g3 g4 g5 g6
      refine htd.mono ?_
      clear htd
      rintro e W1 ⟨rfl, b1⟩
      have B1 : Hid (Below wr.heap.size wr W1) := bstep BX.out b1
      have XT1 : Hid (Bx W1 wr.heap.size [.int .i64 (atT k.txs i).id, .int .i64 (atT k.txs i).home, .int .i64 (atT k.txs i).phase, .int .i64 (atT k.txs i).count, .slice (tv i).ar (atT k.txs i).reads.length (tv i).cr, .slice (tv i).ah (atT k.txs i).sets.length (tv i).ch, .int .i64 (atT k.txs i).stamp]) := XT.out.later b1
      clear b1 XT BX
      have KR : Hid (RowX W1 U.heap.size u3 (rowJ k tv (tolJ k i)) ∧ Below U.heap.size U W1) := ⟨KD.out.1.later B1.out, bstep KD.out.2.2 B1.out⟩
      generalize wr.heap.size = s at *
      by_cases htl : tx.toldR (atT k.txs i) = 1
      case neg =>
        have d1 : (tx.toldR (atT k.txs i) == 1) = false := by simp [htl]
        have HE : Hid (tolJ k (i + 1) = tolJ k i) := by unfold Hid; rw [tolJ, if_neg htl]
        clear htl
        generalize (tx.toldR (atT k.txs i) == 1) = tr at *
        subst d1
        go_wp2
        exact ⟨⟨i + 1, by omega, by simp, by rw [HE.out]; exact KR.out.1, by rw [HE.out]; exact KD.out.2.1, KR.out.2⟩, by simp [intOf]; omega⟩
      case pos =>
        have d1 : (tx.toldR (atT k.txs i) == 1) = true := by simp [htl]
        have HE : Hid (rowJ k tv (tolJ k (i + 1)) = rowJ k tv (tolJ k i) ++ [(tv i, atT k.txs i)] ∧ tolJ k (i + 1) ≠ []) := by
          have : tolJ k (i + 1) = tolJ k i ++ [i] := by rw [tolJ, if_pos htl]
          exact ⟨by rw [this, rowJ, List.map_append]; rfl, by rw [this]; simp⟩
        clear htl
        generalize (tx.toldR (atT k.txs i) == 1) = tr at *
        subst d1
        have h0 := XT1.out.1 0 _ rfl
        have h1 := XT1.out.1 1 _ rfl
        have h2 := XT1.out.1 2 _ rfl
        have h3 := XT1.out.1 3 _ rfl
        have h4 := XT1.out.1 4 _ rfl
        have h5 := XT1.out.1 5 _ rfl
        have h6 := XT1.out.1 6 _ rfl
        obtain ⟨Z, hZ⟩ : ∃ Y, Y = W1.alloc (.cells #[.int .i64 (atT k.txs i).id, .int .i64 (atT k.txs i).home, .int .i64 (atT k.txs i).phase, .int .i64 (atT k.txs i).count, .slice (tv i).ar (atT k.txs i).reads.length (tv i).cr, .slice (tv i).ah (atT k.txs i).sets.length (tv i).ch, .int .i64 (atT k.txs i).stamp] 55) := ⟨_, rfl⟩
        have bZ : Below W1.heap.size W1 Z := by rw [hZ]; exact (Below.refl _ _).alloc (Nat.le_refl _) _
        have xz : Bx Z W1.heap.size [.int .i64 (atT k.txs i).id, .int .i64 (atT k.txs i).home, .int .i64 (atT k.txs i).phase, .int .i64 (atT k.txs i).count, .slice (tv i).ar (atT k.txs i).reads.length (tv i).cr, .slice (tv i).ah (atT k.txs i).sets.length (tv i).ch, .int .i64 (atT k.txs i).stamp] := by rw [hZ]; exact Bx.made W1 [.int .i64 (atT k.txs i).id, .int .i64 (atT k.txs i).home, .int .i64 (atT k.txs i).phase, .int .i64 (atT k.txs i).count, .slice (tv i).ar (atT k.txs i).reads.length (tv i).cr, .slice (tv i).ah (atT k.txs i).sets.length (tv i).ch, .int .i64 (atT k.txs i).stamp] _
        obtain ⟨p2, e2, Z2, run2, row2, gr2⟩ := pushXs (KR.out.1.later bZ) [(tv i, atT k.txs i)] (by rw [rowJ_len]; have := tolJ_len k i; simp only [List.length_cons, List.length_nil]; omega) 32 (some ⟨W1.heap.size, 0, none⟩) 1 (.inr ⟨W1.heap.size, 0, rfl, fun z x hx t u hu => by
          have hz : z = 0 := by have := (List.getElem?_eq_some_iff.1 hx).1; simp at this; exact this
          subst hz
          cases hx
          have := xz.1 t u hu
          rw [show 0 + 0 * 7 + t = t by omega]
          exact this⟩) (by have := KR.out.2.size; have := bZ.size; omega)
        have KE : Hid (RowX Z2 U.heap.size (.slice p2 (rowJ k tv (tolJ k i) ++ [(tv i, atT k.txs i)]).length e2) (rowJ k tv (tolJ k (i + 1))) ∧ Below U.heap.size U Z2) := by
          refine ⟨by rw [HE.out.1]; exact row2, ?_⟩
          exact (bstep KR.out.2 bZ).grown gr2 (bstep KR.out.2 bZ).size (fun z e => ((KR.out.1.later bZ).lt e).1)
        rw [hZ] at run2
        generalize (rowJ k tv (tolJ k i) ++ [(tv i, atT k.txs i)]).length = nl at *
        clear row2 gr2 bZ xz hZ
        go_wp2_with (at_builtin; refine append_known _ rfl (.tmp 15) (.tmp 17) 32 rfl _ _ _ _ rfl rfl run2 ?_)
        exact ⟨⟨i + 1, by omega, by simp, KE.out.1, fun h => absurd h HE.out.2, KE.out.2⟩, by simp [intOf]; omega⟩
    · obtain rfl : i = k.txs.length := by omega
      have hd : decide ((k.txs.length : Int) < (k.txs.length : Int)) = false := by simp
      have HO : Hid (rowJ k tv (ordJ k k.txs.length) = ordX k tv k.txs.length) := rfl
      obtain ⟨xs, hxs⟩ : ∃ xs, ordX k tv k.txs.length = xs := ⟨_, rfl⟩
      by_cases hnl : tolJ k k.txs.length = []
      · have hu := KD.out.2.1 hnl
        subst hu
        have hx0 : xs = [] := by
          have h1 := srt_ord k k.txs.length
          rw [hnl] at h1
          rw [← hxs, ordX, ← h1]
          rfl
        have HX0 : Hid (ordX k tv k.txs.length = []) := hxs.trans hx0
        have KE : Hid (Below w.heap.size w wr) := bstep BU.out KD.out.2.2
        have hso := sortedN_any wr
        clear hxs hx0 hnl
        go_wp2_with fail
        refine hso.mono ?_
        clear hso
        rintro e W1 ⟨rfl, rfl⟩
        go_wp2
        go_ret
        exact ⟨none, 0, by rw [HX0.out]; rfl, .inl HX0.out, KE.out⟩
      · obtain ⟨va, vc, rfl, -, hf⟩ := KD.out.1.form
        rcases hf with hf | ⟨b, rfl, hbb, hbw, hat⟩
        · exact absurd (by simpa [rowJ] using hf) hnl
        have hso := sortedBy_any wr b vc k tv _ HK.out rfl hbw hat hnl
        rw [HO.out] at hso
        have KE : Hid (Below w.heap.size w wr) := bstep BU.out KD.out.2.2
        rw [rowJ_len]
        have HXE := hidOf hxs
        rw [hxs] at hso
        clear hxs hnl hat
        generalize (tolJ k k.txs.length).length = ln at *
        go_wp2_with fail
        refine hso.mono ?_
        clear hso
        rintro e W1 ⟨q, cc, rfl, hrw, b1⟩
        have KF : Hid (RwX W1 w.heap.size q xs ∧ Below w.heap.size w W1) := ⟨hrw.up KE.out.size, bstep KE.out b1⟩
        clear hrw b1
        go_wp2
        go_ret
        exact ⟨some ⟨q, 0, none⟩, cc, by rw [HXE.out]; rfl, .inr ⟨q, rfl, by rw [HXE.out]; exact KF.out.1⟩, KF.out.2⟩
theorem Rep.low {W : World} {base base' b n : Nat} {g : Nat → Nat} {css : List (List C2)} (h : Rep W base b n g css) (hb : base' ≤ base) : Rep W base' b n g css :=
  ⟨Nat.le_trans hb h.lo, h.hi, h.rm, h.le, fun r xs hx => by
    obtain ⟨h1, h2, h3, h4, h5, h6, h7⟩ := h.cs r xs hx
    exact ⟨h1, Nat.le_trans hb h2, h3, h4, h5, h6, h7⟩⟩
theorem fold_len (ss : List S5) : ∀ css : List (List C2), (ss.foldl insA css).length = css.length := by
  induction ss with
  | nil => intro css; rfl
  | cons s ss ih => intro css; rw [List.foldl_cons, ih, insA_len]
theorem clu_nam {k : C6} (hk : clusterB k = true) {j : Nat} (hj : j < k.txs.length) : NamB (atT k.txs j) k.places.length := by
  have hB := (clu_up hk).2.1 j hj
  refine ⟨fun m hm => ?_, fun m hm => ?_⟩
  · have h1 := clu_readP hk hj hm
    have h2 := tx.noOk_in ((tx.txB_no hB).1 m hm)
    rw [inB_iff, inB_iff] at h2
    omega
  · have h1 := clu_setP hk hj hm
    have h2 := set_in hB hm
    omega
def RplR (w : World) (k : C6) (e : Ending) (w' : World) : Prop := ((serB k = false ∧ e = .returned (.tuple #[.slice none 0 0, .bool false])) ∨ (serB k = true ∧ ∃ b g, e = .returned (.tuple #[.slice (some ⟨b, 0, none⟩) k.places.length k.places.length, .bool true]) ∧ Rep w' w.heap.size b k.places.length g (rep0 k).1)) ∧ Below w.heap.size w w'
set_option maxRecDepth 100000 in
set_option maxHeartbeats 16000000 in
theorem replayed_any (w : World) (a1 : Option Addr) (c1 : Nat) (a2 : Option Addr) (c2 : Nat) (a3 : Option Addr) (c3 : Nat) (k : C6) (hl : KCl.L k) (h : KCl.Rd w a1 c1 a2 c2 a3 c3 k) : Calls Tryz.prog 42 #[.agg #[.int .i64 k.config, .int .i64 k.clock, .slice a1 k.places.length c1, .slice a2 k.machines.length c2, .slice a3 k.txs.length c3, .bool k.lost]] w (RplR w k) := by
  obtain ⟨U, hU⟩ : ∃ Y, Y = w.alloc (.cells #[.int .i64 k.config, .int .i64 k.clock, .slice a1 k.places.length c1, .slice a2 k.machines.length c2, .slice a3 k.txs.length c3, .bool k.lost] 34) := ⟨_, rfl⟩
  have bU : Below w.heap.size w U := by rw [hU]; exact (Below.refl _ _).alloc (Nat.le_refl _) _
  have xU : Bx U w.heap.size [.int .i64 k.config, .int .i64 k.clock, .slice a1 k.places.length c1, .slice a2 k.machines.length c2, .slice a3 k.txs.length c3, .bool k.lost] := by rw [hU]; exact Bx.made w [.int .i64 k.config, .int .i64 k.clock, .slice a1 k.places.length c1, .slice a2 k.machines.length c2, .slice a3 k.txs.length c3, .bool k.lost] _
  have sU : U.heap.size = w.heap.size + 1 := by rw [hU]; simp
  have FA : Hid (Bx U w.heap.size [.int .i64 k.config, .int .i64 k.clock, .slice a1 k.places.length c1, .slice a2 k.machines.length c2, .slice a3 k.txs.length c3, .bool k.lost]) := xU
  have BU := hidOf bU
  have HR : Hid (KCl.Rd U a1 c1 a2 c2 a3 c3 k ∧ KCl.L k) := ⟨h.later BU.out, hl⟩
  have hc := implClusterOk_any U a1 c1 a2 c2 a3 c3 k hl HR.out.1
  clear h hl bU xU sU
  go_enter Tryz.func42, Tryz.ntmps42
  go_wp2_with fail
  rw [← hU]
  clear hU
  refine hc.mono ?_
  clear hc
  rintro e W1 ⟨rfl, b1⟩
  have B1 : Hid (Below U.heap.size U W1) := b1
  clear b1
  cases hk : clusterB k with
  | false =>
    have HO : Hid (serB k = false) := by unfold Hid serB; rw [hk]; rfl
    clear hk
    go_wp2
    exact bodyPost_ret (v := .tuple #[.slice none 0 0, .bool false]) (by simp [results, Tryz.results42, go_sem]) rfl ⟨.inl ⟨HO.out, rfl⟩, bstep BU.out B1.out⟩
  | true =>
  have HK := hidOf hk
  have HV : Hid (serB k = (rep0 k).2) := by unfold Hid serB; rw [hk]; rfl
  have hp6 := (CSm.of hk).p
  have hn60 := (CSm.of hk).t
  obtain ⟨tv, htv⟩ := txs_at (HR.out.1.later B1.out).t
  have HTV := hidOf htv
  have hnr := newReplay_any W1 k.places.length hp6
  have p2 := (FA.out.later B1.out).1 2 _ rfl
  clear hk htv
  go_wp2_with fail
  refine hnr.mono ?_
  clear hnr p2
  rintro e W2 ⟨b, g, rfl, hrep, b2⟩
  have B2 : Hid (Below W1.heap.size W1 W2) := b2
  have R2 : Hid (Rep W2 W1.heap.size b k.places.length g (List.replicate k.places.length zeros)) := hrep
  have ho := ordered_any W2 a1 c1 a2 c2 a3 c3 k tv HK.out HR.out.2 (HTV.out.imp id (fun ⟨tb, tq, e, htb, hat, hsl⟩ => ⟨tb, tq, e, Nat.lt_of_lt_of_le htb b2.size, hat.below b2 htb, fun j hj => (hsl j hj).later b2⟩))
  have p0 := ((FA.out.later B1.out).later B2.out).1 0 _ rfl
  have p1 := ((FA.out.later B1.out).later B2.out).1 1 _ rfl
  have p2 := ((FA.out.later B1.out).later B2.out).1 2 _ rfl
  have p3 := ((FA.out.later B1.out).later B2.out).1 3 _ rfl
  have p4 := ((FA.out.later B1.out).later B2.out).1 4 _ rfl
  have p5 := ((FA.out.later B1.out).later B2.out).1 5 _ rfl
  clear hrep b2
  go_wp2_with fail
  refine ho.mono ?_
  clear ho p0 p1 p2 p3 p4 p5
  rintro e W3 ⟨ra, rc, rfl, hrx, b3⟩
  have hjl : (ordJ k k.txs.length).length ≤ 60 := Nat.le_trans (ordJ_len k _) hn60
  have HJ : Hid (∀ j ∈ ordJ k k.txs.length, j < k.txs.length) := ordJ_lt k _
  have HX : Hid (ordX k tv k.txs.length = [] ∨ ∃ b, ra = some ⟨b, 0, none⟩ ∧ RwX W3 W2.heap.size b (ordX k tv k.txs.length)) := hrx
  have HXE : Hid (ordX k tv k.txs.length = rowJ k tv (ordJ k k.txs.length)) := rfl
  have R3 : Hid (Rep W3 W1.heap.size b k.places.length g (List.replicate k.places.length zeros) ∧ Below W1.heap.size W1 W3 ∧ b < W2.heap.size) := ⟨R2.out.later b3, bstep B2.out b3, R2.out.hi⟩
  have HE : Hid (repl k (List.replicate k.places.length zeros) (ordJ k k.txs.length) = rep0 k) := rfl
  clear hrx b3
  rw [ordX_len]
  rw [HXE.out] at HX
  generalize ordJ k k.txs.length = js at *
  generalize hnp : k.places.length = np at *
  have HNP := hidOf hnp
  clear hnp HXE
  go_wp2
  go_loopw [17] (fun v17 wr => ∃ (m : Nat) (g' : Nat → Nat) (css : List (List C2)), m ≤ js.length ∧ v17 = .int .i64 m ∧ Rep wr W1.heap.size b np g' css ∧ css.length = np ∧ repl k css (js.drop m) = rep0 k ∧ Turned b W3 wr) (fun v17 _ => js.length - (intOf v17).toNat)
  case atStart => exact ⟨0, g, _, Nat.zero_le _, rfl, R3.out.1, by simp, by rw [List.drop_zero]; exact HE.out, Turned.refl _ _⟩
  case round =>
    obtain ⟨m, g', css, hm, rfl, hrep, hcl, hrp, htn⟩ := hrel
    have BW : Hid (Below W1.heap.size W1 wr) := R3.out.2.1.trans (htn.below hrep.lo R3.out.2.1.size)
    by_cases hlt : m < js.length
    · obtain ⟨j, hj⟩ : ∃ j, js[m]? = some j := ⟨_, List.getElem?_eq_getElem hlt⟩
      have hjn : j < k.txs.length := HJ.out j (List.mem_of_getElem? hj)
      obtain ⟨x, hx⟩ : ∃ x : tx.TV × tx.T7, x = (tv j, atT k.txs j) := ⟨_, rfl⟩
      have hx1 : x.1 = tv j := by rw [hx]
      have hx2 : x.2 = atT k.txs j := by rw [hx]
      rcases HX.out with h0 | ⟨rb, rfl, hrw⟩
      · rw [rowJ, List.map_eq_nil_iff] at h0; rw [h0] at hlt; simp at hlt
      have hat := hrw.1 m x (by rw [hx]; exact rowJ_at hj)
      have hne : rb ≠ b := by have := hrw.2.2.1; have := R3.out.2.2; omega
      have g0 : wr.cell? ⟨rb, m * 7, none⟩ = some (.int .i64 (x.2).id) := by have := hat 0 _ rfl; rw [Nat.zero_add] at this; exact (htn.cell (p := ⟨rb, m * 7, none⟩) hrw.2.2.2 hne).trans this
      have g1 : wr.cell? ⟨rb, m * 7 + 1, none⟩ = some (.int .i64 (x.2).home) := by have := hat 1 _ rfl; rw [Nat.zero_add] at this; exact (htn.cell (p := ⟨rb, m * 7 + 1, none⟩) hrw.2.2.2 hne).trans this
      have g2 : wr.cell? ⟨rb, m * 7 + 2, none⟩ = some (.int .i64 (x.2).phase) := by have := hat 2 _ rfl; rw [Nat.zero_add] at this; exact (htn.cell (p := ⟨rb, m * 7 + 2, none⟩) hrw.2.2.2 hne).trans this
      have g3 : wr.cell? ⟨rb, m * 7 + 3, none⟩ = some (.int .i64 (x.2).count) := by have := hat 3 _ rfl; rw [Nat.zero_add] at this; exact (htn.cell (p := ⟨rb, m * 7 + 3, none⟩) hrw.2.2.2 hne).trans this
      have g4 : wr.cell? ⟨rb, m * 7 + 4, none⟩ = some (.slice (x.1).ar (x.2).reads.length (x.1).cr) := by have := hat 4 _ rfl; rw [Nat.zero_add] at this; exact (htn.cell (p := ⟨rb, m * 7 + 4, none⟩) hrw.2.2.2 hne).trans this
      have g5 : wr.cell? ⟨rb, m * 7 + 5, none⟩ = some (.slice (x.1).ah (x.2).sets.length (x.1).ch) := by have := hat 5 _ rfl; rw [Nat.zero_add] at this; exact (htn.cell (p := ⟨rb, m * 7 + 5, none⟩) hrw.2.2.2 hne).trans this
      have g6 : wr.cell? ⟨rb, m * 7 + 6, none⟩ = some (.int .i64 (x.2).stamp) := by have := hat 6 _ rfl; rw [Nat.zero_add] at this; exact (htn.cell (p := ⟨rb, m * 7 + 6, none⟩) hrw.2.2.2 hne).trans this
      have hsl : tx.SlT W1 x.1 x.2 := by
        rcases HTV.out with h0 | ⟨tb, tq, _, _, _, hsl⟩
        · rw [h0] at hjn; simp at hjn
        · rw [hx1, hx2]; exact hsl j hjn
      have hTL : tx.TL x.2 := by rw [hx2]; exact HR.out.2.ts _ (List.mem_of_getElem? (atT_of hjn))
      have hNM : NamB x.2 css.length := by rw [hx2, hcl, ← HNP.out]; exact clu_nam HK.out hjn
      have hTB : tx.txB x.2 = true := by rw [hx2]; exact (clu_up HK.out).2.1 j hjn
      have hdr : js.drop m = j :: js.drop (m + 1) := by
        have := List.drop_eq_getElem_cons hlt
        rw [List.getElem?_eq_getElem hlt] at hj
        rw [this, Option.some.inj hj]
      have hrp2 : (if (x.2.reads.all (rdOk css) && x.2.sets.all (stOk css)) = true then repl k (x.2.sets.foldl insA css) (js.drop (m + 1)) else (css, false)) = rep0 k := by
        rw [← hrp, hdr, repl, hx2]
      have HP := hidOf hrp2
      have KX : Hid (tx.SlT W1 x.1 x.2 ∧ tx.TL x.2 ∧ NamB x.2 css.length ∧ tx.txB x.2 = true) := ⟨hsl, hTL, hNM, hTB⟩
      obtain ⟨X, hX⟩ : ∃ Y, Y = wr.alloc (.cells #[.int .i64 (x.2).id, .int .i64 (x.2).home, .int .i64 (x.2).phase, .int .i64 (x.2).count, .slice (x.1).ar (x.2).reads.length (x.1).cr, .slice (x.1).ah (x.2).sets.length (x.1).ch, .int .i64 (x.2).stamp] 55) := ⟨_, rfl⟩
      have bX : Below wr.heap.size wr X := by rw [hX]; exact (Below.refl _ _).alloc (Nat.le_refl _) _
      have xX : Bx X wr.heap.size [.int .i64 (x.2).id, .int .i64 (x.2).home, .int .i64 (x.2).phase, .int .i64 (x.2).count, .slice (x.1).ar (x.2).reads.length (x.1).cr, .slice (x.1).ah (x.2).sets.length (x.1).ch, .int .i64 (x.2).stamp] := by rw [hX]; exact Bx.made wr [.int .i64 (x.2).id, .int .i64 (x.2).home, .int .i64 (x.2).phase, .int .i64 (x.2).count, .slice (x.1).ar (x.2).reads.length (x.1).cr, .slice (x.1).ah (x.2).sets.length (x.1).ch, .int .i64 (x.2).stamp] _
      have sX : X.heap.size = wr.heap.size + 1 := by rw [hX]; simp
      have HS : Hid (X.heap.size = wr.heap.size + 1) := sX
      have KR : Hid (Rep wr W1.heap.size b np g' css ∧ css.length = np ∧ Turned b W3 wr) := ⟨hrep, hcl, htn⟩
      have XT : Hid (Bx X wr.heap.size [.int .i64 (x.2).id, .int .i64 (x.2).home, .int .i64 (x.2).phase, .int .i64 (x.2).count, .slice (x.1).ar (x.2).reads.length (x.1).cr, .slice (x.1).ah (x.2).sets.length (x.1).ch, .int .i64 (x.2).stamp]) := xX
      have BX := hidOf bX
      have cF := fits_any X W1.heap.size b np g' css (hrep.later bX) x.1 x.2 hTL (hsl.later (bstep BW.out bX)) hNM
      have mx : (m : Int) < (js.length : Int) := by omega
      have q0 := xX.1 0 _ rfl
      have q1 := xX.1 1 _ rfl
      have q2 := xX.1 2 _ rfl
      have q3 := xX.1 3 _ rfl
      have q4 := xX.1 4 _ rfl
      have q5 := xX.1 5 _ rfl
      have q6 := xX.1 6 _ rfl
      rw [hX] at q0 q1 q2 q3 q4 q5 q6
      clear hat hrw hne hsl hTL hNM hTB hdr hrp2 hrp hrep hcl htn xX bX sX hx1 hx2 hx hj
      go_wp2_with fail
      rw [← hX]
      clear hX q0 q1 q2 q3 q4 q5 q6 g0 g1 g2 g3 g4 g5 g6
      refine cF.mono ?_
      clear cF
      rintro e W4 ⟨rfl, b4⟩
      have T4 : Hid (Turned b W3 W4) := (KR.out.2.2.of_below BX.out).of_below b4
      have B4 : Hid (Below wr.heap.size wr W4) := bstep BX.out b4
      have XT4 : Hid (Bx W4 wr.heap.size [.int .i64 (x.2).id, .int .i64 (x.2).home, .int .i64 (x.2).phase, .int .i64 (x.2).count, .slice (x.1).ar (x.2).reads.length (x.1).cr, .slice (x.1).ah (x.2).sets.length (x.1).ch, .int .i64 (x.2).stamp]) := XT.out.later b4
      clear b4
      cases hft : (x.2.reads.all (rdOk css) && x.2.sets.all (stOk css)) with
      | false =>
        have HO : Hid (serB k = false) := by unfold Hid; rw [HV.out, ← HP.out, hft]; rfl
        clear hft
        have BE : Hid (Below w.heap.size w W4) := bstep (bstep BU.out B1.out) (bstep BW.out B4.out)
        go_wp2
        exact bodyPost_ret (v := .tuple #[.slice none 0 0, .bool false]) (by simp [results, Tryz.results42, go_sem]) rfl ⟨.inl ⟨HO.out, rfl⟩, BE.out⟩
      | true =>
        have HP2 : Hid (repl k (x.2.sets.foldl insA css) (js.drop (m + 1)) = rep0 k) := by unfold Hid; rw [← HP.out, if_pos hft]
        clear hft
        have cI := install_any W1 W4 W1.heap.size b np g' css (KR.out.1.later B4.out) x.1 x.2 KX.out.2.1 (bstep BW.out B4.out) (Nat.le_refl _) KX.out.1 KX.out.2.2.1 KX.out.2.2.2
        have q0 := XT4.out.1 0 _ rfl
        have q1 := XT4.out.1 1 _ rfl
        have q2 := XT4.out.1 2 _ rfl
        have q3 := XT4.out.1 3 _ rfl
        have q4 := XT4.out.1 4 _ rfl
        have q5 := XT4.out.1 5 _ rfl
        have q6 := XT4.out.1 6 _ rfl
        generalize wr.heap.size = sz at *
        go_wp2_with fail
        refine cI.mono ?_
        clear cI q0 q1 q2 q3 q4 q5 q6
        rintro e W5 ⟨rfl, ⟨g5, hg5⟩, t5⟩
        have KE : Hid (Rep W5 W1.heap.size b np g5 (x.2.sets.foldl insA css) ∧ (x.2.sets.foldl insA css).length = np ∧ Turned b W3 W5) := ⟨hg5, by rw [fold_len]; exact KR.out.2.1, T4.out.trans t5⟩
        clear hg5 t5
        go_wp2
        exact ⟨⟨m + 1, g5, _, by omega, by simp, KE.out.1, KE.out.2.1, HP2.out, KE.out.2.2⟩, by simp [intOf]; omega⟩
    · obtain rfl : m = js.length := by omega
      have hd : decide ((js.length : Int) < (js.length : Int)) = false := by simp
      rw [List.drop_length, repl] at hrp
      have KE : Hid (RplR w k (.returned (.tuple #[.slice (some ⟨b, 0, none⟩) np np, .bool true])) wr) := by
        refine ⟨.inr ⟨by rw [HV.out, ← hrp], b, g', by rw [HNP.out], ?_⟩, bstep (bstep BU.out B1.out) BW.out⟩
        rw [← hrp, HNP.out]
        exact hrep.low (bstep BU.out B1.out).size
      clear hrp hrep hcl htn
      go_wp2
      exact bodyPost_ret (v := .tuple #[.slice (some ⟨b, 0, none⟩) np np, .bool true]) (by simp [results, Tryz.results42, go_sem]) rfl KE.out
set_option maxRecDepth 100000 in
set_option maxHeartbeats 4000000 in
theorem implCells_any (w : World) (a1 : Option Addr) (c1 : Nat) (a2 : Option Addr) (c2 : Nat) (a3 : Option Addr) (c3 : Nat) (k : C6) (y : Int) (hl : KCl.L k) (h : KCl.Rd w a1 c1 a2 c2 a3 c3 k) : Calls Tryz.prog 48 #[.agg #[.int .i64 k.config, .int .i64 k.clock, .slice a1 k.places.length c1, .slice a2 k.machines.length c2, .slice a3 k.txs.length c3, .bool k.lost], .int .i64 y] w (CAns w (celN k y) (celB k y)) := by
  have hnp := hl.p
  have hnm := hl.m
  unfold maxLen at hnp hnm
  obtain ⟨U, hU⟩ : ∃ Y, Y = w.alloc (.cells #[.int .i64 k.config, .int .i64 k.clock, .slice a1 k.places.length c1, .slice a2 k.machines.length c2, .slice a3 k.txs.length c3, .bool k.lost] 34) := ⟨_, rfl⟩
  have b0 : Below w.heap.size w U := by rw [hU]; exact (Below.refl _ _).alloc (Nat.le_refl _) _
  have FA : Hid (Bx U w.heap.size [.int .i64 k.config, .int .i64 k.clock, .slice a1 k.places.length c1, .slice a2 k.machines.length c2, .slice a3 k.txs.length c3, .bool k.lost]) := by unfold Hid; rw [hU]; exact Bx.made w [.int .i64 k.config, .int .i64 k.clock, .slice a1 k.places.length c1, .slice a2 k.machines.length c2, .slice a3 k.txs.length c3, .bool k.lost] _
  have HR : Hid (KCl.Rd U a1 c1 a2 c2 a3 c3 k ∧ KCl.L k ∧ Below w.heap.size w U) := ⟨h.later b0, hl, b0⟩
  clear b0 h hl
  have hc := implClusterOk_any U a1 c1 a2 c2 a3 c3 k HR.out.2.1 HR.out.1
  go_enter Tryz.func48, Tryz.ntmps48
  go_wp2_with fail
  rw [← hU]
  clear hU
  refine hc.mono ?_
  clear hc
  rintro e w1 ⟨rfl, b1⟩
  have B1 := hidOf b1
  clear b1
  cases hB : clusterB k with
  | false =>
    have HN := hidOf (cel_no (k := k) (y := y) (fun h => by rw [h.1] at hB; cases hB))
    go_wp2
    exact bodyPost_ret (v := .tuple #[.slice none 0 0, .bool false]) (by simp [results, Tryz.results48, go_sem]) rfl (CAns.zero HN.out _ _ (bstep HR.out.2.2 B1.out))
  | true =>
  have hp : placesB k.places = true := by
    rw [clusterB_eq] at hB
    simp only [Bool.and_eq_true] at hB
    exact hB.2.2.2.1
  have p2 := (FA.out.later B1.out).1 2 _ rfl
  have hc := hasPlace_any w1 a1 k.places.length c1 y k.places HR.out.2.1.p (HR.out.1.p.later B1.out)
  go_wp2_with fail
  refine hc.mono ?_
  clear hc p2
  rintro e w2 ⟨rfl, b2⟩
  have B2 : Hid (Below U.heap.size U w2) := bstep B1.out b2
  clear b2
  cases hI : regionB k.places y with
  | false =>
    have HN := hidOf (cel_no (k := k) (y := y) (fun h => by
      have : regionB k.places y = true := by
        simp only [regionB, Bool.and_eq_true]
        exact ⟨hp, inB_iff.2 ⟨h.2.1, by omega⟩⟩
      rw [this] at hI; cases hI))
    go_wp2
    exact bodyPost_ret (v := .tuple #[.slice none 0 0, .bool false]) (by simp [results, Tryz.results48, go_sem]) rfl (CAns.zero HN.out _ _ (bstep HR.out.2.2 B2.out))
  | true =>
  obtain ⟨i, rfl, hi, hz3, -⟩ := region_bd hI
  obtain ⟨z, hz, hzl, -, hpm, hmB, hhas⟩ := clu_pri hB hi
  have hpr : primR k.places (i : Int) = (z : Int) := by rw [primR, if_pos hI, Int.toNat_natCast]; exact hz
  have hML := HR.out.2.1.ms _ (List.mem_of_getElem? (atM_of hzl))
  rcases HR.out.1.m with hs | ⟨b2, off2, rfl, hb2, h1⟩
  · rw [hs] at hzl; simp at hzl
  obtain ⟨⟨m0, m1, m2, m3, m4, m5⟩, hat, hrd⟩ := h1 z _ (atM_of hzl)
  have i2 : (z : Int) < (k.machines.length : Int) := by omega
  have SF : Hid (∀ X, Below U.heap.size U X → (fun X : World => Bx X w.heap.size [.int .i64 k.config, .int .i64 k.clock, .slice a1 k.places.length c1, .slice (some ⟨b2, off2, none⟩) k.machines.length c2, .slice a3 k.txs.length c3, .bool k.lost] ∧ X.cell? ⟨b2, off2 + z * 4, none⟩ = some (.bool (atM k.machines z).alive) ∧ X.cell? ⟨b2, off2 + z * 4 + 1, none⟩ = some (.slice m0 (atM k.machines z).copies.length m1) ∧ X.cell? ⟨b2, off2 + z * 4 + 2, none⟩ = some (.slice m2 (atM k.machines z).log.length m3) ∧ X.cell? ⟨b2, off2 + z * 4 + 3, none⟩ = some (.slice m4 (atM k.machines z).cleared.length m5)) X) := fun X hX => ⟨FA.out.later hX, (hX.cell (p := ⟨b2, off2 + z * 4, none⟩) hb2).trans (hat 0 _ rfl), (hX.cell (p := ⟨b2, off2 + z * 4 + 1, none⟩) hb2).trans (hat 1 _ rfl), (hX.cell (p := ⟨b2, off2 + z * 4 + 2, none⟩) hb2).trans (hat 2 _ rfl), (hX.cell (p := ⟨b2, off2 + z * 4 + 3, none⟩) hb2).trans (hat 3 _ rfl)⟩
  have HK : Hid (SlK U U.heap.size m0 (atM k.machines z).copies.length (atM k.machines z).copies ∧ ML (atM k.machines z) ∧ machB (atM k.machines z) = true) := ⟨hrd.k, hML, hmB⟩
  have HH : Hid (clusterB k = true ∧ i < k.places.length ∧ priM k i = atM k.machines z ∧ ((atM k.machines z).alive = true → hasC (atM k.machines z) (i : Int) = true)) := ⟨hB, hi, hpm, hhas⟩
  clear h1 hat hrd hML hmB hhas hpm hz hp hI
  go_wp2_with fail
  have bd : Below U.heap.size U w2.drew := B2.out.drew
  have hS := SF.out _ bd
  refine wp_region_z (fun z => z == 13) (fun X : World => Bx X w.heap.size [.int .i64 k.config, .int .i64 k.clock, .slice a1 k.places.length c1, .slice (some ⟨b2, off2, none⟩) k.machines.length c2, .slice a3 k.txs.length c3, .bool k.lost] ∧ X.cell? ⟨b2, off2 + z * 4, none⟩ = some (.bool (atM k.machines z).alive) ∧ X.cell? ⟨b2, off2 + z * 4 + 1, none⟩ = some (.slice m0 (atM k.machines z).copies.length m1) ∧ X.cell? ⟨b2, off2 + z * 4 + 2, none⟩ = some (.slice m2 (atM k.machines z).log.length m3) ∧ X.cell? ⟨b2, off2 + z * 4 + 3, none⟩ = some (.slice m4 (atM k.machines z).cleared.length m5)) (by kernel_rfl) ?_
  generalize w2.drew = Wd at *
  refine wpZ_takeP (i := 0) (v := ?_) rfl (by kernel_rfl) (fun _ _ _ h => h) (Or.inl ⟨by rfl, ?_⟩) hS ?_
  rotate_left
  · (intro X _; go_simp; first | done | with_reducible rfl)
  simp only [Act.put]
  refine wpZ_take (i := 1) (v := ?_) rfl (by kernel_rfl) (fun _ _ _ h => h) (Or.inl ⟨by rfl, ?_⟩) hS ?_
  rotate_left
  · (intro X hSw; have c0 := hSw.1.1 0 _ rfl; have c1 := hSw.1.1 1 _ rfl; have c2 := hSw.1.1 2 _ rfl; have c3 := hSw.1.1 3 _ rfl; have c4 := hSw.1.1 4 _ rfl; have c5 := hSw.1.1 5 _ rfl; go_simp; first | done | with_reducible rfl)
  simp only [Act.put]
  refine wpZ_takeP (i := 2) (v := ?_) rfl (by kernel_rfl) (fun _ _ _ h => h) (Or.inl ⟨by rfl, ?_⟩) hS ?_
  rotate_left
  · (intro X _; go_simp; first | done | with_reducible rfl)
  simp only [Act.put]
  refine wpZ_take (i := 3) (v := ?_) rfl (by kernel_rfl) (fun _ _ _ h => h) (Or.inl ⟨by rfl, ?_⟩) hS ?_
  rotate_left
  · (intro X hSw; have c0 := hSw.1.1 0 _ rfl; have c1 := hSw.1.1 1 _ rfl; have c2 := hSw.1.1 2 _ rfl; have c3 := hSw.1.1 3 _ rfl; have c4 := hSw.1.1 4 _ rfl; have c5 := hSw.1.1 5 _ rfl; go_simp; first | done | with_reducible rfl)
  simp only [Act.put]
  refine wpZ_takeP (i := 4) (v := ?_) rfl (by kernel_rfl) (fun _ _ _ h => h) (Or.inl ⟨by rfl, ?_⟩) hS ?_
  rotate_left
  · (intro X _; go_simp; first | done | with_reducible rfl)
  simp only [Act.put]
  refine wpZ_takeP (i := 9) (v := ?_) rfl (by kernel_rfl) (fun _ _ _ h => h) (Or.inl ⟨by rfl, ?_⟩) hS ?_
  rotate_left
  · (intro X _; go_simp; first | done | with_reducible rfl)
  simp only [Act.put]
  refine wpZ_ready (rs := [5]) (by kernel_rfl) (by simp) ?_
  refine AllZ.cons rfl (fun K hK => ?_) AllZ.nil
  go_simp
  refine (implPrimary_any Wd a1 k.places.length c1 (i : Int) k.places HR.out.2.1.p (HR.out.1.p.later bd)).mono ?_
  rw [hpr]
  rintro e X1 ⟨rfl, b1⟩
  have bX := bstep bd b1
  refine hK.out _ _ (fun _ => SF.out _ bX) ?_
  clear hK K
  have hS := SF.out _ bX
  refine wpZ_takeP (i := 6) (v := ?_) rfl (by kernel_rfl) (fun _ _ _ h => h) (Or.inl ⟨by rfl, ?_⟩) hS ?_
  rotate_left
  · (intro X _; go_simp; first | done | with_reducible rfl)
  simp only [Act.put]
  refine wpZ_take (i := 7) (v := ?_) rfl (by kernel_rfl) (fun _ _ _ h => h) (Or.inl ⟨by rfl, ?_⟩) hS ?_
  rotate_left
  · (intro X hSw; have d0 := hSw.2.1; have d1 := hSw.2.2.1; have d2 := hSw.2.2.2.1; have d3 := hSw.2.2.2.2; go_simp; first | done | with_reducible rfl)
  simp only [Act.put]
  refine wpZ_ready (rs := [8]) (by kernel_rfl) (by simp) ?_
  refine AllZ.cons rfl (fun K hK => ?_) AllZ.nil
  go_simp
  refine (memberOf_any X1 m0 m1 m2 m3 m4 m5 (atM k.machines z)).mono ?_
  rintro e X2 ⟨rfl, b2⟩
  have bY := bstep bX b2
  refine hK.out _ _ (fun _ => SF.out _ bY) ?_
  clear hK K
  have hS := SF.out _ bY
  refine wpZ_ready (rs := [10]) (by kernel_rfl) (by simp) ?_
  refine AllZ.cons rfl (fun K hK => ?_) AllZ.nil
  go_simp
  refine (askCells_any X2 m0 m1 (atM k.machines z) (i : Int) HK.out.2.1 HK.out.2.2 (HK.out.1.later bY)).mono ?_
  rintro e X3 ⟨ha, b3⟩
  have bZ := bstep bY b3
  have KZ : Hid (Below w.heap.size w X3 ∧ w.heap.size ≤ X2.heap.size) := ⟨bstep HR.out.2.2 bZ, (bstep HR.out.2.2 bY).size⟩
  rcases ha with ⟨ha, ⟨hh, rfl⟩ | ⟨hh, j, q, cp, hj, hjl, rfl, h1, h2, h3, h4, h5⟩⟩ | ⟨ha, rfl⟩
  · have := HH.out.2.2.2 ha
    rw [hh] at this; cases this
  · have HN := hidOf (cel_yes (j := j) HH.out.1 HH.out.2.1 (by rw [HH.out.2.2.1]; exact ha) (by rw [HH.out.2.2.1]; exact hj))
    rw [HH.out.2.2.1] at HN
    have KF : Hid (w.heap.size ≤ q ∧ q < X3.heap.size ∧ CellsAt X3 q 0 (atK (atM k.machines z).copies j).cells ∧ Room X3 q ((atK (atM k.machines z).copies j).cells.length * 2)) := ⟨Nat.le_trans KZ.out.2 h1, h2, h4, h5⟩
    clear h1 h2 h3 h4 h5
    refine hK.out _ _ (fun _ => SF.out _ bZ) ?_
    clear hK K
    have hS := SF.out _ bZ
    refine wpZ_takeP (i := 11) (v := ?_) rfl (by kernel_rfl) (fun _ _ _ h => h) (Or.inl ⟨by rfl, ?_⟩) hS ?_
    rotate_left
    · (intro X _; go_simp; first | done | with_reducible rfl)
    simp only [Act.put]
    refine wpZ_takeP (i := 12) (v := ?_) rfl (by kernel_rfl) (fun _ _ _ h => h) (Or.inl ⟨by rfl, ?_⟩) hS ?_
    rotate_left
    · (intro X _; go_simp; first | done | with_reducible rfl)
    simp only [Act.put]
    refine wpZ_ready (rs := [13]) (by kernel_rfl) (by simp) ?_
    refine AllZ.cons rfl (fun K hK => ?_) AllZ.nil
    go_simp
    refine hK.out _ _ (fun h => absurd (show false = true from h.symm.trans (by kernel_rfl)) (by decide)) ?_
    clear hK K
    refine wpZ_ready (rs := [14]) (by kernel_rfl) (by simp) ?_
    refine AllZ.cons rfl (fun K hK => ?_) AllZ.nil
    go_simp
    refine hK.out _ _ (fun h => absurd (show false = true from h.symm.trans (by kernel_rfl)) (by decide)) ?_
    clear hK K
    refine wpZ_done (by kernel_rfl) ?_ _
    go_wp2
    exact bodyPost_ret (v := .tuple #[.slice (some ⟨q, 0, none⟩) (atK (atM k.machines z).copies j).cells.length cp, .bool true]) (by simp [results, Tryz.results48, go_sem]) rfl (CAns.some HN.out KF.out.1 KF.out.2.1 KF.out.2.2.1 KF.out.2.2.2 KZ.out.1)
  · have HN := hidOf (cel_no (k := k) (y := (i : Int)) (fun h => by
      have := h.2.2.2
      rw [Int.toNat_natCast, HH.out.2.2.1, ha] at this; cases this))
    refine hK.out _ _ (fun _ => SF.out _ bZ) ?_
    clear hK K
    have hS := SF.out _ bZ
    refine wpZ_takeP (i := 11) (v := ?_) rfl (by kernel_rfl) (fun _ _ _ h => h) (Or.inl ⟨by rfl, ?_⟩) hS ?_
    rotate_left
    · (intro X _; go_simp; first | done | with_reducible rfl)
    simp only [Act.put]
    refine wpZ_takeP (i := 12) (v := ?_) rfl (by kernel_rfl) (fun _ _ _ h => h) (Or.inl ⟨by rfl, ?_⟩) hS ?_
    rotate_left
    · (intro X _; go_simp; first | done | with_reducible rfl)
    simp only [Act.put]
    refine wpZ_ready (rs := [13]) (by kernel_rfl) (by simp) ?_
    refine AllZ.cons rfl (fun K hK => ?_) AllZ.nil
    go_simp
    refine hK.out _ _ (fun h => absurd (show false = true from h.symm.trans (by kernel_rfl)) (by decide)) ?_
    clear hK K
    refine wpZ_ready (rs := [14]) (by kernel_rfl) (by simp) ?_
    refine AllZ.cons rfl (fun K hK => ?_) AllZ.nil
    go_simp
    refine hK.out _ _ (fun h => absurd (show false = true from h.symm.trans (by kernel_rfl)) (by decide)) ?_
    clear hK K
    refine wpZ_done (by kernel_rfl) ?_ _
    go_wp2
    exact bodyPost_ret (v := .tuple #[.slice none 0 0, .bool false]) (by simp [results, Tryz.results48, go_sem]) rfl (CAns.zero HN.out _ _ KZ.out.1)
theorem agr_cel {k : C6} (hk : clusterB k = true) {r : Nat} (hr : r < k.places.length) : agrR k r = (List.range (celN k (r : Int)).length).all (agC (celN k (r : Int)) ((rep0 k).1[r]?.getD [])) ∧ (celN k (r : Int)).length ≤ 6 := by
  obtain ⟨z, hz, hzl, hz3, hpm, hmB, hhas⟩ := clu_pri hk hr
  cases ha : (atM k.machines z).alive with
  | false =>
    have h0 : celN k (r : Int) = [] := (cel_no (fun h => by have := h.2.2.2; rw [Int.toNat_natCast, hpm, ha] at this; cases this)).1
    rw [h0, agrR, hz, Int.toNat_natCast, ha]
    exact ⟨rfl, by simp⟩
  | true =>
    have hlt := idxC_lt (atM k.machines z) (r : Int)
    rw [hhas ha] at hlt
    obtain ⟨t, hit, htl⟩ : ∃ t : Nat, idxC (atM k.machines z) (r : Int) = (t : Int) ∧ t < (atM k.machines z).copies.length := by
      rcases idxC_first (atM k.machines z) (r : Int) with ⟨e, _⟩ | ⟨t, e, ht, _, _⟩
      · rw [e] at hlt; cases hlt
      · exact ⟨t, e, ht⟩
    have h6 := mach_six hmB _ (List.mem_of_getElem? (atK_of htl))
    have hcN := (cel_yes hk hr (by rw [hpm]; exact ha) (by rw [hpm]; exact hit)).1
    have hcZ : celN k (r : Int) = celZ k r z := by rw [hcN, hpm, celZ, hit]; rfl
    have hl6 : (celN k (r : Int)).length = 6 := by rw [hcN, hpm]; exact h6
    rw [hl6, agrR, hz, Int.toNat_natCast, ha, hcZ]
    exact ⟨rfl, by omega⟩
set_option maxRecDepth 100000 in
set_option maxHeartbeats 8000000 in
theorem implAgrees_any (w : World) (a1 : Option Addr) (c1 : Nat) (a2 : Option Addr) (c2 : Nat) (a3 : Option Addr) (c3 : Nat) (k : C6) (hl : KCl.L k) (h : KCl.Rd w a1 c1 a2 c2 a3 c3 k) : Calls Tryz.prog 24 #[.agg #[.int .i64 k.config, .int .i64 k.clock, .slice a1 k.places.length c1, .slice a2 k.machines.length c2, .slice a3 k.txs.length c3, .bool k.lost]] w fun e w' => e = .returned (.bool (agrB k)) ∧ Below w.heap.size w w' := by
  obtain ⟨U, hU⟩ : ∃ Y, Y = w.alloc (.cells #[.int .i64 k.config, .int .i64 k.clock, .slice a1 k.places.length c1, .slice a2 k.machines.length c2, .slice a3 k.txs.length c3, .bool k.lost] 34) := ⟨_, rfl⟩
  have bU : Below w.heap.size w U := by rw [hU]; exact (Below.refl _ _).alloc (Nat.le_refl _) _
  have xU : Bx U w.heap.size [.int .i64 k.config, .int .i64 k.clock, .slice a1 k.places.length c1, .slice a2 k.machines.length c2, .slice a3 k.txs.length c3, .bool k.lost] := by rw [hU]; exact Bx.made w [.int .i64 k.config, .int .i64 k.clock, .slice a1 k.places.length c1, .slice a2 k.machines.length c2, .slice a3 k.txs.length c3, .bool k.lost] _
  have sU : U.heap.size = w.heap.size + 1 := by rw [hU]; simp
  have BU := hidOf bU
  have FA : Hid (Bx U w.heap.size [.int .i64 k.config, .int .i64 k.clock, .slice a1 k.places.length c1, .slice a2 k.machines.length c2, .slice a3 k.txs.length c3, .bool k.lost]) := xU
  have HR : Hid (KCl.Rd U a1 c1 a2 c2 a3 c3 k ∧ KCl.L k) := ⟨h.later bU, hl⟩
  have hc := replayed_any U a1 c1 a2 c2 a3 c3 k hl (h.later bU)
  obtain ⟨z, hz⟩ : ∃ z, agrB k = z := ⟨_, rfl⟩
  have HZ := hidOf hz
  rw [hz]
  clear h hl bU xU sU hz
  go_enter Tryz.func24, Tryz.ntmps24
  go_wp2_with fail
  rw [← hU]
  clear hU
  refine hc.mono ?_
  clear hc
  rintro e W1 ⟨hr, b1⟩
  have B1 : Hid (Below U.heap.size U W1) := b1
  clear b1
  rcases hr with ⟨hs, rfl⟩ | ⟨hs, b, g, rfl, hrep⟩
  · have HV : Hid (z = false) := by unfold Hid; rw [← HZ.out, agrB, hs]; rfl
    clear hs
    go_wp2
    go_ret
    exact ⟨by rw [HV.out]; rfl, bstep BU.out B1.out⟩
  · have hk : clusterB k = true := by unfold serB at hs; rw [Bool.and_eq_true] at hs; exact hs.1
    have HK := hidOf hk
    have HP : Hid (Rep W1 U.heap.size b k.places.length g (rep0 k).1) := hrep
    have hp6 := (CSm.of hk).p
    have HV : Hid (z = (List.range k.places.length).all (agrR k)) := by unfold Hid; rw [← HZ.out, agrB, hs]; rfl
    clear hrep hk hs
    go_wp2
    go_loopw [18] (fun v wr => ∃ r : Nat, r ≤ k.places.length ∧ v = .int .i64 r ∧ Below W1.heap.size W1 wr ∧ ∀ i, i < r → agrR k i = true) (fun v _ => k.places.length - (intOf v).toNat)
    case atStart => exact ⟨0, Nat.zero_le _, rfl, Below.refl _ _, fun i h => absurd h (by omega)⟩
    case round =>
      obtain ⟨r, hr, rfl, hbl, hall⟩ := hrel
      have KA : Hid (Below W1.heap.size W1 wr ∧ ∀ i, i < r → agrR k i = true) := ⟨hbl, hall⟩
      have KU : Hid (Below U.heap.size U wr) := bstep B1.out hbl
      clear hbl hall
      by_cases hlt : r < k.places.length
      · obtain ⟨xs, hxs⟩ : ∃ xs, (rep0 k).1[r]? = some xs := ⟨_, List.getElem?_eq_getElem (by rw [rep0_len]; exact hlt)⟩
        obtain ⟨e1, -, e3, -, e5, -, e7⟩ := HP.out.cs r xs hxs
        have hx6 : xs.length = 6 := by simp only [cellsB, Bool.and_eq_true, decide_eq_true_eq] at e7; exact e7.1
        have hac := agr_cel HK.out hlt
        rw [hxs, Option.getD_some] at hac
        have HAC := hidOf hac
        have HXS : Hid (CellsAt W1 (g r) 0 xs ∧ xs.length = 6 ∧ g r < W1.heap.size) := ⟨e5, hx6, e3⟩
        have r0 := (KA.out.1.cell (p := ⟨b, r, none⟩) HP.out.hi).trans e1
        have cC := implCells_any wr a1 c1 a2 c2 a3 c3 k (r : Int) HR.out.2 (HR.out.1.later KU.out)
        have p0 := (FA.out.later KU.out).1 0 _ rfl
        have p1 := (FA.out.later KU.out).1 1 _ rfl
        have p2 := (FA.out.later KU.out).1 2 _ rfl
        have p3 := (FA.out.later KU.out).1 3 _ rfl
        have p4 := (FA.out.later KU.out).1 4 _ rfl
        have p5 := (FA.out.later KU.out).1 5 _ rfl
        have rx : (r : Int) < (k.places.length : Int) := by omega
        clear hac e1 e3 e5 e7 hx6 hxs
        generalize g r = q at *
        go_wp2_with fail
        refine cC.mono ?_
        clear cC p0 p1 p2 p3 p4 p5 r0
        rintro e W2 ⟨ca, cc, P, rfl, how, b2⟩
        have K2 : Hid (Below W1.heap.size W1 W2) := bstep KA.out.1 b2
        have hsl : SlC W2 W2.heap.size ca (celN k (r : Int)).length (celN k (r : Int)) := how.sl
        have cG := agree_any W2 ca cc q (celN k (r : Int)) xs HAC.out.2 hsl (Nat.lt_of_lt_of_le HXS.out.2.2 K2.out.size) (HXS.out.1.blk (K2.out.block q HXS.out.2.2)) HXS.out.2.1
        rw [← HAC.out.1] at cG
        clear how b2 hsl
        generalize (celN k (r : Int)).length = ln at *
        generalize celB k (r : Int) = cb at *
        go_wp2_with fail
        refine cG.mono ?_
        clear cG
        rintro e W3 ⟨rfl, b3⟩
        have K3 : Hid (Below W1.heap.size W1 W3) := bstep K2.out b3
        clear b3
        cases hag : agrR k r with
        | false =>
          have HF : Hid (z = false) := by unfold Hid; rw [HV.out]; exact allN hlt hag
          clear hag
          go_wp2
          go_ret
          exact ⟨by rw [HF.out]; rfl, bstep BU.out (bstep B1.out K3.out)⟩
        | true =>
          have HN : Hid (∀ i, i < r + 1 → agrR k i = true) := fun i hi => by
            by_cases e : i = r
            · rw [e]; exact hag
            · exact KA.out.2 i (by omega)
          clear hag
          go_wp2
          exact ⟨⟨r + 1, by omega, by simp, K3.out, HN.out⟩, by simp [intOf]; omega⟩
      · obtain rfl : r = k.places.length := by omega
        have hd : decide ((k.places.length : Int) < (k.places.length : Int)) = false := by simp
        have HF : Hid (z = true) := by unfold Hid; rw [HV.out]; exact allR KA.out.2
        go_wp2
        go_ret
        exact ⟨by rw [HF.out]; rfl, bstep BU.out KU.out⟩
end Go.Proofs.YtdmpobegobfpjaaGreat
namespace Go.Proofs.YtdmpobegobfpjaaGreat
open Go.ChangeShapes Go.WideShapes Go.ChangeAt Go.RowKit
def S5.cells (s : S5) : List Value := [.int .i64 s.region, .int .i64 s.slot, .int .i64 s.value, .bool s.used, .int .i64 s.version]
def S5.wf (s : S5) : Prop := (Lit.int .i64 s.region).wf = true ∧ (Lit.int .i64 s.slot).wf = true ∧ (Lit.int .i64 s.value).wf = true ∧ (Lit.int .i64 s.version).wf = true
theorem list5 {α : Type} {cs : List α} (h : cs.length = 5) : ∃ c0 c1 c2 c3 c4, cs = [c0, c1, c2, c3, c4] := by
  match cs, h with
  | [c0, c1, c2, c3, c4], _ => exact ⟨c0, c1, c2, c3, c4, rfl⟩
theorem cells_set : Tryz.prog.cellsOf 200 = 5 := by kernel_rfl
theorem cells_int : Tryz.prog.cellsOf 2 = 1 := by kernel_rfl
theorem cells_bool : Tryz.prog.cellsOf 4 = 1 := by kernel_rfl
theorem open_set {H : Type} {enc : TypeId × Value → H} {w : World} {base : Nat} {spare : Nat → Bool} {held : Bool} {fuel : Nat} {cs : List Value} {x : DataW H × List MemPlace}
    (h : DataW.trod enc Tryz.prog w base spare held fuel 200 cs = some x) : ∃ s : S5, cs = s.cells ∧ s.wf := by
  obtain ⟨xs, n, _, rfl, hl, hlen, hf⟩ := DataW.trod_struct Tryz.underlying200 h
  rw [cells_set] at hl
  obtain ⟨c0, c1, c2, c3, c4, rfl⟩ := list5 hl
  obtain ⟨y0, y1, y2, y3, y4, rfl⟩ := list5 hlen
  have h0 := hf 0 _ rfl
  have h1 := hf 1 _ rfl
  have h2 := hf 2 _ rfl
  have h3 := hf 3 _ rfl
  have h4 := hf 4 _ rfl
  simp [cells_int, cells_bool] at h0 h1 h2 h3 h4
  obtain ⟨z0, e0, _, f0⟩ := DataW.trod_int Tryz.underlying2 h0
  obtain ⟨z1, e1, _, f1⟩ := DataW.trod_int Tryz.underlying2 h1
  obtain ⟨z2, e2, _, f2⟩ := DataW.trod_int Tryz.underlying2 h2
  obtain ⟨z3, e3, _⟩ := DataW.trod_bool Tryz.underlying4 h3
  obtain ⟨z4, e4, _, f4⟩ := DataW.trod_int Tryz.underlying2 h4
  simp at e0 e1 e2 e3 e4
  subst e0 e1 e2 e3 e4
  exact ⟨⟨z0, z1, z2, z3, z4⟩, rfl, f0, f1, f2, f4⟩
end Go.Proofs.YtdmpobegobfpjaaGreat
namespace Go.Proofs.YtdmpobegobfpjaaGreat
open Go.ChangeShapes Go.WideShapes Go.ChangeAt Go.RowKit Go.Deep
theorem list2 {α : Type} {cs : List α} (h : cs.length = 2) : ∃ c0 c1, cs = [c0, c1] := by
  match cs, h with
  | [c0, c1], _ => exact ⟨c0, c1, rfl⟩
theorem cells_cell : Tryz.prog.cellsOf 235 = 2 := by kernel_rfl
theorem cells_num : Tryz.prog.cellsOf 2 = 1 := by kernel_rfl
theorem open_cell {H : Type} {enc : TypeId × Value → H} {w : World} {base : Nat} {spare : Nat → Bool} {held : Bool} {fuel : Nat} {cs : List Value} {x : DataW H × List MemPlace}
    (h : DataW.trod enc Tryz.prog w base spare held fuel 235 cs = some x) : ∃ s : C2, cs = s.cells := by
  obtain ⟨xs, n, _, rfl, hl, hlen, hf⟩ := DataW.trod_struct Tryz.underlying235 h
  rw [cells_cell] at hl
  obtain ⟨c0, c1, rfl⟩ := list2 hl
  obtain ⟨y0, y1, rfl⟩ := list2 hlen
  have h0 := hf 0 _ rfl
  have h1 := hf 1 _ rfl
  simp [cells_num] at h0 h1
  obtain ⟨z0, e0, _, _⟩ := DataW.trod_int Tryz.underlying2 h0
  obtain ⟨z1, e1, _, _⟩ := DataW.trod_int Tryz.underlying2 h1
  simp at e0 e1
  subst e0 e1
  exact ⟨⟨z0, z1⟩, rfl⟩
theorem some_of {α : Type} {p : Nat → α → Prop} (n : Nat) (h : ∀ i, i < n → ∃ x, p i x) : ∃ xs : List α, xs.length = n ∧ ∀ i x, xs[i]? = some x → p i x := by
  induction n with
  | zero => exact ⟨[], rfl, fun i x e => by simp at e⟩
  | succ n ih =>
    obtain ⟨xs, hl, hx⟩ := ih fun i hi => h i (by omega)
    obtain ⟨y, hy⟩ := h n (by omega)
    refine ⟨xs ++ [y], by simp [hl], fun i x e => ?_⟩
    by_cases hi : i < xs.length
    · rw [List.getElem?_append_left hi] at e
      exact hx i x e
    · rw [List.getElem?_append_right (by omega)] at e
      have : i = xs.length := by
        by_cases h2 : i - xs.length = 0
        · omega
        · rw [List.getElem?_eq_none (by simp; omega)] at e; cases e
      subst this
      simp at e
      subst e
      rw [hl]; exact hy
end Go.Proofs.YtdmpobegobfpjaaGreat
namespace Go.Proofs.YtdmpobegobfpjaaGreat.om
open Go.ChangeShapes Go.WideShapes Go.ChangeAt Go.RowKit Go.Deep
theorem cells_i : Tryz.prog.cellsOf 2 = 1 := by kernel_rfl
theorem cells_b : Tryz.prog.cellsOf 4 = 1 := by kernel_rfl
theorem cells_ss : Tryz.prog.cellsOf 95 = 1 := by kernel_rfl
theorem cells_cs : Tryz.prog.cellsOf 188 = 1 := by kernel_rfl
theorem cells_rs : Tryz.prog.cellsOf 90 = 1 := by kernel_rfl
theorem cells_ks : Tryz.prog.cellsOf 89 = 1 := by kernel_rfl
theorem cells_is : Tryz.prog.cellsOf 28 = 1 := by kernel_rfl
theorem cells_r : Tryz.prog.cellsOf 193 = 4 := by kernel_rfl
theorem cells_k : Tryz.prog.cellsOf 190 = 2 := by kernel_rfl
theorem cells_m : Tryz.prog.cellsOf 92 = 4 := by kernel_rfl
theorem list4 {α : Type} {cs : List α} (h : cs.length = 4) : ∃ c0 c1 c2 c3, cs = [c0, c1, c2, c3] := by
  match cs, h with
  | [c0, c1, c2, c3], _ => exact ⟨c0, c1, c2, c3, rfl⟩
theorem open_sets {H : Type} {enc : TypeId × Value → H} {w : World} {spare : Nat → Bool} {held : Bool} {fuel : Nat} {cs : List Value} {x : DataW H × List MemPlace}
    (h : DataW.trod enc Tryz.prog w 0 spare held fuel 95 cs = some x) : ∃ a n cap xs, cs = [.slice a n cap] ∧ n ≤ maxLen ∧ n ≤ cap ∧ Sl w w.heap.size a n xs := by
  rcases open_slice Tryz.underlying95 h with ⟨rfl, _⟩ | ⟨a, len, cap, m, n, D, Pl, rfl, _, hl, hm, hmm, _, hx⟩
  · exact ⟨none, 0, 0, [], rfl, Nat.zero_le _, Nat.le_refl _, ⟨rfl, .inl rfl⟩⟩
  · have hlm : len ≤ m := by rw [hmm]; split <;> omega
    have key : ∀ i, i < len → ∃ s : S5, ∀ k, k < 5 → w.cell? ((a.add (i * 5)).add k) = s.cells[k]? := fun i hi => by
      obtain ⟨cs', h1, h2⟩ := hx i (by omega)
      rw [cells_set] at h1
      obtain ⟨s, rfl, _⟩ := open_set h2
      exact ⟨s, (World.cells?_some h1).2.2⟩
    obtain ⟨xs, hlen, hxs⟩ := some_of len key
    refine ⟨some a, len, cap, xs, rfl, by omega, by omega, ⟨hlen, ?_⟩⟩
    · by_cases h0 : len = 0
      · exact .inl h0
      · right
        obtain ⟨b, off, spot⟩ := a
        obtain ⟨s, hs⟩ := key 0 (by omega)
        have c0 : w.cell? ⟨b, off, spot⟩ = some (.int .i64 s.region) := by simpa [Addr.add, S5.cells] using hs 0 (by omega)
        have hspot : spot = none := by simpa using World.cell?_spot c0
        subst hspot
        refine ⟨b, off, rfl, block_lt_of_cell c0, fun i s e => ?_⟩
        have hk := hxs i s e
        simp only [add_plain] at hk
        exact ⟨by simpa [S5.cells] using hk 0 (by omega), by simpa [S5.cells] using hk 1 (by omega), by simpa [S5.cells] using hk 2 (by omega), by simpa [S5.cells] using hk 3 (by omega), by simpa [S5.cells] using hk 4 (by omega)⟩
theorem open_cells {H : Type} {enc : TypeId × Value → H} {w : World} {spare : Nat → Bool} {held : Bool} {fuel : Nat} {cs : List Value} {x : DataW H × List MemPlace}
    (h : DataW.trod enc Tryz.prog w 0 spare held fuel 188 cs = some x) : ∃ a n cap xs, cs = [.slice a n cap] ∧ n ≤ maxLen ∧ n ≤ cap ∧ SlC w w.heap.size a n xs := by
  rcases open_slice Tryz.underlying188 h with ⟨rfl, _⟩ | ⟨a, len, cap, m, n, D, Pl, rfl, _, hl, hm, hmm, _, hx⟩
  · exact ⟨none, 0, 0, [], rfl, Nat.zero_le _, Nat.le_refl _, ⟨rfl, .inl rfl⟩⟩
  · have hlm : len ≤ m := by rw [hmm]; split <;> omega
    have key : ∀ i, i < len → ∃ s : C2, ∀ k, k < 2 → w.cell? ((a.add (i * 2)).add k) = s.cells[k]? := fun i hi => by
      obtain ⟨cs', h1, h2⟩ := hx i (by omega)
      rw [cells_cell] at h1
      obtain ⟨s, rfl⟩ := open_cell h2
      exact ⟨s, (World.cells?_some h1).2.2⟩
    obtain ⟨xs, hlen, hxs⟩ := some_of len key
    refine ⟨some a, len, cap, xs, rfl, by omega, by omega, ⟨hlen, ?_⟩⟩
    · by_cases h0 : len = 0
      · exact .inl h0
      · right
        obtain ⟨b, off, spot⟩ := a
        obtain ⟨s, hs⟩ := key 0 (by omega)
        have c0 : w.cell? ⟨b, off, spot⟩ = some (.int .i64 s.head) := by simpa [Addr.add, C2.cells] using hs 0 (by omega)
        have hspot : spot = none := by simpa using World.cell?_spot c0
        subst hspot
        refine ⟨b, off, rfl, block_lt_of_cell c0, fun i s e => ?_⟩
        have hk := hxs i s e
        simp only [add_plain] at hk
        exact ⟨by simpa [C2.cells] using hk 0 (by omega), by simpa [C2.cells] using hk 1 (by omega)⟩
theorem open_nums {H : Type} {enc : TypeId × Value → H} {w : World} {spare : Nat → Bool} {held : Bool} {fuel : Nat} {cs : List Value} {x : DataW H × List MemPlace}
    (h : DataW.trod enc Tryz.prog w 0 spare held fuel 28 cs = some x) : ∃ a n cap xs, cs = [.slice a n cap] ∧ n ≤ maxLen ∧ n ≤ cap ∧ SlN w w.heap.size a n xs := by
  rcases open_slice Tryz.underlying28 h with ⟨rfl, _⟩ | ⟨a, len, cap, m, n, D, Pl, rfl, _, hl, hm, hmm, _, hx⟩
  · exact ⟨none, 0, 0, [], rfl, Nat.zero_le _, Nat.le_refl _, ⟨rfl, .inl rfl⟩⟩
  · have hlm : len ≤ m := by rw [hmm]; split <;> omega
    have key : ∀ i, i < len → ∃ s : Int, w.cell? (a.add (i * 1)) = some (.int .i64 s) := fun i hi => by
      obtain ⟨cs', h1, h2⟩ := hx i (by omega)
      rw [cells_i] at h1
      obtain ⟨z, e, _⟩ := DataW.trod_int Tryz.underlying2 h2
      subst e
      have := (World.cells?_some h1).2.2 0 (by omega)
      exact ⟨z, by simpa [Addr.add] using this⟩
    obtain ⟨xs, hlen, hxs⟩ := some_of len key
    refine ⟨some a, len, cap, xs, rfl, by omega, by omega, ⟨hlen, ?_⟩⟩
    · by_cases h0 : len = 0
      · exact .inl h0
      · right
        obtain ⟨b, off, spot⟩ := a
        obtain ⟨s, hs⟩ := key 0 (by omega)
        have c0 : w.cell? ⟨b, off, spot⟩ = some (.int .i64 s) := by simpa [Addr.add] using hs
        have hspot : spot = none := by simpa using World.cell?_spot c0
        subst hspot
        refine ⟨b, off, rfl, block_lt_of_cell c0, fun i s e => ?_⟩
        have hk := hxs i s e
        simp only [add_plain] at hk
        simpa using hk
theorem open_rec {H : Type} {enc : TypeId × Value → H} {w : World} {spare : Nat → Bool} {held : Bool} {fuel : Nat} {cs : List Value} {x : DataW H × List MemPlace}
    (h : DataW.trod enc Tryz.prog w 0 spare held fuel 193 cs = some x) : ∃ (r : R4) (a : Option Addr) (cap : Nat), cs = [.int .i64 r.kind, .int .i64 r.tx, .int .i64 r.region, .slice a r.sets.length cap] ∧ Sl w w.heap.size a r.sets.length r.sets ∧ r.sets.length ≤ cap ∧ r.sets.length ≤ maxLen := by
  obtain ⟨xs, n, _, rfl, hl, hlen, hf⟩ := DataW.trod_struct Tryz.underlying193 h
  rw [cells_r] at hl
  obtain ⟨c0, c1, c2, c3, rfl⟩ := list4 hl
  obtain ⟨y0, y1, y2, y3, rfl⟩ := list4 hlen
  have h0 := hf 0 _ rfl
  have h1 := hf 1 _ rfl
  have h2 := hf 2 _ rfl
  have h3 := hf 3 _ rfl
  simp [cells_i, cells_ss] at h0 h1 h2 h3
  obtain ⟨z0, e0, _, _⟩ := DataW.trod_int Tryz.underlying2 h0
  obtain ⟨z1, e1, _, _⟩ := DataW.trod_int Tryz.underlying2 h1
  obtain ⟨z2, e2, _, _⟩ := DataW.trod_int Tryz.underlying2 h2
  obtain ⟨a, m, cap, ss, e3, hm, hc, hs⟩ := open_sets h3
  simp at e0 e1 e2 e3
  subst e0 e1 e2 e3
  obtain ⟨rfl, hs'⟩ := hs
  exact ⟨⟨z0, z1, z2, ss⟩, a, cap, rfl, ⟨rfl, hs'⟩, hc, hm⟩
theorem open_cop {H : Type} {enc : TypeId × Value → H} {w : World} {spare : Nat → Bool} {held : Bool} {fuel : Nat} {cs : List Value} {x : DataW H × List MemPlace}
    (h : DataW.trod enc Tryz.prog w 0 spare held fuel 190 cs = some x) : ∃ (k : K2) (a : Option Addr) (cap : Nat), cs = [.int .i64 k.region, .slice a k.cells.length cap] ∧ SlC w w.heap.size a k.cells.length k.cells ∧ k.cells.length ≤ cap ∧ k.cells.length ≤ maxLen := by
  obtain ⟨xs, n, _, rfl, hl, hlen, hf⟩ := DataW.trod_struct Tryz.underlying190 h
  rw [cells_k] at hl
  obtain ⟨c0, c1, rfl⟩ := list2 hl
  obtain ⟨y0, y1, rfl⟩ := list2 hlen
  have h0 := hf 0 _ rfl
  have h1 := hf 1 _ rfl
  simp [cells_i, cells_cs] at h0 h1
  obtain ⟨z0, e0, _, _⟩ := DataW.trod_int Tryz.underlying2 h0
  obtain ⟨a, m, cap, ss, e3, hm, hc, hs⟩ := open_cells h1
  simp at e0 e3
  subst e0 e3
  obtain ⟨rfl, hs'⟩ := hs
  exact ⟨⟨z0, ss⟩, a, cap, rfl, ⟨rfl, hs'⟩, hc, hm⟩
theorem open_recs {H : Type} {enc : TypeId × Value → H} {w : World} {spare : Nat → Bool} {held : Bool} {fuel : Nat} {cs : List Value} {x : DataW H × List MemPlace}
    (h : DataW.trod enc Tryz.prog w 0 spare held fuel 90 cs = some x) : ∃ a n cap xs, cs = [.slice a n cap] ∧ n ≤ maxLen ∧ n ≤ cap ∧ SlR w w.heap.size a n xs ∧ ∀ s ∈ xs, s.sets.length ≤ maxLen := by
  rcases open_slice Tryz.underlying90 h with ⟨rfl, _⟩ | ⟨a, len, cap, m, n, D, Pl, rfl, _, hl, hm, hmm, _, hx⟩
  · exact ⟨none, 0, 0, [], rfl, Nat.zero_le _, Nat.le_refl _, ⟨rfl, .inl rfl⟩, fun s hs => by cases hs⟩
  · have hlm : len ≤ m := by rw [hmm]; split <;> omega
    have key : ∀ i, i < len → ∃ s : R4, (∃ a' cap', (∀ k, k < 4 → w.cell? ((a.add (i * 4)).add k) = ([.int .i64 s.kind, .int .i64 s.tx, .int .i64 s.region, .slice a' s.sets.length cap'] : List Value)[k]?) ∧ Sl w w.heap.size a' s.sets.length s.sets ∧ s.sets.length ≤ cap') ∧ s.sets.length ≤ maxLen := fun i hi => by
      obtain ⟨cs', h1, h2⟩ := hx i (by omega)
      rw [cells_r] at h1
      obtain ⟨s, a', cap', rfl, t1, t2, t3⟩ := open_rec h2
      exact ⟨s, ⟨a', cap', (World.cells?_some h1).2.2, t1, t2⟩, t3⟩
    obtain ⟨xs, hlen, hxs⟩ := some_of len key
    refine ⟨some a, len, cap, xs, rfl, by omega, by omega, ⟨hlen, ?_⟩, ?_⟩
    · by_cases h0 : len = 0
      · exact .inl h0
      · right
        obtain ⟨b, off, spot⟩ := a
        obtain ⟨s, hs⟩ := key 0 (by omega)
        obtain ⟨⟨a', cap', hs, _⟩, _⟩ := hs
        have c0 := hs 0 (by omega)
        simp [Addr.add] at c0
        have hspot : spot = none := by simpa using World.cell?_spot c0
        subst hspot
        refine ⟨b, off, rfl, block_lt_of_cell c0, fun i s e => ?_⟩
        have hk := hxs i s e
        simp only [add_plain] at hk
        obtain ⟨⟨a', cap', hk, t1, t2⟩, _⟩ := hk
        exact ⟨by simpa using hk 0 (by omega), by simpa using hk 1 (by omega), by simpa using hk 2 (by omega), a', cap', by simpa using hk 3 (by omega), t1, t2⟩
    · intro s hs
      obtain ⟨i, hi, rfl⟩ := List.getElem_of_mem hs
      exact (hxs i _ (List.getElem?_eq_getElem hi)).2
theorem open_cops {H : Type} {enc : TypeId × Value → H} {w : World} {spare : Nat → Bool} {held : Bool} {fuel : Nat} {cs : List Value} {x : DataW H × List MemPlace}
    (h : DataW.trod enc Tryz.prog w 0 spare held fuel 89 cs = some x) : ∃ a n cap xs, cs = [.slice a n cap] ∧ n ≤ maxLen ∧ n ≤ cap ∧ SlK w w.heap.size a n xs ∧ ∀ s ∈ xs, s.cells.length ≤ maxLen := by
  rcases open_slice Tryz.underlying89 h with ⟨rfl, _⟩ | ⟨a, len, cap, m, n, D, Pl, rfl, _, hl, hm, hmm, _, hx⟩
  · exact ⟨none, 0, 0, [], rfl, Nat.zero_le _, Nat.le_refl _, ⟨rfl, .inl rfl⟩, fun s hs => by cases hs⟩
  · have hlm : len ≤ m := by rw [hmm]; split <;> omega
    have key : ∀ i, i < len → ∃ s : K2, (∃ a' cap', (∀ k, k < 2 → w.cell? ((a.add (i * 2)).add k) = ([.int .i64 s.region, .slice a' s.cells.length cap'] : List Value)[k]?) ∧ SlC w w.heap.size a' s.cells.length s.cells ∧ s.cells.length ≤ cap') ∧ s.cells.length ≤ maxLen := fun i hi => by
      obtain ⟨cs', h1, h2⟩ := hx i (by omega)
      rw [cells_k] at h1
      obtain ⟨s, a', cap', rfl, t1, t2, t3⟩ := open_cop h2
      exact ⟨s, ⟨a', cap', (World.cells?_some h1).2.2, t1, t2⟩, t3⟩
    obtain ⟨xs, hlen, hxs⟩ := some_of len key
    refine ⟨some a, len, cap, xs, rfl, by omega, by omega, ⟨hlen, ?_⟩, ?_⟩
    · by_cases h0 : len = 0
      · exact .inl h0
      · right
        obtain ⟨b, off, spot⟩ := a
        obtain ⟨s, hs⟩ := key 0 (by omega)
        obtain ⟨⟨a', cap', hs, _⟩, _⟩ := hs
        have c0 := hs 0 (by omega)
        simp [Addr.add] at c0
        have hspot : spot = none := by simpa using World.cell?_spot c0
        subst hspot
        refine ⟨b, off, rfl, block_lt_of_cell c0, fun i s e => ?_⟩
        have hk := hxs i s e
        simp only [add_plain] at hk
        obtain ⟨⟨a', cap', hk, t1, t2⟩, _⟩ := hk
        exact ⟨by simpa using hk 0 (by omega), a', cap', by simpa using hk 1 (by omega), t1, t2⟩
    · intro s hs
      obtain ⟨i, hi, rfl⟩ := List.getElem_of_mem hs
      exact (hxs i _ (List.getElem?_eq_getElem hi)).2
theorem open_machine {H : Type} {enc : TypeId × Value → H} {w : World} {spare : Nat → Bool} {held : Bool} {fuel : Nat} {cs : List Value} {x : DataW H × List MemPlace}
    (h : DataW.trod enc Tryz.prog w 0 spare held fuel 92 cs = some x) : ∃ (v : MV) (m : M4), cs = [.bool m.alive, .slice v.ac m.copies.length v.cc, .slice v.al m.log.length v.cl, .slice v.ad m.cleared.length v.cd] ∧ SlM w v m ∧ m.copies.length ≤ maxLen ∧ m.log.length ≤ maxLen ∧ m.cleared.length ≤ maxLen ∧ (∀ r ∈ m.copies, r.cells.length ≤ maxLen) ∧ (∀ r ∈ m.log, r.sets.length ≤ maxLen) ∧ m.copies.length ≤ v.cc ∧ m.log.length ≤ v.cl ∧ m.cleared.length ≤ v.cd := by
  obtain ⟨xs, n, _, rfl, hl, hlen, hf⟩ := DataW.trod_struct Tryz.underlying92 h
  rw [cells_m] at hl
  obtain ⟨c0, c1, c2, c3, rfl⟩ := list4 hl
  obtain ⟨y0, y1, y2, y3, rfl⟩ := list4 hlen
  have h0 := hf 0 _ rfl
  have h1 := hf 1 _ rfl
  have h2 := hf 2 _ rfl
  have h3 := hf 3 _ rfl
  simp [cells_b, cells_ks, cells_rs, cells_is] at h0 h1 h2 h3
  obtain ⟨z0, e0, _⟩ := DataW.trod_bool Tryz.underlying4 h0
  obtain ⟨a1, n1, k1, ks, e1, l1, p1, s1, q1⟩ := open_cops h1
  obtain ⟨a2, n2, k2, rs, e2, l2, p2, s2, q2⟩ := open_recs h2
  obtain ⟨a3, n3, k3, zs, e3, l3, p3, s3⟩ := open_nums h3
  simp at e0 e1 e2 e3
  subst e0 e1 e2 e3
  obtain ⟨rfl, s1'⟩ := s1
  obtain ⟨rfl, s2'⟩ := s2
  obtain ⟨rfl, s3'⟩ := s3
  exact ⟨⟨a1, k1, a2, k2, a3, k3⟩, ⟨z0, ks, rs, zs⟩, rfl, ⟨⟨rfl, s1'⟩, ⟨rfl, s2'⟩, ⟨rfl, s3'⟩⟩, l1, l2, l3, q1, q2, p1, p2, p3⟩
end Go.Proofs.YtdmpobegobfpjaaGreat.om
namespace Go.Proofs.YtdmpobegobfpjaaGreat.tx.ot
open Go.ChangeShapes Go.WideShapes Go.ChangeAt Go.RowKit Go.Deep
theorem cells_i : Tryz.prog.cellsOf 2 = 1 := by kernel_rfl
theorem cells_ss : Tryz.prog.cellsOf 95 = 1 := by kernel_rfl
theorem cells_ns : Tryz.prog.cellsOf 94 = 1 := by kernel_rfl
theorem cells_t : Tryz.prog.cellsOf 97 = 7 := by kernel_rfl
theorem list7 {α : Type} {cs : List α} (h : cs.length = 7) : ∃ c0 c1 c2 c3 c4 c5 c6, cs = [c0, c1, c2, c3, c4, c5, c6] := by
  match cs, h with
  | [c0, c1, c2, c3, c4, c5, c6], _ => exact ⟨c0, c1, c2, c3, c4, c5, c6, rfl⟩
theorem some_of {α : Type} {p : Nat → α → Prop} (n : Nat) (h : ∀ i, i < n → ∃ x, p i x) : ∃ xs : List α, xs.length = n ∧ ∀ i x, xs[i]? = some x → p i x := by
  induction n with
  | zero => exact ⟨[], rfl, fun i x e => by simp at e⟩
  | succ n ih =>
    obtain ⟨xs, hl, hx⟩ := ih fun i hi => h i (by omega)
    obtain ⟨y, hy⟩ := h n (by omega)
    refine ⟨xs ++ [y], by simp [hl], fun i x e => ?_⟩
    by_cases hi : i < xs.length
    · rw [List.getElem?_append_left hi] at e
      exact hx i x e
    · rw [List.getElem?_append_right (by omega)] at e
      have : i = xs.length := by
        by_cases h2 : i - xs.length = 0
        · omega
        · rw [List.getElem?_eq_none (by simp; omega)] at e; cases e
      subst this
      simp at e
      subst e
      rw [hl]; exact hy
theorem list5 {α : Type} {cs : List α} (h : cs.length = 5) : ∃ c0 c1 c2 c3 c4, cs = [c0, c1, c2, c3, c4] := by
  match cs, h with
  | [c0, c1, c2, c3, c4], _ => exact ⟨c0, c1, c2, c3, c4, rfl⟩
theorem cells_set : Tryz.prog.cellsOf 200 = 5 := by kernel_rfl
theorem cells_int : Tryz.prog.cellsOf 2 = 1 := by kernel_rfl
theorem cells_bool : Tryz.prog.cellsOf 4 = 1 := by kernel_rfl
def setCells (s : S5) : List Value := [.int .i64 s.region, .int .i64 s.slot, .int .i64 s.value, .bool s.used, .int .i64 s.version]
def setWf (s : S5) : Prop := (Lit.int .i64 s.region).wf = true ∧ (Lit.int .i64 s.slot).wf = true ∧ (Lit.int .i64 s.value).wf = true ∧ (Lit.int .i64 s.version).wf = true
theorem open_set {H : Type} {enc : TypeId × Value → H} {w : World} {base : Nat} {spare : Nat → Bool} {held : Bool} {fuel : Nat} {cs : List Value} {x : DataW H × List MemPlace}
    (h : DataW.trod enc Tryz.prog w base spare held fuel 200 cs = some x) : ∃ s : S5, cs = (setCells s) ∧ setWf s := by
  obtain ⟨xs, n, _, rfl, hl, hlen, hf⟩ := DataW.trod_struct Tryz.underlying200 h
  rw [cells_set] at hl
  obtain ⟨c0, c1, c2, c3, c4, rfl⟩ := list5 hl
  obtain ⟨y0, y1, y2, y3, y4, rfl⟩ := list5 hlen
  have h0 := hf 0 _ rfl
  have h1 := hf 1 _ rfl
  have h2 := hf 2 _ rfl
  have h3 := hf 3 _ rfl
  have h4 := hf 4 _ rfl
  simp [cells_int, cells_bool] at h0 h1 h2 h3 h4
  obtain ⟨z0, e0, _, f0⟩ := DataW.trod_int Tryz.underlying2 h0
  obtain ⟨z1, e1, _, f1⟩ := DataW.trod_int Tryz.underlying2 h1
  obtain ⟨z2, e2, _, f2⟩ := DataW.trod_int Tryz.underlying2 h2
  obtain ⟨z3, e3, _⟩ := DataW.trod_bool Tryz.underlying4 h3
  obtain ⟨z4, e4, _, f4⟩ := DataW.trod_int Tryz.underlying2 h4
  simp at e0 e1 e2 e3 e4
  subst e0 e1 e2 e3 e4
  exact ⟨⟨z0, z1, z2, z3, z4⟩, rfl, f0, f1, f2, f4⟩
theorem open_sets {H : Type} {enc : TypeId × Value → H} {w : World} {spare : Nat → Bool} {held : Bool} {fuel : Nat} {cs : List Value} {x : DataW H × List MemPlace}
    (h : DataW.trod enc Tryz.prog w 0 spare held fuel 95 cs = some x) : ∃ a n cap xs, cs = [.slice a n cap] ∧ n ≤ maxLen ∧ n ≤ cap ∧ Sl w w.heap.size a n xs := by
  rcases open_slice Tryz.underlying95 h with ⟨rfl, _⟩ | ⟨a, len, cap, m, n, D, Pl, rfl, _, hl, hm, hmm, _, hx⟩
  · exact ⟨none, 0, 0, [], rfl, Nat.zero_le _, Nat.le_refl _, ⟨rfl, .inl rfl⟩⟩
  · have hlm : len ≤ m := by rw [hmm]; split <;> omega
    have key : ∀ i, i < len → ∃ s : S5, ∀ k, k < 5 → w.cell? ((a.add (i * 5)).add k) = (setCells s)[k]? := fun i hi => by
      obtain ⟨cs', h1, h2⟩ := hx i (by omega)
      rw [cells_set] at h1
      obtain ⟨s, rfl, _⟩ := open_set h2
      exact ⟨s, (World.cells?_some h1).2.2⟩
    obtain ⟨xs, hlen, hxs⟩ := some_of len key
    refine ⟨some a, len, cap, xs, rfl, by omega, by omega, ⟨hlen, ?_⟩⟩
    · by_cases h0 : len = 0
      · exact .inl h0
      · right
        obtain ⟨b, off, spot⟩ := a
        obtain ⟨s, hs⟩ := key 0 (by omega)
        have c0 : w.cell? ⟨b, off, spot⟩ = some (.int .i64 s.region) := by simpa [Addr.add, setCells] using hs 0 (by omega)
        have hspot : spot = none := by simpa using World.cell?_spot c0
        subst hspot
        refine ⟨b, off, rfl, block_lt_of_cell c0, fun i s e => ?_⟩
        have hk := hxs i s e
        simp only [add_plain] at hk
        exact ⟨by simpa [setCells] using hk 0 (by omega), by simpa [setCells] using hk 1 (by omega), by simpa [setCells] using hk 2 (by omega), by simpa [setCells] using hk 3 (by omega), by simpa [setCells] using hk 4 (by omega)⟩
theorem cells_note : Tryz.prog.cellsOf 198 = 5 := by kernel_rfl
def noteCells (s : N5) : List Value := [.int .i64 s.region, .int .i64 s.slot, .int .i64 s.version, .int .i64 s.value, .bool s.used]
def noteWf (s : N5) : Prop := (Lit.int .i64 s.region).wf = true ∧ (Lit.int .i64 s.slot).wf = true ∧ (Lit.int .i64 s.version).wf = true ∧ (Lit.int .i64 s.value).wf = true
theorem open_note {H : Type} {enc : TypeId × Value → H} {w : World} {base : Nat} {spare : Nat → Bool} {held : Bool} {fuel : Nat} {cs : List Value} {x : DataW H × List MemPlace}
    (h : DataW.trod enc Tryz.prog w base spare held fuel 198 cs = some x) : ∃ s : N5, cs = (noteCells s) ∧ noteWf s := by
  obtain ⟨xs, n, _, rfl, hl, hlen, hf⟩ := DataW.trod_struct Tryz.underlying198 h
  rw [cells_note] at hl
  obtain ⟨c0, c1, c2, c3, c4, rfl⟩ := list5 hl
  obtain ⟨y0, y1, y2, y3, y4, rfl⟩ := list5 hlen
  have h0 := hf 0 _ rfl
  have h1 := hf 1 _ rfl
  have h2 := hf 2 _ rfl
  have h3 := hf 3 _ rfl
  have h4 := hf 4 _ rfl
  simp [cells_int, cells_bool] at h0 h1 h2 h3 h4
  obtain ⟨z0, e0, _, f0⟩ := DataW.trod_int Tryz.underlying2 h0
  obtain ⟨z1, e1, _, f1⟩ := DataW.trod_int Tryz.underlying2 h1
  obtain ⟨z2, e2, _, f2⟩ := DataW.trod_int Tryz.underlying2 h2
  obtain ⟨z3, e3, _, f4⟩ := DataW.trod_int Tryz.underlying2 h3
  obtain ⟨z4, e4, _⟩ := DataW.trod_bool Tryz.underlying4 h4
  simp at e0 e1 e2 e3 e4
  subst e0 e1 e2 e3 e4
  exact ⟨⟨z0, z1, z2, z3, z4⟩, rfl, f0, f1, f2, f4⟩
theorem open_notes {H : Type} {enc : TypeId × Value → H} {w : World} {spare : Nat → Bool} {held : Bool} {fuel : Nat} {cs : List Value} {x : DataW H × List MemPlace}
    (h : DataW.trod enc Tryz.prog w 0 spare held fuel 94 cs = some x) : ∃ a n cap xs, cs = [.slice a n cap] ∧ n ≤ maxLen ∧ n ≤ cap ∧ SlNo w w.heap.size a n xs := by
  rcases open_slice Tryz.underlying94 h with ⟨rfl, _⟩ | ⟨a, len, cap, m, n, D, Pl, rfl, _, hl, hm, hmm, _, hx⟩
  · exact ⟨none, 0, 0, [], rfl, Nat.zero_le _, Nat.le_refl _, ⟨rfl, .inl rfl⟩⟩
  · have hlm : len ≤ m := by rw [hmm]; split <;> omega
    have key : ∀ i, i < len → ∃ s : N5, ∀ k, k < 5 → w.cell? ((a.add (i * 5)).add k) = (noteCells s)[k]? := fun i hi => by
      obtain ⟨cs', h1, h2⟩ := hx i (by omega)
      rw [cells_note] at h1
      obtain ⟨s, rfl, _⟩ := open_note h2
      exact ⟨s, (World.cells?_some h1).2.2⟩
    obtain ⟨xs, hlen, hxs⟩ := some_of len key
    refine ⟨some a, len, cap, xs, rfl, by omega, by omega, ⟨hlen, ?_⟩⟩
    · by_cases h0 : len = 0
      · exact .inl h0
      · right
        obtain ⟨b, off, spot⟩ := a
        obtain ⟨s, hs⟩ := key 0 (by omega)
        have c0 : w.cell? ⟨b, off, spot⟩ = some (.int .i64 s.region) := by simpa [Addr.add, noteCells] using hs 0 (by omega)
        have hspot : spot = none := by simpa using World.cell?_spot c0
        subst hspot
        refine ⟨b, off, rfl, block_lt_of_cell c0, fun i s e => ?_⟩
        have hk := hxs i s e
        simp only [add_plain] at hk
        exact ⟨by simpa [noteCells] using hk 0 (by omega), by simpa [noteCells] using hk 1 (by omega), by simpa [noteCells] using hk 2 (by omega), by simpa [noteCells] using hk 3 (by omega), by simpa [noteCells] using hk 4 (by omega)⟩
theorem open_tx {H : Type} {enc : TypeId × Value → H} {w : World} {spare : Nat → Bool} {held : Bool} {fuel : Nat} {cs : List Value} {x : DataW H × List MemPlace}
    (h : DataW.trod enc Tryz.prog w 0 spare held fuel 97 cs = some x) : ∃ (v : TV) (t : T7), cs = [.int .i64 t.id, .int .i64 t.home, .int .i64 t.phase, .int .i64 t.count, .slice v.ar t.reads.length v.cr, .slice v.ah t.sets.length v.ch, .int .i64 t.stamp] ∧ (SlT w v t ∧ t.sets.length ≤ v.ch) ∧ TL t := by
  obtain ⟨xs, n, _, rfl, hl, hlen, hf⟩ := DataW.trod_struct Tryz.underlying97 h
  rw [cells_t] at hl
  obtain ⟨c0, c1, c2, c3, c4, c5, c6, rfl⟩ := list7 hl
  obtain ⟨y0, y1, y2, y3, y4, y5, y6, rfl⟩ := list7 hlen
  have h0 := hf 0 _ rfl
  have h1 := hf 1 _ rfl
  have h2 := hf 2 _ rfl
  have h3 := hf 3 _ rfl
  have h4 := hf 4 _ rfl
  have h5 := hf 5 _ rfl
  have h6 := hf 6 _ rfl
  simp [cells_i, cells_ns, cells_ss] at h0 h1 h2 h3 h4 h5 h6
  obtain ⟨z0, e0, _, _⟩ := DataW.trod_int Tryz.underlying2 h0
  obtain ⟨z1, e1, _, _⟩ := DataW.trod_int Tryz.underlying2 h1
  obtain ⟨z2, e2, _, _⟩ := DataW.trod_int Tryz.underlying2 h2
  obtain ⟨z3, e3, _, _⟩ := DataW.trod_int Tryz.underlying2 h3
  obtain ⟨a4, n4, k4, ns, e4, l4, p4, s4⟩ := open_notes h4
  obtain ⟨a5, n5, k5, ss, e5, l5, p5, s5⟩ := open_sets h5
  obtain ⟨z6, e6, _, _⟩ := DataW.trod_int Tryz.underlying2 h6
  simp at e0 e1 e2 e3 e4 e5 e6
  subst e0 e1 e2 e3 e4 e5 e6
  obtain ⟨rfl, s4'⟩ := s4
  obtain ⟨rfl, s5'⟩ := s5
  exact ⟨⟨a4, k4, a5, k5⟩, ⟨z0, z1, z2, z3, ns, ss, z6⟩, rfl, ⟨⟨⟨rfl, s4'⟩, ⟨rfl, s5'⟩⟩, p5⟩, ⟨l4, l5⟩⟩
end Go.Proofs.YtdmpobegobfpjaaGreat.tx.ot
namespace Go.Proofs.YtdmpobegobfpjaaGreat.oc
open Go.ChangeShapes Go.WideShapes Go.ChangeAt Go.RowKit Go.Deep
theorem cells_one : Tryz.prog.cellsOf 2 = 1 := by kernel_rfl
theorem cells_row : Tryz.prog.cellsOf 28 = 1 := by kernel_rfl
theorem cells_place : Tryz.prog.cellsOf 87 = 1 := by kernel_rfl
theorem list1 {α : Type} {cs : List α} (h : cs.length = 1) : ∃ c0, cs = [c0] := by
  match cs, h with
  | [c0], _ => exact ⟨c0, rfl⟩
theorem rows_of {α : Type} {p : Nat → α → Prop} (n : Nat) (h : ∀ i, i < n → ∃ x, p i x) : ∃ xs : List α, xs.length = n ∧ ∀ i x, xs[i]? = some x → p i x := by
  induction n with
  | zero => exact ⟨[], rfl, fun i x e => by simp at e⟩
  | succ n ih =>
    obtain ⟨xs, hl, hx⟩ := ih fun i hi => h i (by omega)
    obtain ⟨y, hy⟩ := h n (by omega)
    refine ⟨xs ++ [y], by simp [hl], fun i x e => ?_⟩
    by_cases hi : i < xs.length
    · rw [List.getElem?_append_left hi] at e
      exact hx i x e
    · rw [List.getElem?_append_right (by omega)] at e
      have : i = xs.length := by
        by_cases h2 : i - xs.length = 0
        · omega
        · rw [List.getElem?_eq_none (by simp; omega)] at e; cases e
      subst this
      simp at e
      subst e
      rw [hl]; exact hy
theorem open_numrow {H : Type} {enc : TypeId × Value → H} {w : World} {spare : Nat → Bool} {held : Bool} {fuel : Nat} {cs : List Value} {x : DataW H × List MemPlace}
    (h : DataW.trod enc Tryz.prog w 0 spare held fuel 28 cs = some x) : ∃ a n cap zs, cs = [.slice a n cap] ∧ n ≤ maxLen ∧ n ≤ cap ∧ SlN w w.heap.size a n zs := by
  rcases open_slice Tryz.underlying28 h with ⟨rfl, _⟩ | ⟨a, len, cap, m, n, D, Pl, rfl, _, hl, hm, hmm, _, hx⟩
  · exact ⟨none, 0, 0, [], rfl, Nat.zero_le _, Nat.le_refl _, ⟨rfl, .inl rfl⟩⟩
  · have hlm : len ≤ m := by rw [hmm]; split <;> omega
    have key : ∀ i, i < len → ∃ z : Int, w.cell? (a.add (i * 1)) = some (.int .i64 z) := fun i hi => by
      obtain ⟨cs', h1, h2⟩ := hx i (by omega)
      rw [cells_one] at h1
      obtain ⟨z, e, _⟩ := DataW.trod_int Tryz.underlying2 h2
      subst e
      have := (World.cells?_some h1).2.2 0 (by omega)
      exact ⟨z, by simpa [Addr.add] using this⟩
    obtain ⟨zs, hlen, hzs⟩ := rows_of len key
    refine ⟨some a, len, cap, zs, rfl, by omega, by omega, ⟨hlen, ?_⟩⟩
    by_cases h0 : len = 0
    · exact .inl h0
    · right
      obtain ⟨b, off, spot⟩ := a
      obtain ⟨z, hz⟩ := key 0 (by omega)
      have c0 : w.cell? ⟨b, off, spot⟩ = some (.int .i64 z) := by simpa [Addr.add] using hz
      have hspot : spot = none := by simpa using World.cell?_spot c0
      subst hspot
      refine ⟨b, off, rfl, block_lt_of_cell c0, fun i z e => ?_⟩
      have hk := hzs i z e
      simpa [add_plain] using hk
def PlaceIs (w : World) (v : Value) (zs : List Int) : Prop := ∃ a cap, v = .slice a zs.length cap ∧ SlN w w.heap.size a zs.length zs ∧ zs.length ≤ cap ∧ zs.length ≤ maxLen
theorem open_place {H : Type} {enc : TypeId × Value → H} {w : World} {spare : Nat → Bool} {held : Bool} {fuel : Nat} {cs : List Value} {x : DataW H × List MemPlace}
    (h : DataW.trod enc Tryz.prog w 0 spare held fuel 87 cs = some x) : ∃ v zs, cs = [v] ∧ PlaceIs w v zs := by
  obtain ⟨xs, n, _, rfl, hl, hlen, hf⟩ := DataW.trod_struct Tryz.underlying87 h
  rw [cells_place] at hl
  obtain ⟨c0, rfl⟩ := list1 hl
  obtain ⟨y0, rfl⟩ := list1 hlen
  have h0 := hf 0 _ rfl
  simp [cells_row] at h0
  obtain ⟨a, m, cap, zs, e, hm, hc, hs⟩ := open_numrow h0
  simp at e
  subst e
  obtain rfl : zs.length = m := hs.1
  exact ⟨_, zs, rfl, a, cap, rfl, hs, hc, hm⟩
theorem open_placerow {H : Type} {enc : TypeId × Value → H} {w : World} {spare : Nat → Bool} {held : Bool} {fuel : Nat} {cs : List Value} {x : DataW H × List MemPlace}
    (h : DataW.trod enc Tryz.prog w 0 spare held fuel 22 cs = some x) : ∃ a n cap zss, cs = [.slice a n cap] ∧ n ≤ maxLen ∧ SlP w w.heap.size a n zss ∧ ∀ zs ∈ zss, zs.length ≤ maxLen := by
  rcases open_slice Tryz.underlying22 h with ⟨rfl, _⟩ | ⟨a, len, cap, m, n, D, Pl, rfl, _, hl, hm, hmm, _, hx⟩
  · exact ⟨none, 0, 0, [], rfl, Nat.zero_le _, ⟨rfl, .inl rfl⟩, fun zs h => by simp at h⟩
  · have hlm : len ≤ m := by rw [hmm]; split <;> omega
    have key : ∀ i, i < len → ∃ zs : List Int, ∃ v, w.cell? (a.add (i * 1)) = some v ∧ PlaceIs w v zs := fun i hi => by
      obtain ⟨cs', h1, h2⟩ := hx i (by omega)
      rw [cells_place] at h1
      obtain ⟨v, zs, rfl, hp⟩ := open_place h2
      have := (World.cells?_some h1).2.2 0 (by omega)
      exact ⟨zs, v, by simpa [Addr.add] using this, hp⟩
    obtain ⟨zss, hlen, hzs⟩ := rows_of len key
    refine ⟨some a, len, cap, zss, rfl, by omega, ⟨hlen, ?_⟩, fun zs hz => ?_⟩
    · by_cases h0 : len = 0
      · exact .inl h0
      · right
        obtain ⟨b, off, spot⟩ := a
        obtain ⟨zs, v, hz, _⟩ := key 0 (by omega)
        have c0 : w.cell? ⟨b, off, spot⟩ = some v := by simpa [Addr.add] using hz
        have hspot : spot = none := by simpa using World.cell?_spot c0
        subst hspot
        refine ⟨b, off, rfl, block_lt_of_cell c0, fun i zs e => ?_⟩
        obtain ⟨v, hk, a', cap', rfl, hs, hc, _⟩ := hzs i zs e
        exact ⟨a', cap', by simpa [add_plain] using hk, hs, hc⟩
    · obtain ⟨i, hi, rfl⟩ := List.getElem_of_mem hz
      obtain ⟨v, _, _, _, _, _, _, hm⟩ := hzs i _ (List.getElem?_eq_getElem hi)
      exact hm
theorem cells_machs : Tryz.prog.cellsOf 92 = 4 := by kernel_rfl
theorem open_machs {H : Type} {enc : TypeId × Value → H} {w : World} {spare : Nat → Bool} {held : Bool} {fuel : Nat} {cs : List Value} {x : DataW H × List MemPlace}
    (h : DataW.trod enc Tryz.prog w 0 spare held fuel 23 cs = some x) : ∃ (a : Option Addr) (cap : Nat) (xs : List M4), cs = [.slice a xs.length cap] ∧ xs.length ≤ maxLen ∧ KMk.RdS w a xs ∧ ∀ d ∈ xs, ML d := by
  rcases open_slice Tryz.underlying23 h with ⟨rfl, _⟩ | ⟨a, len, cap, m, n, DD, Pl, rfl, _, hl, hm, hmm, _, hx⟩
  · exact ⟨none, 0, [], rfl, Nat.zero_le _, .inl rfl, fun s hs => by cases hs⟩
  · have hlm : len ≤ m := by rw [hmm]; split <;> omega
    have key : ∀ i, i < len → ∃ d : M4, ∃ v : MV, (∀ k, k < 4 → w.cell? ((a.add (i * 4)).add k) = (KMk.cells v d)[k]?) ∧ KMk.Rd w v d ∧ ML d := fun i hi => by
      obtain ⟨cs', h1, h2⟩ := hx i (by omega)
      rw [cells_machs] at h1
      obtain ⟨v, d, rfl, t1, l1, l2, l3, k1, k2, _⟩ := om.open_machine h2
      exact ⟨d, v, (World.cells?_some h1).2.2, t1, ⟨l1, k1, l2, k2, l3⟩⟩
    obtain ⟨xs, hlen, hxs⟩ := rows_of len key
    subst hlen
    refine ⟨some a, cap, xs, rfl, by omega, ?_, ?_⟩
    · by_cases h0 : xs = []
      · exact .inl h0
      · right
        obtain ⟨b, off, spot⟩ := a
        obtain ⟨d, v, hs, _⟩ := key 0 (by have := List.length_pos_iff.2 h0; omega)
        have c0 := hs 0 (by omega)
        simp [Addr.add, KMk] at c0
        have hspot : spot = none := by simpa using World.cell?_spot c0
        subst hspot
        refine ⟨b, off, rfl, block_lt_of_cell c0, fun i d e => ?_⟩
        obtain ⟨v, hk, t1, _⟩ := hxs i d e
        simp only [add_plain] at hk
        refine ⟨v, fun j u hu => ?_, t1⟩
        have hj : j < 4 := by have := (List.getElem?_eq_some_iff.1 hu).1; rwa [KMk.len] at this
        have := hk j hj
        rw [hu] at this
        exact this
    · intro d hd
      obtain ⟨i, hi, rfl⟩ := List.getElem_of_mem hd
      obtain ⟨_, _, _, h3⟩ := hxs i _ (List.getElem?_eq_getElem hi)
      exact h3
theorem cells_txs : Tryz.prog.cellsOf 97 = 7 := by kernel_rfl
theorem open_txs {H : Type} {enc : TypeId × Value → H} {w : World} {spare : Nat → Bool} {held : Bool} {fuel : Nat} {cs : List Value} {x : DataW H × List MemPlace}
    (h : DataW.trod enc Tryz.prog w 0 spare held fuel 24 cs = some x) : ∃ (a : Option Addr) (cap : Nat) (xs : List tx.T7), cs = [.slice a xs.length cap] ∧ xs.length ≤ maxLen ∧ KTkC.RdS w a xs ∧ ∀ d ∈ xs, tx.TL d := by
  rcases open_slice Tryz.underlying24 h with ⟨rfl, _⟩ | ⟨a, len, cap, m, n, DD, Pl, rfl, _, hl, hm, hmm, _, hx⟩
  · exact ⟨none, 0, [], rfl, Nat.zero_le _, .inl rfl, fun s hs => by cases hs⟩
  · have hlm : len ≤ m := by rw [hmm]; split <;> omega
    have key : ∀ i, i < len → ∃ d : tx.T7, ∃ v : tx.TV, (∀ k, k < 7 → w.cell? ((a.add (i * 7)).add k) = (KTk.cells v d)[k]?) ∧ KTkC.Rd w v d ∧ tx.TL d := fun i hi => by
      obtain ⟨cs', h1, h2⟩ := hx i (by omega)
      rw [cells_txs] at h1
      obtain ⟨v, d, rfl, t1, l1⟩ := tx.ot.open_tx h2
      exact ⟨d, v, (World.cells?_some h1).2.2, t1, l1⟩
    obtain ⟨xs, hlen, hxs⟩ := rows_of len key
    subst hlen
    refine ⟨some a, cap, xs, rfl, by omega, ?_, ?_⟩
    · by_cases h0 : xs = []
      · exact .inl h0
      · right
        obtain ⟨b, off, spot⟩ := a
        obtain ⟨d, v, hs, _⟩ := key 0 (by have := List.length_pos_iff.2 h0; omega)
        have c0 := hs 0 (by omega)
        simp [Addr.add, KTk] at c0
        have hspot : spot = none := by simpa using World.cell?_spot c0
        subst hspot
        refine ⟨b, off, rfl, block_lt_of_cell c0, fun i d e => ?_⟩
        obtain ⟨v, hk, t1, _⟩ := hxs i d e
        simp only [add_plain] at hk
        refine ⟨v, fun j u hu => ?_, t1⟩
        have hj : j < 7 := by have := (List.getElem?_eq_some_iff.1 hu).1; rwa [KTkC.len] at this
        have := hk j hj
        rw [show (KTk.cells v d)[j]? = some u from hu] at this
        exact this
    · intro d hd
      obtain ⟨i, hi, rfl⟩ := List.getElem_of_mem hd
      obtain ⟨_, _, _, h3⟩ := hxs i _ (List.getElem?_eq_getElem hi)
      exact h3
theorem cells_cl : Tryz.prog.cellsOf 26 = 6 := by kernel_rfl
theorem cells_ip : Tryz.prog.cellsOf 22 = 1 := by kernel_rfl
theorem cells_im : Tryz.prog.cellsOf 23 = 1 := by kernel_rfl
theorem cells_it : Tryz.prog.cellsOf 24 = 1 := by kernel_rfl
theorem cells_ib : Tryz.prog.cellsOf 4 = 1 := by kernel_rfl
theorem list6 {α : Type} {cs : List α} (h : cs.length = 6) : ∃ c0 c1 c2 c3 c4 c5, cs = [c0, c1, c2, c3, c4, c5] := by
  match cs, h with
  | [c0, c1, c2, c3, c4, c5], _ => exact ⟨c0, c1, c2, c3, c4, c5, rfl⟩
theorem open_cluster {H : Type} {enc : TypeId × Value → H} {w : World} {spare : Nat → Bool} {held : Bool} {fuel : Nat} {cs : List Value} {x : DataW H × List MemPlace}
    (h : DataW.trod enc Tryz.prog w 0 spare held fuel 26 cs = some x) : ∃ (a1 : Option Addr) (c1 : Nat) (a2 : Option Addr) (c2 : Nat) (a3 : Option Addr) (c3 : Nat) (k : C6), cs = [.int .i64 k.config, .int .i64 k.clock, .slice a1 k.places.length c1, .slice a2 k.machines.length c2, .slice a3 k.txs.length c3, .bool k.lost] ∧ KCl.Rd w a1 c1 a2 c2 a3 c3 k ∧ KCl.L k := by
  obtain ⟨xs, n, _, rfl, hl, hlen, hf⟩ := DataW.trod_struct Tryz.underlying26 h
  rw [cells_cl] at hl
  obtain ⟨c0, c1, c2, c3, c4, c5, rfl⟩ := list6 hl
  obtain ⟨y0, y1, y2, y3, y4, y5, rfl⟩ := list6 hlen
  have h0 := hf 0 _ rfl
  have h1 := hf 1 _ rfl
  have h2 := hf 2 _ rfl
  have h3 := hf 3 _ rfl
  have h4 := hf 4 _ rfl
  have h5 := hf 5 _ rfl
  simp [cells_one, cells_ip, cells_im, cells_it, cells_ib] at h0 h1 h2 h3 h4 h5
  obtain ⟨z0, e0, _, _⟩ := DataW.trod_int Tryz.underlying2 h0
  obtain ⟨z1, e1, _, _⟩ := DataW.trod_int Tryz.underlying2 h1
  obtain ⟨a1, n1, k1, zss, e2, l1, s1, q1⟩ := open_placerow h2
  obtain ⟨a2, k2, ms, e3, l2, s2, q2⟩ := open_machs h3
  obtain ⟨a3, k3, ts, e4, l3, s3, q3⟩ := open_txs h4
  obtain ⟨z5, e5, _⟩ := DataW.trod_bool Tryz.underlying4 h5
  simp at e0 e1 e2 e3 e4 e5
  subst e0 e1 e2 e3 e4 e5
  obtain rfl : zss.length = n1 := s1.1
  exact ⟨a1, k1, a2, k2, a3, k3, ⟨z0, z1, zss, ms, ts, z5⟩, rfl, ⟨s1, s2, capS s3, s3⟩, ⟨l1, q1, l2, q2, l3, q3⟩⟩
end Go.Proofs.YtdmpobegobfpjaaGreat.oc
namespace Go.Proofs.YtdmpobegobfpjaaGreat
open Go.RowKit
theorem KP.Ow.low {w : World} {B B' : Nat} {a : Option Addr} {zss : List (List Int)} {P : Nat → Prop} (h : KP.Ow w B a zss P) (hb : B' ≤ B) : KP.Ow w B' a zss P := by
  obtain ⟨⟨g, h1, h2, h3⟩, h4⟩ := h
  exact ⟨⟨g, h1.lower hb, h2, h3⟩, fun q hq => ⟨Nat.le_trans hb (h4 q hq).1, (h4 q hq).2⟩⟩
set_option maxRecDepth 100000 in
set_option maxHeartbeats 4000000 in
theorem KCl.to (X : World) (a1 : Option Addr) (c1 : Nat) (a2 : Option Addr) (c2 : Nat) (a3 : Option Addr) (c3 : Nat) (k : C6) (ht : KCl.S k) (h : KCl.Rd X a1 c1 a2 c2 a3 c3 k) : Calls Tryz.prog 9 #[.agg #[.int .i64 k.config, .int .i64 k.clock, .slice a1 k.places.length c1, .slice a2 k.machines.length c2, .slice a3 k.txs.length c3, .bool k.lost]] X fun e w' =>
    ∃ (a1 : Option Addr) (c1 : Nat) (a2 : Option Addr) (c2 : Nat) (a3 : Option Addr) (c3 : Nat) (P : Nat → Prop), e = .returned (.agg #[.int .i64 k.config, .int .i64 k.clock, .slice a1 k.places.length c1, .slice a2 k.machines.length c2, .slice a3 k.txs.length c3, .bool k.lost]) ∧ KCl.Ow w' X.heap.size a1 c1 a2 c2 a3 c3 k P ∧ Below X.heap.size X w' := by
  obtain ⟨U0, hU0⟩ : ∃ Y, Y = X.alloc (.cells #[.int .i64 k.config, .int .i64 k.clock, .slice a1 k.places.length c1, .slice a2 k.machines.length c2, .slice a3 k.txs.length c3, .bool k.lost] 26) := ⟨_, rfl⟩
  have b0 : Below X.heap.size X U0 := by rw [hU0]; exact (Below.refl _ _).alloc (Nat.le_refl _) _
  have x0 : Bx U0 X.heap.size [.int .i64 k.config, .int .i64 k.clock, .slice a1 k.places.length c1, .slice a2 k.machines.length c2, .slice a3 k.txs.length c3, .bool k.lost] := by rw [hU0]; exact Bx.made X [.int .i64 k.config, .int .i64 k.clock, .slice a1 k.places.length c1, .slice a2 k.machines.length c2, .slice a3 k.txs.length c3, .bool k.lost] _
  have z0 : U0.heap.size = X.heap.size + 1 := by rw [hU0]; simp
  obtain ⟨U1, hU1⟩ : ∃ Y, Y = U0.alloc (.cells #[.int .i64 0, .int .i64 0, .slice none 0 0, .slice none 0 0, .slice none 0 0, .bool false] 34) := ⟨_, rfl⟩
  have b1 : Below U0.heap.size U0 U1 := by rw [hU1]; exact (Below.refl _ _).alloc (Nat.le_refl _) _
  have x1 : Bx U1 U0.heap.size [.int .i64 0, .int .i64 0, .slice none 0 0, .slice none 0 0, .slice none 0 0, .bool false] := by rw [hU1]; exact Bx.made U0 [.int .i64 0, .int .i64 0, .slice none 0 0, .slice none 0 0, .slice none 0 0, .bool false] _
  have z1 : U1.heap.size = X.heap.size + 2 := by rw [hU1]; simp [z0]
  obtain ⟨V0, hV0⟩ : ∃ Y, Y = U1.alloc (.cells #[.int .i64 k.config, .int .i64 k.clock, .slice none 0 0, .slice none 0 0, .slice none 0 0, .bool false] 34) := ⟨_, rfl⟩
  have b2 : Below U1.heap.size U1 V0 := by rw [hV0]; exact (Below.refl _ _).alloc (Nat.le_refl _) _
  have x2 : Bx V0 U1.heap.size [.int .i64 k.config, .int .i64 k.clock, .slice none 0 0, .slice none 0 0, .slice none 0 0, .bool false] := by rw [hV0]; exact Bx.made U1 [.int .i64 k.config, .int .i64 k.clock, .slice none 0 0, .slice none 0 0, .slice none 0 0, .bool false] _
  have zU : V0.heap.size = X.heap.size + 3 := by rw [hV0]; simp [z1]
  rw [z0] at x1
  rw [z1] at x2
  have bU : Below X.heap.size X V0 := bstep (bstep b0 b1) b2
  have FA : Hid (Bx V0 X.heap.size [.int .i64 k.config, .int .i64 k.clock, .slice a1 k.places.length c1, .slice a2 k.machines.length c2, .slice a3 k.txs.length c3, .bool k.lost]) := (x0.later b1).later b2
  have FZ : Hid (Bx V0 (X.heap.size + 1) [.int .i64 0, .int .i64 0, .slice none 0 0, .slice none 0 0, .slice none 0 0, .bool false]) := x1.later b2
  have Y0 : Hid (Bx V0 (X.heap.size + 2) [.int .i64 k.config, .int .i64 k.clock, .slice none 0 0, .slice none 0 0, .slice none 0 0, .bool false]) := x2
  have E0 : Hid (Below (X.heap.size + 2) V0 V0 ∧ Below X.heap.size X V0 ∧ V0.heap.size ≤ V0.heap.size) := ⟨Below.refl _ _, bU, Nat.le_refl _⟩
  have HZ : Hid (V0.heap.size = X.heap.size + 3) := zU
  have HR : Hid (KCl.Rd X a1 c1 a2 c2 a3 c3 k ∧ KCl.S k) := ⟨h, ht⟩
  rw [hU1, hU0] at hV0
  clear b0 x0 z0 b1 x1 z1 b2 x2 zU bU hU0 hU1 h ht
  have q := KP.to V0 a1 c1 k.places HR.out.2.p HR.out.2.ps (HR.out.1.later E0.out.2.1).p
  have A0 := (FA.out.under E0.out.1 (by omega)).1 0 _ rfl
  have A1 := (FA.out.under E0.out.1 (by omega)).1 1 _ rfl
  have A2 := (FA.out.under E0.out.1 (by omega)).1 2 _ rfl
  rw [hV0] at A0 A1 A2
  go_enter Tryz.func9, Tryz.ntmps9
  go_wp2_with fail
  rw [← hV0]
  clear hV0 A0 A1 A2
  refine q.mono ?_
  clear q
  rintro e w1 ⟨P1, rfl, o1, b⟩
  obtain ⟨V1, hV1⟩ : ∃ Y, Y = w1.setCell ⟨X.heap.size + 2, 2, none⟩ (.slice (some ⟨V0.heap.size, 0, none⟩) k.places.length k.places.length) := ⟨_, rfl⟩
  have sV : V1.heap.size = w1.heap.size := by rw [hV1]; simp [World.setCell]
  have kV : ∀ q, q ≠ X.heap.size + 2 → V1.heap[q]? = w1.heap[q]? := fun q hq => by rw [hV1]; exact Below.heap_setCell _ _ _ _ hq
  have lV : X.heap.size + 3 ≤ V0.heap.size := by have := E0.out.2.2; have := HZ.out; omega
  have u := (Y0.out.later b).1 2 _ rfl
  have uf := (Y0.out.later b).2.1 2
  have E1 : Hid (Below (X.heap.size + 2) V0 V1 ∧ Below X.heap.size X V1 ∧ V0.heap.size ≤ V1.heap.size) := by
    refine ⟨?_, ?_, by have := b.size; have := E0.out.2.2; omega⟩
    · rw [hV1]; exact (E0.out.1.trans (b.mono (by omega))).setCell (p := ⟨X.heap.size + 2, 2, none⟩) (Nat.le_refl _) _
    · rw [hV1]; exact (E0.out.2.1.trans (b.mono (by omega))).setCell (p := ⟨X.heap.size + 2, 2, none⟩) (by show X.heap.size ≤ X.heap.size + 2; omega) _
  have Y1 : Hid (Bx V1 (X.heap.size + 2) [.int .i64 k.config, .int .i64 k.clock, .slice (some ⟨V0.heap.size, 0, none⟩) k.places.length k.places.length, .slice none 0 0, .slice none 0 0, .bool false]) := by rw [hV1]; exact (Y0.out.later b).set (i := 2) (by simp) _
  have O1' : Hid (KP.Ow V1 V0.heap.size (some ⟨V0.heap.size, 0, none⟩) k.places P1) := o1.keep (Nat.le_of_eq sV.symm) (fun q hq => kV q (by have := (o1.of hq).1; have := HZ.out; have := E0.out.2.2; omega))
  have O1 := O1'
  clear O1'
  have Zb1 : Hid (V0.heap.size ≤ w1.heap.size ∧ w1.heap.size = V1.heap.size ∧ (∀ q, P1 q → V0.heap.size ≤ q ∧ q < w1.heap.size)) := ⟨b.size, sV.symm, fun q hq => o1.of hq⟩
  clear o1 b sV kV lV
  have q := KMS.to V1 a2 c2 k.machines HR.out.2.m HR.out.2.ms (HR.out.1.later E1.out.2.1).m
  have A3 := (FA.out.under E1.out.1 (by omega)).1 3 _ rfl
  rw [hV1] at A3
  go_wp2_with fail
  rw [← hV1]
  clear hV1 A3 u uf
  refine q.mono ?_
  clear q
  rintro e w2 ⟨P2, rfl, o2, b⟩
  obtain ⟨V2, hV2⟩ : ∃ Y, Y = w2.setCell ⟨X.heap.size + 2, 3, none⟩ (.slice (some ⟨V1.heap.size, 0, none⟩) k.machines.length k.machines.length) := ⟨_, rfl⟩
  have sV : V2.heap.size = w2.heap.size := by rw [hV2]; simp [World.setCell]
  have kV : ∀ q, q ≠ X.heap.size + 2 → V2.heap[q]? = w2.heap[q]? := fun q hq => by rw [hV2]; exact Below.heap_setCell _ _ _ _ hq
  have lV : X.heap.size + 3 ≤ V1.heap.size := by have := E1.out.2.2; have := HZ.out; omega
  have u := (Y1.out.later b).1 3 _ rfl
  have uf := (Y1.out.later b).2.1 3
  have E2 : Hid (Below (X.heap.size + 2) V0 V2 ∧ Below X.heap.size X V2 ∧ V0.heap.size ≤ V2.heap.size) := by
    refine ⟨?_, ?_, by have := b.size; have := E1.out.2.2; omega⟩
    · rw [hV2]; exact (E1.out.1.trans (b.mono (by omega))).setCell (p := ⟨X.heap.size + 2, 3, none⟩) (Nat.le_refl _) _
    · rw [hV2]; exact (E1.out.2.1.trans (b.mono (by omega))).setCell (p := ⟨X.heap.size + 2, 3, none⟩) (by show X.heap.size ≤ X.heap.size + 2; omega) _
  have Y2 : Hid (Bx V2 (X.heap.size + 2) [.int .i64 k.config, .int .i64 k.clock, .slice (some ⟨V0.heap.size, 0, none⟩) k.places.length k.places.length, .slice (some ⟨V1.heap.size, 0, none⟩) k.machines.length k.machines.length, .slice none 0 0, .bool false]) := by rw [hV2]; exact (Y1.out.later b).set (i := 3) (by simp) _
  have O1' : Hid (KP.Ow V2 V0.heap.size (some ⟨V0.heap.size, 0, none⟩) k.places P1) := (O1.out.later b).keep (Nat.le_of_eq sV.symm) (fun q hq => kV q (by have := ((O1.out.later b).of hq).1; have := HZ.out; have := E0.out.2.2; omega))
  have O2' : Hid (KMk.OwS V2 V1.heap.size (some ⟨V1.heap.size, 0, none⟩) k.machines P2) := o2.keep (Nat.le_of_eq sV.symm) (fun q hq => kV q (by have := (o2.of hq).1; have := HZ.out; have := E1.out.2.2; omega))
  have O1 := O1'
  clear O1'
  have O2 := O2'
  clear O2'
  have Zb2 : Hid (V1.heap.size ≤ w2.heap.size ∧ w2.heap.size = V2.heap.size ∧ (∀ q, P2 q → V1.heap.size ≤ q ∧ q < w2.heap.size)) := ⟨b.size, sV.symm, fun q hq => o2.of hq⟩
  clear o2 b sV kV lV
  have q := KTS.to V2 a3 c3 k.txs HR.out.2.t HR.out.2.ts (HR.out.1.later E2.out.2.1).t
  have A4 := (FA.out.under E2.out.1 (by omega)).1 4 _ rfl
  rw [hV2] at A4
  go_wp2_with fail
  rw [← hV2]
  clear hV2 A4 u uf
  refine q.mono ?_
  clear q
  rintro e w3 ⟨P3, rfl, o3, b⟩
  obtain ⟨V3, hV3⟩ : ∃ Y, Y = w3.setCell ⟨X.heap.size + 2, 4, none⟩ (.slice (some ⟨V2.heap.size, 0, none⟩) k.txs.length k.txs.length) := ⟨_, rfl⟩
  have sV : V3.heap.size = w3.heap.size := by rw [hV3]; simp [World.setCell]
  have kV : ∀ q, q ≠ X.heap.size + 2 → V3.heap[q]? = w3.heap[q]? := fun q hq => by rw [hV3]; exact Below.heap_setCell _ _ _ _ hq
  have lV : X.heap.size + 3 ≤ V2.heap.size := by have := E2.out.2.2; have := HZ.out; omega
  have u := (Y2.out.later b).1 4 _ rfl
  have uf := (Y2.out.later b).2.1 4
  have E3 : Hid (Below (X.heap.size + 2) V0 V3 ∧ Below X.heap.size X V3 ∧ V0.heap.size ≤ V3.heap.size) := by
    refine ⟨?_, ?_, by have := b.size; have := E2.out.2.2; omega⟩
    · rw [hV3]; exact (E2.out.1.trans (b.mono (by omega))).setCell (p := ⟨X.heap.size + 2, 4, none⟩) (Nat.le_refl _) _
    · rw [hV3]; exact (E2.out.2.1.trans (b.mono (by omega))).setCell (p := ⟨X.heap.size + 2, 4, none⟩) (by show X.heap.size ≤ X.heap.size + 2; omega) _
  have Y3 : Hid (Bx V3 (X.heap.size + 2) [.int .i64 k.config, .int .i64 k.clock, .slice (some ⟨V0.heap.size, 0, none⟩) k.places.length k.places.length, .slice (some ⟨V1.heap.size, 0, none⟩) k.machines.length k.machines.length, .slice (some ⟨V2.heap.size, 0, none⟩) k.txs.length k.txs.length, .bool false]) := by rw [hV3]; exact (Y2.out.later b).set (i := 4) (by simp) _
  have O1' : Hid (KP.Ow V3 V0.heap.size (some ⟨V0.heap.size, 0, none⟩) k.places P1) := (O1.out.later b).keep (Nat.le_of_eq sV.symm) (fun q hq => kV q (by have := ((O1.out.later b).of hq).1; have := HZ.out; have := E0.out.2.2; omega))
  have O2' : Hid (KMk.OwS V3 V1.heap.size (some ⟨V1.heap.size, 0, none⟩) k.machines P2) := (O2.out.later b).keep (Nat.le_of_eq sV.symm) (fun q hq => kV q (by have := ((O2.out.later b).of hq).1; have := HZ.out; have := E1.out.2.2; omega))
  have O3' : Hid (KTk.OwS V3 V2.heap.size (some ⟨V2.heap.size, 0, none⟩) k.txs P3) := o3.keep (Nat.le_of_eq sV.symm) (fun q hq => kV q (by have := (o3.of hq).1; have := HZ.out; have := E2.out.2.2; omega))
  have O1 := O1'
  clear O1'
  have O2 := O2'
  clear O2'
  have O3 := O3'
  clear O3'
  have Zb3 : Hid (V2.heap.size ≤ w3.heap.size ∧ w3.heap.size = V3.heap.size ∧ (∀ q, P3 q → V2.heap.size ≤ q ∧ q < w3.heap.size)) := ⟨b.size, sV.symm, fun q hq => o3.of hq⟩
  clear o3 b sV kV lV
  have A5 := (FA.out.under E3.out.1 (by omega)).1 5 _ rfl
  rw [hV3] at A5
  obtain ⟨V4, hV4⟩ : ∃ Y, Y = V3.setCell ⟨X.heap.size + 2, 5, none⟩ (.bool k.lost) := ⟨_, rfl⟩
  have Y4 : Hid (Bx V4 (X.heap.size + 2) [.int .i64 k.config, .int .i64 k.clock, .slice (some ⟨V0.heap.size, 0, none⟩) k.places.length k.places.length, .slice (some ⟨V1.heap.size, 0, none⟩) k.machines.length k.machines.length, .slice (some ⟨V2.heap.size, 0, none⟩) k.txs.length k.txs.length, .bool k.lost]) := by rw [hV4]; exact Y3.out.set (i := 5) (by simp) _
  have v5 := Y3.out.1 5 _ rfl
  have v5f := Y3.out.2.1 5
  rw [hV3] at v5 v5f hV4
  have ZZ : Hid (Bx V4 (X.heap.size + 1) [.int .i64 0, .int .i64 0, .slice none 0 0, .slice none 0 0, .slice none 0 0, .bool false]) := by rw [hV4, ← hV3]; exact (FZ.out.under E3.out.1 (by omega)).far (by omega) _
  have s4 : V4.heap.size = V3.heap.size := by rw [hV4, ← hV3]; simp [World.setCell]
  have k4 : ∀ q, q ≠ X.heap.size + 2 → V4.heap[q]? = V3.heap[q]? := fun q hq => by rw [hV4, ← hV3]; exact Below.heap_setCell _ _ _ _ hq
  have B4 : Hid (Below X.heap.size X V4) := by rw [hV4, ← hV3]; exact E3.out.2.1.setCell (p := ⟨X.heap.size + 2, 5, none⟩) (by show X.heap.size ≤ X.heap.size + 2; omega) _
  have KK : Hid (V4.heap.size = V3.heap.size ∧ (∀ q, q ≠ X.heap.size + 2 → V4.heap[q]? = V3.heap[q]?)) := ⟨s4, k4⟩
  clear s4 k4
  go_upto_region 8 with fail
  rw [← hV4]
  clear hV4 hV3 A5 v5 v5f u uf
  have y0 := Y4.out.1 0 _ rfl
  have z0 := ZZ.out.1 0 _ rfl
  have zf0 := ZZ.out.2.1 0
  have y1 := Y4.out.1 1 _ rfl
  have z1 := ZZ.out.1 1 _ rfl
  have zf1 := ZZ.out.2.1 1
  have y2 := Y4.out.1 2 _ rfl
  have z2 := ZZ.out.1 2 _ rfl
  have zf2 := ZZ.out.2.1 2
  have y3 := Y4.out.1 3 _ rfl
  have z3 := ZZ.out.1 3 _ rfl
  have zf3 := ZZ.out.2.1 3
  have y4 := Y4.out.1 4 _ rfl
  have z4 := ZZ.out.1 4 _ rfl
  have zf4 := ZZ.out.2.1 4
  have y5 := Y4.out.1 5 _ rfl
  have z5 := ZZ.out.1 5 _ rfl
  have zf5 := ZZ.out.2.1 5
  have BP := ZZ.out.put [.int .i64 k.config, .int .i64 k.clock, .slice (some ⟨V0.heap.size, 0, none⟩) k.places.length k.places.length, .slice (some ⟨V1.heap.size, 0, none⟩) k.machines.length k.machines.length, .slice (some ⟨V2.heap.size, 0, none⟩) k.txs.length k.txs.length, .bool k.lost] rfl
  have r0 := BP.1 0 _ rfl
  have r1 := BP.1 1 _ rfl
  have r2 := BP.1 2 _ rfl
  have r3 := BP.1 3 _ rfl
  have r4 := BP.1 4 _ rfl
  have r5 := BP.1 5 _ rfl
  simp only [putB, Nat.zero_add] at r0 r1 r2 r3 r4 r5
  have KR := tx.hidOf (And.intro r0 (And.intro r1 (And.intro r2 (And.intro r3 (And.intro r4 r5)))))
  clear BP r0 r1 r2 r3 r4 r5
  go_wp2
  obtain ⟨r0, r1, r2, r3, r4, r5⟩ := KR.out
  refine bodyPost_ret (v := .agg #[.int .i64 k.config, .int .i64 k.clock, .slice (some ⟨V0.heap.size, 0, none⟩) k.places.length k.places.length, .slice (some ⟨V1.heap.size, 0, none⟩) k.machines.length k.machines.length, .slice (some ⟨V2.heap.size, 0, none⟩) k.txs.length k.txs.length, .bool k.lost]) (by simp [results, Tryz.results9, go_sem, r0, r1, r2, r3, r4, r5]) rfl ?_
  obtain ⟨s4, k4⟩ := KK.out
  obtain ⟨n1, n2, n3⟩ := Zb1.out
  obtain ⟨m1, m2, m3⟩ := Zb2.out
  obtain ⟨l1, l2, l3⟩ := Zb3.out
  have hz := HZ.out
  have hw : ∀ q, q ≠ X.heap.size + 1 → q ≠ X.heap.size + 2 → (putB V4 (X.heap.size + 1) 0 [.int .i64 k.config, .int .i64 k.clock, .slice (some ⟨V0.heap.size, 0, none⟩) k.places.length k.places.length, .slice (some ⟨V1.heap.size, 0, none⟩) k.machines.length k.machines.length, .slice (some ⟨V2.heap.size, 0, none⟩) k.txs.length k.txs.length, .bool k.lost]).heap[q]? = V3.heap[q]? := fun q h1 h2 => (putB_block h1 _ _ _).trans (k4 q h2)
  have hws : V3.heap.size ≤ (putB V4 (X.heap.size + 1) 0 [.int .i64 k.config, .int .i64 k.clock, .slice (some ⟨V0.heap.size, 0, none⟩) k.places.length k.places.length, .slice (some ⟨V1.heap.size, 0, none⟩) k.machines.length k.machines.length, .slice (some ⟨V2.heap.size, 0, none⟩) k.txs.length k.txs.length, .bool k.lost]).heap.size := by rw [putB_size]; omega
  refine ⟨_, _, _, _, _, _, fun q => P1 q ∨ P2 q ∨ P3 q, rfl, ⟨⟨P1, P2, P3, ?_, ?_, ?_, fun q h => .inl h, fun q h => .inr (.inl h), fun q h => .inr (.inr h), fun q h h' => ?_, fun q h h' => ?_, fun q h h' => ?_⟩, fun q hq => ?_⟩, putB_below (by omega) [.int .i64 k.config, .int .i64 k.clock, .slice (some ⟨V0.heap.size, 0, none⟩) k.places.length k.places.length, .slice (some ⟨V1.heap.size, 0, none⟩) k.machines.length k.machines.length, .slice (some ⟨V2.heap.size, 0, none⟩) k.txs.length k.txs.length, .bool k.lost] _ _ B4.out⟩
  · exact (O1.out.keep (w' := putB V4 (X.heap.size + 1) 0 [.int .i64 k.config, .int .i64 k.clock, .slice (some ⟨V0.heap.size, 0, none⟩) k.places.length k.places.length, .slice (some ⟨V1.heap.size, 0, none⟩) k.machines.length k.machines.length, .slice (some ⟨V2.heap.size, 0, none⟩) k.txs.length k.txs.length, .bool k.lost]) hws (fun q hq => by have := n3 q hq; exact hw q (by omega) (by omega))).low (by omega)
  · exact (O2.out.keep (Y := putB V4 (X.heap.size + 1) 0 [.int .i64 k.config, .int .i64 k.clock, .slice (some ⟨V0.heap.size, 0, none⟩) k.places.length k.places.length, .slice (some ⟨V1.heap.size, 0, none⟩) k.machines.length k.machines.length, .slice (some ⟨V2.heap.size, 0, none⟩) k.txs.length k.txs.length, .bool k.lost]) hws (fun q hq => by have := m3 q hq; exact hw q (by omega) (by omega))).low (by omega)
  · exact (O3.out.keep (Y := putB V4 (X.heap.size + 1) 0 [.int .i64 k.config, .int .i64 k.clock, .slice (some ⟨V0.heap.size, 0, none⟩) k.places.length k.places.length, .slice (some ⟨V1.heap.size, 0, none⟩) k.machines.length k.machines.length, .slice (some ⟨V2.heap.size, 0, none⟩) k.txs.length k.txs.length, .bool k.lost]) hws (fun q hq => by have := l3 q hq; exact hw q (by omega) (by omega))).low (by omega)
  · have := n3 q h; have := m3 q h'; omega
  · have := n3 q h; have := l3 q h'; omega
  · have := m3 q h; have := l3 q h'; omega
  · show X.heap.size ≤ q ∧ q < (putB V4 (X.heap.size + 1) 0 [.int .i64 k.config, .int .i64 k.clock, .slice (some ⟨V0.heap.size, 0, none⟩) k.places.length k.places.length, .slice (some ⟨V1.heap.size, 0, none⟩) k.machines.length k.machines.length, .slice (some ⟨V2.heap.size, 0, none⟩) k.txs.length k.txs.length, .bool k.lost]).heap.size
    rw [putB_size]
    rcases hq with hq | hq | hq
    · have := n3 q hq; omega
    · have := m3 q hq; omega
    · have := l3 q hq; omega
set_option maxRecDepth 100000 in
set_option maxHeartbeats 4000000 in
theorem KCl.eq (X : World) (a1 : Option Addr) (c1 : Nat) (a2 : Option Addr) (c2 : Nat) (a3 : Option Addr) (c3 : Nat) (a1' : Option Addr) (c1' : Nat) (a2' : Option Addr) (c2' : Nat) (a3' : Option Addr) (c3' : Nat) (k : C6) (ht : KCl.S k) (h1 : KCl.Rd X a1 c1 a2 c2 a3 c3 k) (h2 : KCl.Rd X a1' c1' a2' c2' a3' c3' k) : Calls Tryz.prog 12 #[.agg #[.int .i64 k.config, .int .i64 k.clock, .slice a1 k.places.length c1, .slice a2 k.machines.length c2, .slice a3 k.txs.length c3, .bool k.lost], .agg #[.int .i64 k.config, .int .i64 k.clock, .slice a1' k.places.length c1', .slice a2' k.machines.length c2', .slice a3' k.txs.length c3', .bool k.lost]] X fun e w' => e = .returned (.bool true) ∧ Below X.heap.size X w' := by
  obtain ⟨U0, hU0⟩ : ∃ Y, Y = X.alloc (.cells #[.int .i64 k.config, .int .i64 k.clock, .slice a1 k.places.length c1, .slice a2 k.machines.length c2, .slice a3 k.txs.length c3, .bool k.lost] 34) := ⟨_, rfl⟩
  have b0 : Below X.heap.size X U0 := by rw [hU0]; exact (Below.refl _ _).alloc (Nat.le_refl _) _
  have x0 : Bx U0 X.heap.size [.int .i64 k.config, .int .i64 k.clock, .slice a1 k.places.length c1, .slice a2 k.machines.length c2, .slice a3 k.txs.length c3, .bool k.lost] := by rw [hU0]; exact Bx.made X [.int .i64 k.config, .int .i64 k.clock, .slice a1 k.places.length c1, .slice a2 k.machines.length c2, .slice a3 k.txs.length c3, .bool k.lost] _
  have z0 : U0.heap.size = X.heap.size + 1 := by rw [hU0]; simp
  obtain ⟨U, hU⟩ : ∃ Y, Y = U0.alloc (.cells #[.int .i64 k.config, .int .i64 k.clock, .slice a1' k.places.length c1', .slice a2' k.machines.length c2', .slice a3' k.txs.length c3', .bool k.lost] 34) := ⟨_, rfl⟩
  have b1 : Below U0.heap.size U0 U := by rw [hU]; exact (Below.refl _ _).alloc (Nat.le_refl _) _
  have x1 : Bx U U0.heap.size [.int .i64 k.config, .int .i64 k.clock, .slice a1' k.places.length c1', .slice a2' k.machines.length c2', .slice a3' k.txs.length c3', .bool k.lost] := by rw [hU]; exact Bx.made U0 [.int .i64 k.config, .int .i64 k.clock, .slice a1' k.places.length c1', .slice a2' k.machines.length c2', .slice a3' k.txs.length c3', .bool k.lost] _
  rw [z0] at x1
  have bU : Below X.heap.size X U := bstep b0 b1
  have FA : Hid (Bx U X.heap.size [.int .i64 k.config, .int .i64 k.clock, .slice a1 k.places.length c1, .slice a2 k.machines.length c2, .slice a3 k.txs.length c3, .bool k.lost]) := x0.later b1
  have FB : Hid (Bx U (X.heap.size + 1) [.int .i64 k.config, .int .i64 k.clock, .slice a1' k.places.length c1', .slice a2' k.machines.length c2', .slice a3' k.txs.length c3', .bool k.lost]) := x1
  have HR : Hid (KCl.Rd U a1 c1 a2 c2 a3 c3 k ∧ KCl.Rd U a1' c1' a2' c2' a3' c3' k ∧ KCl.S k ∧ Below X.heap.size X U) := ⟨h1.later bU, h2.later bU, ht, bU⟩
  rw [hU0] at hU
  clear b0 x0 z0 b1 x1 bU hU0 h1 h2 ht
  have d0 : (k.config != k.config) = false := by simp
  have d1 : (k.clock != k.clock) = false := by simp
  have d5 : (k.lost != k.lost) = false := by simp
  have p0 := FA.out.1 0 _ rfl
  have p1 := FA.out.1 1 _ rfl
  have p2 := FA.out.1 2 _ rfl
  have r0 := FB.out.1 0 _ rfl
  have r1 := FB.out.1 1 _ rfl
  have r2 := FB.out.1 2 _ rfl
  rw [hU] at p0 p1 p2 r0 r1 r2
  go_enter Tryz.func12, Tryz.ntmps12
  go_wp2_with fail
  rw [← hU]
  clear hU p0 p1 p2 r0 r1 r2
  refine (eqPlaceS_any U a1 a1' k.places.length c1 c1' k.places (by have := HR.out.2.2.1.p; unfold maxLen; omega) (fun z hz => by have := HR.out.2.2.1.ps z hz; unfold maxLen; omega) HR.out.1.p HR.out.2.1.p).mono ?_
  rintro e w1 ⟨rfl, b1⟩
  have B1 := tx.hidOf b1
  clear b1
  have p3 := (FA.out.later B1.out).1 3 _ rfl
  have r3 := (FB.out.later B1.out).1 3 _ rfl
  go_wp2_with fail
  refine (KMS.eq w1 a2 a2' c2 c2' k.machines HR.out.2.2.1.m HR.out.2.2.1.ms (HR.out.1.later B1.out).m (HR.out.2.1.later B1.out).m).mono ?_
  rintro e w2 ⟨rfl, b2⟩
  have B2 : Hid (Below U.heap.size U w2) := bstep B1.out b2
  clear b2 p3 r3
  have p4 := (FA.out.later B2.out).1 4 _ rfl
  have r4 := (FB.out.later B2.out).1 4 _ rfl
  go_wp2_with fail
  refine (KTS.eq w2 a3 a3' c3 c3' k.txs HR.out.2.2.1.t HR.out.2.2.1.ts (HR.out.1.later B2.out).t (HR.out.2.1.later B2.out).t).mono ?_
  rintro e w3 ⟨rfl, b3⟩
  have B3 : Hid (Below U.heap.size U w3) := bstep B2.out b3
  clear b3 p4 r4
  have p5 := (FA.out.later B3.out).1 5 _ rfl
  have r5 := (FB.out.later B3.out).1 5 _ rfl
  go_wp2
  go_ret
  exact ⟨rfl, bstep HR.out.2.2.2 B3.out⟩
end Go.Proofs.YtdmpobegobfpjaaGreat
namespace Go.Proofs.YtdmpobegobfpjaaGreat
open Go.RowKit
open Go.Sort (grow)
structure Kd.Rest {D V : Type} (K : Kd D V) (X : World) (B b n : Nat) (ys : List D) (g : Nat → Nat → Prop) (j : Nat) : Prop where
  rm : Room X b (n * K.n)
  at_ : ∀ i d, j ≤ i → ys[i]? = some d → ∃ v, At X b (i * K.n) (K.cells v d) ∧ K.Ow X B v d (g i)
  ne : ∀ i q, i < ys.length → g i q → q ≠ b
  ap : ∀ i j q, i < ys.length → j < ys.length → i ≠ j → g i q → ¬ g j q
theorem Kd.Part.rest {D V : Type} {K : Kd D V} {X : World} {B b n : Nat} {ys : List D} {g : Nat → Nat → Prop} (h : K.Part X B b n ys g) : K.Rest X B b n ys g 0 := ⟨h.rm, fun i d _ hi => h.at_ i d hi, h.ne, h.ap⟩
theorem Kd.Rest.up {D V : Type} {K : Kd D V} {X : World} {B b n : Nat} {ys : List D} {g : Nat → Nat → Prop} {j : Nat} (h : K.Rest X B b n ys g j) : K.Rest X B b n ys g (j + 1) := ⟨h.rm, fun i d hj hi => h.at_ i d (by omega) hi, h.ne, h.ap⟩
theorem Kd.Rest.set {D V : Type} {K : Kd D V} {X : World} {B b n : Nat} {ys : List D} {g : Nat → Nat → Prop} {j o : Nat} (h : K.Rest X B b n ys g (j + 1)) (ho : o < (j + 1) * K.n) (u : Value) : K.Rest (X.setCell ⟨b, o, none⟩ u) B b n ys g (j + 1) := by
  refine ⟨h.rm.set _, fun i d hj hi => ?_, h.ne, h.ap⟩
  obtain ⟨v, h1, h2⟩ := h.at_ i d hj hi
  have hm := Nat.mul_le_mul_right K.n hj
  exact ⟨v, fun q u' e => (cell_set_other (by omega)).trans (h1 q u' e), K.keep h2 (by simp [World.setCell]) (fun q hq => Below.heap_setCell _ _ _ _ (h.ne i q (List.getElem?_eq_some_iff.1 hi).1 hq))⟩
theorem Kd.Rest.kept {D V : Type} {K : Kd D V} {X Y : World} {B b n : Nat} {ys : List D} {g : Nat → Nat → Prop} {j : Nat} {Q : Nat → Prop} (h : K.Rest X B b n ys g (j + 1)) (hk : KeptP Q X Y) (hb : b < X.heap.size) (hj : j < ys.length) (hQ : ∀ q, Q q → g j q) : K.Rest Y B b n ys g (j + 1) := by
  have hbb : Y.heap[b]? = X.heap[b]? := hk.block b hb (fun e => h.ne j b hj (hQ b e) rfl)
  refine ⟨room_blk h.rm hbb, fun i d hji hi => ?_, h.ne, h.ap⟩
  obtain ⟨v, h1, h2⟩ := h.at_ i d hji hi
  have hl := (List.getElem?_eq_some_iff.1 hi).1
  exact ⟨v, h1.of_block hbb, K.keep h2 hk.size (fun q hq => hk.block q (K.of h2 hq).2 (fun e => h.ap i j q hl hj (by omega) hq (hQ q e)))⟩
def cM (m : M4) : Nat := 1 + (offG cK m.copies m.copies.length + offG cR m.log m.log.length + m.cleared.length)
structure MRow (w X : World) (B b : Nat) (ms : List M4) (g : Nat → Nat → Prop) (P : Nat → Prop) (j : Nat) (a2 : Option Addr) (c2 : Nat) (a3 : Option Addr) (c3 : Nat) (PR PD : Nat → Prop) : Prop where
  r : OwnL 4 hdR lnR AtR X PR a2 (atM ms j).log
  n : OwnN X PD a3 (atM ms j).cleared
  e2 : X.cell? ⟨b, j * 4 + 2, none⟩ = some (.slice a2 (atM ms j).log.length c2)
  e3 : X.cell? ⟨b, j * 4 + 3, none⟩ = some (.slice a3 (atM ms j).cleared.length c3)
  rest : KMk.Rest X B b ms.length ms g (j + 1)
  kp : KeptP P w X
  lt : b < X.heap.size
def cT (t : tx.T7) : Nat := 5 + (5 * t.reads.length + 5 * t.sets.length)
structure TRow (w X : World) (B b : Nat) (ts : List tx.T7) (g : Nat → Nat → Prop) (P : Nat → Prop) (j : Nat) (a2 : Option Addr) (c2 : Nat) (PS : Nat → Prop) : Prop where
  s : tx.OwnSe X PS a2 (atT ts j).sets
  e5 : X.cell? ⟨b, j * 7 + 5, none⟩ = some (.slice a2 (atT ts j).sets.length c2)
  rest : KTk.Rest X B b ts.length ts g (j + 1)
  kp : KeptP P w X
  lt : b < X.heap.size
end Go.Proofs.YtdmpobegobfpjaaGreat
namespace Go.Proofs.YtdmpobegobfpjaaGreat
open Go.RowKit
def markAt (zss : List (List Int)) (k : Int) (i : Nat) : List Int := marks (atP zss i).length (k + lens (zss.take i))
def markPs (zss : List (List Int)) (k : Int) : List (List Int) := (List.range zss.length).map (markAt zss k)
structure Kept (g : Nat → Nat) (n : Nat) (w w' : World) : Prop where
  os : w'.os = w.os
  tape : w'.tape = w.tape
  output : w'.output = w.output
  size : w'.heap.size = w.heap.size
  block : ∀ q, (∀ i, i < n → q ≠ g i) → w'.heap[q]? = w.heap[q]?
theorem Kept.refl (g : Nat → Nat) (n : Nat) (w : World) : Kept g n w w := ⟨rfl, rfl, rfl, rfl, fun _ _ => rfl⟩
theorem Kept.only {g : Nat → Nat} {n i : Nat} {a w w' : World} (h : Kept g n a w) (hi : i < n) (ho : OnlyBlock (g i) w w') : Kept g n a w' :=
  ⟨ho.os.trans h.os, ho.tape.trans h.tape, ho.output.trans h.output, ho.size.trans h.size, fun q hq => (ho.block q (hq i hi)).trans (h.block q hq)⟩
theorem Kept.below {g : Nat → Nat} {n B : Nat} {w w' : World} (h : Kept g n w w') (hg : ∀ i, i < n → B ≤ g i) : Below B w w' :=
  ⟨h.os, h.tape, h.output, Nat.le_of_eq h.size.symm, fun k hk => h.block k (fun i hi e => by have := hg i hi; omega)⟩
end Go.Proofs.YtdmpobegobfpjaaGreat
namespace Go.Proofs.YtdmpobegobfpjaaGreat
open Go.RowKit
open Go.Sort (grow)
def cC (k : C6) : Nat := lens k.places + offG cM k.machines k.machines.length + offG cT k.txs k.txs.length
def endC (k : C6) (x : Int) : Int := x + (cC k : Int)
end Go.Proofs.YtdmpobegobfpjaaGreat