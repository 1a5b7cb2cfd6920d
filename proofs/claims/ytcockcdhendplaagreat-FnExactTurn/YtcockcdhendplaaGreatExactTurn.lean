/- Turn of the program answers, at every Machine, transaction and region, as the specification's Turn does, in memory of its own, and changes nothing: no condition. -/
import Derived.Test.YtcockcdhendplaaGreatRows
import Derived.Test.YtcockcdhendplaaGreatOpenMac
import Derived.Test.YtcockcdhendplaaGreatLawN
import Derived.WalkKit
import Derived.ProofKit
import Derived.OpenShut
import Derived.Deep.RegionWith
import Derived.Deep.CutRange
import Derived.WalkSpells
namespace Go.Proofs.YtcockcdhendplaaGreat.fnExactTurn
open Go.ChangeShapes Go.WideShapes Go.ChangeAt Go.RowKit
theorem own : ownKnob Tryz.prog.godebug = none := by kernel_rfl
theorem laidOut : laidOutB Tryz.prog = true := by kernel_rfl
set_option maxHeartbeats 2000000 in
theorem walk_great (w : World) (v : MV) (m : M4) (t g : Int) (hl : ML m) (hs : SlM w v m) (hg : ¬ szM m ≤ 1048576) :
    Calls Tryz.prog 8 #[v.val m, .int .i64 t, .int .i64 g] w fun e w' => e = .returned (.bool true) ∧ Below w.heap.size w w' := by
  obtain ⟨ac, cc, al, cl, ad, cd⟩ := v
  simp only [MV.val]
  have b0 : Below w.heap.size w (w.alloc (.cells #[.bool m.alive, .slice ac m.copies.length cc, .slice al m.log.length cl, .slice ad m.cleared.length cd] 57)) := (Below.refl _ _).alloc (Nat.le_refl _) _
  have S0 : Hid (Below w.heap.size w (w.alloc (.cells #[.bool m.alive, .slice ac m.copies.length cc, .slice al m.log.length cl, .slice ad m.cleared.length cd] 57)) ∧ SlM (w.alloc (.cells #[.bool m.alive, .slice ac m.copies.length cc, .slice al m.log.length cl, .slice ad m.cleared.length cd] 57)) ⟨ac, cc, al, cl, ad, cd⟩ m ∧ ML m) := ⟨b0, hs.later b0, hl⟩
  clear b0 hs hl
  go_enter Tryz.func8, Tryz.ntmps8
  go_wp2_with fail
  generalize w.alloc (.cells #[.bool m.alive, .slice ac m.copies.length cc, .slice al m.log.length cl, .slice ad m.cleared.length cd] 57) = W at *
  refine (szMachine_any W ⟨ac, cc, al, cl, ad, cd⟩ m S0.out.2.2 S0.out.2.1).mono ?_
  rw [leftR_no hg]
  rintro e w1 ⟨rfl, b1⟩
  go_wp2
  go_ret
  exact ⟨rfl, S0.out.1.trans (b1.mono S0.out.1.size)⟩
/-- One of the two: what it answers of a machine, wherever it lies. -/
def Answers (f : Nat) (m : M4) (t g : Int) (N : M4) : Prop := ∀ (X : World) (a : Option Addr) (b : Nat) (c : Option Addr) (d : Nat) (e : Option Addr) (h : Nat), SlM X ⟨a, b, c, d, e, h⟩ m →
  Calls Tryz.prog f #[.agg #[.bool m.alive, .slice a m.copies.length b, .slice c m.log.length d, .slice e m.cleared.length h], .int .i64 t, .int .i64 g] X fun r w' => ∃ (a : Option Addr) (b : Nat) (c : Option Addr) (d : Nat) (f : Option Addr) (h : Nat) (PK PR PD : Nat → Prop), r = .returned (.agg #[.bool N.alive, .slice a N.copies.length b, .slice c N.log.length d, .slice f N.cleared.length h]) ∧ OM w' X.heap.size ⟨a, b, c, d, f, h⟩ N PK PR PD ∧ (∀ q, OfM PK PR PD q → q < w'.heap.size) ∧ Below X.heap.size X w'
set_option maxHeartbeats 8000000 in
theorem walk_small (w : World) (v : MV) (m : M4) (t g : Int) (hl : ML m) (hs : SlM w v m) (hg : szM m ≤ 1048576) :
    Calls Tryz.prog 8 #[v.val m, .int .i64 t, .int .i64 g] w fun e w' => e = .returned (.bool true) ∧ Below w.heap.size w w' := by
  have A1 : Hid (Answers 27 m t g (ansT m t g)) := fun X a b c d e h hh => by
    have := specTurn_any X ⟨a, b, c, d, e, h⟩ m t g hl hh
    simp only [MV.val] at this
    exact this
  have A2 : Hid (Answers 26 m t g (ansT m t g)) := fun X a b c d e h hh => by
    have := implTurn_any X ⟨a, b, c, d, e, h⟩ m t g hl hh
    simp only [MV.val] at this
    exact this
  have hNT : Hid (MT (ansT m t g)) := MT.of_sz (ansT_sz m t g hg)
  have hMT : Hid (MT m) := MT.of_sz hg
  obtain ⟨ac, cc, al, cl, ad, cd⟩ := v
  have T : Hid (∀ (X : World), Below w.heap.size w X → Calls Tryz.prog 30 #[(MV.mk ac cc al cl ad cd).val m] X fun e w' => ∃ (c4 : Option Addr) (k4 : Nat) (l4 : Option Addr) (j4 : Nat) (d4 : Option Addr) (i4 : Nat) (PK PR PD : Nat → Prop), e = .returned ((MV.mk c4 k4 l4 j4 d4 i4).val m) ∧ OM w' X.heap.size ⟨c4, k4, l4, j4, d4, i4⟩ m PK PR PD ∧ (∀ q, OfM PK PR PD q → q < w'.heap.size) ∧ Below X.heap.size X w') := fun X hX => toM_any X ⟨ac, cc, al, cl, ad, cd⟩ m hMT.out (hs.later hX)
  simp only [MV.val] at T ⊢
  have HG : Hid (szM m ≤ 1048576) := hg
  obtain ⟨W, hW⟩ : ∃ W, W = w.alloc (.cells #[.bool m.alive, .slice ac m.copies.length cc, .slice al m.log.length cl, .slice ad m.cleared.length cd] 57) := ⟨_, rfl⟩
  have b0 : Below w.heap.size w W := by subst hW; exact (Below.refl _ _).alloc (Nat.le_refl _) _
  have s0 : W.heap.size = w.heap.size + 1 := by subst hW; simp
  have c0 : ∀ X, Below (w.heap.size + 1) W X → X.cell? ⟨w.heap.size, 0, none⟩ = some (.bool m.alive) ∧ X.cell? ⟨w.heap.size, 1, none⟩ = some (.slice ac m.copies.length cc) ∧ X.cell? ⟨w.heap.size, 2, none⟩ = some (.slice al m.log.length cl) ∧ X.cell? ⟨w.heap.size, 3, none⟩ = some (.slice ad m.cleared.length cd) := fun X hX => by
    refine ⟨(hX.cell (p := ⟨w.heap.size, 0, none⟩) (by simp)).trans ?_, (hX.cell (p := ⟨w.heap.size, 1, none⟩) (by simp)).trans ?_, (hX.cell (p := ⟨w.heap.size, 2, none⟩) (by simp)).trans ?_, (hX.cell (p := ⟨w.heap.size, 3, none⟩) (by simp)).trans ?_⟩
    all_goals (subst hW; go_simp)
  have H : Hid (SlM w ⟨ac, cc, al, cl, ad, cd⟩ m ∧ ML m ∧ Below w.heap.size w W ∧ W.heap.size = w.heap.size + 1 ∧ (∀ X, Below (w.heap.size + 1) W X → Below w.heap.size w X)) := ⟨hs, hl, b0, s0, fun X hX => b0.trans (hX.mono (by omega))⟩
  have HC := hidOf c0
  clear hs hl hg b0 s0 c0
  subst hW
  generalize ansT m t g = N at *
  go_enter Tryz.func8, Tryz.ntmps8
  go_wp2_with fail
  generalize w.alloc (.cells #[.bool m.alive, .slice ac m.copies.length cc, .slice al m.log.length cl, .slice ad m.cleared.length cd] 57) = W at *
  refine (szMachine_any W ⟨ac, cc, al, cl, ad, cd⟩ m H.out.2.1 (H.out.1.later H.out.2.2.1)).mono ?_
  rw [leftR_yes HG.out]
  rintro e w1 ⟨rfl, b1⟩
  have S1 : Hid (Below (w.heap.size + 1) W w1 ∧ w.heap.size + 1 ≤ w1.heap.size) := ⟨b1.mono (by rw [H.out.2.2.2.1]; exact Nat.le_refl _), by have := b1.size; have := H.out.2.2.2.1; omega⟩
  clear b1
  have d0 : decide (((1048576 - szM m : Nat) : Int) < 0) = false := by simp
  generalize 1048576 - szM m = lf at *
  obtain ⟨a0, a1, a2, a3⟩ := HC.out w1 S1.out.1
  go_wp2_with fail
  refine (T.out w1 (H.out.2.2.2.2 w1 S1.out.1)).mono ?_
  rintro e w2 ⟨c2, k2, l2, j2, d2, i2, _, _, _, rfl, o2, -, b2⟩
  have S2 : Hid (Below (w.heap.size + 1) W w2 ∧ w.heap.size + 1 ≤ w2.heap.size ∧ SlM w2 ⟨c2, k2, l2, j2, d2, i2⟩ m) := ⟨S1.out.1.trans (b2.mono S1.out.2), Nat.le_trans S1.out.2 b2.size, o2.sl⟩
  clear b2 o2 a0 a1 a2 a3 S1
  go_wp2_with fail
  refine (A1.out w2 c2 k2 l2 j2 d2 i2 S2.out.2.2).mono ?_
  rintro e w3 ⟨wa, wb, wc0, wd, we, wf, _, _, _, rfl, ow, -, b3⟩
  have bV : Below w3.heap.size w3 (w3.alloc (.cells #[.bool N.alive, .slice wa N.copies.length wb, .slice wc0 N.log.length wd, .slice we N.cleared.length wf] 28)) := (Below.refl _ _).alloc (Nat.le_refl _) _
  have sV : (w3.alloc (.cells #[.bool N.alive, .slice wa N.copies.length wb, .slice wc0 N.log.length wd, .slice we N.cleared.length wf] 28)).heap.size = w3.heap.size + 1 := by simp
  have XW : Hid (BM (w3.alloc (.cells #[.bool N.alive, .slice wa N.copies.length wb, .slice wc0 N.log.length wd, .slice we N.cleared.length wf] 28)) w3.heap.size wa wb wc0 wd we wf N) := ⟨by go_simp, by go_simp, by go_simp, by go_simp⟩
  have S3 : Hid (Below (w.heap.size + 1) W (w3.alloc (.cells #[.bool N.alive, .slice wa N.copies.length wb, .slice wc0 N.log.length wd, .slice we N.cleared.length wf] 28)) ∧ w.heap.size + 1 ≤ w3.heap.size ∧ SlM (w3.alloc (.cells #[.bool N.alive, .slice wa N.copies.length wb, .slice wc0 N.log.length wd, .slice we N.cleared.length wf] 28)) ⟨wa, wb, wc0, wd, we, wf⟩ N ∧ (w3.alloc (.cells #[.bool N.alive, .slice wa N.copies.length wb, .slice wc0 N.log.length wd, .slice we N.cleared.length wf] 28)).heap.size = w3.heap.size + 1) := ⟨(S2.out.1.trans (b3.mono S2.out.2.1)).trans (bV.mono (Nat.le_trans S2.out.2.1 b3.size)), Nat.le_trans S2.out.2.1 b3.size, ow.sl.later bV, sV⟩
  clear b3 ow S2 A1 bV sV
  obtain ⟨a0, a1, a2, a3⟩ := HC.out (w3.alloc (.cells #[.bool N.alive, .slice wa N.copies.length wb, .slice wc0 N.log.length wd, .slice we N.cleared.length wf] 28)) S3.out.1
  go_wp2_with fail
  generalize (w3.alloc (.cells #[.bool N.alive, .slice wa N.copies.length wb, .slice wc0 N.log.length wd, .slice we N.cleared.length wf] 28)) = v3 at *
  refine (T.out v3 (H.out.2.2.2.2 v3 S3.out.1)).mono ?_
  rintro e w4 ⟨c4, k4, l4, j4, d4, i4, PK, PR, PD, rfl, o4, q4, b4⟩
  have b5 : Below w4.heap.size w4 (w4.alloc (.cells #[.bool m.alive, .slice c4 m.copies.length k4, .slice l4 m.log.length j4, .slice d4 m.cleared.length i4] 28)) := (Below.refl _ _).alloc (Nat.le_refl _) _
  have b35 : Below v3.heap.size v3 (w4.alloc (.cells #[.bool m.alive, .slice c4 m.copies.length k4, .slice l4 m.log.length j4, .slice d4 m.cleared.length i4] 28)) := b4.trans (b5.mono b4.size)
  have s5 : (w4.alloc (.cells #[.bool m.alive, .slice c4 m.copies.length k4, .slice l4 m.log.length j4, .slice d4 m.cleared.length i4] 28)).heap.size = w4.heap.size + 1 := by simp
  have X5 : Hid (BM (w4.alloc (.cells #[.bool m.alive, .slice c4 m.copies.length k4, .slice l4 m.log.length j4, .slice d4 m.cleared.length i4] 28)) w4.heap.size c4 k4 l4 j4 d4 i4 m) := ⟨by go_simp, by go_simp, by go_simp, by go_simp⟩
  have S5 : Hid (Below (w.heap.size + 1) W (w4.alloc (.cells #[.bool m.alive, .slice c4 m.copies.length k4, .slice l4 m.log.length j4, .slice d4 m.cleared.length i4] 28)) ∧ OM (w4.alloc (.cells #[.bool m.alive, .slice c4 m.copies.length k4, .slice l4 m.log.length j4, .slice d4 m.cleared.length i4] 28)) v3.heap.size ⟨c4, k4, l4, j4, d4, i4⟩ m PK PR PD ∧ (∀ q, OfM PK PR PD q → q < w4.heap.size) ∧ Below v3.heap.size v3 (w4.alloc (.cells #[.bool m.alive, .slice c4 m.copies.length k4, .slice l4 m.log.length j4, .slice d4 m.cleared.length i4] 28)) ∧ (w4.alloc (.cells #[.bool m.alive, .slice c4 m.copies.length k4, .slice l4 m.log.length j4, .slice d4 m.cleared.length i4] 28)).heap.size = w4.heap.size + 1 ∧ v3.heap.size ≤ w4.heap.size) := ⟨S3.out.1.trans (b35.mono (by have := S3.out.2.1; have := S3.out.2.2.2; omega)), o4.later b5, q4, b35, s5, b4.size⟩
  clear b4 o4 q4 b5 b35 s5 a0 a1 a2 a3
  go_wp2_with fail
  generalize (w4.alloc (.cells #[.bool m.alive, .slice c4 m.copies.length k4, .slice l4 m.log.length j4, .slice d4 m.cleared.length i4] 28)) = w5 at *
  refine (A2.out w5 c4 k4 l4 j4 d4 i4 S5.out.2.1.sl).mono ?_
  rintro e w6 ⟨ga, gb, gc, gd, ge, gf, QK, QR, QD, rfl, og, qg, b6⟩
  have bG : Below w6.heap.size w6 (w6.alloc (.cells #[.bool N.alive, .slice ga N.copies.length gb, .slice gc N.log.length gd, .slice ge N.cleared.length gf] 28)) := (Below.refl _ _).alloc (Nat.le_refl _) _
  have sG : (w6.alloc (.cells #[.bool N.alive, .slice ga N.copies.length gb, .slice gc N.log.length gd, .slice ge N.cleared.length gf] 28)).heap.size = w6.heap.size + 1 := by simp
  have XG : Hid (BM (w6.alloc (.cells #[.bool N.alive, .slice ga N.copies.length gb, .slice gc N.log.length gd, .slice ge N.cleared.length gf] 28)) w6.heap.size ga gb gc gd ge gf N) := ⟨by go_simp, by go_simp, by go_simp, by go_simp⟩
  have S6 : Hid (Below w5.heap.size w5 (w6.alloc (.cells #[.bool N.alive, .slice ga N.copies.length gb, .slice gc N.log.length gd, .slice ge N.cleared.length gf] 28)) ∧ OM (w6.alloc (.cells #[.bool N.alive, .slice ga N.copies.length gb, .slice gc N.log.length gd, .slice ge N.cleared.length gf] 28)) w5.heap.size ⟨ga, gb, gc, gd, ge, gf⟩ N QK QR QD ∧ SlM (w6.alloc (.cells #[.bool N.alive, .slice ga N.copies.length gb, .slice gc N.log.length gd, .slice ge N.cleared.length gf] 28)) ⟨wa, wb, wc0, wd, we, wf⟩ N ∧ (w6.alloc (.cells #[.bool N.alive, .slice ga N.copies.length gb, .slice gc N.log.length gd, .slice ge N.cleared.length gf] 28)).heap.size = w6.heap.size + 1 ∧ Below v3.heap.size v3 (w6.alloc (.cells #[.bool N.alive, .slice ga N.copies.length gb, .slice gc N.log.length gd, .slice ge N.cleared.length gf] 28)) ∧ w5.heap.size ≤ w6.heap.size ∧ (∀ q, OfM QK QR QD q → w5.heap.size ≤ q ∧ q < w6.heap.size)) := by
    have b := b6.trans (bG.mono b6.size)
    have bv := S5.out.2.2.2.1.trans (b.mono S5.out.2.2.2.1.size)
    refine ⟨b, og.later bG, S3.out.2.2.1.later bv, sG, bv, b6.size, fun q hq => ⟨?_, qg q hq⟩⟩
    rcases hq with h | h | h
    · exact og.kB q h
    · exact og.rB q h
    · exact og.dB q h
  clear b6 og bG sG qg
  have g6 := XG.out
  have y6 := XW.out.of_block (Y := (w6.alloc (.cells #[.bool N.alive, .slice ga N.copies.length gb, .slice gc N.log.length gd, .slice ge N.cleared.length gf] 28))) (S6.out.2.2.2.2.1.block _ (by have := S3.out.2.2.2; omega))
  obtain ⟨g0, g1, g2, g3⟩ := g6
  obtain ⟨y0, y1, y2, y3⟩ := y6
  go_wp2_with fail
  generalize (w6.alloc (.cells #[.bool N.alive, .slice ga N.copies.length gb, .slice gc N.log.length gd, .slice ge N.cleared.length gf] 28)) = v6 at *
  refine (eqMachine_same v6 ⟨ga, gb, gc, gd, ge, gf⟩ ⟨wa, wb, wc0, wd, we, wf⟩ N hNT.out.ml S6.out.2.1.sl S6.out.2.2.1).mono ?_
  rintro e w7 ⟨rfl, b7⟩
  clear g0 g1 g2 g3 y0 y1 y2 y3
  have S7 : Hid (Below v6.heap.size v6 w7 ∧ Below w5.heap.size w5 w7 ∧ Below (w.heap.size + 1) W w7) := by
    have b57 := S6.out.1.trans (b7.mono S6.out.1.size)
    have z5 := S5.out.2.2.2.2.1
    exact ⟨b7, b57, S5.out.1.trans (b57.mono (by have := S3.out.2.1; have := S3.out.2.2.2; have := S5.out.2.2.2.2.2; omega))⟩
  clear b7
  go_upto_region 10 with fail
  go_cut [39] from 35 to 39 (fun s39 wx => s39 = .bool false ∧ Below w7.heap.size w7 wx)
  case first =>
    have bd : Below w7.heap.size w7 w7.drew := (Below.refl _ _).drew
    have S7d : Hid (Below (w.heap.size + 1) W w7.drew ∧ SlM w7.drew ⟨c4, k4, l4, j4, d4, i4⟩ m ∧ Below w7.heap.size w7 w7.drew ∧ w4.heap.size < w7.heap.size) := ⟨S7.out.2.2.drew, (S5.out.2.1.sl.later S7.out.2.1).later bd, bd, by have := S7.out.2.1.size; have := S5.out.2.2.2.2.1; omega⟩
    clear bd
    obtain ⟨a0, a1, a2, a3⟩ := HC.out w7 S7.out.2.2
    obtain ⟨e0, e1, e2, e3⟩ := X5.out.of_block (Y := w7) (S7.out.2.1.block _ (by have := S5.out.2.2.2.2.1; omega))
    have h47 := S7d.out.2.2.2
    go_region_with (first
      | (go_at_call 30
         refine (T.out w7.drew (H.out.2.2.2.2 _ S7d.out.1)).mono ?_
         rintro e w8 ⟨c8, k8, l8, j8, d8, i8, _, _, _, rfl, o8, -, b8⟩
         have e0' : w8.cell? ⟨w4.heap.size, 0, none⟩ = some (.bool m.alive) := (b8.cell (p := ⟨w4.heap.size, 0, none⟩) h47).trans e0
         have e1' : w8.cell? ⟨w4.heap.size, 1, none⟩ = some (.slice c4 m.copies.length k4) := (b8.cell (p := ⟨w4.heap.size, 1, none⟩) h47).trans e1
         have e2' : w8.cell? ⟨w4.heap.size, 2, none⟩ = some (.slice l4 m.log.length j4) := (b8.cell (p := ⟨w4.heap.size, 2, none⟩) h47).trans e2
         have e3' : w8.cell? ⟨w4.heap.size, 3, none⟩ = some (.slice d4 m.cleared.length i4) := (b8.cell (p := ⟨w4.heap.size, 3, none⟩) h47).trans e3
         have S8 : Hid (SlM w8 ⟨c4, k4, l4, j4, d4, i4⟩ m ∧ SlM w8 ⟨c8, k8, l8, j8, d8, i8⟩ m ∧ Below w7.heap.size w7 w8) := ⟨S7d.out.2.1.later b8, o8.sl, S7d.out.2.2.1.trans (b8.mono S7d.out.2.2.1.size)⟩
         clear o8 b8)
      | (go_at_call 32
         refine (eqMachine_same w8 ⟨c4, k4, l4, j4, d4, i4⟩ ⟨c8, k8, l8, j8, d8, i8⟩ m H.out.2.1 S8.out.1 S8.out.2.1).mono ?_
         rintro e w9 ⟨rfl, b9⟩))
    all_goals (
      go_wp2_with fail
      go_meet
      exact ⟨rfl, S8.out.2.2.trans (b9.mono S8.out.2.2.size)⟩)
  case rest =>
  obtain ⟨rfl, bx⟩ := hcut
  have S9 : Hid (Below w5.heap.size w5 wc ∧ OM wc w5.heap.size ⟨ga, gb, gc, gd, ge, gf⟩ N QK QR QD ∧ Below (w.heap.size + 1) W wc ∧ wc.heap[w6.heap.size]? = v6.heap[w6.heap.size]? ∧ v6.heap.size ≤ wc.heap.size) := by
    have b6c := S7.out.1.trans (bx.mono S7.out.1.size)
    have b5c := S6.out.1.trans (b6c.mono S6.out.1.size)
    exact ⟨b5c, S6.out.2.1.later b6c, S5.out.1.trans (b5c.mono (by have := S3.out.2.1; have := S3.out.2.2.2; have := S5.out.2.2.2.2.2; have := S5.out.2.2.2.2.1; omega)), b6c.block _ (by have := S6.out.2.2.2.1; omega), b6c.size⟩
  clear bx S7 d0
  obtain ⟨e0, e1, e2, e3⟩ := X5.out.of_block (Y := wc) (S9.out.1.block _ (by have := S5.out.2.2.2.2.1; omega))
  have hmk := markMachine_any wc v3.heap.size ⟨c4, k4, l4, j4, d4, i4⟩ m PK PR PD 1 (by omega) (by omega) hMT.out (S5.out.2.1.later S9.out.1)
  simp only [MV.val] at hmk
  have dE : decide (endM m 1 < 0) = false := by have := endM_nonneg m; simp; omega
  generalize endM m 1 = E at *
  go_wp2_with fail
  refine hmk.mono ?_
  clear hmk
  rintro e w10 ⟨rfl, kp, -⟩
  have S10 : Hid (Below v3.heap.size v3 w10 ∧ OM w10 w5.heap.size ⟨ga, gb, gc, gd, ge, gf⟩ N QK QR QD ∧ Below (w.heap.size + 1) W w10 ∧ v6.heap.size ≤ w10.heap.size ∧ v3.heap.size ≤ w5.heap.size ∧ w10.heap[w6.heap.size]? = v6.heap[w6.heap.size]?) := by
    have hlow : ∀ q, q < wc.heap.size ∧ OfM PK PR PD q → v3.heap.size ≤ q := fun q hq => by
      rcases hq.2 with h | h | h
      · exact S5.out.2.1.kB q h
      · exact S5.out.2.1.rB q h
      · exact S5.out.2.1.dB q h
    have z5 := S5.out.2.2.2.2.1
    have z34 := S5.out.2.2.2.2.2
    have z5c := S9.out.1.size
    have z6 := S6.out.2.2.2.1
    have z56 := S6.out.2.2.2.2.2.1
    have z6c := S9.out.2.2.2.2
    have b3c : Below v3.heap.size v3 wc := S5.out.2.2.2.1.trans (S9.out.1.mono (by omega))
    have bk : Below v3.heap.size wc w10 := kp.below hlow b3c.size
    exact ⟨b3c.trans bk, S9.out.2.1.keep kp.size (fun q h2 hq => kp.block q h2 (fun e => by have := S5.out.2.2.1 q e.2; have := S6.out.2.2.2.2.2.2 q hq; omega)), S9.out.2.2.1.trans (bk.mono (by have := S3.out.2.1; have := S3.out.2.2.2; omega)), by have := kp.size; omega, by omega, (kp.block _ (by omega) (fun e => by have := S5.out.2.2.1 _ e.2; omega)).trans S9.out.2.2.2.1⟩
  clear kp e0 e1 e2 e3 S9
  obtain ⟨g0, g1, g2, g3⟩ := XG.out.of_block S10.out.2.2.2.2.2
  obtain ⟨y0, y1, y2, y3⟩ := XW.out.of_block (Y := w10) (S10.out.1.block _ (by have := S3.out.2.2.2; omega))
  go_wp2_with fail
  refine (eqMachine_same w10 ⟨ga, gb, gc, gd, ge, gf⟩ ⟨wa, wb, wc0, wd, we, wf⟩ N hNT.out.ml S10.out.2.1.sl (S3.out.2.2.1.later S10.out.1)).mono ?_
  rintro e w11 ⟨rfl, b11⟩
  clear g0 g1 g2 g3 y0 y1 y2 y3
  have S11 : Hid (Below v3.heap.size v3 w11 ∧ OM w11 w5.heap.size ⟨ga, gb, gc, gd, ge, gf⟩ N QK QR QD ∧ Below (w.heap.size + 1) W w11 ∧ v6.heap.size ≤ w11.heap.size ∧ w11.heap[w6.heap.size]? = v6.heap[w6.heap.size]?) := by
    have z1 := S10.out.2.2.2.1
    have z2 := S10.out.2.2.2.2.1
    have z3 := S3.out.2.1
    have z4 := S3.out.2.2.2
    have z6 := S6.out.2.2.2.1
    have z56 := S6.out.2.2.2.2.2.1
    have zb := b11.size
    exact ⟨S10.out.1.trans (b11.mono (by omega)), S10.out.2.1.later b11, S10.out.2.2.1.trans (b11.mono (by omega)), by omega, (b11.block _ (by omega)).trans S10.out.2.2.2.2.2⟩
  clear b11
  obtain ⟨g0, g1, g2, g3⟩ := XG.out.of_block S11.out.2.2.2.2
  have hmg := markMachine_any w11 w5.heap.size ⟨ga, gb, gc, gd, ge, gf⟩ N QK QR QD 1 (by omega) (by omega) hNT.out S11.out.2.1
  simp only [MV.val] at hmg
  have dN : decide (endM N 1 < 0) = false := by have := endM_nonneg N; simp; omega
  have dM : (endM N 1 != endM N 1) = false := by simp
  have HH : Hid (∀ X, SlM X ⟨ga, gb, gc, gd, ge, gf⟩ (mkM N 1) → Calls Tryz.prog 36 #[.agg #[.bool N.alive, .slice ga N.copies.length gb, .slice gc N.log.length gd, .slice ge N.cleared.length gf], .int .i64 1] X fun e w' => e = .returned (.int .i64 (endM N 1)) ∧ Below X.heap.size X w') := fun X hX => by
    have := heldMachine_any X ⟨ga, gb, gc, gd, ge, gf⟩ N 1 (by omega) (by omega) hNT.out hX
    simp only [MV.val] at this
    exact this
  generalize endM N 1 = F at *
  go_wp2_with fail
  refine hmg.mono ?_
  clear hmg
  rintro e w12 ⟨rfl, k12, o12⟩
  clear g0 g1 g2 g3
  have S12 : Hid (Below v3.heap.size v3 w12 ∧ SlM w12 ⟨ga, gb, gc, gd, ge, gf⟩ (mkM N 1) ∧ Below (w.heap.size + 1) W w12 ∧ v6.heap.size ≤ w12.heap.size ∧ w12.heap[w6.heap.size]? = v6.heap[w6.heap.size]?) := by
    have z2 := S10.out.2.2.2.2.1
    have z3 := S3.out.2.1
    have z4 := S3.out.2.2.2
    have z6 := S6.out.2.2.2.1
    have z56 := S6.out.2.2.2.2.2.1
    have z11 := S11.out.2.2.2.1
    have bk : Below w5.heap.size w11 w12 := k12.below (fun q hq => (S6.out.2.2.2.2.2.2 q hq.2).1) (by omega)
    exact ⟨S11.out.1.trans (bk.mono z2), o12.sl, S11.out.2.2.1.trans (bk.mono (by omega)), by have := k12.size; omega, (k12.block _ (by omega) (fun e => by have := (S6.out.2.2.2.2.2.2 _ e.2).2; omega)).trans S11.out.2.2.2.2⟩
  clear k12 o12
  obtain ⟨g0, g1, g2, g3⟩ := XG.out.of_block S12.out.2.2.2.2
  go_wp2_with fail
  refine (HH.out w12 S12.out.2.1).mono ?_
  rintro e w13 ⟨rfl, b13⟩
  clear g0 g1 g2 g3
  have S13 : Hid (Below w12.heap.size w12 w13 ∧ Below (w.heap.size + 1) W w13) := ⟨b13, S12.out.2.2.1.trans (b13.mono (by have := S12.out.2.2.2.1; have := S6.out.2.2.2.1; have := S6.out.2.2.2.2.2.1; have := S10.out.2.2.2.2.1; have := S3.out.2.2.2; have := S3.out.2.1; omega))⟩
  clear b13
  obtain ⟨a0, a1, a2, a3⟩ := HC.out w13 S13.out.2
  go_wp2_with fail
  refine (T.out w13 (H.out.2.2.2.2 w13 S13.out.2)).mono ?_
  rintro e w14 ⟨c6, k6, l6, j6, d6, i6, _, _, _, rfl, o14, -, b14⟩
  have S14 : Hid (Below w12.heap.size w12 w14 ∧ SlM w14 ⟨c6, k6, l6, j6, d6, i6⟩ m) := ⟨S13.out.1.trans (b14.mono S13.out.1.size), o14.sl⟩
  clear b14 o14 a0 a1 a2 a3
  go_wp2_with fail
  refine (A2.out w14 c6 k6 l6 j6 d6 i6 S14.out.2).mono ?_
  rintro e w15 ⟨ha, hb, hc, hd, he, hf, _, _, _, rfl, oh, -, b15⟩
  have bH : Below w15.heap.size w15 (w15.alloc (.cells #[.bool N.alive, .slice ha N.copies.length hb, .slice hc N.log.length hd, .slice he N.cleared.length hf] 28)) := (Below.refl _ _).alloc (Nat.le_refl _) _
  have h0 : (w15.alloc (.cells #[.bool N.alive, .slice ha N.copies.length hb, .slice hc N.log.length hd, .slice he N.cleared.length hf] 28)).cell? ⟨w15.heap.size, 0, none⟩ = some (.bool N.alive) := by go_simp
  have h1 : (w15.alloc (.cells #[.bool N.alive, .slice ha N.copies.length hb, .slice hc N.log.length hd, .slice he N.cleared.length hf] 28)).cell? ⟨w15.heap.size, 1, none⟩ = some (.slice ha N.copies.length hb) := by go_simp
  have h2 : (w15.alloc (.cells #[.bool N.alive, .slice ha N.copies.length hb, .slice hc N.log.length hd, .slice he N.cleared.length hf] 28)).cell? ⟨w15.heap.size, 2, none⟩ = some (.slice hc N.log.length hd) := by go_simp
  have h3 : (w15.alloc (.cells #[.bool N.alive, .slice ha N.copies.length hb, .slice hc N.log.length hd, .slice he N.cleared.length hf] 28)).cell? ⟨w15.heap.size, 3, none⟩ = some (.slice he N.cleared.length hf) := by go_simp
  have S15 : Hid (Below w12.heap.size w12 (w15.alloc (.cells #[.bool N.alive, .slice ha N.copies.length hb, .slice hc N.log.length hd, .slice he N.cleared.length hf] 28)) ∧ SlM (w15.alloc (.cells #[.bool N.alive, .slice ha N.copies.length hb, .slice hc N.log.length hd, .slice he N.cleared.length hf] 28)) ⟨ha, hb, hc, hd, he, hf⟩ N ∧ SlM (w15.alloc (.cells #[.bool N.alive, .slice ha N.copies.length hb, .slice hc N.log.length hd, .slice he N.cleared.length hf] 28)) ⟨wa, wb, wc0, wd, we, wf⟩ N ∧ Below v3.heap.size v3 (w15.alloc (.cells #[.bool N.alive, .slice ha N.copies.length hb, .slice hc N.log.length hd, .slice he N.cleared.length hf] 28))) := by
    have b := (S14.out.1.trans (b15.mono S14.out.1.size)).trans (bH.mono (Nat.le_trans S14.out.1.size b15.size))
    have bv := S12.out.1.trans (b.mono S12.out.1.size)
    exact ⟨b, oh.sl.later bH, S3.out.2.2.1.later bv, bv⟩
  clear b15 oh bH
  obtain ⟨y0, y1, y2, y3⟩ := XW.out.of_block (Y := (w15.alloc (.cells #[.bool N.alive, .slice ha N.copies.length hb, .slice hc N.log.length hd, .slice he N.cleared.length hf] 28))) (S15.out.2.2.2.block _ (by have := S3.out.2.2.2; omega))
  go_wp2_with fail
  generalize (w15.alloc (.cells #[.bool N.alive, .slice ha N.copies.length hb, .slice hc N.log.length hd, .slice he N.cleared.length hf] 28)) = v15 at *
  refine (eqMachine_same v15 ⟨ha, hb, hc, hd, he, hf⟩ ⟨wa, wb, wc0, wd, we, wf⟩ N hNT.out.ml S15.out.2.1 S15.out.2.2.1).mono ?_
  rintro e w16 ⟨rfl, b16⟩
  clear h0 h1 h2 h3 y0 y1 y2 y3
  have b1216 := S15.out.1.trans (b16.mono S15.out.1.size)
  have S16 : Hid (SlM w16 ⟨ga, gb, gc, gd, ge, gf⟩ (mkM N 1) ∧ w16.heap[w6.heap.size]? = v6.heap[w6.heap.size]? ∧ Below w.heap.size w w16) := ⟨S12.out.2.1.later b1216, (b1216.block _ (by have := S12.out.2.2.2.1; have := S6.out.2.2.2.1; omega)).trans S12.out.2.2.2.2, H.out.2.2.2.2 w16 (S12.out.2.2.1.trans (b1216.mono (by have := S12.out.2.2.2.1; have := S6.out.2.2.2.1; have := S6.out.2.2.2.2.2.1; have := S10.out.2.2.2.2.1; have := S3.out.2.2.2; have := S3.out.2.1; omega)))⟩
  clear b16 b1216
  obtain ⟨g0, g1, g2, g3⟩ := XG.out.of_block S16.out.2.1
  go_wp2_with fail
  refine (HH.out w16 S16.out.1).mono ?_
  rintro e w17 ⟨rfl, b17⟩
  go_wp2
  go_ret
  exact ⟨rfl, S16.out.2.2.trans (b17.mono S16.out.2.2.size)⟩
theorem walk (w : World) (v : MV) (m : M4) (t g : Int) (hl : ML m) (hs : SlM w v m) :
    Calls Tryz.prog 8 #[v.val m, .int .i64 t, .int .i64 g] w fun e w' => e = .returned (.bool true) ∧ Below w.heap.size w w' := by
  by_cases h : szM m ≤ 1048576
  · exact walk_small w v m t g hl hs h
  · exact walk_great w v m t g hl hs h
set_option maxRecDepth 100000 in
theorem lifted (os : Os) (started : os.Started) (H : Type) (enc : TypeId × Value → H) :
    ReturnsInHanded {} Tryz.checked os 8 .any (Rows.fnExactTurnSpec.pre6 enc Tryz.prog Tryz.f8 Rows.fnExactTurnRow.domain false) (Rows.fnExactTurnSpec.post enc Tryz.prog Tryz.f8 false true false false) := by
  refine returnsInHanded_of_change (C := Tryz.checked) own started (by kernel_rfl) Tryz.func8
    (ChangeSpec.witness6 (enc := enc) (C := Tryz.checked) false ⟨#[], #[.agg #[.bool false, .slice none 0 0, .slice none 0 0, .slice none 0 0], .int .i64 0, .int .i64 0], []⟩ 8 (by kernel_rfl) (by kernel_rfl) (by kernel_rfl) (by kernel_rfl)) ?_
  intro W base args ds gs before hval0 hW hcnd _
  have hval : ∀ (j : Nat) t v, Tryz.f8.params[j]? = some t → args[j]? = some v → Value.okWide Tryz.prog W .any base t v := hval0
  have hW' := hW
  obtain ⟨p, q, hA0, hV, rfl, hfz, hnd⟩ := hW
  have hA : DataW.TrodAll enc Tryz.prog W 0 (fun _ => true) true Tryz.f8.params.toList args.toList ds p := hA0
  rw [Tryz.params8] at hA hval
  obtain ⟨v0, vs0, d0, ds0, p0, q0, hargs, rfl, rfl, h0, r0⟩ := trodAll_cons hA
  obtain ⟨v1, vs1, d1, ds1, p1, q1, rfl, rfl, rfl, h1, r1⟩ := trodAll_cons r0
  obtain ⟨v2, vs2, d2, ds2, p2, q2, rfl, rfl, rfl, h2, r2⟩ := trodAll_cons r1
  obtain ⟨rfl, rfl, rfl⟩ := trodAll_nil r2
  obtain rfl : args = #[v0, v1, v2] := by cases args; simp_all
  obtain ⟨rfl, rfl⟩ := trodVars_none hV
  obtain ⟨cs, rfl, hcs⟩ := okWide_struct Tryz.underlying57 (hval 0 57 v0 rfl rfl)
  obtain ⟨i1, rfl, rfl, rfl, wi1⟩ := open_int Tryz.underlying2 (hval 1 2 v1 rfl rfl) h1
  obtain ⟨i2, rfl, rfl, rfl, wi2⟩ := open_int Tryz.underlying2 (hval 2 2 v2 rfl rfl) h2
  have k0 := h0
  have lt0 : ∀ x ∈ p0, x.block < W.heap.size := by obtain ⟨m, hm⟩ := k0; exact DataW.trod_lt m _ _ _ hm
  obtain ⟨v, m, rfl, hs, hl⟩ : ∃ (v : MV) (m : M4), cs = #[.bool m.alive, .slice v.ac m.copies.length v.cc, .slice v.al m.log.length v.cl, .slice v.ad m.cleared.length v.cd] ∧ SlM W v m ∧ ML m := by
    obtain ⟨fuel, hf⟩ := h0
    obtain ⟨v, m, e, hs, l1, l2, l3, k1, k2, _⟩ := om.open_machine hf
    exact ⟨v, m, by cases cs; simpa [Value.cells] using e, hs, ⟨l1, k1, l2, k2, l3⟩⟩
  clear hA0 hval0
  refine (walk W v m i1 i2 hl hs).mono fun e W' ⟨he, bel⟩ => ?_
  subst he
  exact ⟨_, rfl, _, _, _, [], _, [], hW', trodAll_mk1 (shut_bool Tryz.underlying4 _), (trodAll_cons_mk (Below.trod laidOut (by kernel_rfl) (of_decide_eq_true (by kernel_rfl)) k0 bel lt0) (trodAll_cons_mk (shut_int Tryz.underlying2 wi1) (trodAll_cons_mk (shut_int Tryz.underlying2 wi2) trodAll_mk0))), rfl, bel.frame _, fun h => by cases h⟩
theorem over : Rows.fnExactTurnRow.holds Tryz.pinned (OpenSpec.ofChange Rows.fnExactTurnSpec) :=
  OpenClaim.holds_of_wide 8 Tryz.f8 rfl rfl rfl rfl rfl rfl rfl ⟨rfl, rfl, rfl, rfl, rfl⟩ rfl rfl rfl rfl rfl (by kernel_rfl) Tryz.func8 (by kernel_rfl)
    (of_decide_eq_true (by kernel_rfl)) (by unfold Func.isWrapper; first | (rw [if_pos (by decide +kernel)]; kernel_rfl) | (rw [if_neg (by decide +kernel)]; exact ⟨rfl, rfl⟩))
    (fun os started H enc _ => lifted os started H enc)
end Go.Proofs.YtcockcdhendplaaGreat.fnExactTurn
namespace Go.Proofs.YtcockcdhendplaaGreat
theorem fnExactTurn_holds : Rows.FnExactTurnSaid := fnExactTurn.over
#print axioms fnExactTurn_holds
end Go.Proofs.YtcockcdhendplaaGreat
