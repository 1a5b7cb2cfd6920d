/- InsI; YSofI; RpQ; OrL; OrM; OrN: joined. -/
import Derived.Test.YtdmpobegobfpjaaGreatRows
import Derived.Test.YtdmpobegobfpjaaGreatJ11ExactAgrees
import Derived.WalkKit
import Derived.WalkSpells
import Derived.WalkLawsBesides
import Derived.Below
import Derived.Lib.QuietBelow
import Derived.BigQuiet
import Derived.Deep.CutRange
import Derived.Deep.Heap
import Derived.Deep.AppendLies
import Derived.Test.YtdmpobegobfpjaaGreatJ9ExactAgrees
import Derived.Test.YtdmpobegobfpjaaGreatJ10ExactAgrees
import Derived.Deep.RegionWith
import Derived.LaidEql
import Derived.RowKitTokens
import Derived.Test.YtdmpobegobfpjaaGreatJ6ExactAgrees
import Derived.Test.YtdmpobegobfpjaaGreatJ7ExactAgrees
import Derived.Test.YtdmpobegobfpjaaGreatJ0ExactAgrees
import Derived.Lib.SliceRun
namespace Go.Proofs.YtdmpobegobfpjaaGreat
open Go.RowKit
open Go.Sort (grow)
theorem rise_all {ss : List S5} (h : riseB ss = true) : ∀ s ∈ ss, setOkB s = true := by
  intro s hs
  obtain ⟨i, hi, rfl⟩ := List.getElem_of_mem hs
  have := List.all_eq_true.1 h i (List.mem_range.2 hi)
  simp only [riseAt, Bool.and_eq_true] at this
  have h1 := this.1
  rwa [at5, List.getElem?_eq_getElem hi] at h1
set_option maxRecDepth 100000 in
set_option maxHeartbeats 8000000 in
theorem implInstall_any (w : World) (a : Option Addr) (n cap : Nat) (xs : List C2) (b : Option Addr) (m cap2 : Nat) (ss : List S5) (hn : n ≤ maxLen) (hm : m ≤ maxLen) (hs : SlC w w.heap.size a n xs) (h2 : Sl w w.heap.size b m ss) (hB : cellsB xs = true) (hR : riseB ss = true) :
    Calls Tryz.prog 141 #[.slice a n cap, .slice b m cap2] w fun e w' => ∃ q : Nat, e = .returned (.tuple #[.slice (some ⟨q, 0, none⟩) 6 6, .bool true]) ∧ w.heap.size ≤ q ∧ w'.heap[q]? = some (.cells (arr6 (ss.foldl insC xs)) 75 (0, 0)) ∧ Below w.heap.size w w' := by
  have hx6 : xs.length = 6 := by simp only [cellsB, Bool.and_eq_true, decide_eq_true_eq] at hB; exact hB.1
  obtain ⟨u0, u1, u2, u3, u4, u5, hu⟩ := six_of hx6
  have HU : Hid (arr6 xs = #[.int .i64 u0.head, .int .i64 u0.value, .int .i64 u1.head, .int .i64 u1.value, .int .i64 u2.head, .int .i64 u2.value, .int .i64 u3.head, .int .i64 u3.value, .int .i64 u4.head, .int .i64 u4.value, .int .i64 u5.head, .int .i64 u5.value]) := by unfold Hid; rw [hu]; rfl
  have hc := takeForSets_any w a n cap xs b m cap2 ss hn hm hs h2 hB
  rw [hR] at hc
  have HK : Hid (Sl w w.heap.size b m ss ∧ m ≤ maxLen ∧ xs.length = 6 ∧ ∀ s ∈ ss, setOkB s = true) := ⟨h2, hm, hx6, rise_all hR⟩
  clear hs h2 hB hR hx6 hu hn hm
  go_enter Tryz.func141, Tryz.ntmps141
  go_wp2_with fail
  refine hc.mono ?_
  clear hc
  rintro e W1 ⟨rfl, b1⟩
  rw [HU.out]
  obtain ⟨W2, hW2⟩ : ∃ Y, Y = W1.alloc (.cells #[.int .i64 u0.head, .int .i64 u0.value, .int .i64 u1.head, .int .i64 u1.value, .int .i64 u2.head, .int .i64 u2.value, .int .i64 u3.head, .int .i64 u3.value, .int .i64 u4.head, .int .i64 u4.value, .int .i64 u5.head, .int .i64 u5.value] 214) := ⟨_, rfl⟩
  have b2 : Below W1.heap.size W1 W2 := by rw [hW2]; exact (Below.refl _ _).alloc (Nat.le_refl _) _
  have XB : Bx W2 W1.heap.size [.int .i64 u0.head, .int .i64 u0.value, .int .i64 u1.head, .int .i64 u1.value, .int .i64 u2.head, .int .i64 u2.value, .int .i64 u3.head, .int .i64 u3.value, .int .i64 u4.head, .int .i64 u4.value, .int .i64 u5.head, .int .i64 u5.value] := by rw [hW2]; exact Bx.made W1 [.int .i64 u0.head, .int .i64 u0.value, .int .i64 u1.head, .int .i64 u1.value, .int .i64 u2.head, .int .i64 u2.value, .int .i64 u3.head, .int .i64 u3.value, .int .i64 u4.head, .int .i64 u4.value, .int .i64 u5.head, .int .i64 u5.value] _
  have KW : Hid (Below w.heap.size w W2) := bstep b1 b2
  have hin := installed_any W2 xs b m cap2 ss HK.out.2.2.1 HK.out.2.1 ((Sl.below HK.out.1 KW.out).mono KW.out.size) HK.out.2.2.2
  rw [HU.out] at hin
  have q0 := XB.1 0 _ rfl
  have q1 := XB.1 1 _ rfl
  have q2 := XB.1 2 _ rfl
  have q3 := XB.1 3 _ rfl
  have q4 := XB.1 4 _ rfl
  have q5 := XB.1 5 _ rfl
  have q6 := XB.1 6 _ rfl
  have q7 := XB.1 7 _ rfl
  have q8 := XB.1 8 _ rfl
  have q9 := XB.1 9 _ rfl
  have q10 := XB.1 10 _ rfl
  have q11 := XB.1 11 _ rfl
  rw [hW2] at q0 q1 q2 q3 q4 q5 q6 q7 q8 q9 q10 q11
  clear b1 b2 XB
  go_wp2_with fail
  rw [← hW2]
  clear hW2 q0 q1 q2 q3 q4 q5 q6 q7 q8 q9 q10 q11
  refine hin.mono ?_
  clear hin
  rintro e W3 ⟨rfl, b3⟩
  have K3 : Hid (Below w.heap.size w W3) := bstep KW.out b3
  clear b3
  have hls := implList_any W3 ((ss.foldl insC xs).flatMap C2.cells) (by rw [flat2_len, ins_six ss HK.out.2.2.1]) (by
    intro v hv
    obtain ⟨c, -, hc⟩ := List.mem_flatMap.1 hv
    simp only [C2.cells, List.mem_cons, List.not_mem_nil, or_false] at hc
    rcases hc with rfl | rfl <;> rfl)
  unfold arr6
  go_wp2_with fail
  refine hls.mono ?_
  clear hls
  rintro e W4 ⟨rfl, b4, h4⟩
  have K4 : Hid (w.heap.size ≤ W3.heap.size + 1 ∧ W4.heap[W3.heap.size + 1]? = some (.cells ((ss.foldl insC xs).flatMap C2.cells).toArray 75 (0, 0)) ∧ Below w.heap.size w W4) := ⟨by have := K3.out.size; omega, h4, bstep K3.out b4⟩
  clear b4 h4
  go_wp2
  exact bodyPost_ret (v := .tuple #[.slice (some ⟨W3.heap.size + 1, 0, none⟩) 6 6, .bool true]) (by simp [results, Tryz.results141, go_sem]) rfl ⟨W3.heap.size + 1, rfl, K4.out⟩
end Go.Proofs.YtdmpobegobfpjaaGreat
namespace Go.Proofs.YtdmpobegobfpjaaGreat.tx
open Go.RowKit
set_option maxHeartbeats 4000000 in
theorem implSetsOf_any (w : World) (v : TV) (t : T7) (g : Int) (hl : TL t) (hs : SlT w v t) :
    Calls Tryz.prog 142 #[v.val t, .int .i64 g] w (SAns w (setsOfT t g)) := by
  obtain ⟨ar, cr, ah, ch⟩ := v
  simp only [TV.val]
  obtain ⟨W, hW⟩ : ∃ W, W = w.alloc (.cells #[.int .i64 t.id, .int .i64 t.home, .int .i64 t.phase, .int .i64 t.count, .slice ar t.reads.length cr, .slice ah t.sets.length ch, .int .i64 t.stamp] 55) := ⟨_, rfl⟩
  have b0 : Below w.heap.size w W := by rw [hW]; exact (Below.refl _ _).alloc (Nat.le_refl _) _
  have x0 : BT W w.heap.size ⟨ar, cr, ah, ch⟩ t := by rw [hW]; exact BT.box w ⟨ar, cr, ah, ch⟩ t _
  have c1 := implTxOk_any W ⟨ar, cr, ah, ch⟩ t hl (hs.later b0)
  simp only [TV.val] at c1
  have H : Hid (SlT W ⟨ar, cr, ah, ch⟩ t ∧ BT W w.heap.size ⟨ar, cr, ah, ch⟩ t ∧ Below w.heap.size w W) := ⟨hs.later b0, x0, b0⟩
  clear hs b0 x0 hl
  cases hB : txB t with
  | false =>
    rw [hB] at c1
    have HN : Hid (setsOfT t g = []) := by unfold Hid; simp [setsOfT, hB]
    go_enter Tryz.func142, Tryz.ntmps142
    go_wp2_with fail
    rw [← hW]
    clear hW
    refine c1.mono ?_
    clear c1
    rintro e w1 ⟨rfl, b1⟩
    have KB : Hid (Below w.heap.size w w1) := H.out.2.2.trans (b1.mono H.out.2.2.size)
    clear b1
    go_wp2
    go_ret
    rw [HN.out]
    exact SAns.none KB.out
  | true =>
    rw [hB] at c1
    have HN : Hid (setsOfT t g = ofR g t.sets) := by unfold Hid; simp [setsOfT, hB]
    have hl12 := (txB_lens hB).2
    go_enter Tryz.func142, Tryz.ntmps142
    go_wp2_with fail
    rw [← hW]
    clear hW
    refine c1.mono ?_
    clear c1
    rintro e w1 ⟨rfl, b1⟩
    have p5 := (H.out.2.1.later b1).c5
    dsimp only at p5
    have K1 : Hid (SlT w1 ⟨ar, cr, ah, ch⟩ t ∧ Below w.heap.size w w1) := ⟨H.out.1.later b1, H.out.2.2.trans (b1.mono H.out.2.2.size)⟩
    clear b1 H
    go_wp2
    clear p5
    go_loopw [5, 14] (fun v5 v14 wr => ∃ k : Nat, k ≤ t.sets.length ∧ v14 = .int .i64 k ∧ RowS wr w1.heap.size v5 (ofR g (t.sets.take k)) ∧ Below w1.heap.size w1 wr) (fun _ v14 _ => t.sets.length - (intOf v14).toNat)
    case atStart => exact ⟨0, Nat.zero_le _, rfl, by simpa [ofR] using RowS.nil w1 _, Below.refl _ _⟩
    case round =>
      obtain ⟨k, hk, rfl, hrow, hbl⟩ := hrel
      obtain ⟨h1, h2⟩ := K1.out
      have hsz := hbl.size
      by_cases hlt : k < t.sets.length
      · obtain ⟨_, hsk⟩ := (h1.later hbl).s
        dsimp only at hsk
        rcases hsk with hsk | ⟨b, off, rfl, hb, hx⟩
        · omega
        obtain ⟨c0, c1, c2, c3, c4⟩ := hx k _ (atSe_of hlt)
        by_cases hg : (atSe t.sets k).region = g
        · have dg : ((atSe t.sets k).region == g) = true := by simpa using hg
          obtain ⟨U, hU⟩ : ∃ V, V = wr.alloc (.cells #[.int .i64 (atSe t.sets k).region, .int .i64 (atSe t.sets k).slot, .int .i64 (atSe t.sets k).value, .bool (atSe t.sets k).used, .int .i64 (atSe t.sets k).version] 106) := ⟨_, rfl⟩
          have bU : Below wr.heap.size wr U := by rw [hU]; exact (Below.refl _ _).alloc (Nat.le_refl _) _
          have zU : U.heap.size = wr.heap.size + 1 := by rw [hU]; simp
          obtain ⟨V, hV⟩ : ∃ V, V = U.alloc (.cells #[.int .i64 (atSe t.sets k).region, .int .i64 (atSe t.sets k).slot, .int .i64 (atSe t.sets k).value, .bool (atSe t.sets k).used, .int .i64 (atSe t.sets k).version] 106) := ⟨_, rfl⟩
          have bV : Below wr.heap.size wr V := by rw [hV]; exact bU.alloc bU.size _
          have hone : SetsAt V (wr.heap.size + 1) 0 [atSe t.sets k] := by rw [hV, ← zU]; exact (SetAt.box U _ _).one
          obtain ⟨v', Y, hr, hrow', hgr, hlies⟩ := pushSe (hrow.later bV) [atSe t.sets k] (by have := ofR_len g (t.sets.take k); rw [List.length_take] at this; simp; omega) 53 (wr.heap.size + 1) 0 1 hone (by have := bV.size; omega)
          have KE : Hid (RowS Y w1.heap.size v' (ofR g (t.sets.take (k + 1))) ∧ Below w1.heap.size w1 Y) := by
            refine ⟨by rw [ofR_yes (atSe_of hlt) hg]; exact hrow', ?_⟩
            exact (hbl.trans (bV.mono (by omega))).grown hgr (by have := bV.size; omega) (fun q e => (hrow.lt e).1)
          rw [hV, hU] at hr
          clear hV hU bV bU zU hone hrow' hgr hlies hrow hbl h1 h2 hx hg
          simp only [List.length_cons, List.length_nil, Nat.zero_add] at hr
          go_wp2_with (at_builtin; refine append_known _ rfl (.tmp 22) (.tmp 24) 53 rfl _ _ _ _ rfl rfl hr ?_)
          exact ⟨⟨k + 1, by omega, by simp, KE.out.1, KE.out.2⟩, by simp [intOf]; omega⟩
        · have dg : ((atSe t.sets k).region == g) = false := by simpa using hg
          have bU : Below wr.heap.size wr (wr.alloc (.cells #[.int .i64 (atSe t.sets k).region, .int .i64 (atSe t.sets k).slot, .int .i64 (atSe t.sets k).value, .bool (atSe t.sets k).used, .int .i64 (atSe t.sets k).version] 106)) := (Below.refl _ _).alloc (Nat.le_refl _) _
          have KE : Hid (RowS (wr.alloc (.cells #[.int .i64 (atSe t.sets k).region, .int .i64 (atSe t.sets k).slot, .int .i64 (atSe t.sets k).value, .bool (atSe t.sets k).used, .int .i64 (atSe t.sets k).version] 106)) w1.heap.size u5 (ofR g (t.sets.take (k + 1))) ∧ Below w1.heap.size w1 (wr.alloc (.cells #[.int .i64 (atSe t.sets k).region, .int .i64 (atSe t.sets k).slot, .int .i64 (atSe t.sets k).value, .bool (atSe t.sets k).used, .int .i64 (atSe t.sets k).version] 106))) := ⟨by rw [ofR_no (atSe_of hlt) hg]; exact hrow.later bU, hbl.trans (bU.mono hbl.size)⟩
          clear hrow hbl h1 h2 hx hg bU
          go_wp2
          exact ⟨⟨k + 1, by omega, by simp, KE.out.1, KE.out.2⟩, by simp [intOf]; omega⟩
      · obtain rfl : k = t.sets.length := by omega
        have hd : decide ((t.sets.length : Int) < (t.sets.length : Int)) = false := by simp
        rw [List.take_length] at hrow
        have KE : Hid (RowS wr w1.heap.size u5 (ofR g t.sets) ∧ Below w.heap.size w wr ∧ w.heap.size ≤ w1.heap.size) := ⟨hrow, h2.trans (hbl.mono h2.size), h2.size⟩
        clear hrow hbl h1 h2
        go_wp2
        go_ret
        rw [HN.out]
        exact SAns.of KE.out.1 KE.out.2.2 KE.out.2.1
end Go.Proofs.YtdmpobegobfpjaaGreat.tx
namespace Go.Proofs.YtdmpobegobfpjaaGreat
open Go.RowKit
open Go.Sort (grow)
theorem sets_of {w : World} {b off : Nat} {xs : List S5} (h : tx.SetsAt w b off xs) : SetsAt w b off xs := fun i s e => by
  obtain ⟨h0, h1, h2, h3, h4⟩ := h i s e
  exact ⟨h0, h1, h2, h3, h4⟩
set_option maxRecDepth 100000 in
set_option maxHeartbeats 8000000 in
theorem install_any (w0 w : World) (base b n : Nat) (g : Nat → Nat) (css : List (List C2)) (hR : Rep w base b n g css) (v : tx.TV) (t : tx.T7) (hl : tx.TL t) (hw0 : Below w0.heap.size w0 w) (hB0 : w0.heap.size ≤ base) (hs : tx.SlT w0 v t) (hN : NamB t css.length) (hB : tx.txB t = true) :
    Calls Tryz.prog 85 #[.slice (some ⟨b, 0, none⟩) n n, .agg #[.int .i64 t.id, .int .i64 t.home, .int .i64 t.phase, .int .i64 t.count, .slice v.ar t.reads.length v.cr, .slice v.ah t.sets.length v.ch, .int .i64 t.stamp]] w fun e w' => e = .returned (.tuple #[]) ∧ (∃ g', Rep w' base b n g' (t.sets.foldl insA css)) ∧ Turned b w w' := by
  obtain ⟨U0, hU0⟩ : ∃ Y, Y = w.alloc (.cells #[.int .i64 t.id, .int .i64 t.home, .int .i64 t.phase, .int .i64 t.count, .slice v.ar t.reads.length v.cr, .slice v.ah t.sets.length v.ch, .int .i64 t.stamp] 55) := ⟨_, rfl⟩
  have bU0 : Below w.heap.size w U0 := by rw [hU0]; exact (Below.refl _ _).alloc (Nat.le_refl _) _
  have xU0 : Bx U0 w.heap.size [.int .i64 t.id, .int .i64 t.home, .int .i64 t.phase, .int .i64 t.count, .slice v.ar t.reads.length v.cr, .slice v.ah t.sets.length v.ch, .int .i64 t.stamp] := by rw [hU0]; exact Bx.made w [.int .i64 t.id, .int .i64 t.home, .int .i64 t.phase, .int .i64 t.count, .slice v.ar t.reads.length v.cr, .slice v.ah t.sets.length v.ch, .int .i64 t.stamp] _
  have sU0 : U0.heap.size = w.heap.size + 1 := by rw [hU0]; simp
  have HL0 : Hid (b < w.heap.size ∧ base ≤ b ∧ w0.heap.size ≤ base) := ⟨hR.hi, hR.lo, hB0⟩
  have HW : Hid (∀ X, Turned b w X → tx.SlT X v t) := fun X hX => hs.later (hw0.trans (hX.below (by have := HL0.out; omega) (by have := hw0.size; omega)))
  have HK : Hid (tx.TL t ∧ tx.txB t = true ∧ NamB t css.length) := ⟨hl, hB, hN⟩
  have T0 : Hid (Turned b w U0) := (Turned.refl b w).of_below bU0
  have XT : Hid (Bx U0 w.heap.size [.int .i64 t.id, .int .i64 t.home, .int .i64 t.phase, .int .i64 t.count, .slice v.ar t.reads.length v.cr, .slice v.ah t.sets.length v.ch, .int .i64 t.stamp]) := xU0
  have HR : Hid (Rep U0 base b n g css) := hR.later bU0
  have cW := tx.implWants_any U0 v t hl (HW.out U0 T0.out)
  simp only [tx.TV.val] at cW
  have p0 := XT.out.1 0 _ rfl
  have p1 := XT.out.1 1 _ rfl
  have p2 := XT.out.1 2 _ rfl
  have p3 := XT.out.1 3 _ rfl
  have p4 := XT.out.1 4 _ rfl
  have p5 := XT.out.1 5 _ rfl
  have p6 := XT.out.1 6 _ rfl
  rw [hU0] at p0 p1 p2 p3 p4 p5 p6
  have SU := hidOf sU0
  clear xU0 bU0 sU0 hR hs hw0 hB0 hN hB hl
  go_enter Tryz.func85, Tryz.ntmps85
  go_wp2_with fail
  rw [← hU0]
  clear hU0 p0 p1 p2 p3 p4 p5 p6
  refine cW.mono ?_
  clear cW
  rintro e W1 ⟨wa, wc, P, rfl, hown, hP, b1⟩
  have zlen : (tx.wantsT t).length ≤ 12 := by
    rw [tx.wantsT, if_pos HK.out.2.1]
    have := tx.wln_le (tx.rgs t.sets) t.sets.length
    have := (tx.txB_lens HK.out.2.1).2
    omega
  have HZ : Hid (∀ z ∈ tx.wantsT t, 0 ≤ z ∧ z < (css.length : Int)) := fun z hz => by
    obtain ⟨s, hs, rfl⟩ := (want_in HK.out.2.1 z).1 hz
    have := HK.out.2.2.2 s hs
    exact ⟨this.1, this.2.1⟩
  have HG : Hid ((tx.wantsT t).foldl (grpA t.sets) css = t.sets.foldl insA css) := grp_all HK.out.2.1 css
  have H1 : Hid (tx.OwnIn W1 P wa (tx.wantsT t) ∧ (∀ q, P q → U0.heap.size ≤ q ∧ q < W1.heap.size) ∧ Turned b w W1 ∧ Rep W1 base b n g css ∧ Bx W1 w.heap.size [.int .i64 t.id, .int .i64 t.home, .int .i64 t.phase, .int .i64 t.count, .slice v.ar t.reads.length v.cr, .slice v.ah t.sets.length v.ch, .int .i64 t.stamp] ∧ w.heap.size < W1.heap.size) := ⟨hown, hP, T0.out.of_below b1, HR.out.later b1, XT.out.later b1, (XT.out.later b1).2.2⟩
  clear hown hP b1
  obtain ⟨zs, hzs⟩ : ∃ zs, tx.wantsT t = zs := ⟨_, rfl⟩
  rw [hzs] at zlen HZ HG H1
  rw [hzs]
  clear hzs
  generalize hsz : w.heap.size = s at *
  have HSS := hidOf hsz
  clear hsz
  go_wp2
  go_loopw [9] (fun v9 wr => ∃ (m : Nat) (g' : Nat → Nat), m ≤ zs.length ∧ v9 = .int .i64 m ∧ Rep wr base b n g' ((zs.take m).foldl (grpA t.sets) css) ∧ Turned b W1 wr) (fun v9 _ => zs.length - (intOf v9).toNat)
  case atStart => exact ⟨0, g, Nat.zero_le _, rfl, H1.out.2.2.2.1, Turned.refl _ _⟩
  case round =>
    obtain ⟨m, g', hm, rfl, hrep, htn⟩ := hrel
    by_cases hlt : m < zs.length
    · obtain ⟨z, hz⟩ : ∃ z, zs[m]? = some z := ⟨_, List.getElem?_eq_getElem hlt⟩
      have hzr := HZ.out z (List.mem_of_getElem? hz)
      obtain ⟨i, rfl⟩ : ∃ i : Nat, z = (i : Int) := ⟨z.toNat, by omega⟩
      have hlen : ((zs.take m).foldl (grpA t.sets) css).length = css.length := by
        generalize zs.take m = l
        clear hrep hz hzr HG H1 HK HR HZ
        induction l generalizing css with
        | nil => rfl
        | cons x l ih => rw [List.foldl_cons, ih, grpA_len]
      obtain ⟨xs, hxs⟩ : ∃ xs, ((zs.take m).foldl (grpA t.sets) css)[i]? = some xs := ⟨_, List.getElem?_eq_getElem (by omega)⟩
      have hstep : (zs.take (m + 1)).foldl (grpA t.sets) css = ((zs.take m).foldl (grpA t.sets) css).set i ((tx.ofR (i : Int) t.sets).foldl insC xs) := by
        rw [List.take_add_one, hz, Option.toList_some, List.foldl_append, List.foldl_cons, List.foldl_nil, grpA, Int.toNat_natCast, hxs]; rfl
      obtain ⟨cz, hcz⟩ : ∃ cz, (zs.take m).foldl (grpA t.sets) css = cz := ⟨_, rfl⟩
      rw [hcz] at hrep hxs hlen hstep
      have HST := hidOf hstep
      clear hcz hstep
      obtain ⟨e1, e2, e3, e4, e5, e6, e7⟩ := hrep.cs i xs hxs
      generalize g' i = q at e1 e2 e3 e4 e5 e6
      have hin : i < n := Nat.lt_of_lt_of_le (by omega) hrep.le
      rcases H1.out.1 with h0 | ⟨wb, rfl, hp, hwb, hnum, -⟩
      · rw [h0] at hlt; simp at hlt
      have hwl := (H1.out.2.1 wb hp).1
      have z0 : wr.cell? ⟨wb, m, none⟩ = some (.int .i64 (i : Int)) := by
        have h1 := hnum m _ hz
        rw [Nat.zero_add] at h1
        exact (htn.cell (p := ⟨wb, m, none⟩) hwb (by show wb ≠ b; have := HL0.out; have := SU.out; have := HSS.out; omega)).trans h1
      have xw : Bx wr s [.int .i64 t.id, .int .i64 t.home, .int .i64 t.phase, .int .i64 t.count, .slice v.ar t.reads.length v.cr, .slice v.ah t.sets.length v.ch, .int .i64 t.stamp] := H1.out.2.2.2.2.1.of_block (htn.block s (by have := H1.out.2.2.2.2.2; omega) (by have := HL0.out; have := HSS.out; omega)) htn.size
      have TW : Hid (Turned b w wr) := H1.out.2.2.1.trans htn
      have hS : (fun Z : World => Below wr.heap.size wr Z ∧ Z.cell? ⟨b, i, none⟩ = some (.slice (some ⟨q, 0, none⟩) 6 6) ∧ Z.cell? ⟨s, 0, none⟩ = some (.int .i64 t.id) ∧ Z.cell? ⟨s, 1, none⟩ = some (.int .i64 t.home) ∧ Z.cell? ⟨s, 2, none⟩ = some (.int .i64 t.phase) ∧ Z.cell? ⟨s, 3, none⟩ = some (.int .i64 t.count) ∧ Z.cell? ⟨s, 4, none⟩ = some (.slice v.ar t.reads.length v.cr) ∧ Z.cell? ⟨s, 5, none⟩ = some (.slice v.ah t.sets.length v.ch) ∧ Z.cell? ⟨s, 6, none⟩ = some (.int .i64 t.stamp)) wr.drew := ⟨(Below.refl _ _).drew, e1, xw.1 0 _ rfl, xw.1 1 _ rfl, xw.1 2 _ rfl, xw.1 3 _ rfl, xw.1 4 _ rfl, xw.1 5 _ rfl, xw.1 6 _ rfl⟩
      have hx6 : xs.length = 6 := by simp only [cellsB, Bool.and_eq_true, decide_eq_true_eq] at e7; exact e7.1
      have KR : Hid (Rep wr base b n g' cz ∧ cellsB xs = true ∧ xs.length = 6 ∧ CellsAt wr q 0 xs ∧ cz.length = css.length ∧ cz[i]? = some xs ∧ Turned b W1 wr ∧ base ≤ s) := ⟨hrep, e7, hx6, e5, hlen, hxs, htn, by have := HL0.out; have := HSS.out; omega⟩
      have HL : Hid (b < wr.heap.size ∧ q < wr.heap.size ∧ s < wr.heap.size) := ⟨hrep.hi, e3, xw.2.2⟩
      have ix : (i : Int) < (n : Int) := by omega
      have mx : (m : Int) < (zs.length : Int) := by omega
      clear hrep e1 e2 e3 e4 e5 e6 e7 hxs hlen htn xw hnum hp hwl hwb hx6 hz hzr
      go_wp2_with fail
      refine wp_region_z (fun z => z == 14) (fun Z : World => Below wr.heap.size wr Z ∧ Z.cell? ⟨b, i, none⟩ = some (.slice (some ⟨q, 0, none⟩) 6 6) ∧ Z.cell? ⟨s, 0, none⟩ = some (.int .i64 t.id) ∧ Z.cell? ⟨s, 1, none⟩ = some (.int .i64 t.home) ∧ Z.cell? ⟨s, 2, none⟩ = some (.int .i64 t.phase) ∧ Z.cell? ⟨s, 3, none⟩ = some (.int .i64 t.count) ∧ Z.cell? ⟨s, 4, none⟩ = some (.slice v.ar t.reads.length v.cr) ∧ Z.cell? ⟨s, 5, none⟩ = some (.slice v.ah t.sets.length v.ch) ∧ Z.cell? ⟨s, 6, none⟩ = some (.int .i64 t.stamp)) (by kernel_rfl) ?_
      generalize wr.drew = Wd at *
      refine wpZ_takeP (i := 0) (v := ?_) rfl (by kernel_rfl) (fun _ _ _ h => h) (Or.inl ⟨by rfl, ?_⟩) hS ?_
      rotate_left
      · (intro w _; go_simp; first | done | with_reducible rfl | (rw [if_pos (by omega)]) | (rw [if_pos (by omega)]; go_simp))
      simp only [Act.put]
      refine wpZ_takeP (i := 1) (v := ?_) rfl (by kernel_rfl) (fun _ _ _ h => h) (Or.inl ⟨by rfl, ?_⟩) hS ?_
      rotate_left
      · (intro w _; go_simp; first | done | with_reducible rfl | (rw [if_pos (by omega)]) | (rw [if_pos (by omega)]; go_simp))
      simp only [Act.put]
      refine wpZ_takeP (i := 2) (v := ?_) rfl (by kernel_rfl) (fun _ _ _ h => h) (Or.inl ⟨by rfl, ?_⟩) hS ?_
      rotate_left
      · (intro w _; go_simp; first | done | with_reducible rfl | (rw [if_pos (by omega)]) | (rw [if_pos (by omega)]; go_simp))
      simp only [Act.put]
      refine wpZ_takeP (i := 3) (v := ?_) rfl (by kernel_rfl) (fun _ _ _ h => h) (Or.inl ⟨by rfl, ?_⟩) hS ?_
      rotate_left
      · (intro w _; go_simp; first | done | with_reducible rfl | (rw [if_pos (by omega)]) | (rw [if_pos (by omega)]; go_simp))
      simp only [Act.put]
      refine wpZ_takeP (i := 4) (v := ?_) rfl (by kernel_rfl) (fun _ _ _ h => h) (Or.inl ⟨by rfl, ?_⟩) hS ?_
      rotate_left
      · (intro w _; go_simp; first | done | with_reducible rfl | (rw [if_pos (by omega)]) | (rw [if_pos (by omega)]; go_simp))
      simp only [Act.put]
      refine wpZ_take (i := 5) (v := ?_) rfl (by kernel_rfl) (fun _ _ _ h => h) (Or.inl ⟨by rfl, ?_⟩) hS ?_
      rotate_left
      · (intro w hSw; obtain ⟨-, s0, s1, s2, s3, s4, s5, s6, s7⟩ := hSw; go_simp; first | done | with_reducible rfl)
      simp only [Act.put]
      refine wpZ_take (i := 6) (v := ?_) rfl (by kernel_rfl) (fun _ _ _ h => h) (Or.inl ⟨by rfl, ?_⟩) hS ?_
      rotate_left
      · (intro w hSw; obtain ⟨-, s0, s1, s2, s3, s4, s5, s6, s7⟩ := hSw; go_simp; first | done | with_reducible rfl)
      simp only [Act.put]
      refine wpZ_takeP (i := 7) (v := ?_) rfl (by kernel_rfl) (fun _ _ _ h => h) (Or.inl ⟨by rfl, ?_⟩) hS ?_
      rotate_left
      · (intro w _; go_simp; first | done | with_reducible rfl | (rw [if_pos (by omega)]) | (rw [if_pos (by omega)]; go_simp))
      simp only [Act.put]
      refine wpZ_ready (rs := [8]) (by kernel_rfl) (by simp) ?_
      refine AllZ.cons rfl (fun K hK => ?_) AllZ.nil
      go_simp
      have hsl := HW.out Wd (TW.out.of_below hS.1)
      have cS := tx.implSetsOf_any Wd v t (i : Int) HK.out.1 hsl
      simp only [tx.TV.val] at cS
      refine cS.mono ?_
      clear cS hsl
      rintro e X ⟨sa, sc, PS, rfl, hos, hps, bX⟩
      have h9 := hS.1.size
      have h8 := HL.out
      have hc : ∀ q j, q < Wd.heap.size → X.cell? ⟨q, j, none⟩ = Wd.cell? ⟨q, j, none⟩ := fun q j hq => bX.cell (p := ⟨q, j, none⟩) hq
      replace hS : (fun Z : World => Below wr.heap.size wr Z ∧ Z.cell? ⟨b, i, none⟩ = some (.slice (some ⟨q, 0, none⟩) 6 6) ∧ Z.cell? ⟨s, 0, none⟩ = some (.int .i64 t.id) ∧ Z.cell? ⟨s, 1, none⟩ = some (.int .i64 t.home) ∧ Z.cell? ⟨s, 2, none⟩ = some (.int .i64 t.phase) ∧ Z.cell? ⟨s, 3, none⟩ = some (.int .i64 t.count) ∧ Z.cell? ⟨s, 4, none⟩ = some (.slice v.ar t.reads.length v.cr) ∧ Z.cell? ⟨s, 5, none⟩ = some (.slice v.ah t.sets.length v.ch) ∧ Z.cell? ⟨s, 6, none⟩ = some (.int .i64 t.stamp)) X := ⟨bstep hS.1 bX, (hc _ _ (by omega)).trans hS.2.1, (hc _ _ (by omega)).trans hS.2.2.1, (hc _ _ (by omega)).trans hS.2.2.2.1, (hc _ _ (by omega)).trans hS.2.2.2.2.1, (hc _ _ (by omega)).trans hS.2.2.2.2.2.1, (hc _ _ (by omega)).trans hS.2.2.2.2.2.2.1, (hc _ _ (by omega)).trans hS.2.2.2.2.2.2.2.1, (hc _ _ (by omega)).trans hS.2.2.2.2.2.2.2.2⟩
      clear hc h9 h8
      have HSE : Hid (Sl X X.heap.size sa (tx.setsOfT t (i : Int)).length (tx.setsOfT t (i : Int)) ∧ tx.setsOfT t (i : Int) = tx.ofR (i : Int) t.sets) := by
        refine ⟨⟨rfl, ?_⟩, by rw [tx.setsOfT, if_pos HK.out.2.1]⟩
        rcases hos with h0 | ⟨sb, rfl, _, hsb, hat, _⟩
        · exact .inl (by rw [h0]; rfl)
        · exact .inr ⟨sb, 0, rfl, hsb, sets_of hat⟩
      clear hos hps bX
      clear Wd
      generalize X = Wd at *
      refine hK.out _ _ (fun _ => hS) ?_
      clear hK K
      refine wpZ_ready (rs := [9]) (by kernel_rfl) (by simp) ?_
      refine AllZ.cons rfl (fun K hK => ?_) AllZ.nil
      go_simp
      have hsn : (tx.setsOfT t (i : Int)).length ≤ 12 := by rw [HSE.out.2]; exact Nat.le_trans (tx.ofR_len _ _) (tx.txB_lens HK.out.2.1).2
      have cI := implInstall_any Wd (some ⟨q, 0, none⟩) 6 6 xs sa (tx.setsOfT t (i : Int)).length sc (tx.setsOfT t (i : Int)) (by unfold maxLen; omega) (by unfold maxLen; omega) ⟨KR.out.2.2.1, .inr ⟨q, 0, rfl, by have := HL.out; have := hS.1.size; omega, KR.out.2.2.2.1.blk (hS.1.block q HL.out.2.1)⟩⟩ HSE.out.1 KR.out.2.1 (by rw [HSE.out.2]; exact ofR_rise HK.out.2.1 _)
      refine cI.mono ?_
      clear cI hsn
      rintro e X ⟨nq, rfl, hnq, hblk, bX⟩
      have HQ : Hid ((wr.heap.size ≤ nq ∧ cellsB ((tx.ofR (i : Int) t.sets).foldl insC xs) = true ∧ ((tx.ofR (i : Int) t.sets).foldl insC xs).length = 6) ∧ X.heap[nq]? = some (.cells (arr6 ((tx.ofR (i : Int) t.sets).foldl insC xs)) 75 (0, 0))) := by
        refine ⟨⟨by have := hS.1.size; omega, ins_ok _ KR.out.2.1 (fun s hs => (tx.txB_se HK.out.2.1).1 s (List.mem_filter.1 hs).1), ins_six _ KR.out.2.2.1⟩, ?_⟩
        rw [← HSE.out.2]; exact hblk
      have h9 := hS.1.size
      have h8 := HL.out
      have hc : ∀ q j, q < Wd.heap.size → X.cell? ⟨q, j, none⟩ = Wd.cell? ⟨q, j, none⟩ := fun q j hq => bX.cell (p := ⟨q, j, none⟩) hq
      replace hS : (fun Z : World => Below wr.heap.size wr Z ∧ Z.cell? ⟨b, i, none⟩ = some (.slice (some ⟨q, 0, none⟩) 6 6) ∧ Z.cell? ⟨s, 0, none⟩ = some (.int .i64 t.id) ∧ Z.cell? ⟨s, 1, none⟩ = some (.int .i64 t.home) ∧ Z.cell? ⟨s, 2, none⟩ = some (.int .i64 t.phase) ∧ Z.cell? ⟨s, 3, none⟩ = some (.int .i64 t.count) ∧ Z.cell? ⟨s, 4, none⟩ = some (.slice v.ar t.reads.length v.cr) ∧ Z.cell? ⟨s, 5, none⟩ = some (.slice v.ah t.sets.length v.ch) ∧ Z.cell? ⟨s, 6, none⟩ = some (.int .i64 t.stamp)) X := ⟨bstep hS.1 bX, (hc _ _ (by omega)).trans hS.2.1, (hc _ _ (by omega)).trans hS.2.2.1, (hc _ _ (by omega)).trans hS.2.2.2.1, (hc _ _ (by omega)).trans hS.2.2.2.2.1, (hc _ _ (by omega)).trans hS.2.2.2.2.2.1, (hc _ _ (by omega)).trans hS.2.2.2.2.2.2.1, (hc _ _ (by omega)).trans hS.2.2.2.2.2.2.2.1, (hc _ _ (by omega)).trans hS.2.2.2.2.2.2.2.2⟩
      clear hc h9 h8
      clear hnq hblk bX HSE
      clear Wd
      refine hK.out _ _ (fun _ => hS) ?_
      clear hK K
      refine wpZ_takeP (i := 10) (v := ?_) rfl (by kernel_rfl) (fun _ _ _ h => h) (Or.inl ⟨by rfl, ?_⟩) hS ?_
      rotate_left
      · (intro w _; go_simp; first | done | with_reducible rfl | (rw [if_pos (by omega)]) | (rw [if_pos (by omega)]; go_simp))
      simp only [Act.put]
      refine wpZ_takeP (i := 11) (v := ?_) rfl (by kernel_rfl) (fun _ _ _ h => h) (Or.inl ⟨by rfl, ?_⟩) hS ?_
      rotate_left
      · (intro w _; go_simp; first | done | with_reducible rfl | (rw [if_pos (by omega)]) | (rw [if_pos (by omega)]; go_simp))
      simp only [Act.put]
      refine wpZ_takeP (i := 12) (v := ?_) rfl (by kernel_rfl) (fun _ _ _ h => h) (Or.inl ⟨by rfl, ?_⟩) hS ?_
      rotate_left
      · (intro w _; go_simp; first | done | with_reducible rfl | (rw [if_pos (by omega)]) | (rw [if_pos (by omega)]; go_simp))
      simp only [Act.put]
      refine wpZ_ready (rs := [13]) (by kernel_rfl) (by simp) ?_
      refine AllZ.cons rfl (fun K hK => ?_) AllZ.nil
      go_simp
      refine hK.out _ _ (fun _ => hS) ?_
      clear hK K
      have hX := blk_six HQ.out.2 HQ.out.1.2.2
      have hRX := KR.out.1.later hS.1
      have hst := hRX.store (r := i) (q := nq) (ys := (tx.ofR (i : Int) t.sets).foldl insC xs) (css' := (zs.take (m + 1)).foldl (grpA t.sets) css) hin (by have := HQ.out.1.1; have := KR.out.2.2.2.2.2.2.2; have := HL.out; omega) hX.1 (by have := HQ.out.1.1; have := HL.out; omega) hX.2.1 hX.2.2 HQ.out.1.2.1 (by rw [HST.out, List.length_set]; exact KR.out.1.le) (fun r' ys hy => by
        rw [HST.out] at hy
        by_cases e : r' = i
        · subst e
          rw [List.getElem?_set_self (List.getElem?_eq_some_iff.1 KR.out.2.2.2.2.2.1).1] at hy
          exact .inl ⟨rfl, (Option.some.inj hy).symm⟩
        · rw [List.getElem?_set_ne (fun h => e h.symm)] at hy
          exact .inr ⟨e, hy⟩)
      have c0 := hS.2.1
      have f0 := (hRX.rm i hin).choose_spec.2
      have KE : Hid ((∃ g', Rep (X.setCell ⟨b, i, none⟩ (.slice (some ⟨nq, 0, none⟩) 6 6)) base b n g' ((zs.take (m + 1)).foldl (grpA t.sets) css)) ∧ Turned b W1 (X.setCell ⟨b, i, none⟩ (.slice (some ⟨nq, 0, none⟩) 6 6))) := ⟨⟨_, hst⟩, (KR.out.2.2.2.2.2.2.1.of_below hS.1).setCell i _⟩
      clear hX hRX hst
      refine wpZ_ready (rs := [14]) (by kernel_rfl) (by simp) ?_
      refine AllZ.cons rfl (fun K hK => ?_) AllZ.nil
      go_simp
      refine hK.out _ _ (fun h => absurd (show false = true from h.symm.trans (by kernel_rfl)) (by decide)) ?_
      clear hK K
      refine wpZ_done (by kernel_rfl) ?_ _
      clear c0 f0 hS
      obtain ⟨⟨g2, hg2⟩, ht2⟩ := KE.out
      have KF := hidOf hg2
      have KT := hidOf ht2
      clear hg2 ht2 KE
      go_wp2
      exact ⟨⟨m + 1, g2, by omega, by simp, KF.out, KT.out⟩, by simp [intOf]; omega⟩
    · obtain rfl : m = zs.length := by omega
      have hd : decide ((zs.length : Int) < (zs.length : Int)) = false := by simp
      rw [List.take_length, HG.out] at hrep
      have KE : Hid ((∃ g', Rep wr base b n g' (t.sets.foldl insA css)) ∧ Turned b w wr) := ⟨⟨g', hrep⟩, H1.out.2.2.1.trans htn⟩
      clear hrep htn
      go_wp2
      refine bodyPost_end (v := .tuple #[]) (by simp [results, Tryz.results85, go_sem]) rfl ⟨rfl, KE.out.1, KE.out.2⟩
end Go.Proofs.YtdmpobegobfpjaaGreat
namespace Go.Proofs.YtdmpobegobfpjaaGreat
open Go.RowKit
def tolJ (k : C6) : Nat → List Nat
  | 0 => []
  | n + 1 => if tx.toldR (atT k.txs n) = 1 then tolJ k n ++ [n] else tolJ k n
theorem tolJ_len (k : C6) : ∀ n, (tolJ k n).length ≤ n
  | 0 => Nat.le_refl _
  | n + 1 => by
    have := tolJ_len k n
    rw [tolJ]
    split
    · rw [List.length_append]; simp; omega
    · omega
theorem tolJ_lt (k : C6) : ∀ n, ∀ j ∈ tolJ k n, j < n
  | 0 => fun j hj => by simp [tolJ] at hj
  | n + 1 => fun j hj => by
    have ih := tolJ_lt k n
    rw [tolJ] at hj
    split at hj
    · rw [List.mem_append, List.mem_singleton] at hj
      rcases hj with hj | rfl
      · have := ih j hj; omega
      · omega
    · have := ih j hj; omega
theorem tolJ_rise (k : C6) : ∀ n, (tolJ k n).Pairwise (· < ·)
  | 0 => List.Pairwise.nil
  | n + 1 => by
    have ih := tolJ_rise k n
    rw [tolJ]
    split
    · rw [List.pairwise_append]
      exact ⟨ih, List.pairwise_singleton _ _, fun a ha b hb => by rw [List.mem_singleton] at hb; rw [hb]; exact tolJ_lt k n a ha⟩
    · exact ih
def srtJ (k : C6) (l : List Nat) : Nat → List Nat
  | 0 => []
  | e + 1 => insJ k (l[e]?.getD 0) (srtJ k l e)
theorem srtJ_len (k : C6) (l : List Nat) : ∀ e, (srtJ k l e).length = e
  | 0 => rfl
  | e + 1 => by rw [srtJ, insJ_len, srtJ_len k l e]
theorem srtJ_mem (k : C6) (l : List Nat) : ∀ e, e ≤ l.length → ∀ j ∈ srtJ k l e, j ∈ l.take e
  | 0 => fun _ j hj => by simp [srtJ] at hj
  | e + 1 => fun he j hj => by
    have ih := srtJ_mem k l e (by omega)
    have hx : l[e]? = some l[e] := List.getElem?_eq_getElem (by omega)
    rw [List.take_add_one, hx, Option.toList_some, List.mem_append, List.mem_singleton]
    rw [srtJ, hx, Option.getD_some] at hj
    simp only [insJ, List.mem_append, List.mem_singleton] at hj
    rcases hj with (hj | hj) | hj
    · exact .inl (ih j (List.mem_of_mem_take hj))
    · exact .inr hj
    · exact .inl (ih j (List.mem_of_mem_drop hj))
theorem srtJ_app (k : C6) (l m : List Nat) : ∀ e, e ≤ l.length → srtJ k (l ++ m) e = srtJ k l e
  | 0 => fun _ => rfl
  | e + 1 => fun he => by rw [srtJ, srtJ, srtJ_app k l m e (by omega), List.getElem?_append_left (by omega)]
theorem srt_ord (k : C6) : ∀ n, srtJ k (tolJ k n) (tolJ k n).length = ordJ k n
  | 0 => rfl
  | n + 1 => by
    have ih := srt_ord k n
    rw [tolJ, ordJ]
    split
    · rw [List.length_append, List.length_singleton, srtJ, srtJ_app k _ _ _ (Nat.le_refl _), ih, List.getElem?_append_right (Nat.le_refl _), Nat.sub_self]
      rfl
    · exact ih
def curJ (k : C6) (l : List Nat) (e a : Nat) : List Nat := (srtJ k l e).take a ++ (l[e]?.getD 0) :: (srtJ k l e).drop a ++ l.drop (e + 1)
def bakJ (k : C6) (l : List Nat) (e : Nat) : List Nat := srtJ k l e ++ l.drop e
theorem curJ_len (k : C6) {l : List Nat} {e a : Nat} (he : e < l.length) (ha : a ≤ e) : (curJ k l e a).length = l.length := by
  simp only [curJ, List.length_append, List.length_cons, List.length_take, List.length_drop, srtJ_len]; omega
theorem curJ_start (k : C6) {l : List Nat} {e : Nat} (he : e < l.length) : curJ k l e e = bakJ k l e := by
  have h1 : (srtJ k l e).take e = srtJ k l e := List.take_of_length_le (by rw [srtJ_len]; exact Nat.le_refl _)
  have h2 : (srtJ k l e).drop e = [] := List.drop_eq_nil_of_le (by rw [srtJ_len]; exact Nat.le_refl _)
  rw [curJ, bakJ, h1, h2, List.getElem?_eq_getElem he, Option.getD_some, List.drop_eq_getElem_cons he]
  simp
theorem curJ_at (k : C6) {l : List Nat} {e a : Nat} (ha : a ≤ e) : (curJ k l e a)[a]? = some (l[e]?.getD 0) := by
  have h1 : ((srtJ k l e).take a).length = a := by rw [List.length_take, srtJ_len]; omega
  rw [curJ, List.append_assoc, List.getElem?_append_right (by omega), h1, Nat.sub_self]
  rfl
theorem curJ_low (k : C6) {l : List Nat} {e p : Nat} (ha : p + 1 ≤ e) : (curJ k l e (p + 1))[p]? = some ((srtJ k l e)[p]?.getD 0) := by
  have h1 : ((srtJ k l e).take (p + 1)).length = p + 1 := by rw [List.length_take, srtJ_len]; omega
  rw [curJ, List.append_assoc, List.getElem?_append_left (by omega), List.getElem?_take, if_pos (by omega), List.getElem?_eq_getElem (by rw [srtJ_len]; omega)]
  rfl
theorem curJ_swap (k : C6) {l : List Nat} {e p : Nat} (ha : p + 1 ≤ e) : ((curJ k l e (p + 1)).set (p + 1) ((srtJ k l e)[p]?.getD 0)).set p (l[e]?.getD 0) = curJ k l e p := by
  have hp : p < (srtJ k l e).length := by rw [srtJ_len]; omega
  have h1 : ((srtJ k l e).take p).length = p := by rw [List.length_take, srtJ_len]; omega
  have e1 : (srtJ k l e).take (p + 1) = (srtJ k l e).take p ++ [(srtJ k l e)[p]] := by rw [List.take_add_one, List.getElem?_eq_getElem hp]; rfl
  have e2 : (srtJ k l e).drop p = (srtJ k l e)[p] :: (srtJ k l e).drop (p + 1) := List.drop_eq_getElem_cons hp
  have e3 : (srtJ k l e)[p]?.getD 0 = (srtJ k l e)[p] := by rw [List.getElem?_eq_getElem hp]; rfl
  rw [curJ, curJ, e1, e2, e3]
  generalize (srtJ k l e).take p = A at *
  generalize (srtJ k l e)[p] = y at *
  generalize (srtJ k l e).drop (p + 1) = B at *
  generalize l[e]?.getD 0 = x at *
  generalize l.drop (e + 1) = C at *
  have g1 : A ++ [y] ++ x :: B ++ C = A ++ (y :: x :: (B ++ C)) := by simp
  have g2 : A ++ x :: (y :: B) ++ C = A ++ (x :: y :: (B ++ C)) := by simp
  rw [g1, g2, List.set_append_right _ _ (by omega), List.set_append_right _ _ (by omega), h1, show p + 1 - p = 1 by omega, show p - p = 0 by omega]
  rfl
theorem curJ_end (k : C6) {l : List Nat} {e a : Nat} (h : cutK (fun q => decide (stpJ k (l[e]?.getD 0) < stpJ k ((srtJ k l e)[q]?.getD 0))) e = a) : curJ k l e a = bakJ k l (e + 1) := by
  have h1 : srtJ k l (e + 1) = insJ k (l[e]?.getD 0) (srtJ k l e) := rfl
  rw [bakJ, h1, insJ, srtJ_len, h, curJ]
  simp
theorem ids_rise {k : C6} (hk : clusterB k = true) {i j : Nat} (hij : i < j) (hj : j < k.txs.length) : (atT k.txs i).id < (atT k.txs j).id := by
  simp only [clusterB, Bool.and_eq_true] at hk
  have ht := hk.2
  have step : ∀ m, m + 1 < k.txs.length → (atT k.txs m).id < (atT k.txs (m + 1)).id := fun m hm => by
    have := List.all_eq_true.1 ht (m + 1) (List.mem_range.2 hm)
    simp only [txAtB, Bool.and_eq_true, Bool.or_eq_true, decide_eq_true_eq] at this
    have h2 := this.1.1.1.1.2
    rcases h2 with h2 | h2
    · omega
    · exact h2
  induction j with
  | zero => omega
  | succ j ih =>
    rcases Nat.lt_or_ge i j with h | h
    · exact Int.lt_trans (ih h (by omega)) (step j hj)
    · have : i = j := by omega
      subst this
      exact step i hj
theorem met_less {k : C6} (hk : clusterB k = true) {n e q : Nat} (hn : n ≤ k.txs.length) (he : e < (tolJ k n).length) (hq : q < e) : (atT k.txs ((srtJ k (tolJ k n) e)[q]?.getD 0)).id < (atT k.txs ((tolJ k n)[e]?.getD 0)).id := by
  have hp : q < (srtJ k (tolJ k n) e).length := by rw [srtJ_len]; exact hq
  have hm := srtJ_mem k (tolJ k n) e (by omega) _ (List.getElem_mem hp)
  rw [List.getElem?_eq_getElem hp, List.getElem?_eq_getElem he, Option.getD_some, Option.getD_some]
  obtain ⟨z, hz, hze⟩ := List.getElem_of_mem hm
  rw [List.length_take] at hz
  rw [List.getElem_take] at hze
  have hr := List.pairwise_iff_getElem.1 (tolJ_rise k n) z e (by omega) he (by omega)
  rw [← hze]
  exact ids_rise hk hr (Nat.lt_of_lt_of_le (tolJ_lt k n _ (List.getElem_mem he)) hn)
end Go.Proofs.YtdmpobegobfpjaaGreat
namespace Go.Proofs.YtdmpobegobfpjaaGreat
open Go.RowKit
open Go.Sort (grow)
def RwX (W : World) (base b : Nat) (xs : List (tx.TV × tx.T7)) : Prop := AtX W b 0 xs ∧ Room W b (xs.length * 7) ∧ base ≤ b ∧ b < W.heap.size
theorem RwX.later {W W' : World} {base b : Nat} {xs : List (tx.TV × tx.T7)} (h : RwX W base b xs) (hb : Below W.heap.size W W') : RwX W' base b xs := ⟨h.1.below hb h.2.2.2, h.2.1.below hb h.2.2.2, h.2.2.1, Nat.lt_of_lt_of_le h.2.2.2 hb.size⟩
theorem RwX.put {W : World} {base b i : Nat} {xs : List (tx.TV × tx.T7)} (h : RwX W base b xs) (hi : i < xs.length) (y : tx.TV × tx.T7) : RwX (putB W b (i * 7) (cellsT y)) base b (xs.set i y) := by
  refine ⟨fun j x hx t u hu => ?_, by rw [List.length_set]; exact putB_room _ _ _ h.2.1, h.2.2.1, by rw [putB_size]; exact h.2.2.2⟩
  have ht : t < 7 := by have := (List.getElem?_eq_some_iff.1 hu).1; rwa [cellsT_len] at this
  rw [Nat.zero_add]
  by_cases e : i = j
  · subst e
    rw [List.getElem?_set_self hi] at hx
    cases hx
    exact putB_cell (cellsT y) W (i * 7) (fun j h1 h2 => by
      rw [cellsT_len] at h2
      obtain ⟨v, hv, _⟩ := h.2.1 j (by omega)
      exact ⟨v, hv⟩) t u hu
  · rw [List.getElem?_set_ne e] at hx
    have := h.1 j x hx t u hu
    rw [Nat.zero_add] at this
    rw [putB_out _ _ _ (by rw [cellsT_len]; omega)]
    exact this
theorem RowX.rw {W : World} {base b c : Nat} {xs : List (tx.TV × tx.T7)} (h : RowX W base (.slice (some ⟨b, 0, none⟩) xs.length c) xs) : RwX W base b xs := by
  have ha := RowX.at h
  refine ⟨ha.1, fun j hj => ?_, ha.2.1, ha.2.2.1⟩
  rcases h.2 with ⟨e, h0⟩ | ⟨q, cap, cur, e, hb, hg, hl, hm, hsz, hcur⟩
  · cases e
  · cases e
    have hj' : j < cur.size := by rw [hsz]; exact Nat.lt_of_lt_of_le hj (Nat.mul_le_mul_right _ hl)
    exact ⟨cur[j], by simp [World.cell?, hg, hj'], by simp [World.frozen?, hg]⟩
set_option maxHeartbeats 2000000 in
theorem cmpOr_any (w : World) (b : Nat) (x y : Int) (h0 : w.cell? ⟨b, 0, none⟩ = some (.int .i64 x)) (h1 : w.cell? ⟨b, 1, none⟩ = some (.int .i64 y)) :
    Calls Tryz.prog 125 #[.slice (some ⟨b, 0, none⟩) 2 2] w fun e w' => e = .returned (.int .i64 (if x = 0 then y else x)) ∧ w' = w := by
  obtain ⟨z, hz⟩ : ∃ z, z = if x = 0 then y else x := ⟨_, rfl⟩
  rw [← hz]
  have HZ := hidOf hz
  clear hz
  go_enter Tryz.func125, Tryz.ntmps125
  go_wp2
  go_loopw [8] (fun v wr => ∃ j : Nat, j ≤ 2 ∧ v = .int .i64 j ∧ wr = w ∧ (1 ≤ j → x = 0) ∧ (2 ≤ j → y = 0)) (fun v _ => 2 - (intOf v).toNat)
  case atStart => exact ⟨0, by omega, rfl, rfl, fun h => absurd h (by omega), fun h => absurd h (by omega)⟩
  case round =>
    obtain ⟨j, hj, rfl, rfl, hx, hy⟩ := hrel
    rcases j with _ | _ | _ | j
    · by_cases e : x = 0
      · have d : (x != 0) = false := by simp [e]
        have HX := hidOf e
        clear hx hy e
        go_wp2
        exact ⟨⟨1, by omega, by simp, by simp, fun _ => HX.out, fun h => absurd h (by omega)⟩, by simp [intOf]⟩
      · have d : (x != 0) = true := by simp [e]
        have HX := hidOf e
        clear hx hy e
        go_wp2
        go_ret
        exact ⟨by rw [HZ.out, if_neg HX.out]; rfl, rfl⟩
    · have HX : Hid (x = 0) := hx (by omega)
      by_cases e : y = 0
      · have d : (y != 0) = false := by simp [e]
        have HY := hidOf e
        clear hx hy e
        go_wp2
        exact ⟨⟨2, by omega, by simp, by simp, fun _ => HX.out, fun _ => HY.out⟩, by simp [intOf]⟩
      · have d : (y != 0) = true := by simp [e]
        clear hx hy e
        go_wp2
        go_ret
        exact ⟨by rw [HZ.out, if_pos HX.out]; rfl, rfl⟩
    · have HX : Hid (x = 0 ∧ y = 0) := ⟨hx (by omega), hy (by omega)⟩
      clear hx hy
      go_wp2
      go_ret
      exact ⟨by rw [HZ.out, if_pos HX.out.1, HX.out.2]; rfl, rfl⟩
    · omega
def stmC (a b : tx.T7) : Int := if cmpI a.stamp b.stamp = 0 then cmpI a.id b.id else cmpI a.stamp b.stamp
theorem stmC_less {a b : tx.T7} (h : b.id < a.id) : decide (stmC a b < 0) = decide (a.stamp < b.stamp) := by
  unfold stmC cmpI
  by_cases h1 : a.stamp < b.stamp
  · simp [h1]
  · by_cases h2 : b.stamp < a.stamp
    · simp [h1, h2]
    · have h3 : ¬ a.id < b.id := by omega
      simp [h1, h2, h3, h]
set_option maxRecDepth 100000 in
set_option maxHeartbeats 8000000 in
theorem byStamp_any (w : World) (u v : tx.TV) (s t : tx.T7) :
    Calls Tryz.prog 71 #[.agg #[.int .i64 s.id, .int .i64 s.home, .int .i64 s.phase, .int .i64 s.count, .slice u.ar s.reads.length u.cr, .slice u.ah s.sets.length u.ch, .int .i64 s.stamp], .agg #[.int .i64 t.id, .int .i64 t.home, .int .i64 t.phase, .int .i64 t.count, .slice v.ar t.reads.length v.cr, .slice v.ah t.sets.length v.ch, .int .i64 t.stamp]] w fun e w' => e = .returned (.int .i64 (stmC s t)) ∧ Below w.heap.size w w' := by
  obtain ⟨U, hU⟩ : ∃ Y, Y = (w.alloc (.cells #[.int .i64 s.id, .int .i64 s.home, .int .i64 s.phase, .int .i64 s.count, .slice u.ar s.reads.length u.cr, .slice u.ah s.sets.length u.ch, .int .i64 s.stamp] 55)).alloc (.cells #[.int .i64 t.id, .int .i64 t.home, .int .i64 t.phase, .int .i64 t.count, .slice v.ar t.reads.length v.cr, .slice v.ah t.sets.length v.ch, .int .i64 t.stamp] 55) := ⟨_, rfl⟩
  obtain ⟨U0, hU0⟩ : ∃ Y, Y = w.alloc (.cells #[.int .i64 s.id, .int .i64 s.home, .int .i64 s.phase, .int .i64 s.count, .slice u.ar s.reads.length u.cr, .slice u.ah s.sets.length u.ch, .int .i64 s.stamp] 55) := ⟨_, rfl⟩
  have b0 : Below w.heap.size w U0 := by rw [hU0]; exact (Below.refl _ _).alloc (Nat.le_refl _) _
  have s0 : U0.heap.size = w.heap.size + 1 := by rw [hU0]; simp
  have x0 : Bx U0 w.heap.size [.int .i64 s.id, .int .i64 s.home, .int .i64 s.phase, .int .i64 s.count, .slice u.ar s.reads.length u.cr, .slice u.ah s.sets.length u.ch, .int .i64 s.stamp] := by rw [hU0]; exact Bx.made w [.int .i64 s.id, .int .i64 s.home, .int .i64 s.phase, .int .i64 s.count, .slice u.ar s.reads.length u.cr, .slice u.ah s.sets.length u.ch, .int .i64 s.stamp] _
  have hU1 : U = U0.alloc (.cells #[.int .i64 t.id, .int .i64 t.home, .int .i64 t.phase, .int .i64 t.count, .slice v.ar t.reads.length v.cr, .slice v.ah t.sets.length v.ch, .int .i64 t.stamp] 55) := by rw [hU, hU0]
  have b1 : Below U0.heap.size U0 U := by rw [hU1]; exact (Below.refl _ _).alloc (Nat.le_refl _) _
  have x1 : Bx U (w.heap.size + 1) [.int .i64 t.id, .int .i64 t.home, .int .i64 t.phase, .int .i64 t.count, .slice v.ar t.reads.length v.cr, .slice v.ah t.sets.length v.ch, .int .i64 t.stamp] := by rw [hU1, ← s0]; exact Bx.made U0 [.int .i64 t.id, .int .i64 t.home, .int .i64 t.phase, .int .i64 t.count, .slice v.ar t.reads.length v.cr, .slice v.ah t.sets.length v.ch, .int .i64 t.stamp] _
  have BU : Hid (Below w.heap.size w U ∧ w.heap.size + 1 < U.heap.size) := ⟨bstep b0 b1, x1.2.2⟩
  have x0' := x0.later b1
  have hS : (fun X : World => Below U.heap.size U X ∧ X.cell? ⟨w.heap.size, 6, none⟩ = some (.int .i64 s.stamp) ∧ X.cell? ⟨w.heap.size, 0, none⟩ = some (.int .i64 s.id) ∧ X.cell? ⟨w.heap.size + 1, 6, none⟩ = some (.int .i64 t.stamp) ∧ X.cell? ⟨w.heap.size + 1, 0, none⟩ = some (.int .i64 t.id)) U.drew := ⟨(Below.refl _ _).drew, x0'.1 6 _ rfl, x0'.1 0 _ rfl, x1.1 6 _ rfl, x1.1 0 _ rfl⟩
  have KS : Hid (stmC s t = if cmpI s.stamp t.stamp = 0 then cmpI s.id t.id else cmpI s.stamp t.stamp) := rfl
  clear hU0 hU1 b0 b1 x0 x0' x1 s0 U0
  generalize stmC s t = sc at *
  go_enter Tryz.func71, Tryz.ntmps71
  go_wp2_with fail
  rw [← hU]
  clear hU
  refine wp_region_z (fun _ => false) (fun X : World => Below U.heap.size U X ∧ X.cell? ⟨w.heap.size, 6, none⟩ = some (.int .i64 s.stamp) ∧ X.cell? ⟨w.heap.size, 0, none⟩ = some (.int .i64 s.id) ∧ X.cell? ⟨w.heap.size + 1, 6, none⟩ = some (.int .i64 t.stamp) ∧ X.cell? ⟨w.heap.size + 1, 0, none⟩ = some (.int .i64 t.id)) (by kernel_rfl) ?_
  generalize U.drew = Wd at *
  refine wpZ_takeP (i := 0) (v := ?_) rfl (by kernel_rfl) (fun _ _ _ h => h) (Or.inl ⟨by rfl, ?_⟩) hS ?_
  rotate_left
  · (intro w _; go_simp; first | done | with_reducible rfl)
  simp only [Act.put]
  refine wpZ_take (i := 1) (v := ?_) rfl (by kernel_rfl) (fun _ _ _ h => h) (Or.inl ⟨by rfl, ?_⟩) hS ?_
  rotate_left
  · (intro w hSw; obtain ⟨-, s0, s1, s2, s3⟩ := hSw; go_simp; first | done | with_reducible rfl)
  simp only [Act.put]
  refine wpZ_takeP (i := 2) (v := ?_) rfl (by kernel_rfl) (fun _ _ _ h => h) (Or.inl ⟨by rfl, ?_⟩) hS ?_
  rotate_left
  · (intro w _; go_simp; first | done | with_reducible rfl)
  simp only [Act.put]
  refine wpZ_take (i := 3) (v := ?_) rfl (by kernel_rfl) (fun _ _ _ h => h) (Or.inl ⟨by rfl, ?_⟩) hS ?_
  rotate_left
  · (intro w hSw; obtain ⟨-, s0, s1, s2, s3⟩ := hSw; go_simp; first | done | with_reducible rfl)
  simp only [Act.put]
  refine wpZ_takeP (i := 5) (v := ?_) rfl (by kernel_rfl) (fun _ _ _ h => h) (Or.inl ⟨by rfl, ?_⟩) hS ?_
  rotate_left
  · (intro w _; go_simp; first | done | with_reducible rfl)
  simp only [Act.put]
  refine wpZ_take (i := 6) (v := ?_) rfl (by kernel_rfl) (fun _ _ _ h => h) (Or.inl ⟨by rfl, ?_⟩) hS ?_
  rotate_left
  · (intro w hSw; obtain ⟨-, s0, s1, s2, s3⟩ := hSw; go_simp; first | done | with_reducible rfl)
  simp only [Act.put]
  refine wpZ_takeP (i := 7) (v := ?_) rfl (by kernel_rfl) (fun _ _ _ h => h) (Or.inl ⟨by rfl, ?_⟩) hS ?_
  rotate_left
  · (intro w _; go_simp; first | done | with_reducible rfl)
  simp only [Act.put]
  refine wpZ_take (i := 8) (v := ?_) rfl (by kernel_rfl) (fun _ _ _ h => h) (Or.inl ⟨by rfl, ?_⟩) hS ?_
  rotate_left
  · (intro w hSw; obtain ⟨-, s0, s1, s2, s3⟩ := hSw; go_simp; first | done | with_reducible rfl)
  simp only [Act.put]
  refine wpZ_ready (rs := [4]) (by kernel_rfl) (by simp) ?_
  refine AllZ.cons rfl (fun K hK => ?_) AllZ.nil
  go_simp
  refine (compare_any _ _ _).mono ?_
  rintro e X2 ⟨rfl, rfl⟩
  refine hK.out _ _ (fun _ => hS) ?_
  clear hK K
  refine wpZ_ready (rs := [9]) (by kernel_rfl) (by simp) ?_
  refine AllZ.cons rfl (fun K hK => ?_) AllZ.nil
  go_simp
  refine (compare_any _ _ _).mono ?_
  rintro e X2 ⟨rfl, rfl⟩
  refine hK.out _ _ (fun _ => hS) ?_
  clear hK K
  generalize cmpI s.stamp t.stamp = c1 at *
  generalize cmpI s.id t.id = c2 at *
  refine wpZ_ready (rs := [10]) (by kernel_rfl) (by simp) ?_
  refine AllZ.cons rfl (fun K hK => ?_) AllZ.nil
  go_simp
  have hA : ∀ o, Below U.heap.size U (X2.alloc o) ∧ (X2.alloc o).cell? ⟨w.heap.size, 6, none⟩ = some (.int .i64 s.stamp) ∧ (X2.alloc o).cell? ⟨w.heap.size, 0, none⟩ = some (.int .i64 s.id) ∧ (X2.alloc o).cell? ⟨w.heap.size + 1, 6, none⟩ = some (.int .i64 t.stamp) ∧ (X2.alloc o).cell? ⟨w.heap.size + 1, 0, none⟩ = some (.int .i64 t.id) := fun o => by
    have h1 := hS.1.size
    have h2 := BU.out.2
    have b : Below X2.heap.size X2 (X2.alloc o) := (Below.refl _ _).alloc (Nat.le_refl _) o
    have hc : ∀ q j, q < X2.heap.size → (X2.alloc o).cell? ⟨q, j, none⟩ = X2.cell? ⟨q, j, none⟩ := fun q j hq => b.cell (p := ⟨q, j, none⟩) hq
    exact ⟨hS.1.alloc h1 o, (hc _ _ (by omega)).trans hS.2.1, (hc _ _ (by omega)).trans hS.2.2.1, (hc _ _ (by omega)).trans hS.2.2.2.1, (hc _ _ (by omega)).trans hS.2.2.2.2⟩
  refine hK.out _ _ (fun _ => hA _) ?_
  clear hK K
  refine wpZ_ready (rs := [11]) (by kernel_rfl) (by simp) ?_
  refine AllZ.cons rfl (fun K hK => ?_) AllZ.nil
  go_simp
  refine (cmpOr_any _ _ c1 c2 (by go_simp) (by go_simp)).mono ?_
  rintro e X3 ⟨rfl, rfl⟩
  refine hK.out _ _ (fun _ => hA _) ?_
  clear hK K
  refine wpZ_ready (rs := [12]) (by kernel_rfl) (by simp) ?_
  refine AllZ.cons rfl (fun K hK => ?_) AllZ.nil
  go_simp
  refine hK.out _ _ (fun _ => hA _) ?_
  clear hK K
  refine wpZ_done (by kernel_rfl) ?_ _
  rw [← KS.out]
  have HE : Hid (∀ o, Below w.heap.size w (X2.alloc o)) := fun o => bstep BU.out.1 (hA o).1
  clear hA hS KS
  go_wp2
  go_ret
  exact ⟨rfl, HE.out _⟩
set_option maxHeartbeats 2000000 in
theorem cloneX_any (w : World) (b c : Nat) (xs : List (tx.TV × tx.T7)) (hn : xs.length ≤ 60) (hb : b < w.heap.size) (hx : AtX w b 0 xs) (hne : xs ≠ []) :
    Calls Tryz.prog 124 #[.slice (some ⟨b, 0, none⟩) xs.length c] w fun e w' => ∃ q cp, e = .returned (.slice (some ⟨q, 0, none⟩) xs.length cp) ∧ RwX w' w.heap.size q xs ∧ Below w.heap.size w w' := by
  have bA : Below w.heap.size w (w.alloc (.cells #[] 55)) := (Below.refl _ _).alloc (Nat.le_refl _) _
  obtain ⟨p1, e1, Z1, run1, row1, gr1⟩ := pushXs (RowX.made w) xs (by simp; omega) 32 (some ⟨b, 0, none⟩) c (.inr ⟨b, 0, rfl, hx.below bA hb⟩) bA.size
  rw [List.nil_append] at run1 row1
  obtain ⟨q, rfl⟩ : ∃ q, p1 = some ⟨q, 0, none⟩ := by
    obtain ⟨a9, c9, e9, _, h9⟩ := row1.form
    cases e9
    rcases h9 with h9 | ⟨q, e9, _⟩
    · exact absurd h9 hne
    · exact ⟨q, e9⟩
  have HK : Hid (RwX Z1 w.heap.size q xs ∧ Below w.heap.size w Z1) := ⟨row1.rw, bA.grown gr1 bA.size (fun z e => by cases e; exact Nat.le_refl _)⟩
  have heq : (binOp .eql 32 (.slice (some ⟨b, 0, none⟩) xs.length c) (.slice none 0 0)).run Tryz.prog w = .ok (.bool false) w := Go.Lib.run_eql_slice_nil w 32 55 (some ⟨b, 0, none⟩) xs.length c 0 0 Tryz.underlying32
  clear row1 gr1 bA hx hne
  go_enter Tryz.func124, Tryz.ntmps124
  go_wp2_with (at_builtin; refine append_known _ rfl (.tmp 5) (.tmp 6) 32 rfl _ _ _ _ rfl rfl run1 ?_)
  go_ret
  exact ⟨q, e1, rfl, HK.out.1, HK.out.2⟩
theorem cloneN_any (w : World) : Calls Tryz.prog 124 #[.slice none 0 0] w fun e w' => e = .returned (.slice none 0 0) ∧ w' = w := by
  have heq : (binOp .eql 32 (.slice none 0 0) (.slice none 0 0)).run Tryz.prog w = .ok (.bool true) w := Go.Lib.run_eql_slice_nil w 32 55 none 0 0 0 0 Tryz.underlying32
  go_enter Tryz.func124, Tryz.ntmps124
  go_wp2
  go_ret
  exact ⟨rfl, rfl⟩
def rowJ (k : C6) (tv : Nat → tx.TV) (l : List Nat) : List (tx.TV × tx.T7) := l.map fun j => (tv j, atT k.txs j)
theorem rowJ_len (k : C6) (tv : Nat → tx.TV) (l : List Nat) : (rowJ k tv l).length = l.length := by simp [rowJ]
theorem rowJ_at {k : C6} {tv : Nat → tx.TV} {l : List Nat} {i j : Nat} (h : l[i]? = some j) : (rowJ k tv l)[i]? = some (tv j, atT k.txs j) := by rw [rowJ, List.getElem?_map, h]; rfl
theorem rowJ_set (k : C6) (tv : Nat → tx.TV) (l : List Nat) (i j : Nat) : (rowJ k tv l).set i (tv j, atT k.txs j) = rowJ k tv (l.set i j) := by rw [rowJ, rowJ, List.map_set]
set_option maxRecDepth 10000 in
set_option maxHeartbeats 2000000 in
theorem sortedN_any (w : World) : Calls Tryz.prog 70 #[.slice none 0 0, .func (.func 71) #[] #[]] w fun e w' => e = .returned (.slice none 0 0) ∧ w' = w := by
  go_enter Tryz.func70, Tryz.ntmps70
  go_wp2_with fail
  refine (cloneN_any w).mono ?_
  rintro e w1 ⟨rfl, rfl⟩
  go_wp2
  go_loopw [12] (fun v wr => v = .int .i64 0 ∧ wr = w1) (fun _ _ => 0)
  case atStart => exact ⟨rfl, rfl⟩
  case round =>
    obtain ⟨rfl, rfl⟩ := hrel
    go_wp2
    go_ret
    exact ⟨rfl, rfl⟩
def SrtR (w : World) (xs : List (tx.TV × tx.T7)) (e : Ending) (w' : World) : Prop := ∃ q c, e = .returned (.slice (some ⟨q, 0, none⟩) xs.length c) ∧ RwX w' w.heap.size q xs ∧ Below w.heap.size w w'
set_option maxRecDepth 100000 in
set_option maxHeartbeats 16000000 in
theorem sortedBy_any (w : World) (b c : Nat) (k : C6) (tv : Nat → tx.TV) (l : List Nat) (hk : clusterB k = true) (hl : l = tolJ k k.txs.length) (hb : b < w.heap.size) (hx : AtX w b 0 (rowJ k tv l)) (hne : l ≠ []) :
    Calls Tryz.prog 70 #[.slice (some ⟨b, 0, none⟩) l.length c, .func (.func 71) #[] #[]] w (SrtR w (rowJ k tv (ordJ k k.txs.length))) := by
  have hn : l.length ≤ 60 := by rw [hl]; exact Nat.le_trans (tolJ_len k _) (CSm.of hk).t
  have hc := cloneX_any w b c (rowJ k tv l) (by rw [rowJ_len]; exact hn) hb hx (fun e => hne (by simpa [rowJ] using e))
  rw [rowJ_len] at hc
  have HK : Hid (clusterB k = true ∧ l = tolJ k k.txs.length) := ⟨hk, hl⟩
  clear hb hx hne hk hl
  go_enter Tryz.func70, Tryz.ntmps70
  go_wp2_with fail
  refine hc.mono ?_
  clear hc
  rintro e W1 ⟨q, cp, rfl, hrw, b1⟩
  have H1 : Hid (RwX W1 w.heap.size q (rowJ k tv l) ∧ Below w.heap.size w W1) := ⟨hrw, b1⟩
  clear hrw b1
  obtain ⟨n, hnn⟩ : ∃ n, n = l.length := ⟨_, rfl⟩
  rw [← hnn] at hn
  rw [← hnn]
  have HN : Hid (n = l.length) := hnn
  clear hnn
  go_wp2
  go_loopw [12] (fun v wr => ∃ e : Nat, e ≤ n ∧ v = .int .i64 e ∧ RwX wr w.heap.size q (rowJ k tv (bakJ k l e)) ∧ Below w.heap.size w wr) (fun v _ => n - (intOf v).toNat)
  case atStart => exact ⟨0, Nat.zero_le _, rfl, by rw [show bakJ k l 0 = l from rfl]; exact H1.out.1, H1.out.2⟩
  case round =>
    obtain ⟨e, he, rfl, hrw, hbl⟩ := hrel
    by_cases hlt : e < n
    · obtain ⟨f, hf⟩ : ∃ f : Nat → Bool, f = fun q => decide (stpJ k (l[e]?.getD 0) < stpJ k ((srtJ k l e)[q]?.getD 0)) := ⟨_, rfl⟩
      have HF := hidOf hf
      clear hf
      have K0 : Hid (RwX wr w.heap.size q (rowJ k tv (curJ k l e e)) ∧ Below w.heap.size w wr) := ⟨by rw [curJ_start k (by rw [← HN.out]; exact hlt)]; exact hrw, hbl⟩
      clear hrw hbl
      generalize wr = W2 at *
      go_wp2
      go_loopw [7] (fun v wr => ∃ a : Nat, a ≤ e ∧ v = .int .i64 a ∧ RwX wr w.heap.size q (rowJ k tv (curJ k l e a)) ∧ Below w.heap.size w wr ∧ cutK f e = cutK f a) (fun v _ => (intOf v).toNat)
      case atStart => exact ⟨e, Nat.le_refl _, rfl, K0.out.1, K0.out.2, rfl⟩
      case round =>
        obtain ⟨a, ha, rfl, hrw, hbl, hct⟩ := hrel
        have KQ : Hid (RwX wr w.heap.size q (rowJ k tv (curJ k l e a)) ∧ Below w.heap.size w wr ∧ cutK f e = cutK f a) := ⟨hrw, hbl, hct⟩
        clear hrw hbl hct
        rcases a with _ | p
        · have KE : Hid (RwX wr w.heap.size q (rowJ k tv (bakJ k l (e + 1))) ∧ Below w.heap.size w wr) := ⟨by rw [← curJ_end k (a := 0) (by rw [← HF.out, KQ.out.2.2]; rfl)]; exact KQ.out.1, KQ.out.2.1⟩
          have d0 : decide ((0 : Int) < ((0 : Nat) : Int)) = false := by simp
          go_wp2_with fail
          go_quiet (fail)
          go_wp2
          exact ⟨⟨e + 1, by omega, by simp, KE.out.1, below_dn KE.out.2 _⟩, by simp [intOf]; omega⟩
        · obtain ⟨xi, hxi⟩ : ∃ z, z = l[e]?.getD 0 := ⟨_, rfl⟩
          obtain ⟨yi, hyi⟩ : ∃ z, z = (srtJ k l e)[p]?.getD 0 := ⟨_, rfl⟩
          have hX := rowJ_at (k := k) (tv := tv) (curJ_at k (l := l) ha)
          have hY := rowJ_at (k := k) (tv := tv) (curJ_low k (l := l) ha)
          rw [← hxi] at hX
          rw [← hyi] at hY
          have hless : (atT k.txs yi).id < (atT k.txs xi).id := by
            rw [hxi, hyi]
            have := HK.out.2
            subst this
            exact met_less HK.out.1 (Nat.le_refl _) (by rw [← HN.out]; exact hlt) (by omega)
          have hsc := stmC_less hless
          have hfp : f p = decide ((atT k.txs xi).stamp < (atT k.txs yi).stamp) := by rw [HF.out, hxi, hyi]; rfl
          rw [← hfp] at hsc
          have cA : ∀ d os, Calls Tryz.prog 71 #[.agg #[.int .i64 ((atT k.txs xi)).id, .int .i64 ((atT k.txs xi)).home, .int .i64 ((atT k.txs xi)).phase, .int .i64 ((atT k.txs xi)).count, .slice ((tv xi)).ar ((atT k.txs xi)).reads.length ((tv xi)).cr, .slice ((tv xi)).ah ((atT k.txs xi)).sets.length ((tv xi)).ch, .int .i64 ((atT k.txs xi)).stamp], .agg #[.int .i64 ((atT k.txs yi)).id, .int .i64 ((atT k.txs yi)).home, .int .i64 ((atT k.txs yi)).phase, .int .i64 ((atT k.txs yi)).count, .slice ((tv yi)).ar ((atT k.txs yi)).reads.length ((tv yi)).cr, .slice ((tv yi)).ah ((atT k.txs yi)).sets.length ((tv yi)).ch, .int .i64 ((atT k.txs yi)).stamp]] (grow (redrawn wr d) os) fun e w'' => e = .returned (.int .i64 (stmC (atT k.txs xi) (atT k.txs yi))) ∧ ∃ p : Regrown, w'' = grow (redrawn wr p.d) p.os := fun d os => Calls.regrown_of (byStamp_any _ (tv xi) (tv yi) _ _)
          have x0 : wr.cell? ⟨q, (p + 1) * 7, none⟩ = some (.int .i64 ((atT k.txs xi)).id) := by have := KQ.out.1.1 (p + 1) _ hX 0 _ rfl; rwa [Nat.zero_add] at this
          have x1 : wr.cell? ⟨q, (p + 1) * 7 + 1, none⟩ = some (.int .i64 ((atT k.txs xi)).home) := by have := KQ.out.1.1 (p + 1) _ hX 1 _ rfl; rwa [Nat.zero_add] at this
          have x2 : wr.cell? ⟨q, (p + 1) * 7 + 2, none⟩ = some (.int .i64 ((atT k.txs xi)).phase) := by have := KQ.out.1.1 (p + 1) _ hX 2 _ rfl; rwa [Nat.zero_add] at this
          have x3 : wr.cell? ⟨q, (p + 1) * 7 + 3, none⟩ = some (.int .i64 ((atT k.txs xi)).count) := by have := KQ.out.1.1 (p + 1) _ hX 3 _ rfl; rwa [Nat.zero_add] at this
          have x4 : wr.cell? ⟨q, (p + 1) * 7 + 4, none⟩ = some (.slice ((tv xi)).ar ((atT k.txs xi)).reads.length ((tv xi)).cr) := by have := KQ.out.1.1 (p + 1) _ hX 4 _ rfl; rwa [Nat.zero_add] at this
          have x5 : wr.cell? ⟨q, (p + 1) * 7 + 5, none⟩ = some (.slice ((tv xi)).ah ((atT k.txs xi)).sets.length ((tv xi)).ch) := by have := KQ.out.1.1 (p + 1) _ hX 5 _ rfl; rwa [Nat.zero_add] at this
          have x6 : wr.cell? ⟨q, (p + 1) * 7 + 6, none⟩ = some (.int .i64 ((atT k.txs xi)).stamp) := by have := KQ.out.1.1 (p + 1) _ hX 6 _ rfl; rwa [Nat.zero_add] at this
          have y0 : wr.cell? ⟨q, p * 7, none⟩ = some (.int .i64 ((atT k.txs yi)).id) := by have := KQ.out.1.1 p _ hY 0 _ rfl; rwa [Nat.zero_add] at this
          have y1 : wr.cell? ⟨q, p * 7 + 1, none⟩ = some (.int .i64 ((atT k.txs yi)).home) := by have := KQ.out.1.1 p _ hY 1 _ rfl; rwa [Nat.zero_add] at this
          have y2 : wr.cell? ⟨q, p * 7 + 2, none⟩ = some (.int .i64 ((atT k.txs yi)).phase) := by have := KQ.out.1.1 p _ hY 2 _ rfl; rwa [Nat.zero_add] at this
          have y3 : wr.cell? ⟨q, p * 7 + 3, none⟩ = some (.int .i64 ((atT k.txs yi)).count) := by have := KQ.out.1.1 p _ hY 3 _ rfl; rwa [Nat.zero_add] at this
          have y4 : wr.cell? ⟨q, p * 7 + 4, none⟩ = some (.slice ((tv yi)).ar ((atT k.txs yi)).reads.length ((tv yi)).cr) := by have := KQ.out.1.1 p _ hY 4 _ rfl; rwa [Nat.zero_add] at this
          have y5 : wr.cell? ⟨q, p * 7 + 5, none⟩ = some (.slice ((tv yi)).ah ((atT k.txs yi)).sets.length ((tv yi)).ch) := by have := KQ.out.1.1 p _ hY 5 _ rfl; rwa [Nat.zero_add] at this
          have y6 : wr.cell? ⟨q, p * 7 + 6, none⟩ = some (.int .i64 ((atT k.txs yi)).stamp) := by have := KQ.out.1.1 p _ hY 6 _ rfl; rwa [Nat.zero_add] at this
          have HXY : Hid (xi = l[e]?.getD 0 ∧ yi = (srtJ k l e)[p]?.getD 0) := ⟨hxi, hyi⟩
          have d0 : decide ((0 : Int) < ((p + 1 : Nat) : Int)) = true := by simp
          have pn : (p : Int) < (n : Int) := by omega
          have pn1 : (p : Int) + 1 < (n : Int) := by omega
          have lift : ∀ {o : Nat} {u : Value}, wr.cell? ⟨q, o, none⟩ = some u → ∀ d os, (grow (redrawn wr d) os).cell? ⟨q, o, none⟩ = some u := fun {o u} hh d os => ((below_regrown wr d os).cell (p := ⟨q, o, none⟩) KQ.out.1.2.2.2).trans hh
          replace x0 := lift x0
          replace x1 := lift x1
          replace x2 := lift x2
          replace x3 := lift x3
          replace x4 := lift x4
          replace x5 := lift x5
          replace x6 := lift x6
          replace y0 := lift y0
          replace y1 := lift y1
          replace y2 := lift y2
          replace y3 := lift y3
          replace y4 := lift y4
          replace y5 := lift y5
          replace y6 := lift y6
          clear lift
          clear hX hY hless hfp hxi hyi
          generalize stmC (atT k.txs xi) (atT k.txs yi) = sc at *
          cases hfb : f p with
          | false =>
            rw [hfb] at hsc
            have KE : Hid (RwX wr w.heap.size q (rowJ k tv (bakJ k l (e + 1))) ∧ Below w.heap.size w wr) := ⟨by rw [← curJ_end k (a := p + 1) (by rw [← HF.out, KQ.out.2.2, cutK, if_neg (by rw [hfb]; decide)])]; exact KQ.out.1, KQ.out.2.1⟩
            clear hfb
            generalize (atT k.txs xi).id = a0 at *
            generalize (atT k.txs xi).home = a1 at *
            generalize (atT k.txs xi).phase = a2 at *
            generalize (atT k.txs xi).count = a3 at *
            generalize (tv xi).ar = a4 at *
            generalize (atT k.txs xi).reads.length = a4l at *
            generalize (tv xi).cr = a4c at *
            generalize (tv xi).ah = a5 at *
            generalize (atT k.txs xi).sets.length = a5l at *
            generalize (tv xi).ch = a5c at *
            generalize (atT k.txs xi).stamp = a6 at *
            generalize (atT k.txs yi).id = e0 at *
            generalize (atT k.txs yi).home = e1 at *
            generalize (atT k.txs yi).phase = e2 at *
            generalize (atT k.txs yi).count = e3 at *
            generalize (tv yi).ar = e4 at *
            generalize (atT k.txs yi).reads.length = e4l at *
            generalize (tv yi).cr = e4c at *
            generalize (tv yi).ah = e5 at *
            generalize (atT k.txs yi).sets.length = e5l at *
            generalize (tv yi).ch = e5c at *
            generalize (atT k.txs yi).stamp = e6 at *
            go_wp2_with fail
            refine wp_region_quiet_below (by kernel_rfl) (by kernel_rfl) ?_
            repeat (go_big_quiet_step (first | (go_at_call 71; exact cA _ _)))
            refine wpQuiet_nil ?_
            intro _ hw'
            obtain ⟨⟨dq', osq⟩, hw''⟩ := hw'
            subst hw''
            have BQ : Hid (Below wr.heap.size wr (grow (redrawn wr dq') osq)) := below_regrown wr dq' osq
            clear cA
            go_wp2
            exact ⟨⟨e + 1, by omega, by simp, KE.out.1.later BQ.out, bstep KE.out.2 BQ.out⟩, by simp [intOf]; omega⟩
          | true =>
            rw [hfb] at hsc
            have HFB : Hid (cutK f e = cutK f p) := by unfold Hid; rw [KQ.out.2.2, cutK, if_pos hfb]
            clear hfb
            go_wp2_with fail
            refine wp_region_quiet_below (by kernel_rfl) (by kernel_rfl) ?_
            repeat (go_big_quiet_step (first | (go_at_call 71; exact cA _ _)))
            refine wpQuiet_nil ?_
            intro _ hw'
            obtain ⟨⟨dq', osq⟩, hw''⟩ := hw'
            subst hw''
            have BQ : Hid (Below wr.heap.size wr (grow (redrawn wr dq') osq)) := below_regrown wr dq' osq
            clear cA
            generalize grow (redrawn wr dq') osq = V at *
            clear x0 x1 x2 x3 x4 x5 x6 y0 y1 y2 y3 y4 y5 y6
            have hR := KQ.out.1.later BQ.out
            have hX := rowJ_at (k := k) (tv := tv) (curJ_at k (l := l) ha)
            have hY := rowJ_at (k := k) (tv := tv) (curJ_low k (l := l) ha)
            rw [← HXY.out.1] at hX
            rw [← HXY.out.2] at hY
            have hlen : (rowJ k tv (curJ k l e (p + 1))).length = n := by rw [rowJ_len, curJ_len k (by rw [← HN.out]; exact hlt) ha, HN.out]
            have rd : Room V.drew q (n * 7) := by have := hR.2.1; rw [hlen] at this; exact this
            have hS : (fun Z : World => Z.cell? ⟨q, (p + 1) * 7, none⟩ = some (.int .i64 ((atT k.txs xi)).id) ∧ Z.cell? ⟨q, (p + 1) * 7 + 1, none⟩ = some (.int .i64 ((atT k.txs xi)).home) ∧ Z.cell? ⟨q, (p + 1) * 7 + 2, none⟩ = some (.int .i64 ((atT k.txs xi)).phase) ∧ Z.cell? ⟨q, (p + 1) * 7 + 3, none⟩ = some (.int .i64 ((atT k.txs xi)).count) ∧ Z.cell? ⟨q, (p + 1) * 7 + 4, none⟩ = some (.slice ((tv xi)).ar ((atT k.txs xi)).reads.length ((tv xi)).cr) ∧ Z.cell? ⟨q, (p + 1) * 7 + 5, none⟩ = some (.slice ((tv xi)).ah ((atT k.txs xi)).sets.length ((tv xi)).ch) ∧ Z.cell? ⟨q, (p + 1) * 7 + 6, none⟩ = some (.int .i64 ((atT k.txs xi)).stamp) ∧ Z.cell? ⟨q, p * 7, none⟩ = some (.int .i64 ((atT k.txs yi)).id) ∧ Z.cell? ⟨q, p * 7 + 1, none⟩ = some (.int .i64 ((atT k.txs yi)).home) ∧ Z.cell? ⟨q, p * 7 + 2, none⟩ = some (.int .i64 ((atT k.txs yi)).phase) ∧ Z.cell? ⟨q, p * 7 + 3, none⟩ = some (.int .i64 ((atT k.txs yi)).count) ∧ Z.cell? ⟨q, p * 7 + 4, none⟩ = some (.slice ((tv yi)).ar ((atT k.txs yi)).reads.length ((tv yi)).cr) ∧ Z.cell? ⟨q, p * 7 + 5, none⟩ = some (.slice ((tv yi)).ah ((atT k.txs yi)).sets.length ((tv yi)).ch) ∧ Z.cell? ⟨q, p * 7 + 6, none⟩ = some (.int .i64 ((atT k.txs yi)).stamp)) V.drew := ⟨by have := hR.1 (p + 1) _ hX 0 _ rfl; rw [Nat.zero_add] at this; exact this, by have := hR.1 (p + 1) _ hX 1 _ rfl; rw [Nat.zero_add] at this; exact this, by have := hR.1 (p + 1) _ hX 2 _ rfl; rw [Nat.zero_add] at this; exact this, by have := hR.1 (p + 1) _ hX 3 _ rfl; rw [Nat.zero_add] at this; exact this, by have := hR.1 (p + 1) _ hX 4 _ rfl; rw [Nat.zero_add] at this; exact this, by have := hR.1 (p + 1) _ hX 5 _ rfl; rw [Nat.zero_add] at this; exact this, by have := hR.1 (p + 1) _ hX 6 _ rfl; rw [Nat.zero_add] at this; exact this, by have := hR.1 p _ hY 0 _ rfl; rw [Nat.zero_add] at this; exact this, by have := hR.1 p _ hY 1 _ rfl; rw [Nat.zero_add] at this; exact this, by have := hR.1 p _ hY 2 _ rfl; rw [Nat.zero_add] at this; exact this, by have := hR.1 p _ hY 3 _ rfl; rw [Nat.zero_add] at this; exact this, by have := hR.1 p _ hY 4 _ rfl; rw [Nat.zero_add] at this; exact this, by have := hR.1 p _ hY 5 _ rfl; rw [Nat.zero_add] at this; exact this, by have := hR.1 p _ hY 6 _ rfl; rw [Nat.zero_add] at this; exact this⟩
            have HP : Hid (RwX V.drew w.heap.size q (rowJ k tv (curJ k l e (p + 1))) ∧ Below w.heap.size w V.drew) := ⟨hR.later ((Below.refl _ _).drew), (bstep KQ.out.2.1 BQ.out).drew⟩
            have HL := hidOf hlen
            have HY := hidOf hY
            clear hR hX hY hlen
            have hwp : IntKind.i64.wrap (p : Int) = (p : Int) := by rw [IntKind.wrap_i64]; omega
            go_wp2_with fail
            refine wp_region_z (fun z => z == 15 || z == 17) (fun Z : World => Z.cell? ⟨q, (p + 1) * 7, none⟩ = some (.int .i64 ((atT k.txs xi)).id) ∧ Z.cell? ⟨q, (p + 1) * 7 + 1, none⟩ = some (.int .i64 ((atT k.txs xi)).home) ∧ Z.cell? ⟨q, (p + 1) * 7 + 2, none⟩ = some (.int .i64 ((atT k.txs xi)).phase) ∧ Z.cell? ⟨q, (p + 1) * 7 + 3, none⟩ = some (.int .i64 ((atT k.txs xi)).count) ∧ Z.cell? ⟨q, (p + 1) * 7 + 4, none⟩ = some (.slice ((tv xi)).ar ((atT k.txs xi)).reads.length ((tv xi)).cr) ∧ Z.cell? ⟨q, (p + 1) * 7 + 5, none⟩ = some (.slice ((tv xi)).ah ((atT k.txs xi)).sets.length ((tv xi)).ch) ∧ Z.cell? ⟨q, (p + 1) * 7 + 6, none⟩ = some (.int .i64 ((atT k.txs xi)).stamp) ∧ Z.cell? ⟨q, p * 7, none⟩ = some (.int .i64 ((atT k.txs yi)).id) ∧ Z.cell? ⟨q, p * 7 + 1, none⟩ = some (.int .i64 ((atT k.txs yi)).home) ∧ Z.cell? ⟨q, p * 7 + 2, none⟩ = some (.int .i64 ((atT k.txs yi)).phase) ∧ Z.cell? ⟨q, p * 7 + 3, none⟩ = some (.int .i64 ((atT k.txs yi)).count) ∧ Z.cell? ⟨q, p * 7 + 4, none⟩ = some (.slice ((tv yi)).ar ((atT k.txs yi)).reads.length ((tv yi)).cr) ∧ Z.cell? ⟨q, p * 7 + 5, none⟩ = some (.slice ((tv yi)).ah ((atT k.txs yi)).sets.length ((tv yi)).ch) ∧ Z.cell? ⟨q, p * 7 + 6, none⟩ = some (.int .i64 ((atT k.txs yi)).stamp)) (by kernel_rfl) ?_
            generalize V.drew = Wd at *
            refine wpZ_takeP (i := 0) (v := ?_) rfl (by kernel_rfl) (fun _ _ _ h => h) (Or.inl ⟨by rfl, ?_⟩) hS ?_
            rotate_left
            · (intro w _; go_simp; first | done | with_reducible rfl | (rw [if_pos (by omega)]) | (rw [if_pos (by omega)]; go_simp))
            simp only [Act.put]
            refine wpZ_takeP (i := 1) (v := ?_) rfl (by kernel_rfl) (fun _ _ _ h => h) (Or.inl ⟨by rfl, ?_⟩) hS ?_
            rotate_left
            · (intro w _; go_simp; first | done | with_reducible rfl | (rw [if_pos (by omega)]) | (rw [if_pos (by omega)]; go_simp))
            simp only [Act.put]
            refine wpZ_takeP (i := 2) (v := ?_) rfl (by kernel_rfl) (fun _ _ _ h => h) (Or.inl ⟨by rfl, ?_⟩) hS ?_
            rotate_left
            · (intro w _; go_simp; first | done | with_reducible rfl | (rw [if_pos (by omega)]) | (rw [if_pos (by omega)]; go_simp))
            simp only [Act.put]
            refine wpZ_takeP (i := 3) (v := ?_) rfl (by kernel_rfl) (fun _ _ _ h => h) (Or.inl ⟨by rfl, ?_⟩) hS ?_
            rotate_left
            · (intro w _; go_simp; first | done | with_reducible rfl | (rw [if_pos (by omega)]) | (rw [if_pos (by omega)]; go_simp))
            simp only [Act.put]
            refine wpZ_takeP (i := 4) (v := ?_) rfl (by kernel_rfl) (fun _ _ _ h => h) (Or.inl ⟨by rfl, ?_⟩) hS ?_
            rotate_left
            · (intro w _; go_simp; first | done | with_reducible rfl | (rw [if_pos (by omega)]) | (rw [if_pos (by omega)]; go_simp))
            simp only [Act.put]
            refine wpZ_takeP (i := 5) (v := ?_) rfl (by kernel_rfl) (fun _ _ _ h => h) (Or.inl ⟨by rfl, ?_⟩) hS ?_
            rotate_left
            · (intro w _; go_simp; first | done | with_reducible rfl | (rw [if_pos (by omega)]) | (rw [if_pos (by omega)]; go_simp))
            simp only [Act.put]
            refine wpZ_takeP (i := 6) (v := ?_) rfl (by kernel_rfl) (fun _ _ _ h => h) (Or.inl ⟨by rfl, ?_⟩) hS ?_
            rotate_left
            · (intro w _; go_simp; first | done | with_reducible rfl | (rw [if_pos (by omega)]) | (rw [if_pos (by omega)]; go_simp))
            simp only [Act.put]
            refine wpZ_takeP (i := 7) (v := ?_) rfl (by kernel_rfl) (fun _ _ _ h => h) (Or.inl ⟨by rfl, ?_⟩) hS ?_
            rotate_left
            · (intro w _; go_simp; first | done | with_reducible rfl | (rw [if_pos (by omega)]) | (rw [if_pos (by omega)]; go_simp))
            simp only [Act.put]
            refine wpZ_takeP (i := 8) (v := ?_) rfl (by kernel_rfl) (fun _ _ _ h => h) (Or.inl ⟨by rfl, ?_⟩) hS ?_
            rotate_left
            · (intro w _; go_simp; first | done | with_reducible rfl | (rw [if_pos (by omega)]) | (rw [if_pos (by omega)]; go_simp))
            simp only [Act.put]
            refine wpZ_take (i := 9) (v := .agg #[.int .i64 ((atT k.txs yi)).id, .int .i64 ((atT k.txs yi)).home, .int .i64 ((atT k.txs yi)).phase, .int .i64 ((atT k.txs yi)).count, .slice ((tv yi)).ar ((atT k.txs yi)).reads.length ((tv yi)).cr, .slice ((tv yi)).ah ((atT k.txs yi)).sets.length ((tv yi)).ch, .int .i64 ((atT k.txs yi)).stamp]) rfl (by kernel_rfl) (fun _ _ _ h => h) (Or.inl ⟨by rfl, ?_⟩) hS ?_
            · (intro w hSw; obtain ⟨-, -, -, -, -, -, -, s7, s8, s9, s10, s11, s12, s13⟩ := hSw; clear hS rd HP; go_simp)
            simp only [Act.put]
            refine wpZ_takeP (i := 10) (v := ?_) rfl (by kernel_rfl) (fun _ _ _ h => h) (Or.inl ⟨by rfl, ?_⟩) hS ?_
            rotate_left
            · (intro w _; go_simp; first | done | with_reducible rfl | (rw [if_pos (by omega)]) | (rw [if_pos (by omega)]; go_simp))
            simp only [Act.put]
            refine wpZ_takeP (i := 11) (v := ?_) rfl (by kernel_rfl) (fun _ _ _ h => h) (Or.inl ⟨by rfl, ?_⟩) hS ?_
            rotate_left
            · (intro w _; go_simp; first | done | with_reducible rfl | (rw [if_pos (by omega)]) | (rw [if_pos (by omega)]; go_simp))
            simp only [Act.put]
            refine wpZ_takeP (i := 12) (v := ?_) rfl (by kernel_rfl) (fun _ _ _ h => h) (Or.inl ⟨by rfl, ?_⟩) hS ?_
            rotate_left
            · (intro w _; go_simp; first | done | with_reducible rfl | (rw [if_pos (by omega)]) | (rw [if_pos (by omega)]; go_simp))
            simp only [Act.put]
            refine wpZ_take (i := 13) (v := .agg #[.int .i64 ((atT k.txs xi)).id, .int .i64 ((atT k.txs xi)).home, .int .i64 ((atT k.txs xi)).phase, .int .i64 ((atT k.txs xi)).count, .slice ((tv xi)).ar ((atT k.txs xi)).reads.length ((tv xi)).cr, .slice ((tv xi)).ah ((atT k.txs xi)).sets.length ((tv xi)).ch, .int .i64 ((atT k.txs xi)).stamp]) rfl (by kernel_rfl) (fun _ _ _ h => h) (Or.inl ⟨by rfl, ?_⟩) hS ?_
            · (intro w hSw; obtain ⟨s0, s1, s2, s3, s4, s5, s6, -, -, -, -, -, -, -⟩ := hSw; clear hS rd HP; go_simp)
            simp only [Act.put]
            refine wpZ_takeP (i := 14) (v := ?_) rfl (by kernel_rfl) (fun _ _ _ h => h) (Or.inl ⟨by rfl, ?_⟩) hS ?_
            rotate_left
            · (intro w _; go_simp; first | done | with_reducible rfl | (rw [if_pos (by omega)]) | (rw [if_pos (by omega)]; go_simp))
            simp only [Act.put]
            have c0 := hS.1
            have f0 := (rd ((p + 1) * 7) (by omega)).choose_spec.2
            have c1 := hS.2.1
            have f1 := (rd ((p + 1) * 7 + 1) (by omega)).choose_spec.2
            have c2 := hS.2.2.1
            have f2 := (rd ((p + 1) * 7 + 2) (by omega)).choose_spec.2
            have c3 := hS.2.2.2.1
            have f3 := (rd ((p + 1) * 7 + 3) (by omega)).choose_spec.2
            have c4 := hS.2.2.2.2.1
            have f4 := (rd ((p + 1) * 7 + 4) (by omega)).choose_spec.2
            have c5 := hS.2.2.2.2.2.1
            have f5 := (rd ((p + 1) * 7 + 5) (by omega)).choose_spec.2
            have c6 := hS.2.2.2.2.2.2.1
            have f6 := (rd ((p + 1) * 7 + 6) (by omega)).choose_spec.2
            refine wpZ_ready (rs := [15]) (by kernel_rfl) (by simp) ?_
            refine AllZ.cons rfl (fun K hK => ?_) AllZ.nil
            go_simp
            refine hK.out _ _ (fun h => absurd (show false = true from h.symm.trans (by kernel_rfl)) (by decide)) ?_
            clear hK K
            refine wpZ_ready (rs := [16]) (by kernel_rfl) (by simp) ?_
            refine AllZ.cons rfl (fun K hK => ?_) AllZ.nil
            go_simp
            refine hK.out _ _ (fun h => absurd (show false = true from h.symm.trans (by kernel_rfl)) (by decide)) ?_
            clear hK K
            obtain ⟨Wp, hWp⟩ : ∃ Y, Y = putB Wd q ((p + 1) * 7) (cellsT (tv yi, atT k.txs yi)) := ⟨_, rfl⟩
            have R1 := HP.out.1.put (i := p + 1) (by rw [HL.out]; omega) (tv yi, atT k.txs yi)
            rw [← hWp] at R1
            have rd1 : Room Wp q (n * 7) := by have := R1.2.1; rw [List.length_set, HL.out] at this; exact this
            have hWn : Wp = (((((((Wd.setCell ⟨q, (p + 1) * 7, none⟩ (.int .i64 ((atT k.txs yi)).id)).setCell ⟨q, (p + 1) * 7 + 1, none⟩ (.int .i64 ((atT k.txs yi)).home)).setCell ⟨q, (p + 1) * 7 + 2, none⟩ (.int .i64 ((atT k.txs yi)).phase)).setCell ⟨q, (p + 1) * 7 + 3, none⟩ (.int .i64 ((atT k.txs yi)).count)).setCell ⟨q, (p + 1) * 7 + 4, none⟩ (.slice ((tv yi)).ar ((atT k.txs yi)).reads.length ((tv yi)).cr)).setCell ⟨q, (p + 1) * 7 + 5, none⟩ (.slice ((tv yi)).ah ((atT k.txs yi)).sets.length ((tv yi)).ch)).setCell ⟨q, (p + 1) * 7 + 6, none⟩ (.int .i64 ((atT k.txs yi)).stamp)) := hWp
            rw [← hWn]
            have hYs : ((rowJ k tv (curJ k l e (p + 1))).set (p + 1) (tv yi, atT k.txs yi))[p]? = some (tv yi, atT k.txs yi) := by rw [List.getElem?_set_ne (by omega)]; exact HY.out
            have HWp := hidOf hWp
            clear hWn hWp c0 f0 c1 f1 c2 f2 c3 f3 c4 f4 c5 f5 c6 f6
            have g0 : Wp.cell? ⟨q, p * 7, none⟩ = some (.int .i64 ((atT k.txs yi)).id) := by have := R1.1 p _ hYs 0 _ rfl; rw [Nat.zero_add] at this; exact this
            have h0 := (rd1 (p * 7) (by omega)).choose_spec.2
            have g1 : Wp.cell? ⟨q, p * 7 + 1, none⟩ = some (.int .i64 ((atT k.txs yi)).home) := by have := R1.1 p _ hYs 1 _ rfl; rw [Nat.zero_add] at this; exact this
            have h1 := (rd1 (p * 7 + 1) (by omega)).choose_spec.2
            have g2 : Wp.cell? ⟨q, p * 7 + 2, none⟩ = some (.int .i64 ((atT k.txs yi)).phase) := by have := R1.1 p _ hYs 2 _ rfl; rw [Nat.zero_add] at this; exact this
            have h2 := (rd1 (p * 7 + 2) (by omega)).choose_spec.2
            have g3 : Wp.cell? ⟨q, p * 7 + 3, none⟩ = some (.int .i64 ((atT k.txs yi)).count) := by have := R1.1 p _ hYs 3 _ rfl; rw [Nat.zero_add] at this; exact this
            have h3 := (rd1 (p * 7 + 3) (by omega)).choose_spec.2
            have g4 : Wp.cell? ⟨q, p * 7 + 4, none⟩ = some (.slice ((tv yi)).ar ((atT k.txs yi)).reads.length ((tv yi)).cr) := by have := R1.1 p _ hYs 4 _ rfl; rw [Nat.zero_add] at this; exact this
            have h4 := (rd1 (p * 7 + 4) (by omega)).choose_spec.2
            have g5 : Wp.cell? ⟨q, p * 7 + 5, none⟩ = some (.slice ((tv yi)).ah ((atT k.txs yi)).sets.length ((tv yi)).ch) := by have := R1.1 p _ hYs 5 _ rfl; rw [Nat.zero_add] at this; exact this
            have h5 := (rd1 (p * 7 + 5) (by omega)).choose_spec.2
            have g6 : Wp.cell? ⟨q, p * 7 + 6, none⟩ = some (.int .i64 ((atT k.txs yi)).stamp) := by have := R1.1 p _ hYs 6 _ rfl; rw [Nat.zero_add] at this; exact this
            have h6 := (rd1 (p * 7 + 6) (by omega)).choose_spec.2
            refine wpZ_ready (rs := [17]) (by kernel_rfl) (by simp) ?_
            refine AllZ.cons rfl (fun K hK => ?_) AllZ.nil
            go_simp
            refine hK.out _ _ (fun h => absurd (show false = true from h.symm.trans (by kernel_rfl)) (by decide)) ?_
            clear hK K
            refine wpZ_done (by kernel_rfl) ?_ _
            obtain ⟨Wq, hWq⟩ : ∃ Y, Y = putB Wp q (p * 7) (cellsT (tv xi, atT k.txs xi)) := ⟨_, rfl⟩
            have R2 := R1.put (i := p) (by rw [List.length_set, HL.out]; omega) (tv xi, atT k.txs xi)
            rw [← hWq, rowJ_set, rowJ_set, HXY.out.1, HXY.out.2, curJ_swap k ha] at R2
            have KE : Hid (RwX Wq w.heap.size q (rowJ k tv (curJ k l e p)) ∧ Below w.heap.size w Wq) := ⟨R2, by rw [hWq, HWp.out]; exact putB_below R1.2.2.1 _ _ _ (putB_below R1.2.2.1 _ _ _ HP.out.2)⟩
            have hWn2 : Wq = (((((((Wp.setCell ⟨q, p * 7, none⟩ (.int .i64 ((atT k.txs xi)).id)).setCell ⟨q, p * 7 + 1, none⟩ (.int .i64 ((atT k.txs xi)).home)).setCell ⟨q, p * 7 + 2, none⟩ (.int .i64 ((atT k.txs xi)).phase)).setCell ⟨q, p * 7 + 3, none⟩ (.int .i64 ((atT k.txs xi)).count)).setCell ⟨q, p * 7 + 4, none⟩ (.slice ((tv xi)).ar ((atT k.txs xi)).reads.length ((tv xi)).cr)).setCell ⟨q, p * 7 + 5, none⟩ (.slice ((tv xi)).ah ((atT k.txs xi)).sets.length ((tv xi)).ch)).setCell ⟨q, p * 7 + 6, none⟩ (.int .i64 ((atT k.txs xi)).stamp)) := hWq
            rw [← hWn2]
            clear hWn2 hWq R1 R2 rd1 rd hS hYs g0 h0 g1 h1 g2 h2 g3 h3 g4 h4 g5 h5 g6 h6
            go_wp2
            exact ⟨⟨p, by omega, by simp, KE.out.1, KE.out.2, HFB.out⟩, by simp [intOf]⟩
    · obtain rfl : e = n := by omega
      have hd : decide ((e : Int) < (e : Int)) = false := by simp
      have KE : Hid (SrtR w (rowJ k tv (ordJ k k.txs.length)) (.returned (.slice (some ⟨q, 0, none⟩) e cp)) wr) := by
        have h1 : bakJ k l e = ordJ k k.txs.length := by rw [bakJ, HN.out, List.drop_length, List.append_nil, HK.out.2]; exact srt_ord k _
        rw [h1] at hrw
        refine ⟨q, cp, ?_, hrw, hbl⟩
        rw [rowJ_len, ← srt_ord k, srtJ_len, ← HK.out.2, HN.out]
      clear hrw hbl
      go_wp2
      go_ret
      exact KE.out
end Go.Proofs.YtdmpobegobfpjaaGreat