/- What Checks of the program answers. -/
import Derived.Test.YtijphfbcojfjpaaRows
import Derived.Test.YtijphfbcojfjpaaChkB
import Derived.WalkKit
import Derived.WalkSpells
import Derived.WalkLawsBesides
import Derived.Below
import Derived.Lib.QuietBelow
import Derived.BigQuiet
namespace Go.Proofs.Ytijphfbcojfjpaa
open Go.RowKit
open Go.Sort (grow)
set_option maxHeartbeats 4000000 in
theorem implChecks_any (w : World) (v : TV) (t : T7) (hl : TL t) (hs : SlT w v t) :
    Calls Try.prog 23 #[v.val t] w (CAns w (checksT t)) := by
  obtain ⟨ar, cr, ah, ch⟩ := v
  simp only [TV.val]
  obtain ⟨W, hW⟩ : ∃ W, W = w.alloc (.cells #[.int .i64 t.id, .int .i64 t.home, .int .i64 t.phase, .int .i64 t.count, .slice ar t.reads.length cr, .slice ah t.sets.length ch, .int .i64 t.stamp] 27) := ⟨_, rfl⟩
  have b0 : Below w.heap.size w W := by rw [hW]; exact (Below.refl _ _).alloc (Nat.le_refl _) _
  have x0 : BT W w.heap.size ⟨ar, cr, ah, ch⟩ t := by rw [hW]; exact BT.box w ⟨ar, cr, ah, ch⟩ t _
  have c1 := implTxOk_any W ⟨ar, cr, ah, ch⟩ t hl (hs.later b0)
  simp only [TV.val] at c1
  have H : Hid (SlT W ⟨ar, cr, ah, ch⟩ t ∧ BT W w.heap.size ⟨ar, cr, ah, ch⟩ t ∧ Below w.heap.size w W) := ⟨hs.later b0, x0, b0⟩
  clear hs b0 x0 hl
  cases hB : txB t with
  | false =>
    rw [hB] at c1
    have HN : Hid (checksT t = []) := by unfold Hid; simp [checksT, hB]
    go_enter Try.func23, Try.ntmps23
    go_wp2_with fail
    rw [← hW]
    clear hW
    refine c1.mono ?_
    clear c1
    rintro e w1 ⟨rfl, b1⟩
    have KB : Hid (Below w.heap.size w w1) := H.out.2.2.trans (b1.mono H.out.2.2.size)
    clear b1
    go_wp2
    go_ret
    rw [HN.out]
    exact CAns.none KB.out
  | true =>
    rw [hB] at c1
    have HN : Hid (checksT t = ofC t.sets t.reads) := by unfold Hid; simp [checksT, hB]
    obtain ⟨l12, l12'⟩ := txB_lens hB
    have HT : Hid ((∀ s ∈ t.reads, noteOkB s = true) ∧ (∀ s ∈ t.sets, setOkB s = true) ∧ seUp2 t.sets) := ⟨(txB_no hB).1, (txB_se hB).1, (txB_se hB).2⟩
    go_enter Try.func23, Try.ntmps23
    go_wp2_with fail
    rw [← hW]
    clear hW
    refine c1.mono ?_
    clear c1
    rintro e w1 ⟨rfl, b1⟩
    have p5 := (H.out.2.1.later b1).c5
    dsimp only at p5
    have c2 := sePileOf_any w1 ah ch t.sets (by omega) ((H.out.1.later b1).s) HT.out.2.1 HT.out.2.2
    have K1 : Hid (SlT w1 ⟨ar, cr, ah, ch⟩ t ∧ BT w1 w.heap.size ⟨ar, cr, ah, ch⟩ t ∧ Below w.heap.size w w1) := ⟨H.out.1.later b1, H.out.2.1.later b1, H.out.2.2.trans (b1.mono H.out.2.2.size)⟩
    clear b1 H
    go_wp2_with fail
    refine c2.mono ?_
    clear c2 p5
    rintro e w2 ⟨pp, mb, n, pv, rfl, hp, hn, b2⟩
    have p4 := (K1.out.2.1.later b2).c4
    dsimp only at p4
    have K2 : Hid (SlT w2 ⟨ar, cr, ah, ch⟩ t ∧ PisB w2 w1.heap.size pp mb n pv t.sets ∧ Below w.heap.size w w2) := ⟨K1.out.1.later b2, hp, K1.out.2.2.trans (b2.mono K1.out.2.2.size)⟩
    clear b2 hp K1
    go_wp2
    clear p4
    go_loopw [4, 16] (fun v4 v16 wr => ∃ k : Nat, k ≤ t.reads.length ∧ v16 = .int .i64 k ∧ RowN wr w2.heap.size v4 (ofC t.sets (t.reads.take k)) ∧ Below w2.heap.size w2 wr) (fun _ v16 _ => t.reads.length - (intOf v16).toNat)
    case atStart => exact ⟨0, Nat.zero_le _, rfl, by simpa [ofC] using RowN.nil w2 _, Below.refl _ _⟩
    case round =>
      obtain ⟨k, hk, rfl, hrow, hbl⟩ := hrel
      obtain ⟨h1, h2, h3⟩ := K2.out
      have hsz := hbl.size
      by_cases hlt : k < t.reads.length
      · obtain ⟨_, hsk⟩ := (h1.later hbl).r
        dsimp only at hsk
        rcases hsk with hsk | ⟨b, off, rfl, hb, hx⟩
        · omega
        obtain ⟨c0, c1, c2, c3, c4⟩ := hx k _ (atNo_of hlt)
        have hrs := noOk_in (HT.out.1 _ (List.mem_of_getElem? (atNo_of hlt)))
        obtain ⟨U, hU⟩ : ∃ V, V = wr.alloc (.cells #[.int .i64 (atNo t.reads k).region, .int .i64 (atNo t.reads k).slot, .int .i64 (atNo t.reads k).version, .int .i64 (atNo t.reads k).value, .bool (atNo t.reads k).used] 29) := ⟨_, rfl⟩
        have bU : Below wr.heap.size wr U := by rw [hU]; exact (Below.refl _ _).alloc (Nat.le_refl _) _
        have hbox : NoteAt U wr.heap.size 0 (atNo t.reads k) := by rw [hU]; exact NoteAt.box wr _ _
        have hzU : wr.heap.size < U.heap.size := by rw [hU]; simp
        have cc := noCell_any U (atNo t.reads k)
        have KA : Hid (PisB U w1.heap.size pp mb n pv t.sets ∧ RowN U w2.heap.size u4 (ofC t.sets (t.reads.take k)) ∧ Below w2.heap.size w2 U ∧ NoteAt U wr.heap.size 0 (atNo t.reads k) ∧ wr.heap.size < U.heap.size ∧ w2.heap.size ≤ U.heap.size) := ⟨(h2.later hbl).later bU, hrow.later bU, hbl.trans (bU.mono hbl.size), hbox, hzU, by omega⟩
        have hd : decide ((k : Int) < (t.reads.length : Int)) = true := by simp; omega
        clear hrow hbl h1 h2 h3 hx bU hbox hzU
        go_wp2_with fail
        rw [← hU]
        clear hU c0 c1 c2 c3 c4
        refine cc.mono ?_
        clear cc
        rintro e w3 ⟨rfl, b3⟩
        have ch := seHas_any w3 w1.heap.size pp mb n pv t.sets (atNo t.reads k).region (atNo t.reads k).slot (KA.out.1.later b3) hrs.1 hrs.2
        have K3 : Hid (Below U.heap.size U w3) := b3
        clear b3
        go_wp2_with fail
        refine ch.mono ?_
        clear ch
        rintro e w4 ⟨rfl, b4⟩
        have b04 : Below U.heap.size U w4 := K3.out.trans (b4.mono K3.out.size)
        obtain ⟨f0, f1, f2, f3, f4⟩ := KA.out.2.2.2.1.below b04 KA.out.2.2.2.2.1
        simp only [Nat.zero_add] at f1 f2 f3 f4
        have K4 : Hid (RowN w4 w2.heap.size u4 (ofC t.sets (t.reads.take k)) ∧ Below w2.heap.size w2 w4 ∧ w2.heap.size ≤ w4.heap.size) := ⟨KA.out.2.1.later b04, KA.out.2.2.1.trans (b04.mono KA.out.2.2.2.2.2), Nat.le_trans KA.out.2.2.2.2.2 b04.size⟩
        clear b4 b04 K3 KA
        cases hg : (seW t.sets (atNo t.reads k).region (atNo t.reads k).slot).isSome with
        | false =>
          obtain ⟨V, hV⟩ : ∃ V, V = w4.alloc (.cells #[.int .i64 (atNo t.reads k).region, .int .i64 (atNo t.reads k).slot, .int .i64 (atNo t.reads k).version, .int .i64 (atNo t.reads k).value, .bool (atNo t.reads k).used] 29) := ⟨_, rfl⟩
          have bV : Below w4.heap.size w4 V := by rw [hV]; exact (Below.refl _ _).alloc (Nat.le_refl _) _
          have hone : NotesAt V w4.heap.size 0 [atNo t.reads k] := by rw [hV]; exact (NoteAt.box w4 _ _).one
          obtain ⟨v', Y, hr', hrow', hgr, hlies⟩ := pushNo (K4.out.1.later bV) [atNo t.reads k] (by have := ofC_len t.sets (t.reads.take k); rw [List.length_take] at this; simp; omega) 24 w4.heap.size 0 1 hone (by have := bV.size; have := K4.out.2.2; omega)
          have KE : Hid (RowN Y w2.heap.size v' (ofC t.sets (t.reads.take (k + 1))) ∧ Below w2.heap.size w2 Y) := by
            refine ⟨by rw [ofC_yes (atNo_of hlt) hg]; exact hrow', ?_⟩
            exact (K4.out.2.1.trans (bV.mono K4.out.2.2)).grown hgr (by have := bV.size; have := K4.out.2.2; omega) (fun q e => (K4.out.1.lt e).1)
          rw [hV] at hr'
          clear hV bV hone hrow' hgr hlies
          simp only [List.length_cons, List.length_nil, Nat.zero_add] at hr'
          go_wp2_with (at_builtin; refine append_known _ rfl (.tmp 25) (.tmp 27) 24 rfl _ _ _ _ rfl rfl hr' ?_)
          exact ⟨⟨k + 1, by omega, by simp, KE.out.1, KE.out.2⟩, by simp [intOf]; omega⟩
        | true =>
          have KE : Hid (RowN w4 w2.heap.size u4 (ofC t.sets (t.reads.take (k + 1))) ∧ Below w2.heap.size w2 w4) := ⟨by rw [ofC_no (atNo_of hlt) hg]; exact K4.out.1, K4.out.2.1⟩
          clear f0 f1 f2 f3 f4
          go_wp2
          exact ⟨⟨k + 1, by omega, by simp, KE.out.1, KE.out.2⟩, by simp [intOf]; omega⟩
      · obtain rfl : k = t.reads.length := by omega
        have hd : decide ((t.reads.length : Int) < (t.reads.length : Int)) = false := by simp
        rw [List.take_length] at hrow
        have KE : Hid (RowN wr w2.heap.size u4 (ofC t.sets t.reads) ∧ Below w.heap.size w wr ∧ w.heap.size ≤ w2.heap.size) := ⟨hrow, h3.trans (hbl.mono h3.size), h3.size⟩
        clear hrow hbl h1 h2 h3
        go_wp2
        go_ret
        rw [HN.out]
        exact CAns.of KE.out.1 KE.out.2.2 KE.out.2.1
end Go.Proofs.Ytijphfbcojfjpaa
