/- What both SetsOf answer at every transaction. -/
import Derived.Test.YtijphfbcojfjpaaRows
import Derived.Test.YtijphfbcojfjpaaSofS
import Derived.WalkKit
import Derived.WalkSpells
import Derived.WalkLawsBesides
import Derived.Below
namespace Go.Proofs.Ytijphfbcojfjpaa
open Go.RowKit
theorem txB_lens {t : T7} (h : txB t = true) : t.reads.length ≤ 12 ∧ t.sets.length ≤ 12 := by
  simp only [txB, Bool.and_eq_true, decide_eq_true_eq] at h
  exact ⟨h.1.1.1.2, h.1.1.2⟩
def setsOfT (t : T7) (g : Int) : List S5 := if txB t = true then ofR g t.sets else []
theorem setsOfT_short (t : T7) (g : Int) (h : t.sets.length ≤ 1048576) : (setsOfT t g).length ≤ 1048576 := by
  unfold setsOfT
  split
  · exact Nat.le_trans (ofR_len g t.sets) h
  · simp
set_option maxHeartbeats 2000000 in
theorem specSetsOf_any (w : World) (v : TV) (t : T7) (g : Int) (hl : TL t) (hs : SlT w v t) :
    Calls Try.prog 42 #[v.val t, .int .i64 g] w (SAns w (setsOfT t g)) := by
  obtain ⟨ar, cr, ah, ch⟩ := v
  simp only [TV.val]
  obtain ⟨W, hW⟩ : ∃ W, W = w.alloc (.cells #[.int .i64 t.id, .int .i64 t.home, .int .i64 t.phase, .int .i64 t.count, .slice ar t.reads.length cr, .slice ah t.sets.length ch, .int .i64 t.stamp] 27) := ⟨_, rfl⟩
  have b0 : Below w.heap.size w W := by rw [hW]; exact (Below.refl _ _).alloc (Nat.le_refl _) _
  have x0 : BT W w.heap.size ⟨ar, cr, ah, ch⟩ t := by rw [hW]; exact BT.box w ⟨ar, cr, ah, ch⟩ t _
  have c1 := specTxOk_any W ⟨ar, cr, ah, ch⟩ t hl (hs.later b0)
  simp only [TV.val] at c1
  have H : Hid (SlT W ⟨ar, cr, ah, ch⟩ t ∧ BT W w.heap.size ⟨ar, cr, ah, ch⟩ t ∧ Below w.heap.size w W) := ⟨hs.later b0, x0, b0⟩
  clear hs b0 x0 hl
  cases hB : txB t with
  | false =>
    rw [hB] at c1
    have HN : Hid (setsOfT t g = []) := by unfold Hid; simp [setsOfT, hB]
    go_enter Try.func42, Try.ntmps42
    go_wp2_with fail
    rw [← hW]
    clear hW
    refine c1.mono ?_
    clear c1
    rintro e w1 ⟨rfl, b1⟩
    have KB : Hid (∀ o, Below w.heap.size w (w1.alloc o)) := fun o => (H.out.2.2.trans (b1.mono H.out.2.2.size)).alloc (Nat.le_trans H.out.2.2.size b1.size) _
    clear b1
    go_wp2
    go_ret
    rw [HN.out]
    exact ⟨_, _, fun _ => False, rfl, .inl rfl, fun _ h => h.elim, KB.out _⟩
  | true =>
    rw [hB] at c1
    have HN : Hid (setsOfT t g = ofR g t.sets) := by unfold Hid; simp [setsOfT, hB]
    have HL := hidOf (txB_lens hB).2
    go_enter Try.func42, Try.ntmps42
    go_wp2_with fail
    rw [← hW]
    clear hW
    refine c1.mono ?_
    clear c1
    rintro e w1 ⟨rfl, b1⟩
    obtain ⟨p0, p1, p2, p3, p4, p5, p6, -, -⟩ := H.out.2.1.later b1
    have c2 := l7SetsOf_any w1 ⟨ar, cr, ah, ch⟩ t g (by have := HL.out; omega) (H.out.1.later b1)
    simp only [TV.val] at c2
    have KB : Hid (Below w.heap.size w w1) := H.out.2.2.trans (b1.mono H.out.2.2.size)
    clear b1
    go_wp2_with fail
    refine c2.mono ?_
    clear c2
    rintro e w2 ⟨a, c, PS, rfl, h1, h2, h3⟩
    have KE : Hid (OwnSe w2 PS a (ofR g t.sets) ∧ (∀ q, PS q → w.heap.size ≤ q ∧ q < w2.heap.size) ∧ Below w.heap.size w w2) := ⟨h1, fun q hq => ⟨Nat.le_trans KB.out.size (h2 q hq).1, (h2 q hq).2⟩, KB.out.trans (h3.mono KB.out.size)⟩
    clear h1 h2 h3
    go_wp2
    go_ret
    rw [HN.out]
    exact ⟨a, c, PS, rfl, KE.out.1, KE.out.2.1, KE.out.2.2⟩
set_option maxHeartbeats 4000000 in
theorem implSetsOf_any (w : World) (v : TV) (t : T7) (g : Int) (hl : TL t) (hs : SlT w v t) :
    Calls Try.prog 28 #[v.val t, .int .i64 g] w (SAns w (setsOfT t g)) := by
  obtain ⟨ar, cr, ah, ch⟩ := v
  simp only [TV.val]
  obtain ⟨W, hW⟩ : ∃ W, W = w.alloc (.cells #[.int .i64 t.id, .int .i64 t.home, .int .i64 t.phase, .int .i64 t.count, .slice ar t.reads.length cr, .slice ah t.sets.length ch, .int .i64 t.stamp] 27) := ⟨_, rfl⟩
  have b0 : Below w.heap.size w W := by rw [hW]; exact (Below.refl _ _).alloc (Nat.le_refl _) _
  have x0 : BT W w.heap.size ⟨ar, cr, ah, ch⟩ t := by rw [hW]; exact BT.box w ⟨ar, cr, ah, ch⟩ t _
  have c1 := implTxOk_any W ⟨ar, cr, ah, ch⟩ t hl (hs.later b0)
  simp only [TV.val] at c1
  have H : Hid (SlT W ⟨ar, cr, ah, ch⟩ t ∧ BT W w.heap.size ⟨ar, cr, ah, ch⟩ t ∧ Below w.heap.size w W) := ⟨hs.later b0, x0, b0⟩
  clear hs b0 x0 hl
  cases hB : txB t with
  | false =>
    rw [hB] at c1
    have HN : Hid (setsOfT t g = []) := by unfold Hid; simp [setsOfT, hB]
    go_enter Try.func28, Try.ntmps28
    go_wp2_with fail
    rw [← hW]
    clear hW
    refine c1.mono ?_
    clear c1
    rintro e w1 ⟨rfl, b1⟩
    have KB : Hid (Below w.heap.size w w1) := H.out.2.2.trans (b1.mono H.out.2.2.size)
    clear b1
    go_wp2
    go_ret
    rw [HN.out]
    exact SAns.none KB.out
  | true =>
    rw [hB] at c1
    have HN : Hid (setsOfT t g = ofR g t.sets) := by unfold Hid; simp [setsOfT, hB]
    have hl12 := (txB_lens hB).2
    go_enter Try.func28, Try.ntmps28
    go_wp2_with fail
    rw [← hW]
    clear hW
    refine c1.mono ?_
    clear c1
    rintro e w1 ⟨rfl, b1⟩
    have p5 := (H.out.2.1.later b1).c5
    dsimp only at p5
    have K1 : Hid (SlT w1 ⟨ar, cr, ah, ch⟩ t ∧ Below w.heap.size w w1) := ⟨H.out.1.later b1, H.out.2.2.trans (b1.mono H.out.2.2.size)⟩
    clear b1 H
    go_wp2
    clear p5
    go_loopw [5, 14] (fun v5 v14 wr => ∃ k : Nat, k ≤ t.sets.length ∧ v14 = .int .i64 k ∧ RowS wr w1.heap.size v5 (ofR g (t.sets.take k)) ∧ Below w1.heap.size w1 wr) (fun _ v14 _ => t.sets.length - (intOf v14).toNat)
    case atStart => exact ⟨0, Nat.zero_le _, rfl, by simpa [ofR] using RowS.nil w1 _, Below.refl _ _⟩
    case round =>
      obtain ⟨k, hk, rfl, hrow, hbl⟩ := hrel
      obtain ⟨h1, h2⟩ := K1.out
      have hsz := hbl.size
      by_cases hlt : k < t.sets.length
      · obtain ⟨_, hsk⟩ := (h1.later hbl).s
        dsimp only at hsk
        rcases hsk with hsk | ⟨b, off, rfl, hb, hx⟩
        · omega
        obtain ⟨c0, c1, c2, c3, c4⟩ := hx k _ (atSe_of hlt)
        by_cases hg : (atSe t.sets k).region = g
        · have dg : ((atSe t.sets k).region == g) = true := by simpa using hg
          obtain ⟨U, hU⟩ : ∃ V, V = wr.alloc (.cells #[.int .i64 (atSe t.sets k).region, .int .i64 (atSe t.sets k).slot, .int .i64 (atSe t.sets k).value, .bool (atSe t.sets k).used, .int .i64 (atSe t.sets k).version] 36) := ⟨_, rfl⟩
          have bU : Below wr.heap.size wr U := by rw [hU]; exact (Below.refl _ _).alloc (Nat.le_refl _) _
          have zU : U.heap.size = wr.heap.size + 1 := by rw [hU]; simp
          obtain ⟨V, hV⟩ : ∃ V, V = U.alloc (.cells #[.int .i64 (atSe t.sets k).region, .int .i64 (atSe t.sets k).slot, .int .i64 (atSe t.sets k).value, .bool (atSe t.sets k).used, .int .i64 (atSe t.sets k).version] 36) := ⟨_, rfl⟩
          have bV : Below wr.heap.size wr V := by rw [hV]; exact bU.alloc bU.size _
          have hone : SetsAt V (wr.heap.size + 1) 0 [atSe t.sets k] := by rw [hV, ← zU]; exact (SetAt.box U _ _).one
          obtain ⟨v', Y, hr, hrow', hgr, hlies⟩ := pushSe (hrow.later bV) [atSe t.sets k] (by have := ofR_len g (t.sets.take k); rw [List.length_take] at this; simp; omega) 25 (wr.heap.size + 1) 0 1 hone (by have := bV.size; omega)
          have KE : Hid (RowS Y w1.heap.size v' (ofR g (t.sets.take (k + 1))) ∧ Below w1.heap.size w1 Y) := by
            refine ⟨by rw [ofR_yes (atSe_of hlt) hg]; exact hrow', ?_⟩
            exact (hbl.trans (bV.mono (by omega))).grown hgr (by have := bV.size; omega) (fun q e => (hrow.lt e).1)
          rw [hV, hU] at hr
          clear hV hU bV bU zU hone hrow' hgr hlies hrow hbl h1 h2 hx hg
          simp only [List.length_cons, List.length_nil, Nat.zero_add] at hr
          go_wp2_with (at_builtin; refine append_known _ rfl (.tmp 22) (.tmp 24) 25 rfl _ _ _ _ rfl rfl hr ?_)
          exact ⟨⟨k + 1, by omega, by simp, KE.out.1, KE.out.2⟩, by simp [intOf]; omega⟩
        · have dg : ((atSe t.sets k).region == g) = false := by simpa using hg
          have bU : Below wr.heap.size wr (wr.alloc (.cells #[.int .i64 (atSe t.sets k).region, .int .i64 (atSe t.sets k).slot, .int .i64 (atSe t.sets k).value, .bool (atSe t.sets k).used, .int .i64 (atSe t.sets k).version] 36)) := (Below.refl _ _).alloc (Nat.le_refl _) _
          have KE : Hid (RowS (wr.alloc (.cells #[.int .i64 (atSe t.sets k).region, .int .i64 (atSe t.sets k).slot, .int .i64 (atSe t.sets k).value, .bool (atSe t.sets k).used, .int .i64 (atSe t.sets k).version] 36)) w1.heap.size u5 (ofR g (t.sets.take (k + 1))) ∧ Below w1.heap.size w1 (wr.alloc (.cells #[.int .i64 (atSe t.sets k).region, .int .i64 (atSe t.sets k).slot, .int .i64 (atSe t.sets k).value, .bool (atSe t.sets k).used, .int .i64 (atSe t.sets k).version] 36))) := ⟨by rw [ofR_no (atSe_of hlt) hg]; exact hrow.later bU, hbl.trans (bU.mono hbl.size)⟩
          clear hrow hbl h1 h2 hx hg bU
          go_wp2
          exact ⟨⟨k + 1, by omega, by simp, KE.out.1, KE.out.2⟩, by simp [intOf]; omega⟩
      · obtain rfl : k = t.sets.length := by omega
        have hd : decide ((t.sets.length : Int) < (t.sets.length : Int)) = false := by simp
        rw [List.take_length] at hrow
        have KE : Hid (RowS wr w1.heap.size u5 (ofR g t.sets) ∧ Below w.heap.size w wr ∧ w.heap.size ≤ w1.heap.size) := ⟨hrow, h2.trans (hbl.mono h2.size), h2.size⟩
        clear hrow hbl h1 h2
        go_wp2
        go_ret
        rw [HN.out]
        exact SAns.of KE.out.1 KE.out.2.2 KE.out.2.1
end Go.Proofs.Ytijphfbcojfjpaa
