/- What the specification's Checks answers: its walk. -/
import Derived.Test.YtijphfbcojfjpaaRows
import Derived.Test.YtijphfbcojfjpaaChkS
import Derived.WalkKit
import Derived.WalkSpells
import Derived.WalkLawsBesides
import Derived.Below
import Derived.Lib.QuietBelow
import Derived.BigQuiet
namespace Go.Proofs.Ytijphfbcojfjpaa
open Go.RowKit
open Go.Sort (grow)
set_option maxHeartbeats 4000000 in
theorem l7Checks_any (w : World) (v : TV) (t : T7) (hl : t.sets.length ≤ 1000) (hr : t.reads.length ≤ 1000) (hs : SlT w v t) :
    Calls Try.prog 87 #[v.val t] w (CAns w (ofC t.sets t.reads)) := by
  obtain ⟨ar, cr, ah, ch⟩ := v
  simp only [TV.val]
  obtain ⟨W0, hW0⟩ : ∃ W, W = w.alloc (.cells #[.int .i64 t.id, .int .i64 t.home, .int .i64 t.phase, .int .i64 t.count, .slice ar t.reads.length cr, .slice ah t.sets.length ch, .int .i64 t.stamp] 27) := ⟨_, rfl⟩
  have b0 : Below w.heap.size w W0 := by rw [hW0]; exact (Below.refl _ _).alloc (Nat.le_refl _) _
  have x0 : BT W0 w.heap.size ⟨ar, cr, ah, ch⟩ t := by rw [hW0]; exact BT.box w ⟨ar, cr, ah, ch⟩ t _
  have z0 : W0.heap.size = w.heap.size + 1 := by rw [hW0]; simp
  obtain ⟨W, hW⟩ : ∃ W, W = W0.alloc (.cells #[] 29) := ⟨_, rfl⟩
  have b1 : Below W0.heap.size W0 W := by rw [hW]; exact (Below.refl _ _).alloc (Nat.le_refl _) _
  have r1 : RowN W (w.heap.size + 1) (.slice (some ⟨w.heap.size + 1, 0, none⟩) 0 0) [] := by rw [hW, ← z0]; exact RowN.made W0
  have H : Hid (SlT w ⟨ar, cr, ah, ch⟩ t ∧ BT W w.heap.size ⟨ar, cr, ah, ch⟩ t ∧ Below w.heap.size w W ∧ RowN W (w.heap.size + 1) (.slice (some ⟨w.heap.size + 1, 0, none⟩) 0 0) [] ∧ w.heap.size + 1 ≤ W.heap.size) := ⟨hs, x0.later b1, b0.trans (b1.mono b0.size), r1, by rw [← z0]; exact b1.size⟩
  clear hs b0 x0 z0 b1 r1
  rw [hW0] at hW
  clear hW0
  go_enter Try.func87, Try.ntmps87
  go_wp2
  rw [← hW]
  clear hW
  go_loopw [3, 4] (fun v3 v4 wr => ∃ k : Nat, k ≤ t.reads.length ∧ v4 = .int .i64 k ∧ RowN wr (w.heap.size + 1) v3 (ofC t.sets (t.reads.take k)) ∧ Below (w.heap.size + 1) W wr) (fun _ v4 _ => t.reads.length - (intOf v4).toNat)
  case atStart => exact ⟨0, Nat.zero_le _, rfl, by simpa [ofC] using H.out.2.2.2.1, Below.refl _ _⟩
  case round =>
    obtain ⟨k, hk, rfl, hrow, hbl⟩ := hrel
    obtain ⟨h1, h2, h3, h4, h5⟩ := H.out
    have hsz := hbl.size
    have bw : Below w.heap.size w wr := h3.trans (hbl.mono (by omega))
    have hbt := h2.of_block (hbl.block w.heap.size (by omega)) hbl.size
    by_cases hlt : k < t.reads.length
    · have hsl := h1.later bw
      obtain ⟨_, hsk⟩ := hsl.r
      dsimp only at hsk
      rcases hsk with hsk | ⟨b, off, rfl, hb, hx⟩
      · omega
      have hat := hx k _ (atNo_of hlt)
      obtain ⟨c0, c1, c2, c3, c4⟩ := hat
      obtain ⟨p0, p1, p2, p3, p4, p5, p6, -, hlt0⟩ := hbt
      dsimp only at p0 p1 p2 p3 p4 p5 p6
      have hk5 : (k : Int) < (t.reads.length : Int) := by omega
      have q0 : ∀ d os, (grow (redrawn wr d) os).cell? ⟨w.heap.size, 0, none⟩ = some (.int .i64 t.id) := fun d os => ((below_regrown wr d os).cell (p := ⟨w.heap.size, 0, none⟩) hlt0).trans p0
      have q1 : ∀ d os, (grow (redrawn wr d) os).cell? ⟨w.heap.size, 1, none⟩ = some (.int .i64 t.home) := fun d os => ((below_regrown wr d os).cell (p := ⟨w.heap.size, 1, none⟩) hlt0).trans p1
      have q2 : ∀ d os, (grow (redrawn wr d) os).cell? ⟨w.heap.size, 2, none⟩ = some (.int .i64 t.phase) := fun d os => ((below_regrown wr d os).cell (p := ⟨w.heap.size, 2, none⟩) hlt0).trans p2
      have q3 : ∀ d os, (grow (redrawn wr d) os).cell? ⟨w.heap.size, 3, none⟩ = some (.int .i64 t.count) := fun d os => ((below_regrown wr d os).cell (p := ⟨w.heap.size, 3, none⟩) hlt0).trans p3
      have q4 : ∀ d os, (grow (redrawn wr d) os).cell? ⟨w.heap.size, 4, none⟩ = some (.slice (some ⟨b, off, none⟩) t.reads.length cr) := fun d os => ((below_regrown wr d os).cell (p := ⟨w.heap.size, 4, none⟩) hlt0).trans p4
      have q5 : ∀ d os, (grow (redrawn wr d) os).cell? ⟨w.heap.size, 5, none⟩ = some (.slice ah t.sets.length ch) := fun d os => ((below_regrown wr d os).cell (p := ⟨w.heap.size, 5, none⟩) hlt0).trans p5
      have q6 : ∀ d os, (grow (redrawn wr d) os).cell? ⟨w.heap.size, 6, none⟩ = some (.int .i64 t.stamp) := fun d os => ((below_regrown wr d os).cell (p := ⟨w.heap.size, 6, none⟩) hlt0).trans p6
      have n0 : ∀ d os, (grow (redrawn wr d) os).cell? ⟨b, off + k * 5, none⟩ = some (.int .i64 (atNo t.reads k).region) := fun d os => ((below_regrown wr d os).cell (p := ⟨b, off + k * 5, none⟩) hb).trans c0
      have n1 : ∀ d os, (grow (redrawn wr d) os).cell? ⟨b, off + k * 5 + 1, none⟩ = some (.int .i64 (atNo t.reads k).slot) := fun d os => ((below_regrown wr d os).cell (p := ⟨b, off + k * 5 + 1, none⟩) hb).trans c1
      have n2 : ∀ d os, (grow (redrawn wr d) os).cell? ⟨b, off + k * 5 + 2, none⟩ = some (.int .i64 (atNo t.reads k).version) := fun d os => ((below_regrown wr d os).cell (p := ⟨b, off + k * 5 + 2, none⟩) hb).trans c2
      have n3 : ∀ d os, (grow (redrawn wr d) os).cell? ⟨b, off + k * 5 + 3, none⟩ = some (.int .i64 (atNo t.reads k).value) := fun d os => ((below_regrown wr d os).cell (p := ⟨b, off + k * 5 + 3, none⟩) hb).trans c3
      have n4 : ∀ d os, (grow (redrawn wr d) os).cell? ⟨b, off + k * 5 + 4, none⟩ = some (.bool (atNo t.reads k).used) := fun d os => ((below_regrown wr d os).cell (p := ⟨b, off + k * 5 + 4, none⟩) hb).trans c4
      have cS : ∀ d os, Calls Try.prog 75 #[.agg #[.int .i64 t.id, .int .i64 t.home, .int .i64 t.phase, .int .i64 t.count, .slice (some ⟨b, off, none⟩) t.reads.length cr, .slice ah t.sets.length ch, .int .i64 t.stamp], .int .i64 (atNo t.reads k).region, .int .i64 (atNo t.reads k).slot] (grow (redrawn wr d) os) fun e w'' => e = .returned (.int .i64 (setAt t.sets (atNo t.reads k).region (atNo t.reads k).slot)) ∧ ∃ p : Regrown, w'' = grow (redrawn wr p.d) p.os := fun d os => Calls.regrown_of (l7Set_any _ ⟨some ⟨b, off, none⟩, cr, ah, ch⟩ t _ _ hl (hsl.later (below_regrown wr d os)))
      have dS := setAt_lt t.sets (atNo t.reads k).region (atNo t.reads k).slot
      have KA : Hid (RowN wr (w.heap.size + 1) u3 (ofC t.sets (t.reads.take k)) ∧ Below (w.heap.size + 1) W wr ∧ w.heap.size + 1 ≤ W.heap.size ∧ w.heap.size + 1 ≤ wr.heap.size) := ⟨hrow, hbl, h5, by omega⟩
      clear c0 c1 c2 c3 c4 p0 p1 p2 p3 p5 p6 hx hsl hrow hbl h1 h2 h3 h4 bw
      cases hg : (seW t.sets (atNo t.reads k).region (atNo t.reads k).slot).isSome with
      | false =>
        rw [hg] at dS
        simp only [Bool.not_false] at dS
        generalize setAt t.sets (atNo t.reads k).region (atNo t.reads k).slot = A at *
        go_wp2_with fail
        refine wp_region_quiet_below (by kernel_rfl) (by kernel_rfl) ?_
        repeat (go_big_quiet_step (exact cS _ _))
        refine wpQuiet_nil ?_
        intro _ hw'
        obtain ⟨⟨dq, osq⟩, hw''⟩ := hw'
        subst hw''
        have bq := below_regrown wr dq osq
        have e4 := q4 dq osq
        have f0 := n0 dq osq
        have f1 := n1 dq osq
        have f2 := n2 dq osq
        have f3 := n3 dq osq
        have f4 := n4 dq osq
        clear q0 q1 q2 q3 q4 q5 q6 n0 n1 n2 n3 n4 cS
        generalize grow (redrawn wr dq) osq = U at *
        obtain ⟨V, hV⟩ : ∃ V, V = U.alloc (.cells #[.int .i64 (atNo t.reads k).region, .int .i64 (atNo t.reads k).slot, .int .i64 (atNo t.reads k).version, .int .i64 (atNo t.reads k).value, .bool (atNo t.reads k).used] 29) := ⟨_, rfl⟩
        have bU : Below U.heap.size U V := by rw [hV]; exact (Below.refl _ _).alloc (Nat.le_refl _) _
        have bV : Below wr.heap.size wr V := bq.trans (bU.mono bq.size)
        have hone : NotesAt V U.heap.size 0 [atNo t.reads k] := by rw [hV]; exact (NoteAt.box U _ _).one
        obtain ⟨v', Y, hr', hrow', hgr, hlies⟩ := pushNo (KA.out.1.later bV) [atNo t.reads k] (by have := ofC_len t.sets (t.reads.take k); rw [List.length_take] at this; simp; omega) 24 U.heap.size 0 1 hone (by have := bV.size; have := KA.out.2.2.2; omega)
        have KE : Hid (RowN Y (w.heap.size + 1) v' (ofC t.sets (t.reads.take (k + 1))) ∧ Below (w.heap.size + 1) W Y) := by
          refine ⟨by rw [ofC_yes (atNo_of hlt) hg]; exact hrow', ?_⟩
          exact (KA.out.2.1.trans (bV.mono KA.out.2.2.2)).grown hgr (by have := bV.size; have := KA.out.2.1.size; omega) (fun q e => (KA.out.1.lt e).1)
        rw [hV] at hr'
        clear hV bV bU bq hone hrow' hgr hlies
        simp only [List.length_cons, List.length_nil, Nat.zero_add] at hr'
        go_wp2_with (at_builtin; refine append_known _ rfl (.tmp 28) (.tmp 34) 24 rfl _ _ _ _ rfl rfl hr' ?_)
        exact ⟨⟨k + 1, by omega, by simp, KE.out.1, KE.out.2⟩, by simp [intOf]; omega⟩
      | true =>
        rw [hg] at dS
        simp only [Bool.not_true] at dS
        generalize setAt t.sets (atNo t.reads k).region (atNo t.reads k).slot = A at *
        go_wp2_with fail
        refine wp_region_quiet_below (by kernel_rfl) (by kernel_rfl) ?_
        repeat (go_big_quiet_step (exact cS _ _))
        refine wpQuiet_nil ?_
        intro _ hw'
        obtain ⟨⟨dq, osq⟩, hw''⟩ := hw'
        subst hw''
        have bq := below_regrown wr dq osq
        have KE : Hid (RowN (grow (redrawn wr dq) osq) (w.heap.size + 1) u3 (ofC t.sets (t.reads.take (k + 1))) ∧ Below (w.heap.size + 1) W (grow (redrawn wr dq) osq)) := ⟨by rw [ofC_no (atNo_of hlt) hg]; exact KA.out.1.later bq, KA.out.2.1.trans (bq.mono KA.out.2.2.2)⟩
        clear bq q0 q1 q2 q3 q4 q5 q6 n0 n1 n2 n3 n4 cS
        go_wp2
        exact ⟨⟨k + 1, by omega, by simp, KE.out.1, KE.out.2⟩, by simp [intOf]; omega⟩
    · obtain rfl : k = t.reads.length := by omega
      have hd : decide ((t.reads.length : Int) < (t.reads.length : Int)) = false := by simp
      rw [List.take_length] at hrow
      have p4 := hbt.c4
      dsimp only at p4
      have KE : Hid (RowN wr (w.heap.size + 1) u3 (ofC t.sets t.reads) ∧ Below w.heap.size w wr) := ⟨hrow, bw⟩
      clear hrow hbl h1 h2 h3 h4 bw hbt
      go_wp2
      go_ret
      exact CAns.of KE.out.1 (by omega) KE.out.2
set_option maxHeartbeats 2000000 in
theorem specChecks_any (w : World) (v : TV) (t : T7) (hl : TL t) (hs : SlT w v t) :
    Calls Try.prog 27 #[v.val t] w (CAns w (checksT t)) := by
  obtain ⟨ar, cr, ah, ch⟩ := v
  simp only [TV.val]
  obtain ⟨W, hW⟩ : ∃ W, W = w.alloc (.cells #[.int .i64 t.id, .int .i64 t.home, .int .i64 t.phase, .int .i64 t.count, .slice ar t.reads.length cr, .slice ah t.sets.length ch, .int .i64 t.stamp] 27) := ⟨_, rfl⟩
  have b0 : Below w.heap.size w W := by rw [hW]; exact (Below.refl _ _).alloc (Nat.le_refl _) _
  have x0 : BT W w.heap.size ⟨ar, cr, ah, ch⟩ t := by rw [hW]; exact BT.box w ⟨ar, cr, ah, ch⟩ t _
  have c1 := specTxOk_any W ⟨ar, cr, ah, ch⟩ t hl (hs.later b0)
  simp only [TV.val] at c1
  have H : Hid (SlT W ⟨ar, cr, ah, ch⟩ t ∧ BT W w.heap.size ⟨ar, cr, ah, ch⟩ t ∧ Below w.heap.size w W) := ⟨hs.later b0, x0, b0⟩
  clear hs b0 x0 hl
  cases hB : txB t with
  | false =>
    rw [hB] at c1
    have HN : Hid (checksT t = []) := by unfold Hid; simp [checksT, hB]
    go_enter Try.func27, Try.ntmps27
    go_wp2_with fail
    rw [← hW]
    clear hW
    refine c1.mono ?_
    clear c1
    rintro e w1 ⟨rfl, b1⟩
    have KB : Hid (∀ o, Below w.heap.size w (w1.alloc o)) := fun o => (H.out.2.2.trans (b1.mono H.out.2.2.size)).alloc (Nat.le_trans H.out.2.2.size b1.size) _
    clear b1
    go_wp2
    go_ret
    rw [HN.out]
    exact ⟨_, _, fun _ => False, rfl, .inl rfl, fun _ h => h.elim, KB.out _⟩
  | true =>
    rw [hB] at c1
    have HN : Hid (checksT t = ofC t.sets t.reads) := by unfold Hid; simp [checksT, hB]
    have HL := hidOf (txB_lens hB)
    go_enter Try.func27, Try.ntmps27
    go_wp2_with fail
    rw [← hW]
    clear hW
    refine c1.mono ?_
    clear c1
    rintro e w1 ⟨rfl, b1⟩
    obtain ⟨p0, p1, p2, p3, p4, p5, p6, -, -⟩ := H.out.2.1.later b1
    have c2 := l7Checks_any w1 ⟨ar, cr, ah, ch⟩ t (by have := HL.out; omega) (by have := HL.out; omega) (H.out.1.later b1)
    simp only [TV.val] at c2
    have KB : Hid (Below w.heap.size w w1) := H.out.2.2.trans (b1.mono H.out.2.2.size)
    clear b1
    go_wp2_with fail
    refine c2.mono ?_
    clear c2
    rintro e w2 ⟨a, c, PS, rfl, h1, h2, h3⟩
    have KE : Hid (OwnNo w2 PS a (ofC t.sets t.reads) ∧ (∀ q, PS q → w.heap.size ≤ q ∧ q < w2.heap.size) ∧ Below w.heap.size w w2) := ⟨h1, fun q hq => ⟨Nat.le_trans KB.out.size (h2 q hq).1, (h2 q hq).2⟩, KB.out.trans (h3.mono KB.out.size)⟩
    clear h1 h2 h3
    go_wp2
    go_ret
    rw [HN.out]
    exact ⟨a, c, PS, rfl, KE.out.1, KE.out.2.1, KE.out.2.2⟩
end Go.Proofs.Ytijphfbcojfjpaa
