/- YChkB; VoT; VoU; PlacesRg; PlacesIp; VoK; PlOwn; RemapA; VoA: joined. -/
import Derived.Test.YtphpcgmnljhimaaGreatRows
import Derived.Test.YtphpcgmnljhimaaGreatJ9ExactStricken
import Derived.WalkKit
import Derived.WalkSpells
import Derived.WalkLawsBesides
import Derived.Below
import Derived.Lib.QuietBelow
import Derived.BigQuiet
import Derived.Deep.CutRange
import Derived.LaidEql
import Derived.RowKitTokens
import Derived.Deep.Upon
import Derived.Deep.RegionWith
import Derived.Test.YtphpcgmnljhimaaGreatJ5ExactStricken
import Derived.Test.YtphpcgmnljhimaaGreatJ8ExactStricken
import Derived.Test.YtphpcgmnljhimaaGreatJ7ExactStricken
import Derived.Test.YtphpcgmnljhimaaGreatJ6ExactStricken
import Derived.Test.YtphpcgmnljhimaaGreatJ0ExactStricken
import Derived.Maps.AppendAt
import Derived.Laws.OwnMore
import Derived.Deep.AppendLies
namespace Go.Proofs.YtphpcgmnljhimaaGreat.tx
open Go.RowKit
open Go.Sort (grow)
set_option maxHeartbeats 4000000 in
theorem l7Checks_any (w : World) (v : TV) (t : T7) (hl : t.sets.length ≤ 1000) (hr : t.reads.length ≤ 1000) (hs : SlT w v t) :
    Calls Tryz.prog 48 #[v.val t] w (CAns w (ofC t.sets t.reads)) := by
  obtain ⟨ar, cr, ah, ch⟩ := v
  simp only [TV.val]
  obtain ⟨W0, hW0⟩ : ∃ W, W = w.alloc (.cells #[.int .i64 t.id, .int .i64 t.home, .int .i64 t.phase, .int .i64 t.count, .slice ar t.reads.length cr, .slice ah t.sets.length ch, .int .i64 t.stamp] 47) := ⟨_, rfl⟩
  have b0 : Below w.heap.size w W0 := by rw [hW0]; exact (Below.refl _ _).alloc (Nat.le_refl _) _
  have x0 : BT W0 w.heap.size ⟨ar, cr, ah, ch⟩ t := by rw [hW0]; exact BT.box w ⟨ar, cr, ah, ch⟩ t _
  have z0 : W0.heap.size = w.heap.size + 1 := by rw [hW0]; simp
  obtain ⟨W, hW⟩ : ∃ W, W = W0.alloc (.cells #[] 91) := ⟨_, rfl⟩
  have b1 : Below W0.heap.size W0 W := by rw [hW]; exact (Below.refl _ _).alloc (Nat.le_refl _) _
  have r1 : RowN W (w.heap.size + 1) (.slice (some ⟨w.heap.size + 1, 0, none⟩) 0 0) [] := by rw [hW, ← z0]; exact RowN.made W0
  have H : Hid (SlT w ⟨ar, cr, ah, ch⟩ t ∧ BT W w.heap.size ⟨ar, cr, ah, ch⟩ t ∧ Below w.heap.size w W ∧ RowN W (w.heap.size + 1) (.slice (some ⟨w.heap.size + 1, 0, none⟩) 0 0) [] ∧ w.heap.size + 1 ≤ W.heap.size) := ⟨hs, x0.later b1, b0.trans (b1.mono b0.size), r1, by rw [← z0]; exact b1.size⟩
  clear hs b0 x0 z0 b1 r1
  rw [hW0] at hW
  clear hW0
  go_enter Tryz.func48, Tryz.ntmps48
  go_wp2
  rw [← hW]
  clear hW
  go_loopw [3, 4] (fun v3 v4 wr => ∃ k : Nat, k ≤ t.reads.length ∧ v4 = .int .i64 k ∧ RowN wr (w.heap.size + 1) v3 (ofC t.sets (t.reads.take k)) ∧ Below (w.heap.size + 1) W wr) (fun _ v4 _ => t.reads.length - (intOf v4).toNat)
  case atStart => exact ⟨0, Nat.zero_le _, rfl, by simpa [ofC] using H.out.2.2.2.1, Below.refl _ _⟩
  case round =>
    obtain ⟨k, hk, rfl, hrow, hbl⟩ := hrel
    obtain ⟨h1, h2, h3, h4, h5⟩ := H.out
    have hsz := hbl.size
    have bw : Below w.heap.size w wr := h3.trans (hbl.mono (by omega))
    have hbt := h2.of_block (hbl.block w.heap.size (by omega)) hbl.size
    by_cases hlt : k < t.reads.length
    · have hsl := h1.later bw
      obtain ⟨_, hsk⟩ := hsl.r
      dsimp only at hsk
      rcases hsk with hsk | ⟨b, off, rfl, hb, hx⟩
      · omega
      have hat := hx k _ (atNo_of hlt)
      obtain ⟨c0, c1, c2, c3, c4⟩ := hat
      obtain ⟨p0, p1, p2, p3, p4, p5, p6, -, hlt0⟩ := hbt
      dsimp only at p0 p1 p2 p3 p4 p5 p6
      have hk5 : (k : Int) < (t.reads.length : Int) := by omega
      have q0 : ∀ d os, (grow (redrawn wr d) os).cell? ⟨w.heap.size, 0, none⟩ = some (.int .i64 t.id) := fun d os => ((below_regrown wr d os).cell (p := ⟨w.heap.size, 0, none⟩) hlt0).trans p0
      have q1 : ∀ d os, (grow (redrawn wr d) os).cell? ⟨w.heap.size, 1, none⟩ = some (.int .i64 t.home) := fun d os => ((below_regrown wr d os).cell (p := ⟨w.heap.size, 1, none⟩) hlt0).trans p1
      have q2 : ∀ d os, (grow (redrawn wr d) os).cell? ⟨w.heap.size, 2, none⟩ = some (.int .i64 t.phase) := fun d os => ((below_regrown wr d os).cell (p := ⟨w.heap.size, 2, none⟩) hlt0).trans p2
      have q3 : ∀ d os, (grow (redrawn wr d) os).cell? ⟨w.heap.size, 3, none⟩ = some (.int .i64 t.count) := fun d os => ((below_regrown wr d os).cell (p := ⟨w.heap.size, 3, none⟩) hlt0).trans p3
      have q4 : ∀ d os, (grow (redrawn wr d) os).cell? ⟨w.heap.size, 4, none⟩ = some (.slice (some ⟨b, off, none⟩) t.reads.length cr) := fun d os => ((below_regrown wr d os).cell (p := ⟨w.heap.size, 4, none⟩) hlt0).trans p4
      have q5 : ∀ d os, (grow (redrawn wr d) os).cell? ⟨w.heap.size, 5, none⟩ = some (.slice ah t.sets.length ch) := fun d os => ((below_regrown wr d os).cell (p := ⟨w.heap.size, 5, none⟩) hlt0).trans p5
      have q6 : ∀ d os, (grow (redrawn wr d) os).cell? ⟨w.heap.size, 6, none⟩ = some (.int .i64 t.stamp) := fun d os => ((below_regrown wr d os).cell (p := ⟨w.heap.size, 6, none⟩) hlt0).trans p6
      have n0 : ∀ d os, (grow (redrawn wr d) os).cell? ⟨b, off + k * 5, none⟩ = some (.int .i64 (atNo t.reads k).region) := fun d os => ((below_regrown wr d os).cell (p := ⟨b, off + k * 5, none⟩) hb).trans c0
      have n1 : ∀ d os, (grow (redrawn wr d) os).cell? ⟨b, off + k * 5 + 1, none⟩ = some (.int .i64 (atNo t.reads k).slot) := fun d os => ((below_regrown wr d os).cell (p := ⟨b, off + k * 5 + 1, none⟩) hb).trans c1
      have n2 : ∀ d os, (grow (redrawn wr d) os).cell? ⟨b, off + k * 5 + 2, none⟩ = some (.int .i64 (atNo t.reads k).version) := fun d os => ((below_regrown wr d os).cell (p := ⟨b, off + k * 5 + 2, none⟩) hb).trans c2
      have n3 : ∀ d os, (grow (redrawn wr d) os).cell? ⟨b, off + k * 5 + 3, none⟩ = some (.int .i64 (atNo t.reads k).value) := fun d os => ((below_regrown wr d os).cell (p := ⟨b, off + k * 5 + 3, none⟩) hb).trans c3
      have n4 : ∀ d os, (grow (redrawn wr d) os).cell? ⟨b, off + k * 5 + 4, none⟩ = some (.bool (atNo t.reads k).used) := fun d os => ((below_regrown wr d os).cell (p := ⟨b, off + k * 5 + 4, none⟩) hb).trans c4
      have cS : ∀ d os, Calls Tryz.prog 89 #[.agg #[.int .i64 t.id, .int .i64 t.home, .int .i64 t.phase, .int .i64 t.count, .slice (some ⟨b, off, none⟩) t.reads.length cr, .slice ah t.sets.length ch, .int .i64 t.stamp], .int .i64 (atNo t.reads k).region, .int .i64 (atNo t.reads k).slot] (grow (redrawn wr d) os) fun e w'' => e = .returned (.int .i64 (setAt t.sets (atNo t.reads k).region (atNo t.reads k).slot)) ∧ ∃ p : Regrown, w'' = grow (redrawn wr p.d) p.os := fun d os => Calls.regrown_of (l7Set_any _ ⟨some ⟨b, off, none⟩, cr, ah, ch⟩ t _ _ hl (hsl.later (below_regrown wr d os)))
      have dS := setAt_lt t.sets (atNo t.reads k).region (atNo t.reads k).slot
      have KA : Hid (RowN wr (w.heap.size + 1) u3 (ofC t.sets (t.reads.take k)) ∧ Below (w.heap.size + 1) W wr ∧ w.heap.size + 1 ≤ W.heap.size ∧ w.heap.size + 1 ≤ wr.heap.size) := ⟨hrow, hbl, h5, by omega⟩
      clear c0 c1 c2 c3 c4 p0 p1 p2 p3 p5 p6 hx hsl hrow hbl h1 h2 h3 h4 bw
      cases hg : (seW t.sets (atNo t.reads k).region (atNo t.reads k).slot).isSome with
      | false =>
        rw [hg] at dS
        simp only [Bool.not_false] at dS
        generalize setAt t.sets (atNo t.reads k).region (atNo t.reads k).slot = A at *
        go_wp2_with fail
        refine wp_region_quiet_below (by kernel_rfl) (by kernel_rfl) ?_
        repeat (go_big_quiet_step (exact cS _ _))
        refine wpQuiet_nil ?_
        intro _ hw'
        obtain ⟨⟨dq, osq⟩, hw''⟩ := hw'
        subst hw''
        have bq := below_regrown wr dq osq
        have e4 := q4 dq osq
        have f0 := n0 dq osq
        have f1 := n1 dq osq
        have f2 := n2 dq osq
        have f3 := n3 dq osq
        have f4 := n4 dq osq
        clear q0 q1 q2 q3 q4 q5 q6 n0 n1 n2 n3 n4 cS
        generalize grow (redrawn wr dq) osq = U at *
        obtain ⟨V, hV⟩ : ∃ V, V = U.alloc (.cells #[.int .i64 (atNo t.reads k).region, .int .i64 (atNo t.reads k).slot, .int .i64 (atNo t.reads k).version, .int .i64 (atNo t.reads k).value, .bool (atNo t.reads k).used] 91) := ⟨_, rfl⟩
        have bU : Below U.heap.size U V := by rw [hV]; exact (Below.refl _ _).alloc (Nat.le_refl _) _
        have bV : Below wr.heap.size wr V := bq.trans (bU.mono bq.size)
        have hone : NotesAt V U.heap.size 0 [atNo t.reads k] := by rw [hV]; exact (NoteAt.box U _ _).one
        obtain ⟨v', Y, hr', hrow', hgr, hlies⟩ := pushNo (KA.out.1.later bV) [atNo t.reads k] (by have := ofC_len t.sets (t.reads.take k); rw [List.length_take] at this; simp; omega) 44 U.heap.size 0 1 hone (by have := bV.size; have := KA.out.2.2.2; omega)
        have KE : Hid (RowN Y (w.heap.size + 1) v' (ofC t.sets (t.reads.take (k + 1))) ∧ Below (w.heap.size + 1) W Y) := by
          refine ⟨by rw [ofC_yes (atNo_of hlt) hg]; exact hrow', ?_⟩
          exact (KA.out.2.1.trans (bV.mono KA.out.2.2.2)).grown hgr (by have := bV.size; have := KA.out.2.1.size; omega) (fun q e => (KA.out.1.lt e).1)
        rw [hV] at hr'
        clear hV bV bU bq hone hrow' hgr hlies
        simp only [List.length_cons, List.length_nil, Nat.zero_add] at hr'
        go_wp2_with (at_builtin; refine append_known _ rfl (.tmp 28) (.tmp 34) 44 rfl _ _ _ _ rfl rfl hr' ?_)
        exact ⟨⟨k + 1, by omega, by simp, KE.out.1, KE.out.2⟩, by simp [intOf]; omega⟩
      | true =>
        rw [hg] at dS
        simp only [Bool.not_true] at dS
        generalize setAt t.sets (atNo t.reads k).region (atNo t.reads k).slot = A at *
        go_wp2_with fail
        refine wp_region_quiet_below (by kernel_rfl) (by kernel_rfl) ?_
        repeat (go_big_quiet_step (exact cS _ _))
        refine wpQuiet_nil ?_
        intro _ hw'
        obtain ⟨⟨dq, osq⟩, hw''⟩ := hw'
        subst hw''
        have bq := below_regrown wr dq osq
        have KE : Hid (RowN (grow (redrawn wr dq) osq) (w.heap.size + 1) u3 (ofC t.sets (t.reads.take (k + 1))) ∧ Below (w.heap.size + 1) W (grow (redrawn wr dq) osq)) := ⟨by rw [ofC_no (atNo_of hlt) hg]; exact KA.out.1.later bq, KA.out.2.1.trans (bq.mono KA.out.2.2.2)⟩
        clear bq q0 q1 q2 q3 q4 q5 q6 n0 n1 n2 n3 n4 cS
        go_wp2
        exact ⟨⟨k + 1, by omega, by simp, KE.out.1, KE.out.2⟩, by simp [intOf]; omega⟩
    · obtain rfl : k = t.reads.length := by omega
      have hd : decide ((t.reads.length : Int) < (t.reads.length : Int)) = false := by simp
      rw [List.take_length] at hrow
      have p4 := hbt.c4
      dsimp only at p4
      have KE : Hid (RowN wr (w.heap.size + 1) u3 (ofC t.sets t.reads) ∧ Below w.heap.size w wr) := ⟨hrow, bw⟩
      clear hrow hbl h1 h2 h3 h4 bw hbt
      go_wp2
      go_ret
      exact CAns.of KE.out.1 (by omega) KE.out.2
end Go.Proofs.YtphpcgmnljhimaaGreat.tx
namespace Go.Proofs.YtphpcgmnljhimaaGreat
open Go.RowKit
open Go.Sort (grow)
def dwS (k : C6) (xs : List S5) : Bool := xs.any fun s => downB k (atP k.places s.region.toNat)
def dwN (k : C6) (xs : List tx.N5) : Bool := xs.any fun s => downB k (atP k.places s.region.toNat)
def strT (k : C6) (t : tx.T7) : Bool := if t.phase = 1 then !alB k t.home else if t.phase = 7 ∨ t.phase = 9 then false else if alB k t.home = false then true else (dwS k t.sets || dwN k (tx.ofC t.sets t.reads))
theorem dwS_no {k : C6} {xs : List S5} (h : ∀ j, j < xs.length → downB k (atP k.places (tx.atSe xs j).region.toNat) = false) : dwS k xs = false := by
  unfold dwS
  rw [List.any_eq_false]
  intro s hs
  obtain ⟨i, hi, rfl⟩ := List.getElem_of_mem hs
  have := h i hi
  simpa [tx.atSe, List.getElem?_eq_getElem hi] using this
theorem dwS_yes {k : C6} {xs : List S5} {j : Nat} (hj : j < xs.length) (h : downB k (atP k.places (tx.atSe xs j).region.toNat) = true) : dwS k xs = true := by
  unfold dwS
  rw [List.any_eq_true]
  exact ⟨xs[j], List.getElem_mem hj, by simpa [tx.atSe, List.getElem?_eq_getElem hj] using h⟩
theorem dwN_no {k : C6} {xs : List tx.N5} (h : ∀ j, j < xs.length → downB k (atP k.places (tx.atNo xs j).region.toNat) = false) : dwN k xs = false := by
  unfold dwN
  rw [List.any_eq_false]
  intro s hs
  obtain ⟨i, hi, rfl⟩ := List.getElem_of_mem hs
  have := h i hi
  simpa [tx.atNo, List.getElem?_eq_getElem hi] using this
theorem dwN_yes {k : C6} {xs : List tx.N5} {j : Nat} (hj : j < xs.length) (h : downB k (atP k.places (tx.atNo xs j).region.toNat) = true) : dwN k xs = true := by
  unfold dwN
  rw [List.any_eq_true]
  exact ⟨xs[j], List.getElem_mem hj, by simpa [tx.atNo, List.getElem?_eq_getElem hj] using h⟩
theorem clu_homeV {k : C6} (h : clusterB k = true) {i : Nat} (hi : i < k.txs.length) : 0 ≤ (atT k.txs i).home ∧ (atT k.txs i).home < (k.machines.length : Int) := by
  have h1 := (clu_up h).2.1 i hi
  simp only [clusterB, txsB, Bool.and_eq_true] at h
  have := List.all_eq_true.1 h.2 i (List.mem_range.2 hi)
  simp only [txAtB, Bool.and_eq_true, decide_eq_true_eq] at this
  simp only [tx.txB, tx.headB, Bool.and_eq_true] at h1
  have h3 := h1.1.1.1.1.1.1.1.2
  rw [inB_iff] at h3
  omega
theorem clu_read {k : C6} (h : clusterB k = true) {i : Nat} (hi : i < k.txs.length) {s : tx.N5} (hs : s ∈ (atT k.txs i).reads) : 0 ≤ s.region ∧ s.region < (k.places.length : Int) := by
  have h1 := (clu_up h).2.1 i hi
  have h2 := (tx.txB_no h1).1 s hs
  simp only [clusterB, txsB, Bool.and_eq_true] at h
  have h3 := List.all_eq_true.1 h.2 i (List.mem_range.2 hi)
  simp only [txAtB, readsB, Bool.and_eq_true] at h3
  obtain ⟨j, hj, rfl⟩ := List.getElem_of_mem hs
  have h4 := List.all_eq_true.1 h3.1.2 j (List.mem_range.2 hj)
  simp only [tx.atNo, List.getElem?_eq_getElem hj, Option.getD_some, decide_eq_true_eq] at h4
  simp only [tx.noteOkB, Bool.and_eq_true, inB_iff] at h2
  exact ⟨by omega, h4⟩
set_option maxRecDepth 100000 in
set_option maxHeartbeats 4000000 in
theorem l11Stricken_any (w : World) (a1 : Option Addr) (c1 : Nat) (a2 : Option Addr) (c2 : Nat) (a3 : Option Addr) (c3 : Nat) (k : C6) (t : tx.T7) (t0 : Option Addr) (t1 : Nat) (t2 : Option Addr) (t3 : Nat) (i : Nat) (hk : clusterB k = true) (hi : i < k.txs.length) (ht : atT k.txs i = t) (h : KCl.Rd w a1 c1 a2 c2 a3 c3 k) (hs : tx.SlT w ⟨t0, t1, t2, t3⟩ t) :
    Calls Tryz.prog 17 #[.agg #[.int .i64 k.config, .int .i64 k.clock, .slice a1 k.places.length c1, .slice a2 k.machines.length c2, .slice a3 k.txs.length c3, .bool k.lost], .agg #[.int .i64 t.id, .int .i64 t.home, .int .i64 t.phase, .int .i64 t.count, .slice t0 t.reads.length t1, .slice t2 t.sets.length t3, .int .i64 t.stamp]] w fun e w' => e = .returned (.bool (strT k t)) ∧ Below w.heap.size w w' := by
  have HQ : Hid ((∀ s ∈ t.sets, 0 ≤ s.region ∧ s.region < (k.places.length : Int)) ∧ (∀ s ∈ t.reads, 0 ≤ s.region ∧ s.region < (k.places.length : Int)) ∧ t.reads.length ≤ 12 ∧ t.sets.length ≤ 12) := by
    rw [← ht]
    exact ⟨fun s hs => clu_set hk hi hs, fun s hs => clu_read hk hi hs, (CSm.of hk).ts _ (List.mem_of_getElem? (atT_of hi))⟩
  have hhome := clu_homeV hk hi
  rw [ht] at hhome
  obtain ⟨U1, hU1⟩ : ∃ Y, Y = w.alloc (.cells #[.int .i64 k.config, .int .i64 k.clock, .slice a1 k.places.length c1, .slice a2 k.machines.length c2, .slice a3 k.txs.length c3, .bool k.lost] 33) := ⟨_, rfl⟩
  obtain ⟨U, hU⟩ : ∃ Y, Y = U1.alloc (.cells #[.int .i64 t.id, .int .i64 t.home, .int .i64 t.phase, .int .i64 t.count, .slice t0 t.reads.length t1, .slice t2 t.sets.length t3, .int .i64 t.stamp] 47) := ⟨_, rfl⟩
  have b1 : Below w.heap.size w U1 := by rw [hU1]; exact (Below.refl _ _).alloc (Nat.le_refl _) _
  have b2 : Below U1.heap.size U1 U := by rw [hU]; exact (Below.refl _ _).alloc (Nat.le_refl _) _
  have s1 : U1.heap.size = w.heap.size + 1 := by rw [hU1]; simp
  have FA : Hid (Bx U w.heap.size [.int .i64 k.config, .int .i64 k.clock, .slice a1 k.places.length c1, .slice a2 k.machines.length c2, .slice a3 k.txs.length c3, .bool k.lost]) := (show Bx U1 w.heap.size [.int .i64 k.config, .int .i64 k.clock, .slice a1 k.places.length c1, .slice a2 k.machines.length c2, .slice a3 k.txs.length c3, .bool k.lost] by rw [hU1]; exact Bx.made w [.int .i64 k.config, .int .i64 k.clock, .slice a1 k.places.length c1, .slice a2 k.machines.length c2, .slice a3 k.txs.length c3, .bool k.lost] _).later b2
  have FT : Hid (Bx U (w.heap.size + 1) [.int .i64 t.id, .int .i64 t.home, .int .i64 t.phase, .int .i64 t.count, .slice t0 t.reads.length t1, .slice t2 t.sets.length t3, .int .i64 t.stamp]) := by
    have q : Bx U U1.heap.size [.int .i64 t.id, .int .i64 t.home, .int .i64 t.phase, .int .i64 t.count, .slice t0 t.reads.length t1, .slice t2 t.sets.length t3, .int .i64 t.stamp] := by rw [hU]; exact Bx.made U1 [.int .i64 t.id, .int .i64 t.home, .int .i64 t.phase, .int .i64 t.count, .slice t0 t.reads.length t1, .slice t2 t.sets.length t3, .int .i64 t.stamp] _
    rw [s1] at q; exact q
  have BW : Hid (Below w.heap.size w U) := bstep b1 b2
  have HR : Hid (KCl.Rd U a1 c1 a2 c2 a3 c3 k ∧ tx.SlT U ⟨t0, t1, t2, t3⟩ t ∧ clusterB k = true) := ⟨h.later (bstep b1 b2), hs.later (bstep b1 b2), hk⟩
  have hml : t.home.toNat < k.machines.length := by omega
  rcases HR.out.1.m with e0 | ⟨mb, mo, rfl, hmb, hmrd⟩
  · rw [e0] at hml; simp at hml
  obtain ⟨⟨m0, m1, m2, m3, m4, m5⟩, hmel, -⟩ := hmrd t.home.toNat _ (atM_of hml)
  have ga : U.cell? ⟨mb, mo + t.home.toNat * 4, none⟩ = some (.bool (alB k t.home)) := hmel 0 _ rfl
  have p3 := FA.out.1 3 _ rfl
  have q1 := FT.out.1 1 _ rfl
  have q2 := FT.out.1 2 _ rfl
  have jm : t.home < (k.machines.length : Int) := hhome.2
  have j0 : 0 ≤ t.home := hhome.1
  rw [hU1] at hU
  rw [hU] at p3 q1 q2 ga
  clear b1 b2 s1 h hs hmel hmrd hmb hhome ht hi hk hU1 hml
  go_enter Tryz.func17, Tryz.ntmps17
  by_cases P1 : t.phase = 1
  · have HS : Hid (strT k t = !alB k t.home) := by unfold Hid strT; rw [if_pos P1]
    have d1 : (t.phase == 1) = true := by rw [P1]; rfl
    clear P1
    generalize alB k t.home = al at *
    go_wp2
    rw [← hU]
    go_ret
    exact ⟨by rw [HS.out]; rfl, bstep BW.out (Below.refl _ _)⟩
  · have d1 : (t.phase == 1) = false := beq_eq_false_iff_ne.2 P1
    by_cases P7 : t.phase = 7
    · have HS : Hid (strT k t = false) := by unfold Hid strT; rw [if_neg P1, if_pos (.inl P7)]
      have d7 : (t.phase == 7) = true := by rw [P7]; rfl
      clear P1 P7
      go_wp2
      rw [← hU]
      go_ret
      exact ⟨by rw [HS.out]; rfl, bstep BW.out (Below.refl _ _)⟩
    · have d7 : (t.phase == 7) = false := beq_eq_false_iff_ne.2 P7
      by_cases P9 : t.phase = 9
      · have HS : Hid (strT k t = false) := by unfold Hid strT; rw [if_neg P1, if_pos (.inr P9)]
        have d9 : (t.phase == 9) = true := by rw [P9]; rfl
        clear P1 P7 P9
        go_wp2
        rw [← hU]
        go_ret
        exact ⟨by rw [HS.out]; rfl, bstep BW.out (Below.refl _ _)⟩
      · have d9 : (t.phase == 9) = false := beq_eq_false_iff_ne.2 P9
        cases hal : alB k t.home with
        | false =>
          have HS : Hid (strT k t = true) := by unfold Hid strT; rw [if_neg P1, if_neg (by omega), hal]; rfl
          rw [hal] at ga
          clear hal P1 P7 P9
          go_wp2
          rw [← hU]
          go_ret
          exact ⟨by rw [HS.out]; rfl, bstep BW.out (Below.refl _ _)⟩
        | true =>
          have HS0 : Hid (strT k t = (dwS k t.sets || dwN k (tx.ofC t.sets t.reads))) := by unfold Hid strT; rw [if_neg P1, if_neg (by omega), hal]; rfl
          rw [hal] at ga
          clear hal P1 P7 P9
          go_wp2
          rw [← hU]
          clear p3 q1 q2 ga hU d1 d7 d9 jm j0
          have hls := HQ.out.2.2.2
          go_loopw [6] (fun v6 wr => ∃ j : Nat, j ≤ t.sets.length ∧ v6 = .int .i64 j ∧ Below U.heap.size U wr ∧ ∀ q, q < j → downB k (atP k.places (tx.atSe t.sets q).region.toNat) = false) (fun v6 _ => t.sets.length - (intOf v6).toNat)
          case atStart => exact ⟨0, Nat.zero_le _, rfl, Below.refl _ _, fun q hq => absurd hq (by omega)⟩
          case round =>
            obtain ⟨j, hj, rfl, hbl, hlo⟩ := hrel
            have KD : Hid (Below U.heap.size U wr ∧ ∀ q, q < j → downB k (atP k.places (tx.atSe t.sets q).region.toNat) = false) := ⟨hbl, hlo⟩
            clear hbl hlo
            have p5 := (FT.out.later KD.out.1).1 5 _ rfl
            by_cases hlj : j < t.sets.length
            · obtain ⟨_, hsn⟩ := HR.out.2.1.s
              rcases hsn with hsn | ⟨sb, so, hsa, hsb, h2⟩
              · omega
              have hsa' : t2 = some ⟨sb, so, none⟩ := hsa
              subst hsa'
              have hck := (h2 j _ (tx.atSe_of hlj)).c0
              have hreg := HQ.out.1 _ (List.mem_of_getElem? (tx.atSe_of hlj))
              obtain ⟨r, hr⟩ : ∃ r : Nat, (tx.atSe t.sets j).region = (r : Int) := ⟨(tx.atSe t.sets j).region.toNat, by omega⟩
              have HD : Hid (downB k (atP k.places (tx.atSe t.sets j).region.toNat) = downB k (atP k.places r)) := by unfold Hid; rw [hr]; rfl
              rw [hr] at hck
              have hrp : r < k.places.length := by omega
              have xb0 : ∀ dd os, (grow (redrawn wr dd) os).cell? ⟨w.heap.size, 0, none⟩ = some (.int .i64 k.config) := fun dd os => ((bstep KD.out.1 (below_regrown wr dd os)).cell (p := ⟨w.heap.size, 0, none⟩) FA.out.2.2).trans (FA.out.1 0 _ rfl)
              have xb1 : ∀ dd os, (grow (redrawn wr dd) os).cell? ⟨w.heap.size, 1, none⟩ = some (.int .i64 k.clock) := fun dd os => ((bstep KD.out.1 (below_regrown wr dd os)).cell (p := ⟨w.heap.size, 1, none⟩) FA.out.2.2).trans (FA.out.1 1 _ rfl)
              have xb2 : ∀ dd os, (grow (redrawn wr dd) os).cell? ⟨w.heap.size, 2, none⟩ = some (.slice a1 k.places.length c1) := fun dd os => ((bstep KD.out.1 (below_regrown wr dd os)).cell (p := ⟨w.heap.size, 2, none⟩) FA.out.2.2).trans (FA.out.1 2 _ rfl)
              have xb3 : ∀ dd os, (grow (redrawn wr dd) os).cell? ⟨w.heap.size, 3, none⟩ = some (.slice (some ⟨mb, mo, none⟩) k.machines.length c2) := fun dd os => ((bstep KD.out.1 (below_regrown wr dd os)).cell (p := ⟨w.heap.size, 3, none⟩) FA.out.2.2).trans (FA.out.1 3 _ rfl)
              have xb4 : ∀ dd os, (grow (redrawn wr dd) os).cell? ⟨w.heap.size, 4, none⟩ = some (.slice a3 k.txs.length c3) := fun dd os => ((bstep KD.out.1 (below_regrown wr dd os)).cell (p := ⟨w.heap.size, 4, none⟩) FA.out.2.2).trans (FA.out.1 4 _ rfl)
              have xb5 : ∀ dd os, (grow (redrawn wr dd) os).cell? ⟨w.heap.size, 5, none⟩ = some (.bool k.lost) := fun dd os => ((bstep KD.out.1 (below_regrown wr dd os)).cell (p := ⟨w.heap.size, 5, none⟩) FA.out.2.2).trans (FA.out.1 5 _ rfl)
              have xt : ∀ dd os, (grow (redrawn wr dd) os).cell? ⟨w.heap.size + 1, 5, none⟩ = some (.slice (some ⟨sb, so, none⟩) t.sets.length t3) := fun dd os => ((bstep KD.out.1 (below_regrown wr dd os)).cell (p := ⟨w.heap.size + 1, 5, none⟩) FT.out.2.2).trans (FT.out.1 5 _ rfl)
              have xs : ∀ dd os, (grow (redrawn wr dd) os).cell? ⟨sb, so + j * 5, none⟩ = some (.int .i64 (r : Int)) := fun dd os => ((bstep KD.out.1 (below_regrown wr dd os)).cell (p := ⟨sb, so + j * 5, none⟩) hsb).trans (hck)
              have cQ : ∀ dd os, Calls Tryz.prog 32 #[.agg #[.int .i64 k.config, .int .i64 k.clock, .slice a1 k.places.length c1, .slice (some ⟨mb, mo, none⟩) k.machines.length c2, .slice a3 k.txs.length c3, .bool k.lost], .int .i64 (r : Int)] (grow (redrawn wr dd) os) fun e w'' => e = .returned (.bool (downB k (atP k.places r))) ∧ ∃ p : Regrown, w'' = grow (redrawn wr p.d) p.os := fun dd os => Calls.regrown_of (l11Down_any (grow (redrawn wr dd) os) a1 c1 (some ⟨mb, mo, none⟩) c2 a3 c3 k r HR.out.2.2 hrp (HR.out.1.later (bstep KD.out.1 (below_regrown wr dd os))))
              have jz : (j : Int) < (t.sets.length : Int) := by omega
              clear hck h2 hreg hr hrp hsb hsa
              generalize downB k (atP k.places r) = dn at *
              go_wp2_with fail
              refine wp_region_quiet_below (by kernel_rfl) (by kernel_rfl) ?_
              repeat (go_big_quiet_step (exact cQ _ _))
              refine wpQuiet_nil ?_
              intro _ hw'
              obtain ⟨⟨dq, osq⟩, hw''⟩ := hw'
              subst hw''
              have bq := below_regrown wr dq osq
              have K3 : Hid (Below U.heap.size U (grow (redrawn wr dq) osq)) := bstep KD.out.1 bq
              clear bq p5 xb0 xb1 xb2 xb3 xb4 xb5 xt xs cQ
              generalize grow (redrawn wr dq) osq = w3 at *
              cases dn with
              | true =>
                have HS : Hid (strT k t = true) := by unfold Hid; rw [HS0.out, dwS_yes hlj HD.out]; rfl
                go_wp2
                go_ret
                exact ⟨by rw [HS.out]; rfl, bstep BW.out K3.out⟩
              | false =>
                have hon : Hid (∀ q, q < j + 1 → downB k (atP k.places (tx.atSe t.sets q).region.toNat) = false) := fun q hq => by
                  by_cases e : q = j
                  · rw [e]; exact HD.out
                  · exact KD.out.2 q (by omega)
                go_wp2
                exact ⟨⟨j + 1, by omega, by simp, K3.out, hon.out⟩, by simp [intOf]; omega⟩
            · obtain rfl : j = t.sets.length := by omega
              have hd : decide ((t.sets.length : Int) < (t.sets.length : Int)) = false := by simp
              have HS1 : Hid (strT k t = dwN k (tx.ofC t.sets t.reads)) := by unfold Hid; rw [HS0.out, dwS_no KD.out.2]; rfl
              have hck := tx.l7Checks_any wr ⟨t0, t1, t2, t3⟩ t (by have := HQ.out.2.2.2; omega) (by have := HQ.out.2.2.1; omega) (HR.out.2.1.later KD.out.1)
              simp only [tx.TV.val] at hck
              have y0 := (FT.out.later KD.out.1).1 0 _ rfl
              have y1 := (FT.out.later KD.out.1).1 1 _ rfl
              have y2 := (FT.out.later KD.out.1).1 2 _ rfl
              have y3 := (FT.out.later KD.out.1).1 3 _ rfl
              have y4 := (FT.out.later KD.out.1).1 4 _ rfl
              have y5 := (FT.out.later KD.out.1).1 5 _ rfl
              have y6 := (FT.out.later KD.out.1).1 6 _ rfl
              have KB : Hid (Below U.heap.size U wr) := KD.out.1
              clear KD
              go_wp2_with fail
              refine hck.mono ?_
              clear hck hd p5 y0 y1 y2 y3 y4 y5 y6
              rintro e W4 ⟨ca, cc, PS, rfl, hon, hPS, b4⟩
              have K4 : Hid (Below U.heap.size U W4 ∧ tx.OwnNo W4 PS ca (tx.ofC t.sets t.reads)) := ⟨bstep KB.out b4, hon⟩
              have HQ2 : Hid (∀ s ∈ tx.ofC t.sets t.reads, 0 ≤ s.region ∧ s.region < (k.places.length : Int)) := fun s hs => HQ.out.2.1 s (List.mem_filter.1 hs).1
              clear hon hPS b4 KB
              have hln : (tx.ofC t.sets t.reads).length ≤ 12 := Nat.le_trans (tx.ofC_len _ _) HQ.out.2.2.1
              generalize tx.ofC t.sets t.reads = ns at *
              go_wp2
              go_loopw [8] (fun v8 wr => ∃ j : Nat, j ≤ ns.length ∧ v8 = .int .i64 j ∧ Below W4.heap.size W4 wr ∧ ∀ q, q < j → downB k (atP k.places (tx.atNo ns q).region.toNat) = false) (fun v8 _ => ns.length - (intOf v8).toNat)
              case atStart => exact ⟨0, Nat.zero_le _, rfl, Below.refl _ _, fun q hq => absurd hq (by omega)⟩
              case round =>
                obtain ⟨j, hj, rfl, hbl, hlo⟩ := hrel
                have KD : Hid (Below U.heap.size U wr ∧ Below W4.heap.size W4 wr ∧ ∀ q, q < j → downB k (atP k.places (tx.atNo ns q).region.toNat) = false) := ⟨bstep K4.out.1 hbl, hbl, hlo⟩
                clear hbl hlo
                by_cases hlj : j < ns.length
                · rcases K4.out.2 with e0 | ⟨nb, rfl, -, hnb, h2, -⟩
                  · rw [e0] at hlj; simp at hlj
                  have hck := (h2 j _ (tx.atNo_of hlj)).c0
                  have hreg := HQ2.out _ (List.mem_of_getElem? (tx.atNo_of hlj))
                  obtain ⟨r, hr⟩ : ∃ r : Nat, (tx.atNo ns j).region = (r : Int) := ⟨(tx.atNo ns j).region.toNat, by omega⟩
                  have HD : Hid (downB k (atP k.places (tx.atNo ns j).region.toNat) = downB k (atP k.places r)) := by unfold Hid; rw [hr]; rfl
                  rw [hr, Nat.zero_add] at hck
                  have hrp : r < k.places.length := by omega
                  have xb0 : ∀ dd os, (grow (redrawn wr dd) os).cell? ⟨w.heap.size, 0, none⟩ = some (.int .i64 k.config) := fun dd os => ((bstep KD.out.1 (below_regrown wr dd os)).cell (p := ⟨w.heap.size, 0, none⟩) FA.out.2.2).trans (FA.out.1 0 _ rfl)
                  have xb1 : ∀ dd os, (grow (redrawn wr dd) os).cell? ⟨w.heap.size, 1, none⟩ = some (.int .i64 k.clock) := fun dd os => ((bstep KD.out.1 (below_regrown wr dd os)).cell (p := ⟨w.heap.size, 1, none⟩) FA.out.2.2).trans (FA.out.1 1 _ rfl)
                  have xb2 : ∀ dd os, (grow (redrawn wr dd) os).cell? ⟨w.heap.size, 2, none⟩ = some (.slice a1 k.places.length c1) := fun dd os => ((bstep KD.out.1 (below_regrown wr dd os)).cell (p := ⟨w.heap.size, 2, none⟩) FA.out.2.2).trans (FA.out.1 2 _ rfl)
                  have xb3 : ∀ dd os, (grow (redrawn wr dd) os).cell? ⟨w.heap.size, 3, none⟩ = some (.slice (some ⟨mb, mo, none⟩) k.machines.length c2) := fun dd os => ((bstep KD.out.1 (below_regrown wr dd os)).cell (p := ⟨w.heap.size, 3, none⟩) FA.out.2.2).trans (FA.out.1 3 _ rfl)
                  have xb4 : ∀ dd os, (grow (redrawn wr dd) os).cell? ⟨w.heap.size, 4, none⟩ = some (.slice a3 k.txs.length c3) := fun dd os => ((bstep KD.out.1 (below_regrown wr dd os)).cell (p := ⟨w.heap.size, 4, none⟩) FA.out.2.2).trans (FA.out.1 4 _ rfl)
                  have xb5 : ∀ dd os, (grow (redrawn wr dd) os).cell? ⟨w.heap.size, 5, none⟩ = some (.bool k.lost) := fun dd os => ((bstep KD.out.1 (below_regrown wr dd os)).cell (p := ⟨w.heap.size, 5, none⟩) FA.out.2.2).trans (FA.out.1 5 _ rfl)
                  have xs : ∀ dd os, (grow (redrawn wr dd) os).cell? ⟨nb, j * 5, none⟩ = some (.int .i64 (r : Int)) := fun dd os => ((bstep KD.out.2.1 (below_regrown wr dd os)).cell (p := ⟨nb, j * 5, none⟩) hnb).trans (hck)
                  have cQ : ∀ dd os, Calls Tryz.prog 32 #[.agg #[.int .i64 k.config, .int .i64 k.clock, .slice a1 k.places.length c1, .slice (some ⟨mb, mo, none⟩) k.machines.length c2, .slice a3 k.txs.length c3, .bool k.lost], .int .i64 (r : Int)] (grow (redrawn wr dd) os) fun e w'' => e = .returned (.bool (downB k (atP k.places r))) ∧ ∃ p : Regrown, w'' = grow (redrawn wr p.d) p.os := fun dd os => Calls.regrown_of (l11Down_any (grow (redrawn wr dd) os) a1 c1 (some ⟨mb, mo, none⟩) c2 a3 c3 k r HR.out.2.2 hrp (HR.out.1.later (bstep KD.out.1 (below_regrown wr dd os))))
                  have jz : (j : Int) < (ns.length : Int) := by omega
                  clear hck h2 hreg hr hrp hnb
                  generalize downB k (atP k.places r) = dn at *
                  go_wp2_with fail
                  refine wp_region_quiet_below (by kernel_rfl) (by kernel_rfl) ?_
                  repeat (go_big_quiet_step (exact cQ _ _))
                  refine wpQuiet_nil ?_
                  intro _ hw'
                  obtain ⟨⟨dq, osq⟩, hw''⟩ := hw'
                  subst hw''
                  have bq := below_regrown wr dq osq
                  have K3 : Hid (Below U.heap.size U (grow (redrawn wr dq) osq) ∧ Below W4.heap.size W4 (grow (redrawn wr dq) osq)) := ⟨bstep KD.out.1 bq, bstep KD.out.2.1 bq⟩
                  clear bq xb0 xb1 xb2 xb3 xb4 xb5 xs cQ
                  generalize grow (redrawn wr dq) osq = w3 at *
                  cases dn with
                  | true =>
                    have HS : Hid (strT k t = true) := by unfold Hid; rw [HS1.out, dwN_yes hlj HD.out]
                    go_wp2
                    go_ret
                    exact ⟨by rw [HS.out]; rfl, bstep BW.out K3.out.1⟩
                  | false =>
                    have hon : Hid (∀ q, q < j + 1 → downB k (atP k.places (tx.atNo ns q).region.toNat) = false) := fun q hq => by
                      by_cases e : q = j
                      · rw [e]; exact HD.out
                      · exact KD.out.2.2 q (by omega)
                    go_wp2
                    exact ⟨⟨j + 1, by omega, by simp, K3.out.2, hon.out⟩, by simp [intOf]; omega⟩
                · obtain rfl : j = ns.length := by omega
                  have hd : decide ((ns.length : Int) < (ns.length : Int)) = false := by simp
                  have HS : Hid (strT k t = false) := by unfold Hid; rw [HS1.out, dwN_no KD.out.2.2]
                  go_wp2
                  go_ret
                  exact ⟨by rw [HS.out]; rfl, bstep BW.out KD.out.1⟩
def strB (k : C6) (y : Int) : Bool := if clusterB k = true then (if atId k.txs y < k.txs.length then strT k (atT k.txs (atId k.txs y)) else false) else false
set_option maxRecDepth 100000 in
set_option maxHeartbeats 4000000 in
theorem specStricken_any (w : World) (a1 : Option Addr) (c1 : Nat) (a2 : Option Addr) (c2 : Nat) (a3 : Option Addr) (c3 : Nat) (k : C6) (y : Int) (hl : KCl.L k) (h : KCl.Rd w a1 c1 a2 c2 a3 c3 k) :
    Calls Tryz.prog 6 #[.agg #[.int .i64 k.config, .int .i64 k.clock, .slice a1 k.places.length c1, .slice a2 k.machines.length c2, .slice a3 k.txs.length c3, .bool k.lost], .int .i64 y] w fun e w' => e = .returned (.bool (strB k y)) ∧ Below w.heap.size w w' := by
  obtain ⟨U, hU⟩ : ∃ Y, Y = w.alloc (.cells #[.int .i64 k.config, .int .i64 k.clock, .slice a1 k.places.length c1, .slice a2 k.machines.length c2, .slice a3 k.txs.length c3, .bool k.lost] 33) := ⟨_, rfl⟩
  have bU : Below w.heap.size w U := by rw [hU]; exact (Below.refl _ _).alloc (Nat.le_refl _) _
  have xU : Bx U w.heap.size [.int .i64 k.config, .int .i64 k.clock, .slice a1 k.places.length c1, .slice a2 k.machines.length c2, .slice a3 k.txs.length c3, .bool k.lost] := by rw [hU]; exact Bx.made w [.int .i64 k.config, .int .i64 k.clock, .slice a1 k.places.length c1, .slice a2 k.machines.length c2, .slice a3 k.txs.length c3, .bool k.lost] _
  have hf := l8Find_any U a1 c1 a2 c2 a3 c3 k y hl (h.later bU)
  have p0 := xU.1 0 _ rfl
  have p1 := xU.1 1 _ rfl
  have p2 := xU.1 2 _ rfl
  have p3 := xU.1 3 _ rfl
  have p4 := xU.1 4 _ rfl
  have p5 := xU.1 5 _ rfl
  have H : Hid (Below w.heap.size w U ∧ Bx U w.heap.size [.int .i64 k.config, .int .i64 k.clock, .slice a1 k.places.length c1, .slice a2 k.machines.length c2, .slice a3 k.txs.length c3, .bool k.lost] ∧ KCl.Rd U a1 c1 a2 c2 a3 c3 k ∧ KCl.L k) := ⟨bU, xU, h.later bU, hl⟩
  rw [hU] at p0 p1 p2 p3 p4 p5
  clear bU xU h hl
  go_enter Tryz.func6, Tryz.ntmps6
  go_wp2_with fail
  rw [← hU]
  clear hU p0 p1 p2 p3 p4 p5
  refine hf.mono ?_
  clear hf
  rintro e w1 ⟨⟨z, rfl, hfirst⟩, b1⟩
  have H1 : Hid (Below w.heap.size w w1 ∧ Bx w1 w.heap.size [.int .i64 k.config, .int .i64 k.clock, .slice a1 k.places.length c1, .slice a2 k.machines.length c2, .slice a3 k.txs.length c3, .bool k.lost] ∧ KCl.Rd w1 a1 c1 a2 c2 a3 c3 k) := ⟨bstep H.out.1 b1, H.out.2.1.later b1, H.out.2.2.1.later b1⟩
  have HF := hidOf (atId_first hfirst)
  clear b1 hfirst
  have cA : ∀ dd os, Calls Tryz.prog 16 #[.agg #[.int .i64 k.config, .int .i64 k.clock, .slice a1 k.places.length c1, .slice a2 k.machines.length c2, .slice a3 k.txs.length c3, .bool k.lost]] (grow (redrawn w1 dd) os) fun e w'' => e = .returned (.bool (clusterB k)) ∧ ∃ p : Regrown, w'' = grow (redrawn w1 p.d) p.os := fun dd os => Calls.regrown_of (specClusterOk_any (grow (redrawn w1 dd) os) a1 c1 a2 c2 a3 c3 k H.out.2.2.2 (H1.out.2.2.later (below_regrown w1 dd os)))
  have xb0 : ∀ dd os, (grow (redrawn w1 dd) os).cell? ⟨w.heap.size, 0, none⟩ = some (.int .i64 k.config) := fun dd os => (H1.out.2.1.later (below_regrown w1 dd os)).1 0 _ rfl
  have xb1 : ∀ dd os, (grow (redrawn w1 dd) os).cell? ⟨w.heap.size, 1, none⟩ = some (.int .i64 k.clock) := fun dd os => (H1.out.2.1.later (below_regrown w1 dd os)).1 1 _ rfl
  have xb2 : ∀ dd os, (grow (redrawn w1 dd) os).cell? ⟨w.heap.size, 2, none⟩ = some (.slice a1 k.places.length c1) := fun dd os => (H1.out.2.1.later (below_regrown w1 dd os)).1 2 _ rfl
  have xb3 : ∀ dd os, (grow (redrawn w1 dd) os).cell? ⟨w.heap.size, 3, none⟩ = some (.slice a2 k.machines.length c2) := fun dd os => (H1.out.2.1.later (below_regrown w1 dd os)).1 3 _ rfl
  have xb4 : ∀ dd os, (grow (redrawn w1 dd) os).cell? ⟨w.heap.size, 4, none⟩ = some (.slice a3 k.txs.length c3) := fun dd os => (H1.out.2.1.later (below_regrown w1 dd os)).1 4 _ rfl
  have xb5 : ∀ dd os, (grow (redrawn w1 dd) os).cell? ⟨w.heap.size, 5, none⟩ = some (.bool k.lost) := fun dd os => (H1.out.2.1.later (below_regrown w1 dd os)).1 5 _ rfl
  cases hk : clusterB k with
  | false =>
    have HS : Hid (strB k y = false) := by unfold Hid; simp [strB, hk]
    rw [hk] at cA
    have cB := cA
    clear hk HF
    go_wp2_with fail
    refine wp_region_quiet_below (by kernel_rfl) (by kernel_rfl) ?_
    repeat (go_big_quiet_step (first | exact cA _ _ | exact cB _ _))
    refine wpQuiet_nil ?_
    intro _ hw'
    obtain ⟨⟨dq, osq⟩, hw''⟩ := hw'
    subst hw''
    have bq := below_regrown w1 dq osq
    have K3 : Hid (Below w.heap.size w (grow (redrawn w1 dq) osq)) := bstep H1.out.1 bq
    clear bq
    generalize grow (redrawn w1 dq) osq = w3 at *
    go_wp2
    go_ret
    exact ⟨by rw [HS.out]; rfl, K3.out⟩
  | true =>
    have HK := hidOf hk
    rw [hk] at cA
    rcases HF.out with ⟨rfl, hat⟩ | ⟨i, rfl, hi, hat⟩
    · have HS : Hid (strB k y = false) := by unfold Hid; simp [strB, hk, hat]
      have cB := cA
      clear hk hat HF
      go_wp2_with fail
      refine wp_region_quiet_below (by kernel_rfl) (by kernel_rfl) ?_
      repeat (go_big_quiet_step (first | exact cA _ _ | exact cB _ _))
      refine wpQuiet_nil ?_
      intro _ hw'
      obtain ⟨⟨dq, osq⟩, hw''⟩ := hw'
      subst hw''
      have bq := below_regrown w1 dq osq
      have K3 : Hid (Below w.heap.size w (grow (redrawn w1 dq) osq)) := bstep H1.out.1 bq
      clear bq
      generalize grow (redrawn w1 dq) osq = w3 at *
      go_wp2
      go_ret
      exact ⟨by rw [HS.out]; rfl, K3.out⟩
    · have HS : Hid (strB k y = strT k (atT k.txs i)) := by unfold Hid; simp [strB, hk, hat, hi]
      rcases H1.out.2.2.t with e0 | ⟨b, off, rfl, hb, hrd⟩
      · rw [e0] at hi; simp at hi
      obtain ⟨⟨t0, t1, t2, t3⟩, hel, hsl⟩ := hrd i _ (atT_of hi)
      have HSL : Hid (tx.SlT w1 ⟨t0, t1, t2, t3⟩ (atT k.txs i)) := hsl
      have xg0 : ∀ dd os, (grow (redrawn w1 dd) os).cell? ⟨b, off + i * 7, none⟩ = some (.int .i64 (atT k.txs i).id) := fun dd os => ((below_regrown w1 dd os).cell (p := ⟨b, off + i * 7, none⟩) hb).trans (hel 0 _ rfl)
      have xg1 : ∀ dd os, (grow (redrawn w1 dd) os).cell? ⟨b, off + i * 7 + 1, none⟩ = some (.int .i64 (atT k.txs i).home) := fun dd os => ((below_regrown w1 dd os).cell (p := ⟨b, off + i * 7 + 1, none⟩) hb).trans (hel 1 _ rfl)
      have xg2 : ∀ dd os, (grow (redrawn w1 dd) os).cell? ⟨b, off + i * 7 + 2, none⟩ = some (.int .i64 (atT k.txs i).phase) := fun dd os => ((below_regrown w1 dd os).cell (p := ⟨b, off + i * 7 + 2, none⟩) hb).trans (hel 2 _ rfl)
      have xg3 : ∀ dd os, (grow (redrawn w1 dd) os).cell? ⟨b, off + i * 7 + 3, none⟩ = some (.int .i64 (atT k.txs i).count) := fun dd os => ((below_regrown w1 dd os).cell (p := ⟨b, off + i * 7 + 3, none⟩) hb).trans (hel 3 _ rfl)
      have xg4 : ∀ dd os, (grow (redrawn w1 dd) os).cell? ⟨b, off + i * 7 + 4, none⟩ = some (.slice t0 (atT k.txs i).reads.length t1) := fun dd os => ((below_regrown w1 dd os).cell (p := ⟨b, off + i * 7 + 4, none⟩) hb).trans (hel 4 _ rfl)
      have xg5 : ∀ dd os, (grow (redrawn w1 dd) os).cell? ⟨b, off + i * 7 + 5, none⟩ = some (.slice t2 (atT k.txs i).sets.length t3) := fun dd os => ((below_regrown w1 dd os).cell (p := ⟨b, off + i * 7 + 5, none⟩) hb).trans (hel 5 _ rfl)
      have xg6 : ∀ dd os, (grow (redrawn w1 dd) os).cell? ⟨b, off + i * 7 + 6, none⟩ = some (.int .i64 (atT k.txs i).stamp) := fun dd os => ((below_regrown w1 dd os).cell (p := ⟨b, off + i * 7 + 6, none⟩) hb).trans (hel 6 _ rfl)
      have cB : ∀ dd os, Calls Tryz.prog 17 #[.agg #[.int .i64 k.config, .int .i64 k.clock, .slice a1 k.places.length c1, .slice a2 k.machines.length c2, .slice (some ⟨b, off, none⟩) k.txs.length c3, .bool k.lost], .agg #[.int .i64 (atT k.txs i).id, .int .i64 (atT k.txs i).home, .int .i64 (atT k.txs i).phase, .int .i64 (atT k.txs i).count, .slice t0 (atT k.txs i).reads.length t1, .slice t2 (atT k.txs i).sets.length t3, .int .i64 (atT k.txs i).stamp]] (grow (redrawn w1 dd) os) fun e w'' => e = .returned (.bool (strT k (atT k.txs i))) ∧ ∃ p : Regrown, w'' = grow (redrawn w1 p.d) p.os := fun dd os => Calls.regrown_of (l11Stricken_any (grow (redrawn w1 dd) os) a1 c1 a2 c2 (some ⟨b, off, none⟩) c3 k (atT k.txs i) t0 t1 t2 t3 i HK.out hi rfl (H1.out.2.2.later (below_regrown w1 dd os)) (HSL.out.later (below_regrown w1 dd os)))
      have jn : (i : Int) < (k.txs.length : Int) := by omega
      have dn : decide (0 ≤ (i : Int)) = true := by simp
      clear hk hat hrd hel hsl hb HF
      generalize strT k (atT k.txs i) = sb at *
      go_wp2_with fail
      refine wp_region_quiet_below (by kernel_rfl) (by kernel_rfl) ?_
      repeat (go_big_quiet_step (first | exact cA _ _ | exact cB _ _))
      refine wpQuiet_nil ?_
      intro _ hw'
      obtain ⟨⟨dq, osq⟩, hw''⟩ := hw'
      subst hw''
      have bq := below_regrown w1 dq osq
      have K3 : Hid (Below w.heap.size w (grow (redrawn w1 dq) osq)) := bstep H1.out.1 bq
      clear bq
      generalize grow (redrawn w1 dq) osq = w3 at *
      go_wp2
      go_ret
      exact ⟨by rw [HS.out]; rfl, K3.out⟩
end Go.Proofs.YtphpcgmnljhimaaGreat
namespace Go.Proofs.YtphpcgmnljhimaaGreat
open Go.RowKit
def regionB (zss : List (List Int)) (r : Int) : Bool := placesB zss && inB 0 ((zss.length : Int) - 1) r
def primR (zss : List (List Int)) (r : Int) : Int := if regionB zss r = true then atN (atP zss r.toNat) 0 else -1
def backL (zss : List (List Int)) (r : Int) : List Int := if regionB zss r = true then (atP zss r.toNat).drop 1 else []
end Go.Proofs.YtphpcgmnljhimaaGreat
namespace Go.Proofs.YtphpcgmnljhimaaGreat
open Go.RowKit
open Go.Sort (grow)
def knV (k : C6) (y g p z : Int) : Int := if dnB k y g z = true then 4 else if bkB k y g z = true then 3 else if (decide (z = p) && lkB k y g z) = true then 2 else 1
end Go.Proofs.YtphpcgmnljhimaaGreat
namespace Go.Proofs.YtphpcgmnljhimaaGreat
open Go.RowKit
structure PB (w : World) (base P : Nat) (v : Value) (zs : List Int) : Prop where
  cell : w.cell? ⟨P, 0, none⟩ = some v
  frz : w.frozen? ⟨P, 0, none⟩ = false
  lt : P < w.heap.size
  low : base ≤ P
  on : ON w base v zs
  ne : v.ownBlock ≠ some P
theorem PB.new (w : World) (base : Nat) (hb : base ≤ w.heap.size) : PB (w.alloc (.cells #[.slice none 0 0] 65)) base w.heap.size (.slice none 0 0) [] :=
  ⟨by go_simp, by go_simp, by simp, hb, ON.nil _ _, by simp [Value.ownBlock]⟩
theorem PB.step {w : World} {base P : Nat} {v : Value} {zs : List Int} (h : PB w base P v zs) (z : Int) (hm : zs.length ≤ 1000) (ty : TypeId) :
    ∃ v' W', (Builtin.append_ #[54, 54] ty #[v, .slice (some ⟨w.heap.size, 0, none⟩) 1 1]).run Tryz.prog (w.drew.alloc (.cells #[.int .i64 z] 2)) = .ok v' W'
      ∧ W'.cell? ⟨P, 0, none⟩ = some v ∧ W'.frozen? ⟨P, 0, none⟩ = false ∧ PB (W'.setCell ⟨P, 0, none⟩ v') base P v' (zs ++ [z]) ∧ Below base w (W'.setCell ⟨P, 0, none⟩ v') ∧ Below base w W' := by
  have hP := h.lt
  have hlow := h.low
  have bA : Below w.heap.size w (w.drew.alloc (.cells #[.int .i64 z] 2)) := ((Below.refl _ _).drew).alloc (Nat.le_refl _) _
  have sA : (w.drew.alloc (.cells #[.int .i64 z] 2)).heap.size = w.heap.size + 1 := by show (w.alloc _).heap.size = _; simp
  have cz : NumsAt (w.drew.alloc (.cells #[.int .i64 z] 2)) w.heap.size 0 [z] := fun i x e => by
    obtain ⟨rfl, rfl⟩ : i = 0 ∧ x = z := by
      cases i with
      | zero => simp at e; exact ⟨rfl, e.symm⟩
      | succ i => simp at e
    show (w.drew.alloc _).cell? ⟨w.drew.heap.size, 0, none⟩ = _
    go_simp
  obtain ⟨v', W', hr, ho, hg, hl⟩ := on_append (w.drew.alloc (.cells #[.int .i64 z] 2)) base v zs [z] w.heap.size 0 1 ty (h.on.below bA) cz (by simp; omega) (by omega)
  have hPA : P < (w.drew.alloc (.cells #[.int .i64 z] 2)).heap.size := by omega
  have c1 : W'.cell? ⟨P, 0, none⟩ = some v := (hg.cell_far ⟨P, 0, none⟩ hPA (fun e => h.ne e.symm)).trans ((bA.cell (p := ⟨P, 0, none⟩) hP).trans h.cell)
  have f1 : W'.frozen? ⟨P, 0, none⟩ = false := (hg.frozen_far ⟨P, 0, none⟩ hPA (fun e => h.ne e.symm)).trans ((bA.frozen (p := ⟨P, 0, none⟩) hP).trans h.frz)
  have hne : v'.ownBlock ≠ some P := by
    rcases hl with e | e
    · rw [e]; exact h.ne
    · rw [e]; intro e'; cases e'; omega
  have sz : P < W'.heap.size := Nat.lt_of_lt_of_le hPA hg.size
  refine ⟨v', W', hr, c1, f1, ⟨cell_set_same c1, by rw [World.frozen?_setCell]; exact f1, by simpa [World.setCell] using sz, hlow, ?_, hne⟩, ?_⟩
  · exact ho.kept fun q e => Below.heap_setCell _ _ _ _ (fun e' => hne (by rw [e, e']))
  · have hb1 : Below base w W' := (bA.mono (by omega)).grown hg (by omega) (fun q e => (World.ownsRow.lt h.on q e).1)
    exact ⟨hb1.setCell (p := ⟨P, 0, none⟩) hlow _, hb1⟩
structure OutP (w : World) (base : Nat) (v : Value) (zss : List (List Int)) (g : Nat → Nat) : Prop where
  row : ∃ cs : List Value, w.ownsRow base 65 1 v zss.length cs ∧ ∀ (i : Nat) (zs : List Int), zss[i]? = some zs → ∃ cap : Nat, cs[i]? = some (Value.slice (some ⟨g i, 0, none⟩) zs.length cap) ∧ zs.length ≤ cap
  low : ∀ i, i < zss.length → base ≤ g i
  lt : ∀ i, i < zss.length → g i < w.heap.size
  ne : ∀ i, i < zss.length → v.ownBlock ≠ some (g i)
  nums : ∀ i zs, zss[i]? = some zs → NumsAt w (g i) 0 zs
  room : ∀ i zs, zss[i]? = some zs → Room w (g i) zs.length
  inj : ∀ i j, i < zss.length → j < zss.length → g i = g j → i = j
theorem OutP.empty (w : World) (base : Nat) (hb : base ≤ w.heap.size) (g : Nat → Nat) : OutP (w.alloc (.cells #[] 65)) base (.slice (some ⟨w.heap.size, 0, none⟩) 0 0) [] g :=
  ⟨⟨[], World.ownsRow_made w #[] 0 hb (Nat.zero_le _) rfl, fun i zs e => by simp at e⟩, fun i h => by simp at h, fun i h => by simp at h, fun i h => by simp at h, fun i zs e => by simp at e, fun i zs e => by simp at e, fun i j h => by simp at h⟩
theorem OutP.below {w w' : World} {base : Nat} {v : Value} {zss : List (List Int)} {g : Nat → Nat} (h : OutP w base v zss g) (hb : Below w.heap.size w w') : OutP w' base v zss g := by
  have hi : ∀ i zs, zss[i]? = some zs → i < zss.length := fun i zs e => (List.getElem?_eq_some_iff.1 e).1
  obtain ⟨cs, ho, hc⟩ := h.row
  refine ⟨⟨cs, ⟨ho.1, ho.2.imp id ?_⟩, hc⟩, h.low, fun i hi => Nat.lt_of_lt_of_le (h.lt i hi) hb.size, h.ne, fun i zs e => (h.nums i zs e).of_block (hb.block _ (h.lt i (hi i zs e))), fun i zs e => (h.room i zs e).of_block (hb.block _ (h.lt i (hi i zs e))), h.inj⟩
  rintro ⟨q, cap, cur, rfl, l, hg, r⟩
  exact ⟨q, cap, cur, rfl, l, (hb.block q (World.ownsRow.lt ho q rfl).2).trans hg, r⟩
theorem info_place : (Tryz.prog.info? 65).map (fun i => (i.zero, i.size, i.bytes)) = some (some (.agg #[.slice none 0 0]), 1, 24) := by kernel_rfl
theorem OutP.push {W : World} {base e : Nat} {v : Value} {zss : List (List Int)} {g : Nat → Nat} (h : OutP W base v zss g) (zs : List Int) (q cap : Nat) (hm : zss.length ≤ 1000) (ty : TypeId)
    (he : W.cell? ⟨e, 0, none⟩ = some (.slice (some ⟨q, 0, none⟩) zs.length cap)) (hcp : zs.length ≤ cap) (hq : base ≤ q) (hl : q < W.heap.size) (hn : v.ownBlock ≠ some q) (hx : NumsAt W q 0 zs) (hr : Room W q zs.length) (hf : ∀ i, i < zss.length → g i ≠ q) (hbase : base ≤ W.heap.size) :
    ∃ v' W', (Builtin.append_ #[29, 29] ty #[v, .slice (some ⟨e, 0, none⟩) 1 1]).run Tryz.prog W = .ok v' W' ∧ OutP W' base v' (zss ++ [zs]) (fun i => if i = zss.length then q else g i) ∧ W.grownBy W' v.ownBlock ∧ (v'.ownBlock = v.ownBlock ∨ v'.ownBlock = some W.heap.size) ∧ v' ≠ .slice none 0 0 := by
  obtain ⟨cs, ho, hc⟩ := h.row
  have hcl : cs.length = zss.length := by simpa using ho.1
  obtain ⟨i0, hi0, hz0, hz1, hz2⟩ := info_parts info_place
  have hadd : ∀ (b o j : Nat), (⟨b, o, none⟩ : Addr).add j = ⟨b, o + j, none⟩ := fun b o j => by unfold Addr.add; split <;> simp_all
  obtain ⟨v', W', hrun, hown, hg, hnil, hlies⟩ := run_append_own_at (P := Tryz.prog) W base 29 ty 65 i0 (.agg #[.slice none 0 0]) 1 24 Tryz.underlying29 hi0 hz0 hz1 hz2 rfl (by decide)
    v zss.length cs ho ⟨e, 0, none⟩ 1 1 [.slice (some ⟨q, 0, none⟩) zs.length cap] rfl (fun j u hu => by
      cases j with
      | zero => simp at hu; subst hu; rw [hadd]; exact he
      | succ j => simp at hu)
    (fun u hu => by simp at hu; subst hu; rfl) (by unfold maxLen; omega) (by omega) hbase
  have far : ∀ x, x < W.heap.size → v.ownBlock ≠ some x → W'.heap[x]? = W.heap[x]? := fun x hx hne => hg.block x hx (fun e' => hne e'.symm)
  have nev : ∀ x, x < W.heap.size → v.ownBlock ≠ some x → v'.ownBlock ≠ some x := fun x hx hne => by
    rcases hlies with e' | e'
    · rw [e']; exact hne
    · rw [e']; intro e''; cases e''; omega
  have split : ∀ i ys, (zss ++ [zs])[i]? = some ys → (i < zss.length ∧ zss[i]? = some ys) ∨ (i = zss.length ∧ ys = zs) := fun i ys e' => by
    by_cases hi : i < zss.length
    · rw [List.getElem?_append_left hi] at e'
      exact .inl ⟨hi, e'⟩
    · rw [List.getElem?_append_right (by omega)] at e'
      have h0 : i - zss.length = 0 := by
        rcases Nat.eq_zero_or_pos (i - zss.length) with h | h
        · exact h
        · rw [List.getElem?_eq_none (by simp; omega)] at e'; cases e'
      rw [h0] at e'
      simp at e'
      exact .inr ⟨by omega, e'.symm⟩
  have hlen : (zss ++ [zs]).length = zss.length + 1 := by simp
  refine ⟨v', W', hrun, ⟨⟨cs ++ [.slice (some ⟨q, 0, none⟩) zs.length cap], by rw [hlen]; exact hown, fun i ys e' => ?_⟩, fun i hi => ?_, fun i hi => ?_, fun i hi => ?_, fun i ys e' => ?_, fun i ys e' => ?_, fun i k hi hk e' => ?_⟩, hg, hlies, fun e' => by obtain ⟨x, y, e'', _⟩ := World.ownsRow.form hown (by omega); rw [e'] at e''; cases e''⟩
  · rcases split i ys e' with ⟨hi, e'⟩ | ⟨rfl, rfl⟩
    · rw [if_neg (by omega), List.getElem?_append_left (by omega)]; exact hc i ys e'
    · rw [if_pos rfl, List.getElem?_append_right (by omega), hcl, Nat.sub_self]; exact ⟨cap, rfl, hcp⟩
  · rw [hlen] at hi
    by_cases e' : i = zss.length
    · rw [if_pos e']; exact hq
    · rw [if_neg e']; exact h.low i (by omega)
  · rw [hlen] at hi
    by_cases e' : i = zss.length
    · rw [if_pos e']; exact Nat.lt_of_lt_of_le hl hg.size
    · rw [if_neg e']; exact Nat.lt_of_lt_of_le (h.lt i (by omega)) hg.size
  · rw [hlen] at hi
    by_cases e' : i = zss.length
    · rw [if_pos e']; exact nev q hl hn
    · rw [if_neg e']; exact nev _ (h.lt i (by omega)) (h.ne i (by omega))
  · rcases split i ys e' with ⟨hi, e'⟩ | ⟨rfl, rfl⟩
    · rw [if_neg (by omega)]; exact (h.nums i ys e').of_block (far _ (h.lt i hi) (h.ne i hi))
    · rw [if_pos rfl]; exact hx.of_block (far q hl hn)
  · rcases split i ys e' with ⟨hi, e'⟩ | ⟨rfl, rfl⟩
    · rw [if_neg (by omega)]; exact (h.room i ys e').of_block (far _ (h.lt i hi) (h.ne i hi))
    · rw [if_pos rfl]; exact hr.of_block (far q hl hn)
  · rw [hlen] at hi hk
    by_cases ei : i = zss.length <;> by_cases ek : k = zss.length
    · omega
    · simp only [if_pos ei, if_neg ek] at e'; exact absurd e'.symm (hf k (by omega))
    · simp only [if_neg ei, if_pos ek] at e'; exact absurd e' (hf i (by omega))
    · simp only [if_neg ei, if_neg ek] at e'; exact h.inj i k (by omega) (by omega) e'
theorem OutP.grown {w w' : World} {base : Nat} {v : Value} {zss : List (List Int)} {g : Nat → Nat} {row : Option Nat} (h : OutP w base v zss g) (hg : w.grownBy w' row) (h1 : v.ownBlock ≠ row) (h2 : ∀ i, i < zss.length → row ≠ some (g i)) : OutP w' base v zss g := by
  have hi : ∀ i zs, zss[i]? = some zs → i < zss.length := fun i zs e => (List.getElem?_eq_some_iff.1 e).1
  obtain ⟨cs, ho, hc⟩ := h.row
  have far : ∀ i, i < zss.length → w'.heap[g i]? = w.heap[g i]? := fun i hi => hg.block _ (h.lt i hi) (fun e => h2 i hi e.symm)
  refine ⟨⟨cs, ⟨ho.1, ho.2.imp id ?_⟩, hc⟩, h.low, fun i hi => Nat.lt_of_lt_of_le (h.lt i hi) hg.size, h.ne, fun i zs e => (h.nums i zs e).of_block (far i (hi i zs e)), fun i zs e => (h.room i zs e).of_block (far i (hi i zs e)), h.inj⟩
  rintro ⟨q, cap, cur, rfl, l, hq, r⟩
  exact ⟨q, cap, cur, rfl, l, (hg.block q (World.ownsRow.lt ho q rfl).2 (fun e => h1 e)).trans hq, r⟩
theorem ON.grown {w w' : World} {base : Nat} {v : Value} {zs : List Int} {row : Option Nat} (h : ON w base v zs) (hg : w.grownBy w' row) (h1 : v.ownBlock ≠ row) : ON w' base v zs :=
  h.kept fun q e => hg.block q (World.ownsRow.lt h q e).2 (fun e' => h1 (e.trans e'))
theorem OutP.lies {w : World} {base : Nat} {v : Value} {zss : List (List Int)} {g : Nat → Nat} (h : OutP w base v zss g) {q : Nat} (e : v.ownBlock = some q) : base ≤ q ∧ q < w.heap.size := by
  obtain ⟨cs, ho, _⟩ := h.row
  exact World.ownsRow.lt ho q e
theorem OutP.own {w : World} {base : Nat} {v : Value} {zss : List (List Int)} {g : Nat → Nat} (h : OutP w base v zss g) (hv : v ≠ .slice none 0 0) : ∃ b cap, v = .slice (some ⟨b, 0, none⟩) zss.length cap ∧ base ≤ b ∧ b < w.heap.size ∧ zss.length ≤ cap ∧ OwnP w base b zss.length zss g := by
  obtain ⟨cs, ho, hc⟩ := h.row
  have ho' := ho
  rcases ho'.2 with ⟨e, _⟩ | ⟨b, cap, cur, rfl, hb, hg, hcp, _⟩
  · exact absurd e hv
  · refine ⟨b, cap, rfl, hb, (World.ownsRow.lt ho b rfl).2, hcp, ⟨rfl, fun i zs e => ?_, h.low, h.lt, fun i hi e => h.ne i hi (by rw [e]; rfl), h.nums, h.room, h.inj⟩⟩
    have hi : i < zss.length := (List.getElem?_eq_some_iff.1 e).1
    obtain ⟨cp, hcs, hle⟩ := hc i zs e
    exact ⟨cp, by rw [World.ownsRow.cellAt ho i (by omega)]; exact hcs, hle⟩
def atB (al : List Bool) (i : Nat) : Bool := al[i]?.getD false
theorem atB_of {al : List Bool} {i : Nat} (h : i < al.length) : al[i]? = some (atB al i) := by simp [atB, List.getElem?_eq_getElem h]
def BoolsAt (w : World) (b off : Nat) (al : List Bool) : Prop := ∀ i z, al[i]? = some z → w.cell? ⟨b, off + i, none⟩ = some (.bool z)
theorem BoolsAt.below {w w' : World} {B b off : Nat} {al : List Bool} (h : BoolsAt w b off al) (hb : Below B w w') (hB : b < B) : BoolsAt w' b off al := fun i z e => by rw [hb.cell (p := ⟨b, off + i, none⟩) hB]; exact h i z e
def SlB (w : World) (B : Nat) (a : Option Addr) (n : Nat) (al : List Bool) : Prop := al.length = n ∧ (n = 0 ∨ ∃ b off, a = some ⟨b, off, none⟩ ∧ b < B ∧ BoolsAt w b off al)
theorem SlB.below {w w' : World} {B : Nat} {a : Option Addr} {n : Nat} {al : List Bool} (h : SlB w B a n al) (hb : Below B w w') : SlB w' B a n al := by
  obtain ⟨h1, h2⟩ := h
  refine ⟨h1, ?_⟩
  rcases h2 with h2 | ⟨b, off, ha, hB, hx⟩
  · exact .inl h2
  · exact .inr ⟨b, off, ha, hB, hx.below hb hB⟩
theorem SlB.mono {w : World} {B B' : Nat} {a : Option Addr} {n : Nat} {al : List Bool} (h : SlB w B a n al) (hB : B ≤ B') : SlB w B' a n al := by
  obtain ⟨h1, h2⟩ := h
  refine ⟨h1, ?_⟩
  rcases h2 with h2 | ⟨b, off, ha, hb, hx⟩
  · exact .inl h2
  · exact .inr ⟨b, off, ha, by omega, hx⟩
def livesB (al : List Bool) (z : Int) : Bool := decide (z < (al.length : Int)) && atB al z.toNat
def keepL (al : List Bool) (zs : List Int) : List Int := zs.filter (livesB al)
def fillTo (al : List Bool) (p : List Int) : Nat → List Int
  | 0 => p
  | m + 1 => if (fillTo al p m).length < 3 ∧ atB al m = true ∧ hasB (fillTo al p m) (m : Int) = false then fillTo al p m ++ [(m : Int)] else fillTo al p m
def rowR (al : List Bool) (zs : List Int) : List Int := if keepL al zs = [] then zs else fillTo al (keepL al zs) al.length
def remapN (al : List Bool) (zss : List (List Int)) (n : Nat) : List (List Int) := (List.range n).map fun i => rowR al (atP zss i)
def lostN (al : List Bool) (zss : List (List Int)) (n : Nat) : List Int := ((List.range n).filter fun i => keepL al (atP zss i) = []).map fun (i : Nat) => (i : Int)
def remapB (zss : List (List Int)) (al : List Bool) : Bool := placesB zss && decide (al.length ≤ 8)
end Go.Proofs.YtphpcgmnljhimaaGreat
namespace Go.Proofs.YtphpcgmnljhimaaGreat
open Go.RowKit
open Go.Sort (grow)
theorem info_Boo : (Tryz.prog.info? 4).map (fun i => (i.zero, i.size, i.bytes)) = some (some (.bool false), 1, 1) := by kernel_rfl
theorem make_Boo (n : Nat) (hn : n ≤ 1048576) (w : World) : (Instr.makeSlice 151 (.int .i64 (n : Int)) (.int .i64 (n : Int))).run Tryz.prog w = .ok (.slice (some ⟨w.heap.size, 0, none⟩) n n) (w.alloc (.cells (madeCells #[.bool false] n) 4)) := by
  obtain ⟨i, hi, hzz⟩ := Option.map_eq_some_iff.1 info_Boo
  simp only [Prod.mk.injEq] at hzz
  obtain ⟨hz, hs, hb⟩ := hzz
  have := run_make (P := Tryz.prog) w 151 4 i _ Tryz.underlying151 hi hz .i64 .i64 (n : Int) (n : Int) (by omega) (by omega) (by rw [hb]; omega) (by omega)
  rw [hs] at this
  simpa [Value.cells] using this
def AlvAt (X : World) (b j : Nat) (ms : List M4) : Prop := ∀ t, t < j → X.cell? ⟨b, t, none⟩ = some (.bool (atM ms t).alive)
theorem AlvAt.below {X Y : World} {b j B : Nat} {ms : List M4} (h : AlvAt X b j ms) (hb : Below B X Y) (hB : b < B) : AlvAt Y b j ms := fun t ht => (hb.cell (p := ⟨b, t, none⟩) hB).trans (h t ht)
theorem AlvAt.set {X : World} {b j : Nat} {ms : List M4} (h : AlvAt X b j ms) {v : Value} (hv : X.cell? ⟨b, j, none⟩ = some v) : AlvAt (X.setCell ⟨b, j, none⟩ (.bool (atM ms j).alive)) b (j + 1) ms := fun t ht => by
  by_cases e : t = j
  · subst e
    exact cell_set_same hv
  · exact (cell_set_other e).trans (h t (by omega))
theorem AlvAt.sl {X : World} {b : Nat} {ms : List M4} (h : AlvAt X b ms.length ms) (hb : b < X.heap.size) : SlB X X.heap.size (some ⟨b, 0, none⟩) ms.length (ms.map M4.alive) :=
  ⟨by simp, .inr ⟨b, 0, rfl, hb, fun i x e => by
    rw [List.getElem?_map] at e
    obtain ⟨m, hm, rfl⟩ := Option.map_eq_some_iff.1 e
    have hi : i < ms.length := (List.getElem?_eq_some_iff.1 hm).1
    have := h i hi
    rw [Nat.zero_add, this, atM, hm]; rfl⟩⟩
set_option maxRecDepth 100000 in
set_option maxHeartbeats 4000000 in
theorem aliveOf_any (w : World) (a : Option Addr) (cap : Nat) (ms : List M4) (hn : ms.length ≤ 8) (hs : KMk.RdS w a ms) :
    Calls Tryz.prog 100 #[.slice a ms.length cap] w fun e w' => e = .returned (.slice (some ⟨w.heap.size, 0, none⟩) ms.length ms.length) ∧ SlB w' w'.heap.size (some ⟨w.heap.size, 0, none⟩) ms.length (ms.map M4.alive) ∧ w.heap.size < w'.heap.size ∧ Below w.heap.size w w' := by
  have hmk := make_Boo ms.length (by omega)
  obtain ⟨U, hU⟩ : ∃ Y, Y = w.alloc (.cells (madeCells #[.bool false] ms.length) 4) := ⟨_, rfl⟩
  have bU : Hid (Below w.heap.size w U) := by unfold Hid; rw [hU]; exact (Below.refl _ _).alloc (Nat.le_refl _) _
  have sU : Hid (w.heap.size < U.heap.size) := by unfold Hid; rw [hU]; simp
  have rU : Hid (Room U w.heap.size ms.length) := by unfold Hid; rw [hU]; exact room_made _ _ _ _
  have hm := membersOf_any U a cap ms hn (hs.later bU.out)
  clear hs
  go_enter Tryz.func100, Tryz.ntmps100
  go_wp2_with fail
  rw [← hU]
  clear hU hmk
  refine hm.mono ?_
  clear hm
  rintro e W ⟨rfl, hma, hsz, bW⟩
  have KW : Hid (MemAt U W U.heap.size ms.length ms ∧ Below w.heap.size w W ∧ Below U.heap.size U W) := ⟨hma, bstep bU.out bW, bW⟩
  have K0 : Hid (Room W w.heap.size ms.length ∧ w.heap.size < W.heap.size) := ⟨rU.out.below bW sU.out, Nat.lt_trans sU.out hsz⟩
  have KU : Hid (U.heap.size < W.heap.size) := hsz
  clear hma hsz bW
  generalize hus : U.heap.size = us at *
  go_wp2
  go_loopw [12] (fun v wr => ∃ j : Nat, j ≤ ms.length ∧ v = .int .i64 j ∧ Below w.heap.size w wr ∧ W.heap.size ≤ wr.heap.size ∧ Room wr w.heap.size ms.length ∧ AlvAt wr w.heap.size j ms ∧ MemAt U wr us ms.length ms) (fun v _ => ms.length - (intOf v).toNat)
  case atStart => exact ⟨0, Nat.zero_le _, rfl, KW.out.2.1, Nat.le_refl _, K0.out.1, fun t ht => by omega, KW.out.1⟩
  case round =>
    obtain ⟨j, hj, rfl, hbl, hsz, hrm, hal, hma⟩ := hrel
    by_cases hlt : j < ms.length
    · obtain ⟨a', c', hc0, _⟩ := hma j hlt
      have jn : (j : Int) < (ms.length : Int) := by omega
      have KH : Hid (Below w.heap.size w wr ∧ W.heap.size ≤ wr.heap.size ∧ Room wr w.heap.size ms.length ∧ AlvAt wr w.heap.size j ms ∧ MemAt U wr us ms.length ms) := ⟨hbl, hsz, hrm, hal, hma⟩
      clear hbl hsz hrm hal hma
      cases hal : (atM ms j).alive with
      | true =>
        have hv : memV (atM ms j) a' c' = .iface 146 (.agg #[.slice a' (atM ms j).copies.length c']) := by simp [memV, hal]
        have hme : ∀ w : World, (method 371 146 (.agg #[.slice a' (atM ms j).copies.length c']) "loop.example/g00153/impl.lives").run Tryz.prog w = .ok (236, .agg #[.slice a' (atM ms j).copies.length c']) w := fun _ => by kernel_rfl
        rw [hv] at hc0
        have hcl := livesL_any wr a' (atM ms j).copies.length c'
        have HAL : Hid ((atM ms j).alive = true) := hal
        clear hv hal
        go_wp2_with fail
        refine hcl.mono ?_
        clear hcl hme hc0
        rintro e w1 ⟨rfl, b1⟩
        have KB : Hid (Below wr.heap.size wr w1) := b1
        have hx : w.heap.size < wr.heap.size := Nat.lt_of_lt_of_le K0.out.2 KH.out.2.1
        obtain ⟨z, hz, hf⟩ : ∃ v, w1.cell? ⟨w.heap.size, j, none⟩ = some v ∧ w1.frozen? ⟨w.heap.size, j, none⟩ = false := (KH.out.2.2.1.below KB.out hx) j hlt
        have Z := hidOf hz
        have HX := hidOf hx
        clear b1 hx
        go_wp2
        have hset := (KH.out.2.2.2.1.below KB.out HX.out).set Z.out
        rw [HAL.out] at hset
        exact ⟨⟨j + 1, by omega, by simp, ((KH.out.1.trans (KB.out.mono KH.out.1.size)).setCell (p := ⟨w.heap.size, j, none⟩) (Nat.le_refl _) _), by simp [World.setCell]; exact Nat.le_trans KH.out.2.1 KB.out.size, (KH.out.2.2.1.below KB.out HX.out).set _, hset, fun t ht => by
          obtain ⟨a2, c2, h1, h2⟩ := KH.out.2.2.2.2 t ht
          have hne : us ≠ w.heap.size := by have := sU.out; omega
          exact ⟨a2, c2, (World.cell?_of_block (a := ⟨us, t, none⟩) (Below.heap_setCell _ _ _ _ (fun e => hne e))).trans ((KB.out.cell (p := ⟨us, t, none⟩) (Nat.lt_of_lt_of_le KU.out KH.out.2.1)).trans h1), h2⟩⟩, by simp [intOf]; omega⟩
      | false =>
        have hv : memV (atM ms j) a' c' = .iface 148 (.agg #[]) := by simp [memV, hal]
        have hme : ∀ w : World, (method 371 148 (.agg #[]) "loop.example/g00153/impl.lives").run Tryz.prog w = .ok (238, .agg #[]) w := fun _ => by kernel_rfl
        rw [hv] at hc0
        have hcl := livesD_any wr
        have HAL : Hid ((atM ms j).alive = false) := hal
        clear hv hal
        go_wp2_with fail
        refine hcl.mono ?_
        clear hcl hme hc0
        rintro e w1 ⟨rfl, b1⟩
        have KB : Hid (Below wr.heap.size wr w1) := b1
        have hx : w.heap.size < wr.heap.size := Nat.lt_of_lt_of_le K0.out.2 KH.out.2.1
        obtain ⟨z, hz, hf⟩ : ∃ v, w1.cell? ⟨w.heap.size, j, none⟩ = some v ∧ w1.frozen? ⟨w.heap.size, j, none⟩ = false := (KH.out.2.2.1.below KB.out hx) j hlt
        have Z := hidOf hz
        have HX := hidOf hx
        clear b1 hx
        go_wp2
        have hset := (KH.out.2.2.2.1.below KB.out HX.out).set Z.out
        rw [HAL.out] at hset
        exact ⟨⟨j + 1, by omega, by simp, ((KH.out.1.trans (KB.out.mono KH.out.1.size)).setCell (p := ⟨w.heap.size, j, none⟩) (Nat.le_refl _) _), by simp [World.setCell]; exact Nat.le_trans KH.out.2.1 KB.out.size, (KH.out.2.2.1.below KB.out HX.out).set _, hset, fun t ht => by
          obtain ⟨a2, c2, h1, h2⟩ := KH.out.2.2.2.2 t ht
          have hne : us ≠ w.heap.size := by have := sU.out; omega
          exact ⟨a2, c2, (World.cell?_of_block (a := ⟨us, t, none⟩) (Below.heap_setCell _ _ _ _ (fun e => hne e))).trans ((KB.out.cell (p := ⟨us, t, none⟩) (Nat.lt_of_lt_of_le KU.out KH.out.2.1)).trans h1), h2⟩⟩, by simp [intOf]; omega⟩
    · obtain rfl : j = ms.length := by omega
      have hd : decide ((ms.length : Int) < (ms.length : Int)) = false := by simp
      have hx : w.heap.size < wr.heap.size := Nat.lt_of_lt_of_le K0.out.2 hsz
      have KH : Hid (Below w.heap.size w wr ∧ SlB wr wr.heap.size (some ⟨w.heap.size, 0, none⟩) ms.length (ms.map M4.alive) ∧ w.heap.size < wr.heap.size) := ⟨hbl, hal.sl hx, hx⟩
      clear hbl hsz hrm hma hal hx
      go_wp2
      go_ret
      exact ⟨rfl, KH.out.2.1, KH.out.2.2, KH.out.1⟩
end Go.Proofs.YtphpcgmnljhimaaGreat