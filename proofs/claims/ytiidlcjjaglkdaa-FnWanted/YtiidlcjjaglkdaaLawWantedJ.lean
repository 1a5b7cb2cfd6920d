/- FnWanted: at every code the regions of the drawn transaction's Sets rise, their Sets are all of them, and its checks are just its notes without a Set; Wants and Checks answer as the specification does: no condition. -/
import Derived.Test.YtiidlcjjaglkdaaRows
import Derived.Test.YtiidlcjjaglkdaaJ9LawWanted
import Derived.Test.YtiidlcjjaglkdaaJ10LawWanted
import Derived.Test.YtiidlcjjaglkdaaJ4LawWanted
import Derived.WalkKit
import Derived.ProofKit
import Derived.OpenShut
import Derived.WalkSpells
import Derived.WalkLawsBesides
import Derived.Deep.RegionWith
import Derived.Deep.QuietTactic
import Derived.BigQuiet
import Derived.Deep.CutRange
namespace Go.Proofs.Ytiidlcjjaglkdaa.fnWanted
open Go.ChangeShapes Go.WideShapes Go.ChangeAt Go.RowKit
open Go.Sort (grow)
theorem own : ownKnob Try.prog.godebug = none := by kernel_rfl
theorem laidOut : laidOutB Try.prog = true := by kernel_rfl
structure Fx (w : World) (q : Nat) (v : TV) (t : T7) (X : World) : Prop where
  bt : BT X q v t
  sl : SlT X v t
  be : Below w.heap.size w X
theorem Fx.later {w : World} {q : Nat} {v : TV} {t : T7} {X Y : World} (h : Fx w q v t X) (hb : Below X.heap.size X Y) : Fx w q v t Y := ⟨h.bt.later hb, h.sl.later hb, h.be.trans (hb.mono h.be.size)⟩
structure Fw (w : World) (q : Nat) (v : TV) (t : T7) (a1 a2 : Option Addr) (X : World) : Prop extends Fx w q v t X where
  ws : SlN X X.heap.size a1 (wantsT t).length (wantsT t)
  cs : SlNo X X.heap.size a2 (checksT t).length (checksT t)
theorem Fw.later {w : World} {q : Nat} {v : TV} {t : T7} {a1 a2 : Option Addr} {X Y : World} (h : Fw w q v t a1 a2 X) (hb : Below X.heap.size X Y) : Fw w q v t a1 a2 Y := ⟨h.toFx.later hb, h.ws.later hb, h.cs.later hb⟩
theorem Fw.drewN {w : World} {q : Nat} {v : TV} {t : T7} {a1 a2 : Option Addr} {X : World} (h : Fw w q v t a1 a2 X) (m : Nat) : Fw w q v t a1 a2 (X.drewN m) := h.later (below_dn (Below.refl _ _) m)
set_option maxRecDepth 100000 in
set_option maxHeartbeats 16000000 in
theorem walk (a : Option Addr) (n k : Nat) (w : World) (hb : Bytes w w.heap.size a n) :
    Calls Try.prog 4 #[.slice a n k] w fun e w' => e = .returned (.bool true) ∧ Below w.heap.size w w' := by
  have hmm := hb.1
  unfold maxLen at hmm
  by_cases hn : n ≤ 4096
  · have HB : Hid (Bytes w w.heap.size a n) := hb
    clear hb
    go_enter Try.func4, Try.ntmps4
    go_wp2_with (go_at_call 8; go_in)
    refine (DrawWants_any w a n k HB.out hn).mono ?_
    rintro e w1 ⟨⟨ar, cr, ah, ch⟩, t, rfl, hsl, hl1, hl2, -, -, b1⟩
    simp only [TV.val]
    have sm := hsl w1 (Nat.le_refl _) (fun _ _ _ => rfl)
    have TLt : Hid (TL t ∧ t.reads.length ≤ 100 ∧ t.sets.length ≤ 100) := ⟨⟨by unfold maxLen; omega, by unfold maxLen; omega⟩, hl1, hl2⟩
    have A1 : Hid (∀ (X : World), SlT X ⟨ar, cr, ah, ch⟩ t → Calls Try.prog 18 #[.agg #[.int .i64 t.id, .int .i64 t.home, .int .i64 t.phase, .int .i64 t.count, .slice ar t.reads.length cr, .slice ah t.sets.length ch, .int .i64 t.stamp]] X (IAns X (wantsT t))) := fun X h => by
      have hh := implWants_any X ⟨ar, cr, ah, ch⟩ t TLt.out.1 h
      simp only [TV.val] at hh
      exact hh
    have A2 : Hid (∀ (X : World), SlT X ⟨ar, cr, ah, ch⟩ t → Calls Try.prog 21 #[.agg #[.int .i64 t.id, .int .i64 t.home, .int .i64 t.phase, .int .i64 t.count, .slice ar t.reads.length cr, .slice ah t.sets.length ch, .int .i64 t.stamp]] X (IAns X (wantsT t))) := fun X h => by
      have hh := specWants_any X ⟨ar, cr, ah, ch⟩ t TLt.out.1 h
      simp only [TV.val] at hh
      exact hh
    have A3 : Hid (∀ (X : World), SlT X ⟨ar, cr, ah, ch⟩ t → Calls Try.prog 19 #[.agg #[.int .i64 t.id, .int .i64 t.home, .int .i64 t.phase, .int .i64 t.count, .slice ar t.reads.length cr, .slice ah t.sets.length ch, .int .i64 t.stamp]] X (CAns X (checksT t))) := fun X h => by
      have hh := implChecks_any X ⟨ar, cr, ah, ch⟩ t TLt.out.1 h
      simp only [TV.val] at hh
      exact hh
    have A4 : Hid (∀ (X : World), SlT X ⟨ar, cr, ah, ch⟩ t → Calls Try.prog 23 #[.agg #[.int .i64 t.id, .int .i64 t.home, .int .i64 t.phase, .int .i64 t.count, .slice ar t.reads.length cr, .slice ah t.sets.length ch, .int .i64 t.stamp]] X (CAns X (checksT t))) := fun X h => by
      have hh := specChecks_any X ⟨ar, cr, ah, ch⟩ t TLt.out.1 h
      simp only [TV.val] at hh
      exact hh
    have A5 : Hid (∀ (X : World), SlT X ⟨ar, cr, ah, ch⟩ t → Calls Try.prog 16 #[.agg #[.int .i64 t.id, .int .i64 t.home, .int .i64 t.phase, .int .i64 t.count, .slice ar t.reads.length cr, .slice ah t.sets.length ch, .int .i64 t.stamp]] X (fun e w' => e = .returned (.bool (txB t)) ∧ Below X.heap.size X w')) := fun X h => by
      have hh := implTxOk_any X ⟨ar, cr, ah, ch⟩ t TLt.out.1 h
      simp only [TV.val] at hh
      exact hh
    have A6 : Hid (∀ (X : World) (g : Int), SlT X ⟨ar, cr, ah, ch⟩ t → Calls Try.prog 24 #[.agg #[.int .i64 t.id, .int .i64 t.home, .int .i64 t.phase, .int .i64 t.count, .slice ar t.reads.length cr, .slice ah t.sets.length ch, .int .i64 t.stamp], .int .i64 g] X (SAns X (setsOfT t g))) := fun X g h => by
      have hh := implSetsOf_any X ⟨ar, cr, ah, ch⟩ t g TLt.out.1 h
      simp only [TV.val] at hh
      exact hh
    have hw0 := wantsT_short t
    have hc0 := checksT_short t
    have hlW : (wantsT t).length ≤ maxLen := by unfold maxLen; omega
    have hlC : (checksT t).length ≤ maxLen := by unfold maxLen; omega
    obtain ⟨v1, hv1⟩ : ∃ X, X = w1.alloc (.cells #[.int .i64 t.id, .int .i64 t.home, .int .i64 t.phase, .int .i64 t.count, .slice ar t.reads.length cr, .slice ah t.sets.length ch, .int .i64 t.stamp] 27) := ⟨_, rfl⟩
    have bv1 : Below w1.heap.size w1 v1 := by rw [hv1]; exact (Below.refl _ _).alloc (Nat.le_refl _) _
    obtain ⟨q1, hq1⟩ : ∃ q, q = w1.heap.size := ⟨_, rfl⟩
    have F1 : Hid (Fx w q1 ⟨ar, cr, ah, ch⟩ t v1) := ⟨by rw [hv1, hq1]; exact BT.box w1 ⟨ar, cr, ah, ch⟩ t _, sm.later bv1, b1.trans (bv1.mono b1.size)⟩
    clear sm bv1 b1 hsl hl1 hl2 HB
    go_wp2_with fail
    rw [← hv1, ← hq1]
    clear hv1 hq1
    refine (A1.out v1 F1.out.sl).mono ?_
    rintro e w2 ⟨a1, c1, _, rfl, o1, -, b2⟩
    have F2 := hidOf (F1.out.later b2)
    have R2 := hidOf o1.sl
    clear o1 b2 F1
    obtain ⟨p0, p1, p2, p3, p4, p5, p6, -, -⟩ := F2.out.bt
    dsimp only at p4 p5
    go_wp2_with fail
    refine (A3.out w2 F2.out.sl).mono ?_
    clear p0 p1 p2 p3 p4 p5 p6
    rintro e w3 ⟨a2, c2, _, rfl, o2, -, b3⟩
    have F3 : Hid (Fw w q1 ⟨ar, cr, ah, ch⟩ t a1 a2 w3) := ⟨F2.out.later b3, R2.out.later b3, o2.sl⟩
    clear o2 b3 F2 R2
    obtain ⟨p0, p1, p2, p3, p4, p5, p6, -, -⟩ := F3.out.bt
    dsimp only at p4 p5
    go_wp2_with fail
    refine (A2.out w3 F3.out.sl).mono ?_
    clear p0 p1 p2 p3 p4 p5 p6
    rintro e w4 ⟨a3, c3, _, rfl, o3, -, b4⟩
    have F4 := hidOf (F3.out.later b4)
    have R4 := hidOf o3.sl
    clear o3 b4 F3
    go_wp2_with fail
    refine (likeInts_any w4 a1 a3 _ c1 c3 (wantsT t) hlW F4.out.ws R4.out).mono ?_
    rintro e w5 ⟨rfl, b5⟩
    have F5 := hidOf (F4.out.later b5)
    clear b5 F4 R4
    obtain ⟨p0, p1, p2, p3, p4, p5, p6, -, -⟩ := F5.out.bt
    dsimp only at p4 p5
    go_wp2_with fail
    refine (A4.out w5 F5.out.sl).mono ?_
    clear p0 p1 p2 p3 p4 p5 p6
    rintro e w6 ⟨a4, c4, _, rfl, o4, -, b6⟩
    have F6 := hidOf (F5.out.later b6)
    have R6 := hidOf o4.sl
    clear o4 b6 F5
    go_wp2_with fail
    refine (likeNotes_any w6 a2 a4 _ c2 c4 (checksT t) hlC F6.out.cs R6.out).mono ?_
    rintro e w7 ⟨rfl, b7⟩
    have F7 := hidOf (F6.out.later b7)
    clear b7 F6 R6
    obtain ⟨p0, p1, p2, p3, p4, p5, p6, -, -⟩ := F7.out.bt
    dsimp only at p4 p5
    go_wp2_with fail
    refine (A5.out w7 F7.out.sl).mono ?_
    clear p0 p1 p2 p3 p4 p5 p6
    rintro e w8 ⟨rfl, b8⟩
    have F8 := hidOf (F7.out.later b8)
    clear b8 F7
    unfold maxLen at hlW hlC
    have hTS := TLt.out.2
    obtain ⟨ok, hok⟩ : ∃ b, txB t = b := ⟨_, rfl⟩
    rw [hok]
    cases ok
    · have e1 : wantsT t = [] := by simp [wantsT, hok]
      have e2 : checksT t = [] := by simp [checksT, hok]
      simp only [e1, e2, List.length_nil]
      clear e1 e2 hok hlW hlC hw0 hc0
      go_wp2
      go_ret
      exact ⟨rfl, F8.out.be⟩
    · have HQ : Hid (txB t = true) := hok
      clear hok
      go_wp2
      go_loopw [6, 7] (fun v6 v7 wr => ∃ j : Nat, j ≤ (wantsT t).length ∧ v7 = .int .i64 j ∧ v6 = .int .i64 (sumW t j) ∧ Fw w q1 ⟨ar, cr, ah, ch⟩ t a1 a2 wr) (fun _ v7 _ => (wantsT t).length - (intOf v7).toNat)
      case atStart => exact ⟨0, Nat.zero_le _, rfl, by rw [sumW_zero]; rfl, F8.out⟩
      case round =>
        obtain ⟨j, hj, rfl, rfl, hF⟩ := hrel
        have K1 := hidOf hF
        clear hF F8
        generalize wr = W1 at *
        by_cases hlt : j < (wantsT t).length
        · have hlt' : (j : Int) < ((wantsT t).length : Int) := by omega
          obtain ⟨_, hr⟩ := K1.out.ws
          rcases hr with h0 | ⟨b, off, rfl, hb, -⟩
          · omega
          have CZ : Hid (∀ X i, Fw w q1 ⟨ar, cr, ah, ch⟩ t (some ⟨b, off, none⟩) a2 X → i < (wantsT t).length → X.cell? ⟨b, off + i, none⟩ = some (.int .i64 (atN (wantsT t) i))) := fun X i hX hi => by
            obtain ⟨_, hr⟩ := hX.ws
            rcases hr with h0 | ⟨b', off', e, _, hx⟩
            · omega
            · injection e with e
              injection e with e1 e2 _
              subst e1 e2
              exact hx i _ (atN_of hi)
          have iD : Hid (Fw w q1 ⟨ar, cr, ah, ch⟩ t (some ⟨b, off, none⟩) a2 W1.drew) := K1.out.drewN 1
          clear K1 hb
          go_wp2_with fail
          refine wp_region_z (fun _ => false) (fun X : World => BT X q1 ⟨ar, cr, ah, ch⟩ t ∧ X.cell? ⟨b, off + j, none⟩ = some (.int .i64 (atN (wantsT t) j))) (by kernel_rfl) ?_
          generalize W1.drew = D at *
          have hS : (fun X : World => BT X q1 ⟨ar, cr, ah, ch⟩ t ∧ X.cell? ⟨b, off + j, none⟩ = some (.int .i64 (atN (wantsT t) j))) D := ⟨iD.out.bt, CZ.out D j iD.out hlt⟩
          refine wpZ_take (i := 0) (v := ?_) rfl (by kernel_rfl) (fun _ _ _ h => h) (Or.inl ⟨by rfl, ?_⟩) hS ?_
          rotate_left
          · (intro X hSw; obtain ⟨⟨p0, p1, p2, p3, p4, p5, p6, -, -⟩, pz⟩ := hSw; dsimp only at p4 p5; go_simp; first | done | with_reducible rfl)
          simp only [Act.put]
          refine wpZ_takeP (i := 1) (v := ?_) rfl (by kernel_rfl) (fun _ _ _ h => h) (Or.inl ⟨by rfl, ?_⟩) hS ?_
          rotate_left
          · (intro X _; go_simp; first | done | with_reducible rfl | (rw [if_pos (by omega)]) | (rw [if_pos (by omega)]; go_simp))
          simp only [Act.put]
          refine wpZ_takeP (i := 2) (v := ?_) rfl (by kernel_rfl) (fun _ _ _ h => h) (Or.inl ⟨by rfl, ?_⟩) hS ?_
          rotate_left
          · (intro X _; go_simp; first | done | with_reducible rfl | (rw [if_pos (by omega)]) | (rw [if_pos (by omega)]; go_simp))
          simp only [Act.put]
          refine wpZ_takeP (i := 3) (v := ?_) rfl (by kernel_rfl) (fun _ _ _ h => h) (Or.inl ⟨by rfl, ?_⟩) hS ?_
          rotate_left
          · (intro X _; go_simp; first | done | with_reducible rfl | (rw [if_pos (by omega)]) | (rw [if_pos (by omega)]; go_simp))
          simp only [Act.put]
          refine wpZ_take (i := 4) (v := ?_) rfl (by kernel_rfl) (fun _ _ _ h => h) (Or.inl ⟨by rfl, ?_⟩) hS ?_
          rotate_left
          · (intro X hSw; obtain ⟨⟨p0, p1, p2, p3, p4, p5, p6, -, -⟩, pz⟩ := hSw; dsimp only at p4 p5; go_simp; first | done | with_reducible rfl)
          simp only [Act.put]
          refine wpZ_ready (rs := [5]) (by kernel_rfl) (by simp) ?_
          refine AllZ.cons rfl (fun K hK => ?_) AllZ.nil
          go_simp
          refine (A6.out D (atN (wantsT t) j) iD.out.sl).mono ?_
          rintro e E ⟨a5, c5, _, rfl, -, -, b5⟩
          have FE := hidOf (iD.out.later b5)
          clear b5
          refine hK.out _ _ (fun _ => ⟨FE.out.bt, CZ.out E j FE.out hlt⟩) ?_
          clear hK K hS
          refine wpZ_ready (rs := [6]) (by kernel_rfl) (by simp) ?_
          refine AllZ.cons rfl (fun K hK => ?_) AllZ.nil
          go_simp
          refine hK.out _ _ (fun _ => ⟨FE.out.bt, CZ.out E j FE.out hlt⟩) ?_
          clear hK K iD
          refine wpZ_done (by kernel_rfl) ?_ _
          have HS : Hid (sumW t (j + 1) = sumW t j + (setsOfT t (atN (wantsT t) j)).length) := sumW_next t hlt
          have hpos : 0 < (setsOfT t (atN (wantsT t) j)).length := wants_some HQ.out hlt
          have hsl : sumW t j ≤ 1000 := sumW_le HQ.out j
          have hsl2 : sumW t j + (setsOfT t (atN (wantsT t) j)).length ≤ 1000 := by have := sumW_le HQ.out (j + 1); rw [HS.out] at this; exact this
          have c0 := CZ.out E j FE.out hlt
          have hd1 : (((setsOfT t (atN (wantsT t) j)).length : Int) == 0) = false := beq_eq_false_iff_ne.2 (by omega)
          rcases j with _ | i
          · clear CZ
            go_wp2_with fail
            go_quiet (fail)
            go_wp2
            exact ⟨⟨0 + 1, by omega, by simp, by rw [HS.out]; simp, FE.out.drewN _⟩, by simp [intOf]; omega⟩
          · have hnx : decide (atN (wantsT t) (i + 1) ≤ atN (wantsT t) i) = false := by have := wants_next HQ.out hlt; simp; omega
            have c1 := CZ.out E i FE.out (by omega)
            clear CZ
            go_wp2_with fail
            go_quiet (fail)
            go_wp2
            exact ⟨⟨i + 1 + 1, by omega, by simp, by rw [HS.out]; simp, FE.out.drewN _⟩, by simp [intOf]; omega⟩
        · obtain rfl : (wantsT t).length = j := by omega
          have hd : decide (((wantsT t).length : Int) < ((wantsT t).length : Int)) = false := by simp
          rw [sumW_all HQ.out]
          go_wp2
          go_loopw [9] (fun v9 wr => ∃ i : Nat, i ≤ (checksT t).length ∧ v9 = .int .i64 i ∧ Fw w q1 ⟨ar, cr, ah, ch⟩ t a1 a2 wr) (fun v9 _ => (checksT t).length - (intOf v9).toNat)
          case atStart => exact ⟨0, Nat.zero_le _, rfl, K1.out⟩
          case round =>
            obtain ⟨i, hi, rfl, hF⟩ := hrel
            have K2 := hidOf hF
            clear hF K1
            generalize wr = W2 at *
            by_cases hlt2 : i < (checksT t).length
            · have hlt2' : (i : Int) < ((checksT t).length : Int) := by omega
              go_wp2
              go_loopw [10] (fun v10 wr => ∃ m : Nat, m ≤ t.sets.length ∧ v10 = .int .i64 m ∧ Fw w q1 ⟨ar, cr, ah, ch⟩ t a1 a2 wr) (fun v10 _ => t.sets.length - (intOf v10).toNat)
              case atStart => exact ⟨0, Nat.zero_le _, rfl, K2.out⟩
              case round =>
                obtain ⟨m, hm, rfl, hF⟩ := hrel
                have K3 := hidOf hF
                clear hF K2
                generalize wr = W3 at *
                have p5 := K3.out.bt.c5
                dsimp only at p5
                by_cases hlt3 : m < t.sets.length
                · have hlt3' : (m : Int) < (t.sets.length : Int) := by omega
                  have hno := checks_none HQ.out hlt2 hlt3
                  obtain ⟨_, hr1⟩ := K3.out.sl.s
                  obtain ⟨_, hr2⟩ := K3.out.cs
                  dsimp only at hr1
                  rcases hr1 with h0 | ⟨b, off, rfl, hb, hx⟩
                  · omega
                  rcases hr2 with h0 | ⟨b', off', rfl, hb', hy⟩
                  · omega
                  obtain ⟨x0, x1, -, -, -⟩ := hx m _ (atSe_of hlt3)
                  obtain ⟨y0, y1, -, -, -⟩ := hy i _ (atNo_of hlt2)
                  clear hx hy hb hb'
                  by_cases he : (atSe t.sets m).region = (atNo (checksT t) i).region
                  · have hd1 : ((atSe t.sets m).region == (atNo (checksT t) i).region) = true := by simp [he]
                    have hd2 : ((atSe t.sets m).slot == (atNo (checksT t) i).slot) = false := by simpa using fun h => hno ⟨he, h⟩
                    clear hno he
                    go_wp2_with fail
                    go_quiet (fail)
                    go_wp2
                    exact ⟨⟨m + 1, by omega, by simp, K3.out.drewN _⟩, by simp [intOf]; omega⟩
                  · have hd1 : ((atSe t.sets m).region == (atNo (checksT t) i).region) = false := by simpa using he
                    clear hno he
                    go_wp2_with fail
                    go_quiet (fail)
                    go_wp2
                    exact ⟨⟨m + 1, by omega, by simp, K3.out.drewN _⟩, by simp [intOf]; omega⟩
                · obtain rfl : t.sets.length = m := by omega
                  have hd3 : decide ((t.sets.length : Int) < (t.sets.length : Int)) = false := by simp
                  go_wp2
                  exact ⟨⟨i + 1, by omega, by simp, K3.out⟩, by simp [intOf]; omega⟩
            · obtain rfl : (checksT t).length = i := by omega
              have hd2 : decide (((checksT t).length : Int) < ((checksT t).length : Int)) = false := by simp
              obtain ⟨l1, l2⟩ := checks_len HQ.out
              have p4 := K2.out.bt.c4
              have p5 := K2.out.bt.c5
              dsimp only at p4 p5
              have hg1 : decide (((checksT t).length : Int) ≤ (t.reads.length : Int)) = true := by simp; omega
              have hg2 : decide (((checksT t).length : Int) + (t.sets.length : Int) ≥ (t.reads.length : Int)) = true := by simp; omega
              go_wp2
              go_ret
              exact ⟨rfl, K2.out.be⟩
  · go_enter Try.func4, Try.ntmps4
    have hbig : (4096 : Int) < (n : Int) := by omega
    go_wp2_with (go_at_call 8; go_in)
    go_ret
    exact ⟨rfl, Below.refl _ _⟩
set_option maxRecDepth 100000 in
theorem lifted (os : Os) (started : os.Started) (H : Type) (enc : TypeId × Value → H) :
    ReturnsInHanded {} Try.checked os 4 .any (Rows.fnWantedSpec.pre6 enc Try.prog Try.f4 Rows.fnWantedRow.domain false) (Rows.fnWantedSpec.post enc Try.prog Try.f4 false true false false) := by
  refine returnsInHanded_of_change (C := Try.checked) own started (by kernel_rfl) Try.func4
    (ChangeSpec.witness6 (enc := enc) (C := Try.checked) false ⟨#[], #[.slice none 0 0], []⟩ 8 (by kernel_rfl) (by kernel_rfl) (by kernel_rfl) (by kernel_rfl)) ?_
  intro W base args ds gs before hval0 hW hcnd _
  have hval : ∀ (j : Nat) t v, Try.f4.params[j]? = some t → args[j]? = some v → Value.okWide Try.prog W .any base t v := hval0
  have hW' := hW
  obtain ⟨p, q, hA0, hV, rfl, hfz, hnd⟩ := hW
  have hA : DataW.TrodAll enc Try.prog W 0 (fun _ => true) true Try.f4.params.toList args.toList ds p := hA0
  rw [Try.params4] at hA hval
  obtain ⟨v0, vs0, d0, ds0, p0, q0, hargs, rfl, rfl, h0, r0⟩ := trodAll_cons hA
  obtain ⟨rfl, rfl, rfl⟩ := trodAll_nil r0
  obtain rfl : args = #[v0] := by cases args; simp_all
  obtain ⟨rfl, rfl⟩ := trodVars_none hV
  obtain ⟨a0, len0, cap0, rfl⟩ := okWide_slice Try.underlying22 (hval 0 22 v0 rfl rfl)
  have k0 := h0
  have lt0 : ∀ x ∈ p0, x.block < W.heap.size := by obtain ⟨m, hm⟩ := k0; exact DataW.trod_lt m _ _ _ hm
  obtain ⟨z0, w0⟩ : ∃ zs, IsRow .u8 W a0 len0 cap0 zs := by
    obtain ⟨fuel, hf⟩ := h0
    rcases open_ints Try.underlying22 Try.underlying5 (by kernel_rfl) hf with ⟨hcs, _⟩ | ⟨x, l, c, zs, hcs, _, hl, hm, hz, _, hcell, hwz⟩
    · simp [Value.cells] at hcs
      obtain ⟨rfl, rfl, rfl⟩ := hcs
      exact ⟨[], .inl ⟨rfl, rfl, rfl, rfl⟩⟩
    · simp [Value.cells] at hcs
      obtain ⟨rfl, rfl, rfl⟩ := hcs
      exact ⟨zs, .inr ⟨_, rfl, hl, hm, by simpa using hz, hcell, hwz⟩⟩
  clear hA0 hval0
  refine (walk a0 len0 cap0 W w0.bytes).mono fun e W' ⟨he, bel⟩ => ?_
  subst he
  exact ⟨_, rfl, _, _, _, [], _, [], hW', trodAll_mk1 (shut_bool Try.underlying4 _), (trodAll_cons_mk (Below.trod laidOut (by kernel_rfl) (of_decide_eq_true (by kernel_rfl)) k0 bel lt0) trodAll_mk0), rfl, bel.frame _, fun h => by cases h⟩

theorem over : Rows.fnWantedRow.holds Try.pinned (OpenSpec.ofChange Rows.fnWantedSpec) :=
  OpenClaim.holds_of_wide 4 Try.f4 rfl rfl rfl rfl rfl rfl rfl ⟨rfl, rfl, rfl, rfl, rfl⟩ rfl rfl rfl rfl rfl (by kernel_rfl) Try.func4 (by kernel_rfl)
    (of_decide_eq_true (by kernel_rfl)) (by unfold Func.isWrapper; first | (rw [if_pos (by decide +kernel)]; kernel_rfl) | (rw [if_neg (by decide +kernel)]; exact ⟨rfl, rfl⟩))
    (fun os started H enc _ => lifted os started H enc)

end Go.Proofs.Ytiidlcjjaglkdaa.fnWanted
namespace Go.Proofs.Ytiidlcjjaglkdaa
theorem fnWanted_holds : Rows.FnWantedSaid := fnWanted.over
#print axioms fnWanted_holds
end Go.Proofs.Ytiidlcjjaglkdaa
