/- OwCl; YTxR; YTxK: joined. -/
import Derived.Test.YtohcgfdnjgkfjaaGreatDoorRows
import Derived.Test.YtohcgfdnjgkfjaaGreatDoorJ8ExactBegin
import Derived.Test.YtohcgfdnjgkfjaaGreatDoorJ2ExactBegin
import Derived.WalkKit
import Derived.WalkSpells
import Derived.WalkLawsBesides
import Derived.Below
import Derived.Lib.QuietBelow
import Derived.BigQuiet
import Derived.Deep.CutRange
import Derived.Deep.Upon
import Derived.Lib.SliceRun
import Derived.Test.YtohcgfdnjgkfjaaGreatDoorJ7ExactBegin
import Derived.Deep.RegionWith
namespace Go.Proofs.YtohcgfdnjgkfjaaGreatDoor
open Go.RowKit
open Go.Sort (grow)
set_option maxHeartbeats 1000000 in
theorem clone_any (w : World) (b off cap : Nat) (zs : List Int) (hb : b < w.heap.size) (hs : NumsAt w b off zs) (hn : zs.length ≤ 1000) :
    Calls Tryz.prog 148 #[.slice (some ⟨b, off, none⟩) zs.length cap] w fun e w' => ∃ q cp, e = .returned (.slice (some ⟨q, 0, none⟩) zs.length cp) ∧ ON w' w.heap.size (.slice (some ⟨q, 0, none⟩) zs.length cp) zs ∧ Below w.heap.size w w' := by
  have bA : Below w.heap.size w (w.alloc (.cells #[] 2)) := (Below.refl _ _).alloc (Nat.le_refl _) _
  obtain ⟨v', W', hr, ho, hg, hl⟩ := on_append (w.alloc (.cells #[] 2)) w.heap.size _ [] zs b off cap 60 (ON.empty w) (hs.below bA hb) (by simp; omega) bA.size
  rw [List.nil_append] at ho
  have hb2 : Below w.heap.size w W' := bA.grown hg bA.size (fun k h => by cases h; exact Nat.le_refl _)
  obtain ⟨g, cp, rfl⟩ : ∃ g cp, v' = .slice (some ⟨g, 0, none⟩) zs.length cp := by
    rcases ho.form with ⟨rfl, _⟩ | ⟨g, cp, e, _⟩
    · rcases hl with h | h <;> cases h
    · exact ⟨g, cp, e⟩
  have HK : Hid (ON W' w.heap.size (.slice (some ⟨g, 0, none⟩) zs.length cp) zs ∧ Below w.heap.size w W') := ⟨ho, hb2⟩
  clear ho hg hl hb2 bA hs
  have heq : (binOp .eql 60 (.slice (some ⟨b, off, none⟩) zs.length cap) (.slice none 0 0)).run Tryz.prog w = .ok (.bool false) w := Go.Lib.run_eql_slice_nil w 60 2 (some ⟨b, off, none⟩) zs.length cap 0 0 Tryz.underlying60
  go_enter Tryz.func148, Tryz.ntmps148
  go_wp2_with (at_builtin; refine append_known _ rfl (.tmp 5) (.tmp 6) 60 rfl _ _ _ _ rfl rfl hr ?_)
  go_ret
  exact ⟨g, cp, rfl, HK.out.1, HK.out.2⟩
set_option maxRecDepth 100000 in
set_option maxHeartbeats 2500000 in
theorem ownCluster_any (w : World) (a1 : Option Addr) (c1 : Nat) (a2 : Option Addr) (c2 : Nat) (a3 : Option Addr) (c3 : Nat) (k : C6) (hk : clusterB k = true) (h : KCl.Rd w a1 c1 a2 c2 a3 c3 k) :
    Calls Tryz.prog 91 #[.agg #[.int .i64 k.config, .int .i64 k.clock, .slice a1 k.places.length c1, .slice a2 k.machines.length c2, .slice a3 k.txs.length c3, .bool k.lost]] w (ClAns w k) := by
  have H : Hid (CSm k ∧ KCl.Rd w a1 c1 a2 c2 a3 c3 k) := ⟨CSm.of hk, h⟩
  clear hk h
  obtain ⟨W0, hW0⟩ : ∃ X, X = ((w.alloc (.cells #[.int .i64 k.config, .int .i64 k.clock, .slice a1 k.places.length c1, .slice a2 k.machines.length c2, .slice a3 k.txs.length c3, .bool k.lost] 32)).alloc (.cells #[.int .i64 0, .int .i64 0, .slice none 0 0, .slice none 0 0, .slice none 0 0, .bool false] 32)).alloc (.cells #[.int .i64 k.config, .int .i64 k.clock, .slice none 0 0, .slice none 0 0, .slice none 0 0, .bool k.lost] 32) := ⟨_, rfl⟩
  have S0 : Hid (CSt w [.int .i64 k.config, .int .i64 k.clock, .slice a1 k.places.length c1, .slice a2 k.machines.length c2, .slice a3 k.txs.length c3, .bool k.lost] [.int .i64 0, .int .i64 0, .slice none 0 0, .slice none 0 0, .slice none 0 0, .bool false] k W0 (.slice none 0 0) (.slice none 0 0) (.slice none 0 0) [] gnone [] gnone [] gnone) := by
    obtain ⟨U1, hU1⟩ : ∃ X, X = w.alloc (.cells #[.int .i64 k.config, .int .i64 k.clock, .slice a1 k.places.length c1, .slice a2 k.machines.length c2, .slice a3 k.txs.length c3, .bool k.lost] 32) := ⟨_, rfl⟩
    have x1 : Bx U1 w.heap.size [.int .i64 k.config, .int .i64 k.clock, .slice a1 k.places.length c1, .slice a2 k.machines.length c2, .slice a3 k.txs.length c3, .bool k.lost] := by rw [hU1]; exact Bx.made w [.int .i64 k.config, .int .i64 k.clock, .slice a1 k.places.length c1, .slice a2 k.machines.length c2, .slice a3 k.txs.length c3, .bool k.lost] _
    have b1 : Below w.heap.size w U1 := by rw [hU1]; exact (Below.refl _ _).alloc (Nat.le_refl _) _
    have z1 : U1.heap.size = w.heap.size + 1 := by rw [hU1]; simp
    obtain ⟨U2, hU2⟩ : ∃ X, X = U1.alloc (.cells #[.int .i64 0, .int .i64 0, .slice none 0 0, .slice none 0 0, .slice none 0 0, .bool false] 32) := ⟨_, rfl⟩
    have x2 : Bx U2 U1.heap.size [.int .i64 0, .int .i64 0, .slice none 0 0, .slice none 0 0, .slice none 0 0, .bool false] := by rw [hU2]; exact Bx.made U1 [.int .i64 0, .int .i64 0, .slice none 0 0, .slice none 0 0, .slice none 0 0, .bool false] _
    have b2 : Below U1.heap.size U1 U2 := by rw [hU2]; exact (Below.refl _ _).alloc (Nat.le_refl _) _
    have z2 : U2.heap.size = U1.heap.size + 1 := by rw [hU2]; simp
    have x3 : Bx W0 U2.heap.size [.int .i64 k.config, .int .i64 k.clock, .slice none 0 0, .slice none 0 0, .slice none 0 0, .bool k.lost] := by rw [hW0, hU2, hU1]; exact Bx.made _ [.int .i64 k.config, .int .i64 k.clock, .slice none 0 0, .slice none 0 0, .slice none 0 0, .bool k.lost] _
    have b3 : Below U2.heap.size U2 W0 := by rw [hW0, hU2, hU1]; exact (Below.refl _ _).alloc (Nat.le_refl _) _
    rw [show U2.heap.size = w.heap.size + 2 by omega] at x3
    rw [show U1.heap.size = w.heap.size + 1 by omega] at x2
    exact ⟨(x1.later b2).later b3, x2.later b3, x3, CL3.nil _ _ _, bstep (bstep b1 b2) b3⟩
  have p2 := S0.out.arg.1 2 _ rfl
  rw [hW0] at p2
  go_enter Tryz.func91, Tryz.ntmps91
  go_wp2
  rw [← hW0]
  rw [← hW0] at p2
  clear hW0 p2
  go_loopw [21] (fun v wr => ∃ (j : Nat) (bP : Option Addr) (dP : Nat) (ps : List ((Nat × Nat) × List Int)) (gp : Nat → Nat → Prop), j ≤ k.places.length ∧ v = .int .i64 j ∧ ps.map (·.2) = k.places.take j ∧ CSt w [.int .i64 k.config, .int .i64 k.clock, .slice a1 k.places.length c1, .slice a2 k.machines.length c2, .slice a3 k.txs.length c3, .bool k.lost] [.int .i64 0, .int .i64 0, .slice none 0 0, .slice none 0 0, .slice none 0 0, .bool false] k wr (.slice bP j dP) (.slice none 0 0) (.slice none 0 0) ps gp [] gnone [] gnone) (fun v _ => k.places.length - (intOf v).toNat)
  case atStart => exact ⟨0, none, 0, [], gnone, Nat.zero_le _, rfl, by simp, S0.out⟩
  case round =>
    obtain ⟨j, bP, dP, ps, gp, hj, rfl, hmp, hst⟩ := hrel
    have hln : k.places.length ≤ 1000 := by have := H.out.1.p; omega
    have p2 := hst.arg.1 2 _ rfl
    have p3 := hst.arg.1 3 _ rfl
    have p4 := hst.arg.1 4 _ rfl
    by_cases hlt : j < k.places.length
    · skip
      have hat := atP_of hlt
      have hlp : ps.length = j := by have := congrArg List.length hmp; simpa [Nat.min_eq_left hj] using this
      have hrd := H.out.2.later hst.bel
      obtain ⟨_, hsl⟩ := hrd.p
      rcases hsl with h0 | ⟨b, off, rfl, hb, hsl⟩
      · omega
      obtain ⟨z0, z1, e0, ⟨_, hzs⟩, hcp⟩ := hsl j _ hat
      obtain ⟨hz1, hz3⟩ := H.out.1.ps _ (List.mem_of_getElem? hat)
      rcases hzs with h0 | ⟨zb, zo, rfl, hzb, hzn⟩
      · omega
      have es0 := e0
      clear hsl hrd
      obtain ⟨X0, hX0⟩ : ∃ X, X = wr.alloc (.cells #[.slice (some ⟨zb, zo, none⟩) (atP k.places j).length z1] 127) := ⟨_, rfl⟩
      have bX : Below wr.heap.size wr X0 := by rw [hX0]; exact (Below.refl _ _).alloc (Nat.le_refl _) _
      have xX : Bx X0 wr.heap.size [.slice (some ⟨zb, zo, none⟩) (atP k.places j).length z1] := by rw [hX0]; exact Bx.made wr [.slice (some ⟨zb, zo, none⟩) (atP k.places j).length z1] _
      have hcl := clone_any X0.drew zb zo z1 (atP k.places j) (by have := bX.size; show zb < X0.heap.size; omega) (hzn.below (bX.drew) hzb) (by omega)
      have HS := hidOf hst
      have HX : Hid (Below wr.heap.size wr X0 ∧ wr.heap.size + 1 ≤ X0.heap.size) := ⟨bX, by rw [hX0]; simp⟩
      have HB := hidOf xX
      have HM : Hid (ps.map (·.2) = k.places.take j ∧ ps.length = j ∧ k.places[j]? = some (atP k.places j)) := ⟨hmp, hlp, hat⟩
      clear hst bX xX hmp hlp hat hzn hzb hcp
      go_wp2_with fail
      rw [← hX0]
      clear hX0
      refine wp_region_until 9 (fun X : World => Bx X (w.heap.size + 2) [.int .i64 k.config, .int .i64 k.clock, (.slice bP j dP), (.slice none 0 0), (.slice none 0 0), .bool k.lost] ∧ Bx X wr.heap.size [.slice (some ⟨zb, zo, none⟩) (atP k.places j).length z1]) (by kernel_rfl) ?_
      have hSX : (fun X : World => Bx X (w.heap.size + 2) [.int .i64 k.config, .int .i64 k.clock, (.slice bP j dP), (.slice none 0 0), (.slice none 0 0), .bool k.lost] ∧ Bx X wr.heap.size [.slice (some ⟨zb, zo, none⟩) (atP k.places j).length z1]) X0.drew := ⟨(HS.out.own.later HX.out.1).later (Below.refl _ _).drew, (HB.out).later (Below.refl _ _).drew⟩
      have HD : Hid (Below wr.heap.size wr X0.drew ∧ X0.heap.size ≤ X0.drew.heap.size) := ⟨bstep HX.out.1 (Below.refl _ _).drew, Nat.le_refl _⟩
      have heb : wr.heap.size < X0.drew.heap.size := hSX.2.2.2
      generalize X0.drew = XD at *
      refine wpUntil_take (i := 0) (v := ?_) rfl (by kernel_rfl) (fun _ _ _ h => h) (Or.inl ⟨by rfl, ?_⟩) hSX ?_
      rotate_left
      · (intro w hSw; go_simp; first | done | with_reducible rfl)
      simp only [Act.put]
      refine wpUntil_take (i := 1) (v := ?_) rfl (by kernel_rfl) (fun _ _ _ h => h) (Or.inl ⟨by rfl, ?_⟩) hSX ?_
      rotate_left
      · (intro w hSw; have q := hSw.1.1 2 _ rfl; go_simp; first | done | with_reducible rfl | exact q)
      simp only [Act.put]
      refine wpUntil_take (i := 2) (v := ?_) rfl (by kernel_rfl) (fun _ _ _ h => h) (Or.inl ⟨by rfl, ?_⟩) hSX ?_
      rotate_left
      · (intro w hSw; go_simp; first | done | with_reducible rfl)
      simp only [Act.put]
      refine wpUntil_take (i := 3) (v := ?_) rfl (by kernel_rfl) (fun _ _ _ h => h) (Or.inl ⟨by rfl, ?_⟩) hSX ?_
      rotate_left
      · (intro w hSw; have q := hSw.2.1 0 _ rfl; go_simp; first | done | with_reducible rfl | exact q)
      simp only [Act.put]
      refine wpUntil_ready (rs := [4]) (by kernel_rfl) (by simp) ?_
      refine AllU.cons rfl (fun K hK => ?_) AllU.nil
      go_simp
      refine hcl.mono ?_
      clear hcl
      rintro e X2 ⟨q, cp, rfl, ho, b2⟩
      have hO : KPk.Ow X2 wr.heap.size (q, cp) (atP k.places j) (fun x => x = q) := KPk.low ho.kp HD.out.1.size
      have Q := fun x : Nat => x = q
      have bX2 : Below wr.heap.size wr X2 := bstep HD.out.1 b2
      have hS2 : (fun X : World => Bx X (w.heap.size + 2) [.int .i64 k.config, .int .i64 k.clock, (.slice bP j dP), (.slice none 0 0), (.slice none 0 0), .bool k.lost] ∧ Bx X wr.heap.size [.slice (some ⟨zb, zo, none⟩) (atP k.places j).length z1]) X2 := ⟨hSX.1.later b2, hSX.2.later b2⟩
      obtain ⟨X3, hX3⟩ : ∃ X, X = X2.alloc (.cells #[(.slice (some ⟨q, 0, none⟩) (atP k.places j).length cp)] 127) := ⟨_, rfl⟩
      have b3 : Below X2.heap.size X2 X3 := by rw [hX3]; exact (Below.refl _ _).alloc (Nat.le_refl _) _
      have x3 : Bx X3 X2.heap.size [(.slice (some ⟨q, 0, none⟩) (atP k.places j).length cp)] := by rw [hX3]; exact Bx.made X2 [(.slice (some ⟨q, 0, none⟩) (atP k.places j).length cp)] _
      have hS3 : (fun X : World => Bx X (w.heap.size + 2) [.int .i64 k.config, .int .i64 k.clock, (.slice bP j dP), (.slice none 0 0), (.slice none 0 0), .bool k.lost] ∧ Bx X wr.heap.size [.slice (some ⟨zb, zo, none⟩) (atP k.places j).length z1]) X3 := ⟨hS2.1.later b3, hS2.2.later b3⟩
      obtain ⟨v', Y, hr, hcs, hob, hfar, hsz, a', c', rfl⟩ := HS.out.pushP (bstep bX2 b3) (q, cp) (atP k.places j) (fun x => x = q) X2.heap.size (by rw [HM.out.2.1]; omega) 28 x3.1 (KPk.keep hO b3.size (fun q hq => b3.block q (KPk.of hO hq).2))
      have hS4 : (fun X : World => Bx X (w.heap.size + 2) [.int .i64 k.config, .int .i64 k.clock, (.slice bP j dP), (.slice none 0 0), (.slice none 0 0), .bool k.lost] ∧ Bx X wr.heap.size [.slice (some ⟨zb, zo, none⟩) (atP k.places j).length z1]) Y := ⟨hob, hS3.2.of_block (hfar _ (.inr ⟨by have := HD.out.1.size; omega, hS3.2.2.2⟩)) hsz⟩
      have HE : Hid ((ps ++ [((q, cp), atP k.places j)]).map (·.2) = k.places.take (j + 1)) := by unfold Hid; rw [List.map_append, HM.out.1]; exact take_snoc HM.out.2.2
      rw [HM.out.2.1] at hr hcs
      have KE := hidOf hcs
      refine hK.out _ _ (fun _ => hS2) ?_
      clear hK K b2 bX2 b3 x3 hcs hob hfar hsz hO hSX
      refine wpUntil_take (i := 5) (v := ?_) rfl (by kernel_rfl) (fun _ _ _ h => h) (Or.inl ⟨by rfl, ?_⟩) hS2 ?_
      rotate_left
      · (intro w hSw; go_simp; first | done | with_reducible rfl)
      simp only [Act.put]
      refine wpUntil_ready (rs := [6]) (by kernel_rfl) (by simp) ?_
      refine AllU.cons rfl (fun K hK => ?_) AllU.nil
      go_simp
      rw [← hX3]
      refine hK.out _ _ (fun _ => hS3) ?_
      clear hK K hS2
      refine wpUntil_ready (rs := [7]) (by kernel_rfl) (by simp) ?_
      refine AllU.cons rfl (fun K hK => ?_) AllU.nil
      refine step_known _ rfl (.tmp 26) (.tmp 31) 28 rfl _ _ _ _ (by first | rfl | simp [Act.eval, Act.put]) (by first | rfl | simp [Act.eval, Act.put]) hr ?_
      refine hK.out _ _ (fun _ => hS4) ?_
      clear hK K hr hS3 hX3
      simp only [Act.put]
      refine wpUntil_ready (rs := [8]) (by kernel_rfl) (by simp) ?_
      refine AllU.cons rfl (fun K hK => ?_) AllU.nil
      go_simp
      refine hK.out _ _ (fun _ => hS4) ?_
      clear hK K
      refine wpUntil_ready (rs := [9]) (by kernel_rfl) (by simp) ?_
      refine AllU.cons rfl (fun K hK => ?_) AllU.nil
      have o2 := hS4.1.1 2 _ rfl
      have fo2 := hS4.1.2.1 2
      go_simp
      refine hK.out _ _ (fun h => absurd rfl h) ?_
      clear hK K
      refine wpUntil_done (by kernel_rfl) ?_ _
      go_wp2
      exact ⟨⟨j + 1, a', c', _, _, by omega, by simp, HE.out, KE.out⟩, by simp [intOf]; omega⟩
    · obtain rfl : k.places.length = j := by omega
      have hd : decide ((k.places.length : Int) < (k.places.length : Int)) = false := by simp
      rw [List.take_length] at hmp
      have EP : Hid (ps.map (·.2) = k.places) := hmp
      have S1 := hidOf hst
      clear hmp hst hj hlt hln
      go_wp2
      clear p2 p3 p4
      generalize wr = WP at *
      go_loopw [38] (fun v wr => ∃ (j : Nat) (bM : Option Addr) (dM : Nat) (ms : List ((MV) × M4)) (gm : Nat → Nat → Prop), j ≤ k.machines.length ∧ v = .int .i64 j ∧ ms.map (·.2) = k.machines.take j ∧ CSt w [.int .i64 k.config, .int .i64 k.clock, .slice a1 k.places.length c1, .slice a2 k.machines.length c2, .slice a3 k.txs.length c3, .bool k.lost] [.int .i64 0, .int .i64 0, .slice none 0 0, .slice none 0 0, .slice none 0 0, .bool false] k wr (.slice bP k.places.length dP) (.slice bM j dM) (.slice none 0 0) ps gp ms gm [] gnone) (fun v _ => k.machines.length - (intOf v).toNat)
      case atStart => exact ⟨0, none, 0, [], gnone, Nat.zero_le _, rfl, by simp, S1.out⟩
      case round =>
        obtain ⟨j, bM, dM, ms, gm, hj, rfl, hmp, hst⟩ := hrel
        have hln : k.machines.length ≤ 1000 := by have := H.out.1.m; omega
        have p2 := hst.arg.1 2 _ rfl
        have p3 := hst.arg.1 3 _ rfl
        have p4 := hst.arg.1 4 _ rfl
        by_cases hlt : j < k.machines.length
        · skip
          have hat := atM_of hlt
          have hlp : ms.length = j := by have := congrArg List.length hmp; simpa [Nat.min_eq_left hj] using this
          have hrd := H.out.2.later hst.bel
          rcases hrd.m with h0 | ⟨b, off, rfl, hb, hrd'⟩
          · rw [h0] at hlt; simp at hlt
          obtain ⟨⟨m0, m1, m2, m3, m4, m5⟩, hel, hsd⟩ := hrd' j _ hat
          have es0 : wr.cell? ⟨b, off + j * 4, none⟩ = some (.bool (atM k.machines j).alive) := hel 0 _ rfl
          have es1 : wr.cell? ⟨b, off + j * 4 + 1, none⟩ = some (.slice m0 (atM k.machines j).copies.length m1) := hel 1 _ rfl
          have es2 : wr.cell? ⟨b, off + j * 4 + 2, none⟩ = some (.slice m2 (atM k.machines j).log.length m3) := hel 2 _ rfl
          have es3 : wr.cell? ⟨b, off + j * 4 + 3, none⟩ = some (.slice m4 (atM k.machines j).cleared.length m5) := hel 3 _ rfl
          clear hrd' hrd hel
          obtain ⟨X0, hX0⟩ : ∃ X, X = wr.alloc (.cells #[.bool (atM k.machines j).alive, .slice m0 (atM k.machines j).copies.length m1, .slice m2 (atM k.machines j).log.length m3, .slice m4 (atM k.machines j).cleared.length m5] 62) := ⟨_, rfl⟩
          have bX : Below wr.heap.size wr X0 := by rw [hX0]; exact (Below.refl _ _).alloc (Nat.le_refl _) _
          have xX : Bx X0 wr.heap.size [.bool (atM k.machines j).alive, .slice m0 (atM k.machines j).copies.length m1, .slice m2 (atM k.machines j).log.length m3, .slice m4 (atM k.machines j).cleared.length m5] := by rw [hX0]; exact Bx.made wr [.bool (atM k.machines j).alive, .slice m0 (atM k.machines j).copies.length m1, .slice m2 (atM k.machines j).log.length m3, .slice m4 (atM k.machines j).cleared.length m5] _
          have hcl := ownMachine_any X0 ⟨m0, m1, m2, m3, m4, m5⟩ (atM k.machines j) (H.out.1.ms _ (List.mem_of_getElem? hat)) (SlM.later hsd bX)
          simp only [MV.val] at hcl
          have HS := hidOf hst
          have HX : Hid (Below wr.heap.size wr X0 ∧ wr.heap.size + 1 ≤ X0.heap.size) := ⟨bX, by rw [hX0]; simp⟩
          have HB := hidOf xX
          have HM : Hid (ms.map (·.2) = k.machines.take j ∧ ms.length = j ∧ k.machines[j]? = some (atM k.machines j)) := ⟨hmp, hlp, hat⟩
          clear hst bX xX hmp hlp hat hsd
          go_wp2_with fail
          rw [← hX0]
          clear hX0
          refine hcl.mono ?_
          clear hcl
          rintro e w2 ⟨⟨u0, u1, u2, u3, u4, u5⟩, pp, gk, gr, rfl, hmr, b2⟩
          obtain ⟨X1, hX1⟩ : ∃ X, X = w2.alloc (.cells #[.slice u2 (atM k.machines j).log.length u3, .bool (atM k.machines j).alive, .slice u0 (atM k.machines j).copies.length u1, .slice u4 (atM k.machines j).cleared.length u5] 193) := ⟨_, rfl⟩
          have b3 : Below w2.heap.size w2 X1 := by rw [hX1]; exact (Below.refl _ _).alloc (Nat.le_refl _) _
          have xM : Bx X1 w2.heap.size [.slice u2 (atM k.machines j).log.length u3, .bool (atM k.machines j).alive, .slice u0 (atM k.machines j).copies.length u1, .slice u4 (atM k.machines j).cleared.length u5] := by rw [hX1]; exact Bx.made w2 [.slice u2 (atM k.machines j).log.length u3, .bool (atM k.machines j).alive, .slice u0 (atM k.machines j).copies.length u1, .slice u4 (atM k.machines j).cleared.length u5] _
          obtain ⟨Q, hQ⟩ := MR.ow hmr
          have hQ' : KMk.Ow X1 wr.heap.size ⟨u0, u1, u2, u3, u4, u5⟩ (atM k.machines j) Q := KMk.keep (KMk.low hQ (by have := HX.out.2; omega)) b3.size (fun q hq => b3.block q (KMk.of hQ hq).2)
          have bX1 : Below wr.heap.size wr X1 := bstep (bstep HX.out.1 b2) b3
          have hsw : wr.heap.size < w2.heap.size := by have := HX.out.2; have := b2.size; omega
          have HX1 : Hid (Below wr.heap.size wr X1 ∧ KMk.Ow X1 wr.heap.size ⟨u0, u1, u2, u3, u4, u5⟩ (atM k.machines j) Q) := ⟨bX1, hQ'⟩
          have HB1 : Hid (Bx X1 w2.heap.size [.slice u2 (atM k.machines j).log.length u3, .bool (atM k.machines j).alive, .slice u0 (atM k.machines j).copies.length u1, .slice u4 (atM k.machines j).cleared.length u5]) := xM
          have hcl := given_any X1.drew w2.heap.size (atM k.machines j).alive u2 (atM k.machines j).log.length u3 u0 (atM k.machines j).copies.length u1 u4 (atM k.machines j).cleared.length u5 (xM.1 0 _ rfl) (xM.1 1 _ rfl) (xM.1 2 _ rfl) (xM.1 3 _ rfl) xM.2.2
          clear hmr b2 b3 xM hQ hQ' bX1
          go_wp2_with fail
          rw [← hX1]
          clear hX1
          refine wp_region_until 6 (fun X : World => Bx X (w.heap.size + 2) [.int .i64 k.config, .int .i64 k.clock, (.slice bP k.places.length dP), (.slice bM j dM), (.slice none 0 0), .bool k.lost] ∧ Bx X w2.heap.size [.slice u2 (atM k.machines j).log.length u3, .bool (atM k.machines j).alive, .slice u0 (atM k.machines j).copies.length u1, .slice u4 (atM k.machines j).cleared.length u5]) (by kernel_rfl) ?_
          have hSX : (fun X : World => Bx X (w.heap.size + 2) [.int .i64 k.config, .int .i64 k.clock, (.slice bP k.places.length dP), (.slice bM j dM), (.slice none 0 0), .bool k.lost] ∧ Bx X w2.heap.size [.slice u2 (atM k.machines j).log.length u3, .bool (atM k.machines j).alive, .slice u0 (atM k.machines j).copies.length u1, .slice u4 (atM k.machines j).cleared.length u5]) X1.drew := ⟨(HS.out.own.later HX1.out.1).later (Below.refl _ _).drew, (HB1.out).later (Below.refl _ _).drew⟩
          have HD : Hid (Below wr.heap.size wr X1.drew ∧ X1.heap.size ≤ X1.drew.heap.size) := ⟨bstep HX1.out.1 (Below.refl _ _).drew, Nat.le_refl _⟩
          have HQ : Hid (KMk.Ow X1.drew wr.heap.size ⟨u0, u1, u2, u3, u4, u5⟩ (atM k.machines j) Q) := KMk.keep HX1.out.2 (Nat.le_refl _) (fun q _ => rfl)
          have heb : w2.heap.size < X1.drew.heap.size := hSX.2.2.2
          generalize X1.drew = XD at *
          refine wpUntil_take (i := 0) (v := ?_) rfl (by kernel_rfl) (fun _ _ _ h => h) (Or.inl ⟨by rfl, ?_⟩) hSX ?_
          rotate_left
          · (intro w hSw; go_simp; first | done | with_reducible rfl)
          simp only [Act.put]
          refine wpUntil_take (i := 1) (v := ?_) rfl (by kernel_rfl) (fun _ _ _ h => h) (Or.inl ⟨by rfl, ?_⟩) hSX ?_
          rotate_left
          · (intro w hSw; have q := hSw.1.1 3 _ rfl; go_simp; first | done | with_reducible rfl | exact q)
          simp only [Act.put]
          refine wpUntil_ready (rs := [2]) (by kernel_rfl) (by simp) ?_
          refine AllU.cons rfl (fun K hK => ?_) AllU.nil
          go_simp
          refine hcl.mono ?_
          clear hcl
          rintro e X2 ⟨rfl, b2⟩
          have hO : KMk.Ow X2 wr.heap.size ⟨u0, u1, u2, u3, u4, u5⟩ (atM k.machines j) Q := KMk.keep HQ.out b2.size (fun q hq => b2.block q (KMk.of HQ.out hq).2)
          have bX2 : Below wr.heap.size wr X2 := bstep HD.out.1 b2
          have hS2 : (fun X : World => Bx X (w.heap.size + 2) [.int .i64 k.config, .int .i64 k.clock, (.slice bP k.places.length dP), (.slice bM j dM), (.slice none 0 0), .bool k.lost] ∧ Bx X w2.heap.size [.slice u2 (atM k.machines j).log.length u3, .bool (atM k.machines j).alive, .slice u0 (atM k.machines j).copies.length u1, .slice u4 (atM k.machines j).cleared.length u5]) X2 := ⟨hSX.1.later b2, hSX.2.later b2⟩
          obtain ⟨X3, hX3⟩ : ∃ X, X = X2.alloc (.cells #[(.bool (atM k.machines j).alive), (.slice u0 (atM k.machines j).copies.length u1), (.slice u2 (atM k.machines j).log.length u3), (.slice u4 (atM k.machines j).cleared.length u5)] 62) := ⟨_, rfl⟩
          have b3 : Below X2.heap.size X2 X3 := by rw [hX3]; exact (Below.refl _ _).alloc (Nat.le_refl _) _
          have x3 : Bx X3 X2.heap.size [(.bool (atM k.machines j).alive), (.slice u0 (atM k.machines j).copies.length u1), (.slice u2 (atM k.machines j).log.length u3), (.slice u4 (atM k.machines j).cleared.length u5)] := by rw [hX3]; exact Bx.made X2 [(.bool (atM k.machines j).alive), (.slice u0 (atM k.machines j).copies.length u1), (.slice u2 (atM k.machines j).log.length u3), (.slice u4 (atM k.machines j).cleared.length u5)] _
          have hS3 : (fun X : World => Bx X (w.heap.size + 2) [.int .i64 k.config, .int .i64 k.clock, (.slice bP k.places.length dP), (.slice bM j dM), (.slice none 0 0), .bool k.lost] ∧ Bx X w2.heap.size [.slice u2 (atM k.machines j).log.length u3, .bool (atM k.machines j).alive, .slice u0 (atM k.machines j).copies.length u1, .slice u4 (atM k.machines j).cleared.length u5]) X3 := ⟨hS2.1.later b3, hS2.2.later b3⟩
          obtain ⟨v', Y, hr, hcs, hob, hfar, hsz, a', c', rfl⟩ := HS.out.pushM (bstep bX2 b3) (⟨u0, u1, u2, u3, u4, u5⟩ : MV) (atM k.machines j) Q X2.heap.size (by rw [HM.out.2.1]; omega) 29 x3.1 (KMk.keep hO b3.size (fun q hq => b3.block q (KMk.of hO hq).2))
          have hS4 : (fun X : World => Bx X (w.heap.size + 2) [.int .i64 k.config, .int .i64 k.clock, (.slice bP k.places.length dP), (.slice bM j dM), (.slice none 0 0), .bool k.lost] ∧ Bx X w2.heap.size [.slice u2 (atM k.machines j).log.length u3, .bool (atM k.machines j).alive, .slice u0 (atM k.machines j).copies.length u1, .slice u4 (atM k.machines j).cleared.length u5]) Y := ⟨hob, hS3.2.of_block (hfar _ (.inr ⟨by have := HD.out.1.size; omega, hS3.2.2.2⟩)) hsz⟩
          have HE : Hid ((ms ++ [((⟨u0, u1, u2, u3, u4, u5⟩ : MV), atM k.machines j)]).map (·.2) = k.machines.take (j + 1)) := by unfold Hid; rw [List.map_append, HM.out.1]; exact take_snoc HM.out.2.2
          rw [HM.out.2.1] at hr hcs
          have KE := hidOf hcs
          refine hK.out _ _ (fun _ => hS2) ?_
          clear hK K b2 bX2 b3 x3 hcs hob hfar hsz hO hSX
          refine wpUntil_ready (rs := [3]) (by kernel_rfl) (by simp) ?_
          refine AllU.cons rfl (fun K hK => ?_) AllU.nil
          go_simp
          rw [← hX3]
          refine hK.out _ _ (fun _ => hS3) ?_
          clear hK K hS2
          refine wpUntil_ready (rs := [4]) (by kernel_rfl) (by simp) ?_
          refine AllU.cons rfl (fun K hK => ?_) AllU.nil
          refine step_known _ rfl (.tmp 45) (.tmp 47) 29 rfl _ _ _ _ (by first | rfl | simp [Act.eval, Act.put]) (by first | rfl | simp [Act.eval, Act.put]) hr ?_
          refine hK.out _ _ (fun _ => hS4) ?_
          clear hK K hr hS3 hX3
          simp only [Act.put]
          refine wpUntil_ready (rs := [5]) (by kernel_rfl) (by simp) ?_
          refine AllU.cons rfl (fun K hK => ?_) AllU.nil
          go_simp
          refine hK.out _ _ (fun _ => hS4) ?_
          clear hK K
          refine wpUntil_ready (rs := [6]) (by kernel_rfl) (by simp) ?_
          refine AllU.cons rfl (fun K hK => ?_) AllU.nil
          have o3 := hS4.1.1 3 _ rfl
          have fo3 := hS4.1.2.1 3
          go_simp
          refine hK.out _ _ (fun h => absurd rfl h) ?_
          clear hK K
          refine wpUntil_done (by kernel_rfl) ?_ _
          go_wp2
          exact ⟨⟨j + 1, a', c', _, _, by omega, by simp, HE.out, KE.out⟩, by simp [intOf]; omega⟩
        · obtain rfl : k.machines.length = j := by omega
          have hd : decide ((k.machines.length : Int) < (k.machines.length : Int)) = false := by simp
          rw [List.take_length] at hmp
          have EM : Hid (ms.map (·.2) = k.machines) := hmp
          have S1 := hidOf hst
          clear hmp hst hj hlt hln
          go_wp2
          clear p2 p3 p4
          generalize wr = WM at *
          go_loopw [54] (fun v wr => ∃ (j : Nat) (bT : Option Addr) (dT : Nat) (ts : List ((tx.TV) × tx.T7)) (gt : Nat → Nat → Prop), j ≤ k.txs.length ∧ v = .int .i64 j ∧ ts.map (·.2) = k.txs.take j ∧ CSt w [.int .i64 k.config, .int .i64 k.clock, .slice a1 k.places.length c1, .slice a2 k.machines.length c2, .slice a3 k.txs.length c3, .bool k.lost] [.int .i64 0, .int .i64 0, .slice none 0 0, .slice none 0 0, .slice none 0 0, .bool false] k wr (.slice bP k.places.length dP) (.slice bM k.machines.length dM) (.slice bT j dT) ps gp ms gm ts gt) (fun v _ => k.txs.length - (intOf v).toNat)
          case atStart => exact ⟨0, none, 0, [], gnone, Nat.zero_le _, rfl, by simp, S1.out⟩
          case round =>
            obtain ⟨j, bT, dT, ts, gt, hj, rfl, hmp, hst⟩ := hrel
            have hln : k.txs.length ≤ 1000 := by have := H.out.1.t; omega
            have p2 := hst.arg.1 2 _ rfl
            have p3 := hst.arg.1 3 _ rfl
            have p4 := hst.arg.1 4 _ rfl
            by_cases hlt : j < k.txs.length
            · skip
              have hat := atT_of hlt
              have hlp : ts.length = j := by have := congrArg List.length hmp; simpa [Nat.min_eq_left hj] using this
              have hrd := H.out.2.later hst.bel
              rcases hrd.t with h0 | ⟨b, off, rfl, hb, hrd'⟩
              · rw [h0] at hlt; simp at hlt
              obtain ⟨⟨t0, t1, t2, t3⟩, hel, hsd⟩ := hrd' j _ hat
              have es0 : wr.cell? ⟨b, off + j * 7, none⟩ = some (.int .i64 (atT k.txs j).id) := hel 0 _ rfl
              have es1 : wr.cell? ⟨b, off + j * 7 + 1, none⟩ = some (.int .i64 (atT k.txs j).home) := hel 1 _ rfl
              have es2 : wr.cell? ⟨b, off + j * 7 + 2, none⟩ = some (.int .i64 (atT k.txs j).phase) := hel 2 _ rfl
              have es3 : wr.cell? ⟨b, off + j * 7 + 3, none⟩ = some (.int .i64 (atT k.txs j).count) := hel 3 _ rfl
              have es4 : wr.cell? ⟨b, off + j * 7 + 4, none⟩ = some (.slice t0 (atT k.txs j).reads.length t1) := hel 4 _ rfl
              have es5 : wr.cell? ⟨b, off + j * 7 + 5, none⟩ = some (.slice t2 (atT k.txs j).sets.length t3) := hel 5 _ rfl
              have es6 : wr.cell? ⟨b, off + j * 7 + 6, none⟩ = some (.int .i64 (atT k.txs j).stamp) := hel 6 _ rfl
              clear hrd' hrd hel
              obtain ⟨X0, hX0⟩ : ∃ X, X = wr.alloc (.cells #[.int .i64 (atT k.txs j).id, .int .i64 (atT k.txs j).home, .int .i64 (atT k.txs j).phase, .int .i64 (atT k.txs j).count, .slice t0 (atT k.txs j).reads.length t1, .slice t2 (atT k.txs j).sets.length t3, .int .i64 (atT k.txs j).stamp] 56) := ⟨_, rfl⟩
              have bX : Below wr.heap.size wr X0 := by rw [hX0]; exact (Below.refl _ _).alloc (Nat.le_refl _) _
              have xX : Bx X0 wr.heap.size [.int .i64 (atT k.txs j).id, .int .i64 (atT k.txs j).home, .int .i64 (atT k.txs j).phase, .int .i64 (atT k.txs j).count, .slice t0 (atT k.txs j).reads.length t1, .slice t2 (atT k.txs j).sets.length t3, .int .i64 (atT k.txs j).stamp] := by rw [hX0]; exact Bx.made wr [.int .i64 (atT k.txs j).id, .int .i64 (atT k.txs j).home, .int .i64 (atT k.txs j).phase, .int .i64 (atT k.txs j).count, .slice t0 (atT k.txs j).reads.length t1, .slice t2 (atT k.txs j).sets.length t3, .int .i64 (atT k.txs j).stamp] _
              obtain ⟨l1, l2⟩ := H.out.1.ts _ (List.mem_of_getElem? hat)
              have bXd : Below wr.heap.size wr X0.drew := bX.drew
              have hcl := tx.ownTx_any X0.drew ⟨t0, t1, t2, t3⟩ (atT k.txs j) (by omega) (by omega) (tx.SlT.later hsd bXd)
              simp only [tx.TV.val] at hcl
              have HS := hidOf hst
              have HX : Hid (Below wr.heap.size wr X0 ∧ wr.heap.size + 1 ≤ X0.heap.size) := ⟨bX, by rw [hX0]; simp⟩
              have HB := hidOf xX
              have HM : Hid (ts.map (·.2) = k.txs.take j ∧ ts.length = j ∧ k.txs[j]? = some (atT k.txs j)) := ⟨hmp, hlp, hat⟩
              clear hst bX xX hmp hlp hat hsd bXd l1 l2
              go_wp2_with fail
              rw [← hX0]
              clear hX0
              refine wp_region_until 7 (fun X : World => Bx X (w.heap.size + 2) [.int .i64 k.config, .int .i64 k.clock, (.slice bP k.places.length dP), (.slice bM k.machines.length dM), (.slice bT j dT), .bool k.lost] ∧ Bx X wr.heap.size [.int .i64 (atT k.txs j).id, .int .i64 (atT k.txs j).home, .int .i64 (atT k.txs j).phase, .int .i64 (atT k.txs j).count, .slice t0 (atT k.txs j).reads.length t1, .slice t2 (atT k.txs j).sets.length t3, .int .i64 (atT k.txs j).stamp]) (by kernel_rfl) ?_
              have hSX : (fun X : World => Bx X (w.heap.size + 2) [.int .i64 k.config, .int .i64 k.clock, (.slice bP k.places.length dP), (.slice bM k.machines.length dM), (.slice bT j dT), .bool k.lost] ∧ Bx X wr.heap.size [.int .i64 (atT k.txs j).id, .int .i64 (atT k.txs j).home, .int .i64 (atT k.txs j).phase, .int .i64 (atT k.txs j).count, .slice t0 (atT k.txs j).reads.length t1, .slice t2 (atT k.txs j).sets.length t3, .int .i64 (atT k.txs j).stamp]) X0.drew := ⟨(HS.out.own.later HX.out.1).later (Below.refl _ _).drew, (HB.out).later (Below.refl _ _).drew⟩
              have HD : Hid (Below wr.heap.size wr X0.drew ∧ X0.heap.size ≤ X0.drew.heap.size) := ⟨bstep HX.out.1 (Below.refl _ _).drew, Nat.le_refl _⟩
              have heb : wr.heap.size < X0.drew.heap.size := hSX.2.2.2
              generalize X0.drew = XD at *
              refine wpUntil_take (i := 0) (v := ?_) rfl (by kernel_rfl) (fun _ _ _ h => h) (Or.inl ⟨by rfl, ?_⟩) hSX ?_
              rotate_left
              · (intro w hSw; go_simp; first | done | with_reducible rfl)
              simp only [Act.put]
              refine wpUntil_take (i := 1) (v := ?_) rfl (by kernel_rfl) (fun _ _ _ h => h) (Or.inl ⟨by rfl, ?_⟩) hSX ?_
              rotate_left
              · (intro w hSw; have q := hSw.1.1 4 _ rfl; go_simp; first | done | with_reducible rfl | exact q)
              simp only [Act.put]
              refine wpUntil_take (i := 2) (v := ?_) rfl (by kernel_rfl) (fun _ _ _ h => h) (Or.inl ⟨by rfl, ?_⟩) hSX ?_
              rotate_left
              · (intro w hSw; have q0 := hSw.2.1 0 _ rfl; have q1 := hSw.2.1 1 _ rfl; have q2 := hSw.2.1 2 _ rfl; have q3 := hSw.2.1 3 _ rfl; have q4 := hSw.2.1 4 _ rfl; have q5 := hSw.2.1 5 _ rfl; have q6 := hSw.2.1 6 _ rfl; go_simp; first | done | rfl)
              simp only [Act.put]
              refine wpUntil_ready (rs := [3]) (by kernel_rfl) (by simp) ?_
              refine AllU.cons rfl (fun K hK => ?_) AllU.nil
              go_simp
              refine hcl.mono ?_
              clear hcl
              rintro e X2 ⟨u0, u1, u2, u3, PR, PS, rfl, ho, b2⟩
              simp only [tx.TV.val]
              have hO : KTk.Ow X2 wr.heap.size ⟨u0, u1, u2, u3⟩ (atT k.txs j) (tx.OfT PR PS) := KTk.low (KT.ow ho) HD.out.1.size
              have bX2 : Below wr.heap.size wr X2 := bstep HD.out.1 b2
              have hS2 : (fun X : World => Bx X (w.heap.size + 2) [.int .i64 k.config, .int .i64 k.clock, (.slice bP k.places.length dP), (.slice bM k.machines.length dM), (.slice bT j dT), .bool k.lost] ∧ Bx X wr.heap.size [.int .i64 (atT k.txs j).id, .int .i64 (atT k.txs j).home, .int .i64 (atT k.txs j).phase, .int .i64 (atT k.txs j).count, .slice t0 (atT k.txs j).reads.length t1, .slice t2 (atT k.txs j).sets.length t3, .int .i64 (atT k.txs j).stamp]) X2 := ⟨hSX.1.later b2, hSX.2.later b2⟩
              obtain ⟨X3, hX3⟩ : ∃ X, X = X2.alloc (.cells #[(.int .i64 (atT k.txs j).id), (.int .i64 (atT k.txs j).home), (.int .i64 (atT k.txs j).phase), (.int .i64 (atT k.txs j).count), (.slice u0 (atT k.txs j).reads.length u1), (.slice u2 (atT k.txs j).sets.length u3), (.int .i64 (atT k.txs j).stamp)] 56) := ⟨_, rfl⟩
              have b3 : Below X2.heap.size X2 X3 := by rw [hX3]; exact (Below.refl _ _).alloc (Nat.le_refl _) _
              have x3 : Bx X3 X2.heap.size [(.int .i64 (atT k.txs j).id), (.int .i64 (atT k.txs j).home), (.int .i64 (atT k.txs j).phase), (.int .i64 (atT k.txs j).count), (.slice u0 (atT k.txs j).reads.length u1), (.slice u2 (atT k.txs j).sets.length u3), (.int .i64 (atT k.txs j).stamp)] := by rw [hX3]; exact Bx.made X2 [(.int .i64 (atT k.txs j).id), (.int .i64 (atT k.txs j).home), (.int .i64 (atT k.txs j).phase), (.int .i64 (atT k.txs j).count), (.slice u0 (atT k.txs j).reads.length u1), (.slice u2 (atT k.txs j).sets.length u3), (.int .i64 (atT k.txs j).stamp)] _
              have hS3 : (fun X : World => Bx X (w.heap.size + 2) [.int .i64 k.config, .int .i64 k.clock, (.slice bP k.places.length dP), (.slice bM k.machines.length dM), (.slice bT j dT), .bool k.lost] ∧ Bx X wr.heap.size [.int .i64 (atT k.txs j).id, .int .i64 (atT k.txs j).home, .int .i64 (atT k.txs j).phase, .int .i64 (atT k.txs j).count, .slice t0 (atT k.txs j).reads.length t1, .slice t2 (atT k.txs j).sets.length t3, .int .i64 (atT k.txs j).stamp]) X3 := ⟨hS2.1.later b3, hS2.2.later b3⟩
              obtain ⟨v', Y, hr, hcs, hob, hfar, hsz, a', c', rfl⟩ := HS.out.pushT (bstep bX2 b3) (⟨u0, u1, u2, u3⟩ : tx.TV) (atT k.txs j) (tx.OfT PR PS) X2.heap.size (by rw [HM.out.2.1]; omega) 30 x3.1 (KTk.keep hO b3.size (fun q hq => b3.block q (KTk.of hO hq).2))
              have hS4 : (fun X : World => Bx X (w.heap.size + 2) [.int .i64 k.config, .int .i64 k.clock, (.slice bP k.places.length dP), (.slice bM k.machines.length dM), (.slice bT j dT), .bool k.lost] ∧ Bx X wr.heap.size [.int .i64 (atT k.txs j).id, .int .i64 (atT k.txs j).home, .int .i64 (atT k.txs j).phase, .int .i64 (atT k.txs j).count, .slice t0 (atT k.txs j).reads.length t1, .slice t2 (atT k.txs j).sets.length t3, .int .i64 (atT k.txs j).stamp]) Y := ⟨hob, hS3.2.of_block (hfar _ (.inr ⟨by have := HD.out.1.size; omega, hS3.2.2.2⟩)) hsz⟩
              have HE : Hid ((ts ++ [((⟨u0, u1, u2, u3⟩ : tx.TV), atT k.txs j)]).map (·.2) = k.txs.take (j + 1)) := by unfold Hid; rw [List.map_append, HM.out.1]; exact take_snoc HM.out.2.2
              rw [HM.out.2.1] at hr hcs
              have KE := hidOf hcs
              refine hK.out _ _ (fun _ => hS2) ?_
              clear hK K b2 bX2 b3 x3 hcs hob hfar hsz hO hSX
              refine wpUntil_ready (rs := [4]) (by kernel_rfl) (by simp) ?_
              refine AllU.cons rfl (fun K hK => ?_) AllU.nil
              go_simp
              rw [← hX3]
              refine hK.out _ _ (fun _ => hS3) ?_
              clear hK K hS2
              refine wpUntil_ready (rs := [5]) (by kernel_rfl) (by simp) ?_
              refine AllU.cons rfl (fun K hK => ?_) AllU.nil
              refine step_known _ rfl (.tmp 59) (.tmp 62) 30 rfl _ _ _ _ (by first | rfl | simp [Act.eval, Act.put]) (by first | rfl | simp [Act.eval, Act.put]) hr ?_
              refine hK.out _ _ (fun _ => hS4) ?_
              clear hK K hr hS3 hX3
              simp only [Act.put]
              refine wpUntil_ready (rs := [6]) (by kernel_rfl) (by simp) ?_
              refine AllU.cons rfl (fun K hK => ?_) AllU.nil
              go_simp
              refine hK.out _ _ (fun _ => hS4) ?_
              clear hK K
              refine wpUntil_ready (rs := [7]) (by kernel_rfl) (by simp) ?_
              refine AllU.cons rfl (fun K hK => ?_) AllU.nil
              have o4 := hS4.1.1 4 _ rfl
              have fo4 := hS4.1.2.1 4
              go_simp
              refine hK.out _ _ (fun h => absurd rfl h) ?_
              clear hK K
              refine wpUntil_done (by kernel_rfl) ?_ _
              go_wp2
              exact ⟨⟨j + 1, a', c', _, _, by omega, by simp, HE.out, KE.out⟩, by simp [intOf]; omega⟩
            · obtain rfl : k.txs.length = j := by omega
              have hd : decide ((k.txs.length : Int) < (k.txs.length : Int)) = false := by simp
              rw [List.take_length] at hmp
              have ET : Hid (ts.map (·.2) = k.txs) := hmp
              have S1 := hidOf hst
              clear hmp hst hj hlt hln
              have o0 := S1.out.own.1 0 _ rfl
              have o1 := S1.out.own.1 1 _ rfl
              have o2 := S1.out.own.1 2 _ rfl
              have o3 := S1.out.own.1 3 _ rfl
              have o4 := S1.out.own.1 4 _ rfl
              have o5 := S1.out.own.1 5 _ rfl
              have r0 := S1.out.res.1 0 _ rfl
              have r1 := S1.out.res.1 1 _ rfl
              have r2 := S1.out.res.1 2 _ rfl
              have r3 := S1.out.res.1 3 _ rfl
              have r4 := S1.out.res.1 4 _ rfl
              have r5 := S1.out.res.1 5 _ rfl
              have f0 := S1.out.res.2.1 0
              have f1 := S1.out.res.2.1 1
              have f2 := S1.out.res.2.1 2
              have f3 := S1.out.res.2.1 3
              have f4 := S1.out.res.2.1 4
              have f5 := S1.out.res.2.1 5
              go_wp2
              refine bodyPost_ret (v := .agg #[.int .i64 k.config, .int .i64 k.clock, .slice bP k.places.length dP, .slice bM k.machines.length dM, .slice bT k.txs.length dT, .bool k.lost]) (by simp [results, Tryz.results91, go_sem, r0, r1, r2, r3, r4, r5]) rfl ?_
              refine ⟨bP, dP, bM, dM, bT, dT, ps, gp, ms, gm, ts, gt, rfl, ?_, EP.out, EM.out, ET.out, ?_⟩
              · exact S1.out.rows.keep (Y := putB wr (w.heap.size + 1) 0 [.int .i64 k.config, .int .i64 k.clock, .slice bP k.places.length dP, .slice bM k.machines.length dM, .slice bT k.txs.length dT, .bool k.lost]) (by rw [putB_size]; exact Nat.le_refl _) (fun q _ hb _ => putB_block (by omega) _ _ _)
              · exact putB_below (w := w) (by omega) [.int .i64 k.config, .int .i64 k.clock, .slice bP k.places.length dP, .slice bM k.machines.length dM, .slice bT k.txs.length dT, .bool k.lost] wr 0 S1.out.bel
end Go.Proofs.YtohcgfdnjgkfjaaGreatDoor
namespace Go.Proofs.YtohcgfdnjgkfjaaGreatDoor.tx
open Go.RowKit
open Go.Sort (grow)
def FirstAt (f : Nat → Bool) (n : Nat) (i : Int) : Prop := (i = -1 ∧ ∀ j, j < n → f j = false) ∨ ∃ k : Nat, i = (k : Int) ∧ k < n ∧ f k = true ∧ ∀ j, j < k → f j = false
theorem first_has {f : Nat → Bool} {n : Nat} {i : Int} (h : FirstAt f n i) : decide (0 ≤ i) = !((List.range n).all fun j => !f j) := by
  rcases h with ⟨rfl, h⟩ | ⟨k, rfl, hk, hf, _⟩
  · have : ((List.range n).all fun j => !f j) = true := by rw [List.all_eq_true]; intro j hj; simp [h j (List.mem_range.1 hj)]
    rw [this]; rfl
  · have : ((List.range n).all fun j => !f j) = false := by rw [List.all_eq_false]; exact ⟨k, List.mem_range.2 hk, by simp [hf]⟩
    rw [this]; simp
theorem implId (w : World) (x : Int) : Calls Tryz.prog 152 #[.int .i64 x] w fun e w' => e = .returned (.bool (inB 1 1000000 x)) ∧ w' = w := by
  go_enter Tryz.func152, Tryz.ntmps152
  go_wp2
  all_goals (go_ret; refine ⟨ret_bool ?_, rfl⟩; simp [inB_iff]; try omega)
theorem implMachine (w : World) (x : Int) : Calls Tryz.prog 153 #[.int .i64 x] w fun e w' => e = .returned (.bool (inB 0 7 x)) ∧ w' = w := by
  go_enter Tryz.func153, Tryz.ntmps153
  go_wp2
  all_goals (go_ret; refine ⟨ret_bool ?_, rfl⟩; simp [inB_iff]; try omega)
theorem implPhase (w : World) (x : Int) : Calls Tryz.prog 247 #[.int .i64 x] w fun e w' => e = .returned (.bool (inB 1 9 x)) ∧ w' = w := by
  go_enter Tryz.func247, Tryz.ntmps247
  go_wp2
  all_goals (go_ret; refine ⟨ret_bool ?_, rfl⟩; simp [inB_iff]; try omega)
theorem implDone (w : World) (x : Int) : Calls Tryz.prog 248 #[.int .i64 x] w fun e w' => e = .returned (.bool (inB 0 1000 x)) ∧ w' = w := by
  go_enter Tryz.func248, Tryz.ntmps248
  go_wp2
  all_goals (go_ret; refine ⟨ret_bool ?_, rfl⟩; simp [inB_iff]; try omega)
theorem implStamp (w : World) (x : Int) : Calls Tryz.prog 190 #[.int .i64 x] w fun e w' => e = .returned (.bool (inB 0 1000000 x)) ∧ w' = w := by
  go_enter Tryz.func190, Tryz.ntmps190
  go_wp2
  all_goals (go_ret; refine ⟨ret_bool ?_, rfl⟩; simp [inB_iff]; try omega)
theorem implVersion (w : World) (x : Int) : Calls Tryz.prog 276 #[.int .i64 x] w fun e w' => e = .returned (.bool (inB 0 1000000 x)) ∧ w' = w := by
  go_enter Tryz.func276, Tryz.ntmps276
  go_wp2
  all_goals (go_ret; refine ⟨ret_bool ?_, rfl⟩; simp [inB_iff]; try omega)
theorem implNoteOk (w : World) (s : N5) : Calls Tryz.prog 250 #[.agg #[.int .i64 s.region, .int .i64 s.slot, .int .i64 s.version, .int .i64 s.value, .bool s.used]] w fun e w' => e = .returned (.bool (noteOkB s)) ∧ Below w.heap.size w w' := by
  obtain ⟨r, l, v, u, x⟩ := s
  go_enter Tryz.func250, Tryz.ntmps250
  cases h1 : inB 0 5 r <;> cases h2 : inB 0 5 l <;> cases h3 : inB 0 1000000 v
  all_goals go_wp2_with (first | (go_at_call 276; refine (implVersion _ _).mono ?_; rintro e w' ⟨rfl, rfl⟩) | (go_at_call 252; refine (implRegion _ _).mono ?_; rintro e w' ⟨rfl, rfl⟩) | (go_at_call 117; refine (implSlot _ _).mono ?_; rintro e w' ⟨rfl, rfl⟩) | (go_at_call 61; refine (implValue _ _).mono ?_; rintro e w' ⟨rfl, rfl⟩))
  all_goals (go_ret; refine ⟨ret_bool ?_, (Below.refl _ _).alloc (Nat.le_refl _) _⟩; simp only [noteOkB, h1, h2, h3, Bool.and_true, Bool.and_false, Bool.false_and, Bool.true_and]; try simp [inB_iff]; try omega)
def rk (r s : Int) : Int := r * 6 + s
theorem rank_any (w : World) (r s : Int) (h1 : inB 0 5 r = true) (h2 : inB 0 5 s = true) : Calls Tryz.prog 295 #[.agg #[.int .i64 r, .int .i64 s]] w fun e w' => e = .returned (.int .i64 (rk r s)) ∧ Below w.heap.size w w' := by
  rw [inB_iff] at h1 h2
  have e1 : IntKind.i64.wrap (r * 6) = r * 6 := by simp [IntKind.wrap, IntKind.bits, IntKind.signed]; omega
  have e2 : IntKind.i64.wrap (r * 6 + s) = r * 6 + s := by simp [IntKind.wrap, IntKind.bits, IntKind.signed]; omega
  go_enter Tryz.func295, Tryz.ntmps295
  go_wp2
  go_ret
  exact ⟨by simp [rk], (Below.refl _ _).alloc (Nat.le_refl _) _⟩
theorem less_rk {r s q t : Int} (h1 : inB 0 5 s = true) (h2 : inB 0 5 t = true) : lessB r s q t = decide (rk r s < rk q t) := by
  rw [inB_iff] at h1 h2
  have hk : ∀ a b, rk a b = a * 6 + b := fun _ _ => rfl
  have hd : (r < q ∨ r = q ∧ s < t) ↔ rk r s < rk q t := by
    rw [hk, hk]
    constructor
    · rintro (h | ⟨h, h'⟩) <;> omega
    · intro h
      by_cases hr : r < q
      · exact .inl hr
      · exact .inr ⟨by omega, by omega⟩
  rw [Bool.eq_iff_iff]
  simp [lessB, hd]
set_option maxHeartbeats 1000000 in
theorem noCell_any (w : World) (s : N5) : Calls Tryz.prog 258 #[.agg #[.int .i64 s.region, .int .i64 s.slot, .int .i64 s.version, .int .i64 s.value, .bool s.used]] w fun e w' => e = .returned (.agg #[.int .i64 s.region, .int .i64 s.slot]) ∧ Below w.heap.size w w' := by
  obtain ⟨f0, f1, f2, f3, f4⟩ := s
  go_enter Tryz.func258, Tryz.ntmps258
  go_wp2
  refine bodyPost_ret (v := .agg #[.int .i64 f0, .int .i64 f1]) (by simp [results, Tryz.results258, go_sem]) rfl ⟨rfl, ?_⟩
  exact ((Below.refl _ _).alloc (Nat.le_refl _) _).alloc (by simp) _
set_option maxHeartbeats 1000000 in
theorem noRank_any (w : World) (s : N5) (h1 : inB 0 5 s.region = true) (h2 : inB 0 5 s.slot = true) : Calls Tryz.prog 272 #[.agg #[.int .i64 s.region, .int .i64 s.slot, .int .i64 s.version, .int .i64 s.value, .bool s.used]] w fun e w' => e = .returned (.int .i64 (rk s.region s.slot)) ∧ Below w.heap.size w w' := by
  have b0 : Below w.heap.size w (w.alloc (.cells #[.int .i64 s.region, .int .i64 s.slot, .int .i64 s.version, .int .i64 s.value, .bool s.used] 106)) := (Below.refl _ _).alloc (Nat.le_refl _) _
  have c1 := noCell_any (w.alloc (.cells #[.int .i64 s.region, .int .i64 s.slot, .int .i64 s.version, .int .i64 s.value, .bool s.used] 106)) s
  have hm : ∀ w : World, (method 470 106 (.agg #[.int .i64 s.region, .int .i64 s.slot, .int .i64 s.version, .int .i64 s.value, .bool s.used]) "loop.example/g00153/impl.cell").run Tryz.prog w = .ok (258, .agg #[.int .i64 s.region, .int .i64 s.slot, .int .i64 s.version, .int .i64 s.value, .bool s.used]) w := fun _ => by kernel_rfl
  go_enter Tryz.func272, Tryz.ntmps272
  go_wp2_with (first | (go_at_call 258; refine c1.mono ?_; rintro e w1 ⟨rfl, b1⟩) | (go_at_call 295; refine (rank_any _ _ _ h1 h2).mono ?_; rintro e w2 ⟨rfl, b2⟩))
  go_ret
  exact ⟨rfl, b0.trans ((b1.trans (b2.mono b1.size)).mono b0.size)⟩
set_option maxHeartbeats 1000000 in
theorem seCell_any (w : World) (s : S5) : Calls Tryz.prog 209 #[.agg #[.int .i64 s.region, .int .i64 s.slot, .int .i64 s.value, .bool s.used, .int .i64 s.version]] w fun e w' => e = .returned (.agg #[.int .i64 s.region, .int .i64 s.slot]) ∧ Below w.heap.size w w' := by
  obtain ⟨f0, f1, f2, f3, f4⟩ := s
  go_enter Tryz.func209, Tryz.ntmps209
  go_wp2
  refine bodyPost_ret (v := .agg #[.int .i64 f0, .int .i64 f1]) (by simp [results, Tryz.results209, go_sem]) rfl ⟨rfl, ?_⟩
  exact ((Below.refl _ _).alloc (Nat.le_refl _) _).alloc (by simp) _
set_option maxHeartbeats 1000000 in
theorem seRank_any (w : World) (s : S5) (h1 : inB 0 5 s.region = true) (h2 : inB 0 5 s.slot = true) : Calls Tryz.prog 271 #[.agg #[.int .i64 s.region, .int .i64 s.slot, .int .i64 s.value, .bool s.used, .int .i64 s.version]] w fun e w' => e = .returned (.int .i64 (rk s.region s.slot)) ∧ Below w.heap.size w w' := by
  have b0 : Below w.heap.size w (w.alloc (.cells #[.int .i64 s.region, .int .i64 s.slot, .int .i64 s.value, .bool s.used, .int .i64 s.version] 109)) := (Below.refl _ _).alloc (Nat.le_refl _) _
  have c1 := seCell_any (w.alloc (.cells #[.int .i64 s.region, .int .i64 s.slot, .int .i64 s.value, .bool s.used, .int .i64 s.version] 109)) s
  have hm : ∀ w : World, (method 470 109 (.agg #[.int .i64 s.region, .int .i64 s.slot, .int .i64 s.value, .bool s.used, .int .i64 s.version]) "loop.example/g00153/impl.cell").run Tryz.prog w = .ok (209, .agg #[.int .i64 s.region, .int .i64 s.slot, .int .i64 s.value, .bool s.used, .int .i64 s.version]) w := fun _ => by kernel_rfl
  go_enter Tryz.func271, Tryz.ntmps271
  go_wp2_with (first | (go_at_call 209; refine c1.mono ?_; rintro e w1 ⟨rfl, b1⟩) | (go_at_call 295; refine (rank_any _ _ _ h1 h2).mono ?_; rintro e w2 ⟨rfl, b2⟩))
  go_ret
  exact ⟨rfl, b0.trans ((b1.trans (b2.mono b1.size)).mono b0.size)⟩
theorem noOk_in {s : N5} (h : noteOkB s = true) : inB 0 5 s.region = true ∧ inB 0 5 s.slot = true := by simp only [noteOkB, Bool.and_eq_true] at h; exact ⟨h.1.1.1, h.1.1.2⟩
set_option maxHeartbeats 1000000 in
theorem noWrong_any (w : World) (s : N5) (g : Nat) (hg : w.cell? ⟨g, 0, none⟩ = some (.func (.func 250) #[] #[])) (hl : g < w.heap.size) : Calls Tryz.prog 273 #[.agg #[.int .i64 s.region, .int .i64 s.slot, .int .i64 s.version, .int .i64 s.value, .bool s.used], .pointer (some ⟨g, 0, none⟩)] w fun e w' => e = .returned (.bool (!noteOkB s)) ∧ Below w.heap.size w w' := by
  obtain ⟨W, hW⟩ : ∃ W, W = w.alloc (.cells #[.int .i64 s.region, .int .i64 s.slot, .int .i64 s.version, .int .i64 s.value, .bool s.used] 106) := ⟨_, rfl⟩
  have b0 : Below w.heap.size w W := by rw [hW]; exact (Below.refl _ _).alloc (Nat.le_refl _) _
  have d := (b0.cell (p := ⟨g, 0, none⟩) hl).trans hg
  have c1 := implNoteOk W s
  have KB : Hid (Below w.heap.size w W) := b0
  clear hg hl b0
  rw [hW] at d
  go_enter Tryz.func273, Tryz.ntmps273
  go_wp2_with fail
  rw [← hW]
  refine c1.mono ?_
  clear c1 hW d
  rintro e w1 ⟨rfl, b1⟩
  go_wp2
  go_ret
  exact ⟨rfl, KB.out.trans (b1.mono KB.out.size)⟩
set_option maxHeartbeats 2000000 in
theorem noIdx (w : World) (a : Option Addr) (cap : Nat) (xs : List N5) (g : Nat) (hn : xs.length ≤ maxLen) (hs : SlNo w w.heap.size a xs.length xs) (hg : w.cell? ⟨g, 0, none⟩ = some (.func (.func 250) #[] #[])) (hgl : g < w.heap.size) :
    Calls Tryz.prog 296 #[.slice a xs.length cap, .func (.func 273) #[] #[.pointer (some ⟨g, 0, none⟩)]] w fun e w' => (∃ i : Int, e = .returned (.int .i64 i) ∧ FirstAt (fun i => !noteOkB (atNo xs i)) xs.length i) ∧ Below w.heap.size w w' := by
  unfold maxLen at hn
  obtain ⟨hx, hs⟩ := hs
  clear hx
  obtain ⟨f, hf⟩ : ∃ f : Nat → Bool, f = fun i => !noteOkB (atNo xs i) := ⟨_, rfl⟩
  have HF : Hid (∀ (X : World) (i : Nat), Below w.heap.size w X → Calls Tryz.prog 273 #[.agg #[.int .i64 (atNo xs i).region, .int .i64 (atNo xs i).slot, .int .i64 (atNo xs i).version, .int .i64 (atNo xs i).value, .bool (atNo xs i).used], .pointer (some ⟨g, 0, none⟩)] X fun e w' => e = .returned (.bool (f i)) ∧ Below X.heap.size X w') := fun X i hX => by
    rw [hf]; exact noWrong_any X (atNo xs i) g ((hX.cell (p := ⟨g, 0, none⟩) hgl).trans hg) (Nat.lt_of_lt_of_le hgl hX.size)
  rw [← hf]
  clear hf hg
  obtain ⟨n, hN⟩ : ∃ n, n = xs.length := ⟨_, rfl⟩
  rw [← hN] at hn hs ⊢
  have HN : Hid (n = xs.length) := hN
  clear hN
  go_enter Tryz.func296, Tryz.ntmps296
  go_wp2
  go_loopw [8] (fun v wr => ∃ j : Nat, j ≤ n ∧ v = .int .i64 j ∧ Below w.heap.size w wr ∧ ∀ i, i < j → f i = false) (fun v _ => n - (intOf v).toNat)
  case atStart => exact ⟨0, Nat.zero_le _, rfl, Below.refl _ _, fun i h => absurd h (by omega)⟩
  case round =>
    obtain ⟨j, hj, rfl, hbl, hall⟩ := hrel
    by_cases hlt : j < n
    · rcases hs with hs | ⟨b, off, rfl, hb, h1⟩
      · omega
      · obtain ⟨c0, c1, c2, c3, c4⟩ := (h1.below hbl hb) j _ (atNo_of (by rw [← HN.out]; exact hlt))
        have KA : Hid ((∀ i, i < j → f i = false) ∧ Below w.heap.size w wr) := ⟨hall, hbl⟩
        have hw := HF.out wr j hbl
        clear h1 hall hbl
        cases hp : f j with
        | true =>
          rw [hp] at hw
          go_wp2_with fail
          refine hw.mono ?_
          clear hw
          rintro e w1 ⟨rfl, b1⟩
          go_wp2
          go_ret
          exact ⟨⟨_, rfl, .inr ⟨j, rfl, hlt, hp, KA.out.1⟩⟩, KA.out.2.trans (b1.mono KA.out.2.size)⟩
        | false =>
          rw [hp] at hw
          go_wp2_with fail
          refine hw.mono ?_
          clear hw
          rintro e w1 ⟨rfl, b1⟩
          go_wp2
          exact ⟨⟨j + 1, by omega, by simp, KA.out.2.trans (b1.mono KA.out.2.size), fun i hi => by
            by_cases e : i = j
            · rw [e]; exact hp
            · exact KA.out.1 i (by omega)⟩, by simp [intOf]; omega⟩
    · have : j = n := by omega
      subst this
      have hd : decide ((j : Int) < (j : Int)) = false := by simp
      have KA : Hid (∀ i, i < j → f i = false) := hall
      clear hs hall
      go_wp2
      go_ret
      exact ⟨⟨_, rfl, .inl ⟨rfl, KA.out⟩⟩, hbl⟩
set_option maxHeartbeats 1000000 in
theorem noHas (w : World) (a : Option Addr) (cap : Nat) (xs : List N5) (g : Nat) (hn : xs.length ≤ maxLen) (hs : SlNo w w.heap.size a xs.length xs) (hg : w.cell? ⟨g, 0, none⟩ = some (.func (.func 250) #[] #[])) (hgl : g < w.heap.size) :
    Calls Tryz.prog 274 #[.slice a xs.length cap, .func (.func 273) #[] #[.pointer (some ⟨g, 0, none⟩)]] w fun e w' => e = .returned (.bool (!((List.range xs.length).all fun i => noteOkB (atNo xs i)))) ∧ Below w.heap.size w w' := by
  have c1 := noIdx w a cap xs g hn hs hg hgl
  have HE : Hid (∀ i : Int, FirstAt (fun i => !noteOkB (atNo xs i)) xs.length i → decide (0 ≤ i) = !((List.range xs.length).all fun i => noteOkB (atNo xs i))) := fun i h => by
    rw [first_has h]; simp
  clear hn hs hg hgl
  go_enter Tryz.func274, Tryz.ntmps274
  go_wp2_with fail
  refine c1.mono ?_
  clear c1
  rintro e w1 ⟨⟨i, rfl, hi⟩, b1⟩
  have KE : Hid (decide (0 ≤ i) = !((List.range xs.length).all fun i => noteOkB (atNo xs i))) := HE.out i hi
  clear hi HE
  go_wp2
  go_ret
  exact ⟨by rw [← KE.out]; rfl, b1⟩
def noUp (xs : List N5) (i : Nat) : Bool := decide (i = 0) || decide (rk (atNo xs (i - 1)).region (atNo xs (i - 1)).slot < rk (atNo xs i).region (atNo xs i).slot)
set_option maxHeartbeats 4000000 in
theorem noRises_any (w : World) (a : Option Addr) (cap : Nat) (xs : List N5) (hn : xs.length ≤ maxLen) (hs : SlNo w w.heap.size a xs.length xs) (hok : ∀ i, i < xs.length → noteOkB (atNo xs i) = true) :
    Calls Tryz.prog 275 #[.slice a xs.length cap, .func (.func 272) #[] #[]] w fun e w' => e = .returned (.bool ((List.range xs.length).all (noUp xs))) ∧ Below w.heap.size w w' := by
  unfold maxLen at hn
  obtain ⟨_, hs⟩ := hs
  have HO := hidOf hok
  clear hok
  obtain ⟨n, hN⟩ : ∃ n, n = xs.length := ⟨_, rfl⟩
  have HN : Hid (n = xs.length) := hN
  rw [← hN] at hn hs ⊢
  clear hN
  go_enter Tryz.func275, Tryz.ntmps275
  go_wp2
  go_loopw [5] (fun v wr => ∃ j : Nat, (j ≤ n ∨ n = 0 ∧ j = 1) ∧ 0 < j ∧ v = .int .i64 j ∧ Below w.heap.size w wr ∧ (List.range j).all (noUp xs) = true) (fun v _ => n - (intOf v).toNat)
  case atStart => exact ⟨1, by omega, by omega, rfl, Below.refl _ _, by simp [noUp]⟩
  case round =>
    obtain ⟨j, hj, hj0, rfl, hbl, hall⟩ := hrel
    by_cases hlt : j < n
    · rcases hs with hs | ⟨b, off, rfl, hb, h1⟩
      · omega
      obtain ⟨i, rfl⟩ : ∃ i, j = i + 1 := ⟨j - 1, by omega⟩
      obtain ⟨t0, t1, t2, t3, t4⟩ := (h1.below hbl hb) (i + 1) _ (atNo_of (by rw [← HN.out]; exact hlt))
      obtain ⟨u0, u1, u2, u3, u4⟩ := (h1.below hbl hb) i _ (atNo_of (by rw [← HN.out]; omega))
      have hbW : b < wr.heap.size := Nat.lt_of_lt_of_le hb hbl.size
      have lift : ∀ {o : Nat} {u : Value}, wr.cell? ⟨b, o, none⟩ = some u → ∀ d os, (grow (redrawn wr d) os).cell? ⟨b, o, none⟩ = some u := fun {o u} h d os => ((below_regrown wr d os).cell (p := ⟨b, o, none⟩) hbW).trans h
      have x0 := lift t0
      have x1 := lift t1
      have x2 := lift t2
      have x3 := lift t3
      have x4 := lift t4
      have y0 := lift u0
      have y1 := lift u1
      have y2 := lift u2
      have y3 := lift u3
      have y4 := lift u4
      have k1 := noOk_in (HO.out (i + 1) (by rw [← HN.out]; exact hlt))
      have k2 := noOk_in (HO.out i (by rw [← HN.out]; omega))
      have cA : ∀ d os, Calls Tryz.prog 272 #[.agg #[.int .i64 (atNo xs (i + 1)).region, .int .i64 (atNo xs (i + 1)).slot, .int .i64 (atNo xs (i + 1)).version, .int .i64 (atNo xs (i + 1)).value, .bool (atNo xs (i + 1)).used]] (grow (redrawn wr d) os) fun e w'' => e = .returned (.int .i64 (rk (atNo xs (i + 1)).region (atNo xs (i + 1)).slot)) ∧ ∃ p : Regrown, w'' = grow (redrawn wr p.d) p.os := fun d os => Calls.regrown_of (noRank_any _ _ k1.1 k1.2)
      have cB : ∀ d os, Calls Tryz.prog 272 #[.agg #[.int .i64 (atNo xs i).region, .int .i64 (atNo xs i).slot, .int .i64 (atNo xs i).version, .int .i64 (atNo xs i).value, .bool (atNo xs i).used]] (grow (redrawn wr d) os) fun e w'' => e = .returned (.int .i64 (rk (atNo xs i).region (atNo xs i).slot)) ∧ ∃ p : Regrown, w'' = grow (redrawn wr p.d) p.os := fun d os => Calls.regrown_of (noRank_any _ _ k2.1 k2.2)
      have K : Hid (Below w.heap.size w wr ∧ (List.range (i + 1)).all (noUp xs) = true) := ⟨hbl, hall⟩
      have hi : (i : Int) < (n : Int) := by omega
      clear lift t0 t1 t2 t3 t4 u0 u1 u2 u3 u4 k1 k2 h1 hbl hall
      have U : Hid (noUp xs (i + 1) = decide (rk (atNo xs i).region (atNo xs i).slot < rk (atNo xs (i + 1)).region (atNo xs (i + 1)).slot)) := by unfold Hid; simp [noUp]
      have HL : Hid (i + 1 < n) := hlt
      have hi1 : ((i + 1 : Nat) : Int) < (n : Int) := by omega
      clear hlt
      generalize rk (atNo xs (i + 1)).region (atNo xs (i + 1)).slot = x at *
      generalize rk (atNo xs i).region (atNo xs i).slot = y at *
      generalize (atNo xs (i + 1)).region = a0 at *
      generalize (atNo xs (i + 1)).slot = a1 at *
      generalize (atNo xs (i + 1)).value = a2 at *
      generalize (atNo xs (i + 1)).used = a3 at *
      generalize (atNo xs (i + 1)).version = a4 at *
      generalize (atNo xs i).region = e0 at *
      generalize (atNo xs i).slot = e1 at *
      generalize (atNo xs i).value = e2 at *
      generalize (atNo xs i).used = e3 at *
      generalize (atNo xs i).version = e4 at *
      by_cases hq : x ≤ y
      · have KU : Hid (noUp xs (i + 1) = false) := by unfold Hid; rw [U.out]; simp; omega
        have dq : decide (x ≤ y) = true := by simpa using hq
        clear hq U
        go_wp2_with fail
        refine wp_region_quiet_below (by kernel_rfl) (by kernel_rfl) ?_
        repeat (go_big_quiet_step (first | (go_at_call_of 272 (Value.agg #[.int .i64 a0, .int .i64 a1, .int .i64 a4, .int .i64 a2, .bool a3]); exact cA _ _) | (go_at_call_of 272 (Value.agg #[.int .i64 e0, .int .i64 e1, .int .i64 e4, .int .i64 e2, .bool e3]); exact cB _ _)))
        refine wpQuiet_nil ?_
        intro _ hw'
        obtain ⟨⟨dq', osq⟩, hw''⟩ := hw'
        subst hw''
        have bq := below_regrown wr dq' osq
        go_wp2
        go_ret
        exact ⟨by rw [alls_fail HL.out KU.out]; rfl, K.out.1.trans (bq.mono K.out.1.size)⟩
      · have KU : Hid (noUp xs (i + 1) = true) := by unfold Hid; rw [U.out]; simp; omega
        have dq : decide (x ≤ y) = false := by simpa using hq
        clear hq U
        go_wp2_with fail
        refine wp_region_quiet_below (by kernel_rfl) (by kernel_rfl) ?_
        repeat (go_big_quiet_step (first | (go_at_call_of 272 (Value.agg #[.int .i64 a0, .int .i64 a1, .int .i64 a4, .int .i64 a2, .bool a3]); exact cA _ _) | (go_at_call_of 272 (Value.agg #[.int .i64 e0, .int .i64 e1, .int .i64 e4, .int .i64 e2, .bool e3]); exact cB _ _)))
        refine wpQuiet_nil ?_
        intro _ hw'
        obtain ⟨⟨dq', osq⟩, hw''⟩ := hw'
        subst hw''
        have bq := below_regrown wr dq' osq
        go_wp2
        exact ⟨⟨i + 1 + 1, .inl HL.out, by omega, by simp, K.out.1.trans (bq.mono K.out.1.size), alls_step K.out.2 KU.out⟩, by have := HL.out; simp [intOf]; omega⟩
    · have hd : decide ((j : Int) < (n : Int)) = false := by simp; omega
      have KA : Hid ((List.range n).all (noUp xs) = true) := by
        unfold Hid
        rw [List.all_eq_true] at hall ⊢
        exact fun x hx => hall x (List.mem_range.2 (by have := List.mem_range.1 hx; omega))
      clear hs hall
      go_wp2
      go_ret
      exact ⟨by rw [KA.out]; rfl, hbl⟩
theorem noAt_all {xs : List N5} : (List.range xs.length).all (noAt xs) = ((List.range xs.length).all (fun i => noteOkB (atNo xs i)) && (List.range xs.length).all (noUp xs)) := by
  rw [Bool.eq_iff_iff, Bool.and_eq_true, List.all_eq_true, List.all_eq_true, List.all_eq_true]
  constructor
  · intro h
    have h1 : ∀ i, i < xs.length → noteOkB (atNo xs i) = true := fun i hi => by
      have := h i (List.mem_range.2 hi)
      simp only [noAt, Bool.and_eq_true] at this
      exact this.1
    refine ⟨fun i hi => h1 i (List.mem_range.1 hi), fun i hi => ?_⟩
    have hi' := List.mem_range.1 hi
    have := h i hi
    simp only [noAt, Bool.and_eq_true, Bool.or_eq_true, decide_eq_true_eq] at this
    simp only [noUp, Bool.or_eq_true, decide_eq_true_eq]
    by_cases e : i = 0
    · exact .inl e
    · rcases this.2 with e' | e'
      · exact .inl e'
      · rw [less_rk (noOk_in (h1 (i - 1) (by omega))).2 (noOk_in (h1 i hi')).2] at e'
        exact .inr (by simpa using e')
  · rintro ⟨h1, h2⟩ i hi
    have hi' := List.mem_range.1 hi
    have g1 := h1 i hi
    have g2 := h2 i hi
    simp only [noUp, Bool.or_eq_true, decide_eq_true_eq] at g2
    simp only [noAt, Bool.and_eq_true, Bool.or_eq_true, decide_eq_true_eq]
    refine ⟨g1, ?_⟩
    by_cases e : i = 0
    · exact .inl e
    · rcases g2 with e' | e'
      · exact .inl e'
      · refine .inr ?_
        rw [less_rk (noOk_in (h1 (i - 1) (List.mem_range.2 (by omega)))).2 (noOk_in g1).2]
        simpa using e'
set_option maxHeartbeats 2000000 in
theorem noEach_any (w : World) (a : Option Addr) (cap : Nat) (xs : List N5) (hn : xs.length ≤ maxLen) (hs : SlNo w w.heap.size a xs.length xs) :
    Calls Tryz.prog 249 #[.slice a xs.length cap, .func (.func 250) #[] #[]] w fun e w' => e = .returned (.bool (decide (xs.length ≤ 12) && (List.range xs.length).all (noAt xs))) ∧ Below w.heap.size w w' := by
  obtain ⟨W, hW⟩ : ∃ W, W = w.alloc (.cells #[.func (.func 250) #[] #[]] 165) := ⟨_, rfl⟩
  have b0 : Below w.heap.size w W := by rw [hW]; exact (Below.refl _ _).alloc (Nat.le_refl _) _
  have g0 : W.cell? ⟨w.heap.size, 0, none⟩ = some (.func (.func 250) #[] #[]) := by rw [hW]; go_simp
  have s0 : w.heap.size < W.heap.size := by rw [hW]; simp
  have c1 := noHas W a cap xs w.heap.size hn (hs.later b0) g0 s0
  have H : Hid (SlNo w w.heap.size a xs.length xs ∧ xs.length ≤ maxLen ∧ Below w.heap.size w W) := ⟨hs, hn, b0⟩
  have HA := hidOf (@noAt_all xs)
  clear hs b0 g0 s0
  unfold maxLen at hn
  by_cases h12 : xs.length ≤ 12
  case neg =>
    have d12 : decide ((xs.length : Int) ≤ 12) = false := by simp; omega
    have KN : Hid (decide (xs.length ≤ 12) = false) := by unfold Hid; simp; omega
    rw [hW] at H
    clear c1 hW h12
    go_enter Tryz.func249, Tryz.ntmps249
    go_wp2
    go_ret
    exact ⟨by rw [KN.out]; rfl, H.out.2.2⟩
  have d12 : decide ((xs.length : Int) ≤ 12) = true := by simp; omega
  have KN : Hid (decide (xs.length ≤ 12) = true) := by unfold Hid; simp; omega
  cases hal : (List.range xs.length).all (fun i => noteOkB (atNo xs i)) with
  | false =>
    rw [hal] at c1
    clear h12
    go_enter Tryz.func249, Tryz.ntmps249
    go_wp2_with fail
    rw [← hW]
    clear hW
    refine c1.mono ?_
    clear c1
    rintro e w1 ⟨rfl, b1⟩
    go_wp2
    go_ret
    exact ⟨by rw [KN.out, HA.out, hal]; rfl, H.out.2.2.trans (b1.mono H.out.2.2.size)⟩
  | true =>
    rw [hal] at c1
    have HO : Hid (∀ i, i < xs.length → noteOkB (atNo xs i) = true) := fun i hi => List.all_eq_true.1 hal i (List.mem_range.2 hi)
    clear h12
    go_enter Tryz.func249, Tryz.ntmps249
    go_wp2_with fail
    rw [← hW]
    clear hW
    refine c1.mono ?_
    clear c1
    rintro e w1 ⟨rfl, b1⟩
    have bw : Below w.heap.size w w1 := H.out.2.2.trans (b1.mono H.out.2.2.size)
    have c2 := noRises_any w1 a cap xs H.out.2.1 (H.out.1.later bw) HO.out
    have KB : Hid (Below w.heap.size w w1) := bw
    clear b1 bw
    go_wp2_with fail
    refine c2.mono ?_
    clear c2
    rintro e w2 ⟨rfl, b2⟩
    go_wp2
    go_ret
    exact ⟨by rw [KN.out, HA.out, hal]; rfl, KB.out.trans (b2.mono KB.out.size)⟩
theorem seOk_in {s : S5} (h : setOkB s = true) : inB 0 5 s.region = true ∧ inB 0 5 s.slot = true := by simp only [setOkB, Bool.and_eq_true] at h; exact ⟨h.1.1.1, h.1.1.2⟩
set_option maxHeartbeats 1000000 in
theorem seWrong_any (w : World) (s : S5) (g : Nat) (hg : w.cell? ⟨g, 0, none⟩ = some (.func (.func 208) #[] #[])) (hl : g < w.heap.size) : Calls Tryz.prog 277 #[.agg #[.int .i64 s.region, .int .i64 s.slot, .int .i64 s.value, .bool s.used, .int .i64 s.version], .pointer (some ⟨g, 0, none⟩)] w fun e w' => e = .returned (.bool (!setOkB s)) ∧ Below w.heap.size w w' := by
  obtain ⟨W, hW⟩ : ∃ W, W = w.alloc (.cells #[.int .i64 s.region, .int .i64 s.slot, .int .i64 s.value, .bool s.used, .int .i64 s.version] 109) := ⟨_, rfl⟩
  have b0 : Below w.heap.size w W := by rw [hW]; exact (Below.refl _ _).alloc (Nat.le_refl _) _
  have d := (b0.cell (p := ⟨g, 0, none⟩) hl).trans hg
  have c1 := implSetOk W s
  have KB : Hid (Below w.heap.size w W) := b0
  clear hg hl b0
  rw [hW] at d
  go_enter Tryz.func277, Tryz.ntmps277
  go_wp2_with fail
  rw [← hW]
  refine c1.mono ?_
  clear c1 hW d
  rintro e w1 ⟨rfl, b1⟩
  go_wp2
  go_ret
  exact ⟨rfl, KB.out.trans (b1.mono KB.out.size)⟩
set_option maxHeartbeats 2000000 in
theorem seIdx (w : World) (a : Option Addr) (cap : Nat) (xs : List S5) (g : Nat) (hn : xs.length ≤ maxLen) (hs : Sl w w.heap.size a xs.length xs) (hg : w.cell? ⟨g, 0, none⟩ = some (.func (.func 208) #[] #[])) (hgl : g < w.heap.size) :
    Calls Tryz.prog 297 #[.slice a xs.length cap, .func (.func 277) #[] #[.pointer (some ⟨g, 0, none⟩)]] w fun e w' => (∃ i : Int, e = .returned (.int .i64 i) ∧ FirstAt (fun i => !setOkB (atSe xs i)) xs.length i) ∧ Below w.heap.size w w' := by
  unfold maxLen at hn
  obtain ⟨hx, hs⟩ := hs
  clear hx
  obtain ⟨f, hf⟩ : ∃ f : Nat → Bool, f = fun i => !setOkB (atSe xs i) := ⟨_, rfl⟩
  have HF : Hid (∀ (X : World) (i : Nat), Below w.heap.size w X → Calls Tryz.prog 277 #[.agg #[.int .i64 (atSe xs i).region, .int .i64 (atSe xs i).slot, .int .i64 (atSe xs i).value, .bool (atSe xs i).used, .int .i64 (atSe xs i).version], .pointer (some ⟨g, 0, none⟩)] X fun e w' => e = .returned (.bool (f i)) ∧ Below X.heap.size X w') := fun X i hX => by
    rw [hf]; exact seWrong_any X (atSe xs i) g ((hX.cell (p := ⟨g, 0, none⟩) hgl).trans hg) (Nat.lt_of_lt_of_le hgl hX.size)
  rw [← hf]
  clear hf hg
  obtain ⟨n, hN⟩ : ∃ n, n = xs.length := ⟨_, rfl⟩
  rw [← hN] at hn hs ⊢
  have HN : Hid (n = xs.length) := hN
  clear hN
  go_enter Tryz.func297, Tryz.ntmps297
  go_wp2
  go_loopw [8] (fun v wr => ∃ j : Nat, j ≤ n ∧ v = .int .i64 j ∧ Below w.heap.size w wr ∧ ∀ i, i < j → f i = false) (fun v _ => n - (intOf v).toNat)
  case atStart => exact ⟨0, Nat.zero_le _, rfl, Below.refl _ _, fun i h => absurd h (by omega)⟩
  case round =>
    obtain ⟨j, hj, rfl, hbl, hall⟩ := hrel
    by_cases hlt : j < n
    · rcases hs with hs | ⟨b, off, rfl, hb, h1⟩
      · omega
      · obtain ⟨c0, c1, c2, c3, c4⟩ := (h1.below hbl hb) j _ (atSe_of (by rw [← HN.out]; exact hlt))
        have KA : Hid ((∀ i, i < j → f i = false) ∧ Below w.heap.size w wr) := ⟨hall, hbl⟩
        have hw := HF.out wr j hbl
        clear h1 hall hbl
        cases hp : f j with
        | true =>
          rw [hp] at hw
          go_wp2_with fail
          refine hw.mono ?_
          clear hw
          rintro e w1 ⟨rfl, b1⟩
          go_wp2
          go_ret
          exact ⟨⟨_, rfl, .inr ⟨j, rfl, hlt, hp, KA.out.1⟩⟩, KA.out.2.trans (b1.mono KA.out.2.size)⟩
        | false =>
          rw [hp] at hw
          go_wp2_with fail
          refine hw.mono ?_
          clear hw
          rintro e w1 ⟨rfl, b1⟩
          go_wp2
          exact ⟨⟨j + 1, by omega, by simp, KA.out.2.trans (b1.mono KA.out.2.size), fun i hi => by
            by_cases e : i = j
            · rw [e]; exact hp
            · exact KA.out.1 i (by omega)⟩, by simp [intOf]; omega⟩
    · have : j = n := by omega
      subst this
      have hd : decide ((j : Int) < (j : Int)) = false := by simp
      have KA : Hid (∀ i, i < j → f i = false) := hall
      clear hs hall
      go_wp2
      go_ret
      exact ⟨⟨_, rfl, .inl ⟨rfl, KA.out⟩⟩, hbl⟩
set_option maxHeartbeats 1000000 in
theorem seHas (w : World) (a : Option Addr) (cap : Nat) (xs : List S5) (g : Nat) (hn : xs.length ≤ maxLen) (hs : Sl w w.heap.size a xs.length xs) (hg : w.cell? ⟨g, 0, none⟩ = some (.func (.func 208) #[] #[])) (hgl : g < w.heap.size) :
    Calls Tryz.prog 278 #[.slice a xs.length cap, .func (.func 277) #[] #[.pointer (some ⟨g, 0, none⟩)]] w fun e w' => e = .returned (.bool (!((List.range xs.length).all fun i => setOkB (atSe xs i)))) ∧ Below w.heap.size w w' := by
  have c1 := seIdx w a cap xs g hn hs hg hgl
  have HE : Hid (∀ i : Int, FirstAt (fun i => !setOkB (atSe xs i)) xs.length i → decide (0 ≤ i) = !((List.range xs.length).all fun i => setOkB (atSe xs i))) := fun i h => by
    rw [first_has h]; simp
  clear hn hs hg hgl
  go_enter Tryz.func278, Tryz.ntmps278
  go_wp2_with fail
  refine c1.mono ?_
  clear c1
  rintro e w1 ⟨⟨i, rfl, hi⟩, b1⟩
  have KE : Hid (decide (0 ≤ i) = !((List.range xs.length).all fun i => setOkB (atSe xs i))) := HE.out i hi
  clear hi HE
  go_wp2
  go_ret
  exact ⟨by rw [← KE.out]; rfl, b1⟩
def seUp (xs : List S5) (i : Nat) : Bool := decide (i = 0) || decide (rk (atSe xs (i - 1)).region (atSe xs (i - 1)).slot < rk (atSe xs i).region (atSe xs i).slot)
set_option maxHeartbeats 4000000 in
theorem seRises_any (w : World) (a : Option Addr) (cap : Nat) (xs : List S5) (hn : xs.length ≤ maxLen) (hs : Sl w w.heap.size a xs.length xs) (hok : ∀ i, i < xs.length → setOkB (atSe xs i) = true) :
    Calls Tryz.prog 279 #[.slice a xs.length cap, .func (.func 271) #[] #[]] w fun e w' => e = .returned (.bool ((List.range xs.length).all (seUp xs))) ∧ Below w.heap.size w w' := by
  unfold maxLen at hn
  obtain ⟨_, hs⟩ := hs
  have HO := hidOf hok
  clear hok
  obtain ⟨n, hN⟩ : ∃ n, n = xs.length := ⟨_, rfl⟩
  have HN : Hid (n = xs.length) := hN
  rw [← hN] at hn hs ⊢
  clear hN
  go_enter Tryz.func279, Tryz.ntmps279
  go_wp2
  go_loopw [5] (fun v wr => ∃ j : Nat, (j ≤ n ∨ n = 0 ∧ j = 1) ∧ 0 < j ∧ v = .int .i64 j ∧ Below w.heap.size w wr ∧ (List.range j).all (seUp xs) = true) (fun v _ => n - (intOf v).toNat)
  case atStart => exact ⟨1, by omega, by omega, rfl, Below.refl _ _, by simp [seUp]⟩
  case round =>
    obtain ⟨j, hj, hj0, rfl, hbl, hall⟩ := hrel
    by_cases hlt : j < n
    · rcases hs with hs | ⟨b, off, rfl, hb, h1⟩
      · omega
      obtain ⟨i, rfl⟩ : ∃ i, j = i + 1 := ⟨j - 1, by omega⟩
      obtain ⟨t0, t1, t2, t3, t4⟩ := (h1.below hbl hb) (i + 1) _ (atSe_of (by rw [← HN.out]; exact hlt))
      obtain ⟨u0, u1, u2, u3, u4⟩ := (h1.below hbl hb) i _ (atSe_of (by rw [← HN.out]; omega))
      have hbW : b < wr.heap.size := Nat.lt_of_lt_of_le hb hbl.size
      have lift : ∀ {o : Nat} {u : Value}, wr.cell? ⟨b, o, none⟩ = some u → ∀ d os, (grow (redrawn wr d) os).cell? ⟨b, o, none⟩ = some u := fun {o u} h d os => ((below_regrown wr d os).cell (p := ⟨b, o, none⟩) hbW).trans h
      have x0 := lift t0
      have x1 := lift t1
      have x2 := lift t2
      have x3 := lift t3
      have x4 := lift t4
      have y0 := lift u0
      have y1 := lift u1
      have y2 := lift u2
      have y3 := lift u3
      have y4 := lift u4
      have k1 := seOk_in (HO.out (i + 1) (by rw [← HN.out]; exact hlt))
      have k2 := seOk_in (HO.out i (by rw [← HN.out]; omega))
      have cA : ∀ d os, Calls Tryz.prog 271 #[.agg #[.int .i64 (atSe xs (i + 1)).region, .int .i64 (atSe xs (i + 1)).slot, .int .i64 (atSe xs (i + 1)).value, .bool (atSe xs (i + 1)).used, .int .i64 (atSe xs (i + 1)).version]] (grow (redrawn wr d) os) fun e w'' => e = .returned (.int .i64 (rk (atSe xs (i + 1)).region (atSe xs (i + 1)).slot)) ∧ ∃ p : Regrown, w'' = grow (redrawn wr p.d) p.os := fun d os => Calls.regrown_of (seRank_any _ _ k1.1 k1.2)
      have cB : ∀ d os, Calls Tryz.prog 271 #[.agg #[.int .i64 (atSe xs i).region, .int .i64 (atSe xs i).slot, .int .i64 (atSe xs i).value, .bool (atSe xs i).used, .int .i64 (atSe xs i).version]] (grow (redrawn wr d) os) fun e w'' => e = .returned (.int .i64 (rk (atSe xs i).region (atSe xs i).slot)) ∧ ∃ p : Regrown, w'' = grow (redrawn wr p.d) p.os := fun d os => Calls.regrown_of (seRank_any _ _ k2.1 k2.2)
      have K : Hid (Below w.heap.size w wr ∧ (List.range (i + 1)).all (seUp xs) = true) := ⟨hbl, hall⟩
      have hi : (i : Int) < (n : Int) := by omega
      clear lift t0 t1 t2 t3 t4 u0 u1 u2 u3 u4 k1 k2 h1 hbl hall
      have U : Hid (seUp xs (i + 1) = decide (rk (atSe xs i).region (atSe xs i).slot < rk (atSe xs (i + 1)).region (atSe xs (i + 1)).slot)) := by unfold Hid; simp [seUp]
      have HL : Hid (i + 1 < n) := hlt
      have hi1 : ((i + 1 : Nat) : Int) < (n : Int) := by omega
      clear hlt
      generalize rk (atSe xs (i + 1)).region (atSe xs (i + 1)).slot = x at *
      generalize rk (atSe xs i).region (atSe xs i).slot = y at *
      generalize (atSe xs (i + 1)).region = a0 at *
      generalize (atSe xs (i + 1)).slot = a1 at *
      generalize (atSe xs (i + 1)).value = a2 at *
      generalize (atSe xs (i + 1)).used = a3 at *
      generalize (atSe xs (i + 1)).version = a4 at *
      generalize (atSe xs i).region = e0 at *
      generalize (atSe xs i).slot = e1 at *
      generalize (atSe xs i).value = e2 at *
      generalize (atSe xs i).used = e3 at *
      generalize (atSe xs i).version = e4 at *
      by_cases hq : x ≤ y
      · have KU : Hid (seUp xs (i + 1) = false) := by unfold Hid; rw [U.out]; simp; omega
        have dq : decide (x ≤ y) = true := by simpa using hq
        clear hq U
        go_wp2_with fail
        refine wp_region_quiet_below (by kernel_rfl) (by kernel_rfl) ?_
        repeat (go_big_quiet_step (first | (go_at_call_of 271 (Value.agg #[.int .i64 a0, .int .i64 a1, .int .i64 a2, .bool a3, .int .i64 a4]); exact cA _ _) | (go_at_call_of 271 (Value.agg #[.int .i64 e0, .int .i64 e1, .int .i64 e2, .bool e3, .int .i64 e4]); exact cB _ _)))
        refine wpQuiet_nil ?_
        intro _ hw'
        obtain ⟨⟨dq', osq⟩, hw''⟩ := hw'
        subst hw''
        have bq := below_regrown wr dq' osq
        go_wp2
        go_ret
        exact ⟨by rw [alls_fail HL.out KU.out]; rfl, K.out.1.trans (bq.mono K.out.1.size)⟩
      · have KU : Hid (seUp xs (i + 1) = true) := by unfold Hid; rw [U.out]; simp; omega
        have dq : decide (x ≤ y) = false := by simpa using hq
        clear hq U
        go_wp2_with fail
        refine wp_region_quiet_below (by kernel_rfl) (by kernel_rfl) ?_
        repeat (go_big_quiet_step (first | (go_at_call_of 271 (Value.agg #[.int .i64 a0, .int .i64 a1, .int .i64 a2, .bool a3, .int .i64 a4]); exact cA _ _) | (go_at_call_of 271 (Value.agg #[.int .i64 e0, .int .i64 e1, .int .i64 e2, .bool e3, .int .i64 e4]); exact cB _ _)))
        refine wpQuiet_nil ?_
        intro _ hw'
        obtain ⟨⟨dq', osq⟩, hw''⟩ := hw'
        subst hw''
        have bq := below_regrown wr dq' osq
        go_wp2
        exact ⟨⟨i + 1 + 1, .inl HL.out, by omega, by simp, K.out.1.trans (bq.mono K.out.1.size), alls_step K.out.2 KU.out⟩, by have := HL.out; simp [intOf]; omega⟩
    · have hd : decide ((j : Int) < (n : Int)) = false := by simp; omega
      have KA : Hid ((List.range n).all (seUp xs) = true) := by
        unfold Hid
        rw [List.all_eq_true] at hall ⊢
        exact fun x hx => hall x (List.mem_range.2 (by have := List.mem_range.1 hx; omega))
      clear hs hall
      go_wp2
      go_ret
      exact ⟨by rw [KA.out]; rfl, hbl⟩
theorem seAt_all {xs : List S5} : (List.range xs.length).all (seAt xs) = ((List.range xs.length).all (fun i => setOkB (atSe xs i)) && (List.range xs.length).all (seUp xs)) := by
  rw [Bool.eq_iff_iff, Bool.and_eq_true, List.all_eq_true, List.all_eq_true, List.all_eq_true]
  constructor
  · intro h
    have h1 : ∀ i, i < xs.length → setOkB (atSe xs i) = true := fun i hi => by
      have := h i (List.mem_range.2 hi)
      simp only [seAt, Bool.and_eq_true] at this
      exact this.1
    refine ⟨fun i hi => h1 i (List.mem_range.1 hi), fun i hi => ?_⟩
    have hi' := List.mem_range.1 hi
    have := h i hi
    simp only [seAt, Bool.and_eq_true, Bool.or_eq_true, decide_eq_true_eq] at this
    simp only [seUp, Bool.or_eq_true, decide_eq_true_eq]
    by_cases e : i = 0
    · exact .inl e
    · rcases this.2 with e' | e'
      · exact .inl e'
      · rw [less_rk (seOk_in (h1 (i - 1) (by omega))).2 (seOk_in (h1 i hi')).2] at e'
        exact .inr (by simpa using e')
  · rintro ⟨h1, h2⟩ i hi
    have hi' := List.mem_range.1 hi
    have g1 := h1 i hi
    have g2 := h2 i hi
    simp only [seUp, Bool.or_eq_true, decide_eq_true_eq] at g2
    simp only [seAt, Bool.and_eq_true, Bool.or_eq_true, decide_eq_true_eq]
    refine ⟨g1, ?_⟩
    by_cases e : i = 0
    · exact .inl e
    · rcases g2 with e' | e'
      · exact .inl e'
      · refine .inr ?_
        rw [less_rk (seOk_in (h1 (i - 1) (List.mem_range.2 (by omega)))).2 (seOk_in g1).2]
        simpa using e'
set_option maxHeartbeats 2000000 in
theorem seEach_any (w : World) (a : Option Addr) (cap : Nat) (xs : List S5) (hn : xs.length ≤ maxLen) (hs : Sl w w.heap.size a xs.length xs) :
    Calls Tryz.prog 251 #[.slice a xs.length cap, .func (.func 208) #[] #[]] w fun e w' => e = .returned (.bool (decide (xs.length ≤ 12) && (List.range xs.length).all (seAt xs))) ∧ Below w.heap.size w w' := by
  obtain ⟨W, hW⟩ : ∃ W, W = w.alloc (.cells #[.func (.func 208) #[] #[]] 167) := ⟨_, rfl⟩
  have b0 : Below w.heap.size w W := by rw [hW]; exact (Below.refl _ _).alloc (Nat.le_refl _) _
  have g0 : W.cell? ⟨w.heap.size, 0, none⟩ = some (.func (.func 208) #[] #[]) := by rw [hW]; go_simp
  have s0 : w.heap.size < W.heap.size := by rw [hW]; simp
  have c1 := seHas W a cap xs w.heap.size hn (hs.later b0) g0 s0
  have H : Hid (Sl w w.heap.size a xs.length xs ∧ xs.length ≤ maxLen ∧ Below w.heap.size w W) := ⟨hs, hn, b0⟩
  have HA := hidOf (@seAt_all xs)
  clear hs b0 g0 s0
  unfold maxLen at hn
  by_cases h12 : xs.length ≤ 12
  case neg =>
    have d12 : decide ((xs.length : Int) ≤ 12) = false := by simp; omega
    have KN : Hid (decide (xs.length ≤ 12) = false) := by unfold Hid; simp; omega
    rw [hW] at H
    clear c1 hW h12
    go_enter Tryz.func251, Tryz.ntmps251
    go_wp2
    go_ret
    exact ⟨by rw [KN.out]; rfl, H.out.2.2⟩
  have d12 : decide ((xs.length : Int) ≤ 12) = true := by simp; omega
  have KN : Hid (decide (xs.length ≤ 12) = true) := by unfold Hid; simp; omega
  cases hal : (List.range xs.length).all (fun i => setOkB (atSe xs i)) with
  | false =>
    rw [hal] at c1
    clear h12
    go_enter Tryz.func251, Tryz.ntmps251
    go_wp2_with fail
    rw [← hW]
    clear hW
    refine c1.mono ?_
    clear c1
    rintro e w1 ⟨rfl, b1⟩
    go_wp2
    go_ret
    exact ⟨by rw [KN.out, HA.out, hal]; rfl, H.out.2.2.trans (b1.mono H.out.2.2.size)⟩
  | true =>
    rw [hal] at c1
    have HO : Hid (∀ i, i < xs.length → setOkB (atSe xs i) = true) := fun i hi => List.all_eq_true.1 hal i (List.mem_range.2 hi)
    clear h12
    go_enter Tryz.func251, Tryz.ntmps251
    go_wp2_with fail
    rw [← hW]
    clear hW
    refine c1.mono ?_
    clear c1
    rintro e w1 ⟨rfl, b1⟩
    have bw : Below w.heap.size w w1 := H.out.2.2.trans (b1.mono H.out.2.2.size)
    have c2 := seRises_any w1 a cap xs H.out.2.1 (H.out.1.later bw) HO.out
    have KB : Hid (Below w.heap.size w w1) := bw
    clear b1 bw
    go_wp2_with fail
    refine c2.mono ?_
    clear c2
    rintro e w2 ⟨rfl, b2⟩
    go_wp2
    go_ret
    exact ⟨by rw [KN.out, HA.out, hal]; rfl, KB.out.trans (b2.mono KB.out.size)⟩
end Go.Proofs.YtohcgfdnjgkfjaaGreatDoor.tx