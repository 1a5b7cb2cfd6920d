/- TakeA; NumOwn; CpyG; CluS; Take; LogI; LogS; VoD; VoN; YTxR; YTxK: joined. -/
import Derived.Test.YtphpcgmnljhimaaGreatRows
import Derived.Test.YtphpcgmnljhimaaGreatJ8ExactSettled
import Derived.Test.YtphpcgmnljhimaaGreatJ7ExactSettled
import Derived.WalkKit
import Derived.WalkSpells
import Derived.WalkLawsBesides
import Derived.Below
import Derived.Test.YtphpcgmnljhimaaGreatJ0ExactSettled
import Derived.Maps.AppendAt
import Derived.Laws.OwnMore
import Derived.Deep.AppendLies
import Derived.Test.YtphpcgmnljhimaaGreatJ5ExactSettled
import Derived.Test.YtphpcgmnljhimaaGreatJ2ExactSettled
import Derived.Test.YtphpcgmnljhimaaGreatJ3ExactSettled
import Derived.Lib.QuietBelow
import Derived.BigQuiet
import Derived.Deep.CutRange
import Derived.Test.YtphpcgmnljhimaaGreatJ6ExactSettled
import Derived.LaidEql
import Derived.RowKitTokens
import Derived.Deep.Upon
import Derived.Deep.RegionWith
namespace Go.Proofs.YtphpcgmnljhimaaGreat
open Go.RowKit
theorem MSm.of_mach {m : M4} (h : machB m = true) : MSm m := by
  simp only [machB, Bool.and_eq_true, decide_eq_true_eq] at h
  obtain ⟨⟨⟨⟨⟨h1, h2⟩, h3⟩, _⟩, h4⟩, h5⟩ := h
  refine ⟨h1, fun c hc => ?_, h2, fun c hc => ?_, h3⟩
  · obtain ⟨i, hi, rfl⟩ := List.getElem_of_mem hc
    have := List.all_eq_true.1 h4 i (List.mem_range.2 hi)
    simp only [copB, atK, List.getElem?_eq_getElem hi, Option.getD_some, Bool.and_eq_true, cellsB, decide_eq_true_eq] at this
    exact this.1.2.1
  · obtain ⟨i, hi, rfl⟩ := List.getElem_of_mem hc
    have := List.all_eq_true.1 h5 i (List.mem_range.2 hi)
    simp only [logB, atR, List.getElem?_eq_getElem hi, Option.getD_some, Bool.and_eq_true, recB, decide_eq_true_eq] at this
    exact ⟨this.1.1.1.2, this.1.1.2⟩
theorem GrowG.mono {α : Type} {T : TypeId} {sz : Nat} {hd : α → List Int} {ln : α → Nat} {At : World → Nat → α → Prop} {w : World} {base base' : Nat} {v : Value} {rs : List α} {g : Nat → Nat} (h : GrowG T sz hd ln At w base v rs g) (hb : base' ≤ base) : GrowG T sz hd ln At w base' v rs g := by
  obtain ⟨caps, ho, hc⟩ := h.row
  refine ⟨⟨caps, ⟨ho.1, ho.2.imp id ?_⟩, hc⟩, fun i hi => Nat.le_trans hb (h.low i hi), h.lt, h.ne, h.sub, h.inj⟩
  rintro ⟨q, cap, cur, rfl, l, r⟩
  exact ⟨q, cap, cur, rfl, Nat.le_trans hb l, r⟩
theorem MR.mono {base base' p : Nat} {X : World} {vk vr vd : Value} {ks : List K2} {rs : List R4} {zs : List Int} {gk gr : Nat → Nat} (h : MR base p X vk vr vd ks rs zs gk gr) (hb : base' ≤ base) : MR base' p X vk vr vd ks rs zs gk gr := by
  refine ⟨h.gK.mono hb, h.gR.mono hb, ⟨h.gD.1, h.gD.2.imp id ?_⟩, h.kr, h.kd, h.rd, h.kp, h.rp, h.dp⟩
  rintro ⟨q, cap, cur, rfl, l, r⟩
  exact ⟨q, cap, cur, rfl, Nat.le_trans hb l, r⟩
theorem MR.out {base p p' : Nat} {X : World} {vk vr vd : Value} {ks : List K2} {rs : List R4} {zs : List Int} {gk gr : Nat → Nat} (h : MR base p X vk vr vd ks rs zs gk gr) (hp : p' < base ∨ X.heap.size ≤ p') : MR base p' X vk vr vd ks rs zs gk gr :=
  ⟨h.gK, h.gR, h.gD, h.kr, h.kd, h.rd, fun q hq e => by have := h.gK.blocks hq; omega, fun q hq e => by have := h.gR.blocks hq; omega, fun e => by have := World.ownsRow.lt h.gD _ e; omega⟩
def ON (w : World) (base : Nat) (v : Value) (zs : List Int) : Prop := w.ownsRow base 2 1 v zs.length (zs.map (Value.int .i64))
theorem ON.nil (w : World) (base : Nat) : ON w base (.slice none 0 0) [] := World.ownsRow_nil w base _ 1
theorem ON.empty (w : World) : ON (w.alloc (.cells #[] 2)) w.heap.size (.slice (some ⟨w.heap.size, 0, none⟩) 0 0) [] := World.ownsRow_made w #[] 0 (Nat.le_refl _) (Nat.zero_le _) rfl
theorem ON.lower {w : World} {base base' : Nat} {v : Value} {zs : List Int} (h : ON w base v zs) (hb : base' ≤ base) : ON w base' v zs :=
  ⟨h.1, h.2.imp id (fun ⟨g', cap', cur, e, l, r⟩ => ⟨g', cap', cur, e, Nat.le_trans hb l, r⟩)⟩
theorem ON.form {w : World} {base : Nat} {v : Value} {zs : List Int} (h : ON w base v zs) : (v = .slice none 0 0 ∧ zs = []) ∨ ∃ g cap, v = .slice (some ⟨g, 0, none⟩) zs.length cap ∧ base ≤ g ∧ g < w.heap.size ∧ zs.length ≤ cap ∧ NumsAt w g 0 zs ∧ Room w g zs.length := by
  rcases h.2 with ⟨e, h0⟩ | ⟨g, cap, cur, rfl, hb, hg, hc, _⟩
  · exact .inl ⟨e, List.eq_nil_of_length_eq_zero h0⟩
  · refine .inr ⟨g, cap, rfl, hb, ?_, hc, fun i z e => ?_, fun i hi => ?_⟩
    · exact (World.ownsRow.lt h g rfl).2
    · have hi : i < zs.length := (List.getElem?_eq_some_iff.1 e).1
      rw [Nat.zero_add, World.ownsRow.cellAt h i (by omega)]
      rw [List.getElem?_map, e]; rfl
    · refine ⟨.int .i64 zs[i], ?_, World.ownsRow.frozenAt h i⟩
      rw [World.ownsRow.cellAt h i (by omega)]
      simp [hi]
theorem ON.kept {w w' : World} {base : Nat} {v : Value} {zs : List Int} (h : ON w base v zs) (hs : ∀ q, v.ownBlock = some q → w'.heap[q]? = w.heap[q]?) : ON w' base v zs := by
  refine ⟨h.1, h.2.imp id ?_⟩
  rintro ⟨g, cap, cur, rfl, l, hg, r⟩
  exact ⟨g, cap, cur, rfl, l, (hs g rfl).trans hg, r⟩
theorem ON.below {w w' : World} {base : Nat} {v : Value} {zs : List Int} (h : ON w base v zs) (hb : Below w.heap.size w w') : ON w' base v zs :=
  h.kept fun q e => hb.block q (World.ownsRow.lt h q e).2
end Go.Proofs.YtphpcgmnljhimaaGreat
namespace Go.Proofs.YtphpcgmnljhimaaGreat
open Go.RowKit
open Go.Sort (grow)
structure CSm (k : C6) : Prop where
  p : k.places.length ≤ 6
  ps : ∀ zs ∈ k.places, 0 < zs.length ∧ zs.length ≤ 3
  m : k.machines.length ≤ 8
  ms : ∀ m ∈ k.machines, MSm m
  t : k.txs.length ≤ 60
  ts : ∀ t ∈ k.txs, t.reads.length ≤ 12 ∧ t.sets.length ≤ 12
theorem CSm.of {k : C6} (h : clusterB k = true) : CSm k := by
  simp only [clusterB, placesB, machsB, txsB, Bool.and_eq_true, decide_eq_true_eq] at h
  obtain ⟨⟨⟨⟨⟨⟨⟨⟨_, _⟩, _⟩, h4⟩, ⟨_, h5⟩, h6⟩, h7⟩, h8⟩, _⟩, h9⟩ := h
  refine ⟨h5, fun zs hz => ?_, h4, fun m hm => ?_, h7, fun t ht => ?_⟩
  · obtain ⟨i, hi, rfl⟩ := List.getElem_of_mem hz
    have := List.all_eq_true.1 h6 i (List.mem_range.2 hi)
    simp only [atP, List.getElem?_eq_getElem hi, Option.getD_some, placeB, Bool.and_eq_true, decide_eq_true_eq] at this
    omega
  · obtain ⟨i, hi, rfl⟩ := List.getElem_of_mem hm
    have := List.all_eq_true.1 h8 i (List.mem_range.2 hi)
    simp only [atM, List.getElem?_eq_getElem hi, Option.getD_some] at this
    exact MSm.of_mach this
  · obtain ⟨i, hi, rfl⟩ := List.getElem_of_mem ht
    have := List.all_eq_true.1 h9 i (List.mem_range.2 hi)
    simp only [txAtB, tx.txB, atT, List.getElem?_eq_getElem hi, Option.getD_some, Bool.and_eq_true, decide_eq_true_eq] at this
    omega
structure CSt (w : World) (A Z : List Value) (k : C6) (X : World) (vp vm vt : Value) (ps : List ((Nat × Nat) × List Int)) (gp : Nat → Nat → Prop) (ms : List (MV × M4)) (gm : Nat → Nat → Prop) (ts : List (tx.TV × tx.T7)) (gt : Nat → Nat → Prop) : Prop where
  arg : Bx X w.heap.size A
  res : Bx X (w.heap.size + 1) Z
  own : Bx X (w.heap.size + 2) [.int .i64 k.config, .int .i64 k.clock, vp, vm, vt, .bool k.lost]
  rows : CL3 (w.heap.size + 3) (w.heap.size + 2) X vp vm vt ps gp ms gm ts gt
  bel : Below w.heap.size w X
theorem CSt.later {w : World} {A Z : List Value} {k : C6} {X Y : World} {vp vm vt : Value} {ps : List ((Nat × Nat) × List Int)} {gp : Nat → Nat → Prop} {ms : List (MV × M4)} {gm : Nat → Nat → Prop} {ts : List (tx.TV × tx.T7)} {gt : Nat → Nat → Prop} (h : CSt w A Z k X vp vm vt ps gp ms gm ts gt) (b : Below X.heap.size X Y) : CSt w A Z k Y vp vm vt ps gp ms gm ts gt := ⟨h.arg.later b, h.res.later b, h.own.later b, h.rows.later b, bstep h.bel b⟩
def ClAns (w : World) (k : C6) (e : Ending) (w' : World) : Prop := ∃ (a1 : Option Addr) (c1 : Nat) (a2 : Option Addr) (c2 : Nat) (a3 : Option Addr) (c3 : Nat) (ps : List ((Nat × Nat) × List Int)) (gp : Nat → Nat → Prop) (ms : List (MV × M4)) (gm : Nat → Nat → Prop) (ts : List (tx.TV × tx.T7)) (gt : Nat → Nat → Prop), e = .returned (.agg #[.int .i64 k.config, .int .i64 k.clock, .slice a1 k.places.length c1, .slice a2 k.machines.length c2, .slice a3 k.txs.length c3, .bool k.lost]) ∧ CL3 (w.heap.size + 3) (w.heap.size + 2) w' (.slice a1 k.places.length c1) (.slice a2 k.machines.length c2) (.slice a3 k.txs.length c3) ps gp ms gm ts gt ∧ ps.map (·.2) = k.places ∧ ms.map (·.2) = k.machines ∧ ts.map (·.2) = k.txs ∧ Below w.heap.size w w'
theorem MR.ow {base p : Nat} {X : World} {u : MV} {m : M4} {gk gr : Nat → Nat} (h : MR base p X (.slice u.ac m.copies.length u.cc) (.slice u.al m.log.length u.cl) (.slice u.ad m.cleared.length u.cd) m.copies m.log m.cleared gk gr) : ∃ P, KMk.Ow X base u m P := by
  refine ⟨_, KM.of (h.om (v := u)) (fun q hq => ?_)⟩
  rcases hq with hq | hq | hq
  · exact (h.gK.blocks hq).2
  · exact (h.gR.blocks hq).2
  · exact (World.ownsRow.lt h.gD q hq).2
theorem ON.kp {w : World} {B q cp : Nat} {zs : List Int} (h : ON w B (.slice (some ⟨q, 0, none⟩) zs.length cp) zs) : KPk.Ow w B (q, cp) zs (fun x => x = q) := by
  rcases h.form with ⟨e, _⟩ | ⟨g, cap, e, h1, h2, h3, h4, h5⟩
  · cases e
  · cases e
    exact ⟨⟨rfl, h4, h5, h3⟩, fun x hx => by subst hx; exact ⟨h1, h2⟩⟩
set_option maxRecDepth 100000 in
set_option maxHeartbeats 8000000 in
theorem specClusterOk_any (w : World) (a1 : Option Addr) (c1 : Nat) (a2 : Option Addr) (c2 : Nat) (a3 : Option Addr) (c3 : Nat) (k : C6) (hl : KCl.L k) (h : KCl.Rd w a1 c1 a2 c2 a3 c3 k) : Calls Tryz.prog 16 #[.agg #[.int .i64 k.config, .int .i64 k.clock, .slice a1 k.places.length c1, .slice a2 k.machines.length c2, .slice a3 k.txs.length c3, .bool k.lost]] w fun e w' => e = .returned (.bool (clusterB k)) ∧ Below w.heap.size w w' := by
  obtain ⟨U, hU⟩ : ∃ Y, Y = w.alloc (.cells #[.int .i64 k.config, .int .i64 k.clock, .slice a1 k.places.length c1, .slice a2 k.machines.length c2, .slice a3 k.txs.length c3, .bool k.lost] 33) := ⟨_, rfl⟩
  have b0 : Below w.heap.size w U := by rw [hU]; exact (Below.refl _ _).alloc (Nat.le_refl _) _
  have FA : Hid (Bx U w.heap.size [.int .i64 k.config, .int .i64 k.clock, .slice a1 k.places.length c1, .slice a2 k.machines.length c2, .slice a3 k.txs.length c3, .bool k.lost]) := by rw [hU]; exact Bx.made w [.int .i64 k.config, .int .i64 k.clock, .slice a1 k.places.length c1, .slice a2 k.machines.length c2, .slice a3 k.txs.length c3, .bool k.lost] _
  have HR : Hid (KCl.Rd U a1 c1 a2 c2 a3 c3 k ∧ KCl.L k) := ⟨h.later b0, hl⟩
  have BW : Hid (Below w.heap.size w U) := b0
  have lm := hl.m
  have lt := hl.t
  have lp := hl.p
  unfold maxLen at lm lt lp
  have p0 := FA.out.1 0 _ rfl
  have p1 := FA.out.1 1 _ rfl
  have p2 := FA.out.1 2 _ rfl
  have p3 := FA.out.1 3 _ rfl
  have p4 := FA.out.1 4 _ rfl
  clear b0 hl h
  by_cases g0 : inB 1 1000000 k.config = true
  case neg =>
    have d0 : inB 1 1000000 k.config = false := by simpa using g0
    have hb : clusterB k = false := by simp [clusterB, d0]
    rw [hb]
    rw [hU] at BW p0 p1 p2 p3 p4
    clear FA HR hU
    go_enter Tryz.func16, Tryz.ntmps16
    go_wp2_with (first | (go_at_call 43; refine (tx.specId_e _ _).mono ?_; rintro e w' ⟨rfl, rfl⟩) | (go_at_call 44; refine (specIn _ _ _ _).mono ?_; rintro e w' ⟨rfl, rfl⟩))
    go_ret
    exact ⟨rfl, BW.out⟩
  by_cases g1 : inB 0 1000000 k.clock = true
  case neg =>
    have d1 : inB 0 1000000 k.clock = false := by simpa using g1
    have hb : clusterB k = false := by simp [clusterB, d1]
    rw [hb]
    rw [hU] at BW p0 p1 p2 p3 p4
    clear FA HR hU
    go_enter Tryz.func16, Tryz.ntmps16
    go_wp2_with (first | (go_at_call 43; refine (tx.specId_e _ _).mono ?_; rintro e w' ⟨rfl, rfl⟩) | (go_at_call 44; refine (specIn _ _ _ _).mono ?_; rintro e w' ⟨rfl, rfl⟩))
    go_ret
    exact ⟨rfl, BW.out⟩
  by_cases g2 : 1 ≤ k.machines.length
  case neg =>
    have d2 : decide ((k.machines.length : Int) < 1) = true := by simp; omega
    have hb : clusterB k = false := by simp [clusterB, g2]
    rw [hb]
    rw [hU] at BW p0 p1 p2 p3 p4
    clear FA HR hU
    go_enter Tryz.func16, Tryz.ntmps16
    go_wp2_with (first | (go_at_call 43; refine (tx.specId_e _ _).mono ?_; rintro e w' ⟨rfl, rfl⟩) | (go_at_call 44; refine (specIn _ _ _ _).mono ?_; rintro e w' ⟨rfl, rfl⟩))
    go_ret
    exact ⟨rfl, BW.out⟩
  have d2 : decide ((k.machines.length : Int) < 1) = false := by simp; omega
  by_cases g3 : k.machines.length ≤ 8
  case neg =>
    have d3 : decide ((8 : Int) < (k.machines.length : Int)) = true := by simp; omega
    have hb : clusterB k = false := by simp [clusterB, g3]
    rw [hb]
    rw [hU] at BW p0 p1 p2 p3 p4
    clear FA HR hU
    go_enter Tryz.func16, Tryz.ntmps16
    go_wp2_with (first | (go_at_call 43; refine (tx.specId_e _ _).mono ?_; rintro e w' ⟨rfl, rfl⟩) | (go_at_call 44; refine (specIn _ _ _ _).mono ?_; rintro e w' ⟨rfl, rfl⟩))
    go_ret
    exact ⟨rfl, BW.out⟩
  have d3 : decide ((8 : Int) < (k.machines.length : Int)) = false := by simp; omega
  have BF : Hid (∀ V, Below U.heap.size U V → Below w.heap.size w V) := fun V hV => bstep BW.out hV
  have hc := specPlacesOk_any U a1 k.places.length c1 k.places HR.out.2.p HR.out.1.p
  rw [hU] at p0 p1 p2 p3 p4
  clear BW
  go_enter Tryz.func16, Tryz.ntmps16
  go_wp2_with (first | (go_at_call 43; refine (tx.specId_e _ _).mono ?_; rintro e w' ⟨rfl, rfl⟩) | (go_at_call 44; refine (specIn _ _ _ _).mono ?_; rintro e w' ⟨rfl, rfl⟩))
  rw [← hU]
  clear hU p0 p1 p2 p3 p4
  refine hc.mono ?_
  clear hc
  rintro e w1 ⟨rfl, b1⟩
  have B1 := tx.hidOf b1
  clear b1
  have p4 := (FA.out.later B1.out).1 4 _ rfl
  cases hP : placesB k.places with
  | false =>
    have hb : Hid (clusterB k = false) := by unfold Hid; simp [clusterB, hP]
    go_wp2
    go_ret
    exact ⟨by rw [hb.out]; rfl, BF.out _ B1.out⟩
  | true =>
  by_cases g5 : k.txs.length ≤ 60
  case neg =>
    have d5 : decide ((60 : Int) < (k.txs.length : Int)) = true := by simp; omega
    have hb : Hid (clusterB k = false) := by unfold Hid; simp [clusterB, g5]
    go_wp2
    go_ret
    exact ⟨by rw [hb.out]; rfl, BF.out _ B1.out⟩
  have d5 : decide ((60 : Int) < (k.txs.length : Int)) = false := by simp; omega
  have HC : Hid (clusterB k = (machsB k.machines && placedB k.places k.machines && txsB k)) := by unfold Hid; simp [clusterB, g0, g1, g2, g3, hP, g5]
  have HZ : Hid (∀ r j, r < k.places.length → j < (atP k.places r).length → 0 ≤ atN (atP k.places r) j ∧ atN (atP k.places r) j ≤ 7) := fun r j hr hj => places_z hP hr hj
  clear g0 g1 hP
  go_wp2
  clear p4 d2 d3 d5
  go_loopw [4] (fun v4 wr => ∃ i : Nat, i ≤ k.machines.length ∧ v4 = .int .i64 i ∧ Below U.heap.size U wr ∧ (List.range i).all (fun i => machB (atM k.machines i)) = true) (fun v4 _ => k.machines.length - (intOf v4).toNat)
  case atStart => exact ⟨0, Nat.zero_le _, rfl, B1.out, rfl⟩
  case round =>
  obtain ⟨i, hi, rfl, hbl, hall⟩ := hrel
  have KB : Hid (Below U.heap.size U wr ∧ (List.range i).all (fun i => machB (atM k.machines i)) = true) := ⟨hbl, hall⟩
  clear hbl hall
  by_cases hlt : i < k.machines.length
  case pos =>
    have hd := atM_of hlt
    rcases HR.out.1.m with hs | ⟨b, off, rfl, hb, h1⟩
    · rw [hs] at hlt; simp at hlt
    obtain ⟨⟨m0, m1, m2, m3, m4, m5⟩, hat, hrd⟩ := h1 i _ hd
    have e0 : wr.cell? ⟨b, off + i * 4, none⟩ = some (.bool (atM k.machines i).alive) := (KB.out.1.cell (p := ⟨b, off + i * 4, none⟩) hb).trans (hat 0 _ rfl)
    have e1 : wr.cell? ⟨b, off + i * 4 + 1, none⟩ = some (.slice m0 (atM k.machines i).copies.length m1) := (KB.out.1.cell (p := ⟨b, off + i * 4 + 1, none⟩) hb).trans (hat 1 _ rfl)
    have e2 : wr.cell? ⟨b, off + i * 4 + 2, none⟩ = some (.slice m2 (atM k.machines i).log.length m3) := (KB.out.1.cell (p := ⟨b, off + i * 4 + 2, none⟩) hb).trans (hat 2 _ rfl)
    have e3 : wr.cell? ⟨b, off + i * 4 + 3, none⟩ = some (.slice m4 (atM k.machines i).cleared.length m5) := (KB.out.1.cell (p := ⟨b, off + i * 4 + 3, none⟩) hb).trans (hat 3 _ rfl)
    have hML := HR.out.2.ms _ (List.mem_of_getElem? hd)
    have hc := specMachineOk_any wr ⟨m0, m1, m2, m3, m4, m5⟩ (atM k.machines i) hML.k hML.r hML.n hML.ks hML.rs (KMk.later hrd KB.out.1)
    simp only [MV.val] at hc
    have p3 := (FA.out.later KB.out.1).1 3 _ rfl
    have jn : (i : Int) < (k.machines.length : Int) := by omega
    clear hat hrd h1 hd hML hb
    go_wp2_with fail
    refine hc.mono ?_
    clear hc e0 e1 e2 e3 p3
    rintro e w2 ⟨rfl, b2⟩
    have K2 : Hid (Below U.heap.size U w2) := bstep KB.out.1 b2
    clear b2
    cases hB : machB (atM k.machines i) with
    | false =>
      have hb : Hid (clusterB k = false) := by unfold Hid; rw [HC.out]; simp [machsB, all_off (f := fun i => machB (atM k.machines i)) hlt hB]
      go_wp2
      go_ret
      exact ⟨by rw [hb.out]; rfl, BF.out _ K2.out⟩
    | true =>
      go_wp2
      exact ⟨⟨i + 1, by omega, by simp, K2.out, all_on KB.out.2 hB⟩, by simp [intOf]; omega⟩
  obtain rfl : i = k.machines.length := by omega
  have hdl : decide ((k.machines.length : Int) < (k.machines.length : Int)) = false := by simp
  have HC2 : Hid (clusterB k = (placedB k.places k.machines && txsB k)) := by unfold Hid; rw [HC.out, machsB, KB.out.2]; simp
  go_wp2
  generalize wr = wA at *
  clear hdl
  go_loopw [5] (fun v5 wr => ∃ r : Nat, r ≤ k.places.length ∧ v5 = .int .i64 r ∧ Below U.heap.size U wr ∧ (List.range r).all (fun r => placB k.machines r (atP k.places r)) = true) (fun v5 _ => k.places.length - (intOf v5).toNat)
  case atStart => exact ⟨0, Nat.zero_le _, rfl, KB.out.1, rfl⟩
  case round =>
  obtain ⟨r, hr, rfl, hbl, hall⟩ := hrel
  have KC : Hid (Below U.heap.size U wr ∧ (List.range r).all (fun r => placB k.machines r (atP k.places r)) = true) := ⟨hbl, hall⟩
  clear hbl hall
  have p2 := (FA.out.later KC.out.1).1 2 _ rfl
  by_cases hlr : r < k.places.length
  case pos =>
    obtain ⟨_, hsp⟩ := HR.out.1.p
    rcases hsp with hsp | ⟨b, off, rfl, hb, hpl⟩
    · omega
    obtain ⟨a', cap', hc, hsl, hcp⟩ := hpl r _ (atP_of hlr)
    have c := (KC.out.1.cell (p := ⟨b, off + r, none⟩) hb).trans hc
    have HSL : Hid (SlN U U.heap.size a' (atP k.places r).length (atP k.places r)) := hsl
    have jr : (r : Int) < (k.places.length : Int) := by omega
    have lz := HR.out.2.ps _ (List.mem_of_getElem? (atP_of hlr))
    unfold maxLen at lz
    have HF : Hid (placB k.machines r (atP k.places r) = false → clusterB k = false) := fun hh => by rw [HC2.out, placedB, all_off (f := fun r => placB k.machines r (atP k.places r)) hlr hh]; rfl
    have HZr : Hid (∀ j, j < (atP k.places r).length → 0 ≤ atN (atP k.places r) j ∧ atN (atP k.places r) j ≤ 7) := fun j hj => HZ.out r j hlr hj
    have HPL : Hid (placB k.machines r (atP k.places r) = (List.range (atP k.places r).length).all fun j => servB k.machines r (atN (atP k.places r) j)) := rfl
    have HON : Hid (placB k.machines r (atP k.places r) = true → (List.range (r + 1)).all (fun r => placB k.machines r (atP k.places r)) = true) := fun hh => all_on (f := fun r => placB k.machines r (atP k.places r)) KC.out.2 hh
    clear hpl hc hsl
    generalize hzs : atP k.places r = zs at *
    go_wp2
    clear c p2 jr hzs
    generalize wr = wC at *
    go_loopw [7] (fun v7 wr => ∃ j : Nat, j ≤ zs.length ∧ v7 = .int .i64 j ∧ Below U.heap.size U wr ∧ (List.range j).all (fun j => servB k.machines r (atN zs j)) = true) (fun v7 _ => zs.length - (intOf v7).toNat)
    case atStart => exact ⟨0, Nat.zero_le _, rfl, KC.out.1, rfl⟩
    case round =>
    obtain ⟨j, hj, rfl, hbl, hall⟩ := hrel
    have KD : Hid (Below U.heap.size U wr ∧ (List.range j).all (fun j => servB k.machines r (atN zs j)) = true) := ⟨hbl, hall⟩
    clear hbl hall
    by_cases hlj : j < zs.length
    case neg =>
      obtain rfl : j = zs.length := by omega
      have hdl : decide ((zs.length : Int) < (zs.length : Int)) = false := by simp
      have hh := HON.out (by rw [HPL.out]; exact KD.out.2)
      go_wp2
      exact ⟨⟨r + 1, by omega, by simp, KD.out.1, hh⟩, by simp [intOf]; omega⟩
    obtain ⟨_, hsn⟩ := HSL.out
    rcases hsn with hsn | ⟨b', off', rfl, hb', h2⟩
    · omega
    have hz := HZr.out j hlj
    obtain ⟨i, hi⟩ : ∃ i : Nat, atN zs j = (i : Int) := ⟨(atN zs j).toNat, by omega⟩
    have hck := h2 j _ (atN_of hlj)
    rw [hi] at hck
    have xz : ∀ dd os, (grow (redrawn wr dd) os).cell? ⟨b', off' + j, none⟩ = some (.int .i64 (i : Int)) := fun dd os => ((bstep KD.out.1 (below_regrown wr dd os)).cell (p := ⟨b', off' + j, none⟩) hb').trans (hck)
    have jz : (j : Int) < (zs.length : Int) := by omega
    have jc : j < cap' := by omega
    have HB : Hid (servB k.machines r (atN zs j) = (decide ((i : Int) < (k.machines.length : Int)) && (!(atM k.machines i).alive || hasC (atM k.machines i) (r : Int)))) := by unfold Hid servB; rw [hi]; rfl
    have HFF : Hid (servB k.machines r (atN zs j) = false → clusterB k = false) := fun hh => HF.out (by rw [HPL.out]; exact all_off (f := fun j => servB k.machines r (atN zs j)) hlj hh)
    clear hck h2 hz hi
    by_cases him : i < k.machines.length
    case neg =>
      have dz : decide ((k.machines.length : Int) ≤ (i : Int)) = true := by simp <;> omega
      have dz2 : decide (k.machines.length ≤ i) = true := by simp <;> omega
      have hb0 : Hid (clusterB k = false) := HFF.out (by rw [HB.out]; simp [him])
      go_wp2_with fail
      refine wp_region_quiet_below (by kernel_rfl) (by kernel_rfl) ?_
      repeat (go_big_quiet_step (fail))
      refine wpQuiet_nil ?_
      intro _ hw'
      obtain ⟨⟨dq, osq⟩, hw''⟩ := hw'
      subst hw''
      have bq := below_regrown wr dq osq
      go_wp2
      go_ret
      exact ⟨by rw [hb0.out]; rfl, BF.out _ (bstep KD.out.1 bq)⟩
    have dz : decide ((k.machines.length : Int) ≤ (i : Int)) = false := by simp <;> omega
    have dz2 : decide (k.machines.length ≤ i) = false := by simp <;> omega
    have hd := atM_of him
    rcases HR.out.1.m with hs | ⟨b2, off2, rfl, hb2, h1⟩
    · rw [hs] at him; simp at him
    obtain ⟨⟨m0, m1, m2, m3, m4, m5⟩, hat, hrd⟩ := h1 i _ hd
    have hbx := FA.out.1 3 _ rfl
    have x3 : ∀ dd os, (grow (redrawn wr dd) os).cell? ⟨w.heap.size, 3, none⟩ = some (.slice (some ⟨b2, off2, none⟩) k.machines.length c2) := fun dd os => ((bstep KD.out.1 (below_regrown wr dd os)).cell (p := ⟨w.heap.size, 3, none⟩) FA.out.2.2).trans (hbx)
    clear hbx
    have e0 : ∀ dd os, (grow (redrawn wr dd) os).cell? ⟨b2, off2 + i * 4, none⟩ = some (.bool (atM k.machines i).alive) := fun dd os => ((bstep KD.out.1 (below_regrown wr dd os)).cell (p := ⟨b2, off2 + i * 4, none⟩) hb2).trans (hat 0 _ rfl)
    have e1 : ∀ dd os, (grow (redrawn wr dd) os).cell? ⟨b2, off2 + i * 4 + 1, none⟩ = some (.slice m0 (atM k.machines i).copies.length m1) := fun dd os => ((bstep KD.out.1 (below_regrown wr dd os)).cell (p := ⟨b2, off2 + i * 4 + 1, none⟩) hb2).trans (hat 1 _ rfl)
    have e2 : ∀ dd os, (grow (redrawn wr dd) os).cell? ⟨b2, off2 + i * 4 + 2, none⟩ = some (.slice m2 (atM k.machines i).log.length m3) := fun dd os => ((bstep KD.out.1 (below_regrown wr dd os)).cell (p := ⟨b2, off2 + i * 4 + 2, none⟩) hb2).trans (hat 2 _ rfl)
    have e3 : ∀ dd os, (grow (redrawn wr dd) os).cell? ⟨b2, off2 + i * 4 + 3, none⟩ = some (.slice m4 (atM k.machines i).cleared.length m5) := fun dd os => ((bstep KD.out.1 (below_regrown wr dd os)).cell (p := ⟨b2, off2 + i * 4 + 3, none⟩) hb2).trans (hat 3 _ rfl)
    have hML := HR.out.2.ms _ (List.mem_of_getElem? hd)
    have cQ : ∀ dd os, Calls Tryz.prog 33 #[.agg #[.bool (atM k.machines i).alive, .slice m0 (atM k.machines i).copies.length m1, .slice m2 (atM k.machines i).log.length m3, .slice m4 (atM k.machines i).cleared.length m5], .int .i64 (r : Int)] (grow (redrawn wr dd) os) fun e w'' => e = .returned (.int .i64 (idxC (atM k.machines i) (r : Int))) ∧ ∃ p : Regrown, w'' = grow (redrawn wr p.d) p.os := fun dd os => Calls.regrown_of (l6At_v _ m0 m1 m2 m3 m4 m5 (atM k.machines i) r hML (KMk.later hrd (bstep KD.out.1 (below_regrown wr dd os))))
    have im : (i : Int) < (k.machines.length : Int) := by omega
    have dC := idxC_lt (atM k.machines i) (r : Int)
    clear hat hrd h1 hd hML
    cases ha : (atM k.machines i).alive with
    | false =>
      rw [ha] at e0
      have hon : Hid ((List.range (j + 1)).all (fun j => servB k.machines r (atN zs j)) = true) := all_on (f := fun j => servB k.machines r (atN zs j)) KD.out.2 (by rw [HB.out]; simp [him, ha])
      clear cQ dC e1 e2 e3
      go_wp2_with fail
      refine wp_region_quiet_below (by kernel_rfl) (by kernel_rfl) ?_
      repeat (go_big_quiet_step (fail))
      refine wpQuiet_nil ?_
      intro _ hw'
      obtain ⟨⟨dq, osq⟩, hw''⟩ := hw'
      subst hw''
      have bq := below_regrown wr dq osq
      go_wp2
      exact ⟨⟨j + 1, by omega, by simp, bstep KD.out.1 bq, hon.out⟩, by simp [intOf]; omega⟩
    | true =>
      rw [ha] at e0 cQ
      generalize idxC (atM k.machines i) (r : Int) = ic at *
      cases hh : hasC (atM k.machines i) (r : Int) with
      | false =>
        rw [hh] at dC
        have hb0 : Hid (clusterB k = false) := HFF.out (by rw [HB.out]; simp [him, ha, hh])
        go_wp2_with fail
        refine wp_region_quiet_below (by kernel_rfl) (by kernel_rfl) ?_
        repeat (go_big_quiet_step (exact cQ _ _))
        refine wpQuiet_nil ?_
        intro _ hw'
        obtain ⟨⟨dq, osq⟩, hw''⟩ := hw'
        subst hw''
        have bq := below_regrown wr dq osq
        go_wp2
        go_ret
        exact ⟨by rw [hb0.out]; rfl, BF.out _ (bstep KD.out.1 bq)⟩
      | true =>
        rw [hh] at dC
        have hon : Hid ((List.range (j + 1)).all (fun j => servB k.machines r (atN zs j)) = true) := all_on (f := fun j => servB k.machines r (atN zs j)) KD.out.2 (by rw [HB.out]; simp [him, ha, hh])
        go_wp2_with fail
        refine wp_region_quiet_below (by kernel_rfl) (by kernel_rfl) ?_
        repeat (go_big_quiet_step (exact cQ _ _))
        refine wpQuiet_nil ?_
        intro _ hw'
        obtain ⟨⟨dq, osq⟩, hw''⟩ := hw'
        subst hw''
        have bq := below_regrown wr dq osq
        go_wp2
        exact ⟨⟨j + 1, by omega, by simp, bstep KD.out.1 bq, hon.out⟩, by simp [intOf]; omega⟩
  obtain rfl : r = k.places.length := by omega
  have hdl : decide ((k.places.length : Int) < (k.places.length : Int)) = false := by simp
  have HC3 : Hid (clusterB k = txsB k) := by unfold Hid; rw [HC2.out, placedB, KC.out.2]; simp
  go_wp2
  generalize wr = wB at *
  clear hdl p2
  go_loopw [8] (fun v8 wr => ∃ i : Nat, i ≤ k.txs.length ∧ v8 = .int .i64 i ∧ Below U.heap.size U wr ∧ (List.range i).all (txAtB k) = true) (fun v8 _ => k.txs.length - (intOf v8).toNat)
  case atStart => exact ⟨0, Nat.zero_le _, rfl, KC.out.1, rfl⟩
  case round =>
  obtain ⟨i, hi, rfl, hbl, hall⟩ := hrel
  have KE : Hid (Below U.heap.size U wr ∧ (List.range i).all (txAtB k) = true) := ⟨hbl, hall⟩
  clear hbl hall
  have p4 := (FA.out.later KE.out.1).1 4 _ rfl
  by_cases hlt : i < k.txs.length
  case neg =>
    obtain rfl : i = k.txs.length := by omega
    have hdl : decide ((k.txs.length : Int) < (k.txs.length : Int)) = false := by simp
    have hb0 : Hid (clusterB k = true) := by unfold Hid; rw [HC3.out]; exact KE.out.2
    go_wp2
    go_ret
    exact ⟨by rw [hb0.out]; rfl, BF.out _ KE.out.1⟩
  have hd := atT_of hlt
  have HM : Hid (i = 0 ∨ ∃ j, i = j + 1 ∧ k.txs[j]? = some (atT k.txs j)) := by
    rcases i with _ | j
    · exact .inl rfl
    · exact .inr ⟨j, rfl, atT_of (by omega)⟩
  rcases HR.out.1.t with hs | ⟨b, off, rfl, hb, h1⟩
  · rw [hs] at hlt; simp at hlt
  have HX : Hid (txAtB k i = (tx.txB (atT k.txs i) && (decide (i = 0) || decide ((atT k.txs (i - 1)).id < (atT k.txs i).id)) && decide ((atT k.txs i).home < (k.machines.length : Int)) && decide ((atT k.txs i).stamp ≤ k.clock) && readsB k.places.length (atT k.txs i).reads && setsB k.places.length (atT k.txs i).sets)) := rfl
  have HFF : Hid (txAtB k i = false → clusterB k = false) := fun hh => by rw [HC3.out, txsB]; exact all_off (f := txAtB k) hlt hh
  have HON : Hid (txAtB k i = true → (List.range (i + 1)).all (txAtB k) = true) := fun hh => all_on (f := txAtB k) KE.out.2 hh
  obtain ⟨⟨t0, t1, t2, t3⟩, hat, hrd⟩ := h1 i _ hd
  have hTL := HR.out.2.ts _ (List.mem_of_getElem? hd)
  have HP : Hid (∀ j, i = j + 1 → U.cell? ⟨b, off + j * 7, none⟩ = some (.int .i64 (atT k.txs j).id)) := fun j e => by
    obtain ⟨v, hat', _⟩ := h1 j _ (atT_of (by omega))
    exact hat' 0 _ rfl
  generalize ht : atT k.txs i = t at *
  have e0 : wr.cell? ⟨b, off + i * 7, none⟩ = some (.int .i64 t.id) := (KE.out.1.cell (p := ⟨b, off + i * 7, none⟩) hb).trans (hat 0 _ rfl)
  have e1 : wr.cell? ⟨b, off + i * 7 + 1, none⟩ = some (.int .i64 t.home) := (KE.out.1.cell (p := ⟨b, off + i * 7 + 1, none⟩) hb).trans (hat 1 _ rfl)
  have e2 : wr.cell? ⟨b, off + i * 7 + 2, none⟩ = some (.int .i64 t.phase) := (KE.out.1.cell (p := ⟨b, off + i * 7 + 2, none⟩) hb).trans (hat 2 _ rfl)
  have e3 : wr.cell? ⟨b, off + i * 7 + 3, none⟩ = some (.int .i64 t.count) := (KE.out.1.cell (p := ⟨b, off + i * 7 + 3, none⟩) hb).trans (hat 3 _ rfl)
  have e4 : wr.cell? ⟨b, off + i * 7 + 4, none⟩ = some (.slice t0 t.reads.length t1) := (KE.out.1.cell (p := ⟨b, off + i * 7 + 4, none⟩) hb).trans (hat 4 _ rfl)
  have e5 : wr.cell? ⟨b, off + i * 7 + 5, none⟩ = some (.slice t2 t.sets.length t3) := (KE.out.1.cell (p := ⟨b, off + i * 7 + 5, none⟩) hb).trans (hat 5 _ rfl)
  have e6 : wr.cell? ⟨b, off + i * 7 + 6, none⟩ = some (.int .i64 t.stamp) := (KE.out.1.cell (p := ⟨b, off + i * 7 + 6, none⟩) hb).trans (hat 6 _ rfl)
  obtain ⟨V, hV⟩ : ∃ Y, Y = wr.alloc (.cells #[.int .i64 t.id, .int .i64 t.home, .int .i64 t.phase, .int .i64 t.count, .slice t0 t.reads.length t1, .slice t2 t.sets.length t3, .int .i64 t.stamp] 47) := ⟨_, rfl⟩
  have bV : Below wr.heap.size wr V := by rw [hV]; exact (Below.refl _ _).alloc (Nat.le_refl _) _
  have FT : Hid (Bx V wr.heap.size [.int .i64 t.id, .int .i64 t.home, .int .i64 t.phase, .int .i64 t.count, .slice t0 t.reads.length t1, .slice t2 t.sets.length t3, .int .i64 t.stamp]) := by rw [hV]; exact Bx.made wr [.int .i64 t.id, .int .i64 t.home, .int .i64 t.phase, .int .i64 t.count, .slice t0 t.reads.length t1, .slice t2 t.sets.length t3, .int .i64 t.stamp] _
  have KV : Hid (Below U.heap.size U V) := bstep KE.out.1 bV
  have HRT : Hid (tx.SlT U ⟨t0, t1, t2, t3⟩ t ∧ tx.TL t) := ⟨hrd, hTL⟩
  have ji : (i : Int) < (k.txs.length : Int) := by omega
  clear hat hrd h1 hd hTL bV
  go_upto_region 22 with fail
  rw [← hV]
  clear hV p4 e0 e1 e2 e3 e4 e5 e6 ji
  generalize wr.heap.size = s9 at *
  generalize wr = wD at *
  generalize V = wr at *
  have f0 : ∀ dd os, (grow (redrawn wr dd) os).cell? ⟨s9, 0, none⟩ = some (.int .i64 t.id) := fun dd os => (FT.out.later (below_regrown wr dd os)).1 0 _ rfl
  have f1 : ∀ dd os, (grow (redrawn wr dd) os).cell? ⟨s9, 1, none⟩ = some (.int .i64 t.home) := fun dd os => (FT.out.later (below_regrown wr dd os)).1 1 _ rfl
  have f2 : ∀ dd os, (grow (redrawn wr dd) os).cell? ⟨s9, 2, none⟩ = some (.int .i64 t.phase) := fun dd os => (FT.out.later (below_regrown wr dd os)).1 2 _ rfl
  have f3 : ∀ dd os, (grow (redrawn wr dd) os).cell? ⟨s9, 3, none⟩ = some (.int .i64 t.count) := fun dd os => (FT.out.later (below_regrown wr dd os)).1 3 _ rfl
  have f4 : ∀ dd os, (grow (redrawn wr dd) os).cell? ⟨s9, 4, none⟩ = some (.slice t0 t.reads.length t1) := fun dd os => (FT.out.later (below_regrown wr dd os)).1 4 _ rfl
  have f5 : ∀ dd os, (grow (redrawn wr dd) os).cell? ⟨s9, 5, none⟩ = some (.slice t2 t.sets.length t3) := fun dd os => (FT.out.later (below_regrown wr dd os)).1 5 _ rfl
  have f6 : ∀ dd os, (grow (redrawn wr dd) os).cell? ⟨s9, 6, none⟩ = some (.int .i64 t.stamp) := fun dd os => (FT.out.later (below_regrown wr dd os)).1 6 _ rfl
  have cT : ∀ dd os, Calls Tryz.prog 47 #[.agg #[.int .i64 t.id, .int .i64 t.home, .int .i64 t.phase, .int .i64 t.count, .slice t0 t.reads.length t1, .slice t2 t.sets.length t3, .int .i64 t.stamp]] (grow (redrawn wr dd) os) fun e w'' => e = .returned (.bool (tx.txB t)) ∧ ∃ p : Regrown, w'' = grow (redrawn wr p.d) p.os := fun dd os => by
    have hh := tx.specTxOk_any (grow (redrawn wr dd) os) ⟨t0, t1, t2, t3⟩ t HRT.out.2 (HRT.out.1.later (bstep KV.out (below_regrown wr dd os)))
    simp only [tx.TV.val] at hh
    exact Calls.regrown_of hh
  have hbx := FA.out.1 4 _ rfl
  have x4 : ∀ dd os, (grow (redrawn wr dd) os).cell? ⟨w.heap.size, 4, none⟩ = some (.slice (some ⟨b, off, none⟩) k.txs.length c3) := fun dd os => ((bstep KV.out (below_regrown wr dd os)).cell (p := ⟨w.heap.size, 4, none⟩) FA.out.2.2).trans (hbx)
  have hbx := FA.out.1 1 _ rfl
  have x1 : ∀ dd os, (grow (redrawn wr dd) os).cell? ⟨w.heap.size, 1, none⟩ = some (.int .i64 k.clock) := fun dd os => ((bstep KV.out (below_regrown wr dd os)).cell (p := ⟨w.heap.size, 1, none⟩) FA.out.2.2).trans (hbx)
  clear hbx
  have KD : Hid (Below U.heap.size U wr ∧ True) := ⟨KV.out, trivial⟩
  cases hB : tx.txB t with
  | false =>
    rw [hB] at cT
    have hb0 : Hid (clusterB k = false) := HFF.out (by rw [HX.out, hB]; rfl)
    go_wp2_with fail
    refine wp_region_quiet_below (by kernel_rfl) (by kernel_rfl) ?_
    repeat (go_big_quiet_step (exact cT _ _))
    refine wpQuiet_nil ?_
    intro _ hw'
    obtain ⟨⟨dq, osq⟩, hw''⟩ := hw'
    subst hw''
    have bq := below_regrown wr dq osq
    go_wp2
    go_ret
    exact ⟨by rw [hb0.out]; rfl, BF.out _ (bstep KD.out.1 bq)⟩
  | true =>
  rw [hB] at cT
  by_cases gi : i = 0 ∨ (atT k.txs (i - 1)).id < t.id
  case neg =>
    obtain ⟨j, rfl, -⟩ := HM.out.resolve_left (fun e => gi (.inl e))
    have hle : ¬ (atT k.txs j).id < t.id := fun e => gi (.inr e)
    have hid := HP.out j rfl
    have xj : ∀ dd os, (grow (redrawn wr dd) os).cell? ⟨b, off + j * 7, none⟩ = some (.int .i64 (atT k.txs j).id) := fun dd os => ((bstep KV.out (below_regrown wr dd os)).cell (p := ⟨b, off + j * 7, none⟩) hb).trans (hid)
    have d0 : decide ((0 : Int) < ((j + 1 : Nat) : Int)) = true := by simp <;> omega
    have ej : ((j + 1 : Nat) : Int) - 1 = (j : Int) := by omega
    have d1 : decide (t.id ≤ (atT k.txs j).id) = true := by simp <;> omega
    have jn : (j : Int) < (k.txs.length : Int) := by omega
    have hb0 : Hid (clusterB k = false) := HFF.out (by rw [HX.out]; simp [hle])
    clear hid gi hle
    go_wp2_with fail
    refine wp_region_quiet_below (by kernel_rfl) (by kernel_rfl) ?_
    repeat (go_big_quiet_step (exact cT _ _))
    refine wpQuiet_nil ?_
    intro _ hw'
    obtain ⟨⟨dq, osq⟩, hw''⟩ := hw'
    subst hw''
    have bq := below_regrown wr dq osq
    go_wp2
    go_ret
    exact ⟨by rw [hb0.out]; rfl, BF.out _ (bstep KD.out.1 bq)⟩
  by_cases gh : t.home < (k.machines.length : Int)
  case neg =>
    have dh : decide ((k.machines.length : Int) ≤ t.home) = true := by simp <;> omega
    have hb0 : Hid (clusterB k = false) := HFF.out (by rw [HX.out]; simp [gh])
    rcases HM.out with rfl | ⟨j, rfl, -⟩
    · have d0 : decide ((0 : Int) < ((0 : Nat) : Int)) = false := by simp
      go_wp2_with fail
      refine wp_region_quiet_below (by kernel_rfl) (by kernel_rfl) ?_
      repeat (go_big_quiet_step (exact cT _ _))
      refine wpQuiet_nil ?_
      intro _ hw'
      obtain ⟨⟨dq, osq⟩, hw''⟩ := hw'
      subst hw''
      have bq := below_regrown wr dq osq
      go_wp2
      go_ret
      exact ⟨by rw [hb0.out]; rfl, BF.out _ (bstep KD.out.1 bq)⟩
    · have hlt' : (atT k.txs j).id < t.id := by rcases gi with e | e; omega; exact e
      have hid := HP.out j rfl
      have xj : ∀ dd os, (grow (redrawn wr dd) os).cell? ⟨b, off + j * 7, none⟩ = some (.int .i64 (atT k.txs j).id) := fun dd os => ((bstep KV.out (below_regrown wr dd os)).cell (p := ⟨b, off + j * 7, none⟩) hb).trans (hid)
      have d0 : decide ((0 : Int) < ((j + 1 : Nat) : Int)) = true := by simp <;> omega
      have ej : ((j + 1 : Nat) : Int) - 1 = (j : Int) := by omega
      have d1 : decide (t.id ≤ (atT k.txs j).id) = false := by simp <;> omega
      have jn : (j : Int) < (k.txs.length : Int) := by omega
      clear hid hlt'
      go_wp2_with fail
      refine wp_region_quiet_below (by kernel_rfl) (by kernel_rfl) ?_
      repeat (go_big_quiet_step (exact cT _ _))
      refine wpQuiet_nil ?_
      intro _ hw'
      obtain ⟨⟨dq, osq⟩, hw''⟩ := hw'
      subst hw''
      have bq := below_regrown wr dq osq
      go_wp2
      go_ret
      exact ⟨by rw [hb0.out]; rfl, BF.out _ (bstep KD.out.1 bq)⟩
  have dh : decide ((k.machines.length : Int) ≤ t.home) = false := by simp <;> omega
  by_cases gs : t.stamp ≤ k.clock
  case neg =>
    have ds : decide (k.clock < t.stamp) = true := by simp <;> omega
    have hb0 : Hid (clusterB k = false) := HFF.out (by rw [HX.out]; simp [gs])
    rcases HM.out with rfl | ⟨j, rfl, -⟩
    · have d0 : decide ((0 : Int) < ((0 : Nat) : Int)) = false := by simp
      go_wp2_with fail
      refine wp_region_quiet_below (by kernel_rfl) (by kernel_rfl) ?_
      repeat (go_big_quiet_step (exact cT _ _))
      refine wpQuiet_nil ?_
      intro _ hw'
      obtain ⟨⟨dq, osq⟩, hw''⟩ := hw'
      subst hw''
      have bq := below_regrown wr dq osq
      go_wp2
      go_ret
      exact ⟨by rw [hb0.out]; rfl, BF.out _ (bstep KD.out.1 bq)⟩
    · have hlt' : (atT k.txs j).id < t.id := by rcases gi with e | e; omega; exact e
      have hid := HP.out j rfl
      have xj : ∀ dd os, (grow (redrawn wr dd) os).cell? ⟨b, off + j * 7, none⟩ = some (.int .i64 (atT k.txs j).id) := fun dd os => ((bstep KV.out (below_regrown wr dd os)).cell (p := ⟨b, off + j * 7, none⟩) hb).trans (hid)
      have d0 : decide ((0 : Int) < ((j + 1 : Nat) : Int)) = true := by simp <;> omega
      have ej : ((j + 1 : Nat) : Int) - 1 = (j : Int) := by omega
      have d1 : decide (t.id ≤ (atT k.txs j).id) = false := by simp <;> omega
      have jn : (j : Int) < (k.txs.length : Int) := by omega
      clear hid hlt'
      go_wp2_with fail
      refine wp_region_quiet_below (by kernel_rfl) (by kernel_rfl) ?_
      repeat (go_big_quiet_step (exact cT _ _))
      refine wpQuiet_nil ?_
      intro _ hw'
      obtain ⟨⟨dq, osq⟩, hw''⟩ := hw'
      subst hw''
      have bq := below_regrown wr dq osq
      go_wp2
      go_ret
      exact ⟨by rw [hb0.out]; rfl, BF.out _ (bstep KD.out.1 bq)⟩
  have ds : decide (k.clock < t.stamp) = false := by simp <;> omega
  have HY : Hid (txAtB k i = (readsB k.places.length t.reads && setsB k.places.length t.sets)) := by
    unfold Hid
    rw [HX.out]
    rcases gi with gi | gi <;> simp [hB, gi, gh, gs]
  have lr := HRT.out.2.r
  have ls := HRT.out.2.s
  unfold maxLen at lr ls
  have CUT : Hid (∀ X, Below wr.heap.size wr X → Below U.heap.size U X) := fun X hX => bstep KV.out hX
  go_cut [149] from 118 to 149 (fun s149 wx => s149 = .bool false ∧ Below wr.heap.size wr wx)
  case first =>
    rcases HM.out with rfl | ⟨j, rfl, -⟩
    · have d0 : decide ((0 : Int) < ((0 : Nat) : Int)) = false := by simp
      go_wp2_with fail
      refine wp_region_quiet_below (by kernel_rfl) (by kernel_rfl) ?_
      repeat (go_big_quiet_step (exact cT _ _))
      refine wpQuiet_nil ?_
      intro _ hw'
      obtain ⟨⟨dq, osq⟩, hw''⟩ := hw'
      subst hw''
      have bq := below_regrown wr dq osq
      go_wp2_with fail
      go_meet
      exact ⟨rfl, bq⟩
    · have hlt' : (atT k.txs j).id < t.id := by rcases gi with e | e; omega; exact e
      have hid := HP.out j rfl
      have xj : ∀ dd os, (grow (redrawn wr dd) os).cell? ⟨b, off + j * 7, none⟩ = some (.int .i64 (atT k.txs j).id) := fun dd os => ((bstep KV.out (below_regrown wr dd os)).cell (p := ⟨b, off + j * 7, none⟩) hb).trans (hid)
      have d0 : decide ((0 : Int) < ((j + 1 : Nat) : Int)) = true := by simp <;> omega
      have ej : ((j + 1 : Nat) : Int) - 1 = (j : Int) := by omega
      have d1 : decide (t.id ≤ (atT k.txs j).id) = false := by simp <;> omega
      have jn : (j : Int) < (k.txs.length : Int) := by omega
      clear hid hlt'
      go_wp2_with fail
      refine wp_region_quiet_below (by kernel_rfl) (by kernel_rfl) ?_
      repeat (go_big_quiet_step (exact cT _ _))
      refine wpQuiet_nil ?_
      intro _ hw'
      obtain ⟨⟨dq, osq⟩, hw''⟩ := hw'
      subst hw''
      have bq := below_regrown wr dq osq
      go_wp2_with fail
      go_meet
      exact ⟨rfl, bq⟩
  case rest =>
  obtain ⟨rfl, bx⟩ := hcut
  have KW : Hid (Below wr.heap.size wr wc ∧ Below U.heap.size U wc) := ⟨bx, bstep KV.out bx⟩
  clear bx f0 f1 f2 f3 f4 f5 f6 cT x4 x1 dh ds KD
  generalize wc = wE at *
  go_wp2
  generalize wr = wF at *
  go_loopw [10] (fun v wr => ∃ j : Nat, j ≤ t.reads.length ∧ v = .int .i64 j ∧ Below wF.heap.size wF wr ∧ (List.range j).all (fun j => decide ((tx.atNo t.reads j).region < (k.places.length : Int))) = true) (fun v _ => t.reads.length - (intOf v).toNat)
  case atStart => exact ⟨0, Nat.zero_le _, rfl, KW.out.1, rfl⟩
  case round =>
  obtain ⟨j, hj, rfl, hbl, hall⟩ := hrel
  have KD : Hid (Below U.heap.size U wr ∧ Below wF.heap.size wF wr ∧ (List.range j).all (fun j => decide ((tx.atNo t.reads j).region < (k.places.length : Int))) = true) := ⟨CUT.out _ hbl, hbl, hall⟩
  clear hbl hall
  have p9 := (FT.out.later KD.out.2.1).1 4 _ rfl
  by_cases hlj : j < t.reads.length
  case pos =>
    obtain ⟨_, hsn⟩ := HRT.out.1.r
    dsimp only at hsn
    rcases hsn with hsn | ⟨b', off', rfl, hb', h2⟩
    · omega
    have hck := (h2 j _ (tx.atNo_of hlj)).c0
    have xz : ∀ dd os, (grow (redrawn wr dd) os).cell? ⟨b', off' + j * 5, none⟩ = some (.int .i64 (tx.atNo t.reads j).region) := fun dd os => ((bstep KD.out.1 (below_regrown wr dd os)).cell (p := ⟨b', off' + j * 5, none⟩) hb').trans (hck)
    have hbx := FA.out.1 2 _ rfl
    have x2 : ∀ dd os, (grow (redrawn wr dd) os).cell? ⟨w.heap.size, 2, none⟩ = some (.slice a1 k.places.length c1) := fun dd os => ((bstep KD.out.1 (below_regrown wr dd os)).cell (p := ⟨w.heap.size, 2, none⟩) FA.out.2.2).trans (hbx)
    have x9 : ∀ dd os, (grow (redrawn wr dd) os).cell? ⟨s9, 4, none⟩ = some (.slice (some ⟨b', off', none⟩) t.reads.length t1) := fun dd os => (FT.out.later (bstep KD.out.2.1 (below_regrown wr dd os))).1 4 _ rfl
    have jz : (j : Int) < (t.reads.length : Int) := by omega
    clear hck h2 hbx
    by_cases hz : (tx.atNo t.reads j).region < (k.places.length : Int)
    case neg =>
      have dz : decide ((k.places.length : Int) ≤ (tx.atNo t.reads j).region) = true := by simp <;> omega
      have hb0 : Hid (clusterB k = false) := HFF.out (by rw [HY.out, readsB, all_off (f := fun j => decide ((tx.atNo t.reads j).region < (k.places.length : Int))) hlj (by simpa using hz)]; simp)
      go_wp2_with fail
      refine wp_region_quiet_below (by kernel_rfl) (by kernel_rfl) ?_
      repeat (go_big_quiet_step (fail))
      refine wpQuiet_nil ?_
      intro _ hw'
      obtain ⟨⟨dq, osq⟩, hw''⟩ := hw'
      subst hw''
      have bq := below_regrown wr dq osq
      go_wp2
      go_ret
      exact ⟨by rw [hb0.out]; rfl, BF.out _ (bstep KD.out.1 bq)⟩
    have dz : decide ((k.places.length : Int) ≤ (tx.atNo t.reads j).region) = false := by simp <;> omega
    have hon : Hid ((List.range (j + 1)).all (fun j => decide ((tx.atNo t.reads j).region < (k.places.length : Int))) = true) := all_on (f := fun j => decide ((tx.atNo t.reads j).region < (k.places.length : Int))) KD.out.2.2 (by simpa using hz)
    go_wp2_with fail
    refine wp_region_quiet_below (by kernel_rfl) (by kernel_rfl) ?_
    repeat (go_big_quiet_step (fail))
    refine wpQuiet_nil ?_
    intro _ hw'
    obtain ⟨⟨dq, osq⟩, hw''⟩ := hw'
    subst hw''
    have bq := below_regrown wr dq osq
    go_wp2
    exact ⟨⟨j + 1, by omega, by simp, bstep KD.out.2.1 bq, hon.out⟩, by simp [intOf]; omega⟩
  obtain rfl : j = t.reads.length := by omega
  have hdl : decide ((t.reads.length : Int) < (t.reads.length : Int)) = false := by simp
  have HY2 : Hid (txAtB k i = setsB k.places.length t.sets) := by unfold Hid; rw [HY.out, readsB, KD.out.2.2]; simp
  have KX : Hid (Below wF.heap.size wF wr) := KD.out.2.1
  go_wp2
  clear p9 hdl
  generalize wr = wG at *
  go_loopw [11] (fun v wr => ∃ j : Nat, j ≤ t.sets.length ∧ v = .int .i64 j ∧ Below wF.heap.size wF wr ∧ (List.range j).all (fun j => decide ((tx.atSe t.sets j).region < (k.places.length : Int))) = true) (fun v _ => t.sets.length - (intOf v).toNat)
  case atStart => exact ⟨0, Nat.zero_le _, rfl, KX.out, rfl⟩
  case round =>
  obtain ⟨j, hj, rfl, hbl, hall⟩ := hrel
  have KD : Hid (Below U.heap.size U wr ∧ Below wF.heap.size wF wr ∧ (List.range j).all (fun j => decide ((tx.atSe t.sets j).region < (k.places.length : Int))) = true) := ⟨CUT.out _ hbl, hbl, hall⟩
  clear hbl hall
  have p9 := (FT.out.later KD.out.2.1).1 5 _ rfl
  by_cases hlj : j < t.sets.length
  case pos =>
    obtain ⟨_, hsn⟩ := HRT.out.1.s
    dsimp only at hsn
    rcases hsn with hsn | ⟨b', off', rfl, hb', h2⟩
    · omega
    have hck := (h2 j _ (tx.atSe_of hlj)).c0
    have xz : ∀ dd os, (grow (redrawn wr dd) os).cell? ⟨b', off' + j * 5, none⟩ = some (.int .i64 (tx.atSe t.sets j).region) := fun dd os => ((bstep KD.out.1 (below_regrown wr dd os)).cell (p := ⟨b', off' + j * 5, none⟩) hb').trans (hck)
    have hbx := FA.out.1 2 _ rfl
    have x2 : ∀ dd os, (grow (redrawn wr dd) os).cell? ⟨w.heap.size, 2, none⟩ = some (.slice a1 k.places.length c1) := fun dd os => ((bstep KD.out.1 (below_regrown wr dd os)).cell (p := ⟨w.heap.size, 2, none⟩) FA.out.2.2).trans (hbx)
    have x9 : ∀ dd os, (grow (redrawn wr dd) os).cell? ⟨s9, 5, none⟩ = some (.slice (some ⟨b', off', none⟩) t.sets.length t3) := fun dd os => (FT.out.later (bstep KD.out.2.1 (below_regrown wr dd os))).1 5 _ rfl
    have jz : (j : Int) < (t.sets.length : Int) := by omega
    clear hck h2 hbx
    by_cases hz : (tx.atSe t.sets j).region < (k.places.length : Int)
    case neg =>
      have dz : decide ((k.places.length : Int) ≤ (tx.atSe t.sets j).region) = true := by simp <;> omega
      have hb0 : Hid (clusterB k = false) := HFF.out (by rw [HY2.out, setsB, all_off (f := fun j => decide ((tx.atSe t.sets j).region < (k.places.length : Int))) hlj (by simpa using hz)])
      go_wp2_with fail
      refine wp_region_quiet_below (by kernel_rfl) (by kernel_rfl) ?_
      repeat (go_big_quiet_step (fail))
      refine wpQuiet_nil ?_
      intro _ hw'
      obtain ⟨⟨dq, osq⟩, hw''⟩ := hw'
      subst hw''
      have bq := below_regrown wr dq osq
      go_wp2
      go_ret
      exact ⟨by rw [hb0.out]; rfl, BF.out _ (bstep KD.out.1 bq)⟩
    have dz : decide ((k.places.length : Int) ≤ (tx.atSe t.sets j).region) = false := by simp <;> omega
    have hon : Hid ((List.range (j + 1)).all (fun j => decide ((tx.atSe t.sets j).region < (k.places.length : Int))) = true) := all_on (f := fun j => decide ((tx.atSe t.sets j).region < (k.places.length : Int))) KD.out.2.2 (by simpa using hz)
    go_wp2_with fail
    refine wp_region_quiet_below (by kernel_rfl) (by kernel_rfl) ?_
    repeat (go_big_quiet_step (fail))
    refine wpQuiet_nil ?_
    intro _ hw'
    obtain ⟨⟨dq, osq⟩, hw''⟩ := hw'
    subst hw''
    have bq := below_regrown wr dq osq
    go_wp2
    exact ⟨⟨j + 1, by omega, by simp, bstep KD.out.2.1 bq, hon.out⟩, by simp [intOf]; omega⟩
  obtain rfl : j = t.sets.length := by omega
  have hdl : decide ((t.sets.length : Int) < (t.sets.length : Int)) = false := by simp
  have hh := HON.out (by rw [HY2.out, setsB]; exact KD.out.2.2)
  go_wp2
  exact ⟨⟨i + 1, by omega, by simp, KD.out.1, hh⟩, by simp [intOf]; omega⟩
end Go.Proofs.YtphpcgmnljhimaaGreat
namespace Go.Proofs.YtphpcgmnljhimaaGreat
open Go.RowKit
structure B2 (s : Nat) (alive : Bool) (v1 v2 v3 : Value) (X : World) : Prop where
  a0 : X.cell? ⟨s, 0, none⟩ = some (.bool alive)
  a1 : X.cell? ⟨s, 1, none⟩ = some v1
  a2 : X.cell? ⟨s, 2, none⟩ = some v2
  a3 : X.cell? ⟨s, 3, none⟩ = some v3
  z : X.heap[s + 1]? = some (.cells #[.slice none 0 0, .bool false, .slice none 0 0, .slice none 0 0] 215 (0, 0))
  lt : s + 1 < X.heap.size
theorem B2.later {s : Nat} {alive : Bool} {v1 v2 v3 : Value} {X Y : World} (h : B2 s alive v1 v2 v3 X) (hb : Below X.heap.size X Y) : B2 s alive v1 v2 v3 Y := by
  have l := h.lt
  have l' : s < X.heap.size := by omega
  exact ⟨(hb.cell (p := ⟨s, 0, none⟩) l').trans h.a0, (hb.cell (p := ⟨s, 1, none⟩) l').trans h.a1, (hb.cell (p := ⟨s, 2, none⟩) l').trans h.a2, (hb.cell (p := ⟨s, 3, none⟩) l').trans h.a3, (hb.block _ l).trans h.z, Nat.lt_of_lt_of_le l hb.size⟩
def noM : Value := .agg #[.slice none 0 0, .bool false, .slice none 0 0, .slice none 0 0]
def MV.own (u : MV) (m : M4) : Value := .agg #[.slice u.al m.log.length u.cl, .bool m.alive, .slice u.ac m.copies.length u.cc, .slice u.ad m.cleared.length u.cd]
set_option maxHeartbeats 2000000 in
theorem take_any (w : World) (v : MV) (m : M4) (hl : ML m) (hs : SlM w v m) :
    Calls Tryz.prog 176 #[v.val m] w fun e w' => (machB m = false → e = .returned (.tuple #[noM, .bool false])) ∧ (machB m = true → ∃ (u : MV) (p : Nat) (gk gr : Nat → Nat), e = .returned (.tuple #[u.own m, .bool true]) ∧ MR (w.heap.size + 2) p w' (.slice u.ac m.copies.length u.cc) (.slice u.al m.log.length u.cl) (.slice u.ad m.cleared.length u.cd) m.copies m.log m.cleared gk gr) ∧ Below w.heap.size w w' := by
  obtain ⟨ac, cc, al, cl, ad, cd⟩ := v
  simp only [MV.val, noM, MV.own]
  obtain ⟨W, hW⟩ : ∃ W, W = (w.alloc (.cells #[.bool m.alive, .slice ac m.copies.length cc, .slice al m.log.length cl, .slice ad m.cleared.length cd] 63)).alloc (.cells #[.slice none 0 0, .bool false, .slice none 0 0, .slice none 0 0] 215) := ⟨_, rfl⟩
  have b0 : Below w.heap.size w W := by subst hW; exact ((Below.refl _ _).alloc (Nat.le_refl _) _).alloc (by simp) _
  have s0 : W.heap.size = w.heap.size + 2 := by subst hW; simp
  have x0 : B2 w.heap.size m.alive (.slice ac m.copies.length cc) (.slice al m.log.length cl) (.slice ad m.cleared.length cd) W := by
    subst hW
    refine ⟨by go_simp, by go_simp, by go_simp, by go_simp, ?_, by simp⟩
    have := heap_alloc_new (w.alloc (.cells #[.bool m.alive, .slice ac m.copies.length cc, .slice al m.log.length cl, .slice ad m.cleared.length cd] 63)) (.cells #[.slice none 0 0, .bool false, .slice none 0 0, .slice none 0 0] 215)
    rw [show (w.alloc (.cells #[.bool m.alive, .slice ac m.copies.length cc, .slice al m.log.length cl, .slice ad m.cleared.length cd] 63)).heap.size = w.heap.size + 1 by simp] at this
    exact this
  have hm := implMachineOk_any W ⟨ac, cc, al, cl, ad, cd⟩ m hl (hs.later b0)
  simp only [MV.val] at hm
  have H : Hid (Below w.heap.size w W ∧ W.heap.size = w.heap.size + 2 ∧ B2 w.heap.size m.alive (.slice ac m.copies.length cc) (.slice al m.log.length cl) (.slice ad m.cleared.length cd) W ∧ SlM w ⟨ac, cc, al, cl, ad, cd⟩ m) := ⟨b0, s0, x0, hs⟩
  clear b0 s0 x0 hs hl
  subst hW
  cases hB : machB m with
  | false =>
    rw [hB] at hm
    go_enter Tryz.func176, Tryz.ntmps176
    go_wp2_with fail
    refine hm.mono ?_
    clear hm
    rintro e w1 ⟨rfl, b1⟩
    have x1 := H.out.2.2.1.later b1
    obtain ⟨z0, z1, z2, z3, zf⟩ := zeroBox x1.z
    have f0 := zf 0
    have f1 := zf 1
    have f2 := zf 2
    have f3 := zf 3
    have K : Hid (Below w.heap.size w w1) := H.out.1.trans (b1.mono H.out.1.size)
    clear b1 x1 zf
    go_wp2
    refine bodyPost_ret (v := .tuple #[.agg #[.slice none 0 0, .bool false, .slice none 0 0, .slice none 0 0], .bool false]) (by simp [results, Tryz.results176, go_sem, z0, z1, z2, z3]) rfl ⟨fun _ => rfl, fun h => (by cases h), ?_⟩
    exact (((K.out.setCell (p := ⟨_, _, none⟩) (by simp) _).setCell (p := ⟨_, _, none⟩) (by simp) _).setCell (p := ⟨_, _, none⟩) (by simp) _).setCell (p := ⟨_, _, none⟩) (by simp) _
  | true =>
    rw [hB] at hm
    have hMS := hidOf (MSm.of_mach hB)
    go_enter Tryz.func176, Tryz.ntmps176
    go_wp2_with fail
    refine hm.mono ?_
    clear hm
    rintro e w1 ⟨rfl, b1⟩
    have x1 := H.out.2.2.1.later b1
    have a0 := x1.a0
    have a1 := x1.a1
    have a2 := x1.a2
    have a3 := x1.a3
    have K : Hid (Below w.heap.size w w1 ∧ w.heap.size + 2 ≤ w1.heap.size ∧ B2 w.heap.size m.alive (.slice ac m.copies.length cc) (.slice al m.log.length cl) (.slice ad m.cleared.length cd) w1) := ⟨H.out.1.trans (b1.mono H.out.1.size), by have := b1.size; have := H.out.2.1; omega, x1⟩
    have ho := ownMachine_any w1 ⟨ac, cc, al, cl, ad, cd⟩ m hMS.out (H.out.2.2.2.later K.out.1)
    simp only [MV.val] at ho
    clear b1 x1
    go_wp2_with fail
    refine ho.mono ?_
    clear ho
    rintro e w2 ⟨⟨uc, uk, ul, uj, ud, ui⟩, p, gk, gr, rfl, mr, b2⟩
    have x2 := K.out.2.2.later b2
    obtain ⟨z0, z1, z2, z3, zf⟩ := zeroBox x2.z
    have f0 := zf 0
    have f1 := zf 1
    have f2 := zf 2
    have f3 := zf 3
    have K2 : Hid (Below w.heap.size w w2 ∧ MR (w.heap.size + 2) p w2 (.slice uc m.copies.length uk) (.slice ul m.log.length uj) (.slice ud m.cleared.length ui) m.copies m.log m.cleared gk gr) := ⟨K.out.1.trans (b2.mono K.out.1.size), mr.mono (by have := K.out.2.1; omega)⟩
    clear b2 x2 zf mr
    go_wp2
    refine bodyPost_ret (v := .tuple #[.agg #[.slice ul m.log.length uj, .bool m.alive, .slice uc m.copies.length uk, .slice ud m.cleared.length ui], .bool true]) (by simp [results, Tryz.results176, go_sem, z0, z1, z2, z3]) rfl ⟨fun h => (by cases h), fun _ => ⟨⟨uc, uk, ul, uj, ud, ui⟩, p, gk, gr, rfl, ?_⟩, ?_⟩
    · refine K2.out.2.keep (by simp [World.setCell]) (fun x _ hx _ => ?_)
      exact (Below.heap_setCell _ _ _ _ (by show x ≠ w.heap.size + 1; omega)).trans ((Below.heap_setCell _ _ _ _ (by show x ≠ w.heap.size + 1; omega)).trans ((Below.heap_setCell _ _ _ _ (by show x ≠ w.heap.size + 1; omega)).trans (Below.heap_setCell _ _ _ _ (by show x ≠ w.heap.size + 1; omega))))
    · exact (((K2.out.1.setCell (p := ⟨_, _, none⟩) (by simp) _).setCell (p := ⟨_, _, none⟩) (by simp) _).setCell (p := ⟨_, _, none⟩) (by simp) _).setCell (p := ⟨_, _, none⟩) (by simp) _
def ofB (t g : Int) (r : R4) : Bool := (r.tx == t) && (r.region == g)
def lgB (t g k : Int) (r : R4) : Bool := ofB t g r && (r.kind == k)
def ansR (m : M4) (t g k : Int) : Option R4 := if machB m = true then m.log.find? (lgB t g k) else none
def ansV (m : M4) (t g k : Int) : R4 := (ansR m t g k).getD ⟨0, 0, 0, []⟩
def ansH (m : M4) (t g k : Int) : Bool := (ansR m t g k).isSome
def OwnSt (w : World) (base : Nat) (a : Option Addr) (xs : List S5) : Prop := xs = [] ∨ ∃ q, a = some ⟨q, 0, none⟩ ∧ base ≤ q ∧ q < w.heap.size ∧ SetsAt w q 0 xs ∧ Room w q (xs.length * 5)
theorem OwnSt.sl {w : World} {base : Nat} {a : Option Addr} {xs : List S5} (h : OwnSt w base a xs) : Sl w w.heap.size a xs.length xs := by
  rcases h with rfl | ⟨q, rfl, h1, h2, h3, _⟩
  · exact ⟨rfl, .inl rfl⟩
  · exact ⟨rfl, .inr ⟨q, 0, rfl, h2, h3⟩⟩
def LogAns (w : World) (m : M4) (t g k : Int) (e : Ending) (w' : World) : Prop :=
  ∃ (a : Option Addr) (cp : Nat), e = .returned (.tuple #[(ansV m t g k).val a cp, .bool (ansH m t g k)]) ∧ OwnSt w' w.heap.size a (ansV m t g k).sets ∧ Below w.heap.size w w'
theorem LogAns.no {w w' : World} {m : M4} {t g k : Int} (h : ansR m t g k = none) (hb : Below w.heap.size w w') : LogAns w m t g k (.returned (.tuple #[.agg #[.int .i64 0, .int .i64 0, .int .i64 0, .slice none 0 0], .bool false])) w' :=
  ⟨Option.none, 0, by simp [ansV, ansH, h, R4.val], .inl (by simp [ansV, h]), hb⟩
def FirstAns (base : Nat) (rs : List R4) (t g k : Int) (gr : Nat → Nat) (e : Ending) (w' : World) : Prop :=
  (e = .returned (.tuple #[.agg #[.int .i64 0, .int .i64 0, .int .i64 0, .slice none 0 0], .bool false]) ∧ ∀ j, j < rs.length → lgB t g k (atR rs j) = false) ∨
  ∃ (i cp : Nat), e = .returned (.tuple #[(atR rs i).val (some ⟨gr i, 0, none⟩) cp, .bool true]) ∧ i < rs.length ∧ lgB t g k (atR rs i) = true ∧ (∀ j, j < i → lgB t g k (atR rs j) = false) ∧ AtR w' (gr i) (atR rs i) ∧ base ≤ gr i ∧ gr i < w'.heap.size
structure B4 (s : Nat) (t g k : Int) (X : World) : Prop where
  t0 : X.cell? ⟨s, 0, none⟩ = some (.int .i64 t)
  g0 : X.cell? ⟨s + 1, 0, none⟩ = some (.int .i64 g)
  k0 : X.cell? ⟨s + 1 + 1, 0, none⟩ = some (.int .i64 k)
  e0 : X.cell? ⟨s + 1 + 1 + 1, 0, none⟩ = some (.int .i64 0)
  e1 : X.cell? ⟨s + 1 + 1 + 1, 1, none⟩ = some (.int .i64 0)
  e2 : X.cell? ⟨s + 1 + 1 + 1, 2, none⟩ = some (.int .i64 0)
  e3 : X.cell? ⟨s + 1 + 1 + 1, 3, none⟩ = some (.slice none 0 0)
  fe : ∀ j, X.frozen? ⟨s + 1 + 1 + 1, j, none⟩ = false
  lt : s + 3 < X.heap.size
theorem B4.later {s : Nat} {t g k : Int} {X Y : World} (h : B4 s t g k X) (hb : Below X.heap.size X Y) : B4 s t g k Y := by
  have l := h.lt
  have c : ∀ {b j : Nat} {u : Value}, b < X.heap.size → X.cell? ⟨b, j, none⟩ = some u → Y.cell? ⟨b, j, none⟩ = some u := fun {b j u} e h => (hb.cell (p := ⟨b, j, none⟩) e).trans h
  exact ⟨c (by omega) h.t0, c (by omega) h.g0, c (by omega) h.k0, c (by omega) h.e0, c (by omega) h.e1, c (by omega) h.e2, c (by omega) h.e3, fun j => (hb.frozen (p := ⟨s + 1 + 1 + 1, j, none⟩) (by show s + 1 + 1 + 1 < X.heap.size; omega)).trans (h.fe j), Nat.lt_of_lt_of_le l hb.size⟩
theorem OwnSt.keep {w w' : World} {base : Nat} {a : Option Addr} {xs : List S5} (h : OwnSt w base a xs) (hs : w.heap.size ≤ w'.heap.size) (hk : ∀ q, base ≤ q → q < w.heap.size → w'.heap[q]? = w.heap[q]?) : OwnSt w' base a xs := by
  rcases h with h | ⟨q, ha, h1, h2, h3, h4⟩
  · exact .inl h
  · exact .inr ⟨q, ha, h1, Nat.lt_of_lt_of_le h2 hs, h3.of_block (hk q h1 h2), h4.of_block (hk q h1 h2)⟩
theorem OwnSt.later {w w' : World} {base : Nat} {a : Option Addr} {xs : List S5} (h : OwnSt w base a xs) (hb : Below w.heap.size w w') : OwnSt w' base a xs := h.keep hb.size (fun q _ hq => hb.block q hq)
end Go.Proofs.YtphpcgmnljhimaaGreat
namespace Go.Proofs.YtphpcgmnljhimaaGreat
open Go.RowKit
open Go.Sort (grow)
def alB (k : C6) (z : Int) : Bool := (atM k.machines z.toNat).alive
def dnB (k : C6) (y g z : Int) : Bool := (atM k.machines z.toNat).log.any (lgB y g 3) || hasB (atM k.machines z.toNat).cleared y
def bkB (k : C6) (y g z : Int) : Bool := (atM k.machines z.toNat).log.any (lgB y g 2)
def lkB (k : C6) (y g z : Int) : Bool := (atM k.machines z.toNat).log.any (lgB y g 1)
def bestV (d b l : Bool) : Int := if d then 4 else if b then 3 else if l then 2 else 1
def voteJ (k : C6) (y g : Int) (zs : List Int) (j : Nat) : Int := bestV ((zs.take j).any fun z => alB k z && dnB k y g z) ((zs.take j).any fun z => alB k z && bkB k y g z) ((zs.take (min j 1)).any fun z => alB k z && lkB k y g z)
def downB (k : C6) (zs : List Int) : Bool := zs.any fun z => !alB k z
theorem down_no {k : C6} {zs : List Int} (h : ∀ t, t < zs.length → alB k (atN zs t) = true) : downB k zs = false := by
  unfold downB
  rw [List.any_eq_false]
  intro z hz
  obtain ⟨i, hi, rfl⟩ := List.getElem_of_mem hz
  have := h i hi
  simpa [atN, List.getElem?_eq_getElem hi] using this
theorem down_yes {k : C6} {zs : List Int} {t : Nat} (ht : t < zs.length) (h : alB k (atN zs t) = false) : downB k zs = true := by
  unfold downB
  rw [List.any_eq_true]
  exact ⟨zs[t], List.getElem_mem ht, by simpa [atN, List.getElem?_eq_getElem ht] using h⟩
theorem clu_z {k : C6} (h : clusterB k = true) {r j : Nat} (hr : r < k.places.length) (hj : j < (atP k.places r).length) : 0 ≤ atN (atP k.places r) j ∧ atN (atP k.places r) j < (k.machines.length : Int) := by
  simp only [clusterB, Bool.and_eq_true] at h
  have hp := h.1.1.1.1.2
  have hq := h.1.2
  refine ⟨(places_z hp hr hj).1, ?_⟩
  simp only [placedB] at hq
  have h1 := List.all_eq_true.1 hq r (List.mem_range.2 hr)
  simp only [placB] at h1
  have h2 := List.all_eq_true.1 h1 j (List.mem_range.2 hj)
  simp only [servB, Bool.and_eq_true, decide_eq_true_eq] at h2
  exact h2.1
set_option maxRecDepth 100000 in
set_option maxHeartbeats 4000000 in
theorem l11Down_any (w : World) (a1 : Option Addr) (c1 : Nat) (a2 : Option Addr) (c2 : Nat) (a3 : Option Addr) (c3 : Nat) (k : C6) (r : Nat) (hk : clusterB k = true) (hr : r < k.places.length) (h : KCl.Rd w a1 c1 a2 c2 a3 c3 k) :
    Calls Tryz.prog 32 #[.agg #[.int .i64 k.config, .int .i64 k.clock, .slice a1 k.places.length c1, .slice a2 k.machines.length c2, .slice a3 k.txs.length c3, .bool k.lost], .int .i64 (r : Int)] w fun e w' => e = .returned (.bool (downB k (atP k.places r))) ∧ Below w.heap.size w w' := by
  obtain ⟨U, hU⟩ : ∃ Y, Y = w.alloc (.cells #[.int .i64 k.config, .int .i64 k.clock, .slice a1 k.places.length c1, .slice a2 k.machines.length c2, .slice a3 k.txs.length c3, .bool k.lost] 33) := ⟨_, rfl⟩
  have bU : Below w.heap.size w U := by rw [hU]; exact (Below.refl _ _).alloc (Nat.le_refl _) _
  have xU : Bx U w.heap.size [.int .i64 k.config, .int .i64 k.clock, .slice a1 k.places.length c1, .slice a2 k.machines.length c2, .slice a3 k.txs.length c3, .bool k.lost] := by rw [hU]; exact Bx.made w [.int .i64 k.config, .int .i64 k.clock, .slice a1 k.places.length c1, .slice a2 k.machines.length c2, .slice a3 k.txs.length c3, .bool k.lost] _
  have HR : Hid (KCl.Rd U a1 c1 a2 c2 a3 c3 k) := h.later bU
  have FA : Hid (Bx U w.heap.size [.int .i64 k.config, .int .i64 k.clock, .slice a1 k.places.length c1, .slice a2 k.machines.length c2, .slice a3 k.txs.length c3, .bool k.lost]) := xU
  have BW : Hid (Below w.heap.size w U) := bU
  have HZ : Hid (∀ j, j < (atP k.places r).length → 0 ≤ atN (atP k.places r) j ∧ atN (atP k.places r) j < (k.machines.length : Int)) := fun j hj => clu_z hk hr hj
  have hls : (atP k.places r).length ≤ 3 := ((CSm.of hk).ps _ (List.mem_of_getElem? (atP_of hr))).2
  obtain ⟨_, hsp⟩ := HR.out.p
  rcases hsp with hsp | ⟨b, off, rfl, hb, hpl⟩
  · omega
  obtain ⟨a', cap', hc, hsl, hcp⟩ := hpl r _ (atP_of hr)
  have HSL : Hid (SlN U U.heap.size a' (atP k.places r).length (atP k.places r)) := hsl
  have p2 := xU.1 2 _ rfl
  have jr : (r : Int) < (k.places.length : Int) := by omega
  have hc' := hc
  rw [hU] at p2 hc'
  clear bU xU hc hsl hpl h
  generalize hzs : atP k.places r = zs at *
  go_enter Tryz.func32, Tryz.ntmps32
  go_wp2
  rw [← hU]
  clear p2 hc' hU jr hb
  go_loopw [6] (fun v6 wr => ∃ j : Nat, j ≤ zs.length ∧ v6 = .int .i64 j ∧ Below U.heap.size U wr ∧ ∀ t, t < j → alB k (atN zs t) = true) (fun v6 _ => zs.length - (intOf v6).toNat)
  case atStart => exact ⟨0, Nat.zero_le _, rfl, Below.refl _ _, fun t ht => absurd ht (by omega)⟩
  case round =>
    obtain ⟨j, hj, rfl, hbl, hlo⟩ := hrel
    have KD : Hid (Below U.heap.size U wr ∧ ∀ t, t < j → alB k (atN zs t) = true) := ⟨hbl, hlo⟩
    clear hbl hlo
    by_cases hlj : j < zs.length
    · obtain ⟨_, hsn⟩ := HSL.out
      rcases hsn with hsn | ⟨b', off', rfl, hb', h2⟩
      · omega
      have hz := HZ.out j hlj
      obtain ⟨i, hi⟩ : ∃ i : Nat, atN zs j = (i : Int) := ⟨(atN zs j).toNat, by omega⟩
      have hck := h2 j _ (atN_of hlj)
      have him : i < k.machines.length := by omega
      rw [hi] at hck
      have xz : ∀ dd os, (grow (redrawn wr dd) os).cell? ⟨b', off' + j, none⟩ = some (.int .i64 (i : Int)) := fun dd os => ((bstep KD.out.1 (below_regrown wr dd os)).cell (p := ⟨b', off' + j, none⟩) hb').trans hck
      rcases HR.out.m with hs | ⟨mb, mo, rfl, hmb, hmrd⟩
      · rw [hs] at him; simp at him
      obtain ⟨⟨m0, m1, m2, m3, m4, m5⟩, hmel, -⟩ := hmrd i _ (atM_of him)
      have ga : U.cell? ⟨mb, mo + i * 4, none⟩ = some (.bool (atM k.machines i).alive) := hmel 0 _ rfl
      have x0 : ∀ dd os, (grow (redrawn wr dd) os).cell? ⟨mb, mo + i * 4, none⟩ = some (.bool (atM k.machines i).alive) := fun dd os => ((bstep KD.out.1 (below_regrown wr dd os)).cell (p := ⟨mb, mo + i * 4, none⟩) hmb).trans ga
      have hbx := FA.out.1 3 _ rfl
      have x3 : ∀ dd os, (grow (redrawn wr dd) os).cell? ⟨w.heap.size, 3, none⟩ = some (.slice (some ⟨mb, mo, none⟩) k.machines.length c2) := fun dd os => ((bstep KD.out.1 (below_regrown wr dd os)).cell (p := ⟨w.heap.size, 3, none⟩) FA.out.2.2).trans hbx
      have jz : (j : Int) < (zs.length : Int) := by omega
      have im : (i : Int) < (k.machines.length : Int) := by omega
      have HA : Hid (alB k (atN zs j) = (atM k.machines i).alive) := by unfold Hid alB; rw [hi]; rfl
      clear hck h2 hz hi hmrd hmel ga hbx hb' hmb
      go_wp2_with fail
      refine wp_region_quiet_below (by kernel_rfl) (by kernel_rfl) ?_
      repeat (go_big_quiet_step (fail))
      refine wpQuiet_nil ?_
      intro _ hw'
      obtain ⟨⟨dq, osq⟩, hw''⟩ := hw'
      subst hw''
      have bq := below_regrown wr dq osq
      have K3 : Hid (Below U.heap.size U (grow (redrawn wr dq) osq)) := bstep KD.out.1 bq
      clear bq xz x0 x3
      generalize grow (redrawn wr dq) osq = w3 at *
      cases hal : (atM k.machines i).alive with
      | false =>
        have hb0 : Hid (downB k zs = true) := down_yes hlj (by rw [HA.out]; exact hal)
        go_wp2
        go_ret
        exact ⟨by rw [hb0.out]; rfl, bstep BW.out K3.out⟩
      | true =>
        have hon : Hid (∀ t, t < j + 1 → alB k (atN zs t) = true) := fun t ht => by
          by_cases e : t = j
          · rw [e, HA.out]; exact hal
          · exact KD.out.2 t (by omega)
        go_wp2
        exact ⟨⟨j + 1, by omega, by simp, K3.out, hon.out⟩, by simp [intOf]; omega⟩
    · obtain rfl : j = zs.length := by omega
      have hd : decide ((zs.length : Int) < (zs.length : Int)) = false := by simp
      have hb0 : Hid (downB k zs = false) := down_no KD.out.2
      go_wp2
      go_ret
      exact ⟨by rw [hb0.out]; rfl, bstep BW.out KD.out.1⟩
end Go.Proofs.YtphpcgmnljhimaaGreat
namespace Go.Proofs.YtphpcgmnljhimaaGreat.tx
open Go.RowKit
open Go.Sort (grow)
def FirstAt (f : Nat → Bool) (n : Nat) (i : Int) : Prop := (i = -1 ∧ ∀ j, j < n → f j = false) ∨ ∃ k : Nat, i = (k : Int) ∧ k < n ∧ f k = true ∧ ∀ j, j < k → f j = false
theorem first_has {f : Nat → Bool} {n : Nat} {i : Int} (h : FirstAt f n i) : decide (0 ≤ i) = !((List.range n).all fun j => !f j) := by
  rcases h with ⟨rfl, h⟩ | ⟨k, rfl, hk, hf, _⟩
  · have : ((List.range n).all fun j => !f j) = true := by rw [List.all_eq_true]; intro j hj; simp [h j (List.mem_range.1 hj)]
    rw [this]; rfl
  · have : ((List.range n).all fun j => !f j) = false := by rw [List.all_eq_false]; exact ⟨k, List.mem_range.2 hk, by simp [hf]⟩
    rw [this]; simp
theorem implId (w : World) (x : Int) : Calls Tryz.prog 101 #[.int .i64 x] w fun e w' => e = .returned (.bool (inB 1 1000000 x)) ∧ w' = w := by
  go_enter Tryz.func101, Tryz.ntmps101
  go_wp2
  all_goals (go_ret; refine ⟨ret_bool ?_, rfl⟩; simp [inB_iff]; try omega)
theorem implMachine (w : World) (x : Int) : Calls Tryz.prog 102 #[.int .i64 x] w fun e w' => e = .returned (.bool (inB 0 7 x)) ∧ w' = w := by
  go_enter Tryz.func102, Tryz.ntmps102
  go_wp2
  all_goals (go_ret; refine ⟨ret_bool ?_, rfl⟩; simp [inB_iff]; try omega)
theorem implPhase (w : World) (x : Int) : Calls Tryz.prog 103 #[.int .i64 x] w fun e w' => e = .returned (.bool (inB 1 9 x)) ∧ w' = w := by
  go_enter Tryz.func103, Tryz.ntmps103
  go_wp2
  all_goals (go_ret; refine ⟨ret_bool ?_, rfl⟩; simp [inB_iff]; try omega)
theorem implDone (w : World) (x : Int) : Calls Tryz.prog 104 #[.int .i64 x] w fun e w' => e = .returned (.bool (inB 0 1000 x)) ∧ w' = w := by
  go_enter Tryz.func104, Tryz.ntmps104
  go_wp2
  all_goals (go_ret; refine ⟨ret_bool ?_, rfl⟩; simp [inB_iff]; try omega)
theorem implStamp (w : World) (x : Int) : Calls Tryz.prog 65 #[.int .i64 x] w fun e w' => e = .returned (.bool (inB 0 1000000 x)) ∧ w' = w := by
  go_enter Tryz.func65, Tryz.ntmps65
  go_wp2
  all_goals (go_ret; refine ⟨ret_bool ?_, rfl⟩; simp [inB_iff]; try omega)
theorem implVersion (w : World) (x : Int) : Calls Tryz.prog 154 #[.int .i64 x] w fun e w' => e = .returned (.bool (inB 0 1000000 x)) ∧ w' = w := by
  go_enter Tryz.func154, Tryz.ntmps154
  go_wp2
  all_goals (go_ret; refine ⟨ret_bool ?_, rfl⟩; simp [inB_iff]; try omega)
theorem implNoteOk (w : World) (s : N5) : Calls Tryz.prog 106 #[.agg #[.int .i64 s.region, .int .i64 s.slot, .int .i64 s.version, .int .i64 s.value, .bool s.used]] w fun e w' => e = .returned (.bool (noteOkB s)) ∧ Below w.heap.size w w' := by
  obtain ⟨r, l, v, u, x⟩ := s
  go_enter Tryz.func106, Tryz.ntmps106
  cases h1 : inB 0 5 r <;> cases h2 : inB 0 5 l <;> cases h3 : inB 0 1000000 v
  all_goals go_wp2_with (first | (go_at_call 154; refine (implVersion _ _).mono ?_; rintro e w' ⟨rfl, rfl⟩) | (go_at_call 152; refine (implRegion _ _).mono ?_; rintro e w' ⟨rfl, rfl⟩) | (go_at_call 153; refine (implSlot _ _).mono ?_; rintro e w' ⟨rfl, rfl⟩) | (go_at_call 155; refine (implValue _ _).mono ?_; rintro e w' ⟨rfl, rfl⟩))
  all_goals (go_ret; refine ⟨ret_bool ?_, (Below.refl _ _).alloc (Nat.le_refl _) _⟩; simp only [noteOkB, h1, h2, h3, Bool.and_true, Bool.and_false, Bool.false_and, Bool.true_and]; try simp [inB_iff]; try omega)
def rk (r s : Int) : Int := r * 6 + s
theorem rank_any (w : World) (r s : Int) (h1 : inB 0 5 r = true) (h2 : inB 0 5 s = true) : Calls Tryz.prog 184 #[.agg #[.int .i64 r, .int .i64 s]] w fun e w' => e = .returned (.int .i64 (rk r s)) ∧ Below w.heap.size w w' := by
  rw [inB_iff] at h1 h2
  have e1 : IntKind.i64.wrap (r * 6) = r * 6 := by simp [IntKind.wrap, IntKind.bits, IntKind.signed]; omega
  have e2 : IntKind.i64.wrap (r * 6 + s) = r * 6 + s := by simp [IntKind.wrap, IntKind.bits, IntKind.signed]; omega
  go_enter Tryz.func184, Tryz.ntmps184
  go_wp2
  go_ret
  exact ⟨by simp [rk], (Below.refl _ _).alloc (Nat.le_refl _) _⟩
theorem less_rk {r s q t : Int} (h1 : inB 0 5 s = true) (h2 : inB 0 5 t = true) : lessB r s q t = decide (rk r s < rk q t) := by
  rw [inB_iff] at h1 h2
  have hk : ∀ a b, rk a b = a * 6 + b := fun _ _ => rfl
  have hd : (r < q ∨ r = q ∧ s < t) ↔ rk r s < rk q t := by
    rw [hk, hk]
    constructor
    · rintro (h | ⟨h, h'⟩) <;> omega
    · intro h
      by_cases hr : r < q
      · exact .inl hr
      · exact .inr ⟨by omega, by omega⟩
  rw [Bool.eq_iff_iff]
  simp [lessB, hd]
set_option maxHeartbeats 1000000 in
theorem noCell_any (w : World) (s : N5) : Calls Tryz.prog 111 #[.agg #[.int .i64 s.region, .int .i64 s.slot, .int .i64 s.version, .int .i64 s.value, .bool s.used]] w fun e w' => e = .returned (.agg #[.int .i64 s.region, .int .i64 s.slot]) ∧ Below w.heap.size w w' := by
  obtain ⟨f0, f1, f2, f3, f4⟩ := s
  go_enter Tryz.func111, Tryz.ntmps111
  go_wp2
  refine bodyPost_ret (v := .agg #[.int .i64 f0, .int .i64 f1]) (by simp [results, Tryz.results111, go_sem]) rfl ⟨rfl, ?_⟩
  exact ((Below.refl _ _).alloc (Nat.le_refl _) _).alloc (by simp) _
set_option maxHeartbeats 1000000 in
theorem noRank_any (w : World) (s : N5) (h1 : inB 0 5 s.region = true) (h2 : inB 0 5 s.slot = true) : Calls Tryz.prog 151 #[.agg #[.int .i64 s.region, .int .i64 s.slot, .int .i64 s.version, .int .i64 s.value, .bool s.used]] w fun e w' => e = .returned (.int .i64 (rk s.region s.slot)) ∧ Below w.heap.size w w' := by
  have b0 : Below w.heap.size w (w.alloc (.cells #[.int .i64 s.region, .int .i64 s.slot, .int .i64 s.version, .int .i64 s.value, .bool s.used] 91)) := (Below.refl _ _).alloc (Nat.le_refl _) _
  have c1 := noCell_any (w.alloc (.cells #[.int .i64 s.region, .int .i64 s.slot, .int .i64 s.version, .int .i64 s.value, .bool s.used] 91)) s
  have hm : ∀ w : World, (method 371 91 (.agg #[.int .i64 s.region, .int .i64 s.slot, .int .i64 s.version, .int .i64 s.value, .bool s.used]) "loop.example/g00153/impl.cell").run Tryz.prog w = .ok (111, .agg #[.int .i64 s.region, .int .i64 s.slot, .int .i64 s.version, .int .i64 s.value, .bool s.used]) w := fun _ => by kernel_rfl
  go_enter Tryz.func151, Tryz.ntmps151
  go_wp2_with (first | (go_at_call 111; refine c1.mono ?_; rintro e w1 ⟨rfl, b1⟩) | (go_at_call 184; refine (rank_any _ _ _ h1 h2).mono ?_; rintro e w2 ⟨rfl, b2⟩))
  go_ret
  exact ⟨rfl, b0.trans ((b1.trans (b2.mono b1.size)).mono b0.size)⟩
set_option maxHeartbeats 1000000 in
theorem seCell_any (w : World) (s : S5) : Calls Tryz.prog 233 #[.agg #[.int .i64 s.region, .int .i64 s.slot, .int .i64 s.value, .bool s.used, .int .i64 s.version]] w fun e w' => e = .returned (.agg #[.int .i64 s.region, .int .i64 s.slot]) ∧ Below w.heap.size w w' := by
  obtain ⟨f0, f1, f2, f3, f4⟩ := s
  go_enter Tryz.func233, Tryz.ntmps233
  go_wp2
  refine bodyPost_ret (v := .agg #[.int .i64 f0, .int .i64 f1]) (by simp [results, Tryz.results233, go_sem]) rfl ⟨rfl, ?_⟩
  exact ((Below.refl _ _).alloc (Nat.le_refl _) _).alloc (by simp) _
set_option maxHeartbeats 1000000 in
theorem seRank_any (w : World) (s : S5) (h1 : inB 0 5 s.region = true) (h2 : inB 0 5 s.slot = true) : Calls Tryz.prog 159 #[.agg #[.int .i64 s.region, .int .i64 s.slot, .int .i64 s.value, .bool s.used, .int .i64 s.version]] w fun e w' => e = .returned (.int .i64 (rk s.region s.slot)) ∧ Below w.heap.size w w' := by
  have b0 : Below w.heap.size w (w.alloc (.cells #[.int .i64 s.region, .int .i64 s.slot, .int .i64 s.value, .bool s.used, .int .i64 s.version] 93)) := (Below.refl _ _).alloc (Nat.le_refl _) _
  have c1 := seCell_any (w.alloc (.cells #[.int .i64 s.region, .int .i64 s.slot, .int .i64 s.value, .bool s.used, .int .i64 s.version] 93)) s
  have hm : ∀ w : World, (method 371 93 (.agg #[.int .i64 s.region, .int .i64 s.slot, .int .i64 s.value, .bool s.used, .int .i64 s.version]) "loop.example/g00153/impl.cell").run Tryz.prog w = .ok (233, .agg #[.int .i64 s.region, .int .i64 s.slot, .int .i64 s.value, .bool s.used, .int .i64 s.version]) w := fun _ => by kernel_rfl
  go_enter Tryz.func159, Tryz.ntmps159
  go_wp2_with (first | (go_at_call 233; refine c1.mono ?_; rintro e w1 ⟨rfl, b1⟩) | (go_at_call 184; refine (rank_any _ _ _ h1 h2).mono ?_; rintro e w2 ⟨rfl, b2⟩))
  go_ret
  exact ⟨rfl, b0.trans ((b1.trans (b2.mono b1.size)).mono b0.size)⟩
theorem noOk_in {s : N5} (h : noteOkB s = true) : inB 0 5 s.region = true ∧ inB 0 5 s.slot = true := by simp only [noteOkB, Bool.and_eq_true] at h; exact ⟨h.1.1.1, h.1.1.2⟩
set_option maxHeartbeats 1000000 in
theorem noWrong_any (w : World) (s : N5) (g : Nat) (hg : w.cell? ⟨g, 0, none⟩ = some (.func (.func 106) #[] #[])) (hl : g < w.heap.size) : Calls Tryz.prog 148 #[.agg #[.int .i64 s.region, .int .i64 s.slot, .int .i64 s.version, .int .i64 s.value, .bool s.used], .pointer (some ⟨g, 0, none⟩)] w fun e w' => e = .returned (.bool (!noteOkB s)) ∧ Below w.heap.size w w' := by
  obtain ⟨W, hW⟩ : ∃ W, W = w.alloc (.cells #[.int .i64 s.region, .int .i64 s.slot, .int .i64 s.version, .int .i64 s.value, .bool s.used] 91) := ⟨_, rfl⟩
  have b0 : Below w.heap.size w W := by rw [hW]; exact (Below.refl _ _).alloc (Nat.le_refl _) _
  have d := (b0.cell (p := ⟨g, 0, none⟩) hl).trans hg
  have c1 := implNoteOk W s
  have KB : Hid (Below w.heap.size w W) := b0
  clear hg hl b0
  rw [hW] at d
  go_enter Tryz.func148, Tryz.ntmps148
  go_wp2_with fail
  rw [← hW]
  refine c1.mono ?_
  clear c1 hW d
  rintro e w1 ⟨rfl, b1⟩
  go_wp2
  go_ret
  exact ⟨rfl, KB.out.trans (b1.mono KB.out.size)⟩
set_option maxHeartbeats 2000000 in
theorem noIdx (w : World) (a : Option Addr) (cap : Nat) (xs : List N5) (g : Nat) (hn : xs.length ≤ maxLen) (hs : SlNo w w.heap.size a xs.length xs) (hg : w.cell? ⟨g, 0, none⟩ = some (.func (.func 106) #[] #[])) (hgl : g < w.heap.size) :
    Calls Tryz.prog 183 #[.slice a xs.length cap, .func (.func 148) #[] #[.pointer (some ⟨g, 0, none⟩)]] w fun e w' => (∃ i : Int, e = .returned (.int .i64 i) ∧ FirstAt (fun i => !noteOkB (atNo xs i)) xs.length i) ∧ Below w.heap.size w w' := by
  unfold maxLen at hn
  obtain ⟨hx, hs⟩ := hs
  clear hx
  obtain ⟨f, hf⟩ : ∃ f : Nat → Bool, f = fun i => !noteOkB (atNo xs i) := ⟨_, rfl⟩
  have HF : Hid (∀ (X : World) (i : Nat), Below w.heap.size w X → Calls Tryz.prog 148 #[.agg #[.int .i64 (atNo xs i).region, .int .i64 (atNo xs i).slot, .int .i64 (atNo xs i).version, .int .i64 (atNo xs i).value, .bool (atNo xs i).used], .pointer (some ⟨g, 0, none⟩)] X fun e w' => e = .returned (.bool (f i)) ∧ Below X.heap.size X w') := fun X i hX => by
    rw [hf]; exact noWrong_any X (atNo xs i) g ((hX.cell (p := ⟨g, 0, none⟩) hgl).trans hg) (Nat.lt_of_lt_of_le hgl hX.size)
  rw [← hf]
  clear hf hg
  obtain ⟨n, hN⟩ : ∃ n, n = xs.length := ⟨_, rfl⟩
  rw [← hN] at hn hs ⊢
  have HN : Hid (n = xs.length) := hN
  clear hN
  go_enter Tryz.func183, Tryz.ntmps183
  go_wp2
  go_loopw [8] (fun v wr => ∃ j : Nat, j ≤ n ∧ v = .int .i64 j ∧ Below w.heap.size w wr ∧ ∀ i, i < j → f i = false) (fun v _ => n - (intOf v).toNat)
  case atStart => exact ⟨0, Nat.zero_le _, rfl, Below.refl _ _, fun i h => absurd h (by omega)⟩
  case round =>
    obtain ⟨j, hj, rfl, hbl, hall⟩ := hrel
    by_cases hlt : j < n
    · rcases hs with hs | ⟨b, off, rfl, hb, h1⟩
      · omega
      · obtain ⟨c0, c1, c2, c3, c4⟩ := (h1.below hbl hb) j _ (atNo_of (by rw [← HN.out]; exact hlt))
        have KA : Hid ((∀ i, i < j → f i = false) ∧ Below w.heap.size w wr) := ⟨hall, hbl⟩
        have hw := HF.out wr j hbl
        clear h1 hall hbl
        cases hp : f j with
        | true =>
          rw [hp] at hw
          go_wp2_with fail
          refine hw.mono ?_
          clear hw
          rintro e w1 ⟨rfl, b1⟩
          go_wp2
          go_ret
          exact ⟨⟨_, rfl, .inr ⟨j, rfl, hlt, hp, KA.out.1⟩⟩, KA.out.2.trans (b1.mono KA.out.2.size)⟩
        | false =>
          rw [hp] at hw
          go_wp2_with fail
          refine hw.mono ?_
          clear hw
          rintro e w1 ⟨rfl, b1⟩
          go_wp2
          exact ⟨⟨j + 1, by omega, by simp, KA.out.2.trans (b1.mono KA.out.2.size), fun i hi => by
            by_cases e : i = j
            · rw [e]; exact hp
            · exact KA.out.1 i (by omega)⟩, by simp [intOf]; omega⟩
    · have : j = n := by omega
      subst this
      have hd : decide ((j : Int) < (j : Int)) = false := by simp
      have KA : Hid (∀ i, i < j → f i = false) := hall
      clear hs hall
      go_wp2
      go_ret
      exact ⟨⟨_, rfl, .inl ⟨rfl, KA.out⟩⟩, hbl⟩
set_option maxHeartbeats 1000000 in
theorem noHas (w : World) (a : Option Addr) (cap : Nat) (xs : List N5) (g : Nat) (hn : xs.length ≤ maxLen) (hs : SlNo w w.heap.size a xs.length xs) (hg : w.cell? ⟨g, 0, none⟩ = some (.func (.func 106) #[] #[])) (hgl : g < w.heap.size) :
    Calls Tryz.prog 149 #[.slice a xs.length cap, .func (.func 148) #[] #[.pointer (some ⟨g, 0, none⟩)]] w fun e w' => e = .returned (.bool (!((List.range xs.length).all fun i => noteOkB (atNo xs i)))) ∧ Below w.heap.size w w' := by
  have c1 := noIdx w a cap xs g hn hs hg hgl
  have HE : Hid (∀ i : Int, FirstAt (fun i => !noteOkB (atNo xs i)) xs.length i → decide (0 ≤ i) = !((List.range xs.length).all fun i => noteOkB (atNo xs i))) := fun i h => by
    rw [first_has h]; simp
  clear hn hs hg hgl
  go_enter Tryz.func149, Tryz.ntmps149
  go_wp2_with fail
  refine c1.mono ?_
  clear c1
  rintro e w1 ⟨⟨i, rfl, hi⟩, b1⟩
  have KE : Hid (decide (0 ≤ i) = !((List.range xs.length).all fun i => noteOkB (atNo xs i))) := HE.out i hi
  clear hi HE
  go_wp2
  go_ret
  exact ⟨by rw [← KE.out]; rfl, b1⟩
def noUp (xs : List N5) (i : Nat) : Bool := decide (i = 0) || decide (rk (atNo xs (i - 1)).region (atNo xs (i - 1)).slot < rk (atNo xs i).region (atNo xs i).slot)
set_option maxHeartbeats 4000000 in
theorem noRises_any (w : World) (a : Option Addr) (cap : Nat) (xs : List N5) (hn : xs.length ≤ maxLen) (hs : SlNo w w.heap.size a xs.length xs) (hok : ∀ i, i < xs.length → noteOkB (atNo xs i) = true) :
    Calls Tryz.prog 150 #[.slice a xs.length cap, .func (.func 151) #[] #[]] w fun e w' => e = .returned (.bool ((List.range xs.length).all (noUp xs))) ∧ Below w.heap.size w w' := by
  unfold maxLen at hn
  obtain ⟨_, hs⟩ := hs
  have HO := hidOf hok
  clear hok
  obtain ⟨n, hN⟩ : ∃ n, n = xs.length := ⟨_, rfl⟩
  have HN : Hid (n = xs.length) := hN
  rw [← hN] at hn hs ⊢
  clear hN
  go_enter Tryz.func150, Tryz.ntmps150
  go_wp2
  go_loopw [5] (fun v wr => ∃ j : Nat, (j ≤ n ∨ n = 0 ∧ j = 1) ∧ 0 < j ∧ v = .int .i64 j ∧ Below w.heap.size w wr ∧ (List.range j).all (noUp xs) = true) (fun v _ => n - (intOf v).toNat)
  case atStart => exact ⟨1, by omega, by omega, rfl, Below.refl _ _, by simp [noUp]⟩
  case round =>
    obtain ⟨j, hj, hj0, rfl, hbl, hall⟩ := hrel
    by_cases hlt : j < n
    · rcases hs with hs | ⟨b, off, rfl, hb, h1⟩
      · omega
      obtain ⟨i, rfl⟩ : ∃ i, j = i + 1 := ⟨j - 1, by omega⟩
      obtain ⟨t0, t1, t2, t3, t4⟩ := (h1.below hbl hb) (i + 1) _ (atNo_of (by rw [← HN.out]; exact hlt))
      obtain ⟨u0, u1, u2, u3, u4⟩ := (h1.below hbl hb) i _ (atNo_of (by rw [← HN.out]; omega))
      have hbW : b < wr.heap.size := Nat.lt_of_lt_of_le hb hbl.size
      have lift : ∀ {o : Nat} {u : Value}, wr.cell? ⟨b, o, none⟩ = some u → ∀ d os, (grow (redrawn wr d) os).cell? ⟨b, o, none⟩ = some u := fun {o u} h d os => ((below_regrown wr d os).cell (p := ⟨b, o, none⟩) hbW).trans h
      have x0 := lift t0
      have x1 := lift t1
      have x2 := lift t2
      have x3 := lift t3
      have x4 := lift t4
      have y0 := lift u0
      have y1 := lift u1
      have y2 := lift u2
      have y3 := lift u3
      have y4 := lift u4
      have k1 := noOk_in (HO.out (i + 1) (by rw [← HN.out]; exact hlt))
      have k2 := noOk_in (HO.out i (by rw [← HN.out]; omega))
      have cA : ∀ d os, Calls Tryz.prog 151 #[.agg #[.int .i64 (atNo xs (i + 1)).region, .int .i64 (atNo xs (i + 1)).slot, .int .i64 (atNo xs (i + 1)).version, .int .i64 (atNo xs (i + 1)).value, .bool (atNo xs (i + 1)).used]] (grow (redrawn wr d) os) fun e w'' => e = .returned (.int .i64 (rk (atNo xs (i + 1)).region (atNo xs (i + 1)).slot)) ∧ ∃ p : Regrown, w'' = grow (redrawn wr p.d) p.os := fun d os => Calls.regrown_of (noRank_any _ _ k1.1 k1.2)
      have cB : ∀ d os, Calls Tryz.prog 151 #[.agg #[.int .i64 (atNo xs i).region, .int .i64 (atNo xs i).slot, .int .i64 (atNo xs i).version, .int .i64 (atNo xs i).value, .bool (atNo xs i).used]] (grow (redrawn wr d) os) fun e w'' => e = .returned (.int .i64 (rk (atNo xs i).region (atNo xs i).slot)) ∧ ∃ p : Regrown, w'' = grow (redrawn wr p.d) p.os := fun d os => Calls.regrown_of (noRank_any _ _ k2.1 k2.2)
      have K : Hid (Below w.heap.size w wr ∧ (List.range (i + 1)).all (noUp xs) = true) := ⟨hbl, hall⟩
      have hi : (i : Int) < (n : Int) := by omega
      clear lift t0 t1 t2 t3 t4 u0 u1 u2 u3 u4 k1 k2 h1 hbl hall
      have U : Hid (noUp xs (i + 1) = decide (rk (atNo xs i).region (atNo xs i).slot < rk (atNo xs (i + 1)).region (atNo xs (i + 1)).slot)) := by unfold Hid; simp [noUp]
      have HL : Hid (i + 1 < n) := hlt
      have hi1 : ((i + 1 : Nat) : Int) < (n : Int) := by omega
      clear hlt
      generalize rk (atNo xs (i + 1)).region (atNo xs (i + 1)).slot = x at *
      generalize rk (atNo xs i).region (atNo xs i).slot = y at *
      generalize (atNo xs (i + 1)).region = a0 at *
      generalize (atNo xs (i + 1)).slot = a1 at *
      generalize (atNo xs (i + 1)).value = a2 at *
      generalize (atNo xs (i + 1)).used = a3 at *
      generalize (atNo xs (i + 1)).version = a4 at *
      generalize (atNo xs i).region = e0 at *
      generalize (atNo xs i).slot = e1 at *
      generalize (atNo xs i).value = e2 at *
      generalize (atNo xs i).used = e3 at *
      generalize (atNo xs i).version = e4 at *
      by_cases hq : x ≤ y
      · have KU : Hid (noUp xs (i + 1) = false) := by unfold Hid; rw [U.out]; simp; omega
        have dq : decide (x ≤ y) = true := by simpa using hq
        clear hq U
        go_wp2_with fail
        refine wp_region_quiet_below (by kernel_rfl) (by kernel_rfl) ?_
        repeat (go_big_quiet_step (first | (go_at_call_of 151 (Value.agg #[.int .i64 a0, .int .i64 a1, .int .i64 a4, .int .i64 a2, .bool a3]); exact cA _ _) | (go_at_call_of 151 (Value.agg #[.int .i64 e0, .int .i64 e1, .int .i64 e4, .int .i64 e2, .bool e3]); exact cB _ _)))
        refine wpQuiet_nil ?_
        intro _ hw'
        obtain ⟨⟨dq', osq⟩, hw''⟩ := hw'
        subst hw''
        have bq := below_regrown wr dq' osq
        go_wp2
        go_ret
        exact ⟨by rw [alls_fail HL.out KU.out]; rfl, K.out.1.trans (bq.mono K.out.1.size)⟩
      · have KU : Hid (noUp xs (i + 1) = true) := by unfold Hid; rw [U.out]; simp; omega
        have dq : decide (x ≤ y) = false := by simpa using hq
        clear hq U
        go_wp2_with fail
        refine wp_region_quiet_below (by kernel_rfl) (by kernel_rfl) ?_
        repeat (go_big_quiet_step (first | (go_at_call_of 151 (Value.agg #[.int .i64 a0, .int .i64 a1, .int .i64 a4, .int .i64 a2, .bool a3]); exact cA _ _) | (go_at_call_of 151 (Value.agg #[.int .i64 e0, .int .i64 e1, .int .i64 e4, .int .i64 e2, .bool e3]); exact cB _ _)))
        refine wpQuiet_nil ?_
        intro _ hw'
        obtain ⟨⟨dq', osq⟩, hw''⟩ := hw'
        subst hw''
        have bq := below_regrown wr dq' osq
        go_wp2
        exact ⟨⟨i + 1 + 1, .inl HL.out, by omega, by simp, K.out.1.trans (bq.mono K.out.1.size), alls_step K.out.2 KU.out⟩, by have := HL.out; simp [intOf]; omega⟩
    · have hd : decide ((j : Int) < (n : Int)) = false := by simp; omega
      have KA : Hid ((List.range n).all (noUp xs) = true) := by
        unfold Hid
        rw [List.all_eq_true] at hall ⊢
        exact fun x hx => hall x (List.mem_range.2 (by have := List.mem_range.1 hx; omega))
      clear hs hall
      go_wp2
      go_ret
      exact ⟨by rw [KA.out]; rfl, hbl⟩
theorem noAt_all {xs : List N5} : (List.range xs.length).all (noAt xs) = ((List.range xs.length).all (fun i => noteOkB (atNo xs i)) && (List.range xs.length).all (noUp xs)) := by
  rw [Bool.eq_iff_iff, Bool.and_eq_true, List.all_eq_true, List.all_eq_true, List.all_eq_true]
  constructor
  · intro h
    have h1 : ∀ i, i < xs.length → noteOkB (atNo xs i) = true := fun i hi => by
      have := h i (List.mem_range.2 hi)
      simp only [noAt, Bool.and_eq_true] at this
      exact this.1
    refine ⟨fun i hi => h1 i (List.mem_range.1 hi), fun i hi => ?_⟩
    have hi' := List.mem_range.1 hi
    have := h i hi
    simp only [noAt, Bool.and_eq_true, Bool.or_eq_true, decide_eq_true_eq] at this
    simp only [noUp, Bool.or_eq_true, decide_eq_true_eq]
    by_cases e : i = 0
    · exact .inl e
    · rcases this.2 with e' | e'
      · exact .inl e'
      · rw [less_rk (noOk_in (h1 (i - 1) (by omega))).2 (noOk_in (h1 i hi')).2] at e'
        exact .inr (by simpa using e')
  · rintro ⟨h1, h2⟩ i hi
    have hi' := List.mem_range.1 hi
    have g1 := h1 i hi
    have g2 := h2 i hi
    simp only [noUp, Bool.or_eq_true, decide_eq_true_eq] at g2
    simp only [noAt, Bool.and_eq_true, Bool.or_eq_true, decide_eq_true_eq]
    refine ⟨g1, ?_⟩
    by_cases e : i = 0
    · exact .inl e
    · rcases g2 with e' | e'
      · exact .inl e'
      · refine .inr ?_
        rw [less_rk (noOk_in (h1 (i - 1) (List.mem_range.2 (by omega)))).2 (noOk_in g1).2]
        simpa using e'
set_option maxHeartbeats 2000000 in
theorem noEach_any (w : World) (a : Option Addr) (cap : Nat) (xs : List N5) (hn : xs.length ≤ maxLen) (hs : SlNo w w.heap.size a xs.length xs) :
    Calls Tryz.prog 105 #[.slice a xs.length cap, .func (.func 106) #[] #[]] w fun e w' => e = .returned (.bool (decide (xs.length ≤ 12) && (List.range xs.length).all (noAt xs))) ∧ Below w.heap.size w w' := by
  obtain ⟨W, hW⟩ : ∃ W, W = w.alloc (.cells #[.func (.func 106) #[] #[]] 134) := ⟨_, rfl⟩
  have b0 : Below w.heap.size w W := by rw [hW]; exact (Below.refl _ _).alloc (Nat.le_refl _) _
  have g0 : W.cell? ⟨w.heap.size, 0, none⟩ = some (.func (.func 106) #[] #[]) := by rw [hW]; go_simp
  have s0 : w.heap.size < W.heap.size := by rw [hW]; simp
  have c1 := noHas W a cap xs w.heap.size hn (hs.later b0) g0 s0
  have H : Hid (SlNo w w.heap.size a xs.length xs ∧ xs.length ≤ maxLen ∧ Below w.heap.size w W) := ⟨hs, hn, b0⟩
  have HA := hidOf (@noAt_all xs)
  clear hs b0 g0 s0
  unfold maxLen at hn
  by_cases h12 : xs.length ≤ 12
  case neg =>
    have d12 : decide ((xs.length : Int) ≤ 12) = false := by simp; omega
    have KN : Hid (decide (xs.length ≤ 12) = false) := by unfold Hid; simp; omega
    rw [hW] at H
    clear c1 hW h12
    go_enter Tryz.func105, Tryz.ntmps105
    go_wp2
    go_ret
    exact ⟨by rw [KN.out]; rfl, H.out.2.2⟩
  have d12 : decide ((xs.length : Int) ≤ 12) = true := by simp; omega
  have KN : Hid (decide (xs.length ≤ 12) = true) := by unfold Hid; simp; omega
  cases hal : (List.range xs.length).all (fun i => noteOkB (atNo xs i)) with
  | false =>
    rw [hal] at c1
    clear h12
    go_enter Tryz.func105, Tryz.ntmps105
    go_wp2_with fail
    rw [← hW]
    clear hW
    refine c1.mono ?_
    clear c1
    rintro e w1 ⟨rfl, b1⟩
    go_wp2
    go_ret
    exact ⟨by rw [KN.out, HA.out, hal]; rfl, H.out.2.2.trans (b1.mono H.out.2.2.size)⟩
  | true =>
    rw [hal] at c1
    have HO : Hid (∀ i, i < xs.length → noteOkB (atNo xs i) = true) := fun i hi => List.all_eq_true.1 hal i (List.mem_range.2 hi)
    clear h12
    go_enter Tryz.func105, Tryz.ntmps105
    go_wp2_with fail
    rw [← hW]
    clear hW
    refine c1.mono ?_
    clear c1
    rintro e w1 ⟨rfl, b1⟩
    have bw : Below w.heap.size w w1 := H.out.2.2.trans (b1.mono H.out.2.2.size)
    have c2 := noRises_any w1 a cap xs H.out.2.1 (H.out.1.later bw) HO.out
    have KB : Hid (Below w.heap.size w w1) := bw
    clear b1 bw
    go_wp2_with fail
    refine c2.mono ?_
    clear c2
    rintro e w2 ⟨rfl, b2⟩
    go_wp2
    go_ret
    exact ⟨by rw [KN.out, HA.out, hal]; rfl, KB.out.trans (b2.mono KB.out.size)⟩
theorem seOk_in {s : S5} (h : setOkB s = true) : inB 0 5 s.region = true ∧ inB 0 5 s.slot = true := by simp only [setOkB, Bool.and_eq_true] at h; exact ⟨h.1.1.1, h.1.1.2⟩
set_option maxHeartbeats 1000000 in
theorem seWrong_any (w : World) (s : S5) (g : Nat) (hg : w.cell? ⟨g, 0, none⟩ = some (.func (.func 108) #[] #[])) (hl : g < w.heap.size) : Calls Tryz.prog 156 #[.agg #[.int .i64 s.region, .int .i64 s.slot, .int .i64 s.value, .bool s.used, .int .i64 s.version], .pointer (some ⟨g, 0, none⟩)] w fun e w' => e = .returned (.bool (!setOkB s)) ∧ Below w.heap.size w w' := by
  obtain ⟨W, hW⟩ : ∃ W, W = w.alloc (.cells #[.int .i64 s.region, .int .i64 s.slot, .int .i64 s.value, .bool s.used, .int .i64 s.version] 93) := ⟨_, rfl⟩
  have b0 : Below w.heap.size w W := by rw [hW]; exact (Below.refl _ _).alloc (Nat.le_refl _) _
  have d := (b0.cell (p := ⟨g, 0, none⟩) hl).trans hg
  have c1 := implSetOk W s
  have KB : Hid (Below w.heap.size w W) := b0
  clear hg hl b0
  rw [hW] at d
  go_enter Tryz.func156, Tryz.ntmps156
  go_wp2_with fail
  rw [← hW]
  refine c1.mono ?_
  clear c1 hW d
  rintro e w1 ⟨rfl, b1⟩
  go_wp2
  go_ret
  exact ⟨rfl, KB.out.trans (b1.mono KB.out.size)⟩
set_option maxHeartbeats 2000000 in
theorem seIdx (w : World) (a : Option Addr) (cap : Nat) (xs : List S5) (g : Nat) (hn : xs.length ≤ maxLen) (hs : Sl w w.heap.size a xs.length xs) (hg : w.cell? ⟨g, 0, none⟩ = some (.func (.func 108) #[] #[])) (hgl : g < w.heap.size) :
    Calls Tryz.prog 185 #[.slice a xs.length cap, .func (.func 156) #[] #[.pointer (some ⟨g, 0, none⟩)]] w fun e w' => (∃ i : Int, e = .returned (.int .i64 i) ∧ FirstAt (fun i => !setOkB (atSe xs i)) xs.length i) ∧ Below w.heap.size w w' := by
  unfold maxLen at hn
  obtain ⟨hx, hs⟩ := hs
  clear hx
  obtain ⟨f, hf⟩ : ∃ f : Nat → Bool, f = fun i => !setOkB (atSe xs i) := ⟨_, rfl⟩
  have HF : Hid (∀ (X : World) (i : Nat), Below w.heap.size w X → Calls Tryz.prog 156 #[.agg #[.int .i64 (atSe xs i).region, .int .i64 (atSe xs i).slot, .int .i64 (atSe xs i).value, .bool (atSe xs i).used, .int .i64 (atSe xs i).version], .pointer (some ⟨g, 0, none⟩)] X fun e w' => e = .returned (.bool (f i)) ∧ Below X.heap.size X w') := fun X i hX => by
    rw [hf]; exact seWrong_any X (atSe xs i) g ((hX.cell (p := ⟨g, 0, none⟩) hgl).trans hg) (Nat.lt_of_lt_of_le hgl hX.size)
  rw [← hf]
  clear hf hg
  obtain ⟨n, hN⟩ : ∃ n, n = xs.length := ⟨_, rfl⟩
  rw [← hN] at hn hs ⊢
  have HN : Hid (n = xs.length) := hN
  clear hN
  go_enter Tryz.func185, Tryz.ntmps185
  go_wp2
  go_loopw [8] (fun v wr => ∃ j : Nat, j ≤ n ∧ v = .int .i64 j ∧ Below w.heap.size w wr ∧ ∀ i, i < j → f i = false) (fun v _ => n - (intOf v).toNat)
  case atStart => exact ⟨0, Nat.zero_le _, rfl, Below.refl _ _, fun i h => absurd h (by omega)⟩
  case round =>
    obtain ⟨j, hj, rfl, hbl, hall⟩ := hrel
    by_cases hlt : j < n
    · rcases hs with hs | ⟨b, off, rfl, hb, h1⟩
      · omega
      · obtain ⟨c0, c1, c2, c3, c4⟩ := (h1.below hbl hb) j _ (atSe_of (by rw [← HN.out]; exact hlt))
        have KA : Hid ((∀ i, i < j → f i = false) ∧ Below w.heap.size w wr) := ⟨hall, hbl⟩
        have hw := HF.out wr j hbl
        clear h1 hall hbl
        cases hp : f j with
        | true =>
          rw [hp] at hw
          go_wp2_with fail
          refine hw.mono ?_
          clear hw
          rintro e w1 ⟨rfl, b1⟩
          go_wp2
          go_ret
          exact ⟨⟨_, rfl, .inr ⟨j, rfl, hlt, hp, KA.out.1⟩⟩, KA.out.2.trans (b1.mono KA.out.2.size)⟩
        | false =>
          rw [hp] at hw
          go_wp2_with fail
          refine hw.mono ?_
          clear hw
          rintro e w1 ⟨rfl, b1⟩
          go_wp2
          exact ⟨⟨j + 1, by omega, by simp, KA.out.2.trans (b1.mono KA.out.2.size), fun i hi => by
            by_cases e : i = j
            · rw [e]; exact hp
            · exact KA.out.1 i (by omega)⟩, by simp [intOf]; omega⟩
    · have : j = n := by omega
      subst this
      have hd : decide ((j : Int) < (j : Int)) = false := by simp
      have KA : Hid (∀ i, i < j → f i = false) := hall
      clear hs hall
      go_wp2
      go_ret
      exact ⟨⟨_, rfl, .inl ⟨rfl, KA.out⟩⟩, hbl⟩
set_option maxHeartbeats 1000000 in
theorem seHas (w : World) (a : Option Addr) (cap : Nat) (xs : List S5) (g : Nat) (hn : xs.length ≤ maxLen) (hs : Sl w w.heap.size a xs.length xs) (hg : w.cell? ⟨g, 0, none⟩ = some (.func (.func 108) #[] #[])) (hgl : g < w.heap.size) :
    Calls Tryz.prog 157 #[.slice a xs.length cap, .func (.func 156) #[] #[.pointer (some ⟨g, 0, none⟩)]] w fun e w' => e = .returned (.bool (!((List.range xs.length).all fun i => setOkB (atSe xs i)))) ∧ Below w.heap.size w w' := by
  have c1 := seIdx w a cap xs g hn hs hg hgl
  have HE : Hid (∀ i : Int, FirstAt (fun i => !setOkB (atSe xs i)) xs.length i → decide (0 ≤ i) = !((List.range xs.length).all fun i => setOkB (atSe xs i))) := fun i h => by
    rw [first_has h]; simp
  clear hn hs hg hgl
  go_enter Tryz.func157, Tryz.ntmps157
  go_wp2_with fail
  refine c1.mono ?_
  clear c1
  rintro e w1 ⟨⟨i, rfl, hi⟩, b1⟩
  have KE : Hid (decide (0 ≤ i) = !((List.range xs.length).all fun i => setOkB (atSe xs i))) := HE.out i hi
  clear hi HE
  go_wp2
  go_ret
  exact ⟨by rw [← KE.out]; rfl, b1⟩
def seUp (xs : List S5) (i : Nat) : Bool := decide (i = 0) || decide (rk (atSe xs (i - 1)).region (atSe xs (i - 1)).slot < rk (atSe xs i).region (atSe xs i).slot)
set_option maxHeartbeats 4000000 in
theorem seRises_any (w : World) (a : Option Addr) (cap : Nat) (xs : List S5) (hn : xs.length ≤ maxLen) (hs : Sl w w.heap.size a xs.length xs) (hok : ∀ i, i < xs.length → setOkB (atSe xs i) = true) :
    Calls Tryz.prog 158 #[.slice a xs.length cap, .func (.func 159) #[] #[]] w fun e w' => e = .returned (.bool ((List.range xs.length).all (seUp xs))) ∧ Below w.heap.size w w' := by
  unfold maxLen at hn
  obtain ⟨_, hs⟩ := hs
  have HO := hidOf hok
  clear hok
  obtain ⟨n, hN⟩ : ∃ n, n = xs.length := ⟨_, rfl⟩
  have HN : Hid (n = xs.length) := hN
  rw [← hN] at hn hs ⊢
  clear hN
  go_enter Tryz.func158, Tryz.ntmps158
  go_wp2
  go_loopw [5] (fun v wr => ∃ j : Nat, (j ≤ n ∨ n = 0 ∧ j = 1) ∧ 0 < j ∧ v = .int .i64 j ∧ Below w.heap.size w wr ∧ (List.range j).all (seUp xs) = true) (fun v _ => n - (intOf v).toNat)
  case atStart => exact ⟨1, by omega, by omega, rfl, Below.refl _ _, by simp [seUp]⟩
  case round =>
    obtain ⟨j, hj, hj0, rfl, hbl, hall⟩ := hrel
    by_cases hlt : j < n
    · rcases hs with hs | ⟨b, off, rfl, hb, h1⟩
      · omega
      obtain ⟨i, rfl⟩ : ∃ i, j = i + 1 := ⟨j - 1, by omega⟩
      obtain ⟨t0, t1, t2, t3, t4⟩ := (h1.below hbl hb) (i + 1) _ (atSe_of (by rw [← HN.out]; exact hlt))
      obtain ⟨u0, u1, u2, u3, u4⟩ := (h1.below hbl hb) i _ (atSe_of (by rw [← HN.out]; omega))
      have hbW : b < wr.heap.size := Nat.lt_of_lt_of_le hb hbl.size
      have lift : ∀ {o : Nat} {u : Value}, wr.cell? ⟨b, o, none⟩ = some u → ∀ d os, (grow (redrawn wr d) os).cell? ⟨b, o, none⟩ = some u := fun {o u} h d os => ((below_regrown wr d os).cell (p := ⟨b, o, none⟩) hbW).trans h
      have x0 := lift t0
      have x1 := lift t1
      have x2 := lift t2
      have x3 := lift t3
      have x4 := lift t4
      have y0 := lift u0
      have y1 := lift u1
      have y2 := lift u2
      have y3 := lift u3
      have y4 := lift u4
      have k1 := seOk_in (HO.out (i + 1) (by rw [← HN.out]; exact hlt))
      have k2 := seOk_in (HO.out i (by rw [← HN.out]; omega))
      have cA : ∀ d os, Calls Tryz.prog 159 #[.agg #[.int .i64 (atSe xs (i + 1)).region, .int .i64 (atSe xs (i + 1)).slot, .int .i64 (atSe xs (i + 1)).value, .bool (atSe xs (i + 1)).used, .int .i64 (atSe xs (i + 1)).version]] (grow (redrawn wr d) os) fun e w'' => e = .returned (.int .i64 (rk (atSe xs (i + 1)).region (atSe xs (i + 1)).slot)) ∧ ∃ p : Regrown, w'' = grow (redrawn wr p.d) p.os := fun d os => Calls.regrown_of (seRank_any _ _ k1.1 k1.2)
      have cB : ∀ d os, Calls Tryz.prog 159 #[.agg #[.int .i64 (atSe xs i).region, .int .i64 (atSe xs i).slot, .int .i64 (atSe xs i).value, .bool (atSe xs i).used, .int .i64 (atSe xs i).version]] (grow (redrawn wr d) os) fun e w'' => e = .returned (.int .i64 (rk (atSe xs i).region (atSe xs i).slot)) ∧ ∃ p : Regrown, w'' = grow (redrawn wr p.d) p.os := fun d os => Calls.regrown_of (seRank_any _ _ k2.1 k2.2)
      have K : Hid (Below w.heap.size w wr ∧ (List.range (i + 1)).all (seUp xs) = true) := ⟨hbl, hall⟩
      have hi : (i : Int) < (n : Int) := by omega
      clear lift t0 t1 t2 t3 t4 u0 u1 u2 u3 u4 k1 k2 h1 hbl hall
      have U : Hid (seUp xs (i + 1) = decide (rk (atSe xs i).region (atSe xs i).slot < rk (atSe xs (i + 1)).region (atSe xs (i + 1)).slot)) := by unfold Hid; simp [seUp]
      have HL : Hid (i + 1 < n) := hlt
      have hi1 : ((i + 1 : Nat) : Int) < (n : Int) := by omega
      clear hlt
      generalize rk (atSe xs (i + 1)).region (atSe xs (i + 1)).slot = x at *
      generalize rk (atSe xs i).region (atSe xs i).slot = y at *
      generalize (atSe xs (i + 1)).region = a0 at *
      generalize (atSe xs (i + 1)).slot = a1 at *
      generalize (atSe xs (i + 1)).value = a2 at *
      generalize (atSe xs (i + 1)).used = a3 at *
      generalize (atSe xs (i + 1)).version = a4 at *
      generalize (atSe xs i).region = e0 at *
      generalize (atSe xs i).slot = e1 at *
      generalize (atSe xs i).value = e2 at *
      generalize (atSe xs i).used = e3 at *
      generalize (atSe xs i).version = e4 at *
      by_cases hq : x ≤ y
      · have KU : Hid (seUp xs (i + 1) = false) := by unfold Hid; rw [U.out]; simp; omega
        have dq : decide (x ≤ y) = true := by simpa using hq
        clear hq U
        go_wp2_with fail
        refine wp_region_quiet_below (by kernel_rfl) (by kernel_rfl) ?_
        repeat (go_big_quiet_step (first | (go_at_call_of 159 (Value.agg #[.int .i64 a0, .int .i64 a1, .int .i64 a2, .bool a3, .int .i64 a4]); exact cA _ _) | (go_at_call_of 159 (Value.agg #[.int .i64 e0, .int .i64 e1, .int .i64 e2, .bool e3, .int .i64 e4]); exact cB _ _)))
        refine wpQuiet_nil ?_
        intro _ hw'
        obtain ⟨⟨dq', osq⟩, hw''⟩ := hw'
        subst hw''
        have bq := below_regrown wr dq' osq
        go_wp2
        go_ret
        exact ⟨by rw [alls_fail HL.out KU.out]; rfl, K.out.1.trans (bq.mono K.out.1.size)⟩
      · have KU : Hid (seUp xs (i + 1) = true) := by unfold Hid; rw [U.out]; simp; omega
        have dq : decide (x ≤ y) = false := by simpa using hq
        clear hq U
        go_wp2_with fail
        refine wp_region_quiet_below (by kernel_rfl) (by kernel_rfl) ?_
        repeat (go_big_quiet_step (first | (go_at_call_of 159 (Value.agg #[.int .i64 a0, .int .i64 a1, .int .i64 a2, .bool a3, .int .i64 a4]); exact cA _ _) | (go_at_call_of 159 (Value.agg #[.int .i64 e0, .int .i64 e1, .int .i64 e2, .bool e3, .int .i64 e4]); exact cB _ _)))
        refine wpQuiet_nil ?_
        intro _ hw'
        obtain ⟨⟨dq', osq⟩, hw''⟩ := hw'
        subst hw''
        have bq := below_regrown wr dq' osq
        go_wp2
        exact ⟨⟨i + 1 + 1, .inl HL.out, by omega, by simp, K.out.1.trans (bq.mono K.out.1.size), alls_step K.out.2 KU.out⟩, by have := HL.out; simp [intOf]; omega⟩
    · have hd : decide ((j : Int) < (n : Int)) = false := by simp; omega
      have KA : Hid ((List.range n).all (seUp xs) = true) := by
        unfold Hid
        rw [List.all_eq_true] at hall ⊢
        exact fun x hx => hall x (List.mem_range.2 (by have := List.mem_range.1 hx; omega))
      clear hs hall
      go_wp2
      go_ret
      exact ⟨by rw [KA.out]; rfl, hbl⟩
theorem seAt_all {xs : List S5} : (List.range xs.length).all (seAt xs) = ((List.range xs.length).all (fun i => setOkB (atSe xs i)) && (List.range xs.length).all (seUp xs)) := by
  rw [Bool.eq_iff_iff, Bool.and_eq_true, List.all_eq_true, List.all_eq_true, List.all_eq_true]
  constructor
  · intro h
    have h1 : ∀ i, i < xs.length → setOkB (atSe xs i) = true := fun i hi => by
      have := h i (List.mem_range.2 hi)
      simp only [seAt, Bool.and_eq_true] at this
      exact this.1
    refine ⟨fun i hi => h1 i (List.mem_range.1 hi), fun i hi => ?_⟩
    have hi' := List.mem_range.1 hi
    have := h i hi
    simp only [seAt, Bool.and_eq_true, Bool.or_eq_true, decide_eq_true_eq] at this
    simp only [seUp, Bool.or_eq_true, decide_eq_true_eq]
    by_cases e : i = 0
    · exact .inl e
    · rcases this.2 with e' | e'
      · exact .inl e'
      · rw [less_rk (seOk_in (h1 (i - 1) (by omega))).2 (seOk_in (h1 i hi')).2] at e'
        exact .inr (by simpa using e')
  · rintro ⟨h1, h2⟩ i hi
    have hi' := List.mem_range.1 hi
    have g1 := h1 i hi
    have g2 := h2 i hi
    simp only [seUp, Bool.or_eq_true, decide_eq_true_eq] at g2
    simp only [seAt, Bool.and_eq_true, Bool.or_eq_true, decide_eq_true_eq]
    refine ⟨g1, ?_⟩
    by_cases e : i = 0
    · exact .inl e
    · rcases g2 with e' | e'
      · exact .inl e'
      · refine .inr ?_
        rw [less_rk (seOk_in (h1 (i - 1) (List.mem_range.2 (by omega)))).2 (seOk_in g1).2]
        simpa using e'
set_option maxHeartbeats 2000000 in
theorem seEach_any (w : World) (a : Option Addr) (cap : Nat) (xs : List S5) (hn : xs.length ≤ maxLen) (hs : Sl w w.heap.size a xs.length xs) :
    Calls Tryz.prog 107 #[.slice a xs.length cap, .func (.func 108) #[] #[]] w fun e w' => e = .returned (.bool (decide (xs.length ≤ 12) && (List.range xs.length).all (seAt xs))) ∧ Below w.heap.size w w' := by
  obtain ⟨W, hW⟩ : ∃ W, W = w.alloc (.cells #[.func (.func 108) #[] #[]] 136) := ⟨_, rfl⟩
  have b0 : Below w.heap.size w W := by rw [hW]; exact (Below.refl _ _).alloc (Nat.le_refl _) _
  have g0 : W.cell? ⟨w.heap.size, 0, none⟩ = some (.func (.func 108) #[] #[]) := by rw [hW]; go_simp
  have s0 : w.heap.size < W.heap.size := by rw [hW]; simp
  have c1 := seHas W a cap xs w.heap.size hn (hs.later b0) g0 s0
  have H : Hid (Sl w w.heap.size a xs.length xs ∧ xs.length ≤ maxLen ∧ Below w.heap.size w W) := ⟨hs, hn, b0⟩
  have HA := hidOf (@seAt_all xs)
  clear hs b0 g0 s0
  unfold maxLen at hn
  by_cases h12 : xs.length ≤ 12
  case neg =>
    have d12 : decide ((xs.length : Int) ≤ 12) = false := by simp; omega
    have KN : Hid (decide (xs.length ≤ 12) = false) := by unfold Hid; simp; omega
    rw [hW] at H
    clear c1 hW h12
    go_enter Tryz.func107, Tryz.ntmps107
    go_wp2
    go_ret
    exact ⟨by rw [KN.out]; rfl, H.out.2.2⟩
  have d12 : decide ((xs.length : Int) ≤ 12) = true := by simp; omega
  have KN : Hid (decide (xs.length ≤ 12) = true) := by unfold Hid; simp; omega
  cases hal : (List.range xs.length).all (fun i => setOkB (atSe xs i)) with
  | false =>
    rw [hal] at c1
    clear h12
    go_enter Tryz.func107, Tryz.ntmps107
    go_wp2_with fail
    rw [← hW]
    clear hW
    refine c1.mono ?_
    clear c1
    rintro e w1 ⟨rfl, b1⟩
    go_wp2
    go_ret
    exact ⟨by rw [KN.out, HA.out, hal]; rfl, H.out.2.2.trans (b1.mono H.out.2.2.size)⟩
  | true =>
    rw [hal] at c1
    have HO : Hid (∀ i, i < xs.length → setOkB (atSe xs i) = true) := fun i hi => List.all_eq_true.1 hal i (List.mem_range.2 hi)
    clear h12
    go_enter Tryz.func107, Tryz.ntmps107
    go_wp2_with fail
    rw [← hW]
    clear hW
    refine c1.mono ?_
    clear c1
    rintro e w1 ⟨rfl, b1⟩
    have bw : Below w.heap.size w w1 := H.out.2.2.trans (b1.mono H.out.2.2.size)
    have c2 := seRises_any w1 a cap xs H.out.2.1 (H.out.1.later bw) HO.out
    have KB : Hid (Below w.heap.size w w1) := bw
    clear b1 bw
    go_wp2_with fail
    refine c2.mono ?_
    clear c2
    rintro e w2 ⟨rfl, b2⟩
    go_wp2
    go_ret
    exact ⟨by rw [KN.out, HA.out, hal]; rfl, KB.out.trans (b2.mono KB.out.size)⟩
end Go.Proofs.YtphpcgmnljhimaaGreat.tx