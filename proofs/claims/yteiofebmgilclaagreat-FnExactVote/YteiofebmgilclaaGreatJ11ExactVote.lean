/- YSofD; YSofS; YPilM; YPilC; YPilN; HeapP; YLftN; YSnkN; YTakN; YInoN; YPutN; YPOfN; YPilS; YLftS; YSnkS; YTakS; YInoS; YPutS; YPOfS; YChkS; VoS; PlacesRg; PlacesIp; VoK; PlOwn; RemapA; VoA; RangeO; Vals; Living: joined. -/
import Derived.Test.YteiofebmgilclaaGreatRows
import Derived.Test.YteiofebmgilclaaGreatJ10ExactVote
import Derived.Test.YteiofebmgilclaaGreatJ8ExactVote
import Derived.WalkKit
import Derived.WalkSpells
import Derived.WalkLawsBesides
import Derived.Below
import Derived.Test.YteiofebmgilclaaGreatJ7ExactVote
import Derived.Maps.OwnSet
import Derived.Maps.Views
import Derived.DeepKeys4
import Derived.Deep.CutRange
import Derived.Lib.QuietBelow
import Derived.BigQuiet
import Derived.Deep.RegionWith
import Derived.LaidEql
import Derived.RowKitTokens
import Derived.Deep.Upon
import Derived.Test.YteiofebmgilclaaGreatJ5ExactVote
import Derived.Test.YteiofebmgilclaaGreatJ6ExactVote
import Derived.Test.YteiofebmgilclaaGreatJ0ExactVote
import Derived.Maps.AppendAt
import Derived.Laws.OwnMore
import Derived.Deep.AppendLies
import Derived.Test.YteiofebmgilclaaGreatJ9ExactVote
import Derived.RangeFuncNested
import Derived.RangeFuncBound
import Derived.RangeFuncCalls
import Derived.RangeFuncLeaves
import Derived.Shelf.Abstract
import Derived.Shelf.RegionOpen
import Derived.OwnWalkIn
import Derived.TacticsInMore
import Derived.LoopNIn
import Derived.LoopIn
import Derived.RegionIn
namespace Go.Proofs.YteiofebmgilclaaGreat.tx
open Go.RowKit
def SAns (w : World) (xs : List S5) (e : Ending) (w' : World) : Prop :=
  ∃ (a : Option Addr) (c : Nat) (PS : Nat → Prop), e = .returned (.slice a xs.length c) ∧ OwnSe w' PS a xs ∧ (∀ q, PS q → w.heap.size ≤ q ∧ q < w'.heap.size) ∧ Below w.heap.size w w'
theorem SAns.of {w w' : World} {base : Nat} {v : Value} {xs : List S5} (h : RowS w' base v xs) (hb : w.heap.size ≤ base) (b : Below w.heap.size w w') : SAns w xs (.returned v) w' := by
  obtain ⟨a, c, e, ho⟩ := h.form
  exact ⟨a, c, _, by rw [e], ho, fun q hq => ⟨Nat.le_trans hb (h.lt hq).1, (h.lt hq).2⟩, b⟩
theorem SAns.none {w w' : World} (b : Below w.heap.size w w') : SAns w [] (.returned (.slice Option.none 0 0)) w' := ⟨Option.none, 0, fun _ => False, rfl, .inl rfl, fun _ h => h.elim, b⟩
def ofR (g : Int) (xs : List S5) : List S5 := xs.filter fun s => decide (s.region = g)
theorem ofR_yes {g : Int} {xs : List S5} {k : Nat} {s : S5} (h : xs[k]? = some s) (hg : s.region = g) : ofR g (xs.take (k + 1)) = ofR g (xs.take k) ++ [s] := by
  rw [List.take_add_one, h, ofR, List.filter_append]; simp [hg, ofR]
theorem ofR_no {g : Int} {xs : List S5} {k : Nat} {s : S5} (h : xs[k]? = some s) (hg : ¬ s.region = g) : ofR g (xs.take (k + 1)) = ofR g (xs.take k) := by
  rw [List.take_add_one, h, ofR, List.filter_append]; simp [hg, ofR]
theorem ofR_len (g : Int) (xs : List S5) : (ofR g xs).length ≤ xs.length := List.length_filter_le _ _
theorem txB_lens {t : T7} (h : txB t = true) : t.reads.length ≤ 12 ∧ t.sets.length ≤ 12 := by
  simp only [txB, Bool.and_eq_true, decide_eq_true_eq] at h
  exact ⟨h.1.1.1.2, h.1.1.2⟩
def setsOfT (t : T7) (g : Int) : List S5 := if txB t = true then ofR g t.sets else []
set_option maxHeartbeats 4000000 in
theorem l7SetsOf_any (w : World) (v : TV) (t : T7) (g : Int) (hl : t.sets.length ≤ 1000) (hs : SlT w v t) :
    Calls Tryz.prog 17 #[v.val t, .int .i64 g] w (SAns w (ofR g t.sets)) := by
  obtain ⟨ar, cr, ah, ch⟩ := v
  simp only [TV.val]
  obtain ⟨W0, hW0⟩ : ∃ W, W = w.alloc (.cells #[.int .i64 t.id, .int .i64 t.home, .int .i64 t.phase, .int .i64 t.count, .slice ar t.reads.length cr, .slice ah t.sets.length ch, .int .i64 t.stamp] 48) := ⟨_, rfl⟩
  have b0 : Below w.heap.size w W0 := by rw [hW0]; exact (Below.refl _ _).alloc (Nat.le_refl _) _
  have x0 : BT W0 w.heap.size ⟨ar, cr, ah, ch⟩ t := by rw [hW0]; exact BT.box w ⟨ar, cr, ah, ch⟩ t _
  have z0 : W0.heap.size = w.heap.size + 1 := by rw [hW0]; simp
  obtain ⟨W, hW⟩ : ∃ W, W = W0.alloc (.cells #[] 92) := ⟨_, rfl⟩
  have b1 : Below W0.heap.size W0 W := by rw [hW]; exact (Below.refl _ _).alloc (Nat.le_refl _) _
  have r1 : RowS W (w.heap.size + 1) (.slice (some ⟨w.heap.size + 1, 0, none⟩) 0 0) [] := by rw [hW, ← z0]; exact RowS.made W0
  have H : Hid (SlT w ⟨ar, cr, ah, ch⟩ t ∧ BT W w.heap.size ⟨ar, cr, ah, ch⟩ t ∧ Below w.heap.size w W ∧ RowS W (w.heap.size + 1) (.slice (some ⟨w.heap.size + 1, 0, none⟩) 0 0) [] ∧ w.heap.size + 1 ≤ W.heap.size) := ⟨hs, x0.later b1, b0.trans (b1.mono b0.size), r1, by rw [← z0]; exact b1.size⟩
  clear hs b0 x0 z0 b1 r1
  rw [hW0] at hW
  clear hW0
  go_enter Tryz.func17, Tryz.ntmps17
  go_wp2
  rw [← hW]
  clear hW
  go_loopw [5, 6] (fun v5 v6 wr => ∃ k : Nat, k ≤ t.sets.length ∧ v6 = .int .i64 k ∧ RowS wr (w.heap.size + 1) v5 (ofR g (t.sets.take k)) ∧ Below (w.heap.size + 1) W wr) (fun _ v6 _ => t.sets.length - (intOf v6).toNat)
  case atStart => exact ⟨0, Nat.zero_le _, rfl, by simpa [ofR] using H.out.2.2.2.1, Below.refl _ _⟩
  case round =>
    obtain ⟨k, hk, rfl, hrow, hbl⟩ := hrel
    obtain ⟨h1, h2, h3, h4, h5⟩ := H.out
    have hsz := hbl.size
    have bw : Below w.heap.size w wr := h3.trans (hbl.mono (by omega))
    have p5 := (h2.of_block (hbl.block w.heap.size (by omega)) hbl.size).c5
    dsimp only at p5
    by_cases hlt : k < t.sets.length
    · obtain ⟨_, hsk⟩ := (h1.later bw).s
      dsimp only at hsk
      rcases hsk with hsk | ⟨b, off, rfl, hb, hx⟩
      · omega
      have hat := hx k _ (atSe_of hlt)
      obtain ⟨c0, c1, c2, c3, c4⟩ := hat
      by_cases hg : (atSe t.sets k).region = g
      · have dg : ((atSe t.sets k).region == g) = true := by simpa using hg
        obtain ⟨V, hV⟩ : ∃ V, V = wr.alloc (.cells #[.int .i64 (atSe t.sets k).region, .int .i64 (atSe t.sets k).slot, .int .i64 (atSe t.sets k).value, .bool (atSe t.sets k).used, .int .i64 (atSe t.sets k).version] 92) := ⟨_, rfl⟩
        have bV : Below wr.heap.size wr V := by rw [hV]; exact (Below.refl _ _).alloc (Nat.le_refl _) _
        have hone : SetsAt V wr.heap.size 0 [atSe t.sets k] := by rw [hV]; exact (SetAt.box wr _ _).one
        obtain ⟨v', Y, hr, hrow', hgr, hlies⟩ := pushSe (hrow.later bV) [atSe t.sets k] (by have := ofR_len g (t.sets.take k); rw [List.length_take] at this; simp; omega) 44 wr.heap.size 0 1 hone (by have := bV.size; omega)
        have KE : Hid (RowS Y (w.heap.size + 1) v' (ofR g (t.sets.take (k + 1))) ∧ Below (w.heap.size + 1) W Y) := by
          refine ⟨by rw [ofR_yes (atSe_of hlt) hg]; exact hrow', ?_⟩
          exact (hbl.trans (bV.mono (by omega))).grown hgr (by have := bV.size; omega) (fun q e => (hrow.lt e).1)
        rw [hV] at hr
        clear hV bV hone hrow' hgr hlies hrow hbl h1 h2 h3 h4 h5 bw hx hg
        simp only [List.length_cons, List.length_nil, Nat.zero_add] at hr
        go_wp2_with (at_builtin; refine append_known _ rfl (.tmp 23) (.tmp 29) 44 rfl _ _ _ _ rfl rfl hr ?_)
        exact ⟨⟨k + 1, by omega, by simp, KE.out.1, KE.out.2⟩, by simp [intOf]; omega⟩
      · have dg : ((atSe t.sets k).region == g) = false := by simpa using hg
        have KE : Hid (RowS wr (w.heap.size + 1) u5 (ofR g (t.sets.take (k + 1))) ∧ Below (w.heap.size + 1) W wr) := ⟨by rw [ofR_no (atSe_of hlt) hg]; exact hrow, hbl⟩
        clear hrow hbl h1 h2 h3 h4 h5 bw hx hg
        go_wp2
        exact ⟨⟨k + 1, by omega, by simp, KE.out.1, KE.out.2⟩, by simp [intOf]; omega⟩
    · obtain rfl : k = t.sets.length := by omega
      have hd : decide ((t.sets.length : Int) < (t.sets.length : Int)) = false := by simp
      rw [List.take_length] at hrow
      have KE : Hid (RowS wr (w.heap.size + 1) u5 (ofR g t.sets) ∧ Below w.heap.size w wr) := ⟨hrow, bw⟩
      clear hrow hbl h1 h2 h3 h4 h5 bw
      go_wp2
      go_ret
      exact SAns.of KE.out.1 (by omega) KE.out.2
end Go.Proofs.YteiofebmgilclaaGreat.tx
namespace Go.Proofs.YteiofebmgilclaaGreat.tx
open Go.RowKit Go.Maps
def cKey (r s : Int) : Value := .agg #[.int .i64 r, .int .i64 s]
theorem keyLaw : Keyed Tryz.prog 166 := Keyed.of_law (deep_law_laid (m := 5) (by kernel_rfl) (by omega) (of_decide_eq_true (by kernel_rfl)) (by kernel_rfl) (by kernel_rfl))
theorem lit_ok {i : Nat} (hi : i ≤ 1000000) : (Lit.int .i64 (i : Int)).wf = true := by
  have h1 : IntKind.i64.min = -9223372036854775808 := rfl
  have h2 : IntKind.i64.max = 9223372036854775807 := rfl
  simp [Lit.wf, h1, h2]; omega
theorem six {r : Int} (h : inB 0 5 r = true) : r = 0 ∨ r = 1 ∨ r = 2 ∨ r = 3 ∨ r = 4 ∨ r = 5 := by
  rw [inB_iff] at h; omega
set_option maxHeartbeats 2000000 in
theorem cKey_ok {r s : Int} (h1 : inB 0 5 r = true) (h2 : inB 0 5 s = true) : ∃ l, keyOf Tryz.prog 166 (cKey r s) = some l := by
  have : (keyOf Tryz.prog 166 (cKey r s)).isSome = true := by
    rcases six h1 with rfl | rfl | rfl | rfl | rfl | rfl <;> rcases six h2 with rfl | rfl | rfl | rfl | rfl | rfl <;> kernel_rfl
  exact Option.isSome_iff_exists.1 this
theorem cKey_inj {r s q t : Int} {l : Lit} (h1 : keyOf Tryz.prog 166 (cKey r s) = some l) (h2 : keyOf Tryz.prog 166 (cKey q t) = some l) : r = q ∧ s = t := by
  have := keyLaw.inj h1 h2
  simp [cKey] at this
  exact this
def MapF (W : World) (b n : Nat) (f : Int → Int → Option Nat) : Prop :=
  ∃ D : DataW Unit, W.ownsMap Tryz.prog 166 (plainElem Tryz.prog 3) b n D ∧ ∀ r s l, keyOf Tryz.prog 166 (cKey r s) = some l → (f r s = none → has D l = false) ∧ (∀ i, f r s = some i → has D l = true ∧ ∀ z, D.atKey l z = .lit (.int .i64 (i : Int)))
theorem MapF.lt {W : World} {b n : Nat} {f : Int → Int → Option Nat} (h : MapF W b n f) : b < W.heap.size := by obtain ⟨D, h, _⟩ := h; exact h.lt
theorem MapF.mono {W : World} {b n n' : Nat} {f : Int → Int → Option Nat} (h : MapF W b n f) (hn : n ≤ n') : MapF W b n' f := by obtain ⟨D, h, h'⟩ := h; exact ⟨D, h.mono hn, h'⟩
theorem MapF.of_block {W W' : World} {b n : Nat} {f : Int → Int → Option Nat} (h : MapF W b n f) (e : W'.heap[b]? = W.heap[b]?) : MapF W' b n f := by
  obtain ⟨D, ⟨es, clock, hb, r⟩, h'⟩ := h
  exact ⟨D, ⟨es, clock, e.trans hb, r⟩, h'⟩
theorem MapF.later {W W' : World} {b n : Nat} {f : Int → Int → Option Nat} (h : MapF W b n f) (hb : Below W.heap.size W W') : MapF W' b n f := h.of_block (hb.block _ h.lt)
theorem MapF.made (W : World) : MapF (W.alloc (.map #[] 0)) W.heap.size 0 (fun _ _ => none) :=
  ⟨.map [], World.ownsMap_made W _ _ _, fun r s l _ => ⟨fun _ => rfl, fun i h => by cases h⟩⟩
def putF (f : Int → Int → Option Nat) (r s : Int) (i : Nat) : Int → Int → Option Nat := fun q t => if q = r ∧ t = s then some i else f q t
theorem Turned.of_map {W W' : World} {b : Nat} (h : W.mapTurned W' b) : Turned b W W' := by
  have hg := h.grown
  exact ⟨hg.os, hg.tape, hg.output, hg.size, fun k hk hc => hg.block k hk (fun e => hc (Option.some.inj e))⟩
theorem MapF.store {W : World} {b n : Nat} {f : Int → Int → Option Nat} (h : MapF W b n f) (hn : n ≤ 1000000) {r s : Int} (h1 : inB 0 5 r = true) (h2 : inB 0 5 s = true) (i : Nat) (hi : i ≤ 1000000) :
    ∃ W', (Instr.mapUpdate 208 (.map (some b)) (cKey r s) (.int .i64 (i : Int))).run Tryz.prog W = .ok () W' ∧ MapF W' b (n + 1) (putF f r s i) ∧ Turned b W W' ∧ W'.heap.size = W.heap.size := by
  obtain ⟨D, hD, hf⟩ := h
  obtain ⟨l, hl⟩ := cKey_ok h1 h2
  have hwf : (Lit.int .i64 (i : Int)).wf = true := lit_ok hi
  obtain ⟨W', hrun, hD', ht⟩ := hD.store keyLaw Tryz.underlying208 (by unfold maxLen; omega) hl (plainElem_int Tryz.underlying3 hwf)
  refine ⟨W', hrun, ⟨_, hD', fun q t l' hl' => ?_⟩, Turned.of_map ht, ?_⟩
  · obtain ⟨g1, g2⟩ := hf q t l' hl'
    by_cases e : q = r ∧ t = s
    · obtain ⟨rfl, rfl⟩ := e
      rw [hl] at hl'
      obtain rfl := Option.some.inj hl'
      refine ⟨fun h => by simp [putF] at h, fun j hj => ?_⟩
      simp [putF] at hj
      subst hj
      exact ⟨has_put_same hD.isMap (keyLaw.key hl) _, fun z => atKey_put_same hD.isMap (keyLaw.key hl) _ z⟩
    · have hne : l' ≠ l := fun e' => e (by rw [e'] at hl'; exact cKey_inj hl' hl)
      have ep : putF f r s i q t = f q t := by unfold putF; rw [if_neg e]
      rw [ep]
      refine ⟨fun h => by rw [has_put_other hne]; exact g1 h, fun j hj => ?_⟩
      rw [has_put_other hne]
      exact ⟨(g2 j hj).1, fun z => by rw [atKey_put_other hne]; exact (g2 j hj).2 z⟩
  · obtain ⟨es, c, es', c', hb, rfl⟩ := ht
    simp [ChangeMaps.setBlock]
def MapN (W : World) (b n : Nat) : Prop := ∃ D : DataW Unit, W.ownsMap Tryz.prog 166 (plainElem Tryz.prog 3) b n D
theorem MapF.any {W : World} {b n : Nat} {f : Int → Int → Option Nat} (h : MapF W b n f) : MapN W b n := by obtain ⟨D, h, _⟩ := h; exact ⟨D, h⟩
theorem MapN.lt {W : World} {b n : Nat} (h : MapN W b n) : b < W.heap.size := by obtain ⟨D, h⟩ := h; exact h.lt
theorem MapN.mono {W : World} {b n n' : Nat} (h : MapN W b n) (hn : n ≤ n') : MapN W b n' := by obtain ⟨D, h⟩ := h; exact ⟨D, h.mono hn⟩
theorem MapN.of_block {W W' : World} {b n : Nat} (h : MapN W b n) (e : W'.heap[b]? = W.heap[b]?) : MapN W' b n := by
  obtain ⟨D, es, clock, hb, r⟩ := h
  exact ⟨D, es, clock, e.trans hb, r⟩
theorem MapN.later {W W' : World} {b n : Nat} (h : MapN W b n) (hb : Below W.heap.size W W') : MapN W' b n := h.of_block (hb.block _ h.lt)
theorem MapN.store {W : World} {b n : Nat} (h : MapN W b n) (hn : n ≤ 1000000) {r s : Int} (h1 : inB 0 5 r = true) (h2 : inB 0 5 s = true) (i : Nat) (hi : i ≤ 1000000) :
    ∃ W', (Instr.mapUpdate 208 (.map (some b)) (cKey r s) (.int .i64 (i : Int))).run Tryz.prog W = .ok () W' ∧ MapN W' b (n + 1) ∧ Turned b W W' ∧ W'.heap.size = W.heap.size := by
  obtain ⟨D, hD⟩ := h
  obtain ⟨l, hl⟩ := cKey_ok h1 h2
  have hwf : (Lit.int .i64 (i : Int)).wf = true := lit_ok hi
  obtain ⟨W', hrun, hD', ht⟩ := hD.store keyLaw Tryz.underlying208 (by unfold maxLen; omega) hl (plainElem_int Tryz.underlying3 hwf)
  refine ⟨W', hrun, ⟨_, hD'⟩, Turned.of_map ht, ?_⟩
  obtain ⟨es, c, es', c', hb, rfl⟩ := ht
  simp [ChangeMaps.setBlock]
theorem MapN.drop {W : World} {b n : Nat} (h : MapN W b n) {r s : Int} (h1 : inB 0 5 r = true) (h2 : inB 0 5 s = true) (ty : TypeId) :
    ∃ W', (Builtin.delete_ #[208, 166] ty #[.map (some b), cKey r s]).run Tryz.prog W = .ok (.tuple #[]) W' ∧ MapN W' b n ∧ Turned b W W' ∧ W'.heap.size = W.heap.size := by
  obtain ⟨D, hD⟩ := h
  obtain ⟨l, hl⟩ := cKey_ok h1 h2
  obtain ⟨W', hrun, hD', ht⟩ := hD.drop keyLaw Tryz.underlying208 hl ty
  refine ⟨W', hrun, ⟨_, hD'⟩, Turned.of_map ht, ?_⟩
  obtain ⟨es, c, es', c', hb, rfl⟩ := ht
  simp [ChangeMaps.setBlock]
end Go.Proofs.YteiofebmgilclaaGreat.tx
namespace Go.Proofs.YteiofebmgilclaaGreat.tx
open Go.RowKit
def OfP (p q mb : Nat) (x : Nat) : Prop := x = p ∨ x = q ∨ x = mb
structure Pin (W : World) (base p q mb n cap : Nat) (xs : List N5) : Prop where
  c0 : W.cell? ⟨p, 0, none⟩ = some (.slice (some ⟨q, 0, none⟩) xs.length cap)
  c1 : W.cell? ⟨p, 1, none⟩ = some (.map (some mb))
  fz : ∀ j, W.frozen? ⟨p, j, none⟩ = false
  at_ : NotesAt W q 0 xs
  rm : Room W q (xs.length * 5)
  cp : xs.length ≤ cap
  mp : MapN W mb n
  ok : ∀ s ∈ xs, noteOkB s = true
  pq : p ≠ q
  pm : p ≠ mb
  qm : q ≠ mb
  bp : base ≤ p
  bq : base ≤ q
  bm : base ≤ mb
  lp : p < W.heap.size
  lq : q < W.heap.size
theorem Pin.keep {W V : World} {base p q mb n cap : Nat} {xs : List N5} (h : Pin W base p q mb n cap xs) (hs : W.heap.size ≤ V.heap.size) (hk : ∀ x, OfP p q mb x → V.heap[x]? = W.heap[x]?) : Pin V base p q mb n cap xs :=
  ⟨(World.cell?_of_block (a := ⟨p, 0, none⟩) (hk p (.inl rfl))).trans h.c0, (World.cell?_of_block (a := ⟨p, 1, none⟩) (hk p (.inl rfl))).trans h.c1, fun j => (World.frozen?_of_block (a := ⟨p, j, none⟩) (hk p (.inl rfl))).trans (h.fz j), h.at_.of_block (hk q (.inr (.inl rfl))), h.rm.of_block (hk q (.inr (.inl rfl))), h.cp, h.mp.of_block (hk mb (.inr (.inr rfl))), h.ok, h.pq, h.pm, h.qm, h.bp, h.bq, h.bm, Nat.lt_of_lt_of_le h.lp hs, Nat.lt_of_lt_of_le h.lq hs⟩
theorem Pin.later {W V : World} {base p q mb n cap : Nat} {xs : List N5} (h : Pin W base p q mb n cap xs) (hb : Below W.heap.size W V) : Pin V base p q mb n cap xs := h.keep hb.size (fun x hx => hb.block x (by rcases hx with rfl | rfl | rfl; exact h.lp; exact h.lq; exact h.mp.lt))
theorem Pin.mono {W : World} {base p q mb n n' cap : Nat} {xs : List N5} (h : Pin W base p q mb n cap xs) (hn : n ≤ n') : Pin W base p q mb n' cap xs := ⟨h.c0, h.c1, h.fz, h.at_, h.rm, h.cp, h.mp.mono hn, h.ok, h.pq, h.pm, h.qm, h.bp, h.bq, h.bm, h.lp, h.lq⟩
end Go.Proofs.YteiofebmgilclaaGreat.tx
namespace Go.Proofs.YteiofebmgilclaaGreat
namespace HeapP
def swF {α : Type} (k : Nat → α) (a b : Nat) : Nat → α := fun i => if i = a then k b else if i = b then k a else k i
def Hp (k : Nat → Int) (n : Nat) : Prop := ∀ i, 0 < i → i < n → k ((i - 1) / 2) ≤ k i
def HpUp (k : Nat → Int) (n c : Nat) : Prop := (∀ i, 0 < i → i < n → i ≠ c → k ((i - 1) / 2) ≤ k i) ∧ (∀ i, 0 < i → i < n → (i - 1) / 2 = c → 0 < c → k ((c - 1) / 2) ≤ k i)
def HpDn (k : Nat → Int) (n c : Nat) : Prop := (∀ i, 0 < i → i < n → (i - 1) / 2 ≠ c → k ((i - 1) / 2) ≤ k i) ∧ (∀ i, 0 < i → i < n → (i - 1) / 2 = c → 0 < c → k ((c - 1) / 2) ≤ k i)
theorem HpUp.done {k : Nat → Int} {n c : Nat} (h : HpUp k n c) (hc : c = 0 ∨ k ((c - 1) / 2) ≤ k c) : Hp k n := fun i h0 hn => by
  by_cases e : i = c
  · subst e; rcases hc with hc | hc
    · omega
    · exact hc
  · exact h.1 i h0 hn e
theorem HpUp.step {k : Nat → Int} {n c : Nat} (h : HpUp k n c) (h0 : 0 < c) (hn : c < n) (hl : k c < k ((c - 1) / 2)) : HpUp (swF k c ((c - 1) / 2)) n ((c - 1) / 2) := by
  obtain ⟨h1, h2⟩ := h
  refine ⟨fun i i0 hi hne => ?_, fun i i0 hi hp hpc => ?_⟩
  · unfold swF
    by_cases e1 : i = c
    · subst e1
      simp [show ¬ (i - 1) / 2 = i by omega]; omega
    · by_cases e2 : (i - 1) / 2 = c
      · simp [e1, hne, e2]; exact h2 i i0 hi e2 h0
      · by_cases e3 : (i - 1) / 2 = (c - 1) / 2
        · simp [e1, hne, e3, show ¬ (c - 1) / 2 = c by omega]
          have := h1 i i0 hi e1
          rw [e3] at this
          omega
        · simp [e1, hne, e2, e3]
          exact h1 i i0 hi e1
  · unfold swF
    have hq := h1 ((c - 1) / 2) (by omega) (by omega) (by omega)
    by_cases e1 : i = c
    · subst e1
      simp [show ¬ ((i - 1) / 2 - 1) / 2 = i by omega, show ¬ ((i - 1) / 2 - 1) / 2 = (i - 1) / 2 by omega]
      exact hq
    · have hi' := h1 i i0 hi e1
      rw [hp] at hi'
      simp [e1, show ¬ i = (c - 1) / 2 by omega, show ¬ ((c - 1) / 2 - 1) / 2 = c by omega, show ¬ ((c - 1) / 2 - 1) / 2 = (c - 1) / 2 by omega]
      omega
theorem HpDn.done {k : Nat → Int} {n c : Nat} (h : HpDn k n c) (h1 : 2 * c + 1 < n → k c ≤ k (2 * c + 1)) (h2 : 2 * c + 2 < n → k c ≤ k (2 * c + 2)) : Hp k n := fun i h0 hn => by
  by_cases e : (i - 1) / 2 = c
  · rw [e]
    rcases (show i = 2 * c + 1 ∨ i = 2 * c + 2 by omega) with rfl | rfl
    · exact h1 hn
    · exact h2 hn
  · exact h.1 i h0 hn e
theorem HpDn.step {k : Nat → Int} {n c l : Nat} (h : HpDn k n c) (hl : l = 2 * c + 1 ∨ l = 2 * c + 2) (hn : l < n) (hlt : k l < k c) (h1 : 2 * c + 1 < n → k l ≤ k (2 * c + 1)) (h2 : 2 * c + 2 < n → k l ≤ k (2 * c + 2)) : HpDn (swF k c l) n l := by
  obtain ⟨g1, g2⟩ := h
  have hpl : (l - 1) / 2 = c := by omega
  refine ⟨fun i i0 hi hne => ?_, fun i i0 hi hp _ => ?_⟩
  · unfold swF
    by_cases e0 : i = c
    · subst e0
      simp [show ¬ (i - 1) / 2 = i by omega, hne]
      exact g2 l (by omega) hn hpl i0
    · by_cases e1 : (i - 1) / 2 = c
      · simp only [e1, e0, if_true, if_false]
        by_cases e2 : i = l
        · simp [e2]; omega
        · simp [e2]
          rcases (show i = 2 * c + 1 ∨ i = 2 * c + 2 by omega) with rfl | rfl
          · exact h1 hi
          · exact h2 hi
      · have := g1 i i0 hi e1
        by_cases e2 : i = l
        · omega
        · simp [e0, e1, e2, hne]; exact this
  · unfold swF
    have := g1 i i0 hi (by omega)
    rw [hp] at this
    simp [hpl, show ¬ i = c by omega, show ¬ i = l by omega]
    exact this
theorem Hp.top {k : Nat → Int} {n : Nat} (h : Hp k n) : ∀ i, i < n → k 0 ≤ k i := by
  intro i
  induction i using Nat.strongRecOn with
  | ind i ih =>
    intro hi
    by_cases e : i = 0
    · subst e; exact Int.le_refl _
    · have := ih ((i - 1) / 2) (by omega) (by omega)
      have := h i (by omega) hi
      omega
end HeapP
namespace HeapP
def swL {α : Type} (xs : List α) (a b : Nat) (x y : α) : List α := (xs.set a y).set b x
theorem HpDn.congr {k k' : Nat → Int} {n : Nat} (h : HpDn k n 0) (e : ∀ i, i < n → k' i = k i) : HpDn k' n 0 :=
  ⟨fun i h0 hn hc => by rw [e i hn, e _ (by omega)]; exact h.1 i h0 hn hc, fun i _ _ _ h' => by omega⟩
end HeapP
end Go.Proofs.YteiofebmgilclaaGreat
namespace Go.Proofs.YteiofebmgilclaaGreat.tx
open Go.RowKit
open Go.Sort (grow)
def noK (xs : List N5) (i : Nat) : Int := rk (atNo xs i).region (atNo xs i).slot
end Go.Proofs.YteiofebmgilclaaGreat.tx
namespace Go.Proofs.YteiofebmgilclaaGreat.tx
open Go.RowKit
def noR (s : N5) : Int := rk s.region s.slot
def noLen : Value → Nat
  | .slice _ n _ => n
  | _ => 0
end Go.Proofs.YteiofebmgilclaaGreat.tx
namespace Go.Proofs.YteiofebmgilclaaGreat.tx
open Go.RowKit
open Go.Sort (grow)
def noW (xs : List N5) (r s : Int) : Option Nat := xs.findIdx? fun x => decide (x.region = r) && decide (x.slot = s)
structure PinB (W : World) (base p mb n : Nat) (v : Value) (xs : List N5) : Prop where
  c0 : W.cell? ⟨p, 0, none⟩ = some v
  c1 : W.cell? ⟨p, 1, none⟩ = some (.map (some mb))
  fz : ∀ j, W.frozen? ⟨p, j, none⟩ = false
  row : RowN W base v xs
  mp : MapF W mb n (noW xs)
  ok : ∀ s ∈ xs, noteOkB s = true
  vp : v.ownBlock ≠ some p
  vm : v.ownBlock ≠ some mb
  pm : p ≠ mb
  bp : base ≤ p
  bm : base ≤ mb
  lp : p < W.heap.size
theorem PinB.later {W V : World} {base p mb n : Nat} {v : Value} {xs : List N5} (h : PinB W base p mb n v xs) (hb : Below W.heap.size W V) : PinB V base p mb n v xs :=
  ⟨(hb.cell (p := ⟨p, 0, none⟩) h.lp).trans h.c0, (hb.cell (p := ⟨p, 1, none⟩) h.lp).trans h.c1, fun j => (hb.frozen (p := ⟨p, j, none⟩) h.lp).trans (h.fz j), h.row.later hb, h.mp.later hb, h.ok, h.vp, h.vm, h.pm, h.bp, h.bm, Nat.lt_of_lt_of_le h.lp hb.size⟩
def noUp2 (xs : List N5) : Prop := xs.Pairwise fun a b => noR a < noR b
end Go.Proofs.YteiofebmgilclaaGreat.tx
namespace Go.Proofs.YteiofebmgilclaaGreat.tx
open Go.RowKit
structure Pis (W : World) (base p q mb n cap : Nat) (xs : List S5) : Prop where
  c0 : W.cell? ⟨p, 0, none⟩ = some (.slice (some ⟨q, 0, none⟩) xs.length cap)
  c1 : W.cell? ⟨p, 1, none⟩ = some (.map (some mb))
  fz : ∀ j, W.frozen? ⟨p, j, none⟩ = false
  at_ : SetsAt W q 0 xs
  rm : Room W q (xs.length * 5)
  cp : xs.length ≤ cap
  mp : MapN W mb n
  ok : ∀ s ∈ xs, setOkB s = true
  pq : p ≠ q
  pm : p ≠ mb
  qm : q ≠ mb
  bp : base ≤ p
  bq : base ≤ q
  bm : base ≤ mb
  lp : p < W.heap.size
  lq : q < W.heap.size
theorem Pis.keep {W V : World} {base p q mb n cap : Nat} {xs : List S5} (h : Pis W base p q mb n cap xs) (hs : W.heap.size ≤ V.heap.size) (hk : ∀ x, OfP p q mb x → V.heap[x]? = W.heap[x]?) : Pis V base p q mb n cap xs :=
  ⟨(World.cell?_of_block (a := ⟨p, 0, none⟩) (hk p (.inl rfl))).trans h.c0, (World.cell?_of_block (a := ⟨p, 1, none⟩) (hk p (.inl rfl))).trans h.c1, fun j => (World.frozen?_of_block (a := ⟨p, j, none⟩) (hk p (.inl rfl))).trans (h.fz j), h.at_.of_block (hk q (.inr (.inl rfl))), h.rm.of_block (hk q (.inr (.inl rfl))), h.cp, h.mp.of_block (hk mb (.inr (.inr rfl))), h.ok, h.pq, h.pm, h.qm, h.bp, h.bq, h.bm, Nat.lt_of_lt_of_le h.lp hs, Nat.lt_of_lt_of_le h.lq hs⟩
theorem Pis.later {W V : World} {base p q mb n cap : Nat} {xs : List S5} (h : Pis W base p q mb n cap xs) (hb : Below W.heap.size W V) : Pis V base p q mb n cap xs := h.keep hb.size (fun x hx => hb.block x (by rcases hx with rfl | rfl | rfl; exact h.lp; exact h.lq; exact h.mp.lt))
theorem Pis.mono {W : World} {base p q mb n n' cap : Nat} {xs : List S5} (h : Pis W base p q mb n cap xs) (hn : n ≤ n') : Pis W base p q mb n' cap xs := ⟨h.c0, h.c1, h.fz, h.at_, h.rm, h.cp, h.mp.mono hn, h.ok, h.pq, h.pm, h.qm, h.bp, h.bq, h.bm, h.lp, h.lq⟩
end Go.Proofs.YteiofebmgilclaaGreat.tx
namespace Go.Proofs.YteiofebmgilclaaGreat.tx
open Go.RowKit
open Go.Sort (grow)
def seK (xs : List S5) (i : Nat) : Int := rk (atSe xs i).region (atSe xs i).slot
end Go.Proofs.YteiofebmgilclaaGreat.tx
namespace Go.Proofs.YteiofebmgilclaaGreat.tx
open Go.RowKit
def seR (s : S5) : Int := rk s.region s.slot
def seLen : Value → Nat
  | .slice _ n _ => n
  | _ => 0
end Go.Proofs.YteiofebmgilclaaGreat.tx
namespace Go.Proofs.YteiofebmgilclaaGreat.tx
open Go.RowKit
open Go.Sort (grow)
def seW (xs : List S5) (r s : Int) : Option Nat := xs.findIdx? fun x => decide (x.region = r) && decide (x.slot = s)
structure PisB (W : World) (base p mb n : Nat) (v : Value) (xs : List S5) : Prop where
  c0 : W.cell? ⟨p, 0, none⟩ = some v
  c1 : W.cell? ⟨p, 1, none⟩ = some (.map (some mb))
  fz : ∀ j, W.frozen? ⟨p, j, none⟩ = false
  row : RowS W base v xs
  mp : MapF W mb n (seW xs)
  ok : ∀ s ∈ xs, setOkB s = true
  vp : v.ownBlock ≠ some p
  vm : v.ownBlock ≠ some mb
  pm : p ≠ mb
  bp : base ≤ p
  bm : base ≤ mb
  lp : p < W.heap.size
theorem PisB.later {W V : World} {base p mb n : Nat} {v : Value} {xs : List S5} (h : PisB W base p mb n v xs) (hb : Below W.heap.size W V) : PisB V base p mb n v xs :=
  ⟨(hb.cell (p := ⟨p, 0, none⟩) h.lp).trans h.c0, (hb.cell (p := ⟨p, 1, none⟩) h.lp).trans h.c1, fun j => (hb.frozen (p := ⟨p, j, none⟩) h.lp).trans (h.fz j), h.row.later hb, h.mp.later hb, h.ok, h.vp, h.vm, h.pm, h.bp, h.bm, Nat.lt_of_lt_of_le h.lp hb.size⟩
def seUp2 (xs : List S5) : Prop := xs.Pairwise fun a b => seR a < seR b
theorem rise_all {f : Nat → Int} {n : Nat} (h : ∀ i, i + 1 < n → f i < f (i + 1)) {i j : Nat} (hij : i < j) (hj : j < n) : f i < f j := by
  induction j with
  | zero => omega
  | succ j ih =>
    by_cases e : i = j
    · subst e; exact h i hj
    · exact Int.lt_trans (ih (by omega) (by omega)) (h j hj)
theorem txB_se {t : T7} (h : txB t = true) : (∀ s ∈ t.sets, setOkB s = true) ∧ seUp2 t.sets := by
  simp only [txB, Bool.and_eq_true] at h
  have g := h.2
  rw [seAt_all, Bool.and_eq_true, List.all_eq_true, List.all_eq_true] at g
  refine ⟨fun s hs => ?_, ?_⟩
  · obtain ⟨i, hi, rfl⟩ := List.getElem_of_mem hs
    have := g.1 i (List.mem_range.2 hi)
    rwa [show atSe t.sets i = t.sets[i] from by have := atSe_of hi; rw [List.getElem?_eq_getElem hi] at this; exact (Option.some.inj this).symm] at this
  · refine List.pairwise_iff_getElem.2 fun i j hi hj hij => ?_
    have := rise_all (f := fun i => seR (atSe t.sets i)) (n := t.sets.length) (fun i hi => by
      have := g.2 (i + 1) (List.mem_range.2 hi)
      simp only [seUp, Nat.add_sub_cancel, Bool.or_eq_true, decide_eq_true_eq] at this
      rcases this with h | h
      · omega
      · exact h) hij hj
    have e : ∀ i (hi : i < t.sets.length), atSe t.sets i = t.sets[i] := fun i hi => by have := atSe_of hi; rw [List.getElem?_eq_getElem hi] at this; exact (Option.some.inj this).symm
    rwa [e i hi, e j hj] at this
def CAns (w : World) (xs : List N5) (e : Ending) (w' : World) : Prop :=
  ∃ (a : Option Addr) (c : Nat) (PS : Nat → Prop), e = .returned (.slice a xs.length c) ∧ OwnNo w' PS a xs ∧ (∀ q, PS q → w.heap.size ≤ q ∧ q < w'.heap.size) ∧ Below w.heap.size w w'
theorem CAns.of {w w' : World} {base : Nat} {v : Value} {xs : List N5} (h : RowN w' base v xs) (hb : w.heap.size ≤ base) (b : Below w.heap.size w w') : CAns w xs (.returned v) w' := by
  obtain ⟨a, c, e, ho⟩ := h.form
  exact ⟨a, c, _, by rw [e], ho, fun q hq => ⟨Nat.le_trans hb (h.lt hq).1, (h.lt hq).2⟩, b⟩
theorem CAns.none {w w' : World} (b : Below w.heap.size w w') : CAns w [] (.returned (.slice Option.none 0 0)) w' := ⟨Option.none, 0, fun _ => False, rfl, .inl rfl, fun _ h => h.elim, b⟩
def ofC (ss : List S5) (xs : List N5) : List N5 := xs.filter fun n => (seW ss n.region n.slot).isNone
def checksT (t : T7) : List N5 := if txB t = true then ofC t.sets t.reads else []
def setAt (xs : List S5) (r s : Int) : Int := match seW xs r s with | some i => (i : Int) | none => -1
end Go.Proofs.YteiofebmgilclaaGreat.tx
namespace Go.Proofs.YteiofebmgilclaaGreat
open Go.RowKit
open Go.Sort (grow)
def voteR (k : C6) (y g : Int) : Int := if clusterB k = true then (if atId k.txs y < k.txs.length then (if (tx.ofR g (atT k.txs (atId k.txs y)).sets).length = 0 then 0 else voteJ k y g (atP k.places g.toNat) (atP k.places g.toNat).length) else 0) else 0
theorem clu_set {k : C6} (h : clusterB k = true) {i : Nat} (hi : i < k.txs.length) {s : S5} (hs : s ∈ (atT k.txs i).sets) : 0 ≤ s.region ∧ s.region < (k.places.length : Int) := by
  have h1 := (clu_up h).2.1 i hi
  have h2 := (tx.txB_se h1).1 s hs
  simp only [clusterB, txsB, Bool.and_eq_true] at h
  have h3 := List.all_eq_true.1 h.2 i (List.mem_range.2 hi)
  simp only [txAtB, setsB, Bool.and_eq_true] at h3
  obtain ⟨j, hj, rfl⟩ := List.getElem_of_mem hs
  have h4 := List.all_eq_true.1 h3.2 j (List.mem_range.2 hj)
  simp only [tx.atSe, List.getElem?_eq_getElem hj, Option.getD_some, decide_eq_true_eq] at h4
  simp only [setOkB, Bool.and_eq_true, inB_iff] at h2
  exact ⟨h2.1.1.1.1, h4⟩
theorem clu_ofR {k : C6} (h : clusterB k = true) {i : Nat} (hi : i < k.txs.length) {g : Int} (hg : ¬ (tx.ofR g (atT k.txs i).sets).length = 0) : 0 ≤ g ∧ g < (k.places.length : Int) := by
  obtain ⟨s, hs⟩ := List.exists_mem_of_length_pos (Nat.pos_of_ne_zero hg)
  simp only [tx.ofR, List.mem_filter, decide_eq_true_eq] at hs
  have := clu_set h hi hs.1
  rw [hs.2] at this
  exact this
set_option maxRecDepth 100000 in
set_option maxHeartbeats 4000000 in
theorem specVote_any (w : World) (a1 : Option Addr) (c1 : Nat) (a2 : Option Addr) (c2 : Nat) (a3 : Option Addr) (c3 : Nat) (k : C6) (y g : Int) (hl : KCl.L k) (h : KCl.Rd w a1 c1 a2 c2 a3 c3 k) :
    Calls Tryz.prog 6 #[.agg #[.int .i64 k.config, .int .i64 k.clock, .slice a1 k.places.length c1, .slice a2 k.machines.length c2, .slice a3 k.txs.length c3, .bool k.lost], .int .i64 y, .int .i64 g] w fun e w' => e = .returned (.int .i64 (voteR k y g)) ∧ Below w.heap.size w w' := by
  obtain ⟨U, hU⟩ : ∃ Y, Y = w.alloc (.cells #[.int .i64 k.config, .int .i64 k.clock, .slice a1 k.places.length c1, .slice a2 k.machines.length c2, .slice a3 k.txs.length c3, .bool k.lost] 33) := ⟨_, rfl⟩
  have bU : Below w.heap.size w U := by rw [hU]; exact (Below.refl _ _).alloc (Nat.le_refl _) _
  have xU : Bx U w.heap.size [.int .i64 k.config, .int .i64 k.clock, .slice a1 k.places.length c1, .slice a2 k.machines.length c2, .slice a3 k.txs.length c3, .bool k.lost] := by rw [hU]; exact Bx.made w [.int .i64 k.config, .int .i64 k.clock, .slice a1 k.places.length c1, .slice a2 k.machines.length c2, .slice a3 k.txs.length c3, .bool k.lost] _
  have hf := l8Find_any U a1 c1 a2 c2 a3 c3 k y hl (h.later bU)
  have p0 := xU.1 0 _ rfl
  have p1 := xU.1 1 _ rfl
  have p2 := xU.1 2 _ rfl
  have p3 := xU.1 3 _ rfl
  have p4 := xU.1 4 _ rfl
  have p5 := xU.1 5 _ rfl
  have H : Hid (Below w.heap.size w U ∧ Bx U w.heap.size [.int .i64 k.config, .int .i64 k.clock, .slice a1 k.places.length c1, .slice a2 k.machines.length c2, .slice a3 k.txs.length c3, .bool k.lost] ∧ KCl.Rd U a1 c1 a2 c2 a3 c3 k ∧ KCl.L k) := ⟨bU, xU, h.later bU, hl⟩
  rw [hU] at p0 p1 p2 p3 p4 p5
  clear bU xU h hl
  go_enter Tryz.func6, Tryz.ntmps6
  go_wp2_with fail
  rw [← hU]
  clear hU p0 p1 p2 p3 p4 p5
  refine hf.mono ?_
  clear hf
  rintro e w1 ⟨⟨z, rfl, hfirst⟩, b1⟩
  have H1 : Hid (Below w.heap.size w w1 ∧ Bx w1 w.heap.size [.int .i64 k.config, .int .i64 k.clock, .slice a1 k.places.length c1, .slice a2 k.machines.length c2, .slice a3 k.txs.length c3, .bool k.lost] ∧ KCl.Rd w1 a1 c1 a2 c2 a3 c3 k) := ⟨bstep H.out.1 b1, H.out.2.1.later b1, H.out.2.2.1.later b1⟩
  have hc := specClusterOk_any w1 a1 c1 a2 c2 a3 c3 k H.out.2.2.2 H1.out.2.2
  have HF := hidOf (atId_first hfirst)
  have p0 := H1.out.2.1.1 0 _ rfl
  have p1 := H1.out.2.1.1 1 _ rfl
  have p2 := H1.out.2.1.1 2 _ rfl
  have p3 := H1.out.2.1.1 3 _ rfl
  have p4 := H1.out.2.1.1 4 _ rfl
  have p5 := H1.out.2.1.1 5 _ rfl
  clear b1 hfirst
  go_wp2_with fail
  refine hc.mono ?_
  clear hc p0 p1 p2 p3 p4 p5
  rintro e w2 ⟨rfl, b2⟩
  have H2 : Hid (Below w.heap.size w w2 ∧ Bx w2 w.heap.size [.int .i64 k.config, .int .i64 k.clock, .slice a1 k.places.length c1, .slice a2 k.machines.length c2, .slice a3 k.txs.length c3, .bool k.lost] ∧ KCl.Rd w2 a1 c1 a2 c2 a3 c3 k) := ⟨bstep H1.out.1 b2, H1.out.2.1.later b2, H1.out.2.2.later b2⟩
  clear b2 H1
  cases hk : clusterB k with
  | false =>
    have HV : Hid (voteR k y g = 0) := by unfold Hid; simp [voteR, hk]
    clear hk
    go_wp2
    go_ret
    exact ⟨by rw [HV.out]; rfl, H2.out.1⟩
  | true =>
    have HK := hidOf hk
    rcases HF.out with ⟨rfl, hat⟩ | ⟨i, rfl, hi, hat⟩
    · have HV : Hid (voteR k y g = 0) := by unfold Hid; simp [voteR, hk, hat]
      clear hk hat HF
      go_wp2
      go_ret
      exact ⟨by rw [HV.out]; rfl, H2.out.1⟩
    · have HV : Hid (voteR k y g = if (tx.ofR g (atT k.txs i).sets).length = 0 then 0 else voteJ k y g (atP k.places g.toNat) (atP k.places g.toNat).length) := by unfold Hid; simp [voteR, hk, hat, hi]
      rcases H2.out.2.2.t with e0 | ⟨b, off, rfl, hb, hrd⟩
      · rw [e0] at hi; simp at hi
      obtain ⟨⟨t0, t1, t2, t3⟩, hel, hsl⟩ := hrd i _ (atT_of hi)
      have hts := (CSm.of hk).ts _ (List.mem_of_getElem? (atT_of hi))
      have hso := tx.l7SetsOf_any w2 ⟨t0, t1, t2, t3⟩ (atT k.txs i) g (by omega) hsl
      simp only [tx.TV.val] at hso
      have g0 : w2.cell? ⟨b, off + i * 7, none⟩ = some (.int .i64 (atT k.txs i).id) := hel 0 _ rfl
      have g1 : w2.cell? ⟨b, off + i * 7 + 1, none⟩ = some (.int .i64 (atT k.txs i).home) := hel 1 _ rfl
      have g2 : w2.cell? ⟨b, off + i * 7 + 2, none⟩ = some (.int .i64 (atT k.txs i).phase) := hel 2 _ rfl
      have g3 : w2.cell? ⟨b, off + i * 7 + 3, none⟩ = some (.int .i64 (atT k.txs i).count) := hel 3 _ rfl
      have g4 : w2.cell? ⟨b, off + i * 7 + 4, none⟩ = some (.slice t0 (atT k.txs i).reads.length t1) := hel 4 _ rfl
      have g5 : w2.cell? ⟨b, off + i * 7 + 5, none⟩ = some (.slice t2 (atT k.txs i).sets.length t3) := hel 5 _ rfl
      have g6 : w2.cell? ⟨b, off + i * 7 + 6, none⟩ = some (.int .i64 (atT k.txs i).stamp) := hel 6 _ rfl
      have q4 := H2.out.2.1.1 4 _ rfl
      have jn : (i : Int) < (k.txs.length : Int) := by omega
      have dn : decide ((i : Int) < 0) = false := by simp
      clear hk hat hrd hel hsl hts hb HF
      go_wp2_with fail
      refine hso.mono ?_
      clear hso g0 g1 g2 g3 g4 g5 g6 q4
      rintro e w3 ⟨sa, sc, SP, rfl, -, -, b3⟩
      have H3 : Hid (Below w.heap.size w w3 ∧ Bx w3 w.heap.size [.int .i64 k.config, .int .i64 k.clock, .slice a1 k.places.length c1, .slice a2 k.machines.length c2, .slice (some ⟨b, off, none⟩) k.txs.length c3, .bool k.lost] ∧ KCl.Rd w3 a1 c1 a2 c2 (some ⟨b, off, none⟩) c3 k) := ⟨bstep H2.out.1 b3, H2.out.2.1.later b3, H2.out.2.2.later b3⟩
      clear b3 H2
      by_cases hz : (tx.ofR g (atT k.txs i).sets).length = 0
      · have dz : (((tx.ofR g (atT k.txs i).sets).length : Int) == 0) = true := by rw [hz]; rfl
        have HV2 : Hid (voteR k y g = 0) := by unfold Hid; rw [HV.out, if_pos hz]
        clear hz
        go_wp2
        go_ret
        exact ⟨by rw [HV2.out]; rfl, H3.out.1⟩
      · have dz : (((tx.ofR g (atT k.txs i).sets).length : Int) == 0) = false := beq_eq_false_iff_ne.2 (by omega)
        obtain ⟨hg0, hg1⟩ := clu_ofR HK.out hi hz
        obtain ⟨r, rfl⟩ : ∃ r : Nat, g = (r : Int) := ⟨g.toNat, by omega⟩
        have hv := l11Vote_any w3 a1 c1 a2 c2 (some ⟨b, off, none⟩) c3 k y r HK.out (by omega) H3.out.2.2 H.out.2.2.2
        have HV2 : Hid (voteR k y (r : Int) = voteJ k y (r : Int) (atP k.places r) (atP k.places r).length) := by unfold Hid; rw [HV.out, if_neg hz, Int.toNat_natCast]
        have p0 := H3.out.2.1.1 0 _ rfl
        have p1 := H3.out.2.1.1 1 _ rfl
        have p2 := H3.out.2.1.1 2 _ rfl
        have p3 := H3.out.2.1.1 3 _ rfl
        have p4 := H3.out.2.1.1 4 _ rfl
        have p5 := H3.out.2.1.1 5 _ rfl
        clear hz hg0 hg1 HV
        go_wp2_with fail
        refine hv.mono ?_
        clear hv p0 p1 p2 p3 p4 p5
        rintro e w4 ⟨rfl, b4⟩
        have B4 : Hid (Below w.heap.size w w4) := bstep H3.out.1 b4
        clear b4
        go_wp2
        go_ret
        exact ⟨by rw [HV2.out]; rfl, B4.out⟩
end Go.Proofs.YteiofebmgilclaaGreat
namespace Go.Proofs.YteiofebmgilclaaGreat
open Go.RowKit
def regionB (zss : List (List Int)) (r : Int) : Bool := placesB zss && inB 0 ((zss.length : Int) - 1) r
def primR (zss : List (List Int)) (r : Int) : Int := if regionB zss r = true then atN (atP zss r.toNat) 0 else -1
def backL (zss : List (List Int)) (r : Int) : List Int := if regionB zss r = true then (atP zss r.toNat).drop 1 else []
theorem region_bd {zss : List (List Int)} {r : Int} (h : regionB zss r = true) : ∃ i : Nat, r = (i : Int) ∧ i < zss.length ∧ 1 ≤ (atP zss i).length ∧ (atP zss i).length ≤ 3 := by
  simp only [regionB, Bool.and_eq_true, inB_iff] at h
  obtain ⟨i, rfl⟩ := Int.eq_ofNat_of_zero_le h.2.1
  have hi : i < zss.length := by omega
  have hp := h.1
  simp only [placesB, Bool.and_eq_true] at hp
  have := List.all_eq_true.1 hp.2 i (List.mem_range.2 hi)
  simp only [placeB, Bool.and_eq_true, decide_eq_true_eq] at this
  exact ⟨i, rfl, hi, this.1.1, this.1.2⟩
set_option maxHeartbeats 1000000 in
theorem hasPlace_any (w : World) (a : Option Addr) (n cap : Nat) (r : Int) (zss : List (List Int)) (hn : n ≤ maxLen) (hs : SlP w w.heap.size a n zss) :
    Calls Tryz.prog 112 #[.slice a n cap, .int .i64 r] w fun e w' => e = .returned (.bool (regionB zss r)) ∧ Below w.heap.size w w' := by
  have hx := hs.1
  have hc := implPlacesOk_any w a n cap zss hn hs
  unfold maxLen at hn
  clear hs
  cases hp : placesB zss with
  | false =>
    rw [hp] at hc
    have hV : regionB zss r = false := by simp [regionB, hp]
    rw [hV]
    go_enter Tryz.func112, Tryz.ntmps112
    go_wp2_with fail
    refine hc.mono ?_
    clear hc
    rintro e w1 ⟨rfl, b1⟩
    go_wp2
    go_ret
    exact ⟨rfl, b1⟩
  | true =>
    rw [hp] at hc
    have hV : regionB zss r = inB 0 ((n : Int) - 1) r := by simp [regionB, hp, hx]
    rw [hV]
    by_cases h0 : 0 ≤ r
    · by_cases h8 : r < (n : Int)
      · rw [inB_yes (by omega) (by omega)]
        go_enter Tryz.func112, Tryz.ntmps112
        go_wp2_with fail
        refine hc.mono ?_
        clear hc
        rintro e w1 ⟨rfl, b1⟩
        go_wp2
        go_ret
        exact ⟨rfl, b1⟩
      · have hd : decide (r < (n : Int)) = false := by simp; omega
        have hb : inB 0 ((n : Int) - 1) r = false := by cases h : inB 0 ((n : Int) - 1) r with | false => rfl | true => rw [inB_iff] at h; omega
        rw [hb]
        go_enter Tryz.func112, Tryz.ntmps112
        go_wp2_with fail
        refine hc.mono ?_
        clear hc
        rintro e w1 ⟨rfl, b1⟩
        go_wp2
        go_ret
        exact ⟨rfl, b1⟩
    · have hd : decide (0 ≤ r) = false := by simp; omega
      have hb : inB 0 ((n : Int) - 1) r = false := by cases h : inB 0 ((n : Int) - 1) r with | false => rfl | true => rw [inB_iff] at h; omega
      rw [hb]
      go_enter Tryz.func112, Tryz.ntmps112
      go_wp2_with fail
      refine hc.mono ?_
      clear hc
      rintro e w1 ⟨rfl, b1⟩
      go_wp2
      go_ret
      exact ⟨rfl, b1⟩
set_option maxHeartbeats 1000000 in
theorem implPrimary_any (w : World) (a : Option Addr) (n cap : Nat) (r : Int) (zss : List (List Int)) (hn : n ≤ maxLen) (hs : SlP w w.heap.size a n zss) :
    Calls Tryz.prog 61 #[.slice a n cap, .int .i64 r] w fun e w' => e = .returned (.int .i64 (primR zss r)) ∧ Below w.heap.size w w' := by
  go_enter Tryz.func61, Tryz.ntmps61
  go_wp2_with fail
  refine (hasPlace_any w a n cap r zss hn hs).mono ?_
  cases hp : regionB zss r with
  | false =>
    rintro e w1 ⟨rfl, b1⟩
    go_wp2
    go_ret
    exact ⟨by simp [primR, hp], b1⟩
  | true =>
    obtain ⟨i, rfl, hi, l1, l2⟩ := region_bd hp
    rintro e w1 ⟨rfl, b1⟩
    obtain ⟨hx, hs⟩ := hs
    unfold maxLen at hn
    rcases hs with hs | ⟨b, off, rfl, hb, h1⟩
    · omega
    · obtain ⟨a', cap', hc, ⟨_, hsn⟩, hcp⟩ := h1 i _ (atP_of hi)
      rcases hsn with hsn | ⟨b', off', rfl, hb', h2⟩
      · omega
      · have c1 := (b1.cell (p := ⟨b, off + i, none⟩) hb).trans hc
        have c2 := (b1.cell (p := ⟨b', off' + 0, none⟩) hb').trans (h2 0 _ (atN_of (by omega)))
        have hin : (i : Int) < (n : Int) := by omega
        have l1' : (0 : Int) < ((atP zss i).length : Int) := by omega
        have HR : Hid (primR zss (i : Int) = atN (atP zss i) 0) := by unfold Hid; simp [primR, hp]
        have B1 : Hid (Below w.heap.size w w1) := b1
        rw [Nat.add_zero] at c2
        clear h1 h2 hc b1 hp
        generalize (atP zss i).length = m at *
        go_wp2
        go_ret
        exact ⟨by rw [HR.out]; rfl, B1.out⟩
end Go.Proofs.YteiofebmgilclaaGreat
namespace Go.Proofs.YteiofebmgilclaaGreat
open Go.RowKit
open Go.Sort (grow)
theorem clu_machB {k : C6} (h : clusterB k = true) {i : Nat} (hi : i < k.machines.length) : machB (atM k.machines i) = true := by
  simp only [clusterB, machsB, Bool.and_eq_true] at h
  exact List.all_eq_true.1 h.1.1.2 i (List.mem_range.2 hi)
theorem clu_prim {k : C6} (h : clusterB k = true) {r : Nat} (hr : r < k.places.length) : primR k.places (r : Int) = atN (atP k.places r) 0 := by
  simp only [clusterB, Bool.and_eq_true] at h
  have hp := h.1.1.1.1.2
  have hq : regionB k.places (r : Int) = true := by
    simp only [regionB, Bool.and_eq_true, inB_iff]
    exact ⟨hp, by omega, by omega⟩
  rw [primR, if_pos hq]; rfl
theorem ansH_any {m : M4} (hB : machB m = true) (t g k : Int) : ansH m t g k = m.log.any (lgB t g k) := by
  rw [ansH, ansR, if_pos hB, Bool.eq_iff_iff, List.find?_isSome, List.any_eq_true]
set_option maxHeartbeats 1000000 in
theorem hasRecord_any (w : World) (m0 : Option Addr) (m1 : Nat) (m2 : Option Addr) (m3 : Nat) (m4 : Option Addr) (m5 : Nat) (m : M4) (t g k : Int) (hl : ML m) (hB : machB m = true) (hs : SlM w ⟨m0, m1, m2, m3, m4, m5⟩ m) :
    Calls Tryz.prog 59 #[.agg #[.bool m.alive, .slice m0 m.copies.length m1, .slice m2 m.log.length m3, .slice m4 m.cleared.length m5], .int .i64 t, .int .i64 g, .int .i64 k] w fun e w' => e = .returned (.bool (m.log.any (lgB t g k))) ∧ Below w.heap.size w w' := by
  obtain ⟨U, hU⟩ : ∃ Y, Y = w.alloc (.cells #[.bool m.alive, .slice m0 m.copies.length m1, .slice m2 m.log.length m3, .slice m4 m.cleared.length m5] 85) := ⟨_, rfl⟩
  have bU : Hid (Below w.heap.size w U) := by unfold Hid; rw [hU]; exact (Below.refl _ _).alloc (Nat.le_refl _) _
  have hc := implLogged_any U ⟨m0, m1, m2, m3, m4, m5⟩ m t g k hl (hs.later bU.out)
  simp only [MV.val] at hc
  have HA : Hid (ansH m t g k = m.log.any (lgB t g k)) := ansH_any hB t g k
  clear hl hB hs
  go_enter Tryz.func59, Tryz.ntmps59
  go_wp2_with fail
  rw [← hU]
  clear hU
  refine hc.mono ?_
  clear hc
  rintro e w1 ⟨a, cp, rfl, _, b1⟩
  have B1 : Hid (Below w.heap.size w w1) := bstep bU.out b1
  clear b1
  rw [HA.out]
  simp only [R4.val]
  generalize (ansV m t g k).kind = q1 at *
  generalize (ansV m t g k).tx = q2 at *
  generalize (ansV m t g k).region = q3 at *
  generalize (ansV m t g k).sets.length = q4 at *
  obtain ⟨q5, hq5⟩ : ∃ b, m.log.any (lgB t g k) = b := ⟨_, rfl⟩
  rw [hq5]
  have HQ := hidOf hq5
  clear hq5 HA
  go_wp2
  go_ret
  exact ⟨by rw [HQ.out]; rfl, B1.out.alloc B1.out.size _⟩
def knV (k : C6) (y g p z : Int) : Int := if dnB k y g z = true then 4 else if bkB k y g z = true then 3 else if (decide (z = p) && lkB k y g z) = true then 2 else 1
set_option maxRecDepth 100000 in
set_option maxHeartbeats 4000000 in
theorem knownTo_any (w : World) (a1 : Option Addr) (c1 : Nat) (a2 : Option Addr) (c2 : Nat) (a3 : Option Addr) (c3 : Nat) (k : C6) (i r : Nat) (y : Int) (hk : clusterB k = true) (hi : i < k.machines.length) (hr : r < k.places.length) (hl : KCl.L k) (h : KCl.Rd w a1 c1 a2 c2 a3 c3 k) :
    Calls Tryz.prog 25 #[.agg #[.int .i64 k.config, .int .i64 k.clock, .slice a1 k.places.length c1, .slice a2 k.machines.length c2, .slice a3 k.txs.length c3, .bool k.lost], .int .i64 (i : Int), .int .i64 y, .int .i64 (r : Int)] w fun e w' => e = .returned (.int .i64 (knV k y (r : Int) (atN (atP k.places r) 0) (i : Int))) ∧ Below w.heap.size w w' := by
  have hm8 : machB (atM k.machines i) = true := clu_machB hk hi
  have hP : Hid (primR k.places (r : Int) = atN (atP k.places r) 0) := clu_prim hk hr
  have HML : Hid (ML (atM k.machines i)) := hl.ms _ (List.mem_of_getElem? (atM_of hi))
  have HMB := hidOf hm8
  have HPL : Hid (k.places.length ≤ maxLen) := hl.p
  have HV : Hid (knV k y (r : Int) (atN (atP k.places r) 0) (i : Int) = if ((atM k.machines i).log.any (lgB y (r : Int) 3) || hasB (atM k.machines i).cleared y) = true then 4 else if (atM k.machines i).log.any (lgB y (r : Int) 2) = true then 3 else if (decide ((i : Int) = atN (atP k.places r) 0) && (atM k.machines i).log.any (lgB y (r : Int) 1)) = true then 2 else 1) := by
    unfold Hid knV dnB bkB lkB; simp only [Int.toNat_natCast]
  rcases h.m with hs | ⟨mb, mo, rfl, hmb, hmrd⟩
  · rw [hs] at hi; simp at hi
  obtain ⟨⟨m0, m1, m2, m3, m4, m5⟩, hmel, hmr⟩ := hmrd i _ (atM_of hi)
  obtain ⟨U, hU⟩ : ∃ Y, Y = w.alloc (.cells #[.int .i64 k.config, .int .i64 k.clock, .slice a1 k.places.length c1, .slice (some ⟨mb, mo, none⟩) k.machines.length c2, .slice a3 k.txs.length c3, .bool k.lost] 33) := ⟨_, rfl⟩
  have bU : Below w.heap.size w U := by rw [hU]; exact (Below.refl _ _).alloc (Nat.le_refl _) _
  have xU : Bx U w.heap.size [.int .i64 k.config, .int .i64 k.clock, .slice a1 k.places.length c1, .slice (some ⟨mb, mo, none⟩) k.machines.length c2, .slice a3 k.txs.length c3, .bool k.lost] := by rw [hU]; exact Bx.made w [.int .i64 k.config, .int .i64 k.clock, .slice a1 k.places.length c1, .slice (some ⟨mb, mo, none⟩) k.machines.length c2, .slice a3 k.txs.length c3, .bool k.lost] _
  have sU : U.heap.size = w.heap.size + 1 := by rw [hU]; simp
  obtain ⟨V, hV⟩ : ∃ Y, Y = U.alloc (.cells #[.bool (atM k.machines i).alive, .slice m0 (atM k.machines i).copies.length m1, .slice m2 (atM k.machines i).log.length m3, .slice m4 (atM k.machines i).cleared.length m5] 85) := ⟨_, rfl⟩
  have bV : Below U.heap.size U V := by rw [hV]; exact (Below.refl _ _).alloc (Nat.le_refl _) _
  have xV : Bx V (w.heap.size + 1) [.bool (atM k.machines i).alive, .slice m0 (atM k.machines i).copies.length m1, .slice m2 (atM k.machines i).log.length m3, .slice m4 (atM k.machines i).cleared.length m5] := by
    have := Bx.made U [.bool (atM k.machines i).alive, .slice m0 (atM k.machines i).copies.length m1, .slice m2 (atM k.machines i).log.length m3, .slice m4 (atM k.machines i).cleared.length m5] 85
    rw [sU] at this
    rw [hV]; exact this
  have g0 : U.cell? ⟨mb, mo + i * 4, none⟩ = some (.bool (atM k.machines i).alive) := (bU.cell (p := ⟨mb, mo + i * 4, none⟩) hmb).trans (hmel 0 _ rfl)
  have g1 : U.cell? ⟨mb, mo + i * 4 + 1, none⟩ = some (.slice m0 (atM k.machines i).copies.length m1) := (bU.cell (p := ⟨mb, mo + i * 4 + 1, none⟩) hmb).trans (hmel 1 _ rfl)
  have g2 : U.cell? ⟨mb, mo + i * 4 + 2, none⟩ = some (.slice m2 (atM k.machines i).log.length m3) := (bU.cell (p := ⟨mb, mo + i * 4 + 2, none⟩) hmb).trans (hmel 2 _ rfl)
  have g3 : U.cell? ⟨mb, mo + i * 4 + 3, none⟩ = some (.slice m4 (atM k.machines i).cleared.length m5) := (bU.cell (p := ⟨mb, mo + i * 4 + 3, none⟩) hmb).trans (hmel 3 _ rfl)
  have p3 := xU.1 3 _ rfl
  have BV : Hid (Below w.heap.size w V) := bstep bU bV
  have HS : Hid (SlM V ⟨m0, m1, m2, m3, m4, m5⟩ (atM k.machines i)) := (show SlM w ⟨m0, m1, m2, m3, m4, m5⟩ (atM k.machines i) from hmr).later BV.out
  have HP : Hid (SlP V V.heap.size a1 k.places.length k.places) := h.p.later BV.out
  have XU : Hid (Bx V w.heap.size [.int .i64 k.config, .int .i64 k.clock, .slice a1 k.places.length c1, .slice (some ⟨mb, mo, none⟩) k.machines.length c2, .slice a3 k.txs.length c3, .bool k.lost]) := xU.later bV
  have XV : Hid (Bx V (w.heap.size + 1) [.bool (atM k.machines i).alive, .slice m0 (atM k.machines i).copies.length m1, .slice m2 (atM k.machines i).log.length m3, .slice m4 (atM k.machines i).cleared.length m5]) := xV
  have im : (i : Int) < (k.machines.length : Int) := by omega
  rw [hU] at g0 g1 g2 g3 p3
  have HVU : V = (w.alloc (.cells #[.int .i64 k.config, .int .i64 k.clock, .slice a1 k.places.length c1, .slice (some ⟨mb, mo, none⟩) k.machines.length c2, .slice a3 k.txs.length c3, .bool k.lost] 33)).alloc (.cells #[.bool (atM k.machines i).alive, .slice m0 (atM k.machines i).copies.length m1, .slice m2 (atM k.machines i).log.length m3, .slice m4 (atM k.machines i).cleared.length m5] 85) := by rw [hV, hU]
  clear bU xU sU hV bV xV hU hmr hmel hmrd hmb h hl hk hr hm8
  go_enter Tryz.func25, Tryz.ntmps25
  go_wp2_with fail
  rw [← HVU]
  clear HVU g0 g1 g2 g3 p3 im
  have hc := hasRecord_any V m0 m1 m2 m3 m4 m5 (atM k.machines i) y (r : Int) 3 HML.out HMB.out HS.out
  refine hc.mono ?_
  clear hc
  rintro e w1 ⟨rfl, b1⟩
  have B1 : Hid (Below V.heap.size V w1) := b1
  clear b1
  cases h3 : (atM k.machines i).log.any (lgB y (r : Int) 3) with
  | true =>
    have HA : Hid (knV k y (r : Int) (atN (atP k.places r) 0) (i : Int) = 4) := by unfold Hid; rw [HV.out, h3]; rfl
    clear h3
    go_wp2
    go_ret
    exact ⟨by rw [HA.out]; rfl, bstep BV.out B1.out⟩
  | false =>
  have q3 := (XV.out.later B1.out).1 3 _ rfl
  have hc := contains_any w1 m4 (atM k.machines i).cleared.length m5 y (atM k.machines i).cleared HML.out.n (HS.out.later B1.out).n
  go_wp2_with fail
  refine hc.mono ?_
  clear hc q3
  rintro e w2 ⟨rfl, hw2⟩
  subst hw2
  generalize w2 = W2 at *
  cases hcl : hasB (atM k.machines i).cleared y with
  | true =>
    have HA : Hid (knV k y (r : Int) (atN (atP k.places r) 0) (i : Int) = 4) := by unfold Hid; rw [HV.out, hcl]; simp
    clear h3 hcl
    go_wp2
    go_ret
    exact ⟨by rw [HA.out]; rfl, bstep BV.out B1.out⟩
  | false =>
  have HV2 : Hid (knV k y (r : Int) (atN (atP k.places r) 0) (i : Int) = if (atM k.machines i).log.any (lgB y (r : Int) 2) = true then 3 else if (decide ((i : Int) = atN (atP k.places r) 0) && (atM k.machines i).log.any (lgB y (r : Int) 1)) = true then 2 else 1) := by unfold Hid; rw [HV.out, h3, hcl]; simp
  clear h3 hcl HV
  have f0 := (XV.out.later B1.out).1 0 _ rfl
  have f1 := (XV.out.later B1.out).1 1 _ rfl
  have f2 := (XV.out.later B1.out).1 2 _ rfl
  have f3 := (XV.out.later B1.out).1 3 _ rfl
  have hc := hasRecord_any W2 m0 m1 m2 m3 m4 m5 (atM k.machines i) y (r : Int) 2 HML.out HMB.out (HS.out.later B1.out)
  go_wp2_with fail
  refine hc.mono ?_
  clear hc f0 f1 f2 f3
  rintro e w3 ⟨rfl, b3⟩
  have B3 : Hid (Below V.heap.size V w3) := bstep B1.out b3
  clear b3 B1
  generalize W2 = wz at *
  cases h2 : (atM k.machines i).log.any (lgB y (r : Int) 2) with
  | true =>
    have HA : Hid (knV k y (r : Int) (atN (atP k.places r) 0) (i : Int) = 3) := by unfold Hid; rw [HV2.out, h2]; rfl
    clear h2
    go_wp2
    go_ret
    exact ⟨by rw [HA.out]; rfl, bstep BV.out B3.out⟩
  | false =>
  have HV3 : Hid (knV k y (r : Int) (atN (atP k.places r) 0) (i : Int) = if (decide ((i : Int) = atN (atP k.places r) 0) && (atM k.machines i).log.any (lgB y (r : Int) 1)) = true then 2 else 1) := by unfold Hid; rw [HV2.out, h2]; simp
  clear h2 HV2
  have p2 := (XU.out.later B3.out).1 2 _ rfl
  have hc := implPrimary_any w3 a1 k.places.length c1 (r : Int) k.places HPL.out (HP.out.later B3.out)
  rw [hP.out] at hc
  obtain ⟨pz, hpq⟩ : ∃ z, atN (atP k.places r) 0 = z := ⟨_, rfl⟩
  have HPQ := hidOf hpq
  rw [hpq] at hc HV3 hP
  clear hpq
  go_wp2_with fail
  refine hc.mono ?_
  clear hc p2
  rintro e w4 ⟨rfl, b4⟩
  have B4 : Hid (Below V.heap.size V w4) := bstep B3.out b4
  clear b4 B3
  generalize w3 = wz3 at *
  cases hpz : decide ((i : Int) = pz) with
  | false =>
    have HA : Hid (knV k y (r : Int) pz (i : Int) = 1) := by unfold Hid; rw [HV3.out, hpz]; rfl
    have he : ((i : Int) == pz) = false := by simpa using hpz
    clear hpz
    go_wp2
    go_ret
    exact ⟨by rw [HPQ.out, HA.out]; rfl, bstep BV.out B4.out⟩
  | true =>
  have HV4 : Hid (knV k y (r : Int) pz (i : Int) = if (atM k.machines i).log.any (lgB y (r : Int) 1) = true then 2 else 1) := by unfold Hid; rw [HV3.out, hpz]; simp
  have he : ((i : Int) == pz) = true := by simpa using hpz
  clear hpz HV3
  have f0 := (XV.out.later B4.out).1 0 _ rfl
  have f1 := (XV.out.later B4.out).1 1 _ rfl
  have f2 := (XV.out.later B4.out).1 2 _ rfl
  have f3 := (XV.out.later B4.out).1 3 _ rfl
  have hc := hasRecord_any w4 m0 m1 m2 m3 m4 m5 (atM k.machines i) y (r : Int) 1 HML.out HMB.out (HS.out.later B4.out)
  go_wp2_with fail
  refine hc.mono ?_
  clear hc f0 f1 f2 f3
  rintro e w5 ⟨rfl, b5⟩
  have B5 : Hid (Below V.heap.size V w5) := bstep B4.out b5
  clear b5 B4
  generalize w4 = wz4 at *
  cases h1 : (atM k.machines i).log.any (lgB y (r : Int) 1) with
  | true =>
    have HA : Hid (knV k y (r : Int) pz (i : Int) = 2) := by unfold Hid; rw [HV4.out, h1]; rfl
    clear h1
    go_wp2
    go_ret
    exact ⟨by rw [HPQ.out, HA.out]; rfl, bstep BV.out B5.out⟩
  | false =>
    have HA : Hid (knV k y (r : Int) pz (i : Int) = 1) := by unfold Hid; rw [HV4.out, h1]; rfl
    clear h1
    go_wp2
    go_ret
    exact ⟨by rw [HPQ.out, HA.out]; rfl, bstep BV.out B5.out⟩
end Go.Proofs.YteiofebmgilclaaGreat
namespace Go.Proofs.YteiofebmgilclaaGreat
open Go.RowKit
structure PB (w : World) (base P : Nat) (v : Value) (zs : List Int) : Prop where
  cell : w.cell? ⟨P, 0, none⟩ = some v
  frz : w.frozen? ⟨P, 0, none⟩ = false
  lt : P < w.heap.size
  low : base ≤ P
  on : ON w base v zs
  ne : v.ownBlock ≠ some P
theorem PB.new (w : World) (base : Nat) (hb : base ≤ w.heap.size) : PB (w.alloc (.cells #[.slice none 0 0] 86)) base w.heap.size (.slice none 0 0) [] :=
  ⟨by go_simp, by go_simp, by simp, hb, ON.nil _ _, by simp [Value.ownBlock]⟩
theorem PB.step {w : World} {base P : Nat} {v : Value} {zs : List Int} (h : PB w base P v zs) (z : Int) (hm : zs.length ≤ 1000) (ty : TypeId) :
    ∃ v' W', (Builtin.append_ #[63, 63] ty #[v, .slice (some ⟨w.heap.size, 0, none⟩) 1 1]).run Tryz.prog (w.drew.alloc (.cells #[.int .i64 z] 2)) = .ok v' W'
      ∧ W'.cell? ⟨P, 0, none⟩ = some v ∧ W'.frozen? ⟨P, 0, none⟩ = false ∧ PB (W'.setCell ⟨P, 0, none⟩ v') base P v' (zs ++ [z]) ∧ Below base w (W'.setCell ⟨P, 0, none⟩ v') ∧ Below base w W' := by
  have hP := h.lt
  have hlow := h.low
  have bA : Below w.heap.size w (w.drew.alloc (.cells #[.int .i64 z] 2)) := ((Below.refl _ _).drew).alloc (Nat.le_refl _) _
  have sA : (w.drew.alloc (.cells #[.int .i64 z] 2)).heap.size = w.heap.size + 1 := by show (w.alloc _).heap.size = _; simp
  have cz : NumsAt (w.drew.alloc (.cells #[.int .i64 z] 2)) w.heap.size 0 [z] := fun i x e => by
    obtain ⟨rfl, rfl⟩ : i = 0 ∧ x = z := by
      cases i with
      | zero => simp at e; exact ⟨rfl, e.symm⟩
      | succ i => simp at e
    show (w.drew.alloc _).cell? ⟨w.drew.heap.size, 0, none⟩ = _
    go_simp
  obtain ⟨v', W', hr, ho, hg, hl⟩ := on_append (w.drew.alloc (.cells #[.int .i64 z] 2)) base v zs [z] w.heap.size 0 1 ty (h.on.below bA) cz (by simp; omega) (by omega)
  have hPA : P < (w.drew.alloc (.cells #[.int .i64 z] 2)).heap.size := by omega
  have c1 : W'.cell? ⟨P, 0, none⟩ = some v := (hg.cell_far ⟨P, 0, none⟩ hPA (fun e => h.ne e.symm)).trans ((bA.cell (p := ⟨P, 0, none⟩) hP).trans h.cell)
  have f1 : W'.frozen? ⟨P, 0, none⟩ = false := (hg.frozen_far ⟨P, 0, none⟩ hPA (fun e => h.ne e.symm)).trans ((bA.frozen (p := ⟨P, 0, none⟩) hP).trans h.frz)
  have hne : v'.ownBlock ≠ some P := by
    rcases hl with e | e
    · rw [e]; exact h.ne
    · rw [e]; intro e'; cases e'; omega
  have sz : P < W'.heap.size := Nat.lt_of_lt_of_le hPA hg.size
  refine ⟨v', W', hr, c1, f1, ⟨cell_set_same c1, by rw [World.frozen?_setCell]; exact f1, by simpa [World.setCell] using sz, hlow, ?_, hne⟩, ?_⟩
  · exact ho.kept fun q e => Below.heap_setCell _ _ _ _ (fun e' => hne (by rw [e, e']))
  · have hb1 : Below base w W' := (bA.mono (by omega)).grown hg (by omega) (fun q e => (World.ownsRow.lt h.on q e).1)
    exact ⟨hb1.setCell (p := ⟨P, 0, none⟩) hlow _, hb1⟩
structure OutP (w : World) (base : Nat) (v : Value) (zss : List (List Int)) (g : Nat → Nat) : Prop where
  row : ∃ cs : List Value, w.ownsRow base 86 1 v zss.length cs ∧ ∀ (i : Nat) (zs : List Int), zss[i]? = some zs → ∃ cap : Nat, cs[i]? = some (Value.slice (some ⟨g i, 0, none⟩) zs.length cap) ∧ zs.length ≤ cap
  low : ∀ i, i < zss.length → base ≤ g i
  lt : ∀ i, i < zss.length → g i < w.heap.size
  ne : ∀ i, i < zss.length → v.ownBlock ≠ some (g i)
  nums : ∀ i zs, zss[i]? = some zs → NumsAt w (g i) 0 zs
  room : ∀ i zs, zss[i]? = some zs → Room w (g i) zs.length
  inj : ∀ i j, i < zss.length → j < zss.length → g i = g j → i = j
theorem OutP.empty (w : World) (base : Nat) (hb : base ≤ w.heap.size) (g : Nat → Nat) : OutP (w.alloc (.cells #[] 86)) base (.slice (some ⟨w.heap.size, 0, none⟩) 0 0) [] g :=
  ⟨⟨[], World.ownsRow_made w #[] 0 hb (Nat.zero_le _) rfl, fun i zs e => by simp at e⟩, fun i h => by simp at h, fun i h => by simp at h, fun i h => by simp at h, fun i zs e => by simp at e, fun i zs e => by simp at e, fun i j h => by simp at h⟩
theorem OutP.below {w w' : World} {base : Nat} {v : Value} {zss : List (List Int)} {g : Nat → Nat} (h : OutP w base v zss g) (hb : Below w.heap.size w w') : OutP w' base v zss g := by
  have hi : ∀ i zs, zss[i]? = some zs → i < zss.length := fun i zs e => (List.getElem?_eq_some_iff.1 e).1
  obtain ⟨cs, ho, hc⟩ := h.row
  refine ⟨⟨cs, ⟨ho.1, ho.2.imp id ?_⟩, hc⟩, h.low, fun i hi => Nat.lt_of_lt_of_le (h.lt i hi) hb.size, h.ne, fun i zs e => (h.nums i zs e).of_block (hb.block _ (h.lt i (hi i zs e))), fun i zs e => (h.room i zs e).of_block (hb.block _ (h.lt i (hi i zs e))), h.inj⟩
  rintro ⟨q, cap, cur, rfl, l, hg, r⟩
  exact ⟨q, cap, cur, rfl, l, (hb.block q (World.ownsRow.lt ho q rfl).2).trans hg, r⟩
theorem info_place : (Tryz.prog.info? 86).map (fun i => (i.zero, i.size, i.bytes)) = some (some (.agg #[.slice none 0 0]), 1, 24) := by kernel_rfl
theorem OutP.push {W : World} {base e : Nat} {v : Value} {zss : List (List Int)} {g : Nat → Nat} (h : OutP W base v zss g) (zs : List Int) (q cap : Nat) (hm : zss.length ≤ 1000) (ty : TypeId)
    (he : W.cell? ⟨e, 0, none⟩ = some (.slice (some ⟨q, 0, none⟩) zs.length cap)) (hcp : zs.length ≤ cap) (hq : base ≤ q) (hl : q < W.heap.size) (hn : v.ownBlock ≠ some q) (hx : NumsAt W q 0 zs) (hr : Room W q zs.length) (hf : ∀ i, i < zss.length → g i ≠ q) (hbase : base ≤ W.heap.size) :
    ∃ v' W', (Builtin.append_ #[29, 29] ty #[v, .slice (some ⟨e, 0, none⟩) 1 1]).run Tryz.prog W = .ok v' W' ∧ OutP W' base v' (zss ++ [zs]) (fun i => if i = zss.length then q else g i) ∧ W.grownBy W' v.ownBlock ∧ (v'.ownBlock = v.ownBlock ∨ v'.ownBlock = some W.heap.size) ∧ v' ≠ .slice none 0 0 := by
  obtain ⟨cs, ho, hc⟩ := h.row
  have hcl : cs.length = zss.length := by simpa using ho.1
  obtain ⟨i0, hi0, hz0, hz1, hz2⟩ := info_parts info_place
  have hadd : ∀ (b o j : Nat), (⟨b, o, none⟩ : Addr).add j = ⟨b, o + j, none⟩ := fun b o j => by unfold Addr.add; split <;> simp_all
  obtain ⟨v', W', hrun, hown, hg, hnil, hlies⟩ := run_append_own_at (P := Tryz.prog) W base 29 ty 86 i0 (.agg #[.slice none 0 0]) 1 24 Tryz.underlying29 hi0 hz0 hz1 hz2 rfl (by decide)
    v zss.length cs ho ⟨e, 0, none⟩ 1 1 [.slice (some ⟨q, 0, none⟩) zs.length cap] rfl (fun j u hu => by
      cases j with
      | zero => simp at hu; subst hu; rw [hadd]; exact he
      | succ j => simp at hu)
    (fun u hu => by simp at hu; subst hu; rfl) (by unfold maxLen; omega) (by omega) hbase
  have far : ∀ x, x < W.heap.size → v.ownBlock ≠ some x → W'.heap[x]? = W.heap[x]? := fun x hx hne => hg.block x hx (fun e' => hne e'.symm)
  have nev : ∀ x, x < W.heap.size → v.ownBlock ≠ some x → v'.ownBlock ≠ some x := fun x hx hne => by
    rcases hlies with e' | e'
    · rw [e']; exact hne
    · rw [e']; intro e''; cases e''; omega
  have split : ∀ i ys, (zss ++ [zs])[i]? = some ys → (i < zss.length ∧ zss[i]? = some ys) ∨ (i = zss.length ∧ ys = zs) := fun i ys e' => by
    by_cases hi : i < zss.length
    · rw [List.getElem?_append_left hi] at e'
      exact .inl ⟨hi, e'⟩
    · rw [List.getElem?_append_right (by omega)] at e'
      have h0 : i - zss.length = 0 := by
        rcases Nat.eq_zero_or_pos (i - zss.length) with h | h
        · exact h
        · rw [List.getElem?_eq_none (by simp; omega)] at e'; cases e'
      rw [h0] at e'
      simp at e'
      exact .inr ⟨by omega, e'.symm⟩
  have hlen : (zss ++ [zs]).length = zss.length + 1 := by simp
  refine ⟨v', W', hrun, ⟨⟨cs ++ [.slice (some ⟨q, 0, none⟩) zs.length cap], by rw [hlen]; exact hown, fun i ys e' => ?_⟩, fun i hi => ?_, fun i hi => ?_, fun i hi => ?_, fun i ys e' => ?_, fun i ys e' => ?_, fun i k hi hk e' => ?_⟩, hg, hlies, fun e' => by obtain ⟨x, y, e'', _⟩ := World.ownsRow.form hown (by omega); rw [e'] at e''; cases e''⟩
  · rcases split i ys e' with ⟨hi, e'⟩ | ⟨rfl, rfl⟩
    · rw [if_neg (by omega), List.getElem?_append_left (by omega)]; exact hc i ys e'
    · rw [if_pos rfl, List.getElem?_append_right (by omega), hcl, Nat.sub_self]; exact ⟨cap, rfl, hcp⟩
  · rw [hlen] at hi
    by_cases e' : i = zss.length
    · rw [if_pos e']; exact hq
    · rw [if_neg e']; exact h.low i (by omega)
  · rw [hlen] at hi
    by_cases e' : i = zss.length
    · rw [if_pos e']; exact Nat.lt_of_lt_of_le hl hg.size
    · rw [if_neg e']; exact Nat.lt_of_lt_of_le (h.lt i (by omega)) hg.size
  · rw [hlen] at hi
    by_cases e' : i = zss.length
    · rw [if_pos e']; exact nev q hl hn
    · rw [if_neg e']; exact nev _ (h.lt i (by omega)) (h.ne i (by omega))
  · rcases split i ys e' with ⟨hi, e'⟩ | ⟨rfl, rfl⟩
    · rw [if_neg (by omega)]; exact (h.nums i ys e').of_block (far _ (h.lt i hi) (h.ne i hi))
    · rw [if_pos rfl]; exact hx.of_block (far q hl hn)
  · rcases split i ys e' with ⟨hi, e'⟩ | ⟨rfl, rfl⟩
    · rw [if_neg (by omega)]; exact (h.room i ys e').of_block (far _ (h.lt i hi) (h.ne i hi))
    · rw [if_pos rfl]; exact hr.of_block (far q hl hn)
  · rw [hlen] at hi hk
    by_cases ei : i = zss.length <;> by_cases ek : k = zss.length
    · omega
    · simp only [if_pos ei, if_neg ek] at e'; exact absurd e'.symm (hf k (by omega))
    · simp only [if_neg ei, if_pos ek] at e'; exact absurd e' (hf i (by omega))
    · simp only [if_neg ei, if_neg ek] at e'; exact h.inj i k (by omega) (by omega) e'
theorem OutP.grown {w w' : World} {base : Nat} {v : Value} {zss : List (List Int)} {g : Nat → Nat} {row : Option Nat} (h : OutP w base v zss g) (hg : w.grownBy w' row) (h1 : v.ownBlock ≠ row) (h2 : ∀ i, i < zss.length → row ≠ some (g i)) : OutP w' base v zss g := by
  have hi : ∀ i zs, zss[i]? = some zs → i < zss.length := fun i zs e => (List.getElem?_eq_some_iff.1 e).1
  obtain ⟨cs, ho, hc⟩ := h.row
  have far : ∀ i, i < zss.length → w'.heap[g i]? = w.heap[g i]? := fun i hi => hg.block _ (h.lt i hi) (fun e => h2 i hi e.symm)
  refine ⟨⟨cs, ⟨ho.1, ho.2.imp id ?_⟩, hc⟩, h.low, fun i hi => Nat.lt_of_lt_of_le (h.lt i hi) hg.size, h.ne, fun i zs e => (h.nums i zs e).of_block (far i (hi i zs e)), fun i zs e => (h.room i zs e).of_block (far i (hi i zs e)), h.inj⟩
  rintro ⟨q, cap, cur, rfl, l, hq, r⟩
  exact ⟨q, cap, cur, rfl, l, (hg.block q (World.ownsRow.lt ho q rfl).2 (fun e => h1 e)).trans hq, r⟩
theorem ON.grown {w w' : World} {base : Nat} {v : Value} {zs : List Int} {row : Option Nat} (h : ON w base v zs) (hg : w.grownBy w' row) (h1 : v.ownBlock ≠ row) : ON w' base v zs :=
  h.kept fun q e => hg.block q (World.ownsRow.lt h q e).2 (fun e' => h1 (e.trans e'))
theorem OutP.lies {w : World} {base : Nat} {v : Value} {zss : List (List Int)} {g : Nat → Nat} (h : OutP w base v zss g) {q : Nat} (e : v.ownBlock = some q) : base ≤ q ∧ q < w.heap.size := by
  obtain ⟨cs, ho, _⟩ := h.row
  exact World.ownsRow.lt ho q e
theorem OutP.own {w : World} {base : Nat} {v : Value} {zss : List (List Int)} {g : Nat → Nat} (h : OutP w base v zss g) (hv : v ≠ .slice none 0 0) : ∃ b cap, v = .slice (some ⟨b, 0, none⟩) zss.length cap ∧ base ≤ b ∧ b < w.heap.size ∧ zss.length ≤ cap ∧ OwnP w base b zss.length zss g := by
  obtain ⟨cs, ho, hc⟩ := h.row
  have ho' := ho
  rcases ho'.2 with ⟨e, _⟩ | ⟨b, cap, cur, rfl, hb, hg, hcp, _⟩
  · exact absurd e hv
  · refine ⟨b, cap, rfl, hb, (World.ownsRow.lt ho b rfl).2, hcp, ⟨rfl, fun i zs e => ?_, h.low, h.lt, fun i hi e => h.ne i hi (by rw [e]; rfl), h.nums, h.room, h.inj⟩⟩
    have hi : i < zss.length := (List.getElem?_eq_some_iff.1 e).1
    obtain ⟨cp, hcs, hle⟩ := hc i zs e
    exact ⟨cp, by rw [World.ownsRow.cellAt ho i (by omega)]; exact hcs, hle⟩
def atB (al : List Bool) (i : Nat) : Bool := al[i]?.getD false
theorem atB_of {al : List Bool} {i : Nat} (h : i < al.length) : al[i]? = some (atB al i) := by simp [atB, List.getElem?_eq_getElem h]
def BoolsAt (w : World) (b off : Nat) (al : List Bool) : Prop := ∀ i z, al[i]? = some z → w.cell? ⟨b, off + i, none⟩ = some (.bool z)
theorem BoolsAt.below {w w' : World} {B b off : Nat} {al : List Bool} (h : BoolsAt w b off al) (hb : Below B w w') (hB : b < B) : BoolsAt w' b off al := fun i z e => by rw [hb.cell (p := ⟨b, off + i, none⟩) hB]; exact h i z e
def SlB (w : World) (B : Nat) (a : Option Addr) (n : Nat) (al : List Bool) : Prop := al.length = n ∧ (n = 0 ∨ ∃ b off, a = some ⟨b, off, none⟩ ∧ b < B ∧ BoolsAt w b off al)
theorem SlB.below {w w' : World} {B : Nat} {a : Option Addr} {n : Nat} {al : List Bool} (h : SlB w B a n al) (hb : Below B w w') : SlB w' B a n al := by
  obtain ⟨h1, h2⟩ := h
  refine ⟨h1, ?_⟩
  rcases h2 with h2 | ⟨b, off, ha, hB, hx⟩
  · exact .inl h2
  · exact .inr ⟨b, off, ha, hB, hx.below hb hB⟩
theorem SlB.mono {w : World} {B B' : Nat} {a : Option Addr} {n : Nat} {al : List Bool} (h : SlB w B a n al) (hB : B ≤ B') : SlB w B' a n al := by
  obtain ⟨h1, h2⟩ := h
  refine ⟨h1, ?_⟩
  rcases h2 with h2 | ⟨b, off, ha, hb, hx⟩
  · exact .inl h2
  · exact .inr ⟨b, off, ha, by omega, hx⟩
def livesB (al : List Bool) (z : Int) : Bool := decide (z < (al.length : Int)) && atB al z.toNat
def keepL (al : List Bool) (zs : List Int) : List Int := zs.filter (livesB al)
def fillTo (al : List Bool) (p : List Int) : Nat → List Int
  | 0 => p
  | m + 1 => if (fillTo al p m).length < 3 ∧ atB al m = true ∧ hasB (fillTo al p m) (m : Int) = false then fillTo al p m ++ [(m : Int)] else fillTo al p m
def rowR (al : List Bool) (zs : List Int) : List Int := if keepL al zs = [] then zs else fillTo al (keepL al zs) al.length
def remapN (al : List Bool) (zss : List (List Int)) (n : Nat) : List (List Int) := (List.range n).map fun i => rowR al (atP zss i)
def lostN (al : List Bool) (zss : List (List Int)) (n : Nat) : List Int := ((List.range n).filter fun i => keepL al (atP zss i) = []).map fun (i : Nat) => (i : Int)
def remapB (zss : List (List Int)) (al : List Bool) : Bool := placesB zss && decide (al.length ≤ 8)
end Go.Proofs.YteiofebmgilclaaGreat
namespace Go.Proofs.YteiofebmgilclaaGreat
open Go.RowKit
open Go.Sort (grow)
theorem info_Boo : (Tryz.prog.info? 4).map (fun i => (i.zero, i.size, i.bytes)) = some (some (.bool false), 1, 1) := by kernel_rfl
theorem make_Boo (n : Nat) (hn : n ≤ 1048576) (w : World) : (Instr.makeSlice 104 (.int .i64 (n : Int)) (.int .i64 (n : Int))).run Tryz.prog w = .ok (.slice (some ⟨w.heap.size, 0, none⟩) n n) (w.alloc (.cells (madeCells #[.bool false] n) 4)) := by
  obtain ⟨i, hi, hzz⟩ := Option.map_eq_some_iff.1 info_Boo
  simp only [Prod.mk.injEq] at hzz
  obtain ⟨hz, hs, hb⟩ := hzz
  have := run_make (P := Tryz.prog) w 104 4 i _ Tryz.underlying104 hi hz .i64 .i64 (n : Int) (n : Int) (by omega) (by omega) (by rw [hb]; omega) (by omega)
  rw [hs] at this
  simpa [Value.cells] using this
def AlvAt (X : World) (b j : Nat) (ms : List M4) : Prop := ∀ t, t < j → X.cell? ⟨b, t, none⟩ = some (.bool (atM ms t).alive)
theorem AlvAt.below {X Y : World} {b j B : Nat} {ms : List M4} (h : AlvAt X b j ms) (hb : Below B X Y) (hB : b < B) : AlvAt Y b j ms := fun t ht => (hb.cell (p := ⟨b, t, none⟩) hB).trans (h t ht)
theorem AlvAt.set {X : World} {b j : Nat} {ms : List M4} (h : AlvAt X b j ms) {v : Value} (hv : X.cell? ⟨b, j, none⟩ = some v) : AlvAt (X.setCell ⟨b, j, none⟩ (.bool (atM ms j).alive)) b (j + 1) ms := fun t ht => by
  by_cases e : t = j
  · subst e
    exact cell_set_same hv
  · exact (cell_set_other e).trans (h t (by omega))
theorem AlvAt.sl {X : World} {b : Nat} {ms : List M4} (h : AlvAt X b ms.length ms) (hb : b < X.heap.size) : SlB X X.heap.size (some ⟨b, 0, none⟩) ms.length (ms.map M4.alive) :=
  ⟨by simp, .inr ⟨b, 0, rfl, hb, fun i x e => by
    rw [List.getElem?_map] at e
    obtain ⟨m, hm, rfl⟩ := Option.map_eq_some_iff.1 e
    have hi : i < ms.length := (List.getElem?_eq_some_iff.1 hm).1
    have := h i hi
    rw [Nat.zero_add, this, atM, hm]; rfl⟩⟩
set_option maxRecDepth 100000 in
set_option maxHeartbeats 4000000 in
theorem aliveOf_any (w : World) (a : Option Addr) (cap : Nat) (ms : List M4) (hn : ms.length ≤ 8) (hs : KMk.RdS w a ms) :
    Calls Tryz.prog 58 #[.slice a ms.length cap] w fun e w' => e = .returned (.slice (some ⟨w.heap.size, 0, none⟩) ms.length ms.length) ∧ SlB w' w'.heap.size (some ⟨w.heap.size, 0, none⟩) ms.length (ms.map M4.alive) ∧ w.heap.size < w'.heap.size ∧ Below w.heap.size w w' := by
  have hmk := make_Boo ms.length (by omega)
  obtain ⟨U, hU⟩ : ∃ Y, Y = w.alloc (.cells (madeCells #[.bool false] ms.length) 4) := ⟨_, rfl⟩
  have bU : Hid (Below w.heap.size w U) := by unfold Hid; rw [hU]; exact (Below.refl _ _).alloc (Nat.le_refl _) _
  have sU : Hid (w.heap.size < U.heap.size) := by unfold Hid; rw [hU]; simp
  have rU : Hid (Room U w.heap.size ms.length) := by unfold Hid; rw [hU]; exact room_made _ _ _ _
  have hm := membersOf_any U a cap ms hn (hs.later bU.out)
  clear hs
  go_enter Tryz.func58, Tryz.ntmps58
  go_wp2_with fail
  rw [← hU]
  clear hU hmk
  refine hm.mono ?_
  clear hm
  rintro e W ⟨rfl, hma, hsz, bW⟩
  have KW : Hid (MemAt U W U.heap.size ms.length ms ∧ Below w.heap.size w W ∧ Below U.heap.size U W) := ⟨hma, bstep bU.out bW, bW⟩
  have K0 : Hid (Room W w.heap.size ms.length ∧ w.heap.size < W.heap.size) := ⟨rU.out.below bW sU.out, Nat.lt_trans sU.out hsz⟩
  have KU : Hid (U.heap.size < W.heap.size) := hsz
  clear hma hsz bW
  generalize hus : U.heap.size = us at *
  go_wp2
  go_loopw [12] (fun v wr => ∃ j : Nat, j ≤ ms.length ∧ v = .int .i64 j ∧ Below w.heap.size w wr ∧ W.heap.size ≤ wr.heap.size ∧ Room wr w.heap.size ms.length ∧ AlvAt wr w.heap.size j ms ∧ MemAt U wr us ms.length ms) (fun v _ => ms.length - (intOf v).toNat)
  case atStart => exact ⟨0, Nat.zero_le _, rfl, KW.out.2.1, Nat.le_refl _, K0.out.1, fun t ht => by omega, KW.out.1⟩
  case round =>
    obtain ⟨j, hj, rfl, hbl, hsz, hrm, hal, hma⟩ := hrel
    by_cases hlt : j < ms.length
    · obtain ⟨a', c', hc0, _⟩ := hma j hlt
      have jn : (j : Int) < (ms.length : Int) := by omega
      have KH : Hid (Below w.heap.size w wr ∧ W.heap.size ≤ wr.heap.size ∧ Room wr w.heap.size ms.length ∧ AlvAt wr w.heap.size j ms ∧ MemAt U wr us ms.length ms) := ⟨hbl, hsz, hrm, hal, hma⟩
      clear hbl hsz hrm hal hma
      cases hal : (atM ms j).alive with
      | true =>
        have hv : memV (atM ms j) a' c' = .iface 159 (.agg #[.slice a' (atM ms j).copies.length c']) := by simp [memV, hal]
        have hme : ∀ w : World, (method 374 159 (.agg #[.slice a' (atM ms j).copies.length c']) "loop.example/g00153/impl.lives").run Tryz.prog w = .ok (234, .agg #[.slice a' (atM ms j).copies.length c']) w := fun _ => by kernel_rfl
        rw [hv] at hc0
        have hcl := livesL_any wr a' (atM ms j).copies.length c'
        have HAL : Hid ((atM ms j).alive = true) := hal
        clear hv hal
        go_wp2_with fail
        refine hcl.mono ?_
        clear hcl hme hc0
        rintro e w1 ⟨rfl, b1⟩
        have KB : Hid (Below wr.heap.size wr w1) := b1
        have hx : w.heap.size < wr.heap.size := Nat.lt_of_lt_of_le K0.out.2 KH.out.2.1
        obtain ⟨z, hz, hf⟩ : ∃ v, w1.cell? ⟨w.heap.size, j, none⟩ = some v ∧ w1.frozen? ⟨w.heap.size, j, none⟩ = false := (KH.out.2.2.1.below KB.out hx) j hlt
        have Z := hidOf hz
        have HX := hidOf hx
        clear b1 hx
        go_wp2
        have hset := (KH.out.2.2.2.1.below KB.out HX.out).set Z.out
        rw [HAL.out] at hset
        exact ⟨⟨j + 1, by omega, by simp, ((KH.out.1.trans (KB.out.mono KH.out.1.size)).setCell (p := ⟨w.heap.size, j, none⟩) (Nat.le_refl _) _), by simp [World.setCell]; exact Nat.le_trans KH.out.2.1 KB.out.size, (KH.out.2.2.1.below KB.out HX.out).set _, hset, fun t ht => by
          obtain ⟨a2, c2, h1, h2⟩ := KH.out.2.2.2.2 t ht
          have hne : us ≠ w.heap.size := by have := sU.out; omega
          exact ⟨a2, c2, (World.cell?_of_block (a := ⟨us, t, none⟩) (Below.heap_setCell _ _ _ _ (fun e => hne e))).trans ((KB.out.cell (p := ⟨us, t, none⟩) (Nat.lt_of_lt_of_le KU.out KH.out.2.1)).trans h1), h2⟩⟩, by simp [intOf]; omega⟩
      | false =>
        have hv : memV (atM ms j) a' c' = .iface 161 (.agg #[]) := by simp [memV, hal]
        have hme : ∀ w : World, (method 374 161 (.agg #[]) "loop.example/g00153/impl.lives").run Tryz.prog w = .ok (236, .agg #[]) w := fun _ => by kernel_rfl
        rw [hv] at hc0
        have hcl := livesD_any wr
        have HAL : Hid ((atM ms j).alive = false) := hal
        clear hv hal
        go_wp2_with fail
        refine hcl.mono ?_
        clear hcl hme hc0
        rintro e w1 ⟨rfl, b1⟩
        have KB : Hid (Below wr.heap.size wr w1) := b1
        have hx : w.heap.size < wr.heap.size := Nat.lt_of_lt_of_le K0.out.2 KH.out.2.1
        obtain ⟨z, hz, hf⟩ : ∃ v, w1.cell? ⟨w.heap.size, j, none⟩ = some v ∧ w1.frozen? ⟨w.heap.size, j, none⟩ = false := (KH.out.2.2.1.below KB.out hx) j hlt
        have Z := hidOf hz
        have HX := hidOf hx
        clear b1 hx
        go_wp2
        have hset := (KH.out.2.2.2.1.below KB.out HX.out).set Z.out
        rw [HAL.out] at hset
        exact ⟨⟨j + 1, by omega, by simp, ((KH.out.1.trans (KB.out.mono KH.out.1.size)).setCell (p := ⟨w.heap.size, j, none⟩) (Nat.le_refl _) _), by simp [World.setCell]; exact Nat.le_trans KH.out.2.1 KB.out.size, (KH.out.2.2.1.below KB.out HX.out).set _, hset, fun t ht => by
          obtain ⟨a2, c2, h1, h2⟩ := KH.out.2.2.2.2 t ht
          have hne : us ≠ w.heap.size := by have := sU.out; omega
          exact ⟨a2, c2, (World.cell?_of_block (a := ⟨us, t, none⟩) (Below.heap_setCell _ _ _ _ (fun e => hne e))).trans ((KB.out.cell (p := ⟨us, t, none⟩) (Nat.lt_of_lt_of_le KU.out KH.out.2.1)).trans h1), h2⟩⟩, by simp [intOf]; omega⟩
    · obtain rfl : j = ms.length := by omega
      have hd : decide ((ms.length : Int) < (ms.length : Int)) = false := by simp
      have hx : w.heap.size < wr.heap.size := Nat.lt_of_lt_of_le K0.out.2 hsz
      have KH : Hid (Below w.heap.size w wr ∧ SlB wr wr.heap.size (some ⟨w.heap.size, 0, none⟩) ms.length (ms.map M4.alive) ∧ w.heap.size < wr.heap.size) := ⟨hbl, hal.sl hx, hx⟩
      clear hbl hsz hrm hma hal hx
      go_wp2
      go_ret
      exact ⟨rfl, KH.out.2.1, KH.out.2.2, KH.out.1⟩
end Go.Proofs.YteiofebmgilclaaGreat
namespace Go.Proofs.YteiofebmgilclaaGreat
open Go.RowKit
def SeqO {α : Type} (n : Nat) (P : Program) (g : Nat) (lb : Array Value) (encs : α → Array Value) (Kp : World → World → Prop) (S Sp : List α → Prop) (N : Nat) (w : World) : Prop :=
  ∀ (l : Nat) (J Jx : List α → World → Prop) (W : World), Below w.heap.size w W → w.heap.size + 2 ≤ W.heap.size → OwnFrom W.heap.size J → OwnFrom W.heap.size Jx →
    (∀ pre x W1, J pre W1 → pre.length < N → YieldAt Fence.wide (n - 1) P l (encs x) W1 fun e W' =>
      Kp W1 W' ∧ ((e = .returned (.bool true) ∧ J (pre ++ [x]) W') ∨ (e = .returned (.bool false) ∧ Jx (pre ++ [x]) W'))) →
    J [] W →
    CallsIn Fence.wide n P g (#[.func (.yield l) #[] #[]] ++ lb) W fun e W' => (∃ v, e = .returned v) ∧ ((∃ xs, S xs ∧ J xs W') ∨ (∃ pre, Sp pre ∧ Jx pre W'))
def postO {α : Type} (Kp : World → World → Prop) (I : List α → World → Prop) (Ix : Code → List α → World → Prop) (xs : List α) (W : World) : Exit → Act → World → Prop
  | .normal, _, W' => KeepsOthers W W' ∧ Kp W W' ∧ I xs W'
  | .ret, _, W' => KeepsOthers W W' ∧ Kp W W' ∧ Ix .ret xs W'
  | .exit id, _, W' => KeepsOthers W W' ∧ Kp W W' ∧ Ix (.exit id) xs W'
  | .goto t, _, W' => KeepsOthers W W' ∧ Kp W W' ∧ Ix (.goto t) xs W'
  | .panic _, _, _ => False
  | .outgrown, _, _ => False
def jumpOf : Exit → Option (Option Code)
  | .normal => some none
  | .ret => some (some .ret)
  | .exit id => some (some (.exit id))
  | .goto t => some (some (.goto t))
  | .panic _ => none
  | .outgrown => none
theorem roundPost_of {P : Program} {l : Nat} {R : Ending → World → Prop} {e : Exit} {a : Act} {W : World} {j : Option Code} (he : jumpOf e = some j) (h : ∃ v w', (Instr.endRound l j).run P W = .ok v w' ∧ R (.returned v) w') : roundPost P l R e a W := by
  cases e <;> simp only [jumpOf, Option.some.injEq, reduceCtorEq] at he <;> subst he <;> exact h
theorem wpIn_rangeO {P : Program} {n : Nat} {α : Type} {g : Operand} {ps : Array Tmp} {assign body : Code} {Q : Exit → Act → World → Prop} {a : Act} {w : World}
    (h1 : 1 ≤ n) {gf : Nat} {lb : Array Value} (hg : a.eval g = .func (.func gf) #[] lb) (eg : ∀ args w, (callFunc gf args).run P w = .ok (.enter gf args) w)
    {encs : α → Array Value} {Kp : World → World → Prop} {S Sp : List α → Prop} {N : Nat} (hseq : SeqO (n - 1) P gf lb encs Kp S Sp N w)
    (hKt : ∀ {A B C : World}, Kp A B → Kp B C → Kp A C) (hKb : ∀ (W : World) (o o' : Obj), W.heap[w.heap.size + 1]? = some o → o.isCells = false → Kp W (W.putObj (w.heap.size + 1) o')) (hps : ∀ x, (encs x).size = ps.size)
    (I : List α → World → Prop) (Ix : Code → List α → World → Prop) (hI : OwnFrom w.heap.size I) (hIx : ∀ c, OwnFrom w.heap.size (Ix c)) (h0 : I [] w) (a₁ : α → Act)
    (hassign : ∀ (l : Nat) (x : α) (W : World) (K : Act → World → Prop), K (a₁ x) W →
      assign.wpIn (Fence.wide.inRound l) (n - 1 - 1) P (Exit.then K (fun _ _ _ => False)) { tmps := (ps.zip (encs x)).foldl (fun t (p, v) => t.setIfInBounds p v) a.tmps, defers := [] } W)
    (hbody : ∀ (l : Nat) (pre : List α) (x : α) (W : World), I pre W → pre.length < N → body.wpIn (Fence.wide.inRound l) (n - 1 - 1) P (postO Kp I Ix (pre ++ [x]) W) (a₁ x) W)
    (hdone : ∀ (xs : List α) (W : World), S xs → I xs W → W.heap[w.heap.size]? = some (.deferred (some [])) → Q .normal { a with defers := { target := .collected w.heap.size, args := #[] } :: a.defers } W)
    (hstop : ∀ (c : Code) (pre : List α) (W : World), Sp pre → Ix c pre W → W.heap[w.heap.size]? = some (.deferred (some [])) → c.wpIn Fence.wide n P Q { a with defers := { target := .collected w.heap.size, args := #[] } :: a.defers } W) :
    (Code.rangeFunc g ps assign body).wpIn Fence.wide n P Q a w := by
  refine wpIn_rangeFunc fun fn hfn => ?_
  obtain ⟨lp, hlp⟩ : ∃ lp : LoopState → Option Code → Loop, lp = fun st pe => { state := st, pending := pe, fn, tmps := a.tmps, params := ps, assign, body, defers := w.heap.size } := ⟨_, rfl⟩
  obtain ⟨V, hV⟩ : ∃ V, (w.alloc (.deferred (some []))).alloc (.loop (lp .ready none)) = V := ⟨_, rfl⟩
  have vl : V.heap[w.heap.size + 1]? = some (.loop (lp .ready none)) := by
    have := World.alloc_heap_new (w.alloc (.deferred (some []))) (.loop (lp .ready none))
    rwa [World.size_alloc, hV] at this
  have vd : V.heap[w.heap.size]? = some (.deferred (some [])) := by
    rw [← hV]; exact (Below.heap_alloc _ _ _ (by simp)).trans (World.alloc_heap_new w _)
  have vs : V.heap.size = w.heap.size + 2 := by rw [← hV]; simp
  have vi : I [] V := by rw [← hV]; exact hI.alloc _ (hI.alloc _ h0)
  have vb : Below w.heap.size w V := by rw [← hV]; exact ((Below.refl _ w).alloc (Nat.le_refl _) _).alloc (by simp) _
  have wider : ∀ {A B : World} {row : Option Nat}, (∀ r, row = some r → V.heap.size ≤ r ∧ ∃ o : Obj, A.heap[r]? = some o ∧ o.isCells = false) → (∀ r, row = some r → w.heap.size ≤ r ∧ ∃ o : Obj, A.heap[r]? = some o ∧ o.isCells = false) :=
    fun {_ _ _} hr r e => ⟨by have := (hr r e).1; omega, (hr r e).2⟩
  have still : ∀ {A B : World} {row : Option Nat} {k : Nat} {o : Obj}, A.grownBy B row → (∀ r, row = some r → V.heap.size ≤ r ∧ ∃ o : Obj, A.heap[r]? = some o ∧ o.isCells = false) → k < w.heap.size + 2 → A.heap[k]? = some o → B.heap[k]? = some o :=
    fun {_ _ _ _ _} hg' hr hk ho => (hg'.block _ (Array.getElem?_eq_some_iff.1 ho).1 (fun e => by have := (hr _ e.symm).1; omega)).trans ho
  refine ⟨w.heap.size + 1, [{ target := .collected w.heap.size, args := #[] }], V, { target := .fn (.func gf) lb, args := #[.func (.yield (w.heap.size + 1)) #[] #[]] }, V, gf, #[.func (.yield (w.heap.size + 1)) #[] #[]] ++ lb, V,
    by rw [← hV, hlp]; exact run_enterLoop_outer _ _ _ _ _, by simp only [resolve, hg]; simp [go_sem], fun _ _ => trivial, by simp [invoke, go_sem, eg], fun _ => h1, ?_⟩
  refine (hseq (w.heap.size + 1)
    (fun pre W => I pre W ∧ W.heap[w.heap.size + 1]? = some (.loop (lp .ready none)) ∧ W.heap[w.heap.size]? = some (.deferred (some [])))
    (fun pre W => ∃ c, Ix c pre W ∧ W.heap[w.heap.size + 1]? = some (.loop (lp .done (some c))) ∧ W.heap[w.heap.size]? = some (.deferred (some [])))
    V vb (by omega) (fun s A B row hs hg' hr => ⟨hI s A B row hs.1 hg' (wider (B := B) hr), still hg' hr (by omega) hs.2.1, still hg' hr (by omega) hs.2.2⟩)
    (fun s A B row hs hg' hr => by
      obtain ⟨c, h1, h2, h3⟩ := hs
      exact ⟨c, hIx c s A B row h1 hg' (wider (B := B) hr), still hg' hr (by omega) h2, still hg' hr (by omega) h3⟩) ?_ ⟨vi, vl, vd⟩).mono ?_
  · rintro pre x W ⟨hi, hl, hd⟩ hlen
    have hlt : w.heap.size + 1 < W.heap.size := (Array.getElem?_eq_some_iff.1 hl).1
    have hy := run_yield (P := P) (args := encs x) hl (by rw [hlp]; exact hps x)
    rw [hlp] at hy
    refine ⟨fn, _, assign, body, hy, roundIn_of_wpIn hfn (hassign _ x W _ ⟨_, run_beginRound hl (by rw [hlp]), ?_⟩)⟩
    obtain ⟨U, hU⟩ : ∃ U, W.putObj (w.heap.size + 1) (.loop { lp .ready none with state := .busy }) = U := ⟨_, rfl⟩
    have ul : U.heap[w.heap.size + 1]? = some (.loop { lp .ready none with state := .busy }) := by rw [← hU]; exact World.putObj_heap_same hlt
    have ud : U.heap[w.heap.size]? = some (.deferred (some [])) := by rw [← hU]; exact (World.putObj_heap_other (by omega)).trans hd
    have uk : Kp W U := by rw [← hU]; exact hKb _ _ _ hl rfl
    have ui : I pre U := by rw [← hU]; exact hI.putObj _ hi (by omega) hl rfl
    rw [hU]
    refine wpIn_mono (hbody _ pre x U ui hlen) fun e a3 X hp => ?_
    have fin : ∀ (j : Option Code), KeepsOthers U X → Kp U X → ∃ Y, (Instr.endRound (w.heap.size + 1) j).run P X = .ok (.bool j.isNone) Y ∧ Y = X.putObj (w.heap.size + 1) (.loop (lp (if j.isNone then .ready else .done) j)) ∧ X.heap[w.heap.size + 1]? = some (.loop { lp .ready none with state := .busy }) ∧ Y.heap[w.heap.size + 1]? = some (.loop (lp (if j.isNone then .ready else .done) j)) ∧ Y.heap[w.heap.size]? = some (.deferred (some [])) ∧ Kp W Y := fun j ko kp => by
      have xl := ko.same _ _ ul rfl
      have hr := run_endRound (P := P) j xl
      refine ⟨X.putObj (w.heap.size + 1) (.loop (lp (if j.isNone then .ready else .done) j)), by rw [hr, hlp], rfl, xl, World.putObj_heap_same (Array.getElem?_eq_some_iff.1 xl).1, (World.putObj_heap_other (by omega)).trans (ko.same _ _ ud rfl), hKt uk (hKt kp (hKb _ _ _ xl rfl))⟩
    cases e with
    | normal =>
      obtain ⟨ko, kp, hi3⟩ := hp
      obtain ⟨Y, hr, hY, xl, yl, yd, ky⟩ := fin none ko kp
      exact roundPost_of (j := none) rfl ⟨_, Y, hr, ky, .inl ⟨rfl, by rw [hY]; exact hI.putObj _ hi3 (by omega) xl rfl, yl, yd⟩⟩
    | ret =>
      obtain ⟨ko, kp, hi3⟩ := hp
      obtain ⟨Y, hr, hY, xl, yl, yd, ky⟩ := fin (some .ret) ko kp
      exact roundPost_of (j := some .ret) rfl ⟨_, Y, hr, ky, .inr ⟨rfl, _, by rw [hY]; exact (hIx _).putObj _ hi3 (by omega) xl rfl, yl, yd⟩⟩
    | exit id =>
      obtain ⟨ko, kp, hi3⟩ := hp
      obtain ⟨Y, hr, hY, xl, yl, yd, ky⟩ := fin (some (.exit id)) ko kp
      exact roundPost_of (j := some (.exit id)) rfl ⟨_, Y, hr, ky, .inr ⟨rfl, _, by rw [hY]; exact (hIx _).putObj _ hi3 (by omega) xl rfl, yl, yd⟩⟩
    | goto t =>
      obtain ⟨ko, kp, hi3⟩ := hp
      obtain ⟨Y, hr, hY, xl, yl, yd, ky⟩ := fin (some (.goto t)) ko kp
      exact roundPost_of (j := some (.goto t)) rfl ⟨_, Y, hr, ky, .inr ⟨rfl, _, by rw [hY]; exact (hIx _).putObj _ hi3 (by omega) xl rfl, yl, yd⟩⟩
    | panic ch => exact hp.elim
    | outgrown => exact hp.elim
  · rintro e X ⟨⟨v, rfl⟩, (⟨xs, hS, hi, hl, hd⟩ | ⟨pre, hSp, c, hi, hl, hd⟩)⟩
    · have hr := run_endLoop (P := P) hl (by rw [hlp]; simp)
      rw [hlp] at hr
      exact ⟨none, _, hr, hdone xs _ hS (hI.putObj _ hi (by omega) hl rfl) ((World.putObj_heap_other (by omega)).trans hd)⟩
    · have hr := run_endLoop (P := P) hl (by rw [hlp]; simp)
      rw [hlp] at hr
      exact ⟨some c, _, hr, hstop c pre _ hSp ((hIx c).putObj _ hi (by omega) hl rfl) ((World.putObj_heap_other (by omega)).trans hd)⟩
def NR (Bk : Nat) (W : World) (k : Nat) : Prop := ∀ v r, W.cell? ⟨Bk, 0, none⟩ = some v → v.ownBlock = some r → r ≠ k
theorem NR.of_block {Bk k : Nat} {W W' : World} (h : NR Bk W k) (e : W'.heap[Bk]? = W.heap[Bk]?) : NR Bk W' k := fun v r hc => h v r ((World.cell?_of_block (a := ⟨Bk, 0, none⟩) e).symm.trans hc)
structure KeepR (Bk L : Nat) (W W' : World) : Prop where
  size : W.heap.size ≤ W'.heap.size
  cells : ∀ (k : Nat) (o : Obj), W.heap[k]? = some o → o.isCells = true → k ≠ Bk → NR Bk W k → W'.heap[k]? = some o
  others : ∀ (k : Nat) (o : Obj), W.heap[k]? = some o → o.isCells = false → L < k → W'.heap[k]? = some o
  row : ∀ k, k < W.heap.size → NR Bk W k → NR Bk W' k
theorem KeepR.trans {Bk L : Nat} {A B C : World} (h : KeepR Bk L A B) (k : KeepR Bk L B C) : KeepR Bk L A C :=
  ⟨Nat.le_trans h.size k.size, fun i o hi hc hb hn => k.cells i o (h.cells i o hi hc hb hn) hc hb (h.row i (Array.getElem?_eq_some_iff.1 hi).1 hn),
    fun i o hi hc hL => k.others i o (h.others i o hi hc hL) hc hL, fun i hi hn => k.row i (Nat.lt_of_lt_of_le hi h.size) (h.row i hi hn)⟩
theorem KeepR.refl (Bk L : Nat) (W : World) : KeepR Bk L W W := ⟨Nat.le_refl _, fun _ _ h _ _ _ => h, fun _ _ h _ _ => h, fun _ _ h => h⟩
theorem KeepR.put {Bk L : Nat} (hne : Bk ≠ L) (W : World) (o o' : Obj) (h : W.heap[L]? = some o) (hc : o.isCells = false) : KeepR Bk L W (W.putObj L o') := by
  refine ⟨by simp [World.putObj], fun k o1 hk h1 _ _ => ?_, fun k o1 hk _ hL => ?_, fun k _ hn => hn.of_block (World.putObj_heap_other hne)⟩
  · by_cases e : k = L
    · rw [e, h] at hk; cases hk; rw [hc] at h1; cases h1
    · exact (World.putObj_heap_other e).trans hk
  · exact (World.putObj_heap_other (by omega)).trans hk
theorem KeepR.boxed {Bk L B : Nat} {t : TypeId} {v : Value} {W W' : World} (h : KeepR Bk L W W') (hb : Boxed W B t v) (hne : B ≠ Bk) (hn : NR Bk W B) : Boxed W' B t v := h.cells B _ hb rfl hne hn
end Go.Proofs.YteiofebmgilclaaGreat
namespace Go.Proofs.YteiofebmgilclaaGreat
open Go.RowKit Go.Shelf
attribute [local go_sem] Oper.semAt_some
def macE {M : Int} (x : { x : Int // 0 ≤ x ∧ x ≤ M }) : Array Value := #[.int .i64 x.1]
theorem take_snocV {α : Type} {ms : List α} {k : Nat} {x : α} (h : ms[k]? = some x) : ms.take (k + 1) = ms.take k ++ [x] := by rw [List.take_add_one, h]; rfl
theorem values_any (w : World) (a : Option Addr) (n cap : Nat) : Calls Tryz.prog 57 #[.slice a n cap] w fun e w' =>
    e = .returned (.func (.func 109) #[] #[.pointer (some ⟨w.heap.size, 0, none⟩)]) ∧ w' = w.alloc (.cells #[.slice a n cap] 63) := by
  go_enter Tryz.func57, Tryz.ntmps57
  go_wp2
  go_ret
  exact ⟨rfl, rfl⟩
def allM : List { x : Int // 0 ≤ x ∧ x ≤ 7 } := List.ofFn fun i : Fin 8 => ⟨(i.1 : Int), by omega⟩
theorem lives_any (w : World) (a : Option Addr) (n cap : Nat) (z : Int) (al : List Bool) (hz : 0 ≤ z) (hs : SlB w w.heap.size a n al) :
    Calls Tryz.prog 108 #[.slice a n cap, .int .i64 z] w fun e w' => e = .returned (.bool (livesB al z)) ∧ w' = w := by
  obtain ⟨hx, hs⟩ := hs
  obtain ⟨i, rfl⟩ := Int.eq_ofNat_of_zero_le hz
  by_cases hlt : i < n
  · have hL : livesB al (i : Int) = atB al i := by simp [livesB, hx, hlt]
    have hlt' : (i : Int) < (n : Int) := by omega
    rw [hL]
    rcases hs with hs | ⟨b, off, rfl, hb, h1⟩
    · omega
    · have c := h1 i _ (atB_of (by omega))
      clear h1 hL
      go_enter Tryz.func108, Tryz.ntmps108
      go_wp2
      go_ret
      exact ⟨rfl, rfl⟩
  · have hL : livesB al (i : Int) = false := by simp [livesB, hx, hlt]
    have hd : decide ((i : Int) < (n : Int)) = false := by simp; omega
    rw [hL]
    clear hs
    go_enter Tryz.func108, Tryz.ntmps108
    go_wp2
    go_ret
    exact ⟨rfl, rfl⟩
theorem living_any (w : World) (gf : Nat) (lb : Array Value) (a : Option Addr) (n cap : Nat) : Calls Tryz.prog 56 #[.func (.func gf) #[] lb, .slice a n cap] w fun e w' =>
    e = .returned (.func (.func 107) #[] #[.pointer (some ⟨w.heap.size, 0, none⟩), .pointer (some ⟨w.heap.size + 1, 0, none⟩)]) ∧ w' = (w.alloc (.cells #[.func (.func gf) #[] lb] 55)).alloc (.cells #[.slice a n cap] 104) := by
  go_enter Tryz.func56, Tryz.ntmps56
  go_wp2
  go_ret
  exact ⟨rfl, rfl⟩
attribute [local go_sem] Oper.semAt_some
def livM {M : Int} (al : List Bool) (ms : List { x : Int // 0 ≤ x ∧ x ≤ M }) : List { x : Int // 0 ≤ x ∧ x ≤ M } := ms.filter fun x => livesB al x.1
theorem livM_snoc {M : Int} (al : List Bool) (ms : List { x : Int // 0 ≤ x ∧ x ≤ M }) (x : { x : Int // 0 ≤ x ∧ x ≤ M }) : livM al (ms ++ [x]) = if livesB al x.1 = true then livM al ms ++ [x] else livM al ms := by
  rw [livM, List.filter_append]
  by_cases h : livesB al x.1 = true
  · simp [h, livM]
  · simp [h, livM]
theorem livM_len {M : Int} (al : List Bool) (ms : List { x : Int // 0 ≤ x ∧ x ≤ M }) : (livM al ms).length ≤ ms.length := List.length_filter_le _ _
structure LivI (l y0 Ba Bk n₀ : Nat) (aa : Option Addr) (na ca : Nat) (X Y : World) : Prop where
  yb : Boxed Y y0 62 (.func (.yield l) #[] #[])
  ab : Boxed Y Ba 104 (.slice aa na ca)
  n1 : NR Bk Y y0
  n2 : NR Bk Y Ba
  sz : X.heap.size ≤ Y.heap.size
  bel : Below n₀ X Y
theorem LivI.own {β : Type} {l y0 Ba Bk n₀ : Nat} {aa : Option Addr} {na ca : Nat} {X : World} (hBk : Bk < X.heap.size) (hn : n₀ ≤ X.heap.size) : OwnFrom X.heap.size (fun (_ : β) Y => LivI l y0 Ba Bk n₀ aa na ca X Y) := fun s A B row hs hg hr => by
  have far : ∀ k, k < X.heap.size → B.heap[k]? = A.heap[k]? := fun k hk => hg.block k (Nat.lt_of_lt_of_le hk hs.sz) (fun e => by have := (hr k e.symm).1; omega)
  have box : ∀ {k : Nat} {t : TypeId} {v : Value}, Boxed A k t v → Boxed B k t v := fun {k t v} h => h.kept hg (fun e => by
    obtain ⟨_, o, ho, hc⟩ := hr k e.symm
    rw [show A.heap[k]? = _ from h] at ho; cases ho; cases hc)
  exact ⟨box hs.yb, box hs.ab, hs.n1.of_block (far Bk hBk), hs.n2.of_block (far Bk hBk), Nat.le_trans hs.sz hg.size, hs.bel.grown hg (Nat.le_trans hn hs.sz) (fun k e => by have := (hr k e).1; omega)⟩
end Go.Proofs.YteiofebmgilclaaGreat