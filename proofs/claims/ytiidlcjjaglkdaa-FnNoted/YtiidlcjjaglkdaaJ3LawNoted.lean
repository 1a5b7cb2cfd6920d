/- TxI; SofD; PilM; PilC; UntZ; PilN: joined. -/
import Derived.Test.YtiidlcjjaglkdaaRows
import Derived.Test.YtiidlcjjaglkdaaJ2LawNoted
import Derived.WalkKit
import Derived.WalkSpells
import Derived.WalkLawsBesides
import Derived.Below
import Derived.Test.YtiidlcjjaglkdaaJ0LawNoted
import Derived.Maps.OwnSet
import Derived.Maps.Views
import Derived.DeepKeys4
import Derived.OrdersHeld
import Derived.Deep.RegionHeld
import Derived.Deep.CutRange
namespace Go.Proofs.Ytiidlcjjaglkdaa
open Go.RowKit
set_option maxHeartbeats 4000000 in
theorem implTxOk_any (w : World) (v : TV) (t : T7) (hl : TL t) (hs : SlT w v t) :
    Calls Try.prog 16 #[v.val t] w fun e w' => e = .returned (.bool (txB t)) ∧ Below w.heap.size w w' := by
  obtain ⟨ar, cr, ah, ch⟩ := v
  simp only [TV.val]
  obtain ⟨W, hW⟩ : ∃ W, W = w.alloc (.cells #[.int .i64 t.id, .int .i64 t.home, .int .i64 t.phase, .int .i64 t.count, .slice ar t.reads.length cr, .slice ah t.sets.length ch, .int .i64 t.stamp] 27) := ⟨_, rfl⟩
  have b0 : Below w.heap.size w W := by rw [hW]; exact (Below.refl _ _).alloc (Nat.le_refl _) _
  have x0 : BT W w.heap.size ⟨ar, cr, ah, ch⟩ t := by rw [hW]; exact BT.box w ⟨ar, cr, ah, ch⟩ t _
  have H : Hid (SlT W ⟨ar, cr, ah, ch⟩ t ∧ BT W w.heap.size ⟨ar, cr, ah, ch⟩ t ∧ TL t) := ⟨hs.later b0, x0, hl⟩
  have BW : Hid (Below w.heap.size w W) := b0
  clear hs b0 x0 hl
  by_cases g0 : inB 1 1000000 t.id = true
  case neg =>
    have d0 : inB 1 1000000 t.id = false := by simpa using g0
    have hb : txB t = false := by simp [txB, headB, d0]
    rw [hb]
    rw [hW] at BW
    clear H hW
    go_enter Try.func16, Try.ntmps16
    go_wp2_with (first | (go_at_call 63; refine (implId _ _).mono ?_; rintro e w' ⟨rfl, rfl⟩) | (go_at_call 64; refine (implMachine _ _).mono ?_; rintro e w' ⟨rfl, rfl⟩) | (go_at_call 65; refine (implPhase _ _).mono ?_; rintro e w' ⟨rfl, rfl⟩) | (go_at_call 66; refine (implDone _ _).mono ?_; rintro e w' ⟨rfl, rfl⟩) | (go_at_call 67; refine (implStamp _ _).mono ?_; rintro e w' ⟨rfl, rfl⟩))
    go_ret
    exact ⟨rfl, BW.out⟩
  by_cases g1 : inB 0 7 t.home = true
  case neg =>
    have d1 : inB 0 7 t.home = false := by simpa using g1
    have hb : txB t = false := by simp [txB, headB, d1]
    rw [hb]
    rw [hW] at BW
    clear H hW
    go_enter Try.func16, Try.ntmps16
    go_wp2_with (first | (go_at_call 63; refine (implId _ _).mono ?_; rintro e w' ⟨rfl, rfl⟩) | (go_at_call 64; refine (implMachine _ _).mono ?_; rintro e w' ⟨rfl, rfl⟩) | (go_at_call 65; refine (implPhase _ _).mono ?_; rintro e w' ⟨rfl, rfl⟩) | (go_at_call 66; refine (implDone _ _).mono ?_; rintro e w' ⟨rfl, rfl⟩) | (go_at_call 67; refine (implStamp _ _).mono ?_; rintro e w' ⟨rfl, rfl⟩))
    go_ret
    exact ⟨rfl, BW.out⟩
  by_cases g2 : inB 1 9 t.phase = true
  case neg =>
    have d2 : inB 1 9 t.phase = false := by simpa using g2
    have hb : txB t = false := by simp [txB, headB, d2]
    rw [hb]
    rw [hW] at BW
    clear H hW
    go_enter Try.func16, Try.ntmps16
    go_wp2_with (first | (go_at_call 63; refine (implId _ _).mono ?_; rintro e w' ⟨rfl, rfl⟩) | (go_at_call 64; refine (implMachine _ _).mono ?_; rintro e w' ⟨rfl, rfl⟩) | (go_at_call 65; refine (implPhase _ _).mono ?_; rintro e w' ⟨rfl, rfl⟩) | (go_at_call 66; refine (implDone _ _).mono ?_; rintro e w' ⟨rfl, rfl⟩) | (go_at_call 67; refine (implStamp _ _).mono ?_; rintro e w' ⟨rfl, rfl⟩))
    go_ret
    exact ⟨rfl, BW.out⟩
  by_cases g3 : inB 0 1000 t.count = true
  case neg =>
    have d3 : inB 0 1000 t.count = false := by simpa using g3
    have hb : txB t = false := by simp [txB, headB, d3]
    rw [hb]
    rw [hW] at BW
    clear H hW
    go_enter Try.func16, Try.ntmps16
    go_wp2_with (first | (go_at_call 63; refine (implId _ _).mono ?_; rintro e w' ⟨rfl, rfl⟩) | (go_at_call 64; refine (implMachine _ _).mono ?_; rintro e w' ⟨rfl, rfl⟩) | (go_at_call 65; refine (implPhase _ _).mono ?_; rintro e w' ⟨rfl, rfl⟩) | (go_at_call 66; refine (implDone _ _).mono ?_; rintro e w' ⟨rfl, rfl⟩) | (go_at_call 67; refine (implStamp _ _).mono ?_; rintro e w' ⟨rfl, rfl⟩))
    go_ret
    exact ⟨rfl, BW.out⟩
  by_cases g4 : inB 0 1000000 t.stamp = true
  case neg =>
    have d4 : inB 0 1000000 t.stamp = false := by simpa using g4
    have hb : txB t = false := by simp [txB, headB, d4]
    rw [hb]
    rw [hW] at BW
    clear H hW
    go_enter Try.func16, Try.ntmps16
    go_wp2_with (first | (go_at_call 63; refine (implId _ _).mono ?_; rintro e w' ⟨rfl, rfl⟩) | (go_at_call 64; refine (implMachine _ _).mono ?_; rintro e w' ⟨rfl, rfl⟩) | (go_at_call 65; refine (implPhase _ _).mono ?_; rintro e w' ⟨rfl, rfl⟩) | (go_at_call 66; refine (implDone _ _).mono ?_; rintro e w' ⟨rfl, rfl⟩) | (go_at_call 67; refine (implStamp _ _).mono ?_; rintro e w' ⟨rfl, rfl⟩))
    go_ret
    exact ⟨rfl, BW.out⟩
  have HM : Hid (txB t = ((decide (t.reads.length ≤ 12) && (List.range t.reads.length).all (noAt t.reads)) && (decide (t.sets.length ≤ 12) && (List.range t.sets.length).all (seAt t.sets)))) := by
    unfold Hid
    simp only [txB, headB, g0, g1, g2, g3, g4, Bool.true_and]
    cases decide (t.reads.length ≤ 12) <;> cases decide (t.sets.length ≤ 12) <;> simp
  have c1 := noEach_any W ar cr t.reads H.out.2.2.r H.out.1.r
  generalize hR : (decide (t.reads.length ≤ 12) && (List.range t.reads.length).all (noAt t.reads)) = R at *
  go_enter Try.func16, Try.ntmps16
  go_wp2_with (first | (go_at_call 63; refine (implId _ _).mono ?_; rintro e w' ⟨rfl, rfl⟩) | (go_at_call 64; refine (implMachine _ _).mono ?_; rintro e w' ⟨rfl, rfl⟩) | (go_at_call 65; refine (implPhase _ _).mono ?_; rintro e w' ⟨rfl, rfl⟩) | (go_at_call 66; refine (implDone _ _).mono ?_; rintro e w' ⟨rfl, rfl⟩) | (go_at_call 67; refine (implStamp _ _).mono ?_; rintro e w' ⟨rfl, rfl⟩) | fail)
  rw [← hW]
  clear hW g0 g1 g2 g3 g4
  refine c1.mono ?_
  clear c1
  rintro e w1 ⟨rfl, b1⟩
  have a5 := (H.out.2.1.later b1).c5
  have KB : Hid (Below w.heap.size w w1) := BW.out.trans (b1.mono BW.out.size)
  have c2 := seEach_any w1 ah ch t.sets H.out.2.2.s (H.out.1.later b1).s
  clear b1
  cases R with
  | false =>
    clear c2
    go_wp2
    go_ret
    exact ⟨by rw [HM.out]; rfl, KB.out⟩
  | true =>
    go_wp2_with fail
    refine c2.mono ?_
    clear c2
    rintro e w2 ⟨rfl, b2⟩
    go_wp2
    go_ret
    exact ⟨by rw [HM.out]; rfl, KB.out.trans (b2.mono KB.out.size)⟩
def SAns (w : World) (xs : List S5) (e : Ending) (w' : World) : Prop :=
  ∃ (a : Option Addr) (c : Nat) (PS : Nat → Prop), e = .returned (.slice a xs.length c) ∧ OwnSe w' PS a xs ∧ (∀ q, PS q → w.heap.size ≤ q ∧ q < w'.heap.size) ∧ Below w.heap.size w w'
theorem SAns.of {w w' : World} {base : Nat} {v : Value} {xs : List S5} (h : RowS w' base v xs) (hb : w.heap.size ≤ base) (b : Below w.heap.size w w') : SAns w xs (.returned v) w' := by
  obtain ⟨a, c, e, ho⟩ := h.form
  exact ⟨a, c, _, by rw [e], ho, fun q hq => ⟨Nat.le_trans hb (h.lt hq).1, (h.lt hq).2⟩, b⟩
theorem SAns.none {w w' : World} (b : Below w.heap.size w w') : SAns w [] (.returned (.slice Option.none 0 0)) w' := ⟨Option.none, 0, fun _ => False, rfl, .inl rfl, fun _ h => h.elim, b⟩
def ofR (g : Int) (xs : List S5) : List S5 := xs.filter fun s => decide (s.region = g)
theorem txB_lens {t : T7} (h : txB t = true) : t.reads.length ≤ 12 ∧ t.sets.length ≤ 12 := by
  simp only [txB, Bool.and_eq_true, decide_eq_true_eq] at h
  exact ⟨h.1.1.1.2, h.1.1.2⟩
def setsOfT (t : T7) (g : Int) : List S5 := if txB t = true then ofR g t.sets else []
end Go.Proofs.Ytiidlcjjaglkdaa
namespace Go.Proofs.Ytiidlcjjaglkdaa
open Go.RowKit Go.Maps
def cKey (r s : Int) : Value := .agg #[.int .i64 r, .int .i64 s]
theorem keyLaw : Keyed Try.prog 72 := Keyed.of_law (deep_law_laid (m := 5) (by kernel_rfl) (by omega) (of_decide_eq_true (by kernel_rfl)) (by kernel_rfl) (by kernel_rfl))
theorem lit_ok {i : Nat} (hi : i ≤ 1000000) : (Lit.int .i64 (i : Int)).wf = true := by
  have h1 : IntKind.i64.min = -9223372036854775808 := rfl
  have h2 : IntKind.i64.max = 9223372036854775807 := rfl
  simp [Lit.wf, h1, h2]; omega
theorem six {r : Int} (h : inB 0 5 r = true) : r = 0 ∨ r = 1 ∨ r = 2 ∨ r = 3 ∨ r = 4 ∨ r = 5 := by
  rw [inB_iff] at h; omega
set_option maxHeartbeats 2000000 in
theorem cKey_ok {r s : Int} (h1 : inB 0 5 r = true) (h2 : inB 0 5 s = true) : ∃ l, keyOf Try.prog 72 (cKey r s) = some l := by
  have : (keyOf Try.prog 72 (cKey r s)).isSome = true := by
    rcases six h1 with rfl | rfl | rfl | rfl | rfl | rfl <;> rcases six h2 with rfl | rfl | rfl | rfl | rfl | rfl <;> kernel_rfl
  exact Option.isSome_iff_exists.1 this
theorem cKey_inj {r s q t : Int} {l : Lit} (h1 : keyOf Try.prog 72 (cKey r s) = some l) (h2 : keyOf Try.prog 72 (cKey q t) = some l) : r = q ∧ s = t := by
  have := keyLaw.inj h1 h2
  simp [cKey] at this
  exact this
def MapF (W : World) (b n : Nat) (f : Int → Int → Option Nat) : Prop :=
  ∃ D : DataW Unit, W.ownsMap Try.prog 72 (plainElem Try.prog 3) b n D ∧ ∀ r s l, keyOf Try.prog 72 (cKey r s) = some l → (f r s = none → has D l = false) ∧ (∀ i, f r s = some i → has D l = true ∧ ∀ z, D.atKey l z = .lit (.int .i64 (i : Int)))
theorem MapF.lt {W : World} {b n : Nat} {f : Int → Int → Option Nat} (h : MapF W b n f) : b < W.heap.size := by obtain ⟨D, h, _⟩ := h; exact h.lt
theorem MapF.mono {W : World} {b n n' : Nat} {f : Int → Int → Option Nat} (h : MapF W b n f) (hn : n ≤ n') : MapF W b n' f := by obtain ⟨D, h, h'⟩ := h; exact ⟨D, h.mono hn, h'⟩
theorem MapF.of_block {W W' : World} {b n : Nat} {f : Int → Int → Option Nat} (h : MapF W b n f) (e : W'.heap[b]? = W.heap[b]?) : MapF W' b n f := by
  obtain ⟨D, ⟨es, clock, hb, r⟩, h'⟩ := h
  exact ⟨D, ⟨es, clock, e.trans hb, r⟩, h'⟩
theorem MapF.later {W W' : World} {b n : Nat} {f : Int → Int → Option Nat} (h : MapF W b n f) (hb : Below W.heap.size W W') : MapF W' b n f := h.of_block (hb.block _ h.lt)
theorem MapF.made (W : World) : MapF (W.alloc (.map #[] 0)) W.heap.size 0 (fun _ _ => none) :=
  ⟨.map [], World.ownsMap_made W _ _ _, fun r s l _ => ⟨fun _ => rfl, fun i h => by cases h⟩⟩
theorem zero_int (W : World) : (zeroValue 3).run Try.prog W = .ok (.int .i64 0) W := by kernel_rfl
theorem MapF.look {W : World} {b n : Nat} {f : Int → Int → Option Nat} (h : MapF W b n f) {r s : Int} (h1 : inB 0 5 r = true) (h2 : inB 0 5 s = true) :
    (Instr.lookup 103 (.map (some b)) (cKey r s) true).run Try.prog W = .ok (.tuple #[.int .i64 (((f r s).getD 0 : Nat) : Int), .bool (f r s).isSome]) W := by
  obtain ⟨D, hD, hf⟩ := h
  obtain ⟨l, hl⟩ := cKey_ok h1 h2
  obtain ⟨v, ps, hrun, hv⟩ := hD.look_ok keyLaw Try.underlying103 (zero_int W) (plainElem_int Try.underlying3 (by decide)) hl
  obtain ⟨g1, g2⟩ := hf r s l hl
  cases e : f r s with
  | none =>
    rw [g1 e] at hrun
    rw [atKey_of_not_has (g1 e)] at hv
    obtain ⟨a, rfl, ha, _⟩ := plainElem_int_inv Try.underlying3 hv
    simp at ha
    rw [hrun, ← ha.1]
    rfl
  | some i =>
    rw [(g2 i e).1] at hrun
    rw [(g2 i e).2] at hv
    obtain ⟨a, rfl, ha, _⟩ := plainElem_int_inv Try.underlying3 hv
    simp at ha
    rw [hrun, ← ha.1]
    rfl
def putF (f : Int → Int → Option Nat) (r s : Int) (i : Nat) : Int → Int → Option Nat := fun q t => if q = r ∧ t = s then some i else f q t
theorem Turned.of_map {W W' : World} {b : Nat} (h : W.mapTurned W' b) : Turned b W W' := by
  have hg := h.grown
  exact ⟨hg.os, hg.tape, hg.output, hg.size, fun k hk hc => hg.block k hk (fun e => hc (Option.some.inj e))⟩
theorem MapF.store {W : World} {b n : Nat} {f : Int → Int → Option Nat} (h : MapF W b n f) (hn : n ≤ 1000000) {r s : Int} (h1 : inB 0 5 r = true) (h2 : inB 0 5 s = true) (i : Nat) (hi : i ≤ 1000000) :
    ∃ W', (Instr.mapUpdate 103 (.map (some b)) (cKey r s) (.int .i64 (i : Int))).run Try.prog W = .ok () W' ∧ MapF W' b (n + 1) (putF f r s i) ∧ Turned b W W' ∧ W'.heap.size = W.heap.size := by
  obtain ⟨D, hD, hf⟩ := h
  obtain ⟨l, hl⟩ := cKey_ok h1 h2
  have hwf : (Lit.int .i64 (i : Int)).wf = true := lit_ok hi
  obtain ⟨W', hrun, hD', ht⟩ := hD.store keyLaw Try.underlying103 (by unfold maxLen; omega) hl (plainElem_int Try.underlying3 hwf)
  refine ⟨W', hrun, ⟨_, hD', fun q t l' hl' => ?_⟩, Turned.of_map ht, ?_⟩
  · obtain ⟨g1, g2⟩ := hf q t l' hl'
    by_cases e : q = r ∧ t = s
    · obtain ⟨rfl, rfl⟩ := e
      rw [hl] at hl'
      obtain rfl := Option.some.inj hl'
      refine ⟨fun h => by simp [putF] at h, fun j hj => ?_⟩
      simp [putF] at hj
      subst hj
      exact ⟨has_put_same hD.isMap (keyLaw.key hl) _, fun z => atKey_put_same hD.isMap (keyLaw.key hl) _ z⟩
    · have hne : l' ≠ l := fun e' => e (by rw [e'] at hl'; exact cKey_inj hl' hl)
      have ep : putF f r s i q t = f q t := by unfold putF; rw [if_neg e]
      rw [ep]
      refine ⟨fun h => by rw [has_put_other hne]; exact g1 h, fun j hj => ?_⟩
      rw [has_put_other hne]
      exact ⟨(g2 j hj).1, fun z => by rw [atKey_put_other hne]; exact (g2 j hj).2 z⟩
  · obtain ⟨es, c, es', c', hb, rfl⟩ := ht
    simp [ChangeMaps.setBlock]
def MapN (W : World) (b n : Nat) : Prop := ∃ D : DataW Unit, W.ownsMap Try.prog 72 (plainElem Try.prog 3) b n D
theorem MapF.any {W : World} {b n : Nat} {f : Int → Int → Option Nat} (h : MapF W b n f) : MapN W b n := by obtain ⟨D, h, _⟩ := h; exact ⟨D, h⟩
theorem MapN.lt {W : World} {b n : Nat} (h : MapN W b n) : b < W.heap.size := by obtain ⟨D, h⟩ := h; exact h.lt
theorem MapN.mono {W : World} {b n n' : Nat} (h : MapN W b n) (hn : n ≤ n') : MapN W b n' := by obtain ⟨D, h⟩ := h; exact ⟨D, h.mono hn⟩
theorem MapN.of_block {W W' : World} {b n : Nat} (h : MapN W b n) (e : W'.heap[b]? = W.heap[b]?) : MapN W' b n := by
  obtain ⟨D, es, clock, hb, r⟩ := h
  exact ⟨D, es, clock, e.trans hb, r⟩
theorem MapN.later {W W' : World} {b n : Nat} (h : MapN W b n) (hb : Below W.heap.size W W') : MapN W' b n := h.of_block (hb.block _ h.lt)
theorem MapN.store {W : World} {b n : Nat} (h : MapN W b n) (hn : n ≤ 1000000) {r s : Int} (h1 : inB 0 5 r = true) (h2 : inB 0 5 s = true) (i : Nat) (hi : i ≤ 1000000) :
    ∃ W', (Instr.mapUpdate 103 (.map (some b)) (cKey r s) (.int .i64 (i : Int))).run Try.prog W = .ok () W' ∧ MapN W' b (n + 1) ∧ Turned b W W' ∧ W'.heap.size = W.heap.size := by
  obtain ⟨D, hD⟩ := h
  obtain ⟨l, hl⟩ := cKey_ok h1 h2
  have hwf : (Lit.int .i64 (i : Int)).wf = true := lit_ok hi
  obtain ⟨W', hrun, hD', ht⟩ := hD.store keyLaw Try.underlying103 (by unfold maxLen; omega) hl (plainElem_int Try.underlying3 hwf)
  refine ⟨W', hrun, ⟨_, hD'⟩, Turned.of_map ht, ?_⟩
  obtain ⟨es, c, es', c', hb, rfl⟩ := ht
  simp [ChangeMaps.setBlock]
theorem MapN.drop {W : World} {b n : Nat} (h : MapN W b n) {r s : Int} (h1 : inB 0 5 r = true) (h2 : inB 0 5 s = true) (ty : TypeId) :
    ∃ W', (Builtin.delete_ #[103, 72] ty #[.map (some b), cKey r s]).run Try.prog W = .ok (.tuple #[]) W' ∧ MapN W' b n ∧ Turned b W W' ∧ W'.heap.size = W.heap.size := by
  obtain ⟨D, hD⟩ := h
  obtain ⟨l, hl⟩ := cKey_ok h1 h2
  obtain ⟨W', hrun, hD', ht⟩ := hD.drop keyLaw Try.underlying103 hl ty
  refine ⟨W', hrun, ⟨_, hD'⟩, Turned.of_map ht, ?_⟩
  obtain ⟨es, c, es', c', hb, rfl⟩ := ht
  simp [ChangeMaps.setBlock]
end Go.Proofs.Ytiidlcjjaglkdaa
namespace Go.Proofs.Ytiidlcjjaglkdaa
open Go.RowKit
def OfP (p q mb : Nat) (x : Nat) : Prop := x = p ∨ x = q ∨ x = mb
theorem KeptP.of_turned {P : Nat → Prop} {c : Nat} {a b : World} (h : Turned c a b) (hc : P c) : KeptP P a b := ⟨h.os, h.tape, h.output, h.size, fun q hq hn => h.block q hq (fun e => hn (e ▸ hc))⟩
end Go.Proofs.Ytiidlcjjaglkdaa
namespace Go.Proofs.Ytiidlcjjaglkdaa
def lateB (n : Nat) (Z : Nat → Bool) (L : Array Bool) : Bool := (List.range n).any fun z => Z z && L.getD z false
theorem lateB_set {n : Nat} {Z : Nat → Bool} {L : Array Bool} {i : Nat} (hz : Z i = false) : lateB n Z (L.setIfInBounds i true) = lateB n Z L := by
  unfold lateB
  congr 1
  funext z
  by_cases e : i = z
  · subst e; simp [hz]
  · rw [getD_set_ne false e]
def wpZ (P : Program) (md : Region.Mode) (ops : Array Oper) (Q : Exit → Act → World → Prop) (S : World → Prop) (Z : Nat → Bool) : Nat → Array Bool → Act → World → Prop
  | 0, L, a, w => Region.ready md ops L = [] ∧ Q .normal a w
  | f + 1, L, a, w => (Region.ready md ops L = [] → Q .normal a w) ∧ ∀ i ∈ Region.ready md ops L, wpOp P ops Q i (fun a' w' => (lateB ops.size Z (L.setIfInBounds i true) = false → S w') ∧ wpZ P md ops Q S Z f (L.setIfInBounds i true) a' w') a w
theorem wpAny_of_z {P : Program} {ops : Array Oper} {Q : Exit → Act → World → Prop} {md : Region.Mode} {S : World → Prop} {Z : Nat → Bool} : ∀ (f : Nat) (L : Array Bool) (a : Act) (w : World), wpZ P md ops Q S Z f L a w → wpAny P md ops Q f L a w := by
  intro f
  induction f with
  | zero => exact fun _ _ _ h => h
  | succ f ih => exact fun L a w h => ⟨h.1, fun i hi => wpOp_mono (fun a' w' k => ih _ a' w' k.2) (h.2 i hi)⟩
def waitsZ (md : Region.Mode) (ops : Array Oper) (s i : Nat) : Bool := match ops[s]? with
  | some o => o.after.any fun e => Region.binds md e && e.on == i
  | none => false
theorem not_readyZ {md : Region.Mode} {ops : Array Oper} {i j : Nat} {oj : Oper} {L : Array Bool} (hr : i ∈ Region.ready md ops L) (hall : ∀ e ∈ oj.after, Region.binds md e = true → L.getD e.on false = true) (hj : ops[j]? = some oj) (hw : waitsZ md ops j i = true) : False := by
  simp only [waitsZ, hj, Array.any_eq_true, Bool.and_eq_true, beq_iff_eq] at hw
  obtain ⟨k, hk, hb, he⟩ := hw
  have h1 := hall _ (Array.getElem_mem hk) hb
  have h0 := (mem_ready.1 hr).1
  rw [he] at h1
  rcases Nat.lt_or_ge i L.size with h | h
  · simp [h] at h0 h1; rw [h0] at h1; cases h1
  · simp [Array.getElem?_eq_none h] at h1
def waitAll (md : Region.Mode) (ops : Array Oper) (Z : Nat → Bool) (i : Nat) : Bool := (List.range ops.size).all fun z => !Z z || waitsZ md ops z i
theorem waitAll_spec {md : Region.Mode} {ops : Array Oper} {Z : Nat → Bool} {i : Nat} (h : waitAll md ops Z i = true) {z : Nat} {o : Oper} (ho : ops[z]? = some o) (hz : Z z = true) : waitsZ md ops z i = true := by
  have hlt : z < ops.size := by
    rcases Nat.lt_or_ge z ops.size with h | h
    · exact h
    · rw [Array.getElem?_eq_none h] at ho; cases ho
  have := List.all_eq_true.1 h z (List.mem_range.2 hlt)
  simpa [hz] using this
theorem noWait {md : Region.Mode} {ops : Array Oper} {i j : Nat} {oj : Oper} {L : Array Bool} (hr : i ∈ Region.ready md ops L) (hall : ∀ e ∈ oj.after, Region.binds md e = true → L.getD e.on false = true) (hoj : ops[j]? = some oj) : ∀ x ∈ oj.after, Region.binds md x = true → x.on ≠ i := fun x hx hb he => not_readyZ hr hall hoj (by
  simp only [waitsZ, hoj, Array.any_eq_true, Bool.and_eq_true, beq_iff_eq]
  obtain ⟨k, hk, rfl⟩ := Array.getElem_of_mem hx
  exact ⟨k, hk, hb, he⟩)
theorem wpZ_first {P : Program} {ops : Array Oper} {Q : Exit → Act → World → Prop} {md : Region.Mode} {S : World → Prop} {Z : Nat → Bool} {i : Nat} {o : Oper} {v : Value} (ho : ops[i]? = some o) (hzi : Z i = false) (hw : waitAll md ops Z i = true) (hsel : ∀ (j : Nat) (o : Oper) cs b, ops[j]? = some o → o.op ≠ .select cs b) (hQ : ∀ c a w, Q (.panic c) (a.put o.dst v) w → Q (.panic c) a w) :
    ∀ (f : Nat) (L : Array Bool) (a : Act) (w : World), lateB ops.size Z L = false →
      (∀ j oj, ops[j]? = some oj → j ≠ i → L.getD j true = false → (∀ e ∈ oj.after, Region.binds md e = true → e.on ≠ i) → o.apart ops oj = true) →
      i ∈ Region.ready md ops L → YieldsIf P ops S o v a → S w → wpZ P md ops Q S Z f (L.setIfInBounds i true) (a.put o.dst v) w → wpZ P md ops Q S Z (f + 1) L a w := by
  intro f
  induction f with
  | zero =>
    intro L a w hL _ hr hy hS H
    refine ⟨fun h => absurd hr (by rw [h]; simp), fun j hj => ?_⟩
    by_cases e : j = i
    · rw [e]; exact hy.wpOp ho hS ⟨fun _ => hS, H⟩
    · have := ready_mono hj e
      rw [H.1] at this
      cases this
  | succ f ih =>
    intro L a w hL hfree hr hy hS H
    refine ⟨fun h => absurd hr (by rw [h]; simp), fun j hj => ?_⟩
    by_cases e : j = i
    · rw [e]; exact hy.wpOp ho hS ⟨fun _ => hS, H⟩
    · obtain ⟨hun, oj, hoj, hall⟩ := mem_ready.1 hj
      have hjs : Z j = false := by
        cases hz : Z j with
        | false => rfl
        | true => exact (not_readyZ hr hall hoj (waitAll_spec hw hoj hz)).elim
      have step := wpOp_putIf hoj (hfree j oj hoj e hun (noWait hr hall hoj)) (fun cs b => hsel i o cs b ho) (fun cs b => hsel j oj cs b hoj) hQ hy (H.2 j (ready_mono hj e))
      refine wpOp_mono (fun a' w' k => ?_) step
      have hS' : S w' := k.2.1 (by rw [lateB_set hjs, lateB_set hzi]; exact hL)
      refine ⟨fun _ => hS', ih _ a' w' (by rw [lateB_set hjs]; exact hL) (fun x ox hx hxi hxu hxn => hfree x ox hx hxi ?_ hxn) (ready_mono hr (Ne.symm e)) k.1 hS' ?_⟩
      · by_cases h : j = x
        · rw [← h]; exact hun
        · rw [getD_set_ne true h] at hxu; exact hxu
      · rw [Array.setIfInBounds_comm _ _ e]; exact k.2.2
theorem wpZ_pure {P : Program} {ops : Array Oper} {Q : Exit → Act → World → Prop} {md : Region.Mode} {S : World → Prop} {Z : Nat → Bool} {i : Nat} {o : Oper} {v : Value} (ho : ops[i]? = some o) (hzi : Z i = false) (hsel : ∀ (j : Nat) (o : Oper) cs b, ops[j]? = some o → o.op ≠ .select cs b) (hQ : ∀ c a w, Q (.panic c) (a.put o.dst v) w → Q (.panic c) a w) :
    ∀ (f : Nat) (L : Array Bool) (a : Act) (w : World),
      (∀ j oj, ops[j]? = some oj → j ≠ i → L.getD j true = false → (∀ e ∈ oj.after, Region.binds md e = true → e.on ≠ i) → o.apart ops oj = true) →
      i ∈ Region.ready md ops L → YieldsIf P ops (fun _ => True) o v a → (lateB ops.size Z L = false → S w) → wpZ P md ops Q S Z f (L.setIfInBounds i true) (a.put o.dst v) w → wpZ P md ops Q S Z (f + 1) L a w := by
  intro f
  induction f with
  | zero =>
    intro L a w _ hr hy hS H
    refine ⟨fun h => absurd hr (by rw [h]; simp), fun j hj => ?_⟩
    by_cases e : j = i
    · rw [e]; exact hy.wpOp ho trivial ⟨fun h => hS (by rw [← lateB_set hzi]; exact h), H⟩
    · have := ready_mono hj e
      rw [H.1] at this
      cases this
  | succ f ih =>
    intro L a w hfree hr hy hS H
    refine ⟨fun h => absurd hr (by rw [h]; simp), fun j hj => ?_⟩
    by_cases e : j = i
    · rw [e]; exact hy.wpOp ho trivial ⟨fun h => hS (by rw [← lateB_set hzi]; exact h), H⟩
    · obtain ⟨hun, oj, hoj, hall⟩ := mem_ready.1 hj
      have step := wpOp_putIf hoj (hfree j oj hoj e hun (noWait hr hall hoj)) (fun cs b => hsel i o cs b ho) (fun cs b => hsel j oj cs b hoj) hQ hy (H.2 j (ready_mono hj e))
      refine wpOp_mono (fun a' w' k => ?_) step
      have hS' : lateB ops.size Z (L.setIfInBounds j true) = false → S w' := fun h => k.2.1 (by rw [Array.setIfInBounds_comm _ _ (Ne.symm e), lateB_set hzi]; exact h)
      refine ⟨hS', ih _ a' w' (fun x ox hx hxi hxu hxn => hfree x ox hx hxi ?_ hxn) (ready_mono hr (Ne.symm e)) k.1 hS' ?_⟩
      · by_cases h : j = x
        · rw [← h]; exact hun
        · rw [getD_set_ne true h] at hxu; exact hxu
      · rw [Array.setIfInBounds_comm _ _ e]; exact k.2.2
theorem wpZ_take {P : Program} {ops : Array Oper} {Q : Exit → Act → World → Prop} {md : Region.Mode} {S : World → Prop} {Z : Nat → Bool} {i : Nat} {o : Oper} {v : Value} {f : Nat} {L : Array Bool} {a : Act} {w : World} (ho : ops[i]? = some o) (hc : (!Z i && !lateB ops.size Z L && waitAll md ops Z i && Region.noSelect ops && Region.free md ops L i && (Region.ready md ops L).contains i) = true)
    (hQ : ∀ c a w, Q (.panic c) (a.put o.dst v) w → Q (.panic c) a w) (hy : YieldsIf P ops S o v a) (hS : S w) (h : wpZ P md ops Q S Z f (L.setIfInBounds i true) (a.put o.dst v) w) : wpZ P md ops Q S Z (f + 1) L a w := by
  simp only [Bool.and_eq_true, Bool.not_eq_true'] at hc
  obtain ⟨⟨⟨⟨⟨h0, hl⟩, h1⟩, h2⟩, h3⟩, h4⟩ := hc
  exact wpZ_first ho h0 h1 (Region.noSelect_spec h2) hQ f L a w hl (Region.free_spec ho h3) (by simpa using h4) hy hS h
theorem wpZ_takeP {P : Program} {ops : Array Oper} {Q : Exit → Act → World → Prop} {md : Region.Mode} {S : World → Prop} {Z : Nat → Bool} {i : Nat} {o : Oper} {v : Value} {f : Nat} {L : Array Bool} {a : Act} {w : World} (ho : ops[i]? = some o) (hc : (!Z i && Region.noSelect ops && Region.free md ops L i && (Region.ready md ops L).contains i) = true)
    (hQ : ∀ c a w, Q (.panic c) (a.put o.dst v) w → Q (.panic c) a w) (hy : YieldsIf P ops (fun _ => True) o v a) (hS : S w) (h : wpZ P md ops Q S Z f (L.setIfInBounds i true) (a.put o.dst v) w) : wpZ P md ops Q S Z (f + 1) L a w := by
  simp only [Bool.and_eq_true, Bool.not_eq_true'] at hc
  obtain ⟨⟨⟨h0, h2⟩, h3⟩, h4⟩ := hc
  exact wpZ_pure ho h0 (Region.noSelect_spec h2) hQ f L a w (Region.free_spec ho h3) (by simpa using h4) hy (fun _ => hS) h
def AllZ (P : Program) (md : Region.Mode) (ops : Array Oper) (Q : Exit → Act → World → Prop) (S : World → Prop) (Z : Nat → Bool) (f : Nat) (L : Array Bool) (a : Act) (w : World) (rs : List Nat) : Prop :=
  ∀ i ∈ rs, wpOp P ops Q i (fun a' w' => (lateB ops.size Z (L.setIfInBounds i true) = false → S w') ∧ wpZ P md ops Q S Z f (L.setIfInBounds i true) a' w') a w
theorem AllZ.nil {P : Program} {ops : Array Oper} {Q : Exit → Act → World → Prop} {md : Region.Mode} {S : World → Prop} {Z : Nat → Bool} {f : Nat} {L : Array Bool} {a : Act} {w : World} : AllZ P md ops Q S Z f L a w [] := fun _ h => by cases h
theorem AllZ.cons {P : Program} {ops : Array Oper} {Q : Exit → Act → World → Prop} {md : Region.Mode} {S : World → Prop} {Z : Nat → Bool} {f : Nat} {L : Array Bool} {a : Act} {w : World} {i : Nat} {o : Oper} {rs : List Nat} (ho : ops[i]? = some o)
    (h : ∀ K' : Act → World → Prop, Shut (∀ a w, (lateB ops.size Z (L.setIfInBounds i true) = false → S w) → wpZ P md ops Q S Z f (L.setIfInBounds i true) a w → K' a w) → if Region.wanted o (yielded ops a.tmps) = true then Oper.wp P o a w K' Q else K' (a.put o.dst undef) w)
    (hs : AllZ P md ops Q S Z f L a w rs) : AllZ P md ops Q S Z f L a w (i :: rs) := fun j hj => by
  rcases List.mem_cons.1 hj with rfl | hj
  · exact wpOp_step ho (fun K' hK => h K' (fun a w hS hW => hK a w ⟨hS, hW⟩))
  · exact hs j hj
theorem wpZ_ready {P : Program} {ops : Array Oper} {Q : Exit → Act → World → Prop} {md : Region.Mode} {S : World → Prop} {Z : Nat → Bool} {rs : List Nat} {f : Nat} {L : Array Bool} {a : Act} {w : World} (hr : Region.ready md ops L = rs) (hne : rs ≠ []) (h : AllZ P md ops Q S Z f L a w rs) : wpZ P md ops Q S Z (f + 1) L a w :=
  ⟨fun h0 => absurd (hr.symm.trans h0) hne, fun i hi => h i (by rw [← hr]; exact hi)⟩
theorem wpZ_done {P : Program} {ops : Array Oper} {Q : Exit → Act → World → Prop} {md : Region.Mode} {S : World → Prop} {Z : Nat → Bool} {L : Array Bool} {a : Act} {w : World} (hr : Region.ready md ops L = []) (h : Q .normal a w) (f : Nat) : wpZ P md ops Q S Z f L a w := by
  cases f with
  | zero => exact ⟨hr, h⟩
  | succ f => exact ⟨fun _ => h, fun i hi => by rw [hr] at hi; cases hi⟩
theorem wp_region_z {P : Program} {ops : Array Oper} {Q : Exit → Act → World → Prop} {id : Nat} {a : Act} {w : World} (Z : Nat → Bool) (S : World → Prop) (hm : P.follows .mixedOrders = true) (h : wpZ P .any ops Q S Z ops.size (Array.replicate ops.size false) a w.drew) : (Code.region id ops true).wp P Q a w :=
  wp_region_any hm (wpAny_of_z _ _ _ _ h)
end Go.Proofs.Ytiidlcjjaglkdaa
namespace Go.Proofs.Ytiidlcjjaglkdaa
open Go.RowKit
structure Pin (W : World) (base p q mb n cap : Nat) (xs : List N5) : Prop where
  c0 : W.cell? ⟨p, 0, none⟩ = some (.slice (some ⟨q, 0, none⟩) xs.length cap)
  c1 : W.cell? ⟨p, 1, none⟩ = some (.map (some mb))
  fz : ∀ j, W.frozen? ⟨p, j, none⟩ = false
  at_ : NotesAt W q 0 xs
  rm : Room W q (xs.length * 5)
  cp : xs.length ≤ cap
  mp : MapN W mb n
  ok : ∀ s ∈ xs, noteOkB s = true
  pq : p ≠ q
  pm : p ≠ mb
  qm : q ≠ mb
  bp : base ≤ p
  bq : base ≤ q
  bm : base ≤ mb
  lp : p < W.heap.size
  lq : q < W.heap.size
theorem Pin.keep {W V : World} {base p q mb n cap : Nat} {xs : List N5} (h : Pin W base p q mb n cap xs) (hs : W.heap.size ≤ V.heap.size) (hk : ∀ x, OfP p q mb x → V.heap[x]? = W.heap[x]?) : Pin V base p q mb n cap xs :=
  ⟨(World.cell?_of_block (a := ⟨p, 0, none⟩) (hk p (.inl rfl))).trans h.c0, (World.cell?_of_block (a := ⟨p, 1, none⟩) (hk p (.inl rfl))).trans h.c1, fun j => (World.frozen?_of_block (a := ⟨p, j, none⟩) (hk p (.inl rfl))).trans (h.fz j), h.at_.of_block (hk q (.inr (.inl rfl))), h.rm.of_block (hk q (.inr (.inl rfl))), h.cp, h.mp.of_block (hk mb (.inr (.inr rfl))), h.ok, h.pq, h.pm, h.qm, h.bp, h.bq, h.bm, Nat.lt_of_lt_of_le h.lp hs, Nat.lt_of_lt_of_le h.lq hs⟩
theorem Pin.later {W V : World} {base p q mb n cap : Nat} {xs : List N5} (h : Pin W base p q mb n cap xs) (hb : Below W.heap.size W V) : Pin V base p q mb n cap xs := h.keep hb.size (fun x hx => hb.block x (by rcases hx with rfl | rfl | rfl; exact h.lp; exact h.lq; exact h.mp.lt))
theorem Pin.below_drew {W V : World} {base p q mb n cap : Nat} {xs : List N5} (h : Pin W base p q mb n cap xs) (e : W.drew = V) : Pin V base p q mb n cap xs := by rw [← e]; exact h.later ((Below.refl _ _).drew)
theorem Pin.mono {W : World} {base p q mb n n' cap : Nat} {xs : List N5} (h : Pin W base p q mb n cap xs) (hn : n ≤ n') : Pin W base p q mb n' cap xs := ⟨h.c0, h.c1, h.fz, h.at_, h.rm, h.cp, h.mp.mono hn, h.ok, h.pq, h.pm, h.qm, h.bp, h.bq, h.bm, h.lp, h.lq⟩
theorem Pin.turnM {W V : World} {base p q mb n n' cap : Nat} {xs : List N5} (h : Pin W base p q mb n cap xs) (ht : Turned mb W V) (hm : MapN V mb n') (hs : V.heap.size = W.heap.size) : Pin V base p q mb n' cap xs := by
  have hp := ht.block p h.lp h.pm
  have hq := ht.block q h.lq h.qm
  exact ⟨(World.cell?_of_block (a := ⟨p, 0, none⟩) hp).trans h.c0, (World.cell?_of_block (a := ⟨p, 1, none⟩) hp).trans h.c1, fun j => (World.frozen?_of_block (a := ⟨p, j, none⟩) hp).trans (h.fz j), h.at_.of_block hq, h.rm.of_block hq, h.cp, hm, h.ok, h.pq, h.pm, h.qm, h.bp, h.bq, h.bm, by rw [hs]; exact h.lp, by rw [hs]; exact h.lq⟩
theorem Pin.put5 {W : World} {base p q mb n cap i : Nat} {xs : List N5} {x : N5} (h : Pin W base p q mb n cap xs) (hi : xs[i]? = some x) (y : N5) (hy : noteOkB y = true) : Pin (((((W.setCell ⟨q, i * 5, none⟩ (.int .i64 y.region)).setCell ⟨q, i * 5 + 1, none⟩ (.int .i64 y.slot)).setCell ⟨q, i * 5 + 2, none⟩ (.int .i64 y.version)).setCell ⟨q, i * 5 + 3, none⟩ (.int .i64 y.value)).setCell ⟨q, i * 5 + 4, none⟩ (.bool y.used)) base p q mb n cap (xs.set i y) := by
  have li := (List.getElem?_eq_some_iff.1 hi).1
  have ho : OnlyBlock q W (((((W.setCell ⟨q, i * 5, none⟩ (.int .i64 y.region)).setCell ⟨q, i * 5 + 1, none⟩ (.int .i64 y.slot)).setCell ⟨q, i * 5 + 2, none⟩ (.int .i64 y.version)).setCell ⟨q, i * 5 + 3, none⟩ (.int .i64 y.value)).setCell ⟨q, i * 5 + 4, none⟩ (.bool y.used)) := (((((OnlyBlock.refl q _).setCell _ _).setCell _ _).setCell _ _).setCell _ _).setCell _ _
  have hp := ho.block p h.pq
  have hm := ho.block mb (Ne.symm h.qm)
  obtain ⟨v0, d0, _⟩ := h.rm (i * 5) (by omega)
  obtain ⟨v1, d1, _⟩ := h.rm (i * 5 + 1) (by omega)
  obtain ⟨v2, d2, _⟩ := h.rm (i * 5 + 2) (by omega)
  obtain ⟨v3, d3, _⟩ := h.rm (i * 5 + 3) (by omega)
  obtain ⟨v4, d4, _⟩ := h.rm (i * 5 + 4) (by omega)
  refine ⟨(World.cell?_of_block (a := ⟨p, 0, none⟩) hp).trans (by rw [List.length_set]; exact h.c0), (World.cell?_of_block (a := ⟨p, 1, none⟩) hp).trans h.c1, fun j => (World.frozen?_of_block (a := ⟨p, j, none⟩) hp).trans (h.fz j), fun k s hk => ?_, by rw [List.length_set]; exact ((((h.rm.set _).set _).set _).set _).set _, by rw [List.length_set]; exact h.cp, h.mp.of_block hm, fun s hs => ?_, h.pq, h.pm, h.qm, h.bp, h.bq, h.bm, by rw [ho.size]; exact h.lp, by rw [ho.size]; exact h.lq⟩
  · rw [Nat.zero_add]
    by_cases e : i = k
    · subst e
      rw [List.getElem?_set_self li] at hk
      obtain rfl := Option.some.inj hk
      exact NoteAt.put y d0 d1 d2 d3 d4
    · rw [List.getElem?_set_ne e] at hk
      have := h.at_ k s hk
      rw [Nat.zero_add] at this
      exact ((((this.set (by omega) _).set (by omega) _).set (by omega) _).set (by omega) _).set (by omega) _
  · rcases List.mem_or_eq_of_mem_set hs with hs | rfl
    · exact h.ok s hs
    · exact hy
set_option maxRecDepth 100000 in
set_option maxHeartbeats 8000000 in
theorem noSwap_any (w : World) (base p q mb n cap : Nat) (xs : List N5) (i j : Nat) (x y : N5) (h : Pin w base p q mb n cap xs) (hn : n ≤ 100000) (hl : xs.length ≤ 1000) (hi : xs[i]? = some x) (hj : xs[j]? = some y) :
    Calls Try.prog 116 #[.pointer (some ⟨p, 0, none⟩), .int .i64 (i : Int), .int .i64 (j : Int)] w fun e w' => e = .returned (.tuple #[]) ∧ Pin w' base p q mb (n + 1 + 1) cap ((xs.set i y).set j x) ∧ KeptP (OfP p q mb) w w' := by
  have li := (List.getElem?_eq_some_iff.1 hi).1
  have lj := (List.getElem?_eq_some_iff.1 hj).1
  have ix : (i : Int) < (xs.length : Int) := by omega
  have jx : (j : Int) < (xs.length : Int) := by omega
  have hS : (fun X : World => X.cell? ⟨p, 0, none⟩ = some (.slice (some ⟨q, 0, none⟩) xs.length cap) ∧ NoteAt X q (i * 5) x ∧ NoteAt X q (j * 5) y) w.drew := ⟨h.c0, (show NoteAt w q (i * 5) x by simpa using h.at_ i x hi).below ((Below.refl w.heap.size w).drew) h.lq, (show NoteAt w q (j * 5) y by simpa using h.at_ j y hj).below ((Below.refl w.heap.size w).drew) h.lq⟩
  have rd : Room w.drew q (xs.length * 5) := h.rm
  have KH := hidOf h
  clear h
  go_enter Try.func116, Try.ntmps116
  go_upto_region 0 with fail
  refine wp_region_z (fun z => z == 25 || z == 27) (fun X : World => X.cell? ⟨p, 0, none⟩ = some (.slice (some ⟨q, 0, none⟩) xs.length cap) ∧ NoteAt X q (i * 5) x ∧ NoteAt X q (j * 5) y) (by kernel_rfl) ?_
  obtain ⟨v0, c0, f0⟩ := rd (i * 5) (by omega)
  obtain ⟨v1, c1, f1⟩ := rd (i * 5 + 1) (by omega)
  obtain ⟨v2, c2, f2⟩ := rd (i * 5 + 2) (by omega)
  obtain ⟨v3, c3, f3⟩ := rd (i * 5 + 3) (by omega)
  obtain ⟨v4, c4, f4⟩ := rd (i * 5 + 4) (by omega)
  generalize hWd : w.drew = Wd at *
  refine wpZ_takeP (i := 0) (v := ?_) rfl (by kernel_rfl) (fun _ _ _ h => h) (Or.inl ⟨by rfl, ?_⟩) hS ?_
  rotate_left
  · (intro w _; go_simp; first | done | with_reducible rfl | (rw [if_pos (by omega)]) | (rw [if_pos (by omega)]; go_simp))
  simp only [Act.put]
  refine wpZ_takeP (i := 1) (v := ?_) rfl (by kernel_rfl) (fun _ _ _ h => h) (Or.inl ⟨by rfl, ?_⟩) hS ?_
  rotate_left
  · (intro w _; go_simp; first | done | with_reducible rfl | (rw [if_pos (by omega)]) | (rw [if_pos (by omega)]; go_simp))
  simp only [Act.put]
  refine wpZ_takeP (i := 2) (v := ?_) rfl (by kernel_rfl) (fun _ _ _ h => h) (Or.inl ⟨by rfl, ?_⟩) hS ?_
  rotate_left
  · (intro w _; go_simp; first | done | with_reducible rfl | (rw [if_pos (by omega)]) | (rw [if_pos (by omega)]; go_simp))
  simp only [Act.put]
  refine wpZ_take (i := 3) (v := ?_) rfl (by kernel_rfl) (fun _ _ _ h => h) (Or.inl ⟨by rfl, ?_⟩) hS ?_
  rotate_left
  · (intro w hSw; obtain ⟨s0, ⟨a0, a1, a2, a3, a4⟩, ⟨b0, b1, b2, b3, b4⟩⟩ := hSw; go_simp; first | done | with_reducible rfl)
  simp only [Act.put]
  refine wpZ_takeP (i := 4) (v := ?_) rfl (by kernel_rfl) (fun _ _ _ h => h) (Or.inl ⟨by rfl, ?_⟩) hS ?_
  rotate_left
  · (intro w _; go_simp; first | done | with_reducible rfl | (rw [if_pos (by omega)]) | (rw [if_pos (by omega)]; go_simp))
  simp only [Act.put]
  refine wpZ_takeP (i := 5) (v := ?_) rfl (by kernel_rfl) (fun _ _ _ h => h) (Or.inl ⟨by rfl, ?_⟩) hS ?_
  rotate_left
  · (intro w _; go_simp; first | done | with_reducible rfl | (rw [if_pos (by omega)]) | (rw [if_pos (by omega)]; go_simp))
  simp only [Act.put]
  refine wpZ_takeP (i := 6) (v := ?_) rfl (by kernel_rfl) (fun _ _ _ h => h) (Or.inl ⟨by rfl, ?_⟩) hS ?_
  rotate_left
  · (intro w _; go_simp; first | done | with_reducible rfl | (rw [if_pos (by omega)]) | (rw [if_pos (by omega)]; go_simp))
  simp only [Act.put]
  refine wpZ_takeP (i := 7) (v := ?_) rfl (by kernel_rfl) (fun _ _ _ h => h) (Or.inl ⟨by rfl, ?_⟩) hS ?_
  rotate_left
  · (intro w _; go_simp; first | done | with_reducible rfl | (rw [if_pos (by omega)]) | (rw [if_pos (by omega)]; go_simp))
  simp only [Act.put]
  refine wpZ_take (i := 8) (v := ?_) rfl (by kernel_rfl) (fun _ _ _ h => h) (Or.inl ⟨by rfl, ?_⟩) hS ?_
  rotate_left
  · (intro w hSw; obtain ⟨s0, ⟨a0, a1, a2, a3, a4⟩, ⟨b0, b1, b2, b3, b4⟩⟩ := hSw; go_simp; first | done | with_reducible rfl)
  simp only [Act.put]
  refine wpZ_takeP (i := 9) (v := ?_) rfl (by kernel_rfl) (fun _ _ _ h => h) (Or.inl ⟨by rfl, ?_⟩) hS ?_
  rotate_left
  · (intro w _; go_simp; first | done | with_reducible rfl | (rw [if_pos (by omega)]) | (rw [if_pos (by omega)]; go_simp))
  simp only [Act.put]
  refine wpZ_takeP (i := 10) (v := ?_) rfl (by kernel_rfl) (fun _ _ _ h => h) (Or.inl ⟨by rfl, ?_⟩) hS ?_
  rotate_left
  · (intro w _; go_simp; first | done | with_reducible rfl | (rw [if_pos (by omega)]) | (rw [if_pos (by omega)]; go_simp))
  simp only [Act.put]
  refine wpZ_takeP (i := 11) (v := ?_) rfl (by kernel_rfl) (fun _ _ _ h => h) (Or.inl ⟨by rfl, ?_⟩) hS ?_
  rotate_left
  · (intro w _; go_simp; first | done | with_reducible rfl | (rw [if_pos (by omega)]) | (rw [if_pos (by omega)]; go_simp))
  simp only [Act.put]
  refine wpZ_takeP (i := 12) (v := ?_) rfl (by kernel_rfl) (fun _ _ _ h => h) (Or.inl ⟨by rfl, ?_⟩) hS ?_
  rotate_left
  · (intro w _; go_simp; first | done | with_reducible rfl | (rw [if_pos (by omega)]) | (rw [if_pos (by omega)]; go_simp))
  simp only [Act.put]
  refine wpZ_take (i := 13) (v := ?_) rfl (by kernel_rfl) (fun _ _ _ h => h) (Or.inl ⟨by rfl, ?_⟩) hS ?_
  rotate_left
  · (intro w hSw; obtain ⟨s0, ⟨a0, a1, a2, a3, a4⟩, ⟨b0, b1, b2, b3, b4⟩⟩ := hSw; go_simp; first | done | with_reducible rfl)
  simp only [Act.put]
  refine wpZ_takeP (i := 14) (v := ?_) rfl (by kernel_rfl) (fun _ _ _ h => h) (Or.inl ⟨by rfl, ?_⟩) hS ?_
  rotate_left
  · (intro w _; go_simp; first | done | with_reducible rfl | (rw [if_pos (by omega)]) | (rw [if_pos (by omega)]; go_simp))
  simp only [Act.put]
  refine wpZ_takeP (i := 15) (v := ?_) rfl (by kernel_rfl) (fun _ _ _ h => h) (Or.inl ⟨by rfl, ?_⟩) hS ?_
  rotate_left
  · (intro w _; go_simp; first | done | with_reducible rfl | (rw [if_pos (by omega)]) | (rw [if_pos (by omega)]; go_simp))
  simp only [Act.put]
  refine wpZ_take (i := 16) (v := ?_) rfl (by kernel_rfl) (fun _ _ _ h => h) (Or.inl ⟨by rfl, ?_⟩) hS ?_
  rotate_left
  · (intro w hSw; obtain ⟨s0, ⟨a0, a1, a2, a3, a4⟩, ⟨b0, b1, b2, b3, b4⟩⟩ := hSw; go_simp; first | done | with_reducible rfl)
  simp only [Act.put]
  refine wpZ_takeP (i := 17) (v := ?_) rfl (by kernel_rfl) (fun _ _ _ h => h) (Or.inl ⟨by rfl, ?_⟩) hS ?_
  rotate_left
  · (intro w _; go_simp; first | done | with_reducible rfl | (rw [if_pos (by omega)]) | (rw [if_pos (by omega)]; go_simp))
  simp only [Act.put]
  refine wpZ_takeP (i := 18) (v := ?_) rfl (by kernel_rfl) (fun _ _ _ h => h) (Or.inl ⟨by rfl, ?_⟩) hS ?_
  rotate_left
  · (intro w _; go_simp; first | done | with_reducible rfl | (rw [if_pos (by omega)]) | (rw [if_pos (by omega)]; go_simp))
  simp only [Act.put]
  refine wpZ_takeP (i := 19) (v := ?_) rfl (by kernel_rfl) (fun _ _ _ h => h) (Or.inl ⟨by rfl, ?_⟩) hS ?_
  rotate_left
  · (intro w _; go_simp; first | done | with_reducible rfl | (rw [if_pos (by omega)]) | (rw [if_pos (by omega)]; go_simp))
  simp only [Act.put]
  refine wpZ_take (i := 20) (v := ?_) rfl (by kernel_rfl) (fun _ _ _ h => h) (Or.inl ⟨by rfl, ?_⟩) hS ?_
  rotate_left
  · (intro w hSw; obtain ⟨s0, ⟨a0, a1, a2, a3, a4⟩, ⟨b0, b1, b2, b3, b4⟩⟩ := hSw; go_simp; first | done | with_reducible rfl)
  simp only [Act.put]
  refine wpZ_takeP (i := 21) (v := ?_) rfl (by kernel_rfl) (fun _ _ _ h => h) (Or.inl ⟨by rfl, ?_⟩) hS ?_
  rotate_left
  · (intro w _; go_simp; first | done | with_reducible rfl | (rw [if_pos (by omega)]) | (rw [if_pos (by omega)]; go_simp))
  simp only [Act.put]
  refine wpZ_takeP (i := 22) (v := ?_) rfl (by kernel_rfl) (fun _ _ _ h => h) (Or.inl ⟨by rfl, ?_⟩) hS ?_
  rotate_left
  · (intro w _; go_simp; first | done | with_reducible rfl | (rw [if_pos (by omega)]) | (rw [if_pos (by omega)]; go_simp))
  simp only [Act.put]
  refine wpZ_take (i := 23) (v := ?_) rfl (by kernel_rfl) (fun _ _ _ h => h) (Or.inl ⟨by rfl, ?_⟩) hS ?_
  rotate_left
  · (intro w hSw; obtain ⟨s0, ⟨a0, a1, a2, a3, a4⟩, ⟨b0, b1, b2, b3, b4⟩⟩ := hSw; go_simp; first | done | with_reducible rfl)
  simp only [Act.put]
  refine wpZ_takeP (i := 24) (v := ?_) rfl (by kernel_rfl) (fun _ _ _ h => h) (Or.inl ⟨by rfl, ?_⟩) hS ?_
  rotate_left
  · (intro w _; go_simp; first | done | with_reducible rfl | (rw [if_pos (by omega)]) | (rw [if_pos (by omega)]; go_simp))
  simp only [Act.put]
  refine wpZ_ready (rs := [25]) (by kernel_rfl) (by simp) ?_
  refine AllZ.cons rfl (fun K hK => ?_) AllZ.nil
  go_simp
  refine hK.out _ _ (fun h => absurd (show false = true from h.symm.trans (by kernel_rfl)) (by decide)) ?_
  clear hK K
  refine wpZ_ready (rs := [26]) (by kernel_rfl) (by simp) ?_
  refine AllZ.cons rfl (fun K hK => ?_) AllZ.nil
  go_simp
  refine hK.out _ _ (fun h => absurd (show false = true from h.symm.trans (by kernel_rfl)) (by decide)) ?_
  clear hK K
  have r1 : Room (((((Wd.setCell ⟨q, i * 5, none⟩ (.int .i64 y.region)).setCell ⟨q, i * 5 + 1, none⟩ (.int .i64 y.slot)).setCell ⟨q, i * 5 + 2, none⟩ (.int .i64 y.version)).setCell ⟨q, i * 5 + 3, none⟩ (.int .i64 y.value)).setCell ⟨q, i * 5 + 4, none⟩ (.bool y.used)) q (xs.length * 5) := ((((rd.set _).set _).set _).set _).set _
  generalize hW1 : (((((Wd.setCell ⟨q, i * 5, none⟩ (.int .i64 y.region)).setCell ⟨q, i * 5 + 1, none⟩ (.int .i64 y.slot)).setCell ⟨q, i * 5 + 2, none⟩ (.int .i64 y.version)).setCell ⟨q, i * 5 + 3, none⟩ (.int .i64 y.value)).setCell ⟨q, i * 5 + 4, none⟩ (.bool y.used)) = W1 at *
  obtain ⟨u0, e0, g0⟩ := r1 (j * 5) (by omega)
  obtain ⟨u1, e1, g1⟩ := r1 (j * 5 + 1) (by omega)
  obtain ⟨u2, e2, g2⟩ := r1 (j * 5 + 2) (by omega)
  obtain ⟨u3, e3, g3⟩ := r1 (j * 5 + 3) (by omega)
  obtain ⟨u4, e4, g4⟩ := r1 (j * 5 + 4) (by omega)
  refine wpZ_ready (rs := [27]) (by kernel_rfl) (by simp) ?_
  refine AllZ.cons rfl (fun K hK => ?_) AllZ.nil
  go_simp
  refine hK.out _ _ (fun h => absurd (show false = true from h.symm.trans (by kernel_rfl)) (by decide)) ?_
  clear hK K
  refine wpZ_done (by kernel_rfl) ?_ _
  have hj' : (xs.set i y)[j]? = some y := by
    by_cases e : i = j
    · subst e; rw [List.getElem?_set_self li]
    · rw [List.getElem?_set_ne e]; exact hj
  have PF : Pin (((((W1.setCell ⟨q, j * 5, none⟩ (.int .i64 x.region)).setCell ⟨q, j * 5 + 1, none⟩ (.int .i64 x.slot)).setCell ⟨q, j * 5 + 2, none⟩ (.int .i64 x.version)).setCell ⟨q, j * 5 + 3, none⟩ (.int .i64 x.value)).setCell ⟨q, j * 5 + 4, none⟩ (.bool x.used)) base p q mb n cap ((xs.set i y).set j x) := by
    rw [← hW1]
    exact ((KH.out.below_drew hWd).put5 hi y (KH.out.ok y (List.mem_of_getElem? hj))).put5 hj' x (KH.out.ok x (List.mem_of_getElem? hi))
  have KF : KeptP (OfP p q mb) w (((((W1.setCell ⟨q, j * 5, none⟩ (.int .i64 x.region)).setCell ⟨q, j * 5 + 1, none⟩ (.int .i64 x.slot)).setCell ⟨q, j * 5 + 2, none⟩ (.int .i64 x.version)).setCell ⟨q, j * 5 + 3, none⟩ (.int .i64 x.value)).setCell ⟨q, j * 5 + 4, none⟩ (.bool x.used)) := by
    rw [← hW1, ← hWd]
    exact (KeptP.of_below ((Below.refl w.heap.size w).drew)).trans (KeptP.of_only (c := q) (((((((((((OnlyBlock.refl q _).setCell _ _).setCell _ _).setCell _ _).setCell _ _).setCell _ _).setCell _ _).setCell _ _).setCell _ _).setCell _ _).setCell _ _) (.inr (.inl rfl)))
  obtain ⟨zi, hzi⟩ : ∃ z, ((xs.set i y).set j x)[i]? = some z := ⟨_, List.getElem?_eq_getElem (by simpa using li)⟩
  have hzj : ((xs.set i y).set j x)[j]? = some x := by rw [List.getElem?_set_self (by simpa using lj)]
  have hle : ((xs.set i y).set j x).length = xs.length := by simp
  have KH2 : Hid (KeptP (OfP p q mb) w (((((W1.setCell ⟨q, j * 5, none⟩ (.int .i64 x.region)).setCell ⟨q, j * 5 + 1, none⟩ (.int .i64 x.slot)).setCell ⟨q, j * 5 + 2, none⟩ (.int .i64 x.version)).setCell ⟨q, j * 5 + 3, none⟩ (.int .i64 x.value)).setCell ⟨q, j * 5 + 4, none⟩ (.bool x.used)) ∧ Pin (((((W1.setCell ⟨q, j * 5, none⟩ (.int .i64 x.region)).setCell ⟨q, j * 5 + 1, none⟩ (.int .i64 x.slot)).setCell ⟨q, j * 5 + 2, none⟩ (.int .i64 x.version)).setCell ⟨q, j * 5 + 3, none⟩ (.int .i64 x.value)).setCell ⟨q, j * 5 + 4, none⟩ (.bool x.used)) base p q mb n cap ((xs.set i y).set j x)) := ⟨KF, PF⟩
  clear KH PF KF hj' rd r1 c0 c1 c2 c3 c4 f0 f1 f2 f3 f4 e0 e1 e2 e3 e4 g0 g1 g2 g3 g4 hS hWd hW1 ix jx
  generalize (((((W1.setCell ⟨q, j * 5, none⟩ (.int .i64 x.region)).setCell ⟨q, j * 5 + 1, none⟩ (.int .i64 x.slot)).setCell ⟨q, j * 5 + 2, none⟩ (.int .i64 x.version)).setCell ⟨q, j * 5 + 3, none⟩ (.int .i64 x.value)).setCell ⟨q, j * 5 + 4, none⟩ (.bool x.used)) = V at *
  have KH := KH2
  clear KH2
  generalize hZS : (xs.set i y).set j x = zs at *
  have hln : zs.length = xs.length := hle
  have ix : (i : Int) < (zs.length : Int) := by omega
  have jx : (j : Int) < (zs.length : Int) := by omega
  rw [← hln] at li lj hl
  have HZ := hidOf hZS
  clear hle hi hj hZS hln Wd W1
  have helA := hzi
  have helB := hzj
  clear hzi hzj
  obtain ⟨hzA, hziA⟩ : ∃ hz : noteOkB zi = true, V.heap.size = V.heap.size := ⟨KH.out.2.ok zi (List.mem_of_getElem? helA), rfl⟩
  have hkA := noOk_in hzA
  have hS : (fun X : World => X.cell? ⟨p, 0, none⟩ = some (.slice (some ⟨q, 0, none⟩) (zs).length cap) ∧ X.cell? ⟨p, 1, none⟩ = some (.map (some mb)) ∧ NoteAt X q (i * 5) zi) V.drew := ⟨KH.out.2.c0, KH.out.2.c1, (show NoteAt V q (i * 5) zi by simpa using KH.out.2.at_ i zi helA).below ((Below.refl V.heap.size V).drew) KH.out.2.lq⟩
  have hm : ∀ w : World, (method 247 29 (.agg #[.int .i64 zi.region, .int .i64 zi.slot, .int .i64 zi.version, .int .i64 zi.value, .bool zi.used]) "loop.example/g00153/impl.cell").run Try.prog w = .ok (42, .agg #[.int .i64 zi.region, .int .i64 zi.slot, .int .i64 zi.version, .int .i64 zi.value, .bool zi.used]) w := fun _ => by kernel_rfl
  go_upto_region 1 with fail
  refine wp_region_z (fun z => z == 14) (fun X : World => X.cell? ⟨p, 0, none⟩ = some (.slice (some ⟨q, 0, none⟩) (zs).length cap) ∧ X.cell? ⟨p, 1, none⟩ = some (.map (some mb)) ∧ NoteAt X q (i * 5) zi) (by kernel_rfl) ?_
  have KD : Hid (Below V.heap.size V V.drew) := (Below.refl _ _).drew
  generalize V.drew = Wd at *
  refine wpZ_takeP (i := 0) (v := ?_) rfl (by kernel_rfl) (fun _ _ _ h => h) (Or.inl ⟨by rfl, ?_⟩) hS ?_
  rotate_left
  · (intro w _; go_simp; first | done | with_reducible rfl | (rw [if_pos (by omega)]) | (rw [if_pos (by omega)]; go_simp))
  simp only [Act.put]
  refine wpZ_takeP (i := 1) (v := ?_) rfl (by kernel_rfl) (fun _ _ _ h => h) (Or.inl ⟨by rfl, ?_⟩) hS ?_
  rotate_left
  · (intro w _; go_simp; first | done | with_reducible rfl | (rw [if_pos (by omega)]) | (rw [if_pos (by omega)]; go_simp))
  simp only [Act.put]
  refine wpZ_takeP (i := 2) (v := ?_) rfl (by kernel_rfl) (fun _ _ _ h => h) (Or.inl ⟨by rfl, ?_⟩) hS ?_
  rotate_left
  · (intro w _; go_simp; first | done | with_reducible rfl | (rw [if_pos (by omega)]) | (rw [if_pos (by omega)]; go_simp))
  simp only [Act.put]
  refine wpZ_take (i := 3) (v := ?_) rfl (by kernel_rfl) (fun _ _ _ h => h) (Or.inl ⟨by rfl, ?_⟩) hS ?_
  rotate_left
  · (intro w hSw; obtain ⟨s0, s1, ⟨a0, a1, a2, a3, a4⟩⟩ := hSw; go_simp; first | done | with_reducible rfl)
  simp only [Act.put]
  refine wpZ_takeP (i := 4) (v := ?_) rfl (by kernel_rfl) (fun _ _ _ h => h) (Or.inl ⟨by rfl, ?_⟩) hS ?_
  rotate_left
  · (intro w _; go_simp; first | done | with_reducible rfl | (rw [if_pos (by omega)]) | (rw [if_pos (by omega)]; go_simp))
  simp only [Act.put]
  refine wpZ_takeP (i := 5) (v := ?_) rfl (by kernel_rfl) (fun _ _ _ h => h) (Or.inl ⟨by rfl, ?_⟩) hS ?_
  rotate_left
  · (intro w _; go_simp; first | done | with_reducible rfl | (rw [if_pos (by omega)]) | (rw [if_pos (by omega)]; go_simp))
  simp only [Act.put]
  refine wpZ_takeP (i := 6) (v := ?_) rfl (by kernel_rfl) (fun _ _ _ h => h) (Or.inl ⟨by rfl, ?_⟩) hS ?_
  rotate_left
  · (intro w _; go_simp; first | done | with_reducible rfl | (rw [if_pos (by omega)]) | (rw [if_pos (by omega)]; go_simp))
  simp only [Act.put]
  refine wpZ_take (i := 7) (v := ?_) rfl (by kernel_rfl) (fun _ _ _ h => h) (Or.inl ⟨by rfl, ?_⟩) hS ?_
  rotate_left
  · (intro w hSw; obtain ⟨s0, s1, ⟨a0, a1, a2, a3, a4⟩⟩ := hSw; go_simp; first | done | with_reducible rfl)
  simp only [Act.put]
  refine wpZ_takeP (i := 8) (v := ?_) rfl (by kernel_rfl) (fun _ _ _ h => h) (Or.inl ⟨by rfl, ?_⟩) hS ?_
  rotate_left
  · (intro w _; go_simp; first | done | with_reducible rfl | (rw [if_pos (by omega)]) | (rw [if_pos (by omega)]; go_simp))
  simp only [Act.put]
  refine wpZ_takeP (i := 9) (v := ?_) rfl (by kernel_rfl) (fun _ _ _ h => h) (Or.inl ⟨by rfl, ?_⟩) hS ?_
  rotate_left
  · (intro w _; go_simp; first | done | with_reducible rfl | (rw [if_pos (by omega)]) | (rw [if_pos (by omega)]; go_simp))
  simp only [Act.put]
  refine wpZ_take (i := 10) (v := ?_) rfl (by kernel_rfl) (fun _ _ _ h => h) (Or.inl ⟨by rfl, ?_⟩) hS ?_
  rotate_left
  · (intro w hSw; obtain ⟨s0, s1, ⟨a0, a1, a2, a3, a4⟩⟩ := hSw; go_simp; first | done | with_reducible rfl)
  simp only [Act.put]
  refine wpZ_takeP (i := 11) (v := ?_) rfl (by kernel_rfl) (fun _ _ _ h => h) (Or.inl ⟨by rfl, ?_⟩) hS ?_
  rotate_left
  · (intro w _; go_simp; first | done | with_reducible rfl | (rw [if_pos (by omega)]) | (rw [if_pos (by omega)]; go_simp))
  simp only [Act.put]
  refine wpZ_takeP (i := 13) (v := ?_) rfl (by kernel_rfl) (fun _ _ _ h => h) (Or.inl ⟨by rfl, ?_⟩) hS ?_
  rotate_left
  · (intro w _; go_simp; first | done | with_reducible rfl | (rw [if_pos (by omega)]) | (rw [if_pos (by omega)]; go_simp))
  simp only [Act.put]
  refine wpZ_ready (rs := [12]) (by kernel_rfl) (by simp) ?_
  refine AllZ.cons rfl (fun K hK => ?_) AllZ.nil
  go_simp
  refine (noCell_any Wd zi).mono ?_
  rintro e X2 ⟨rfl, b2⟩
  have bX : Below V.heap.size V X2 := KD.out.trans (b2.mono KD.out.size)
  have P2 := KH.out.2.later bX
  obtain ⟨Y, hst, hmY, htY, hsY⟩ := P2.mp.store (by omega) hkA.1 hkA.2 i (by omega)
  have P3 := P2.turnM htY hmY hsY
  have KX : Hid (KeptP (OfP p q mb) w Y ∧ Pin Y base p q mb (n + 1) cap (zs)) := ⟨(KH.out.1.trans (KeptP.of_below bX)).trans (KeptP.of_turned htY (.inr (.inr rfl))), P3⟩
  simp only [cKey] at hst
  have hS2 : (fun X : World => X.cell? ⟨p, 0, none⟩ = some (.slice (some ⟨q, 0, none⟩) (zs).length cap) ∧ X.cell? ⟨p, 1, none⟩ = some (.map (some mb)) ∧ NoteAt X q (i * 5) zi) X2 := ⟨P2.c0, P2.c1, by simpa using P2.at_ i zi helA⟩
  refine hK.out _ _ (fun _ => hS2) ?_
  clear hK K hS2 hS P2 P3 bX KD hmY htY hsY hm hzA hziA hkA KH b2
  refine wpZ_ready (rs := [14]) (by kernel_rfl) (by simp) ?_
  refine AllZ.cons rfl (fun K hK => ?_) AllZ.nil
  go_simp
  refine hK.out _ _ (fun h => absurd (show false = true from h.symm.trans (by kernel_rfl)) (by decide)) ?_
  clear hK K hst
  refine wpZ_done (by kernel_rfl) ?_ _
  have KH := KX
  clear KX
  generalize Y = V2 at *
  obtain ⟨hzB, hziB⟩ : ∃ hz : noteOkB x = true, V2.heap.size = V2.heap.size := ⟨KH.out.2.ok x (List.mem_of_getElem? helB), rfl⟩
  have hkB := noOk_in hzB
  have hS : (fun X : World => X.cell? ⟨p, 0, none⟩ = some (.slice (some ⟨q, 0, none⟩) (zs).length cap) ∧ X.cell? ⟨p, 1, none⟩ = some (.map (some mb)) ∧ NoteAt X q (j * 5) x) V2.drew := ⟨KH.out.2.c0, KH.out.2.c1, (show NoteAt V2 q (j * 5) x by simpa using KH.out.2.at_ j x helB).below ((Below.refl V2.heap.size V2).drew) KH.out.2.lq⟩
  have hm : ∀ w : World, (method 247 29 (.agg #[.int .i64 x.region, .int .i64 x.slot, .int .i64 x.version, .int .i64 x.value, .bool x.used]) "loop.example/g00153/impl.cell").run Try.prog w = .ok (42, .agg #[.int .i64 x.region, .int .i64 x.slot, .int .i64 x.version, .int .i64 x.value, .bool x.used]) w := fun _ => by kernel_rfl
  go_upto_region 2 with fail
  refine wp_region_z (fun z => z == 14) (fun X : World => X.cell? ⟨p, 0, none⟩ = some (.slice (some ⟨q, 0, none⟩) (zs).length cap) ∧ X.cell? ⟨p, 1, none⟩ = some (.map (some mb)) ∧ NoteAt X q (j * 5) x) (by kernel_rfl) ?_
  have KD : Hid (Below V2.heap.size V2 V2.drew) := (Below.refl _ _).drew
  generalize V2.drew = Wd at *
  refine wpZ_takeP (i := 0) (v := ?_) rfl (by kernel_rfl) (fun _ _ _ h => h) (Or.inl ⟨by rfl, ?_⟩) hS ?_
  rotate_left
  · (intro w _; go_simp; first | done | with_reducible rfl | (rw [if_pos (by omega)]) | (rw [if_pos (by omega)]; go_simp))
  simp only [Act.put]
  refine wpZ_takeP (i := 1) (v := ?_) rfl (by kernel_rfl) (fun _ _ _ h => h) (Or.inl ⟨by rfl, ?_⟩) hS ?_
  rotate_left
  · (intro w _; go_simp; first | done | with_reducible rfl | (rw [if_pos (by omega)]) | (rw [if_pos (by omega)]; go_simp))
  simp only [Act.put]
  refine wpZ_takeP (i := 2) (v := ?_) rfl (by kernel_rfl) (fun _ _ _ h => h) (Or.inl ⟨by rfl, ?_⟩) hS ?_
  rotate_left
  · (intro w _; go_simp; first | done | with_reducible rfl | (rw [if_pos (by omega)]) | (rw [if_pos (by omega)]; go_simp))
  simp only [Act.put]
  refine wpZ_take (i := 3) (v := ?_) rfl (by kernel_rfl) (fun _ _ _ h => h) (Or.inl ⟨by rfl, ?_⟩) hS ?_
  rotate_left
  · (intro w hSw; obtain ⟨s0, s1, ⟨a0, a1, a2, a3, a4⟩⟩ := hSw; go_simp; first | done | with_reducible rfl)
  simp only [Act.put]
  refine wpZ_takeP (i := 4) (v := ?_) rfl (by kernel_rfl) (fun _ _ _ h => h) (Or.inl ⟨by rfl, ?_⟩) hS ?_
  rotate_left
  · (intro w _; go_simp; first | done | with_reducible rfl | (rw [if_pos (by omega)]) | (rw [if_pos (by omega)]; go_simp))
  simp only [Act.put]
  refine wpZ_takeP (i := 5) (v := ?_) rfl (by kernel_rfl) (fun _ _ _ h => h) (Or.inl ⟨by rfl, ?_⟩) hS ?_
  rotate_left
  · (intro w _; go_simp; first | done | with_reducible rfl | (rw [if_pos (by omega)]) | (rw [if_pos (by omega)]; go_simp))
  simp only [Act.put]
  refine wpZ_takeP (i := 6) (v := ?_) rfl (by kernel_rfl) (fun _ _ _ h => h) (Or.inl ⟨by rfl, ?_⟩) hS ?_
  rotate_left
  · (intro w _; go_simp; first | done | with_reducible rfl | (rw [if_pos (by omega)]) | (rw [if_pos (by omega)]; go_simp))
  simp only [Act.put]
  refine wpZ_take (i := 7) (v := ?_) rfl (by kernel_rfl) (fun _ _ _ h => h) (Or.inl ⟨by rfl, ?_⟩) hS ?_
  rotate_left
  · (intro w hSw; obtain ⟨s0, s1, ⟨a0, a1, a2, a3, a4⟩⟩ := hSw; go_simp; first | done | with_reducible rfl)
  simp only [Act.put]
  refine wpZ_takeP (i := 8) (v := ?_) rfl (by kernel_rfl) (fun _ _ _ h => h) (Or.inl ⟨by rfl, ?_⟩) hS ?_
  rotate_left
  · (intro w _; go_simp; first | done | with_reducible rfl | (rw [if_pos (by omega)]) | (rw [if_pos (by omega)]; go_simp))
  simp only [Act.put]
  refine wpZ_takeP (i := 9) (v := ?_) rfl (by kernel_rfl) (fun _ _ _ h => h) (Or.inl ⟨by rfl, ?_⟩) hS ?_
  rotate_left
  · (intro w _; go_simp; first | done | with_reducible rfl | (rw [if_pos (by omega)]) | (rw [if_pos (by omega)]; go_simp))
  simp only [Act.put]
  refine wpZ_take (i := 10) (v := ?_) rfl (by kernel_rfl) (fun _ _ _ h => h) (Or.inl ⟨by rfl, ?_⟩) hS ?_
  rotate_left
  · (intro w hSw; obtain ⟨s0, s1, ⟨a0, a1, a2, a3, a4⟩⟩ := hSw; go_simp; first | done | with_reducible rfl)
  simp only [Act.put]
  refine wpZ_takeP (i := 11) (v := ?_) rfl (by kernel_rfl) (fun _ _ _ h => h) (Or.inl ⟨by rfl, ?_⟩) hS ?_
  rotate_left
  · (intro w _; go_simp; first | done | with_reducible rfl | (rw [if_pos (by omega)]) | (rw [if_pos (by omega)]; go_simp))
  simp only [Act.put]
  refine wpZ_takeP (i := 13) (v := ?_) rfl (by kernel_rfl) (fun _ _ _ h => h) (Or.inl ⟨by rfl, ?_⟩) hS ?_
  rotate_left
  · (intro w _; go_simp; first | done | with_reducible rfl | (rw [if_pos (by omega)]) | (rw [if_pos (by omega)]; go_simp))
  simp only [Act.put]
  refine wpZ_ready (rs := [12]) (by kernel_rfl) (by simp) ?_
  refine AllZ.cons rfl (fun K hK => ?_) AllZ.nil
  go_simp
  refine (noCell_any Wd x).mono ?_
  rintro e X2 ⟨rfl, b2⟩
  have bX : Below V2.heap.size V2 X2 := KD.out.trans (b2.mono KD.out.size)
  have P2 := KH.out.2.later bX
  obtain ⟨Y, hst, hmY, htY, hsY⟩ := P2.mp.store (by omega) hkB.1 hkB.2 j (by omega)
  have P3 := P2.turnM htY hmY hsY
  have KX : Hid (KeptP (OfP p q mb) w Y ∧ Pin Y base p q mb (n + 1 + 1) cap (zs)) := ⟨(KH.out.1.trans (KeptP.of_below bX)).trans (KeptP.of_turned htY (.inr (.inr rfl))), P3⟩
  simp only [cKey] at hst
  have hS2 : (fun X : World => X.cell? ⟨p, 0, none⟩ = some (.slice (some ⟨q, 0, none⟩) (zs).length cap) ∧ X.cell? ⟨p, 1, none⟩ = some (.map (some mb)) ∧ NoteAt X q (j * 5) x) X2 := ⟨P2.c0, P2.c1, by simpa using P2.at_ j x helB⟩
  refine hK.out _ _ (fun _ => hS2) ?_
  clear hK K hS2 hS P2 P3 bX KD hmY htY hsY hm hzB hziB hkB KH b2
  refine wpZ_ready (rs := [14]) (by kernel_rfl) (by simp) ?_
  refine AllZ.cons rfl (fun K hK => ?_) AllZ.nil
  go_simp
  refine hK.out _ _ (fun h => absurd (show false = true from h.symm.trans (by kernel_rfl)) (by decide)) ?_
  clear hK K hst
  refine wpZ_done (by kernel_rfl) ?_ _
  have KH := KX
  clear KX
  go_wp2
  refine bodyPost_end (v := .tuple #[]) (by simp [results, Try.results116, go_sem]) rfl ⟨rfl, by rw [HZ.out]; exact KH.out.2, KH.out.1⟩
end Go.Proofs.Ytiidlcjjaglkdaa