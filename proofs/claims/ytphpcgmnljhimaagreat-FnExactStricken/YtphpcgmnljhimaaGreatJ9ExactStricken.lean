/- YSofD; YSofS; YPilM; YPilC; YPilN; HeapP; YLftN; YSnkN; YTakN; YInoN; YPutN; YPOfN; YPilS; YLftS; YSnkS; YTakS; YInoS; YPutS; YPOfS; YChkS; VoS; VoN: joined. -/
import Derived.Test.YtphpcgmnljhimaaGreatRows
import Derived.Test.YtphpcgmnljhimaaGreatJ8ExactStricken
import Derived.Test.YtphpcgmnljhimaaGreatJ7ExactStricken
import Derived.WalkKit
import Derived.WalkSpells
import Derived.WalkLawsBesides
import Derived.Below
import Derived.Maps.OwnSet
import Derived.Maps.Views
import Derived.DeepKeys4
import Derived.Deep.CutRange
import Derived.Lib.QuietBelow
import Derived.BigQuiet
import Derived.Deep.RegionWith
import Derived.LaidEql
import Derived.RowKitTokens
import Derived.Deep.Upon
namespace Go.Proofs.YtphpcgmnljhimaaGreat.tx
open Go.RowKit
def SAns (w : World) (xs : List S5) (e : Ending) (w' : World) : Prop :=
  ∃ (a : Option Addr) (c : Nat) (PS : Nat → Prop), e = .returned (.slice a xs.length c) ∧ OwnSe w' PS a xs ∧ (∀ q, PS q → w.heap.size ≤ q ∧ q < w'.heap.size) ∧ Below w.heap.size w w'
theorem SAns.of {w w' : World} {base : Nat} {v : Value} {xs : List S5} (h : RowS w' base v xs) (hb : w.heap.size ≤ base) (b : Below w.heap.size w w') : SAns w xs (.returned v) w' := by
  obtain ⟨a, c, e, ho⟩ := h.form
  exact ⟨a, c, _, by rw [e], ho, fun q hq => ⟨Nat.le_trans hb (h.lt hq).1, (h.lt hq).2⟩, b⟩
theorem SAns.none {w w' : World} (b : Below w.heap.size w w') : SAns w [] (.returned (.slice Option.none 0 0)) w' := ⟨Option.none, 0, fun _ => False, rfl, .inl rfl, fun _ h => h.elim, b⟩
def ofR (g : Int) (xs : List S5) : List S5 := xs.filter fun s => decide (s.region = g)
theorem txB_lens {t : T7} (h : txB t = true) : t.reads.length ≤ 12 ∧ t.sets.length ≤ 12 := by
  simp only [txB, Bool.and_eq_true, decide_eq_true_eq] at h
  exact ⟨h.1.1.1.2, h.1.1.2⟩
def setsOfT (t : T7) (g : Int) : List S5 := if txB t = true then ofR g t.sets else []
end Go.Proofs.YtphpcgmnljhimaaGreat.tx
namespace Go.Proofs.YtphpcgmnljhimaaGreat.tx
open Go.RowKit Go.Maps
def cKey (r s : Int) : Value := .agg #[.int .i64 r, .int .i64 s]
theorem keyLaw : Keyed Tryz.prog 159 := Keyed.of_law (deep_law_laid (m := 5) (by kernel_rfl) (by omega) (of_decide_eq_true (by kernel_rfl)) (by kernel_rfl) (by kernel_rfl))
theorem lit_ok {i : Nat} (hi : i ≤ 1000000) : (Lit.int .i64 (i : Int)).wf = true := by
  have h1 : IntKind.i64.min = -9223372036854775808 := rfl
  have h2 : IntKind.i64.max = 9223372036854775807 := rfl
  simp [Lit.wf, h1, h2]; omega
theorem six {r : Int} (h : inB 0 5 r = true) : r = 0 ∨ r = 1 ∨ r = 2 ∨ r = 3 ∨ r = 4 ∨ r = 5 := by
  rw [inB_iff] at h; omega
set_option maxHeartbeats 2000000 in
theorem cKey_ok {r s : Int} (h1 : inB 0 5 r = true) (h2 : inB 0 5 s = true) : ∃ l, keyOf Tryz.prog 159 (cKey r s) = some l := by
  have : (keyOf Tryz.prog 159 (cKey r s)).isSome = true := by
    rcases six h1 with rfl | rfl | rfl | rfl | rfl | rfl <;> rcases six h2 with rfl | rfl | rfl | rfl | rfl | rfl <;> kernel_rfl
  exact Option.isSome_iff_exists.1 this
theorem cKey_inj {r s q t : Int} {l : Lit} (h1 : keyOf Tryz.prog 159 (cKey r s) = some l) (h2 : keyOf Tryz.prog 159 (cKey q t) = some l) : r = q ∧ s = t := by
  have := keyLaw.inj h1 h2
  simp [cKey] at this
  exact this
def MapF (W : World) (b n : Nat) (f : Int → Int → Option Nat) : Prop :=
  ∃ D : DataW Unit, W.ownsMap Tryz.prog 159 (plainElem Tryz.prog 3) b n D ∧ ∀ r s l, keyOf Tryz.prog 159 (cKey r s) = some l → (f r s = none → has D l = false) ∧ (∀ i, f r s = some i → has D l = true ∧ ∀ z, D.atKey l z = .lit (.int .i64 (i : Int)))
theorem MapF.lt {W : World} {b n : Nat} {f : Int → Int → Option Nat} (h : MapF W b n f) : b < W.heap.size := by obtain ⟨D, h, _⟩ := h; exact h.lt
theorem MapF.mono {W : World} {b n n' : Nat} {f : Int → Int → Option Nat} (h : MapF W b n f) (hn : n ≤ n') : MapF W b n' f := by obtain ⟨D, h, h'⟩ := h; exact ⟨D, h.mono hn, h'⟩
theorem MapF.of_block {W W' : World} {b n : Nat} {f : Int → Int → Option Nat} (h : MapF W b n f) (e : W'.heap[b]? = W.heap[b]?) : MapF W' b n f := by
  obtain ⟨D, ⟨es, clock, hb, r⟩, h'⟩ := h
  exact ⟨D, ⟨es, clock, e.trans hb, r⟩, h'⟩
theorem MapF.later {W W' : World} {b n : Nat} {f : Int → Int → Option Nat} (h : MapF W b n f) (hb : Below W.heap.size W W') : MapF W' b n f := h.of_block (hb.block _ h.lt)
theorem MapF.made (W : World) : MapF (W.alloc (.map #[] 0)) W.heap.size 0 (fun _ _ => none) :=
  ⟨.map [], World.ownsMap_made W _ _ _, fun r s l _ => ⟨fun _ => rfl, fun i h => by cases h⟩⟩
theorem zero_int (W : World) : (zeroValue 3).run Tryz.prog W = .ok (.int .i64 0) W := by kernel_rfl
theorem MapF.look {W : World} {b n : Nat} {f : Int → Int → Option Nat} (h : MapF W b n f) {r s : Int} (h1 : inB 0 5 r = true) (h2 : inB 0 5 s = true) :
    (Instr.lookup 197 (.map (some b)) (cKey r s) true).run Tryz.prog W = .ok (.tuple #[.int .i64 (((f r s).getD 0 : Nat) : Int), .bool (f r s).isSome]) W := by
  obtain ⟨D, hD, hf⟩ := h
  obtain ⟨l, hl⟩ := cKey_ok h1 h2
  obtain ⟨v, ps, hrun, hv⟩ := hD.look_ok keyLaw Tryz.underlying197 (zero_int W) (plainElem_int Tryz.underlying3 (by decide)) hl
  obtain ⟨g1, g2⟩ := hf r s l hl
  cases e : f r s with
  | none =>
    rw [g1 e] at hrun
    rw [atKey_of_not_has (g1 e)] at hv
    obtain ⟨a, rfl, ha, _⟩ := plainElem_int_inv Tryz.underlying3 hv
    simp at ha
    rw [hrun, ← ha.1]
    rfl
  | some i =>
    rw [(g2 i e).1] at hrun
    rw [(g2 i e).2] at hv
    obtain ⟨a, rfl, ha, _⟩ := plainElem_int_inv Tryz.underlying3 hv
    simp at ha
    rw [hrun, ← ha.1]
    rfl
def putF (f : Int → Int → Option Nat) (r s : Int) (i : Nat) : Int → Int → Option Nat := fun q t => if q = r ∧ t = s then some i else f q t
theorem Turned.of_map {W W' : World} {b : Nat} (h : W.mapTurned W' b) : Turned b W W' := by
  have hg := h.grown
  exact ⟨hg.os, hg.tape, hg.output, hg.size, fun k hk hc => hg.block k hk (fun e => hc (Option.some.inj e))⟩
theorem MapF.store {W : World} {b n : Nat} {f : Int → Int → Option Nat} (h : MapF W b n f) (hn : n ≤ 1000000) {r s : Int} (h1 : inB 0 5 r = true) (h2 : inB 0 5 s = true) (i : Nat) (hi : i ≤ 1000000) :
    ∃ W', (Instr.mapUpdate 197 (.map (some b)) (cKey r s) (.int .i64 (i : Int))).run Tryz.prog W = .ok () W' ∧ MapF W' b (n + 1) (putF f r s i) ∧ Turned b W W' ∧ W'.heap.size = W.heap.size := by
  obtain ⟨D, hD, hf⟩ := h
  obtain ⟨l, hl⟩ := cKey_ok h1 h2
  have hwf : (Lit.int .i64 (i : Int)).wf = true := lit_ok hi
  obtain ⟨W', hrun, hD', ht⟩ := hD.store keyLaw Tryz.underlying197 (by unfold maxLen; omega) hl (plainElem_int Tryz.underlying3 hwf)
  refine ⟨W', hrun, ⟨_, hD', fun q t l' hl' => ?_⟩, Turned.of_map ht, ?_⟩
  · obtain ⟨g1, g2⟩ := hf q t l' hl'
    by_cases e : q = r ∧ t = s
    · obtain ⟨rfl, rfl⟩ := e
      rw [hl] at hl'
      obtain rfl := Option.some.inj hl'
      refine ⟨fun h => by simp [putF] at h, fun j hj => ?_⟩
      simp [putF] at hj
      subst hj
      exact ⟨has_put_same hD.isMap (keyLaw.key hl) _, fun z => atKey_put_same hD.isMap (keyLaw.key hl) _ z⟩
    · have hne : l' ≠ l := fun e' => e (by rw [e'] at hl'; exact cKey_inj hl' hl)
      have ep : putF f r s i q t = f q t := by unfold putF; rw [if_neg e]
      rw [ep]
      refine ⟨fun h => by rw [has_put_other hne]; exact g1 h, fun j hj => ?_⟩
      rw [has_put_other hne]
      exact ⟨(g2 j hj).1, fun z => by rw [atKey_put_other hne]; exact (g2 j hj).2 z⟩
  · obtain ⟨es, c, es', c', hb, rfl⟩ := ht
    simp [ChangeMaps.setBlock]
def MapN (W : World) (b n : Nat) : Prop := ∃ D : DataW Unit, W.ownsMap Tryz.prog 159 (plainElem Tryz.prog 3) b n D
theorem MapF.any {W : World} {b n : Nat} {f : Int → Int → Option Nat} (h : MapF W b n f) : MapN W b n := by obtain ⟨D, h, _⟩ := h; exact ⟨D, h⟩
theorem MapN.lt {W : World} {b n : Nat} (h : MapN W b n) : b < W.heap.size := by obtain ⟨D, h⟩ := h; exact h.lt
theorem MapN.mono {W : World} {b n n' : Nat} (h : MapN W b n) (hn : n ≤ n') : MapN W b n' := by obtain ⟨D, h⟩ := h; exact ⟨D, h.mono hn⟩
theorem MapN.of_block {W W' : World} {b n : Nat} (h : MapN W b n) (e : W'.heap[b]? = W.heap[b]?) : MapN W' b n := by
  obtain ⟨D, es, clock, hb, r⟩ := h
  exact ⟨D, es, clock, e.trans hb, r⟩
theorem MapN.later {W W' : World} {b n : Nat} (h : MapN W b n) (hb : Below W.heap.size W W') : MapN W' b n := h.of_block (hb.block _ h.lt)
theorem MapN.store {W : World} {b n : Nat} (h : MapN W b n) (hn : n ≤ 1000000) {r s : Int} (h1 : inB 0 5 r = true) (h2 : inB 0 5 s = true) (i : Nat) (hi : i ≤ 1000000) :
    ∃ W', (Instr.mapUpdate 197 (.map (some b)) (cKey r s) (.int .i64 (i : Int))).run Tryz.prog W = .ok () W' ∧ MapN W' b (n + 1) ∧ Turned b W W' ∧ W'.heap.size = W.heap.size := by
  obtain ⟨D, hD⟩ := h
  obtain ⟨l, hl⟩ := cKey_ok h1 h2
  have hwf : (Lit.int .i64 (i : Int)).wf = true := lit_ok hi
  obtain ⟨W', hrun, hD', ht⟩ := hD.store keyLaw Tryz.underlying197 (by unfold maxLen; omega) hl (plainElem_int Tryz.underlying3 hwf)
  refine ⟨W', hrun, ⟨_, hD'⟩, Turned.of_map ht, ?_⟩
  obtain ⟨es, c, es', c', hb, rfl⟩ := ht
  simp [ChangeMaps.setBlock]
theorem MapN.drop {W : World} {b n : Nat} (h : MapN W b n) {r s : Int} (h1 : inB 0 5 r = true) (h2 : inB 0 5 s = true) (ty : TypeId) :
    ∃ W', (Builtin.delete_ #[197, 159] ty #[.map (some b), cKey r s]).run Tryz.prog W = .ok (.tuple #[]) W' ∧ MapN W' b n ∧ Turned b W W' ∧ W'.heap.size = W.heap.size := by
  obtain ⟨D, hD⟩ := h
  obtain ⟨l, hl⟩ := cKey_ok h1 h2
  obtain ⟨W', hrun, hD', ht⟩ := hD.drop keyLaw Tryz.underlying197 hl ty
  refine ⟨W', hrun, ⟨_, hD'⟩, Turned.of_map ht, ?_⟩
  obtain ⟨es, c, es', c', hb, rfl⟩ := ht
  simp [ChangeMaps.setBlock]
end Go.Proofs.YtphpcgmnljhimaaGreat.tx
namespace Go.Proofs.YtphpcgmnljhimaaGreat.tx
open Go.RowKit
def OfP (p q mb : Nat) (x : Nat) : Prop := x = p ∨ x = q ∨ x = mb
structure Pin (W : World) (base p q mb n cap : Nat) (xs : List N5) : Prop where
  c0 : W.cell? ⟨p, 0, none⟩ = some (.slice (some ⟨q, 0, none⟩) xs.length cap)
  c1 : W.cell? ⟨p, 1, none⟩ = some (.map (some mb))
  fz : ∀ j, W.frozen? ⟨p, j, none⟩ = false
  at_ : NotesAt W q 0 xs
  rm : Room W q (xs.length * 5)
  cp : xs.length ≤ cap
  mp : MapN W mb n
  ok : ∀ s ∈ xs, noteOkB s = true
  pq : p ≠ q
  pm : p ≠ mb
  qm : q ≠ mb
  bp : base ≤ p
  bq : base ≤ q
  bm : base ≤ mb
  lp : p < W.heap.size
  lq : q < W.heap.size
theorem Pin.keep {W V : World} {base p q mb n cap : Nat} {xs : List N5} (h : Pin W base p q mb n cap xs) (hs : W.heap.size ≤ V.heap.size) (hk : ∀ x, OfP p q mb x → V.heap[x]? = W.heap[x]?) : Pin V base p q mb n cap xs :=
  ⟨(World.cell?_of_block (a := ⟨p, 0, none⟩) (hk p (.inl rfl))).trans h.c0, (World.cell?_of_block (a := ⟨p, 1, none⟩) (hk p (.inl rfl))).trans h.c1, fun j => (World.frozen?_of_block (a := ⟨p, j, none⟩) (hk p (.inl rfl))).trans (h.fz j), h.at_.of_block (hk q (.inr (.inl rfl))), h.rm.of_block (hk q (.inr (.inl rfl))), h.cp, h.mp.of_block (hk mb (.inr (.inr rfl))), h.ok, h.pq, h.pm, h.qm, h.bp, h.bq, h.bm, Nat.lt_of_lt_of_le h.lp hs, Nat.lt_of_lt_of_le h.lq hs⟩
theorem Pin.later {W V : World} {base p q mb n cap : Nat} {xs : List N5} (h : Pin W base p q mb n cap xs) (hb : Below W.heap.size W V) : Pin V base p q mb n cap xs := h.keep hb.size (fun x hx => hb.block x (by rcases hx with rfl | rfl | rfl; exact h.lp; exact h.lq; exact h.mp.lt))
theorem Pin.mono {W : World} {base p q mb n n' cap : Nat} {xs : List N5} (h : Pin W base p q mb n cap xs) (hn : n ≤ n') : Pin W base p q mb n' cap xs := ⟨h.c0, h.c1, h.fz, h.at_, h.rm, h.cp, h.mp.mono hn, h.ok, h.pq, h.pm, h.qm, h.bp, h.bq, h.bm, h.lp, h.lq⟩
end Go.Proofs.YtphpcgmnljhimaaGreat.tx
namespace Go.Proofs.YtphpcgmnljhimaaGreat
namespace HeapP
def swF {α : Type} (k : Nat → α) (a b : Nat) : Nat → α := fun i => if i = a then k b else if i = b then k a else k i
def Hp (k : Nat → Int) (n : Nat) : Prop := ∀ i, 0 < i → i < n → k ((i - 1) / 2) ≤ k i
def HpUp (k : Nat → Int) (n c : Nat) : Prop := (∀ i, 0 < i → i < n → i ≠ c → k ((i - 1) / 2) ≤ k i) ∧ (∀ i, 0 < i → i < n → (i - 1) / 2 = c → 0 < c → k ((c - 1) / 2) ≤ k i)
def HpDn (k : Nat → Int) (n c : Nat) : Prop := (∀ i, 0 < i → i < n → (i - 1) / 2 ≠ c → k ((i - 1) / 2) ≤ k i) ∧ (∀ i, 0 < i → i < n → (i - 1) / 2 = c → 0 < c → k ((c - 1) / 2) ≤ k i)
theorem HpUp.done {k : Nat → Int} {n c : Nat} (h : HpUp k n c) (hc : c = 0 ∨ k ((c - 1) / 2) ≤ k c) : Hp k n := fun i h0 hn => by
  by_cases e : i = c
  · subst e; rcases hc with hc | hc
    · omega
    · exact hc
  · exact h.1 i h0 hn e
theorem HpUp.step {k : Nat → Int} {n c : Nat} (h : HpUp k n c) (h0 : 0 < c) (hn : c < n) (hl : k c < k ((c - 1) / 2)) : HpUp (swF k c ((c - 1) / 2)) n ((c - 1) / 2) := by
  obtain ⟨h1, h2⟩ := h
  refine ⟨fun i i0 hi hne => ?_, fun i i0 hi hp hpc => ?_⟩
  · unfold swF
    by_cases e1 : i = c
    · subst e1
      simp [show ¬ (i - 1) / 2 = i by omega]; omega
    · by_cases e2 : (i - 1) / 2 = c
      · simp [e1, hne, e2]; exact h2 i i0 hi e2 h0
      · by_cases e3 : (i - 1) / 2 = (c - 1) / 2
        · simp [e1, hne, e3, show ¬ (c - 1) / 2 = c by omega]
          have := h1 i i0 hi e1
          rw [e3] at this
          omega
        · simp [e1, hne, e2, e3]
          exact h1 i i0 hi e1
  · unfold swF
    have hq := h1 ((c - 1) / 2) (by omega) (by omega) (by omega)
    by_cases e1 : i = c
    · subst e1
      simp [show ¬ ((i - 1) / 2 - 1) / 2 = i by omega, show ¬ ((i - 1) / 2 - 1) / 2 = (i - 1) / 2 by omega]
      exact hq
    · have hi' := h1 i i0 hi e1
      rw [hp] at hi'
      simp [e1, show ¬ i = (c - 1) / 2 by omega, show ¬ ((c - 1) / 2 - 1) / 2 = c by omega, show ¬ ((c - 1) / 2 - 1) / 2 = (c - 1) / 2 by omega]
      omega
theorem HpDn.done {k : Nat → Int} {n c : Nat} (h : HpDn k n c) (h1 : 2 * c + 1 < n → k c ≤ k (2 * c + 1)) (h2 : 2 * c + 2 < n → k c ≤ k (2 * c + 2)) : Hp k n := fun i h0 hn => by
  by_cases e : (i - 1) / 2 = c
  · rw [e]
    rcases (show i = 2 * c + 1 ∨ i = 2 * c + 2 by omega) with rfl | rfl
    · exact h1 hn
    · exact h2 hn
  · exact h.1 i h0 hn e
theorem HpDn.step {k : Nat → Int} {n c l : Nat} (h : HpDn k n c) (hl : l = 2 * c + 1 ∨ l = 2 * c + 2) (hn : l < n) (hlt : k l < k c) (h1 : 2 * c + 1 < n → k l ≤ k (2 * c + 1)) (h2 : 2 * c + 2 < n → k l ≤ k (2 * c + 2)) : HpDn (swF k c l) n l := by
  obtain ⟨g1, g2⟩ := h
  have hpl : (l - 1) / 2 = c := by omega
  refine ⟨fun i i0 hi hne => ?_, fun i i0 hi hp _ => ?_⟩
  · unfold swF
    by_cases e0 : i = c
    · subst e0
      simp [show ¬ (i - 1) / 2 = i by omega, hne]
      exact g2 l (by omega) hn hpl i0
    · by_cases e1 : (i - 1) / 2 = c
      · simp only [e1, e0, if_true, if_false]
        by_cases e2 : i = l
        · simp [e2]; omega
        · simp [e2]
          rcases (show i = 2 * c + 1 ∨ i = 2 * c + 2 by omega) with rfl | rfl
          · exact h1 hi
          · exact h2 hi
      · have := g1 i i0 hi e1
        by_cases e2 : i = l
        · omega
        · simp [e0, e1, e2, hne]; exact this
  · unfold swF
    have := g1 i i0 hi (by omega)
    rw [hp] at this
    simp [hpl, show ¬ i = c by omega, show ¬ i = l by omega]
    exact this
theorem Hp.top {k : Nat → Int} {n : Nat} (h : Hp k n) : ∀ i, i < n → k 0 ≤ k i := by
  intro i
  induction i using Nat.strongRecOn with
  | ind i ih =>
    intro hi
    by_cases e : i = 0
    · subst e; exact Int.le_refl _
    · have := ih ((i - 1) / 2) (by omega) (by omega)
      have := h i (by omega) hi
      omega
end HeapP
namespace HeapP
def swL {α : Type} (xs : List α) (a b : Nat) (x y : α) : List α := (xs.set a y).set b x
theorem HpDn.congr {k k' : Nat → Int} {n : Nat} (h : HpDn k n 0) (e : ∀ i, i < n → k' i = k i) : HpDn k' n 0 :=
  ⟨fun i h0 hn hc => by rw [e i hn, e _ (by omega)]; exact h.1 i h0 hn hc, fun i _ _ _ h' => by omega⟩
end HeapP
end Go.Proofs.YtphpcgmnljhimaaGreat
namespace Go.Proofs.YtphpcgmnljhimaaGreat.tx
open Go.RowKit
open Go.Sort (grow)
def noK (xs : List N5) (i : Nat) : Int := rk (atNo xs i).region (atNo xs i).slot
end Go.Proofs.YtphpcgmnljhimaaGreat.tx
namespace Go.Proofs.YtphpcgmnljhimaaGreat.tx
open Go.RowKit
theorem NoteAt.of_blk {W V : World} {b o : Nat} {s : N5} (h : NoteAt W b o s) (e : V.heap[b]? = W.heap[b]?) : NoteAt V b o s :=
  ⟨(World.cell?_of_block (a := ⟨b, o, none⟩) e).trans h.c0, (World.cell?_of_block (a := ⟨b, o + 1, none⟩) e).trans h.c1, (World.cell?_of_block (a := ⟨b, o + 2, none⟩) e).trans h.c2, (World.cell?_of_block (a := ⟨b, o + 3, none⟩) e).trans h.c3, (World.cell?_of_block (a := ⟨b, o + 4, none⟩) e).trans h.c4⟩
def noR (s : N5) : Int := rk s.region s.slot
def noLen : Value → Nat
  | .slice _ n _ => n
  | _ => 0
end Go.Proofs.YtphpcgmnljhimaaGreat.tx
namespace Go.Proofs.YtphpcgmnljhimaaGreat.tx
open Go.RowKit
open Go.Sort (grow)
def noW (xs : List N5) (r s : Int) : Option Nat := xs.findIdx? fun x => decide (x.region = r) && decide (x.slot = s)
structure PinB (W : World) (base p mb n : Nat) (v : Value) (xs : List N5) : Prop where
  c0 : W.cell? ⟨p, 0, none⟩ = some v
  c1 : W.cell? ⟨p, 1, none⟩ = some (.map (some mb))
  fz : ∀ j, W.frozen? ⟨p, j, none⟩ = false
  row : RowN W base v xs
  mp : MapF W mb n (noW xs)
  ok : ∀ s ∈ xs, noteOkB s = true
  vp : v.ownBlock ≠ some p
  vm : v.ownBlock ≠ some mb
  pm : p ≠ mb
  bp : base ≤ p
  bm : base ≤ mb
  lp : p < W.heap.size
theorem PinB.later {W V : World} {base p mb n : Nat} {v : Value} {xs : List N5} (h : PinB W base p mb n v xs) (hb : Below W.heap.size W V) : PinB V base p mb n v xs :=
  ⟨(hb.cell (p := ⟨p, 0, none⟩) h.lp).trans h.c0, (hb.cell (p := ⟨p, 1, none⟩) h.lp).trans h.c1, fun j => (hb.frozen (p := ⟨p, j, none⟩) h.lp).trans (h.fz j), h.row.later hb, h.mp.later hb, h.ok, h.vp, h.vm, h.pm, h.bp, h.bm, Nat.lt_of_lt_of_le h.lp hb.size⟩
theorem PinB.pil {W : World} {base p mb n : Nat} {v : Value} {xs : List N5} (h : PinB W base p mb n v xs) (hx : xs ≠ []) : ∃ q cap, v = .slice (some ⟨q, 0, none⟩) xs.length cap ∧ Pin W base p q mb n cap xs := by
  obtain ⟨a, c, e, ho⟩ := h.row.form
  rcases ho with ho | ⟨q, rfl, hq, hl, ha, hr⟩
  · exact absurd ho hx
  · refine ⟨q, c, e, ⟨by rw [← e]; exact h.c0, h.c1, h.fz, ha, hr, ?_, h.mp.any, h.ok, fun e' => h.vp (by rw [hq, e']), h.pm, fun e' => h.vm (by rw [hq, e']), h.bp, (h.row.lt hq).1, h.bm, h.lp, hl⟩⟩
    rcases h.row.2 with ⟨h0, _⟩ | ⟨q', cap', cur, h0, _, _, hc, _⟩
    · rw [h0] at e; cases e
    · rw [h0] at e; cases e; exact hc
def noUp2 (xs : List N5) : Prop := xs.Pairwise fun a b => noR a < noR b
end Go.Proofs.YtphpcgmnljhimaaGreat.tx
namespace Go.Proofs.YtphpcgmnljhimaaGreat.tx
open Go.RowKit
structure Pis (W : World) (base p q mb n cap : Nat) (xs : List S5) : Prop where
  c0 : W.cell? ⟨p, 0, none⟩ = some (.slice (some ⟨q, 0, none⟩) xs.length cap)
  c1 : W.cell? ⟨p, 1, none⟩ = some (.map (some mb))
  fz : ∀ j, W.frozen? ⟨p, j, none⟩ = false
  at_ : SetsAt W q 0 xs
  rm : Room W q (xs.length * 5)
  cp : xs.length ≤ cap
  mp : MapN W mb n
  ok : ∀ s ∈ xs, setOkB s = true
  pq : p ≠ q
  pm : p ≠ mb
  qm : q ≠ mb
  bp : base ≤ p
  bq : base ≤ q
  bm : base ≤ mb
  lp : p < W.heap.size
  lq : q < W.heap.size
theorem Pis.keep {W V : World} {base p q mb n cap : Nat} {xs : List S5} (h : Pis W base p q mb n cap xs) (hs : W.heap.size ≤ V.heap.size) (hk : ∀ x, OfP p q mb x → V.heap[x]? = W.heap[x]?) : Pis V base p q mb n cap xs :=
  ⟨(World.cell?_of_block (a := ⟨p, 0, none⟩) (hk p (.inl rfl))).trans h.c0, (World.cell?_of_block (a := ⟨p, 1, none⟩) (hk p (.inl rfl))).trans h.c1, fun j => (World.frozen?_of_block (a := ⟨p, j, none⟩) (hk p (.inl rfl))).trans (h.fz j), h.at_.of_block (hk q (.inr (.inl rfl))), h.rm.of_block (hk q (.inr (.inl rfl))), h.cp, h.mp.of_block (hk mb (.inr (.inr rfl))), h.ok, h.pq, h.pm, h.qm, h.bp, h.bq, h.bm, Nat.lt_of_lt_of_le h.lp hs, Nat.lt_of_lt_of_le h.lq hs⟩
theorem Pis.later {W V : World} {base p q mb n cap : Nat} {xs : List S5} (h : Pis W base p q mb n cap xs) (hb : Below W.heap.size W V) : Pis V base p q mb n cap xs := h.keep hb.size (fun x hx => hb.block x (by rcases hx with rfl | rfl | rfl; exact h.lp; exact h.lq; exact h.mp.lt))
theorem Pis.mono {W : World} {base p q mb n n' cap : Nat} {xs : List S5} (h : Pis W base p q mb n cap xs) (hn : n ≤ n') : Pis W base p q mb n' cap xs := ⟨h.c0, h.c1, h.fz, h.at_, h.rm, h.cp, h.mp.mono hn, h.ok, h.pq, h.pm, h.qm, h.bp, h.bq, h.bm, h.lp, h.lq⟩
end Go.Proofs.YtphpcgmnljhimaaGreat.tx
namespace Go.Proofs.YtphpcgmnljhimaaGreat.tx
open Go.RowKit
open Go.Sort (grow)
def seK (xs : List S5) (i : Nat) : Int := rk (atSe xs i).region (atSe xs i).slot
theorem seK_at {xs : List S5} {i : Nat} {x : S5} (h : xs[i]? = some x) : seK xs i = rk x.region x.slot := by
  unfold seK atSe; rw [h]; rfl
set_option maxHeartbeats 4000000 in
theorem seLess_any (w : World) (base p q mb n cap : Nat) (xs : List S5) (i j : Nat) (x y : S5) (h : Pis w base p q mb n cap xs) (hi : xs[i]? = some x) (hj : xs[j]? = some y) :
    Calls Tryz.prog 208 #[.pointer (some ⟨p, 0, none⟩), .int .i64 (i : Int), .int .i64 (j : Int)] w fun e w' => e = .returned (.bool (decide (rk x.region x.slot < rk y.region y.slot))) ∧ Below w.heap.size w w' := by
  have li := (List.getElem?_eq_some_iff.1 hi).1
  have lj := (List.getElem?_eq_some_iff.1 hj).1
  have ix : (i : Int) < (xs.length : Int) := by omega
  have jx : (j : Int) < (xs.length : Int) := by omega
  obtain ⟨t0, t1, t2, t3, t4⟩ := (show SetAt w q (i * 5) x by simpa using h.at_ i x hi)
  obtain ⟨u0, u1, u2, u3, u4⟩ := (show SetAt w q (j * 5) y by simpa using h.at_ j y hj)
  have lift : ∀ {o : Nat} {u : Value}, w.cell? ⟨q, o, none⟩ = some u → ∀ d os, (grow (redrawn w d) os).cell? ⟨q, o, none⟩ = some u := fun {o u} hh d os => ((below_regrown w d os).cell (p := ⟨q, o, none⟩) h.lq).trans hh
  have x0 := lift t0
  have y0 := lift u0
  have x1 := lift t1
  have y1 := lift u1
  have x2 := lift t2
  have y2 := lift u2
  have x3 := lift t3
  have y3 := lift u3
  have x4 := lift t4
  have y4 := lift u4
  have z0 : ∀ d os, (grow (redrawn w d) os).cell? ⟨p, 0, none⟩ = some (.slice (some ⟨q, 0, none⟩) xs.length cap) := fun d os => ((below_regrown w d os).cell (p := ⟨p, 0, none⟩) h.lp).trans h.c0
  have k1 := seOk_in (h.ok x (List.mem_of_getElem? hi))
  have k2 := seOk_in (h.ok y (List.mem_of_getElem? hj))
  have cA : ∀ d os, Calls Tryz.prog 159 #[.agg #[.int .i64 x.region, .int .i64 x.slot, .int .i64 x.value, .bool x.used, .int .i64 x.version]] (grow (redrawn w d) os) fun e w'' => e = .returned (.int .i64 (rk x.region x.slot)) ∧ ∃ p : Regrown, w'' = grow (redrawn w p.d) p.os := fun d os => Calls.regrown_of (seRank_any _ _ k1.1 k1.2)
  have cB : ∀ d os, Calls Tryz.prog 159 #[.agg #[.int .i64 y.region, .int .i64 y.slot, .int .i64 y.value, .bool y.used, .int .i64 y.version]] (grow (redrawn w d) os) fun e w'' => e = .returned (.int .i64 (rk y.region y.slot)) ∧ ∃ p : Regrown, w'' = grow (redrawn w p.d) p.os := fun d os => Calls.regrown_of (seRank_any _ _ k2.1 k2.2)
  clear lift t0 t1 t2 t3 t4 u0 u1 u2 u3 u4 k1 k2 h hi hj
  generalize rk x.region x.slot = rx at *
  generalize rk y.region y.slot = ry at *
  generalize x.region = a0 at *
  generalize y.region = e0 at *
  generalize x.slot = a1 at *
  generalize y.slot = e1 at *
  generalize x.value = a2 at *
  generalize y.value = e2 at *
  generalize x.used = a3 at *
  generalize y.used = e3 at *
  generalize x.version = a4 at *
  generalize y.version = e4 at *
  go_enter Tryz.func208, Tryz.ntmps208
  go_wp2_with fail
  refine wp_region_quiet_below (by kernel_rfl) (by kernel_rfl) ?_
  repeat (go_big_quiet_step (first | (go_at_call_of 159 (Value.agg #[.int .i64 a0, .int .i64 a1, .int .i64 a2, .bool a3, .int .i64 a4]); exact cA _ _) | (go_at_call_of 159 (Value.agg #[.int .i64 e0, .int .i64 e1, .int .i64 e2, .bool e3, .int .i64 e4]); exact cB _ _)))
  refine wpQuiet_nil ?_
  intro _ hw'
  obtain ⟨⟨dq', osq⟩, hw''⟩ := hw'
  subst hw''
  have bq := below_regrown w dq' osq
  go_wp2
  go_ret
  exact ⟨rfl, bq⟩
end Go.Proofs.YtphpcgmnljhimaaGreat.tx
namespace Go.Proofs.YtphpcgmnljhimaaGreat.tx
open Go.RowKit
theorem SetAt.of_blk {W V : World} {b o : Nat} {s : S5} (h : SetAt W b o s) (e : V.heap[b]? = W.heap[b]?) : SetAt V b o s :=
  ⟨(World.cell?_of_block (a := ⟨b, o, none⟩) e).trans h.c0, (World.cell?_of_block (a := ⟨b, o + 1, none⟩) e).trans h.c1, (World.cell?_of_block (a := ⟨b, o + 2, none⟩) e).trans h.c2, (World.cell?_of_block (a := ⟨b, o + 3, none⟩) e).trans h.c3, (World.cell?_of_block (a := ⟨b, o + 4, none⟩) e).trans h.c4⟩
def seR (s : S5) : Int := rk s.region s.slot
def seLen : Value → Nat
  | .slice _ n _ => n
  | _ => 0
theorem seK_R {xs : List S5} {i : Nat} {x : S5} (h : xs[i]? = some x) : seK xs i = seR x := seK_at h
end Go.Proofs.YtphpcgmnljhimaaGreat.tx
namespace Go.Proofs.YtphpcgmnljhimaaGreat.tx
open Go.RowKit
open Go.Sort (grow)
def seW (xs : List S5) (r s : Int) : Option Nat := xs.findIdx? fun x => decide (x.region = r) && decide (x.slot = s)
theorem seW_snoc {xs : List S5} {x : S5} (h : seW xs x.region x.slot = none) : seW (xs ++ [x]) = putF (seW xs) x.region x.slot xs.length := by
  funext r s
  unfold seW putF
  rw [List.findIdx?_append]
  by_cases e : r = x.region ∧ s = x.slot
  · obtain ⟨rfl, rfl⟩ := e
    unfold seW at h
    rw [h]
    simp [List.findIdx?_cons]
  · rw [if_neg e]
    have : [x].findIdx? (fun x => decide (x.region = r) && decide (x.slot = s)) = none := by
      simp [List.findIdx?_cons]
      intro h1 h2
      exact e ⟨h1.symm, h2.symm⟩
    rw [this]
    simp
theorem seW_none {xs : List S5} {r s : Int} : seW xs r s = none ↔ ∀ x ∈ xs, ¬ (x.region = r ∧ x.slot = s) := by
  unfold seW
  rw [List.findIdx?_eq_none_iff]
  constructor
  · intro h x hx e; have := h x hx; simp [e.1, e.2] at this
  · intro h x hx
    have := h x hx
    simp only [Bool.and_eq_false_iff, decide_eq_false_iff_not]
    by_cases e : x.region = r
    · exact .inr (fun e' => this ⟨e, e'⟩)
    · exact .inl e
structure PisB (W : World) (base p mb n : Nat) (v : Value) (xs : List S5) : Prop where
  c0 : W.cell? ⟨p, 0, none⟩ = some v
  c1 : W.cell? ⟨p, 1, none⟩ = some (.map (some mb))
  fz : ∀ j, W.frozen? ⟨p, j, none⟩ = false
  row : RowS W base v xs
  mp : MapF W mb n (seW xs)
  ok : ∀ s ∈ xs, setOkB s = true
  vp : v.ownBlock ≠ some p
  vm : v.ownBlock ≠ some mb
  pm : p ≠ mb
  bp : base ≤ p
  bm : base ≤ mb
  lp : p < W.heap.size
theorem PisB.later {W V : World} {base p mb n : Nat} {v : Value} {xs : List S5} (h : PisB W base p mb n v xs) (hb : Below W.heap.size W V) : PisB V base p mb n v xs :=
  ⟨(hb.cell (p := ⟨p, 0, none⟩) h.lp).trans h.c0, (hb.cell (p := ⟨p, 1, none⟩) h.lp).trans h.c1, fun j => (hb.frozen (p := ⟨p, j, none⟩) h.lp).trans (h.fz j), h.row.later hb, h.mp.later hb, h.ok, h.vp, h.vm, h.pm, h.bp, h.bm, Nat.lt_of_lt_of_le h.lp hb.size⟩
theorem PisB.pil {W : World} {base p mb n : Nat} {v : Value} {xs : List S5} (h : PisB W base p mb n v xs) (hx : xs ≠ []) : ∃ q cap, v = .slice (some ⟨q, 0, none⟩) xs.length cap ∧ Pis W base p q mb n cap xs := by
  obtain ⟨a, c, e, ho⟩ := h.row.form
  rcases ho with ho | ⟨q, rfl, hq, hl, ha, hr⟩
  · exact absurd ho hx
  · refine ⟨q, c, e, ⟨by rw [← e]; exact h.c0, h.c1, h.fz, ha, hr, ?_, h.mp.any, h.ok, fun e' => h.vp (by rw [hq, e']), h.pm, fun e' => h.vm (by rw [hq, e']), h.bp, (h.row.lt hq).1, h.bm, h.lp, hl⟩⟩
    rcases h.row.2 with ⟨h0, _⟩ | ⟨q', cap', cur, h0, _, _, hc, _⟩
    · rw [h0] at e; cases e
    · rw [h0] at e; cases e; exact hc
set_option maxHeartbeats 4000000 in
theorem seLiftStay (w : World) (base p q mb n cap : Nat) (xs : List S5) (c : Nat) (h : Pis w base p q mb n cap xs) (hl : xs.length ≤ 1000) (hc : c < xs.length) (hs : c = 0 ∨ seK xs ((c - 1) / 2) ≤ seK xs c) :
    Calls Tryz.prog 186 #[.pointer (some ⟨p, 0, none⟩), .int .i64 (c : Int)] w fun e w' => e = .returned (.tuple #[]) ∧ Below w.heap.size w w' := by
  have H := hidOf h
  clear h
  go_enter Tryz.func186, Tryz.ntmps186
  go_wp2
  go_loopw [1] (fun v wr => v = .int .i64 (c : Int) ∧ wr = w) (fun _ _ => 0)
  case atStart => exact ⟨rfl, rfl⟩
  case round =>
    obtain ⟨rfl, rfl⟩ := hrel
    rcases c with _ | e
    · have d0 : decide ((0 : Int) < ((0 : Nat) : Int)) = false := by simp
      go_wp2
      refine bodyPost_end (v := .tuple #[]) (by simp [results, Tryz.results186, go_sem]) rfl ⟨rfl, Below.refl _ _⟩
    · have d0 : decide ((0 : Int) < ((e + 1 : Nat) : Int)) = true := by simp
      obtain ⟨x, hx⟩ : ∃ x, xs[e + 1]? = some x := ⟨_, List.getElem?_eq_getElem (by omega)⟩
      obtain ⟨y, hy⟩ : ∃ y, xs[e / 2]? = some y := ⟨_, List.getElem?_eq_getElem (by omega)⟩
      have c1 := seLess_any wr base p q mb n cap xs (e + 1) (e / 2) x y H.out hx hy
      rw [(seK_at hx).symm, (seK_at hy).symm] at c1
      have dl : decide (seK xs (e + 1) < seK xs (e / 2)) = false := by
        have := hs.resolve_left (by omega)
        rw [show (e + 1 - 1) / 2 = e / 2 by omega] at this
        simpa using this
      rw [dl] at c1
      have ea : ((e + 1 : Nat) : Int) = (e : Int) + 1 := by omega
      have eb : ((e / 2 : Nat) : Int) = (e : Int) / 2 := by omega
      rw [ea, eb] at c1
      clear dl ea eb hx hy hs
      go_wp2_with fail
      refine c1.mono ?_
      clear c1
      rintro e' w1 ⟨rfl, b1⟩
      have KB := hidOf b1
      clear b1
      go_wp2
      refine bodyPost_ret (v := .tuple #[]) (by simp [results, Tryz.results186, go_sem]) rfl ⟨rfl, KB.out⟩
set_option maxRecDepth 100000 in
set_option maxHeartbeats 8000000 in
theorem sePutLast (w : World) (base p mb n : Nat) (v : Value) (xs : List S5) (x : S5) (h : PisB w base p mb n v xs) (hn : n ≤ 1000) (hl : xs.length ≤ 100) (hok : setOkB x = true) (hno : seW xs x.region x.slot = none) (hbs : base ≤ w.heap.size) (hs : xs = [] ∨ seK (xs ++ [x]) ((xs.length - 1) / 2) ≤ seK (xs ++ [x]) xs.length) :
    Calls Tryz.prog 160 #[.pointer (some ⟨p, 0, none⟩), .agg #[.int .i64 x.region, .int .i64 x.slot, .int .i64 x.value, .bool x.used, .int .i64 x.version]] w fun e w' => e = .returned (.tuple #[]) ∧ ∃ v', PisB w' base p mb (n + 1) v' (xs ++ [x]) ∧ Below base w w' := by
  obtain ⟨W0, hW0⟩ : ∃ W, W = w.alloc (.cells #[.int .i64 x.region, .int .i64 x.slot, .int .i64 x.value, .bool x.used, .int .i64 x.version] 93) := ⟨_, rfl⟩
  have b0 : Below w.heap.size w W0 := by rw [hW0]; exact (Below.refl _ _).alloc (Nat.le_refl _) _
  have z0 : W0.heap.size = w.heap.size + 1 := by rw [hW0]; simp
  have x0 : SetAt W0 w.heap.size 0 x := by rw [hW0]; exact SetAt.box w x _
  have h0 := h.later b0
  have hk := seOk_in hok
  have hpw : p < w.heap.size := h.lp
  have hmw : mb < w.heap.size := h.mp.lt
  have lk : ∀ d os, (Instr.lookup 197 (.map (some mb)) (cKey x.region x.slot) true).run Tryz.prog (grow (redrawn W0 d) os) = .ok (.tuple #[.int .i64 0, .bool false]) (grow (redrawn W0 d) os) := fun d os => by
    have hu := ((h0.mp).later (below_regrown W0 d os)).look hk.1 hk.2
    rw [hno] at hu
    exact hu
  have lift : ∀ {b o : Nat} {u : Value}, b < W0.heap.size → W0.cell? ⟨b, o, none⟩ = some u → ∀ d os, (grow (redrawn W0 d) os).cell? ⟨b, o, none⟩ = some u := fun {b o u} hb hh d os => ((below_regrown W0 d os).cell (p := ⟨b, o, none⟩) hb).trans hh
  have m1 := lift (by omega) h0.c1
  have t0 := lift (by omega) x0.c0
  have t1 := lift (by omega) x0.c1
  have t2 := lift (by omega) x0.c2
  have t3 := lift (by omega) x0.c3
  have t4 := lift (by omega) x0.c4
  have cC : ∀ d os, Calls Tryz.prog 233 #[.agg #[.int .i64 x.region, .int .i64 x.slot, .int .i64 x.value, .bool x.used, .int .i64 x.version]] (grow (redrawn W0 d) os) fun e w'' => e = .returned (.agg #[.int .i64 x.region, .int .i64 x.slot]) ∧ ∃ p : Regrown, w'' = grow (redrawn W0 p.d) p.os := fun d os => Calls.regrown_of (seCell_any _ _)
  have hm : ∀ w : World, (method 371 93 (.agg #[.int .i64 x.region, .int .i64 x.slot, .int .i64 x.value, .bool x.used, .int .i64 x.version]) "loop.example/g00153/impl.cell").run Tryz.prog w = .ok (233, .agg #[.int .i64 x.region, .int .i64 x.slot, .int .i64 x.value, .bool x.used, .int .i64 x.version]) w := fun _ => by kernel_rfl
  have H : Hid (PisB W0 base p mb n v xs ∧ SetAt W0 w.heap.size 0 x ∧ Below w.heap.size w W0 ∧ W0.heap.size = w.heap.size + 1 ∧ base ≤ w.heap.size ∧ seW xs x.region x.slot = none ∧ setOkB x = true ∧ v.ownBlock ≠ some w.heap.size) := ⟨h0, x0, b0, z0, hbs, hno, hok, fun e => by have := (h.row.lt e).2; omega⟩
  have HS := hidOf hs
  clear h h0 x0 b0 z0 hbs hno hok hs lift
  simp only [cKey, Nat.zero_add] at lk t0 t1 t2 t3 t4
  go_enter Tryz.func160, Tryz.ntmps160
  go_wp2_with fail
  rw [← hW0]
  clear hW0
  refine wp_region_quiet_below (by kernel_rfl) (by kernel_rfl) ?_
  repeat (go_big_quiet_step (exact cC _ _))
  refine wpQuiet_nil ?_
  intro _ hw'
  obtain ⟨⟨dq', osq⟩, hw''⟩ := hw'
  subst hw''
  have bq := below_regrown W0 dq' osq
  have K1 : Hid (PisB (grow (redrawn W0 dq') osq) base p mb n v xs ∧ SetAt (grow (redrawn W0 dq') osq) w.heap.size 0 x ∧ Below w.heap.size w (grow (redrawn W0 dq') osq) ∧ w.heap.size < (grow (redrawn W0 dq') osq).heap.size) := by
    obtain ⟨g1, g2, g3, g4, _⟩ := H.out
    have := bq.size
    exact ⟨g1.later bq, g2.below bq (by omega), g3.trans (bq.mono g3.size), by omega⟩
  clear bq m1 t0 t1 t2 t3 t4 cC lk
  obtain ⟨av, ac, hav, -⟩ := K1.out.1.row.form
  have m0 := K1.out.1.c0
  rw [hav] at m0
  have HV := hidOf hav
  clear hav
  go_upto_region 5 with fail
  clear m0
  generalize grow (redrawn W0 dq') osq = W1 at *
  have hS : (fun X : World => X.cell? ⟨p, 0, none⟩ = some v ∧ SetAt X w.heap.size 0 x) W1.drew := ⟨K1.out.1.c0, K1.out.2.1.below ((Below.refl W1.heap.size W1).drew) K1.out.2.2.2⟩
  refine wp_region_z (fun z => z == 10) (fun X : World => X.cell? ⟨p, 0, none⟩ = some v ∧ SetAt X w.heap.size 0 x) (by kernel_rfl) ?_
  have KD : Hid (Below W1.heap.size W1 W1.drew) := (Below.refl _ _).drew
  generalize W1.drew = Wd at *
  refine wpZ_takeP (i := 0) (v := ?_) rfl (by kernel_rfl) (fun _ _ _ h => h) (Or.inl ⟨by rfl, ?_⟩) hS ?_
  rotate_left
  · (intro w _; go_simp; first | done | with_reducible rfl | (rw [if_pos (by omega)]) | (rw [if_pos (by omega)]; go_simp))
  simp only [Act.put]
  refine wpZ_takeP (i := 1) (v := ?_) rfl (by kernel_rfl) (fun _ _ _ h => h) (Or.inl ⟨by rfl, ?_⟩) hS ?_
  rotate_left
  · (intro w _; go_simp; first | done | with_reducible rfl | (rw [if_pos (by omega)]) | (rw [if_pos (by omega)]; go_simp))
  simp only [Act.put]
  refine wpZ_takeP (i := 2) (v := ?_) rfl (by kernel_rfl) (fun _ _ _ h => h) (Or.inl ⟨by rfl, ?_⟩) hS ?_
  rotate_left
  · (intro w _; go_simp; first | done | with_reducible rfl | (rw [if_pos (by omega)]) | (rw [if_pos (by omega)]; go_simp))
  simp only [Act.put]
  refine wpZ_takeP (i := 3) (v := ?_) rfl (by kernel_rfl) (fun _ _ _ h => h) (Or.inl ⟨by rfl, ?_⟩) hS ?_
  rotate_left
  · (intro w _; go_simp; first | done | with_reducible rfl | (rw [if_pos (by omega)]) | (rw [if_pos (by omega)]; go_simp))
  simp only [Act.put]
  refine wpZ_take (i := 4) (v := ?_) rfl (by kernel_rfl) (fun _ _ _ h => h) (Or.inl ⟨by rfl, ?_⟩) hS ?_
  rotate_left
  · (intro w hSw; obtain ⟨s0, ⟨a0, a1, a2, a3, a4⟩⟩ := hSw; go_simp; first | done | with_reducible rfl)
  simp only [Act.put]
  refine wpZ_take (i := 5) (v := ?_) rfl (by kernel_rfl) (fun _ _ _ h => h) (Or.inl ⟨by rfl, ?_⟩) hS ?_
  rotate_left
  · (intro w hSw; obtain ⟨s0, ⟨a0, a1, a2, a3, a4⟩⟩ := hSw; go_simp; first | done | with_reducible rfl)
  simp only [Act.put]
  obtain ⟨V, hV⟩ : ∃ V, V = Wd.alloc (.cells #[.int .i64 x.region, .int .i64 x.slot, .int .i64 x.value, .bool x.used, .int .i64 x.version] 93) := ⟨_, rfl⟩
  have bV : Below Wd.heap.size Wd V := by rw [hV]; exact (Below.refl _ _).alloc (Nat.le_refl _) _
  have bWV : Below W1.heap.size W1 V := KD.out.trans (bV.mono KD.out.size)
  have hone : SetsAt V Wd.heap.size 0 [x] := by rw [hV]; exact (SetAt.box Wd _ _).one
  have hB1 := (K1.out.1.later bWV)
  obtain ⟨v5, Y5, hr, hrow5, hgr, hlies⟩ := pushSe hB1.row [x] (by simp; omega) 45 Wd.heap.size 0 1 hone (by have := hB1.bp; have := hB1.lp; omega)
  obtain ⟨a5, k5, rfl⟩ : ∃ a5 k5, v5 = Value.slice a5 (xs.length + 1) k5 := by
    obtain ⟨a5, k5, e5, -⟩ := hrow5.form
    exact ⟨a5, k5, by simpa using e5⟩
  have hwsz : w.heap.size < V.heap.size := Nat.lt_of_lt_of_le K1.out.2.2.2 bWV.size
  have hSV : (fun X : World => X.cell? ⟨p, 0, none⟩ = some v ∧ SetAt X w.heap.size 0 x) V := ⟨hB1.c0, K1.out.2.1.below bWV K1.out.2.2.2⟩
  have kb : ∀ b, b < V.heap.size → v.ownBlock ≠ some b → Y5.heap[b]? = V.heap[b]? := fun b hb hne => hgr.block b hb (fun e => hne e.symm)
  have hSY : (fun X : World => X.cell? ⟨p, 0, none⟩ = some v ∧ SetAt X w.heap.size 0 x) Y5 := ⟨(World.cell?_of_block (a := ⟨p, 0, none⟩) (kb p hB1.lp hB1.vp)).trans hB1.c0, SetAt.of_blk hSV.2 (kb _ hwsz H.out.2.2.2.2.2.2.2)⟩
  have own5 : ∀ b, b < V.heap.size → v.ownBlock ≠ some b → (Value.slice a5 (xs.length + 1) k5).ownBlock ≠ some b := fun b hb hne e => by
    rcases hlies with h | h
    · rw [h] at e; exact hne e
    · rw [h] at e; cases e; omega
  have K5 : Hid (RowS Y5 base (Value.slice a5 (xs.length + 1) k5) (xs ++ [x]) ∧ Y5.cell? ⟨p, 0, none⟩ = some v ∧ Y5.cell? ⟨p, 1, none⟩ = some (.map (some mb)) ∧ (∀ j, Y5.frozen? ⟨p, j, none⟩ = false) ∧ MapF Y5 mb n (seW xs) ∧ (Value.slice a5 (xs.length + 1) k5).ownBlock ≠ some p ∧ (Value.slice a5 (xs.length + 1) k5).ownBlock ≠ some mb ∧ p < Y5.heap.size ∧ Below base w Y5 ∧ SetAt Y5 w.heap.size 0 x ∧ w.heap.size < Y5.heap.size ∧ (Value.slice a5 (xs.length + 1) k5).ownBlock ≠ some w.heap.size ∧ mb < V.heap.size) := by
    have hp5 := kb p hB1.lp hB1.vp
    have hm5 := kb mb hB1.mp.lt hB1.vm
    have bwV : Below base w V := (K1.out.2.2.1.mono H.out.2.2.2.2.1).trans (bWV.mono (by have := K1.out.1.bp; have := K1.out.1.lp; omega))
    refine ⟨hrow5, hSY.1, (World.cell?_of_block (a := ⟨p, 1, none⟩) hp5).trans hB1.c1, fun j => (World.frozen?_of_block (a := ⟨p, j, none⟩) hp5).trans (hB1.fz j), hB1.mp.of_block hm5, own5 p hB1.lp hB1.vp, own5 mb hB1.mp.lt hB1.vm, Nat.lt_of_lt_of_le hB1.lp hgr.size, ?_, hSY.2, Nat.lt_of_lt_of_le hwsz hgr.size, own5 _ hwsz H.out.2.2.2.2.2.2.2, hB1.mp.lt⟩
    exact bwV.grown hgr (by have := hB1.bp; have := hB1.lp; omega) (fun b e => (hB1.row.lt e).1)
  rw [hV] at hr
  have f0 := K5.out.2.2.2.1 0
  have e0 := K5.out.2.1
  simp only [List.length_cons, List.length_nil, Nat.zero_add] at hr
  refine wpZ_ready (rs := [6]) (by kernel_rfl) (by simp) ?_
  refine AllZ.cons rfl (fun K hK => ?_) AllZ.nil
  go_simp
  refine hK.out _ _ (fun _ => by rw [← hV]; exact hSV) ?_
  clear hK K
  refine wpZ_ready (rs := [7]) (by kernel_rfl) (by simp) ?_
  refine AllZ.cons rfl (fun K hK => ?_) AllZ.nil
  refine step_known _ rfl (.tmp 34) (.tmp 36) 45 rfl _ _ _ _ (by first | rfl | simp [Act.eval, Act.put]) (by first | rfl | simp [Act.eval, Act.put]) hr ?_
  refine hK.out _ _ (fun _ => hSY) ?_
  clear hK K hr
  simp only [Act.put]
  refine wpZ_takeP (i := 8) (v := ?_) rfl (by kernel_rfl) (fun _ _ _ h => h) (Or.inl ⟨by rfl, ?_⟩) hSY ?_
  rotate_left
  · (intro w _; go_simp; first | done | with_reducible rfl | (rw [if_pos (by omega)]) | (rw [if_pos (by omega)]; go_simp))
  simp only [Act.put]
  refine wpZ_takeP (i := 9) (v := ?_) rfl (by kernel_rfl) (fun _ _ _ h => h) (Or.inl ⟨by rfl, ?_⟩) hSY ?_
  rotate_left
  · (intro w _; go_simp; first | done | with_reducible rfl | (rw [if_pos (by omega)]) | (rw [if_pos (by omega)]; go_simp))
  simp only [Act.put]
  refine wpZ_ready (rs := [10]) (by kernel_rfl) (by simp) ?_
  refine AllZ.cons rfl (fun K hK => ?_) AllZ.nil
  go_simp
  refine hK.out _ _ (fun h => absurd (show false = true from h.symm.trans (by kernel_rfl)) (by decide)) ?_
  clear hK K
  refine wpZ_done (by kernel_rfl) ?_ _
  have KU : Hid (SetAt (Y5.setCell ⟨p, 0, none⟩ (Value.slice a5 (xs.length + 1) k5)) w.heap.size 0 x ∧ RowS (Y5.setCell ⟨p, 0, none⟩ (Value.slice a5 (xs.length + 1) k5)) base (Value.slice a5 (xs.length + 1) k5) (xs ++ [x]) ∧ (Y5.setCell ⟨p, 0, none⟩ (Value.slice a5 (xs.length + 1) k5)).cell? ⟨p, 0, none⟩ = some (Value.slice a5 (xs.length + 1) k5) ∧ (Y5.setCell ⟨p, 0, none⟩ (Value.slice a5 (xs.length + 1) k5)).cell? ⟨p, 1, none⟩ = some (.map (some mb)) ∧ (∀ j, (Y5.setCell ⟨p, 0, none⟩ (Value.slice a5 (xs.length + 1) k5)).frozen? ⟨p, j, none⟩ = false) ∧ MapF (Y5.setCell ⟨p, 0, none⟩ (Value.slice a5 (xs.length + 1) k5)) mb n (seW xs) ∧ (Value.slice a5 (xs.length + 1) k5).ownBlock ≠ some p ∧ (Value.slice a5 (xs.length + 1) k5).ownBlock ≠ some mb ∧ p < (Y5.setCell ⟨p, 0, none⟩ (Value.slice a5 (xs.length + 1) k5)).heap.size ∧ Below base w (Y5.setCell ⟨p, 0, none⟩ (Value.slice a5 (xs.length + 1) k5)) ∧ w.heap.size < (Y5.setCell ⟨p, 0, none⟩ (Value.slice a5 (xs.length + 1) k5)).heap.size ∧ (Value.slice a5 (xs.length + 1) k5).ownBlock ≠ some w.heap.size) := by
    obtain ⟨g1, g2, g3, g4, g5, g6, g7, g8, g9, g10, g11, g12, g13⟩ := K5.out
    have bp := K1.out.1.bp
    have far : ∀ b, b ≠ p → (Y5.setCell ⟨p, 0, none⟩ (Value.slice a5 (xs.length + 1) k5)).heap[b]? = Y5.heap[b]? := fun b hb => Below.heap_setCell _ _ _ _ hb
    refine ⟨SetAt.of_blk g10 (far _ (by omega)), g1.keep (fun b _ _ e => far b (fun e' => g6 (by rw [e, e']))), cell_set_same g2, (cell_set_other (by omega)).trans g3, fun j => by rw [World.frozen?_setCell]; exact g4 j, g5.of_block (far mb (fun e => K1.out.1.pm e.symm)), g6, g7, by simpa [World.setCell] using g8, g9.setCell (p := ⟨p, 0, none⟩) bp _, by simpa [World.setCell] using g11, g12⟩
  clear K5 hS hSV hSY kb own5 hgr hlies hrow5 hB1 hone bWV bV hV V hwsz f0 e0 KD
  generalize Y5.setCell ⟨p, 0, none⟩ (Value.slice a5 (xs.length + 1) k5) = W5 at *
  clear Y5
  have hS : (fun X : World => X.cell? ⟨p, 1, none⟩ = some (.map (some mb)) ∧ SetAt X w.heap.size 0 x) W5.drew := ⟨KU.out.2.2.2.1, KU.out.1.below ((Below.refl W5.heap.size W5).drew) KU.out.2.2.2.2.2.2.2.2.2.2.1⟩
  go_upto_region 6 with fail
  refine wp_region_z (fun z => z == 8) (fun X : World => X.cell? ⟨p, 1, none⟩ = some (.map (some mb)) ∧ SetAt X w.heap.size 0 x) (by kernel_rfl) ?_
  have KD : Hid (Below W5.heap.size W5 W5.drew) := (Below.refl _ _).drew
  generalize W5.drew = We at *
  refine wpZ_takeP (i := 0) (v := ?_) rfl (by kernel_rfl) (fun _ _ _ h => h) (Or.inl ⟨by rfl, ?_⟩) hS ?_
  rotate_left
  · (intro w _; go_simp; first | done | with_reducible rfl | (rw [if_pos (by omega)]) | (rw [if_pos (by omega)]; go_simp))
  simp only [Act.put]
  refine wpZ_takeP (i := 1) (v := ?_) rfl (by kernel_rfl) (fun _ _ _ h => h) (Or.inl ⟨by rfl, ?_⟩) hS ?_
  rotate_left
  · (intro w _; go_simp; first | done | with_reducible rfl | (rw [if_pos (by omega)]) | (rw [if_pos (by omega)]; go_simp))
  simp only [Act.put]
  refine wpZ_takeP (i := 2) (v := ?_) rfl (by kernel_rfl) (fun _ _ _ h => h) (Or.inl ⟨by rfl, ?_⟩) hS ?_
  rotate_left
  · (intro w _; go_simp; first | done | with_reducible rfl | (rw [if_pos (by omega)]) | (rw [if_pos (by omega)]; go_simp))
  simp only [Act.put]
  refine wpZ_take (i := 3) (v := ?_) rfl (by kernel_rfl) (fun _ _ _ h => h) (Or.inl ⟨by rfl, ?_⟩) hS ?_
  rotate_left
  · (intro w hSw; obtain ⟨s0, ⟨a0, a1, a2, a3, a4⟩⟩ := hSw; go_simp; first | done | with_reducible rfl)
  simp only [Act.put]
  refine wpZ_take (i := 4) (v := ?_) rfl (by kernel_rfl) (fun _ _ _ h => h) (Or.inl ⟨by rfl, ?_⟩) hS ?_
  rotate_left
  · (intro w hSw; obtain ⟨s0, ⟨a0, a1, a2, a3, a4⟩⟩ := hSw; go_simp; first | done | with_reducible rfl)
  simp only [Act.put]
  refine wpZ_takeP (i := 5) (v := ?_) rfl (by kernel_rfl) (fun _ _ _ h => h) (Or.inl ⟨by rfl, ?_⟩) hS ?_
  rotate_left
  · (intro w _; go_simp; first | done | with_reducible rfl | (rw [if_pos (by omega)]) | (rw [if_pos (by omega)]; go_simp))
  simp only [Act.put]
  refine wpZ_takeP (i := 7) (v := ?_) rfl (by kernel_rfl) (fun _ _ _ h => h) (Or.inl ⟨by rfl, ?_⟩) hS ?_
  rotate_left
  · (intro w _; go_simp; first | done | with_reducible rfl | (rw [if_pos (by omega)]) | (rw [if_pos (by omega)]; go_simp))
  simp only [Act.put]
  refine wpZ_ready (rs := [6]) (by kernel_rfl) (by simp) ?_
  refine AllZ.cons rfl (fun K hK => ?_) AllZ.nil
  go_simp
  refine (seCell_any We x).mono ?_
  rintro e X2 ⟨rfl, b2⟩
  have bX : Below W5.heap.size W5 X2 := KD.out.trans (b2.mono KD.out.size)
  obtain ⟨Y, hst, hmY, htY, hsY⟩ := (KU.out.2.2.2.2.2.1.later bX).store (by omega) hk.1 hk.2 xs.length (by omega)
  rw [← seW_snoc H.out.2.2.2.2.2.1] at hmY
  have hS2 : (fun X : World => X.cell? ⟨p, 1, none⟩ = some (.map (some mb)) ∧ SetAt X w.heap.size 0 x) X2 := by
    obtain ⟨g1, g2, g3, g4, g5, g6, g7, g8, g9, g10, g11, g12⟩ := KU.out
    exact ⟨(bX.cell (p := ⟨p, 1, none⟩) g9).trans g4, g1.below bX g11⟩
  have K7 : Hid (PisB Y base p mb (n + 1) (Value.slice a5 (xs.length + 1) k5) (xs ++ [x]) ∧ Below base w Y) := by
    obtain ⟨g1, g2, g3, g4, g5, g6, g7, g8, g9, g10, g11, g12⟩ := KU.out
    have hpm := K1.out.1.pm
    have hp5 := (htY.block p (Nat.lt_of_lt_of_le g9 bX.size) hpm).trans (bX.block p g9)
    refine ⟨⟨(World.cell?_of_block (a := ⟨p, 0, none⟩) hp5).trans g3, (World.cell?_of_block (a := ⟨p, 1, none⟩) hp5).trans g4, fun j => (World.frozen?_of_block (a := ⟨p, j, none⟩) hp5).trans (g5 j), g2.keep (fun b _ hb e => (htY.block b (Nat.lt_of_lt_of_le hb bX.size) (fun e' => g8 (by rw [e, e']))).trans (bX.block b hb)), hmY, fun s hs => ?_, g7, g8, hpm, K1.out.1.bp, K1.out.1.bm, by rw [hsY]; exact Nat.lt_of_lt_of_le g9 bX.size⟩, ?_⟩
    · rcases List.mem_append.1 hs with hs | hs
      · exact K1.out.1.ok s hs
      · simp at hs; subst hs; exact H.out.2.2.2.2.2.2.1
    · have hbW : base ≤ W5.heap.size := by have := K1.out.1.bp; omega
      exact (g10.trans (bX.mono hbW)).trans (htY.below K1.out.1.bm (Nat.le_trans hbW bX.size))
  simp only [cKey] at hst
  refine hK.out _ _ (fun _ => hS2) ?_
  clear hK K hS2 hS bX KD hmY htY hsY hm hk b2
  refine wpZ_ready (rs := [8]) (by kernel_rfl) (by simp) ?_
  refine AllZ.cons rfl (fun K hK => ?_) AllZ.nil
  go_simp
  refine hK.out _ _ (fun h => absurd (show false = true from h.symm.trans (by kernel_rfl)) (by decide)) ?_
  clear hK K hst
  refine wpZ_done (by kernel_rfl) ?_ _
  obtain ⟨q5, cap5, hv5, P7⟩ := K7.out.1.pil (by simp)
  have c7 := seLiftStay Y base p q5 mb (n + 1) cap5 (xs ++ [x]) xs.length P7 (by simp; omega) (by simp) (by
    rcases HS.out with h | h
    · exact .inl (by rw [h]; rfl)
    · exact .inr h)
  go_wp2_with fail
  refine c7.mono ?_
  clear c7
  rintro e w8 ⟨rfl, b8⟩
  have KE : Hid (PisB w8 base p mb (n + 1) (Value.slice a5 (xs.length + 1) k5) (xs ++ [x]) ∧ Below base w w8) := ⟨K7.out.1.later b8, K7.out.2.trans (b8.mono (by have := K7.out.1.bp; have := K7.out.1.lp; omega))⟩
  clear b8
  go_wp2
  refine bodyPost_end (v := .tuple #[]) (by simp [results, Tryz.results160, go_sem]) rfl ⟨rfl, (Value.slice a5 (xs.length + 1) k5), KE.out.1, KE.out.2⟩
def seUp2 (xs : List S5) : Prop := xs.Pairwise fun a b => seR a < seR b
theorem seUp2_at {xs : List S5} (h : seUp2 xs) {i j : Nat} {x y : S5} (hi : xs[i]? = some x) (hj : xs[j]? = some y) (hij : i < j) : seR x < seR y := by
  have li := (List.getElem?_eq_some_iff.1 hi)
  have lj := (List.getElem?_eq_some_iff.1 hj)
  have := List.pairwise_iff_getElem.1 h i j li.1 lj.1 hij
  rwa [li.2, lj.2] at this
theorem seNew {xs : List S5} (h : seUp2 xs) {k : Nat} {x : S5} (hk : xs[k]? = some x) : seW (xs.take k) x.region x.slot = none := by
  rw [seW_none]
  intro y hy e
  obtain ⟨i, hi, rfl⟩ := List.getElem_of_mem hy
  have hik : i < k := by rw [List.length_take] at hi; omega
  have e2 : xs[i]? = some ((xs.take k)[i]) := by
    have := List.getElem?_eq_getElem hi
    rwa [List.getElem?_take, if_pos hik] at this
  have := seUp2_at h e2 hk hik
  unfold seR at this
  rw [e.1, e.2] at this
  omega
theorem seStay {xs : List S5} (h : seUp2 xs) {k : Nat} {x : S5} (hk : xs[k]? = some x) : xs.take k = [] ∨ seK (xs.take k ++ [x]) (((xs.take k).length - 1) / 2) ≤ seK (xs.take k ++ [x]) (xs.take k).length := by
  by_cases h0 : k = 0
  · exact .inl (by rw [h0]; rfl)
  · have lk := (List.getElem?_eq_some_iff.1 hk).1
    have hl : (xs.take k).length = k := by rw [List.length_take]; omega
    have e1 : xs.take k ++ [x] = xs.take (k + 1) := by rw [List.take_add_one, hk]; rfl
    refine .inr ?_
    rw [hl, e1]
    obtain ⟨y, hy⟩ : ∃ y, xs[(k - 1) / 2]? = some y := ⟨_, List.getElem?_eq_getElem (by omega)⟩
    rw [seK_R (x := y) (by rw [List.getElem?_take, if_pos (by omega)]; exact hy), seK_R (x := x) (by rw [List.getElem?_take, if_pos (by omega)]; exact hk)]
    exact Int.le_of_lt (seUp2_at h hy hk (by omega))
set_option maxHeartbeats 4000000 in
theorem sePileOf_any (w : World) (a : Option Addr) (c : Nat) (xs : List S5) (hl : xs.length ≤ 100) (hs : Sl w w.heap.size a xs.length xs) (hok : ∀ s ∈ xs, setOkB s = true) (hup : seUp2 xs) :
    Calls Tryz.prog 109 #[.slice a xs.length c] w fun e w' => ∃ p mb n v, e = .returned (.pointer (some ⟨p, 0, none⟩)) ∧ PisB w' w.heap.size p mb n v xs ∧ n ≤ xs.length ∧ Below w.heap.size w w' := by
  obtain ⟨W0, hW0⟩ : ∃ W, W = w.alloc (.map #[] 0) := ⟨_, rfl⟩
  have z0 : W0.heap.size = w.heap.size + 1 := by rw [hW0]; simp
  have b0 : Below w.heap.size w W0 := by rw [hW0]; exact (Below.refl _ _).alloc (Nat.le_refl _) _
  obtain ⟨W, hW⟩ : ∃ W, W = W0.alloc (.cells #[.slice none 0 0, .map (some w.heap.size)] 199) := ⟨_, rfl⟩
  have b1 : Below W0.heap.size W0 W := by rw [hW]; exact (Below.refl _ _).alloc (Nat.le_refl _) _
  have pb : PisB W w.heap.size (w.heap.size + 1) w.heap.size 0 (.slice none 0 0) [] := by
    refine ⟨(by rw [hW, ← z0]; go_simp), (by rw [hW, ← z0]; go_simp), (fun j => by rw [hW, ← z0]; go_simp), RowS.nil _ _, ?_, (fun s hs => by cases hs), (fun e => by cases e), (fun e => by cases e), (by omega), (by omega), Nat.le_refl _, (by rw [hW]; simp [z0])⟩
    have hm := (MapF.made w).later (W' := W) (by rw [← hW0]; exact b1)
    exact hm
  have H : Hid (Sl w w.heap.size a xs.length xs ∧ (∀ s ∈ xs, setOkB s = true) ∧ seUp2 xs ∧ PisB W w.heap.size (w.heap.size + 1) w.heap.size 0 (.slice none 0 0) [] ∧ Below w.heap.size w W) := ⟨hs, hok, hup, pb, b0.trans (b1.mono b0.size)⟩
  clear hs hok hup pb b0 b1 z0
  rw [hW0] at hW
  clear hW0
  have hmm := @run_makeMap Tryz.prog
  go_enter Tryz.func109, Tryz.ntmps109
  go_wp2
  rw [← hW]
  clear hW
  go_loopw [11] (fun v11 wr => ∃ (k n : Nat) (v : Value), k ≤ xs.length ∧ v11 = .int .i64 (k : Int) ∧ PisB wr w.heap.size (w.heap.size + 1) w.heap.size n v (xs.take k) ∧ n ≤ k ∧ Below w.heap.size w wr) (fun v11 _ => xs.length - (intOf v11).toNat)
  case atStart => exact ⟨0, 0, .slice none 0 0, Nat.zero_le _, rfl, by simpa using H.out.2.2.2.1, Nat.le_refl _, H.out.2.2.2.2⟩
  case round =>
    obtain ⟨k, n, v, hk, rfl, hp, hnk, hbl⟩ := hrel
    by_cases hlt : k < xs.length
    · obtain ⟨_, hsk⟩ := H.out.1.later hbl
      rcases hsk with hsk | ⟨b, off, rfl, hb, hx⟩
      · omega
      have hxk := atSe_of hlt
      obtain ⟨c0, c1, c2, c3, c4⟩ := hx k _ hxk
      obtain ⟨V, hV⟩ : ∃ V, V = wr.alloc (.cells #[.int .i64 (atSe xs k).region, .int .i64 (atSe xs k).slot, .int .i64 (atSe xs k).value, .bool (atSe xs k).used, .int .i64 (atSe xs k).version] 93) := ⟨_, rfl⟩
      have bV : Below wr.heap.size wr V := by rw [hV]; exact (Below.refl _ _).alloc (Nat.le_refl _) _
      have cp := sePutLast V w.heap.size (w.heap.size + 1) w.heap.size n v (xs.take k) (atSe xs k) (hp.later bV) (by omega) (by rw [List.length_take]; omega) (H.out.2.1 _ (List.mem_of_getElem? hxk)) (seNew H.out.2.2.1 hxk) (Nat.le_trans hbl.size bV.size) (seStay H.out.2.2.1 hxk)
      have KB : Hid (Below w.heap.size w V ∧ xs.take k ++ [atSe xs k] = xs.take (k + 1)) := ⟨hbl.trans (bV.mono hbl.size), by rw [List.take_add_one, hxk]; rfl⟩
      clear hp hbl hx hxk bV
      go_wp2_with fail
      rw [← hV]
      clear hV c0 c1 c2 c3 c4
      refine cp.mono ?_
      clear cp
      rintro e w1 ⟨rfl, v', p1, b1⟩
      rw [KB.out.2] at p1
      have KE : Hid (PisB w1 w.heap.size (w.heap.size + 1) w.heap.size (n + 1) v' (xs.take (k + 1)) ∧ Below w.heap.size w w1) := ⟨p1, KB.out.1.trans b1⟩
      clear p1 b1
      go_wp2
      exact ⟨⟨k + 1, n + 1, v', by omega, by simp, KE.out.1, by omega, KE.out.2⟩, by simp [intOf]; omega⟩
    · obtain rfl : k = xs.length := by omega
      have hd : decide ((xs.length : Int) < (xs.length : Int)) = false := by simp
      rw [List.take_length] at hp
      have KE : Hid (PisB wr w.heap.size (w.heap.size + 1) w.heap.size n v xs ∧ Below w.heap.size w wr) := ⟨hp, hbl⟩
      clear hp hbl
      go_wp2
      go_ret
      exact ⟨w.heap.size + 1, w.heap.size, n, v, rfl, KE.out.1, hnk, KE.out.2⟩
set_option maxHeartbeats 4000000 in
theorem seHas_any (w : World) (base p mb n : Nat) (v : Value) (xs : List S5) (r s : Int) (h : PisB w base p mb n v xs) (h1 : inB 0 5 r = true) (h2 : inB 0 5 s = true) :
    Calls Tryz.prog 110 #[.pointer (some ⟨p, 0, none⟩), .agg #[.int .i64 r, .int .i64 s]] w fun e w' => e = .returned (.bool (seW xs r s).isSome) ∧ Below w.heap.size w w' := by
  obtain ⟨W0, hW0⟩ : ∃ W, W = w.alloc (.cells #[.int .i64 r, .int .i64 s] 159) := ⟨_, rfl⟩
  have b0 : Below w.heap.size w W0 := by rw [hW0]; exact (Below.refl _ _).alloc (Nat.le_refl _) _
  have z0 : W0.heap.size = w.heap.size + 1 := by rw [hW0]; simp
  have h0 := h.later b0
  have lk : ∀ d os, (Instr.lookup 197 (.map (some mb)) (cKey r s) true).run Tryz.prog (grow (redrawn W0 d) os) = .ok (.tuple #[.int .i64 (((seW xs r s).getD 0 : Nat) : Int), .bool (seW xs r s).isSome]) (grow (redrawn W0 d) os) := fun d os => ((h0.mp).later (below_regrown W0 d os)).look h1 h2
  have m1 : ∀ d os, (grow (redrawn W0 d) os).cell? ⟨p, 1, none⟩ = some (.map (some mb)) := fun d os => ((below_regrown W0 d os).cell (p := ⟨p, 1, none⟩) h0.lp).trans h0.c1
  have t0 : ∀ d os, (grow (redrawn W0 d) os).cell? ⟨w.heap.size, 0, none⟩ = some (.int .i64 r) := fun d os => ((below_regrown W0 d os).cell (p := ⟨w.heap.size, 0, none⟩) (by rw [z0]; simp)).trans (by rw [hW0]; go_simp)
  have t1 : ∀ d os, (grow (redrawn W0 d) os).cell? ⟨w.heap.size, 1, none⟩ = some (.int .i64 s) := fun d os => ((below_regrown W0 d os).cell (p := ⟨w.heap.size, 1, none⟩) (by rw [z0]; simp)).trans (by rw [hW0]; go_simp)
  have H : Hid (Below w.heap.size w W0) := b0
  clear h h0 b0 z0 h1 h2
  simp only [cKey] at lk
  generalize (seW xs r s).isSome = B at *
  generalize ((seW xs r s).getD 0) = I at *
  go_enter Tryz.func110, Tryz.ntmps110
  go_wp2_with fail
  rw [← hW0]
  clear hW0
  refine wp_region_quiet_below (by kernel_rfl) (by kernel_rfl) ?_
  repeat (go_big_quiet_step (fail))
  refine wpQuiet_nil ?_
  intro _ hw'
  obtain ⟨⟨dq', osq⟩, hw''⟩ := hw'
  subst hw''
  have bq := below_regrown W0 dq' osq
  have KE : Hid (Below w.heap.size w (grow (redrawn W0 dq') osq)) := H.out.trans (bq.mono H.out.size)
  clear bq lk m1 t0 t1
  go_wp2
  go_ret
  exact ⟨rfl, KE.out⟩
theorem rise_all {f : Nat → Int} {n : Nat} (h : ∀ i, i + 1 < n → f i < f (i + 1)) {i j : Nat} (hij : i < j) (hj : j < n) : f i < f j := by
  induction j with
  | zero => omega
  | succ j ih =>
    by_cases e : i = j
    · subst e; exact h i hj
    · exact Int.lt_trans (ih (by omega) (by omega)) (h j hj)
theorem txB_no {t : T7} (h : txB t = true) : (∀ s ∈ t.reads, noteOkB s = true) ∧ noUp2 t.reads := by
  simp only [txB, Bool.and_eq_true] at h
  have g := h.1.2
  rw [noAt_all, Bool.and_eq_true, List.all_eq_true, List.all_eq_true] at g
  refine ⟨fun s hs => ?_, ?_⟩
  · obtain ⟨i, hi, rfl⟩ := List.getElem_of_mem hs
    have := g.1 i (List.mem_range.2 hi)
    rwa [show atNo t.reads i = t.reads[i] from by have := atNo_of hi; rw [List.getElem?_eq_getElem hi] at this; exact (Option.some.inj this).symm] at this
  · refine List.pairwise_iff_getElem.2 fun i j hi hj hij => ?_
    have := rise_all (f := fun i => noR (atNo t.reads i)) (n := t.reads.length) (fun i hi => by
      have := g.2 (i + 1) (List.mem_range.2 hi)
      simp only [noUp, Nat.add_sub_cancel, Bool.or_eq_true, decide_eq_true_eq] at this
      rcases this with h | h
      · omega
      · exact h) hij hj
    have e : ∀ i (hi : i < t.reads.length), atNo t.reads i = t.reads[i] := fun i hi => by have := atNo_of hi; rw [List.getElem?_eq_getElem hi] at this; exact (Option.some.inj this).symm
    rwa [e i hi, e j hj] at this
theorem txB_se {t : T7} (h : txB t = true) : (∀ s ∈ t.sets, setOkB s = true) ∧ seUp2 t.sets := by
  simp only [txB, Bool.and_eq_true] at h
  have g := h.2
  rw [seAt_all, Bool.and_eq_true, List.all_eq_true, List.all_eq_true] at g
  refine ⟨fun s hs => ?_, ?_⟩
  · obtain ⟨i, hi, rfl⟩ := List.getElem_of_mem hs
    have := g.1 i (List.mem_range.2 hi)
    rwa [show atSe t.sets i = t.sets[i] from by have := atSe_of hi; rw [List.getElem?_eq_getElem hi] at this; exact (Option.some.inj this).symm] at this
  · refine List.pairwise_iff_getElem.2 fun i j hi hj hij => ?_
    have := rise_all (f := fun i => seR (atSe t.sets i)) (n := t.sets.length) (fun i hi => by
      have := g.2 (i + 1) (List.mem_range.2 hi)
      simp only [seUp, Nat.add_sub_cancel, Bool.or_eq_true, decide_eq_true_eq] at this
      rcases this with h | h
      · omega
      · exact h) hij hj
    have e : ∀ i (hi : i < t.sets.length), atSe t.sets i = t.sets[i] := fun i hi => by have := atSe_of hi; rw [List.getElem?_eq_getElem hi] at this; exact (Option.some.inj this).symm
    rwa [e i hi, e j hj] at this
def CAns (w : World) (xs : List N5) (e : Ending) (w' : World) : Prop :=
  ∃ (a : Option Addr) (c : Nat) (PS : Nat → Prop), e = .returned (.slice a xs.length c) ∧ OwnNo w' PS a xs ∧ (∀ q, PS q → w.heap.size ≤ q ∧ q < w'.heap.size) ∧ Below w.heap.size w w'
theorem CAns.of {w w' : World} {base : Nat} {v : Value} {xs : List N5} (h : RowN w' base v xs) (hb : w.heap.size ≤ base) (b : Below w.heap.size w w') : CAns w xs (.returned v) w' := by
  obtain ⟨a, c, e, ho⟩ := h.form
  exact ⟨a, c, _, by rw [e], ho, fun q hq => ⟨Nat.le_trans hb (h.lt hq).1, (h.lt hq).2⟩, b⟩
theorem CAns.none {w w' : World} (b : Below w.heap.size w w') : CAns w [] (.returned (.slice Option.none 0 0)) w' := ⟨Option.none, 0, fun _ => False, rfl, .inl rfl, fun _ h => h.elim, b⟩
def ofC (ss : List S5) (xs : List N5) : List N5 := xs.filter fun n => (seW ss n.region n.slot).isNone
theorem ofC_yes {ss : List S5} {xs : List N5} {k : Nat} {s : N5} (h : xs[k]? = some s) (hg : (seW ss s.region s.slot).isSome = false) : ofC ss (xs.take (k + 1)) = ofC ss (xs.take k) ++ [s] := by
  have hg' : (seW ss s.region s.slot).isNone = true := by cases e : seW ss s.region s.slot <;> simp_all
  rw [List.take_add_one, h, ofC, List.filter_append]; simp [hg', ofC]
theorem ofC_no {ss : List S5} {xs : List N5} {k : Nat} {s : N5} (h : xs[k]? = some s) (hg : (seW ss s.region s.slot).isSome = true) : ofC ss (xs.take (k + 1)) = ofC ss (xs.take k) := by
  have hg' : (seW ss s.region s.slot).isNone = false := by cases e : seW ss s.region s.slot <;> simp_all
  rw [List.take_add_one, h, ofC, List.filter_append]; simp [hg', ofC]
theorem ofC_len (ss : List S5) (xs : List N5) : (ofC ss xs).length ≤ xs.length := List.length_filter_le _ _
def checksT (t : T7) : List N5 := if txB t = true then ofC t.sets t.reads else []
def setAt (xs : List S5) (r s : Int) : Int := match seW xs r s with | some i => (i : Int) | none => -1
theorem setAt_lt (xs : List S5) (r s : Int) : decide (setAt xs r s < 0) = !(seW xs r s).isSome := by
  unfold setAt
  cases seW xs r s <;> simp
theorem seW_found {xs : List S5} {k : Nat} {x : S5} {r s : Int} (h : seW (xs.take k) r s = none) (hx : xs[k]? = some x) (h1 : x.region = r) (h2 : x.slot = s) : seW xs r s = some k := by
  have lk := List.getElem?_eq_some_iff.1 hx
  have l1 := lk.1
  unfold seW at *
  rw [List.findIdx?_eq_some_iff_getElem]
  refine ⟨lk.1, by rw [lk.2]; simp [h1, h2], fun j hj => ?_⟩
  rw [List.findIdx?_eq_none_iff] at h
  have := h xs[j] (List.mem_take_iff_getElem.2 ⟨j, by omega, rfl⟩)
  simp at this ⊢
  exact this
theorem seW_step {xs : List S5} {k : Nat} {x : S5} {r s : Int} (h : seW (xs.take k) r s = none) (hx : xs[k]? = some x) (hn : ¬ (x.region = r ∧ x.slot = s)) : seW (xs.take (k + 1)) r s = none := by
  rw [seW_none] at *
  intro y hy
  rw [List.take_add_one, hx] at hy
  rcases List.mem_append.1 hy with hy | hy
  · exact h y hy
  · simp at hy; subst hy; exact hn
set_option maxHeartbeats 4000000 in
theorem l7Set_any (w : World) (v : TV) (t : T7) (r s : Int) (hl : t.sets.length ≤ 1000) (hs : SlT w v t) :
    Calls Tryz.prog 89 #[v.val t, .int .i64 r, .int .i64 s] w fun e w' => e = .returned (.int .i64 (setAt t.sets r s)) ∧ Below w.heap.size w w' := by
  obtain ⟨ar, cr, ah, ch⟩ := v
  simp only [TV.val]
  obtain ⟨W, hW⟩ : ∃ W, W = w.alloc (.cells #[.int .i64 t.id, .int .i64 t.home, .int .i64 t.phase, .int .i64 t.count, .slice ar t.reads.length cr, .slice ah t.sets.length ch, .int .i64 t.stamp] 47) := ⟨_, rfl⟩
  have b0 : Below w.heap.size w W := by rw [hW]; exact (Below.refl _ _).alloc (Nat.le_refl _) _
  have x0 : BT W w.heap.size ⟨ar, cr, ah, ch⟩ t := by rw [hW]; exact BT.box w ⟨ar, cr, ah, ch⟩ t _
  have p5 := x0.c5
  dsimp only at p5
  have H : Hid (Sl W W.heap.size ah t.sets.length t.sets ∧ Below w.heap.size w W) := ⟨(hs.later b0).s, b0⟩
  clear hs b0 x0
  go_enter Tryz.func89, Tryz.ntmps89
  go_wp2
  rw [← hW]
  clear hW
  go_loopw [7] (fun v7 wr => ∃ k : Nat, k ≤ t.sets.length ∧ v7 = .int .i64 k ∧ wr = W ∧ seW (t.sets.take k) r s = none) (fun v7 _ => t.sets.length - (intOf v7).toNat)
  case atStart => exact ⟨0, Nat.zero_le _, rfl, rfl, by simp [seW]⟩
  case round =>
    obtain ⟨k, hk, rfl, rfl, hnn⟩ := hrel
    have KN := hidOf hnn
    clear hnn
    by_cases hlt : k < t.sets.length
    · obtain ⟨_, hsk⟩ := H.out.1
      rcases hsk with hsk | ⟨b, off, rfl, hb, hx⟩
      · omega
      obtain ⟨c0, c1, c2, c3, c4⟩ := hx k _ (atSe_of hlt)
      clear hx
      by_cases hg : (atSe t.sets k).region = r
      · have dg : ((atSe t.sets k).region == r) = true := by simpa using hg
        by_cases hg2 : (atSe t.sets k).slot = s
        · have dg2 : ((atSe t.sets k).slot == s) = true := by simpa using hg2
          have HF : Hid (setAt t.sets r s = (k : Int)) := by unfold Hid setAt; rw [seW_found KN.out (atSe_of hlt) hg hg2]
          clear hg hg2
          go_wp2
          go_ret
          exact ⟨by rw [HF.out]; rfl, H.out.2⟩
        · have dg2 : ((atSe t.sets k).slot == s) = false := by simpa using hg2
          have KE : Hid (seW (t.sets.take (k + 1)) r s = none) := seW_step KN.out (atSe_of hlt) (fun h => hg2 h.2)
          clear hg hg2
          go_wp2
          exact ⟨⟨k + 1, by omega, by simp, trivial, KE.out⟩, by simp [intOf]; omega⟩
      · have dg : ((atSe t.sets k).region == r) = false := by simpa using hg
        have KE : Hid (seW (t.sets.take (k + 1)) r s = none) := seW_step KN.out (atSe_of hlt) (fun h => hg h.1)
        clear hg
        go_wp2
        exact ⟨⟨k + 1, by omega, by simp, trivial, KE.out⟩, by simp [intOf]; omega⟩
    · obtain rfl : k = t.sets.length := by omega
      have hd : decide ((t.sets.length : Int) < (t.sets.length : Int)) = false := by simp
      have HF : Hid (setAt t.sets r s = -1) := by unfold Hid setAt; have := KN.out; rw [List.take_length] at this; rw [this]
      go_wp2
      go_ret
      exact ⟨by rw [HF.out]; rfl, H.out.2⟩
end Go.Proofs.YtphpcgmnljhimaaGreat.tx
namespace Go.Proofs.YtphpcgmnljhimaaGreat
open Go.RowKit
open Go.Sort (grow)
def voteR (k : C6) (y g : Int) : Int := if clusterB k = true then (if atId k.txs y < k.txs.length then (if (tx.ofR g (atT k.txs (atId k.txs y)).sets).length = 0 then 0 else voteJ k y g (atP k.places g.toNat) (atP k.places g.toNat).length) else 0) else 0
theorem clu_set {k : C6} (h : clusterB k = true) {i : Nat} (hi : i < k.txs.length) {s : S5} (hs : s ∈ (atT k.txs i).sets) : 0 ≤ s.region ∧ s.region < (k.places.length : Int) := by
  have h1 := (clu_up h).2.1 i hi
  have h2 := (tx.txB_se h1).1 s hs
  simp only [clusterB, txsB, Bool.and_eq_true] at h
  have h3 := List.all_eq_true.1 h.2 i (List.mem_range.2 hi)
  simp only [txAtB, setsB, Bool.and_eq_true] at h3
  obtain ⟨j, hj, rfl⟩ := List.getElem_of_mem hs
  have h4 := List.all_eq_true.1 h3.2 j (List.mem_range.2 hj)
  simp only [tx.atSe, List.getElem?_eq_getElem hj, Option.getD_some, decide_eq_true_eq] at h4
  simp only [setOkB, Bool.and_eq_true, inB_iff] at h2
  exact ⟨h2.1.1.1.1, h4⟩
set_option maxRecDepth 100000 in
set_option maxHeartbeats 4000000 in
theorem l11Down_any (w : World) (a1 : Option Addr) (c1 : Nat) (a2 : Option Addr) (c2 : Nat) (a3 : Option Addr) (c3 : Nat) (k : C6) (r : Nat) (hk : clusterB k = true) (hr : r < k.places.length) (h : KCl.Rd w a1 c1 a2 c2 a3 c3 k) :
    Calls Tryz.prog 32 #[.agg #[.int .i64 k.config, .int .i64 k.clock, .slice a1 k.places.length c1, .slice a2 k.machines.length c2, .slice a3 k.txs.length c3, .bool k.lost], .int .i64 (r : Int)] w fun e w' => e = .returned (.bool (downB k (atP k.places r))) ∧ Below w.heap.size w w' := by
  obtain ⟨U, hU⟩ : ∃ Y, Y = w.alloc (.cells #[.int .i64 k.config, .int .i64 k.clock, .slice a1 k.places.length c1, .slice a2 k.machines.length c2, .slice a3 k.txs.length c3, .bool k.lost] 33) := ⟨_, rfl⟩
  have bU : Below w.heap.size w U := by rw [hU]; exact (Below.refl _ _).alloc (Nat.le_refl _) _
  have xU : Bx U w.heap.size [.int .i64 k.config, .int .i64 k.clock, .slice a1 k.places.length c1, .slice a2 k.machines.length c2, .slice a3 k.txs.length c3, .bool k.lost] := by rw [hU]; exact Bx.made w [.int .i64 k.config, .int .i64 k.clock, .slice a1 k.places.length c1, .slice a2 k.machines.length c2, .slice a3 k.txs.length c3, .bool k.lost] _
  have HR : Hid (KCl.Rd U a1 c1 a2 c2 a3 c3 k) := h.later bU
  have FA : Hid (Bx U w.heap.size [.int .i64 k.config, .int .i64 k.clock, .slice a1 k.places.length c1, .slice a2 k.machines.length c2, .slice a3 k.txs.length c3, .bool k.lost]) := xU
  have BW : Hid (Below w.heap.size w U) := bU
  have HZ : Hid (∀ j, j < (atP k.places r).length → 0 ≤ atN (atP k.places r) j ∧ atN (atP k.places r) j < (k.machines.length : Int)) := fun j hj => clu_z hk hr hj
  have hls : (atP k.places r).length ≤ 3 := ((CSm.of hk).ps _ (List.mem_of_getElem? (atP_of hr))).2
  obtain ⟨_, hsp⟩ := HR.out.p
  rcases hsp with hsp | ⟨b, off, rfl, hb, hpl⟩
  · omega
  obtain ⟨a', cap', hc, hsl, hcp⟩ := hpl r _ (atP_of hr)
  have HSL : Hid (SlN U U.heap.size a' (atP k.places r).length (atP k.places r)) := hsl
  have p2 := xU.1 2 _ rfl
  have jr : (r : Int) < (k.places.length : Int) := by omega
  have hc' := hc
  rw [hU] at p2 hc'
  clear bU xU hc hsl hpl h
  generalize hzs : atP k.places r = zs at *
  go_enter Tryz.func32, Tryz.ntmps32
  go_wp2
  rw [← hU]
  clear p2 hc' hU jr hb
  go_loopw [6] (fun v6 wr => ∃ j : Nat, j ≤ zs.length ∧ v6 = .int .i64 j ∧ Below U.heap.size U wr ∧ ∀ t, t < j → alB k (atN zs t) = true) (fun v6 _ => zs.length - (intOf v6).toNat)
  case atStart => exact ⟨0, Nat.zero_le _, rfl, Below.refl _ _, fun t ht => absurd ht (by omega)⟩
  case round =>
    obtain ⟨j, hj, rfl, hbl, hlo⟩ := hrel
    have KD : Hid (Below U.heap.size U wr ∧ ∀ t, t < j → alB k (atN zs t) = true) := ⟨hbl, hlo⟩
    clear hbl hlo
    by_cases hlj : j < zs.length
    · obtain ⟨_, hsn⟩ := HSL.out
      rcases hsn with hsn | ⟨b', off', rfl, hb', h2⟩
      · omega
      have hz := HZ.out j hlj
      obtain ⟨i, hi⟩ : ∃ i : Nat, atN zs j = (i : Int) := ⟨(atN zs j).toNat, by omega⟩
      have hck := h2 j _ (atN_of hlj)
      have him : i < k.machines.length := by omega
      rw [hi] at hck
      have xz : ∀ dd os, (grow (redrawn wr dd) os).cell? ⟨b', off' + j, none⟩ = some (.int .i64 (i : Int)) := fun dd os => ((bstep KD.out.1 (below_regrown wr dd os)).cell (p := ⟨b', off' + j, none⟩) hb').trans hck
      rcases HR.out.m with hs | ⟨mb, mo, rfl, hmb, hmrd⟩
      · rw [hs] at him; simp at him
      obtain ⟨⟨m0, m1, m2, m3, m4, m5⟩, hmel, -⟩ := hmrd i _ (atM_of him)
      have ga : U.cell? ⟨mb, mo + i * 4, none⟩ = some (.bool (atM k.machines i).alive) := hmel 0 _ rfl
      have x0 : ∀ dd os, (grow (redrawn wr dd) os).cell? ⟨mb, mo + i * 4, none⟩ = some (.bool (atM k.machines i).alive) := fun dd os => ((bstep KD.out.1 (below_regrown wr dd os)).cell (p := ⟨mb, mo + i * 4, none⟩) hmb).trans ga
      have hbx := FA.out.1 3 _ rfl
      have x3 : ∀ dd os, (grow (redrawn wr dd) os).cell? ⟨w.heap.size, 3, none⟩ = some (.slice (some ⟨mb, mo, none⟩) k.machines.length c2) := fun dd os => ((bstep KD.out.1 (below_regrown wr dd os)).cell (p := ⟨w.heap.size, 3, none⟩) FA.out.2.2).trans hbx
      have jz : (j : Int) < (zs.length : Int) := by omega
      have im : (i : Int) < (k.machines.length : Int) := by omega
      have HA : Hid (alB k (atN zs j) = (atM k.machines i).alive) := by unfold Hid alB; rw [hi]; rfl
      clear hck h2 hz hi hmrd hmel ga hbx hb' hmb
      go_wp2_with fail
      refine wp_region_quiet_below (by kernel_rfl) (by kernel_rfl) ?_
      repeat (go_big_quiet_step (fail))
      refine wpQuiet_nil ?_
      intro _ hw'
      obtain ⟨⟨dq, osq⟩, hw''⟩ := hw'
      subst hw''
      have bq := below_regrown wr dq osq
      have K3 : Hid (Below U.heap.size U (grow (redrawn wr dq) osq)) := bstep KD.out.1 bq
      clear bq xz x0 x3
      generalize grow (redrawn wr dq) osq = w3 at *
      cases hal : (atM k.machines i).alive with
      | false =>
        have hb0 : Hid (downB k zs = true) := down_yes hlj (by rw [HA.out]; exact hal)
        go_wp2
        go_ret
        exact ⟨by rw [hb0.out]; rfl, bstep BW.out K3.out⟩
      | true =>
        have hon : Hid (∀ t, t < j + 1 → alB k (atN zs t) = true) := fun t ht => by
          by_cases e : t = j
          · rw [e, HA.out]; exact hal
          · exact KD.out.2 t (by omega)
        go_wp2
        exact ⟨⟨j + 1, by omega, by simp, K3.out, hon.out⟩, by simp [intOf]; omega⟩
    · obtain rfl : j = zs.length := by omega
      have hd : decide ((zs.length : Int) < (zs.length : Int)) = false := by simp
      have hb0 : Hid (downB k zs = false) := down_no KD.out.2
      go_wp2
      go_ret
      exact ⟨by rw [hb0.out]; rfl, bstep BW.out KD.out.1⟩
end Go.Proofs.YtphpcgmnljhimaaGreat