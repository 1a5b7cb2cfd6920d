/- A map from cells to places, of the call's own: what is looked up in it, put into it, struck out of it. -/
import Derived.Test.YtcanaklameddbaaRows
import Derived.Test.YtcanaklameddbaaTxR
import Derived.Maps.OwnSet
import Derived.Maps.Views
import Derived.DeepKeys4
import Derived.Below
namespace Go.Proofs.Ytcanaklameddbaa
open Go.RowKit Go.Maps
def cKey (r s : Int) : Value := .agg #[.int .i64 r, .int .i64 s]
theorem keyLaw : Keyed Try.prog 68 := Keyed.of_law (deep_law_laid (m := 5) (by kernel_rfl) (by omega) (of_decide_eq_true (by kernel_rfl)) (by kernel_rfl) (by kernel_rfl))
theorem lit_ok {i : Nat} (hi : i ≤ 1000000) : (Lit.int .i64 (i : Int)).wf = true := by
  have h1 : IntKind.i64.min = -9223372036854775808 := rfl
  have h2 : IntKind.i64.max = 9223372036854775807 := rfl
  simp [Lit.wf, h1, h2]; omega
theorem six {r : Int} (h : inB 0 5 r = true) : r = 0 ∨ r = 1 ∨ r = 2 ∨ r = 3 ∨ r = 4 ∨ r = 5 := by
  rw [inB_iff] at h; omega
set_option maxHeartbeats 2000000 in
theorem cKey_ok {r s : Int} (h1 : inB 0 5 r = true) (h2 : inB 0 5 s = true) : ∃ l, keyOf Try.prog 68 (cKey r s) = some l := by
  have : (keyOf Try.prog 68 (cKey r s)).isSome = true := by
    rcases six h1 with rfl | rfl | rfl | rfl | rfl | rfl <;> rcases six h2 with rfl | rfl | rfl | rfl | rfl | rfl <;> kernel_rfl
  exact Option.isSome_iff_exists.1 this
theorem cKey_inj {r s q t : Int} {l : Lit} (h1 : keyOf Try.prog 68 (cKey r s) = some l) (h2 : keyOf Try.prog 68 (cKey q t) = some l) : r = q ∧ s = t := by
  have := keyLaw.inj h1 h2
  simp [cKey] at this
  exact this
/-- Block b of W is a map of at most n cells; f tells each cell's place. -/
def MapF (W : World) (b n : Nat) (f : Int → Int → Option Nat) : Prop :=
  ∃ D : DataW Unit, W.ownsMap Try.prog 68 (plainElem Try.prog 3) b n D ∧ ∀ r s l, keyOf Try.prog 68 (cKey r s) = some l → (f r s = none → has D l = false) ∧ (∀ i, f r s = some i → has D l = true ∧ ∀ z, D.atKey l z = .lit (.int .i64 (i : Int)))
theorem MapF.lt {W : World} {b n : Nat} {f : Int → Int → Option Nat} (h : MapF W b n f) : b < W.heap.size := by obtain ⟨D, h, _⟩ := h; exact h.lt
theorem MapF.mono {W : World} {b n n' : Nat} {f : Int → Int → Option Nat} (h : MapF W b n f) (hn : n ≤ n') : MapF W b n' f := by obtain ⟨D, h, h'⟩ := h; exact ⟨D, h.mono hn, h'⟩
theorem MapF.of_block {W W' : World} {b n : Nat} {f : Int → Int → Option Nat} (h : MapF W b n f) (e : W'.heap[b]? = W.heap[b]?) : MapF W' b n f := by
  obtain ⟨D, ⟨es, clock, hb, r⟩, h'⟩ := h
  exact ⟨D, ⟨es, clock, e.trans hb, r⟩, h'⟩
theorem MapF.later {W W' : World} {b n : Nat} {f : Int → Int → Option Nat} (h : MapF W b n f) (hb : Below W.heap.size W W') : MapF W' b n f := h.of_block (hb.block _ h.lt)
theorem MapF.made (W : World) : MapF (W.alloc (.map #[] 0)) W.heap.size 0 (fun _ _ => none) :=
  ⟨.map [], World.ownsMap_made W _ _ _, fun r s l _ => ⟨fun _ => rfl, fun i h => by cases h⟩⟩
theorem zero_int (W : World) : (zeroValue 3).run Try.prog W = .ok (.int .i64 0) W := by kernel_rfl
theorem MapF.look {W : World} {b n : Nat} {f : Int → Int → Option Nat} (h : MapF W b n f) {r s : Int} (h1 : inB 0 5 r = true) (h2 : inB 0 5 s = true) :
    (Instr.lookup 100 (.map (some b)) (cKey r s) true).run Try.prog W = .ok (.tuple #[.int .i64 (((f r s).getD 0 : Nat) : Int), .bool (f r s).isSome]) W := by
  obtain ⟨D, hD, hf⟩ := h
  obtain ⟨l, hl⟩ := cKey_ok h1 h2
  obtain ⟨v, ps, hrun, hv⟩ := hD.look_ok keyLaw Try.underlying100 (zero_int W) (plainElem_int Try.underlying3 (by decide)) hl
  obtain ⟨g1, g2⟩ := hf r s l hl
  cases e : f r s with
  | none =>
    rw [g1 e] at hrun
    rw [atKey_of_not_has (g1 e)] at hv
    obtain ⟨a, rfl, ha, _⟩ := plainElem_int_inv Try.underlying3 hv
    simp at ha
    rw [hrun, ← ha.1]
    rfl
  | some i =>
    rw [(g2 i e).1] at hrun
    rw [(g2 i e).2] at hv
    obtain ⟨a, rfl, ha, _⟩ := plainElem_int_inv Try.underlying3 hv
    simp at ha
    rw [hrun, ← ha.1]
    rfl
def putF (f : Int → Int → Option Nat) (r s : Int) (i : Nat) : Int → Int → Option Nat := fun q t => if q = r ∧ t = s then some i else f q t
theorem Turned.of_map {W W' : World} {b : Nat} (h : W.mapTurned W' b) : Turned b W W' := by
  have hg := h.grown
  exact ⟨hg.os, hg.tape, hg.output, hg.size, fun k hk hc => hg.block k hk (fun e => hc (Option.some.inj e))⟩
theorem MapF.store {W : World} {b n : Nat} {f : Int → Int → Option Nat} (h : MapF W b n f) (hn : n ≤ 1000000) {r s : Int} (h1 : inB 0 5 r = true) (h2 : inB 0 5 s = true) (i : Nat) (hi : i ≤ 1000000) :
    ∃ W', (Instr.mapUpdate 100 (.map (some b)) (cKey r s) (.int .i64 (i : Int))).run Try.prog W = .ok () W' ∧ MapF W' b (n + 1) (putF f r s i) ∧ Turned b W W' ∧ W'.heap.size = W.heap.size := by
  obtain ⟨D, hD, hf⟩ := h
  obtain ⟨l, hl⟩ := cKey_ok h1 h2
  have hwf : (Lit.int .i64 (i : Int)).wf = true := lit_ok hi
  obtain ⟨W', hrun, hD', ht⟩ := hD.store keyLaw Try.underlying100 (by unfold maxLen; omega) hl (plainElem_int Try.underlying3 hwf)
  refine ⟨W', hrun, ⟨_, hD', fun q t l' hl' => ?_⟩, Turned.of_map ht, ?_⟩
  · obtain ⟨g1, g2⟩ := hf q t l' hl'
    by_cases e : q = r ∧ t = s
    · obtain ⟨rfl, rfl⟩ := e
      rw [hl] at hl'
      obtain rfl := Option.some.inj hl'
      refine ⟨fun h => by simp [putF] at h, fun j hj => ?_⟩
      simp [putF] at hj
      subst hj
      exact ⟨has_put_same hD.isMap (keyLaw.key hl) _, fun z => atKey_put_same hD.isMap (keyLaw.key hl) _ z⟩
    · have hne : l' ≠ l := fun e' => e (by rw [e'] at hl'; exact cKey_inj hl' hl)
      have ep : putF f r s i q t = f q t := by unfold putF; rw [if_neg e]
      rw [ep]
      refine ⟨fun h => by rw [has_put_other hne]; exact g1 h, fun j hj => ?_⟩
      rw [has_put_other hne]
      exact ⟨(g2 j hj).1, fun z => by rw [atKey_put_other hne]; exact (g2 j hj).2 z⟩
  · obtain ⟨es, c, es', c', hb, rfl⟩ := ht
    simp [ChangeMaps.setBlock]
/-- A map of cells, whatever is in it. -/
def MapN (W : World) (b n : Nat) : Prop := ∃ D : DataW Unit, W.ownsMap Try.prog 68 (plainElem Try.prog 3) b n D
theorem MapF.any {W : World} {b n : Nat} {f : Int → Int → Option Nat} (h : MapF W b n f) : MapN W b n := by obtain ⟨D, h, _⟩ := h; exact ⟨D, h⟩
theorem MapN.lt {W : World} {b n : Nat} (h : MapN W b n) : b < W.heap.size := by obtain ⟨D, h⟩ := h; exact h.lt
theorem MapN.mono {W : World} {b n n' : Nat} (h : MapN W b n) (hn : n ≤ n') : MapN W b n' := by obtain ⟨D, h⟩ := h; exact ⟨D, h.mono hn⟩
theorem MapN.of_block {W W' : World} {b n : Nat} (h : MapN W b n) (e : W'.heap[b]? = W.heap[b]?) : MapN W' b n := by
  obtain ⟨D, es, clock, hb, r⟩ := h
  exact ⟨D, es, clock, e.trans hb, r⟩
theorem MapN.later {W W' : World} {b n : Nat} (h : MapN W b n) (hb : Below W.heap.size W W') : MapN W' b n := h.of_block (hb.block _ h.lt)
theorem MapN.store {W : World} {b n : Nat} (h : MapN W b n) (hn : n ≤ 1000000) {r s : Int} (h1 : inB 0 5 r = true) (h2 : inB 0 5 s = true) (i : Nat) (hi : i ≤ 1000000) :
    ∃ W', (Instr.mapUpdate 100 (.map (some b)) (cKey r s) (.int .i64 (i : Int))).run Try.prog W = .ok () W' ∧ MapN W' b (n + 1) ∧ Turned b W W' ∧ W'.heap.size = W.heap.size := by
  obtain ⟨D, hD⟩ := h
  obtain ⟨l, hl⟩ := cKey_ok h1 h2
  have hwf : (Lit.int .i64 (i : Int)).wf = true := lit_ok hi
  obtain ⟨W', hrun, hD', ht⟩ := hD.store keyLaw Try.underlying100 (by unfold maxLen; omega) hl (plainElem_int Try.underlying3 hwf)
  refine ⟨W', hrun, ⟨_, hD'⟩, Turned.of_map ht, ?_⟩
  obtain ⟨es, c, es', c', hb, rfl⟩ := ht
  simp [ChangeMaps.setBlock]
theorem MapN.drop {W : World} {b n : Nat} (h : MapN W b n) {r s : Int} (h1 : inB 0 5 r = true) (h2 : inB 0 5 s = true) (ty : TypeId) :
    ∃ W', (Builtin.delete_ #[100, 68] ty #[.map (some b), cKey r s]).run Try.prog W = .ok (.tuple #[]) W' ∧ MapN W' b n ∧ Turned b W W' ∧ W'.heap.size = W.heap.size := by
  obtain ⟨D, hD⟩ := h
  obtain ⟨l, hl⟩ := cKey_ok h1 h2
  obtain ⟨W', hrun, hD', ht⟩ := hD.drop keyLaw Try.underlying100 hl ty
  refine ⟨W', hrun, ⟨_, hD'⟩, Turned.of_map ht, ?_⟩
  obtain ⟨es, c, es', c', hb, rfl⟩ := ht
  simp [ChangeMaps.setBlock]
end Go.Proofs.Ytcanaklameddbaa
