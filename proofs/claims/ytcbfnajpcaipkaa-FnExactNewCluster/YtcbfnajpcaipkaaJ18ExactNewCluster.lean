/- NcD; Until: joined. -/
import Derived.Test.YtcbfnajpcaipkaaRows
import Derived.Test.YtcbfnajpcaipkaaJ3ExactNewCluster
import Derived.Test.YtcbfnajpcaipkaaSpreadSJ
import Derived.Test.YtcbfnajpcaipkaaJ5ExactNewCluster
import Derived.Test.YtcbfnajpcaipkaaJ10ExactNewCluster
import Derived.Test.YtcbfnajpcaipkaaJ17ExactNewCluster
import Derived.Test.YtcbfnajpcaipkaaJ11ExactNewCluster
import Derived.WalkKit
import Derived.WalkSpells
import Derived.WalkLawsBesides
import Derived.Below
import Derived.Lib.QuietBelow
import Derived.BigQuiet
import Derived.Deep.CutRange
import Derived.LaidEql
import Derived.RowKitTokens
import Derived.Deep.Upon
import Derived.Deep.RegionWith
import Derived.OrdersHeld
import Derived.Deep.RegionHeld
namespace Go.Proofs.Ytcbfnajpcaipkaa
open Go.RowKit
open Go.Sort (grow)
def ncKs (zss : List (List Int)) (j i : Nat) : List K2 := ((List.range i).filter fun r => has3 (atP zss r) (j : Int)).map fun r : Nat => ⟨(r : Int), zeros⟩
theorem ncKs_yes {zss : List (List Int)} {j i : Nat} (h : has3 (atP zss i) (j : Int) = true) : ncKs zss j (i + 1) = ncKs zss j i ++ [⟨(i : Int), zeros⟩] := by
  simp [ncKs, List.range_succ, List.filter_append, h]
theorem ncKs_no {zss : List (List Int)} {j i : Nat} (h : has3 (atP zss i) (j : Int) = false) : ncKs zss j (i + 1) = ncKs zss j i := by
  simp [ncKs, List.range_succ, List.filter_append, h]
theorem ncKs_len (zss : List (List Int)) (j i : Nat) : (ncKs zss j i).length ≤ i := by
  unfold ncKs
  rw [List.length_map]
  exact Nat.le_trans (List.length_filter_le _ _) (by simp)
def ncM (zss : List (List Int)) (n j : Nat) : M4 := ⟨true, ncKs zss j n, [], []⟩
def ncMs (zss : List (List Int)) (n k : Nat) : List M4 := (List.range k).map (ncM zss n)
theorem ncMs_succ (zss : List (List Int)) (n k : Nat) : ncMs zss n (k + 1) = ncMs zss n k ++ [ncM zss n k] := by simp [ncMs, List.range_succ]
def noC : C6 := ⟨0, 0, [], [], [], false⟩
def newC (R M : Int) : C6 := if spreadB R M = true then ⟨1, 0, spreadN R.toNat M.toNat, ncMs (spreadN R.toNat M.toNat) R.toNat M.toNat, [], false⟩ else noC
def CbAns (w : World) (k : C6) (ok : Bool) (e : Ending) (w' : World) : Prop := ∃ (a1 : Option Addr) (c1 : Nat) (a2 : Option Addr) (c2 : Nat) (a3 : Option Addr) (c3 : Nat) (P : Nat → Prop), e = .returned (.tuple #[.agg #[.int .i64 k.config, .int .i64 k.clock, .slice a1 k.places.length c1, .slice a2 k.machines.length c2, .slice a3 k.txs.length c3, .bool k.lost], .bool ok]) ∧ KCl.Ow w' w.heap.size a1 c1 a2 c2 a3 c3 k P ∧ Below w.heap.size w w'
theorem noC_ow (w : World) (B : Nat) : KCl.Ow w B none 0 none 0 none 0 noC (fun _ => False) :=
  ⟨⟨fun _ => False, fun _ => False, fun _ => False, ⟨⟨fun _ => 0, .inl ⟨rfl, rfl, rfl⟩, fun b e => (by cases e), fun i hi => (by simp [noC] at hi)⟩, fun q h => h.elim⟩, ⟨.inl rfl, fun q h => h.elim⟩, ⟨.inl rfl, fun q h => h.elim⟩, fun q h => h.elim, fun q h => h.elim, fun q h => h.elim, fun q h => h.elim, fun q h => h.elim, fun q h => h.elim⟩, fun q h => h.elim⟩
theorem spreadL_sm (n m : Nat) (zs : List Int) (h : zs ∈ spreadN n m) : zs.length ≤ 3 := by
  simp only [spreadN, List.mem_map] at h
  obtain ⟨j, _, rfl⟩ := h
  rw [spreadRow_len]
  omega
theorem KCl.Ow.low0 {w : World} {B B' : Nat} {a1 : Option Addr} {c1 : Nat} {a2 : Option Addr} {c2 : Nat} {a3 : Option Addr} {c3 : Nat} {k : C6} {P : Nat → Prop} (h : KCl.Ow w B a1 c1 a2 c2 a3 c3 k P) (hb : B' ≤ B) : KCl.Ow w B' a1 c1 a2 c2 a3 c3 k P := by
  obtain ⟨⟨P1, P2, P3, h1, h2, h3, h4⟩, h5⟩ := h
  exact ⟨⟨P1, P2, P3, h1.low hb, h2.low hb, h3.low hb, h4⟩, fun q hq => ⟨Nat.le_trans hb (h5 q hq).1, (h5 q hq).2⟩⟩
def gz0 : Nat → Nat := fun _ => 0
theorem MR.start0 (base p : Nat) (X : World) : MR base p X (.slice none 0 0) (.slice none 0 0) (.slice none 0 0) [] [] [] gz0 gz0 :=
  ⟨GrowG.nil _ _ _, GrowG.nil _ _ _, ⟨rfl, .inl ⟨rfl, rfl⟩⟩, fun q h => by rcases h with h | ⟨i, hi, _⟩; cases h; simp at hi, fun q h => by rcases h with h | ⟨i, hi, _⟩; cases h; simp at hi, fun q h => by rcases h with h | ⟨i, hi, _⟩; cases h; simp at hi, fun q h => by rcases h with h | ⟨i, hi, _⟩; cases h; simp at hi, fun q h => by rcases h with h | ⟨i, hi, _⟩; cases h; simp at hi, fun h => by cases h⟩
theorem MR.own0 {base p : Nat} {X : World} {u : MV} {m : M4} {gk gr : Nat → Nat} (h : MR base p X (.slice u.ac m.copies.length u.cc) (.slice u.al m.log.length u.cl) (.slice u.ad m.cleared.length u.cd) m.copies m.log m.cleared gk gr) : ∃ P, KMk.Ow X base u m P ∧ ∀ q, P q → q ≠ p := by
  refine ⟨_, KM.of (h.om (v := u)) (fun q hq => ?_), fun q hq => ?_⟩
  · rcases hq with hq | hq | hq
    · exact (h.gK.blocks hq).2
    · exact (h.gR.blocks hq).2
    · exact (World.ownsRow.lt h.gD q hq).2
  · rcases hq with hq | hq | hq
    · exact h.kp q hq
    · exact h.rp q hq
    · exact fun e => h.dp (by rw [← e]; exact hq)
theorem at_zeros {w : World} {q : Nat} {t : TypeId} {r : Int} (h : w.heap[q]? = some (.cells (zeros.flatMap C2.cells).toArray t (0, 0))) : AtK w q ⟨r, zeros⟩ := ⟨row_cellsAt h, row_room h⟩
structure NcI (w : World) (S b n cap : Nat) (zss : List (List Int)) (g : Nat → Nat) (X : World) (vm : Value) (ms : List (MV × M4)) (gm : Nat → Nat → Prop) : Prop where
  res : Bx X w.heap.size [.int .i64 0, .int .i64 0, .slice none 0 0, .slice none 0 0, .slice none 0 0, .bool false]
  box : Bx X S [.int .i64 1, .int .i64 0, .slice (some ⟨b, 0, none⟩) n cap, vm, .slice none 0 0, .bool false]
  pl : OwnP X (w.heap.size + 1) b n zss g
  lo : w.heap.size + 1 ≤ b
  bS : b < S
  gS : ∀ i, i < n → g i < S
  rows : KMk.Grow 61 X (S + 1) vm ms gm
  bel : Below w.heap.size w X
theorem NcI.later {w : World} {S b n cap : Nat} {zss : List (List Int)} {g : Nat → Nat} {X Y : World} {vm : Value} {ms : List (MV × M4)} {gm : Nat → Nat → Prop} (h : NcI w S b n cap zss g X vm ms gm) (hb : Below X.heap.size X Y) : NcI w S b n cap zss g Y vm ms gm :=
  ⟨h.res.later hb, h.box.later hb, h.pl.later hb (Nat.lt_trans h.bS h.box.2.2), h.lo, h.bS, h.gS, h.rows.later hb, bstep h.bel hb⟩
theorem infoMach : (Try.prog.info? 61).map (fun i => (i.zero, i.size, i.bytes)) = some (some (.agg #[.bool false, .slice none 0 0, .slice none 0 0, .slice none 0 0]), 4, 80) := by kernel_rfl
theorem NcI.push {w : World} {S b n cap : Nat} {zss : List (List Int)} {g : Nat → Nat} {X W : World} {vm : Value} {ms : List (MV × M4)} {gm : Nat → Nat → Prop} (h : NcI w S b n cap zss g X vm ms gm) (hb : Below X.heap.size X W) (x : MV) (d : M4) (Q : Nat → Prop) (e : Nat) (hm : ms.length ≤ 1000) (ty : TypeId)
    (he : ∀ j u, (KMk.cells x d)[j]? = some u → W.cell? ⟨e, j, none⟩ = some u) (ho : KMk.Ow W X.heap.size x d Q) :
    ∃ a' c' Y, (Builtin.append_ #[23, 23] ty #[vm, .slice (some ⟨e, 0, none⟩) 1 1]).run Try.prog W = .ok (.slice a' (ms.length + 1) c') Y ∧ Bx Y S [.int .i64 1, .int .i64 0, .slice (some ⟨b, 0, none⟩) n cap, vm, .slice none 0 0, .bool false] ∧ NcI w S b n cap zss g (Y.setCell ⟨S, 3, none⟩ (.slice a' (ms.length + 1) c')) (.slice a' (ms.length + 1) c') (ms ++ [(x, d)]) (fun i => if i = ms.length then Q else gm i) := by
  have hW := h.later hb
  have hX : S < X.heap.size := h.box.2.2
  have hwS : w.heap.size + 1 ≤ S := by have := h.lo; have := h.bS; omega
  obtain ⟨i0, hi0, hz0, hz1, hz2⟩ := partsOf infoMach
  have old : ∀ y, Kd.blk vm ms gm y → y < X.heap.size := fun y hy => (h.rows.blocks hy).2
  obtain ⟨v', Y, hr, hg, hgr, hl⟩ := Kd.Grow.push (K := KMk) (e := e) Try.underlying23 hi0 hz0 hz1 hz2 rfl (by omega) (by decide) hW.rows x d Q (by omega) ty he (by intro u hu; simp only [KMk, List.mem_cons, List.not_mem_nil, or_false] at hu; rcases hu with rfl | rfl | rfl | rfl <;> rfl) (KMk.low ho (by omega)) (fun y hy hb' => by have := (KMk.of ho hy).1; have := old y hb'; omega) (by have := hb.size; omega)
  have hbs := hb.size
  have far : ∀ q, q ≤ S → Y.heap[q]? = W.heap[q]? := fun q hq => hgr.block q (by omega) (fun e' => by have := (h.rows.blocks (.inl e'.symm)).1; omega)
  obtain ⟨a', c', hv'⟩ := hg.form
  rw [List.length_append] at hv'
  simp only [List.length_cons, List.length_nil, Nat.zero_add] at hv'
  subst hv'
  have o' : Bx Y S [.int .i64 1, .int .i64 0, .slice (some ⟨b, 0, none⟩) n cap, vm, .slice none 0 0, .bool false] := hW.box.of_block (far _ (Nat.le_refl _)) hgr.size
  have blk : ∀ q, q ≠ S → (Y.setCell ⟨S, 3, none⟩ (.slice a' (ms.length + 1) c')).heap[q]? = Y.heap[q]? := fun q hq => Below.heap_setCell _ _ _ _ hq
  have sz : (Y.setCell ⟨S, 3, none⟩ (.slice a' (ms.length + 1) c')).heap.size = Y.heap.size := by simp [World.setCell]
  refine ⟨a', c', Y, hr, o', ⟨(hW.res.of_block (far _ (by omega)) hgr.size).far (by omega) _, o'.set (i := 3) (by simp) _, hW.pl.of_blocks (by rw [sz]; exact hgr.size) ((blk b (by have := h.bS; omega)).trans (far b (Nat.le_of_lt h.bS))) (fun i hi => (blk _ (by have := h.gS i hi; omega)).trans (far _ (Nat.le_of_lt (h.gS i hi)))), h.lo, h.bS, h.gS, hg.keep (by rw [sz]; exact Nat.le_refl _) (fun q hq => blk q (by have := (hg.blocks hq).1; omega)), ?_⟩⟩
  exact ((hW.bel.grown hgr hW.bel.size (fun q hq => by have := (h.rows.blocks (.inl hq)).1; omega))).setCell (p := ⟨S, 3, none⟩) (by show w.heap.size ≤ S; omega) _
theorem NcI.ow {w : World} {S b n cap : Nat} {zss : List (List Int)} {g : Nat → Nat} {X : World} {a2 : Option Addr} {k2 c2 : Nat} {ms : List (MV × M4)} {gm : Nat → Nat → Prop} {Ms : List M4} (h : NcI w S b n cap zss g X (.slice a2 k2 c2) ms gm) (e : ms.map (·.2) = Ms) :
    ∃ P, (∀ q, P q → w.heap.size + 1 ≤ q ∧ q ≠ S) ∧ KCl.Ow X (w.heap.size + 1) (some ⟨b, 0, none⟩) cap a2 c2 none 0 ⟨1, 0, zss, Ms, [], false⟩ P := by
  have hwS : w.heap.size + 1 ≤ S := by have := h.lo; have := h.bS; omega
  have ho2 := (h.rows.own e).low (show w.heap.size + 1 ≤ S + 1 by omega)
  have hXS := h.box.2.2
  have hp := h.pl
  have hn := hp.len
  have p1 : ∀ q, (q = b ∨ ∃ i, i < n ∧ g i = q) → w.heap.size + 1 ≤ q ∧ q < S := fun q hq => by
    rcases hq with rfl | ⟨i, hi, rfl⟩
    · exact ⟨h.lo, h.bS⟩
    · exact ⟨hp.low i hi, h.gS i hi⟩
  have p2 : ∀ q, Kd.blk (.slice a2 k2 c2) ms gm q → S < q ∧ q < X.heap.size := fun q hq => h.rows.blocks hq
  refine ⟨fun q => (q = b ∨ ∃ i, i < n ∧ g i = q) ∨ Kd.blk (.slice a2 k2 c2) ms gm q, fun q hq => ?_, ⟨fun q => q = b ∨ ∃ i, i < n ∧ g i = q, _, fun _ => False, ⟨⟨g, .inr ⟨b, rfl, h.lo, Nat.lt_trans h.bS hXS, by rw [hn]; exact hp⟩, fun x hx => .inl (by cases hx; rfl), fun i hi => .inr ⟨i, by rw [← hn]; exact hi, rfl⟩⟩, fun q hq => ⟨(p1 q hq).1, Nat.lt_trans (p1 q hq).2 hXS⟩⟩, ho2, ⟨.inl rfl, fun q hq => hq.elim⟩, fun q hq => .inl hq, fun q hq => .inr hq, fun q hq => hq.elim, fun q h1 h2 => ?_, fun q _ h2 => h2, fun q _ h2 => h2⟩, fun q hq => ?_⟩
  · rcases hq with hq | hq
    · have := p1 q hq; omega
    · have := p2 q hq; omega
  · have := p1 q h1; have := p2 q h2; omega
  · rcases hq with hq | hq
    · have := p1 q hq; omega
    · have := p2 q hq; omega
structure McI (B : Nat) (W : World) (ks : List K2) (vk : Value) (gk : Nat → Nat) (X : World) : Prop where
  box : Bx X B [.bool true, vk, .slice none 0 0, .slice none 0 0]
  rows : MR (B + 1) B X vk (.slice none 0 0) (.slice none 0 0) ks [] [] gk gz0
  bel : Below B W X
end Go.Proofs.Ytcbfnajpcaipkaa
namespace Go.Proofs.Ytcbfnajpcaipkaa
def wpUntil (P : Program) (md : Region.Mode) (ops : Array Oper) (Q : Exit → Act → World → Prop) (S : World → Prop) (s : Nat) : Nat → Array Bool → Act → World → Prop
  | 0, L, a, w => Region.ready md ops L = [] ∧ Q .normal a w
  | f + 1, L, a, w => (Region.ready md ops L = [] → Q .normal a w) ∧ ∀ i ∈ Region.ready md ops L, wpOp P ops Q i (fun a' w' => (i ≠ s → S w') ∧ wpUntil P md ops Q S s f (L.setIfInBounds i true) a' w') a w
theorem wpAny_of_until {P : Program} {ops : Array Oper} {Q : Exit → Act → World → Prop} {md : Region.Mode} {S : World → Prop} {s : Nat} : ∀ (f : Nat) (L : Array Bool) (a : Act) (w : World), wpUntil P md ops Q S s f L a w → wpAny P md ops Q f L a w := by
  intro f
  induction f with
  | zero => exact fun _ _ _ h => h
  | succ f ih => exact fun L a w h => ⟨h.1, fun i hi => wpOp_mono (fun a' w' k => ih _ a' w' k.2) (h.2 i hi)⟩
def waitsB (md : Region.Mode) (ops : Array Oper) (s i : Nat) : Bool := match ops[s]? with
  | some o => o.after.any fun e => Region.binds md e && e.on == i
  | none => false
theorem not_ready {md : Region.Mode} {ops : Array Oper} {i j : Nat} {oj : Oper} {L : Array Bool} (hr : i ∈ Region.ready md ops L) (hall : ∀ e ∈ oj.after, Region.binds md e = true → L.getD e.on false = true) (hj : ops[j]? = some oj) (hw : waitsB md ops j i = true) : False := by
  simp only [waitsB, hj, Array.any_eq_true, Bool.and_eq_true, beq_iff_eq] at hw
  obtain ⟨k, hk, hb, he⟩ := hw
  have h1 := hall _ (Array.getElem_mem hk) hb
  have h0 := (mem_ready.1 hr).1
  rw [he] at h1
  rcases Nat.lt_or_ge i L.size with h | h
  · simp [h] at h0 h1; rw [h0] at h1; cases h1
  · simp [Array.getElem?_eq_none h] at h1
theorem wpUntil_first {P : Program} {ops : Array Oper} {Q : Exit → Act → World → Prop} {md : Region.Mode} {S : World → Prop} {s : Nat} {i : Nat} {o : Oper} {v : Value} (ho : ops[i]? = some o) (hw : waitsB md ops s i = true) (hsel : ∀ (j : Nat) (o : Oper) cs b, ops[j]? = some o → o.op ≠ .select cs b) (hQ : ∀ c a w, Q (.panic c) (a.put o.dst v) w → Q (.panic c) a w) :
    ∀ (f : Nat) (L : Array Bool) (a : Act) (w : World),
      (∀ j oj, ops[j]? = some oj → j ≠ i → L.getD j true = false → (∀ e ∈ oj.after, Region.binds md e = true → e.on ≠ i) → o.apart ops oj = true) →
      i ∈ Region.ready md ops L → YieldsIf P ops S o v a → S w → wpUntil P md ops Q S s f (L.setIfInBounds i true) (a.put o.dst v) w → wpUntil P md ops Q S s (f + 1) L a w := by
  intro f
  induction f with
  | zero =>
    intro L a w _ hr hy hS H
    refine ⟨fun h => absurd hr (by rw [h]; simp), fun j hj => ?_⟩
    by_cases e : j = i
    · rw [e]; exact hy.wpOp ho hS ⟨fun _ => hS, H⟩
    · have := ready_mono hj e
      rw [H.1] at this
      cases this
  | succ f ih =>
    intro L a w hfree hr hy hS H
    refine ⟨fun h => absurd hr (by rw [h]; simp), fun j hj => ?_⟩
    by_cases e : j = i
    · rw [e]; exact hy.wpOp ho hS ⟨fun _ => hS, H⟩
    · obtain ⟨hun, oj, hoj, hall⟩ := mem_ready.1 hj
      have hjs : j ≠ s := fun e' => by rw [e'] at hoj; exact not_ready hr hall hoj hw
      have hno : ∀ x ∈ oj.after, Region.binds md x = true → x.on ≠ i := fun x hx hb he => not_ready hr hall hoj (by
        simp only [waitsB, hoj, Array.any_eq_true, Bool.and_eq_true, beq_iff_eq]
        obtain ⟨k, hk, rfl⟩ := Array.getElem_of_mem hx
        exact ⟨k, hk, hb, he⟩)
      have step := wpOp_putIf hoj (hfree j oj hoj e hun hno) (fun cs b => hsel i o cs b ho) (fun cs b => hsel j oj cs b hoj) hQ hy (H.2 j (ready_mono hj e))
      refine wpOp_mono (fun a' w' k => ⟨k.2.1, ih _ a' w' (fun x ox hx hxi hxu hxn => hfree x ox hx hxi ?_ hxn) (ready_mono hr (Ne.symm e)) k.1 (k.2.1 hjs) ?_⟩) step
      · by_cases h : j = x
        · rw [← h]; exact hun
        · rw [getD_set_ne true h] at hxu; exact hxu
      · rw [Array.setIfInBounds_comm _ _ e]; exact k.2.2
theorem wpUntil_take {P : Program} {ops : Array Oper} {Q : Exit → Act → World → Prop} {md : Region.Mode} {S : World → Prop} {s : Nat} {i : Nat} {o : Oper} {v : Value} {f : Nat} {L : Array Bool} {a : Act} {w : World} (ho : ops[i]? = some o) (hc : (waitsB md ops s i && Region.noSelect ops && Region.free md ops L i && (Region.ready md ops L).contains i) = true)
    (hQ : ∀ c a w, Q (.panic c) (a.put o.dst v) w → Q (.panic c) a w) (hy : YieldsIf P ops S o v a) (hS : S w) (h : wpUntil P md ops Q S s f (L.setIfInBounds i true) (a.put o.dst v) w) : wpUntil P md ops Q S s (f + 1) L a w := by
  simp only [Bool.and_eq_true] at hc
  obtain ⟨⟨⟨h1, h2⟩, h3⟩, h4⟩ := hc
  exact wpUntil_first ho h1 (Region.noSelect_spec h2) hQ f L a w (Region.free_spec ho h3) (by simpa using h4) hy hS h
def AllU (P : Program) (md : Region.Mode) (ops : Array Oper) (Q : Exit → Act → World → Prop) (S : World → Prop) (s f : Nat) (L : Array Bool) (a : Act) (w : World) (rs : List Nat) : Prop :=
  ∀ i ∈ rs, wpOp P ops Q i (fun a' w' => (i ≠ s → S w') ∧ wpUntil P md ops Q S s f (L.setIfInBounds i true) a' w') a w
theorem AllU.nil {P : Program} {ops : Array Oper} {Q : Exit → Act → World → Prop} {md : Region.Mode} {S : World → Prop} {s : Nat} {f : Nat} {L : Array Bool} {a : Act} {w : World} : AllU P md ops Q S s f L a w [] := fun _ h => by cases h
theorem AllU.cons {P : Program} {ops : Array Oper} {Q : Exit → Act → World → Prop} {md : Region.Mode} {S : World → Prop} {s : Nat} {f : Nat} {L : Array Bool} {a : Act} {w : World} {i : Nat} {o : Oper} {rs : List Nat} (ho : ops[i]? = some o)
    (h : ∀ K' : Act → World → Prop, Shut (∀ a w, (i ≠ s → S w) → wpUntil P md ops Q S s f (L.setIfInBounds i true) a w → K' a w) → if Region.wanted o (yielded ops a.tmps) = true then Oper.wp P o a w K' Q else K' (a.put o.dst undef) w)
    (hs : AllU P md ops Q S s f L a w rs) : AllU P md ops Q S s f L a w (i :: rs) := fun j hj => by
  rcases List.mem_cons.1 hj with rfl | hj
  · exact wpOp_step ho (fun K' hK => h K' (fun a w hS hW => hK a w ⟨hS, hW⟩))
  · exact hs j hj
theorem wpUntil_ready {P : Program} {ops : Array Oper} {Q : Exit → Act → World → Prop} {md : Region.Mode} {S : World → Prop} {s : Nat} {rs : List Nat} {f : Nat} {L : Array Bool} {a : Act} {w : World} (hr : Region.ready md ops L = rs) (hne : rs ≠ []) (h : AllU P md ops Q S s f L a w rs) : wpUntil P md ops Q S s (f + 1) L a w :=
  ⟨fun h0 => absurd (hr.symm.trans h0) hne, fun i hi => h i (by rw [← hr]; exact hi)⟩
theorem wpUntil_done {P : Program} {ops : Array Oper} {Q : Exit → Act → World → Prop} {md : Region.Mode} {S : World → Prop} {s : Nat} {L : Array Bool} {a : Act} {w : World} (hr : Region.ready md ops L = []) (h : Q .normal a w) (f : Nat) : wpUntil P md ops Q S s f L a w := by
  cases f with
  | zero => exact ⟨hr, h⟩
  | succ f => exact ⟨fun _ => h, fun i hi => by rw [hr] at hi; cases hi⟩
theorem wp_region_until {P : Program} {ops : Array Oper} {Q : Exit → Act → World → Prop} {id : Nat} {a : Act} {w : World} (s : Nat) (S : World → Prop) (hm : P.follows .mixedOrders = true) (h : wpUntil P .any ops Q S s ops.size (Array.replicate ops.size false) a w.drew) : (Code.region id ops true).wp P Q a w :=
  wp_region_any hm (wpAny_of_until _ _ _ _ h)
end Go.Proofs.Ytcbfnajpcaipkaa